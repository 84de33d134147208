
/- The program's Pair. -/
import Derived.Test.YtkbokffonnjjiaaTag5
namespace Go.Proofs.Ytkbokffonnjjiaa
open Go.RowKit Go.Qc
attribute [local go_sem] txt_size

theorem PairS.far {w : World} {a b : List UInt8} {W W' : World} {q : Nat} (h : PairS w a b W) (hg : W.grownBy W' (some q)) (hq : w.heap.size + 1 + 1 < q) : PairS w a b W' :=
  ⟨range_gb h.hra hg (by omega), range_gb h.hrb hg (by omega), h.hC.elim fun cs hc => ⟨cs, (hg.block _ hc.1.lt (fun e => by cases e; omega)).trans hc.1, hc.2⟩, h.hB.grown hg h.hB.size (by intro i e; cases e; omega)⟩
theorem rd_range {w : World} {g : Nat} {xs : List Value} (h : w.rangeAt g 0 xs) : Rd w (some ⟨g, 0, none⟩) xs := .inr ⟨_, rfl, range_add h⟩
end Go.Proofs.Ytkbokffonnjjiaa


/- The document's All of a row of ids; the program's Chain. -/
import Derived.Test.YtkbokffonnjjiaaIdL
import Derived.Test.YtkbokffonnjjiaaTag3
namespace Go.Proofs.Ytkbokffonnjjiaa
open Go.RowKit Go.Qc
attribute [local go_sem] txt_size txt_append

theorem range_add {w : World} {g : Nat} {xs : List Value} (h : w.rangeAt g 0 xs) : ∀ j u, xs[j]? = some u → w.cell? ((⟨g, 0, none⟩ : Addr).add j) = some u := fun j u hj => by
  rw [Addr.add_lit]
  exact h j u hj
theorem rd_one (w : World) (s : List UInt8) : Rd (w.alloc (.cells #[.string (txt s)] 9)) (some ⟨w.heap.size, 0, none⟩) ([s].map strV) := Rd.blk (Blk.new _ _ _) (by
  intro j u h
  cases j with
  | zero => exact h
  | succ j => simp at h)
end Go.Proofs.Ytkbokffonnjjiaa

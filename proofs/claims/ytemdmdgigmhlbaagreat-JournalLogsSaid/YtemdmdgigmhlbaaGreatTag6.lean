/- The document's All of a row of ids; the program's Chain. -/
import Derived.Test.YtemdmdgigmhlbaaGreatIdL
import Derived.Test.YtemdmdgigmhlbaaGreatIdA
namespace Go.Proofs.YtemdmdgigmhlbaaGreat
open Go.RowKit Go.Qc
attribute [local go_sem] txt_size txt_append

theorem range_add {w : World} {g : Nat} {xs : List Value} (h : w.rangeAt g 0 xs) : ∀ j u, xs[j]? = some u → w.cell? ((⟨g, 0, none⟩ : Addr).add j) = some u := fun j u hj => by
  rw [Addr.add_lit]
  exact h j u hj
end Go.Proofs.YtemdmdgigmhlbaaGreat
/- The document's Pair, and the program's. -/
namespace Go.Proofs.YtemdmdgigmhlbaaGreat
open Go.RowKit Go.Qc
attribute [local go_sem] txt_size

/-- An id stored into a block of its own, in a drawn region. -/
theorem wp_store_blk {P : Program} {w : World} {o : Oper} {a : Act} {K : Act → World → Prop} {Q : Exit → Act → World → Prop} (ty : TypeId) (x y : Operand) (ho : o.op = .store ty x y)
    (g : Nat) (old cs : Array Value) (t : TypeId) (hg : Blk w g t old) (hx : a.eval x = .pointer (some ⟨g, 0, none⟩)) (hy : a.eval y = .agg cs) (hi : (P.info? ty).map (·.size) = some cs.size) (hs : old.size = cs.size) (h1 : cs.all (·.oneCell') = true)
    (h : ∀ w', Blk w' g t cs → w.grownBy w' (some g) → K (a.put o.dst undef) w') : o.wp P a w K Q := by
  have hr : (Instr.storeAt ty (.pointer (some ⟨g, 0, none⟩)) (.agg cs)).run P w = .ok () (w.setRow g cs) := by
    simp only [Instr.storeAt, Instr.sureAddr, Sem.run_bind, Sem.run_pure, Result.andThen]
    exact run_storeVar_row _ g t ty old cs hg hi hs h1
  obtain ⟨hb, hgr⟩ := blk_over hg cs
  unfold Oper.wp
  simp [execOp, ho, hx, hy, hr]
  exact h _ hb hgr
/-- What stands through the region: two ids, room for a third, and all that was there. -/
structure PairS (w : World) (a b : List UInt8) (w' : World) : Prop where
  hra : w'.rangeAt w.heap.size 0 (a.map u8v)
  hrb : w'.rangeAt (w.heap.size + 1) 0 (b.map u8v)
  hC : ∃ cs : Array Value, Blk w' (w.heap.size + 1 + 1) 42 cs ∧ cs.size = 32
  hB : Below w.heap.size w w'
theorem PairS.below {w : World} {a b : List UInt8} {W W' : World} (h : PairS w a b W) (hb : Below W.heap.size W W') : PairS w a b W' := ⟨h.hra.below hb, h.hrb.below hb, h.hC.elim fun cs hc => ⟨cs, hc.1.below hb, hc.2⟩, h.hB.trans (hb.mono h.hB.size)⟩
theorem PairS.put {w : World} {a b : List UInt8} {W W' : World} {cs : Array Value} (h : PairS w a b W) (hb : Blk W' (w.heap.size + 1 + 1) 42 cs) (hs : cs.size = 32) (hg : W.grownBy W' (some (w.heap.size + 1 + 1))) : PairS w a b W' :=
  ⟨range_gb h.hra hg (by omega), range_gb h.hrb hg (by omega), ⟨cs, hb, hs⟩, h.hB.grown hg h.hB.size (by intro i e; cases e; omega)⟩
theorem PairS.all {w W : World} {a b : List UInt8} (h : PairS w a b W) : (W.rangeAt w.heap.size 0 (a.map u8v) ∧ W.rangeAt (w.heap.size + 1) 0 (b.map u8v) ∧ PairS w a b W) := ⟨h.hra, h.hrb, h⟩
end Go.Proofs.YtemdmdgigmhlbaaGreat
/- The program's Pair. -/
namespace Go.Proofs.YtemdmdgigmhlbaaGreat
open Go.RowKit Go.Qc
attribute [local go_sem] txt_size

theorem PairS.far {w : World} {a b : List UInt8} {W W' : World} {q : Nat} (h : PairS w a b W) (hg : W.grownBy W' (some q)) (hq : w.heap.size + 1 + 1 < q) : PairS w a b W' :=
  ⟨range_gb h.hra hg (by omega), range_gb h.hrb hg (by omega), h.hC.elim fun cs hc => ⟨cs, (hg.block _ hc.1.lt (fun e => by cases e; omega)).trans hc.1, hc.2⟩, h.hB.grown hg h.hB.size (by intro i e; cases e; omega)⟩
theorem rd_range {w : World} {g : Nat} {xs : List Value} (h : w.rangeAt g 0 xs) : Rd w (some ⟨g, 0, none⟩) xs := .inr ⟨_, rfl, range_add h⟩
end Go.Proofs.YtemdmdgigmhlbaaGreat

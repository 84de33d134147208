
/- journal: the document's bytes of frames. -/
import Derived.Test.YtfckbonblfcmnaaJn8
set_option linter.unusedSimpArgs false
set_option linter.unusedVariables false
namespace Go.Proofs.Ytfckbonblfcmnaa
open Go.RowKit Go.Qc Go.Shelf
attribute [local go_sem] txt_size txt_append ib_fold
theorem rnext_yes (c : List UInt8) (hc : c.length = 32) (X : FmD) (h : X.okF) (hp : X.p.length ≤ 5000) (w : World) :
    Calls Try.prog 10 #[.agg (List.map u8v c).toArray, .agg X.cs] w fun e w' => e = .returned (.agg (idVals (nxtB c X))) ∧ Below w.heap.size w w' := by
  obtain ⟨n, h1, h2, h3⟩ := h.nat
  rw [h3]
  exact rnext_ok c hc n h1 h2 X.p hp w
/-- The document's chain under way. -/
structure RlS (w : World) (gc : Nat) (c : List UInt8) (W : World) : Prop where
  bc : Blk W gc 23 (idVals c)
  ge : w.heap.size ≤ gc
  hb : Below w.heap.size w W
theorem RlS.below {w : World} {gc : Nat} {c : List UInt8} {W W' : World} (h : RlS w gc c W) (g : Below W.heap.size W W') : RlS w gc c W' := ⟨h.bc.below g, h.ge, h.hb.trans (g.mono h.hb.size)⟩
theorem RlS.put {w : World} {gc : Nat} {c c' : List UInt8} {W W' : World} (h : RlS w gc c W) (g : W.grownBy W' (some gc)) (hc : Blk W' gc 23 (idVals c')) : RlS w gc c' W' :=
  ⟨hc, h.ge, h.hb.grown g h.hb.size (by intro i e; cases e; have := h.ge; omega)⟩
end Go.Proofs.Ytfckbonblfcmnaa

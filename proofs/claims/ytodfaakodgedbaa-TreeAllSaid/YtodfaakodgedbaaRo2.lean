
/- Rows of operations with rows of their own: slices.Clone, commute.cloned. -/
import Derived.Test.YtodfaakodgedbaaRo1
set_option linter.unusedSimpArgs false
set_option linter.unusedVariables false
namespace Go.Proofs.Ytodfaakodgedbaa
open Go.RowKit Go.Qc Go.Shelf
attribute [local go_sem] txt_size txt_append ib_fold txt_toL

/-- An operation whose rows are its own. -/
structure OpOw (W : World) (base : Nat) (X : OpV) : Prop where
  bn : X.n ≤ 1000
  bo : ∀ x ∈ X.D.o, x.length ≤ 1000
  bm : X.m ≤ 1000
  bx : ∀ x ∈ X.D.n, x.length ≤ 1000
  rA : W.ownsRow base 9 1 (.slice X.A X.n X.c) X.n (X.D.o.map strV)
  rB : W.ownsRow base 9 1 (.slice X.B X.m X.d) X.m (X.D.n.map strV)
  hK : X.D.K.length = 32
  bp : X.D.p.length ≤ 1000
  bt : X.D.t.length ≤ 1000
theorem OpOw.rd {W : World} {base : Nat} {X : OpV} (h : OpOw W base X) : OpR W X.D X.A X.n X.B X.m :=
  ⟨(own_rd h.rA).1, h.bn, h.bo, (own_rd h.rB).1, h.bm, h.bx, (own_rd h.rA).2, (own_rd h.rB).2, h.hK, h.bp, h.bt⟩
theorem OpOw.below {W W' : World} {base : Nat} {X : OpV} (h : OpOw W base X) (hb : Below W.heap.size W W') : OpOw W' base X :=
  ⟨h.bn, h.bo, h.bm, h.bx, own_below h.rA hb, own_below h.rB hb, h.hK, h.bp, h.bt⟩
theorem OpOw.le {W : World} {base base' : Nat} {X : OpV} (h : OpOw W base X) (hb : base' ≤ base) : OpOw W base' X :=
  ⟨h.bn, h.bo, h.bm, h.bx, own_le h.rA hb, own_le h.rB hb, h.hK, h.bp, h.bt⟩
theorem op_ne_str : (40 : TypeId) ≠ 9 := by decide
theorem OpOw.kept {W W' : World} {base g : Nat} {cs : Array Value} {X : OpV} (h : OpOw W base X) (hb : Blk W g 40 cs) (hg : W.grownBy W' (some g)) : OpOw W' base X :=
  ⟨h.bn, h.bo, h.bm, h.bx, h.rA.kept hg (.inr (Lib.ownBlock_ne h.rA hb op_ne_str)), h.rB.kept hg (.inr (Lib.ownBlock_ne h.rB hb op_ne_str)), h.hK, h.bp, h.bt⟩
/-- A row of operations at a block's head. -/
def RowG (W : World) (base g : Nat) (A : Option Addr) (Xs : List OpV) : Prop :=
  Xs = [] ∨ (A = some ⟨g, 0, none⟩ ∧ base ≤ g ∧ ∃ cs, Blk W g 40 cs ∧ ∀ (j : Nat) (u : Value), (opsV Xs)[j]? = some u → cs[j]? = some u)
theorem RowG.below {W W' : World} {base g : Nat} {A : Option Addr} {Xs : List OpV} (h : RowG W base g A Xs) (hb : Below W.heap.size W W') : RowG W' base g A Xs :=
  h.imp id fun ⟨a, b, cs, c, d⟩ => ⟨a, b, cs, c.below hb, d⟩
theorem RowG.far {W W' : World} {base g g' : Nat} {A : Option Addr} {Xs : List OpV} (h : RowG W base g A Xs) (hg : W.grownBy W' (some g')) (hne : g ≠ g') : RowG W' base g A Xs :=
  h.imp id fun ⟨a, b, cs, c, d⟩ => ⟨a, b, cs, (hg.block g c.lt (by simpa using hne)).trans c, d⟩
theorem RowG.le {W : World} {base base' g : Nat} {A : Option Addr} {Xs : List OpV} (h : RowG W base g A Xs) (hb : base' ≤ base) : RowG W base' g A Xs :=
  h.imp id fun ⟨a, b, c⟩ => ⟨a, Nat.le_trans hb b, c⟩
end Go.Proofs.Ytodfaakodgedbaa

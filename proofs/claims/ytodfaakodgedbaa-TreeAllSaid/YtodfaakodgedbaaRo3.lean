
/- Two rows in the other order, as data, and the two rows' state. -/
import Derived.Test.YtodfaakodgedbaaRo2
import Derived.Test.YtodfaakodgedbaaCm3
import Derived.Test.YtodfaakodgedbaaCm5
set_option linter.unusedSimpArgs false
set_option linter.unusedVariables false
namespace Go.Proofs.Ytodfaakodgedbaa
open Go.RowKit Go.Qc Go.Shelf
attribute [local go_sem] txt_size txt_append ib_fold txt_toL

/-- What a Swap leaves: two operations with rows of their own, if they are apart. -/
def SwP (W : World) (base : Nat) (X Y Y1 Y2 : OpV) (b : Bool) : Prop :=
  Y1.D.K.length = 32 ∧ Y2.D.K.length = 32 ∧ (b = true → Y1.D = { Y.D with a := aE X.D Y.D } ∧ Y2.D = { X.D with a := aD X.D Y.D } ∧ OpOw W base Y1 ∧ OpOw W base Y2)
theorem SwP.below {W W' : World} {base : Nat} {X Y Y1 Y2 : OpV} {b : Bool} (h : SwP W base X Y Y1 Y2 b) (hb : Below W.heap.size W W') : SwP W' base X Y Y1 Y2 b :=
  ⟨h.1, h.2.1, fun e => ⟨(h.2.2 e).1, (h.2.2 e).2.1, (h.2.2 e).2.2.1.below hb, (h.2.2 e).2.2.2.below hb⟩⟩
theorem SwP.kept {W W' : World} {base g : Nat} {cs : Array Value} {X Y Y1 Y2 : OpV} {b : Bool} (h : SwP W base X Y Y1 Y2 b) (hc : Blk W g 40 cs) (hg : W.grownBy W' (some g)) : SwP W' base X Y Y1 Y2 b :=
  ⟨h.1, h.2.1, fun e => ⟨(h.2.2 e).1, (h.2.2 e).2.1, (h.2.2 e).2.2.1.kept hc hg, (h.2.2 e).2.2.2.kept hc hg⟩⟩
end Go.Proofs.Ytodfaakodgedbaa

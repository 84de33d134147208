/- merkle: the document's Way. -/
import Derived.Test.YtkbokffonnjjiaaMkB
set_option linter.unusedSimpArgs false
set_option linter.unusedVariables false
namespace Go.Proofs.Ytkbokffonnjjiaa
open Go.RowKit Go.Qc Go.Shelf
attribute [local go_sem] txt_size txt_append ib_fold
def partR (l : List (List UInt8)) (x : Nat × Nat) : List UInt8 := rootM ((l.drop x.1).take (x.2 - x.1))
theorem wayL_map (l : List (List UInt8)) (n k : Nat) : wayL l n k = (partsL 0 n k).map (partR l) := rfl
theorem cut_drop (l : List (List UInt8)) (a b H : Nat) : ((l.drop a).take (b - a)).drop H = (l.drop (a + H)).take (b - (a + H)) := by
  rw [List.drop_take, List.drop_drop, Nat.sub_sub]
theorem cut_take (l : List (List UInt8)) (a b H : Nat) (h : H ≤ b - a) : ((l.drop a).take (b - a)).take H = (l.drop a).take (a + H - a) := by
  rw [List.take_take, Nat.min_eq_left h, Nat.add_sub_cancel_left]
end Go.Proofs.Ytkbokffonnjjiaa
/- merkle: the document's Sides. -/
set_option linter.unusedSimpArgs false
set_option linter.unusedVariables false
namespace Go.Proofs.Ytkbokffonnjjiaa
open Go.RowKit Go.Qc Go.Shelf
attribute [local go_sem] txt_size txt_append ib_fold
/-- A row of truth values of one's own. -/
def blV (L : List Bool) : List Value := L.map Value.bool
def BlOw (W : World) (base : Nat) (v : Value) (L : List Bool) : Prop := W.ownsRow base 4 1 v L.length (blV L)
theorem BlOw.grown {W W' : World} {base B : Nat} {v : Value} {L : List Bool} (h : BlOw W base v L) (hg : W.grownBy W' v.ownBlock) (hB : B ≤ base) {w : World} (hb : Below B w W) (hs : B ≤ W.heap.size) : Below B w W' :=
  hb.grown hg hs (by intro k hk; have := (World.ownsRow.lt h k hk).1; omega)
end Go.Proofs.Ytkbokffonnjjiaa
/- merkle: the document's Climb. -/
set_option linter.unusedSimpArgs false
set_option linter.unusedVariables false
namespace Go.Proofs.Ytkbokffonnjjiaa
open Go.RowKit Go.Qc Go.Shelf
attribute [local go_sem] txt_size txt_append ib_fold
def stepC (sd : Bool) (x y : List UInt8) : List UInt8 := if sd then tagB joinN [x, y] else tagB joinN [y, x]
def climbL : List Bool → List (List UInt8) → List UInt8 → List UInt8
  | s :: ss, y :: ys, x => climbL ss ys (stepC s x y)
  | _, _, x => x
theorem climbL_snoc : ∀ (ss : List Bool) (ys : List (List UInt8)) (s : Bool) (y x : List UInt8), ss.length = ys.length → climbL (ss ++ [s]) (ys ++ [y]) x = stepC s (climbL ss ys x) y
  | [], [], s, y, x, _ => rfl
  | [], _ :: _, _, _, _, h => by simp at h
  | _ :: _, [], _, _, _, h => by simp at h
  | t :: ss, z :: ys, s, y, x, h => by
    have h2 : ss.length = ys.length := by simpa using h
    show climbL (ss ++ [s]) (ys ++ [y]) (stepC t x z) = _
    rw [climbL_snoc ss ys s y _ h2]; rfl
/-- Which sides, from the lowest parting up. -/
def lowsL (n p : Nat) : List Bool := (partsL 0 n p).map fun x => decide (p < x.1)
theorem lowsL_length (n p : Nat) : (lowsL n p).length = (partsL 0 n p).length := by unfold lowsL; simp
def upL (n p : Nat) (way : List (List UInt8)) (a : List UInt8) (i : Nat) : List UInt8 := climbL ((lowsL n p).take i) (way.take i) (tagB itemN [a])
theorem upL_step {n p : Nat} {way : List (List UInt8)} {a y : List UInt8} {i : Nat} {s : Bool} (hl : (lowsL n p).length = way.length) (hs : (lowsL n p)[i]? = some s) (hy : way[i]? = some y) : upL n p way a (i + 1) = stepC s (upL n p way a i) y := by
  unfold upL
  rw [List.take_add_one, hs, List.take_add_one, hy]
  exact climbL_snoc _ _ s y _ (by rw [List.length_take, List.length_take, hl])
end Go.Proofs.Ytkbokffonnjjiaa

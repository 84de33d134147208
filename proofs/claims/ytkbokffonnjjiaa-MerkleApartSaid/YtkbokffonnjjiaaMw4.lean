
/- merkle: a place's way leads to the root. -/
import Derived.Test.YtkbokffonnjjiaaMw3
set_option linter.unusedSimpArgs false
set_option linter.unusedVariables false
namespace Go.Proofs.Ytkbokffonnjjiaa
open Go.RowKit Go.Qc Go.Shelf
theorem rootM_join {l : List (List UInt8)} (h : 2 ≤ l.length) : rootM l = tagB joinN [rootM (l.take (halfM l.length)), rootM (l.drop (halfM l.length))] := by
  rw [rootM, dif_neg (by omega)]
theorem climb_parts (l : List (List UInt8)) (k : Nat) (x : List UInt8) (hx : l[k]? = some x) : ∀ (f a b : Nat), b - a ≤ f → a ≤ k → k < b → b ≤ l.length →
    climbL ((partsL a b k).map fun y => decide (k < y.1)) ((partsL a b k).map (partR l)) (tagB itemN [x]) = rootM ((l.drop a).take (b - a))
  | 0, a, b, h, h1, h2, h3 => by omega
  | f + 1, a, b, h, h1, h2, h3 => by
    by_cases he : b - a ≤ 1
    · have e : a = k := by omega
      subst e
      have e2 : (l.drop a).take (b - a) = [x] := by
        rw [show b - a = 1 by omega, List.take_one, List.head?_drop, hx]; rfl
      rw [partsL_end a he, e2, rootM_one]
      rfl
    · have hlen : ((l.drop a).take (b - a)).length = b - a := by rw [List.length_take, List.length_drop]; omega
      have hok := halfM_ok (n := b - a) (by omega)
      rw [rootM_join (by rw [hlen]; omega), hlen, cut_drop, cut_take l a b _ (by omega)]
      by_cases hp : k < a + halfM (b - a)
      · rw [partsL_low he hp, List.map_append, List.map_append]
        show climbL (_ ++ [decide (k < a + halfM (b - a))]) (_ ++ [partR l (a + halfM (b - a), b)]) _ = _
        rw [climbL_snoc _ _ _ _ _ (by rw [List.length_map, List.length_map]), climb_parts l k x hx f a (a + halfM (b - a)) (by omega) h1 hp (by omega), decide_eq_true hp]
        rfl
      · rw [partsL_high he hp, List.map_append, List.map_append]
        show climbL (_ ++ [decide (k < a)]) (_ ++ [partR l (a, a + halfM (b - a))]) _ = _
        rw [climbL_snoc _ _ _ _ _ (by rw [List.length_map, List.length_map]), climb_parts l k x hx f (a + halfM (b - a)) b (by omega) (by omega) h2 h3, decide_eq_false (by omega)]
        rfl
/-- The way of a place of a row leads to the row's root. -/
theorem up_root {l : List (List UInt8)} {k : Nat} {x : List UInt8} (hx : l[k]? = some x) : upL l.length k (wayL l l.length k) x (partsL 0 l.length k).length = rootM l := by
  have hk := (List.getElem?_eq_some_iff.1 hx).1
  have h := climb_parts l k x hx l.length 0 l.length (by omega) (Nat.zero_le _) hk (Nat.le_refl _)
  rw [List.drop_zero, Nat.sub_zero, List.take_length] at h
  unfold upL
  rw [List.take_of_length_le (by rw [lowsL_length]; exact Nat.le_refl _), List.take_of_length_le (by rw [wayL_length]; exact Nat.le_refl _)]
  exact h
end Go.Proofs.Ytkbokffonnjjiaa

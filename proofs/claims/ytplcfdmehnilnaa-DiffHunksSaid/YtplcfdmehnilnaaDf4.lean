
/- diff: the table of counts is what is in common; lists alone. -/
import Derived.Test.YtplcfdmehnilnaaDf3
set_option linter.unusedSimpArgs false
set_option linter.unusedVariables false
namespace Go.Proofs.Ytplcfdmehnilnaa
open Go.RowKit Go.Qc

theorem drop_cell {x : List (List UInt8)} {i : Nat} (h : i < x.length) : x.drop i = x.getD i [] :: x.drop (i + 1) := by
  rw [List.drop_eq_getElem_cons h, List.getD_eq_getElem?_getD, List.getElem?_eq_getElem h]
  rfl
theorem i16_small (v : Nat) (h : v ≤ 2000) : IntKind.i16.wrap (v : Int) = (v : Int) := by
  unfold IntKind.wrap
  simp [IntKind.signed, IntKind.bits]
  omega
theorem cellU_right (x y : List (List UInt8)) (bx : x.length ≤ 1000) (i j : Nat) (hi : i < x.length) (hj : j < y.length) (T : Nat → Nat → Int)
    (h : ∀ r c, r ≤ x.length → c ≤ y.length → T r c = if i + 1 ≤ r ∨ (r = i ∧ j + 1 ≤ c) then (lcs (x.drop r) (y.drop c) : Int) else 0) :
    ∀ r c, r ≤ x.length → c ≤ y.length → cellU x y i j T r c = if i + 1 ≤ r ∨ (r = i ∧ j ≤ c) then (lcs (x.drop r) (y.drop c) : Int) else 0 := by
  intro r c hr hc
  unfold cellU
  by_cases he : r = i ∧ c = j
  · obtain ⟨rfl, rfl⟩ := he
    rw [if_pos ⟨rfl, rfl⟩, if_pos (c := r + 1 ≤ r ∨ (r = r ∧ c ≤ c)) (.inr ⟨rfl, Nat.le_refl _⟩), drop_cell hi, drop_cell hj]
    by_cases hq : x.getD r [] = y.getD c []
    · rw [if_pos hq, hq, lcs_eq, h (r + 1) (c + 1) (by omega) (by omega), if_pos (.inl (Nat.le_refl _))]
      have := lcs_left (x.drop (r + 1)) (y.drop (c + 1))
      rw [List.length_drop] at this
      have h1 := i16_small (lcs (x.drop (r + 1)) (y.drop (c + 1)) + 1) (by omega)
      exact h1
    · rw [if_neg hq, lcs_ne hq, h (r + 1) c (by omega) (by omega), if_pos (.inl (Nat.le_refl _)), h r (c + 1) (by omega) (by omega), if_pos (.inr ⟨rfl, Nat.le_refl _⟩), ← drop_cell hi, ← drop_cell hj]
      omega
  · rw [if_neg he, h r c hr hc]
    by_cases h1 : i + 1 ≤ r
    · rw [if_pos (.inl h1), if_pos (.inl h1)]
    · by_cases h2 : r = i ∧ j + 1 ≤ c
      · rw [if_pos (.inr h2), if_pos (.inr ⟨h2.1, by omega⟩)]
      · rw [if_neg (by omega), if_neg (by omega)]
theorem rowU_right (x y : List (List UInt8)) (bx : x.length ≤ 1000) (i : Nat) (hi : i < x.length) : ∀ (j : Nat) (hj : j ≤ y.length) (T : Nat → Nat → Int),
    (∀ r c, r ≤ x.length → c ≤ y.length → T r c = if i + 1 ≤ r ∨ (r = i ∧ j ≤ c) then (lcs (x.drop r) (y.drop c) : Int) else 0) →
    ∀ r c, r ≤ x.length → c ≤ y.length → rowU x y i (List.range j).reverse T r c = if i ≤ r then (lcs (x.drop r) (y.drop c) : Int) else 0
  | 0, _, T, h, r, c, hr, hc => by
    have e : rowU x y i (List.range 0).reverse T = T := rfl
    rw [e, h r c hr hc]
    by_cases h1 : i ≤ r
    · rw [if_pos h1, if_pos (by omega)]
    · rw [if_neg h1, if_neg (by omega)]
  | j + 1, hj, T, h, r, c, hr, hc => by
    have e : rowU x y i (List.range (j + 1)).reverse T = rowU x y i (List.range j).reverse (cellU x y i j T) := by
      rw [List.range_succ, List.reverse_append]
      rfl
    rw [e]
    exact rowU_right x y bx i hi j (by omega) _ (cellU_right x y bx i j hi (by omega) T h) r c hr hc
theorem tabU_right (x y : List (List UInt8)) (bx : x.length ≤ 1000) : ∀ (i : Nat) (hi : i ≤ x.length) (T : Nat → Nat → Int),
    (∀ r c, r ≤ x.length → c ≤ y.length → T r c = if i ≤ r then (lcs (x.drop r) (y.drop c) : Int) else 0) →
    ∀ r c, r ≤ x.length → c ≤ y.length → tabU x y y.length (List.range i).reverse T r c = (lcs (x.drop r) (y.drop c) : Int)
  | 0, _, T, h, r, c, hr, hc => by
    have e : tabU x y y.length (List.range 0).reverse T = T := rfl
    rw [e, h r c hr hc, if_pos (Nat.zero_le _)]
  | i + 1, hi, T, h, r, c, hr, hc => by
    have e : tabU x y y.length (List.range (i + 1)).reverse T = tabU x y y.length (List.range i).reverse (rowU x y i (List.range y.length).reverse T) := by
      rw [List.range_succ, List.reverse_append]
      rfl
    rw [e]
    refine tabU_right x y bx i (by omega) _ (rowU_right x y bx i (by omega) y.length (Nat.le_refl _) T (fun r c hr hc => ?_)) r c hr hc
    rw [h r c hr hc]
    by_cases h1 : i + 1 ≤ r
    · rw [if_pos h1, if_pos (.inl h1)]
    · rw [if_neg h1]
      by_cases h2 : r = i ∧ y.length ≤ c
      · have : y.drop c = [] := List.drop_eq_nil_of_le h2.2
        rw [if_pos (.inr h2), this, lcs_nil']
        rfl
      · rw [if_neg (by omega)]
theorem tab_right (x y : List (List UInt8)) (bx : x.length ≤ 1000) (r c : Nat) (hr : r ≤ x.length) (hc : c ≤ y.length) :
    tabU x y y.length (List.range x.length).reverse (fun _ _ => 0) r c = (lcs (x.drop r) (y.drop c) : Int) := by
  refine tabU_right x y bx x.length (Nat.le_refl _) _ (fun r c hr hc => ?_) r c hr hc
  split
  · rename_i h
    rw [List.drop_eq_nil_of_le h, lcs_nil]
    rfl
  · rfl
/-- The counts of right lines. -/
def CntAt (W : World) (g : Nat) (x y : List (List UInt8)) : Prop := ∀ r c, r ≤ x.length → c ≤ y.length → W.cell? ⟨g, r * (y.length + 1) + c, none⟩ = some (.int .i16 (lcs (x.drop r) (y.drop c) : Int))
theorem CntAt.below {W W' : World} {g : Nat} {x y : List (List UInt8)} (h : CntAt W g x y) (hb : Below W.heap.size W W') : CntAt W' g x y := fun r c hr hc => Below.keep hb (h r c hr hc)
theorem counts_any (A B : Option Addr) (n c m d : Nat) (x y : List (List UInt8)) (hn : x.length = n) (hm : y.length = m) (bn : n ≤ 1000) (bm : m ≤ 1000) (w : World) (hr : Rd w A (x.map strV)) (hs : Rd w B (y.map strV)) :
    Calls Try.prog 30 #[.slice A n c, .slice B m d] w fun e w' => ∃ g, e = .returned (.agg #[.int .i64 ((m : Int) + 1), .slice (some ⟨g, 0, none⟩) ((n + 1) * (m + 1)) ((n + 1) * (m + 1))]) ∧ CntAt w' g x y ∧ Below w.heap.size w w' := by
  refine (countsOf_any A B n c m d x y hn hm bn bm _ rfl w hr hs).mono ?_
  rintro e w' ⟨g, rfl, hT, hb⟩
  refine ⟨g, rfl, fun r c hr hc => ?_, hb⟩
  subst hn hm
  rw [← tab_right x y bn r c hr hc]
  exact hT.cell hr hc
end Go.Proofs.Ytplcfdmehnilnaa

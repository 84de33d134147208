
/- diff: the hunks lie one behind the other, and make the new lines; lists alone. -/
import Derived.Test.YtplcfdmehnilnaaDf1
set_option linter.unusedSimpArgs false
set_option linter.unusedVariables false
namespace Go.Proofs.Ytplcfdmehnilnaa
open Go.RowKit Go.Qc Go.Shelf

theorem mem_flu {a : Nat} {D A : List (List UInt8)} {h : HD} (hm : h ∈ flu a D A) : h = (a, D, A) := by
  unfold flu at hm
  split at hm
  · cases hm
  · simpa using hm
theorem dfG_from : ∀ (x y : List (List UInt8)) (at' j : Nat) (D A : List (List UInt8)), at' ≤ j → ∀ h ∈ dfG x y at' j D A, at' ≤ h.1
  | [], [], at', j, D, A, hj, h, hm => by
    rw [dfG] at hm
    rw [mem_flu hm]
    exact Nat.le_refl _
  | a :: x, [], at', j, D, A, hj, h, hm => by
    rw [dfG] at hm
    exact dfG_from x [] at' j _ _ hj h hm
  | [], b :: y, at', j, D, A, hj, h, hm => by
    rw [dfG] at hm
    exact dfG_from [] y at' (j + 1) _ _ (by omega) h hm
  | a :: x, b :: y, at', j, D, A, hj, h, hm => by
    rw [dfG] at hm
    split at hm
    · rcases List.mem_append.1 hm with hm | hm
      · rw [mem_flu hm]
        exact Nat.le_refl _
      · have := dfG_from x y (j + 1) (j + 1) [] [] (Nat.le_refl _) h hm
        omega
    · split at hm
      · exact dfG_from x (b :: y) at' j _ _ hj h hm
      · exact dfG_from (a :: x) y at' (j + 1) _ _ (by omega) h hm
termination_by x y => x.length + y.length
/-- Each hunk lies behind the one ahead of it. -/
theorem dfG_gap : ∀ (x y : List (List UInt8)) (at' j : Nat) (D A : List (List UInt8)), j = at' + A.length → (dfG x y at' j D A).Pairwise (fun p h => p.1 + p.2.2.length < h.1)
  | [], [], at', j, D, A, hj => by
    rw [dfG]
    unfold flu
    split <;> simp
  | a :: x, [], at', j, D, A, hj => by
    rw [dfG]
    exact dfG_gap x [] at' j _ _ hj
  | [], b :: y, at', j, D, A, hj => by
    rw [dfG]
    exact dfG_gap [] y at' (j + 1) _ _ (by rw [List.length_append, List.length_singleton]; omega)
  | a :: x, b :: y, at', j, D, A, hj => by
    rw [dfG]
    split
    · rw [List.pairwise_append]
      refine ⟨by unfold flu; split <;> simp, dfG_gap x y (j + 1) (j + 1) [] [] rfl, fun p hp h hh => ?_⟩
      rw [mem_flu hp]
      have := dfG_from x y (j + 1) (j + 1) [] [] (Nat.le_refl _) h hh
      simp only
      omega
    · split
      · exact dfG_gap x (b :: y) at' j _ _ hj
      · exact dfG_gap (a :: x) y at' (j + 1) _ _ (by rw [List.length_append, List.length_singleton]; omega)
termination_by x y => x.length + y.length
theorem dfG_next {x y : List (List UInt8)} {i : Nat} {p h : HD} (hp : (dfG x y 0 0 [] [])[i]? = some p) (hh : (dfG x y 0 0 [] [])[i + 1]? = some h) : p.1 + p.2.2.length < h.1 := by
  have hw := dfG_gap x y 0 0 [] [] rfl
  obtain ⟨h1, e1⟩ := List.getElem?_eq_some_iff.1 hp
  obtain ⟨h2, e2⟩ := List.getElem?_eq_some_iff.1 hh
  have := List.pairwise_iff_getElem.1 hw i (i + 1) h1 h2 (by omega)
  rw [e1, e2] at this
  exact this

/-- All hunks, one behind the other. -/
def apAll : List HD → List (List UInt8) → Option (List (List UInt8))
  | [], c => some c
  | h :: l, c => if (apR c (h.1 : Int) h.2.1 h.2.2).2 = 0 then apAll l (apR c (h.1 : Int) h.2.1 h.2.2).1 else none
theorem apAll_append (l m : List HD) (c : List (List UInt8)) : apAll (l ++ m) c = (apAll l c).bind (apAll m) := by
  induction l generalizing c with
  | nil => rfl
  | cons h l ih =>
    rw [List.cons_append, apAll, apAll]
    split
    · exact ih _
    · rfl
theorem all_snoc {Q : List UInt8 → Prop} {D : List (List UInt8)} {a : List UInt8} (h : ∀ z ∈ D, Q z) (ha : Q a) : ∀ z ∈ D ++ [a], Q z := fun z hz => by
  rcases List.mem_append.1 hz with h1 | h1
  · exact h z h1
  · rw [List.mem_singleton.1 h1]; exact ha
theorem all_app {Q : List UInt8 → Prop} {D E : List (List UInt8)} (h : ∀ z ∈ D, Q z) (g : ∀ z ∈ E, Q z) : ∀ z ∈ D ++ E, Q z := fun z hz => by
  rcases List.mem_append.1 hz with h1 | h1
  · exact h z h1
  · exact g z h1
theorem all_tail {Q : List UInt8 → Prop} {a : List UInt8} {x : List (List UInt8)} (h : ∀ z ∈ a :: x, Q z) : ∀ z ∈ x, Q z := fun z hz => h z (List.mem_cons_of_mem _ hz)
theorem all_head {Q : List UInt8 → Prop} {a : List UInt8} {x : List (List UInt8)} (h : ∀ z ∈ a :: x, Q z) : Q a := h a (List.mem_cons_self)
abbrev LnQ (z : List UInt8) : Prop := lineR z = true
theorem flu_apply (P D A S : List (List UInt8)) (hl : P.length + D.length + A.length + S.length ≤ 1000) (h1 : ∀ z ∈ P, LnQ z) (h2 : ∀ z ∈ D, LnQ z) (h3 : ∀ z ∈ A, LnQ z) (h4 : ∀ z ∈ S, LnQ z) : apAll (flu P.length D A) (P ++ (D ++ S)) = some (P ++ (A ++ S)) := by
  unfold flu
  split
  · rename_i h
    obtain rfl : D = [] := List.eq_nil_of_length_eq_zero (by omega)
    obtain rfl : A = [] := List.eq_nil_of_length_eq_zero (by omega)
    rfl
  · rename_i h
    have hD : linesR D = true := linesR_of (by omega) h2
    have hA : linesR A = true := linesR_of (by omega) h3
    have hR : hunkR (P.length : Int) D A = true := by
      unfold hunkR
      rw [hD, hA, decide_eq_true (show (0 : Int) ≤ (P.length : Int) by omega), decide_eq_true (show (P.length : Int) ≤ 1000 by omega), decide_eq_true (show 0 < D.length + A.length by omega)]
      rfl
    have hp := apR_put (P := P) (old := D) (new := A) (S := S) (linesR_of (by simp only [List.length_append]; omega) (all_app h1 (all_app h2 h4))) hR (by simp only [List.length_append]; omega)
    rw [apAll, hp, if_pos rfl]
    rfl
/-- The hunks make the new lines. -/
theorem dfG_apply : ∀ (x y : List (List UInt8)) (at' j : Nat) (D A P : List (List UInt8)), P.length = at' → j = at' + A.length → P.length + D.length + x.length + A.length + y.length ≤ 1000 → (∀ z ∈ P, LnQ z) → (∀ z ∈ D, LnQ z) → (∀ z ∈ x, LnQ z) → (∀ z ∈ A, LnQ z) → (∀ z ∈ y, LnQ z) →
    apAll (dfG x y at' j D A) (P ++ (D ++ x)) = some (P ++ (A ++ y))
  | [], [], at', j, D, A, P, hP, hj, hl, h1, h2, h3, h4, h5 => by
    rw [dfG, ← hP]
    exact flu_apply P D A [] (by simp only [List.length_nil] at *; omega) h1 h2 h4 h5
  | a :: x, [], at', j, D, A, P, hP, hj, hl, h1, h2, h3, h4, h5 => by
    rw [dfG]
    have := dfG_apply x [] at' j (D ++ [a]) A P hP hj (by simp only [List.length_append, List.length_cons, List.length_nil] at *; omega) h1 (all_snoc h2 (all_head h3)) (all_tail h3) h4 h5
    have e : D ++ [a] ++ x = D ++ a :: x := by simp
    rw [e] at this
    exact this
  | [], b :: y, at', j, D, A, P, hP, hj, hl, h1, h2, h3, h4, h5 => by
    rw [dfG]
    have := dfG_apply [] y at' (j + 1) D (A ++ [b]) P hP (by simp only [List.length_append, List.length_cons, List.length_nil]; omega) (by simp only [List.length_append, List.length_cons, List.length_nil] at *; omega) h1 h2 h3 (all_snoc h4 (all_head h5)) (all_tail h5)
    have e : A ++ [b] ++ y = A ++ b :: y := by simp
    rw [e] at this
    exact this
  | a :: x, b :: y, at', j, D, A, P, hP, hj, hl, h1, h2, h3, h4, h5 => by
    rw [dfG]
    split
    · rename_i hab
      subst hab
      rw [apAll_append, ← hP, flu_apply P D A (a :: x) (by simp only [List.length_cons] at *; omega) h1 h2 h4 h3]
      have := dfG_apply x y (j + 1) (j + 1) [] [] (P ++ (A ++ [a])) (by simp only [List.length_append, List.length_cons, List.length_nil]; omega) rfl (by simp only [List.length_append, List.length_cons, List.length_nil] at *; omega) (all_app h1 (all_snoc h4 (all_head h3))) (by simp) (all_tail h3) (by simp) (all_tail h5)
      simpa using this
    · split
      · have := dfG_apply x (b :: y) at' j (D ++ [a]) A P hP hj (by simp only [List.length_append, List.length_cons, List.length_nil] at *; omega) h1 (all_snoc h2 (all_head h3)) (all_tail h3) h4 h5
        have e : D ++ [a] ++ x = D ++ a :: x := by simp
        rw [e] at this
        exact this
      · have := dfG_apply (a :: x) y at' (j + 1) D (A ++ [b]) P hP (by simp only [List.length_append, List.length_cons, List.length_nil]; omega) (by simp only [List.length_append, List.length_cons, List.length_nil] at *; omega) h1 h2 h3 (all_snoc h4 (all_head h5)) (all_tail h5)
        have e : A ++ [b] ++ y = A ++ b :: y := by simp
        rw [e] at this
        exact this
termination_by x y => x.length + y.length
theorem dfG_makes (x y : List (List UInt8)) (hx : linesR x = true) (hy : linesR y = true) (hl : x.length + y.length ≤ 1000) : apAll (dfG x y 0 0 [] []) x = some y := by
  have := dfG_apply x y 0 0 [] [] [] rfl rfl (by simp only [List.length_nil]; omega) (by simp) (by simp) (linesR_at hx).2 (by simp) (linesR_at hy).2
  simpa using this
end Go.Proofs.Ytplcfdmehnilnaa

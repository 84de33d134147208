
/- How many lines are in common: lists alone. -/
import Derived.Test.YtplcfdmehnilnaaKit6
set_option linter.unusedSimpArgs false
set_option linter.unusedVariables false
namespace Go.Proofs.Ytplcfdmehnilnaa
open Go.RowKit Go.Qc

/-- How many lines are in common at most, in order. -/
def lcs : List (List UInt8) → List (List UInt8) → Nat
  | [], _ => 0
  | _ :: _, [] => 0
  | a :: as', b :: bs => if a = b then lcs as' bs + 1 else max (lcs as' (b :: bs)) (lcs (a :: as') bs)
termination_by x y => x.length + y.length
theorem lcs_nil (y : List (List UInt8)) : lcs [] y = 0 := by rw [lcs]
theorem lcs_nil' (x : List (List UInt8)) : lcs x [] = 0 := by cases x <;> rw [lcs]
theorem lcs_eq (a : List UInt8) (x y : List (List UInt8)) : lcs (a :: x) (a :: y) = lcs x y + 1 := by rw [lcs, if_pos rfl]
theorem lcs_ne {a b : List UInt8} (h : a ≠ b) (x y : List (List UInt8)) : lcs (a :: x) (b :: y) = max (lcs x (b :: y)) (lcs (a :: x) y) := by rw [lcs, if_neg h]
/-- A common row. -/
theorem lcs_sub : ∀ (x y : List (List UInt8)), ∃ s : List (List UInt8), s.Sublist x ∧ s.Sublist y ∧ s.length = lcs x y
  | [], y => ⟨[], List.Sublist.slnil.trans (List.nil_sublist _), List.nil_sublist _, by rw [lcs_nil]; rfl⟩
  | a :: x, [] => ⟨[], List.nil_sublist _, List.nil_sublist _, by rw [lcs_nil']; rfl⟩
  | a :: x, b :: y => by
    by_cases h : a = b
    · subst h
      obtain ⟨s, h1, h2, h3⟩ := lcs_sub x y
      exact ⟨a :: s, h1.cons_cons a, h2.cons_cons a, by rw [lcs_eq, List.length_cons, h3]⟩
    · rw [lcs_ne h]
      by_cases hm : lcs (a :: x) y ≤ lcs x (b :: y)
      · obtain ⟨s, h1, h2, h3⟩ := lcs_sub x (b :: y)
        exact ⟨s, h1.cons a, h2, by rw [h3, Nat.max_eq_left hm]⟩
      · obtain ⟨s, h1, h2, h3⟩ := lcs_sub (a :: x) y
        exact ⟨s, h1, h2.cons b, by rw [h3, Nat.max_eq_right (by omega)]⟩
termination_by x y => x.length + y.length
/-- No common row is longer. -/
theorem lcs_top : ∀ (x y s : List (List UInt8)), s.Sublist x → s.Sublist y → s.length ≤ lcs x y
  | [], y, s, h1, _ => by rw [List.sublist_nil.1 h1]; exact Nat.zero_le _
  | a :: x, [], s, _, h2 => by rw [List.sublist_nil.1 h2]; exact Nat.zero_le _
  | a :: x, b :: y, s, h1, h2 => by
    by_cases h : a = b
    · subst h
      rw [lcs_eq]
      cases s with
      | nil => exact Nat.zero_le _
      | cons c s =>
        have e1 : s.Sublist x := by
          cases h1 with
          | cons _ h1 => exact (List.sublist_cons_self c s).trans h1
          | cons_cons _ h1 => exact h1
        have e2 : s.Sublist y := by
          cases h2 with
          | cons _ h2 => exact (List.sublist_cons_self c s).trans h2
          | cons_cons _ h2 => exact h2
        have := lcs_top x y s e1 e2
        rw [List.length_cons]
        omega
    · rw [lcs_ne h]
      cases h1 with
      | cons _ h1 => exact Nat.le_trans (lcs_top x (b :: y) s h1 h2) (Nat.le_max_left _ _)
      | cons_cons _ h1 =>
        cases h2 with
        | cons _ h2 => exact Nat.le_trans (lcs_top (a :: x) y _ (h1.cons_cons a) h2) (Nat.le_max_right _ _)
        | cons_cons _ h2 => exact absurd rfl h
termination_by x y => x.length + y.length
theorem lcs_comm (x y : List (List UInt8)) : lcs x y = lcs y x := by
  obtain ⟨s, h1, h2, h3⟩ := lcs_sub x y
  obtain ⟨t, g1, g2, g3⟩ := lcs_sub y x
  have := lcs_top y x s h2 h1
  have := lcs_top x y t g2 g1
  omega
theorem lcs_left (x y : List (List UInt8)) : lcs x y ≤ x.length := by
  obtain ⟨s, h1, _, h3⟩ := lcs_sub x y
  rw [← h3]; exact h1.length_le
theorem lcs_drop (a : List UInt8) (x y : List (List UInt8)) : lcs x y ≤ lcs (a :: x) y ∧ lcs (a :: x) y ≤ lcs x y + 1 := by
  constructor
  · obtain ⟨s, h1, h2, h3⟩ := lcs_sub x y
    rw [← h3]
    exact lcs_top _ _ s (h1.cons a) h2
  · obtain ⟨s, h1, h2, h3⟩ := lcs_sub (a :: x) y
    cases h1 with
    | cons _ h1 => have := lcs_top _ _ s h1 h2; omega
    | cons_cons _ h1 =>
      have := lcs_top _ _ _ h1 ((List.sublist_cons_self _ _).trans h2)
      rw [List.length_cons] at h3
      omega
theorem lcs_drop' (b : List UInt8) (x y : List (List UInt8)) : lcs x y ≤ lcs x (b :: y) ∧ lcs x (b :: y) ≤ lcs x y + 1 := by
  rw [lcs_comm x y, lcs_comm x (b :: y)]
  exact lcs_drop b y x
/-- Two rows out of one have so many in common. -/
theorem sub_common : ∀ (b s t : List (List UInt8)), s.Sublist b → t.Sublist b → ∃ r, List.Sublist r s ∧ r.Sublist t ∧ s.length + t.length ≤ b.length + r.length
  | [], s, t, h1, h2 => ⟨[], List.nil_sublist _, List.nil_sublist _, by rw [List.sublist_nil.1 h1, List.sublist_nil.1 h2]; simp⟩
  | c :: b, s, t, h1, h2 => by
    cases h1 with
    | cons _ h1 =>
      cases h2 with
      | cons _ h2 =>
        obtain ⟨r, q1, q2, q3⟩ := sub_common b _ _ h1 h2
        exact ⟨r, q1, q2, by rw [List.length_cons]; omega⟩
      | cons_cons _ h2 =>
        obtain ⟨r, q1, q2, q3⟩ := sub_common b _ _ h1 h2
        exact ⟨r, q1, q2.cons c, by rw [List.length_cons, List.length_cons]; omega⟩
    | cons_cons _ h1 =>
      cases h2 with
      | cons _ h2 =>
        obtain ⟨r, q1, q2, q3⟩ := sub_common b _ _ h1 h2
        exact ⟨r, q1.cons c, q2, by rw [List.length_cons, List.length_cons]; omega⟩
      | cons_cons _ h2 =>
        obtain ⟨r, q1, q2, q3⟩ := sub_common b _ _ h1 h2
        exact ⟨c :: r, q1.cons_cons c, q2.cons_cons c, by simp only [List.length_cons]; omega⟩
/-- No shorter way leads over other lines. -/
theorem lcs_tri (x y z : List (List UInt8)) : lcs x y + lcs y z ≤ y.length + lcs x z := by
  obtain ⟨s, h1, h2, h3⟩ := lcs_sub x y
  obtain ⟨t, g1, g2, g3⟩ := lcs_sub y z
  obtain ⟨r, q1, q2, q3⟩ := sub_common y s t h2 g1
  have := lcs_top x z r (q1.trans h1) (q2.trans g2)
  omega
/-- One hunk's change. -/
theorem lcs_put (P S old new : List (List UInt8)) : P.length + S.length ≤ lcs (P ++ (old ++ S)) (P ++ (new ++ S)) := by
  have := lcs_top (P ++ (old ++ S)) (P ++ (new ++ S)) (P ++ S) ((List.Sublist.refl P).append (List.sublist_append_right old S)) ((List.Sublist.refl P).append (List.sublist_append_right new S))
  rwa [List.length_append] at this

end Go.Proofs.Ytplcfdmehnilnaa

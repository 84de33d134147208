
/- hunk: many hunks, one behind the other, and all of them back; lists alone. -/
import Derived.Test.YtjaenffdbhgmeaaHk9
set_option linter.unusedSimpArgs false
set_option linter.unusedVariables false
namespace Go.Proofs.Ytjaenffdbhgmeaa
open Go.RowKit Go.Qc Go.Shelf

/-- A hunk: where, its old lines, its new ones. -/
abbrev HunkD := Int × List (List UInt8) × List (List UInt8)
/-- Lines with hunks, one behind the other: the lines, how many went, the error. -/
def stepsR : List (List UInt8) → List HunkD → Nat → List (List UInt8) × Nat × Int
  | l, [], i => (l, i, 0)
  | l, h :: hs, i => if (apR l h.1 h.2.1 h.2.2).2 = 0 then stepsR (apR l h.1 h.2.1 h.2.2).1 hs (i + 1) else ([], i, (apR l h.1 h.2.1 h.2.2).2)
def invD (h : HunkD) : HunkD := (h.1, h.2.2, h.2.1)
theorem stepsR_append (xs ys : List HunkD) : ∀ (l R : List (List UInt8)) (i k : Nat), stepsR l xs i = (R, k, 0) → stepsR l (xs ++ ys) i = stepsR R ys k := by
  induction xs with
  | nil => intro l R i k h; simp [stepsR] at h; obtain ⟨rfl, rfl⟩ := h; rfl
  | cons x xs ih =>
    intro l R i k h
    simp only [stepsR, List.cons_append] at h ⊢
    split
    · rename_i hx
      rw [if_pos hx] at h
      exact ih _ _ _ _ h
    · rename_i hx
      rw [if_neg hx] at h
      simp only [Prod.mk.injEq] at h
      exact absurd h.2.2 hx
theorem stepsR_len (xs : List HunkD) : ∀ (l R : List (List UInt8)) (i k : Nat), stepsR l xs i = (R, k, 0) → k = i + xs.length := by
  induction xs with
  | nil => intro l R i k h; simp [stepsR] at h; simp [h.2]
  | cons x xs ih =>
    intro l R i k h
    simp only [stepsR] at h
    split at h
    · have := ih _ _ _ _ h
      simp only [List.length_cons]; omega
    · rename_i hx
      simp only [Prod.mk.injEq] at h
      exact absurd h.2.2 hx
/-- All of them back undo it. -/
theorem stepsR_back (xs : List HunkD) : ∀ (l R : List (List UInt8)) (i k j : Nat), stepsR l xs i = (R, k, 0) → stepsR R (xs.reverse.map invD) j = (l, j + xs.length, 0) := by
  induction xs with
  | nil => intro l R i k j h; simp [stepsR] at h; obtain ⟨rfl, rfl⟩ := h; rfl
  | cons x xs ih =>
    intro l R i k j h
    simp only [stepsR] at h
    split at h
    · rename_i hx
      have h2 := ih _ _ _ _ j h
      rw [List.reverse_cons, List.map_append, stepsR_append _ _ _ _ _ _ h2]
      have hb := (apR_back l x.1 x.2.1 x.2.2 hx).1
      simp only [List.map_cons, List.map_nil, stepsR, invD]
      rw [hb, if_pos rfl]
      simp only [List.length_cons, Nat.add_assoc]
    · rename_i hx
      simp only [Prod.mk.injEq] at h
      exact absurd h.2.2 hx
/-- What was made of right lines is right. -/
theorem apR_right (l : List (List UInt8)) (h : HunkD) (hz : (apR l h.1 h.2.1 h.2.2).2 = 0) : linesR (apR l h.1 h.2.1 h.2.2).1 = true := by
  have hb := (apR_back l h.1 h.2.1 h.2.2 hz).1
  cases hx : linesR (apR l h.1 h.2.1 h.2.2).1 with
  | true => rfl
  | false =>
    have : (apR (apR l h.1 h.2.1 h.2.2).1 h.1 h.2.2 h.2.1).2 = 0 := by rw [hb]
    rw [apR_snd, hx] at this
    simp at this
end Go.Proofs.Ytjaenffdbhgmeaa


/- grant: what is kept behind any operations; lists alone. -/
import Derived.Test.YtapgiagpjplpdaaGreatGr9
set_option linter.unusedSimpArgs false
set_option linter.unusedVariables false
namespace Go.Proofs.YtapgiagpjplpdaaGreat
open Go.RowKit Go.Qc Go.Shelf

theorem depS_lt (key s : List UInt8) (d : Int) : ∀ (Xs : List GrD) (a : Int), d < Xs.foldl (fun d X => depG d key s X) a ↔ d < a ∨ ∃ X ∈ Xs, X.k = key ∧ covB X.p s = true ∧ d < X.d
  | [], a => by simp
  | X :: Xs, a => by
    rw [List.foldl_cons, depS_lt key s d Xs]
    unfold depG
    by_cases h : X.k = key ∧ covB X.p s = true
    · rw [if_pos h]
      constructor
      · rintro (h1 | ⟨Y, hY, h2⟩)
        · by_cases ha : d < a
          · exact .inl ha
          · exact .inr ⟨X, by simp, h.1, h.2, by omega⟩
        · exact .inr ⟨Y, by simp [hY], h2⟩
      · rintro (h1 | ⟨Y, hY, h2, h3, h4⟩)
        · exact .inl (by omega)
        · rcases List.mem_cons.1 hY with rfl | hY
          · exact .inl (by omega)
          · exact .inr ⟨Y, hY, h2, h3, h4⟩
    · rw [if_neg h]
      constructor
      · rintro (h1 | ⟨Y, hY, h2⟩)
        · exact .inl h1
        · exact .inr ⟨Y, by simp [hY], h2⟩
      · rintro (h1 | ⟨Y, hY, h2, h3, h4⟩)
        · exact .inl h1
        · rcases List.mem_cons.1 hY with rfl | hY
          · exact (h ⟨h2, h3⟩).elim
          · exact .inr ⟨Y, hY, h2, h3, h4⟩
/-- More grants, no less depth. -/
theorem depV_more {root : List UInt8} {Xs Ys : List GrD} (h : ∀ X ∈ Xs, X ∈ Ys) {key s : List UInt8} {d : Int} (hd : d < depV root Xs key s) : d < depV root Ys key s := by
  unfold depV at *
  by_cases hk : key = root
  · rw [if_pos hk] at *
    exact hd
  · rw [if_neg hk] at *
    unfold depS at *
    rw [depS_lt] at *
    exact hd.imp id (fun ⟨X, hX, h2⟩ => ⟨X, h X hX, h2⟩)
/-- Each grant is held. -/
def HeldG (root : List UInt8) (Xs : List GrD) : Prop := ∀ X ∈ Xs, X.d < depV root Xs X.b X.p
theorem iterH_fixed (root : List UInt8) : ∀ (N : Nat) (l : List GrD), l.length ≤ N → holdG root (iterH root N l) = iterH root N l
  | 0, l, h => by
    obtain rfl : l = [] := List.eq_nil_of_length_eq_zero (by omega)
    rfl
  | N + 1, l, h => by
    rw [iterH]
    by_cases hl : (holdG root l).length = l.length
    · rw [holdG_fix hl, iterH_fix (holdG_fix hl), holdG_fix hl]
    · have := holdG_len root l
      exact iterH_fixed root N (holdG root l) (by omega)
theorem iterH_sub {root : List UInt8} : ∀ (N : Nat) (l : List GrD), ∀ X ∈ iterH root N l, X ∈ l
  | 0, l, X, h => h
  | N + 1, l, X, h => (List.mem_filter.1 (iterH_sub N (holdG root l) X h)).1
theorem iterH_len {root : List UInt8} : ∀ (N : Nat) (l : List GrD), (iterH root N l).length ≤ l.length
  | 0, l => Nat.le_refl _
  | N + 1, l => Nat.le_trans (iterH_len N (holdG root l)) (holdG_len root l)
theorem held_iter {root : List UInt8} {N : Nat} {l : List GrD} (h : l.length ≤ N) : HeldG root (iterH root N l) := fun X hX => by
  have hf := iterH_fixed root N l h
  unfold holdG at hf
  have := List.filter_eq_self.1 hf X hX
  unfold heldB at this
  simp only [Bool.not_eq_true', decide_eq_false_iff_not] at this
  exact Int.not_le.1 this
theorem mem_putG {Xs : List GrD} {Y X : GrD} : X ∈ putG Xs Y ↔ X = Y ∨ X ∈ Xs := by
  unfold putG
  rw [List.mem_append, List.mem_cons]
  constructor
  · rintro (h | h | h)
    · exact .inr (List.mem_of_mem_take h)
    · exact .inl h
    · exact .inr (List.mem_of_mem_drop h)
  · rintro (h | h)
    · exact .inr (.inl h)
    · rw [← List.take_append_drop (plG Xs Y) Xs, List.mem_append] at h
      exact h.elim .inl (fun h => .inr (.inr h))
theorem putG_len (Xs : List GrD) (Y : GrD) : (putG Xs Y).length = Xs.length + 1 := by
  unfold putG
  rw [List.length_append, List.length_cons, List.length_take, List.length_drop]
  have := (plG_ok Xs Y).le
  omega
/-- What is kept: each is held, stands at a prefix, and there are not too many. -/
structure KeepG (root : List UInt8) (Xs : List GrD) : Prop where
  held : HeldG root Xs
  pre : ∀ X ∈ Xs, preR X.p = true
  len : Xs.length ≤ 500
theorem pre_of {D : OpD} (h : opE D = 0) (hk : D.k = 5) : preR D.p = true := by
  unfold opE at h
  rw [hk] at h
  rw [if_pos (by decide)] at h
  split at h
  · rename_i hb
    rw [Bool.and_eq_true] at hb
    have hf := hb.2
    unfold formedR at hf
    simpa [hk] using hf
  · cases h
theorem keep_next {root : List UInt8} {Xs : List GrD} (key : List UInt8) (D : OpD) (h : KeepG root Xs) : KeepG root (nextG root Xs key D) := by
  unfold nextG appG
  by_cases h1 : opE D ≠ 0
  · rw [if_pos h1, if_neg h1]; exact h
  · rw [if_neg h1]
    by_cases h2 : ¬ (D.k = 5 ∨ D.k = 6)
    · rw [if_pos h2, if_neg (by decide)]; exact h
    · rw [if_neg h2]
      by_cases h3 : D.k = 6
      · rw [if_pos h3]
        by_cases h4 : depV root Xs key D.p < 1
        · rw [if_pos h4, if_neg (by decide)]; exact h
        · rw [if_neg h4]
          by_cases h5 : (leftG D.K D.p Xs).length = Xs.length
          · rw [if_pos h5, if_neg (by decide)]; exact h
          · rw [if_neg h5, if_pos rfl]
            have hl : (leftG D.K D.p Xs).length ≤ Xs.length := List.length_filter_le _ _
            have hs : ∀ X ∈ iterH root Xs.length (leftG D.K D.p Xs), X ∈ Xs := fun X hX => (List.mem_filter.1 (iterH_sub _ _ X hX)).1
            exact ⟨held_iter hl, fun X hX => h.pre X (hs X hX), Nat.le_trans (iterH_len _ _) (Nat.le_trans hl h.len)⟩
      · rw [if_neg h3]
        by_cases h4 : depV root Xs key D.p ≤ D.d
        · rw [if_pos h4, if_neg (by decide)]; exact h
        · rw [if_neg h4]
          by_cases h5 : thereB Xs (newG key D) (plG Xs (newG key D)) = true ∨ D.K = root
          · rw [if_pos h5, if_neg (by decide)]; exact h
          · rw [if_neg h5]
            by_cases h6 : 500 ≤ Xs.length
            · rw [if_pos h6, if_neg (by decide)]; exact h
            · rw [if_neg h6, if_pos rfl]
              have hsub : ∀ X ∈ Xs, X ∈ putG Xs (newG key D) := fun X hX => mem_putG.2 (.inr hX)
              have h5' : D.k = 5 := by
                rcases Decidable.not_not.1 h2 with h | h
                · exact h
                · exact (h3 h).elim
              refine ⟨fun X hX => ?_, fun X hX => ?_, ?_⟩
              · rcases mem_putG.1 hX with rfl | hX
                · exact depV_more hsub (Int.not_le.1 h4)
                · exact depV_more hsub (h.held X hX)
              · rcases mem_putG.1 hX with rfl | hX
                · exact pre_of (by simpa using h1) h5'
                · exact h.pre X hX
              · rw [putG_len]; omega
end Go.Proofs.YtapgiagpjplpdaaGreat

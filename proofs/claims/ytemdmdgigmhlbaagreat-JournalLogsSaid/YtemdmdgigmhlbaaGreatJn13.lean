
/- journal: frames that are scanned, as data. -/
import Derived.Test.YtemdmdgigmhlbaaGreatJn12
set_option linter.unusedSimpArgs false
set_option linter.unusedVariables false
namespace Go.Proofs.YtemdmdgigmhlbaaGreat
open Go.RowKit Go.Qc Go.Shelf
attribute [local go_sem] txt_size txt_append ib_fold
theorem stB_geJ (s : List UInt8) (a : Nat) (e : Int) : a ≤ (stBJ s a e).1 := by
  unfold stBJ
  split
  · cases h : byteR (s.drop a) with
    | ok p => exact Nat.le_add_right _ _
    | error e => exact Nat.le_refl _
  · exact Nat.le_refl _
theorem stT_geJ (m : Int) (s : List UInt8) (a : Nat) (e : Int) : a ≤ (stTJ m s a e).1 := by
  unfold stTJ
  split
  · cases h : textR m (s.drop a) with
    | ok p => exact Nat.le_add_right _ _
    | error e => exact Nat.le_refl _
  · exact Nat.le_refl _
theorem slJ_ge (s : List UInt8) (a : Nat) (e : Int) : ∀ k, a ≤ (slJ s a e k).2.1
  | 0 => Nat.le_refl _
  | k + 1 => Nat.le_trans (slJ_ge s a e k) (stB_geJ _ _ _)
theorem first_J {s : List UInt8} {a : Nat} (h : vaBJ s a 0 = 74) : (stBJ s a 0).1 = a + 1 := by
  unfold vaBJ at h
  unfold stBJ
  rw [if_pos rfl] at h ⊢
  unfold byteR at h ⊢
  split at h
  · rename_i v n hh
    split at hh
    · cases hh
    · rename_i x r hx
      injection hh with hh
      injection hh with _ hn
      subst hn
      rfl
  · cases h
theorem sJ_le (s : List UInt8) (a : Nat) (ha : a ≤ s.length) : (sJ s a).2.1 ≤ s.length := slJ_le _ _ _ (stT_leJ _ _ _ _ (stB_leJ _ _ _ (stB_leJ _ _ _ ha))) 8
theorem frR_some {s C : List UInt8} {a b : Nat} {X : FmD} (h : frR s C a = some (X, b)) (ha : a ≤ s.length) : a < b ∧ b ≤ s.length ∧ X.okF ∧ X.p.length ≤ s.length := by
  unfold frR at h
  split at h
  · cases h
  rename_i h74
  split at h
  · cases h
  split at h
  · cases h
  rename_i hk
  split at h
  · cases h
  injection h with h
  injection h with h1 h2
  rw [← h1, ← h2]
  refine ⟨?_, sJ_le s a ha, Classical.not_not.1 hk, vaT_len _ _ _ _⟩
  have q1 := first_J (Classical.not_not.1 h74)
  have q2 := stB_geJ s (stBJ s a 0).1 (stBJ s a 0).2
  have q3 := stT_geJ 4194304 s (kS s a).1 (kS s a).2
  have q4 := slJ_ge s (pS s a).1 (pS s a).2 8
  have e1 : kS s a = stBJ s (stBJ s a 0).1 (stBJ s a 0).2 := rfl
  have e2 : pS s a = stTJ 4194304 s (kS s a).1 (kS s a).2 := rfl
  have e3 : sJ s a = slJ s (pS s a).1 (pS s a).2 8 := rfl
  rw [← e1] at q2
  rw [← e2] at q3
  rw [← e3] at q4
  omega
/-- The frames from a place on, the place and the chain behind them. -/
def scF (s : List UInt8) : Nat → Nat → List UInt8 → List FmD × Nat × List UInt8
  | 0, a, C => ([], a, C)
  | f + 1, a, C => match frR s C a with
    | some (X, b) => (X :: (scF s f b (nxtB C X)).1, (scF s f b (nxtB C X)).2)
    | none => ([], a, C)
def scJ (s : List UInt8) : List FmD × Nat × List UInt8 := scF s (s.length + 1) 0 begB
theorem scF_some {s C : List UInt8} {f a b : Nat} {X : FmD} (h : frR s C a = some (X, b)) : scF s (f + 1) a C = (X :: (scF s f b (nxtB C X)).1, (scF s f b (nxtB C X)).2) := by rw [scF, h]
theorem scF_none {s C : List UInt8} {f a : Nat} (h : frR s C a = none) : scF s (f + 1) a C = ([], a, C) := by rw [scF, h]
end Go.Proofs.YtemdmdgigmhlbaaGreat

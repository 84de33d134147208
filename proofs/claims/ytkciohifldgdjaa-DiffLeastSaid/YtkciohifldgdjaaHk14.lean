
/- hunk: two hunks that are apart, in the other order, do the same; lists alone. -/
import Derived.Test.YtkciohifldgdjaaHk11
set_option linter.unusedSimpArgs false
set_option linter.unusedVariables false
namespace Go.Proofs.Ytkciohifldgdjaa
open Go.RowKit Go.Qc Go.Shelf

theorem apR_get {ls : List (List UInt8)} {at' : Int} {old new : List (List UInt8)} (h : (apR ls at' old new).2 = 0) :
    ∃ P S, at' = (P.length : Int) ∧ ls = P ++ (old ++ S) ∧ (apR ls at' old new).1 = P ++ (new ++ S) ∧ linesR ls = true ∧ hunkR at' old new = true := by
  have hl : linesR ls = true := by
    cases hx : linesR ls with
    | true => rfl
    | false => unfold apR at h; rw [hx] at h; cases h
  have hR : hunkR at' old new = true := by
    cases hx : hunkR at' old new with
    | true => rfl
    | false => unfold apR appR at h; rw [hl, if_pos rfl, hx, if_pos rfl] at h; cases h
  have hk : ¬ (ls.length : Int) < at' := fun hx => by unfold apR appR at h; rw [hl, if_pos rfl, hR, if_neg (by simp), if_pos hx] at h; cases h
  have hF : fitR ls old at'.toNat = true := by
    cases hx : fitR ls old at'.toNat with
    | true => rfl
    | false => unfold apR appR at h; rw [hl, if_pos rfl, hR, if_neg (by simp), if_neg hk, hx, if_pos rfl] at h; cases h
  have hlo : ¬ 1000 < ls.length - old.length + new.length := fun hx => by unfold apR appR at h; rw [hl, if_pos rfl, hR, if_neg (by simp), if_neg hk, hF, if_neg (by simp), if_pos hx] at h; cases h
  have hP : (apR ls at' old new) = (ls.take at'.toNat ++ (new ++ ls.drop (at'.toNat + old.length)), 0) := by
    unfold apR appR
    rw [hl, if_pos rfl, hR, if_neg (by simp), if_neg hk, hF, if_neg (by simp), if_neg hlo]
  obtain ⟨h0, h1⟩ := hunkR_at hR
  obtain ⟨a, rfl⟩ : ∃ a : Nat, at' = a := ⟨at'.toNat, by omega⟩
  rw [Int.toNat_natCast] at *
  unfold fitR at hF
  rw [Bool.and_eq_true, decide_eq_true_eq, decide_eq_true_eq] at hF
  obtain ⟨hle, heq⟩ := hF
  refine ⟨ls.take a, ls.drop (a + old.length), by rw [List.length_take]; omega, ?_, by rw [hP], hl, hR⟩
  have e1 : ls.drop a = old ++ ls.drop (a + old.length) := by
    conv => lhs; rw [← List.take_append_drop old.length (ls.drop a), heq, List.drop_drop]
  rw [← e1, List.take_append_drop]
end Go.Proofs.Ytkciohifldgdjaa

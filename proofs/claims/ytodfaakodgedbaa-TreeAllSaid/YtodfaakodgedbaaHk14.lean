
/- hunk: two hunks that are apart, in the other order, do the same; lists alone. -/
import Derived.Test.YtodfaakodgedbaaHk11
set_option linter.unusedSimpArgs false
set_option linter.unusedVariables false
namespace Go.Proofs.Ytodfaakodgedbaa
open Go.RowKit Go.Qc Go.Shelf

theorem apR_get {ls : List (List UInt8)} {at' : Int} {old new : List (List UInt8)} (h : (apR ls at' old new).2 = 0) :
    ∃ P S, at' = (P.length : Int) ∧ ls = P ++ (old ++ S) ∧ (apR ls at' old new).1 = P ++ (new ++ S) ∧ linesR ls = true ∧ hunkR at' old new = true := by
  have hl : linesR ls = true := by
    cases hx : linesR ls with
    | true => rfl
    | false => unfold apR at h; rw [hx] at h; cases h
  have hR : hunkR at' old new = true := by
    cases hx : hunkR at' old new with
    | true => rfl
    | false => unfold apR appR at h; rw [hl, if_pos rfl, hx, if_pos rfl] at h; cases h
  have hk : ¬ (ls.length : Int) < at' := fun hx => by unfold apR appR at h; rw [hl, if_pos rfl, hR, if_neg (by simp), if_pos hx] at h; cases h
  have hF : fitR ls old at'.toNat = true := by
    cases hx : fitR ls old at'.toNat with
    | true => rfl
    | false => unfold apR appR at h; rw [hl, if_pos rfl, hR, if_neg (by simp), if_neg hk, hx, if_pos rfl] at h; cases h
  have hlo : ¬ 1000 < ls.length - old.length + new.length := fun hx => by unfold apR appR at h; rw [hl, if_pos rfl, hR, if_neg (by simp), if_neg hk, hF, if_neg (by simp), if_pos hx] at h; cases h
  have hP : (apR ls at' old new) = (ls.take at'.toNat ++ (new ++ ls.drop (at'.toNat + old.length)), 0) := by
    unfold apR appR
    rw [hl, if_pos rfl, hR, if_neg (by simp), if_neg hk, hF, if_neg (by simp), if_neg hlo]
  obtain ⟨h0, h1⟩ := hunkR_at hR
  obtain ⟨a, rfl⟩ : ∃ a : Nat, at' = a := ⟨at'.toNat, by omega⟩
  rw [Int.toNat_natCast] at *
  unfold fitR at hF
  rw [Bool.and_eq_true, decide_eq_true_eq, decide_eq_true_eq] at hF
  obtain ⟨hle, heq⟩ := hF
  refine ⟨ls.take a, ls.drop (a + old.length), by rw [List.length_take]; omega, ?_, by rw [hP], hl, hR⟩
  have e1 : ls.drop a = old ++ ls.drop (a + old.length) := by
    conv => lhs; rw [← List.take_append_drop old.length (ls.drop a), heq, List.drop_drop]
  rw [← e1, List.take_append_drop]
theorem apR_put {P old new S : List (List UInt8)} (hl : linesR (P ++ (old ++ S)) = true) (hR : hunkR (P.length : Int) old new = true) (hlo : (P ++ (new ++ S)).length ≤ 1000) :
    apR (P ++ (old ++ S)) (P.length : Int) old new = (P ++ (new ++ S), 0) := by
  have hlen : (P ++ (old ++ S)).length = P.length + (old.length + S.length) := by rw [List.length_append, List.length_append]
  have hlen2 : (P ++ (new ++ S)).length = P.length + (new.length + S.length) := by rw [List.length_append, List.length_append]
  rw [hlen2] at hlo
  have d1 : (P ++ (old ++ S)).drop P.length = old ++ S := List.drop_left
  have t1 : (P ++ (old ++ S)).take P.length = P := List.take_left
  have d2 : (P ++ (old ++ S)).drop (P.length + old.length) = S := by rw [← List.drop_drop, d1, List.drop_left]
  have hF : fitR (P ++ (old ++ S)) old P.length = true := by
    unfold fitR
    rw [hlen, d1, List.take_left, decide_eq_true (by omega), decide_eq_true rfl]; rfl
  unfold apR appR
  rw [hl, if_pos rfl, hR, if_neg (by simp), if_neg (by rw [hlen]; omega), Int.toNat_natCast, hF, if_neg (by simp), if_neg (by rw [hlen]; omega), t1, d2]
end Go.Proofs.Ytodfaakodgedbaa

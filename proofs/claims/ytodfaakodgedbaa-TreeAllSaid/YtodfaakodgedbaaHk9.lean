
/- hunk: what came in; what a hunk makes, and that its other way undoes it. -/
import Derived.Test.YtodfaakodgedbaaHk7
set_option linter.unusedSimpArgs false
set_option linter.unusedVariables false
namespace Go.Proofs.Ytodfaakodgedbaa
open Go.RowKit Go.Qc Go.Shelf

section
open Go.ChangeShapes Go.WideShapes Go.ChangeAt
variable {H : Type} {enc : TypeId × Value → H} {w : World} {r : Reach} {base b0 : Nat} {sp : Nat → Bool} {hd : Bool}
end
/-- What Apply tells, of lines and a hunk. -/
def apR (ls : List (List UInt8)) (at' : Int) (old new : List (List UInt8)) : List (List UInt8) × Int := if linesR ls then appR ls at' old new else ([], 3)
theorem apR_fst (ls : List (List UInt8)) (at' : Int) (old new : List (List UInt8)) : (apR ls at' old new).1 = if linesR ls then (appR ls at' old new).1 else [] := by unfold apR; split <;> rfl
theorem apR_snd (ls : List (List UInt8)) (at' : Int) (old new : List (List UInt8)) : (apR ls at' old new).2 = if linesR ls then (appR ls at' old new).2 else 3 := by unfold apR; split <;> rfl
theorem hunkR_swap (at' : Int) (old new : List (List UInt8)) : hunkR at' new old = hunkR at' old new := by
  unfold hunkR
  rw [Nat.add_comm new.length old.length]
  cases linesR old <;> cases linesR new <;> rfl
/-- A hunk's other way undoes it. -/
theorem apR_back (ls : List (List UInt8)) (at' : Int) (old new : List (List UInt8)) (h : (apR ls at' old new).2 = 0) : apR (apR ls at' old new).1 at' new old = (ls, 0) ∧ (apR ls at' old new).1.length ≤ 1000 := by
  have hl : linesR ls = true := by
    cases hx : linesR ls with
    | true => rfl
    | false => unfold apR at h; rw [hx] at h; cases h
  have hR : hunkR at' old new = true := by
    cases hx : hunkR at' old new with
    | true => rfl
    | false => unfold apR appR at h; rw [hl, if_pos rfl, hx, if_pos rfl] at h; cases h
  have hk : ¬ (ls.length : Int) < at' := fun hx => by unfold apR appR at h; rw [hl, if_pos rfl, hR, if_neg (by simp), if_pos hx] at h; cases h
  have hF : fitR ls old at'.toNat = true := by
    cases hx : fitR ls old at'.toNat with
    | true => rfl
    | false => unfold apR appR at h; rw [hl, if_pos rfl, hR, if_neg (by simp), if_neg hk, hx, if_pos rfl] at h; cases h
  have hlo : ¬ 1000 < ls.length - old.length + new.length := fun hx => by unfold apR appR at h; rw [hl, if_pos rfl, hR, if_neg (by simp), if_neg hk, hF, if_neg (by simp), if_pos hx] at h; cases h
  have hP : (apR ls at' old new) = (ls.take at'.toNat ++ (new ++ ls.drop (at'.toNat + old.length)), 0) := by
    unfold apR appR
    rw [hl, if_pos rfl, hR, if_neg (by simp), if_neg hk, hF, if_neg (by simp), if_neg hlo]
  rw [hP]
  obtain ⟨h0, h1⟩ := hunkR_at hR
  obtain ⟨a, rfl⟩ : ∃ a : Nat, at' = a := ⟨at'.toNat, by omega⟩
  rw [Int.toNat_natCast] at *
  unfold fitR at hF
  rw [Bool.and_eq_true, decide_eq_true_eq, decide_eq_true_eq] at hF
  obtain ⟨hle, heq⟩ := hF
  simp only
  have hlenR : (ls.take a ++ (new ++ ls.drop (a + old.length))).length = a + (new.length + (ls.length - (a + old.length))) := by
    rw [List.length_append, List.length_append, List.length_take, List.length_drop]; omega
  have hll := hl
  unfold linesR at hll
  rw [Bool.and_eq_true, decide_eq_true_eq, List.all_eq_true] at hll
  have hnew : linesR new = true := by
    have := hR
    unfold hunkR at this
    simp only [Bool.and_eq_true] at this
    exact this.2.2.2.1
  have hnn := hnew
  unfold linesR at hnn
  rw [Bool.and_eq_true, decide_eq_true_eq, List.all_eq_true] at hnn
  have hta : (ls.take a).length = a := by rw [List.length_take]; omega
  have hRl : linesR (ls.take a ++ (new ++ ls.drop (a + old.length))) = true := by
    unfold linesR
    rw [Bool.and_eq_true, decide_eq_true_eq, List.all_eq_true]
    refine ⟨by rw [hlenR]; omega, fun x hx => ?_⟩
    rcases List.mem_append.1 hx with hx | hx
    · exact hll.2 x (List.mem_of_mem_take hx)
    · rcases List.mem_append.1 hx with hx | hx
      · exact hnn.2 x hx
      · exact hll.2 x (List.mem_of_mem_drop hx)
  have d1 : (ls.take a ++ (new ++ ls.drop (a + old.length))).drop a = new ++ ls.drop (a + old.length) := List.drop_left' hta
  have hF2 : fitR (ls.take a ++ (new ++ ls.drop (a + old.length))) new a = true := by
    unfold fitR
    rw [hlenR, d1, List.take_left, decide_eq_true (by omega), decide_eq_true rfl]; rfl
  refine ⟨?_, by rw [hlenR]; omega⟩
  unfold apR appR
  rw [hRl, if_pos rfl, hunkR_swap, hR, if_neg (by simp), if_neg (by rw [hlenR]; omega), Int.toNat_natCast, hF2, if_neg (by simp), if_neg (by rw [hlenR]; omega)]
  have t1 : (ls.take a ++ (new ++ ls.drop (a + old.length))).take a = ls.take a := List.take_left' hta
  have t2 : (ls.take a ++ (new ++ ls.drop (a + old.length))).drop (a + new.length) = ls.drop (a + old.length) := by
    rw [← List.drop_drop, d1, List.drop_left]
  rw [t1, t2]
  congr 1
  have e1 : ls.drop a = old ++ ls.drop (a + old.length) := by
    conv => lhs; rw [← List.take_append_drop old.length (ls.drop a), heq, List.drop_drop]
  rw [← e1, List.take_append_drop]
end Go.Proofs.Ytodfaakodgedbaa

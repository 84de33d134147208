
/- hunk: two hunks that are apart, in the other order, do the same; lists alone. -/
import Derived.Test.YtlbmikjgpaeddaaHk12
set_option linter.unusedSimpArgs false
set_option linter.unusedVariables false
namespace Go.Proofs.Ytlbmikjgpaeddaa
open Go.RowKit Go.Qc Go.Shelf

theorem apR_get {ls : List (List UInt8)} {at' : Int} {old new : List (List UInt8)} (h : (apR ls at' old new).2 = 0) :
    ∃ P S, at' = (P.length : Int) ∧ ls = P ++ (old ++ S) ∧ (apR ls at' old new).1 = P ++ (new ++ S) ∧ linesR ls = true ∧ hunkR at' old new = true := by
  have hl : linesR ls = true := by
    cases hx : linesR ls with
    | true => rfl
    | false => unfold apR at h; rw [hx] at h; cases h
  have hR : hunkR at' old new = true := by
    cases hx : hunkR at' old new with
    | true => rfl
    | false => unfold apR appR at h; rw [hl, if_pos rfl, hx, if_pos rfl] at h; cases h
  have hk : ¬ (ls.length : Int) < at' := fun hx => by unfold apR appR at h; rw [hl, if_pos rfl, hR, if_neg (by simp), if_pos hx] at h; cases h
  have hF : fitR ls old at'.toNat = true := by
    cases hx : fitR ls old at'.toNat with
    | true => rfl
    | false => unfold apR appR at h; rw [hl, if_pos rfl, hR, if_neg (by simp), if_neg hk, hx, if_pos rfl] at h; cases h
  have hlo : ¬ 1000 < ls.length - old.length + new.length := fun hx => by unfold apR appR at h; rw [hl, if_pos rfl, hR, if_neg (by simp), if_neg hk, hF, if_neg (by simp), if_pos hx] at h; cases h
  have hP : (apR ls at' old new) = (ls.take at'.toNat ++ (new ++ ls.drop (at'.toNat + old.length)), 0) := by
    unfold apR appR
    rw [hl, if_pos rfl, hR, if_neg (by simp), if_neg hk, hF, if_neg (by simp), if_neg hlo]
  obtain ⟨h0, h1⟩ := hunkR_at hR
  obtain ⟨a, rfl⟩ : ∃ a : Nat, at' = a := ⟨at'.toNat, by omega⟩
  rw [Int.toNat_natCast] at *
  unfold fitR at hF
  rw [Bool.and_eq_true, decide_eq_true_eq, decide_eq_true_eq] at hF
  obtain ⟨hle, heq⟩ := hF
  refine ⟨ls.take a, ls.drop (a + old.length), by rw [List.length_take]; omega, ?_, by rw [hP], hl, hR⟩
  have e1 : ls.drop a = old ++ ls.drop (a + old.length) := by
    conv => lhs; rw [← List.take_append_drop old.length (ls.drop a), heq, List.drop_drop]
  rw [← e1, List.take_append_drop]
theorem apR_put {P old new S : List (List UInt8)} (hl : linesR (P ++ (old ++ S)) = true) (hR : hunkR (P.length : Int) old new = true) (hlo : (P ++ (new ++ S)).length ≤ 1000) :
    apR (P ++ (old ++ S)) (P.length : Int) old new = (P ++ (new ++ S), 0) := by
  have hlen : (P ++ (old ++ S)).length = P.length + (old.length + S.length) := by rw [List.length_append, List.length_append]
  have hlen2 : (P ++ (new ++ S)).length = P.length + (new.length + S.length) := by rw [List.length_append, List.length_append]
  rw [hlen2] at hlo
  have d1 : (P ++ (old ++ S)).drop P.length = old ++ S := List.drop_left
  have t1 : (P ++ (old ++ S)).take P.length = P := List.take_left
  have d2 : (P ++ (old ++ S)).drop (P.length + old.length) = S := by rw [← List.drop_drop, d1, List.drop_left]
  have hF : fitR (P ++ (old ++ S)) old P.length = true := by
    unfold fitR
    rw [hlen, d1, List.take_left, decide_eq_true (by omega), decide_eq_true rfl]; rfl
  unfold apR appR
  rw [hl, if_pos rfl, hR, if_neg (by simp), if_neg (by rw [hlen]; omega), Int.toNat_natCast, hF, if_neg (by simp), if_neg (by rw [hlen]; omega), t1, d2]
theorem linesR_of {l : List (List UInt8)} (h : l.length ≤ 1000) (ha : ∀ x ∈ l, lineR x = true) : linesR l = true := by
  unfold linesR
  rw [Bool.and_eq_true, decide_eq_true_eq, List.all_eq_true]
  exact ⟨h, ha⟩
theorem linesR_at {l : List (List UInt8)} (h : linesR l = true) : l.length ≤ 1000 ∧ ∀ x ∈ l, lineR x = true := by
  unfold linesR at h
  rw [Bool.and_eq_true, decide_eq_true_eq, List.all_eq_true] at h
  exact h
theorem hunkR_move {s s' : Int} {a b : List (List UInt8)} (h : hunkR s a b = true) (h0 : 0 ≤ s') (h1 : s' ≤ 1000) : hunkR s' a b = true := by
  unfold hunkR at h ⊢
  simp only [Bool.and_eq_true, decide_eq_true_eq] at h ⊢
  exact ⟨h0, h1, h.2.2⟩
theorem hunkR_lines {s : Int} {a b : List (List UInt8)} (h : hunkR s a b = true) : linesR a = true ∧ linesR b = true := by
  unfold hunkR at h
  simp only [Bool.and_eq_true, decide_eq_true_eq] at h
  exact ⟨h.2.2.1, h.2.2.2.1⟩
theorem pre_split {α : Type} {X Y : List α} (h : X = Y.take X.length) : ∃ M, Y = X ++ M := by
  have e := (List.take_append_drop X.length Y).symm
  rw [← h] at e
  exact ⟨_, e⟩
/-- Two hunks that are apart, in the other order. -/
theorem swap_same {L : List (List UInt8)} {s : Int} {a1 a2 : List (List UInt8)} {t : Int} {b1 b2 : List (List UInt8)} (hap : apartR s a1 a2 t b1 b2 = true)
    (h1 : (apR L s a1 a2).2 = 0) (h2 : (apR (apR L s a1 a2).1 t b1 b2).2 = 0) (kl : L.length ≤ 60) (k2 : a2.length ≤ 60) (k3 : b2.length ≤ 60) (t' s' : Int)
    (ht : t' = if t < s then t else t - ((a2.length : Int) - a1.length)) (hs : s' = if t < s then s + ((b2.length : Int) - b1.length) else s) :
    (apR L t' b1 b2).2 = 0 ∧ apR (apR L t' b1 b2).1 s' a1 a2 = ((apR (apR L s a1 a2).1 t b1 b2).1, 0) := by
  obtain ⟨P, S, e1, e2, e3, l1, r1⟩ := apR_get h1
  obtain ⟨Q, R, f1, f2, f3, l2, r2⟩ := apR_get h2
  rw [f3]
  rw [e3] at f2
  have hb := (hunkR_lines r2).2
  have g1 := (linesR_at l1).2
  have g2 := (linesR_at hb).2
  have kLen : P.length + (a1.length + S.length) ≤ 60 := by rw [e2] at kl; simpa using kl
  have fLen : P.length + (a2.length + S.length) = Q.length + (b1.length + R.length) := by have := congrArg List.length f2; simpa using this
  unfold apartR at hap
  rw [Bool.and_eq_true, Bool.and_eq_true, Bool.or_eq_true, decide_eq_true_eq, decide_eq_true_eq] at hap
  rcases hap.2.2 with hq | hq
  · have hlt : t < s := by omega
    rw [if_pos hlt] at ht hs
    -- P is Q, the second's old lines, and what lies between
    have hle : (Q ++ b1).length ≤ P.length := by rw [List.length_append]; omega
    have hpre : Q ++ b1 = P.take (Q ++ b1).length := by
      have : (Q ++ (b1 ++ R)).take (Q ++ b1).length = Q ++ b1 := by rw [← List.append_assoc, List.take_left]
      rw [← f2, List.take_append_of_le_length hle] at this
      exact this.symm
    obtain ⟨M, hM⟩ := pre_split hpre
    have hR' : R = M ++ (a2 ++ S) := by
      rw [hM, List.append_assoc, List.append_assoc] at f2
      exact (List.append_cancel_left (List.append_cancel_left f2)).symm
    have pl : P.length = Q.length + b1.length + M.length := by rw [hM]; simp; omega
    have eL : L = Q ++ (b1 ++ (M ++ (a1 ++ S))) := by rw [e2, hM]; simp
    have hA : apR L t' b1 b2 = (Q ++ (b2 ++ (M ++ (a1 ++ S))), 0) := by
      rw [eL, ht, f1]
      refine apR_put (by rw [← eL]; exact l1) (by rw [← f1]; exact r2) ?_
      simp; omega
    rw [hA]
    refine ⟨rfl, ?_⟩
    have e5 : Q ++ (b2 ++ (M ++ (a1 ++ S))) = (Q ++ (b2 ++ M)) ++ (a1 ++ S) := by simp
    have e6 : s' = ((Q ++ (b2 ++ M)).length : Int) := by rw [hs, e1]; simp; omega
    simp only
    rw [e5, e6, apR_put ?_ ?_ ?_]
    · rw [hR']; simp
    · rw [← e5]
      refine linesR_of (by simp; omega) ?_
      intro x hx
      simp only [List.mem_append] at hx
      rcases hx with hx | hx | hx | hx | hx
      · exact g1 x (by rw [eL]; simp [hx])
      · exact g2 x hx
      · exact g1 x (by rw [eL]; simp [hx])
      · exact g1 x (by rw [eL]; simp [hx])
      · exact g1 x (by rw [eL]; simp [hx])
    · exact hunkR_move r1 (by omega) (by simp; omega)
    · simp; omega
  · have hlt : ¬ t < s := by omega
    rw [if_neg hlt] at ht hs
    have hle : (P ++ a2).length ≤ Q.length := by rw [List.length_append]; omega
    have hpre : P ++ a2 = Q.take (P ++ a2).length := by
      have : (P ++ (a2 ++ S)).take (P ++ a2).length = P ++ a2 := by rw [← List.append_assoc, List.take_left]
      rw [f2, List.take_append_of_le_length hle] at this
      exact this.symm
    obtain ⟨M, hM⟩ := pre_split hpre
    have hS' : S = M ++ (b1 ++ R) := by
      rw [hM, List.append_assoc, List.append_assoc] at f2
      exact List.append_cancel_left (List.append_cancel_left f2)
    have ql : Q.length = P.length + a2.length + M.length := by rw [hM]; simp; omega
    have sl : S.length = M.length + (b1.length + R.length) := by rw [hS']; simp
    have eL : L = (P ++ (a1 ++ M)) ++ (b1 ++ R) := by rw [e2, hS']; simp
    have e6 : t' = ((P ++ (a1 ++ M)).length : Int) := by rw [ht, f1, ql]; simp; omega
    have hA : apR L t' b1 b2 = ((P ++ (a1 ++ M)) ++ (b2 ++ R), 0) := by
      rw [eL, e6]
      refine apR_put (by rw [← eL]; exact l1) (hunkR_move r2 (by omega) (by simp; omega)) ?_
      simp; omega
    rw [hA]
    refine ⟨rfl, ?_⟩
    have e5 : (P ++ (a1 ++ M)) ++ (b2 ++ R) = P ++ (a1 ++ (M ++ (b2 ++ R))) := by simp
    simp only
    rw [e5, hs, e1, apR_put ?_ ?_ ?_]
    · rw [hM]; simp
    · rw [← e5]
      refine linesR_of (by simp; omega) ?_
      intro x hx
      simp only [List.mem_append] at hx
      rcases hx with (hx | hx | hx) | hx | hx
      · exact g1 x (by rw [eL]; simp [hx])
      · exact g1 x (by rw [eL]; simp [hx])
      · exact g1 x (by rw [eL]; simp [hx])
      · exact g2 x hx
      · exact g1 x (by rw [eL]; simp [hx])
    · rw [← e1]; exact r1
    · simp; omega
end Go.Proofs.Ytlbmikjgpaeddaa

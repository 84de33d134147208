
/- journal: the bytes of a frame that is read are where it was read (no walk). -/
import Derived.Test.YtemdmdgigmhlbaaGreatJn19
import Derived.Test.YtemdmdgigmhlbaaGreatRsA
set_option linter.unusedSimpArgs false
set_option linter.unusedVariables false
namespace Go.Proofs.YtemdmdgigmhlbaaGreat
open Go.RowKit Go.Qc Go.Shelf
theorem textR_once {m : Int} {l t : List UInt8} {n : Nat} (htx : textR m l = .ok (t, n)) : n ≤ l.length ∧ l = textE t ++ l.drop n := by
  unfold textR cntN at htx
  cases hsc : scanN 0 0 l with
  | error e => rw [hsc] at htx; cases htx
  | ok p =>
    obtain ⟨v, k0⟩ := p
    rw [hsc] at htx
    obtain ⟨k, X, hn, hk, hkl, hv, hX, _, hb⟩ := scanN_back _ _ _ _ _ hsc
    have hnk : k0 = k := by omega
    have hvX : v = X := by rw [hv]; simp
    subst hnk hvX
    simp only at htx
    split at htx
    · rename_i v2 n2 heq
      split at heq
      · cases heq
      · injection heq with heq
        injection heq with q1 q2
        subst q1 q2
        split at htx
        · rename_i hle
          injection htx with htx
          injection htx with q3 q4
          subst q3 q4
          have htl : ((l.drop k0).take v).length = v := by rw [List.length_take, List.length_drop]; omega
          refine ⟨hle, ?_⟩
          unfold textE
          rw [htl, hX, List.append_assoc, ← List.drop_drop, List.take_append_drop, List.take_append_drop]
        · cases htx
    · rename_i heq
      split at heq
      · injection heq with heq; subst heq; cases htx
      · cases heq
theorem textR_errJ {m : Int} {l : List UInt8} {e : Int} (h : textR m l = .error e) : e ≠ 0 := by
  unfold textR at h
  split at h
  · split at h
    · cases h
    · injection h with h; subst h; decide
  · rename_i e2 he
    injection h with h; subst h
    exact cntN_err _ _ _ he
theorem stB_zeroJ {s : List UInt8} {a : Nat} {e : Int} (h : (stBJ s a e).2 = 0) : e = 0 ∧ s.drop a = vaBJ s a e :: s.drop (stBJ s a e).1 := by
  unfold stBJ at h ⊢
  unfold vaBJ
  split at h
  · rename_i he
    refine ⟨he, ?_⟩
    rw [if_pos he]
    cases hd : s.drop a with
    | nil => rw [hd] at h; simp [byteR] at h
    | cons x t =>
      simp only [byteR, if_pos he]
      rw [← List.drop_drop, hd]
      rfl
  · rename_i he; exact absurd h he
theorem stT_zeroJ {m : Int} {s : List UInt8} {a : Nat} {e : Int} (h : (stTJ m s a e).2 = 0) : e = 0 ∧ s.drop a = textE (vaTJ m s a e) ++ s.drop (stTJ m s a e).1 := by
  unfold stTJ at h ⊢
  unfold vaTJ
  split at h
  · rename_i he
    refine ⟨he, ?_⟩
    rw [if_pos he, if_pos he]
    cases hx : textR m (s.drop a) with
    | error e' => rw [hx] at h; exact absurd h (textR_errJ hx)
    | ok p =>
      obtain ⟨t, n⟩ := p
      have := (textR_once hx).2
      rw [List.drop_drop] at this
      exact this
  · rename_i he; exact absurd h he
theorem sl_zeroJ {s : List UInt8} {a : Nat} {e : Int} : ∀ k, (slJ s a e k).2.2 = 0 → e = 0 ∧ s.drop a = (slJ s a e k).1 ++ s.drop (slJ s a e k).2.1
  | 0, h => ⟨h, rfl⟩
  | k + 1, h => by
    rw [slJ] at h ⊢
    simp only at h ⊢
    obtain ⟨h1, h2⟩ := stB_zeroJ h
    obtain ⟨h3, h4⟩ := sl_zeroJ k h1
    refine ⟨h3, ?_⟩
    rw [h4, h2, List.append_assoc]
    rfl
theorem frR_bytes {s C : List UInt8} {a b : Nat} {X : FmD} (h : frR s C a = some (X, b)) : s.drop a = frB C X ++ s.drop b := by
  unfold frR at h
  split at h
  · cases h
  · rename_i h74
    split at h
    · cases h
    · rename_i hs
      split at h
      · cases h
      · rename_i hok
        split at h
        · cases h
        · rename_i hn
          injection h with h
          injection h with q1 q2
          subst q1 q2
          have h74' : vaBJ s a 0 = 74 := by simpa using h74
          have hs' : (sJ s a).2.2 = 0 := by simpa using hs
          have hn' : (sJ s a).1 = (nxtB C (fJ s a)).take 8 := by simpa using hn
          have hok' : (fJ s a).okF := by simpa using hok
          unfold sJ at hs'
          obtain ⟨p1, p2⟩ := sl_zeroJ 8 hs'
          have p1' : (stTJ 4194304 s (kS s a).1 (kS s a).2).2 = 0 := p1
          obtain ⟨t1, t2⟩ := stT_zeroJ p1'
          have t1' : (stBJ s (stBJ s a 0).1 (stBJ s a 0).2).2 = 0 := t1
          obtain ⟨k1, k2⟩ := stB_zeroJ t1'
          obtain ⟨_, z2⟩ := stB_zeroJ k1
          have hk : kB (fJ s a) = kJ s a := by
            have := kB_nat hok'
            apply UInt8.toNat_inj.1
            have e1 : (fJ s a).k = ((kJ s a).toNat : Int) := rfl
            omega
          rw [z2, h74', k2]
          have e2 : s.drop (stBJ s (stBJ s a 0).1 (stBJ s a 0).2).1 = textE (pJ s a) ++ s.drop (pS s a).1 := t2
          have e3 : s.drop (pS s a).1 = (sJ s a).1 ++ s.drop (sJ s a).2.1 := p2
          rw [e2, e3, hn']
          unfold frB
          rw [hk]
          simp [fJ, kJ]
theorem scF_bytes {s : List UInt8} : ∀ (f a : Nat) (C : List UInt8), a ≤ s.length →
    okJ (scF s f a C).1 ∧ s.drop a = rsB C (scF s f a C).1 ++ s.drop (scF s f a C).2.1 ∧ (scF s f a C).2.1 ≤ s.length ∧ (∀ X ∈ (scF s f a C).1, X.p.length ≤ s.length) ∧ 10 * (scF s f a C).1.length ≤ s.length - a ∧ chB C (scF s f a C).1 = (scF s f a C).2.2
  | 0, a, C, h => ⟨by intro X hX; simp [scF] at hX, rfl, h, by intro X hX; simp [scF] at hX, by simp [scF], rfl⟩
  | f + 1, a, C, h => by
    cases hf : frR s C a with
    | none => rw [scF_none hf]; exact ⟨by intro X hX; simp at hX, rfl, h, by intro X hX; simp at hX, by simp, rfl⟩
    | some p =>
      obtain ⟨X, b⟩ := p
      rw [scF_some hf]
      obtain ⟨g1, g2, g3, g4⟩ := frR_some hf h
      obtain ⟨i1, i2, i3, i4, i5, i6⟩ := scF_bytes f b (nxtB C X) g2
      refine ⟨?_, ?_, i3, ?_, ?_, i6⟩
      · intro Y hY
        rcases List.mem_cons.1 hY with rfl | hY
        · exact g3
        · exact i1 Y hY
      · rw [frR_bytes hf, i2, rsB, List.append_assoc]
      · intro Y hY
        rcases List.mem_cons.1 hY with rfl | hY
        · exact g4
        · exact i4 Y hY
      · have h10 : 10 ≤ (frB C X).length := by
          simp only [frB, List.length_cons, List.length_append, List.length_take, nxtB_length]
          omega
        have hl := congrArg List.length (frR_bytes hf)
        rw [List.length_append, List.length_drop, List.length_drop] at hl
        simp only [List.length_cons]; omega
/-- What is scanned is the text's beginning. -/
theorem scJ_bytes (s : List UInt8) : okJ (scJ s).1 ∧ (stJ (scJ s).1).1 = s.take (scJ s).2.1 ∧ (scJ s).2.1 ≤ s.length ∧ (∀ X ∈ (scJ s).1, X.p.length ≤ s.length) ∧ 10 * (scJ s).1.length ≤ s.length ∧ (scJ s).2.2 = (stJ (scJ s).1).2 := by
  obtain ⟨h1, h2, h3, h4, h5, h7⟩ := scF_bytes (s := s) (s.length + 1) 0 begB (Nat.zero_le _)
  refine ⟨h1, ?_, h3, h4, Nat.le_trans h5 (Nat.sub_le _ _), by rw [stJ_rsB]; exact h7.symm⟩
  rw [stJ_rsB]
  have h2' : s = rsB begB (scJ s).1 ++ s.drop (scJ s).2.1 := h2
  have h6 : s.take (scJ s).2.1 ++ s.drop (scJ s).2.1 = rsB begB (scJ s).1 ++ s.drop (scJ s).2.1 := by rw [List.take_append_drop]; exact h2'
  exact (List.append_cancel_right h6).symm
end Go.Proofs.YtemdmdgigmhlbaaGreat


/- Numbers: 65519 is prime, and what Fermat says of it. Of no program. -/
import Derived.ChangeShapes
set_option linter.unusedVariables false
namespace Go.Qc

/-- Binomials, by Pascal's rule. -/
def chs : Nat → Nat → Nat
  | _, 0 => 1
  | 0, _ + 1 => 0
  | n + 1, k + 1 => chs n k + chs n (k + 1)
theorem chs_zero (n : Nat) : chs n 0 = 1 := by cases n <;> rfl
theorem chs_above (n : Nat) : ∀ k, n < k → chs n k = 0 := by
  induction n with
  | zero => intro k h; cases k with
    | zero => omega
    | succ k => rfl
  | succ n ih => intro k h; cases k with
    | zero => omega
    | succ k => show chs n k + chs n (k + 1) = 0; rw [ih k (by omega), ih (k + 1) (by omega)]
theorem chs_self (n : Nat) : chs n n = 1 := by
  induction n with
  | zero => rfl
  | succ n ih => show chs n n + chs n (n + 1) = 1; rw [ih, chs_above n (n + 1) (by omega)]
theorem chs_absorb (n : Nat) : ∀ k, (k + 1) * chs (n + 1) (k + 1) = (n + 1) * chs n k := by
  induction n with
  | zero => intro k; cases k with
    | zero => rfl
    | succ k => show (k + 2) * (chs 0 (k + 1) + chs 0 (k + 2)) = 1 * chs 0 (k + 1); simp [chs]
  | succ n ih => intro k; cases k with
    | zero =>
      have h := ih 0
      show 1 * (chs (n + 1) 0 + chs (n + 1) 1) = (n + 2) * chs (n + 1) 0
      rw [chs_zero] at h
      rw [chs_zero]
      have h1 : chs (n + 1) 1 = n + 1 := by
        have : (0 + 1) * chs (n + 1) (0 + 1) = chs (n + 1) 1 := by rw [Nat.zero_add, Nat.one_mul]
        omega
      omega
    | succ k =>
      have h1 := ih k
      have h2 := ih (k + 1)
      have e : chs (n + 2) (k + 2) = chs (n + 1) (k + 1) + chs (n + 1) (k + 2) := rfl
      have e2 : chs (n + 1) (k + 1) = chs n k + chs n (k + 1) := rfl
      show (k + 2) * chs (n + 2) (k + 2) = (n + 2) * chs (n + 1) (k + 1)
      rw [e]
      have : (k + 2) * chs (n + 1) (k + 1) = (n + 1) * chs n k + chs (n + 1) (k + 1) := by grind
      grind
/-- The sum of the first m terms of (x + 1)^n. -/
def chsum (x n : Nat) : Nat → Nat
  | 0 => 0
  | m + 1 => chsum x n m + chs n m * x ^ m
theorem chsum_step (x n : Nat) : ∀ m, chsum x (n + 1) (m + 1) = x * chsum x n m + chsum x n (m + 1) := by
  intro m
  induction m with
  | zero => simp [chsum, chs_zero]
  | succ m ih =>
    show chsum x (n + 1) (m + 1) + chs (n + 1) (m + 1) * x ^ (m + 1) = x * (chsum x n m + chs n m * x ^ m) + (chsum x n (m + 1) + chs n (m + 1) * x ^ (m + 1))
    rw [ih]
    have e : chs (n + 1) (m + 1) = chs n m + chs n (m + 1) := rfl
    rw [e, Nat.pow_succ]
    grind
theorem binom (x n : Nat) : (x + 1) ^ n = chsum x n (n + 1) := by
  induction n with
  | zero => simp [chsum, chs]
  | succ n ih =>
    rw [chsum_step, show n + 1 + 1 = (n + 1) + 1 by rfl]
    have e : chsum x n (n + 1 + 1) = chsum x n (n + 1) := by
      show chsum x n (n + 1) + chs n (n + 1) * x ^ (n + 1) = _
      rw [chs_above n (n + 1) (by omega), Nat.zero_mul, Nat.add_zero]
    rw [e, ← ih, Nat.pow_succ]
    grind

/-- No number from 2 up to below k divides p. -/
def noDiv (p : Nat) : Nat → Bool
  | 0 => true
  | k + 1 => noDiv p k && (k < 2 || p % k != 0)
theorem noDiv_spec (p : Nat) : ∀ k, noDiv p k = true → ∀ d, 2 ≤ d → d < k → p % d ≠ 0 := by
  intro k
  induction k with
  | zero => intro _ d _ h; omega
  | succ k ih =>
    intro h d h2 hd
    unfold noDiv at h
    rw [Bool.and_eq_true] at h
    by_cases hk : d = k
    · subst hk
      have := h.2
      simp at this
      rcases this with h3 | h3 <;> omega
    · exact ih h.1 d h2 (by omega)
theorem no_small : noDiv 65519 256 = true := by decide +kernel
theorem prime5 (d : Nat) (h : d ∣ 65519) : d = 1 ∨ d = 65519 := by
  obtain ⟨e, he⟩ := h
  have hs := noDiv_spec 65519 256 no_small
  by_cases h1 : d = 1
  · exact .inl h1
  by_cases h2 : e = 1
  · subst h2; right; omega
  exfalso
  have hd0 : d ≠ 0 := by rintro rfl; omega
  have he0 : e ≠ 0 := by rintro rfl; omega
  by_cases h3 : d < 256
  · exact hs d (by omega) h3 (Nat.mod_eq_zero_of_dvd ⟨e, he⟩)
  · by_cases h4 : e < 256
    · exact hs e (by omega) h4 (Nat.mod_eq_zero_of_dvd ⟨d, by rw [he, Nat.mul_comm]⟩)
    · have := Nat.mul_le_mul (show 256 ≤ d by omega) (show 256 ≤ e by omega)
      omega
theorem euclid5 {a b : Nat} (h : 65519 ∣ a * b) (ha : ¬ 65519 ∣ a) : 65519 ∣ b := by
  have hc : Nat.Coprime 65519 a := by
    have hg := prime5 _ (Nat.gcd_dvd_left 65519 a)
    rcases hg with hg | hg
    · exact hg
    · exact absurd (hg ▸ Nat.gcd_dvd_right 65519 a) ha
  exact hc.dvd_of_dvd_mul_left h
theorem chs_dvd (k : Nat) (h0 : 0 < k) (h1 : k < 65519) : 65519 ∣ chs 65519 k := by
  obtain ⟨j, rfl⟩ : ∃ j, k = j + 1 := ⟨k - 1, by omega⟩
  have h := chs_absorb 65518 j
  refine euclid5 (a := j + 1) ⟨_, h⟩ ?_
  intro hd
  have := Nat.le_of_dvd (by omega) hd
  omega
theorem chsum_mod (x : Nat) : ∀ m, m < 65519 → chsum x 65519 (m + 1) % 65519 = 1 := by
  intro m
  induction m with
  | zero => intro _; simp [chsum, chs_zero]
  | succ m ih =>
    intro hm
    show (chsum x 65519 (m + 1) + chs 65519 (m + 1) * x ^ (m + 1)) % 65519 = 1
    have hd : 65519 ∣ chs 65519 (m + 1) * x ^ (m + 1) := Nat.dvd_trans (chs_dvd (m + 1) (by omega) hm) (Nat.dvd_mul_right ..)
    obtain ⟨c, hc⟩ := hd
    rw [hc, Nat.add_mul_mod_self_left]
    exact ih (by omega)
theorem frob (x : Nat) : (x + 1) ^ 65519 % 65519 = (x ^ 65519 + 1) % 65519 := by
  obtain ⟨p, hp⟩ : ∃ p, p = 65519 := ⟨_, rfl⟩
  have h := binom x p
  have h2 : chsum x p (p + 1) = chsum x p p + chs p p * x ^ p := rfl
  have h3 : chsum x p p % p = 1 := by
    have h := chsum_mod x 65518 (by decide)
    rw [hp]; exact h
  have h4 : chs p p * x ^ p = x ^ p := by rw [chs_self, Nat.one_mul]
  rw [← hp, h, h2, h4, Nat.add_mod, h3, Nat.add_comm 1, Nat.add_mod (x ^ p) 1]
  have h5 : 1 % p = 1 := by rw [hp]
  rw [h5]
theorem fermat (x : Nat) : x ^ 65519 % 65519 = x % 65519 := by
  obtain ⟨p, hp⟩ : ∃ p, p = 65519 := ⟨_, rfl⟩
  rw [← hp]
  induction x with
  | zero => rw [Nat.zero_pow (by omega)]
  | succ x ih =>
    have := frob x
    rw [← hp] at this
    rw [this, Nat.add_mod, ih, ← Nat.add_mod]
theorem fermat1 (x : Nat) (h : x % 65519 ≠ 0) : x ^ 65518 % 65519 = 1 := by
  have hf := fermat x
  obtain ⟨q, hq⟩ : ∃ q, q = 65518 := ⟨_, rfl⟩
  have hq1 : 65519 = q + 1 := by omega
  have hx : 0 < x := by
    rcases Nat.eq_zero_or_pos x with rfl | h1
    · simp at h
    · exact h1
  have hp1 : 1 ≤ x ^ q := Nat.pow_pos hx
  have e : x ^ 65519 = x * x ^ q := by rw [hq1, Nat.pow_succ, Nat.mul_comm]
  rw [e] at hf
  rw [← hq]
  have hd : 65519 ∣ x * (x ^ q - 1) := by
    rw [Nat.mul_sub, Nat.mul_one]
    exact Nat.dvd_of_mod_eq_zero (Nat.sub_mod_eq_zero_of_mod_eq hf)
  have := euclid5 hd (fun hd => h (Nat.mod_eq_zero_of_dvd hd))
  omega
end Go.Qc

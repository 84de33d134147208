
/- gauss: whatever float, as a whole number of least parts; when it is a residue's part. -/
import Derived.Test.YtdkeobpmenaljaaGs5
set_option linter.unusedSimpArgs false
set_option linter.unusedVariables false
namespace Go.Proofs.Ytdkeobpmenaljaa
open Go.RowKit Go.Qc Ieee

/-- What a number stands for, in least parts: its place is from -1074 on. -/
def valF (s : Bool) (m : Nat) (e : Int) : Int := if s then -((m * 2 ^ (e + 1074).toNat : Nat) : Int) else ((m * 2 ^ (e + 1074).toNat : Nat) : Int)
theorem signed_valF (s : Bool) (m : Nat) (e base : Int) (hb : base ≤ e) (h0 : -1074 ≤ base) : signed s m (e - base).toNat * ((2 ^ (base + 1074).toNat : Nat) : Int) = valF s m e := by
  have h : (m <<< (e - base).toNat) * 2 ^ (base + 1074).toNat = m * 2 ^ (e + 1074).toNat := by
    rw [Nat.shiftLeft_eq, Nat.mul_assoc, ← Nat.pow_add]
    congr 2; omega
  unfold signed valF
  rw [← h]
  cases s
  · simp only [Bool.false_eq_true, if_false]; rw [Int.natCast_mul]
  · simp only [if_true]; rw [Int.neg_mul, Int.natCast_mul]
theorem order_valF (s t : Bool) (m n : Nat) (i j : Int) (hi : -1074 ≤ i) (hj : -1074 ≤ j) : (Datum.number s m i).order (.number t n j) = some (compare (valF s m i) (valF t n j)) := by
  unfold Datum.order
  dsimp only
  rw [← signed_valF s m i (min i j) (by omega) (by omega), ← signed_valF t n j (min i j) (by omega) (by omega), cmp_scale _ _ _ (pow2_pos _)]
theorem fl_readV (n : Int) (hb : n.natAbs < 2 ^ 53) : ∃ (s : Bool) (m : Nat) (e : Int), double.read (fl n) = .number s m e ∧ -1074 ≤ e ∧ valF s m e = n * ((2 ^ 1074 : Nat) : Int) := by
  rw [fl_eq n hb]
  obtain ⟨k, h, hk⟩ := read_whole (decide (n < 0)) hb
  by_cases h0 : n.natAbs = 0
  · obtain rfl : n = 0 := by omega
    have e0 : rungF (0 : Int).natAbs = 0 := rfl
    have hr : double.read (double.word (decide ((0 : Int) < 0)) (rungF (0 : Int).natAbs)) = .number false 0 (-1074) := by
      rw [e0]; decide
    rw [hr]
    refine ⟨_, _, _, rfl, Int.le_refl _, ?_⟩
    unfold valF
    rw [if_neg (by decide), Nat.zero_mul, Int.zero_mul]; rfl
  · have hk2 := hk h0
    rw [h]
    refine ⟨_, _, _, rfl, by omega, ?_⟩
    unfold valF
    have e1 : n.natAbs * 2 ^ k * 2 ^ (-(k : Int) + 1074).toNat = n.natAbs * 2 ^ 1074 := by
      rw [Nat.mul_assoc, ← Nat.pow_add]; congr 2; omega
    rw [e1]
    have := sgn_abs n
    by_cases hn : n < 0
    · rw [decide_eq_true hn, if_pos rfl] at *
      rw [Int.natCast_mul, ← Int.neg_mul, this]
    · rw [decide_eq_false hn, if_neg (by decide)] at *
      rw [Int.natCast_mul, this]
/-- What whatever word stands for. -/
theorem read_cases (b : Nat) (hb : b < 2 ^ 64) : (∃ s t, double.read b = .nan s t) ∨ (∃ s, double.read b = .infinity s ∧ (s = decide (¬ b < 9223372036854775808))) ∨
    (∃ s m e, double.read b = .number s m e ∧ -1074 ≤ e ∧ s = decide (¬ b < 9223372036854775808) ∧ (m = 0 → b = 0 ∨ b = 9223372036854775808)) := by
  have hsw : double.signWeight = 9223372036854775808 := by decide
  have hbi : double.binade = 4503599627370496 := by decide
  have hin : double.infRung = 9218868437227405312 := by decide
  have hlp : double.leastPlace = -1074 := by decide
  have hneg : (b / 9223372036854775808 % 2 == 1) = decide (¬ b < 9223372036854775808) := by
    by_cases h : b < 9223372036854775808
    · have : b / 9223372036854775808 = 0 := by omega
      rw [this, decide_eq_false (by omega)]; rfl
    · have : b / 9223372036854775808 = 1 := by omega
      rw [this, decide_eq_true (by omega)]; rfl
  have hs : ∀ x, (x : Bool) = x := fun _ => rfl
  unfold Format.read
  dsimp only
  rw [hsw, hneg, hbi, hin, hlp]
  by_cases h1 : b % 9223372036854775808 < 4503599627370496
  · rw [if_pos h1]
    refine .inr (.inr ⟨_, _, _, rfl, Int.le_refl _, rfl, fun h => ?_⟩)
    omega
  · rw [if_neg h1]
    by_cases h2 : b % 9223372036854775808 < 9218868437227405312
    · rw [if_pos h2]
      refine .inr (.inr ⟨_, _, _, rfl, by omega, rfl, fun h => ?_⟩)
      omega
    · rw [if_neg h2]
      by_cases h3 : b % 9223372036854775808 = 9218868437227405312
      · rw [if_pos h3]; exact .inr (.inl ⟨_, rfl, rfl⟩)
      · rw [if_neg h3]; exact .inl ⟨_, _, rfl⟩
theorem pow_splitZ {d u : Nat} (h : d ≤ u) : 2 ^ u = 2 ^ d * 2 ^ (u - d) := by
  rw [← Nat.pow_add]
  congr 1
  omega
theorem div_upZ (m k u : Nat) : m * 2 ^ (k + u) / 2 ^ u = m * 2 ^ k := by
  rw [Nat.pow_add, ← Nat.mul_assoc, Nat.mul_div_cancel _ (pow2_pos _)]
theorem div_dnZ (m d u : Nat) (h : d ≤ u) : m * 2 ^ (u - d) / 2 ^ u = m / 2 ^ d := by
  rw [pow_splitZ h, Nat.mul_div_mul_right _ _ (pow2_pos _)]
theorem mul_castZ (U : Nat) : ((U * 65519 : Nat) : Int) = 65519 * (U : Int) := by omega
/-- A number made whole, towards zero. -/
theorem integral_valF (s : Bool) (m : Nat) (e : Int) (he : -1074 ≤ e) : ∃ q : Nat, (Datum.number s m e).integral .zero = .number s q 0 ∧ q = m * 2 ^ (e + 1074).toNat / 2 ^ 1074 := by
  unfold Datum.integral
  dsimp only
  refine ⟨_, rfl, ?_⟩
  by_cases h : 0 ≤ e
  · obtain ⟨k, rfl⟩ : ∃ k : Nat, e = k := ⟨e.toNat, by omega⟩
    have e1 : (-(k : Int)).toNat = 0 := by omega
    have e2 : ((k : Int) + 1074).toNat = k + 1074 := by omega
    rw [e1, cut_whole _ _ (.inr rfl), Int.toNat_natCast, e2, Nat.shiftLeft_eq]
    exact (div_upZ m k 1074).symm
  · obtain ⟨d, hd, hd2⟩ : ∃ d : Nat, e = -(d : Int) ∧ d ≤ 1074 := ⟨(-e).toNat, by omega, by omega⟩
    subst hd
    have e1 : (-(d : Int)).toNat = 0 := by omega
    have e2 : (- -(d : Int)).toNat = d := by omega
    have e3 : (-(d : Int) + 1074).toNat = 1074 - d := by omega
    rw [e1, e2, e3, Nat.shiftLeft_zero]
    have e4 : m * 2 ^ (1074 - d) / 2 ^ 1074 = m / 2 ^ d := div_dnZ m d 1074 hd2
    rw [e4]
    unfold Toward.cut
    dsimp only
    rw [Nat.shiftLeft_eq, Nat.one_mul]
    show m / 2 ^ min d (m.log2 + 2) + 0 = m / 2 ^ d
    rw [Nat.add_zero]
    by_cases hc : d ≤ m.log2 + 2
    · rw [Nat.min_eq_left hc]
    · rw [Nat.min_eq_right (by omega)]
      have h1 : m < 2 ^ (m.log2 + 1) := Nat.lt_log2_self
      have h2 : 2 ^ (m.log2 + 1) ≤ 2 ^ (m.log2 + 2) := Nat.pow_le_pow_right (by omega) (by omega)
      have h3 : 2 ^ (m.log2 + 2) ≤ 2 ^ d := Nat.pow_le_pow_right (by omega) (by omega)
      rw [Nat.div_eq_of_lt (by omega), Nat.div_eq_of_lt (by omega)]
end Go.Proofs.Ytdkeobpmenaljaa

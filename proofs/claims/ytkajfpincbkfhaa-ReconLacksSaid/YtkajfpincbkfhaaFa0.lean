
/- Floats of whole numbers: what is read of them, their sums, products, order. Of no program. -/
import Derived.Laws.ComplexArith
set_option linter.unusedVariables false
namespace Go.Qc
open Ieee

theorem pow2_pos (k : Nat) : 0 < 2 ^ k := Nat.two_pow_pos k
theorem log2_scale {n : Nat} (h : n ≠ 0) (k : Nat) : (n * 2 ^ k).log2 = n.log2 + k := by
  have hk := pow2_pos k
  have hn : n * 2 ^ k ≠ 0 := Nat.mul_ne_zero h (by omega)
  rw [Nat.log2_eq_iff hn]
  have h1 := Nat.log2_self_le h
  have h2 := @Nat.lt_log2_self n
  refine ⟨?_, ?_⟩
  · rw [Nat.pow_add]; exact Nat.mul_le_mul_right _ h1
  · rw [show n.log2 + k + 1 = (n.log2 + 1) + k by omega, Nat.pow_add]; exact Nat.mul_lt_mul_of_pos_right h2 hk

/-- A cut that leaves nothing over. -/
theorem cut_exact (s : Bool) (way : Toward) (hw : way = .even ∨ way = .zero) (m d : Nat) (hd : d ≤ (m * 2 ^ d).log2 + 2) : way.cut s (m * 2 ^ d) d = m := by
  have hg : 1 <<< min d ((m * 2 ^ d).log2 + 2) = 2 ^ d := by rw [Nat.min_eq_left hd, Nat.shiftLeft_eq, Nat.one_mul]
  have hp := pow2_pos d
  unfold Toward.cut
  rw [hg]
  dsimp only
  rw [Nat.mul_div_cancel _ hp, Nat.mul_mod_left]
  have e1 : decide (2 ^ d < 2 * 0) = false := by simp
  have e2 : (2 ^ d == 2 * 0) = false := by simp
  rcases hw with rfl | rfl <;> simp
theorem cut_whole (s : Bool) (way : Toward) (hw : way = .even ∨ way = .zero) (m : Nat) : way.cut s m 0 = m := by
  have := cut_exact s way hw m 0 (by omega)
  rwa [Nat.pow_zero, Nat.mul_one] at this

/-- The rung of a whole number. -/
def rungF (n : Nat) : Nat := if n = 0 then 0 else (n.log2 + 1022) * 2 ^ 52 + n * 2 ^ (52 - n.log2)
theorem sig_bounds {n : Nat} (h : n ≠ 0) (hl : n.log2 ≤ 52) : 2 ^ 52 ≤ n * 2 ^ (52 - n.log2) ∧ n * 2 ^ (52 - n.log2) < 2 ^ 53 := by
  have h1 := Nat.log2_self_le h
  have h2 := @Nat.lt_log2_self n
  refine ⟨?_, ?_⟩
  · calc 2 ^ 52 = 2 ^ n.log2 * 2 ^ (52 - n.log2) := by rw [← Nat.pow_add]; congr 1; omega
      _ ≤ _ := Nat.mul_le_mul_right _ h1
  · calc n * 2 ^ (52 - n.log2) < 2 ^ (n.log2 + 1) * 2 ^ (52 - n.log2) := Nat.mul_lt_mul_of_pos_right h2 (pow2_pos _)
      _ = 2 ^ 53 := by rw [← Nat.pow_add]; congr 1; omega
theorem log2_le52 {n : Nat} (h : n ≠ 0) (hb : n < 2 ^ 53) : n.log2 ≤ 52 := by
  have := (Nat.log2_lt h).2 hb
  omega
theorem rungF_lt {n : Nat} (hb : n < 2 ^ 53) : rungF n < 1077 * 2 ^ 52 := by
  unfold rungF
  split
  · decide
  · rename_i h
    have h1 := log2_le52 h hb
    have h2 := (sig_bounds h h1).2
    generalize n * 2 ^ (52 - n.log2) = X at *
    omega

theorem nearest_whole (s : Bool) {n : Nat} (hb : n < 2 ^ 53) (k : Nat) : double.nearest s (n * 2 ^ k) (-(k : Int)) = double.word s (rungF n) := by
  by_cases h : n = 0
  · subst h
    unfold Format.nearest rungF
    simp
  · have hk := pow2_pos k
    have hn : n * 2 ^ k ≠ 0 := Nat.mul_ne_zero h (by omega)
    have hl := log2_le52 h hb
    have hs := sig_bounds h hl
    have hlp : double.leastPlace = -1074 := by decide
    have hfb : (double.fractionBits : Int) = 52 := rfl
    have hbi : double.binade = 2 ^ 52 := rfl
    have hin : double.infRung = 2047 * 2 ^ 52 := by decide
    have e : max (-(k : Int) + ((n * 2 ^ k).log2 : Nat) - 52) (-1074) = (n.log2 : Int) - 52 := by
      rw [log2_scale h]; omega
    unfold Format.nearest
    rw [if_neg hn]
    dsimp only
    rw [hfb, hlp, hbi, hin, e]
    have e1 : ((n.log2 : Int) - 52 - -1074).toNat = n.log2 + 1022 := by omega
    rw [e1]
    have hkept : Toward.even.cut s ((n * 2 ^ k) <<< (-(k : Int) - ((n.log2 : Int) - 52)).toNat) ((n.log2 : Int) - 52 - -(k : Int)).toNat = n * 2 ^ (52 - n.log2) := by
      by_cases hc : k ≤ 52 - n.log2
      · have e2 : (-(k : Int) - ((n.log2 : Int) - 52)).toNat = 52 - n.log2 - k := by omega
        have e3 : ((n.log2 : Int) - 52 - -(k : Int)).toNat = 0 := by omega
        rw [e2, e3, cut_whole _ _ (.inl rfl), Nat.shiftLeft_eq, Nat.mul_assoc, ← Nat.pow_add]
        congr 2; omega
      · have e2 : (-(k : Int) - ((n.log2 : Int) - 52)).toNat = 0 := by omega
        have e3 : ((n.log2 : Int) - 52 - -(k : Int)).toNat = k - (52 - n.log2) := by omega
        have e4 : n * 2 ^ k = n * 2 ^ (52 - n.log2) * 2 ^ (k - (52 - n.log2)) := by
          rw [Nat.mul_assoc, ← Nat.pow_add]; congr 2; omega
        rw [e2, e3, Nat.shiftLeft_zero, e4]
        refine cut_exact s _ (.inl rfl) _ _ ?_
        rw [← e4, log2_scale h]; omega
    rw [hkept]
    have hr : rungF n = (n.log2 + 1022) * 2 ^ 52 + n * 2 ^ (52 - n.log2) := by unfold rungF; rw [if_neg h]
    rw [hr]
    have hlt : (n.log2 + 1022) * 2 ^ 52 + n * 2 ^ (52 - n.log2) ≤ 2047 * 2 ^ 52 := by
      have := rungF_lt hb
      rw [hr] at this
      exact Nat.le_trans (Nat.le_of_lt this) (Nat.mul_le_mul_right _ (by decide))
    rw [Nat.min_eq_left hlt]

theorem rung_parts (X l : Nat) (hl : l ≤ 52) (h1 : 2 ^ 52 ≤ X) (h2 : X < 2 ^ 53) :
    ((l + 1022) * 2 ^ 52 + X) / 2 ^ 52 = l + 1023 ∧ ((l + 1022) * 2 ^ 52 + X) % 2 ^ 52 = X - 2 ^ 52 ∧ ¬ ((l + 1022) * 2 ^ 52 + X) < 2 ^ 52 ∧ ((l + 1022) * 2 ^ 52 + X) < 2047 * 2 ^ 52 := by
  have hB : 0 < 2 ^ 52 := pow2_pos 52
  have h53 : 2 ^ 53 = 2 ^ 52 + 2 ^ 52 := by decide
  rw [h53] at h2
  generalize 2 ^ 52 = B at *
  obtain ⟨Y, rfl⟩ : ∃ Y, X = B + Y := ⟨X - B, by omega⟩
  have e : (l + 1022) * B + (B + Y) = Y + B * (l + 1023) := by
    rw [Nat.mul_comm B, ← Nat.add_assoc, ← Nat.succ_mul, Nat.add_comm]
  have hY : Y < B := by omega
  refine ⟨?_, ?_, ?_, ?_⟩
  · rw [e, Nat.add_mul_div_left _ _ hB, Nat.div_eq_of_lt hY, Nat.zero_add]
  · rw [e, Nat.add_mul_mod_self_left, Nat.mod_eq_of_lt hY, Nat.add_sub_cancel_left]
  · omega
  · rw [e]
    have : B * (l + 1023) ≤ B * 1075 := Nat.mul_le_mul_left _ (by omega)
    omega

theorem read_whole (s : Bool) {n : Nat} (hb : n < 2 ^ 53) : ∃ k : Nat, double.read (double.word s (rungF n)) = .number s (n * 2 ^ k) (-(k : Int)) ∧ (n ≠ 0 → k ≤ 52) := by
  have hlt := rungF_lt hb
  have hsw : double.signWeight = 2 ^ 63 := by decide
  have hbi : double.binade = 2 ^ 52 := rfl
  have hin : double.infRung = 2047 * 2 ^ 52 := by decide
  have hlp : double.leastPlace = -1074 := by decide
  have hneg : (double.word s (rungF n) / 2 ^ 63 % 2 == 1) = s := by
    unfold Format.word
    rw [hsw]
    cases s
    · rw [if_neg (by decide)]
      have : rungF n / 2 ^ 63 = 0 := Nat.div_eq_of_lt (by omega)
      rw [this]; rfl
    · rw [if_pos rfl]
      have : (2 ^ 63 + rungF n) / 2 ^ 63 = 1 := by omega
      rw [this]; rfl
  have hrung : double.word s (rungF n) % 2 ^ 63 = rungF n := by
    unfold Format.word
    rw [hsw]
    cases s
    · rw [if_neg (by decide)]; omega
    · rw [if_pos rfl]; omega
  unfold Format.read
  dsimp only
  rw [hsw, hneg, hrung, hbi, hin, hlp]
  by_cases h : n = 0
  · subst h
    obtain ⟨k, hk⟩ : ∃ k : Nat, k = 1074 := ⟨_, rfl⟩
    refine ⟨k, ?_, fun h => absurd rfl h⟩
    have e0 : rungF 0 = 0 := by unfold rungF; rw [if_pos rfl]
    have e1 : (-1074 : Int) = -(k : Int) := by omega
    rw [e0, if_pos (pow2_pos 52), Nat.zero_mul, e1]
  · have hl := log2_le52 h hb
    have hs := sig_bounds h hl
    have hr : rungF n = (n.log2 + 1022) * 2 ^ 52 + n * 2 ^ (52 - n.log2) := by unfold rungF; rw [if_neg h]
    refine ⟨52 - n.log2, ?_, fun _ => by omega⟩
    generalize n * 2 ^ (52 - n.log2) = X at *
    rw [hr]
    clear hr hrung hneg hlt
    obtain ⟨h1, h2, h3, h4⟩ := rung_parts X n.log2 hl hs.1 hs.2
    rw [if_neg h3, if_pos h4, h1, h2, Nat.add_sub_cancel' hs.1]
    have e5 : (-1074 : Int) + ((n.log2 + 1023 - 1 : Nat) : Int) = -((52 - n.log2 : Nat) : Int) := by omega
    rw [e5]

/-- The float of a whole number. -/
def fl (n : Int) : Nat := FloatKind.f64.nearest n
theorem fl_eq (n : Int) (hb : n.natAbs < 2 ^ 53) : fl n = double.word (n < 0) (rungF n.natAbs) := by
  have := nearest_whole (n < 0) hb 0
  rw [Nat.pow_zero, Nat.mul_one] at this
  exact this
theorem fl_nearest (s : Bool) (m k : Nat) (n : Int) (hb : n.natAbs < 2 ^ 53) (hm : m = n.natAbs * 2 ^ k) (hs : s = decide (n < 0)) : double.write (.number s m (-(k : Int))) = fl n := by
  subst hm hs
  rw [fl_eq n hb]
  exact nearest_whole _ hb k
theorem fl_read (n : Int) (hb : n.natAbs < 2 ^ 53) : ∃ k : Nat, double.read (fl n) = .number (decide (n < 0)) (n.natAbs * 2 ^ k) (-(k : Int)) := by
  rw [fl_eq n hb]
  obtain ⟨k, h, _⟩ := read_whole (decide (n < 0)) hb
  exact ⟨k, h⟩

theorem signed_up (s : Bool) (m k b : Nat) (hk : k ≤ b) : signed s (m * 2 ^ k) (-(k : Int) - -(b : Int)).toNat = (if s then -((m : Int)) else (m : Int)) * ((2 ^ b : Nat) : Int) := by
  have e : (-(k : Int) - -(b : Int)).toNat = b - k := by omega
  have h : (m * 2 ^ k) <<< (b - k) = m * 2 ^ b := by
    rw [Nat.shiftLeft_eq, Nat.mul_assoc, ← Nat.pow_add]; congr 2; omega
  unfold signed
  rw [e, h]
  cases s
  · simp only [Bool.false_eq_true, if_false]; rw [Int.natCast_mul]
  · simp only [if_true]; rw [Int.natCast_mul, Int.neg_mul]
theorem sgn_abs (n : Int) : (if decide (n < 0) then -((n.natAbs : Nat) : Int) else ((n.natAbs : Nat) : Int)) = n := by
  by_cases h : n < 0
  · simp [h]; omega
  · simp [h]; omega

theorem sum_form (s t : Bool) (m n j k : Nat) (a b : Int) (ha : (if s then -((m : Int)) else (m : Int)) = a) (hb : (if t then -((n : Int)) else (n : Int)) = b) (hst : a + b = 0 → (s && t) = false) (hs : (a + b).natAbs < 2 ^ 53) :
    ((Datum.number s (m * 2 ^ j) (-(j : Int))).sum (.number t (n * 2 ^ k) (-(k : Int)))).map double.write = some (fl (a + b)) := by
  have eb : min (-(j : Int)) (-(k : Int)) = -((max j k : Nat) : Int) := by omega
  unfold Datum.sum
  dsimp only
  rw [eb, signed_up s m j (max j k) (Nat.le_max_left ..), signed_up t n k (max j k) (Nat.le_max_right ..), ha, hb, ← Int.add_mul]
  generalize max j k = K at *
  have hp : 0 < 2 ^ K := pow2_pos K
  rw [Option.map_some]
  congr 1
  refine fl_nearest _ _ K (a + b) hs ?_ ?_
  · rw [Int.natAbs_mul, Int.natAbs_natCast]
  · generalize a + b = T at *
    generalize 2 ^ K = P at *
    have hP : (0 : Int) < (P : Int) := by omega
    by_cases h0 : T = 0
    · subst h0
      rw [Int.zero_mul, if_pos rfl, hst rfl]; rfl
    · rw [if_neg (by intro h; rcases Int.mul_eq_zero.1 h with h | h <;> omega)]
      by_cases hn : T < 0
      · have := Int.mul_neg_of_neg_of_pos hn hP
        simp [hn, this]
      · have : 0 ≤ T * (P : Int) := Int.mul_nonneg (by omega) (by omega)
        have h2 : ¬ T * (P : Int) < 0 := by omega
        simp [hn, h2]

theorem fl_add (a b : Int) (ha : a.natAbs < 2 ^ 53) (hb : b.natAbs < 2 ^ 53) (hs : (a + b).natAbs < 2 ^ 53) : double.add (fl a) (fl b) = some (fl (a + b)) := by
  obtain ⟨j, hj⟩ := fl_read a ha
  obtain ⟨k, hk⟩ := fl_read b hb
  unfold Format.add
  rw [hj, hk]
  refine sum_form _ _ _ _ _ _ a b (sgn_abs a) (sgn_abs b) (fun h => ?_) hs
  by_cases h1 : a < 0
  · have : ¬ b < 0 := by omega
    simp [this]
  · simp [h1]
theorem fl_sub (a b : Int) (ha : a.natAbs < 2 ^ 53) (hb : b.natAbs < 2 ^ 53) (hs : (a - b).natAbs < 2 ^ 53) : double.sub (fl a) (fl b) = some (fl (a - b)) := by
  obtain ⟨j, hj⟩ := fl_read a ha
  obtain ⟨k, hk⟩ := fl_read b hb
  unfold Format.sub
  rw [hj, hk]
  have e : (if !decide (b < 0) then -((b.natAbs : Nat) : Int) else ((b.natAbs : Nat) : Int)) = -b := by
    by_cases h : b < 0
    · simp [h]; omega
    · simp [h]; omega
  refine sum_form _ _ _ _ _ _ a (-b) (sgn_abs a) e (fun h => ?_) hs
  by_cases h1 : a < 0
  · have : b < 0 := by omega
    simp [this]
  · simp [h1]
theorem fl_mul (a b : Int) (ha : a.natAbs < 2 ^ 53) (hb : b.natAbs < 2 ^ 53) (hs : (a * b).natAbs < 2 ^ 53) (h0 : 0 ≤ a) (h1 : 0 ≤ b) : double.mul (fl a) (fl b) = some (fl (a * b)) := by
  obtain ⟨j, hj⟩ := fl_read a ha
  obtain ⟨k, hk⟩ := fl_read b hb
  unfold Format.mul
  rw [hj, hk]
  unfold Datum.product
  dsimp only
  rw [Option.map_some]
  congr 1
  have e : -(j : Int) + -(k : Int) = -((j + k : Nat) : Int) := by omega
  rw [e]
  have hm : 0 ≤ a * b := Int.mul_nonneg h0 h1
  refine fl_nearest _ _ (j + k) (a * b) hs ?_ ?_
  · rw [Int.natAbs_mul, Nat.pow_add, Nat.mul_mul_mul_comm]
  · have e1 : ¬ a < 0 := by omega
    have e2 : ¬ b < 0 := by omega
    have e3 : ¬ a * b < 0 := by omega
    simp [e1, e2, e3]
theorem cmp_scale (a b : Int) (P : Nat) (hP : 0 < P) : compare (a * (P : Int)) (b * (P : Int)) = compare a b := by
  have hp : (0 : Int) < (P : Int) := by omega
  unfold compare instOrdInt compareOfLessAndEq
  by_cases h : a < b
  · have := Int.mul_lt_mul_of_pos_right h hp
    simp [h, this]
  · by_cases h2 : a = b
    · subst h2; simp
    · have h3 : b < a := by omega
      have h4 := Int.mul_lt_mul_of_pos_right h3 hp
      have h5 : ¬ a * (P : Int) < b * (P : Int) := by omega
      have h6 : ¬ a * (P : Int) = b * (P : Int) := by omega
      simp only [if_neg h, if_neg h2, if_neg h5, if_neg h6]
theorem order_form (s t : Bool) (m n j k : Nat) (a b : Int) (ha : (if s then -((m : Int)) else (m : Int)) = a) (hb : (if t then -((n : Int)) else (n : Int)) = b) :
    (Datum.number s (m * 2 ^ j) (-(j : Int))).order (.number t (n * 2 ^ k) (-(k : Int))) = some (compare a b) := by
  have eb : min (-(j : Int)) (-(k : Int)) = -((max j k : Nat) : Int) := by omega
  unfold Datum.order
  dsimp only
  rw [eb, signed_up s m j (max j k) (Nat.le_max_left ..), signed_up t n k (max j k) (Nat.le_max_right ..), ha, hb, cmp_scale _ _ _ (pow2_pos _)]
theorem fl_order (a b : Int) (ha : a.natAbs < 2 ^ 53) (hb : b.natAbs < 2 ^ 53) : double.order (fl a) (fl b) = some (compare a b) := by
  obtain ⟨j, hj⟩ := fl_read a ha
  obtain ⟨k, hk⟩ := fl_read b hb
  unfold Format.order
  rw [hj, hk]
  exact order_form _ _ _ _ _ _ a b (sgn_abs a) (sgn_abs b)
theorem whole_int (s : Bool) (m k : Nat) (hk : m ≠ 0 → k ≤ 52) : (Datum.number s (m * 2 ^ k) (-(k : Int))).toInt .zero = some (if s then -((m : Int)) else (m : Int)) := by
  unfold Datum.toInt Datum.integral
  dsimp only
  have e1 : (-(k : Int)).toNat = 0 := by omega
  have e2 : (- -(k : Int)).toNat = k := by omega
  rw [e1, e2, Nat.shiftLeft_zero]
  have hc : Toward.zero.cut s (m * 2 ^ k) k = m := by
    by_cases h : m = 0
    · subst h
      rw [Nat.zero_mul]
      unfold Toward.cut
      simp
    · refine cut_exact s _ (.inr rfl) _ _ ?_
      rw [log2_scale h]; omega
  rw [hc]
  unfold signed
  rw [Nat.shiftLeft_zero]
theorem word_int (s : Bool) {n : Nat} (hb : n < 2 ^ 53) : (double.read (double.word s (rungF n))).toInt .zero = some (if s then -((n : Int)) else (n : Int)) := by
  obtain ⟨k, h, hk⟩ := read_whole s hb
  rw [h, whole_int s n k hk]
theorem fl_int (a : Int) (ha : a.natAbs < 2 ^ 53) : (double.read (fl a)).toInt .zero = some a := by
  rw [fl_eq a ha, word_int _ ha, sgn_abs]
end Go.Qc


/- gauss: remainder, reduced, reckoned; what is told of residues. -/
import Derived.Test.YtdkeobpmenaljaaGs0
set_option linter.unusedSimpArgs false
set_option linter.unusedVariables false
namespace Go.Proofs.Ytdkeobpmenaljaa
open Go.RowKit Go.Qc

theorem fl_zero : fl 0 = 0 := by decide +kernel
theorem fl_one : fl 1 = 4607182418800017408 := by decide +kernel
theorem fl_last : fl 65518 = 4679237538936782848 := by decide +kernel
theorem fl_prime : fl 65519 = 4679237676375736320 := by decide +kernel
theorem fl_wf (n : Int) : fl n < 2 ^ 64 := by
  have h := Ieee.Format.write_lt Ieee.double (.number (decide (n < 0)) n.natAbs 0)
  have hw : Ieee.double.width = 64 := by decide
  rw [hw] at h
  exact h
theorem word_small (n : Nat) (hb : n < 2 ^ 53) : rungF n < 9223372036854775808 := by
  have := rungF_lt hb
  exact Nat.lt_of_lt_of_le this (by decide)
theorem fl_pos (n : Int) (hb : n.natAbs < 2 ^ 53) : decide (fl n < 9223372036854775808) = decide (0 ≤ n) := by
  rw [fl_eq n hb]
  have h := word_small _ hb
  have hsw : Ieee.double.signWeight = 9223372036854775808 := by decide
  unfold Ieee.Format.word
  rw [hsw]
  by_cases hn : n < 0
  · have h1 : ¬ 0 ≤ n := by omega
    rw [decide_eq_true hn, if_pos rfl, decide_eq_false h1]
    exact decide_eq_false (by omega)
  · have h1 : 0 ≤ n := by omega
    rw [decide_eq_false hn, if_neg (by decide), decide_eq_true h1]
    exact decide_eq_true h
theorem fl_integral (n : Int) (hb : n.natAbs < 2 ^ 53) : FloatKind.f64.encode ((FloatKind.f64.decode (fl n)).integral .zero) = fl n := by
  have hi := fl_int n hb
  obtain ⟨k, hk⟩ := fl_read n hb
  have hk2 : FloatKind.f64.decode (fl n) = .number (decide (n < 0)) (n.natAbs * 2 ^ k) (-(k : Int)) := hk
  rw [hk] at hi
  rw [hk2]
  unfold Ieee.Datum.toInt at hi
  unfold Ieee.Datum.integral at hi ⊢
  dsimp only at hi ⊢
  generalize Ieee.Toward.cut .zero (decide (n < 0)) _ _ = m at *
  have hm : m = n.natAbs := by
    unfold Ieee.signed at hi
    rw [Nat.shiftLeft_zero] at hi
    by_cases hn : n < 0
    · rw [decide_eq_true hn, if_pos rfl] at hi
      have := Option.some.inj hi
      omega
    · rw [decide_eq_false hn, if_neg (by decide)] at hi
      have := Option.some.inj hi
      omega
  rw [hm]
  rfl
theorem cmp_lt (a b : Int) : (some (compare a b) == some Ordering.lt) = decide (a < b) := by
  unfold compare instOrdInt compareOfLessAndEq
  by_cases h : a < b
  · simp [h]
  · by_cases h2 : a = b
    · simp [h2]
    · simp [h, h2]
theorem cmp_eq (a b : Int) : (some (compare a b) == some Ordering.eq) = decide (a = b) := by
  unfold compare instOrdInt compareOfLessAndEq
  by_cases h : a < b
  · have : a ≠ b := by omega
    simp [h, this]
  · by_cases h2 : a = b
    · simp [h2]
    · simp [h, h2]
theorem ford (a b : Int) (ha : a.natAbs < 2 ^ 53) (hb : b.natAbs < 2 ^ 53) : FloatKind.f64.format.order (fl a) (fl b) = some (compare a b) := fl_order a b ha hb
theorem part_fl (n : Int) (hb : n.natAbs < 2 ^ 53) : partF (fl n) = (decide (0 ≤ n) && decide (n < 65519)) := by
  unfold partF
  rw [fl_pos n hb, fl_integral n hb, ← fl_prime, ford n 65519 hb (by decide), ford n n hb hb, cmp_lt, cmp_eq, decide_eq_true (rfl : n = n), Bool.and_true]
theorem part_res {n : Int} (h0 : 0 ≤ n) (h1 : n < 65519) : partF (fl n) = true := by
  rw [part_fl n (by omega), decide_eq_true h0, decide_eq_true h1]; rfl

/-- A pair as the program has it. -/
def cz (x : Int × Int) : Value := .complex .f64 (fl x.1) (fl x.2)
theorem cz_zero : Value.complex .f64 0 0 = cz (0, 0) := by
  show Value.complex .f64 0 0 = .complex .f64 (fl 0) (fl 0)
  rw [fl_zero]
theorem cz_one : Value.complex .f64 4607182418800017408 0 = cz (1, 0) := by
  show _ = Value.complex .f64 (fl 1) (fl 0)
  rw [fl_zero, fl_one]
theorem rem_fact (n : Int) (h0 : -4611686018427387904 < n) (h1 : n < 4611686018427387904) : (wrap64 (n.tmod 65519 + 65519)).tmod 65519 = n % 65519 := by
  unfold wrap64
  have e1 : n.tmod 65519 = if 0 ≤ n then n % 65519 else -((-n) % 65519) := by
    by_cases h : 0 ≤ n
    · rw [if_pos h, Int.tmod_eq_emod_of_nonneg h]
    · rw [if_neg h]
      have : n.tmod 65519 = -((-n).tmod 65519) := by rw [Int.neg_tmod, Int.neg_neg]
      rw [this, Int.tmod_eq_emod_of_nonneg (by omega)]
  rw [e1]
  by_cases h : 0 ≤ n
  · rw [if_pos h, Int.tmod_eq_emod_of_nonneg (by omega)]; omega
  · rw [if_neg h, Int.tmod_eq_emod_of_nonneg (by omega)]; omega
theorem int_val (b : Nat) (n : Int) (h : (Ieee.double.read b).toInt .zero = some n) (h0 : -4611686018427387904 < n) (h1 : n < 4611686018427387904) : floatToIntVal .f64 b .i64 = some n := by
  unfold floatToIntVal
  have e : (FloatKind.f64.decode b).toInt .zero = some n := h
  have hmin : IntKind.i64.min = -9223372036854775808 := by decide
  have hmax : IntKind.i64.max = 9223372036854775807 := by decide
  rw [e]
  dsimp only
  rw [hmin, hmax, if_pos (by omega)]
set_option maxRecDepth 100000 in
theorem grem_any (b : Nat) (n : Int) (h : (Ieee.double.read b).toInt .zero = some n) (h0 : -4611686018427387904 < n) (h1 : n < 4611686018427387904) (w : World) :
    Calls Try.prog 131 #[.float .f64 b] w fun e w' => e = .returned (.float .f64 (fl (n % 65519))) ∧ w = w' := by
  have hc : ∀ w, (convert 97 2 (.float .f64 b)).run Try.prog w = .ok (.int .i64 n) w := fun w => run_convert_float_int w _ _ .f64 .i64 b n (by kernel_rfl) (by kernel_rfl) (int_val b n h h0 h1)
  have hd : ∀ (w : World) (m : Int), (convert 2 97 (.int .i64 m)).run Try.prog w = .ok (.float .f64 (fl m)) w := fun w m => run_convert_int_float w _ _ .i64 .f64 m (by kernel_rfl) (by kernel_rfl)
  have hr := rem_fact n h0 h1
  clear h h0 h1
  go_enter Try.func131, Try.ntmps131
  go_wp2
  go_ret
  refine ⟨?_, rfl⟩
  rw [← hr]
  rfl

set_option maxRecDepth 100000 in
theorem gred_any (a b : Nat) (m n : Int) (hm : (Ieee.double.read a).toInt .zero = some m) (hn : (Ieee.double.read b).toInt .zero = some n) (m0 : -4611686018427387904 < m) (m1 : m < 4611686018427387904) (n0 : -4611686018427387904 < n) (n1 : n < 4611686018427387904) (w : World) :
    Calls Try.prog 98 #[.complex .f64 a b] w fun e w' => e = .returned (cz (zred (m, n))) ∧ w = w' := by
  have c1 := grem_any a m hm m0 m1
  have c2 := grem_any b n hn n0 n1
  have hu := Try.underlying80
  unfold cz zred
  dsimp only
  generalize fl (m % 65519) = x at *
  generalize fl (n % 65519) = y at *
  clear hm hn m0 m1 n0 n1
  go_enter Try.func98, Try.ntmps98
  go_wp2_with (first
    | (go_at_call 131; (with_reducible refine (c1 _).mono ?_); rintro e w' ⟨rfl, rfl⟩)
    | (go_at_call 131; (with_reducible refine (c2 _).mono ?_); rintro e w' ⟨rfl, rfl⟩))
  go_ret
  exact ⟨rfl, rfl⟩
set_option maxRecDepth 100000 in
theorem greck_yes (m n : Int) (x y : Int × Int) (hx : ResZ x) (hy : ResZ y) (m0 : -9007199254740992 < m) (m1 : m < 9007199254740992) (n0 : -9007199254740992 < n) (n1 : n < 9007199254740992) (w : World) :
    Calls Try.prog 96 #[.complex .f64 (fl m) (fl n), cz x, cz y] w fun e w' => e = .returned (cz (zred (m, n))) ∧ w = w' := by
  have c1 := gright_any (fl x.1) (fl x.2) (fl_wf _) (fl_wf _)
  have c2 := gright_any (fl y.1) (fl y.2) (fl_wf _) (fl_wf _)
  rw [part_res hx.a0 hx.a1, part_res hx.b0 hx.b1] at c1
  rw [part_res hy.a0 hy.a1, part_res hy.b0 hy.b1] at c2
  have c3 := gred_any (fl m) (fl n) m n (fl_int m (by omega)) (fl_int n (by omega)) (by omega) (by omega) (by omega) (by omega)
  unfold cz at *
  generalize fl m = u at *
  generalize fl n = v at *
  generalize fl x.1 = x1 at *
  generalize fl x.2 = x2 at *
  generalize fl y.1 = y1 at *
  generalize fl y.2 = y2 at *
  generalize fl (zred (m, n)).1 = z1 at *
  generalize fl (zred (m, n)).2 = z2 at *
  clear hx hy m0 m1 n0 n1
  go_enter Try.func96, Try.ntmps96
  go_wp2_with (first
    | (go_at_call 42; (with_reducible refine (c1 _).mono ?_); rintro e w' ⟨rfl, rfl⟩)
    | (go_at_call 42; (with_reducible refine (c2 _).mono ?_); rintro e w' ⟨rfl, rfl⟩)
    | (go_at_call 98; (with_reducible refine (c3 _).mono ?_); rintro e w' ⟨rfl, rfl⟩))
  go_ret
  exact ⟨rfl, rfl⟩
/-! ### Sums, differences, products -/
theorem zbound {a b : Int} (a0 : 0 ≤ a) (a1 : a < 65519) (b0 : 0 ≤ b) (b1 : b < 65519) : 0 ≤ a * b ∧ a * b < 4294967296 := by
  refine ⟨Int.mul_nonneg a0 b0, ?_⟩
  have h := Int.mul_le_mul (show a ≤ 65518 by omega) (show b ≤ 65518 by omega) b0 (by omega)
  omega
set_option maxRecDepth 100000 in
theorem gmul_any (x y : Int × Int) (hx : ResZ x) (hy : ResZ y) (w : World) : Calls Try.prog 47 #[cz x, cz y] w fun e w' => e = .returned (cz (gmulZ x y)) ∧ w = w' := by
  obtain ⟨x0, x1, x2, x3⟩ := id hx
  obtain ⟨y0, y1, y2, y3⟩ := id hy
  obtain ⟨b1, b2⟩ := zbound x0 x1 y0 y1
  obtain ⟨b3, b4⟩ := zbound x2 x3 y2 y3
  obtain ⟨b5, b6⟩ := zbound x0 x1 y2 y3
  obtain ⟨b7, b8⟩ := zbound x2 x3 y0 y1
  have hc := greck_yes (zmul x y).1 (zmul x y).2 x y hx hy (by unfold zmul; omega) (by unfold zmul; omega) (by unfold zmul; omega) (by unfold zmul; omega)
  have hs : ∀ w, (binOp .mul 80 (.complex .f64 (fl x.1) (fl x.2)) (.complex .f64 (fl y.1) (fl y.2))).run Try.prog w = .ok (.complex .f64 (fl (zmul x y).1) (fl (zmul x y).2)) w := fun w => by
    refine run_complex_mul w _ _ _ _ _ _ _ ?_
    unfold cMulBits zmul
    have e1 : floatBits .mul .f64 (fl x.1) (fl y.1) = some (fl (x.1 * y.1)) := fl_mul _ _ (by omega) (by omega) (by omega) x0 y0
    have e2 : floatBits .mul .f64 (fl x.2) (fl y.2) = some (fl (x.2 * y.2)) := fl_mul _ _ (by omega) (by omega) (by omega) x2 y2
    have e3 : floatBits .mul .f64 (fl x.1) (fl y.2) = some (fl (x.1 * y.2)) := fl_mul _ _ (by omega) (by omega) (by omega) x0 y2
    have e4 : floatBits .mul .f64 (fl x.2) (fl y.1) = some (fl (x.2 * y.1)) := fl_mul _ _ (by omega) (by omega) (by omega) x2 y0
    have e5 : floatBits .sub .f64 (fl (x.1 * y.1)) (fl (x.2 * y.2)) = some (fl (x.1 * y.1 - x.2 * y.2)) := fl_sub _ _ (by omega) (by omega) (by omega)
    have e6 : floatBits .add .f64 (fl (x.1 * y.2)) (fl (x.2 * y.1)) = some (fl (x.1 * y.2 + x.2 * y.1)) := fl_add _ _ (by omega) (by omega) (by omega)
    simp only [e1, e2, e3, e4, e5, e6, Option.bind_some]
  unfold gmulZ
  have hz : zmul x y = ((zmul x y).1, (zmul x y).2) := rfl
  rw [← hz] at hc
  generalize zred (zmul x y) = r at *
  clear hz b1 b2 b3 b4 b5 b6 b7 b8
  unfold cz at *
  generalize fl (zmul x y).1 = s1 at *
  generalize fl (zmul x y).2 = s2 at *
  generalize fl x.1 = a1 at *
  generalize fl x.2 = a2 at *
  generalize fl y.1 = c1 at *
  generalize fl y.2 = c2 at *
  generalize fl r.1 = z1 at *
  generalize fl r.2 = z2 at *
  clear hx hy x0 x1 x2 x3 y0 y1 y2 y3
  go_enter Try.func47, Try.ntmps47
  go_wp2_with (go_at_call 96; (with_reducible refine (hc _).mono ?_); rintro e w' ⟨rfl, rfl⟩)
  go_ret
  exact ⟨rfl, rfl⟩
end Go.Proofs.Ytdkeobpmenaljaa

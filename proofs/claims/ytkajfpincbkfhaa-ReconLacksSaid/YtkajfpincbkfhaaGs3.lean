/- gauss: floats that are looked at (Signbit, Trunc), whole, Right, remainder, reduced, reckoned. -/
import Derived.Test.YtkajfpincbkfhaaKit
import Derived.Test.YtkajfpincbkfhaaChecked
import Derived.Test.YtkajfpincbkfhaaFa0
import Derived.Test.YtkajfpincbkfhaaGa0
import Derived.Deep.DeepCutAuto
set_option linter.unusedSimpArgs false
set_option linter.unusedVariables false
namespace Go.Proofs.Ytkajfpincbkfhaa
open Go.RowKit Go.Qc
open Go.Qc

/-- Is the float that these bits are a residue's part? -/
def partF (b : Nat) : Bool := decide (b < 9223372036854775808) && (FloatKind.f64.format.order b 4679237676375736320 == some .lt && FloatKind.f64.format.order b (FloatKind.f64.encode ((FloatKind.f64.decode b).integral .zero)) == some .eq)
theorem sign_bit (b : Nat) (h : b < 2 ^ 64) : decide (wrap64 (b : Int) < 0) = !decide (b < 9223372036854775808) := by
  unfold wrap64
  by_cases h1 : b < 9223372036854775808
  · have : ¬ ((b : Int) + 9223372036854775808) % 18446744073709551616 - 9223372036854775808 < 0 := by omega
    simp [h1, this]
  · have : ((b : Int) + 9223372036854775808) % 18446744073709551616 - 9223372036854775808 < 0 := by omega
    simp [h1, this]
theorem run_bits (w : World) (b : Nat) : (Extern.MathFloatBits.float64bits #[.float .f64 b]).run Try.prog w = .ok (.int .u64 b) w := rfl
set_option maxRecDepth 100000 in
theorem signbit_any (b : Nat) (h : b < 2 ^ 64) (w : World) : Calls Try.prog 150 #[.float .f64 b] w fun e w' => e = .returned (.bool (!decide (b < 9223372036854775808))) ∧ w = w' := by
  have hs := sign_bit b h
  have hrun := run_bits w b
  clear h
  go_enter Try.func150, Try.ntmps150
  go_wp2
  rw [run_callFunc_extern Try.func158 (by kernel_rfl) (by kernel_rfl) (by kernel_rfl) (e := Extern.MathFloatBits.float64bits) (by kernel_rfl), hrun]
  simp only [Result.andThen]
  rw [Oper.upon_value]
  go_wp2
  go_ret
  refine ⟨?_, rfl⟩
  rw [← hs]
  rfl
theorem run_trunc (w : World) (b : Nat) (hn : (FloatKind.f64.decode b).isNaN = false) : (Extern.MathFloor.toIntegral "math.archTrunc" .zero #[.float .f64 b]).run Try.prog w = .ok (.float .f64 (FloatKind.f64.encode ((FloatKind.f64.decode b).integral .zero))) w := by
  change Sem.run _ (Extern.MathFloor.toIntegral.match_1 (fun _ => Sem Value) (FloatKind.f64.decode b) _ _) _ = _
  revert hn
  generalize FloatKind.f64.decode b = d
  cases d with
  | nan s t => intro h; exact nomatch h
  | infinity s => intro _; rfl
  | number s m e => intro _; rfl
set_option maxRecDepth 100000 in
theorem trunc_any (b : Nat) (hn : (FloatKind.f64.decode b).isNaN = false) (w : World) : Calls Try.prog 151 #[.float .f64 b] w fun e w' => e = .returned (.float .f64 (FloatKind.f64.encode ((FloatKind.f64.decode b).integral .zero))) ∧ w = w' := by
  have hrun := run_trunc w b hn
  generalize FloatKind.f64.encode ((FloatKind.f64.decode b).integral .zero) = c at *
  clear hn
  go_enter Try.func151, Try.ntmps151
  go_wp2
  rw [run_callFunc_extern Try.func159 (by kernel_rfl) (by kernel_rfl) (by kernel_rfl) (e := Extern.MathFloor.toIntegral "math.archTrunc" .zero) (by kernel_rfl), hrun]
  simp only [Result.andThen]
  rw [Oper.upon_value]
  go_wp2
  go_ret
  exact ⟨rfl, rfl⟩

theorem order_nan {b : Nat} {c : Nat} (h : (FloatKind.f64.format.order b c == some .lt) = true) : (FloatKind.f64.decode b).isNaN = false := by
  revert h
  show ((Ieee.Datum.order (FloatKind.f64.decode b) _) == some .lt) = true → _
  generalize FloatKind.f64.decode b = d
  cases d with
  | nan s t => intro h; revert h; unfold Ieee.Datum.order; simp
  | infinity s => intro _; rfl
  | number s m e => intro _; rfl
set_option maxRecDepth 100000 in
theorem gwhole_any (b : Nat) (h : b < 2 ^ 64) (w : World) : Calls Try.prog 140 #[.float .f64 b] w fun e w' => e = .returned (.bool (partF b)) ∧ w = w' := by
  have hs := signbit_any b h w
  have ht := trunc_any b
  unfold partF
  clear h
  cases h1 : decide (b < 9223372036854775808) with
  | false =>
    rw [h1] at hs
    clear h1
    go_enter Try.func140, Try.ntmps140
    go_wp2_with (go_at_call 150; (with_reducible refine hs.mono ?_); rintro e w' ⟨rfl, rfl⟩)
    go_ret
    exact ⟨rfl, rfl⟩
  | true =>
    rw [h1] at hs
    clear h1
    cases h2 : (FloatKind.f64.format.order b 4679237676375736320 == some .lt) with
    | false =>
      clear ht
      go_enter Try.func140, Try.ntmps140
      go_wp2_with (go_at_call 150; (with_reducible refine hs.mono ?_); rintro e w' ⟨rfl, rfl⟩)
      go_ret
      exact ⟨rfl, rfl⟩
    | true =>
      have ht2 := ht (order_nan h2) w
      clear ht
      generalize FloatKind.f64.encode ((FloatKind.f64.decode b).integral .zero) = c at *
      go_enter Try.func140, Try.ntmps140
      go_wp2_with (first
        | (go_at_call 150; (with_reducible refine hs.mono ?_); rintro e w' ⟨rfl, rfl⟩)
        | (go_at_call 151; (with_reducible refine ht2.mono ?_); rintro e w' ⟨rfl, rfl⟩))
      go_ret
      exact ⟨rfl, rfl⟩
set_option maxRecDepth 100000 in
theorem gright_any (a b : Nat) (ha : a < 2 ^ 64) (hb : b < 2 ^ 64) (w : World) : Calls Try.prog 118 #[.complex .f64 a b] w fun e w' => e = .returned (.bool (partF a && partF b)) ∧ w = w' := by
  have h1 := gwhole_any a ha w
  have h2 := gwhole_any b hb w
  clear ha hb
  generalize partF a = p at *
  generalize partF b = q at *
  cases p with
  | false =>
    go_enter Try.func118, Try.ntmps118
    go_wp2_with (go_at_call 140; (with_reducible refine h1.mono ?_); rintro e w' ⟨rfl, rfl⟩)
    go_ret
    exact ⟨rfl, rfl⟩
  | true =>
    go_enter Try.func118, Try.ntmps118
    go_wp2_with (first
      | (go_at_call 140; (with_reducible refine h1.mono ?_); rintro e w' ⟨rfl, rfl⟩)
      | (go_at_call 140; (with_reducible refine h2.mono ?_); rintro e w' ⟨rfl, rfl⟩))
    go_ret
    exact ⟨rfl, rfl⟩
end Go.Proofs.Ytkajfpincbkfhaa
/- gauss: remainder, reduced, reckoned; what is told of residues. -/
set_option linter.unusedSimpArgs false
set_option linter.unusedVariables false
namespace Go.Proofs.Ytkajfpincbkfhaa
open Go.RowKit Go.Qc

theorem fl_zero : fl 0 = 0 := by decide +kernel
theorem fl_one : fl 1 = 4607182418800017408 := by decide +kernel
theorem fl_prime : fl 65519 = 4679237676375736320 := by decide +kernel
theorem fl_wf (n : Int) : fl n < 2 ^ 64 := by
  have h := Ieee.Format.write_lt Ieee.double (.number (decide (n < 0)) n.natAbs 0)
  have hw : Ieee.double.width = 64 := by decide
  rw [hw] at h
  exact h
theorem word_small (n : Nat) (hb : n < 2 ^ 53) : rungF n < 9223372036854775808 := by
  have := rungF_lt hb
  exact Nat.lt_of_lt_of_le this (by decide)
theorem fl_pos (n : Int) (hb : n.natAbs < 2 ^ 53) : decide (fl n < 9223372036854775808) = decide (0 ≤ n) := by
  rw [fl_eq n hb]
  have h := word_small _ hb
  have hsw : Ieee.double.signWeight = 9223372036854775808 := by decide
  unfold Ieee.Format.word
  rw [hsw]
  by_cases hn : n < 0
  · have h1 : ¬ 0 ≤ n := by omega
    rw [decide_eq_true hn, if_pos rfl, decide_eq_false h1]
    exact decide_eq_false (by omega)
  · have h1 : 0 ≤ n := by omega
    rw [decide_eq_false hn, if_neg (by decide), decide_eq_true h1]
    exact decide_eq_true h
theorem fl_integral (n : Int) (hb : n.natAbs < 2 ^ 53) : FloatKind.f64.encode ((FloatKind.f64.decode (fl n)).integral .zero) = fl n := by
  have hi := fl_int n hb
  obtain ⟨k, hk⟩ := fl_read n hb
  have hk2 : FloatKind.f64.decode (fl n) = .number (decide (n < 0)) (n.natAbs * 2 ^ k) (-(k : Int)) := hk
  rw [hk] at hi
  rw [hk2]
  unfold Ieee.Datum.toInt at hi
  unfold Ieee.Datum.integral at hi ⊢
  dsimp only at hi ⊢
  generalize Ieee.Toward.cut .zero (decide (n < 0)) _ _ = m at *
  have hm : m = n.natAbs := by
    unfold Ieee.signed at hi
    rw [Nat.shiftLeft_zero] at hi
    by_cases hn : n < 0
    · rw [decide_eq_true hn, if_pos rfl] at hi
      have := Option.some.inj hi
      omega
    · rw [decide_eq_false hn, if_neg (by decide)] at hi
      have := Option.some.inj hi
      omega
  rw [hm]
  rfl
theorem cmp_lt (a b : Int) : (some (compare a b) == some Ordering.lt) = decide (a < b) := by
  unfold compare instOrdInt compareOfLessAndEq
  by_cases h : a < b
  · simp [h]
  · by_cases h2 : a = b
    · simp [h2]
    · simp [h, h2]
theorem cmp_eq (a b : Int) : (some (compare a b) == some Ordering.eq) = decide (a = b) := by
  unfold compare instOrdInt compareOfLessAndEq
  by_cases h : a < b
  · have : a ≠ b := by omega
    simp [h, this]
  · by_cases h2 : a = b
    · simp [h2]
    · simp [h, h2]
theorem ford (a b : Int) (ha : a.natAbs < 2 ^ 53) (hb : b.natAbs < 2 ^ 53) : FloatKind.f64.format.order (fl a) (fl b) = some (compare a b) := fl_order a b ha hb
theorem part_fl (n : Int) (hb : n.natAbs < 2 ^ 53) : partF (fl n) = (decide (0 ≤ n) && decide (n < 65519)) := by
  unfold partF
  rw [fl_pos n hb, fl_integral n hb, ← fl_prime, ford n 65519 hb (by decide), ford n n hb hb, cmp_lt, cmp_eq, decide_eq_true (rfl : n = n), Bool.and_true]
theorem part_res {n : Int} (h0 : 0 ≤ n) (h1 : n < 65519) : partF (fl n) = true := by
  rw [part_fl n (by omega), decide_eq_true h0, decide_eq_true h1]; rfl

/-- A pair as the program has it. -/
def cz (x : Int × Int) : Value := .complex .f64 (fl x.1) (fl x.2)
theorem cz_zero : Value.complex .f64 0 0 = cz (0, 0) := by
  show Value.complex .f64 0 0 = .complex .f64 (fl 0) (fl 0)
  rw [fl_zero]
theorem cz_one : Value.complex .f64 4607182418800017408 0 = cz (1, 0) := by
  show _ = Value.complex .f64 (fl 1) (fl 0)
  rw [fl_zero, fl_one]
theorem rem_fact (n : Int) (h0 : -4611686018427387904 < n) (h1 : n < 4611686018427387904) : (wrap64 (n.tmod 65519 + 65519)).tmod 65519 = n % 65519 := by
  unfold wrap64
  have e1 : n.tmod 65519 = if 0 ≤ n then n % 65519 else -((-n) % 65519) := by
    by_cases h : 0 ≤ n
    · rw [if_pos h, Int.tmod_eq_emod_of_nonneg h]
    · rw [if_neg h]
      have : n.tmod 65519 = -((-n).tmod 65519) := by rw [Int.neg_tmod, Int.neg_neg]
      rw [this, Int.tmod_eq_emod_of_nonneg (by omega)]
  rw [e1]
  by_cases h : 0 ≤ n
  · rw [if_pos h, Int.tmod_eq_emod_of_nonneg (by omega)]; omega
  · rw [if_neg h, Int.tmod_eq_emod_of_nonneg (by omega)]; omega
theorem int_val (b : Nat) (n : Int) (h : (Ieee.double.read b).toInt .zero = some n) (h0 : -4611686018427387904 < n) (h1 : n < 4611686018427387904) : floatToIntVal .f64 b .i64 = some n := by
  unfold floatToIntVal
  have e : (FloatKind.f64.decode b).toInt .zero = some n := h
  have hmin : IntKind.i64.min = -9223372036854775808 := by decide
  have hmax : IntKind.i64.max = 9223372036854775807 := by decide
  rw [e]
  dsimp only
  rw [hmin, hmax, if_pos (by omega)]
set_option maxRecDepth 100000 in
theorem grem_any (b : Nat) (n : Int) (h : (Ieee.double.read b).toInt .zero = some n) (h0 : -4611686018427387904 < n) (h1 : n < 4611686018427387904) (w : World) :
    Calls Try.prog 142 #[.float .f64 b] w fun e w' => e = .returned (.float .f64 (fl (n % 65519))) ∧ w = w' := by
  have hc : ∀ w, (convert 117 2 (.float .f64 b)).run Try.prog w = .ok (.int .i64 n) w := fun w => run_convert_float_int w _ _ .f64 .i64 b n (by kernel_rfl) (by kernel_rfl) (int_val b n h h0 h1)
  have hd : ∀ (w : World) (m : Int), (convert 2 117 (.int .i64 m)).run Try.prog w = .ok (.float .f64 (fl m)) w := fun w m => run_convert_int_float w _ _ .i64 .f64 m (by kernel_rfl) (by kernel_rfl)
  have hr := rem_fact n h0 h1
  clear h h0 h1
  go_enter Try.func142, Try.ntmps142
  go_wp2
  go_ret
  refine ⟨?_, rfl⟩
  rw [← hr]
  rfl

set_option maxRecDepth 100000 in
theorem gred_any (a b : Nat) (m n : Int) (hm : (Ieee.double.read a).toInt .zero = some m) (hn : (Ieee.double.read b).toInt .zero = some n) (m0 : -4611686018427387904 < m) (m1 : m < 4611686018427387904) (n0 : -4611686018427387904 < n) (n1 : n < 4611686018427387904) (w : World) :
    Calls Try.prog 124 #[.complex .f64 a b] w fun e w' => e = .returned (cz (zred (m, n))) ∧ w = w' := by
  have c1 := grem_any a m hm m0 m1
  have c2 := grem_any b n hn n0 n1
  have hu := Try.underlying54
  unfold cz zred
  dsimp only
  generalize fl (m % 65519) = x at *
  generalize fl (n % 65519) = y at *
  clear hm hn m0 m1 n0 n1
  go_enter Try.func124, Try.ntmps124
  go_wp2_with (first
    | (go_at_call 142; (with_reducible refine (c1 _).mono ?_); rintro e w' ⟨rfl, rfl⟩)
    | (go_at_call 142; (with_reducible refine (c2 _).mono ?_); rintro e w' ⟨rfl, rfl⟩))
  go_ret
  exact ⟨rfl, rfl⟩
set_option maxRecDepth 100000 in
theorem greck_yes (m n : Int) (x y : Int × Int) (hx : ResZ x) (hy : ResZ y) (m0 : -9007199254740992 < m) (m1 : m < 9007199254740992) (n0 : -9007199254740992 < n) (n1 : n < 9007199254740992) (w : World) :
    Calls Try.prog 123 #[.complex .f64 (fl m) (fl n), cz x, cz y] w fun e w' => e = .returned (cz (zred (m, n))) ∧ w = w' := by
  have c1 := gright_any (fl x.1) (fl x.2) (fl_wf _) (fl_wf _)
  have c2 := gright_any (fl y.1) (fl y.2) (fl_wf _) (fl_wf _)
  rw [part_res hx.a0 hx.a1, part_res hx.b0 hx.b1] at c1
  rw [part_res hy.a0 hy.a1, part_res hy.b0 hy.b1] at c2
  have c3 := gred_any (fl m) (fl n) m n (fl_int m (by omega)) (fl_int n (by omega)) (by omega) (by omega) (by omega) (by omega)
  unfold cz at *
  generalize fl m = u at *
  generalize fl n = v at *
  generalize fl x.1 = x1 at *
  generalize fl x.2 = x2 at *
  generalize fl y.1 = y1 at *
  generalize fl y.2 = y2 at *
  generalize fl (zred (m, n)).1 = z1 at *
  generalize fl (zred (m, n)).2 = z2 at *
  clear hx hy m0 m1 n0 n1
  go_enter Try.func123, Try.ntmps123
  go_wp2_with (first
    | (go_at_call 118; (with_reducible refine (c1 _).mono ?_); rintro e w' ⟨rfl, rfl⟩)
    | (go_at_call 118; (with_reducible refine (c2 _).mono ?_); rintro e w' ⟨rfl, rfl⟩)
    | (go_at_call 124; (with_reducible refine (c3 _).mono ?_); rintro e w' ⟨rfl, rfl⟩))
  go_ret
  exact ⟨rfl, rfl⟩
/-! ### Sums, differences, products -/
theorem zbound {a b : Int} (a0 : 0 ≤ a) (a1 : a < 65519) (b0 : 0 ≤ b) (b1 : b < 65519) : 0 ≤ a * b ∧ a * b < 4294967296 := by
  refine ⟨Int.mul_nonneg a0 b0, ?_⟩
  have h := Int.mul_le_mul (show a ≤ 65518 by omega) (show b ≤ 65518 by omega) b0 (by omega)
  omega
set_option maxRecDepth 100000 in
theorem gmul_any (x y : Int × Int) (hx : ResZ x) (hy : ResZ y) (w : World) : Calls Try.prog 87 #[cz x, cz y] w fun e w' => e = .returned (cz (gmulZ x y)) ∧ w = w' := by
  obtain ⟨x0, x1, x2, x3⟩ := id hx
  obtain ⟨y0, y1, y2, y3⟩ := id hy
  obtain ⟨b1, b2⟩ := zbound x0 x1 y0 y1
  obtain ⟨b3, b4⟩ := zbound x2 x3 y2 y3
  obtain ⟨b5, b6⟩ := zbound x0 x1 y2 y3
  obtain ⟨b7, b8⟩ := zbound x2 x3 y0 y1
  have hc := greck_yes (zmul x y).1 (zmul x y).2 x y hx hy (by unfold zmul; omega) (by unfold zmul; omega) (by unfold zmul; omega) (by unfold zmul; omega)
  have hs : ∀ w, (binOp .mul 54 (.complex .f64 (fl x.1) (fl x.2)) (.complex .f64 (fl y.1) (fl y.2))).run Try.prog w = .ok (.complex .f64 (fl (zmul x y).1) (fl (zmul x y).2)) w := fun w => by
    refine run_complex_mul w _ _ _ _ _ _ _ ?_
    unfold cMulBits zmul
    have e1 : floatBits .mul .f64 (fl x.1) (fl y.1) = some (fl (x.1 * y.1)) := fl_mul _ _ (by omega) (by omega) (by omega) x0 y0
    have e2 : floatBits .mul .f64 (fl x.2) (fl y.2) = some (fl (x.2 * y.2)) := fl_mul _ _ (by omega) (by omega) (by omega) x2 y2
    have e3 : floatBits .mul .f64 (fl x.1) (fl y.2) = some (fl (x.1 * y.2)) := fl_mul _ _ (by omega) (by omega) (by omega) x0 y2
    have e4 : floatBits .mul .f64 (fl x.2) (fl y.1) = some (fl (x.2 * y.1)) := fl_mul _ _ (by omega) (by omega) (by omega) x2 y0
    have e5 : floatBits .sub .f64 (fl (x.1 * y.1)) (fl (x.2 * y.2)) = some (fl (x.1 * y.1 - x.2 * y.2)) := fl_sub _ _ (by omega) (by omega) (by omega)
    have e6 : floatBits .add .f64 (fl (x.1 * y.2)) (fl (x.2 * y.1)) = some (fl (x.1 * y.2 + x.2 * y.1)) := fl_add _ _ (by omega) (by omega) (by omega)
    simp only [e1, e2, e3, e4, e5, e6, Option.bind_some]
  unfold gmulZ
  have hz : zmul x y = ((zmul x y).1, (zmul x y).2) := rfl
  rw [← hz] at hc
  generalize zred (zmul x y) = r at *
  clear hz b1 b2 b3 b4 b5 b6 b7 b8
  unfold cz at *
  generalize fl (zmul x y).1 = s1 at *
  generalize fl (zmul x y).2 = s2 at *
  generalize fl x.1 = a1 at *
  generalize fl x.2 = a2 at *
  generalize fl y.1 = c1 at *
  generalize fl y.2 = c2 at *
  generalize fl r.1 = z1 at *
  generalize fl r.2 = z2 at *
  clear hx hy x0 x1 x2 x3 y0 y1 y2 y3
  go_enter Try.func87, Try.ntmps87
  go_wp2_with (go_at_call 123; (with_reducible refine (hc _).mono ?_); rintro e w' ⟨rfl, rfl⟩)
  go_ret
  exact ⟨rfl, rfl⟩
end Go.Proofs.Ytkajfpincbkfhaa
/- gauss: Power, Inverse, Divide, Turn; the chapter's example. -/
set_option linter.unusedSimpArgs false
set_option linter.unusedVariables false
namespace Go.Proofs.Ytkajfpincbkfhaa
open Go.RowKit Go.Qc

theorem tmod2 (k : Nat) : ((k : Int)).tmod 2 = ((k % 2 : Nat) : Int) := by rw [Int.tmod_eq_emod_of_nonneg (by omega)]; omega
theorem tdiv2 (k : Nat) : ((k : Int)).tdiv 2 = ((k / 2 : Nat) : Int) := by rw [Int.tdiv_eq_ediv_of_nonneg (by omega)]; omega
/-- The loop's state: what is left to be multiplied. -/
structure PwI (x : Int × Int) (n : Nat) (A C : Int × Int) (k : Nat) : Prop where
  a : ResZ A
  c : ResZ C
  e : gmulZ C (gpowZ A k) = gpowZ x n
theorem PwI.start {x : Int × Int} (h : ResZ x) (n : Nat) : PwI x n x (1, 0) n := ⟨h, oneZ_res, gone_mulZ (gpowZ_res x n)⟩
theorem PwI.odd {x A C : Int × Int} {n k : Nat} (h : PwI x n A C k) (hk : k % 2 = 1) : PwI x n (gmulZ A A) (gmulZ C A) (k / 2) := ⟨gmulZ_res _ _, gmulZ_res _ _, by
  have := gpowZ_half h.a h.c k
  rw [if_pos hk] at this
  rw [this, h.e]⟩
theorem PwI.even {x A C : Int × Int} {n k : Nat} (h : PwI x n A C k) (hk : k % 2 = 0) : PwI x n (gmulZ A A) C (k / 2) := ⟨gmulZ_res _ _, h.c, by
  have := gpowZ_half h.a h.c k
  rw [if_neg (by omega)] at this
  rw [this, h.e]⟩
theorem PwI.stop {x A C : Int × Int} {n : Nat} (h : PwI x n A C 0) : C = gpowZ x n := by
  have := h.e
  rw [← this]
  exact (gmulZ_one h.c).symm
theorem meas_half (k : Nat) (h : 0 < k) : k / 2 < k := by omega
theorem pw_meas {k : Nat} (h : k / 2 < k) : ((k : Int) / 2).toNat < ((k : Int)).toNat := by omega
set_option maxRecDepth 100000 in
set_option maxHeartbeats 4000000 in
theorem gpower_any (x : Int × Int) (hx : ResZ x) (n : Nat) (hn : n < 4611686018427387904) (w : World) :
    Calls Try.prog 139 #[cz x, .int .i64 n] w fun e w' => e = .returned (cz (gpowZ x n)) ∧ w = w' := by
  have hr := gright_any (fl x.1) (fl x.2) (fl_wf _) (fl_wf _)
  rw [part_res hx.a0 hx.a1, part_res hx.b0 hx.b1] at hr
  have hr2 : ∀ w, Calls Try.prog 118 #[cz x] w fun e w' => e = .returned (.bool true) ∧ w = w' := hr
  clear hr
  have h0 := hid (PwI.start hx n)
  have hm := fun (A C : Int × Int) (hA : ResZ A) (hC : ResZ C) w => gmul_any C A hC hA w
  have hcz := cz_one
  clear hx
  go_enter Try.func139, Try.ntmps139
  go_wp2_with (go_at_call 118; (with_reducible refine (hr2 _).mono ?_); rintro e w' ⟨rfl, rfl⟩)
  rw [hcz]
  go_loopw [0, 1, 5] (fun a kk c wr => ∃ (A C : Int × Int) (k : Nat), a = cz A ∧ kk = .int .i64 k ∧ c = cz C ∧ k ≤ n ∧ wr = w ∧ Hid (PwI x n A C k)) (fun _ kk _ _ => (intOf kk).toNat)
  case atStart => exact ⟨x, (1, 0), n, rfl, rfl, rfl, Nat.le_refl _, rfl, h0⟩
  case round =>
    clear h0
    obtain ⟨A, C, k, rfl, rfl, rfl, hk, rfl, HI⟩ := hrel
    by_cases h1 : 0 < k
    · have z1 : (0 : Int) < k := by omega
      have hq := tdiv2 k
      have hr := tmod2 k
      have hl := hid (meas_half k h1)
      have HK := hid hk
      by_cases hp : k % 2 = 1
      · rw [hp] at hr
        have HN := hid (HI.out.odd hp)
        have m1 := hm A C HI.out.a HI.out.c
        have m2 := hm A A HI.out.a HI.out.a
        clear HI h1 hp hm hr2 hcz
        go_wp2_with (first
          | (go_at_call 87; (with_reducible refine (m1 _).mono ?_); rintro e w' ⟨rfl, rfl⟩)
          | (go_at_call 87; (with_reducible refine (m2 _).mono ?_); rintro e w' ⟨rfl, rfl⟩))
        go_roundw
        case rel => exact ⟨gmulZ A A, gmulZ C A, k / 2, rfl, congrArg (Value.int .i64) (by omega), rfl, Nat.le_trans (Nat.le_of_lt hl.out) HK.out, trivial, HN⟩
        case measure => exact pw_meas hl.out
      · have hp0 : k % 2 = 0 := by omega
        rw [hp0] at hr
        have HN := hid (HI.out.even hp0)
        have m2 := hm A A HI.out.a HI.out.a
        clear HI h1 hp hp0 hm hr2 hcz
        go_wp2_with (go_at_call 87; (with_reducible refine (m2 _).mono ?_); rintro e w' ⟨rfl, rfl⟩)
        go_roundw
        case rel => exact ⟨gmulZ A A, C, k / 2, rfl, congrArg (Value.int .i64) (by omega), rfl, Nat.le_trans (Nat.le_of_lt hl.out) HK.out, trivial, HN⟩
        case measure => exact pw_meas hl.out
    · obtain rfl : k = 0 := by omega
      have hC := HI.out.stop
      clear HI hm hr2 hcz h1
      subst hC
      go_wp2
      go_ret
      exact ⟨rfl, rfl⟩
/-! ### Inverses -/
theorem xor_top (x : Nat) (h : x < 2 ^ 63) : x ^^^ 2 ^ 63 = 2 ^ 63 + x := by
  have := Nat.two_pow_add_eq_or_of_lt h 1
  rw [Nat.mul_one] at this
  rw [this]
  apply Nat.eq_of_testBit_eq
  intro i
  rw [Nat.testBit_xor, Nat.testBit_or, Nat.testBit_two_pow]
  by_cases hi : 63 = i
  · subst hi
    rw [Nat.testBit_lt_two_pow h]; rfl
  · rw [decide_eq_false hi]
    cases x.testBit i <;> rfl
theorem neg_fl (n : Int) (h0 : 0 ≤ n) (hb : n.natAbs < 2 ^ 53) : (Ieee.double.read (fl n ^^^ 2 ^ 63)).toInt .zero = some (-n) := by
  have e : fl n ^^^ 2 ^ 63 = Ieee.double.word true (rungF n.natAbs) := by
    have hsw : Ieee.double.signWeight = 2 ^ 63 := by decide
    have hs := word_small _ hb
    have hn : ¬ n < 0 := by omega
    rw [fl_eq n hb, decide_eq_false hn]
    unfold Ieee.Format.word
    rw [if_neg (by decide), if_pos rfl, hsw]
    exact xor_top _ hs
  rw [e, word_int true hb, if_pos rfl]
  congr 1; omega
theorem fl_eqb (a b : Int) (ha : a.natAbs < 2 ^ 53) (hb : b.natAbs < 2 ^ 53) : (FloatKind.f64.format.order (fl a) (fl b) == some .eq) = decide (a = b) := by rw [ford a b ha hb, cmp_eq]
theorem run_cz_eq (t : TypeId) (x y : Int × Int) (hx : ResZ x) (hy : ResZ y) (w : World) : (binOp .eql t (cz x) (cz y)).run Try.prog w = .ok (.bool (decide (x = y))) w := by
  obtain ⟨x0, x1, x2, x3⟩ := hx
  obtain ⟨y0, y1, y2, y3⟩ := hy
  unfold cz
  rw [run_eql_complex, fl_eqb _ _ (by omega) (by omega), fl_eqb _ _ (by omega) (by omega)]
  congr 2
  obtain ⟨a, b⟩ := x
  obtain ⟨c, d⟩ := y
  by_cases h1 : a = c
  · by_cases h2 : b = d <;> simp [h1, h2]
  · simp [h1]
theorem run_cz_zero (t : TypeId) (x : Int × Int) (hx : ResZ x) (w : World) : (binOp .eql t (cz x) (.complex .f64 0 0)).run Try.prog w = .ok (.bool (decide (x = (0, 0)))) w := by
  rw [cz_zero]
  exact run_cz_eq t x (0, 0) hx ⟨by decide, by decide, by decide, by decide⟩ w
set_option maxRecDepth 100000 in
theorem ginv_any (x : Int × Int) (hx : ResZ x) (h0 : x ≠ (0, 0)) (w : World) : Calls Try.prog 117 #[cz x] w fun e w' => e = .returned (.tuple #[cz (ginvZ x), .bool true]) ∧ w = w' := by
  obtain ⟨x0, x1, x2, x3⟩ := id hx
  have hr := gright_any (fl x.1) (fl x.2) (fl_wf _) (fl_wf _)
  rw [part_res hx.a0 hx.a1, part_res hx.b0 hx.b1] at hr
  have hr2 : ∀ w, Calls Try.prog 118 #[.complex .f64 (fl x.1) (fl x.2)] w fun e w' => e = .returned (.bool true) ∧ w = w' := hr
  have hq : ∀ w, (binOp .eql 54 (.complex .f64 (fl x.1) (fl x.2)) (.complex .f64 0 0)).run Try.prog w = .ok (.bool false) w := fun w => by
    have := run_cz_zero 54 x hx w
    rw [decide_eq_false h0] at this
    exact this
  have hb : ∀ w, Calls Try.prog 124 #[.complex .f64 (fl x.1) (fl x.2 ^^^ 2 ^ 63)] w fun e w' => e = .returned (cz (gbarZ x)) ∧ w = w' := gred_any (fl x.1) (fl x.2 ^^^ 2 ^ 63) x.1 (-x.2) (fl_int _ (by omega)) (neg_fl _ x2 (by omega)) (by omega) (by omega) (by omega) (by omega)
  have m1 : ∀ w, Calls Try.prog 87 #[.complex .f64 (fl x.1) (fl x.2), cz (gbarZ x)] w fun e w' => e = .returned (cz (gmulZ x (gbarZ x))) ∧ w = w' := gmul_any x (gbarZ x) hx (zred_res _)
  have hp : ∀ w, Calls Try.prog 139 #[cz (gmulZ x (gbarZ x)), .int .i64 65517] w fun e w' => e = .returned (cz (gpowZ (gmulZ x (gbarZ x)) 65517)) ∧ w = w' := gpower_any (gmulZ x (gbarZ x)) (gmulZ_res _ _) 65517 (by decide)
  have m2 := gmul_any (gbarZ x) (gpowZ (gmulZ x (gbarZ x)) 65517) (zred_res _) (gpowZ_res _ _)
  have hn : ∀ w, (Op.unary .neg (.float .f64 (fl x.2))).run Try.prog w = .ok (.float .f64 (fl x.2 ^^^ 2 ^ 63)) w := fun w => rfl
  unfold ginvZ
  show Calls _ _ #[.complex .f64 (fl x.1) (fl x.2)] _ _
  generalize fl x.2 ^^^ 2 ^ 63 = c2 at *
  generalize fl x.1 = a1 at *
  generalize fl x.2 = a2 at *
  generalize gmulZ x (gbarZ x) = N at *
  generalize gpowZ N 65517 = T at *
  generalize gmulZ (gbarZ x) T = R at *
  generalize gbarZ x = B at *
  clear hx hr h0 x0 x1 x2 x3
  go_enter Try.func117, Try.ntmps117
  go_wp2_with (first
    | (go_at_call 118; (with_reducible refine (hr2 _).mono ?_); rintro e w' ⟨rfl, rfl⟩)
    | (go_at_call 124; (with_reducible refine (hb _).mono ?_); rintro e w' ⟨rfl, rfl⟩)
    | (go_at_call 87; (with_reducible refine (m1 _).mono ?_); rintro e w' ⟨rfl, rfl⟩)
    | (go_at_call 139; (with_reducible refine (hp _).mono ?_); rintro e w' ⟨rfl, rfl⟩)
    | (go_at_call 87; (with_reducible refine (m2 _).mono ?_); rintro e w' ⟨rfl, rfl⟩))
  go_ret2
  exact ⟨rfl, rfl⟩
end Go.Proofs.Ytkajfpincbkfhaa
/- gauss: the document's sums, differences, products, powers; the law's pairs; Divide, Turn. -/
set_option linter.unusedSimpArgs false
set_option linter.unusedVariables false
namespace Go.Proofs.Ytkajfpincbkfhaa
open Go.RowKit Go.Qc

/-- A pair as the document has it. -/
def pz (x : Int × Int) : Value := .agg #[.int .i64 x.1, .int .i64 x.2]
theorem wp_tail_drewZ {P : Program} {id : Nat} {Q : Exit → Act → World → Prop} {a : Act} {w : World} {l : List Oper} (n : Nat) (hm : P.follows .mixedOrders = true) (hB : Region.lexTailB .any l.toArray n = true)
    (h : wpStill P l.toArray w.drew (fun a' => wpList P l.toArray Q (l.drop n) a' w.drew) (l.take n) a) : (Code.region id l.toArray true).wp P Q a w := wp_region_still_tail n hm hB h
theorem mixedZ : Try.prog.follows .mixedOrders = true := by kernel_rfl
set_option maxRecDepth 100000 in
theorem rmod22_any (v : Int) (h0 : -4611686018427387904 < v) (h1 : v < 4611686018427387904) (w : World) : Calls Try.prog 90 #[.int .i64 v] w fun e w' => e = .returned (.int .i64 (v % 65519)) ∧ w' = w := by
  have e1 : v.tmod 65519 = if 0 ≤ v then v % 65519 else -((-v) % 65519) := by
    by_cases h : 0 ≤ v
    · rw [if_pos h, Int.tmod_eq_emod_of_nonneg h]
    · rw [if_neg h]
      have : v.tmod 65519 = -((-v).tmod 65519) := by rw [Int.neg_tmod, Int.neg_neg]
      rw [this, Int.tmod_eq_emod_of_nonneg (by omega)]
  obtain ⟨m, hm⟩ : ∃ m, v.tmod 65519 = m := ⟨_, rfl⟩
  have hm1 : -65519 < m ∧ m < 65519 := by rw [← hm, e1]; split <;> omega
  have hm2 : m < 0 → m + 65519 = v % 65519 := by rw [← hm, e1]; split <;> omega
  have hm3 : ¬ m < 0 → m = v % 65519 := by rw [← hm, e1]; split <;> omega
  clear e1
  generalize v % 65519 = r at *
  obtain ⟨hm4, hm5⟩ := hm1
  by_cases hneg : m < 0
  · have hr := hm2 hneg
    clear hm2 hm3 h0 h1
    go_enter Try.func90, Try.ntmps90
    go_wp2
    go_ret
    exact ⟨by rw [← hr]; rfl, rfl⟩
  · have hr := hm3 hneg
    clear hm2 hm3 h0 h1
    go_enter Try.func90, Try.ntmps90
    go_wp2
    go_ret
    exact ⟨by rw [← hr]; rfl, rfl⟩
theorem below_drewZ {B : Nat} {a w : World} (h : Below B a w) : Below B a w.drew := ⟨h.os, h.tape, h.output, h.size, h.block⟩
/-- Pairs in new blocks. -/
theorem blk_p2 (w : World) (o1 o2 : Obj) (t : TypeId) (cs : Array Value) : Blk (((w.alloc o1).alloc o2).alloc (.cells cs t)) (w.heap.size + 1 + 1) t cs := by
  have h := Blk.new ((w.alloc o1).alloc o2) t cs
  rwa [World.size_alloc, World.size_alloc] at h
theorem blk_p1 (w : World) (o1 : Obj) (t : TypeId) (cs : Array Value) : Blk ((w.alloc o1).alloc (.cells cs t)) (w.heap.size + 1) t cs := by
  have h := Blk.new (w.alloc o1) t cs
  rwa [World.size_alloc] at h
theorem ret_pair {fn : Func} {p : Tmp} (h : fn.results = #[.cell p 63]) (tmps : Array Value) (w : World) (g : Nat) (x y : Value) (hp : tmps.getD p undef = .pointer (some ⟨g, 0, none⟩)) (hg : Blk w g 63 #[x, y]) :
    (results fn tmps).run Try.prog w = .ok (.agg #[x, y]) w := results_cell_row h tmps w g _ _ _ _ hp hg Try.underlying63 rfl (by kernel_rfl)
theorem below_p3 (w : World) (x y z : Array Value) (t u v : TypeId) : Below w.heap.size w (((w.alloc (.cells x t)).alloc (.cells y u)).alloc (.cells z v)) :=
  (((Below.refl w.heap.size w).alloc (Nat.le_refl _) _).alloc (by rw [World.size_alloc]; omega) _).alloc (by rw [World.size_alloc, World.size_alloc]; omega) _
set_option maxRecDepth 100000 in
set_option maxHeartbeats 4000000 in
theorem rmul22_any (x y : Int × Int) (hx : ResZ x) (hy : ResZ y) (w : World) : Calls Try.prog 82 #[pz x, pz y] w fun e w' => e = .returned (pz (gmulZ x y)) ∧ Below w.heap.size w w' := by
  obtain ⟨a, b⟩ := x
  obtain ⟨c, d⟩ := y
  obtain ⟨x0, x1, x2, x3⟩ := hx
  obtain ⟨y0, y1, y2, y3⟩ := hy
  dsimp only at *
  obtain ⟨b1, b2⟩ := zbound x0 x1 y0 y1
  obtain ⟨b3, b4⟩ := zbound x2 x3 y2 y3
  obtain ⟨b5, b6⟩ := zbound x0 x1 y2 y3
  obtain ⟨b7, b8⟩ := zbound x2 x3 y0 y1
  have q1 := fun W => rmod22_any (a * c - b * d) (by omega) (by omega) W
  have q2 := fun W => rmod22_any (a * d + b * c) (by omega) (by omega) W
  have e1 : IntKind.i64.wrap (IntKind.i64.wrap (a * c) - IntKind.i64.wrap (b * d)) = a * c - b * d := by simp only [IntKind.wrap_i64]; omega
  have e2 : IntKind.i64.wrap (IntKind.i64.wrap (a * d) + IntKind.i64.wrap (b * c)) = a * d + b * c := by simp only [IntKind.wrap_i64]; omega
  unfold pz gmulZ zred zmul
  dsimp only
  generalize (a * c - b * d) % 65519 = r1 at *
  generalize (a * d + b * c) % 65519 = r2 at *
  go_enter Try.func82, Try.ntmps82
  go_wp2_with (fail)
  refine wp_tail_drewZ 24 mixedZ (by kernel_rfl) ?_
  simp only [List.take_succ_cons, List.take_zero, List.drop_succ_cons, List.drop_zero]
  repeat (first
    | (refine wpStill_step (fun K hK => ?_); go_simp; (with_reducible refine hK _ ?_); clear hK K)
    | (refine wpStill_step (fun K hK => ?_); go_simp; (with_reducible refine ⟨_, q1 _, hK _ ?_⟩); clear hK K)
    | (refine wpStill_step (fun K hK => ?_); go_simp; (with_reducible refine ⟨_, q2 _, hK _ ?_⟩); clear hK K))
  refine wpStill_nil ?_
  go_wp2_with (fail)
  refine bodyPost_ret (ret_pair rfl _ _ _ _ _ rfl (blk_heap rfl (blk_p2 w _ _ _ _))) rfl ⟨rfl, ?_⟩
  exact below_drewZ (below_p3 w _ _ _ _ _ _)
theorem infoPairZ : (Try.prog.info? 63).map (·.size) = some 2 := by kernel_rfl
theorem blk_grownZ {w w' : World} {g k : Nat} {t : TypeId} {cs : Array Value} (h : Blk w g t cs) (hg : w.grownBy w' (some k)) (hne : g ≠ k) : Blk w' g t cs := (hg.block g h.lt (by simpa using hne)).trans h
theorem below_grownZ {w W W' : World} {k : Nat} (h : Below w.heap.size w W) (hg : W.grownBy W' (some k)) (hk : w.heap.size ≤ k) : Below w.heap.size w W' := h.grown hg h.size (fun i e => by have := Option.some.inj e; omega)
theorem meas_z {n k : Nat} (h : k < n) : n - ((k : Int) + 1).toNat < n - ((k : Int)).toNat := by omega
end Go.Proofs.Ytkajfpincbkfhaa

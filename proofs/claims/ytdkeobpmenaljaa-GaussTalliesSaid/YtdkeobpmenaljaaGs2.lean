
/- gauss: Power, Inverse, Divide, Turn; the chapter's example. -/
import Derived.Test.YtdkeobpmenaljaaGs1
import Derived.Deep.DeepCutAuto
set_option linter.unusedSimpArgs false
set_option linter.unusedVariables false
namespace Go.Proofs.Ytdkeobpmenaljaa
open Go.RowKit Go.Qc

theorem tmod2 (k : Nat) : ((k : Int)).tmod 2 = ((k % 2 : Nat) : Int) := by rw [Int.tmod_eq_emod_of_nonneg (by omega)]; omega
theorem tdiv2 (k : Nat) : ((k : Int)).tdiv 2 = ((k / 2 : Nat) : Int) := by rw [Int.tdiv_eq_ediv_of_nonneg (by omega)]; omega
/-- The loop's state: what is left to be multiplied. -/
structure PwI (x : Int × Int) (n : Nat) (A C : Int × Int) (k : Nat) : Prop where
  a : ResZ A
  c : ResZ C
  e : gmulZ C (gpowZ A k) = gpowZ x n
theorem PwI.start {x : Int × Int} (h : ResZ x) (n : Nat) : PwI x n x (1, 0) n := ⟨h, oneZ_res, gone_mulZ (gpowZ_res x n)⟩
theorem PwI.odd {x A C : Int × Int} {n k : Nat} (h : PwI x n A C k) (hk : k % 2 = 1) : PwI x n (gmulZ A A) (gmulZ C A) (k / 2) := ⟨gmulZ_res _ _, gmulZ_res _ _, by
  have := gpowZ_half h.a h.c k
  rw [if_pos hk] at this
  rw [this, h.e]⟩
theorem PwI.even {x A C : Int × Int} {n k : Nat} (h : PwI x n A C k) (hk : k % 2 = 0) : PwI x n (gmulZ A A) C (k / 2) := ⟨gmulZ_res _ _, h.c, by
  have := gpowZ_half h.a h.c k
  rw [if_neg (by omega)] at this
  rw [this, h.e]⟩
theorem PwI.stop {x A C : Int × Int} {n : Nat} (h : PwI x n A C 0) : C = gpowZ x n := by
  have := h.e
  rw [← this]
  exact (gmulZ_one h.c).symm
theorem meas_half (k : Nat) (h : 0 < k) : k / 2 < k := by omega
theorem pw_meas {k : Nat} (h : k / 2 < k) : ((k : Int) / 2).toNat < ((k : Int)).toNat := by omega
set_option maxRecDepth 100000 in
set_option maxHeartbeats 4000000 in
theorem gpower_any (x : Int × Int) (hx : ResZ x) (n : Nat) (hn : n < 4611686018427387904) (w : World) :
    Calls Try.prog 49 #[cz x, .int .i64 n] w fun e w' => e = .returned (cz (gpowZ x n)) ∧ w = w' := by
  have hr := gright_any (fl x.1) (fl x.2) (fl_wf _) (fl_wf _)
  rw [part_res hx.a0 hx.a1, part_res hx.b0 hx.b1] at hr
  have hr2 : ∀ w, Calls Try.prog 42 #[cz x] w fun e w' => e = .returned (.bool true) ∧ w = w' := hr
  clear hr
  have h0 := hid (PwI.start hx n)
  have hm := fun (A C : Int × Int) (hA : ResZ A) (hC : ResZ C) w => gmul_any C A hC hA w
  have hcz := cz_one
  clear hx
  go_enter Try.func49, Try.ntmps49
  go_wp2_with (go_at_call 42; (with_reducible refine (hr2 _).mono ?_); rintro e w' ⟨rfl, rfl⟩)
  rw [hcz]
  go_loopw [0, 1, 5] (fun a kk c wr => ∃ (A C : Int × Int) (k : Nat), a = cz A ∧ kk = .int .i64 k ∧ c = cz C ∧ k ≤ n ∧ wr = w ∧ Hid (PwI x n A C k)) (fun _ kk _ _ => (intOf kk).toNat)
  case atStart => exact ⟨x, (1, 0), n, rfl, rfl, rfl, Nat.le_refl _, rfl, h0⟩
  case round =>
    clear h0
    obtain ⟨A, C, k, rfl, rfl, rfl, hk, rfl, HI⟩ := hrel
    by_cases h1 : 0 < k
    · have z1 : (0 : Int) < k := by omega
      have hq := tdiv2 k
      have hr := tmod2 k
      have hl := hid (meas_half k h1)
      have HK := hid hk
      by_cases hp : k % 2 = 1
      · rw [hp] at hr
        have HN := hid (HI.out.odd hp)
        have m1 := hm A C HI.out.a HI.out.c
        have m2 := hm A A HI.out.a HI.out.a
        clear HI h1 hp hm hr2 hcz
        go_wp2_with (first
          | (go_at_call 47; (with_reducible refine (m1 _).mono ?_); rintro e w' ⟨rfl, rfl⟩)
          | (go_at_call 47; (with_reducible refine (m2 _).mono ?_); rintro e w' ⟨rfl, rfl⟩))
        go_roundw
        case rel => exact ⟨gmulZ A A, gmulZ C A, k / 2, rfl, congrArg (Value.int .i64) (by omega), rfl, Nat.le_trans (Nat.le_of_lt hl.out) HK.out, trivial, HN⟩
        case measure => exact pw_meas hl.out
      · have hp0 : k % 2 = 0 := by omega
        rw [hp0] at hr
        have HN := hid (HI.out.even hp0)
        have m2 := hm A A HI.out.a HI.out.a
        clear HI h1 hp hp0 hm hr2 hcz
        go_wp2_with (go_at_call 47; (with_reducible refine (m2 _).mono ?_); rintro e w' ⟨rfl, rfl⟩)
        go_roundw
        case rel => exact ⟨gmulZ A A, C, k / 2, rfl, congrArg (Value.int .i64) (by omega), rfl, Nat.le_trans (Nat.le_of_lt hl.out) HK.out, trivial, HN⟩
        case measure => exact pw_meas hl.out
    · obtain rfl : k = 0 := by omega
      have hC := HI.out.stop
      clear HI hm hr2 hcz h1
      subst hC
      go_wp2
      go_ret
      exact ⟨rfl, rfl⟩
/-! ### Inverses -/
theorem xor_top (x : Nat) (h : x < 2 ^ 63) : x ^^^ 2 ^ 63 = 2 ^ 63 + x := by
  have := Nat.two_pow_add_eq_or_of_lt h 1
  rw [Nat.mul_one] at this
  rw [this]
  apply Nat.eq_of_testBit_eq
  intro i
  rw [Nat.testBit_xor, Nat.testBit_or, Nat.testBit_two_pow]
  by_cases hi : 63 = i
  · subst hi
    rw [Nat.testBit_lt_two_pow h]; rfl
  · rw [decide_eq_false hi]
    cases x.testBit i <;> rfl
theorem neg_fl (n : Int) (h0 : 0 ≤ n) (hb : n.natAbs < 2 ^ 53) : (Ieee.double.read (fl n ^^^ 2 ^ 63)).toInt .zero = some (-n) := by
  have e : fl n ^^^ 2 ^ 63 = Ieee.double.word true (rungF n.natAbs) := by
    have hsw : Ieee.double.signWeight = 2 ^ 63 := by decide
    have hs := word_small _ hb
    have hn : ¬ n < 0 := by omega
    rw [fl_eq n hb, decide_eq_false hn]
    unfold Ieee.Format.word
    rw [if_neg (by decide), if_pos rfl, hsw]
    exact xor_top _ hs
  rw [e, word_int true hb, if_pos rfl]
  congr 1; omega
theorem fl_eqb (a b : Int) (ha : a.natAbs < 2 ^ 53) (hb : b.natAbs < 2 ^ 53) : (FloatKind.f64.format.order (fl a) (fl b) == some .eq) = decide (a = b) := by rw [ford a b ha hb, cmp_eq]
theorem run_cz_eq (t : TypeId) (x y : Int × Int) (hx : ResZ x) (hy : ResZ y) (w : World) : (binOp .eql t (cz x) (cz y)).run Try.prog w = .ok (.bool (decide (x = y))) w := by
  obtain ⟨x0, x1, x2, x3⟩ := hx
  obtain ⟨y0, y1, y2, y3⟩ := hy
  unfold cz
  rw [run_eql_complex, fl_eqb _ _ (by omega) (by omega), fl_eqb _ _ (by omega) (by omega)]
  congr 2
  obtain ⟨a, b⟩ := x
  obtain ⟨c, d⟩ := y
  by_cases h1 : a = c
  · by_cases h2 : b = d <;> simp [h1, h2]
  · simp [h1]
theorem run_cz_zero (t : TypeId) (x : Int × Int) (hx : ResZ x) (w : World) : (binOp .eql t (cz x) (.complex .f64 0 0)).run Try.prog w = .ok (.bool (decide (x = (0, 0)))) w := by
  rw [cz_zero]
  exact run_cz_eq t x (0, 0) hx ⟨by decide, by decide, by decide, by decide⟩ w
set_option maxRecDepth 100000 in
theorem ginv_any (x : Int × Int) (hx : ResZ x) (h0 : x ≠ (0, 0)) (w : World) : Calls Try.prog 53 #[cz x] w fun e w' => e = .returned (.tuple #[cz (ginvZ x), .bool true]) ∧ w = w' := by
  obtain ⟨x0, x1, x2, x3⟩ := id hx
  have hr := gright_any (fl x.1) (fl x.2) (fl_wf _) (fl_wf _)
  rw [part_res hx.a0 hx.a1, part_res hx.b0 hx.b1] at hr
  have hr2 : ∀ w, Calls Try.prog 42 #[.complex .f64 (fl x.1) (fl x.2)] w fun e w' => e = .returned (.bool true) ∧ w = w' := hr
  have hq : ∀ w, (binOp .eql 80 (.complex .f64 (fl x.1) (fl x.2)) (.complex .f64 0 0)).run Try.prog w = .ok (.bool false) w := fun w => by
    have := run_cz_zero 80 x hx w
    rw [decide_eq_false h0] at this
    exact this
  have hb : ∀ w, Calls Try.prog 98 #[.complex .f64 (fl x.1) (fl x.2 ^^^ 2 ^ 63)] w fun e w' => e = .returned (cz (gbarZ x)) ∧ w = w' := gred_any (fl x.1) (fl x.2 ^^^ 2 ^ 63) x.1 (-x.2) (fl_int _ (by omega)) (neg_fl _ x2 (by omega)) (by omega) (by omega) (by omega) (by omega)
  have m1 : ∀ w, Calls Try.prog 47 #[.complex .f64 (fl x.1) (fl x.2), cz (gbarZ x)] w fun e w' => e = .returned (cz (gmulZ x (gbarZ x))) ∧ w = w' := gmul_any x (gbarZ x) hx (zred_res _)
  have hp : ∀ w, Calls Try.prog 49 #[cz (gmulZ x (gbarZ x)), .int .i64 65517] w fun e w' => e = .returned (cz (gpowZ (gmulZ x (gbarZ x)) 65517)) ∧ w = w' := gpower_any (gmulZ x (gbarZ x)) (gmulZ_res _ _) 65517 (by decide)
  have m2 := gmul_any (gbarZ x) (gpowZ (gmulZ x (gbarZ x)) 65517) (zred_res _) (gpowZ_res _ _)
  have hn : ∀ w, (Op.unary .neg (.float .f64 (fl x.2))).run Try.prog w = .ok (.float .f64 (fl x.2 ^^^ 2 ^ 63)) w := fun w => rfl
  unfold ginvZ
  show Calls _ _ #[.complex .f64 (fl x.1) (fl x.2)] _ _
  generalize fl x.2 ^^^ 2 ^ 63 = c2 at *
  generalize fl x.1 = a1 at *
  generalize fl x.2 = a2 at *
  generalize gmulZ x (gbarZ x) = N at *
  generalize gpowZ N 65517 = T at *
  generalize gmulZ (gbarZ x) T = R at *
  generalize gbarZ x = B at *
  clear hx hr h0 x0 x1 x2 x3
  go_enter Try.func53, Try.ntmps53
  go_wp2_with (first
    | (go_at_call 42; (with_reducible refine (hr2 _).mono ?_); rintro e w' ⟨rfl, rfl⟩)
    | (go_at_call 98; (with_reducible refine (hb _).mono ?_); rintro e w' ⟨rfl, rfl⟩)
    | (go_at_call 47; (with_reducible refine (m1 _).mono ?_); rintro e w' ⟨rfl, rfl⟩)
    | (go_at_call 49; (with_reducible refine (hp _).mono ?_); rintro e w' ⟨rfl, rfl⟩)
    | (go_at_call 47; (with_reducible refine (m2 _).mono ?_); rintro e w' ⟨rfl, rfl⟩))
  go_ret2
  exact ⟨rfl, rfl⟩
end Go.Proofs.Ytdkeobpmenaljaa

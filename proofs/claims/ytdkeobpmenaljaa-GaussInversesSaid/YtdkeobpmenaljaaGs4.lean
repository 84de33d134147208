
/- gauss: Divide, Turn, the chapter's example; the law's pairs and numbers. -/
import Derived.Test.YtdkeobpmenaljaaGs3
set_option linter.unusedSimpArgs false
set_option linter.unusedVariables false
namespace Go.Proofs.Ytdkeobpmenaljaa
open Go.RowKit Go.Qc

theorem iZ_res : ResZ (0, 1) := ⟨by decide, by decide, by decide, by decide⟩
theorem cz_i : Value.complex .f64 0 4607182418800017408 = cz (0, 1) := by
  show _ = Value.complex .f64 (fl 0) (fl 1)
  rw [fl_zero, fl_one]
theorem cz_mi : Value.complex .f64 0 4679237538936782848 = cz (0, 65518) := by
  show _ = Value.complex .f64 (fl 0) (fl 65518)
  rw [fl_zero, fl_last]
set_option maxRecDepth 100000 in
theorem gdiv_zero (x : Int × Int) (w : World) : Calls Try.prog 54 #[cz x, cz (0, 0)] w fun e w' => e = .returned (.tuple #[cz (0, 0), .bool false]) ∧ w = w' := by
  have hi := ginv_zero
  rw [show (.tuple #[cz (0, 0), .bool false] : Value) = .tuple #[.complex .f64 0 0, .bool false] by rw [cz_zero]]
  go_enter Try.func54, Try.ntmps54
  go_wp2_with (go_at_call 53; (with_reducible refine (hi _).mono ?_); rintro e w' ⟨rfl, rfl⟩)
  go_ret2
  exact ⟨rfl, rfl⟩
set_option maxRecDepth 100000 in
theorem gdiv_any (x y : Int × Int) (hx : ResZ x) (hy : ResZ y) (h0 : y ≠ (0, 0)) (w : World) : Calls Try.prog 54 #[cz x, cz y] w fun e w' => e = .returned (.tuple #[cz (gmulZ x (ginvZ y)), .bool true]) ∧ w = w' := by
  have hi := ginv_any y hy h0
  have hr : ∀ w, Calls Try.prog 42 #[cz x] w fun e w' => e = .returned (.bool true) ∧ w = w' := by
    have hr := gright_any (fl x.1) (fl x.2) (fl_wf _) (fl_wf _)
    rw [part_res hx.a0 hx.a1, part_res hx.b0 hx.b1] at hr
    exact hr
  have hm := gmul_any x (ginvZ y) hx (ginv_res y)
  generalize gmulZ x (ginvZ y) = r at *
  generalize ginvZ y = t at *
  clear hx hy h0
  go_enter Try.func54, Try.ntmps54
  go_wp2_with (first
    | (go_at_call 53; (with_reducible refine (hi _).mono ?_); rintro e w' ⟨rfl, rfl⟩)
    | (go_at_call 42; (with_reducible refine (hr _).mono ?_); rintro e w' ⟨rfl, rfl⟩)
    | (go_at_call 47; (with_reducible refine (hm _).mono ?_); rintro e w' ⟨rfl, rfl⟩))
  go_ret2
  exact ⟨rfl, rfl⟩
set_option maxRecDepth 100000 in
theorem awake22_any (w : World) : Calls Try.prog 52 #[] w fun e w' => e = .returned (.bool true) ∧ w = w' := by
  have hi := ginv_any (0, 1) iZ_res (by decide)
  rw [ginv_i, ← cz_i, ← cz_mi] at hi
  have hq : ∀ w, (binOp .eql 80 (.complex .f64 0 4679237538936782848) (.complex .f64 0 4679237538936782848)).run Try.prog w = .ok (.bool true) w := fun w => by
    have := run_cz_eq 80 (0, 65518) (0, 65518) ⟨by decide, by decide, by decide, by decide⟩ ⟨by decide, by decide, by decide, by decide⟩ w
    rw [← cz_mi, decide_eq_true rfl] at this
    exact this
  go_enter Try.func52, Try.ntmps52
  go_wp2_with (go_at_call 53; (with_reducible refine (hi _).mono ?_); rintro e w' ⟨rfl, rfl⟩)
  go_ret
  exact ⟨rfl, rfl⟩
theorem u16_tmod (a : Nat) : ((a : Int)).tmod 65519 = ((a % 65519 : Nat) : Int) := by rw [Int.tmod_eq_emod_of_nonneg (by omega)]; omega
/-- Of two numbers a residue. -/
def prZ (a b : Nat) : Int × Int := (((a % 65519 : Nat) : Int), ((b % 65519 : Nat) : Int))
theorem prZ_res (a b : Nat) : ResZ (prZ a b) := by
  refine ⟨?_, ?_, ?_, ?_⟩ <;> (unfold prZ; dsimp only; omega)
set_option maxRecDepth 100000 in
theorem pair22_any (a b : Nat) (ha : a < 65536) (hb : b < 65536) (w : World) : Calls Try.prog 40 #[.int .u16 a, .int .u16 b] w fun e w' => e = .returned (pz (prZ a b)) ∧ Below w.heap.size w w' := by
  have e1 := u16_tmod a
  have e2 := u16_tmod b
  unfold prZ pz
  dsimp only
  generalize a % 65519 = r at *
  generalize b % 65519 = s at *
  go_enter Try.func40, Try.ntmps40
  go_wp2
  refine bodyPost_ret (ret_pair rfl _ _ _ _ _ rfl (Blk.new _ _ _)) rfl ⟨rfl, ?_⟩
  exact (Below.refl w.heap.size w).alloc (Nat.le_refl _) _
set_option maxRecDepth 100000 in
theorem number22_any (x : Int × Int) (w : World) : Calls Try.prog 41 #[pz x] w fun e w' => e = .returned (cz x) ∧ Below w.heap.size w w' := by
  obtain ⟨a, b⟩ := x
  have hd : ∀ (w : World) (m : Int), (convert 3 97 (.int .i64 m)).run Try.prog w = .ok (.float .f64 (fl m)) w := fun w m => run_convert_int_float w _ _ .i64 .f64 m (by kernel_rfl) (by kernel_rfl)
  unfold pz cz
  dsimp only
  go_enter Try.func41, Try.ntmps41
  go_wp2
  go_ret
  exact ⟨rfl, (Below.refl w.heap.size w).alloc (Nat.le_refl _) _⟩
end Go.Proofs.Ytdkeobpmenaljaa

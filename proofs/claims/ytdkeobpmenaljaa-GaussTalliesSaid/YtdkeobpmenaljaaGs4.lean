
/- gauss: Divide, Turn, the chapter's example; the law's pairs and numbers. -/
import Derived.Test.YtdkeobpmenaljaaGs3
set_option linter.unusedSimpArgs false
set_option linter.unusedVariables false
namespace Go.Proofs.Ytdkeobpmenaljaa
open Go.RowKit Go.Qc

theorem iZ_res : ResZ (0, 1) := ⟨by decide, by decide, by decide, by decide⟩
theorem cz_i : Value.complex .f64 0 4607182418800017408 = cz (0, 1) := by
  show _ = Value.complex .f64 (fl 0) (fl 1)
  rw [fl_zero, fl_one]
theorem cz_mi : Value.complex .f64 0 4679237538936782848 = cz (0, 65518) := by
  show _ = Value.complex .f64 (fl 0) (fl 65518)
  rw [fl_zero, fl_last]
set_option maxRecDepth 100000 in
theorem awake22_any (w : World) : Calls Try.prog 52 #[] w fun e w' => e = .returned (.bool true) ∧ w = w' := by
  have hi := ginv_any (0, 1) iZ_res (by decide)
  rw [ginv_i, ← cz_i, ← cz_mi] at hi
  have hq : ∀ w, (binOp .eql 80 (.complex .f64 0 4679237538936782848) (.complex .f64 0 4679237538936782848)).run Try.prog w = .ok (.bool true) w := fun w => by
    have := run_cz_eq 80 (0, 65518) (0, 65518) ⟨by decide, by decide, by decide, by decide⟩ ⟨by decide, by decide, by decide, by decide⟩ w
    rw [← cz_mi, decide_eq_true rfl] at this
    exact this
  go_enter Try.func52, Try.ntmps52
  go_wp2_with (go_at_call 53; (with_reducible refine (hi _).mono ?_); rintro e w' ⟨rfl, rfl⟩)
  go_ret
  exact ⟨rfl, rfl⟩
set_option maxRecDepth 100000 in
theorem number22_any (x : Int × Int) (w : World) : Calls Try.prog 41 #[pz x] w fun e w' => e = .returned (cz x) ∧ Below w.heap.size w w' := by
  obtain ⟨a, b⟩ := x
  have hd : ∀ (w : World) (m : Int), (convert 3 97 (.int .i64 m)).run Try.prog w = .ok (.float .f64 (fl m)) w := fun w m => run_convert_int_float w _ _ .i64 .f64 m (by kernel_rfl) (by kernel_rfl)
  unfold pz cz
  dsimp only
  go_enter Try.func41, Try.ntmps41
  go_wp2
  go_ret
  exact ⟨rfl, (Below.refl w.heap.size w).alloc (Nat.le_refl _) _⟩
end Go.Proofs.Ytdkeobpmenaljaa

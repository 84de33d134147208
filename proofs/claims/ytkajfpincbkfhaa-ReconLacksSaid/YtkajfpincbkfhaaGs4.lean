
/- gauss: Divide, Turn, the chapter's example; the law's pairs and numbers. -/
import Derived.Test.YtkajfpincbkfhaaGs3
set_option linter.unusedSimpArgs false
set_option linter.unusedVariables false
namespace Go.Proofs.Ytkajfpincbkfhaa
open Go.RowKit Go.Qc

set_option maxRecDepth 100000 in
theorem gdiv_any (x y : Int × Int) (hx : ResZ x) (hy : ResZ y) (h0 : y ≠ (0, 0)) (w : World) : Calls Try.prog 80 #[cz x, cz y] w fun e w' => e = .returned (.tuple #[cz (gmulZ x (ginvZ y)), .bool true]) ∧ w = w' := by
  have hi := ginv_any y hy h0
  have hr : ∀ w, Calls Try.prog 118 #[cz x] w fun e w' => e = .returned (.bool true) ∧ w = w' := by
    have hr := gright_any (fl x.1) (fl x.2) (fl_wf _) (fl_wf _)
    rw [part_res hx.a0 hx.a1, part_res hx.b0 hx.b1] at hr
    exact hr
  have hm := gmul_any x (ginvZ y) hx (ginv_res y)
  generalize gmulZ x (ginvZ y) = r at *
  generalize ginvZ y = t at *
  clear hx hy h0
  go_enter Try.func80, Try.ntmps80
  go_wp2_with (first
    | (go_at_call 117; (with_reducible refine (hi _).mono ?_); rintro e w' ⟨rfl, rfl⟩)
    | (go_at_call 118; (with_reducible refine (hr _).mono ?_); rintro e w' ⟨rfl, rfl⟩)
    | (go_at_call 87; (with_reducible refine (hm _).mono ?_); rintro e w' ⟨rfl, rfl⟩))
  go_ret2
  exact ⟨rfl, rfl⟩
set_option maxRecDepth 100000 in
theorem number22_any (x : Int × Int) (w : World) : Calls Try.prog 32 #[pz x] w fun e w' => e = .returned (cz x) ∧ Below w.heap.size w w' := by
  obtain ⟨a, b⟩ := x
  have hd : ∀ (w : World) (m : Int), (convert 3 117 (.int .i64 m)).run Try.prog w = .ok (.float .f64 (fl m)) w := fun w m => run_convert_int_float w _ _ .i64 .f64 m (by kernel_rfl) (by kernel_rfl)
  unfold pz cz
  dsimp only
  go_enter Try.func32, Try.ntmps32
  go_wp2
  go_ret
  exact ⟨rfl, (Below.refl w.heap.size w).alloc (Nat.le_refl _) _⟩
end Go.Proofs.Ytkajfpincbkfhaa

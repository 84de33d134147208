
/- gauss: Divide, Turn, the chapter's example; the law's pairs and numbers. -/
import Derived.Test.YtkajfpincbkfhaaGs3
set_option linter.unusedSimpArgs false
set_option linter.unusedVariables false
namespace Go.Proofs.Ytkajfpincbkfhaa
open Go.RowKit Go.Qc

set_option maxRecDepth 100000 in
theorem number22_any (x : Int × Int) (w : World) : Calls Try.prog 32 #[pz x] w fun e w' => e = .returned (cz x) ∧ Below w.heap.size w w' := by
  obtain ⟨a, b⟩ := x
  have hd : ∀ (w : World) (m : Int), (convert 3 117 (.int .i64 m)).run Try.prog w = .ok (.float .f64 (fl m)) w := fun w m => run_convert_int_float w _ _ .i64 .f64 m (by kernel_rfl) (by kernel_rfl)
  unfold pz cz
  dsimp only
  go_enter Try.func32, Try.ntmps32
  go_wp2
  go_ret
  exact ⟨rfl, (Below.refl w.heap.size w).alloc (Nat.le_refl _) _⟩
end Go.Proofs.Ytkajfpincbkfhaa

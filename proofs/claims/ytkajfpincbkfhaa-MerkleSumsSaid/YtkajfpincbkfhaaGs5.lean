
/- gauss: regions that draw their order, read, and call what leaves old blocks alone; what the laws' calls answer, told by letters. -/
import Derived.Test.YtkajfpincbkfhaaGs4
import Derived.Laws.StructEq
set_option linter.unusedSimpArgs false
set_option linter.unusedVariables false
namespace Go.Proofs.Ytkajfpincbkfhaa
open Go.RowKit Go.Qc

/-- A residue's four letters: both parts, as whole numbers and as floats. -/
structure LetZ (r : Int × Int) (a b : Int) (u v : Nat) : Prop where
  ra : r.1 = a
  rb : r.2 = b
  ua : fl a = u
  vb : fl b = v
theorem LetZ.pz {r : Int × Int} {a b : Int} {u v : Nat} (h : LetZ r a b u v) : pz r = .agg #[.int .i64 a, .int .i64 b] := by unfold Proofs.Ytkajfpincbkfhaa.pz; rw [h.ra, h.rb]
theorem LetZ.cz {r : Int × Int} {a b : Int} {u v : Nat} (h : LetZ r a b u v) : cz r = .complex .f64 u v := by unfold Proofs.Ytkajfpincbkfhaa.cz; rw [h.ra, h.rb, h.ua, h.vb]
theorem LetZ.eq {r : Int × Int} {a b : Int} {u v : Nat} (h : LetZ r a b u v) (hr : ResZ r) (W : World) : (binOp .eql 54 (.complex .f64 u v) (.complex .f64 u v)).run Try.prog W = .ok (.bool true) W := by
  have := run_cz_eq 54 r r hr hr W
  rw [decide_eq_true rfl, h.cz] at this
  exact this
theorem LetZ.number {r : Int × Int} {a b : Int} {u v : Nat} (h : LetZ r a b u v) (W : World) : Calls Try.prog 32 #[.agg #[.int .i64 a, .int .i64 b]] W fun e w' => e = .returned (.complex .f64 u v) ∧ Below W.heap.size W w' := by
  have := number22_any r W
  rw [h.pz, h.cz] at this
  exact this
theorem wf_i64Z {a : Int} (h : (Lit.int .i64 a).wf = true) : -9223372036854775808 ≤ a ∧ a ≤ 9223372036854775807 := by
  have h2 : IntKind.i64.min ≤ a ∧ a ≤ IntKind.i64.max := by simpa [Lit.wf] using h
  have e1 : IntKind.i64.min = -9223372036854775808 := by decide
  have e2 : IntKind.i64.max = 9223372036854775807 := by decide
  rwa [e1, e2] at h2

end Go.Proofs.Ytkajfpincbkfhaa

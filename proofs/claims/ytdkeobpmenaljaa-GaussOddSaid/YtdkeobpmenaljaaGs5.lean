
/- gauss: regions that draw their order, read, and call what leaves old blocks alone; what the laws' calls answer, told by letters. -/
import Derived.Test.YtdkeobpmenaljaaGs4
import Derived.Laws.StructEq
set_option linter.unusedSimpArgs false
set_option linter.unusedVariables false
namespace Go.Proofs.Ytdkeobpmenaljaa
open Go.RowKit Go.Qc

/-- A residue's four letters: both parts, as whole numbers and as floats. -/
structure LetZ (r : Int × Int) (a b : Int) (u v : Nat) : Prop where
  ra : r.1 = a
  rb : r.2 = b
  ua : fl a = u
  vb : fl b = v
theorem LetZ.mk_ (r : Int × Int) : ∃ a b u v, LetZ r a b u v := ⟨_, _, _, _, rfl, rfl, rfl, rfl⟩
theorem LetZ.pz {r : Int × Int} {a b : Int} {u v : Nat} (h : LetZ r a b u v) : pz r = .agg #[.int .i64 a, .int .i64 b] := by unfold Proofs.Ytdkeobpmenaljaa.pz; rw [h.ra, h.rb]
theorem LetZ.cz {r : Int × Int} {a b : Int} {u v : Nat} (h : LetZ r a b u v) : cz r = .complex .f64 u v := by unfold Proofs.Ytdkeobpmenaljaa.cz; rw [h.ra, h.rb, h.ua, h.vb]
theorem LetZ.eq {r : Int × Int} {a b : Int} {u v : Nat} (h : LetZ r a b u v) (hr : ResZ r) (W : World) : (binOp .eql 80 (.complex .f64 u v) (.complex .f64 u v)).run Try.prog W = .ok (.bool true) W := by
  have := run_cz_eq 80 r r hr hr W
  rw [decide_eq_true rfl, h.cz] at this
  exact this
theorem LetZ.number {r : Int × Int} {a b : Int} {u v : Nat} (h : LetZ r a b u v) (W : World) : Calls Try.prog 41 #[.agg #[.int .i64 a, .int .i64 b]] W fun e w' => e = .returned (.complex .f64 u v) ∧ Below W.heap.size W w' := by
  have := number22_any r W
  rw [h.pz, h.cz] at this
  exact this
end Go.Proofs.Ytdkeobpmenaljaa

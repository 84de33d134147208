
/- gauss: Power, Inverse, Divide, Turn; the chapter's example. -/
import Derived.Test.YtfckbonblfcmnaaKit
import Derived.Test.YtfckbonblfcmnaaChecked
import Derived.Laws.ComplexArith
import Derived.Test.YtfckbonblfcmnaaGa0
import Derived.Deep.DeepCutAuto
set_option linter.unusedSimpArgs false
set_option linter.unusedVariables false
namespace Go.Proofs.Ytfckbonblfcmnaa
open Go.RowKit Go.Qc

/-- The loop's state: what is left to be multiplied. -/
structure PwI (x : Int × Int) (n : Nat) (A C : Int × Int) (k : Nat) : Prop where
  a : ResZ A
  c : ResZ C
  e : gmulZ C (gpowZ A k) = gpowZ x n
theorem PwI.start {x : Int × Int} (h : ResZ x) (n : Nat) : PwI x n x (1, 0) n := ⟨h, oneZ_res, gone_mulZ (gpowZ_res x n)⟩
/-! ### Inverses -/
end Go.Proofs.Ytfckbonblfcmnaa


/- gauss: remainder, reduced, reckoned; what is told of residues. -/
import Derived.Test.YtkajfpincbkfhaaKit
import Derived.Test.YtkajfpincbkfhaaChecked
import Derived.Test.YtkajfpincbkfhaaFa0
import Derived.Test.YtkajfpincbkfhaaGa0
set_option linter.unusedSimpArgs false
set_option linter.unusedVariables false
namespace Go.Proofs.Ytkajfpincbkfhaa
open Go.RowKit Go.Qc

theorem cmp_eq (a b : Int) : (some (compare a b) == some Ordering.eq) = decide (a = b) := by
  unfold compare instOrdInt compareOfLessAndEq
  by_cases h : a < b
  · have : a ≠ b := by omega
    simp [h, this]
  · by_cases h2 : a = b
    · simp [h2]
    · simp [h, h2]
theorem ford (a b : Int) (ha : a.natAbs < 2 ^ 53) (hb : b.natAbs < 2 ^ 53) : FloatKind.f64.format.order (fl a) (fl b) = some (compare a b) := fl_order a b ha hb
/-- A pair as the program has it. -/
def cz (x : Int × Int) : Value := .complex .f64 (fl x.1) (fl x.2)
/-! ### Sums, differences, products -/
end Go.Proofs.Ytkajfpincbkfhaa

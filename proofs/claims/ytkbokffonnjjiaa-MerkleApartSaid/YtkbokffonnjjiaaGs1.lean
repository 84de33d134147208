
/- gauss: remainder, reduced, reckoned; what is told of residues. -/
import Derived.Test.YtkbokffonnjjiaaKit
import Derived.Test.YtkbokffonnjjiaaChecked
import Derived.Test.YtkbokffonnjjiaaFa0
import Derived.ChangeShapes
set_option linter.unusedSimpArgs false
set_option linter.unusedVariables false
namespace Go.Proofs.Ytkbokffonnjjiaa
open Go.RowKit Go.Qc

theorem cmp_eq (a b : Int) : (some (compare a b) == some Ordering.eq) = decide (a = b) := by
  unfold compare instOrdInt compareOfLessAndEq
  by_cases h : a < b
  · have : a ≠ b := by omega
    simp [h, this]
  · by_cases h2 : a = b
    · simp [h2]
    · simp [h, h2]
/-! ### Sums, differences, products -/
end Go.Proofs.Ytkbokffonnjjiaa

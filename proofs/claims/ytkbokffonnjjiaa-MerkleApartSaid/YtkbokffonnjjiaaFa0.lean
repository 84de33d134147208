
/- Floats of whole numbers: what is read of them, their sums, products, order. Of no program. -/
import Derived.Laws.ComplexArith
set_option linter.unusedVariables false
namespace Go.Qc
open Ieee

/-- The float of a whole number. -/
def fl (n : Int) : Nat := FloatKind.f64.nearest n
end Go.Qc

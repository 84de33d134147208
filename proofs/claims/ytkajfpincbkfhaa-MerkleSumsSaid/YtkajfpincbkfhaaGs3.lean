
/- gauss: the document's sums, differences, products, powers; the law's pairs; Divide, Turn. -/
import Derived.Test.YtkajfpincbkfhaaGs2
set_option linter.unusedSimpArgs false
set_option linter.unusedVariables false
namespace Go.Proofs.Ytkajfpincbkfhaa
open Go.RowKit Go.Qc

/-- A pair as the document has it. -/
def pz (x : Int × Int) : Value := .agg #[.int .i64 x.1, .int .i64 x.2]
end Go.Proofs.Ytkajfpincbkfhaa

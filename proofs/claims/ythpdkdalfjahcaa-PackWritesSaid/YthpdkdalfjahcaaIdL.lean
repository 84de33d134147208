
/- Rising rows of ids: what merging, sorting and choosing make of them. No program here. -/
import Derived.Test.YthpdkdalfjahcaaId9
namespace Go.Proofs.Ythpdkdalfjahcaa
open Go.RowKit Go.Qc

end Go.Proofs.Ythpdkdalfjahcaa


/- The contract of the document's Sum. -/
import Derived.Test.YthpdkdalfjahcaaSha9
namespace Go.Proofs.Ythpdkdalfjahcaa
open Go.RowKit Go.Qc
attribute [local go_sem] txt_size txt_append

end Go.Proofs.Ythpdkdalfjahcaa

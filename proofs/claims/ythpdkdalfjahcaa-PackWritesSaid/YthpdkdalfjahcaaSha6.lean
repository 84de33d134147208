
/- The contract of padding. -/
import Derived.Test.YthpdkdalfjahcaaSha5
import Derived.Test.YthpdkdalfjahcaaNums
namespace Go.Proofs.Ythpdkdalfjahcaa
open Go.RowKit Go.Qc
attribute [local go_sem] txt_size txt_extract

end Go.Proofs.Ythpdkdalfjahcaa

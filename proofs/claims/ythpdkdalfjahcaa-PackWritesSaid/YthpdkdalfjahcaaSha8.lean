
/- The contracts of the document's table and padding. -/
import Derived.Test.YthpdkdalfjahcaaSha7
namespace Go.Proofs.Ythpdkdalfjahcaa
open Go.RowKit Go.Qc

attribute [local go_sem] txt_size txt_append

end Go.Proofs.Ythpdkdalfjahcaa

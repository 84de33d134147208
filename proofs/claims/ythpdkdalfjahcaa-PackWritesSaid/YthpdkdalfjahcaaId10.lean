
/- Rows of ids: the document's Sort and Only. -/
import Derived.Test.YthpdkdalfjahcaaIdL
namespace Go.Proofs.Ythpdkdalfjahcaa
open Go.RowKit Go.Qc
attribute [local go_sem] txt_size

end Go.Proofs.Ythpdkdalfjahcaa

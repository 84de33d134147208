
/- tag: the text of a name and parts, of the program and of the document. -/
import Derived.Test.YthpdkdalfjahcaaBld
import Derived.Test.YthpdkdalfjahcaaNums
namespace Go.Proofs.Ythpdkdalfjahcaa
open Go.RowKit Go.Qc
attribute [local go_sem] txt_size txt_append ib_fold

end Go.Proofs.Ythpdkdalfjahcaa

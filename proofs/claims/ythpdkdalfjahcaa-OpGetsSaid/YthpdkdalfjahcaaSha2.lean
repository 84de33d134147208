
/- The contract of grown. -/
import Derived.Test.YthpdkdalfjahcaaSha1
import Derived.StillTailTactics
namespace Go.Proofs.Ythpdkdalfjahcaa
open Go.RowKit Go.Qc
attribute [local go_sem] iv_add iv_and iv_or iv_xor iv_not iv_shl iv_shr iv_inj iv_div3 iv_div10

end Go.Proofs.Ythpdkdalfjahcaa

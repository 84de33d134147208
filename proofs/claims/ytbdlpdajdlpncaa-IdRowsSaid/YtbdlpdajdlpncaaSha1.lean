
/- The contracts of package sha's inner calls: its table, its words, a block. -/
import Derived.Test.YtbdlpdajdlpncaaShaM
namespace Go.Proofs.Ytbdlpdajdlpncaa
open Go.RowKit Go.Qc
attribute [local go_sem] iv_add iv_and iv_or iv_xor iv_not iv_shl iv_shr iv_inj

end Go.Proofs.Ytbdlpdajdlpncaa

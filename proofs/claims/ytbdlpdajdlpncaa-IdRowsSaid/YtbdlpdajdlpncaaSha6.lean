
/- The contract of padding. -/
import Derived.Test.YtbdlpdajdlpncaaSha5
import Derived.Test.YtbdlpdajdlpncaaNums
namespace Go.Proofs.Ytbdlpdajdlpncaa
open Go.RowKit Go.Qc
attribute [local go_sem] txt_size txt_extract

end Go.Proofs.Ytbdlpdajdlpncaa

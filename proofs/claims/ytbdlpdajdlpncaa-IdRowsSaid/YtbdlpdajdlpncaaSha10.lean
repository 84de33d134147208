
/- The contract of the document's Sum. -/
import Derived.Test.YtbdlpdajdlpncaaSha9
namespace Go.Proofs.Ytbdlpdajdlpncaa
open Go.RowKit Go.Qc
attribute [local go_sem] txt_size txt_append

end Go.Proofs.Ytbdlpdajdlpncaa


/- The contracts of the document's table and padding. -/
import Derived.Test.YtbdlpdajdlpncaaSha7
namespace Go.Proofs.Ytbdlpdajdlpncaa
open Go.RowKit Go.Qc

attribute [local go_sem] txt_size txt_append

end Go.Proofs.Ytbdlpdajdlpncaa

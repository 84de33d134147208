
/- The document's All of a row of ids; the program's Chain. -/
import Derived.Test.YtbdlpdajdlpncaaId10
import Derived.Test.YtbdlpdajdlpncaaTag3
namespace Go.Proofs.Ytbdlpdajdlpncaa
open Go.RowKit Go.Qc
attribute [local go_sem] txt_size txt_append

end Go.Proofs.Ytbdlpdajdlpncaa

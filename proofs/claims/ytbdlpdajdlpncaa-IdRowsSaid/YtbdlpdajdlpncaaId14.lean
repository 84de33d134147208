
/- A row that is sorted, each id kept once: what the document's Sort makes. Lists alone. -/
import Derived.Test.YtbdlpdajdlpncaaIdL
namespace Go.Proofs.Ytbdlpdajdlpncaa
open Go.RowKit Go.Qc

end Go.Proofs.Ytbdlpdajdlpncaa

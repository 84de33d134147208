
/- append to a row of the call's own: what it had stays where it was. -/
import Derived.Test.YtbdlpdajdlpncaaKit2
import Derived.Deep.RegionHeld3
import Derived.Deep.AppendLies
namespace Go.Qc
open Go.RowKit

end Go.Qc


/- More small facts that import nothing of the program: steps of a region. -/
import Derived.Test.YtbdlpdajdlpncaaKit
import Derived.Deep.RegionLaw
namespace Go.Qc
open Go.RowKit

end Go.Qc

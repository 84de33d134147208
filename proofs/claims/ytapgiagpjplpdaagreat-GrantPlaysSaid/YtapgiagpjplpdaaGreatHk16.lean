
/- hunk: many hunks, one behind the other, and all of them back; lists alone. -/
import Derived.Test.YtapgiagpjplpdaaGreatPhA
import Derived.Deep.RegionHeld3
set_option linter.unusedSimpArgs false
set_option linter.unusedVariables false
namespace Go.Proofs.YtapgiagpjplpdaaGreat
open Go.RowKit Go.Qc Go.Shelf

/-- A hunk: where, its old lines, its new ones. -/
abbrev HunkD := Int × List (List UInt8) × List (List UInt8)
end Go.Proofs.YtapgiagpjplpdaaGreat

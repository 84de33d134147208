
/- lamport: secrets, leaves and what they lean on. -/
import Derived.Test.YtapgiagpjplpdaaGreatId9
import Derived.Test.YtapgiagpjplpdaaGreatId10
import Derived.Test.YtapgiagpjplpdaaGreatTag2
import Derived.Test.YtapgiagpjplpdaaGreatKit4
import Derived.Test.YtapgiagpjplpdaaGreatIdK
import Derived.Great.BuildSlice
set_option linter.unusedSimpArgs false
set_option linter.unusedVariables false
namespace Go.Proofs.YtapgiagpjplpdaaGreat
open Go.RowKit Go.Qc
attribute [local go_sem] txt_size txt_append ib_fold

/-! ### secrets -/
end Go.Proofs.YtapgiagpjplpdaaGreat

namespace Go.Proofs.YtapgiagpjplpdaaGreat
open Go.RowKit Go.Qc
attribute [local go_sem] txt_size txt_append ib_fold

/-! ### public sums -/
/-! ### right bits -/
end Go.Proofs.YtapgiagpjplpdaaGreat

namespace Go.Proofs.YtapgiagpjplpdaaGreat
open Go.RowKit Go.Qc
attribute [local go_sem] txt_size txt_append ib_fold

/-! ### a slice literal of ids -/
end Go.Proofs.YtapgiagpjplpdaaGreat

namespace Go.Proofs.YtapgiagpjplpdaaGreat
open Go.RowKit Go.Qc
attribute [local go_sem] txt_size txt_append ib_fold

/-! ### the leaf's own public sums -/
/-- The worlds behind Leaf's three variables. -/
def w3 (w : World) (s : List UInt8) (lf : Int) (zc : Array Value) : World := ((w.alloc (.cells #[.string (txt s)] 9)).alloc (.cells #[.int .i64 lf] 3)).alloc (.cells zc 23)
/-! ### the document's -/
end Go.Proofs.YtapgiagpjplpdaaGreat

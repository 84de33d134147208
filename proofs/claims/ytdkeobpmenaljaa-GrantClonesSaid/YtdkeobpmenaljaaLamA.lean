
/- lamport: secrets, leaves and what they lean on. -/
import Derived.Test.YtdkeobpmenaljaaId9
import Derived.Test.YtdkeobpmenaljaaIdL
import Derived.Test.YtdkeobpmenaljaaTag2
import Derived.Test.YtdkeobpmenaljaaKit4
import Derived.Test.YtdkeobpmenaljaaIdK
import Derived.Great.BuildSlice
set_option linter.unusedSimpArgs false
set_option linter.unusedVariables false
namespace Go.Proofs.Ytdkeobpmenaljaa
open Go.RowKit Go.Qc
attribute [local go_sem] txt_size txt_append ib_fold

/-! ### secrets -/
end Go.Proofs.Ytdkeobpmenaljaa

namespace Go.Proofs.Ytdkeobpmenaljaa
open Go.RowKit Go.Qc
attribute [local go_sem] txt_size txt_append ib_fold

/-! ### public sums -/
/-! ### right bits -/
end Go.Proofs.Ytdkeobpmenaljaa

namespace Go.Proofs.Ytdkeobpmenaljaa
open Go.RowKit Go.Qc
attribute [local go_sem] txt_size txt_append ib_fold

/-! ### a slice literal of ids -/
end Go.Proofs.Ytdkeobpmenaljaa

namespace Go.Proofs.Ytdkeobpmenaljaa
open Go.RowKit Go.Qc
attribute [local go_sem] txt_size txt_append ib_fold

/-! ### the leaf's own public sums -/
/-- The worlds behind Leaf's three variables. -/
def w3 (w : World) (s : List UInt8) (lf : Int) (zc : Array Value) : World := ((w.alloc (.cells #[.string (txt s)] 9)).alloc (.cells #[.int .i64 lf] 3)).alloc (.cells zc 23)
/-! ### the document's -/
end Go.Proofs.Ytdkeobpmenaljaa


/- lamport: secrets, leaves and what they lean on. -/
import Derived.Test.YtplcfdmehnilnaaId7
import Derived.Test.YtplcfdmehnilnaaId9
import Derived.Test.YtplcfdmehnilnaaTag2
import Derived.Test.YtplcfdmehnilnaaKit4
import Derived.Test.YtplcfdmehnilnaaIdK
import Derived.Great.BuildSlice
set_option linter.unusedSimpArgs false
set_option linter.unusedVariables false
namespace Go.Proofs.Ytplcfdmehnilnaa
open Go.RowKit Go.Qc
attribute [local go_sem] txt_size txt_append ib_fold

/-! ### secrets -/
end Go.Proofs.Ytplcfdmehnilnaa

namespace Go.Proofs.Ytplcfdmehnilnaa
open Go.RowKit Go.Qc
attribute [local go_sem] txt_size txt_append ib_fold

/-! ### public sums -/
/-! ### right bits -/
end Go.Proofs.Ytplcfdmehnilnaa

namespace Go.Proofs.Ytplcfdmehnilnaa
open Go.RowKit Go.Qc
attribute [local go_sem] txt_size txt_append ib_fold

/-! ### a slice literal of ids -/
end Go.Proofs.Ytplcfdmehnilnaa

namespace Go.Proofs.Ytplcfdmehnilnaa
open Go.RowKit Go.Qc
attribute [local go_sem] txt_size txt_append ib_fold

/-! ### the leaf's own public sums -/
/-- The worlds behind Leaf's three variables. -/
def w3 (w : World) (s : List UInt8) (lf : Int) (zc : Array Value) : World := ((w.alloc (.cells #[.string (txt s)] 9)).alloc (.cells #[.int .i64 lf] 3)).alloc (.cells zc 45)
/-! ### the document's -/
end Go.Proofs.Ytplcfdmehnilnaa

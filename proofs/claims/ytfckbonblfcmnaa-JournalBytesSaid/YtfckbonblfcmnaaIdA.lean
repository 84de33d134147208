
/- id: order, digits, hexadecimal digits, parsing. -/
import Derived.Test.YtfckbonblfcmnaaTag3
import Derived.Lib.Bytealg
import Derived.Laws.Externs
import Derived.Laws.IdiomStrings
set_option linter.unusedSimpArgs false
set_option linter.unusedVariables false
namespace Go.Proofs.Ytfckbonblfcmnaa
open Go.RowKit Go.Qc
attribute [local go_sem] txt_size txt_append ib_fold

/-- The world behind two boxed ids. -/
def two (w : World) (a b : List UInt8) : World := (w.alloc (.cells (idVals a) 23)).alloc (.cells (idVals b) 23)
end Go.Proofs.Ytfckbonblfcmnaa

namespace Go.Proofs.Ytfckbonblfcmnaa
open Go.RowKit Go.Qc
attribute [local go_sem] txt_size txt_append ib_fold ib_inj

/-! ### digits -/
/-! ### an id's text -/
end Go.Proofs.Ytfckbonblfcmnaa

namespace Go.Proofs.Ytfckbonblfcmnaa
open Go.RowKit Go.Qc
attribute [local go_sem] txt_size txt_append ib_fold ib_i64

/-! ### a text's id -/
end Go.Proofs.Ytfckbonblfcmnaa

namespace Go.Proofs.Ytfckbonblfcmnaa
open Go.RowKit Go.Qc
attribute [local go_sem] txt_size txt_append ib_fold ib_i64 ib_shr ib_and1

/-! ### Parse of Hex is the id -/
/-! ### Bytes -/
/-! ### Bit -/
end Go.Proofs.Ytfckbonblfcmnaa

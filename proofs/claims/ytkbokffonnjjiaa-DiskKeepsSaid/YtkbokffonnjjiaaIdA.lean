
/- id: order, digits, hexadecimal digits, parsing. -/
import Derived.Test.YtkbokffonnjjiaaWords
import Derived.Shelf.Strings.Builder1
import Derived.Shelf.Strings.Builder2
import Derived.Lib.Builder
import Derived.Test.YtkbokffonnjjiaaSha9
import Derived.Test.YtkbokffonnjjiaaKit5
import Derived.Test.YtkbokffonnjjiaaSha7
import Derived.ChangeKeysEq
import Derived.Laws.StructEq
import Derived.Test.YtkbokffonnjjiaaIdK
import Derived.Lib.Bytealg
import Derived.Laws.Externs
import Derived.Laws.IdiomStrings
set_option linter.unusedSimpArgs false
set_option linter.unusedVariables false
namespace Go.Proofs.Ytkbokffonnjjiaa
open Go.RowKit Go.Qc
attribute [local go_sem] txt_size txt_append ib_fold

/-- The world behind two boxed ids. -/
def two (w : World) (a b : List UInt8) : World := (w.alloc (.cells (idVals a) 24)).alloc (.cells (idVals b) 24)
end Go.Proofs.Ytkbokffonnjjiaa

namespace Go.Proofs.Ytkbokffonnjjiaa
open Go.RowKit Go.Qc
attribute [local go_sem] txt_size txt_append ib_fold ib_inj

/-! ### digits -/
/-! ### an id's text -/
end Go.Proofs.Ytkbokffonnjjiaa

namespace Go.Proofs.Ytkbokffonnjjiaa
open Go.RowKit Go.Qc
attribute [local go_sem] txt_size txt_append ib_fold ib_i64

/-! ### a text's id -/
end Go.Proofs.Ytkbokffonnjjiaa

namespace Go.Proofs.Ytkbokffonnjjiaa
open Go.RowKit Go.Qc
attribute [local go_sem] txt_size txt_append ib_fold ib_i64 ib_shr ib_and1

/-! ### Parse of Hex is the id -/
/-! ### Bytes -/
/-! ### Bit -/
end Go.Proofs.Ytkbokffonnjjiaa

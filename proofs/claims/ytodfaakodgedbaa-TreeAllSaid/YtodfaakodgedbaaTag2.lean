
/- tag: tagged sums, of the program and of the document. -/
import Derived.Test.YtodfaakodgedbaaWords
import Derived.Shelf.Strings.Builder1
import Derived.Shelf.Strings.Builder2
import Derived.Lib.Builder
import Derived.Test.YtodfaakodgedbaaSha9
import Derived.Test.YtodfaakodgedbaaKit5
namespace Go.Proofs.Ytodfaakodgedbaa
open Go.RowKit Go.Qc
attribute [local go_sem] txt_size txt_append ib_fold

def zeroB : List UInt8 := List.replicate 32 0

theorem zeroB_vals : idVals zeroB = #[.int .u8 0, .int .u8 0, .int .u8 0, .int .u8 0, .int .u8 0, .int .u8 0, .int .u8 0, .int .u8 0, .int .u8 0, .int .u8 0, .int .u8 0, .int .u8 0, .int .u8 0, .int .u8 0, .int .u8 0, .int .u8 0, .int .u8 0, .int .u8 0, .int .u8 0, .int .u8 0, .int .u8 0, .int .u8 0, .int .u8 0, .int .u8 0, .int .u8 0, .int .u8 0, .int .u8 0, .int .u8 0, .int .u8 0, .int .u8 0, .int .u8 0, .int .u8 0] := rfl
/-! ### the chapter's example, and parts that are long -/
end Go.Proofs.Ytodfaakodgedbaa

/- tag: the text of a name and parts, of the program and of the document. -/
import Derived.Test.YtapgiagpjplpdaaGreatBytes
import Derived.Shelf.Strings.Builder1
import Derived.Shelf.Strings.Builder2
import Derived.Lib.Builder
import Derived.Test.YtapgiagpjplpdaaGreatSha9
import Derived.Test.YtapgiagpjplpdaaGreatKit5
namespace Go.Proofs.YtapgiagpjplpdaaGreat
open Go.RowKit Go.Qc
attribute [local go_sem] txt_size txt_append ib_fold

def partB (p : List UInt8) : List UInt8 := numB (BitVec.ofNat 64 p.length) 8 ++ p
def textB (n : List UInt8) (ps : List (List UInt8)) : List UInt8 := [UInt8.ofNat n.length] ++ n ++ ps.flatMap partB
end Go.Proofs.YtapgiagpjplpdaaGreat
/- tag: tagged sums, of the program and of the document. -/
namespace Go.Proofs.YtapgiagpjplpdaaGreat
open Go.RowKit Go.Qc
attribute [local go_sem] txt_size txt_append ib_fold

def tagB (n : List UInt8) (ps : List (List UInt8)) : List UInt8 := sumB (textB n ps)
def zeroB : List UInt8 := List.replicate 32 0

theorem zeroB_vals : idVals zeroB = #[.int .u8 0, .int .u8 0, .int .u8 0, .int .u8 0, .int .u8 0, .int .u8 0, .int .u8 0, .int .u8 0, .int .u8 0, .int .u8 0, .int .u8 0, .int .u8 0, .int .u8 0, .int .u8 0, .int .u8 0, .int .u8 0, .int .u8 0, .int .u8 0, .int .u8 0, .int .u8 0, .int .u8 0, .int .u8 0, .int .u8 0, .int .u8 0, .int .u8 0, .int .u8 0, .int .u8 0, .int .u8 0, .int .u8 0, .int .u8 0, .int .u8 0, .int .u8 0] := rfl
/-! ### the chapter's example, and parts that are long -/
end Go.Proofs.YtapgiagpjplpdaaGreat

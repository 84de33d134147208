
/- tag: the text of a name and parts, of the program and of the document. -/
import Derived.Test.YtbdlpdajdlpncaaBld
import Derived.Test.YtbdlpdajdlpncaaNums
namespace Go.Proofs.Ytbdlpdajdlpncaa
open Go.RowKit Go.Qc
attribute [local go_sem] txt_size txt_append ib_fold

def partB (p : List UInt8) : List UInt8 := numB (BitVec.ofNat 64 p.length) 8 ++ p
def textB (n : List UInt8) (ps : List (List UInt8)) : List UInt8 := [UInt8.ofNat n.length] ++ n ++ ps.flatMap partB
end Go.Proofs.Ytbdlpdajdlpncaa

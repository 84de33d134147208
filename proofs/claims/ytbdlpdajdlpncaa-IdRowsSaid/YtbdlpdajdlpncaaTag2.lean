
/- tag: tagged sums, of the program and of the document. -/
import Derived.Test.YtbdlpdajdlpncaaTag1
import Derived.Test.YtbdlpdajdlpncaaSha10
import Derived.Test.YtbdlpdajdlpncaaKit5
namespace Go.Proofs.Ytbdlpdajdlpncaa
open Go.RowKit Go.Qc
attribute [local go_sem] txt_size txt_append ib_fold

def tagB (n : List UInt8) (ps : List (List UInt8)) : List UInt8 := sumB (textB n ps)
def zeroB : List UInt8 := List.replicate 32 0

/-! ### the chapter's example, and parts that are long -/
end Go.Proofs.Ytbdlpdajdlpncaa


/- tag: tagged sums, of the program and of the document. -/
import Derived.Test.YtkajfpincbkfhaaTag1
import Derived.Test.YtkajfpincbkfhaaSha9
import Derived.Test.YtkajfpincbkfhaaKit5
namespace Go.Proofs.Ytkajfpincbkfhaa
open Go.RowKit Go.Qc
attribute [local go_sem] txt_size txt_append ib_fold

def tagB (n : List UInt8) (ps : List (List UInt8)) : List UInt8 := sumB (textB n ps)
theorem tagB_length (n : List UInt8) (ps : List (List UInt8)) : (tagB n ps).length = 32 := sumB_length _
def zeroB : List UInt8 := List.replicate 32 0

/-! ### the chapter's example, and parts that are long -/
end Go.Proofs.Ytkajfpincbkfhaa

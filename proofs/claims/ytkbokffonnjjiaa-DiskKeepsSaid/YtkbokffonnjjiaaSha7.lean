
/- The contracts of a Hash's Sum, and of package sha's Sum. -/
import Derived.Test.YtkbokffonnjjiaaSha5
import Derived.Test.YtkbokffonnjjiaaWords
namespace Go.Proofs.Ytkbokffonnjjiaa
open Go.RowKit Go.Qc
attribute [local go_sem] txt_size txt_extract

/-- Thirty-two bytes as the machine has them. -/
def idVals (b : List UInt8) : Array Value := (b.map u8v).toArray
end Go.Proofs.Ytkbokffonnjjiaa


/- The plain mathematics of layer 1, and the contracts of the calls of package word and of the document's answers for it. -/
import Derived.Test.YtkbokffonnjjiaaRows
import Derived.Test.YtkbokffonnjjiaaKit
namespace Go.Proofs.Ytkbokffonnjjiaa
open Go.RowKit Go.Qc
attribute [local go_sem] iv_add iv_and iv_or iv_xor iv_shl iv_shr iv_inj iv_i64 iv_mod2

/-! ### turning -/
def rotl (x : BitVec 32) (s : Nat) : BitVec 32 := x <<< s ||| x >>> (32 - s)

end Go.Proofs.Ytkbokffonnjjiaa


/- Union, Minus, Both; the chapter's example. -/
import Derived.Test.YtfckbonblfcmnaaId5
namespace Go.Proofs.Ytfckbonblfcmnaa
open Go.RowKit Go.Qc
attribute [local go_sem] txt_size txt_append ib_fold ib_i64

/-- A row of ids, in hand: not more than a million, read where it lies. -/
def RowAt (w : World) (A : Option Addr) (n c : Nat) (l : List (List UInt8)) : Prop := l.length = n ∧ n ≤ c ∧ c ≤ maxLen ∧ n ≤ 1000000 ∧ IdRd w A l
end Go.Proofs.Ytfckbonblfcmnaa

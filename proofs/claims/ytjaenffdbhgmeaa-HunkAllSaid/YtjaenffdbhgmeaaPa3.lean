
/- path: the iterator of a text's pieces. -/
import Derived.Test.YtjaenffdbhgmeaaPa2
import Derived.RangeFuncNested
import Derived.RangeFuncCalls
import Derived.RangeFuncLeaves
import Derived.RangeFuncBox
import Derived.Maps.AppendAt
import Derived.Shelf.Abstract
import Derived.Shelf.RegionOpen
import Derived.WalkKit
import Derived.OwnWalkIn
import Derived.TacticsInMore
import Derived.LoopNIn
import Derived.LoopIn
namespace Go.Proofs.Ytjaenffdbhgmeaa
open Go.RowKit Go.Qc Go.Shelf
attribute [local go_sem] txt_size txt_append ib_fold txt_toL
attribute [local go_sem] Oper.semAt_some

theorem grown_none {a b : World} (h : Below a.heap.size a b) : a.grownBy b none := ⟨h.os, h.tape, h.output, h.size, fun k hk _ => h.block k hk⟩
def sizeV : Value → Nat
  | .string s => s.size
  | _ => 0
def flagV : Value → Nat
  | .bool true => 1
  | _ => 0
/-- A text of no more bytes than a machine has. -/
abbrev PS := { x : List UInt8 // x.length ≤ 1000000000000 }
end Go.Proofs.Ytjaenffdbhgmeaa

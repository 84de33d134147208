
/- pack: a number that is read. -/
import Derived.Test.YtodfaakodgedbaaKit5
import Derived.Test.YtodfaakodgedbaaKit4
import Derived.ScopeJumps
import Derived.WalkMore
namespace Go.Qc
open Go.RowKit
end Go.Qc
namespace Go.Proofs.Ytodfaakodgedbaa
open Go.RowKit Go.Qc
attribute [local go_sem] txt_size txt_append ib_fold

/-- A number's groups, read from the front on, behind so many that count so much: how much all count, and how many groups; or what is wrong. -/
def scanN (d v : Nat) : List UInt8 → Except Int (Nat × Nat)
  | [] => .error 2
  | b :: t =>
    if d = 8 ∧ 64 < b.toNat then .error 3
    else if 128 ≤ b.toNat then scanN (d + 1) (v + b.toNat % 128 * 2 ^ (7 * d)) t
    else if (b.toNat = 0 ∧ 0 < d) ∨ 4611686018427387904 < v + b.toNat % 128 * 2 ^ (7 * d) then .error 3
    else .ok (v + b.toNat % 128 * 2 ^ (7 * d), d + 1)
end Go.Proofs.Ytodfaakodgedbaa

/- pack: a number that is read. -/
import Derived.Test.YtapgiagpjplpdaaGreatKit5
import Derived.Test.YtapgiagpjplpdaaGreatKit4
import Derived.ScopeJumps
import Derived.WalkMore
import Derived.Test.YtapgiagpjplpdaaGreatKit6
import Derived.Lib.AppendStr
import Derived.Lib.Builder
import Derived.Shelf.Pu.Clone
import Derived.Shelf.SlSortCmp.QuietGrown
import Derived.Deep.RegionHeld3
import Derived.Test.YtapgiagpjplpdaaGreatId10
import Derived.Test.YtapgiagpjplpdaaGreatTag2
import Derived.Test.YtapgiagpjplpdaaGreatIdK
import Derived.Test.YtapgiagpjplpdaaGreatId9
import Derived.Test.YtapgiagpjplpdaaGreatLamA
namespace Go.Qc
open Go.RowKit
end Go.Qc
namespace Go.Proofs.YtapgiagpjplpdaaGreat
open Go.RowKit Go.Qc
attribute [local go_sem] txt_size txt_append ib_fold

/-- A number's groups, read from the front on, behind so many that count so much: how much all count, and how many groups; or what is wrong. -/
def scanN (d v : Nat) : List UInt8 → Except Int (Nat × Nat)
  | [] => .error 2
  | b :: t =>
    if d = 8 ∧ 64 < b.toNat then .error 3
    else if 128 ≤ b.toNat then scanN (d + 1) (v + b.toNat % 128 * 2 ^ (7 * d)) t
    else if (b.toNat = 0 ∧ 0 < d) ∨ 4611686018427387904 < v + b.toNat % 128 * 2 ^ (7 * d) then .error 3
    else .ok (v + b.toNat % 128 * 2 ^ (7 * d), d + 1)
end Go.Proofs.YtapgiagpjplpdaaGreat
/- pack: a writer's numbers, texts, ids and rows; of the document; lists alone. -/
set_option linter.unusedSimpArgs false
set_option linter.unusedVariables false
namespace Go.Proofs.YtapgiagpjplpdaaGreat
open Go.RowKit Go.Qc
attribute [local go_sem] txt_size txt_append ib_fold

/-! ### the writer -/
/-! ### numbers and texts written -/
end Go.Proofs.YtapgiagpjplpdaaGreat

namespace Go.Proofs.YtapgiagpjplpdaaGreat
open Go.RowKit Go.Qc
attribute [local go_sem] txt_size txt_append ib_fold

end Go.Proofs.YtapgiagpjplpdaaGreat

namespace Go.Proofs.YtapgiagpjplpdaaGreat
open Go.RowKit Go.Qc Go.Shelf
attribute [local go_sem] txt_size txt_append ib_fold

/-! ### a text cloned -/
/-! ### new, end -/
/-! ### a number -/
/-! ### how many there are -/
def cntN (most : Int) (l : List UInt8) : Except Int (Nat × Nat) :=
  match scanN 0 0 l with
  | .ok (v, n) => if most < v then .error 4 else .ok (v, n)
  | .error e => .error e
end Go.Proofs.YtapgiagpjplpdaaGreat

namespace Go.Proofs.YtapgiagpjplpdaaGreat
open Go.RowKit Go.Qc Go.Shelf
attribute [local go_sem] txt_size txt_append ib_fold

end Go.Proofs.YtapgiagpjplpdaaGreat

namespace Go.Proofs.YtapgiagpjplpdaaGreat
open Go.RowKit Go.Qc
attribute [local go_sem] txt_size txt_append ib_fold

end Go.Proofs.YtapgiagpjplpdaaGreat

namespace Go.Proofs.YtapgiagpjplpdaaGreat
open Go.RowKit Go.Qc
attribute [local go_sem] txt_size txt_append ib_fold

/-! ### a writer's truths -/
end Go.Proofs.YtapgiagpjplpdaaGreat

namespace Go.Proofs.YtapgiagpjplpdaaGreat
open Go.RowKit Go.Qc
attribute [local go_sem] txt_size txt_append ib_fold

end Go.Proofs.YtapgiagpjplpdaaGreat
/- pack: a reader's rows, bytes, ids, texts; reading back -/
set_option linter.unusedSimpArgs false
set_option linter.unusedVariables false
namespace Go.Proofs.YtapgiagpjplpdaaGreat
open Go.RowKit Go.Qc Go.Shelf
attribute [local go_sem] txt_size txt_append ib_fold

/-! ### a byte -/
/-! ### a truth -/
end Go.Proofs.YtapgiagpjplpdaaGreat

namespace Go.Proofs.YtapgiagpjplpdaaGreat
open Go.RowKit Go.Qc Go.Shelf
attribute [local go_sem] txt_size txt_append ib_fold

def idR (l : List UInt8) : Except Int (List UInt8 × Nat) := if 32 ≤ l.length then .ok (l.take 32, 32) else .error 2
end Go.Proofs.YtapgiagpjplpdaaGreat

namespace Go.Proofs.YtapgiagpjplpdaaGreat
open Go.RowKit Go.Qc Go.Shelf
attribute [local go_sem] txt_size txt_append ib_fold

/-! ### rows -/
/-- So many items, one behind the other, each as one is read. -/
def rowR {α : Type} (item : List UInt8 → Except Int (α × Nat)) : Nat → List UInt8 → Except Int (List α × Nat)
  | 0, _ => .ok ([], 0)
  | n + 1, l =>
    match item l with
    | .error e => .error e
    | .ok (x, k) =>
      match rowR item n (l.drop k) with
      | .error e => .error e
      | .ok (xs, m) => .ok (x :: xs, k + m)
/-- A row: how many of at most so many, and the items. -/
def rowsR {α : Type} (item : List UInt8 → Except Int (α × Nat)) (most : Int) (l : List UInt8) : Except Int (List α × Nat) :=
  match cntN most l with
  | .error e => .error e
  | .ok (n, k) =>
    match rowR item n (l.drop k) with
    | .error e => .error e
    | .ok (xs, m) => .ok (xs, k + m)
end Go.Proofs.YtapgiagpjplpdaaGreat

namespace Go.Proofs.YtapgiagpjplpdaaGreat
open Go.RowKit Go.Qc Go.Shelf
attribute [local go_sem] txt_size txt_append ib_fold

end Go.Proofs.YtapgiagpjplpdaaGreat

namespace Go.Proofs.YtapgiagpjplpdaaGreat
open Go.RowKit Go.Qc Go.Shelf
attribute [local go_sem] txt_size txt_append ib_fold

end Go.Proofs.YtapgiagpjplpdaaGreat

namespace Go.Proofs.YtapgiagpjplpdaaGreat
open Go.RowKit Go.Qc Go.Shelf
attribute [local go_sem] txt_size txt_append ib_fold

end Go.Proofs.YtapgiagpjplpdaaGreat

namespace Go.Proofs.YtapgiagpjplpdaaGreat
open Go.RowKit Go.Qc Go.Shelf
attribute [local go_sem] txt_size txt_append ib_fold

end Go.Proofs.YtapgiagpjplpdaaGreat


/- pack: a reader's rows, bytes, ids, texts; reading back -/
import Derived.Test.YtodfaakodgedbaaPkW
import Derived.Test.YtodfaakodgedbaaIdL
import Derived.Test.YtodfaakodgedbaaLamA
set_option linter.unusedSimpArgs false
set_option linter.unusedVariables false
namespace Go.Proofs.Ytodfaakodgedbaa
open Go.RowKit Go.Qc Go.Shelf
attribute [local go_sem] txt_size txt_append ib_fold

/-! ### a byte -/
/-! ### a truth -/
end Go.Proofs.Ytodfaakodgedbaa

namespace Go.Proofs.Ytodfaakodgedbaa
open Go.RowKit Go.Qc Go.Shelf
attribute [local go_sem] txt_size txt_append ib_fold

def idR (l : List UInt8) : Except Int (List UInt8 × Nat) := if 32 ≤ l.length then .ok (l.take 32, 32) else .error 2
end Go.Proofs.Ytodfaakodgedbaa

namespace Go.Proofs.Ytodfaakodgedbaa
open Go.RowKit Go.Qc Go.Shelf
attribute [local go_sem] txt_size txt_append ib_fold

/-! ### rows -/
/-- So many items, one behind the other, each as one is read. -/
def rowR {α : Type} (item : List UInt8 → Except Int (α × Nat)) : Nat → List UInt8 → Except Int (List α × Nat)
  | 0, _ => .ok ([], 0)
  | n + 1, l =>
    match item l with
    | .error e => .error e
    | .ok (x, k) =>
      match rowR item n (l.drop k) with
      | .error e => .error e
      | .ok (xs, m) => .ok (x :: xs, k + m)
/-- A row: how many of at most so many, and the items. -/
def rowsR {α : Type} (item : List UInt8 → Except Int (α × Nat)) (most : Int) (l : List UInt8) : Except Int (List α × Nat) :=
  match cntN most l with
  | .error e => .error e
  | .ok (n, k) =>
    match rowR item n (l.drop k) with
    | .error e => .error e
    | .ok (xs, m) => .ok (xs, k + m)
end Go.Proofs.Ytodfaakodgedbaa

namespace Go.Proofs.Ytodfaakodgedbaa
open Go.RowKit Go.Qc Go.Shelf
attribute [local go_sem] txt_size txt_append ib_fold

end Go.Proofs.Ytodfaakodgedbaa

namespace Go.Proofs.Ytodfaakodgedbaa
open Go.RowKit Go.Qc Go.Shelf
attribute [local go_sem] txt_size txt_append ib_fold

end Go.Proofs.Ytodfaakodgedbaa

namespace Go.Proofs.Ytodfaakodgedbaa
open Go.RowKit Go.Qc Go.Shelf
attribute [local go_sem] txt_size txt_append ib_fold

end Go.Proofs.Ytodfaakodgedbaa

namespace Go.Proofs.Ytodfaakodgedbaa
open Go.RowKit Go.Qc Go.Shelf
attribute [local go_sem] txt_size txt_append ib_fold

end Go.Proofs.Ytodfaakodgedbaa


/- pack: a writer's numbers, texts, ids and rows; of the document; lists alone. -/
import Derived.Test.YtodfaakodgedbaaPk2
import Derived.Test.YtodfaakodgedbaaKit6
import Derived.Lib.AppendStr
import Derived.Lib.Builder
import Derived.Shelf.Pu.Clone
import Derived.Shelf.SlSortCmp.QuietGrown
import Derived.Deep.RegionHeld3
import Derived.Test.YtodfaakodgedbaaIdL
import Derived.Test.YtodfaakodgedbaaTag2
import Derived.Test.YtodfaakodgedbaaKit4
import Derived.Test.YtodfaakodgedbaaIdK
set_option linter.unusedSimpArgs false
set_option linter.unusedVariables false
namespace Go.Proofs.Ytodfaakodgedbaa
open Go.RowKit Go.Qc
attribute [local go_sem] txt_size txt_append ib_fold

/-! ### the writer -/
/-! ### numbers and texts written -/
end Go.Proofs.Ytodfaakodgedbaa

namespace Go.Proofs.Ytodfaakodgedbaa
open Go.RowKit Go.Qc
attribute [local go_sem] txt_size txt_append ib_fold

end Go.Proofs.Ytodfaakodgedbaa

namespace Go.Proofs.Ytodfaakodgedbaa
open Go.RowKit Go.Qc Go.Shelf
attribute [local go_sem] txt_size txt_append ib_fold

/-! ### a text cloned -/
/-! ### new, end -/
/-! ### a number -/
/-! ### how many there are -/
def cntN (most : Int) (l : List UInt8) : Except Int (Nat × Nat) :=
  match scanN 0 0 l with
  | .ok (v, n) => if most < v then .error 4 else .ok (v, n)
  | .error e => .error e
end Go.Proofs.Ytodfaakodgedbaa

namespace Go.Proofs.Ytodfaakodgedbaa
open Go.RowKit Go.Qc Go.Shelf
attribute [local go_sem] txt_size txt_append ib_fold

end Go.Proofs.Ytodfaakodgedbaa

namespace Go.Proofs.Ytodfaakodgedbaa
open Go.RowKit Go.Qc
attribute [local go_sem] txt_size txt_append ib_fold

end Go.Proofs.Ytodfaakodgedbaa

namespace Go.Proofs.Ytodfaakodgedbaa
open Go.RowKit Go.Qc
attribute [local go_sem] txt_size txt_append ib_fold

/-! ### a writer's truths -/
end Go.Proofs.Ytodfaakodgedbaa

namespace Go.Proofs.Ytodfaakodgedbaa
open Go.RowKit Go.Qc
attribute [local go_sem] txt_size txt_append ib_fold

end Go.Proofs.Ytodfaakodgedbaa

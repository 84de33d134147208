
/- hunk: lines with a hunk, by the document. -/
import Derived.Test.YtkciohifldgdjaaPhA
set_option linter.unusedSimpArgs false
set_option linter.unusedVariables false
namespace Go.Proofs.Ytkciohifldgdjaa
open Go.RowKit Go.Qc Go.Shelf
attribute [local go_sem] txt_size txt_append ib_fold txt_toL

theorem rd_get {w : World} {A : Option Addr} {ps : List (List UInt8)} {j : Nat} {p : List UInt8} (h : Rd w A (ps.map strV)) (hp : ps[j]? = some p) : ∃ ad, A = some ad ∧ w.cell? (ad.add j) = some (.string (txt p)) :=
  rd_in h j (strV p) (by rw [List.getElem?_map, hp]; rfl)
end Go.Proofs.Ytkciohifldgdjaa

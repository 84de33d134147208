
/- Where an id stands in a row that rises: slices.BinarySearchFunc at ids; Place, Has. -/
import Derived.Test.YtkajfpincbkfhaaId11
set_option linter.unusedVariables false
set_option linter.unusedSimpArgs false
namespace Go.Proofs.Ytkajfpincbkfhaa
open Go.RowKit Go.Qc
attribute [local go_sem] txt_size

theorem rising_get {l : List (List UInt8)} {x y : List UInt8} {i j : Nat} (hri : Rising l) (h : i < j) (hx : l[i]? = some x) (hy : l[j]? = some y) : Lt x y := by
  have hl := (List.getElem?_eq_some_iff.1 hx)
  have hp := (List.getElem?_eq_some_iff.1 hy)
  have := List.pairwise_iff_getElem.1 hri i j hl.1 hp.1 h
  rw [hp.2, hl.2] at this
  exact this
end Go.Proofs.Ytkajfpincbkfhaa

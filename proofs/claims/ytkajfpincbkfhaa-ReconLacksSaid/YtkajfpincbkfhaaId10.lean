
/- Rows of ids: the document's Sort and Only. -/
import Derived.Test.YtkajfpincbkfhaaIdL
namespace Go.Proofs.Ytkajfpincbkfhaa
open Go.RowKit Go.Qc
attribute [local go_sem] txt_size

theorem filter_snoc {l : List (List UInt8)} {k : Nat} {x : List UInt8} {p : List UInt8 → Bool} (hx : l[k]? = some x) : (l.take (k + 1)).filter p = (l.take k).filter p ++ (if p x = true then [x] else []) := by
  rw [List.take_add_one, hx, List.filter_append]
  congr 1
  simp only [Option.toList_some, List.filter_cons, List.filter_nil]
end Go.Proofs.Ytkajfpincbkfhaa

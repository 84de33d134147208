
/- hunk: many hunks, one behind the other, and all of them back; lists alone. -/
import Derived.Test.YtkciohifldgdjaaHk9
set_option linter.unusedSimpArgs false
set_option linter.unusedVariables false
namespace Go.Proofs.Ytkciohifldgdjaa
open Go.RowKit Go.Qc Go.Shelf

/-- A hunk: where, its old lines, its new ones. -/
abbrev HunkD := Int × List (List UInt8) × List (List UInt8)
/-- What was made of right lines is right. -/
theorem apR_right (l : List (List UInt8)) (h : HunkD) (hz : (apR l h.1 h.2.1 h.2.2).2 = 0) : linesR (apR l h.1 h.2.1 h.2.2).1 = true := by
  have hb := (apR_back l h.1 h.2.1 h.2.2 hz).1
  cases hx : linesR (apR l h.1 h.2.1 h.2.2).1 with
  | true => rfl
  | false =>
    have : (apR (apR l h.1 h.2.1 h.2.2).1 h.1 h.2.2 h.2.1).2 = 0 := by rw [hb]
    rw [apR_snd, hx] at this
    simp at this
end Go.Proofs.Ytkciohifldgdjaa

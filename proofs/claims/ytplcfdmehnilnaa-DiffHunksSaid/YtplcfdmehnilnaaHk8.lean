
/- hunk: what the laws call of their own: lines that are too long, the chapter's example. -/
import Derived.Test.YtplcfdmehnilnaaHk7
set_option linter.unusedSimpArgs false
set_option linter.unusedVariables false
namespace Go.Proofs.Ytplcfdmehnilnaa
open Go.RowKit Go.Qc Go.Shelf
attribute [local go_sem] txt_size txt_append ib_fold txt_toL

theorem any_snoc {α : Type} {l : List α} {f : α → Bool} {k : Nat} {x : α} (hx : l[k]? = some x) (h : (l.take k).any f = false) (hb : f x = false) : (l.take (k + 1)).any f = false := by
  rw [take_snoc hx, List.any_append, h]; simp [hb]
theorem any_hit {α : Type} {l : List α} {f : α → Bool} {k : Nat} {x : α} (hx : l[k]? = some x) (hb : f x = true) : l.any f = true := by
  rw [List.any_eq_true]; exact ⟨x, List.mem_of_getElem? hx, hb⟩
theorem rd_cells1 (w : World) (a : List UInt8) : Rd (w.alloc (.cells #[.string (txt a)] 9)) (some ⟨w.heap.size, 0, none⟩) ([a].map strV) := Rd.blk (Blk.new _ _ _) (by
  intro j u hu
  match j, hu with
  | 0, hu => cases hu; rfl
  | j + 1, hu => simp at hu)
end Go.Proofs.Ytplcfdmehnilnaa

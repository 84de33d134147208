
/- hunk: the iterator of hunks from the last one on. -/
import Derived.Test.YtdkeobpmenaljaaHk16
import Derived.Test.YtdkeobpmenaljaaPaA
import Derived.Test.YtdkeobpmenaljaaBw0
set_option linter.unusedSimpArgs false
set_option linter.unusedVariables false
namespace Go.Proofs.Ytdkeobpmenaljaa
open Go.RowKit Go.Qc Go.Shelf
attribute [local go_sem] txt_size txt_append ib_fold txt_toL
attribute [local go_sem] Oper.semAt_some

/-- A hunk's three cells, as values. -/
abbrev Hc := Int × Value × Value
def HcAt (w : World) (p : Addr) (h : Hc) : Prop := w.cell? ⟨p.block, p.off, none⟩ = some (.int .i64 h.1) ∧ w.cell? ⟨p.block, p.off + 1, none⟩ = some h.2.1 ∧ w.cell? ⟨p.block, p.off + 2, none⟩ = some h.2.2
def hbIn (w : World) (A : Option Addr) (hs : List Hc) : Prop := ∀ j h, hs[j]? = some h → ∃ g o, A = some ⟨g, o, none⟩ ∧ HcAt w ⟨g, o + j * 3, none⟩ h
theorem hbIn.old {w w' : World} {A : Option Addr} {hs : List Hc} {M : Nat} (h : hbIn w A hs) (hM : w.heap.size ≤ M) (hb : OldK M w w') : hbIn w' A hs := by
  intro j x hx
  obtain ⟨g, o, rfl, h1⟩ := h j x hx
  refine ⟨g, o, rfl, ?_⟩
  exact ⟨hb _ _ (Nat.lt_of_lt_of_le (cell_lt h1.1) hM) h1.1, hb _ _ (Nat.lt_of_lt_of_le (cell_lt h1.2.1) hM) h1.2.1, hb _ _ (Nat.lt_of_lt_of_le (cell_lt h1.2.2) hM) h1.2.2⟩
end Go.Proofs.Ytdkeobpmenaljaa

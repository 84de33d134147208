
/- hunk: all hunks the other way, from the last one on: Back. -/
import Derived.Test.YtdkeobpmenaljaaBw1
import Derived.Test.YtdkeobpmenaljaaPhA
import Derived.Deep.RegionHeld3
import Derived.Test.YtdkeobpmenaljaaKit6
import Derived.OrdersIn
import Derived.TacticsIn
import Derived.Tactics
set_option linter.unusedSimpArgs false
set_option linter.unusedVariables false
namespace Go.Proofs.Ytdkeobpmenaljaa
open Go.RowKit Go.Qc Go.Shelf
attribute [local go_sem] txt_size txt_append ib_fold txt_toL
attribute [local go_sem] Oper.semAt_some

/-- A hunk's cells, whose rows are owned. -/
def HcOwn (W : World) (base : Nat) (t : Hc) (d : HunkD) : Prop := t.1 = d.1 ∧ W.ownsRow base 9 1 t.2.1 d.2.1.length (d.2.1.map strV) ∧ W.ownsRow base 9 1 t.2.2 d.2.2.length (d.2.2.map strV) ∧ d.2.1.length ≤ 1000 ∧ d.2.2.length ≤ 1000
/-- Hunks whose rows are owned. -/
def HcsOwn (W : World) (base : Nat) (ts : List Hc) (ds : List HunkD) : Prop := ts.length = ds.length ∧ ∀ (j : Nat) (t : Hc) (d : HunkD), ts[j]? = some t → ds[j]? = some d → HcOwn W base t d
theorem HcsOwn.step {W W' : World} {base : Nat} {ts : List Hc} {ds : List HunkD} (h : HcsOwn W base ts ds) (k : ∀ v n xs, W.ownsRow base 9 1 v n xs → W'.ownsRow base 9 1 v n xs) : HcsOwn W' base ts ds :=
  ⟨h.1, fun j t d h1 h2 => by obtain ⟨a, b, c, e, f⟩ := h.2 j t d h1 h2; exact ⟨a, k _ _ _ b, k _ _ _ c, e, f⟩⟩
end Go.Proofs.Ytdkeobpmenaljaa

/- What an iterator's body leaves as it was: what lay below, and a box. Of no program. -/
import Derived.Test.YtapgiagpjplpdaaGreatKit6
import Derived.RangeFuncNested
import Derived.RangeFuncCalls
import Derived.RangeFuncLeaves
import Derived.RangeFuncBox
import Derived.WalkKit
import Derived.OwnWalkIn
import Derived.TacticsInMore
import Derived.LoopNIn
import Derived.LoopIn
import Derived.Test.YtapgiagpjplpdaaGreatHk16
import Derived.Test.YtapgiagpjplpdaaGreatPaA
import Derived.Test.YtapgiagpjplpdaaGreatPhA
import Derived.Deep.RegionHeld3
import Derived.OrdersIn
import Derived.TacticsIn
import Derived.Tactics
set_option linter.unusedSimpArgs false
set_option linter.unusedVariables false
namespace Go.Proofs.YtapgiagpjplpdaaGreat
open Go.RowKit Go.Qc

/-- What lay below stays. -/
def OldK (M : Nat) (A B : World) : Prop := ∀ p u, p.block < M → A.cell? p = some u → B.cell? p = some u
theorem OldK.trans {M : Nat} {A B C : World} (h : OldK M A B) (k : OldK M B C) : OldK M A C := fun p u hp hu => k p u hp (h p u hp hu)
theorem OldK.below {M : Nat} {A B : World} (h : Below M A B) : OldK M A B := fun p u hp hu => (h.cell hp).trans hu
/-- What lay below stays, and a box. -/
def KpB (M Bn : Nat) (A B : World) : Prop := OldK M A B ∧ ∀ u, A.cell? ⟨Bn, 0, none⟩ = some u → B.cell? ⟨Bn, 0, none⟩ = some u
theorem KpB.trans {M Bn : Nat} {A B C : World} (h : KpB M Bn A B) (k : KpB M Bn B C) : KpB M Bn A C := ⟨h.1.trans k.1, fun u hu => k.2 u (h.2 u hu)⟩
theorem KpB.put {M Bn : Nat} (W : World) (l : Nat) (o : Obj) (h1 : M ≤ l) (h2 : Bn < l) : KpB M Bn W (W.putObj l o) :=
  ⟨fun p u hp hu => (grownBy_putObj' W l o).cell hu (fun e => by have := Option.some.inj e; omega), fun u hu => (grownBy_putObj' W l o).cell hu (fun e => by have := Option.some.inj e; simp at this; omega)⟩
theorem cell_lt {w : World} {p : Addr} {u : Value} (h : w.cell? p = some u) : p.block < w.heap.size := by
  unfold World.cell? at h
  split at h
  · rename_i heq
    exact (Array.getElem?_eq_some_iff.1 heq).1
  · cases h

end Go.Proofs.YtapgiagpjplpdaaGreat
/- hunk: the iterator of hunks from the last one on. -/
set_option linter.unusedSimpArgs false
set_option linter.unusedVariables false
namespace Go.Proofs.YtapgiagpjplpdaaGreat
open Go.RowKit Go.Qc Go.Shelf
attribute [local go_sem] txt_size txt_append ib_fold txt_toL
attribute [local go_sem] Oper.semAt_some

/-- A hunk's three cells, as values. -/
abbrev Hc := Int × Value × Value
def HcAt (w : World) (p : Addr) (h : Hc) : Prop := w.cell? ⟨p.block, p.off, none⟩ = some (.int .i64 h.1) ∧ w.cell? ⟨p.block, p.off + 1, none⟩ = some h.2.1 ∧ w.cell? ⟨p.block, p.off + 2, none⟩ = some h.2.2
def hbIn (w : World) (A : Option Addr) (hs : List Hc) : Prop := ∀ j h, hs[j]? = some h → ∃ g o, A = some ⟨g, o, none⟩ ∧ HcAt w ⟨g, o + j * 3, none⟩ h
theorem hbIn.old {w w' : World} {A : Option Addr} {hs : List Hc} {M : Nat} (h : hbIn w A hs) (hM : w.heap.size ≤ M) (hb : OldK M w w') : hbIn w' A hs := by
  intro j x hx
  obtain ⟨g, o, rfl, h1⟩ := h j x hx
  refine ⟨g, o, rfl, ?_⟩
  exact ⟨hb _ _ (Nat.lt_of_lt_of_le (cell_lt h1.1) hM) h1.1, hb _ _ (Nat.lt_of_lt_of_le (cell_lt h1.2.1) hM) h1.2.1, hb _ _ (Nat.lt_of_lt_of_le (cell_lt h1.2.2) hM) h1.2.2⟩
end Go.Proofs.YtapgiagpjplpdaaGreat
/- hunk: all hunks the other way, from the last one on: Back. -/
set_option linter.unusedSimpArgs false
set_option linter.unusedVariables false
namespace Go.Proofs.YtapgiagpjplpdaaGreat
open Go.RowKit Go.Qc Go.Shelf
attribute [local go_sem] txt_size txt_append ib_fold txt_toL
attribute [local go_sem] Oper.semAt_some

/-- A hunk's cells, whose rows are owned. -/
def HcOwn (W : World) (base : Nat) (t : Hc) (d : HunkD) : Prop := t.1 = d.1 ∧ W.ownsRow base 9 1 t.2.1 d.2.1.length (d.2.1.map strV) ∧ W.ownsRow base 9 1 t.2.2 d.2.2.length (d.2.2.map strV) ∧ d.2.1.length ≤ 1000 ∧ d.2.2.length ≤ 1000
/-- Hunks whose rows are owned. -/
def HcsOwn (W : World) (base : Nat) (ts : List Hc) (ds : List HunkD) : Prop := ts.length = ds.length ∧ ∀ (j : Nat) (t : Hc) (d : HunkD), ts[j]? = some t → ds[j]? = some d → HcOwn W base t d
theorem HcsOwn.step {W W' : World} {base : Nat} {ts : List Hc} {ds : List HunkD} (h : HcsOwn W base ts ds) (k : ∀ v n xs, W.ownsRow base 9 1 v n xs → W'.ownsRow base 9 1 v n xs) : HcsOwn W' base ts ds :=
  ⟨h.1, fun j t d h1 h2 => by obtain ⟨a, b, c, e, f⟩ := h.2 j t d h1 h2; exact ⟨a, k _ _ _ b, k _ _ _ c, e, f⟩⟩
end Go.Proofs.YtapgiagpjplpdaaGreat

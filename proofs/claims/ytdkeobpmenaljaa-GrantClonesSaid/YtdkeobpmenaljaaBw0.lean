
/- What an iterator's body leaves as it was: what lay below, and a box. Of no program. -/
import Derived.Test.YtdkeobpmenaljaaKit6
import Derived.RangeFuncNested
import Derived.RangeFuncCalls
import Derived.RangeFuncLeaves
import Derived.RangeFuncBox
import Derived.WalkKit
import Derived.OwnWalkIn
import Derived.TacticsInMore
import Derived.LoopNIn
import Derived.LoopIn
set_option linter.unusedSimpArgs false
set_option linter.unusedVariables false
namespace Go.Proofs.Ytdkeobpmenaljaa
open Go.RowKit Go.Qc

/-- What lay below stays. -/
def OldK (M : Nat) (A B : World) : Prop := ∀ p u, p.block < M → A.cell? p = some u → B.cell? p = some u
theorem OldK.trans {M : Nat} {A B C : World} (h : OldK M A B) (k : OldK M B C) : OldK M A C := fun p u hp hu => k p u hp (h p u hp hu)
theorem OldK.below {M : Nat} {A B : World} (h : Below M A B) : OldK M A B := fun p u hp hu => (h.cell hp).trans hu
/-- What lay below stays, and a box. -/
def KpB (M Bn : Nat) (A B : World) : Prop := OldK M A B ∧ ∀ u, A.cell? ⟨Bn, 0, none⟩ = some u → B.cell? ⟨Bn, 0, none⟩ = some u
theorem KpB.trans {M Bn : Nat} {A B C : World} (h : KpB M Bn A B) (k : KpB M Bn B C) : KpB M Bn A C := ⟨h.1.trans k.1, fun u hu => k.2 u (h.2 u hu)⟩
theorem KpB.put {M Bn : Nat} (W : World) (l : Nat) (o : Obj) (h1 : M ≤ l) (h2 : Bn < l) : KpB M Bn W (W.putObj l o) :=
  ⟨fun p u hp hu => (grownBy_putObj' W l o).cell hu (fun e => by have := Option.some.inj e; omega), fun u hu => (grownBy_putObj' W l o).cell hu (fun e => by have := Option.some.inj e; simp at this; omega)⟩
theorem cell_lt {w : World} {p : Addr} {u : Value} (h : w.cell? p = some u) : p.block < w.heap.size := by
  unfold World.cell? at h
  split at h
  · rename_i heq
    exact (Array.getElem?_eq_some_iff.1 heq).1
  · cases h

end Go.Proofs.Ytdkeobpmenaljaa

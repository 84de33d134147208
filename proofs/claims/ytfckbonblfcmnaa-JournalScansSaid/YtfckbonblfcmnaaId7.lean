/- Union, Minus, Both; the chapter's example. -/
import Derived.Test.YtfckbonblfcmnaaId5
namespace Go.Proofs.Ytfckbonblfcmnaa
open Go.RowKit Go.Qc
attribute [local go_sem] txt_size txt_append ib_fold ib_i64

/-- A row of ids, in hand: not more than a million, read where it lies. -/
def RowAt (w : World) (A : Option Addr) (n c : Nat) (l : List (List UInt8)) : Prop := l.length = n ∧ n ≤ c ∧ c ≤ maxLen ∧ n ≤ 1000000 ∧ IdRd w A l
end Go.Proofs.Ytfckbonblfcmnaa
/- Regions that draw their order, read, and call what leaves old blocks alone; ids stored into new variables. -/
namespace Go.Proofs.Ytfckbonblfcmnaa
open Go.RowKit Go.Qc

/-- A world behind W: what W held lies there still. -/
structure LaterW (W : World) where
  w : World
  h : Below W.heap.size W w
instance (W : World) : Inhabited (LaterW W) := ⟨⟨W, Below.refl _ _⟩⟩
theorem wp_region_later {P : Program} {id : Nat} {Q : Exit → Act → World → Prop} {a : Act} {w : World} {l : List Oper} (hm : P.follows .mixedOrders = true) (hB : Region.lexB .any l.toArray = true)
    (h : wpQuiet P l.toArray (fun w' => ∃ p : LaterW w, w' = p.w) (fun a' => ∀ w', (∃ p : LaterW w, w' = p.w) → Q .normal a' w') l a) : (Code.region id l.toArray true).wp P Q a w :=
  wp_region_quiet (C := fun w' => ∃ p : LaterW w, w' = p.w) hm hB ⟨⟨w.drew, below_drew1 w⟩, rfl⟩ (by simpa using h)
theorem later_of {P : Program} {f : FuncId} {args : Array Value} {W : World} {p : LaterW W} {v : Value} (h : Calls P f args p.w fun e w'' => e = .returned v ∧ Below p.w.heap.size p.w w'') :
    Calls P f args p.w fun e w'' => e = .returned v ∧ ∃ p' : LaterW W, w'' = p'.w :=
  h.mono fun _ w'' ⟨he, hb⟩ => ⟨he, ⟨w'', p.h.trans (hb.mono p.h.size)⟩, rfl⟩
theorem range_later {w : World} {g o : Nat} {cs : List Value} (h : w.rangeAt g o cs) : ∀ w', (∃ p : LaterW w, w' = p.w) → w'.rangeAt g o cs := by
  rintro w' ⟨p, rfl⟩
  exact h.below p.h
end Go.Proofs.Ytfckbonblfcmnaa

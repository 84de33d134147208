
/- Regions that draw their order, read, and call what leaves old blocks alone; ids stored into new variables. -/
import Derived.Test.YtkbokffonnjjiaaId6
namespace Go.Proofs.Ytkbokffonnjjiaa
open Go.RowKit Go.Qc

/-- A world behind W: what W held lies there still. -/
structure LaterW (W : World) where
  w : World
  h : Below W.heap.size W w
instance (W : World) : Inhabited (LaterW W) := ⟨⟨W, Below.refl _ _⟩⟩
theorem wp_region_later {P : Program} {id : Nat} {Q : Exit → Act → World → Prop} {a : Act} {w : World} {l : List Oper} (hm : P.follows .mixedOrders = true) (hB : Region.lexB .any l.toArray = true)
    (h : wpQuiet P l.toArray (fun w' => ∃ p : LaterW w, w' = p.w) (fun a' => ∀ w', (∃ p : LaterW w, w' = p.w) → Q .normal a' w') l a) : (Code.region id l.toArray true).wp P Q a w :=
  wp_region_quiet (C := fun w' => ∃ p : LaterW w, w' = p.w) hm hB ⟨⟨w.drew, below_drew1 w⟩, rfl⟩ (by simpa using h)
theorem later_of {P : Program} {f : FuncId} {args : Array Value} {W : World} {p : LaterW W} {v : Value} (h : Calls P f args p.w fun e w'' => e = .returned v ∧ Below p.w.heap.size p.w w'') :
    Calls P f args p.w fun e w'' => e = .returned v ∧ ∃ p' : LaterW W, w'' = p'.w :=
  h.mono fun _ w'' ⟨he, hb⟩ => ⟨he, ⟨w'', p.h.trans (hb.mono p.h.size)⟩, rfl⟩
theorem range_later {w : World} {g o : Nat} {cs : List Value} (h : w.rangeAt g o cs) : ∀ w', (∃ p : LaterW w, w' = p.w) → w'.rangeAt g o cs := by
  rintro w' ⟨p, rfl⟩
  exact h.below p.h
/-- An id stored into a variable that has just been made. -/
theorem wpList_store_newid {w : World} {ops : Array Oper} {rest : List Oper} {o : Oper} {a : Act} {Q : Exit → Act → World → Prop} {old : Array Value} (hgd : o.guard = none) (x y : Operand) (ho : o.op = .store 24 x y)
    (l : List UInt8) (hl : l.length = 32) (hx : a.eval x = .pointer (some ⟨w.heap.size, 0, none⟩)) (hy : a.eval y = .agg (idVals l)) (hs : old.size = 32)
    (h : ∀ w', w'.rangeAt w.heap.size 0 (l.map u8v) → Below w.heap.size w w' → wpList Try.prog ops Q rest (a.put o.dst undef) w') : wpList Try.prog ops Q (o :: rest) a (w.alloc (.cells old 24)) :=
  wpList_store_blk hgd 24 x y ho w.heap.size old (idVals l) 24 (Blk.new _ _ _) hx hy (by rw [idVals_size, hl]; exact sizeId) (by rw [hs, idVals_size, hl]) (idVals_one _) fun w' hb hg => h w' (range_blk hb) (below_new hg)
end Go.Proofs.Ytkbokffonnjjiaa

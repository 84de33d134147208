
/- path: regions that read, and call what leaves old blocks alone; a row's last element. -/
import Derived.Test.YtjaenffdbhgmeaaPa8
namespace Go.Proofs.Ytjaenffdbhgmeaa
open Go.RowKit Go.Qc Go.Shelf
attribute [local go_sem] txt_size txt_append ib_fold txt_toL

theorem mixed10 : Try.prog.follows .mixedOrders = true := by kernel_rfl
/-- A world behind W: what W held lies there still. -/
structure LtW (W : World) where
  w : World
  h : Below W.heap.size W w
instance (W : World) : Inhabited (LtW W) := ⟨⟨W, Below.refl _ _⟩⟩
theorem below_drew10 (w : World) : Below w.heap.size w w.drew := ⟨(Below.refl w.heap.size w).os, (Below.refl w.heap.size w).tape, (Below.refl w.heap.size w).output, (Below.refl w.heap.size w).size, (Below.refl w.heap.size w).block⟩
theorem wp_region_lt {P : Program} {id : Nat} {Q : Exit → Act → World → Prop} {a : Act} {w : World} {l : List Oper} (hm : P.follows .mixedOrders = true) (hB : Region.lexB .any l.toArray = true)
    (h : wpQuiet P l.toArray (fun w' => ∃ p : LtW w, w' = p.w) (fun a' => ∀ w', (∃ p : LtW w, w' = p.w) → Q .normal a' w') l a) : (Code.region id l.toArray true).wp P Q a w :=
  wp_region_quiet (C := fun w' => ∃ p : LtW w, w' = p.w) hm hB ⟨⟨w.drew, below_drew10 w⟩, rfl⟩ (by simpa using h)
theorem lt_of {P : Program} {f : FuncId} {args : Array Value} {W : World} {p : LtW W} {v : Value} (h : Calls P f args p.w fun e w'' => e = .returned v ∧ Below p.w.heap.size p.w w'') :
    Calls P f args p.w fun e w'' => e = .returned v ∧ ∃ p' : LtW W, w'' = p'.w :=
  h.mono fun _ w'' ⟨he, hb⟩ => ⟨he, ⟨w'', p.h.trans (hb.mono p.h.size)⟩, rfl⟩
/-- A text has a last part. -/
theorem splitS_last (s : List UInt8) : ∃ (U : List (List UInt8)) (m : List UInt8), splitS s = U ++ [m] ∧ abvS s = joinS U ∧ lstS s = m := by
  have h := splitS_ne s
  refine ⟨(splitS s).dropLast, (splitS s).getLast h, (List.dropLast_concat_getLast h).symm, rfl, ?_⟩
  unfold lstS
  rw [List.getLast?_eq_some_getLast h]; rfl
end Go.Proofs.Ytjaenffdbhgmeaa

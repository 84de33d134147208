
/- gauss: regions that draw their order, read, and call what leaves old blocks alone; what the laws' calls answer, told by letters. -/
import Derived.Test.YtdkeobpmenaljaaGs4
import Derived.Laws.StructEq
set_option linter.unusedSimpArgs false
set_option linter.unusedVariables false
namespace Go.Proofs.Ytdkeobpmenaljaa
open Go.RowKit Go.Qc

/-- A world behind W: what W held lies there still. -/
structure LaterZ (W : World) where
  w : World
  h : Below W.heap.size W w
instance (W : World) : Inhabited (LaterZ W) := ⟨⟨W, Below.refl _ _⟩⟩
theorem wp_region_laterZ {P : Program} {id : Nat} {Q : Exit → Act → World → Prop} {a : Act} {w : World} {l : List Oper} (hm : P.follows .mixedOrders = true) (hB : Region.lexB .any l.toArray = true)
    (h : wpQuiet P l.toArray (fun w' => ∃ p : LaterZ w, w' = p.w) (fun a' => ∀ w', (∃ p : LaterZ w, w' = p.w) → Q .normal a' w') l a) : (Code.region id l.toArray true).wp P Q a w :=
  wp_region_quiet (C := fun w' => ∃ p : LaterZ w, w' = p.w) hm hB ⟨⟨w.drew, below_drewZ (Below.refl _ _)⟩, rfl⟩ (by simpa using h)
theorem later_ofZ {P : Program} {f : FuncId} {args : Array Value} {W : World} {p : LaterZ W} {v : Value} (h : Calls P f args p.w fun e w'' => e = .returned v ∧ Below p.w.heap.size p.w w'') :
    Calls P f args p.w fun e w'' => e = .returned v ∧ ∃ p' : LaterZ W, w'' = p'.w :=
  h.mono fun _ w'' ⟨he, hb⟩ => ⟨he, ⟨w'', p.h.trans (hb.mono p.h.size)⟩, rfl⟩
theorem same_belowZ {f : FuncId} {args : Array Value} {w : World} {v : Value} (h : Calls Try.prog f args w fun e w' => e = .returned v ∧ w = w') : Calls Try.prog f args w fun e w' => e = .returned v ∧ Below w.heap.size w w' :=
  h.mono fun _ _ ⟨he, hw⟩ => ⟨he, hw ▸ Below.refl _ _⟩
/-- A residue's four letters: both parts, as whole numbers and as floats. -/
structure LetZ (r : Int × Int) (a b : Int) (u v : Nat) : Prop where
  ra : r.1 = a
  rb : r.2 = b
  ua : fl a = u
  vb : fl b = v
theorem LetZ.mk_ (r : Int × Int) : ∃ a b u v, LetZ r a b u v := ⟨_, _, _, _, rfl, rfl, rfl, rfl⟩
theorem LetZ.pz {r : Int × Int} {a b : Int} {u v : Nat} (h : LetZ r a b u v) : pz r = .agg #[.int .i64 a, .int .i64 b] := by unfold Proofs.Ytdkeobpmenaljaa.pz; rw [h.ra, h.rb]
theorem LetZ.cz {r : Int × Int} {a b : Int} {u v : Nat} (h : LetZ r a b u v) : cz r = .complex .f64 u v := by unfold Proofs.Ytdkeobpmenaljaa.cz; rw [h.ra, h.rb, h.ua, h.vb]
theorem LetZ.eq {r : Int × Int} {a b : Int} {u v : Nat} (h : LetZ r a b u v) (hr : ResZ r) (W : World) : (binOp .eql 80 (.complex .f64 u v) (.complex .f64 u v)).run Try.prog W = .ok (.bool true) W := by
  have := run_cz_eq 80 r r hr hr W
  rw [decide_eq_true rfl, h.cz] at this
  exact this
theorem LetZ.number {r : Int × Int} {a b : Int} {u v : Nat} (h : LetZ r a b u v) (W : World) : Calls Try.prog 41 #[.agg #[.int .i64 a, .int .i64 b]] W fun e w' => e = .returned (.complex .f64 u v) ∧ Below W.heap.size W w' := by
  have := number22_any r W
  rw [h.pz, h.cz] at this
  exact this
theorem wf_u8 {a : Int} (h : (Lit.int .u8 a).wf = true) : ∃ n : Nat, a = n ∧ n < 256 := by
  have h2 : IntKind.u8.min ≤ a ∧ a ≤ IntKind.u8.max := by simpa [Lit.wf] using h
  have e1 : IntKind.u8.min = 0 := by decide
  have e2 : IntKind.u8.max = 255 := by decide
  rw [e1, e2] at h2
  exact ⟨a.toNat, by omega, by omega⟩
end Go.Proofs.Ytdkeobpmenaljaa


/- gauss: regions that draw their order, read, and call what leaves old blocks alone; what the laws' calls answer, told by letters. -/
import Derived.Test.YtkajfpincbkfhaaGs4
import Derived.Laws.StructEq
set_option linter.unusedSimpArgs false
set_option linter.unusedVariables false
namespace Go.Proofs.Ytkajfpincbkfhaa
open Go.RowKit Go.Qc

/-- A world behind W: what W held lies there still. -/
structure LaterZ (W : World) where
  w : World
  h : Below W.heap.size W w
instance (W : World) : Inhabited (LaterZ W) := ⟨⟨W, Below.refl _ _⟩⟩
theorem wp_region_laterZ {P : Program} {id : Nat} {Q : Exit → Act → World → Prop} {a : Act} {w : World} {l : List Oper} (hm : P.follows .mixedOrders = true) (hB : Region.lexB .any l.toArray = true)
    (h : wpQuiet P l.toArray (fun w' => ∃ p : LaterZ w, w' = p.w) (fun a' => ∀ w', (∃ p : LaterZ w, w' = p.w) → Q .normal a' w') l a) : (Code.region id l.toArray true).wp P Q a w :=
  wp_region_quiet (C := fun w' => ∃ p : LaterZ w, w' = p.w) hm hB ⟨⟨w.drew, below_drewZ (Below.refl _ _)⟩, rfl⟩ (by simpa using h)
theorem later_ofZ {P : Program} {f : FuncId} {args : Array Value} {W : World} {p : LaterZ W} {v : Value} (h : Calls P f args p.w fun e w'' => e = .returned v ∧ Below p.w.heap.size p.w w'') :
    Calls P f args p.w fun e w'' => e = .returned v ∧ ∃ p' : LaterZ W, w'' = p'.w :=
  h.mono fun _ w'' ⟨he, hb⟩ => ⟨he, ⟨w'', p.h.trans (hb.mono p.h.size)⟩, rfl⟩
theorem same_belowZ {f : FuncId} {args : Array Value} {w : World} {v : Value} (h : Calls Try.prog f args w fun e w' => e = .returned v ∧ w = w') : Calls Try.prog f args w fun e w' => e = .returned v ∧ Below w.heap.size w w' :=
  h.mono fun _ _ ⟨he, hw⟩ => ⟨he, hw ▸ Below.refl _ _⟩
/-- A residue's four letters: both parts, as whole numbers and as floats. -/
structure LetZ (r : Int × Int) (a b : Int) (u v : Nat) : Prop where
  ra : r.1 = a
  rb : r.2 = b
  ua : fl a = u
  vb : fl b = v
theorem LetZ.mk_ (r : Int × Int) : ∃ a b u v, LetZ r a b u v := ⟨_, _, _, _, rfl, rfl, rfl, rfl⟩
theorem LetZ.pz {r : Int × Int} {a b : Int} {u v : Nat} (h : LetZ r a b u v) : pz r = .agg #[.int .i64 a, .int .i64 b] := by unfold Proofs.Ytkajfpincbkfhaa.pz; rw [h.ra, h.rb]
theorem LetZ.cz {r : Int × Int} {a b : Int} {u v : Nat} (h : LetZ r a b u v) : cz r = .complex .f64 u v := by unfold Proofs.Ytkajfpincbkfhaa.cz; rw [h.ra, h.rb, h.ua, h.vb]
theorem LetZ.eq {r : Int × Int} {a b : Int} {u v : Nat} (h : LetZ r a b u v) (hr : ResZ r) (W : World) : (binOp .eql 54 (.complex .f64 u v) (.complex .f64 u v)).run Try.prog W = .ok (.bool true) W := by
  have := run_cz_eq 54 r r hr hr W
  rw [decide_eq_true rfl, h.cz] at this
  exact this
theorem LetZ.number {r : Int × Int} {a b : Int} {u v : Nat} (h : LetZ r a b u v) (W : World) : Calls Try.prog 32 #[.agg #[.int .i64 a, .int .i64 b]] W fun e w' => e = .returned (.complex .f64 u v) ∧ Below W.heap.size W w' := by
  have := number22_any r W
  rw [h.pz, h.cz] at this
  exact this
theorem eqZ_cons {P : Program} (d : Nat) (xs ys : Array Value) (f : Field) (fs : List Field) (W : World) (a b : Value) (r q : Bool) (hn : (f.name == "_") = false) (ha : (part f.type xs f.offset).run P W = .ok a W) (hb : (part f.type ys f.offset).run P W = .ok b W) (he : (Op.equalIn d f.type a b).run P W = .ok r W) (hq : (Op.eqFields d xs ys fs).run P W = .ok q W) :
    (Op.eqFields d xs ys (f :: fs)).run P W = .ok (r && q) W := by
  have hn' : f.name ≠ "_" := by intro e; rw [e] at hn; simp at hn
  rw [Op.eqFields, if_pos hn']
  simp only [Sem.run_bind, ha, hb, he, Result.andThen_ok]
  cases r
  · simp
  · simpa using hq
theorem eqZ_nil {P : Program} (d : Nat) (xs ys : Array Value) (W : World) : (Op.eqFields d xs ys []).run P W = .ok true W := by
  simp [Op.eqFields]
theorem int_eqZ (a b : Int) (W : World) : (Op.equalIn 9999 3 (.int .i64 a) (.int .i64 b)).run Try.prog W = .ok (a == b) W := by
  rw [show (9999 : Nat) = 9998 + 1 from rfl, run_equalIn_int W 9998 _ .i64 .i64 _ _ Try.underlying3]
set_option maxRecDepth 100000 in
theorem pair_eqZ (a b c d : Int) (W : World) : (Op.equalIn 10000 63 (.agg #[.int .i64 a, .int .i64 b]) (.agg #[.int .i64 c, .int .i64 d])).run Try.prog W = .ok ((a == c) && (b == d)) W := by
  have hs : Try.prog.stoodInHeld 63 = false := by kernel_rfl
  have hu := Try.underlying63
  have ht : Try.prog.underlying 63 = some (.struct (Try.prog.fieldsOf 63)) := by
    unfold Program.fieldsOf; rw [hu]
  rw [show (10000 : Nat) = 9999 + 1 from rfl, run_equalIn_struct W 9999 _ _ _ ht hs]
  unfold Program.fieldsOf
  rw [hu]
  have h := eqZ_cons 9999 #[.int .i64 a, .int .i64 b] #[.int .i64 c, .int .i64 d] ({ name := "A", type := 3, offset := 0, embedded := false, tag := "", pkgPath := "", byteOffset := 0 } : Field) _ W _ _ _ _ (by decide) (by kernel_rfl) (by kernel_rfl) (int_eqZ a c W) (eqZ_cons 9999 #[.int .i64 a, .int .i64 b] #[.int .i64 c, .int .i64 d] ({ name := "B", type := 3, offset := 1, embedded := false, tag := "", pkgPath := "", byteOffset := 8 } : Field) _ W _ _ _ _ (by decide) (by kernel_rfl) (by kernel_rfl) (int_eqZ b d W) (eqZ_nil 9999 _ _ W))
  rw [Bool.and_true] at h
  exact h
end Go.Proofs.Ytkajfpincbkfhaa

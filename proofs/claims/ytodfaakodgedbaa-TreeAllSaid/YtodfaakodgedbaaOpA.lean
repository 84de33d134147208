
/- op: what is wrong with an operation, by the program; the document's only -/
import Derived.Test.YtodfaakodgedbaaOp0
import Derived.Deep.RegionHeld3
set_option linter.unusedSimpArgs false
set_option linter.unusedVariables false
namespace Go.Proofs.Ytodfaakodgedbaa
open Go.RowKit Go.Qc Go.Shelf
attribute [local go_sem] txt_size txt_append ib_fold txt_toL

theorem OpX.all {W : World} {g : Nat} {D : OpD} {A : Option Addr} {n c : Nat} {B : Option Addr} {m d : Nat} (h : OpX W g D A n c B m d) : W.rangeAt g 0 (opC D A n c B m d).toList := fun j v hv => by
  rw [Nat.zero_add]; exact h.b.cell_ (by rw [← Array.getElem?_toList]; exact hv)
theorem wpList_load_opx {ops : Array Oper} {rest : List Oper} {o : Oper} {a : Act} {w : World} {Q : Exit → Act → World → Prop} (hw : Region.wanted o (yielded ops a.tmps) = true) (x : Operand) (ho : o.op = .load 40 x)
    (g : Nat) (hx : a.eval x = .pointer (some ⟨g, 0, none⟩)) {D : OpD} {A : Option Addr} {n c : Nat} {B : Option Addr} {m d : Nat} (hX : OpX w g D A n c B m d) (hK : D.K.length = 32)
    (h : wpList Try.prog ops Q rest (a.put o.dst (.agg (opC D A n c B m d))) w) : wpList Try.prog ops Q (o :: rest) a w := by
  refine wpList_load_if hw 40 x ho g 0 hx (opC D A n c B m d).toList _ hX.all Try.underlying40 rfl ?_ ?_
  · rw [infoOp, Array.length_toList, opC_size _ _ _ _ _ _ _ hK]
  · rw [Array.toArray_toList]; exact h
set_option maxRecDepth 100000 in
set_option maxHeartbeats 4000000 in
theorem formed_5 (D : OpD) (hK : D.K.length = 32) (A : Option Addr) (n c : Nat) (hlo : D.o.length = n) (bn : n ≤ 1000000) (B : Option Addr) (m d : Nat) (hln : D.n.length = m) (bm : m ≤ 1000000) (w : World) (rA : Rd w A (D.o.map strV)) (rB : Rd w B (D.n.map strV)) (hk : D.k = 5) :
    Calls Try.prog 39 #[.agg (opC D A n c B m d)] w fun o w' => o = .returned (.bool (preR D.p)) ∧ Below w.heap.size w w' := by
  have hB : Below w.heap.size w (w.alloc (.cells (opC D A n c B m d) 40)) := (Below.refl _ w).alloc (Nat.le_refl _) _
  have hX := OpX.new w D A n c B m d
  have hIO : (Try.prog.info? 40).map (·.size) = some (opC D A n c B m d).size := by rw [opC_size _ _ _ _ _ _ _ hK]; exact infoOp
  have cPol : ∀ W, Calls Try.prog 21 #[.agg (opC D A n c B m d)] W fun o w' => o = .returned (.bool true) ∧ Below W.heap.size W w' := fun W => by have z := policy_any D A n c B m d W; rwa [decide_eq_true (by omega)] at z
  have x1 := hX.c1
  go_enter Try.func39, Try.ntmps39
  go_wp2_with (first
    | (with_reducible refine wpList_load_opx (by with_unfolding_all rfl) _ rfl _ rfl hX hK ?_)
    | (go_at_call 21; (with_reducible refine (cPol _).mono ?_); rintro o1 w1 ⟨rfl, hb⟩; replace hX := hX.below hb; replace hB := hB.trans (hb.mono hB.size); clear hb; clear x1; have x1 := hX.c1)
    | (go_at_call 56; (with_reducible refine (prefix_any D.p _).mono ?_); rintro o1 w1 ⟨rfl, hb⟩; replace hX := hX.below hb; replace hB := hB.trans (hb.mono hB.size); clear hb; clear x1; have x1 := hX.c1))
  go_ret
  exact ⟨rfl, hB⟩

set_option maxRecDepth 100000 in
set_option maxHeartbeats 4000000 in
theorem formed_6 (D : OpD) (hK : D.K.length = 32) (A : Option Addr) (n c : Nat) (hlo : D.o.length = n) (bn : n ≤ 1000000) (B : Option Addr) (m d : Nat) (hln : D.n.length = m) (bm : m ≤ 1000000) (w : World) (rA : Rd w A (D.o.map strV)) (rB : Rd w B (D.n.map strV)) (hk : D.k = 6) :
    Calls Try.prog 39 #[.agg (opC D A n c B m d)] w fun o w' => o = .returned (.bool (preR D.p)) ∧ Below w.heap.size w w' := by
  have hB : Below w.heap.size w (w.alloc (.cells (opC D A n c B m d) 40)) := (Below.refl _ w).alloc (Nat.le_refl _) _
  have hX := OpX.new w D A n c B m d
  have hIO : (Try.prog.info? 40).map (·.size) = some (opC D A n c B m d).size := by rw [opC_size _ _ _ _ _ _ _ hK]; exact infoOp
  have cPol : ∀ W, Calls Try.prog 21 #[.agg (opC D A n c B m d)] W fun o w' => o = .returned (.bool true) ∧ Below W.heap.size W w' := fun W => by have z := policy_any D A n c B m d W; rwa [decide_eq_true (by omega)] at z
  have x1 := hX.c1
  go_enter Try.func39, Try.ntmps39
  go_wp2_with (first
    | (with_reducible refine wpList_load_opx (by with_unfolding_all rfl) _ rfl _ rfl hX hK ?_)
    | (go_at_call 21; (with_reducible refine (cPol _).mono ?_); rintro o1 w1 ⟨rfl, hb⟩; replace hX := hX.below hb; replace hB := hB.trans (hb.mono hB.size); clear hb; clear x1; have x1 := hX.c1)
    | (go_at_call 56; (with_reducible refine (prefix_any D.p _).mono ?_); rintro o1 w1 ⟨rfl, hb⟩; replace hX := hX.below hb; replace hB := hB.trans (hb.mono hB.size); clear hb; clear x1; have x1 := hX.c1))
  go_ret
  exact ⟨rfl, hB⟩

set_option maxRecDepth 100000 in
set_option maxHeartbeats 4000000 in
theorem formed_4a (D : OpD) (hK : D.K.length = 32) (A : Option Addr) (n c : Nat) (hlo : D.o.length = n) (bn : n ≤ 1000000) (B : Option Addr) (m d : Nat) (hln : D.n.length = m) (bm : m ≤ 1000000) (w : World) (rA : Rd w A (D.o.map strV)) (rB : Rd w B (D.n.map strV)) (hk : D.k = 4) (hp : pathR D.p = false) :
    Calls Try.prog 39 #[.agg (opC D A n c B m d)] w fun o w' => o = .returned (.bool false) ∧ Below w.heap.size w w' := by
  have hB : Below w.heap.size w (w.alloc (.cells (opC D A n c B m d) 40)) := (Below.refl _ w).alloc (Nat.le_refl _) _
  have hX := OpX.new w D A n c B m d
  have hIO : (Try.prog.info? 40).map (·.size) = some (opC D A n c B m d).size := by rw [opC_size _ _ _ _ _ _ _ hK]; exact infoOp
  have cH : ∀ W, Calls Try.prog 55 #[.int .i64 4] W fun o w' => o = .returned (.agg #[.bool true, .bool false, .bool false, .bool false, .bool false, .bool false]) ∧ Below W.heap.size W w' := fun W => has_any 4 W
  have cPol : ∀ W, Calls Try.prog 21 #[.agg (opC D A n c B m d)] W fun o w' => o = .returned (.bool false) ∧ Below W.heap.size W w' := fun W => by have z := policy_any D A n c B m d W; rwa [decide_eq_false (by omega)] at z
  have cP : ∀ W, Calls Try.prog 57 #[.string (txt D.p)] W fun o w' => o = .returned (.bool false) ∧ Below W.heap.size W w' := fun W => by have z := path_any D.p W; rwa [hp] at z
  have x0 := hX.c0
  rw [hk] at x0
  have x1 := hX.c1
  have x2 := hX.c2
  go_enter Try.func39, Try.ntmps39
  go_wp2_with (first
    | (with_reducible refine wpList_load_opx (by with_unfolding_all rfl) _ rfl _ rfl hX hK ?_)
    | (go_at_call 21; (with_reducible refine (cPol _).mono ?_); rintro o1 w1 ⟨rfl, hb⟩; replace hX := hX.below hb; replace hB := hB.trans (hb.mono hB.size); clear hb; clear x0 x1 x2; have x0 := hX.c0; rw [hk] at x0; have x1 := hX.c1; have x2 := hX.c2)
    | (go_at_call 55; (with_reducible refine (cH _).mono ?_); rintro o1 w1 ⟨rfl, hb⟩; replace hX := (hX.below hb).alloc (.cells #[.bool true, .bool false, .bool false, .bool false, .bool false, .bool false] 92); replace hB := (hB.trans (hb.mono hB.size)).alloc (hB.trans (hb.mono hB.size)).size (.cells #[.bool true, .bool false, .bool false, .bool false, .bool false, .bool false] 92); clear hb; clear x0 x1 x2; have x0 := hX.c0; rw [hk] at x0; have x1 := hX.c1; have x2 := hX.c2)
    | (go_at_call 57; (first | (with_reducible refine (cP _).mono ?_) | (with_reducible refine (cT _).mono ?_)); rintro o1 w1 ⟨rfl, hb⟩; replace hX := hX.below hb; replace hB := hB.trans (hb.mono hB.size); clear hb; clear x0 x1 x2; have x0 := hX.c0; rw [hk] at x0; have x1 := hX.c1; have x2 := hX.c2))
  go_ret
  exact ⟨rfl, hB⟩

set_option maxRecDepth 100000 in
set_option maxHeartbeats 4000000 in
theorem formed_4b (D : OpD) (hK : D.K.length = 32) (A : Option Addr) (n c : Nat) (hlo : D.o.length = n) (bn : n ≤ 1000000) (B : Option Addr) (m d : Nat) (hln : D.n.length = m) (bm : m ≤ 1000000) (w : World) (rA : Rd w A (D.o.map strV)) (rB : Rd w B (D.n.map strV)) (hk : D.k = 4) (hp : pathR D.p = true) (ht : pathR D.t = false) :
    Calls Try.prog 39 #[.agg (opC D A n c B m d)] w fun o w' => o = .returned (.bool false) ∧ Below w.heap.size w w' := by
  have hB : Below w.heap.size w (w.alloc (.cells (opC D A n c B m d) 40)) := (Below.refl _ w).alloc (Nat.le_refl _) _
  have hX := OpX.new w D A n c B m d
  have hIO : (Try.prog.info? 40).map (·.size) = some (opC D A n c B m d).size := by rw [opC_size _ _ _ _ _ _ _ hK]; exact infoOp
  have cH : ∀ W, Calls Try.prog 55 #[.int .i64 4] W fun o w' => o = .returned (.agg #[.bool true, .bool false, .bool false, .bool false, .bool false, .bool false]) ∧ Below W.heap.size W w' := fun W => has_any 4 W
  have cPol : ∀ W, Calls Try.prog 21 #[.agg (opC D A n c B m d)] W fun o w' => o = .returned (.bool false) ∧ Below W.heap.size W w' := fun W => by have z := policy_any D A n c B m d W; rwa [decide_eq_false (by omega)] at z
  have cP : ∀ W, Calls Try.prog 57 #[.string (txt D.p)] W fun o w' => o = .returned (.bool true) ∧ Below W.heap.size W w' := fun W => by have z := path_any D.p W; rwa [hp] at z
  have cT : ∀ W, Calls Try.prog 57 #[.string (txt D.t)] W fun o w' => o = .returned (.bool false) ∧ Below W.heap.size W w' := fun W => by have z := path_any D.t W; rwa [ht] at z
  have x0 := hX.c0
  rw [hk] at x0
  have x1 := hX.c1
  have x2 := hX.c2
  go_enter Try.func39, Try.ntmps39
  go_wp2_with (first
    | (with_reducible refine wpList_load_opx (by with_unfolding_all rfl) _ rfl _ rfl hX hK ?_)
    | (go_at_call 21; (with_reducible refine (cPol _).mono ?_); rintro o1 w1 ⟨rfl, hb⟩; replace hX := hX.below hb; replace hB := hB.trans (hb.mono hB.size); clear hb; clear x0 x1 x2; have x0 := hX.c0; rw [hk] at x0; have x1 := hX.c1; have x2 := hX.c2)
    | (go_at_call 55; (with_reducible refine (cH _).mono ?_); rintro o1 w1 ⟨rfl, hb⟩; replace hX := (hX.below hb).alloc (.cells #[.bool true, .bool false, .bool false, .bool false, .bool false, .bool false] 92); replace hB := (hB.trans (hb.mono hB.size)).alloc (hB.trans (hb.mono hB.size)).size (.cells #[.bool true, .bool false, .bool false, .bool false, .bool false, .bool false] 92); clear hb; clear x0 x1 x2; have x0 := hX.c0; rw [hk] at x0; have x1 := hX.c1; have x2 := hX.c2)
    | (go_at_call 57; (first | (with_reducible refine (cP _).mono ?_) | (with_reducible refine (cT _).mono ?_)); rintro o1 w1 ⟨rfl, hb⟩; replace hX := hX.below hb; replace hB := hB.trans (hb.mono hB.size); clear hb; clear x0 x1 x2; have x0 := hX.c0; rw [hk] at x0; have x1 := hX.c1; have x2 := hX.c2))
  go_ret
  exact ⟨rfl, hB⟩

set_option maxRecDepth 100000 in
set_option maxHeartbeats 4000000 in
theorem formed_4c (D : OpD) (hK : D.K.length = 32) (A : Option Addr) (n c : Nat) (hlo : D.o.length = n) (bn : n ≤ 1000000) (B : Option Addr) (m d : Nat) (hln : D.n.length = m) (bm : m ≤ 1000000) (w : World) (rA : Rd w A (D.o.map strV)) (rB : Rd w B (D.n.map strV)) (hk : D.k = 4) (hp : pathR D.p = true) (ht : pathR D.t = true) (hn : D.t = D.p) :
    Calls Try.prog 39 #[.agg (opC D A n c B m d)] w fun o w' => o = .returned (.bool false) ∧ Below w.heap.size w w' := by
  have hB : Below w.heap.size w (w.alloc (.cells (opC D A n c B m d) 40)) := (Below.refl _ w).alloc (Nat.le_refl _) _
  have hX := OpX.new w D A n c B m d
  have hIO : (Try.prog.info? 40).map (·.size) = some (opC D A n c B m d).size := by rw [opC_size _ _ _ _ _ _ _ hK]; exact infoOp
  have cH : ∀ W, Calls Try.prog 55 #[.int .i64 4] W fun o w' => o = .returned (.agg #[.bool true, .bool false, .bool false, .bool false, .bool false, .bool false]) ∧ Below W.heap.size W w' := fun W => has_any 4 W
  have cPol : ∀ W, Calls Try.prog 21 #[.agg (opC D A n c B m d)] W fun o w' => o = .returned (.bool false) ∧ Below W.heap.size W w' := fun W => by have z := policy_any D A n c B m d W; rwa [decide_eq_false (by omega)] at z
  have cP : ∀ W, Calls Try.prog 57 #[.string (txt D.p)] W fun o w' => o = .returned (.bool true) ∧ Below W.heap.size W w' := fun W => by have z := path_any D.p W; rwa [hp] at z
  have cT : ∀ W, Calls Try.prog 57 #[.string (txt D.t)] W fun o w' => o = .returned (.bool true) ∧ Below W.heap.size W w' := fun W => by have z := path_any D.t W; rwa [ht] at z
  have e1 : (D.t == D.p) = true := by simpa using hn
  have e2 : (D.t != D.p) = false := by simpa using hn
  have x0 := hX.c0
  rw [hk] at x0
  have x1 := hX.c1
  have x2 := hX.c2
  go_enter Try.func39, Try.ntmps39
  go_wp2_with (first
    | (with_reducible refine wpList_load_opx (by with_unfolding_all rfl) _ rfl _ rfl hX hK ?_)
    | (go_at_call 21; (with_reducible refine (cPol _).mono ?_); rintro o1 w1 ⟨rfl, hb⟩; replace hX := hX.below hb; replace hB := hB.trans (hb.mono hB.size); clear hb; clear x0 x1 x2; have x0 := hX.c0; rw [hk] at x0; have x1 := hX.c1; have x2 := hX.c2)
    | (go_at_call 55; (with_reducible refine (cH _).mono ?_); rintro o1 w1 ⟨rfl, hb⟩; replace hX := (hX.below hb).alloc (.cells #[.bool true, .bool false, .bool false, .bool false, .bool false, .bool false] 92); replace hB := (hB.trans (hb.mono hB.size)).alloc (hB.trans (hb.mono hB.size)).size (.cells #[.bool true, .bool false, .bool false, .bool false, .bool false, .bool false] 92); clear hb; clear x0 x1 x2; have x0 := hX.c0; rw [hk] at x0; have x1 := hX.c1; have x2 := hX.c2)
    | (go_at_call 57; (first | (with_reducible refine (cP _).mono ?_) | (with_reducible refine (cT _).mono ?_)); rintro o1 w1 ⟨rfl, hb⟩; replace hX := hX.below hb; replace hB := hB.trans (hb.mono hB.size); clear hb; clear x0 x1 x2; have x0 := hX.c0; rw [hk] at x0; have x1 := hX.c1; have x2 := hX.c2))
  go_ret
  exact ⟨rfl, hB⟩

set_option maxRecDepth 100000 in
set_option maxHeartbeats 4000000 in
theorem formed_4d (D : OpD) (hK : D.K.length = 32) (A : Option Addr) (n c : Nat) (hlo : D.o.length = n) (bn : n ≤ 1000000) (B : Option Addr) (m d : Nat) (hln : D.n.length = m) (bm : m ≤ 1000000) (w : World) (rA : Rd w A (D.o.map strV)) (rB : Rd w B (D.n.map strV)) (hk : D.k = 4) (hp : pathR D.p = true) (ht : pathR D.t = true) (hn : ¬ D.t = D.p) :
    Calls Try.prog 39 #[.agg (opC D A n c B m d)] w fun o w' => o = .returned (.bool true) ∧ Below w.heap.size w w' := by
  have hB : Below w.heap.size w (w.alloc (.cells (opC D A n c B m d) 40)) := (Below.refl _ w).alloc (Nat.le_refl _) _
  have hX := OpX.new w D A n c B m d
  have hIO : (Try.prog.info? 40).map (·.size) = some (opC D A n c B m d).size := by rw [opC_size _ _ _ _ _ _ _ hK]; exact infoOp
  have cH : ∀ W, Calls Try.prog 55 #[.int .i64 4] W fun o w' => o = .returned (.agg #[.bool true, .bool false, .bool false, .bool false, .bool false, .bool false]) ∧ Below W.heap.size W w' := fun W => has_any 4 W
  have cPol : ∀ W, Calls Try.prog 21 #[.agg (opC D A n c B m d)] W fun o w' => o = .returned (.bool false) ∧ Below W.heap.size W w' := fun W => by have z := policy_any D A n c B m d W; rwa [decide_eq_false (by omega)] at z
  have cP : ∀ W, Calls Try.prog 57 #[.string (txt D.p)] W fun o w' => o = .returned (.bool true) ∧ Below W.heap.size W w' := fun W => by have z := path_any D.p W; rwa [hp] at z
  have cT : ∀ W, Calls Try.prog 57 #[.string (txt D.t)] W fun o w' => o = .returned (.bool true) ∧ Below W.heap.size W w' := fun W => by have z := path_any D.t W; rwa [ht] at z
  have e1 : (D.t == D.p) = false := by simpa using hn
  have e2 : (D.t != D.p) = true := by simpa using hn
  have x0 := hX.c0
  rw [hk] at x0
  have x1 := hX.c1
  have x2 := hX.c2
  go_enter Try.func39, Try.ntmps39
  go_wp2_with (first
    | (with_reducible refine wpList_load_opx (by with_unfolding_all rfl) _ rfl _ rfl hX hK ?_)
    | (go_at_call 21; (with_reducible refine (cPol _).mono ?_); rintro o1 w1 ⟨rfl, hb⟩; replace hX := hX.below hb; replace hB := hB.trans (hb.mono hB.size); clear hb; clear x0 x1 x2; have x0 := hX.c0; rw [hk] at x0; have x1 := hX.c1; have x2 := hX.c2)
    | (go_at_call 55; (with_reducible refine (cH _).mono ?_); rintro o1 w1 ⟨rfl, hb⟩; replace hX := (hX.below hb).alloc (.cells #[.bool true, .bool false, .bool false, .bool false, .bool false, .bool false] 92); replace hB := (hB.trans (hb.mono hB.size)).alloc (hB.trans (hb.mono hB.size)).size (.cells #[.bool true, .bool false, .bool false, .bool false, .bool false, .bool false] 92); clear hb; clear x0 x1 x2; have x0 := hX.c0; rw [hk] at x0; have x1 := hX.c1; have x2 := hX.c2)
    | (go_at_call 57; (first | (with_reducible refine (cP _).mono ?_) | (with_reducible refine (cT _).mono ?_)); rintro o1 w1 ⟨rfl, hb⟩; replace hX := hX.below hb; replace hB := hB.trans (hb.mono hB.size); clear hb; clear x0 x1 x2; have x0 := hX.c0; rw [hk] at x0; have x1 := hX.c1; have x2 := hX.c2))
  go_ret
  exact ⟨rfl, hB⟩

set_option maxRecDepth 100000 in
set_option maxHeartbeats 4000000 in
theorem formed_3a (D : OpD) (hK : D.K.length = 32) (A : Option Addr) (n c : Nat) (hlo : D.o.length = n) (bn : n ≤ 1000000) (B : Option Addr) (m d : Nat) (hln : D.n.length = m) (bm : m ≤ 1000000) (w : World) (rA : Rd w A (D.o.map strV)) (rB : Rd w B (D.n.map strV)) (hk : D.k = 3) (hp : pathR D.p = false) :
    Calls Try.prog 39 #[.agg (opC D A n c B m d)] w fun o w' => o = .returned (.bool false) ∧ Below w.heap.size w w' := by
  have hB : Below w.heap.size w (w.alloc (.cells (opC D A n c B m d) 40)) := (Below.refl _ w).alloc (Nat.le_refl _) _
  have hX := OpX.new w D A n c B m d
  have hIO : (Try.prog.info? 40).map (·.size) = some (opC D A n c B m d).size := by rw [opC_size _ _ _ _ _ _ _ hK]; exact infoOp
  have cH : ∀ W, Calls Try.prog 55 #[.int .i64 3] W fun o w' => o = .returned (.agg #[.bool false, .bool true, .bool true, .bool true, .bool false, .bool false]) ∧ Below W.heap.size W w' := fun W => has_any 3 W
  have cPol : ∀ W, Calls Try.prog 21 #[.agg (opC D A n c B m d)] W fun o w' => o = .returned (.bool false) ∧ Below W.heap.size W w' := fun W => by have z := policy_any D A n c B m d W; rwa [decide_eq_false (by omega)] at z
  have cP : ∀ W, Calls Try.prog 57 #[.string (txt D.p)] W fun o w' => o = .returned (.bool false) ∧ Below W.heap.size W w' := fun W => by have z := path_any D.p W; rwa [hp] at z
  have x0 := hX.c0
  rw [hk] at x0
  have x1 := hX.c1
  go_enter Try.func39, Try.ntmps39
  go_wp2_with (first
    | (with_reducible refine wpList_load_opx (by with_unfolding_all rfl) _ rfl _ rfl hX hK ?_)
    | (go_at_call 21; (with_reducible refine (cPol _).mono ?_); rintro o1 w1 ⟨rfl, hb⟩; replace hX := hX.below hb; replace hB := hB.trans (hb.mono hB.size); clear hb; clear x0 x1; have x0 := hX.c0; rw [hk] at x0; have x1 := hX.c1)
    | (go_at_call 55; (with_reducible refine (cH _).mono ?_); rintro o1 w1 ⟨rfl, hb⟩; replace hX := (hX.below hb).alloc (.cells #[.bool false, .bool true, .bool true, .bool true, .bool false, .bool false] 92); replace hB := (hB.trans (hb.mono hB.size)).alloc (hB.trans (hb.mono hB.size)).size (.cells #[.bool false, .bool true, .bool true, .bool true, .bool false, .bool false] 92); clear hb; clear x0 x1; have x0 := hX.c0; rw [hk] at x0; have x1 := hX.c1)
    | (go_at_call 57; (with_reducible refine (cP _).mono ?_); rintro o1 w1 ⟨rfl, hb⟩; replace hX := hX.below hb; replace hB := hB.trans (hb.mono hB.size); clear hb; clear x0 x1; have x0 := hX.c0; rw [hk] at x0; have x1 := hX.c1)
    | (go_at_call 45; (with_reducible refine (change_any D A n c B m d _).mono ?_); rintro o1 w1 ⟨rfl, hb⟩; replace hX := hX.below hb; replace hB := hB.trans (hb.mono hB.size); clear hb; clear x0 x1; have x0 := hX.c0; rw [hk] at x0; have x1 := hX.c1)
    | (go_at_call 58; (with_reducible refine (cHR _ hB).mono ?_); rintro o1 w1 ⟨rfl, hb⟩; replace hX := hX.below hb; replace hB := hB.trans (hb.mono hB.size); clear hb; clear x0 x1; have x0 := hX.c0; rw [hk] at x0; have x1 := hX.c1))
  go_ret
  exact ⟨rfl, hB⟩

set_option maxRecDepth 100000 in
set_option maxHeartbeats 4000000 in
theorem formed_3b (D : OpD) (hK : D.K.length = 32) (A : Option Addr) (n c : Nat) (hlo : D.o.length = n) (bn : n ≤ 1000000) (B : Option Addr) (m d : Nat) (hln : D.n.length = m) (bm : m ≤ 1000000) (w : World) (rA : Rd w A (D.o.map strV)) (rB : Rd w B (D.n.map strV)) (hk : D.k = 3) (hp : pathR D.p = true) :
    Calls Try.prog 39 #[.agg (opC D A n c B m d)] w fun o w' => o = .returned (.bool (hunkR D.a D.o D.n)) ∧ Below w.heap.size w w' := by
  have hB : Below w.heap.size w (w.alloc (.cells (opC D A n c B m d) 40)) := (Below.refl _ w).alloc (Nat.le_refl _) _
  have hX := OpX.new w D A n c B m d
  have hIO : (Try.prog.info? 40).map (·.size) = some (opC D A n c B m d).size := by rw [opC_size _ _ _ _ _ _ _ hK]; exact infoOp
  have cH : ∀ W, Calls Try.prog 55 #[.int .i64 3] W fun o w' => o = .returned (.agg #[.bool false, .bool true, .bool true, .bool true, .bool false, .bool false]) ∧ Below W.heap.size W w' := fun W => has_any 3 W
  have cPol : ∀ W, Calls Try.prog 21 #[.agg (opC D A n c B m d)] W fun o w' => o = .returned (.bool false) ∧ Below W.heap.size W w' := fun W => by have z := policy_any D A n c B m d W; rwa [decide_eq_false (by omega)] at z
  have cP : ∀ W, Calls Try.prog 57 #[.string (txt D.p)] W fun o w' => o = .returned (.bool true) ∧ Below W.heap.size W w' := fun W => by have z := path_any D.p W; rwa [hp] at z
  have cHR : ∀ W, Below w.heap.size w W → Calls Try.prog 58 #[.agg #[.int .i64 D.a, .slice A n c, .slice B m d]] W fun o w' => o = .returned (.bool (hunkR D.a D.o D.n)) ∧ Below W.heap.size W w' := fun W h => hright_any D.a A n c D.o hlo bn B m d D.n hln bm W (rA.below h) (rB.below h)
  have x0 := hX.c0
  rw [hk] at x0
  have x1 := hX.c1
  go_enter Try.func39, Try.ntmps39
  go_wp2_with (first
    | (with_reducible refine wpList_load_opx (by with_unfolding_all rfl) _ rfl _ rfl hX hK ?_)
    | (go_at_call 21; (with_reducible refine (cPol _).mono ?_); rintro o1 w1 ⟨rfl, hb⟩; replace hX := hX.below hb; replace hB := hB.trans (hb.mono hB.size); clear hb; clear x0 x1; have x0 := hX.c0; rw [hk] at x0; have x1 := hX.c1)
    | (go_at_call 55; (with_reducible refine (cH _).mono ?_); rintro o1 w1 ⟨rfl, hb⟩; replace hX := (hX.below hb).alloc (.cells #[.bool false, .bool true, .bool true, .bool true, .bool false, .bool false] 92); replace hB := (hB.trans (hb.mono hB.size)).alloc (hB.trans (hb.mono hB.size)).size (.cells #[.bool false, .bool true, .bool true, .bool true, .bool false, .bool false] 92); clear hb; clear x0 x1; have x0 := hX.c0; rw [hk] at x0; have x1 := hX.c1)
    | (go_at_call 57; (with_reducible refine (cP _).mono ?_); rintro o1 w1 ⟨rfl, hb⟩; replace hX := hX.below hb; replace hB := hB.trans (hb.mono hB.size); clear hb; clear x0 x1; have x0 := hX.c0; rw [hk] at x0; have x1 := hX.c1)
    | (go_at_call 45; (with_reducible refine (change_any D A n c B m d _).mono ?_); rintro o1 w1 ⟨rfl, hb⟩; replace hX := hX.below hb; replace hB := hB.trans (hb.mono hB.size); clear hb; clear x0 x1; have x0 := hX.c0; rw [hk] at x0; have x1 := hX.c1)
    | (go_at_call 58; (with_reducible refine (cHR _ hB).mono ?_); rintro o1 w1 ⟨rfl, hb⟩; replace hX := hX.below hb; replace hB := hB.trans (hb.mono hB.size); clear hb; clear x0 x1; have x0 := hX.c0; rw [hk] at x0; have x1 := hX.c1))
  go_ret
  exact ⟨rfl, hB⟩

set_option maxRecDepth 100000 in
set_option maxHeartbeats 4000000 in
theorem formed_1a (D : OpD) (hK : D.K.length = 32) (A : Option Addr) (n c : Nat) (hlo : D.o.length = n) (bn : n ≤ 1000000) (B : Option Addr) (m d : Nat) (hln : D.n.length = m) (bm : m ≤ 1000000) (w : World) (rA : Rd w A (D.o.map strV)) (rB : Rd w B (D.n.map strV)) (hk : D.k = 1) (hp : pathR D.p = false) :
    Calls Try.prog 39 #[.agg (opC D A n c B m d)] w fun o w' => o = .returned (.bool false) ∧ Below w.heap.size w w' := by
  have hB : Below w.heap.size w (w.alloc (.cells (opC D A n c B m d) 40)) := (Below.refl _ w).alloc (Nat.le_refl _) _
  have hX := OpX.new w D A n c B m d
  have hIO : (Try.prog.info? 40).map (·.size) = some (opC D A n c B m d).size := by rw [opC_size _ _ _ _ _ _ _ hK]; exact infoOp
  have cH : ∀ W, Calls Try.prog 55 #[.int .i64 1] W fun o w' => o = .returned (.agg #[.bool false, .bool false, .bool false, .bool false, .bool false, .bool false]) ∧ Below W.heap.size W w' := fun W => has_any 1 W
  have cPol : ∀ W, Calls Try.prog 21 #[.agg (opC D A n c B m d)] W fun o w' => o = .returned (.bool false) ∧ Below W.heap.size W w' := fun W => by have z := policy_any D A n c B m d W; rwa [decide_eq_false (by omega)] at z
  have cP : ∀ W, Calls Try.prog 57 #[.string (txt D.p)] W fun o w' => o = .returned (.bool false) ∧ Below W.heap.size W w' := fun W => by have z := path_any D.p W; rwa [hp] at z
  have x0 := hX.c0
  rw [hk] at x0
  have x1 := hX.c1
  have x4 := hX.c4
  go_enter Try.func39, Try.ntmps39
  go_wp2_with (first
    | (with_reducible refine wpList_load_opx (by with_unfolding_all rfl) _ rfl _ rfl hX hK ?_)
    | (go_at_call 21; (with_reducible refine (cPol _).mono ?_); rintro o1 w1 ⟨rfl, hb⟩; replace hX := hX.below hb; replace hB := hB.trans (hb.mono hB.size); clear hb; clear x0 x1 x4; have x0 := hX.c0; rw [hk] at x0; have x1 := hX.c1; have x4 := hX.c4)
    | (go_at_call 55; (with_reducible refine (cH _).mono ?_); rintro o1 w1 ⟨rfl, hb⟩; replace hX := (hX.below hb).alloc (.cells #[.bool false, .bool false, .bool false, .bool false, .bool false, .bool false] 92); replace hB := (hB.trans (hb.mono hB.size)).alloc (hB.trans (hb.mono hB.size)).size (.cells #[.bool false, .bool false, .bool false, .bool false, .bool false, .bool false] 92); clear hb; clear x0 x1 x4; have x0 := hX.c0; rw [hk] at x0; have x1 := hX.c1; have x4 := hX.c4)
    | (go_at_call 57; (with_reducible refine (cP _).mono ?_); rintro o1 w1 ⟨rfl, hb⟩; replace hX := hX.below hb; replace hB := hB.trans (hb.mono hB.size); clear hb; clear x0 x1 x4; have x0 := hX.c0; rw [hk] at x0; have x1 := hX.c1; have x4 := hX.c4)
    | (go_at_call 59; (with_reducible refine (cL _ hB).mono ?_); rintro o1 w1 ⟨rfl, hb⟩; replace hX := hX.below hb; replace hB := hB.trans (hb.mono hB.size); clear hb; clear x0 x1 x4; have x0 := hX.c0; rw [hk] at x0; have x1 := hX.c1; have x4 := hX.c4))
  go_ret
  exact ⟨rfl, hB⟩

set_option maxRecDepth 100000 in
set_option maxHeartbeats 4000000 in
theorem formed_1b (D : OpD) (hK : D.K.length = 32) (A : Option Addr) (n c : Nat) (hlo : D.o.length = n) (bn : n ≤ 1000000) (B : Option Addr) (m d : Nat) (hln : D.n.length = m) (bm : m ≤ 1000000) (w : World) (rA : Rd w A (D.o.map strV)) (rB : Rd w B (D.n.map strV)) (hk : D.k = 1) (hp : pathR D.p = true) :
    Calls Try.prog 39 #[.agg (opC D A n c B m d)] w fun o w' => o = .returned (.bool (linesR D.o)) ∧ Below w.heap.size w w' := by
  have hB : Below w.heap.size w (w.alloc (.cells (opC D A n c B m d) 40)) := (Below.refl _ w).alloc (Nat.le_refl _) _
  have hX := OpX.new w D A n c B m d
  have hIO : (Try.prog.info? 40).map (·.size) = some (opC D A n c B m d).size := by rw [opC_size _ _ _ _ _ _ _ hK]; exact infoOp
  have cH : ∀ W, Calls Try.prog 55 #[.int .i64 1] W fun o w' => o = .returned (.agg #[.bool false, .bool false, .bool false, .bool false, .bool false, .bool false]) ∧ Below W.heap.size W w' := fun W => has_any 1 W
  have cPol : ∀ W, Calls Try.prog 21 #[.agg (opC D A n c B m d)] W fun o w' => o = .returned (.bool false) ∧ Below W.heap.size W w' := fun W => by have z := policy_any D A n c B m d W; rwa [decide_eq_false (by omega)] at z
  have cP : ∀ W, Calls Try.prog 57 #[.string (txt D.p)] W fun o w' => o = .returned (.bool true) ∧ Below W.heap.size W w' := fun W => by have z := path_any D.p W; rwa [hp] at z
  have cL : ∀ W, Below w.heap.size w W → Calls Try.prog 59 #[.slice A n c] W fun o w' => o = .returned (.bool (linesR D.o)) ∧ Below W.heap.size W w' := fun W h => (lines_any A n c D.o hlo (by omega) W (rA.below h)).mono (by rintro o w' ⟨h1, rfl⟩; exact ⟨h1, Below.refl _ _⟩)
  have x0 := hX.c0
  rw [hk] at x0
  have x1 := hX.c1
  have x4 := hX.c4
  go_enter Try.func39, Try.ntmps39
  go_wp2_with (first
    | (with_reducible refine wpList_load_opx (by with_unfolding_all rfl) _ rfl _ rfl hX hK ?_)
    | (go_at_call 21; (with_reducible refine (cPol _).mono ?_); rintro o1 w1 ⟨rfl, hb⟩; replace hX := hX.below hb; replace hB := hB.trans (hb.mono hB.size); clear hb; clear x0 x1 x4; have x0 := hX.c0; rw [hk] at x0; have x1 := hX.c1; have x4 := hX.c4)
    | (go_at_call 55; (with_reducible refine (cH _).mono ?_); rintro o1 w1 ⟨rfl, hb⟩; replace hX := (hX.below hb).alloc (.cells #[.bool false, .bool false, .bool false, .bool false, .bool false, .bool false] 92); replace hB := (hB.trans (hb.mono hB.size)).alloc (hB.trans (hb.mono hB.size)).size (.cells #[.bool false, .bool false, .bool false, .bool false, .bool false, .bool false] 92); clear hb; clear x0 x1 x4; have x0 := hX.c0; rw [hk] at x0; have x1 := hX.c1; have x4 := hX.c4)
    | (go_at_call 57; (with_reducible refine (cP _).mono ?_); rintro o1 w1 ⟨rfl, hb⟩; replace hX := hX.below hb; replace hB := hB.trans (hb.mono hB.size); clear hb; clear x0 x1 x4; have x0 := hX.c0; rw [hk] at x0; have x1 := hX.c1; have x4 := hX.c4)
    | (go_at_call 59; (with_reducible refine (cL _ hB).mono ?_); rintro o1 w1 ⟨rfl, hb⟩; replace hX := hX.below hb; replace hB := hB.trans (hb.mono hB.size); clear hb; clear x0 x1 x4; have x0 := hX.c0; rw [hk] at x0; have x1 := hX.c1; have x4 := hX.c4))
  go_ret
  exact ⟨rfl, hB⟩

set_option maxRecDepth 100000 in
set_option maxHeartbeats 4000000 in
theorem formed_2a (D : OpD) (hK : D.K.length = 32) (A : Option Addr) (n c : Nat) (hlo : D.o.length = n) (bn : n ≤ 1000000) (B : Option Addr) (m d : Nat) (hln : D.n.length = m) (bm : m ≤ 1000000) (w : World) (rA : Rd w A (D.o.map strV)) (rB : Rd w B (D.n.map strV)) (hk : D.k = 2) (hp : pathR D.p = false) :
    Calls Try.prog 39 #[.agg (opC D A n c B m d)] w fun o w' => o = .returned (.bool false) ∧ Below w.heap.size w w' := by
  have hB : Below w.heap.size w (w.alloc (.cells (opC D A n c B m d) 40)) := (Below.refl _ w).alloc (Nat.le_refl _) _
  have hX := OpX.new w D A n c B m d
  have hIO : (Try.prog.info? 40).map (·.size) = some (opC D A n c B m d).size := by rw [opC_size _ _ _ _ _ _ _ hK]; exact infoOp
  have cH : ∀ W, Calls Try.prog 55 #[.int .i64 2] W fun o w' => o = .returned (.agg #[.bool false, .bool false, .bool true, .bool false, .bool false, .bool false]) ∧ Below W.heap.size W w' := fun W => has_any 2 W
  have cPol : ∀ W, Calls Try.prog 21 #[.agg (opC D A n c B m d)] W fun o w' => o = .returned (.bool false) ∧ Below W.heap.size W w' := fun W => by have z := policy_any D A n c B m d W; rwa [decide_eq_false (by omega)] at z
  have cP : ∀ W, Calls Try.prog 57 #[.string (txt D.p)] W fun o w' => o = .returned (.bool false) ∧ Below W.heap.size W w' := fun W => by have z := path_any D.p W; rwa [hp] at z
  have x0 := hX.c0
  rw [hk] at x0
  have x1 := hX.c1
  have x4 := hX.c4
  go_enter Try.func39, Try.ntmps39
  go_wp2_with (first
    | (with_reducible refine wpList_load_opx (by with_unfolding_all rfl) _ rfl _ rfl hX hK ?_)
    | (go_at_call 21; (with_reducible refine (cPol _).mono ?_); rintro o1 w1 ⟨rfl, hb⟩; replace hX := hX.below hb; replace hB := hB.trans (hb.mono hB.size); clear hb; clear x0 x1 x4; have x0 := hX.c0; rw [hk] at x0; have x1 := hX.c1; have x4 := hX.c4)
    | (go_at_call 55; (with_reducible refine (cH _).mono ?_); rintro o1 w1 ⟨rfl, hb⟩; replace hX := (hX.below hb).alloc (.cells #[.bool false, .bool false, .bool true, .bool false, .bool false, .bool false] 92); replace hB := (hB.trans (hb.mono hB.size)).alloc (hB.trans (hb.mono hB.size)).size (.cells #[.bool false, .bool false, .bool true, .bool false, .bool false, .bool false] 92); clear hb; clear x0 x1 x4; have x0 := hX.c0; rw [hk] at x0; have x1 := hX.c1; have x4 := hX.c4)
    | (go_at_call 57; (with_reducible refine (cP _).mono ?_); rintro o1 w1 ⟨rfl, hb⟩; replace hX := hX.below hb; replace hB := hB.trans (hb.mono hB.size); clear hb; clear x0 x1 x4; have x0 := hX.c0; rw [hk] at x0; have x1 := hX.c1; have x4 := hX.c4)
    | (go_at_call 59; (with_reducible refine (cL _ hB).mono ?_); rintro o1 w1 ⟨rfl, hb⟩; replace hX := hX.below hb; replace hB := hB.trans (hb.mono hB.size); clear hb; clear x0 x1 x4; have x0 := hX.c0; rw [hk] at x0; have x1 := hX.c1; have x4 := hX.c4))
  go_ret
  exact ⟨rfl, hB⟩

set_option maxRecDepth 100000 in
set_option maxHeartbeats 4000000 in
theorem formed_2b (D : OpD) (hK : D.K.length = 32) (A : Option Addr) (n c : Nat) (hlo : D.o.length = n) (bn : n ≤ 1000000) (B : Option Addr) (m d : Nat) (hln : D.n.length = m) (bm : m ≤ 1000000) (w : World) (rA : Rd w A (D.o.map strV)) (rB : Rd w B (D.n.map strV)) (hk : D.k = 2) (hp : pathR D.p = true) :
    Calls Try.prog 39 #[.agg (opC D A n c B m d)] w fun o w' => o = .returned (.bool (linesR D.o)) ∧ Below w.heap.size w w' := by
  have hB : Below w.heap.size w (w.alloc (.cells (opC D A n c B m d) 40)) := (Below.refl _ w).alloc (Nat.le_refl _) _
  have hX := OpX.new w D A n c B m d
  have hIO : (Try.prog.info? 40).map (·.size) = some (opC D A n c B m d).size := by rw [opC_size _ _ _ _ _ _ _ hK]; exact infoOp
  have cH : ∀ W, Calls Try.prog 55 #[.int .i64 2] W fun o w' => o = .returned (.agg #[.bool false, .bool false, .bool true, .bool false, .bool false, .bool false]) ∧ Below W.heap.size W w' := fun W => has_any 2 W
  have cPol : ∀ W, Calls Try.prog 21 #[.agg (opC D A n c B m d)] W fun o w' => o = .returned (.bool false) ∧ Below W.heap.size W w' := fun W => by have z := policy_any D A n c B m d W; rwa [decide_eq_false (by omega)] at z
  have cP : ∀ W, Calls Try.prog 57 #[.string (txt D.p)] W fun o w' => o = .returned (.bool true) ∧ Below W.heap.size W w' := fun W => by have z := path_any D.p W; rwa [hp] at z
  have cL : ∀ W, Below w.heap.size w W → Calls Try.prog 59 #[.slice A n c] W fun o w' => o = .returned (.bool (linesR D.o)) ∧ Below W.heap.size W w' := fun W h => (lines_any A n c D.o hlo (by omega) W (rA.below h)).mono (by rintro o w' ⟨h1, rfl⟩; exact ⟨h1, Below.refl _ _⟩)
  have x0 := hX.c0
  rw [hk] at x0
  have x1 := hX.c1
  have x4 := hX.c4
  go_enter Try.func39, Try.ntmps39
  go_wp2_with (first
    | (with_reducible refine wpList_load_opx (by with_unfolding_all rfl) _ rfl _ rfl hX hK ?_)
    | (go_at_call 21; (with_reducible refine (cPol _).mono ?_); rintro o1 w1 ⟨rfl, hb⟩; replace hX := hX.below hb; replace hB := hB.trans (hb.mono hB.size); clear hb; clear x0 x1 x4; have x0 := hX.c0; rw [hk] at x0; have x1 := hX.c1; have x4 := hX.c4)
    | (go_at_call 55; (with_reducible refine (cH _).mono ?_); rintro o1 w1 ⟨rfl, hb⟩; replace hX := (hX.below hb).alloc (.cells #[.bool false, .bool false, .bool true, .bool false, .bool false, .bool false] 92); replace hB := (hB.trans (hb.mono hB.size)).alloc (hB.trans (hb.mono hB.size)).size (.cells #[.bool false, .bool false, .bool true, .bool false, .bool false, .bool false] 92); clear hb; clear x0 x1 x4; have x0 := hX.c0; rw [hk] at x0; have x1 := hX.c1; have x4 := hX.c4)
    | (go_at_call 57; (with_reducible refine (cP _).mono ?_); rintro o1 w1 ⟨rfl, hb⟩; replace hX := hX.below hb; replace hB := hB.trans (hb.mono hB.size); clear hb; clear x0 x1 x4; have x0 := hX.c0; rw [hk] at x0; have x1 := hX.c1; have x4 := hX.c4)
    | (go_at_call 59; (with_reducible refine (cL _ hB).mono ?_); rintro o1 w1 ⟨rfl, hb⟩; replace hX := hX.below hb; replace hB := hB.trans (hb.mono hB.size); clear hb; clear x0 x1 x4; have x0 := hX.c0; rw [hk] at x0; have x1 := hX.c1; have x4 := hX.c4))
  go_ret
  exact ⟨rfl, hB⟩

theorem formed_any (D : OpD) (hK : D.K.length = 32) (A : Option Addr) (n c : Nat) (hlo : D.o.length = n) (bn : n ≤ 1000000) (B : Option Addr) (m d : Nat) (hln : D.n.length = m) (bm : m ≤ 1000000) (w : World) (rA : Rd w A (D.o.map strV)) (rB : Rd w B (D.n.map strV)) (h1 : 1 ≤ D.k) (h2 : D.k ≤ 6) :
    Calls Try.prog 39 #[.agg (opC D A n c B m d)] w fun o w' => o = .returned (.bool (formedR D)) ∧ Below w.heap.size w w' := by
  unfold formedR
  rcases kind_cases h1 h2 with hk | hk | hk | hk | hk | hk
  · rw [if_neg (by omega), if_neg (by omega), if_neg (by omega)]
    cases hp : pathR D.p with
    | false => exact formed_1a D hK A n c hlo bn B m d hln bm w rA rB hk hp
    | true => exact formed_1b D hK A n c hlo bn B m d hln bm w rA rB hk hp
  · rw [if_neg (by omega), if_neg (by omega), if_neg (by omega)]
    cases hp : pathR D.p with
    | false => exact formed_2a D hK A n c hlo bn B m d hln bm w rA rB hk hp
    | true => exact formed_2b D hK A n c hlo bn B m d hln bm w rA rB hk hp
  · rw [if_neg (by omega), if_neg (by omega), if_pos hk]
    cases hp : pathR D.p with
    | false => exact formed_3a D hK A n c hlo bn B m d hln bm w rA rB hk hp
    | true => exact formed_3b D hK A n c hlo bn B m d hln bm w rA rB hk hp
  · rw [if_neg (by omega), if_pos hk]
    cases hp : pathR D.p with
    | false => exact formed_4a D hK A n c hlo bn B m d hln bm w rA rB hk hp
    | true =>
      cases ht : pathR D.t with
      | false => exact formed_4b D hK A n c hlo bn B m d hln bm w rA rB hk hp ht
      | true =>
        by_cases hn : D.t = D.p
        · rw [decide_eq_false (by simpa using hn)]
          exact formed_4c D hK A n c hlo bn B m d hln bm w rA rB hk hp ht hn
        · rw [decide_eq_true (by simpa using hn)]
          exact formed_4d D hK A n c hlo bn B m d hln bm w rA rB hk hp ht hn
  · rw [if_pos (by omega)]
    exact formed_5 D hK A n c hlo bn B m d hln bm w rA rB hk
  · rw [if_pos (by omega)]
    exact formed_6 D hK A n c hlo bn B m d hln bm w rA rB hk

set_option maxRecDepth 100000 in
set_option maxHeartbeats 4000000 in
theorem oright_1 (D : OpD) (hK : D.K.length = 32) (A : Option Addr) (n c : Nat) (hlo : D.o.length = n) (bn : n ≤ 1000000) (B : Option Addr) (m d : Nat) (hln : D.n.length = m) (bm : m ≤ 1000000) (w : World) (rA : Rd w A (D.o.map strV)) (rB : Rd w B (D.n.map strV)) (h1 : ¬ (1 ≤ D.k ∧ D.k ≤ 6)) :
    Calls Try.prog 20 #[.agg (opC D A n c B m d)] w fun o w' => o = .returned (.int .i64 1) ∧ Below w.heap.size w w' := by
  have hB : Below w.heap.size w (w.alloc (.cells (opC D A n c B m d) 40)) := (Below.refl _ w).alloc (Nat.le_refl _) _
  have hX := OpX.new w D A n c B m d
  have hIO : (Try.prog.info? 40).map (·.size) = some (opC D A n c B m d).size := by rw [opC_size _ _ _ _ _ _ _ hK]; exact infoOp
  have cKn : ∀ W, Calls Try.prog 37 #[.int .i64 D.k] W fun o w' => o = .returned (.bool false) ∧ W = w' := fun W => by have z := oknown_any D.k W; rwa [decide_eq_false h1] at z
  have x0 := hX.c0
  go_enter Try.func20, Try.ntmps20
  go_wp2_with (first
    | (go_at_call 37; (with_reducible refine (cKn _).mono ?_); rintro o1 w1 ⟨rfl, rfl⟩))
  go_ret
  exact ⟨rfl, hB⟩

set_option maxRecDepth 100000 in
set_option maxHeartbeats 4000000 in
theorem oright_2 (D : OpD) (hK : D.K.length = 32) (A : Option Addr) (n c : Nat) (hlo : D.o.length = n) (bn : n ≤ 1000000) (B : Option Addr) (m d : Nat) (hln : D.n.length = m) (bm : m ≤ 1000000) (w : World) (rA : Rd w A (D.o.map strV)) (rB : Rd w B (D.n.map strV)) (h1 : 1 ≤ D.k) (h2 : D.k ≤ 6) (hb0 : bareR D = false) :
    Calls Try.prog 20 #[.agg (opC D A n c B m d)] w fun o w' => o = .returned (.int .i64 3) ∧ Below w.heap.size w w' := by
  have hB : Below w.heap.size w (w.alloc (.cells (opC D A n c B m d) 40)) := (Below.refl _ w).alloc (Nat.le_refl _) _
  have hX := OpX.new w D A n c B m d
  have hIO : (Try.prog.info? 40).map (·.size) = some (opC D A n c B m d).size := by rw [opC_size _ _ _ _ _ _ _ hK]; exact infoOp
  have cKn : ∀ W, Calls Try.prog 37 #[.int .i64 D.k] W fun o w' => o = .returned (.bool true) ∧ W = w' := fun W => by have z := oknown_any D.k W; rwa [decide_eq_true ⟨h1, h2⟩] at z
  have cBa : ∀ W, Calls Try.prog 38 #[.agg (opC D A n c B m d)] W fun o w' => o = .returned (.bool false) ∧ Below W.heap.size W w' := fun W => by have z := bare_any D hK A n c hlo B m d hln W h1 h2; rwa [hb0] at z
  have x0 := hX.c0
  go_enter Try.func20, Try.ntmps20
  go_wp2_with (first
    | (go_at_call 37; (with_reducible refine (cKn _).mono ?_); rintro o1 w1 ⟨rfl, rfl⟩)
    | (with_reducible refine wpList_load_opx (by with_unfolding_all rfl) _ rfl _ rfl hX hK ?_)
    | (go_at_call 38; (with_reducible refine (cBa _).mono ?_); rintro o1 w1 ⟨rfl, hb⟩; replace hX := hX.below hb; replace hB := hB.trans (hb.mono hB.size); clear hb; clear x0; have x0 := hX.c0))
  go_ret
  exact ⟨rfl, hB⟩

set_option maxRecDepth 100000 in
set_option maxHeartbeats 4000000 in
theorem oright_3 (D : OpD) (hK : D.K.length = 32) (A : Option Addr) (n c : Nat) (hlo : D.o.length = n) (bn : n ≤ 1000000) (B : Option Addr) (m d : Nat) (hln : D.n.length = m) (bm : m ≤ 1000000) (w : World) (rA : Rd w A (D.o.map strV)) (rB : Rd w B (D.n.map strV)) (h1 : 1 ≤ D.k) (h2 : D.k ≤ 6) (hb0 : bareR D = true) (hf0 : formedR D = false) :
    Calls Try.prog 20 #[.agg (opC D A n c B m d)] w fun o w' => o = .returned (.int .i64 3) ∧ Below w.heap.size w w' := by
  have hB : Below w.heap.size w (w.alloc (.cells (opC D A n c B m d) 40)) := (Below.refl _ w).alloc (Nat.le_refl _) _
  have hX := OpX.new w D A n c B m d
  have hIO : (Try.prog.info? 40).map (·.size) = some (opC D A n c B m d).size := by rw [opC_size _ _ _ _ _ _ _ hK]; exact infoOp
  have cKn : ∀ W, Calls Try.prog 37 #[.int .i64 D.k] W fun o w' => o = .returned (.bool true) ∧ W = w' := fun W => by have z := oknown_any D.k W; rwa [decide_eq_true ⟨h1, h2⟩] at z
  have cBa : ∀ W, Calls Try.prog 38 #[.agg (opC D A n c B m d)] W fun o w' => o = .returned (.bool true) ∧ Below W.heap.size W w' := fun W => by have z := bare_any D hK A n c hlo B m d hln W h1 h2; rwa [hb0] at z
  have cFo : ∀ W, Below w.heap.size w W → Calls Try.prog 39 #[.agg (opC D A n c B m d)] W fun o w' => o = .returned (.bool false) ∧ Below W.heap.size W w' := fun W h => by have z := formed_any D hK A n c hlo bn B m d hln bm W (rA.below h) (rB.below h) h1 h2; rwa [hf0] at z
  have x0 := hX.c0
  go_enter Try.func20, Try.ntmps20
  go_wp2_with (first
    | (go_at_call 37; (with_reducible refine (cKn _).mono ?_); rintro o1 w1 ⟨rfl, rfl⟩)
    | (with_reducible refine wpList_load_opx (by with_unfolding_all rfl) _ rfl _ rfl hX hK ?_)
    | (go_at_call 38; (with_reducible refine (cBa _).mono ?_); rintro o1 w1 ⟨rfl, hb⟩; replace hX := hX.below hb; replace hB := hB.trans (hb.mono hB.size); clear hb; clear x0; have x0 := hX.c0)
    | (go_at_call 39; (with_reducible refine (cFo _ hB).mono ?_); rintro o1 w1 ⟨rfl, hb⟩; replace hX := hX.below hb; replace hB := hB.trans (hb.mono hB.size); clear hb; clear x0; have x0 := hX.c0))
  go_ret
  exact ⟨rfl, hB⟩

set_option maxRecDepth 100000 in
set_option maxHeartbeats 4000000 in
theorem oright_4 (D : OpD) (hK : D.K.length = 32) (A : Option Addr) (n c : Nat) (hlo : D.o.length = n) (bn : n ≤ 1000000) (B : Option Addr) (m d : Nat) (hln : D.n.length = m) (bm : m ≤ 1000000) (w : World) (rA : Rd w A (D.o.map strV)) (rB : Rd w B (D.n.map strV)) (h1 : 1 ≤ D.k) (h2 : D.k ≤ 6) (hb0 : bareR D = true) (hf0 : formedR D = true) (hd : D.d < 0) :
    Calls Try.prog 20 #[.agg (opC D A n c B m d)] w fun o w' => o = .returned (.int .i64 5) ∧ Below w.heap.size w w' := by
  have hB : Below w.heap.size w (w.alloc (.cells (opC D A n c B m d) 40)) := (Below.refl _ w).alloc (Nat.le_refl _) _
  have hX := OpX.new w D A n c B m d
  have hIO : (Try.prog.info? 40).map (·.size) = some (opC D A n c B m d).size := by rw [opC_size _ _ _ _ _ _ _ hK]; exact infoOp
  have cKn : ∀ W, Calls Try.prog 37 #[.int .i64 D.k] W fun o w' => o = .returned (.bool true) ∧ W = w' := fun W => by have z := oknown_any D.k W; rwa [decide_eq_true ⟨h1, h2⟩] at z
  have cBa : ∀ W, Calls Try.prog 38 #[.agg (opC D A n c B m d)] W fun o w' => o = .returned (.bool true) ∧ Below W.heap.size W w' := fun W => by have z := bare_any D hK A n c hlo B m d hln W h1 h2; rwa [hb0] at z
  have cFo : ∀ W, Below w.heap.size w W → Calls Try.prog 39 #[.agg (opC D A n c B m d)] W fun o w' => o = .returned (.bool true) ∧ Below W.heap.size W w' := fun W h => by have z := formed_any D hK A n c hlo bn B m d hln bm W (rA.below h) (rB.below h) h1 h2; rwa [hf0] at z
  have x0 := hX.c0
  have x38 := hX.c38 hK
  go_enter Try.func20, Try.ntmps20
  go_wp2_with (first
    | (go_at_call 37; (with_reducible refine (cKn _).mono ?_); rintro o1 w1 ⟨rfl, rfl⟩)
    | (with_reducible refine wpList_load_opx (by with_unfolding_all rfl) _ rfl _ rfl hX hK ?_)
    | (go_at_call 38; (with_reducible refine (cBa _).mono ?_); rintro o1 w1 ⟨rfl, hb⟩; replace hX := hX.below hb; replace hB := hB.trans (hb.mono hB.size); clear hb; clear x0 x38; have x0 := hX.c0; have x38 := hX.c38 hK)
    | (go_at_call 39; (with_reducible refine (cFo _ hB).mono ?_); rintro o1 w1 ⟨rfl, hb⟩; replace hX := hX.below hb; replace hB := hB.trans (hb.mono hB.size); clear hb; clear x0 x38; have x0 := hX.c0; have x38 := hX.c38 hK))
  go_ret
  exact ⟨rfl, hB⟩

set_option maxRecDepth 100000 in
set_option maxHeartbeats 4000000 in
theorem oright_5 (D : OpD) (hK : D.K.length = 32) (A : Option Addr) (n c : Nat) (hlo : D.o.length = n) (bn : n ≤ 1000000) (B : Option Addr) (m d : Nat) (hln : D.n.length = m) (bm : m ≤ 1000000) (w : World) (rA : Rd w A (D.o.map strV)) (rB : Rd w B (D.n.map strV)) (h1 : 1 ≤ D.k) (h2 : D.k ≤ 6) (hb0 : bareR D = true) (hf0 : formedR D = true) (hd : ¬ D.d < 0) (he : 8 < D.d) :
    Calls Try.prog 20 #[.agg (opC D A n c B m d)] w fun o w' => o = .returned (.int .i64 5) ∧ Below w.heap.size w w' := by
  have hB : Below w.heap.size w (w.alloc (.cells (opC D A n c B m d) 40)) := (Below.refl _ w).alloc (Nat.le_refl _) _
  have hX := OpX.new w D A n c B m d
  have hIO : (Try.prog.info? 40).map (·.size) = some (opC D A n c B m d).size := by rw [opC_size _ _ _ _ _ _ _ hK]; exact infoOp
  have cKn : ∀ W, Calls Try.prog 37 #[.int .i64 D.k] W fun o w' => o = .returned (.bool true) ∧ W = w' := fun W => by have z := oknown_any D.k W; rwa [decide_eq_true ⟨h1, h2⟩] at z
  have cBa : ∀ W, Calls Try.prog 38 #[.agg (opC D A n c B m d)] W fun o w' => o = .returned (.bool true) ∧ Below W.heap.size W w' := fun W => by have z := bare_any D hK A n c hlo B m d hln W h1 h2; rwa [hb0] at z
  have cFo : ∀ W, Below w.heap.size w W → Calls Try.prog 39 #[.agg (opC D A n c B m d)] W fun o w' => o = .returned (.bool true) ∧ Below W.heap.size W w' := fun W h => by have z := formed_any D hK A n c hlo bn B m d hln bm W (rA.below h) (rB.below h) h1 h2; rwa [hf0] at z
  have x0 := hX.c0
  have x38 := hX.c38 hK
  go_enter Try.func20, Try.ntmps20
  go_wp2_with (first
    | (go_at_call 37; (with_reducible refine (cKn _).mono ?_); rintro o1 w1 ⟨rfl, rfl⟩)
    | (with_reducible refine wpList_load_opx (by with_unfolding_all rfl) _ rfl _ rfl hX hK ?_)
    | (go_at_call 38; (with_reducible refine (cBa _).mono ?_); rintro o1 w1 ⟨rfl, hb⟩; replace hX := hX.below hb; replace hB := hB.trans (hb.mono hB.size); clear hb; clear x0 x38; have x0 := hX.c0; have x38 := hX.c38 hK)
    | (go_at_call 39; (with_reducible refine (cFo _ hB).mono ?_); rintro o1 w1 ⟨rfl, hb⟩; replace hX := hX.below hb; replace hB := hB.trans (hb.mono hB.size); clear hb; clear x0 x38; have x0 := hX.c0; have x38 := hX.c38 hK))
  go_ret
  exact ⟨rfl, hB⟩

set_option maxRecDepth 100000 in
set_option maxHeartbeats 4000000 in
theorem oright_6 (D : OpD) (hK : D.K.length = 32) (A : Option Addr) (n c : Nat) (hlo : D.o.length = n) (bn : n ≤ 1000000) (B : Option Addr) (m d : Nat) (hln : D.n.length = m) (bm : m ≤ 1000000) (w : World) (rA : Rd w A (D.o.map strV)) (rB : Rd w B (D.n.map strV)) (h1 : 1 ≤ D.k) (h2 : D.k ≤ 6) (hb0 : bareR D = true) (hf0 : formedR D = true) (hd : ¬ D.d < 0) (he : ¬ 8 < D.d) :
    Calls Try.prog 20 #[.agg (opC D A n c B m d)] w fun o w' => o = .returned (.int .i64 0) ∧ Below w.heap.size w w' := by
  have hB : Below w.heap.size w (w.alloc (.cells (opC D A n c B m d) 40)) := (Below.refl _ w).alloc (Nat.le_refl _) _
  have hX := OpX.new w D A n c B m d
  have hIO : (Try.prog.info? 40).map (·.size) = some (opC D A n c B m d).size := by rw [opC_size _ _ _ _ _ _ _ hK]; exact infoOp
  have cKn : ∀ W, Calls Try.prog 37 #[.int .i64 D.k] W fun o w' => o = .returned (.bool true) ∧ W = w' := fun W => by have z := oknown_any D.k W; rwa [decide_eq_true ⟨h1, h2⟩] at z
  have cBa : ∀ W, Calls Try.prog 38 #[.agg (opC D A n c B m d)] W fun o w' => o = .returned (.bool true) ∧ Below W.heap.size W w' := fun W => by have z := bare_any D hK A n c hlo B m d hln W h1 h2; rwa [hb0] at z
  have cFo : ∀ W, Below w.heap.size w W → Calls Try.prog 39 #[.agg (opC D A n c B m d)] W fun o w' => o = .returned (.bool true) ∧ Below W.heap.size W w' := fun W h => by have z := formed_any D hK A n c hlo bn B m d hln bm W (rA.below h) (rB.below h) h1 h2; rwa [hf0] at z
  have x0 := hX.c0
  have x38 := hX.c38 hK
  go_enter Try.func20, Try.ntmps20
  go_wp2_with (first
    | (go_at_call 37; (with_reducible refine (cKn _).mono ?_); rintro o1 w1 ⟨rfl, rfl⟩)
    | (with_reducible refine wpList_load_opx (by with_unfolding_all rfl) _ rfl _ rfl hX hK ?_)
    | (go_at_call 38; (with_reducible refine (cBa _).mono ?_); rintro o1 w1 ⟨rfl, hb⟩; replace hX := hX.below hb; replace hB := hB.trans (hb.mono hB.size); clear hb; clear x0 x38; have x0 := hX.c0; have x38 := hX.c38 hK)
    | (go_at_call 39; (with_reducible refine (cFo _ hB).mono ?_); rintro o1 w1 ⟨rfl, hb⟩; replace hX := hX.below hb; replace hB := hB.trans (hb.mono hB.size); clear hb; clear x0 x38; have x0 := hX.c0; have x38 := hX.c38 hK))
  go_ret
  exact ⟨rfl, hB⟩

/-- What is wrong with an operation, by the program. -/
theorem oright_any (D : OpD) (hK : D.K.length = 32) (A : Option Addr) (n c : Nat) (hlo : D.o.length = n) (bn : n ≤ 1000000) (B : Option Addr) (m d : Nat) (hln : D.n.length = m) (bm : m ≤ 1000000) (w : World) (rA : Rd w A (D.o.map strV)) (rB : Rd w B (D.n.map strV)) :
    Calls Try.prog 20 #[.agg (opC D A n c B m d)] w fun o w' => o = .returned (.int .i64 (opE D)) ∧ Below w.heap.size w w' := by
  unfold opE
  by_cases h : 1 ≤ D.k ∧ D.k ≤ 6
  · rw [if_pos h]
    obtain ⟨h1, h2⟩ := h
    cases hb0 : bareR D with
    | false => exact oright_2 D hK A n c hlo bn B m d hln bm w rA rB h1 h2 hb0
    | true =>
      cases hf0 : formedR D with
      | false => exact oright_3 D hK A n c hlo bn B m d hln bm w rA rB h1 h2 hb0 hf0
      | true =>
        rw [if_pos (show (true && true) = true from rfl)]
        by_cases hd : D.d < 0
        · rw [if_pos (Or.inl hd)]; exact oright_4 D hK A n c hlo bn B m d hln bm w rA rB h1 h2 hb0 hf0 hd
        · by_cases he : 8 < D.d
          · rw [if_pos (Or.inr he)]; exact oright_5 D hK A n c hlo bn B m d hln bm w rA rB h1 h2 hb0 hf0 hd he
          · rw [if_neg (by omega)]; exact oright_6 D hK A n c hlo bn B m d hln bm w rA rB h1 h2 hb0 hf0 hd he
  · rw [if_neg h]; exact oright_1 D hK A n c hlo bn B m d hln bm w rA rB h
end Go.Proofs.Ytodfaakodgedbaa

namespace Go.Proofs.Ytodfaakodgedbaa
open Go.RowKit Go.Qc Go.Shelf
attribute [local go_sem] txt_size txt_append ib_fold txt_toL

def okL (l : List UInt8) (p : Bool × UInt8) : Bool := !(p.1 && !l.contains p.2)
def onlyL (l : List UInt8) (bs : List (Bool × UInt8)) : Bool := bs.all (okL l)
theorem onlyL_snoc {l : List UInt8} {bs : List (Bool × UInt8)} {i : Nat} {p : Bool × UInt8} (hp : bs[i]? = some p) (h : onlyL l (bs.take i) = true) (hq : okL l p = true) : onlyL l (bs.take (i + 1)) = true := by
  unfold onlyL at *
  rw [take_snoc hp, List.all_append, h]
  simp [hq]
theorem onlyL_bad {l : List UInt8} {bs : List (Bool × UInt8)} {i : Nat} {p : Bool × UInt8} (hp : bs[i]? = some p) (hq : okL l p = false) : onlyL l bs = false := by
  unfold onlyL
  rw [List.all_eq_false]
  exact ⟨p, List.mem_of_getElem? hp, by rw [hq]; simp⟩
def hasB (b0 b1 b2 b3 b4 b5 : Bool) : List (Bool × UInt8) := [(b0, 84), (b1, 65), (b2, 79), (b3, 78), (b4, 75), (b5, 68)]
theorem contains_snoc {l : List UInt8} {k : Nat} {x y : UInt8} (hx : l[k]? = some x) : (l.take (k + 1)).contains y = ((l.take k).contains y || decide (ib x = ib y)) := by
  rw [take_snoc hx, List.contains_append]
  congr 1
  simp only [List.contains_cons, List.contains_nil, Bool.or_false, ib_inj]
  by_cases h : x = y
  · subst h; simp
  · rw [decide_eq_false h, beq_eq_false_iff_ne]; exact fun e => h e.symm
set_option maxRecDepth 100000 in
set_option maxHeartbeats 40000000 in
theorem only_gen (l : List UInt8) (hl : l.length ≤ 1000) (D : OpD) (hK : D.K.length = 32) (A : Option Addr) (n c : Nat) (B : Option Addr) (m d : Nat) (b0 b1 b2 b3 b4 b5 bK : Bool) (w : World)
    (e0 : D.t.isEmpty = !b0) (e1 : (D.a != 0) = b1) (e2 : decide (0 < n) = b2) (e3 : decide (0 < m) = b3) (eK : decide (D.K = zeroB) = bK) (e4 : (!bK) = b4) (e5 : (D.d != 0) = b5) :
    Calls Try.prog 48 #[.agg (opC D A n c B m d), .string (txt l)] w fun o w' => o = .returned (.bool (onlyL l (hasB b0 b1 b2 b3 b4 b5))) ∧ Below w.heap.size w w' := by
  have hB : Below w.heap.size w (w.alloc (.cells (opC D A n c B m d) 40)) := (Below.refl _ w).alloc (Nat.le_refl _) _
  have hX := OpX.new w D A n c B m d
  have hu := Try.underlying38
  have hHZ : (Try.prog.info? 38).map (·.size) = some (D.K.map u8v).length := by rw [List.length_map, hK]; exact sizeId
  have heq : ∀ W, (Op.equalIn 10000 38 (.agg (List.map u8v D.K).toArray) (.agg (idVals zeroB))).run Try.prog W = .ok bK W := fun W => (ids_eq W D.K zeroB hK rfl).trans (by rw [eK])
  rw [zeroB_vals] at heq
  clear eK
  obtain ⟨R, hR⟩ : ∃ R, R = onlyL l (hasB b0 b1 b2 b3 b4 b5) := ⟨_, rfl⟩
  rw [← hR]
  have HR := hid hR
  clear hR
  go_enter Try.func48, Try.ntmps48
  go_wp2
  refine wp_region_held_drew (S := fun W => OpX W w.heap.size D A n c B m d) (by kernel_rfl) ?_ (fun hHeld => ?_)
  · exact hX.below (below_drew1 _)
  have hX1 := hX.below (below_drew1 _)
  have hB1 := hB.trans ((below_drew1 _).mono hB.size)
  clear hX hB
  generalize (w.alloc (.cells (opC D A n c B m d) 40)).drew = W1 at *
  refine' wpAnyH_take (i := 0) (v := .pointer (some ⟨w.heap.size, 2, none⟩)) rfl (by kernel_rfl) (by kernel_rfl) (by kernel_rfl) (fun _ _ _ h => h) (Or.inl ⟨by rfl, fun w' hw' => by go_simp⟩) hHeld ?_
  try simp only [Act.put, List.getElem_toArray, List.getElem_cons_succ, List.getElem_cons_zero, List.setIfInBounds_toArray, List.set_cons_zero, List.set_cons_succ]
  refine' wpAnyH_take (i := 1) (v := .string (txt D.t)) rfl (by kernel_rfl) (by kernel_rfl) (by kernel_rfl) (fun _ _ _ h => h) (Or.inl ⟨by rfl, fun w' hw' => by have hv := hw'.c2; go_simp⟩) hHeld ?_
  try simp only [Act.put, List.getElem_toArray, List.getElem_cons_succ, List.getElem_cons_zero, List.setIfInBounds_toArray, List.set_cons_zero, List.set_cons_succ]
  refine' wpAnyH_take (i := 2) (v := .bool b0) rfl (by kernel_rfl) (by kernel_rfl) (by kernel_rfl) (fun _ _ _ h => h) (Or.inl ⟨by rfl, fun w' hw' => by go_simp⟩) hHeld ?_
  try simp only [Act.put, List.getElem_toArray, List.getElem_cons_succ, List.getElem_cons_zero, List.setIfInBounds_toArray, List.set_cons_zero, List.set_cons_succ]
  refine' wpAnyH_take (i := 3) (v := .pointer (some ⟨w.heap.size, 3, none⟩)) rfl (by kernel_rfl) (by kernel_rfl) (by kernel_rfl) (fun _ _ _ h => h) (Or.inl ⟨by rfl, fun w' hw' => by go_simp⟩) hHeld ?_
  try simp only [Act.put, List.getElem_toArray, List.getElem_cons_succ, List.getElem_cons_zero, List.setIfInBounds_toArray, List.set_cons_zero, List.set_cons_succ]
  refine' wpAnyH_take (i := 4) (v := .int .i64 D.a) rfl (by kernel_rfl) (by kernel_rfl) (by kernel_rfl) (fun _ _ _ h => h) (Or.inl ⟨by rfl, fun w' hw' => by have hv := hw'.c3; go_simp⟩) hHeld ?_
  try simp only [Act.put, List.getElem_toArray, List.getElem_cons_succ, List.getElem_cons_zero, List.setIfInBounds_toArray, List.set_cons_zero, List.set_cons_succ]
  refine' wpAnyH_take (i := 5) (v := .bool b1) rfl (by kernel_rfl) (by kernel_rfl) (by kernel_rfl) (fun _ _ _ h => h) (Or.inl ⟨by rfl, fun w' hw' => by go_simp⟩) hHeld ?_
  try simp only [Act.put, List.getElem_toArray, List.getElem_cons_succ, List.getElem_cons_zero, List.setIfInBounds_toArray, List.set_cons_zero, List.set_cons_succ]
  refine' wpAnyH_take (i := 6) (v := .pointer (some ⟨w.heap.size, 4, none⟩)) rfl (by kernel_rfl) (by kernel_rfl) (by kernel_rfl) (fun _ _ _ h => h) (Or.inl ⟨by rfl, fun w' hw' => by go_simp⟩) hHeld ?_
  try simp only [Act.put, List.getElem_toArray, List.getElem_cons_succ, List.getElem_cons_zero, List.setIfInBounds_toArray, List.set_cons_zero, List.set_cons_succ]
  refine' wpAnyH_take (i := 7) (v := .slice A n c) rfl (by kernel_rfl) (by kernel_rfl) (by kernel_rfl) (fun _ _ _ h => h) (Or.inl ⟨by rfl, fun w' hw' => by have hv := hw'.c4; go_simp⟩) hHeld ?_
  try simp only [Act.put, List.getElem_toArray, List.getElem_cons_succ, List.getElem_cons_zero, List.setIfInBounds_toArray, List.set_cons_zero, List.set_cons_succ]
  refine' wpAnyH_take (i := 8) (v := .int .i64 n) rfl (by kernel_rfl) (by kernel_rfl) (by kernel_rfl) (fun _ _ _ h => h) (Or.inl ⟨by rfl, fun w' hw' => by go_simp⟩) hHeld ?_
  try simp only [Act.put, List.getElem_toArray, List.getElem_cons_succ, List.getElem_cons_zero, List.setIfInBounds_toArray, List.set_cons_zero, List.set_cons_succ]
  refine' wpAnyH_take (i := 9) (v := .bool b2) rfl (by kernel_rfl) (by kernel_rfl) (by kernel_rfl) (fun _ _ _ h => h) (Or.inl ⟨by rfl, fun w' hw' => by go_simp; first | done | exact e2⟩) hHeld ?_
  try simp only [Act.put, List.getElem_toArray, List.getElem_cons_succ, List.getElem_cons_zero, List.setIfInBounds_toArray, List.set_cons_zero, List.set_cons_succ]
  refine' wpAnyH_take (i := 10) (v := .pointer (some ⟨w.heap.size, 5, none⟩)) rfl (by kernel_rfl) (by kernel_rfl) (by kernel_rfl) (fun _ _ _ h => h) (Or.inl ⟨by rfl, fun w' hw' => by go_simp⟩) hHeld ?_
  try simp only [Act.put, List.getElem_toArray, List.getElem_cons_succ, List.getElem_cons_zero, List.setIfInBounds_toArray, List.set_cons_zero, List.set_cons_succ]
  refine' wpAnyH_take (i := 11) (v := .slice B m d) rfl (by kernel_rfl) (by kernel_rfl) (by kernel_rfl) (fun _ _ _ h => h) (Or.inl ⟨by rfl, fun w' hw' => by have hv := hw'.c5; go_simp⟩) hHeld ?_
  try simp only [Act.put, List.getElem_toArray, List.getElem_cons_succ, List.getElem_cons_zero, List.setIfInBounds_toArray, List.set_cons_zero, List.set_cons_succ]
  refine' wpAnyH_take (i := 12) (v := .int .i64 m) rfl (by kernel_rfl) (by kernel_rfl) (by kernel_rfl) (fun _ _ _ h => h) (Or.inl ⟨by rfl, fun w' hw' => by go_simp⟩) hHeld ?_
  try simp only [Act.put, List.getElem_toArray, List.getElem_cons_succ, List.getElem_cons_zero, List.setIfInBounds_toArray, List.set_cons_zero, List.set_cons_succ]
  refine' wpAnyH_take (i := 13) (v := .bool b3) rfl (by kernel_rfl) (by kernel_rfl) (by kernel_rfl) (fun _ _ _ h => h) (Or.inl ⟨by rfl, fun w' hw' => by go_simp; first | done | exact e3⟩) hHeld ?_
  try simp only [Act.put, List.getElem_toArray, List.getElem_cons_succ, List.getElem_cons_zero, List.setIfInBounds_toArray, List.set_cons_zero, List.set_cons_succ]
  refine' wpAnyH_take (i := 14) (v := .pointer (some ⟨w.heap.size, 6, none⟩)) rfl (by kernel_rfl) (by kernel_rfl) (by kernel_rfl) (fun _ _ _ h => h) (Or.inl ⟨by rfl, fun w' hw' => by go_simp⟩) hHeld ?_
  try simp only [Act.put, List.getElem_toArray, List.getElem_cons_succ, List.getElem_cons_zero, List.setIfInBounds_toArray, List.set_cons_zero, List.set_cons_succ]
  refine' wpAnyH_take (i := 15) (v := _) rfl (by kernel_rfl) (by kernel_rfl) (by kernel_rfl) (fun _ _ _ h => h) (yieldsIf_load_mid (by rfl) 38 _ rfl _ 6 rfl (D.K.map u8v) _ (fun w' hw' => hw'.key) hu rfl hHZ) hHeld ?_
  try simp only [Act.put, List.getElem_toArray, List.getElem_cons_succ, List.getElem_cons_zero, List.setIfInBounds_toArray, List.set_cons_zero, List.set_cons_succ]
  refine' wpAnyH_take (i := 16) (v := .agg #[.int .u8 0, .int .u8 0, .int .u8 0, .int .u8 0, .int .u8 0, .int .u8 0, .int .u8 0, .int .u8 0, .int .u8 0, .int .u8 0, .int .u8 0, .int .u8 0, .int .u8 0, .int .u8 0, .int .u8 0, .int .u8 0, .int .u8 0, .int .u8 0, .int .u8 0, .int .u8 0, .int .u8 0, .int .u8 0, .int .u8 0, .int .u8 0, .int .u8 0, .int .u8 0, .int .u8 0, .int .u8 0, .int .u8 0, .int .u8 0, .int .u8 0, .int .u8 0]) rfl (by kernel_rfl) (by kernel_rfl) (by kernel_rfl) (fun _ _ _ h => h) (Or.inl ⟨by rfl, fun w' hw' => by go_simp⟩) hHeld ?_
  try simp only [Act.put, List.getElem_toArray, List.getElem_cons_succ, List.getElem_cons_zero, List.setIfInBounds_toArray, List.set_cons_zero, List.set_cons_succ]
  refine' wpAnyH_take (i := 17) (v := .bool b4) rfl (by kernel_rfl) (by kernel_rfl) (by kernel_rfl) (fun _ _ _ h => h) (Or.inl ⟨by rfl, fun w' hw' => by go_simp⟩) hHeld ?_
  try simp only [Act.put, List.getElem_toArray, List.getElem_cons_succ, List.getElem_cons_zero, List.setIfInBounds_toArray, List.set_cons_zero, List.set_cons_succ]
  refine' wpAnyH_take (i := 18) (v := .pointer (some ⟨w.heap.size, 38, none⟩)) rfl (by kernel_rfl) (by kernel_rfl) (by kernel_rfl) (fun _ _ _ h => h) (Or.inl ⟨by rfl, fun w' hw' => by go_simp⟩) hHeld ?_
  try simp only [Act.put, List.getElem_toArray, List.getElem_cons_succ, List.getElem_cons_zero, List.setIfInBounds_toArray, List.set_cons_zero, List.set_cons_succ]
  refine' wpAnyH_take (i := 19) (v := .int .i64 D.d) rfl (by kernel_rfl) (by kernel_rfl) (by kernel_rfl) (fun _ _ _ h => h) (Or.inl ⟨by rfl, fun w' hw' => by have hv := hw'.c38 hK; go_simp⟩) hHeld ?_
  try simp only [Act.put, List.getElem_toArray, List.getElem_cons_succ, List.getElem_cons_zero, List.setIfInBounds_toArray, List.set_cons_zero, List.set_cons_succ]
  refine' wpAnyH_take (i := 20) (v := .bool b5) rfl (by kernel_rfl) (by kernel_rfl) (by kernel_rfl) (fun _ _ _ h => h) (Or.inl ⟨by rfl, fun w' hw' => by go_simp⟩) hHeld ?_
  try simp only [Act.put, List.getElem_toArray, List.getElem_cons_succ, List.getElem_cons_zero, List.setIfInBounds_toArray, List.set_cons_zero, List.set_cons_succ]
  refine' wpAnyH_take (i := 21) (v := .agg #[.bool b0, .bool b1, .bool b2, .bool b3, .bool b4, .bool b5]) rfl (by kernel_rfl) (by kernel_rfl) (by kernel_rfl) (fun _ _ _ h => h) (Or.inl ⟨by rfl, fun w' hw' => by go_simp⟩) hHeld ?_
  try simp only [Act.put, List.getElem_toArray, List.getElem_cons_succ, List.getElem_cons_zero, List.setIfInBounds_toArray, List.set_cons_zero, List.set_cons_succ]
  refine wpAnyH_ready (rs := [22]) (by kernel_rfl) (by simp) ?_
  refine AllReadyH.cons rfl (fun K hK => ?_) AllReadyH.nil
  go_simp
  refine hK.out _ _ (hHeld.alloc _) (fun hHeld => ?_)
  clear hK K
  try simp only [Act.put, List.getElem_toArray, List.getElem_cons_succ, List.getElem_cons_zero, List.setIfInBounds_toArray, List.set_cons_zero, List.set_cons_succ]
  refine wpAnyH_ready (rs := [23]) (by kernel_rfl) (by simp) ?_
  refine AllReadyH.cons rfl (fun K hK => ?_) AllReadyH.nil
  go_simp
  refine hK.out _ _ (hX1.alloc _) (fun hHeld => ?_)
  clear hK K
  try simp only [Act.put, List.getElem_toArray, List.getElem_cons_succ, List.getElem_cons_zero, List.setIfInBounds_toArray, List.set_cons_zero, List.set_cons_succ]
  refine wpAnyH_done (by kernel_rfl) ?_ _
  have hb0 := Blk.new W1 98 #[.bool b0, .bool b1, .bool b2, .bool b3, .bool b4, .bool b5]
  have hB2 := hB1.alloc hB1.size (.cells #[.bool b0, .bool b1, .bool b2, .bool b3, .bool b4, .bool b5] 98)
  clear hHeld hX1 hB1 e0 e1 e2 e3 e4 e5 heq hu hHZ hK
  generalize W1.heap.size = gh at *
  generalize W1.alloc (.cells #[.bool b0, .bool b1, .bool b2, .bool b3, .bool b4, .bool b5] 98) = W2 at *
  go_wp2
  go_loopw [7] (fun i wr => ∃ k : Nat, k ≤ 6 ∧ i = .int .i64 k ∧ Hid (onlyL l ((hasB b0 b1 b2 b3 b4 b5).take k) = true) ∧ Below W2.heap.size W2 wr) (fun i _ => 6 - (intOf i).toNat)
  case atStart => exact ⟨0, by omega, rfl, hid rfl, Below.refl _ _⟩
  case round =>
    obtain ⟨k, hk, rfl, HF, hb⟩ := hrel
    have hbk := hb0.below hb
    by_cases hk6 : k < 6
    · have z6 : (k : Int) < 6 := by omega
      obtain ⟨b, x, hp, hcell, hx⟩ : ∃ (b : Bool) (x : UInt8), (hasB b0 b1 b2 b3 b4 b5)[k]? = some (b, x) ∧ (#[Value.bool b0, .bool b1, .bool b2, .bool b3, .bool b4, .bool b5])[k]? = some (.bool b) ∧ ([84, 65, 79, 78, 75, 68] : List UInt8)[k]? = some x := by
        obtain rfl | rfl | rfl | rfl | rfl | rfl : k = 0 ∨ k = 1 ∨ k = 2 ∨ k = 3 ∨ k = 4 ∨ k = 5 := by omega
        all_goals exact ⟨_, _, rfl, rfl, rfl⟩
      have f1 : ∀ W, (Instr.index 9 (.string ⟨#[84, 65, 79, 78, 75, 68]⟩) (.int .i64 k)).run Try.prog W = .ok (.int .u8 (ib x)) W := fun W => run_index_str [84, 65, 79, 78, 75, 68] k x hx k rfl W
      have HP := hid hp
      have HCELL := hid hcell
      clear hp hcell hx hbk
      go_wp2
      go_loopw [8, 9] (fun v i wr => ∃ j : Nat, j ≤ l.length ∧ i = .int .i64 j ∧ v = .bool ((l.take j).contains x) ∧ Below W2.heap.size W2 wr) (fun _ i _ => l.length - (intOf i).toNat)
      case atStart => exact ⟨0, Nat.zero_le _, rfl, rfl, hb⟩
      case round =>
        obtain ⟨j, hj, rfl, rfl, hb'⟩ := hrel
        by_cases hlt : j < l.length
        · have b1' : (j : Int) < l.length := by omega
          obtain ⟨y, hy⟩ : ∃ y, l[j]? = some y := ⟨_, List.getElem?_eq_getElem hlt⟩
          have f2 := run_index_str l j y hy j rfl
          have hs := contains_snoc (y := x) hy
          have HS := hid hs
          clear hs hy
          cases hc : (l.take j).contains x with
          | true =>
            have HC := hid hc
            clear hc
            go_wp2
            go_quiet (fail)
            go_wp2
            go_roundw
            case rel => exact ⟨j + 1, hlt, by go_num, by rw [HS.out, HC.out]; rfl, hb'.trans (below_drewN (Below.refl _ _) _)⟩
            case measure => simp [intOf]; omega
          | false =>
            have HC := hid hc
            clear hc
            go_wp2
            go_quiet (fail)
            go_wp2
            go_roundw
            case rel => exact ⟨j + 1, hlt, by go_num, by rw [HS.out, HC.out]; by_cases q : ib y = ib x <;> simp [q], hb'.trans (below_drewN (Below.refl _ _) _)⟩
            case measure => simp [intOf]; omega
        · obtain rfl : j = l.length := by omega
          have b1' : ¬ (l.length : Int) < l.length := by omega
          rw [List.take_length]
          have hbk := hb0.below hb'
          cases hbb : b with
          | false =>
            rw [hbb] at HP HCELL
            have c0 := hbk.cell_ HCELL.out
            cases hc : l.contains x with
            | true =>
              have HC := hid hc
              clear hc hbb
              go_wp2
              go_roundw
              case rel => exact ⟨k + 1, hk6, by go_num, hid (onlyL_snoc HP.out HF.out (by unfold okL; rfl)), hb'⟩
              case measure => simp [intOf]; omega
            | false =>
              have HC := hid hc
              clear hc hbb
              go_wp2
              go_roundw
              case rel => exact ⟨k + 1, hk6, by go_num, hid (onlyL_snoc HP.out HF.out (by unfold okL; rfl)), hb'⟩
              case measure => simp [intOf]; omega
          | true =>
            rw [hbb] at HP HCELL
            have c0 := hbk.cell_ HCELL.out
            cases hc : l.contains x with
            | true =>
              have HC := hid hc
              clear hc hbb
              go_wp2
              go_roundw
              case rel => exact ⟨k + 1, hk6, by go_num, hid (onlyL_snoc HP.out HF.out (by unfold okL; simp only; rw [HC.out]; rfl)), hb'⟩
              case measure => simp [intOf]; omega
            | false =>
              obtain rfl : R = false := by rw [HR.out]; exact onlyL_bad HP.out (by unfold okL; simp only; rw [hc]; rfl)
              clear HR hc hbb
              go_wp2
              go_ret
              exact ⟨rfl, hB2.trans (hb'.mono hB2.size)⟩
    · obtain rfl : k = 6 := by omega
      obtain rfl : R = true := by rw [HR.out]; exact HF.out
      clear HR HF
      go_wp2
      go_ret
      exact ⟨rfl, hB2.trans (hb.mono hB2.size)⟩
end Go.Proofs.Ytodfaakodgedbaa

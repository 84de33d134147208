
/- op: what is wrong with an operation, by the program; the document's only -/
import Derived.Test.YtplcfdmehnilnaaOp0
import Derived.Deep.RegionHeld3
set_option linter.unusedSimpArgs false
set_option linter.unusedVariables false
namespace Go.Proofs.Ytplcfdmehnilnaa
open Go.RowKit Go.Qc Go.Shelf
attribute [local go_sem] txt_size txt_append ib_fold txt_toL

theorem OpX.all {W : World} {g : Nat} {D : OpD} {A : Option Addr} {n c : Nat} {B : Option Addr} {m d : Nat} (h : OpX W g D A n c B m d) : W.rangeAt g 0 (opC D A n c B m d).toList := fun j v hv => by
  rw [Nat.zero_add]; exact h.b.cell_ (by rw [← Array.getElem?_toList]; exact hv)
theorem wpList_load_opx {ops : Array Oper} {rest : List Oper} {o : Oper} {a : Act} {w : World} {Q : Exit → Act → World → Prop} (hw : Region.wanted o (yielded ops a.tmps) = true) (x : Operand) (ho : o.op = .load 50 x)
    (g : Nat) (hx : a.eval x = .pointer (some ⟨g, 0, none⟩)) {D : OpD} {A : Option Addr} {n c : Nat} {B : Option Addr} {m d : Nat} (hX : OpX w g D A n c B m d) (hK : D.K.length = 32)
    (h : wpList Try.prog ops Q rest (a.put o.dst (.agg (opC D A n c B m d))) w) : wpList Try.prog ops Q (o :: rest) a w := by
  refine wpList_load_if hw 50 x ho g 0 hx (opC D A n c B m d).toList _ hX.all Try.underlying50 rfl ?_ ?_
  · rw [infoOp, Array.length_toList, opC_size _ _ _ _ _ _ _ hK]
  · rw [Array.toArray_toList]; exact h
set_option maxRecDepth 100000 in
set_option maxHeartbeats 4000000 in
theorem formed_5 (D : OpD) (hK : D.K.length = 32) (A : Option Addr) (n c : Nat) (hlo : D.o.length = n) (bn : n ≤ 1000000) (B : Option Addr) (m d : Nat) (hln : D.n.length = m) (bm : m ≤ 1000000) (w : World) (rA : Rd w A (D.o.map strV)) (rB : Rd w B (D.n.map strV)) (hk : D.k = 5) :
    Calls Try.prog 68 #[.agg (opC D A n c B m d)] w fun o w' => o = .returned (.bool (preR D.p)) ∧ Below w.heap.size w w' := by
  have hB : Below w.heap.size w (w.alloc (.cells (opC D A n c B m d) 50)) := (Below.refl _ w).alloc (Nat.le_refl _) _
  have hX := OpX.new w D A n c B m d
  have hIO : (Try.prog.info? 50).map (·.size) = some (opC D A n c B m d).size := by rw [opC_size _ _ _ _ _ _ _ hK]; exact infoOp
  have cPol : ∀ W, Calls Try.prog 52 #[.agg (opC D A n c B m d)] W fun o w' => o = .returned (.bool true) ∧ Below W.heap.size W w' := fun W => by have z := policy_any D A n c B m d W; rwa [decide_eq_true (by omega)] at z
  have x1 := hX.c1
  go_enter Try.func68, Try.ntmps68
  go_wp2_with (first
    | (with_reducible refine wpList_load_opx (by with_unfolding_all rfl) _ rfl _ rfl hX hK ?_)
    | (go_at_call 52; (with_reducible refine (cPol _).mono ?_); rintro o1 w1 ⟨rfl, hb⟩; replace hX := hX.below hb; replace hB := hB.trans (hb.mono hB.size); clear hb; clear x1; have x1 := hX.c1)
    | (go_at_call 37; (with_reducible refine (prefix_any D.p _).mono ?_); rintro o1 w1 ⟨rfl, hb⟩; replace hX := hX.below hb; replace hB := hB.trans (hb.mono hB.size); clear hb; clear x1; have x1 := hX.c1))
  go_ret
  exact ⟨rfl, hB⟩

set_option maxRecDepth 100000 in
set_option maxHeartbeats 4000000 in
theorem formed_6 (D : OpD) (hK : D.K.length = 32) (A : Option Addr) (n c : Nat) (hlo : D.o.length = n) (bn : n ≤ 1000000) (B : Option Addr) (m d : Nat) (hln : D.n.length = m) (bm : m ≤ 1000000) (w : World) (rA : Rd w A (D.o.map strV)) (rB : Rd w B (D.n.map strV)) (hk : D.k = 6) :
    Calls Try.prog 68 #[.agg (opC D A n c B m d)] w fun o w' => o = .returned (.bool (preR D.p)) ∧ Below w.heap.size w w' := by
  have hB : Below w.heap.size w (w.alloc (.cells (opC D A n c B m d) 50)) := (Below.refl _ w).alloc (Nat.le_refl _) _
  have hX := OpX.new w D A n c B m d
  have hIO : (Try.prog.info? 50).map (·.size) = some (opC D A n c B m d).size := by rw [opC_size _ _ _ _ _ _ _ hK]; exact infoOp
  have cPol : ∀ W, Calls Try.prog 52 #[.agg (opC D A n c B m d)] W fun o w' => o = .returned (.bool true) ∧ Below W.heap.size W w' := fun W => by have z := policy_any D A n c B m d W; rwa [decide_eq_true (by omega)] at z
  have x1 := hX.c1
  go_enter Try.func68, Try.ntmps68
  go_wp2_with (first
    | (with_reducible refine wpList_load_opx (by with_unfolding_all rfl) _ rfl _ rfl hX hK ?_)
    | (go_at_call 52; (with_reducible refine (cPol _).mono ?_); rintro o1 w1 ⟨rfl, hb⟩; replace hX := hX.below hb; replace hB := hB.trans (hb.mono hB.size); clear hb; clear x1; have x1 := hX.c1)
    | (go_at_call 37; (with_reducible refine (prefix_any D.p _).mono ?_); rintro o1 w1 ⟨rfl, hb⟩; replace hX := hX.below hb; replace hB := hB.trans (hb.mono hB.size); clear hb; clear x1; have x1 := hX.c1))
  go_ret
  exact ⟨rfl, hB⟩

set_option maxRecDepth 100000 in
set_option maxHeartbeats 4000000 in
theorem formed_4a (D : OpD) (hK : D.K.length = 32) (A : Option Addr) (n c : Nat) (hlo : D.o.length = n) (bn : n ≤ 1000000) (B : Option Addr) (m d : Nat) (hln : D.n.length = m) (bm : m ≤ 1000000) (w : World) (rA : Rd w A (D.o.map strV)) (rB : Rd w B (D.n.map strV)) (hk : D.k = 4) (hp : pathR D.p = false) :
    Calls Try.prog 68 #[.agg (opC D A n c B m d)] w fun o w' => o = .returned (.bool false) ∧ Below w.heap.size w w' := by
  have hB : Below w.heap.size w (w.alloc (.cells (opC D A n c B m d) 50)) := (Below.refl _ w).alloc (Nat.le_refl _) _
  have hX := OpX.new w D A n c B m d
  have hIO : (Try.prog.info? 50).map (·.size) = some (opC D A n c B m d).size := by rw [opC_size _ _ _ _ _ _ _ hK]; exact infoOp
  have cH : ∀ W, Calls Try.prog 87 #[.int .i64 4] W fun o w' => o = .returned (.agg #[.bool true, .bool false, .bool false, .bool false, .bool false, .bool false]) ∧ Below W.heap.size W w' := fun W => has_any 4 W
  have cPol : ∀ W, Calls Try.prog 52 #[.agg (opC D A n c B m d)] W fun o w' => o = .returned (.bool false) ∧ Below W.heap.size W w' := fun W => by have z := policy_any D A n c B m d W; rwa [decide_eq_false (by omega)] at z
  have cP : ∀ W, Calls Try.prog 55 #[.string (txt D.p)] W fun o w' => o = .returned (.bool false) ∧ Below W.heap.size W w' := fun W => by have z := path_any D.p W; rwa [hp] at z
  have x0 := hX.c0
  rw [hk] at x0
  have x1 := hX.c1
  have x2 := hX.c2
  go_enter Try.func68, Try.ntmps68
  go_wp2_with (first
    | (with_reducible refine wpList_load_opx (by with_unfolding_all rfl) _ rfl _ rfl hX hK ?_)
    | (go_at_call 52; (with_reducible refine (cPol _).mono ?_); rintro o1 w1 ⟨rfl, hb⟩; replace hX := hX.below hb; replace hB := hB.trans (hb.mono hB.size); clear hb; clear x0 x1 x2; have x0 := hX.c0; rw [hk] at x0; have x1 := hX.c1; have x2 := hX.c2)
    | (go_at_call 87; (with_reducible refine (cH _).mono ?_); rintro o1 w1 ⟨rfl, hb⟩; replace hX := (hX.below hb).alloc (.cells #[.bool true, .bool false, .bool false, .bool false, .bool false, .bool false] 129); replace hB := (hB.trans (hb.mono hB.size)).alloc (hB.trans (hb.mono hB.size)).size (.cells #[.bool true, .bool false, .bool false, .bool false, .bool false, .bool false] 129); clear hb; clear x0 x1 x2; have x0 := hX.c0; rw [hk] at x0; have x1 := hX.c1; have x2 := hX.c2)
    | (go_at_call 55; (first | (with_reducible refine (cP _).mono ?_) | (with_reducible refine (cT _).mono ?_)); rintro o1 w1 ⟨rfl, hb⟩; replace hX := hX.below hb; replace hB := hB.trans (hb.mono hB.size); clear hb; clear x0 x1 x2; have x0 := hX.c0; rw [hk] at x0; have x1 := hX.c1; have x2 := hX.c2))
  go_ret
  exact ⟨rfl, hB⟩

set_option maxRecDepth 100000 in
set_option maxHeartbeats 4000000 in
theorem formed_4b (D : OpD) (hK : D.K.length = 32) (A : Option Addr) (n c : Nat) (hlo : D.o.length = n) (bn : n ≤ 1000000) (B : Option Addr) (m d : Nat) (hln : D.n.length = m) (bm : m ≤ 1000000) (w : World) (rA : Rd w A (D.o.map strV)) (rB : Rd w B (D.n.map strV)) (hk : D.k = 4) (hp : pathR D.p = true) (ht : pathR D.t = false) :
    Calls Try.prog 68 #[.agg (opC D A n c B m d)] w fun o w' => o = .returned (.bool false) ∧ Below w.heap.size w w' := by
  have hB : Below w.heap.size w (w.alloc (.cells (opC D A n c B m d) 50)) := (Below.refl _ w).alloc (Nat.le_refl _) _
  have hX := OpX.new w D A n c B m d
  have hIO : (Try.prog.info? 50).map (·.size) = some (opC D A n c B m d).size := by rw [opC_size _ _ _ _ _ _ _ hK]; exact infoOp
  have cH : ∀ W, Calls Try.prog 87 #[.int .i64 4] W fun o w' => o = .returned (.agg #[.bool true, .bool false, .bool false, .bool false, .bool false, .bool false]) ∧ Below W.heap.size W w' := fun W => has_any 4 W
  have cPol : ∀ W, Calls Try.prog 52 #[.agg (opC D A n c B m d)] W fun o w' => o = .returned (.bool false) ∧ Below W.heap.size W w' := fun W => by have z := policy_any D A n c B m d W; rwa [decide_eq_false (by omega)] at z
  have cP : ∀ W, Calls Try.prog 55 #[.string (txt D.p)] W fun o w' => o = .returned (.bool true) ∧ Below W.heap.size W w' := fun W => by have z := path_any D.p W; rwa [hp] at z
  have cT : ∀ W, Calls Try.prog 55 #[.string (txt D.t)] W fun o w' => o = .returned (.bool false) ∧ Below W.heap.size W w' := fun W => by have z := path_any D.t W; rwa [ht] at z
  have x0 := hX.c0
  rw [hk] at x0
  have x1 := hX.c1
  have x2 := hX.c2
  go_enter Try.func68, Try.ntmps68
  go_wp2_with (first
    | (with_reducible refine wpList_load_opx (by with_unfolding_all rfl) _ rfl _ rfl hX hK ?_)
    | (go_at_call 52; (with_reducible refine (cPol _).mono ?_); rintro o1 w1 ⟨rfl, hb⟩; replace hX := hX.below hb; replace hB := hB.trans (hb.mono hB.size); clear hb; clear x0 x1 x2; have x0 := hX.c0; rw [hk] at x0; have x1 := hX.c1; have x2 := hX.c2)
    | (go_at_call 87; (with_reducible refine (cH _).mono ?_); rintro o1 w1 ⟨rfl, hb⟩; replace hX := (hX.below hb).alloc (.cells #[.bool true, .bool false, .bool false, .bool false, .bool false, .bool false] 129); replace hB := (hB.trans (hb.mono hB.size)).alloc (hB.trans (hb.mono hB.size)).size (.cells #[.bool true, .bool false, .bool false, .bool false, .bool false, .bool false] 129); clear hb; clear x0 x1 x2; have x0 := hX.c0; rw [hk] at x0; have x1 := hX.c1; have x2 := hX.c2)
    | (go_at_call 55; (first | (with_reducible refine (cP _).mono ?_) | (with_reducible refine (cT _).mono ?_)); rintro o1 w1 ⟨rfl, hb⟩; replace hX := hX.below hb; replace hB := hB.trans (hb.mono hB.size); clear hb; clear x0 x1 x2; have x0 := hX.c0; rw [hk] at x0; have x1 := hX.c1; have x2 := hX.c2))
  go_ret
  exact ⟨rfl, hB⟩

set_option maxRecDepth 100000 in
set_option maxHeartbeats 4000000 in
theorem formed_4c (D : OpD) (hK : D.K.length = 32) (A : Option Addr) (n c : Nat) (hlo : D.o.length = n) (bn : n ≤ 1000000) (B : Option Addr) (m d : Nat) (hln : D.n.length = m) (bm : m ≤ 1000000) (w : World) (rA : Rd w A (D.o.map strV)) (rB : Rd w B (D.n.map strV)) (hk : D.k = 4) (hp : pathR D.p = true) (ht : pathR D.t = true) (hn : D.t = D.p) :
    Calls Try.prog 68 #[.agg (opC D A n c B m d)] w fun o w' => o = .returned (.bool false) ∧ Below w.heap.size w w' := by
  have hB : Below w.heap.size w (w.alloc (.cells (opC D A n c B m d) 50)) := (Below.refl _ w).alloc (Nat.le_refl _) _
  have hX := OpX.new w D A n c B m d
  have hIO : (Try.prog.info? 50).map (·.size) = some (opC D A n c B m d).size := by rw [opC_size _ _ _ _ _ _ _ hK]; exact infoOp
  have cH : ∀ W, Calls Try.prog 87 #[.int .i64 4] W fun o w' => o = .returned (.agg #[.bool true, .bool false, .bool false, .bool false, .bool false, .bool false]) ∧ Below W.heap.size W w' := fun W => has_any 4 W
  have cPol : ∀ W, Calls Try.prog 52 #[.agg (opC D A n c B m d)] W fun o w' => o = .returned (.bool false) ∧ Below W.heap.size W w' := fun W => by have z := policy_any D A n c B m d W; rwa [decide_eq_false (by omega)] at z
  have cP : ∀ W, Calls Try.prog 55 #[.string (txt D.p)] W fun o w' => o = .returned (.bool true) ∧ Below W.heap.size W w' := fun W => by have z := path_any D.p W; rwa [hp] at z
  have cT : ∀ W, Calls Try.prog 55 #[.string (txt D.t)] W fun o w' => o = .returned (.bool true) ∧ Below W.heap.size W w' := fun W => by have z := path_any D.t W; rwa [ht] at z
  have e1 : (D.t == D.p) = true := by simpa using hn
  have e2 : (D.t != D.p) = false := by simpa using hn
  have x0 := hX.c0
  rw [hk] at x0
  have x1 := hX.c1
  have x2 := hX.c2
  go_enter Try.func68, Try.ntmps68
  go_wp2_with (first
    | (with_reducible refine wpList_load_opx (by with_unfolding_all rfl) _ rfl _ rfl hX hK ?_)
    | (go_at_call 52; (with_reducible refine (cPol _).mono ?_); rintro o1 w1 ⟨rfl, hb⟩; replace hX := hX.below hb; replace hB := hB.trans (hb.mono hB.size); clear hb; clear x0 x1 x2; have x0 := hX.c0; rw [hk] at x0; have x1 := hX.c1; have x2 := hX.c2)
    | (go_at_call 87; (with_reducible refine (cH _).mono ?_); rintro o1 w1 ⟨rfl, hb⟩; replace hX := (hX.below hb).alloc (.cells #[.bool true, .bool false, .bool false, .bool false, .bool false, .bool false] 129); replace hB := (hB.trans (hb.mono hB.size)).alloc (hB.trans (hb.mono hB.size)).size (.cells #[.bool true, .bool false, .bool false, .bool false, .bool false, .bool false] 129); clear hb; clear x0 x1 x2; have x0 := hX.c0; rw [hk] at x0; have x1 := hX.c1; have x2 := hX.c2)
    | (go_at_call 55; (first | (with_reducible refine (cP _).mono ?_) | (with_reducible refine (cT _).mono ?_)); rintro o1 w1 ⟨rfl, hb⟩; replace hX := hX.below hb; replace hB := hB.trans (hb.mono hB.size); clear hb; clear x0 x1 x2; have x0 := hX.c0; rw [hk] at x0; have x1 := hX.c1; have x2 := hX.c2))
  go_ret
  exact ⟨rfl, hB⟩

set_option maxRecDepth 100000 in
set_option maxHeartbeats 4000000 in
theorem formed_4d (D : OpD) (hK : D.K.length = 32) (A : Option Addr) (n c : Nat) (hlo : D.o.length = n) (bn : n ≤ 1000000) (B : Option Addr) (m d : Nat) (hln : D.n.length = m) (bm : m ≤ 1000000) (w : World) (rA : Rd w A (D.o.map strV)) (rB : Rd w B (D.n.map strV)) (hk : D.k = 4) (hp : pathR D.p = true) (ht : pathR D.t = true) (hn : ¬ D.t = D.p) :
    Calls Try.prog 68 #[.agg (opC D A n c B m d)] w fun o w' => o = .returned (.bool true) ∧ Below w.heap.size w w' := by
  have hB : Below w.heap.size w (w.alloc (.cells (opC D A n c B m d) 50)) := (Below.refl _ w).alloc (Nat.le_refl _) _
  have hX := OpX.new w D A n c B m d
  have hIO : (Try.prog.info? 50).map (·.size) = some (opC D A n c B m d).size := by rw [opC_size _ _ _ _ _ _ _ hK]; exact infoOp
  have cH : ∀ W, Calls Try.prog 87 #[.int .i64 4] W fun o w' => o = .returned (.agg #[.bool true, .bool false, .bool false, .bool false, .bool false, .bool false]) ∧ Below W.heap.size W w' := fun W => has_any 4 W
  have cPol : ∀ W, Calls Try.prog 52 #[.agg (opC D A n c B m d)] W fun o w' => o = .returned (.bool false) ∧ Below W.heap.size W w' := fun W => by have z := policy_any D A n c B m d W; rwa [decide_eq_false (by omega)] at z
  have cP : ∀ W, Calls Try.prog 55 #[.string (txt D.p)] W fun o w' => o = .returned (.bool true) ∧ Below W.heap.size W w' := fun W => by have z := path_any D.p W; rwa [hp] at z
  have cT : ∀ W, Calls Try.prog 55 #[.string (txt D.t)] W fun o w' => o = .returned (.bool true) ∧ Below W.heap.size W w' := fun W => by have z := path_any D.t W; rwa [ht] at z
  have e1 : (D.t == D.p) = false := by simpa using hn
  have e2 : (D.t != D.p) = true := by simpa using hn
  have x0 := hX.c0
  rw [hk] at x0
  have x1 := hX.c1
  have x2 := hX.c2
  go_enter Try.func68, Try.ntmps68
  go_wp2_with (first
    | (with_reducible refine wpList_load_opx (by with_unfolding_all rfl) _ rfl _ rfl hX hK ?_)
    | (go_at_call 52; (with_reducible refine (cPol _).mono ?_); rintro o1 w1 ⟨rfl, hb⟩; replace hX := hX.below hb; replace hB := hB.trans (hb.mono hB.size); clear hb; clear x0 x1 x2; have x0 := hX.c0; rw [hk] at x0; have x1 := hX.c1; have x2 := hX.c2)
    | (go_at_call 87; (with_reducible refine (cH _).mono ?_); rintro o1 w1 ⟨rfl, hb⟩; replace hX := (hX.below hb).alloc (.cells #[.bool true, .bool false, .bool false, .bool false, .bool false, .bool false] 129); replace hB := (hB.trans (hb.mono hB.size)).alloc (hB.trans (hb.mono hB.size)).size (.cells #[.bool true, .bool false, .bool false, .bool false, .bool false, .bool false] 129); clear hb; clear x0 x1 x2; have x0 := hX.c0; rw [hk] at x0; have x1 := hX.c1; have x2 := hX.c2)
    | (go_at_call 55; (first | (with_reducible refine (cP _).mono ?_) | (with_reducible refine (cT _).mono ?_)); rintro o1 w1 ⟨rfl, hb⟩; replace hX := hX.below hb; replace hB := hB.trans (hb.mono hB.size); clear hb; clear x0 x1 x2; have x0 := hX.c0; rw [hk] at x0; have x1 := hX.c1; have x2 := hX.c2))
  go_ret
  exact ⟨rfl, hB⟩

set_option maxRecDepth 100000 in
set_option maxHeartbeats 4000000 in
theorem formed_3a (D : OpD) (hK : D.K.length = 32) (A : Option Addr) (n c : Nat) (hlo : D.o.length = n) (bn : n ≤ 1000000) (B : Option Addr) (m d : Nat) (hln : D.n.length = m) (bm : m ≤ 1000000) (w : World) (rA : Rd w A (D.o.map strV)) (rB : Rd w B (D.n.map strV)) (hk : D.k = 3) (hp : pathR D.p = false) :
    Calls Try.prog 68 #[.agg (opC D A n c B m d)] w fun o w' => o = .returned (.bool false) ∧ Below w.heap.size w w' := by
  have hB : Below w.heap.size w (w.alloc (.cells (opC D A n c B m d) 50)) := (Below.refl _ w).alloc (Nat.le_refl _) _
  have hX := OpX.new w D A n c B m d
  have hIO : (Try.prog.info? 50).map (·.size) = some (opC D A n c B m d).size := by rw [opC_size _ _ _ _ _ _ _ hK]; exact infoOp
  have cH : ∀ W, Calls Try.prog 87 #[.int .i64 3] W fun o w' => o = .returned (.agg #[.bool false, .bool true, .bool true, .bool true, .bool false, .bool false]) ∧ Below W.heap.size W w' := fun W => has_any 3 W
  have cPol : ∀ W, Calls Try.prog 52 #[.agg (opC D A n c B m d)] W fun o w' => o = .returned (.bool false) ∧ Below W.heap.size W w' := fun W => by have z := policy_any D A n c B m d W; rwa [decide_eq_false (by omega)] at z
  have cP : ∀ W, Calls Try.prog 55 #[.string (txt D.p)] W fun o w' => o = .returned (.bool false) ∧ Below W.heap.size W w' := fun W => by have z := path_any D.p W; rwa [hp] at z
  have x0 := hX.c0
  rw [hk] at x0
  have x1 := hX.c1
  go_enter Try.func68, Try.ntmps68
  go_wp2_with (first
    | (with_reducible refine wpList_load_opx (by with_unfolding_all rfl) _ rfl _ rfl hX hK ?_)
    | (go_at_call 52; (with_reducible refine (cPol _).mono ?_); rintro o1 w1 ⟨rfl, hb⟩; replace hX := hX.below hb; replace hB := hB.trans (hb.mono hB.size); clear hb; clear x0 x1; have x0 := hX.c0; rw [hk] at x0; have x1 := hX.c1)
    | (go_at_call 87; (with_reducible refine (cH _).mono ?_); rintro o1 w1 ⟨rfl, hb⟩; replace hX := (hX.below hb).alloc (.cells #[.bool false, .bool true, .bool true, .bool true, .bool false, .bool false] 129); replace hB := (hB.trans (hb.mono hB.size)).alloc (hB.trans (hb.mono hB.size)).size (.cells #[.bool false, .bool true, .bool true, .bool true, .bool false, .bool false] 129); clear hb; clear x0 x1; have x0 := hX.c0; rw [hk] at x0; have x1 := hX.c1)
    | (go_at_call 55; (with_reducible refine (cP _).mono ?_); rintro o1 w1 ⟨rfl, hb⟩; replace hX := hX.below hb; replace hB := hB.trans (hb.mono hB.size); clear hb; clear x0 x1; have x0 := hX.c0; rw [hk] at x0; have x1 := hX.c1)
    | (go_at_call 89; (with_reducible refine (change_any D A n c B m d _).mono ?_); rintro o1 w1 ⟨rfl, hb⟩; replace hX := hX.below hb; replace hB := hB.trans (hb.mono hB.size); clear hb; clear x0 x1; have x0 := hX.c0; rw [hk] at x0; have x1 := hX.c1)
    | (go_at_call 88; (with_reducible refine (cHR _ hB).mono ?_); rintro o1 w1 ⟨rfl, hb⟩; replace hX := hX.below hb; replace hB := hB.trans (hb.mono hB.size); clear hb; clear x0 x1; have x0 := hX.c0; rw [hk] at x0; have x1 := hX.c1))
  go_ret
  exact ⟨rfl, hB⟩

set_option maxRecDepth 100000 in
set_option maxHeartbeats 4000000 in
theorem formed_3b (D : OpD) (hK : D.K.length = 32) (A : Option Addr) (n c : Nat) (hlo : D.o.length = n) (bn : n ≤ 1000000) (B : Option Addr) (m d : Nat) (hln : D.n.length = m) (bm : m ≤ 1000000) (w : World) (rA : Rd w A (D.o.map strV)) (rB : Rd w B (D.n.map strV)) (hk : D.k = 3) (hp : pathR D.p = true) :
    Calls Try.prog 68 #[.agg (opC D A n c B m d)] w fun o w' => o = .returned (.bool (hunkR D.a D.o D.n)) ∧ Below w.heap.size w w' := by
  have hB : Below w.heap.size w (w.alloc (.cells (opC D A n c B m d) 50)) := (Below.refl _ w).alloc (Nat.le_refl _) _
  have hX := OpX.new w D A n c B m d
  have hIO : (Try.prog.info? 50).map (·.size) = some (opC D A n c B m d).size := by rw [opC_size _ _ _ _ _ _ _ hK]; exact infoOp
  have cH : ∀ W, Calls Try.prog 87 #[.int .i64 3] W fun o w' => o = .returned (.agg #[.bool false, .bool true, .bool true, .bool true, .bool false, .bool false]) ∧ Below W.heap.size W w' := fun W => has_any 3 W
  have cPol : ∀ W, Calls Try.prog 52 #[.agg (opC D A n c B m d)] W fun o w' => o = .returned (.bool false) ∧ Below W.heap.size W w' := fun W => by have z := policy_any D A n c B m d W; rwa [decide_eq_false (by omega)] at z
  have cP : ∀ W, Calls Try.prog 55 #[.string (txt D.p)] W fun o w' => o = .returned (.bool true) ∧ Below W.heap.size W w' := fun W => by have z := path_any D.p W; rwa [hp] at z
  have cHR : ∀ W, Below w.heap.size w W → Calls Try.prog 88 #[.agg #[.int .i64 D.a, .slice A n c, .slice B m d]] W fun o w' => o = .returned (.bool (hunkR D.a D.o D.n)) ∧ Below W.heap.size W w' := fun W h => hright_any D.a A n c D.o hlo bn B m d D.n hln bm W (rA.below h) (rB.below h)
  have x0 := hX.c0
  rw [hk] at x0
  have x1 := hX.c1
  go_enter Try.func68, Try.ntmps68
  go_wp2_with (first
    | (with_reducible refine wpList_load_opx (by with_unfolding_all rfl) _ rfl _ rfl hX hK ?_)
    | (go_at_call 52; (with_reducible refine (cPol _).mono ?_); rintro o1 w1 ⟨rfl, hb⟩; replace hX := hX.below hb; replace hB := hB.trans (hb.mono hB.size); clear hb; clear x0 x1; have x0 := hX.c0; rw [hk] at x0; have x1 := hX.c1)
    | (go_at_call 87; (with_reducible refine (cH _).mono ?_); rintro o1 w1 ⟨rfl, hb⟩; replace hX := (hX.below hb).alloc (.cells #[.bool false, .bool true, .bool true, .bool true, .bool false, .bool false] 129); replace hB := (hB.trans (hb.mono hB.size)).alloc (hB.trans (hb.mono hB.size)).size (.cells #[.bool false, .bool true, .bool true, .bool true, .bool false, .bool false] 129); clear hb; clear x0 x1; have x0 := hX.c0; rw [hk] at x0; have x1 := hX.c1)
    | (go_at_call 55; (with_reducible refine (cP _).mono ?_); rintro o1 w1 ⟨rfl, hb⟩; replace hX := hX.below hb; replace hB := hB.trans (hb.mono hB.size); clear hb; clear x0 x1; have x0 := hX.c0; rw [hk] at x0; have x1 := hX.c1)
    | (go_at_call 89; (with_reducible refine (change_any D A n c B m d _).mono ?_); rintro o1 w1 ⟨rfl, hb⟩; replace hX := hX.below hb; replace hB := hB.trans (hb.mono hB.size); clear hb; clear x0 x1; have x0 := hX.c0; rw [hk] at x0; have x1 := hX.c1)
    | (go_at_call 88; (with_reducible refine (cHR _ hB).mono ?_); rintro o1 w1 ⟨rfl, hb⟩; replace hX := hX.below hb; replace hB := hB.trans (hb.mono hB.size); clear hb; clear x0 x1; have x0 := hX.c0; rw [hk] at x0; have x1 := hX.c1))
  go_ret
  exact ⟨rfl, hB⟩

set_option maxRecDepth 100000 in
set_option maxHeartbeats 4000000 in
theorem formed_1a (D : OpD) (hK : D.K.length = 32) (A : Option Addr) (n c : Nat) (hlo : D.o.length = n) (bn : n ≤ 1000000) (B : Option Addr) (m d : Nat) (hln : D.n.length = m) (bm : m ≤ 1000000) (w : World) (rA : Rd w A (D.o.map strV)) (rB : Rd w B (D.n.map strV)) (hk : D.k = 1) (hp : pathR D.p = false) :
    Calls Try.prog 68 #[.agg (opC D A n c B m d)] w fun o w' => o = .returned (.bool false) ∧ Below w.heap.size w w' := by
  have hB : Below w.heap.size w (w.alloc (.cells (opC D A n c B m d) 50)) := (Below.refl _ w).alloc (Nat.le_refl _) _
  have hX := OpX.new w D A n c B m d
  have hIO : (Try.prog.info? 50).map (·.size) = some (opC D A n c B m d).size := by rw [opC_size _ _ _ _ _ _ _ hK]; exact infoOp
  have cH : ∀ W, Calls Try.prog 87 #[.int .i64 1] W fun o w' => o = .returned (.agg #[.bool false, .bool false, .bool false, .bool false, .bool false, .bool false]) ∧ Below W.heap.size W w' := fun W => has_any 1 W
  have cPol : ∀ W, Calls Try.prog 52 #[.agg (opC D A n c B m d)] W fun o w' => o = .returned (.bool false) ∧ Below W.heap.size W w' := fun W => by have z := policy_any D A n c B m d W; rwa [decide_eq_false (by omega)] at z
  have cP : ∀ W, Calls Try.prog 55 #[.string (txt D.p)] W fun o w' => o = .returned (.bool false) ∧ Below W.heap.size W w' := fun W => by have z := path_any D.p W; rwa [hp] at z
  have x0 := hX.c0
  rw [hk] at x0
  have x1 := hX.c1
  have x4 := hX.c4
  go_enter Try.func68, Try.ntmps68
  go_wp2_with (first
    | (with_reducible refine wpList_load_opx (by with_unfolding_all rfl) _ rfl _ rfl hX hK ?_)
    | (go_at_call 52; (with_reducible refine (cPol _).mono ?_); rintro o1 w1 ⟨rfl, hb⟩; replace hX := hX.below hb; replace hB := hB.trans (hb.mono hB.size); clear hb; clear x0 x1 x4; have x0 := hX.c0; rw [hk] at x0; have x1 := hX.c1; have x4 := hX.c4)
    | (go_at_call 87; (with_reducible refine (cH _).mono ?_); rintro o1 w1 ⟨rfl, hb⟩; replace hX := (hX.below hb).alloc (.cells #[.bool false, .bool false, .bool false, .bool false, .bool false, .bool false] 129); replace hB := (hB.trans (hb.mono hB.size)).alloc (hB.trans (hb.mono hB.size)).size (.cells #[.bool false, .bool false, .bool false, .bool false, .bool false, .bool false] 129); clear hb; clear x0 x1 x4; have x0 := hX.c0; rw [hk] at x0; have x1 := hX.c1; have x4 := hX.c4)
    | (go_at_call 55; (with_reducible refine (cP _).mono ?_); rintro o1 w1 ⟨rfl, hb⟩; replace hX := hX.below hb; replace hB := hB.trans (hb.mono hB.size); clear hb; clear x0 x1 x4; have x0 := hX.c0; rw [hk] at x0; have x1 := hX.c1; have x4 := hX.c4)
    | (go_at_call 28; (with_reducible refine (cL _ hB).mono ?_); rintro o1 w1 ⟨rfl, hb⟩; replace hX := hX.below hb; replace hB := hB.trans (hb.mono hB.size); clear hb; clear x0 x1 x4; have x0 := hX.c0; rw [hk] at x0; have x1 := hX.c1; have x4 := hX.c4))
  go_ret
  exact ⟨rfl, hB⟩

set_option maxRecDepth 100000 in
set_option maxHeartbeats 4000000 in
theorem formed_1b (D : OpD) (hK : D.K.length = 32) (A : Option Addr) (n c : Nat) (hlo : D.o.length = n) (bn : n ≤ 1000000) (B : Option Addr) (m d : Nat) (hln : D.n.length = m) (bm : m ≤ 1000000) (w : World) (rA : Rd w A (D.o.map strV)) (rB : Rd w B (D.n.map strV)) (hk : D.k = 1) (hp : pathR D.p = true) :
    Calls Try.prog 68 #[.agg (opC D A n c B m d)] w fun o w' => o = .returned (.bool (linesR D.o)) ∧ Below w.heap.size w w' := by
  have hB : Below w.heap.size w (w.alloc (.cells (opC D A n c B m d) 50)) := (Below.refl _ w).alloc (Nat.le_refl _) _
  have hX := OpX.new w D A n c B m d
  have hIO : (Try.prog.info? 50).map (·.size) = some (opC D A n c B m d).size := by rw [opC_size _ _ _ _ _ _ _ hK]; exact infoOp
  have cH : ∀ W, Calls Try.prog 87 #[.int .i64 1] W fun o w' => o = .returned (.agg #[.bool false, .bool false, .bool false, .bool false, .bool false, .bool false]) ∧ Below W.heap.size W w' := fun W => has_any 1 W
  have cPol : ∀ W, Calls Try.prog 52 #[.agg (opC D A n c B m d)] W fun o w' => o = .returned (.bool false) ∧ Below W.heap.size W w' := fun W => by have z := policy_any D A n c B m d W; rwa [decide_eq_false (by omega)] at z
  have cP : ∀ W, Calls Try.prog 55 #[.string (txt D.p)] W fun o w' => o = .returned (.bool true) ∧ Below W.heap.size W w' := fun W => by have z := path_any D.p W; rwa [hp] at z
  have cL : ∀ W, Below w.heap.size w W → Calls Try.prog 28 #[.slice A n c] W fun o w' => o = .returned (.bool (linesR D.o)) ∧ Below W.heap.size W w' := fun W h => (lines_any A n c D.o hlo (by omega) W (rA.below h)).mono (by rintro o w' ⟨h1, rfl⟩; exact ⟨h1, Below.refl _ _⟩)
  have x0 := hX.c0
  rw [hk] at x0
  have x1 := hX.c1
  have x4 := hX.c4
  go_enter Try.func68, Try.ntmps68
  go_wp2_with (first
    | (with_reducible refine wpList_load_opx (by with_unfolding_all rfl) _ rfl _ rfl hX hK ?_)
    | (go_at_call 52; (with_reducible refine (cPol _).mono ?_); rintro o1 w1 ⟨rfl, hb⟩; replace hX := hX.below hb; replace hB := hB.trans (hb.mono hB.size); clear hb; clear x0 x1 x4; have x0 := hX.c0; rw [hk] at x0; have x1 := hX.c1; have x4 := hX.c4)
    | (go_at_call 87; (with_reducible refine (cH _).mono ?_); rintro o1 w1 ⟨rfl, hb⟩; replace hX := (hX.below hb).alloc (.cells #[.bool false, .bool false, .bool false, .bool false, .bool false, .bool false] 129); replace hB := (hB.trans (hb.mono hB.size)).alloc (hB.trans (hb.mono hB.size)).size (.cells #[.bool false, .bool false, .bool false, .bool false, .bool false, .bool false] 129); clear hb; clear x0 x1 x4; have x0 := hX.c0; rw [hk] at x0; have x1 := hX.c1; have x4 := hX.c4)
    | (go_at_call 55; (with_reducible refine (cP _).mono ?_); rintro o1 w1 ⟨rfl, hb⟩; replace hX := hX.below hb; replace hB := hB.trans (hb.mono hB.size); clear hb; clear x0 x1 x4; have x0 := hX.c0; rw [hk] at x0; have x1 := hX.c1; have x4 := hX.c4)
    | (go_at_call 28; (with_reducible refine (cL _ hB).mono ?_); rintro o1 w1 ⟨rfl, hb⟩; replace hX := hX.below hb; replace hB := hB.trans (hb.mono hB.size); clear hb; clear x0 x1 x4; have x0 := hX.c0; rw [hk] at x0; have x1 := hX.c1; have x4 := hX.c4))
  go_ret
  exact ⟨rfl, hB⟩

set_option maxRecDepth 100000 in
set_option maxHeartbeats 4000000 in
theorem formed_2a (D : OpD) (hK : D.K.length = 32) (A : Option Addr) (n c : Nat) (hlo : D.o.length = n) (bn : n ≤ 1000000) (B : Option Addr) (m d : Nat) (hln : D.n.length = m) (bm : m ≤ 1000000) (w : World) (rA : Rd w A (D.o.map strV)) (rB : Rd w B (D.n.map strV)) (hk : D.k = 2) (hp : pathR D.p = false) :
    Calls Try.prog 68 #[.agg (opC D A n c B m d)] w fun o w' => o = .returned (.bool false) ∧ Below w.heap.size w w' := by
  have hB : Below w.heap.size w (w.alloc (.cells (opC D A n c B m d) 50)) := (Below.refl _ w).alloc (Nat.le_refl _) _
  have hX := OpX.new w D A n c B m d
  have hIO : (Try.prog.info? 50).map (·.size) = some (opC D A n c B m d).size := by rw [opC_size _ _ _ _ _ _ _ hK]; exact infoOp
  have cH : ∀ W, Calls Try.prog 87 #[.int .i64 2] W fun o w' => o = .returned (.agg #[.bool false, .bool false, .bool true, .bool false, .bool false, .bool false]) ∧ Below W.heap.size W w' := fun W => has_any 2 W
  have cPol : ∀ W, Calls Try.prog 52 #[.agg (opC D A n c B m d)] W fun o w' => o = .returned (.bool false) ∧ Below W.heap.size W w' := fun W => by have z := policy_any D A n c B m d W; rwa [decide_eq_false (by omega)] at z
  have cP : ∀ W, Calls Try.prog 55 #[.string (txt D.p)] W fun o w' => o = .returned (.bool false) ∧ Below W.heap.size W w' := fun W => by have z := path_any D.p W; rwa [hp] at z
  have x0 := hX.c0
  rw [hk] at x0
  have x1 := hX.c1
  have x4 := hX.c4
  go_enter Try.func68, Try.ntmps68
  go_wp2_with (first
    | (with_reducible refine wpList_load_opx (by with_unfolding_all rfl) _ rfl _ rfl hX hK ?_)
    | (go_at_call 52; (with_reducible refine (cPol _).mono ?_); rintro o1 w1 ⟨rfl, hb⟩; replace hX := hX.below hb; replace hB := hB.trans (hb.mono hB.size); clear hb; clear x0 x1 x4; have x0 := hX.c0; rw [hk] at x0; have x1 := hX.c1; have x4 := hX.c4)
    | (go_at_call 87; (with_reducible refine (cH _).mono ?_); rintro o1 w1 ⟨rfl, hb⟩; replace hX := (hX.below hb).alloc (.cells #[.bool false, .bool false, .bool true, .bool false, .bool false, .bool false] 129); replace hB := (hB.trans (hb.mono hB.size)).alloc (hB.trans (hb.mono hB.size)).size (.cells #[.bool false, .bool false, .bool true, .bool false, .bool false, .bool false] 129); clear hb; clear x0 x1 x4; have x0 := hX.c0; rw [hk] at x0; have x1 := hX.c1; have x4 := hX.c4)
    | (go_at_call 55; (with_reducible refine (cP _).mono ?_); rintro o1 w1 ⟨rfl, hb⟩; replace hX := hX.below hb; replace hB := hB.trans (hb.mono hB.size); clear hb; clear x0 x1 x4; have x0 := hX.c0; rw [hk] at x0; have x1 := hX.c1; have x4 := hX.c4)
    | (go_at_call 28; (with_reducible refine (cL _ hB).mono ?_); rintro o1 w1 ⟨rfl, hb⟩; replace hX := hX.below hb; replace hB := hB.trans (hb.mono hB.size); clear hb; clear x0 x1 x4; have x0 := hX.c0; rw [hk] at x0; have x1 := hX.c1; have x4 := hX.c4))
  go_ret
  exact ⟨rfl, hB⟩

set_option maxRecDepth 100000 in
set_option maxHeartbeats 4000000 in
theorem formed_2b (D : OpD) (hK : D.K.length = 32) (A : Option Addr) (n c : Nat) (hlo : D.o.length = n) (bn : n ≤ 1000000) (B : Option Addr) (m d : Nat) (hln : D.n.length = m) (bm : m ≤ 1000000) (w : World) (rA : Rd w A (D.o.map strV)) (rB : Rd w B (D.n.map strV)) (hk : D.k = 2) (hp : pathR D.p = true) :
    Calls Try.prog 68 #[.agg (opC D A n c B m d)] w fun o w' => o = .returned (.bool (linesR D.o)) ∧ Below w.heap.size w w' := by
  have hB : Below w.heap.size w (w.alloc (.cells (opC D A n c B m d) 50)) := (Below.refl _ w).alloc (Nat.le_refl _) _
  have hX := OpX.new w D A n c B m d
  have hIO : (Try.prog.info? 50).map (·.size) = some (opC D A n c B m d).size := by rw [opC_size _ _ _ _ _ _ _ hK]; exact infoOp
  have cH : ∀ W, Calls Try.prog 87 #[.int .i64 2] W fun o w' => o = .returned (.agg #[.bool false, .bool false, .bool true, .bool false, .bool false, .bool false]) ∧ Below W.heap.size W w' := fun W => has_any 2 W
  have cPol : ∀ W, Calls Try.prog 52 #[.agg (opC D A n c B m d)] W fun o w' => o = .returned (.bool false) ∧ Below W.heap.size W w' := fun W => by have z := policy_any D A n c B m d W; rwa [decide_eq_false (by omega)] at z
  have cP : ∀ W, Calls Try.prog 55 #[.string (txt D.p)] W fun o w' => o = .returned (.bool true) ∧ Below W.heap.size W w' := fun W => by have z := path_any D.p W; rwa [hp] at z
  have cL : ∀ W, Below w.heap.size w W → Calls Try.prog 28 #[.slice A n c] W fun o w' => o = .returned (.bool (linesR D.o)) ∧ Below W.heap.size W w' := fun W h => (lines_any A n c D.o hlo (by omega) W (rA.below h)).mono (by rintro o w' ⟨h1, rfl⟩; exact ⟨h1, Below.refl _ _⟩)
  have x0 := hX.c0
  rw [hk] at x0
  have x1 := hX.c1
  have x4 := hX.c4
  go_enter Try.func68, Try.ntmps68
  go_wp2_with (first
    | (with_reducible refine wpList_load_opx (by with_unfolding_all rfl) _ rfl _ rfl hX hK ?_)
    | (go_at_call 52; (with_reducible refine (cPol _).mono ?_); rintro o1 w1 ⟨rfl, hb⟩; replace hX := hX.below hb; replace hB := hB.trans (hb.mono hB.size); clear hb; clear x0 x1 x4; have x0 := hX.c0; rw [hk] at x0; have x1 := hX.c1; have x4 := hX.c4)
    | (go_at_call 87; (with_reducible refine (cH _).mono ?_); rintro o1 w1 ⟨rfl, hb⟩; replace hX := (hX.below hb).alloc (.cells #[.bool false, .bool false, .bool true, .bool false, .bool false, .bool false] 129); replace hB := (hB.trans (hb.mono hB.size)).alloc (hB.trans (hb.mono hB.size)).size (.cells #[.bool false, .bool false, .bool true, .bool false, .bool false, .bool false] 129); clear hb; clear x0 x1 x4; have x0 := hX.c0; rw [hk] at x0; have x1 := hX.c1; have x4 := hX.c4)
    | (go_at_call 55; (with_reducible refine (cP _).mono ?_); rintro o1 w1 ⟨rfl, hb⟩; replace hX := hX.below hb; replace hB := hB.trans (hb.mono hB.size); clear hb; clear x0 x1 x4; have x0 := hX.c0; rw [hk] at x0; have x1 := hX.c1; have x4 := hX.c4)
    | (go_at_call 28; (with_reducible refine (cL _ hB).mono ?_); rintro o1 w1 ⟨rfl, hb⟩; replace hX := hX.below hb; replace hB := hB.trans (hb.mono hB.size); clear hb; clear x0 x1 x4; have x0 := hX.c0; rw [hk] at x0; have x1 := hX.c1; have x4 := hX.c4))
  go_ret
  exact ⟨rfl, hB⟩

theorem formed_any (D : OpD) (hK : D.K.length = 32) (A : Option Addr) (n c : Nat) (hlo : D.o.length = n) (bn : n ≤ 1000000) (B : Option Addr) (m d : Nat) (hln : D.n.length = m) (bm : m ≤ 1000000) (w : World) (rA : Rd w A (D.o.map strV)) (rB : Rd w B (D.n.map strV)) (h1 : 1 ≤ D.k) (h2 : D.k ≤ 6) :
    Calls Try.prog 68 #[.agg (opC D A n c B m d)] w fun o w' => o = .returned (.bool (formedR D)) ∧ Below w.heap.size w w' := by
  unfold formedR
  rcases kind_cases h1 h2 with hk | hk | hk | hk | hk | hk
  · rw [if_neg (by omega), if_neg (by omega), if_neg (by omega)]
    cases hp : pathR D.p with
    | false => exact formed_1a D hK A n c hlo bn B m d hln bm w rA rB hk hp
    | true => exact formed_1b D hK A n c hlo bn B m d hln bm w rA rB hk hp
  · rw [if_neg (by omega), if_neg (by omega), if_neg (by omega)]
    cases hp : pathR D.p with
    | false => exact formed_2a D hK A n c hlo bn B m d hln bm w rA rB hk hp
    | true => exact formed_2b D hK A n c hlo bn B m d hln bm w rA rB hk hp
  · rw [if_neg (by omega), if_neg (by omega), if_pos hk]
    cases hp : pathR D.p with
    | false => exact formed_3a D hK A n c hlo bn B m d hln bm w rA rB hk hp
    | true => exact formed_3b D hK A n c hlo bn B m d hln bm w rA rB hk hp
  · rw [if_neg (by omega), if_pos hk]
    cases hp : pathR D.p with
    | false => exact formed_4a D hK A n c hlo bn B m d hln bm w rA rB hk hp
    | true =>
      cases ht : pathR D.t with
      | false => exact formed_4b D hK A n c hlo bn B m d hln bm w rA rB hk hp ht
      | true =>
        by_cases hn : D.t = D.p
        · rw [decide_eq_false (by simpa using hn)]
          exact formed_4c D hK A n c hlo bn B m d hln bm w rA rB hk hp ht hn
        · rw [decide_eq_true (by simpa using hn)]
          exact formed_4d D hK A n c hlo bn B m d hln bm w rA rB hk hp ht hn
  · rw [if_pos (by omega)]
    exact formed_5 D hK A n c hlo bn B m d hln bm w rA rB hk
  · rw [if_pos (by omega)]
    exact formed_6 D hK A n c hlo bn B m d hln bm w rA rB hk

set_option maxRecDepth 100000 in
set_option maxHeartbeats 4000000 in
theorem oright_1 (D : OpD) (hK : D.K.length = 32) (A : Option Addr) (n c : Nat) (hlo : D.o.length = n) (bn : n ≤ 1000000) (B : Option Addr) (m d : Nat) (hln : D.n.length = m) (bm : m ≤ 1000000) (w : World) (rA : Rd w A (D.o.map strV)) (rB : Rd w B (D.n.map strV)) (h1 : ¬ (1 ≤ D.k ∧ D.k ≤ 6)) :
    Calls Try.prog 51 #[.agg (opC D A n c B m d)] w fun o w' => o = .returned (.int .i64 1) ∧ Below w.heap.size w w' := by
  have hB : Below w.heap.size w (w.alloc (.cells (opC D A n c B m d) 50)) := (Below.refl _ w).alloc (Nat.le_refl _) _
  have hX := OpX.new w D A n c B m d
  have hIO : (Try.prog.info? 50).map (·.size) = some (opC D A n c B m d).size := by rw [opC_size _ _ _ _ _ _ _ hK]; exact infoOp
  have cKn : ∀ W, Calls Try.prog 66 #[.int .i64 D.k] W fun o w' => o = .returned (.bool false) ∧ W = w' := fun W => by have z := oknown_any D.k W; rwa [decide_eq_false h1] at z
  have x0 := hX.c0
  go_enter Try.func51, Try.ntmps51
  go_wp2_with (first
    | (go_at_call 66; (with_reducible refine (cKn _).mono ?_); rintro o1 w1 ⟨rfl, rfl⟩))
  go_ret
  exact ⟨rfl, hB⟩

set_option maxRecDepth 100000 in
set_option maxHeartbeats 4000000 in
theorem oright_2 (D : OpD) (hK : D.K.length = 32) (A : Option Addr) (n c : Nat) (hlo : D.o.length = n) (bn : n ≤ 1000000) (B : Option Addr) (m d : Nat) (hln : D.n.length = m) (bm : m ≤ 1000000) (w : World) (rA : Rd w A (D.o.map strV)) (rB : Rd w B (D.n.map strV)) (h1 : 1 ≤ D.k) (h2 : D.k ≤ 6) (hb0 : bareR D = false) :
    Calls Try.prog 51 #[.agg (opC D A n c B m d)] w fun o w' => o = .returned (.int .i64 3) ∧ Below w.heap.size w w' := by
  have hB : Below w.heap.size w (w.alloc (.cells (opC D A n c B m d) 50)) := (Below.refl _ w).alloc (Nat.le_refl _) _
  have hX := OpX.new w D A n c B m d
  have hIO : (Try.prog.info? 50).map (·.size) = some (opC D A n c B m d).size := by rw [opC_size _ _ _ _ _ _ _ hK]; exact infoOp
  have cKn : ∀ W, Calls Try.prog 66 #[.int .i64 D.k] W fun o w' => o = .returned (.bool true) ∧ W = w' := fun W => by have z := oknown_any D.k W; rwa [decide_eq_true ⟨h1, h2⟩] at z
  have cBa : ∀ W, Calls Try.prog 67 #[.agg (opC D A n c B m d)] W fun o w' => o = .returned (.bool false) ∧ Below W.heap.size W w' := fun W => by have z := bare_any D hK A n c hlo B m d hln W h1 h2; rwa [hb0] at z
  have x0 := hX.c0
  go_enter Try.func51, Try.ntmps51
  go_wp2_with (first
    | (go_at_call 66; (with_reducible refine (cKn _).mono ?_); rintro o1 w1 ⟨rfl, rfl⟩)
    | (with_reducible refine wpList_load_opx (by with_unfolding_all rfl) _ rfl _ rfl hX hK ?_)
    | (go_at_call 67; (with_reducible refine (cBa _).mono ?_); rintro o1 w1 ⟨rfl, hb⟩; replace hX := hX.below hb; replace hB := hB.trans (hb.mono hB.size); clear hb; clear x0; have x0 := hX.c0))
  go_ret
  exact ⟨rfl, hB⟩

set_option maxRecDepth 100000 in
set_option maxHeartbeats 4000000 in
theorem oright_3 (D : OpD) (hK : D.K.length = 32) (A : Option Addr) (n c : Nat) (hlo : D.o.length = n) (bn : n ≤ 1000000) (B : Option Addr) (m d : Nat) (hln : D.n.length = m) (bm : m ≤ 1000000) (w : World) (rA : Rd w A (D.o.map strV)) (rB : Rd w B (D.n.map strV)) (h1 : 1 ≤ D.k) (h2 : D.k ≤ 6) (hb0 : bareR D = true) (hf0 : formedR D = false) :
    Calls Try.prog 51 #[.agg (opC D A n c B m d)] w fun o w' => o = .returned (.int .i64 3) ∧ Below w.heap.size w w' := by
  have hB : Below w.heap.size w (w.alloc (.cells (opC D A n c B m d) 50)) := (Below.refl _ w).alloc (Nat.le_refl _) _
  have hX := OpX.new w D A n c B m d
  have hIO : (Try.prog.info? 50).map (·.size) = some (opC D A n c B m d).size := by rw [opC_size _ _ _ _ _ _ _ hK]; exact infoOp
  have cKn : ∀ W, Calls Try.prog 66 #[.int .i64 D.k] W fun o w' => o = .returned (.bool true) ∧ W = w' := fun W => by have z := oknown_any D.k W; rwa [decide_eq_true ⟨h1, h2⟩] at z
  have cBa : ∀ W, Calls Try.prog 67 #[.agg (opC D A n c B m d)] W fun o w' => o = .returned (.bool true) ∧ Below W.heap.size W w' := fun W => by have z := bare_any D hK A n c hlo B m d hln W h1 h2; rwa [hb0] at z
  have cFo : ∀ W, Below w.heap.size w W → Calls Try.prog 68 #[.agg (opC D A n c B m d)] W fun o w' => o = .returned (.bool false) ∧ Below W.heap.size W w' := fun W h => by have z := formed_any D hK A n c hlo bn B m d hln bm W (rA.below h) (rB.below h) h1 h2; rwa [hf0] at z
  have x0 := hX.c0
  go_enter Try.func51, Try.ntmps51
  go_wp2_with (first
    | (go_at_call 66; (with_reducible refine (cKn _).mono ?_); rintro o1 w1 ⟨rfl, rfl⟩)
    | (with_reducible refine wpList_load_opx (by with_unfolding_all rfl) _ rfl _ rfl hX hK ?_)
    | (go_at_call 67; (with_reducible refine (cBa _).mono ?_); rintro o1 w1 ⟨rfl, hb⟩; replace hX := hX.below hb; replace hB := hB.trans (hb.mono hB.size); clear hb; clear x0; have x0 := hX.c0)
    | (go_at_call 68; (with_reducible refine (cFo _ hB).mono ?_); rintro o1 w1 ⟨rfl, hb⟩; replace hX := hX.below hb; replace hB := hB.trans (hb.mono hB.size); clear hb; clear x0; have x0 := hX.c0))
  go_ret
  exact ⟨rfl, hB⟩

set_option maxRecDepth 100000 in
set_option maxHeartbeats 4000000 in
theorem oright_4 (D : OpD) (hK : D.K.length = 32) (A : Option Addr) (n c : Nat) (hlo : D.o.length = n) (bn : n ≤ 1000000) (B : Option Addr) (m d : Nat) (hln : D.n.length = m) (bm : m ≤ 1000000) (w : World) (rA : Rd w A (D.o.map strV)) (rB : Rd w B (D.n.map strV)) (h1 : 1 ≤ D.k) (h2 : D.k ≤ 6) (hb0 : bareR D = true) (hf0 : formedR D = true) (hd : D.d < 0) :
    Calls Try.prog 51 #[.agg (opC D A n c B m d)] w fun o w' => o = .returned (.int .i64 5) ∧ Below w.heap.size w w' := by
  have hB : Below w.heap.size w (w.alloc (.cells (opC D A n c B m d) 50)) := (Below.refl _ w).alloc (Nat.le_refl _) _
  have hX := OpX.new w D A n c B m d
  have hIO : (Try.prog.info? 50).map (·.size) = some (opC D A n c B m d).size := by rw [opC_size _ _ _ _ _ _ _ hK]; exact infoOp
  have cKn : ∀ W, Calls Try.prog 66 #[.int .i64 D.k] W fun o w' => o = .returned (.bool true) ∧ W = w' := fun W => by have z := oknown_any D.k W; rwa [decide_eq_true ⟨h1, h2⟩] at z
  have cBa : ∀ W, Calls Try.prog 67 #[.agg (opC D A n c B m d)] W fun o w' => o = .returned (.bool true) ∧ Below W.heap.size W w' := fun W => by have z := bare_any D hK A n c hlo B m d hln W h1 h2; rwa [hb0] at z
  have cFo : ∀ W, Below w.heap.size w W → Calls Try.prog 68 #[.agg (opC D A n c B m d)] W fun o w' => o = .returned (.bool true) ∧ Below W.heap.size W w' := fun W h => by have z := formed_any D hK A n c hlo bn B m d hln bm W (rA.below h) (rB.below h) h1 h2; rwa [hf0] at z
  have x0 := hX.c0
  have x38 := hX.c38 hK
  go_enter Try.func51, Try.ntmps51
  go_wp2_with (first
    | (go_at_call 66; (with_reducible refine (cKn _).mono ?_); rintro o1 w1 ⟨rfl, rfl⟩)
    | (with_reducible refine wpList_load_opx (by with_unfolding_all rfl) _ rfl _ rfl hX hK ?_)
    | (go_at_call 67; (with_reducible refine (cBa _).mono ?_); rintro o1 w1 ⟨rfl, hb⟩; replace hX := hX.below hb; replace hB := hB.trans (hb.mono hB.size); clear hb; clear x0 x38; have x0 := hX.c0; have x38 := hX.c38 hK)
    | (go_at_call 68; (with_reducible refine (cFo _ hB).mono ?_); rintro o1 w1 ⟨rfl, hb⟩; replace hX := hX.below hb; replace hB := hB.trans (hb.mono hB.size); clear hb; clear x0 x38; have x0 := hX.c0; have x38 := hX.c38 hK))
  go_ret
  exact ⟨rfl, hB⟩

set_option maxRecDepth 100000 in
set_option maxHeartbeats 4000000 in
theorem oright_5 (D : OpD) (hK : D.K.length = 32) (A : Option Addr) (n c : Nat) (hlo : D.o.length = n) (bn : n ≤ 1000000) (B : Option Addr) (m d : Nat) (hln : D.n.length = m) (bm : m ≤ 1000000) (w : World) (rA : Rd w A (D.o.map strV)) (rB : Rd w B (D.n.map strV)) (h1 : 1 ≤ D.k) (h2 : D.k ≤ 6) (hb0 : bareR D = true) (hf0 : formedR D = true) (hd : ¬ D.d < 0) (he : 8 < D.d) :
    Calls Try.prog 51 #[.agg (opC D A n c B m d)] w fun o w' => o = .returned (.int .i64 5) ∧ Below w.heap.size w w' := by
  have hB : Below w.heap.size w (w.alloc (.cells (opC D A n c B m d) 50)) := (Below.refl _ w).alloc (Nat.le_refl _) _
  have hX := OpX.new w D A n c B m d
  have hIO : (Try.prog.info? 50).map (·.size) = some (opC D A n c B m d).size := by rw [opC_size _ _ _ _ _ _ _ hK]; exact infoOp
  have cKn : ∀ W, Calls Try.prog 66 #[.int .i64 D.k] W fun o w' => o = .returned (.bool true) ∧ W = w' := fun W => by have z := oknown_any D.k W; rwa [decide_eq_true ⟨h1, h2⟩] at z
  have cBa : ∀ W, Calls Try.prog 67 #[.agg (opC D A n c B m d)] W fun o w' => o = .returned (.bool true) ∧ Below W.heap.size W w' := fun W => by have z := bare_any D hK A n c hlo B m d hln W h1 h2; rwa [hb0] at z
  have cFo : ∀ W, Below w.heap.size w W → Calls Try.prog 68 #[.agg (opC D A n c B m d)] W fun o w' => o = .returned (.bool true) ∧ Below W.heap.size W w' := fun W h => by have z := formed_any D hK A n c hlo bn B m d hln bm W (rA.below h) (rB.below h) h1 h2; rwa [hf0] at z
  have x0 := hX.c0
  have x38 := hX.c38 hK
  go_enter Try.func51, Try.ntmps51
  go_wp2_with (first
    | (go_at_call 66; (with_reducible refine (cKn _).mono ?_); rintro o1 w1 ⟨rfl, rfl⟩)
    | (with_reducible refine wpList_load_opx (by with_unfolding_all rfl) _ rfl _ rfl hX hK ?_)
    | (go_at_call 67; (with_reducible refine (cBa _).mono ?_); rintro o1 w1 ⟨rfl, hb⟩; replace hX := hX.below hb; replace hB := hB.trans (hb.mono hB.size); clear hb; clear x0 x38; have x0 := hX.c0; have x38 := hX.c38 hK)
    | (go_at_call 68; (with_reducible refine (cFo _ hB).mono ?_); rintro o1 w1 ⟨rfl, hb⟩; replace hX := hX.below hb; replace hB := hB.trans (hb.mono hB.size); clear hb; clear x0 x38; have x0 := hX.c0; have x38 := hX.c38 hK))
  go_ret
  exact ⟨rfl, hB⟩

set_option maxRecDepth 100000 in
set_option maxHeartbeats 4000000 in
theorem oright_6 (D : OpD) (hK : D.K.length = 32) (A : Option Addr) (n c : Nat) (hlo : D.o.length = n) (bn : n ≤ 1000000) (B : Option Addr) (m d : Nat) (hln : D.n.length = m) (bm : m ≤ 1000000) (w : World) (rA : Rd w A (D.o.map strV)) (rB : Rd w B (D.n.map strV)) (h1 : 1 ≤ D.k) (h2 : D.k ≤ 6) (hb0 : bareR D = true) (hf0 : formedR D = true) (hd : ¬ D.d < 0) (he : ¬ 8 < D.d) :
    Calls Try.prog 51 #[.agg (opC D A n c B m d)] w fun o w' => o = .returned (.int .i64 0) ∧ Below w.heap.size w w' := by
  have hB : Below w.heap.size w (w.alloc (.cells (opC D A n c B m d) 50)) := (Below.refl _ w).alloc (Nat.le_refl _) _
  have hX := OpX.new w D A n c B m d
  have hIO : (Try.prog.info? 50).map (·.size) = some (opC D A n c B m d).size := by rw [opC_size _ _ _ _ _ _ _ hK]; exact infoOp
  have cKn : ∀ W, Calls Try.prog 66 #[.int .i64 D.k] W fun o w' => o = .returned (.bool true) ∧ W = w' := fun W => by have z := oknown_any D.k W; rwa [decide_eq_true ⟨h1, h2⟩] at z
  have cBa : ∀ W, Calls Try.prog 67 #[.agg (opC D A n c B m d)] W fun o w' => o = .returned (.bool true) ∧ Below W.heap.size W w' := fun W => by have z := bare_any D hK A n c hlo B m d hln W h1 h2; rwa [hb0] at z
  have cFo : ∀ W, Below w.heap.size w W → Calls Try.prog 68 #[.agg (opC D A n c B m d)] W fun o w' => o = .returned (.bool true) ∧ Below W.heap.size W w' := fun W h => by have z := formed_any D hK A n c hlo bn B m d hln bm W (rA.below h) (rB.below h) h1 h2; rwa [hf0] at z
  have x0 := hX.c0
  have x38 := hX.c38 hK
  go_enter Try.func51, Try.ntmps51
  go_wp2_with (first
    | (go_at_call 66; (with_reducible refine (cKn _).mono ?_); rintro o1 w1 ⟨rfl, rfl⟩)
    | (with_reducible refine wpList_load_opx (by with_unfolding_all rfl) _ rfl _ rfl hX hK ?_)
    | (go_at_call 67; (with_reducible refine (cBa _).mono ?_); rintro o1 w1 ⟨rfl, hb⟩; replace hX := hX.below hb; replace hB := hB.trans (hb.mono hB.size); clear hb; clear x0 x38; have x0 := hX.c0; have x38 := hX.c38 hK)
    | (go_at_call 68; (with_reducible refine (cFo _ hB).mono ?_); rintro o1 w1 ⟨rfl, hb⟩; replace hX := hX.below hb; replace hB := hB.trans (hb.mono hB.size); clear hb; clear x0 x38; have x0 := hX.c0; have x38 := hX.c38 hK))
  go_ret
  exact ⟨rfl, hB⟩

/-- What is wrong with an operation, by the program. -/
theorem oright_any (D : OpD) (hK : D.K.length = 32) (A : Option Addr) (n c : Nat) (hlo : D.o.length = n) (bn : n ≤ 1000000) (B : Option Addr) (m d : Nat) (hln : D.n.length = m) (bm : m ≤ 1000000) (w : World) (rA : Rd w A (D.o.map strV)) (rB : Rd w B (D.n.map strV)) :
    Calls Try.prog 51 #[.agg (opC D A n c B m d)] w fun o w' => o = .returned (.int .i64 (opE D)) ∧ Below w.heap.size w w' := by
  unfold opE
  by_cases h : 1 ≤ D.k ∧ D.k ≤ 6
  · rw [if_pos h]
    obtain ⟨h1, h2⟩ := h
    cases hb0 : bareR D with
    | false => exact oright_2 D hK A n c hlo bn B m d hln bm w rA rB h1 h2 hb0
    | true =>
      cases hf0 : formedR D with
      | false => exact oright_3 D hK A n c hlo bn B m d hln bm w rA rB h1 h2 hb0 hf0
      | true =>
        rw [if_pos (show (true && true) = true from rfl)]
        by_cases hd : D.d < 0
        · rw [if_pos (Or.inl hd)]; exact oright_4 D hK A n c hlo bn B m d hln bm w rA rB h1 h2 hb0 hf0 hd
        · by_cases he : 8 < D.d
          · rw [if_pos (Or.inr he)]; exact oright_5 D hK A n c hlo bn B m d hln bm w rA rB h1 h2 hb0 hf0 hd he
          · rw [if_neg (by omega)]; exact oright_6 D hK A n c hlo bn B m d hln bm w rA rB h1 h2 hb0 hf0 hd he
  · rw [if_neg h]; exact oright_1 D hK A n c hlo bn B m d hln bm w rA rB h
end Go.Proofs.Ytplcfdmehnilnaa

namespace Go.Proofs.Ytplcfdmehnilnaa
open Go.RowKit Go.Qc Go.Shelf
attribute [local go_sem] txt_size txt_append ib_fold txt_toL

end Go.Proofs.Ytplcfdmehnilnaa

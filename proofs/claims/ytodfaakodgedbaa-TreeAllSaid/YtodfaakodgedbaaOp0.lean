
/- op: operations as data; an operation's cells; what kinds have; what is wrong with an operation, by the program. -/
import Derived.Test.YtodfaakodgedbaaPhA
import Derived.Test.YtodfaakodgedbaaTag2
import Derived.Test.YtodfaakodgedbaaKit4
import Derived.Test.YtodfaakodgedbaaKit5
set_option linter.unusedSimpArgs false
set_option linter.unusedVariables false
namespace Go.Proofs.Ytodfaakodgedbaa
open Go.RowKit Go.Qc Go.Shelf
attribute [local go_sem] txt_size txt_append ib_fold txt_toL

/-- An operation. -/
structure OpD where
  k : Int
  p : List UInt8
  t : List UInt8
  a : Int
  o : List (List UInt8)
  n : List (List UInt8)
  K : List UInt8
  d : Int
/-- Is what its kind doesn't have zero? -/
def bareR (D : OpD) : Bool := (decide (D.k = 4) || decide (D.t = [])) && ((decide (D.k = 3) || decide (D.a = 0)) && ((decide (D.k = 2) || decide (D.k = 3) || decide (D.o = [])) && ((decide (D.k = 3) || decide (D.n = [])) && ((decide (D.k = 5) || decide (D.k = 6) || decide (D.K = zeroB)) && (decide (D.k = 5) || decide (D.d = 0))))))
/-- Is what its kind has right? -/
def formedR (D : OpD) : Bool :=
  if D.k = 5 ∨ D.k = 6 then preR D.p
  else if D.k = 4 then pathR D.p && (pathR D.t && decide (D.t ≠ D.p))
  else if D.k = 3 then pathR D.p && hunkR D.a D.o D.n
  else pathR D.p && linesR D.o
/-- What is wrong with an operation. -/
def opE (D : OpD) : Int := if 1 ≤ D.k ∧ D.k ≤ 6 then (if (bareR D && formedR D) = true then (if D.d < 0 ∨ 8 < D.d then 5 else 0) else 3) else 1
/-- An operation's cells. -/
def opC (D : OpD) (A : Option Addr) (n c : Nat) (B : Option Addr) (m d : Nat) : Array Value := #[.int .i64 D.k, .string (txt D.p), .string (txt D.t), .int .i64 D.a, .slice A n c, .slice B m d] ++ idVals D.K ++ #[.int .i64 D.d]
section
variable (D : OpD) (A : Option Addr) (n c : Nat) (B : Option Addr) (m d : Nat)
theorem opC_size (hK : D.K.length = 32) : (opC D A n c B m d).size = 39 := by unfold opC; simp [idVals_size, hK]
theorem opC_lo (i : Nat) (u : Value) (h : (#[Value.int .i64 D.k, .string (txt D.p), .string (txt D.t), .int .i64 D.a, .slice A n c, .slice B m d])[i]? = some u) : (opC D A n c B m d)[i]? = some u := by
  have hi := (Array.getElem?_eq_some_iff.1 h).1
  unfold opC
  rw [Array.getElem?_append_left (by simp at hi ⊢; omega), Array.getElem?_append_left hi]
  exact h
theorem opC_0 : (opC D A n c B m d)[0]? = some (.int .i64 D.k) := opC_lo _ _ _ _ _ _ _ 0 _ rfl
theorem opC_1 : (opC D A n c B m d)[1]? = some (.string (txt D.p)) := opC_lo _ _ _ _ _ _ _ 1 _ rfl
theorem opC_2 : (opC D A n c B m d)[2]? = some (.string (txt D.t)) := opC_lo _ _ _ _ _ _ _ 2 _ rfl
theorem opC_3 : (opC D A n c B m d)[3]? = some (.int .i64 D.a) := opC_lo _ _ _ _ _ _ _ 3 _ rfl
theorem opC_4 : (opC D A n c B m d)[4]? = some (.slice A n c) := opC_lo _ _ _ _ _ _ _ 4 _ rfl
theorem opC_5 : (opC D A n c B m d)[5]? = some (.slice B m d) := opC_lo _ _ _ _ _ _ _ 5 _ rfl
theorem opC_38 (hK : D.K.length = 32) : (opC D A n c B m d)[38]? = some (.int .i64 D.d) := by
  unfold opC; rw [Array.getElem?_append_right (by simp [idVals_size, hK])]; simp [idVals_size, hK]
theorem opC_key (j : Nat) (u : Value) (h : (D.K.map u8v)[j]? = some u) : (opC D A n c B m d)[6 + j]? = some u := by
  have hlt := (List.getElem?_eq_some_iff.1 h).1
  rw [List.length_map] at hlt
  unfold opC
  rw [Array.getElem?_append_left (by simp [idVals_size]; omega), Array.getElem?_append_right (by simp)]
  unfold idVals
  simpa using h
theorem opC_one : (opC D A n c B m d).all (·.oneCell') = true := by
  unfold opC
  rw [Array.all_append, Array.all_append, idVals_one]
  simp [Value.oneCell']
end
/-- An operation's box. -/
structure OpX (W : World) (g : Nat) (D : OpD) (A : Option Addr) (n c : Nat) (B : Option Addr) (m d : Nat) : Prop where
  b : Blk W g 40 (opC D A n c B m d)
theorem OpX.new (w : World) (D : OpD) (A : Option Addr) (n c : Nat) (B : Option Addr) (m d : Nat) : OpX (w.alloc (.cells (opC D A n c B m d) 40)) w.heap.size D A n c B m d := ⟨Blk.new _ _ _⟩
section
variable {W : World} {g : Nat} {D : OpD} {A : Option Addr} {n c : Nat} {B : Option Addr} {m d : Nat}
theorem OpX.alloc (h : OpX W g D A n c B m d) (o : Obj) : OpX (W.alloc o) g D A n c B m d := ⟨h.b.alloc o⟩
theorem OpX.below {W' : World} (h : OpX W g D A n c B m d) (hb : Below W.heap.size W W') : OpX W' g D A n c B m d := ⟨h.b.below hb⟩
theorem OpX.c0 (h : OpX W g D A n c B m d) : W.cell? ⟨g, 0, none⟩ = some (.int .i64 D.k) := h.b.cell_ (opC_0 _ _ _ _ _ _ _)
theorem OpX.c1 (h : OpX W g D A n c B m d) : W.cell? ⟨g, 1, none⟩ = some (.string (txt D.p)) := h.b.cell_ (opC_1 _ _ _ _ _ _ _)
theorem OpX.c2 (h : OpX W g D A n c B m d) : W.cell? ⟨g, 2, none⟩ = some (.string (txt D.t)) := h.b.cell_ (opC_2 _ _ _ _ _ _ _)
theorem OpX.c3 (h : OpX W g D A n c B m d) : W.cell? ⟨g, 3, none⟩ = some (.int .i64 D.a) := h.b.cell_ (opC_3 _ _ _ _ _ _ _)
theorem OpX.c4 (h : OpX W g D A n c B m d) : W.cell? ⟨g, 4, none⟩ = some (.slice A n c) := h.b.cell_ (opC_4 _ _ _ _ _ _ _)
theorem OpX.c5 (h : OpX W g D A n c B m d) : W.cell? ⟨g, 5, none⟩ = some (.slice B m d) := h.b.cell_ (opC_5 _ _ _ _ _ _ _)
theorem OpX.c38 (h : OpX W g D A n c B m d) (hK : D.K.length = 32) : W.cell? ⟨g, 38, none⟩ = some (.int .i64 D.d) := h.b.cell_ (opC_38 _ _ _ _ _ _ _ hK)
theorem OpX.key (h : OpX W g D A n c B m d) : W.rangeAt g 6 (D.K.map u8v) := fun j u hj => h.b.cell_ (opC_key _ _ _ _ _ _ _ j u hj)
end
/-! ### what kinds have -/
def hasV (k : Int) : Array Value := #[.bool (decide (k = 4)), .bool (decide (k = 3)), .bool (decide (k = 2) || decide (k = 3)), .bool (decide (k = 3)), .bool (decide (k = 5) || decide (k = 6)), .bool (decide (k = 5))]
set_option maxHeartbeats 4000000 in
theorem has_any (k : Int) (w : World) :
    Calls Try.prog 55 #[.int .i64 k] w fun o w' => o = .returned (.agg (hasV k)) ∧ Below w.heap.size w w' := by
  have hB : ∀ cs ds : Array Value, Below w.heap.size w ((w.alloc (.cells cs 92)).alloc (.cells ds 92)) := fun cs ds => ((Below.refl _ w).alloc (Nat.le_refl _) _).alloc (by simp) _
  by_cases h3 : k = 3
  · subst h3
    go_enter Try.func55, Try.ntmps55
    go_wp2
    refine bodyPost_ret (v := .agg (hasV 3)) (by simp [results, Try.f55, go_sem, hasV]) rfl ?_
    exact ⟨rfl, hB _ _⟩
  by_cases h2 : k = 2
  · subst h2
    go_enter Try.func55, Try.ntmps55
    go_wp2
    refine bodyPost_ret (v := .agg (hasV 2)) (by simp [results, Try.f55, go_sem, hasV]) rfl ?_
    exact ⟨rfl, hB _ _⟩
  by_cases h5 : k = 5
  · subst h5
    go_enter Try.func55, Try.ntmps55
    go_wp2
    refine bodyPost_ret (v := .agg (hasV 5)) (by simp [results, Try.f55, go_sem, hasV]) rfl ?_
    exact ⟨rfl, hB _ _⟩
  by_cases h6 : k = 6
  · subst h6
    go_enter Try.func55, Try.ntmps55
    go_wp2
    refine bodyPost_ret (v := .agg (hasV 6)) (by simp [results, Try.f55, go_sem, hasV]) rfl ?_
    exact ⟨rfl, hB _ _⟩
  by_cases h4 : k = 4
  · subst h4
    go_enter Try.func55, Try.ntmps55
    go_wp2
    refine bodyPost_ret (v := .agg (hasV 4)) (by simp [results, Try.f55, go_sem, hasV]) rfl ?_
    exact ⟨rfl, hB _ _⟩
  · have e : hasV k = #[.bool false, .bool false, .bool false, .bool false, .bool false, .bool false] := by unfold hasV; simp [h2, h3, h4, h5, h6]
    rw [e]
    have z2 : (k == 2) = false := by simpa using h2
    have z3 : (k == 3) = false := by simpa using h3
    have z4 : (k == 4) = false := by simpa using h4
    have z5 : (k == 5) = false := by simpa using h5
    have z6 : (k == 6) = false := by simpa using h6
    go_enter Try.func55, Try.ntmps55
    go_wp2
    refine bodyPost_ret (v := .agg #[.bool false, .bool false, .bool false, .bool false, .bool false, .bool false]) (by simp [results, Try.f55, go_sem]) rfl ?_
    exact ⟨rfl, hB _ _⟩
theorem oknown_any (k : Int) (w : World) :
    Calls Try.prog 37 #[.int .i64 k] w fun o w' => o = .returned (.bool (decide (1 ≤ k ∧ k ≤ 6))) ∧ w = w' := by
  by_cases h1 : 1 ≤ k <;> by_cases h2 : k ≤ 6
  all_goals go_enter Try.func37, Try.ntmps37
  all_goals go_wp2
  all_goals go_ret
  all_goals exact ⟨by simp [h1, h2], rfl⟩
theorem policy_any (D : OpD) (A : Option Addr) (n c : Nat) (B : Option Addr) (m d : Nat) (w : World) :
    Calls Try.prog 21 #[.agg (opC D A n c B m d)] w fun o w' => o = .returned (.bool (decide (D.k = 5 ∨ D.k = 6))) ∧ Below w.heap.size w w' := by
  have hB : Below w.heap.size w (w.alloc (.cells (opC D A n c B m d) 40)) := (Below.refl _ w).alloc (Nat.le_refl _) _
  have hX := OpX.new w D A n c B m d
  by_cases h5 : D.k = 5
  · rw [decide_eq_true (Or.inl h5)]
    have x0 : (w.alloc (.cells (opC D A n c B m d) 40)).cell? ⟨w.heap.size, 0, none⟩ = some (.int .i64 5) := by rw [hX.c0, h5]
    clear h5 hX
    go_enter Try.func21, Try.ntmps21
    go_wp2
    go_ret
    exact ⟨rfl, hB⟩
  · have x0' := hX.c0
    have z5 : (D.k == 5) = false := by simpa using h5
    by_cases h6 : D.k = 6
    · rw [decide_eq_true (Or.inr h6)]
      have x0 : (w.alloc (.cells (opC D A n c B m d) 40)).cell? ⟨w.heap.size, 0, none⟩ = some (.int .i64 6) := by rw [hX.c0, h6]
      clear h6 h5 z5
      clear x0'
      clear hX
      go_enter Try.func21, Try.ntmps21
      go_wp2
      go_ret
      exact ⟨rfl, hB⟩
    · rw [decide_eq_false (by rintro (h | h) <;> contradiction)]
      have z6 : (D.k == 6) = false := by simpa using h6
      clear hX
      go_enter Try.func21, Try.ntmps21
      go_wp2
      go_ret
      exact ⟨rfl, hB⟩
theorem change_any (D : OpD) (A : Option Addr) (n c : Nat) (B : Option Addr) (m d : Nat) (w : World) :
    Calls Try.prog 45 #[.agg (opC D A n c B m d)] w fun o w' => o = .returned (.agg #[.int .i64 D.a, .slice A n c, .slice B m d]) ∧ Below w.heap.size w w' := by
  have hB : Below w.heap.size w (w.alloc (.cells (opC D A n c B m d) 40)) := (Below.refl _ w).alloc (Nat.le_refl _) _
  have hX := OpX.new w D A n c B m d
  have x3 := hX.c3
  have x4 := hX.c4
  have x5 := hX.c5
  have y := hX.alloc (.cells #[.int .i64 0, .slice none 0 0, .slice none 0 0] 64)
  have y3 := y.c3
  have y4 := y.c4
  have y5 := y.c5
  go_enter Try.func45, Try.ntmps45
  go_wp2
  refine bodyPost_ret (v := .agg #[.int .i64 D.a, .slice A n c, .slice B m d]) (by simp [results, Try.f45, go_sem]) rfl ?_
  exact ⟨rfl, hB.alloc (by simp) _⟩
theorem infoOp : (Try.prog.info? 40).map (·.size) = some 39 := by kernel_rfl
set_option maxRecDepth 100000 in
set_option maxHeartbeats 4000000 in
theorem bare_1_0 (D : OpD) (hK : D.K.length = 32) (A : Option Addr) (n c : Nat) (hlo : D.o.length = n) (B : Option Addr) (m d : Nat) (hln : D.n.length = m) (w : World) (hk : D.k = 1) (ht : ¬ D.t = []) :
    Calls Try.prog 38 #[.agg (opC D A n c B m d)] w fun o w' => o = .returned (.bool false) ∧ Below w.heap.size w w' := by
  have hB : Below w.heap.size w (w.alloc (.cells (opC D A n c B m d) 40)) := (Below.refl _ w).alloc (Nat.le_refl _) _
  have cH : ∀ W, Calls Try.prog 55 #[.int .i64 1] W fun o w' => o = .returned (.agg #[.bool false, .bool false, .bool false, .bool false, .bool false, .bool false]) ∧ Below W.heap.size W w' := fun W => has_any 1 W
  have hX := OpX.new w D A n c B m d
  have x0 : (w.alloc (.cells (opC D A n c B m d) 40)).cell? ⟨w.heap.size, 0, none⟩ = some (.int .i64 1) := by rw [hX.c0, hk]
  have et : (D.t == []) = false := by simpa using ht
  go_enter Try.func38, Try.ntmps38
  go_wp2_with (first
    | (go_at_call 55; (with_reducible refine (cH _).mono ?_); rintro o1 w1 ⟨rfl, hb1⟩; have hY := (hX.below hb1).alloc (.cells #[.bool false, .bool false, .bool false, .bool false, .bool false, .bool false] 92); have hZ := (hB.trans (hb1.mono hB.size)).alloc (hB.trans (hb1.mono hB.size)).size (.cells #[.bool false, .bool false, .bool false, .bool false, .bool false, .bool false] 92); have y2 : (w1.alloc (.cells #[.bool false, .bool false, .bool false, .bool false, .bool false, .bool false] 92)).cell? ⟨w.heap.size, 2, none⟩ = some (.string (txt D.t)) := hY.c2; clear hY hX x0))
  go_ret
  exact ⟨rfl, hZ⟩

set_option maxRecDepth 100000 in
set_option maxHeartbeats 4000000 in
theorem bare_1_1 (D : OpD) (hK : D.K.length = 32) (A : Option Addr) (n c : Nat) (hlo : D.o.length = n) (B : Option Addr) (m d : Nat) (hln : D.n.length = m) (w : World) (hk : D.k = 1) (ht : D.t = []) (ha : ¬ D.a = 0) :
    Calls Try.prog 38 #[.agg (opC D A n c B m d)] w fun o w' => o = .returned (.bool false) ∧ Below w.heap.size w w' := by
  have hB : Below w.heap.size w (w.alloc (.cells (opC D A n c B m d) 40)) := (Below.refl _ w).alloc (Nat.le_refl _) _
  have cH : ∀ W, Calls Try.prog 55 #[.int .i64 1] W fun o w' => o = .returned (.agg #[.bool false, .bool false, .bool false, .bool false, .bool false, .bool false]) ∧ Below W.heap.size W w' := fun W => has_any 1 W
  have hX := OpX.new w D A n c B m d
  have x0 : (w.alloc (.cells (opC D A n c B m d) 40)).cell? ⟨w.heap.size, 0, none⟩ = some (.int .i64 1) := by rw [hX.c0, hk]
  have ea : (D.a == 0) = false := by simpa using ha
  go_enter Try.func38, Try.ntmps38
  go_wp2_with (first
    | (go_at_call 55; (with_reducible refine (cH _).mono ?_); rintro o1 w1 ⟨rfl, hb1⟩; have hY := (hX.below hb1).alloc (.cells #[.bool false, .bool false, .bool false, .bool false, .bool false, .bool false] 92); have hZ := (hB.trans (hb1.mono hB.size)).alloc (hB.trans (hb1.mono hB.size)).size (.cells #[.bool false, .bool false, .bool false, .bool false, .bool false, .bool false] 92); have y2 : (w1.alloc (.cells #[.bool false, .bool false, .bool false, .bool false, .bool false, .bool false] 92)).cell? ⟨w.heap.size, 2, none⟩ = some (.string ⟨#[]⟩) := (by have z := hY.c2; rw [ht] at z; exact z); have y3 : (w1.alloc (.cells #[.bool false, .bool false, .bool false, .bool false, .bool false, .bool false] 92)).cell? ⟨w.heap.size, 3, none⟩ = some (.int .i64 D.a) := hY.c3; clear hY hX x0))
  go_ret
  exact ⟨rfl, hZ⟩

set_option maxRecDepth 100000 in
set_option maxHeartbeats 4000000 in
theorem bare_1_2 (D : OpD) (hK : D.K.length = 32) (A : Option Addr) (n c : Nat) (hlo : D.o.length = n) (B : Option Addr) (m d : Nat) (hln : D.n.length = m) (w : World) (hk : D.k = 1) (ht : D.t = []) (ha : D.a = 0) (ho : ¬ D.o = []) :
    Calls Try.prog 38 #[.agg (opC D A n c B m d)] w fun o w' => o = .returned (.bool false) ∧ Below w.heap.size w w' := by
  have hB : Below w.heap.size w (w.alloc (.cells (opC D A n c B m d) 40)) := (Below.refl _ w).alloc (Nat.le_refl _) _
  have cH : ∀ W, Calls Try.prog 55 #[.int .i64 1] W fun o w' => o = .returned (.agg #[.bool false, .bool false, .bool false, .bool false, .bool false, .bool false]) ∧ Below W.heap.size W w' := fun W => has_any 1 W
  have hX := OpX.new w D A n c B m d
  have x0 : (w.alloc (.cells (opC D A n c B m d) 40)).cell? ⟨w.heap.size, 0, none⟩ = some (.int .i64 1) := by rw [hX.c0, hk]
  have eo : ((n : Int) == 0) = false := by rw [beq_eq_false_iff_ne, ← hlo]; intro h; exact ho (List.length_eq_zero_iff.1 (by omega))
  go_enter Try.func38, Try.ntmps38
  go_wp2_with (first
    | (go_at_call 55; (with_reducible refine (cH _).mono ?_); rintro o1 w1 ⟨rfl, hb1⟩; have hY := (hX.below hb1).alloc (.cells #[.bool false, .bool false, .bool false, .bool false, .bool false, .bool false] 92); have hZ := (hB.trans (hb1.mono hB.size)).alloc (hB.trans (hb1.mono hB.size)).size (.cells #[.bool false, .bool false, .bool false, .bool false, .bool false, .bool false] 92); have y2 : (w1.alloc (.cells #[.bool false, .bool false, .bool false, .bool false, .bool false, .bool false] 92)).cell? ⟨w.heap.size, 2, none⟩ = some (.string ⟨#[]⟩) := (by have z := hY.c2; rw [ht] at z; exact z); have y3 : (w1.alloc (.cells #[.bool false, .bool false, .bool false, .bool false, .bool false, .bool false] 92)).cell? ⟨w.heap.size, 3, none⟩ = some (.int .i64 0) := (by rw [hY.c3, ha]); have y4 : (w1.alloc (.cells #[.bool false, .bool false, .bool false, .bool false, .bool false, .bool false] 92)).cell? ⟨w.heap.size, 4, none⟩ = some (.slice A n c) := hY.c4; clear hY hX x0))
  go_ret
  exact ⟨rfl, hZ⟩

set_option maxRecDepth 100000 in
set_option maxHeartbeats 4000000 in
theorem bare_1_3 (D : OpD) (hK : D.K.length = 32) (A : Option Addr) (n c : Nat) (hlo : D.o.length = n) (B : Option Addr) (m d : Nat) (hln : D.n.length = m) (w : World) (hk : D.k = 1) (ht : D.t = []) (ha : D.a = 0) (ho : D.o = []) (hn : ¬ D.n = []) :
    Calls Try.prog 38 #[.agg (opC D A n c B m d)] w fun o w' => o = .returned (.bool false) ∧ Below w.heap.size w w' := by
  have hB : Below w.heap.size w (w.alloc (.cells (opC D A n c B m d) 40)) := (Below.refl _ w).alloc (Nat.le_refl _) _
  have cH : ∀ W, Calls Try.prog 55 #[.int .i64 1] W fun o w' => o = .returned (.agg #[.bool false, .bool false, .bool false, .bool false, .bool false, .bool false]) ∧ Below W.heap.size W w' := fun W => has_any 1 W
  have hX := OpX.new w D A n c B m d
  have x0 : (w.alloc (.cells (opC D A n c B m d) 40)).cell? ⟨w.heap.size, 0, none⟩ = some (.int .i64 1) := by rw [hX.c0, hk]
  have eo : ((n : Int) == 0) = true := by rw [beq_iff_eq, ← hlo, ho]; rfl
  have en : ((m : Int) == 0) = false := by rw [beq_eq_false_iff_ne, ← hln]; intro h; exact hn (List.length_eq_zero_iff.1 (by omega))
  go_enter Try.func38, Try.ntmps38
  go_wp2_with (first
    | (go_at_call 55; (with_reducible refine (cH _).mono ?_); rintro o1 w1 ⟨rfl, hb1⟩; have hY := (hX.below hb1).alloc (.cells #[.bool false, .bool false, .bool false, .bool false, .bool false, .bool false] 92); have hZ := (hB.trans (hb1.mono hB.size)).alloc (hB.trans (hb1.mono hB.size)).size (.cells #[.bool false, .bool false, .bool false, .bool false, .bool false, .bool false] 92); have y2 : (w1.alloc (.cells #[.bool false, .bool false, .bool false, .bool false, .bool false, .bool false] 92)).cell? ⟨w.heap.size, 2, none⟩ = some (.string ⟨#[]⟩) := (by have z := hY.c2; rw [ht] at z; exact z); have y3 : (w1.alloc (.cells #[.bool false, .bool false, .bool false, .bool false, .bool false, .bool false] 92)).cell? ⟨w.heap.size, 3, none⟩ = some (.int .i64 0) := (by rw [hY.c3, ha]); have y4 : (w1.alloc (.cells #[.bool false, .bool false, .bool false, .bool false, .bool false, .bool false] 92)).cell? ⟨w.heap.size, 4, none⟩ = some (.slice A n c) := hY.c4; have y5 : (w1.alloc (.cells #[.bool false, .bool false, .bool false, .bool false, .bool false, .bool false] 92)).cell? ⟨w.heap.size, 5, none⟩ = some (.slice B m d) := hY.c5; clear hY hX x0))
  go_ret
  exact ⟨rfl, hZ⟩

set_option maxRecDepth 100000 in
set_option maxHeartbeats 4000000 in
theorem bare_1_4 (D : OpD) (hK : D.K.length = 32) (A : Option Addr) (n c : Nat) (hlo : D.o.length = n) (B : Option Addr) (m d : Nat) (hln : D.n.length = m) (w : World) (hk : D.k = 1) (ht : D.t = []) (ha : D.a = 0) (ho : D.o = []) (hn : D.n = []) (hK0 : ¬ D.K = zeroB) :
    Calls Try.prog 38 #[.agg (opC D A n c B m d)] w fun o w' => o = .returned (.bool false) ∧ Below w.heap.size w w' := by
  have hB : Below w.heap.size w (w.alloc (.cells (opC D A n c B m d) 40)) := (Below.refl _ w).alloc (Nat.le_refl _) _
  have cH : ∀ W, Calls Try.prog 55 #[.int .i64 1] W fun o w' => o = .returned (.agg #[.bool false, .bool false, .bool false, .bool false, .bool false, .bool false]) ∧ Below W.heap.size W w' := fun W => has_any 1 W
  have hX := OpX.new w D A n c B m d
  have x0 : (w.alloc (.cells (opC D A n c B m d) 40)).cell? ⟨w.heap.size, 0, none⟩ = some (.int .i64 1) := by rw [hX.c0, hk]
  have eo : ((n : Int) == 0) = true := by rw [beq_iff_eq, ← hlo, ho]; rfl
  have en : ((m : Int) == 0) = true := by rw [beq_iff_eq, ← hln, hn]; rfl
  have hu := Try.underlying38
  have hHZ : (Try.prog.info? 38).map (·.size) = some (D.K.map u8v).length := by rw [List.length_map, hK]; exact sizeId
  have heq : ∀ W, (Op.equalIn 10000 38 (.agg (List.map u8v D.K).toArray) (.agg (idVals zeroB))).run Try.prog W = .ok false W := fun W => (ids_eq W D.K zeroB hK rfl).trans (by rw [decide_eq_false hK0])
  rw [zeroB_vals] at heq
  go_enter Try.func38, Try.ntmps38
  go_wp2_with (first
    | (go_at_call 55; (with_reducible refine (cH _).mono ?_); rintro o1 w1 ⟨rfl, hb1⟩; have hY := (hX.below hb1).alloc (.cells #[.bool false, .bool false, .bool false, .bool false, .bool false, .bool false] 92); have hZ := (hB.trans (hb1.mono hB.size)).alloc (hB.trans (hb1.mono hB.size)).size (.cells #[.bool false, .bool false, .bool false, .bool false, .bool false, .bool false] 92); have y2 : (w1.alloc (.cells #[.bool false, .bool false, .bool false, .bool false, .bool false, .bool false] 92)).cell? ⟨w.heap.size, 2, none⟩ = some (.string ⟨#[]⟩) := (by have z := hY.c2; rw [ht] at z; exact z); have y3 : (w1.alloc (.cells #[.bool false, .bool false, .bool false, .bool false, .bool false, .bool false] 92)).cell? ⟨w.heap.size, 3, none⟩ = some (.int .i64 0) := (by rw [hY.c3, ha]); have y4 : (w1.alloc (.cells #[.bool false, .bool false, .bool false, .bool false, .bool false, .bool false] 92)).cell? ⟨w.heap.size, 4, none⟩ = some (.slice A n c) := hY.c4; have y5 : (w1.alloc (.cells #[.bool false, .bool false, .bool false, .bool false, .bool false, .bool false] 92)).cell? ⟨w.heap.size, 5, none⟩ = some (.slice B m d) := hY.c5; have yK := hY.key; clear hY hX x0)
    | (with_reducible refine wpList_load_if (by with_unfolding_all rfl) 38 _ rfl _ _ rfl (D.K.map u8v) _ yK hu (by with_unfolding_all rfl) hHZ ?_))
  go_ret
  exact ⟨rfl, hZ⟩

set_option maxRecDepth 100000 in
set_option maxHeartbeats 4000000 in
theorem bare_1_5 (D : OpD) (hK : D.K.length = 32) (A : Option Addr) (n c : Nat) (hlo : D.o.length = n) (B : Option Addr) (m d : Nat) (hln : D.n.length = m) (w : World) (hk : D.k = 1) (ht : D.t = []) (ha : D.a = 0) (ho : D.o = []) (hn : D.n = []) (hK0 : D.K = zeroB) (hd : ¬ D.d = 0) :
    Calls Try.prog 38 #[.agg (opC D A n c B m d)] w fun o w' => o = .returned (.bool false) ∧ Below w.heap.size w w' := by
  have hB : Below w.heap.size w (w.alloc (.cells (opC D A n c B m d) 40)) := (Below.refl _ w).alloc (Nat.le_refl _) _
  have cH : ∀ W, Calls Try.prog 55 #[.int .i64 1] W fun o w' => o = .returned (.agg #[.bool false, .bool false, .bool false, .bool false, .bool false, .bool false]) ∧ Below W.heap.size W w' := fun W => has_any 1 W
  have hX := OpX.new w D A n c B m d
  have x0 : (w.alloc (.cells (opC D A n c B m d) 40)).cell? ⟨w.heap.size, 0, none⟩ = some (.int .i64 1) := by rw [hX.c0, hk]
  have ed : (D.d == 0) = false := by simpa using hd
  have eo : ((n : Int) == 0) = true := by rw [beq_iff_eq, ← hlo, ho]; rfl
  have en : ((m : Int) == 0) = true := by rw [beq_iff_eq, ← hln, hn]; rfl
  have hu := Try.underlying38
  have hHZ : (Try.prog.info? 38).map (·.size) = some (D.K.map u8v).length := by rw [List.length_map, hK]; exact sizeId
  have heq : ∀ W, (Op.equalIn 10000 38 (.agg (List.map u8v D.K).toArray) (.agg (idVals zeroB))).run Try.prog W = .ok true W := fun W => (ids_eq W D.K zeroB hK rfl).trans (by rw [decide_eq_true hK0])
  rw [zeroB_vals] at heq
  clear hK0
  go_enter Try.func38, Try.ntmps38
  go_wp2_with (first
    | (go_at_call 55; (with_reducible refine (cH _).mono ?_); rintro o1 w1 ⟨rfl, hb1⟩; have hY := (hX.below hb1).alloc (.cells #[.bool false, .bool false, .bool false, .bool false, .bool false, .bool false] 92); have hZ := (hB.trans (hb1.mono hB.size)).alloc (hB.trans (hb1.mono hB.size)).size (.cells #[.bool false, .bool false, .bool false, .bool false, .bool false, .bool false] 92); have y2 : (w1.alloc (.cells #[.bool false, .bool false, .bool false, .bool false, .bool false, .bool false] 92)).cell? ⟨w.heap.size, 2, none⟩ = some (.string ⟨#[]⟩) := (by have z := hY.c2; rw [ht] at z; exact z); have y3 : (w1.alloc (.cells #[.bool false, .bool false, .bool false, .bool false, .bool false, .bool false] 92)).cell? ⟨w.heap.size, 3, none⟩ = some (.int .i64 0) := (by rw [hY.c3, ha]); have y4 : (w1.alloc (.cells #[.bool false, .bool false, .bool false, .bool false, .bool false, .bool false] 92)).cell? ⟨w.heap.size, 4, none⟩ = some (.slice A n c) := hY.c4; have y5 : (w1.alloc (.cells #[.bool false, .bool false, .bool false, .bool false, .bool false, .bool false] 92)).cell? ⟨w.heap.size, 5, none⟩ = some (.slice B m d) := hY.c5; have y38 : (w1.alloc (.cells #[.bool false, .bool false, .bool false, .bool false, .bool false, .bool false] 92)).cell? ⟨w.heap.size, 38, none⟩ = some (.int .i64 D.d) := hY.c38 hK; have yK := hY.key; clear hY hX x0)
    | (with_reducible refine wpList_load_if (by with_unfolding_all rfl) 38 _ rfl _ _ rfl (D.K.map u8v) _ yK hu (by with_unfolding_all rfl) hHZ ?_))
  go_ret
  exact ⟨rfl, hZ⟩

set_option maxRecDepth 100000 in
set_option maxHeartbeats 4000000 in
theorem bare_1_6 (D : OpD) (hK : D.K.length = 32) (A : Option Addr) (n c : Nat) (hlo : D.o.length = n) (B : Option Addr) (m d : Nat) (hln : D.n.length = m) (w : World) (hk : D.k = 1) (ht : D.t = []) (ha : D.a = 0) (ho : D.o = []) (hn : D.n = []) (hK0 : D.K = zeroB) (hd : D.d = 0) :
    Calls Try.prog 38 #[.agg (opC D A n c B m d)] w fun o w' => o = .returned (.bool true) ∧ Below w.heap.size w w' := by
  have hB : Below w.heap.size w (w.alloc (.cells (opC D A n c B m d) 40)) := (Below.refl _ w).alloc (Nat.le_refl _) _
  have cH : ∀ W, Calls Try.prog 55 #[.int .i64 1] W fun o w' => o = .returned (.agg #[.bool false, .bool false, .bool false, .bool false, .bool false, .bool false]) ∧ Below W.heap.size W w' := fun W => has_any 1 W
  have hX := OpX.new w D A n c B m d
  have x0 : (w.alloc (.cells (opC D A n c B m d) 40)).cell? ⟨w.heap.size, 0, none⟩ = some (.int .i64 1) := by rw [hX.c0, hk]
  have eo : ((n : Int) == 0) = true := by rw [beq_iff_eq, ← hlo, ho]; rfl
  have en : ((m : Int) == 0) = true := by rw [beq_iff_eq, ← hln, hn]; rfl
  have hu := Try.underlying38
  have hHZ : (Try.prog.info? 38).map (·.size) = some (D.K.map u8v).length := by rw [List.length_map, hK]; exact sizeId
  have heq : ∀ W, (Op.equalIn 10000 38 (.agg (List.map u8v D.K).toArray) (.agg (idVals zeroB))).run Try.prog W = .ok true W := fun W => (ids_eq W D.K zeroB hK rfl).trans (by rw [decide_eq_true hK0])
  rw [zeroB_vals] at heq
  clear hK0
  go_enter Try.func38, Try.ntmps38
  go_wp2_with (first
    | (go_at_call 55; (with_reducible refine (cH _).mono ?_); rintro o1 w1 ⟨rfl, hb1⟩; have hY := (hX.below hb1).alloc (.cells #[.bool false, .bool false, .bool false, .bool false, .bool false, .bool false] 92); have hZ := (hB.trans (hb1.mono hB.size)).alloc (hB.trans (hb1.mono hB.size)).size (.cells #[.bool false, .bool false, .bool false, .bool false, .bool false, .bool false] 92); have y2 : (w1.alloc (.cells #[.bool false, .bool false, .bool false, .bool false, .bool false, .bool false] 92)).cell? ⟨w.heap.size, 2, none⟩ = some (.string ⟨#[]⟩) := (by have z := hY.c2; rw [ht] at z; exact z); have y3 : (w1.alloc (.cells #[.bool false, .bool false, .bool false, .bool false, .bool false, .bool false] 92)).cell? ⟨w.heap.size, 3, none⟩ = some (.int .i64 0) := (by rw [hY.c3, ha]); have y4 : (w1.alloc (.cells #[.bool false, .bool false, .bool false, .bool false, .bool false, .bool false] 92)).cell? ⟨w.heap.size, 4, none⟩ = some (.slice A n c) := hY.c4; have y5 : (w1.alloc (.cells #[.bool false, .bool false, .bool false, .bool false, .bool false, .bool false] 92)).cell? ⟨w.heap.size, 5, none⟩ = some (.slice B m d) := hY.c5; have y38 : (w1.alloc (.cells #[.bool false, .bool false, .bool false, .bool false, .bool false, .bool false] 92)).cell? ⟨w.heap.size, 38, none⟩ = some (.int .i64 0) := (by rw [hY.c38 hK, hd]); have yK := hY.key; clear hY hX x0)
    | (with_reducible refine wpList_load_if (by with_unfolding_all rfl) 38 _ rfl _ _ rfl (D.K.map u8v) _ yK hu (by with_unfolding_all rfl) hHZ ?_))
  go_ret
  exact ⟨rfl, hZ⟩

set_option maxRecDepth 100000 in
set_option maxHeartbeats 4000000 in
theorem bare_2_0 (D : OpD) (hK : D.K.length = 32) (A : Option Addr) (n c : Nat) (hlo : D.o.length = n) (B : Option Addr) (m d : Nat) (hln : D.n.length = m) (w : World) (hk : D.k = 2) (ht : ¬ D.t = []) :
    Calls Try.prog 38 #[.agg (opC D A n c B m d)] w fun o w' => o = .returned (.bool false) ∧ Below w.heap.size w w' := by
  have hB : Below w.heap.size w (w.alloc (.cells (opC D A n c B m d) 40)) := (Below.refl _ w).alloc (Nat.le_refl _) _
  have cH : ∀ W, Calls Try.prog 55 #[.int .i64 2] W fun o w' => o = .returned (.agg #[.bool false, .bool false, .bool true, .bool false, .bool false, .bool false]) ∧ Below W.heap.size W w' := fun W => has_any 2 W
  have hX := OpX.new w D A n c B m d
  have x0 : (w.alloc (.cells (opC D A n c B m d) 40)).cell? ⟨w.heap.size, 0, none⟩ = some (.int .i64 2) := by rw [hX.c0, hk]
  have et : (D.t == []) = false := by simpa using ht
  go_enter Try.func38, Try.ntmps38
  go_wp2_with (first
    | (go_at_call 55; (with_reducible refine (cH _).mono ?_); rintro o1 w1 ⟨rfl, hb1⟩; have hY := (hX.below hb1).alloc (.cells #[.bool false, .bool false, .bool true, .bool false, .bool false, .bool false] 92); have hZ := (hB.trans (hb1.mono hB.size)).alloc (hB.trans (hb1.mono hB.size)).size (.cells #[.bool false, .bool false, .bool true, .bool false, .bool false, .bool false] 92); have y2 : (w1.alloc (.cells #[.bool false, .bool false, .bool true, .bool false, .bool false, .bool false] 92)).cell? ⟨w.heap.size, 2, none⟩ = some (.string (txt D.t)) := hY.c2; clear hY hX x0))
  go_ret
  exact ⟨rfl, hZ⟩

set_option maxRecDepth 100000 in
set_option maxHeartbeats 4000000 in
theorem bare_2_1 (D : OpD) (hK : D.K.length = 32) (A : Option Addr) (n c : Nat) (hlo : D.o.length = n) (B : Option Addr) (m d : Nat) (hln : D.n.length = m) (w : World) (hk : D.k = 2) (ht : D.t = []) (ha : ¬ D.a = 0) :
    Calls Try.prog 38 #[.agg (opC D A n c B m d)] w fun o w' => o = .returned (.bool false) ∧ Below w.heap.size w w' := by
  have hB : Below w.heap.size w (w.alloc (.cells (opC D A n c B m d) 40)) := (Below.refl _ w).alloc (Nat.le_refl _) _
  have cH : ∀ W, Calls Try.prog 55 #[.int .i64 2] W fun o w' => o = .returned (.agg #[.bool false, .bool false, .bool true, .bool false, .bool false, .bool false]) ∧ Below W.heap.size W w' := fun W => has_any 2 W
  have hX := OpX.new w D A n c B m d
  have x0 : (w.alloc (.cells (opC D A n c B m d) 40)).cell? ⟨w.heap.size, 0, none⟩ = some (.int .i64 2) := by rw [hX.c0, hk]
  have ea : (D.a == 0) = false := by simpa using ha
  go_enter Try.func38, Try.ntmps38
  go_wp2_with (first
    | (go_at_call 55; (with_reducible refine (cH _).mono ?_); rintro o1 w1 ⟨rfl, hb1⟩; have hY := (hX.below hb1).alloc (.cells #[.bool false, .bool false, .bool true, .bool false, .bool false, .bool false] 92); have hZ := (hB.trans (hb1.mono hB.size)).alloc (hB.trans (hb1.mono hB.size)).size (.cells #[.bool false, .bool false, .bool true, .bool false, .bool false, .bool false] 92); have y2 : (w1.alloc (.cells #[.bool false, .bool false, .bool true, .bool false, .bool false, .bool false] 92)).cell? ⟨w.heap.size, 2, none⟩ = some (.string ⟨#[]⟩) := (by have z := hY.c2; rw [ht] at z; exact z); have y3 : (w1.alloc (.cells #[.bool false, .bool false, .bool true, .bool false, .bool false, .bool false] 92)).cell? ⟨w.heap.size, 3, none⟩ = some (.int .i64 D.a) := hY.c3; clear hY hX x0))
  go_ret
  exact ⟨rfl, hZ⟩

set_option maxRecDepth 100000 in
set_option maxHeartbeats 4000000 in
theorem bare_2_2 (D : OpD) (hK : D.K.length = 32) (A : Option Addr) (n c : Nat) (hlo : D.o.length = n) (B : Option Addr) (m d : Nat) (hln : D.n.length = m) (w : World) (hk : D.k = 2) (ht : D.t = []) (ha : D.a = 0) (hn : ¬ D.n = []) :
    Calls Try.prog 38 #[.agg (opC D A n c B m d)] w fun o w' => o = .returned (.bool false) ∧ Below w.heap.size w w' := by
  have hB : Below w.heap.size w (w.alloc (.cells (opC D A n c B m d) 40)) := (Below.refl _ w).alloc (Nat.le_refl _) _
  have cH : ∀ W, Calls Try.prog 55 #[.int .i64 2] W fun o w' => o = .returned (.agg #[.bool false, .bool false, .bool true, .bool false, .bool false, .bool false]) ∧ Below W.heap.size W w' := fun W => has_any 2 W
  have hX := OpX.new w D A n c B m d
  have x0 : (w.alloc (.cells (opC D A n c B m d) 40)).cell? ⟨w.heap.size, 0, none⟩ = some (.int .i64 2) := by rw [hX.c0, hk]
  have en : ((m : Int) == 0) = false := by rw [beq_eq_false_iff_ne, ← hln]; intro h; exact hn (List.length_eq_zero_iff.1 (by omega))
  go_enter Try.func38, Try.ntmps38
  go_wp2_with (first
    | (go_at_call 55; (with_reducible refine (cH _).mono ?_); rintro o1 w1 ⟨rfl, hb1⟩; have hY := (hX.below hb1).alloc (.cells #[.bool false, .bool false, .bool true, .bool false, .bool false, .bool false] 92); have hZ := (hB.trans (hb1.mono hB.size)).alloc (hB.trans (hb1.mono hB.size)).size (.cells #[.bool false, .bool false, .bool true, .bool false, .bool false, .bool false] 92); have y2 : (w1.alloc (.cells #[.bool false, .bool false, .bool true, .bool false, .bool false, .bool false] 92)).cell? ⟨w.heap.size, 2, none⟩ = some (.string ⟨#[]⟩) := (by have z := hY.c2; rw [ht] at z; exact z); have y3 : (w1.alloc (.cells #[.bool false, .bool false, .bool true, .bool false, .bool false, .bool false] 92)).cell? ⟨w.heap.size, 3, none⟩ = some (.int .i64 0) := (by rw [hY.c3, ha]); have y5 : (w1.alloc (.cells #[.bool false, .bool false, .bool true, .bool false, .bool false, .bool false] 92)).cell? ⟨w.heap.size, 5, none⟩ = some (.slice B m d) := hY.c5; clear hY hX x0))
  go_ret
  exact ⟨rfl, hZ⟩

set_option maxRecDepth 100000 in
set_option maxHeartbeats 4000000 in
theorem bare_2_3 (D : OpD) (hK : D.K.length = 32) (A : Option Addr) (n c : Nat) (hlo : D.o.length = n) (B : Option Addr) (m d : Nat) (hln : D.n.length = m) (w : World) (hk : D.k = 2) (ht : D.t = []) (ha : D.a = 0) (hn : D.n = []) (hK0 : ¬ D.K = zeroB) :
    Calls Try.prog 38 #[.agg (opC D A n c B m d)] w fun o w' => o = .returned (.bool false) ∧ Below w.heap.size w w' := by
  have hB : Below w.heap.size w (w.alloc (.cells (opC D A n c B m d) 40)) := (Below.refl _ w).alloc (Nat.le_refl _) _
  have cH : ∀ W, Calls Try.prog 55 #[.int .i64 2] W fun o w' => o = .returned (.agg #[.bool false, .bool false, .bool true, .bool false, .bool false, .bool false]) ∧ Below W.heap.size W w' := fun W => has_any 2 W
  have hX := OpX.new w D A n c B m d
  have x0 : (w.alloc (.cells (opC D A n c B m d) 40)).cell? ⟨w.heap.size, 0, none⟩ = some (.int .i64 2) := by rw [hX.c0, hk]
  have en : ((m : Int) == 0) = true := by rw [beq_iff_eq, ← hln, hn]; rfl
  have hu := Try.underlying38
  have hHZ : (Try.prog.info? 38).map (·.size) = some (D.K.map u8v).length := by rw [List.length_map, hK]; exact sizeId
  have heq : ∀ W, (Op.equalIn 10000 38 (.agg (List.map u8v D.K).toArray) (.agg (idVals zeroB))).run Try.prog W = .ok false W := fun W => (ids_eq W D.K zeroB hK rfl).trans (by rw [decide_eq_false hK0])
  rw [zeroB_vals] at heq
  go_enter Try.func38, Try.ntmps38
  go_wp2_with (first
    | (go_at_call 55; (with_reducible refine (cH _).mono ?_); rintro o1 w1 ⟨rfl, hb1⟩; have hY := (hX.below hb1).alloc (.cells #[.bool false, .bool false, .bool true, .bool false, .bool false, .bool false] 92); have hZ := (hB.trans (hb1.mono hB.size)).alloc (hB.trans (hb1.mono hB.size)).size (.cells #[.bool false, .bool false, .bool true, .bool false, .bool false, .bool false] 92); have y2 : (w1.alloc (.cells #[.bool false, .bool false, .bool true, .bool false, .bool false, .bool false] 92)).cell? ⟨w.heap.size, 2, none⟩ = some (.string ⟨#[]⟩) := (by have z := hY.c2; rw [ht] at z; exact z); have y3 : (w1.alloc (.cells #[.bool false, .bool false, .bool true, .bool false, .bool false, .bool false] 92)).cell? ⟨w.heap.size, 3, none⟩ = some (.int .i64 0) := (by rw [hY.c3, ha]); have y5 : (w1.alloc (.cells #[.bool false, .bool false, .bool true, .bool false, .bool false, .bool false] 92)).cell? ⟨w.heap.size, 5, none⟩ = some (.slice B m d) := hY.c5; have yK := hY.key; clear hY hX x0)
    | (with_reducible refine wpList_load_if (by with_unfolding_all rfl) 38 _ rfl _ _ rfl (D.K.map u8v) _ yK hu (by with_unfolding_all rfl) hHZ ?_))
  go_ret
  exact ⟨rfl, hZ⟩

set_option maxRecDepth 100000 in
set_option maxHeartbeats 4000000 in
theorem bare_2_4 (D : OpD) (hK : D.K.length = 32) (A : Option Addr) (n c : Nat) (hlo : D.o.length = n) (B : Option Addr) (m d : Nat) (hln : D.n.length = m) (w : World) (hk : D.k = 2) (ht : D.t = []) (ha : D.a = 0) (hn : D.n = []) (hK0 : D.K = zeroB) (hd : ¬ D.d = 0) :
    Calls Try.prog 38 #[.agg (opC D A n c B m d)] w fun o w' => o = .returned (.bool false) ∧ Below w.heap.size w w' := by
  have hB : Below w.heap.size w (w.alloc (.cells (opC D A n c B m d) 40)) := (Below.refl _ w).alloc (Nat.le_refl _) _
  have cH : ∀ W, Calls Try.prog 55 #[.int .i64 2] W fun o w' => o = .returned (.agg #[.bool false, .bool false, .bool true, .bool false, .bool false, .bool false]) ∧ Below W.heap.size W w' := fun W => has_any 2 W
  have hX := OpX.new w D A n c B m d
  have x0 : (w.alloc (.cells (opC D A n c B m d) 40)).cell? ⟨w.heap.size, 0, none⟩ = some (.int .i64 2) := by rw [hX.c0, hk]
  have ed : (D.d == 0) = false := by simpa using hd
  have en : ((m : Int) == 0) = true := by rw [beq_iff_eq, ← hln, hn]; rfl
  have hu := Try.underlying38
  have hHZ : (Try.prog.info? 38).map (·.size) = some (D.K.map u8v).length := by rw [List.length_map, hK]; exact sizeId
  have heq : ∀ W, (Op.equalIn 10000 38 (.agg (List.map u8v D.K).toArray) (.agg (idVals zeroB))).run Try.prog W = .ok true W := fun W => (ids_eq W D.K zeroB hK rfl).trans (by rw [decide_eq_true hK0])
  rw [zeroB_vals] at heq
  clear hK0
  go_enter Try.func38, Try.ntmps38
  go_wp2_with (first
    | (go_at_call 55; (with_reducible refine (cH _).mono ?_); rintro o1 w1 ⟨rfl, hb1⟩; have hY := (hX.below hb1).alloc (.cells #[.bool false, .bool false, .bool true, .bool false, .bool false, .bool false] 92); have hZ := (hB.trans (hb1.mono hB.size)).alloc (hB.trans (hb1.mono hB.size)).size (.cells #[.bool false, .bool false, .bool true, .bool false, .bool false, .bool false] 92); have y2 : (w1.alloc (.cells #[.bool false, .bool false, .bool true, .bool false, .bool false, .bool false] 92)).cell? ⟨w.heap.size, 2, none⟩ = some (.string ⟨#[]⟩) := (by have z := hY.c2; rw [ht] at z; exact z); have y3 : (w1.alloc (.cells #[.bool false, .bool false, .bool true, .bool false, .bool false, .bool false] 92)).cell? ⟨w.heap.size, 3, none⟩ = some (.int .i64 0) := (by rw [hY.c3, ha]); have y5 : (w1.alloc (.cells #[.bool false, .bool false, .bool true, .bool false, .bool false, .bool false] 92)).cell? ⟨w.heap.size, 5, none⟩ = some (.slice B m d) := hY.c5; have y38 : (w1.alloc (.cells #[.bool false, .bool false, .bool true, .bool false, .bool false, .bool false] 92)).cell? ⟨w.heap.size, 38, none⟩ = some (.int .i64 D.d) := hY.c38 hK; have yK := hY.key; clear hY hX x0)
    | (with_reducible refine wpList_load_if (by with_unfolding_all rfl) 38 _ rfl _ _ rfl (D.K.map u8v) _ yK hu (by with_unfolding_all rfl) hHZ ?_))
  go_ret
  exact ⟨rfl, hZ⟩

set_option maxRecDepth 100000 in
set_option maxHeartbeats 4000000 in
theorem bare_2_5 (D : OpD) (hK : D.K.length = 32) (A : Option Addr) (n c : Nat) (hlo : D.o.length = n) (B : Option Addr) (m d : Nat) (hln : D.n.length = m) (w : World) (hk : D.k = 2) (ht : D.t = []) (ha : D.a = 0) (hn : D.n = []) (hK0 : D.K = zeroB) (hd : D.d = 0) :
    Calls Try.prog 38 #[.agg (opC D A n c B m d)] w fun o w' => o = .returned (.bool true) ∧ Below w.heap.size w w' := by
  have hB : Below w.heap.size w (w.alloc (.cells (opC D A n c B m d) 40)) := (Below.refl _ w).alloc (Nat.le_refl _) _
  have cH : ∀ W, Calls Try.prog 55 #[.int .i64 2] W fun o w' => o = .returned (.agg #[.bool false, .bool false, .bool true, .bool false, .bool false, .bool false]) ∧ Below W.heap.size W w' := fun W => has_any 2 W
  have hX := OpX.new w D A n c B m d
  have x0 : (w.alloc (.cells (opC D A n c B m d) 40)).cell? ⟨w.heap.size, 0, none⟩ = some (.int .i64 2) := by rw [hX.c0, hk]
  have en : ((m : Int) == 0) = true := by rw [beq_iff_eq, ← hln, hn]; rfl
  have hu := Try.underlying38
  have hHZ : (Try.prog.info? 38).map (·.size) = some (D.K.map u8v).length := by rw [List.length_map, hK]; exact sizeId
  have heq : ∀ W, (Op.equalIn 10000 38 (.agg (List.map u8v D.K).toArray) (.agg (idVals zeroB))).run Try.prog W = .ok true W := fun W => (ids_eq W D.K zeroB hK rfl).trans (by rw [decide_eq_true hK0])
  rw [zeroB_vals] at heq
  clear hK0
  go_enter Try.func38, Try.ntmps38
  go_wp2_with (first
    | (go_at_call 55; (with_reducible refine (cH _).mono ?_); rintro o1 w1 ⟨rfl, hb1⟩; have hY := (hX.below hb1).alloc (.cells #[.bool false, .bool false, .bool true, .bool false, .bool false, .bool false] 92); have hZ := (hB.trans (hb1.mono hB.size)).alloc (hB.trans (hb1.mono hB.size)).size (.cells #[.bool false, .bool false, .bool true, .bool false, .bool false, .bool false] 92); have y2 : (w1.alloc (.cells #[.bool false, .bool false, .bool true, .bool false, .bool false, .bool false] 92)).cell? ⟨w.heap.size, 2, none⟩ = some (.string ⟨#[]⟩) := (by have z := hY.c2; rw [ht] at z; exact z); have y3 : (w1.alloc (.cells #[.bool false, .bool false, .bool true, .bool false, .bool false, .bool false] 92)).cell? ⟨w.heap.size, 3, none⟩ = some (.int .i64 0) := (by rw [hY.c3, ha]); have y5 : (w1.alloc (.cells #[.bool false, .bool false, .bool true, .bool false, .bool false, .bool false] 92)).cell? ⟨w.heap.size, 5, none⟩ = some (.slice B m d) := hY.c5; have y38 : (w1.alloc (.cells #[.bool false, .bool false, .bool true, .bool false, .bool false, .bool false] 92)).cell? ⟨w.heap.size, 38, none⟩ = some (.int .i64 0) := (by rw [hY.c38 hK, hd]); have yK := hY.key; clear hY hX x0)
    | (with_reducible refine wpList_load_if (by with_unfolding_all rfl) 38 _ rfl _ _ rfl (D.K.map u8v) _ yK hu (by with_unfolding_all rfl) hHZ ?_))
  go_ret
  exact ⟨rfl, hZ⟩

set_option maxRecDepth 100000 in
set_option maxHeartbeats 4000000 in
theorem bare_3_0 (D : OpD) (hK : D.K.length = 32) (A : Option Addr) (n c : Nat) (hlo : D.o.length = n) (B : Option Addr) (m d : Nat) (hln : D.n.length = m) (w : World) (hk : D.k = 3) (ht : ¬ D.t = []) :
    Calls Try.prog 38 #[.agg (opC D A n c B m d)] w fun o w' => o = .returned (.bool false) ∧ Below w.heap.size w w' := by
  have hB : Below w.heap.size w (w.alloc (.cells (opC D A n c B m d) 40)) := (Below.refl _ w).alloc (Nat.le_refl _) _
  have cH : ∀ W, Calls Try.prog 55 #[.int .i64 3] W fun o w' => o = .returned (.agg #[.bool false, .bool true, .bool true, .bool true, .bool false, .bool false]) ∧ Below W.heap.size W w' := fun W => has_any 3 W
  have hX := OpX.new w D A n c B m d
  have x0 : (w.alloc (.cells (opC D A n c B m d) 40)).cell? ⟨w.heap.size, 0, none⟩ = some (.int .i64 3) := by rw [hX.c0, hk]
  have et : (D.t == []) = false := by simpa using ht
  go_enter Try.func38, Try.ntmps38
  go_wp2_with (first
    | (go_at_call 55; (with_reducible refine (cH _).mono ?_); rintro o1 w1 ⟨rfl, hb1⟩; have hY := (hX.below hb1).alloc (.cells #[.bool false, .bool true, .bool true, .bool true, .bool false, .bool false] 92); have hZ := (hB.trans (hb1.mono hB.size)).alloc (hB.trans (hb1.mono hB.size)).size (.cells #[.bool false, .bool true, .bool true, .bool true, .bool false, .bool false] 92); have y2 : (w1.alloc (.cells #[.bool false, .bool true, .bool true, .bool true, .bool false, .bool false] 92)).cell? ⟨w.heap.size, 2, none⟩ = some (.string (txt D.t)) := hY.c2; clear hY hX x0))
  go_ret
  exact ⟨rfl, hZ⟩

set_option maxRecDepth 100000 in
set_option maxHeartbeats 4000000 in
theorem bare_3_1 (D : OpD) (hK : D.K.length = 32) (A : Option Addr) (n c : Nat) (hlo : D.o.length = n) (B : Option Addr) (m d : Nat) (hln : D.n.length = m) (w : World) (hk : D.k = 3) (ht : D.t = []) (hK0 : ¬ D.K = zeroB) :
    Calls Try.prog 38 #[.agg (opC D A n c B m d)] w fun o w' => o = .returned (.bool false) ∧ Below w.heap.size w w' := by
  have hB : Below w.heap.size w (w.alloc (.cells (opC D A n c B m d) 40)) := (Below.refl _ w).alloc (Nat.le_refl _) _
  have cH : ∀ W, Calls Try.prog 55 #[.int .i64 3] W fun o w' => o = .returned (.agg #[.bool false, .bool true, .bool true, .bool true, .bool false, .bool false]) ∧ Below W.heap.size W w' := fun W => has_any 3 W
  have hX := OpX.new w D A n c B m d
  have x0 : (w.alloc (.cells (opC D A n c B m d) 40)).cell? ⟨w.heap.size, 0, none⟩ = some (.int .i64 3) := by rw [hX.c0, hk]
  have hu := Try.underlying38
  have hHZ : (Try.prog.info? 38).map (·.size) = some (D.K.map u8v).length := by rw [List.length_map, hK]; exact sizeId
  have heq : ∀ W, (Op.equalIn 10000 38 (.agg (List.map u8v D.K).toArray) (.agg (idVals zeroB))).run Try.prog W = .ok false W := fun W => (ids_eq W D.K zeroB hK rfl).trans (by rw [decide_eq_false hK0])
  rw [zeroB_vals] at heq
  go_enter Try.func38, Try.ntmps38
  go_wp2_with (first
    | (go_at_call 55; (with_reducible refine (cH _).mono ?_); rintro o1 w1 ⟨rfl, hb1⟩; have hY := (hX.below hb1).alloc (.cells #[.bool false, .bool true, .bool true, .bool true, .bool false, .bool false] 92); have hZ := (hB.trans (hb1.mono hB.size)).alloc (hB.trans (hb1.mono hB.size)).size (.cells #[.bool false, .bool true, .bool true, .bool true, .bool false, .bool false] 92); have y2 : (w1.alloc (.cells #[.bool false, .bool true, .bool true, .bool true, .bool false, .bool false] 92)).cell? ⟨w.heap.size, 2, none⟩ = some (.string ⟨#[]⟩) := (by have z := hY.c2; rw [ht] at z; exact z); have yK := hY.key; clear hY hX x0)
    | (with_reducible refine wpList_load_if (by with_unfolding_all rfl) 38 _ rfl _ _ rfl (D.K.map u8v) _ yK hu (by with_unfolding_all rfl) hHZ ?_))
  go_ret
  exact ⟨rfl, hZ⟩

set_option maxRecDepth 100000 in
set_option maxHeartbeats 4000000 in
theorem bare_3_2 (D : OpD) (hK : D.K.length = 32) (A : Option Addr) (n c : Nat) (hlo : D.o.length = n) (B : Option Addr) (m d : Nat) (hln : D.n.length = m) (w : World) (hk : D.k = 3) (ht : D.t = []) (hK0 : D.K = zeroB) (hd : ¬ D.d = 0) :
    Calls Try.prog 38 #[.agg (opC D A n c B m d)] w fun o w' => o = .returned (.bool false) ∧ Below w.heap.size w w' := by
  have hB : Below w.heap.size w (w.alloc (.cells (opC D A n c B m d) 40)) := (Below.refl _ w).alloc (Nat.le_refl _) _
  have cH : ∀ W, Calls Try.prog 55 #[.int .i64 3] W fun o w' => o = .returned (.agg #[.bool false, .bool true, .bool true, .bool true, .bool false, .bool false]) ∧ Below W.heap.size W w' := fun W => has_any 3 W
  have hX := OpX.new w D A n c B m d
  have x0 : (w.alloc (.cells (opC D A n c B m d) 40)).cell? ⟨w.heap.size, 0, none⟩ = some (.int .i64 3) := by rw [hX.c0, hk]
  have ed : (D.d == 0) = false := by simpa using hd
  have hu := Try.underlying38
  have hHZ : (Try.prog.info? 38).map (·.size) = some (D.K.map u8v).length := by rw [List.length_map, hK]; exact sizeId
  have heq : ∀ W, (Op.equalIn 10000 38 (.agg (List.map u8v D.K).toArray) (.agg (idVals zeroB))).run Try.prog W = .ok true W := fun W => (ids_eq W D.K zeroB hK rfl).trans (by rw [decide_eq_true hK0])
  rw [zeroB_vals] at heq
  clear hK0
  go_enter Try.func38, Try.ntmps38
  go_wp2_with (first
    | (go_at_call 55; (with_reducible refine (cH _).mono ?_); rintro o1 w1 ⟨rfl, hb1⟩; have hY := (hX.below hb1).alloc (.cells #[.bool false, .bool true, .bool true, .bool true, .bool false, .bool false] 92); have hZ := (hB.trans (hb1.mono hB.size)).alloc (hB.trans (hb1.mono hB.size)).size (.cells #[.bool false, .bool true, .bool true, .bool true, .bool false, .bool false] 92); have y2 : (w1.alloc (.cells #[.bool false, .bool true, .bool true, .bool true, .bool false, .bool false] 92)).cell? ⟨w.heap.size, 2, none⟩ = some (.string ⟨#[]⟩) := (by have z := hY.c2; rw [ht] at z; exact z); have y38 : (w1.alloc (.cells #[.bool false, .bool true, .bool true, .bool true, .bool false, .bool false] 92)).cell? ⟨w.heap.size, 38, none⟩ = some (.int .i64 D.d) := hY.c38 hK; have yK := hY.key; clear hY hX x0)
    | (with_reducible refine wpList_load_if (by with_unfolding_all rfl) 38 _ rfl _ _ rfl (D.K.map u8v) _ yK hu (by with_unfolding_all rfl) hHZ ?_))
  go_ret
  exact ⟨rfl, hZ⟩

set_option maxRecDepth 100000 in
set_option maxHeartbeats 4000000 in
theorem bare_3_3 (D : OpD) (hK : D.K.length = 32) (A : Option Addr) (n c : Nat) (hlo : D.o.length = n) (B : Option Addr) (m d : Nat) (hln : D.n.length = m) (w : World) (hk : D.k = 3) (ht : D.t = []) (hK0 : D.K = zeroB) (hd : D.d = 0) :
    Calls Try.prog 38 #[.agg (opC D A n c B m d)] w fun o w' => o = .returned (.bool true) ∧ Below w.heap.size w w' := by
  have hB : Below w.heap.size w (w.alloc (.cells (opC D A n c B m d) 40)) := (Below.refl _ w).alloc (Nat.le_refl _) _
  have cH : ∀ W, Calls Try.prog 55 #[.int .i64 3] W fun o w' => o = .returned (.agg #[.bool false, .bool true, .bool true, .bool true, .bool false, .bool false]) ∧ Below W.heap.size W w' := fun W => has_any 3 W
  have hX := OpX.new w D A n c B m d
  have x0 : (w.alloc (.cells (opC D A n c B m d) 40)).cell? ⟨w.heap.size, 0, none⟩ = some (.int .i64 3) := by rw [hX.c0, hk]
  have hu := Try.underlying38
  have hHZ : (Try.prog.info? 38).map (·.size) = some (D.K.map u8v).length := by rw [List.length_map, hK]; exact sizeId
  have heq : ∀ W, (Op.equalIn 10000 38 (.agg (List.map u8v D.K).toArray) (.agg (idVals zeroB))).run Try.prog W = .ok true W := fun W => (ids_eq W D.K zeroB hK rfl).trans (by rw [decide_eq_true hK0])
  rw [zeroB_vals] at heq
  clear hK0
  go_enter Try.func38, Try.ntmps38
  go_wp2_with (first
    | (go_at_call 55; (with_reducible refine (cH _).mono ?_); rintro o1 w1 ⟨rfl, hb1⟩; have hY := (hX.below hb1).alloc (.cells #[.bool false, .bool true, .bool true, .bool true, .bool false, .bool false] 92); have hZ := (hB.trans (hb1.mono hB.size)).alloc (hB.trans (hb1.mono hB.size)).size (.cells #[.bool false, .bool true, .bool true, .bool true, .bool false, .bool false] 92); have y2 : (w1.alloc (.cells #[.bool false, .bool true, .bool true, .bool true, .bool false, .bool false] 92)).cell? ⟨w.heap.size, 2, none⟩ = some (.string ⟨#[]⟩) := (by have z := hY.c2; rw [ht] at z; exact z); have y38 : (w1.alloc (.cells #[.bool false, .bool true, .bool true, .bool true, .bool false, .bool false] 92)).cell? ⟨w.heap.size, 38, none⟩ = some (.int .i64 0) := (by rw [hY.c38 hK, hd]); have yK := hY.key; clear hY hX x0)
    | (with_reducible refine wpList_load_if (by with_unfolding_all rfl) 38 _ rfl _ _ rfl (D.K.map u8v) _ yK hu (by with_unfolding_all rfl) hHZ ?_))
  go_ret
  exact ⟨rfl, hZ⟩

set_option maxRecDepth 100000 in
set_option maxHeartbeats 4000000 in
theorem bare_4_0 (D : OpD) (hK : D.K.length = 32) (A : Option Addr) (n c : Nat) (hlo : D.o.length = n) (B : Option Addr) (m d : Nat) (hln : D.n.length = m) (w : World) (hk : D.k = 4) (ha : ¬ D.a = 0) :
    Calls Try.prog 38 #[.agg (opC D A n c B m d)] w fun o w' => o = .returned (.bool false) ∧ Below w.heap.size w w' := by
  have hB : Below w.heap.size w (w.alloc (.cells (opC D A n c B m d) 40)) := (Below.refl _ w).alloc (Nat.le_refl _) _
  have cH : ∀ W, Calls Try.prog 55 #[.int .i64 4] W fun o w' => o = .returned (.agg #[.bool true, .bool false, .bool false, .bool false, .bool false, .bool false]) ∧ Below W.heap.size W w' := fun W => has_any 4 W
  have hX := OpX.new w D A n c B m d
  have x0 : (w.alloc (.cells (opC D A n c B m d) 40)).cell? ⟨w.heap.size, 0, none⟩ = some (.int .i64 4) := by rw [hX.c0, hk]
  have ea : (D.a == 0) = false := by simpa using ha
  go_enter Try.func38, Try.ntmps38
  go_wp2_with (first
    | (go_at_call 55; (with_reducible refine (cH _).mono ?_); rintro o1 w1 ⟨rfl, hb1⟩; have hY := (hX.below hb1).alloc (.cells #[.bool true, .bool false, .bool false, .bool false, .bool false, .bool false] 92); have hZ := (hB.trans (hb1.mono hB.size)).alloc (hB.trans (hb1.mono hB.size)).size (.cells #[.bool true, .bool false, .bool false, .bool false, .bool false, .bool false] 92); have y3 : (w1.alloc (.cells #[.bool true, .bool false, .bool false, .bool false, .bool false, .bool false] 92)).cell? ⟨w.heap.size, 3, none⟩ = some (.int .i64 D.a) := hY.c3; clear hY hX x0))
  go_ret
  exact ⟨rfl, hZ⟩

set_option maxRecDepth 100000 in
set_option maxHeartbeats 4000000 in
theorem bare_4_1 (D : OpD) (hK : D.K.length = 32) (A : Option Addr) (n c : Nat) (hlo : D.o.length = n) (B : Option Addr) (m d : Nat) (hln : D.n.length = m) (w : World) (hk : D.k = 4) (ha : D.a = 0) (ho : ¬ D.o = []) :
    Calls Try.prog 38 #[.agg (opC D A n c B m d)] w fun o w' => o = .returned (.bool false) ∧ Below w.heap.size w w' := by
  have hB : Below w.heap.size w (w.alloc (.cells (opC D A n c B m d) 40)) := (Below.refl _ w).alloc (Nat.le_refl _) _
  have cH : ∀ W, Calls Try.prog 55 #[.int .i64 4] W fun o w' => o = .returned (.agg #[.bool true, .bool false, .bool false, .bool false, .bool false, .bool false]) ∧ Below W.heap.size W w' := fun W => has_any 4 W
  have hX := OpX.new w D A n c B m d
  have x0 : (w.alloc (.cells (opC D A n c B m d) 40)).cell? ⟨w.heap.size, 0, none⟩ = some (.int .i64 4) := by rw [hX.c0, hk]
  have eo : ((n : Int) == 0) = false := by rw [beq_eq_false_iff_ne, ← hlo]; intro h; exact ho (List.length_eq_zero_iff.1 (by omega))
  go_enter Try.func38, Try.ntmps38
  go_wp2_with (first
    | (go_at_call 55; (with_reducible refine (cH _).mono ?_); rintro o1 w1 ⟨rfl, hb1⟩; have hY := (hX.below hb1).alloc (.cells #[.bool true, .bool false, .bool false, .bool false, .bool false, .bool false] 92); have hZ := (hB.trans (hb1.mono hB.size)).alloc (hB.trans (hb1.mono hB.size)).size (.cells #[.bool true, .bool false, .bool false, .bool false, .bool false, .bool false] 92); have y3 : (w1.alloc (.cells #[.bool true, .bool false, .bool false, .bool false, .bool false, .bool false] 92)).cell? ⟨w.heap.size, 3, none⟩ = some (.int .i64 0) := (by rw [hY.c3, ha]); have y4 : (w1.alloc (.cells #[.bool true, .bool false, .bool false, .bool false, .bool false, .bool false] 92)).cell? ⟨w.heap.size, 4, none⟩ = some (.slice A n c) := hY.c4; clear hY hX x0))
  go_ret
  exact ⟨rfl, hZ⟩

set_option maxRecDepth 100000 in
set_option maxHeartbeats 4000000 in
theorem bare_4_2 (D : OpD) (hK : D.K.length = 32) (A : Option Addr) (n c : Nat) (hlo : D.o.length = n) (B : Option Addr) (m d : Nat) (hln : D.n.length = m) (w : World) (hk : D.k = 4) (ha : D.a = 0) (ho : D.o = []) (hn : ¬ D.n = []) :
    Calls Try.prog 38 #[.agg (opC D A n c B m d)] w fun o w' => o = .returned (.bool false) ∧ Below w.heap.size w w' := by
  have hB : Below w.heap.size w (w.alloc (.cells (opC D A n c B m d) 40)) := (Below.refl _ w).alloc (Nat.le_refl _) _
  have cH : ∀ W, Calls Try.prog 55 #[.int .i64 4] W fun o w' => o = .returned (.agg #[.bool true, .bool false, .bool false, .bool false, .bool false, .bool false]) ∧ Below W.heap.size W w' := fun W => has_any 4 W
  have hX := OpX.new w D A n c B m d
  have x0 : (w.alloc (.cells (opC D A n c B m d) 40)).cell? ⟨w.heap.size, 0, none⟩ = some (.int .i64 4) := by rw [hX.c0, hk]
  have eo : ((n : Int) == 0) = true := by rw [beq_iff_eq, ← hlo, ho]; rfl
  have en : ((m : Int) == 0) = false := by rw [beq_eq_false_iff_ne, ← hln]; intro h; exact hn (List.length_eq_zero_iff.1 (by omega))
  go_enter Try.func38, Try.ntmps38
  go_wp2_with (first
    | (go_at_call 55; (with_reducible refine (cH _).mono ?_); rintro o1 w1 ⟨rfl, hb1⟩; have hY := (hX.below hb1).alloc (.cells #[.bool true, .bool false, .bool false, .bool false, .bool false, .bool false] 92); have hZ := (hB.trans (hb1.mono hB.size)).alloc (hB.trans (hb1.mono hB.size)).size (.cells #[.bool true, .bool false, .bool false, .bool false, .bool false, .bool false] 92); have y3 : (w1.alloc (.cells #[.bool true, .bool false, .bool false, .bool false, .bool false, .bool false] 92)).cell? ⟨w.heap.size, 3, none⟩ = some (.int .i64 0) := (by rw [hY.c3, ha]); have y4 : (w1.alloc (.cells #[.bool true, .bool false, .bool false, .bool false, .bool false, .bool false] 92)).cell? ⟨w.heap.size, 4, none⟩ = some (.slice A n c) := hY.c4; have y5 : (w1.alloc (.cells #[.bool true, .bool false, .bool false, .bool false, .bool false, .bool false] 92)).cell? ⟨w.heap.size, 5, none⟩ = some (.slice B m d) := hY.c5; clear hY hX x0))
  go_ret
  exact ⟨rfl, hZ⟩

set_option maxRecDepth 100000 in
set_option maxHeartbeats 4000000 in
theorem bare_4_3 (D : OpD) (hK : D.K.length = 32) (A : Option Addr) (n c : Nat) (hlo : D.o.length = n) (B : Option Addr) (m d : Nat) (hln : D.n.length = m) (w : World) (hk : D.k = 4) (ha : D.a = 0) (ho : D.o = []) (hn : D.n = []) (hK0 : ¬ D.K = zeroB) :
    Calls Try.prog 38 #[.agg (opC D A n c B m d)] w fun o w' => o = .returned (.bool false) ∧ Below w.heap.size w w' := by
  have hB : Below w.heap.size w (w.alloc (.cells (opC D A n c B m d) 40)) := (Below.refl _ w).alloc (Nat.le_refl _) _
  have cH : ∀ W, Calls Try.prog 55 #[.int .i64 4] W fun o w' => o = .returned (.agg #[.bool true, .bool false, .bool false, .bool false, .bool false, .bool false]) ∧ Below W.heap.size W w' := fun W => has_any 4 W
  have hX := OpX.new w D A n c B m d
  have x0 : (w.alloc (.cells (opC D A n c B m d) 40)).cell? ⟨w.heap.size, 0, none⟩ = some (.int .i64 4) := by rw [hX.c0, hk]
  have eo : ((n : Int) == 0) = true := by rw [beq_iff_eq, ← hlo, ho]; rfl
  have en : ((m : Int) == 0) = true := by rw [beq_iff_eq, ← hln, hn]; rfl
  have hu := Try.underlying38
  have hHZ : (Try.prog.info? 38).map (·.size) = some (D.K.map u8v).length := by rw [List.length_map, hK]; exact sizeId
  have heq : ∀ W, (Op.equalIn 10000 38 (.agg (List.map u8v D.K).toArray) (.agg (idVals zeroB))).run Try.prog W = .ok false W := fun W => (ids_eq W D.K zeroB hK rfl).trans (by rw [decide_eq_false hK0])
  rw [zeroB_vals] at heq
  go_enter Try.func38, Try.ntmps38
  go_wp2_with (first
    | (go_at_call 55; (with_reducible refine (cH _).mono ?_); rintro o1 w1 ⟨rfl, hb1⟩; have hY := (hX.below hb1).alloc (.cells #[.bool true, .bool false, .bool false, .bool false, .bool false, .bool false] 92); have hZ := (hB.trans (hb1.mono hB.size)).alloc (hB.trans (hb1.mono hB.size)).size (.cells #[.bool true, .bool false, .bool false, .bool false, .bool false, .bool false] 92); have y3 : (w1.alloc (.cells #[.bool true, .bool false, .bool false, .bool false, .bool false, .bool false] 92)).cell? ⟨w.heap.size, 3, none⟩ = some (.int .i64 0) := (by rw [hY.c3, ha]); have y4 : (w1.alloc (.cells #[.bool true, .bool false, .bool false, .bool false, .bool false, .bool false] 92)).cell? ⟨w.heap.size, 4, none⟩ = some (.slice A n c) := hY.c4; have y5 : (w1.alloc (.cells #[.bool true, .bool false, .bool false, .bool false, .bool false, .bool false] 92)).cell? ⟨w.heap.size, 5, none⟩ = some (.slice B m d) := hY.c5; have yK := hY.key; clear hY hX x0)
    | (with_reducible refine wpList_load_if (by with_unfolding_all rfl) 38 _ rfl _ _ rfl (D.K.map u8v) _ yK hu (by with_unfolding_all rfl) hHZ ?_))
  go_ret
  exact ⟨rfl, hZ⟩

set_option maxRecDepth 100000 in
set_option maxHeartbeats 4000000 in
theorem bare_4_4 (D : OpD) (hK : D.K.length = 32) (A : Option Addr) (n c : Nat) (hlo : D.o.length = n) (B : Option Addr) (m d : Nat) (hln : D.n.length = m) (w : World) (hk : D.k = 4) (ha : D.a = 0) (ho : D.o = []) (hn : D.n = []) (hK0 : D.K = zeroB) (hd : ¬ D.d = 0) :
    Calls Try.prog 38 #[.agg (opC D A n c B m d)] w fun o w' => o = .returned (.bool false) ∧ Below w.heap.size w w' := by
  have hB : Below w.heap.size w (w.alloc (.cells (opC D A n c B m d) 40)) := (Below.refl _ w).alloc (Nat.le_refl _) _
  have cH : ∀ W, Calls Try.prog 55 #[.int .i64 4] W fun o w' => o = .returned (.agg #[.bool true, .bool false, .bool false, .bool false, .bool false, .bool false]) ∧ Below W.heap.size W w' := fun W => has_any 4 W
  have hX := OpX.new w D A n c B m d
  have x0 : (w.alloc (.cells (opC D A n c B m d) 40)).cell? ⟨w.heap.size, 0, none⟩ = some (.int .i64 4) := by rw [hX.c0, hk]
  have ed : (D.d == 0) = false := by simpa using hd
  have eo : ((n : Int) == 0) = true := by rw [beq_iff_eq, ← hlo, ho]; rfl
  have en : ((m : Int) == 0) = true := by rw [beq_iff_eq, ← hln, hn]; rfl
  have hu := Try.underlying38
  have hHZ : (Try.prog.info? 38).map (·.size) = some (D.K.map u8v).length := by rw [List.length_map, hK]; exact sizeId
  have heq : ∀ W, (Op.equalIn 10000 38 (.agg (List.map u8v D.K).toArray) (.agg (idVals zeroB))).run Try.prog W = .ok true W := fun W => (ids_eq W D.K zeroB hK rfl).trans (by rw [decide_eq_true hK0])
  rw [zeroB_vals] at heq
  clear hK0
  go_enter Try.func38, Try.ntmps38
  go_wp2_with (first
    | (go_at_call 55; (with_reducible refine (cH _).mono ?_); rintro o1 w1 ⟨rfl, hb1⟩; have hY := (hX.below hb1).alloc (.cells #[.bool true, .bool false, .bool false, .bool false, .bool false, .bool false] 92); have hZ := (hB.trans (hb1.mono hB.size)).alloc (hB.trans (hb1.mono hB.size)).size (.cells #[.bool true, .bool false, .bool false, .bool false, .bool false, .bool false] 92); have y3 : (w1.alloc (.cells #[.bool true, .bool false, .bool false, .bool false, .bool false, .bool false] 92)).cell? ⟨w.heap.size, 3, none⟩ = some (.int .i64 0) := (by rw [hY.c3, ha]); have y4 : (w1.alloc (.cells #[.bool true, .bool false, .bool false, .bool false, .bool false, .bool false] 92)).cell? ⟨w.heap.size, 4, none⟩ = some (.slice A n c) := hY.c4; have y5 : (w1.alloc (.cells #[.bool true, .bool false, .bool false, .bool false, .bool false, .bool false] 92)).cell? ⟨w.heap.size, 5, none⟩ = some (.slice B m d) := hY.c5; have y38 : (w1.alloc (.cells #[.bool true, .bool false, .bool false, .bool false, .bool false, .bool false] 92)).cell? ⟨w.heap.size, 38, none⟩ = some (.int .i64 D.d) := hY.c38 hK; have yK := hY.key; clear hY hX x0)
    | (with_reducible refine wpList_load_if (by with_unfolding_all rfl) 38 _ rfl _ _ rfl (D.K.map u8v) _ yK hu (by with_unfolding_all rfl) hHZ ?_))
  go_ret
  exact ⟨rfl, hZ⟩

set_option maxRecDepth 100000 in
set_option maxHeartbeats 4000000 in
theorem bare_4_5 (D : OpD) (hK : D.K.length = 32) (A : Option Addr) (n c : Nat) (hlo : D.o.length = n) (B : Option Addr) (m d : Nat) (hln : D.n.length = m) (w : World) (hk : D.k = 4) (ha : D.a = 0) (ho : D.o = []) (hn : D.n = []) (hK0 : D.K = zeroB) (hd : D.d = 0) :
    Calls Try.prog 38 #[.agg (opC D A n c B m d)] w fun o w' => o = .returned (.bool true) ∧ Below w.heap.size w w' := by
  have hB : Below w.heap.size w (w.alloc (.cells (opC D A n c B m d) 40)) := (Below.refl _ w).alloc (Nat.le_refl _) _
  have cH : ∀ W, Calls Try.prog 55 #[.int .i64 4] W fun o w' => o = .returned (.agg #[.bool true, .bool false, .bool false, .bool false, .bool false, .bool false]) ∧ Below W.heap.size W w' := fun W => has_any 4 W
  have hX := OpX.new w D A n c B m d
  have x0 : (w.alloc (.cells (opC D A n c B m d) 40)).cell? ⟨w.heap.size, 0, none⟩ = some (.int .i64 4) := by rw [hX.c0, hk]
  have eo : ((n : Int) == 0) = true := by rw [beq_iff_eq, ← hlo, ho]; rfl
  have en : ((m : Int) == 0) = true := by rw [beq_iff_eq, ← hln, hn]; rfl
  have hu := Try.underlying38
  have hHZ : (Try.prog.info? 38).map (·.size) = some (D.K.map u8v).length := by rw [List.length_map, hK]; exact sizeId
  have heq : ∀ W, (Op.equalIn 10000 38 (.agg (List.map u8v D.K).toArray) (.agg (idVals zeroB))).run Try.prog W = .ok true W := fun W => (ids_eq W D.K zeroB hK rfl).trans (by rw [decide_eq_true hK0])
  rw [zeroB_vals] at heq
  clear hK0
  go_enter Try.func38, Try.ntmps38
  go_wp2_with (first
    | (go_at_call 55; (with_reducible refine (cH _).mono ?_); rintro o1 w1 ⟨rfl, hb1⟩; have hY := (hX.below hb1).alloc (.cells #[.bool true, .bool false, .bool false, .bool false, .bool false, .bool false] 92); have hZ := (hB.trans (hb1.mono hB.size)).alloc (hB.trans (hb1.mono hB.size)).size (.cells #[.bool true, .bool false, .bool false, .bool false, .bool false, .bool false] 92); have y3 : (w1.alloc (.cells #[.bool true, .bool false, .bool false, .bool false, .bool false, .bool false] 92)).cell? ⟨w.heap.size, 3, none⟩ = some (.int .i64 0) := (by rw [hY.c3, ha]); have y4 : (w1.alloc (.cells #[.bool true, .bool false, .bool false, .bool false, .bool false, .bool false] 92)).cell? ⟨w.heap.size, 4, none⟩ = some (.slice A n c) := hY.c4; have y5 : (w1.alloc (.cells #[.bool true, .bool false, .bool false, .bool false, .bool false, .bool false] 92)).cell? ⟨w.heap.size, 5, none⟩ = some (.slice B m d) := hY.c5; have y38 : (w1.alloc (.cells #[.bool true, .bool false, .bool false, .bool false, .bool false, .bool false] 92)).cell? ⟨w.heap.size, 38, none⟩ = some (.int .i64 0) := (by rw [hY.c38 hK, hd]); have yK := hY.key; clear hY hX x0)
    | (with_reducible refine wpList_load_if (by with_unfolding_all rfl) 38 _ rfl _ _ rfl (D.K.map u8v) _ yK hu (by with_unfolding_all rfl) hHZ ?_))
  go_ret
  exact ⟨rfl, hZ⟩

set_option maxRecDepth 100000 in
set_option maxHeartbeats 4000000 in
theorem bare_5_0 (D : OpD) (hK : D.K.length = 32) (A : Option Addr) (n c : Nat) (hlo : D.o.length = n) (B : Option Addr) (m d : Nat) (hln : D.n.length = m) (w : World) (hk : D.k = 5) (ht : ¬ D.t = []) :
    Calls Try.prog 38 #[.agg (opC D A n c B m d)] w fun o w' => o = .returned (.bool false) ∧ Below w.heap.size w w' := by
  have hB : Below w.heap.size w (w.alloc (.cells (opC D A n c B m d) 40)) := (Below.refl _ w).alloc (Nat.le_refl _) _
  have cH : ∀ W, Calls Try.prog 55 #[.int .i64 5] W fun o w' => o = .returned (.agg #[.bool false, .bool false, .bool false, .bool false, .bool true, .bool true]) ∧ Below W.heap.size W w' := fun W => has_any 5 W
  have hX := OpX.new w D A n c B m d
  have x0 : (w.alloc (.cells (opC D A n c B m d) 40)).cell? ⟨w.heap.size, 0, none⟩ = some (.int .i64 5) := by rw [hX.c0, hk]
  have et : (D.t == []) = false := by simpa using ht
  go_enter Try.func38, Try.ntmps38
  go_wp2_with (first
    | (go_at_call 55; (with_reducible refine (cH _).mono ?_); rintro o1 w1 ⟨rfl, hb1⟩; have hY := (hX.below hb1).alloc (.cells #[.bool false, .bool false, .bool false, .bool false, .bool true, .bool true] 92); have hZ := (hB.trans (hb1.mono hB.size)).alloc (hB.trans (hb1.mono hB.size)).size (.cells #[.bool false, .bool false, .bool false, .bool false, .bool true, .bool true] 92); have y2 : (w1.alloc (.cells #[.bool false, .bool false, .bool false, .bool false, .bool true, .bool true] 92)).cell? ⟨w.heap.size, 2, none⟩ = some (.string (txt D.t)) := hY.c2; clear hY hX x0))
  go_ret
  exact ⟨rfl, hZ⟩

set_option maxRecDepth 100000 in
set_option maxHeartbeats 4000000 in
theorem bare_5_1 (D : OpD) (hK : D.K.length = 32) (A : Option Addr) (n c : Nat) (hlo : D.o.length = n) (B : Option Addr) (m d : Nat) (hln : D.n.length = m) (w : World) (hk : D.k = 5) (ht : D.t = []) (ha : ¬ D.a = 0) :
    Calls Try.prog 38 #[.agg (opC D A n c B m d)] w fun o w' => o = .returned (.bool false) ∧ Below w.heap.size w w' := by
  have hB : Below w.heap.size w (w.alloc (.cells (opC D A n c B m d) 40)) := (Below.refl _ w).alloc (Nat.le_refl _) _
  have cH : ∀ W, Calls Try.prog 55 #[.int .i64 5] W fun o w' => o = .returned (.agg #[.bool false, .bool false, .bool false, .bool false, .bool true, .bool true]) ∧ Below W.heap.size W w' := fun W => has_any 5 W
  have hX := OpX.new w D A n c B m d
  have x0 : (w.alloc (.cells (opC D A n c B m d) 40)).cell? ⟨w.heap.size, 0, none⟩ = some (.int .i64 5) := by rw [hX.c0, hk]
  have ea : (D.a == 0) = false := by simpa using ha
  go_enter Try.func38, Try.ntmps38
  go_wp2_with (first
    | (go_at_call 55; (with_reducible refine (cH _).mono ?_); rintro o1 w1 ⟨rfl, hb1⟩; have hY := (hX.below hb1).alloc (.cells #[.bool false, .bool false, .bool false, .bool false, .bool true, .bool true] 92); have hZ := (hB.trans (hb1.mono hB.size)).alloc (hB.trans (hb1.mono hB.size)).size (.cells #[.bool false, .bool false, .bool false, .bool false, .bool true, .bool true] 92); have y2 : (w1.alloc (.cells #[.bool false, .bool false, .bool false, .bool false, .bool true, .bool true] 92)).cell? ⟨w.heap.size, 2, none⟩ = some (.string ⟨#[]⟩) := (by have z := hY.c2; rw [ht] at z; exact z); have y3 : (w1.alloc (.cells #[.bool false, .bool false, .bool false, .bool false, .bool true, .bool true] 92)).cell? ⟨w.heap.size, 3, none⟩ = some (.int .i64 D.a) := hY.c3; clear hY hX x0))
  go_ret
  exact ⟨rfl, hZ⟩

set_option maxRecDepth 100000 in
set_option maxHeartbeats 4000000 in
theorem bare_5_2 (D : OpD) (hK : D.K.length = 32) (A : Option Addr) (n c : Nat) (hlo : D.o.length = n) (B : Option Addr) (m d : Nat) (hln : D.n.length = m) (w : World) (hk : D.k = 5) (ht : D.t = []) (ha : D.a = 0) (ho : ¬ D.o = []) :
    Calls Try.prog 38 #[.agg (opC D A n c B m d)] w fun o w' => o = .returned (.bool false) ∧ Below w.heap.size w w' := by
  have hB : Below w.heap.size w (w.alloc (.cells (opC D A n c B m d) 40)) := (Below.refl _ w).alloc (Nat.le_refl _) _
  have cH : ∀ W, Calls Try.prog 55 #[.int .i64 5] W fun o w' => o = .returned (.agg #[.bool false, .bool false, .bool false, .bool false, .bool true, .bool true]) ∧ Below W.heap.size W w' := fun W => has_any 5 W
  have hX := OpX.new w D A n c B m d
  have x0 : (w.alloc (.cells (opC D A n c B m d) 40)).cell? ⟨w.heap.size, 0, none⟩ = some (.int .i64 5) := by rw [hX.c0, hk]
  have eo : ((n : Int) == 0) = false := by rw [beq_eq_false_iff_ne, ← hlo]; intro h; exact ho (List.length_eq_zero_iff.1 (by omega))
  go_enter Try.func38, Try.ntmps38
  go_wp2_with (first
    | (go_at_call 55; (with_reducible refine (cH _).mono ?_); rintro o1 w1 ⟨rfl, hb1⟩; have hY := (hX.below hb1).alloc (.cells #[.bool false, .bool false, .bool false, .bool false, .bool true, .bool true] 92); have hZ := (hB.trans (hb1.mono hB.size)).alloc (hB.trans (hb1.mono hB.size)).size (.cells #[.bool false, .bool false, .bool false, .bool false, .bool true, .bool true] 92); have y2 : (w1.alloc (.cells #[.bool false, .bool false, .bool false, .bool false, .bool true, .bool true] 92)).cell? ⟨w.heap.size, 2, none⟩ = some (.string ⟨#[]⟩) := (by have z := hY.c2; rw [ht] at z; exact z); have y3 : (w1.alloc (.cells #[.bool false, .bool false, .bool false, .bool false, .bool true, .bool true] 92)).cell? ⟨w.heap.size, 3, none⟩ = some (.int .i64 0) := (by rw [hY.c3, ha]); have y4 : (w1.alloc (.cells #[.bool false, .bool false, .bool false, .bool false, .bool true, .bool true] 92)).cell? ⟨w.heap.size, 4, none⟩ = some (.slice A n c) := hY.c4; clear hY hX x0))
  go_ret
  exact ⟨rfl, hZ⟩

set_option maxRecDepth 100000 in
set_option maxHeartbeats 4000000 in
theorem bare_5_3 (D : OpD) (hK : D.K.length = 32) (A : Option Addr) (n c : Nat) (hlo : D.o.length = n) (B : Option Addr) (m d : Nat) (hln : D.n.length = m) (w : World) (hk : D.k = 5) (ht : D.t = []) (ha : D.a = 0) (ho : D.o = []) (hn : ¬ D.n = []) :
    Calls Try.prog 38 #[.agg (opC D A n c B m d)] w fun o w' => o = .returned (.bool false) ∧ Below w.heap.size w w' := by
  have hB : Below w.heap.size w (w.alloc (.cells (opC D A n c B m d) 40)) := (Below.refl _ w).alloc (Nat.le_refl _) _
  have cH : ∀ W, Calls Try.prog 55 #[.int .i64 5] W fun o w' => o = .returned (.agg #[.bool false, .bool false, .bool false, .bool false, .bool true, .bool true]) ∧ Below W.heap.size W w' := fun W => has_any 5 W
  have hX := OpX.new w D A n c B m d
  have x0 : (w.alloc (.cells (opC D A n c B m d) 40)).cell? ⟨w.heap.size, 0, none⟩ = some (.int .i64 5) := by rw [hX.c0, hk]
  have eo : ((n : Int) == 0) = true := by rw [beq_iff_eq, ← hlo, ho]; rfl
  have en : ((m : Int) == 0) = false := by rw [beq_eq_false_iff_ne, ← hln]; intro h; exact hn (List.length_eq_zero_iff.1 (by omega))
  go_enter Try.func38, Try.ntmps38
  go_wp2_with (first
    | (go_at_call 55; (with_reducible refine (cH _).mono ?_); rintro o1 w1 ⟨rfl, hb1⟩; have hY := (hX.below hb1).alloc (.cells #[.bool false, .bool false, .bool false, .bool false, .bool true, .bool true] 92); have hZ := (hB.trans (hb1.mono hB.size)).alloc (hB.trans (hb1.mono hB.size)).size (.cells #[.bool false, .bool false, .bool false, .bool false, .bool true, .bool true] 92); have y2 : (w1.alloc (.cells #[.bool false, .bool false, .bool false, .bool false, .bool true, .bool true] 92)).cell? ⟨w.heap.size, 2, none⟩ = some (.string ⟨#[]⟩) := (by have z := hY.c2; rw [ht] at z; exact z); have y3 : (w1.alloc (.cells #[.bool false, .bool false, .bool false, .bool false, .bool true, .bool true] 92)).cell? ⟨w.heap.size, 3, none⟩ = some (.int .i64 0) := (by rw [hY.c3, ha]); have y4 : (w1.alloc (.cells #[.bool false, .bool false, .bool false, .bool false, .bool true, .bool true] 92)).cell? ⟨w.heap.size, 4, none⟩ = some (.slice A n c) := hY.c4; have y5 : (w1.alloc (.cells #[.bool false, .bool false, .bool false, .bool false, .bool true, .bool true] 92)).cell? ⟨w.heap.size, 5, none⟩ = some (.slice B m d) := hY.c5; clear hY hX x0))
  go_ret
  exact ⟨rfl, hZ⟩

set_option maxRecDepth 100000 in
set_option maxHeartbeats 4000000 in
theorem bare_5_4 (D : OpD) (hK : D.K.length = 32) (A : Option Addr) (n c : Nat) (hlo : D.o.length = n) (B : Option Addr) (m d : Nat) (hln : D.n.length = m) (w : World) (hk : D.k = 5) (ht : D.t = []) (ha : D.a = 0) (ho : D.o = []) (hn : D.n = []) :
    Calls Try.prog 38 #[.agg (opC D A n c B m d)] w fun o w' => o = .returned (.bool true) ∧ Below w.heap.size w w' := by
  have hB : Below w.heap.size w (w.alloc (.cells (opC D A n c B m d) 40)) := (Below.refl _ w).alloc (Nat.le_refl _) _
  have cH : ∀ W, Calls Try.prog 55 #[.int .i64 5] W fun o w' => o = .returned (.agg #[.bool false, .bool false, .bool false, .bool false, .bool true, .bool true]) ∧ Below W.heap.size W w' := fun W => has_any 5 W
  have hX := OpX.new w D A n c B m d
  have x0 : (w.alloc (.cells (opC D A n c B m d) 40)).cell? ⟨w.heap.size, 0, none⟩ = some (.int .i64 5) := by rw [hX.c0, hk]
  have eo : ((n : Int) == 0) = true := by rw [beq_iff_eq, ← hlo, ho]; rfl
  have en : ((m : Int) == 0) = true := by rw [beq_iff_eq, ← hln, hn]; rfl
  go_enter Try.func38, Try.ntmps38
  go_wp2_with (first
    | (go_at_call 55; (with_reducible refine (cH _).mono ?_); rintro o1 w1 ⟨rfl, hb1⟩; have hY := (hX.below hb1).alloc (.cells #[.bool false, .bool false, .bool false, .bool false, .bool true, .bool true] 92); have hZ := (hB.trans (hb1.mono hB.size)).alloc (hB.trans (hb1.mono hB.size)).size (.cells #[.bool false, .bool false, .bool false, .bool false, .bool true, .bool true] 92); have y2 : (w1.alloc (.cells #[.bool false, .bool false, .bool false, .bool false, .bool true, .bool true] 92)).cell? ⟨w.heap.size, 2, none⟩ = some (.string ⟨#[]⟩) := (by have z := hY.c2; rw [ht] at z; exact z); have y3 : (w1.alloc (.cells #[.bool false, .bool false, .bool false, .bool false, .bool true, .bool true] 92)).cell? ⟨w.heap.size, 3, none⟩ = some (.int .i64 0) := (by rw [hY.c3, ha]); have y4 : (w1.alloc (.cells #[.bool false, .bool false, .bool false, .bool false, .bool true, .bool true] 92)).cell? ⟨w.heap.size, 4, none⟩ = some (.slice A n c) := hY.c4; have y5 : (w1.alloc (.cells #[.bool false, .bool false, .bool false, .bool false, .bool true, .bool true] 92)).cell? ⟨w.heap.size, 5, none⟩ = some (.slice B m d) := hY.c5; clear hY hX x0))
  go_ret
  exact ⟨rfl, hZ⟩

set_option maxRecDepth 100000 in
set_option maxHeartbeats 4000000 in
theorem bare_6_0 (D : OpD) (hK : D.K.length = 32) (A : Option Addr) (n c : Nat) (hlo : D.o.length = n) (B : Option Addr) (m d : Nat) (hln : D.n.length = m) (w : World) (hk : D.k = 6) (ht : ¬ D.t = []) :
    Calls Try.prog 38 #[.agg (opC D A n c B m d)] w fun o w' => o = .returned (.bool false) ∧ Below w.heap.size w w' := by
  have hB : Below w.heap.size w (w.alloc (.cells (opC D A n c B m d) 40)) := (Below.refl _ w).alloc (Nat.le_refl _) _
  have cH : ∀ W, Calls Try.prog 55 #[.int .i64 6] W fun o w' => o = .returned (.agg #[.bool false, .bool false, .bool false, .bool false, .bool true, .bool false]) ∧ Below W.heap.size W w' := fun W => has_any 6 W
  have hX := OpX.new w D A n c B m d
  have x0 : (w.alloc (.cells (opC D A n c B m d) 40)).cell? ⟨w.heap.size, 0, none⟩ = some (.int .i64 6) := by rw [hX.c0, hk]
  have et : (D.t == []) = false := by simpa using ht
  go_enter Try.func38, Try.ntmps38
  go_wp2_with (first
    | (go_at_call 55; (with_reducible refine (cH _).mono ?_); rintro o1 w1 ⟨rfl, hb1⟩; have hY := (hX.below hb1).alloc (.cells #[.bool false, .bool false, .bool false, .bool false, .bool true, .bool false] 92); have hZ := (hB.trans (hb1.mono hB.size)).alloc (hB.trans (hb1.mono hB.size)).size (.cells #[.bool false, .bool false, .bool false, .bool false, .bool true, .bool false] 92); have y2 : (w1.alloc (.cells #[.bool false, .bool false, .bool false, .bool false, .bool true, .bool false] 92)).cell? ⟨w.heap.size, 2, none⟩ = some (.string (txt D.t)) := hY.c2; clear hY hX x0))
  go_ret
  exact ⟨rfl, hZ⟩

set_option maxRecDepth 100000 in
set_option maxHeartbeats 4000000 in
theorem bare_6_1 (D : OpD) (hK : D.K.length = 32) (A : Option Addr) (n c : Nat) (hlo : D.o.length = n) (B : Option Addr) (m d : Nat) (hln : D.n.length = m) (w : World) (hk : D.k = 6) (ht : D.t = []) (ha : ¬ D.a = 0) :
    Calls Try.prog 38 #[.agg (opC D A n c B m d)] w fun o w' => o = .returned (.bool false) ∧ Below w.heap.size w w' := by
  have hB : Below w.heap.size w (w.alloc (.cells (opC D A n c B m d) 40)) := (Below.refl _ w).alloc (Nat.le_refl _) _
  have cH : ∀ W, Calls Try.prog 55 #[.int .i64 6] W fun o w' => o = .returned (.agg #[.bool false, .bool false, .bool false, .bool false, .bool true, .bool false]) ∧ Below W.heap.size W w' := fun W => has_any 6 W
  have hX := OpX.new w D A n c B m d
  have x0 : (w.alloc (.cells (opC D A n c B m d) 40)).cell? ⟨w.heap.size, 0, none⟩ = some (.int .i64 6) := by rw [hX.c0, hk]
  have ea : (D.a == 0) = false := by simpa using ha
  go_enter Try.func38, Try.ntmps38
  go_wp2_with (first
    | (go_at_call 55; (with_reducible refine (cH _).mono ?_); rintro o1 w1 ⟨rfl, hb1⟩; have hY := (hX.below hb1).alloc (.cells #[.bool false, .bool false, .bool false, .bool false, .bool true, .bool false] 92); have hZ := (hB.trans (hb1.mono hB.size)).alloc (hB.trans (hb1.mono hB.size)).size (.cells #[.bool false, .bool false, .bool false, .bool false, .bool true, .bool false] 92); have y2 : (w1.alloc (.cells #[.bool false, .bool false, .bool false, .bool false, .bool true, .bool false] 92)).cell? ⟨w.heap.size, 2, none⟩ = some (.string ⟨#[]⟩) := (by have z := hY.c2; rw [ht] at z; exact z); have y3 : (w1.alloc (.cells #[.bool false, .bool false, .bool false, .bool false, .bool true, .bool false] 92)).cell? ⟨w.heap.size, 3, none⟩ = some (.int .i64 D.a) := hY.c3; clear hY hX x0))
  go_ret
  exact ⟨rfl, hZ⟩

set_option maxRecDepth 100000 in
set_option maxHeartbeats 4000000 in
theorem bare_6_2 (D : OpD) (hK : D.K.length = 32) (A : Option Addr) (n c : Nat) (hlo : D.o.length = n) (B : Option Addr) (m d : Nat) (hln : D.n.length = m) (w : World) (hk : D.k = 6) (ht : D.t = []) (ha : D.a = 0) (ho : ¬ D.o = []) :
    Calls Try.prog 38 #[.agg (opC D A n c B m d)] w fun o w' => o = .returned (.bool false) ∧ Below w.heap.size w w' := by
  have hB : Below w.heap.size w (w.alloc (.cells (opC D A n c B m d) 40)) := (Below.refl _ w).alloc (Nat.le_refl _) _
  have cH : ∀ W, Calls Try.prog 55 #[.int .i64 6] W fun o w' => o = .returned (.agg #[.bool false, .bool false, .bool false, .bool false, .bool true, .bool false]) ∧ Below W.heap.size W w' := fun W => has_any 6 W
  have hX := OpX.new w D A n c B m d
  have x0 : (w.alloc (.cells (opC D A n c B m d) 40)).cell? ⟨w.heap.size, 0, none⟩ = some (.int .i64 6) := by rw [hX.c0, hk]
  have eo : ((n : Int) == 0) = false := by rw [beq_eq_false_iff_ne, ← hlo]; intro h; exact ho (List.length_eq_zero_iff.1 (by omega))
  go_enter Try.func38, Try.ntmps38
  go_wp2_with (first
    | (go_at_call 55; (with_reducible refine (cH _).mono ?_); rintro o1 w1 ⟨rfl, hb1⟩; have hY := (hX.below hb1).alloc (.cells #[.bool false, .bool false, .bool false, .bool false, .bool true, .bool false] 92); have hZ := (hB.trans (hb1.mono hB.size)).alloc (hB.trans (hb1.mono hB.size)).size (.cells #[.bool false, .bool false, .bool false, .bool false, .bool true, .bool false] 92); have y2 : (w1.alloc (.cells #[.bool false, .bool false, .bool false, .bool false, .bool true, .bool false] 92)).cell? ⟨w.heap.size, 2, none⟩ = some (.string ⟨#[]⟩) := (by have z := hY.c2; rw [ht] at z; exact z); have y3 : (w1.alloc (.cells #[.bool false, .bool false, .bool false, .bool false, .bool true, .bool false] 92)).cell? ⟨w.heap.size, 3, none⟩ = some (.int .i64 0) := (by rw [hY.c3, ha]); have y4 : (w1.alloc (.cells #[.bool false, .bool false, .bool false, .bool false, .bool true, .bool false] 92)).cell? ⟨w.heap.size, 4, none⟩ = some (.slice A n c) := hY.c4; clear hY hX x0))
  go_ret
  exact ⟨rfl, hZ⟩

set_option maxRecDepth 100000 in
set_option maxHeartbeats 4000000 in
theorem bare_6_3 (D : OpD) (hK : D.K.length = 32) (A : Option Addr) (n c : Nat) (hlo : D.o.length = n) (B : Option Addr) (m d : Nat) (hln : D.n.length = m) (w : World) (hk : D.k = 6) (ht : D.t = []) (ha : D.a = 0) (ho : D.o = []) (hn : ¬ D.n = []) :
    Calls Try.prog 38 #[.agg (opC D A n c B m d)] w fun o w' => o = .returned (.bool false) ∧ Below w.heap.size w w' := by
  have hB : Below w.heap.size w (w.alloc (.cells (opC D A n c B m d) 40)) := (Below.refl _ w).alloc (Nat.le_refl _) _
  have cH : ∀ W, Calls Try.prog 55 #[.int .i64 6] W fun o w' => o = .returned (.agg #[.bool false, .bool false, .bool false, .bool false, .bool true, .bool false]) ∧ Below W.heap.size W w' := fun W => has_any 6 W
  have hX := OpX.new w D A n c B m d
  have x0 : (w.alloc (.cells (opC D A n c B m d) 40)).cell? ⟨w.heap.size, 0, none⟩ = some (.int .i64 6) := by rw [hX.c0, hk]
  have eo : ((n : Int) == 0) = true := by rw [beq_iff_eq, ← hlo, ho]; rfl
  have en : ((m : Int) == 0) = false := by rw [beq_eq_false_iff_ne, ← hln]; intro h; exact hn (List.length_eq_zero_iff.1 (by omega))
  go_enter Try.func38, Try.ntmps38
  go_wp2_with (first
    | (go_at_call 55; (with_reducible refine (cH _).mono ?_); rintro o1 w1 ⟨rfl, hb1⟩; have hY := (hX.below hb1).alloc (.cells #[.bool false, .bool false, .bool false, .bool false, .bool true, .bool false] 92); have hZ := (hB.trans (hb1.mono hB.size)).alloc (hB.trans (hb1.mono hB.size)).size (.cells #[.bool false, .bool false, .bool false, .bool false, .bool true, .bool false] 92); have y2 : (w1.alloc (.cells #[.bool false, .bool false, .bool false, .bool false, .bool true, .bool false] 92)).cell? ⟨w.heap.size, 2, none⟩ = some (.string ⟨#[]⟩) := (by have z := hY.c2; rw [ht] at z; exact z); have y3 : (w1.alloc (.cells #[.bool false, .bool false, .bool false, .bool false, .bool true, .bool false] 92)).cell? ⟨w.heap.size, 3, none⟩ = some (.int .i64 0) := (by rw [hY.c3, ha]); have y4 : (w1.alloc (.cells #[.bool false, .bool false, .bool false, .bool false, .bool true, .bool false] 92)).cell? ⟨w.heap.size, 4, none⟩ = some (.slice A n c) := hY.c4; have y5 : (w1.alloc (.cells #[.bool false, .bool false, .bool false, .bool false, .bool true, .bool false] 92)).cell? ⟨w.heap.size, 5, none⟩ = some (.slice B m d) := hY.c5; clear hY hX x0))
  go_ret
  exact ⟨rfl, hZ⟩

set_option maxRecDepth 100000 in
set_option maxHeartbeats 4000000 in
theorem bare_6_4 (D : OpD) (hK : D.K.length = 32) (A : Option Addr) (n c : Nat) (hlo : D.o.length = n) (B : Option Addr) (m d : Nat) (hln : D.n.length = m) (w : World) (hk : D.k = 6) (ht : D.t = []) (ha : D.a = 0) (ho : D.o = []) (hn : D.n = []) (hd : ¬ D.d = 0) :
    Calls Try.prog 38 #[.agg (opC D A n c B m d)] w fun o w' => o = .returned (.bool false) ∧ Below w.heap.size w w' := by
  have hB : Below w.heap.size w (w.alloc (.cells (opC D A n c B m d) 40)) := (Below.refl _ w).alloc (Nat.le_refl _) _
  have cH : ∀ W, Calls Try.prog 55 #[.int .i64 6] W fun o w' => o = .returned (.agg #[.bool false, .bool false, .bool false, .bool false, .bool true, .bool false]) ∧ Below W.heap.size W w' := fun W => has_any 6 W
  have hX := OpX.new w D A n c B m d
  have x0 : (w.alloc (.cells (opC D A n c B m d) 40)).cell? ⟨w.heap.size, 0, none⟩ = some (.int .i64 6) := by rw [hX.c0, hk]
  have ed : (D.d == 0) = false := by simpa using hd
  have eo : ((n : Int) == 0) = true := by rw [beq_iff_eq, ← hlo, ho]; rfl
  have en : ((m : Int) == 0) = true := by rw [beq_iff_eq, ← hln, hn]; rfl
  go_enter Try.func38, Try.ntmps38
  go_wp2_with (first
    | (go_at_call 55; (with_reducible refine (cH _).mono ?_); rintro o1 w1 ⟨rfl, hb1⟩; have hY := (hX.below hb1).alloc (.cells #[.bool false, .bool false, .bool false, .bool false, .bool true, .bool false] 92); have hZ := (hB.trans (hb1.mono hB.size)).alloc (hB.trans (hb1.mono hB.size)).size (.cells #[.bool false, .bool false, .bool false, .bool false, .bool true, .bool false] 92); have y2 : (w1.alloc (.cells #[.bool false, .bool false, .bool false, .bool false, .bool true, .bool false] 92)).cell? ⟨w.heap.size, 2, none⟩ = some (.string ⟨#[]⟩) := (by have z := hY.c2; rw [ht] at z; exact z); have y3 : (w1.alloc (.cells #[.bool false, .bool false, .bool false, .bool false, .bool true, .bool false] 92)).cell? ⟨w.heap.size, 3, none⟩ = some (.int .i64 0) := (by rw [hY.c3, ha]); have y4 : (w1.alloc (.cells #[.bool false, .bool false, .bool false, .bool false, .bool true, .bool false] 92)).cell? ⟨w.heap.size, 4, none⟩ = some (.slice A n c) := hY.c4; have y5 : (w1.alloc (.cells #[.bool false, .bool false, .bool false, .bool false, .bool true, .bool false] 92)).cell? ⟨w.heap.size, 5, none⟩ = some (.slice B m d) := hY.c5; have y38 : (w1.alloc (.cells #[.bool false, .bool false, .bool false, .bool false, .bool true, .bool false] 92)).cell? ⟨w.heap.size, 38, none⟩ = some (.int .i64 D.d) := hY.c38 hK; clear hY hX x0))
  go_ret
  exact ⟨rfl, hZ⟩

set_option maxRecDepth 100000 in
set_option maxHeartbeats 4000000 in
theorem bare_6_5 (D : OpD) (hK : D.K.length = 32) (A : Option Addr) (n c : Nat) (hlo : D.o.length = n) (B : Option Addr) (m d : Nat) (hln : D.n.length = m) (w : World) (hk : D.k = 6) (ht : D.t = []) (ha : D.a = 0) (ho : D.o = []) (hn : D.n = []) (hd : D.d = 0) :
    Calls Try.prog 38 #[.agg (opC D A n c B m d)] w fun o w' => o = .returned (.bool true) ∧ Below w.heap.size w w' := by
  have hB : Below w.heap.size w (w.alloc (.cells (opC D A n c B m d) 40)) := (Below.refl _ w).alloc (Nat.le_refl _) _
  have cH : ∀ W, Calls Try.prog 55 #[.int .i64 6] W fun o w' => o = .returned (.agg #[.bool false, .bool false, .bool false, .bool false, .bool true, .bool false]) ∧ Below W.heap.size W w' := fun W => has_any 6 W
  have hX := OpX.new w D A n c B m d
  have x0 : (w.alloc (.cells (opC D A n c B m d) 40)).cell? ⟨w.heap.size, 0, none⟩ = some (.int .i64 6) := by rw [hX.c0, hk]
  have eo : ((n : Int) == 0) = true := by rw [beq_iff_eq, ← hlo, ho]; rfl
  have en : ((m : Int) == 0) = true := by rw [beq_iff_eq, ← hln, hn]; rfl
  go_enter Try.func38, Try.ntmps38
  go_wp2_with (first
    | (go_at_call 55; (with_reducible refine (cH _).mono ?_); rintro o1 w1 ⟨rfl, hb1⟩; have hY := (hX.below hb1).alloc (.cells #[.bool false, .bool false, .bool false, .bool false, .bool true, .bool false] 92); have hZ := (hB.trans (hb1.mono hB.size)).alloc (hB.trans (hb1.mono hB.size)).size (.cells #[.bool false, .bool false, .bool false, .bool false, .bool true, .bool false] 92); have y2 : (w1.alloc (.cells #[.bool false, .bool false, .bool false, .bool false, .bool true, .bool false] 92)).cell? ⟨w.heap.size, 2, none⟩ = some (.string ⟨#[]⟩) := (by have z := hY.c2; rw [ht] at z; exact z); have y3 : (w1.alloc (.cells #[.bool false, .bool false, .bool false, .bool false, .bool true, .bool false] 92)).cell? ⟨w.heap.size, 3, none⟩ = some (.int .i64 0) := (by rw [hY.c3, ha]); have y4 : (w1.alloc (.cells #[.bool false, .bool false, .bool false, .bool false, .bool true, .bool false] 92)).cell? ⟨w.heap.size, 4, none⟩ = some (.slice A n c) := hY.c4; have y5 : (w1.alloc (.cells #[.bool false, .bool false, .bool false, .bool false, .bool true, .bool false] 92)).cell? ⟨w.heap.size, 5, none⟩ = some (.slice B m d) := hY.c5; have y38 : (w1.alloc (.cells #[.bool false, .bool false, .bool false, .bool false, .bool true, .bool false] 92)).cell? ⟨w.heap.size, 38, none⟩ = some (.int .i64 0) := (by rw [hY.c38 hK, hd]); clear hY hX x0))
  go_ret
  exact ⟨rfl, hZ⟩

theorem kind_cases {k : Int} (h1 : 1 ≤ k) (h2 : k ≤ 6) : k = 1 ∨ k = 2 ∨ k = 3 ∨ k = 4 ∨ k = 5 ∨ k = 6 := by omega
theorem bare_any (D : OpD) (hK : D.K.length = 32) (A : Option Addr) (n c : Nat) (hlo : D.o.length = n) (B : Option Addr) (m d : Nat) (hln : D.n.length = m) (w : World) (h1 : 1 ≤ D.k) (h2 : D.k ≤ 6) :
    Calls Try.prog 38 #[.agg (opC D A n c B m d)] w fun o w' => o = .returned (.bool (bareR D)) ∧ Below w.heap.size w w' := by
  rcases kind_cases h1 h2 with hk | hk | hk | hk | hk | hk
  · -- kind 1
    by_cases ht : D.t = []
    case neg => rw [show bareR D = false from by unfold bareR; simp [hk, ht]]; exact bare_1_0 D hK A n c hlo B m d hln w hk ht
    by_cases ha : D.a = 0
    case neg => rw [show bareR D = false from by unfold bareR; simp [hk, ht, ha]]; exact bare_1_1 D hK A n c hlo B m d hln w hk ht ha
    by_cases ho : D.o = []
    case neg => rw [show bareR D = false from by unfold bareR; simp [hk, ht, ha, ho]]; exact bare_1_2 D hK A n c hlo B m d hln w hk ht ha ho
    by_cases hn : D.n = []
    case neg => rw [show bareR D = false from by unfold bareR; simp [hk, ht, ha, ho, hn]]; exact bare_1_3 D hK A n c hlo B m d hln w hk ht ha ho hn
    by_cases hK0 : D.K = zeroB
    case neg => rw [show bareR D = false from by unfold bareR; simp [hk, ht, ha, ho, hn, hK0]]; exact bare_1_4 D hK A n c hlo B m d hln w hk ht ha ho hn hK0
    by_cases hd : D.d = 0
    case neg => rw [show bareR D = false from by unfold bareR; simp [hk, ht, ha, ho, hn, hK0, hd]]; exact bare_1_5 D hK A n c hlo B m d hln w hk ht ha ho hn hK0 hd
    rw [show bareR D = true from by unfold bareR; simp [hk, ht, ha, ho, hn, hK0, hd]]; exact bare_1_6 D hK A n c hlo B m d hln w hk ht ha ho hn hK0 hd
  · -- kind 2
    by_cases ht : D.t = []
    case neg => rw [show bareR D = false from by unfold bareR; simp [hk, ht]]; exact bare_2_0 D hK A n c hlo B m d hln w hk ht
    by_cases ha : D.a = 0
    case neg => rw [show bareR D = false from by unfold bareR; simp [hk, ht, ha]]; exact bare_2_1 D hK A n c hlo B m d hln w hk ht ha
    by_cases hn : D.n = []
    case neg => rw [show bareR D = false from by unfold bareR; simp [hk, ht, ha, hn]]; exact bare_2_2 D hK A n c hlo B m d hln w hk ht ha hn
    by_cases hK0 : D.K = zeroB
    case neg => rw [show bareR D = false from by unfold bareR; simp [hk, ht, ha, hn, hK0]]; exact bare_2_3 D hK A n c hlo B m d hln w hk ht ha hn hK0
    by_cases hd : D.d = 0
    case neg => rw [show bareR D = false from by unfold bareR; simp [hk, ht, ha, hn, hK0, hd]]; exact bare_2_4 D hK A n c hlo B m d hln w hk ht ha hn hK0 hd
    rw [show bareR D = true from by unfold bareR; simp [hk, ht, ha, hn, hK0, hd]]; exact bare_2_5 D hK A n c hlo B m d hln w hk ht ha hn hK0 hd
  · -- kind 3
    by_cases ht : D.t = []
    case neg => rw [show bareR D = false from by unfold bareR; simp [hk, ht]]; exact bare_3_0 D hK A n c hlo B m d hln w hk ht
    by_cases hK0 : D.K = zeroB
    case neg => rw [show bareR D = false from by unfold bareR; simp [hk, ht, hK0]]; exact bare_3_1 D hK A n c hlo B m d hln w hk ht hK0
    by_cases hd : D.d = 0
    case neg => rw [show bareR D = false from by unfold bareR; simp [hk, ht, hK0, hd]]; exact bare_3_2 D hK A n c hlo B m d hln w hk ht hK0 hd
    rw [show bareR D = true from by unfold bareR; simp [hk, ht, hK0, hd]]; exact bare_3_3 D hK A n c hlo B m d hln w hk ht hK0 hd
  · -- kind 4
    by_cases ha : D.a = 0
    case neg => rw [show bareR D = false from by unfold bareR; simp [hk, ha]]; exact bare_4_0 D hK A n c hlo B m d hln w hk ha
    by_cases ho : D.o = []
    case neg => rw [show bareR D = false from by unfold bareR; simp [hk, ha, ho]]; exact bare_4_1 D hK A n c hlo B m d hln w hk ha ho
    by_cases hn : D.n = []
    case neg => rw [show bareR D = false from by unfold bareR; simp [hk, ha, ho, hn]]; exact bare_4_2 D hK A n c hlo B m d hln w hk ha ho hn
    by_cases hK0 : D.K = zeroB
    case neg => rw [show bareR D = false from by unfold bareR; simp [hk, ha, ho, hn, hK0]]; exact bare_4_3 D hK A n c hlo B m d hln w hk ha ho hn hK0
    by_cases hd : D.d = 0
    case neg => rw [show bareR D = false from by unfold bareR; simp [hk, ha, ho, hn, hK0, hd]]; exact bare_4_4 D hK A n c hlo B m d hln w hk ha ho hn hK0 hd
    rw [show bareR D = true from by unfold bareR; simp [hk, ha, ho, hn, hK0, hd]]; exact bare_4_5 D hK A n c hlo B m d hln w hk ha ho hn hK0 hd
  · -- kind 5
    by_cases ht : D.t = []
    case neg => rw [show bareR D = false from by unfold bareR; simp [hk, ht]]; exact bare_5_0 D hK A n c hlo B m d hln w hk ht
    by_cases ha : D.a = 0
    case neg => rw [show bareR D = false from by unfold bareR; simp [hk, ht, ha]]; exact bare_5_1 D hK A n c hlo B m d hln w hk ht ha
    by_cases ho : D.o = []
    case neg => rw [show bareR D = false from by unfold bareR; simp [hk, ht, ha, ho]]; exact bare_5_2 D hK A n c hlo B m d hln w hk ht ha ho
    by_cases hn : D.n = []
    case neg => rw [show bareR D = false from by unfold bareR; simp [hk, ht, ha, ho, hn]]; exact bare_5_3 D hK A n c hlo B m d hln w hk ht ha ho hn
    rw [show bareR D = true from by unfold bareR; simp [hk, ht, ha, ho, hn]]; exact bare_5_4 D hK A n c hlo B m d hln w hk ht ha ho hn
  · -- kind 6
    by_cases ht : D.t = []
    case neg => rw [show bareR D = false from by unfold bareR; simp [hk, ht]]; exact bare_6_0 D hK A n c hlo B m d hln w hk ht
    by_cases ha : D.a = 0
    case neg => rw [show bareR D = false from by unfold bareR; simp [hk, ht, ha]]; exact bare_6_1 D hK A n c hlo B m d hln w hk ht ha
    by_cases ho : D.o = []
    case neg => rw [show bareR D = false from by unfold bareR; simp [hk, ht, ha, ho]]; exact bare_6_2 D hK A n c hlo B m d hln w hk ht ha ho
    by_cases hn : D.n = []
    case neg => rw [show bareR D = false from by unfold bareR; simp [hk, ht, ha, ho, hn]]; exact bare_6_3 D hK A n c hlo B m d hln w hk ht ha ho hn
    by_cases hd : D.d = 0
    case neg => rw [show bareR D = false from by unfold bareR; simp [hk, ht, ha, ho, hn, hd]]; exact bare_6_4 D hK A n c hlo B m d hln w hk ht ha ho hn hd
    rw [show bareR D = true from by unfold bareR; simp [hk, ht, ha, ho, hn, hd]]; exact bare_6_5 D hK A n c hlo B m d hln w hk ht ha ho hn hd
end Go.Proofs.Ytodfaakodgedbaa


/- Proved: for all bytes, seeds, rows, sums, signatures, witnesses and numbers of bits, quitclaimlaw09.WitnessHolds returns true and leaves its arguments as they were. No conditions. -/
import Derived.Test.YticpdepbgcagaaaGreatWi18
import Derived.Test.YticpdepbgcagaaaGreatWi15
import Derived.Test.YticpdepbgcagaaaGreatRows
import Derived.ChangeShapes
import Derived.Deep.DeepCutAuto
set_option linter.unusedSimpArgs false
set_option linter.unusedVariables false
namespace Go.Proofs.YticpdepbgcagaaaGreat
open Go.RowKit Go.Qc Go.Shelf
attribute [local go_sem] txt_size txt_append ib_fold

theorem wpQuiet_load_wt {ops : Array Oper} {Cc : World → Prop} {Q : Act → Prop} {rest : List Oper} {o : Oper} {a : Act} (hw : Region.wanted o (yielded ops a.tmps) = true) (x : Operand) (ho : o.op = .load 32 x)
    (g : Nat) (cs : Array Value) (hx : a.eval x = .pointer (some ⟨g, 0, none⟩)) (hc : ∀ w, Cc w → w.rangeAt g 0 cs.toList) (hi : (Tryz.prog.info? 32).map (·.size) = some cs.size)
    (h : wpQuiet Tryz.prog ops Cc Q rest (a.put o.dst (.agg cs))) : wpQuiet Tryz.prog ops Cc Q (o :: rest) a := by
  refine wpQuiet_load_if hw 32 x ho g 0 hx cs.toList _ hc Tryz.underlying32 rfl ?_ ?_
  · rw [Array.length_toList]; exact hi
  · rw [Array.toArray_toList]; exact h
theorem mod3_fact9 (N : Nat) : ((N : Int)).tmod 3 = ((N % 3 : Nat) : Int) := by rw [Int.tmod_eq_emod_of_nonneg (by omega)]; rfl
theorem rgt89 (H : Nat) (h : H ≤ 2) : rgtP (8 : Nat) H = true := by
  have : H = 0 ∨ H = 1 ∨ H = 2 := by omega
  rcases this with rfl | rfl | rfl <;> decide

set_option maxRecDepth 100000 in
set_option maxHeartbeats 20000000 in
theorem whl_long0 (w : World) (N : Nat) (hN : N < 256) (s : List UInt8) (X : Option Addr) (x cx : Nat) (Xs : List WiD) (hX : WiRow w X x Xs) (hwf : ∀ X ∈ Xs, (Lit.int .i64 X.l).wf = true) (a : List UInt8) (ha : a.length = 32) (L : Int) (A B C : Option Addr) (k1 k2 k3 c1 c2 c3 : Nat) (k : Int) (t v : List UInt8) (l b u : Int) (V : List UInt8) (hV : V.length = 32) (hL : l ≤ 9223372036854775807) (bt : Int)  (g0 : 60 < s.length) :
    Calls Tryz.prog 5 #[.int .u8 N, .string (txt s), .slice X x cx, .agg (idVals a), .agg #[.int .i64 L, .slice A k1 c1, .slice B k2 c2, .slice C k3 c3], .agg (wtC k (txt t) (txt v) l b u V), .int .i64 bt] w fun e w' => e = .returned (.bool true) ∧ Below w.heap.size w w' := by
  have m3 := mod3_fact9 N
  have q1F := wtC_c1 k (txt t) (txt v) l b u V
  have q2F := wtC_c2 k (txt t) (txt v) l b u V
  have h1 := (Below.refl w.heap.size w).alloc (Nat.le_refl _) (.cells (idVals a) 24)
  have h2 := h1.alloc h1.size (.cells #[.int .i64 L, .slice A k1 c1, .slice B k2 c2, .slice C k3 c3] 27)
  have h3 := h2.alloc h2.size (.cells (wtC k (txt t) (txt v) l b u V) 32)
  have B2 := ((Blk.new w 24 (idVals a)).alloc (.cells #[.int .i64 L, .slice A k1 c1, .slice B k2 c2, .slice C k3 c3] 27)).alloc (.cells (wtC k (txt t) (txt v) l b u V) 32)
  have B3 := (Blk.new (w.alloc (.cells (idVals a) 24)) 27 #[.int .i64 L, .slice A k1 c1, .slice B k2 c2, .slice C k3 c3]).alloc (.cells (wtC k (txt t) (txt v) l b u V) 32)
  have B4 := Blk.new ((w.alloc (.cells (idVals a) 24)).alloc (.cells #[.int .i64 L, .slice A k1 c1, .slice B k2 c2, .slice C k3 c3] 27)) 32 (wtC k (txt t) (txt v) l b u V)
  rw [World.size_alloc] at B3
  rw [World.size_alloc, World.size_alloc] at B4
  have z0 : (60 : Int) < s.length := by omega
  generalize N % 3 = H at *
  clear hX hwf g0
  go_enter Tryz.func5, Tryz.ntmps5
  go_upto_region 1 with (fail)
  generalize (((w.alloc (.cells (idVals a) 24)).alloc (.cells #[.int .i64 L, .slice A k1 c1, .slice B k2 c2, .slice C k3 c3] 27)).alloc (.cells (wtC k (txt t) (txt v) l b u V) 32)) = wA at *
  have h4 := h3.alloc h3.size (.cells #[.int .i64 8, .int .i64 H] 29)
  have hal := (Below.refl wA.heap.size wA).alloc (Nat.le_refl _) (.cells #[.int .i64 8, .int .i64 H] 29)
  have B5 := Blk.new wA 29 #[.int .i64 8, .int .i64 H]
  replace B2 := B2.below hal
  replace B3 := B3.below hal
  replace B4 := B4.below hal
  go_upto_region 2 with (fail)
  obtain ⟨g11, hg11⟩ : ∃ g11, wA.heap.size = g11 := ⟨_, rfl⟩
  rw [hg11] at B5 ⊢
  generalize wA.alloc (.cells #[.int .i64 8, .int .i64 H] 29) = wB at *
  clear hal h1 h2 h3 hg11
  have s1 := B3.cell_ (i := 1) rfl
  have v1 := B4.cell_ q1F
  have v2 := B4.cell_ q2F
  go_wp2_with (go_at_call 6; (with_reducible refine (wawake_any _).mono ?_); rintro e9 w9 ⟨rfl, hb9⟩)
  go_ret
  exact ⟨rfl, h4.trans (hb9.mono h4.size)⟩

set_option maxRecDepth 100000 in
set_option maxHeartbeats 20000000 in
theorem whl_long1 (w : World) (N : Nat) (hN : N < 256) (s : List UInt8) (X : Option Addr) (x cx : Nat) (Xs : List WiD) (hX : WiRow w X x Xs) (hwf : ∀ X ∈ Xs, (Lit.int .i64 X.l).wf = true) (a : List UInt8) (ha : a.length = 32) (L : Int) (A B C : Option Addr) (k1 k2 k3 c1 c2 c3 : Nat) (k : Int) (t v : List UInt8) (l b u : Int) (V : List UInt8) (hV : V.length = 32) (hL : l ≤ 9223372036854775807) (bt : Int) (g0 : ¬ 60 < s.length) (g1 : 20 < x) :
    Calls Tryz.prog 5 #[.int .u8 N, .string (txt s), .slice X x cx, .agg (idVals a), .agg #[.int .i64 L, .slice A k1 c1, .slice B k2 c2, .slice C k3 c3], .agg (wtC k (txt t) (txt v) l b u V), .int .i64 bt] w fun e w' => e = .returned (.bool true) ∧ Below w.heap.size w w' := by
  have m3 := mod3_fact9 N
  have q1F := wtC_c1 k (txt t) (txt v) l b u V
  have q2F := wtC_c2 k (txt t) (txt v) l b u V
  have h1 := (Below.refl w.heap.size w).alloc (Nat.le_refl _) (.cells (idVals a) 24)
  have h2 := h1.alloc h1.size (.cells #[.int .i64 L, .slice A k1 c1, .slice B k2 c2, .slice C k3 c3] 27)
  have h3 := h2.alloc h2.size (.cells (wtC k (txt t) (txt v) l b u V) 32)
  have B2 := ((Blk.new w 24 (idVals a)).alloc (.cells #[.int .i64 L, .slice A k1 c1, .slice B k2 c2, .slice C k3 c3] 27)).alloc (.cells (wtC k (txt t) (txt v) l b u V) 32)
  have B3 := (Blk.new (w.alloc (.cells (idVals a) 24)) 27 #[.int .i64 L, .slice A k1 c1, .slice B k2 c2, .slice C k3 c3]).alloc (.cells (wtC k (txt t) (txt v) l b u V) 32)
  have B4 := Blk.new ((w.alloc (.cells (idVals a) 24)).alloc (.cells #[.int .i64 L, .slice A k1 c1, .slice B k2 c2, .slice C k3 c3] 27)) 32 (wtC k (txt t) (txt v) l b u V)
  rw [World.size_alloc] at B3
  rw [World.size_alloc, World.size_alloc] at B4
  have z0 : ¬ (60 : Int) < s.length := by omega
  have z1 : (20 : Int) < x := by omega
  generalize N % 3 = H at *
  clear hX hwf g0 g1
  go_enter Tryz.func5, Tryz.ntmps5
  go_upto_region 1 with (fail)
  generalize (((w.alloc (.cells (idVals a) 24)).alloc (.cells #[.int .i64 L, .slice A k1 c1, .slice B k2 c2, .slice C k3 c3] 27)).alloc (.cells (wtC k (txt t) (txt v) l b u V) 32)) = wA at *
  have h4 := h3.alloc h3.size (.cells #[.int .i64 8, .int .i64 H] 29)
  have hal := (Below.refl wA.heap.size wA).alloc (Nat.le_refl _) (.cells #[.int .i64 8, .int .i64 H] 29)
  have B5 := Blk.new wA 29 #[.int .i64 8, .int .i64 H]
  replace B2 := B2.below hal
  replace B3 := B3.below hal
  replace B4 := B4.below hal
  go_upto_region 2 with (fail)
  obtain ⟨g11, hg11⟩ : ∃ g11, wA.heap.size = g11 := ⟨_, rfl⟩
  rw [hg11] at B5 ⊢
  generalize wA.alloc (.cells #[.int .i64 8, .int .i64 H] 29) = wB at *
  clear hal h1 h2 h3 hg11
  have s1 := B3.cell_ (i := 1) rfl
  have v1 := B4.cell_ q1F
  have v2 := B4.cell_ q2F
  go_wp2_with (go_at_call 6; (with_reducible refine (wawake_any _).mono ?_); rintro e9 w9 ⟨rfl, hb9⟩)
  go_ret
  exact ⟨rfl, h4.trans (hb9.mono h4.size)⟩

set_option maxRecDepth 100000 in
set_option maxHeartbeats 20000000 in
theorem whl_long2 (w : World) (N : Nat) (hN : N < 256) (s : List UInt8) (X : Option Addr) (x cx : Nat) (Xs : List WiD) (hX : WiRow w X x Xs) (hwf : ∀ X ∈ Xs, (Lit.int .i64 X.l).wf = true) (a : List UInt8) (ha : a.length = 32) (L : Int) (A B C : Option Addr) (k1 k2 k3 c1 c2 c3 : Nat) (k : Int) (t v : List UInt8) (l b u : Int) (V : List UInt8) (hV : V.length = 32) (hL : l ≤ 9223372036854775807) (bt : Int) (g0 : ¬ 60 < s.length) (g1 : ¬ 20 < x) (g2 : 10 < k1) :
    Calls Tryz.prog 5 #[.int .u8 N, .string (txt s), .slice X x cx, .agg (idVals a), .agg #[.int .i64 L, .slice A k1 c1, .slice B k2 c2, .slice C k3 c3], .agg (wtC k (txt t) (txt v) l b u V), .int .i64 bt] w fun e w' => e = .returned (.bool true) ∧ Below w.heap.size w w' := by
  have m3 := mod3_fact9 N
  have q1F := wtC_c1 k (txt t) (txt v) l b u V
  have q2F := wtC_c2 k (txt t) (txt v) l b u V
  have h1 := (Below.refl w.heap.size w).alloc (Nat.le_refl _) (.cells (idVals a) 24)
  have h2 := h1.alloc h1.size (.cells #[.int .i64 L, .slice A k1 c1, .slice B k2 c2, .slice C k3 c3] 27)
  have h3 := h2.alloc h2.size (.cells (wtC k (txt t) (txt v) l b u V) 32)
  have B2 := ((Blk.new w 24 (idVals a)).alloc (.cells #[.int .i64 L, .slice A k1 c1, .slice B k2 c2, .slice C k3 c3] 27)).alloc (.cells (wtC k (txt t) (txt v) l b u V) 32)
  have B3 := (Blk.new (w.alloc (.cells (idVals a) 24)) 27 #[.int .i64 L, .slice A k1 c1, .slice B k2 c2, .slice C k3 c3]).alloc (.cells (wtC k (txt t) (txt v) l b u V) 32)
  have B4 := Blk.new ((w.alloc (.cells (idVals a) 24)).alloc (.cells #[.int .i64 L, .slice A k1 c1, .slice B k2 c2, .slice C k3 c3] 27)) 32 (wtC k (txt t) (txt v) l b u V)
  rw [World.size_alloc] at B3
  rw [World.size_alloc, World.size_alloc] at B4
  have z0 : ¬ (60 : Int) < s.length := by omega
  have z1 : ¬ (20 : Int) < x := by omega
  have z2 : (10 : Int) < k1 := by omega
  generalize N % 3 = H at *
  clear hX hwf g0 g1 g2
  go_enter Tryz.func5, Tryz.ntmps5
  go_upto_region 1 with (fail)
  generalize (((w.alloc (.cells (idVals a) 24)).alloc (.cells #[.int .i64 L, .slice A k1 c1, .slice B k2 c2, .slice C k3 c3] 27)).alloc (.cells (wtC k (txt t) (txt v) l b u V) 32)) = wA at *
  have h4 := h3.alloc h3.size (.cells #[.int .i64 8, .int .i64 H] 29)
  have hal := (Below.refl wA.heap.size wA).alloc (Nat.le_refl _) (.cells #[.int .i64 8, .int .i64 H] 29)
  have B5 := Blk.new wA 29 #[.int .i64 8, .int .i64 H]
  replace B2 := B2.below hal
  replace B3 := B3.below hal
  replace B4 := B4.below hal
  go_upto_region 2 with (fail)
  obtain ⟨g11, hg11⟩ : ∃ g11, wA.heap.size = g11 := ⟨_, rfl⟩
  rw [hg11] at B5 ⊢
  generalize wA.alloc (.cells #[.int .i64 8, .int .i64 H] 29) = wB at *
  clear hal h1 h2 h3 hg11
  have s1 := B3.cell_ (i := 1) rfl
  have v1 := B4.cell_ q1F
  have v2 := B4.cell_ q2F
  go_wp2_with (go_at_call 6; (with_reducible refine (wawake_any _).mono ?_); rintro e9 w9 ⟨rfl, hb9⟩)
  go_ret
  exact ⟨rfl, h4.trans (hb9.mono h4.size)⟩

set_option maxRecDepth 100000 in
set_option maxHeartbeats 20000000 in
theorem whl_long3 (w : World) (N : Nat) (hN : N < 256) (s : List UInt8) (X : Option Addr) (x cx : Nat) (Xs : List WiD) (hX : WiRow w X x Xs) (hwf : ∀ X ∈ Xs, (Lit.int .i64 X.l).wf = true) (a : List UInt8) (ha : a.length = 32) (L : Int) (A B C : Option Addr) (k1 k2 k3 c1 c2 c3 : Nat) (k : Int) (t v : List UInt8) (l b u : Int) (V : List UInt8) (hV : V.length = 32) (hL : l ≤ 9223372036854775807) (bt : Int) (g0 : ¬ 60 < s.length) (g1 : ¬ 20 < x) (g2 : ¬ 10 < k1) (g3 : 300 < t.length) :
    Calls Tryz.prog 5 #[.int .u8 N, .string (txt s), .slice X x cx, .agg (idVals a), .agg #[.int .i64 L, .slice A k1 c1, .slice B k2 c2, .slice C k3 c3], .agg (wtC k (txt t) (txt v) l b u V), .int .i64 bt] w fun e w' => e = .returned (.bool true) ∧ Below w.heap.size w w' := by
  have m3 := mod3_fact9 N
  have q1F := wtC_c1 k (txt t) (txt v) l b u V
  have q2F := wtC_c2 k (txt t) (txt v) l b u V
  have h1 := (Below.refl w.heap.size w).alloc (Nat.le_refl _) (.cells (idVals a) 24)
  have h2 := h1.alloc h1.size (.cells #[.int .i64 L, .slice A k1 c1, .slice B k2 c2, .slice C k3 c3] 27)
  have h3 := h2.alloc h2.size (.cells (wtC k (txt t) (txt v) l b u V) 32)
  have B2 := ((Blk.new w 24 (idVals a)).alloc (.cells #[.int .i64 L, .slice A k1 c1, .slice B k2 c2, .slice C k3 c3] 27)).alloc (.cells (wtC k (txt t) (txt v) l b u V) 32)
  have B3 := (Blk.new (w.alloc (.cells (idVals a) 24)) 27 #[.int .i64 L, .slice A k1 c1, .slice B k2 c2, .slice C k3 c3]).alloc (.cells (wtC k (txt t) (txt v) l b u V) 32)
  have B4 := Blk.new ((w.alloc (.cells (idVals a) 24)).alloc (.cells #[.int .i64 L, .slice A k1 c1, .slice B k2 c2, .slice C k3 c3] 27)) 32 (wtC k (txt t) (txt v) l b u V)
  rw [World.size_alloc] at B3
  rw [World.size_alloc, World.size_alloc] at B4
  have z0 : ¬ (60 : Int) < s.length := by omega
  have z1 : ¬ (20 : Int) < x := by omega
  have z2 : ¬ (10 : Int) < k1 := by omega
  have z3 : (300 : Int) < t.length := by omega
  generalize N % 3 = H at *
  clear hX hwf g0 g1 g2 g3
  go_enter Tryz.func5, Tryz.ntmps5
  go_upto_region 1 with (fail)
  generalize (((w.alloc (.cells (idVals a) 24)).alloc (.cells #[.int .i64 L, .slice A k1 c1, .slice B k2 c2, .slice C k3 c3] 27)).alloc (.cells (wtC k (txt t) (txt v) l b u V) 32)) = wA at *
  have h4 := h3.alloc h3.size (.cells #[.int .i64 8, .int .i64 H] 29)
  have hal := (Below.refl wA.heap.size wA).alloc (Nat.le_refl _) (.cells #[.int .i64 8, .int .i64 H] 29)
  have B5 := Blk.new wA 29 #[.int .i64 8, .int .i64 H]
  replace B2 := B2.below hal
  replace B3 := B3.below hal
  replace B4 := B4.below hal
  go_upto_region 2 with (fail)
  obtain ⟨g11, hg11⟩ : ∃ g11, wA.heap.size = g11 := ⟨_, rfl⟩
  rw [hg11] at B5 ⊢
  generalize wA.alloc (.cells #[.int .i64 8, .int .i64 H] 29) = wB at *
  clear hal h1 h2 h3 hg11
  have s1 := B3.cell_ (i := 1) rfl
  have v1 := B4.cell_ q1F
  have v2 := B4.cell_ q2F
  go_wp2_with (go_at_call 6; (with_reducible refine (wawake_any _).mono ?_); rintro e9 w9 ⟨rfl, hb9⟩)
  go_ret
  exact ⟨rfl, h4.trans (hb9.mono h4.size)⟩

set_option maxRecDepth 100000 in
set_option maxHeartbeats 20000000 in
theorem whl_long4 (w : World) (N : Nat) (hN : N < 256) (s : List UInt8) (X : Option Addr) (x cx : Nat) (Xs : List WiD) (hX : WiRow w X x Xs) (hwf : ∀ X ∈ Xs, (Lit.int .i64 X.l).wf = true) (a : List UInt8) (ha : a.length = 32) (L : Int) (A B C : Option Addr) (k1 k2 k3 c1 c2 c3 : Nat) (k : Int) (t v : List UInt8) (l b u : Int) (V : List UInt8) (hV : V.length = 32) (hL : l ≤ 9223372036854775807) (bt : Int) (g0 : ¬ 60 < s.length) (g1 : ¬ 20 < x) (g2 : ¬ 10 < k1) (g3 : ¬ 300 < t.length) (g4 : 300 < v.length) :
    Calls Tryz.prog 5 #[.int .u8 N, .string (txt s), .slice X x cx, .agg (idVals a), .agg #[.int .i64 L, .slice A k1 c1, .slice B k2 c2, .slice C k3 c3], .agg (wtC k (txt t) (txt v) l b u V), .int .i64 bt] w fun e w' => e = .returned (.bool true) ∧ Below w.heap.size w w' := by
  have m3 := mod3_fact9 N
  have q1F := wtC_c1 k (txt t) (txt v) l b u V
  have q2F := wtC_c2 k (txt t) (txt v) l b u V
  have h1 := (Below.refl w.heap.size w).alloc (Nat.le_refl _) (.cells (idVals a) 24)
  have h2 := h1.alloc h1.size (.cells #[.int .i64 L, .slice A k1 c1, .slice B k2 c2, .slice C k3 c3] 27)
  have h3 := h2.alloc h2.size (.cells (wtC k (txt t) (txt v) l b u V) 32)
  have B2 := ((Blk.new w 24 (idVals a)).alloc (.cells #[.int .i64 L, .slice A k1 c1, .slice B k2 c2, .slice C k3 c3] 27)).alloc (.cells (wtC k (txt t) (txt v) l b u V) 32)
  have B3 := (Blk.new (w.alloc (.cells (idVals a) 24)) 27 #[.int .i64 L, .slice A k1 c1, .slice B k2 c2, .slice C k3 c3]).alloc (.cells (wtC k (txt t) (txt v) l b u V) 32)
  have B4 := Blk.new ((w.alloc (.cells (idVals a) 24)).alloc (.cells #[.int .i64 L, .slice A k1 c1, .slice B k2 c2, .slice C k3 c3] 27)) 32 (wtC k (txt t) (txt v) l b u V)
  rw [World.size_alloc] at B3
  rw [World.size_alloc, World.size_alloc] at B4
  have z0 : ¬ (60 : Int) < s.length := by omega
  have z1 : ¬ (20 : Int) < x := by omega
  have z2 : ¬ (10 : Int) < k1 := by omega
  have z3 : ¬ (300 : Int) < t.length := by omega
  have z4 : (300 : Int) < v.length := by omega
  generalize N % 3 = H at *
  clear hX hwf g0 g1 g2 g3 g4
  go_enter Tryz.func5, Tryz.ntmps5
  go_upto_region 1 with (fail)
  generalize (((w.alloc (.cells (idVals a) 24)).alloc (.cells #[.int .i64 L, .slice A k1 c1, .slice B k2 c2, .slice C k3 c3] 27)).alloc (.cells (wtC k (txt t) (txt v) l b u V) 32)) = wA at *
  have h4 := h3.alloc h3.size (.cells #[.int .i64 8, .int .i64 H] 29)
  have hal := (Below.refl wA.heap.size wA).alloc (Nat.le_refl _) (.cells #[.int .i64 8, .int .i64 H] 29)
  have B5 := Blk.new wA 29 #[.int .i64 8, .int .i64 H]
  replace B2 := B2.below hal
  replace B3 := B3.below hal
  replace B4 := B4.below hal
  go_upto_region 2 with (fail)
  obtain ⟨g11, hg11⟩ : ∃ g11, wA.heap.size = g11 := ⟨_, rfl⟩
  rw [hg11] at B5 ⊢
  generalize wA.alloc (.cells #[.int .i64 8, .int .i64 H] 29) = wB at *
  clear hal h1 h2 h3 hg11
  have s1 := B3.cell_ (i := 1) rfl
  have v1 := B4.cell_ q1F
  have v2 := B4.cell_ q2F
  go_wp2_with (go_at_call 6; (with_reducible refine (wawake_any _).mono ?_); rintro e9 w9 ⟨rfl, hb9⟩)
  go_ret
  exact ⟨rfl, h4.trans (hb9.mono h4.size)⟩

set_option maxRecDepth 100000 in
set_option maxHeartbeats 20000000 in
theorem whl_main (w : World) (N : Nat) (hN : N < 256) (s : List UInt8) (X : Option Addr) (x cx : Nat) (Xs : List WiD) (hX : WiRow w X x Xs) (hwf : ∀ X ∈ Xs, (Lit.int .i64 X.l).wf = true) (a : List UInt8) (ha : a.length = 32) (L : Int) (A B C : Option Addr) (k1 k2 k3 c1 c2 c3 : Nat) (k : Int) (t v : List UInt8) (l b u : Int) (V : List UInt8) (hV : V.length = 32) (hL : l ≤ 9223372036854775807) (bt : Int) (g0 : ¬ 60 < s.length) (g1 : ¬ 20 < x) (g2 : ¬ 10 < k1) (g3 : ¬ 300 < t.length) (g4 : ¬ 300 < v.length) :
    Calls Tryz.prog 5 #[.int .u8 N, .string (txt s), .slice X x cx, .agg (idVals a), .agg #[.int .i64 L, .slice A k1 c1, .slice B k2 c2, .slice C k3 c3], .agg (wtC k (txt t) (txt v) l b u V), .int .i64 bt] w fun e w' => e = .returned (.bool true) ∧ Below w.heap.size w w' := by
  have hH2 : N % 3 ≤ 2 := by omega
  have hs1 : s.length ≤ 1000 := by omega
  have bx : x ≤ 1000 := by omega
  have bx9 : x ≤ 900 := by omega
  have hr8 := rgt89 (N % 3) hH2
  obtain ⟨r, hlaw, hprg⟩ := wh_both 8 (N % 3) s hs1 X x cx Xs hX.1 bx a ha L A B C k1 k2 k3 c1 c2 c3 k t v l b u V hV (by decide) (by omega) (by omega) hL hr8
  have HLW := hid hlaw
  have HPR := hid (fun W (hW : Below w.heap.size w W) => hprg W (hX.2.2.below hW))
  have HNO := hid (fun W (hW : Below w.heap.size w W) => wphg_no 7 0 s hs1 X x cx Xs hX.1 bx a ha L A B C k1 k2 k3 c1 c2 c3 t v l b u V hV k (by decide) W (hX.2.2.below hW))
  obtain ⟨tk, htk⟩ : ∃ tk : Bool, tk = true ↔ KpP Xs := by
    by_cases h : KpP Xs
    · exact ⟨true, by simp [h]⟩
    · exact ⟨false, by simp [h]⟩
  have HK := hid (fun W (hW : Below w.heap.size w W) => wkeeps_any X x cx Xs hX.1 bx W (hX.2.2.below hW) hwf tk htk)
  have HRK : Hid (∀ W A6 c6, WiRd W A6 Xs → Calls Tryz.prog 14 #[.slice A6 x c6] W fun e w' => e = .returned (.bool tk) ∧ Below W.heap.size W w') := hid (fun W A6 c6 h => by
    cases tk with
    | true => exact wrkeeps_yes A6 x c6 Xs hX.1 bx W h (htk.1 rfl)
    | false => exact wrkeeps_any A6 x c6 Xs hX.1 bx W h (fun hk => by cases htk.2 hk))
  have HAL := hid (fun W => walk_any bt a V ha hV W)
  have HRA := hid (fun W => wralk_any bt a V ha hV W)
  have HXR := hid hX
  have HXK := hid (fun (X' : WiD) (h : X' ∈ Xs) => hX.2.2.1 X' h)
  generalize alkB bt a V = ab at *
  have hu := Tryz.underlying24
  have hza : (Tryz.prog.info? 24).map (·.size) = some (a.map u8v).length := by rw [List.length_map, ha]; exact sizeId
  have hzV : (Tryz.prog.info? 24).map (·.size) = some (V.map u8v).length := by rw [List.length_map, hV]; exact sizeId
  have hiO := wtC_info k (txt t) (txt v) l b u hV
  have qkF := hid (wtC_key k (txt t) (txt v) l b u V)
  have m3 := mod3_fact9 N
  have q1F := wtC_c1 k (txt t) (txt v) l b u V
  have q2F := wtC_c2 k (txt t) (txt v) l b u V
  have h1 := (Below.refl w.heap.size w).alloc (Nat.le_refl _) (.cells (idVals a) 24)
  have h2 := h1.alloc h1.size (.cells #[.int .i64 L, .slice A k1 c1, .slice B k2 c2, .slice C k3 c3] 27)
  have h3 := h2.alloc h2.size (.cells (wtC k (txt t) (txt v) l b u V) 32)
  have B2 := ((Blk.new w 24 (idVals a)).alloc (.cells #[.int .i64 L, .slice A k1 c1, .slice B k2 c2, .slice C k3 c3] 27)).alloc (.cells (wtC k (txt t) (txt v) l b u V) 32)
  have B3 := (Blk.new (w.alloc (.cells (idVals a) 24)) 27 #[.int .i64 L, .slice A k1 c1, .slice B k2 c2, .slice C k3 c3]).alloc (.cells (wtC k (txt t) (txt v) l b u V) 32)
  have B4 := Blk.new ((w.alloc (.cells (idVals a) 24)).alloc (.cells #[.int .i64 L, .slice A k1 c1, .slice B k2 c2, .slice C k3 c3] 27)) 32 (wtC k (txt t) (txt v) l b u V)
  rw [World.size_alloc] at B3
  rw [World.size_alloc, World.size_alloc] at B4
  have z0 : ¬ (60 : Int) < s.length := by omega
  have z1 : ¬ (20 : Int) < x := by omega
  have z2 : ¬ (10 : Int) < k1 := by omega
  have z3 : ¬ (300 : Int) < t.length := by omega
  have z4 : ¬ (300 : Int) < v.length := by omega
  clear hX hwf hlaw hprg htk hr8 hH2 g0 g1 g2 g3 g4
  generalize N % 3 = H at *
  go_enter Tryz.func5, Tryz.ntmps5
  go_upto_region 1 with (fail)
  generalize (((w.alloc (.cells (idVals a) 24)).alloc (.cells #[.int .i64 L, .slice A k1 c1, .slice B k2 c2, .slice C k3 c3] 27)).alloc (.cells (wtC k (txt t) (txt v) l b u V) 32)) = wA at *
  have h4 := h3.alloc h3.size (.cells #[.int .i64 8, .int .i64 H] 29)
  have hal := (Below.refl wA.heap.size wA).alloc (Nat.le_refl _) (.cells #[.int .i64 8, .int .i64 H] 29)
  have B5 := Blk.new wA 29 #[.int .i64 8, .int .i64 H]
  replace B2 := B2.below hal
  replace B3 := B3.below hal
  replace B4 := B4.below hal
  go_upto_region 2 with (fail)
  obtain ⟨g11, hg11⟩ : ∃ g11, wA.heap.size = g11 := ⟨_, rfl⟩
  rw [hg11] at B5 ⊢
  generalize wA.alloc (.cells #[.int .i64 8, .int .i64 H] 29) = wB at *
  clear hal h1 h2 h3 hg11
  have s1 := B3.cell_ (i := 1) rfl
  have v1 := B4.cell_ q1F
  have v2 := B4.cell_ q2F
  go_upto_region 4 with (fail)
  clear s1 v1 v2
  have cL := wplain_any X x cx Xs HXR.out.1 bx9 wB (HXR.out.2.2.below h4)
  go_upto_region 5 with (go_at_call 8; (with_reducible refine cL.mono ?_); rintro e8 w9 ⟨z, rfl, hown, hb8⟩; obtain ⟨A6, c6, rfl, _, _, _, hrd⟩ := WvOw.rd hown HXK.out; replace h4 := h4.trans (hb8.mono h4.size); replace B2 := B2.below hb8; replace B3 := B3.below hb8; replace B4 := B4.below hb8; replace B5 := B5.below hb8; have HRD := hid hrd; clear hown hrd cL)
  clear hb8
  have fk : w9.rangeAt (w.heap.size + 1 + 1) 6 (V.map u8v) := fun j y hj => B4.cell_ (qkF.out j y hj)
  have fO : w9.rangeAt (w.heap.size + 1 + 1) 0 ((wtC k (txt t) (txt v) l b u V)).toList := fun j y hj => by rw [Nat.zero_add]; exact B4.cell_ (by rw [← Array.getElem?_toList]; exact hj)
  generalize (wtC k (txt t) (txt v) l b u V) = OW at *
  have p0 := B5.cell_ (i := 0) rfl
  have p1 := B5.cell_ (i := 1) rfl
  have s0 := B3.cell_ (i := 0) rfl
  have s1 := B3.cell_ (i := 1) rfl
  have s2 := B3.cell_ (i := 2) rfl
  have s3 := B3.cell_ (i := 3) rfl
  have fa := range_blk B2
  have j0 : ∀ P : LaterW w9, P.w.cell? ⟨g11, 0, none⟩ = some (.int .i64 8) := fun P => wi_cell P.h p0
  have j1 : ∀ P : LaterW w9, P.w.cell? ⟨g11, 1, none⟩ = some (.int .i64 H) := fun P => wi_cell P.h p1
  have t0 : ∀ P : LaterW w9, P.w.cell? ⟨w.heap.size + 1, 0, none⟩ = some (.int .i64 L) := fun P => wi_cell P.h s0
  have t1 : ∀ P : LaterW w9, P.w.cell? ⟨w.heap.size + 1, 1, none⟩ = some (.slice A k1 c1) := fun P => wi_cell P.h s1
  have t2 : ∀ P : LaterW w9, P.w.cell? ⟨w.heap.size + 1, 2, none⟩ = some (.slice B k2 c2) := fun P => wi_cell P.h s2
  have t3 : ∀ P : LaterW w9, P.w.cell? ⟨w.heap.size + 1, 3, none⟩ = some (.slice C k3 c3) := fun P => wi_cell P.h s3
  have fq := range_later fa
  have fo := range_later fO
  have cc1 := fun (P : LaterW w9) => HPR.out P.w (h4.trans (P.h.mono h4.size))
  have c2' := fun (P : LaterW w9) => HLW.out P.w A6 c6 (HRD.out.below P.h)
  have c3' := fun (P : LaterW w9) => HNO.out P.w (h4.trans (P.h.mono h4.size))
  unfold idVals at cc1 c2' c3'
  refine wp_region_later mixedW (by kernel_rfl) ?_
  repeat (first
    | ((with_reducible refine wpQuiet_load_if (by with_unfolding_all rfl) 24 _ rfl _ _ rfl (a.map u8v) _ fq hu (by with_unfolding_all rfl) hza ?_); simp only [Act.put, List.setIfInBounds_toArray, List.set_cons_zero, List.set_cons_succ])
    | ((with_reducible refine wpQuiet_load_wt (by with_unfolding_all rfl) _ rfl _ OW rfl fo hiO ?_); simp only [Act.put, List.setIfInBounds_toArray, List.set_cons_zero, List.set_cons_succ])
    | ((with_reducible refine wpQuiet_step (fun K hK => ?_)); go_simp; first | ((with_reducible refine hK _ ?_); clear hK K) | (with_reducible apply Exists.intro; (with_reducible refine ⟨fun P => ?_, hK _ ?_⟩); (first | (go_at_call 13; exact later_of (cc1 P)) | (go_at_call 12; exact later_of (c2' P)) | (go_at_call 13; exact later_of (c3' P))); clear hK K))
    | ((with_reducible refine BigFrame.wpQuiet_skip (by first | kernel_rfl | with_unfolding_all rfl) ?_); simp only [Act.put, List.setIfInBounds_toArray, List.set_cons_zero, List.set_cons_succ]))
  with_reducible refine wpQuiet_nil ?_
  intro _ hw9
  obtain ⟨P9, rfl⟩ := hw9
  replace h4 := h4.trans (P9.h.mono h4.size); replace B2 := B2.below P9.h; replace B3 := B3.below P9.h; replace B4 := B4.below P9.h; replace B5 := B5.below P9.h; replace fk := fk.below P9.h; replace HRD := hid (HRD.out.below P9.h)
  generalize P9.w = w10 at *
  clear j0 j1 t0 t1 t2 t3 fq fo cc1 c2' c3' p0 p1 s0 s1 s2 s3 fa
  go_upto_region 7 with (fail)
  have fa := range_blk B2
  have fq := range_later fa
  have fv := range_later fk
  have c4 := fun (P : LaterW w10) => HK.out P.w (h4.trans (P.h.mono h4.size))
  have c5 := fun (P : LaterW w10) => HRK.out P.w A6 c6 (HRD.out.below P.h)
  have c6' := fun (P : LaterW w10) => HAL.out P.w
  have c7 := fun (P : LaterW w10) => HRA.out P.w
  unfold idVals at c6' c7
  refine wp_region_later mixedW (by kernel_rfl) ?_
  repeat (first
    | ((with_reducible refine wpQuiet_load_if (by with_unfolding_all rfl) 24 _ rfl _ _ rfl (a.map u8v) _ fq hu (by with_unfolding_all rfl) hza ?_); simp only [Act.put, List.setIfInBounds_toArray, List.set_cons_zero, List.set_cons_succ])
    | ((with_reducible refine wpQuiet_load_if (by with_unfolding_all rfl) 24 _ rfl _ _ rfl (V.map u8v) _ fv hu (by with_unfolding_all rfl) hzV ?_); simp only [Act.put, List.setIfInBounds_toArray, List.set_cons_zero, List.set_cons_succ])
    | ((with_reducible refine wpQuiet_step (fun K hK => ?_)); go_simp; first | ((with_reducible refine hK _ ?_); clear hK K) | (with_reducible apply Exists.intro; (with_reducible refine ⟨fun P => ?_, hK _ ?_⟩); (first | (go_at_call 21; exact later_of (c4 P)) | (go_at_call 14; exact later_of (c5 P)) | (go_at_call 22; exact later_of (c6' P)) | (go_at_call 23; exact later_of (c7 P)) | (go_at_call 6; exact later_of (wawake_any P.w))); clear hK K))
    | ((with_reducible refine BigFrame.wpQuiet_skip (by first | kernel_rfl | with_unfolding_all rfl) ?_); simp only [Act.put, List.setIfInBounds_toArray, List.set_cons_zero, List.set_cons_succ]))
  with_reducible refine wpQuiet_nil ?_
  intro _ hw9
  obtain ⟨P9, rfl⟩ := hw9
  go_wp2_with (fail)
  go_ret
  exact ⟨rfl, h4.trans (P9.h.mono h4.size)⟩

set_option maxRecDepth 100000 in
set_option maxHeartbeats 20000000 in
theorem law_WitnessHolds (w : World) (N : Nat) (hN : N < 256) (s : List UInt8) (X : Option Addr) (x cx : Nat) (Xs : List WiD) (hX : WiRow w X x Xs) (hwf : ∀ X ∈ Xs, (Lit.int .i64 X.l).wf = true) (a : List UInt8) (ha : a.length = 32) (L : Int) (A B C : Option Addr) (k1 k2 k3 c1 c2 c3 : Nat) (k : Int) (t v : List UInt8) (l b u : Int) (V : List UInt8) (hV : V.length = 32) (hL : l ≤ 9223372036854775807) (bt : Int) :
    Calls Tryz.prog 5 #[.int .u8 N, .string (txt s), .slice X x cx, .agg (idVals a), .agg #[.int .i64 L, .slice A k1 c1, .slice B k2 c2, .slice C k3 c3], .agg (wtC k (txt t) (txt v) l b u V), .int .i64 bt] w fun e w' => e = .returned (.bool true) ∧ Below w.heap.size w w' := by
  by_cases g0 : 60 < s.length
  · exact whl_long0 w N hN s X x cx Xs hX hwf a ha L A B C k1 k2 k3 c1 c2 c3 k t v l b u V hV hL bt g0
  by_cases g1 : 20 < x
  · exact whl_long1 w N hN s X x cx Xs hX hwf a ha L A B C k1 k2 k3 c1 c2 c3 k t v l b u V hV hL bt g0 g1
  by_cases g2 : 10 < k1
  · exact whl_long2 w N hN s X x cx Xs hX hwf a ha L A B C k1 k2 k3 c1 c2 c3 k t v l b u V hV hL bt g0 g1 g2
  by_cases g3 : 300 < t.length
  · exact whl_long3 w N hN s X x cx Xs hX hwf a ha L A B C k1 k2 k3 c1 c2 c3 k t v l b u V hV hL bt g0 g1 g2 g3
  by_cases g4 : 300 < v.length
  · exact whl_long4 w N hN s X x cx Xs hX hwf a ha L A B C k1 k2 k3 c1 c2 c3 k t v l b u V hV hL bt g0 g1 g2 g3 g4
  exact whl_main w N hN s X x cx Xs hX hwf a ha L A B C k1 k2 k3 c1 c2 c3 k t v l b u V hV hL bt g0 g1 g2 g3 g4

open Go.ChangeShapes Go.WideShapes Go.ChangeAt
open Go.ChangeMaps (open_string shut_string)
theorem own_WitnessHolds : ownKnob Tryz.prog.godebug = none := by kernel_rfl
theorem laidOut_WitnessHolds : laidOutB Tryz.prog = true := by kernel_rfl
set_option linter.unusedVariables false in
set_option maxRecDepth 100000 in
theorem lifted_WitnessHolds (os : Os) (started : os.Started) (H : Type) (enc : TypeId × Value → H) :
    ReturnsInHanded {} Tryz.checked os 5 .any (Rows.witnessHoldsSpec.pre6 enc Tryz.prog Tryz.f5 Rows.witnessHoldsRow.domain false) (Rows.witnessHoldsSpec.post enc Tryz.prog Tryz.f5 false true false false) := by
  refine returnsInHanded_of_change (C := Tryz.checked) own_WitnessHolds started (by kernel_rfl) Tryz.func5
    (ChangeSpec.witness6 (enc := enc) (C := Tryz.checked) false ⟨#[], #[.int .u8 0, .string ByteArray.empty, .slice none 0 0, .agg #[.int .u8 0, .int .u8 0, .int .u8 0, .int .u8 0, .int .u8 0, .int .u8 0, .int .u8 0, .int .u8 0, .int .u8 0, .int .u8 0, .int .u8 0, .int .u8 0, .int .u8 0, .int .u8 0, .int .u8 0, .int .u8 0, .int .u8 0, .int .u8 0, .int .u8 0, .int .u8 0, .int .u8 0, .int .u8 0, .int .u8 0, .int .u8 0, .int .u8 0, .int .u8 0, .int .u8 0, .int .u8 0, .int .u8 0, .int .u8 0, .int .u8 0, .int .u8 0], .agg #[.int .i64 0, .slice none 0 0, .slice none 0 0, .slice none 0 0], .agg #[.int .i64 0, .string ByteArray.empty, .string ByteArray.empty, .int .i64 0, .int .i64 0, .int .i64 0, .int .u8 0, .int .u8 0, .int .u8 0, .int .u8 0, .int .u8 0, .int .u8 0, .int .u8 0, .int .u8 0, .int .u8 0, .int .u8 0, .int .u8 0, .int .u8 0, .int .u8 0, .int .u8 0, .int .u8 0, .int .u8 0, .int .u8 0, .int .u8 0, .int .u8 0, .int .u8 0, .int .u8 0, .int .u8 0, .int .u8 0, .int .u8 0, .int .u8 0, .int .u8 0, .int .u8 0, .int .u8 0, .int .u8 0, .int .u8 0, .int .u8 0, .int .u8 0], .int .i64 0], []⟩ 8 (by kernel_rfl) (by kernel_rfl) (by kernel_rfl) (by kernel_rfl)) ?_
  intro W base args ds gs before hval0 hW hcnd _
  have hval : ∀ (j : Nat) t v, Tryz.f5.params[j]? = some t → args[j]? = some v → Value.okWide Tryz.prog W .any base t v := hval0
  have hW' := hW
  obtain ⟨p, q, hA0, hV, rfl, hfz, hnd⟩ := hW
  have hA1 : DataW.TrodAll enc Tryz.prog W 0 (fun _ => true) true Tryz.f5.params.toList args.toList ds p := hA0
  have hA : DataW.TrodAll enc Tryz.prog W 0 (fun _ => true) true Tryz.f5.params.toList args.toList ds p := hA0
  rw [Tryz.params5] at hA hval
  obtain ⟨v0, vs0, d0, ds0, p0, q0, hargs, rfl, rfl, h0, r0⟩ := trodAll_cons hA
  obtain ⟨v1, vs1, d1, ds1, p1, q1, rfl, rfl, rfl, h1, r1⟩ := trodAll_cons r0
  obtain ⟨v2, vs2, d2, ds2, p2, q2, rfl, rfl, rfl, h2, r2⟩ := trodAll_cons r1
  obtain ⟨v3, vs3, d3, ds3, p3, q3, rfl, rfl, rfl, h3, r3⟩ := trodAll_cons r2
  obtain ⟨v4, vs4, d4, ds4, p4, q4, rfl, rfl, rfl, h4, r4⟩ := trodAll_cons r3
  obtain ⟨v5, vs5, d5, ds5, p5, q5, rfl, rfl, rfl, h5, r5⟩ := trodAll_cons r4
  obtain ⟨v6, vs6, d6, ds6, p6, q6, rfl, rfl, rfl, h6, r6⟩ := trodAll_cons r5
  obtain ⟨rfl, rfl, rfl⟩ := trodAll_nil r6
  obtain rfl : args = #[v0, v1, v2, v3, v4, v5, v6] := by cases args; simp_all
  obtain ⟨rfl, rfl⟩ := trodVars_none hV
  obtain ⟨a0, rfl, rfl, rfl, w0⟩ := open_int Tryz.underlying5 (hval 0 5 v0 rfl rfl) h0
  obtain ⟨m0, rfl⟩ : ∃ m0 : Nat, a0 = m0 := ⟨a0.toNat, by have := (bounds_u8 w0).1; omega⟩
  obtain ⟨a1, rfl, rfl, rfl, w1⟩ := open_string Tryz.underlying9 (hval 1 9 v1 rfl rfl) h1
  obtain ⟨s1, rfl⟩ : ∃ s1, a1 = txt s1 := ⟨a1.data.toList, by unfold txt; simp⟩
  obtain ⟨A2, n2, c2, Xs2, rfl, y2, y22⟩ := open_wiRowW (hval 2 22 v2 rfl rfl) h2
  obtain ⟨a3, w3, rfl⟩ := open_id Tryz.underlying24 Tryz.underlying5 (by kernel_rfl) (by kernel_rfl) (hval 3 24 v3 rfl rfl) h3
  obtain ⟨a4, A, B, C, k1, k2, k3, d1, d2, d3, l, r, way, rfl, w4, y3, y4, y5, y6⟩ := open_sigW (hval 4 27 v4 rfl rfl) h4
  obtain ⟨k5, t5, u5, l5, b5, e5, V5, rfl, hV5, hl5⟩ := open_wt (hval 5 32 v5 rfl rfl) h5
  obtain ⟨a6, rfl, rfl, rfl, w6⟩ := open_int Tryz.underlying3 (hval 6 3 v6 rfl rfl) h6
  clear hA0 hval0
  refine (law_WitnessHolds W m0 (by have := (bounds_u8 w0).2; omega) s1 A2 n2 c2 Xs2 y2 y22 a3 w3 a4 A B C k1 k2 k3 d1 d2 d3 k5 t5 u5 l5 b5 e5 V5 hV5 (by have := (bounds_i64 hl5).2; omega) a6).mono fun e W' ⟨he, bel⟩ => ?_
  subst he
  exact ⟨_, rfl, _, _, _, [], _, [], hW', trodAll_mk1 (shut_bool Tryz.underlying4 _), trodAll_stays laidOut_WitnessHolds bel (by kernel_rfl) hA1, rfl, bel.frame _, fun h => by cases h⟩

/-- The statement. -/
theorem WitnessHolds_holds : Rows.WitnessHoldsSaid :=
  OpenClaim.holds_of_wide 5 Tryz.f5 rfl rfl rfl rfl rfl rfl rfl ⟨rfl, rfl, rfl, rfl, rfl⟩ rfl rfl rfl rfl rfl (by kernel_rfl) Tryz.func5 (by kernel_rfl)
    (of_decide_eq_true (by kernel_rfl)) (by unfold Func.isWrapper; first | (rw [if_pos (by decide +kernel)]; kernel_rfl) | (rw [if_neg (by decide +kernel)]; exact ⟨rfl, rfl⟩))
    (fun os started H enc _ => lifted_WitnessHolds os started H enc)
#print axioms WitnessHolds_holds



/- For any two operations a and b: commute.Swap(a, b) and commute.Apart(a, b) tell what the document says: whether they are apart, and what they become, swapped. No condition beyond the statement's own. -/
import Derived.Test.YtbdlpdajdlpncaaCm6
import Derived.Test.YtbdlpdajdlpncaaRows
import Derived.ChangeShapes
import Derived.Deep.DeepCutAuto
set_option linter.unusedSimpArgs false
set_option linter.unusedVariables false
namespace Go.Proofs.Ytbdlpdajdlpncaa
open Go.RowKit Go.Qc Go.Shelf
attribute [local go_sem] txt_size txt_append ib_fold txt_toL

set_option maxRecDepth 100000 in
set_option maxHeartbeats 40000000 in
theorem cms_long (D : OpD) (A : Option Addr) (n c : Nat) (B : Option Addr) (m d : Nat) (E : OpD) (A2 : Option Addr) (n2 c2 : Nat) (B2 : Option Addr) (m2 d2 : Nat) (w : World) (K1 : D.K.length = 32) (K2 : E.K.length = 32) (cF : ∀ (W : World) (gR gO : Nat), Below w.heap.size w W → W.cell? ⟨gR, 0, none⟩ = some (.slice (some ⟨gO, 0, none⟩) 2 2) → W.rangeAt gO 0 (opC D A n c B m d).toList → W.rangeAt gO 39 (opC E A2 n2 c2 B2 m2 d2).toList → Calls Try.prog 21 #[.slice (some ⟨gR, 0, none⟩) 1 1] W fun e w' => e = .returned (.bool false) ∧ Below W.heap.size W w') :
    Calls Try.prog 5 #[.agg (opC D A n c B m d), .agg (opC E A2 n2 c2 B2 m2 d2)] w fun e w' => e = .returned (.bool true) ∧ Below w.heap.size w w' := by
  have hh := Op2.new w D A n c B m d E A2 n2 c2 B2 m2 d2
  have s1 := opC_size D A n c B m d K1
  have s2 := opC_size E A2 n2 c2 B2 m2 d2 K2
  go_enter Try.func5, Try.ntmps5
  go_upto_region 1 with (fail)
  generalize (w.alloc (.cells (opC D A n c B m d) 45)).alloc (.cells (opC E A2 n2 c2 B2 m2 d2) 45) = W0 at *
  go_wp2_with (first
    | (with_reducible refine wpList_load_opx (by with_unfolding_all rfl) _ rfl _ rfl hh.a K1 ?_)
    | (with_reducible refine wpList_load_opx (by with_unfolding_all rfl) _ rfl _ rfl hh.b K2 ?_)
    | ((with_reducible refine wpList_build2o rfl _ _ rfl (opC D A n c B m d) (opC E A2 n2 c2 B2 m2 d2) s1 s2 rfl rfl ?_); intro cs q1 q2; have hb := (Below.refl W0.heap.size W0).alloc (Nat.le_refl _) (.cells cs 45); replace hh := hh.below hb; clear hb; generalize W0.alloc (.cells cs 45) = W1 at *; generalize W0.heap.size = gO at *)
    | (go_at_call 21; have hb := (Below.refl W1.heap.size W1).alloc (Nat.le_refl _) (.cells #[.slice (some ⟨gO, 0, none⟩) 2 2] 47); have hc := (Blk.new W1 47 #[.slice (some ⟨gO, 0, none⟩) 2 2]).cell_ (i := 0) rfl; (with_reducible refine (cF _ _ _ (hh.below hb).x hc (q1.below hb) (q2.below hb)).mono ?_); rintro o1 w1 ⟨rfl, hb1⟩; replace hh := (hh.below hb).below hb1; clear hb hc hb1 q1 q2)
    | (go_at_call 22; (with_reducible refine (awake16_any _).mono ?_); rintro o9 w9 ⟨rfl, hb9⟩; have hx9 := hh.x.trans (hb9.mono hh.x.size)))
  go_ret
  exact ⟨rfl, hx9⟩

theorem two_z (w : World) (zc : Array Value) : Blk ((w.alloc (.cells zc 45)).alloc (.cells zc 45)) w.heap.size 45 zc ∧ Blk ((w.alloc (.cells zc 45)).alloc (.cells zc 45)) (w.heap.size + 1) 45 zc ∧ Below w.heap.size w ((w.alloc (.cells zc 45)).alloc (.cells zc 45)) := by
  have q := Blk.new (w.alloc (.cells zc 45)) 45 zc
  have e : (w.alloc (.cells zc 45)).heap.size = w.heap.size + 1 := by simp
  rw [e] at q
  exact ⟨(Blk.new w 45 zc).alloc _, q, ((Below.refl _ w).alloc (Nat.le_refl _) _).alloc (by rw [e]; exact Nat.le_succ _) _⟩

set_option maxRecDepth 100000 in
set_option maxHeartbeats 40000000 in
theorem cms_t (D : OpD) (A : Option Addr) (n c : Nat) (B : Option Addr) (m d : Nat) (E : OpD) (A2 : Option Addr) (n2 c2 : Nat) (B2 : Option Addr) (m2 d2 : Nat) (w : World) (K1 : D.K.length = 32) (K2 : E.K.length = 32) (E1 D1 : OpD) (L1 : E1.K.length = 32) (L2 : D1.K.length = 32) (A8 : Option Addr) (n5 c8 : Nat) (B8 : Option Addr) (m5 d8 : Nat) (A9 : Option Addr) (n6 c9 : Nat) (B9 : Option Addr) (m6 d9 : Nat) (cF : ∀ (W : World) (gR gO : Nat), Below w.heap.size w W → W.cell? ⟨gR, 0, none⟩ = some (.slice (some ⟨gO, 0, none⟩) 2 2) → W.rangeAt gO 0 (opC D A n c B m d).toList → W.rangeAt gO 39 (opC E A2 n2 c2 B2 m2 d2).toList → Calls Try.prog 21 #[.slice (some ⟨gR, 0, none⟩) 1 1] W fun e w' => e = .returned (.bool true) ∧ Below W.heap.size W w') (cS : ∀ W, Below w.heap.size w W → Calls Try.prog 23 #[.agg (opC D A n c B m d), .agg (opC E A2 n2 c2 B2 m2 d2)] W fun e w' => ∃ A5 c5 B5 d5 A6 c6 B6 d6, e = .returned (.tuple #[.agg (opC E1 A5 n5 c5 B5 m5 d5), .agg (opC D1 A6 n6 c6 B6 m6 d6), .bool true]) ∧ OpR w' E1 A5 n5 B5 m5 ∧ OpR w' D1 A6 n6 B6 m6 ∧ Below W.heap.size W w') (cR : ∀ W, Below w.heap.size w W → Calls Try.prog 24 #[.agg (opC D A n c B m d), .agg (opC E A2 n2 c2 B2 m2 d2)] W fun e w' => e = .returned (.tuple #[.agg (opC E1 A8 n5 c8 B8 m5 d8), .agg (opC D1 A9 n6 c9 B9 m6 d9), .bool true]) ∧ Below W.heap.size W w') (cA : ∀ W, Below w.heap.size w W → Calls Try.prog 25 #[.agg (opC D A n c B m d), .agg (opC E A2 n2 c2 B2 m2 d2)] W fun o w' => o = .returned (.bool true) ∧ Below W.heap.size W w') (h8 : ∀ W, Below w.heap.size w W → OpR W E1 A8 n5 B8 m5) (h9 : ∀ W, Below w.heap.size w W → OpR W D1 A9 n6 B9 m6) :
    Calls Try.prog 5 #[.agg (opC D A n c B m d), .agg (opC E A2 n2 c2 B2 m2 d2)] w fun e w' => e = .returned (.bool true) ∧ Below w.heap.size w w' := by
  have hh := Op2.new w D A n c B m d E A2 n2 c2 B2 m2 d2
  have s1 := opC_size D A n c B m d K1
  have s2 := opC_size E A2 n2 c2 B2 m2 d2 K2
  go_enter Try.func5, Try.ntmps5
  go_upto_region 1 with (fail)
  generalize (w.alloc (.cells (opC D A n c B m d) 45)).alloc (.cells (opC E A2 n2 c2 B2 m2 d2) 45) = W0 at *
  go_upto_region 3 with (first
    | (with_reducible refine wpList_load_opx (by with_unfolding_all rfl) _ rfl _ rfl hh.a K1 ?_)
    | (with_reducible refine wpList_load_opx (by with_unfolding_all rfl) _ rfl _ rfl hh.b K2 ?_)
    | ((with_reducible refine wpList_build2o rfl _ _ rfl (opC D A n c B m d) (opC E A2 n2 c2 B2 m2 d2) s1 s2 rfl rfl ?_); intro cs q1 q2; have hb := (Below.refl W0.heap.size W0).alloc (Nat.le_refl _) (.cells cs 45); replace hh := hh.below hb; clear hb; generalize W0.alloc (.cells cs 45) = W1 at *; generalize W0.heap.size = gO at *)
    | (go_at_call 21; have hb := (Below.refl W1.heap.size W1).alloc (Nat.le_refl _) (.cells #[.slice (some ⟨gO, 0, none⟩) 2 2] 47); have hc := (Blk.new W1 47 #[.slice (some ⟨gO, 0, none⟩) 2 2]).cell_ (i := 0) rfl; (with_reducible refine (cF _ _ _ (hh.below hb).x hc (q1.below hb) (q2.below hb)).mono ?_); rintro o1 w1 ⟨rfl, hb1⟩; replace hh := (hh.below hb).below hb1; clear hb hc hb1 q1 q2))
  go_upto_region 4 with (first
    | (with_reducible refine wpList_load_opx (by with_unfolding_all rfl) _ rfl _ rfl hh.a K1 ?_)
    | (with_reducible refine wpList_load_opx (by with_unfolding_all rfl) _ rfl _ rfl hh.b K2 ?_)
    | (go_at_call 23; (with_reducible refine (cS _ hh.x).mono ?_); rintro o2 w2 ⟨A5, c5, B5, d5, A6, c6, B6, d6, rfl, r5, r6, hb⟩; replace hh := hh.below hb; clear hb; have z5 := fun zc => (two_z w2 zc).1; have y5 := fun zc => (two_z w2 zc).2.1; have x5 := fun zc => (two_z w2 zc).2.2)
    | ((with_reducible refine wpList_store_op rfl _ _ rfl w2.heap.size (z5 _) rfl rfl L1 (by with_unfolding_all rfl) ?_); intro w3 b5 g5; have b6 := blk_gb (y5 _) g5 (by omega); have l5 := hh.b.b.lt; have k3 := (x5 _).trans (below_of_gb g5 (Nat.le_refl _) (x5 _).size); replace hh := hh.below k3)
    | ((with_reducible refine wpList_store_op rfl _ _ rfl (w2.heap.size + 1) b6 rfl rfl L2 (by with_unfolding_all rfl) ?_); intro w4 b6' g6; replace b5 := blk_gb b5 g6 (by omega); have k4 := k3.trans (below_of_gb g6 (B := w2.heap.size) (by omega) k3.size); replace r5 := r5.below k4; replace r6 := r6.below k4; replace hh := hh.gb g6 (by omega)))
  go_upto_region 5 with (first
    | (with_reducible refine wpList_load_opx (by with_unfolding_all rfl) _ rfl _ rfl hh.a K1 ?_)
    | (with_reducible refine wpList_load_opx (by with_unfolding_all rfl) _ rfl _ rfl hh.b K2 ?_)
    | (go_at_call 24; (with_reducible refine (cR _ hh.x).mono ?_); rintro o5 w5 ⟨rfl, hb⟩; replace hh := hh.below hb; replace b5 := b5.below hb; replace b6' := b6'.below hb; replace r5 := r5.below hb; replace r6 := r6.below hb; clear hb; have l6 := b6'.lt; have z8 := fun zc => (two_z w5 zc).1; have y8 := fun zc => (two_z w5 zc).2.1; have x8 := fun zc => (two_z w5 zc).2.2)
    | ((with_reducible refine wpList_store_op rfl _ _ rfl w5.heap.size (z8 _) rfl rfl L1 (by with_unfolding_all rfl) ?_); intro w6 b8 g8; have b9 := blk_gb (y8 _) g8 (by omega); have k6 := (x8 _).trans (below_of_gb g8 (Nat.le_refl _) (x8 _).size); replace hh := hh.below k6; replace b5 := b5.below k6; replace b6' := b6'.below k6)
    | ((with_reducible refine wpList_store_op rfl _ _ rfl (w5.heap.size + 1) b9 rfl rfl L2 (by with_unfolding_all rfl) ?_); intro w7 b9' g9; replace b8 := blk_gb b8 g9 (by omega); have k7 := k6.trans (below_of_gb g9 (B := w5.heap.size) (by omega) k6.size); replace r5 := r5.below k7; replace r6 := r6.below k7; replace hh := hh.gb g9 (by omega); replace b5 := blk_gb b5 g9 (by omega); replace b6' := blk_gb b6' g9 (by omega)))
  have X5 : OpX w7 w2.heap.size E1 A5 n5 c5 B5 m5 d5 := ⟨b5⟩
  have X6 : OpX w7 (w2.heap.size + 1) D1 A6 n6 c6 B6 m6 d6 := ⟨b6'⟩
  have X8 : OpX w7 w5.heap.size E1 A8 n5 c8 B8 m5 d8 := ⟨b8⟩
  have X9 : OpX w7 (w5.heap.size + 1) D1 A9 n6 c9 B9 m6 d9 := ⟨b9'⟩
  have r8 := h8 _ hh.x
  have r9 := h9 _ hh.x
  clear b5 b6' b8 b9' b6 b9 z5 y5 x5 z8 y8 x8 g5 g6 g8 g9 k3 k4 k6 k7 l5 l6
  go_wp2_with (first
    | (with_reducible refine wpList_load_opx (by with_unfolding_all rfl) _ rfl _ rfl hh.a K1 ?_)
    | (with_reducible refine wpList_load_opx (by with_unfolding_all rfl) _ rfl _ rfl hh.b K2 ?_)
    | (with_reducible refine wpList_load_opx (by with_unfolding_all rfl) _ rfl _ rfl X5 L1 ?_)
    | (with_reducible refine wpList_load_opx (by with_unfolding_all rfl) _ rfl _ rfl X6 L2 ?_)
    | (with_reducible refine wpList_load_opx (by with_unfolding_all rfl) _ rfl _ rfl X8 L1 ?_)
    | (with_reducible refine wpList_load_opx (by with_unfolding_all rfl) _ rfl _ rfl X9 L2 ?_)
    | (go_at_call 25; (with_reducible refine (cA _ hh.x).mono ?_); rintro o8 w8 ⟨rfl, hb⟩; replace hh := hh.below hb; replace X5 := X5.below hb; replace X6 := X6.below hb; replace X8 := X8.below hb; replace X9 := X9.below hb; replace r5 := r5.below hb; replace r6 := r6.below hb; replace r8 := r8.below hb; replace r9 := r9.below hb; clear hb)
    | (go_at_call 26; (first | (with_reducible refine (rsame13_eq _ _ _ _ _ _ _ _ _ _ _ _ _ _ r5 r8).mono ?_) | (with_reducible refine (rsame13_eq _ _ _ _ _ _ _ _ _ _ _ _ _ _ r6 r9).mono ?_)); rintro o8 w8 ⟨rfl, hb⟩; replace hh := hh.below hb; replace X5 := X5.below hb; replace X6 := X6.below hb; replace X8 := X8.below hb; replace X9 := X9.below hb; replace r5 := r5.below hb; replace r6 := r6.below hb; replace r8 := r8.below hb; replace r9 := r9.below hb; clear hb)
    | (go_at_call 22; (with_reducible refine (awake16_any _).mono ?_); rintro o9 w9 ⟨rfl, hb9⟩; have hx9 := hh.x.trans (hb9.mono hh.x.size)))
  go_ret
  exact ⟨rfl, hx9⟩

set_option maxRecDepth 100000 in
set_option maxHeartbeats 40000000 in
theorem cms_f (D : OpD) (A : Option Addr) (n c : Nat) (B : Option Addr) (m d : Nat) (E : OpD) (A2 : Option Addr) (n2 c2 : Nat) (B2 : Option Addr) (m2 d2 : Nat) (w : World) (K1 : D.K.length = 32) (K2 : E.K.length = 32) (E1 D1 : OpD) (L1 : E1.K.length = 32) (L2 : D1.K.length = 32) (A8 : Option Addr) (n5 c8 : Nat) (B8 : Option Addr) (m5 d8 : Nat) (A9 : Option Addr) (n6 c9 : Nat) (B9 : Option Addr) (m6 d9 : Nat) (cF : ∀ (W : World) (gR gO : Nat), Below w.heap.size w W → W.cell? ⟨gR, 0, none⟩ = some (.slice (some ⟨gO, 0, none⟩) 2 2) → W.rangeAt gO 0 (opC D A n c B m d).toList → W.rangeAt gO 39 (opC E A2 n2 c2 B2 m2 d2).toList → Calls Try.prog 21 #[.slice (some ⟨gR, 0, none⟩) 1 1] W fun e w' => e = .returned (.bool true) ∧ Below W.heap.size W w') (cS : ∀ W, Below w.heap.size w W → Calls Try.prog 23 #[.agg (opC D A n c B m d), .agg (opC E A2 n2 c2 B2 m2 d2)] W fun e w' => ∃ A5 c5 B5 d5 A6 c6 B6 d6, e = .returned (.tuple #[.agg (opC E1 A5 n5 c5 B5 m5 d5), .agg (opC D1 A6 n6 c6 B6 m6 d6), .bool false]) ∧ OpR w' E1 A5 n5 B5 m5 ∧ OpR w' D1 A6 n6 B6 m6 ∧ Below W.heap.size W w') (cR : ∀ W, Below w.heap.size w W → Calls Try.prog 24 #[.agg (opC D A n c B m d), .agg (opC E A2 n2 c2 B2 m2 d2)] W fun e w' => e = .returned (.tuple #[.agg (opC E1 A8 n5 c8 B8 m5 d8), .agg (opC D1 A9 n6 c9 B9 m6 d9), .bool false]) ∧ Below W.heap.size W w') (cA : ∀ W, Below w.heap.size w W → Calls Try.prog 25 #[.agg (opC D A n c B m d), .agg (opC E A2 n2 c2 B2 m2 d2)] W fun o w' => o = .returned (.bool false) ∧ Below W.heap.size W w') (h8 : ∀ W, Below w.heap.size w W → OpR W E1 A8 n5 B8 m5) (h9 : ∀ W, Below w.heap.size w W → OpR W D1 A9 n6 B9 m6) :
    Calls Try.prog 5 #[.agg (opC D A n c B m d), .agg (opC E A2 n2 c2 B2 m2 d2)] w fun e w' => e = .returned (.bool true) ∧ Below w.heap.size w w' := by
  have hh := Op2.new w D A n c B m d E A2 n2 c2 B2 m2 d2
  have s1 := opC_size D A n c B m d K1
  have s2 := opC_size E A2 n2 c2 B2 m2 d2 K2
  go_enter Try.func5, Try.ntmps5
  go_upto_region 1 with (fail)
  generalize (w.alloc (.cells (opC D A n c B m d) 45)).alloc (.cells (opC E A2 n2 c2 B2 m2 d2) 45) = W0 at *
  go_upto_region 3 with (first
    | (with_reducible refine wpList_load_opx (by with_unfolding_all rfl) _ rfl _ rfl hh.a K1 ?_)
    | (with_reducible refine wpList_load_opx (by with_unfolding_all rfl) _ rfl _ rfl hh.b K2 ?_)
    | ((with_reducible refine wpList_build2o rfl _ _ rfl (opC D A n c B m d) (opC E A2 n2 c2 B2 m2 d2) s1 s2 rfl rfl ?_); intro cs q1 q2; have hb := (Below.refl W0.heap.size W0).alloc (Nat.le_refl _) (.cells cs 45); replace hh := hh.below hb; clear hb; generalize W0.alloc (.cells cs 45) = W1 at *; generalize W0.heap.size = gO at *)
    | (go_at_call 21; have hb := (Below.refl W1.heap.size W1).alloc (Nat.le_refl _) (.cells #[.slice (some ⟨gO, 0, none⟩) 2 2] 47); have hc := (Blk.new W1 47 #[.slice (some ⟨gO, 0, none⟩) 2 2]).cell_ (i := 0) rfl; (with_reducible refine (cF _ _ _ (hh.below hb).x hc (q1.below hb) (q2.below hb)).mono ?_); rintro o1 w1 ⟨rfl, hb1⟩; replace hh := (hh.below hb).below hb1; clear hb hc hb1 q1 q2))
  go_upto_region 4 with (first
    | (with_reducible refine wpList_load_opx (by with_unfolding_all rfl) _ rfl _ rfl hh.a K1 ?_)
    | (with_reducible refine wpList_load_opx (by with_unfolding_all rfl) _ rfl _ rfl hh.b K2 ?_)
    | (go_at_call 23; (with_reducible refine (cS _ hh.x).mono ?_); rintro o2 w2 ⟨A5, c5, B5, d5, A6, c6, B6, d6, rfl, r5, r6, hb⟩; replace hh := hh.below hb; clear hb; have z5 := fun zc => (two_z w2 zc).1; have y5 := fun zc => (two_z w2 zc).2.1; have x5 := fun zc => (two_z w2 zc).2.2)
    | ((with_reducible refine wpList_store_op rfl _ _ rfl w2.heap.size (z5 _) rfl rfl L1 (by with_unfolding_all rfl) ?_); intro w3 b5 g5; have b6 := blk_gb (y5 _) g5 (by omega); have l5 := hh.b.b.lt; have k3 := (x5 _).trans (below_of_gb g5 (Nat.le_refl _) (x5 _).size); replace hh := hh.below k3)
    | ((with_reducible refine wpList_store_op rfl _ _ rfl (w2.heap.size + 1) b6 rfl rfl L2 (by with_unfolding_all rfl) ?_); intro w4 b6' g6; replace b5 := blk_gb b5 g6 (by omega); have k4 := k3.trans (below_of_gb g6 (B := w2.heap.size) (by omega) k3.size); replace r5 := r5.below k4; replace r6 := r6.below k4; replace hh := hh.gb g6 (by omega)))
  go_upto_region 5 with (first
    | (with_reducible refine wpList_load_opx (by with_unfolding_all rfl) _ rfl _ rfl hh.a K1 ?_)
    | (with_reducible refine wpList_load_opx (by with_unfolding_all rfl) _ rfl _ rfl hh.b K2 ?_)
    | (go_at_call 24; (with_reducible refine (cR _ hh.x).mono ?_); rintro o5 w5 ⟨rfl, hb⟩; replace hh := hh.below hb; replace b5 := b5.below hb; replace b6' := b6'.below hb; replace r5 := r5.below hb; replace r6 := r6.below hb; clear hb; have l6 := b6'.lt; have z8 := fun zc => (two_z w5 zc).1; have y8 := fun zc => (two_z w5 zc).2.1; have x8 := fun zc => (two_z w5 zc).2.2)
    | ((with_reducible refine wpList_store_op rfl _ _ rfl w5.heap.size (z8 _) rfl rfl L1 (by with_unfolding_all rfl) ?_); intro w6 b8 g8; have b9 := blk_gb (y8 _) g8 (by omega); have k6 := (x8 _).trans (below_of_gb g8 (Nat.le_refl _) (x8 _).size); replace hh := hh.below k6; replace b5 := b5.below k6; replace b6' := b6'.below k6)
    | ((with_reducible refine wpList_store_op rfl _ _ rfl (w5.heap.size + 1) b9 rfl rfl L2 (by with_unfolding_all rfl) ?_); intro w7 b9' g9; replace b8 := blk_gb b8 g9 (by omega); have k7 := k6.trans (below_of_gb g9 (B := w5.heap.size) (by omega) k6.size); replace r5 := r5.below k7; replace r6 := r6.below k7; replace hh := hh.gb g9 (by omega); replace b5 := blk_gb b5 g9 (by omega); replace b6' := blk_gb b6' g9 (by omega)))
  have X5 : OpX w7 w2.heap.size E1 A5 n5 c5 B5 m5 d5 := ⟨b5⟩
  have X6 : OpX w7 (w2.heap.size + 1) D1 A6 n6 c6 B6 m6 d6 := ⟨b6'⟩
  have X8 : OpX w7 w5.heap.size E1 A8 n5 c8 B8 m5 d8 := ⟨b8⟩
  have X9 : OpX w7 (w5.heap.size + 1) D1 A9 n6 c9 B9 m6 d9 := ⟨b9'⟩
  have r8 := h8 _ hh.x
  have r9 := h9 _ hh.x
  clear b5 b6' b8 b9' b6 b9 z5 y5 x5 z8 y8 x8 g5 g6 g8 g9 k3 k4 k6 k7 l5 l6
  go_wp2_with (first
    | (with_reducible refine wpList_load_opx (by with_unfolding_all rfl) _ rfl _ rfl hh.a K1 ?_)
    | (with_reducible refine wpList_load_opx (by with_unfolding_all rfl) _ rfl _ rfl hh.b K2 ?_)
    | (with_reducible refine wpList_load_opx (by with_unfolding_all rfl) _ rfl _ rfl X5 L1 ?_)
    | (with_reducible refine wpList_load_opx (by with_unfolding_all rfl) _ rfl _ rfl X6 L2 ?_)
    | (with_reducible refine wpList_load_opx (by with_unfolding_all rfl) _ rfl _ rfl X8 L1 ?_)
    | (with_reducible refine wpList_load_opx (by with_unfolding_all rfl) _ rfl _ rfl X9 L2 ?_)
    | (go_at_call 25; (with_reducible refine (cA _ hh.x).mono ?_); rintro o8 w8 ⟨rfl, hb⟩; replace hh := hh.below hb; replace X5 := X5.below hb; replace X6 := X6.below hb; replace X8 := X8.below hb; replace X9 := X9.below hb; replace r5 := r5.below hb; replace r6 := r6.below hb; replace r8 := r8.below hb; replace r9 := r9.below hb; clear hb)
    | (go_at_call 26; (first | (with_reducible refine (rsame13_eq _ _ _ _ _ _ _ _ _ _ _ _ _ _ r5 r8).mono ?_) | (with_reducible refine (rsame13_eq _ _ _ _ _ _ _ _ _ _ _ _ _ _ r6 r9).mono ?_)); rintro o8 w8 ⟨rfl, hb⟩; replace hh := hh.below hb; replace X5 := X5.below hb; replace X6 := X6.below hb; replace X8 := X8.below hb; replace X9 := X9.below hb; replace r5 := r5.below hb; replace r6 := r6.below hb; replace r8 := r8.below hb; replace r9 := r9.below hb; clear hb)
    | (go_at_call 22; (with_reducible refine (awake16_any _).mono ?_); rintro o9 w9 ⟨rfl, hb9⟩; have hx9 := hh.x.trans (hb9.mono hh.x.size)))
  go_ret
  exact ⟨rfl, hx9⟩

theorem lng_small {D : OpD} (h : lngO D = false) : D.p.length ≤ 300 ∧ D.t.length ≤ 300 ∧ D.o.length ≤ 40 ∧ D.n.length ≤ 40 ∧ (∀ x ∈ D.o, x.length ≤ 300) ∧ ∀ x ∈ D.n, x.length ≤ 300 := by
  unfold lngO at h
  simp only [Bool.or_eq_false_iff, decide_eq_false_iff_not, List.any_cons, List.any_nil, List.any_eq_false, decide_eq_true_eq] at h
  obtain ⟨a, b, c, d, e, f⟩ := h
  refine ⟨by omega, by omega, by omega, by omega, fun x hx => ?_, fun x hx => ?_⟩
  · have := e x hx; omega
  · have := f.1 x hx; omega

theorem few_any (D : OpD) (A : Option Addr) (n c : Nat) (B : Option Addr) (m d : Nat) (E : OpD) (A2 : Option Addr) (n2 c2 : Nat) (B2 : Option Addr) (m2 d2 : Nat) (w : World) (K1 : D.K.length = 32) (K2 : E.K.length = 32) (y1 : LnO w A n D.o) (y2 : LnO w B m D.n) (bp : D.p.length ≤ 9223372036854775807) (bt : D.t.length ≤ 9223372036854775807) (y3 : LnO w A2 n2 E.o) (y4 : LnO w B2 m2 E.n) (bp2 : E.p.length ≤ 9223372036854775807) (bt2 : E.t.length ≤ 9223372036854775807) (v : Bool) (hv : (!(lngO D || lngO E)) = v) (W : World) (gR gO : Nat) (h : Below w.heap.size w W) (hR : W.cell? ⟨gR, 0, none⟩ = some (.slice (some ⟨gO, 0, none⟩) 2 2)) (hA : W.rangeAt gO 0 (opC D A n c B m d).toList) (hE : W.rangeAt gO 39 (opC E A2 n2 c2 B2 m2 d2).toList) :
    Calls Try.prog 21 #[.slice (some ⟨gR, 0, none⟩) 1 1] W fun e w' => e = .returned (.bool v) ∧ Below W.heap.size W w' := by
  have c1 : ∀ b, lngO D = b → ∀ W2, Below W.heap.size W W2 → Calls Try.prog 54 #[.agg (opC D A n c B m d)] W2 fun o w' => o = .returned (.bool b) ∧ Below W2.heap.size W2 w' := fun b hb W2 h2 => by
    have h3 := h.trans (h2.mono h.size)
    rw [← hb]; exact rlong13_any D K1 A n c y1.1 y1.2.1 B m d y2.1 y2.2.1 bp bt W2 (y1.2.2.below h3) (y2.2.2.below h3)
  have cl2 : ∀ b, lngO E = b → ∀ W2, Below W.heap.size W W2 → Calls Try.prog 54 #[.agg (opC E A2 n2 c2 B2 m2 d2)] W2 fun o w' => o = .returned (.bool b) ∧ Below W2.heap.size W2 w' := fun b hb W2 h2 => by
    have h3 := h.trans (h2.mono h.size)
    rw [← hb]; exact rlong13_any E K2 A2 n2 c2 y3.1 y3.2.1 B2 m2 d2 y4.1 y4.2.1 bp2 bt2 W2 (y3.2.2.below h3) (y4.2.2.below h3)
  cases hl : lngO D with
  | true =>
    rw [hl, Bool.true_or] at hv
    subst hv
    exact few2_x D A n c B m d E A2 n2 c2 B2 m2 d2 W K1 K2 gR gO hR hA hE (c1 true hl)
  | false =>
    cases hm : lngO E with
    | true =>
      rw [hl, hm, Bool.or_true] at hv
      subst hv
      exact few2_y D A n c B m d E A2 n2 c2 B2 m2 d2 W K1 K2 gR gO hR hA hE (c1 false hl) (cl2 true hm)
    | false =>
      rw [hl, hm] at hv
      subst hv
      exact few2_n D A n c B m d E A2 n2 c2 B2 m2 d2 W K1 K2 gR gO hR hA hE (c1 false hl) (cl2 false hm)
theorem opR_lng (D : OpD) (A : Option Addr) (n c : Nat) (B : Option Addr) (m d : Nat) (w : World) (K1 : D.K.length = 32) (y1 : LnO w A n D.o) (y2 : LnO w B m D.n) (hl : lngO D = false) : OpR w D A n B m := by
  obtain ⟨z1, z2, z3, z4, z5, z6⟩ := lng_small hl
  exact ⟨y1.1, by have := y1.1; omega, fun x hx => Nat.le_trans (z5 x hx) (by decide), y2.1, by have := y2.1; omega, fun x hx => Nat.le_trans (z6 x hx) (by decide), y1.2.2, y2.2.2, K1, by omega, by omega⟩
theorem commuteSwaps_any (D : OpD) (A : Option Addr) (n c : Nat) (B : Option Addr) (m d : Nat) (E : OpD) (A2 : Option Addr) (n2 c2 : Nat) (B2 : Option Addr) (m2 d2 : Nat) (w : World) (K1 : D.K.length = 32) (K2 : E.K.length = 32) (y1 : LnO w A n D.o) (y2 : LnO w B m D.n) (bp : D.p.length ≤ 9223372036854775807) (bt : D.t.length ≤ 9223372036854775807) (y3 : LnO w A2 n2 E.o) (y4 : LnO w B2 m2 E.n) (bp2 : E.p.length ≤ 9223372036854775807) (bt2 : E.t.length ≤ 9223372036854775807) :
    Calls Try.prog 5 #[.agg (opC D A n c B m d), .agg (opC E A2 n2 c2 B2 m2 d2)] w fun e w' => e = .returned (.bool true) ∧ Below w.heap.size w w' := by
  have cF := few_any D A n c B m d E A2 n2 c2 B2 m2 d2 w K1 K2 y1 y2 bp bt y3 y4 bp2 bt2
  cases hl : (lngO D || lngO E) with
  | true => exact cms_long D A n c B m d E A2 n2 c2 B2 m2 d2 w K1 K2 (cF false (by rw [hl]; rfl))
  | false =>
    obtain ⟨l1, l2⟩ := Bool.or_eq_false_iff.1 hl
    have hR := opR_lng D A n c B m d w K1 y1 y2 l1
    have hS := opR_lng E A2 n2 c2 B2 m2 d2 w K2 y3 y4 l2
    have cA : ∀ b, apB D E = b → ∀ W, Below w.heap.size w W → Calls Try.prog 25 #[.agg (opC D A n c B m d), .agg (opC E A2 n2 c2 B2 m2 d2)] W fun o w' => o = .returned (.bool b) ∧ Below W.heap.size W w' := fun b hb W h => by rw [← hb]; exact apart_any D A n c B m d E A2 n2 c2 B2 m2 d2 W (hR.below h) (hS.below h)
    cases hap : apB D E with
    | true =>
      refine cms_t D A n c B m d E A2 n2 c2 B2 m2 d2 w K1 K2 { E with a := aE D E } { D with a := aD D E } K2 K1 A2 n2 c2 B2 m2 d2 A n c B m d (cF true (by rw [hl]; rfl)) (fun W h => ?_) (fun W h => ?_) (cA true hap) (fun W h => ?_) (fun W h => ?_)
      · refine (cswap_any D A n c B m d E A2 n2 c2 B2 m2 d2 W (hR.below h) (hS.below h)).mono ?_
        rintro e w' (⟨_, A5, c5, B5, d5, A6, c6, B6, d6, rfl, o1, o2, o3, o4, hb⟩ | ⟨h2, _⟩)
        · exact ⟨A5, c5, B5, d5, A6, c6, B6, d6, rfl, ⟨hS.lo, hS.bn, hS.bo, hS.ln, hS.bm, hS.bx, (own_rd o1).2, (own_rd o2).2, K2, hS.bp, hS.bt⟩, ⟨hR.lo, hR.bn, hR.bo, hR.ln, hR.bm, hR.bx, (own_rd o3).2, (own_rd o4).2, K1, hR.bp, hR.bt⟩, hb⟩
        · rw [hap] at h2; cases h2
      · refine (rswap_any D A n c B m d E A2 n2 c2 B2 m2 d2 W (hR.below h) (hS.below h)).mono ?_
        rintro e w' (⟨_, rfl, hb⟩ | ⟨h2, _⟩)
        · exact ⟨rfl, hb⟩
        · rw [hap] at h2; cases h2
      · have q := hS.below h
        exact ⟨q.lo, q.bn, q.bo, q.ln, q.bm, q.bx, q.rA, q.rB, K2, q.bp, q.bt⟩
      · have q := hR.below h
        exact ⟨q.lo, q.bn, q.bo, q.ln, q.bm, q.bx, q.rA, q.rB, K1, q.bp, q.bt⟩
    | false =>
      refine cms_f D A n c B m d E A2 n2 c2 B2 m2 d2 w K1 K2 opZ opZ rfl rfl none 0 0 none 0 0 none 0 0 none 0 0 (cF true (by rw [hl]; rfl)) (fun W h => ?_) (fun W h => ?_) (cA false hap) (fun W _ => OpR.zero W) (fun W _ => OpR.zero W)
      · refine (cswap_any D A n c B m d E A2 n2 c2 B2 m2 d2 W (hR.below h) (hS.below h)).mono ?_
        rintro e w' (⟨h2, _⟩ | ⟨_, rfl, hb⟩)
        · rw [hap] at h2; cases h2
        · exact ⟨none, 0, none, 0, none, 0, none, 0, rfl, OpR.zero _, OpR.zero _, hb⟩
      · refine (rswap_any D A n c B m d E A2 n2 c2 B2 m2 d2 W (hR.below h) (hS.below h)).mono ?_
        rintro e w' (⟨h2, _⟩ | ⟨_, rfl, hb⟩)
        · rw [hap] at h2; cases h2
        · exact ⟨rfl, hb⟩

section
open Go.ChangeShapes Go.WideShapes Go.ChangeAt
open Go.ChangeMaps (open_string shut_string)
theorem own_CommuteSwaps : ownKnob Try.prog.godebug = none := by kernel_rfl
theorem laidOut_CommuteSwaps : laidOutB Try.prog = true := by kernel_rfl
set_option linter.unusedVariables false in
set_option maxRecDepth 100000 in
theorem lifted_CommuteSwaps (os : Os) (started : os.Started) (H : Type) (enc : TypeId × Value → H) :
    ReturnsInHanded {} Try.checked os 5 .any (Rows.commuteSwapsSpec.pre6 enc Try.prog Try.f5 Rows.commuteSwapsRow.domain false) (Rows.commuteSwapsSpec.post enc Try.prog Try.f5 false true false false) := by
  refine returnsInHanded_of_change (C := Try.checked) own_CommuteSwaps started (by kernel_rfl) Try.func5
    (ChangeSpec.witness6 (enc := enc) (C := Try.checked) false ⟨#[], #[.agg #[.int .i64 0, .string ⟨#[]⟩, .string ⟨#[]⟩, .int .i64 0, .slice none 0 0, .slice none 0 0, .int .u8 0, .int .u8 0, .int .u8 0, .int .u8 0, .int .u8 0, .int .u8 0, .int .u8 0, .int .u8 0, .int .u8 0, .int .u8 0, .int .u8 0, .int .u8 0, .int .u8 0, .int .u8 0, .int .u8 0, .int .u8 0, .int .u8 0, .int .u8 0, .int .u8 0, .int .u8 0, .int .u8 0, .int .u8 0, .int .u8 0, .int .u8 0, .int .u8 0, .int .u8 0, .int .u8 0, .int .u8 0, .int .u8 0, .int .u8 0, .int .u8 0, .int .u8 0, .int .i64 0], .agg #[.int .i64 0, .string ⟨#[]⟩, .string ⟨#[]⟩, .int .i64 0, .slice none 0 0, .slice none 0 0, .int .u8 0, .int .u8 0, .int .u8 0, .int .u8 0, .int .u8 0, .int .u8 0, .int .u8 0, .int .u8 0, .int .u8 0, .int .u8 0, .int .u8 0, .int .u8 0, .int .u8 0, .int .u8 0, .int .u8 0, .int .u8 0, .int .u8 0, .int .u8 0, .int .u8 0, .int .u8 0, .int .u8 0, .int .u8 0, .int .u8 0, .int .u8 0, .int .u8 0, .int .u8 0, .int .u8 0, .int .u8 0, .int .u8 0, .int .u8 0, .int .u8 0, .int .u8 0, .int .i64 0]], []⟩ 8 (by kernel_rfl) (by kernel_rfl) (by kernel_rfl) (by kernel_rfl)) ?_
  intro W base args ds gs before hval0 hW hcnd _
  have hval : ∀ (j : Nat) t v, Try.f5.params[j]? = some t → args[j]? = some v → Value.okWide Try.prog W .any base t v := hval0
  have hW' := hW
  obtain ⟨p, q, hA0, hV, rfl, hfz, hnd⟩ := hW
  have hA1 : DataW.TrodAll enc Try.prog W 0 (fun _ => true) true Try.f5.params.toList args.toList ds p := hA0
  have hA : DataW.TrodAll enc Try.prog W 0 (fun _ => true) true Try.f5.params.toList args.toList ds p := hA0
  rw [Try.params5] at hA hval
  obtain ⟨v0, vs0, d0, ds0, p0, q0, hargs, rfl, rfl, h0, r0⟩ := trodAll_cons hA
  obtain ⟨v1, vs1, d1, ds1, p1, q1, rfl, rfl, rfl, h1, r1⟩ := trodAll_cons r0
  obtain ⟨rfl, rfl, rfl⟩ := trodAll_nil r1
  obtain rfl : args = #[v0, v1] := by cases args; simp_all
  obtain ⟨rfl, rfl⟩ := trodVars_none hV
  obtain ⟨D, A, n, c, B, m, d, rfl, K1, y1, y2, bp, bt⟩ := open_op (hval 0 45 v0 rfl rfl) h0
  obtain ⟨E, A2, n2, c2, B2, m2, d2, rfl, K2, y3, y4, bp2, bt2⟩ := open_op (hval 1 45 v1 rfl rfl) h1
  clear hA0 hval0
  refine (commuteSwaps_any D A n c B m d E A2 n2 c2 B2 m2 d2 W K1 K2 y1 y2 bp bt y3 y4 bp2 bt2).mono fun e W' ⟨he, bel⟩ => ?_
  subst he
  exact ⟨_, rfl, _, _, _, [], _, [], hW', trodAll_mk1 (shut_bool Try.underlying4 _), trodAll_stays laidOut_CommuteSwaps bel (by kernel_rfl) hA1, rfl, bel.frame _, fun h => by cases h⟩

/-- The statement. -/
theorem CommuteSwaps_holds : Rows.CommuteSwapsSaid :=
  OpenClaim.holds_of_wide 5 Try.f5 rfl rfl rfl rfl rfl rfl rfl ⟨rfl, rfl, rfl, rfl, rfl⟩ rfl rfl rfl rfl rfl (by kernel_rfl) Try.func5 (by kernel_rfl)
    (of_decide_eq_true (by kernel_rfl)) (by unfold Func.isWrapper; first | (rw [if_pos (by decide +kernel)]; kernel_rfl) | (rw [if_neg (by decide +kernel)]; exact ⟨rfl, rfl⟩))
    (fun os started H enc _ => lifted_CommuteSwaps os started H enc)
end
#print axioms CommuteSwaps_holds
end Go.Proofs.Ytbdlpdajdlpncaa

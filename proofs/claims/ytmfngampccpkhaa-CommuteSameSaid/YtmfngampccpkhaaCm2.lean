
/- commute.Apart. -/
import Derived.Test.YtmfngampccpkhaaCm1
set_option linter.unusedSimpArgs false
set_option linter.unusedVariables false
namespace Go.Proofs.Ytmfngampccpkhaa
open Go.RowKit Go.Qc Go.Shelf
attribute [local go_sem] txt_size txt_append ib_fold txt_toL

set_option maxRecDepth 100000 in
set_option maxHeartbeats 16000000 in
theorem apart_1 (D : OpD) (A : Option Addr) (n c : Nat) (B : Option Addr) (m d : Nat) (E : OpD) (A2 : Option Addr) (n2 c2 : Nat) (B2 : Option Addr) (m2 d2 : Nat) (w : World) (K1 : D.K.length = 32) (K2 : E.K.length = 32) (x : Int) (hx : (x != 0) = true) (cR1 : ∀ W, Below w.heap.size w W → Calls Try.prog 21 #[.agg (opC D A n c B m d)] W fun o w' => o = .returned (.int .i64 x) ∧ Below W.heap.size W w') (y : Int) (cR2 : ∀ W, Below w.heap.size w W → Calls Try.prog 21 #[.agg (opC E A2 n2 c2 B2 m2 d2)] W fun o w' => o = .returned (.int .i64 y) ∧ Below W.heap.size W w') :
    Calls Try.prog 15 #[.agg (opC D A n c B m d), .agg (opC E A2 n2 c2 B2 m2 d2)] w fun o w' => o = .returned (.bool false) ∧ Below w.heap.size w w' := by
  have hh := Op2.new w D A n c B m d E A2 n2 c2 B2 m2 d2
  go_enter Try.func15, Try.ntmps15
  go_wp2_with (first
    | (with_reducible refine wpList_load_opx (by with_unfolding_all rfl) _ rfl _ rfl hh.a K1 ?_)
    | (with_reducible refine wpList_load_opx (by with_unfolding_all rfl) _ rfl _ rfl hh.b K2 ?_)
    | (go_at_call 21; (first | (with_reducible refine (cR1 _ hh.x).mono ?_) | (with_reducible refine (cR2 _ hh.x).mono ?_)); rintro o1 w1 ⟨rfl, hb⟩; replace hh := hh.below hb; clear hb)
    | (go_at_call 22; (first | (with_reducible refine (cP1 _ hh.x).mono ?_) | (with_reducible refine (cP2 _ hh.x).mono ?_)); rintro o1 w1 ⟨rfl, hb⟩; replace hh := hh.below hb; clear hb)
    | (go_at_call 23; (with_reducible refine (cT _ hh.x).mono ?_); rintro o1 w1 ⟨rfl, hb⟩; replace hh := hh.below hb; clear hb))
  go_ret
  exact ⟨rfl, hh.x⟩

set_option maxRecDepth 100000 in
set_option maxHeartbeats 16000000 in
theorem apart_2 (D : OpD) (A : Option Addr) (n c : Nat) (B : Option Addr) (m d : Nat) (E : OpD) (A2 : Option Addr) (n2 c2 : Nat) (B2 : Option Addr) (m2 d2 : Nat) (w : World) (K1 : D.K.length = 32) (K2 : E.K.length = 32) (cR1 : ∀ W, Below w.heap.size w W → Calls Try.prog 21 #[.agg (opC D A n c B m d)] W fun o w' => o = .returned (.int .i64 0) ∧ Below W.heap.size W w') (y : Int) (hy : (y != 0) = true) (cR2 : ∀ W, Below w.heap.size w W → Calls Try.prog 21 #[.agg (opC E A2 n2 c2 B2 m2 d2)] W fun o w' => o = .returned (.int .i64 y) ∧ Below W.heap.size W w') :
    Calls Try.prog 15 #[.agg (opC D A n c B m d), .agg (opC E A2 n2 c2 B2 m2 d2)] w fun o w' => o = .returned (.bool false) ∧ Below w.heap.size w w' := by
  have hh := Op2.new w D A n c B m d E A2 n2 c2 B2 m2 d2
  go_enter Try.func15, Try.ntmps15
  go_wp2_with (first
    | (with_reducible refine wpList_load_opx (by with_unfolding_all rfl) _ rfl _ rfl hh.a K1 ?_)
    | (with_reducible refine wpList_load_opx (by with_unfolding_all rfl) _ rfl _ rfl hh.b K2 ?_)
    | (go_at_call 21; (first | (with_reducible refine (cR1 _ hh.x).mono ?_) | (with_reducible refine (cR2 _ hh.x).mono ?_)); rintro o1 w1 ⟨rfl, hb⟩; replace hh := hh.below hb; clear hb)
    | (go_at_call 22; (first | (with_reducible refine (cP1 _ hh.x).mono ?_) | (with_reducible refine (cP2 _ hh.x).mono ?_)); rintro o1 w1 ⟨rfl, hb⟩; replace hh := hh.below hb; clear hb)
    | (go_at_call 23; (with_reducible refine (cT _ hh.x).mono ?_); rintro o1 w1 ⟨rfl, hb⟩; replace hh := hh.below hb; clear hb))
  go_ret
  exact ⟨rfl, hh.x⟩

set_option maxRecDepth 100000 in
set_option maxHeartbeats 16000000 in
theorem apart_3 (D : OpD) (A : Option Addr) (n c : Nat) (B : Option Addr) (m d : Nat) (E : OpD) (A2 : Option Addr) (n2 c2 : Nat) (B2 : Option Addr) (m2 d2 : Nat) (w : World) (K1 : D.K.length = 32) (K2 : E.K.length = 32) (cR1 : ∀ W, Below w.heap.size w W → Calls Try.prog 21 #[.agg (opC D A n c B m d)] W fun o w' => o = .returned (.int .i64 0) ∧ Below W.heap.size W w') (cR2 : ∀ W, Below w.heap.size w W → Calls Try.prog 21 #[.agg (opC E A2 n2 c2 B2 m2 d2)] W fun o w' => o = .returned (.int .i64 0) ∧ Below W.heap.size W w') (cP1 : ∀ W, Below w.heap.size w W → Calls Try.prog 22 #[.agg (opC D A n c B m d)] W fun o w' => o = .returned (.bool true) ∧ Below W.heap.size W w') (pb : Bool) (cP2 : ∀ W, Below w.heap.size w W → Calls Try.prog 22 #[.agg (opC E A2 n2 c2 B2 m2 d2)] W fun o w' => o = .returned (.bool pb) ∧ Below W.heap.size W w') :
    Calls Try.prog 15 #[.agg (opC D A n c B m d), .agg (opC E A2 n2 c2 B2 m2 d2)] w fun o w' => o = .returned (.bool true) ∧ Below w.heap.size w w' := by
  have hh := Op2.new w D A n c B m d E A2 n2 c2 B2 m2 d2
  go_enter Try.func15, Try.ntmps15
  go_wp2_with (first
    | (with_reducible refine wpList_load_opx (by with_unfolding_all rfl) _ rfl _ rfl hh.a K1 ?_)
    | (with_reducible refine wpList_load_opx (by with_unfolding_all rfl) _ rfl _ rfl hh.b K2 ?_)
    | (go_at_call 21; (first | (with_reducible refine (cR1 _ hh.x).mono ?_) | (with_reducible refine (cR2 _ hh.x).mono ?_)); rintro o1 w1 ⟨rfl, hb⟩; replace hh := hh.below hb; clear hb)
    | (go_at_call 22; (first | (with_reducible refine (cP1 _ hh.x).mono ?_) | (with_reducible refine (cP2 _ hh.x).mono ?_)); rintro o1 w1 ⟨rfl, hb⟩; replace hh := hh.below hb; clear hb)
    | (go_at_call 23; (with_reducible refine (cT _ hh.x).mono ?_); rintro o1 w1 ⟨rfl, hb⟩; replace hh := hh.below hb; clear hb))
  go_ret
  exact ⟨rfl, hh.x⟩

set_option maxRecDepth 100000 in
set_option maxHeartbeats 16000000 in
theorem apart_4 (D : OpD) (A : Option Addr) (n c : Nat) (B : Option Addr) (m d : Nat) (E : OpD) (A2 : Option Addr) (n2 c2 : Nat) (B2 : Option Addr) (m2 d2 : Nat) (w : World) (K1 : D.K.length = 32) (K2 : E.K.length = 32) (cR1 : ∀ W, Below w.heap.size w W → Calls Try.prog 21 #[.agg (opC D A n c B m d)] W fun o w' => o = .returned (.int .i64 0) ∧ Below W.heap.size W w') (cR2 : ∀ W, Below w.heap.size w W → Calls Try.prog 21 #[.agg (opC E A2 n2 c2 B2 m2 d2)] W fun o w' => o = .returned (.int .i64 0) ∧ Below W.heap.size W w') (cP1 : ∀ W, Below w.heap.size w W → Calls Try.prog 22 #[.agg (opC D A n c B m d)] W fun o w' => o = .returned (.bool false) ∧ Below W.heap.size W w') (cP2 : ∀ W, Below w.heap.size w W → Calls Try.prog 22 #[.agg (opC E A2 n2 c2 B2 m2 d2)] W fun o w' => o = .returned (.bool true) ∧ Below W.heap.size W w') :
    Calls Try.prog 15 #[.agg (opC D A n c B m d), .agg (opC E A2 n2 c2 B2 m2 d2)] w fun o w' => o = .returned (.bool true) ∧ Below w.heap.size w w' := by
  have hh := Op2.new w D A n c B m d E A2 n2 c2 B2 m2 d2
  go_enter Try.func15, Try.ntmps15
  go_wp2_with (first
    | (with_reducible refine wpList_load_opx (by with_unfolding_all rfl) _ rfl _ rfl hh.a K1 ?_)
    | (with_reducible refine wpList_load_opx (by with_unfolding_all rfl) _ rfl _ rfl hh.b K2 ?_)
    | (go_at_call 21; (first | (with_reducible refine (cR1 _ hh.x).mono ?_) | (with_reducible refine (cR2 _ hh.x).mono ?_)); rintro o1 w1 ⟨rfl, hb⟩; replace hh := hh.below hb; clear hb)
    | (go_at_call 22; (first | (with_reducible refine (cP1 _ hh.x).mono ?_) | (with_reducible refine (cP2 _ hh.x).mono ?_)); rintro o1 w1 ⟨rfl, hb⟩; replace hh := hh.below hb; clear hb)
    | (go_at_call 23; (with_reducible refine (cT _ hh.x).mono ?_); rintro o1 w1 ⟨rfl, hb⟩; replace hh := hh.below hb; clear hb))
  go_ret
  exact ⟨rfl, hh.x⟩

set_option maxRecDepth 100000 in
set_option maxHeartbeats 16000000 in
theorem apart_5 (D : OpD) (A : Option Addr) (n c : Nat) (B : Option Addr) (m d : Nat) (E : OpD) (A2 : Option Addr) (n2 c2 : Nat) (B2 : Option Addr) (m2 d2 : Nat) (w : World) (K1 : D.K.length = 32) (K2 : E.K.length = 32) (cR1 : ∀ W, Below w.heap.size w W → Calls Try.prog 21 #[.agg (opC D A n c B m d)] W fun o w' => o = .returned (.int .i64 0) ∧ Below W.heap.size W w') (cR2 : ∀ W, Below w.heap.size w W → Calls Try.prog 21 #[.agg (opC E A2 n2 c2 B2 m2 d2)] W fun o w' => o = .returned (.int .i64 0) ∧ Below W.heap.size W w') (cP1 : ∀ W, Below w.heap.size w W → Calls Try.prog 22 #[.agg (opC D A n c B m d)] W fun o w' => o = .returned (.bool false) ∧ Below W.heap.size W w') (cP2 : ∀ W, Below w.heap.size w W → Calls Try.prog 22 #[.agg (opC E A2 n2 c2 B2 m2 d2)] W fun o w' => o = .returned (.bool false) ∧ Below W.heap.size W w') (cT : ∀ W, Below w.heap.size w W → Calls Try.prog 23 #[.agg (opC D A n c B m d), .agg (opC E A2 n2 c2 B2 m2 d2)] W fun o w' => o = .returned (.bool true) ∧ Below W.heap.size W w') (cH1 : ∀ W, Below w.heap.size w W → Calls Try.prog 25 #[.agg (opC D A n c B m d)] W fun e w' => ∃ A' c' B' d', e = .returned (.agg #[.int .i64 D.a, .slice A' n c', .slice B' m d']) ∧ w'.ownsRow W.heap.size 9 1 (.slice A' n c') n (D.o.map strV) ∧ w'.ownsRow W.heap.size 9 1 (.slice B' m d') m (D.n.map strV) ∧ Below W.heap.size W w') (cH2 : ∀ W, Below w.heap.size w W → Calls Try.prog 25 #[.agg (opC E A2 n2 c2 B2 m2 d2)] W fun e w' => ∃ A' c' B' d', e = .returned (.agg #[.int .i64 E.a, .slice A' n2 c', .slice B' m2 d']) ∧ w'.ownsRow W.heap.size 9 1 (.slice A' n2 c') n2 (E.o.map strV) ∧ w'.ownsRow W.heap.size 9 1 (.slice B' m2 d') m2 (E.n.map strV) ∧ Below W.heap.size W w') (z : Bool) (cA : ∀ (W : World) (A3 : Option Addr) (c3 : Nat) (B3 : Option Addr) (d3 : Nat) (A4 : Option Addr) (c4 : Nat) (B4 : Option Addr) (d4 : Nat) (g3 g4 : Nat), Below w.heap.size w W → W.ownsRow g3 9 1 (.slice A3 n c3) n (D.o.map strV) → W.ownsRow g3 9 1 (.slice B3 m d3) m (D.n.map strV) → W.ownsRow g4 9 1 (.slice A4 n2 c4) n2 (E.o.map strV) → W.ownsRow g4 9 1 (.slice B4 m2 d4) m2 (E.n.map strV) → Calls Try.prog 24 #[.agg #[.int .i64 D.a, .slice A3 n c3, .slice B3 m d3], .agg #[.int .i64 E.a, .slice A4 n2 c4, .slice B4 m2 d4]] W fun o w' => o = .returned (.bool z) ∧ Below W.heap.size W w') :
    Calls Try.prog 15 #[.agg (opC D A n c B m d), .agg (opC E A2 n2 c2 B2 m2 d2)] w fun o w' => o = .returned (.bool z) ∧ Below w.heap.size w w' := by
  have hh := Op2.new w D A n c B m d E A2 n2 c2 B2 m2 d2
  go_enter Try.func15, Try.ntmps15
  go_wp2_with (first
    | (with_reducible refine wpList_load_opx (by with_unfolding_all rfl) _ rfl _ rfl hh.a K1 ?_)
    | (with_reducible refine wpList_load_opx (by with_unfolding_all rfl) _ rfl _ rfl hh.b K2 ?_)
    | (go_at_call 21; (first | (with_reducible refine (cR1 _ hh.x).mono ?_) | (with_reducible refine (cR2 _ hh.x).mono ?_)); rintro o1 w1 ⟨rfl, hb⟩; replace hh := hh.below hb; clear hb)
    | (go_at_call 22; (first | (with_reducible refine (cP1 _ hh.x).mono ?_) | (with_reducible refine (cP2 _ hh.x).mono ?_)); rintro o1 w1 ⟨rfl, hb⟩; replace hh := hh.below hb; clear hb)
    | (go_at_call 23; (with_reducible refine (cT _ hh.x).mono ?_); rintro o1 w1 ⟨rfl, hb⟩; replace hh := hh.below hb; clear hb))
  refine wp_region_held_drew (S := fun W => Op2 w W D A n c B m d E A2 n2 c2 B2 m2 d2) (by kernel_rfl) (hh.below (below_drew10 _)) (fun hHeld => ?_)
  clear hh
  refine' wpAnyH_take (i := 0) (v := .agg (opC D A n c B m d)) rfl (by kernel_rfl) (by kernel_rfl) (by kernel_rfl) (fun _ _ _ h => h) (yields_opx (by rfl) _ rfl _ rfl (fun w' h => h.a) K1) hHeld ?_
  try simp only [Act.put, List.getElem_toArray, List.getElem_cons_succ, List.getElem_cons_zero, List.setIfInBounds_toArray, List.set_cons_zero, List.set_cons_succ]
  refine' wpAnyH_take (i := 2) (v := .agg (opC E A2 n2 c2 B2 m2 d2)) rfl (by kernel_rfl) (by kernel_rfl) (by kernel_rfl) (fun _ _ _ h => h) (yields_opx (by rfl) _ rfl _ rfl (fun w' h => h.b) K2) hHeld ?_
  try simp only [Act.put, List.getElem_toArray, List.getElem_cons_succ, List.getElem_cons_zero, List.setIfInBounds_toArray, List.set_cons_zero, List.set_cons_succ]
  refine wpAnyH_ready (rs := [1]) (by kernel_rfl) (by simp) ?_
  refine AllReadyH.cons rfl (fun K hK => ?_) AllReadyH.nil
  go_simp
  (with_reducible refine (cH1 _ hHeld.x).mono ?_)
  rintro e5 W2 ⟨A3, c3, B3, d3, rfl, o1, o2, hb⟩
  refine hK.out _ _ (hHeld.below hb) (fun hHeld => ?_)
  clear hK K hb
  try simp only [Act.put, List.getElem_toArray, List.getElem_cons_succ, List.getElem_cons_zero, List.setIfInBounds_toArray, List.set_cons_zero, List.set_cons_succ]
  refine wpAnyH_ready (rs := [3]) (by kernel_rfl) (by simp) ?_
  refine AllReadyH.cons rfl (fun K hK => ?_) AllReadyH.nil
  go_simp
  (with_reducible refine (cH2 _ hHeld.x).mono ?_)
  rintro e6 W3 ⟨A4, c4, B4, d4, rfl, o3, o4, hb⟩
  replace o1 := own_below o1 hb
  replace o2 := own_below o2 hb
  refine hK.out _ _ (hHeld.below hb) (fun hHeld => ?_)
  clear hK K hb
  try simp only [Act.put, List.getElem_toArray, List.getElem_cons_succ, List.getElem_cons_zero, List.setIfInBounds_toArray, List.set_cons_zero, List.set_cons_succ]
  refine wpAnyH_ready (rs := [4]) (by kernel_rfl) (by simp) ?_
  refine AllReadyH.cons rfl (fun K hK => ?_) AllReadyH.nil
  go_simp
  (with_reducible refine (cA _ _ _ _ _ _ _ _ _ _ _ hHeld.x o1 o2 o3 o4).mono ?_)
  rintro e7 W4 ⟨rfl, hb⟩
  refine hK.out _ _ (hHeld.below hb) (fun hHeld => ?_)
  clear hK K hb
  try simp only [Act.put, List.getElem_toArray, List.getElem_cons_succ, List.getElem_cons_zero, List.setIfInBounds_toArray, List.set_cons_zero, List.set_cons_succ]
  refine' wpAnyH_take (i := 5) (v := .bool z) rfl (by kernel_rfl) (by kernel_rfl) (by kernel_rfl) (fun _ _ _ h => h) (Or.inl ⟨by rfl, fun w' hw' => by go_simp⟩) hHeld ?_
  try simp only [Act.put, List.getElem_toArray, List.getElem_cons_succ, List.getElem_cons_zero, List.setIfInBounds_toArray, List.set_cons_zero, List.set_cons_succ]
  refine wpAnyH_done (by kernel_rfl) ?_ _
  go_wp2
  go_ret
  exact ⟨rfl, hHeld.x⟩

set_option maxRecDepth 100000 in
set_option maxHeartbeats 16000000 in
theorem apart_6 (D : OpD) (A : Option Addr) (n c : Nat) (B : Option Addr) (m d : Nat) (E : OpD) (A2 : Option Addr) (n2 c2 : Nat) (B2 : Option Addr) (m2 d2 : Nat) (w : World) (K1 : D.K.length = 32) (K2 : E.K.length = 32) (cR1 : ∀ W, Below w.heap.size w W → Calls Try.prog 21 #[.agg (opC D A n c B m d)] W fun o w' => o = .returned (.int .i64 0) ∧ Below W.heap.size W w') (cR2 : ∀ W, Below w.heap.size w W → Calls Try.prog 21 #[.agg (opC E A2 n2 c2 B2 m2 d2)] W fun o w' => o = .returned (.int .i64 0) ∧ Below W.heap.size W w') (cP1 : ∀ W, Below w.heap.size w W → Calls Try.prog 22 #[.agg (opC D A n c B m d)] W fun o w' => o = .returned (.bool false) ∧ Below W.heap.size W w') (cP2 : ∀ W, Below w.heap.size w W → Calls Try.prog 22 #[.agg (opC E A2 n2 c2 B2 m2 d2)] W fun o w' => o = .returned (.bool false) ∧ Below W.heap.size W w') (cT : ∀ W, Below w.heap.size w W → Calls Try.prog 23 #[.agg (opC D A n c B m d), .agg (opC E A2 n2 c2 B2 m2 d2)] W fun o w' => o = .returned (.bool false) ∧ Below W.heap.size W w') (cH1 : ∀ W, Below w.heap.size w W → Calls Try.prog 27 #[.agg (opC D A n c B m d)] W fun o w' => ∃ A1 n1, o = .returned (.slice A1 n1 n1) ∧ (pthD D).length = n1 ∧ n1 ≤ 2 ∧ Rd w' A1 ((pthD D).map strV) ∧ Below W.heap.size W w') (cH2 : ∀ W, Below w.heap.size w W → Calls Try.prog 27 #[.agg (opC E A2 n2 c2 B2 m2 d2)] W fun o w' => ∃ A1 n1, o = .returned (.slice A1 n1 n1) ∧ (pthD E).length = n1 ∧ n1 ≤ 2 ∧ Rd w' A1 ((pthD E).map strV) ∧ Below W.heap.size W w') (z : Bool) (cA : ∀ (W : World) (A3 : Option Addr) (n3 : Nat) (A4 : Option Addr) (n4 : Nat), Below w.heap.size w W → (pthD D).length = n3 → n3 ≤ 2 → Rd W A3 ((pthD D).map strV) → (pthD E).length = n4 → n4 ≤ 2 → Rd W A4 ((pthD E).map strV) → Calls Try.prog 26 #[.slice A3 n3 n3, .slice A4 n4 n4] W fun o w' => o = .returned (.bool z) ∧ Below W.heap.size W w') :
    Calls Try.prog 15 #[.agg (opC D A n c B m d), .agg (opC E A2 n2 c2 B2 m2 d2)] w fun o w' => o = .returned (.bool z) ∧ Below w.heap.size w w' := by
  have hh := Op2.new w D A n c B m d E A2 n2 c2 B2 m2 d2
  go_enter Try.func15, Try.ntmps15
  go_wp2_with (first
    | (with_reducible refine wpList_load_opx (by with_unfolding_all rfl) _ rfl _ rfl hh.a K1 ?_)
    | (with_reducible refine wpList_load_opx (by with_unfolding_all rfl) _ rfl _ rfl hh.b K2 ?_)
    | (go_at_call 21; (first | (with_reducible refine (cR1 _ hh.x).mono ?_) | (with_reducible refine (cR2 _ hh.x).mono ?_)); rintro o1 w1 ⟨rfl, hb⟩; replace hh := hh.below hb; clear hb)
    | (go_at_call 22; (first | (with_reducible refine (cP1 _ hh.x).mono ?_) | (with_reducible refine (cP2 _ hh.x).mono ?_)); rintro o1 w1 ⟨rfl, hb⟩; replace hh := hh.below hb; clear hb)
    | (go_at_call 23; (with_reducible refine (cT _ hh.x).mono ?_); rintro o1 w1 ⟨rfl, hb⟩; replace hh := hh.below hb; clear hb))
  refine wp_region_held_drew (S := fun W => Op2 w W D A n c B m d E A2 n2 c2 B2 m2 d2) (by kernel_rfl) (hh.below (below_drew10 _)) (fun hHeld => ?_)
  clear hh
  refine' wpAnyH_take (i := 0) (v := .agg (opC D A n c B m d)) rfl (by kernel_rfl) (by kernel_rfl) (by kernel_rfl) (fun _ _ _ h => h) (yields_opx (by rfl) _ rfl _ rfl (fun w' h => h.a) K1) hHeld ?_
  try simp only [Act.put, List.getElem_toArray, List.getElem_cons_succ, List.getElem_cons_zero, List.setIfInBounds_toArray, List.set_cons_zero, List.set_cons_succ]
  refine' wpAnyH_take (i := 2) (v := .agg (opC E A2 n2 c2 B2 m2 d2)) rfl (by kernel_rfl) (by kernel_rfl) (by kernel_rfl) (fun _ _ _ h => h) (yields_opx (by rfl) _ rfl _ rfl (fun w' h => h.b) K2) hHeld ?_
  try simp only [Act.put, List.getElem_toArray, List.getElem_cons_succ, List.getElem_cons_zero, List.setIfInBounds_toArray, List.set_cons_zero, List.set_cons_succ]
  refine wpAnyH_ready (rs := [1]) (by kernel_rfl) (by simp) ?_
  refine AllReadyH.cons rfl (fun K hK => ?_) AllReadyH.nil
  go_simp
  (with_reducible refine (cH1 _ hHeld.x).mono ?_)
  rintro e5 W2 ⟨A3, n3, rfl, l3, b3, r3, hb⟩
  refine hK.out _ _ (hHeld.below hb) (fun hHeld => ?_)
  clear hK K hb
  try simp only [Act.put, List.getElem_toArray, List.getElem_cons_succ, List.getElem_cons_zero, List.setIfInBounds_toArray, List.set_cons_zero, List.set_cons_succ]
  refine wpAnyH_ready (rs := [3]) (by kernel_rfl) (by simp) ?_
  refine AllReadyH.cons rfl (fun K hK => ?_) AllReadyH.nil
  go_simp
  (with_reducible refine (cH2 _ hHeld.x).mono ?_)
  rintro e6 W3 ⟨A4, n4, rfl, l4, b4, r4, hb⟩
  replace r3 := r3.below hb
  refine hK.out _ _ (hHeld.below hb) (fun hHeld => ?_)
  clear hK K hb
  try simp only [Act.put, List.getElem_toArray, List.getElem_cons_succ, List.getElem_cons_zero, List.setIfInBounds_toArray, List.set_cons_zero, List.set_cons_succ]
  refine wpAnyH_ready (rs := [4]) (by kernel_rfl) (by simp) ?_
  refine AllReadyH.cons rfl (fun K hK => ?_) AllReadyH.nil
  go_simp
  (with_reducible refine (cA _ _ _ _ _ hHeld.x l3 b3 r3 l4 b4 r4).mono ?_)
  rintro e7 W4 ⟨rfl, hb⟩
  refine hK.out _ _ (hHeld.below hb) (fun hHeld => ?_)
  clear hK K hb
  try simp only [Act.put, List.getElem_toArray, List.getElem_cons_succ, List.getElem_cons_zero, List.setIfInBounds_toArray, List.set_cons_zero, List.set_cons_succ]
  refine' wpAnyH_take (i := 5) (v := .bool z) rfl (by kernel_rfl) (by kernel_rfl) (by kernel_rfl) (fun _ _ _ h => h) (Or.inl ⟨by rfl, fun w' hw' => by go_simp⟩) hHeld ?_
  try simp only [Act.put, List.getElem_toArray, List.getElem_cons_succ, List.getElem_cons_zero, List.setIfInBounds_toArray, List.set_cons_zero, List.set_cons_succ]
  refine wpAnyH_done (by kernel_rfl) ?_ _
  go_wp2
  go_ret
  exact ⟨rfl, hHeld.x⟩

theorem apart_any (D : OpD) (A : Option Addr) (n c : Nat) (B : Option Addr) (m d : Nat) (E : OpD) (A2 : Option Addr) (n2 c2 : Nat) (B2 : Option Addr) (m2 d2 : Nat) (w : World) (hR : OpR w D A n B m) (hS : OpR w E A2 n2 B2 m2) :
    Calls Try.prog 15 #[.agg (opC D A n c B m d), .agg (opC E A2 n2 c2 B2 m2 d2)] w fun o w' => o = .returned (.bool (apB D E)) ∧ Below w.heap.size w w' := by
  have K1 := hR.hK
  have K2 := hS.hK
  have cR1 : ∀ x, opE D = x → ∀ W, Below w.heap.size w W → Calls Try.prog 21 #[.agg (opC D A n c B m d)] W fun o w' => o = .returned (.int .i64 x) ∧ Below W.heap.size W w' := fun x hx W h => by rw [← hx]; exact oright_any D K1 A n c hR.lo (by have := hR.bn; omega) B m d hR.ln (by have := hR.bm; omega) W (hR.rA.below h) (hR.rB.below h)
  have cR2 : ∀ x, opE E = x → ∀ W, Below w.heap.size w W → Calls Try.prog 21 #[.agg (opC E A2 n2 c2 B2 m2 d2)] W fun o w' => o = .returned (.int .i64 x) ∧ Below W.heap.size W w' := fun x hx W h => by rw [← hx]; exact oright_any E K2 A2 n2 c2 hS.lo (by have := hS.bn; omega) B2 m2 d2 hS.ln (by have := hS.bm; omega) W (hS.rA.below h) (hS.rB.below h)
  have cP1 : ∀ b, polB D = b → ∀ W, Below w.heap.size w W → Calls Try.prog 22 #[.agg (opC D A n c B m d)] W fun o w' => o = .returned (.bool b) ∧ Below W.heap.size W w' := fun b hb W _ => by rw [← hb]; exact policy_any D A n c B m d W
  have cP2 : ∀ b, polB E = b → ∀ W, Below w.heap.size w W → Calls Try.prog 22 #[.agg (opC E A2 n2 c2 B2 m2 d2)] W fun o w' => o = .returned (.bool b) ∧ Below W.heap.size W w' := fun b hb W _ => by rw [← hb]; exact policy_any E A2 n2 c2 B2 m2 d2 W
  have cT : ∀ b, togB D E = b → ∀ W, Below w.heap.size w W → Calls Try.prog 23 #[.agg (opC D A n c B m d), .agg (opC E A2 n2 c2 B2 m2 d2)] W fun o w' => o = .returned (.bool b) ∧ Below W.heap.size W w' := fun b hb W _ => by rw [← hb]; exact together_any D A n c B m d E A2 n2 c2 B2 m2 d2 W
  unfold apB
  by_cases h1 : opE D = 0
  · by_cases h2 : opE E = 0
    · rw [decide_eq_true h1, decide_eq_true h2, Bool.true_and, Bool.true_and]
      cases hp1 : polB D with
      | true => exact apart_3 D A n c B m d E A2 n2 c2 B2 m2 d2 w K1 K2 (cR1 0 h1) (cR2 0 h2) (cP1 true hp1) _ (cP2 _ rfl)
      | false =>
        cases hp2 : polB E with
        | true => exact apart_4 D A n c B m d E A2 n2 c2 B2 m2 d2 w K1 K2 (cR1 0 h1) (cR2 0 h2) (cP1 false hp1) (cP2 true hp2)
        | false =>
          rw [Bool.false_or, Bool.false_or]
          cases ht : togB D E with
          | true =>
            rw [if_pos rfl]
            have ht' := ht
            unfold togB at ht'
            simp only [Bool.and_eq_true, decide_eq_true_eq] at ht'
            refine apart_5 D A n c B m d E A2 n2 c2 B2 m2 d2 w K1 K2 (cR1 0 h1) (cR2 0 h2) (cP1 false hp1) (cP2 false hp2) (cT true ht) (fun W h => ohunk_any D A n c B m d W hR.lo (by have := hR.bn; omega) hR.ln (by have := hR.bm; omega) K1 (hR.rA.below h) (hR.rB.below h)) (fun W h => ohunk_any E A2 n2 c2 B2 m2 d2 W hS.lo (by have := hS.bn; omega) hS.ln (by have := hS.bm; omega) K2 (hS.rA.below h) (hS.rB.below h)) _ ?_
            intro W A3 c3 B3 d3 A4 c4 B4 d4 g3 g4 h o1 o2 o3 o4
            exact hap_any D A3 n c3 B3 m d3 E A4 n2 c4 B4 m2 d4 hR.lo hR.ln hS.lo hS.ln W (own_rd o1).2 (own_rd o2).2 (own_rd o3).2 (own_rd o4).2 (op_hunk h1 ht'.1) (op_hunk h2 ht'.2.1)
          | false =>
            rw [if_neg (by decide)]
            refine apart_6 D A n c B m d E A2 n2 c2 B2 m2 d2 w K1 K2 (cR1 0 h1) (cR2 0 h2) (cP1 false hp1) (cP2 false hp2) (cT false ht) (fun W h => opaths_any D A n c B m d W K1 (fun W2 h3 => cR1 0 h1 W2 (h.trans (h3.mono h.size)))) (fun W h => opaths_any E A2 n2 c2 B2 m2 d2 W K2 (fun W2 h3 => cR2 0 h2 W2 (h.trans (h3.mono h.size)))) _ ?_
            intro W A3 n3 A4 n4 h l3 b3 r3 l4 b4 r4
            exact besides_any A3 n3 n3 _ l3 (by omega) A4 n4 n4 _ l4 (by omega) W r3 r4
    · rw [decide_eq_true h1, decide_eq_false h2, Bool.true_and, Bool.false_and]
      exact apart_2 D A n c B m d E A2 n2 c2 B2 m2 d2 w K1 K2 (cR1 0 h1) _ (by simpa using h2) (cR2 _ rfl)
  · rw [decide_eq_false h1, Bool.false_and]
    exact apart_1 D A n c B m d E A2 n2 c2 B2 m2 d2 w K1 K2 _ (by simpa using h1) (cR1 _ rfl) _ (cR2 _ rfl)
end Go.Proofs.Ytmfngampccpkhaa

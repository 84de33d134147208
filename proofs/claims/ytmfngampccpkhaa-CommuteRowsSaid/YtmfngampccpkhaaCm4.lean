
/- r16.Swap: two operations in the other order, by the document. -/
import Derived.Test.YtmfngampccpkhaaCm3
set_option linter.unusedSimpArgs false
set_option linter.unusedVariables false
namespace Go.Proofs.Ytmfngampccpkhaa
open Go.RowKit Go.Qc Go.Shelf
attribute [local go_sem] txt_size txt_append ib_fold txt_toL

theorem results_rswap {tmps : Array Value} {W : World} {a b : Nat} {v : Bool} {cs ds : Array Value} (h4 : tmps.getD 4 undef = .pointer (some ⟨a, 0, none⟩)) (h5 : tmps.getD 5 undef = .pointer (some ⟨b, 0, none⟩)) (h6 : tmps.getD 6 undef = .bool v)
    (b4 : Blk W a 42 cs) (b5 : Blk W b 42 ds) (s4 : cs.size = 39) (s5 : ds.size = 39) : (results Try.f30 tmps).run Try.prog W = .ok (.tuple #[.agg cs, .agg ds, .bool v]) W := by
  have l4 := run_loadVar_mid (P := Try.prog) W a 0 42 cs.toList _ (fun j u hj => by rw [Nat.zero_add]; exact b4.cell_ (by rw [← Array.getElem?_toList]; exact hj)) Try.underlying42 rfl (by rw [infoOp, Array.length_toList, s4])
  have l5 := run_loadVar_mid (P := Try.prog) W b 0 42 ds.toList _ (fun j u hj => by rw [Nat.zero_add]; exact b5.cell_ (by rw [← Array.getElem?_toList]; exact hj)) Try.underlying42 rfl (by rw [infoOp, Array.length_toList, s5])
  rw [Array.toArray_toList] at l4 l5
  have hf : Try.f30.results = #[.cell 4 42, .cell 5 42, .tmp 6] := by rfl
  rw [Array.getD_eq_getD_getElem?] at h4 h5 h6
  unfold results
  rw [hf]
  simp [Sem.run_bind, h4, h5, h6, asAddr, l4, l5, Result.andThen]

set_option maxRecDepth 100000 in
set_option maxHeartbeats 40000000 in
theorem rs_1 (D : OpD) (A : Option Addr) (n c : Nat) (B : Option Addr) (m d : Nat) (E : OpD) (A2 : Option Addr) (n2 c2 : Nat) (B2 : Option Addr) (m2 d2 : Nat) (w : World) (K1 : D.K.length = 32) (K2 : E.K.length = 32) (x : Int) (hx : (x != 0) = true) (cR1 : ∀ W, Below w.heap.size w W → Calls Try.prog 31 #[.agg (opC D A n c B m d)] W fun o w' => o = .returned (.int .i64 x) ∧ Below W.heap.size W w') (y : Int) (cR2 : ∀ W, Below w.heap.size w W → Calls Try.prog 31 #[.agg (opC E A2 n2 c2 B2 m2 d2)] W fun o w' => o = .returned (.int .i64 y) ∧ Below W.heap.size W w') :
    Calls Try.prog 30 #[.agg (opC D A n c B m d), .agg (opC E A2 n2 c2 B2 m2 d2)] w fun e w' => e = .returned (.tuple #[.agg (opC opZ none 0 0 none 0 0), .agg (opC opZ none 0 0 none 0 0), .bool false]) ∧ Below w.heap.size w w' := by
  obtain ⟨zc, hzc, hz0⟩ : ∃ zc : Array Value, Hid (zc = #[.int .i64 0, .string ⟨#[]⟩, .string ⟨#[]⟩, .int .i64 0, .slice none 0 0, .slice none 0 0, .int .u8 0, .int .u8 0, .int .u8 0, .int .u8 0, .int .u8 0, .int .u8 0, .int .u8 0, .int .u8 0, .int .u8 0, .int .u8 0, .int .u8 0, .int .u8 0, .int .u8 0, .int .u8 0, .int .u8 0, .int .u8 0, .int .u8 0, .int .u8 0, .int .u8 0, .int .u8 0, .int .u8 0, .int .u8 0, .int .u8 0, .int .u8 0, .int .u8 0, .int .u8 0, .int .u8 0, .int .u8 0, .int .u8 0, .int .u8 0, .int .u8 0, .int .u8 0, .int .i64 0]) ∧ zc.size = 39 := ⟨_, hid rfl, rfl⟩
  have hh := SwO.new w D A n c B m d E A2 n2 c2 B2 m2 d2 zc
  go_enter Try.func30, Try.ntmps30
  go_upto_region 1 with (fail)
  rw [← hzc.out]
  generalize (((w.alloc (.cells (opC D A n c B m d) 42)).alloc (.cells (opC E A2 n2 c2 B2 m2 d2) 42)).alloc (.cells zc 42)).alloc (.cells zc 42) = W0 at *
  have x0 := hh.k.a.c0; have x1 := hh.k.a.c1; have x3 := hh.k.a.c3; have x4 := hh.k.a.c4; have x5 := hh.k.a.c5; have y0 := hh.k.b.c0; have y1 := hh.k.b.c1; have y3 := hh.k.b.c3; have y4 := hh.k.b.c4; have y5 := hh.k.b.c5; have f3 := hh.k.a.b.frozen 3; have g3 := hh.k.b.b.frozen 3
  have hiZ := opC_info opZ none 0 0 none 0 0 rfl
  have hsZ : zc.size = (opC opZ none 0 0 none 0 0).size := by rw [opC_size _ _ _ _ _ _ _ (by rfl), hz0]
  have hoZ := opC_one opZ none 0 0 none 0 0
  go_wp2_with (first
    | (with_reducible refine wpList_load_opx (by with_unfolding_all rfl) _ rfl _ rfl hh.k.a K1 ?_)
    | (with_reducible refine wpList_load_opx (by with_unfolding_all rfl) _ rfl _ rfl hh.k.b K2 ?_)
    | (go_at_call 31; (first | (with_reducible refine (cR1 _ hh.k.x).mono ?_) | (with_reducible refine (cR2 _ hh.k.x).mono ?_)); rintro o1 w1 ⟨rfl, hb⟩; replace hh := hh.below hb; clear hb; clear x0 x1 x3 x4 x5 y0 y1 y3 y4 y5 f3 g3; have x0 := hh.k.a.c0; have x1 := hh.k.a.c1; have x3 := hh.k.a.c3; have x4 := hh.k.a.c4; have x5 := hh.k.a.c5; have y0 := hh.k.b.c0; have y1 := hh.k.b.c1; have y3 := hh.k.b.c3; have y4 := hh.k.b.c4; have y5 := hh.k.b.c5; have f3 := hh.k.a.b.frozen 3; have g3 := hh.k.b.b.frozen 3)
    | (go_at_call 50; (first | (with_reducible refine (cP1 _ hh.k.x).mono ?_) | (with_reducible refine (cP2 _ hh.k.x).mono ?_)); rintro o1 w1 ⟨rfl, hb⟩; replace hh := hh.below hb; clear hb; clear x0 x1 x3 x4 x5 y0 y1 y3 y4 y5 f3 g3; have x0 := hh.k.a.c0; have x1 := hh.k.a.c1; have x3 := hh.k.a.c3; have x4 := hh.k.a.c4; have x5 := hh.k.a.c5; have y0 := hh.k.b.c0; have y1 := hh.k.b.c1; have y3 := hh.k.b.c3; have y4 := hh.k.b.c4; have y5 := hh.k.b.c5; have f3 := hh.k.a.b.frozen 3; have g3 := hh.k.b.b.frozen 3)
    | (go_at_call 51; (first | (with_reducible refine (cA _ hh.k.x).mono ?_)); rintro o1 w1 ⟨rfl, hb⟩; replace hh := hh.below hb; clear hb; clear x0 x1 x3 x4 x5 y0 y1 y3 y4 y5 f3 g3; have x0 := hh.k.a.c0; have x1 := hh.k.a.c1; have x3 := hh.k.a.c3; have x4 := hh.k.a.c4; have x5 := hh.k.a.c5; have y0 := hh.k.b.c0; have y1 := hh.k.b.c1; have y3 := hh.k.b.c3; have y4 := hh.k.b.c4; have y5 := hh.k.b.c5; have f3 := hh.k.a.b.frozen 3; have g3 := hh.k.b.b.frozen 3)
    | (with_reducible refine wpList_build_op0 rfl rfl ?_)
    | ((with_reducible refine wpList_store_blk rfl 42 _ _ rfl (w.heap.size + 1 + 1) zc (opC opZ none 0 0 none 0 0) 42 hh.r4 rfl rfl hiZ hsZ hoZ ?_); intro W4 b4 g4; have r5 := blk_gb hh.r5 g4 (by omega); have hx4 := hh.k.x.trans (below_of_gb g4 (by omega) hh.k.x.size))
    | ((with_reducible refine wpList_store_blk rfl 42 _ _ rfl (w.heap.size + 1 + 1 + 1) zc (opC opZ none 0 0 none 0 0) 42 r5 rfl rfl hiZ hsZ hoZ ?_); intro W5 b5 g5; replace b4 := blk_gb b4 g5 (by omega); have hx5 := hx4.trans (below_of_gb g5 (by omega) hx4.size)))
  refine bodyPost_ret (results_rswap rfl rfl rfl b4 b5 (opC_size _ _ _ _ _ _ _ rfl) (opC_size _ _ _ _ _ _ _ rfl)) rfl ?_
  exact ⟨rfl, hx5⟩

set_option maxRecDepth 100000 in
set_option maxHeartbeats 40000000 in
theorem rs_2 (D : OpD) (A : Option Addr) (n c : Nat) (B : Option Addr) (m d : Nat) (E : OpD) (A2 : Option Addr) (n2 c2 : Nat) (B2 : Option Addr) (m2 d2 : Nat) (w : World) (K1 : D.K.length = 32) (K2 : E.K.length = 32) (cR1 : ∀ W, Below w.heap.size w W → Calls Try.prog 31 #[.agg (opC D A n c B m d)] W fun o w' => o = .returned (.int .i64 0) ∧ Below W.heap.size W w') (y : Int) (hy : (y != 0) = true) (cR2 : ∀ W, Below w.heap.size w W → Calls Try.prog 31 #[.agg (opC E A2 n2 c2 B2 m2 d2)] W fun o w' => o = .returned (.int .i64 y) ∧ Below W.heap.size W w') :
    Calls Try.prog 30 #[.agg (opC D A n c B m d), .agg (opC E A2 n2 c2 B2 m2 d2)] w fun e w' => e = .returned (.tuple #[.agg (opC opZ none 0 0 none 0 0), .agg (opC opZ none 0 0 none 0 0), .bool false]) ∧ Below w.heap.size w w' := by
  obtain ⟨zc, hzc, hz0⟩ : ∃ zc : Array Value, Hid (zc = #[.int .i64 0, .string ⟨#[]⟩, .string ⟨#[]⟩, .int .i64 0, .slice none 0 0, .slice none 0 0, .int .u8 0, .int .u8 0, .int .u8 0, .int .u8 0, .int .u8 0, .int .u8 0, .int .u8 0, .int .u8 0, .int .u8 0, .int .u8 0, .int .u8 0, .int .u8 0, .int .u8 0, .int .u8 0, .int .u8 0, .int .u8 0, .int .u8 0, .int .u8 0, .int .u8 0, .int .u8 0, .int .u8 0, .int .u8 0, .int .u8 0, .int .u8 0, .int .u8 0, .int .u8 0, .int .u8 0, .int .u8 0, .int .u8 0, .int .u8 0, .int .u8 0, .int .u8 0, .int .i64 0]) ∧ zc.size = 39 := ⟨_, hid rfl, rfl⟩
  have hh := SwO.new w D A n c B m d E A2 n2 c2 B2 m2 d2 zc
  go_enter Try.func30, Try.ntmps30
  go_upto_region 1 with (fail)
  rw [← hzc.out]
  generalize (((w.alloc (.cells (opC D A n c B m d) 42)).alloc (.cells (opC E A2 n2 c2 B2 m2 d2) 42)).alloc (.cells zc 42)).alloc (.cells zc 42) = W0 at *
  have x0 := hh.k.a.c0; have x1 := hh.k.a.c1; have x3 := hh.k.a.c3; have x4 := hh.k.a.c4; have x5 := hh.k.a.c5; have y0 := hh.k.b.c0; have y1 := hh.k.b.c1; have y3 := hh.k.b.c3; have y4 := hh.k.b.c4; have y5 := hh.k.b.c5; have f3 := hh.k.a.b.frozen 3; have g3 := hh.k.b.b.frozen 3
  have hiZ := opC_info opZ none 0 0 none 0 0 rfl
  have hsZ : zc.size = (opC opZ none 0 0 none 0 0).size := by rw [opC_size _ _ _ _ _ _ _ (by rfl), hz0]
  have hoZ := opC_one opZ none 0 0 none 0 0
  go_wp2_with (first
    | (with_reducible refine wpList_load_opx (by with_unfolding_all rfl) _ rfl _ rfl hh.k.a K1 ?_)
    | (with_reducible refine wpList_load_opx (by with_unfolding_all rfl) _ rfl _ rfl hh.k.b K2 ?_)
    | (go_at_call 31; (first | (with_reducible refine (cR1 _ hh.k.x).mono ?_) | (with_reducible refine (cR2 _ hh.k.x).mono ?_)); rintro o1 w1 ⟨rfl, hb⟩; replace hh := hh.below hb; clear hb; clear x0 x1 x3 x4 x5 y0 y1 y3 y4 y5 f3 g3; have x0 := hh.k.a.c0; have x1 := hh.k.a.c1; have x3 := hh.k.a.c3; have x4 := hh.k.a.c4; have x5 := hh.k.a.c5; have y0 := hh.k.b.c0; have y1 := hh.k.b.c1; have y3 := hh.k.b.c3; have y4 := hh.k.b.c4; have y5 := hh.k.b.c5; have f3 := hh.k.a.b.frozen 3; have g3 := hh.k.b.b.frozen 3)
    | (go_at_call 50; (first | (with_reducible refine (cP1 _ hh.k.x).mono ?_) | (with_reducible refine (cP2 _ hh.k.x).mono ?_)); rintro o1 w1 ⟨rfl, hb⟩; replace hh := hh.below hb; clear hb; clear x0 x1 x3 x4 x5 y0 y1 y3 y4 y5 f3 g3; have x0 := hh.k.a.c0; have x1 := hh.k.a.c1; have x3 := hh.k.a.c3; have x4 := hh.k.a.c4; have x5 := hh.k.a.c5; have y0 := hh.k.b.c0; have y1 := hh.k.b.c1; have y3 := hh.k.b.c3; have y4 := hh.k.b.c4; have y5 := hh.k.b.c5; have f3 := hh.k.a.b.frozen 3; have g3 := hh.k.b.b.frozen 3)
    | (go_at_call 51; (first | (with_reducible refine (cA _ hh.k.x).mono ?_)); rintro o1 w1 ⟨rfl, hb⟩; replace hh := hh.below hb; clear hb; clear x0 x1 x3 x4 x5 y0 y1 y3 y4 y5 f3 g3; have x0 := hh.k.a.c0; have x1 := hh.k.a.c1; have x3 := hh.k.a.c3; have x4 := hh.k.a.c4; have x5 := hh.k.a.c5; have y0 := hh.k.b.c0; have y1 := hh.k.b.c1; have y3 := hh.k.b.c3; have y4 := hh.k.b.c4; have y5 := hh.k.b.c5; have f3 := hh.k.a.b.frozen 3; have g3 := hh.k.b.b.frozen 3)
    | (with_reducible refine wpList_build_op0 rfl rfl ?_)
    | ((with_reducible refine wpList_store_blk rfl 42 _ _ rfl (w.heap.size + 1 + 1) zc (opC opZ none 0 0 none 0 0) 42 hh.r4 rfl rfl hiZ hsZ hoZ ?_); intro W4 b4 g4; have r5 := blk_gb hh.r5 g4 (by omega); have hx4 := hh.k.x.trans (below_of_gb g4 (by omega) hh.k.x.size))
    | ((with_reducible refine wpList_store_blk rfl 42 _ _ rfl (w.heap.size + 1 + 1 + 1) zc (opC opZ none 0 0 none 0 0) 42 r5 rfl rfl hiZ hsZ hoZ ?_); intro W5 b5 g5; replace b4 := blk_gb b4 g5 (by omega); have hx5 := hx4.trans (below_of_gb g5 (by omega) hx4.size)))
  refine bodyPost_ret (results_rswap rfl rfl rfl b4 b5 (opC_size _ _ _ _ _ _ _ rfl) (opC_size _ _ _ _ _ _ _ rfl)) rfl ?_
  exact ⟨rfl, hx5⟩

set_option maxRecDepth 100000 in
set_option maxHeartbeats 40000000 in
theorem rs_3a (D : OpD) (A : Option Addr) (n c : Nat) (B : Option Addr) (m d : Nat) (E : OpD) (A2 : Option Addr) (n2 c2 : Nat) (B2 : Option Addr) (m2 d2 : Nat) (w : World) (K1 : D.K.length = 32) (K2 : E.K.length = 32) (cR1 : ∀ W, Below w.heap.size w W → Calls Try.prog 31 #[.agg (opC D A n c B m d)] W fun o w' => o = .returned (.int .i64 0) ∧ Below W.heap.size W w') (cR2 : ∀ W, Below w.heap.size w W → Calls Try.prog 31 #[.agg (opC E A2 n2 c2 B2 m2 d2)] W fun o w' => o = .returned (.int .i64 0) ∧ Below W.heap.size W w') (cP1 : ∀ W, Below w.heap.size w W → Calls Try.prog 50 #[.agg (opC D A n c B m d)] W fun o w' => o = .returned (.bool true) ∧ Below W.heap.size W w') (pb : Bool) (cP2 : ∀ W, Below w.heap.size w W → Calls Try.prog 50 #[.agg (opC E A2 n2 c2 B2 m2 d2)] W fun o w' => o = .returned (.bool pb) ∧ Below W.heap.size W w') :
    Calls Try.prog 30 #[.agg (opC D A n c B m d), .agg (opC E A2 n2 c2 B2 m2 d2)] w fun e w' => e = .returned (.tuple #[.agg (opC E A2 n2 c2 B2 m2 d2), .agg (opC D A n c B m d), .bool true]) ∧ Below w.heap.size w w' := by
  obtain ⟨zc, hzc, hz0⟩ : ∃ zc : Array Value, Hid (zc = #[.int .i64 0, .string ⟨#[]⟩, .string ⟨#[]⟩, .int .i64 0, .slice none 0 0, .slice none 0 0, .int .u8 0, .int .u8 0, .int .u8 0, .int .u8 0, .int .u8 0, .int .u8 0, .int .u8 0, .int .u8 0, .int .u8 0, .int .u8 0, .int .u8 0, .int .u8 0, .int .u8 0, .int .u8 0, .int .u8 0, .int .u8 0, .int .u8 0, .int .u8 0, .int .u8 0, .int .u8 0, .int .u8 0, .int .u8 0, .int .u8 0, .int .u8 0, .int .u8 0, .int .u8 0, .int .u8 0, .int .u8 0, .int .u8 0, .int .u8 0, .int .u8 0, .int .u8 0, .int .i64 0]) ∧ zc.size = 39 := ⟨_, hid rfl, rfl⟩
  have hh := SwO.new w D A n c B m d E A2 n2 c2 B2 m2 d2 zc
  go_enter Try.func30, Try.ntmps30
  go_upto_region 1 with (fail)
  rw [← hzc.out]
  generalize (((w.alloc (.cells (opC D A n c B m d) 42)).alloc (.cells (opC E A2 n2 c2 B2 m2 d2) 42)).alloc (.cells zc 42)).alloc (.cells zc 42) = W0 at *
  have x0 := hh.k.a.c0; have x1 := hh.k.a.c1; have x3 := hh.k.a.c3; have x4 := hh.k.a.c4; have x5 := hh.k.a.c5; have y0 := hh.k.b.c0; have y1 := hh.k.b.c1; have y3 := hh.k.b.c3; have y4 := hh.k.b.c4; have y5 := hh.k.b.c5; have f3 := hh.k.a.b.frozen 3; have g3 := hh.k.b.b.frozen 3
  go_wp2_with (first
    | (with_reducible refine wpList_load_opx (by with_unfolding_all rfl) _ rfl _ rfl hh.k.a K1 ?_)
    | (with_reducible refine wpList_load_opx (by with_unfolding_all rfl) _ rfl _ rfl hh.k.b K2 ?_)
    | (go_at_call 31; (first | (with_reducible refine (cR1 _ hh.k.x).mono ?_) | (with_reducible refine (cR2 _ hh.k.x).mono ?_)); rintro o1 w1 ⟨rfl, hb⟩; replace hh := hh.below hb; clear hb; clear x0 x1 x3 x4 x5 y0 y1 y3 y4 y5 f3 g3; have x0 := hh.k.a.c0; have x1 := hh.k.a.c1; have x3 := hh.k.a.c3; have x4 := hh.k.a.c4; have x5 := hh.k.a.c5; have y0 := hh.k.b.c0; have y1 := hh.k.b.c1; have y3 := hh.k.b.c3; have y4 := hh.k.b.c4; have y5 := hh.k.b.c5; have f3 := hh.k.a.b.frozen 3; have g3 := hh.k.b.b.frozen 3)
    | (go_at_call 50; (first | (with_reducible refine (cP1 _ hh.k.x).mono ?_) | (with_reducible refine (cP2 _ hh.k.x).mono ?_)); rintro o1 w1 ⟨rfl, hb⟩; replace hh := hh.below hb; clear hb; clear x0 x1 x3 x4 x5 y0 y1 y3 y4 y5 f3 g3; have x0 := hh.k.a.c0; have x1 := hh.k.a.c1; have x3 := hh.k.a.c3; have x4 := hh.k.a.c4; have x5 := hh.k.a.c5; have y0 := hh.k.b.c0; have y1 := hh.k.b.c1; have y3 := hh.k.b.c3; have y4 := hh.k.b.c4; have y5 := hh.k.b.c5; have f3 := hh.k.a.b.frozen 3; have g3 := hh.k.b.b.frozen 3)
    | (go_at_call 51; (first | (with_reducible refine (cA _ hh.k.x).mono ?_)); rintro o1 w1 ⟨rfl, hb⟩; replace hh := hh.below hb; clear hb; clear x0 x1 x3 x4 x5 y0 y1 y3 y4 y5 f3 g3; have x0 := hh.k.a.c0; have x1 := hh.k.a.c1; have x3 := hh.k.a.c3; have x4 := hh.k.a.c4; have x5 := hh.k.a.c5; have y0 := hh.k.b.c0; have y1 := hh.k.b.c1; have y3 := hh.k.b.c3; have y4 := hh.k.b.c4; have y5 := hh.k.b.c5; have f3 := hh.k.a.b.frozen 3; have g3 := hh.k.b.b.frozen 3))
  refine wp_region_held_drew (S := fun W => OpX W (w.heap.size + 1) E A2 n2 c2 B2 m2 d2 ∧ OpX W w.heap.size D A n c B m d) (by kernel_rfl) ⟨hh.k.b.below (below_drew10 _), hh.k.a.below (below_drew10 _)⟩ (fun hHeld => ?_)
  replace hh := hh.below (below_drew10 _)
  refine' wpAnyH_take (i := 0) (v := .agg (opC E A2 n2 c2 B2 m2 d2)) rfl (by kernel_rfl) (by kernel_rfl) (by kernel_rfl) (fun _ _ _ h => h) (yields_opx (by rfl) _ rfl _ rfl (fun w' h => h.1) K2) hHeld ?_
  try simp only [Act.put, List.getElem_toArray, List.getElem_cons_succ, List.getElem_cons_zero, List.setIfInBounds_toArray, List.set_cons_zero, List.set_cons_succ]
  refine' wpAnyH_take (i := 1) (v := .agg (opC D A n c B m d)) rfl (by kernel_rfl) (by kernel_rfl) (by kernel_rfl) (fun _ _ _ h => h) (yields_opx (by rfl) _ rfl _ rfl (fun w' h => h.2) K1) hHeld ?_
  try simp only [Act.put, List.getElem_toArray, List.getElem_cons_succ, List.getElem_cons_zero, List.setIfInBounds_toArray, List.set_cons_zero, List.set_cons_succ]
  refine wpAnyH_ready (rs := [2]) (by kernel_rfl) (by simp) ?_
  refine AllReadyH.cons rfl (fun K hK => ?_) AllReadyH.nil
  refine wp_store_whole 42 _ _ rfl (w.heap.size + 1 + 1) zc (opC E A2 n2 c2 B2 m2 d2) 42 hh.r4 rfl rfl (opC_info _ _ _ _ _ _ _ K2) (by rw [opC_size E A2 n2 c2 B2 m2 d2 K2, hz0]) (opC_one _ _ _ _ _ _ _) ?_
  intro V4 b4 q4
  have r5 := blk_gb hh.r5 q4 (by omega)
  have hx4 := hh.k.x.trans (below_of_gb q4 (by omega) hh.k.x.size)
  refine hK.out _ _ ⟨⟨blk_gb hHeld.1.b q4 (by omega)⟩, ⟨blk_gb hHeld.2.b q4 (by omega)⟩⟩ (fun hHeld => ?_)
  clear hK K
  try simp only [Act.put, List.getElem_toArray, List.getElem_cons_succ, List.getElem_cons_zero, List.setIfInBounds_toArray, List.set_cons_zero, List.set_cons_succ]
  refine wpAnyH_ready (rs := [3]) (by kernel_rfl) (by simp) ?_
  refine AllReadyH.cons rfl (fun K hK => ?_) AllReadyH.nil
  refine wp_store_whole 42 _ _ rfl (w.heap.size + 1 + 1 + 1) zc (opC D A n c B m d) 42 r5 rfl rfl (opC_info _ _ _ _ _ _ _ K1) (by rw [opC_size D A n c B m d K1, hz0]) (opC_one _ _ _ _ _ _ _) ?_
  intro V5 b5 q5
  replace b4 := blk_gb b4 q5 (by omega)
  have hx5 := hx4.trans (below_of_gb q5 (by omega) hx4.size)
  refine hK.out _ _ ⟨⟨blk_gb hHeld.1.b q5 (by omega)⟩, ⟨blk_gb hHeld.2.b q5 (by omega)⟩⟩ (fun hHeld => ?_)
  clear hK K
  try simp only [Act.put, List.getElem_toArray, List.getElem_cons_succ, List.getElem_cons_zero, List.setIfInBounds_toArray, List.set_cons_zero, List.set_cons_succ]
  refine' wpAnyH_take (i := 4) (v := .bool true) rfl (by kernel_rfl) (by kernel_rfl) (by kernel_rfl) (fun _ _ _ h => h) (Or.inl ⟨by rfl, fun w' hw' => by go_simp⟩) hHeld ?_
  try simp only [Act.put, List.getElem_toArray, List.getElem_cons_succ, List.getElem_cons_zero, List.setIfInBounds_toArray, List.set_cons_zero, List.set_cons_succ]
  refine wpAnyH_done (by kernel_rfl) ?_ _
  go_wp2
  refine bodyPost_ret (results_rswap rfl rfl rfl b4 b5 (opC_size _ _ _ _ _ _ _ K2) (opC_size _ _ _ _ _ _ _ K1)) rfl ?_
  exact ⟨rfl, hx5⟩

set_option maxRecDepth 100000 in
set_option maxHeartbeats 40000000 in
theorem rs_3b (D : OpD) (A : Option Addr) (n c : Nat) (B : Option Addr) (m d : Nat) (E : OpD) (A2 : Option Addr) (n2 c2 : Nat) (B2 : Option Addr) (m2 d2 : Nat) (w : World) (K1 : D.K.length = 32) (K2 : E.K.length = 32) (cR1 : ∀ W, Below w.heap.size w W → Calls Try.prog 31 #[.agg (opC D A n c B m d)] W fun o w' => o = .returned (.int .i64 0) ∧ Below W.heap.size W w') (cR2 : ∀ W, Below w.heap.size w W → Calls Try.prog 31 #[.agg (opC E A2 n2 c2 B2 m2 d2)] W fun o w' => o = .returned (.int .i64 0) ∧ Below W.heap.size W w') (cP1 : ∀ W, Below w.heap.size w W → Calls Try.prog 50 #[.agg (opC D A n c B m d)] W fun o w' => o = .returned (.bool false) ∧ Below W.heap.size W w') (cP2 : ∀ W, Below w.heap.size w W → Calls Try.prog 50 #[.agg (opC E A2 n2 c2 B2 m2 d2)] W fun o w' => o = .returned (.bool true) ∧ Below W.heap.size W w') :
    Calls Try.prog 30 #[.agg (opC D A n c B m d), .agg (opC E A2 n2 c2 B2 m2 d2)] w fun e w' => e = .returned (.tuple #[.agg (opC E A2 n2 c2 B2 m2 d2), .agg (opC D A n c B m d), .bool true]) ∧ Below w.heap.size w w' := by
  obtain ⟨zc, hzc, hz0⟩ : ∃ zc : Array Value, Hid (zc = #[.int .i64 0, .string ⟨#[]⟩, .string ⟨#[]⟩, .int .i64 0, .slice none 0 0, .slice none 0 0, .int .u8 0, .int .u8 0, .int .u8 0, .int .u8 0, .int .u8 0, .int .u8 0, .int .u8 0, .int .u8 0, .int .u8 0, .int .u8 0, .int .u8 0, .int .u8 0, .int .u8 0, .int .u8 0, .int .u8 0, .int .u8 0, .int .u8 0, .int .u8 0, .int .u8 0, .int .u8 0, .int .u8 0, .int .u8 0, .int .u8 0, .int .u8 0, .int .u8 0, .int .u8 0, .int .u8 0, .int .u8 0, .int .u8 0, .int .u8 0, .int .u8 0, .int .u8 0, .int .i64 0]) ∧ zc.size = 39 := ⟨_, hid rfl, rfl⟩
  have hh := SwO.new w D A n c B m d E A2 n2 c2 B2 m2 d2 zc
  go_enter Try.func30, Try.ntmps30
  go_upto_region 1 with (fail)
  rw [← hzc.out]
  generalize (((w.alloc (.cells (opC D A n c B m d) 42)).alloc (.cells (opC E A2 n2 c2 B2 m2 d2) 42)).alloc (.cells zc 42)).alloc (.cells zc 42) = W0 at *
  have x0 := hh.k.a.c0; have x1 := hh.k.a.c1; have x3 := hh.k.a.c3; have x4 := hh.k.a.c4; have x5 := hh.k.a.c5; have y0 := hh.k.b.c0; have y1 := hh.k.b.c1; have y3 := hh.k.b.c3; have y4 := hh.k.b.c4; have y5 := hh.k.b.c5; have f3 := hh.k.a.b.frozen 3; have g3 := hh.k.b.b.frozen 3
  go_wp2_with (first
    | (with_reducible refine wpList_load_opx (by with_unfolding_all rfl) _ rfl _ rfl hh.k.a K1 ?_)
    | (with_reducible refine wpList_load_opx (by with_unfolding_all rfl) _ rfl _ rfl hh.k.b K2 ?_)
    | (go_at_call 31; (first | (with_reducible refine (cR1 _ hh.k.x).mono ?_) | (with_reducible refine (cR2 _ hh.k.x).mono ?_)); rintro o1 w1 ⟨rfl, hb⟩; replace hh := hh.below hb; clear hb; clear x0 x1 x3 x4 x5 y0 y1 y3 y4 y5 f3 g3; have x0 := hh.k.a.c0; have x1 := hh.k.a.c1; have x3 := hh.k.a.c3; have x4 := hh.k.a.c4; have x5 := hh.k.a.c5; have y0 := hh.k.b.c0; have y1 := hh.k.b.c1; have y3 := hh.k.b.c3; have y4 := hh.k.b.c4; have y5 := hh.k.b.c5; have f3 := hh.k.a.b.frozen 3; have g3 := hh.k.b.b.frozen 3)
    | (go_at_call 50; (first | (with_reducible refine (cP1 _ hh.k.x).mono ?_) | (with_reducible refine (cP2 _ hh.k.x).mono ?_)); rintro o1 w1 ⟨rfl, hb⟩; replace hh := hh.below hb; clear hb; clear x0 x1 x3 x4 x5 y0 y1 y3 y4 y5 f3 g3; have x0 := hh.k.a.c0; have x1 := hh.k.a.c1; have x3 := hh.k.a.c3; have x4 := hh.k.a.c4; have x5 := hh.k.a.c5; have y0 := hh.k.b.c0; have y1 := hh.k.b.c1; have y3 := hh.k.b.c3; have y4 := hh.k.b.c4; have y5 := hh.k.b.c5; have f3 := hh.k.a.b.frozen 3; have g3 := hh.k.b.b.frozen 3)
    | (go_at_call 51; (first | (with_reducible refine (cA _ hh.k.x).mono ?_)); rintro o1 w1 ⟨rfl, hb⟩; replace hh := hh.below hb; clear hb; clear x0 x1 x3 x4 x5 y0 y1 y3 y4 y5 f3 g3; have x0 := hh.k.a.c0; have x1 := hh.k.a.c1; have x3 := hh.k.a.c3; have x4 := hh.k.a.c4; have x5 := hh.k.a.c5; have y0 := hh.k.b.c0; have y1 := hh.k.b.c1; have y3 := hh.k.b.c3; have y4 := hh.k.b.c4; have y5 := hh.k.b.c5; have f3 := hh.k.a.b.frozen 3; have g3 := hh.k.b.b.frozen 3))
  refine wp_region_held_drew (S := fun W => OpX W (w.heap.size + 1) E A2 n2 c2 B2 m2 d2 ∧ OpX W w.heap.size D A n c B m d) (by kernel_rfl) ⟨hh.k.b.below (below_drew10 _), hh.k.a.below (below_drew10 _)⟩ (fun hHeld => ?_)
  replace hh := hh.below (below_drew10 _)
  refine' wpAnyH_take (i := 0) (v := .agg (opC E A2 n2 c2 B2 m2 d2)) rfl (by kernel_rfl) (by kernel_rfl) (by kernel_rfl) (fun _ _ _ h => h) (yields_opx (by rfl) _ rfl _ rfl (fun w' h => h.1) K2) hHeld ?_
  try simp only [Act.put, List.getElem_toArray, List.getElem_cons_succ, List.getElem_cons_zero, List.setIfInBounds_toArray, List.set_cons_zero, List.set_cons_succ]
  refine' wpAnyH_take (i := 1) (v := .agg (opC D A n c B m d)) rfl (by kernel_rfl) (by kernel_rfl) (by kernel_rfl) (fun _ _ _ h => h) (yields_opx (by rfl) _ rfl _ rfl (fun w' h => h.2) K1) hHeld ?_
  try simp only [Act.put, List.getElem_toArray, List.getElem_cons_succ, List.getElem_cons_zero, List.setIfInBounds_toArray, List.set_cons_zero, List.set_cons_succ]
  refine wpAnyH_ready (rs := [2]) (by kernel_rfl) (by simp) ?_
  refine AllReadyH.cons rfl (fun K hK => ?_) AllReadyH.nil
  refine wp_store_whole 42 _ _ rfl (w.heap.size + 1 + 1) zc (opC E A2 n2 c2 B2 m2 d2) 42 hh.r4 rfl rfl (opC_info _ _ _ _ _ _ _ K2) (by rw [opC_size E A2 n2 c2 B2 m2 d2 K2, hz0]) (opC_one _ _ _ _ _ _ _) ?_
  intro V4 b4 q4
  have r5 := blk_gb hh.r5 q4 (by omega)
  have hx4 := hh.k.x.trans (below_of_gb q4 (by omega) hh.k.x.size)
  refine hK.out _ _ ⟨⟨blk_gb hHeld.1.b q4 (by omega)⟩, ⟨blk_gb hHeld.2.b q4 (by omega)⟩⟩ (fun hHeld => ?_)
  clear hK K
  try simp only [Act.put, List.getElem_toArray, List.getElem_cons_succ, List.getElem_cons_zero, List.setIfInBounds_toArray, List.set_cons_zero, List.set_cons_succ]
  refine wpAnyH_ready (rs := [3]) (by kernel_rfl) (by simp) ?_
  refine AllReadyH.cons rfl (fun K hK => ?_) AllReadyH.nil
  refine wp_store_whole 42 _ _ rfl (w.heap.size + 1 + 1 + 1) zc (opC D A n c B m d) 42 r5 rfl rfl (opC_info _ _ _ _ _ _ _ K1) (by rw [opC_size D A n c B m d K1, hz0]) (opC_one _ _ _ _ _ _ _) ?_
  intro V5 b5 q5
  replace b4 := blk_gb b4 q5 (by omega)
  have hx5 := hx4.trans (below_of_gb q5 (by omega) hx4.size)
  refine hK.out _ _ ⟨⟨blk_gb hHeld.1.b q5 (by omega)⟩, ⟨blk_gb hHeld.2.b q5 (by omega)⟩⟩ (fun hHeld => ?_)
  clear hK K
  try simp only [Act.put, List.getElem_toArray, List.getElem_cons_succ, List.getElem_cons_zero, List.setIfInBounds_toArray, List.set_cons_zero, List.set_cons_succ]
  refine' wpAnyH_take (i := 4) (v := .bool true) rfl (by kernel_rfl) (by kernel_rfl) (by kernel_rfl) (fun _ _ _ h => h) (Or.inl ⟨by rfl, fun w' hw' => by go_simp⟩) hHeld ?_
  try simp only [Act.put, List.getElem_toArray, List.getElem_cons_succ, List.getElem_cons_zero, List.setIfInBounds_toArray, List.set_cons_zero, List.set_cons_succ]
  refine wpAnyH_done (by kernel_rfl) ?_ _
  go_wp2
  refine bodyPost_ret (results_rswap rfl rfl rfl b4 b5 (opC_size _ _ _ _ _ _ _ K2) (opC_size _ _ _ _ _ _ _ K1)) rfl ?_
  exact ⟨rfl, hx5⟩

set_option maxRecDepth 100000 in
set_option maxHeartbeats 40000000 in
theorem rs_4 (D : OpD) (A : Option Addr) (n c : Nat) (B : Option Addr) (m d : Nat) (E : OpD) (A2 : Option Addr) (n2 c2 : Nat) (B2 : Option Addr) (m2 d2 : Nat) (w : World) (K1 : D.K.length = 32) (K2 : E.K.length = 32) (cR1 : ∀ W, Below w.heap.size w W → Calls Try.prog 31 #[.agg (opC D A n c B m d)] W fun o w' => o = .returned (.int .i64 0) ∧ Below W.heap.size W w') (cR2 : ∀ W, Below w.heap.size w W → Calls Try.prog 31 #[.agg (opC E A2 n2 c2 B2 m2 d2)] W fun o w' => o = .returned (.int .i64 0) ∧ Below W.heap.size W w') (cP1 : ∀ W, Below w.heap.size w W → Calls Try.prog 50 #[.agg (opC D A n c B m d)] W fun o w' => o = .returned (.bool false) ∧ Below W.heap.size W w') (cP2 : ∀ W, Below w.heap.size w W → Calls Try.prog 50 #[.agg (opC E A2 n2 c2 B2 m2 d2)] W fun o w' => o = .returned (.bool false) ∧ Below W.heap.size W w') (h3 : D.k = 3) (h4 : E.k = 3) (hp : D.p = E.p) (cA : ∀ W, Below w.heap.size w W → Calls Try.prog 51 #[.agg #[.int .i64 D.a, .slice A n c, .slice B m d], .agg #[.int .i64 E.a, .slice A2 n2 c2, .slice B2 m2 d2]] W fun o w' => o = .returned (.bool false) ∧ Below W.heap.size W w')  :
    Calls Try.prog 30 #[.agg (opC D A n c B m d), .agg (opC E A2 n2 c2 B2 m2 d2)] w fun e w' => e = .returned (.tuple #[.agg (opC opZ none 0 0 none 0 0), .agg (opC opZ none 0 0 none 0 0), .bool false]) ∧ Below w.heap.size w w' := by
  obtain ⟨zc, hzc, hz0⟩ : ∃ zc : Array Value, Hid (zc = #[.int .i64 0, .string ⟨#[]⟩, .string ⟨#[]⟩, .int .i64 0, .slice none 0 0, .slice none 0 0, .int .u8 0, .int .u8 0, .int .u8 0, .int .u8 0, .int .u8 0, .int .u8 0, .int .u8 0, .int .u8 0, .int .u8 0, .int .u8 0, .int .u8 0, .int .u8 0, .int .u8 0, .int .u8 0, .int .u8 0, .int .u8 0, .int .u8 0, .int .u8 0, .int .u8 0, .int .u8 0, .int .u8 0, .int .u8 0, .int .u8 0, .int .u8 0, .int .u8 0, .int .u8 0, .int .u8 0, .int .u8 0, .int .u8 0, .int .u8 0, .int .u8 0, .int .u8 0, .int .i64 0]) ∧ zc.size = 39 := ⟨_, hid rfl, rfl⟩
  have hh := SwO.new w D A n c B m d E A2 n2 c2 B2 m2 d2 zc
  go_enter Try.func30, Try.ntmps30
  go_upto_region 1 with (fail)
  rw [← hzc.out]
  generalize (((w.alloc (.cells (opC D A n c B m d) 42)).alloc (.cells (opC E A2 n2 c2 B2 m2 d2) 42)).alloc (.cells zc 42)).alloc (.cells zc 42) = W0 at *
  have x0 := hh.k.a.c0; have x1 := hh.k.a.c1; have x3 := hh.k.a.c3; have x4 := hh.k.a.c4; have x5 := hh.k.a.c5; have y0 := hh.k.b.c0; have y1 := hh.k.b.c1; have y3 := hh.k.b.c3; have y4 := hh.k.b.c4; have y5 := hh.k.b.c5; have f3 := hh.k.a.b.frozen 3; have g3 := hh.k.b.b.frozen 3
  have hiZ := opC_info opZ none 0 0 none 0 0 rfl
  have hsZ : zc.size = (opC opZ none 0 0 none 0 0).size := by rw [opC_size _ _ _ _ _ _ _ (by rfl), hz0]
  have hoZ := opC_one opZ none 0 0 none 0 0
  have z3 : (D.k == 3) = true := by simpa using h3
  have z4 : (E.k == 3) = true := by simpa using h4
  have z5 : (D.p == E.p) = true := by simpa using hp
  clear h3 h4 hp
  go_wp2_with (first
    | (with_reducible refine wpList_load_opx (by with_unfolding_all rfl) _ rfl _ rfl hh.k.a K1 ?_)
    | (with_reducible refine wpList_load_opx (by with_unfolding_all rfl) _ rfl _ rfl hh.k.b K2 ?_)
    | (go_at_call 31; (first | (with_reducible refine (cR1 _ hh.k.x).mono ?_) | (with_reducible refine (cR2 _ hh.k.x).mono ?_)); rintro o1 w1 ⟨rfl, hb⟩; replace hh := hh.below hb; clear hb; clear x0 x1 x3 x4 x5 y0 y1 y3 y4 y5 f3 g3; have x0 := hh.k.a.c0; have x1 := hh.k.a.c1; have x3 := hh.k.a.c3; have x4 := hh.k.a.c4; have x5 := hh.k.a.c5; have y0 := hh.k.b.c0; have y1 := hh.k.b.c1; have y3 := hh.k.b.c3; have y4 := hh.k.b.c4; have y5 := hh.k.b.c5; have f3 := hh.k.a.b.frozen 3; have g3 := hh.k.b.b.frozen 3)
    | (go_at_call 50; (first | (with_reducible refine (cP1 _ hh.k.x).mono ?_) | (with_reducible refine (cP2 _ hh.k.x).mono ?_)); rintro o1 w1 ⟨rfl, hb⟩; replace hh := hh.below hb; clear hb; clear x0 x1 x3 x4 x5 y0 y1 y3 y4 y5 f3 g3; have x0 := hh.k.a.c0; have x1 := hh.k.a.c1; have x3 := hh.k.a.c3; have x4 := hh.k.a.c4; have x5 := hh.k.a.c5; have y0 := hh.k.b.c0; have y1 := hh.k.b.c1; have y3 := hh.k.b.c3; have y4 := hh.k.b.c4; have y5 := hh.k.b.c5; have f3 := hh.k.a.b.frozen 3; have g3 := hh.k.b.b.frozen 3)
    | (go_at_call 51; (first | (with_reducible refine (cA _ hh.k.x).mono ?_)); rintro o1 w1 ⟨rfl, hb⟩; replace hh := hh.below hb; clear hb; clear x0 x1 x3 x4 x5 y0 y1 y3 y4 y5 f3 g3; have x0 := hh.k.a.c0; have x1 := hh.k.a.c1; have x3 := hh.k.a.c3; have x4 := hh.k.a.c4; have x5 := hh.k.a.c5; have y0 := hh.k.b.c0; have y1 := hh.k.b.c1; have y3 := hh.k.b.c3; have y4 := hh.k.b.c4; have y5 := hh.k.b.c5; have f3 := hh.k.a.b.frozen 3; have g3 := hh.k.b.b.frozen 3)
    | (with_reducible refine wpList_build_op0 rfl rfl ?_)
    | ((with_reducible refine wpList_store_blk rfl 42 _ _ rfl (w.heap.size + 1 + 1) zc (opC opZ none 0 0 none 0 0) 42 hh.r4 rfl rfl hiZ hsZ hoZ ?_); intro W4 b4 g4; have r5 := blk_gb hh.r5 g4 (by omega); have hx4 := hh.k.x.trans (below_of_gb g4 (by omega) hh.k.x.size))
    | ((with_reducible refine wpList_store_blk rfl 42 _ _ rfl (w.heap.size + 1 + 1 + 1) zc (opC opZ none 0 0 none 0 0) 42 r5 rfl rfl hiZ hsZ hoZ ?_); intro W5 b5 g5; replace b4 := blk_gb b4 g5 (by omega); have hx5 := hx4.trans (below_of_gb g5 (by omega) hx4.size)))
  refine bodyPost_ret (results_rswap rfl rfl rfl b4 b5 (opC_size _ _ _ _ _ _ _ rfl) (opC_size _ _ _ _ _ _ _ rfl)) rfl ?_
  exact ⟨rfl, hx5⟩

set_option maxRecDepth 100000 in
set_option maxHeartbeats 40000000 in
theorem rs_5 (D : OpD) (A : Option Addr) (n c : Nat) (B : Option Addr) (m d : Nat) (E : OpD) (A2 : Option Addr) (n2 c2 : Nat) (B2 : Option Addr) (m2 d2 : Nat) (w : World) (K1 : D.K.length = 32) (K2 : E.K.length = 32) (cR1 : ∀ W, Below w.heap.size w W → Calls Try.prog 31 #[.agg (opC D A n c B m d)] W fun o w' => o = .returned (.int .i64 0) ∧ Below W.heap.size W w') (cR2 : ∀ W, Below w.heap.size w W → Calls Try.prog 31 #[.agg (opC E A2 n2 c2 B2 m2 d2)] W fun o w' => o = .returned (.int .i64 0) ∧ Below W.heap.size W w') (cP1 : ∀ W, Below w.heap.size w W → Calls Try.prog 50 #[.agg (opC D A n c B m d)] W fun o w' => o = .returned (.bool false) ∧ Below W.heap.size W w') (cP2 : ∀ W, Below w.heap.size w W → Calls Try.prog 50 #[.agg (opC E A2 n2 c2 B2 m2 d2)] W fun o w' => o = .returned (.bool false) ∧ Below W.heap.size W w') (h3 : D.k = 3) (h4 : E.k = 3) (hp : D.p = E.p) (cA : ∀ W, Below w.heap.size w W → Calls Try.prog 51 #[.agg #[.int .i64 D.a, .slice A n c, .slice B m d], .agg #[.int .i64 E.a, .slice A2 n2 c2, .slice B2 m2 d2]] W fun o w' => o = .returned (.bool true) ∧ Below W.heap.size W w') (hlt : E.a < D.a) (da : Int) (hy : wrap64 (D.a + wrap64 ((m2 : Int) - n2)) = da) :
    Calls Try.prog 30 #[.agg (opC D A n c B m d), .agg (opC E A2 n2 c2 B2 m2 d2)] w fun e w' => e = .returned (.tuple #[.agg (opC E A2 n2 c2 B2 m2 d2), .agg (opC { D with a := da } A n c B m d), .bool true]) ∧ Below w.heap.size w w' := by
  obtain ⟨zc, hzc, hz0⟩ : ∃ zc : Array Value, Hid (zc = #[.int .i64 0, .string ⟨#[]⟩, .string ⟨#[]⟩, .int .i64 0, .slice none 0 0, .slice none 0 0, .int .u8 0, .int .u8 0, .int .u8 0, .int .u8 0, .int .u8 0, .int .u8 0, .int .u8 0, .int .u8 0, .int .u8 0, .int .u8 0, .int .u8 0, .int .u8 0, .int .u8 0, .int .u8 0, .int .u8 0, .int .u8 0, .int .u8 0, .int .u8 0, .int .u8 0, .int .u8 0, .int .u8 0, .int .u8 0, .int .u8 0, .int .u8 0, .int .u8 0, .int .u8 0, .int .u8 0, .int .u8 0, .int .u8 0, .int .u8 0, .int .u8 0, .int .u8 0, .int .i64 0]) ∧ zc.size = 39 := ⟨_, hid rfl, rfl⟩
  have hh := SwO.new w D A n c B m d E A2 n2 c2 B2 m2 d2 zc
  go_enter Try.func30, Try.ntmps30
  go_upto_region 1 with (fail)
  rw [← hzc.out]
  generalize (((w.alloc (.cells (opC D A n c B m d) 42)).alloc (.cells (opC E A2 n2 c2 B2 m2 d2) 42)).alloc (.cells zc 42)).alloc (.cells zc 42) = W0 at *
  have x0 := hh.k.a.c0; have x1 := hh.k.a.c1; have x3 := hh.k.a.c3; have x4 := hh.k.a.c4; have x5 := hh.k.a.c5; have y0 := hh.k.b.c0; have y1 := hh.k.b.c1; have y3 := hh.k.b.c3; have y4 := hh.k.b.c4; have y5 := hh.k.b.c5; have f3 := hh.k.a.b.frozen 3; have g3 := hh.k.b.b.frozen 3
  have z3 : (D.k == 3) = true := by simpa using h3
  have z4 : (E.k == 3) = true := by simpa using h4
  have z5 : (D.p == E.p) = true := by simpa using hp
  clear h3 h4 hp
  go_wp2_with (first
    | (with_reducible refine wpList_load_opx (by with_unfolding_all rfl) _ rfl _ rfl hh.k.a K1 ?_)
    | (with_reducible refine wpList_load_opx (by with_unfolding_all rfl) _ rfl _ rfl hh.k.b K2 ?_)
    | (go_at_call 31; (first | (with_reducible refine (cR1 _ hh.k.x).mono ?_) | (with_reducible refine (cR2 _ hh.k.x).mono ?_)); rintro o1 w1 ⟨rfl, hb⟩; replace hh := hh.below hb; clear hb; clear x0 x1 x3 x4 x5 y0 y1 y3 y4 y5 f3 g3; have x0 := hh.k.a.c0; have x1 := hh.k.a.c1; have x3 := hh.k.a.c3; have x4 := hh.k.a.c4; have x5 := hh.k.a.c5; have y0 := hh.k.b.c0; have y1 := hh.k.b.c1; have y3 := hh.k.b.c3; have y4 := hh.k.b.c4; have y5 := hh.k.b.c5; have f3 := hh.k.a.b.frozen 3; have g3 := hh.k.b.b.frozen 3)
    | (go_at_call 50; (first | (with_reducible refine (cP1 _ hh.k.x).mono ?_) | (with_reducible refine (cP2 _ hh.k.x).mono ?_)); rintro o1 w1 ⟨rfl, hb⟩; replace hh := hh.below hb; clear hb; clear x0 x1 x3 x4 x5 y0 y1 y3 y4 y5 f3 g3; have x0 := hh.k.a.c0; have x1 := hh.k.a.c1; have x3 := hh.k.a.c3; have x4 := hh.k.a.c4; have x5 := hh.k.a.c5; have y0 := hh.k.b.c0; have y1 := hh.k.b.c1; have y3 := hh.k.b.c3; have y4 := hh.k.b.c4; have y5 := hh.k.b.c5; have f3 := hh.k.a.b.frozen 3; have g3 := hh.k.b.b.frozen 3)
    | (go_at_call 51; (first | (with_reducible refine (cA _ hh.k.x).mono ?_)); rintro o1 w1 ⟨rfl, hb⟩; replace hh := hh.below hb; clear hb; clear x0 x1 x3 x4 x5 y0 y1 y3 y4 y5 f3 g3; have x0 := hh.k.a.c0; have x1 := hh.k.a.c1; have x3 := hh.k.a.c3; have x4 := hh.k.a.c4; have x5 := hh.k.a.c5; have y0 := hh.k.b.c0; have y1 := hh.k.b.c1; have y3 := hh.k.b.c3; have y4 := hh.k.b.c4; have y5 := hh.k.b.c5; have f3 := hh.k.a.b.frozen 3; have g3 := hh.k.b.b.frozen 3))
  have hs : ∀ W, SwO w W D A n c B m d E A2 n2 c2 B2 m2 d2 zc → SwO w (W.setCell ⟨w.heap.size, 3, none⟩ (.int .i64 da)) { D with a := da } A n c B m d E A2 n2 c2 B2 m2 d2 zc := fun W h =>
    have hg := gb_set (gb_refl W (some w.heap.size)) 3 (.int .i64 da)
    ⟨⟨⟨by have q := h.k.a.b.set 3 (.int .i64 da); rwa [opC_set3 D K1 A n c B m d da] at q⟩, ⟨blk_gb h.k.b.b hg (by omega)⟩, h.k.x.trans (below_of_gb hg (Nat.le_refl _) h.k.x.size)⟩, blk_gb h.r4 hg (by omega), blk_gb h.r5 hg (by omega)⟩
  replace hh := hs _ hh
  clear hs
  refine wp_region_held_drew (S := fun W => OpX W (w.heap.size + 1) E A2 n2 c2 B2 m2 d2 ∧ OpX W w.heap.size { D with a := da } A n c B m d) (by kernel_rfl) ⟨hh.k.b.below (below_drew10 _), hh.k.a.below (below_drew10 _)⟩ (fun hHeld => ?_)
  replace hh := hh.below (below_drew10 _)
  refine' wpAnyH_take (i := 0) (v := .agg (opC E A2 n2 c2 B2 m2 d2)) rfl (by kernel_rfl) (by kernel_rfl) (by kernel_rfl) (fun _ _ _ h => h) (yields_opx (by rfl) _ rfl _ rfl (fun w' h => h.1) K2) hHeld ?_
  try simp only [Act.put, List.getElem_toArray, List.getElem_cons_succ, List.getElem_cons_zero, List.setIfInBounds_toArray, List.set_cons_zero, List.set_cons_succ]
  refine' wpAnyH_take (i := 1) (v := .agg (opC { D with a := da } A n c B m d)) rfl (by kernel_rfl) (by kernel_rfl) (by kernel_rfl) (fun _ _ _ h => h) (yields_opx (by rfl) _ rfl _ rfl (fun w' h => h.2) K1) hHeld ?_
  try simp only [Act.put, List.getElem_toArray, List.getElem_cons_succ, List.getElem_cons_zero, List.setIfInBounds_toArray, List.set_cons_zero, List.set_cons_succ]
  refine wpAnyH_ready (rs := [2]) (by kernel_rfl) (by simp) ?_
  refine AllReadyH.cons rfl (fun K hK => ?_) AllReadyH.nil
  refine wp_store_whole 42 _ _ rfl (w.heap.size + 1 + 1) zc (opC E A2 n2 c2 B2 m2 d2) 42 hh.r4 rfl rfl (opC_info _ _ _ _ _ _ _ K2) (by rw [opC_size E A2 n2 c2 B2 m2 d2 K2, hz0]) (opC_one _ _ _ _ _ _ _) ?_
  intro V4 b4 q4
  have r5 := blk_gb hh.r5 q4 (by omega)
  have hx4 := hh.k.x.trans (below_of_gb q4 (by omega) hh.k.x.size)
  refine hK.out _ _ ⟨⟨blk_gb hHeld.1.b q4 (by omega)⟩, ⟨blk_gb hHeld.2.b q4 (by omega)⟩⟩ (fun hHeld => ?_)
  clear hK K
  try simp only [Act.put, List.getElem_toArray, List.getElem_cons_succ, List.getElem_cons_zero, List.setIfInBounds_toArray, List.set_cons_zero, List.set_cons_succ]
  refine wpAnyH_ready (rs := [3]) (by kernel_rfl) (by simp) ?_
  refine AllReadyH.cons rfl (fun K hK => ?_) AllReadyH.nil
  refine wp_store_whole 42 _ _ rfl (w.heap.size + 1 + 1 + 1) zc (opC { D with a := da } A n c B m d) 42 r5 rfl rfl (opC_info _ _ _ _ _ _ _ K1) (by rw [opC_size { D with a := da } A n c B m d K1, hz0]) (opC_one _ _ _ _ _ _ _) ?_
  intro V5 b5 q5
  replace b4 := blk_gb b4 q5 (by omega)
  have hx5 := hx4.trans (below_of_gb q5 (by omega) hx4.size)
  refine hK.out _ _ ⟨⟨blk_gb hHeld.1.b q5 (by omega)⟩, ⟨blk_gb hHeld.2.b q5 (by omega)⟩⟩ (fun hHeld => ?_)
  clear hK K
  try simp only [Act.put, List.getElem_toArray, List.getElem_cons_succ, List.getElem_cons_zero, List.setIfInBounds_toArray, List.set_cons_zero, List.set_cons_succ]
  refine' wpAnyH_take (i := 4) (v := .bool true) rfl (by kernel_rfl) (by kernel_rfl) (by kernel_rfl) (fun _ _ _ h => h) (Or.inl ⟨by rfl, fun w' hw' => by go_simp⟩) hHeld ?_
  try simp only [Act.put, List.getElem_toArray, List.getElem_cons_succ, List.getElem_cons_zero, List.setIfInBounds_toArray, List.set_cons_zero, List.set_cons_succ]
  refine wpAnyH_done (by kernel_rfl) ?_ _
  go_wp2
  refine bodyPost_ret (results_rswap rfl rfl rfl b4 b5 (opC_size _ _ _ _ _ _ _ K2) (opC_size _ _ _ _ _ _ _ K1)) rfl ?_
  exact ⟨rfl, hx5⟩

set_option maxRecDepth 100000 in
set_option maxHeartbeats 40000000 in
theorem rs_6 (D : OpD) (A : Option Addr) (n c : Nat) (B : Option Addr) (m d : Nat) (E : OpD) (A2 : Option Addr) (n2 c2 : Nat) (B2 : Option Addr) (m2 d2 : Nat) (w : World) (K1 : D.K.length = 32) (K2 : E.K.length = 32) (cR1 : ∀ W, Below w.heap.size w W → Calls Try.prog 31 #[.agg (opC D A n c B m d)] W fun o w' => o = .returned (.int .i64 0) ∧ Below W.heap.size W w') (cR2 : ∀ W, Below w.heap.size w W → Calls Try.prog 31 #[.agg (opC E A2 n2 c2 B2 m2 d2)] W fun o w' => o = .returned (.int .i64 0) ∧ Below W.heap.size W w') (cP1 : ∀ W, Below w.heap.size w W → Calls Try.prog 50 #[.agg (opC D A n c B m d)] W fun o w' => o = .returned (.bool false) ∧ Below W.heap.size W w') (cP2 : ∀ W, Below w.heap.size w W → Calls Try.prog 50 #[.agg (opC E A2 n2 c2 B2 m2 d2)] W fun o w' => o = .returned (.bool false) ∧ Below W.heap.size W w') (h3 : D.k = 3) (h4 : E.k = 3) (hp : D.p = E.p) (cA : ∀ W, Below w.heap.size w W → Calls Try.prog 51 #[.agg #[.int .i64 D.a, .slice A n c, .slice B m d], .agg #[.int .i64 E.a, .slice A2 n2 c2, .slice B2 m2 d2]] W fun o w' => o = .returned (.bool true) ∧ Below W.heap.size W w') (hlt : ¬ E.a < D.a) (ea : Int) (hz : wrap64 (E.a + wrap64 ((n : Int) - m)) = ea) :
    Calls Try.prog 30 #[.agg (opC D A n c B m d), .agg (opC E A2 n2 c2 B2 m2 d2)] w fun e w' => e = .returned (.tuple #[.agg (opC { E with a := ea } A2 n2 c2 B2 m2 d2), .agg (opC D A n c B m d), .bool true]) ∧ Below w.heap.size w w' := by
  obtain ⟨zc, hzc, hz0⟩ : ∃ zc : Array Value, Hid (zc = #[.int .i64 0, .string ⟨#[]⟩, .string ⟨#[]⟩, .int .i64 0, .slice none 0 0, .slice none 0 0, .int .u8 0, .int .u8 0, .int .u8 0, .int .u8 0, .int .u8 0, .int .u8 0, .int .u8 0, .int .u8 0, .int .u8 0, .int .u8 0, .int .u8 0, .int .u8 0, .int .u8 0, .int .u8 0, .int .u8 0, .int .u8 0, .int .u8 0, .int .u8 0, .int .u8 0, .int .u8 0, .int .u8 0, .int .u8 0, .int .u8 0, .int .u8 0, .int .u8 0, .int .u8 0, .int .u8 0, .int .u8 0, .int .u8 0, .int .u8 0, .int .u8 0, .int .u8 0, .int .i64 0]) ∧ zc.size = 39 := ⟨_, hid rfl, rfl⟩
  have hh := SwO.new w D A n c B m d E A2 n2 c2 B2 m2 d2 zc
  go_enter Try.func30, Try.ntmps30
  go_upto_region 1 with (fail)
  rw [← hzc.out]
  generalize (((w.alloc (.cells (opC D A n c B m d) 42)).alloc (.cells (opC E A2 n2 c2 B2 m2 d2) 42)).alloc (.cells zc 42)).alloc (.cells zc 42) = W0 at *
  have x0 := hh.k.a.c0; have x1 := hh.k.a.c1; have x3 := hh.k.a.c3; have x4 := hh.k.a.c4; have x5 := hh.k.a.c5; have y0 := hh.k.b.c0; have y1 := hh.k.b.c1; have y3 := hh.k.b.c3; have y4 := hh.k.b.c4; have y5 := hh.k.b.c5; have f3 := hh.k.a.b.frozen 3; have g3 := hh.k.b.b.frozen 3
  have z3 : (D.k == 3) = true := by simpa using h3
  have z4 : (E.k == 3) = true := by simpa using h4
  have z5 : (D.p == E.p) = true := by simpa using hp
  clear h3 h4 hp
  go_wp2_with (first
    | (with_reducible refine wpList_load_opx (by with_unfolding_all rfl) _ rfl _ rfl hh.k.a K1 ?_)
    | (with_reducible refine wpList_load_opx (by with_unfolding_all rfl) _ rfl _ rfl hh.k.b K2 ?_)
    | (go_at_call 31; (first | (with_reducible refine (cR1 _ hh.k.x).mono ?_) | (with_reducible refine (cR2 _ hh.k.x).mono ?_)); rintro o1 w1 ⟨rfl, hb⟩; replace hh := hh.below hb; clear hb; clear x0 x1 x3 x4 x5 y0 y1 y3 y4 y5 f3 g3; have x0 := hh.k.a.c0; have x1 := hh.k.a.c1; have x3 := hh.k.a.c3; have x4 := hh.k.a.c4; have x5 := hh.k.a.c5; have y0 := hh.k.b.c0; have y1 := hh.k.b.c1; have y3 := hh.k.b.c3; have y4 := hh.k.b.c4; have y5 := hh.k.b.c5; have f3 := hh.k.a.b.frozen 3; have g3 := hh.k.b.b.frozen 3)
    | (go_at_call 50; (first | (with_reducible refine (cP1 _ hh.k.x).mono ?_) | (with_reducible refine (cP2 _ hh.k.x).mono ?_)); rintro o1 w1 ⟨rfl, hb⟩; replace hh := hh.below hb; clear hb; clear x0 x1 x3 x4 x5 y0 y1 y3 y4 y5 f3 g3; have x0 := hh.k.a.c0; have x1 := hh.k.a.c1; have x3 := hh.k.a.c3; have x4 := hh.k.a.c4; have x5 := hh.k.a.c5; have y0 := hh.k.b.c0; have y1 := hh.k.b.c1; have y3 := hh.k.b.c3; have y4 := hh.k.b.c4; have y5 := hh.k.b.c5; have f3 := hh.k.a.b.frozen 3; have g3 := hh.k.b.b.frozen 3)
    | (go_at_call 51; (first | (with_reducible refine (cA _ hh.k.x).mono ?_)); rintro o1 w1 ⟨rfl, hb⟩; replace hh := hh.below hb; clear hb; clear x0 x1 x3 x4 x5 y0 y1 y3 y4 y5 f3 g3; have x0 := hh.k.a.c0; have x1 := hh.k.a.c1; have x3 := hh.k.a.c3; have x4 := hh.k.a.c4; have x5 := hh.k.a.c5; have y0 := hh.k.b.c0; have y1 := hh.k.b.c1; have y3 := hh.k.b.c3; have y4 := hh.k.b.c4; have y5 := hh.k.b.c5; have f3 := hh.k.a.b.frozen 3; have g3 := hh.k.b.b.frozen 3))
  have hs : ∀ W, SwO w W D A n c B m d E A2 n2 c2 B2 m2 d2 zc → SwO w (W.setCell ⟨w.heap.size + 1, 3, none⟩ (.int .i64 ea)) D A n c B m d { E with a := ea } A2 n2 c2 B2 m2 d2 zc := fun W h =>
    have hg := gb_set (gb_refl W (some (w.heap.size + 1))) 3 (.int .i64 ea)
    ⟨⟨⟨blk_gb h.k.a.b hg (by omega)⟩, ⟨by have q := h.k.b.b.set 3 (.int .i64 ea); rwa [opC_set3 E K2 A2 n2 c2 B2 m2 d2 ea] at q⟩, h.k.x.trans (below_of_gb hg (by omega) h.k.x.size)⟩, blk_gb h.r4 hg (by omega), blk_gb h.r5 hg (by omega)⟩
  replace hh := hs _ hh
  clear hs
  refine wp_region_held_drew (S := fun W => OpX W (w.heap.size + 1) { E with a := ea } A2 n2 c2 B2 m2 d2 ∧ OpX W w.heap.size D A n c B m d) (by kernel_rfl) ⟨hh.k.b.below (below_drew10 _), hh.k.a.below (below_drew10 _)⟩ (fun hHeld => ?_)
  replace hh := hh.below (below_drew10 _)
  refine' wpAnyH_take (i := 0) (v := .agg (opC { E with a := ea } A2 n2 c2 B2 m2 d2)) rfl (by kernel_rfl) (by kernel_rfl) (by kernel_rfl) (fun _ _ _ h => h) (yields_opx (by rfl) _ rfl _ rfl (fun w' h => h.1) K2) hHeld ?_
  try simp only [Act.put, List.getElem_toArray, List.getElem_cons_succ, List.getElem_cons_zero, List.setIfInBounds_toArray, List.set_cons_zero, List.set_cons_succ]
  refine' wpAnyH_take (i := 1) (v := .agg (opC D A n c B m d)) rfl (by kernel_rfl) (by kernel_rfl) (by kernel_rfl) (fun _ _ _ h => h) (yields_opx (by rfl) _ rfl _ rfl (fun w' h => h.2) K1) hHeld ?_
  try simp only [Act.put, List.getElem_toArray, List.getElem_cons_succ, List.getElem_cons_zero, List.setIfInBounds_toArray, List.set_cons_zero, List.set_cons_succ]
  refine wpAnyH_ready (rs := [2]) (by kernel_rfl) (by simp) ?_
  refine AllReadyH.cons rfl (fun K hK => ?_) AllReadyH.nil
  refine wp_store_whole 42 _ _ rfl (w.heap.size + 1 + 1) zc (opC { E with a := ea } A2 n2 c2 B2 m2 d2) 42 hh.r4 rfl rfl (opC_info _ _ _ _ _ _ _ K2) (by rw [opC_size { E with a := ea } A2 n2 c2 B2 m2 d2 K2, hz0]) (opC_one _ _ _ _ _ _ _) ?_
  intro V4 b4 q4
  have r5 := blk_gb hh.r5 q4 (by omega)
  have hx4 := hh.k.x.trans (below_of_gb q4 (by omega) hh.k.x.size)
  refine hK.out _ _ ⟨⟨blk_gb hHeld.1.b q4 (by omega)⟩, ⟨blk_gb hHeld.2.b q4 (by omega)⟩⟩ (fun hHeld => ?_)
  clear hK K
  try simp only [Act.put, List.getElem_toArray, List.getElem_cons_succ, List.getElem_cons_zero, List.setIfInBounds_toArray, List.set_cons_zero, List.set_cons_succ]
  refine wpAnyH_ready (rs := [3]) (by kernel_rfl) (by simp) ?_
  refine AllReadyH.cons rfl (fun K hK => ?_) AllReadyH.nil
  refine wp_store_whole 42 _ _ rfl (w.heap.size + 1 + 1 + 1) zc (opC D A n c B m d) 42 r5 rfl rfl (opC_info _ _ _ _ _ _ _ K1) (by rw [opC_size D A n c B m d K1, hz0]) (opC_one _ _ _ _ _ _ _) ?_
  intro V5 b5 q5
  replace b4 := blk_gb b4 q5 (by omega)
  have hx5 := hx4.trans (below_of_gb q5 (by omega) hx4.size)
  refine hK.out _ _ ⟨⟨blk_gb hHeld.1.b q5 (by omega)⟩, ⟨blk_gb hHeld.2.b q5 (by omega)⟩⟩ (fun hHeld => ?_)
  clear hK K
  try simp only [Act.put, List.getElem_toArray, List.getElem_cons_succ, List.getElem_cons_zero, List.setIfInBounds_toArray, List.set_cons_zero, List.set_cons_succ]
  refine' wpAnyH_take (i := 4) (v := .bool true) rfl (by kernel_rfl) (by kernel_rfl) (by kernel_rfl) (fun _ _ _ h => h) (Or.inl ⟨by rfl, fun w' hw' => by go_simp⟩) hHeld ?_
  try simp only [Act.put, List.getElem_toArray, List.getElem_cons_succ, List.getElem_cons_zero, List.setIfInBounds_toArray, List.set_cons_zero, List.set_cons_succ]
  refine wpAnyH_done (by kernel_rfl) ?_ _
  go_wp2
  refine bodyPost_ret (results_rswap rfl rfl rfl b4 b5 (opC_size _ _ _ _ _ _ _ K2) (opC_size _ _ _ _ _ _ _ K1)) rfl ?_
  exact ⟨rfl, hx5⟩

set_option maxRecDepth 100000 in
set_option maxHeartbeats 40000000 in
theorem rs_7a (D : OpD) (A : Option Addr) (n c : Nat) (B : Option Addr) (m d : Nat) (E : OpD) (A2 : Option Addr) (n2 c2 : Nat) (B2 : Option Addr) (m2 d2 : Nat) (w : World) (K1 : D.K.length = 32) (K2 : E.K.length = 32) (cR1 : ∀ W, Below w.heap.size w W → Calls Try.prog 31 #[.agg (opC D A n c B m d)] W fun o w' => o = .returned (.int .i64 0) ∧ Below W.heap.size W w') (cR2 : ∀ W, Below w.heap.size w W → Calls Try.prog 31 #[.agg (opC E A2 n2 c2 B2 m2 d2)] W fun o w' => o = .returned (.int .i64 0) ∧ Below W.heap.size W w') (cP1 : ∀ W, Below w.heap.size w W → Calls Try.prog 50 #[.agg (opC D A n c B m d)] W fun o w' => o = .returned (.bool false) ∧ Below W.heap.size W w') (cP2 : ∀ W, Below w.heap.size w W → Calls Try.prog 50 #[.agg (opC E A2 n2 c2 B2 m2 d2)] W fun o w' => o = .returned (.bool false) ∧ Below W.heap.size W w') (h3 : ¬ D.k = 3) (ps qs : List (List UInt8)) (cQ1 : ∀ W, Below w.heap.size w W → Calls Try.prog 52 #[.agg (opC D A n c B m d)] W fun o w' => ∃ A1 n1, o = .returned (.slice A1 n1 n1) ∧ ps.length = n1 ∧ n1 ≤ 2 ∧ Rd w' A1 (ps.map strV) ∧ Below W.heap.size W w') (cQ2 : ∀ W, Below w.heap.size w W → Calls Try.prog 52 #[.agg (opC E A2 n2 c2 B2 m2 d2)] W fun o w' => ∃ A1 n1, o = .returned (.slice A1 n1 n1) ∧ qs.length = n1 ∧ n1 ≤ 2 ∧ Rd w' A1 (qs.map strV) ∧ Below W.heap.size W w') (b1 : ∀ s ∈ ps, pathR s = true) (b2 : ∀ s ∈ qs, pathR s = true) :
    Calls Try.prog 30 #[.agg (opC D A n c B m d), .agg (opC E A2 n2 c2 B2 m2 d2)] w fun e w' => ((ps.all fun s => qs.all (besR s)) = true ∧ e = .returned (.tuple #[.agg (opC E A2 n2 c2 B2 m2 d2), .agg (opC D A n c B m d), .bool true]) ∧ Below w.heap.size w w') ∨ ((ps.all fun s => qs.all (besR s)) = false ∧ e = .returned (.tuple #[.agg (opC opZ none 0 0 none 0 0), .agg (opC opZ none 0 0 none 0 0), .bool false]) ∧ Below w.heap.size w w') := by
  obtain ⟨zc, hzc, hz0⟩ : ∃ zc : Array Value, Hid (zc = #[.int .i64 0, .string ⟨#[]⟩, .string ⟨#[]⟩, .int .i64 0, .slice none 0 0, .slice none 0 0, .int .u8 0, .int .u8 0, .int .u8 0, .int .u8 0, .int .u8 0, .int .u8 0, .int .u8 0, .int .u8 0, .int .u8 0, .int .u8 0, .int .u8 0, .int .u8 0, .int .u8 0, .int .u8 0, .int .u8 0, .int .u8 0, .int .u8 0, .int .u8 0, .int .u8 0, .int .u8 0, .int .u8 0, .int .u8 0, .int .u8 0, .int .u8 0, .int .u8 0, .int .u8 0, .int .u8 0, .int .u8 0, .int .u8 0, .int .u8 0, .int .u8 0, .int .u8 0, .int .i64 0]) ∧ zc.size = 39 := ⟨_, hid rfl, rfl⟩
  have hh := SwO.new w D A n c B m d E A2 n2 c2 B2 m2 d2 zc
  go_enter Try.func30, Try.ntmps30
  go_upto_region 1 with (fail)
  rw [← hzc.out]
  generalize (((w.alloc (.cells (opC D A n c B m d) 42)).alloc (.cells (opC E A2 n2 c2 B2 m2 d2) 42)).alloc (.cells zc 42)).alloc (.cells zc 42) = W0 at *
  have x0 := hh.k.a.c0; have x1 := hh.k.a.c1; have x3 := hh.k.a.c3; have x4 := hh.k.a.c4; have x5 := hh.k.a.c5; have y0 := hh.k.b.c0; have y1 := hh.k.b.c1; have y3 := hh.k.b.c3; have y4 := hh.k.b.c4; have y5 := hh.k.b.c5; have f3 := hh.k.a.b.frozen 3; have g3 := hh.k.b.b.frozen 3
  have hiZ := opC_info opZ none 0 0 none 0 0 rfl
  have hsZ : zc.size = (opC opZ none 0 0 none 0 0).size := by rw [opC_size _ _ _ _ _ _ _ (by rfl), hz0]
  have hoZ := opC_one opZ none 0 0 none 0 0
  have z3 : (D.k == 3) = false := by simpa using h3
  clear h3
  go_wp2_with (first
    | (with_reducible refine wpList_load_opx (by with_unfolding_all rfl) _ rfl _ rfl hh.k.a K1 ?_)
    | (with_reducible refine wpList_load_opx (by with_unfolding_all rfl) _ rfl _ rfl hh.k.b K2 ?_)
    | (go_at_call 31; (first | (with_reducible refine (cR1 _ hh.k.x).mono ?_) | (with_reducible refine (cR2 _ hh.k.x).mono ?_)); rintro o1 w1 ⟨rfl, hb⟩; replace hh := hh.below hb; clear hb; clear x0 x1 x3 x4 x5 y0 y1 y3 y4 y5 f3 g3; have x0 := hh.k.a.c0; have x1 := hh.k.a.c1; have x3 := hh.k.a.c3; have x4 := hh.k.a.c4; have x5 := hh.k.a.c5; have y0 := hh.k.b.c0; have y1 := hh.k.b.c1; have y3 := hh.k.b.c3; have y4 := hh.k.b.c4; have y5 := hh.k.b.c5; have f3 := hh.k.a.b.frozen 3; have g3 := hh.k.b.b.frozen 3)
    | (go_at_call 50; (first | (with_reducible refine (cP1 _ hh.k.x).mono ?_) | (with_reducible refine (cP2 _ hh.k.x).mono ?_)); rintro o1 w1 ⟨rfl, hb⟩; replace hh := hh.below hb; clear hb; clear x0 x1 x3 x4 x5 y0 y1 y3 y4 y5 f3 g3; have x0 := hh.k.a.c0; have x1 := hh.k.a.c1; have x3 := hh.k.a.c3; have x4 := hh.k.a.c4; have x5 := hh.k.a.c5; have y0 := hh.k.b.c0; have y1 := hh.k.b.c1; have y3 := hh.k.b.c3; have y4 := hh.k.b.c4; have y5 := hh.k.b.c5; have f3 := hh.k.a.b.frozen 3; have g3 := hh.k.b.b.frozen 3)
    | (go_at_call 51; (first | (with_reducible refine (cA _ hh.k.x).mono ?_)); rintro o1 w1 ⟨rfl, hb⟩; replace hh := hh.below hb; clear hb; clear x0 x1 x3 x4 x5 y0 y1 y3 y4 y5 f3 g3; have x0 := hh.k.a.c0; have x1 := hh.k.a.c1; have x3 := hh.k.a.c3; have x4 := hh.k.a.c4; have x5 := hh.k.a.c5; have y0 := hh.k.b.c0; have y1 := hh.k.b.c1; have y3 := hh.k.b.c3; have y4 := hh.k.b.c4; have y5 := hh.k.b.c5; have f3 := hh.k.a.b.frozen 3; have g3 := hh.k.b.b.frozen 3)
    | (go_at_call 52; (with_reducible refine (cQ1 _ hh.k.x).mono ?_); rintro o1 w1 ⟨A3, n3, rfl, l3, k3, r3, hb⟩; replace hh := hh.below hb; clear hb))
  clear x0 x1 x3 x4 x5 y0 y1 y3 y4 y5 f3 g3
  have HB1 := hid b1
  have HB2 := hid b2
  clear b1 b2
  go_loopw [94] (fun i wr => ∃ k : Nat, k ≤ n3 ∧ i = .int .i64 k ∧ ((ps.take k).all fun s => qs.all (besR s)) = true ∧ SwO w wr D A n c B m d E A2 n2 c2 B2 m2 d2 zc ∧ Below w1.heap.size w1 wr) (fun i _ => n3 - (intOf i).toNat)
  case atStart => exact ⟨0, by omega, rfl, by simp, hh, Below.refl _ _⟩
  case round =>
    clear hh
    obtain ⟨k, hk, rfl, ht, hh, hbw⟩ := hrel
    have HT := hid ht
    clear ht
    by_cases hlt : k < n3
    · obtain ⟨p, hpk⟩ : ∃ p, ps[k]? = some p := ⟨_, List.getElem?_eq_getElem (by omega)⟩
      obtain ⟨ad, rfl, hcell⟩ := rd_in (r3.below hbw) k (strV p) (by rw [List.getElem?_map, hpk]; rfl)
      unfold strV at hcell
      have HP := hid hpk
      have c1 : (k : Int) < n3 := by omega
      clear hpk
      go_wp2_with (first
        | (with_reducible refine wpList_load_opx (by with_unfolding_all rfl) _ rfl _ rfl hh.k.a K1 ?_)
        | (with_reducible refine wpList_load_opx (by with_unfolding_all rfl) _ rfl _ rfl hh.k.b K2 ?_)
        | (go_at_call 52; (with_reducible refine (cQ2 _ hh.k.x).mono ?_); rintro o2 w2 ⟨A4, n4, rfl, l4, k4, r4, hb⟩; replace hh := hh.below hb; have hbw2 := hbw.trans (hb.mono hbw.size); clear hb))
      go_loopw [101] (fun i wr => ∃ j : Nat, j ≤ n4 ∧ i = .int .i64 j ∧ ((qs.take j).all (besR p)) = true ∧ SwO w wr D A n c B m d E A2 n2 c2 B2 m2 d2 zc ∧ Below w2.heap.size w2 wr) (fun i _ => n4 - (intOf i).toNat)
      case atStart => exact ⟨0, by omega, rfl, by simp, hh, Below.refl _ _⟩
      case round =>
        clear hh
        obtain ⟨j, hj, rfl, ht, hh, hbv⟩ := hrel
        have HT2 := hid ht
        clear ht
        by_cases hlt2 : j < n4
        · obtain ⟨q, hqk⟩ : ∃ q, qs[j]? = some q := ⟨_, List.getElem?_eq_getElem (by omega)⟩
          obtain ⟨ad2, rfl, hcell2⟩ := rd_in (r4.below hbv) j (strV q) (by rw [List.getElem?_map, hqk]; rfl)
          unfold strV at hcell2
          have hp1 := HB1.out p (List.mem_of_getElem? HP.out)
          have hq1 := HB2.out q (List.mem_of_getElem? hqk)
          have hbes := bes_cov hp1 hq1
          have lp := pathR_len hp1
          have lq := pathR_len hq1
          have HQ := hid hqk
          have c2 : (j : Int) < n4 := by omega
          have cV1 := fun W => rcovers_any p q (by omega) (by omega) W
          have cV2 := fun W => rcovers_any q p (by omega) (by omega) W
          clear hqk hp1 hq1 lp lq
          have bad : besR p q = false → (ps.all fun s => qs.all (besR s)) = false := fun h => by
            rw [List.all_eq_false]
            refine ⟨p, List.mem_of_getElem? HP.out, ?_⟩
            rw [Bool.not_eq_true, List.all_eq_false]
            exact ⟨q, List.mem_of_getElem? HQ.out, by rw [h]; decide⟩
          have HBAD := hid bad
          clear bad
          cases hc1 : covB p q with
          | true =>
            rw [hc1] at hbes cV1
            have HBES := hid hbes
            clear hbes hc1
            go_wp2_with (first
              | (go_at_call 53; (first | (with_reducible refine (cV1 _).mono ?_) | (with_reducible refine (cV2 _).mono ?_)); rintro o5 w5 ⟨rfl, rfl⟩)
              | (with_reducible refine wpList_build_op0 rfl rfl ?_)
              | ((with_reducible refine wpList_store_blk rfl 42 _ _ rfl (w.heap.size + 1 + 1) zc (opC opZ none 0 0 none 0 0) 42 hh.r4 rfl rfl hiZ hsZ hoZ ?_); intro W4 b4 g4; have r5 := blk_gb hh.r5 g4 (by omega); have hx4 := hh.k.x.trans (below_of_gb g4 (by omega) hh.k.x.size))
              | ((with_reducible refine wpList_store_blk rfl 42 _ _ rfl (w.heap.size + 1 + 1 + 1) zc (opC opZ none 0 0 none 0 0) 42 r5 rfl rfl hiZ hsZ hoZ ?_); intro W5 b5 g5; replace b4 := blk_gb b4 g5 (by omega); have hx5 := hx4.trans (below_of_gb g5 (by omega) hx4.size)))
            refine bodyPost_ret (results_rswap rfl rfl rfl b4 b5 (opC_size _ _ _ _ _ _ _ rfl) (opC_size _ _ _ _ _ _ _ rfl)) rfl ?_
            exact .inr ⟨HBAD.out (by rw [HBES.out]; rfl), rfl, hx5⟩
          | false =>
            cases hc2 : covB q p with
            | true =>
              rw [hc1, hc2] at hbes
              rw [hc1] at cV1
              rw [hc2] at cV2
              have HBES := hid hbes
              clear hbes hc1 hc2
              go_wp2_with (first
                | (go_at_call 53; (first | (with_reducible refine (cV1 _).mono ?_) | (with_reducible refine (cV2 _).mono ?_)); rintro o5 w5 ⟨rfl, rfl⟩)
                | (with_reducible refine wpList_build_op0 rfl rfl ?_)
                | ((with_reducible refine wpList_store_blk rfl 42 _ _ rfl (w.heap.size + 1 + 1) zc (opC opZ none 0 0 none 0 0) 42 hh.r4 rfl rfl hiZ hsZ hoZ ?_); intro W4 b4 g4; have r5 := blk_gb hh.r5 g4 (by omega); have hx4 := hh.k.x.trans (below_of_gb g4 (by omega) hh.k.x.size))
                | ((with_reducible refine wpList_store_blk rfl 42 _ _ rfl (w.heap.size + 1 + 1 + 1) zc (opC opZ none 0 0 none 0 0) 42 r5 rfl rfl hiZ hsZ hoZ ?_); intro W5 b5 g5; replace b4 := blk_gb b4 g5 (by omega); have hx5 := hx4.trans (below_of_gb g5 (by omega) hx4.size)))
              refine bodyPost_ret (results_rswap rfl rfl rfl b4 b5 (opC_size _ _ _ _ _ _ _ rfl) (opC_size _ _ _ _ _ _ _ rfl)) rfl ?_
              exact .inr ⟨HBAD.out (by rw [HBES.out]; rfl), rfl, hx5⟩
            | false =>
              rw [hc1, hc2] at hbes
              rw [hc1] at cV1
              rw [hc2] at cV2
              have HBES := hid hbes
              clear hbes hc1 hc2
              go_wp2_with (first
                | (go_at_call 53; (first | (with_reducible refine (cV1 _).mono ?_) | (with_reducible refine (cV2 _).mono ?_)); rintro o5 w5 ⟨rfl, rfl⟩))
              go_roundw
              case rel => exact ⟨j + 1, hlt2, by go_num, by rw [take_snoc HQ.out, List.all_append, HT2.out]; simp [HBES.out], hh, hbv⟩
              case measure => simp [intOf]; omega
        · obtain rfl : j = n4 := by omega
          have c2 : ¬ (j : Int) < j := by omega
          have ht := HT2.out
          rw [List.take_of_length_le (by omega)] at ht
          have HU := hid ht
          clear ht HT2
          have hbf := hbw2.trans (hbv.mono hbw2.size)
          go_wp2
          go_roundw
          case rel => exact ⟨k + 1, hlt, by go_num, by rw [take_snoc HP.out, List.all_append, HT.out]; simp [HU.out], hh, hbf⟩
          case measure => simp [intOf]; omega
    · obtain rfl : k = n3 := by omega
      have c1 : ¬ (k : Int) < k := by omega
      have ht := HT.out
      rw [List.take_of_length_le (by omega)] at ht
      have HU := hid ht
      clear ht HT
      go_wp2_with (fail)
      refine wp_region_held_drew (S := fun W => OpX W (w.heap.size + 1) E A2 n2 c2 B2 m2 d2 ∧ OpX W w.heap.size D A n c B m d) (by kernel_rfl) ⟨hh.k.b.below (below_drew10 _), hh.k.a.below (below_drew10 _)⟩ (fun hHeld => ?_)
      replace hh := hh.below (below_drew10 _)
      refine' wpAnyH_take (i := 0) (v := .agg (opC E A2 n2 c2 B2 m2 d2)) rfl (by kernel_rfl) (by kernel_rfl) (by kernel_rfl) (fun _ _ _ h => h) (yields_opx (by rfl) _ rfl _ rfl (fun w' h => h.1) K2) hHeld ?_
      try simp only [Act.put, List.getElem_toArray, List.getElem_cons_succ, List.getElem_cons_zero, List.setIfInBounds_toArray, List.set_cons_zero, List.set_cons_succ]
      refine' wpAnyH_take (i := 1) (v := .agg (opC D A n c B m d)) rfl (by kernel_rfl) (by kernel_rfl) (by kernel_rfl) (fun _ _ _ h => h) (yields_opx (by rfl) _ rfl _ rfl (fun w' h => h.2) K1) hHeld ?_
      try simp only [Act.put, List.getElem_toArray, List.getElem_cons_succ, List.getElem_cons_zero, List.setIfInBounds_toArray, List.set_cons_zero, List.set_cons_succ]
      refine wpAnyH_ready (rs := [2]) (by kernel_rfl) (by simp) ?_
      refine AllReadyH.cons rfl (fun K hK => ?_) AllReadyH.nil
      refine wp_store_whole 42 _ _ rfl (w.heap.size + 1 + 1) zc (opC E A2 n2 c2 B2 m2 d2) 42 hh.r4 rfl rfl (opC_info _ _ _ _ _ _ _ K2) (by rw [opC_size E A2 n2 c2 B2 m2 d2 K2, hz0]) (opC_one _ _ _ _ _ _ _) ?_
      intro V4 b4 q4
      have r5 := blk_gb hh.r5 q4 (by omega)
      have hx4 := hh.k.x.trans (below_of_gb q4 (by omega) hh.k.x.size)
      refine hK.out _ _ ⟨⟨blk_gb hHeld.1.b q4 (by omega)⟩, ⟨blk_gb hHeld.2.b q4 (by omega)⟩⟩ (fun hHeld => ?_)
      clear hK K
      try simp only [Act.put, List.getElem_toArray, List.getElem_cons_succ, List.getElem_cons_zero, List.setIfInBounds_toArray, List.set_cons_zero, List.set_cons_succ]
      refine wpAnyH_ready (rs := [3]) (by kernel_rfl) (by simp) ?_
      refine AllReadyH.cons rfl (fun K hK => ?_) AllReadyH.nil
      refine wp_store_whole 42 _ _ rfl (w.heap.size + 1 + 1 + 1) zc (opC D A n c B m d) 42 r5 rfl rfl (opC_info _ _ _ _ _ _ _ K1) (by rw [opC_size D A n c B m d K1, hz0]) (opC_one _ _ _ _ _ _ _) ?_
      intro V5 b5 q5
      replace b4 := blk_gb b4 q5 (by omega)
      have hx5 := hx4.trans (below_of_gb q5 (by omega) hx4.size)
      refine hK.out _ _ ⟨⟨blk_gb hHeld.1.b q5 (by omega)⟩, ⟨blk_gb hHeld.2.b q5 (by omega)⟩⟩ (fun hHeld => ?_)
      clear hK K
      try simp only [Act.put, List.getElem_toArray, List.getElem_cons_succ, List.getElem_cons_zero, List.setIfInBounds_toArray, List.set_cons_zero, List.set_cons_succ]
      refine' wpAnyH_take (i := 4) (v := .bool true) rfl (by kernel_rfl) (by kernel_rfl) (by kernel_rfl) (fun _ _ _ h => h) (Or.inl ⟨by rfl, fun w' hw' => by go_simp⟩) hHeld ?_
      try simp only [Act.put, List.getElem_toArray, List.getElem_cons_succ, List.getElem_cons_zero, List.setIfInBounds_toArray, List.set_cons_zero, List.set_cons_succ]
      refine wpAnyH_done (by kernel_rfl) ?_ _
      go_wp2
      refine bodyPost_ret (results_rswap rfl rfl rfl b4 b5 (opC_size _ _ _ _ _ _ _ K2) (opC_size _ _ _ _ _ _ _ K1)) rfl ?_
      exact .inl ⟨HU.out, rfl, hx5⟩

set_option maxRecDepth 100000 in
set_option maxHeartbeats 40000000 in
theorem rs_7b (D : OpD) (A : Option Addr) (n c : Nat) (B : Option Addr) (m d : Nat) (E : OpD) (A2 : Option Addr) (n2 c2 : Nat) (B2 : Option Addr) (m2 d2 : Nat) (w : World) (K1 : D.K.length = 32) (K2 : E.K.length = 32) (cR1 : ∀ W, Below w.heap.size w W → Calls Try.prog 31 #[.agg (opC D A n c B m d)] W fun o w' => o = .returned (.int .i64 0) ∧ Below W.heap.size W w') (cR2 : ∀ W, Below w.heap.size w W → Calls Try.prog 31 #[.agg (opC E A2 n2 c2 B2 m2 d2)] W fun o w' => o = .returned (.int .i64 0) ∧ Below W.heap.size W w') (cP1 : ∀ W, Below w.heap.size w W → Calls Try.prog 50 #[.agg (opC D A n c B m d)] W fun o w' => o = .returned (.bool false) ∧ Below W.heap.size W w') (cP2 : ∀ W, Below w.heap.size w W → Calls Try.prog 50 #[.agg (opC E A2 n2 c2 B2 m2 d2)] W fun o w' => o = .returned (.bool false) ∧ Below W.heap.size W w') (h3 : D.k = 3) (h4 : ¬ E.k = 3) (ps qs : List (List UInt8)) (cQ1 : ∀ W, Below w.heap.size w W → Calls Try.prog 52 #[.agg (opC D A n c B m d)] W fun o w' => ∃ A1 n1, o = .returned (.slice A1 n1 n1) ∧ ps.length = n1 ∧ n1 ≤ 2 ∧ Rd w' A1 (ps.map strV) ∧ Below W.heap.size W w') (cQ2 : ∀ W, Below w.heap.size w W → Calls Try.prog 52 #[.agg (opC E A2 n2 c2 B2 m2 d2)] W fun o w' => ∃ A1 n1, o = .returned (.slice A1 n1 n1) ∧ qs.length = n1 ∧ n1 ≤ 2 ∧ Rd w' A1 (qs.map strV) ∧ Below W.heap.size W w') (b1 : ∀ s ∈ ps, pathR s = true) (b2 : ∀ s ∈ qs, pathR s = true) :
    Calls Try.prog 30 #[.agg (opC D A n c B m d), .agg (opC E A2 n2 c2 B2 m2 d2)] w fun e w' => ((ps.all fun s => qs.all (besR s)) = true ∧ e = .returned (.tuple #[.agg (opC E A2 n2 c2 B2 m2 d2), .agg (opC D A n c B m d), .bool true]) ∧ Below w.heap.size w w') ∨ ((ps.all fun s => qs.all (besR s)) = false ∧ e = .returned (.tuple #[.agg (opC opZ none 0 0 none 0 0), .agg (opC opZ none 0 0 none 0 0), .bool false]) ∧ Below w.heap.size w w') := by
  obtain ⟨zc, hzc, hz0⟩ : ∃ zc : Array Value, Hid (zc = #[.int .i64 0, .string ⟨#[]⟩, .string ⟨#[]⟩, .int .i64 0, .slice none 0 0, .slice none 0 0, .int .u8 0, .int .u8 0, .int .u8 0, .int .u8 0, .int .u8 0, .int .u8 0, .int .u8 0, .int .u8 0, .int .u8 0, .int .u8 0, .int .u8 0, .int .u8 0, .int .u8 0, .int .u8 0, .int .u8 0, .int .u8 0, .int .u8 0, .int .u8 0, .int .u8 0, .int .u8 0, .int .u8 0, .int .u8 0, .int .u8 0, .int .u8 0, .int .u8 0, .int .u8 0, .int .u8 0, .int .u8 0, .int .u8 0, .int .u8 0, .int .u8 0, .int .u8 0, .int .i64 0]) ∧ zc.size = 39 := ⟨_, hid rfl, rfl⟩
  have hh := SwO.new w D A n c B m d E A2 n2 c2 B2 m2 d2 zc
  go_enter Try.func30, Try.ntmps30
  go_upto_region 1 with (fail)
  rw [← hzc.out]
  generalize (((w.alloc (.cells (opC D A n c B m d) 42)).alloc (.cells (opC E A2 n2 c2 B2 m2 d2) 42)).alloc (.cells zc 42)).alloc (.cells zc 42) = W0 at *
  have x0 := hh.k.a.c0; have x1 := hh.k.a.c1; have x3 := hh.k.a.c3; have x4 := hh.k.a.c4; have x5 := hh.k.a.c5; have y0 := hh.k.b.c0; have y1 := hh.k.b.c1; have y3 := hh.k.b.c3; have y4 := hh.k.b.c4; have y5 := hh.k.b.c5; have f3 := hh.k.a.b.frozen 3; have g3 := hh.k.b.b.frozen 3
  have hiZ := opC_info opZ none 0 0 none 0 0 rfl
  have hsZ : zc.size = (opC opZ none 0 0 none 0 0).size := by rw [opC_size _ _ _ _ _ _ _ (by rfl), hz0]
  have hoZ := opC_one opZ none 0 0 none 0 0
  have z3 : (D.k == 3) = true := by simpa using h3
  have z4 : (E.k == 3) = false := by simpa using h4
  clear h3 h4
  go_wp2_with (first
    | (with_reducible refine wpList_load_opx (by with_unfolding_all rfl) _ rfl _ rfl hh.k.a K1 ?_)
    | (with_reducible refine wpList_load_opx (by with_unfolding_all rfl) _ rfl _ rfl hh.k.b K2 ?_)
    | (go_at_call 31; (first | (with_reducible refine (cR1 _ hh.k.x).mono ?_) | (with_reducible refine (cR2 _ hh.k.x).mono ?_)); rintro o1 w1 ⟨rfl, hb⟩; replace hh := hh.below hb; clear hb; clear x0 x1 x3 x4 x5 y0 y1 y3 y4 y5 f3 g3; have x0 := hh.k.a.c0; have x1 := hh.k.a.c1; have x3 := hh.k.a.c3; have x4 := hh.k.a.c4; have x5 := hh.k.a.c5; have y0 := hh.k.b.c0; have y1 := hh.k.b.c1; have y3 := hh.k.b.c3; have y4 := hh.k.b.c4; have y5 := hh.k.b.c5; have f3 := hh.k.a.b.frozen 3; have g3 := hh.k.b.b.frozen 3)
    | (go_at_call 50; (first | (with_reducible refine (cP1 _ hh.k.x).mono ?_) | (with_reducible refine (cP2 _ hh.k.x).mono ?_)); rintro o1 w1 ⟨rfl, hb⟩; replace hh := hh.below hb; clear hb; clear x0 x1 x3 x4 x5 y0 y1 y3 y4 y5 f3 g3; have x0 := hh.k.a.c0; have x1 := hh.k.a.c1; have x3 := hh.k.a.c3; have x4 := hh.k.a.c4; have x5 := hh.k.a.c5; have y0 := hh.k.b.c0; have y1 := hh.k.b.c1; have y3 := hh.k.b.c3; have y4 := hh.k.b.c4; have y5 := hh.k.b.c5; have f3 := hh.k.a.b.frozen 3; have g3 := hh.k.b.b.frozen 3)
    | (go_at_call 51; (first | (with_reducible refine (cA _ hh.k.x).mono ?_)); rintro o1 w1 ⟨rfl, hb⟩; replace hh := hh.below hb; clear hb; clear x0 x1 x3 x4 x5 y0 y1 y3 y4 y5 f3 g3; have x0 := hh.k.a.c0; have x1 := hh.k.a.c1; have x3 := hh.k.a.c3; have x4 := hh.k.a.c4; have x5 := hh.k.a.c5; have y0 := hh.k.b.c0; have y1 := hh.k.b.c1; have y3 := hh.k.b.c3; have y4 := hh.k.b.c4; have y5 := hh.k.b.c5; have f3 := hh.k.a.b.frozen 3; have g3 := hh.k.b.b.frozen 3)
    | (go_at_call 52; (with_reducible refine (cQ1 _ hh.k.x).mono ?_); rintro o1 w1 ⟨A3, n3, rfl, l3, k3, r3, hb⟩; replace hh := hh.below hb; clear hb))
  clear x0 x1 x3 x4 x5 y0 y1 y3 y4 y5 f3 g3
  have HB1 := hid b1
  have HB2 := hid b2
  clear b1 b2
  go_loopw [94] (fun i wr => ∃ k : Nat, k ≤ n3 ∧ i = .int .i64 k ∧ ((ps.take k).all fun s => qs.all (besR s)) = true ∧ SwO w wr D A n c B m d E A2 n2 c2 B2 m2 d2 zc ∧ Below w1.heap.size w1 wr) (fun i _ => n3 - (intOf i).toNat)
  case atStart => exact ⟨0, by omega, rfl, by simp, hh, Below.refl _ _⟩
  case round =>
    clear hh
    obtain ⟨k, hk, rfl, ht, hh, hbw⟩ := hrel
    have HT := hid ht
    clear ht
    by_cases hlt : k < n3
    · obtain ⟨p, hpk⟩ : ∃ p, ps[k]? = some p := ⟨_, List.getElem?_eq_getElem (by omega)⟩
      obtain ⟨ad, rfl, hcell⟩ := rd_in (r3.below hbw) k (strV p) (by rw [List.getElem?_map, hpk]; rfl)
      unfold strV at hcell
      have HP := hid hpk
      have c1 : (k : Int) < n3 := by omega
      clear hpk
      go_wp2_with (first
        | (with_reducible refine wpList_load_opx (by with_unfolding_all rfl) _ rfl _ rfl hh.k.a K1 ?_)
        | (with_reducible refine wpList_load_opx (by with_unfolding_all rfl) _ rfl _ rfl hh.k.b K2 ?_)
        | (go_at_call 52; (with_reducible refine (cQ2 _ hh.k.x).mono ?_); rintro o2 w2 ⟨A4, n4, rfl, l4, k4, r4, hb⟩; replace hh := hh.below hb; have hbw2 := hbw.trans (hb.mono hbw.size); clear hb))
      go_loopw [101] (fun i wr => ∃ j : Nat, j ≤ n4 ∧ i = .int .i64 j ∧ ((qs.take j).all (besR p)) = true ∧ SwO w wr D A n c B m d E A2 n2 c2 B2 m2 d2 zc ∧ Below w2.heap.size w2 wr) (fun i _ => n4 - (intOf i).toNat)
      case atStart => exact ⟨0, by omega, rfl, by simp, hh, Below.refl _ _⟩
      case round =>
        clear hh
        obtain ⟨j, hj, rfl, ht, hh, hbv⟩ := hrel
        have HT2 := hid ht
        clear ht
        by_cases hlt2 : j < n4
        · obtain ⟨q, hqk⟩ : ∃ q, qs[j]? = some q := ⟨_, List.getElem?_eq_getElem (by omega)⟩
          obtain ⟨ad2, rfl, hcell2⟩ := rd_in (r4.below hbv) j (strV q) (by rw [List.getElem?_map, hqk]; rfl)
          unfold strV at hcell2
          have hp1 := HB1.out p (List.mem_of_getElem? HP.out)
          have hq1 := HB2.out q (List.mem_of_getElem? hqk)
          have hbes := bes_cov hp1 hq1
          have lp := pathR_len hp1
          have lq := pathR_len hq1
          have HQ := hid hqk
          have c2 : (j : Int) < n4 := by omega
          have cV1 := fun W => rcovers_any p q (by omega) (by omega) W
          have cV2 := fun W => rcovers_any q p (by omega) (by omega) W
          clear hqk hp1 hq1 lp lq
          have bad : besR p q = false → (ps.all fun s => qs.all (besR s)) = false := fun h => by
            rw [List.all_eq_false]
            refine ⟨p, List.mem_of_getElem? HP.out, ?_⟩
            rw [Bool.not_eq_true, List.all_eq_false]
            exact ⟨q, List.mem_of_getElem? HQ.out, by rw [h]; decide⟩
          have HBAD := hid bad
          clear bad
          cases hc1 : covB p q with
          | true =>
            rw [hc1] at hbes cV1
            have HBES := hid hbes
            clear hbes hc1
            go_wp2_with (first
              | (go_at_call 53; (first | (with_reducible refine (cV1 _).mono ?_) | (with_reducible refine (cV2 _).mono ?_)); rintro o5 w5 ⟨rfl, rfl⟩)
              | (with_reducible refine wpList_build_op0 rfl rfl ?_)
              | ((with_reducible refine wpList_store_blk rfl 42 _ _ rfl (w.heap.size + 1 + 1) zc (opC opZ none 0 0 none 0 0) 42 hh.r4 rfl rfl hiZ hsZ hoZ ?_); intro W4 b4 g4; have r5 := blk_gb hh.r5 g4 (by omega); have hx4 := hh.k.x.trans (below_of_gb g4 (by omega) hh.k.x.size))
              | ((with_reducible refine wpList_store_blk rfl 42 _ _ rfl (w.heap.size + 1 + 1 + 1) zc (opC opZ none 0 0 none 0 0) 42 r5 rfl rfl hiZ hsZ hoZ ?_); intro W5 b5 g5; replace b4 := blk_gb b4 g5 (by omega); have hx5 := hx4.trans (below_of_gb g5 (by omega) hx4.size)))
            refine bodyPost_ret (results_rswap rfl rfl rfl b4 b5 (opC_size _ _ _ _ _ _ _ rfl) (opC_size _ _ _ _ _ _ _ rfl)) rfl ?_
            exact .inr ⟨HBAD.out (by rw [HBES.out]; rfl), rfl, hx5⟩
          | false =>
            cases hc2 : covB q p with
            | true =>
              rw [hc1, hc2] at hbes
              rw [hc1] at cV1
              rw [hc2] at cV2
              have HBES := hid hbes
              clear hbes hc1 hc2
              go_wp2_with (first
                | (go_at_call 53; (first | (with_reducible refine (cV1 _).mono ?_) | (with_reducible refine (cV2 _).mono ?_)); rintro o5 w5 ⟨rfl, rfl⟩)
                | (with_reducible refine wpList_build_op0 rfl rfl ?_)
                | ((with_reducible refine wpList_store_blk rfl 42 _ _ rfl (w.heap.size + 1 + 1) zc (opC opZ none 0 0 none 0 0) 42 hh.r4 rfl rfl hiZ hsZ hoZ ?_); intro W4 b4 g4; have r5 := blk_gb hh.r5 g4 (by omega); have hx4 := hh.k.x.trans (below_of_gb g4 (by omega) hh.k.x.size))
                | ((with_reducible refine wpList_store_blk rfl 42 _ _ rfl (w.heap.size + 1 + 1 + 1) zc (opC opZ none 0 0 none 0 0) 42 r5 rfl rfl hiZ hsZ hoZ ?_); intro W5 b5 g5; replace b4 := blk_gb b4 g5 (by omega); have hx5 := hx4.trans (below_of_gb g5 (by omega) hx4.size)))
              refine bodyPost_ret (results_rswap rfl rfl rfl b4 b5 (opC_size _ _ _ _ _ _ _ rfl) (opC_size _ _ _ _ _ _ _ rfl)) rfl ?_
              exact .inr ⟨HBAD.out (by rw [HBES.out]; rfl), rfl, hx5⟩
            | false =>
              rw [hc1, hc2] at hbes
              rw [hc1] at cV1
              rw [hc2] at cV2
              have HBES := hid hbes
              clear hbes hc1 hc2
              go_wp2_with (first
                | (go_at_call 53; (first | (with_reducible refine (cV1 _).mono ?_) | (with_reducible refine (cV2 _).mono ?_)); rintro o5 w5 ⟨rfl, rfl⟩))
              go_roundw
              case rel => exact ⟨j + 1, hlt2, by go_num, by rw [take_snoc HQ.out, List.all_append, HT2.out]; simp [HBES.out], hh, hbv⟩
              case measure => simp [intOf]; omega
        · obtain rfl : j = n4 := by omega
          have c2 : ¬ (j : Int) < j := by omega
          have ht := HT2.out
          rw [List.take_of_length_le (by omega)] at ht
          have HU := hid ht
          clear ht HT2
          have hbf := hbw2.trans (hbv.mono hbw2.size)
          go_wp2
          go_roundw
          case rel => exact ⟨k + 1, hlt, by go_num, by rw [take_snoc HP.out, List.all_append, HT.out]; simp [HU.out], hh, hbf⟩
          case measure => simp [intOf]; omega
    · obtain rfl : k = n3 := by omega
      have c1 : ¬ (k : Int) < k := by omega
      have ht := HT.out
      rw [List.take_of_length_le (by omega)] at ht
      have HU := hid ht
      clear ht HT
      go_wp2_with (fail)
      refine wp_region_held_drew (S := fun W => OpX W (w.heap.size + 1) E A2 n2 c2 B2 m2 d2 ∧ OpX W w.heap.size D A n c B m d) (by kernel_rfl) ⟨hh.k.b.below (below_drew10 _), hh.k.a.below (below_drew10 _)⟩ (fun hHeld => ?_)
      replace hh := hh.below (below_drew10 _)
      refine' wpAnyH_take (i := 0) (v := .agg (opC E A2 n2 c2 B2 m2 d2)) rfl (by kernel_rfl) (by kernel_rfl) (by kernel_rfl) (fun _ _ _ h => h) (yields_opx (by rfl) _ rfl _ rfl (fun w' h => h.1) K2) hHeld ?_
      try simp only [Act.put, List.getElem_toArray, List.getElem_cons_succ, List.getElem_cons_zero, List.setIfInBounds_toArray, List.set_cons_zero, List.set_cons_succ]
      refine' wpAnyH_take (i := 1) (v := .agg (opC D A n c B m d)) rfl (by kernel_rfl) (by kernel_rfl) (by kernel_rfl) (fun _ _ _ h => h) (yields_opx (by rfl) _ rfl _ rfl (fun w' h => h.2) K1) hHeld ?_
      try simp only [Act.put, List.getElem_toArray, List.getElem_cons_succ, List.getElem_cons_zero, List.setIfInBounds_toArray, List.set_cons_zero, List.set_cons_succ]
      refine wpAnyH_ready (rs := [2]) (by kernel_rfl) (by simp) ?_
      refine AllReadyH.cons rfl (fun K hK => ?_) AllReadyH.nil
      refine wp_store_whole 42 _ _ rfl (w.heap.size + 1 + 1) zc (opC E A2 n2 c2 B2 m2 d2) 42 hh.r4 rfl rfl (opC_info _ _ _ _ _ _ _ K2) (by rw [opC_size E A2 n2 c2 B2 m2 d2 K2, hz0]) (opC_one _ _ _ _ _ _ _) ?_
      intro V4 b4 q4
      have r5 := blk_gb hh.r5 q4 (by omega)
      have hx4 := hh.k.x.trans (below_of_gb q4 (by omega) hh.k.x.size)
      refine hK.out _ _ ⟨⟨blk_gb hHeld.1.b q4 (by omega)⟩, ⟨blk_gb hHeld.2.b q4 (by omega)⟩⟩ (fun hHeld => ?_)
      clear hK K
      try simp only [Act.put, List.getElem_toArray, List.getElem_cons_succ, List.getElem_cons_zero, List.setIfInBounds_toArray, List.set_cons_zero, List.set_cons_succ]
      refine wpAnyH_ready (rs := [3]) (by kernel_rfl) (by simp) ?_
      refine AllReadyH.cons rfl (fun K hK => ?_) AllReadyH.nil
      refine wp_store_whole 42 _ _ rfl (w.heap.size + 1 + 1 + 1) zc (opC D A n c B m d) 42 r5 rfl rfl (opC_info _ _ _ _ _ _ _ K1) (by rw [opC_size D A n c B m d K1, hz0]) (opC_one _ _ _ _ _ _ _) ?_
      intro V5 b5 q5
      replace b4 := blk_gb b4 q5 (by omega)
      have hx5 := hx4.trans (below_of_gb q5 (by omega) hx4.size)
      refine hK.out _ _ ⟨⟨blk_gb hHeld.1.b q5 (by omega)⟩, ⟨blk_gb hHeld.2.b q5 (by omega)⟩⟩ (fun hHeld => ?_)
      clear hK K
      try simp only [Act.put, List.getElem_toArray, List.getElem_cons_succ, List.getElem_cons_zero, List.setIfInBounds_toArray, List.set_cons_zero, List.set_cons_succ]
      refine' wpAnyH_take (i := 4) (v := .bool true) rfl (by kernel_rfl) (by kernel_rfl) (by kernel_rfl) (fun _ _ _ h => h) (Or.inl ⟨by rfl, fun w' hw' => by go_simp⟩) hHeld ?_
      try simp only [Act.put, List.getElem_toArray, List.getElem_cons_succ, List.getElem_cons_zero, List.setIfInBounds_toArray, List.set_cons_zero, List.set_cons_succ]
      refine wpAnyH_done (by kernel_rfl) ?_ _
      go_wp2
      refine bodyPost_ret (results_rswap rfl rfl rfl b4 b5 (opC_size _ _ _ _ _ _ _ K2) (opC_size _ _ _ _ _ _ _ K1)) rfl ?_
      exact .inl ⟨HU.out, rfl, hx5⟩

set_option maxRecDepth 100000 in
set_option maxHeartbeats 40000000 in
theorem rs_7c (D : OpD) (A : Option Addr) (n c : Nat) (B : Option Addr) (m d : Nat) (E : OpD) (A2 : Option Addr) (n2 c2 : Nat) (B2 : Option Addr) (m2 d2 : Nat) (w : World) (K1 : D.K.length = 32) (K2 : E.K.length = 32) (cR1 : ∀ W, Below w.heap.size w W → Calls Try.prog 31 #[.agg (opC D A n c B m d)] W fun o w' => o = .returned (.int .i64 0) ∧ Below W.heap.size W w') (cR2 : ∀ W, Below w.heap.size w W → Calls Try.prog 31 #[.agg (opC E A2 n2 c2 B2 m2 d2)] W fun o w' => o = .returned (.int .i64 0) ∧ Below W.heap.size W w') (cP1 : ∀ W, Below w.heap.size w W → Calls Try.prog 50 #[.agg (opC D A n c B m d)] W fun o w' => o = .returned (.bool false) ∧ Below W.heap.size W w') (cP2 : ∀ W, Below w.heap.size w W → Calls Try.prog 50 #[.agg (opC E A2 n2 c2 B2 m2 d2)] W fun o w' => o = .returned (.bool false) ∧ Below W.heap.size W w') (h3 : D.k = 3) (h4 : E.k = 3) (hp : ¬ D.p = E.p) (ps qs : List (List UInt8)) (cQ1 : ∀ W, Below w.heap.size w W → Calls Try.prog 52 #[.agg (opC D A n c B m d)] W fun o w' => ∃ A1 n1, o = .returned (.slice A1 n1 n1) ∧ ps.length = n1 ∧ n1 ≤ 2 ∧ Rd w' A1 (ps.map strV) ∧ Below W.heap.size W w') (cQ2 : ∀ W, Below w.heap.size w W → Calls Try.prog 52 #[.agg (opC E A2 n2 c2 B2 m2 d2)] W fun o w' => ∃ A1 n1, o = .returned (.slice A1 n1 n1) ∧ qs.length = n1 ∧ n1 ≤ 2 ∧ Rd w' A1 (qs.map strV) ∧ Below W.heap.size W w') (b1 : ∀ s ∈ ps, pathR s = true) (b2 : ∀ s ∈ qs, pathR s = true) :
    Calls Try.prog 30 #[.agg (opC D A n c B m d), .agg (opC E A2 n2 c2 B2 m2 d2)] w fun e w' => ((ps.all fun s => qs.all (besR s)) = true ∧ e = .returned (.tuple #[.agg (opC E A2 n2 c2 B2 m2 d2), .agg (opC D A n c B m d), .bool true]) ∧ Below w.heap.size w w') ∨ ((ps.all fun s => qs.all (besR s)) = false ∧ e = .returned (.tuple #[.agg (opC opZ none 0 0 none 0 0), .agg (opC opZ none 0 0 none 0 0), .bool false]) ∧ Below w.heap.size w w') := by
  obtain ⟨zc, hzc, hz0⟩ : ∃ zc : Array Value, Hid (zc = #[.int .i64 0, .string ⟨#[]⟩, .string ⟨#[]⟩, .int .i64 0, .slice none 0 0, .slice none 0 0, .int .u8 0, .int .u8 0, .int .u8 0, .int .u8 0, .int .u8 0, .int .u8 0, .int .u8 0, .int .u8 0, .int .u8 0, .int .u8 0, .int .u8 0, .int .u8 0, .int .u8 0, .int .u8 0, .int .u8 0, .int .u8 0, .int .u8 0, .int .u8 0, .int .u8 0, .int .u8 0, .int .u8 0, .int .u8 0, .int .u8 0, .int .u8 0, .int .u8 0, .int .u8 0, .int .u8 0, .int .u8 0, .int .u8 0, .int .u8 0, .int .u8 0, .int .u8 0, .int .i64 0]) ∧ zc.size = 39 := ⟨_, hid rfl, rfl⟩
  have hh := SwO.new w D A n c B m d E A2 n2 c2 B2 m2 d2 zc
  go_enter Try.func30, Try.ntmps30
  go_upto_region 1 with (fail)
  rw [← hzc.out]
  generalize (((w.alloc (.cells (opC D A n c B m d) 42)).alloc (.cells (opC E A2 n2 c2 B2 m2 d2) 42)).alloc (.cells zc 42)).alloc (.cells zc 42) = W0 at *
  have x0 := hh.k.a.c0; have x1 := hh.k.a.c1; have x3 := hh.k.a.c3; have x4 := hh.k.a.c4; have x5 := hh.k.a.c5; have y0 := hh.k.b.c0; have y1 := hh.k.b.c1; have y3 := hh.k.b.c3; have y4 := hh.k.b.c4; have y5 := hh.k.b.c5; have f3 := hh.k.a.b.frozen 3; have g3 := hh.k.b.b.frozen 3
  have hiZ := opC_info opZ none 0 0 none 0 0 rfl
  have hsZ : zc.size = (opC opZ none 0 0 none 0 0).size := by rw [opC_size _ _ _ _ _ _ _ (by rfl), hz0]
  have hoZ := opC_one opZ none 0 0 none 0 0
  have z3 : (D.k == 3) = true := by simpa using h3
  have z4 : (E.k == 3) = true := by simpa using h4
  have z5 : (D.p == E.p) = false := by simpa using hp
  clear h3 h4 hp
  go_wp2_with (first
    | (with_reducible refine wpList_load_opx (by with_unfolding_all rfl) _ rfl _ rfl hh.k.a K1 ?_)
    | (with_reducible refine wpList_load_opx (by with_unfolding_all rfl) _ rfl _ rfl hh.k.b K2 ?_)
    | (go_at_call 31; (first | (with_reducible refine (cR1 _ hh.k.x).mono ?_) | (with_reducible refine (cR2 _ hh.k.x).mono ?_)); rintro o1 w1 ⟨rfl, hb⟩; replace hh := hh.below hb; clear hb; clear x0 x1 x3 x4 x5 y0 y1 y3 y4 y5 f3 g3; have x0 := hh.k.a.c0; have x1 := hh.k.a.c1; have x3 := hh.k.a.c3; have x4 := hh.k.a.c4; have x5 := hh.k.a.c5; have y0 := hh.k.b.c0; have y1 := hh.k.b.c1; have y3 := hh.k.b.c3; have y4 := hh.k.b.c4; have y5 := hh.k.b.c5; have f3 := hh.k.a.b.frozen 3; have g3 := hh.k.b.b.frozen 3)
    | (go_at_call 50; (first | (with_reducible refine (cP1 _ hh.k.x).mono ?_) | (with_reducible refine (cP2 _ hh.k.x).mono ?_)); rintro o1 w1 ⟨rfl, hb⟩; replace hh := hh.below hb; clear hb; clear x0 x1 x3 x4 x5 y0 y1 y3 y4 y5 f3 g3; have x0 := hh.k.a.c0; have x1 := hh.k.a.c1; have x3 := hh.k.a.c3; have x4 := hh.k.a.c4; have x5 := hh.k.a.c5; have y0 := hh.k.b.c0; have y1 := hh.k.b.c1; have y3 := hh.k.b.c3; have y4 := hh.k.b.c4; have y5 := hh.k.b.c5; have f3 := hh.k.a.b.frozen 3; have g3 := hh.k.b.b.frozen 3)
    | (go_at_call 51; (first | (with_reducible refine (cA _ hh.k.x).mono ?_)); rintro o1 w1 ⟨rfl, hb⟩; replace hh := hh.below hb; clear hb; clear x0 x1 x3 x4 x5 y0 y1 y3 y4 y5 f3 g3; have x0 := hh.k.a.c0; have x1 := hh.k.a.c1; have x3 := hh.k.a.c3; have x4 := hh.k.a.c4; have x5 := hh.k.a.c5; have y0 := hh.k.b.c0; have y1 := hh.k.b.c1; have y3 := hh.k.b.c3; have y4 := hh.k.b.c4; have y5 := hh.k.b.c5; have f3 := hh.k.a.b.frozen 3; have g3 := hh.k.b.b.frozen 3)
    | (go_at_call 52; (with_reducible refine (cQ1 _ hh.k.x).mono ?_); rintro o1 w1 ⟨A3, n3, rfl, l3, k3, r3, hb⟩; replace hh := hh.below hb; clear hb))
  clear x0 x1 x3 x4 x5 y0 y1 y3 y4 y5 f3 g3
  have HB1 := hid b1
  have HB2 := hid b2
  clear b1 b2
  go_loopw [94] (fun i wr => ∃ k : Nat, k ≤ n3 ∧ i = .int .i64 k ∧ ((ps.take k).all fun s => qs.all (besR s)) = true ∧ SwO w wr D A n c B m d E A2 n2 c2 B2 m2 d2 zc ∧ Below w1.heap.size w1 wr) (fun i _ => n3 - (intOf i).toNat)
  case atStart => exact ⟨0, by omega, rfl, by simp, hh, Below.refl _ _⟩
  case round =>
    clear hh
    obtain ⟨k, hk, rfl, ht, hh, hbw⟩ := hrel
    have HT := hid ht
    clear ht
    by_cases hlt : k < n3
    · obtain ⟨p, hpk⟩ : ∃ p, ps[k]? = some p := ⟨_, List.getElem?_eq_getElem (by omega)⟩
      obtain ⟨ad, rfl, hcell⟩ := rd_in (r3.below hbw) k (strV p) (by rw [List.getElem?_map, hpk]; rfl)
      unfold strV at hcell
      have HP := hid hpk
      have c1 : (k : Int) < n3 := by omega
      clear hpk
      go_wp2_with (first
        | (with_reducible refine wpList_load_opx (by with_unfolding_all rfl) _ rfl _ rfl hh.k.a K1 ?_)
        | (with_reducible refine wpList_load_opx (by with_unfolding_all rfl) _ rfl _ rfl hh.k.b K2 ?_)
        | (go_at_call 52; (with_reducible refine (cQ2 _ hh.k.x).mono ?_); rintro o2 w2 ⟨A4, n4, rfl, l4, k4, r4, hb⟩; replace hh := hh.below hb; have hbw2 := hbw.trans (hb.mono hbw.size); clear hb))
      go_loopw [101] (fun i wr => ∃ j : Nat, j ≤ n4 ∧ i = .int .i64 j ∧ ((qs.take j).all (besR p)) = true ∧ SwO w wr D A n c B m d E A2 n2 c2 B2 m2 d2 zc ∧ Below w2.heap.size w2 wr) (fun i _ => n4 - (intOf i).toNat)
      case atStart => exact ⟨0, by omega, rfl, by simp, hh, Below.refl _ _⟩
      case round =>
        clear hh
        obtain ⟨j, hj, rfl, ht, hh, hbv⟩ := hrel
        have HT2 := hid ht
        clear ht
        by_cases hlt2 : j < n4
        · obtain ⟨q, hqk⟩ : ∃ q, qs[j]? = some q := ⟨_, List.getElem?_eq_getElem (by omega)⟩
          obtain ⟨ad2, rfl, hcell2⟩ := rd_in (r4.below hbv) j (strV q) (by rw [List.getElem?_map, hqk]; rfl)
          unfold strV at hcell2
          have hp1 := HB1.out p (List.mem_of_getElem? HP.out)
          have hq1 := HB2.out q (List.mem_of_getElem? hqk)
          have hbes := bes_cov hp1 hq1
          have lp := pathR_len hp1
          have lq := pathR_len hq1
          have HQ := hid hqk
          have c2 : (j : Int) < n4 := by omega
          have cV1 := fun W => rcovers_any p q (by omega) (by omega) W
          have cV2 := fun W => rcovers_any q p (by omega) (by omega) W
          clear hqk hp1 hq1 lp lq
          have bad : besR p q = false → (ps.all fun s => qs.all (besR s)) = false := fun h => by
            rw [List.all_eq_false]
            refine ⟨p, List.mem_of_getElem? HP.out, ?_⟩
            rw [Bool.not_eq_true, List.all_eq_false]
            exact ⟨q, List.mem_of_getElem? HQ.out, by rw [h]; decide⟩
          have HBAD := hid bad
          clear bad
          cases hc1 : covB p q with
          | true =>
            rw [hc1] at hbes cV1
            have HBES := hid hbes
            clear hbes hc1
            go_wp2_with (first
              | (go_at_call 53; (first | (with_reducible refine (cV1 _).mono ?_) | (with_reducible refine (cV2 _).mono ?_)); rintro o5 w5 ⟨rfl, rfl⟩)
              | (with_reducible refine wpList_build_op0 rfl rfl ?_)
              | ((with_reducible refine wpList_store_blk rfl 42 _ _ rfl (w.heap.size + 1 + 1) zc (opC opZ none 0 0 none 0 0) 42 hh.r4 rfl rfl hiZ hsZ hoZ ?_); intro W4 b4 g4; have r5 := blk_gb hh.r5 g4 (by omega); have hx4 := hh.k.x.trans (below_of_gb g4 (by omega) hh.k.x.size))
              | ((with_reducible refine wpList_store_blk rfl 42 _ _ rfl (w.heap.size + 1 + 1 + 1) zc (opC opZ none 0 0 none 0 0) 42 r5 rfl rfl hiZ hsZ hoZ ?_); intro W5 b5 g5; replace b4 := blk_gb b4 g5 (by omega); have hx5 := hx4.trans (below_of_gb g5 (by omega) hx4.size)))
            refine bodyPost_ret (results_rswap rfl rfl rfl b4 b5 (opC_size _ _ _ _ _ _ _ rfl) (opC_size _ _ _ _ _ _ _ rfl)) rfl ?_
            exact .inr ⟨HBAD.out (by rw [HBES.out]; rfl), rfl, hx5⟩
          | false =>
            cases hc2 : covB q p with
            | true =>
              rw [hc1, hc2] at hbes
              rw [hc1] at cV1
              rw [hc2] at cV2
              have HBES := hid hbes
              clear hbes hc1 hc2
              go_wp2_with (first
                | (go_at_call 53; (first | (with_reducible refine (cV1 _).mono ?_) | (with_reducible refine (cV2 _).mono ?_)); rintro o5 w5 ⟨rfl, rfl⟩)
                | (with_reducible refine wpList_build_op0 rfl rfl ?_)
                | ((with_reducible refine wpList_store_blk rfl 42 _ _ rfl (w.heap.size + 1 + 1) zc (opC opZ none 0 0 none 0 0) 42 hh.r4 rfl rfl hiZ hsZ hoZ ?_); intro W4 b4 g4; have r5 := blk_gb hh.r5 g4 (by omega); have hx4 := hh.k.x.trans (below_of_gb g4 (by omega) hh.k.x.size))
                | ((with_reducible refine wpList_store_blk rfl 42 _ _ rfl (w.heap.size + 1 + 1 + 1) zc (opC opZ none 0 0 none 0 0) 42 r5 rfl rfl hiZ hsZ hoZ ?_); intro W5 b5 g5; replace b4 := blk_gb b4 g5 (by omega); have hx5 := hx4.trans (below_of_gb g5 (by omega) hx4.size)))
              refine bodyPost_ret (results_rswap rfl rfl rfl b4 b5 (opC_size _ _ _ _ _ _ _ rfl) (opC_size _ _ _ _ _ _ _ rfl)) rfl ?_
              exact .inr ⟨HBAD.out (by rw [HBES.out]; rfl), rfl, hx5⟩
            | false =>
              rw [hc1, hc2] at hbes
              rw [hc1] at cV1
              rw [hc2] at cV2
              have HBES := hid hbes
              clear hbes hc1 hc2
              go_wp2_with (first
                | (go_at_call 53; (first | (with_reducible refine (cV1 _).mono ?_) | (with_reducible refine (cV2 _).mono ?_)); rintro o5 w5 ⟨rfl, rfl⟩))
              go_roundw
              case rel => exact ⟨j + 1, hlt2, by go_num, by rw [take_snoc HQ.out, List.all_append, HT2.out]; simp [HBES.out], hh, hbv⟩
              case measure => simp [intOf]; omega
        · obtain rfl : j = n4 := by omega
          have c2 : ¬ (j : Int) < j := by omega
          have ht := HT2.out
          rw [List.take_of_length_le (by omega)] at ht
          have HU := hid ht
          clear ht HT2
          have hbf := hbw2.trans (hbv.mono hbw2.size)
          go_wp2
          go_roundw
          case rel => exact ⟨k + 1, hlt, by go_num, by rw [take_snoc HP.out, List.all_append, HT.out]; simp [HU.out], hh, hbf⟩
          case measure => simp [intOf]; omega
    · obtain rfl : k = n3 := by omega
      have c1 : ¬ (k : Int) < k := by omega
      have ht := HT.out
      rw [List.take_of_length_le (by omega)] at ht
      have HU := hid ht
      clear ht HT
      go_wp2_with (fail)
      refine wp_region_held_drew (S := fun W => OpX W (w.heap.size + 1) E A2 n2 c2 B2 m2 d2 ∧ OpX W w.heap.size D A n c B m d) (by kernel_rfl) ⟨hh.k.b.below (below_drew10 _), hh.k.a.below (below_drew10 _)⟩ (fun hHeld => ?_)
      replace hh := hh.below (below_drew10 _)
      refine' wpAnyH_take (i := 0) (v := .agg (opC E A2 n2 c2 B2 m2 d2)) rfl (by kernel_rfl) (by kernel_rfl) (by kernel_rfl) (fun _ _ _ h => h) (yields_opx (by rfl) _ rfl _ rfl (fun w' h => h.1) K2) hHeld ?_
      try simp only [Act.put, List.getElem_toArray, List.getElem_cons_succ, List.getElem_cons_zero, List.setIfInBounds_toArray, List.set_cons_zero, List.set_cons_succ]
      refine' wpAnyH_take (i := 1) (v := .agg (opC D A n c B m d)) rfl (by kernel_rfl) (by kernel_rfl) (by kernel_rfl) (fun _ _ _ h => h) (yields_opx (by rfl) _ rfl _ rfl (fun w' h => h.2) K1) hHeld ?_
      try simp only [Act.put, List.getElem_toArray, List.getElem_cons_succ, List.getElem_cons_zero, List.setIfInBounds_toArray, List.set_cons_zero, List.set_cons_succ]
      refine wpAnyH_ready (rs := [2]) (by kernel_rfl) (by simp) ?_
      refine AllReadyH.cons rfl (fun K hK => ?_) AllReadyH.nil
      refine wp_store_whole 42 _ _ rfl (w.heap.size + 1 + 1) zc (opC E A2 n2 c2 B2 m2 d2) 42 hh.r4 rfl rfl (opC_info _ _ _ _ _ _ _ K2) (by rw [opC_size E A2 n2 c2 B2 m2 d2 K2, hz0]) (opC_one _ _ _ _ _ _ _) ?_
      intro V4 b4 q4
      have r5 := blk_gb hh.r5 q4 (by omega)
      have hx4 := hh.k.x.trans (below_of_gb q4 (by omega) hh.k.x.size)
      refine hK.out _ _ ⟨⟨blk_gb hHeld.1.b q4 (by omega)⟩, ⟨blk_gb hHeld.2.b q4 (by omega)⟩⟩ (fun hHeld => ?_)
      clear hK K
      try simp only [Act.put, List.getElem_toArray, List.getElem_cons_succ, List.getElem_cons_zero, List.setIfInBounds_toArray, List.set_cons_zero, List.set_cons_succ]
      refine wpAnyH_ready (rs := [3]) (by kernel_rfl) (by simp) ?_
      refine AllReadyH.cons rfl (fun K hK => ?_) AllReadyH.nil
      refine wp_store_whole 42 _ _ rfl (w.heap.size + 1 + 1 + 1) zc (opC D A n c B m d) 42 r5 rfl rfl (opC_info _ _ _ _ _ _ _ K1) (by rw [opC_size D A n c B m d K1, hz0]) (opC_one _ _ _ _ _ _ _) ?_
      intro V5 b5 q5
      replace b4 := blk_gb b4 q5 (by omega)
      have hx5 := hx4.trans (below_of_gb q5 (by omega) hx4.size)
      refine hK.out _ _ ⟨⟨blk_gb hHeld.1.b q5 (by omega)⟩, ⟨blk_gb hHeld.2.b q5 (by omega)⟩⟩ (fun hHeld => ?_)
      clear hK K
      try simp only [Act.put, List.getElem_toArray, List.getElem_cons_succ, List.getElem_cons_zero, List.setIfInBounds_toArray, List.set_cons_zero, List.set_cons_succ]
      refine' wpAnyH_take (i := 4) (v := .bool true) rfl (by kernel_rfl) (by kernel_rfl) (by kernel_rfl) (fun _ _ _ h => h) (Or.inl ⟨by rfl, fun w' hw' => by go_simp⟩) hHeld ?_
      try simp only [Act.put, List.getElem_toArray, List.getElem_cons_succ, List.getElem_cons_zero, List.setIfInBounds_toArray, List.set_cons_zero, List.set_cons_succ]
      refine wpAnyH_done (by kernel_rfl) ?_ _
      go_wp2
      refine bodyPost_ret (results_rswap rfl rfl rfl b4 b5 (opC_size _ _ _ _ _ _ _ K2) (opC_size _ _ _ _ _ _ _ K1)) rfl ?_
      exact .inl ⟨HU.out, rfl, hx5⟩

end Go.Proofs.Ytmfngampccpkhaa


/- commute.Swap: two operations in the other order, by the program. -/
import Derived.Test.YtmfngampccpkhaaCm2
import Derived.Deep.DeepCutAuto
set_option linter.unusedSimpArgs false
set_option linter.unusedVariables false
namespace Go.Proofs.Ytmfngampccpkhaa
open Go.RowKit Go.Qc Go.Shelf
attribute [local go_sem] txt_size txt_append ib_fold txt_toL

/-- The place of the second one, swapped; of the first one, swapped. -/
def aE (D E : OpD) : Int := if togB D E = true ∧ ¬ E.a < D.a then E.a - ((D.n.length : Int) - D.o.length) else E.a
def aD (D E : OpD) : Int := if togB D E = true ∧ E.a < D.a then D.a + ((E.n.length : Int) - E.o.length) else D.a
theorem blk_ne {W : World} {a b : Nat} {s t : TypeId} {x y : Array Value} (h : Blk W a s x) (k : Blk W b t y) (hne : s ≠ t) : a ≠ b := by
  rintro rfl
  unfold Blk at h k
  rw [h] at k
  injection k with k
  injection k with _ k
  exact hne k
theorem all3 {x : Int} {u v : Value} (h1 : u.oneCell' = true) (h2 : v.oneCell' = true) : (#[Value.int .i64 x, u, v] : Array Value).all (·.oneCell') = true := by
  have h0 : (Value.int .i64 x).oneCell' = true := rfl
  simp [h0, h1, h2]
theorem opC_info (D : OpD) (A : Option Addr) (n c : Nat) (B : Option Addr) (m d : Nat) (hK : D.K.length = 32) : (Try.prog.info? 42).map (·.size) = some (opC D A n c B m d).size := by rw [opC_size _ _ _ _ _ _ _ hK]; exact infoOp
/-- Two operations' boxes, and the two results. -/
structure SwO (w W : World) (D : OpD) (A : Option Addr) (n c : Nat) (B : Option Addr) (m d : Nat) (E : OpD) (A2 : Option Addr) (n2 c2 : Nat) (B2 : Option Addr) (m2 d2 : Nat) (zc : Array Value) : Prop where
  k : Op2 w W D A n c B m d E A2 n2 c2 B2 m2 d2
  r4 : Blk W (w.heap.size + 1 + 1) 42 zc
  r5 : Blk W (w.heap.size + 1 + 1 + 1) 42 zc
section
variable {w W W' : World} {D : OpD} {A : Option Addr} {n c : Nat} {B : Option Addr} {m d : Nat} {E : OpD} {A2 : Option Addr} {n2 c2 : Nat} {B2 : Option Addr} {m2 d2 : Nat} {zc : Array Value}
theorem SwO.below (h : SwO w W D A n c B m d E A2 n2 c2 B2 m2 d2 zc) (hb : Below W.heap.size W W') : SwO w W' D A n c B m d E A2 n2 c2 B2 m2 d2 zc := ⟨h.k.below hb, h.r4.below hb, h.r5.below hb⟩
theorem SwO.gb (h : SwO w W D A n c B m d E A2 n2 c2 B2 m2 d2 zc) {g : Nat} (hg : W.grownBy W' (some g)) (hn : w.heap.size + 4 ≤ g) : SwO w W' D A n c B m d E A2 n2 c2 B2 m2 d2 zc := ⟨h.k.gb hg (by omega), blk_gb h.r4 hg (by omega), blk_gb h.r5 hg (by omega)⟩
end
theorem SwO.new (w : World) (D : OpD) (A : Option Addr) (n c : Nat) (B : Option Addr) (m d : Nat) (E : OpD) (A2 : Option Addr) (n2 c2 : Nat) (B2 : Option Addr) (m2 d2 : Nat) (zc : Array Value) : SwO w ((((w.alloc (.cells (opC D A n c B m d) 42)).alloc (.cells (opC E A2 n2 c2 B2 m2 d2) 42)).alloc (.cells zc 42)).alloc (.cells zc 42)) D A n c B m d E A2 n2 c2 B2 m2 d2 zc := by
  have h := Op2.new w D A n c B m d E A2 n2 c2 B2 m2 d2
  have h4 := Blk.new ((w.alloc (.cells (opC D A n c B m d) 42)).alloc (.cells (opC E A2 n2 c2 B2 m2 d2) 42)) 42 zc
  have h5 := Blk.new (((w.alloc (.cells (opC D A n c B m d) 42)).alloc (.cells (opC E A2 n2 c2 B2 m2 d2) 42)).alloc (.cells zc 42)) 42 zc
  have e4 : ((w.alloc (.cells (opC D A n c B m d) 42)).alloc (.cells (opC E A2 n2 c2 B2 m2 d2) 42)).heap.size = w.heap.size + 1 + 1 := by simp
  have e5 : (((w.alloc (.cells (opC D A n c B m d) 42)).alloc (.cells (opC E A2 n2 c2 B2 m2 d2) 42)).alloc (.cells zc 42)).heap.size = w.heap.size + 1 + 1 + 1 := by simp
  rw [e4] at h4
  rw [e5] at h5
  exact ⟨(h.below ((Below.refl _ _).alloc (Nat.le_refl _) _)).below ((Below.refl _ _).alloc (Nat.le_refl _) _), h4.alloc _, h5⟩
theorem results_swap {tmps : Array Value} {W : World} {a b : Nat} {v : Bool} {cs ds : Array Value} (h4 : tmps.getD 4 undef = .pointer (some ⟨a, 0, none⟩)) (h5 : tmps.getD 5 undef = .pointer (some ⟨b, 0, none⟩)) (h6 : tmps.getD 6 undef = .bool v)
    (b4 : Blk W a 42 cs) (b5 : Blk W b 42 ds) (s4 : cs.size = 39) (s5 : ds.size = 39) : (results Try.f29 tmps).run Try.prog W = .ok (.tuple #[.agg cs, .agg ds, .bool v]) W := by
  have l4 := run_loadVar_mid (P := Try.prog) W a 0 42 cs.toList _ (fun j u hj => by rw [Nat.zero_add]; exact b4.cell_ (by rw [← Array.getElem?_toList]; exact hj)) Try.underlying42 rfl (by rw [infoOp, Array.length_toList, s4])
  have l5 := run_loadVar_mid (P := Try.prog) W b 0 42 ds.toList _ (fun j u hj => by rw [Nat.zero_add]; exact b5.cell_ (by rw [← Array.getElem?_toList]; exact hj)) Try.underlying42 rfl (by rw [infoOp, Array.length_toList, s5])
  rw [Array.toArray_toList] at l4 l5
  have hf : Try.f29.results = #[.cell 4 42, .cell 5 42, .tmp 6] := by rfl
  rw [Array.getD_eq_getD_getElem?] at h4 h5 h6
  unfold results
  rw [hf]
  simp [Sem.run_bind, h4, h5, h6, asAddr, l4, l5, Result.andThen]

set_option maxRecDepth 100000 in
set_option maxHeartbeats 40000000 in
theorem cswap_no (D : OpD) (A : Option Addr) (n c : Nat) (B : Option Addr) (m d : Nat) (E : OpD) (A2 : Option Addr) (n2 c2 : Nat) (B2 : Option Addr) (m2 d2 : Nat) (w : World) (K1 : D.K.length = 32) (K2 : E.K.length = 32) (cP : ∀ W, Below w.heap.size w W → Calls Try.prog 15 #[.agg (opC D A n c B m d), .agg (opC E A2 n2 c2 B2 m2 d2)] W fun o w' => o = .returned (.bool false) ∧ Below W.heap.size W w') :
    Calls Try.prog 29 #[.agg (opC D A n c B m d), .agg (opC E A2 n2 c2 B2 m2 d2)] w fun e w' => e = .returned (.tuple #[.agg (opC opZ none 0 0 none 0 0), .agg (opC opZ none 0 0 none 0 0), .bool false]) ∧ Below w.heap.size w w' := by
  obtain ⟨zc, hzc, hz0⟩ : ∃ zc : Array Value, Hid (zc = #[.int .i64 0, .string ⟨#[]⟩, .string ⟨#[]⟩, .int .i64 0, .slice none 0 0, .slice none 0 0, .int .u8 0, .int .u8 0, .int .u8 0, .int .u8 0, .int .u8 0, .int .u8 0, .int .u8 0, .int .u8 0, .int .u8 0, .int .u8 0, .int .u8 0, .int .u8 0, .int .u8 0, .int .u8 0, .int .u8 0, .int .u8 0, .int .u8 0, .int .u8 0, .int .u8 0, .int .u8 0, .int .u8 0, .int .u8 0, .int .u8 0, .int .u8 0, .int .u8 0, .int .u8 0, .int .u8 0, .int .u8 0, .int .u8 0, .int .u8 0, .int .u8 0, .int .u8 0, .int .i64 0]) ∧ zc.size = 39 := ⟨_, hid rfl, rfl⟩
  have hh := SwO.new w D A n c B m d E A2 n2 c2 B2 m2 d2 zc
  go_enter Try.func29, Try.ntmps29
  go_upto_region 1 with (fail)
  rw [← hzc.out]
  generalize (((w.alloc (.cells (opC D A n c B m d) 42)).alloc (.cells (opC E A2 n2 c2 B2 m2 d2) 42)).alloc (.cells zc 42)).alloc (.cells zc 42) = W0 at *
  have hiZ := opC_info opZ none 0 0 none 0 0 rfl
  have hsZ : zc.size = (opC opZ none 0 0 none 0 0).size := by rw [opC_size _ _ _ _ _ _ _ (by rfl), hz0]
  have hoZ := opC_one opZ none 0 0 none 0 0
  go_wp2_with (first
    | (with_reducible refine wpList_load_opx (by with_unfolding_all rfl) _ rfl _ rfl hh.k.a K1 ?_)
    | (with_reducible refine wpList_load_opx (by with_unfolding_all rfl) _ rfl _ rfl hh.k.b K2 ?_)
    | (go_at_call 15; (with_reducible refine (cP _ hh.k.x).mono ?_); rintro e1 w1 ⟨rfl, hb⟩; replace hh := hh.below hb; clear hb)
    | (with_reducible refine wpList_build_op0 rfl rfl ?_)
    | ((with_reducible refine wpList_store_blk rfl 42 _ _ rfl (w.heap.size + 1 + 1) zc (opC opZ none 0 0 none 0 0) 42 hh.r4 rfl rfl hiZ hsZ hoZ ?_); intro W4 b4 g4; have r5 := blk_gb hh.r5 g4 (by omega); have hx4 := hh.k.x.trans (below_of_gb g4 (by omega) hh.k.x.size))
    | ((with_reducible refine wpList_store_blk rfl 42 _ _ rfl (w.heap.size + 1 + 1 + 1) zc (opC opZ none 0 0 none 0 0) 42 r5 rfl rfl hiZ hsZ hoZ ?_); intro W5 b5 g5; replace b4 := blk_gb b4 g5 (by omega); have hx5 := hx4.trans (below_of_gb g5 (by omega) hx4.size)))
  refine bodyPost_ret (results_swap rfl rfl rfl b4 b5 (opC_size _ _ _ _ _ _ _ rfl) (opC_size _ _ _ _ _ _ _ rfl)) rfl ?_
  exact ⟨rfl, hx5⟩

set_option maxRecDepth 100000 in
set_option maxHeartbeats 40000000 in
theorem cswap_far (D : OpD) (A : Option Addr) (n c : Nat) (B : Option Addr) (m d : Nat) (E : OpD) (A2 : Option Addr) (n2 c2 : Nat) (B2 : Option Addr) (m2 d2 : Nat) (w : World) (K1 : D.K.length = 32) (K2 : E.K.length = 32) (cP : ∀ W, Below w.heap.size w W → Calls Try.prog 15 #[.agg (opC D A n c B m d), .agg (opC E A2 n2 c2 B2 m2 d2)] W fun o w' => o = .returned (.bool true) ∧ Below W.heap.size W w') (cA : ∀ W, Below w.heap.size w W → Calls Try.prog 43 #[.agg (opC D A n c B m d)] W fun e w' => ∃ A' c' B' d', e = .returned (.agg (opC D A' n c' B' m d')) ∧ w'.ownsRow W.heap.size 9 1 (.slice A' n c') n (D.o.map strV) ∧ w'.ownsRow W.heap.size 9 1 (.slice B' m d') m (D.n.map strV) ∧ Below W.heap.size W w') (cC : ∀ W, Below w.heap.size w W → Calls Try.prog 43 #[.agg (opC E A2 n2 c2 B2 m2 d2)] W fun e w' => ∃ A' c' B' d', e = .returned (.agg (opC E A' n2 c' B' m2 d')) ∧ w'.ownsRow W.heap.size 9 1 (.slice A' n2 c') n2 (E.o.map strV) ∧ w'.ownsRow W.heap.size 9 1 (.slice B' m2 d') m2 (E.n.map strV) ∧ Below W.heap.size W w') (cT : ∀ W, Below w.heap.size w W → Calls Try.prog 23 #[.agg (opC D A n c B m d), .agg (opC E A2 n2 c2 B2 m2 d2)] W fun o w' => o = .returned (.bool false) ∧ Below W.heap.size W w') :
    Calls Try.prog 29 #[.agg (opC D A n c B m d), .agg (opC E A2 n2 c2 B2 m2 d2)] w fun e w' => ∃ A5 c5 B5 d5 A6 c6 B6 d6, e = .returned (.tuple #[.agg (opC E A5 n2 c5 B5 m2 d5), .agg (opC D A6 n c6 B6 m d6), .bool true]) ∧ w'.ownsRow w.heap.size 9 1 (.slice A5 n2 c5) n2 (E.o.map strV) ∧ w'.ownsRow w.heap.size 9 1 (.slice B5 m2 d5) m2 (E.n.map strV) ∧ w'.ownsRow w.heap.size 9 1 (.slice A6 n c6) n (D.o.map strV) ∧ w'.ownsRow w.heap.size 9 1 (.slice B6 m d6) m (D.n.map strV) ∧ Below w.heap.size w w' := by
  obtain ⟨zc, hzc, hz0⟩ : ∃ zc : Array Value, Hid (zc = #[.int .i64 0, .string ⟨#[]⟩, .string ⟨#[]⟩, .int .i64 0, .slice none 0 0, .slice none 0 0, .int .u8 0, .int .u8 0, .int .u8 0, .int .u8 0, .int .u8 0, .int .u8 0, .int .u8 0, .int .u8 0, .int .u8 0, .int .u8 0, .int .u8 0, .int .u8 0, .int .u8 0, .int .u8 0, .int .u8 0, .int .u8 0, .int .u8 0, .int .u8 0, .int .u8 0, .int .u8 0, .int .u8 0, .int .u8 0, .int .u8 0, .int .u8 0, .int .u8 0, .int .u8 0, .int .u8 0, .int .u8 0, .int .u8 0, .int .u8 0, .int .u8 0, .int .u8 0, .int .i64 0]) ∧ zc.size = 39 := ⟨_, hid rfl, rfl⟩
  have hh := SwO.new w D A n c B m d E A2 n2 c2 B2 m2 d2 zc
  go_enter Try.func29, Try.ntmps29
  go_upto_region 1 with (fail)
  rw [← hzc.out]
  generalize (((w.alloc (.cells (opC D A n c B m d) 42)).alloc (.cells (opC E A2 n2 c2 B2 m2 d2) 42)).alloc (.cells zc 42)).alloc (.cells zc 42) = W0 at *
  go_wp2_with (first
    | (with_reducible refine wpList_load_opx (by with_unfolding_all rfl) _ rfl _ rfl hh.k.a K1 ?_)
    | (with_reducible refine wpList_load_opx (by with_unfolding_all rfl) _ rfl _ rfl hh.k.b K2 ?_)
    | (go_at_call 15; (with_reducible refine (cP _ hh.k.x).mono ?_); rintro e1 w1 ⟨rfl, hb⟩; replace hh := hh.below hb; clear hb))
  refine Code.wp_mono (Q := fun x a' W => x = .normal ∧ ∃ g7 g8 A5 c5 B5 d5 A6 c6 B6 d6, a' = { tmps := #[.agg (opC D A n c B m d), .agg (opC E A2 n2 c2 B2 m2 d2), .pointer (some ⟨w.heap.size, 0, none⟩), .pointer (some ⟨w.heap.size + 1, 0, none⟩), .pointer (some ⟨w.heap.size + 1 + 1, 0, none⟩), .pointer (some ⟨w.heap.size + 1 + 1 + 1, 0, none⟩), .bool false, .pointer (some ⟨g7, 0, none⟩), .pointer (some ⟨g8, 0, none⟩), undef, undef, undef, .agg (opC D A n c B m d), .agg (opC E A2 n2 c2 B2 m2 d2), .bool true, .bool false, undef, undef, .agg (opC E A2 n2 c2 B2 m2 d2), .agg (opC E A5 n2 c5 B5 m2 d5), .agg (opC D A n c B m d), .agg (opC D A6 n c6 B6 m d6), undef, undef, undef, undef, undef, undef, undef, undef, undef, undef, undef, undef, undef, undef, undef, undef, undef, undef, undef, undef], defers := [] } ∧ SwO w W D A n c B m d E A2 n2 c2 B2 m2 d2 zc ∧ Blk W g7 42 (opC E A5 n2 c5 B5 m2 d5) ∧ Blk W g8 42 (opC D A6 n c6 B6 m d6) ∧ w.heap.size + 4 ≤ g7 ∧ w.heap.size + 4 ≤ g8 ∧ g8 ≠ g7 ∧ W.ownsRow w.heap.size 9 1 (.slice A5 n2 c5) n2 (E.o.map strV) ∧ W.ownsRow w.heap.size 9 1 (.slice B5 m2 d5) m2 (E.n.map strV) ∧ W.ownsRow w.heap.size 9 1 (.slice A6 n c6) n (D.o.map strV) ∧ W.ownsRow w.heap.size 9 1 (.slice B6 m d6) m (D.n.map strV)) ?cont ?reg
  case reg =>
    refine wp_region_held_drew (S := fun W => SwO w W D A n c B m d E A2 n2 c2 B2 m2 d2 zc) (by kernel_rfl) (hh.below (below_drew10 _)) (fun hHeld => ?_)
    generalize World.drew _ = W1 at *
    clear hh
    have fin : ∀ (g7 g8 : Nat) (A5 : Option Addr) (c5 : Nat) (B5 : Option Addr) (d5 : Nat) (A6 : Option Addr) (c6 : Nat) (B6 : Option Addr) (d6 : Nat) (W : World), SwO w W D A n c B m d E A2 n2 c2 B2 m2 d2 zc → Blk W g7 42 (opC E A5 n2 c5 B5 m2 d5) → Blk W g8 42 (opC D A6 n c6 B6 m d6) → w.heap.size + 4 ≤ g7 → w.heap.size + 4 ≤ g8 → g8 ≠ g7 → W.ownsRow w.heap.size 9 1 (.slice A5 n2 c5) n2 (E.o.map strV) → W.ownsRow w.heap.size 9 1 (.slice B5 m2 d5) m2 (E.n.map strV) → W.ownsRow w.heap.size 9 1 (.slice A6 n c6) n (D.o.map strV) → W.ownsRow w.heap.size 9 1 (.slice B6 m d6) m (D.n.map strV) → (fun x a' W => x = .normal ∧ ∃ g7 g8 A5 c5 B5 d5 A6 c6 B6 d6, a' = { tmps := #[.agg (opC D A n c B m d), .agg (opC E A2 n2 c2 B2 m2 d2), .pointer (some ⟨w.heap.size, 0, none⟩), .pointer (some ⟨w.heap.size + 1, 0, none⟩), .pointer (some ⟨w.heap.size + 1 + 1, 0, none⟩), .pointer (some ⟨w.heap.size + 1 + 1 + 1, 0, none⟩), .bool false, .pointer (some ⟨g7, 0, none⟩), .pointer (some ⟨g8, 0, none⟩), undef, undef, undef, .agg (opC D A n c B m d), .agg (opC E A2 n2 c2 B2 m2 d2), .bool true, .bool false, undef, undef, .agg (opC E A2 n2 c2 B2 m2 d2), .agg (opC E A5 n2 c5 B5 m2 d5), .agg (opC D A n c B m d), .agg (opC D A6 n c6 B6 m d6), undef, undef, undef, undef, undef, undef, undef, undef, undef, undef, undef, undef, undef, undef, undef, undef, undef, undef, undef, undef], defers := [] } ∧ SwO w W D A n c B m d E A2 n2 c2 B2 m2 d2 zc ∧ Blk W g7 42 (opC E A5 n2 c5 B5 m2 d5) ∧ Blk W g8 42 (opC D A6 n c6 B6 m d6) ∧ w.heap.size + 4 ≤ g7 ∧ w.heap.size + 4 ≤ g8 ∧ g8 ≠ g7 ∧ W.ownsRow w.heap.size 9 1 (.slice A5 n2 c5) n2 (E.o.map strV) ∧ W.ownsRow w.heap.size 9 1 (.slice B5 m2 d5) m2 (E.n.map strV) ∧ W.ownsRow w.heap.size 9 1 (.slice A6 n c6) n (D.o.map strV) ∧ W.ownsRow w.heap.size 9 1 (.slice B6 m d6) m (D.n.map strV) : Exit → Act → World → Prop) Exit.normal ({ tmps := #[.agg (opC D A n c B m d), .agg (opC E A2 n2 c2 B2 m2 d2), .pointer (some ⟨w.heap.size, 0, none⟩), .pointer (some ⟨w.heap.size + 1, 0, none⟩), .pointer (some ⟨w.heap.size + 1 + 1, 0, none⟩), .pointer (some ⟨w.heap.size + 1 + 1 + 1, 0, none⟩), .bool false, .pointer (some ⟨g7, 0, none⟩), .pointer (some ⟨g8, 0, none⟩), undef, undef, undef, .agg (opC D A n c B m d), .agg (opC E A2 n2 c2 B2 m2 d2), .bool true, .bool false, undef, undef, .agg (opC E A2 n2 c2 B2 m2 d2), .agg (opC E A5 n2 c5 B5 m2 d5), .agg (opC D A n c B m d), .agg (opC D A6 n c6 B6 m d6), undef, undef, undef, undef, undef, undef, undef, undef, undef, undef, undef, undef, undef, undef, undef, undef, undef, undef, undef, undef], defers := [] } : Act) W := fun g7 g8 A5 c5 B5 d5 A6 c6 B6 d6 W h1 h2 h3 h4 h5 h6 h7 h8 h9 h10 => ⟨rfl, g7, g8, A5, c5, B5, d5, A6, c6, B6, d6, rfl, h1, h2, h3, h4, h5, h6, h7, h8, h9, h10⟩
    refine' wpAnyH_take (i := 0) (v := .agg (opC E A2 n2 c2 B2 m2 d2)) rfl (by kernel_rfl) (by kernel_rfl) (by kernel_rfl) (fun _ _ _ h => nomatch h.1) (yields_opx (by rfl) _ rfl _ rfl (fun w' h => h.k.b) K2) hHeld ?_
    try simp only [Act.put, List.getElem_toArray, List.getElem_cons_succ, List.getElem_cons_zero, List.setIfInBounds_toArray, List.set_cons_zero, List.set_cons_succ]
    refine' wpAnyH_take (i := 2) (v := .agg (opC D A n c B m d)) rfl (by kernel_rfl) (by kernel_rfl) (by kernel_rfl) (fun _ _ _ h => nomatch h.1) (yields_opx (by rfl) _ rfl _ rfl (fun w' h => h.k.a) K1) hHeld ?_
    try simp only [Act.put, List.getElem_toArray, List.getElem_cons_succ, List.getElem_cons_zero, List.setIfInBounds_toArray, List.set_cons_zero, List.set_cons_succ]
    refine wpAnyH_ready (rs := [1, 4, 5]) (by kernel_rfl) (by simp) ?_
    refine AllReadyH.cons rfl (fun K hK => ?_) (AllReadyH.cons rfl (fun K hK => ?_) (AllReadyH.cons rfl (fun K hK => ?_) AllReadyH.nil))
    · as_aux_lemma =>
        go_simp
        (with_reducible refine (cC _ hHeld.k.x).mono ?_)
        rintro e9 W1x ⟨A5, c5, B5, d5, rfl, o1, o2, hb⟩
        replace o1 := own_le o1 hHeld.k.x.size
        replace o2 := own_le o2 hHeld.k.x.size
        refine hK.out _ _ (hHeld.below hb) (fun hHeld => ?_)
        clear hK K hb
        try simp only [Act.put, List.getElem_toArray, List.getElem_cons_succ, List.getElem_cons_zero, List.setIfInBounds_toArray, List.set_cons_zero, List.set_cons_succ]
        refine wpAnyH_ready (rs := [3, 4, 5]) (by kernel_rfl) (by simp) ?_
        refine AllReadyH.cons rfl (fun K hK => ?_) (AllReadyH.cons rfl (fun K hK => ?_) (AllReadyH.cons rfl (fun K hK => ?_) AllReadyH.nil))
        · as_aux_lemma =>
            go_simp
            (with_reducible refine (cA _ hHeld.k.x).mono ?_)
            rintro e9 W1xx ⟨A6, c6, B6, d6, rfl, o3, o4, hb⟩
            replace o3 := own_le o3 hHeld.k.x.size
            replace o4 := own_le o4 hHeld.k.x.size
            replace o1 := own_below o1 hb
            replace o2 := own_below o2 hb
            refine hK.out _ _ (hHeld.below hb) (fun hHeld => ?_)
            clear hK K hb
            try simp only [Act.put, List.getElem_toArray, List.getElem_cons_succ, List.getElem_cons_zero, List.setIfInBounds_toArray, List.set_cons_zero, List.set_cons_succ]
            refine wpAnyH_ready (rs := [4, 5]) (by kernel_rfl) (by simp) ?_
            refine AllReadyH.cons rfl (fun K hK => ?_) (AllReadyH.cons rfl (fun K hK => ?_) AllReadyH.nil)
            · as_aux_lemma =>
                go_simp
                rw [← hzc.out]
                have hb : Below W1xx.heap.size W1xx (W1xx.alloc (.cells zc 42)) := (Below.refl _ _).alloc (Nat.le_refl _) _
                have z7 := Blk.new W1xx 42 zc
                have n7 : w.heap.size + 4 ≤ W1xx.heap.size := by have := hHeld.r5.lt; omega
                replace o1 := own_below o1 hb
                replace o2 := own_below o2 hb
                replace o3 := own_below o3 hb
                replace o4 := own_below o4 hb
                refine hK.out _ _ (hHeld.below hb) (fun hHeld => ?_)
                clear hK K hb
                generalize W1xx.alloc (.cells zc 42) = W1xxx at *
                generalize W1xx.heap.size = g7 at *
                try simp only [Act.put, List.getElem_toArray, List.getElem_cons_succ, List.getElem_cons_zero, List.setIfInBounds_toArray, List.set_cons_zero, List.set_cons_succ]
                refine wpAnyH_ready (rs := [5]) (by kernel_rfl) (by simp) ?_
                refine AllReadyH.cons rfl (fun K hK => ?_) AllReadyH.nil
                go_simp
                rw [← hzc.out]
                have hb : Below W1xxx.heap.size W1xxx (W1xxx.alloc (.cells zc 42)) := (Below.refl _ _).alloc (Nat.le_refl _) _
                have z8 := Blk.new W1xxx 42 zc
                have n8 : w.heap.size + 4 ≤ W1xxx.heap.size := by have := hHeld.r5.lt; omega
                have ne : W1xxx.heap.size ≠ g7 := by have := z7.lt; omega
                replace o1 := own_below o1 hb
                replace o2 := own_below o2 hb
                replace o3 := own_below o3 hb
                replace o4 := own_below o4 hb
                replace z7 := z7.below hb
                refine hK.out _ _ (hHeld.below hb) (fun hHeld => ?_)
                clear hK K hb
                generalize W1xxx.alloc (.cells zc 42) = W1xxxx at *
                generalize W1xxx.heap.size = g8 at *
                try simp only [Act.put, List.getElem_toArray, List.getElem_cons_succ, List.getElem_cons_zero, List.setIfInBounds_toArray, List.set_cons_zero, List.set_cons_succ]
                refine wpAnyH_ready (rs := [6]) (by kernel_rfl) (by simp) ?_
                refine AllReadyH.cons rfl (fun K hK => ?_) AllReadyH.nil
                refine wp_store_whole 42 _ _ rfl g7 zc (opC E A5 n2 c5 B5 m2 d5) 42 z7 rfl rfl (opC_info _ _ _ _ _ _ _ K2) (by rw [opC_size _ _ _ _ _ _ _ K2, hz0]) (opC_one _ _ _ _ _ _ _) ?_
                intro W1xxxxx hb hg
                replace o1 := o1.kept hg (.inr (Lib.ownBlock_ne o1 z7 (by decide)))
                replace o2 := o2.kept hg (.inr (Lib.ownBlock_ne o2 z7 (by decide)))
                replace o3 := o3.kept hg (.inr (Lib.ownBlock_ne o3 z7 (by decide)))
                replace o4 := o4.kept hg (.inr (Lib.ownBlock_ne o4 z7 (by decide)))
                replace z8 := blk_gb z8 hg (by omega)
                refine hK.out _ _ (hHeld.gb hg (by omega)) (fun hHeld => ?_)
                clear hK K hg
                replace z7 := hb
                clear hb
                try simp only [Act.put, List.getElem_toArray, List.getElem_cons_succ, List.getElem_cons_zero, List.setIfInBounds_toArray, List.set_cons_zero, List.set_cons_succ]
                refine wpAnyH_ready (rs := [7]) (by kernel_rfl) (by simp) ?_
                refine AllReadyH.cons rfl (fun K hK => ?_) AllReadyH.nil
                refine wp_store_whole 42 _ _ rfl g8 zc (opC D A6 n c6 B6 m d6) 42 z8 rfl rfl (opC_info _ _ _ _ _ _ _ K1) (by rw [opC_size _ _ _ _ _ _ _ K1, hz0]) (opC_one _ _ _ _ _ _ _) ?_
                intro W1xxxxxx hb hg
                replace o1 := o1.kept hg (.inr (Lib.ownBlock_ne o1 z8 (by decide)))
                replace o2 := o2.kept hg (.inr (Lib.ownBlock_ne o2 z8 (by decide)))
                replace o3 := o3.kept hg (.inr (Lib.ownBlock_ne o3 z8 (by decide)))
                replace o4 := o4.kept hg (.inr (Lib.ownBlock_ne o4 z8 (by decide)))
                replace z7 := blk_gb z7 hg (by omega)
                refine hK.out _ _ (hHeld.gb hg (by omega)) (fun hHeld => ?_)
                clear hK K hg
                replace z8 := hb
                clear hb
                try simp only [Act.put, List.getElem_toArray, List.getElem_cons_succ, List.getElem_cons_zero, List.setIfInBounds_toArray, List.set_cons_zero, List.set_cons_succ]
                refine wpAnyH_done (by kernel_rfl) ?_ _
                exact fin _ _ _ _ _ _ _ _ _ _ _ hHeld z7 z8 n7 n8 ne o1 o2 o3 o4
            · as_aux_lemma =>
                go_simp
                rw [← hzc.out]
                have hb : Below W1xx.heap.size W1xx (W1xx.alloc (.cells zc 42)) := (Below.refl _ _).alloc (Nat.le_refl _) _
                have z8 := Blk.new W1xx 42 zc
                have n8 : w.heap.size + 4 ≤ W1xx.heap.size := by have := hHeld.r5.lt; omega
                replace o1 := own_below o1 hb
                replace o2 := own_below o2 hb
                replace o3 := own_below o3 hb
                replace o4 := own_below o4 hb
                refine hK.out _ _ (hHeld.below hb) (fun hHeld => ?_)
                clear hK K hb
                generalize W1xx.alloc (.cells zc 42) = W1xxx at *
                generalize W1xx.heap.size = g8 at *
                try simp only [Act.put, List.getElem_toArray, List.getElem_cons_succ, List.getElem_cons_zero, List.setIfInBounds_toArray, List.set_cons_zero, List.set_cons_succ]
                refine wpAnyH_ready (rs := [4]) (by kernel_rfl) (by simp) ?_
                refine AllReadyH.cons rfl (fun K hK => ?_) AllReadyH.nil
                go_simp
                rw [← hzc.out]
                have hb : Below W1xxx.heap.size W1xxx (W1xxx.alloc (.cells zc 42)) := (Below.refl _ _).alloc (Nat.le_refl _) _
                have z7 := Blk.new W1xxx 42 zc
                have n7 : w.heap.size + 4 ≤ W1xxx.heap.size := by have := hHeld.r5.lt; omega
                have ne : g8 ≠ W1xxx.heap.size := by have := z8.lt; omega
                replace o1 := own_below o1 hb
                replace o2 := own_below o2 hb
                replace o3 := own_below o3 hb
                replace o4 := own_below o4 hb
                replace z8 := z8.below hb
                refine hK.out _ _ (hHeld.below hb) (fun hHeld => ?_)
                clear hK K hb
                generalize W1xxx.alloc (.cells zc 42) = W1xxxx at *
                generalize W1xxx.heap.size = g7 at *
                try simp only [Act.put, List.getElem_toArray, List.getElem_cons_succ, List.getElem_cons_zero, List.setIfInBounds_toArray, List.set_cons_zero, List.set_cons_succ]
                refine wpAnyH_ready (rs := [6]) (by kernel_rfl) (by simp) ?_
                refine AllReadyH.cons rfl (fun K hK => ?_) AllReadyH.nil
                refine wp_store_whole 42 _ _ rfl g7 zc (opC E A5 n2 c5 B5 m2 d5) 42 z7 rfl rfl (opC_info _ _ _ _ _ _ _ K2) (by rw [opC_size _ _ _ _ _ _ _ K2, hz0]) (opC_one _ _ _ _ _ _ _) ?_
                intro W1xxxxx hb hg
                replace o1 := o1.kept hg (.inr (Lib.ownBlock_ne o1 z7 (by decide)))
                replace o2 := o2.kept hg (.inr (Lib.ownBlock_ne o2 z7 (by decide)))
                replace o3 := o3.kept hg (.inr (Lib.ownBlock_ne o3 z7 (by decide)))
                replace o4 := o4.kept hg (.inr (Lib.ownBlock_ne o4 z7 (by decide)))
                replace z8 := blk_gb z8 hg (by omega)
                refine hK.out _ _ (hHeld.gb hg (by omega)) (fun hHeld => ?_)
                clear hK K hg
                replace z7 := hb
                clear hb
                try simp only [Act.put, List.getElem_toArray, List.getElem_cons_succ, List.getElem_cons_zero, List.setIfInBounds_toArray, List.set_cons_zero, List.set_cons_succ]
                refine wpAnyH_ready (rs := [7]) (by kernel_rfl) (by simp) ?_
                refine AllReadyH.cons rfl (fun K hK => ?_) AllReadyH.nil
                refine wp_store_whole 42 _ _ rfl g8 zc (opC D A6 n c6 B6 m d6) 42 z8 rfl rfl (opC_info _ _ _ _ _ _ _ K1) (by rw [opC_size _ _ _ _ _ _ _ K1, hz0]) (opC_one _ _ _ _ _ _ _) ?_
                intro W1xxxxxx hb hg
                replace o1 := o1.kept hg (.inr (Lib.ownBlock_ne o1 z8 (by decide)))
                replace o2 := o2.kept hg (.inr (Lib.ownBlock_ne o2 z8 (by decide)))
                replace o3 := o3.kept hg (.inr (Lib.ownBlock_ne o3 z8 (by decide)))
                replace o4 := o4.kept hg (.inr (Lib.ownBlock_ne o4 z8 (by decide)))
                replace z7 := blk_gb z7 hg (by omega)
                refine hK.out _ _ (hHeld.gb hg (by omega)) (fun hHeld => ?_)
                clear hK K hg
                replace z8 := hb
                clear hb
                try simp only [Act.put, List.getElem_toArray, List.getElem_cons_succ, List.getElem_cons_zero, List.setIfInBounds_toArray, List.set_cons_zero, List.set_cons_succ]
                refine wpAnyH_done (by kernel_rfl) ?_ _
                exact fin _ _ _ _ _ _ _ _ _ _ _ hHeld z7 z8 n7 n8 ne o1 o2 o3 o4
        · as_aux_lemma =>
            go_simp
            rw [← hzc.out]
            have hb : Below W1x.heap.size W1x (W1x.alloc (.cells zc 42)) := (Below.refl _ _).alloc (Nat.le_refl _) _
            have z7 := Blk.new W1x 42 zc
            have n7 : w.heap.size + 4 ≤ W1x.heap.size := by have := hHeld.r5.lt; omega
            replace o1 := own_below o1 hb
            replace o2 := own_below o2 hb
            refine hK.out _ _ (hHeld.below hb) (fun hHeld => ?_)
            clear hK K hb
            generalize W1x.alloc (.cells zc 42) = W1xx at *
            generalize W1x.heap.size = g7 at *
            try simp only [Act.put, List.getElem_toArray, List.getElem_cons_succ, List.getElem_cons_zero, List.setIfInBounds_toArray, List.set_cons_zero, List.set_cons_succ]
            refine wpAnyH_ready (rs := [3, 5]) (by kernel_rfl) (by simp) ?_
            refine AllReadyH.cons rfl (fun K hK => ?_) (AllReadyH.cons rfl (fun K hK => ?_) AllReadyH.nil)
            · as_aux_lemma =>
                go_simp
                (with_reducible refine (cA _ hHeld.k.x).mono ?_)
                rintro e9 W1xxx ⟨A6, c6, B6, d6, rfl, o3, o4, hb⟩
                replace o3 := own_le o3 hHeld.k.x.size
                replace o4 := own_le o4 hHeld.k.x.size
                replace o1 := own_below o1 hb
                replace o2 := own_below o2 hb
                replace z7 := z7.below hb
                refine hK.out _ _ (hHeld.below hb) (fun hHeld => ?_)
                clear hK K hb
                try simp only [Act.put, List.getElem_toArray, List.getElem_cons_succ, List.getElem_cons_zero, List.setIfInBounds_toArray, List.set_cons_zero, List.set_cons_succ]
                refine wpAnyH_ready (rs := [5]) (by kernel_rfl) (by simp) ?_
                refine AllReadyH.cons rfl (fun K hK => ?_) AllReadyH.nil
                go_simp
                rw [← hzc.out]
                have hb : Below W1xxx.heap.size W1xxx (W1xxx.alloc (.cells zc 42)) := (Below.refl _ _).alloc (Nat.le_refl _) _
                have z8 := Blk.new W1xxx 42 zc
                have n8 : w.heap.size + 4 ≤ W1xxx.heap.size := by have := hHeld.r5.lt; omega
                have ne : W1xxx.heap.size ≠ g7 := by have := z7.lt; omega
                replace o1 := own_below o1 hb
                replace o2 := own_below o2 hb
                replace o3 := own_below o3 hb
                replace o4 := own_below o4 hb
                replace z7 := z7.below hb
                refine hK.out _ _ (hHeld.below hb) (fun hHeld => ?_)
                clear hK K hb
                generalize W1xxx.alloc (.cells zc 42) = W1xxxx at *
                generalize W1xxx.heap.size = g8 at *
                try simp only [Act.put, List.getElem_toArray, List.getElem_cons_succ, List.getElem_cons_zero, List.setIfInBounds_toArray, List.set_cons_zero, List.set_cons_succ]
                refine wpAnyH_ready (rs := [6]) (by kernel_rfl) (by simp) ?_
                refine AllReadyH.cons rfl (fun K hK => ?_) AllReadyH.nil
                refine wp_store_whole 42 _ _ rfl g7 zc (opC E A5 n2 c5 B5 m2 d5) 42 z7 rfl rfl (opC_info _ _ _ _ _ _ _ K2) (by rw [opC_size _ _ _ _ _ _ _ K2, hz0]) (opC_one _ _ _ _ _ _ _) ?_
                intro W1xxxxx hb hg
                replace o1 := o1.kept hg (.inr (Lib.ownBlock_ne o1 z7 (by decide)))
                replace o2 := o2.kept hg (.inr (Lib.ownBlock_ne o2 z7 (by decide)))
                replace o3 := o3.kept hg (.inr (Lib.ownBlock_ne o3 z7 (by decide)))
                replace o4 := o4.kept hg (.inr (Lib.ownBlock_ne o4 z7 (by decide)))
                replace z8 := blk_gb z8 hg (by omega)
                refine hK.out _ _ (hHeld.gb hg (by omega)) (fun hHeld => ?_)
                clear hK K hg
                replace z7 := hb
                clear hb
                try simp only [Act.put, List.getElem_toArray, List.getElem_cons_succ, List.getElem_cons_zero, List.setIfInBounds_toArray, List.set_cons_zero, List.set_cons_succ]
                refine wpAnyH_ready (rs := [7]) (by kernel_rfl) (by simp) ?_
                refine AllReadyH.cons rfl (fun K hK => ?_) AllReadyH.nil
                refine wp_store_whole 42 _ _ rfl g8 zc (opC D A6 n c6 B6 m d6) 42 z8 rfl rfl (opC_info _ _ _ _ _ _ _ K1) (by rw [opC_size _ _ _ _ _ _ _ K1, hz0]) (opC_one _ _ _ _ _ _ _) ?_
                intro W1xxxxxx hb hg
                replace o1 := o1.kept hg (.inr (Lib.ownBlock_ne o1 z8 (by decide)))
                replace o2 := o2.kept hg (.inr (Lib.ownBlock_ne o2 z8 (by decide)))
                replace o3 := o3.kept hg (.inr (Lib.ownBlock_ne o3 z8 (by decide)))
                replace o4 := o4.kept hg (.inr (Lib.ownBlock_ne o4 z8 (by decide)))
                replace z7 := blk_gb z7 hg (by omega)
                refine hK.out _ _ (hHeld.gb hg (by omega)) (fun hHeld => ?_)
                clear hK K hg
                replace z8 := hb
                clear hb
                try simp only [Act.put, List.getElem_toArray, List.getElem_cons_succ, List.getElem_cons_zero, List.setIfInBounds_toArray, List.set_cons_zero, List.set_cons_succ]
                refine wpAnyH_done (by kernel_rfl) ?_ _
                exact fin _ _ _ _ _ _ _ _ _ _ _ hHeld z7 z8 n7 n8 ne o1 o2 o3 o4
            · as_aux_lemma =>
                go_simp
                rw [← hzc.out]
                have hb : Below W1xx.heap.size W1xx (W1xx.alloc (.cells zc 42)) := (Below.refl _ _).alloc (Nat.le_refl _) _
                have z8 := Blk.new W1xx 42 zc
                have n8 : w.heap.size + 4 ≤ W1xx.heap.size := by have := hHeld.r5.lt; omega
                have ne : W1xx.heap.size ≠ g7 := by have := z7.lt; omega
                replace o1 := own_below o1 hb
                replace o2 := own_below o2 hb
                replace z7 := z7.below hb
                refine hK.out _ _ (hHeld.below hb) (fun hHeld => ?_)
                clear hK K hb
                generalize W1xx.alloc (.cells zc 42) = W1xxx at *
                generalize W1xx.heap.size = g8 at *
                try simp only [Act.put, List.getElem_toArray, List.getElem_cons_succ, List.getElem_cons_zero, List.setIfInBounds_toArray, List.set_cons_zero, List.set_cons_succ]
                refine wpAnyH_ready (rs := [3]) (by kernel_rfl) (by simp) ?_
                refine AllReadyH.cons rfl (fun K hK => ?_) AllReadyH.nil
                go_simp
                (with_reducible refine (cA _ hHeld.k.x).mono ?_)
                rintro e9 W1xxxx ⟨A6, c6, B6, d6, rfl, o3, o4, hb⟩
                replace o3 := own_le o3 hHeld.k.x.size
                replace o4 := own_le o4 hHeld.k.x.size
                replace o1 := own_below o1 hb
                replace o2 := own_below o2 hb
                replace z7 := z7.below hb
                replace z8 := z8.below hb
                refine hK.out _ _ (hHeld.below hb) (fun hHeld => ?_)
                clear hK K hb
                try simp only [Act.put, List.getElem_toArray, List.getElem_cons_succ, List.getElem_cons_zero, List.setIfInBounds_toArray, List.set_cons_zero, List.set_cons_succ]
                refine wpAnyH_ready (rs := [6]) (by kernel_rfl) (by simp) ?_
                refine AllReadyH.cons rfl (fun K hK => ?_) AllReadyH.nil
                refine wp_store_whole 42 _ _ rfl g7 zc (opC E A5 n2 c5 B5 m2 d5) 42 z7 rfl rfl (opC_info _ _ _ _ _ _ _ K2) (by rw [opC_size _ _ _ _ _ _ _ K2, hz0]) (opC_one _ _ _ _ _ _ _) ?_
                intro W1xxxxx hb hg
                replace o1 := o1.kept hg (.inr (Lib.ownBlock_ne o1 z7 (by decide)))
                replace o2 := o2.kept hg (.inr (Lib.ownBlock_ne o2 z7 (by decide)))
                replace o3 := o3.kept hg (.inr (Lib.ownBlock_ne o3 z7 (by decide)))
                replace o4 := o4.kept hg (.inr (Lib.ownBlock_ne o4 z7 (by decide)))
                replace z8 := blk_gb z8 hg (by omega)
                refine hK.out _ _ (hHeld.gb hg (by omega)) (fun hHeld => ?_)
                clear hK K hg
                replace z7 := hb
                clear hb
                try simp only [Act.put, List.getElem_toArray, List.getElem_cons_succ, List.getElem_cons_zero, List.setIfInBounds_toArray, List.set_cons_zero, List.set_cons_succ]
                refine wpAnyH_ready (rs := [7]) (by kernel_rfl) (by simp) ?_
                refine AllReadyH.cons rfl (fun K hK => ?_) AllReadyH.nil
                refine wp_store_whole 42 _ _ rfl g8 zc (opC D A6 n c6 B6 m d6) 42 z8 rfl rfl (opC_info _ _ _ _ _ _ _ K1) (by rw [opC_size _ _ _ _ _ _ _ K1, hz0]) (opC_one _ _ _ _ _ _ _) ?_
                intro W1xxxxxx hb hg
                replace o1 := o1.kept hg (.inr (Lib.ownBlock_ne o1 z8 (by decide)))
                replace o2 := o2.kept hg (.inr (Lib.ownBlock_ne o2 z8 (by decide)))
                replace o3 := o3.kept hg (.inr (Lib.ownBlock_ne o3 z8 (by decide)))
                replace o4 := o4.kept hg (.inr (Lib.ownBlock_ne o4 z8 (by decide)))
                replace z7 := blk_gb z7 hg (by omega)
                refine hK.out _ _ (hHeld.gb hg (by omega)) (fun hHeld => ?_)
                clear hK K hg
                replace z8 := hb
                clear hb
                try simp only [Act.put, List.getElem_toArray, List.getElem_cons_succ, List.getElem_cons_zero, List.setIfInBounds_toArray, List.set_cons_zero, List.set_cons_succ]
                refine wpAnyH_done (by kernel_rfl) ?_ _
                exact fin _ _ _ _ _ _ _ _ _ _ _ hHeld z7 z8 n7 n8 ne o1 o2 o3 o4
        · as_aux_lemma =>
            go_simp
            rw [← hzc.out]
            have hb : Below W1x.heap.size W1x (W1x.alloc (.cells zc 42)) := (Below.refl _ _).alloc (Nat.le_refl _) _
            have z8 := Blk.new W1x 42 zc
            have n8 : w.heap.size + 4 ≤ W1x.heap.size := by have := hHeld.r5.lt; omega
            replace o1 := own_below o1 hb
            replace o2 := own_below o2 hb
            refine hK.out _ _ (hHeld.below hb) (fun hHeld => ?_)
            clear hK K hb
            generalize W1x.alloc (.cells zc 42) = W1xx at *
            generalize W1x.heap.size = g8 at *
            try simp only [Act.put, List.getElem_toArray, List.getElem_cons_succ, List.getElem_cons_zero, List.setIfInBounds_toArray, List.set_cons_zero, List.set_cons_succ]
            refine wpAnyH_ready (rs := [3, 4]) (by kernel_rfl) (by simp) ?_
            refine AllReadyH.cons rfl (fun K hK => ?_) (AllReadyH.cons rfl (fun K hK => ?_) AllReadyH.nil)
            · as_aux_lemma =>
                go_simp
                (with_reducible refine (cA _ hHeld.k.x).mono ?_)
                rintro e9 W1xxx ⟨A6, c6, B6, d6, rfl, o3, o4, hb⟩
                replace o3 := own_le o3 hHeld.k.x.size
                replace o4 := own_le o4 hHeld.k.x.size
                replace o1 := own_below o1 hb
                replace o2 := own_below o2 hb
                replace z8 := z8.below hb
                refine hK.out _ _ (hHeld.below hb) (fun hHeld => ?_)
                clear hK K hb
                try simp only [Act.put, List.getElem_toArray, List.getElem_cons_succ, List.getElem_cons_zero, List.setIfInBounds_toArray, List.set_cons_zero, List.set_cons_succ]
                refine wpAnyH_ready (rs := [4]) (by kernel_rfl) (by simp) ?_
                refine AllReadyH.cons rfl (fun K hK => ?_) AllReadyH.nil
                go_simp
                rw [← hzc.out]
                have hb : Below W1xxx.heap.size W1xxx (W1xxx.alloc (.cells zc 42)) := (Below.refl _ _).alloc (Nat.le_refl _) _
                have z7 := Blk.new W1xxx 42 zc
                have n7 : w.heap.size + 4 ≤ W1xxx.heap.size := by have := hHeld.r5.lt; omega
                have ne : g8 ≠ W1xxx.heap.size := by have := z8.lt; omega
                replace o1 := own_below o1 hb
                replace o2 := own_below o2 hb
                replace o3 := own_below o3 hb
                replace o4 := own_below o4 hb
                replace z8 := z8.below hb
                refine hK.out _ _ (hHeld.below hb) (fun hHeld => ?_)
                clear hK K hb
                generalize W1xxx.alloc (.cells zc 42) = W1xxxx at *
                generalize W1xxx.heap.size = g7 at *
                try simp only [Act.put, List.getElem_toArray, List.getElem_cons_succ, List.getElem_cons_zero, List.setIfInBounds_toArray, List.set_cons_zero, List.set_cons_succ]
                refine wpAnyH_ready (rs := [6]) (by kernel_rfl) (by simp) ?_
                refine AllReadyH.cons rfl (fun K hK => ?_) AllReadyH.nil
                refine wp_store_whole 42 _ _ rfl g7 zc (opC E A5 n2 c5 B5 m2 d5) 42 z7 rfl rfl (opC_info _ _ _ _ _ _ _ K2) (by rw [opC_size _ _ _ _ _ _ _ K2, hz0]) (opC_one _ _ _ _ _ _ _) ?_
                intro W1xxxxx hb hg
                replace o1 := o1.kept hg (.inr (Lib.ownBlock_ne o1 z7 (by decide)))
                replace o2 := o2.kept hg (.inr (Lib.ownBlock_ne o2 z7 (by decide)))
                replace o3 := o3.kept hg (.inr (Lib.ownBlock_ne o3 z7 (by decide)))
                replace o4 := o4.kept hg (.inr (Lib.ownBlock_ne o4 z7 (by decide)))
                replace z8 := blk_gb z8 hg (by omega)
                refine hK.out _ _ (hHeld.gb hg (by omega)) (fun hHeld => ?_)
                clear hK K hg
                replace z7 := hb
                clear hb
                try simp only [Act.put, List.getElem_toArray, List.getElem_cons_succ, List.getElem_cons_zero, List.setIfInBounds_toArray, List.set_cons_zero, List.set_cons_succ]
                refine wpAnyH_ready (rs := [7]) (by kernel_rfl) (by simp) ?_
                refine AllReadyH.cons rfl (fun K hK => ?_) AllReadyH.nil
                refine wp_store_whole 42 _ _ rfl g8 zc (opC D A6 n c6 B6 m d6) 42 z8 rfl rfl (opC_info _ _ _ _ _ _ _ K1) (by rw [opC_size _ _ _ _ _ _ _ K1, hz0]) (opC_one _ _ _ _ _ _ _) ?_
                intro W1xxxxxx hb hg
                replace o1 := o1.kept hg (.inr (Lib.ownBlock_ne o1 z8 (by decide)))
                replace o2 := o2.kept hg (.inr (Lib.ownBlock_ne o2 z8 (by decide)))
                replace o3 := o3.kept hg (.inr (Lib.ownBlock_ne o3 z8 (by decide)))
                replace o4 := o4.kept hg (.inr (Lib.ownBlock_ne o4 z8 (by decide)))
                replace z7 := blk_gb z7 hg (by omega)
                refine hK.out _ _ (hHeld.gb hg (by omega)) (fun hHeld => ?_)
                clear hK K hg
                replace z8 := hb
                clear hb
                try simp only [Act.put, List.getElem_toArray, List.getElem_cons_succ, List.getElem_cons_zero, List.setIfInBounds_toArray, List.set_cons_zero, List.set_cons_succ]
                refine wpAnyH_done (by kernel_rfl) ?_ _
                exact fin _ _ _ _ _ _ _ _ _ _ _ hHeld z7 z8 n7 n8 ne o1 o2 o3 o4
            · as_aux_lemma =>
                go_simp
                rw [← hzc.out]
                have hb : Below W1xx.heap.size W1xx (W1xx.alloc (.cells zc 42)) := (Below.refl _ _).alloc (Nat.le_refl _) _
                have z7 := Blk.new W1xx 42 zc
                have n7 : w.heap.size + 4 ≤ W1xx.heap.size := by have := hHeld.r5.lt; omega
                have ne : g8 ≠ W1xx.heap.size := by have := z8.lt; omega
                replace o1 := own_below o1 hb
                replace o2 := own_below o2 hb
                replace z8 := z8.below hb
                refine hK.out _ _ (hHeld.below hb) (fun hHeld => ?_)
                clear hK K hb
                generalize W1xx.alloc (.cells zc 42) = W1xxx at *
                generalize W1xx.heap.size = g7 at *
                try simp only [Act.put, List.getElem_toArray, List.getElem_cons_succ, List.getElem_cons_zero, List.setIfInBounds_toArray, List.set_cons_zero, List.set_cons_succ]
                refine wpAnyH_ready (rs := [3]) (by kernel_rfl) (by simp) ?_
                refine AllReadyH.cons rfl (fun K hK => ?_) AllReadyH.nil
                go_simp
                (with_reducible refine (cA _ hHeld.k.x).mono ?_)
                rintro e9 W1xxxx ⟨A6, c6, B6, d6, rfl, o3, o4, hb⟩
                replace o3 := own_le o3 hHeld.k.x.size
                replace o4 := own_le o4 hHeld.k.x.size
                replace o1 := own_below o1 hb
                replace o2 := own_below o2 hb
                replace z8 := z8.below hb
                replace z7 := z7.below hb
                refine hK.out _ _ (hHeld.below hb) (fun hHeld => ?_)
                clear hK K hb
                try simp only [Act.put, List.getElem_toArray, List.getElem_cons_succ, List.getElem_cons_zero, List.setIfInBounds_toArray, List.set_cons_zero, List.set_cons_succ]
                refine wpAnyH_ready (rs := [6]) (by kernel_rfl) (by simp) ?_
                refine AllReadyH.cons rfl (fun K hK => ?_) AllReadyH.nil
                refine wp_store_whole 42 _ _ rfl g7 zc (opC E A5 n2 c5 B5 m2 d5) 42 z7 rfl rfl (opC_info _ _ _ _ _ _ _ K2) (by rw [opC_size _ _ _ _ _ _ _ K2, hz0]) (opC_one _ _ _ _ _ _ _) ?_
                intro W1xxxxx hb hg
                replace o1 := o1.kept hg (.inr (Lib.ownBlock_ne o1 z7 (by decide)))
                replace o2 := o2.kept hg (.inr (Lib.ownBlock_ne o2 z7 (by decide)))
                replace o3 := o3.kept hg (.inr (Lib.ownBlock_ne o3 z7 (by decide)))
                replace o4 := o4.kept hg (.inr (Lib.ownBlock_ne o4 z7 (by decide)))
                replace z8 := blk_gb z8 hg (by omega)
                refine hK.out _ _ (hHeld.gb hg (by omega)) (fun hHeld => ?_)
                clear hK K hg
                replace z7 := hb
                clear hb
                try simp only [Act.put, List.getElem_toArray, List.getElem_cons_succ, List.getElem_cons_zero, List.setIfInBounds_toArray, List.set_cons_zero, List.set_cons_succ]
                refine wpAnyH_ready (rs := [7]) (by kernel_rfl) (by simp) ?_
                refine AllReadyH.cons rfl (fun K hK => ?_) AllReadyH.nil
                refine wp_store_whole 42 _ _ rfl g8 zc (opC D A6 n c6 B6 m d6) 42 z8 rfl rfl (opC_info _ _ _ _ _ _ _ K1) (by rw [opC_size _ _ _ _ _ _ _ K1, hz0]) (opC_one _ _ _ _ _ _ _) ?_
                intro W1xxxxxx hb hg
                replace o1 := o1.kept hg (.inr (Lib.ownBlock_ne o1 z8 (by decide)))
                replace o2 := o2.kept hg (.inr (Lib.ownBlock_ne o2 z8 (by decide)))
                replace o3 := o3.kept hg (.inr (Lib.ownBlock_ne o3 z8 (by decide)))
                replace o4 := o4.kept hg (.inr (Lib.ownBlock_ne o4 z8 (by decide)))
                replace z7 := blk_gb z7 hg (by omega)
                refine hK.out _ _ (hHeld.gb hg (by omega)) (fun hHeld => ?_)
                clear hK K hg
                replace z8 := hb
                clear hb
                try simp only [Act.put, List.getElem_toArray, List.getElem_cons_succ, List.getElem_cons_zero, List.setIfInBounds_toArray, List.set_cons_zero, List.set_cons_succ]
                refine wpAnyH_done (by kernel_rfl) ?_ _
                exact fin _ _ _ _ _ _ _ _ _ _ _ hHeld z7 z8 n7 n8 ne o1 o2 o3 o4
    · as_aux_lemma =>
        go_simp
        rw [← hzc.out]
        have hb : Below W1.heap.size W1 (W1.alloc (.cells zc 42)) := (Below.refl _ _).alloc (Nat.le_refl _) _
        have z7 := Blk.new W1 42 zc
        have n7 : w.heap.size + 4 ≤ W1.heap.size := by have := hHeld.r5.lt; omega
        refine hK.out _ _ (hHeld.below hb) (fun hHeld => ?_)
        clear hK K hb
        generalize W1.alloc (.cells zc 42) = W1x at *
        generalize W1.heap.size = g7 at *
        try simp only [Act.put, List.getElem_toArray, List.getElem_cons_succ, List.getElem_cons_zero, List.setIfInBounds_toArray, List.set_cons_zero, List.set_cons_succ]
        refine wpAnyH_ready (rs := [1, 5]) (by kernel_rfl) (by simp) ?_
        refine AllReadyH.cons rfl (fun K hK => ?_) (AllReadyH.cons rfl (fun K hK => ?_) AllReadyH.nil)
        · as_aux_lemma =>
            go_simp
            (with_reducible refine (cC _ hHeld.k.x).mono ?_)
            rintro e9 W1xx ⟨A5, c5, B5, d5, rfl, o1, o2, hb⟩
            replace o1 := own_le o1 hHeld.k.x.size
            replace o2 := own_le o2 hHeld.k.x.size
            replace z7 := z7.below hb
            refine hK.out _ _ (hHeld.below hb) (fun hHeld => ?_)
            clear hK K hb
            try simp only [Act.put, List.getElem_toArray, List.getElem_cons_succ, List.getElem_cons_zero, List.setIfInBounds_toArray, List.set_cons_zero, List.set_cons_succ]
            refine wpAnyH_ready (rs := [3, 5]) (by kernel_rfl) (by simp) ?_
            refine AllReadyH.cons rfl (fun K hK => ?_) (AllReadyH.cons rfl (fun K hK => ?_) AllReadyH.nil)
            · as_aux_lemma =>
                go_simp
                (with_reducible refine (cA _ hHeld.k.x).mono ?_)
                rintro e9 W1xxx ⟨A6, c6, B6, d6, rfl, o3, o4, hb⟩
                replace o3 := own_le o3 hHeld.k.x.size
                replace o4 := own_le o4 hHeld.k.x.size
                replace o1 := own_below o1 hb
                replace o2 := own_below o2 hb
                replace z7 := z7.below hb
                refine hK.out _ _ (hHeld.below hb) (fun hHeld => ?_)
                clear hK K hb
                try simp only [Act.put, List.getElem_toArray, List.getElem_cons_succ, List.getElem_cons_zero, List.setIfInBounds_toArray, List.set_cons_zero, List.set_cons_succ]
                refine wpAnyH_ready (rs := [5]) (by kernel_rfl) (by simp) ?_
                refine AllReadyH.cons rfl (fun K hK => ?_) AllReadyH.nil
                go_simp
                rw [← hzc.out]
                have hb : Below W1xxx.heap.size W1xxx (W1xxx.alloc (.cells zc 42)) := (Below.refl _ _).alloc (Nat.le_refl _) _
                have z8 := Blk.new W1xxx 42 zc
                have n8 : w.heap.size + 4 ≤ W1xxx.heap.size := by have := hHeld.r5.lt; omega
                have ne : W1xxx.heap.size ≠ g7 := by have := z7.lt; omega
                replace o1 := own_below o1 hb
                replace o2 := own_below o2 hb
                replace o3 := own_below o3 hb
                replace o4 := own_below o4 hb
                replace z7 := z7.below hb
                refine hK.out _ _ (hHeld.below hb) (fun hHeld => ?_)
                clear hK K hb
                generalize W1xxx.alloc (.cells zc 42) = W1xxxx at *
                generalize W1xxx.heap.size = g8 at *
                try simp only [Act.put, List.getElem_toArray, List.getElem_cons_succ, List.getElem_cons_zero, List.setIfInBounds_toArray, List.set_cons_zero, List.set_cons_succ]
                refine wpAnyH_ready (rs := [6]) (by kernel_rfl) (by simp) ?_
                refine AllReadyH.cons rfl (fun K hK => ?_) AllReadyH.nil
                refine wp_store_whole 42 _ _ rfl g7 zc (opC E A5 n2 c5 B5 m2 d5) 42 z7 rfl rfl (opC_info _ _ _ _ _ _ _ K2) (by rw [opC_size _ _ _ _ _ _ _ K2, hz0]) (opC_one _ _ _ _ _ _ _) ?_
                intro W1xxxxx hb hg
                replace o1 := o1.kept hg (.inr (Lib.ownBlock_ne o1 z7 (by decide)))
                replace o2 := o2.kept hg (.inr (Lib.ownBlock_ne o2 z7 (by decide)))
                replace o3 := o3.kept hg (.inr (Lib.ownBlock_ne o3 z7 (by decide)))
                replace o4 := o4.kept hg (.inr (Lib.ownBlock_ne o4 z7 (by decide)))
                replace z8 := blk_gb z8 hg (by omega)
                refine hK.out _ _ (hHeld.gb hg (by omega)) (fun hHeld => ?_)
                clear hK K hg
                replace z7 := hb
                clear hb
                try simp only [Act.put, List.getElem_toArray, List.getElem_cons_succ, List.getElem_cons_zero, List.setIfInBounds_toArray, List.set_cons_zero, List.set_cons_succ]
                refine wpAnyH_ready (rs := [7]) (by kernel_rfl) (by simp) ?_
                refine AllReadyH.cons rfl (fun K hK => ?_) AllReadyH.nil
                refine wp_store_whole 42 _ _ rfl g8 zc (opC D A6 n c6 B6 m d6) 42 z8 rfl rfl (opC_info _ _ _ _ _ _ _ K1) (by rw [opC_size _ _ _ _ _ _ _ K1, hz0]) (opC_one _ _ _ _ _ _ _) ?_
                intro W1xxxxxx hb hg
                replace o1 := o1.kept hg (.inr (Lib.ownBlock_ne o1 z8 (by decide)))
                replace o2 := o2.kept hg (.inr (Lib.ownBlock_ne o2 z8 (by decide)))
                replace o3 := o3.kept hg (.inr (Lib.ownBlock_ne o3 z8 (by decide)))
                replace o4 := o4.kept hg (.inr (Lib.ownBlock_ne o4 z8 (by decide)))
                replace z7 := blk_gb z7 hg (by omega)
                refine hK.out _ _ (hHeld.gb hg (by omega)) (fun hHeld => ?_)
                clear hK K hg
                replace z8 := hb
                clear hb
                try simp only [Act.put, List.getElem_toArray, List.getElem_cons_succ, List.getElem_cons_zero, List.setIfInBounds_toArray, List.set_cons_zero, List.set_cons_succ]
                refine wpAnyH_done (by kernel_rfl) ?_ _
                exact fin _ _ _ _ _ _ _ _ _ _ _ hHeld z7 z8 n7 n8 ne o1 o2 o3 o4
            · as_aux_lemma =>
                go_simp
                rw [← hzc.out]
                have hb : Below W1xx.heap.size W1xx (W1xx.alloc (.cells zc 42)) := (Below.refl _ _).alloc (Nat.le_refl _) _
                have z8 := Blk.new W1xx 42 zc
                have n8 : w.heap.size + 4 ≤ W1xx.heap.size := by have := hHeld.r5.lt; omega
                have ne : W1xx.heap.size ≠ g7 := by have := z7.lt; omega
                replace o1 := own_below o1 hb
                replace o2 := own_below o2 hb
                replace z7 := z7.below hb
                refine hK.out _ _ (hHeld.below hb) (fun hHeld => ?_)
                clear hK K hb
                generalize W1xx.alloc (.cells zc 42) = W1xxx at *
                generalize W1xx.heap.size = g8 at *
                try simp only [Act.put, List.getElem_toArray, List.getElem_cons_succ, List.getElem_cons_zero, List.setIfInBounds_toArray, List.set_cons_zero, List.set_cons_succ]
                refine wpAnyH_ready (rs := [3]) (by kernel_rfl) (by simp) ?_
                refine AllReadyH.cons rfl (fun K hK => ?_) AllReadyH.nil
                go_simp
                (with_reducible refine (cA _ hHeld.k.x).mono ?_)
                rintro e9 W1xxxx ⟨A6, c6, B6, d6, rfl, o3, o4, hb⟩
                replace o3 := own_le o3 hHeld.k.x.size
                replace o4 := own_le o4 hHeld.k.x.size
                replace o1 := own_below o1 hb
                replace o2 := own_below o2 hb
                replace z7 := z7.below hb
                replace z8 := z8.below hb
                refine hK.out _ _ (hHeld.below hb) (fun hHeld => ?_)
                clear hK K hb
                try simp only [Act.put, List.getElem_toArray, List.getElem_cons_succ, List.getElem_cons_zero, List.setIfInBounds_toArray, List.set_cons_zero, List.set_cons_succ]
                refine wpAnyH_ready (rs := [6]) (by kernel_rfl) (by simp) ?_
                refine AllReadyH.cons rfl (fun K hK => ?_) AllReadyH.nil
                refine wp_store_whole 42 _ _ rfl g7 zc (opC E A5 n2 c5 B5 m2 d5) 42 z7 rfl rfl (opC_info _ _ _ _ _ _ _ K2) (by rw [opC_size _ _ _ _ _ _ _ K2, hz0]) (opC_one _ _ _ _ _ _ _) ?_
                intro W1xxxxx hb hg
                replace o1 := o1.kept hg (.inr (Lib.ownBlock_ne o1 z7 (by decide)))
                replace o2 := o2.kept hg (.inr (Lib.ownBlock_ne o2 z7 (by decide)))
                replace o3 := o3.kept hg (.inr (Lib.ownBlock_ne o3 z7 (by decide)))
                replace o4 := o4.kept hg (.inr (Lib.ownBlock_ne o4 z7 (by decide)))
                replace z8 := blk_gb z8 hg (by omega)
                refine hK.out _ _ (hHeld.gb hg (by omega)) (fun hHeld => ?_)
                clear hK K hg
                replace z7 := hb
                clear hb
                try simp only [Act.put, List.getElem_toArray, List.getElem_cons_succ, List.getElem_cons_zero, List.setIfInBounds_toArray, List.set_cons_zero, List.set_cons_succ]
                refine wpAnyH_ready (rs := [7]) (by kernel_rfl) (by simp) ?_
                refine AllReadyH.cons rfl (fun K hK => ?_) AllReadyH.nil
                refine wp_store_whole 42 _ _ rfl g8 zc (opC D A6 n c6 B6 m d6) 42 z8 rfl rfl (opC_info _ _ _ _ _ _ _ K1) (by rw [opC_size _ _ _ _ _ _ _ K1, hz0]) (opC_one _ _ _ _ _ _ _) ?_
                intro W1xxxxxx hb hg
                replace o1 := o1.kept hg (.inr (Lib.ownBlock_ne o1 z8 (by decide)))
                replace o2 := o2.kept hg (.inr (Lib.ownBlock_ne o2 z8 (by decide)))
                replace o3 := o3.kept hg (.inr (Lib.ownBlock_ne o3 z8 (by decide)))
                replace o4 := o4.kept hg (.inr (Lib.ownBlock_ne o4 z8 (by decide)))
                replace z7 := blk_gb z7 hg (by omega)
                refine hK.out _ _ (hHeld.gb hg (by omega)) (fun hHeld => ?_)
                clear hK K hg
                replace z8 := hb
                clear hb
                try simp only [Act.put, List.getElem_toArray, List.getElem_cons_succ, List.getElem_cons_zero, List.setIfInBounds_toArray, List.set_cons_zero, List.set_cons_succ]
                refine wpAnyH_done (by kernel_rfl) ?_ _
                exact fin _ _ _ _ _ _ _ _ _ _ _ hHeld z7 z8 n7 n8 ne o1 o2 o3 o4
        · as_aux_lemma =>
            go_simp
            rw [← hzc.out]
            have hb : Below W1x.heap.size W1x (W1x.alloc (.cells zc 42)) := (Below.refl _ _).alloc (Nat.le_refl _) _
            have z8 := Blk.new W1x 42 zc
            have n8 : w.heap.size + 4 ≤ W1x.heap.size := by have := hHeld.r5.lt; omega
            have ne : W1x.heap.size ≠ g7 := by have := z7.lt; omega
            replace z7 := z7.below hb
            refine hK.out _ _ (hHeld.below hb) (fun hHeld => ?_)
            clear hK K hb
            generalize W1x.alloc (.cells zc 42) = W1xx at *
            generalize W1x.heap.size = g8 at *
            try simp only [Act.put, List.getElem_toArray, List.getElem_cons_succ, List.getElem_cons_zero, List.setIfInBounds_toArray, List.set_cons_zero, List.set_cons_succ]
            refine wpAnyH_ready (rs := [1]) (by kernel_rfl) (by simp) ?_
            refine AllReadyH.cons rfl (fun K hK => ?_) AllReadyH.nil
            go_simp
            (with_reducible refine (cC _ hHeld.k.x).mono ?_)
            rintro e9 W1xxx ⟨A5, c5, B5, d5, rfl, o1, o2, hb⟩
            replace o1 := own_le o1 hHeld.k.x.size
            replace o2 := own_le o2 hHeld.k.x.size
            replace z7 := z7.below hb
            replace z8 := z8.below hb
            refine hK.out _ _ (hHeld.below hb) (fun hHeld => ?_)
            clear hK K hb
            try simp only [Act.put, List.getElem_toArray, List.getElem_cons_succ, List.getElem_cons_zero, List.setIfInBounds_toArray, List.set_cons_zero, List.set_cons_succ]
            refine wpAnyH_ready (rs := [3]) (by kernel_rfl) (by simp) ?_
            refine AllReadyH.cons rfl (fun K hK => ?_) AllReadyH.nil
            go_simp
            (with_reducible refine (cA _ hHeld.k.x).mono ?_)
            rintro e9 W1xxxx ⟨A6, c6, B6, d6, rfl, o3, o4, hb⟩
            replace o3 := own_le o3 hHeld.k.x.size
            replace o4 := own_le o4 hHeld.k.x.size
            replace o1 := own_below o1 hb
            replace o2 := own_below o2 hb
            replace z7 := z7.below hb
            replace z8 := z8.below hb
            refine hK.out _ _ (hHeld.below hb) (fun hHeld => ?_)
            clear hK K hb
            try simp only [Act.put, List.getElem_toArray, List.getElem_cons_succ, List.getElem_cons_zero, List.setIfInBounds_toArray, List.set_cons_zero, List.set_cons_succ]
            refine wpAnyH_ready (rs := [6]) (by kernel_rfl) (by simp) ?_
            refine AllReadyH.cons rfl (fun K hK => ?_) AllReadyH.nil
            refine wp_store_whole 42 _ _ rfl g7 zc (opC E A5 n2 c5 B5 m2 d5) 42 z7 rfl rfl (opC_info _ _ _ _ _ _ _ K2) (by rw [opC_size _ _ _ _ _ _ _ K2, hz0]) (opC_one _ _ _ _ _ _ _) ?_
            intro W1xxxxx hb hg
            replace o1 := o1.kept hg (.inr (Lib.ownBlock_ne o1 z7 (by decide)))
            replace o2 := o2.kept hg (.inr (Lib.ownBlock_ne o2 z7 (by decide)))
            replace o3 := o3.kept hg (.inr (Lib.ownBlock_ne o3 z7 (by decide)))
            replace o4 := o4.kept hg (.inr (Lib.ownBlock_ne o4 z7 (by decide)))
            replace z8 := blk_gb z8 hg (by omega)
            refine hK.out _ _ (hHeld.gb hg (by omega)) (fun hHeld => ?_)
            clear hK K hg
            replace z7 := hb
            clear hb
            try simp only [Act.put, List.getElem_toArray, List.getElem_cons_succ, List.getElem_cons_zero, List.setIfInBounds_toArray, List.set_cons_zero, List.set_cons_succ]
            refine wpAnyH_ready (rs := [7]) (by kernel_rfl) (by simp) ?_
            refine AllReadyH.cons rfl (fun K hK => ?_) AllReadyH.nil
            refine wp_store_whole 42 _ _ rfl g8 zc (opC D A6 n c6 B6 m d6) 42 z8 rfl rfl (opC_info _ _ _ _ _ _ _ K1) (by rw [opC_size _ _ _ _ _ _ _ K1, hz0]) (opC_one _ _ _ _ _ _ _) ?_
            intro W1xxxxxx hb hg
            replace o1 := o1.kept hg (.inr (Lib.ownBlock_ne o1 z8 (by decide)))
            replace o2 := o2.kept hg (.inr (Lib.ownBlock_ne o2 z8 (by decide)))
            replace o3 := o3.kept hg (.inr (Lib.ownBlock_ne o3 z8 (by decide)))
            replace o4 := o4.kept hg (.inr (Lib.ownBlock_ne o4 z8 (by decide)))
            replace z7 := blk_gb z7 hg (by omega)
            refine hK.out _ _ (hHeld.gb hg (by omega)) (fun hHeld => ?_)
            clear hK K hg
            replace z8 := hb
            clear hb
            try simp only [Act.put, List.getElem_toArray, List.getElem_cons_succ, List.getElem_cons_zero, List.setIfInBounds_toArray, List.set_cons_zero, List.set_cons_succ]
            refine wpAnyH_done (by kernel_rfl) ?_ _
            exact fin _ _ _ _ _ _ _ _ _ _ _ hHeld z7 z8 n7 n8 ne o1 o2 o3 o4
    · as_aux_lemma =>
        go_simp
        rw [← hzc.out]
        have hb : Below W1.heap.size W1 (W1.alloc (.cells zc 42)) := (Below.refl _ _).alloc (Nat.le_refl _) _
        have z8 := Blk.new W1 42 zc
        have n8 : w.heap.size + 4 ≤ W1.heap.size := by have := hHeld.r5.lt; omega
        refine hK.out _ _ (hHeld.below hb) (fun hHeld => ?_)
        clear hK K hb
        generalize W1.alloc (.cells zc 42) = W1x at *
        generalize W1.heap.size = g8 at *
        try simp only [Act.put, List.getElem_toArray, List.getElem_cons_succ, List.getElem_cons_zero, List.setIfInBounds_toArray, List.set_cons_zero, List.set_cons_succ]
        refine wpAnyH_ready (rs := [1, 4]) (by kernel_rfl) (by simp) ?_
        refine AllReadyH.cons rfl (fun K hK => ?_) (AllReadyH.cons rfl (fun K hK => ?_) AllReadyH.nil)
        · as_aux_lemma =>
            go_simp
            (with_reducible refine (cC _ hHeld.k.x).mono ?_)
            rintro e9 W1xx ⟨A5, c5, B5, d5, rfl, o1, o2, hb⟩
            replace o1 := own_le o1 hHeld.k.x.size
            replace o2 := own_le o2 hHeld.k.x.size
            replace z8 := z8.below hb
            refine hK.out _ _ (hHeld.below hb) (fun hHeld => ?_)
            clear hK K hb
            try simp only [Act.put, List.getElem_toArray, List.getElem_cons_succ, List.getElem_cons_zero, List.setIfInBounds_toArray, List.set_cons_zero, List.set_cons_succ]
            refine wpAnyH_ready (rs := [3, 4]) (by kernel_rfl) (by simp) ?_
            refine AllReadyH.cons rfl (fun K hK => ?_) (AllReadyH.cons rfl (fun K hK => ?_) AllReadyH.nil)
            · as_aux_lemma =>
                go_simp
                (with_reducible refine (cA _ hHeld.k.x).mono ?_)
                rintro e9 W1xxx ⟨A6, c6, B6, d6, rfl, o3, o4, hb⟩
                replace o3 := own_le o3 hHeld.k.x.size
                replace o4 := own_le o4 hHeld.k.x.size
                replace o1 := own_below o1 hb
                replace o2 := own_below o2 hb
                replace z8 := z8.below hb
                refine hK.out _ _ (hHeld.below hb) (fun hHeld => ?_)
                clear hK K hb
                try simp only [Act.put, List.getElem_toArray, List.getElem_cons_succ, List.getElem_cons_zero, List.setIfInBounds_toArray, List.set_cons_zero, List.set_cons_succ]
                refine wpAnyH_ready (rs := [4]) (by kernel_rfl) (by simp) ?_
                refine AllReadyH.cons rfl (fun K hK => ?_) AllReadyH.nil
                go_simp
                rw [← hzc.out]
                have hb : Below W1xxx.heap.size W1xxx (W1xxx.alloc (.cells zc 42)) := (Below.refl _ _).alloc (Nat.le_refl _) _
                have z7 := Blk.new W1xxx 42 zc
                have n7 : w.heap.size + 4 ≤ W1xxx.heap.size := by have := hHeld.r5.lt; omega
                have ne : g8 ≠ W1xxx.heap.size := by have := z8.lt; omega
                replace o1 := own_below o1 hb
                replace o2 := own_below o2 hb
                replace o3 := own_below o3 hb
                replace o4 := own_below o4 hb
                replace z8 := z8.below hb
                refine hK.out _ _ (hHeld.below hb) (fun hHeld => ?_)
                clear hK K hb
                generalize W1xxx.alloc (.cells zc 42) = W1xxxx at *
                generalize W1xxx.heap.size = g7 at *
                try simp only [Act.put, List.getElem_toArray, List.getElem_cons_succ, List.getElem_cons_zero, List.setIfInBounds_toArray, List.set_cons_zero, List.set_cons_succ]
                refine wpAnyH_ready (rs := [6]) (by kernel_rfl) (by simp) ?_
                refine AllReadyH.cons rfl (fun K hK => ?_) AllReadyH.nil
                refine wp_store_whole 42 _ _ rfl g7 zc (opC E A5 n2 c5 B5 m2 d5) 42 z7 rfl rfl (opC_info _ _ _ _ _ _ _ K2) (by rw [opC_size _ _ _ _ _ _ _ K2, hz0]) (opC_one _ _ _ _ _ _ _) ?_
                intro W1xxxxx hb hg
                replace o1 := o1.kept hg (.inr (Lib.ownBlock_ne o1 z7 (by decide)))
                replace o2 := o2.kept hg (.inr (Lib.ownBlock_ne o2 z7 (by decide)))
                replace o3 := o3.kept hg (.inr (Lib.ownBlock_ne o3 z7 (by decide)))
                replace o4 := o4.kept hg (.inr (Lib.ownBlock_ne o4 z7 (by decide)))
                replace z8 := blk_gb z8 hg (by omega)
                refine hK.out _ _ (hHeld.gb hg (by omega)) (fun hHeld => ?_)
                clear hK K hg
                replace z7 := hb
                clear hb
                try simp only [Act.put, List.getElem_toArray, List.getElem_cons_succ, List.getElem_cons_zero, List.setIfInBounds_toArray, List.set_cons_zero, List.set_cons_succ]
                refine wpAnyH_ready (rs := [7]) (by kernel_rfl) (by simp) ?_
                refine AllReadyH.cons rfl (fun K hK => ?_) AllReadyH.nil
                refine wp_store_whole 42 _ _ rfl g8 zc (opC D A6 n c6 B6 m d6) 42 z8 rfl rfl (opC_info _ _ _ _ _ _ _ K1) (by rw [opC_size _ _ _ _ _ _ _ K1, hz0]) (opC_one _ _ _ _ _ _ _) ?_
                intro W1xxxxxx hb hg
                replace o1 := o1.kept hg (.inr (Lib.ownBlock_ne o1 z8 (by decide)))
                replace o2 := o2.kept hg (.inr (Lib.ownBlock_ne o2 z8 (by decide)))
                replace o3 := o3.kept hg (.inr (Lib.ownBlock_ne o3 z8 (by decide)))
                replace o4 := o4.kept hg (.inr (Lib.ownBlock_ne o4 z8 (by decide)))
                replace z7 := blk_gb z7 hg (by omega)
                refine hK.out _ _ (hHeld.gb hg (by omega)) (fun hHeld => ?_)
                clear hK K hg
                replace z8 := hb
                clear hb
                try simp only [Act.put, List.getElem_toArray, List.getElem_cons_succ, List.getElem_cons_zero, List.setIfInBounds_toArray, List.set_cons_zero, List.set_cons_succ]
                refine wpAnyH_done (by kernel_rfl) ?_ _
                exact fin _ _ _ _ _ _ _ _ _ _ _ hHeld z7 z8 n7 n8 ne o1 o2 o3 o4
            · as_aux_lemma =>
                go_simp
                rw [← hzc.out]
                have hb : Below W1xx.heap.size W1xx (W1xx.alloc (.cells zc 42)) := (Below.refl _ _).alloc (Nat.le_refl _) _
                have z7 := Blk.new W1xx 42 zc
                have n7 : w.heap.size + 4 ≤ W1xx.heap.size := by have := hHeld.r5.lt; omega
                have ne : g8 ≠ W1xx.heap.size := by have := z8.lt; omega
                replace o1 := own_below o1 hb
                replace o2 := own_below o2 hb
                replace z8 := z8.below hb
                refine hK.out _ _ (hHeld.below hb) (fun hHeld => ?_)
                clear hK K hb
                generalize W1xx.alloc (.cells zc 42) = W1xxx at *
                generalize W1xx.heap.size = g7 at *
                try simp only [Act.put, List.getElem_toArray, List.getElem_cons_succ, List.getElem_cons_zero, List.setIfInBounds_toArray, List.set_cons_zero, List.set_cons_succ]
                refine wpAnyH_ready (rs := [3]) (by kernel_rfl) (by simp) ?_
                refine AllReadyH.cons rfl (fun K hK => ?_) AllReadyH.nil
                go_simp
                (with_reducible refine (cA _ hHeld.k.x).mono ?_)
                rintro e9 W1xxxx ⟨A6, c6, B6, d6, rfl, o3, o4, hb⟩
                replace o3 := own_le o3 hHeld.k.x.size
                replace o4 := own_le o4 hHeld.k.x.size
                replace o1 := own_below o1 hb
                replace o2 := own_below o2 hb
                replace z8 := z8.below hb
                replace z7 := z7.below hb
                refine hK.out _ _ (hHeld.below hb) (fun hHeld => ?_)
                clear hK K hb
                try simp only [Act.put, List.getElem_toArray, List.getElem_cons_succ, List.getElem_cons_zero, List.setIfInBounds_toArray, List.set_cons_zero, List.set_cons_succ]
                refine wpAnyH_ready (rs := [6]) (by kernel_rfl) (by simp) ?_
                refine AllReadyH.cons rfl (fun K hK => ?_) AllReadyH.nil
                refine wp_store_whole 42 _ _ rfl g7 zc (opC E A5 n2 c5 B5 m2 d5) 42 z7 rfl rfl (opC_info _ _ _ _ _ _ _ K2) (by rw [opC_size _ _ _ _ _ _ _ K2, hz0]) (opC_one _ _ _ _ _ _ _) ?_
                intro W1xxxxx hb hg
                replace o1 := o1.kept hg (.inr (Lib.ownBlock_ne o1 z7 (by decide)))
                replace o2 := o2.kept hg (.inr (Lib.ownBlock_ne o2 z7 (by decide)))
                replace o3 := o3.kept hg (.inr (Lib.ownBlock_ne o3 z7 (by decide)))
                replace o4 := o4.kept hg (.inr (Lib.ownBlock_ne o4 z7 (by decide)))
                replace z8 := blk_gb z8 hg (by omega)
                refine hK.out _ _ (hHeld.gb hg (by omega)) (fun hHeld => ?_)
                clear hK K hg
                replace z7 := hb
                clear hb
                try simp only [Act.put, List.getElem_toArray, List.getElem_cons_succ, List.getElem_cons_zero, List.setIfInBounds_toArray, List.set_cons_zero, List.set_cons_succ]
                refine wpAnyH_ready (rs := [7]) (by kernel_rfl) (by simp) ?_
                refine AllReadyH.cons rfl (fun K hK => ?_) AllReadyH.nil
                refine wp_store_whole 42 _ _ rfl g8 zc (opC D A6 n c6 B6 m d6) 42 z8 rfl rfl (opC_info _ _ _ _ _ _ _ K1) (by rw [opC_size _ _ _ _ _ _ _ K1, hz0]) (opC_one _ _ _ _ _ _ _) ?_
                intro W1xxxxxx hb hg
                replace o1 := o1.kept hg (.inr (Lib.ownBlock_ne o1 z8 (by decide)))
                replace o2 := o2.kept hg (.inr (Lib.ownBlock_ne o2 z8 (by decide)))
                replace o3 := o3.kept hg (.inr (Lib.ownBlock_ne o3 z8 (by decide)))
                replace o4 := o4.kept hg (.inr (Lib.ownBlock_ne o4 z8 (by decide)))
                replace z7 := blk_gb z7 hg (by omega)
                refine hK.out _ _ (hHeld.gb hg (by omega)) (fun hHeld => ?_)
                clear hK K hg
                replace z8 := hb
                clear hb
                try simp only [Act.put, List.getElem_toArray, List.getElem_cons_succ, List.getElem_cons_zero, List.setIfInBounds_toArray, List.set_cons_zero, List.set_cons_succ]
                refine wpAnyH_done (by kernel_rfl) ?_ _
                exact fin _ _ _ _ _ _ _ _ _ _ _ hHeld z7 z8 n7 n8 ne o1 o2 o3 o4
        · as_aux_lemma =>
            go_simp
            rw [← hzc.out]
            have hb : Below W1x.heap.size W1x (W1x.alloc (.cells zc 42)) := (Below.refl _ _).alloc (Nat.le_refl _) _
            have z7 := Blk.new W1x 42 zc
            have n7 : w.heap.size + 4 ≤ W1x.heap.size := by have := hHeld.r5.lt; omega
            have ne : g8 ≠ W1x.heap.size := by have := z8.lt; omega
            replace z8 := z8.below hb
            refine hK.out _ _ (hHeld.below hb) (fun hHeld => ?_)
            clear hK K hb
            generalize W1x.alloc (.cells zc 42) = W1xx at *
            generalize W1x.heap.size = g7 at *
            try simp only [Act.put, List.getElem_toArray, List.getElem_cons_succ, List.getElem_cons_zero, List.setIfInBounds_toArray, List.set_cons_zero, List.set_cons_succ]
            refine wpAnyH_ready (rs := [1]) (by kernel_rfl) (by simp) ?_
            refine AllReadyH.cons rfl (fun K hK => ?_) AllReadyH.nil
            go_simp
            (with_reducible refine (cC _ hHeld.k.x).mono ?_)
            rintro e9 W1xxx ⟨A5, c5, B5, d5, rfl, o1, o2, hb⟩
            replace o1 := own_le o1 hHeld.k.x.size
            replace o2 := own_le o2 hHeld.k.x.size
            replace z8 := z8.below hb
            replace z7 := z7.below hb
            refine hK.out _ _ (hHeld.below hb) (fun hHeld => ?_)
            clear hK K hb
            try simp only [Act.put, List.getElem_toArray, List.getElem_cons_succ, List.getElem_cons_zero, List.setIfInBounds_toArray, List.set_cons_zero, List.set_cons_succ]
            refine wpAnyH_ready (rs := [3]) (by kernel_rfl) (by simp) ?_
            refine AllReadyH.cons rfl (fun K hK => ?_) AllReadyH.nil
            go_simp
            (with_reducible refine (cA _ hHeld.k.x).mono ?_)
            rintro e9 W1xxxx ⟨A6, c6, B6, d6, rfl, o3, o4, hb⟩
            replace o3 := own_le o3 hHeld.k.x.size
            replace o4 := own_le o4 hHeld.k.x.size
            replace o1 := own_below o1 hb
            replace o2 := own_below o2 hb
            replace z8 := z8.below hb
            replace z7 := z7.below hb
            refine hK.out _ _ (hHeld.below hb) (fun hHeld => ?_)
            clear hK K hb
            try simp only [Act.put, List.getElem_toArray, List.getElem_cons_succ, List.getElem_cons_zero, List.setIfInBounds_toArray, List.set_cons_zero, List.set_cons_succ]
            refine wpAnyH_ready (rs := [6]) (by kernel_rfl) (by simp) ?_
            refine AllReadyH.cons rfl (fun K hK => ?_) AllReadyH.nil
            refine wp_store_whole 42 _ _ rfl g7 zc (opC E A5 n2 c5 B5 m2 d5) 42 z7 rfl rfl (opC_info _ _ _ _ _ _ _ K2) (by rw [opC_size _ _ _ _ _ _ _ K2, hz0]) (opC_one _ _ _ _ _ _ _) ?_
            intro W1xxxxx hb hg
            replace o1 := o1.kept hg (.inr (Lib.ownBlock_ne o1 z7 (by decide)))
            replace o2 := o2.kept hg (.inr (Lib.ownBlock_ne o2 z7 (by decide)))
            replace o3 := o3.kept hg (.inr (Lib.ownBlock_ne o3 z7 (by decide)))
            replace o4 := o4.kept hg (.inr (Lib.ownBlock_ne o4 z7 (by decide)))
            replace z8 := blk_gb z8 hg (by omega)
            refine hK.out _ _ (hHeld.gb hg (by omega)) (fun hHeld => ?_)
            clear hK K hg
            replace z7 := hb
            clear hb
            try simp only [Act.put, List.getElem_toArray, List.getElem_cons_succ, List.getElem_cons_zero, List.setIfInBounds_toArray, List.set_cons_zero, List.set_cons_succ]
            refine wpAnyH_ready (rs := [7]) (by kernel_rfl) (by simp) ?_
            refine AllReadyH.cons rfl (fun K hK => ?_) AllReadyH.nil
            refine wp_store_whole 42 _ _ rfl g8 zc (opC D A6 n c6 B6 m d6) 42 z8 rfl rfl (opC_info _ _ _ _ _ _ _ K1) (by rw [opC_size _ _ _ _ _ _ _ K1, hz0]) (opC_one _ _ _ _ _ _ _) ?_
            intro W1xxxxxx hb hg
            replace o1 := o1.kept hg (.inr (Lib.ownBlock_ne o1 z8 (by decide)))
            replace o2 := o2.kept hg (.inr (Lib.ownBlock_ne o2 z8 (by decide)))
            replace o3 := o3.kept hg (.inr (Lib.ownBlock_ne o3 z8 (by decide)))
            replace o4 := o4.kept hg (.inr (Lib.ownBlock_ne o4 z8 (by decide)))
            replace z7 := blk_gb z7 hg (by omega)
            refine hK.out _ _ (hHeld.gb hg (by omega)) (fun hHeld => ?_)
            clear hK K hg
            replace z8 := hb
            clear hb
            try simp only [Act.put, List.getElem_toArray, List.getElem_cons_succ, List.getElem_cons_zero, List.setIfInBounds_toArray, List.set_cons_zero, List.set_cons_succ]
            refine wpAnyH_done (by kernel_rfl) ?_ _
            exact fin _ _ _ _ _ _ _ _ _ _ _ hHeld z7 z8 n7 n8 ne o1 o2 o3 o4
  case cont =>
    clear hh
    rintro x a' W ⟨rfl, g7, g8, A5, c5, B5, d5, A6, c6, B6, d6, rfl, hh, z7, z8, n7, n8, ne, o1, o2, o3, o4⟩
    go_wp2_with (first
      | (with_reducible refine wpList_load_opx (by with_unfolding_all rfl) _ rfl _ rfl hh.k.a K1 ?_)
      | (with_reducible refine wpList_load_opx (by with_unfolding_all rfl) _ rfl _ rfl hh.k.b K2 ?_)
      | (go_at_call 23; (with_reducible refine (cT _ hh.k.x).mono ?_); rintro e1 w1 ⟨rfl, hb⟩; replace hh := hh.below hb; replace z7 := z7.below hb; replace z8 := z8.below hb; replace o1 := own_below o1 hb; replace o2 := own_below o2 hb; replace o3 := own_below o3 hb; replace o4 := own_below o4 hb; clear hb))
    refine wp_region_held_drew (S := fun W => Blk W g7 42 (opC E A5 n2 c5 B5 m2 d5) ∧ Blk W g8 42 (opC D A6 n c6 B6 m d6)) (by kernel_rfl) ⟨z7.below (below_drew10 _), z8.below (below_drew10 _)⟩ (fun hHeld => ?_)
    replace hh := hh.below (below_drew10 _)
    replace o1 := own_below o1 (below_drew10 _)
    replace o2 := own_below o2 (below_drew10 _)
    replace o3 := own_below o3 (below_drew10 _)
    replace o4 := own_below o4 (below_drew10 _)
    clear z7 z8
    refine' wpAnyH_take (i := 0) (v := .agg (opC E A5 n2 c5 B5 m2 d5)) rfl (by kernel_rfl) (by kernel_rfl) (by kernel_rfl) (fun _ _ _ h => h) (yields_opx (by rfl) _ rfl _ rfl (fun w' h => ⟨h.1⟩) K2) hHeld ?_
    try simp only [Act.put, List.getElem_toArray, List.getElem_cons_succ, List.getElem_cons_zero, List.setIfInBounds_toArray, List.set_cons_zero, List.set_cons_succ]
    refine' wpAnyH_take (i := 1) (v := .agg (opC D A6 n c6 B6 m d6)) rfl (by kernel_rfl) (by kernel_rfl) (by kernel_rfl) (fun _ _ _ h => h) (yields_opx (by rfl) _ rfl _ rfl (fun w' h => ⟨h.2⟩) K1) hHeld ?_
    try simp only [Act.put, List.getElem_toArray, List.getElem_cons_succ, List.getElem_cons_zero, List.setIfInBounds_toArray, List.set_cons_zero, List.set_cons_succ]
    refine wpAnyH_ready (rs := [2]) (by kernel_rfl) (by simp) ?_
    refine AllReadyH.cons rfl (fun K hK => ?_) AllReadyH.nil
    refine wp_store_whole 42 _ _ rfl (w.heap.size + 1 + 1) zc (opC E A5 n2 c5 B5 m2 d5) 42 hh.r4 rfl rfl (opC_info _ _ _ _ _ _ _ K2) (by rw [opC_size E A5 n2 c5 B5 m2 d5 K2, hz0]) (opC_one _ _ _ _ _ _ _) ?_
    intro V4 b4 q4
    have r5 := blk_gb hh.r5 q4 (by omega)
    have hx4 := hh.k.x.trans (below_of_gb q4 (by omega) hh.k.x.size)
    replace o1 := o1.kept q4 (.inr (Lib.ownBlock_ne o1 hh.r4 (by decide)))
    replace o2 := o2.kept q4 (.inr (Lib.ownBlock_ne o2 hh.r4 (by decide)))
    replace o3 := o3.kept q4 (.inr (Lib.ownBlock_ne o3 hh.r4 (by decide)))
    replace o4 := o4.kept q4 (.inr (Lib.ownBlock_ne o4 hh.r4 (by decide)))
    refine hK.out _ _ ⟨blk_gb hHeld.1 q4 (by omega), blk_gb hHeld.2 q4 (by omega)⟩ (fun hHeld => ?_)
    clear hK K
    try simp only [Act.put, List.getElem_toArray, List.getElem_cons_succ, List.getElem_cons_zero, List.setIfInBounds_toArray, List.set_cons_zero, List.set_cons_succ]
    refine wpAnyH_ready (rs := [3]) (by kernel_rfl) (by simp) ?_
    refine AllReadyH.cons rfl (fun K hK => ?_) AllReadyH.nil
    refine wp_store_whole 42 _ _ rfl (w.heap.size + 1 + 1 + 1) zc (opC D A6 n c6 B6 m d6) 42 r5 rfl rfl (opC_info _ _ _ _ _ _ _ K1) (by rw [opC_size D A6 n c6 B6 m d6 K1, hz0]) (opC_one _ _ _ _ _ _ _) ?_
    intro V5 b5 q5
    replace b4 := blk_gb b4 q5 (by omega)
    have hx5 := hx4.trans (below_of_gb q5 (by omega) hx4.size)
    replace o1 := o1.kept q5 (.inr (Lib.ownBlock_ne o1 r5 (by decide)))
    replace o2 := o2.kept q5 (.inr (Lib.ownBlock_ne o2 r5 (by decide)))
    replace o3 := o3.kept q5 (.inr (Lib.ownBlock_ne o3 r5 (by decide)))
    replace o4 := o4.kept q5 (.inr (Lib.ownBlock_ne o4 r5 (by decide)))
    refine hK.out _ _ ⟨blk_gb hHeld.1 q5 (by omega), blk_gb hHeld.2 q5 (by omega)⟩ (fun hHeld => ?_)
    clear hK K
    try simp only [Act.put, List.getElem_toArray, List.getElem_cons_succ, List.getElem_cons_zero, List.setIfInBounds_toArray, List.set_cons_zero, List.set_cons_succ]
    refine' wpAnyH_take (i := 4) (v := .bool true) rfl (by kernel_rfl) (by kernel_rfl) (by kernel_rfl) (fun _ _ _ h => h) (Or.inl ⟨by rfl, fun w' hw' => by go_simp⟩) hHeld ?_
    try simp only [Act.put, List.getElem_toArray, List.getElem_cons_succ, List.getElem_cons_zero, List.setIfInBounds_toArray, List.set_cons_zero, List.set_cons_succ]
    refine wpAnyH_done (by kernel_rfl) ?_ _
    go_wp2
    refine bodyPost_ret (results_swap rfl rfl rfl b4 b5 (opC_size _ _ _ _ _ _ _ K2) (opC_size _ _ _ _ _ _ _ K1)) rfl ?_
    exact ⟨A5, c5, B5, d5, A6, c6, B6, d6, rfl, o1, o2, o3, o4, hx5⟩

end Go.Proofs.Ytmfngampccpkhaa

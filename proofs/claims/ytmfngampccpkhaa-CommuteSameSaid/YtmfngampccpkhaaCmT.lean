
/- commute.Swap: two Edits of one path. -/
import Derived.Test.YtmfngampccpkhaaCm3
set_option linter.unusedSimpArgs false
set_option linter.unusedVariables false
namespace Go.Proofs.Ytmfngampccpkhaa
open Go.RowKit Go.Qc Go.Shelf
attribute [local go_sem] txt_size txt_append ib_fold txt_toL

set_option maxRecDepth 100000 in
set_option maxHeartbeats 40000000 in
theorem cswap_tog (D : OpD) (A : Option Addr) (n c : Nat) (B : Option Addr) (m d : Nat) (E : OpD) (A2 : Option Addr) (n2 c2 : Nat) (B2 : Option Addr) (m2 d2 : Nat) (w : World) (K1 : D.K.length = 32) (K2 : E.K.length = 32) (cP : ∀ W, Below w.heap.size w W → Calls Try.prog 15 #[.agg (opC D A n c B m d), .agg (opC E A2 n2 c2 B2 m2 d2)] W fun o w' => o = .returned (.bool true) ∧ Below W.heap.size W w') (cA : ∀ W, Below w.heap.size w W → Calls Try.prog 43 #[.agg (opC D A n c B m d)] W fun e w' => ∃ A' c' B' d', e = .returned (.agg (opC D A' n c' B' m d')) ∧ w'.ownsRow W.heap.size 9 1 (.slice A' n c') n (D.o.map strV) ∧ w'.ownsRow W.heap.size 9 1 (.slice B' m d') m (D.n.map strV) ∧ Below W.heap.size W w') (cC : ∀ W, Below w.heap.size w W → Calls Try.prog 43 #[.agg (opC E A2 n2 c2 B2 m2 d2)] W fun e w' => ∃ A' c' B' d', e = .returned (.agg (opC E A' n2 c' B' m2 d')) ∧ w'.ownsRow W.heap.size 9 1 (.slice A' n2 c') n2 (E.o.map strV) ∧ w'.ownsRow W.heap.size 9 1 (.slice B' m2 d') m2 (E.n.map strV) ∧ Below W.heap.size W w') (cT : ∀ W, Below w.heap.size w W → Calls Try.prog 23 #[.agg (opC D A n c B m d), .agg (opC E A2 n2 c2 B2 m2 d2)] W fun o w' => o = .returned (.bool true) ∧ Below W.heap.size W w') (ea da : Int) (cH1 : ∀ W, Below w.heap.size w W → Calls Try.prog 25 #[.agg (opC D A n c B m d)] W fun e w' => ∃ A' c' B' d', e = .returned (.agg #[.int .i64 D.a, .slice A' n c', .slice B' m d']) ∧ w'.ownsRow W.heap.size 9 1 (.slice A' n c') n (D.o.map strV) ∧ w'.ownsRow W.heap.size 9 1 (.slice B' m d') m (D.n.map strV) ∧ Below W.heap.size W w') (cH2 : ∀ W, Below w.heap.size w W → Calls Try.prog 25 #[.agg (opC E A2 n2 c2 B2 m2 d2)] W fun e w' => ∃ A' c' B' d', e = .returned (.agg #[.int .i64 E.a, .slice A' n2 c', .slice B' m2 d']) ∧ w'.ownsRow W.heap.size 9 1 (.slice A' n2 c') n2 (E.o.map strV) ∧ w'.ownsRow W.heap.size 9 1 (.slice B' m2 d') m2 (E.n.map strV) ∧ Below W.heap.size W w') (cS : ∀ (W : World) (A7 : Option Addr) (c7 : Nat) (B7 : Option Addr) (d7 : Nat) (A8 : Option Addr) (c8 : Nat) (B8 : Option Addr) (d8 : Nat) (b3 b4 : Nat), Below w.heap.size w W → W.ownsRow b3 9 1 (.slice A7 n c7) n (D.o.map strV) → W.ownsRow b3 9 1 (.slice B7 m d7) m (D.n.map strV) → W.ownsRow b4 9 1 (.slice A8 n2 c8) n2 (E.o.map strV) → W.ownsRow b4 9 1 (.slice B8 m2 d8) m2 (E.n.map strV) → Calls Try.prog 49 #[.agg #[.int .i64 D.a, .slice A7 n c7, .slice B7 m d7], .agg #[.int .i64 E.a, .slice A8 n2 c8, .slice B8 m2 d8]] W fun e w' => ∃ u1 u2 u3 u4, e = .returned (.tuple #[.agg #[.int .i64 ea, u1, u2], .agg #[.int .i64 da, u3, u4], .bool true]) ∧ u1.oneCell' = true ∧ u2.oneCell' = true ∧ u3.oneCell' = true ∧ u4.oneCell' = true ∧ Below W.heap.size W w') :
    Calls Try.prog 29 #[.agg (opC D A n c B m d), .agg (opC E A2 n2 c2 B2 m2 d2)] w fun e w' => ∃ A5 c5 B5 d5 A6 c6 B6 d6, e = .returned (.tuple #[.agg (opC { E with a := ea } A5 n2 c5 B5 m2 d5), .agg (opC { D with a := da } A6 n c6 B6 m d6), .bool true]) ∧ w'.ownsRow w.heap.size 9 1 (.slice A5 n2 c5) n2 (E.o.map strV) ∧ w'.ownsRow w.heap.size 9 1 (.slice B5 m2 d5) m2 (E.n.map strV) ∧ w'.ownsRow w.heap.size 9 1 (.slice A6 n c6) n (D.o.map strV) ∧ w'.ownsRow w.heap.size 9 1 (.slice B6 m d6) m (D.n.map strV) ∧ Below w.heap.size w w' := by
  obtain ⟨zc, hzc, hz0⟩ : ∃ zc : Array Value, Hid (zc = #[.int .i64 0, .string ⟨#[]⟩, .string ⟨#[]⟩, .int .i64 0, .slice none 0 0, .slice none 0 0, .int .u8 0, .int .u8 0, .int .u8 0, .int .u8 0, .int .u8 0, .int .u8 0, .int .u8 0, .int .u8 0, .int .u8 0, .int .u8 0, .int .u8 0, .int .u8 0, .int .u8 0, .int .u8 0, .int .u8 0, .int .u8 0, .int .u8 0, .int .u8 0, .int .u8 0, .int .u8 0, .int .u8 0, .int .u8 0, .int .u8 0, .int .u8 0, .int .u8 0, .int .u8 0, .int .u8 0, .int .u8 0, .int .u8 0, .int .u8 0, .int .u8 0, .int .u8 0, .int .i64 0]) ∧ zc.size = 39 := ⟨_, hid rfl, rfl⟩
  have hh := SwO.new w D A n c B m d E A2 n2 c2 B2 m2 d2 zc
  go_enter Try.func29, Try.ntmps29
  go_upto_region 1 with (fail)
  rw [← hzc.out]
  generalize (((w.alloc (.cells (opC D A n c B m d) 42)).alloc (.cells (opC E A2 n2 c2 B2 m2 d2) 42)).alloc (.cells zc 42)).alloc (.cells zc 42) = W0 at *
  go_wp2_with (first
    | (with_reducible refine wpList_load_opx (by with_unfolding_all rfl) _ rfl _ rfl hh.k.a K1 ?_)
    | (with_reducible refine wpList_load_opx (by with_unfolding_all rfl) _ rfl _ rfl hh.k.b K2 ?_)
    | (go_at_call 15; (with_reducible refine (cP _ hh.k.x).mono ?_); rintro e1 w1 ⟨rfl, hb⟩; replace hh := hh.below hb; clear hb))
  refine Code.wp_mono (Q := fun x a' W => x = .normal ∧ ∃ g7 g8 A5 c5 B5 d5 A6 c6 B6 d6, a' = { tmps := #[.agg (opC D A n c B m d), .agg (opC E A2 n2 c2 B2 m2 d2), .pointer (some ⟨w.heap.size, 0, none⟩), .pointer (some ⟨w.heap.size + 1, 0, none⟩), .pointer (some ⟨w.heap.size + 1 + 1, 0, none⟩), .pointer (some ⟨w.heap.size + 1 + 1 + 1, 0, none⟩), .bool false, .pointer (some ⟨g7, 0, none⟩), .pointer (some ⟨g8, 0, none⟩), undef, undef, undef, .agg (opC D A n c B m d), .agg (opC E A2 n2 c2 B2 m2 d2), .bool true, .bool false, undef, undef, .agg (opC E A2 n2 c2 B2 m2 d2), .agg (opC E A5 n2 c5 B5 m2 d5), .agg (opC D A n c B m d), .agg (opC D A6 n c6 B6 m d6), undef, undef, undef, undef, undef, undef, undef, undef, undef, undef, undef, undef, undef, undef, undef, undef, undef, undef, undef, undef], defers := [] } ∧ SwO w W D A n c B m d E A2 n2 c2 B2 m2 d2 zc ∧ Blk W g7 42 (opC E A5 n2 c5 B5 m2 d5) ∧ Blk W g8 42 (opC D A6 n c6 B6 m d6) ∧ w.heap.size + 4 ≤ g7 ∧ w.heap.size + 4 ≤ g8 ∧ g8 ≠ g7 ∧ W.ownsRow w.heap.size 9 1 (.slice A5 n2 c5) n2 (E.o.map strV) ∧ W.ownsRow w.heap.size 9 1 (.slice B5 m2 d5) m2 (E.n.map strV) ∧ W.ownsRow w.heap.size 9 1 (.slice A6 n c6) n (D.o.map strV) ∧ W.ownsRow w.heap.size 9 1 (.slice B6 m d6) m (D.n.map strV)) ?cont ?reg
  case reg =>
    refine wp_region_held_drew (S := fun W => SwO w W D A n c B m d E A2 n2 c2 B2 m2 d2 zc) (by kernel_rfl) (hh.below (below_drew10 _)) (fun hHeld => ?_)
    generalize World.drew _ = W1 at *
    clear hh
    have fin : ∀ (g7 g8 : Nat) (A5 : Option Addr) (c5 : Nat) (B5 : Option Addr) (d5 : Nat) (A6 : Option Addr) (c6 : Nat) (B6 : Option Addr) (d6 : Nat) (W : World), SwO w W D A n c B m d E A2 n2 c2 B2 m2 d2 zc → Blk W g7 42 (opC E A5 n2 c5 B5 m2 d5) → Blk W g8 42 (opC D A6 n c6 B6 m d6) → w.heap.size + 4 ≤ g7 → w.heap.size + 4 ≤ g8 → g8 ≠ g7 → W.ownsRow w.heap.size 9 1 (.slice A5 n2 c5) n2 (E.o.map strV) → W.ownsRow w.heap.size 9 1 (.slice B5 m2 d5) m2 (E.n.map strV) → W.ownsRow w.heap.size 9 1 (.slice A6 n c6) n (D.o.map strV) → W.ownsRow w.heap.size 9 1 (.slice B6 m d6) m (D.n.map strV) → (fun x a' W => x = .normal ∧ ∃ g7 g8 A5 c5 B5 d5 A6 c6 B6 d6, a' = { tmps := #[.agg (opC D A n c B m d), .agg (opC E A2 n2 c2 B2 m2 d2), .pointer (some ⟨w.heap.size, 0, none⟩), .pointer (some ⟨w.heap.size + 1, 0, none⟩), .pointer (some ⟨w.heap.size + 1 + 1, 0, none⟩), .pointer (some ⟨w.heap.size + 1 + 1 + 1, 0, none⟩), .bool false, .pointer (some ⟨g7, 0, none⟩), .pointer (some ⟨g8, 0, none⟩), undef, undef, undef, .agg (opC D A n c B m d), .agg (opC E A2 n2 c2 B2 m2 d2), .bool true, .bool false, undef, undef, .agg (opC E A2 n2 c2 B2 m2 d2), .agg (opC E A5 n2 c5 B5 m2 d5), .agg (opC D A n c B m d), .agg (opC D A6 n c6 B6 m d6), undef, undef, undef, undef, undef, undef, undef, undef, undef, undef, undef, undef, undef, undef, undef, undef, undef, undef, undef, undef], defers := [] } ∧ SwO w W D A n c B m d E A2 n2 c2 B2 m2 d2 zc ∧ Blk W g7 42 (opC E A5 n2 c5 B5 m2 d5) ∧ Blk W g8 42 (opC D A6 n c6 B6 m d6) ∧ w.heap.size + 4 ≤ g7 ∧ w.heap.size + 4 ≤ g8 ∧ g8 ≠ g7 ∧ W.ownsRow w.heap.size 9 1 (.slice A5 n2 c5) n2 (E.o.map strV) ∧ W.ownsRow w.heap.size 9 1 (.slice B5 m2 d5) m2 (E.n.map strV) ∧ W.ownsRow w.heap.size 9 1 (.slice A6 n c6) n (D.o.map strV) ∧ W.ownsRow w.heap.size 9 1 (.slice B6 m d6) m (D.n.map strV) : Exit → Act → World → Prop) Exit.normal ({ tmps := #[.agg (opC D A n c B m d), .agg (opC E A2 n2 c2 B2 m2 d2), .pointer (some ⟨w.heap.size, 0, none⟩), .pointer (some ⟨w.heap.size + 1, 0, none⟩), .pointer (some ⟨w.heap.size + 1 + 1, 0, none⟩), .pointer (some ⟨w.heap.size + 1 + 1 + 1, 0, none⟩), .bool false, .pointer (some ⟨g7, 0, none⟩), .pointer (some ⟨g8, 0, none⟩), undef, undef, undef, .agg (opC D A n c B m d), .agg (opC E A2 n2 c2 B2 m2 d2), .bool true, .bool false, undef, undef, .agg (opC E A2 n2 c2 B2 m2 d2), .agg (opC E A5 n2 c5 B5 m2 d5), .agg (opC D A n c B m d), .agg (opC D A6 n c6 B6 m d6), undef, undef, undef, undef, undef, undef, undef, undef, undef, undef, undef, undef, undef, undef, undef, undef, undef, undef, undef, undef], defers := [] } : Act) W := fun g7 g8 A5 c5 B5 d5 A6 c6 B6 d6 W h1 h2 h3 h4 h5 h6 h7 h8 h9 h10 => ⟨rfl, g7, g8, A5, c5, B5, d5, A6, c6, B6, d6, rfl, h1, h2, h3, h4, h5, h6, h7, h8, h9, h10⟩
    refine' wpAnyH_take (i := 0) (v := .agg (opC E A2 n2 c2 B2 m2 d2)) rfl (by kernel_rfl) (by kernel_rfl) (by kernel_rfl) (fun _ _ _ h => nomatch h.1) (yields_opx (by rfl) _ rfl _ rfl (fun w' h => h.k.b) K2) hHeld ?_
    try simp only [Act.put, List.getElem_toArray, List.getElem_cons_succ, List.getElem_cons_zero, List.setIfInBounds_toArray, List.set_cons_zero, List.set_cons_succ]
    refine' wpAnyH_take (i := 2) (v := .agg (opC D A n c B m d)) rfl (by kernel_rfl) (by kernel_rfl) (by kernel_rfl) (fun _ _ _ h => nomatch h.1) (yields_opx (by rfl) _ rfl _ rfl (fun w' h => h.k.a) K1) hHeld ?_
    try simp only [Act.put, List.getElem_toArray, List.getElem_cons_succ, List.getElem_cons_zero, List.setIfInBounds_toArray, List.set_cons_zero, List.set_cons_succ]
    refine wpAnyH_ready (rs := [1, 4, 5]) (by kernel_rfl) (by simp) ?_
    refine AllReadyH.cons rfl (fun K hK => ?_) (AllReadyH.cons rfl (fun K hK => ?_) (AllReadyH.cons rfl (fun K hK => ?_) AllReadyH.nil))
    · as_aux_lemma =>
        go_simp
        (with_reducible refine (cC _ hHeld.k.x).mono ?_)
        rintro e9 W1x ⟨A5, c5, B5, d5, rfl, o1, o2, hb⟩
        replace o1 := own_le o1 hHeld.k.x.size
        replace o2 := own_le o2 hHeld.k.x.size
        refine hK.out _ _ (hHeld.below hb) (fun hHeld => ?_)
        clear hK K hb
        try simp only [Act.put, List.getElem_toArray, List.getElem_cons_succ, List.getElem_cons_zero, List.setIfInBounds_toArray, List.set_cons_zero, List.set_cons_succ]
        refine wpAnyH_ready (rs := [3, 4, 5]) (by kernel_rfl) (by simp) ?_
        refine AllReadyH.cons rfl (fun K hK => ?_) (AllReadyH.cons rfl (fun K hK => ?_) (AllReadyH.cons rfl (fun K hK => ?_) AllReadyH.nil))
        · as_aux_lemma =>
            go_simp
            (with_reducible refine (cA _ hHeld.k.x).mono ?_)
            rintro e9 W1xx ⟨A6, c6, B6, d6, rfl, o3, o4, hb⟩
            replace o3 := own_le o3 hHeld.k.x.size
            replace o4 := own_le o4 hHeld.k.x.size
            replace o1 := own_below o1 hb
            replace o2 := own_below o2 hb
            refine hK.out _ _ (hHeld.below hb) (fun hHeld => ?_)
            clear hK K hb
            try simp only [Act.put, List.getElem_toArray, List.getElem_cons_succ, List.getElem_cons_zero, List.setIfInBounds_toArray, List.set_cons_zero, List.set_cons_succ]
            refine wpAnyH_ready (rs := [4, 5]) (by kernel_rfl) (by simp) ?_
            refine AllReadyH.cons rfl (fun K hK => ?_) (AllReadyH.cons rfl (fun K hK => ?_) AllReadyH.nil)
            · as_aux_lemma =>
                go_simp
                rw [← hzc.out]
                have hb : Below W1xx.heap.size W1xx (W1xx.alloc (.cells zc 42)) := (Below.refl _ _).alloc (Nat.le_refl _) _
                have z7 := Blk.new W1xx 42 zc
                have n7 : w.heap.size + 4 ≤ W1xx.heap.size := by have := hHeld.r5.lt; omega
                replace o1 := own_below o1 hb
                replace o2 := own_below o2 hb
                replace o3 := own_below o3 hb
                replace o4 := own_below o4 hb
                refine hK.out _ _ (hHeld.below hb) (fun hHeld => ?_)
                clear hK K hb
                generalize W1xx.alloc (.cells zc 42) = W1xxx at *
                generalize W1xx.heap.size = g7 at *
                try simp only [Act.put, List.getElem_toArray, List.getElem_cons_succ, List.getElem_cons_zero, List.setIfInBounds_toArray, List.set_cons_zero, List.set_cons_succ]
                refine wpAnyH_ready (rs := [5]) (by kernel_rfl) (by simp) ?_
                refine AllReadyH.cons rfl (fun K hK => ?_) AllReadyH.nil
                go_simp
                rw [← hzc.out]
                have hb : Below W1xxx.heap.size W1xxx (W1xxx.alloc (.cells zc 42)) := (Below.refl _ _).alloc (Nat.le_refl _) _
                have z8 := Blk.new W1xxx 42 zc
                have n8 : w.heap.size + 4 ≤ W1xxx.heap.size := by have := hHeld.r5.lt; omega
                have ne : W1xxx.heap.size ≠ g7 := by have := z7.lt; omega
                replace o1 := own_below o1 hb
                replace o2 := own_below o2 hb
                replace o3 := own_below o3 hb
                replace o4 := own_below o4 hb
                replace z7 := z7.below hb
                refine hK.out _ _ (hHeld.below hb) (fun hHeld => ?_)
                clear hK K hb
                generalize W1xxx.alloc (.cells zc 42) = W1xxxx at *
                generalize W1xxx.heap.size = g8 at *
                try simp only [Act.put, List.getElem_toArray, List.getElem_cons_succ, List.getElem_cons_zero, List.setIfInBounds_toArray, List.set_cons_zero, List.set_cons_succ]
                refine wpAnyH_ready (rs := [6]) (by kernel_rfl) (by simp) ?_
                refine AllReadyH.cons rfl (fun K hK => ?_) AllReadyH.nil
                refine wp_store_whole 42 _ _ rfl g7 zc (opC E A5 n2 c5 B5 m2 d5) 42 z7 rfl rfl (opC_info _ _ _ _ _ _ _ K2) (by rw [opC_size _ _ _ _ _ _ _ K2, hz0]) (opC_one _ _ _ _ _ _ _) ?_
                intro W1xxxxx hb hg
                replace o1 := o1.kept hg (.inr (Lib.ownBlock_ne o1 z7 (by decide)))
                replace o2 := o2.kept hg (.inr (Lib.ownBlock_ne o2 z7 (by decide)))
                replace o3 := o3.kept hg (.inr (Lib.ownBlock_ne o3 z7 (by decide)))
                replace o4 := o4.kept hg (.inr (Lib.ownBlock_ne o4 z7 (by decide)))
                replace z8 := blk_gb z8 hg (by omega)
                refine hK.out _ _ (hHeld.gb hg (by omega)) (fun hHeld => ?_)
                clear hK K hg
                replace z7 := hb
                clear hb
                try simp only [Act.put, List.getElem_toArray, List.getElem_cons_succ, List.getElem_cons_zero, List.setIfInBounds_toArray, List.set_cons_zero, List.set_cons_succ]
                refine wpAnyH_ready (rs := [7]) (by kernel_rfl) (by simp) ?_
                refine AllReadyH.cons rfl (fun K hK => ?_) AllReadyH.nil
                refine wp_store_whole 42 _ _ rfl g8 zc (opC D A6 n c6 B6 m d6) 42 z8 rfl rfl (opC_info _ _ _ _ _ _ _ K1) (by rw [opC_size _ _ _ _ _ _ _ K1, hz0]) (opC_one _ _ _ _ _ _ _) ?_
                intro W1xxxxxx hb hg
                replace o1 := o1.kept hg (.inr (Lib.ownBlock_ne o1 z8 (by decide)))
                replace o2 := o2.kept hg (.inr (Lib.ownBlock_ne o2 z8 (by decide)))
                replace o3 := o3.kept hg (.inr (Lib.ownBlock_ne o3 z8 (by decide)))
                replace o4 := o4.kept hg (.inr (Lib.ownBlock_ne o4 z8 (by decide)))
                replace z7 := blk_gb z7 hg (by omega)
                refine hK.out _ _ (hHeld.gb hg (by omega)) (fun hHeld => ?_)
                clear hK K hg
                replace z8 := hb
                clear hb
                try simp only [Act.put, List.getElem_toArray, List.getElem_cons_succ, List.getElem_cons_zero, List.setIfInBounds_toArray, List.set_cons_zero, List.set_cons_succ]
                refine wpAnyH_done (by kernel_rfl) ?_ _
                exact fin _ _ _ _ _ _ _ _ _ _ _ hHeld z7 z8 n7 n8 ne o1 o2 o3 o4
            · as_aux_lemma =>
                go_simp
                rw [← hzc.out]
                have hb : Below W1xx.heap.size W1xx (W1xx.alloc (.cells zc 42)) := (Below.refl _ _).alloc (Nat.le_refl _) _
                have z8 := Blk.new W1xx 42 zc
                have n8 : w.heap.size + 4 ≤ W1xx.heap.size := by have := hHeld.r5.lt; omega
                replace o1 := own_below o1 hb
                replace o2 := own_below o2 hb
                replace o3 := own_below o3 hb
                replace o4 := own_below o4 hb
                refine hK.out _ _ (hHeld.below hb) (fun hHeld => ?_)
                clear hK K hb
                generalize W1xx.alloc (.cells zc 42) = W1xxx at *
                generalize W1xx.heap.size = g8 at *
                try simp only [Act.put, List.getElem_toArray, List.getElem_cons_succ, List.getElem_cons_zero, List.setIfInBounds_toArray, List.set_cons_zero, List.set_cons_succ]
                refine wpAnyH_ready (rs := [4]) (by kernel_rfl) (by simp) ?_
                refine AllReadyH.cons rfl (fun K hK => ?_) AllReadyH.nil
                go_simp
                rw [← hzc.out]
                have hb : Below W1xxx.heap.size W1xxx (W1xxx.alloc (.cells zc 42)) := (Below.refl _ _).alloc (Nat.le_refl _) _
                have z7 := Blk.new W1xxx 42 zc
                have n7 : w.heap.size + 4 ≤ W1xxx.heap.size := by have := hHeld.r5.lt; omega
                have ne : g8 ≠ W1xxx.heap.size := by have := z8.lt; omega
                replace o1 := own_below o1 hb
                replace o2 := own_below o2 hb
                replace o3 := own_below o3 hb
                replace o4 := own_below o4 hb
                replace z8 := z8.below hb
                refine hK.out _ _ (hHeld.below hb) (fun hHeld => ?_)
                clear hK K hb
                generalize W1xxx.alloc (.cells zc 42) = W1xxxx at *
                generalize W1xxx.heap.size = g7 at *
                try simp only [Act.put, List.getElem_toArray, List.getElem_cons_succ, List.getElem_cons_zero, List.setIfInBounds_toArray, List.set_cons_zero, List.set_cons_succ]
                refine wpAnyH_ready (rs := [6]) (by kernel_rfl) (by simp) ?_
                refine AllReadyH.cons rfl (fun K hK => ?_) AllReadyH.nil
                refine wp_store_whole 42 _ _ rfl g7 zc (opC E A5 n2 c5 B5 m2 d5) 42 z7 rfl rfl (opC_info _ _ _ _ _ _ _ K2) (by rw [opC_size _ _ _ _ _ _ _ K2, hz0]) (opC_one _ _ _ _ _ _ _) ?_
                intro W1xxxxx hb hg
                replace o1 := o1.kept hg (.inr (Lib.ownBlock_ne o1 z7 (by decide)))
                replace o2 := o2.kept hg (.inr (Lib.ownBlock_ne o2 z7 (by decide)))
                replace o3 := o3.kept hg (.inr (Lib.ownBlock_ne o3 z7 (by decide)))
                replace o4 := o4.kept hg (.inr (Lib.ownBlock_ne o4 z7 (by decide)))
                replace z8 := blk_gb z8 hg (by omega)
                refine hK.out _ _ (hHeld.gb hg (by omega)) (fun hHeld => ?_)
                clear hK K hg
                replace z7 := hb
                clear hb
                try simp only [Act.put, List.getElem_toArray, List.getElem_cons_succ, List.getElem_cons_zero, List.setIfInBounds_toArray, List.set_cons_zero, List.set_cons_succ]
                refine wpAnyH_ready (rs := [7]) (by kernel_rfl) (by simp) ?_
                refine AllReadyH.cons rfl (fun K hK => ?_) AllReadyH.nil
                refine wp_store_whole 42 _ _ rfl g8 zc (opC D A6 n c6 B6 m d6) 42 z8 rfl rfl (opC_info _ _ _ _ _ _ _ K1) (by rw [opC_size _ _ _ _ _ _ _ K1, hz0]) (opC_one _ _ _ _ _ _ _) ?_
                intro W1xxxxxx hb hg
                replace o1 := o1.kept hg (.inr (Lib.ownBlock_ne o1 z8 (by decide)))
                replace o2 := o2.kept hg (.inr (Lib.ownBlock_ne o2 z8 (by decide)))
                replace o3 := o3.kept hg (.inr (Lib.ownBlock_ne o3 z8 (by decide)))
                replace o4 := o4.kept hg (.inr (Lib.ownBlock_ne o4 z8 (by decide)))
                replace z7 := blk_gb z7 hg (by omega)
                refine hK.out _ _ (hHeld.gb hg (by omega)) (fun hHeld => ?_)
                clear hK K hg
                replace z8 := hb
                clear hb
                try simp only [Act.put, List.getElem_toArray, List.getElem_cons_succ, List.getElem_cons_zero, List.setIfInBounds_toArray, List.set_cons_zero, List.set_cons_succ]
                refine wpAnyH_done (by kernel_rfl) ?_ _
                exact fin _ _ _ _ _ _ _ _ _ _ _ hHeld z7 z8 n7 n8 ne o1 o2 o3 o4
        · as_aux_lemma =>
            go_simp
            rw [← hzc.out]
            have hb : Below W1x.heap.size W1x (W1x.alloc (.cells zc 42)) := (Below.refl _ _).alloc (Nat.le_refl _) _
            have z7 := Blk.new W1x 42 zc
            have n7 : w.heap.size + 4 ≤ W1x.heap.size := by have := hHeld.r5.lt; omega
            replace o1 := own_below o1 hb
            replace o2 := own_below o2 hb
            refine hK.out _ _ (hHeld.below hb) (fun hHeld => ?_)
            clear hK K hb
            generalize W1x.alloc (.cells zc 42) = W1xx at *
            generalize W1x.heap.size = g7 at *
            try simp only [Act.put, List.getElem_toArray, List.getElem_cons_succ, List.getElem_cons_zero, List.setIfInBounds_toArray, List.set_cons_zero, List.set_cons_succ]
            refine wpAnyH_ready (rs := [3, 5]) (by kernel_rfl) (by simp) ?_
            refine AllReadyH.cons rfl (fun K hK => ?_) (AllReadyH.cons rfl (fun K hK => ?_) AllReadyH.nil)
            · as_aux_lemma =>
                go_simp
                (with_reducible refine (cA _ hHeld.k.x).mono ?_)
                rintro e9 W1xxx ⟨A6, c6, B6, d6, rfl, o3, o4, hb⟩
                replace o3 := own_le o3 hHeld.k.x.size
                replace o4 := own_le o4 hHeld.k.x.size
                replace o1 := own_below o1 hb
                replace o2 := own_below o2 hb
                replace z7 := z7.below hb
                refine hK.out _ _ (hHeld.below hb) (fun hHeld => ?_)
                clear hK K hb
                try simp only [Act.put, List.getElem_toArray, List.getElem_cons_succ, List.getElem_cons_zero, List.setIfInBounds_toArray, List.set_cons_zero, List.set_cons_succ]
                refine wpAnyH_ready (rs := [5]) (by kernel_rfl) (by simp) ?_
                refine AllReadyH.cons rfl (fun K hK => ?_) AllReadyH.nil
                go_simp
                rw [← hzc.out]
                have hb : Below W1xxx.heap.size W1xxx (W1xxx.alloc (.cells zc 42)) := (Below.refl _ _).alloc (Nat.le_refl _) _
                have z8 := Blk.new W1xxx 42 zc
                have n8 : w.heap.size + 4 ≤ W1xxx.heap.size := by have := hHeld.r5.lt; omega
                have ne : W1xxx.heap.size ≠ g7 := by have := z7.lt; omega
                replace o1 := own_below o1 hb
                replace o2 := own_below o2 hb
                replace o3 := own_below o3 hb
                replace o4 := own_below o4 hb
                replace z7 := z7.below hb
                refine hK.out _ _ (hHeld.below hb) (fun hHeld => ?_)
                clear hK K hb
                generalize W1xxx.alloc (.cells zc 42) = W1xxxx at *
                generalize W1xxx.heap.size = g8 at *
                try simp only [Act.put, List.getElem_toArray, List.getElem_cons_succ, List.getElem_cons_zero, List.setIfInBounds_toArray, List.set_cons_zero, List.set_cons_succ]
                refine wpAnyH_ready (rs := [6]) (by kernel_rfl) (by simp) ?_
                refine AllReadyH.cons rfl (fun K hK => ?_) AllReadyH.nil
                refine wp_store_whole 42 _ _ rfl g7 zc (opC E A5 n2 c5 B5 m2 d5) 42 z7 rfl rfl (opC_info _ _ _ _ _ _ _ K2) (by rw [opC_size _ _ _ _ _ _ _ K2, hz0]) (opC_one _ _ _ _ _ _ _) ?_
                intro W1xxxxx hb hg
                replace o1 := o1.kept hg (.inr (Lib.ownBlock_ne o1 z7 (by decide)))
                replace o2 := o2.kept hg (.inr (Lib.ownBlock_ne o2 z7 (by decide)))
                replace o3 := o3.kept hg (.inr (Lib.ownBlock_ne o3 z7 (by decide)))
                replace o4 := o4.kept hg (.inr (Lib.ownBlock_ne o4 z7 (by decide)))
                replace z8 := blk_gb z8 hg (by omega)
                refine hK.out _ _ (hHeld.gb hg (by omega)) (fun hHeld => ?_)
                clear hK K hg
                replace z7 := hb
                clear hb
                try simp only [Act.put, List.getElem_toArray, List.getElem_cons_succ, List.getElem_cons_zero, List.setIfInBounds_toArray, List.set_cons_zero, List.set_cons_succ]
                refine wpAnyH_ready (rs := [7]) (by kernel_rfl) (by simp) ?_
                refine AllReadyH.cons rfl (fun K hK => ?_) AllReadyH.nil
                refine wp_store_whole 42 _ _ rfl g8 zc (opC D A6 n c6 B6 m d6) 42 z8 rfl rfl (opC_info _ _ _ _ _ _ _ K1) (by rw [opC_size _ _ _ _ _ _ _ K1, hz0]) (opC_one _ _ _ _ _ _ _) ?_
                intro W1xxxxxx hb hg
                replace o1 := o1.kept hg (.inr (Lib.ownBlock_ne o1 z8 (by decide)))
                replace o2 := o2.kept hg (.inr (Lib.ownBlock_ne o2 z8 (by decide)))
                replace o3 := o3.kept hg (.inr (Lib.ownBlock_ne o3 z8 (by decide)))
                replace o4 := o4.kept hg (.inr (Lib.ownBlock_ne o4 z8 (by decide)))
                replace z7 := blk_gb z7 hg (by omega)
                refine hK.out _ _ (hHeld.gb hg (by omega)) (fun hHeld => ?_)
                clear hK K hg
                replace z8 := hb
                clear hb
                try simp only [Act.put, List.getElem_toArray, List.getElem_cons_succ, List.getElem_cons_zero, List.setIfInBounds_toArray, List.set_cons_zero, List.set_cons_succ]
                refine wpAnyH_done (by kernel_rfl) ?_ _
                exact fin _ _ _ _ _ _ _ _ _ _ _ hHeld z7 z8 n7 n8 ne o1 o2 o3 o4
            · as_aux_lemma =>
                go_simp
                rw [← hzc.out]
                have hb : Below W1xx.heap.size W1xx (W1xx.alloc (.cells zc 42)) := (Below.refl _ _).alloc (Nat.le_refl _) _
                have z8 := Blk.new W1xx 42 zc
                have n8 : w.heap.size + 4 ≤ W1xx.heap.size := by have := hHeld.r5.lt; omega
                have ne : W1xx.heap.size ≠ g7 := by have := z7.lt; omega
                replace o1 := own_below o1 hb
                replace o2 := own_below o2 hb
                replace z7 := z7.below hb
                refine hK.out _ _ (hHeld.below hb) (fun hHeld => ?_)
                clear hK K hb
                generalize W1xx.alloc (.cells zc 42) = W1xxx at *
                generalize W1xx.heap.size = g8 at *
                try simp only [Act.put, List.getElem_toArray, List.getElem_cons_succ, List.getElem_cons_zero, List.setIfInBounds_toArray, List.set_cons_zero, List.set_cons_succ]
                refine wpAnyH_ready (rs := [3]) (by kernel_rfl) (by simp) ?_
                refine AllReadyH.cons rfl (fun K hK => ?_) AllReadyH.nil
                go_simp
                (with_reducible refine (cA _ hHeld.k.x).mono ?_)
                rintro e9 W1xxxx ⟨A6, c6, B6, d6, rfl, o3, o4, hb⟩
                replace o3 := own_le o3 hHeld.k.x.size
                replace o4 := own_le o4 hHeld.k.x.size
                replace o1 := own_below o1 hb
                replace o2 := own_below o2 hb
                replace z7 := z7.below hb
                replace z8 := z8.below hb
                refine hK.out _ _ (hHeld.below hb) (fun hHeld => ?_)
                clear hK K hb
                try simp only [Act.put, List.getElem_toArray, List.getElem_cons_succ, List.getElem_cons_zero, List.setIfInBounds_toArray, List.set_cons_zero, List.set_cons_succ]
                refine wpAnyH_ready (rs := [6]) (by kernel_rfl) (by simp) ?_
                refine AllReadyH.cons rfl (fun K hK => ?_) AllReadyH.nil
                refine wp_store_whole 42 _ _ rfl g7 zc (opC E A5 n2 c5 B5 m2 d5) 42 z7 rfl rfl (opC_info _ _ _ _ _ _ _ K2) (by rw [opC_size _ _ _ _ _ _ _ K2, hz0]) (opC_one _ _ _ _ _ _ _) ?_
                intro W1xxxxx hb hg
                replace o1 := o1.kept hg (.inr (Lib.ownBlock_ne o1 z7 (by decide)))
                replace o2 := o2.kept hg (.inr (Lib.ownBlock_ne o2 z7 (by decide)))
                replace o3 := o3.kept hg (.inr (Lib.ownBlock_ne o3 z7 (by decide)))
                replace o4 := o4.kept hg (.inr (Lib.ownBlock_ne o4 z7 (by decide)))
                replace z8 := blk_gb z8 hg (by omega)
                refine hK.out _ _ (hHeld.gb hg (by omega)) (fun hHeld => ?_)
                clear hK K hg
                replace z7 := hb
                clear hb
                try simp only [Act.put, List.getElem_toArray, List.getElem_cons_succ, List.getElem_cons_zero, List.setIfInBounds_toArray, List.set_cons_zero, List.set_cons_succ]
                refine wpAnyH_ready (rs := [7]) (by kernel_rfl) (by simp) ?_
                refine AllReadyH.cons rfl (fun K hK => ?_) AllReadyH.nil
                refine wp_store_whole 42 _ _ rfl g8 zc (opC D A6 n c6 B6 m d6) 42 z8 rfl rfl (opC_info _ _ _ _ _ _ _ K1) (by rw [opC_size _ _ _ _ _ _ _ K1, hz0]) (opC_one _ _ _ _ _ _ _) ?_
                intro W1xxxxxx hb hg
                replace o1 := o1.kept hg (.inr (Lib.ownBlock_ne o1 z8 (by decide)))
                replace o2 := o2.kept hg (.inr (Lib.ownBlock_ne o2 z8 (by decide)))
                replace o3 := o3.kept hg (.inr (Lib.ownBlock_ne o3 z8 (by decide)))
                replace o4 := o4.kept hg (.inr (Lib.ownBlock_ne o4 z8 (by decide)))
                replace z7 := blk_gb z7 hg (by omega)
                refine hK.out _ _ (hHeld.gb hg (by omega)) (fun hHeld => ?_)
                clear hK K hg
                replace z8 := hb
                clear hb
                try simp only [Act.put, List.getElem_toArray, List.getElem_cons_succ, List.getElem_cons_zero, List.setIfInBounds_toArray, List.set_cons_zero, List.set_cons_succ]
                refine wpAnyH_done (by kernel_rfl) ?_ _
                exact fin _ _ _ _ _ _ _ _ _ _ _ hHeld z7 z8 n7 n8 ne o1 o2 o3 o4
        · as_aux_lemma =>
            go_simp
            rw [← hzc.out]
            have hb : Below W1x.heap.size W1x (W1x.alloc (.cells zc 42)) := (Below.refl _ _).alloc (Nat.le_refl _) _
            have z8 := Blk.new W1x 42 zc
            have n8 : w.heap.size + 4 ≤ W1x.heap.size := by have := hHeld.r5.lt; omega
            replace o1 := own_below o1 hb
            replace o2 := own_below o2 hb
            refine hK.out _ _ (hHeld.below hb) (fun hHeld => ?_)
            clear hK K hb
            generalize W1x.alloc (.cells zc 42) = W1xx at *
            generalize W1x.heap.size = g8 at *
            try simp only [Act.put, List.getElem_toArray, List.getElem_cons_succ, List.getElem_cons_zero, List.setIfInBounds_toArray, List.set_cons_zero, List.set_cons_succ]
            refine wpAnyH_ready (rs := [3, 4]) (by kernel_rfl) (by simp) ?_
            refine AllReadyH.cons rfl (fun K hK => ?_) (AllReadyH.cons rfl (fun K hK => ?_) AllReadyH.nil)
            · as_aux_lemma =>
                go_simp
                (with_reducible refine (cA _ hHeld.k.x).mono ?_)
                rintro e9 W1xxx ⟨A6, c6, B6, d6, rfl, o3, o4, hb⟩
                replace o3 := own_le o3 hHeld.k.x.size
                replace o4 := own_le o4 hHeld.k.x.size
                replace o1 := own_below o1 hb
                replace o2 := own_below o2 hb
                replace z8 := z8.below hb
                refine hK.out _ _ (hHeld.below hb) (fun hHeld => ?_)
                clear hK K hb
                try simp only [Act.put, List.getElem_toArray, List.getElem_cons_succ, List.getElem_cons_zero, List.setIfInBounds_toArray, List.set_cons_zero, List.set_cons_succ]
                refine wpAnyH_ready (rs := [4]) (by kernel_rfl) (by simp) ?_
                refine AllReadyH.cons rfl (fun K hK => ?_) AllReadyH.nil
                go_simp
                rw [← hzc.out]
                have hb : Below W1xxx.heap.size W1xxx (W1xxx.alloc (.cells zc 42)) := (Below.refl _ _).alloc (Nat.le_refl _) _
                have z7 := Blk.new W1xxx 42 zc
                have n7 : w.heap.size + 4 ≤ W1xxx.heap.size := by have := hHeld.r5.lt; omega
                have ne : g8 ≠ W1xxx.heap.size := by have := z8.lt; omega
                replace o1 := own_below o1 hb
                replace o2 := own_below o2 hb
                replace o3 := own_below o3 hb
                replace o4 := own_below o4 hb
                replace z8 := z8.below hb
                refine hK.out _ _ (hHeld.below hb) (fun hHeld => ?_)
                clear hK K hb
                generalize W1xxx.alloc (.cells zc 42) = W1xxxx at *
                generalize W1xxx.heap.size = g7 at *
                try simp only [Act.put, List.getElem_toArray, List.getElem_cons_succ, List.getElem_cons_zero, List.setIfInBounds_toArray, List.set_cons_zero, List.set_cons_succ]
                refine wpAnyH_ready (rs := [6]) (by kernel_rfl) (by simp) ?_
                refine AllReadyH.cons rfl (fun K hK => ?_) AllReadyH.nil
                refine wp_store_whole 42 _ _ rfl g7 zc (opC E A5 n2 c5 B5 m2 d5) 42 z7 rfl rfl (opC_info _ _ _ _ _ _ _ K2) (by rw [opC_size _ _ _ _ _ _ _ K2, hz0]) (opC_one _ _ _ _ _ _ _) ?_
                intro W1xxxxx hb hg
                replace o1 := o1.kept hg (.inr (Lib.ownBlock_ne o1 z7 (by decide)))
                replace o2 := o2.kept hg (.inr (Lib.ownBlock_ne o2 z7 (by decide)))
                replace o3 := o3.kept hg (.inr (Lib.ownBlock_ne o3 z7 (by decide)))
                replace o4 := o4.kept hg (.inr (Lib.ownBlock_ne o4 z7 (by decide)))
                replace z8 := blk_gb z8 hg (by omega)
                refine hK.out _ _ (hHeld.gb hg (by omega)) (fun hHeld => ?_)
                clear hK K hg
                replace z7 := hb
                clear hb
                try simp only [Act.put, List.getElem_toArray, List.getElem_cons_succ, List.getElem_cons_zero, List.setIfInBounds_toArray, List.set_cons_zero, List.set_cons_succ]
                refine wpAnyH_ready (rs := [7]) (by kernel_rfl) (by simp) ?_
                refine AllReadyH.cons rfl (fun K hK => ?_) AllReadyH.nil
                refine wp_store_whole 42 _ _ rfl g8 zc (opC D A6 n c6 B6 m d6) 42 z8 rfl rfl (opC_info _ _ _ _ _ _ _ K1) (by rw [opC_size _ _ _ _ _ _ _ K1, hz0]) (opC_one _ _ _ _ _ _ _) ?_
                intro W1xxxxxx hb hg
                replace o1 := o1.kept hg (.inr (Lib.ownBlock_ne o1 z8 (by decide)))
                replace o2 := o2.kept hg (.inr (Lib.ownBlock_ne o2 z8 (by decide)))
                replace o3 := o3.kept hg (.inr (Lib.ownBlock_ne o3 z8 (by decide)))
                replace o4 := o4.kept hg (.inr (Lib.ownBlock_ne o4 z8 (by decide)))
                replace z7 := blk_gb z7 hg (by omega)
                refine hK.out _ _ (hHeld.gb hg (by omega)) (fun hHeld => ?_)
                clear hK K hg
                replace z8 := hb
                clear hb
                try simp only [Act.put, List.getElem_toArray, List.getElem_cons_succ, List.getElem_cons_zero, List.setIfInBounds_toArray, List.set_cons_zero, List.set_cons_succ]
                refine wpAnyH_done (by kernel_rfl) ?_ _
                exact fin _ _ _ _ _ _ _ _ _ _ _ hHeld z7 z8 n7 n8 ne o1 o2 o3 o4
            · as_aux_lemma =>
                go_simp
                rw [← hzc.out]
                have hb : Below W1xx.heap.size W1xx (W1xx.alloc (.cells zc 42)) := (Below.refl _ _).alloc (Nat.le_refl _) _
                have z7 := Blk.new W1xx 42 zc
                have n7 : w.heap.size + 4 ≤ W1xx.heap.size := by have := hHeld.r5.lt; omega
                have ne : g8 ≠ W1xx.heap.size := by have := z8.lt; omega
                replace o1 := own_below o1 hb
                replace o2 := own_below o2 hb
                replace z8 := z8.below hb
                refine hK.out _ _ (hHeld.below hb) (fun hHeld => ?_)
                clear hK K hb
                generalize W1xx.alloc (.cells zc 42) = W1xxx at *
                generalize W1xx.heap.size = g7 at *
                try simp only [Act.put, List.getElem_toArray, List.getElem_cons_succ, List.getElem_cons_zero, List.setIfInBounds_toArray, List.set_cons_zero, List.set_cons_succ]
                refine wpAnyH_ready (rs := [3]) (by kernel_rfl) (by simp) ?_
                refine AllReadyH.cons rfl (fun K hK => ?_) AllReadyH.nil
                go_simp
                (with_reducible refine (cA _ hHeld.k.x).mono ?_)
                rintro e9 W1xxxx ⟨A6, c6, B6, d6, rfl, o3, o4, hb⟩
                replace o3 := own_le o3 hHeld.k.x.size
                replace o4 := own_le o4 hHeld.k.x.size
                replace o1 := own_below o1 hb
                replace o2 := own_below o2 hb
                replace z8 := z8.below hb
                replace z7 := z7.below hb
                refine hK.out _ _ (hHeld.below hb) (fun hHeld => ?_)
                clear hK K hb
                try simp only [Act.put, List.getElem_toArray, List.getElem_cons_succ, List.getElem_cons_zero, List.setIfInBounds_toArray, List.set_cons_zero, List.set_cons_succ]
                refine wpAnyH_ready (rs := [6]) (by kernel_rfl) (by simp) ?_
                refine AllReadyH.cons rfl (fun K hK => ?_) AllReadyH.nil
                refine wp_store_whole 42 _ _ rfl g7 zc (opC E A5 n2 c5 B5 m2 d5) 42 z7 rfl rfl (opC_info _ _ _ _ _ _ _ K2) (by rw [opC_size _ _ _ _ _ _ _ K2, hz0]) (opC_one _ _ _ _ _ _ _) ?_
                intro W1xxxxx hb hg
                replace o1 := o1.kept hg (.inr (Lib.ownBlock_ne o1 z7 (by decide)))
                replace o2 := o2.kept hg (.inr (Lib.ownBlock_ne o2 z7 (by decide)))
                replace o3 := o3.kept hg (.inr (Lib.ownBlock_ne o3 z7 (by decide)))
                replace o4 := o4.kept hg (.inr (Lib.ownBlock_ne o4 z7 (by decide)))
                replace z8 := blk_gb z8 hg (by omega)
                refine hK.out _ _ (hHeld.gb hg (by omega)) (fun hHeld => ?_)
                clear hK K hg
                replace z7 := hb
                clear hb
                try simp only [Act.put, List.getElem_toArray, List.getElem_cons_succ, List.getElem_cons_zero, List.setIfInBounds_toArray, List.set_cons_zero, List.set_cons_succ]
                refine wpAnyH_ready (rs := [7]) (by kernel_rfl) (by simp) ?_
                refine AllReadyH.cons rfl (fun K hK => ?_) AllReadyH.nil
                refine wp_store_whole 42 _ _ rfl g8 zc (opC D A6 n c6 B6 m d6) 42 z8 rfl rfl (opC_info _ _ _ _ _ _ _ K1) (by rw [opC_size _ _ _ _ _ _ _ K1, hz0]) (opC_one _ _ _ _ _ _ _) ?_
                intro W1xxxxxx hb hg
                replace o1 := o1.kept hg (.inr (Lib.ownBlock_ne o1 z8 (by decide)))
                replace o2 := o2.kept hg (.inr (Lib.ownBlock_ne o2 z8 (by decide)))
                replace o3 := o3.kept hg (.inr (Lib.ownBlock_ne o3 z8 (by decide)))
                replace o4 := o4.kept hg (.inr (Lib.ownBlock_ne o4 z8 (by decide)))
                replace z7 := blk_gb z7 hg (by omega)
                refine hK.out _ _ (hHeld.gb hg (by omega)) (fun hHeld => ?_)
                clear hK K hg
                replace z8 := hb
                clear hb
                try simp only [Act.put, List.getElem_toArray, List.getElem_cons_succ, List.getElem_cons_zero, List.setIfInBounds_toArray, List.set_cons_zero, List.set_cons_succ]
                refine wpAnyH_done (by kernel_rfl) ?_ _
                exact fin _ _ _ _ _ _ _ _ _ _ _ hHeld z7 z8 n7 n8 ne o1 o2 o3 o4
    · as_aux_lemma =>
        go_simp
        rw [← hzc.out]
        have hb : Below W1.heap.size W1 (W1.alloc (.cells zc 42)) := (Below.refl _ _).alloc (Nat.le_refl _) _
        have z7 := Blk.new W1 42 zc
        have n7 : w.heap.size + 4 ≤ W1.heap.size := by have := hHeld.r5.lt; omega
        refine hK.out _ _ (hHeld.below hb) (fun hHeld => ?_)
        clear hK K hb
        generalize W1.alloc (.cells zc 42) = W1x at *
        generalize W1.heap.size = g7 at *
        try simp only [Act.put, List.getElem_toArray, List.getElem_cons_succ, List.getElem_cons_zero, List.setIfInBounds_toArray, List.set_cons_zero, List.set_cons_succ]
        refine wpAnyH_ready (rs := [1, 5]) (by kernel_rfl) (by simp) ?_
        refine AllReadyH.cons rfl (fun K hK => ?_) (AllReadyH.cons rfl (fun K hK => ?_) AllReadyH.nil)
        · as_aux_lemma =>
            go_simp
            (with_reducible refine (cC _ hHeld.k.x).mono ?_)
            rintro e9 W1xx ⟨A5, c5, B5, d5, rfl, o1, o2, hb⟩
            replace o1 := own_le o1 hHeld.k.x.size
            replace o2 := own_le o2 hHeld.k.x.size
            replace z7 := z7.below hb
            refine hK.out _ _ (hHeld.below hb) (fun hHeld => ?_)
            clear hK K hb
            try simp only [Act.put, List.getElem_toArray, List.getElem_cons_succ, List.getElem_cons_zero, List.setIfInBounds_toArray, List.set_cons_zero, List.set_cons_succ]
            refine wpAnyH_ready (rs := [3, 5]) (by kernel_rfl) (by simp) ?_
            refine AllReadyH.cons rfl (fun K hK => ?_) (AllReadyH.cons rfl (fun K hK => ?_) AllReadyH.nil)
            · as_aux_lemma =>
                go_simp
                (with_reducible refine (cA _ hHeld.k.x).mono ?_)
                rintro e9 W1xxx ⟨A6, c6, B6, d6, rfl, o3, o4, hb⟩
                replace o3 := own_le o3 hHeld.k.x.size
                replace o4 := own_le o4 hHeld.k.x.size
                replace o1 := own_below o1 hb
                replace o2 := own_below o2 hb
                replace z7 := z7.below hb
                refine hK.out _ _ (hHeld.below hb) (fun hHeld => ?_)
                clear hK K hb
                try simp only [Act.put, List.getElem_toArray, List.getElem_cons_succ, List.getElem_cons_zero, List.setIfInBounds_toArray, List.set_cons_zero, List.set_cons_succ]
                refine wpAnyH_ready (rs := [5]) (by kernel_rfl) (by simp) ?_
                refine AllReadyH.cons rfl (fun K hK => ?_) AllReadyH.nil
                go_simp
                rw [← hzc.out]
                have hb : Below W1xxx.heap.size W1xxx (W1xxx.alloc (.cells zc 42)) := (Below.refl _ _).alloc (Nat.le_refl _) _
                have z8 := Blk.new W1xxx 42 zc
                have n8 : w.heap.size + 4 ≤ W1xxx.heap.size := by have := hHeld.r5.lt; omega
                have ne : W1xxx.heap.size ≠ g7 := by have := z7.lt; omega
                replace o1 := own_below o1 hb
                replace o2 := own_below o2 hb
                replace o3 := own_below o3 hb
                replace o4 := own_below o4 hb
                replace z7 := z7.below hb
                refine hK.out _ _ (hHeld.below hb) (fun hHeld => ?_)
                clear hK K hb
                generalize W1xxx.alloc (.cells zc 42) = W1xxxx at *
                generalize W1xxx.heap.size = g8 at *
                try simp only [Act.put, List.getElem_toArray, List.getElem_cons_succ, List.getElem_cons_zero, List.setIfInBounds_toArray, List.set_cons_zero, List.set_cons_succ]
                refine wpAnyH_ready (rs := [6]) (by kernel_rfl) (by simp) ?_
                refine AllReadyH.cons rfl (fun K hK => ?_) AllReadyH.nil
                refine wp_store_whole 42 _ _ rfl g7 zc (opC E A5 n2 c5 B5 m2 d5) 42 z7 rfl rfl (opC_info _ _ _ _ _ _ _ K2) (by rw [opC_size _ _ _ _ _ _ _ K2, hz0]) (opC_one _ _ _ _ _ _ _) ?_
                intro W1xxxxx hb hg
                replace o1 := o1.kept hg (.inr (Lib.ownBlock_ne o1 z7 (by decide)))
                replace o2 := o2.kept hg (.inr (Lib.ownBlock_ne o2 z7 (by decide)))
                replace o3 := o3.kept hg (.inr (Lib.ownBlock_ne o3 z7 (by decide)))
                replace o4 := o4.kept hg (.inr (Lib.ownBlock_ne o4 z7 (by decide)))
                replace z8 := blk_gb z8 hg (by omega)
                refine hK.out _ _ (hHeld.gb hg (by omega)) (fun hHeld => ?_)
                clear hK K hg
                replace z7 := hb
                clear hb
                try simp only [Act.put, List.getElem_toArray, List.getElem_cons_succ, List.getElem_cons_zero, List.setIfInBounds_toArray, List.set_cons_zero, List.set_cons_succ]
                refine wpAnyH_ready (rs := [7]) (by kernel_rfl) (by simp) ?_
                refine AllReadyH.cons rfl (fun K hK => ?_) AllReadyH.nil
                refine wp_store_whole 42 _ _ rfl g8 zc (opC D A6 n c6 B6 m d6) 42 z8 rfl rfl (opC_info _ _ _ _ _ _ _ K1) (by rw [opC_size _ _ _ _ _ _ _ K1, hz0]) (opC_one _ _ _ _ _ _ _) ?_
                intro W1xxxxxx hb hg
                replace o1 := o1.kept hg (.inr (Lib.ownBlock_ne o1 z8 (by decide)))
                replace o2 := o2.kept hg (.inr (Lib.ownBlock_ne o2 z8 (by decide)))
                replace o3 := o3.kept hg (.inr (Lib.ownBlock_ne o3 z8 (by decide)))
                replace o4 := o4.kept hg (.inr (Lib.ownBlock_ne o4 z8 (by decide)))
                replace z7 := blk_gb z7 hg (by omega)
                refine hK.out _ _ (hHeld.gb hg (by omega)) (fun hHeld => ?_)
                clear hK K hg
                replace z8 := hb
                clear hb
                try simp only [Act.put, List.getElem_toArray, List.getElem_cons_succ, List.getElem_cons_zero, List.setIfInBounds_toArray, List.set_cons_zero, List.set_cons_succ]
                refine wpAnyH_done (by kernel_rfl) ?_ _
                exact fin _ _ _ _ _ _ _ _ _ _ _ hHeld z7 z8 n7 n8 ne o1 o2 o3 o4
            · as_aux_lemma =>
                go_simp
                rw [← hzc.out]
                have hb : Below W1xx.heap.size W1xx (W1xx.alloc (.cells zc 42)) := (Below.refl _ _).alloc (Nat.le_refl _) _
                have z8 := Blk.new W1xx 42 zc
                have n8 : w.heap.size + 4 ≤ W1xx.heap.size := by have := hHeld.r5.lt; omega
                have ne : W1xx.heap.size ≠ g7 := by have := z7.lt; omega
                replace o1 := own_below o1 hb
                replace o2 := own_below o2 hb
                replace z7 := z7.below hb
                refine hK.out _ _ (hHeld.below hb) (fun hHeld => ?_)
                clear hK K hb
                generalize W1xx.alloc (.cells zc 42) = W1xxx at *
                generalize W1xx.heap.size = g8 at *
                try simp only [Act.put, List.getElem_toArray, List.getElem_cons_succ, List.getElem_cons_zero, List.setIfInBounds_toArray, List.set_cons_zero, List.set_cons_succ]
                refine wpAnyH_ready (rs := [3]) (by kernel_rfl) (by simp) ?_
                refine AllReadyH.cons rfl (fun K hK => ?_) AllReadyH.nil
                go_simp
                (with_reducible refine (cA _ hHeld.k.x).mono ?_)
                rintro e9 W1xxxx ⟨A6, c6, B6, d6, rfl, o3, o4, hb⟩
                replace o3 := own_le o3 hHeld.k.x.size
                replace o4 := own_le o4 hHeld.k.x.size
                replace o1 := own_below o1 hb
                replace o2 := own_below o2 hb
                replace z7 := z7.below hb
                replace z8 := z8.below hb
                refine hK.out _ _ (hHeld.below hb) (fun hHeld => ?_)
                clear hK K hb
                try simp only [Act.put, List.getElem_toArray, List.getElem_cons_succ, List.getElem_cons_zero, List.setIfInBounds_toArray, List.set_cons_zero, List.set_cons_succ]
                refine wpAnyH_ready (rs := [6]) (by kernel_rfl) (by simp) ?_
                refine AllReadyH.cons rfl (fun K hK => ?_) AllReadyH.nil
                refine wp_store_whole 42 _ _ rfl g7 zc (opC E A5 n2 c5 B5 m2 d5) 42 z7 rfl rfl (opC_info _ _ _ _ _ _ _ K2) (by rw [opC_size _ _ _ _ _ _ _ K2, hz0]) (opC_one _ _ _ _ _ _ _) ?_
                intro W1xxxxx hb hg
                replace o1 := o1.kept hg (.inr (Lib.ownBlock_ne o1 z7 (by decide)))
                replace o2 := o2.kept hg (.inr (Lib.ownBlock_ne o2 z7 (by decide)))
                replace o3 := o3.kept hg (.inr (Lib.ownBlock_ne o3 z7 (by decide)))
                replace o4 := o4.kept hg (.inr (Lib.ownBlock_ne o4 z7 (by decide)))
                replace z8 := blk_gb z8 hg (by omega)
                refine hK.out _ _ (hHeld.gb hg (by omega)) (fun hHeld => ?_)
                clear hK K hg
                replace z7 := hb
                clear hb
                try simp only [Act.put, List.getElem_toArray, List.getElem_cons_succ, List.getElem_cons_zero, List.setIfInBounds_toArray, List.set_cons_zero, List.set_cons_succ]
                refine wpAnyH_ready (rs := [7]) (by kernel_rfl) (by simp) ?_
                refine AllReadyH.cons rfl (fun K hK => ?_) AllReadyH.nil
                refine wp_store_whole 42 _ _ rfl g8 zc (opC D A6 n c6 B6 m d6) 42 z8 rfl rfl (opC_info _ _ _ _ _ _ _ K1) (by rw [opC_size _ _ _ _ _ _ _ K1, hz0]) (opC_one _ _ _ _ _ _ _) ?_
                intro W1xxxxxx hb hg
                replace o1 := o1.kept hg (.inr (Lib.ownBlock_ne o1 z8 (by decide)))
                replace o2 := o2.kept hg (.inr (Lib.ownBlock_ne o2 z8 (by decide)))
                replace o3 := o3.kept hg (.inr (Lib.ownBlock_ne o3 z8 (by decide)))
                replace o4 := o4.kept hg (.inr (Lib.ownBlock_ne o4 z8 (by decide)))
                replace z7 := blk_gb z7 hg (by omega)
                refine hK.out _ _ (hHeld.gb hg (by omega)) (fun hHeld => ?_)
                clear hK K hg
                replace z8 := hb
                clear hb
                try simp only [Act.put, List.getElem_toArray, List.getElem_cons_succ, List.getElem_cons_zero, List.setIfInBounds_toArray, List.set_cons_zero, List.set_cons_succ]
                refine wpAnyH_done (by kernel_rfl) ?_ _
                exact fin _ _ _ _ _ _ _ _ _ _ _ hHeld z7 z8 n7 n8 ne o1 o2 o3 o4
        · as_aux_lemma =>
            go_simp
            rw [← hzc.out]
            have hb : Below W1x.heap.size W1x (W1x.alloc (.cells zc 42)) := (Below.refl _ _).alloc (Nat.le_refl _) _
            have z8 := Blk.new W1x 42 zc
            have n8 : w.heap.size + 4 ≤ W1x.heap.size := by have := hHeld.r5.lt; omega
            have ne : W1x.heap.size ≠ g7 := by have := z7.lt; omega
            replace z7 := z7.below hb
            refine hK.out _ _ (hHeld.below hb) (fun hHeld => ?_)
            clear hK K hb
            generalize W1x.alloc (.cells zc 42) = W1xx at *
            generalize W1x.heap.size = g8 at *
            try simp only [Act.put, List.getElem_toArray, List.getElem_cons_succ, List.getElem_cons_zero, List.setIfInBounds_toArray, List.set_cons_zero, List.set_cons_succ]
            refine wpAnyH_ready (rs := [1]) (by kernel_rfl) (by simp) ?_
            refine AllReadyH.cons rfl (fun K hK => ?_) AllReadyH.nil
            go_simp
            (with_reducible refine (cC _ hHeld.k.x).mono ?_)
            rintro e9 W1xxx ⟨A5, c5, B5, d5, rfl, o1, o2, hb⟩
            replace o1 := own_le o1 hHeld.k.x.size
            replace o2 := own_le o2 hHeld.k.x.size
            replace z7 := z7.below hb
            replace z8 := z8.below hb
            refine hK.out _ _ (hHeld.below hb) (fun hHeld => ?_)
            clear hK K hb
            try simp only [Act.put, List.getElem_toArray, List.getElem_cons_succ, List.getElem_cons_zero, List.setIfInBounds_toArray, List.set_cons_zero, List.set_cons_succ]
            refine wpAnyH_ready (rs := [3]) (by kernel_rfl) (by simp) ?_
            refine AllReadyH.cons rfl (fun K hK => ?_) AllReadyH.nil
            go_simp
            (with_reducible refine (cA _ hHeld.k.x).mono ?_)
            rintro e9 W1xxxx ⟨A6, c6, B6, d6, rfl, o3, o4, hb⟩
            replace o3 := own_le o3 hHeld.k.x.size
            replace o4 := own_le o4 hHeld.k.x.size
            replace o1 := own_below o1 hb
            replace o2 := own_below o2 hb
            replace z7 := z7.below hb
            replace z8 := z8.below hb
            refine hK.out _ _ (hHeld.below hb) (fun hHeld => ?_)
            clear hK K hb
            try simp only [Act.put, List.getElem_toArray, List.getElem_cons_succ, List.getElem_cons_zero, List.setIfInBounds_toArray, List.set_cons_zero, List.set_cons_succ]
            refine wpAnyH_ready (rs := [6]) (by kernel_rfl) (by simp) ?_
            refine AllReadyH.cons rfl (fun K hK => ?_) AllReadyH.nil
            refine wp_store_whole 42 _ _ rfl g7 zc (opC E A5 n2 c5 B5 m2 d5) 42 z7 rfl rfl (opC_info _ _ _ _ _ _ _ K2) (by rw [opC_size _ _ _ _ _ _ _ K2, hz0]) (opC_one _ _ _ _ _ _ _) ?_
            intro W1xxxxx hb hg
            replace o1 := o1.kept hg (.inr (Lib.ownBlock_ne o1 z7 (by decide)))
            replace o2 := o2.kept hg (.inr (Lib.ownBlock_ne o2 z7 (by decide)))
            replace o3 := o3.kept hg (.inr (Lib.ownBlock_ne o3 z7 (by decide)))
            replace o4 := o4.kept hg (.inr (Lib.ownBlock_ne o4 z7 (by decide)))
            replace z8 := blk_gb z8 hg (by omega)
            refine hK.out _ _ (hHeld.gb hg (by omega)) (fun hHeld => ?_)
            clear hK K hg
            replace z7 := hb
            clear hb
            try simp only [Act.put, List.getElem_toArray, List.getElem_cons_succ, List.getElem_cons_zero, List.setIfInBounds_toArray, List.set_cons_zero, List.set_cons_succ]
            refine wpAnyH_ready (rs := [7]) (by kernel_rfl) (by simp) ?_
            refine AllReadyH.cons rfl (fun K hK => ?_) AllReadyH.nil
            refine wp_store_whole 42 _ _ rfl g8 zc (opC D A6 n c6 B6 m d6) 42 z8 rfl rfl (opC_info _ _ _ _ _ _ _ K1) (by rw [opC_size _ _ _ _ _ _ _ K1, hz0]) (opC_one _ _ _ _ _ _ _) ?_
            intro W1xxxxxx hb hg
            replace o1 := o1.kept hg (.inr (Lib.ownBlock_ne o1 z8 (by decide)))
            replace o2 := o2.kept hg (.inr (Lib.ownBlock_ne o2 z8 (by decide)))
            replace o3 := o3.kept hg (.inr (Lib.ownBlock_ne o3 z8 (by decide)))
            replace o4 := o4.kept hg (.inr (Lib.ownBlock_ne o4 z8 (by decide)))
            replace z7 := blk_gb z7 hg (by omega)
            refine hK.out _ _ (hHeld.gb hg (by omega)) (fun hHeld => ?_)
            clear hK K hg
            replace z8 := hb
            clear hb
            try simp only [Act.put, List.getElem_toArray, List.getElem_cons_succ, List.getElem_cons_zero, List.setIfInBounds_toArray, List.set_cons_zero, List.set_cons_succ]
            refine wpAnyH_done (by kernel_rfl) ?_ _
            exact fin _ _ _ _ _ _ _ _ _ _ _ hHeld z7 z8 n7 n8 ne o1 o2 o3 o4
    · as_aux_lemma =>
        go_simp
        rw [← hzc.out]
        have hb : Below W1.heap.size W1 (W1.alloc (.cells zc 42)) := (Below.refl _ _).alloc (Nat.le_refl _) _
        have z8 := Blk.new W1 42 zc
        have n8 : w.heap.size + 4 ≤ W1.heap.size := by have := hHeld.r5.lt; omega
        refine hK.out _ _ (hHeld.below hb) (fun hHeld => ?_)
        clear hK K hb
        generalize W1.alloc (.cells zc 42) = W1x at *
        generalize W1.heap.size = g8 at *
        try simp only [Act.put, List.getElem_toArray, List.getElem_cons_succ, List.getElem_cons_zero, List.setIfInBounds_toArray, List.set_cons_zero, List.set_cons_succ]
        refine wpAnyH_ready (rs := [1, 4]) (by kernel_rfl) (by simp) ?_
        refine AllReadyH.cons rfl (fun K hK => ?_) (AllReadyH.cons rfl (fun K hK => ?_) AllReadyH.nil)
        · as_aux_lemma =>
            go_simp
            (with_reducible refine (cC _ hHeld.k.x).mono ?_)
            rintro e9 W1xx ⟨A5, c5, B5, d5, rfl, o1, o2, hb⟩
            replace o1 := own_le o1 hHeld.k.x.size
            replace o2 := own_le o2 hHeld.k.x.size
            replace z8 := z8.below hb
            refine hK.out _ _ (hHeld.below hb) (fun hHeld => ?_)
            clear hK K hb
            try simp only [Act.put, List.getElem_toArray, List.getElem_cons_succ, List.getElem_cons_zero, List.setIfInBounds_toArray, List.set_cons_zero, List.set_cons_succ]
            refine wpAnyH_ready (rs := [3, 4]) (by kernel_rfl) (by simp) ?_
            refine AllReadyH.cons rfl (fun K hK => ?_) (AllReadyH.cons rfl (fun K hK => ?_) AllReadyH.nil)
            · as_aux_lemma =>
                go_simp
                (with_reducible refine (cA _ hHeld.k.x).mono ?_)
                rintro e9 W1xxx ⟨A6, c6, B6, d6, rfl, o3, o4, hb⟩
                replace o3 := own_le o3 hHeld.k.x.size
                replace o4 := own_le o4 hHeld.k.x.size
                replace o1 := own_below o1 hb
                replace o2 := own_below o2 hb
                replace z8 := z8.below hb
                refine hK.out _ _ (hHeld.below hb) (fun hHeld => ?_)
                clear hK K hb
                try simp only [Act.put, List.getElem_toArray, List.getElem_cons_succ, List.getElem_cons_zero, List.setIfInBounds_toArray, List.set_cons_zero, List.set_cons_succ]
                refine wpAnyH_ready (rs := [4]) (by kernel_rfl) (by simp) ?_
                refine AllReadyH.cons rfl (fun K hK => ?_) AllReadyH.nil
                go_simp
                rw [← hzc.out]
                have hb : Below W1xxx.heap.size W1xxx (W1xxx.alloc (.cells zc 42)) := (Below.refl _ _).alloc (Nat.le_refl _) _
                have z7 := Blk.new W1xxx 42 zc
                have n7 : w.heap.size + 4 ≤ W1xxx.heap.size := by have := hHeld.r5.lt; omega
                have ne : g8 ≠ W1xxx.heap.size := by have := z8.lt; omega
                replace o1 := own_below o1 hb
                replace o2 := own_below o2 hb
                replace o3 := own_below o3 hb
                replace o4 := own_below o4 hb
                replace z8 := z8.below hb
                refine hK.out _ _ (hHeld.below hb) (fun hHeld => ?_)
                clear hK K hb
                generalize W1xxx.alloc (.cells zc 42) = W1xxxx at *
                generalize W1xxx.heap.size = g7 at *
                try simp only [Act.put, List.getElem_toArray, List.getElem_cons_succ, List.getElem_cons_zero, List.setIfInBounds_toArray, List.set_cons_zero, List.set_cons_succ]
                refine wpAnyH_ready (rs := [6]) (by kernel_rfl) (by simp) ?_
                refine AllReadyH.cons rfl (fun K hK => ?_) AllReadyH.nil
                refine wp_store_whole 42 _ _ rfl g7 zc (opC E A5 n2 c5 B5 m2 d5) 42 z7 rfl rfl (opC_info _ _ _ _ _ _ _ K2) (by rw [opC_size _ _ _ _ _ _ _ K2, hz0]) (opC_one _ _ _ _ _ _ _) ?_
                intro W1xxxxx hb hg
                replace o1 := o1.kept hg (.inr (Lib.ownBlock_ne o1 z7 (by decide)))
                replace o2 := o2.kept hg (.inr (Lib.ownBlock_ne o2 z7 (by decide)))
                replace o3 := o3.kept hg (.inr (Lib.ownBlock_ne o3 z7 (by decide)))
                replace o4 := o4.kept hg (.inr (Lib.ownBlock_ne o4 z7 (by decide)))
                replace z8 := blk_gb z8 hg (by omega)
                refine hK.out _ _ (hHeld.gb hg (by omega)) (fun hHeld => ?_)
                clear hK K hg
                replace z7 := hb
                clear hb
                try simp only [Act.put, List.getElem_toArray, List.getElem_cons_succ, List.getElem_cons_zero, List.setIfInBounds_toArray, List.set_cons_zero, List.set_cons_succ]
                refine wpAnyH_ready (rs := [7]) (by kernel_rfl) (by simp) ?_
                refine AllReadyH.cons rfl (fun K hK => ?_) AllReadyH.nil
                refine wp_store_whole 42 _ _ rfl g8 zc (opC D A6 n c6 B6 m d6) 42 z8 rfl rfl (opC_info _ _ _ _ _ _ _ K1) (by rw [opC_size _ _ _ _ _ _ _ K1, hz0]) (opC_one _ _ _ _ _ _ _) ?_
                intro W1xxxxxx hb hg
                replace o1 := o1.kept hg (.inr (Lib.ownBlock_ne o1 z8 (by decide)))
                replace o2 := o2.kept hg (.inr (Lib.ownBlock_ne o2 z8 (by decide)))
                replace o3 := o3.kept hg (.inr (Lib.ownBlock_ne o3 z8 (by decide)))
                replace o4 := o4.kept hg (.inr (Lib.ownBlock_ne o4 z8 (by decide)))
                replace z7 := blk_gb z7 hg (by omega)
                refine hK.out _ _ (hHeld.gb hg (by omega)) (fun hHeld => ?_)
                clear hK K hg
                replace z8 := hb
                clear hb
                try simp only [Act.put, List.getElem_toArray, List.getElem_cons_succ, List.getElem_cons_zero, List.setIfInBounds_toArray, List.set_cons_zero, List.set_cons_succ]
                refine wpAnyH_done (by kernel_rfl) ?_ _
                exact fin _ _ _ _ _ _ _ _ _ _ _ hHeld z7 z8 n7 n8 ne o1 o2 o3 o4
            · as_aux_lemma =>
                go_simp
                rw [← hzc.out]
                have hb : Below W1xx.heap.size W1xx (W1xx.alloc (.cells zc 42)) := (Below.refl _ _).alloc (Nat.le_refl _) _
                have z7 := Blk.new W1xx 42 zc
                have n7 : w.heap.size + 4 ≤ W1xx.heap.size := by have := hHeld.r5.lt; omega
                have ne : g8 ≠ W1xx.heap.size := by have := z8.lt; omega
                replace o1 := own_below o1 hb
                replace o2 := own_below o2 hb
                replace z8 := z8.below hb
                refine hK.out _ _ (hHeld.below hb) (fun hHeld => ?_)
                clear hK K hb
                generalize W1xx.alloc (.cells zc 42) = W1xxx at *
                generalize W1xx.heap.size = g7 at *
                try simp only [Act.put, List.getElem_toArray, List.getElem_cons_succ, List.getElem_cons_zero, List.setIfInBounds_toArray, List.set_cons_zero, List.set_cons_succ]
                refine wpAnyH_ready (rs := [3]) (by kernel_rfl) (by simp) ?_
                refine AllReadyH.cons rfl (fun K hK => ?_) AllReadyH.nil
                go_simp
                (with_reducible refine (cA _ hHeld.k.x).mono ?_)
                rintro e9 W1xxxx ⟨A6, c6, B6, d6, rfl, o3, o4, hb⟩
                replace o3 := own_le o3 hHeld.k.x.size
                replace o4 := own_le o4 hHeld.k.x.size
                replace o1 := own_below o1 hb
                replace o2 := own_below o2 hb
                replace z8 := z8.below hb
                replace z7 := z7.below hb
                refine hK.out _ _ (hHeld.below hb) (fun hHeld => ?_)
                clear hK K hb
                try simp only [Act.put, List.getElem_toArray, List.getElem_cons_succ, List.getElem_cons_zero, List.setIfInBounds_toArray, List.set_cons_zero, List.set_cons_succ]
                refine wpAnyH_ready (rs := [6]) (by kernel_rfl) (by simp) ?_
                refine AllReadyH.cons rfl (fun K hK => ?_) AllReadyH.nil
                refine wp_store_whole 42 _ _ rfl g7 zc (opC E A5 n2 c5 B5 m2 d5) 42 z7 rfl rfl (opC_info _ _ _ _ _ _ _ K2) (by rw [opC_size _ _ _ _ _ _ _ K2, hz0]) (opC_one _ _ _ _ _ _ _) ?_
                intro W1xxxxx hb hg
                replace o1 := o1.kept hg (.inr (Lib.ownBlock_ne o1 z7 (by decide)))
                replace o2 := o2.kept hg (.inr (Lib.ownBlock_ne o2 z7 (by decide)))
                replace o3 := o3.kept hg (.inr (Lib.ownBlock_ne o3 z7 (by decide)))
                replace o4 := o4.kept hg (.inr (Lib.ownBlock_ne o4 z7 (by decide)))
                replace z8 := blk_gb z8 hg (by omega)
                refine hK.out _ _ (hHeld.gb hg (by omega)) (fun hHeld => ?_)
                clear hK K hg
                replace z7 := hb
                clear hb
                try simp only [Act.put, List.getElem_toArray, List.getElem_cons_succ, List.getElem_cons_zero, List.setIfInBounds_toArray, List.set_cons_zero, List.set_cons_succ]
                refine wpAnyH_ready (rs := [7]) (by kernel_rfl) (by simp) ?_
                refine AllReadyH.cons rfl (fun K hK => ?_) AllReadyH.nil
                refine wp_store_whole 42 _ _ rfl g8 zc (opC D A6 n c6 B6 m d6) 42 z8 rfl rfl (opC_info _ _ _ _ _ _ _ K1) (by rw [opC_size _ _ _ _ _ _ _ K1, hz0]) (opC_one _ _ _ _ _ _ _) ?_
                intro W1xxxxxx hb hg
                replace o1 := o1.kept hg (.inr (Lib.ownBlock_ne o1 z8 (by decide)))
                replace o2 := o2.kept hg (.inr (Lib.ownBlock_ne o2 z8 (by decide)))
                replace o3 := o3.kept hg (.inr (Lib.ownBlock_ne o3 z8 (by decide)))
                replace o4 := o4.kept hg (.inr (Lib.ownBlock_ne o4 z8 (by decide)))
                replace z7 := blk_gb z7 hg (by omega)
                refine hK.out _ _ (hHeld.gb hg (by omega)) (fun hHeld => ?_)
                clear hK K hg
                replace z8 := hb
                clear hb
                try simp only [Act.put, List.getElem_toArray, List.getElem_cons_succ, List.getElem_cons_zero, List.setIfInBounds_toArray, List.set_cons_zero, List.set_cons_succ]
                refine wpAnyH_done (by kernel_rfl) ?_ _
                exact fin _ _ _ _ _ _ _ _ _ _ _ hHeld z7 z8 n7 n8 ne o1 o2 o3 o4
        · as_aux_lemma =>
            go_simp
            rw [← hzc.out]
            have hb : Below W1x.heap.size W1x (W1x.alloc (.cells zc 42)) := (Below.refl _ _).alloc (Nat.le_refl _) _
            have z7 := Blk.new W1x 42 zc
            have n7 : w.heap.size + 4 ≤ W1x.heap.size := by have := hHeld.r5.lt; omega
            have ne : g8 ≠ W1x.heap.size := by have := z8.lt; omega
            replace z8 := z8.below hb
            refine hK.out _ _ (hHeld.below hb) (fun hHeld => ?_)
            clear hK K hb
            generalize W1x.alloc (.cells zc 42) = W1xx at *
            generalize W1x.heap.size = g7 at *
            try simp only [Act.put, List.getElem_toArray, List.getElem_cons_succ, List.getElem_cons_zero, List.setIfInBounds_toArray, List.set_cons_zero, List.set_cons_succ]
            refine wpAnyH_ready (rs := [1]) (by kernel_rfl) (by simp) ?_
            refine AllReadyH.cons rfl (fun K hK => ?_) AllReadyH.nil
            go_simp
            (with_reducible refine (cC _ hHeld.k.x).mono ?_)
            rintro e9 W1xxx ⟨A5, c5, B5, d5, rfl, o1, o2, hb⟩
            replace o1 := own_le o1 hHeld.k.x.size
            replace o2 := own_le o2 hHeld.k.x.size
            replace z8 := z8.below hb
            replace z7 := z7.below hb
            refine hK.out _ _ (hHeld.below hb) (fun hHeld => ?_)
            clear hK K hb
            try simp only [Act.put, List.getElem_toArray, List.getElem_cons_succ, List.getElem_cons_zero, List.setIfInBounds_toArray, List.set_cons_zero, List.set_cons_succ]
            refine wpAnyH_ready (rs := [3]) (by kernel_rfl) (by simp) ?_
            refine AllReadyH.cons rfl (fun K hK => ?_) AllReadyH.nil
            go_simp
            (with_reducible refine (cA _ hHeld.k.x).mono ?_)
            rintro e9 W1xxxx ⟨A6, c6, B6, d6, rfl, o3, o4, hb⟩
            replace o3 := own_le o3 hHeld.k.x.size
            replace o4 := own_le o4 hHeld.k.x.size
            replace o1 := own_below o1 hb
            replace o2 := own_below o2 hb
            replace z8 := z8.below hb
            replace z7 := z7.below hb
            refine hK.out _ _ (hHeld.below hb) (fun hHeld => ?_)
            clear hK K hb
            try simp only [Act.put, List.getElem_toArray, List.getElem_cons_succ, List.getElem_cons_zero, List.setIfInBounds_toArray, List.set_cons_zero, List.set_cons_succ]
            refine wpAnyH_ready (rs := [6]) (by kernel_rfl) (by simp) ?_
            refine AllReadyH.cons rfl (fun K hK => ?_) AllReadyH.nil
            refine wp_store_whole 42 _ _ rfl g7 zc (opC E A5 n2 c5 B5 m2 d5) 42 z7 rfl rfl (opC_info _ _ _ _ _ _ _ K2) (by rw [opC_size _ _ _ _ _ _ _ K2, hz0]) (opC_one _ _ _ _ _ _ _) ?_
            intro W1xxxxx hb hg
            replace o1 := o1.kept hg (.inr (Lib.ownBlock_ne o1 z7 (by decide)))
            replace o2 := o2.kept hg (.inr (Lib.ownBlock_ne o2 z7 (by decide)))
            replace o3 := o3.kept hg (.inr (Lib.ownBlock_ne o3 z7 (by decide)))
            replace o4 := o4.kept hg (.inr (Lib.ownBlock_ne o4 z7 (by decide)))
            replace z8 := blk_gb z8 hg (by omega)
            refine hK.out _ _ (hHeld.gb hg (by omega)) (fun hHeld => ?_)
            clear hK K hg
            replace z7 := hb
            clear hb
            try simp only [Act.put, List.getElem_toArray, List.getElem_cons_succ, List.getElem_cons_zero, List.setIfInBounds_toArray, List.set_cons_zero, List.set_cons_succ]
            refine wpAnyH_ready (rs := [7]) (by kernel_rfl) (by simp) ?_
            refine AllReadyH.cons rfl (fun K hK => ?_) AllReadyH.nil
            refine wp_store_whole 42 _ _ rfl g8 zc (opC D A6 n c6 B6 m d6) 42 z8 rfl rfl (opC_info _ _ _ _ _ _ _ K1) (by rw [opC_size _ _ _ _ _ _ _ K1, hz0]) (opC_one _ _ _ _ _ _ _) ?_
            intro W1xxxxxx hb hg
            replace o1 := o1.kept hg (.inr (Lib.ownBlock_ne o1 z8 (by decide)))
            replace o2 := o2.kept hg (.inr (Lib.ownBlock_ne o2 z8 (by decide)))
            replace o3 := o3.kept hg (.inr (Lib.ownBlock_ne o3 z8 (by decide)))
            replace o4 := o4.kept hg (.inr (Lib.ownBlock_ne o4 z8 (by decide)))
            replace z7 := blk_gb z7 hg (by omega)
            refine hK.out _ _ (hHeld.gb hg (by omega)) (fun hHeld => ?_)
            clear hK K hg
            replace z8 := hb
            clear hb
            try simp only [Act.put, List.getElem_toArray, List.getElem_cons_succ, List.getElem_cons_zero, List.setIfInBounds_toArray, List.set_cons_zero, List.set_cons_succ]
            refine wpAnyH_done (by kernel_rfl) ?_ _
            exact fin _ _ _ _ _ _ _ _ _ _ _ hHeld z7 z8 n7 n8 ne o1 o2 o3 o4
  case cont =>
    clear hh
    rintro x a' W ⟨rfl, g7, g8, A5, c5, B5, d5, A6, c6, B6, d6, rfl, hh, z7, z8, n7, n8, ne, o1, o2, o3, o4⟩
    go_wp2_with (first
      | (with_reducible refine wpList_load_opx (by with_unfolding_all rfl) _ rfl _ rfl hh.k.a K1 ?_)
      | (with_reducible refine wpList_load_opx (by with_unfolding_all rfl) _ rfl _ rfl hh.k.b K2 ?_)
      | (go_at_call 23; (with_reducible refine (cT _ hh.k.x).mono ?_); rintro e1 w1 ⟨rfl, hb⟩; replace hh := hh.below hb; replace z7 := z7.below hb; replace z8 := z8.below hb; replace o1 := own_below o1 hb; replace o2 := own_below o2 hb; replace o3 := own_below o3 hb; replace o4 := own_below o4 hb; clear hb))
    refine Code.wp_mono (Q := fun x a' W => x = .normal ∧ ∃ g9 g10 u1 u2 u3 u4 t25 t26 t27 t28 t29 t30 t31 t32 t33, a' = { tmps := #[.agg (opC D A n c B m d), .agg (opC E A2 n2 c2 B2 m2 d2), .pointer (some ⟨w.heap.size, 0, none⟩), .pointer (some ⟨w.heap.size + 1, 0, none⟩), .pointer (some ⟨w.heap.size + 1 + 1, 0, none⟩), .pointer (some ⟨w.heap.size + 1 + 1 + 1, 0, none⟩), .bool false, .pointer (some ⟨g7, 0, none⟩), .pointer (some ⟨g8, 0, none⟩), .pointer (some ⟨g9, 0, none⟩), .pointer (some ⟨g10, 0, none⟩), .bool true, .agg (opC D A n c B m d), .agg (opC E A2 n2 c2 B2 m2 d2), .bool true, .bool false, undef, undef, .agg (opC E A2 n2 c2 B2 m2 d2), .agg (opC E A5 n2 c5 B5 m2 d5), .agg (opC D A n c B m d), .agg (opC D A6 n c6 B6 m d6), .agg (opC D A n c B m d), .agg (opC E A2 n2 c2 B2 m2 d2), .bool true, t25, t26, t27, t28, t29, t30, t31, t32, t33, undef, undef, undef, undef, undef, undef, undef, undef], defers := [] } ∧ (SwO w W D A n c B m d E A2 n2 c2 B2 m2 d2 zc ∧ Blk W g7 42 (opC E A5 n2 c5 B5 m2 d5) ∧ Blk W g8 42 (opC D A6 n c6 B6 m d6)) ∧ Blk W g9 62 #[.int .i64 ea, u1, u2] ∧ Blk W g10 62 #[.int .i64 da, u3, u4] ∧ W.ownsRow w.heap.size 9 1 (.slice A5 n2 c5) n2 (E.o.map strV) ∧ W.ownsRow w.heap.size 9 1 (.slice B5 m2 d5) m2 (E.n.map strV) ∧ W.ownsRow w.heap.size 9 1 (.slice A6 n c6) n (D.o.map strV) ∧ W.ownsRow w.heap.size 9 1 (.slice B6 m d6) m (D.n.map strV)) ?cont5 ?reg5
    case reg5 =>
      refine wp_region_held_drew (S := fun W => SwO w W D A n c B m d E A2 n2 c2 B2 m2 d2 zc ∧ Blk W g7 42 (opC E A5 n2 c5 B5 m2 d5) ∧ Blk W g8 42 (opC D A6 n c6 B6 m d6)) (by kernel_rfl) ⟨hh.below (below_drew10 _), z7.below (below_drew10 _), z8.below (below_drew10 _)⟩ (fun hHeld => ?_)
      replace o1 := own_below o1 (below_drew10 _)
      replace o2 := own_below o2 (below_drew10 _)
      replace o3 := own_below o3 (below_drew10 _)
      replace o4 := own_below o4 (below_drew10 _)
      clear hh z7 z8
      generalize World.drew _ = X1 at *
      have fin5 : ∀ (g9 g10 : Nat) (u1 u2 u3 u4 t25 t26 t27 t28 t29 t30 t31 t32 t33 : Value) (W : World), (SwO w W D A n c B m d E A2 n2 c2 B2 m2 d2 zc ∧ Blk W g7 42 (opC E A5 n2 c5 B5 m2 d5) ∧ Blk W g8 42 (opC D A6 n c6 B6 m d6)) → Blk W g9 62 #[.int .i64 ea, u1, u2] → Blk W g10 62 #[.int .i64 da, u3, u4] → W.ownsRow w.heap.size 9 1 (.slice A5 n2 c5) n2 (E.o.map strV) → W.ownsRow w.heap.size 9 1 (.slice B5 m2 d5) m2 (E.n.map strV) → W.ownsRow w.heap.size 9 1 (.slice A6 n c6) n (D.o.map strV) → W.ownsRow w.heap.size 9 1 (.slice B6 m d6) m (D.n.map strV) → (fun x a' W => x = .normal ∧ ∃ g9 g10 u1 u2 u3 u4 t25 t26 t27 t28 t29 t30 t31 t32 t33, a' = { tmps := #[.agg (opC D A n c B m d), .agg (opC E A2 n2 c2 B2 m2 d2), .pointer (some ⟨w.heap.size, 0, none⟩), .pointer (some ⟨w.heap.size + 1, 0, none⟩), .pointer (some ⟨w.heap.size + 1 + 1, 0, none⟩), .pointer (some ⟨w.heap.size + 1 + 1 + 1, 0, none⟩), .bool false, .pointer (some ⟨g7, 0, none⟩), .pointer (some ⟨g8, 0, none⟩), .pointer (some ⟨g9, 0, none⟩), .pointer (some ⟨g10, 0, none⟩), .bool true, .agg (opC D A n c B m d), .agg (opC E A2 n2 c2 B2 m2 d2), .bool true, .bool false, undef, undef, .agg (opC E A2 n2 c2 B2 m2 d2), .agg (opC E A5 n2 c5 B5 m2 d5), .agg (opC D A n c B m d), .agg (opC D A6 n c6 B6 m d6), .agg (opC D A n c B m d), .agg (opC E A2 n2 c2 B2 m2 d2), .bool true, t25, t26, t27, t28, t29, t30, t31, t32, t33, undef, undef, undef, undef, undef, undef, undef, undef], defers := [] } ∧ (SwO w W D A n c B m d E A2 n2 c2 B2 m2 d2 zc ∧ Blk W g7 42 (opC E A5 n2 c5 B5 m2 d5) ∧ Blk W g8 42 (opC D A6 n c6 B6 m d6)) ∧ Blk W g9 62 #[.int .i64 ea, u1, u2] ∧ Blk W g10 62 #[.int .i64 da, u3, u4] ∧ W.ownsRow w.heap.size 9 1 (.slice A5 n2 c5) n2 (E.o.map strV) ∧ W.ownsRow w.heap.size 9 1 (.slice B5 m2 d5) m2 (E.n.map strV) ∧ W.ownsRow w.heap.size 9 1 (.slice A6 n c6) n (D.o.map strV) ∧ W.ownsRow w.heap.size 9 1 (.slice B6 m d6) m (D.n.map strV) : Exit → Act → World → Prop) Exit.normal ({ tmps := #[.agg (opC D A n c B m d), .agg (opC E A2 n2 c2 B2 m2 d2), .pointer (some ⟨w.heap.size, 0, none⟩), .pointer (some ⟨w.heap.size + 1, 0, none⟩), .pointer (some ⟨w.heap.size + 1 + 1, 0, none⟩), .pointer (some ⟨w.heap.size + 1 + 1 + 1, 0, none⟩), .bool false, .pointer (some ⟨g7, 0, none⟩), .pointer (some ⟨g8, 0, none⟩), .pointer (some ⟨g9, 0, none⟩), .pointer (some ⟨g10, 0, none⟩), .bool true, .agg (opC D A n c B m d), .agg (opC E A2 n2 c2 B2 m2 d2), .bool true, .bool false, undef, undef, .agg (opC E A2 n2 c2 B2 m2 d2), .agg (opC E A5 n2 c5 B5 m2 d5), .agg (opC D A n c B m d), .agg (opC D A6 n c6 B6 m d6), .agg (opC D A n c B m d), .agg (opC E A2 n2 c2 B2 m2 d2), .bool true, t25, t26, t27, t28, t29, t30, t31, t32, t33, undef, undef, undef, undef, undef, undef, undef, undef], defers := [] } : Act) W := fun g9 g10 u1 u2 u3 u4 t25 t26 t27 t28 t29 t30 t31 t32 t33 W h1 h2 h3 h4 h5 h6 h7 => ⟨rfl, g9, g10, u1, u2, u3, u4, t25, t26, t27, t28, t29, t30, t31, t32, t33, rfl, h1, h2, h3, h4, h5, h6, h7⟩
      refine' wpAnyH_take (i := 0) (v := .agg (opC D A n c B m d)) rfl (by kernel_rfl) (by kernel_rfl) (by kernel_rfl) (fun _ _ _ h => nomatch h.1) (yields_opx (by rfl) _ rfl _ rfl (fun w' h => h.1.k.a) K1) hHeld ?_
      try simp only [Act.put, List.getElem_toArray, List.getElem_cons_succ, List.getElem_cons_zero, List.setIfInBounds_toArray, List.set_cons_zero, List.set_cons_succ]
      refine' wpAnyH_take (i := 2) (v := .agg (opC E A2 n2 c2 B2 m2 d2)) rfl (by kernel_rfl) (by kernel_rfl) (by kernel_rfl) (fun _ _ _ h => nomatch h.1) (yields_opx (by rfl) _ rfl _ rfl (fun w' h => h.1.k.b) K2) hHeld ?_
      try simp only [Act.put, List.getElem_toArray, List.getElem_cons_succ, List.getElem_cons_zero, List.setIfInBounds_toArray, List.set_cons_zero, List.set_cons_succ]
      refine wpAnyH_ready (rs := [1, 9, 10]) (by kernel_rfl) (by simp) ?_
      refine AllReadyH.cons rfl (fun K hK => ?_) (AllReadyH.cons rfl (fun K hK => ?_) (AllReadyH.cons rfl (fun K hK => ?_) AllReadyH.nil))
      · as_aux_lemma =>
          go_simp
          (with_reducible refine (cH1 _ hHeld.1.k.x).mono ?_)
          rintro e9 X1x ⟨A7, c7, B7, d7, rfl, p1, p2, hb⟩
          replace o1 := own_below o1 hb
          replace o2 := own_below o2 hb
          replace o3 := own_below o3 hb
          replace o4 := own_below o4 hb
          refine hK.out _ _ ⟨hHeld.1.below hb, hHeld.2.1.below hb, hHeld.2.2.below hb⟩ (fun hHeld => ?_)
          clear hK K hb
          try simp only [Act.put, List.getElem_toArray, List.getElem_cons_succ, List.getElem_cons_zero, List.setIfInBounds_toArray, List.set_cons_zero, List.set_cons_succ]
          refine wpAnyH_ready (rs := [3, 9, 10]) (by kernel_rfl) (by simp) ?_
          refine AllReadyH.cons rfl (fun K hK => ?_) (AllReadyH.cons rfl (fun K hK => ?_) (AllReadyH.cons rfl (fun K hK => ?_) AllReadyH.nil))
          · as_aux_lemma =>
              go_simp
              (with_reducible refine (cH2 _ hHeld.1.k.x).mono ?_)
              rintro e9 X1xx ⟨A8, c8, B8, d8, rfl, p3, p4, hb⟩
              replace o1 := own_below o1 hb
              replace o2 := own_below o2 hb
              replace o3 := own_below o3 hb
              replace o4 := own_below o4 hb
              replace p1 := own_below p1 hb
              replace p2 := own_below p2 hb
              refine hK.out _ _ ⟨hHeld.1.below hb, hHeld.2.1.below hb, hHeld.2.2.below hb⟩ (fun hHeld => ?_)
              clear hK K hb
              try simp only [Act.put, List.getElem_toArray, List.getElem_cons_succ, List.getElem_cons_zero, List.setIfInBounds_toArray, List.set_cons_zero, List.set_cons_succ]
              refine wpAnyH_ready (rs := [4, 9, 10]) (by kernel_rfl) (by simp) ?_
              refine AllReadyH.cons rfl (fun K hK => ?_) (AllReadyH.cons rfl (fun K hK => ?_) (AllReadyH.cons rfl (fun K hK => ?_) AllReadyH.nil))
              · as_aux_lemma =>
                  go_simp
                  (with_reducible refine (cS _ _ _ _ _ _ _ _ _ _ _ hHeld.1.k.x p1 p2 p3 p4).mono ?_)
                  rintro e9 X1xxx ⟨u1, u2, u3, u4, rfl, v1, v2, v3, v4, hb⟩
                  replace o1 := own_below o1 hb
                  replace o2 := own_below o2 hb
                  replace o3 := own_below o3 hb
                  replace o4 := own_below o4 hb
                  clear p1 p2 p3 p4
                  refine hK.out _ _ ⟨hHeld.1.below hb, hHeld.2.1.below hb, hHeld.2.2.below hb⟩ (fun hHeld => ?_)
                  clear hK K hb
                  try simp only [Act.put, List.getElem_toArray, List.getElem_cons_succ, List.getElem_cons_zero, List.setIfInBounds_toArray, List.set_cons_zero, List.set_cons_succ]
                  refine' wpAnyH_take (i := 5) (v := .tuple #[.agg #[.int .i64 ea, u1, u2], .agg #[.int .i64 da, u3, u4], .bool true]) rfl (by kernel_rfl) (by kernel_rfl) (by kernel_rfl) (fun _ _ _ h => nomatch h.1) (Or.inl ⟨by rfl, fun w' hw' => by go_simp⟩) hHeld ?_
                  try simp only [Act.put, List.getElem_toArray, List.getElem_cons_succ, List.getElem_cons_zero, List.setIfInBounds_toArray, List.set_cons_zero, List.set_cons_succ]
                  refine' wpAnyH_take (i := 6) (v := .agg #[.int .i64 ea, u1, u2]) rfl (by kernel_rfl) (by kernel_rfl) (by kernel_rfl) (fun _ _ _ h => nomatch h.1) (Or.inl ⟨by rfl, fun w' hw' => by go_simp⟩) hHeld ?_
                  try simp only [Act.put, List.getElem_toArray, List.getElem_cons_succ, List.getElem_cons_zero, List.setIfInBounds_toArray, List.set_cons_zero, List.set_cons_succ]
                  refine' wpAnyH_take (i := 7) (v := .agg #[.int .i64 da, u3, u4]) rfl (by kernel_rfl) (by kernel_rfl) (by kernel_rfl) (fun _ _ _ h => nomatch h.1) (Or.inl ⟨by rfl, fun w' hw' => by go_simp⟩) hHeld ?_
                  try simp only [Act.put, List.getElem_toArray, List.getElem_cons_succ, List.getElem_cons_zero, List.setIfInBounds_toArray, List.set_cons_zero, List.set_cons_succ]
                  refine' wpAnyH_take (i := 8) (v := .bool true) rfl (by kernel_rfl) (by kernel_rfl) (by kernel_rfl) (fun _ _ _ h => nomatch h.1) (Or.inl ⟨by rfl, fun w' hw' => by go_simp⟩) hHeld ?_
                  try simp only [Act.put, List.getElem_toArray, List.getElem_cons_succ, List.getElem_cons_zero, List.setIfInBounds_toArray, List.set_cons_zero, List.set_cons_succ]
                  refine wpAnyH_ready (rs := [9, 10]) (by kernel_rfl) (by simp) ?_
                  refine AllReadyH.cons rfl (fun K hK => ?_) (AllReadyH.cons rfl (fun K hK => ?_) AllReadyH.nil)
                  · as_aux_lemma =>
                      go_simp
                      have hb : Below X1xxx.heap.size X1xxx (X1xxx.alloc (.cells #[.int .i64 0, .slice none 0 0, .slice none 0 0] 62)) := (Below.refl _ _).alloc (Nat.le_refl _) _
                      have z9 := Blk.new X1xxx 62 #[.int .i64 0, .slice none 0 0, .slice none 0 0]
                      have h4z9 : w.heap.size + 4 ≤ X1xxx.heap.size := by have := hHeld.1.r5.lt; omega
                      replace o1 := own_below o1 hb
                      replace o2 := own_below o2 hb
                      replace o3 := own_below o3 hb
                      replace o4 := own_below o4 hb
                      refine hK.out _ _ ⟨hHeld.1.below hb, hHeld.2.1.below hb, hHeld.2.2.below hb⟩ (fun hHeld => ?_)
                      clear hK K hb
                      generalize X1xxx.alloc (.cells #[.int .i64 0, .slice none 0 0, .slice none 0 0] 62) = X1xxxx at *
                      generalize X1xxx.heap.size = g9 at *
                      try simp only [Act.put, List.getElem_toArray, List.getElem_cons_succ, List.getElem_cons_zero, List.setIfInBounds_toArray, List.set_cons_zero, List.set_cons_succ]
                      refine wpAnyH_ready (rs := [10]) (by kernel_rfl) (by simp) ?_
                      refine AllReadyH.cons rfl (fun K hK => ?_) AllReadyH.nil
                      go_simp
                      have hb : Below X1xxxx.heap.size X1xxxx (X1xxxx.alloc (.cells #[.int .i64 0, .slice none 0 0, .slice none 0 0] 62)) := (Below.refl _ _).alloc (Nat.le_refl _) _
                      have z10 := Blk.new X1xxxx 62 #[.int .i64 0, .slice none 0 0, .slice none 0 0]
                      have h4z10 : w.heap.size + 4 ≤ X1xxxx.heap.size := by have := hHeld.1.r5.lt; omega
                      have ne9 : X1xxxx.heap.size ≠ g9 := by have := z9.lt; omega
                      replace o1 := own_below o1 hb
                      replace o2 := own_below o2 hb
                      replace o3 := own_below o3 hb
                      replace o4 := own_below o4 hb
                      replace z9 := z9.below hb
                      refine hK.out _ _ ⟨hHeld.1.below hb, hHeld.2.1.below hb, hHeld.2.2.below hb⟩ (fun hHeld => ?_)
                      clear hK K hb
                      generalize X1xxxx.alloc (.cells #[.int .i64 0, .slice none 0 0, .slice none 0 0] 62) = X1xxxxx at *
                      generalize X1xxxx.heap.size = g10 at *
                      try simp only [Act.put, List.getElem_toArray, List.getElem_cons_succ, List.getElem_cons_zero, List.setIfInBounds_toArray, List.set_cons_zero, List.set_cons_succ]
                      refine wpAnyH_ready (rs := [11]) (by kernel_rfl) (by simp) ?_
                      refine AllReadyH.cons rfl (fun K hK => ?_) AllReadyH.nil
                      refine wp_store_whole 62 _ _ rfl g9 _ #[.int .i64 ea, u1, u2] 62 z9 rfl rfl (by kernel_rfl) rfl (all3 v1 v2) ?_
                      intro X1xxxxxx hb hg
                      replace o1 := o1.kept hg (.inr (Lib.ownBlock_ne o1 z9 (by decide)))
                      replace o2 := o2.kept hg (.inr (Lib.ownBlock_ne o2 z9 (by decide)))
                      replace o3 := o3.kept hg (.inr (Lib.ownBlock_ne o3 z9 (by decide)))
                      replace o4 := o4.kept hg (.inr (Lib.ownBlock_ne o4 z9 (by decide)))
                      replace z10 := blk_gb z10 hg (by omega)
                      refine hK.out _ _ ⟨hHeld.1.gb hg (by omega), blk_gb hHeld.2.1 hg (blk_ne hHeld.2.1 z9 (by decide)), blk_gb hHeld.2.2 hg (blk_ne hHeld.2.2 z9 (by decide))⟩ (fun hHeld => ?_)
                      clear hK K hg
                      replace z9 := hb
                      clear hb
                      try simp only [Act.put, List.getElem_toArray, List.getElem_cons_succ, List.getElem_cons_zero, List.setIfInBounds_toArray, List.set_cons_zero, List.set_cons_succ]
                      refine wpAnyH_ready (rs := [12]) (by kernel_rfl) (by simp) ?_
                      refine AllReadyH.cons rfl (fun K hK => ?_) AllReadyH.nil
                      refine wp_store_whole 62 _ _ rfl g10 _ #[.int .i64 da, u3, u4] 62 z10 rfl rfl (by kernel_rfl) rfl (all3 v3 v4) ?_
                      intro X1xxxxxxx hb hg
                      replace o1 := o1.kept hg (.inr (Lib.ownBlock_ne o1 z10 (by decide)))
                      replace o2 := o2.kept hg (.inr (Lib.ownBlock_ne o2 z10 (by decide)))
                      replace o3 := o3.kept hg (.inr (Lib.ownBlock_ne o3 z10 (by decide)))
                      replace o4 := o4.kept hg (.inr (Lib.ownBlock_ne o4 z10 (by decide)))
                      replace z9 := blk_gb z9 hg (by omega)
                      refine hK.out _ _ ⟨hHeld.1.gb hg (by omega), blk_gb hHeld.2.1 hg (blk_ne hHeld.2.1 z10 (by decide)), blk_gb hHeld.2.2 hg (blk_ne hHeld.2.2 z10 (by decide))⟩ (fun hHeld => ?_)
                      clear hK K hg
                      replace z10 := hb
                      clear hb
                      try simp only [Act.put, List.getElem_toArray, List.getElem_cons_succ, List.getElem_cons_zero, List.setIfInBounds_toArray, List.set_cons_zero, List.set_cons_succ]
                      refine' wpAnyH_take (i := 13) (v := .bool true) rfl (by kernel_rfl) (by kernel_rfl) (by kernel_rfl) (fun _ _ _ h => nomatch h.1) (Or.inl ⟨by rfl, fun w' hw' => by go_simp⟩) hHeld ?_
                      try simp only [Act.put, List.getElem_toArray, List.getElem_cons_succ, List.getElem_cons_zero, List.setIfInBounds_toArray, List.set_cons_zero, List.set_cons_succ]
                      refine wpAnyH_done (by kernel_rfl) ?_ _
                      exact fin5 _ _ _ _ _ _ _ _ _ _ _ _ _ _ _ _ hHeld z9 z10 o1 o2 o3 o4
                  · as_aux_lemma =>
                      go_simp
                      have hb : Below X1xxx.heap.size X1xxx (X1xxx.alloc (.cells #[.int .i64 0, .slice none 0 0, .slice none 0 0] 62)) := (Below.refl _ _).alloc (Nat.le_refl _) _
                      have z10 := Blk.new X1xxx 62 #[.int .i64 0, .slice none 0 0, .slice none 0 0]
                      have h4z10 : w.heap.size + 4 ≤ X1xxx.heap.size := by have := hHeld.1.r5.lt; omega
                      replace o1 := own_below o1 hb
                      replace o2 := own_below o2 hb
                      replace o3 := own_below o3 hb
                      replace o4 := own_below o4 hb
                      refine hK.out _ _ ⟨hHeld.1.below hb, hHeld.2.1.below hb, hHeld.2.2.below hb⟩ (fun hHeld => ?_)
                      clear hK K hb
                      generalize X1xxx.alloc (.cells #[.int .i64 0, .slice none 0 0, .slice none 0 0] 62) = X1xxxx at *
                      generalize X1xxx.heap.size = g10 at *
                      try simp only [Act.put, List.getElem_toArray, List.getElem_cons_succ, List.getElem_cons_zero, List.setIfInBounds_toArray, List.set_cons_zero, List.set_cons_succ]
                      refine wpAnyH_ready (rs := [9]) (by kernel_rfl) (by simp) ?_
                      refine AllReadyH.cons rfl (fun K hK => ?_) AllReadyH.nil
                      go_simp
                      have hb : Below X1xxxx.heap.size X1xxxx (X1xxxx.alloc (.cells #[.int .i64 0, .slice none 0 0, .slice none 0 0] 62)) := (Below.refl _ _).alloc (Nat.le_refl _) _
                      have z9 := Blk.new X1xxxx 62 #[.int .i64 0, .slice none 0 0, .slice none 0 0]
                      have h4z9 : w.heap.size + 4 ≤ X1xxxx.heap.size := by have := hHeld.1.r5.lt; omega
                      have ne9 : g10 ≠ X1xxxx.heap.size := by have := z10.lt; omega
                      replace o1 := own_below o1 hb
                      replace o2 := own_below o2 hb
                      replace o3 := own_below o3 hb
                      replace o4 := own_below o4 hb
                      replace z10 := z10.below hb
                      refine hK.out _ _ ⟨hHeld.1.below hb, hHeld.2.1.below hb, hHeld.2.2.below hb⟩ (fun hHeld => ?_)
                      clear hK K hb
                      generalize X1xxxx.alloc (.cells #[.int .i64 0, .slice none 0 0, .slice none 0 0] 62) = X1xxxxx at *
                      generalize X1xxxx.heap.size = g9 at *
                      try simp only [Act.put, List.getElem_toArray, List.getElem_cons_succ, List.getElem_cons_zero, List.setIfInBounds_toArray, List.set_cons_zero, List.set_cons_succ]
                      refine wpAnyH_ready (rs := [11]) (by kernel_rfl) (by simp) ?_
                      refine AllReadyH.cons rfl (fun K hK => ?_) AllReadyH.nil
                      refine wp_store_whole 62 _ _ rfl g9 _ #[.int .i64 ea, u1, u2] 62 z9 rfl rfl (by kernel_rfl) rfl (all3 v1 v2) ?_
                      intro X1xxxxxx hb hg
                      replace o1 := o1.kept hg (.inr (Lib.ownBlock_ne o1 z9 (by decide)))
                      replace o2 := o2.kept hg (.inr (Lib.ownBlock_ne o2 z9 (by decide)))
                      replace o3 := o3.kept hg (.inr (Lib.ownBlock_ne o3 z9 (by decide)))
                      replace o4 := o4.kept hg (.inr (Lib.ownBlock_ne o4 z9 (by decide)))
                      replace z10 := blk_gb z10 hg (by omega)
                      refine hK.out _ _ ⟨hHeld.1.gb hg (by omega), blk_gb hHeld.2.1 hg (blk_ne hHeld.2.1 z9 (by decide)), blk_gb hHeld.2.2 hg (blk_ne hHeld.2.2 z9 (by decide))⟩ (fun hHeld => ?_)
                      clear hK K hg
                      replace z9 := hb
                      clear hb
                      try simp only [Act.put, List.getElem_toArray, List.getElem_cons_succ, List.getElem_cons_zero, List.setIfInBounds_toArray, List.set_cons_zero, List.set_cons_succ]
                      refine wpAnyH_ready (rs := [12]) (by kernel_rfl) (by simp) ?_
                      refine AllReadyH.cons rfl (fun K hK => ?_) AllReadyH.nil
                      refine wp_store_whole 62 _ _ rfl g10 _ #[.int .i64 da, u3, u4] 62 z10 rfl rfl (by kernel_rfl) rfl (all3 v3 v4) ?_
                      intro X1xxxxxxx hb hg
                      replace o1 := o1.kept hg (.inr (Lib.ownBlock_ne o1 z10 (by decide)))
                      replace o2 := o2.kept hg (.inr (Lib.ownBlock_ne o2 z10 (by decide)))
                      replace o3 := o3.kept hg (.inr (Lib.ownBlock_ne o3 z10 (by decide)))
                      replace o4 := o4.kept hg (.inr (Lib.ownBlock_ne o4 z10 (by decide)))
                      replace z9 := blk_gb z9 hg (by omega)
                      refine hK.out _ _ ⟨hHeld.1.gb hg (by omega), blk_gb hHeld.2.1 hg (blk_ne hHeld.2.1 z10 (by decide)), blk_gb hHeld.2.2 hg (blk_ne hHeld.2.2 z10 (by decide))⟩ (fun hHeld => ?_)
                      clear hK K hg
                      replace z10 := hb
                      clear hb
                      try simp only [Act.put, List.getElem_toArray, List.getElem_cons_succ, List.getElem_cons_zero, List.setIfInBounds_toArray, List.set_cons_zero, List.set_cons_succ]
                      refine' wpAnyH_take (i := 13) (v := .bool true) rfl (by kernel_rfl) (by kernel_rfl) (by kernel_rfl) (fun _ _ _ h => nomatch h.1) (Or.inl ⟨by rfl, fun w' hw' => by go_simp⟩) hHeld ?_
                      try simp only [Act.put, List.getElem_toArray, List.getElem_cons_succ, List.getElem_cons_zero, List.setIfInBounds_toArray, List.set_cons_zero, List.set_cons_succ]
                      refine wpAnyH_done (by kernel_rfl) ?_ _
                      exact fin5 _ _ _ _ _ _ _ _ _ _ _ _ _ _ _ _ hHeld z9 z10 o1 o2 o3 o4
              · as_aux_lemma =>
                  go_simp
                  have hb : Below X1xx.heap.size X1xx (X1xx.alloc (.cells #[.int .i64 0, .slice none 0 0, .slice none 0 0] 62)) := (Below.refl _ _).alloc (Nat.le_refl _) _
                  have z9 := Blk.new X1xx 62 #[.int .i64 0, .slice none 0 0, .slice none 0 0]
                  have h4z9 : w.heap.size + 4 ≤ X1xx.heap.size := by have := hHeld.1.r5.lt; omega
                  replace o1 := own_below o1 hb
                  replace o2 := own_below o2 hb
                  replace o3 := own_below o3 hb
                  replace o4 := own_below o4 hb
                  replace p1 := own_below p1 hb
                  replace p2 := own_below p2 hb
                  replace p3 := own_below p3 hb
                  replace p4 := own_below p4 hb
                  refine hK.out _ _ ⟨hHeld.1.below hb, hHeld.2.1.below hb, hHeld.2.2.below hb⟩ (fun hHeld => ?_)
                  clear hK K hb
                  generalize X1xx.alloc (.cells #[.int .i64 0, .slice none 0 0, .slice none 0 0] 62) = X1xxx at *
                  generalize X1xx.heap.size = g9 at *
                  try simp only [Act.put, List.getElem_toArray, List.getElem_cons_succ, List.getElem_cons_zero, List.setIfInBounds_toArray, List.set_cons_zero, List.set_cons_succ]
                  refine wpAnyH_ready (rs := [4, 10]) (by kernel_rfl) (by simp) ?_
                  refine AllReadyH.cons rfl (fun K hK => ?_) (AllReadyH.cons rfl (fun K hK => ?_) AllReadyH.nil)
                  · as_aux_lemma =>
                      go_simp
                      (with_reducible refine (cS _ _ _ _ _ _ _ _ _ _ _ hHeld.1.k.x p1 p2 p3 p4).mono ?_)
                      rintro e9 X1xxxx ⟨u1, u2, u3, u4, rfl, v1, v2, v3, v4, hb⟩
                      replace o1 := own_below o1 hb
                      replace o2 := own_below o2 hb
                      replace o3 := own_below o3 hb
                      replace o4 := own_below o4 hb
                      replace z9 := z9.below hb
                      clear p1 p2 p3 p4
                      refine hK.out _ _ ⟨hHeld.1.below hb, hHeld.2.1.below hb, hHeld.2.2.below hb⟩ (fun hHeld => ?_)
                      clear hK K hb
                      try simp only [Act.put, List.getElem_toArray, List.getElem_cons_succ, List.getElem_cons_zero, List.setIfInBounds_toArray, List.set_cons_zero, List.set_cons_succ]
                      refine' wpAnyH_take (i := 5) (v := .tuple #[.agg #[.int .i64 ea, u1, u2], .agg #[.int .i64 da, u3, u4], .bool true]) rfl (by kernel_rfl) (by kernel_rfl) (by kernel_rfl) (fun _ _ _ h => nomatch h.1) (Or.inl ⟨by rfl, fun w' hw' => by go_simp⟩) hHeld ?_
                      try simp only [Act.put, List.getElem_toArray, List.getElem_cons_succ, List.getElem_cons_zero, List.setIfInBounds_toArray, List.set_cons_zero, List.set_cons_succ]
                      refine' wpAnyH_take (i := 6) (v := .agg #[.int .i64 ea, u1, u2]) rfl (by kernel_rfl) (by kernel_rfl) (by kernel_rfl) (fun _ _ _ h => nomatch h.1) (Or.inl ⟨by rfl, fun w' hw' => by go_simp⟩) hHeld ?_
                      try simp only [Act.put, List.getElem_toArray, List.getElem_cons_succ, List.getElem_cons_zero, List.setIfInBounds_toArray, List.set_cons_zero, List.set_cons_succ]
                      refine' wpAnyH_take (i := 7) (v := .agg #[.int .i64 da, u3, u4]) rfl (by kernel_rfl) (by kernel_rfl) (by kernel_rfl) (fun _ _ _ h => nomatch h.1) (Or.inl ⟨by rfl, fun w' hw' => by go_simp⟩) hHeld ?_
                      try simp only [Act.put, List.getElem_toArray, List.getElem_cons_succ, List.getElem_cons_zero, List.setIfInBounds_toArray, List.set_cons_zero, List.set_cons_succ]
                      refine' wpAnyH_take (i := 8) (v := .bool true) rfl (by kernel_rfl) (by kernel_rfl) (by kernel_rfl) (fun _ _ _ h => nomatch h.1) (Or.inl ⟨by rfl, fun w' hw' => by go_simp⟩) hHeld ?_
                      try simp only [Act.put, List.getElem_toArray, List.getElem_cons_succ, List.getElem_cons_zero, List.setIfInBounds_toArray, List.set_cons_zero, List.set_cons_succ]
                      refine wpAnyH_ready (rs := [10]) (by kernel_rfl) (by simp) ?_
                      refine AllReadyH.cons rfl (fun K hK => ?_) AllReadyH.nil
                      go_simp
                      have hb : Below X1xxxx.heap.size X1xxxx (X1xxxx.alloc (.cells #[.int .i64 0, .slice none 0 0, .slice none 0 0] 62)) := (Below.refl _ _).alloc (Nat.le_refl _) _
                      have z10 := Blk.new X1xxxx 62 #[.int .i64 0, .slice none 0 0, .slice none 0 0]
                      have h4z10 : w.heap.size + 4 ≤ X1xxxx.heap.size := by have := hHeld.1.r5.lt; omega
                      have ne9 : X1xxxx.heap.size ≠ g9 := by have := z9.lt; omega
                      replace o1 := own_below o1 hb
                      replace o2 := own_below o2 hb
                      replace o3 := own_below o3 hb
                      replace o4 := own_below o4 hb
                      replace z9 := z9.below hb
                      refine hK.out _ _ ⟨hHeld.1.below hb, hHeld.2.1.below hb, hHeld.2.2.below hb⟩ (fun hHeld => ?_)
                      clear hK K hb
                      generalize X1xxxx.alloc (.cells #[.int .i64 0, .slice none 0 0, .slice none 0 0] 62) = X1xxxxx at *
                      generalize X1xxxx.heap.size = g10 at *
                      try simp only [Act.put, List.getElem_toArray, List.getElem_cons_succ, List.getElem_cons_zero, List.setIfInBounds_toArray, List.set_cons_zero, List.set_cons_succ]
                      refine wpAnyH_ready (rs := [11]) (by kernel_rfl) (by simp) ?_
                      refine AllReadyH.cons rfl (fun K hK => ?_) AllReadyH.nil
                      refine wp_store_whole 62 _ _ rfl g9 _ #[.int .i64 ea, u1, u2] 62 z9 rfl rfl (by kernel_rfl) rfl (all3 v1 v2) ?_
                      intro X1xxxxxx hb hg
                      replace o1 := o1.kept hg (.inr (Lib.ownBlock_ne o1 z9 (by decide)))
                      replace o2 := o2.kept hg (.inr (Lib.ownBlock_ne o2 z9 (by decide)))
                      replace o3 := o3.kept hg (.inr (Lib.ownBlock_ne o3 z9 (by decide)))
                      replace o4 := o4.kept hg (.inr (Lib.ownBlock_ne o4 z9 (by decide)))
                      replace z10 := blk_gb z10 hg (by omega)
                      refine hK.out _ _ ⟨hHeld.1.gb hg (by omega), blk_gb hHeld.2.1 hg (blk_ne hHeld.2.1 z9 (by decide)), blk_gb hHeld.2.2 hg (blk_ne hHeld.2.2 z9 (by decide))⟩ (fun hHeld => ?_)
                      clear hK K hg
                      replace z9 := hb
                      clear hb
                      try simp only [Act.put, List.getElem_toArray, List.getElem_cons_succ, List.getElem_cons_zero, List.setIfInBounds_toArray, List.set_cons_zero, List.set_cons_succ]
                      refine wpAnyH_ready (rs := [12]) (by kernel_rfl) (by simp) ?_
                      refine AllReadyH.cons rfl (fun K hK => ?_) AllReadyH.nil
                      refine wp_store_whole 62 _ _ rfl g10 _ #[.int .i64 da, u3, u4] 62 z10 rfl rfl (by kernel_rfl) rfl (all3 v3 v4) ?_
                      intro X1xxxxxxx hb hg
                      replace o1 := o1.kept hg (.inr (Lib.ownBlock_ne o1 z10 (by decide)))
                      replace o2 := o2.kept hg (.inr (Lib.ownBlock_ne o2 z10 (by decide)))
                      replace o3 := o3.kept hg (.inr (Lib.ownBlock_ne o3 z10 (by decide)))
                      replace o4 := o4.kept hg (.inr (Lib.ownBlock_ne o4 z10 (by decide)))
                      replace z9 := blk_gb z9 hg (by omega)
                      refine hK.out _ _ ⟨hHeld.1.gb hg (by omega), blk_gb hHeld.2.1 hg (blk_ne hHeld.2.1 z10 (by decide)), blk_gb hHeld.2.2 hg (blk_ne hHeld.2.2 z10 (by decide))⟩ (fun hHeld => ?_)
                      clear hK K hg
                      replace z10 := hb
                      clear hb
                      try simp only [Act.put, List.getElem_toArray, List.getElem_cons_succ, List.getElem_cons_zero, List.setIfInBounds_toArray, List.set_cons_zero, List.set_cons_succ]
                      refine' wpAnyH_take (i := 13) (v := .bool true) rfl (by kernel_rfl) (by kernel_rfl) (by kernel_rfl) (fun _ _ _ h => nomatch h.1) (Or.inl ⟨by rfl, fun w' hw' => by go_simp⟩) hHeld ?_
                      try simp only [Act.put, List.getElem_toArray, List.getElem_cons_succ, List.getElem_cons_zero, List.setIfInBounds_toArray, List.set_cons_zero, List.set_cons_succ]
                      refine wpAnyH_done (by kernel_rfl) ?_ _
                      exact fin5 _ _ _ _ _ _ _ _ _ _ _ _ _ _ _ _ hHeld z9 z10 o1 o2 o3 o4
                  · as_aux_lemma =>
                      go_simp
                      have hb : Below X1xxx.heap.size X1xxx (X1xxx.alloc (.cells #[.int .i64 0, .slice none 0 0, .slice none 0 0] 62)) := (Below.refl _ _).alloc (Nat.le_refl _) _
                      have z10 := Blk.new X1xxx 62 #[.int .i64 0, .slice none 0 0, .slice none 0 0]
                      have h4z10 : w.heap.size + 4 ≤ X1xxx.heap.size := by have := hHeld.1.r5.lt; omega
                      have ne9 : X1xxx.heap.size ≠ g9 := by have := z9.lt; omega
                      replace o1 := own_below o1 hb
                      replace o2 := own_below o2 hb
                      replace o3 := own_below o3 hb
                      replace o4 := own_below o4 hb
                      replace p1 := own_below p1 hb
                      replace p2 := own_below p2 hb
                      replace p3 := own_below p3 hb
                      replace p4 := own_below p4 hb
                      replace z9 := z9.below hb
                      refine hK.out _ _ ⟨hHeld.1.below hb, hHeld.2.1.below hb, hHeld.2.2.below hb⟩ (fun hHeld => ?_)
                      clear hK K hb
                      generalize X1xxx.alloc (.cells #[.int .i64 0, .slice none 0 0, .slice none 0 0] 62) = X1xxxx at *
                      generalize X1xxx.heap.size = g10 at *
                      try simp only [Act.put, List.getElem_toArray, List.getElem_cons_succ, List.getElem_cons_zero, List.setIfInBounds_toArray, List.set_cons_zero, List.set_cons_succ]
                      refine wpAnyH_ready (rs := [4]) (by kernel_rfl) (by simp) ?_
                      refine AllReadyH.cons rfl (fun K hK => ?_) AllReadyH.nil
                      go_simp
                      (with_reducible refine (cS _ _ _ _ _ _ _ _ _ _ _ hHeld.1.k.x p1 p2 p3 p4).mono ?_)
                      rintro e9 X1xxxxx ⟨u1, u2, u3, u4, rfl, v1, v2, v3, v4, hb⟩
                      replace o1 := own_below o1 hb
                      replace o2 := own_below o2 hb
                      replace o3 := own_below o3 hb
                      replace o4 := own_below o4 hb
                      replace z9 := z9.below hb
                      replace z10 := z10.below hb
                      clear p1 p2 p3 p4
                      refine hK.out _ _ ⟨hHeld.1.below hb, hHeld.2.1.below hb, hHeld.2.2.below hb⟩ (fun hHeld => ?_)
                      clear hK K hb
                      try simp only [Act.put, List.getElem_toArray, List.getElem_cons_succ, List.getElem_cons_zero, List.setIfInBounds_toArray, List.set_cons_zero, List.set_cons_succ]
                      refine' wpAnyH_take (i := 5) (v := .tuple #[.agg #[.int .i64 ea, u1, u2], .agg #[.int .i64 da, u3, u4], .bool true]) rfl (by kernel_rfl) (by kernel_rfl) (by kernel_rfl) (fun _ _ _ h => nomatch h.1) (Or.inl ⟨by rfl, fun w' hw' => by go_simp⟩) hHeld ?_
                      try simp only [Act.put, List.getElem_toArray, List.getElem_cons_succ, List.getElem_cons_zero, List.setIfInBounds_toArray, List.set_cons_zero, List.set_cons_succ]
                      refine' wpAnyH_take (i := 6) (v := .agg #[.int .i64 ea, u1, u2]) rfl (by kernel_rfl) (by kernel_rfl) (by kernel_rfl) (fun _ _ _ h => nomatch h.1) (Or.inl ⟨by rfl, fun w' hw' => by go_simp⟩) hHeld ?_
                      try simp only [Act.put, List.getElem_toArray, List.getElem_cons_succ, List.getElem_cons_zero, List.setIfInBounds_toArray, List.set_cons_zero, List.set_cons_succ]
                      refine' wpAnyH_take (i := 7) (v := .agg #[.int .i64 da, u3, u4]) rfl (by kernel_rfl) (by kernel_rfl) (by kernel_rfl) (fun _ _ _ h => nomatch h.1) (Or.inl ⟨by rfl, fun w' hw' => by go_simp⟩) hHeld ?_
                      try simp only [Act.put, List.getElem_toArray, List.getElem_cons_succ, List.getElem_cons_zero, List.setIfInBounds_toArray, List.set_cons_zero, List.set_cons_succ]
                      refine' wpAnyH_take (i := 8) (v := .bool true) rfl (by kernel_rfl) (by kernel_rfl) (by kernel_rfl) (fun _ _ _ h => nomatch h.1) (Or.inl ⟨by rfl, fun w' hw' => by go_simp⟩) hHeld ?_
                      try simp only [Act.put, List.getElem_toArray, List.getElem_cons_succ, List.getElem_cons_zero, List.setIfInBounds_toArray, List.set_cons_zero, List.set_cons_succ]
                      refine wpAnyH_ready (rs := [11]) (by kernel_rfl) (by simp) ?_
                      refine AllReadyH.cons rfl (fun K hK => ?_) AllReadyH.nil
                      refine wp_store_whole 62 _ _ rfl g9 _ #[.int .i64 ea, u1, u2] 62 z9 rfl rfl (by kernel_rfl) rfl (all3 v1 v2) ?_
                      intro X1xxxxxx hb hg
                      replace o1 := o1.kept hg (.inr (Lib.ownBlock_ne o1 z9 (by decide)))
                      replace o2 := o2.kept hg (.inr (Lib.ownBlock_ne o2 z9 (by decide)))
                      replace o3 := o3.kept hg (.inr (Lib.ownBlock_ne o3 z9 (by decide)))
                      replace o4 := o4.kept hg (.inr (Lib.ownBlock_ne o4 z9 (by decide)))
                      replace z10 := blk_gb z10 hg (by omega)
                      refine hK.out _ _ ⟨hHeld.1.gb hg (by omega), blk_gb hHeld.2.1 hg (blk_ne hHeld.2.1 z9 (by decide)), blk_gb hHeld.2.2 hg (blk_ne hHeld.2.2 z9 (by decide))⟩ (fun hHeld => ?_)
                      clear hK K hg
                      replace z9 := hb
                      clear hb
                      try simp only [Act.put, List.getElem_toArray, List.getElem_cons_succ, List.getElem_cons_zero, List.setIfInBounds_toArray, List.set_cons_zero, List.set_cons_succ]
                      refine wpAnyH_ready (rs := [12]) (by kernel_rfl) (by simp) ?_
                      refine AllReadyH.cons rfl (fun K hK => ?_) AllReadyH.nil
                      refine wp_store_whole 62 _ _ rfl g10 _ #[.int .i64 da, u3, u4] 62 z10 rfl rfl (by kernel_rfl) rfl (all3 v3 v4) ?_
                      intro X1xxxxxxx hb hg
                      replace o1 := o1.kept hg (.inr (Lib.ownBlock_ne o1 z10 (by decide)))
                      replace o2 := o2.kept hg (.inr (Lib.ownBlock_ne o2 z10 (by decide)))
                      replace o3 := o3.kept hg (.inr (Lib.ownBlock_ne o3 z10 (by decide)))
                      replace o4 := o4.kept hg (.inr (Lib.ownBlock_ne o4 z10 (by decide)))
                      replace z9 := blk_gb z9 hg (by omega)
                      refine hK.out _ _ ⟨hHeld.1.gb hg (by omega), blk_gb hHeld.2.1 hg (blk_ne hHeld.2.1 z10 (by decide)), blk_gb hHeld.2.2 hg (blk_ne hHeld.2.2 z10 (by decide))⟩ (fun hHeld => ?_)
                      clear hK K hg
                      replace z10 := hb
                      clear hb
                      try simp only [Act.put, List.getElem_toArray, List.getElem_cons_succ, List.getElem_cons_zero, List.setIfInBounds_toArray, List.set_cons_zero, List.set_cons_succ]
                      refine' wpAnyH_take (i := 13) (v := .bool true) rfl (by kernel_rfl) (by kernel_rfl) (by kernel_rfl) (fun _ _ _ h => nomatch h.1) (Or.inl ⟨by rfl, fun w' hw' => by go_simp⟩) hHeld ?_
                      try simp only [Act.put, List.getElem_toArray, List.getElem_cons_succ, List.getElem_cons_zero, List.setIfInBounds_toArray, List.set_cons_zero, List.set_cons_succ]
                      refine wpAnyH_done (by kernel_rfl) ?_ _
                      exact fin5 _ _ _ _ _ _ _ _ _ _ _ _ _ _ _ _ hHeld z9 z10 o1 o2 o3 o4
              · as_aux_lemma =>
                  go_simp
                  have hb : Below X1xx.heap.size X1xx (X1xx.alloc (.cells #[.int .i64 0, .slice none 0 0, .slice none 0 0] 62)) := (Below.refl _ _).alloc (Nat.le_refl _) _
                  have z10 := Blk.new X1xx 62 #[.int .i64 0, .slice none 0 0, .slice none 0 0]
                  have h4z10 : w.heap.size + 4 ≤ X1xx.heap.size := by have := hHeld.1.r5.lt; omega
                  replace o1 := own_below o1 hb
                  replace o2 := own_below o2 hb
                  replace o3 := own_below o3 hb
                  replace o4 := own_below o4 hb
                  replace p1 := own_below p1 hb
                  replace p2 := own_below p2 hb
                  replace p3 := own_below p3 hb
                  replace p4 := own_below p4 hb
                  refine hK.out _ _ ⟨hHeld.1.below hb, hHeld.2.1.below hb, hHeld.2.2.below hb⟩ (fun hHeld => ?_)
                  clear hK K hb
                  generalize X1xx.alloc (.cells #[.int .i64 0, .slice none 0 0, .slice none 0 0] 62) = X1xxx at *
                  generalize X1xx.heap.size = g10 at *
                  try simp only [Act.put, List.getElem_toArray, List.getElem_cons_succ, List.getElem_cons_zero, List.setIfInBounds_toArray, List.set_cons_zero, List.set_cons_succ]
                  refine wpAnyH_ready (rs := [4, 9]) (by kernel_rfl) (by simp) ?_
                  refine AllReadyH.cons rfl (fun K hK => ?_) (AllReadyH.cons rfl (fun K hK => ?_) AllReadyH.nil)
                  · as_aux_lemma =>
                      go_simp
                      (with_reducible refine (cS _ _ _ _ _ _ _ _ _ _ _ hHeld.1.k.x p1 p2 p3 p4).mono ?_)
                      rintro e9 X1xxxx ⟨u1, u2, u3, u4, rfl, v1, v2, v3, v4, hb⟩
                      replace o1 := own_below o1 hb
                      replace o2 := own_below o2 hb
                      replace o3 := own_below o3 hb
                      replace o4 := own_below o4 hb
                      replace z10 := z10.below hb
                      clear p1 p2 p3 p4
                      refine hK.out _ _ ⟨hHeld.1.below hb, hHeld.2.1.below hb, hHeld.2.2.below hb⟩ (fun hHeld => ?_)
                      clear hK K hb
                      try simp only [Act.put, List.getElem_toArray, List.getElem_cons_succ, List.getElem_cons_zero, List.setIfInBounds_toArray, List.set_cons_zero, List.set_cons_succ]
                      refine' wpAnyH_take (i := 5) (v := .tuple #[.agg #[.int .i64 ea, u1, u2], .agg #[.int .i64 da, u3, u4], .bool true]) rfl (by kernel_rfl) (by kernel_rfl) (by kernel_rfl) (fun _ _ _ h => nomatch h.1) (Or.inl ⟨by rfl, fun w' hw' => by go_simp⟩) hHeld ?_
                      try simp only [Act.put, List.getElem_toArray, List.getElem_cons_succ, List.getElem_cons_zero, List.setIfInBounds_toArray, List.set_cons_zero, List.set_cons_succ]
                      refine' wpAnyH_take (i := 6) (v := .agg #[.int .i64 ea, u1, u2]) rfl (by kernel_rfl) (by kernel_rfl) (by kernel_rfl) (fun _ _ _ h => nomatch h.1) (Or.inl ⟨by rfl, fun w' hw' => by go_simp⟩) hHeld ?_
                      try simp only [Act.put, List.getElem_toArray, List.getElem_cons_succ, List.getElem_cons_zero, List.setIfInBounds_toArray, List.set_cons_zero, List.set_cons_succ]
                      refine' wpAnyH_take (i := 7) (v := .agg #[.int .i64 da, u3, u4]) rfl (by kernel_rfl) (by kernel_rfl) (by kernel_rfl) (fun _ _ _ h => nomatch h.1) (Or.inl ⟨by rfl, fun w' hw' => by go_simp⟩) hHeld ?_
                      try simp only [Act.put, List.getElem_toArray, List.getElem_cons_succ, List.getElem_cons_zero, List.setIfInBounds_toArray, List.set_cons_zero, List.set_cons_succ]
                      refine' wpAnyH_take (i := 8) (v := .bool true) rfl (by kernel_rfl) (by kernel_rfl) (by kernel_rfl) (fun _ _ _ h => nomatch h.1) (Or.inl ⟨by rfl, fun w' hw' => by go_simp⟩) hHeld ?_
                      try simp only [Act.put, List.getElem_toArray, List.getElem_cons_succ, List.getElem_cons_zero, List.setIfInBounds_toArray, List.set_cons_zero, List.set_cons_succ]
                      refine wpAnyH_ready (rs := [9]) (by kernel_rfl) (by simp) ?_
                      refine AllReadyH.cons rfl (fun K hK => ?_) AllReadyH.nil
                      go_simp
                      have hb : Below X1xxxx.heap.size X1xxxx (X1xxxx.alloc (.cells #[.int .i64 0, .slice none 0 0, .slice none 0 0] 62)) := (Below.refl _ _).alloc (Nat.le_refl _) _
                      have z9 := Blk.new X1xxxx 62 #[.int .i64 0, .slice none 0 0, .slice none 0 0]
                      have h4z9 : w.heap.size + 4 ≤ X1xxxx.heap.size := by have := hHeld.1.r5.lt; omega
                      have ne9 : g10 ≠ X1xxxx.heap.size := by have := z10.lt; omega
                      replace o1 := own_below o1 hb
                      replace o2 := own_below o2 hb
                      replace o3 := own_below o3 hb
                      replace o4 := own_below o4 hb
                      replace z10 := z10.below hb
                      refine hK.out _ _ ⟨hHeld.1.below hb, hHeld.2.1.below hb, hHeld.2.2.below hb⟩ (fun hHeld => ?_)
                      clear hK K hb
                      generalize X1xxxx.alloc (.cells #[.int .i64 0, .slice none 0 0, .slice none 0 0] 62) = X1xxxxx at *
                      generalize X1xxxx.heap.size = g9 at *
                      try simp only [Act.put, List.getElem_toArray, List.getElem_cons_succ, List.getElem_cons_zero, List.setIfInBounds_toArray, List.set_cons_zero, List.set_cons_succ]
                      refine wpAnyH_ready (rs := [11]) (by kernel_rfl) (by simp) ?_
                      refine AllReadyH.cons rfl (fun K hK => ?_) AllReadyH.nil
                      refine wp_store_whole 62 _ _ rfl g9 _ #[.int .i64 ea, u1, u2] 62 z9 rfl rfl (by kernel_rfl) rfl (all3 v1 v2) ?_
                      intro X1xxxxxx hb hg
                      replace o1 := o1.kept hg (.inr (Lib.ownBlock_ne o1 z9 (by decide)))
                      replace o2 := o2.kept hg (.inr (Lib.ownBlock_ne o2 z9 (by decide)))
                      replace o3 := o3.kept hg (.inr (Lib.ownBlock_ne o3 z9 (by decide)))
                      replace o4 := o4.kept hg (.inr (Lib.ownBlock_ne o4 z9 (by decide)))
                      replace z10 := blk_gb z10 hg (by omega)
                      refine hK.out _ _ ⟨hHeld.1.gb hg (by omega), blk_gb hHeld.2.1 hg (blk_ne hHeld.2.1 z9 (by decide)), blk_gb hHeld.2.2 hg (blk_ne hHeld.2.2 z9 (by decide))⟩ (fun hHeld => ?_)
                      clear hK K hg
                      replace z9 := hb
                      clear hb
                      try simp only [Act.put, List.getElem_toArray, List.getElem_cons_succ, List.getElem_cons_zero, List.setIfInBounds_toArray, List.set_cons_zero, List.set_cons_succ]
                      refine wpAnyH_ready (rs := [12]) (by kernel_rfl) (by simp) ?_
                      refine AllReadyH.cons rfl (fun K hK => ?_) AllReadyH.nil
                      refine wp_store_whole 62 _ _ rfl g10 _ #[.int .i64 da, u3, u4] 62 z10 rfl rfl (by kernel_rfl) rfl (all3 v3 v4) ?_
                      intro X1xxxxxxx hb hg
                      replace o1 := o1.kept hg (.inr (Lib.ownBlock_ne o1 z10 (by decide)))
                      replace o2 := o2.kept hg (.inr (Lib.ownBlock_ne o2 z10 (by decide)))
                      replace o3 := o3.kept hg (.inr (Lib.ownBlock_ne o3 z10 (by decide)))
                      replace o4 := o4.kept hg (.inr (Lib.ownBlock_ne o4 z10 (by decide)))
                      replace z9 := blk_gb z9 hg (by omega)
                      refine hK.out _ _ ⟨hHeld.1.gb hg (by omega), blk_gb hHeld.2.1 hg (blk_ne hHeld.2.1 z10 (by decide)), blk_gb hHeld.2.2 hg (blk_ne hHeld.2.2 z10 (by decide))⟩ (fun hHeld => ?_)
                      clear hK K hg
                      replace z10 := hb
                      clear hb
                      try simp only [Act.put, List.getElem_toArray, List.getElem_cons_succ, List.getElem_cons_zero, List.setIfInBounds_toArray, List.set_cons_zero, List.set_cons_succ]
                      refine' wpAnyH_take (i := 13) (v := .bool true) rfl (by kernel_rfl) (by kernel_rfl) (by kernel_rfl) (fun _ _ _ h => nomatch h.1) (Or.inl ⟨by rfl, fun w' hw' => by go_simp⟩) hHeld ?_
                      try simp only [Act.put, List.getElem_toArray, List.getElem_cons_succ, List.getElem_cons_zero, List.setIfInBounds_toArray, List.set_cons_zero, List.set_cons_succ]
                      refine wpAnyH_done (by kernel_rfl) ?_ _
                      exact fin5 _ _ _ _ _ _ _ _ _ _ _ _ _ _ _ _ hHeld z9 z10 o1 o2 o3 o4
                  · as_aux_lemma =>
                      go_simp
                      have hb : Below X1xxx.heap.size X1xxx (X1xxx.alloc (.cells #[.int .i64 0, .slice none 0 0, .slice none 0 0] 62)) := (Below.refl _ _).alloc (Nat.le_refl _) _
                      have z9 := Blk.new X1xxx 62 #[.int .i64 0, .slice none 0 0, .slice none 0 0]
                      have h4z9 : w.heap.size + 4 ≤ X1xxx.heap.size := by have := hHeld.1.r5.lt; omega
                      have ne9 : g10 ≠ X1xxx.heap.size := by have := z10.lt; omega
                      replace o1 := own_below o1 hb
                      replace o2 := own_below o2 hb
                      replace o3 := own_below o3 hb
                      replace o4 := own_below o4 hb
                      replace p1 := own_below p1 hb
                      replace p2 := own_below p2 hb
                      replace p3 := own_below p3 hb
                      replace p4 := own_below p4 hb
                      replace z10 := z10.below hb
                      refine hK.out _ _ ⟨hHeld.1.below hb, hHeld.2.1.below hb, hHeld.2.2.below hb⟩ (fun hHeld => ?_)
                      clear hK K hb
                      generalize X1xxx.alloc (.cells #[.int .i64 0, .slice none 0 0, .slice none 0 0] 62) = X1xxxx at *
                      generalize X1xxx.heap.size = g9 at *
                      try simp only [Act.put, List.getElem_toArray, List.getElem_cons_succ, List.getElem_cons_zero, List.setIfInBounds_toArray, List.set_cons_zero, List.set_cons_succ]
                      refine wpAnyH_ready (rs := [4]) (by kernel_rfl) (by simp) ?_
                      refine AllReadyH.cons rfl (fun K hK => ?_) AllReadyH.nil
                      go_simp
                      (with_reducible refine (cS _ _ _ _ _ _ _ _ _ _ _ hHeld.1.k.x p1 p2 p3 p4).mono ?_)
                      rintro e9 X1xxxxx ⟨u1, u2, u3, u4, rfl, v1, v2, v3, v4, hb⟩
                      replace o1 := own_below o1 hb
                      replace o2 := own_below o2 hb
                      replace o3 := own_below o3 hb
                      replace o4 := own_below o4 hb
                      replace z10 := z10.below hb
                      replace z9 := z9.below hb
                      clear p1 p2 p3 p4
                      refine hK.out _ _ ⟨hHeld.1.below hb, hHeld.2.1.below hb, hHeld.2.2.below hb⟩ (fun hHeld => ?_)
                      clear hK K hb
                      try simp only [Act.put, List.getElem_toArray, List.getElem_cons_succ, List.getElem_cons_zero, List.setIfInBounds_toArray, List.set_cons_zero, List.set_cons_succ]
                      refine' wpAnyH_take (i := 5) (v := .tuple #[.agg #[.int .i64 ea, u1, u2], .agg #[.int .i64 da, u3, u4], .bool true]) rfl (by kernel_rfl) (by kernel_rfl) (by kernel_rfl) (fun _ _ _ h => nomatch h.1) (Or.inl ⟨by rfl, fun w' hw' => by go_simp⟩) hHeld ?_
                      try simp only [Act.put, List.getElem_toArray, List.getElem_cons_succ, List.getElem_cons_zero, List.setIfInBounds_toArray, List.set_cons_zero, List.set_cons_succ]
                      refine' wpAnyH_take (i := 6) (v := .agg #[.int .i64 ea, u1, u2]) rfl (by kernel_rfl) (by kernel_rfl) (by kernel_rfl) (fun _ _ _ h => nomatch h.1) (Or.inl ⟨by rfl, fun w' hw' => by go_simp⟩) hHeld ?_
                      try simp only [Act.put, List.getElem_toArray, List.getElem_cons_succ, List.getElem_cons_zero, List.setIfInBounds_toArray, List.set_cons_zero, List.set_cons_succ]
                      refine' wpAnyH_take (i := 7) (v := .agg #[.int .i64 da, u3, u4]) rfl (by kernel_rfl) (by kernel_rfl) (by kernel_rfl) (fun _ _ _ h => nomatch h.1) (Or.inl ⟨by rfl, fun w' hw' => by go_simp⟩) hHeld ?_
                      try simp only [Act.put, List.getElem_toArray, List.getElem_cons_succ, List.getElem_cons_zero, List.setIfInBounds_toArray, List.set_cons_zero, List.set_cons_succ]
                      refine' wpAnyH_take (i := 8) (v := .bool true) rfl (by kernel_rfl) (by kernel_rfl) (by kernel_rfl) (fun _ _ _ h => nomatch h.1) (Or.inl ⟨by rfl, fun w' hw' => by go_simp⟩) hHeld ?_
                      try simp only [Act.put, List.getElem_toArray, List.getElem_cons_succ, List.getElem_cons_zero, List.setIfInBounds_toArray, List.set_cons_zero, List.set_cons_succ]
                      refine wpAnyH_ready (rs := [11]) (by kernel_rfl) (by simp) ?_
                      refine AllReadyH.cons rfl (fun K hK => ?_) AllReadyH.nil
                      refine wp_store_whole 62 _ _ rfl g9 _ #[.int .i64 ea, u1, u2] 62 z9 rfl rfl (by kernel_rfl) rfl (all3 v1 v2) ?_
                      intro X1xxxxxx hb hg
                      replace o1 := o1.kept hg (.inr (Lib.ownBlock_ne o1 z9 (by decide)))
                      replace o2 := o2.kept hg (.inr (Lib.ownBlock_ne o2 z9 (by decide)))
                      replace o3 := o3.kept hg (.inr (Lib.ownBlock_ne o3 z9 (by decide)))
                      replace o4 := o4.kept hg (.inr (Lib.ownBlock_ne o4 z9 (by decide)))
                      replace z10 := blk_gb z10 hg (by omega)
                      refine hK.out _ _ ⟨hHeld.1.gb hg (by omega), blk_gb hHeld.2.1 hg (blk_ne hHeld.2.1 z9 (by decide)), blk_gb hHeld.2.2 hg (blk_ne hHeld.2.2 z9 (by decide))⟩ (fun hHeld => ?_)
                      clear hK K hg
                      replace z9 := hb
                      clear hb
                      try simp only [Act.put, List.getElem_toArray, List.getElem_cons_succ, List.getElem_cons_zero, List.setIfInBounds_toArray, List.set_cons_zero, List.set_cons_succ]
                      refine wpAnyH_ready (rs := [12]) (by kernel_rfl) (by simp) ?_
                      refine AllReadyH.cons rfl (fun K hK => ?_) AllReadyH.nil
                      refine wp_store_whole 62 _ _ rfl g10 _ #[.int .i64 da, u3, u4] 62 z10 rfl rfl (by kernel_rfl) rfl (all3 v3 v4) ?_
                      intro X1xxxxxxx hb hg
                      replace o1 := o1.kept hg (.inr (Lib.ownBlock_ne o1 z10 (by decide)))
                      replace o2 := o2.kept hg (.inr (Lib.ownBlock_ne o2 z10 (by decide)))
                      replace o3 := o3.kept hg (.inr (Lib.ownBlock_ne o3 z10 (by decide)))
                      replace o4 := o4.kept hg (.inr (Lib.ownBlock_ne o4 z10 (by decide)))
                      replace z9 := blk_gb z9 hg (by omega)
                      refine hK.out _ _ ⟨hHeld.1.gb hg (by omega), blk_gb hHeld.2.1 hg (blk_ne hHeld.2.1 z10 (by decide)), blk_gb hHeld.2.2 hg (blk_ne hHeld.2.2 z10 (by decide))⟩ (fun hHeld => ?_)
                      clear hK K hg
                      replace z10 := hb
                      clear hb
                      try simp only [Act.put, List.getElem_toArray, List.getElem_cons_succ, List.getElem_cons_zero, List.setIfInBounds_toArray, List.set_cons_zero, List.set_cons_succ]
                      refine' wpAnyH_take (i := 13) (v := .bool true) rfl (by kernel_rfl) (by kernel_rfl) (by kernel_rfl) (fun _ _ _ h => nomatch h.1) (Or.inl ⟨by rfl, fun w' hw' => by go_simp⟩) hHeld ?_
                      try simp only [Act.put, List.getElem_toArray, List.getElem_cons_succ, List.getElem_cons_zero, List.setIfInBounds_toArray, List.set_cons_zero, List.set_cons_succ]
                      refine wpAnyH_done (by kernel_rfl) ?_ _
                      exact fin5 _ _ _ _ _ _ _ _ _ _ _ _ _ _ _ _ hHeld z9 z10 o1 o2 o3 o4
          · as_aux_lemma =>
              go_simp
              have hb : Below X1x.heap.size X1x (X1x.alloc (.cells #[.int .i64 0, .slice none 0 0, .slice none 0 0] 62)) := (Below.refl _ _).alloc (Nat.le_refl _) _
              have z9 := Blk.new X1x 62 #[.int .i64 0, .slice none 0 0, .slice none 0 0]
              have h4z9 : w.heap.size + 4 ≤ X1x.heap.size := by have := hHeld.1.r5.lt; omega
              replace o1 := own_below o1 hb
              replace o2 := own_below o2 hb
              replace o3 := own_below o3 hb
              replace o4 := own_below o4 hb
              replace p1 := own_below p1 hb
              replace p2 := own_below p2 hb
              refine hK.out _ _ ⟨hHeld.1.below hb, hHeld.2.1.below hb, hHeld.2.2.below hb⟩ (fun hHeld => ?_)
              clear hK K hb
              generalize X1x.alloc (.cells #[.int .i64 0, .slice none 0 0, .slice none 0 0] 62) = X1xx at *
              generalize X1x.heap.size = g9 at *
              try simp only [Act.put, List.getElem_toArray, List.getElem_cons_succ, List.getElem_cons_zero, List.setIfInBounds_toArray, List.set_cons_zero, List.set_cons_succ]
              refine wpAnyH_ready (rs := [3, 10]) (by kernel_rfl) (by simp) ?_
              refine AllReadyH.cons rfl (fun K hK => ?_) (AllReadyH.cons rfl (fun K hK => ?_) AllReadyH.nil)
              · as_aux_lemma =>
                  go_simp
                  (with_reducible refine (cH2 _ hHeld.1.k.x).mono ?_)
                  rintro e9 X1xxx ⟨A8, c8, B8, d8, rfl, p3, p4, hb⟩
                  replace o1 := own_below o1 hb
                  replace o2 := own_below o2 hb
                  replace o3 := own_below o3 hb
                  replace o4 := own_below o4 hb
                  replace p1 := own_below p1 hb
                  replace p2 := own_below p2 hb
                  replace z9 := z9.below hb
                  refine hK.out _ _ ⟨hHeld.1.below hb, hHeld.2.1.below hb, hHeld.2.2.below hb⟩ (fun hHeld => ?_)
                  clear hK K hb
                  try simp only [Act.put, List.getElem_toArray, List.getElem_cons_succ, List.getElem_cons_zero, List.setIfInBounds_toArray, List.set_cons_zero, List.set_cons_succ]
                  refine wpAnyH_ready (rs := [4, 10]) (by kernel_rfl) (by simp) ?_
                  refine AllReadyH.cons rfl (fun K hK => ?_) (AllReadyH.cons rfl (fun K hK => ?_) AllReadyH.nil)
                  · as_aux_lemma =>
                      go_simp
                      (with_reducible refine (cS _ _ _ _ _ _ _ _ _ _ _ hHeld.1.k.x p1 p2 p3 p4).mono ?_)
                      rintro e9 X1xxxx ⟨u1, u2, u3, u4, rfl, v1, v2, v3, v4, hb⟩
                      replace o1 := own_below o1 hb
                      replace o2 := own_below o2 hb
                      replace o3 := own_below o3 hb
                      replace o4 := own_below o4 hb
                      replace z9 := z9.below hb
                      clear p1 p2 p3 p4
                      refine hK.out _ _ ⟨hHeld.1.below hb, hHeld.2.1.below hb, hHeld.2.2.below hb⟩ (fun hHeld => ?_)
                      clear hK K hb
                      try simp only [Act.put, List.getElem_toArray, List.getElem_cons_succ, List.getElem_cons_zero, List.setIfInBounds_toArray, List.set_cons_zero, List.set_cons_succ]
                      refine' wpAnyH_take (i := 5) (v := .tuple #[.agg #[.int .i64 ea, u1, u2], .agg #[.int .i64 da, u3, u4], .bool true]) rfl (by kernel_rfl) (by kernel_rfl) (by kernel_rfl) (fun _ _ _ h => nomatch h.1) (Or.inl ⟨by rfl, fun w' hw' => by go_simp⟩) hHeld ?_
                      try simp only [Act.put, List.getElem_toArray, List.getElem_cons_succ, List.getElem_cons_zero, List.setIfInBounds_toArray, List.set_cons_zero, List.set_cons_succ]
                      refine' wpAnyH_take (i := 6) (v := .agg #[.int .i64 ea, u1, u2]) rfl (by kernel_rfl) (by kernel_rfl) (by kernel_rfl) (fun _ _ _ h => nomatch h.1) (Or.inl ⟨by rfl, fun w' hw' => by go_simp⟩) hHeld ?_
                      try simp only [Act.put, List.getElem_toArray, List.getElem_cons_succ, List.getElem_cons_zero, List.setIfInBounds_toArray, List.set_cons_zero, List.set_cons_succ]
                      refine' wpAnyH_take (i := 7) (v := .agg #[.int .i64 da, u3, u4]) rfl (by kernel_rfl) (by kernel_rfl) (by kernel_rfl) (fun _ _ _ h => nomatch h.1) (Or.inl ⟨by rfl, fun w' hw' => by go_simp⟩) hHeld ?_
                      try simp only [Act.put, List.getElem_toArray, List.getElem_cons_succ, List.getElem_cons_zero, List.setIfInBounds_toArray, List.set_cons_zero, List.set_cons_succ]
                      refine' wpAnyH_take (i := 8) (v := .bool true) rfl (by kernel_rfl) (by kernel_rfl) (by kernel_rfl) (fun _ _ _ h => nomatch h.1) (Or.inl ⟨by rfl, fun w' hw' => by go_simp⟩) hHeld ?_
                      try simp only [Act.put, List.getElem_toArray, List.getElem_cons_succ, List.getElem_cons_zero, List.setIfInBounds_toArray, List.set_cons_zero, List.set_cons_succ]
                      refine wpAnyH_ready (rs := [10]) (by kernel_rfl) (by simp) ?_
                      refine AllReadyH.cons rfl (fun K hK => ?_) AllReadyH.nil
                      go_simp
                      have hb : Below X1xxxx.heap.size X1xxxx (X1xxxx.alloc (.cells #[.int .i64 0, .slice none 0 0, .slice none 0 0] 62)) := (Below.refl _ _).alloc (Nat.le_refl _) _
                      have z10 := Blk.new X1xxxx 62 #[.int .i64 0, .slice none 0 0, .slice none 0 0]
                      have h4z10 : w.heap.size + 4 ≤ X1xxxx.heap.size := by have := hHeld.1.r5.lt; omega
                      have ne9 : X1xxxx.heap.size ≠ g9 := by have := z9.lt; omega
                      replace o1 := own_below o1 hb
                      replace o2 := own_below o2 hb
                      replace o3 := own_below o3 hb
                      replace o4 := own_below o4 hb
                      replace z9 := z9.below hb
                      refine hK.out _ _ ⟨hHeld.1.below hb, hHeld.2.1.below hb, hHeld.2.2.below hb⟩ (fun hHeld => ?_)
                      clear hK K hb
                      generalize X1xxxx.alloc (.cells #[.int .i64 0, .slice none 0 0, .slice none 0 0] 62) = X1xxxxx at *
                      generalize X1xxxx.heap.size = g10 at *
                      try simp only [Act.put, List.getElem_toArray, List.getElem_cons_succ, List.getElem_cons_zero, List.setIfInBounds_toArray, List.set_cons_zero, List.set_cons_succ]
                      refine wpAnyH_ready (rs := [11]) (by kernel_rfl) (by simp) ?_
                      refine AllReadyH.cons rfl (fun K hK => ?_) AllReadyH.nil
                      refine wp_store_whole 62 _ _ rfl g9 _ #[.int .i64 ea, u1, u2] 62 z9 rfl rfl (by kernel_rfl) rfl (all3 v1 v2) ?_
                      intro X1xxxxxx hb hg
                      replace o1 := o1.kept hg (.inr (Lib.ownBlock_ne o1 z9 (by decide)))
                      replace o2 := o2.kept hg (.inr (Lib.ownBlock_ne o2 z9 (by decide)))
                      replace o3 := o3.kept hg (.inr (Lib.ownBlock_ne o3 z9 (by decide)))
                      replace o4 := o4.kept hg (.inr (Lib.ownBlock_ne o4 z9 (by decide)))
                      replace z10 := blk_gb z10 hg (by omega)
                      refine hK.out _ _ ⟨hHeld.1.gb hg (by omega), blk_gb hHeld.2.1 hg (blk_ne hHeld.2.1 z9 (by decide)), blk_gb hHeld.2.2 hg (blk_ne hHeld.2.2 z9 (by decide))⟩ (fun hHeld => ?_)
                      clear hK K hg
                      replace z9 := hb
                      clear hb
                      try simp only [Act.put, List.getElem_toArray, List.getElem_cons_succ, List.getElem_cons_zero, List.setIfInBounds_toArray, List.set_cons_zero, List.set_cons_succ]
                      refine wpAnyH_ready (rs := [12]) (by kernel_rfl) (by simp) ?_
                      refine AllReadyH.cons rfl (fun K hK => ?_) AllReadyH.nil
                      refine wp_store_whole 62 _ _ rfl g10 _ #[.int .i64 da, u3, u4] 62 z10 rfl rfl (by kernel_rfl) rfl (all3 v3 v4) ?_
                      intro X1xxxxxxx hb hg
                      replace o1 := o1.kept hg (.inr (Lib.ownBlock_ne o1 z10 (by decide)))
                      replace o2 := o2.kept hg (.inr (Lib.ownBlock_ne o2 z10 (by decide)))
                      replace o3 := o3.kept hg (.inr (Lib.ownBlock_ne o3 z10 (by decide)))
                      replace o4 := o4.kept hg (.inr (Lib.ownBlock_ne o4 z10 (by decide)))
                      replace z9 := blk_gb z9 hg (by omega)
                      refine hK.out _ _ ⟨hHeld.1.gb hg (by omega), blk_gb hHeld.2.1 hg (blk_ne hHeld.2.1 z10 (by decide)), blk_gb hHeld.2.2 hg (blk_ne hHeld.2.2 z10 (by decide))⟩ (fun hHeld => ?_)
                      clear hK K hg
                      replace z10 := hb
                      clear hb
                      try simp only [Act.put, List.getElem_toArray, List.getElem_cons_succ, List.getElem_cons_zero, List.setIfInBounds_toArray, List.set_cons_zero, List.set_cons_succ]
                      refine' wpAnyH_take (i := 13) (v := .bool true) rfl (by kernel_rfl) (by kernel_rfl) (by kernel_rfl) (fun _ _ _ h => nomatch h.1) (Or.inl ⟨by rfl, fun w' hw' => by go_simp⟩) hHeld ?_
                      try simp only [Act.put, List.getElem_toArray, List.getElem_cons_succ, List.getElem_cons_zero, List.setIfInBounds_toArray, List.set_cons_zero, List.set_cons_succ]
                      refine wpAnyH_done (by kernel_rfl) ?_ _
                      exact fin5 _ _ _ _ _ _ _ _ _ _ _ _ _ _ _ _ hHeld z9 z10 o1 o2 o3 o4
                  · as_aux_lemma =>
                      go_simp
                      have hb : Below X1xxx.heap.size X1xxx (X1xxx.alloc (.cells #[.int .i64 0, .slice none 0 0, .slice none 0 0] 62)) := (Below.refl _ _).alloc (Nat.le_refl _) _
                      have z10 := Blk.new X1xxx 62 #[.int .i64 0, .slice none 0 0, .slice none 0 0]
                      have h4z10 : w.heap.size + 4 ≤ X1xxx.heap.size := by have := hHeld.1.r5.lt; omega
                      have ne9 : X1xxx.heap.size ≠ g9 := by have := z9.lt; omega
                      replace o1 := own_below o1 hb
                      replace o2 := own_below o2 hb
                      replace o3 := own_below o3 hb
                      replace o4 := own_below o4 hb
                      replace p1 := own_below p1 hb
                      replace p2 := own_below p2 hb
                      replace p3 := own_below p3 hb
                      replace p4 := own_below p4 hb
                      replace z9 := z9.below hb
                      refine hK.out _ _ ⟨hHeld.1.below hb, hHeld.2.1.below hb, hHeld.2.2.below hb⟩ (fun hHeld => ?_)
                      clear hK K hb
                      generalize X1xxx.alloc (.cells #[.int .i64 0, .slice none 0 0, .slice none 0 0] 62) = X1xxxx at *
                      generalize X1xxx.heap.size = g10 at *
                      try simp only [Act.put, List.getElem_toArray, List.getElem_cons_succ, List.getElem_cons_zero, List.setIfInBounds_toArray, List.set_cons_zero, List.set_cons_succ]
                      refine wpAnyH_ready (rs := [4]) (by kernel_rfl) (by simp) ?_
                      refine AllReadyH.cons rfl (fun K hK => ?_) AllReadyH.nil
                      go_simp
                      (with_reducible refine (cS _ _ _ _ _ _ _ _ _ _ _ hHeld.1.k.x p1 p2 p3 p4).mono ?_)
                      rintro e9 X1xxxxx ⟨u1, u2, u3, u4, rfl, v1, v2, v3, v4, hb⟩
                      replace o1 := own_below o1 hb
                      replace o2 := own_below o2 hb
                      replace o3 := own_below o3 hb
                      replace o4 := own_below o4 hb
                      replace z9 := z9.below hb
                      replace z10 := z10.below hb
                      clear p1 p2 p3 p4
                      refine hK.out _ _ ⟨hHeld.1.below hb, hHeld.2.1.below hb, hHeld.2.2.below hb⟩ (fun hHeld => ?_)
                      clear hK K hb
                      try simp only [Act.put, List.getElem_toArray, List.getElem_cons_succ, List.getElem_cons_zero, List.setIfInBounds_toArray, List.set_cons_zero, List.set_cons_succ]
                      refine' wpAnyH_take (i := 5) (v := .tuple #[.agg #[.int .i64 ea, u1, u2], .agg #[.int .i64 da, u3, u4], .bool true]) rfl (by kernel_rfl) (by kernel_rfl) (by kernel_rfl) (fun _ _ _ h => nomatch h.1) (Or.inl ⟨by rfl, fun w' hw' => by go_simp⟩) hHeld ?_
                      try simp only [Act.put, List.getElem_toArray, List.getElem_cons_succ, List.getElem_cons_zero, List.setIfInBounds_toArray, List.set_cons_zero, List.set_cons_succ]
                      refine' wpAnyH_take (i := 6) (v := .agg #[.int .i64 ea, u1, u2]) rfl (by kernel_rfl) (by kernel_rfl) (by kernel_rfl) (fun _ _ _ h => nomatch h.1) (Or.inl ⟨by rfl, fun w' hw' => by go_simp⟩) hHeld ?_
                      try simp only [Act.put, List.getElem_toArray, List.getElem_cons_succ, List.getElem_cons_zero, List.setIfInBounds_toArray, List.set_cons_zero, List.set_cons_succ]
                      refine' wpAnyH_take (i := 7) (v := .agg #[.int .i64 da, u3, u4]) rfl (by kernel_rfl) (by kernel_rfl) (by kernel_rfl) (fun _ _ _ h => nomatch h.1) (Or.inl ⟨by rfl, fun w' hw' => by go_simp⟩) hHeld ?_
                      try simp only [Act.put, List.getElem_toArray, List.getElem_cons_succ, List.getElem_cons_zero, List.setIfInBounds_toArray, List.set_cons_zero, List.set_cons_succ]
                      refine' wpAnyH_take (i := 8) (v := .bool true) rfl (by kernel_rfl) (by kernel_rfl) (by kernel_rfl) (fun _ _ _ h => nomatch h.1) (Or.inl ⟨by rfl, fun w' hw' => by go_simp⟩) hHeld ?_
                      try simp only [Act.put, List.getElem_toArray, List.getElem_cons_succ, List.getElem_cons_zero, List.setIfInBounds_toArray, List.set_cons_zero, List.set_cons_succ]
                      refine wpAnyH_ready (rs := [11]) (by kernel_rfl) (by simp) ?_
                      refine AllReadyH.cons rfl (fun K hK => ?_) AllReadyH.nil
                      refine wp_store_whole 62 _ _ rfl g9 _ #[.int .i64 ea, u1, u2] 62 z9 rfl rfl (by kernel_rfl) rfl (all3 v1 v2) ?_
                      intro X1xxxxxx hb hg
                      replace o1 := o1.kept hg (.inr (Lib.ownBlock_ne o1 z9 (by decide)))
                      replace o2 := o2.kept hg (.inr (Lib.ownBlock_ne o2 z9 (by decide)))
                      replace o3 := o3.kept hg (.inr (Lib.ownBlock_ne o3 z9 (by decide)))
                      replace o4 := o4.kept hg (.inr (Lib.ownBlock_ne o4 z9 (by decide)))
                      replace z10 := blk_gb z10 hg (by omega)
                      refine hK.out _ _ ⟨hHeld.1.gb hg (by omega), blk_gb hHeld.2.1 hg (blk_ne hHeld.2.1 z9 (by decide)), blk_gb hHeld.2.2 hg (blk_ne hHeld.2.2 z9 (by decide))⟩ (fun hHeld => ?_)
                      clear hK K hg
                      replace z9 := hb
                      clear hb
                      try simp only [Act.put, List.getElem_toArray, List.getElem_cons_succ, List.getElem_cons_zero, List.setIfInBounds_toArray, List.set_cons_zero, List.set_cons_succ]
                      refine wpAnyH_ready (rs := [12]) (by kernel_rfl) (by simp) ?_
                      refine AllReadyH.cons rfl (fun K hK => ?_) AllReadyH.nil
                      refine wp_store_whole 62 _ _ rfl g10 _ #[.int .i64 da, u3, u4] 62 z10 rfl rfl (by kernel_rfl) rfl (all3 v3 v4) ?_
                      intro X1xxxxxxx hb hg
                      replace o1 := o1.kept hg (.inr (Lib.ownBlock_ne o1 z10 (by decide)))
                      replace o2 := o2.kept hg (.inr (Lib.ownBlock_ne o2 z10 (by decide)))
                      replace o3 := o3.kept hg (.inr (Lib.ownBlock_ne o3 z10 (by decide)))
                      replace o4 := o4.kept hg (.inr (Lib.ownBlock_ne o4 z10 (by decide)))
                      replace z9 := blk_gb z9 hg (by omega)
                      refine hK.out _ _ ⟨hHeld.1.gb hg (by omega), blk_gb hHeld.2.1 hg (blk_ne hHeld.2.1 z10 (by decide)), blk_gb hHeld.2.2 hg (blk_ne hHeld.2.2 z10 (by decide))⟩ (fun hHeld => ?_)
                      clear hK K hg
                      replace z10 := hb
                      clear hb
                      try simp only [Act.put, List.getElem_toArray, List.getElem_cons_succ, List.getElem_cons_zero, List.setIfInBounds_toArray, List.set_cons_zero, List.set_cons_succ]
                      refine' wpAnyH_take (i := 13) (v := .bool true) rfl (by kernel_rfl) (by kernel_rfl) (by kernel_rfl) (fun _ _ _ h => nomatch h.1) (Or.inl ⟨by rfl, fun w' hw' => by go_simp⟩) hHeld ?_
                      try simp only [Act.put, List.getElem_toArray, List.getElem_cons_succ, List.getElem_cons_zero, List.setIfInBounds_toArray, List.set_cons_zero, List.set_cons_succ]
                      refine wpAnyH_done (by kernel_rfl) ?_ _
                      exact fin5 _ _ _ _ _ _ _ _ _ _ _ _ _ _ _ _ hHeld z9 z10 o1 o2 o3 o4
              · as_aux_lemma =>
                  go_simp
                  have hb : Below X1xx.heap.size X1xx (X1xx.alloc (.cells #[.int .i64 0, .slice none 0 0, .slice none 0 0] 62)) := (Below.refl _ _).alloc (Nat.le_refl _) _
                  have z10 := Blk.new X1xx 62 #[.int .i64 0, .slice none 0 0, .slice none 0 0]
                  have h4z10 : w.heap.size + 4 ≤ X1xx.heap.size := by have := hHeld.1.r5.lt; omega
                  have ne9 : X1xx.heap.size ≠ g9 := by have := z9.lt; omega
                  replace o1 := own_below o1 hb
                  replace o2 := own_below o2 hb
                  replace o3 := own_below o3 hb
                  replace o4 := own_below o4 hb
                  replace p1 := own_below p1 hb
                  replace p2 := own_below p2 hb
                  replace z9 := z9.below hb
                  refine hK.out _ _ ⟨hHeld.1.below hb, hHeld.2.1.below hb, hHeld.2.2.below hb⟩ (fun hHeld => ?_)
                  clear hK K hb
                  generalize X1xx.alloc (.cells #[.int .i64 0, .slice none 0 0, .slice none 0 0] 62) = X1xxx at *
                  generalize X1xx.heap.size = g10 at *
                  try simp only [Act.put, List.getElem_toArray, List.getElem_cons_succ, List.getElem_cons_zero, List.setIfInBounds_toArray, List.set_cons_zero, List.set_cons_succ]
                  refine wpAnyH_ready (rs := [3]) (by kernel_rfl) (by simp) ?_
                  refine AllReadyH.cons rfl (fun K hK => ?_) AllReadyH.nil
                  go_simp
                  (with_reducible refine (cH2 _ hHeld.1.k.x).mono ?_)
                  rintro e9 X1xxxx ⟨A8, c8, B8, d8, rfl, p3, p4, hb⟩
                  replace o1 := own_below o1 hb
                  replace o2 := own_below o2 hb
                  replace o3 := own_below o3 hb
                  replace o4 := own_below o4 hb
                  replace p1 := own_below p1 hb
                  replace p2 := own_below p2 hb
                  replace z9 := z9.below hb
                  replace z10 := z10.below hb
                  refine hK.out _ _ ⟨hHeld.1.below hb, hHeld.2.1.below hb, hHeld.2.2.below hb⟩ (fun hHeld => ?_)
                  clear hK K hb
                  try simp only [Act.put, List.getElem_toArray, List.getElem_cons_succ, List.getElem_cons_zero, List.setIfInBounds_toArray, List.set_cons_zero, List.set_cons_succ]
                  refine wpAnyH_ready (rs := [4]) (by kernel_rfl) (by simp) ?_
                  refine AllReadyH.cons rfl (fun K hK => ?_) AllReadyH.nil
                  go_simp
                  (with_reducible refine (cS _ _ _ _ _ _ _ _ _ _ _ hHeld.1.k.x p1 p2 p3 p4).mono ?_)
                  rintro e9 X1xxxxx ⟨u1, u2, u3, u4, rfl, v1, v2, v3, v4, hb⟩
                  replace o1 := own_below o1 hb
                  replace o2 := own_below o2 hb
                  replace o3 := own_below o3 hb
                  replace o4 := own_below o4 hb
                  replace z9 := z9.below hb
                  replace z10 := z10.below hb
                  clear p1 p2 p3 p4
                  refine hK.out _ _ ⟨hHeld.1.below hb, hHeld.2.1.below hb, hHeld.2.2.below hb⟩ (fun hHeld => ?_)
                  clear hK K hb
                  try simp only [Act.put, List.getElem_toArray, List.getElem_cons_succ, List.getElem_cons_zero, List.setIfInBounds_toArray, List.set_cons_zero, List.set_cons_succ]
                  refine' wpAnyH_take (i := 5) (v := .tuple #[.agg #[.int .i64 ea, u1, u2], .agg #[.int .i64 da, u3, u4], .bool true]) rfl (by kernel_rfl) (by kernel_rfl) (by kernel_rfl) (fun _ _ _ h => nomatch h.1) (Or.inl ⟨by rfl, fun w' hw' => by go_simp⟩) hHeld ?_
                  try simp only [Act.put, List.getElem_toArray, List.getElem_cons_succ, List.getElem_cons_zero, List.setIfInBounds_toArray, List.set_cons_zero, List.set_cons_succ]
                  refine' wpAnyH_take (i := 6) (v := .agg #[.int .i64 ea, u1, u2]) rfl (by kernel_rfl) (by kernel_rfl) (by kernel_rfl) (fun _ _ _ h => nomatch h.1) (Or.inl ⟨by rfl, fun w' hw' => by go_simp⟩) hHeld ?_
                  try simp only [Act.put, List.getElem_toArray, List.getElem_cons_succ, List.getElem_cons_zero, List.setIfInBounds_toArray, List.set_cons_zero, List.set_cons_succ]
                  refine' wpAnyH_take (i := 7) (v := .agg #[.int .i64 da, u3, u4]) rfl (by kernel_rfl) (by kernel_rfl) (by kernel_rfl) (fun _ _ _ h => nomatch h.1) (Or.inl ⟨by rfl, fun w' hw' => by go_simp⟩) hHeld ?_
                  try simp only [Act.put, List.getElem_toArray, List.getElem_cons_succ, List.getElem_cons_zero, List.setIfInBounds_toArray, List.set_cons_zero, List.set_cons_succ]
                  refine' wpAnyH_take (i := 8) (v := .bool true) rfl (by kernel_rfl) (by kernel_rfl) (by kernel_rfl) (fun _ _ _ h => nomatch h.1) (Or.inl ⟨by rfl, fun w' hw' => by go_simp⟩) hHeld ?_
                  try simp only [Act.put, List.getElem_toArray, List.getElem_cons_succ, List.getElem_cons_zero, List.setIfInBounds_toArray, List.set_cons_zero, List.set_cons_succ]
                  refine wpAnyH_ready (rs := [11]) (by kernel_rfl) (by simp) ?_
                  refine AllReadyH.cons rfl (fun K hK => ?_) AllReadyH.nil
                  refine wp_store_whole 62 _ _ rfl g9 _ #[.int .i64 ea, u1, u2] 62 z9 rfl rfl (by kernel_rfl) rfl (all3 v1 v2) ?_
                  intro X1xxxxxx hb hg
                  replace o1 := o1.kept hg (.inr (Lib.ownBlock_ne o1 z9 (by decide)))
                  replace o2 := o2.kept hg (.inr (Lib.ownBlock_ne o2 z9 (by decide)))
                  replace o3 := o3.kept hg (.inr (Lib.ownBlock_ne o3 z9 (by decide)))
                  replace o4 := o4.kept hg (.inr (Lib.ownBlock_ne o4 z9 (by decide)))
                  replace z10 := blk_gb z10 hg (by omega)
                  refine hK.out _ _ ⟨hHeld.1.gb hg (by omega), blk_gb hHeld.2.1 hg (blk_ne hHeld.2.1 z9 (by decide)), blk_gb hHeld.2.2 hg (blk_ne hHeld.2.2 z9 (by decide))⟩ (fun hHeld => ?_)
                  clear hK K hg
                  replace z9 := hb
                  clear hb
                  try simp only [Act.put, List.getElem_toArray, List.getElem_cons_succ, List.getElem_cons_zero, List.setIfInBounds_toArray, List.set_cons_zero, List.set_cons_succ]
                  refine wpAnyH_ready (rs := [12]) (by kernel_rfl) (by simp) ?_
                  refine AllReadyH.cons rfl (fun K hK => ?_) AllReadyH.nil
                  refine wp_store_whole 62 _ _ rfl g10 _ #[.int .i64 da, u3, u4] 62 z10 rfl rfl (by kernel_rfl) rfl (all3 v3 v4) ?_
                  intro X1xxxxxxx hb hg
                  replace o1 := o1.kept hg (.inr (Lib.ownBlock_ne o1 z10 (by decide)))
                  replace o2 := o2.kept hg (.inr (Lib.ownBlock_ne o2 z10 (by decide)))
                  replace o3 := o3.kept hg (.inr (Lib.ownBlock_ne o3 z10 (by decide)))
                  replace o4 := o4.kept hg (.inr (Lib.ownBlock_ne o4 z10 (by decide)))
                  replace z9 := blk_gb z9 hg (by omega)
                  refine hK.out _ _ ⟨hHeld.1.gb hg (by omega), blk_gb hHeld.2.1 hg (blk_ne hHeld.2.1 z10 (by decide)), blk_gb hHeld.2.2 hg (blk_ne hHeld.2.2 z10 (by decide))⟩ (fun hHeld => ?_)
                  clear hK K hg
                  replace z10 := hb
                  clear hb
                  try simp only [Act.put, List.getElem_toArray, List.getElem_cons_succ, List.getElem_cons_zero, List.setIfInBounds_toArray, List.set_cons_zero, List.set_cons_succ]
                  refine' wpAnyH_take (i := 13) (v := .bool true) rfl (by kernel_rfl) (by kernel_rfl) (by kernel_rfl) (fun _ _ _ h => nomatch h.1) (Or.inl ⟨by rfl, fun w' hw' => by go_simp⟩) hHeld ?_
                  try simp only [Act.put, List.getElem_toArray, List.getElem_cons_succ, List.getElem_cons_zero, List.setIfInBounds_toArray, List.set_cons_zero, List.set_cons_succ]
                  refine wpAnyH_done (by kernel_rfl) ?_ _
                  exact fin5 _ _ _ _ _ _ _ _ _ _ _ _ _ _ _ _ hHeld z9 z10 o1 o2 o3 o4
          · as_aux_lemma =>
              go_simp
              have hb : Below X1x.heap.size X1x (X1x.alloc (.cells #[.int .i64 0, .slice none 0 0, .slice none 0 0] 62)) := (Below.refl _ _).alloc (Nat.le_refl _) _
              have z10 := Blk.new X1x 62 #[.int .i64 0, .slice none 0 0, .slice none 0 0]
              have h4z10 : w.heap.size + 4 ≤ X1x.heap.size := by have := hHeld.1.r5.lt; omega
              replace o1 := own_below o1 hb
              replace o2 := own_below o2 hb
              replace o3 := own_below o3 hb
              replace o4 := own_below o4 hb
              replace p1 := own_below p1 hb
              replace p2 := own_below p2 hb
              refine hK.out _ _ ⟨hHeld.1.below hb, hHeld.2.1.below hb, hHeld.2.2.below hb⟩ (fun hHeld => ?_)
              clear hK K hb
              generalize X1x.alloc (.cells #[.int .i64 0, .slice none 0 0, .slice none 0 0] 62) = X1xx at *
              generalize X1x.heap.size = g10 at *
              try simp only [Act.put, List.getElem_toArray, List.getElem_cons_succ, List.getElem_cons_zero, List.setIfInBounds_toArray, List.set_cons_zero, List.set_cons_succ]
              refine wpAnyH_ready (rs := [3, 9]) (by kernel_rfl) (by simp) ?_
              refine AllReadyH.cons rfl (fun K hK => ?_) (AllReadyH.cons rfl (fun K hK => ?_) AllReadyH.nil)
              · as_aux_lemma =>
                  go_simp
                  (with_reducible refine (cH2 _ hHeld.1.k.x).mono ?_)
                  rintro e9 X1xxx ⟨A8, c8, B8, d8, rfl, p3, p4, hb⟩
                  replace o1 := own_below o1 hb
                  replace o2 := own_below o2 hb
                  replace o3 := own_below o3 hb
                  replace o4 := own_below o4 hb
                  replace p1 := own_below p1 hb
                  replace p2 := own_below p2 hb
                  replace z10 := z10.below hb
                  refine hK.out _ _ ⟨hHeld.1.below hb, hHeld.2.1.below hb, hHeld.2.2.below hb⟩ (fun hHeld => ?_)
                  clear hK K hb
                  try simp only [Act.put, List.getElem_toArray, List.getElem_cons_succ, List.getElem_cons_zero, List.setIfInBounds_toArray, List.set_cons_zero, List.set_cons_succ]
                  refine wpAnyH_ready (rs := [4, 9]) (by kernel_rfl) (by simp) ?_
                  refine AllReadyH.cons rfl (fun K hK => ?_) (AllReadyH.cons rfl (fun K hK => ?_) AllReadyH.nil)
                  · as_aux_lemma =>
                      go_simp
                      (with_reducible refine (cS _ _ _ _ _ _ _ _ _ _ _ hHeld.1.k.x p1 p2 p3 p4).mono ?_)
                      rintro e9 X1xxxx ⟨u1, u2, u3, u4, rfl, v1, v2, v3, v4, hb⟩
                      replace o1 := own_below o1 hb
                      replace o2 := own_below o2 hb
                      replace o3 := own_below o3 hb
                      replace o4 := own_below o4 hb
                      replace z10 := z10.below hb
                      clear p1 p2 p3 p4
                      refine hK.out _ _ ⟨hHeld.1.below hb, hHeld.2.1.below hb, hHeld.2.2.below hb⟩ (fun hHeld => ?_)
                      clear hK K hb
                      try simp only [Act.put, List.getElem_toArray, List.getElem_cons_succ, List.getElem_cons_zero, List.setIfInBounds_toArray, List.set_cons_zero, List.set_cons_succ]
                      refine' wpAnyH_take (i := 5) (v := .tuple #[.agg #[.int .i64 ea, u1, u2], .agg #[.int .i64 da, u3, u4], .bool true]) rfl (by kernel_rfl) (by kernel_rfl) (by kernel_rfl) (fun _ _ _ h => nomatch h.1) (Or.inl ⟨by rfl, fun w' hw' => by go_simp⟩) hHeld ?_
                      try simp only [Act.put, List.getElem_toArray, List.getElem_cons_succ, List.getElem_cons_zero, List.setIfInBounds_toArray, List.set_cons_zero, List.set_cons_succ]
                      refine' wpAnyH_take (i := 6) (v := .agg #[.int .i64 ea, u1, u2]) rfl (by kernel_rfl) (by kernel_rfl) (by kernel_rfl) (fun _ _ _ h => nomatch h.1) (Or.inl ⟨by rfl, fun w' hw' => by go_simp⟩) hHeld ?_
                      try simp only [Act.put, List.getElem_toArray, List.getElem_cons_succ, List.getElem_cons_zero, List.setIfInBounds_toArray, List.set_cons_zero, List.set_cons_succ]
                      refine' wpAnyH_take (i := 7) (v := .agg #[.int .i64 da, u3, u4]) rfl (by kernel_rfl) (by kernel_rfl) (by kernel_rfl) (fun _ _ _ h => nomatch h.1) (Or.inl ⟨by rfl, fun w' hw' => by go_simp⟩) hHeld ?_
                      try simp only [Act.put, List.getElem_toArray, List.getElem_cons_succ, List.getElem_cons_zero, List.setIfInBounds_toArray, List.set_cons_zero, List.set_cons_succ]
                      refine' wpAnyH_take (i := 8) (v := .bool true) rfl (by kernel_rfl) (by kernel_rfl) (by kernel_rfl) (fun _ _ _ h => nomatch h.1) (Or.inl ⟨by rfl, fun w' hw' => by go_simp⟩) hHeld ?_
                      try simp only [Act.put, List.getElem_toArray, List.getElem_cons_succ, List.getElem_cons_zero, List.setIfInBounds_toArray, List.set_cons_zero, List.set_cons_succ]
                      refine wpAnyH_ready (rs := [9]) (by kernel_rfl) (by simp) ?_
                      refine AllReadyH.cons rfl (fun K hK => ?_) AllReadyH.nil
                      go_simp
                      have hb : Below X1xxxx.heap.size X1xxxx (X1xxxx.alloc (.cells #[.int .i64 0, .slice none 0 0, .slice none 0 0] 62)) := (Below.refl _ _).alloc (Nat.le_refl _) _
                      have z9 := Blk.new X1xxxx 62 #[.int .i64 0, .slice none 0 0, .slice none 0 0]
                      have h4z9 : w.heap.size + 4 ≤ X1xxxx.heap.size := by have := hHeld.1.r5.lt; omega
                      have ne9 : g10 ≠ X1xxxx.heap.size := by have := z10.lt; omega
                      replace o1 := own_below o1 hb
                      replace o2 := own_below o2 hb
                      replace o3 := own_below o3 hb
                      replace o4 := own_below o4 hb
                      replace z10 := z10.below hb
                      refine hK.out _ _ ⟨hHeld.1.below hb, hHeld.2.1.below hb, hHeld.2.2.below hb⟩ (fun hHeld => ?_)
                      clear hK K hb
                      generalize X1xxxx.alloc (.cells #[.int .i64 0, .slice none 0 0, .slice none 0 0] 62) = X1xxxxx at *
                      generalize X1xxxx.heap.size = g9 at *
                      try simp only [Act.put, List.getElem_toArray, List.getElem_cons_succ, List.getElem_cons_zero, List.setIfInBounds_toArray, List.set_cons_zero, List.set_cons_succ]
                      refine wpAnyH_ready (rs := [11]) (by kernel_rfl) (by simp) ?_
                      refine AllReadyH.cons rfl (fun K hK => ?_) AllReadyH.nil
                      refine wp_store_whole 62 _ _ rfl g9 _ #[.int .i64 ea, u1, u2] 62 z9 rfl rfl (by kernel_rfl) rfl (all3 v1 v2) ?_
                      intro X1xxxxxx hb hg
                      replace o1 := o1.kept hg (.inr (Lib.ownBlock_ne o1 z9 (by decide)))
                      replace o2 := o2.kept hg (.inr (Lib.ownBlock_ne o2 z9 (by decide)))
                      replace o3 := o3.kept hg (.inr (Lib.ownBlock_ne o3 z9 (by decide)))
                      replace o4 := o4.kept hg (.inr (Lib.ownBlock_ne o4 z9 (by decide)))
                      replace z10 := blk_gb z10 hg (by omega)
                      refine hK.out _ _ ⟨hHeld.1.gb hg (by omega), blk_gb hHeld.2.1 hg (blk_ne hHeld.2.1 z9 (by decide)), blk_gb hHeld.2.2 hg (blk_ne hHeld.2.2 z9 (by decide))⟩ (fun hHeld => ?_)
                      clear hK K hg
                      replace z9 := hb
                      clear hb
                      try simp only [Act.put, List.getElem_toArray, List.getElem_cons_succ, List.getElem_cons_zero, List.setIfInBounds_toArray, List.set_cons_zero, List.set_cons_succ]
                      refine wpAnyH_ready (rs := [12]) (by kernel_rfl) (by simp) ?_
                      refine AllReadyH.cons rfl (fun K hK => ?_) AllReadyH.nil
                      refine wp_store_whole 62 _ _ rfl g10 _ #[.int .i64 da, u3, u4] 62 z10 rfl rfl (by kernel_rfl) rfl (all3 v3 v4) ?_
                      intro X1xxxxxxx hb hg
                      replace o1 := o1.kept hg (.inr (Lib.ownBlock_ne o1 z10 (by decide)))
                      replace o2 := o2.kept hg (.inr (Lib.ownBlock_ne o2 z10 (by decide)))
                      replace o3 := o3.kept hg (.inr (Lib.ownBlock_ne o3 z10 (by decide)))
                      replace o4 := o4.kept hg (.inr (Lib.ownBlock_ne o4 z10 (by decide)))
                      replace z9 := blk_gb z9 hg (by omega)
                      refine hK.out _ _ ⟨hHeld.1.gb hg (by omega), blk_gb hHeld.2.1 hg (blk_ne hHeld.2.1 z10 (by decide)), blk_gb hHeld.2.2 hg (blk_ne hHeld.2.2 z10 (by decide))⟩ (fun hHeld => ?_)
                      clear hK K hg
                      replace z10 := hb
                      clear hb
                      try simp only [Act.put, List.getElem_toArray, List.getElem_cons_succ, List.getElem_cons_zero, List.setIfInBounds_toArray, List.set_cons_zero, List.set_cons_succ]
                      refine' wpAnyH_take (i := 13) (v := .bool true) rfl (by kernel_rfl) (by kernel_rfl) (by kernel_rfl) (fun _ _ _ h => nomatch h.1) (Or.inl ⟨by rfl, fun w' hw' => by go_simp⟩) hHeld ?_
                      try simp only [Act.put, List.getElem_toArray, List.getElem_cons_succ, List.getElem_cons_zero, List.setIfInBounds_toArray, List.set_cons_zero, List.set_cons_succ]
                      refine wpAnyH_done (by kernel_rfl) ?_ _
                      exact fin5 _ _ _ _ _ _ _ _ _ _ _ _ _ _ _ _ hHeld z9 z10 o1 o2 o3 o4
                  · as_aux_lemma =>
                      go_simp
                      have hb : Below X1xxx.heap.size X1xxx (X1xxx.alloc (.cells #[.int .i64 0, .slice none 0 0, .slice none 0 0] 62)) := (Below.refl _ _).alloc (Nat.le_refl _) _
                      have z9 := Blk.new X1xxx 62 #[.int .i64 0, .slice none 0 0, .slice none 0 0]
                      have h4z9 : w.heap.size + 4 ≤ X1xxx.heap.size := by have := hHeld.1.r5.lt; omega
                      have ne9 : g10 ≠ X1xxx.heap.size := by have := z10.lt; omega
                      replace o1 := own_below o1 hb
                      replace o2 := own_below o2 hb
                      replace o3 := own_below o3 hb
                      replace o4 := own_below o4 hb
                      replace p1 := own_below p1 hb
                      replace p2 := own_below p2 hb
                      replace p3 := own_below p3 hb
                      replace p4 := own_below p4 hb
                      replace z10 := z10.below hb
                      refine hK.out _ _ ⟨hHeld.1.below hb, hHeld.2.1.below hb, hHeld.2.2.below hb⟩ (fun hHeld => ?_)
                      clear hK K hb
                      generalize X1xxx.alloc (.cells #[.int .i64 0, .slice none 0 0, .slice none 0 0] 62) = X1xxxx at *
                      generalize X1xxx.heap.size = g9 at *
                      try simp only [Act.put, List.getElem_toArray, List.getElem_cons_succ, List.getElem_cons_zero, List.setIfInBounds_toArray, List.set_cons_zero, List.set_cons_succ]
                      refine wpAnyH_ready (rs := [4]) (by kernel_rfl) (by simp) ?_
                      refine AllReadyH.cons rfl (fun K hK => ?_) AllReadyH.nil
                      go_simp
                      (with_reducible refine (cS _ _ _ _ _ _ _ _ _ _ _ hHeld.1.k.x p1 p2 p3 p4).mono ?_)
                      rintro e9 X1xxxxx ⟨u1, u2, u3, u4, rfl, v1, v2, v3, v4, hb⟩
                      replace o1 := own_below o1 hb
                      replace o2 := own_below o2 hb
                      replace o3 := own_below o3 hb
                      replace o4 := own_below o4 hb
                      replace z10 := z10.below hb
                      replace z9 := z9.below hb
                      clear p1 p2 p3 p4
                      refine hK.out _ _ ⟨hHeld.1.below hb, hHeld.2.1.below hb, hHeld.2.2.below hb⟩ (fun hHeld => ?_)
                      clear hK K hb
                      try simp only [Act.put, List.getElem_toArray, List.getElem_cons_succ, List.getElem_cons_zero, List.setIfInBounds_toArray, List.set_cons_zero, List.set_cons_succ]
                      refine' wpAnyH_take (i := 5) (v := .tuple #[.agg #[.int .i64 ea, u1, u2], .agg #[.int .i64 da, u3, u4], .bool true]) rfl (by kernel_rfl) (by kernel_rfl) (by kernel_rfl) (fun _ _ _ h => nomatch h.1) (Or.inl ⟨by rfl, fun w' hw' => by go_simp⟩) hHeld ?_
                      try simp only [Act.put, List.getElem_toArray, List.getElem_cons_succ, List.getElem_cons_zero, List.setIfInBounds_toArray, List.set_cons_zero, List.set_cons_succ]
                      refine' wpAnyH_take (i := 6) (v := .agg #[.int .i64 ea, u1, u2]) rfl (by kernel_rfl) (by kernel_rfl) (by kernel_rfl) (fun _ _ _ h => nomatch h.1) (Or.inl ⟨by rfl, fun w' hw' => by go_simp⟩) hHeld ?_
                      try simp only [Act.put, List.getElem_toArray, List.getElem_cons_succ, List.getElem_cons_zero, List.setIfInBounds_toArray, List.set_cons_zero, List.set_cons_succ]
                      refine' wpAnyH_take (i := 7) (v := .agg #[.int .i64 da, u3, u4]) rfl (by kernel_rfl) (by kernel_rfl) (by kernel_rfl) (fun _ _ _ h => nomatch h.1) (Or.inl ⟨by rfl, fun w' hw' => by go_simp⟩) hHeld ?_
                      try simp only [Act.put, List.getElem_toArray, List.getElem_cons_succ, List.getElem_cons_zero, List.setIfInBounds_toArray, List.set_cons_zero, List.set_cons_succ]
                      refine' wpAnyH_take (i := 8) (v := .bool true) rfl (by kernel_rfl) (by kernel_rfl) (by kernel_rfl) (fun _ _ _ h => nomatch h.1) (Or.inl ⟨by rfl, fun w' hw' => by go_simp⟩) hHeld ?_
                      try simp only [Act.put, List.getElem_toArray, List.getElem_cons_succ, List.getElem_cons_zero, List.setIfInBounds_toArray, List.set_cons_zero, List.set_cons_succ]
                      refine wpAnyH_ready (rs := [11]) (by kernel_rfl) (by simp) ?_
                      refine AllReadyH.cons rfl (fun K hK => ?_) AllReadyH.nil
                      refine wp_store_whole 62 _ _ rfl g9 _ #[.int .i64 ea, u1, u2] 62 z9 rfl rfl (by kernel_rfl) rfl (all3 v1 v2) ?_
                      intro X1xxxxxx hb hg
                      replace o1 := o1.kept hg (.inr (Lib.ownBlock_ne o1 z9 (by decide)))
                      replace o2 := o2.kept hg (.inr (Lib.ownBlock_ne o2 z9 (by decide)))
                      replace o3 := o3.kept hg (.inr (Lib.ownBlock_ne o3 z9 (by decide)))
                      replace o4 := o4.kept hg (.inr (Lib.ownBlock_ne o4 z9 (by decide)))
                      replace z10 := blk_gb z10 hg (by omega)
                      refine hK.out _ _ ⟨hHeld.1.gb hg (by omega), blk_gb hHeld.2.1 hg (blk_ne hHeld.2.1 z9 (by decide)), blk_gb hHeld.2.2 hg (blk_ne hHeld.2.2 z9 (by decide))⟩ (fun hHeld => ?_)
                      clear hK K hg
                      replace z9 := hb
                      clear hb
                      try simp only [Act.put, List.getElem_toArray, List.getElem_cons_succ, List.getElem_cons_zero, List.setIfInBounds_toArray, List.set_cons_zero, List.set_cons_succ]
                      refine wpAnyH_ready (rs := [12]) (by kernel_rfl) (by simp) ?_
                      refine AllReadyH.cons rfl (fun K hK => ?_) AllReadyH.nil
                      refine wp_store_whole 62 _ _ rfl g10 _ #[.int .i64 da, u3, u4] 62 z10 rfl rfl (by kernel_rfl) rfl (all3 v3 v4) ?_
                      intro X1xxxxxxx hb hg
                      replace o1 := o1.kept hg (.inr (Lib.ownBlock_ne o1 z10 (by decide)))
                      replace o2 := o2.kept hg (.inr (Lib.ownBlock_ne o2 z10 (by decide)))
                      replace o3 := o3.kept hg (.inr (Lib.ownBlock_ne o3 z10 (by decide)))
                      replace o4 := o4.kept hg (.inr (Lib.ownBlock_ne o4 z10 (by decide)))
                      replace z9 := blk_gb z9 hg (by omega)
                      refine hK.out _ _ ⟨hHeld.1.gb hg (by omega), blk_gb hHeld.2.1 hg (blk_ne hHeld.2.1 z10 (by decide)), blk_gb hHeld.2.2 hg (blk_ne hHeld.2.2 z10 (by decide))⟩ (fun hHeld => ?_)
                      clear hK K hg
                      replace z10 := hb
                      clear hb
                      try simp only [Act.put, List.getElem_toArray, List.getElem_cons_succ, List.getElem_cons_zero, List.setIfInBounds_toArray, List.set_cons_zero, List.set_cons_succ]
                      refine' wpAnyH_take (i := 13) (v := .bool true) rfl (by kernel_rfl) (by kernel_rfl) (by kernel_rfl) (fun _ _ _ h => nomatch h.1) (Or.inl ⟨by rfl, fun w' hw' => by go_simp⟩) hHeld ?_
                      try simp only [Act.put, List.getElem_toArray, List.getElem_cons_succ, List.getElem_cons_zero, List.setIfInBounds_toArray, List.set_cons_zero, List.set_cons_succ]
                      refine wpAnyH_done (by kernel_rfl) ?_ _
                      exact fin5 _ _ _ _ _ _ _ _ _ _ _ _ _ _ _ _ hHeld z9 z10 o1 o2 o3 o4
              · as_aux_lemma =>
                  go_simp
                  have hb : Below X1xx.heap.size X1xx (X1xx.alloc (.cells #[.int .i64 0, .slice none 0 0, .slice none 0 0] 62)) := (Below.refl _ _).alloc (Nat.le_refl _) _
                  have z9 := Blk.new X1xx 62 #[.int .i64 0, .slice none 0 0, .slice none 0 0]
                  have h4z9 : w.heap.size + 4 ≤ X1xx.heap.size := by have := hHeld.1.r5.lt; omega
                  have ne9 : g10 ≠ X1xx.heap.size := by have := z10.lt; omega
                  replace o1 := own_below o1 hb
                  replace o2 := own_below o2 hb
                  replace o3 := own_below o3 hb
                  replace o4 := own_below o4 hb
                  replace p1 := own_below p1 hb
                  replace p2 := own_below p2 hb
                  replace z10 := z10.below hb
                  refine hK.out _ _ ⟨hHeld.1.below hb, hHeld.2.1.below hb, hHeld.2.2.below hb⟩ (fun hHeld => ?_)
                  clear hK K hb
                  generalize X1xx.alloc (.cells #[.int .i64 0, .slice none 0 0, .slice none 0 0] 62) = X1xxx at *
                  generalize X1xx.heap.size = g9 at *
                  try simp only [Act.put, List.getElem_toArray, List.getElem_cons_succ, List.getElem_cons_zero, List.setIfInBounds_toArray, List.set_cons_zero, List.set_cons_succ]
                  refine wpAnyH_ready (rs := [3]) (by kernel_rfl) (by simp) ?_
                  refine AllReadyH.cons rfl (fun K hK => ?_) AllReadyH.nil
                  go_simp
                  (with_reducible refine (cH2 _ hHeld.1.k.x).mono ?_)
                  rintro e9 X1xxxx ⟨A8, c8, B8, d8, rfl, p3, p4, hb⟩
                  replace o1 := own_below o1 hb
                  replace o2 := own_below o2 hb
                  replace o3 := own_below o3 hb
                  replace o4 := own_below o4 hb
                  replace p1 := own_below p1 hb
                  replace p2 := own_below p2 hb
                  replace z10 := z10.below hb
                  replace z9 := z9.below hb
                  refine hK.out _ _ ⟨hHeld.1.below hb, hHeld.2.1.below hb, hHeld.2.2.below hb⟩ (fun hHeld => ?_)
                  clear hK K hb
                  try simp only [Act.put, List.getElem_toArray, List.getElem_cons_succ, List.getElem_cons_zero, List.setIfInBounds_toArray, List.set_cons_zero, List.set_cons_succ]
                  refine wpAnyH_ready (rs := [4]) (by kernel_rfl) (by simp) ?_
                  refine AllReadyH.cons rfl (fun K hK => ?_) AllReadyH.nil
                  go_simp
                  (with_reducible refine (cS _ _ _ _ _ _ _ _ _ _ _ hHeld.1.k.x p1 p2 p3 p4).mono ?_)
                  rintro e9 X1xxxxx ⟨u1, u2, u3, u4, rfl, v1, v2, v3, v4, hb⟩
                  replace o1 := own_below o1 hb
                  replace o2 := own_below o2 hb
                  replace o3 := own_below o3 hb
                  replace o4 := own_below o4 hb
                  replace z10 := z10.below hb
                  replace z9 := z9.below hb
                  clear p1 p2 p3 p4
                  refine hK.out _ _ ⟨hHeld.1.below hb, hHeld.2.1.below hb, hHeld.2.2.below hb⟩ (fun hHeld => ?_)
                  clear hK K hb
                  try simp only [Act.put, List.getElem_toArray, List.getElem_cons_succ, List.getElem_cons_zero, List.setIfInBounds_toArray, List.set_cons_zero, List.set_cons_succ]
                  refine' wpAnyH_take (i := 5) (v := .tuple #[.agg #[.int .i64 ea, u1, u2], .agg #[.int .i64 da, u3, u4], .bool true]) rfl (by kernel_rfl) (by kernel_rfl) (by kernel_rfl) (fun _ _ _ h => nomatch h.1) (Or.inl ⟨by rfl, fun w' hw' => by go_simp⟩) hHeld ?_
                  try simp only [Act.put, List.getElem_toArray, List.getElem_cons_succ, List.getElem_cons_zero, List.setIfInBounds_toArray, List.set_cons_zero, List.set_cons_succ]
                  refine' wpAnyH_take (i := 6) (v := .agg #[.int .i64 ea, u1, u2]) rfl (by kernel_rfl) (by kernel_rfl) (by kernel_rfl) (fun _ _ _ h => nomatch h.1) (Or.inl ⟨by rfl, fun w' hw' => by go_simp⟩) hHeld ?_
                  try simp only [Act.put, List.getElem_toArray, List.getElem_cons_succ, List.getElem_cons_zero, List.setIfInBounds_toArray, List.set_cons_zero, List.set_cons_succ]
                  refine' wpAnyH_take (i := 7) (v := .agg #[.int .i64 da, u3, u4]) rfl (by kernel_rfl) (by kernel_rfl) (by kernel_rfl) (fun _ _ _ h => nomatch h.1) (Or.inl ⟨by rfl, fun w' hw' => by go_simp⟩) hHeld ?_
                  try simp only [Act.put, List.getElem_toArray, List.getElem_cons_succ, List.getElem_cons_zero, List.setIfInBounds_toArray, List.set_cons_zero, List.set_cons_succ]
                  refine' wpAnyH_take (i := 8) (v := .bool true) rfl (by kernel_rfl) (by kernel_rfl) (by kernel_rfl) (fun _ _ _ h => nomatch h.1) (Or.inl ⟨by rfl, fun w' hw' => by go_simp⟩) hHeld ?_
                  try simp only [Act.put, List.getElem_toArray, List.getElem_cons_succ, List.getElem_cons_zero, List.setIfInBounds_toArray, List.set_cons_zero, List.set_cons_succ]
                  refine wpAnyH_ready (rs := [11]) (by kernel_rfl) (by simp) ?_
                  refine AllReadyH.cons rfl (fun K hK => ?_) AllReadyH.nil
                  refine wp_store_whole 62 _ _ rfl g9 _ #[.int .i64 ea, u1, u2] 62 z9 rfl rfl (by kernel_rfl) rfl (all3 v1 v2) ?_
                  intro X1xxxxxx hb hg
                  replace o1 := o1.kept hg (.inr (Lib.ownBlock_ne o1 z9 (by decide)))
                  replace o2 := o2.kept hg (.inr (Lib.ownBlock_ne o2 z9 (by decide)))
                  replace o3 := o3.kept hg (.inr (Lib.ownBlock_ne o3 z9 (by decide)))
                  replace o4 := o4.kept hg (.inr (Lib.ownBlock_ne o4 z9 (by decide)))
                  replace z10 := blk_gb z10 hg (by omega)
                  refine hK.out _ _ ⟨hHeld.1.gb hg (by omega), blk_gb hHeld.2.1 hg (blk_ne hHeld.2.1 z9 (by decide)), blk_gb hHeld.2.2 hg (blk_ne hHeld.2.2 z9 (by decide))⟩ (fun hHeld => ?_)
                  clear hK K hg
                  replace z9 := hb
                  clear hb
                  try simp only [Act.put, List.getElem_toArray, List.getElem_cons_succ, List.getElem_cons_zero, List.setIfInBounds_toArray, List.set_cons_zero, List.set_cons_succ]
                  refine wpAnyH_ready (rs := [12]) (by kernel_rfl) (by simp) ?_
                  refine AllReadyH.cons rfl (fun K hK => ?_) AllReadyH.nil
                  refine wp_store_whole 62 _ _ rfl g10 _ #[.int .i64 da, u3, u4] 62 z10 rfl rfl (by kernel_rfl) rfl (all3 v3 v4) ?_
                  intro X1xxxxxxx hb hg
                  replace o1 := o1.kept hg (.inr (Lib.ownBlock_ne o1 z10 (by decide)))
                  replace o2 := o2.kept hg (.inr (Lib.ownBlock_ne o2 z10 (by decide)))
                  replace o3 := o3.kept hg (.inr (Lib.ownBlock_ne o3 z10 (by decide)))
                  replace o4 := o4.kept hg (.inr (Lib.ownBlock_ne o4 z10 (by decide)))
                  replace z9 := blk_gb z9 hg (by omega)
                  refine hK.out _ _ ⟨hHeld.1.gb hg (by omega), blk_gb hHeld.2.1 hg (blk_ne hHeld.2.1 z10 (by decide)), blk_gb hHeld.2.2 hg (blk_ne hHeld.2.2 z10 (by decide))⟩ (fun hHeld => ?_)
                  clear hK K hg
                  replace z10 := hb
                  clear hb
                  try simp only [Act.put, List.getElem_toArray, List.getElem_cons_succ, List.getElem_cons_zero, List.setIfInBounds_toArray, List.set_cons_zero, List.set_cons_succ]
                  refine' wpAnyH_take (i := 13) (v := .bool true) rfl (by kernel_rfl) (by kernel_rfl) (by kernel_rfl) (fun _ _ _ h => nomatch h.1) (Or.inl ⟨by rfl, fun w' hw' => by go_simp⟩) hHeld ?_
                  try simp only [Act.put, List.getElem_toArray, List.getElem_cons_succ, List.getElem_cons_zero, List.setIfInBounds_toArray, List.set_cons_zero, List.set_cons_succ]
                  refine wpAnyH_done (by kernel_rfl) ?_ _
                  exact fin5 _ _ _ _ _ _ _ _ _ _ _ _ _ _ _ _ hHeld z9 z10 o1 o2 o3 o4
      · as_aux_lemma =>
          go_simp
          have hb : Below X1.heap.size X1 (X1.alloc (.cells #[.int .i64 0, .slice none 0 0, .slice none 0 0] 62)) := (Below.refl _ _).alloc (Nat.le_refl _) _
          have z9 := Blk.new X1 62 #[.int .i64 0, .slice none 0 0, .slice none 0 0]
          have h4z9 : w.heap.size + 4 ≤ X1.heap.size := by have := hHeld.1.r5.lt; omega
          replace o1 := own_below o1 hb
          replace o2 := own_below o2 hb
          replace o3 := own_below o3 hb
          replace o4 := own_below o4 hb
          refine hK.out _ _ ⟨hHeld.1.below hb, hHeld.2.1.below hb, hHeld.2.2.below hb⟩ (fun hHeld => ?_)
          clear hK K hb
          generalize X1.alloc (.cells #[.int .i64 0, .slice none 0 0, .slice none 0 0] 62) = X1x at *
          generalize X1.heap.size = g9 at *
          try simp only [Act.put, List.getElem_toArray, List.getElem_cons_succ, List.getElem_cons_zero, List.setIfInBounds_toArray, List.set_cons_zero, List.set_cons_succ]
          refine wpAnyH_ready (rs := [1, 10]) (by kernel_rfl) (by simp) ?_
          refine AllReadyH.cons rfl (fun K hK => ?_) (AllReadyH.cons rfl (fun K hK => ?_) AllReadyH.nil)
          · as_aux_lemma =>
              go_simp
              (with_reducible refine (cH1 _ hHeld.1.k.x).mono ?_)
              rintro e9 X1xx ⟨A7, c7, B7, d7, rfl, p1, p2, hb⟩
              replace o1 := own_below o1 hb
              replace o2 := own_below o2 hb
              replace o3 := own_below o3 hb
              replace o4 := own_below o4 hb
              replace z9 := z9.below hb
              refine hK.out _ _ ⟨hHeld.1.below hb, hHeld.2.1.below hb, hHeld.2.2.below hb⟩ (fun hHeld => ?_)
              clear hK K hb
              try simp only [Act.put, List.getElem_toArray, List.getElem_cons_succ, List.getElem_cons_zero, List.setIfInBounds_toArray, List.set_cons_zero, List.set_cons_succ]
              refine wpAnyH_ready (rs := [3, 10]) (by kernel_rfl) (by simp) ?_
              refine AllReadyH.cons rfl (fun K hK => ?_) (AllReadyH.cons rfl (fun K hK => ?_) AllReadyH.nil)
              · as_aux_lemma =>
                  go_simp
                  (with_reducible refine (cH2 _ hHeld.1.k.x).mono ?_)
                  rintro e9 X1xxx ⟨A8, c8, B8, d8, rfl, p3, p4, hb⟩
                  replace o1 := own_below o1 hb
                  replace o2 := own_below o2 hb
                  replace o3 := own_below o3 hb
                  replace o4 := own_below o4 hb
                  replace p1 := own_below p1 hb
                  replace p2 := own_below p2 hb
                  replace z9 := z9.below hb
                  refine hK.out _ _ ⟨hHeld.1.below hb, hHeld.2.1.below hb, hHeld.2.2.below hb⟩ (fun hHeld => ?_)
                  clear hK K hb
                  try simp only [Act.put, List.getElem_toArray, List.getElem_cons_succ, List.getElem_cons_zero, List.setIfInBounds_toArray, List.set_cons_zero, List.set_cons_succ]
                  refine wpAnyH_ready (rs := [4, 10]) (by kernel_rfl) (by simp) ?_
                  refine AllReadyH.cons rfl (fun K hK => ?_) (AllReadyH.cons rfl (fun K hK => ?_) AllReadyH.nil)
                  · as_aux_lemma =>
                      go_simp
                      (with_reducible refine (cS _ _ _ _ _ _ _ _ _ _ _ hHeld.1.k.x p1 p2 p3 p4).mono ?_)
                      rintro e9 X1xxxx ⟨u1, u2, u3, u4, rfl, v1, v2, v3, v4, hb⟩
                      replace o1 := own_below o1 hb
                      replace o2 := own_below o2 hb
                      replace o3 := own_below o3 hb
                      replace o4 := own_below o4 hb
                      replace z9 := z9.below hb
                      clear p1 p2 p3 p4
                      refine hK.out _ _ ⟨hHeld.1.below hb, hHeld.2.1.below hb, hHeld.2.2.below hb⟩ (fun hHeld => ?_)
                      clear hK K hb
                      try simp only [Act.put, List.getElem_toArray, List.getElem_cons_succ, List.getElem_cons_zero, List.setIfInBounds_toArray, List.set_cons_zero, List.set_cons_succ]
                      refine' wpAnyH_take (i := 5) (v := .tuple #[.agg #[.int .i64 ea, u1, u2], .agg #[.int .i64 da, u3, u4], .bool true]) rfl (by kernel_rfl) (by kernel_rfl) (by kernel_rfl) (fun _ _ _ h => nomatch h.1) (Or.inl ⟨by rfl, fun w' hw' => by go_simp⟩) hHeld ?_
                      try simp only [Act.put, List.getElem_toArray, List.getElem_cons_succ, List.getElem_cons_zero, List.setIfInBounds_toArray, List.set_cons_zero, List.set_cons_succ]
                      refine' wpAnyH_take (i := 6) (v := .agg #[.int .i64 ea, u1, u2]) rfl (by kernel_rfl) (by kernel_rfl) (by kernel_rfl) (fun _ _ _ h => nomatch h.1) (Or.inl ⟨by rfl, fun w' hw' => by go_simp⟩) hHeld ?_
                      try simp only [Act.put, List.getElem_toArray, List.getElem_cons_succ, List.getElem_cons_zero, List.setIfInBounds_toArray, List.set_cons_zero, List.set_cons_succ]
                      refine' wpAnyH_take (i := 7) (v := .agg #[.int .i64 da, u3, u4]) rfl (by kernel_rfl) (by kernel_rfl) (by kernel_rfl) (fun _ _ _ h => nomatch h.1) (Or.inl ⟨by rfl, fun w' hw' => by go_simp⟩) hHeld ?_
                      try simp only [Act.put, List.getElem_toArray, List.getElem_cons_succ, List.getElem_cons_zero, List.setIfInBounds_toArray, List.set_cons_zero, List.set_cons_succ]
                      refine' wpAnyH_take (i := 8) (v := .bool true) rfl (by kernel_rfl) (by kernel_rfl) (by kernel_rfl) (fun _ _ _ h => nomatch h.1) (Or.inl ⟨by rfl, fun w' hw' => by go_simp⟩) hHeld ?_
                      try simp only [Act.put, List.getElem_toArray, List.getElem_cons_succ, List.getElem_cons_zero, List.setIfInBounds_toArray, List.set_cons_zero, List.set_cons_succ]
                      refine wpAnyH_ready (rs := [10]) (by kernel_rfl) (by simp) ?_
                      refine AllReadyH.cons rfl (fun K hK => ?_) AllReadyH.nil
                      go_simp
                      have hb : Below X1xxxx.heap.size X1xxxx (X1xxxx.alloc (.cells #[.int .i64 0, .slice none 0 0, .slice none 0 0] 62)) := (Below.refl _ _).alloc (Nat.le_refl _) _
                      have z10 := Blk.new X1xxxx 62 #[.int .i64 0, .slice none 0 0, .slice none 0 0]
                      have h4z10 : w.heap.size + 4 ≤ X1xxxx.heap.size := by have := hHeld.1.r5.lt; omega
                      have ne9 : X1xxxx.heap.size ≠ g9 := by have := z9.lt; omega
                      replace o1 := own_below o1 hb
                      replace o2 := own_below o2 hb
                      replace o3 := own_below o3 hb
                      replace o4 := own_below o4 hb
                      replace z9 := z9.below hb
                      refine hK.out _ _ ⟨hHeld.1.below hb, hHeld.2.1.below hb, hHeld.2.2.below hb⟩ (fun hHeld => ?_)
                      clear hK K hb
                      generalize X1xxxx.alloc (.cells #[.int .i64 0, .slice none 0 0, .slice none 0 0] 62) = X1xxxxx at *
                      generalize X1xxxx.heap.size = g10 at *
                      try simp only [Act.put, List.getElem_toArray, List.getElem_cons_succ, List.getElem_cons_zero, List.setIfInBounds_toArray, List.set_cons_zero, List.set_cons_succ]
                      refine wpAnyH_ready (rs := [11]) (by kernel_rfl) (by simp) ?_
                      refine AllReadyH.cons rfl (fun K hK => ?_) AllReadyH.nil
                      refine wp_store_whole 62 _ _ rfl g9 _ #[.int .i64 ea, u1, u2] 62 z9 rfl rfl (by kernel_rfl) rfl (all3 v1 v2) ?_
                      intro X1xxxxxx hb hg
                      replace o1 := o1.kept hg (.inr (Lib.ownBlock_ne o1 z9 (by decide)))
                      replace o2 := o2.kept hg (.inr (Lib.ownBlock_ne o2 z9 (by decide)))
                      replace o3 := o3.kept hg (.inr (Lib.ownBlock_ne o3 z9 (by decide)))
                      replace o4 := o4.kept hg (.inr (Lib.ownBlock_ne o4 z9 (by decide)))
                      replace z10 := blk_gb z10 hg (by omega)
                      refine hK.out _ _ ⟨hHeld.1.gb hg (by omega), blk_gb hHeld.2.1 hg (blk_ne hHeld.2.1 z9 (by decide)), blk_gb hHeld.2.2 hg (blk_ne hHeld.2.2 z9 (by decide))⟩ (fun hHeld => ?_)
                      clear hK K hg
                      replace z9 := hb
                      clear hb
                      try simp only [Act.put, List.getElem_toArray, List.getElem_cons_succ, List.getElem_cons_zero, List.setIfInBounds_toArray, List.set_cons_zero, List.set_cons_succ]
                      refine wpAnyH_ready (rs := [12]) (by kernel_rfl) (by simp) ?_
                      refine AllReadyH.cons rfl (fun K hK => ?_) AllReadyH.nil
                      refine wp_store_whole 62 _ _ rfl g10 _ #[.int .i64 da, u3, u4] 62 z10 rfl rfl (by kernel_rfl) rfl (all3 v3 v4) ?_
                      intro X1xxxxxxx hb hg
                      replace o1 := o1.kept hg (.inr (Lib.ownBlock_ne o1 z10 (by decide)))
                      replace o2 := o2.kept hg (.inr (Lib.ownBlock_ne o2 z10 (by decide)))
                      replace o3 := o3.kept hg (.inr (Lib.ownBlock_ne o3 z10 (by decide)))
                      replace o4 := o4.kept hg (.inr (Lib.ownBlock_ne o4 z10 (by decide)))
                      replace z9 := blk_gb z9 hg (by omega)
                      refine hK.out _ _ ⟨hHeld.1.gb hg (by omega), blk_gb hHeld.2.1 hg (blk_ne hHeld.2.1 z10 (by decide)), blk_gb hHeld.2.2 hg (blk_ne hHeld.2.2 z10 (by decide))⟩ (fun hHeld => ?_)
                      clear hK K hg
                      replace z10 := hb
                      clear hb
                      try simp only [Act.put, List.getElem_toArray, List.getElem_cons_succ, List.getElem_cons_zero, List.setIfInBounds_toArray, List.set_cons_zero, List.set_cons_succ]
                      refine' wpAnyH_take (i := 13) (v := .bool true) rfl (by kernel_rfl) (by kernel_rfl) (by kernel_rfl) (fun _ _ _ h => nomatch h.1) (Or.inl ⟨by rfl, fun w' hw' => by go_simp⟩) hHeld ?_
                      try simp only [Act.put, List.getElem_toArray, List.getElem_cons_succ, List.getElem_cons_zero, List.setIfInBounds_toArray, List.set_cons_zero, List.set_cons_succ]
                      refine wpAnyH_done (by kernel_rfl) ?_ _
                      exact fin5 _ _ _ _ _ _ _ _ _ _ _ _ _ _ _ _ hHeld z9 z10 o1 o2 o3 o4
                  · as_aux_lemma =>
                      go_simp
                      have hb : Below X1xxx.heap.size X1xxx (X1xxx.alloc (.cells #[.int .i64 0, .slice none 0 0, .slice none 0 0] 62)) := (Below.refl _ _).alloc (Nat.le_refl _) _
                      have z10 := Blk.new X1xxx 62 #[.int .i64 0, .slice none 0 0, .slice none 0 0]
                      have h4z10 : w.heap.size + 4 ≤ X1xxx.heap.size := by have := hHeld.1.r5.lt; omega
                      have ne9 : X1xxx.heap.size ≠ g9 := by have := z9.lt; omega
                      replace o1 := own_below o1 hb
                      replace o2 := own_below o2 hb
                      replace o3 := own_below o3 hb
                      replace o4 := own_below o4 hb
                      replace p1 := own_below p1 hb
                      replace p2 := own_below p2 hb
                      replace p3 := own_below p3 hb
                      replace p4 := own_below p4 hb
                      replace z9 := z9.below hb
                      refine hK.out _ _ ⟨hHeld.1.below hb, hHeld.2.1.below hb, hHeld.2.2.below hb⟩ (fun hHeld => ?_)
                      clear hK K hb
                      generalize X1xxx.alloc (.cells #[.int .i64 0, .slice none 0 0, .slice none 0 0] 62) = X1xxxx at *
                      generalize X1xxx.heap.size = g10 at *
                      try simp only [Act.put, List.getElem_toArray, List.getElem_cons_succ, List.getElem_cons_zero, List.setIfInBounds_toArray, List.set_cons_zero, List.set_cons_succ]
                      refine wpAnyH_ready (rs := [4]) (by kernel_rfl) (by simp) ?_
                      refine AllReadyH.cons rfl (fun K hK => ?_) AllReadyH.nil
                      go_simp
                      (with_reducible refine (cS _ _ _ _ _ _ _ _ _ _ _ hHeld.1.k.x p1 p2 p3 p4).mono ?_)
                      rintro e9 X1xxxxx ⟨u1, u2, u3, u4, rfl, v1, v2, v3, v4, hb⟩
                      replace o1 := own_below o1 hb
                      replace o2 := own_below o2 hb
                      replace o3 := own_below o3 hb
                      replace o4 := own_below o4 hb
                      replace z9 := z9.below hb
                      replace z10 := z10.below hb
                      clear p1 p2 p3 p4
                      refine hK.out _ _ ⟨hHeld.1.below hb, hHeld.2.1.below hb, hHeld.2.2.below hb⟩ (fun hHeld => ?_)
                      clear hK K hb
                      try simp only [Act.put, List.getElem_toArray, List.getElem_cons_succ, List.getElem_cons_zero, List.setIfInBounds_toArray, List.set_cons_zero, List.set_cons_succ]
                      refine' wpAnyH_take (i := 5) (v := .tuple #[.agg #[.int .i64 ea, u1, u2], .agg #[.int .i64 da, u3, u4], .bool true]) rfl (by kernel_rfl) (by kernel_rfl) (by kernel_rfl) (fun _ _ _ h => nomatch h.1) (Or.inl ⟨by rfl, fun w' hw' => by go_simp⟩) hHeld ?_
                      try simp only [Act.put, List.getElem_toArray, List.getElem_cons_succ, List.getElem_cons_zero, List.setIfInBounds_toArray, List.set_cons_zero, List.set_cons_succ]
                      refine' wpAnyH_take (i := 6) (v := .agg #[.int .i64 ea, u1, u2]) rfl (by kernel_rfl) (by kernel_rfl) (by kernel_rfl) (fun _ _ _ h => nomatch h.1) (Or.inl ⟨by rfl, fun w' hw' => by go_simp⟩) hHeld ?_
                      try simp only [Act.put, List.getElem_toArray, List.getElem_cons_succ, List.getElem_cons_zero, List.setIfInBounds_toArray, List.set_cons_zero, List.set_cons_succ]
                      refine' wpAnyH_take (i := 7) (v := .agg #[.int .i64 da, u3, u4]) rfl (by kernel_rfl) (by kernel_rfl) (by kernel_rfl) (fun _ _ _ h => nomatch h.1) (Or.inl ⟨by rfl, fun w' hw' => by go_simp⟩) hHeld ?_
                      try simp only [Act.put, List.getElem_toArray, List.getElem_cons_succ, List.getElem_cons_zero, List.setIfInBounds_toArray, List.set_cons_zero, List.set_cons_succ]
                      refine' wpAnyH_take (i := 8) (v := .bool true) rfl (by kernel_rfl) (by kernel_rfl) (by kernel_rfl) (fun _ _ _ h => nomatch h.1) (Or.inl ⟨by rfl, fun w' hw' => by go_simp⟩) hHeld ?_
                      try simp only [Act.put, List.getElem_toArray, List.getElem_cons_succ, List.getElem_cons_zero, List.setIfInBounds_toArray, List.set_cons_zero, List.set_cons_succ]
                      refine wpAnyH_ready (rs := [11]) (by kernel_rfl) (by simp) ?_
                      refine AllReadyH.cons rfl (fun K hK => ?_) AllReadyH.nil
                      refine wp_store_whole 62 _ _ rfl g9 _ #[.int .i64 ea, u1, u2] 62 z9 rfl rfl (by kernel_rfl) rfl (all3 v1 v2) ?_
                      intro X1xxxxxx hb hg
                      replace o1 := o1.kept hg (.inr (Lib.ownBlock_ne o1 z9 (by decide)))
                      replace o2 := o2.kept hg (.inr (Lib.ownBlock_ne o2 z9 (by decide)))
                      replace o3 := o3.kept hg (.inr (Lib.ownBlock_ne o3 z9 (by decide)))
                      replace o4 := o4.kept hg (.inr (Lib.ownBlock_ne o4 z9 (by decide)))
                      replace z10 := blk_gb z10 hg (by omega)
                      refine hK.out _ _ ⟨hHeld.1.gb hg (by omega), blk_gb hHeld.2.1 hg (blk_ne hHeld.2.1 z9 (by decide)), blk_gb hHeld.2.2 hg (blk_ne hHeld.2.2 z9 (by decide))⟩ (fun hHeld => ?_)
                      clear hK K hg
                      replace z9 := hb
                      clear hb
                      try simp only [Act.put, List.getElem_toArray, List.getElem_cons_succ, List.getElem_cons_zero, List.setIfInBounds_toArray, List.set_cons_zero, List.set_cons_succ]
                      refine wpAnyH_ready (rs := [12]) (by kernel_rfl) (by simp) ?_
                      refine AllReadyH.cons rfl (fun K hK => ?_) AllReadyH.nil
                      refine wp_store_whole 62 _ _ rfl g10 _ #[.int .i64 da, u3, u4] 62 z10 rfl rfl (by kernel_rfl) rfl (all3 v3 v4) ?_
                      intro X1xxxxxxx hb hg
                      replace o1 := o1.kept hg (.inr (Lib.ownBlock_ne o1 z10 (by decide)))
                      replace o2 := o2.kept hg (.inr (Lib.ownBlock_ne o2 z10 (by decide)))
                      replace o3 := o3.kept hg (.inr (Lib.ownBlock_ne o3 z10 (by decide)))
                      replace o4 := o4.kept hg (.inr (Lib.ownBlock_ne o4 z10 (by decide)))
                      replace z9 := blk_gb z9 hg (by omega)
                      refine hK.out _ _ ⟨hHeld.1.gb hg (by omega), blk_gb hHeld.2.1 hg (blk_ne hHeld.2.1 z10 (by decide)), blk_gb hHeld.2.2 hg (blk_ne hHeld.2.2 z10 (by decide))⟩ (fun hHeld => ?_)
                      clear hK K hg
                      replace z10 := hb
                      clear hb
                      try simp only [Act.put, List.getElem_toArray, List.getElem_cons_succ, List.getElem_cons_zero, List.setIfInBounds_toArray, List.set_cons_zero, List.set_cons_succ]
                      refine' wpAnyH_take (i := 13) (v := .bool true) rfl (by kernel_rfl) (by kernel_rfl) (by kernel_rfl) (fun _ _ _ h => nomatch h.1) (Or.inl ⟨by rfl, fun w' hw' => by go_simp⟩) hHeld ?_
                      try simp only [Act.put, List.getElem_toArray, List.getElem_cons_succ, List.getElem_cons_zero, List.setIfInBounds_toArray, List.set_cons_zero, List.set_cons_succ]
                      refine wpAnyH_done (by kernel_rfl) ?_ _
                      exact fin5 _ _ _ _ _ _ _ _ _ _ _ _ _ _ _ _ hHeld z9 z10 o1 o2 o3 o4
              · as_aux_lemma =>
                  go_simp
                  have hb : Below X1xx.heap.size X1xx (X1xx.alloc (.cells #[.int .i64 0, .slice none 0 0, .slice none 0 0] 62)) := (Below.refl _ _).alloc (Nat.le_refl _) _
                  have z10 := Blk.new X1xx 62 #[.int .i64 0, .slice none 0 0, .slice none 0 0]
                  have h4z10 : w.heap.size + 4 ≤ X1xx.heap.size := by have := hHeld.1.r5.lt; omega
                  have ne9 : X1xx.heap.size ≠ g9 := by have := z9.lt; omega
                  replace o1 := own_below o1 hb
                  replace o2 := own_below o2 hb
                  replace o3 := own_below o3 hb
                  replace o4 := own_below o4 hb
                  replace p1 := own_below p1 hb
                  replace p2 := own_below p2 hb
                  replace z9 := z9.below hb
                  refine hK.out _ _ ⟨hHeld.1.below hb, hHeld.2.1.below hb, hHeld.2.2.below hb⟩ (fun hHeld => ?_)
                  clear hK K hb
                  generalize X1xx.alloc (.cells #[.int .i64 0, .slice none 0 0, .slice none 0 0] 62) = X1xxx at *
                  generalize X1xx.heap.size = g10 at *
                  try simp only [Act.put, List.getElem_toArray, List.getElem_cons_succ, List.getElem_cons_zero, List.setIfInBounds_toArray, List.set_cons_zero, List.set_cons_succ]
                  refine wpAnyH_ready (rs := [3]) (by kernel_rfl) (by simp) ?_
                  refine AllReadyH.cons rfl (fun K hK => ?_) AllReadyH.nil
                  go_simp
                  (with_reducible refine (cH2 _ hHeld.1.k.x).mono ?_)
                  rintro e9 X1xxxx ⟨A8, c8, B8, d8, rfl, p3, p4, hb⟩
                  replace o1 := own_below o1 hb
                  replace o2 := own_below o2 hb
                  replace o3 := own_below o3 hb
                  replace o4 := own_below o4 hb
                  replace p1 := own_below p1 hb
                  replace p2 := own_below p2 hb
                  replace z9 := z9.below hb
                  replace z10 := z10.below hb
                  refine hK.out _ _ ⟨hHeld.1.below hb, hHeld.2.1.below hb, hHeld.2.2.below hb⟩ (fun hHeld => ?_)
                  clear hK K hb
                  try simp only [Act.put, List.getElem_toArray, List.getElem_cons_succ, List.getElem_cons_zero, List.setIfInBounds_toArray, List.set_cons_zero, List.set_cons_succ]
                  refine wpAnyH_ready (rs := [4]) (by kernel_rfl) (by simp) ?_
                  refine AllReadyH.cons rfl (fun K hK => ?_) AllReadyH.nil
                  go_simp
                  (with_reducible refine (cS _ _ _ _ _ _ _ _ _ _ _ hHeld.1.k.x p1 p2 p3 p4).mono ?_)
                  rintro e9 X1xxxxx ⟨u1, u2, u3, u4, rfl, v1, v2, v3, v4, hb⟩
                  replace o1 := own_below o1 hb
                  replace o2 := own_below o2 hb
                  replace o3 := own_below o3 hb
                  replace o4 := own_below o4 hb
                  replace z9 := z9.below hb
                  replace z10 := z10.below hb
                  clear p1 p2 p3 p4
                  refine hK.out _ _ ⟨hHeld.1.below hb, hHeld.2.1.below hb, hHeld.2.2.below hb⟩ (fun hHeld => ?_)
                  clear hK K hb
                  try simp only [Act.put, List.getElem_toArray, List.getElem_cons_succ, List.getElem_cons_zero, List.setIfInBounds_toArray, List.set_cons_zero, List.set_cons_succ]
                  refine' wpAnyH_take (i := 5) (v := .tuple #[.agg #[.int .i64 ea, u1, u2], .agg #[.int .i64 da, u3, u4], .bool true]) rfl (by kernel_rfl) (by kernel_rfl) (by kernel_rfl) (fun _ _ _ h => nomatch h.1) (Or.inl ⟨by rfl, fun w' hw' => by go_simp⟩) hHeld ?_
                  try simp only [Act.put, List.getElem_toArray, List.getElem_cons_succ, List.getElem_cons_zero, List.setIfInBounds_toArray, List.set_cons_zero, List.set_cons_succ]
                  refine' wpAnyH_take (i := 6) (v := .agg #[.int .i64 ea, u1, u2]) rfl (by kernel_rfl) (by kernel_rfl) (by kernel_rfl) (fun _ _ _ h => nomatch h.1) (Or.inl ⟨by rfl, fun w' hw' => by go_simp⟩) hHeld ?_
                  try simp only [Act.put, List.getElem_toArray, List.getElem_cons_succ, List.getElem_cons_zero, List.setIfInBounds_toArray, List.set_cons_zero, List.set_cons_succ]
                  refine' wpAnyH_take (i := 7) (v := .agg #[.int .i64 da, u3, u4]) rfl (by kernel_rfl) (by kernel_rfl) (by kernel_rfl) (fun _ _ _ h => nomatch h.1) (Or.inl ⟨by rfl, fun w' hw' => by go_simp⟩) hHeld ?_
                  try simp only [Act.put, List.getElem_toArray, List.getElem_cons_succ, List.getElem_cons_zero, List.setIfInBounds_toArray, List.set_cons_zero, List.set_cons_succ]
                  refine' wpAnyH_take (i := 8) (v := .bool true) rfl (by kernel_rfl) (by kernel_rfl) (by kernel_rfl) (fun _ _ _ h => nomatch h.1) (Or.inl ⟨by rfl, fun w' hw' => by go_simp⟩) hHeld ?_
                  try simp only [Act.put, List.getElem_toArray, List.getElem_cons_succ, List.getElem_cons_zero, List.setIfInBounds_toArray, List.set_cons_zero, List.set_cons_succ]
                  refine wpAnyH_ready (rs := [11]) (by kernel_rfl) (by simp) ?_
                  refine AllReadyH.cons rfl (fun K hK => ?_) AllReadyH.nil
                  refine wp_store_whole 62 _ _ rfl g9 _ #[.int .i64 ea, u1, u2] 62 z9 rfl rfl (by kernel_rfl) rfl (all3 v1 v2) ?_
                  intro X1xxxxxx hb hg
                  replace o1 := o1.kept hg (.inr (Lib.ownBlock_ne o1 z9 (by decide)))
                  replace o2 := o2.kept hg (.inr (Lib.ownBlock_ne o2 z9 (by decide)))
                  replace o3 := o3.kept hg (.inr (Lib.ownBlock_ne o3 z9 (by decide)))
                  replace o4 := o4.kept hg (.inr (Lib.ownBlock_ne o4 z9 (by decide)))
                  replace z10 := blk_gb z10 hg (by omega)
                  refine hK.out _ _ ⟨hHeld.1.gb hg (by omega), blk_gb hHeld.2.1 hg (blk_ne hHeld.2.1 z9 (by decide)), blk_gb hHeld.2.2 hg (blk_ne hHeld.2.2 z9 (by decide))⟩ (fun hHeld => ?_)
                  clear hK K hg
                  replace z9 := hb
                  clear hb
                  try simp only [Act.put, List.getElem_toArray, List.getElem_cons_succ, List.getElem_cons_zero, List.setIfInBounds_toArray, List.set_cons_zero, List.set_cons_succ]
                  refine wpAnyH_ready (rs := [12]) (by kernel_rfl) (by simp) ?_
                  refine AllReadyH.cons rfl (fun K hK => ?_) AllReadyH.nil
                  refine wp_store_whole 62 _ _ rfl g10 _ #[.int .i64 da, u3, u4] 62 z10 rfl rfl (by kernel_rfl) rfl (all3 v3 v4) ?_
                  intro X1xxxxxxx hb hg
                  replace o1 := o1.kept hg (.inr (Lib.ownBlock_ne o1 z10 (by decide)))
                  replace o2 := o2.kept hg (.inr (Lib.ownBlock_ne o2 z10 (by decide)))
                  replace o3 := o3.kept hg (.inr (Lib.ownBlock_ne o3 z10 (by decide)))
                  replace o4 := o4.kept hg (.inr (Lib.ownBlock_ne o4 z10 (by decide)))
                  replace z9 := blk_gb z9 hg (by omega)
                  refine hK.out _ _ ⟨hHeld.1.gb hg (by omega), blk_gb hHeld.2.1 hg (blk_ne hHeld.2.1 z10 (by decide)), blk_gb hHeld.2.2 hg (blk_ne hHeld.2.2 z10 (by decide))⟩ (fun hHeld => ?_)
                  clear hK K hg
                  replace z10 := hb
                  clear hb
                  try simp only [Act.put, List.getElem_toArray, List.getElem_cons_succ, List.getElem_cons_zero, List.setIfInBounds_toArray, List.set_cons_zero, List.set_cons_succ]
                  refine' wpAnyH_take (i := 13) (v := .bool true) rfl (by kernel_rfl) (by kernel_rfl) (by kernel_rfl) (fun _ _ _ h => nomatch h.1) (Or.inl ⟨by rfl, fun w' hw' => by go_simp⟩) hHeld ?_
                  try simp only [Act.put, List.getElem_toArray, List.getElem_cons_succ, List.getElem_cons_zero, List.setIfInBounds_toArray, List.set_cons_zero, List.set_cons_succ]
                  refine wpAnyH_done (by kernel_rfl) ?_ _
                  exact fin5 _ _ _ _ _ _ _ _ _ _ _ _ _ _ _ _ hHeld z9 z10 o1 o2 o3 o4
          · as_aux_lemma =>
              go_simp
              have hb : Below X1x.heap.size X1x (X1x.alloc (.cells #[.int .i64 0, .slice none 0 0, .slice none 0 0] 62)) := (Below.refl _ _).alloc (Nat.le_refl _) _
              have z10 := Blk.new X1x 62 #[.int .i64 0, .slice none 0 0, .slice none 0 0]
              have h4z10 : w.heap.size + 4 ≤ X1x.heap.size := by have := hHeld.1.r5.lt; omega
              have ne9 : X1x.heap.size ≠ g9 := by have := z9.lt; omega
              replace o1 := own_below o1 hb
              replace o2 := own_below o2 hb
              replace o3 := own_below o3 hb
              replace o4 := own_below o4 hb
              replace z9 := z9.below hb
              refine hK.out _ _ ⟨hHeld.1.below hb, hHeld.2.1.below hb, hHeld.2.2.below hb⟩ (fun hHeld => ?_)
              clear hK K hb
              generalize X1x.alloc (.cells #[.int .i64 0, .slice none 0 0, .slice none 0 0] 62) = X1xx at *
              generalize X1x.heap.size = g10 at *
              try simp only [Act.put, List.getElem_toArray, List.getElem_cons_succ, List.getElem_cons_zero, List.setIfInBounds_toArray, List.set_cons_zero, List.set_cons_succ]
              refine wpAnyH_ready (rs := [1]) (by kernel_rfl) (by simp) ?_
              refine AllReadyH.cons rfl (fun K hK => ?_) AllReadyH.nil
              go_simp
              (with_reducible refine (cH1 _ hHeld.1.k.x).mono ?_)
              rintro e9 X1xxx ⟨A7, c7, B7, d7, rfl, p1, p2, hb⟩
              replace o1 := own_below o1 hb
              replace o2 := own_below o2 hb
              replace o3 := own_below o3 hb
              replace o4 := own_below o4 hb
              replace z9 := z9.below hb
              replace z10 := z10.below hb
              refine hK.out _ _ ⟨hHeld.1.below hb, hHeld.2.1.below hb, hHeld.2.2.below hb⟩ (fun hHeld => ?_)
              clear hK K hb
              try simp only [Act.put, List.getElem_toArray, List.getElem_cons_succ, List.getElem_cons_zero, List.setIfInBounds_toArray, List.set_cons_zero, List.set_cons_succ]
              refine wpAnyH_ready (rs := [3]) (by kernel_rfl) (by simp) ?_
              refine AllReadyH.cons rfl (fun K hK => ?_) AllReadyH.nil
              go_simp
              (with_reducible refine (cH2 _ hHeld.1.k.x).mono ?_)
              rintro e9 X1xxxx ⟨A8, c8, B8, d8, rfl, p3, p4, hb⟩
              replace o1 := own_below o1 hb
              replace o2 := own_below o2 hb
              replace o3 := own_below o3 hb
              replace o4 := own_below o4 hb
              replace p1 := own_below p1 hb
              replace p2 := own_below p2 hb
              replace z9 := z9.below hb
              replace z10 := z10.below hb
              refine hK.out _ _ ⟨hHeld.1.below hb, hHeld.2.1.below hb, hHeld.2.2.below hb⟩ (fun hHeld => ?_)
              clear hK K hb
              try simp only [Act.put, List.getElem_toArray, List.getElem_cons_succ, List.getElem_cons_zero, List.setIfInBounds_toArray, List.set_cons_zero, List.set_cons_succ]
              refine wpAnyH_ready (rs := [4]) (by kernel_rfl) (by simp) ?_
              refine AllReadyH.cons rfl (fun K hK => ?_) AllReadyH.nil
              go_simp
              (with_reducible refine (cS _ _ _ _ _ _ _ _ _ _ _ hHeld.1.k.x p1 p2 p3 p4).mono ?_)
              rintro e9 X1xxxxx ⟨u1, u2, u3, u4, rfl, v1, v2, v3, v4, hb⟩
              replace o1 := own_below o1 hb
              replace o2 := own_below o2 hb
              replace o3 := own_below o3 hb
              replace o4 := own_below o4 hb
              replace z9 := z9.below hb
              replace z10 := z10.below hb
              clear p1 p2 p3 p4
              refine hK.out _ _ ⟨hHeld.1.below hb, hHeld.2.1.below hb, hHeld.2.2.below hb⟩ (fun hHeld => ?_)
              clear hK K hb
              try simp only [Act.put, List.getElem_toArray, List.getElem_cons_succ, List.getElem_cons_zero, List.setIfInBounds_toArray, List.set_cons_zero, List.set_cons_succ]
              refine' wpAnyH_take (i := 5) (v := .tuple #[.agg #[.int .i64 ea, u1, u2], .agg #[.int .i64 da, u3, u4], .bool true]) rfl (by kernel_rfl) (by kernel_rfl) (by kernel_rfl) (fun _ _ _ h => nomatch h.1) (Or.inl ⟨by rfl, fun w' hw' => by go_simp⟩) hHeld ?_
              try simp only [Act.put, List.getElem_toArray, List.getElem_cons_succ, List.getElem_cons_zero, List.setIfInBounds_toArray, List.set_cons_zero, List.set_cons_succ]
              refine' wpAnyH_take (i := 6) (v := .agg #[.int .i64 ea, u1, u2]) rfl (by kernel_rfl) (by kernel_rfl) (by kernel_rfl) (fun _ _ _ h => nomatch h.1) (Or.inl ⟨by rfl, fun w' hw' => by go_simp⟩) hHeld ?_
              try simp only [Act.put, List.getElem_toArray, List.getElem_cons_succ, List.getElem_cons_zero, List.setIfInBounds_toArray, List.set_cons_zero, List.set_cons_succ]
              refine' wpAnyH_take (i := 7) (v := .agg #[.int .i64 da, u3, u4]) rfl (by kernel_rfl) (by kernel_rfl) (by kernel_rfl) (fun _ _ _ h => nomatch h.1) (Or.inl ⟨by rfl, fun w' hw' => by go_simp⟩) hHeld ?_
              try simp only [Act.put, List.getElem_toArray, List.getElem_cons_succ, List.getElem_cons_zero, List.setIfInBounds_toArray, List.set_cons_zero, List.set_cons_succ]
              refine' wpAnyH_take (i := 8) (v := .bool true) rfl (by kernel_rfl) (by kernel_rfl) (by kernel_rfl) (fun _ _ _ h => nomatch h.1) (Or.inl ⟨by rfl, fun w' hw' => by go_simp⟩) hHeld ?_
              try simp only [Act.put, List.getElem_toArray, List.getElem_cons_succ, List.getElem_cons_zero, List.setIfInBounds_toArray, List.set_cons_zero, List.set_cons_succ]
              refine wpAnyH_ready (rs := [11]) (by kernel_rfl) (by simp) ?_
              refine AllReadyH.cons rfl (fun K hK => ?_) AllReadyH.nil
              refine wp_store_whole 62 _ _ rfl g9 _ #[.int .i64 ea, u1, u2] 62 z9 rfl rfl (by kernel_rfl) rfl (all3 v1 v2) ?_
              intro X1xxxxxx hb hg
              replace o1 := o1.kept hg (.inr (Lib.ownBlock_ne o1 z9 (by decide)))
              replace o2 := o2.kept hg (.inr (Lib.ownBlock_ne o2 z9 (by decide)))
              replace o3 := o3.kept hg (.inr (Lib.ownBlock_ne o3 z9 (by decide)))
              replace o4 := o4.kept hg (.inr (Lib.ownBlock_ne o4 z9 (by decide)))
              replace z10 := blk_gb z10 hg (by omega)
              refine hK.out _ _ ⟨hHeld.1.gb hg (by omega), blk_gb hHeld.2.1 hg (blk_ne hHeld.2.1 z9 (by decide)), blk_gb hHeld.2.2 hg (blk_ne hHeld.2.2 z9 (by decide))⟩ (fun hHeld => ?_)
              clear hK K hg
              replace z9 := hb
              clear hb
              try simp only [Act.put, List.getElem_toArray, List.getElem_cons_succ, List.getElem_cons_zero, List.setIfInBounds_toArray, List.set_cons_zero, List.set_cons_succ]
              refine wpAnyH_ready (rs := [12]) (by kernel_rfl) (by simp) ?_
              refine AllReadyH.cons rfl (fun K hK => ?_) AllReadyH.nil
              refine wp_store_whole 62 _ _ rfl g10 _ #[.int .i64 da, u3, u4] 62 z10 rfl rfl (by kernel_rfl) rfl (all3 v3 v4) ?_
              intro X1xxxxxxx hb hg
              replace o1 := o1.kept hg (.inr (Lib.ownBlock_ne o1 z10 (by decide)))
              replace o2 := o2.kept hg (.inr (Lib.ownBlock_ne o2 z10 (by decide)))
              replace o3 := o3.kept hg (.inr (Lib.ownBlock_ne o3 z10 (by decide)))
              replace o4 := o4.kept hg (.inr (Lib.ownBlock_ne o4 z10 (by decide)))
              replace z9 := blk_gb z9 hg (by omega)
              refine hK.out _ _ ⟨hHeld.1.gb hg (by omega), blk_gb hHeld.2.1 hg (blk_ne hHeld.2.1 z10 (by decide)), blk_gb hHeld.2.2 hg (blk_ne hHeld.2.2 z10 (by decide))⟩ (fun hHeld => ?_)
              clear hK K hg
              replace z10 := hb
              clear hb
              try simp only [Act.put, List.getElem_toArray, List.getElem_cons_succ, List.getElem_cons_zero, List.setIfInBounds_toArray, List.set_cons_zero, List.set_cons_succ]
              refine' wpAnyH_take (i := 13) (v := .bool true) rfl (by kernel_rfl) (by kernel_rfl) (by kernel_rfl) (fun _ _ _ h => nomatch h.1) (Or.inl ⟨by rfl, fun w' hw' => by go_simp⟩) hHeld ?_
              try simp only [Act.put, List.getElem_toArray, List.getElem_cons_succ, List.getElem_cons_zero, List.setIfInBounds_toArray, List.set_cons_zero, List.set_cons_succ]
              refine wpAnyH_done (by kernel_rfl) ?_ _
              exact fin5 _ _ _ _ _ _ _ _ _ _ _ _ _ _ _ _ hHeld z9 z10 o1 o2 o3 o4
      · as_aux_lemma =>
          go_simp
          have hb : Below X1.heap.size X1 (X1.alloc (.cells #[.int .i64 0, .slice none 0 0, .slice none 0 0] 62)) := (Below.refl _ _).alloc (Nat.le_refl _) _
          have z10 := Blk.new X1 62 #[.int .i64 0, .slice none 0 0, .slice none 0 0]
          have h4z10 : w.heap.size + 4 ≤ X1.heap.size := by have := hHeld.1.r5.lt; omega
          replace o1 := own_below o1 hb
          replace o2 := own_below o2 hb
          replace o3 := own_below o3 hb
          replace o4 := own_below o4 hb
          refine hK.out _ _ ⟨hHeld.1.below hb, hHeld.2.1.below hb, hHeld.2.2.below hb⟩ (fun hHeld => ?_)
          clear hK K hb
          generalize X1.alloc (.cells #[.int .i64 0, .slice none 0 0, .slice none 0 0] 62) = X1x at *
          generalize X1.heap.size = g10 at *
          try simp only [Act.put, List.getElem_toArray, List.getElem_cons_succ, List.getElem_cons_zero, List.setIfInBounds_toArray, List.set_cons_zero, List.set_cons_succ]
          refine wpAnyH_ready (rs := [1, 9]) (by kernel_rfl) (by simp) ?_
          refine AllReadyH.cons rfl (fun K hK => ?_) (AllReadyH.cons rfl (fun K hK => ?_) AllReadyH.nil)
          · as_aux_lemma =>
              go_simp
              (with_reducible refine (cH1 _ hHeld.1.k.x).mono ?_)
              rintro e9 X1xx ⟨A7, c7, B7, d7, rfl, p1, p2, hb⟩
              replace o1 := own_below o1 hb
              replace o2 := own_below o2 hb
              replace o3 := own_below o3 hb
              replace o4 := own_below o4 hb
              replace z10 := z10.below hb
              refine hK.out _ _ ⟨hHeld.1.below hb, hHeld.2.1.below hb, hHeld.2.2.below hb⟩ (fun hHeld => ?_)
              clear hK K hb
              try simp only [Act.put, List.getElem_toArray, List.getElem_cons_succ, List.getElem_cons_zero, List.setIfInBounds_toArray, List.set_cons_zero, List.set_cons_succ]
              refine wpAnyH_ready (rs := [3, 9]) (by kernel_rfl) (by simp) ?_
              refine AllReadyH.cons rfl (fun K hK => ?_) (AllReadyH.cons rfl (fun K hK => ?_) AllReadyH.nil)
              · as_aux_lemma =>
                  go_simp
                  (with_reducible refine (cH2 _ hHeld.1.k.x).mono ?_)
                  rintro e9 X1xxx ⟨A8, c8, B8, d8, rfl, p3, p4, hb⟩
                  replace o1 := own_below o1 hb
                  replace o2 := own_below o2 hb
                  replace o3 := own_below o3 hb
                  replace o4 := own_below o4 hb
                  replace p1 := own_below p1 hb
                  replace p2 := own_below p2 hb
                  replace z10 := z10.below hb
                  refine hK.out _ _ ⟨hHeld.1.below hb, hHeld.2.1.below hb, hHeld.2.2.below hb⟩ (fun hHeld => ?_)
                  clear hK K hb
                  try simp only [Act.put, List.getElem_toArray, List.getElem_cons_succ, List.getElem_cons_zero, List.setIfInBounds_toArray, List.set_cons_zero, List.set_cons_succ]
                  refine wpAnyH_ready (rs := [4, 9]) (by kernel_rfl) (by simp) ?_
                  refine AllReadyH.cons rfl (fun K hK => ?_) (AllReadyH.cons rfl (fun K hK => ?_) AllReadyH.nil)
                  · as_aux_lemma =>
                      go_simp
                      (with_reducible refine (cS _ _ _ _ _ _ _ _ _ _ _ hHeld.1.k.x p1 p2 p3 p4).mono ?_)
                      rintro e9 X1xxxx ⟨u1, u2, u3, u4, rfl, v1, v2, v3, v4, hb⟩
                      replace o1 := own_below o1 hb
                      replace o2 := own_below o2 hb
                      replace o3 := own_below o3 hb
                      replace o4 := own_below o4 hb
                      replace z10 := z10.below hb
                      clear p1 p2 p3 p4
                      refine hK.out _ _ ⟨hHeld.1.below hb, hHeld.2.1.below hb, hHeld.2.2.below hb⟩ (fun hHeld => ?_)
                      clear hK K hb
                      try simp only [Act.put, List.getElem_toArray, List.getElem_cons_succ, List.getElem_cons_zero, List.setIfInBounds_toArray, List.set_cons_zero, List.set_cons_succ]
                      refine' wpAnyH_take (i := 5) (v := .tuple #[.agg #[.int .i64 ea, u1, u2], .agg #[.int .i64 da, u3, u4], .bool true]) rfl (by kernel_rfl) (by kernel_rfl) (by kernel_rfl) (fun _ _ _ h => nomatch h.1) (Or.inl ⟨by rfl, fun w' hw' => by go_simp⟩) hHeld ?_
                      try simp only [Act.put, List.getElem_toArray, List.getElem_cons_succ, List.getElem_cons_zero, List.setIfInBounds_toArray, List.set_cons_zero, List.set_cons_succ]
                      refine' wpAnyH_take (i := 6) (v := .agg #[.int .i64 ea, u1, u2]) rfl (by kernel_rfl) (by kernel_rfl) (by kernel_rfl) (fun _ _ _ h => nomatch h.1) (Or.inl ⟨by rfl, fun w' hw' => by go_simp⟩) hHeld ?_
                      try simp only [Act.put, List.getElem_toArray, List.getElem_cons_succ, List.getElem_cons_zero, List.setIfInBounds_toArray, List.set_cons_zero, List.set_cons_succ]
                      refine' wpAnyH_take (i := 7) (v := .agg #[.int .i64 da, u3, u4]) rfl (by kernel_rfl) (by kernel_rfl) (by kernel_rfl) (fun _ _ _ h => nomatch h.1) (Or.inl ⟨by rfl, fun w' hw' => by go_simp⟩) hHeld ?_
                      try simp only [Act.put, List.getElem_toArray, List.getElem_cons_succ, List.getElem_cons_zero, List.setIfInBounds_toArray, List.set_cons_zero, List.set_cons_succ]
                      refine' wpAnyH_take (i := 8) (v := .bool true) rfl (by kernel_rfl) (by kernel_rfl) (by kernel_rfl) (fun _ _ _ h => nomatch h.1) (Or.inl ⟨by rfl, fun w' hw' => by go_simp⟩) hHeld ?_
                      try simp only [Act.put, List.getElem_toArray, List.getElem_cons_succ, List.getElem_cons_zero, List.setIfInBounds_toArray, List.set_cons_zero, List.set_cons_succ]
                      refine wpAnyH_ready (rs := [9]) (by kernel_rfl) (by simp) ?_
                      refine AllReadyH.cons rfl (fun K hK => ?_) AllReadyH.nil
                      go_simp
                      have hb : Below X1xxxx.heap.size X1xxxx (X1xxxx.alloc (.cells #[.int .i64 0, .slice none 0 0, .slice none 0 0] 62)) := (Below.refl _ _).alloc (Nat.le_refl _) _
                      have z9 := Blk.new X1xxxx 62 #[.int .i64 0, .slice none 0 0, .slice none 0 0]
                      have h4z9 : w.heap.size + 4 ≤ X1xxxx.heap.size := by have := hHeld.1.r5.lt; omega
                      have ne9 : g10 ≠ X1xxxx.heap.size := by have := z10.lt; omega
                      replace o1 := own_below o1 hb
                      replace o2 := own_below o2 hb
                      replace o3 := own_below o3 hb
                      replace o4 := own_below o4 hb
                      replace z10 := z10.below hb
                      refine hK.out _ _ ⟨hHeld.1.below hb, hHeld.2.1.below hb, hHeld.2.2.below hb⟩ (fun hHeld => ?_)
                      clear hK K hb
                      generalize X1xxxx.alloc (.cells #[.int .i64 0, .slice none 0 0, .slice none 0 0] 62) = X1xxxxx at *
                      generalize X1xxxx.heap.size = g9 at *
                      try simp only [Act.put, List.getElem_toArray, List.getElem_cons_succ, List.getElem_cons_zero, List.setIfInBounds_toArray, List.set_cons_zero, List.set_cons_succ]
                      refine wpAnyH_ready (rs := [11]) (by kernel_rfl) (by simp) ?_
                      refine AllReadyH.cons rfl (fun K hK => ?_) AllReadyH.nil
                      refine wp_store_whole 62 _ _ rfl g9 _ #[.int .i64 ea, u1, u2] 62 z9 rfl rfl (by kernel_rfl) rfl (all3 v1 v2) ?_
                      intro X1xxxxxx hb hg
                      replace o1 := o1.kept hg (.inr (Lib.ownBlock_ne o1 z9 (by decide)))
                      replace o2 := o2.kept hg (.inr (Lib.ownBlock_ne o2 z9 (by decide)))
                      replace o3 := o3.kept hg (.inr (Lib.ownBlock_ne o3 z9 (by decide)))
                      replace o4 := o4.kept hg (.inr (Lib.ownBlock_ne o4 z9 (by decide)))
                      replace z10 := blk_gb z10 hg (by omega)
                      refine hK.out _ _ ⟨hHeld.1.gb hg (by omega), blk_gb hHeld.2.1 hg (blk_ne hHeld.2.1 z9 (by decide)), blk_gb hHeld.2.2 hg (blk_ne hHeld.2.2 z9 (by decide))⟩ (fun hHeld => ?_)
                      clear hK K hg
                      replace z9 := hb
                      clear hb
                      try simp only [Act.put, List.getElem_toArray, List.getElem_cons_succ, List.getElem_cons_zero, List.setIfInBounds_toArray, List.set_cons_zero, List.set_cons_succ]
                      refine wpAnyH_ready (rs := [12]) (by kernel_rfl) (by simp) ?_
                      refine AllReadyH.cons rfl (fun K hK => ?_) AllReadyH.nil
                      refine wp_store_whole 62 _ _ rfl g10 _ #[.int .i64 da, u3, u4] 62 z10 rfl rfl (by kernel_rfl) rfl (all3 v3 v4) ?_
                      intro X1xxxxxxx hb hg
                      replace o1 := o1.kept hg (.inr (Lib.ownBlock_ne o1 z10 (by decide)))
                      replace o2 := o2.kept hg (.inr (Lib.ownBlock_ne o2 z10 (by decide)))
                      replace o3 := o3.kept hg (.inr (Lib.ownBlock_ne o3 z10 (by decide)))
                      replace o4 := o4.kept hg (.inr (Lib.ownBlock_ne o4 z10 (by decide)))
                      replace z9 := blk_gb z9 hg (by omega)
                      refine hK.out _ _ ⟨hHeld.1.gb hg (by omega), blk_gb hHeld.2.1 hg (blk_ne hHeld.2.1 z10 (by decide)), blk_gb hHeld.2.2 hg (blk_ne hHeld.2.2 z10 (by decide))⟩ (fun hHeld => ?_)
                      clear hK K hg
                      replace z10 := hb
                      clear hb
                      try simp only [Act.put, List.getElem_toArray, List.getElem_cons_succ, List.getElem_cons_zero, List.setIfInBounds_toArray, List.set_cons_zero, List.set_cons_succ]
                      refine' wpAnyH_take (i := 13) (v := .bool true) rfl (by kernel_rfl) (by kernel_rfl) (by kernel_rfl) (fun _ _ _ h => nomatch h.1) (Or.inl ⟨by rfl, fun w' hw' => by go_simp⟩) hHeld ?_
                      try simp only [Act.put, List.getElem_toArray, List.getElem_cons_succ, List.getElem_cons_zero, List.setIfInBounds_toArray, List.set_cons_zero, List.set_cons_succ]
                      refine wpAnyH_done (by kernel_rfl) ?_ _
                      exact fin5 _ _ _ _ _ _ _ _ _ _ _ _ _ _ _ _ hHeld z9 z10 o1 o2 o3 o4
                  · as_aux_lemma =>
                      go_simp
                      have hb : Below X1xxx.heap.size X1xxx (X1xxx.alloc (.cells #[.int .i64 0, .slice none 0 0, .slice none 0 0] 62)) := (Below.refl _ _).alloc (Nat.le_refl _) _
                      have z9 := Blk.new X1xxx 62 #[.int .i64 0, .slice none 0 0, .slice none 0 0]
                      have h4z9 : w.heap.size + 4 ≤ X1xxx.heap.size := by have := hHeld.1.r5.lt; omega
                      have ne9 : g10 ≠ X1xxx.heap.size := by have := z10.lt; omega
                      replace o1 := own_below o1 hb
                      replace o2 := own_below o2 hb
                      replace o3 := own_below o3 hb
                      replace o4 := own_below o4 hb
                      replace p1 := own_below p1 hb
                      replace p2 := own_below p2 hb
                      replace p3 := own_below p3 hb
                      replace p4 := own_below p4 hb
                      replace z10 := z10.below hb
                      refine hK.out _ _ ⟨hHeld.1.below hb, hHeld.2.1.below hb, hHeld.2.2.below hb⟩ (fun hHeld => ?_)
                      clear hK K hb
                      generalize X1xxx.alloc (.cells #[.int .i64 0, .slice none 0 0, .slice none 0 0] 62) = X1xxxx at *
                      generalize X1xxx.heap.size = g9 at *
                      try simp only [Act.put, List.getElem_toArray, List.getElem_cons_succ, List.getElem_cons_zero, List.setIfInBounds_toArray, List.set_cons_zero, List.set_cons_succ]
                      refine wpAnyH_ready (rs := [4]) (by kernel_rfl) (by simp) ?_
                      refine AllReadyH.cons rfl (fun K hK => ?_) AllReadyH.nil
                      go_simp
                      (with_reducible refine (cS _ _ _ _ _ _ _ _ _ _ _ hHeld.1.k.x p1 p2 p3 p4).mono ?_)
                      rintro e9 X1xxxxx ⟨u1, u2, u3, u4, rfl, v1, v2, v3, v4, hb⟩
                      replace o1 := own_below o1 hb
                      replace o2 := own_below o2 hb
                      replace o3 := own_below o3 hb
                      replace o4 := own_below o4 hb
                      replace z10 := z10.below hb
                      replace z9 := z9.below hb
                      clear p1 p2 p3 p4
                      refine hK.out _ _ ⟨hHeld.1.below hb, hHeld.2.1.below hb, hHeld.2.2.below hb⟩ (fun hHeld => ?_)
                      clear hK K hb
                      try simp only [Act.put, List.getElem_toArray, List.getElem_cons_succ, List.getElem_cons_zero, List.setIfInBounds_toArray, List.set_cons_zero, List.set_cons_succ]
                      refine' wpAnyH_take (i := 5) (v := .tuple #[.agg #[.int .i64 ea, u1, u2], .agg #[.int .i64 da, u3, u4], .bool true]) rfl (by kernel_rfl) (by kernel_rfl) (by kernel_rfl) (fun _ _ _ h => nomatch h.1) (Or.inl ⟨by rfl, fun w' hw' => by go_simp⟩) hHeld ?_
                      try simp only [Act.put, List.getElem_toArray, List.getElem_cons_succ, List.getElem_cons_zero, List.setIfInBounds_toArray, List.set_cons_zero, List.set_cons_succ]
                      refine' wpAnyH_take (i := 6) (v := .agg #[.int .i64 ea, u1, u2]) rfl (by kernel_rfl) (by kernel_rfl) (by kernel_rfl) (fun _ _ _ h => nomatch h.1) (Or.inl ⟨by rfl, fun w' hw' => by go_simp⟩) hHeld ?_
                      try simp only [Act.put, List.getElem_toArray, List.getElem_cons_succ, List.getElem_cons_zero, List.setIfInBounds_toArray, List.set_cons_zero, List.set_cons_succ]
                      refine' wpAnyH_take (i := 7) (v := .agg #[.int .i64 da, u3, u4]) rfl (by kernel_rfl) (by kernel_rfl) (by kernel_rfl) (fun _ _ _ h => nomatch h.1) (Or.inl ⟨by rfl, fun w' hw' => by go_simp⟩) hHeld ?_
                      try simp only [Act.put, List.getElem_toArray, List.getElem_cons_succ, List.getElem_cons_zero, List.setIfInBounds_toArray, List.set_cons_zero, List.set_cons_succ]
                      refine' wpAnyH_take (i := 8) (v := .bool true) rfl (by kernel_rfl) (by kernel_rfl) (by kernel_rfl) (fun _ _ _ h => nomatch h.1) (Or.inl ⟨by rfl, fun w' hw' => by go_simp⟩) hHeld ?_
                      try simp only [Act.put, List.getElem_toArray, List.getElem_cons_succ, List.getElem_cons_zero, List.setIfInBounds_toArray, List.set_cons_zero, List.set_cons_succ]
                      refine wpAnyH_ready (rs := [11]) (by kernel_rfl) (by simp) ?_
                      refine AllReadyH.cons rfl (fun K hK => ?_) AllReadyH.nil
                      refine wp_store_whole 62 _ _ rfl g9 _ #[.int .i64 ea, u1, u2] 62 z9 rfl rfl (by kernel_rfl) rfl (all3 v1 v2) ?_
                      intro X1xxxxxx hb hg
                      replace o1 := o1.kept hg (.inr (Lib.ownBlock_ne o1 z9 (by decide)))
                      replace o2 := o2.kept hg (.inr (Lib.ownBlock_ne o2 z9 (by decide)))
                      replace o3 := o3.kept hg (.inr (Lib.ownBlock_ne o3 z9 (by decide)))
                      replace o4 := o4.kept hg (.inr (Lib.ownBlock_ne o4 z9 (by decide)))
                      replace z10 := blk_gb z10 hg (by omega)
                      refine hK.out _ _ ⟨hHeld.1.gb hg (by omega), blk_gb hHeld.2.1 hg (blk_ne hHeld.2.1 z9 (by decide)), blk_gb hHeld.2.2 hg (blk_ne hHeld.2.2 z9 (by decide))⟩ (fun hHeld => ?_)
                      clear hK K hg
                      replace z9 := hb
                      clear hb
                      try simp only [Act.put, List.getElem_toArray, List.getElem_cons_succ, List.getElem_cons_zero, List.setIfInBounds_toArray, List.set_cons_zero, List.set_cons_succ]
                      refine wpAnyH_ready (rs := [12]) (by kernel_rfl) (by simp) ?_
                      refine AllReadyH.cons rfl (fun K hK => ?_) AllReadyH.nil
                      refine wp_store_whole 62 _ _ rfl g10 _ #[.int .i64 da, u3, u4] 62 z10 rfl rfl (by kernel_rfl) rfl (all3 v3 v4) ?_
                      intro X1xxxxxxx hb hg
                      replace o1 := o1.kept hg (.inr (Lib.ownBlock_ne o1 z10 (by decide)))
                      replace o2 := o2.kept hg (.inr (Lib.ownBlock_ne o2 z10 (by decide)))
                      replace o3 := o3.kept hg (.inr (Lib.ownBlock_ne o3 z10 (by decide)))
                      replace o4 := o4.kept hg (.inr (Lib.ownBlock_ne o4 z10 (by decide)))
                      replace z9 := blk_gb z9 hg (by omega)
                      refine hK.out _ _ ⟨hHeld.1.gb hg (by omega), blk_gb hHeld.2.1 hg (blk_ne hHeld.2.1 z10 (by decide)), blk_gb hHeld.2.2 hg (blk_ne hHeld.2.2 z10 (by decide))⟩ (fun hHeld => ?_)
                      clear hK K hg
                      replace z10 := hb
                      clear hb
                      try simp only [Act.put, List.getElem_toArray, List.getElem_cons_succ, List.getElem_cons_zero, List.setIfInBounds_toArray, List.set_cons_zero, List.set_cons_succ]
                      refine' wpAnyH_take (i := 13) (v := .bool true) rfl (by kernel_rfl) (by kernel_rfl) (by kernel_rfl) (fun _ _ _ h => nomatch h.1) (Or.inl ⟨by rfl, fun w' hw' => by go_simp⟩) hHeld ?_
                      try simp only [Act.put, List.getElem_toArray, List.getElem_cons_succ, List.getElem_cons_zero, List.setIfInBounds_toArray, List.set_cons_zero, List.set_cons_succ]
                      refine wpAnyH_done (by kernel_rfl) ?_ _
                      exact fin5 _ _ _ _ _ _ _ _ _ _ _ _ _ _ _ _ hHeld z9 z10 o1 o2 o3 o4
              · as_aux_lemma =>
                  go_simp
                  have hb : Below X1xx.heap.size X1xx (X1xx.alloc (.cells #[.int .i64 0, .slice none 0 0, .slice none 0 0] 62)) := (Below.refl _ _).alloc (Nat.le_refl _) _
                  have z9 := Blk.new X1xx 62 #[.int .i64 0, .slice none 0 0, .slice none 0 0]
                  have h4z9 : w.heap.size + 4 ≤ X1xx.heap.size := by have := hHeld.1.r5.lt; omega
                  have ne9 : g10 ≠ X1xx.heap.size := by have := z10.lt; omega
                  replace o1 := own_below o1 hb
                  replace o2 := own_below o2 hb
                  replace o3 := own_below o3 hb
                  replace o4 := own_below o4 hb
                  replace p1 := own_below p1 hb
                  replace p2 := own_below p2 hb
                  replace z10 := z10.below hb
                  refine hK.out _ _ ⟨hHeld.1.below hb, hHeld.2.1.below hb, hHeld.2.2.below hb⟩ (fun hHeld => ?_)
                  clear hK K hb
                  generalize X1xx.alloc (.cells #[.int .i64 0, .slice none 0 0, .slice none 0 0] 62) = X1xxx at *
                  generalize X1xx.heap.size = g9 at *
                  try simp only [Act.put, List.getElem_toArray, List.getElem_cons_succ, List.getElem_cons_zero, List.setIfInBounds_toArray, List.set_cons_zero, List.set_cons_succ]
                  refine wpAnyH_ready (rs := [3]) (by kernel_rfl) (by simp) ?_
                  refine AllReadyH.cons rfl (fun K hK => ?_) AllReadyH.nil
                  go_simp
                  (with_reducible refine (cH2 _ hHeld.1.k.x).mono ?_)
                  rintro e9 X1xxxx ⟨A8, c8, B8, d8, rfl, p3, p4, hb⟩
                  replace o1 := own_below o1 hb
                  replace o2 := own_below o2 hb
                  replace o3 := own_below o3 hb
                  replace o4 := own_below o4 hb
                  replace p1 := own_below p1 hb
                  replace p2 := own_below p2 hb
                  replace z10 := z10.below hb
                  replace z9 := z9.below hb
                  refine hK.out _ _ ⟨hHeld.1.below hb, hHeld.2.1.below hb, hHeld.2.2.below hb⟩ (fun hHeld => ?_)
                  clear hK K hb
                  try simp only [Act.put, List.getElem_toArray, List.getElem_cons_succ, List.getElem_cons_zero, List.setIfInBounds_toArray, List.set_cons_zero, List.set_cons_succ]
                  refine wpAnyH_ready (rs := [4]) (by kernel_rfl) (by simp) ?_
                  refine AllReadyH.cons rfl (fun K hK => ?_) AllReadyH.nil
                  go_simp
                  (with_reducible refine (cS _ _ _ _ _ _ _ _ _ _ _ hHeld.1.k.x p1 p2 p3 p4).mono ?_)
                  rintro e9 X1xxxxx ⟨u1, u2, u3, u4, rfl, v1, v2, v3, v4, hb⟩
                  replace o1 := own_below o1 hb
                  replace o2 := own_below o2 hb
                  replace o3 := own_below o3 hb
                  replace o4 := own_below o4 hb
                  replace z10 := z10.below hb
                  replace z9 := z9.below hb
                  clear p1 p2 p3 p4
                  refine hK.out _ _ ⟨hHeld.1.below hb, hHeld.2.1.below hb, hHeld.2.2.below hb⟩ (fun hHeld => ?_)
                  clear hK K hb
                  try simp only [Act.put, List.getElem_toArray, List.getElem_cons_succ, List.getElem_cons_zero, List.setIfInBounds_toArray, List.set_cons_zero, List.set_cons_succ]
                  refine' wpAnyH_take (i := 5) (v := .tuple #[.agg #[.int .i64 ea, u1, u2], .agg #[.int .i64 da, u3, u4], .bool true]) rfl (by kernel_rfl) (by kernel_rfl) (by kernel_rfl) (fun _ _ _ h => nomatch h.1) (Or.inl ⟨by rfl, fun w' hw' => by go_simp⟩) hHeld ?_
                  try simp only [Act.put, List.getElem_toArray, List.getElem_cons_succ, List.getElem_cons_zero, List.setIfInBounds_toArray, List.set_cons_zero, List.set_cons_succ]
                  refine' wpAnyH_take (i := 6) (v := .agg #[.int .i64 ea, u1, u2]) rfl (by kernel_rfl) (by kernel_rfl) (by kernel_rfl) (fun _ _ _ h => nomatch h.1) (Or.inl ⟨by rfl, fun w' hw' => by go_simp⟩) hHeld ?_
                  try simp only [Act.put, List.getElem_toArray, List.getElem_cons_succ, List.getElem_cons_zero, List.setIfInBounds_toArray, List.set_cons_zero, List.set_cons_succ]
                  refine' wpAnyH_take (i := 7) (v := .agg #[.int .i64 da, u3, u4]) rfl (by kernel_rfl) (by kernel_rfl) (by kernel_rfl) (fun _ _ _ h => nomatch h.1) (Or.inl ⟨by rfl, fun w' hw' => by go_simp⟩) hHeld ?_
                  try simp only [Act.put, List.getElem_toArray, List.getElem_cons_succ, List.getElem_cons_zero, List.setIfInBounds_toArray, List.set_cons_zero, List.set_cons_succ]
                  refine' wpAnyH_take (i := 8) (v := .bool true) rfl (by kernel_rfl) (by kernel_rfl) (by kernel_rfl) (fun _ _ _ h => nomatch h.1) (Or.inl ⟨by rfl, fun w' hw' => by go_simp⟩) hHeld ?_
                  try simp only [Act.put, List.getElem_toArray, List.getElem_cons_succ, List.getElem_cons_zero, List.setIfInBounds_toArray, List.set_cons_zero, List.set_cons_succ]
                  refine wpAnyH_ready (rs := [11]) (by kernel_rfl) (by simp) ?_
                  refine AllReadyH.cons rfl (fun K hK => ?_) AllReadyH.nil
                  refine wp_store_whole 62 _ _ rfl g9 _ #[.int .i64 ea, u1, u2] 62 z9 rfl rfl (by kernel_rfl) rfl (all3 v1 v2) ?_
                  intro X1xxxxxx hb hg
                  replace o1 := o1.kept hg (.inr (Lib.ownBlock_ne o1 z9 (by decide)))
                  replace o2 := o2.kept hg (.inr (Lib.ownBlock_ne o2 z9 (by decide)))
                  replace o3 := o3.kept hg (.inr (Lib.ownBlock_ne o3 z9 (by decide)))
                  replace o4 := o4.kept hg (.inr (Lib.ownBlock_ne o4 z9 (by decide)))
                  replace z10 := blk_gb z10 hg (by omega)
                  refine hK.out _ _ ⟨hHeld.1.gb hg (by omega), blk_gb hHeld.2.1 hg (blk_ne hHeld.2.1 z9 (by decide)), blk_gb hHeld.2.2 hg (blk_ne hHeld.2.2 z9 (by decide))⟩ (fun hHeld => ?_)
                  clear hK K hg
                  replace z9 := hb
                  clear hb
                  try simp only [Act.put, List.getElem_toArray, List.getElem_cons_succ, List.getElem_cons_zero, List.setIfInBounds_toArray, List.set_cons_zero, List.set_cons_succ]
                  refine wpAnyH_ready (rs := [12]) (by kernel_rfl) (by simp) ?_
                  refine AllReadyH.cons rfl (fun K hK => ?_) AllReadyH.nil
                  refine wp_store_whole 62 _ _ rfl g10 _ #[.int .i64 da, u3, u4] 62 z10 rfl rfl (by kernel_rfl) rfl (all3 v3 v4) ?_
                  intro X1xxxxxxx hb hg
                  replace o1 := o1.kept hg (.inr (Lib.ownBlock_ne o1 z10 (by decide)))
                  replace o2 := o2.kept hg (.inr (Lib.ownBlock_ne o2 z10 (by decide)))
                  replace o3 := o3.kept hg (.inr (Lib.ownBlock_ne o3 z10 (by decide)))
                  replace o4 := o4.kept hg (.inr (Lib.ownBlock_ne o4 z10 (by decide)))
                  replace z9 := blk_gb z9 hg (by omega)
                  refine hK.out _ _ ⟨hHeld.1.gb hg (by omega), blk_gb hHeld.2.1 hg (blk_ne hHeld.2.1 z10 (by decide)), blk_gb hHeld.2.2 hg (blk_ne hHeld.2.2 z10 (by decide))⟩ (fun hHeld => ?_)
                  clear hK K hg
                  replace z10 := hb
                  clear hb
                  try simp only [Act.put, List.getElem_toArray, List.getElem_cons_succ, List.getElem_cons_zero, List.setIfInBounds_toArray, List.set_cons_zero, List.set_cons_succ]
                  refine' wpAnyH_take (i := 13) (v := .bool true) rfl (by kernel_rfl) (by kernel_rfl) (by kernel_rfl) (fun _ _ _ h => nomatch h.1) (Or.inl ⟨by rfl, fun w' hw' => by go_simp⟩) hHeld ?_
                  try simp only [Act.put, List.getElem_toArray, List.getElem_cons_succ, List.getElem_cons_zero, List.setIfInBounds_toArray, List.set_cons_zero, List.set_cons_succ]
                  refine wpAnyH_done (by kernel_rfl) ?_ _
                  exact fin5 _ _ _ _ _ _ _ _ _ _ _ _ _ _ _ _ hHeld z9 z10 o1 o2 o3 o4
          · as_aux_lemma =>
              go_simp
              have hb : Below X1x.heap.size X1x (X1x.alloc (.cells #[.int .i64 0, .slice none 0 0, .slice none 0 0] 62)) := (Below.refl _ _).alloc (Nat.le_refl _) _
              have z9 := Blk.new X1x 62 #[.int .i64 0, .slice none 0 0, .slice none 0 0]
              have h4z9 : w.heap.size + 4 ≤ X1x.heap.size := by have := hHeld.1.r5.lt; omega
              have ne9 : g10 ≠ X1x.heap.size := by have := z10.lt; omega
              replace o1 := own_below o1 hb
              replace o2 := own_below o2 hb
              replace o3 := own_below o3 hb
              replace o4 := own_below o4 hb
              replace z10 := z10.below hb
              refine hK.out _ _ ⟨hHeld.1.below hb, hHeld.2.1.below hb, hHeld.2.2.below hb⟩ (fun hHeld => ?_)
              clear hK K hb
              generalize X1x.alloc (.cells #[.int .i64 0, .slice none 0 0, .slice none 0 0] 62) = X1xx at *
              generalize X1x.heap.size = g9 at *
              try simp only [Act.put, List.getElem_toArray, List.getElem_cons_succ, List.getElem_cons_zero, List.setIfInBounds_toArray, List.set_cons_zero, List.set_cons_succ]
              refine wpAnyH_ready (rs := [1]) (by kernel_rfl) (by simp) ?_
              refine AllReadyH.cons rfl (fun K hK => ?_) AllReadyH.nil
              go_simp
              (with_reducible refine (cH1 _ hHeld.1.k.x).mono ?_)
              rintro e9 X1xxx ⟨A7, c7, B7, d7, rfl, p1, p2, hb⟩
              replace o1 := own_below o1 hb
              replace o2 := own_below o2 hb
              replace o3 := own_below o3 hb
              replace o4 := own_below o4 hb
              replace z10 := z10.below hb
              replace z9 := z9.below hb
              refine hK.out _ _ ⟨hHeld.1.below hb, hHeld.2.1.below hb, hHeld.2.2.below hb⟩ (fun hHeld => ?_)
              clear hK K hb
              try simp only [Act.put, List.getElem_toArray, List.getElem_cons_succ, List.getElem_cons_zero, List.setIfInBounds_toArray, List.set_cons_zero, List.set_cons_succ]
              refine wpAnyH_ready (rs := [3]) (by kernel_rfl) (by simp) ?_
              refine AllReadyH.cons rfl (fun K hK => ?_) AllReadyH.nil
              go_simp
              (with_reducible refine (cH2 _ hHeld.1.k.x).mono ?_)
              rintro e9 X1xxxx ⟨A8, c8, B8, d8, rfl, p3, p4, hb⟩
              replace o1 := own_below o1 hb
              replace o2 := own_below o2 hb
              replace o3 := own_below o3 hb
              replace o4 := own_below o4 hb
              replace p1 := own_below p1 hb
              replace p2 := own_below p2 hb
              replace z10 := z10.below hb
              replace z9 := z9.below hb
              refine hK.out _ _ ⟨hHeld.1.below hb, hHeld.2.1.below hb, hHeld.2.2.below hb⟩ (fun hHeld => ?_)
              clear hK K hb
              try simp only [Act.put, List.getElem_toArray, List.getElem_cons_succ, List.getElem_cons_zero, List.setIfInBounds_toArray, List.set_cons_zero, List.set_cons_succ]
              refine wpAnyH_ready (rs := [4]) (by kernel_rfl) (by simp) ?_
              refine AllReadyH.cons rfl (fun K hK => ?_) AllReadyH.nil
              go_simp
              (with_reducible refine (cS _ _ _ _ _ _ _ _ _ _ _ hHeld.1.k.x p1 p2 p3 p4).mono ?_)
              rintro e9 X1xxxxx ⟨u1, u2, u3, u4, rfl, v1, v2, v3, v4, hb⟩
              replace o1 := own_below o1 hb
              replace o2 := own_below o2 hb
              replace o3 := own_below o3 hb
              replace o4 := own_below o4 hb
              replace z10 := z10.below hb
              replace z9 := z9.below hb
              clear p1 p2 p3 p4
              refine hK.out _ _ ⟨hHeld.1.below hb, hHeld.2.1.below hb, hHeld.2.2.below hb⟩ (fun hHeld => ?_)
              clear hK K hb
              try simp only [Act.put, List.getElem_toArray, List.getElem_cons_succ, List.getElem_cons_zero, List.setIfInBounds_toArray, List.set_cons_zero, List.set_cons_succ]
              refine' wpAnyH_take (i := 5) (v := .tuple #[.agg #[.int .i64 ea, u1, u2], .agg #[.int .i64 da, u3, u4], .bool true]) rfl (by kernel_rfl) (by kernel_rfl) (by kernel_rfl) (fun _ _ _ h => nomatch h.1) (Or.inl ⟨by rfl, fun w' hw' => by go_simp⟩) hHeld ?_
              try simp only [Act.put, List.getElem_toArray, List.getElem_cons_succ, List.getElem_cons_zero, List.setIfInBounds_toArray, List.set_cons_zero, List.set_cons_succ]
              refine' wpAnyH_take (i := 6) (v := .agg #[.int .i64 ea, u1, u2]) rfl (by kernel_rfl) (by kernel_rfl) (by kernel_rfl) (fun _ _ _ h => nomatch h.1) (Or.inl ⟨by rfl, fun w' hw' => by go_simp⟩) hHeld ?_
              try simp only [Act.put, List.getElem_toArray, List.getElem_cons_succ, List.getElem_cons_zero, List.setIfInBounds_toArray, List.set_cons_zero, List.set_cons_succ]
              refine' wpAnyH_take (i := 7) (v := .agg #[.int .i64 da, u3, u4]) rfl (by kernel_rfl) (by kernel_rfl) (by kernel_rfl) (fun _ _ _ h => nomatch h.1) (Or.inl ⟨by rfl, fun w' hw' => by go_simp⟩) hHeld ?_
              try simp only [Act.put, List.getElem_toArray, List.getElem_cons_succ, List.getElem_cons_zero, List.setIfInBounds_toArray, List.set_cons_zero, List.set_cons_succ]
              refine' wpAnyH_take (i := 8) (v := .bool true) rfl (by kernel_rfl) (by kernel_rfl) (by kernel_rfl) (fun _ _ _ h => nomatch h.1) (Or.inl ⟨by rfl, fun w' hw' => by go_simp⟩) hHeld ?_
              try simp only [Act.put, List.getElem_toArray, List.getElem_cons_succ, List.getElem_cons_zero, List.setIfInBounds_toArray, List.set_cons_zero, List.set_cons_succ]
              refine wpAnyH_ready (rs := [11]) (by kernel_rfl) (by simp) ?_
              refine AllReadyH.cons rfl (fun K hK => ?_) AllReadyH.nil
              refine wp_store_whole 62 _ _ rfl g9 _ #[.int .i64 ea, u1, u2] 62 z9 rfl rfl (by kernel_rfl) rfl (all3 v1 v2) ?_
              intro X1xxxxxx hb hg
              replace o1 := o1.kept hg (.inr (Lib.ownBlock_ne o1 z9 (by decide)))
              replace o2 := o2.kept hg (.inr (Lib.ownBlock_ne o2 z9 (by decide)))
              replace o3 := o3.kept hg (.inr (Lib.ownBlock_ne o3 z9 (by decide)))
              replace o4 := o4.kept hg (.inr (Lib.ownBlock_ne o4 z9 (by decide)))
              replace z10 := blk_gb z10 hg (by omega)
              refine hK.out _ _ ⟨hHeld.1.gb hg (by omega), blk_gb hHeld.2.1 hg (blk_ne hHeld.2.1 z9 (by decide)), blk_gb hHeld.2.2 hg (blk_ne hHeld.2.2 z9 (by decide))⟩ (fun hHeld => ?_)
              clear hK K hg
              replace z9 := hb
              clear hb
              try simp only [Act.put, List.getElem_toArray, List.getElem_cons_succ, List.getElem_cons_zero, List.setIfInBounds_toArray, List.set_cons_zero, List.set_cons_succ]
              refine wpAnyH_ready (rs := [12]) (by kernel_rfl) (by simp) ?_
              refine AllReadyH.cons rfl (fun K hK => ?_) AllReadyH.nil
              refine wp_store_whole 62 _ _ rfl g10 _ #[.int .i64 da, u3, u4] 62 z10 rfl rfl (by kernel_rfl) rfl (all3 v3 v4) ?_
              intro X1xxxxxxx hb hg
              replace o1 := o1.kept hg (.inr (Lib.ownBlock_ne o1 z10 (by decide)))
              replace o2 := o2.kept hg (.inr (Lib.ownBlock_ne o2 z10 (by decide)))
              replace o3 := o3.kept hg (.inr (Lib.ownBlock_ne o3 z10 (by decide)))
              replace o4 := o4.kept hg (.inr (Lib.ownBlock_ne o4 z10 (by decide)))
              replace z9 := blk_gb z9 hg (by omega)
              refine hK.out _ _ ⟨hHeld.1.gb hg (by omega), blk_gb hHeld.2.1 hg (blk_ne hHeld.2.1 z10 (by decide)), blk_gb hHeld.2.2 hg (blk_ne hHeld.2.2 z10 (by decide))⟩ (fun hHeld => ?_)
              clear hK K hg
              replace z10 := hb
              clear hb
              try simp only [Act.put, List.getElem_toArray, List.getElem_cons_succ, List.getElem_cons_zero, List.setIfInBounds_toArray, List.set_cons_zero, List.set_cons_succ]
              refine' wpAnyH_take (i := 13) (v := .bool true) rfl (by kernel_rfl) (by kernel_rfl) (by kernel_rfl) (fun _ _ _ h => nomatch h.1) (Or.inl ⟨by rfl, fun w' hw' => by go_simp⟩) hHeld ?_
              try simp only [Act.put, List.getElem_toArray, List.getElem_cons_succ, List.getElem_cons_zero, List.setIfInBounds_toArray, List.set_cons_zero, List.set_cons_succ]
              refine wpAnyH_done (by kernel_rfl) ?_ _
              exact fin5 _ _ _ _ _ _ _ _ _ _ _ _ _ _ _ _ hHeld z9 z10 o1 o2 o3 o4
    case cont5 =>
      clear hh z7 z8 o1 o2 o3 o4
      rintro x a' W5 ⟨rfl, g9, g10, u1, u2, u3, u4, t25, t26, t27, t28, t29, t30, t31, t32, t33, rfl, ⟨hh, z7, z8⟩, z9, z10, o1, o2, o3, o4⟩
      go_wp2_with (fail)
      refine wp_region_held_drew (S := fun W => Blk W g9 62 #[.int .i64 ea, u1, u2] ∧ Blk W g10 62 #[.int .i64 da, u3, u4]) (by kernel_rfl) ⟨z9.below (below_drew10 _), z10.below (below_drew10 _)⟩ (fun hHeld => ?_)
      replace hh := hh.below (below_drew10 _)
      replace z7 := z7.below (below_drew10 _)
      replace z8 := z8.below (below_drew10 _)
      replace o1 := own_below o1 (below_drew10 _)
      replace o2 := own_below o2 (below_drew10 _)
      replace o3 := own_below o3 (below_drew10 _)
      replace o4 := own_below o4 (below_drew10 _)
      have n79 := blk_ne z7 hHeld.1 (by decide)
      have n710 := blk_ne z7 hHeld.2 (by decide)
      have n89 := blk_ne z8 hHeld.1 (by decide)
      have n810 := blk_ne z8 hHeld.2 (by decide)
      clear z9 z10
      generalize World.drew _ = Y1 at *
      refine' wpAnyH_take (i := 0) (v := .pointer (some ⟨g9, 0, none⟩)) rfl (by kernel_rfl) (by kernel_rfl) (by kernel_rfl) (fun _ _ _ h => h) (Or.inl ⟨by rfl, fun w' hw' => by go_simp⟩) hHeld ?_
      try simp only [Act.put, List.getElem_toArray, List.getElem_cons_succ, List.getElem_cons_zero, List.setIfInBounds_toArray, List.set_cons_zero, List.set_cons_succ]
      refine' wpAnyH_take (i := 1) (v := .int .i64 ea) rfl (by kernel_rfl) (by kernel_rfl) (by kernel_rfl) (fun _ _ _ h => h) (Or.inl ⟨by rfl, fun w' hw' => by have h0 := hw'.1.cell_ (i := 0) rfl; go_simp⟩) hHeld ?_
      try simp only [Act.put, List.getElem_toArray, List.getElem_cons_succ, List.getElem_cons_zero, List.setIfInBounds_toArray, List.set_cons_zero, List.set_cons_succ]
      refine' wpAnyH_take (i := 2) (v := .pointer (some ⟨g10, 0, none⟩)) rfl (by kernel_rfl) (by kernel_rfl) (by kernel_rfl) (fun _ _ _ h => h) (Or.inl ⟨by rfl, fun w' hw' => by go_simp⟩) hHeld ?_
      try simp only [Act.put, List.getElem_toArray, List.getElem_cons_succ, List.getElem_cons_zero, List.setIfInBounds_toArray, List.set_cons_zero, List.set_cons_succ]
      refine' wpAnyH_take (i := 3) (v := .int .i64 da) rfl (by kernel_rfl) (by kernel_rfl) (by kernel_rfl) (fun _ _ _ h => h) (Or.inl ⟨by rfl, fun w' hw' => by have h0 := hw'.2.cell_ (i := 0) rfl; go_simp⟩) hHeld ?_
      try simp only [Act.put, List.getElem_toArray, List.getElem_cons_succ, List.getElem_cons_zero, List.setIfInBounds_toArray, List.set_cons_zero, List.set_cons_succ]
      refine' wpAnyH_take (i := 4) (v := .pointer (some ⟨g7, 3, none⟩)) rfl (by kernel_rfl) (by kernel_rfl) (by kernel_rfl) (fun _ _ _ h => h) (Or.inl ⟨by rfl, fun w' hw' => by go_simp⟩) hHeld ?_
      try simp only [Act.put, List.getElem_toArray, List.getElem_cons_succ, List.getElem_cons_zero, List.setIfInBounds_toArray, List.set_cons_zero, List.set_cons_succ]
      refine wpAnyH_ready (rs := [5]) (by kernel_rfl) (by simp) ?_
      refine AllReadyH.cons rfl (fun K hK => ?_) AllReadyH.nil
      have y : Y1.cell? ⟨g7, 3, none⟩ = some _ := z7.cell_ (opC_3 _ _ _ _ _ _ _)
      have f := z7.frozen 3
      go_simp
      have hg := gb_set (gb_refl Y1 (some g7)) 3 (.int .i64 ea)
      have zz : Blk (Y1.setCell ⟨g7, 3, none⟩ (.int .i64 ea)) g7 42 (opC { E with a := ea } A5 n2 c5 B5 m2 d5) := by have q := z7.set 3 (.int .i64 ea); rwa [opC_set3 E K2 A5 n2 c5 B5 m2 d5 ea] at q
      replace o1 := o1.kept hg (.inr (Lib.ownBlock_ne o1 z7 (by decide)))
      replace o2 := o2.kept hg (.inr (Lib.ownBlock_ne o2 z7 (by decide)))
      replace o3 := o3.kept hg (.inr (Lib.ownBlock_ne o3 z7 (by decide)))
      replace o4 := o4.kept hg (.inr (Lib.ownBlock_ne o4 z7 (by decide)))
      replace z8 := blk_gb z8 hg (by omega)
      replace hh := hh.gb hg (by omega)
      refine hK.out _ _ ⟨blk_gb hHeld.1 hg (Ne.symm (by assumption)), blk_gb hHeld.2 hg (Ne.symm (by assumption))⟩ (fun hHeld => ?_)
      clear hK K hg y f
      replace z7 := zz
      clear zz
      generalize Y1.setCell ⟨g7, 3, none⟩ (.int .i64 ea) = Y2 at *
      try simp only [Act.put, List.getElem_toArray, List.getElem_cons_succ, List.getElem_cons_zero, List.setIfInBounds_toArray, List.set_cons_zero, List.set_cons_succ]
      refine' wpAnyH_take (i := 6) (v := .pointer (some ⟨g8, 3, none⟩)) rfl (by kernel_rfl) (by kernel_rfl) (by kernel_rfl) (fun _ _ _ h => h) (Or.inl ⟨by rfl, fun w' hw' => by go_simp⟩) hHeld ?_
      try simp only [Act.put, List.getElem_toArray, List.getElem_cons_succ, List.getElem_cons_zero, List.setIfInBounds_toArray, List.set_cons_zero, List.set_cons_succ]
      refine wpAnyH_ready (rs := [7]) (by kernel_rfl) (by simp) ?_
      refine AllReadyH.cons rfl (fun K hK => ?_) AllReadyH.nil
      have y : Y2.cell? ⟨g8, 3, none⟩ = some _ := z8.cell_ (opC_3 _ _ _ _ _ _ _)
      have f := z8.frozen 3
      go_simp
      have hg := gb_set (gb_refl Y2 (some g8)) 3 (.int .i64 da)
      have zz : Blk (Y2.setCell ⟨g8, 3, none⟩ (.int .i64 da)) g8 42 (opC { D with a := da } A6 n c6 B6 m d6) := by have q := z8.set 3 (.int .i64 da); rwa [opC_set3 D K1 A6 n c6 B6 m d6 da] at q
      replace o1 := o1.kept hg (.inr (Lib.ownBlock_ne o1 z8 (by decide)))
      replace o2 := o2.kept hg (.inr (Lib.ownBlock_ne o2 z8 (by decide)))
      replace o3 := o3.kept hg (.inr (Lib.ownBlock_ne o3 z8 (by decide)))
      replace o4 := o4.kept hg (.inr (Lib.ownBlock_ne o4 z8 (by decide)))
      replace z7 := blk_gb z7 hg (by omega)
      replace hh := hh.gb hg (by omega)
      refine hK.out _ _ ⟨blk_gb hHeld.1 hg (Ne.symm (by assumption)), blk_gb hHeld.2 hg (Ne.symm (by assumption))⟩ (fun hHeld => ?_)
      clear hK K hg y f
      replace z8 := zz
      clear zz
      generalize Y2.setCell ⟨g8, 3, none⟩ (.int .i64 da) = Y3 at *
      try simp only [Act.put, List.getElem_toArray, List.getElem_cons_succ, List.getElem_cons_zero, List.setIfInBounds_toArray, List.set_cons_zero, List.set_cons_succ]
      refine wpAnyH_done (by kernel_rfl) ?_ _
      go_wp2_with (fail)
      refine wp_region_held_drew (S := fun W => Blk W g7 42 (opC { E with a := ea } A5 n2 c5 B5 m2 d5) ∧ Blk W g8 42 (opC { D with a := da } A6 n c6 B6 m d6)) (by kernel_rfl) ⟨z7.below (below_drew10 _), z8.below (below_drew10 _)⟩ (fun hHeld => ?_)
      replace hh := hh.below (below_drew10 _)
      replace o1 := own_below o1 (below_drew10 _)
      replace o2 := own_below o2 (below_drew10 _)
      replace o3 := own_below o3 (below_drew10 _)
      replace o4 := own_below o4 (below_drew10 _)
      clear z7 z8
      refine' wpAnyH_take (i := 0) (v := .agg (opC { E with a := ea } A5 n2 c5 B5 m2 d5)) rfl (by kernel_rfl) (by kernel_rfl) (by kernel_rfl) (fun _ _ _ h => h) (yields_opx (by rfl) _ rfl _ rfl (fun w' h => ⟨h.1⟩) K2) hHeld ?_
      try simp only [Act.put, List.getElem_toArray, List.getElem_cons_succ, List.getElem_cons_zero, List.setIfInBounds_toArray, List.set_cons_zero, List.set_cons_succ]
      refine' wpAnyH_take (i := 1) (v := .agg (opC { D with a := da } A6 n c6 B6 m d6)) rfl (by kernel_rfl) (by kernel_rfl) (by kernel_rfl) (fun _ _ _ h => h) (yields_opx (by rfl) _ rfl _ rfl (fun w' h => ⟨h.2⟩) K1) hHeld ?_
      try simp only [Act.put, List.getElem_toArray, List.getElem_cons_succ, List.getElem_cons_zero, List.setIfInBounds_toArray, List.set_cons_zero, List.set_cons_succ]
      refine wpAnyH_ready (rs := [2]) (by kernel_rfl) (by simp) ?_
      refine AllReadyH.cons rfl (fun K hK => ?_) AllReadyH.nil
      refine wp_store_whole 42 _ _ rfl (w.heap.size + 1 + 1) zc (opC { E with a := ea } A5 n2 c5 B5 m2 d5) 42 hh.r4 rfl rfl (opC_info _ _ _ _ _ _ _ K2) (by rw [opC_size { E with a := ea } A5 n2 c5 B5 m2 d5 K2, hz0]) (opC_one _ _ _ _ _ _ _) ?_
      intro V4 b4 q4
      have r5 := blk_gb hh.r5 q4 (by omega)
      have hx4 := hh.k.x.trans (below_of_gb q4 (by omega) hh.k.x.size)
      replace o1 := o1.kept q4 (.inr (Lib.ownBlock_ne o1 hh.r4 (by decide)))
      replace o2 := o2.kept q4 (.inr (Lib.ownBlock_ne o2 hh.r4 (by decide)))
      replace o3 := o3.kept q4 (.inr (Lib.ownBlock_ne o3 hh.r4 (by decide)))
      replace o4 := o4.kept q4 (.inr (Lib.ownBlock_ne o4 hh.r4 (by decide)))
      refine hK.out _ _ ⟨blk_gb hHeld.1 q4 (by omega), blk_gb hHeld.2 q4 (by omega)⟩ (fun hHeld => ?_)
      clear hK K
      try simp only [Act.put, List.getElem_toArray, List.getElem_cons_succ, List.getElem_cons_zero, List.setIfInBounds_toArray, List.set_cons_zero, List.set_cons_succ]
      refine wpAnyH_ready (rs := [3]) (by kernel_rfl) (by simp) ?_
      refine AllReadyH.cons rfl (fun K hK => ?_) AllReadyH.nil
      refine wp_store_whole 42 _ _ rfl (w.heap.size + 1 + 1 + 1) zc (opC { D with a := da } A6 n c6 B6 m d6) 42 r5 rfl rfl (opC_info _ _ _ _ _ _ _ K1) (by rw [opC_size { D with a := da } A6 n c6 B6 m d6 K1, hz0]) (opC_one _ _ _ _ _ _ _) ?_
      intro V5 b5 q5
      replace b4 := blk_gb b4 q5 (by omega)
      have hx5 := hx4.trans (below_of_gb q5 (by omega) hx4.size)
      replace o1 := o1.kept q5 (.inr (Lib.ownBlock_ne o1 r5 (by decide)))
      replace o2 := o2.kept q5 (.inr (Lib.ownBlock_ne o2 r5 (by decide)))
      replace o3 := o3.kept q5 (.inr (Lib.ownBlock_ne o3 r5 (by decide)))
      replace o4 := o4.kept q5 (.inr (Lib.ownBlock_ne o4 r5 (by decide)))
      refine hK.out _ _ ⟨blk_gb hHeld.1 q5 (by omega), blk_gb hHeld.2 q5 (by omega)⟩ (fun hHeld => ?_)
      clear hK K
      try simp only [Act.put, List.getElem_toArray, List.getElem_cons_succ, List.getElem_cons_zero, List.setIfInBounds_toArray, List.set_cons_zero, List.set_cons_succ]
      refine' wpAnyH_take (i := 4) (v := .bool true) rfl (by kernel_rfl) (by kernel_rfl) (by kernel_rfl) (fun _ _ _ h => h) (Or.inl ⟨by rfl, fun w' hw' => by go_simp⟩) hHeld ?_
      try simp only [Act.put, List.getElem_toArray, List.getElem_cons_succ, List.getElem_cons_zero, List.setIfInBounds_toArray, List.set_cons_zero, List.set_cons_succ]
      refine wpAnyH_done (by kernel_rfl) ?_ _
      go_wp2
      refine bodyPost_ret (results_swap rfl rfl rfl b4 b5 (opC_size _ _ _ _ _ _ _ K2) (opC_size _ _ _ _ _ _ _ K1)) rfl ?_
      exact ⟨A5, c5, B5, d5, A6, c6, B6, d6, rfl, o1, o2, o3, o4, hx5⟩

end Go.Proofs.Ytmfngampccpkhaa

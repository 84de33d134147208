
/- tree: an operation applied: an edit; the whole. -/
import Derived.Test.YtodfaakodgedbaaTr8
set_option linter.unusedSimpArgs false
set_option linter.unusedVariables false
namespace Go.Proofs.Ytodfaakodgedbaa
open Go.RowKit Go.Qc Go.Shelf
attribute [local go_sem] txt_size txt_append ib_fold txt_toL

set_option maxRecDepth 100000 in
set_option maxHeartbeats 40000000 in
theorem tap_edit (A : Option Addr) (n c : Nat) (Xs : List FlV) (D : OpD) (OA : Option Addr) (n1 c1 : Nat) (NB : Option Addr) (m1 d1 : Nat) (w : World) (hX : TrS w A n c Xs) (hg : GoodF (Xs.map FlV.D)) (hR : OpR w D OA n1 NB m1) (hE : opE D = 0) (hk : D.k = 3) :
    Calls Try.prog 14 #[.agg #[.slice A n c], .agg (opC D OA n1 c1 NB m1 d1)] w fun e w' => TrR w w' (applyF (Xs.map FlV.D) D) e := by
  have hn200 := hg.bn hX.rw_
  have KK := hR.hK
  have b1 := (Below.refl w.heap.size w).alloc (Nat.le_refl _) (.cells #[.slice A n c] 27)
  have b2 := b1.alloc b1.size (.cells (opC D OA n1 c1 NB m1 d1) 40)
  have b3 := b2.alloc b2.size (.cells #[.slice none 0 0] 27)
  have h2 := ((Blk.new w 27 #[.slice A n c]).alloc (.cells (opC D OA n1 c1 NB m1 d1) 40)).alloc (.cells #[.slice none 0 0] 27)
  have hx := (OpX.new (w.alloc (.cells #[.slice A n c] 27)) D OA n1 c1 NB m1 d1).alloc (.cells #[.slice none 0 0] 27)
  have hz := Blk.new ((w.alloc (.cells #[.slice A n c] 27)).alloc (.cells (opC D OA n1 c1 NB m1 d1) 40)) 27 #[.slice none 0 0]
  rw [World.size_alloc] at hx
  rw [World.size_alloc, World.size_alloc] at hz
  have cE : ∀ W, Below w.heap.size w W → Calls Try.prog 20 #[.agg (opC D OA n1 c1 NB m1 d1)] W fun e w' => e = .returned (.int .i64 (opE D)) ∧ Below W.heap.size W w' := fun W h =>
    oright_any D KK OA n1 c1 hR.lo (by have := hR.bn; omega) NB m1 d1 hR.ln (by have := hR.bm; omega) W (hR.rA.below h) (hR.rB.below h)
  have cP : ∀ W, Calls Try.prog 21 #[.agg (opC D OA n1 c1 NB m1 d1)] W fun e w' => e = .returned (.bool (decide (D.k = 5 ∨ D.k = 6))) ∧ Below W.heap.size W w' := fun W => policy_any D OA n1 c1 NB m1 d1 W
  have bp := hR.bp
  have HX := hid hX
  have HG := hid hg
  have HR := hid hR
  rw [hE] at cE
  have HE := hid hE
  generalize hRR : applyF (Xs.map FlV.D) D = RR
  have HRR := hid hRR
  have HK := hid hk
  rw [decide_eq_false (by omega)] at cP
  have q0 := hx.c0; rw [hk] at q0
  have q1 := hx.c1
  have q2 := hx.c2
  have q4 := hx.c4
  clear hk
  clear hX hg hR hE hRR b1 b2
  go_enter Try.func14, Try.ntmps14
  go_upto_region 1 with (fail)
  generalize ((w.alloc (.cells #[.slice A n c] 27)).alloc (.cells (opC D OA n1 c1 NB m1 d1) 40)).alloc (.cells #[.slice none 0 0] 27) = W0 at *
  have hb := Below.refl W0.heap.size W0
  go_upto_region 9 with (first
    | (with_reducible refine wpList_load_opx (by with_unfolding_all rfl) _ rfl _ rfl (hx.below hb) KK ?_)
    | (with_reducible refine wpList_load_tree (by with_unfolding_all rfl) _ rfl _ rfl (h2.below hb) ?_)
    | (go_at_call 20; (with_reducible refine (cE _ (b3.trans (hb.mono b3.size))).mono ?_); rintro e1 w1 ⟨rfl, hb1⟩; replace hb := hb.trans (hb1.mono hb.size); clear hb1; replace q0 := (hx.below hb).c0; rw [HK.out] at q0; replace q1 := (hx.below hb).c1; replace q2 := (hx.below hb).c2; replace q4 := (hx.below hb).c4)
    | (go_at_call 21; (with_reducible refine (cP _).mono ?_); rintro e2 w2 ⟨rfl, hb1⟩; replace hb := hb.trans (hb1.mono hb.size); clear hb1; replace q0 := (hx.below hb).c0; rw [HK.out] at q0; replace q1 := (hx.below hb).c1; replace q2 := (hx.below hb).c2; replace q4 := (hx.below hb).c4)
    | (go_at_call 18; (with_reducible refine (tfind_any A n c Xs D.p _ HX.out.rw_.ln (by omega) ((HX.out.below b3).below hb).rw_.rd HG.out.s).mono ?_); rintro e3 w3 ⟨p, rfl, hp, hb1⟩; replace hp := hid hp; replace hb := hb.trans (hb1.mono hb.size); clear hb1; replace q0 := (hx.below hb).c0; rw [HK.out] at q0; replace q1 := (hx.below hb).c1; replace q2 := (hx.below hb).c2; replace q4 := (hx.below hb).c4))
  cases hh : hitB Xs D.p p with
  | false =>
    have HN := hid (hit_no HG.out.s hp.out hh)
    clear hh
    go_wp2_with (first
    | (with_reducible refine wpList_load_opx (by with_unfolding_all rfl) _ rfl _ rfl (hx.below hb) KK ?_)
    | (with_reducible refine wpList_load_tree (by with_unfolding_all rfl) _ rfl _ rfl (h2.below hb) ?_)
    | (go_at_call 20; (with_reducible refine (cE _ (b3.trans (hb.mono b3.size))).mono ?_); rintro e1 w1 ⟨rfl, hb1⟩; replace hb := hb.trans (hb1.mono hb.size); clear hb1; replace q0 := (hx.below hb).c0; rw [HK.out] at q0; replace q1 := (hx.below hb).c1; replace q2 := (hx.below hb).c2; replace q4 := (hx.below hb).c4)
    | (go_at_call 21; (with_reducible refine (cP _).mono ?_); rintro e2 w2 ⟨rfl, hb1⟩; replace hb := hb.trans (hb1.mono hb.size); clear hb1; replace q0 := (hx.below hb).c0; rw [HK.out] at q0; replace q1 := (hx.below hb).c1; replace q2 := (hx.below hb).c2; replace q4 := (hx.below hb).c4)
    | (with_reducible refine wpList_store_blk rfl 27 _ _ rfl (w.heap.size + 1 + 1) _ #[.slice none 0 0] 27 (hz.below hb) rfl rfl ?c2 ?c3 ?c4 ?_))
    case c2 => kernel_rfl
    case c3 => rfl
    case c4 => simp [Value.oneCell']
    intro W9 hb9 hg9
    go_wp2
    refine bodyPost_ret (results_cellt rfl _ _ _ _ _ _ rfl hb9 Try.underlying27 rfl (by kernel_rfl)) rfl ?_
    have hs3 := b3.size
    have hb7 := below_of_gb hg9 (show w.heap.size ≤ w.heap.size + 1 + 1 by omega) (Nat.le_trans hs3 hb.size)
    refine .inr ⟨6, rfl, ?_, by decide, (b3.trans (hb.mono b3.size)).trans hb7⟩
    rw [← HRR.out]
    unfold applyF
    rw [if_pos HE.out, if_neg (by rw [HK.out]; decide), if_neg (by rw [HK.out]; decide), if_pos (by rw [HN.out]; decide)]
  | true =>
    obtain ⟨X, hX1, hX2, hX3⟩ := hit_at HG.out.s hp.out hh
    have HX1 := hid hX1
    have HX2 := hid hX2
    have HX3 := hid hX3
    clear hh hX1 hX2 hX3
    go_upto_region 15 with (first
    | (with_reducible refine wpList_load_opx (by with_unfolding_all rfl) _ rfl _ rfl (hx.below hb) KK ?_)
    | (with_reducible refine wpList_load_tree (by with_unfolding_all rfl) _ rfl _ rfl (h2.below hb) ?_)
    | (go_at_call 20; (with_reducible refine (cE _ (b3.trans (hb.mono b3.size))).mono ?_); rintro e1 w1 ⟨rfl, hb1⟩; replace hb := hb.trans (hb1.mono hb.size); clear hb1; replace q0 := (hx.below hb).c0; rw [HK.out] at q0; replace q1 := (hx.below hb).c1; replace q2 := (hx.below hb).c2; replace q4 := (hx.below hb).c4)
    | (go_at_call 21; (with_reducible refine (cP _).mono ?_); rintro e2 w2 ⟨rfl, hb1⟩; replace hb := hb.trans (hb1.mono hb.size); clear hb1; replace q0 := (hx.below hb).c0; rw [HK.out] at q0; replace q1 := (hx.below hb).c1; replace q2 := (hx.below hb).c2; replace q4 := (hx.below hb).c4))
    refine wp_region_held_drew (S := fun W => W.cell? ⟨w.heap.size, 0, none⟩ = some (.slice A n c) ∧ OpX W (w.heap.size + 1) D OA n1 c1 NB m1 d1) (by kernel_rfl) ?_ (fun hHeld => ?_)
    · have hd := below_drew10 w3
      exact ⟨((h2.below hb).below hd).cell_ rfl, (hx.below hb).below hd⟩
    replace hb := hb.trans ((below_drew10 w3).mono hb.size)
    generalize w3.drew = W2 at *
    replace h2 := h2.below hb
    replace hx := hx.below hb
    replace hz := hz.below hb
    have hbw := b3.trans (hb.mono b3.size)
    have hS2 : TrS W2 A n c Xs := HX.out.below hbw
    clear q0 q1 q2 q4
    refine' wpAnyH_take (i := 0) (v := .agg #[.slice A n c]) rfl (by kernel_rfl) (by kernel_rfl) (by kernel_rfl) (fun _ _ _ h => h) (yields_tree (by rfl) _ rfl _ rfl (fun w' hw' => hw'.1)) hHeld ?_
    try simp only [Act.put, List.getElem_toArray, List.getElem_cons_succ, List.getElem_cons_zero, List.setIfInBounds_toArray, List.set_cons_zero, List.set_cons_succ]
    refine' wpAnyH_take (i := 1) (v := .int .i64 (p : Int)) rfl (by kernel_rfl) (by kernel_rfl) (by kernel_rfl) (fun _ _ _ h => h) (Or.inl ⟨by rfl, fun w' hw' => by go_simp⟩) hHeld ?_
    try simp only [Act.put, List.getElem_toArray, List.getElem_cons_succ, List.getElem_cons_zero, List.setIfInBounds_toArray, List.set_cons_zero, List.set_cons_succ]
    refine' wpAnyH_take (i := 2) (v := .agg (opC D OA n1 c1 NB m1 d1)) rfl (by kernel_rfl) (by kernel_rfl) (by kernel_rfl) (fun _ _ _ h => h) (yields_opx (by rfl) _ rfl _ rfl (fun w' hw' => hw'.2) KK) hHeld ?_
    try simp only [Act.put, List.getElem_toArray, List.getElem_cons_succ, List.getElem_cons_zero, List.setIfInBounds_toArray, List.set_cons_zero, List.set_cons_succ]
    refine wpAnyH_ready (rs := [3]) (by kernel_rfl) (by simp) ?_
    refine AllReadyH.cons rfl (fun K hK => ?_) AllReadyH.nil
    go_simp
    (with_reducible refine (ohunk_any D OA n1 c1 NB m1 d1 W2 HR.out.lo (by have := HR.out.bn; omega) HR.out.ln (by have := HR.out.bm; omega) KK (HR.out.rA.below hbw) (HR.out.rB.below hbw)).mono ?_)
    rintro e4 w4 ⟨A4, c4, B4, d4, rfl, o1, o2, hb4⟩
    replace h2 := h2.below hb4
    replace hx := hx.below hb4
    replace hz := hz.below hb4
    replace hS2 := hS2.below hb4
    replace hb := hb.trans (hb4.mono hb.size)
    obtain ⟨A4b, c4b, e4, l4, q4a, q4n, r4⟩ := own_lines o1
    cases e4
    obtain ⟨B4b, d4b, e5, l5, q5a, q5n, r5⟩ := own_lines o2
    cases e5
    have cT := tedited_any A n c Xs p X D.a A4 n1 c4 D.o B4 m1 d4 D.n w4 hS2 HG.out HX1.out HR.out.lo HR.out.bn HR.out.ln HR.out.bm (fun e => (q5n e).2) r4 r5 HR.out.bx
    refine hK.out _ _ ⟨h2.cell_ rfl, hx⟩ (fun hHeld => ?_)
    clear hK K o1 o2 r4 r5 l4 l5 q4a q4n q5a q5n hb4
    try simp only [Act.put, List.getElem_toArray, List.getElem_cons_succ, List.getElem_cons_zero, List.setIfInBounds_toArray, List.set_cons_zero, List.set_cons_succ]
    refine wpAnyH_ready (rs := [4]) (by kernel_rfl) (by simp) ?_
    refine AllReadyH.cons rfl (fun K hK => ?_) AllReadyH.nil
    go_simp
    (with_reducible refine cT.mono ?_)
    rintro e6 w6 h6
    obtain ⟨A9, n9, c9, k9, rfl, hV, hb6⟩ := h6.shape
    replace h2 := h2.below hb6
    replace hx := hx.below hb6
    have hzc := hz.below hb6
    replace hb := hb.trans (hb6.mono hb.size)
    refine hK.out _ _ ⟨h2.cell_ rfl, hx⟩ (fun hHeld => ?_)
    clear hK K h6 hb6 cT
    try simp only [Act.put, List.getElem_toArray, List.getElem_cons_succ, List.getElem_cons_zero, List.setIfInBounds_toArray, List.set_cons_zero, List.set_cons_succ]
    refine' wpAnyH_take (i := 5) (v := .agg #[.slice A9 n9 c9]) rfl (by kernel_rfl) (by kernel_rfl) (by kernel_rfl) (fun _ _ _ h => h) (Or.inl ⟨by rfl, fun w' hw' => by go_simp⟩) hHeld ?_
    try simp only [Act.put, List.getElem_toArray, List.getElem_cons_succ, List.getElem_cons_zero, List.setIfInBounds_toArray, List.set_cons_zero, List.set_cons_succ]
    refine' wpAnyH_take (i := 6) (v := .int .i64 k9) rfl (by kernel_rfl) (by kernel_rfl) (by kernel_rfl) (fun _ _ _ h => h) (Or.inl ⟨by rfl, fun w' hw' => by go_simp⟩) hHeld ?_
    try simp only [Act.put, List.getElem_toArray, List.getElem_cons_succ, List.getElem_cons_zero, List.setIfInBounds_toArray, List.set_cons_zero, List.set_cons_succ]
    refine wpAnyH_ready (rs := [7]) (by kernel_rfl) (by simp) ?_
    refine AllReadyH.cons rfl (fun K hK => ?_) AllReadyH.nil
    refine (if_pos (by kernel_rfl)).mpr ?_
    refine wp_store_whole 27 _ _ rfl (w.heap.size + 1 + 1) _ #[.slice A9 n9 c9] 27 hzc rfl rfl ?c2 ?c3 ?c4 ?_
    case c2 => kernel_rfl
    case c3 => rfl
    case c4 => simp [Value.oneCell']
    intro W9 hb9 hg9
    refine hK.out _ _ ⟨(blk_gb h2 hg9 (by omega)).cell_ rfl, ⟨blk_gb hx.b hg9 (by omega)⟩⟩ (fun hHeld => ?_)
    clear hK K
    try simp only [Act.put, List.getElem_toArray, List.getElem_cons_succ, List.getElem_cons_zero, List.setIfInBounds_toArray, List.set_cons_zero, List.set_cons_succ]
    refine wpAnyH_ready (rs := [8]) (by kernel_rfl) (by simp) ?_
    refine AllReadyH.cons rfl (fun K hK => ?_) AllReadyH.nil
    go_simp
    refine hK.out _ _ hHeld (fun hHeld => ?_)
    clear hK K
    try simp only [Act.put, List.getElem_toArray, List.getElem_cons_succ, List.getElem_cons_zero, List.setIfInBounds_toArray, List.set_cons_zero, List.set_cons_succ]
    refine wpAnyH_done (by kernel_rfl) ?_ _
    go_wp2
    refine bodyPost_ret (results_cellt rfl _ _ _ _ _ _ rfl hb9 Try.underlying27 rfl (by kernel_rfl)) rfl ?_
    have hs3 := b3.size
    have hb7 := below_of_gb hg9 (show w.heap.size ≤ w.heap.size + 1 + 1 by omega) (Nat.le_trans hs3 hb.size)
    refine (hV.zs hzc hg9).of ((b3.trans (hb.mono b3.size)).trans hb7) |> fun h => ?_
    have e : (if (apR X.l D.a D.o D.n).2 = 0 then Except.ok (putD ((Xs.map FlV.D).eraseIdx p) (X.p, (apR X.l D.a D.o D.n).1)) else Except.error (apR X.l D.a D.o D.n).2) = RR := by
      rw [← HRR.out]
      unfold applyF
      have hxd : (Xs.map FlV.D)[p]? = some X.D := by rw [List.getElem?_map, HX1.out]; rfl
      rw [if_pos HE.out, if_neg (show ¬ 4 < D.k by rw [HK.out]; decide), if_neg (show ¬ D.k = 1 by rw [HK.out]; decide), if_neg (show ¬ atV (Xs.map FlV.D) D.p < 0 by rw [HX3.out]; omega), HX3.out, Int.toNat_natCast, hxd]
      simp only []
      rw [if_neg (show ¬ D.k = 2 by rw [HK.out]; decide), if_pos HK.out, HX2.out]
      rfl
    rw [e] at h
    exact h

theorem tapply_r (A : Option Addr) (n c : Nat) (Xs : List FlV) (D : OpD) (OA : Option Addr) (n1 c1 : Nat) (NB : Option Addr) (m1 d1 : Nat) (w : World) (hX : TrS w A n c Xs) (hg : GoodF (Xs.map FlV.D)) (hR : OpR w D OA n1 NB m1) :
    Calls Try.prog 14 #[.agg #[.slice A n c], .agg (opC D OA n1 c1 NB m1 d1)] w fun e w' => TrR w w' (applyF (Xs.map FlV.D) D) e := by
  by_cases hE : opE D = 0
  · obtain ⟨⟨k1, k6⟩, _⟩ := formed_of hE
    by_cases h4 : 4 < D.k
    · exact tap_policy A n c Xs D OA n1 c1 NB m1 d1 w hX hg hR hE h4
    · by_cases e1 : D.k = 1
      · exact tap_create A n c Xs D OA n1 c1 NB m1 d1 w hX hg hR hE e1
      · by_cases e2 : D.k = 2
        · exact tap_remove A n c Xs D OA n1 c1 NB m1 d1 w hX hg hR hE e2
        · by_cases e3 : D.k = 3
          · exact tap_edit A n c Xs D OA n1 c1 NB m1 d1 w hX hg hR hE e3
          · exact tap_move A n c Xs D OA n1 c1 NB m1 d1 w hX hg hR hE (by omega)
  · exact tap_wrong A n c Xs D OA n1 c1 NB m1 d1 w hX hg hR _ rfl hE
theorem TrV.good {w' : World} {L : List FD} {D : OpD} {A : Option Addr} {n c : Nat} {k : Int} (hg : GoodF L) (h : TrV w' (applyF L D) A n c k) : (k = 0 ∧ ∃ Ys, applyF L D = .ok (Ys.map FlV.D) ∧ GoodF (Ys.map FlV.D) ∧ TrS w' A n c Ys) ∨ (A = none ∧ n = 0 ∧ c = 0 ∧ applyF L D = .error k ∧ ¬ k = 0) := by
  rcases h with ⟨h1, Ys, h2, h3⟩ | h
  · exact .inl ⟨h1, Ys, h2, good_next hg h2, h3⟩
  · exact .inr h

end Go.Proofs.Ytodfaakodgedbaa

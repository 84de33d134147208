
/- tree: an operation applied. -/
import Derived.Test.YtodfaakodgedbaaTr7
set_option linter.unusedSimpArgs false
set_option linter.unusedVariables false
namespace Go.Proofs.Ytodfaakodgedbaa
open Go.RowKit Go.Qc Go.Shelf
attribute [local go_sem] txt_size txt_append ib_fold txt_toL

/-- What is told, as three values. -/
def TrV (w' : World) (r : Except Int (List FD)) (A : Option Addr) (n c : Nat) (k : Int) : Prop :=
  (k = 0 ∧ ∃ Ys, r = .ok (Ys.map FlV.D) ∧ TrS w' A n c Ys) ∨ (A = none ∧ n = 0 ∧ c = 0 ∧ r = .error k ∧ ¬ k = 0)
theorem TrR.shape {w w' : World} {r : Except Int (List FD)} {e : Ending} (h : TrR w w' r e) : ∃ A n c k, e = .returned (.tuple #[.agg #[.slice A n c], .int .i64 k]) ∧ TrV w' r A n c k ∧ Below w.heap.size w w' := by
  rcases h with ⟨Ys, A, n, c, rfl, h1, h2, h3⟩ | ⟨k, rfl, h1, h2, h3⟩
  · exact ⟨A, n, c, 0, rfl, .inl ⟨rfl, Ys, h1, h2⟩, h3⟩
  · exact ⟨none, 0, 0, k, rfl, .inr ⟨rfl, rfl, rfl, h1, h2⟩, h3⟩
theorem TrV.zs {W W' : World} {r : Except Int (List FD)} {g : Nat} {A : Option Addr} {n c : Nat} {B : Option Addr} {m d : Nat} {k : Int} (hr : TrV W r B m d k) (h : Blk W g 27 #[.slice A n c]) (hg : W.grownBy W' (some g)) : TrV W' r B m d k := by
  rcases hr with ⟨h1, Ys, h2, h3⟩ | h1
  · exact .inl ⟨h1, Ys, h2, h3.zs h hg⟩
  · exact .inr h1
theorem TrV.of {w w' : World} {r : Except Int (List FD)} {A : Option Addr} {n c : Nat} {k : Int} (h : TrV w' r A n c k) (hb : Below w.heap.size w w') : TrR w w' r (.returned (.tuple #[.agg #[.slice A n c], .int .i64 k])) := by
  rcases h with ⟨rfl, Ys, h1, h2⟩ | ⟨rfl, rfl, rfl, h1, h2⟩
  · exact .inl ⟨Ys, A, n, c, rfl, h1, h2, hb⟩
  · exact .inr ⟨k, rfl, h1, h2, hb⟩
theorem hit_at {Xs : List FlV} {s : List UInt8} {p : Nat} (hs : SortF (Xs.map FlV.D)) (hp : FindP Xs s p) (h : hitB Xs s p = true) : ∃ X, Xs[p]? = some X ∧ X.p = s ∧ atV (Xs.map FlV.D) s = (p : Nat) := by
  unfold hitB at h
  cases hq : Xs[p]? with
  | none => rw [hq] at h; cases h
  | some X =>
    rw [hq] at h
    have e := of_decide_eq_true h
    refine ⟨X, rfl, e, ?_⟩
    rcases look_at (Xs.map FlV.D) s with ⟨_, h2⟩ | ⟨i, x, h1, h2, h3, _⟩
    · exact absurd ⟨X, List.mem_of_getElem? hq, e⟩ ((look_hit Xs s).1 h2)
    · rw [List.getElem?_map] at h2
      cases hy : Xs[i]? with
      | none => rw [hy] at h2; cases h2
      | some Y =>
        rw [hy] at h2
        simp at h2
        have e2 : Y.p = s := by rw [← h2] at h3; exact h3
        rw [h1]
        have : i = p := by
          apply Classical.byContradiction
          intro hne
          rcases Nat.lt_or_gt_of_ne hne with hl | hl
          · have := sort_get hs hl hy hq
            rw [e2, e, bl_irr] at this
            cases this
          · have := sort_get hs hl hq hy
            rw [e2, e, bl_irr] at this
            cases this
        rw [this]
theorem hit_no {Xs : List FlV} {s : List UInt8} {p : Nat} (hs : SortF (Xs.map FlV.D)) (hp : FindP Xs s p) (h : hitB Xs s p = false) : atV (Xs.map FlV.D) s = -1 := by
  rcases look_at (Xs.map FlV.D) s with ⟨h1, _⟩ | ⟨i, x, _, h2, h3, _⟩
  · exact h1
  · obtain ⟨Y, hY, rfl⟩ := List.mem_map.1 (List.mem_of_getElem? h2)
    have := (hit_iff hs hp).2 ⟨Y, hY, h3⟩
    rw [h] at this
    cases this


set_option maxRecDepth 100000 in
set_option maxHeartbeats 40000000 in
theorem tap_wrong (A : Option Addr) (n c : Nat) (Xs : List FlV) (D : OpD) (OA : Option Addr) (n1 c1 : Nat) (NB : Option Addr) (m1 d1 : Nat) (w : World) (hX : TrS w A n c Xs) (hg : GoodF (Xs.map FlV.D)) (hR : OpR w D OA n1 NB m1) (r : Int) (hE : opE D = r) (h0 : ¬ r = 0) :
    Calls Try.prog 14 #[.agg #[.slice A n c], .agg (opC D OA n1 c1 NB m1 d1)] w fun e w' => TrR w w' (applyF (Xs.map FlV.D) D) e := by
  have hn200 := hg.bn hX.rw_
  have KK := hR.hK
  have b1 := (Below.refl w.heap.size w).alloc (Nat.le_refl _) (.cells #[.slice A n c] 27)
  have b2 := b1.alloc b1.size (.cells (opC D OA n1 c1 NB m1 d1) 40)
  have b3 := b2.alloc b2.size (.cells #[.slice none 0 0] 27)
  have h2 := ((Blk.new w 27 #[.slice A n c]).alloc (.cells (opC D OA n1 c1 NB m1 d1) 40)).alloc (.cells #[.slice none 0 0] 27)
  have hx := (OpX.new (w.alloc (.cells #[.slice A n c] 27)) D OA n1 c1 NB m1 d1).alloc (.cells #[.slice none 0 0] 27)
  have hz := Blk.new ((w.alloc (.cells #[.slice A n c] 27)).alloc (.cells (opC D OA n1 c1 NB m1 d1) 40)) 27 #[.slice none 0 0]
  rw [World.size_alloc] at hx
  rw [World.size_alloc, World.size_alloc] at hz
  have cE : ∀ W, Below w.heap.size w W → Calls Try.prog 20 #[.agg (opC D OA n1 c1 NB m1 d1)] W fun e w' => e = .returned (.int .i64 (opE D)) ∧ Below W.heap.size W w' := fun W h =>
    oright_any D KK OA n1 c1 hR.lo (by have := hR.bn; omega) NB m1 d1 hR.ln (by have := hR.bm; omega) W (hR.rA.below h) (hR.rB.below h)
  have cP : ∀ W, Calls Try.prog 21 #[.agg (opC D OA n1 c1 NB m1 d1)] W fun e w' => e = .returned (.bool (decide (D.k = 5 ∨ D.k = 6))) ∧ Below W.heap.size W w' := fun W => policy_any D OA n1 c1 NB m1 d1 W
  have bp := hR.bp
  have HX := hid hX
  have HG := hid hg
  have HR := hid hR
  rw [hE] at cE
  have HE := hid hE
  generalize hRR : applyF (Xs.map FlV.D) D = RR
  have HRR := hid hRR
  clear hX hg hR hE hRR b1 b2
  go_enter Try.func14, Try.ntmps14
  go_upto_region 1 with (fail)
  generalize ((w.alloc (.cells #[.slice A n c] 27)).alloc (.cells (opC D OA n1 c1 NB m1 d1) 40)).alloc (.cells #[.slice none 0 0] 27) = W0 at *
  have hb := Below.refl W0.heap.size W0
  have HNE := hid h0
  go_wp2_with (first
    | (with_reducible refine wpList_load_opx (by with_unfolding_all rfl) _ rfl _ rfl (hx.below hb) KK ?_)
    | (with_reducible refine wpList_load_tree (by with_unfolding_all rfl) _ rfl _ rfl (h2.below hb) ?_)
    | (go_at_call 20; (with_reducible refine (cE _ (b3.trans (hb.mono b3.size))).mono ?_); rintro e1 w1 ⟨rfl, hb1⟩; replace hb := hb.trans (hb1.mono hb.size); clear hb1)
    | (go_at_call 21; (with_reducible refine (cP _).mono ?_); rintro e2 w2 ⟨rfl, hb1⟩; replace hb := hb.trans (hb1.mono hb.size); clear hb1)
    | (with_reducible refine wpList_store_blk rfl 27 _ _ rfl (w.heap.size + 1 + 1) _ #[.slice none 0 0] 27 (hz.below hb) rfl rfl ?c2 ?c3 ?c4 ?_))
  case c2 => kernel_rfl
  case c3 => rfl
  case c4 => simp [Value.oneCell']
  intro W9 hb9 hg9
  go_wp2
  refine bodyPost_ret (results_cellt rfl _ _ _ _ _ _ rfl hb9 Try.underlying27 rfl (by kernel_rfl)) rfl ?_
  have hs3 := b3.size
  have hb7 := below_of_gb hg9 (show w.heap.size ≤ w.heap.size + 1 + 1 by omega) (Nat.le_trans hs3 hb.size)
  exact .inr ⟨r, rfl, by rw [← HRR.out]; unfold applyF; rw [if_neg (by rw [HE.out]; exact HNE.out), HE.out], HNE.out, (b3.trans (hb.mono b3.size)).trans hb7⟩


set_option maxRecDepth 100000 in
set_option maxHeartbeats 40000000 in
theorem tap_policy (A : Option Addr) (n c : Nat) (Xs : List FlV) (D : OpD) (OA : Option Addr) (n1 c1 : Nat) (NB : Option Addr) (m1 d1 : Nat) (w : World) (hX : TrS w A n c Xs) (hg : GoodF (Xs.map FlV.D)) (hR : OpR w D OA n1 NB m1) (hE : opE D = 0) (h5 : 4 < D.k) :
    Calls Try.prog 14 #[.agg #[.slice A n c], .agg (opC D OA n1 c1 NB m1 d1)] w fun e w' => TrR w w' (applyF (Xs.map FlV.D) D) e := by
  have hn200 := hg.bn hX.rw_
  have KK := hR.hK
  have b1 := (Below.refl w.heap.size w).alloc (Nat.le_refl _) (.cells #[.slice A n c] 27)
  have b2 := b1.alloc b1.size (.cells (opC D OA n1 c1 NB m1 d1) 40)
  have b3 := b2.alloc b2.size (.cells #[.slice none 0 0] 27)
  have h2 := ((Blk.new w 27 #[.slice A n c]).alloc (.cells (opC D OA n1 c1 NB m1 d1) 40)).alloc (.cells #[.slice none 0 0] 27)
  have hx := (OpX.new (w.alloc (.cells #[.slice A n c] 27)) D OA n1 c1 NB m1 d1).alloc (.cells #[.slice none 0 0] 27)
  have hz := Blk.new ((w.alloc (.cells #[.slice A n c] 27)).alloc (.cells (opC D OA n1 c1 NB m1 d1) 40)) 27 #[.slice none 0 0]
  rw [World.size_alloc] at hx
  rw [World.size_alloc, World.size_alloc] at hz
  have cE : ∀ W, Below w.heap.size w W → Calls Try.prog 20 #[.agg (opC D OA n1 c1 NB m1 d1)] W fun e w' => e = .returned (.int .i64 (opE D)) ∧ Below W.heap.size W w' := fun W h =>
    oright_any D KK OA n1 c1 hR.lo (by have := hR.bn; omega) NB m1 d1 hR.ln (by have := hR.bm; omega) W (hR.rA.below h) (hR.rB.below h)
  have cP : ∀ W, Calls Try.prog 21 #[.agg (opC D OA n1 c1 NB m1 d1)] W fun e w' => e = .returned (.bool (decide (D.k = 5 ∨ D.k = 6))) ∧ Below W.heap.size W w' := fun W => policy_any D OA n1 c1 NB m1 d1 W
  have bp := hR.bp
  have HX := hid hX
  have HG := hid hg
  have HR := hid hR
  have hk6 := (formed_of hE).1.2
  rw [decide_eq_true (by omega)] at cP
  rw [hE] at cE
  have HE := hid hE
  generalize hRR : applyF (Xs.map FlV.D) D = RR
  have HRR := hid hRR
  clear hX hg hR hE hRR b1 b2
  go_enter Try.func14, Try.ntmps14
  go_upto_region 1 with (fail)
  generalize ((w.alloc (.cells #[.slice A n c] 27)).alloc (.cells (opC D OA n1 c1 NB m1 d1) 40)).alloc (.cells #[.slice none 0 0] 27) = W0 at *
  have hb := Below.refl W0.heap.size W0
  have H5 := hid h5
  clear h5
  go_wp2_with (first
    | (with_reducible refine wpList_load_opx (by with_unfolding_all rfl) _ rfl _ rfl (hx.below hb) KK ?_)
    | (with_reducible refine wpList_load_tree (by with_unfolding_all rfl) _ rfl _ rfl (h2.below hb) ?_)
    | (go_at_call 20; (with_reducible refine (cE _ (b3.trans (hb.mono b3.size))).mono ?_); rintro e1 w1 ⟨rfl, hb1⟩; replace hb := hb.trans (hb1.mono hb.size); clear hb1)
    | (go_at_call 21; (with_reducible refine (cP _).mono ?_); rintro e2 w2 ⟨rfl, hb1⟩; replace hb := hb.trans (hb1.mono hb.size); clear hb1)
    | (with_reducible refine wpList_store_blk rfl 27 _ _ rfl (w.heap.size + 1 + 1) _ #[.slice A n c] 27 (hz.below hb) rfl rfl ?c2 ?c3 ?c4 ?_))
  case c2 => kernel_rfl
  case c3 => rfl
  case c4 => simp [Value.oneCell']
  intro W9 hb9 hg9
  go_wp2
  refine bodyPost_ret (results_cellt rfl _ _ _ _ _ _ rfl hb9 Try.underlying27 rfl (by kernel_rfl)) rfl ?_
  have hs3 := b3.size
  have hb7 := below_of_gb hg9 (show w.heap.size ≤ w.heap.size + 1 + 1 by omega) (Nat.le_trans hs3 hb.size)
  refine .inl ⟨Xs, A, n, c, rfl, ?_, ((HX.out.below b3).below hb).zs (hz.below hb) hg9, (b3.trans (hb.mono b3.size)).trans hb7⟩
  rw [← HRR.out]
  unfold applyF
  rw [if_pos HE.out, if_pos H5.out]


set_option maxRecDepth 100000 in
set_option maxHeartbeats 40000000 in
theorem tap_create (A : Option Addr) (n c : Nat) (Xs : List FlV) (D : OpD) (OA : Option Addr) (n1 c1 : Nat) (NB : Option Addr) (m1 d1 : Nat) (w : World) (hX : TrS w A n c Xs) (hg : GoodF (Xs.map FlV.D)) (hR : OpR w D OA n1 NB m1) (hE : opE D = 0) (hk : D.k = 1) :
    Calls Try.prog 14 #[.agg #[.slice A n c], .agg (opC D OA n1 c1 NB m1 d1)] w fun e w' => TrR w w' (applyF (Xs.map FlV.D) D) e := by
  have hn200 := hg.bn hX.rw_
  have KK := hR.hK
  have b1 := (Below.refl w.heap.size w).alloc (Nat.le_refl _) (.cells #[.slice A n c] 27)
  have b2 := b1.alloc b1.size (.cells (opC D OA n1 c1 NB m1 d1) 40)
  have b3 := b2.alloc b2.size (.cells #[.slice none 0 0] 27)
  have h2 := ((Blk.new w 27 #[.slice A n c]).alloc (.cells (opC D OA n1 c1 NB m1 d1) 40)).alloc (.cells #[.slice none 0 0] 27)
  have hx := (OpX.new (w.alloc (.cells #[.slice A n c] 27)) D OA n1 c1 NB m1 d1).alloc (.cells #[.slice none 0 0] 27)
  have hz := Blk.new ((w.alloc (.cells #[.slice A n c] 27)).alloc (.cells (opC D OA n1 c1 NB m1 d1) 40)) 27 #[.slice none 0 0]
  rw [World.size_alloc] at hx
  rw [World.size_alloc, World.size_alloc] at hz
  have cE : ∀ W, Below w.heap.size w W → Calls Try.prog 20 #[.agg (opC D OA n1 c1 NB m1 d1)] W fun e w' => e = .returned (.int .i64 (opE D)) ∧ Below W.heap.size W w' := fun W h =>
    oright_any D KK OA n1 c1 hR.lo (by have := hR.bn; omega) NB m1 d1 hR.ln (by have := hR.bm; omega) W (hR.rA.below h) (hR.rB.below h)
  have cP : ∀ W, Calls Try.prog 21 #[.agg (opC D OA n1 c1 NB m1 d1)] W fun e w' => e = .returned (.bool (decide (D.k = 5 ∨ D.k = 6))) ∧ Below W.heap.size W w' := fun W => policy_any D OA n1 c1 NB m1 d1 W
  have bp := hR.bp
  have HX := hid hX
  have HG := hid hg
  have HR := hid hR
  rw [hE] at cE
  have HE := hid hE
  generalize hRR : applyF (Xs.map FlV.D) D = RR
  have HRR := hid hRR
  have hpR : pathR D.p = true := by
    have hf := (formed_of HE.out).2
    unfold formedR at hf
    rw [if_neg (by omega), if_neg (by omega), if_neg (by omega), Bool.and_eq_true] at hf
    exact hf.1
  have HPR := hid hpR
  clear hpR
  have HK := hid hk
  rw [decide_eq_false (by omega)] at cP
  have q0 := hx.c0; rw [hk] at q0
  have q1 := hx.c1
  have q2 := hx.c2
  have q4 := hx.c4
  clear hk
  clear hX hg hR hE hRR b1 b2
  go_enter Try.func14, Try.ntmps14
  go_upto_region 1 with (fail)
  generalize ((w.alloc (.cells #[.slice A n c] 27)).alloc (.cells (opC D OA n1 c1 NB m1 d1) 40)).alloc (.cells #[.slice none 0 0] 27) = W0 at *
  have hb := Below.refl W0.heap.size W0
  go_wp2_with (first
    | (with_reducible refine wpList_load_opx (by with_unfolding_all rfl) _ rfl _ rfl (hx.below hb) KK ?_)
    | (with_reducible refine wpList_load_tree (by with_unfolding_all rfl) _ rfl _ rfl (h2.below hb) ?_)
    | (go_at_call 20; (with_reducible refine (cE _ (b3.trans (hb.mono b3.size))).mono ?_); rintro e1 w1 ⟨rfl, hb1⟩; replace hb := hb.trans (hb1.mono hb.size); clear hb1; replace q0 := (hx.below hb).c0; rw [HK.out] at q0; replace q1 := (hx.below hb).c1; replace q2 := (hx.below hb).c2; replace q4 := (hx.below hb).c4)
    | (go_at_call 21; (with_reducible refine (cP _).mono ?_); rintro e2 w2 ⟨rfl, hb1⟩; replace hb := hb.trans (hb1.mono hb.size); clear hb1; replace q0 := (hx.below hb).c0; rw [HK.out] at q0; replace q1 := (hx.below hb).c1; replace q2 := (hx.below hb).c2; replace q4 := (hx.below hb).c4)
    | (go_at_call 22; (with_reducible refine (tcreated_any A n c Xs D.p _ ((HX.out.below b3).below hb) HG.out HPR.out).mono ?_); rintro e4 w4 h4; obtain ⟨A9, n9, c9, k9, rfl, hV, hb1⟩ := h4.shape; have hzc := (hz.below hb).below hb1; replace hb := hb.trans (hb1.mono hb.size); clear hb1 h4)
    | (with_reducible refine wpList_store_blk rfl 27 _ _ rfl (w.heap.size + 1 + 1) _ #[.slice A9 n9 c9] 27 hzc rfl rfl ?c2 ?c3 ?c4 ?_))
  case c2 => kernel_rfl
  case c3 => rfl
  case c4 => simp [Value.oneCell']
  intro W9 hb9 hg9
  go_wp2
  refine bodyPost_ret (results_cellt rfl _ _ _ _ _ _ rfl hb9 Try.underlying27 rfl (by kernel_rfl)) rfl ?_
  have hs3 := b3.size
  have hb7 := below_of_gb hg9 (show w.heap.size ≤ w.heap.size + 1 + 1 by omega) (Nat.le_trans hs3 hb.size)
  refine (hV.zs hzc hg9).of ((b3.trans (hb.mono b3.size)).trans hb7) |> fun h => ?_
  have e : (if roomV (Xs.map FlV.D) D.p = 0 then (if 200 ≤ (Xs.map FlV.D).length then Except.error (14 : Int) else .ok (putD (Xs.map FlV.D) (D.p, []))) else .error (roomV (Xs.map FlV.D) D.p)) = RR := by
    rw [← HRR.out]
    unfold applyF
    rw [if_pos HE.out, if_neg (show ¬ 4 < D.k by rw [HK.out]; decide), if_pos HK.out]
  rw [e] at h
  exact h


set_option maxRecDepth 100000 in
set_option maxHeartbeats 40000000 in
theorem tap_remove (A : Option Addr) (n c : Nat) (Xs : List FlV) (D : OpD) (OA : Option Addr) (n1 c1 : Nat) (NB : Option Addr) (m1 d1 : Nat) (w : World) (hX : TrS w A n c Xs) (hg : GoodF (Xs.map FlV.D)) (hR : OpR w D OA n1 NB m1) (hE : opE D = 0) (hk : D.k = 2) :
    Calls Try.prog 14 #[.agg #[.slice A n c], .agg (opC D OA n1 c1 NB m1 d1)] w fun e w' => TrR w w' (applyF (Xs.map FlV.D) D) e := by
  have hn200 := hg.bn hX.rw_
  have KK := hR.hK
  have b1 := (Below.refl w.heap.size w).alloc (Nat.le_refl _) (.cells #[.slice A n c] 27)
  have b2 := b1.alloc b1.size (.cells (opC D OA n1 c1 NB m1 d1) 40)
  have b3 := b2.alloc b2.size (.cells #[.slice none 0 0] 27)
  have h2 := ((Blk.new w 27 #[.slice A n c]).alloc (.cells (opC D OA n1 c1 NB m1 d1) 40)).alloc (.cells #[.slice none 0 0] 27)
  have hx := (OpX.new (w.alloc (.cells #[.slice A n c] 27)) D OA n1 c1 NB m1 d1).alloc (.cells #[.slice none 0 0] 27)
  have hz := Blk.new ((w.alloc (.cells #[.slice A n c] 27)).alloc (.cells (opC D OA n1 c1 NB m1 d1) 40)) 27 #[.slice none 0 0]
  rw [World.size_alloc] at hx
  rw [World.size_alloc, World.size_alloc] at hz
  have cE : ∀ W, Below w.heap.size w W → Calls Try.prog 20 #[.agg (opC D OA n1 c1 NB m1 d1)] W fun e w' => e = .returned (.int .i64 (opE D)) ∧ Below W.heap.size W w' := fun W h =>
    oright_any D KK OA n1 c1 hR.lo (by have := hR.bn; omega) NB m1 d1 hR.ln (by have := hR.bm; omega) W (hR.rA.below h) (hR.rB.below h)
  have cP : ∀ W, Calls Try.prog 21 #[.agg (opC D OA n1 c1 NB m1 d1)] W fun e w' => e = .returned (.bool (decide (D.k = 5 ∨ D.k = 6))) ∧ Below W.heap.size W w' := fun W => policy_any D OA n1 c1 NB m1 d1 W
  have bp := hR.bp
  have HX := hid hX
  have HG := hid hg
  have HR := hid hR
  rw [hE] at cE
  have HE := hid hE
  generalize hRR : applyF (Xs.map FlV.D) D = RR
  have HRR := hid hRR
  have HK := hid hk
  rw [decide_eq_false (by omega)] at cP
  have q0 := hx.c0; rw [hk] at q0
  have q1 := hx.c1
  have q2 := hx.c2
  have q4 := hx.c4
  clear hk
  clear hX hg hR hE hRR b1 b2
  go_enter Try.func14, Try.ntmps14
  go_upto_region 1 with (fail)
  generalize ((w.alloc (.cells #[.slice A n c] 27)).alloc (.cells (opC D OA n1 c1 NB m1 d1) 40)).alloc (.cells #[.slice none 0 0] 27) = W0 at *
  have hb := Below.refl W0.heap.size W0
  go_upto_region 9 with (first
    | (with_reducible refine wpList_load_opx (by with_unfolding_all rfl) _ rfl _ rfl (hx.below hb) KK ?_)
    | (with_reducible refine wpList_load_tree (by with_unfolding_all rfl) _ rfl _ rfl (h2.below hb) ?_)
    | (go_at_call 20; (with_reducible refine (cE _ (b3.trans (hb.mono b3.size))).mono ?_); rintro e1 w1 ⟨rfl, hb1⟩; replace hb := hb.trans (hb1.mono hb.size); clear hb1; replace q0 := (hx.below hb).c0; rw [HK.out] at q0; replace q1 := (hx.below hb).c1; replace q2 := (hx.below hb).c2; replace q4 := (hx.below hb).c4)
    | (go_at_call 21; (with_reducible refine (cP _).mono ?_); rintro e2 w2 ⟨rfl, hb1⟩; replace hb := hb.trans (hb1.mono hb.size); clear hb1; replace q0 := (hx.below hb).c0; rw [HK.out] at q0; replace q1 := (hx.below hb).c1; replace q2 := (hx.below hb).c2; replace q4 := (hx.below hb).c4)
    | (go_at_call 18; (with_reducible refine (tfind_any A n c Xs D.p _ HX.out.rw_.ln (by omega) ((HX.out.below b3).below hb).rw_.rd HG.out.s).mono ?_); rintro e3 w3 ⟨p, rfl, hp, hb1⟩; replace hp := hid hp; replace hb := hb.trans (hb1.mono hb.size); clear hb1; replace q0 := (hx.below hb).c0; rw [HK.out] at q0; replace q1 := (hx.below hb).c1; replace q2 := (hx.below hb).c2; replace q4 := (hx.below hb).c4))
  cases hh : hitB Xs D.p p with
  | false =>
    have HN := hid (hit_no HG.out.s hp.out hh)
    clear hh
    go_wp2_with (first
    | (with_reducible refine wpList_load_opx (by with_unfolding_all rfl) _ rfl _ rfl (hx.below hb) KK ?_)
    | (with_reducible refine wpList_load_tree (by with_unfolding_all rfl) _ rfl _ rfl (h2.below hb) ?_)
    | (go_at_call 20; (with_reducible refine (cE _ (b3.trans (hb.mono b3.size))).mono ?_); rintro e1 w1 ⟨rfl, hb1⟩; replace hb := hb.trans (hb1.mono hb.size); clear hb1; replace q0 := (hx.below hb).c0; rw [HK.out] at q0; replace q1 := (hx.below hb).c1; replace q2 := (hx.below hb).c2; replace q4 := (hx.below hb).c4)
    | (go_at_call 21; (with_reducible refine (cP _).mono ?_); rintro e2 w2 ⟨rfl, hb1⟩; replace hb := hb.trans (hb1.mono hb.size); clear hb1; replace q0 := (hx.below hb).c0; rw [HK.out] at q0; replace q1 := (hx.below hb).c1; replace q2 := (hx.below hb).c2; replace q4 := (hx.below hb).c4)
    | (with_reducible refine wpList_store_blk rfl 27 _ _ rfl (w.heap.size + 1 + 1) _ #[.slice none 0 0] 27 (hz.below hb) rfl rfl ?c2 ?c3 ?c4 ?_))
    case c2 => kernel_rfl
    case c3 => rfl
    case c4 => simp [Value.oneCell']
    intro W9 hb9 hg9
    go_wp2
    refine bodyPost_ret (results_cellt rfl _ _ _ _ _ _ rfl hb9 Try.underlying27 rfl (by kernel_rfl)) rfl ?_
    have hs3 := b3.size
    have hb7 := below_of_gb hg9 (show w.heap.size ≤ w.heap.size + 1 + 1 by omega) (Nat.le_trans hs3 hb.size)
    refine .inr ⟨6, rfl, ?_, by decide, (b3.trans (hb.mono b3.size)).trans hb7⟩
    rw [← HRR.out]
    unfold applyF
    rw [if_pos HE.out, if_neg (by rw [HK.out]; decide), if_neg (by rw [HK.out]; decide), if_pos (by rw [HN.out]; decide)]
  | true =>
    obtain ⟨X, hX1, hX2, hX3⟩ := hit_at HG.out.s hp.out hh
    have HX1 := hid hX1
    have HX2 := hid hX2
    have HX3 := hid hX3
    clear hh hX1 hX2 hX3
    go_wp2_with (first
    | (with_reducible refine wpList_load_opx (by with_unfolding_all rfl) _ rfl _ rfl (hx.below hb) KK ?_)
    | (with_reducible refine wpList_load_tree (by with_unfolding_all rfl) _ rfl _ rfl (h2.below hb) ?_)
    | (go_at_call 20; (with_reducible refine (cE _ (b3.trans (hb.mono b3.size))).mono ?_); rintro e1 w1 ⟨rfl, hb1⟩; replace hb := hb.trans (hb1.mono hb.size); clear hb1; replace q0 := (hx.below hb).c0; rw [HK.out] at q0; replace q1 := (hx.below hb).c1; replace q2 := (hx.below hb).c2; replace q4 := (hx.below hb).c4)
    | (go_at_call 21; (with_reducible refine (cP _).mono ?_); rintro e2 w2 ⟨rfl, hb1⟩; replace hb := hb.trans (hb1.mono hb.size); clear hb1; replace q0 := (hx.below hb).c0; rw [HK.out] at q0; replace q1 := (hx.below hb).c1; replace q2 := (hx.below hb).c2; replace q4 := (hx.below hb).c4)
    | (go_at_call 23; (with_reducible refine (tremoved_any A n c Xs p X OA n1 c1 D.o _ ((HX.out.below b3).below hb) HG.out HX1.out HR.out.lo (by have := HR.out.bn; omega) (HR.out.rA.below (b3.trans (hb.mono b3.size)))).mono ?_); rintro e4 w4 h4; obtain ⟨A9, n9, c9, k9, rfl, hV, hb1⟩ := h4.shape; have hzc := (hz.below hb).below hb1; replace hb := hb.trans (hb1.mono hb.size); clear hb1 h4)
    | (with_reducible refine wpList_store_blk rfl 27 _ _ rfl (w.heap.size + 1 + 1) _ #[.slice A9 n9 c9] 27 hzc rfl rfl ?c2 ?c3 ?c4 ?_))
    case c2 => kernel_rfl
    case c3 => rfl
    case c4 => simp [Value.oneCell']
    intro W9 hb9 hg9
    go_wp2
    refine bodyPost_ret (results_cellt rfl _ _ _ _ _ _ rfl hb9 Try.underlying27 rfl (by kernel_rfl)) rfl ?_
    have hs3 := b3.size
    have hb7 := below_of_gb hg9 (show w.heap.size ≤ w.heap.size + 1 + 1 by omega) (Nat.le_trans hs3 hb.size)
    refine (hV.zs hzc hg9).of ((b3.trans (hb.mono b3.size)).trans hb7) |> fun h => ?_
    have e : (if X.l = D.o then Except.ok ((Xs.map FlV.D).eraseIdx p) else Except.error (12 : Int)) = RR := by
      rw [← HRR.out]
      unfold applyF
      have hxd : (Xs.map FlV.D)[p]? = some X.D := by rw [List.getElem?_map, HX1.out]; rfl
      rw [if_pos HE.out, if_neg (show ¬ 4 < D.k by rw [HK.out]; decide), if_neg (show ¬ D.k = 1 by rw [HK.out]; decide), if_neg (show ¬ atV (Xs.map FlV.D) D.p < 0 by rw [HX3.out]; omega), HX3.out, Int.toNat_natCast, hxd]
      simp only []
      rw [if_pos HK.out]
      rfl
    rw [e] at h
    exact h


set_option maxRecDepth 100000 in
set_option maxHeartbeats 40000000 in
theorem tap_move (A : Option Addr) (n c : Nat) (Xs : List FlV) (D : OpD) (OA : Option Addr) (n1 c1 : Nat) (NB : Option Addr) (m1 d1 : Nat) (w : World) (hX : TrS w A n c Xs) (hg : GoodF (Xs.map FlV.D)) (hR : OpR w D OA n1 NB m1) (hE : opE D = 0) (hk : D.k = 4) :
    Calls Try.prog 14 #[.agg #[.slice A n c], .agg (opC D OA n1 c1 NB m1 d1)] w fun e w' => TrR w w' (applyF (Xs.map FlV.D) D) e := by
  have hn200 := hg.bn hX.rw_
  have KK := hR.hK
  have b1 := (Below.refl w.heap.size w).alloc (Nat.le_refl _) (.cells #[.slice A n c] 27)
  have b2 := b1.alloc b1.size (.cells (opC D OA n1 c1 NB m1 d1) 40)
  have b3 := b2.alloc b2.size (.cells #[.slice none 0 0] 27)
  have h2 := ((Blk.new w 27 #[.slice A n c]).alloc (.cells (opC D OA n1 c1 NB m1 d1) 40)).alloc (.cells #[.slice none 0 0] 27)
  have hx := (OpX.new (w.alloc (.cells #[.slice A n c] 27)) D OA n1 c1 NB m1 d1).alloc (.cells #[.slice none 0 0] 27)
  have hz := Blk.new ((w.alloc (.cells #[.slice A n c] 27)).alloc (.cells (opC D OA n1 c1 NB m1 d1) 40)) 27 #[.slice none 0 0]
  rw [World.size_alloc] at hx
  rw [World.size_alloc, World.size_alloc] at hz
  have cE : ∀ W, Below w.heap.size w W → Calls Try.prog 20 #[.agg (opC D OA n1 c1 NB m1 d1)] W fun e w' => e = .returned (.int .i64 (opE D)) ∧ Below W.heap.size W w' := fun W h =>
    oright_any D KK OA n1 c1 hR.lo (by have := hR.bn; omega) NB m1 d1 hR.ln (by have := hR.bm; omega) W (hR.rA.below h) (hR.rB.below h)
  have cP : ∀ W, Calls Try.prog 21 #[.agg (opC D OA n1 c1 NB m1 d1)] W fun e w' => e = .returned (.bool (decide (D.k = 5 ∨ D.k = 6))) ∧ Below W.heap.size W w' := fun W => policy_any D OA n1 c1 NB m1 d1 W
  have bp := hR.bp
  have HX := hid hX
  have HG := hid hg
  have HR := hid hR
  rw [hE] at cE
  have HE := hid hE
  generalize hRR : applyF (Xs.map FlV.D) D = RR
  have HRR := hid hRR
  have htR : pathR D.t = true := by
    have hf := (formed_of HE.out).2
    unfold formedR at hf
    rw [if_neg (by omega), if_pos hk] at hf
    simp only [Bool.and_eq_true, decide_eq_true_eq] at hf
    exact hf.2.1
  have HTR := hid htR
  clear htR
  have HK := hid hk
  rw [decide_eq_false (by omega)] at cP
  have q0 := hx.c0; rw [hk] at q0
  have q1 := hx.c1
  have q2 := hx.c2
  have q4 := hx.c4
  clear hk
  clear hX hg hR hE hRR b1 b2
  go_enter Try.func14, Try.ntmps14
  go_upto_region 1 with (fail)
  generalize ((w.alloc (.cells #[.slice A n c] 27)).alloc (.cells (opC D OA n1 c1 NB m1 d1) 40)).alloc (.cells #[.slice none 0 0] 27) = W0 at *
  have hb := Below.refl W0.heap.size W0
  go_upto_region 9 with (first
    | (with_reducible refine wpList_load_opx (by with_unfolding_all rfl) _ rfl _ rfl (hx.below hb) KK ?_)
    | (with_reducible refine wpList_load_tree (by with_unfolding_all rfl) _ rfl _ rfl (h2.below hb) ?_)
    | (go_at_call 20; (with_reducible refine (cE _ (b3.trans (hb.mono b3.size))).mono ?_); rintro e1 w1 ⟨rfl, hb1⟩; replace hb := hb.trans (hb1.mono hb.size); clear hb1; replace q0 := (hx.below hb).c0; rw [HK.out] at q0; replace q1 := (hx.below hb).c1; replace q2 := (hx.below hb).c2; replace q4 := (hx.below hb).c4)
    | (go_at_call 21; (with_reducible refine (cP _).mono ?_); rintro e2 w2 ⟨rfl, hb1⟩; replace hb := hb.trans (hb1.mono hb.size); clear hb1; replace q0 := (hx.below hb).c0; rw [HK.out] at q0; replace q1 := (hx.below hb).c1; replace q2 := (hx.below hb).c2; replace q4 := (hx.below hb).c4)
    | (go_at_call 18; (with_reducible refine (tfind_any A n c Xs D.p _ HX.out.rw_.ln (by omega) ((HX.out.below b3).below hb).rw_.rd HG.out.s).mono ?_); rintro e3 w3 ⟨p, rfl, hp, hb1⟩; replace hp := hid hp; replace hb := hb.trans (hb1.mono hb.size); clear hb1; replace q0 := (hx.below hb).c0; rw [HK.out] at q0; replace q1 := (hx.below hb).c1; replace q2 := (hx.below hb).c2; replace q4 := (hx.below hb).c4))
  cases hh : hitB Xs D.p p with
  | false =>
    have HN := hid (hit_no HG.out.s hp.out hh)
    clear hh
    go_wp2_with (first
    | (with_reducible refine wpList_load_opx (by with_unfolding_all rfl) _ rfl _ rfl (hx.below hb) KK ?_)
    | (with_reducible refine wpList_load_tree (by with_unfolding_all rfl) _ rfl _ rfl (h2.below hb) ?_)
    | (go_at_call 20; (with_reducible refine (cE _ (b3.trans (hb.mono b3.size))).mono ?_); rintro e1 w1 ⟨rfl, hb1⟩; replace hb := hb.trans (hb1.mono hb.size); clear hb1; replace q0 := (hx.below hb).c0; rw [HK.out] at q0; replace q1 := (hx.below hb).c1; replace q2 := (hx.below hb).c2; replace q4 := (hx.below hb).c4)
    | (go_at_call 21; (with_reducible refine (cP _).mono ?_); rintro e2 w2 ⟨rfl, hb1⟩; replace hb := hb.trans (hb1.mono hb.size); clear hb1; replace q0 := (hx.below hb).c0; rw [HK.out] at q0; replace q1 := (hx.below hb).c1; replace q2 := (hx.below hb).c2; replace q4 := (hx.below hb).c4)
    | (with_reducible refine wpList_store_blk rfl 27 _ _ rfl (w.heap.size + 1 + 1) _ #[.slice none 0 0] 27 (hz.below hb) rfl rfl ?c2 ?c3 ?c4 ?_))
    case c2 => kernel_rfl
    case c3 => rfl
    case c4 => simp [Value.oneCell']
    intro W9 hb9 hg9
    go_wp2
    refine bodyPost_ret (results_cellt rfl _ _ _ _ _ _ rfl hb9 Try.underlying27 rfl (by kernel_rfl)) rfl ?_
    have hs3 := b3.size
    have hb7 := below_of_gb hg9 (show w.heap.size ≤ w.heap.size + 1 + 1 by omega) (Nat.le_trans hs3 hb.size)
    refine .inr ⟨6, rfl, ?_, by decide, (b3.trans (hb.mono b3.size)).trans hb7⟩
    rw [← HRR.out]
    unfold applyF
    rw [if_pos HE.out, if_neg (by rw [HK.out]; decide), if_neg (by rw [HK.out]; decide), if_pos (by rw [HN.out]; decide)]
  | true =>
    obtain ⟨X, hX1, hX2, hX3⟩ := hit_at HG.out.s hp.out hh
    have HX1 := hid hX1
    have HX2 := hid hX2
    have HX3 := hid hX3
    clear hh hX1 hX2 hX3
    go_wp2_with (first
    | (with_reducible refine wpList_load_opx (by with_unfolding_all rfl) _ rfl _ rfl (hx.below hb) KK ?_)
    | (with_reducible refine wpList_load_tree (by with_unfolding_all rfl) _ rfl _ rfl (h2.below hb) ?_)
    | (go_at_call 20; (with_reducible refine (cE _ (b3.trans (hb.mono b3.size))).mono ?_); rintro e1 w1 ⟨rfl, hb1⟩; replace hb := hb.trans (hb1.mono hb.size); clear hb1; replace q0 := (hx.below hb).c0; rw [HK.out] at q0; replace q1 := (hx.below hb).c1; replace q2 := (hx.below hb).c2; replace q4 := (hx.below hb).c4)
    | (go_at_call 21; (with_reducible refine (cP _).mono ?_); rintro e2 w2 ⟨rfl, hb1⟩; replace hb := hb.trans (hb1.mono hb.size); clear hb1; replace q0 := (hx.below hb).c0; rw [HK.out] at q0; replace q1 := (hx.below hb).c1; replace q2 := (hx.below hb).c2; replace q4 := (hx.below hb).c4)
    | (go_at_call 26; (with_reducible refine (tmoved_any A n c Xs p X D.t _ ((HX.out.below b3).below hb) HG.out HX1.out HTR.out).mono ?_); rintro e4 w4 h4; obtain ⟨A9, n9, c9, k9, rfl, hV, hb1⟩ := h4.shape; have hzc := (hz.below hb).below hb1; replace hb := hb.trans (hb1.mono hb.size); clear hb1 h4)
    | (with_reducible refine wpList_store_blk rfl 27 _ _ rfl (w.heap.size + 1 + 1) _ #[.slice A9 n9 c9] 27 hzc rfl rfl ?c2 ?c3 ?c4 ?_))
    case c2 => kernel_rfl
    case c3 => rfl
    case c4 => simp [Value.oneCell']
    intro W9 hb9 hg9
    go_wp2
    refine bodyPost_ret (results_cellt rfl _ _ _ _ _ _ rfl hb9 Try.underlying27 rfl (by kernel_rfl)) rfl ?_
    have hs3 := b3.size
    have hb7 := below_of_gb hg9 (show w.heap.size ≤ w.heap.size + 1 + 1 by omega) (Nat.le_trans hs3 hb.size)
    refine (hV.zs hzc hg9).of ((b3.trans (hb.mono b3.size)).trans hb7) |> fun h => ?_
    have e : (if roomV ((Xs.map FlV.D).eraseIdx p) D.t = 0 then Except.ok (putD ((Xs.map FlV.D).eraseIdx p) (D.t, X.l)) else Except.error (roomV ((Xs.map FlV.D).eraseIdx p) D.t)) = RR := by
      rw [← HRR.out]
      unfold applyF
      have hxd : (Xs.map FlV.D)[p]? = some X.D := by rw [List.getElem?_map, HX1.out]; rfl
      rw [if_pos HE.out, if_neg (show ¬ 4 < D.k by rw [HK.out]; decide), if_neg (show ¬ D.k = 1 by rw [HK.out]; decide), if_neg (show ¬ atV (Xs.map FlV.D) D.p < 0 by rw [HX3.out]; omega), HX3.out, Int.toNat_natCast, hxd]
      simp only []
      rw [if_neg (show ¬ D.k = 2 by rw [HK.out]; decide), if_neg (show ¬ D.k = 3 by rw [HK.out]; decide)]
      rfl
    rw [e] at h
    exact h

end Go.Proofs.Ytodfaakodgedbaa


/- grant's document: Apply; a grant is taken back. -/
import Derived.Test.YtapgiagpjplpdaaGreatRk10
set_option linter.unusedSimpArgs false
set_option linter.unusedVariables false
namespace Go.Proofs.YtapgiagpjplpdaaGreat
open Go.RowKit Go.Qc Go.Shelf
attribute [local go_sem] txt_size txt_append ib_fold txt_toL

theorem left_take {K p : List UInt8} {Xs : List GrD} {k : Nat} {X : GrD} (h : Xs[k]? = some X) : leftG K p (Xs.take (k + 1)) = leftG K p (Xs.take k) ++ (if (!(decide (X.k = K) && covB p X.p)) = true then [X] else []) := by
  unfold leftG
  rw [List.take_add_one, h, List.filter_append]
  congr 1
  show List.filter _ [X] = _
  rw [List.filter_cons, List.filter_nil]
theorem left_ok {K p : List UInt8} {Xs : List GrD} (h : ∀ X ∈ Xs, X.ok) (k : Nat) : ∀ X ∈ leftG K p (Xs.take k), X.ok := fun X hX => h X (List.mem_of_mem_take (List.mem_filter.1 hX).1)
/-- The state of a walk that puts grants into a table of its own; what is older stands in W0. -/
structure RvA (W0 : World) (b2 N3 : Nat) (root : List UInt8) (W : World) (v u : Value) (m : Nat) (Os : List GrD) : Prop where
  o : TbK W b2 root v
  own : RkOw W N3 u m Os
  b : Below b2 W0 W
  n0 : W0.heap.size = b2
  n2 : b2 < N3
  n3 : N3 ≤ W.heap.size
section
variable {W0 : World} {b2 N3 : Nat} {root : List UInt8} {W W' : World} {v u : Value} {m : Nat} {Os : List GrD}
theorem RvA.bl (h : RvA W0 b2 N3 root W v u m Os) : Below W0.heap.size W0 W := by rw [h.n0]; exact h.b
theorem RvA.le (h : RvA W0 b2 N3 root W v u m Os) : b2 ≤ W.heap.size := Nat.le_trans (Nat.le_of_lt h.n2) h.n3
theorem RvA.below (h : RvA W0 b2 N3 root W v u m Os) (hb : Below W.heap.size W W') : RvA W0 b2 N3 root W' v u m Os :=
  ⟨h.o.below hb, h.own.below hb, h.b.trans (hb.mono h.le), h.n0, h.n2, Nat.le_trans h.n3 hb.size⟩
theorem RvA.app (h : RvA W0 b2 N3 root W v u m Os) {u' : Value} {m' : Nat} {Os' : List GrD} (ho : RkOw W' N3 u' m' Os') (hg : W.grownBy W' u.ownBlock) : RvA W0 b2 N3 root W' v u' m' Os' :=
  ⟨⟨blk_rk h.o.b h.own hg h.n2⟩, ho, h.own.grown hg (Nat.le_of_lt h.n2) h.b h.le, h.n0, h.n2, Nat.le_trans h.n3 hg.size⟩
theorem RvA.gr (h : RvA W0 b2 N3 root W v u m Os) (hg : W.grownBy W' (some b2)) : Below b2 W0 W' := by
  have := below_grownS h.bl hg (by rw [h.n0]; exact Nat.le_refl _)
  rw [h.n0] at this
  exact this
theorem RvA.put (h : RvA W0 b2 N3 root W v u m Os) (ho : TbK W' b2 root u) (hg : W.grownBy W' (some b2)) : RvA W0 b2 N3 root W' u u m Os :=
  ⟨ho, h.own.kept_ hg h.n2, h.gr hg, h.n0, h.n2, Nat.le_trans h.n3 hg.size⟩
end
set_option maxRecDepth 100000 in
set_option maxHeartbeats 20000000 in
theorem rapply19_revoke (root : List UInt8) (hR : root.length = 32) (A : Option Addr) (n c : Nat) (Xs : List GrD) (hn : Xs.length = n) (bn : n ≤ 900) (hP : ∀ X ∈ Xs, X.p.length ≤ 1000000) (key : List UInt8) (hk : key.length = 32) (D : OpD) (hK : D.K.length = 32) (A' : Option Addr) (n' c' : Nat) (hlo : D.o.length = n') (bno : n' ≤ 1000000) (B' : Option Addr) (m' d' : Nat) (hln : D.n.length = m') (bmo : m' ≤ 1000000) (bp : D.p.length ≤ 1000000) (bt : D.t.length ≤ 1000000) (bo : ∀ x ∈ D.o, x.length ≤ 1000000000000) (bnn : ∀ x ∈ D.n, x.length ≤ 1000000000000) (w : World) (hr : GrRd w A Xs) (rA : Rd w A' (D.o.map strV)) (rB : Rd w B' (D.n.map strV)) (he : opE D = 0) (hk6 : D.k = 6) (hd : ¬ depV root Xs key D.p < 1) :
    Calls Tryz.prog 10 #[.agg (tbC root (.slice A n c)), .agg (idVals key), .agg (opC D A' n' c' B' m' d')] w (ApR root (applyD19 root Xs key D) w) := by
  have hu := Tryz.underlying23
  have hzk : (Tryz.prog.info? 23).map (·.size) = some (key.map u8v).length := by rw [List.length_map, hk]; exact sizeId
  have hzr : (Tryz.prog.info? 23).map (·.size) = some (root.map u8v).length := by rw [List.length_map, hR]; exact sizeId
  have hzd : (Tryz.prog.info? 23).map (·.size) = some (D.K.map u8v).length := by rw [List.length_map, hK]; exact sizeId
  have cR : ∀ W, Below w.heap.size w W → Calls Tryz.prog 28 #[.agg (opC D A' n' c' B' m' d')] W fun o w' => o = .returned (.int .i64 (opE D)) ∧ Below W.heap.size W w' := fun W h => rr13_any D hK A' n' c' hlo bno B' m' d' hln bmo bp bt bo bnn W (rA.below h) (rB.below h)
  have cD : ∀ W, GrRd W A Xs → Calls Tryz.prog 16 #[.agg (tbC root (.slice A n c)), .agg (List.map u8v key).toArray, .string (txt D.p)] W fun e w' => e = .returned (.int .i64 (depV root Xs key D.p)) ∧ Below W.heap.size W w' := fun W h => rdepth19_any root hR A n c Xs hn (by omega) hP key hk D.p bp W h
  have g0 : TbK (w.alloc (.cells (tbC root (.slice A n c)) 31)) w.heap.size root (.slice A n c) := ⟨Blk.new _ _ _⟩
  have hb0 := (Below.refl w.heap.size w).alloc (Nat.le_refl _) (.cells (tbC root (.slice A n c)) 31)
  have hs0 := World.size_alloc w (.cells (tbC root (.slice A n c)) 31)
  have HRD := hid hr
  have HN := hid hn
  have HP := hid hP
  obtain ⟨R, hRR⟩ : ∃ R, applyD19 root Xs key D = R := ⟨_, rfl⟩
  have HRR := hid hRR
  rw [hRR]
  clear hr hn hP hRR hlo bno hln bmo bt bo bnn rA rB
  have k1 : ¬ D.k < 5 := by omega
  have k2 : (D.k == 5) = false := by rw [hk6]; rfl
  obtain ⟨z, hz0⟩ : ∃ z, depV root Xs key D.p = z := ⟨_, rfl⟩
  rw [hz0] at cD
  have HR1 := hid (show R = (if (leftG D.K D.p Xs).length = Xs.length then (Xs, 6) else (iterH root Xs.length (leftG D.K D.p Xs), 0)) by
    rw [← HRR.out]; unfold applyD19; rw [if_neg (by rw [he]; decide), if_neg k1, if_neg (by omega), if_neg hd])
  rw [he] at cR
  rw [hz0] at hd
  have HOK := hid (HRD.out.1)
  clear HRR he hz0
  go_enter Tryz.func10, Tryz.ntmps10
  go_upto_region 1 with (fail)
  generalize w.alloc (.cells (tbC root (.slice A n c)) 31) = W1 at *
  have hx1 := (Below.refl W1.heap.size W1).alloc (Nat.le_refl _) (.cells (idVals key) 23)
  have hk1 := range_blk (Blk.new W1 23 (idVals key))
  rw [hs0] at hk1
  have hs1 := World.size_alloc W1 (.cells (idVals key) 23)
  have g1 := g0.below hx1
  have hb1 := hb0.trans (hx1.mono hb0.size)
  clear hx1 hb0 g0
  generalize W1.alloc (.cells (idVals key) 23) = W2 at *
  have hx2 := (Below.refl W2.heap.size W2).alloc (Nat.le_refl _) (.cells (opC D A' n' c' B' m' d') 34)
  have hk2 := hk1.below hx2
  have ho2 := OpX.new W2 D A' n' c' B' m' d'
  rw [hs1, hs0] at ho2
  have hs2 := World.size_alloc W2 (.cells (opC D A' n' c' B' m' d') 34)
  have g2 := g1.below hx2
  have hb2 := hb1.trans (hx2.mono hb1.size)
  clear hx2 hb1 g1 hk1
  generalize W2.alloc (.cells (opC D A' n' c' B' m' d') 34) = W3 at *
  generalize hZ : (Obj.cells _ 31) = Z
  obtain ⟨zc, rfl, hzc⟩ : ∃ zc : Array Value, Z = Obj.cells zc 31 ∧ zc.size = 33 := ⟨_, hZ.symm, rfl⟩
  clear hZ
  have hx3 := (Below.refl W3.heap.size W3).alloc (Nat.le_refl _) (.cells zc 31)
  have hz3 := Blk.new W3 31 zc
  rw [hs2, hs1, hs0] at hz3
  have HS := hid (ApS.mk (g2.below hx3) (hk2.below hx3) (ho2.below hx3) hz3 (hb2.trans (hx3.mono hb2.size)) (by rw [World.size_alloc, hs2, hs1, hs0]; omega) : ApS w zc root (.slice A n c) key D A' n' c' B' m' d' (W3.alloc (.cells zc 31)))
  clear hx3 hz3 hb2 g2 hk2 ho2 hs0 hs1 hs2
  generalize W3.alloc (.cells zc 31) = W4 at *
  have hox := HS.out.o
  have hbS := HS.out.b
  go_wp2_with (first
    | (with_reducible refine wpList_load_opx (by with_unfolding_all rfl) _ rfl _ rfl hox hK ?_)
    | (go_at_call 28; (with_reducible refine (cR _ hbS).mono ?_); rintro e2 w2 ⟨rfl, hb2⟩; replace HS := hid (HS.out.below hb2); have hT := HS.out.t; have hz := HS.out.z; have c0 := HS.out.o.c0; have c1 := HS.out.o.c1; have fk := HS.out.k; have hrd := HRD.out.below HS.out.b; clear hox)
    | (with_reducible refine wpList_load_if (by with_unfolding_all rfl) 23 _ rfl _ _ rfl (key.map u8v) _ fk hu rfl hzk ?_)
    | (go_at_call 16; (with_reducible refine (cD _ hrd).mono ?_); rintro e3 w3 ⟨rfl, hb3⟩; replace HS := hid (HS.out.below hb3); clear hT hz c0 c1 fk hrd hbS hb2; have fr := HS.out.t.key)
    | (with_reducible refine wpList_load_tb (by with_unfolding_all rfl) _ rfl w.heap.size root hR _ rfl hT ?_)
    | (with_reducible refine wpList_load_if (by with_unfolding_all rfl) 23 _ rfl _ _ rfl (root.map u8v) _ fr hu rfl hzr ?_)
    | (with_reducible refine wpList_build_tbk rfl _ rfl root hR (by with_unfolding_all rfl) ?_)
    | (with_reducible refine wpList_store_tbn rfl _ _ rfl root hR _ rfl rfl rfl (by with_unfolding_all rfl) ?_))
  clear fr
  have hal := (Below.refl w3.heap.size w3).alloc (Nat.le_refl _) (.cells (tbC root (.slice none 0 0)) 31)
  have hO3 : TbK (w3.alloc (.cells (tbC root (.slice none 0 0)) 31)) w3.heap.size root (.slice none 0 0) := ⟨Blk.new _ _ _⟩
  have hs3 := World.size_alloc w3 (.cells (tbC root (.slice none 0 0)) 31)
  have HS0 := HS
  clear HS
  obtain ⟨b2, hb2⟩ : ∃ b2, w3.heap.size = b2 := ⟨_, rfl⟩
  rw [hb2] at hal hO3 hs3 ⊢
  generalize w3.alloc (.cells (tbC root (.slice none 0 0)) 31) = w4 at *
  obtain ⟨N3, hN3⟩ : ∃ N3, w4.heap.size = N3 := ⟨_, rfl⟩
  have H0 := hid (RvA.mk hO3 (RkOw.none_ w4 N3) hal hb2 (by omega) (by omega) : RvA w3 b2 N3 root w4 (.slice none 0 0) (.slice none 0 0) 0 [])
  clear hal hO3 hs3 hN3 hb2
  go_loopw [12] (fun i wr => ∃ (k m : Nat) (v : Value), k ≤ n ∧ i = .int .i64 k ∧ m ≤ k ∧ Hid (RvA w3 b2 N3 root wr v v m (leftG D.K D.p (Xs.take k)))) (fun i _ => n - (intOf i).toNat)
  case atStart => exact ⟨0, 0, _, Nat.zero_le _, rfl, Nat.le_refl _, H0⟩
  case round =>
    clear H0
    obtain ⟨k, m, v, hk9, rfl, hm, HS⟩ := hrel
    have HA := hid (HS0.out.below HS.out.bl)
    have f32 := HA.out.t.row hR
    by_cases hlt : k < n
    · obtain ⟨X, hX⟩ : ∃ X, Xs[k]? = some X := ⟨_, List.getElem?_eq_getElem (by have := HN.out; omega)⟩
      obtain ⟨g, q, hg0, hXo, hix⟩ := HRD.out.pickR c HN.out hX
      have z1 : (k : Int) < n := by omega
      have HG := hid (hg0.below HS0.out.b)
      have hxp := HP.out X (List.mem_of_getElem? hX)
      have HT := hid (left_take (K := D.K) (p := D.p) hX)
      have cC : ∀ W, Calls Tryz.prog 17 #[.string (txt D.p), .string (txt X.p)] W fun e w' => e = .returned (.bool (covB D.p X.p)) ∧ Below W.heap.size W w' := fun W => (rcov19_any D.p X.p bp hxp W).mono (by rintro e w' ⟨rfl, rfl⟩; exact ⟨rfl, Below.refl _ _⟩)
      obtain ⟨cv, hcv⟩ : ∃ t, covB D.p X.p = t := ⟨_, rfl⟩
      obtain ⟨t, ht⟩ : ∃ t, decide (X.k = D.K) = t := ⟨_, rfl⟩
      have hge : ∀ W, (Op.equalIn 10000 23 (.agg (List.map u8v X.k).toArray) (.agg (List.map u8v D.K).toArray)).run Tryz.prog W = .ok t W := fun W => (ids_eq W X.k D.K hXo.1 hK).trans (by rw [ht])
      rw [hcv] at cC
      rw [hcv, ht] at HT
      have f1 : ∀ P : LaterW wr, P.w.cell? ⟨w.heap.size, 32, none⟩ = some (.slice A n c) := fun P => (HA.out.t.below P.h).row hR
      have f2 : ∀ P : LaterW wr, P.w.cell? ⟨g, q, none⟩ = some (.string (txt X.p)) := fun P => rkx_p ((HG.out.below HS.out.bl).below P.h)
      have f3 : ∀ P : LaterW wr, P.w.cell? ⟨w.heap.size + 1 + 1, 1, none⟩ = some (.string (txt D.p)) := fun P => (HA.out.o.below P.h).c1
      have fX := range_later (rkx_key (HG.out.below HS.out.bl))
      have fK := range_later HA.out.o.key
      have hzx : (Tryz.prog.info? 23).map (·.size) = some (X.k.map u8v).length := by rw [List.length_map, hXo.1]; exact sizeId
      have cP := fun P : LaterW wr => cC P.w
      have HLT := hid (show k + 1 ≤ n from hlt)
      have hug := Tryz.underlying52
      have hzg : (Tryz.prog.info? 52).map (·.size) = some X.cs.toList.length := by rw [Array.length_toList]; exact Rk_info X hXo
      have hms : m + 1 ≤ 1000 := by omega
      have HFK := hid (left_ok (K := D.K) (p := D.p) HOK.out k)
      clear hX hg0 hlt hxp cC hcv ht HA
      go_wp2_with (fail)
      cases t with
      | false =>
        refine wp_region_later mixed10 (by kernel_rfl) ?_
        repeat (first
          | ((with_reducible refine wpQuiet_load_if (by with_unfolding_all rfl) 23 _ rfl _ _ rfl (X.k.map u8v) _ fX hu (by with_unfolding_all rfl) hzx ?_); simp only [Act.put, List.setIfInBounds_toArray, List.set_cons_zero, List.set_cons_succ])
          | ((with_reducible refine wpQuiet_load_if (by with_unfolding_all rfl) 23 _ rfl _ _ rfl (D.K.map u8v) _ fK hu (by with_unfolding_all rfl) hzd ?_); simp only [Act.put, List.setIfInBounds_toArray, List.set_cons_zero, List.set_cons_succ])
          | ((with_reducible refine wpQuiet_step (fun K hK => ?_)); go_simp; first | ((with_reducible refine hK _ ?_); clear hK K) | (with_reducible apply Exists.intro; (with_reducible refine ⟨fun P => ?_, hK _ ?_⟩); ((go_at_call 17; exact later_of (cP P))); clear hK K)))
        with_reducible refine wpQuiet_nil ?_
        intro _ hw9
        obtain ⟨P9, rfl⟩ := hw9
        replace HS := hid (HS.out.below P9.h)
        generalize P9.w = w8 at *
        clear f32 f1 f2 f3 fX fK cP hge
        have HE := hid (show leftG D.K D.p (Xs.take (k + 1)) = leftG D.K D.p (Xs.take k) ++ [X] by rw [HT.out]; rfl)
        have HSd := hid (HS.out.below (below_drew10 w8))
        clear HS HT
        go_wp2_with (fail)
        refine wp_region_held_drew (S := fun W => W.rangeAt g q X.cs.toList ∧ W.cell? ⟨w.heap.size, 32, none⟩ = some (.slice A n c)) (by kernel_rfl) ?_ (fun hHeld => ?_)
        · exact ⟨HG.out.below HSd.out.bl, (HS0.out.below HSd.out.bl).t.row hR⟩
        refine' wpAnyH_take (i := 0) (v := .pointer (some ⟨b2, 32, none⟩)) rfl (by kernel_rfl) (by kernel_rfl) (by kernel_rfl) (fun _ _ _ h => h) (Or.inl ⟨by rfl, fun w' hw' => by go_simp⟩) hHeld ?_
        try simp only [Act.put, List.getElem_toArray, List.getElem_cons_succ, List.getElem_cons_zero, List.setIfInBounds_toArray, List.set_cons_zero, List.set_cons_succ]
        refine' wpAnyH_take (i := 2) (v := .pointer (some ⟨w.heap.size, 32, none⟩)) rfl (by kernel_rfl) (by kernel_rfl) (by kernel_rfl) (fun _ _ _ h => h) (Or.inl ⟨by rfl, fun w' hw' => by go_simp⟩) hHeld ?_
        try simp only [Act.put, List.getElem_toArray, List.getElem_cons_succ, List.getElem_cons_zero, List.setIfInBounds_toArray, List.set_cons_zero, List.set_cons_succ]
        refine' wpAnyH_take (i := 3) (v := .slice A n c) rfl (by kernel_rfl) (by kernel_rfl) (by kernel_rfl) (fun _ _ _ h => h) (Or.inl ⟨by rfl, fun w' hw' => by have hv := hw'.2; go_simp⟩) hHeld ?_
        try simp only [Act.put, List.getElem_toArray, List.getElem_cons_succ, List.getElem_cons_zero, List.setIfInBounds_toArray, List.set_cons_zero, List.set_cons_succ]
        refine' wpAnyH_take (i := 4) (v := .int .i64 k) rfl (by kernel_rfl) (by kernel_rfl) (by kernel_rfl) (fun _ _ _ h => h) (Or.inl ⟨by rfl, fun w' hw' => by go_simp⟩) hHeld ?_
        try simp only [Act.put, List.getElem_toArray, List.getElem_cons_succ, List.getElem_cons_zero, List.setIfInBounds_toArray, List.set_cons_zero, List.set_cons_succ]
        refine' wpAnyH_take (i := 5) (v := .pointer (some ⟨g, q, none⟩)) rfl (by kernel_rfl) (by kernel_rfl) (by kernel_rfl) (fun _ _ _ h => h) (Or.inl ⟨by rfl, fun w' hw' => by have hv := hix w'; go_simp⟩) hHeld ?_
        try simp only [Act.put, List.getElem_toArray, List.getElem_cons_succ, List.getElem_cons_zero, List.setIfInBounds_toArray, List.set_cons_zero, List.set_cons_succ]
        refine' wpAnyH_take (i := 6) (v := _) rfl (by kernel_rfl) (by kernel_rfl) (by kernel_rfl) (fun _ _ _ h => h) (yieldsIf_load_mid (by rfl) 52 _ rfl _ _ rfl X.cs.toList _ (fun w' h => h.1) hug rfl hzg) hHeld ?_
        try simp only [Act.put, List.getElem_toArray, List.getElem_cons_succ, List.getElem_cons_zero, List.setIfInBounds_toArray, List.set_cons_zero, List.set_cons_succ]
        simp only [Array.toArray_toList]
        refine wpAnyH_ready (rs := [1, 7]) (by kernel_rfl) (by simp) ?_
        refine AllReadyH.cons rfl (fun K hK => ?_) (AllReadyH.cons rfl (fun K hK => ?_) AllReadyH.nil)
        · have fA := HSd.out.o.row hR
          go_simp
          refine hK.out _ _ hHeld (fun hHeld => ?_)
          clear hK K fA
          try simp only [Act.put, List.getElem_toArray, List.getElem_cons_succ, List.getElem_cons_zero, List.setIfInBounds_toArray, List.set_cons_zero, List.set_cons_succ]
          refine wpAnyH_ready (rs := [7]) (by kernel_rfl) (by simp) ?_
          refine AllReadyH.cons rfl (fun K hK => ?_) AllReadyH.nil
          refine wp_build1k _ rfl X hXo rfl ?_
          intro cs hrow
          replace HSd := hid (HSd.out.below ((Below.refl w8.drew.heap.size w8.drew).alloc (Nat.le_refl _) (.cells cs 52)))
          refine hK.out _ _ ⟨HG.out.below HSd.out.bl, (HS0.out.below HSd.out.bl).t.row hR⟩ (fun hHeld => ?_)
          clear hK K
          try simp only [Act.put, List.getElem_toArray, List.getElem_cons_succ, List.getElem_cons_zero, List.setIfInBounds_toArray, List.set_cons_zero, List.set_cons_succ]
          refine wpAnyH_ready (rs := [8]) (by kernel_rfl) (by simp) ?_
          refine AllReadyH.cons rfl (fun K hK => ?_) AllReadyH.nil
          have hb9 := HSd.out.n3
          refine wp_append_rk _ _ rfl N3 _ _ _ rfl HSd.out.own _ 1 1 [X] rfl rfl (fun h => by cases h) hrow hms hb9 ?_
          intro v' w' hown' hg'
          replace HSd := hid (HSd.out.app hown' hg')
          obtain ⟨A9, c9, rfl, _, _, _, _⟩ := hown'.rd (fun Z hZ => (List.mem_append.1 hZ).elim (HFK.out Z) (fun h => by rw [List.mem_singleton.1 h]; exact hXo))
          clear hown' hg' hrow
          refine hK.out _ _ ⟨HG.out.below HSd.out.bl, (HS0.out.below HSd.out.bl).t.row hR⟩ (fun hHeld => ?_)
          clear hK K hb9
          try simp only [Act.put, List.getElem_toArray, List.getElem_cons_succ, List.getElem_cons_zero, List.setIfInBounds_toArray, List.set_cons_zero, List.set_cons_succ]
          refine' wpAnyH_take (i := 9) (v := .pointer (some ⟨b2, 32, none⟩)) rfl (by kernel_rfl) (by kernel_rfl) (by kernel_rfl) (fun _ _ _ h => h) (Or.inl ⟨by rfl, fun w' hw' => by go_simp⟩) hHeld ?_
          try simp only [Act.put, List.getElem_toArray, List.getElem_cons_succ, List.getElem_cons_zero, List.setIfInBounds_toArray, List.set_cons_zero, List.set_cons_succ]
          refine wpAnyH_ready (rs := [10]) (by kernel_rfl) (by simp) ?_
          refine AllReadyH.cons rfl (fun K hK => ?_) AllReadyH.nil
          refine wp_store_tbrow _ _ rfl b2 root hR v HSd.out.o A9 (m + 1) c9 rfl rfl ?_
          intro w10 ho10 hg10
          replace HSd := hid (HSd.out.put ho10 hg10)
          refine hK.out _ _ ⟨HG.out.below HSd.out.bl, (HS0.out.below HSd.out.bl).t.row hR⟩ (fun hHeld => ?_)
          clear hK K ho10 hg10
          try simp only [Act.put, List.getElem_toArray, List.getElem_cons_succ, List.getElem_cons_zero, List.setIfInBounds_toArray, List.set_cons_zero, List.set_cons_succ]
          refine wpAnyH_done (by kernel_rfl) ?_ _
          go_wp2
          go_roundw
          case rel => exact ⟨k + 1, m + 1, _, HLT.out, by go_num, by omega, by rw [HE.out]; exact HSd⟩
          case measure => exact meas_k1 HLT.out
        · refine wp_build1k _ rfl X hXo rfl ?_
          intro cs hrow
          replace HSd := hid (HSd.out.below ((Below.refl w8.drew.heap.size w8.drew).alloc (Nat.le_refl _) (.cells cs 52)))
          refine hK.out _ _ ⟨HG.out.below HSd.out.bl, (HS0.out.below HSd.out.bl).t.row hR⟩ (fun hHeld => ?_)
          clear hK K
          try simp only [Act.put, List.getElem_toArray, List.getElem_cons_succ, List.getElem_cons_zero, List.setIfInBounds_toArray, List.set_cons_zero, List.set_cons_succ]
          generalize w8.drew.alloc (.cells cs 52) = w9 at *
          refine wpAnyH_ready (rs := [1]) (by kernel_rfl) (by simp) ?_
          refine AllReadyH.cons rfl (fun K hK => ?_) AllReadyH.nil
          have fA := HSd.out.o.row hR
          go_simp
          refine hK.out _ _ hHeld (fun hHeld => ?_)
          clear hK K fA
          try simp only [Act.put, List.getElem_toArray, List.getElem_cons_succ, List.getElem_cons_zero, List.setIfInBounds_toArray, List.set_cons_zero, List.set_cons_succ]
          refine wpAnyH_ready (rs := [8]) (by kernel_rfl) (by simp) ?_
          refine AllReadyH.cons rfl (fun K hK => ?_) AllReadyH.nil
          have hb9 := HSd.out.n3
          refine wp_append_rk _ _ rfl N3 _ _ _ rfl HSd.out.own _ 1 1 [X] rfl rfl (fun h => by cases h) hrow hms hb9 ?_
          intro v' w' hown' hg'
          replace HSd := hid (HSd.out.app hown' hg')
          obtain ⟨A9, c9, rfl, _, _, _, _⟩ := hown'.rd (fun Z hZ => (List.mem_append.1 hZ).elim (HFK.out Z) (fun h => by rw [List.mem_singleton.1 h]; exact hXo))
          clear hown' hg' hrow
          refine hK.out _ _ ⟨HG.out.below HSd.out.bl, (HS0.out.below HSd.out.bl).t.row hR⟩ (fun hHeld => ?_)
          clear hK K hb9
          try simp only [Act.put, List.getElem_toArray, List.getElem_cons_succ, List.getElem_cons_zero, List.setIfInBounds_toArray, List.set_cons_zero, List.set_cons_succ]
          refine' wpAnyH_take (i := 9) (v := .pointer (some ⟨b2, 32, none⟩)) rfl (by kernel_rfl) (by kernel_rfl) (by kernel_rfl) (fun _ _ _ h => h) (Or.inl ⟨by rfl, fun w' hw' => by go_simp⟩) hHeld ?_
          try simp only [Act.put, List.getElem_toArray, List.getElem_cons_succ, List.getElem_cons_zero, List.setIfInBounds_toArray, List.set_cons_zero, List.set_cons_succ]
          refine wpAnyH_ready (rs := [10]) (by kernel_rfl) (by simp) ?_
          refine AllReadyH.cons rfl (fun K hK => ?_) AllReadyH.nil
          refine wp_store_tbrow _ _ rfl b2 root hR v HSd.out.o A9 (m + 1) c9 rfl rfl ?_
          intro w10 ho10 hg10
          replace HSd := hid (HSd.out.put ho10 hg10)
          refine hK.out _ _ ⟨HG.out.below HSd.out.bl, (HS0.out.below HSd.out.bl).t.row hR⟩ (fun hHeld => ?_)
          clear hK K ho10 hg10
          try simp only [Act.put, List.getElem_toArray, List.getElem_cons_succ, List.getElem_cons_zero, List.setIfInBounds_toArray, List.set_cons_zero, List.set_cons_succ]
          refine wpAnyH_done (by kernel_rfl) ?_ _
          go_wp2
          go_roundw
          case rel => exact ⟨k + 1, m + 1, _, HLT.out, by go_num, by omega, by rw [HE.out]; exact HSd⟩
          case measure => exact meas_k1 HLT.out
      | true =>
        refine wp_region_later mixed10 (by kernel_rfl) ?_
        repeat (first
          | ((with_reducible refine wpQuiet_load_if (by with_unfolding_all rfl) 23 _ rfl _ _ rfl (X.k.map u8v) _ fX hu (by with_unfolding_all rfl) hzx ?_); simp only [Act.put, List.setIfInBounds_toArray, List.set_cons_zero, List.set_cons_succ])
          | ((with_reducible refine wpQuiet_load_if (by with_unfolding_all rfl) 23 _ rfl _ _ rfl (D.K.map u8v) _ fK hu (by with_unfolding_all rfl) hzd ?_); simp only [Act.put, List.setIfInBounds_toArray, List.set_cons_zero, List.set_cons_succ])
          | ((with_reducible refine wpQuiet_step (fun K hK => ?_)); go_simp; first | ((with_reducible refine hK _ ?_); clear hK K) | (with_reducible apply Exists.intro; (with_reducible refine ⟨fun P => ?_, hK _ ?_⟩); ((go_at_call 17; exact later_of (cP P))); clear hK K)))
        with_reducible refine wpQuiet_nil ?_
        intro _ hw9
        obtain ⟨P9, rfl⟩ := hw9
        replace HS := hid (HS.out.below P9.h)
        generalize P9.w = w8 at *
        clear f32 f1 f2 f3 fX fK cP hge
        cases cv with
        | false =>
          have HE := hid (show leftG D.K D.p (Xs.take (k + 1)) = leftG D.K D.p (Xs.take k) ++ [X] by rw [HT.out]; rfl)
          have HSd := hid (HS.out.below (below_drew10 w8))
          clear HS HT
          go_wp2_with (fail)
          refine wp_region_held_drew (S := fun W => W.rangeAt g q X.cs.toList ∧ W.cell? ⟨w.heap.size, 32, none⟩ = some (.slice A n c)) (by kernel_rfl) ?_ (fun hHeld => ?_)
          · exact ⟨HG.out.below HSd.out.bl, (HS0.out.below HSd.out.bl).t.row hR⟩
          refine' wpAnyH_take (i := 0) (v := .pointer (some ⟨b2, 32, none⟩)) rfl (by kernel_rfl) (by kernel_rfl) (by kernel_rfl) (fun _ _ _ h => h) (Or.inl ⟨by rfl, fun w' hw' => by go_simp⟩) hHeld ?_
          try simp only [Act.put, List.getElem_toArray, List.getElem_cons_succ, List.getElem_cons_zero, List.setIfInBounds_toArray, List.set_cons_zero, List.set_cons_succ]
          refine' wpAnyH_take (i := 2) (v := .pointer (some ⟨w.heap.size, 32, none⟩)) rfl (by kernel_rfl) (by kernel_rfl) (by kernel_rfl) (fun _ _ _ h => h) (Or.inl ⟨by rfl, fun w' hw' => by go_simp⟩) hHeld ?_
          try simp only [Act.put, List.getElem_toArray, List.getElem_cons_succ, List.getElem_cons_zero, List.setIfInBounds_toArray, List.set_cons_zero, List.set_cons_succ]
          refine' wpAnyH_take (i := 3) (v := .slice A n c) rfl (by kernel_rfl) (by kernel_rfl) (by kernel_rfl) (fun _ _ _ h => h) (Or.inl ⟨by rfl, fun w' hw' => by have hv := hw'.2; go_simp⟩) hHeld ?_
          try simp only [Act.put, List.getElem_toArray, List.getElem_cons_succ, List.getElem_cons_zero, List.setIfInBounds_toArray, List.set_cons_zero, List.set_cons_succ]
          refine' wpAnyH_take (i := 4) (v := .int .i64 k) rfl (by kernel_rfl) (by kernel_rfl) (by kernel_rfl) (fun _ _ _ h => h) (Or.inl ⟨by rfl, fun w' hw' => by go_simp⟩) hHeld ?_
          try simp only [Act.put, List.getElem_toArray, List.getElem_cons_succ, List.getElem_cons_zero, List.setIfInBounds_toArray, List.set_cons_zero, List.set_cons_succ]
          refine' wpAnyH_take (i := 5) (v := .pointer (some ⟨g, q, none⟩)) rfl (by kernel_rfl) (by kernel_rfl) (by kernel_rfl) (fun _ _ _ h => h) (Or.inl ⟨by rfl, fun w' hw' => by have hv := hix w'; go_simp⟩) hHeld ?_
          try simp only [Act.put, List.getElem_toArray, List.getElem_cons_succ, List.getElem_cons_zero, List.setIfInBounds_toArray, List.set_cons_zero, List.set_cons_succ]
          refine' wpAnyH_take (i := 6) (v := _) rfl (by kernel_rfl) (by kernel_rfl) (by kernel_rfl) (fun _ _ _ h => h) (yieldsIf_load_mid (by rfl) 52 _ rfl _ _ rfl X.cs.toList _ (fun w' h => h.1) hug rfl hzg) hHeld ?_
          try simp only [Act.put, List.getElem_toArray, List.getElem_cons_succ, List.getElem_cons_zero, List.setIfInBounds_toArray, List.set_cons_zero, List.set_cons_succ]
          simp only [Array.toArray_toList]
          refine wpAnyH_ready (rs := [1, 7]) (by kernel_rfl) (by simp) ?_
          refine AllReadyH.cons rfl (fun K hK => ?_) (AllReadyH.cons rfl (fun K hK => ?_) AllReadyH.nil)
          · have fA := HSd.out.o.row hR
            go_simp
            refine hK.out _ _ hHeld (fun hHeld => ?_)
            clear hK K fA
            try simp only [Act.put, List.getElem_toArray, List.getElem_cons_succ, List.getElem_cons_zero, List.setIfInBounds_toArray, List.set_cons_zero, List.set_cons_succ]
            refine wpAnyH_ready (rs := [7]) (by kernel_rfl) (by simp) ?_
            refine AllReadyH.cons rfl (fun K hK => ?_) AllReadyH.nil
            refine wp_build1k _ rfl X hXo rfl ?_
            intro cs hrow
            replace HSd := hid (HSd.out.below ((Below.refl w8.drew.heap.size w8.drew).alloc (Nat.le_refl _) (.cells cs 52)))
            refine hK.out _ _ ⟨HG.out.below HSd.out.bl, (HS0.out.below HSd.out.bl).t.row hR⟩ (fun hHeld => ?_)
            clear hK K
            try simp only [Act.put, List.getElem_toArray, List.getElem_cons_succ, List.getElem_cons_zero, List.setIfInBounds_toArray, List.set_cons_zero, List.set_cons_succ]
            refine wpAnyH_ready (rs := [8]) (by kernel_rfl) (by simp) ?_
            refine AllReadyH.cons rfl (fun K hK => ?_) AllReadyH.nil
            have hb9 := HSd.out.n3
            refine wp_append_rk _ _ rfl N3 _ _ _ rfl HSd.out.own _ 1 1 [X] rfl rfl (fun h => by cases h) hrow hms hb9 ?_
            intro v' w' hown' hg'
            replace HSd := hid (HSd.out.app hown' hg')
            obtain ⟨A9, c9, rfl, _, _, _, _⟩ := hown'.rd (fun Z hZ => (List.mem_append.1 hZ).elim (HFK.out Z) (fun h => by rw [List.mem_singleton.1 h]; exact hXo))
            clear hown' hg' hrow
            refine hK.out _ _ ⟨HG.out.below HSd.out.bl, (HS0.out.below HSd.out.bl).t.row hR⟩ (fun hHeld => ?_)
            clear hK K hb9
            try simp only [Act.put, List.getElem_toArray, List.getElem_cons_succ, List.getElem_cons_zero, List.setIfInBounds_toArray, List.set_cons_zero, List.set_cons_succ]
            refine' wpAnyH_take (i := 9) (v := .pointer (some ⟨b2, 32, none⟩)) rfl (by kernel_rfl) (by kernel_rfl) (by kernel_rfl) (fun _ _ _ h => h) (Or.inl ⟨by rfl, fun w' hw' => by go_simp⟩) hHeld ?_
            try simp only [Act.put, List.getElem_toArray, List.getElem_cons_succ, List.getElem_cons_zero, List.setIfInBounds_toArray, List.set_cons_zero, List.set_cons_succ]
            refine wpAnyH_ready (rs := [10]) (by kernel_rfl) (by simp) ?_
            refine AllReadyH.cons rfl (fun K hK => ?_) AllReadyH.nil
            refine wp_store_tbrow _ _ rfl b2 root hR v HSd.out.o A9 (m + 1) c9 rfl rfl ?_
            intro w10 ho10 hg10
            replace HSd := hid (HSd.out.put ho10 hg10)
            refine hK.out _ _ ⟨HG.out.below HSd.out.bl, (HS0.out.below HSd.out.bl).t.row hR⟩ (fun hHeld => ?_)
            clear hK K ho10 hg10
            try simp only [Act.put, List.getElem_toArray, List.getElem_cons_succ, List.getElem_cons_zero, List.setIfInBounds_toArray, List.set_cons_zero, List.set_cons_succ]
            refine wpAnyH_done (by kernel_rfl) ?_ _
            go_wp2
            go_roundw
            case rel => exact ⟨k + 1, m + 1, _, HLT.out, by go_num, by omega, by rw [HE.out]; exact HSd⟩
            case measure => exact meas_k1 HLT.out
          · refine wp_build1k _ rfl X hXo rfl ?_
            intro cs hrow
            replace HSd := hid (HSd.out.below ((Below.refl w8.drew.heap.size w8.drew).alloc (Nat.le_refl _) (.cells cs 52)))
            refine hK.out _ _ ⟨HG.out.below HSd.out.bl, (HS0.out.below HSd.out.bl).t.row hR⟩ (fun hHeld => ?_)
            clear hK K
            try simp only [Act.put, List.getElem_toArray, List.getElem_cons_succ, List.getElem_cons_zero, List.setIfInBounds_toArray, List.set_cons_zero, List.set_cons_succ]
            generalize w8.drew.alloc (.cells cs 52) = w9 at *
            refine wpAnyH_ready (rs := [1]) (by kernel_rfl) (by simp) ?_
            refine AllReadyH.cons rfl (fun K hK => ?_) AllReadyH.nil
            have fA := HSd.out.o.row hR
            go_simp
            refine hK.out _ _ hHeld (fun hHeld => ?_)
            clear hK K fA
            try simp only [Act.put, List.getElem_toArray, List.getElem_cons_succ, List.getElem_cons_zero, List.setIfInBounds_toArray, List.set_cons_zero, List.set_cons_succ]
            refine wpAnyH_ready (rs := [8]) (by kernel_rfl) (by simp) ?_
            refine AllReadyH.cons rfl (fun K hK => ?_) AllReadyH.nil
            have hb9 := HSd.out.n3
            refine wp_append_rk _ _ rfl N3 _ _ _ rfl HSd.out.own _ 1 1 [X] rfl rfl (fun h => by cases h) hrow hms hb9 ?_
            intro v' w' hown' hg'
            replace HSd := hid (HSd.out.app hown' hg')
            obtain ⟨A9, c9, rfl, _, _, _, _⟩ := hown'.rd (fun Z hZ => (List.mem_append.1 hZ).elim (HFK.out Z) (fun h => by rw [List.mem_singleton.1 h]; exact hXo))
            clear hown' hg' hrow
            refine hK.out _ _ ⟨HG.out.below HSd.out.bl, (HS0.out.below HSd.out.bl).t.row hR⟩ (fun hHeld => ?_)
            clear hK K hb9
            try simp only [Act.put, List.getElem_toArray, List.getElem_cons_succ, List.getElem_cons_zero, List.setIfInBounds_toArray, List.set_cons_zero, List.set_cons_succ]
            refine' wpAnyH_take (i := 9) (v := .pointer (some ⟨b2, 32, none⟩)) rfl (by kernel_rfl) (by kernel_rfl) (by kernel_rfl) (fun _ _ _ h => h) (Or.inl ⟨by rfl, fun w' hw' => by go_simp⟩) hHeld ?_
            try simp only [Act.put, List.getElem_toArray, List.getElem_cons_succ, List.getElem_cons_zero, List.setIfInBounds_toArray, List.set_cons_zero, List.set_cons_succ]
            refine wpAnyH_ready (rs := [10]) (by kernel_rfl) (by simp) ?_
            refine AllReadyH.cons rfl (fun K hK => ?_) AllReadyH.nil
            refine wp_store_tbrow _ _ rfl b2 root hR v HSd.out.o A9 (m + 1) c9 rfl rfl ?_
            intro w10 ho10 hg10
            replace HSd := hid (HSd.out.put ho10 hg10)
            refine hK.out _ _ ⟨HG.out.below HSd.out.bl, (HS0.out.below HSd.out.bl).t.row hR⟩ (fun hHeld => ?_)
            clear hK K ho10 hg10
            try simp only [Act.put, List.getElem_toArray, List.getElem_cons_succ, List.getElem_cons_zero, List.setIfInBounds_toArray, List.set_cons_zero, List.set_cons_succ]
            refine wpAnyH_done (by kernel_rfl) ?_ _
            go_wp2
            go_roundw
            case rel => exact ⟨k + 1, m + 1, _, HLT.out, by go_num, by omega, by rw [HE.out]; exact HSd⟩
            case measure => exact meas_k1 HLT.out
        | true =>
          have HE := hid (show leftG D.K D.p (Xs.take (k + 1)) = leftG D.K D.p (Xs.take k) by rw [HT.out]; exact List.append_nil _)
          clear HT
          go_wp2
          go_roundw
          case rel => exact ⟨k + 1, m, v, HLT.out, by go_num, by omega, by rw [HE.out]; exact HS⟩
          case measure => exact meas_k1 HLT.out
    · obtain rfl : k = n := by omega
      have z1 : ¬ (k : Int) < k := by omega
      have HE := hid (show leftG D.K D.p (Xs.take k) = leftG D.K D.p Xs by rw [List.take_of_length_le (by rw [HN.out]; exact Nat.le_refl _)])
      rw [HE.out] at HS
      have HLK := hid (show ∀ X ∈ leftG D.K D.p Xs, X.ok from fun X hX => HOK.out X (List.mem_filter.1 hX).1)
      have HLP := hid (show ∀ X ∈ leftG D.K D.p Xs, X.p.length ≤ 1000000 from fun X hX => HP.out X (List.mem_filter.1 hX).1)
      clear HE
      generalize leftG D.K D.p Xs = L0 at *
      obtain ⟨A9, c9, rfl, hl9, _, _, _⟩ := HS.out.own.rd HLK.out
      have f33 := HS.out.o.row hR
      by_cases hmk : m = k
      · subst hmk
        have HRV := hid (show R = (Xs, 6) by rw [HR1.out, if_pos (by rw [hl9, HN.out])])
        replace HS := hid (HS0.out.below HS.out.bl)
        have hT := HS.out.t
        have hz := HS.out.z
        clear HA HR1 HLK HLP
        go_wp2_with (first
          | (with_reducible refine wpList_load_tb (by with_unfolding_all rfl) _ rfl w.heap.size root hR _ rfl hT ?_)
          | ((with_reducible refine wpList_store_tb rfl _ _ rfl (w.heap.size + 1 + 1 + 1) root hR _ rfl hz hzc rfl rfl ?_); intro w9 ho9 hg9))
        have hb9 := below_grownS HS.out.b hg9 (by omega)
        refine bodyPost_ret (ret_tb2 rfl _ _ _ root hR _ rfl ho9) rfl (ApR.intro HRV.out ⟨A, c, by rw [HN.out], HRD.out.below hb9⟩ hb9)
      · have e1 : ((m : Int) == (k : Int)) = false := by rw [beq_eq_false_iff_ne]; omega
        have e2 : ¬ ((m : Int) = (k : Int)) := by omega
        have HRV := hid (show R = (iterH root k L0, 0) by rw [HR1.out, if_neg (by rw [hl9, HN.out]; exact hmk), HN.out])
        clear HR1 HA z1
        have H0 := HS
        clear HS
        go_wp2
        go_loopw [135] (fun i wr => ∃ (j m : Nat) (v : Value), j ≤ k ∧ i = .int .i64 j ∧ Hid (RvA w3 b2 N3 root wr v v m (iterH root j L0))) (fun i _ => k - (intOf i).toNat)
        case atStart => exact ⟨0, m, _, Nat.zero_le _, rfl, H0⟩
        case round =>
          clear H0 f33 f32 e1 e2
          obtain ⟨j, m9, v, hj9, rfl, HS⟩ := hrel
          have HIK := hid (show ∀ X ∈ iterH root j L0, X.ok from fun X hX => HLK.out X (iterH_sub j L0 X hX))
          have hO := HS.out.o
          obtain ⟨A8, c8, rfl, hl8, _, _, hr8⟩ := HS.out.own.rd HIK.out
          by_cases hlt : j < k
          · have z1 : (j : Int) < k := by omega
            have h9 : m9 ≤ 900 := by
              have h1 := iterH_len (root := root) j L0
              rw [hl8, hl9] at h1
              omega
            have cH := rhold19_any root hR A8 m9 c8 (iterH root j L0) hl8 h9 (fun X hX => HLP.out X (iterH_sub j L0 X hX)) wr hr8
            have HNX := hid (iterH_snoc root j L0)
            have HLT := hid (show j + 1 ≤ k from hlt)
            clear hlt hl8 hr8
            go_wp2_with (first
              | (with_reducible refine wpList_load_tb (by with_unfolding_all rfl) _ rfl b2 root hR _ rfl hO ?_)
              | (go_at_call 31; (with_reducible refine cH.mono ?_); rintro e5 w5 ⟨v5, rfl, hown5, hb5⟩; have HOw := hid (hown5.le HS.out.n3); replace HS := hid (HS.out.below hb5); have hob := HS.out.o.b; have hsz := tbC_size root hR (.slice A8 m9 c8); obtain ⟨A5, c5, rfl, _, _, _, _⟩ := HOw.out.rd (fun X hX => HIK.out X (List.mem_filter.1 hX).1); clear hO cH hown5)
              | ((with_reducible refine wpList_store_tb rfl _ _ rfl b2 root hR _ rfl hob hsz rfl rfl ?_); intro w9 ho9 hg9))
            have HSn := hid (RvA.mk ho9 (HOw.out.kept_ hg9 HS.out.n2) (HS.out.gr hg9) HS.out.n0 HS.out.n2 (Nat.le_trans HS.out.n3 hg9.size) : RvA w3 b2 N3 root w9 _ _ _ _)
            go_roundw
            case rel => exact ⟨j + 1, _, _, HLT.out, by go_num, by rw [HNX.out]; exact HSn⟩
            case measure => exact meas_k1 HLT.out
          · obtain rfl : j = k := by omega
            have z1 : ¬ (j : Int) < j := by omega
            have HAS := hid (HS0.out.below HS.out.bl)
            have hz := HAS.out.z
            go_wp2_with (first
              | (with_reducible refine wpList_load_tb (by with_unfolding_all rfl) _ rfl b2 root hR _ rfl hO ?_)
              | ((with_reducible refine wpList_store_tb rfl _ _ rfl (w.heap.size + 1 + 1 + 1) root hR _ rfl hz hzc rfl rfl ?_); intro w9 ho9 hg9))
            have hn5 := HAS.out.n
            have h7 : w.heap.size + 1 + 1 + 1 < N3 := by have := HS0.out.n; have := HS.out.n0; have := HS.out.n2; omega
            refine bodyPost_ret (ret_tb2 rfl _ _ _ root hR _ rfl ho9) rfl (ApR.intro HRV.out ((HS.out.own.kept_ hg9 h7).t HIK.out) (below_grownS HAS.out.b hg9 (by omega)))
end Go.Proofs.YtapgiagpjplpdaaGreat

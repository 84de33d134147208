
/- keytree: climbing, of the document. -/
import Derived.Test.YticpdepbgcagaaaGreatKtA
namespace Go.Proofs.YticpdepbgcagaaaGreat
open Go.RowKit Go.Qc
attribute [local go_sem] txt_size txt_append ib_fold

/-- In a still region an array is loaded. -/
theorem wpStill_load_mid {P : Program} {ops : Array Oper} {w : World} {Q : Act → Prop} {a : Act} {o : Oper} {rest : List Oper} (hw : Region.wanted o (yielded ops a.tmps) = true) (ty : TypeId) (x : Operand) (ho : o.op = .load ty x)
    (b q : Nat) (hx : a.eval x = .pointer (some ⟨b, q, none⟩)) (cs : List Value) (d : TypeDesc) (hc : w.rangeAt b q cs)
    (hu : P.underlying ty = some d) (hd : d.isRow = true) (hi : (P.info? ty).map (·.size) = some cs.length)
    (h : wpStill P ops w Q rest (a.put o.dst (.agg cs.toArray))) : wpStill P ops w Q (o :: rest) a := by
  unfold wpStill
  rw [if_pos hw]
  unfold Oper.still execOp
  simp only [ho, hx, Instr.loadAt, Instr.sureAddr, Sem.run_bind, Sem.run_pure, Result.andThen_ok, run_loadVar_mid w b q ty cs d hc hu hd hi]
  exact ⟨rfl, h⟩
set_option maxRecDepth 100000 in
set_option maxHeartbeats 8000000 in
theorem rclimb_pos (lf : Int) (hl : lf ≤ 9223372036854775807) (h0 : 0 ≤ lf) (s : List UInt8) (hs : s.length = 32) (A : Option Addr) (n c : Nat) (way : List (List UInt8)) (w : World) (hA : RowR w A n way) :
    Calls Tryz.prog 37 #[.int .i64 lf, .agg (idVals s), .slice A n c] w fun e w' => e = .returned (.agg (idVals (climbB lf.toNat s way))) ∧ Below w.heap.size w w' := by
  obtain ⟨hn, bn, hr⟩ := hA
  have hu := Tryz.underlying24
  have hNe : lf = ((lf.toNat : Nat) : Int) := by omega
  have hNl : lf.toNat ≤ 9223372036854775807 := by omega
  generalize lf.toNat = N at *
  subst hNe
  have z0 : ¬ ((N : Int) < 0) := by omega
  clear h0 hl
  go_enter Tryz.func37, Tryz.ntmps37
  go_wp2
  have h0 := ClimbS.new w s _ (show (#[.int .u8 0, .int .u8 0, .int .u8 0, .int .u8 0, .int .u8 0, .int .u8 0, .int .u8 0, .int .u8 0, .int .u8 0, .int .u8 0, .int .u8 0, .int .u8 0, .int .u8 0, .int .u8 0, .int .u8 0, .int .u8 0, .int .u8 0, .int .u8 0, .int .u8 0, .int .u8 0, .int .u8 0, .int .u8 0, .int .u8 0, .int .u8 0, .int .u8 0, .int .u8 0, .int .u8 0, .int .u8 0, .int .u8 0, .int .u8 0, .int .u8 0, .int .u8 0] : Array Value).size = 32 from rfl)
  generalize (w.alloc (.cells (idVals s) 24)).alloc (.cells _ 24) = w0 at *
  go_loopw [0, 7] (fun l i wr => ∃ k : Nat, k ≤ n ∧ i = .int .i64 k ∧ l = .int .i64 (N / 2 ^ k : Nat) ∧ ClimbS w (climbB N s (way.take k)) wr) (fun _ i _ => n - (intOf i).toNat)
  case atStart => exact ⟨0, by omega, rfl, (by simp), h0⟩
  case round =>
    obtain ⟨k, hk, rfl, rfl, hc⟩ := hrel
    by_cases hlt : k < n
    · obtain ⟨x, hx⟩ : ∃ x, way[k]? = some x := ⟨_, List.getElem?_eq_getElem (by omega)⟩
      obtain ⟨g, q, hg, lx, hix⟩ := hr.pick c hn hx
      have b1 : (k : Int) < n := by omega
      have r1 := hg.below hc.bel
      have hzx : (Tryz.prog.info? 24).map (·.size) = some (x.map u8v).length := by rw [List.length_map, lx]; exact sizeId
      have hT := climbB_take hx N s
      have hSl := climbB_length (way.take k) N s hs
      have hm1 : N / 2 ^ k ≤ 9223372036854775807 := Nat.le_trans (Nat.div_le_self _ _) hNl
      have hm2 := div_pow_succ N k
      generalize climbB N s (way.take k) = S at *
      generalize N / 2 ^ k = m at *
      obtain ⟨hq, hrm⟩ := half_facts m
      have hzs : (Tryz.prog.info? 24).map (·.size) = some (S.map u8v).length := by rw [List.length_map, hSl]; exact sizeId
      have HT := hid hT
      have HSL := hid hSl
      have HN := hid hn
      have HM := hid hm2
      clear hT hn hx hm2
      by_cases hm : m % 2 = 1
      · have hT2 : nodeB x S = climbB N s (way.take (k + 1)) := by rw [HT.out, stepB, if_pos hm]
        have hmI : ((m % 2 : Nat) : Int) = 1 := by omega
        rw [hmI] at hrm
        obtain ⟨Z, hZ⟩ : ∃ Z, Z = nodeB x S := ⟨_, rfl⟩
        have cN : ∀ W : World, Calls Tryz.prog 72 #[.string ⟨#[110, 111, 100, 101]⟩, .agg (List.map u8v x).toArray, .agg (List.map u8v S).toArray] W fun e w' => e = .returned (.agg (idVals Z)) ∧ Below W.heap.size W w' := fun W => by
          rw [hZ]; exact rpair_any nodeN (by decide) x S lx hSl W
        have hZL : Z.length = 32 := by rw [hZ]; exact nodeB_length _ _
        rw [← hZ] at hT2
        have HZL := hid hZL
        have HT2 := hid hT2
        clear hZ hZL hT2 HT hmI hm lx hSl
        go_wp2
        refine wp_region_tail 5 (by kernel_rfl) (by kernel_rfl) ?_
        intro W HW
        simp only [List.take_succ_cons, List.take_zero, List.drop_succ_cons, List.drop_zero]
        have hcW : ClimbS w S W := hc.below (by rw [HW.out]; exact below_drewN (Below.refl _ _) 1)
        have rW := hg.below hcW.bel
        have sW := range_blk hcW.sum
        clear hc r1
        repeat (first
          | ((with_reducible refine wpStill_load_mid (by with_unfolding_all rfl) 24 _ rfl _ _ rfl (x.map u8v) _ rW hu (by with_unfolding_all rfl) hzx ?_); simp only [Act.put, List.setIfInBounds_toArray, List.set_cons_zero, List.set_cons_succ])
          | ((with_reducible refine wpStill_load_mid (by with_unfolding_all rfl) 24 _ rfl _ _ rfl (S.map u8v) _ sW hu (by with_unfolding_all rfl) hzs ?_); simp only [Act.put, List.setIfInBounds_toArray, List.set_cons_zero, List.set_cons_succ])
          | still_step)
        refine wpStill_nil ?_
        go_wp2_with (first
          | (go_at_call 72; (with_reducible refine (cN _).mono ?_); rintro e5 w5 ⟨rfl, hb5⟩; have hc := hcW.below hb5)
          | (with_reducible refine wpList_store_blk rfl 24 _ _ rfl w.heap.size _ (idVals Z) 24 hc.sum rfl rfl ?c2 ?c3 (idVals_one _) ?_))
        case c2 => rw [idVals_size, HZL.out]; try exact sizeId
        case c3 => rw [idVals_size, idVals_size, HZL.out, HSL.out]
        intro w6 hb6 hg6
        replace hc := hc.put hb6 hg6
        go_wp2
        go_roundw
        case rel => exact ⟨k + 1, by omega, by go_num, (by rw [← HM.out]; first | rfl | simp), by rw [← HT2.out]; exact hc⟩
        case measure => simp [intOf]; omega
      · have hT2 : nodeB S x = climbB N s (way.take (k + 1)) := by rw [HT.out, stepB, if_neg hm]
        have hmI : ((m % 2 : Nat) : Int) = 0 := by omega
        rw [hmI] at hrm
        obtain ⟨Z, hZ⟩ : ∃ Z, Z = nodeB S x := ⟨_, rfl⟩
        have cN : ∀ W : World, Calls Tryz.prog 72 #[.string ⟨#[110, 111, 100, 101]⟩, .agg (List.map u8v S).toArray, .agg (List.map u8v x).toArray] W fun e w' => e = .returned (.agg (idVals Z)) ∧ Below W.heap.size W w' := fun W => by
          rw [hZ]; exact rpair_any nodeN (by decide) S x hSl lx W
        have hZL : Z.length = 32 := by rw [hZ]; exact nodeB_length _ _
        rw [← hZ] at hT2
        have HZL := hid hZL
        have HT2 := hid hT2
        clear hZ hZL hT2 HT hmI hm lx hSl
        go_wp2
        refine wp_region_tail 5 (by kernel_rfl) (by kernel_rfl) ?_
        intro W HW
        simp only [List.take_succ_cons, List.take_zero, List.drop_succ_cons, List.drop_zero]
        have hcW : ClimbS w S W := hc.below (by rw [HW.out]; exact below_drewN (Below.refl _ _) 1)
        have rW := hg.below hcW.bel
        have sW := range_blk hcW.sum
        clear hc r1
        repeat (first
          | ((with_reducible refine wpStill_load_mid (by with_unfolding_all rfl) 24 _ rfl _ _ rfl (x.map u8v) _ rW hu (by with_unfolding_all rfl) hzx ?_); simp only [Act.put, List.setIfInBounds_toArray, List.set_cons_zero, List.set_cons_succ])
          | ((with_reducible refine wpStill_load_mid (by with_unfolding_all rfl) 24 _ rfl _ _ rfl (S.map u8v) _ sW hu (by with_unfolding_all rfl) hzs ?_); simp only [Act.put, List.setIfInBounds_toArray, List.set_cons_zero, List.set_cons_succ])
          | still_step)
        refine wpStill_nil ?_
        go_wp2_with (first
          | (go_at_call 72; (with_reducible refine (cN _).mono ?_); rintro e5 w5 ⟨rfl, hb5⟩; have hc := hcW.below hb5)
          | (with_reducible refine wpList_store_blk rfl 24 _ _ rfl w.heap.size _ (idVals Z) 24 hc.sum rfl rfl ?c2 ?c3 (idVals_one _) ?_))
        case c2 => rw [idVals_size, HZL.out]; try exact sizeId
        case c3 => rw [idVals_size, idVals_size, HZL.out, HSL.out]
        intro w6 hb6 hg6
        replace hc := hc.put hb6 hg6
        go_wp2
        go_roundw
        case rel => exact ⟨k + 1, by omega, by go_num, (by rw [← HM.out]; first | rfl | simp), by rw [← HT2.out]; exact hc⟩
        case measure => simp [intOf]; omega
    · obtain rfl : k = n := by omega
      rw [List.take_of_length_le (by omega)] at hc
      have b1 : ¬ (k : Int) < k := by omega
      have HN := hid hn
      clear hn
      obtain ⟨S, hS⟩ : ∃ S, S = climbB N s way := ⟨_, rfl⟩
      have hSl : S.length = 32 := by rw [hS]; exact climbB_length way N s hs
      rw [← hS] at hc
      have HS := hid hS
      obtain ⟨zc, hzc, hzz⟩ := hc.res
      have hs4 := range_blk hc.sum
      have hzs : (Tryz.prog.info? 24).map (·.size) = some (S.map u8v).length := by rw [List.length_map, hSl]; exact sizeId
      have HSL := hid hSl
      have HZZ := hid hzz
      clear hS hSl hzz
      generalize N / 2 ^ k = m at *
      go_wp2_with (first
        | (with_reducible refine wpList_load_if (by with_unfolding_all rfl) 24 _ rfl _ _ rfl (S.map u8v) _ hs4 hu (by with_unfolding_all rfl) hzs ?_)
        | (with_reducible refine wpList_store_blk rfl 24 _ _ rfl (w.heap.size + 1) zc (idVals S) 24 hzc rfl rfl ?c2 ?c3 (idVals_one _) ?_))
      case c2 => rw [idVals_size, HSL.out]; try exact sizeId
      case c3 => rw [idVals_size, HSL.out, HZZ.out]
      intro w9 hb9 hg9
      go_wp2
      refine bodyPost_ret (results_cell_row rfl _ _ _ _ _ _ _ rfl hb9 Tryz.underlying24 rfl (by rw [idVals_size, HSL.out]; exact sizeId)) rfl ⟨congrArg (fun t => Ending.returned (Value.agg (idVals t))) HS.out, ?_⟩
      exact hc.bel.grown hg9 hc.bel.size (by intro i e; cases e; omega)
set_option maxRecDepth 100000 in
set_option maxHeartbeats 8000000 in
theorem rclimb_neg (lf : Int) (hl : lf ≤ 9223372036854775807) (h0 : lf < 0) (s : List UInt8) (hs : s.length = 32) (A : Option Addr) (n c : Nat) (way : List (List UInt8)) (w : World) (hA : RowR w A n way) :
    Calls Tryz.prog 37 #[.int .i64 lf, .agg (idVals s), .slice A n c] w fun e w' => e = .returned (.agg (idVals (climbB lf.toNat s way))) ∧ Below w.heap.size w w' := by
  obtain ⟨hn, bn, hr⟩ := hA
  have hu := Tryz.underlying24
  obtain ⟨N, hN⟩ : ∃ N, N = lf.toNat := ⟨_, rfl⟩
  have hN0 : N = 0 := by omega
  have hNl : N ≤ 9223372036854775807 := by omega
  rw [← hN]
  have HN0 := hid hN0
  clear hN hN0
  go_enter Tryz.func37, Tryz.ntmps37
  go_wp2
  have h0 := ClimbS.new w s _ (show (#[.int .u8 0, .int .u8 0, .int .u8 0, .int .u8 0, .int .u8 0, .int .u8 0, .int .u8 0, .int .u8 0, .int .u8 0, .int .u8 0, .int .u8 0, .int .u8 0, .int .u8 0, .int .u8 0, .int .u8 0, .int .u8 0, .int .u8 0, .int .u8 0, .int .u8 0, .int .u8 0, .int .u8 0, .int .u8 0, .int .u8 0, .int .u8 0, .int .u8 0, .int .u8 0, .int .u8 0, .int .u8 0, .int .u8 0, .int .u8 0, .int .u8 0, .int .u8 0] : Array Value).size = 32 from rfl)
  generalize (w.alloc (.cells (idVals s) 24)).alloc (.cells _ 24) = w0 at *
  go_loopw [0, 7] (fun l i wr => ∃ k : Nat, k ≤ n ∧ i = .int .i64 k ∧ l = .int .i64 (N / 2 ^ k : Nat) ∧ ClimbS w (climbB N s (way.take k)) wr) (fun _ i _ => n - (intOf i).toNat)
  case atStart => exact ⟨0, by omega, rfl, (by simp [HN0.out]), h0⟩
  case round =>
    obtain ⟨k, hk, rfl, rfl, hc⟩ := hrel
    by_cases hlt : k < n
    · obtain ⟨x, hx⟩ : ∃ x, way[k]? = some x := ⟨_, List.getElem?_eq_getElem (by omega)⟩
      obtain ⟨g, q, hg, lx, hix⟩ := hr.pick c hn hx
      have b1 : (k : Int) < n := by omega
      have r1 := hg.below hc.bel
      have hzx : (Tryz.prog.info? 24).map (·.size) = some (x.map u8v).length := by rw [List.length_map, lx]; exact sizeId
      have hT := climbB_take hx N s
      have hSl := climbB_length (way.take k) N s hs
      have hm1 : N / 2 ^ k ≤ 9223372036854775807 := Nat.le_trans (Nat.div_le_self _ _) hNl
      have hm2 := div_pow_succ N k
      generalize climbB N s (way.take k) = S at *
      generalize N / 2 ^ k = m at *
      obtain ⟨hq, hrm⟩ := half_facts m
      have hzs : (Tryz.prog.info? 24).map (·.size) = some (S.map u8v).length := by rw [List.length_map, hSl]; exact sizeId
      have HT := hid hT
      have HSL := hid hSl
      have HN := hid hn
      have HM := hid hm2
      clear hT hn hx hm2
      by_cases hm : m % 2 = 1
      · have hT2 : nodeB x S = climbB N s (way.take (k + 1)) := by rw [HT.out, stepB, if_pos hm]
        have hmI : ((m % 2 : Nat) : Int) = 1 := by omega
        rw [hmI] at hrm
        obtain ⟨Z, hZ⟩ : ∃ Z, Z = nodeB x S := ⟨_, rfl⟩
        have cN : ∀ W : World, Calls Tryz.prog 72 #[.string ⟨#[110, 111, 100, 101]⟩, .agg (List.map u8v x).toArray, .agg (List.map u8v S).toArray] W fun e w' => e = .returned (.agg (idVals Z)) ∧ Below W.heap.size W w' := fun W => by
          rw [hZ]; exact rpair_any nodeN (by decide) x S lx hSl W
        have hZL : Z.length = 32 := by rw [hZ]; exact nodeB_length _ _
        rw [← hZ] at hT2
        have HZL := hid hZL
        have HT2 := hid hT2
        clear hZ hZL hT2 HT hmI hm lx hSl
        go_wp2
        refine wp_region_tail 5 (by kernel_rfl) (by kernel_rfl) ?_
        intro W HW
        simp only [List.take_succ_cons, List.take_zero, List.drop_succ_cons, List.drop_zero]
        have hcW : ClimbS w S W := hc.below (by rw [HW.out]; exact below_drewN (Below.refl _ _) 1)
        have rW := hg.below hcW.bel
        have sW := range_blk hcW.sum
        clear hc r1
        repeat (first
          | ((with_reducible refine wpStill_load_mid (by with_unfolding_all rfl) 24 _ rfl _ _ rfl (x.map u8v) _ rW hu (by with_unfolding_all rfl) hzx ?_); simp only [Act.put, List.setIfInBounds_toArray, List.set_cons_zero, List.set_cons_succ])
          | ((with_reducible refine wpStill_load_mid (by with_unfolding_all rfl) 24 _ rfl _ _ rfl (S.map u8v) _ sW hu (by with_unfolding_all rfl) hzs ?_); simp only [Act.put, List.setIfInBounds_toArray, List.set_cons_zero, List.set_cons_succ])
          | still_step)
        refine wpStill_nil ?_
        go_wp2_with (first
          | (go_at_call 72; (with_reducible refine (cN _).mono ?_); rintro e5 w5 ⟨rfl, hb5⟩; have hc := hcW.below hb5)
          | (with_reducible refine wpList_store_blk rfl 24 _ _ rfl w.heap.size _ (idVals Z) 24 hc.sum rfl rfl ?c2 ?c3 (idVals_one _) ?_))
        case c2 => rw [idVals_size, HZL.out]; try exact sizeId
        case c3 => rw [idVals_size, idVals_size, HZL.out, HSL.out]
        intro w6 hb6 hg6
        replace hc := hc.put hb6 hg6
        go_wp2
        go_roundw
        case rel => exact ⟨k + 1, by omega, by go_num, (by rw [← HM.out]; first | rfl | simp), by rw [← HT2.out]; exact hc⟩
        case measure => simp [intOf]; omega
      · have hT2 : nodeB S x = climbB N s (way.take (k + 1)) := by rw [HT.out, stepB, if_neg hm]
        have hmI : ((m % 2 : Nat) : Int) = 0 := by omega
        rw [hmI] at hrm
        obtain ⟨Z, hZ⟩ : ∃ Z, Z = nodeB S x := ⟨_, rfl⟩
        have cN : ∀ W : World, Calls Tryz.prog 72 #[.string ⟨#[110, 111, 100, 101]⟩, .agg (List.map u8v S).toArray, .agg (List.map u8v x).toArray] W fun e w' => e = .returned (.agg (idVals Z)) ∧ Below W.heap.size W w' := fun W => by
          rw [hZ]; exact rpair_any nodeN (by decide) S x hSl lx W
        have hZL : Z.length = 32 := by rw [hZ]; exact nodeB_length _ _
        rw [← hZ] at hT2
        have HZL := hid hZL
        have HT2 := hid hT2
        clear hZ hZL hT2 HT hmI hm lx hSl
        go_wp2
        refine wp_region_tail 5 (by kernel_rfl) (by kernel_rfl) ?_
        intro W HW
        simp only [List.take_succ_cons, List.take_zero, List.drop_succ_cons, List.drop_zero]
        have hcW : ClimbS w S W := hc.below (by rw [HW.out]; exact below_drewN (Below.refl _ _) 1)
        have rW := hg.below hcW.bel
        have sW := range_blk hcW.sum
        clear hc r1
        repeat (first
          | ((with_reducible refine wpStill_load_mid (by with_unfolding_all rfl) 24 _ rfl _ _ rfl (x.map u8v) _ rW hu (by with_unfolding_all rfl) hzx ?_); simp only [Act.put, List.setIfInBounds_toArray, List.set_cons_zero, List.set_cons_succ])
          | ((with_reducible refine wpStill_load_mid (by with_unfolding_all rfl) 24 _ rfl _ _ rfl (S.map u8v) _ sW hu (by with_unfolding_all rfl) hzs ?_); simp only [Act.put, List.setIfInBounds_toArray, List.set_cons_zero, List.set_cons_succ])
          | still_step)
        refine wpStill_nil ?_
        go_wp2_with (first
          | (go_at_call 72; (with_reducible refine (cN _).mono ?_); rintro e5 w5 ⟨rfl, hb5⟩; have hc := hcW.below hb5)
          | (with_reducible refine wpList_store_blk rfl 24 _ _ rfl w.heap.size _ (idVals Z) 24 hc.sum rfl rfl ?c2 ?c3 (idVals_one _) ?_))
        case c2 => rw [idVals_size, HZL.out]; try exact sizeId
        case c3 => rw [idVals_size, idVals_size, HZL.out, HSL.out]
        intro w6 hb6 hg6
        replace hc := hc.put hb6 hg6
        go_wp2
        go_roundw
        case rel => exact ⟨k + 1, by omega, by go_num, (by rw [← HM.out]; first | rfl | simp), by rw [← HT2.out]; exact hc⟩
        case measure => simp [intOf]; omega
    · obtain rfl : k = n := by omega
      rw [List.take_of_length_le (by omega)] at hc
      have b1 : ¬ (k : Int) < k := by omega
      have HN := hid hn
      clear hn
      obtain ⟨S, hS⟩ : ∃ S, S = climbB N s way := ⟨_, rfl⟩
      have hSl : S.length = 32 := by rw [hS]; exact climbB_length way N s hs
      rw [← hS] at hc
      have HS := hid hS
      obtain ⟨zc, hzc, hzz⟩ := hc.res
      have hs4 := range_blk hc.sum
      have hzs : (Tryz.prog.info? 24).map (·.size) = some (S.map u8v).length := by rw [List.length_map, hSl]; exact sizeId
      have HSL := hid hSl
      have HZZ := hid hzz
      clear hS hSl hzz
      generalize N / 2 ^ k = m at *
      go_wp2_with (first
        | (with_reducible refine wpList_load_if (by with_unfolding_all rfl) 24 _ rfl _ _ rfl (S.map u8v) _ hs4 hu (by with_unfolding_all rfl) hzs ?_)
        | (with_reducible refine wpList_store_blk rfl 24 _ _ rfl (w.heap.size + 1) zc (idVals S) 24 hzc rfl rfl ?c2 ?c3 (idVals_one _) ?_))
      case c2 => rw [idVals_size, HSL.out]; try exact sizeId
      case c3 => rw [idVals_size, HSL.out, HZZ.out]
      intro w9 hb9 hg9
      go_wp2
      refine bodyPost_ret (results_cell_row rfl _ _ _ _ _ _ _ rfl hb9 Tryz.underlying24 rfl (by rw [idVals_size, HSL.out]; exact sizeId)) rfl ⟨congrArg (fun t => Ending.returned (Value.agg (idVals t))) HS.out, ?_⟩
      exact hc.bel.grown hg9 hc.bel.size (by intro i e; cases e; omega)
theorem rclimb_any (lf : Int) (hl : lf ≤ 9223372036854775807) (s : List UInt8) (hs : s.length = 32) (A : Option Addr) (n c : Nat) (way : List (List UInt8)) (w : World) (hA : RowR w A n way) :
    Calls Tryz.prog 37 #[.int .i64 lf, .agg (idVals s), .slice A n c] w fun e w' => e = .returned (.agg (idVals (climbB lf.toNat s way))) ∧ Below w.heap.size w w' := by
  by_cases h0 : 0 ≤ lf
  · exact rclimb_pos lf hl h0 s hs A n c way w hA
  · exact rclimb_neg lf hl (by omega) s hs A n c way w hA
end Go.Proofs.YticpdepbgcagaaaGreat


/- Proved: for all params, seeds and roots, quitclaimlaw07.KeytreeKeys returns true and leaves its arguments as they were. No conditions. -/
import Derived.Test.YtfdbgmnnahcejaaKtK
namespace Go.Proofs.Ytfdbgmnnahcejaa
open Go.RowKit Go.Qc
open Go.ChangeShapes Go.WideShapes Go.ChangeAt
attribute [local go_sem] txt_size

/-- Params and a root. -/
structure PrS (w : World) (b h : Int) (r : List UInt8) (W : World) : Prop where
  par : Blk W w.heap.size 63 #[.int .i64 b, .int .i64 h]
  root : Blk W (w.heap.size + 1) 24 (idVals r)
  bel : Below w.heap.size w W
theorem PrS.below {w W W' : World} {b h : Int} {r : List UInt8} (k : PrS w b h r W) (hb : Below W.heap.size W W') : PrS w b h r W' :=
  ⟨k.par.below hb, k.root.below hb, k.bel.trans (hb.mono k.bel.size)⟩
theorem PrS.new (w : World) (b h : Int) (r : List UInt8) : PrS w b h r ((w.alloc (.cells #[.int .i64 b, .int .i64 h] 63)).alloc (.cells (idVals r) 24)) := by
  have hk1 : (w.alloc (.cells #[.int .i64 b, .int .i64 h] 63)).heap.size = w.heap.size + 1 := by simp
  have h2 := Blk.new (w.alloc (.cells #[.int .i64 b, .int .i64 h] 63)) 24 (idVals r)
  rw [hk1] at h2
  exact ⟨(Blk.new w 63 _).alloc _, h2, ((Below.refl _ _).alloc (Nat.le_refl _) _).alloc (by simp) _⟩
set_option maxRecDepth 100000 in
set_option maxHeartbeats 40000000 in
theorem keys_ok (s : List UInt8) (hs : s.length ≤ 100) (n m : Nat) (hr : rgtP n m = true) (hl : lgP n m = false) (r : List UInt8) (hr32 : r.length = 32) (w : World) :
    Calls Try.prog 5 #[.agg #[.int .i64 n, .int .i64 m], .string (txt s), .agg (idVals r)] w fun e w' => e = .returned (.bool true) ∧ Below w.heap.size w w' := by
  have hu := Try.underlying24
  have mixed : Try.prog.follows .mixedOrders = true := by kernel_rfl
  have cR := fun W => kright_any n m W
  have cRR := fun W => rright7_any n m W
  have cL := fun W => kleaves_any n m W
  rw [hr] at cR cRR
  rw [lvs_ok hr] at cL
  have hp := rgtP_parts hr
  have hm10 : m ≤ 10 := by omega
  have cP := fun W => rpower_any m hm10 W
  have cK : ∀ W : World, Calls Try.prog 50 #[.agg #[.int .i64 n, .int .i64 m], .agg (List.map u8v r).toArray] W fun e w' => e = .returned (.tuple #[.agg (idVals (keyB n m r)), .int .i64 0]) ∧ Below W.heap.size W w' := fun W => key_any n m hr r hr32 W
  have cRK : ∀ W : World, Calls Try.prog 56 #[.agg #[.int .i64 n, .int .i64 m], .agg (List.map u8v r).toArray] W fun e w' => e = .returned (.agg (idVals (keyB n m r))) ∧ Below W.heap.size W w' := fun W => rkey_any n m hr r hr32 W
  have lS := keyB_length n m r
  generalize keyB n m r = S at *
  have hm2 : m ≤ 2 := by
    unfold lgP at hl
    rw [hr, Bool.true_and, Bool.or_eq_false_iff, decide_eq_false_iff_not, decide_eq_false_iff_not] at hl
    omega
  have cO := fun W => kof_any s (by omega) n m hr (by omega) W
  have cRO := fun W => rof7_any s (by omega) n m hr W
  have lT : (ofB s n m).length = 32 := keyB_length _ _ _
  generalize ofB s n m = T at *
  have hP1 : 1 ≤ 2 ^ m := Nat.one_le_two_pow
  have hP2 : 2 ^ m ≤ 1024 := Nat.le_trans (Nat.pow_le_pow_right (by decide) hm10) (by decide)
  generalize 2 ^ m = P at *
  have zPP : ((P : Int) != (P : Int)) = false := by simp
  have zPE : ((P : Int) == (P : Int)) = true := by simp
  have zP0 : ((P : Int) == 0) = false := by simp; omega
  have cG := fun W => large_any n m W
  rw [hl] at cG
  have hzr : (Try.prog.info? 24).map (·.size) = some (r.map u8v).length := by rw [List.length_map, hr32]; exact sizeId
  have hzS : (Try.prog.info? 24).map (·.size) = some (S.map u8v).length := by rw [List.length_map, lS]; exact sizeId
  have hzT : (Try.prog.info? 24).map (·.size) = some (T.map u8v).length := by rw [List.length_map, lT]; exact sizeId
  have l1 : ¬ (100 : Int) < s.length := by omega
  have HLS := hid lS
  have HLT := hid lT
  clear hr hr32 lS hp hm10 lT hl hm2
  go_enter Try.func5, Try.ntmps5
  go_wp2_with (fail)
  have h0 := PrS.new w (n : Int) (m : Int) r
  generalize (w.alloc (.cells #[.int .i64 (n : Int), .int .i64 (m : Int)] 63)).alloc (.cells (idVals r) 24) = w0 at *
  refine (cRR _).mono ?_
  rintro e1 w1 ⟨rfl, hb1⟩
  have hk := h0.below hb1
  have p0 := hk.par.cell_ (i := 0) rfl
  have p1 := hk.par.cell_ (i := 1) rfl
  have hx1 := range_blk hk.root
  clear h0 hb1
  go_wp2_with (first
    | (go_at_call 49; (with_reducible refine (cP _).mono ?_); rintro e2 w2 ⟨rfl, rfl⟩)
    | (with_reducible refine wpList_load_if (by with_unfolding_all rfl) 24 _ rfl _ _ rfl (r.map u8v) _ hx1 hu (by with_unfolding_all rfl) hzr ?_)
    | (go_at_call 50; (with_reducible refine (cK _).mono ?_); rintro e3 w3 ⟨rfl, hb3⟩)
    | ((with_reducible refine wpList_store_newid rfl _ _ rfl S HLS.out rfl rfl (by with_unfolding_all rfl) ?_); intro w4 hx4 hb4))
  replace hk := (hk.below hb3).below hb4
  clear p0 p1 hx1 hb3 hb4 cK
  generalize w3.heap.size = g4 at *
  have fp0 : ∀ p : LaterW w4, p.w.cell? ⟨w.heap.size, 0, none⟩ = some (.int .i64 (n : Int)) := fun p => (hk.below p.h).par.cell_ (i := 0) rfl
  have fp1 : ∀ p : LaterW w4, p.w.cell? ⟨w.heap.size, 1, none⟩ = some (.int .i64 (m : Int)) := fun p => (hk.below p.h).par.cell_ (i := 1) rfl
  refine wp_region_later mixed (by kernel_rfl) ?_
  repeat (first
    | ((with_reducible refine wpQuiet_skip (by with_unfolding_all rfl) ?_); simp only [Act.put, List.setIfInBounds_toArray, List.set_cons_zero, List.set_cons_succ])
    | ((with_reducible refine wpQuiet_step (fun K hK => ?_)); go_simp; first | ((with_reducible refine hK _ ?_); clear hK K) | (with_reducible apply Exists.intro; (with_reducible refine ⟨fun _ => ?_, hK _ ?_⟩); ((first | (go_at_call 51; exact later_of (cR _)) | (go_at_call 48; exact later_of (cRR _)) | (go_at_call 52; exact later_of (cL _)) | (go_at_call 53; exact later_of (cG _)))); clear hK K)))
  with_reducible refine wpQuiet_nil ?_
  intro _ hw'
  obtain ⟨p, rfl⟩ := hw'
  have hp := p.h
  generalize p.w = w5 at *
  replace hk := hk.below hp
  replace hx4 := hx4.below hp
  clear fp0 fp1 hp
  have p0 := hk.par.cell_ (i := 0) rfl
  have p1 := hk.par.cell_ (i := 1) rfl
  go_wp2_with (first
    | (go_at_call 55; (with_reducible refine (cO _).mono ?_); rintro e6 w6 ⟨rfl, hb6⟩)
    | ((with_reducible refine wpList_store_newid rfl _ _ rfl T HLT.out rfl rfl (by with_unfolding_all rfl) ?_); intro w7 hx7 hb7; replace hk := (hk.below hb6).below hb7; replace hx4 := (hx4.below hb6).below hb7)
  )
  generalize w6.heap.size = g7 at *
  clear p0 p1 hb6 hb7 cO
  have fp0 : ∀ p : LaterW w7, p.w.cell? ⟨w.heap.size, 0, none⟩ = some (.int .i64 (n : Int)) := fun p => (hk.below p.h).par.cell_ (i := 0) rfl
  have fp1 : ∀ p : LaterW w7, p.w.cell? ⟨w.heap.size, 1, none⟩ = some (.int .i64 (m : Int)) := fun p => (hk.below p.h).par.cell_ (i := 1) rfl
  have fr := range_later (range_blk hk.root)
  have f4 := range_later hx4
  have f7 := range_later hx7
  have heqS : ∀ W, (Op.equalIn 10000 24 (.agg (List.map u8v S).toArray) (.agg (idVals S))).run Try.prog W = .ok true W := fun W => (ids_eq W S S HLS.out HLS.out).trans (by rw [decide_eq_true rfl])
  have heqT : ∀ W, (Op.equalIn 10000 24 (.agg (List.map u8v T).toArray) (.agg (idVals T))).run Try.prog W = .ok true W := fun W => (ids_eq W T T HLT.out HLT.out).trans (by rw [decide_eq_true rfl])
  refine wp_region_later mixed (by kernel_rfl) ?_
  repeat (first
    | ((with_reducible refine wpQuiet_skip (by with_unfolding_all rfl) ?_); simp only [Act.put, List.setIfInBounds_toArray, List.set_cons_zero, List.set_cons_succ])
    | ((with_reducible refine wpQuiet_load_if (by with_unfolding_all rfl) 24 _ rfl _ _ rfl (S.map u8v) _ f4 hu (by with_unfolding_all rfl) hzS ?_); simp only [Act.put, List.setIfInBounds_toArray, List.set_cons_zero, List.set_cons_succ])
    | ((with_reducible refine wpQuiet_load_if (by with_unfolding_all rfl) 24 _ rfl _ _ rfl (r.map u8v) _ fr hu (by with_unfolding_all rfl) hzr ?_); simp only [Act.put, List.setIfInBounds_toArray, List.set_cons_zero, List.set_cons_succ])
    | ((with_reducible refine wpQuiet_load_if (by with_unfolding_all rfl) 24 _ rfl _ _ rfl (T.map u8v) _ f7 hu (by with_unfolding_all rfl) hzT ?_); simp only [Act.put, List.setIfInBounds_toArray, List.set_cons_zero, List.set_cons_succ])
    | ((with_reducible refine wpQuiet_step (fun K hK => ?_)); go_simp; first | ((with_reducible refine hK _ ?_); clear hK K) | (with_reducible apply Exists.intro; (with_reducible refine ⟨fun _ => ?_, hK _ ?_⟩); ((first | (go_at_call 56; exact later_of (cRK _)) | (go_at_call 57; exact later_of (cRO _)) | (go_at_call 54; exact later_of (awake7_any _)))); clear hK K)))
  with_reducible refine wpQuiet_nil ?_
  intro _ hw'
  obtain ⟨p, rfl⟩ := hw'
  have hp := p.h
  generalize p.w = w8 at *
  replace hk := hk.below hp
  go_wp2
  go_ret
  exact ⟨rfl, hk.bel⟩
set_option maxRecDepth 100000 in
set_option maxHeartbeats 40000000 in
theorem keys_large (s : List UInt8) (hs : s.length ≤ 100) (n m : Nat) (hr : rgtP n m = true) (hl : lgP n m = true) (r : List UInt8) (hr32 : r.length = 32) (w : World) :
    Calls Try.prog 5 #[.agg #[.int .i64 n, .int .i64 m], .string (txt s), .agg (idVals r)] w fun e w' => e = .returned (.bool true) ∧ Below w.heap.size w w' := by
  have hu := Try.underlying24
  have mixed : Try.prog.follows .mixedOrders = true := by kernel_rfl
  have cR := fun W => kright_any n m W
  have cRR := fun W => rright7_any n m W
  have cL := fun W => kleaves_any n m W
  rw [hr] at cR cRR
  rw [lvs_ok hr] at cL
  have hp := rgtP_parts hr
  have hm10 : m ≤ 10 := by omega
  have cP := fun W => rpower_any m hm10 W
  have cK : ∀ W : World, Calls Try.prog 50 #[.agg #[.int .i64 n, .int .i64 m], .agg (List.map u8v r).toArray] W fun e w' => e = .returned (.tuple #[.agg (idVals (keyB n m r)), .int .i64 0]) ∧ Below W.heap.size W w' := fun W => key_any n m hr r hr32 W
  have cRK : ∀ W : World, Calls Try.prog 56 #[.agg #[.int .i64 n, .int .i64 m], .agg (List.map u8v r).toArray] W fun e w' => e = .returned (.agg (idVals (keyB n m r))) ∧ Below W.heap.size W w' := fun W => rkey_any n m hr r hr32 W
  have lS := keyB_length n m r
  generalize keyB n m r = S at *
  have hP1 : 1 ≤ 2 ^ m := Nat.one_le_two_pow
  have hP2 : 2 ^ m ≤ 1024 := Nat.le_trans (Nat.pow_le_pow_right (by decide) hm10) (by decide)
  generalize 2 ^ m = P at *
  have zPP : ((P : Int) != (P : Int)) = false := by simp
  have zPE : ((P : Int) == (P : Int)) = true := by simp
  have zP0 : ((P : Int) == 0) = false := by simp; omega
  have cG := fun W => large_any n m W
  rw [hl] at cG
  have hzr : (Try.prog.info? 24).map (·.size) = some (r.map u8v).length := by rw [List.length_map, hr32]; exact sizeId
  have hzS : (Try.prog.info? 24).map (·.size) = some (S.map u8v).length := by rw [List.length_map, lS]; exact sizeId
  have l1 : ¬ (100 : Int) < s.length := by omega
  have HLS := hid lS
  clear hr hr32 lS hp hm10 hl
  go_enter Try.func5, Try.ntmps5
  go_wp2_with (fail)
  have h0 := PrS.new w (n : Int) (m : Int) r
  generalize (w.alloc (.cells #[.int .i64 (n : Int), .int .i64 (m : Int)] 63)).alloc (.cells (idVals r) 24) = w0 at *
  refine (cRR _).mono ?_
  rintro e1 w1 ⟨rfl, hb1⟩
  have hk := h0.below hb1
  have p0 := hk.par.cell_ (i := 0) rfl
  have p1 := hk.par.cell_ (i := 1) rfl
  have hx1 := range_blk hk.root
  clear h0 hb1
  go_wp2_with (first
    | (go_at_call 49; (with_reducible refine (cP _).mono ?_); rintro e2 w2 ⟨rfl, rfl⟩)
    | (with_reducible refine wpList_load_if (by with_unfolding_all rfl) 24 _ rfl _ _ rfl (r.map u8v) _ hx1 hu (by with_unfolding_all rfl) hzr ?_)
    | (go_at_call 50; (with_reducible refine (cK _).mono ?_); rintro e3 w3 ⟨rfl, hb3⟩)
    | ((with_reducible refine wpList_store_newid rfl _ _ rfl S HLS.out rfl rfl (by with_unfolding_all rfl) ?_); intro w4 hx4 hb4))
  replace hk := (hk.below hb3).below hb4
  clear p0 p1 hx1 hb3 hb4 cK
  generalize w3.heap.size = g4 at *
  have fp0 : ∀ p : LaterW w4, p.w.cell? ⟨w.heap.size, 0, none⟩ = some (.int .i64 (n : Int)) := fun p => (hk.below p.h).par.cell_ (i := 0) rfl
  have fp1 : ∀ p : LaterW w4, p.w.cell? ⟨w.heap.size, 1, none⟩ = some (.int .i64 (m : Int)) := fun p => (hk.below p.h).par.cell_ (i := 1) rfl
  refine wp_region_later mixed (by kernel_rfl) ?_
  repeat (first
    | ((with_reducible refine wpQuiet_skip (by with_unfolding_all rfl) ?_); simp only [Act.put, List.setIfInBounds_toArray, List.set_cons_zero, List.set_cons_succ])
    | ((with_reducible refine wpQuiet_step (fun K hK => ?_)); go_simp; first | ((with_reducible refine hK _ ?_); clear hK K) | (with_reducible apply Exists.intro; (with_reducible refine ⟨fun _ => ?_, hK _ ?_⟩); ((first | (go_at_call 51; exact later_of (cR _)) | (go_at_call 48; exact later_of (cRR _)) | (go_at_call 52; exact later_of (cL _)) | (go_at_call 53; exact later_of (cG _)))); clear hK K)))
  with_reducible refine wpQuiet_nil ?_
  intro _ hw'
  obtain ⟨p, rfl⟩ := hw'
  have hp := p.h
  generalize p.w = w5 at *
  replace hk := hk.below hp
  replace hx4 := hx4.below hp
  clear fp0 fp1 hp
  go_wp2
  have fp0 : ∀ p : LaterW w5, p.w.cell? ⟨w.heap.size, 0, none⟩ = some (.int .i64 (n : Int)) := fun p => (hk.below p.h).par.cell_ (i := 0) rfl
  have fp1 : ∀ p : LaterW w5, p.w.cell? ⟨w.heap.size, 1, none⟩ = some (.int .i64 (m : Int)) := fun p => (hk.below p.h).par.cell_ (i := 1) rfl
  refine wp_region_later mixed (by kernel_rfl) ?_
  repeat (first
    | ((with_reducible refine wpQuiet_skip (by with_unfolding_all rfl) ?_); simp only [Act.put, List.setIfInBounds_toArray, List.set_cons_zero, List.set_cons_succ])
    | ((with_reducible refine wpQuiet_step (fun K hK => ?_)); go_simp; first | ((with_reducible refine hK _ ?_); clear hK K) | (with_reducible apply Exists.intro; (with_reducible refine ⟨fun _ => ?_, hK _ ?_⟩); ((first | (go_at_call 51; exact later_of (cR _)) | (go_at_call 48; exact later_of (cRR _)) | (go_at_call 52; exact later_of (cL _)) | (go_at_call 54; exact later_of (awake7_any _)))); clear hK K)))
  with_reducible refine wpQuiet_nil ?_
  intro _ hw'
  obtain ⟨p, rfl⟩ := hw'
  have hp := p.h
  generalize p.w = w6 at *
  replace hk := hk.below hp
  go_wp2
  go_ret
  exact ⟨rfl, hk.bel⟩
set_option maxRecDepth 100000 in
set_option maxHeartbeats 40000000 in
theorem keys_big (s : List UInt8) (hs : 100 < s.length) (n m : Nat) (hr : rgtP n m = true) (r : List UInt8) (hr32 : r.length = 32) (w : World) :
    Calls Try.prog 5 #[.agg #[.int .i64 n, .int .i64 m], .string (txt s), .agg (idVals r)] w fun e w' => e = .returned (.bool true) ∧ Below w.heap.size w w' := by
  have hu := Try.underlying24
  have mixed : Try.prog.follows .mixedOrders = true := by kernel_rfl
  have cR := fun W => kright_any n m W
  have cRR := fun W => rright7_any n m W
  have cL := fun W => kleaves_any n m W
  rw [hr] at cR cRR
  rw [lvs_ok hr] at cL
  have hp := rgtP_parts hr
  have hm10 : m ≤ 10 := by omega
  have cP := fun W => rpower_any m hm10 W
  have cK : ∀ W : World, Calls Try.prog 50 #[.agg #[.int .i64 n, .int .i64 m], .agg (List.map u8v r).toArray] W fun e w' => e = .returned (.tuple #[.agg (idVals (keyB n m r)), .int .i64 0]) ∧ Below W.heap.size W w' := fun W => key_any n m hr r hr32 W
  have cRK : ∀ W : World, Calls Try.prog 56 #[.agg #[.int .i64 n, .int .i64 m], .agg (List.map u8v r).toArray] W fun e w' => e = .returned (.agg (idVals (keyB n m r))) ∧ Below W.heap.size W w' := fun W => rkey_any n m hr r hr32 W
  have lS := keyB_length n m r
  generalize keyB n m r = S at *
  have hP1 : 1 ≤ 2 ^ m := Nat.one_le_two_pow
  have hP2 : 2 ^ m ≤ 1024 := Nat.le_trans (Nat.pow_le_pow_right (by decide) hm10) (by decide)
  generalize 2 ^ m = P at *
  have zPP : ((P : Int) != (P : Int)) = false := by simp
  have zPE : ((P : Int) == (P : Int)) = true := by simp
  have zP0 : ((P : Int) == 0) = false := by simp; omega
  have hzr : (Try.prog.info? 24).map (·.size) = some (r.map u8v).length := by rw [List.length_map, hr32]; exact sizeId
  have hzS : (Try.prog.info? 24).map (·.size) = some (S.map u8v).length := by rw [List.length_map, lS]; exact sizeId
  have l1 : (100 : Int) < s.length := by omega
  have HLS := hid lS
  clear hr hr32 lS hp hm10
  go_enter Try.func5, Try.ntmps5
  go_wp2_with (fail)
  have h0 := PrS.new w (n : Int) (m : Int) r
  generalize (w.alloc (.cells #[.int .i64 (n : Int), .int .i64 (m : Int)] 63)).alloc (.cells (idVals r) 24) = w0 at *
  refine (cRR _).mono ?_
  rintro e1 w1 ⟨rfl, hb1⟩
  have hk := h0.below hb1
  have p0 := hk.par.cell_ (i := 0) rfl
  have p1 := hk.par.cell_ (i := 1) rfl
  have hx1 := range_blk hk.root
  clear h0 hb1
  go_wp2_with (first
    | (go_at_call 49; (with_reducible refine (cP _).mono ?_); rintro e2 w2 ⟨rfl, rfl⟩)
    | (with_reducible refine wpList_load_if (by with_unfolding_all rfl) 24 _ rfl _ _ rfl (r.map u8v) _ hx1 hu (by with_unfolding_all rfl) hzr ?_)
    | (go_at_call 50; (with_reducible refine (cK _).mono ?_); rintro e3 w3 ⟨rfl, hb3⟩)
    | ((with_reducible refine wpList_store_newid rfl _ _ rfl S HLS.out rfl rfl (by with_unfolding_all rfl) ?_); intro w4 hx4 hb4))
  replace hk := (hk.below hb3).below hb4
  clear p0 p1 hx1 hb3 hb4 cK
  generalize w3.heap.size = g4 at *
  have fp0 : ∀ p : LaterW w4, p.w.cell? ⟨w.heap.size, 0, none⟩ = some (.int .i64 (n : Int)) := fun p => (hk.below p.h).par.cell_ (i := 0) rfl
  have fp1 : ∀ p : LaterW w4, p.w.cell? ⟨w.heap.size, 1, none⟩ = some (.int .i64 (m : Int)) := fun p => (hk.below p.h).par.cell_ (i := 1) rfl
  refine wp_region_later mixed (by kernel_rfl) ?_
  repeat (first
    | ((with_reducible refine wpQuiet_skip (by with_unfolding_all rfl) ?_); simp only [Act.put, List.setIfInBounds_toArray, List.set_cons_zero, List.set_cons_succ])
    | ((with_reducible refine wpQuiet_step (fun K hK => ?_)); go_simp; first | ((with_reducible refine hK _ ?_); clear hK K) | (with_reducible apply Exists.intro; (with_reducible refine ⟨fun _ => ?_, hK _ ?_⟩); ((first | (go_at_call 51; exact later_of (cR _)) | (go_at_call 48; exact later_of (cRR _)) | (go_at_call 52; exact later_of (cL _)))); clear hK K)))
  with_reducible refine wpQuiet_nil ?_
  intro _ hw'
  obtain ⟨p, rfl⟩ := hw'
  have hp := p.h
  generalize p.w = w5 at *
  replace hk := hk.below hp
  replace hx4 := hx4.below hp
  clear fp0 fp1 hp
  go_wp2
  have fp0 : ∀ p : LaterW w5, p.w.cell? ⟨w.heap.size, 0, none⟩ = some (.int .i64 (n : Int)) := fun p => (hk.below p.h).par.cell_ (i := 0) rfl
  have fp1 : ∀ p : LaterW w5, p.w.cell? ⟨w.heap.size, 1, none⟩ = some (.int .i64 (m : Int)) := fun p => (hk.below p.h).par.cell_ (i := 1) rfl
  refine wp_region_later mixed (by kernel_rfl) ?_
  repeat (first
    | ((with_reducible refine wpQuiet_skip (by with_unfolding_all rfl) ?_); simp only [Act.put, List.setIfInBounds_toArray, List.set_cons_zero, List.set_cons_succ])
    | ((with_reducible refine wpQuiet_step (fun K hK => ?_)); go_simp; first | ((with_reducible refine hK _ ?_); clear hK K) | (with_reducible apply Exists.intro; (with_reducible refine ⟨fun _ => ?_, hK _ ?_⟩); ((first | (go_at_call 51; exact later_of (cR _)) | (go_at_call 48; exact later_of (cRR _)) | (go_at_call 52; exact later_of (cL _)) | (go_at_call 54; exact later_of (awake7_any _)))); clear hK K)))
  with_reducible refine wpQuiet_nil ?_
  intro _ hw'
  obtain ⟨p, rfl⟩ := hw'
  have hp := p.h
  generalize p.w = w6 at *
  replace hk := hk.below hp
  go_wp2
  go_ret
  exact ⟨rfl, hk.bel⟩
set_option maxRecDepth 100000 in
set_option maxHeartbeats 40000000 in
theorem keys_no (s : List UInt8) (hs : s.length ≤ 100) (b h : Int) (hr : rgtP b h = false) (r : List UInt8) (hr32 : r.length = 32) (w : World) :
    Calls Try.prog 5 #[.agg #[.int .i64 b, .int .i64 h], .string (txt s), .agg (idVals r)] w fun e w' => e = .returned (.bool true) ∧ Below w.heap.size w w' := by
  have hu := Try.underlying24
  have mixed : Try.prog.follows .mixedOrders = true := by kernel_rfl
  have cR := fun W => kright_any b h W
  have cRR := fun W => rright7_any b h W
  have cL := fun W => kleaves_any b h W
  rw [hr] at cR cRR
  have hl0 : lvs b h = 0 := by unfold lvs; rw [hr]; rfl
  have hl : lgP b h = false := by unfold lgP; rw [hr]; rfl
  rw [hl0] at cL
  have cK : ∀ W : World, Calls Try.prog 50 #[.agg #[.int .i64 b, .int .i64 h], .agg (List.map u8v r).toArray] W fun e w' => e = .returned (.tuple #[.agg (idVals zeroB), .int .i64 1]) ∧ Below W.heap.size W w' := fun W => key_no b h hr r W
  have lS : zeroB.length = 32 := rfl
  have cO := fun W => kof_no s b h hr W
  have lT : zeroB.length = 32 := rfl
  have cG := fun W => large_any b h W
  rw [hl] at cG
  have hzr : (Try.prog.info? 24).map (·.size) = some (r.map u8v).length := by rw [List.length_map, hr32]; exact sizeId
  have hzS : (Try.prog.info? 24).map (·.size) = some (zeroB.map u8v).length := by rw [List.length_map, lS]; exact sizeId
  have hzT : (Try.prog.info? 24).map (·.size) = some (zeroB.map u8v).length := by rw [List.length_map, lT]; exact sizeId
  have l1 : ¬ (100 : Int) < s.length := by omega
  have HLS := hid lS
  have HLT := hid lT
  clear hr hr32 lS hl0 lT hl
  go_enter Try.func5, Try.ntmps5
  go_wp2_with (fail)
  have h0 := PrS.new w b h r
  generalize (w.alloc (.cells #[.int .i64 b, .int .i64 h] 63)).alloc (.cells (idVals r) 24) = w0 at *
  refine (cRR _).mono ?_
  rintro e1 w1 ⟨rfl, hb1⟩
  have hk := h0.below hb1
  have p0 := hk.par.cell_ (i := 0) rfl
  have p1 := hk.par.cell_ (i := 1) rfl
  have hx1 := range_blk hk.root
  clear h0 hb1
  go_wp2_with (first
    | (with_reducible refine wpList_load_if (by with_unfolding_all rfl) 24 _ rfl _ _ rfl (r.map u8v) _ hx1 hu (by with_unfolding_all rfl) hzr ?_)
    | (go_at_call 50; (with_reducible refine (cK _).mono ?_); rintro e3 w3 ⟨rfl, hb3⟩)
    | ((with_reducible refine wpList_store_newid rfl _ _ rfl zeroB HLS.out rfl rfl (by with_unfolding_all rfl) ?_); intro w4 hx4 hb4))
  replace hk := (hk.below hb3).below hb4
  clear p0 p1 hx1 hb3 hb4 cK
  generalize w3.heap.size = g4 at *
  have fp0 : ∀ p : LaterW w4, p.w.cell? ⟨w.heap.size, 0, none⟩ = some (.int .i64 b) := fun p => (hk.below p.h).par.cell_ (i := 0) rfl
  have fp1 : ∀ p : LaterW w4, p.w.cell? ⟨w.heap.size, 1, none⟩ = some (.int .i64 h) := fun p => (hk.below p.h).par.cell_ (i := 1) rfl
  refine wp_region_later mixed (by kernel_rfl) ?_
  repeat (first
    | ((with_reducible refine wpQuiet_skip (by with_unfolding_all rfl) ?_); simp only [Act.put, List.setIfInBounds_toArray, List.set_cons_zero, List.set_cons_succ])
    | ((with_reducible refine wpQuiet_step (fun K hK => ?_)); go_simp; first | ((with_reducible refine hK _ ?_); clear hK K) | (with_reducible apply Exists.intro; (with_reducible refine ⟨fun _ => ?_, hK _ ?_⟩); ((first | (go_at_call 51; exact later_of (cR _)) | (go_at_call 48; exact later_of (cRR _)) | (go_at_call 52; exact later_of (cL _)) | (go_at_call 53; exact later_of (cG _)))); clear hK K)))
  with_reducible refine wpQuiet_nil ?_
  intro _ hw'
  obtain ⟨p, rfl⟩ := hw'
  have hp := p.h
  generalize p.w = w5 at *
  replace hk := hk.below hp
  replace hx4 := hx4.below hp
  clear fp0 fp1 hp
  have heqZ : ∀ W, (Op.equalIn 10000 24 (.agg (List.map u8v zeroB).toArray) (.agg #[.int .u8 0, .int .u8 0, .int .u8 0, .int .u8 0, .int .u8 0, .int .u8 0, .int .u8 0, .int .u8 0, .int .u8 0, .int .u8 0, .int .u8 0, .int .u8 0, .int .u8 0, .int .u8 0, .int .u8 0, .int .u8 0, .int .u8 0, .int .u8 0, .int .u8 0, .int .u8 0, .int .u8 0, .int .u8 0, .int .u8 0, .int .u8 0, .int .u8 0, .int .u8 0, .int .u8 0, .int .u8 0, .int .u8 0, .int .u8 0, .int .u8 0, .int .u8 0])).run Try.prog W = .ok true W := fun W => (ids_eq W zeroB zeroB rfl rfl).trans (by rw [decide_eq_true rfl])
  have p0 := hk.par.cell_ (i := 0) rfl
  have p1 := hk.par.cell_ (i := 1) rfl
  go_wp2_with (first
    | (go_at_call 55; (with_reducible refine (cO _).mono ?_); rintro e6 w6 ⟨rfl, hb6⟩)
    | ((with_reducible refine wpList_store_newid rfl _ _ rfl zeroB HLT.out rfl rfl (by with_unfolding_all rfl) ?_); intro w7 hx7 hb7; replace hk := (hk.below hb6).below hb7; replace hx4 := (hx4.below hb6).below hb7)
    | (with_reducible refine wpList_load_if (by with_unfolding_all rfl) 24 _ rfl _ _ rfl (zeroB.map u8v) _ hx4 hu (by with_unfolding_all rfl) hzS ?_)
    | (with_reducible refine wpList_load_if (by with_unfolding_all rfl) 24 _ rfl _ _ rfl (zeroB.map u8v) _ hx7 hu (by with_unfolding_all rfl) hzT ?_)
    | (go_at_call 54; (with_reducible refine (awake7_any _).mono ?_); rintro e9 w9 ⟨rfl, hb9⟩)
  )
  go_ret
  exact ⟨rfl, hk.bel.trans (hb9.mono hk.bel.size)⟩
set_option maxRecDepth 100000 in
set_option maxHeartbeats 40000000 in
theorem keys_no_big (s : List UInt8) (hs : 100 < s.length) (b h : Int) (hr : rgtP b h = false) (r : List UInt8) (hr32 : r.length = 32) (w : World) :
    Calls Try.prog 5 #[.agg #[.int .i64 b, .int .i64 h], .string (txt s), .agg (idVals r)] w fun e w' => e = .returned (.bool true) ∧ Below w.heap.size w w' := by
  have hu := Try.underlying24
  have mixed : Try.prog.follows .mixedOrders = true := by kernel_rfl
  have cR := fun W => kright_any b h W
  have cRR := fun W => rright7_any b h W
  have cL := fun W => kleaves_any b h W
  rw [hr] at cR cRR
  have hl0 : lvs b h = 0 := by unfold lvs; rw [hr]; rfl
  have hl : lgP b h = false := by unfold lgP; rw [hr]; rfl
  rw [hl0] at cL
  have cK : ∀ W : World, Calls Try.prog 50 #[.agg #[.int .i64 b, .int .i64 h], .agg (List.map u8v r).toArray] W fun e w' => e = .returned (.tuple #[.agg (idVals zeroB), .int .i64 1]) ∧ Below W.heap.size W w' := fun W => key_no b h hr r W
  have lS : zeroB.length = 32 := rfl
  have hzr : (Try.prog.info? 24).map (·.size) = some (r.map u8v).length := by rw [List.length_map, hr32]; exact sizeId
  have hzS : (Try.prog.info? 24).map (·.size) = some (zeroB.map u8v).length := by rw [List.length_map, lS]; exact sizeId
  have l1 : (100 : Int) < s.length := by omega
  have HLS := hid lS
  clear hr hr32 lS hl0
  go_enter Try.func5, Try.ntmps5
  go_wp2_with (fail)
  have h0 := PrS.new w b h r
  generalize (w.alloc (.cells #[.int .i64 b, .int .i64 h] 63)).alloc (.cells (idVals r) 24) = w0 at *
  refine (cRR _).mono ?_
  rintro e1 w1 ⟨rfl, hb1⟩
  have hk := h0.below hb1
  have p0 := hk.par.cell_ (i := 0) rfl
  have p1 := hk.par.cell_ (i := 1) rfl
  have hx1 := range_blk hk.root
  clear h0 hb1
  go_wp2_with (first
    | (with_reducible refine wpList_load_if (by with_unfolding_all rfl) 24 _ rfl _ _ rfl (r.map u8v) _ hx1 hu (by with_unfolding_all rfl) hzr ?_)
    | (go_at_call 50; (with_reducible refine (cK _).mono ?_); rintro e3 w3 ⟨rfl, hb3⟩)
    | ((with_reducible refine wpList_store_newid rfl _ _ rfl zeroB HLS.out rfl rfl (by with_unfolding_all rfl) ?_); intro w4 hx4 hb4))
  replace hk := (hk.below hb3).below hb4
  clear p0 p1 hx1 hb3 hb4 cK
  generalize w3.heap.size = g4 at *
  have fp0 : ∀ p : LaterW w4, p.w.cell? ⟨w.heap.size, 0, none⟩ = some (.int .i64 b) := fun p => (hk.below p.h).par.cell_ (i := 0) rfl
  have fp1 : ∀ p : LaterW w4, p.w.cell? ⟨w.heap.size, 1, none⟩ = some (.int .i64 h) := fun p => (hk.below p.h).par.cell_ (i := 1) rfl
  refine wp_region_later mixed (by kernel_rfl) ?_
  repeat (first
    | ((with_reducible refine wpQuiet_skip (by with_unfolding_all rfl) ?_); simp only [Act.put, List.setIfInBounds_toArray, List.set_cons_zero, List.set_cons_succ])
    | ((with_reducible refine wpQuiet_step (fun K hK => ?_)); go_simp; first | ((with_reducible refine hK _ ?_); clear hK K) | (with_reducible apply Exists.intro; (with_reducible refine ⟨fun _ => ?_, hK _ ?_⟩); ((first | (go_at_call 51; exact later_of (cR _)) | (go_at_call 48; exact later_of (cRR _)) | (go_at_call 52; exact later_of (cL _)))); clear hK K)))
  with_reducible refine wpQuiet_nil ?_
  intro _ hw'
  obtain ⟨p, rfl⟩ := hw'
  have hp := p.h
  generalize p.w = w5 at *
  replace hk := hk.below hp
  replace hx4 := hx4.below hp
  clear fp0 fp1 hp
  go_wp2
  have fp0 : ∀ p : LaterW w5, p.w.cell? ⟨w.heap.size, 0, none⟩ = some (.int .i64 b) := fun p => (hk.below p.h).par.cell_ (i := 0) rfl
  have fp1 : ∀ p : LaterW w5, p.w.cell? ⟨w.heap.size, 1, none⟩ = some (.int .i64 h) := fun p => (hk.below p.h).par.cell_ (i := 1) rfl
  refine wp_region_later mixed (by kernel_rfl) ?_
  repeat (first
    | ((with_reducible refine wpQuiet_skip (by with_unfolding_all rfl) ?_); simp only [Act.put, List.setIfInBounds_toArray, List.set_cons_zero, List.set_cons_succ])
    | ((with_reducible refine wpQuiet_step (fun K hK => ?_)); go_simp; first | ((with_reducible refine hK _ ?_); clear hK K) | (with_reducible apply Exists.intro; (with_reducible refine ⟨fun _ => ?_, hK _ ?_⟩); ((first | (go_at_call 51; exact later_of (cR _)) | (go_at_call 48; exact later_of (cRR _)) | (go_at_call 52; exact later_of (cL _)) | (go_at_call 54; exact later_of (awake7_any _)))); clear hK K)))
  with_reducible refine wpQuiet_nil ?_
  intro _ hw'
  obtain ⟨p, rfl⟩ := hw'
  have hp := p.h
  generalize p.w = w6 at *
  replace hk := hk.below hp
  go_wp2
  go_ret
  exact ⟨rfl, hk.bel⟩
section
variable {H : Type} {enc : TypeId × Value → H} {w : World} {r : Reach} {base b0 : Nat} {sp : Nat → Bool} {hd : Bool}
set_option maxRecDepth 100000 in
/-- Params that came in. -/
theorem open_params {v : Value} {d : DataW H} {ps : List MemPlace} (hv : Value.okWide Try.prog w r b0 63 v) (h : DataW.Trod enc Try.prog w base sp hd 63 v d ps) :
    ∃ b h : Int, v = .agg #[.int .i64 b, .int .i64 h] ∧ (Lit.int .i64 b).wf = true ∧ (Lit.int .i64 h).wf = true := by
  simp only [Value.okWide, Try.underlying63] at hv
  obtain ⟨cs, rfl, hsz, _⟩ := hv
  obtain ⟨fuel, hf⟩ := h
  cases fuel with
  | zero => simp [DataW.trod] at hf
  | succ k =>
    rw [DataW.trod_step] at hf
    unfold DataW.trodStep at hf
    simp only [Try.underlying63, Value.cells] at hf
    have hc2 : Try.prog.cellsOf 63 = 2 := by kernel_rfl
    have hc1 : Try.prog.cellsOf 3 = 1 := by kernel_rfl
    rw [hc2] at hsz
    rw [if_pos (by rw [hc2, Array.length_toList, hsz])] at hf
    simp only [Option.map_eq_some_iff] at hf
    obtain ⟨xs, hx, _⟩ := hf
    have hy := mapM_each _ _ hx
    obtain ⟨y0, h0⟩ := hy _ (List.mem_cons_self)
    obtain ⟨y1, h1⟩ := hy _ (List.mem_cons_of_mem _ (List.mem_cons_self))
    simp only [hc1] at h0 h1
    obtain ⟨b, e0, _, w0⟩ := DataW.trod_int Try.underlying3 h0
    obtain ⟨h, e1, _, w1⟩ := DataW.trod_int Try.underlying3 h1
    refine ⟨b, h, ?_, w0, w1⟩
    obtain ⟨x, y, hxy⟩ : ∃ x y, cs = #[x, y] := by
      obtain ⟨l⟩ := cs
      simp at hsz
      match l, hsz with
      | [x, y], _ => exact ⟨x, y, rfl⟩
    subst hxy
    simp at e0 e1
    rw [e0, e1]
end
theorem keytreeKeys_any (s : List UInt8) (b h : Int) (r : List UInt8) (hr32 : r.length = 32) (w : World) :
    Calls Try.prog 5 #[.agg #[.int .i64 b, .int .i64 h], .string (txt s), .agg (idVals r)] w fun e w' => e = .returned (.bool true) ∧ Below w.heap.size w w' := by
  cases hq : rgtP b h with
  | false =>
    by_cases hs : s.length ≤ 100
    · exact keys_no s hs b h hq r hr32 w
    · exact keys_no_big s (by omega) b h hq r hr32 w
  | true =>
    obtain ⟨h1, h2, h3⟩ := rgtP_parts hq
    have h4 := rgt_le9 h1
    obtain ⟨n, rfl⟩ : ∃ n : Nat, b = n := ⟨b.toNat, by omega⟩
    obtain ⟨m, rfl⟩ : ∃ m : Nat, h = m := ⟨h.toNat, by omega⟩
    by_cases hs : s.length ≤ 100
    · cases hl : lgP n m with
      | false => exact keys_ok s hs n m hq hl r hr32 w
      | true => exact keys_large s hs n m hq hl r hr32 w
    · exact keys_big s (by omega) n m hq r hr32 w
set_option linter.unusedVariables false in
theorem law_KeytreeKeys (w : World) (a0 : Int) (w0 : (Lit.int .i64 a0).wf = true) (x0 : Int) (u0 : (Lit.int .i64 x0).wf = true) (a1 : ByteArray) (w1 : a1.size ≤ maxLen) (a2 : List UInt8) (w2 : a2.length = 32) :
    Calls Try.prog 5 #[.agg #[.int .i64 a0, .int .i64 x0], .string a1, .agg (idVals a2)] w fun e w' => e = .returned (.bool true) ∧ Below w.heap.size w w' := by
  exact keytreeKeys_any a1.data.toList a0 x0 a2 w2 w

open Go.ChangeShapes Go.WideShapes Go.ChangeAt
open Go.ChangeMaps (open_string shut_string)
theorem own_KeytreeKeys : ownKnob Try.prog.godebug = none := by kernel_rfl
theorem laidOut_KeytreeKeys : laidOutB Try.prog = true := by kernel_rfl
set_option linter.unusedVariables false in
set_option maxRecDepth 100000 in
theorem lifted_KeytreeKeys (os : Os) (started : os.Started) (H : Type) (enc : TypeId × Value → H) :
    ReturnsInHanded {} Try.checked os 5 .any (Rows.keytreeKeysSpec.pre6 enc Try.prog Try.f5 Rows.keytreeKeysRow.domain false) (Rows.keytreeKeysSpec.post enc Try.prog Try.f5 false true false false) := by
  refine returnsInHanded_of_change (C := Try.checked) own_KeytreeKeys started (by kernel_rfl) Try.func5
    (ChangeSpec.witness6 (enc := enc) (C := Try.checked) false ⟨#[], #[.agg #[.int .i64 0, .int .i64 0], .string ByteArray.empty, .agg #[.int .u8 0, .int .u8 0, .int .u8 0, .int .u8 0, .int .u8 0, .int .u8 0, .int .u8 0, .int .u8 0, .int .u8 0, .int .u8 0, .int .u8 0, .int .u8 0, .int .u8 0, .int .u8 0, .int .u8 0, .int .u8 0, .int .u8 0, .int .u8 0, .int .u8 0, .int .u8 0, .int .u8 0, .int .u8 0, .int .u8 0, .int .u8 0, .int .u8 0, .int .u8 0, .int .u8 0, .int .u8 0, .int .u8 0, .int .u8 0, .int .u8 0, .int .u8 0]], []⟩ 8 (by kernel_rfl) (by kernel_rfl) (by kernel_rfl) (by kernel_rfl)) ?_
  intro W base args ds gs before hval0 hW hcnd _
  have hval : ∀ (j : Nat) t v, Try.f5.params[j]? = some t → args[j]? = some v → Value.okWide Try.prog W .any base t v := hval0
  have hW' := hW
  obtain ⟨p, q, hA0, hV, rfl, hfz, hnd⟩ := hW
  have hA1 : DataW.TrodAll enc Try.prog W 0 (fun _ => true) true Try.f5.params.toList args.toList ds p := hA0
  have hA : DataW.TrodAll enc Try.prog W 0 (fun _ => true) true Try.f5.params.toList args.toList ds p := hA0
  rw [Try.params5] at hA hval
  obtain ⟨v0, vs0, d0, ds0, p0, q0, hargs, rfl, rfl, h0, r0⟩ := trodAll_cons hA
  obtain ⟨v1, vs1, d1, ds1, p1, q1, rfl, rfl, rfl, h1, r1⟩ := trodAll_cons r0
  obtain ⟨v2, vs2, d2, ds2, p2, q2, rfl, rfl, rfl, h2, r2⟩ := trodAll_cons r1
  obtain ⟨rfl, rfl, rfl⟩ := trodAll_nil r2
  obtain rfl : args = #[v0, v1, v2] := by cases args; simp_all
  obtain ⟨rfl, rfl⟩ := trodVars_none hV
  obtain ⟨a0, x0, rfl, w0, u0⟩ := open_params (hval 0 63 v0 rfl rfl) h0
  obtain ⟨a1, rfl, rfl, rfl, w1⟩ := open_string Try.underlying9 (hval 1 9 v1 rfl rfl) h1
  obtain ⟨a2, w2, rfl⟩ := open_id Try.underlying24 Try.underlying5 (by kernel_rfl) (by kernel_rfl) (hval 2 24 v2 rfl rfl) h2
  clear hA0 hval0
  refine (law_KeytreeKeys W a0 w0 x0 u0 a1 w1 a2 w2).mono fun e W' ⟨he, bel⟩ => ?_
  subst he
  exact ⟨_, rfl, _, _, _, [], _, [], hW', trodAll_mk1 (shut_bool Try.underlying4 _), trodAll_stays laidOut_KeytreeKeys bel (by kernel_rfl) hA1, rfl, bel.frame _, fun h => by cases h⟩

/-- The statement. -/
theorem KeytreeKeys_holds : Rows.KeytreeKeysSaid :=
  OpenClaim.holds_of_wide 5 Try.f5 rfl rfl rfl rfl rfl rfl rfl ⟨rfl, rfl, rfl, rfl, rfl⟩ rfl rfl rfl rfl rfl (by kernel_rfl) Try.func5 (by kernel_rfl)
    (of_decide_eq_true (by kernel_rfl)) (by unfold Func.isWrapper; first | (rw [if_pos (by decide +kernel)]; kernel_rfl) | (rw [if_neg (by decide +kernel)]; exact ⟨rfl, rfl⟩))
    (fun os started H enc _ => lifted_KeytreeKeys os started H enc)
#print axioms KeytreeKeys_holds
end Go.Proofs.Ytfdbgmnnahcejaa


/- Proved: for every two ids, text and number, quitclaimlaw04.IdTexts returns true and leaves its arguments as they were. No conditions. -/
import Derived.Test.YtlobagjeiocolaaId7
namespace Go.Proofs.Ytlobagjeiocolaa
open Go.RowKit Go.Qc
attribute [local go_sem] txt_size

theorem parse_both (s : List UInt8) : ∃ (U : List UInt8) (E : Int) (K : Bool), U.length = 32 ∧ ((E = 0 ∧ K = true) ∨ (E = 3 ∧ K = false)) ∧
    (∀ W : World, Calls Try.prog 21 #[.string (txt s)] W fun e w' => e = .returned (.tuple #[.agg (idVals U), .int .i64 E]) ∧ Below W.heap.size W w') ∧
    (∀ W : World, Calls Try.prog 25 #[.string (txt s)] W fun e w' => e = .returned (.tuple #[.agg (idVals U), .bool K]) ∧ Below W.heap.size W w') := by
  refine ⟨if hexOk s then unhex s else zeroB, if hexOk s then 0 else 3, decide (hexOk s), ?_, ?_, fun W => parse_any s W, fun W => rparse_any s W⟩
  · split
    · exact unhex_length s
    · rfl
  · by_cases h : hexOk s
    · exact .inl ⟨by rw [if_pos h], decide_eq_true h⟩
    · exact .inr ⟨by rw [if_neg h], decide_eq_false h⟩
theorem bytes_both (s : List UInt8) : ∃ (Q : List UInt8) (E : Int), Q.length = 32 ∧ (((((s.length : Nat) : Int) != 32) = false ∧ Q = s ∧ E = 0) ∨ ((((s.length : Nat) : Int) != 32) = true ∧ Q = zeroB ∧ E = 3)) ∧
    (∀ W : World, Calls Try.prog 26 #[.string (txt s)] W fun e w' => e = .returned (.tuple #[.agg (idVals Q), .int .i64 E]) ∧ Below W.heap.size W w') := by
  by_cases h : s.length = 32
  · exact ⟨s, 0, h, .inl ⟨by rw [h]; rfl, rfl, rfl⟩, fun W => idBytes_ok s h W⟩
  · exact ⟨zeroB, 3, rfl, .inr ⟨by simp only [bne_iff_ne, ne_eq]; omega, rfl, rfl⟩, fun W => idBytes_no s h W⟩
theorem bit_both (a : List UInt8) (ha : a.length = 32) (i : Int) :
    ((i < 0 ∨ ¬ i < 0 ∧ 255 < i) ∧ ∀ W : World, Calls Try.prog 28 #[.agg (a.map u8v).toArray, .int .i64 i] W fun e w' => e = .returned (.int .i64 0) ∧ Below W.heap.size W w') ∨
    ((¬ i < 0 ∧ ¬ 255 < i) ∧ ∃ D : Int, (∀ W : World, Calls Try.prog 28 #[.agg (a.map u8v).toArray, .int .i64 i] W fun e w' => e = .returned (.int .i64 D) ∧ Below W.heap.size W w') ∧
      (∀ W : World, Calls Try.prog 29 #[.string (txt a), .int .i64 i] W fun e w' => e = .returned (.int .i64 D) ∧ W = w')) := by
  by_cases h1 : i < 0
  · exact .inl ⟨.inl h1, fun W => idBit_no a i (.inl h1) W⟩
  · by_cases h2 : 255 < i
    · exact .inl ⟨.inr ⟨h1, h2⟩, fun W => idBit_no a i (.inr h2) W⟩
    · obtain ⟨n, rfl⟩ := Int.eq_ofNat_of_zero_le (Int.not_lt.1 h1)
      have h8 : n / 8 < (txt a).size := by rw [txt_size, ha]; omega
      exact .inr ⟨⟨h1, h2⟩, _, fun W => idBit_any a ha n h8 W, fun W => rbit_any (txt a) n (by omega) h8 W⟩

set_option maxRecDepth 100000 in
set_option maxHeartbeats 20000000 in
theorem idTexts_any (a b : List UInt8) (ha : a.length = 32) (hb : b.length = 32) (s : List UInt8) (i : Int) (hs : s.length ≤ 9223372036854775807) (w : World) :
    Calls Try.prog 6 #[.agg (idVals a), .agg (idVals b), .string (txt s), .int .i64 i] w fun e w' => e = .returned (.bool true) ∧ Below w.heap.size w w' := by
  have hA := (Blk.new w 29 (idVals a)).alloc (.cells (idVals b) 29)
  have hBk := Blk.new (w.alloc (.cells (idVals a) 29)) 29 (idVals b)
  have hk : (w.alloc (.cells (idVals a) 29)).heap.size = w.heap.size + 1 := by simp
  rw [hk] at hBk
  have hB : Below w.heap.size w ((w.alloc (.cells (idVals a) 29)).alloc (.cells (idVals b) 29)) := two_below w a b
  have hra := range_blk hA
  have hrb := range_blk hBk
  have hza : (Try.prog.info? 29).map (·.size) = some (a.map u8v).length := by rw [List.length_map, ha]; exact sizeId
  have hzb : (Try.prog.info? 29).map (·.size) = some (b.map u8v).length := by rw [List.length_map, hb]; exact sizeId
  have hu := Try.underlying29
  have hea : ∀ W, (Op.equalIn 10000 29 (.agg (List.map u8v a).toArray) (.agg (List.map u8v a).toArray)).run Try.prog W = .ok true W := fun W => (ids_eq W a a ha ha).trans (by rw [decide_eq_true rfl])
  have cP : ∀ W, Calls Try.prog 21 #[.string (txt (hexB a))] W fun e w' => e = .returned (.tuple #[.agg (idVals a), .int .i64 0]) ∧ Below W.heap.size W w' := fun W => by
    have h := parse_any (hexB a) W
    rw [if_pos (hexOk_hexB a ha), if_pos (hexOk_hexB a ha), unhex_hexB a ha] at h
    exact h
  have HA := hid ha
  have HB := hid hb
  have HCP := hid cP
  have HS := hid hs
  have mixed : Try.prog.follows .mixedOrders = true := by kernel_rfl
  clear ha hb hA hBk hk cP hs
  by_cases hl : s.length ≤ 100
  · have l1 : ¬ (100 : Int) < s.length := by omega
    have HL := hid hl
    clear hl
    go_enter Try.func6, Try.ntmps6
    go_wp2_with (first
      | (with_reducible refine wpList_load_if (by with_unfolding_all rfl) 29 _ rfl _ 0 rfl (a.map u8v) _ hra hu (by with_unfolding_all rfl) hza ?_)
      | (go_at_call 20; (refine (hex_any a HA.out _).mono ?_); rintro e1 w1 ⟨rfl, hb1⟩; replace hra := hra.below hb1; replace hrb := hrb.below hb1; replace hB := hB.trans (hb1.mono hB.size))
      | (go_at_call 21; (refine (HCP.out _).mono ?_); rintro e2 w2 ⟨rfl, hb2⟩; replace hra := hra.below hb2; replace hrb := hrb.below hb2; replace hB := hB.trans (hb2.mono hB.size))
      | ((with_reducible refine wpList_store_newid rfl _ _ rfl a HA.out rfl rfl (by with_unfolding_all rfl) ?_); intro w3 hrk hb3; replace hra := hra.below hb3; replace hrb := hrb.below hb3; replace hB := hB.trans (hb3.mono hB.size)))
    have fra := range_later hra
    have frb := range_later hrb
    have frk := range_later hrk
    have hltl : ∀ W : World, Calls Try.prog 23 #[.agg (List.map u8v a).toArray, .agg (List.map u8v b).toArray] W fun e w' => e = .returned (.bool (ltB a b)) ∧ Below W.heap.size W w' := fun W => less_any a b HA.out HB.out W
    have hltr : ∀ W : World, Calls Try.prog 24 #[.agg (List.map u8v a).toArray, .agg (List.map u8v b).toArray] W fun e w' => e = .returned (.bool (ltB a b)) ∧ Below W.heap.size W w' := fun W => rless_any a b HA.out HB.out W
    have hrx : ∀ W : World, Calls Try.prog 22 #[.agg (List.map u8v a).toArray] W fun e w' => e = .returned (.string (txt (hexB a))) ∧ Below W.heap.size W w' := fun W => rhex_any a HA.out W
    generalize ltB a b = L at *
    refine wp_region_later mixed (by kernel_rfl) ?_
    repeat (first
      | ((with_reducible refine wpQuiet_skip (by with_unfolding_all rfl) ?_); simp only [Act.put, List.setIfInBounds_toArray, List.set_cons_zero, List.set_cons_succ])
      | ((with_reducible refine wpQuiet_load_if (by with_unfolding_all rfl) 29 _ rfl _ 0 rfl (a.map u8v) _ fra hu (by with_unfolding_all rfl) hza ?_); simp only [Act.put, List.setIfInBounds_toArray, List.set_cons_zero, List.set_cons_succ])
      | ((with_reducible refine wpQuiet_load_if (by with_unfolding_all rfl) 29 _ rfl _ 0 rfl (b.map u8v) _ frb hu (by with_unfolding_all rfl) hzb ?_); simp only [Act.put, List.setIfInBounds_toArray, List.set_cons_zero, List.set_cons_succ])
      | ((with_reducible refine wpQuiet_load_if (by with_unfolding_all rfl) 29 _ rfl _ 0 rfl (a.map u8v) _ frk hu (by with_unfolding_all rfl) hza ?_); simp only [Act.put, List.setIfInBounds_toArray, List.set_cons_zero, List.set_cons_succ])
      | ((with_reducible refine wpQuiet_step (fun K hK => ?_)); go_simp; first | ((with_reducible refine hK _ ?_); clear hK K) | (with_reducible apply Exists.intro; (with_reducible refine ⟨fun _ => ?_, hK _ ?_⟩); (first | (go_at_call 22; exact later_of (hrx _)) | (go_at_call 23; exact later_of (hltl _)) | (go_at_call 24; exact later_of (hltr _))); clear hK K)))
    with_reducible refine wpQuiet_nil ?_
    intro _ hw'
    obtain ⟨p, rfl⟩ := hw'
    have hp := p.h
    clear fra frb frk hltl hltr hrx hrk hrb
    generalize p.w = w4 at *
    replace hra := hra.below hp
    replace hB := hB.trans (hp.mono hB.size)
    clear hp hb1 hb2 hb3 HCP hea HS
    obtain ⟨U, E, K, hU, hEK, cP, cR⟩ := parse_both s
    obtain ⟨Q, G, hQl, hQG, cB⟩ := bytes_both s
    have hzU : (Try.prog.info? 29).map (·.size) = some (U.map u8v).length := by rw [List.length_map, hU]; exact sizeId
    have hzQ : (Try.prog.info? 29).map (·.size) = some (Q.map u8v).length := by rw [List.length_map, hQl]; exact sizeId
    have heU : ∀ W, (Op.equalIn 10000 29 (.agg (List.map u8v U).toArray) (.agg (List.map u8v U).toArray)).run Try.prog W = .ok true W := fun W => (ids_eq W U U hU hU).trans (by rw [decide_eq_true rfl])
    have cX : ∀ W : World, Calls Try.prog 27 #[.agg (List.map u8v Q).toArray] W fun e w' => e = .returned (.string (txt Q)) ∧ Below W.heap.size W w' := fun W => rid_any Q hQl W
    have cY : ∀ W : World, Calls Try.prog 27 #[.agg (List.map u8v a).toArray] W fun e w' => e = .returned (.string (txt a)) ∧ Below W.heap.size W w' := fun W => rid_any a HA.out W
    have heZ : ∀ W, (Op.equalIn 10000 29 (.agg (List.map u8v zeroB).toArray) (.agg #[.int .u8 0, .int .u8 0, .int .u8 0, .int .u8 0, .int .u8 0, .int .u8 0, .int .u8 0, .int .u8 0, .int .u8 0, .int .u8 0, .int .u8 0, .int .u8 0, .int .u8 0, .int .u8 0, .int .u8 0, .int .u8 0, .int .u8 0, .int .u8 0, .int .u8 0, .int .u8 0, .int .u8 0, .int .u8 0, .int .u8 0, .int .u8 0, .int .u8 0, .int .u8 0, .int .u8 0, .int .u8 0, .int .u8 0, .int .u8 0, .int .u8 0, .int .u8 0])).run Try.prog W = .ok true W := fun W => (ids_eq W zeroB zeroB rfl rfl).trans (by rw [decide_eq_true rfl])
    have hII := bit_both a HA.out i
    have HU := hid hU
    have HQ := hid hQl
    have HII := hid hII
    have HQG := hid hQG
    clear hU hQl hII hQG
    clear p
    rcases hEK with ⟨rfl, rfl⟩ | ⟨rfl, rfl⟩
    · go_wp2_with (first
        | (go_at_call 21; (with_reducible refine (cP _).mono ?_); rintro e5 w5 ⟨rfl, hb5⟩; replace hra := hra.below hb5; (try replace hU1 := hU1.below hb5); (try replace hU2 := hU2.below hb5); (try replace hQ := hQ.below hb5); replace hB := hB.trans (hb5.mono hB.size))
        | (go_at_call 25; (with_reducible refine (cR _).mono ?_); rintro e6 w6 ⟨rfl, hb6⟩; replace hra := hra.below hb6; (try replace hU1 := hU1.below hb6); (try replace hU2 := hU2.below hb6); (try replace hQ := hQ.below hb6); replace hB := hB.trans (hb6.mono hB.size))
        | (have hz7 := hU1; (with_reducible refine wpList_store_newid rfl _ _ rfl U HU.out rfl rfl (by with_unfolding_all rfl) ?_); intro w8 hU2 hb8; replace hra := hra.below hb8; (try replace hU1 := hU1.below hb8); replace hB := hB.trans (hb8.mono hB.size))
        | ((with_reducible refine wpList_store_newid rfl _ _ rfl U HU.out rfl rfl (by with_unfolding_all rfl) ?_); intro w7 hU1 hb7; replace hra := hra.below hb7; replace hB := hB.trans (hb7.mono hB.size))
        | (with_reducible refine wpList_load_if (by with_unfolding_all rfl) 29 _ rfl _ 0 rfl (U.map u8v) _ hU1 hu (by with_unfolding_all rfl) hzU ?_)
        | (with_reducible refine wpList_load_if (by with_unfolding_all rfl) 29 _ rfl _ 0 rfl (U.map u8v) _ hU2 hu (by with_unfolding_all rfl) hzU ?_))
      refine (cB _).mono ?_
      rintro e9 w9 ⟨rfl, hb9⟩
      clear hU1 hU2
      replace hra := hra.below hb9
      replace hB := hB.trans (hb9.mono hB.size)
      rcases HQG.out with ⟨hl2, hq, rfl⟩ | ⟨hl2, hq, rfl⟩
      · have cX2 : ∀ W : World, Calls Try.prog 27 #[.agg (List.map u8v Q).toArray] W fun e w' => e = .returned (.string (txt s)) ∧ Below W.heap.size W w' := by intro W; rw [← hq]; exact cX W
        have HQS := hid hq
        clear hq
        go_wp2_with (first
          | ((with_reducible refine wpList_store_newid rfl _ _ rfl Q HQ.out rfl rfl (by with_unfolding_all rfl) ?_); intro w10 hQ hb10; replace hra := hra.below hb10; replace hB := hB.trans (hb10.mono hB.size))
          | (with_reducible refine wpList_load_if (by with_unfolding_all rfl) 29 _ rfl _ 0 rfl (Q.map u8v) _ hQ hu (by with_unfolding_all rfl) hzQ ?_)
          | (go_at_call 27; (with_reducible refine (cX2 _).mono ?_); rintro e15 w15 ⟨rfl, hb15⟩; replace hra := hra.below hb15; replace hB := hB.trans (hb15.mono hB.size))
          | (with_reducible refine wpList_load_if (by with_unfolding_all rfl) 29 _ rfl _ 0 rfl (a.map u8v) _ hra hu (by with_unfolding_all rfl) hza ?_))
        rcases HII.out with ⟨hi, cI⟩ | ⟨⟨hi1, hi2⟩, D, cI, cJ⟩
        · refine (cI _).mono ?_
          rintro e11 w11 ⟨rfl, hb11⟩
          replace hB := hB.trans (hb11.mono hB.size)
          clear hra hQ
          rcases hi with hi | ⟨hi, hi2⟩
          · go_wp2_with (first
              | (go_at_call 19; (with_reducible refine (awake4_any _).mono ?_); rintro e12 w12 ⟨rfl, hb12⟩; replace hB := hB.trans (hb12.mono hB.size)))
            go_ret
            exact ⟨rfl, hB⟩
          · go_wp2_with (first
              | (go_at_call 19; (with_reducible refine (awake4_any _).mono ?_); rintro e12 w12 ⟨rfl, hb12⟩; replace hB := hB.trans (hb12.mono hB.size)))
            go_ret
            exact ⟨rfl, hB⟩
        · refine (cI _).mono ?_
          rintro e11 w11 ⟨rfl, hb11⟩
          replace hra := hra.below hb11
          replace hB := hB.trans (hb11.mono hB.size)
          clear hQ
          go_wp2_with (first
            | (with_reducible refine wpList_load_if (by with_unfolding_all rfl) 29 _ rfl _ 0 rfl (a.map u8v) _ hra hu (by with_unfolding_all rfl) hza ?_)
            | (go_at_call 27; (with_reducible refine (cY _).mono ?_); rintro e13 w13 ⟨rfl, hb13⟩; replace hB := hB.trans (hb13.mono hB.size))
            | (go_at_call 29; (with_reducible refine (cJ _).mono ?_); rintro e14 w14 ⟨rfl, rfl⟩)
            | (go_at_call 19; (with_reducible refine (awake4_any _).mono ?_); rintro e12 w12 ⟨rfl, hb12⟩; replace hB := hB.trans (hb12.mono hB.size)))
          go_ret
          exact ⟨rfl, hB⟩
      · have heq : ∀ W, (Op.equalIn 10000 29 (.agg (List.map u8v Q).toArray) (.agg #[.int .u8 0, .int .u8 0, .int .u8 0, .int .u8 0, .int .u8 0, .int .u8 0, .int .u8 0, .int .u8 0, .int .u8 0, .int .u8 0, .int .u8 0, .int .u8 0, .int .u8 0, .int .u8 0, .int .u8 0, .int .u8 0, .int .u8 0, .int .u8 0, .int .u8 0, .int .u8 0, .int .u8 0, .int .u8 0, .int .u8 0, .int .u8 0, .int .u8 0, .int .u8 0, .int .u8 0, .int .u8 0, .int .u8 0, .int .u8 0, .int .u8 0, .int .u8 0])).run Try.prog W = .ok true W := by rw [hq]; exact heZ
        have HQS := hid hq
        clear hq
        go_wp2_with (first
          | ((with_reducible refine wpList_store_newid rfl _ _ rfl Q HQ.out rfl rfl (by with_unfolding_all rfl) ?_); intro w10 hQ hb10; replace hra := hra.below hb10; replace hB := hB.trans (hb10.mono hB.size))
          | (with_reducible refine wpList_load_if (by with_unfolding_all rfl) 29 _ rfl _ 0 rfl (Q.map u8v) _ hQ hu (by with_unfolding_all rfl) hzQ ?_)
          | (with_reducible refine wpList_load_if (by with_unfolding_all rfl) 29 _ rfl _ 0 rfl (a.map u8v) _ hra hu (by with_unfolding_all rfl) hza ?_))
        rcases HII.out with ⟨hi, cI⟩ | ⟨⟨hi1, hi2⟩, D, cI, cJ⟩
        · refine (cI _).mono ?_
          rintro e11 w11 ⟨rfl, hb11⟩
          replace hB := hB.trans (hb11.mono hB.size)
          clear hra hQ
          rcases hi with hi | ⟨hi, hi2⟩
          · go_wp2_with (first
              | (go_at_call 19; (with_reducible refine (awake4_any _).mono ?_); rintro e12 w12 ⟨rfl, hb12⟩; replace hB := hB.trans (hb12.mono hB.size)))
            go_ret
            exact ⟨rfl, hB⟩
          · go_wp2_with (first
              | (go_at_call 19; (with_reducible refine (awake4_any _).mono ?_); rintro e12 w12 ⟨rfl, hb12⟩; replace hB := hB.trans (hb12.mono hB.size)))
            go_ret
            exact ⟨rfl, hB⟩
        · refine (cI _).mono ?_
          rintro e11 w11 ⟨rfl, hb11⟩
          replace hra := hra.below hb11
          replace hB := hB.trans (hb11.mono hB.size)
          clear hQ
          go_wp2_with (first
            | (with_reducible refine wpList_load_if (by with_unfolding_all rfl) 29 _ rfl _ 0 rfl (a.map u8v) _ hra hu (by with_unfolding_all rfl) hza ?_)
            | (go_at_call 27; (with_reducible refine (cY _).mono ?_); rintro e13 w13 ⟨rfl, hb13⟩; replace hB := hB.trans (hb13.mono hB.size))
            | (go_at_call 29; (with_reducible refine (cJ _).mono ?_); rintro e14 w14 ⟨rfl, rfl⟩)
            | (go_at_call 19; (with_reducible refine (awake4_any _).mono ?_); rintro e12 w12 ⟨rfl, hb12⟩; replace hB := hB.trans (hb12.mono hB.size)))
          go_ret
          exact ⟨rfl, hB⟩
    · go_wp2_with (first
        | (go_at_call 21; (with_reducible refine (cP _).mono ?_); rintro e5 w5 ⟨rfl, hb5⟩; replace hra := hra.below hb5; (try replace hU1 := hU1.below hb5); (try replace hU2 := hU2.below hb5); (try replace hQ := hQ.below hb5); replace hB := hB.trans (hb5.mono hB.size))
        | (go_at_call 25; (with_reducible refine (cR _).mono ?_); rintro e6 w6 ⟨rfl, hb6⟩; replace hra := hra.below hb6; (try replace hU1 := hU1.below hb6); (try replace hU2 := hU2.below hb6); (try replace hQ := hQ.below hb6); replace hB := hB.trans (hb6.mono hB.size))
        | (have hz7 := hU1; (with_reducible refine wpList_store_newid rfl _ _ rfl U HU.out rfl rfl (by with_unfolding_all rfl) ?_); intro w8 hU2 hb8; replace hra := hra.below hb8; (try replace hU1 := hU1.below hb8); replace hB := hB.trans (hb8.mono hB.size))
        | ((with_reducible refine wpList_store_newid rfl _ _ rfl U HU.out rfl rfl (by with_unfolding_all rfl) ?_); intro w7 hU1 hb7; replace hra := hra.below hb7; replace hB := hB.trans (hb7.mono hB.size))
        | (with_reducible refine wpList_load_if (by with_unfolding_all rfl) 29 _ rfl _ 0 rfl (U.map u8v) _ hU1 hu (by with_unfolding_all rfl) hzU ?_)
        | (with_reducible refine wpList_load_if (by with_unfolding_all rfl) 29 _ rfl _ 0 rfl (U.map u8v) _ hU2 hu (by with_unfolding_all rfl) hzU ?_))
      refine (cB _).mono ?_
      rintro e9 w9 ⟨rfl, hb9⟩
      clear hU1 hU2
      replace hra := hra.below hb9
      replace hB := hB.trans (hb9.mono hB.size)
      rcases HQG.out with ⟨hl2, hq, rfl⟩ | ⟨hl2, hq, rfl⟩
      · have cX2 : ∀ W : World, Calls Try.prog 27 #[.agg (List.map u8v Q).toArray] W fun e w' => e = .returned (.string (txt s)) ∧ Below W.heap.size W w' := by intro W; rw [← hq]; exact cX W
        have HQS := hid hq
        clear hq
        go_wp2_with (first
          | ((with_reducible refine wpList_store_newid rfl _ _ rfl Q HQ.out rfl rfl (by with_unfolding_all rfl) ?_); intro w10 hQ hb10; replace hra := hra.below hb10; replace hB := hB.trans (hb10.mono hB.size))
          | (with_reducible refine wpList_load_if (by with_unfolding_all rfl) 29 _ rfl _ 0 rfl (Q.map u8v) _ hQ hu (by with_unfolding_all rfl) hzQ ?_)
          | (go_at_call 27; (with_reducible refine (cX2 _).mono ?_); rintro e15 w15 ⟨rfl, hb15⟩; replace hra := hra.below hb15; replace hB := hB.trans (hb15.mono hB.size))
          | (with_reducible refine wpList_load_if (by with_unfolding_all rfl) 29 _ rfl _ 0 rfl (a.map u8v) _ hra hu (by with_unfolding_all rfl) hza ?_))
        rcases HII.out with ⟨hi, cI⟩ | ⟨⟨hi1, hi2⟩, D, cI, cJ⟩
        · refine (cI _).mono ?_
          rintro e11 w11 ⟨rfl, hb11⟩
          replace hB := hB.trans (hb11.mono hB.size)
          clear hra hQ
          rcases hi with hi | ⟨hi, hi2⟩
          · go_wp2_with (first
              | (go_at_call 19; (with_reducible refine (awake4_any _).mono ?_); rintro e12 w12 ⟨rfl, hb12⟩; replace hB := hB.trans (hb12.mono hB.size)))
            go_ret
            exact ⟨rfl, hB⟩
          · go_wp2_with (first
              | (go_at_call 19; (with_reducible refine (awake4_any _).mono ?_); rintro e12 w12 ⟨rfl, hb12⟩; replace hB := hB.trans (hb12.mono hB.size)))
            go_ret
            exact ⟨rfl, hB⟩
        · refine (cI _).mono ?_
          rintro e11 w11 ⟨rfl, hb11⟩
          replace hra := hra.below hb11
          replace hB := hB.trans (hb11.mono hB.size)
          clear hQ
          go_wp2_with (first
            | (with_reducible refine wpList_load_if (by with_unfolding_all rfl) 29 _ rfl _ 0 rfl (a.map u8v) _ hra hu (by with_unfolding_all rfl) hza ?_)
            | (go_at_call 27; (with_reducible refine (cY _).mono ?_); rintro e13 w13 ⟨rfl, hb13⟩; replace hB := hB.trans (hb13.mono hB.size))
            | (go_at_call 29; (with_reducible refine (cJ _).mono ?_); rintro e14 w14 ⟨rfl, rfl⟩)
            | (go_at_call 19; (with_reducible refine (awake4_any _).mono ?_); rintro e12 w12 ⟨rfl, hb12⟩; replace hB := hB.trans (hb12.mono hB.size)))
          go_ret
          exact ⟨rfl, hB⟩
      · have heq : ∀ W, (Op.equalIn 10000 29 (.agg (List.map u8v Q).toArray) (.agg #[.int .u8 0, .int .u8 0, .int .u8 0, .int .u8 0, .int .u8 0, .int .u8 0, .int .u8 0, .int .u8 0, .int .u8 0, .int .u8 0, .int .u8 0, .int .u8 0, .int .u8 0, .int .u8 0, .int .u8 0, .int .u8 0, .int .u8 0, .int .u8 0, .int .u8 0, .int .u8 0, .int .u8 0, .int .u8 0, .int .u8 0, .int .u8 0, .int .u8 0, .int .u8 0, .int .u8 0, .int .u8 0, .int .u8 0, .int .u8 0, .int .u8 0, .int .u8 0])).run Try.prog W = .ok true W := by rw [hq]; exact heZ
        have HQS := hid hq
        clear hq
        go_wp2_with (first
          | ((with_reducible refine wpList_store_newid rfl _ _ rfl Q HQ.out rfl rfl (by with_unfolding_all rfl) ?_); intro w10 hQ hb10; replace hra := hra.below hb10; replace hB := hB.trans (hb10.mono hB.size))
          | (with_reducible refine wpList_load_if (by with_unfolding_all rfl) 29 _ rfl _ 0 rfl (Q.map u8v) _ hQ hu (by with_unfolding_all rfl) hzQ ?_)
          | (with_reducible refine wpList_load_if (by with_unfolding_all rfl) 29 _ rfl _ 0 rfl (a.map u8v) _ hra hu (by with_unfolding_all rfl) hza ?_))
        rcases HII.out with ⟨hi, cI⟩ | ⟨⟨hi1, hi2⟩, D, cI, cJ⟩
        · refine (cI _).mono ?_
          rintro e11 w11 ⟨rfl, hb11⟩
          replace hB := hB.trans (hb11.mono hB.size)
          clear hra hQ
          rcases hi with hi | ⟨hi, hi2⟩
          · go_wp2_with (first
              | (go_at_call 19; (with_reducible refine (awake4_any _).mono ?_); rintro e12 w12 ⟨rfl, hb12⟩; replace hB := hB.trans (hb12.mono hB.size)))
            go_ret
            exact ⟨rfl, hB⟩
          · go_wp2_with (first
              | (go_at_call 19; (with_reducible refine (awake4_any _).mono ?_); rintro e12 w12 ⟨rfl, hb12⟩; replace hB := hB.trans (hb12.mono hB.size)))
            go_ret
            exact ⟨rfl, hB⟩
        · refine (cI _).mono ?_
          rintro e11 w11 ⟨rfl, hb11⟩
          replace hra := hra.below hb11
          replace hB := hB.trans (hb11.mono hB.size)
          clear hQ
          go_wp2_with (first
            | (with_reducible refine wpList_load_if (by with_unfolding_all rfl) 29 _ rfl _ 0 rfl (a.map u8v) _ hra hu (by with_unfolding_all rfl) hza ?_)
            | (go_at_call 27; (with_reducible refine (cY _).mono ?_); rintro e13 w13 ⟨rfl, hb13⟩; replace hB := hB.trans (hb13.mono hB.size))
            | (go_at_call 29; (with_reducible refine (cJ _).mono ?_); rintro e14 w14 ⟨rfl, rfl⟩)
            | (go_at_call 19; (with_reducible refine (awake4_any _).mono ?_); rintro e12 w12 ⟨rfl, hb12⟩; replace hB := hB.trans (hb12.mono hB.size)))
          go_ret
          exact ⟨rfl, hB⟩
  · have l1 : (100 : Int) < s.length := by omega
    clear hl
    go_enter Try.func6, Try.ntmps6
    go_wp2_with (first
      | (go_at_call 19; (with_reducible refine (awake4_any _).mono ?_); rintro e1 w1 ⟨rfl, hb1⟩))
    go_ret
    exact ⟨rfl, hB.trans (hb1.mono hB.size)⟩
set_option linter.unusedVariables false in
theorem law_IdTexts (w : World) (a0 : List UInt8) (w0 : a0.length = 32) (a1 : List UInt8) (w1 : a1.length = 32) (a2 : ByteArray) (w2 : a2.size ≤ maxLen) (a3 : Int) (w3 : (Lit.int .i64 a3).wf = true) :
    Calls Try.prog 6 #[.agg (idVals a0), .agg (idVals a1), .string a2, .int .i64 a3] w fun e w' => e = .returned (.bool true) ∧ Below w.heap.size w w' :=
  idTexts_any a0 a1 w0 w1 a2.data.toList a3 (by have h : a2.data.toList.length = a2.size := (by simp); unfold maxLen at w2; omega) w

open Go.ChangeShapes Go.WideShapes Go.ChangeAt
open Go.ChangeMaps (open_string shut_string)
theorem own_IdTexts : ownKnob Try.prog.godebug = none := by kernel_rfl
theorem laidOut_IdTexts : laidOutB Try.prog = true := by kernel_rfl
set_option linter.unusedVariables false in
set_option maxRecDepth 100000 in
theorem lifted_IdTexts (os : Os) (started : os.Started) (H : Type) (enc : TypeId × Value → H) :
    ReturnsInHanded {} Try.checked os 6 .any (Rows.idTextsSpec.pre6 enc Try.prog Try.f6 Rows.idTextsRow.domain false) (Rows.idTextsSpec.post enc Try.prog Try.f6 false true false false) := by
  refine returnsInHanded_of_change (C := Try.checked) own_IdTexts started (by kernel_rfl) Try.func6
    (ChangeSpec.witness6 (enc := enc) (C := Try.checked) false ⟨#[], #[.agg #[.int .u8 0, .int .u8 0, .int .u8 0, .int .u8 0, .int .u8 0, .int .u8 0, .int .u8 0, .int .u8 0, .int .u8 0, .int .u8 0, .int .u8 0, .int .u8 0, .int .u8 0, .int .u8 0, .int .u8 0, .int .u8 0, .int .u8 0, .int .u8 0, .int .u8 0, .int .u8 0, .int .u8 0, .int .u8 0, .int .u8 0, .int .u8 0, .int .u8 0, .int .u8 0, .int .u8 0, .int .u8 0, .int .u8 0, .int .u8 0, .int .u8 0, .int .u8 0], .agg #[.int .u8 0, .int .u8 0, .int .u8 0, .int .u8 0, .int .u8 0, .int .u8 0, .int .u8 0, .int .u8 0, .int .u8 0, .int .u8 0, .int .u8 0, .int .u8 0, .int .u8 0, .int .u8 0, .int .u8 0, .int .u8 0, .int .u8 0, .int .u8 0, .int .u8 0, .int .u8 0, .int .u8 0, .int .u8 0, .int .u8 0, .int .u8 0, .int .u8 0, .int .u8 0, .int .u8 0, .int .u8 0, .int .u8 0, .int .u8 0, .int .u8 0, .int .u8 0], .string ByteArray.empty, .int .i64 0], []⟩ 8 (by kernel_rfl) (by kernel_rfl) (by kernel_rfl) (by kernel_rfl)) ?_
  intro W base args ds gs before hval0 hW hcnd _
  have hval : ∀ (j : Nat) t v, Try.f6.params[j]? = some t → args[j]? = some v → Value.okWide Try.prog W .any base t v := hval0
  have hW' := hW
  obtain ⟨p, q, hA0, hV, rfl, hfz, hnd⟩ := hW
  have hA1 : DataW.TrodAll enc Try.prog W 0 (fun _ => true) true Try.f6.params.toList args.toList ds p := hA0
  have hA : DataW.TrodAll enc Try.prog W 0 (fun _ => true) true Try.f6.params.toList args.toList ds p := hA0
  rw [Try.params6] at hA hval
  obtain ⟨v0, vs0, d0, ds0, p0, q0, hargs, rfl, rfl, h0, r0⟩ := trodAll_cons hA
  obtain ⟨v1, vs1, d1, ds1, p1, q1, rfl, rfl, rfl, h1, r1⟩ := trodAll_cons r0
  obtain ⟨v2, vs2, d2, ds2, p2, q2, rfl, rfl, rfl, h2, r2⟩ := trodAll_cons r1
  obtain ⟨v3, vs3, d3, ds3, p3, q3, rfl, rfl, rfl, h3, r3⟩ := trodAll_cons r2
  obtain ⟨rfl, rfl, rfl⟩ := trodAll_nil r3
  obtain rfl : args = #[v0, v1, v2, v3] := by cases args; simp_all
  obtain ⟨rfl, rfl⟩ := trodVars_none hV
  obtain ⟨a0, w0, rfl⟩ := open_id Try.underlying29 Try.underlying5 (by kernel_rfl) (by kernel_rfl) (hval 0 29 v0 rfl rfl) h0
  obtain ⟨a1, w1, rfl⟩ := open_id Try.underlying29 Try.underlying5 (by kernel_rfl) (by kernel_rfl) (hval 1 29 v1 rfl rfl) h1
  obtain ⟨a2, rfl, rfl, rfl, w2⟩ := open_string Try.underlying9 (hval 2 9 v2 rfl rfl) h2
  obtain ⟨a3, rfl, rfl, rfl, w3⟩ := open_int Try.underlying3 (hval 3 3 v3 rfl rfl) h3
  clear hA0 hval0
  refine (law_IdTexts W a0 w0 a1 w1 a2 w2 a3 w3).mono fun e W' ⟨he, bel⟩ => ?_
  subst he
  exact ⟨_, rfl, _, _, _, [], _, [], hW', trodAll_mk1 (shut_bool Try.underlying4 _), trodAll_stays laidOut_IdTexts bel (by kernel_rfl) hA1, rfl, bel.frame _, fun h => by cases h⟩

/-- The statement. -/
theorem IdTexts_holds : Rows.IdTextsSaid :=
  OpenClaim.holds_of_wide 6 Try.f6 rfl rfl rfl rfl rfl rfl rfl ⟨rfl, rfl, rfl, rfl, rfl⟩ rfl rfl rfl rfl rfl (by kernel_rfl) Try.func6 (by kernel_rfl)
    (of_decide_eq_true (by kernel_rfl)) (by unfold Func.isWrapper; first | (rw [if_pos (by decide +kernel)]; kernel_rfl) | (rw [if_neg (by decide +kernel)]; exact ⟨rfl, rfl⟩))
    (fun os started H enc _ => lifted_IdTexts os started H enc)
#print axioms IdTexts_holds

end Go.Proofs.Ytlobagjeiocolaa

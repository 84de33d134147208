
/- JournalBytes: whatever frames there are, of a chain, the program's Next, Bytes and All are the document's; what is written is scanned back. No condition. -/
import Derived.Test.YtfckbonblfcmnaaJn19
set_option linter.unusedSimpArgs false
set_option linter.unusedVariables false
namespace Go.Proofs.Ytfckbonblfcmnaa
open Go.RowKit Go.Qc Go.Shelf
attribute [local go_sem] txt_size txt_append ib_fold

set_option maxRecDepth 100000 in
set_option maxHeartbeats 20000000 in
theorem jb_far (C : List UInt8) (hC : C.length = 32) (A : Option Addr) (n c : Nat) (Xs : List FmD) (hn : Xs.length = n) (hN : n * 24 ≤ 140737488355328) (hf : ¬ (n ≤ 12 ∧ ∀ X ∈ Xs, X.p.length ≤ 300)) (w : World) (hA : FjRd w A Xs) :
    Calls Try.prog 3 #[.agg (idVals C), .slice A n c] w fun e w' => e = .returned (.bool true) ∧ Below w.heap.size w w' := by
  have cP := fun W hW => plain_far A n c Xs hn hN hf W hW
  have cA := awake25_any
  clear hf
  go_enter Try.func3, Try.ntmps3
  go_upto_region 1 with (fail)
  have hb := (Below.refl w.heap.size w).alloc (Nat.le_refl _) (.cells (idVals C) 23)
  have hA1 := hA.below hb
  generalize w.alloc (.cells (idVals C) 23) = w1 at *
  go_wp2_with (first
    | (go_at_call 5; (with_reducible refine (cP _ hA1).mono ?_); rintro e2 w2 ⟨v, rfl, hb2⟩)
    | (go_at_call 6; (with_reducible refine (cA _).mono ?_); rintro e3 w3 ⟨rfl, hb3⟩))
  go_ret
  have h2 := hb.trans (hb2.mono hb.size)
  exact ⟨rfl, h2.trans (hb3.mono h2.size)⟩
set_option maxRecDepth 100000 in
set_option maxHeartbeats 40000000 in
theorem jb_near (C : List UInt8) (hC : C.length = 32) (A : Option Addr) (n c : Nat) (Xs : List FmD) (hn : Xs.length = n) (h12 : n ≤ 12) (hp : ∀ X ∈ Xs, X.p.length ≤ 300) (w : World) (hA : FjRd w A Xs) :
    Calls Try.prog 3 #[.agg (idVals C), .slice A n c] w fun e w' => e = .returned (.bool true) ∧ Below w.heap.size w w' := by
  have cA := awake25_any
  have cP := fun W hW => plain_12 A n c Xs hn h12 hp W hW
  have HN := hid hn
  have HC := hid hC
  have hp5 : ∀ X ∈ Xs, X.p.length ≤ 5000 := fun X hX => Nat.le_trans (hp X hX) (by decide)
  have cAll := fun W hW => jall_any A n c Xs hn (by omega) hp5 W hW
  have hu := Try.underlying23
  have hLc : (Try.prog.info? 23).map (·.size) = some (C.map u8v).length := by rw [List.length_map, hC]; exact sizeId
  have hN3 : ∀ (V : World) (cs : Array Value), Blk (V.alloc (.cells cs 23)) V.heap.size 23 cs := fun V cs => Blk.new _ _ _
  clear hn hC
  go_enter Try.func3, Try.ntmps3
  go_upto_region 1 with (fail)
  have hbc := Blk.new w 23 (idVals C)
  have hb1 := (Below.refl w.heap.size w).alloc (Nat.le_refl _) (.cells (idVals C) 23)
  have hA1 := hA.below hb1
  generalize w.alloc (.cells (idVals C) 23) = w1 at *
  go_wp2_with (first
    | (go_at_call 5; (with_reducible refine (cP _ hA1).mono ?_); rintro e2 w2 ⟨B, d, rfl, hM, hb2⟩))
  have hA2 := hA1.below hb2
  replace hbc := hbc.below hb2
  have hb0 := hb1.trans (hb2.mono hb1.size)
  clear hA1 hb1 hb2 cP
  go_loopw [7, 32] (fun bad i W' => ∃ k : Nat, k ≤ n ∧ i = .int .i64 k ∧ bad = .int .i64 (badJ (Xs.take k)) ∧ Below w2.heap.size w2 W') (fun _ i _ => n - (intOf i).toNat)
  case atStart => exact ⟨0, by omega, rfl, (by rw [List.take_zero, badJ_nil]), Below.refl _ _⟩
  case round =>
    obtain ⟨k, hk, rfl, rfl, hb⟩ := hrel
    by_cases hlt : k < n
    · clear cAll
      obtain ⟨X, hX⟩ : ∃ X, Xs[k]? = some X := ⟨_, List.getElem?_eq_getElem (by rw [HN.out]; exact hlt)⟩
      by_cases hx : X.okF
      ·
        obtain ⟨g, q, hgx, hXo, hix⟩ := (hA2.below hb).pick c HN.out hX
        obtain ⟨g2, q2, hgm, _, hixm⟩ := (hM.below hb).pick d HN.out hX
        have hxp : X.p.length ≤ 5000 := Nat.le_trans (hp X (List.mem_of_getElem? hX)) (by decide)
        have b1 : (k : Int) < n := by omega
        have HLT := hid (show k + 1 ≤ n from hlt)
        have hal := (Below.refl wr.heap.size wr).alloc (Nat.le_refl _) (.cells X.cs 30)
        have HS : JbH w2.heap.size w2 w.heap.size C wr.heap.size X g2 q2 (wr.alloc (.cells X.cs 30)) :=
          ⟨(hbc.below hb).alloc _, FjX.new wr X, hgm.below hal, Nat.le_trans hb.size hal.size, hb.trans (hal.mono hb.size)⟩
        have HB := hid (badJ_yes hX hx)
        have cN := fun W => next_yes C HC.out X hx hxp W
        have cY := fun W => jbytes_yes C HC.out X hx hxp W
        have cW := fun W => wrong_yes X hx hxp W
        have cRN := fun W => rnext_yes C HC.out X hx hxp W
        have cRB := fun W => rbytes25_yes C HC.out X hx hxp W
        have hSl := nxtB_length C X
        generalize nxtB C X = C2 at *
        generalize frB C X = F at *
        generalize badJ (Xs.take k) = bd at *
        have hI2 : (Try.prog.info? 23).map (·.size) = some (idVals C2).size := by rw [idVals_size, hSl]; exact sizeId
        have hL2 : (Try.prog.info? 23).map (·.size) = some (C2.map u8v).length := by rw [List.length_map, hSl]; exact sizeId
        have h1d := idVals_one C2
        have heq : ∀ W, (Op.equalIn 10000 23 (.agg (List.map u8v C2).toArray) (.agg (List.map u8v C2).toArray)).run Try.prog W = .ok true W := fun W => (ids_eq W C2 C2 hSl hSl).trans (by rw [decide_eq_true rfl])
        have heq2 : ∀ W, (Op.equalIn 10000 23 (.agg (List.map u8v C2).toArray) (.agg (idVals C2))).run Try.prog W = .ok true W := heq
        have HSL := hid hSl
        have huR := Try.underlying37
        have hLf : (Try.prog.info? 37).map (·.size) = some X.cs.toList.length := by rw [Fr_info X hXo, Array.length_toList]
        clear hX hx hxp hSl hal hgm hb
        go_wp2_with (first
          | (with_reducible refine wpList_load_fjr (by with_unfolding_all rfl) _ rfl g q rfl hgx hXo ?_)
          | (with_reducible refine wpList_store_fjn rfl _ _ rfl rfl rfl hXo rfl ?_)
          | (with_reducible refine wpList_load_if (by with_unfolding_all rfl) 23 _ rfl _ _ rfl (C.map u8v) _ (range_blk HS.bc) hu rfl hLc ?_)
          | (with_reducible refine wpList_load_fjx (by with_unfolding_all rfl) _ rfl wr.heap.size rfl HS.fx hXo ?_)
          | (with_reducible refine wpList_load_frr (by with_unfolding_all rfl) _ rfl g2 q2 rfl HS.rm hXo ?_)
          | (go_at_call 7; (with_reducible refine (cN _).mono ?_); rintro e4 w4 ⟨rfl, hb4⟩; replace HS := HS.below hb4)
          | (with_reducible refine wpList_store_blk rfl 23 _ _ rfl w4.heap.size _ (idVals C2) 23 (hN3 _ _) rfl rfl hI2 ?c4 h1d ?_))
        case c4 => rw [idVals_size, HSL.out]; rfl
        intro w5 hz5 hg5
        replace HS := HS.below (below_new hg5)
        clear hb4 hg5 cN
        go_upto_region 18 with (first
          | (with_reducible refine wpList_load_fjr (by with_unfolding_all rfl) _ rfl g q rfl hgx hXo ?_)
          | (with_reducible refine wpList_store_fjn rfl _ _ rfl rfl rfl hXo rfl ?_)
          | (with_reducible refine wpList_load_if (by with_unfolding_all rfl) 23 _ rfl _ _ rfl (C.map u8v) _ (range_blk HS.bc) hu rfl hLc ?_)
          | (with_reducible refine wpList_load_fjx (by with_unfolding_all rfl) _ rfl wr.heap.size rfl HS.fx hXo ?_)
          | (with_reducible refine wpList_load_frr (by with_unfolding_all rfl) _ rfl g2 q2 rfl HS.rm hXo ?_)
          | (go_at_call 8; (with_reducible refine (cY _).mono ?_); rintro e6 w6 ⟨rfl, hb6⟩; replace HS := HS.below hb6; replace hz5 := hz5.below hb6; clear hb6)
          | (go_at_call 9; (with_reducible refine (cW _).mono ?_); rintro e7 w7 ⟨rfl, hb7⟩; replace HS := HS.below hb7; replace hz5 := hz5.below hb7; clear hb7))
        have r1 := range_later (range_blk hz5)
        have r2 := range_later (range_blk HS.bc)
        have r3 := range_later HS.rm
        clear cY cW hz5
        refine wp_region_later mixedJ (by kernel_rfl) ?_
        repeat (first
          | ((with_reducible refine wpQuiet_skip (by with_unfolding_all rfl) ?_); simp only [Act.put, List.setIfInBounds_toArray, List.set_cons_zero, List.set_cons_succ])
          | ((with_reducible refine wpQuiet_load_if (by with_unfolding_all rfl) 23 _ rfl _ _ rfl (C2.map u8v) _ r1 hu (by with_unfolding_all rfl) hL2 ?_); simp only [Act.put, List.setIfInBounds_toArray, List.set_cons_zero, List.set_cons_succ])
          | ((with_reducible refine wpQuiet_load_if (by with_unfolding_all rfl) 23 _ rfl _ _ rfl (C.map u8v) _ r2 hu (by with_unfolding_all rfl) hLc ?_); simp only [Act.put, List.setIfInBounds_toArray, List.set_cons_zero, List.set_cons_succ])
          | ((with_reducible refine wpQuiet_load_if (by with_unfolding_all rfl) 37 _ rfl _ _ rfl X.cs.toList _ r3 huR (by with_unfolding_all rfl) hLf ?_); simp only [Act.put, List.setIfInBounds_toArray, List.set_cons_zero, List.set_cons_succ])
          | ((with_reducible refine wpQuiet_step (fun K hK => ?_)); go_simp; first | ((with_reducible refine hK _ ?_); clear hK K) | (with_reducible apply Exists.intro; (with_reducible refine ⟨fun _ => ?_, hK _ ?_⟩); ((first | (go_at_call 10; exact later_of (cRN _)) | (go_at_call 11; exact later_of (cRB _)))); clear hK K)))
        with_reducible refine wpQuiet_nil ?_
        intro _ hw'
        obtain ⟨p9, rfl⟩ := hw'
        have hp9 := p9.h
        generalize p9.w = w8 at *
        replace HS := HS.below hp9
        have hb9 := HS.hb
        clear r1 r2 r3 hp9 HS
        go_wp2
        go_roundw
        case rel => exact ⟨k + 1, HLT.out, by go_num, by rw [HB.out], hb9⟩
        case measure => have := HLT.out; simp [intOf]; omega
      ·
        obtain ⟨g, q, hgx, hXo, hix⟩ := (hA2.below hb).pick c HN.out hX
        obtain ⟨g2, q2, hgm, _, hixm⟩ := (hM.below hb).pick d HN.out hX
        have hxp : X.p.length ≤ 5000 := Nat.le_trans (hp X (List.mem_of_getElem? hX)) (by decide)
        have b1 : (k : Int) < n := by omega
        have HLT := hid (show k + 1 ≤ n from hlt)
        have hal := (Below.refl wr.heap.size wr).alloc (Nat.le_refl _) (.cells X.cs 30)
        have HS : JbH w2.heap.size w2 w.heap.size C wr.heap.size X g2 q2 (wr.alloc (.cells X.cs 30)) :=
          ⟨(hbc.below hb).alloc _, FjX.new wr X, hgm.below hal, Nat.le_trans hb.size hal.size, hb.trans (hal.mono hb.size)⟩
        have HB := hid (badJ_bad hX hx)
        have cN := fun W => next_no C X hx W
        have cY := fun W => jbytes_no C HC.out X hx W
        have cW := fun W => wrong_no X hx hxp W
        have hSl : zeroB.length = 32 := by decide
        have bz : ∀ W, (Instr.build 23 #[]).run Try.prog W = .ok (.agg (List.map u8v zeroB).toArray) W := fun W => by kernel_rfl
        generalize zeroB = C2 at *
        have hbd := badJ_two (Xs.take k)
        generalize badJ (Xs.take k) = bd at *
        have hI2 : (Try.prog.info? 23).map (·.size) = some (idVals C2).size := by rw [idVals_size, hSl]; exact sizeId
        have hL2 : (Try.prog.info? 23).map (·.size) = some (C2.map u8v).length := by rw [List.length_map, hSl]; exact sizeId
        have h1d := idVals_one C2
        have heq : ∀ W, (Op.equalIn 10000 23 (.agg (List.map u8v C2).toArray) (.agg (List.map u8v C2).toArray)).run Try.prog W = .ok true W := fun W => (ids_eq W C2 C2 hSl hSl).trans (by rw [decide_eq_true rfl])
        have heq2 : ∀ W, (Op.equalIn 10000 23 (.agg (List.map u8v C2).toArray) (.agg (idVals C2))).run Try.prog W = .ok true W := heq
        have HSL := hid hSl
        clear hX hx hxp hSl hal hgm hb
        go_wp2_with (first
          | (with_reducible refine wpList_load_fjr (by with_unfolding_all rfl) _ rfl g q rfl hgx hXo ?_)
          | (with_reducible refine wpList_store_fjn rfl _ _ rfl rfl rfl hXo rfl ?_)
          | (with_reducible refine wpList_load_if (by with_unfolding_all rfl) 23 _ rfl _ _ rfl (C.map u8v) _ (range_blk HS.bc) hu rfl hLc ?_)
          | (with_reducible refine wpList_load_fjx (by with_unfolding_all rfl) _ rfl wr.heap.size rfl HS.fx hXo ?_)
          | (with_reducible refine wpList_load_frr (by with_unfolding_all rfl) _ rfl g2 q2 rfl HS.rm hXo ?_)
          | (go_at_call 7; (with_reducible refine (cN _).mono ?_); rintro e4 w4 ⟨rfl, hb4⟩; replace HS := HS.below hb4)
          | (with_reducible refine wpList_store_blk rfl 23 _ _ rfl w4.heap.size _ (idVals C2) 23 (hN3 _ _) rfl rfl hI2 ?c4 h1d ?_))
        case c4 => rw [idVals_size, HSL.out]; rfl
        intro w5 hz5 hg5
        replace HS := HS.below (below_new hg5)
        clear hb4 hg5 cN
        go_upto_region 14 with (first
          | (with_reducible refine wpList_load_fjr (by with_unfolding_all rfl) _ rfl g q rfl hgx hXo ?_)
          | (with_reducible refine wpList_store_fjn rfl _ _ rfl rfl rfl hXo rfl ?_)
          | (with_reducible refine wpList_load_if (by with_unfolding_all rfl) 23 _ rfl _ _ rfl (C.map u8v) _ (range_blk HS.bc) hu rfl hLc ?_)
          | (with_reducible refine wpList_load_fjx (by with_unfolding_all rfl) _ rfl wr.heap.size rfl HS.fx hXo ?_)
          | (with_reducible refine wpList_load_frr (by with_unfolding_all rfl) _ rfl g2 q2 rfl HS.rm hXo ?_)
          | (go_at_call 8; (with_reducible refine (cY _).mono ?_); rintro e6 w6 ⟨rfl, hb6⟩; replace HS := HS.below hb6; replace hz5 := hz5.below hb6; clear hb6)
          | (go_at_call 9; (with_reducible refine (cW _).mono ?_); rintro e7 w7 ⟨rfl, hb7⟩; replace HS := HS.below hb7; replace hz5 := hz5.below hb7; clear hb7))
        have r1 := range_blk hz5
        have hb9 := HS.hb
        clear cY cW hz5 HS
        go_upto_region 16 with (first
          | (with_reducible refine wpList_load_if (by with_unfolding_all rfl) 23 _ rfl _ _ rfl (C2.map u8v) _ r1 hu rfl hL2 ?_)
          | (with_reducible refine wpList_build_byM rfl _ _ rfl _ _ bz (by with_unfolding_all rfl) ?_))
        clear r1 bz heq
        rcases hbd with rfl | rfl
        · go_wp2
          go_roundw
          case rel => exact ⟨k + 1, HLT.out, by go_num, by rw [HB.out], hb9⟩
          case measure => have := HLT.out; simp [intOf]; omega
        · go_wp2
          go_roundw
          case rel => exact ⟨k + 1, HLT.out, by go_num, by rw [HB.out], hb9⟩
          case measure => have := HLT.out; simp [intOf]; omega
    · obtain rfl : k = n := by omega
      have z1 : ¬ (k : Int) < k := by omega
      rw [List.take_of_length_le (by rw [HN.out]; exact Nat.le_refl _)]
      have hA3 := hA2.below hb
      have hM3 := hM.below hb
      have hb3 := hb0.trans (hb.mono hb0.size)
      clear hb hb0 hA2 hM hbc
      by_cases hok : okJ Xs
      · have e1 : allB Xs = (stJ Xs).1 := by unfold allB; rw [if_pos hok]
        rw [badJ_ok hok]
        have cAll2 : ∀ W, FjRd W A Xs → Calls Try.prog 12 #[.slice A k c] W fun e w' => e = .returned (.tuple #[.string (txt (stJ Xs).1), .int .i64 0]) ∧ Below W.heap.size W w' := fun W hW => by
          have := cAll W hW
          rw [e1, badJ_ok hok] at this
          exact this
        have cS := fun W => scan_back Xs (by rw [HN.out]; exact h12) hok hp W
        have cP2 := fun A' c' W hW => plain_12 A' k c' Xs HN.out h12 hp W hW
        have cRA := fun B' d' W hW => rall25_any B' k d' Xs HN.out (by omega) hp5 hok W hW
        have cSm := fun B1 d1 B2 d2 W h1 h2 => rsame25_any B1 k d1 B2 k d2 Xs Xs HN.out HN.out (by omega) W h1 h2
        rw [HN.out] at cS
        have hSl := stJ_chain Xs
        generalize (stJ Xs).2 = C2 at *
        generalize (stJ Xs).1 = T at *
        have hI2 : (Try.prog.info? 23).map (·.size) = some (idVals C2).size := by rw [idVals_size, hSl]; exact sizeId
        have h1d := idVals_one C2
        have HSL := hid hSl
        clear e1 hok hp hp5 cAll hSl
        go_wp2_with (first
          | (go_at_call 12; (with_reducible refine (cAll2 _ hA3).mono ?_); rintro e4 w4 ⟨rfl, hb4⟩; replace hM3 := hM3.below hb4; replace hb3 := hb3.trans (hb4.mono hb3.size); clear hb4)
          | (go_at_call 13; (with_reducible refine (cS _).mono ?_); rintro e5 w5 ⟨A5, c5, rfl, hA5, hb5⟩; replace hM3 := hM3.below hb5; replace hb3 := hb3.trans (hb5.mono hb3.size); clear hb5)
          | (with_reducible refine wpList_store_blk rfl 23 _ _ rfl w5.heap.size _ (idVals C2) 23 (hN3 _ _) rfl rfl hI2 ?c4 h1d ?_))
        case c4 => rw [idVals_size, HSL.out]; rfl
        intro w6 hz6 hg6
        have hn6 := below_new hg6
        replace hM3 := hM3.below hn6
        replace hA5 := hA5.below hn6
        replace hb3 := hb3.trans (hn6.mono hb3.size)
        clear hz6 hg6 hn6 cS cAll2 hI2 h1d
        go_wp2_with (first
          | (go_at_call 5; (with_reducible refine (cP2 _ _ _ hA5).mono ?_); rintro e7 w7 ⟨B7, d7, rfl, hM7, hb7⟩; replace hM3 := hM3.below hb7; replace hb3 := hb3.trans (hb7.mono hb3.size); clear hb7)
          | (go_at_call 14; (with_reducible refine (cRA _ _ _ hM3).mono ?_); rintro e8 w8 ⟨rfl, hb8⟩; replace hM3 := hM3.below hb8; replace hM7 := hM7.below hb8; replace hb3 := hb3.trans (hb8.mono hb3.size); clear hb8)
          | (go_at_call 15; (with_reducible refine (cSm _ _ _ _ _ hM7 hM3).mono ?_); rintro e9 w9 ⟨bq, rfl, hbq, hb9⟩; obtain rfl := hbq rfl; replace hb3 := hb3.trans (hb9.mono hb3.size); clear hb9)
          | (go_at_call 6; (with_reducible refine (cA _).mono ?_); rintro e10 w10 ⟨rfl, hb10⟩; replace hb3 := hb3.trans (hb10.mono hb3.size); clear hb10))
        go_ret
        exact ⟨rfl, hb3⟩
      · have e1 : allB Xs = [] := by unfold allB; rw [if_neg hok]
        rw [badJ_no hok]
        have cAll2 : ∀ W, FjRd W A Xs → Calls Try.prog 12 #[.slice A k c] W fun e w' => e = .returned (.tuple #[.string ⟨#[]⟩, .int .i64 1]) ∧ Below W.heap.size W w' := fun W hW => by
          have := cAll W hW
          rw [e1, badJ_no hok] at this
          exact this
        clear e1 hok hp hp5 cAll
        go_wp2_with (first
          | (go_at_call 12; (with_reducible refine (cAll2 _ hA3).mono ?_); rintro e4 w4 ⟨rfl, hb4⟩; replace hb3 := hb3.trans (hb4.mono hb3.size); clear hb4)
          | (go_at_call 6; (with_reducible refine (cA _).mono ?_); rintro e10 w10 ⟨rfl, hb10⟩; replace hb3 := hb3.trans (hb10.mono hb3.size); clear hb10))
        go_ret
        exact ⟨rfl, hb3⟩
set_option linter.unusedVariables false in
theorem law_JournalBytes (w : World) (a0 : List UInt8) (w0 : a0.length = 32) (a1 : Option Addr) (l1 c1 : Nat) (z1 : List FmD) (w1 : FmRow w a1 l1 z1) (s1 : l1 * 24 ≤ 140737488355328) :
    Calls Try.prog 3 #[.agg (idVals a0), .slice a1 l1 c1] w fun e w' => e = .returned (.bool true) ∧ Below w.heap.size w w' := by
  by_cases h : l1 ≤ 12 ∧ ∀ X ∈ z1, X.p.length ≤ 300
  · exact jb_near a0 w0 a1 l1 c1 z1 w1.1 h.1 h.2 w w1.2.2.1
  · exact jb_far a0 w0 a1 l1 c1 z1 w1.1 s1 h w w1.2.2.1
open Go.ChangeShapes Go.WideShapes Go.ChangeAt
open Go.ChangeMaps (open_string shut_string)
theorem own_JournalBytes : ownKnob Try.prog.godebug = none := by kernel_rfl
theorem laidOut_JournalBytes : laidOutB Try.prog = true := by kernel_rfl
set_option linter.unusedVariables false in
set_option maxRecDepth 100000 in
theorem lifted_JournalBytes (os : Os) (started : os.Started) (H : Type) (enc : TypeId × Value → H) :
    ReturnsInHanded {} Try.checked os 3 .any (Rows.journalBytesSpec.pre6 enc Try.prog Try.f3 Rows.journalBytesRow.domain false) (Rows.journalBytesSpec.post enc Try.prog Try.f3 false true false false) := by
  refine returnsInHanded_of_change_sized (C := Try.checked) own_JournalBytes started (by kernel_rfl) Try.func3
    (ChangeSpec.witness6 (enc := enc) (C := Try.checked) false ⟨#[], #[.agg #[.int .u8 0, .int .u8 0, .int .u8 0, .int .u8 0, .int .u8 0, .int .u8 0, .int .u8 0, .int .u8 0, .int .u8 0, .int .u8 0, .int .u8 0, .int .u8 0, .int .u8 0, .int .u8 0, .int .u8 0, .int .u8 0, .int .u8 0, .int .u8 0, .int .u8 0, .int .u8 0, .int .u8 0, .int .u8 0, .int .u8 0, .int .u8 0, .int .u8 0, .int .u8 0, .int .u8 0, .int .u8 0, .int .u8 0, .int .u8 0, .int .u8 0, .int .u8 0], .slice none 0 0], []⟩ 8 (by kernel_rfl) (by kernel_rfl) (by kernel_rfl) (by kernel_rfl)) ?_
  intro W base args ds gs before hval0 hW hcnd hsz0 _
  have hval : ∀ (j : Nat) t v, Try.f3.params[j]? = some t → args[j]? = some v → Value.okWide Try.prog W .any base t v := hval0
  have hW' := hW
  obtain ⟨p, q, hA0, hV, rfl, hfz, hnd⟩ := hW
  have hA1 : DataW.TrodAll enc Try.prog W 0 (fun _ => true) true Try.f3.params.toList args.toList ds p := hA0
  have hA : DataW.TrodAll enc Try.prog W 0 (fun _ => true) true Try.f3.params.toList args.toList ds p := hA0
  rw [Try.params3] at hA hval
  obtain ⟨v0, vs0, d0, ds0, p0, q0, hargs, rfl, rfl, h0, r0⟩ := trodAll_cons hA
  obtain ⟨v1, vs1, d1, ds1, p1, q1, rfl, rfl, rfl, h1, r1⟩ := trodAll_cons r0
  obtain ⟨rfl, rfl, rfl⟩ := trodAll_nil r1
  obtain rfl : args = #[v0, v1] := by cases args; simp_all
  obtain ⟨rfl, rfl⟩ := trodVars_none hV
  obtain ⟨a0, w0, rfl⟩ := open_id Try.underlying23 Try.underlying5 (by kernel_rfl) (by kernel_rfl) (hval 0 23 v0 rfl rfl) h0
  obtain ⟨a1, l1, c1, z1, rfl, w1⟩ := open_fmRow (hval 1 24 v1 rfl rfl) h1
  have s1 : l1 * 24 ≤ 140737488355328 := fmRow_sized (j := 1) h1 hsz0 (by kernel_rfl) rfl
  clear hA0 hval0
  refine (law_JournalBytes W a0 w0 a1 l1 c1 z1 w1 s1).mono fun e W' ⟨he, bel⟩ => ?_
  subst he
  exact ⟨_, rfl, _, _, _, [], _, [], hW', trodAll_mk1 (shut_bool Try.underlying4 _), trodAll_stays laidOut_JournalBytes bel (by kernel_rfl) hA1, rfl, bel.frame _, fun h => by cases h⟩

/-- The statement. -/
theorem JournalBytes_holds : Rows.JournalBytesSaid :=
  OpenClaim.holds_of_wide 3 Try.f3 rfl rfl rfl rfl rfl rfl rfl ⟨rfl, rfl, rfl, rfl, rfl⟩ rfl rfl rfl rfl rfl (by kernel_rfl) Try.func3 (by kernel_rfl)
    (of_decide_eq_true (by kernel_rfl)) (by unfold Func.isWrapper; first | (rw [if_pos (by decide +kernel)]; kernel_rfl) | (rw [if_neg (by decide +kernel)]; exact ⟨rfl, rfl⟩))
    (fun os started H enc _ => lifted_JournalBytes os started H enc)
#print axioms JournalBytes_holds
end Go.Proofs.Ytfckbonblfcmnaa


/- journal: the frame with which a text begins, of the document: where the seal is compared. -/
import Derived.Test.YtemdmdgigmhlbaaGreatJs2
set_option linter.unusedSimpArgs false
set_option linter.unusedVariables false
namespace Go.Proofs.YtemdmdgigmhlbaaGreat
open Go.RowKit Go.Qc Go.Shelf
attribute [local go_sem] txt_size txt_append ib_fold
set_option maxRecDepth 100000 in
set_option maxHeartbeats 8000000 in
theorem one_whole (k : UInt8) (rest C t : List UInt8) (n : Nat) (hT : (74 :: k :: rest).length ≤ 5000) (hC : C.length = 32) (hk : k ≠ 0) (ht : textR 4194304 rest = .ok (t, n)) (h8 : n + 8 ≤ rest.length) (w : World) :
    Calls Tryz.prog 30 #[.string (txt (74 :: k :: rest)), .agg (idVals C)] w (OnQ (74 :: k :: rest) C w) := by
  obtain ⟨hnl, hr⟩ := textR_once ht
  have hlr : (74 :: k :: rest).length = rest.length + 2 := rfl
  have htl : t.length ≤ 5000 := by
    have hl := congrArg List.length hr
    rw [List.length_append, textE, List.length_append] at hl
    omega
  have hk2 : k.toNat ≠ 0 := fun e => hk (UInt8.toNat_inj.1 (by simpa using e))
  have hk3 := k.toNat_lt
  have hok : (⟨ib k, t⟩ : FmD).okF := by
    have ei : ib k = (k.toNat : Int) := rfl
    unfold FmD.okF; simp only; omega
  have hYES := fun hn => fr_yes (C := C) hT rfl hk ht h8 hn
  have hNO : (rest.drop n).take 8 ≠ (nxtB C ⟨ib k, t⟩).take 8 → frR (74 :: k :: rest) C 0 = none := fun hne => by
    cases hf : frR (74 :: k :: rest) C 0 with
    | none => rfl
    | some p =>
      obtain ⟨X, b⟩ := p
      obtain ⟨r, h, h2, h3, h4⟩ := fr_inv hT hf
      have hXk := kB_nat (frR_some hf (Nat.zero_le _)).2.2.1
      injection h with q1 q2
      injection q2 with q3 q4
      rw [← q4, ht] at h3
      injection h3 with h3
      injection h3 with q5 q6
      rw [← q4, ← q6] at h4
      exfalso
      apply hne
      rw [h4]
      have eX : (⟨ib k, t⟩ : FmD) = X := by
        obtain ⟨Xk, Xp⟩ := X
        simp only at q5 hXk
        rw [← q3] at hXk
        rw [q5]
        have ei : ib k = (k.toNat : Int) := rfl
        rw [ei, hXk]
      rw [eX]
  have i0 := fun W => run_index_txt (74 :: k :: rest) 0 74 rfl 0 rfl W
  have i1 := fun W => run_index_txt (74 :: k :: rest) 1 k rfl 1 rfl W
  have e74 : ib 74 = 74 := rfl
  rw [e74] at i0
  have hl2 : 2 ≤ (74 :: k :: rest).length := by simp
  have hd2 : (74 :: k :: rest).drop 2 = rest := rfl
  have cT := fun W => rGetText_any (74 :: k :: rest) 2 4194304 (by omega) hl2 W
  rw [hd2, ht] at cT
  have hE8 : (txt (74 :: k :: rest)).extract (2 + n) (2 + n + 8) = txt ((rest.drop n).take 8) := by
    rw [txt_extract, show 2 + n + 8 - (2 + n) = 8 by omega, show 2 + n = n + 2 by omega]
    rfl
  obtain ⟨X, hX⟩ : ∃ X : FmD, X = ⟨ib k, t⟩ := ⟨_, rfl⟩
  have cN : ∀ W, Calls Tryz.prog 29 #[.agg (List.map u8v C).toArray, .agg X.cs] W fun e w' => e = .returned (.agg (idVals (nxtB C X))) ∧ Below W.heap.size W w' := fun W => rnext_yes C hC X (by rw [hX]; exact hok) (by rw [hX]; exact htl) W
  have hXc : (#[.int .i64 (ib k), .string (txt t)] : Array Value) = X.cs := by rw [hX]; rfl
  rw [← hX] at hYES hNO
  have hSl := nxtB_length C X
  generalize nxtB C X = S at *
  have cB : ∀ W, Calls Tryz.prog 48 #[.agg (idVals S)] W fun e w' => e = .returned (.string (txt S)) ∧ Below W.heap.size W w' := fun W => rid_any S hSl W
  have hS8 := txt_to8 S
  have zS8 : (8 : Int) ≤ (S.length : Int) := by omega
  generalize S.take 8 = S8 at *
  generalize (rest.drop n).take 8 = E8 at *
  have HYES := hid hYES
  have HNOH := hid hNO
  generalize (74 :: k :: rest) = T at *
  obtain ⟨A, hA⟩ : ∃ A : Nat, A = 2 + n := ⟨_, rfl⟩
  obtain ⟨B, hB⟩ : ∃ B : Nat, B = A + 8 := ⟨_, rfl⟩
  replace cT : ∀ W, Calls Tryz.prog 49 #[.agg #[.string (txt T), .int .i64 2, .int .i64 0], .int .i64 4194304] W fun o w' => o = .returned (.tuple #[.agg #[.string (txt T), .int .i64 (A : Int), .int .i64 0], .string (txt t)]) ∧ Below W.heap.size W w' := by rw [hA]; exact cT
  rw [← hA] at hE8
  rw [← hB] at hE8
  have z1 : ¬ ((T.length : Int) < 2) := by omega
  have hk0 : ¬ (ib k = 0) := fun h => hk (by
    have e : ib k = (k.toNat : Int) := rfl
    exact UInt8.toNat_inj.1 (by have : k.toNat = 0 := by omega
                                simpa using this))
  have b2 : ∀ W, (Instr.build 96 #[(0, .string (txt T)), (1, .int .i64 2)]).run Tryz.prog W = .ok (.agg #[.string (txt T), .int .i64 2, .int .i64 0]) W := fun W => by kernel_rfl
  have hA5 : A ≤ 10000 := by omega
  have hBT : B ≤ T.length := by omega
  have HB := hid (show B = 2 + n + 8 by omega)
  obtain ⟨s1, s2, s3, s4, z5⟩ := js_s A B T.length hB hBT
  have z6 := js_w1 T.length A (by omega) hA5
  have v2 := js_w2 A B hA5 hB
  have v3 := js_w3 A B hA5 hB
  have z1 : ¬ ((T.length : Int) < 2) := by omega
  have hwb := ib_wrap64 k
  have hwc := js_wk k
  have hu := Tryz.underlying42
  have huR := Tryz.underlying36
  have hLc : (Tryz.prog.info? 42).map (·.size) = some (C.map u8v).length := by rw [List.length_map, hC]; exact sizeId
  have hLf : (Tryz.prog.info? 36).map (·.size) = some X.cs.toList.length := by rw [Fr_info X rfl, Array.length_toList]
  have bF : ∀ W, (Instr.build 36 #[(0, .int .i64 (ib k)), (1, .string (txt t))]).run Tryz.prog W = .ok (.agg X.cs) W := fun W => by rw [← hXc]; kernel_rfl
  have hIf : (Tryz.prog.info? 36).map (·.size) = some zF.size := Fr_infoN
  have hzF : zF.all (·.oneCell') = true := by unfold zF; simp [Value.oneCell']
  have bz : ∀ W, (Instr.build 36 #[]).run Tryz.prog W = .ok (.agg zF) W := fun W => by kernel_rfl
  clear hk ht hd2 hl2 hlr hnl h8 hr htl hk2 hk3 hok hYES hNO hSl hX hXc hA hB hT hA5 hBT
  go_enter Tryz.func30, Tryz.ntmps30
  go_upto_region 1 with (fail)
  have HZ : zF = #[.int .i64 0, .string ⟨#[]⟩] := rfl
  rw [← HZ]
  have hS := OnS.start w C
  clear HZ
  generalize (w.alloc (.cells (idVals C) 42)).alloc (.cells zF 36) = W at *
  go_upto_region 4 with (first
    | (with_reducible refine wpList_build_byM rfl _ _ rfl _ _ b2 (by with_unfolding_all rfl) ?_)
    | (go_at_call 49; (with_reducible refine (cT _).mono ?_); rintro o3 w3 ⟨rfl, hb3⟩)
    | (with_reducible refine wpList_store_new rfl 96 _ _ rfl #[.string (txt T), .int .i64 (A : Int), .int .i64 0] rfl rfl infoR3 rfl (by simp [Value.oneCell']) ?_))
  have hS0lt := hid hS.br.lt
  replace hS := hS.below hb3
  have hal := (Below.refl w3.heap.size w3).alloc (Nat.le_refl _) (.cells #[.string (txt T), .int .i64 (A : Int), .int .i64 0] 96)
  have bx := Blk.new w3 96 #[.string (txt T), .int .i64 (A : Int), .int .i64 0]
  replace hS := hS.below hal
  obtain ⟨g6, hg6⟩ : ∃ g6, w3.heap.size = g6 := ⟨_, rfl⟩
  have HLT6 := hid (show w.heap.size + 1 < g6 by have := hS0lt.out; have := hb3.size; omega)
  rw [hg6] at bx ⊢
  generalize w3.alloc (.cells #[.string (txt T), .int .i64 (A : Int), .int .i64 0] 96) = w4 at *
  clear hal hb3 cT b2 hg6
  have c1 := bx.cell_ (i := 1) rfl
  have c2 := bx.cell_ (i := 2) rfl
  go_upto_region 7 with (first
    | (with_reducible refine wpList_build_byM rfl _ _ rfl _ _ bF (by with_unfolding_all rfl) ?_)
    | (with_reducible refine wpList_store_frn rfl _ _ rfl rfl rfl (FmD.all_ok [X] X (by simp)) rfl ?_))
  have hal := (Below.refl w4.heap.size w4).alloc (Nat.le_refl _) (.cells X.cs 36)
  have bf := Blk.new w4 36 X.cs
  replace hS := hS.below hal
  have bx4lt := hid bx.lt
  replace bx := bx.below hal
  obtain ⟨g8, hg8⟩ : ∃ g8, w4.heap.size = g8 := ⟨_, rfl⟩
  have HLT8 := hid (show w.heap.size + 1 < g8 by have := HLT6.out; have := bx4lt.out; omega)
  rw [hg8] at bf ⊢
  generalize w4.alloc (.cells X.cs 36) = w5 at *
  clear hal c1 c2 i0 i1 bF hg8
  have f61 : ∀ P : LaterW w5, P.w.cell? ⟨g6, 1, none⟩ = some (.int .i64 (A : Int)) := fun P => (bx.below P.h).cell_ (i := 1) rfl
  have r1 := range_later (range_blk hS.bc)
  have r2 := range_later (blk_range bf)
  obtain ⟨q, hq⟩ : ∃ q, decide (E8 = S8) = q := ⟨_, rfl⟩
  have hne : ((txt E8).toList == (txt S8).toList) = q := by
    rw [txt_toL, txt_toL, ← hq, Bool.eq_iff_iff]
    simp
  have HQ := hid hq
  clear hq
  refine wp_region_later mixedJ (by kernel_rfl) ?_
  repeat (first
    | ((with_reducible refine wpQuiet_skip (by with_unfolding_all rfl) ?_); simp only [Act.put, List.setIfInBounds_toArray, List.set_cons_zero, List.set_cons_succ])
    | ((with_reducible refine wpQuiet_load_if (by with_unfolding_all rfl) 42 _ rfl _ _ rfl (C.map u8v) _ r1 hu (by with_unfolding_all rfl) hLc ?_); simp only [Act.put, List.setIfInBounds_toArray, List.set_cons_zero, List.set_cons_succ])
    | ((with_reducible refine wpQuiet_load_if (by with_unfolding_all rfl) 36 _ rfl _ _ rfl X.cs.toList _ r2 huR (by with_unfolding_all rfl) hLf ?_); simp only [Act.put, List.setIfInBounds_toArray, List.set_cons_zero, List.set_cons_succ])
    | ((with_reducible refine wpQuiet_step (fun K hK => ?_)); go_simp; first | ((with_reducible refine hK _ ?_); clear hK K) | (with_reducible apply Exists.intro; (with_reducible refine ⟨fun _ => ?_, hK _ ?_⟩); ((first | (go_at_call 29; exact later_of (cN _)) | (go_at_call 48; exact later_of (cB _)))); clear hK K)))
  with_reducible refine wpQuiet_nil ?_
  intro _ hw'
  obtain ⟨p9, rfl⟩ := hw'
  have hp9 := p9.h
  generalize p9.w = w6 at *
  replace hS := hS.below hp9
  replace bx := bx.below hp9
  replace bf := bf.below hp9
  clear r1 r2 f61 hp9 cN cB
  cases q with
  | false =>
    have HNO := hid (HNOH.out (of_decide_eq_false HQ.out))
    have hbr := hS.br
    have hb := hS.hb
    clear hS bx bf
    go_wp2_with (first
      | (with_reducible refine wpList_build_byM rfl _ _ rfl _ _ bz (by with_unfolding_all rfl) ?_)
      | (with_reducible refine wpList_store_blk rfl 36 _ _ rfl (w.heap.size + 1) _ zF 36 hbr rfl rfl hIf ?c1 hzF ?_))
    case c1 => rfl
    intro w9 hb9 hg9
    go_wp2
    exact bodyPost_ret (results_cellt rfl _ _ _ _ _ _ rfl hb9 Tryz.underlying36 rfl hIf) rfl (OnQ.no HNO.out ⟨rfl, hb.grown hg9 hb.size (by intro i e; cases e; omega)⟩)
  | true =>
    have HY := hid (HYES.out (of_decide_eq_true HQ.out))
    have hH : OnH w g8 g6 X #[.string (txt T), .int .i64 (A : Int), .int .i64 0] w6 := ⟨bf, bx, ⟨zF, rfl, hS.br⟩, hS.hb⟩
    clear hS bx bf hne HNOH HYES
    go_upto_region 9 with (fail)
    refine wp_region_held_drew (S := OnH w g8 g6 X #[.string (txt T), .int .i64 (A : Int), .int .i64 0]) (by kernel_rfl) (hH.below (below_drew1 _)) (fun hHeld => ?_)
    clear hH
    generalize w6.drew = V at *
    refine' wpAnyH_take (i := 0) (v := .agg X.cs) rfl (by kernel_rfl) (by kernel_rfl) (by kernel_rfl) (fun _ _ _ h => h) (yields_fr (by rfl) _ rfl g8 0 rfl X (FmD.all_ok [X] X (by simp)) (fun w' hw' => blk_range hw'.f)) hHeld ?_
    try simp only [Act.put, List.getElem_toArray, List.getElem_cons_succ, List.getElem_cons_zero, List.setIfInBounds_toArray, List.set_cons_zero, List.set_cons_succ]
    refine' wpAnyH_take (i := 1) (v := .pointer (some ⟨g6, 1, none⟩)) rfl (by kernel_rfl) (by kernel_rfl) (by kernel_rfl) (fun _ _ _ h => h) (Or.inl ⟨by rfl, fun w' hw' => by go_simp⟩) hHeld ?_
    try simp only [Act.put, List.getElem_toArray, List.getElem_cons_succ, List.getElem_cons_zero, List.setIfInBounds_toArray, List.set_cons_zero, List.set_cons_succ]
    refine' wpAnyH_take (i := 2) (v := .int .i64 (A : Int)) rfl (by kernel_rfl) (by kernel_rfl) (by kernel_rfl) (fun _ _ _ h => h) (Or.inl ⟨by rfl, fun w' hw' => by have c1 := hw'.r.cell_ (i := 1) rfl; go_simp⟩) hHeld ?_
    try simp only [Act.put, List.getElem_toArray, List.getElem_cons_succ, List.getElem_cons_zero, List.setIfInBounds_toArray, List.set_cons_zero, List.set_cons_succ]
    refine' wpAnyH_take (i := 3) (v := .int .i64 (B : Int)) rfl (by kernel_rfl) (by kernel_rfl) (by kernel_rfl) (fun _ _ _ h => h) (Or.inl ⟨by rfl, fun w' hw' => by go_simp⟩) hHeld ?_
    try simp only [Act.put, List.getElem_toArray, List.getElem_cons_succ, List.getElem_cons_zero, List.setIfInBounds_toArray, List.set_cons_zero, List.set_cons_succ]
    refine wpAnyH_ready (rs := [4]) (by kernel_rfl) (by simp) ?_
    refine AllReadyH.cons rfl (fun K hK => ?_) AllReadyH.nil
    obtain ⟨cs9, hc9, hz9⟩ := hHeld.z
    refine wp_store_blk 36 _ _ rfl (w.heap.size + 1) _ X.cs 36 hz9 rfl rfl (Fr_info X rfl) (hc9.trans (FmD.size (X := X) rfl).symm) X.one ?_
    intro w8 hb8 hg8
    refine hK.out _ _ ⟨(hg8.block _ hHeld.f.lt (by intro e; have := Option.some.inj e; have := HLT8.out; omega)).trans hHeld.f, (hg8.block _ hHeld.r.lt (by intro e; have := Option.some.inj e; have := HLT6.out; omega)).trans hHeld.r, ⟨_, FmD.size (X := X) rfl, hb8⟩, hHeld.hb.grown hg8 hHeld.hb.size (by intro i e; cases e; omega)⟩ (fun hHeld => ?_)
    clear hK K
    try simp only [Act.put, List.getElem_toArray, List.getElem_cons_succ, List.getElem_cons_zero, List.setIfInBounds_toArray, List.set_cons_zero, List.set_cons_succ]
    refine wpAnyH_ready (rs := [5]) (by kernel_rfl) (by simp) ?_
    refine AllReadyH.cons rfl (fun K hK => ?_) AllReadyH.nil
    go_simp
    refine hK.out _ _ hHeld (fun hHeld => ?_)
    clear hK K
    try simp only [Act.put, List.getElem_toArray, List.getElem_cons_succ, List.getElem_cons_zero, List.setIfInBounds_toArray, List.set_cons_zero, List.set_cons_succ]
    refine wpAnyH_done (by kernel_rfl) ?_ _
    go_wp2
    exact bodyPost_ret (results_cellt rfl _ _ _ _ _ _ rfl hb8 Tryz.underlying36 rfl (Fr_info X rfl)) rfl (OnQ.yes HY.out ⟨by rw [HB.out]; rfl, hHeld.hb⟩)
/-- The frame with which a text begins. -/
theorem rone25_any (T C : List UInt8) (hT : T.length ≤ 5000) (hC : C.length = 32) (w : World) :
    Calls Tryz.prog 30 #[.string (txt T), .agg (idVals C)] w (OnQ T C w) := by
  rcases T with _ | ⟨x, _ | ⟨k, rest⟩⟩
  · exact one_short [] C hT hC (by decide) w
  · exact one_short [x] C hT hC (by simp) w
  ·
    by_cases hx : x = 74 ∧ k ≠ 0
    · obtain ⟨rfl, hk⟩ := hx
      cases ht : textR 4194304 rest with
      | error e => exact one_text k rest C e hT hC hk ht w
      | ok p =>
        obtain ⟨t, n⟩ := p
        by_cases h8 : n + 8 ≤ rest.length
        · exact one_whole k rest C t n hT hC hk ht h8 w
        · exact one_seal k rest C t n hT hC hk ht h8 w
    · exact one_head x k rest C hT hC hx w
end Go.Proofs.YtemdmdgigmhlbaaGreat


/- recon: ReconLacks of a row in order. -/
import Derived.Test.YtkajfpincbkfhaaRl7
import Derived.Test.YtkajfpincbkfhaaRc8
set_option linter.unusedSimpArgs false
set_option linter.unusedVariables false
namespace Go.Proofs.Ytkajfpincbkfhaa
open Go.RowKit Go.Qc Go.Shelf
attribute [local go_sem] txt_size txt_append ib_fold
theorem smC_over (n v : Int) (c : Value) (s : List UInt8) : over (smC n c s) 0 [.int .i64 v] = smC v c s := by
  apply Array.ext_getElem?
  intro j
  rw [over_get (smC n c s) 0 [.int .i64 v] (by unfold smC; simp; omega)]
  unfold smC
  rcases Nat.eq_zero_or_pos j with rfl | hj
  · rw [Array.getElem?_append_left (xs := #[Value.int .i64 v, c]) (by simp)]; rfl
  · rw [if_neg (by first | (simp; done) | (simp; omega)), Array.getElem?_append, Array.getElem?_append]
    obtain ⟨i, rfl⟩ : ∃ i, j = i + 1 := ⟨j - 1, by omega⟩
    by_cases h : i + 1 < 2
    · obtain rfl : i = 0 := by omega
      simp
    · simp [h]
theorem infoIntL : (Try.prog.info? 3).map (·.size) = some 1 := by kernel_rfl
theorem wpList_store_cnt {w : World} {ops : Array Oper} {rest : List Oper} {o : Oper} {a : Act} {Q : Exit → Act → World → Prop} (hgd : o.guard = none) (x y : Operand) (ho : o.op = .store 3 x y)
    (g : Nat) (n : Int) (c : Value) (s : List UInt8) (v : Int) (hg : Blk w g 56 (smC n c s)) (hx : a.eval x = .pointer (some ⟨g, 0, none⟩)) (hy : a.eval y = .int .i64 v)
    (h : ∀ w', Blk w' g 56 (smC v c s) → w.grownBy w' (some g) → wpList Try.prog ops Q rest (a.put o.dst undef) w') : wpList Try.prog ops Q (o :: rest) a w :=
  wpList_plain hgd fun _ hK => wp_store_cellM 3 x y ho g 0 _ _ hg (.int .i64 v) hx hy infoIntL (by unfold smC; simp; omega) rfl rfl fun w' hb hgr => hK _ _ (h w' (by rw [smC_over] at hb; exact hb) hgr)
theorem wpQuiet_buildL {ops : Array Oper} {C : World → Prop} {Q : Act → Prop} {rest : List Oper} {o : Oper} {a : Act} (hw : Region.wanted o (yielded ops a.tmps) = true) (ty : TypeId) (parts : Array (Nat × Operand)) (ho : o.op = .build ty parts)
    (ps : Array (Nat × Value)) (v : Value) (hb : ∀ W, (Instr.build ty ps).run Try.prog W = .ok v W) (hp : (parts.map fun (i, x) => (i, a.eval x)) = ps)
    (h : wpQuiet Try.prog ops C Q rest (a.put o.dst v)) : wpQuiet Try.prog ops C Q (o :: rest) a :=
  wpQuiet_step fun K hK => by
    rw [if_pos hw]
    refine ⟨_, fun w hw' => ?_, hK _ h⟩
    have hr := hb w
    rw [← hp] at hr
    unfold Oper.quietAt execOp
    simp only [ho]
    simp only [Sem.run_bind, hr, Result.andThen, Sem.run_pure]
    exact ⟨rfl, rfl⟩
theorem LkR.isNone {l : IdL} {f0 : Bool} {f : List UInt8 → Bool} {g : List UInt8 → List UInt8 → Bool} {yes no : Value} {w w' : World} {e : Ending} (h : LkR l f0 f g yes no w e w') (hi : LkIs l f0 f g none) : e = .returned (.tuple #[.slice none 0 0, no]) ∧ Below w.heap.size w w' := by
  obtain ⟨⟨r, hr, hq⟩, hb⟩ := h
  obtain rfl := hi.same hr
  rcases hq with ⟨_, rfl⟩ | ⟨xs, A', c', he, _⟩
  · exact ⟨rfl, hb⟩
  · cases he
theorem LkR.isAt {l : IdL} {f0 : Bool} {f : List UInt8 → Bool} {g : List UInt8 → List UInt8 → Bool} {yes no : Value} {w w' : World} {e : Ending} (h : LkR l f0 f g yes no w e w') {xs : IdL} (hi : LkIs l f0 f g (some xs)) :
    ∃ (A' : Option Addr) (c' : Nat), e = .returned (.tuple #[.slice A' xs.length c', yes]) ∧ RowC w' A' xs.length c' xs ∧ Below w.heap.size w w' := by
  obtain ⟨⟨r, hr, hq⟩, hb⟩ := h
  obtain rfl := hi.same hr
  rcases hq with ⟨he, _⟩ | ⟨ys, A', c', he, rfl, hrow⟩
  · cases he
  · cases he
    exact ⟨A', c', rfl, hrow, hb⟩
theorem LkR.isSome {l : IdL} {f0 : Bool} {f : List UInt8 → Bool} {g : List UInt8 → List UInt8 → Bool} {yes no : Value} {w w' : World} {e : Ending} (h : LkR l f0 f g yes no w e w') (hi : ¬ LkIs l f0 f g none) :
    ∃ (xs : IdL) (A' : Option Addr) (c' : Nat), LkIs l f0 f g (some xs) ∧ e = .returned (.tuple #[.slice A' xs.length c', yes]) ∧ RowC w' A' xs.length c' xs ∧ Below w.heap.size w w' := by
  obtain ⟨⟨r, hr, hq⟩, hb⟩ := h
  rcases hq with ⟨rfl, _⟩ | ⟨xs, A', c', rfl, rfl, hrow⟩
  · exact absurd hr hi
  · exact ⟨xs, A', c', hr, rfl, hrow, hb⟩
theorem rsumL_any (A : Option Addr) (n c : Nat) (l : IdL) (w : World) (h : RowC w A n c l) :
    Calls Try.prog 18 #[.slice A n c] w fun e w' => e = .returned (.agg (idVals (sumL l))) ∧ Below w.heap.size w w' := by
  have := rsum21_any A n c l w h
  rw [← h.1.1] at this ⊢
  exact this
set_option maxRecDepth 100000 in
set_option maxHeartbeats 8000000 in
theorem rl_inf (A B : Option Addr) (n c m d : Nat) (l r : IdL) (v : Int) (w : World) (hn : n ≤ 8) (hm : m ≤ 8) (h : RowC w A n c l) (h2 : RowC w B m d r) (hs : Steps l n) :
    Calls Try.prog 7 #[.slice A n c, .slice B m d, .bool false, .int .i64 v] w fun e w' => e = .returned (.bool true) ∧ Below w.heap.size w w' := by
  have mixed : Try.prog.follows .mixedOrders = true := by kernel_rfl
  have huS := Try.underlying56
  have z1 : ¬ (8 : Int) < (n : Int) := by omega
  have z2 : ¬ (8 : Int) < (m : Int) := by omega
  obtain ⟨O, hO⟩ : ∃ O, minL l r = O := ⟨_, rfl⟩
  have h32O : ∀ x ∈ O, x.length = 32 := by rw [← hO]; exact minL_32 r h.1.2.2.1
  have hkn : O.length ≤ n := by have := minL_length l r; rw [hO, h.1.1] at this; exact this
  have cY : ∀ W, RowC W A n c l → RowC W B m d r → Calls Try.prog 34 #[.slice A n c, .slice B m d, .bool false] W fun e w' => ∃ A3 c3, e = .returned (.slice A3 O.length c3) ∧ RowC w' A3 O.length c3 O ∧ Below W.heap.size W w' := fun W h1 h2 => by
    refine (ronly_own A B n c m d l r false W h1.at h2.at (by omega)).mono ?_
    rintro e w' ⟨v, rfl, ho, hb⟩
    have ho2 : w'.ownsRow W.heap.size 24 32 v O.length (idsV O) := by rw [← hO]; exact ho
    obtain ⟨A3, c3, rfl, hr⟩ := own_rowC ho2 h32O (by omega)
    exact ⟨A3, c3, rfl, hr, hb⟩
  obtain ⟨k, hk⟩ : ∃ k, O.length = k := ⟨_, rfl⟩
  rw [hk] at cY hkn
  have cO : ∀ W, RowC W A n c l → Calls Try.prog 30 #[.slice A n c] W fun e w' => e = .returned (.tuple #[.agg (smC (n : Int) (cz (talZ l)) (sumL l)), .int .i64 0]) ∧ Below W.heap.size W w' := fun W h1 => rcof_yes A n c l W h1 hs
  have cR : ∀ W, RowC W A n c l → Calls Try.prog 15 #[.slice A n c] W fun e w' => e = .returned (.bool true) ∧ Below W.heap.size W w' := fun W hW => (rrises_any A n c l W hW.1).mono (by
    rintro e w' ⟨v, rfl, ⟨t, rfl, ht⟩, hb⟩
    cases t
    · exact ⟨absurd (ht.2 hs) (by decide), hb⟩
    · exact ⟨rfl, hb⟩)
  have cT : ∀ W, RowC W A n c l → Calls Try.prog 33 #[.slice A n c] W fun e w' => e = .returned (pz (talZ l)) ∧ Below W.heap.size W w' := fun W h1 => rtally22_any A n c l W h1.1
  have cN : ∀ W, Calls Try.prog 32 #[pz (talZ l)] W fun e w' => e = .returned (cz (talZ l)) ∧ Below W.heap.size W w' := fun W => number22_any (talZ l) W
  have cS : ∀ W, RowC W A n c l → Calls Try.prog 18 #[.slice A n c] W fun e w' => e = .returned (.agg (idVals (sumL l))) ∧ Below W.heap.size W w' := fun W h1 => rsumL_any A n c l W h1
  have bl : ∀ W, (Instr.build 56 #[(0, .int .i64 (n : Int)), (1, cz (talZ l)), (2, .agg (List.map u8v (sumL l)).toArray)]).run Try.prog W = .ok (.agg (smC (n : Int) (cz (talZ l)) (sumL l))) W := fun W => build_sm n (talZ l) (sumL l) (sumL_length l) W
  have hS : (smC (n : Int) (cz (talZ l)) (sumL l)).size = 34 := smC_size _ _ (sumL_length l)
  have h1c := smC_one (n : Int) (talZ l) (sumL l)
  have e9 : ∀ W, (Op.equalIn 10000 56 (.agg (smC (n : Int) (cz (talZ l)) (sumL l))) (.agg (smC (n : Int) (cz (talZ l)) (sumL l)))).run Try.prog W = .ok true W := fun W => sm_eq n (talZ l) (talZ_res l) (sumL l) (sumL_length l) W
  -- what lacks
  have HC := hid (talZ_res O)
  have HC0 := hid (talZ_ne O)
  have HL32 := hid (sumL_length O)
  have HLB : Hid (∀ (v : Nat), v ≤ n → n ≤ v + 2 → ∃ (f0 : Bool) (f : List UInt8 → Bool) (g : List UInt8 → List UInt8 → Bool),
      (∀ (W : World) (A : Option Addr) (c : Nat), RowC W A n c l → Calls Try.prog 31 #[.slice A n c, .agg (smC (v : Int) (cz (talZ O)) (sumL O))] W (LkR l f0 f g (.int .i64 0) (.int .i64 6) W)) ∧
      (∀ (W : World) (A : Option Addr) (c : Nat), RowC W A n c l → Calls Try.prog 35 #[.slice A n c, .int .i64 (v : Int), pz (talZ O), .agg (idVals (sumL O))] W (LkR l f0 f g (.bool true) (.bool false) W))) := hid (fun v hv1 hv2 => lack_both n l hs h.1.1 v hv1 hv2 (talZ O) (talZ_res O) (talZ_ne O) (sumL O) (sumL_length O))
  have HLR : Hid (∀ (W : World) (v : Int), (v < 0 ∨ (n : Int) < v ∨ v < (n : Int) - 2) → RowC W A n c l → Calls Try.prog 31 #[.slice A n c, .agg (smC v (cz (talZ O)) (sumL O))] W fun e w' => e = .returned (.tuple #[.slice none 0 0, .int .i64 5]) ∧ Below W.heap.size W w') := hid (fun W v hv h1 => lack_range A n c l v (cz (talZ O)) (sumL O) hv W h1 hs)
  have cTO : ∀ W A3 c3, RowC W A3 k c3 O → Calls Try.prog 33 #[.slice A3 k c3] W fun e w' => e = .returned (pz (talZ O)) ∧ Below W.heap.size W w' := fun W A3 c3 h1 => rtally22_any A3 k c3 O W h1.1
  have cNO : ∀ W, Calls Try.prog 32 #[pz (talZ O)] W fun e w' => e = .returned (cz (talZ O)) ∧ Below W.heap.size W w' := fun W => number22_any (talZ O) W
  have cSO : ∀ W A3 c3, RowC W A3 k c3 O → Calls Try.prog 18 #[.slice A3 k c3] W fun e w' => e = .returned (.agg (idVals (sumL O))) ∧ Below W.heap.size W w' := fun W A3 c3 h1 => rsumL_any A3 k c3 O W h1
  have bo : ∀ W, (Instr.build 56 #[(0, .int .i64 (k : Int)), (1, cz (talZ O)), (2, .agg (List.map u8v (sumL O)).toArray)]).run Try.prog W = .ok (.agg (smC (k : Int) (cz (talZ O)) (sumL O))) W := fun W => build_sm k (talZ O) (sumL O) (sumL_length O) W
  have hSO : ∀ v : Int, (smC v (cz (talZ O)) (sumL O)).size = 34 := fun v => smC_size _ _ (sumL_length O)
  have h1o : ∀ v : Int, (smC v (cz (talZ O)) (sumL O)).all (·.oneCell') = true := fun v => smC_one v (talZ O) (sumL O)
  have HCTO := hid cTO
  have HCSO := hid cSO
  clear hO h32O hk hs
  generalize hSLL : sumL l = SLL at *
  generalize sumL O = SLO at *
  generalize pz (talZ l) = PL at *
  generalize pz (talZ O) = PO at *
  generalize cz (talZ l) = CL at *
  generalize cz (talZ O) = CO at *
  obtain ⟨SL, hSL⟩ : ∃ L : List Value, smC (n : Int) CL SLL = L.toArray := ⟨(smC (n : Int) CL SLL).toList, by simp⟩
  rw [hSL] at cO bl hS h1c
  simp only [hSL] at e9 bl
  clear hSL hSLL
  go_enter Try.func7, Try.ntmps7
  go_upto_region 4 with (first
    | (go_at_call 30; (with_reducible refine (cO _ h).mono ?_); rintro e2 w2 ⟨rfl, hb2⟩)
    | (with_reducible refine wpList_store_smn rfl _ _ rfl SL.toArray hS h1c rfl rfl (by with_unfolding_all rfl) ?_))
  have hb := hb2.alloc (Nat.le_trans (Nat.le_refl _) hb2.size) (.cells SL.toArray 56)
  have hx := Blk.new w2 56 SL.toArray
  obtain ⟨gx, hgx⟩ : ∃ gx, w2.heap.size = gx := ⟨_, rfl⟩
  rw [hgx] at hx
  simp only [hgx]
  clear hgx
  generalize w2.alloc (.cells SL.toArray 56) = w3 at *
  replace h := h.below hb
  replace h2 := h2.below hb
  go_upto_region 7 with (first
    | (go_at_call 15; (with_reducible refine (cR _ h).mono ?_); rintro e4 w4 ⟨rfl, hb4⟩; replace hb := hb.trans (hb4.mono hb.size); replace hx := hx.below hb4; replace h := h.below hb4; replace h2 := h2.below hb4))
  have fS0 : w4.rangeAt gx 0 SL := fun j u hj => hx.cell_ (by rw [Nat.zero_add, List.getElem?_toArray]; exact hj)
  have fS := range_later fS0
  clear fS0
  have hzS : (Try.prog.info? 56).map (·.size) = some SL.length := by
    have e : SL.length = 34 := by simpa using hS
    rw [e]; exact infoSm
  have dT : ∀ p : LaterW w4, Calls Try.prog 33 #[.slice A n c] p.w fun e w' => e = .returned PL ∧ Below p.w.heap.size p.w w' := fun p => cT p.w (h.below p.h)
  have dN : ∀ p : LaterW w4, Calls Try.prog 32 #[PL] p.w fun e w' => e = .returned CL ∧ Below p.w.heap.size p.w w' := fun p => cN p.w
  have dS : ∀ p : LaterW w4, Calls Try.prog 18 #[.slice A n c] p.w fun e w' => e = .returned (.agg (idVals SLL)) ∧ Below p.w.heap.size p.w w' := fun p => cS p.w (h.below p.h)
  clear cO cR cT cN cS hx h1c hS
  refine wp_region_later mixed (by kernel_rfl) ?_
  repeat (first
    | ((with_reducible refine wpQuiet_skip (by with_unfolding_all rfl) ?_); simp only [Act.put, List.setIfInBounds_toArray, List.set_cons_zero, List.set_cons_succ])
    | ((with_reducible refine wpQuiet_load_if (by with_unfolding_all rfl) 56 _ rfl _ _ rfl SL _ fS huS (by with_unfolding_all rfl) hzS ?_); simp only [Act.put, List.setIfInBounds_toArray, List.set_cons_zero, List.set_cons_succ])
    | ((with_reducible refine wpQuiet_buildL (by with_unfolding_all rfl) _ _ rfl _ _ bl (by with_unfolding_all rfl) ?_); simp only [Act.put, List.setIfInBounds_toArray, List.set_cons_zero, List.set_cons_succ])
    | ((with_reducible refine wpQuiet_step (fun K hK => ?_)); go_simp; first | ((with_reducible refine hK _ ?_); clear hK K) | (with_reducible apply Exists.intro; (with_reducible refine ⟨fun _ => ?_, hK _ ?_⟩); ((first | (go_at_call 33; exact later_of (dT _)) | (go_at_call 32; exact later_of (dN _)) | (go_at_call 18; exact later_of (dS _)))); clear hK K)))
  with_reducible refine wpQuiet_nil ?_
  intro _ hw'
  obtain ⟨p9, rfl⟩ := hw'
  have hp9 := p9.h
  generalize p9.w = w5 at *
  replace h := h.below hp9
  replace h2 := h2.below hp9
  replace hb := hb.trans (hp9.mono hb.size)
  clear fS hzS dT dN dS bl e9 hp9
  go_upto_region 11 with (first
    | (go_at_call 34; (with_reducible refine (cY _ h h2).mono ?_); rintro e6 w6 ⟨A3, c3, rfl, hrO, hb6⟩; replace hb := hb.trans (hb6.mono hb.size); replace h := h.below hb6)
    | (go_at_call 33; (with_reducible refine (cTO _ _ _ hrO).mono ?_); rintro e7 w7 ⟨rfl, hb7⟩; replace hb := hb.trans (hb7.mono hb.size); replace h := h.below hb7; replace hrO := hrO.below hb7)
    | (go_at_call 32; (with_reducible refine (cNO _).mono ?_); rintro e8 w8 ⟨rfl, hb8⟩; replace hb := hb.trans (hb8.mono hb.size); replace h := h.below hb8; replace hrO := hrO.below hb8)
    | (go_at_call 18; (with_reducible refine (cSO _ _ _ hrO).mono ?_); rintro e9 w9 ⟨rfl, hb9⟩; replace hb := hb.trans (hb9.mono hb.size); replace h := h.below hb9; replace hrO := hrO.below hb9)
    | (with_reducible refine wpList_build_byM rfl _ _ rfl _ _ bo (by with_unfolding_all rfl) ?_)
    | (with_reducible refine wpList_store_smn rfl _ _ rfl (smC (k : Int) CO SLO) (hSO _) (h1o _) rfl rfl (by with_unfolding_all rfl) ?_))
  have hs5 := Blk.new w9 56 (smC (k : Int) CO SLO)
  have hal := (Below.refl w9.heap.size w9).alloc (Nat.le_refl _) (.cells (smC (k : Int) CO SLO) 56)
  have hlt9 : w9.heap.size < (w9.alloc (.cells (smC (k : Int) CO SLO) 56)).heap.size := by simp
  have hbz := hb.size
  clear hb2 hb4 hb6 hb7 hb8 hb9 cY cTO cSO cNO bo h1o h2
  have hB11 := hs5
  obtain ⟨gs, hgs⟩ : ∃ gs, w9.heap.size = gs := ⟨_, rfl⟩
  rw [hgs] at hB11
  simp only [hgs]
  have h11 := h.below hal
  have hO11 := hrO.below hal
  have hb11 := hb.trans (hal.mono hb.size)
  clear hs5 hal hlt9 hbz hgs h hrO hb
  generalize w9.alloc (.cells (smC (k : Int) CO SLO) 56) = w11 at *
  go_upto_region 14 with (fail)
  have q1 : wrap64 ((n : Int) - 2) = (n : Int) - 2 := by unfold wrap64; omega
  by_cases hv : (k : Int) < 0 ∨ (n : Int) < (k : Int) ∨ (k : Int) < (n : Int) - 2
  · have cL := HLR.out w11 (k : Int) hv h11
    go_upto_region 15 with (first
      | (with_reducible refine wpList_load_smx (by with_unfolding_all rfl) _ rfl gs (smC (k : Int) CO SLO) rfl hB11 (hSO _) ?_)
      | (go_at_call 31; (with_reducible refine cL.mono ?_); rintro e12 w12 ⟨rfl, hb12⟩; replace hb11 := hb11.trans (hb12.mono hb11.size)))
    clear hB11 h11 hO11 cL
    by_cases h1 : (k : Int) < 0
    · go_wp2_with (go_at_call 29; (with_reducible refine (awake23_any _).mono ?_); rintro e20 w20 ⟨rfl, hb20⟩)
      go_ret
      exact ⟨rfl, hb11.trans (hb20.mono hb11.size)⟩
    · by_cases h2 : (n : Int) < (k : Int)
      · go_wp2_with (go_at_call 29; (with_reducible refine (awake23_any _).mono ?_); rintro e20 w20 ⟨rfl, hb20⟩)
        go_ret
        exact ⟨rfl, hb11.trans (hb20.mono hb11.size)⟩
      · have h3 : (k : Int) < (n : Int) - 2 := by omega
        go_wp2_with (go_at_call 29; (with_reducible refine (awake23_any _).mono ?_); rintro e20 w20 ⟨rfl, hb20⟩)
        go_ret
        exact ⟨rfl, hb11.trans (hb20.mono hb11.size)⟩
  · skip
    have h1 : ¬ (k : Int) < 0 := by omega
    have h2 : ¬ (n : Int) < (k : Int) := by omega
    have h3 : ¬ (k : Int) < (n : Int) - 2 := by omega
    obtain ⟨f0, f, g, cL, cD⟩ := HLB.out k (by omega) (by omega)
    clear hv
    by_cases hi : LkIs l f0 f g none
    · have cL1 := (cL w11 A c h11).mono (fun e w' h9 => h9.isNone hi)
      have HD := hid (fun W h => (cD W A c h).mono (fun e w' h9 => h9.isNone hi))
      clear cL cD
      go_upto_region 17 with (first
        | (with_reducible refine wpList_load_smx (by with_unfolding_all rfl) _ rfl gs (smC (k : Int) CO SLO) rfl hB11 (hSO _) ?_)
        | (go_at_call 31; (with_reducible refine cL1.mono ?_); rintro e12 w12 ⟨rfl, hb12⟩; replace hb11 := hb11.trans (hb12.mono hb11.size); replace h11 := h11.below hb12; replace hO11 := hO11.below hb12))
      clear cL1 hB11
      go_upto_region 18 with (first
        | (go_at_call 33; (with_reducible refine (HCTO.out _ _ _ hO11).mono ?_); rintro e13 w13 ⟨rfl, hb13⟩; replace hb11 := hb11.trans (hb13.mono hb11.size); replace h11 := h11.below hb13; replace hO11 := hO11.below hb13)
        | (go_at_call 18; (with_reducible refine (HCSO.out _ _ _ hO11).mono ?_); rintro e14 w14 ⟨rfl, hb14⟩; replace hb11 := hb11.trans (hb14.mono hb11.size); replace h11 := h11.below hb14)
        | (go_at_call 35; (with_reducible refine (HD.out _ h11).mono ?_); rintro e15 w15 ⟨rfl, hb15⟩; replace hb11 := hb11.trans (hb15.mono hb11.size)))
      go_wp2_with (go_at_call 29; (with_reducible refine (awake23_any _).mono ?_); rintro e20 w20 ⟨rfl, hb20⟩)
      go_ret
      exact ⟨rfl, hb11.trans (hb20.mono hb11.size)⟩
    · have cL1 := (cL w11 A c h11).mono (fun e w' h9 => h9.isSome hi)
      have HD := hid (fun W h xs hx => (cD W A c h).mono (fun e w' h9 => h9.isAt (xs := xs) hx))
      clear cL cD
      go_upto_region 17 with (first
        | (with_reducible refine wpList_load_smx (by with_unfolding_all rfl) _ rfl gs (smC (k : Int) CO SLO) rfl hB11 (hSO _) ?_)
        | (go_at_call 31; (with_reducible refine cL1.mono ?_); rintro e12 w12 ⟨xs, A5, c5, hxs, rfl, hr5, hb12⟩; replace hb11 := hb11.trans (hb12.mono hb11.size); replace h11 := h11.below hb12; replace hO11 := hO11.below hb12))
      clear cL1 hB11
      have HXS := hid hxs
      clear hxs
      go_upto_region 18 with (first
        | (go_at_call 33; (with_reducible refine (HCTO.out _ _ _ hO11).mono ?_); rintro e13 w13 ⟨rfl, hb13⟩; replace hb11 := hb11.trans (hb13.mono hb11.size); replace h11 := h11.below hb13; replace hO11 := hO11.below hb13; replace hr5 := hr5.below hb13)
        | (go_at_call 18; (with_reducible refine (HCSO.out _ _ _ hO11).mono ?_); rintro e14 w14 ⟨rfl, hb14⟩; replace hb11 := hb11.trans (hb14.mono hb11.size); replace h11 := h11.below hb14; replace hr5 := hr5.below hb14)
        | (go_at_call 35; (with_reducible refine (HD.out _ h11 xs HXS.out).mono ?_); rintro e15 w15 ⟨A6, c6, rfl, hr6, hb15⟩; replace hb11 := hb11.trans (hb15.mono hb11.size); replace hr5 := hr5.below hb15))
      have cS : Calls Try.prog 23 #[.slice A5 xs.length c5, .slice A6 xs.length c6] w15 fun e w' => e = .returned (.bool true) ∧ Below w15.heap.size w15 w' := by
        have := rsame_any A5 A6 xs.length c5 xs.length c6 xs xs w15 hr5.1 hr6.1
        rw [decide_eq_true rfl] at this
        exact this
      generalize xs.length = q at *
      clear h11 hr5 hr6 hO11
      go_wp2_with (first
        | (go_at_call 23; (with_reducible refine cS.mono ?_); rintro e16 w16 ⟨rfl, hb16⟩; replace hb11 := hb11.trans (hb16.mono hb11.size))
        | (go_at_call 29; (with_reducible refine (awake23_any _).mono ?_); rintro e20 w20 ⟨rfl, hb20⟩))
      go_ret
      exact ⟨rfl, hb11.trans (hb20.mono hb11.size)⟩
set_option maxRecDepth 100000 in
set_option maxHeartbeats 8000000 in
theorem rl_int (A B : Option Addr) (n c m d : Nat) (l r : IdL) (v : Int) (w : World) (hn : n ≤ 8) (hm : m ≤ 8) (h : RowC w A n c l) (h2 : RowC w B m d r) (hs : Steps l n) :
    Calls Try.prog 7 #[.slice A n c, .slice B m d, .bool true, .int .i64 v] w fun e w' => e = .returned (.bool true) ∧ Below w.heap.size w w' := by
  have mixed : Try.prog.follows .mixedOrders = true := by kernel_rfl
  have huS := Try.underlying56
  have z1 : ¬ (8 : Int) < (n : Int) := by omega
  have z2 : ¬ (8 : Int) < (m : Int) := by omega
  obtain ⟨O, hO⟩ : ∃ O, minL l r = O := ⟨_, rfl⟩
  have h32O : ∀ x ∈ O, x.length = 32 := by rw [← hO]; exact minL_32 r h.1.2.2.1
  have hkn : O.length ≤ n := by have := minL_length l r; rw [hO, h.1.1] at this; exact this
  have cY : ∀ W, RowC W A n c l → RowC W B m d r → Calls Try.prog 34 #[.slice A n c, .slice B m d, .bool false] W fun e w' => ∃ A3 c3, e = .returned (.slice A3 O.length c3) ∧ RowC w' A3 O.length c3 O ∧ Below W.heap.size W w' := fun W h1 h2 => by
    refine (ronly_own A B n c m d l r false W h1.at h2.at (by omega)).mono ?_
    rintro e w' ⟨v, rfl, ho, hb⟩
    have ho2 : w'.ownsRow W.heap.size 24 32 v O.length (idsV O) := by rw [← hO]; exact ho
    obtain ⟨A3, c3, rfl, hr⟩ := own_rowC ho2 h32O (by omega)
    exact ⟨A3, c3, rfl, hr, hb⟩
  obtain ⟨k, hk⟩ : ∃ k, O.length = k := ⟨_, rfl⟩
  rw [hk] at cY hkn
  have cO : ∀ W, RowC W A n c l → Calls Try.prog 30 #[.slice A n c] W fun e w' => e = .returned (.tuple #[.agg (smC (n : Int) (cz (talZ l)) (sumL l)), .int .i64 0]) ∧ Below W.heap.size W w' := fun W h1 => rcof_yes A n c l W h1 hs
  have cR : ∀ W, RowC W A n c l → Calls Try.prog 15 #[.slice A n c] W fun e w' => e = .returned (.bool true) ∧ Below W.heap.size W w' := fun W hW => (rrises_any A n c l W hW.1).mono (by
    rintro e w' ⟨v, rfl, ⟨t, rfl, ht⟩, hb⟩
    cases t
    · exact ⟨absurd (ht.2 hs) (by decide), hb⟩
    · exact ⟨rfl, hb⟩)
  have cT : ∀ W, RowC W A n c l → Calls Try.prog 33 #[.slice A n c] W fun e w' => e = .returned (pz (talZ l)) ∧ Below W.heap.size W w' := fun W h1 => rtally22_any A n c l W h1.1
  have cN : ∀ W, Calls Try.prog 32 #[pz (talZ l)] W fun e w' => e = .returned (cz (talZ l)) ∧ Below W.heap.size W w' := fun W => number22_any (talZ l) W
  have cS : ∀ W, RowC W A n c l → Calls Try.prog 18 #[.slice A n c] W fun e w' => e = .returned (.agg (idVals (sumL l))) ∧ Below W.heap.size W w' := fun W h1 => rsumL_any A n c l W h1
  have bl : ∀ W, (Instr.build 56 #[(0, .int .i64 (n : Int)), (1, cz (talZ l)), (2, .agg (List.map u8v (sumL l)).toArray)]).run Try.prog W = .ok (.agg (smC (n : Int) (cz (talZ l)) (sumL l))) W := fun W => build_sm n (talZ l) (sumL l) (sumL_length l) W
  have hS : (smC (n : Int) (cz (talZ l)) (sumL l)).size = 34 := smC_size _ _ (sumL_length l)
  have h1c := smC_one (n : Int) (talZ l) (sumL l)
  have e9 : ∀ W, (Op.equalIn 10000 56 (.agg (smC (n : Int) (cz (talZ l)) (sumL l))) (.agg (smC (n : Int) (cz (talZ l)) (sumL l)))).run Try.prog W = .ok true W := fun W => sm_eq n (talZ l) (talZ_res l) (sumL l) (sumL_length l) W
  -- what lacks
  have HC := hid (talZ_res O)
  have HC0 := hid (talZ_ne O)
  have HL32 := hid (sumL_length O)
  have HLB : Hid (∀ (v : Nat), v ≤ n → n ≤ v + 2 → ∃ (f0 : Bool) (f : List UInt8 → Bool) (g : List UInt8 → List UInt8 → Bool),
      (∀ (W : World) (A : Option Addr) (c : Nat), RowC W A n c l → Calls Try.prog 31 #[.slice A n c, .agg (smC (v : Int) (cz (talZ O)) (sumL O))] W (LkR l f0 f g (.int .i64 0) (.int .i64 6) W)) ∧
      (∀ (W : World) (A : Option Addr) (c : Nat), RowC W A n c l → Calls Try.prog 35 #[.slice A n c, .int .i64 (v : Int), pz (talZ O), .agg (idVals (sumL O))] W (LkR l f0 f g (.bool true) (.bool false) W))) := hid (fun v hv1 hv2 => lack_both n l hs h.1.1 v hv1 hv2 (talZ O) (talZ_res O) (talZ_ne O) (sumL O) (sumL_length O))
  have HLR : Hid (∀ (W : World) (v : Int), (v < 0 ∨ (n : Int) < v ∨ v < (n : Int) - 2) → RowC W A n c l → Calls Try.prog 31 #[.slice A n c, .agg (smC v (cz (talZ O)) (sumL O))] W fun e w' => e = .returned (.tuple #[.slice none 0 0, .int .i64 5]) ∧ Below W.heap.size W w') := hid (fun W v hv h1 => lack_range A n c l v (cz (talZ O)) (sumL O) hv W h1 hs)
  have cTO : ∀ W A3 c3, RowC W A3 k c3 O → Calls Try.prog 33 #[.slice A3 k c3] W fun e w' => e = .returned (pz (talZ O)) ∧ Below W.heap.size W w' := fun W A3 c3 h1 => rtally22_any A3 k c3 O W h1.1
  have cNO : ∀ W, Calls Try.prog 32 #[pz (talZ O)] W fun e w' => e = .returned (cz (talZ O)) ∧ Below W.heap.size W w' := fun W => number22_any (talZ O) W
  have cSO : ∀ W A3 c3, RowC W A3 k c3 O → Calls Try.prog 18 #[.slice A3 k c3] W fun e w' => e = .returned (.agg (idVals (sumL O))) ∧ Below W.heap.size W w' := fun W A3 c3 h1 => rsumL_any A3 k c3 O W h1
  have bo : ∀ W, (Instr.build 56 #[(0, .int .i64 (k : Int)), (1, cz (talZ O)), (2, .agg (List.map u8v (sumL O)).toArray)]).run Try.prog W = .ok (.agg (smC (k : Int) (cz (talZ O)) (sumL O))) W := fun W => build_sm k (talZ O) (sumL O) (sumL_length O) W
  have hSO : ∀ v : Int, (smC v (cz (talZ O)) (sumL O)).size = 34 := fun v => smC_size _ _ (sumL_length O)
  have h1o : ∀ v : Int, (smC v (cz (talZ O)) (sumL O)).all (·.oneCell') = true := fun v => smC_one v (talZ O) (sumL O)
  have HCTO := hid cTO
  have HCSO := hid cSO
  clear hO h32O hk hs
  generalize hSLL : sumL l = SLL at *
  generalize sumL O = SLO at *
  generalize pz (talZ l) = PL at *
  generalize pz (talZ O) = PO at *
  generalize cz (talZ l) = CL at *
  generalize cz (talZ O) = CO at *
  obtain ⟨SL, hSL⟩ : ∃ L : List Value, smC (n : Int) CL SLL = L.toArray := ⟨(smC (n : Int) CL SLL).toList, by simp⟩
  rw [hSL] at cO bl hS h1c
  simp only [hSL] at e9 bl
  clear hSL hSLL
  go_enter Try.func7, Try.ntmps7
  go_upto_region 4 with (first
    | (go_at_call 30; (with_reducible refine (cO _ h).mono ?_); rintro e2 w2 ⟨rfl, hb2⟩)
    | (with_reducible refine wpList_store_smn rfl _ _ rfl SL.toArray hS h1c rfl rfl (by with_unfolding_all rfl) ?_))
  have hb := hb2.alloc (Nat.le_trans (Nat.le_refl _) hb2.size) (.cells SL.toArray 56)
  have hx := Blk.new w2 56 SL.toArray
  obtain ⟨gx, hgx⟩ : ∃ gx, w2.heap.size = gx := ⟨_, rfl⟩
  rw [hgx] at hx
  simp only [hgx]
  clear hgx
  generalize w2.alloc (.cells SL.toArray 56) = w3 at *
  replace h := h.below hb
  replace h2 := h2.below hb
  go_upto_region 7 with (first
    | (go_at_call 15; (with_reducible refine (cR _ h).mono ?_); rintro e4 w4 ⟨rfl, hb4⟩; replace hb := hb.trans (hb4.mono hb.size); replace hx := hx.below hb4; replace h := h.below hb4; replace h2 := h2.below hb4))
  have fS0 : w4.rangeAt gx 0 SL := fun j u hj => hx.cell_ (by rw [Nat.zero_add, List.getElem?_toArray]; exact hj)
  have fS := range_later fS0
  clear fS0
  have hzS : (Try.prog.info? 56).map (·.size) = some SL.length := by
    have e : SL.length = 34 := by simpa using hS
    rw [e]; exact infoSm
  have dT : ∀ p : LaterW w4, Calls Try.prog 33 #[.slice A n c] p.w fun e w' => e = .returned PL ∧ Below p.w.heap.size p.w w' := fun p => cT p.w (h.below p.h)
  have dN : ∀ p : LaterW w4, Calls Try.prog 32 #[PL] p.w fun e w' => e = .returned CL ∧ Below p.w.heap.size p.w w' := fun p => cN p.w
  have dS : ∀ p : LaterW w4, Calls Try.prog 18 #[.slice A n c] p.w fun e w' => e = .returned (.agg (idVals SLL)) ∧ Below p.w.heap.size p.w w' := fun p => cS p.w (h.below p.h)
  clear cO cR cT cN cS hx h1c hS
  refine wp_region_later mixed (by kernel_rfl) ?_
  repeat (first
    | ((with_reducible refine wpQuiet_skip (by with_unfolding_all rfl) ?_); simp only [Act.put, List.setIfInBounds_toArray, List.set_cons_zero, List.set_cons_succ])
    | ((with_reducible refine wpQuiet_load_if (by with_unfolding_all rfl) 56 _ rfl _ _ rfl SL _ fS huS (by with_unfolding_all rfl) hzS ?_); simp only [Act.put, List.setIfInBounds_toArray, List.set_cons_zero, List.set_cons_succ])
    | ((with_reducible refine wpQuiet_buildL (by with_unfolding_all rfl) _ _ rfl _ _ bl (by with_unfolding_all rfl) ?_); simp only [Act.put, List.setIfInBounds_toArray, List.set_cons_zero, List.set_cons_succ])
    | ((with_reducible refine wpQuiet_step (fun K hK => ?_)); go_simp; first | ((with_reducible refine hK _ ?_); clear hK K) | (with_reducible apply Exists.intro; (with_reducible refine ⟨fun _ => ?_, hK _ ?_⟩); ((first | (go_at_call 33; exact later_of (dT _)) | (go_at_call 32; exact later_of (dN _)) | (go_at_call 18; exact later_of (dS _)))); clear hK K)))
  with_reducible refine wpQuiet_nil ?_
  intro _ hw'
  obtain ⟨p9, rfl⟩ := hw'
  have hp9 := p9.h
  generalize p9.w = w5 at *
  replace h := h.below hp9
  replace h2 := h2.below hp9
  replace hb := hb.trans (hp9.mono hb.size)
  clear fS hzS dT dN dS bl e9 hp9
  go_upto_region 11 with (first
    | (go_at_call 34; (with_reducible refine (cY _ h h2).mono ?_); rintro e6 w6 ⟨A3, c3, rfl, hrO, hb6⟩; replace hb := hb.trans (hb6.mono hb.size); replace h := h.below hb6)
    | (go_at_call 33; (with_reducible refine (cTO _ _ _ hrO).mono ?_); rintro e7 w7 ⟨rfl, hb7⟩; replace hb := hb.trans (hb7.mono hb.size); replace h := h.below hb7; replace hrO := hrO.below hb7)
    | (go_at_call 32; (with_reducible refine (cNO _).mono ?_); rintro e8 w8 ⟨rfl, hb8⟩; replace hb := hb.trans (hb8.mono hb.size); replace h := h.below hb8; replace hrO := hrO.below hb8)
    | (go_at_call 18; (with_reducible refine (cSO _ _ _ hrO).mono ?_); rintro e9 w9 ⟨rfl, hb9⟩; replace hb := hb.trans (hb9.mono hb.size); replace h := h.below hb9; replace hrO := hrO.below hb9)
    | (with_reducible refine wpList_build_byM rfl _ _ rfl _ _ bo (by with_unfolding_all rfl) ?_)
    | (with_reducible refine wpList_store_smn rfl _ _ rfl (smC (k : Int) CO SLO) (hSO _) (h1o _) rfl rfl (by with_unfolding_all rfl) ?_))
  have hs5 := Blk.new w9 56 (smC (k : Int) CO SLO)
  have hal := (Below.refl w9.heap.size w9).alloc (Nat.le_refl _) (.cells (smC (k : Int) CO SLO) 56)
  have hlt9 : w9.heap.size < (w9.alloc (.cells (smC (k : Int) CO SLO) 56)).heap.size := by simp
  have hbz := hb.size
  clear hb2 hb4 hb6 hb7 hb8 hb9 cY cTO cSO cNO bo h1o h2
  obtain ⟨gs, hgs⟩ : ∃ gs, w9.heap.size = gs := ⟨_, rfl⟩
  rw [hgs] at hs5 hlt9 hbz
  simp only [hgs]
  generalize w9.alloc (.cells (smC (k : Int) CO SLO) 56) = w10 at *
  go_upto_region 14 with (with_reducible refine wpList_store_cnt rfl _ _ rfl gs _ CO SLO v hs5 rfl rfl ?_; intro w11 hB11 hg11)
  have hst : Below w9.heap.size w10 w11 := (Below.refl _ w10).grown hg11 (by rw [hgs]; exact Nat.le_of_lt hlt9) (fun q hq => by rw [hgs]; exact Nat.le_of_eq (Option.some.inj hq))
  have h11 := h.below (hal.trans hst)
  have hO11 := hrO.below (hal.trans hst)
  have hb11 := hb.trans ((hal.trans hst).mono hb.size)
  clear hs5 hal hlt9 hbz hst hg11 hgs h hrO hb
  have q1 : wrap64 ((n : Int) - 2) = (n : Int) - 2 := by unfold wrap64; omega
  by_cases hv : v < 0 ∨ (n : Int) < v ∨ v < (n : Int) - 2
  · have cL := HLR.out w11 v hv h11
    go_upto_region 15 with (first
      | (with_reducible refine wpList_load_smx (by with_unfolding_all rfl) _ rfl gs (smC v CO SLO) rfl hB11 (hSO _) ?_)
      | (go_at_call 31; (with_reducible refine cL.mono ?_); rintro e12 w12 ⟨rfl, hb12⟩; replace hb11 := hb11.trans (hb12.mono hb11.size)))
    clear hB11 h11 hO11 cL
    by_cases h1 : v < 0
    · go_wp2_with (go_at_call 29; (with_reducible refine (awake23_any _).mono ?_); rintro e20 w20 ⟨rfl, hb20⟩)
      go_ret
      exact ⟨rfl, hb11.trans (hb20.mono hb11.size)⟩
    · by_cases h2 : (n : Int) < v
      · go_wp2_with (go_at_call 29; (with_reducible refine (awake23_any _).mono ?_); rintro e20 w20 ⟨rfl, hb20⟩)
        go_ret
        exact ⟨rfl, hb11.trans (hb20.mono hb11.size)⟩
      · have h3 : v < (n : Int) - 2 := by omega
        go_wp2_with (go_at_call 29; (with_reducible refine (awake23_any _).mono ?_); rintro e20 w20 ⟨rfl, hb20⟩)
        go_ret
        exact ⟨rfl, hb11.trans (hb20.mono hb11.size)⟩
  · obtain ⟨vn, rfl⟩ : ∃ vn : Nat, v = (vn : Int) := ⟨v.toNat, by omega⟩
    have h1 : ¬ (vn : Int) < 0 := by omega
    have h2 : ¬ (n : Int) < (vn : Int) := by omega
    have h3 : ¬ (vn : Int) < (n : Int) - 2 := by omega
    obtain ⟨f0, f, g, cL, cD⟩ := HLB.out vn (by omega) (by omega)
    clear hv
    by_cases hi : LkIs l f0 f g none
    · have cL1 := (cL w11 A c h11).mono (fun e w' h9 => h9.isNone hi)
      have HD := hid (fun W h => (cD W A c h).mono (fun e w' h9 => h9.isNone hi))
      clear cL cD
      go_upto_region 17 with (first
        | (with_reducible refine wpList_load_smx (by with_unfolding_all rfl) _ rfl gs (smC (vn : Int) CO SLO) rfl hB11 (hSO _) ?_)
        | (go_at_call 31; (with_reducible refine cL1.mono ?_); rintro e12 w12 ⟨rfl, hb12⟩; replace hb11 := hb11.trans (hb12.mono hb11.size); replace h11 := h11.below hb12; replace hO11 := hO11.below hb12))
      clear cL1 hB11
      go_upto_region 18 with (first
        | (go_at_call 33; (with_reducible refine (HCTO.out _ _ _ hO11).mono ?_); rintro e13 w13 ⟨rfl, hb13⟩; replace hb11 := hb11.trans (hb13.mono hb11.size); replace h11 := h11.below hb13; replace hO11 := hO11.below hb13)
        | (go_at_call 18; (with_reducible refine (HCSO.out _ _ _ hO11).mono ?_); rintro e14 w14 ⟨rfl, hb14⟩; replace hb11 := hb11.trans (hb14.mono hb11.size); replace h11 := h11.below hb14)
        | (go_at_call 35; (with_reducible refine (HD.out _ h11).mono ?_); rintro e15 w15 ⟨rfl, hb15⟩; replace hb11 := hb11.trans (hb15.mono hb11.size)))
      go_wp2_with (go_at_call 29; (with_reducible refine (awake23_any _).mono ?_); rintro e20 w20 ⟨rfl, hb20⟩)
      go_ret
      exact ⟨rfl, hb11.trans (hb20.mono hb11.size)⟩
    · have cL1 := (cL w11 A c h11).mono (fun e w' h9 => h9.isSome hi)
      have HD := hid (fun W h xs hx => (cD W A c h).mono (fun e w' h9 => h9.isAt (xs := xs) hx))
      clear cL cD
      go_upto_region 17 with (first
        | (with_reducible refine wpList_load_smx (by with_unfolding_all rfl) _ rfl gs (smC (vn : Int) CO SLO) rfl hB11 (hSO _) ?_)
        | (go_at_call 31; (with_reducible refine cL1.mono ?_); rintro e12 w12 ⟨xs, A5, c5, hxs, rfl, hr5, hb12⟩; replace hb11 := hb11.trans (hb12.mono hb11.size); replace h11 := h11.below hb12; replace hO11 := hO11.below hb12))
      clear cL1 hB11
      have HXS := hid hxs
      clear hxs
      go_upto_region 18 with (first
        | (go_at_call 33; (with_reducible refine (HCTO.out _ _ _ hO11).mono ?_); rintro e13 w13 ⟨rfl, hb13⟩; replace hb11 := hb11.trans (hb13.mono hb11.size); replace h11 := h11.below hb13; replace hO11 := hO11.below hb13; replace hr5 := hr5.below hb13)
        | (go_at_call 18; (with_reducible refine (HCSO.out _ _ _ hO11).mono ?_); rintro e14 w14 ⟨rfl, hb14⟩; replace hb11 := hb11.trans (hb14.mono hb11.size); replace h11 := h11.below hb14; replace hr5 := hr5.below hb14)
        | (go_at_call 35; (with_reducible refine (HD.out _ h11 xs HXS.out).mono ?_); rintro e15 w15 ⟨A6, c6, rfl, hr6, hb15⟩; replace hb11 := hb11.trans (hb15.mono hb11.size); replace hr5 := hr5.below hb15))
      have cS : Calls Try.prog 23 #[.slice A5 xs.length c5, .slice A6 xs.length c6] w15 fun e w' => e = .returned (.bool true) ∧ Below w15.heap.size w15 w' := by
        have := rsame_any A5 A6 xs.length c5 xs.length c6 xs xs w15 hr5.1 hr6.1
        rw [decide_eq_true rfl] at this
        exact this
      generalize xs.length = q at *
      clear h11 hr5 hr6 hO11
      go_wp2_with (first
        | (go_at_call 23; (with_reducible refine cS.mono ?_); rintro e16 w16 ⟨rfl, hb16⟩; replace hb11 := hb11.trans (hb16.mono hb11.size))
        | (go_at_call 29; (with_reducible refine (awake23_any _).mono ?_); rintro e20 w20 ⟨rfl, hb20⟩))
      go_ret
      exact ⟨rfl, hb11.trans (hb20.mono hb11.size)⟩
end Go.Proofs.Ytkajfpincbkfhaa


/- GrantPlays: the walk over the acts. -/
import Derived.Test.YtapgiagpjplpdaaGreatGp3
import Derived.Test.YtapgiagpjplpdaaGreatGp4
import Derived.Test.YtapgiagpjplpdaaGreatGrantClones
set_option linter.unusedSimpArgs false
set_option linter.unusedVariables false
namespace Go.Proofs.YtapgiagpjplpdaaGreat
open Go.RowKit Go.Qc Go.Shelf
attribute [local go_sem] txt_size txt_append ib_fold txt_toL

theorem wpQuiet_load_opG {C : World → Prop} {ops : Array Oper} {rest : List Oper} {o : Oper} {a : Act} {Q : Act → Prop} (hw : Region.wanted o (yielded ops a.tmps) = true) (x : Operand) (ho : o.op = .load 34 x)
    (g q : Nat) (hx : a.eval x = .pointer (some ⟨g, q, none⟩)) (D : OpD) (A : Option Addr) (n c : Nat) (B : Option Addr) (m d : Nat) (hX : ∀ w, C w → w.rangeAt g q (opC D A n c B m d).toList) (hK : D.K.length = 32)
    (h : wpQuiet Tryz.prog ops C Q rest (a.put o.dst (.agg (opC D A n c B m d)))) : wpQuiet Tryz.prog ops C Q (o :: rest) a := by
  refine wpQuiet_load_if hw 34 x ho g q hx (opC D A n c B m d).toList _ hX Tryz.underlying34 rfl ?_ ?_
  · rw [infoOp, Array.length_toList, opC_size _ _ _ _ _ _ _ hK]
  · rw [Array.toArray_toList]; exact h
theorem yields_opg {ops : Array Oper} {S : World → Prop} {o : Oper} {a : Act} (hw : Region.wanted o (yielded ops a.tmps) = true) (x : Operand) (ho : o.op = .load 34 x) (g q : Nat) (hx : a.eval x = .pointer (some ⟨g, q, none⟩)) (D : OpD) (A : Option Addr) (n c : Nat) (B : Option Addr) (m d : Nat) (hX : ∀ w', S w' → w'.rangeAt g q (opC D A n c B m d).toList) (hK : D.K.length = 32) : YieldsIf Tryz.prog ops S o (.agg (opC D A n c B m d)) a := by
  have h := yieldsIf_load_mid (P := Tryz.prog) (S := S) hw 34 x ho g q hx (opC D A n c B m d).toList _ hX Tryz.underlying34 rfl (by rw [infoOp, Array.length_toList, opC_size _ _ _ _ _ _ _ hK])
  rw [Array.toArray_toList] at h
  exact h

set_option maxRecDepth 100000 in
set_option maxHeartbeats 20000000 in
theorem gdepthX_no (tb : Nat) (key : List UInt8) (s : List UInt8) (hp : preR s = false) (w : World) :
    Calls Tryz.prog 18 #[.pointer (some ⟨tb, 0, none⟩), .agg (List.map u8v key).toArray, .string (txt s)] w fun e w' => e = .returned (.int .i64 (-1)) ∧ Below w.heap.size w w' := by
  have hba := (Below.refl w.heap.size w).alloc (Nat.le_refl _) (.cells (List.map u8v key).toArray 23)
  have cP := prefix_any s (w.alloc (.cells (List.map u8v key).toArray 23))
  rw [hp] at cP
  go_enter Tryz.func18, Tryz.ntmps18
  go_wp2_with (go_at_call 36; (with_reducible refine cP.mono ?_); rintro e1 w1 ⟨rfl, hb1⟩)
  go_ret
  exact ⟨rfl, hba.trans (hb1.mono hba.size)⟩

set_option maxRecDepth 100000 in
set_option maxHeartbeats 20000000 in
theorem gp_long1 (root : List UInt8) (hR : root.length = 32) (A : Option Addr) (n c : Nat) (Xs : List AcV) (key : List UInt8) (hk : key.length = 32) (s : List UInt8) (w : World) (ha : AcRow w A n Xs) (hN : 30 < n) :
    Calls Tryz.prog 3 #[.agg (idVals root), .slice A n c, .agg (idVals key), .string (txt s)] w fun e w' => e = .returned (.bool true) ∧ Below w.heap.size w w' := by
  have hb0 := (Below.refl w.heap.size w).alloc (Nat.le_refl _) (.cells (idVals root) 23)
  have hba := hb0.alloc hb0.size (.cells (idVals key) 23)
  have z1 : (30 : Int) < n := by omega
  clear ha
  go_enter Tryz.func3, Tryz.ntmps3
  go_wp2_with (fail)
  refine (awake19_any _).mono ?_
  rintro e9 w9 ⟨rfl, hb9⟩
  go_wp2_with (fail)
  go_ret
  exact ⟨rfl, hba.trans (hb9.mono hba.size)⟩

set_option maxRecDepth 100000 in
set_option maxHeartbeats 20000000 in
theorem gp_long2 (root : List UInt8) (hR : root.length = 32) (A : Option Addr) (n c : Nat) (Xs : List AcV) (key : List UInt8) (hk : key.length = 32) (s : List UInt8) (w : World) (ha : AcRow w A n Xs) (hN1 : ¬ 30 < n) (hN : 300 < s.length) :
    Calls Tryz.prog 3 #[.agg (idVals root), .slice A n c, .agg (idVals key), .string (txt s)] w fun e w' => e = .returned (.bool true) ∧ Below w.heap.size w w' := by
  have hb0 := (Below.refl w.heap.size w).alloc (Nat.le_refl _) (.cells (idVals root) 23)
  have hba := hb0.alloc hb0.size (.cells (idVals key) 23)
  have z1 : ¬ (30 : Int) < n := by omega
  have z2 : (300 : Int) < s.length := by omega
  clear ha
  go_enter Tryz.func3, Tryz.ntmps3
  go_wp2_with (fail)
  refine (awake19_any _).mono ?_
  rintro e9 w9 ⟨rfl, hb9⟩
  go_wp2_with (fail)
  go_ret
  exact ⟨rfl, hba.trans (hb9.mono hba.size)⟩

set_option maxRecDepth 100000 in
set_option maxHeartbeats 20000000 in
theorem gp_yes (root : List UInt8) (hR : root.length = 32) (A : Option Addr) (n c : Nat) (Xs : List AcV) (key : List UInt8) (hk : key.length = 32) (s : List UInt8) (w : World) (ha : AcRow w A n Xs) (hN : ¬ 30 < n) (hM : ¬ 300 < s.length) :
    Calls Tryz.prog 3 #[.agg (idVals root), .slice A n c, .agg (idVals key), .string (txt s)] w fun e w' => e = .returned (.bool true) ∧ Below w.heap.size w w' := by
  have hk0 := hk
  have hka := Blk.new w 23 (idVals root)
  have hb0 := (Below.refl w.heap.size w).alloc (Nat.le_refl _) (.cells (idVals root) 23)
  have hba := hb0.alloc hb0.size (.cells (idVals key) 23)
  have hbk := (Below.refl (w.alloc (.cells (idVals root) 23)).heap.size (w.alloc (.cells (idVals root) 23))).alloc (Nat.le_refl _) (.cells (idVals key) 23)
  have hkb := range_blk (Blk.new (w.alloc (.cells (idVals root) 23)) 23 (idVals key))
  rw [World.size_alloc] at hkb
  have z1 : ¬ (30 : Int) < n := by omega
  have z2 : ¬ (300 : Int) < s.length := by omega
  have z3 : n ≤ 30 := by omega
  have hu := Tryz.underlying23
  have hzr : (Tryz.prog.info? 23).map (·.size) = some (root.map u8v).length := by rw [List.length_map, hR]; exact sizeId
  have hr0 := (range_blk hka).below hbk
  have cN : ∀ W : World, Calls Tryz.prog 5 #[.agg (List.map u8v root).toArray] W fun e w' => ∃ tb, e = .returned (.pointer (some ⟨tb, 0, none⟩)) ∧ W.heap.size ≤ tb ∧ TbS w' tb root [] ∧ Below W.heap.size W w' := fun W => gnew_any root hR W
  have heq : ∀ W, (Op.equalIn 10000 23 (.agg (List.map u8v root).toArray) (.agg (List.map u8v root).toArray)).run Tryz.prog W = .ok true W := fun W => (ids_eq W root root hR hR).trans (by rw [decide_eq_true rfl])
  have HA := hid ha
  have HB0 := hid hba
  have HRB := hid hr0
  have HKB := hid hkb
  have HM := hid hM
  clear ha hN hM hka hb0 hbk hkb
  go_enter Tryz.func3, Tryz.ntmps3
  go_upto_region 3 with (fail)
  generalize (w.alloc (.cells (idVals root) 23)).alloc (.cells (idVals key) 23) = u0 at *
  go_upto_region 4 with (first
    | (with_reducible refine wpList_load_if (by with_unfolding_all rfl) 23 _ rfl _ _ rfl (root.map u8v) _ hr0 hu rfl hzr ?_)
    | (go_at_call 5; (with_reducible refine (cN _).mono ?_); rintro e1 w1 ⟨tb, rfl, htb, hT, hb1⟩; replace hr0 := hr0.below hb1))
  have fr := range_later hr0
  have cO : ∀ P : LaterW w1, Calls Tryz.prog 6 #[.pointer (some ⟨tb, 0, none⟩)] P.w fun e w' => e = .returned (.agg (List.map u8v root).toArray) ∧ Below P.w.heap.size P.w w' := fun P => groot_any tb root hR [] P.w (hT.below P.h)
  refine wp_region_later mixed10 (by kernel_rfl) ?_
  repeat (first
    | ((with_reducible refine wpQuiet_load_if (by with_unfolding_all rfl) 23 _ rfl _ _ rfl (root.map u8v) _ fr hu (by with_unfolding_all rfl) hzr ?_); simp only [Act.put, List.setIfInBounds_toArray, List.set_cons_zero, List.set_cons_succ])
    | ((with_reducible refine wpQuiet_step (fun K hK => ?_)); go_simp; first | ((with_reducible refine hK _ ?_); clear hK K) | (with_reducible apply Exists.intro; (with_reducible refine ⟨fun P => ?_, hK _ ?_⟩); ((go_at_call 6; exact later_of (cO P))); clear hK K))
    | ((with_reducible refine BigFrame.wpQuiet_skip (by first | kernel_rfl | with_unfolding_all rfl) ?_); simp only [Act.put, List.setIfInBounds_toArray, List.set_cons_zero, List.set_cons_succ]))
  with_reducible refine wpQuiet_nil ?_
  intro _ hw9
  obtain ⟨P9, rfl⟩ := hw9
  replace hT := hT.below P9.h
  replace hr0 := hr0.below P9.h
  replace hb1 := hb1.trans (P9.h.mono hb1.size)
  generalize P9.w = w2 at *
  clear fr cO heq cN
  go_upto_region 7 with (first
    | (with_reducible refine wpList_load_if (by with_unfolding_all rfl) 23 _ rfl _ _ rfl (root.map u8v) _ hr0 hu rfl hzr ?_)
    | (with_reducible refine wpList_build_tbk rfl _ rfl root hR (by with_unfolding_all rfl) ?_)
    | (with_reducible refine wpList_store_tbn rfl _ _ rfl root hR _ rfl rfl rfl (by with_unfolding_all rfl) ?_))
  have hal := (Below.refl w2.heap.size w2).alloc (Nat.le_refl _) (.cells (tbC root (.slice none 0 0)) 31)
  have hx1 : TbK (w2.alloc (.cells (tbC root (.slice none 0 0)) 31)) w2.heap.size root (.slice none 0 0) := ⟨Blk.new _ _ _⟩
  have ht1 : tb < w2.heap.size := by
    obtain ⟨_, _, _, h9⟩ := hT.blk
    exact h9.lt
  have H0 := hid (GcS.mk (hT.below hal) hx1 ⟨none, 0, rfl, GrRd.nil_ _ _⟩ (hb1.trans (hal.mono hb1.size)) htb ht1 : GcS u0 tb w2.heap.size root (w2.alloc (.cells (tbC root (.slice none 0 0)) 31)) (.slice none 0 0) [] [])
  obtain ⟨bx, hbx⟩ : ∃ bx, w2.heap.size = bx := ⟨_, rfl⟩
  rw [hbx] at H0 ⊢
  generalize w2.alloc (.cells (tbC root (.slice none 0 0)) 31) = w3 at *
  clear hal hx1 ht1 hbx htb hT hb1 hr0 hba
  go_wp2_with (fail)
  go_loopw [42] (fun i wr => ∃ (k : Nat) (Ys : List GrD) (v : Value), k ≤ n ∧ i = .int .i64 k ∧ Hid (KeepG root Ys) ∧ Hid (SortG Ys) ∧ Hid (GcS u0 tb bx root wr v Ys Ys)) (fun i _ => n - (intOf i).toNat)
  case atStart => exact ⟨0, [], _, Nat.zero_le _, rfl, hid (keep_startC root), hid List.Pairwise.nil, H0⟩
  case round =>
  clear H0
  obtain ⟨k, Ys, v, hk, rfl, HK, HO, HS⟩ := hrel
  obtain ⟨A5, c5, rfl, hr5⟩ := HS.out.r
  have hbw := HB0.out.trans (HS.out.b.mono HB0.out.size)
  by_cases hlt : k < n
  · obtain ⟨X, hXk⟩ : ∃ X, Xs[k]? = some X := ⟨_, List.getElem?_eq_getElem (by have := HA.out.1; omega)⟩
    obtain ⟨g, q, hg, hgl, hok, hix⟩ := AcRd.pick c HA.out.2.2.1 HA.out.1 hXk
    obtain ⟨_, q1, q2, q3, q4⟩ := HA.out.2.2.2 X (List.mem_of_getElem? hXk)
    have fX := hg.below hbw
    have hokK : X.D.K.length = 32 := hok.2
    have c1 : (k : Int) < n := by omega
    have hnw : AcXC (wr.alloc (.cells X.cs 36)) wr.heap.size X := ⟨Blk.new _ _ _⟩
    have hal := (Below.refl wr.heap.size wr).alloc (Nat.le_refl _) (.cells X.cs 36)
    have HBW := hid (hbw.trans (hal.mono hbw.size))
    have fO := hnw.op_ hok
    have cL := rlong13_any X.D hok.2 X.A X.n X.c q1.1 q1.2.1 X.B X.m X.d q2.1 q2.2.1 q3 q4 (wr.alloc (.cells X.cs 36)) (q1.2.2.below HBW.out) (q2.2.2.below HBW.out)
    have Q1 := hid q1
    have Q2 := hid q2
    clear hXk hg q1 q2 q3 q4 hgl
    cases hl : lngO X.D with
    | true =>
      rw [hl] at cL
      clear hl
      go_wp2_with (first
        | (with_reducible refine wpList_load_acrC (by with_unfolding_all rfl) _ rfl _ _ rfl fX hok ?_)
        | (with_reducible refine wpList_store_acnC rfl _ _ rfl rfl rfl hok (by with_unfolding_all rfl) ?_)
        | (with_reducible refine wpList_load_opGC (by with_unfolding_all rfl) _ rfl _ _ rfl fO hokK ?_)
        | (go_at_call 7; (with_reducible refine cL.mono ?_); rintro e4 w4 ⟨rfl, hb4⟩)
        | (go_at_call 4; (with_reducible refine (awake19_any _).mono ?_); rintro e9 w9 ⟨rfl, hb9⟩))
      go_ret
      have hb5 := HBW.out.trans (hb4.mono HBW.out.size)
      exact ⟨rfl, hb5.trans (hb9.mono hb5.size)⟩
    | false =>
      rw [hl] at cL
      have HBD := hid (lngG_boundsC hl)
      have HBP := hid (lngC_p hl)
      clear hl
      have hm : (applyD19 root Ys X.y X.D) = (nextG root Ys X.y X.D, (appG root Ys X.y X.D).2) := apply_same HO.out X.y X.D
      have cA : ∀ W : World, TbS W tb root Ys → Below w.heap.size w W → Calls Tryz.prog 11 #[.pointer (some ⟨tb, 0, none⟩), .agg (List.map u8v X.y).toArray, .agg (opC X.D X.A X.n X.c X.B X.m X.d)] W fun e w' => e = .returned (.int .i64 (appG root Ys X.y X.D).2) ∧ TbS w' tb root (nextG root Ys X.y X.D) ∧ W.grownBy w' (some tb) := fun W hT hW =>
        gapply_any X.D hok.2 X.A X.n X.c X.B X.m X.d Q1.out.1 (by have := HBD.out.1; have := Q1.out.1; omega) Q2.out.1 (by have := HBD.out.2; have := Q2.out.1; omega) root hR tb Ys (by have := HK.out.len; omega) X.y hok.1 W hT (Q1.out.2.2.below hW) (Q2.out.2.2.below hW)
      have cM : ∀ W : World, TbS W tb root Ys → Below w.heap.size w W → Calls Tryz.prog 8 #[.pointer (some ⟨tb, 0, none⟩), .agg (List.map u8v X.y).toArray, .agg (opC X.D X.A X.n X.c X.B X.m X.d)] W fun e w' => e = .returned (.bool (mayG root Ys X.y X.D)) ∧ Below W.heap.size W w' := fun W hT hW =>
        gmay_any X.D hok.2 X.A X.n X.c X.B X.m X.d Q1.out.1 (by have := HBD.out.1; have := Q1.out.1; omega) Q2.out.1 (by have := HBD.out.2; have := Q2.out.1; omega) root hR tb Ys (by have := HK.out.len; omega) X.y hok.1 W hT (Q1.out.2.2.below hW) (Q2.out.2.2.below hW)
      have cN : ∀ W : World, GrRd W A5 Ys → Below w.heap.size w W → Calls Tryz.prog 9 #[.agg (tbC root (.slice A5 Ys.length c5)), .agg (List.map u8v X.y).toArray, .agg (opC X.D X.A X.n X.c X.B X.m X.d)] W fun e w' => e = .returned (.bool (mayG root Ys X.y X.D)) ∧ Below W.heap.size W w' := fun W hr hW =>
        rmay_any root hR A5 Ys.length c5 Ys rfl (by have := HK.out.len; omega) (fun Y hY => by have := pre_len (HK.out.pre Y hY); omega) HO.out X.y hok.1 X.D hok.2 X.A X.n X.c Q1.out.1 (by have := HBD.out.1; have := Q1.out.1; omega) X.B X.m X.d Q2.out.1 (by have := HBD.out.2; have := Q2.out.1; omega) (by have := HBP.out.1; omega) (by have := HBP.out.2.1; omega) (fun x hx => by have := HBP.out.2.2.1 x hx; omega) (fun x hx => by have := HBP.out.2.2.2 x hx; omega) W hr (Q1.out.2.2.below hW) (Q2.out.2.2.below hW)
      have cR : ∀ W : World, GrRd W A5 Ys → Below w.heap.size w W → Calls Tryz.prog 10 #[.agg (tbC root (.slice A5 Ys.length c5)), .agg (List.map u8v X.y).toArray, .agg (opC X.D X.A X.n X.c X.B X.m X.d)] W fun e w' => ∃ v, e = .returned (.tuple #[.agg (tbC root v), .int .i64 (appG root Ys X.y X.D).2]) ∧ RkT w' v (nextG root Ys X.y X.D) ∧ Below W.heap.size W w' := fun W hr hW => by
        have hc := rapply19_any root hR A5 Ys.length c5 Ys rfl (by have := HK.out.len; omega) (fun Y hY => by have := pre_len (HK.out.pre Y hY); omega) X.y hok.1 X.D hok.2 X.A X.n X.c Q1.out.1 (by have := HBD.out.1; have := Q1.out.1; omega) X.B X.m X.d Q2.out.1 (by have := HBD.out.2; have := Q2.out.1; omega) (by have := HBP.out.1; omega) (by have := HBP.out.2.1; omega) (fun x hx => by have := HBP.out.2.2.1 x hx; omega) (fun x hx => by have := HBP.out.2.2.2 x hx; omega) W hr (Q1.out.2.2.below hW) (Q2.out.2.2.below hW)
        refine hc.mono ?_
        rintro e w' ⟨v, rfl, h1, h2⟩
        rw [hm] at h1 ⊢
        exact ⟨v, rfl, h1, h2⟩
      have HKN := hid (keep_next X.y X.D HK.out)
      have HON := hid (sort_next (root := root) HO.out X.y X.D)
      clear hm
      generalize nextG root Ys X.y X.D = Zs at *
      generalize (appG root Ys X.y X.D).2 = ez at *
      generalize mayG root Ys X.y X.D = mv at *
      have ntb : tb ≠ wr.heap.size := by
        obtain ⟨_, _, _, h9⟩ := HS.out.T.blk
        have := h9.lt; omega
      have nbx : bx ≠ wr.heap.size := by have := HS.out.x.b.lt; omega
      have hwb : w.heap.size ≤ bx := by have h1 := HB0.out.size; have h2 := HS.out.n1; have h3 := HS.out.n2; omega
      have hwt : w.heap.size ≤ tb := by have h1 := HB0.out.size; have h2 := HS.out.n1; omega
      replace HS := hid (HS.out.below hal)
      have HX := hid hnw
      have hzy : (Tryz.prog.info? 23).map (·.size) = some (X.y.map u8v).length := by rw [List.length_map, hok.1]; exact sizeId
      have HLT := hid (show k + 1 ≤ n from hlt)
      clear Q1 Q2 HBD HBP HK HO hnw hal hbw hr5 hlt
      go_upto_region 12 with (first
        | (with_reducible refine wpList_load_acrC (by with_unfolding_all rfl) _ rfl _ _ rfl fX hok ?_)
        | (with_reducible refine wpList_store_acnC rfl _ _ rfl rfl rfl hok (by with_unfolding_all rfl) ?_)
        | (with_reducible refine wpList_load_opGC (by with_unfolding_all rfl) _ rfl _ _ rfl fO hokK ?_)
        | (go_at_call 7; (with_reducible refine cL.mono ?_); rintro e4 w4 ⟨rfl, hb4⟩; replace HX := hid (HX.out.below hb4); replace HS := hid (HS.out.below hb4); replace HBW := hid (HBW.out.trans (hb4.mono HBW.out.size)); clear cL))
      obtain ⟨ab, hab⟩ : ∃ ab, wr.heap.size = ab := ⟨_, rfl⟩
      rw [hab] at HX ntb nbx ⊢
      clear fO fX hix hab hb4
      have fY := range_later HX.out.by_
      have fO := range_later (HX.out.op_ hok)
      have fT := range_later HS.out.x.all
      have cM2 := fun P : LaterW w4 => cM P.w (HS.out.below P.h).T (HBW.out.trans (P.h.mono HBW.out.size))
      have cN2 := fun P : LaterW w4 => cN P.w ((HS.out.below P.h).r).at_ (HBW.out.trans (P.h.mono HBW.out.size))
      refine wp_region_later mixed10 (by kernel_rfl) ?_
      repeat (first
        | ((with_reducible refine wpQuiet_load_if (by with_unfolding_all rfl) 23 _ rfl _ _ rfl (X.y.map u8v) _ fY hu (by with_unfolding_all rfl) hzy ?_); simp only [Act.put, List.setIfInBounds_toArray, List.set_cons_zero, List.set_cons_succ])
        | ((with_reducible refine wpQuiet_load_opG (by with_unfolding_all rfl) _ rfl _ _ rfl X.D X.A X.n X.c X.B X.m X.d fO hokK ?_); simp only [Act.put, List.setIfInBounds_toArray, List.set_cons_zero, List.set_cons_succ])
        | ((with_reducible refine wpQuiet_load_tb (by with_unfolding_all rfl) _ rfl bx root hR _ rfl fT ?_); simp only [Act.put, List.setIfInBounds_toArray, List.set_cons_zero, List.set_cons_succ])
        | ((with_reducible refine wpQuiet_step (fun K hK => ?_)); go_simp; first | ((with_reducible refine hK _ ?_); clear hK K) | (with_reducible apply Exists.intro; (with_reducible refine ⟨fun P => ?_, hK _ ?_⟩); (first | (go_at_call 8; exact later_of (cM2 P)) | (go_at_call 9; exact later_of (cN2 P))); clear hK K))
        | ((with_reducible refine BigFrame.wpQuiet_skip (by first | kernel_rfl | with_unfolding_all rfl) ?_); simp only [Act.put, List.setIfInBounds_toArray, List.set_cons_zero, List.set_cons_succ]))
      with_reducible refine wpQuiet_nil ?_
      intro _ hw9
      obtain ⟨P9, rfl⟩ := hw9
      replace HX := hid (HX.out.below P9.h)
      replace HS := hid (HS.out.below P9.h)
      replace HBW := hid (HBW.out.trans (P9.h.mono HBW.out.size))
      generalize P9.w = w5 at *
      clear fY fO fT cM cN cM2 cN2
      have fY := HX.out.by_
      have fO := HX.out.op_ hok
      have hx := HS.out.x
      have HR9 := (HS.out.r).at_
      go_upto_region 15 with (first
        | (with_reducible refine wpList_load_opGC (by with_unfolding_all rfl) _ rfl _ _ rfl fO hokK ?_)
        | (with_reducible refine wpList_load_if (by with_unfolding_all rfl) 23 _ rfl _ _ rfl (X.y.map u8v) _ fY hu rfl hzy ?_)
        | (with_reducible refine wpList_load_tb (by with_unfolding_all rfl) _ rfl bx root hR _ rfl hx ?_)
        | (go_at_call 10; (with_reducible refine (cR _ HR9 HBW.out).mono ?_); rintro e7 w7 ⟨v7, rfl, hr7, hb7⟩; replace HX := hid (HX.out.below hb7); replace HBW := hid (HBW.out.trans (hb7.mono HBW.out.size)); replace HS := hid (HS.out.below hb7); obtain ⟨A7, c7, rfl, hr7⟩ := hr7; have HR7 := hid hr7; clear hr7 hx cR fO fY)
        | (with_reducible refine wpList_store_tbn rfl _ _ rfl root hR _ rfl rfl rfl (by with_unfolding_all rfl) ?_))
      have hal := (Below.refl w7.heap.size w7).alloc (Nat.le_refl _) (.cells (tbC root (.slice A7 Zs.length c7)) 31)
      have hx1 : TbK (w7.alloc (.cells (tbC root (.slice A7 Zs.length c7)) 31)) w7.heap.size root (.slice A7 Zs.length c7) := ⟨Blk.new _ _ _⟩
      replace HX := hid (HX.out.below hal)
      replace HS := hid (HS.out.below hal)
      replace HBW := hid (HBW.out.trans (hal.mono HBW.out.size))
      replace HR7 := hid (HR7.out.below hal)
      obtain ⟨yb, hyb⟩ : ∃ yb, w7.heap.size = yb := ⟨_, rfl⟩
      rw [hyb] at hx1 ⊢
      generalize w7.alloc (.cells (tbC root (.slice A7 Zs.length c7)) 31) = w8 at *
      have hob := HS.out.x.b
      have hsz := tbC_size root hR (.slice A5 Ys.length c5)
      clear hal hyb hb7 HR9
      go_upto_region 16 with (first
        | (with_reducible refine wpList_load_tb (by with_unfolding_all rfl) _ rfl yb root hR _ rfl hx1 ?_)
        | ((with_reducible refine wpList_store_tb rfl _ _ rfl bx root hR _ rfl hob hsz rfl rfl ?_); intro w9 ho9 hg9))
      have hSp := HS.out.put (⟨A7, c7, rfl, HR7.out⟩ : RkT w8 (.slice A7 Zs.length c7) Zs) ho9 hg9
      have hXp : AcXC w9 ab X := ⟨blk_grown HX.out.b hg9 nbx.symm⟩
      replace HBW := hid (below_grownS HBW.out hg9 hwb)
      have hdw := below_drew10 w9
      have cG : ∀ W, TbS W tb root Zs → Calls Tryz.prog 14 #[.pointer (some ⟨tb, 0, none⟩)] W fun e w' => ∃ A2 c2, e = .returned (.slice A2 Zs.length c2) ∧ Hid (GrRd w' A2 Zs) ∧ Below W.heap.size W w' := fun W hW => by
        refine (ggrants_any tb root hR Zs (by have := HKN.out.len; omega) W hW).mono ?_
        rintro e w' ⟨v, rfl, hown, hb⟩
        obtain ⟨A2, c2, rfl, _, _, _, hrd⟩ := hown.rd hW.ok
        exact ⟨A2, c2, rfl, hid hrd, hb⟩
      have cP : ∀ W A2 c2, GrRd W A2 Zs → Calls Tryz.prog 13 #[.slice A2 Zs.length c2] W fun e w' => ∃ A3 c3, e = .returned (.slice A3 Zs.length c3) ∧ Hid (GrRd w' A3 Zs) ∧ Below W.heap.size W w' := fun W A2 c2 h => by
        refine (rplain_any A2 Zs.length c2 Zs rfl (by have := HKN.out.len; omega) W h).mono ?_
        rintro e w' ⟨v, rfl, hown, hb⟩
        obtain ⟨A3, c3, rfl, _, _, _, hrd⟩ := hown.rd h.1
        exact ⟨A3, c3, rfl, hid hrd, hb⟩
      have cS : ∀ W A2 c2 A3 c3, GrRd W A2 Zs → GrRd W A3 Zs → Calls Tryz.prog 12 #[.slice A2 Zs.length c2, .slice A3 Zs.length c3] W fun e w' => e = .returned (.bool true) ∧ Below W.heap.size W w' := fun W A2 c2 A3 c3 h1 h2 =>
        rsame19_any A2 Zs.length c2 A3 c3 Zs rfl (by have := HKN.out.len; omega) W h1 h2
      have fS : ∀ W Qs, GcS u0 tb bx root W (.slice A7 Zs.length c7) Zs Qs ∧ AcXC W ab X → (W.rangeAt ab 0 (X.y.map u8v) ∧ W.rangeAt ab 32 (opC X.D X.A X.n X.c X.B X.m X.d).toList ∧ W.cell? ⟨bx, 32, none⟩ = some (.slice A7 Zs.length c7)) := fun W Qs h => ⟨h.2.by_, h.2.op_ hok, h.1.x.row hR⟩
      have fR : ∀ W Qs, GcS u0 tb bx root W (.slice A7 Zs.length c7) Zs Qs → GrRd W A7 Zs := fun W Qs h => (h.r).at_
      have HSx := hid (⟨hSp.below hdw, hXp.below hdw⟩ : GcS u0 tb bx root w9.drew (.slice A7 Zs.length c7) Zs Ys ∧ AcXC w9.drew ab X)
      replace HBW := hid (HBW.out.trans (hdw.mono HBW.out.size))
      clear hSp hXp hdw HS HX HR7 ho9 hg9 hob hsz hx1
      generalize Zs.length = N at *
      go_wp2_with (fail)
      refine wp_region_held_drew (S := fun W => W.rangeAt ab 0 (X.y.map u8v) ∧ W.rangeAt ab 32 (opC X.D X.A X.n X.c X.B X.m X.d).toList ∧ W.cell? ⟨bx, 32, none⟩ = some (.slice A7 N c7)) (by kernel_rfl) ?_ (fun hHeld => ?_)
      · exact fS _ _ HSx.out
      refine' wpAnyH_take (i := 0) (v := .pointer (some ⟨tb, 0, none⟩)) rfl (by kernel_rfl) (by kernel_rfl) (by kernel_rfl) (fun _ _ _ h => h) (Or.inl ⟨by rfl, fun w' hw' => by go_simp⟩) hHeld ?_
      try simp only [Act.put, List.getElem_toArray, List.getElem_cons_succ, List.getElem_cons_zero, List.setIfInBounds_toArray, List.set_cons_zero, List.set_cons_succ]
      refine' wpAnyH_take (i := 1) (v := .pointer (some ⟨ab, 0, none⟩)) rfl (by kernel_rfl) (by kernel_rfl) (by kernel_rfl) (fun _ _ _ h => h) (Or.inl ⟨by rfl, fun w' hw' => by go_simp⟩) hHeld ?_
      try simp only [Act.put, List.getElem_toArray, List.getElem_cons_succ, List.getElem_cons_zero, List.setIfInBounds_toArray, List.set_cons_zero, List.set_cons_succ]
      refine' wpAnyH_take (i := 2) (v := _) rfl (by kernel_rfl) (by kernel_rfl) (by kernel_rfl) (fun _ _ _ h => h) (yieldsIf_load_mid (by rfl) 23 _ rfl _ _ rfl (X.y.map u8v) _ (fun w' h => h.1) hu rfl hzy) hHeld ?_
      try simp only [Act.put, List.getElem_toArray, List.getElem_cons_succ, List.getElem_cons_zero, List.setIfInBounds_toArray, List.set_cons_zero, List.set_cons_succ]
      refine' wpAnyH_take (i := 3) (v := .pointer (some ⟨ab, 32, none⟩)) rfl (by kernel_rfl) (by kernel_rfl) (by kernel_rfl) (fun _ _ _ h => h) (Or.inl ⟨by rfl, fun w' hw' => by go_simp⟩) hHeld ?_
      try simp only [Act.put, List.getElem_toArray, List.getElem_cons_succ, List.getElem_cons_zero, List.setIfInBounds_toArray, List.set_cons_zero, List.set_cons_succ]
      refine' wpAnyH_take (i := 4) (v := .agg (opC X.D X.A X.n X.c X.B X.m X.d)) rfl (by kernel_rfl) (by kernel_rfl) (by kernel_rfl) (fun _ _ _ h => h) (yields_opg (by rfl) _ rfl _ _ rfl X.D X.A X.n X.c X.B X.m X.d (fun w' h => h.2.1) hokK) hHeld ?_
      try simp only [Act.put, List.getElem_toArray, List.getElem_cons_succ, List.getElem_cons_zero, List.setIfInBounds_toArray, List.set_cons_zero, List.set_cons_succ]
      refine' wpAnyH_take (i := 6) (v := .int .i64 ez) rfl (by kernel_rfl) (by kernel_rfl) (by kernel_rfl) (fun _ _ _ h => h) (Or.inl ⟨by rfl, fun w' hw' => by go_simp⟩) hHeld ?_
      try simp only [Act.put, List.getElem_toArray, List.getElem_cons_succ, List.getElem_cons_zero, List.setIfInBounds_toArray, List.set_cons_zero, List.set_cons_succ]
      refine wpAnyH_ready (rs := [5]) (by kernel_rfl) (by simp) ?_
      refine AllReadyH.cons rfl (fun K hK => ?_) AllReadyH.nil
      go_simp
      (with_reducible refine (cA _ HSx.out.1.T HBW.out).mono ?_)
      rintro e6 w6 ⟨rfl, hT6, hg6⟩
      replace HBW := hid (below_grownS HBW.out hg6 hwt)
      replace HSx := hid (⟨HSx.out.1.t hT6 hg6, ⟨blk_grown HSx.out.2.b hg6 ntb.symm⟩⟩ : GcS u0 tb bx root w6 (.slice A7 N c7) Zs Zs ∧ AcXC w6 ab X)
      refine hK.out _ _ (fS _ _ HSx.out) (fun hHeld => ?_)
      clear hK K
      try simp only [Act.put, List.getElem_toArray, List.getElem_cons_succ, List.getElem_cons_zero, List.setIfInBounds_toArray, List.set_cons_zero, List.set_cons_succ]
      refine' wpAnyH_take (i := 7) (v := .bool false) rfl (by kernel_rfl) (by kernel_rfl) (by kernel_rfl) (fun _ _ _ h => h) (Or.inl ⟨by rfl, fun w' hw' => by go_simp⟩) hHeld ?_
      try simp only [Act.put, List.getElem_toArray, List.getElem_cons_succ, List.getElem_cons_zero, List.setIfInBounds_toArray, List.set_cons_zero, List.set_cons_succ]
      refine' wpAnyH_take (i := 8) (v := .bool false) rfl (by kernel_rfl) (by kernel_rfl) (by kernel_rfl) (fun _ _ _ h => h) (Or.inl ⟨by rfl, fun w' hw' => by go_simp⟩) hHeld ?_
      try simp only [Act.put, List.getElem_toArray, List.getElem_cons_succ, List.getElem_cons_zero, List.setIfInBounds_toArray, List.set_cons_zero, List.set_cons_succ]
      refine' wpAnyH_take (i := 9) (v := .pointer (some ⟨tb, 0, none⟩)) rfl (by kernel_rfl) (by kernel_rfl) (by kernel_rfl) (fun _ _ _ h => h) (Or.inl ⟨by rfl, fun w' hw' => by go_simp⟩) hHeld ?_
      try simp only [Act.put, List.getElem_toArray, List.getElem_cons_succ, List.getElem_cons_zero, List.setIfInBounds_toArray, List.set_cons_zero, List.set_cons_succ]
      refine' wpAnyH_take (i := 12) (v := .pointer (some ⟨bx, 32, none⟩)) rfl (by kernel_rfl) (by kernel_rfl) (by kernel_rfl) (fun _ _ _ h => h) (Or.inl ⟨by rfl, fun w' hw' => by go_simp⟩) hHeld ?_
      try simp only [Act.put, List.getElem_toArray, List.getElem_cons_succ, List.getElem_cons_zero, List.setIfInBounds_toArray, List.set_cons_zero, List.set_cons_succ]
      refine' wpAnyH_take (i := 13) (v := .slice A7 N c7) rfl (by kernel_rfl) (by kernel_rfl) (by kernel_rfl) (fun _ _ _ h => h) (Or.inl ⟨by rfl, fun w' hw' => by have hv := hw'.2.2; go_simp⟩) hHeld ?_
      try simp only [Act.put, List.getElem_toArray, List.getElem_cons_succ, List.getElem_cons_zero, List.setIfInBounds_toArray, List.set_cons_zero, List.set_cons_succ]
      refine wpAnyH_ready (rs := [10]) (by kernel_rfl) (by simp) ?_
      refine AllReadyH.cons rfl (fun K hK => ?_) AllReadyH.nil
      go_simp
      (with_reducible refine (cG _ HSx.out.1.T).mono ?_)
      rintro e10 w10 ⟨A8, c8, rfl, HR8, hb10⟩
      replace HBW := hid (HBW.out.trans (hb10.mono HBW.out.size))
      replace HSx := hid (And.intro (HSx.out.1.below hb10) (HSx.out.2.below hb10))
      refine hK.out _ _ (fS _ _ HSx.out) (fun hHeld => ?_)
      clear hK K
      try simp only [Act.put, List.getElem_toArray, List.getElem_cons_succ, List.getElem_cons_zero, List.setIfInBounds_toArray, List.set_cons_zero, List.set_cons_succ]
      refine wpAnyH_ready (rs := [11]) (by kernel_rfl) (by simp) ?_
      refine AllReadyH.cons rfl (fun K hK => ?_) AllReadyH.nil
      go_simp
      (with_reducible refine (cP _ _ _ HR8.out).mono ?_)
      rintro e11 w11 ⟨A9, c9, rfl, HR9, hb11⟩
      replace HBW := hid (HBW.out.trans (hb11.mono HBW.out.size))
      replace HSx := hid (And.intro (HSx.out.1.below hb11) (HSx.out.2.below hb11))
      refine hK.out _ _ (fS _ _ HSx.out) (fun hHeld => ?_)
      clear hK K
      try simp only [Act.put, List.getElem_toArray, List.getElem_cons_succ, List.getElem_cons_zero, List.setIfInBounds_toArray, List.set_cons_zero, List.set_cons_succ]
      refine wpAnyH_ready (rs := [14]) (by kernel_rfl) (by simp) ?_
      refine AllReadyH.cons rfl (fun K hK => ?_) AllReadyH.nil
      go_simp
      (with_reducible refine (cS _ _ _ _ _ HR9.out (fR _ _ HSx.out.1)).mono ?_)
      rintro e14 w14 ⟨rfl, hb14⟩
      replace HBW := hid (HBW.out.trans (hb14.mono HBW.out.size))
      replace HSx := hid (And.intro (HSx.out.1.below hb14) (HSx.out.2.below hb14))
      refine hK.out _ _ (fS _ _ HSx.out) (fun hHeld => ?_)
      clear hK K
      try simp only [Act.put, List.getElem_toArray, List.getElem_cons_succ, List.getElem_cons_zero, List.setIfInBounds_toArray, List.set_cons_zero, List.set_cons_succ]
      refine' wpAnyH_take (i := 15) (v := .bool false) rfl (by kernel_rfl) (by kernel_rfl) (by kernel_rfl) (fun _ _ _ h => h) (Or.inl ⟨by rfl, fun w' hw' => by go_simp⟩) hHeld ?_
      try simp only [Act.put, List.getElem_toArray, List.getElem_cons_succ, List.getElem_cons_zero, List.setIfInBounds_toArray, List.set_cons_zero, List.set_cons_succ]
      refine' wpAnyH_take (i := 16) (v := .bool false) rfl (by kernel_rfl) (by kernel_rfl) (by kernel_rfl) (fun _ _ _ h => h) (Or.inl ⟨by rfl, fun w' hw' => by go_simp⟩) hHeld ?_
      try simp only [Act.put, List.getElem_toArray, List.getElem_cons_succ, List.getElem_cons_zero, List.setIfInBounds_toArray, List.set_cons_zero, List.set_cons_succ]
      refine wpAnyH_done (by kernel_rfl) ?_ _
      go_wp2
      go_roundw
      case rel => exact ⟨k + 1, Zs, _, HLT.out, by go_num, HKN, HON, hid HSx.out.1⟩
      case measure => exact meas_k1 HLT.out
  · obtain rfl : k = n := by omega
    have c1 : ¬ (k : Int) < k := by omega
    have hkey := hk0
    have cK : ∀ W, Below wr.heap.size wr W → Calls Tryz.prog 20 #[.pointer (some ⟨tb, 0, none⟩), .string (txt s)] W fun e w' => ∃ A2 n2 c2, e = .returned (.slice A2 n2 c2) ∧ Hid (RowR w' A2 n2 (keysG root Ys s)) ∧ Below W.heap.size W w' := fun W hW => by
      refine (gkeys_any tb root hR Ys (by have := HK.out.len; omega) s W (HS.out.T.below hW)).mono ?_
      rintro e w' ⟨A2, n2, c2, rfl, h, hb⟩
      exact ⟨A2, n2, c2, rfl, hid h, hb⟩
    have cQ : ∀ W, Calls Tryz.prog 15 #[.string (txt s)] W fun e w' => e = .returned (.bool (pathR s)) ∧ Below W.heap.size W w' := fun W => rpath_any s (by have := HM.out; omega) W
    have hzk : (Tryz.prog.info? 23).map (·.size) = some (key.map u8v).length := by rw [List.length_map, hkey]; exact sizeId
    have fk := HKB.out.below HS.out.b
    have hbe := Below.refl wr.heap.size wr
    cases hpr : preR s with
    | false =>
      have hq := hpr
      unfold preR at hq
      rw [Bool.or_eq_false_iff] at hq
      have hse : ¬ s = [] := fun e => by rw [e] at hq; exact absurd hq.1 (by decide)
      have hqr := hq.2
      rw [hqr] at cQ
      have f2 : s.isEmpty = false := hq.1
      have cX := fun (W : World) (_ : Below wr.heap.size wr W) => gdepthX_no tb key s hpr W
      have HRO := hid (show RowR wr none 0 [] from ⟨rfl, by decide, IdRd.nil_ _ _⟩)
      have HOL := hid (show 0 ≤ 900000 by decide)
      have HKE := hid (show keysG root Ys s = sortL [] by unfold keysG; rw [if_neg (by rw [hpr]; decide)]; rfl)
      clear hq hqr hpr
      go_wp2_with (first
        | (go_at_call 15; (with_reducible refine (cQ _).mono ?_); rintro e0 v0 ⟨rfl, hb0⟩; replace hbe := hb0; replace HRO := hid (HRO.out.below hb0); replace fk := fk.below hb0; clear hb0)
        | (with_reducible refine wpList_load_if (by with_unfolding_all rfl) 23 _ rfl _ _ rfl (key.map u8v) _ fk hu rfl hzk ?_)
        | (go_at_call 18; (with_reducible refine (cX _ hbe).mono ?_); rintro e1 v1 ⟨rfl, hb1⟩; replace hbe := hbe.trans (hb1.mono hbe.size); replace HRO := hid (HRO.out.below hb1); clear hb1)
        | (go_at_call 20; (with_reducible refine (cK _ hbe).mono ?_); rintro e2 v2 ⟨A2, n2, c2, rfl, HR2, hb2⟩; replace hbe := hbe.trans (hb2.mono hbe.size); replace HRO := hid (HRO.out.below hb2); clear hb2)
        | (go_at_call 21; (with_reducible refine (rsort_any _ _ _ _ _ HRO.out HOL.out).mono ?_); rintro e3 v3 ⟨a3, n3, c3, rfl, hr3, hb3⟩; have HR3 := hid (RowAt.r hr3); replace hbe := hbe.trans (hb3.mono hbe.size); replace HR2 := hid (HR2.out.below hb3); clear hb3 hr3)
        | (go_at_call 19; (with_reducible refine (rsame_any _ _ _ _ _ _ _ _ _ HR2.out HR3.out).mono ?_); rintro e4 v4 ⟨rfl, hb4⟩; rw [decide_eq_true HKE.out]; replace hbe := hbe.trans (hb4.mono hbe.size); clear hb4)
        | (go_at_call 4; (with_reducible refine (awake19_any _).mono ?_); rintro e9 w9 ⟨rfl, hb9⟩))
      go_ret
      have hb8 := hbw.trans (hbe.mono hbw.size)
      exact ⟨rfl, hb8.trans (hb9.mono hb8.size)⟩
    | true =>
      have hq := hpr
      unfold preR at hq
      clear cK cQ fk hbe hr5 hlt
      cases hse : s.isEmpty with
      | true =>
        clear hq
        go_upto_region 22 with (fail)
        obtain ⟨u1, hu1⟩ : ∃ u1, u1 = wr := ⟨_, rfl⟩
        subst hu1
        obtain ⟨j0, hj, hjz, hjs, hjb⟩ := infoId2_parts
        have fk := HKB.out.below HS.out.b
        have fr := HRB.out.below HS.out.b
        have hx := HS.out.x
        have HR5 := hid (HS.out.r).at_
        have HOK := hid (show ∀ Y ∈ Ys, Y.ok from HR5.out.1)
        obtain ⟨N, hN⟩ : ∃ N, Ys.length = N := ⟨_, rfl⟩
        have HN := hid hN
        have bN : N ≤ 900 := by have := HK.out.len; omega
        have bn9 : N ≤ 9223372036854775807 := by omega
        have hone := u8v_one root
        have cD : Calls Tryz.prog 16 #[.agg (tbC root (.slice A5 Ys.length c5)), .agg (List.map u8v key).toArray, .string (txt s)] u1 fun e w' => e = .returned (.int .i64 (depV root Ys key s)) ∧ Below u1.heap.size u1 w' := rdepth19_any root hR A5 Ys.length c5 Ys rfl (by omega) (fun Y hY => by have := pre_len (HK.out.pre Y hY); omega) key hkey s (by have := HM.out; omega) u1 HR5.out
        have cX : ∀ W, Below u1.heap.size u1 W → Calls Tryz.prog 18 #[.pointer (some ⟨tb, 0, none⟩), .agg (List.map u8v key).toArray, .string (txt s)] W fun e w' => e = .returned (.int .i64 (depV root Ys key s)) ∧ Below W.heap.size W w' := fun W hW => gdepthX_any tb root hR Ys (by omega) key hkey s hpr W (HS.out.T.below hW)
        have cK : ∀ W, Below u1.heap.size u1 W → Calls Tryz.prog 20 #[.pointer (some ⟨tb, 0, none⟩), .string (txt s)] W fun e w' => ∃ A2 n2 c2, e = .returned (.slice A2 n2 c2) ∧ Hid (RowR w' A2 n2 (keysG root Ys s)) ∧ Below W.heap.size W w' := fun W hW => by
          refine (gkeys_any tb root hR Ys (by omega) s W (HS.out.T.below hW)).mono ?_
          rintro e w' ⟨A2, n2, c2, rfl, h, hb⟩
          exact ⟨A2, n2, c2, rfl, hid h, hb⟩
        have cV : ∀ X ∈ Ys, ∀ W, Calls Tryz.prog 17 #[.string (txt X.p), .string (txt s)] W fun e w' => e = .returned (.bool (covB X.p s)) ∧ Below W.heap.size W w' := fun X hX W => by
          refine (rcov19_any X.p s (by have := pre_len (HK.out.pre X hX); omega) (by have := HM.out; omega) W).mono ?_
          rintro e w' ⟨rfl, rfl⟩
          exact ⟨rfl, Below.refl _ _⟩
        have HCV := hid cV
        obtain ⟨dz, hdz⟩ : ∃ dz, depV root Ys key s = dz := ⟨_, rfl⟩
        rw [hdz] at cD cX
        rw [hN] at cD hx
        have ho0 : u1.ownsRow u1.heap.size 23 32 (.slice none 0 0) 0 (idsV []) := ⟨rfl, .inl ⟨rfl, rfl⟩⟩
        have HX0 := hid hx
        clear hN hdz cV HK HO HS
        go_wp2_with (first
          | (with_reducible refine wpList_load_if (by with_unfolding_all rfl) 23 _ rfl _ _ rfl (key.map u8v) _ fk hu rfl hzk ?_)
          | (with_reducible refine wpList_load_if (by with_unfolding_all rfl) 23 _ rfl _ _ rfl (root.map u8v) _ fr hu rfl hzr ?_)
          | (with_reducible refine wpList_load_tb (by with_unfolding_all rfl) _ rfl bx root hR _ rfl hx ?_)
          | (go_at_call 16; (with_reducible refine cD.mono ?_); rintro e2 w2 ⟨rfl, hb2⟩; replace fr := fr.below hb2; replace hx := hx.below hb2; replace ho0 := own_below ho0 hb2; clear cD)
          | (at_builtin; refine wpList_append_own _ rfl _ _ 48 rfl u1.heap.size 23 j0 (.agg (idVals zeroB)) 32 32 Tryz.underlying48 hj hjz hjs hjb rfl (by decide) _ _ _ rfl (ho0.alloc _) ⟨w2.heap.size, 0, none⟩ 1 1 (root.map u8v) rfl ?l1 (news_fold w2 root hR) hone ?l2 ?l3 ?l4 ?_))
        try case l1 => rw [List.length_map, hR]
        case l2 => unfold maxLen; omega
        case l3 => omega
        case l4 => (try simp); have := hb2.size; omega
        intro v8 w8 hown8 hg8 hk8
        have hB8 := (hb2.alloc hb2.size _).grown hg8 (hb2.alloc hb2.size _).size (fun k hk => (ho0.lt k hk).1)
        have x32 := gr_cell hB8 ((HX0.out).row hR)
        have ho1 : w8.ownsRow u1.heap.size 23 32 v8 [root].length (idsV [root]) := (show w8.ownsRow u1.heap.size 23 32 v8 (([] : List (List UInt8)) ++ [root]).length (idsV (([] : List (List UInt8)) ++ [root])) by rw [List.length_append, idsV_snoc]; exact hown8)
        clear hown8 hg8 hk8 hb2 hx ho0 fr hone
        go_wp2_with (fail)
        go_loopw [16, 108] (fun v i wr => ∃ (k : Nat) (o : List (List UInt8)), k ≤ N ∧ i = .int .i64 k ∧ Hid (o = rowK root (Ys.take k) s) ∧ wr.ownsRow u1.heap.size 23 32 v o.length (idsV o) ∧ Below u1.heap.size u1 wr) (fun _ i _ => N - (intOf i).toNat)
        case atStart => exact ⟨0, [root], by omega, rfl, hid rfl, ho1, hB8⟩
        case round =>
          clear ho1 hB8 x32
          obtain ⟨k, o, hkn, rfl, HO, hown, hb⟩ := hrel
          by_cases hlt : k < N
          · obtain ⟨X, hX⟩ : ∃ X, Ys[k]? = some X := ⟨_, List.getElem?_eq_getElem (by have := HN.out; omega)⟩
            obtain ⟨g, q, hg, hXo, hix⟩ := HR5.out.pickR c5 HN.out hX
            have b1 : (k : Int) < N := by omega
            have fX := hg.below hb
            have hnw := RkX.new wr X
            have hba := (Below.refl wr.heap.size wr).alloc (Nat.le_refl _) (.cells X.cs 52)
            have c0 := hnw.c0
            have fy := hnw.key
            have hzx : (Tryz.prog.info? 23).map (·.size) = some (X.k.map u8v).length := by rw [List.length_map, hXo.1]; exact sizeId
            have hox := u8v_one X.k
            have lk : X.k.length = 32 := hXo.1
            obtain ⟨cv, hcv⟩ : ∃ cv, covB X.p s = cv := ⟨_, rfl⟩
            have cC := HCV.out X (List.mem_of_getElem? hX)
            rw [hcv] at cC
            have HSN := hid (rowK_snoc root s hX)
            have HCE := hid hcv
            have HL := hid (show o.length ≤ k + 1 by
              have := rowK_len root (Ys.take k) s
              rw [← HO.out, List.length_take] at this
              omega)
            have HLT := hid (show k + 1 ≤ N from hlt)
            have hbA := hb.alloc hb.size (.cells X.cs 52)
            have howA := hown.alloc (.cells X.cs 52)
            clear hX hg hcv hba hlt fk
            cases cv with
            | true =>
              go_wp2_with (first
                | (with_reducible refine wpList_load_rkr (by with_unfolding_all rfl) _ rfl _ _ rfl fX hXo ?_)
                | (with_reducible refine wpList_store_rkn rfl _ _ rfl rfl rfl hXo (by with_unfolding_all rfl) ?_)
                | (go_at_call 17; (with_reducible refine (cC _).mono ?_); rintro e3 w3 ⟨rfl, hb3⟩; replace fy := fy.below hb3; replace hbA := hbA.trans (hb3.mono hbA.size); replace howA := own_below howA hb3)
                | (with_reducible refine wpList_load_if (by with_unfolding_all rfl) 23 _ rfl _ _ rfl (X.k.map u8v) _ fy hu rfl hzx ?_)
                | (at_builtin; refine wpList_append_own _ rfl _ _ 48 rfl u1.heap.size 23 j0 (.agg (idVals zeroB)) 32 32 Tryz.underlying48 hj hjz hjs hjb rfl (by decide) _ _ _ rfl (howA.alloc _) ⟨w3.heap.size, 0, none⟩ 1 1 (X.k.map u8v) rfl ?l1 (news_fold w3 X.k hXo.1) hox ?l2 ?l3 ?l4 ?_))
              try case l1 => rw [List.length_map, hXo.1]
              case l2 => have := HL.out; unfold maxLen; omega
              case l3 => have := HL.out; omega
              case l4 => (try simp); have := hbA.size; omega
              intro v8 w8 hown8 hg8 _
              have hB8 := (hbA.alloc hbA.size _).grown hg8 (hbA.alloc hbA.size _).size (fun k hk => (howA.lt k hk).1)
              clear hg8
              go_wp2_with (fail)
              go_roundw
              case rel => exact ⟨k + 1, o ++ [X.k], HLT.out, by go_num, hid (by rw [HSN.out, HCE.out, ← HO.out]; simp), (by rw [List.length_append, idsV_snoc]; exact hown8), hB8⟩
              case measure => exact meas_k1 HLT.out
            | false =>
              go_wp2_with (first
                | (with_reducible refine wpList_load_rkr (by with_unfolding_all rfl) _ rfl _ _ rfl fX hXo ?_)
                | (with_reducible refine wpList_store_rkn rfl _ _ rfl rfl rfl hXo (by with_unfolding_all rfl) ?_)
                | (go_at_call 17; (with_reducible refine (cC _).mono ?_); rintro e3 w3 ⟨rfl, hb3⟩; replace fy := fy.below hb3; replace hbA := hbA.trans (hb3.mono hbA.size); replace howA := own_below howA hb3))
              go_roundw
              case rel => exact ⟨k + 1, o, HLT.out, by go_num, hid (by rw [HSN.out, HCE.out, ← HO.out]; simp), howA, hbA⟩
              case measure => exact meas_k1 HLT.out
          · obtain rfl : k = N := by omega
            have c1 : ¬ (k : Int) < k := by omega
            have HQ := hid (show o = rowK root Ys s by rw [HO.out, List.take_of_length_le (by rw [HN.out]; exact Nat.le_refl _)])
            have h32 : ∀ a ∈ o, a.length = 32 := by rw [HQ.out]; exact rowK_32 root s hR HOK.out
            have hL : o.length ≤ 900000 := by have := rowK_len root Ys s; have h2 := HN.out; rw [HQ.out]; omega
            obtain ⟨A1, c1', rfl, hra⟩ := RowAt.own hown h32 (by omega)
            have HRO := hid (RowAt.r hra)
            have HOL := hid hL
            have HKE := hid (show keysG root Ys s = sortL o by unfold keysG; rw [if_pos hpr, HQ.out])
            have hbe := hb
            replace fk := fk.below hb
            clear hra hown HO hL h32 hb hkn
            go_wp2_with (first
              | (with_reducible refine wpList_load_if (by with_unfolding_all rfl) 23 _ rfl _ _ rfl (key.map u8v) _ fk hu rfl hzk ?_)
              | (go_at_call 18; (with_reducible refine (cX _ hbe).mono ?_); rintro e1 v1 ⟨rfl, hb1⟩; replace hbe := hbe.trans (hb1.mono hbe.size); replace HRO := hid (HRO.out.below hb1); clear hb1)
              | (go_at_call 20; (with_reducible refine (cK _ hbe).mono ?_); rintro e2 v2 ⟨A2, n2, c2, rfl, HR2, hb2⟩; replace hbe := hbe.trans (hb2.mono hbe.size); replace HRO := hid (HRO.out.below hb2); clear hb2)
              | (go_at_call 21; (with_reducible refine (rsort_any _ _ _ _ _ HRO.out HOL.out).mono ?_); rintro e3 v3 ⟨a3, n3, c3, rfl, hr3, hb3⟩; have HR3 := hid (RowAt.r hr3); replace hbe := hbe.trans (hb3.mono hbe.size); replace HR2 := hid (HR2.out.below hb3); clear hb3 hr3)
              | (go_at_call 19; (with_reducible refine (rsame_any _ _ _ _ _ _ _ _ _ HR2.out HR3.out).mono ?_); rintro e4 v4 ⟨rfl, hb4⟩; rw [decide_eq_true HKE.out]; replace hbe := hbe.trans (hb4.mono hbe.size); clear hb4)
              | (go_at_call 4; (with_reducible refine (awake19_any _).mono ?_); rintro e9 w9 ⟨rfl, hb9⟩))
            go_ret
            have hb8 := hbw.trans (hbe.mono hbw.size)
            exact ⟨rfl, hb8.trans (hb9.mono hb8.size)⟩
      | false =>
        rw [hse, Bool.false_or] at hq
        have cQ : ∀ W, Calls Tryz.prog 15 #[.string (txt s)] W fun e w' => e = .returned (.bool true) ∧ Below W.heap.size W w' := fun W => by
          have h := rpath_any s (by have := HM.out; omega) W
          rw [hq] at h
          exact h
        have hsn : ¬ s = [] := fun e => by rw [e] at hse; exact absurd hse (by decide)
        clear hq
        go_upto_region 22 with (go_at_call 15; (with_reducible refine (cQ _).mono ?_); rintro e0 v0 ⟨rfl, hb0⟩; replace HS := hid (HS.out.below hb0); replace hbw := hbw.trans (hb0.mono hbw.size); clear hb0)
        obtain ⟨u1, hu1⟩ : ∃ u1, u1 = v0 := ⟨_, rfl⟩
        subst hu1
        obtain ⟨j0, hj, hjz, hjs, hjb⟩ := infoId2_parts
        have fk := HKB.out.below HS.out.b
        have fr := HRB.out.below HS.out.b
        have hx := HS.out.x
        have HR5 := hid (HS.out.r).at_
        have HOK := hid (show ∀ Y ∈ Ys, Y.ok from HR5.out.1)
        obtain ⟨N, hN⟩ : ∃ N, Ys.length = N := ⟨_, rfl⟩
        have HN := hid hN
        have bN : N ≤ 900 := by have := HK.out.len; omega
        have bn9 : N ≤ 9223372036854775807 := by omega
        have hone := u8v_one root
        have cD : Calls Tryz.prog 16 #[.agg (tbC root (.slice A5 Ys.length c5)), .agg (List.map u8v key).toArray, .string (txt s)] u1 fun e w' => e = .returned (.int .i64 (depV root Ys key s)) ∧ Below u1.heap.size u1 w' := rdepth19_any root hR A5 Ys.length c5 Ys rfl (by omega) (fun Y hY => by have := pre_len (HK.out.pre Y hY); omega) key hkey s (by have := HM.out; omega) u1 HR5.out
        have cX : ∀ W, Below u1.heap.size u1 W → Calls Tryz.prog 18 #[.pointer (some ⟨tb, 0, none⟩), .agg (List.map u8v key).toArray, .string (txt s)] W fun e w' => e = .returned (.int .i64 (depV root Ys key s)) ∧ Below W.heap.size W w' := fun W hW => gdepthX_any tb root hR Ys (by omega) key hkey s hpr W (HS.out.T.below hW)
        have cK : ∀ W, Below u1.heap.size u1 W → Calls Tryz.prog 20 #[.pointer (some ⟨tb, 0, none⟩), .string (txt s)] W fun e w' => ∃ A2 n2 c2, e = .returned (.slice A2 n2 c2) ∧ Hid (RowR w' A2 n2 (keysG root Ys s)) ∧ Below W.heap.size W w' := fun W hW => by
          refine (gkeys_any tb root hR Ys (by omega) s W (HS.out.T.below hW)).mono ?_
          rintro e w' ⟨A2, n2, c2, rfl, h, hb⟩
          exact ⟨A2, n2, c2, rfl, hid h, hb⟩
        have cV : ∀ X ∈ Ys, ∀ W, Calls Tryz.prog 17 #[.string (txt X.p), .string (txt s)] W fun e w' => e = .returned (.bool (covB X.p s)) ∧ Below W.heap.size W w' := fun X hX W => by
          refine (rcov19_any X.p s (by have := pre_len (HK.out.pre X hX); omega) (by have := HM.out; omega) W).mono ?_
          rintro e w' ⟨rfl, rfl⟩
          exact ⟨rfl, Below.refl _ _⟩
        have HCV := hid cV
        obtain ⟨dz, hdz⟩ : ∃ dz, depV root Ys key s = dz := ⟨_, rfl⟩
        rw [hdz] at cD cX
        rw [hN] at cD hx
        have ho0 : u1.ownsRow u1.heap.size 23 32 (.slice none 0 0) 0 (idsV []) := ⟨rfl, .inl ⟨rfl, rfl⟩⟩
        have HX0 := hid hx
        clear hN hdz cV HK HO HS
        go_wp2_with (first
          | (with_reducible refine wpList_load_if (by with_unfolding_all rfl) 23 _ rfl _ _ rfl (key.map u8v) _ fk hu rfl hzk ?_)
          | (with_reducible refine wpList_load_if (by with_unfolding_all rfl) 23 _ rfl _ _ rfl (root.map u8v) _ fr hu rfl hzr ?_)
          | (with_reducible refine wpList_load_tb (by with_unfolding_all rfl) _ rfl bx root hR _ rfl hx ?_)
          | (go_at_call 16; (with_reducible refine cD.mono ?_); rintro e2 w2 ⟨rfl, hb2⟩; replace fr := fr.below hb2; replace hx := hx.below hb2; replace ho0 := own_below ho0 hb2; clear cD)
          | (at_builtin; refine wpList_append_own _ rfl _ _ 48 rfl u1.heap.size 23 j0 (.agg (idVals zeroB)) 32 32 Tryz.underlying48 hj hjz hjs hjb rfl (by decide) _ _ _ rfl (ho0.alloc _) ⟨w2.heap.size, 0, none⟩ 1 1 (root.map u8v) rfl ?l1 (news_fold w2 root hR) hone ?l2 ?l3 ?l4 ?_))
        try case l1 => rw [List.length_map, hR]
        case l2 => unfold maxLen; omega
        case l3 => omega
        case l4 => (try simp); have := hb2.size; omega
        intro v8 w8 hown8 hg8 hk8
        have hB8 := (hb2.alloc hb2.size _).grown hg8 (hb2.alloc hb2.size _).size (fun k hk => (ho0.lt k hk).1)
        have x32 := gr_cell hB8 ((HX0.out).row hR)
        have ho1 : w8.ownsRow u1.heap.size 23 32 v8 [root].length (idsV [root]) := (show w8.ownsRow u1.heap.size 23 32 v8 (([] : List (List UInt8)) ++ [root]).length (idsV (([] : List (List UInt8)) ++ [root])) by rw [List.length_append, idsV_snoc]; exact hown8)
        clear hown8 hg8 hk8 hb2 hx ho0 fr hone
        go_wp2_with (fail)
        go_loopw [16, 108] (fun v i wr => ∃ (k : Nat) (o : List (List UInt8)), k ≤ N ∧ i = .int .i64 k ∧ Hid (o = rowK root (Ys.take k) s) ∧ wr.ownsRow u1.heap.size 23 32 v o.length (idsV o) ∧ Below u1.heap.size u1 wr) (fun _ i _ => N - (intOf i).toNat)
        case atStart => exact ⟨0, [root], by omega, rfl, hid rfl, ho1, hB8⟩
        case round =>
          clear ho1 hB8 x32
          obtain ⟨k, o, hkn, rfl, HO, hown, hb⟩ := hrel
          by_cases hlt : k < N
          · obtain ⟨X, hX⟩ : ∃ X, Ys[k]? = some X := ⟨_, List.getElem?_eq_getElem (by have := HN.out; omega)⟩
            obtain ⟨g, q, hg, hXo, hix⟩ := HR5.out.pickR c5 HN.out hX
            have b1 : (k : Int) < N := by omega
            have fX := hg.below hb
            have hnw := RkX.new wr X
            have hba := (Below.refl wr.heap.size wr).alloc (Nat.le_refl _) (.cells X.cs 52)
            have c0 := hnw.c0
            have fy := hnw.key
            have hzx : (Tryz.prog.info? 23).map (·.size) = some (X.k.map u8v).length := by rw [List.length_map, hXo.1]; exact sizeId
            have hox := u8v_one X.k
            have lk : X.k.length = 32 := hXo.1
            obtain ⟨cv, hcv⟩ : ∃ cv, covB X.p s = cv := ⟨_, rfl⟩
            have cC := HCV.out X (List.mem_of_getElem? hX)
            rw [hcv] at cC
            have HSN := hid (rowK_snoc root s hX)
            have HCE := hid hcv
            have HL := hid (show o.length ≤ k + 1 by
              have := rowK_len root (Ys.take k) s
              rw [← HO.out, List.length_take] at this
              omega)
            have HLT := hid (show k + 1 ≤ N from hlt)
            have hbA := hb.alloc hb.size (.cells X.cs 52)
            have howA := hown.alloc (.cells X.cs 52)
            clear hX hg hcv hba hlt fk
            cases cv with
            | true =>
              go_wp2_with (first
                | (with_reducible refine wpList_load_rkr (by with_unfolding_all rfl) _ rfl _ _ rfl fX hXo ?_)
                | (with_reducible refine wpList_store_rkn rfl _ _ rfl rfl rfl hXo (by with_unfolding_all rfl) ?_)
                | (go_at_call 17; (with_reducible refine (cC _).mono ?_); rintro e3 w3 ⟨rfl, hb3⟩; replace fy := fy.below hb3; replace hbA := hbA.trans (hb3.mono hbA.size); replace howA := own_below howA hb3)
                | (with_reducible refine wpList_load_if (by with_unfolding_all rfl) 23 _ rfl _ _ rfl (X.k.map u8v) _ fy hu rfl hzx ?_)
                | (at_builtin; refine wpList_append_own _ rfl _ _ 48 rfl u1.heap.size 23 j0 (.agg (idVals zeroB)) 32 32 Tryz.underlying48 hj hjz hjs hjb rfl (by decide) _ _ _ rfl (howA.alloc _) ⟨w3.heap.size, 0, none⟩ 1 1 (X.k.map u8v) rfl ?l1 (news_fold w3 X.k hXo.1) hox ?l2 ?l3 ?l4 ?_))
              try case l1 => rw [List.length_map, hXo.1]
              case l2 => have := HL.out; unfold maxLen; omega
              case l3 => have := HL.out; omega
              case l4 => (try simp); have := hbA.size; omega
              intro v8 w8 hown8 hg8 _
              have hB8 := (hbA.alloc hbA.size _).grown hg8 (hbA.alloc hbA.size _).size (fun k hk => (howA.lt k hk).1)
              clear hg8
              go_wp2_with (fail)
              go_roundw
              case rel => exact ⟨k + 1, o ++ [X.k], HLT.out, by go_num, hid (by rw [HSN.out, HCE.out, ← HO.out]; simp), (by rw [List.length_append, idsV_snoc]; exact hown8), hB8⟩
              case measure => exact meas_k1 HLT.out
            | false =>
              go_wp2_with (first
                | (with_reducible refine wpList_load_rkr (by with_unfolding_all rfl) _ rfl _ _ rfl fX hXo ?_)
                | (with_reducible refine wpList_store_rkn rfl _ _ rfl rfl rfl hXo (by with_unfolding_all rfl) ?_)
                | (go_at_call 17; (with_reducible refine (cC _).mono ?_); rintro e3 w3 ⟨rfl, hb3⟩; replace fy := fy.below hb3; replace hbA := hbA.trans (hb3.mono hbA.size); replace howA := own_below howA hb3))
              go_roundw
              case rel => exact ⟨k + 1, o, HLT.out, by go_num, hid (by rw [HSN.out, HCE.out, ← HO.out]; simp), howA, hbA⟩
              case measure => exact meas_k1 HLT.out
          · obtain rfl : k = N := by omega
            have c1 : ¬ (k : Int) < k := by omega
            have HQ := hid (show o = rowK root Ys s by rw [HO.out, List.take_of_length_le (by rw [HN.out]; exact Nat.le_refl _)])
            have h32 : ∀ a ∈ o, a.length = 32 := by rw [HQ.out]; exact rowK_32 root s hR HOK.out
            have hL : o.length ≤ 900000 := by have := rowK_len root Ys s; have h2 := HN.out; rw [HQ.out]; omega
            obtain ⟨A1, c1', rfl, hra⟩ := RowAt.own hown h32 (by omega)
            have HRO := hid (RowAt.r hra)
            have HOL := hid hL
            have HKE := hid (show keysG root Ys s = sortL o by unfold keysG; rw [if_pos hpr, HQ.out])
            have hbe := hb
            replace fk := fk.below hb
            clear hra hown HO hL h32 hb hkn
            go_wp2_with (first
              | (with_reducible refine wpList_load_if (by with_unfolding_all rfl) 23 _ rfl _ _ rfl (key.map u8v) _ fk hu rfl hzk ?_)
              | (go_at_call 18; (with_reducible refine (cX _ hbe).mono ?_); rintro e1 v1 ⟨rfl, hb1⟩; replace hbe := hbe.trans (hb1.mono hbe.size); replace HRO := hid (HRO.out.below hb1); clear hb1)
              | (go_at_call 20; (with_reducible refine (cK _ hbe).mono ?_); rintro e2 v2 ⟨A2, n2, c2, rfl, HR2, hb2⟩; replace hbe := hbe.trans (hb2.mono hbe.size); replace HRO := hid (HRO.out.below hb2); clear hb2)
              | (go_at_call 21; (with_reducible refine (rsort_any _ _ _ _ _ HRO.out HOL.out).mono ?_); rintro e3 v3 ⟨a3, n3, c3, rfl, hr3, hb3⟩; have HR3 := hid (RowAt.r hr3); replace hbe := hbe.trans (hb3.mono hbe.size); replace HR2 := hid (HR2.out.below hb3); clear hb3 hr3)
              | (go_at_call 19; (with_reducible refine (rsame_any _ _ _ _ _ _ _ _ _ HR2.out HR3.out).mono ?_); rintro e4 v4 ⟨rfl, hb4⟩; rw [decide_eq_true HKE.out]; replace hbe := hbe.trans (hb4.mono hbe.size); clear hb4)
              | (go_at_call 4; (with_reducible refine (awake19_any _).mono ?_); rintro e9 w9 ⟨rfl, hb9⟩))
            go_ret
            have hb8 := hbw.trans (hbe.mono hbw.size)
            exact ⟨rfl, hb8.trans (hb9.mono hb8.size)⟩

end Go.Proofs.YtapgiagpjplpdaaGreat

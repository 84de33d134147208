
/- Proved: for all bytes, seeds, rows, leaves and sums, quitclaimlaw09.WitnessOwn returns true and leaves its arguments as they were. No conditions. -/
import Derived.Test.YticpdepbgcagaaaGreatWi11
import Derived.Test.YticpdepbgcagaaaGreatWi10
import Derived.ChangeShapes
import Derived.Test.YticpdepbgcagaaaGreatRows
import Derived.Deep.DeepCutAuto
set_option linter.unusedSimpArgs false
set_option linter.unusedVariables false
namespace Go.Proofs.YticpdepbgcagaaaGreat
open Go.RowKit Go.Qc Go.Shelf
attribute [local go_sem] txt_size txt_append ib_fold
theorem wpList_load_wt {w : World} {ops : Array Oper} {rest : List Oper} {o : Oper} {a : Act} {Q : Exit → Act → World → Prop} (hgd : Region.wanted o (yielded ops a.tmps) = true) (x : Operand) (ho : o.op = .load 32 x)
    (g : Nat) (cs : Array Value) (hx : a.eval x = .pointer (some ⟨g, 0, none⟩)) (hr : Blk w g 32 cs) (hc : (Tryz.prog.info? 32).map (·.size) = some cs.size)
    (h : wpList Tryz.prog ops Q rest (a.put o.dst (.agg cs)) w) : wpList Tryz.prog ops Q (o :: rest) a w := by
  refine wpList_load_if hgd 32 x ho g 0 hx cs.toList _ (fun j v hj => by rw [Nat.zero_add]; exact hr.cell_ (by rw [← Array.getElem?_toList]; exact hj)) Tryz.underlying32 rfl ?_ ?_
  · rw [Array.length_toList]; exact hc
  · rw [Array.toArray_toList]; exact h

theorem wpQuiet_buildW {ops : Array Oper} {C : World → Prop} {Q : Act → Prop} {rest : List Oper} {o : Oper} {a : Act} (hw : Region.wanted o (yielded ops a.tmps) = true) (ty : TypeId) (parts : Array (Nat × Operand)) (ho : o.op = .build ty parts)
    (ps : Array (Nat × Value)) (v : Value) (hb : ∀ W, (Instr.build ty ps).run Tryz.prog W = .ok v W) (hp : (parts.map fun (i, x) => (i, a.eval x)) = ps)
    (h : wpQuiet Tryz.prog ops C Q rest (a.put o.dst v)) : wpQuiet Tryz.prog ops C Q (o :: rest) a :=
  wpQuiet_step fun K hK => by
    rw [if_pos hw]
    refine ⟨_, fun w hw' => ?_, hK _ h⟩
    have hr := hb w
    rw [← hp] at hr
    unfold Oper.quietAt execOp
    simp only [ho]
    simp only [Sem.run_bind, hr, Result.andThen, Sem.run_pure]
    exact ⟨rfl, rfl⟩
theorem ownW_form (n L : Nat) (s a : List UInt8) (Xs : List WiD) : ∃ k x y l b sd V, V.length = 32 ∧ ownW n L s a Xs = wtC k x y l b sd V := by
  unfold ownW
  split
  · exact ⟨_, _, _, _, _, _, zeroB, rfl, rfl⟩
  · split
    · exact ⟨_, _, _, _, _, _, _, secB_length _ _ _ _, rfl⟩
    · exact ⟨_, _, _, _, _, _, zeroB, rfl, rfl⟩
theorem wpQuiet_load_wt {C : World → Prop} {ops : Array Oper} {rest : List Oper} {o : Oper} {a : Act} {Q : Act → Prop} (hw : Region.wanted o (yielded ops a.tmps) = true) (x : Operand) (ho : o.op = .load 32 x)
    (g : Nat) (cs : Array Value) (hx : a.eval x = .pointer (some ⟨g, 0, none⟩)) (hX : ∀ w, C w → w.rangeAt g 0 cs.toList) (hc : (Tryz.prog.info? 32).map (·.size) = some cs.size)
    (h : wpQuiet Tryz.prog ops C Q rest (a.put o.dst (.agg cs))) : wpQuiet Tryz.prog ops C Q (o :: rest) a := by
  refine wpQuiet_load_if hw 32 x ho g 0 hx cs.toList _ hX Tryz.underlying32 rfl ?_ ?_
  · rw [Array.length_toList]; exact hc
  · rw [Array.toArray_toList]; exact h
theorem mod3_fact (N : Nat) : ((N : Int)).tmod 3 = ((N % 3 : Nat) : Int) := by rw [Int.tmod_eq_emod_of_nonneg (by omega)]; rfl
theorem modp_fact (N p : Nat) : ((N : Int)).tmod ((p : Nat) : Int) = ((N % p : Nat) : Int) := by rw [Int.tmod_eq_emod_of_nonneg (by omega)]; rfl
theorem rgt8 (H : Nat) (h : H ≤ 2) : rgtP (8 : Nat) H = true := by
  rcases (show H = 0 ∨ H = 1 ∨ H = 2 by omega) with rfl | rfl | rfl <;> decide

set_option maxRecDepth 100000 in
set_option maxHeartbeats 20000000 in
theorem wown_long1 (w : World) (N : Nat) (hN : N < 256) (s : List UInt8) (X : Option Addr) (x cx : Nat) (Xs : List WiD) (hX : WiRow w X x Xs) (M : Nat) (hM : M < 256) (a : List UInt8) (ha : a.length = 32) (hs : 60 < s.length) :
    Calls Tryz.prog 4 #[.int .u8 N, .string (txt s), .slice X x cx, .int .u8 M, .agg (idVals a)] w fun e w' => e = .returned (.bool true) ∧ Below w.heap.size w w' := by
  have m3 := mod3_fact N
  have h1 := (Below.refl w.heap.size w).alloc (Nat.le_refl _) (.cells (idVals a) 24)
  have h2 := h1.alloc h1.size (.cells #[.int .i64 8, .int .i64 ((N % 3 : Nat) : Int)] 29)
  have z1 : (60 : Int) < s.length := by omega
  generalize N % 3 = H at *
  clear hX
  go_enter Tryz.func4, Tryz.ntmps4
  go_wp2_with (go_at_call 6; (with_reducible refine (wawake_any _).mono ?_); rintro e9 w9 ⟨rfl, hb9⟩)
  go_ret
  exact ⟨rfl, h2.trans (hb9.mono h2.size)⟩

set_option maxRecDepth 100000 in
set_option maxHeartbeats 20000000 in
theorem wown_long2 (w : World) (N : Nat) (hN : N < 256) (s : List UInt8) (X : Option Addr) (x cx : Nat) (Xs : List WiD) (hX : WiRow w X x Xs) (M : Nat) (hM : M < 256) (a : List UInt8) (ha : a.length = 32) (hs : ¬ 60 < s.length) (hx : 20 < x) :
    Calls Tryz.prog 4 #[.int .u8 N, .string (txt s), .slice X x cx, .int .u8 M, .agg (idVals a)] w fun e w' => e = .returned (.bool true) ∧ Below w.heap.size w w' := by
  have m3 := mod3_fact N
  have h1 := (Below.refl w.heap.size w).alloc (Nat.le_refl _) (.cells (idVals a) 24)
  have h2 := h1.alloc h1.size (.cells #[.int .i64 8, .int .i64 ((N % 3 : Nat) : Int)] 29)
  have z1 : ¬ (60 : Int) < s.length := by omega
  have z2 : (20 : Int) < x := by omega
  generalize N % 3 = H at *
  clear hX
  go_enter Tryz.func4, Tryz.ntmps4
  go_wp2_with (go_at_call 6; (with_reducible refine (wawake_any _).mono ?_); rintro e9 w9 ⟨rfl, hb9⟩)
  go_ret
  exact ⟨rfl, h2.trans (hb9.mono h2.size)⟩

set_option maxRecDepth 100000 in
set_option maxHeartbeats 20000000 in
theorem wown_yes (w : World) (N : Nat) (hN : N < 256) (s : List UInt8) (X : Option Addr) (x cx : Nat) (Xs : List WiD) (hX : WiRow w X x Xs) (M : Nat) (hM : M < 256) (a : List UInt8) (ha : a.length = 32) (hs : ¬ 60 < s.length) (hx : ¬ 20 < x) :
    Calls Tryz.prog 4 #[.int .u8 N, .string (txt s), .slice X x cx, .int .u8 M, .agg (idVals a)] w fun e w' => e = .returned (.bool true) ∧ Below w.heap.size w w' := by
  have hu := Tryz.underlying24
  have hza : (Tryz.prog.info? 24).map (·.size) = some (a.map u8v).length := by rw [List.length_map, ha]; exact sizeId
  have z1 : ¬ (60 : Int) < s.length := by omega
  have z2 : ¬ (20 : Int) < x := by omega
  have hs1 : s.length ≤ 1000 := by omega
  have bx9 : x ≤ 900 := by omega
  have bx : x ≤ 1000 := by omega
  have m3 := mod3_fact N
  have hH2 : N % 3 ≤ 2 := by omega
  have h1 := (Below.refl w.heap.size w).alloc (Nat.le_refl _) (.cells (idVals a) 24)
  have B1 := Blk.new w 24 (idVals a)
  generalize N % 3 = H at *
  have hr := rgt8 H hH2
  have hH5 : H ≤ 5 := by omega
  have cP := fun W => rpower_any H (by omega) W
  have mp := modp_fact M (2 ^ H)
  have hLf : M % 2 ^ H < 2 ^ H := Nat.mod_lt _ (Nat.two_pow_pos H)
  have hp2 := Nat.two_pow_pos H
  generalize hpp : 2 ^ H = p2 at *
  generalize M % p2 = Lf at *
  have hL : Lf < 2 ^ H := by rw [hpp]; exact hLf
  have pn : ((p2 : Nat) : Int) ≠ 0 := by omega
  have pn2 : ((p2 : Int) == 0) = false := by simpa using (show ¬ p2 = 0 by omega)
  have HXR := hid hX
  have hfits := fits_ofW hr hL
  have HS : Hid (∀ W : World, Calls Tryz.prog 16 #[.agg #[.int .i64 8, .int .i64 H], .string (txt s), .int .i64 Lf, .agg (List.map u8v a).toArray] W fun e w' => ∃ A1 d1 A2 d2 A3 d3, e = .returned (.agg #[.int .i64 Lf, .slice A1 8 d1, .slice A2 8 d2, .slice A3 H d3]) ∧ RowR w' A1 8 (upTo (shownX s Lf a) 8) ∧ RowR w' A2 8 (upTo (hiddenX s Lf a) 8) ∧ RowR w' A3 H (upTo (wayF (lfF s 8) Lf) H) ∧ H ≤ d3 ∧ Below W.heap.size W w') := hid (fun W => by
    refine (rsign8_any s hs1 8 H hr hH5 Lf hL a ha W).mono ?_
    rintro e w' ⟨A1, d1, A2, d2, A3, d3, rfl, o1, o2, o3, hb⟩
    obtain ⟨_, _, e3, h3⟩ := RowAt.own o3 (upTo_32 _ (fun b => ndB_length _ (lfF_length _ 8) _ _) H) (by omega)
    cases e3
    exact ⟨A1, d1, A2, d2, A3, d3, rfl, own_row o1 (upTo_32 _ (shownX_length _ _ _) 8) (by decide), own_row o2 (upTo_32 _ (hiddenX_length _ _ _) 8) (by decide), RowAt.r h3, h3.2.1, hb⟩)
  have HF : Hid (∀ (W : World) (A1 A2 A3 : Option Addr) (d1 d2 d3 : Nat), Below w.heap.size w W → RowR W A1 8 (upTo (shownX s Lf a) 8) → RowR W A2 8 (upTo (hiddenX s Lf a) 8) → RowR W A3 H (upTo (wayF (lfF s 8) Lf) H) → H ≤ d3 → Calls Tryz.prog 7 #[.agg #[.int .i64 8, .int .i64 H], .string (txt s), .slice X x cx, .agg (List.map u8v a).toArray, .agg #[.int .i64 Lf, .slice A1 8 d1, .slice A2 8 d2, .slice A3 H d3]] W fun e w' => e = .returned (.tuple #[.agg (ownW 8 Lf s a Xs), .int .i64 0]) ∧ Below W.heap.size W w') := hid (fun W A1 A2 A3 d1 d2 d3 hW r1 r2 r3 hd => by
    have h := wfind_main 8 H Lf s hs1 a ha X x cx Xs HXR.out.1 bx A1 A2 A3 d1 d2 d3 _ _ _ hfits hH5 hd W r1 r2 r3 (HXR.out.2.2.below hW)
    rw [fd_own] at h
    exact h)
  obtain ⟨ok, ox, oy, ol, ob, os, oV, hoV, hform⟩ := ownW_form 8 Lf s a Xs
  have hOW : ownW 8 Lf s a Xs = if honB 8 Xs a Lf = true then wt1 else match fstW 8 Xs Lf a with
    | some b => wt3 Lf b (bitZ a b : Nat) (secB s Lf b (bitZ a b : Nat))
    | none => wt0 := rfl
  have hiO : (Tryz.prog.info? 32).map (·.size) = some (ownW 8 Lf s a Xs).size := by rw [hform]; exact wtC_info _ _ _ _ _ _ hoV
  have hsO : (ownW 8 Lf s a Xs).size = 38 := by rw [hform]; exact wtC_size _ _ _ _ _ _ hoV
  have hoO : (ownW 8 Lf s a Xs).all (·.oneCell') = true := by rw [hform]; exact wtC_one _ _ _ _ _ _ oV
  have hqO : ∀ W, (Op.equalIn 10000 32 (.agg (ownW 8 Lf s a Xs)) (.agg (ownW 8 Lf s a Xs))).run Tryz.prog W = .ok true W := fun W => by rw [hform]; exact wt_eq _ _ _ _ _ _ oV hoV W
  generalize ownW 8 Lf s a Xs = OW at *
  obtain ⟨hv, hhv⟩ : ∃ hv, honB 8 Xs a Lf = hv := ⟨_, rfl⟩
  obtain ⟨fo, hfo⟩ : ∃ fo, fstW 8 Xs Lf a = fo := ⟨_, rfl⟩
  rw [hhv, hfo] at hOW
  have HH : Hid (∀ W A c, WiRd W A Xs → Calls Tryz.prog 17 #[.int .i64 8, .slice A x c, .agg (List.map u8v a).toArray, .int .i64 Lf] W fun e w' => e = .returned (.bool hv) ∧ Below W.heap.size W w') := hid (fun W A c h => by
    have h9 := wrhonest_any 8 a ha Lf A x c Xs HXR.out.1 bx W h
    rw [hhv] at h9
    exact h9)
  have HFS : Hid (∀ W A c, WiRd W A Xs → Calls Tryz.prog 18 #[.int .i64 8, .slice A x c, .agg (List.map u8v a).toArray, .int .i64 Lf] W fun e w' => e = .returned (.int .i64 (fstI fo)) ∧ Below W.heap.size W w') := hid (fun W A c h => by
    have h9 := wrfirst_any 8 (by decide) a ha Lf A x c Xs HXR.out.1 bx W h
    rw [hfo] at h9
    exact h9)
  have HFO := hid (show ∀ b, fo = some b → b < 8 from fun b hb => by
    rw [hb] at hfo
    unfold fstW at hfo
    exact List.mem_range.1 (List.mem_of_find?_eq_some hfo))
  have HOW := hid hOW
  have HXK := hid (fun (X' : WiD) (h : X' ∈ Xs) => hX.2.2.1 X' h)
  clear hX hr hL hLf hfits hform hOW hhv hfo hH2
  go_enter Tryz.func4, Tryz.ntmps4
  go_upto_region 1 with (fail)
  generalize w.alloc (.cells (idVals a) 24) = wA at *
  have h2 := h1.alloc h1.size (.cells #[.int .i64 8, .int .i64 H] 29)
  have hal := (Below.refl wA.heap.size wA).alloc (Nat.le_refl _) (.cells #[.int .i64 8, .int .i64 H] 29)
  have B2 := Blk.new wA 29 #[.int .i64 8, .int .i64 H]
  replace B1 := B1.below hal
  go_upto_region 2 with (fail)
  obtain ⟨g11, hg11⟩ : ∃ g11, wA.heap.size = g11 := ⟨_, rfl⟩
  rw [hg11] at B2 ⊢
  generalize wA.alloc (.cells #[.int .i64 8, .int .i64 H] 29) = wB at *
  clear hal h1 hg11
  have p0 := B2.cell_ (i := 0) rfl
  have p1 := B2.cell_ (i := 1) rfl
  have fa := range_blk B1
  go_upto_region 5 with (go_at_call 15; (with_reducible refine (cP _).mono ?_); rintro e4 w4 ⟨rfl, rfl⟩)
  go_upto_region 6 with (first
    | (with_reducible refine wpList_load_if (by with_unfolding_all rfl) 24 _ rfl _ _ rfl (a.map u8v) _ fa hu rfl hza ?_)
    | (go_at_call 16; (with_reducible refine (HS.out _).mono ?_); rintro e5 w5 ⟨A1, d1, A2, d2, A3, d3, rfl, r1, r2, r3, hd3, hb5⟩))
  have hal := hb5.trans (((Below.refl w5.heap.size w5).alloc (Nat.le_refl _) (.cells #[.int .i64 Lf, .slice A1 8 d1, .slice A2 8 d2, .slice A3 H d3] 27)).mono hb5.size)
  have hal5 := (Below.refl w5.heap.size w5).alloc (Nat.le_refl _) (.cells #[.int .i64 Lf, .slice A1 8 d1, .slice A2 8 d2, .slice A3 H d3] 27)
  have B3 := Blk.new w5 27 #[.int .i64 Lf, .slice A1 8 d1, .slice A2 8 d2, .slice A3 H d3]
  have HR1 := hid (r1.below hal5)
  have HR2 := hid (r2.below hal5)
  have HR3 := hid (r3.below hal5)
  have HB := hid (h2.trans (hal.mono h2.size))
  replace fa := fa.below hal
  replace p0 := wi_cell hal p0
  replace p1 := wi_cell hal p1
  obtain ⟨g13, hg13⟩ : ∃ g13, w5.heap.size = g13 := ⟨_, rfl⟩
  rw [hg13] at B3 ⊢
  have s0 := B3.cell_ (i := 0) rfl
  have s1 := B3.cell_ (i := 1) rfl
  have s2 := B3.cell_ (i := 2) rfl
  have s3 := B3.cell_ (i := 3) rfl
  generalize w5.alloc (.cells #[.int .i64 Lf, .slice A1 8 d1, .slice A2 8 d2, .slice A3 H d3] 27) = w6 at *
  clear hal hal5 hg13 r1 r2 r3 hb5 B1 B2 B3 h2 HS
  have cF := HF.out w6 A1 A2 A3 d1 d2 d3 HB.out HR1.out HR2.out HR3.out hd3
  go_upto_region 7 with (first
    | (with_reducible refine wpList_load_if (by with_unfolding_all rfl) 24 _ rfl _ _ rfl (a.map u8v) _ fa hu rfl hza ?_)
    | (go_at_call 7; (with_reducible refine cF.mono ?_); rintro e7 w7 ⟨rfl, hb7⟩)
    | (with_reducible refine wpList_store_new rfl 32 _ _ rfl OW rfl rfl hiO (Eq.trans (b := 38) (by with_unfolding_all rfl) hsO.symm) hoO ?_))
  have hal := hb7.trans (((Below.refl w7.heap.size w7).alloc (Nat.le_refl _) (.cells OW 32)).mono hb7.size)
  have hO := Blk.new w7 32 OW
  replace HB := hid (HB.out.trans (hal.mono HB.out.size))
  replace fa := fa.below hal
  obtain ⟨g14, hg14⟩ : ∃ g14, w7.heap.size = g14 := ⟨_, rfl⟩
  rw [hg14] at hO ⊢
  generalize w7.alloc (.cells OW 32) = w8 at *
  clear hal hg14 hb7 cF s0 s1 s2 s3 p0 p1 HR1 HR2 HR3 HF
  have cL := wplain_any X x cx Xs HXR.out.1 bx9 w8 (HXR.out.2.2.below HB.out)
  go_upto_region 10 with (go_at_call 8; (with_reducible refine cL.mono ?_); rintro e8 w9 ⟨v, rfl, hown, hb8⟩; obtain ⟨A6, c6, rfl, _, _, _, hrd⟩ := WvOw.rd hown HXK.out; replace HB := hid (HB.out.trans (hb8.mono HB.out.size)); replace fa := fa.below hb8; replace hO := hO.below hb8; have HRD := hid hrd; clear hown hrd cL)
  have cH := HH.out w9 A6 c6 HRD.out
  cases hv with
  | true =>
    have hOw1 : OW = wt1 := by rw [HOW.out, if_pos rfl]
    subst hOw1
    go_upto_region 11 with (first
      | (with_reducible refine wpList_load_if (by with_unfolding_all rfl) 24 _ rfl _ _ rfl (a.map u8v) _ fa hu rfl hza ?_)
      | (go_at_call 17; (with_reducible refine cH.mono ?_); rintro e10 w10 ⟨rfl, hb10⟩; replace HB := hid (HB.out.trans (hb10.mono HB.out.size)); replace hO := hO.below hb10))
    go_wp2_with (first
      | (with_reducible refine wpList_load_wt (by with_unfolding_all rfl) _ rfl g14 wt1 rfl hO hiO ?_)
      | (with_reducible refine wpList_build_byW rfl _ _ rfl _ _ wt_build1 (by with_unfolding_all rfl) ?_)
      | (go_at_call 6; (with_reducible refine (wawake_any _).mono ?_); rintro e9 w9 ⟨rfl, hb9⟩))
    go_ret
    exact ⟨rfl, HB.out.trans (hb9.mono HB.out.size)⟩
  | false =>
    rw [if_neg (by decide)] at HOW
    go_upto_region 12 with (first
      | (with_reducible refine wpList_load_if (by with_unfolding_all rfl) 24 _ rfl _ _ rfl (a.map u8v) _ fa hu rfl hza ?_)
      | (go_at_call 17; (with_reducible refine cH.mono ?_); rintro e10 w10 ⟨rfl, hb10⟩; replace HB := hid (HB.out.trans (hb10.mono HB.out.size)); replace hO := hO.below hb10; replace fa := fa.below hb10; replace HRD := hid (HRD.out.below hb10)))
    have cX := HFS.out w10 A6 c6 HRD.out
    go_upto_region 13 with (first
      | (with_reducible refine wpList_load_if (by with_unfolding_all rfl) 24 _ rfl _ _ rfl (a.map u8v) _ fa hu rfl hza ?_)
      | (go_at_call 18; (with_reducible refine cX.mono ?_); rintro e11 w11 ⟨rfl, hb11⟩; replace HB := hid (HB.out.trans (hb11.mono HB.out.size)); replace hO := hO.below hb11; replace fa := fa.below hb11))
    clear cX cH HFS HH hb10 hb11
    cases fo with
    | none =>
      have hOw1 : OW = wt0 := HOW.out
      subst hOw1
      have y1 : fstI none = -1 := rfl
      rw [y1]
      go_wp2_with (first
        | (with_reducible refine wpList_load_wt (by with_unfolding_all rfl) _ rfl g14 wt0 rfl hO hiO ?_)
        | (with_reducible refine wpList_build_byW rfl _ _ rfl _ _ wt_build0 (by with_unfolding_all rfl) ?_)
        | (go_at_call 6; (with_reducible refine (wawake_any _).mono ?_); rintro e9 w9 ⟨rfl, hb9⟩))
      go_ret
      exact ⟨rfl, HB.out.trans (hb9.mono HB.out.size)⟩
    | some b =>
      have hb8 := HFO.out b rfl
      have y1 : fstI (some b) = (b : Int) := rfl
      rw [y1]
      have y2 : ¬ (b : Int) < 0 := by omega
      obtain ⟨u, hu1⟩ : ∃ u : Int, ((bitZ a b : Nat) : Int) = u := ⟨_, rfl⟩
      have cB : ∀ W : World, Calls Tryz.prog 19 #[.agg (List.map u8v a).toArray, .int .i64 b] W fun e w' => e = .returned (.int .i64 u) ∧ Below W.heap.size W w' := fun W => by
        have h := rbit6_any a ha b (by omega) W
        rw [hu1] at h
        exact h
      obtain ⟨K, hK0⟩ : ∃ K, secB s Lf b u = K := ⟨_, rfl⟩
      have hKl : K.length = 32 := by rw [← hK0]; exact secB_length _ _ _ _
      have cS : ∀ W : World, Calls Tryz.prog 20 #[.string (txt s), .int .i64 Lf, .int .i64 b, .int .i64 u] W fun e w' => e = .returned (.agg (List.map u8v K).toArray) ∧ Below W.heap.size W w' := fun W => by
        have h := rsecret_any s hs1 Lf b u W
        rw [hK0] at h
        exact h
      have hOw1 : OW = wt3 Lf b u K := by rw [HOW.out, ← hK0, ← hu1]
      have hbd := wt_build3 (Lf : Int) b u K hKl
      clear hK0 hu1 HOW HFO y1
      subst hOw1
      go_upto_region 16 with (first
        | (with_reducible refine wpList_load_if (by with_unfolding_all rfl) 24 _ rfl _ _ rfl (a.map u8v) _ fa hu rfl hza ?_)
        | (go_at_call 19; (with_reducible refine (cB _).mono ?_); rintro e15 w15 ⟨rfl, hb15⟩; replace HB := hid (HB.out.trans (hb15.mono HB.out.size)); replace hO := hO.below hb15))
      have fO : w15.rangeAt g14 0 (wt3 Lf b u K).toList := fun j v hj => by rw [Nat.zero_add]; exact hO.cell_ (by rw [← Array.getElem?_toList]; exact hj)
      have fq := range_later fO
      clear fO hO hb15 cB fa
      refine wp_region_later mixedW (by kernel_rfl) ?_
      repeat (first
        | ((with_reducible refine wpQuiet_load_wt (by with_unfolding_all rfl) _ rfl g14 (wt3 Lf b u K) rfl fq hiO ?_); simp only [Act.put, List.setIfInBounds_toArray, List.set_cons_zero, List.set_cons_succ])
        | ((with_reducible refine wpQuiet_buildW (by with_unfolding_all rfl) _ _ rfl _ _ hbd (by with_unfolding_all rfl) ?_); simp only [Act.put, List.setIfInBounds_toArray, List.set_cons_zero, List.set_cons_succ])
        | ((with_reducible refine wpQuiet_step (fun K hK => ?_)); go_simp; first | ((with_reducible refine hK _ ?_); clear hK K) | (with_reducible apply Exists.intro; (with_reducible refine ⟨fun P => ?_, hK _ ?_⟩); (first | (go_at_call 20; exact later_of (cS P.w)) | (go_at_call 6; exact later_of (wawake_any P.w))); clear hK K))
        | ((with_reducible refine BigFrame.wpQuiet_skip (by first | kernel_rfl | with_unfolding_all rfl) ?_); simp only [Act.put, List.setIfInBounds_toArray, List.set_cons_zero, List.set_cons_succ]))
      with_reducible refine wpQuiet_nil ?_
      intro _ hw9
      obtain ⟨P9, rfl⟩ := hw9
      go_wp2_with (fail)
      go_ret
      exact ⟨rfl, HB.out.trans (P9.h.mono HB.out.size)⟩

theorem law_WitnessOwn (w : World) (N : Nat) (hN : N < 256) (s : List UInt8) (X : Option Addr) (x cx : Nat) (Xs : List WiD) (hX : WiRow w X x Xs) (M : Nat) (hM : M < 256) (a : List UInt8) (ha : a.length = 32) :
    Calls Tryz.prog 4 #[.int .u8 N, .string (txt s), .slice X x cx, .int .u8 M, .agg (idVals a)] w fun e w' => e = .returned (.bool true) ∧ Below w.heap.size w w' := by
  by_cases hs : 60 < s.length
  · exact wown_long1 w N hN s X x cx Xs hX M hM a ha hs
  · by_cases hx : 20 < x
    · exact wown_long2 w N hN s X x cx Xs hX M hM a ha hs hx
    · exact wown_yes w N hN s X x cx Xs hX M hM a ha hs hx

open Go.ChangeShapes Go.WideShapes Go.ChangeAt
open Go.ChangeMaps (open_string shut_string)
theorem own_WitnessOwn : ownKnob Tryz.prog.godebug = none := by kernel_rfl
theorem laidOut_WitnessOwn : laidOutB Tryz.prog = true := by kernel_rfl
set_option linter.unusedVariables false in
set_option maxRecDepth 100000 in
theorem lifted_WitnessOwn (os : Os) (started : os.Started) (H : Type) (enc : TypeId × Value → H) :
    ReturnsInHanded {} Tryz.checked os 4 .any (Rows.witnessOwnSpec.pre6 enc Tryz.prog Tryz.f4 Rows.witnessOwnRow.domain false) (Rows.witnessOwnSpec.post enc Tryz.prog Tryz.f4 false true false false) := by
  refine returnsInHanded_of_change (C := Tryz.checked) own_WitnessOwn started (by kernel_rfl) Tryz.func4
    (ChangeSpec.witness6 (enc := enc) (C := Tryz.checked) false ⟨#[], #[.int .u8 0, .string ByteArray.empty, .slice none 0 0, .int .u8 0, .agg #[.int .u8 0, .int .u8 0, .int .u8 0, .int .u8 0, .int .u8 0, .int .u8 0, .int .u8 0, .int .u8 0, .int .u8 0, .int .u8 0, .int .u8 0, .int .u8 0, .int .u8 0, .int .u8 0, .int .u8 0, .int .u8 0, .int .u8 0, .int .u8 0, .int .u8 0, .int .u8 0, .int .u8 0, .int .u8 0, .int .u8 0, .int .u8 0, .int .u8 0, .int .u8 0, .int .u8 0, .int .u8 0, .int .u8 0, .int .u8 0, .int .u8 0, .int .u8 0]], []⟩ 8 (by kernel_rfl) (by kernel_rfl) (by kernel_rfl) (by kernel_rfl)) ?_
  intro W base args ds gs before hval0 hW hcnd _
  have hval : ∀ (j : Nat) t v, Tryz.f4.params[j]? = some t → args[j]? = some v → Value.okWide Tryz.prog W .any base t v := hval0
  have hW' := hW
  obtain ⟨p, q, hA0, hV, rfl, hfz, hnd⟩ := hW
  have hA1 : DataW.TrodAll enc Tryz.prog W 0 (fun _ => true) true Tryz.f4.params.toList args.toList ds p := hA0
  have hA : DataW.TrodAll enc Tryz.prog W 0 (fun _ => true) true Tryz.f4.params.toList args.toList ds p := hA0
  rw [Tryz.params4] at hA hval
  obtain ⟨v0, vs0, d0, ds0, p0, q0, hargs, rfl, rfl, h0, r0⟩ := trodAll_cons hA
  obtain ⟨v1, vs1, d1, ds1, p1, q1, rfl, rfl, rfl, h1, r1⟩ := trodAll_cons r0
  obtain ⟨v2, vs2, d2, ds2, p2, q2, rfl, rfl, rfl, h2, r2⟩ := trodAll_cons r1
  obtain ⟨v3, vs3, d3, ds3, p3, q3, rfl, rfl, rfl, h3, r3⟩ := trodAll_cons r2
  obtain ⟨v4, vs4, d4, ds4, p4, q4, rfl, rfl, rfl, h4, r4⟩ := trodAll_cons r3
  obtain ⟨rfl, rfl, rfl⟩ := trodAll_nil r4
  obtain rfl : args = #[v0, v1, v2, v3, v4] := by cases args; simp_all
  obtain ⟨rfl, rfl⟩ := trodVars_none hV
  obtain ⟨a0, rfl, rfl, rfl, w0⟩ := open_int Tryz.underlying5 (hval 0 5 v0 rfl rfl) h0
  obtain ⟨m0, rfl⟩ : ∃ m0 : Nat, a0 = m0 := ⟨a0.toNat, by have := (bounds_u8 w0).1; omega⟩
  obtain ⟨a1, rfl, rfl, rfl, w1⟩ := open_string Tryz.underlying9 (hval 1 9 v1 rfl rfl) h1
  obtain ⟨s1, rfl⟩ : ∃ s1, a1 = txt s1 := ⟨a1.data.toList, by unfold txt; simp⟩
  obtain ⟨A2, n2, c2, Xs2, rfl, y2⟩ := open_wiRow (hval 2 22 v2 rfl rfl) h2
  obtain ⟨a3, rfl, rfl, rfl, w3⟩ := open_int Tryz.underlying5 (hval 3 5 v3 rfl rfl) h3
  obtain ⟨m3, rfl⟩ : ∃ m3 : Nat, a3 = m3 := ⟨a3.toNat, by have := (bounds_u8 w3).1; omega⟩
  obtain ⟨a4, w4, rfl⟩ := open_id Tryz.underlying24 Tryz.underlying5 (by kernel_rfl) (by kernel_rfl) (hval 4 24 v4 rfl rfl) h4
  clear hA0 hval0
  refine (law_WitnessOwn W m0 (by have := (bounds_u8 w0).2; omega) s1 A2 n2 c2 Xs2 y2 m3 (by have := (bounds_u8 w3).2; omega) a4 w4).mono fun e W' ⟨he, bel⟩ => ?_
  subst he
  exact ⟨_, rfl, _, _, _, [], _, [], hW', trodAll_mk1 (shut_bool Tryz.underlying4 _), trodAll_stays laidOut_WitnessOwn bel (by kernel_rfl) hA1, rfl, bel.frame _, fun h => by cases h⟩

/-- The statement. -/
theorem WitnessOwn_holds : Rows.WitnessOwnSaid :=
  OpenClaim.holds_of_wide 4 Tryz.f4 rfl rfl rfl rfl rfl rfl rfl ⟨rfl, rfl, rfl, rfl, rfl⟩ rfl rfl rfl rfl rfl (by kernel_rfl) Tryz.func4 (by kernel_rfl)
    (of_decide_eq_true (by kernel_rfl)) (by unfold Func.isWrapper; first | (rw [if_pos (by decide +kernel)]; kernel_rfl) | (rw [if_neg (by decide +kernel)]; exact ⟨rfl, rfl⟩))
    (fun os started H enc _ => lifted_WitnessOwn os started H enc)
#print axioms WitnessOwn_holds

end Go.Proofs.YticpdepbgcagaaaGreat

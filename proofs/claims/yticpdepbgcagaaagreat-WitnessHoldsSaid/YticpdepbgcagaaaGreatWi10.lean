
/- witness: two witnesses compared; the owner's own signature; the chapter's example. -/
import Derived.Test.YticpdepbgcagaaaGreatWi9
import Derived.Test.YticpdepbgcagaaaGreatSs1
import Derived.Test.YticpdepbgcagaaaGreatKit4
import Derived.Laws.StructEq
set_option linter.unusedSimpArgs false
set_option linter.unusedVariables false
namespace Go.Proofs.YticpdepbgcagaaaGreat
open Go.RowKit Go.Qc Go.Shelf
attribute [local go_sem] txt_size txt_append ib_fold
theorem fits_ofW {n H L : Nat} (hr : rgtP n H = true) (hL : L < 2 ^ H) : fitsP n H L n n H := by
  refine ⟨hr, by omega, ?_, rfl, rfl, rfl⟩
  rw [lvs_ok hr]
  omega
/-- The witness of the owner's own signature. -/
def ownW (n L : Nat) (s a : List UInt8) (Xs : List WiD) : Array Value := if honB n Xs a L = true then wt1 else match fstW n Xs L a with
  | some b => wt3 L b (bitZ a b : Nat) (secB s L b (bitZ a b : Nat))
  | none => wt0
theorem fd_own (n H L : Nat) (s a : List UInt8) (Xs : List WiD) : fdA n H L s a (upTo (shownX s L a) n) (upTo (hiddenX s L a) n) (upTo (wayF (lfF s n) L) H) Xs = .tuple #[.agg (ownW n L s a Xs), .int .i64 0] := by
  unfold fdA ownR
  rw [if_pos rfl]
  unfold fdW
  rw [unlW_self]
  unfold fdR ownW
  cases hf : fstW n Xs L a with
  | none => rfl
  | some b =>
    have hb : b < n := by
      unfold fstW at hf
      exact List.mem_range.1 (List.mem_of_find?_eq_some hf)
    have hg : getB (upTo (shownX s L a) n) b = secB s L b (bitZ a b : Nat) := getB_some (upTo_get _ n b hb)
    simp only [hg]
/-- The chapter's example: the sum 0x80... -/
def sumX : List UInt8 := 128 :: List.replicate 31 0
theorem sumX_bit : bitZ sumX 0 = 1 := by decide +kernel
theorem own_ex (s : List UInt8) : ownW 8 0 s sumX [] = wt3 0 0 1 (secB s 0 0 1) := by
  have h1 : honB 8 [] sumX 0 = false := rfl
  have h2 : fstW 8 [] 0 sumX = some 0 := rfl
  unfold ownW
  rw [show honB (8 : Nat) [] sumX (0 : Nat) = false from h1, show fstW 8 [] ((0 : Nat) : Int) sumX = some 0 from h2]
  simp only [sumX_bit]
  rfl
theorem build_sumX (W : World) : (Instr.build 24 #[(0, .int .u8 128)]).run Tryz.prog W = .ok (.agg (idVals sumX)) W := by kernel_rfl
theorem infoWtZ : ∃ i Z, Tryz.prog.info? 32 = some i ∧ i.zero = some (.agg Z) ∧ Z.size = 38 := by
  have h : (Tryz.prog.info? 32).map (fun i => (match i.zero with | some (.agg Z) => Z.size == 38 | _ => false)) = some true := by kernel_rfl
  cases hq : Tryz.prog.info? 32 with
  | none => rw [hq] at h; cases h
  | some i =>
    rw [hq, Option.map_some] at h
    simp only [Option.some.injEq] at h
    split at h
    · rename_i Z hz
      exact ⟨i, Z, rfl, hz, by simpa using h⟩
    · cases h
theorem wp_allocWt {w : World} {o : Oper} {a : Act} {K : Act → World → Prop} {Q : Exit → Act → World → Prop} (ho : o.op = .alloc 32)
    (h : ∀ g cs w', cs.size = 38 → Hid (g = w.heap.size) → Blk w' g 32 cs → Below w.heap.size w w' → K (a.put o.dst (.pointer (some ⟨g, 0, none⟩))) w') : o.wp Tryz.prog a w K Q := by
  obtain ⟨i0, Z, hi, hz, hs⟩ := infoWtZ
  have h9 := h w.heap.size Z (w.alloc (.cells Z 32)) hs (hid rfl) (Blk.new _ _ _) ((Below.refl _ _).alloc (Nat.le_refl _) _)
  unfold Oper.wp
  simp only [execOp, ho]
  simp [Instr.alloc, zeroValue, typeInfo, hi, hz, newVar, newRow, Value.cells, newObj]
  exact h9
def AwW (w : World) (K : List UInt8) (s3 s4 : Value) (wx : World) : Prop := ∃ g, s3 = .pointer (some ⟨g, 0, none⟩) ∧ s4 = .int .i64 0 ∧ Blk wx g 32 (wt3 0 0 1 K) ∧ Below w.heap.size w wx
theorem wt3_c0 (l b s : Int) (K : List UInt8) : (wt3 l b s K)[0]? = some (.int .i64 3) := by unfold wt3 wtC; rw [Array.getElem?_append_left (by simp)]; rfl
theorem wt3_c4 (l b s : Int) (K : List UInt8) : (wt3 l b s K)[4]? = some (.int .i64 b) := by unfold wt3 wtC; rw [Array.getElem?_append_left (by simp)]; rfl
theorem wt3_c5 (l b s : Int) (K : List UInt8) : (wt3 l b s K)[5]? = some (.int .i64 s) := by unfold wt3 wtC; rw [Array.getElem?_append_left (by simp)]; rfl
theorem wt3_key (l b s : Int) (K : List UInt8) (j : Nat) (u : Value) (h : (K.map u8v)[j]? = some u) : (wt3 l b s K)[6 + j]? = some u := by
  unfold wt3 wtC
  rw [Array.getElem?_append_right (by simp)]
  simp only [List.size_toArray, List.length_cons, List.length_nil]
  rw [show 6 + j - (0 + 1 + 1 + 1 + 1 + 1 + 1) = j by omega]
  unfold idVals
  rw [List.getElem?_toArray]
  exact h

set_option maxRecDepth 100000 in
set_option maxHeartbeats 20000000 in
theorem wawake_any (w : World) : Calls Tryz.prog 6 #[] w fun e w' => e = .returned (.bool true) ∧ Below w.heap.size w w' := by
  have hu := Tryz.underlying24
  have la : sumX.length = 32 := rfl
  have hza : (Tryz.prog.info? 24).map (·.size) = some (sumX.map u8v).length := by rw [List.length_map, la]; exact sizeId
  have hza2 : (Tryz.prog.info? 24).map (·.size) = some (idVals sumX).size := by rw [idVals_size, la]; exact sizeId
  have h1a := idVals_one sumX
  have sa : (idVals sumX).size = 32 := by rw [idVals_size, la]
  have hr : rgtP (8 : Nat) (0 : Nat) = true := by decide
  have hL : 0 < 2 ^ 0 := by decide
  obtain ⟨KS, hK0⟩ : ∃ KS, secB [115] 0 0 1 = KS := ⟨_, rfl⟩
  have hKl : KS.length = 32 := by rw [← hK0]; exact secB_length _ _ _ _
  have hzK : (Tryz.prog.info? 24).map (·.size) = some (KS.map u8v).length := by rw [List.length_map, hKl]; exact sizeId
  have hi3 : (Tryz.prog.info? 32).map (·.size) = some (wt3 0 0 1 KS).size := wtC_info 3 ⟨#[]⟩ ⟨#[]⟩ 0 0 1 hKl
  have hs3 : (wt3 0 0 1 KS).size = 38 := wtC_size 3 ⟨#[]⟩ ⟨#[]⟩ 0 0 1 hKl
  have ho3 : (wt3 0 0 1 KS).all (·.oneCell') = true := wtC_one 3 ⟨#[]⟩ ⟨#[]⟩ 0 0 1 KS
  have HS : Hid (∀ W : World, Calls Tryz.prog 16 #[.agg #[.int .i64 8, .int .i64 0], .string ⟨#[115]⟩, .int .i64 0, .agg (List.map u8v sumX).toArray] W fun e w' => ∃ A1 d1 A2 d2 A3 d3, e = .returned (.agg #[.int .i64 0, .slice A1 8 d1, .slice A2 8 d2, .slice A3 0 d3]) ∧ RowR w' A1 8 (upTo (shownX [115] (0 : Nat) sumX) 8) ∧ RowR w' A2 8 (upTo (hiddenX [115] (0 : Nat) sumX) 8) ∧ RowR w' A3 0 (upTo (wayF (lfF [115] 8) 0) 0) ∧ 0 ≤ d3 ∧ Below W.heap.size W w') := hid (fun W => by
    refine (rsign8_any [115] (by decide) 8 0 hr (by decide) 0 hL sumX la W).mono ?_
    rintro e w' ⟨A1, d1, A2, d2, A3, d3, rfl, o1, o2, o3, hb⟩
    exact ⟨A1, d1, A2, d2, A3, d3, rfl, own_row o1 (upTo_32 _ (shownX_length _ _ _) 8) (by decide), own_row o2 (upTo_32 _ (hiddenX_length _ _ _) 8) (by decide), own_row o3 (upTo_32 _ (fun b => ndB_length _ (lfF_length _ 8) _ _) 0) (by decide), Nat.zero_le _, hb⟩)
  have HF : Hid (∀ (W : World) (A1 A2 A3 : Option Addr) (d1 d2 d3 : Nat), RowR W A1 8 (upTo (shownX [115] (0 : Nat) sumX) 8) → RowR W A2 8 (upTo (hiddenX [115] (0 : Nat) sumX) 8) → RowR W A3 0 (upTo (wayF (lfF [115] 8) 0) 0) → 0 ≤ d3 → Calls Tryz.prog 7 #[.agg #[.int .i64 8, .int .i64 0], .string ⟨#[115]⟩, .slice none 0 0, .agg (List.map u8v sumX).toArray, .agg #[.int .i64 0, .slice A1 8 d1, .slice A2 8 d2, .slice A3 0 d3]] W fun e w' => e = .returned (.tuple #[.agg (wt3 0 0 1 KS), .int .i64 0]) ∧ Below W.heap.size W w') := hid (fun W A1 A2 A3 d1 d2 d3 r1 r2 r3 hd => by
    have h := wfind_main 8 0 0 [115] (by decide) sumX la none 0 0 [] rfl (by decide) A1 A2 A3 d1 d2 d3 _ _ _ (fits_ofW hr hL) (by decide) hd W r1 r2 r3 (WiRd.nil_ W none)
    rw [fd_own, own_ex, hK0] at h
    exact h)
  have cS : ∀ W : World, Calls Tryz.prog 20 #[.string ⟨#[115]⟩, .int .i64 0, .int .i64 0, .int .i64 1] W fun e w' => e = .returned (.agg (List.map u8v KS).toArray) ∧ Below W.heap.size W w' := fun W => by
    have h := rsecret_any [115] (by decide) 0 0 1 W
    rw [hK0] at h
    exact h
  have heq : ∀ W, (Op.equalIn 10000 24 (.agg (List.map u8v KS).toArray) (.agg (List.map u8v KS).toArray)).run Tryz.prog W = .ok true W := fun W => (ids_eq W KS KS hKl hKl).trans (by rw [decide_eq_true rfl])
  have h1 := (Below.refl w.heap.size w).alloc (Nat.le_refl _) (.cells #[.int .i64 8, .int .i64 0] 29)
  have B0 := Blk.new w 29 #[.int .i64 8, .int .i64 0]
  clear hK0
  go_enter Tryz.func6, Tryz.ntmps6
  go_upto_region 2 with (fail)
  generalize w.alloc (.cells #[.int .i64 8, .int .i64 0] 29) = wA at *
  have h2 := h1.alloc h1.size (.cells (idVals sumX) 24)
  have B1 := B0.alloc (.cells (idVals sumX) 24)
  have fa0 := range_blk (Blk.new wA 24 (idVals sumX))
  clear h1 B0
  go_upto_region 3 with (first
    | (with_reducible refine wpList_build_byW rfl _ _ rfl _ _ build_sumX (by with_unfolding_all rfl) ?_)
    | (with_reducible refine wpList_store_new rfl 24 _ _ rfl (idVals sumX) rfl rfl hza2 (Eq.trans (b := 32) (by with_unfolding_all rfl) sa.symm) h1a ?_))
  generalize sumX = a at *
  generalize wA.alloc (.cells (idVals a) 24) = w2 at *
  have HB := hid (h2.trans ((below_drewW _).mono h2.size))
  have p0 := wi_cell (below_drewW _) (B1.cell_ (i := 0) rfl)
  have p1 := wi_cell (below_drewW _) (B1.cell_ (i := 1) rfl)
  have fa := fa0.below (below_drewW _)
  clear B1 fa0 h2
  try simp only [Act.put]
  go_cut [3, 4] (fun s3 s4 wx => AwW w KS s3 s4 wx)
  case first =>
    refine wp_region_held_drew (S := fun V => Below w2.drew.heap.size w2.drew V) (by kernel_rfl) (Below.refl _ _) (fun hHeld => ?_)
    generalize w2.drew = V0 at *
    refine' wpAnyH_take (i := 0) (v := .agg #[.int .i64 8, .int .i64 0]) rfl (by kernel_rfl) (by kernel_rfl) (by kernel_rfl) (fun _ _ _ h => h) (Or.inl ⟨by rfl, fun w' hw' => by have q0 := wi_cell hw' p0; have q1 := wi_cell hw' p1; go_simp⟩) hHeld ?_
    try simp only [Act.put, List.getElem_toArray, List.getElem_cons_succ, List.getElem_cons_zero, List.setIfInBounds_toArray, List.set_cons_zero, List.set_cons_succ]
    refine' wpAnyH_take (i := 1) (v := _) rfl (by kernel_rfl) (by kernel_rfl) (by kernel_rfl) (fun _ _ _ h => h) (yieldsIf_load_mid (by rfl) 24 _ rfl _ _ rfl (a.map u8v) _ (fun w' h => fa.below h) hu rfl hza) hHeld ?_
    try simp only [Act.put, List.getElem_toArray, List.getElem_cons_succ, List.getElem_cons_zero, List.setIfInBounds_toArray, List.set_cons_zero, List.set_cons_succ]
    refine' wpAnyH_take (i := 2) (v := .agg #[.int .i64 8, .int .i64 0]) rfl (by kernel_rfl) (by kernel_rfl) (by kernel_rfl) (fun _ _ _ h => h) (Or.inl ⟨by rfl, fun w' hw' => by have q0 := wi_cell hw' p0; have q1 := wi_cell hw' p1; go_simp⟩) hHeld ?_
    try simp only [Act.put, List.getElem_toArray, List.getElem_cons_succ, List.getElem_cons_zero, List.setIfInBounds_toArray, List.set_cons_zero, List.set_cons_succ]
    refine' wpAnyH_take (i := 3) (v := _) rfl (by kernel_rfl) (by kernel_rfl) (by kernel_rfl) (fun _ _ _ h => h) (yieldsIf_load_mid (by rfl) 24 _ rfl _ _ rfl (a.map u8v) _ (fun w' h => fa.below h) hu rfl hza) hHeld ?_
    try simp only [Act.put, List.getElem_toArray, List.getElem_cons_succ, List.getElem_cons_zero, List.setIfInBounds_toArray, List.set_cons_zero, List.set_cons_succ]
    refine wpAnyH_ready (rs := [4, 9]) (by kernel_rfl) (by simp) ?_
    refine AllReadyH.cons rfl (fun K hK => ?_) (AllReadyH.cons rfl (fun K hK => ?_) AllReadyH.nil)
    · as_aux_lemma =>
        go_simp
        (with_reducible refine (HS.out _).mono ?_)
        rintro e4 V4 ⟨A1, d1, A2, d2, A3, d3, rfl, r1, r2, r3, hd3, hb9⟩
        have HR1 := hid r1
        have HR2 := hid r2
        have HR3 := hid r3
        refine hK.out _ _ (hHeld.trans (hb9.mono hHeld.size)) (fun hHeld => ?_)
        clear hK K hb9 r1 r2 r3
        try simp only [Act.put, List.getElem_toArray, List.getElem_cons_succ, List.getElem_cons_zero, List.setIfInBounds_toArray, List.set_cons_zero, List.set_cons_succ]
        refine wpAnyH_ready (rs := [5, 9]) (by kernel_rfl) (by simp) ?_
        refine AllReadyH.cons rfl (fun K hK => ?_) (AllReadyH.cons rfl (fun K hK => ?_) AllReadyH.nil)
        · as_aux_lemma =>
            go_simp
            (with_reducible refine (HF.out _ _ _ _ _ _ _ HR1.out HR2.out HR3.out hd3).mono ?_)
            rintro e5 V5 ⟨rfl, hb9⟩
            refine hK.out _ _ (hHeld.trans (hb9.mono hHeld.size)) (fun hHeld => ?_)
            clear hK K hb9
            try simp only [Act.put, List.getElem_toArray, List.getElem_cons_succ, List.getElem_cons_zero, List.setIfInBounds_toArray, List.set_cons_zero, List.set_cons_succ]
            refine' wpAnyH_take (i := 6) (v := .tuple #[.agg (wt3 0 0 1 KS), .int .i64 0]) rfl (by kernel_rfl) (by kernel_rfl) (by kernel_rfl) (fun _ _ _ h => h) (Or.inl ⟨by rfl, fun w' hw' => by go_simp⟩) hHeld ?_
            try simp only [Act.put, List.getElem_toArray, List.getElem_cons_succ, List.getElem_cons_zero, List.setIfInBounds_toArray, List.set_cons_zero, List.set_cons_succ]
            refine' wpAnyH_take (i := 7) (v := .agg (wt3 0 0 1 KS)) rfl (by kernel_rfl) (by kernel_rfl) (by kernel_rfl) (fun _ _ _ h => h) (Or.inl ⟨by rfl, fun w' hw' => by go_simp⟩) hHeld ?_
            try simp only [Act.put, List.getElem_toArray, List.getElem_cons_succ, List.getElem_cons_zero, List.setIfInBounds_toArray, List.set_cons_zero, List.set_cons_succ]
            refine' wpAnyH_take (i := 8) (v := .int .i64 0) rfl (by kernel_rfl) (by kernel_rfl) (by kernel_rfl) (fun _ _ _ h => h) (Or.inl ⟨by rfl, fun w' hw' => by go_simp⟩) hHeld ?_
            try simp only [Act.put, List.getElem_toArray, List.getElem_cons_succ, List.getElem_cons_zero, List.setIfInBounds_toArray, List.set_cons_zero, List.set_cons_succ]
            refine wpAnyH_ready (rs := [9]) (by kernel_rfl) (by simp) ?_
            refine AllReadyH.cons rfl (fun K hK => ?_) AllReadyH.nil
            refine wp_allocWt rfl ?_
            intro g9 cs9 V9 hs9 hn9 hB9 hb9
            have n9 : V0.heap.size ≤ g9 := by have := hn9.out; have := hHeld.size; omega
            refine hK.out _ _ (hHeld.trans (hb9.mono hHeld.size)) (fun hHeld => ?_)
            clear hK K hb9 hn9
            try simp only [Act.put, List.getElem_toArray, List.getElem_cons_succ, List.getElem_cons_zero, List.setIfInBounds_toArray, List.set_cons_zero, List.set_cons_succ]
            refine wpAnyH_ready (rs := [10]) (by kernel_rfl) (by simp) ?_
            refine AllReadyH.cons rfl (fun K hK => ?_) AllReadyH.nil
            refine wp_store_blk 32 _ _ rfl g9 _ (wt3 0 0 1 KS) 32 hB9 rfl rfl hi3 (hs9.trans hs3.symm) ho3 ?_
            intro V10 hC9 hg9
            refine hK.out _ _ (hHeld.grown hg9 hHeld.size (fun z hz => by have := Option.some.inj hz; omega)) (fun hHeld => ?_)
            clear hK K hg9
            try simp only [Act.put, List.getElem_toArray, List.getElem_cons_succ, List.getElem_cons_zero, List.setIfInBounds_toArray, List.set_cons_zero, List.set_cons_succ]
            refine' wpAnyH_take (i := 11) (v := .int .i64 0) rfl (by kernel_rfl) (by kernel_rfl) (by kernel_rfl) (fun _ _ _ h => h) (Or.inl ⟨by rfl, fun w' hw' => by go_simp⟩) hHeld ?_
            try simp only [Act.put, List.getElem_toArray, List.getElem_cons_succ, List.getElem_cons_zero, List.setIfInBounds_toArray, List.set_cons_zero, List.set_cons_succ]
            refine wpAnyH_done (by kernel_rfl) ?_ _
            have HH := hid (HB.out.trans (hHeld.mono HB.out.size))
            go_wp2_with (fail)
            go_meet
            exact ⟨g9, rfl, rfl, hC9, HH.out⟩
        · as_aux_lemma =>
            refine wp_allocWt rfl ?_
            intro g9 cs9 V9 hs9 hn9 hB9 hb9
            have n9 : V0.heap.size ≤ g9 := by have := hn9.out; have := hHeld.size; omega
            replace HR1 := hid (HR1.out.below hb9)
            replace HR2 := hid (HR2.out.below hb9)
            replace HR3 := hid (HR3.out.below hb9)
            refine hK.out _ _ (hHeld.trans (hb9.mono hHeld.size)) (fun hHeld => ?_)
            clear hK K hb9 hn9
            try simp only [Act.put, List.getElem_toArray, List.getElem_cons_succ, List.getElem_cons_zero, List.setIfInBounds_toArray, List.set_cons_zero, List.set_cons_succ]
            refine wpAnyH_ready (rs := [5]) (by kernel_rfl) (by simp) ?_
            refine AllReadyH.cons rfl (fun K hK => ?_) AllReadyH.nil
            go_simp
            (with_reducible refine (HF.out _ _ _ _ _ _ _ HR1.out HR2.out HR3.out hd3).mono ?_)
            rintro e5 V5 ⟨rfl, hb9⟩
            replace hB9 := hB9.below hb9
            refine hK.out _ _ (hHeld.trans (hb9.mono hHeld.size)) (fun hHeld => ?_)
            clear hK K hb9
            try simp only [Act.put, List.getElem_toArray, List.getElem_cons_succ, List.getElem_cons_zero, List.setIfInBounds_toArray, List.set_cons_zero, List.set_cons_succ]
            refine' wpAnyH_take (i := 6) (v := .tuple #[.agg (wt3 0 0 1 KS), .int .i64 0]) rfl (by kernel_rfl) (by kernel_rfl) (by kernel_rfl) (fun _ _ _ h => h) (Or.inl ⟨by rfl, fun w' hw' => by go_simp⟩) hHeld ?_
            try simp only [Act.put, List.getElem_toArray, List.getElem_cons_succ, List.getElem_cons_zero, List.setIfInBounds_toArray, List.set_cons_zero, List.set_cons_succ]
            refine' wpAnyH_take (i := 7) (v := .agg (wt3 0 0 1 KS)) rfl (by kernel_rfl) (by kernel_rfl) (by kernel_rfl) (fun _ _ _ h => h) (Or.inl ⟨by rfl, fun w' hw' => by go_simp⟩) hHeld ?_
            try simp only [Act.put, List.getElem_toArray, List.getElem_cons_succ, List.getElem_cons_zero, List.setIfInBounds_toArray, List.set_cons_zero, List.set_cons_succ]
            refine' wpAnyH_take (i := 8) (v := .int .i64 0) rfl (by kernel_rfl) (by kernel_rfl) (by kernel_rfl) (fun _ _ _ h => h) (Or.inl ⟨by rfl, fun w' hw' => by go_simp⟩) hHeld ?_
            try simp only [Act.put, List.getElem_toArray, List.getElem_cons_succ, List.getElem_cons_zero, List.setIfInBounds_toArray, List.set_cons_zero, List.set_cons_succ]
            refine wpAnyH_ready (rs := [10]) (by kernel_rfl) (by simp) ?_
            refine AllReadyH.cons rfl (fun K hK => ?_) AllReadyH.nil
            refine wp_store_blk 32 _ _ rfl g9 _ (wt3 0 0 1 KS) 32 hB9 rfl rfl hi3 (hs9.trans hs3.symm) ho3 ?_
            intro V10 hC9 hg9
            refine hK.out _ _ (hHeld.grown hg9 hHeld.size (fun z hz => by have := Option.some.inj hz; omega)) (fun hHeld => ?_)
            clear hK K hg9
            try simp only [Act.put, List.getElem_toArray, List.getElem_cons_succ, List.getElem_cons_zero, List.setIfInBounds_toArray, List.set_cons_zero, List.set_cons_succ]
            refine' wpAnyH_take (i := 11) (v := .int .i64 0) rfl (by kernel_rfl) (by kernel_rfl) (by kernel_rfl) (fun _ _ _ h => h) (Or.inl ⟨by rfl, fun w' hw' => by go_simp⟩) hHeld ?_
            try simp only [Act.put, List.getElem_toArray, List.getElem_cons_succ, List.getElem_cons_zero, List.setIfInBounds_toArray, List.set_cons_zero, List.set_cons_succ]
            refine wpAnyH_done (by kernel_rfl) ?_ _
            have HH := hid (HB.out.trans (hHeld.mono HB.out.size))
            go_wp2_with (fail)
            go_meet
            exact ⟨g9, rfl, rfl, hC9, HH.out⟩
    · as_aux_lemma =>
        refine wp_allocWt rfl ?_
        intro g9 cs9 V9 hs9 hn9 hB9 hb9
        have n9 : V0.heap.size ≤ g9 := by have := hn9.out; have := hHeld.size; omega
        refine hK.out _ _ (hHeld.trans (hb9.mono hHeld.size)) (fun hHeld => ?_)
        clear hK K hb9 hn9
        try simp only [Act.put, List.getElem_toArray, List.getElem_cons_succ, List.getElem_cons_zero, List.setIfInBounds_toArray, List.set_cons_zero, List.set_cons_succ]
        refine wpAnyH_ready (rs := [4]) (by kernel_rfl) (by simp) ?_
        refine AllReadyH.cons rfl (fun K hK => ?_) AllReadyH.nil
        go_simp
        (with_reducible refine (HS.out _).mono ?_)
        rintro e4 V4 ⟨A1, d1, A2, d2, A3, d3, rfl, r1, r2, r3, hd3, hb9⟩
        have HR1 := hid r1
        have HR2 := hid r2
        have HR3 := hid r3
        replace hB9 := hB9.below hb9
        refine hK.out _ _ (hHeld.trans (hb9.mono hHeld.size)) (fun hHeld => ?_)
        clear hK K hb9 r1 r2 r3
        try simp only [Act.put, List.getElem_toArray, List.getElem_cons_succ, List.getElem_cons_zero, List.setIfInBounds_toArray, List.set_cons_zero, List.set_cons_succ]
        refine wpAnyH_ready (rs := [5]) (by kernel_rfl) (by simp) ?_
        refine AllReadyH.cons rfl (fun K hK => ?_) AllReadyH.nil
        go_simp
        (with_reducible refine (HF.out _ _ _ _ _ _ _ HR1.out HR2.out HR3.out hd3).mono ?_)
        rintro e5 V5 ⟨rfl, hb9⟩
        replace hB9 := hB9.below hb9
        refine hK.out _ _ (hHeld.trans (hb9.mono hHeld.size)) (fun hHeld => ?_)
        clear hK K hb9
        try simp only [Act.put, List.getElem_toArray, List.getElem_cons_succ, List.getElem_cons_zero, List.setIfInBounds_toArray, List.set_cons_zero, List.set_cons_succ]
        refine' wpAnyH_take (i := 6) (v := .tuple #[.agg (wt3 0 0 1 KS), .int .i64 0]) rfl (by kernel_rfl) (by kernel_rfl) (by kernel_rfl) (fun _ _ _ h => h) (Or.inl ⟨by rfl, fun w' hw' => by go_simp⟩) hHeld ?_
        try simp only [Act.put, List.getElem_toArray, List.getElem_cons_succ, List.getElem_cons_zero, List.setIfInBounds_toArray, List.set_cons_zero, List.set_cons_succ]
        refine' wpAnyH_take (i := 7) (v := .agg (wt3 0 0 1 KS)) rfl (by kernel_rfl) (by kernel_rfl) (by kernel_rfl) (fun _ _ _ h => h) (Or.inl ⟨by rfl, fun w' hw' => by go_simp⟩) hHeld ?_
        try simp only [Act.put, List.getElem_toArray, List.getElem_cons_succ, List.getElem_cons_zero, List.setIfInBounds_toArray, List.set_cons_zero, List.set_cons_succ]
        refine' wpAnyH_take (i := 8) (v := .int .i64 0) rfl (by kernel_rfl) (by kernel_rfl) (by kernel_rfl) (fun _ _ _ h => h) (Or.inl ⟨by rfl, fun w' hw' => by go_simp⟩) hHeld ?_
        try simp only [Act.put, List.getElem_toArray, List.getElem_cons_succ, List.getElem_cons_zero, List.setIfInBounds_toArray, List.set_cons_zero, List.set_cons_succ]
        refine wpAnyH_ready (rs := [10]) (by kernel_rfl) (by simp) ?_
        refine AllReadyH.cons rfl (fun K hK => ?_) AllReadyH.nil
        refine wp_store_blk 32 _ _ rfl g9 _ (wt3 0 0 1 KS) 32 hB9 rfl rfl hi3 (hs9.trans hs3.symm) ho3 ?_
        intro V10 hC9 hg9
        refine hK.out _ _ (hHeld.grown hg9 hHeld.size (fun z hz => by have := Option.some.inj hz; omega)) (fun hHeld => ?_)
        clear hK K hg9
        try simp only [Act.put, List.getElem_toArray, List.getElem_cons_succ, List.getElem_cons_zero, List.setIfInBounds_toArray, List.set_cons_zero, List.set_cons_succ]
        refine' wpAnyH_take (i := 11) (v := .int .i64 0) rfl (by kernel_rfl) (by kernel_rfl) (by kernel_rfl) (fun _ _ _ h => h) (Or.inl ⟨by rfl, fun w' hw' => by go_simp⟩) hHeld ?_
        try simp only [Act.put, List.getElem_toArray, List.getElem_cons_succ, List.getElem_cons_zero, List.setIfInBounds_toArray, List.set_cons_zero, List.set_cons_succ]
        refine wpAnyH_done (by kernel_rfl) ?_ _
        have HH := hid (HB.out.trans (hHeld.mono HB.out.size))
        go_wp2_with (fail)
        go_meet
        exact ⟨g9, rfl, rfl, hC9, HH.out⟩
  case rest =>
    obtain ⟨g, rfl, rfl, hB, hb⟩ := hcut
    have k0 : ∀ p : LaterW wc, p.w.cell? ⟨g, 0, none⟩ = some (.int .i64 3) := fun p => wi_cell p.h (hB.cell_ (wt3_c0 _ _ _ _))
    have k4 : ∀ p : LaterW wc, p.w.cell? ⟨g, 4, none⟩ = some (.int .i64 0) := fun p => wi_cell p.h (hB.cell_ (wt3_c4 _ _ _ _))
    have k5 : ∀ p : LaterW wc, p.w.cell? ⟨g, 5, none⟩ = some (.int .i64 1) := fun p => wi_cell p.h (hB.cell_ (wt3_c5 _ _ _ _))
    have fk : wc.rangeAt g 6 (KS.map u8v) := fun j u hj => hB.cell_ (wt3_key _ _ _ _ j u hj)
    have fq := range_later fk
    clear hB fk p0 p1 fa HS HF hi3 hs3 ho3
    go_upto_region 4 with (fail)
    refine wp_region_later mixedW (by kernel_rfl) ?_
    repeat (first
      | ((with_reducible refine wpQuiet_load_if (by with_unfolding_all rfl) 24 _ rfl _ _ rfl (KS.map u8v) _ fq hu (by with_unfolding_all rfl) hzK ?_); simp only [Act.put, List.setIfInBounds_toArray, List.set_cons_zero, List.set_cons_succ])
      | ((with_reducible refine wpQuiet_step (fun K hK => ?_)); go_simp; first | ((with_reducible refine hK _ ?_); clear hK K) | (with_reducible apply Exists.intro; (with_reducible refine ⟨fun P => ?_, hK _ ?_⟩); ((go_at_call 20; exact later_of (cS P.w))); clear hK K))
      | ((with_reducible refine BigFrame.wpQuiet_skip (by first | kernel_rfl | with_unfolding_all rfl) ?_); simp only [Act.put, List.setIfInBounds_toArray, List.set_cons_zero, List.set_cons_succ]))
    with_reducible refine wpQuiet_nil ?_
    intro _ hw9
    obtain ⟨P9, rfl⟩ := hw9
    go_wp2_with (fail)
    go_ret
    exact ⟨rfl, hb.trans (P9.h.mono hb.size)⟩

end Go.Proofs.YticpdepbgcagaaaGreat

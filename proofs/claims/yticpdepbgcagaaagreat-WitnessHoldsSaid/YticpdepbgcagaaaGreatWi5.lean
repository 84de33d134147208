
/- witness: the text at a place between the leaf and the key. -/
import Derived.Test.YticpdepbgcagaaaGreatWi4
set_option linter.unusedSimpArgs false
set_option linter.unusedVariables false
namespace Go.Proofs.YticpdepbgcagaaaGreat
open Go.RowKit Go.Qc Go.Shelf
attribute [local go_sem] txt_size txt_append ib_fold
/-- What stands behind the way's beginning: the two boxes, left and right. -/
def CutW (w : World) (S y : List UInt8) (s9 s10 : Value) (wx : World) : Prop := ∃ g9 g10, s9 = .pointer (some ⟨g9, 0, none⟩) ∧ s10 = .pointer (some ⟨g10, 0, none⟩) ∧ Blk wx g9 24 (idVals S) ∧ Blk wx g10 24 (idVals y) ∧ g9 ≠ g10 ∧ w.heap.size ≤ g9 ∧ w.heap.size ≤ g10 ∧ Below w.heap.size w wx

theorem and1_fact : ∀ x : Fin 32, bits BinOp.and IntKind.i64 ((x.val : Nat) : Int) 1 = ((x.val % 2 : Nat) : Int) := by decide
theorem wbit_any {L p : Nat} (hL : L < 32) (b : Nat) (h : (L / 2 ^ p) % 2 = b) : bits BinOp.and IntKind.i64 ((L : Int) / 2 ^ p) 1 = (b : Int) := by
  have h1 : (L : Int) / 2 ^ p = ((L / 2 ^ p : Nat) : Int) := by simp
  have h2 : L / 2 ^ p < 32 := Nat.lt_of_le_of_lt (Nat.div_le_self _ _) hL
  rw [h1, and1_fact ⟨L / 2 ^ p, h2⟩, h]
theorem wbit_yes {L p : Nat} (hL : L < 32) (hp : p < 64) (h : (L / 2 ^ p) % 2 = 1) : bits BinOp.and IntKind.i64 ((L : Int) / 2 ^ p) 1 = 1 := wbit_any hL 1 h
theorem wbit_no {L p : Nat} (hL : L < 32) (hp : p < 64) (h : (L / 2 ^ p) % 2 = 0) : bits BinOp.and IntKind.i64 ((L : Int) / 2 ^ p) 1 = 0 := wbit_any hL 0 h

set_option maxRecDepth 100000 in
set_option maxHeartbeats 20000000 in
theorem texts1_left (pb pp px pl : Nat) (Ap : Option Addr) (cp : Nat) (Aw : Option Addr) (cw n H L : Nat) (pubs : List (List UInt8)) (lf : List UInt8) (way : List (List UInt8)) (hn : n ≤ 256) (hH : H ≤ 5) (hL : L < 32) (hl : lf.length = 32) (hcw : H ≤ cw) (p q : Nat) (hq : q = p + 1) (hp : p < H) (hbit : (L / 2 ^ p) % 2 = 0) (w : World) (hS : TxS w pb pp px pl Ap cp Aw cw n H L pubs lf way) :
    Calls Tryz.prog 63 #[.int .i64 q, .pointer (some ⟨pb, 0, none⟩), .pointer (some ⟨pp, 0, none⟩), .pointer (some ⟨px, 0, none⟩), .pointer (some ⟨pl, 0, none⟩)] w fun e w' => e = .returned (.string (txt (textB nodeN [climbB L lf (way.take p), getB way p]))) ∧ Below w.heap.size w w' := by
  have hu := Tryz.underlying24
  have hzl : (Tryz.prog.info? 24).map (·.size) = some (lf.map u8v).length := by rw [List.length_map, hl]; exact sizeId
  obtain ⟨ga, oa, rfl⟩ := hS.rw_.some_ (by omega)
  obtain ⟨y, hy⟩ : ∃ y, way[p]? = some y := ⟨_, List.getElem?_eq_getElem (by have := hS.rw_.1; omega)⟩
  obtain ⟨gy, qy, fy0, ly, hiy⟩ := hS.rw_.2.2.pick cw hS.rw_.1 hy
  have hgy : getB way p = y := getB_some hy
  have hb0 := below_drewW w
  have hS1 := hS.below hb0
  have k1 := hS.h1
  have f2 := hS1.l0
  have f3 := hS1.l3
  have fl := hS1.lf_
  have fy := fy0.below hb0
  have hzy : (Tryz.prog.info? 24).map (·.size) = some (y.map u8v).length := by rw [List.length_map, ly]; exact sizeId
  have hzy2 : (Tryz.prog.info? 24).map (·.size) = some (idVals y).size := by rw [idVals_size, ly]; exact sizeId
  have h1y := idVals_one y
  have sy : (idVals y).size = 32 := by rw [idVals_size, ly]
  have hsl := wslice_to ga oa H cw p (by omega) hcw
  have HIY : Hid (∀ W, (Instr.indexAt 25 (.slice (some ⟨ga, oa, none⟩) H cw) (.int .i64 (p : Int))).run Tryz.prog W = .ok (.pointer (some ⟨gy, qy, none⟩)) W) := hid hiy
  have HSL := hid hsl
  have HRW := hid (hS.rw_.takeW p (by omega))
  have hS0 := climbB_length (way.take p) L lf hl
  have HC0 : Hid (∀ W, Below w.heap.size w W → Calls Tryz.prog 58 #[.int .i64 L, .agg (List.map u8v lf).toArray, .slice (some ⟨ga, oa, none⟩) p cw] W fun e w' => e = .returned (.agg (idVals (climbB L lf (way.take p)))) ∧ Below W.heap.size W w') := hid (fun W hW => by
    have h := climb_any L (by omega) lf hl (some ⟨ga, oa, none⟩) p cw (way.take p) W (HRW.out.below hW)
    rw [Int.toNat_natCast] at h
    exact h)
  rw [hgy]
  generalize climbB L lf (way.take p) = S at *
  have hzS : (Tryz.prog.info? 24).map (·.size) = some (S.map u8v).length := by rw [List.length_map, hS0]; exact sizeId
  have hzS2 : (Tryz.prog.info? 24).map (·.size) = some (idVals S).size := by rw [idVals_size, hS0]; exact sizeId
  have h1S := idVals_one S
  have sS : (idVals S).size = 32 := by rw [idVals_size, hS0]
  have cJ : ∀ (X : List UInt8) W g, RowR W (some ⟨g, 0, none⟩) 1 [X] → Calls Tryz.prog 65 #[.slice (some ⟨g, 0, none⟩) 1 1] W fun e w' => e = .returned (.string (txt X)) ∧ Below W.heap.size W w' := fun X W g h => by
    have h := wjoined_any (some ⟨g, 0, none⟩) 1 1 [X] W h (by decide)
    rw [List.flatten_cons, List.flatten_nil, List.append_nil] at h
    exact h
  have hT1 : (textB nodeN [S, y]).length ≤ 1000000000000 := textB_ids nodeN (by decide) _ (by rw [List.map_cons, List.map_cons, List.map_nil, List.sum_cons, List.sum_cons, List.sum_nil, List.length_cons, List.length_cons, List.length_nil, ly, hS0]; decide)
  have hT2 := fun W => wtext_any nodeN (by decide) (some ⟨World.heap W |>.size, 0, none⟩) 2 2 [S, y] rfl hT1 _ (rd_two W S y)
  have HT : Hid (∀ W : World, Calls Tryz.prog 64 #[.string ⟨#[110, 111, 100, 101]⟩, .slice (some ⟨W.heap.size, 0, none⟩) 2 2] (W.alloc (.cells #[.string (txt S), .string (txt y)] 9)) fun e w' => e = .returned (.string (txt (textB nodeN [S, y]))) ∧ Below (W.alloc (.cells #[.string (txt S), .string (txt y)] 9)).heap.size (W.alloc (.cells #[.string (txt S), .string (txt y)] 9)) w') := hid hT2
  clear hT1 hT2
  generalize textB nodeN [S, y] = U at *
  have c1 : ¬ q = 0 := by omega
  have c1b : ((q : Int) == 0) = false := by simpa using c1
  have c2 : ¬ (H : Int) < q := by omega
  have v1 : wrap64 ((q : Int) - 1) = (p : Int) := by rw [hq]; unfold wrap64; omega
  have v2 : IntKind.i64.wrap ((q : Int) - 1) = (p : Int) := by rw [IntKind.wrap_i64, hq]; omega
  have HS := hid hS
  have HB := hid hb0
  have HBT := hid hbit
  clear hS hS1 hn hcw hq hy hgy fy0 hiy hsl hbit hb0
  go_enter Tryz.func63, Tryz.ntmps63
  go_upto_region 5 with (fail)
  refine wp_region_held_drew (S := fun V => Below w.drew.heap.size w.drew V) (by kernel_rfl) (Below.refl _ _) (fun hHeld => ?_)
  generalize w.drew = V0 at *
  refine' wpAnyH_take (i := 0) (v := .pointer (some ⟨px, 3, none⟩)) rfl (by kernel_rfl) (by kernel_rfl) (by kernel_rfl) (fun _ _ _ h => h) (Or.inl ⟨by rfl, fun w' hw' => by go_simp⟩) hHeld ?_
  try simp only [Act.put, List.getElem_toArray, List.getElem_cons_succ, List.getElem_cons_zero, List.setIfInBounds_toArray, List.set_cons_zero, List.set_cons_succ]
  refine' wpAnyH_take (i := 1) (v := .slice (some ⟨ga, oa, none⟩) H cw) rfl (by kernel_rfl) (by kernel_rfl) (by kernel_rfl) (fun _ _ _ h => h) (Or.inl ⟨by rfl, fun w' hw' => by have hv := wi_cell hw' f3; go_simp⟩) hHeld ?_
  try simp only [Act.put, List.getElem_toArray, List.getElem_cons_succ, List.getElem_cons_zero, List.setIfInBounds_toArray, List.set_cons_zero, List.set_cons_succ]
  refine' wpAnyH_take (i := 2) (v := .int .i64 q) rfl (by kernel_rfl) (by kernel_rfl) (by kernel_rfl) (fun _ _ _ h => h) (Or.inl ⟨by rfl, fun w' hw' => by go_simp⟩) hHeld ?_
  try simp only [Act.put, List.getElem_toArray, List.getElem_cons_succ, List.getElem_cons_zero, List.setIfInBounds_toArray, List.set_cons_zero, List.set_cons_succ]
  refine' wpAnyH_take (i := 3) (v := .int .i64 p) rfl (by kernel_rfl) (by kernel_rfl) (by kernel_rfl) (fun _ _ _ h => h) (Or.inl ⟨by rfl, fun w' hw' => by go_simp⟩) hHeld ?_
  try simp only [Act.put, List.getElem_toArray, List.getElem_cons_succ, List.getElem_cons_zero, List.setIfInBounds_toArray, List.set_cons_zero, List.set_cons_succ]
  refine' wpAnyH_take (i := 4) (v := .slice (some ⟨ga, oa, none⟩) p cw) rfl (by kernel_rfl) (by kernel_rfl) (by kernel_rfl) (fun _ _ _ h => h) (Or.inl ⟨by rfl, fun w' hw' => by have hv := HSL.out w'; go_simp⟩) hHeld ?_
  try simp only [Act.put, List.getElem_toArray, List.getElem_cons_succ, List.getElem_cons_zero, List.setIfInBounds_toArray, List.set_cons_zero, List.set_cons_succ]
  refine' wpAnyH_take (i := 5) (v := .pointer (some ⟨px, 3, none⟩)) rfl (by kernel_rfl) (by kernel_rfl) (by kernel_rfl) (fun _ _ _ h => h) (Or.inl ⟨by rfl, fun w' hw' => by go_simp⟩) hHeld ?_
  try simp only [Act.put, List.getElem_toArray, List.getElem_cons_succ, List.getElem_cons_zero, List.setIfInBounds_toArray, List.set_cons_zero, List.set_cons_succ]
  refine' wpAnyH_take (i := 6) (v := .slice (some ⟨ga, oa, none⟩) H cw) rfl (by kernel_rfl) (by kernel_rfl) (by kernel_rfl) (fun _ _ _ h => h) (Or.inl ⟨by rfl, fun w' hw' => by have hv := wi_cell hw' f3; go_simp⟩) hHeld ?_
  try simp only [Act.put, List.getElem_toArray, List.getElem_cons_succ, List.getElem_cons_zero, List.setIfInBounds_toArray, List.set_cons_zero, List.set_cons_succ]
  refine' wpAnyH_take (i := 7) (v := .int .i64 q) rfl (by kernel_rfl) (by kernel_rfl) (by kernel_rfl) (fun _ _ _ h => h) (Or.inl ⟨by rfl, fun w' hw' => by go_simp⟩) hHeld ?_
  try simp only [Act.put, List.getElem_toArray, List.getElem_cons_succ, List.getElem_cons_zero, List.setIfInBounds_toArray, List.set_cons_zero, List.set_cons_succ]
  refine' wpAnyH_take (i := 8) (v := .int .i64 p) rfl (by kernel_rfl) (by kernel_rfl) (by kernel_rfl) (fun _ _ _ h => h) (Or.inl ⟨by rfl, fun w' hw' => by go_simp⟩) hHeld ?_
  try simp only [Act.put, List.getElem_toArray, List.getElem_cons_succ, List.getElem_cons_zero, List.setIfInBounds_toArray, List.set_cons_zero, List.set_cons_succ]
  refine' wpAnyH_take (i := 9) (v := .pointer (some ⟨gy, qy, none⟩)) rfl (by kernel_rfl) (by kernel_rfl) (by kernel_rfl) (fun _ _ _ h => h) (Or.inl ⟨by rfl, fun w' hw' => by have hv := HIY.out w'; go_simp⟩) hHeld ?_
  try simp only [Act.put, List.getElem_toArray, List.getElem_cons_succ, List.getElem_cons_zero, List.setIfInBounds_toArray, List.set_cons_zero, List.set_cons_succ]
  refine' wpAnyH_take (i := 10) (v := _) rfl (by kernel_rfl) (by kernel_rfl) (by kernel_rfl) (fun _ _ _ h => h) (yieldsIf_load_mid (by rfl) 24 _ rfl _ _ rfl (y.map u8v) _ (fun w' h => fy.below h) hu rfl hzy) hHeld ?_
  try simp only [Act.put, List.getElem_toArray, List.getElem_cons_succ, List.getElem_cons_zero, List.setIfInBounds_toArray, List.set_cons_zero, List.set_cons_succ]
  refine wpAnyH_ready (rs := [11]) (by kernel_rfl) (by simp) ?_
  refine AllReadyH.cons rfl (fun K hK => ?_) AllReadyH.nil
  refine wp_allocW rfl ?_
  intro g8 cs8 V8 hs8 hn8 hB8 hb8
  have n8 : V0.heap.size ≤ g8 := by have := hn8.out; have := hHeld.size; omega
  refine hK.out _ _ (hHeld.trans (hb8.mono hHeld.size)) (fun hHeld => ?_)
  clear hK K hb8 hn8
  try simp only [Act.put, List.getElem_toArray, List.getElem_cons_succ, List.getElem_cons_zero, List.setIfInBounds_toArray, List.set_cons_zero, List.set_cons_succ]
  refine' wpAnyH_take (i := 12) (v := .slice (some ⟨ga, oa, none⟩) p cw) rfl (by kernel_rfl) (by kernel_rfl) (by kernel_rfl) (fun _ _ _ h => h) (Or.inl ⟨by rfl, fun w' hw' => by go_simp⟩) hHeld ?_
  try simp only [Act.put, List.getElem_toArray, List.getElem_cons_succ, List.getElem_cons_zero, List.setIfInBounds_toArray, List.set_cons_zero, List.set_cons_succ]
  refine wpAnyH_ready (rs := [13]) (by kernel_rfl) (by simp) ?_
  refine AllReadyH.cons rfl (fun K hK => ?_) AllReadyH.nil
  refine wp_store_blk 24 _ _ rfl g8 _ (idVals y) 24 hB8 rfl rfl hzy2 (by rw [hs8, sy]) h1y ?_
  clear hB8; intro V9 hB8 hg9
  refine hK.out _ _ (hHeld.grown hg9 hHeld.size (fun z hz => by have := Option.some.inj hz; omega)) (fun hHeld => ?_)
  clear hK K hg9
  try simp only [Act.put, List.getElem_toArray, List.getElem_cons_succ, List.getElem_cons_zero, List.setIfInBounds_toArray, List.set_cons_zero, List.set_cons_succ]
  refine wpAnyH_done (by kernel_rfl) ?_ _
  replace HB := hid (HB.out.trans (hHeld.mono HB.out.size))
  replace f2 := wi_cell hHeld f2
  replace fl := fl.below hHeld
  clear f3 fy HIY HSL n8 hs8
  go_upto_region 6 with (fail)
  replace HB := hid (HB.out.trans ((below_drewW _).mono HB.out.size))
  replace f2 := wi_cell (below_drewW _) f2
  replace fl := fl.below (below_drewW _)
  have f8 := range_blk (hB8.below (below_drewW _))
  clear hHeld hB8
  go_cut [9, 10] (fun s9 s10 wx => CutW w S y s9 s10 wx)
  case first =>
    refine wp_region_held_drew (S := fun V => Below V9.drew.heap.size V9.drew V) (by kernel_rfl) (Below.refl _ _) (fun hHeld => ?_)
    generalize V9.drew = V1 at *
    have HC := hid (fun W (hW : Below V1.heap.size V1 W) => HC0.out W (HB.out.trans (hW.mono HB.out.size)))
    refine' wpAnyH_take (i := 0) (v := .pointer (some ⟨px, 0, none⟩)) rfl (by kernel_rfl) (by kernel_rfl) (by kernel_rfl) (fun _ _ _ h => h) (Or.inl ⟨by rfl, fun w' hw' => by go_simp⟩) hHeld ?_
    try simp only [Act.put, List.getElem_toArray, List.getElem_cons_succ, List.getElem_cons_zero, List.setIfInBounds_toArray, List.set_cons_zero, List.set_cons_succ]
    refine' wpAnyH_take (i := 1) (v := .int .i64 L) rfl (by kernel_rfl) (by kernel_rfl) (by kernel_rfl) (fun _ _ _ h => h) (Or.inl ⟨by rfl, fun w' hw' => by have hv := wi_cell hw' f2; go_simp⟩) hHeld ?_
    try simp only [Act.put, List.getElem_toArray, List.getElem_cons_succ, List.getElem_cons_zero, List.setIfInBounds_toArray, List.set_cons_zero, List.set_cons_succ]
    refine' wpAnyH_take (i := 2) (v := _) rfl (by kernel_rfl) (by kernel_rfl) (by kernel_rfl) (fun _ _ _ h => h) (yieldsIf_load_mid (by rfl) 24 _ rfl _ _ rfl (lf.map u8v) _ (fun w' h => fl.below h) hu rfl hzl) hHeld ?_
    try simp only [Act.put, List.getElem_toArray, List.getElem_cons_succ, List.getElem_cons_zero, List.setIfInBounds_toArray, List.set_cons_zero, List.set_cons_succ]
    refine' wpAnyH_take (i := 3) (v := .slice (some ⟨ga, oa, none⟩) p cw) rfl (by kernel_rfl) (by kernel_rfl) (by kernel_rfl) (fun _ _ _ h => h) (Or.inl ⟨by rfl, fun w' hw' => by go_simp⟩) hHeld ?_
    try simp only [Act.put, List.getElem_toArray, List.getElem_cons_succ, List.getElem_cons_zero, List.setIfInBounds_toArray, List.set_cons_zero, List.set_cons_succ]
    refine' wpAnyH_take (i := 5) (v := _) rfl (by kernel_rfl) (by kernel_rfl) (by kernel_rfl) (fun _ _ _ h => h) (yieldsIf_load_mid (by rfl) 24 _ rfl _ _ rfl (y.map u8v) _ (fun w' h => f8.below h) hu rfl hzy) hHeld ?_
    try simp only [Act.put, List.getElem_toArray, List.getElem_cons_succ, List.getElem_cons_zero, List.setIfInBounds_toArray, List.set_cons_zero, List.set_cons_succ]
    refine wpAnyH_ready (rs := [4, 6, 7]) (by kernel_rfl) (by simp) ?_
    refine AllReadyH.cons rfl (fun K hK => ?_) (AllReadyH.cons rfl (fun K hK => ?_) (AllReadyH.cons rfl (fun K hK => ?_) AllReadyH.nil))
    · as_aux_lemma =>
        go_simp
        (with_reducible refine (HC.out _ hHeld).mono ?_)
        rintro e4 V4 ⟨rfl, hb9⟩
        refine hK.out _ _ (hHeld.trans (hb9.mono hHeld.size)) (fun hHeld => ?_)
        clear hK K hb9
        try simp only [Act.put, List.getElem_toArray, List.getElem_cons_succ, List.getElem_cons_zero, List.setIfInBounds_toArray, List.set_cons_zero, List.set_cons_succ]
        refine wpAnyH_ready (rs := [6, 7]) (by kernel_rfl) (by simp) ?_
        refine AllReadyH.cons rfl (fun K hK => ?_) (AllReadyH.cons rfl (fun K hK => ?_) AllReadyH.nil)
        · as_aux_lemma =>
            refine wp_allocW rfl ?_
            intro g9 cs9 V9 hs9 hn9 hB9 hb9
            have n9 : V1.heap.size ≤ g9 := by have := hn9.out; have := hHeld.size; omega
            refine hK.out _ _ (hHeld.trans (hb9.mono hHeld.size)) (fun hHeld => ?_)
            clear hK K hb9 hn9
            try simp only [Act.put, List.getElem_toArray, List.getElem_cons_succ, List.getElem_cons_zero, List.setIfInBounds_toArray, List.set_cons_zero, List.set_cons_succ]
            refine wpAnyH_ready (rs := [7]) (by kernel_rfl) (by simp) ?_
            refine AllReadyH.cons rfl (fun K hK => ?_) AllReadyH.nil
            refine wp_allocW rfl ?_
            intro g10 cs10 V10 hs10 hn10 hB10 hb9
            have n10 : V1.heap.size ≤ g10 := by have := hn10.out; have := hHeld.size; omega
            have ne : g9 ≠ g10 := by have := hn10.out; have := hB9.lt; omega
            replace hB9 := hB9.below hb9
            refine hK.out _ _ (hHeld.trans (hb9.mono hHeld.size)) (fun hHeld => ?_)
            clear hK K hb9 hn10
            try simp only [Act.put, List.getElem_toArray, List.getElem_cons_succ, List.getElem_cons_zero, List.setIfInBounds_toArray, List.set_cons_zero, List.set_cons_succ]
            refine wpAnyH_ready (rs := [8]) (by kernel_rfl) (by simp) ?_
            refine AllReadyH.cons rfl (fun K hK => ?_) AllReadyH.nil
            refine wp_store_blk 24 _ _ rfl g9 _ (idVals S) 24 hB9 rfl rfl hzS2 (by rw [hs9, sS]) h1S ?_
            clear hB9; intro V18 hB9 hg9
            replace hB10 := wi_blk hB10 hg9 ne.symm
            refine hK.out _ _ (hHeld.grown hg9 hHeld.size (fun z hz => by have := Option.some.inj hz; omega)) (fun hHeld => ?_)
            clear hK K hg9
            try simp only [Act.put, List.getElem_toArray, List.getElem_cons_succ, List.getElem_cons_zero, List.setIfInBounds_toArray, List.set_cons_zero, List.set_cons_succ]
            refine wpAnyH_ready (rs := [9]) (by kernel_rfl) (by simp) ?_
            refine AllReadyH.cons rfl (fun K hK => ?_) AllReadyH.nil
            refine wp_store_blk 24 _ _ rfl g10 _ (idVals y) 24 hB10 rfl rfl hzy2 (by rw [hs10, sy]) h1y ?_
            clear hB10; intro V19 hB10 hg9
            replace hB9 := wi_blk hB9 hg9 ne
            refine hK.out _ _ (hHeld.grown hg9 hHeld.size (fun z hz => by have := Option.some.inj hz; omega)) (fun hHeld => ?_)
            clear hK K hg9
            try simp only [Act.put, List.getElem_toArray, List.getElem_cons_succ, List.getElem_cons_zero, List.setIfInBounds_toArray, List.set_cons_zero, List.set_cons_succ]
            refine wpAnyH_done (by kernel_rfl) ?_ _
            have HH := hid (HB.out.trans (hHeld.mono HB.out.size))
            have HW := HB.out.size
            go_wp2_with (fail)
            go_meet
            exact ⟨g9, g10, rfl, rfl, hB9, hB10, ne, by omega, by omega, HH.out⟩
        · as_aux_lemma =>
            refine wp_allocW rfl ?_
            intro g10 cs10 V10 hs10 hn10 hB10 hb9
            have n10 : V1.heap.size ≤ g10 := by have := hn10.out; have := hHeld.size; omega
            refine hK.out _ _ (hHeld.trans (hb9.mono hHeld.size)) (fun hHeld => ?_)
            clear hK K hb9 hn10
            try simp only [Act.put, List.getElem_toArray, List.getElem_cons_succ, List.getElem_cons_zero, List.setIfInBounds_toArray, List.set_cons_zero, List.set_cons_succ]
            refine wpAnyH_ready (rs := [6]) (by kernel_rfl) (by simp) ?_
            refine AllReadyH.cons rfl (fun K hK => ?_) AllReadyH.nil
            refine wp_allocW rfl ?_
            intro g9 cs9 V9 hs9 hn9 hB9 hb9
            have n9 : V1.heap.size ≤ g9 := by have := hn9.out; have := hHeld.size; omega
            have ne : g9 ≠ g10 := by have := hn9.out; have := hB10.lt; omega
            replace hB10 := hB10.below hb9
            refine hK.out _ _ (hHeld.trans (hb9.mono hHeld.size)) (fun hHeld => ?_)
            clear hK K hb9 hn9
            try simp only [Act.put, List.getElem_toArray, List.getElem_cons_succ, List.getElem_cons_zero, List.setIfInBounds_toArray, List.set_cons_zero, List.set_cons_succ]
            refine wpAnyH_ready (rs := [8]) (by kernel_rfl) (by simp) ?_
            refine AllReadyH.cons rfl (fun K hK => ?_) AllReadyH.nil
            refine wp_store_blk 24 _ _ rfl g9 _ (idVals S) 24 hB9 rfl rfl hzS2 (by rw [hs9, sS]) h1S ?_
            clear hB9; intro V18 hB9 hg9
            replace hB10 := wi_blk hB10 hg9 ne.symm
            refine hK.out _ _ (hHeld.grown hg9 hHeld.size (fun z hz => by have := Option.some.inj hz; omega)) (fun hHeld => ?_)
            clear hK K hg9
            try simp only [Act.put, List.getElem_toArray, List.getElem_cons_succ, List.getElem_cons_zero, List.setIfInBounds_toArray, List.set_cons_zero, List.set_cons_succ]
            refine wpAnyH_ready (rs := [9]) (by kernel_rfl) (by simp) ?_
            refine AllReadyH.cons rfl (fun K hK => ?_) AllReadyH.nil
            refine wp_store_blk 24 _ _ rfl g10 _ (idVals y) 24 hB10 rfl rfl hzy2 (by rw [hs10, sy]) h1y ?_
            clear hB10; intro V19 hB10 hg9
            replace hB9 := wi_blk hB9 hg9 ne
            refine hK.out _ _ (hHeld.grown hg9 hHeld.size (fun z hz => by have := Option.some.inj hz; omega)) (fun hHeld => ?_)
            clear hK K hg9
            try simp only [Act.put, List.getElem_toArray, List.getElem_cons_succ, List.getElem_cons_zero, List.setIfInBounds_toArray, List.set_cons_zero, List.set_cons_succ]
            refine wpAnyH_done (by kernel_rfl) ?_ _
            have HH := hid (HB.out.trans (hHeld.mono HB.out.size))
            have HW := HB.out.size
            go_wp2_with (fail)
            go_meet
            exact ⟨g9, g10, rfl, rfl, hB9, hB10, ne, by omega, by omega, HH.out⟩
    · as_aux_lemma =>
        refine wp_allocW rfl ?_
        intro g9 cs9 V9 hs9 hn9 hB9 hb9
        have n9 : V1.heap.size ≤ g9 := by have := hn9.out; have := hHeld.size; omega
        refine hK.out _ _ (hHeld.trans (hb9.mono hHeld.size)) (fun hHeld => ?_)
        clear hK K hb9 hn9
        try simp only [Act.put, List.getElem_toArray, List.getElem_cons_succ, List.getElem_cons_zero, List.setIfInBounds_toArray, List.set_cons_zero, List.set_cons_succ]
        refine wpAnyH_ready (rs := [4, 7]) (by kernel_rfl) (by simp) ?_
        refine AllReadyH.cons rfl (fun K hK => ?_) (AllReadyH.cons rfl (fun K hK => ?_) AllReadyH.nil)
        · as_aux_lemma =>
            go_simp
            (with_reducible refine (HC.out _ hHeld).mono ?_)
            rintro e4 V4 ⟨rfl, hb9⟩
            replace hB9 := hB9.below hb9
            refine hK.out _ _ (hHeld.trans (hb9.mono hHeld.size)) (fun hHeld => ?_)
            clear hK K hb9
            try simp only [Act.put, List.getElem_toArray, List.getElem_cons_succ, List.getElem_cons_zero, List.setIfInBounds_toArray, List.set_cons_zero, List.set_cons_succ]
            refine wpAnyH_ready (rs := [7]) (by kernel_rfl) (by simp) ?_
            refine AllReadyH.cons rfl (fun K hK => ?_) AllReadyH.nil
            refine wp_allocW rfl ?_
            intro g10 cs10 V10 hs10 hn10 hB10 hb9
            have n10 : V1.heap.size ≤ g10 := by have := hn10.out; have := hHeld.size; omega
            have ne : g9 ≠ g10 := by have := hn10.out; have := hB9.lt; omega
            replace hB9 := hB9.below hb9
            refine hK.out _ _ (hHeld.trans (hb9.mono hHeld.size)) (fun hHeld => ?_)
            clear hK K hb9 hn10
            try simp only [Act.put, List.getElem_toArray, List.getElem_cons_succ, List.getElem_cons_zero, List.setIfInBounds_toArray, List.set_cons_zero, List.set_cons_succ]
            refine wpAnyH_ready (rs := [8]) (by kernel_rfl) (by simp) ?_
            refine AllReadyH.cons rfl (fun K hK => ?_) AllReadyH.nil
            refine wp_store_blk 24 _ _ rfl g9 _ (idVals S) 24 hB9 rfl rfl hzS2 (by rw [hs9, sS]) h1S ?_
            clear hB9; intro V18 hB9 hg9
            replace hB10 := wi_blk hB10 hg9 ne.symm
            refine hK.out _ _ (hHeld.grown hg9 hHeld.size (fun z hz => by have := Option.some.inj hz; omega)) (fun hHeld => ?_)
            clear hK K hg9
            try simp only [Act.put, List.getElem_toArray, List.getElem_cons_succ, List.getElem_cons_zero, List.setIfInBounds_toArray, List.set_cons_zero, List.set_cons_succ]
            refine wpAnyH_ready (rs := [9]) (by kernel_rfl) (by simp) ?_
            refine AllReadyH.cons rfl (fun K hK => ?_) AllReadyH.nil
            refine wp_store_blk 24 _ _ rfl g10 _ (idVals y) 24 hB10 rfl rfl hzy2 (by rw [hs10, sy]) h1y ?_
            clear hB10; intro V19 hB10 hg9
            replace hB9 := wi_blk hB9 hg9 ne
            refine hK.out _ _ (hHeld.grown hg9 hHeld.size (fun z hz => by have := Option.some.inj hz; omega)) (fun hHeld => ?_)
            clear hK K hg9
            try simp only [Act.put, List.getElem_toArray, List.getElem_cons_succ, List.getElem_cons_zero, List.setIfInBounds_toArray, List.set_cons_zero, List.set_cons_succ]
            refine wpAnyH_done (by kernel_rfl) ?_ _
            have HH := hid (HB.out.trans (hHeld.mono HB.out.size))
            have HW := HB.out.size
            go_wp2_with (fail)
            go_meet
            exact ⟨g9, g10, rfl, rfl, hB9, hB10, ne, by omega, by omega, HH.out⟩
        · as_aux_lemma =>
            refine wp_allocW rfl ?_
            intro g10 cs10 V10 hs10 hn10 hB10 hb9
            have n10 : V1.heap.size ≤ g10 := by have := hn10.out; have := hHeld.size; omega
            have ne : g9 ≠ g10 := by have := hn10.out; have := hB9.lt; omega
            replace hB9 := hB9.below hb9
            refine hK.out _ _ (hHeld.trans (hb9.mono hHeld.size)) (fun hHeld => ?_)
            clear hK K hb9 hn10
            try simp only [Act.put, List.getElem_toArray, List.getElem_cons_succ, List.getElem_cons_zero, List.setIfInBounds_toArray, List.set_cons_zero, List.set_cons_succ]
            refine wpAnyH_ready (rs := [4]) (by kernel_rfl) (by simp) ?_
            refine AllReadyH.cons rfl (fun K hK => ?_) AllReadyH.nil
            go_simp
            (with_reducible refine (HC.out _ hHeld).mono ?_)
            rintro e4 V4 ⟨rfl, hb9⟩
            replace hB9 := hB9.below hb9
            replace hB10 := hB10.below hb9
            refine hK.out _ _ (hHeld.trans (hb9.mono hHeld.size)) (fun hHeld => ?_)
            clear hK K hb9
            try simp only [Act.put, List.getElem_toArray, List.getElem_cons_succ, List.getElem_cons_zero, List.setIfInBounds_toArray, List.set_cons_zero, List.set_cons_succ]
            refine wpAnyH_ready (rs := [8]) (by kernel_rfl) (by simp) ?_
            refine AllReadyH.cons rfl (fun K hK => ?_) AllReadyH.nil
            refine wp_store_blk 24 _ _ rfl g9 _ (idVals S) 24 hB9 rfl rfl hzS2 (by rw [hs9, sS]) h1S ?_
            clear hB9; intro V18 hB9 hg9
            replace hB10 := wi_blk hB10 hg9 ne.symm
            refine hK.out _ _ (hHeld.grown hg9 hHeld.size (fun z hz => by have := Option.some.inj hz; omega)) (fun hHeld => ?_)
            clear hK K hg9
            try simp only [Act.put, List.getElem_toArray, List.getElem_cons_succ, List.getElem_cons_zero, List.setIfInBounds_toArray, List.set_cons_zero, List.set_cons_succ]
            refine wpAnyH_ready (rs := [9]) (by kernel_rfl) (by simp) ?_
            refine AllReadyH.cons rfl (fun K hK => ?_) AllReadyH.nil
            refine wp_store_blk 24 _ _ rfl g10 _ (idVals y) 24 hB10 rfl rfl hzy2 (by rw [hs10, sy]) h1y ?_
            clear hB10; intro V19 hB10 hg9
            replace hB9 := wi_blk hB9 hg9 ne
            refine hK.out _ _ (hHeld.grown hg9 hHeld.size (fun z hz => by have := Option.some.inj hz; omega)) (fun hHeld => ?_)
            clear hK K hg9
            try simp only [Act.put, List.getElem_toArray, List.getElem_cons_succ, List.getElem_cons_zero, List.setIfInBounds_toArray, List.set_cons_zero, List.set_cons_succ]
            refine wpAnyH_done (by kernel_rfl) ?_ _
            have HH := hid (HB.out.trans (hHeld.mono HB.out.size))
            have HW := HB.out.size
            go_wp2_with (fail)
            go_meet
            exact ⟨g9, g10, rfl, rfl, hB9, hB10, ne, by omega, by omega, HH.out⟩
    · as_aux_lemma =>
        refine wp_allocW rfl ?_
        intro g10 cs10 V10 hs10 hn10 hB10 hb9
        have n10 : V1.heap.size ≤ g10 := by have := hn10.out; have := hHeld.size; omega
        refine hK.out _ _ (hHeld.trans (hb9.mono hHeld.size)) (fun hHeld => ?_)
        clear hK K hb9 hn10
        try simp only [Act.put, List.getElem_toArray, List.getElem_cons_succ, List.getElem_cons_zero, List.setIfInBounds_toArray, List.set_cons_zero, List.set_cons_succ]
        refine wpAnyH_ready (rs := [4, 6]) (by kernel_rfl) (by simp) ?_
        refine AllReadyH.cons rfl (fun K hK => ?_) (AllReadyH.cons rfl (fun K hK => ?_) AllReadyH.nil)
        · as_aux_lemma =>
            go_simp
            (with_reducible refine (HC.out _ hHeld).mono ?_)
            rintro e4 V4 ⟨rfl, hb9⟩
            replace hB10 := hB10.below hb9
            refine hK.out _ _ (hHeld.trans (hb9.mono hHeld.size)) (fun hHeld => ?_)
            clear hK K hb9
            try simp only [Act.put, List.getElem_toArray, List.getElem_cons_succ, List.getElem_cons_zero, List.setIfInBounds_toArray, List.set_cons_zero, List.set_cons_succ]
            refine wpAnyH_ready (rs := [6]) (by kernel_rfl) (by simp) ?_
            refine AllReadyH.cons rfl (fun K hK => ?_) AllReadyH.nil
            refine wp_allocW rfl ?_
            intro g9 cs9 V9 hs9 hn9 hB9 hb9
            have n9 : V1.heap.size ≤ g9 := by have := hn9.out; have := hHeld.size; omega
            have ne : g9 ≠ g10 := by have := hn9.out; have := hB10.lt; omega
            replace hB10 := hB10.below hb9
            refine hK.out _ _ (hHeld.trans (hb9.mono hHeld.size)) (fun hHeld => ?_)
            clear hK K hb9 hn9
            try simp only [Act.put, List.getElem_toArray, List.getElem_cons_succ, List.getElem_cons_zero, List.setIfInBounds_toArray, List.set_cons_zero, List.set_cons_succ]
            refine wpAnyH_ready (rs := [8]) (by kernel_rfl) (by simp) ?_
            refine AllReadyH.cons rfl (fun K hK => ?_) AllReadyH.nil
            refine wp_store_blk 24 _ _ rfl g9 _ (idVals S) 24 hB9 rfl rfl hzS2 (by rw [hs9, sS]) h1S ?_
            clear hB9; intro V18 hB9 hg9
            replace hB10 := wi_blk hB10 hg9 ne.symm
            refine hK.out _ _ (hHeld.grown hg9 hHeld.size (fun z hz => by have := Option.some.inj hz; omega)) (fun hHeld => ?_)
            clear hK K hg9
            try simp only [Act.put, List.getElem_toArray, List.getElem_cons_succ, List.getElem_cons_zero, List.setIfInBounds_toArray, List.set_cons_zero, List.set_cons_succ]
            refine wpAnyH_ready (rs := [9]) (by kernel_rfl) (by simp) ?_
            refine AllReadyH.cons rfl (fun K hK => ?_) AllReadyH.nil
            refine wp_store_blk 24 _ _ rfl g10 _ (idVals y) 24 hB10 rfl rfl hzy2 (by rw [hs10, sy]) h1y ?_
            clear hB10; intro V19 hB10 hg9
            replace hB9 := wi_blk hB9 hg9 ne
            refine hK.out _ _ (hHeld.grown hg9 hHeld.size (fun z hz => by have := Option.some.inj hz; omega)) (fun hHeld => ?_)
            clear hK K hg9
            try simp only [Act.put, List.getElem_toArray, List.getElem_cons_succ, List.getElem_cons_zero, List.setIfInBounds_toArray, List.set_cons_zero, List.set_cons_succ]
            refine wpAnyH_done (by kernel_rfl) ?_ _
            have HH := hid (HB.out.trans (hHeld.mono HB.out.size))
            have HW := HB.out.size
            go_wp2_with (fail)
            go_meet
            exact ⟨g9, g10, rfl, rfl, hB9, hB10, ne, by omega, by omega, HH.out⟩
        · as_aux_lemma =>
            refine wp_allocW rfl ?_
            intro g9 cs9 V9 hs9 hn9 hB9 hb9
            have n9 : V1.heap.size ≤ g9 := by have := hn9.out; have := hHeld.size; omega
            have ne : g9 ≠ g10 := by have := hn9.out; have := hB10.lt; omega
            replace hB10 := hB10.below hb9
            refine hK.out _ _ (hHeld.trans (hb9.mono hHeld.size)) (fun hHeld => ?_)
            clear hK K hb9 hn9
            try simp only [Act.put, List.getElem_toArray, List.getElem_cons_succ, List.getElem_cons_zero, List.setIfInBounds_toArray, List.set_cons_zero, List.set_cons_succ]
            refine wpAnyH_ready (rs := [4]) (by kernel_rfl) (by simp) ?_
            refine AllReadyH.cons rfl (fun K hK => ?_) AllReadyH.nil
            go_simp
            (with_reducible refine (HC.out _ hHeld).mono ?_)
            rintro e4 V4 ⟨rfl, hb9⟩
            replace hB10 := hB10.below hb9
            replace hB9 := hB9.below hb9
            refine hK.out _ _ (hHeld.trans (hb9.mono hHeld.size)) (fun hHeld => ?_)
            clear hK K hb9
            try simp only [Act.put, List.getElem_toArray, List.getElem_cons_succ, List.getElem_cons_zero, List.setIfInBounds_toArray, List.set_cons_zero, List.set_cons_succ]
            refine wpAnyH_ready (rs := [8]) (by kernel_rfl) (by simp) ?_
            refine AllReadyH.cons rfl (fun K hK => ?_) AllReadyH.nil
            refine wp_store_blk 24 _ _ rfl g9 _ (idVals S) 24 hB9 rfl rfl hzS2 (by rw [hs9, sS]) h1S ?_
            clear hB9; intro V18 hB9 hg9
            replace hB10 := wi_blk hB10 hg9 ne.symm
            refine hK.out _ _ (hHeld.grown hg9 hHeld.size (fun z hz => by have := Option.some.inj hz; omega)) (fun hHeld => ?_)
            clear hK K hg9
            try simp only [Act.put, List.getElem_toArray, List.getElem_cons_succ, List.getElem_cons_zero, List.setIfInBounds_toArray, List.set_cons_zero, List.set_cons_succ]
            refine wpAnyH_ready (rs := [9]) (by kernel_rfl) (by simp) ?_
            refine AllReadyH.cons rfl (fun K hK => ?_) AllReadyH.nil
            refine wp_store_blk 24 _ _ rfl g10 _ (idVals y) 24 hB10 rfl rfl hzy2 (by rw [hs10, sy]) h1y ?_
            clear hB10; intro V19 hB10 hg9
            replace hB9 := wi_blk hB9 hg9 ne
            refine hK.out _ _ (hHeld.grown hg9 hHeld.size (fun z hz => by have := Option.some.inj hz; omega)) (fun hHeld => ?_)
            clear hK K hg9
            try simp only [Act.put, List.getElem_toArray, List.getElem_cons_succ, List.getElem_cons_zero, List.setIfInBounds_toArray, List.set_cons_zero, List.set_cons_succ]
            refine wpAnyH_done (by kernel_rfl) ?_ _
            have HH := hid (HB.out.trans (hHeld.mono HB.out.size))
            have HW := HB.out.size
            go_wp2_with (fail)
            go_meet
            exact ⟨g9, g10, rfl, rfl, hB9, hB10, ne, by omega, by omega, HH.out⟩
  case rest =>
    obtain ⟨g9, g10, rfl, rfl, hB9, hB10, ne, m9, m10, hbx⟩ := hcut
    clear f8 fl f2 HC0
    have f2 := wi_cell hbx HS.out.l0
    have bitF := wbit_no hL (by omega) HBT.out
    go_upto_region 9 with (fail)
    have hb1 := hbx.trans ((below_drewW _).mono hbx.size)
    have fa := range_blk (hB9.below (below_drewW _))
    have fb := range_blk (hB10.below (below_drewW _))
    clear hB9 hB10 f2 HBT bitF HS
    refine wp_region_held_drew (S := fun V => Below wc.drew.heap.size wc.drew V) (by kernel_rfl) (Below.refl _ _) (fun hHeld => ?_)
    generalize wc.drew = V2 at *
    refine' wpAnyH_take (i := 0) (v := _) rfl (by kernel_rfl) (by kernel_rfl) (by kernel_rfl) (fun _ _ _ h => h) (yieldsIf_load_mid (by rfl) 24 _ rfl _ _ rfl (S.map u8v) _ (fun w' h => fa.below h) hu rfl hzS) hHeld ?_
    try simp only [Act.put, List.getElem_toArray, List.getElem_cons_succ, List.getElem_cons_zero, List.setIfInBounds_toArray, List.set_cons_zero, List.set_cons_succ]
    refine' wpAnyH_take (i := 3) (v := _) rfl (by kernel_rfl) (by kernel_rfl) (by kernel_rfl) (fun _ _ _ h => h) (yieldsIf_load_mid (by rfl) 24 _ rfl _ _ rfl (y.map u8v) _ (fun w' h => fb.below h) hu rfl hzy) hHeld ?_
    try simp only [Act.put, List.getElem_toArray, List.getElem_cons_succ, List.getElem_cons_zero, List.setIfInBounds_toArray, List.set_cons_zero, List.set_cons_succ]
    refine wpAnyH_ready (rs := [1, 4]) (by kernel_rfl) (by simp) ?_
    refine AllReadyH.cons rfl (fun K hK => ?_) (AllReadyH.cons rfl (fun K hK => ?_) AllReadyH.nil)
    · as_aux_lemma =>
        refine wp_build1v _ rfl S hS0 rfl ?_
        intro g11 V11 hrA hb9
        refine hK.out _ _ (hHeld.trans (hb9.mono hHeld.size)) (fun hHeld => ?_)
        clear hK K hb9
        try simp only [Act.put, List.getElem_toArray, List.getElem_cons_succ, List.getElem_cons_zero, List.setIfInBounds_toArray, List.set_cons_zero, List.set_cons_succ]
        refine wpAnyH_ready (rs := [2, 4]) (by kernel_rfl) (by simp) ?_
        refine AllReadyH.cons rfl (fun K hK => ?_) (AllReadyH.cons rfl (fun K hK => ?_) AllReadyH.nil)
        · as_aux_lemma =>
            go_simp
            (with_reducible refine (cJ _ _ _ hrA).mono ?_)
            rintro e2 V22 ⟨rfl, hb9⟩
            clear hrA
            refine hK.out _ _ (hHeld.trans (hb9.mono hHeld.size)) (fun hHeld => ?_)
            clear hK K hb9
            try simp only [Act.put, List.getElem_toArray, List.getElem_cons_succ, List.getElem_cons_zero, List.setIfInBounds_toArray, List.set_cons_zero, List.set_cons_succ]
            refine wpAnyH_ready (rs := [4]) (by kernel_rfl) (by simp) ?_
            refine AllReadyH.cons rfl (fun K hK => ?_) AllReadyH.nil
            refine wp_build1v _ rfl y ly rfl ?_
            intro g14 V14 hrB hb9
            refine hK.out _ _ (hHeld.trans (hb9.mono hHeld.size)) (fun hHeld => ?_)
            clear hK K hb9
            try simp only [Act.put, List.getElem_toArray, List.getElem_cons_succ, List.getElem_cons_zero, List.setIfInBounds_toArray, List.set_cons_zero, List.set_cons_succ]
            refine wpAnyH_ready (rs := [5]) (by kernel_rfl) (by simp) ?_
            refine AllReadyH.cons rfl (fun K hK => ?_) AllReadyH.nil
            go_simp
            (with_reducible refine (cJ _ _ _ hrB).mono ?_)
            rintro e5 V25 ⟨rfl, hb9⟩
            clear hrB
            have cT := HT.out V25
            refine hK.out _ _ (hHeld.trans (hb9.mono hHeld.size)) (fun hHeld => ?_)
            clear hK K hb9
            try simp only [Act.put, List.getElem_toArray, List.getElem_cons_succ, List.getElem_cons_zero, List.setIfInBounds_toArray, List.set_cons_zero, List.set_cons_succ]
            refine wpAnyH_ready (rs := [6]) (by kernel_rfl) (by simp) ?_
            refine AllReadyH.cons rfl (fun K hK => ?_) AllReadyH.nil
            go_simp
            refine hK.out _ _ (hHeld.alloc hHeld.size _) (fun hHeld => ?_)
            clear hK K
            try simp only [Act.put, List.getElem_toArray, List.getElem_cons_succ, List.getElem_cons_zero, List.setIfInBounds_toArray, List.set_cons_zero, List.set_cons_succ]
            refine wpAnyH_ready (rs := [7]) (by kernel_rfl) (by simp) ?_
            refine AllReadyH.cons rfl (fun K hK => ?_) AllReadyH.nil
            go_simp
            (with_reducible refine cT.mono ?_)
            rintro e7 V7 ⟨rfl, hb9⟩
            refine hK.out _ _ (hHeld.trans (hb9.mono hHeld.size)) (fun hHeld => ?_)
            clear hK K hb9 cT
            try simp only [Act.put, List.getElem_toArray, List.getElem_cons_succ, List.getElem_cons_zero, List.setIfInBounds_toArray, List.set_cons_zero, List.set_cons_succ]
            refine' wpAnyH_take (i := 8) (v := .string (txt U)) rfl (by kernel_rfl) (by kernel_rfl) (by kernel_rfl) (fun _ _ _ h => h) (Or.inl ⟨by rfl, fun w' hw' => by go_simp⟩) hHeld ?_
            try simp only [Act.put, List.getElem_toArray, List.getElem_cons_succ, List.getElem_cons_zero, List.setIfInBounds_toArray, List.set_cons_zero, List.set_cons_succ]
            refine wpAnyH_done (by kernel_rfl) ?_ _
            have hb9 := hb1.trans (hHeld.mono hb1.size)
            go_wp2_with (fail)
            go_ret
            exact ⟨rfl, hb9⟩
        · as_aux_lemma =>
            refine wp_build1v _ rfl y ly rfl ?_
            intro g14 V14 hrB hb9
            replace hrA := hrA.below hb9
            refine hK.out _ _ (hHeld.trans (hb9.mono hHeld.size)) (fun hHeld => ?_)
            clear hK K hb9
            try simp only [Act.put, List.getElem_toArray, List.getElem_cons_succ, List.getElem_cons_zero, List.setIfInBounds_toArray, List.set_cons_zero, List.set_cons_succ]
            refine wpAnyH_ready (rs := [2]) (by kernel_rfl) (by simp) ?_
            refine AllReadyH.cons rfl (fun K hK => ?_) AllReadyH.nil
            go_simp
            (with_reducible refine (cJ _ _ _ hrA).mono ?_)
            rintro e2 V22 ⟨rfl, hb9⟩
            clear hrA
            replace hrB := hrB.below hb9
            refine hK.out _ _ (hHeld.trans (hb9.mono hHeld.size)) (fun hHeld => ?_)
            clear hK K hb9
            try simp only [Act.put, List.getElem_toArray, List.getElem_cons_succ, List.getElem_cons_zero, List.setIfInBounds_toArray, List.set_cons_zero, List.set_cons_succ]
            refine wpAnyH_ready (rs := [5]) (by kernel_rfl) (by simp) ?_
            refine AllReadyH.cons rfl (fun K hK => ?_) AllReadyH.nil
            go_simp
            (with_reducible refine (cJ _ _ _ hrB).mono ?_)
            rintro e5 V25 ⟨rfl, hb9⟩
            clear hrB
            have cT := HT.out V25
            refine hK.out _ _ (hHeld.trans (hb9.mono hHeld.size)) (fun hHeld => ?_)
            clear hK K hb9
            try simp only [Act.put, List.getElem_toArray, List.getElem_cons_succ, List.getElem_cons_zero, List.setIfInBounds_toArray, List.set_cons_zero, List.set_cons_succ]
            refine wpAnyH_ready (rs := [6]) (by kernel_rfl) (by simp) ?_
            refine AllReadyH.cons rfl (fun K hK => ?_) AllReadyH.nil
            go_simp
            refine hK.out _ _ (hHeld.alloc hHeld.size _) (fun hHeld => ?_)
            clear hK K
            try simp only [Act.put, List.getElem_toArray, List.getElem_cons_succ, List.getElem_cons_zero, List.setIfInBounds_toArray, List.set_cons_zero, List.set_cons_succ]
            refine wpAnyH_ready (rs := [7]) (by kernel_rfl) (by simp) ?_
            refine AllReadyH.cons rfl (fun K hK => ?_) AllReadyH.nil
            go_simp
            (with_reducible refine cT.mono ?_)
            rintro e7 V7 ⟨rfl, hb9⟩
            refine hK.out _ _ (hHeld.trans (hb9.mono hHeld.size)) (fun hHeld => ?_)
            clear hK K hb9 cT
            try simp only [Act.put, List.getElem_toArray, List.getElem_cons_succ, List.getElem_cons_zero, List.setIfInBounds_toArray, List.set_cons_zero, List.set_cons_succ]
            refine' wpAnyH_take (i := 8) (v := .string (txt U)) rfl (by kernel_rfl) (by kernel_rfl) (by kernel_rfl) (fun _ _ _ h => h) (Or.inl ⟨by rfl, fun w' hw' => by go_simp⟩) hHeld ?_
            try simp only [Act.put, List.getElem_toArray, List.getElem_cons_succ, List.getElem_cons_zero, List.setIfInBounds_toArray, List.set_cons_zero, List.set_cons_succ]
            refine wpAnyH_done (by kernel_rfl) ?_ _
            have hb9 := hb1.trans (hHeld.mono hb1.size)
            go_wp2_with (fail)
            go_ret
            exact ⟨rfl, hb9⟩
    · as_aux_lemma =>
        refine wp_build1v _ rfl y ly rfl ?_
        intro g14 V14 hrB hb9
        refine hK.out _ _ (hHeld.trans (hb9.mono hHeld.size)) (fun hHeld => ?_)
        clear hK K hb9
        try simp only [Act.put, List.getElem_toArray, List.getElem_cons_succ, List.getElem_cons_zero, List.setIfInBounds_toArray, List.set_cons_zero, List.set_cons_succ]
        refine wpAnyH_ready (rs := [1]) (by kernel_rfl) (by simp) ?_
        refine AllReadyH.cons rfl (fun K hK => ?_) AllReadyH.nil
        refine wp_build1v _ rfl S hS0 rfl ?_
        intro g11 V11 hrA hb9
        replace hrB := hrB.below hb9
        refine hK.out _ _ (hHeld.trans (hb9.mono hHeld.size)) (fun hHeld => ?_)
        clear hK K hb9
        try simp only [Act.put, List.getElem_toArray, List.getElem_cons_succ, List.getElem_cons_zero, List.setIfInBounds_toArray, List.set_cons_zero, List.set_cons_succ]
        refine wpAnyH_ready (rs := [2]) (by kernel_rfl) (by simp) ?_
        refine AllReadyH.cons rfl (fun K hK => ?_) AllReadyH.nil
        go_simp
        (with_reducible refine (cJ _ _ _ hrA).mono ?_)
        rintro e2 V22 ⟨rfl, hb9⟩
        clear hrA
        replace hrB := hrB.below hb9
        refine hK.out _ _ (hHeld.trans (hb9.mono hHeld.size)) (fun hHeld => ?_)
        clear hK K hb9
        try simp only [Act.put, List.getElem_toArray, List.getElem_cons_succ, List.getElem_cons_zero, List.setIfInBounds_toArray, List.set_cons_zero, List.set_cons_succ]
        refine wpAnyH_ready (rs := [5]) (by kernel_rfl) (by simp) ?_
        refine AllReadyH.cons rfl (fun K hK => ?_) AllReadyH.nil
        go_simp
        (with_reducible refine (cJ _ _ _ hrB).mono ?_)
        rintro e5 V25 ⟨rfl, hb9⟩
        clear hrB
        have cT := HT.out V25
        refine hK.out _ _ (hHeld.trans (hb9.mono hHeld.size)) (fun hHeld => ?_)
        clear hK K hb9
        try simp only [Act.put, List.getElem_toArray, List.getElem_cons_succ, List.getElem_cons_zero, List.setIfInBounds_toArray, List.set_cons_zero, List.set_cons_succ]
        refine wpAnyH_ready (rs := [6]) (by kernel_rfl) (by simp) ?_
        refine AllReadyH.cons rfl (fun K hK => ?_) AllReadyH.nil
        go_simp
        refine hK.out _ _ (hHeld.alloc hHeld.size _) (fun hHeld => ?_)
        clear hK K
        try simp only [Act.put, List.getElem_toArray, List.getElem_cons_succ, List.getElem_cons_zero, List.setIfInBounds_toArray, List.set_cons_zero, List.set_cons_succ]
        refine wpAnyH_ready (rs := [7]) (by kernel_rfl) (by simp) ?_
        refine AllReadyH.cons rfl (fun K hK => ?_) AllReadyH.nil
        go_simp
        (with_reducible refine cT.mono ?_)
        rintro e7 V7 ⟨rfl, hb9⟩
        refine hK.out _ _ (hHeld.trans (hb9.mono hHeld.size)) (fun hHeld => ?_)
        clear hK K hb9 cT
        try simp only [Act.put, List.getElem_toArray, List.getElem_cons_succ, List.getElem_cons_zero, List.setIfInBounds_toArray, List.set_cons_zero, List.set_cons_succ]
        refine' wpAnyH_take (i := 8) (v := .string (txt U)) rfl (by kernel_rfl) (by kernel_rfl) (by kernel_rfl) (fun _ _ _ h => h) (Or.inl ⟨by rfl, fun w' hw' => by go_simp⟩) hHeld ?_
        try simp only [Act.put, List.getElem_toArray, List.getElem_cons_succ, List.getElem_cons_zero, List.setIfInBounds_toArray, List.set_cons_zero, List.set_cons_succ]
        refine wpAnyH_done (by kernel_rfl) ?_ _
        have hb9 := hb1.trans (hHeld.mono hb1.size)
        go_wp2_with (fail)
        go_ret
        exact ⟨rfl, hb9⟩

set_option maxRecDepth 100000 in
set_option maxHeartbeats 20000000 in
theorem texts1_right (pb pp px pl : Nat) (Ap : Option Addr) (cp : Nat) (Aw : Option Addr) (cw n H L : Nat) (pubs : List (List UInt8)) (lf : List UInt8) (way : List (List UInt8)) (hn : n ≤ 256) (hH : H ≤ 5) (hL : L < 32) (hl : lf.length = 32) (hcw : H ≤ cw) (p q : Nat) (hq : q = p + 1) (hp : p < H) (hbit : (L / 2 ^ p) % 2 = 1) (w : World) (hS : TxS w pb pp px pl Ap cp Aw cw n H L pubs lf way) :
    Calls Tryz.prog 63 #[.int .i64 q, .pointer (some ⟨pb, 0, none⟩), .pointer (some ⟨pp, 0, none⟩), .pointer (some ⟨px, 0, none⟩), .pointer (some ⟨pl, 0, none⟩)] w fun e w' => e = .returned (.string (txt (textB nodeN [getB way p, climbB L lf (way.take p)]))) ∧ Below w.heap.size w w' := by
  have hu := Tryz.underlying24
  have hzl : (Tryz.prog.info? 24).map (·.size) = some (lf.map u8v).length := by rw [List.length_map, hl]; exact sizeId
  obtain ⟨ga, oa, rfl⟩ := hS.rw_.some_ (by omega)
  obtain ⟨y, hy⟩ : ∃ y, way[p]? = some y := ⟨_, List.getElem?_eq_getElem (by have := hS.rw_.1; omega)⟩
  obtain ⟨gy, qy, fy0, ly, hiy⟩ := hS.rw_.2.2.pick cw hS.rw_.1 hy
  have hgy : getB way p = y := getB_some hy
  have hb0 := below_drewW w
  have hS1 := hS.below hb0
  have k1 := hS.h1
  have f2 := hS1.l0
  have f3 := hS1.l3
  have fl := hS1.lf_
  have fy := fy0.below hb0
  have hzy : (Tryz.prog.info? 24).map (·.size) = some (y.map u8v).length := by rw [List.length_map, ly]; exact sizeId
  have hzy2 : (Tryz.prog.info? 24).map (·.size) = some (idVals y).size := by rw [idVals_size, ly]; exact sizeId
  have h1y := idVals_one y
  have sy : (idVals y).size = 32 := by rw [idVals_size, ly]
  have hsl := wslice_to ga oa H cw p (by omega) hcw
  have HIY : Hid (∀ W, (Instr.indexAt 25 (.slice (some ⟨ga, oa, none⟩) H cw) (.int .i64 (p : Int))).run Tryz.prog W = .ok (.pointer (some ⟨gy, qy, none⟩)) W) := hid hiy
  have HSL := hid hsl
  have HRW := hid (hS.rw_.takeW p (by omega))
  have hS0 := climbB_length (way.take p) L lf hl
  have HC0 : Hid (∀ W, Below w.heap.size w W → Calls Tryz.prog 58 #[.int .i64 L, .agg (List.map u8v lf).toArray, .slice (some ⟨ga, oa, none⟩) p cw] W fun e w' => e = .returned (.agg (idVals (climbB L lf (way.take p)))) ∧ Below W.heap.size W w') := hid (fun W hW => by
    have h := climb_any L (by omega) lf hl (some ⟨ga, oa, none⟩) p cw (way.take p) W (HRW.out.below hW)
    rw [Int.toNat_natCast] at h
    exact h)
  rw [hgy]
  generalize climbB L lf (way.take p) = S at *
  have hzS : (Tryz.prog.info? 24).map (·.size) = some (S.map u8v).length := by rw [List.length_map, hS0]; exact sizeId
  have hzS2 : (Tryz.prog.info? 24).map (·.size) = some (idVals S).size := by rw [idVals_size, hS0]; exact sizeId
  have h1S := idVals_one S
  have sS : (idVals S).size = 32 := by rw [idVals_size, hS0]
  have cJ : ∀ (X : List UInt8) W g, RowR W (some ⟨g, 0, none⟩) 1 [X] → Calls Tryz.prog 65 #[.slice (some ⟨g, 0, none⟩) 1 1] W fun e w' => e = .returned (.string (txt X)) ∧ Below W.heap.size W w' := fun X W g h => by
    have h := wjoined_any (some ⟨g, 0, none⟩) 1 1 [X] W h (by decide)
    rw [List.flatten_cons, List.flatten_nil, List.append_nil] at h
    exact h
  have hT1 : (textB nodeN [y, S]).length ≤ 1000000000000 := textB_ids nodeN (by decide) _ (by rw [List.map_cons, List.map_cons, List.map_nil, List.sum_cons, List.sum_cons, List.sum_nil, List.length_cons, List.length_cons, List.length_nil, ly, hS0]; decide)
  have hT2 := fun W => wtext_any nodeN (by decide) (some ⟨World.heap W |>.size, 0, none⟩) 2 2 [y, S] rfl hT1 _ (rd_two W y S)
  have HT : Hid (∀ W : World, Calls Tryz.prog 64 #[.string ⟨#[110, 111, 100, 101]⟩, .slice (some ⟨W.heap.size, 0, none⟩) 2 2] (W.alloc (.cells #[.string (txt y), .string (txt S)] 9)) fun e w' => e = .returned (.string (txt (textB nodeN [y, S]))) ∧ Below (W.alloc (.cells #[.string (txt y), .string (txt S)] 9)).heap.size (W.alloc (.cells #[.string (txt y), .string (txt S)] 9)) w') := hid hT2
  clear hT1 hT2
  generalize textB nodeN [y, S] = U at *
  have c1 : ¬ q = 0 := by omega
  have c1b : ((q : Int) == 0) = false := by simpa using c1
  have c2 : ¬ (H : Int) < q := by omega
  have v1 : wrap64 ((q : Int) - 1) = (p : Int) := by rw [hq]; unfold wrap64; omega
  have v2 : IntKind.i64.wrap ((q : Int) - 1) = (p : Int) := by rw [IntKind.wrap_i64, hq]; omega
  have HS := hid hS
  have HB := hid hb0
  have HBT := hid hbit
  clear hS hS1 hn hcw hq hy hgy fy0 hiy hsl hbit hb0
  go_enter Tryz.func63, Tryz.ntmps63
  go_upto_region 5 with (fail)
  refine wp_region_held_drew (S := fun V => Below w.drew.heap.size w.drew V) (by kernel_rfl) (Below.refl _ _) (fun hHeld => ?_)
  generalize w.drew = V0 at *
  refine' wpAnyH_take (i := 0) (v := .pointer (some ⟨px, 3, none⟩)) rfl (by kernel_rfl) (by kernel_rfl) (by kernel_rfl) (fun _ _ _ h => h) (Or.inl ⟨by rfl, fun w' hw' => by go_simp⟩) hHeld ?_
  try simp only [Act.put, List.getElem_toArray, List.getElem_cons_succ, List.getElem_cons_zero, List.setIfInBounds_toArray, List.set_cons_zero, List.set_cons_succ]
  refine' wpAnyH_take (i := 1) (v := .slice (some ⟨ga, oa, none⟩) H cw) rfl (by kernel_rfl) (by kernel_rfl) (by kernel_rfl) (fun _ _ _ h => h) (Or.inl ⟨by rfl, fun w' hw' => by have hv := wi_cell hw' f3; go_simp⟩) hHeld ?_
  try simp only [Act.put, List.getElem_toArray, List.getElem_cons_succ, List.getElem_cons_zero, List.setIfInBounds_toArray, List.set_cons_zero, List.set_cons_succ]
  refine' wpAnyH_take (i := 2) (v := .int .i64 q) rfl (by kernel_rfl) (by kernel_rfl) (by kernel_rfl) (fun _ _ _ h => h) (Or.inl ⟨by rfl, fun w' hw' => by go_simp⟩) hHeld ?_
  try simp only [Act.put, List.getElem_toArray, List.getElem_cons_succ, List.getElem_cons_zero, List.setIfInBounds_toArray, List.set_cons_zero, List.set_cons_succ]
  refine' wpAnyH_take (i := 3) (v := .int .i64 p) rfl (by kernel_rfl) (by kernel_rfl) (by kernel_rfl) (fun _ _ _ h => h) (Or.inl ⟨by rfl, fun w' hw' => by go_simp⟩) hHeld ?_
  try simp only [Act.put, List.getElem_toArray, List.getElem_cons_succ, List.getElem_cons_zero, List.setIfInBounds_toArray, List.set_cons_zero, List.set_cons_succ]
  refine' wpAnyH_take (i := 4) (v := .slice (some ⟨ga, oa, none⟩) p cw) rfl (by kernel_rfl) (by kernel_rfl) (by kernel_rfl) (fun _ _ _ h => h) (Or.inl ⟨by rfl, fun w' hw' => by have hv := HSL.out w'; go_simp⟩) hHeld ?_
  try simp only [Act.put, List.getElem_toArray, List.getElem_cons_succ, List.getElem_cons_zero, List.setIfInBounds_toArray, List.set_cons_zero, List.set_cons_succ]
  refine' wpAnyH_take (i := 5) (v := .pointer (some ⟨px, 3, none⟩)) rfl (by kernel_rfl) (by kernel_rfl) (by kernel_rfl) (fun _ _ _ h => h) (Or.inl ⟨by rfl, fun w' hw' => by go_simp⟩) hHeld ?_
  try simp only [Act.put, List.getElem_toArray, List.getElem_cons_succ, List.getElem_cons_zero, List.setIfInBounds_toArray, List.set_cons_zero, List.set_cons_succ]
  refine' wpAnyH_take (i := 6) (v := .slice (some ⟨ga, oa, none⟩) H cw) rfl (by kernel_rfl) (by kernel_rfl) (by kernel_rfl) (fun _ _ _ h => h) (Or.inl ⟨by rfl, fun w' hw' => by have hv := wi_cell hw' f3; go_simp⟩) hHeld ?_
  try simp only [Act.put, List.getElem_toArray, List.getElem_cons_succ, List.getElem_cons_zero, List.setIfInBounds_toArray, List.set_cons_zero, List.set_cons_succ]
  refine' wpAnyH_take (i := 7) (v := .int .i64 q) rfl (by kernel_rfl) (by kernel_rfl) (by kernel_rfl) (fun _ _ _ h => h) (Or.inl ⟨by rfl, fun w' hw' => by go_simp⟩) hHeld ?_
  try simp only [Act.put, List.getElem_toArray, List.getElem_cons_succ, List.getElem_cons_zero, List.setIfInBounds_toArray, List.set_cons_zero, List.set_cons_succ]
  refine' wpAnyH_take (i := 8) (v := .int .i64 p) rfl (by kernel_rfl) (by kernel_rfl) (by kernel_rfl) (fun _ _ _ h => h) (Or.inl ⟨by rfl, fun w' hw' => by go_simp⟩) hHeld ?_
  try simp only [Act.put, List.getElem_toArray, List.getElem_cons_succ, List.getElem_cons_zero, List.setIfInBounds_toArray, List.set_cons_zero, List.set_cons_succ]
  refine' wpAnyH_take (i := 9) (v := .pointer (some ⟨gy, qy, none⟩)) rfl (by kernel_rfl) (by kernel_rfl) (by kernel_rfl) (fun _ _ _ h => h) (Or.inl ⟨by rfl, fun w' hw' => by have hv := HIY.out w'; go_simp⟩) hHeld ?_
  try simp only [Act.put, List.getElem_toArray, List.getElem_cons_succ, List.getElem_cons_zero, List.setIfInBounds_toArray, List.set_cons_zero, List.set_cons_succ]
  refine' wpAnyH_take (i := 10) (v := _) rfl (by kernel_rfl) (by kernel_rfl) (by kernel_rfl) (fun _ _ _ h => h) (yieldsIf_load_mid (by rfl) 24 _ rfl _ _ rfl (y.map u8v) _ (fun w' h => fy.below h) hu rfl hzy) hHeld ?_
  try simp only [Act.put, List.getElem_toArray, List.getElem_cons_succ, List.getElem_cons_zero, List.setIfInBounds_toArray, List.set_cons_zero, List.set_cons_succ]
  refine wpAnyH_ready (rs := [11]) (by kernel_rfl) (by simp) ?_
  refine AllReadyH.cons rfl (fun K hK => ?_) AllReadyH.nil
  refine wp_allocW rfl ?_
  intro g8 cs8 V8 hs8 hn8 hB8 hb8
  have n8 : V0.heap.size ≤ g8 := by have := hn8.out; have := hHeld.size; omega
  refine hK.out _ _ (hHeld.trans (hb8.mono hHeld.size)) (fun hHeld => ?_)
  clear hK K hb8 hn8
  try simp only [Act.put, List.getElem_toArray, List.getElem_cons_succ, List.getElem_cons_zero, List.setIfInBounds_toArray, List.set_cons_zero, List.set_cons_succ]
  refine' wpAnyH_take (i := 12) (v := .slice (some ⟨ga, oa, none⟩) p cw) rfl (by kernel_rfl) (by kernel_rfl) (by kernel_rfl) (fun _ _ _ h => h) (Or.inl ⟨by rfl, fun w' hw' => by go_simp⟩) hHeld ?_
  try simp only [Act.put, List.getElem_toArray, List.getElem_cons_succ, List.getElem_cons_zero, List.setIfInBounds_toArray, List.set_cons_zero, List.set_cons_succ]
  refine wpAnyH_ready (rs := [13]) (by kernel_rfl) (by simp) ?_
  refine AllReadyH.cons rfl (fun K hK => ?_) AllReadyH.nil
  refine wp_store_blk 24 _ _ rfl g8 _ (idVals y) 24 hB8 rfl rfl hzy2 (by rw [hs8, sy]) h1y ?_
  clear hB8; intro V9 hB8 hg9
  refine hK.out _ _ (hHeld.grown hg9 hHeld.size (fun z hz => by have := Option.some.inj hz; omega)) (fun hHeld => ?_)
  clear hK K hg9
  try simp only [Act.put, List.getElem_toArray, List.getElem_cons_succ, List.getElem_cons_zero, List.setIfInBounds_toArray, List.set_cons_zero, List.set_cons_succ]
  refine wpAnyH_done (by kernel_rfl) ?_ _
  replace HB := hid (HB.out.trans (hHeld.mono HB.out.size))
  replace f2 := wi_cell hHeld f2
  replace fl := fl.below hHeld
  clear f3 fy HIY HSL n8 hs8
  go_upto_region 6 with (fail)
  replace HB := hid (HB.out.trans ((below_drewW _).mono HB.out.size))
  replace f2 := wi_cell (below_drewW _) f2
  replace fl := fl.below (below_drewW _)
  have f8 := range_blk (hB8.below (below_drewW _))
  clear hHeld hB8
  go_cut [9, 10] (fun s9 s10 wx => CutW w S y s9 s10 wx)
  case first =>
    refine wp_region_held_drew (S := fun V => Below V9.drew.heap.size V9.drew V) (by kernel_rfl) (Below.refl _ _) (fun hHeld => ?_)
    generalize V9.drew = V1 at *
    have HC := hid (fun W (hW : Below V1.heap.size V1 W) => HC0.out W (HB.out.trans (hW.mono HB.out.size)))
    refine' wpAnyH_take (i := 0) (v := .pointer (some ⟨px, 0, none⟩)) rfl (by kernel_rfl) (by kernel_rfl) (by kernel_rfl) (fun _ _ _ h => h) (Or.inl ⟨by rfl, fun w' hw' => by go_simp⟩) hHeld ?_
    try simp only [Act.put, List.getElem_toArray, List.getElem_cons_succ, List.getElem_cons_zero, List.setIfInBounds_toArray, List.set_cons_zero, List.set_cons_succ]
    refine' wpAnyH_take (i := 1) (v := .int .i64 L) rfl (by kernel_rfl) (by kernel_rfl) (by kernel_rfl) (fun _ _ _ h => h) (Or.inl ⟨by rfl, fun w' hw' => by have hv := wi_cell hw' f2; go_simp⟩) hHeld ?_
    try simp only [Act.put, List.getElem_toArray, List.getElem_cons_succ, List.getElem_cons_zero, List.setIfInBounds_toArray, List.set_cons_zero, List.set_cons_succ]
    refine' wpAnyH_take (i := 2) (v := _) rfl (by kernel_rfl) (by kernel_rfl) (by kernel_rfl) (fun _ _ _ h => h) (yieldsIf_load_mid (by rfl) 24 _ rfl _ _ rfl (lf.map u8v) _ (fun w' h => fl.below h) hu rfl hzl) hHeld ?_
    try simp only [Act.put, List.getElem_toArray, List.getElem_cons_succ, List.getElem_cons_zero, List.setIfInBounds_toArray, List.set_cons_zero, List.set_cons_succ]
    refine' wpAnyH_take (i := 3) (v := .slice (some ⟨ga, oa, none⟩) p cw) rfl (by kernel_rfl) (by kernel_rfl) (by kernel_rfl) (fun _ _ _ h => h) (Or.inl ⟨by rfl, fun w' hw' => by go_simp⟩) hHeld ?_
    try simp only [Act.put, List.getElem_toArray, List.getElem_cons_succ, List.getElem_cons_zero, List.setIfInBounds_toArray, List.set_cons_zero, List.set_cons_succ]
    refine' wpAnyH_take (i := 5) (v := _) rfl (by kernel_rfl) (by kernel_rfl) (by kernel_rfl) (fun _ _ _ h => h) (yieldsIf_load_mid (by rfl) 24 _ rfl _ _ rfl (y.map u8v) _ (fun w' h => f8.below h) hu rfl hzy) hHeld ?_
    try simp only [Act.put, List.getElem_toArray, List.getElem_cons_succ, List.getElem_cons_zero, List.setIfInBounds_toArray, List.set_cons_zero, List.set_cons_succ]
    refine wpAnyH_ready (rs := [4, 6, 7]) (by kernel_rfl) (by simp) ?_
    refine AllReadyH.cons rfl (fun K hK => ?_) (AllReadyH.cons rfl (fun K hK => ?_) (AllReadyH.cons rfl (fun K hK => ?_) AllReadyH.nil))
    · as_aux_lemma =>
        go_simp
        (with_reducible refine (HC.out _ hHeld).mono ?_)
        rintro e4 V4 ⟨rfl, hb9⟩
        refine hK.out _ _ (hHeld.trans (hb9.mono hHeld.size)) (fun hHeld => ?_)
        clear hK K hb9
        try simp only [Act.put, List.getElem_toArray, List.getElem_cons_succ, List.getElem_cons_zero, List.setIfInBounds_toArray, List.set_cons_zero, List.set_cons_succ]
        refine wpAnyH_ready (rs := [6, 7]) (by kernel_rfl) (by simp) ?_
        refine AllReadyH.cons rfl (fun K hK => ?_) (AllReadyH.cons rfl (fun K hK => ?_) AllReadyH.nil)
        · as_aux_lemma =>
            refine wp_allocW rfl ?_
            intro g9 cs9 V9 hs9 hn9 hB9 hb9
            have n9 : V1.heap.size ≤ g9 := by have := hn9.out; have := hHeld.size; omega
            refine hK.out _ _ (hHeld.trans (hb9.mono hHeld.size)) (fun hHeld => ?_)
            clear hK K hb9 hn9
            try simp only [Act.put, List.getElem_toArray, List.getElem_cons_succ, List.getElem_cons_zero, List.setIfInBounds_toArray, List.set_cons_zero, List.set_cons_succ]
            refine wpAnyH_ready (rs := [7]) (by kernel_rfl) (by simp) ?_
            refine AllReadyH.cons rfl (fun K hK => ?_) AllReadyH.nil
            refine wp_allocW rfl ?_
            intro g10 cs10 V10 hs10 hn10 hB10 hb9
            have n10 : V1.heap.size ≤ g10 := by have := hn10.out; have := hHeld.size; omega
            have ne : g9 ≠ g10 := by have := hn10.out; have := hB9.lt; omega
            replace hB9 := hB9.below hb9
            refine hK.out _ _ (hHeld.trans (hb9.mono hHeld.size)) (fun hHeld => ?_)
            clear hK K hb9 hn10
            try simp only [Act.put, List.getElem_toArray, List.getElem_cons_succ, List.getElem_cons_zero, List.setIfInBounds_toArray, List.set_cons_zero, List.set_cons_succ]
            refine wpAnyH_ready (rs := [8]) (by kernel_rfl) (by simp) ?_
            refine AllReadyH.cons rfl (fun K hK => ?_) AllReadyH.nil
            refine wp_store_blk 24 _ _ rfl g9 _ (idVals S) 24 hB9 rfl rfl hzS2 (by rw [hs9, sS]) h1S ?_
            clear hB9; intro V18 hB9 hg9
            replace hB10 := wi_blk hB10 hg9 ne.symm
            refine hK.out _ _ (hHeld.grown hg9 hHeld.size (fun z hz => by have := Option.some.inj hz; omega)) (fun hHeld => ?_)
            clear hK K hg9
            try simp only [Act.put, List.getElem_toArray, List.getElem_cons_succ, List.getElem_cons_zero, List.setIfInBounds_toArray, List.set_cons_zero, List.set_cons_succ]
            refine wpAnyH_ready (rs := [9]) (by kernel_rfl) (by simp) ?_
            refine AllReadyH.cons rfl (fun K hK => ?_) AllReadyH.nil
            refine wp_store_blk 24 _ _ rfl g10 _ (idVals y) 24 hB10 rfl rfl hzy2 (by rw [hs10, sy]) h1y ?_
            clear hB10; intro V19 hB10 hg9
            replace hB9 := wi_blk hB9 hg9 ne
            refine hK.out _ _ (hHeld.grown hg9 hHeld.size (fun z hz => by have := Option.some.inj hz; omega)) (fun hHeld => ?_)
            clear hK K hg9
            try simp only [Act.put, List.getElem_toArray, List.getElem_cons_succ, List.getElem_cons_zero, List.setIfInBounds_toArray, List.set_cons_zero, List.set_cons_succ]
            refine wpAnyH_done (by kernel_rfl) ?_ _
            have HH := hid (HB.out.trans (hHeld.mono HB.out.size))
            have HW := HB.out.size
            go_wp2_with (fail)
            go_meet
            exact ⟨g9, g10, rfl, rfl, hB9, hB10, ne, by omega, by omega, HH.out⟩
        · as_aux_lemma =>
            refine wp_allocW rfl ?_
            intro g10 cs10 V10 hs10 hn10 hB10 hb9
            have n10 : V1.heap.size ≤ g10 := by have := hn10.out; have := hHeld.size; omega
            refine hK.out _ _ (hHeld.trans (hb9.mono hHeld.size)) (fun hHeld => ?_)
            clear hK K hb9 hn10
            try simp only [Act.put, List.getElem_toArray, List.getElem_cons_succ, List.getElem_cons_zero, List.setIfInBounds_toArray, List.set_cons_zero, List.set_cons_succ]
            refine wpAnyH_ready (rs := [6]) (by kernel_rfl) (by simp) ?_
            refine AllReadyH.cons rfl (fun K hK => ?_) AllReadyH.nil
            refine wp_allocW rfl ?_
            intro g9 cs9 V9 hs9 hn9 hB9 hb9
            have n9 : V1.heap.size ≤ g9 := by have := hn9.out; have := hHeld.size; omega
            have ne : g9 ≠ g10 := by have := hn9.out; have := hB10.lt; omega
            replace hB10 := hB10.below hb9
            refine hK.out _ _ (hHeld.trans (hb9.mono hHeld.size)) (fun hHeld => ?_)
            clear hK K hb9 hn9
            try simp only [Act.put, List.getElem_toArray, List.getElem_cons_succ, List.getElem_cons_zero, List.setIfInBounds_toArray, List.set_cons_zero, List.set_cons_succ]
            refine wpAnyH_ready (rs := [8]) (by kernel_rfl) (by simp) ?_
            refine AllReadyH.cons rfl (fun K hK => ?_) AllReadyH.nil
            refine wp_store_blk 24 _ _ rfl g9 _ (idVals S) 24 hB9 rfl rfl hzS2 (by rw [hs9, sS]) h1S ?_
            clear hB9; intro V18 hB9 hg9
            replace hB10 := wi_blk hB10 hg9 ne.symm
            refine hK.out _ _ (hHeld.grown hg9 hHeld.size (fun z hz => by have := Option.some.inj hz; omega)) (fun hHeld => ?_)
            clear hK K hg9
            try simp only [Act.put, List.getElem_toArray, List.getElem_cons_succ, List.getElem_cons_zero, List.setIfInBounds_toArray, List.set_cons_zero, List.set_cons_succ]
            refine wpAnyH_ready (rs := [9]) (by kernel_rfl) (by simp) ?_
            refine AllReadyH.cons rfl (fun K hK => ?_) AllReadyH.nil
            refine wp_store_blk 24 _ _ rfl g10 _ (idVals y) 24 hB10 rfl rfl hzy2 (by rw [hs10, sy]) h1y ?_
            clear hB10; intro V19 hB10 hg9
            replace hB9 := wi_blk hB9 hg9 ne
            refine hK.out _ _ (hHeld.grown hg9 hHeld.size (fun z hz => by have := Option.some.inj hz; omega)) (fun hHeld => ?_)
            clear hK K hg9
            try simp only [Act.put, List.getElem_toArray, List.getElem_cons_succ, List.getElem_cons_zero, List.setIfInBounds_toArray, List.set_cons_zero, List.set_cons_succ]
            refine wpAnyH_done (by kernel_rfl) ?_ _
            have HH := hid (HB.out.trans (hHeld.mono HB.out.size))
            have HW := HB.out.size
            go_wp2_with (fail)
            go_meet
            exact ⟨g9, g10, rfl, rfl, hB9, hB10, ne, by omega, by omega, HH.out⟩
    · as_aux_lemma =>
        refine wp_allocW rfl ?_
        intro g9 cs9 V9 hs9 hn9 hB9 hb9
        have n9 : V1.heap.size ≤ g9 := by have := hn9.out; have := hHeld.size; omega
        refine hK.out _ _ (hHeld.trans (hb9.mono hHeld.size)) (fun hHeld => ?_)
        clear hK K hb9 hn9
        try simp only [Act.put, List.getElem_toArray, List.getElem_cons_succ, List.getElem_cons_zero, List.setIfInBounds_toArray, List.set_cons_zero, List.set_cons_succ]
        refine wpAnyH_ready (rs := [4, 7]) (by kernel_rfl) (by simp) ?_
        refine AllReadyH.cons rfl (fun K hK => ?_) (AllReadyH.cons rfl (fun K hK => ?_) AllReadyH.nil)
        · as_aux_lemma =>
            go_simp
            (with_reducible refine (HC.out _ hHeld).mono ?_)
            rintro e4 V4 ⟨rfl, hb9⟩
            replace hB9 := hB9.below hb9
            refine hK.out _ _ (hHeld.trans (hb9.mono hHeld.size)) (fun hHeld => ?_)
            clear hK K hb9
            try simp only [Act.put, List.getElem_toArray, List.getElem_cons_succ, List.getElem_cons_zero, List.setIfInBounds_toArray, List.set_cons_zero, List.set_cons_succ]
            refine wpAnyH_ready (rs := [7]) (by kernel_rfl) (by simp) ?_
            refine AllReadyH.cons rfl (fun K hK => ?_) AllReadyH.nil
            refine wp_allocW rfl ?_
            intro g10 cs10 V10 hs10 hn10 hB10 hb9
            have n10 : V1.heap.size ≤ g10 := by have := hn10.out; have := hHeld.size; omega
            have ne : g9 ≠ g10 := by have := hn10.out; have := hB9.lt; omega
            replace hB9 := hB9.below hb9
            refine hK.out _ _ (hHeld.trans (hb9.mono hHeld.size)) (fun hHeld => ?_)
            clear hK K hb9 hn10
            try simp only [Act.put, List.getElem_toArray, List.getElem_cons_succ, List.getElem_cons_zero, List.setIfInBounds_toArray, List.set_cons_zero, List.set_cons_succ]
            refine wpAnyH_ready (rs := [8]) (by kernel_rfl) (by simp) ?_
            refine AllReadyH.cons rfl (fun K hK => ?_) AllReadyH.nil
            refine wp_store_blk 24 _ _ rfl g9 _ (idVals S) 24 hB9 rfl rfl hzS2 (by rw [hs9, sS]) h1S ?_
            clear hB9; intro V18 hB9 hg9
            replace hB10 := wi_blk hB10 hg9 ne.symm
            refine hK.out _ _ (hHeld.grown hg9 hHeld.size (fun z hz => by have := Option.some.inj hz; omega)) (fun hHeld => ?_)
            clear hK K hg9
            try simp only [Act.put, List.getElem_toArray, List.getElem_cons_succ, List.getElem_cons_zero, List.setIfInBounds_toArray, List.set_cons_zero, List.set_cons_succ]
            refine wpAnyH_ready (rs := [9]) (by kernel_rfl) (by simp) ?_
            refine AllReadyH.cons rfl (fun K hK => ?_) AllReadyH.nil
            refine wp_store_blk 24 _ _ rfl g10 _ (idVals y) 24 hB10 rfl rfl hzy2 (by rw [hs10, sy]) h1y ?_
            clear hB10; intro V19 hB10 hg9
            replace hB9 := wi_blk hB9 hg9 ne
            refine hK.out _ _ (hHeld.grown hg9 hHeld.size (fun z hz => by have := Option.some.inj hz; omega)) (fun hHeld => ?_)
            clear hK K hg9
            try simp only [Act.put, List.getElem_toArray, List.getElem_cons_succ, List.getElem_cons_zero, List.setIfInBounds_toArray, List.set_cons_zero, List.set_cons_succ]
            refine wpAnyH_done (by kernel_rfl) ?_ _
            have HH := hid (HB.out.trans (hHeld.mono HB.out.size))
            have HW := HB.out.size
            go_wp2_with (fail)
            go_meet
            exact ⟨g9, g10, rfl, rfl, hB9, hB10, ne, by omega, by omega, HH.out⟩
        · as_aux_lemma =>
            refine wp_allocW rfl ?_
            intro g10 cs10 V10 hs10 hn10 hB10 hb9
            have n10 : V1.heap.size ≤ g10 := by have := hn10.out; have := hHeld.size; omega
            have ne : g9 ≠ g10 := by have := hn10.out; have := hB9.lt; omega
            replace hB9 := hB9.below hb9
            refine hK.out _ _ (hHeld.trans (hb9.mono hHeld.size)) (fun hHeld => ?_)
            clear hK K hb9 hn10
            try simp only [Act.put, List.getElem_toArray, List.getElem_cons_succ, List.getElem_cons_zero, List.setIfInBounds_toArray, List.set_cons_zero, List.set_cons_succ]
            refine wpAnyH_ready (rs := [4]) (by kernel_rfl) (by simp) ?_
            refine AllReadyH.cons rfl (fun K hK => ?_) AllReadyH.nil
            go_simp
            (with_reducible refine (HC.out _ hHeld).mono ?_)
            rintro e4 V4 ⟨rfl, hb9⟩
            replace hB9 := hB9.below hb9
            replace hB10 := hB10.below hb9
            refine hK.out _ _ (hHeld.trans (hb9.mono hHeld.size)) (fun hHeld => ?_)
            clear hK K hb9
            try simp only [Act.put, List.getElem_toArray, List.getElem_cons_succ, List.getElem_cons_zero, List.setIfInBounds_toArray, List.set_cons_zero, List.set_cons_succ]
            refine wpAnyH_ready (rs := [8]) (by kernel_rfl) (by simp) ?_
            refine AllReadyH.cons rfl (fun K hK => ?_) AllReadyH.nil
            refine wp_store_blk 24 _ _ rfl g9 _ (idVals S) 24 hB9 rfl rfl hzS2 (by rw [hs9, sS]) h1S ?_
            clear hB9; intro V18 hB9 hg9
            replace hB10 := wi_blk hB10 hg9 ne.symm
            refine hK.out _ _ (hHeld.grown hg9 hHeld.size (fun z hz => by have := Option.some.inj hz; omega)) (fun hHeld => ?_)
            clear hK K hg9
            try simp only [Act.put, List.getElem_toArray, List.getElem_cons_succ, List.getElem_cons_zero, List.setIfInBounds_toArray, List.set_cons_zero, List.set_cons_succ]
            refine wpAnyH_ready (rs := [9]) (by kernel_rfl) (by simp) ?_
            refine AllReadyH.cons rfl (fun K hK => ?_) AllReadyH.nil
            refine wp_store_blk 24 _ _ rfl g10 _ (idVals y) 24 hB10 rfl rfl hzy2 (by rw [hs10, sy]) h1y ?_
            clear hB10; intro V19 hB10 hg9
            replace hB9 := wi_blk hB9 hg9 ne
            refine hK.out _ _ (hHeld.grown hg9 hHeld.size (fun z hz => by have := Option.some.inj hz; omega)) (fun hHeld => ?_)
            clear hK K hg9
            try simp only [Act.put, List.getElem_toArray, List.getElem_cons_succ, List.getElem_cons_zero, List.setIfInBounds_toArray, List.set_cons_zero, List.set_cons_succ]
            refine wpAnyH_done (by kernel_rfl) ?_ _
            have HH := hid (HB.out.trans (hHeld.mono HB.out.size))
            have HW := HB.out.size
            go_wp2_with (fail)
            go_meet
            exact ⟨g9, g10, rfl, rfl, hB9, hB10, ne, by omega, by omega, HH.out⟩
    · as_aux_lemma =>
        refine wp_allocW rfl ?_
        intro g10 cs10 V10 hs10 hn10 hB10 hb9
        have n10 : V1.heap.size ≤ g10 := by have := hn10.out; have := hHeld.size; omega
        refine hK.out _ _ (hHeld.trans (hb9.mono hHeld.size)) (fun hHeld => ?_)
        clear hK K hb9 hn10
        try simp only [Act.put, List.getElem_toArray, List.getElem_cons_succ, List.getElem_cons_zero, List.setIfInBounds_toArray, List.set_cons_zero, List.set_cons_succ]
        refine wpAnyH_ready (rs := [4, 6]) (by kernel_rfl) (by simp) ?_
        refine AllReadyH.cons rfl (fun K hK => ?_) (AllReadyH.cons rfl (fun K hK => ?_) AllReadyH.nil)
        · as_aux_lemma =>
            go_simp
            (with_reducible refine (HC.out _ hHeld).mono ?_)
            rintro e4 V4 ⟨rfl, hb9⟩
            replace hB10 := hB10.below hb9
            refine hK.out _ _ (hHeld.trans (hb9.mono hHeld.size)) (fun hHeld => ?_)
            clear hK K hb9
            try simp only [Act.put, List.getElem_toArray, List.getElem_cons_succ, List.getElem_cons_zero, List.setIfInBounds_toArray, List.set_cons_zero, List.set_cons_succ]
            refine wpAnyH_ready (rs := [6]) (by kernel_rfl) (by simp) ?_
            refine AllReadyH.cons rfl (fun K hK => ?_) AllReadyH.nil
            refine wp_allocW rfl ?_
            intro g9 cs9 V9 hs9 hn9 hB9 hb9
            have n9 : V1.heap.size ≤ g9 := by have := hn9.out; have := hHeld.size; omega
            have ne : g9 ≠ g10 := by have := hn9.out; have := hB10.lt; omega
            replace hB10 := hB10.below hb9
            refine hK.out _ _ (hHeld.trans (hb9.mono hHeld.size)) (fun hHeld => ?_)
            clear hK K hb9 hn9
            try simp only [Act.put, List.getElem_toArray, List.getElem_cons_succ, List.getElem_cons_zero, List.setIfInBounds_toArray, List.set_cons_zero, List.set_cons_succ]
            refine wpAnyH_ready (rs := [8]) (by kernel_rfl) (by simp) ?_
            refine AllReadyH.cons rfl (fun K hK => ?_) AllReadyH.nil
            refine wp_store_blk 24 _ _ rfl g9 _ (idVals S) 24 hB9 rfl rfl hzS2 (by rw [hs9, sS]) h1S ?_
            clear hB9; intro V18 hB9 hg9
            replace hB10 := wi_blk hB10 hg9 ne.symm
            refine hK.out _ _ (hHeld.grown hg9 hHeld.size (fun z hz => by have := Option.some.inj hz; omega)) (fun hHeld => ?_)
            clear hK K hg9
            try simp only [Act.put, List.getElem_toArray, List.getElem_cons_succ, List.getElem_cons_zero, List.setIfInBounds_toArray, List.set_cons_zero, List.set_cons_succ]
            refine wpAnyH_ready (rs := [9]) (by kernel_rfl) (by simp) ?_
            refine AllReadyH.cons rfl (fun K hK => ?_) AllReadyH.nil
            refine wp_store_blk 24 _ _ rfl g10 _ (idVals y) 24 hB10 rfl rfl hzy2 (by rw [hs10, sy]) h1y ?_
            clear hB10; intro V19 hB10 hg9
            replace hB9 := wi_blk hB9 hg9 ne
            refine hK.out _ _ (hHeld.grown hg9 hHeld.size (fun z hz => by have := Option.some.inj hz; omega)) (fun hHeld => ?_)
            clear hK K hg9
            try simp only [Act.put, List.getElem_toArray, List.getElem_cons_succ, List.getElem_cons_zero, List.setIfInBounds_toArray, List.set_cons_zero, List.set_cons_succ]
            refine wpAnyH_done (by kernel_rfl) ?_ _
            have HH := hid (HB.out.trans (hHeld.mono HB.out.size))
            have HW := HB.out.size
            go_wp2_with (fail)
            go_meet
            exact ⟨g9, g10, rfl, rfl, hB9, hB10, ne, by omega, by omega, HH.out⟩
        · as_aux_lemma =>
            refine wp_allocW rfl ?_
            intro g9 cs9 V9 hs9 hn9 hB9 hb9
            have n9 : V1.heap.size ≤ g9 := by have := hn9.out; have := hHeld.size; omega
            have ne : g9 ≠ g10 := by have := hn9.out; have := hB10.lt; omega
            replace hB10 := hB10.below hb9
            refine hK.out _ _ (hHeld.trans (hb9.mono hHeld.size)) (fun hHeld => ?_)
            clear hK K hb9 hn9
            try simp only [Act.put, List.getElem_toArray, List.getElem_cons_succ, List.getElem_cons_zero, List.setIfInBounds_toArray, List.set_cons_zero, List.set_cons_succ]
            refine wpAnyH_ready (rs := [4]) (by kernel_rfl) (by simp) ?_
            refine AllReadyH.cons rfl (fun K hK => ?_) AllReadyH.nil
            go_simp
            (with_reducible refine (HC.out _ hHeld).mono ?_)
            rintro e4 V4 ⟨rfl, hb9⟩
            replace hB10 := hB10.below hb9
            replace hB9 := hB9.below hb9
            refine hK.out _ _ (hHeld.trans (hb9.mono hHeld.size)) (fun hHeld => ?_)
            clear hK K hb9
            try simp only [Act.put, List.getElem_toArray, List.getElem_cons_succ, List.getElem_cons_zero, List.setIfInBounds_toArray, List.set_cons_zero, List.set_cons_succ]
            refine wpAnyH_ready (rs := [8]) (by kernel_rfl) (by simp) ?_
            refine AllReadyH.cons rfl (fun K hK => ?_) AllReadyH.nil
            refine wp_store_blk 24 _ _ rfl g9 _ (idVals S) 24 hB9 rfl rfl hzS2 (by rw [hs9, sS]) h1S ?_
            clear hB9; intro V18 hB9 hg9
            replace hB10 := wi_blk hB10 hg9 ne.symm
            refine hK.out _ _ (hHeld.grown hg9 hHeld.size (fun z hz => by have := Option.some.inj hz; omega)) (fun hHeld => ?_)
            clear hK K hg9
            try simp only [Act.put, List.getElem_toArray, List.getElem_cons_succ, List.getElem_cons_zero, List.setIfInBounds_toArray, List.set_cons_zero, List.set_cons_succ]
            refine wpAnyH_ready (rs := [9]) (by kernel_rfl) (by simp) ?_
            refine AllReadyH.cons rfl (fun K hK => ?_) AllReadyH.nil
            refine wp_store_blk 24 _ _ rfl g10 _ (idVals y) 24 hB10 rfl rfl hzy2 (by rw [hs10, sy]) h1y ?_
            clear hB10; intro V19 hB10 hg9
            replace hB9 := wi_blk hB9 hg9 ne
            refine hK.out _ _ (hHeld.grown hg9 hHeld.size (fun z hz => by have := Option.some.inj hz; omega)) (fun hHeld => ?_)
            clear hK K hg9
            try simp only [Act.put, List.getElem_toArray, List.getElem_cons_succ, List.getElem_cons_zero, List.setIfInBounds_toArray, List.set_cons_zero, List.set_cons_succ]
            refine wpAnyH_done (by kernel_rfl) ?_ _
            have HH := hid (HB.out.trans (hHeld.mono HB.out.size))
            have HW := HB.out.size
            go_wp2_with (fail)
            go_meet
            exact ⟨g9, g10, rfl, rfl, hB9, hB10, ne, by omega, by omega, HH.out⟩
  case rest =>
    obtain ⟨g9, g10, rfl, rfl, hB9, hB10, ne, m9, m10, hbx⟩ := hcut
    clear f8 fl f2 HC0
    have f2 := wi_cell hbx HS.out.l0
    have bitF := wbit_yes hL (by omega) HBT.out
    have fr9 := range_blk hB9
    have fr10 := range_blk hB10
    go_upto_region 9 with (first
      | (with_reducible refine wpList_load_if (by with_unfolding_all rfl) 24 _ rfl _ _ rfl (S.map u8v) _ fr9 hu rfl hzS ?_)
      | (with_reducible refine wpList_load_if (by with_unfolding_all rfl) 24 _ rfl _ _ rfl (y.map u8v) _ fr10 hu rfl hzy ?_)
      | ((with_reducible refine wpList_store_blk rfl 24 _ _ rfl g9 (idVals S) (idVals y) 24 hB9 rfl rfl hzy2 (sS.trans sy.symm) h1y ?_); intro w9 hC9 hg9; have hC10 := wi_blk hB10 hg9 ne.symm)
      | ((with_reducible refine wpList_store_blk rfl 24 _ _ rfl g10 (idVals y) (idVals S) 24 hC10 rfl rfl hzS2 (sy.trans sS.symm) h1S ?_); intro w10 hD10 hg10))
    have hD9 := wi_blk hC9 hg10 ne
    replace hbx := (hbx.grown hg9 hbx.size (fun z hz => by have := Option.some.inj hz; omega)).grown hg10 (Nat.le_trans hbx.size hg9.size) (fun z hz => by have := Option.some.inj hz; omega)
    clear hB9 hB10 fr9 fr10 hC9 hC10 hg9 hg10
    have hB9 := hD9
    have hB10 := hD10
    clear hD9 hD10
    have hb1 := hbx.trans ((below_drewW _).mono hbx.size)
    have fa := range_blk (hB9.below (below_drewW _))
    have fb := range_blk (hB10.below (below_drewW _))
    clear hB9 hB10 f2 HBT bitF HS
    refine wp_region_held_drew (S := fun V => Below w10.drew.heap.size w10.drew V) (by kernel_rfl) (Below.refl _ _) (fun hHeld => ?_)
    generalize w10.drew = V2 at *
    refine' wpAnyH_take (i := 0) (v := _) rfl (by kernel_rfl) (by kernel_rfl) (by kernel_rfl) (fun _ _ _ h => h) (yieldsIf_load_mid (by rfl) 24 _ rfl _ _ rfl (y.map u8v) _ (fun w' h => fa.below h) hu rfl hzy) hHeld ?_
    try simp only [Act.put, List.getElem_toArray, List.getElem_cons_succ, List.getElem_cons_zero, List.setIfInBounds_toArray, List.set_cons_zero, List.set_cons_succ]
    refine' wpAnyH_take (i := 3) (v := _) rfl (by kernel_rfl) (by kernel_rfl) (by kernel_rfl) (fun _ _ _ h => h) (yieldsIf_load_mid (by rfl) 24 _ rfl _ _ rfl (S.map u8v) _ (fun w' h => fb.below h) hu rfl hzS) hHeld ?_
    try simp only [Act.put, List.getElem_toArray, List.getElem_cons_succ, List.getElem_cons_zero, List.setIfInBounds_toArray, List.set_cons_zero, List.set_cons_succ]
    refine wpAnyH_ready (rs := [1, 4]) (by kernel_rfl) (by simp) ?_
    refine AllReadyH.cons rfl (fun K hK => ?_) (AllReadyH.cons rfl (fun K hK => ?_) AllReadyH.nil)
    · as_aux_lemma =>
        refine wp_build1v _ rfl y ly rfl ?_
        intro g11 V11 hrA hb9
        refine hK.out _ _ (hHeld.trans (hb9.mono hHeld.size)) (fun hHeld => ?_)
        clear hK K hb9
        try simp only [Act.put, List.getElem_toArray, List.getElem_cons_succ, List.getElem_cons_zero, List.setIfInBounds_toArray, List.set_cons_zero, List.set_cons_succ]
        refine wpAnyH_ready (rs := [2, 4]) (by kernel_rfl) (by simp) ?_
        refine AllReadyH.cons rfl (fun K hK => ?_) (AllReadyH.cons rfl (fun K hK => ?_) AllReadyH.nil)
        · as_aux_lemma =>
            go_simp
            (with_reducible refine (cJ _ _ _ hrA).mono ?_)
            rintro e2 V22 ⟨rfl, hb9⟩
            clear hrA
            refine hK.out _ _ (hHeld.trans (hb9.mono hHeld.size)) (fun hHeld => ?_)
            clear hK K hb9
            try simp only [Act.put, List.getElem_toArray, List.getElem_cons_succ, List.getElem_cons_zero, List.setIfInBounds_toArray, List.set_cons_zero, List.set_cons_succ]
            refine wpAnyH_ready (rs := [4]) (by kernel_rfl) (by simp) ?_
            refine AllReadyH.cons rfl (fun K hK => ?_) AllReadyH.nil
            refine wp_build1v _ rfl S hS0 rfl ?_
            intro g14 V14 hrB hb9
            refine hK.out _ _ (hHeld.trans (hb9.mono hHeld.size)) (fun hHeld => ?_)
            clear hK K hb9
            try simp only [Act.put, List.getElem_toArray, List.getElem_cons_succ, List.getElem_cons_zero, List.setIfInBounds_toArray, List.set_cons_zero, List.set_cons_succ]
            refine wpAnyH_ready (rs := [5]) (by kernel_rfl) (by simp) ?_
            refine AllReadyH.cons rfl (fun K hK => ?_) AllReadyH.nil
            go_simp
            (with_reducible refine (cJ _ _ _ hrB).mono ?_)
            rintro e5 V25 ⟨rfl, hb9⟩
            clear hrB
            have cT := HT.out V25
            refine hK.out _ _ (hHeld.trans (hb9.mono hHeld.size)) (fun hHeld => ?_)
            clear hK K hb9
            try simp only [Act.put, List.getElem_toArray, List.getElem_cons_succ, List.getElem_cons_zero, List.setIfInBounds_toArray, List.set_cons_zero, List.set_cons_succ]
            refine wpAnyH_ready (rs := [6]) (by kernel_rfl) (by simp) ?_
            refine AllReadyH.cons rfl (fun K hK => ?_) AllReadyH.nil
            go_simp
            refine hK.out _ _ (hHeld.alloc hHeld.size _) (fun hHeld => ?_)
            clear hK K
            try simp only [Act.put, List.getElem_toArray, List.getElem_cons_succ, List.getElem_cons_zero, List.setIfInBounds_toArray, List.set_cons_zero, List.set_cons_succ]
            refine wpAnyH_ready (rs := [7]) (by kernel_rfl) (by simp) ?_
            refine AllReadyH.cons rfl (fun K hK => ?_) AllReadyH.nil
            go_simp
            (with_reducible refine cT.mono ?_)
            rintro e7 V7 ⟨rfl, hb9⟩
            refine hK.out _ _ (hHeld.trans (hb9.mono hHeld.size)) (fun hHeld => ?_)
            clear hK K hb9 cT
            try simp only [Act.put, List.getElem_toArray, List.getElem_cons_succ, List.getElem_cons_zero, List.setIfInBounds_toArray, List.set_cons_zero, List.set_cons_succ]
            refine' wpAnyH_take (i := 8) (v := .string (txt U)) rfl (by kernel_rfl) (by kernel_rfl) (by kernel_rfl) (fun _ _ _ h => h) (Or.inl ⟨by rfl, fun w' hw' => by go_simp⟩) hHeld ?_
            try simp only [Act.put, List.getElem_toArray, List.getElem_cons_succ, List.getElem_cons_zero, List.setIfInBounds_toArray, List.set_cons_zero, List.set_cons_succ]
            refine wpAnyH_done (by kernel_rfl) ?_ _
            have hb9 := hb1.trans (hHeld.mono hb1.size)
            go_wp2_with (fail)
            go_ret
            exact ⟨rfl, hb9⟩
        · as_aux_lemma =>
            refine wp_build1v _ rfl S hS0 rfl ?_
            intro g14 V14 hrB hb9
            replace hrA := hrA.below hb9
            refine hK.out _ _ (hHeld.trans (hb9.mono hHeld.size)) (fun hHeld => ?_)
            clear hK K hb9
            try simp only [Act.put, List.getElem_toArray, List.getElem_cons_succ, List.getElem_cons_zero, List.setIfInBounds_toArray, List.set_cons_zero, List.set_cons_succ]
            refine wpAnyH_ready (rs := [2]) (by kernel_rfl) (by simp) ?_
            refine AllReadyH.cons rfl (fun K hK => ?_) AllReadyH.nil
            go_simp
            (with_reducible refine (cJ _ _ _ hrA).mono ?_)
            rintro e2 V22 ⟨rfl, hb9⟩
            clear hrA
            replace hrB := hrB.below hb9
            refine hK.out _ _ (hHeld.trans (hb9.mono hHeld.size)) (fun hHeld => ?_)
            clear hK K hb9
            try simp only [Act.put, List.getElem_toArray, List.getElem_cons_succ, List.getElem_cons_zero, List.setIfInBounds_toArray, List.set_cons_zero, List.set_cons_succ]
            refine wpAnyH_ready (rs := [5]) (by kernel_rfl) (by simp) ?_
            refine AllReadyH.cons rfl (fun K hK => ?_) AllReadyH.nil
            go_simp
            (with_reducible refine (cJ _ _ _ hrB).mono ?_)
            rintro e5 V25 ⟨rfl, hb9⟩
            clear hrB
            have cT := HT.out V25
            refine hK.out _ _ (hHeld.trans (hb9.mono hHeld.size)) (fun hHeld => ?_)
            clear hK K hb9
            try simp only [Act.put, List.getElem_toArray, List.getElem_cons_succ, List.getElem_cons_zero, List.setIfInBounds_toArray, List.set_cons_zero, List.set_cons_succ]
            refine wpAnyH_ready (rs := [6]) (by kernel_rfl) (by simp) ?_
            refine AllReadyH.cons rfl (fun K hK => ?_) AllReadyH.nil
            go_simp
            refine hK.out _ _ (hHeld.alloc hHeld.size _) (fun hHeld => ?_)
            clear hK K
            try simp only [Act.put, List.getElem_toArray, List.getElem_cons_succ, List.getElem_cons_zero, List.setIfInBounds_toArray, List.set_cons_zero, List.set_cons_succ]
            refine wpAnyH_ready (rs := [7]) (by kernel_rfl) (by simp) ?_
            refine AllReadyH.cons rfl (fun K hK => ?_) AllReadyH.nil
            go_simp
            (with_reducible refine cT.mono ?_)
            rintro e7 V7 ⟨rfl, hb9⟩
            refine hK.out _ _ (hHeld.trans (hb9.mono hHeld.size)) (fun hHeld => ?_)
            clear hK K hb9 cT
            try simp only [Act.put, List.getElem_toArray, List.getElem_cons_succ, List.getElem_cons_zero, List.setIfInBounds_toArray, List.set_cons_zero, List.set_cons_succ]
            refine' wpAnyH_take (i := 8) (v := .string (txt U)) rfl (by kernel_rfl) (by kernel_rfl) (by kernel_rfl) (fun _ _ _ h => h) (Or.inl ⟨by rfl, fun w' hw' => by go_simp⟩) hHeld ?_
            try simp only [Act.put, List.getElem_toArray, List.getElem_cons_succ, List.getElem_cons_zero, List.setIfInBounds_toArray, List.set_cons_zero, List.set_cons_succ]
            refine wpAnyH_done (by kernel_rfl) ?_ _
            have hb9 := hb1.trans (hHeld.mono hb1.size)
            go_wp2_with (fail)
            go_ret
            exact ⟨rfl, hb9⟩
    · as_aux_lemma =>
        refine wp_build1v _ rfl S hS0 rfl ?_
        intro g14 V14 hrB hb9
        refine hK.out _ _ (hHeld.trans (hb9.mono hHeld.size)) (fun hHeld => ?_)
        clear hK K hb9
        try simp only [Act.put, List.getElem_toArray, List.getElem_cons_succ, List.getElem_cons_zero, List.setIfInBounds_toArray, List.set_cons_zero, List.set_cons_succ]
        refine wpAnyH_ready (rs := [1]) (by kernel_rfl) (by simp) ?_
        refine AllReadyH.cons rfl (fun K hK => ?_) AllReadyH.nil
        refine wp_build1v _ rfl y ly rfl ?_
        intro g11 V11 hrA hb9
        replace hrB := hrB.below hb9
        refine hK.out _ _ (hHeld.trans (hb9.mono hHeld.size)) (fun hHeld => ?_)
        clear hK K hb9
        try simp only [Act.put, List.getElem_toArray, List.getElem_cons_succ, List.getElem_cons_zero, List.setIfInBounds_toArray, List.set_cons_zero, List.set_cons_succ]
        refine wpAnyH_ready (rs := [2]) (by kernel_rfl) (by simp) ?_
        refine AllReadyH.cons rfl (fun K hK => ?_) AllReadyH.nil
        go_simp
        (with_reducible refine (cJ _ _ _ hrA).mono ?_)
        rintro e2 V22 ⟨rfl, hb9⟩
        clear hrA
        replace hrB := hrB.below hb9
        refine hK.out _ _ (hHeld.trans (hb9.mono hHeld.size)) (fun hHeld => ?_)
        clear hK K hb9
        try simp only [Act.put, List.getElem_toArray, List.getElem_cons_succ, List.getElem_cons_zero, List.setIfInBounds_toArray, List.set_cons_zero, List.set_cons_succ]
        refine wpAnyH_ready (rs := [5]) (by kernel_rfl) (by simp) ?_
        refine AllReadyH.cons rfl (fun K hK => ?_) AllReadyH.nil
        go_simp
        (with_reducible refine (cJ _ _ _ hrB).mono ?_)
        rintro e5 V25 ⟨rfl, hb9⟩
        clear hrB
        have cT := HT.out V25
        refine hK.out _ _ (hHeld.trans (hb9.mono hHeld.size)) (fun hHeld => ?_)
        clear hK K hb9
        try simp only [Act.put, List.getElem_toArray, List.getElem_cons_succ, List.getElem_cons_zero, List.setIfInBounds_toArray, List.set_cons_zero, List.set_cons_succ]
        refine wpAnyH_ready (rs := [6]) (by kernel_rfl) (by simp) ?_
        refine AllReadyH.cons rfl (fun K hK => ?_) AllReadyH.nil
        go_simp
        refine hK.out _ _ (hHeld.alloc hHeld.size _) (fun hHeld => ?_)
        clear hK K
        try simp only [Act.put, List.getElem_toArray, List.getElem_cons_succ, List.getElem_cons_zero, List.setIfInBounds_toArray, List.set_cons_zero, List.set_cons_succ]
        refine wpAnyH_ready (rs := [7]) (by kernel_rfl) (by simp) ?_
        refine AllReadyH.cons rfl (fun K hK => ?_) AllReadyH.nil
        go_simp
        (with_reducible refine cT.mono ?_)
        rintro e7 V7 ⟨rfl, hb9⟩
        refine hK.out _ _ (hHeld.trans (hb9.mono hHeld.size)) (fun hHeld => ?_)
        clear hK K hb9 cT
        try simp only [Act.put, List.getElem_toArray, List.getElem_cons_succ, List.getElem_cons_zero, List.setIfInBounds_toArray, List.set_cons_zero, List.set_cons_succ]
        refine' wpAnyH_take (i := 8) (v := .string (txt U)) rfl (by kernel_rfl) (by kernel_rfl) (by kernel_rfl) (fun _ _ _ h => h) (Or.inl ⟨by rfl, fun w' hw' => by go_simp⟩) hHeld ?_
        try simp only [Act.put, List.getElem_toArray, List.getElem_cons_succ, List.getElem_cons_zero, List.setIfInBounds_toArray, List.set_cons_zero, List.set_cons_succ]
        refine wpAnyH_done (by kernel_rfl) ?_ _
        have hb9 := hb1.trans (hHeld.mono hb1.size)
        go_wp2_with (fail)
        go_ret
        exact ⟨rfl, hb9⟩

end Go.Proofs.YticpdepbgcagaaaGreat

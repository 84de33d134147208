
/- disk: Write, with what it leaves alone. -/
import Derived.Test.YtemdmdgigmhlbaaGreatDl1
set_option linter.unusedSimpArgs false
set_option linter.unusedVariables false
namespace Go.Proofs.YtemdmdgigmhlbaaGreat
open Go.RowKit Go.Qc Go.Shelf
attribute [local go_sem] txt_size txt_append ib_fold
set_option maxRecDepth 100000 in
set_option maxHeartbeats 16000000 in
theorem ewrite_some (base D : Nat) (kv sv wv : Value) (k s : List UInt8) (ws : List WrD) (hs : s.length ≤ 2000000) (hws : ws.length + 1 ≤ 1000) (t : List UInt8) (ht : t ≠ []) (htl : t.length ≤ 1000) (W : World) (h : DkS base D kv sv wv k s ws false W) :
    Calls Tryz.prog 32 #[.pointer (some ⟨D, 0, none⟩), .agg #[.int .i64 (s.length : Int), .string (txt t)]] W fun e w' => e = .returned (.int .i64 0) ∧ ∃ sv' wv', DkS base D kv sv' wv' k (s ++ t) (ws ++ [⟨s.length, t⟩]) false w' ∧ BlD base W w' := by
  have mixed : Tryz.prog.follows .mixedOrders = true := by kernel_rfl
  have hb1 := (Below.refl W.heap.size W).alloc (Nat.le_refl _) (.cells #[.int .i64 (s.length : Int), .string (txt t)] 72)
  have hx1 := Blk.new W 72 #[.int .i64 (s.length : Int), .string (txt t)]
  have h1 := h.below hb1
  have he := txt_someD ht
  have HB0 := hid (show BlD base W (W.alloc (.cells #[.int .i64 (s.length : Int), .string (txt t)] 72)) from BlD.ofB hb1 h.r.bs)
  have HBD := hid h.bd
  have HWL : Hid (∀ g, wv.ownBlock = some g → g < W.heap.size) := hid (fun g hg => (World.ownsRow.lt h.r.q g hg).2)
  obtain ⟨A, c, rfl⟩ := h.r.s.sl
  obtain ⟨p, hpp⟩ : ∃ p, s.length = p := ⟨_, rfl⟩
  have HP := hid hpp
  have HL := hid (show s.length ≤ 2000000 ∧ t.length ≤ 1000 ∧ ws.length + 1 ≤ 1000 from ⟨hs, htl, hws⟩)
  rw [hpp] at h1 hb1 hx1 HB0 hs ⊢
  have z1 : ¬ (p : Int) < 0 := by omega
  have z2 : ¬ (p : Int) < (p : Int) := by omega
  have e1 : wrap64 (4194304 - (p : Int)) = 4194304 - (p : Int) := by unfold wrap64; omega
  have z3 : ¬ (4194304 - (p : Int)) < (t.length : Int) := by omega
  clear h hs hpp ht htl hws
  go_enter Tryz.func32, Tryz.ntmps32
  go_upto_region 1 with (fail)
  generalize W.alloc (.cells #[.int .i64 (p : Int), .string (txt t)] 72) = w1 at *
  have f0 : ∀ q : LaterW w1, q.w.cell? ⟨W.heap.size, 0, none⟩ = some (.int .i64 (p : Int)) := fun q => (hx1.below q.h).cell_ rfl
  have f1 : ∀ q : LaterW w1, q.w.cell? ⟨D, 1, none⟩ = some (.slice A p c) := fun q => (h1.x.below q.h).cell_ rfl
  refine wp_region_later mixed (by kernel_rfl) ?_
  repeat (first
    | ((with_reducible refine wpQuiet_skip (by with_unfolding_all rfl) ?_); simp only [Act.put, List.setIfInBounds_toArray, List.set_cons_zero, List.set_cons_succ])
    | ((with_reducible refine wpQuiet_step (fun K hK => ?_)); go_simp; first | ((with_reducible refine hK _ ?_); clear hK K)))
  with_reducible refine wpQuiet_nil ?_
  intro _ hw'
  obtain ⟨p9, rfl⟩ := hw'
  have hp9 := p9.h
  generalize p9.w = w2 at *
  have g0 := (hx1.below hp9).cell_ (i := 0) rfl
  have g1 := (hx1.below hp9).cell_ (i := 1) rfl
  have hx2 := hx1.below hp9
  have HS := hid (h1.below hp9)
  have HB2 := hid (HB0.out.bel hp9 h1.r.bs)
  clear f0 f1 hp9 hx1 h1 hb1
  obtain ⟨gB, hgB⟩ : ∃ g, W.heap.size = g := ⟨_, rfl⟩
  rw [hgB] at hx2 g0 g1 HWL
  simp only [hgB]
  clear hgB
  go_upto_region 7 with (fail)
  clear g0 g1 e1 z1 z2 z3 he
  replace hx2 := hx2.below (below_drew1 w2)
  replace HB2 := hid (HB2.out.bel (below_drew1 w2) HS.out.r.bs)
  replace HS := hid (HS.out.below (below_drew1 w2))
  refine wp_region_held_drew (S := fun V => Blk V gB 72 #[.int .i64 (p : Int), .string (txt t)]) (by kernel_rfl) hx2 (fun hHeld => ?_)
  generalize w2.drew = w3 at *
  refine' wpAnyH_take (i := 0) (v := .pointer (some ⟨D, 0, none⟩)) rfl (by kernel_rfl) (by kernel_rfl) (by kernel_rfl) (fun _ _ _ h => h) (Or.inl ⟨by rfl, fun w' hw' => by go_simp⟩) hHeld ?_
  try simp only [Act.put, List.getElem_toArray, List.getElem_cons_succ, List.getElem_cons_zero, List.setIfInBounds_toArray, List.set_cons_zero, List.set_cons_succ]
  refine' wpAnyH_take (i := 1) (v := .pointer (some ⟨D, 0, none⟩)) rfl (by kernel_rfl) (by kernel_rfl) (by kernel_rfl) (fun _ _ _ h => h) (Or.inl ⟨by rfl, fun w' hw' => by go_simp⟩) hHeld ?_
  try simp only [Act.put, List.getElem_toArray, List.getElem_cons_succ, List.getElem_cons_zero, List.setIfInBounds_toArray, List.set_cons_zero, List.set_cons_succ]
  refine' wpAnyH_take (i := 2) (v := .pointer (some ⟨D, 0, none⟩)) rfl (by kernel_rfl) (by kernel_rfl) (by kernel_rfl) (fun _ _ _ h => h) (Or.inl ⟨by rfl, fun w' hw' => by go_simp⟩) hHeld ?_
  try simp only [Act.put, List.getElem_toArray, List.getElem_cons_succ, List.getElem_cons_zero, List.setIfInBounds_toArray, List.set_cons_zero, List.set_cons_succ]
  refine' wpAnyH_take (i := 3) (v := .pointer (some ⟨D, 1, none⟩)) rfl (by kernel_rfl) (by kernel_rfl) (by kernel_rfl) (fun _ _ _ h => h) (Or.inl ⟨by rfl, fun w' hw' => by go_simp⟩) hHeld ?_
  try simp only [Act.put, List.getElem_toArray, List.getElem_cons_succ, List.getElem_cons_zero, List.setIfInBounds_toArray, List.set_cons_zero, List.set_cons_succ]
  refine' wpAnyH_take (i := 5) (v := .agg #[.int .i64 (p : Int), .string (txt t)]) rfl (by kernel_rfl) (by kernel_rfl) (by kernel_rfl) (fun _ _ _ h => h) (yields_wr (by rfl) _ rfl gB 0 rfl ⟨p, t⟩ rfl (fun w' h => wr_range h)) hHeld ?_
  try simp only [Act.put, List.getElem_toArray, List.getElem_cons_succ, List.getElem_cons_zero, List.setIfInBounds_toArray, List.set_cons_zero, List.set_cons_succ]
  refine wpAnyH_ready (rs := [4]) (by kernel_rfl) (by simp) ?_
  refine AllReadyH.cons rfl (fun K hK => ?_) AllReadyH.nil
  have fA := HS.out.x.cell_ (i := 1) rfl
  go_simp
  refine hK.out _ _ hHeld (fun hHeld => ?_)
  clear hK K fA
  try simp only [Act.put, List.getElem_toArray, List.getElem_cons_succ, List.getElem_cons_zero, List.setIfInBounds_toArray, List.set_cons_zero, List.set_cons_succ]
  refine wpAnyH_ready (rs := [6]) (by kernel_rfl) (by simp) ?_
  refine AllReadyH.cons rfl (fun K hK => ?_) AllReadyH.nil
  go_simp
  (with_reducible refine (put_any base _ s p t (by have := HL.out; omega) (by have := HL.out; have := HP.out; omega) (by have := HL.out; omega) _ HS.out.r.s HS.out.r.bs).mono ?_)
  rintro e6 V6 ⟨v6, rfl, ho6, hg6, hv6⟩
  have hpe : putLd s p t = s ++ t := by rw [← HP.out]; exact putL_end s t
  rw [hpe] at ho6
  have hx6 := HS.out.boxed (blk_off HS.out.x HS.out.r.s (by decide)) hg6
  have hr6 := HS.out.r.seen hg6 ho6 hv6
  have hB6 : Blk V6 gB 72 #[.int .i64 (p : Int), .string (txt t)] := (hg6.block gB hHeld.lt (blk_off hHeld HS.out.r.s (by decide))).trans hHeld
  replace HB2 := hid (HB2.out.row hg6 HS.out.r.s (by simp [dts]) HS.out.r.bs)
  obtain ⟨A6, c6, rfl⟩ := ho6.sl
  have HX6 := hid hx6
  have HR6 := hid hr6
  refine hK.out _ _ hB6 (fun hHeld => ?_)
  clear hK K hg6 hv6 ho6 hpe hx6 hr6 hB6
  try simp only [Act.put, List.getElem_toArray, List.getElem_cons_succ, List.getElem_cons_zero, List.setIfInBounds_toArray, List.set_cons_zero, List.set_cons_succ]
  refine' wpAnyH_take (i := 7) (v := .pointer (some ⟨D, 0, none⟩)) rfl (by kernel_rfl) (by kernel_rfl) (by kernel_rfl) (fun _ _ _ h => h) (Or.inl ⟨by rfl, fun w' hw' => by go_simp⟩) hHeld ?_
  try simp only [Act.put, List.getElem_toArray, List.getElem_cons_succ, List.getElem_cons_zero, List.setIfInBounds_toArray, List.set_cons_zero, List.set_cons_succ]
  refine' wpAnyH_take (i := 8) (v := .pointer (some ⟨D, 1, none⟩)) rfl (by kernel_rfl) (by kernel_rfl) (by kernel_rfl) (fun _ _ _ h => h) (Or.inl ⟨by rfl, fun w' hw' => by go_simp⟩) hHeld ?_
  try simp only [Act.put, List.getElem_toArray, List.getElem_cons_succ, List.getElem_cons_zero, List.setIfInBounds_toArray, List.set_cons_zero, List.set_cons_succ]
  refine wpAnyH_ready (rs := [9]) (by kernel_rfl) (by simp) ?_
  refine AllReadyH.cons rfl (fun K hK => ?_) AllReadyH.nil
  refine wp_store_d1 _ _ rfl D _ _ _ _ HX6.out A6 (s ++ t).length c6 rfl rfl ?_
  intro V9 hB9 hg9
  have hr9 := HR6.out.box HX6.out hg9
  have hB6 : Blk V9 gB 72 #[.int .i64 (p : Int), .string (txt t)] := blk_gb hHeld hg9 (by rintro rfl; have e := Option.some.inj (HX6.out.symm.trans hHeld); injection e with _ e2; exact absurd e2 (by decide))
  replace HB2 := hid (HB2.out.box hg9 HX6.out HBD.out HR6.out.bs)
  have HS2 : Hid (DkS base D kv (.slice A6 (s ++ t).length c6) wv k (s ++ t) ws false V9) := hid ⟨hB9, hr9, HBD.out⟩
  refine hK.out _ _ hB6 (fun hHeld => ?_)
  clear hK K hg9 hr9 hB6 hB9 HX6 HR6 HS
  try simp only [Act.put, List.getElem_toArray, List.getElem_cons_succ, List.getElem_cons_zero, List.setIfInBounds_toArray, List.set_cons_zero, List.set_cons_succ]
  have hx9 := hHeld
  refine wpAnyH_done (by kernel_rfl) ?_ _
  go_upto_region 8 with (fail)
  replace hx9 := hx9.below (below_drew1 _)
  replace HB2 := hid (HB2.out.bel (below_drew1 _) HS2.out.r.bs)
  replace HS2 := hid (HS2.out.below (below_drew1 _))
  clear hHeld
  refine wp_region_held_drew (S := fun V => Blk V gB 72 #[.int .i64 (p : Int), .string (txt t)]) (by kernel_rfl) hx9 (fun hHeld => ?_)
  clear hx9
  generalize World.drew _ = V5 at *
  refine' wpAnyH_take (i := 0) (v := .pointer (some ⟨D, 0, none⟩)) rfl (by kernel_rfl) (by kernel_rfl) (by kernel_rfl) (fun _ _ _ h => h) (Or.inl ⟨by rfl, fun w' hw' => by go_simp⟩) hHeld ?_
  try simp only [Act.put, List.getElem_toArray, List.getElem_cons_succ, List.getElem_cons_zero, List.setIfInBounds_toArray, List.set_cons_zero, List.set_cons_succ]
  refine' wpAnyH_take (i := 1) (v := .pointer (some ⟨D, 0, none⟩)) rfl (by kernel_rfl) (by kernel_rfl) (by kernel_rfl) (fun _ _ _ h => h) (Or.inl ⟨by rfl, fun w' hw' => by go_simp⟩) hHeld ?_
  try simp only [Act.put, List.getElem_toArray, List.getElem_cons_succ, List.getElem_cons_zero, List.setIfInBounds_toArray, List.set_cons_zero, List.set_cons_succ]
  refine' wpAnyH_take (i := 2) (v := .pointer (some ⟨D, 0, none⟩)) rfl (by kernel_rfl) (by kernel_rfl) (by kernel_rfl) (fun _ _ _ h => h) (Or.inl ⟨by rfl, fun w' hw' => by go_simp⟩) hHeld ?_
  try simp only [Act.put, List.getElem_toArray, List.getElem_cons_succ, List.getElem_cons_zero, List.setIfInBounds_toArray, List.set_cons_zero, List.set_cons_succ]
  refine' wpAnyH_take (i := 3) (v := .pointer (some ⟨D, 2, none⟩)) rfl (by kernel_rfl) (by kernel_rfl) (by kernel_rfl) (fun _ _ _ h => h) (Or.inl ⟨by rfl, fun w' hw' => by go_simp⟩) hHeld ?_
  try simp only [Act.put, List.getElem_toArray, List.getElem_cons_succ, List.getElem_cons_zero, List.setIfInBounds_toArray, List.set_cons_zero, List.set_cons_succ]
  refine' wpAnyH_take (i := 5) (v := .pointer (some ⟨gB, 0, none⟩)) rfl (by kernel_rfl) (by kernel_rfl) (by kernel_rfl) (fun _ _ _ h => h) (Or.inl ⟨by rfl, fun w' hw' => by go_simp⟩) hHeld ?_
  try simp only [Act.put, List.getElem_toArray, List.getElem_cons_succ, List.getElem_cons_zero, List.setIfInBounds_toArray, List.set_cons_zero, List.set_cons_succ]
  refine' wpAnyH_take (i := 6) (v := .int .i64 (p : Int)) rfl (by kernel_rfl) (by kernel_rfl) (by kernel_rfl) (fun _ _ _ h => h) (Or.inl ⟨by rfl, fun w' hw' => by have hv := hw'.cell_ (i := 0) rfl; go_simp⟩) hHeld ?_
  try simp only [Act.put, List.getElem_toArray, List.getElem_cons_succ, List.getElem_cons_zero, List.setIfInBounds_toArray, List.set_cons_zero, List.set_cons_succ]
  refine' wpAnyH_take (i := 7) (v := .pointer (some ⟨gB, 1, none⟩)) rfl (by kernel_rfl) (by kernel_rfl) (by kernel_rfl) (fun _ _ _ h => h) (Or.inl ⟨by rfl, fun w' hw' => by go_simp⟩) hHeld ?_
  try simp only [Act.put, List.getElem_toArray, List.getElem_cons_succ, List.getElem_cons_zero, List.setIfInBounds_toArray, List.set_cons_zero, List.set_cons_succ]
  refine' wpAnyH_take (i := 8) (v := .string (txt t)) rfl (by kernel_rfl) (by kernel_rfl) (by kernel_rfl) (fun _ _ _ h => h) (Or.inl ⟨by rfl, fun w' hw' => by have hv := hw'.cell_ (i := 1) rfl; go_simp⟩) hHeld ?_
  try simp only [Act.put, List.getElem_toArray, List.getElem_cons_succ, List.getElem_cons_zero, List.setIfInBounds_toArray, List.set_cons_zero, List.set_cons_succ]
  refine wpAnyH_ready (rs := [4, 9]) (by kernel_rfl) (by simp) ?_
  refine AllReadyH.cons rfl (fun K hK => ?_) (AllReadyH.cons rfl (fun K hK => ?_) AllReadyH.nil)
  · as_aux_lemma =>
      have fA := HS2.out.x.cell_ (i := 2) rfl
      go_simp
      refine hK.out _ _ hHeld (fun hHeld => ?_)
      clear hK K fA
      try simp only [Act.put, List.getElem_toArray, List.getElem_cons_succ, List.getElem_cons_zero, List.setIfInBounds_toArray, List.set_cons_zero, List.set_cons_succ]
      refine wpAnyH_ready (rs := [9]) (by kernel_rfl) (by simp) ?_
      refine AllReadyH.cons rfl (fun K hK => ?_) AllReadyH.nil
      go_simp
      (with_reducible refine (dkClone_any (txt t) (by rw [txt_size]; have := HL.out; omega) _).mono ?_)
      rintro e9 V10 ⟨rfl, hb9⟩
      replace HB2 := hid (HB2.out.bel hb9 HS2.out.r.bs)
      replace HS2 := hid (HS2.out.below hb9)
      refine hK.out _ _ (hHeld.below hb9) (fun hHeld => ?_)
      clear hK K hb9
      try simp only [Act.put, List.getElem_toArray, List.getElem_cons_succ, List.getElem_cons_zero, List.setIfInBounds_toArray, List.set_cons_zero, List.set_cons_succ]
      refine' wpAnyH_take (i := 10) (v := .agg (WrD.cs ⟨p, t⟩)) rfl (by kernel_rfl) (by kernel_rfl) (by kernel_rfl) (fun _ _ _ h => h) (Or.inl ⟨by rfl, fun w' hw' => by go_simp; rfl⟩) hHeld ?_
      try simp only [Act.put, List.getElem_toArray, List.getElem_cons_succ, List.getElem_cons_zero, List.setIfInBounds_toArray, List.set_cons_zero, List.set_cons_succ]
      refine wpAnyH_ready (rs := [11]) (by kernel_rfl) (by simp) ?_
      refine AllReadyH.cons rfl (fun K hK => ?_) AllReadyH.nil
      refine wp_build1wj _ rfl ⟨p, t⟩ rfl ?_
      intro gr V11 hrow hb9
      replace HB2 := hid (HB2.out.bel hb9 HS2.out.r.bs)
      replace HS2 := hid (HS2.out.below hb9)
      refine hK.out _ _ (hHeld.below hb9) (fun hHeld => ?_)
      clear hK K hb9
      try simp only [Act.put, List.getElem_toArray, List.getElem_cons_succ, List.getElem_cons_zero, List.setIfInBounds_toArray, List.set_cons_zero, List.set_cons_succ]
      refine wpAnyH_ready (rs := [12]) (by kernel_rfl) (by simp) ?_
      refine AllReadyH.cons rfl (fun K hK => ?_) AllReadyH.nil
      refine wp_append_wr _ _ rfl base _ ws.length ws rfl HS2.out.r.q _ 1 1 [_] rfl rfl (fun h => by cases h) hrow (by have := HL.out; omega) HS2.out.r.bs ?_
      intro v12 V12 ho12 hg12
      have hx12 := HS2.out.boxed (blk_off HS2.out.x HS2.out.r.q (by decide)) hg12
      have hr12 := HS2.out.r.waits (ws' := ws ++ [⟨p, t⟩]) hg12 (by rw [List.length_append]; exact ho12)
      have hB6 := wr_keep hHeld HS2.out.r.q hg12 HWL.out
      replace HB2 := hid (HB2.out.row hg12 HS2.out.r.q (by simp [dts]) HS2.out.r.bs)
      obtain ⟨A12, n12, c12, hv12⟩ := wr_slice ho12
      subst hv12
      have HX12 := hid hx12
      have HR12 := hid hr12
      refine hK.out _ _ hB6 (fun hHeld => ?_)
      clear hK K hg12 hx12 hr12 hB6 ho12 hrow
      try simp only [Act.put, List.getElem_toArray, List.getElem_cons_succ, List.getElem_cons_zero, List.setIfInBounds_toArray, List.set_cons_zero, List.set_cons_succ]
      refine' wpAnyH_take (i := 13) (v := .pointer (some ⟨D, 0, none⟩)) rfl (by kernel_rfl) (by kernel_rfl) (by kernel_rfl) (fun _ _ _ h => h) (Or.inl ⟨by rfl, fun w' hw' => by go_simp⟩) hHeld ?_
      try simp only [Act.put, List.getElem_toArray, List.getElem_cons_succ, List.getElem_cons_zero, List.setIfInBounds_toArray, List.set_cons_zero, List.set_cons_succ]
      refine' wpAnyH_take (i := 14) (v := .pointer (some ⟨D, 2, none⟩)) rfl (by kernel_rfl) (by kernel_rfl) (by kernel_rfl) (fun _ _ _ h => h) (Or.inl ⟨by rfl, fun w' hw' => by go_simp⟩) hHeld ?_
      try simp only [Act.put, List.getElem_toArray, List.getElem_cons_succ, List.getElem_cons_zero, List.setIfInBounds_toArray, List.set_cons_zero, List.set_cons_succ]
      refine wpAnyH_ready (rs := [15]) (by kernel_rfl) (by simp) ?_
      refine AllReadyH.cons rfl (fun K hK => ?_) AllReadyH.nil
      refine wp_store_d2 _ _ rfl D _ _ _ _ HX12.out A12 n12 c12 rfl rfl ?_
      intro V15 hB15 hg15
      have hr15 := HR12.out.box HX12.out hg15
      have hB6 : Blk V15 gB 72 #[.int .i64 (p : Int), .string (txt t)] := blk_gb hHeld hg15 (by rintro rfl; have e := Option.some.inj (HX12.out.symm.trans hHeld); injection e with _ e2; exact absurd e2 (by decide))
      replace HB2 := hid (HB2.out.box hg15 HX12.out HBD.out HR12.out.bs)
      have HS3 := hid (DkS.mk (dn := false) hB15 hr15 HBD.out)
      refine hK.out _ _ hB6 (fun hHeld => ?_)
      clear hK K hg15 hr15 hB6 hB15 HX12 HR12 HS2
      try simp only [Act.put, List.getElem_toArray, List.getElem_cons_succ, List.getElem_cons_zero, List.setIfInBounds_toArray, List.set_cons_zero, List.set_cons_succ]
      refine wpAnyH_done (by kernel_rfl) ?_ _
      clear hHeld
      have cB := dburn_any _ _ _ _ _ _ _ _ _ _ HS3.out
      go_wp2_with (go_at_call 52; (with_reducible refine cB.mono ?_); rintro e20 w20 ⟨rfl, rfl⟩)
      go_ret
      exact ⟨rfl, _, _, HS3.out, HB2.out⟩
  · as_aux_lemma =>
      go_simp
      (with_reducible refine (dkClone_any (txt t) (by rw [txt_size]; have := HL.out; omega) _).mono ?_)
      rintro e9 V10 ⟨rfl, hb9⟩
      replace HB2 := hid (HB2.out.bel hb9 HS2.out.r.bs)
      replace HS2 := hid (HS2.out.below hb9)
      refine hK.out _ _ (hHeld.below hb9) (fun hHeld => ?_)
      clear hK K hb9
      try simp only [Act.put, List.getElem_toArray, List.getElem_cons_succ, List.getElem_cons_zero, List.setIfInBounds_toArray, List.set_cons_zero, List.set_cons_succ]
      refine' wpAnyH_take (i := 10) (v := .agg (WrD.cs ⟨p, t⟩)) rfl (by kernel_rfl) (by kernel_rfl) (by kernel_rfl) (fun _ _ _ h => h) (Or.inl ⟨by rfl, fun w' hw' => by go_simp; rfl⟩) hHeld ?_
      try simp only [Act.put, List.getElem_toArray, List.getElem_cons_succ, List.getElem_cons_zero, List.setIfInBounds_toArray, List.set_cons_zero, List.set_cons_succ]
      refine wpAnyH_ready (rs := [4, 11]) (by kernel_rfl) (by simp) ?_
      refine AllReadyH.cons rfl (fun K hK => ?_) (AllReadyH.cons rfl (fun K hK => ?_) AllReadyH.nil)
      · as_aux_lemma =>
          have fA := HS2.out.x.cell_ (i := 2) rfl
          go_simp
          refine hK.out _ _ hHeld (fun hHeld => ?_)
          clear hK K fA
          try simp only [Act.put, List.getElem_toArray, List.getElem_cons_succ, List.getElem_cons_zero, List.setIfInBounds_toArray, List.set_cons_zero, List.set_cons_succ]
          refine wpAnyH_ready (rs := [11]) (by kernel_rfl) (by simp) ?_
          refine AllReadyH.cons rfl (fun K hK => ?_) AllReadyH.nil
          refine wp_build1wj _ rfl ⟨p, t⟩ rfl ?_
          intro gr V11 hrow hb9
          replace HB2 := hid (HB2.out.bel hb9 HS2.out.r.bs)
          replace HS2 := hid (HS2.out.below hb9)
          refine hK.out _ _ (hHeld.below hb9) (fun hHeld => ?_)
          clear hK K hb9
          try simp only [Act.put, List.getElem_toArray, List.getElem_cons_succ, List.getElem_cons_zero, List.setIfInBounds_toArray, List.set_cons_zero, List.set_cons_succ]
          refine wpAnyH_ready (rs := [12]) (by kernel_rfl) (by simp) ?_
          refine AllReadyH.cons rfl (fun K hK => ?_) AllReadyH.nil
          refine wp_append_wr _ _ rfl base _ ws.length ws rfl HS2.out.r.q _ 1 1 [_] rfl rfl (fun h => by cases h) hrow (by have := HL.out; omega) HS2.out.r.bs ?_
          intro v12 V12 ho12 hg12
          have hx12 := HS2.out.boxed (blk_off HS2.out.x HS2.out.r.q (by decide)) hg12
          have hr12 := HS2.out.r.waits (ws' := ws ++ [⟨p, t⟩]) hg12 (by rw [List.length_append]; exact ho12)
          have hB6 := wr_keep hHeld HS2.out.r.q hg12 HWL.out
          replace HB2 := hid (HB2.out.row hg12 HS2.out.r.q (by simp [dts]) HS2.out.r.bs)
          obtain ⟨A12, n12, c12, hv12⟩ := wr_slice ho12
          subst hv12
          have HX12 := hid hx12
          have HR12 := hid hr12
          refine hK.out _ _ hB6 (fun hHeld => ?_)
          clear hK K hg12 hx12 hr12 hB6 ho12 hrow
          try simp only [Act.put, List.getElem_toArray, List.getElem_cons_succ, List.getElem_cons_zero, List.setIfInBounds_toArray, List.set_cons_zero, List.set_cons_succ]
          refine' wpAnyH_take (i := 13) (v := .pointer (some ⟨D, 0, none⟩)) rfl (by kernel_rfl) (by kernel_rfl) (by kernel_rfl) (fun _ _ _ h => h) (Or.inl ⟨by rfl, fun w' hw' => by go_simp⟩) hHeld ?_
          try simp only [Act.put, List.getElem_toArray, List.getElem_cons_succ, List.getElem_cons_zero, List.setIfInBounds_toArray, List.set_cons_zero, List.set_cons_succ]
          refine' wpAnyH_take (i := 14) (v := .pointer (some ⟨D, 2, none⟩)) rfl (by kernel_rfl) (by kernel_rfl) (by kernel_rfl) (fun _ _ _ h => h) (Or.inl ⟨by rfl, fun w' hw' => by go_simp⟩) hHeld ?_
          try simp only [Act.put, List.getElem_toArray, List.getElem_cons_succ, List.getElem_cons_zero, List.setIfInBounds_toArray, List.set_cons_zero, List.set_cons_succ]
          refine wpAnyH_ready (rs := [15]) (by kernel_rfl) (by simp) ?_
          refine AllReadyH.cons rfl (fun K hK => ?_) AllReadyH.nil
          refine wp_store_d2 _ _ rfl D _ _ _ _ HX12.out A12 n12 c12 rfl rfl ?_
          intro V15 hB15 hg15
          have hr15 := HR12.out.box HX12.out hg15
          have hB6 : Blk V15 gB 72 #[.int .i64 (p : Int), .string (txt t)] := blk_gb hHeld hg15 (by rintro rfl; have e := Option.some.inj (HX12.out.symm.trans hHeld); injection e with _ e2; exact absurd e2 (by decide))
          replace HB2 := hid (HB2.out.box hg15 HX12.out HBD.out HR12.out.bs)
          have HS3 := hid (DkS.mk (dn := false) hB15 hr15 HBD.out)
          refine hK.out _ _ hB6 (fun hHeld => ?_)
          clear hK K hg15 hr15 hB6 hB15 HX12 HR12 HS2
          try simp only [Act.put, List.getElem_toArray, List.getElem_cons_succ, List.getElem_cons_zero, List.setIfInBounds_toArray, List.set_cons_zero, List.set_cons_succ]
          refine wpAnyH_done (by kernel_rfl) ?_ _
          clear hHeld
          have cB := dburn_any _ _ _ _ _ _ _ _ _ _ HS3.out
          go_wp2_with (go_at_call 52; (with_reducible refine cB.mono ?_); rintro e20 w20 ⟨rfl, rfl⟩)
          go_ret
          exact ⟨rfl, _, _, HS3.out, HB2.out⟩
      · as_aux_lemma =>
          refine wp_build1wj _ rfl ⟨p, t⟩ rfl ?_
          intro gr V11 hrow hb9
          replace HB2 := hid (HB2.out.bel hb9 HS2.out.r.bs)
          replace HS2 := hid (HS2.out.below hb9)
          refine hK.out _ _ (hHeld.below hb9) (fun hHeld => ?_)
          clear hK K hb9
          try simp only [Act.put, List.getElem_toArray, List.getElem_cons_succ, List.getElem_cons_zero, List.setIfInBounds_toArray, List.set_cons_zero, List.set_cons_succ]
          refine wpAnyH_ready (rs := [4]) (by kernel_rfl) (by simp) ?_
          refine AllReadyH.cons rfl (fun K hK => ?_) AllReadyH.nil
          have fA := HS2.out.x.cell_ (i := 2) rfl
          go_simp
          refine hK.out _ _ hHeld (fun hHeld => ?_)
          clear hK K fA
          try simp only [Act.put, List.getElem_toArray, List.getElem_cons_succ, List.getElem_cons_zero, List.setIfInBounds_toArray, List.set_cons_zero, List.set_cons_succ]
          refine wpAnyH_ready (rs := [12]) (by kernel_rfl) (by simp) ?_
          refine AllReadyH.cons rfl (fun K hK => ?_) AllReadyH.nil
          refine wp_append_wr _ _ rfl base _ ws.length ws rfl HS2.out.r.q _ 1 1 [_] rfl rfl (fun h => by cases h) hrow (by have := HL.out; omega) HS2.out.r.bs ?_
          intro v12 V12 ho12 hg12
          have hx12 := HS2.out.boxed (blk_off HS2.out.x HS2.out.r.q (by decide)) hg12
          have hr12 := HS2.out.r.waits (ws' := ws ++ [⟨p, t⟩]) hg12 (by rw [List.length_append]; exact ho12)
          have hB6 := wr_keep hHeld HS2.out.r.q hg12 HWL.out
          replace HB2 := hid (HB2.out.row hg12 HS2.out.r.q (by simp [dts]) HS2.out.r.bs)
          obtain ⟨A12, n12, c12, hv12⟩ := wr_slice ho12
          subst hv12
          have HX12 := hid hx12
          have HR12 := hid hr12
          refine hK.out _ _ hB6 (fun hHeld => ?_)
          clear hK K hg12 hx12 hr12 hB6 ho12 hrow
          try simp only [Act.put, List.getElem_toArray, List.getElem_cons_succ, List.getElem_cons_zero, List.setIfInBounds_toArray, List.set_cons_zero, List.set_cons_succ]
          refine' wpAnyH_take (i := 13) (v := .pointer (some ⟨D, 0, none⟩)) rfl (by kernel_rfl) (by kernel_rfl) (by kernel_rfl) (fun _ _ _ h => h) (Or.inl ⟨by rfl, fun w' hw' => by go_simp⟩) hHeld ?_
          try simp only [Act.put, List.getElem_toArray, List.getElem_cons_succ, List.getElem_cons_zero, List.setIfInBounds_toArray, List.set_cons_zero, List.set_cons_succ]
          refine' wpAnyH_take (i := 14) (v := .pointer (some ⟨D, 2, none⟩)) rfl (by kernel_rfl) (by kernel_rfl) (by kernel_rfl) (fun _ _ _ h => h) (Or.inl ⟨by rfl, fun w' hw' => by go_simp⟩) hHeld ?_
          try simp only [Act.put, List.getElem_toArray, List.getElem_cons_succ, List.getElem_cons_zero, List.setIfInBounds_toArray, List.set_cons_zero, List.set_cons_succ]
          refine wpAnyH_ready (rs := [15]) (by kernel_rfl) (by simp) ?_
          refine AllReadyH.cons rfl (fun K hK => ?_) AllReadyH.nil
          refine wp_store_d2 _ _ rfl D _ _ _ _ HX12.out A12 n12 c12 rfl rfl ?_
          intro V15 hB15 hg15
          have hr15 := HR12.out.box HX12.out hg15
          have hB6 : Blk V15 gB 72 #[.int .i64 (p : Int), .string (txt t)] := blk_gb hHeld hg15 (by rintro rfl; have e := Option.some.inj (HX12.out.symm.trans hHeld); injection e with _ e2; exact absurd e2 (by decide))
          replace HB2 := hid (HB2.out.box hg15 HX12.out HBD.out HR12.out.bs)
          have HS3 := hid (DkS.mk (dn := false) hB15 hr15 HBD.out)
          refine hK.out _ _ hB6 (fun hHeld => ?_)
          clear hK K hg15 hr15 hB6 hB15 HX12 HR12 HS2
          try simp only [Act.put, List.getElem_toArray, List.getElem_cons_succ, List.getElem_cons_zero, List.setIfInBounds_toArray, List.set_cons_zero, List.set_cons_succ]
          refine wpAnyH_done (by kernel_rfl) ?_ _
          clear hHeld
          have cB := dburn_any _ _ _ _ _ _ _ _ _ _ HS3.out
          go_wp2_with (go_at_call 52; (with_reducible refine cB.mono ?_); rintro e20 w20 ⟨rfl, rfl⟩)
          go_ret
          exact ⟨rfl, _, _, HS3.out, HB2.out⟩
/-- What Write answers. -/
def EWriteQ (base D : Nat) (kv : Value) (k s t : List UInt8) (ws : List WrD) (W : World) (e : Ending) (w' : World) : Prop :=
  e = .returned (.int .i64 0) ∧ ∃ sv' wv', DkS base D kv sv' wv' k (s ++ t) (addW s t ws) false w' ∧ BlD base W w'
theorem ewrite_any (base D : Nat) (kv sv wv : Value) (k s : List UInt8) (ws : List WrD) (hs : s.length ≤ 2000000) (hws : ws.length + 1 ≤ 1000) (t : List UInt8) (htl : t.length ≤ 1000) (W : World) (h : DkS base D kv sv wv k s ws false W) :
    Calls Tryz.prog 32 #[.pointer (some ⟨D, 0, none⟩), .agg #[.int .i64 (s.length : Int), .string (txt t)]] W (EWriteQ base D kv k s t ws W) := by
  by_cases ht : t = []
  · subst ht
    refine (dwrite_nil base D kv sv wv k s ws hs W h).mono ?_
    rintro e w' ⟨rfl, hb⟩
    exact ⟨rfl, sv, wv, by rw [List.append_nil]; unfold addW; rw [if_pos rfl]; exact h.below hb, BlD.ofB hb h.r.bs⟩
  · refine (ewrite_some base D kv sv wv k s ws hs hws t ht htl W h).mono ?_
    rintro e w' ⟨rfl, sv', wv', h1, h2⟩
    exact ⟨rfl, sv', wv', by unfold addW; rw [if_neg ht]; exact h1, h2⟩
set_option maxRecDepth 100000 in
set_option maxHeartbeats 8000000 in
theorem epowW_any (base D : Nat) (kv sv wv : Value) (k s : List UInt8) (ws : List WrD) (hs : s.length ≤ 2000000) (hws : ws.length + 1 ≤ 1000) (t : List UInt8) (htl : t.length ≤ 1000) (W : World) (h : DkS base D kv sv wv k s ws false W) :
    Calls Tryz.prog 31 #[.pointer (some ⟨D, 0, none⟩), .func (.func 32) #[.pointer (some ⟨D, 0, none⟩)] #[], .agg #[.int .i64 (s.length : Int), .string (txt t)]] W (EWriteQ base D kv k s t ws W) := by
  have hb1 := (Below.refl W.heap.size W).alloc (Nat.le_refl _) (.cells #[.int .i64 (s.length : Int), .string (txt t)] 72)
  have h1 := h.below hb1
  have hx1 := Blk.new W 72 #[.int .i64 (s.length : Int), .string (txt t)]
  have cW := ewrite_any base D kv sv wv k s ws hs hws t htl _ h1
  have HB := hid (BlD.ofB (base := base) hb1 h.r.bs)
  have f0 := hx1.cell_ (i := 0) rfl
  have f1 := hx1.cell_ (i := 1) rfl
  have f4 := h1.x.cell_ (i := 4) rfl
  clear h h1 hx1 hs hws htl hb1
  go_enter Tryz.func31, Tryz.ntmps31
  go_wp2_with (go_at_call 32; (with_reducible refine cW.mono ?_); rintro e3 w3 ⟨rfl, sv', wv', hs3, hb3⟩)
  go_ret
  exact ⟨rfl, sv', wv', hs3, HB.out.tr hb3⟩
set_option maxRecDepth 100000 in
set_option maxHeartbeats 8000000 in
theorem eWrite_any (base D : Nat) (kv sv wv : Value) (k s : List UInt8) (ws : List WrD) (hs : s.length ≤ 2000000) (hws : ws.length + 1 ≤ 1000) (t : List UInt8) (htl : t.length ≤ 1000) (W : World) (h : DkS base D kv sv wv k s ws false W) :
    Calls Tryz.prog 15 #[.pointer (some ⟨D, 0, none⟩), .int .i64 (s.length : Int), .string (txt t)] W (EWriteQ base D kv k s t ws W) := by
  have cW := epowW_any base D kv sv wv k s ws hs hws t htl W h
  clear h hs hws htl
  go_enter Tryz.func15, Tryz.ntmps15
  go_wp2_with (go_at_call 31; (with_reducible refine cW.mono ?_); rintro e3 w3 ⟨rfl, sv', wv', hs3, hb3⟩)
  go_ret
  exact ⟨rfl, sv', wv', hs3, hb3⟩
set_option maxRecDepth 100000 in
set_option maxHeartbeats 8000000 in
/-- A disk without power takes nothing. -/
theorem epowW_down (base D : Nat) (kv sv wv : Value) (k s : List UInt8) (ws : List WrD) (p : Int) (t : List UInt8) (W : World) (h : DkS base D kv sv wv k s ws true W) :
    Calls Tryz.prog 31 #[.pointer (some ⟨D, 0, none⟩), .func (.func 32) #[.pointer (some ⟨D, 0, none⟩)] #[], .agg #[.int .i64 p, .string (txt t)]] W fun e w' => e = .returned (.int .i64 13) ∧ Below W.heap.size W w' := by
  have hb1 := (Below.refl W.heap.size W).alloc (Nat.le_refl _) (.cells #[.int .i64 p, .string (txt t)] 72)
  have h1 := h.below hb1
  have f4 := h1.x.cell_ (i := 4) rfl
  clear h h1
  go_enter Tryz.func31, Tryz.ntmps31
  go_wp2_with (fail)
  go_ret
  exact ⟨rfl, hb1⟩
set_option maxRecDepth 100000 in
set_option maxHeartbeats 8000000 in
theorem eWrite_down (base D : Nat) (kv sv wv : Value) (k s : List UInt8) (ws : List WrD) (p : Int) (t : List UInt8) (W : World) (h : DkS base D kv sv wv k s ws true W) :
    Calls Tryz.prog 15 #[.pointer (some ⟨D, 0, none⟩), .int .i64 p, .string (txt t)] W fun e w' => e = .returned (.int .i64 13) ∧ Below W.heap.size W w' := by
  have cW := epowW_down base D kv sv wv k s ws p t W h
  clear h
  go_enter Tryz.func15, Tryz.ntmps15
  go_wp2_with (go_at_call 31; (with_reducible refine cW.mono ?_); rintro e3 w3 ⟨rfl, hb3⟩)
  go_ret
  exact ⟨rfl, hb3⟩
end Go.Proofs.YtemdmdgigmhlbaaGreat

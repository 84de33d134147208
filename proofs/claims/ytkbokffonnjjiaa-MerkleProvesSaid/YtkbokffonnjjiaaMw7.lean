/- merkle: the program's Climb: one step of the closure. -/
import Derived.Test.YtkbokffonnjjiaaMw4
import Derived.Deep.DeepCutAuto
set_option linter.unusedSimpArgs false
set_option linter.unusedVariables false
namespace Go.Proofs.Ytkbokffonnjjiaa
open Go.RowKit Go.Qc Go.Shelf
attribute [local go_sem] txt_size txt_append ib_fold
theorem blk_neM {W : World} {a b : Nat} {s t : TypeId} {x y : Array Value} (h : Blk W a s x) (k : Blk W b t y) (hne : s ≠ t) : a ≠ b := by
  rintro rfl
  have e := Option.some.inj (h.symm.trans k)
  injection e with _ e2 _
  exact hne e2
theorem wp_allocI {w : World} {o : Oper} {a : Act} {K : Act → World → Prop} {Q : Exit → Act → World → Prop} (ho : o.op = .alloc 24)
    (h : ∀ g cs w', cs.size = 32 → Hid (g = w.heap.size) → Blk w' g 24 cs → Below w.heap.size w w' → K (a.put o.dst (.pointer (some ⟨g, 0, none⟩))) w') : o.wp Try.prog a w K Q := by
  obtain ⟨i0, hi, hz, hs, hb⟩ := infoId2_parts
  have h9 := h w.heap.size (idVals zeroB) (w.alloc (.cells (idVals zeroB) 24)) (by rw [idVals_size]; decide) (hid rfl) (Blk.new _ _ _) ((Below.refl _ _).alloc (Nat.le_refl _) _)
  unfold Oper.wp
  simp only [execOp, ho]
  simp [Instr.alloc, zeroValue, typeInfo, hi, hz, newVar, newRow, Value.cells, newObj]
  exact h9
theorem infoIdsN : (Try.prog.info? 22).map (·.size) = some 1 := by kernel_rfl
theorem wp_store_sl {w : World} {o : Oper} {a : Act} {K : Act → World → Prop} {Q : Exit → Act → World → Prop} (x y : Operand) (ho : o.op = .store 22 x y)
    (g : Nat) (v0 : Value) (hg : Blk w g 22 #[v0]) (A : Option Addr) (n c : Nat) (hx : a.eval x = .pointer (some ⟨g, 0, none⟩)) (hy : a.eval y = .slice A n c)
    (h : ∀ w', Blk w' g 22 #[.slice A n c] → w.grownBy w' (some g) → K (a.put o.dst undef) w') : o.wp Try.prog a w K Q :=
  wp_store_cellM 22 x y ho g 0 _ _ hg (.slice A n c) hx hy infoIdsN (by simp) rfl rfl fun w' hb hgr => h w' hb hgr
/-- Climbing under way: the place's box, the result's, the root's, the way's. -/
structure CbS (w0 : World) (gp gz gr gw : Nat) (X : PlD) (R : List UInt8) (A : Option Addr) (m c : Nat) (l : List (List UInt8)) (W : World) : Prop where
  x : PlX W gp X
  z : Blk W gz 24 (idVals zeroB)
  r : Blk W gr 24 (idVals R)
  s : Blk W gw 22 #[.slice A m c]
  q : RowC w0 A m c l
  b : Below w0.heap.size w0 W
  n1 : w0.heap.size ≤ gr
  n2 : w0.heap.size ≤ gw
  n3 : gz ≠ gr
section
variable {w0 : World} {gp gz gr gw : Nat} {X : PlD} {R R' : List UInt8} {A A' : Option Addr} {m m' c c' : Nat} {l l' : List (List UInt8)} {W W' : World}
theorem CbS.below (h : CbS w0 gp gz gr gw X R A m c l W) (hb : Below W.heap.size W W') : CbS w0 gp gz gr gw X R A m c l W' :=
  ⟨h.x.below hb, h.z.below hb, h.r.below hb, h.s.below hb, h.q, h.b.trans (hb.mono h.b.size), h.n1, h.n2, h.n3⟩
theorem CbS.putR (h : CbS w0 gp gz gr gw X R A m c l W) (hx : Blk W' gr 24 (idVals R')) (hg : W.grownBy W' (some gr)) : CbS w0 gp gz gr gw X R' A m c l W' :=
  ⟨⟨blk_gM h.x.b hg (blk_neM h.x.b h.r (by decide))⟩, blk_gM h.z hg h.n3, hx, blk_gM h.s hg (blk_neM h.s h.r (by decide)), h.q, below_gM h.b hg h.n1, h.n1, h.n2, h.n3⟩
theorem CbS.putS (h : CbS w0 gp gz gr gw X R A m c l W) (hq : RowC w0 A' m' c' l') (hx : Blk W' gw 22 #[.slice A' m' c']) (hg : W.grownBy W' (some gw)) : CbS w0 gp gz gr gw X R A' m' c' l' W' :=
  ⟨⟨blk_gM h.x.b hg (blk_neM h.x.b h.s (by decide))⟩, blk_gM h.z hg (blk_neM h.z h.s (by decide)), blk_gM h.r hg (blk_neM h.r h.s (by decide)), hx, hq, below_gM h.b hg h.n2, h.n1, h.n2, h.n3⟩
end
/-- A row without its first. -/
theorem RowC.tail {w : World} {A : Option Addr} {n c : Nat} {y : List UInt8} {t : List (List UInt8)} (h : RowC w A n c (y :: t)) :
    ∃ A1 c1, (∀ W, (Instr.sliceAt 22 (.slice A n c) (some (.int .i64 1)) none none).run Try.prog W = .ok (.slice A1 (n - 1) c1) W) ∧ RowC w A1 (n - 1) c1 t := by
  obtain ⟨⟨hl, hn, hr⟩, hc⟩ := h
  rcases hc with ⟨rfl, rfl, _⟩ | ⟨_, h1, h2⟩
  · simp at hl
  · obtain ⟨g, o, B, rfl, _, _, e, r⟩ := hr.uncons n c hl h1 h2
    exact ⟨some B, c - 1, e, ⟨by simp at hl; omega, by omega, r⟩, .inr ⟨⟨_, rfl⟩, by omega, by omega⟩⟩
set_option maxRecDepth 100000 in
set_option maxHeartbeats 8000000 in
theorem climb1_low (w0 : World) (gp gz gr gw : Nat) (X : PlD) (hX : X.ok) (R : List UInt8) (hR : R.length = 32) (A : Option Addr) (m c : Nat) (y : List UInt8) (t : List (List UInt8)) (x z : Int) (hs : ¬ x < X.t) (W : World) (HS : CbS w0 gp gz gr gw X R A m c (y :: t) W) :
    Calls Try.prog 52 (#[.int .i64 x, .int .i64 z] ++ #[.pointer (some ⟨gr, 0, none⟩), .pointer (some ⟨gw, 0, none⟩), .pointer (some ⟨gp, 0, none⟩)]) W fun e w' => e = .returned (.tuple #[]) ∧ ∃ A' c', CbS w0 gp gz gr gw X (stepC true R y) A' (m - 1) c' t w' := by
  obtain ⟨gy, qy, fy0, ly, hiy⟩ := HS.q.1.2.2.pick (k := 0) (a := y) c HS.q.1.1 rfl
  obtain ⟨B, d, hsl, hq1⟩ := HS.q.tail
  have hu := Try.underlying24
  have hzr : (Try.prog.info? 24).map (·.size) = some (R.map u8v).length := by rw [List.length_map, hR]; exact sizeId
  have hzy : (Try.prog.info? 24).map (·.size) = some (y.map u8v).length := by rw [List.length_map, ly]; exact sizeId
  have hzr2 : (Try.prog.info? 24).map (·.size) = some (idVals R).size := by rw [idVals_size, hR]; exact sizeId
  have hzy2 : (Try.prog.info? 24).map (·.size) = some (idVals y).size := by rw [idVals_size, ly]; exact sizeId
  have h1r := idVals_one R
  have h1y := idVals_one y
  have hJ0 := stepC_length true R y
  have sR : (idVals R).size = 32 := by rw [idVals_size, hR]
  have sy : (idVals y).size = 32 := by rw [idVals_size, ly]
  have HP : Hid (∀ V, Calls Try.prog 53 #[.string ⟨#[106, 111, 105, 110]⟩, .agg (List.map u8v R).toArray, .agg (List.map u8v y).toArray] V fun e w' => e = .returned (.agg (idVals (stepC true R y))) ∧ Below V.heap.size V w') := hid (fun V => pair_any joinN (by decide) R y hR ly V)
  generalize stepC true R y = J at *
  have hzJ : (Try.prog.info? 24).map (·.size) = some (idVals J).size := by rw [idVals_size, hJ0]; exact sizeId
  have h1J := idVals_one J
  have sJ : (idVals J).size = 32 := by rw [idVals_size, hJ0]
  have HSd := hid (HS.below (below_drew1 W))
  have HY := hid (fy0.below HSd.out.b)
  have HIY : Hid (∀ W, (Instr.indexAt 22 (.slice A m c) (.int .i64 0)).run Try.prog W = .ok (.pointer (some ⟨gy, qy, none⟩)) W) := hid hiy
  have HSL := hid hsl
  have HQ1 := hid hq1
  clear HS fy0 hiy hsl hq1
  generalize m - 1 = m1 at *
  go_enter Try.func52, Try.ntmps52
  go_upto_region 0 with (fail)
  refine wp_region_held_drew (S := fun V => Below W.drew.heap.size W.drew V) (by kernel_rfl) (Below.refl _ _) (fun hHeld => ?_)
  generalize W.drew = V0 at *
  have fr := range_blk HSd.out.r
  have fs := HSd.out.s.cell_ (i := 0) rfl
  have fy := HY.out
  refine' wpAnyH_take (i := 0) (v := _) rfl (by kernel_rfl) (by kernel_rfl) (by kernel_rfl) (fun _ _ _ h => h) (yieldsIf_load_mid (by rfl) 24 _ rfl _ _ rfl (R.map u8v) _ (fun w' h => fr.below h) hu rfl hzr) hHeld ?_
  try simp only [Act.put, List.getElem_toArray, List.getElem_cons_succ, List.getElem_cons_zero, List.setIfInBounds_toArray, List.set_cons_zero, List.set_cons_succ]
  refine' wpAnyH_take (i := 1) (v := .slice A m c) rfl (by kernel_rfl) (by kernel_rfl) (by kernel_rfl) (fun _ _ _ h => h) (Or.inl ⟨by rfl, fun w' hw' => by have hv := cell_belM hw' fs; go_simp⟩) hHeld ?_
  try simp only [Act.put, List.getElem_toArray, List.getElem_cons_succ, List.getElem_cons_zero, List.setIfInBounds_toArray, List.set_cons_zero, List.set_cons_succ]
  refine' wpAnyH_take (i := 2) (v := .pointer (some ⟨gy, qy, none⟩)) rfl (by kernel_rfl) (by kernel_rfl) (by kernel_rfl) (fun _ _ _ h => h) (Or.inl ⟨by rfl, fun w' hw' => by have hv := HIY.out w'; go_simp⟩) hHeld ?_
  try simp only [Act.put, List.getElem_toArray, List.getElem_cons_succ, List.getElem_cons_zero, List.setIfInBounds_toArray, List.set_cons_zero, List.set_cons_succ]
  refine' wpAnyH_take (i := 3) (v := _) rfl (by kernel_rfl) (by kernel_rfl) (by kernel_rfl) (fun _ _ _ h => h) (yieldsIf_load_mid (by rfl) 24 _ rfl _ _ rfl (y.map u8v) _ (fun w' h => fy.below h) hu rfl hzy) hHeld ?_
  try simp only [Act.put, List.getElem_toArray, List.getElem_cons_succ, List.getElem_cons_zero, List.setIfInBounds_toArray, List.set_cons_zero, List.set_cons_succ]
  refine wpAnyH_ready (rs := [4, 5]) (by kernel_rfl) (by simp) ?_
  refine AllReadyH.cons rfl (fun K hK => ?_) (AllReadyH.cons rfl (fun K hK => ?_) AllReadyH.nil)
  · as_aux_lemma =>
      refine wp_allocI rfl ?_
      intro g7 cs7 V7 hs7 hn7 hB7 hb9
      have n7 : V0.heap.size ≤ g7 := by have := hn7.out; have := hHeld.size; omega
      refine hK.out _ _ (hHeld.trans (hb9.mono hHeld.size)) (fun hHeld => ?_)
      clear hK K hb9 hn7
      try simp only [Act.put, List.getElem_toArray, List.getElem_cons_succ, List.getElem_cons_zero, List.setIfInBounds_toArray, List.set_cons_zero, List.set_cons_succ]
      refine wpAnyH_ready (rs := [5]) (by kernel_rfl) (by simp) ?_
      refine AllReadyH.cons rfl (fun K hK => ?_) AllReadyH.nil
      refine wp_allocI rfl ?_
      intro g8 cs8 V8 hs8 hn8 hB8 hb9
      have n8 : V0.heap.size ≤ g8 := by have := hn8.out; have := hHeld.size; omega
      have ne : g7 ≠ g8 := by have := hn8.out; have := hB7.lt; omega
      replace hB7 := hB7.below hb9
      refine hK.out _ _ (hHeld.trans (hb9.mono hHeld.size)) (fun hHeld => ?_)
      clear hK K hb9 hn8
      try simp only [Act.put, List.getElem_toArray, List.getElem_cons_succ, List.getElem_cons_zero, List.setIfInBounds_toArray, List.set_cons_zero, List.set_cons_succ]
      refine wpAnyH_ready (rs := [6]) (by kernel_rfl) (by simp) ?_
      refine AllReadyH.cons rfl (fun K hK => ?_) AllReadyH.nil
      refine wp_store_blk 24 _ _ rfl g7 _ (idVals R) 24 hB7 rfl rfl hzr2 (by rw [hs7, sR]) h1r ?_
      clear hB7; intro V6 hB7 hg9
      replace hB8 := blk_gM hB8 hg9 ne.symm
      refine hK.out _ _ (hHeld.grown hg9 hHeld.size (fun q hq => by have := Option.some.inj hq; omega)) (fun hHeld => ?_)
      clear hK K hg9
      try simp only [Act.put, List.getElem_toArray, List.getElem_cons_succ, List.getElem_cons_zero, List.setIfInBounds_toArray, List.set_cons_zero, List.set_cons_succ]
      refine wpAnyH_ready (rs := [7]) (by kernel_rfl) (by simp) ?_
      refine AllReadyH.cons rfl (fun K hK => ?_) AllReadyH.nil
      refine wp_store_blk 24 _ _ rfl g8 _ (idVals y) 24 hB8 rfl rfl hzy2 (by rw [hs8, sy]) h1y ?_
      clear hB8; intro V7 hB8 hg9
      replace hB7 := blk_gM hB7 hg9 ne
      refine hK.out _ _ (hHeld.grown hg9 hHeld.size (fun q hq => by have := Option.some.inj hq; omega)) (fun hHeld => ?_)
      clear hK K hg9
      try simp only [Act.put, List.getElem_toArray, List.getElem_cons_succ, List.getElem_cons_zero, List.setIfInBounds_toArray, List.set_cons_zero, List.set_cons_succ]
      refine wpAnyH_done (by kernel_rfl) ?_ _
      have HH := hid hHeld
      have ft := (HSd.out.below hHeld).x.c32 hX
      have lr := HSd.out.r.lt
      have lw := HSd.out.s.lt
      have n9 : g7 ≠ gr ∧ g8 ≠ gr ∧ g7 ≠ gw ∧ g8 ≠ gw := by omega
      clear fr fs fy HY HIY hHeld lr lw
      go_upto_region 3 with (fail)
      have HC := hid ((HSd.out.below HH.out).below (below_drew1 _))
      clear ft HSd HH n7 n8 hs
      replace hB7 := hB7.below (below_drew1 _)
      replace hB8 := hB8.below (below_drew1 _)
      refine wp_region_held_drew (S := fun V => V.rangeAt g7 0 (R.map u8v) ∧ V.rangeAt g8 0 (y.map u8v)) (by kernel_rfl) ⟨range_blk hB7, range_blk hB8⟩ (fun hHeld => ?_)
      generalize World.drew _ = V5 at *
      refine' wpAnyH_take (i := 0) (v := _) rfl (by kernel_rfl) (by kernel_rfl) (by kernel_rfl) (fun _ _ _ h => h) (yieldsIf_load_mid (by rfl) 24 _ rfl _ _ rfl (R.map u8v) _ (fun w' h => h.1) hu rfl hzr) hHeld ?_
      try simp only [Act.put, List.getElem_toArray, List.getElem_cons_succ, List.getElem_cons_zero, List.setIfInBounds_toArray, List.set_cons_zero, List.set_cons_succ]
      refine' wpAnyH_take (i := 1) (v := _) rfl (by kernel_rfl) (by kernel_rfl) (by kernel_rfl) (fun _ _ _ h => h) (yieldsIf_load_mid (by rfl) 24 _ rfl _ _ rfl (y.map u8v) _ (fun w' h => h.2) hu rfl hzy) hHeld ?_
      try simp only [Act.put, List.getElem_toArray, List.getElem_cons_succ, List.getElem_cons_zero, List.setIfInBounds_toArray, List.set_cons_zero, List.set_cons_succ]
      refine wpAnyH_ready (rs := [2, 3]) (by kernel_rfl) (by simp) ?_
      refine AllReadyH.cons rfl (fun K hK => ?_) (AllReadyH.cons rfl (fun K hK => ?_) AllReadyH.nil)
      · as_aux_lemma =>
          go_simp
          (with_reducible refine (HP.out _).mono ?_)
          rintro e9 V9 ⟨rfl, hb9⟩
          replace HC := hid (HC.out.below hb9)
          replace hB7 := hB7.below hb9
          replace hB8 := hB8.below hb9
          refine hK.out _ _ ⟨range_blk hB7, range_blk hB8⟩ (fun hHeld => ?_)
          clear hK K hb9
          try simp only [Act.put, List.getElem_toArray, List.getElem_cons_succ, List.getElem_cons_zero, List.setIfInBounds_toArray, List.set_cons_zero, List.set_cons_succ]
          refine wpAnyH_ready (rs := [3, 5]) (by kernel_rfl) (by simp) ?_
          refine AllReadyH.cons rfl (fun K hK => ?_) (AllReadyH.cons rfl (fun K hK => ?_) AllReadyH.nil)
          · as_aux_lemma =>
              have fA := HC.out.s.cell_ (i := 0) rfl
              go_simp
              refine hK.out _ _ hHeld (fun hHeld => ?_)
              clear hK K fA
              try simp only [Act.put, List.getElem_toArray, List.getElem_cons_succ, List.getElem_cons_zero, List.setIfInBounds_toArray, List.set_cons_zero, List.set_cons_succ]
              refine' wpAnyH_take (i := 4) (v := .slice B m1 d) rfl (by kernel_rfl) (by kernel_rfl) (by kernel_rfl) (fun _ _ _ h => h) (Or.inl ⟨by rfl, fun w' hw' => by have hv := HSL.out w'; go_simp⟩) hHeld ?_
              try simp only [Act.put, List.getElem_toArray, List.getElem_cons_succ, List.getElem_cons_zero, List.setIfInBounds_toArray, List.set_cons_zero, List.set_cons_succ]
              refine wpAnyH_ready (rs := [5]) (by kernel_rfl) (by simp) ?_
              refine AllReadyH.cons rfl (fun K hK => ?_) AllReadyH.nil
              refine wp_store_blk 24 _ _ rfl gr _ (idVals J) 24 HC.out.r rfl rfl hzJ (sR.trans sJ.symm) h1J ?_
              intro V10 hB10 hg10
              replace hB7 := blk_gM hB7 hg10 n9.1
              replace hB8 := blk_gM hB8 hg10 n9.2.1
              replace HC := hid (HC.out.putR hB10 hg10)
              refine hK.out _ _ ⟨range_blk hB7, range_blk hB8⟩ (fun hHeld => ?_)
              clear hK K hB10 hg10
              try simp only [Act.put, List.getElem_toArray, List.getElem_cons_succ, List.getElem_cons_zero, List.setIfInBounds_toArray, List.set_cons_zero, List.set_cons_succ]
              refine wpAnyH_ready (rs := [6]) (by kernel_rfl) (by simp) ?_
              refine AllReadyH.cons rfl (fun K hK => ?_) AllReadyH.nil
              refine wp_store_sl _ _ rfl gw _ HC.out.s B m1 d rfl rfl ?_
              intro V11 hB11 hg11
              replace hB7 := blk_gM hB7 hg11 n9.2.2.1
              replace hB8 := blk_gM hB8 hg11 n9.2.2.2
              replace HC := hid (HC.out.putS HQ1.out hB11 hg11)
              refine hK.out _ _ ⟨range_blk hB7, range_blk hB8⟩ (fun hHeld => ?_)
              clear hK K hB11 hg11
              try simp only [Act.put, List.getElem_toArray, List.getElem_cons_succ, List.getElem_cons_zero, List.setIfInBounds_toArray, List.set_cons_zero, List.set_cons_succ]
              refine wpAnyH_done (by kernel_rfl) ?_ _
              clear hHeld hB7 hB8 n9
              go_wp2_with (fail)
              go_end0
              exact ⟨rfl, _, _, HC.out⟩
          · as_aux_lemma =>
              refine wp_store_blk 24 _ _ rfl gr _ (idVals J) 24 HC.out.r rfl rfl hzJ (sR.trans sJ.symm) h1J ?_
              intro V10 hB10 hg10
              replace hB7 := blk_gM hB7 hg10 n9.1
              replace hB8 := blk_gM hB8 hg10 n9.2.1
              replace HC := hid (HC.out.putR hB10 hg10)
              refine hK.out _ _ ⟨range_blk hB7, range_blk hB8⟩ (fun hHeld => ?_)
              clear hK K hB10 hg10
              try simp only [Act.put, List.getElem_toArray, List.getElem_cons_succ, List.getElem_cons_zero, List.setIfInBounds_toArray, List.set_cons_zero, List.set_cons_succ]
              refine wpAnyH_ready (rs := [3]) (by kernel_rfl) (by simp) ?_
              refine AllReadyH.cons rfl (fun K hK => ?_) AllReadyH.nil
              have fA := HC.out.s.cell_ (i := 0) rfl
              go_simp
              refine hK.out _ _ hHeld (fun hHeld => ?_)
              clear hK K fA
              try simp only [Act.put, List.getElem_toArray, List.getElem_cons_succ, List.getElem_cons_zero, List.setIfInBounds_toArray, List.set_cons_zero, List.set_cons_succ]
              refine' wpAnyH_take (i := 4) (v := .slice B m1 d) rfl (by kernel_rfl) (by kernel_rfl) (by kernel_rfl) (fun _ _ _ h => h) (Or.inl ⟨by rfl, fun w' hw' => by have hv := HSL.out w'; go_simp⟩) hHeld ?_
              try simp only [Act.put, List.getElem_toArray, List.getElem_cons_succ, List.getElem_cons_zero, List.setIfInBounds_toArray, List.set_cons_zero, List.set_cons_succ]
              refine wpAnyH_ready (rs := [6]) (by kernel_rfl) (by simp) ?_
              refine AllReadyH.cons rfl (fun K hK => ?_) AllReadyH.nil
              refine wp_store_sl _ _ rfl gw _ HC.out.s B m1 d rfl rfl ?_
              intro V11 hB11 hg11
              replace hB7 := blk_gM hB7 hg11 n9.2.2.1
              replace hB8 := blk_gM hB8 hg11 n9.2.2.2
              replace HC := hid (HC.out.putS HQ1.out hB11 hg11)
              refine hK.out _ _ ⟨range_blk hB7, range_blk hB8⟩ (fun hHeld => ?_)
              clear hK K hB11 hg11
              try simp only [Act.put, List.getElem_toArray, List.getElem_cons_succ, List.getElem_cons_zero, List.setIfInBounds_toArray, List.set_cons_zero, List.set_cons_succ]
              refine wpAnyH_done (by kernel_rfl) ?_ _
              clear hHeld hB7 hB8 n9
              go_wp2_with (fail)
              go_end0
              exact ⟨rfl, _, _, HC.out⟩
      · as_aux_lemma =>
          have fA := HC.out.s.cell_ (i := 0) rfl
          go_simp
          refine hK.out _ _ hHeld (fun hHeld => ?_)
          clear hK K fA
          try simp only [Act.put, List.getElem_toArray, List.getElem_cons_succ, List.getElem_cons_zero, List.setIfInBounds_toArray, List.set_cons_zero, List.set_cons_succ]
          refine' wpAnyH_take (i := 4) (v := .slice B m1 d) rfl (by kernel_rfl) (by kernel_rfl) (by kernel_rfl) (fun _ _ _ h => h) (Or.inl ⟨by rfl, fun w' hw' => by have hv := HSL.out w'; go_simp⟩) hHeld ?_
          try simp only [Act.put, List.getElem_toArray, List.getElem_cons_succ, List.getElem_cons_zero, List.setIfInBounds_toArray, List.set_cons_zero, List.set_cons_succ]
          refine wpAnyH_ready (rs := [2]) (by kernel_rfl) (by simp) ?_
          refine AllReadyH.cons rfl (fun K hK => ?_) AllReadyH.nil
          go_simp
          (with_reducible refine (HP.out _).mono ?_)
          rintro e9 V9 ⟨rfl, hb9⟩
          replace HC := hid (HC.out.below hb9)
          replace hB7 := hB7.below hb9
          replace hB8 := hB8.below hb9
          refine hK.out _ _ ⟨range_blk hB7, range_blk hB8⟩ (fun hHeld => ?_)
          clear hK K hb9
          try simp only [Act.put, List.getElem_toArray, List.getElem_cons_succ, List.getElem_cons_zero, List.setIfInBounds_toArray, List.set_cons_zero, List.set_cons_succ]
          refine wpAnyH_ready (rs := [5]) (by kernel_rfl) (by simp) ?_
          refine AllReadyH.cons rfl (fun K hK => ?_) AllReadyH.nil
          refine wp_store_blk 24 _ _ rfl gr _ (idVals J) 24 HC.out.r rfl rfl hzJ (sR.trans sJ.symm) h1J ?_
          intro V10 hB10 hg10
          replace hB7 := blk_gM hB7 hg10 n9.1
          replace hB8 := blk_gM hB8 hg10 n9.2.1
          replace HC := hid (HC.out.putR hB10 hg10)
          refine hK.out _ _ ⟨range_blk hB7, range_blk hB8⟩ (fun hHeld => ?_)
          clear hK K hB10 hg10
          try simp only [Act.put, List.getElem_toArray, List.getElem_cons_succ, List.getElem_cons_zero, List.setIfInBounds_toArray, List.set_cons_zero, List.set_cons_succ]
          refine wpAnyH_ready (rs := [6]) (by kernel_rfl) (by simp) ?_
          refine AllReadyH.cons rfl (fun K hK => ?_) AllReadyH.nil
          refine wp_store_sl _ _ rfl gw _ HC.out.s B m1 d rfl rfl ?_
          intro V11 hB11 hg11
          replace hB7 := blk_gM hB7 hg11 n9.2.2.1
          replace hB8 := blk_gM hB8 hg11 n9.2.2.2
          replace HC := hid (HC.out.putS HQ1.out hB11 hg11)
          refine hK.out _ _ ⟨range_blk hB7, range_blk hB8⟩ (fun hHeld => ?_)
          clear hK K hB11 hg11
          try simp only [Act.put, List.getElem_toArray, List.getElem_cons_succ, List.getElem_cons_zero, List.setIfInBounds_toArray, List.set_cons_zero, List.set_cons_succ]
          refine wpAnyH_done (by kernel_rfl) ?_ _
          clear hHeld hB7 hB8 n9
          go_wp2_with (fail)
          go_end0
          exact ⟨rfl, _, _, HC.out⟩
  · as_aux_lemma =>
      refine wp_allocI rfl ?_
      intro g8 cs8 V8 hs8 hn8 hB8 hb9
      have n8 : V0.heap.size ≤ g8 := by have := hn8.out; have := hHeld.size; omega
      refine hK.out _ _ (hHeld.trans (hb9.mono hHeld.size)) (fun hHeld => ?_)
      clear hK K hb9 hn8
      try simp only [Act.put, List.getElem_toArray, List.getElem_cons_succ, List.getElem_cons_zero, List.setIfInBounds_toArray, List.set_cons_zero, List.set_cons_succ]
      refine wpAnyH_ready (rs := [4]) (by kernel_rfl) (by simp) ?_
      refine AllReadyH.cons rfl (fun K hK => ?_) AllReadyH.nil
      refine wp_allocI rfl ?_
      intro g7 cs7 V7 hs7 hn7 hB7 hb9
      have n7 : V0.heap.size ≤ g7 := by have := hn7.out; have := hHeld.size; omega
      have ne : g7 ≠ g8 := by have := hn7.out; have := hB8.lt; omega
      replace hB8 := hB8.below hb9
      refine hK.out _ _ (hHeld.trans (hb9.mono hHeld.size)) (fun hHeld => ?_)
      clear hK K hb9 hn7
      try simp only [Act.put, List.getElem_toArray, List.getElem_cons_succ, List.getElem_cons_zero, List.setIfInBounds_toArray, List.set_cons_zero, List.set_cons_succ]
      refine wpAnyH_ready (rs := [6]) (by kernel_rfl) (by simp) ?_
      refine AllReadyH.cons rfl (fun K hK => ?_) AllReadyH.nil
      refine wp_store_blk 24 _ _ rfl g7 _ (idVals R) 24 hB7 rfl rfl hzr2 (by rw [hs7, sR]) h1r ?_
      clear hB7; intro V6 hB7 hg9
      replace hB8 := blk_gM hB8 hg9 ne.symm
      refine hK.out _ _ (hHeld.grown hg9 hHeld.size (fun q hq => by have := Option.some.inj hq; omega)) (fun hHeld => ?_)
      clear hK K hg9
      try simp only [Act.put, List.getElem_toArray, List.getElem_cons_succ, List.getElem_cons_zero, List.setIfInBounds_toArray, List.set_cons_zero, List.set_cons_succ]
      refine wpAnyH_ready (rs := [7]) (by kernel_rfl) (by simp) ?_
      refine AllReadyH.cons rfl (fun K hK => ?_) AllReadyH.nil
      refine wp_store_blk 24 _ _ rfl g8 _ (idVals y) 24 hB8 rfl rfl hzy2 (by rw [hs8, sy]) h1y ?_
      clear hB8; intro V7 hB8 hg9
      replace hB7 := blk_gM hB7 hg9 ne
      refine hK.out _ _ (hHeld.grown hg9 hHeld.size (fun q hq => by have := Option.some.inj hq; omega)) (fun hHeld => ?_)
      clear hK K hg9
      try simp only [Act.put, List.getElem_toArray, List.getElem_cons_succ, List.getElem_cons_zero, List.setIfInBounds_toArray, List.set_cons_zero, List.set_cons_succ]
      refine wpAnyH_done (by kernel_rfl) ?_ _
      have HH := hid hHeld
      have ft := (HSd.out.below hHeld).x.c32 hX
      have lr := HSd.out.r.lt
      have lw := HSd.out.s.lt
      have n9 : g7 ≠ gr ∧ g8 ≠ gr ∧ g7 ≠ gw ∧ g8 ≠ gw := by omega
      clear fr fs fy HY HIY hHeld lr lw
      go_upto_region 3 with (fail)
      have HC := hid ((HSd.out.below HH.out).below (below_drew1 _))
      clear ft HSd HH n7 n8 hs
      replace hB7 := hB7.below (below_drew1 _)
      replace hB8 := hB8.below (below_drew1 _)
      refine wp_region_held_drew (S := fun V => V.rangeAt g7 0 (R.map u8v) ∧ V.rangeAt g8 0 (y.map u8v)) (by kernel_rfl) ⟨range_blk hB7, range_blk hB8⟩ (fun hHeld => ?_)
      generalize World.drew _ = V5 at *
      refine' wpAnyH_take (i := 0) (v := _) rfl (by kernel_rfl) (by kernel_rfl) (by kernel_rfl) (fun _ _ _ h => h) (yieldsIf_load_mid (by rfl) 24 _ rfl _ _ rfl (R.map u8v) _ (fun w' h => h.1) hu rfl hzr) hHeld ?_
      try simp only [Act.put, List.getElem_toArray, List.getElem_cons_succ, List.getElem_cons_zero, List.setIfInBounds_toArray, List.set_cons_zero, List.set_cons_succ]
      refine' wpAnyH_take (i := 1) (v := _) rfl (by kernel_rfl) (by kernel_rfl) (by kernel_rfl) (fun _ _ _ h => h) (yieldsIf_load_mid (by rfl) 24 _ rfl _ _ rfl (y.map u8v) _ (fun w' h => h.2) hu rfl hzy) hHeld ?_
      try simp only [Act.put, List.getElem_toArray, List.getElem_cons_succ, List.getElem_cons_zero, List.setIfInBounds_toArray, List.set_cons_zero, List.set_cons_succ]
      refine wpAnyH_ready (rs := [2, 3]) (by kernel_rfl) (by simp) ?_
      refine AllReadyH.cons rfl (fun K hK => ?_) (AllReadyH.cons rfl (fun K hK => ?_) AllReadyH.nil)
      · as_aux_lemma =>
          go_simp
          (with_reducible refine (HP.out _).mono ?_)
          rintro e9 V9 ⟨rfl, hb9⟩
          replace HC := hid (HC.out.below hb9)
          replace hB7 := hB7.below hb9
          replace hB8 := hB8.below hb9
          refine hK.out _ _ ⟨range_blk hB7, range_blk hB8⟩ (fun hHeld => ?_)
          clear hK K hb9
          try simp only [Act.put, List.getElem_toArray, List.getElem_cons_succ, List.getElem_cons_zero, List.setIfInBounds_toArray, List.set_cons_zero, List.set_cons_succ]
          refine wpAnyH_ready (rs := [3, 5]) (by kernel_rfl) (by simp) ?_
          refine AllReadyH.cons rfl (fun K hK => ?_) (AllReadyH.cons rfl (fun K hK => ?_) AllReadyH.nil)
          · as_aux_lemma =>
              have fA := HC.out.s.cell_ (i := 0) rfl
              go_simp
              refine hK.out _ _ hHeld (fun hHeld => ?_)
              clear hK K fA
              try simp only [Act.put, List.getElem_toArray, List.getElem_cons_succ, List.getElem_cons_zero, List.setIfInBounds_toArray, List.set_cons_zero, List.set_cons_succ]
              refine' wpAnyH_take (i := 4) (v := .slice B m1 d) rfl (by kernel_rfl) (by kernel_rfl) (by kernel_rfl) (fun _ _ _ h => h) (Or.inl ⟨by rfl, fun w' hw' => by have hv := HSL.out w'; go_simp⟩) hHeld ?_
              try simp only [Act.put, List.getElem_toArray, List.getElem_cons_succ, List.getElem_cons_zero, List.setIfInBounds_toArray, List.set_cons_zero, List.set_cons_succ]
              refine wpAnyH_ready (rs := [5]) (by kernel_rfl) (by simp) ?_
              refine AllReadyH.cons rfl (fun K hK => ?_) AllReadyH.nil
              refine wp_store_blk 24 _ _ rfl gr _ (idVals J) 24 HC.out.r rfl rfl hzJ (sR.trans sJ.symm) h1J ?_
              intro V10 hB10 hg10
              replace hB7 := blk_gM hB7 hg10 n9.1
              replace hB8 := blk_gM hB8 hg10 n9.2.1
              replace HC := hid (HC.out.putR hB10 hg10)
              refine hK.out _ _ ⟨range_blk hB7, range_blk hB8⟩ (fun hHeld => ?_)
              clear hK K hB10 hg10
              try simp only [Act.put, List.getElem_toArray, List.getElem_cons_succ, List.getElem_cons_zero, List.setIfInBounds_toArray, List.set_cons_zero, List.set_cons_succ]
              refine wpAnyH_ready (rs := [6]) (by kernel_rfl) (by simp) ?_
              refine AllReadyH.cons rfl (fun K hK => ?_) AllReadyH.nil
              refine wp_store_sl _ _ rfl gw _ HC.out.s B m1 d rfl rfl ?_
              intro V11 hB11 hg11
              replace hB7 := blk_gM hB7 hg11 n9.2.2.1
              replace hB8 := blk_gM hB8 hg11 n9.2.2.2
              replace HC := hid (HC.out.putS HQ1.out hB11 hg11)
              refine hK.out _ _ ⟨range_blk hB7, range_blk hB8⟩ (fun hHeld => ?_)
              clear hK K hB11 hg11
              try simp only [Act.put, List.getElem_toArray, List.getElem_cons_succ, List.getElem_cons_zero, List.setIfInBounds_toArray, List.set_cons_zero, List.set_cons_succ]
              refine wpAnyH_done (by kernel_rfl) ?_ _
              clear hHeld hB7 hB8 n9
              go_wp2_with (fail)
              go_end0
              exact ⟨rfl, _, _, HC.out⟩
          · as_aux_lemma =>
              refine wp_store_blk 24 _ _ rfl gr _ (idVals J) 24 HC.out.r rfl rfl hzJ (sR.trans sJ.symm) h1J ?_
              intro V10 hB10 hg10
              replace hB7 := blk_gM hB7 hg10 n9.1
              replace hB8 := blk_gM hB8 hg10 n9.2.1
              replace HC := hid (HC.out.putR hB10 hg10)
              refine hK.out _ _ ⟨range_blk hB7, range_blk hB8⟩ (fun hHeld => ?_)
              clear hK K hB10 hg10
              try simp only [Act.put, List.getElem_toArray, List.getElem_cons_succ, List.getElem_cons_zero, List.setIfInBounds_toArray, List.set_cons_zero, List.set_cons_succ]
              refine wpAnyH_ready (rs := [3]) (by kernel_rfl) (by simp) ?_
              refine AllReadyH.cons rfl (fun K hK => ?_) AllReadyH.nil
              have fA := HC.out.s.cell_ (i := 0) rfl
              go_simp
              refine hK.out _ _ hHeld (fun hHeld => ?_)
              clear hK K fA
              try simp only [Act.put, List.getElem_toArray, List.getElem_cons_succ, List.getElem_cons_zero, List.setIfInBounds_toArray, List.set_cons_zero, List.set_cons_succ]
              refine' wpAnyH_take (i := 4) (v := .slice B m1 d) rfl (by kernel_rfl) (by kernel_rfl) (by kernel_rfl) (fun _ _ _ h => h) (Or.inl ⟨by rfl, fun w' hw' => by have hv := HSL.out w'; go_simp⟩) hHeld ?_
              try simp only [Act.put, List.getElem_toArray, List.getElem_cons_succ, List.getElem_cons_zero, List.setIfInBounds_toArray, List.set_cons_zero, List.set_cons_succ]
              refine wpAnyH_ready (rs := [6]) (by kernel_rfl) (by simp) ?_
              refine AllReadyH.cons rfl (fun K hK => ?_) AllReadyH.nil
              refine wp_store_sl _ _ rfl gw _ HC.out.s B m1 d rfl rfl ?_
              intro V11 hB11 hg11
              replace hB7 := blk_gM hB7 hg11 n9.2.2.1
              replace hB8 := blk_gM hB8 hg11 n9.2.2.2
              replace HC := hid (HC.out.putS HQ1.out hB11 hg11)
              refine hK.out _ _ ⟨range_blk hB7, range_blk hB8⟩ (fun hHeld => ?_)
              clear hK K hB11 hg11
              try simp only [Act.put, List.getElem_toArray, List.getElem_cons_succ, List.getElem_cons_zero, List.setIfInBounds_toArray, List.set_cons_zero, List.set_cons_succ]
              refine wpAnyH_done (by kernel_rfl) ?_ _
              clear hHeld hB7 hB8 n9
              go_wp2_with (fail)
              go_end0
              exact ⟨rfl, _, _, HC.out⟩
      · as_aux_lemma =>
          have fA := HC.out.s.cell_ (i := 0) rfl
          go_simp
          refine hK.out _ _ hHeld (fun hHeld => ?_)
          clear hK K fA
          try simp only [Act.put, List.getElem_toArray, List.getElem_cons_succ, List.getElem_cons_zero, List.setIfInBounds_toArray, List.set_cons_zero, List.set_cons_succ]
          refine' wpAnyH_take (i := 4) (v := .slice B m1 d) rfl (by kernel_rfl) (by kernel_rfl) (by kernel_rfl) (fun _ _ _ h => h) (Or.inl ⟨by rfl, fun w' hw' => by have hv := HSL.out w'; go_simp⟩) hHeld ?_
          try simp only [Act.put, List.getElem_toArray, List.getElem_cons_succ, List.getElem_cons_zero, List.setIfInBounds_toArray, List.set_cons_zero, List.set_cons_succ]
          refine wpAnyH_ready (rs := [2]) (by kernel_rfl) (by simp) ?_
          refine AllReadyH.cons rfl (fun K hK => ?_) AllReadyH.nil
          go_simp
          (with_reducible refine (HP.out _).mono ?_)
          rintro e9 V9 ⟨rfl, hb9⟩
          replace HC := hid (HC.out.below hb9)
          replace hB7 := hB7.below hb9
          replace hB8 := hB8.below hb9
          refine hK.out _ _ ⟨range_blk hB7, range_blk hB8⟩ (fun hHeld => ?_)
          clear hK K hb9
          try simp only [Act.put, List.getElem_toArray, List.getElem_cons_succ, List.getElem_cons_zero, List.setIfInBounds_toArray, List.set_cons_zero, List.set_cons_succ]
          refine wpAnyH_ready (rs := [5]) (by kernel_rfl) (by simp) ?_
          refine AllReadyH.cons rfl (fun K hK => ?_) AllReadyH.nil
          refine wp_store_blk 24 _ _ rfl gr _ (idVals J) 24 HC.out.r rfl rfl hzJ (sR.trans sJ.symm) h1J ?_
          intro V10 hB10 hg10
          replace hB7 := blk_gM hB7 hg10 n9.1
          replace hB8 := blk_gM hB8 hg10 n9.2.1
          replace HC := hid (HC.out.putR hB10 hg10)
          refine hK.out _ _ ⟨range_blk hB7, range_blk hB8⟩ (fun hHeld => ?_)
          clear hK K hB10 hg10
          try simp only [Act.put, List.getElem_toArray, List.getElem_cons_succ, List.getElem_cons_zero, List.setIfInBounds_toArray, List.set_cons_zero, List.set_cons_succ]
          refine wpAnyH_ready (rs := [6]) (by kernel_rfl) (by simp) ?_
          refine AllReadyH.cons rfl (fun K hK => ?_) AllReadyH.nil
          refine wp_store_sl _ _ rfl gw _ HC.out.s B m1 d rfl rfl ?_
          intro V11 hB11 hg11
          replace hB7 := blk_gM hB7 hg11 n9.2.2.1
          replace hB8 := blk_gM hB8 hg11 n9.2.2.2
          replace HC := hid (HC.out.putS HQ1.out hB11 hg11)
          refine hK.out _ _ ⟨range_blk hB7, range_blk hB8⟩ (fun hHeld => ?_)
          clear hK K hB11 hg11
          try simp only [Act.put, List.getElem_toArray, List.getElem_cons_succ, List.getElem_cons_zero, List.setIfInBounds_toArray, List.set_cons_zero, List.set_cons_succ]
          refine wpAnyH_done (by kernel_rfl) ?_ _
          clear hHeld hB7 hB8 n9
          go_wp2_with (fail)
          go_end0
          exact ⟨rfl, _, _, HC.out⟩
set_option maxRecDepth 100000 in
set_option maxHeartbeats 8000000 in
theorem climb1_high (w0 : World) (gp gz gr gw : Nat) (X : PlD) (hX : X.ok) (R : List UInt8) (hR : R.length = 32) (A : Option Addr) (m c : Nat) (y : List UInt8) (t : List (List UInt8)) (x z : Int) (hs : x < X.t) (W : World) (HS : CbS w0 gp gz gr gw X R A m c (y :: t) W) :
    Calls Try.prog 52 (#[.int .i64 x, .int .i64 z] ++ #[.pointer (some ⟨gr, 0, none⟩), .pointer (some ⟨gw, 0, none⟩), .pointer (some ⟨gp, 0, none⟩)]) W fun e w' => e = .returned (.tuple #[]) ∧ ∃ A' c', CbS w0 gp gz gr gw X (stepC false R y) A' (m - 1) c' t w' := by
  obtain ⟨gy, qy, fy0, ly, hiy⟩ := HS.q.1.2.2.pick (k := 0) (a := y) c HS.q.1.1 rfl
  obtain ⟨B, d, hsl, hq1⟩ := HS.q.tail
  have hu := Try.underlying24
  have hzr : (Try.prog.info? 24).map (·.size) = some (R.map u8v).length := by rw [List.length_map, hR]; exact sizeId
  have hzy : (Try.prog.info? 24).map (·.size) = some (y.map u8v).length := by rw [List.length_map, ly]; exact sizeId
  have hzr2 : (Try.prog.info? 24).map (·.size) = some (idVals R).size := by rw [idVals_size, hR]; exact sizeId
  have hzy2 : (Try.prog.info? 24).map (·.size) = some (idVals y).size := by rw [idVals_size, ly]; exact sizeId
  have h1r := idVals_one R
  have h1y := idVals_one y
  have hJ0 := stepC_length false R y
  have sR : (idVals R).size = 32 := by rw [idVals_size, hR]
  have sy : (idVals y).size = 32 := by rw [idVals_size, ly]
  have HP : Hid (∀ V, Calls Try.prog 53 #[.string ⟨#[106, 111, 105, 110]⟩, .agg (List.map u8v y).toArray, .agg (List.map u8v R).toArray] V fun e w' => e = .returned (.agg (idVals (stepC false R y))) ∧ Below V.heap.size V w') := hid (fun V => pair_any joinN (by decide) y R ly hR V)
  generalize stepC false R y = J at *
  have hzJ : (Try.prog.info? 24).map (·.size) = some (idVals J).size := by rw [idVals_size, hJ0]; exact sizeId
  have h1J := idVals_one J
  have sJ : (idVals J).size = 32 := by rw [idVals_size, hJ0]
  have HSd := hid (HS.below (below_drew1 W))
  have HY := hid (fy0.below HSd.out.b)
  have HIY : Hid (∀ W, (Instr.indexAt 22 (.slice A m c) (.int .i64 0)).run Try.prog W = .ok (.pointer (some ⟨gy, qy, none⟩)) W) := hid hiy
  have HSL := hid hsl
  have HQ1 := hid hq1
  clear HS fy0 hiy hsl hq1
  generalize m - 1 = m1 at *
  go_enter Try.func52, Try.ntmps52
  go_upto_region 0 with (fail)
  refine wp_region_held_drew (S := fun V => Below W.drew.heap.size W.drew V) (by kernel_rfl) (Below.refl _ _) (fun hHeld => ?_)
  generalize W.drew = V0 at *
  have fr := range_blk HSd.out.r
  have fs := HSd.out.s.cell_ (i := 0) rfl
  have fy := HY.out
  refine' wpAnyH_take (i := 0) (v := _) rfl (by kernel_rfl) (by kernel_rfl) (by kernel_rfl) (fun _ _ _ h => h) (yieldsIf_load_mid (by rfl) 24 _ rfl _ _ rfl (R.map u8v) _ (fun w' h => fr.below h) hu rfl hzr) hHeld ?_
  try simp only [Act.put, List.getElem_toArray, List.getElem_cons_succ, List.getElem_cons_zero, List.setIfInBounds_toArray, List.set_cons_zero, List.set_cons_succ]
  refine' wpAnyH_take (i := 1) (v := .slice A m c) rfl (by kernel_rfl) (by kernel_rfl) (by kernel_rfl) (fun _ _ _ h => h) (Or.inl ⟨by rfl, fun w' hw' => by have hv := cell_belM hw' fs; go_simp⟩) hHeld ?_
  try simp only [Act.put, List.getElem_toArray, List.getElem_cons_succ, List.getElem_cons_zero, List.setIfInBounds_toArray, List.set_cons_zero, List.set_cons_succ]
  refine' wpAnyH_take (i := 2) (v := .pointer (some ⟨gy, qy, none⟩)) rfl (by kernel_rfl) (by kernel_rfl) (by kernel_rfl) (fun _ _ _ h => h) (Or.inl ⟨by rfl, fun w' hw' => by have hv := HIY.out w'; go_simp⟩) hHeld ?_
  try simp only [Act.put, List.getElem_toArray, List.getElem_cons_succ, List.getElem_cons_zero, List.setIfInBounds_toArray, List.set_cons_zero, List.set_cons_succ]
  refine' wpAnyH_take (i := 3) (v := _) rfl (by kernel_rfl) (by kernel_rfl) (by kernel_rfl) (fun _ _ _ h => h) (yieldsIf_load_mid (by rfl) 24 _ rfl _ _ rfl (y.map u8v) _ (fun w' h => fy.below h) hu rfl hzy) hHeld ?_
  try simp only [Act.put, List.getElem_toArray, List.getElem_cons_succ, List.getElem_cons_zero, List.setIfInBounds_toArray, List.set_cons_zero, List.set_cons_succ]
  refine wpAnyH_ready (rs := [4, 5]) (by kernel_rfl) (by simp) ?_
  refine AllReadyH.cons rfl (fun K hK => ?_) (AllReadyH.cons rfl (fun K hK => ?_) AllReadyH.nil)
  · as_aux_lemma =>
      refine wp_allocI rfl ?_
      intro g7 cs7 V7 hs7 hn7 hB7 hb9
      have n7 : V0.heap.size ≤ g7 := by have := hn7.out; have := hHeld.size; omega
      refine hK.out _ _ (hHeld.trans (hb9.mono hHeld.size)) (fun hHeld => ?_)
      clear hK K hb9 hn7
      try simp only [Act.put, List.getElem_toArray, List.getElem_cons_succ, List.getElem_cons_zero, List.setIfInBounds_toArray, List.set_cons_zero, List.set_cons_succ]
      refine wpAnyH_ready (rs := [5]) (by kernel_rfl) (by simp) ?_
      refine AllReadyH.cons rfl (fun K hK => ?_) AllReadyH.nil
      refine wp_allocI rfl ?_
      intro g8 cs8 V8 hs8 hn8 hB8 hb9
      have n8 : V0.heap.size ≤ g8 := by have := hn8.out; have := hHeld.size; omega
      have ne : g7 ≠ g8 := by have := hn8.out; have := hB7.lt; omega
      replace hB7 := hB7.below hb9
      refine hK.out _ _ (hHeld.trans (hb9.mono hHeld.size)) (fun hHeld => ?_)
      clear hK K hb9 hn8
      try simp only [Act.put, List.getElem_toArray, List.getElem_cons_succ, List.getElem_cons_zero, List.setIfInBounds_toArray, List.set_cons_zero, List.set_cons_succ]
      refine wpAnyH_ready (rs := [6]) (by kernel_rfl) (by simp) ?_
      refine AllReadyH.cons rfl (fun K hK => ?_) AllReadyH.nil
      refine wp_store_blk 24 _ _ rfl g7 _ (idVals R) 24 hB7 rfl rfl hzr2 (by rw [hs7, sR]) h1r ?_
      clear hB7; intro V6 hB7 hg9
      replace hB8 := blk_gM hB8 hg9 ne.symm
      refine hK.out _ _ (hHeld.grown hg9 hHeld.size (fun q hq => by have := Option.some.inj hq; omega)) (fun hHeld => ?_)
      clear hK K hg9
      try simp only [Act.put, List.getElem_toArray, List.getElem_cons_succ, List.getElem_cons_zero, List.setIfInBounds_toArray, List.set_cons_zero, List.set_cons_succ]
      refine wpAnyH_ready (rs := [7]) (by kernel_rfl) (by simp) ?_
      refine AllReadyH.cons rfl (fun K hK => ?_) AllReadyH.nil
      refine wp_store_blk 24 _ _ rfl g8 _ (idVals y) 24 hB8 rfl rfl hzy2 (by rw [hs8, sy]) h1y ?_
      clear hB8; intro V7 hB8 hg9
      replace hB7 := blk_gM hB7 hg9 ne
      refine hK.out _ _ (hHeld.grown hg9 hHeld.size (fun q hq => by have := Option.some.inj hq; omega)) (fun hHeld => ?_)
      clear hK K hg9
      try simp only [Act.put, List.getElem_toArray, List.getElem_cons_succ, List.getElem_cons_zero, List.setIfInBounds_toArray, List.set_cons_zero, List.set_cons_succ]
      refine wpAnyH_done (by kernel_rfl) ?_ _
      have HH := hid hHeld
      have ft := (HSd.out.below hHeld).x.c32 hX
      have lr := HSd.out.r.lt
      have lw := HSd.out.s.lt
      have n9 : g7 ≠ gr ∧ g8 ≠ gr ∧ g7 ≠ gw ∧ g8 ≠ gw := by omega
      clear fr fs fy HY HIY hHeld lr lw
      have fr7 := range_blk hB7
      have fy8 := range_blk hB8
      go_upto_region 3 with (first
        | (with_reducible refine wpList_load_if (by with_unfolding_all rfl) 24 _ rfl _ _ rfl (R.map u8v) _ fr7 hu rfl hzr ?_)
        | (with_reducible refine wpList_load_if (by with_unfolding_all rfl) 24 _ rfl _ _ rfl (y.map u8v) _ fy8 hu rfl hzy ?_)
        | ((with_reducible refine wpList_store_blk rfl 24 _ _ rfl g7 (idVals R) (idVals y) 24 hB7 rfl rfl hzy2 (sR.trans sy.symm) h1y ?_); intro w9 hC7 hg7; have hC8 := blk_gM hB8 hg7 ne.symm)
        | ((with_reducible refine wpList_store_blk rfl 24 _ _ rfl g8 (idVals y) (idVals R) 24 hC8 rfl rfl hzr2 (sy.trans sR.symm) h1r ?_); intro w10 hC9 hg8))
      have hC10 := blk_gM hC7 hg8 ne
      replace HH := hid ((HH.out.grown hg7 HH.out.size (fun q hq => by have := Option.some.inj hq; omega)).grown hg8 (Nat.le_trans HH.out.size hg7.size) (fun q hq => by have := Option.some.inj hq; omega))
      clear hB7 hB8 fr7 fy8
      have hB7 := hC10
      have hB8 := hC9
      clear hC7 hC8 hC9 hC10 hg7 hg8
      have HC := hid ((HSd.out.below HH.out).below (below_drew1 _))
      clear ft HSd HH n7 n8 hs
      replace hB7 := hB7.below (below_drew1 _)
      replace hB8 := hB8.below (below_drew1 _)
      refine wp_region_held_drew (S := fun V => V.rangeAt g7 0 (y.map u8v) ∧ V.rangeAt g8 0 (R.map u8v)) (by kernel_rfl) ⟨range_blk hB7, range_blk hB8⟩ (fun hHeld => ?_)
      generalize World.drew _ = V5 at *
      refine' wpAnyH_take (i := 0) (v := _) rfl (by kernel_rfl) (by kernel_rfl) (by kernel_rfl) (fun _ _ _ h => h) (yieldsIf_load_mid (by rfl) 24 _ rfl _ _ rfl (y.map u8v) _ (fun w' h => h.1) hu rfl hzy) hHeld ?_
      try simp only [Act.put, List.getElem_toArray, List.getElem_cons_succ, List.getElem_cons_zero, List.setIfInBounds_toArray, List.set_cons_zero, List.set_cons_succ]
      refine' wpAnyH_take (i := 1) (v := _) rfl (by kernel_rfl) (by kernel_rfl) (by kernel_rfl) (fun _ _ _ h => h) (yieldsIf_load_mid (by rfl) 24 _ rfl _ _ rfl (R.map u8v) _ (fun w' h => h.2) hu rfl hzr) hHeld ?_
      try simp only [Act.put, List.getElem_toArray, List.getElem_cons_succ, List.getElem_cons_zero, List.setIfInBounds_toArray, List.set_cons_zero, List.set_cons_succ]
      refine wpAnyH_ready (rs := [2, 3]) (by kernel_rfl) (by simp) ?_
      refine AllReadyH.cons rfl (fun K hK => ?_) (AllReadyH.cons rfl (fun K hK => ?_) AllReadyH.nil)
      · as_aux_lemma =>
          go_simp
          (with_reducible refine (HP.out _).mono ?_)
          rintro e9 V9 ⟨rfl, hb9⟩
          replace HC := hid (HC.out.below hb9)
          replace hB7 := hB7.below hb9
          replace hB8 := hB8.below hb9
          refine hK.out _ _ ⟨range_blk hB7, range_blk hB8⟩ (fun hHeld => ?_)
          clear hK K hb9
          try simp only [Act.put, List.getElem_toArray, List.getElem_cons_succ, List.getElem_cons_zero, List.setIfInBounds_toArray, List.set_cons_zero, List.set_cons_succ]
          refine wpAnyH_ready (rs := [3, 5]) (by kernel_rfl) (by simp) ?_
          refine AllReadyH.cons rfl (fun K hK => ?_) (AllReadyH.cons rfl (fun K hK => ?_) AllReadyH.nil)
          · as_aux_lemma =>
              have fA := HC.out.s.cell_ (i := 0) rfl
              go_simp
              refine hK.out _ _ hHeld (fun hHeld => ?_)
              clear hK K fA
              try simp only [Act.put, List.getElem_toArray, List.getElem_cons_succ, List.getElem_cons_zero, List.setIfInBounds_toArray, List.set_cons_zero, List.set_cons_succ]
              refine' wpAnyH_take (i := 4) (v := .slice B m1 d) rfl (by kernel_rfl) (by kernel_rfl) (by kernel_rfl) (fun _ _ _ h => h) (Or.inl ⟨by rfl, fun w' hw' => by have hv := HSL.out w'; go_simp⟩) hHeld ?_
              try simp only [Act.put, List.getElem_toArray, List.getElem_cons_succ, List.getElem_cons_zero, List.setIfInBounds_toArray, List.set_cons_zero, List.set_cons_succ]
              refine wpAnyH_ready (rs := [5]) (by kernel_rfl) (by simp) ?_
              refine AllReadyH.cons rfl (fun K hK => ?_) AllReadyH.nil
              refine wp_store_blk 24 _ _ rfl gr _ (idVals J) 24 HC.out.r rfl rfl hzJ (sR.trans sJ.symm) h1J ?_
              intro V10 hB10 hg10
              replace hB7 := blk_gM hB7 hg10 n9.1
              replace hB8 := blk_gM hB8 hg10 n9.2.1
              replace HC := hid (HC.out.putR hB10 hg10)
              refine hK.out _ _ ⟨range_blk hB7, range_blk hB8⟩ (fun hHeld => ?_)
              clear hK K hB10 hg10
              try simp only [Act.put, List.getElem_toArray, List.getElem_cons_succ, List.getElem_cons_zero, List.setIfInBounds_toArray, List.set_cons_zero, List.set_cons_succ]
              refine wpAnyH_ready (rs := [6]) (by kernel_rfl) (by simp) ?_
              refine AllReadyH.cons rfl (fun K hK => ?_) AllReadyH.nil
              refine wp_store_sl _ _ rfl gw _ HC.out.s B m1 d rfl rfl ?_
              intro V11 hB11 hg11
              replace hB7 := blk_gM hB7 hg11 n9.2.2.1
              replace hB8 := blk_gM hB8 hg11 n9.2.2.2
              replace HC := hid (HC.out.putS HQ1.out hB11 hg11)
              refine hK.out _ _ ⟨range_blk hB7, range_blk hB8⟩ (fun hHeld => ?_)
              clear hK K hB11 hg11
              try simp only [Act.put, List.getElem_toArray, List.getElem_cons_succ, List.getElem_cons_zero, List.setIfInBounds_toArray, List.set_cons_zero, List.set_cons_succ]
              refine wpAnyH_done (by kernel_rfl) ?_ _
              clear hHeld hB7 hB8 n9
              go_wp2_with (fail)
              go_end0
              exact ⟨rfl, _, _, HC.out⟩
          · as_aux_lemma =>
              refine wp_store_blk 24 _ _ rfl gr _ (idVals J) 24 HC.out.r rfl rfl hzJ (sR.trans sJ.symm) h1J ?_
              intro V10 hB10 hg10
              replace hB7 := blk_gM hB7 hg10 n9.1
              replace hB8 := blk_gM hB8 hg10 n9.2.1
              replace HC := hid (HC.out.putR hB10 hg10)
              refine hK.out _ _ ⟨range_blk hB7, range_blk hB8⟩ (fun hHeld => ?_)
              clear hK K hB10 hg10
              try simp only [Act.put, List.getElem_toArray, List.getElem_cons_succ, List.getElem_cons_zero, List.setIfInBounds_toArray, List.set_cons_zero, List.set_cons_succ]
              refine wpAnyH_ready (rs := [3]) (by kernel_rfl) (by simp) ?_
              refine AllReadyH.cons rfl (fun K hK => ?_) AllReadyH.nil
              have fA := HC.out.s.cell_ (i := 0) rfl
              go_simp
              refine hK.out _ _ hHeld (fun hHeld => ?_)
              clear hK K fA
              try simp only [Act.put, List.getElem_toArray, List.getElem_cons_succ, List.getElem_cons_zero, List.setIfInBounds_toArray, List.set_cons_zero, List.set_cons_succ]
              refine' wpAnyH_take (i := 4) (v := .slice B m1 d) rfl (by kernel_rfl) (by kernel_rfl) (by kernel_rfl) (fun _ _ _ h => h) (Or.inl ⟨by rfl, fun w' hw' => by have hv := HSL.out w'; go_simp⟩) hHeld ?_
              try simp only [Act.put, List.getElem_toArray, List.getElem_cons_succ, List.getElem_cons_zero, List.setIfInBounds_toArray, List.set_cons_zero, List.set_cons_succ]
              refine wpAnyH_ready (rs := [6]) (by kernel_rfl) (by simp) ?_
              refine AllReadyH.cons rfl (fun K hK => ?_) AllReadyH.nil
              refine wp_store_sl _ _ rfl gw _ HC.out.s B m1 d rfl rfl ?_
              intro V11 hB11 hg11
              replace hB7 := blk_gM hB7 hg11 n9.2.2.1
              replace hB8 := blk_gM hB8 hg11 n9.2.2.2
              replace HC := hid (HC.out.putS HQ1.out hB11 hg11)
              refine hK.out _ _ ⟨range_blk hB7, range_blk hB8⟩ (fun hHeld => ?_)
              clear hK K hB11 hg11
              try simp only [Act.put, List.getElem_toArray, List.getElem_cons_succ, List.getElem_cons_zero, List.setIfInBounds_toArray, List.set_cons_zero, List.set_cons_succ]
              refine wpAnyH_done (by kernel_rfl) ?_ _
              clear hHeld hB7 hB8 n9
              go_wp2_with (fail)
              go_end0
              exact ⟨rfl, _, _, HC.out⟩
      · as_aux_lemma =>
          have fA := HC.out.s.cell_ (i := 0) rfl
          go_simp
          refine hK.out _ _ hHeld (fun hHeld => ?_)
          clear hK K fA
          try simp only [Act.put, List.getElem_toArray, List.getElem_cons_succ, List.getElem_cons_zero, List.setIfInBounds_toArray, List.set_cons_zero, List.set_cons_succ]
          refine' wpAnyH_take (i := 4) (v := .slice B m1 d) rfl (by kernel_rfl) (by kernel_rfl) (by kernel_rfl) (fun _ _ _ h => h) (Or.inl ⟨by rfl, fun w' hw' => by have hv := HSL.out w'; go_simp⟩) hHeld ?_
          try simp only [Act.put, List.getElem_toArray, List.getElem_cons_succ, List.getElem_cons_zero, List.setIfInBounds_toArray, List.set_cons_zero, List.set_cons_succ]
          refine wpAnyH_ready (rs := [2]) (by kernel_rfl) (by simp) ?_
          refine AllReadyH.cons rfl (fun K hK => ?_) AllReadyH.nil
          go_simp
          (with_reducible refine (HP.out _).mono ?_)
          rintro e9 V9 ⟨rfl, hb9⟩
          replace HC := hid (HC.out.below hb9)
          replace hB7 := hB7.below hb9
          replace hB8 := hB8.below hb9
          refine hK.out _ _ ⟨range_blk hB7, range_blk hB8⟩ (fun hHeld => ?_)
          clear hK K hb9
          try simp only [Act.put, List.getElem_toArray, List.getElem_cons_succ, List.getElem_cons_zero, List.setIfInBounds_toArray, List.set_cons_zero, List.set_cons_succ]
          refine wpAnyH_ready (rs := [5]) (by kernel_rfl) (by simp) ?_
          refine AllReadyH.cons rfl (fun K hK => ?_) AllReadyH.nil
          refine wp_store_blk 24 _ _ rfl gr _ (idVals J) 24 HC.out.r rfl rfl hzJ (sR.trans sJ.symm) h1J ?_
          intro V10 hB10 hg10
          replace hB7 := blk_gM hB7 hg10 n9.1
          replace hB8 := blk_gM hB8 hg10 n9.2.1
          replace HC := hid (HC.out.putR hB10 hg10)
          refine hK.out _ _ ⟨range_blk hB7, range_blk hB8⟩ (fun hHeld => ?_)
          clear hK K hB10 hg10
          try simp only [Act.put, List.getElem_toArray, List.getElem_cons_succ, List.getElem_cons_zero, List.setIfInBounds_toArray, List.set_cons_zero, List.set_cons_succ]
          refine wpAnyH_ready (rs := [6]) (by kernel_rfl) (by simp) ?_
          refine AllReadyH.cons rfl (fun K hK => ?_) AllReadyH.nil
          refine wp_store_sl _ _ rfl gw _ HC.out.s B m1 d rfl rfl ?_
          intro V11 hB11 hg11
          replace hB7 := blk_gM hB7 hg11 n9.2.2.1
          replace hB8 := blk_gM hB8 hg11 n9.2.2.2
          replace HC := hid (HC.out.putS HQ1.out hB11 hg11)
          refine hK.out _ _ ⟨range_blk hB7, range_blk hB8⟩ (fun hHeld => ?_)
          clear hK K hB11 hg11
          try simp only [Act.put, List.getElem_toArray, List.getElem_cons_succ, List.getElem_cons_zero, List.setIfInBounds_toArray, List.set_cons_zero, List.set_cons_succ]
          refine wpAnyH_done (by kernel_rfl) ?_ _
          clear hHeld hB7 hB8 n9
          go_wp2_with (fail)
          go_end0
          exact ⟨rfl, _, _, HC.out⟩
  · as_aux_lemma =>
      refine wp_allocI rfl ?_
      intro g8 cs8 V8 hs8 hn8 hB8 hb9
      have n8 : V0.heap.size ≤ g8 := by have := hn8.out; have := hHeld.size; omega
      refine hK.out _ _ (hHeld.trans (hb9.mono hHeld.size)) (fun hHeld => ?_)
      clear hK K hb9 hn8
      try simp only [Act.put, List.getElem_toArray, List.getElem_cons_succ, List.getElem_cons_zero, List.setIfInBounds_toArray, List.set_cons_zero, List.set_cons_succ]
      refine wpAnyH_ready (rs := [4]) (by kernel_rfl) (by simp) ?_
      refine AllReadyH.cons rfl (fun K hK => ?_) AllReadyH.nil
      refine wp_allocI rfl ?_
      intro g7 cs7 V7 hs7 hn7 hB7 hb9
      have n7 : V0.heap.size ≤ g7 := by have := hn7.out; have := hHeld.size; omega
      have ne : g7 ≠ g8 := by have := hn7.out; have := hB8.lt; omega
      replace hB8 := hB8.below hb9
      refine hK.out _ _ (hHeld.trans (hb9.mono hHeld.size)) (fun hHeld => ?_)
      clear hK K hb9 hn7
      try simp only [Act.put, List.getElem_toArray, List.getElem_cons_succ, List.getElem_cons_zero, List.setIfInBounds_toArray, List.set_cons_zero, List.set_cons_succ]
      refine wpAnyH_ready (rs := [6]) (by kernel_rfl) (by simp) ?_
      refine AllReadyH.cons rfl (fun K hK => ?_) AllReadyH.nil
      refine wp_store_blk 24 _ _ rfl g7 _ (idVals R) 24 hB7 rfl rfl hzr2 (by rw [hs7, sR]) h1r ?_
      clear hB7; intro V6 hB7 hg9
      replace hB8 := blk_gM hB8 hg9 ne.symm
      refine hK.out _ _ (hHeld.grown hg9 hHeld.size (fun q hq => by have := Option.some.inj hq; omega)) (fun hHeld => ?_)
      clear hK K hg9
      try simp only [Act.put, List.getElem_toArray, List.getElem_cons_succ, List.getElem_cons_zero, List.setIfInBounds_toArray, List.set_cons_zero, List.set_cons_succ]
      refine wpAnyH_ready (rs := [7]) (by kernel_rfl) (by simp) ?_
      refine AllReadyH.cons rfl (fun K hK => ?_) AllReadyH.nil
      refine wp_store_blk 24 _ _ rfl g8 _ (idVals y) 24 hB8 rfl rfl hzy2 (by rw [hs8, sy]) h1y ?_
      clear hB8; intro V7 hB8 hg9
      replace hB7 := blk_gM hB7 hg9 ne
      refine hK.out _ _ (hHeld.grown hg9 hHeld.size (fun q hq => by have := Option.some.inj hq; omega)) (fun hHeld => ?_)
      clear hK K hg9
      try simp only [Act.put, List.getElem_toArray, List.getElem_cons_succ, List.getElem_cons_zero, List.setIfInBounds_toArray, List.set_cons_zero, List.set_cons_succ]
      refine wpAnyH_done (by kernel_rfl) ?_ _
      have HH := hid hHeld
      have ft := (HSd.out.below hHeld).x.c32 hX
      have lr := HSd.out.r.lt
      have lw := HSd.out.s.lt
      have n9 : g7 ≠ gr ∧ g8 ≠ gr ∧ g7 ≠ gw ∧ g8 ≠ gw := by omega
      clear fr fs fy HY HIY hHeld lr lw
      have fr7 := range_blk hB7
      have fy8 := range_blk hB8
      go_upto_region 3 with (first
        | (with_reducible refine wpList_load_if (by with_unfolding_all rfl) 24 _ rfl _ _ rfl (R.map u8v) _ fr7 hu rfl hzr ?_)
        | (with_reducible refine wpList_load_if (by with_unfolding_all rfl) 24 _ rfl _ _ rfl (y.map u8v) _ fy8 hu rfl hzy ?_)
        | ((with_reducible refine wpList_store_blk rfl 24 _ _ rfl g7 (idVals R) (idVals y) 24 hB7 rfl rfl hzy2 (sR.trans sy.symm) h1y ?_); intro w9 hC7 hg7; have hC8 := blk_gM hB8 hg7 ne.symm)
        | ((with_reducible refine wpList_store_blk rfl 24 _ _ rfl g8 (idVals y) (idVals R) 24 hC8 rfl rfl hzr2 (sy.trans sR.symm) h1r ?_); intro w10 hC9 hg8))
      have hC10 := blk_gM hC7 hg8 ne
      replace HH := hid ((HH.out.grown hg7 HH.out.size (fun q hq => by have := Option.some.inj hq; omega)).grown hg8 (Nat.le_trans HH.out.size hg7.size) (fun q hq => by have := Option.some.inj hq; omega))
      clear hB7 hB8 fr7 fy8
      have hB7 := hC10
      have hB8 := hC9
      clear hC7 hC8 hC9 hC10 hg7 hg8
      have HC := hid ((HSd.out.below HH.out).below (below_drew1 _))
      clear ft HSd HH n7 n8 hs
      replace hB7 := hB7.below (below_drew1 _)
      replace hB8 := hB8.below (below_drew1 _)
      refine wp_region_held_drew (S := fun V => V.rangeAt g7 0 (y.map u8v) ∧ V.rangeAt g8 0 (R.map u8v)) (by kernel_rfl) ⟨range_blk hB7, range_blk hB8⟩ (fun hHeld => ?_)
      generalize World.drew _ = V5 at *
      refine' wpAnyH_take (i := 0) (v := _) rfl (by kernel_rfl) (by kernel_rfl) (by kernel_rfl) (fun _ _ _ h => h) (yieldsIf_load_mid (by rfl) 24 _ rfl _ _ rfl (y.map u8v) _ (fun w' h => h.1) hu rfl hzy) hHeld ?_
      try simp only [Act.put, List.getElem_toArray, List.getElem_cons_succ, List.getElem_cons_zero, List.setIfInBounds_toArray, List.set_cons_zero, List.set_cons_succ]
      refine' wpAnyH_take (i := 1) (v := _) rfl (by kernel_rfl) (by kernel_rfl) (by kernel_rfl) (fun _ _ _ h => h) (yieldsIf_load_mid (by rfl) 24 _ rfl _ _ rfl (R.map u8v) _ (fun w' h => h.2) hu rfl hzr) hHeld ?_
      try simp only [Act.put, List.getElem_toArray, List.getElem_cons_succ, List.getElem_cons_zero, List.setIfInBounds_toArray, List.set_cons_zero, List.set_cons_succ]
      refine wpAnyH_ready (rs := [2, 3]) (by kernel_rfl) (by simp) ?_
      refine AllReadyH.cons rfl (fun K hK => ?_) (AllReadyH.cons rfl (fun K hK => ?_) AllReadyH.nil)
      · as_aux_lemma =>
          go_simp
          (with_reducible refine (HP.out _).mono ?_)
          rintro e9 V9 ⟨rfl, hb9⟩
          replace HC := hid (HC.out.below hb9)
          replace hB7 := hB7.below hb9
          replace hB8 := hB8.below hb9
          refine hK.out _ _ ⟨range_blk hB7, range_blk hB8⟩ (fun hHeld => ?_)
          clear hK K hb9
          try simp only [Act.put, List.getElem_toArray, List.getElem_cons_succ, List.getElem_cons_zero, List.setIfInBounds_toArray, List.set_cons_zero, List.set_cons_succ]
          refine wpAnyH_ready (rs := [3, 5]) (by kernel_rfl) (by simp) ?_
          refine AllReadyH.cons rfl (fun K hK => ?_) (AllReadyH.cons rfl (fun K hK => ?_) AllReadyH.nil)
          · as_aux_lemma =>
              have fA := HC.out.s.cell_ (i := 0) rfl
              go_simp
              refine hK.out _ _ hHeld (fun hHeld => ?_)
              clear hK K fA
              try simp only [Act.put, List.getElem_toArray, List.getElem_cons_succ, List.getElem_cons_zero, List.setIfInBounds_toArray, List.set_cons_zero, List.set_cons_succ]
              refine' wpAnyH_take (i := 4) (v := .slice B m1 d) rfl (by kernel_rfl) (by kernel_rfl) (by kernel_rfl) (fun _ _ _ h => h) (Or.inl ⟨by rfl, fun w' hw' => by have hv := HSL.out w'; go_simp⟩) hHeld ?_
              try simp only [Act.put, List.getElem_toArray, List.getElem_cons_succ, List.getElem_cons_zero, List.setIfInBounds_toArray, List.set_cons_zero, List.set_cons_succ]
              refine wpAnyH_ready (rs := [5]) (by kernel_rfl) (by simp) ?_
              refine AllReadyH.cons rfl (fun K hK => ?_) AllReadyH.nil
              refine wp_store_blk 24 _ _ rfl gr _ (idVals J) 24 HC.out.r rfl rfl hzJ (sR.trans sJ.symm) h1J ?_
              intro V10 hB10 hg10
              replace hB7 := blk_gM hB7 hg10 n9.1
              replace hB8 := blk_gM hB8 hg10 n9.2.1
              replace HC := hid (HC.out.putR hB10 hg10)
              refine hK.out _ _ ⟨range_blk hB7, range_blk hB8⟩ (fun hHeld => ?_)
              clear hK K hB10 hg10
              try simp only [Act.put, List.getElem_toArray, List.getElem_cons_succ, List.getElem_cons_zero, List.setIfInBounds_toArray, List.set_cons_zero, List.set_cons_succ]
              refine wpAnyH_ready (rs := [6]) (by kernel_rfl) (by simp) ?_
              refine AllReadyH.cons rfl (fun K hK => ?_) AllReadyH.nil
              refine wp_store_sl _ _ rfl gw _ HC.out.s B m1 d rfl rfl ?_
              intro V11 hB11 hg11
              replace hB7 := blk_gM hB7 hg11 n9.2.2.1
              replace hB8 := blk_gM hB8 hg11 n9.2.2.2
              replace HC := hid (HC.out.putS HQ1.out hB11 hg11)
              refine hK.out _ _ ⟨range_blk hB7, range_blk hB8⟩ (fun hHeld => ?_)
              clear hK K hB11 hg11
              try simp only [Act.put, List.getElem_toArray, List.getElem_cons_succ, List.getElem_cons_zero, List.setIfInBounds_toArray, List.set_cons_zero, List.set_cons_succ]
              refine wpAnyH_done (by kernel_rfl) ?_ _
              clear hHeld hB7 hB8 n9
              go_wp2_with (fail)
              go_end0
              exact ⟨rfl, _, _, HC.out⟩
          · as_aux_lemma =>
              refine wp_store_blk 24 _ _ rfl gr _ (idVals J) 24 HC.out.r rfl rfl hzJ (sR.trans sJ.symm) h1J ?_
              intro V10 hB10 hg10
              replace hB7 := blk_gM hB7 hg10 n9.1
              replace hB8 := blk_gM hB8 hg10 n9.2.1
              replace HC := hid (HC.out.putR hB10 hg10)
              refine hK.out _ _ ⟨range_blk hB7, range_blk hB8⟩ (fun hHeld => ?_)
              clear hK K hB10 hg10
              try simp only [Act.put, List.getElem_toArray, List.getElem_cons_succ, List.getElem_cons_zero, List.setIfInBounds_toArray, List.set_cons_zero, List.set_cons_succ]
              refine wpAnyH_ready (rs := [3]) (by kernel_rfl) (by simp) ?_
              refine AllReadyH.cons rfl (fun K hK => ?_) AllReadyH.nil
              have fA := HC.out.s.cell_ (i := 0) rfl
              go_simp
              refine hK.out _ _ hHeld (fun hHeld => ?_)
              clear hK K fA
              try simp only [Act.put, List.getElem_toArray, List.getElem_cons_succ, List.getElem_cons_zero, List.setIfInBounds_toArray, List.set_cons_zero, List.set_cons_succ]
              refine' wpAnyH_take (i := 4) (v := .slice B m1 d) rfl (by kernel_rfl) (by kernel_rfl) (by kernel_rfl) (fun _ _ _ h => h) (Or.inl ⟨by rfl, fun w' hw' => by have hv := HSL.out w'; go_simp⟩) hHeld ?_
              try simp only [Act.put, List.getElem_toArray, List.getElem_cons_succ, List.getElem_cons_zero, List.setIfInBounds_toArray, List.set_cons_zero, List.set_cons_succ]
              refine wpAnyH_ready (rs := [6]) (by kernel_rfl) (by simp) ?_
              refine AllReadyH.cons rfl (fun K hK => ?_) AllReadyH.nil
              refine wp_store_sl _ _ rfl gw _ HC.out.s B m1 d rfl rfl ?_
              intro V11 hB11 hg11
              replace hB7 := blk_gM hB7 hg11 n9.2.2.1
              replace hB8 := blk_gM hB8 hg11 n9.2.2.2
              replace HC := hid (HC.out.putS HQ1.out hB11 hg11)
              refine hK.out _ _ ⟨range_blk hB7, range_blk hB8⟩ (fun hHeld => ?_)
              clear hK K hB11 hg11
              try simp only [Act.put, List.getElem_toArray, List.getElem_cons_succ, List.getElem_cons_zero, List.setIfInBounds_toArray, List.set_cons_zero, List.set_cons_succ]
              refine wpAnyH_done (by kernel_rfl) ?_ _
              clear hHeld hB7 hB8 n9
              go_wp2_with (fail)
              go_end0
              exact ⟨rfl, _, _, HC.out⟩
      · as_aux_lemma =>
          have fA := HC.out.s.cell_ (i := 0) rfl
          go_simp
          refine hK.out _ _ hHeld (fun hHeld => ?_)
          clear hK K fA
          try simp only [Act.put, List.getElem_toArray, List.getElem_cons_succ, List.getElem_cons_zero, List.setIfInBounds_toArray, List.set_cons_zero, List.set_cons_succ]
          refine' wpAnyH_take (i := 4) (v := .slice B m1 d) rfl (by kernel_rfl) (by kernel_rfl) (by kernel_rfl) (fun _ _ _ h => h) (Or.inl ⟨by rfl, fun w' hw' => by have hv := HSL.out w'; go_simp⟩) hHeld ?_
          try simp only [Act.put, List.getElem_toArray, List.getElem_cons_succ, List.getElem_cons_zero, List.setIfInBounds_toArray, List.set_cons_zero, List.set_cons_succ]
          refine wpAnyH_ready (rs := [2]) (by kernel_rfl) (by simp) ?_
          refine AllReadyH.cons rfl (fun K hK => ?_) AllReadyH.nil
          go_simp
          (with_reducible refine (HP.out _).mono ?_)
          rintro e9 V9 ⟨rfl, hb9⟩
          replace HC := hid (HC.out.below hb9)
          replace hB7 := hB7.below hb9
          replace hB8 := hB8.below hb9
          refine hK.out _ _ ⟨range_blk hB7, range_blk hB8⟩ (fun hHeld => ?_)
          clear hK K hb9
          try simp only [Act.put, List.getElem_toArray, List.getElem_cons_succ, List.getElem_cons_zero, List.setIfInBounds_toArray, List.set_cons_zero, List.set_cons_succ]
          refine wpAnyH_ready (rs := [5]) (by kernel_rfl) (by simp) ?_
          refine AllReadyH.cons rfl (fun K hK => ?_) AllReadyH.nil
          refine wp_store_blk 24 _ _ rfl gr _ (idVals J) 24 HC.out.r rfl rfl hzJ (sR.trans sJ.symm) h1J ?_
          intro V10 hB10 hg10
          replace hB7 := blk_gM hB7 hg10 n9.1
          replace hB8 := blk_gM hB8 hg10 n9.2.1
          replace HC := hid (HC.out.putR hB10 hg10)
          refine hK.out _ _ ⟨range_blk hB7, range_blk hB8⟩ (fun hHeld => ?_)
          clear hK K hB10 hg10
          try simp only [Act.put, List.getElem_toArray, List.getElem_cons_succ, List.getElem_cons_zero, List.setIfInBounds_toArray, List.set_cons_zero, List.set_cons_succ]
          refine wpAnyH_ready (rs := [6]) (by kernel_rfl) (by simp) ?_
          refine AllReadyH.cons rfl (fun K hK => ?_) AllReadyH.nil
          refine wp_store_sl _ _ rfl gw _ HC.out.s B m1 d rfl rfl ?_
          intro V11 hB11 hg11
          replace hB7 := blk_gM hB7 hg11 n9.2.2.1
          replace hB8 := blk_gM hB8 hg11 n9.2.2.2
          replace HC := hid (HC.out.putS HQ1.out hB11 hg11)
          refine hK.out _ _ ⟨range_blk hB7, range_blk hB8⟩ (fun hHeld => ?_)
          clear hK K hB11 hg11
          try simp only [Act.put, List.getElem_toArray, List.getElem_cons_succ, List.getElem_cons_zero, List.setIfInBounds_toArray, List.set_cons_zero, List.set_cons_succ]
          refine wpAnyH_done (by kernel_rfl) ?_ _
          clear hHeld hB7 hB8 n9
          go_wp2_with (fail)
          go_end0
          exact ⟨rfl, _, _, HC.out⟩
end Go.Proofs.Ytkbokffonnjjiaa
/- merkle: the program's Climb, where the place leads. -/
set_option linter.unusedSimpArgs false
set_option linter.unusedVariables false
namespace Go.Proofs.Ytkbokffonnjjiaa
open Go.RowKit Go.Qc Go.Shelf
attribute [local go_sem] txt_size txt_append ib_fold
theorem infoIdsZ : ∃ i, Try.prog.info? 22 = some i ∧ i.zero = some (.slice none 0 0) := by
  have h : (Try.prog.info? 22).map (·.zero) = some (some (.slice none 0 0)) := by kernel_rfl
  cases hq : Try.prog.info? 22 with
  | none => rw [hq] at h; cases h
  | some i => rw [hq] at h; simp at h; exact ⟨i, rfl, h⟩
theorem wp_allocL {w : World} {o : Oper} {a : Act} {K : Act → World → Prop} {Q : Exit → Act → World → Prop} (ho : o.op = .alloc 22)
    (h : ∀ g v w', Hid (g = w.heap.size) → Blk w' g 22 #[v] → Below w.heap.size w w' → K (a.put o.dst (.pointer (some ⟨g, 0, none⟩))) w') : o.wp Try.prog a w K Q := by
  obtain ⟨i0, hi, hz⟩ := infoIdsZ
  have h9 := h w.heap.size (.slice none 0 0) (w.alloc (.cells #[.slice none 0 0] 22)) (hid rfl) (Blk.new _ _ _) ((Below.refl _ _).alloc (Nat.le_refl _) _)
  unfold Oper.wp
  simp only [execOp, ho]
  simp [Instr.alloc, zeroValue, typeInfo, hi, hz, newVar, newRow, Value.cells, newObj]
  exact h9
theorem wp_build1j {w : World} {o : Oper} {a : Act} {K : Act → World → Prop} {Q : Exit → Act → World → Prop} (x : Operand) (ho : o.op = .buildSlice 22 1 #[(0, x)])
    (X : List UInt8) (lx : X.length = 32) (hx : a.eval x = .agg (idVals X))
    (h : ∀ g w', RowC w' (some ⟨g, 0, none⟩) 1 1 [X] → Below w.heap.size w w' → K (a.put o.dst (.slice (some ⟨g, 0, none⟩) 1 1)) w') :
    o.wp Try.prog a w K Q :=
  wp_build1i x ho X lx hx fun cs hr => h _ _ ⟨⟨rfl, by decide, hr⟩, .inr ⟨⟨_, rfl⟩, Nat.le_refl _, by decide⟩⟩ ((Below.refl _ _).alloc (Nat.le_refl _) _)
theorem hfnM3 : ∀ args W, (callFunc 52 args).run Try.prog W = .ok (.enter 52 args) W := fun args W => by
  have h1 : decide (Try.f52.name = "runtime.NumGoroutine") = false := by kernel_rfl
  have h2 : Try.f52.body.isNone = false := by kernel_rfl
  have h1' := of_decide_eq_false h1
  have h2' : ¬ Try.f52.body = none := fun e => by rw [e] at h2; cases h2
  simp [callFunc, Try.func52, h1', h2']
/-- The parts beside a place never hold it. -/
theorem partsL_apart (a b p : Nat) (ha : a ≤ p) (hb : p < b) : ∀ x ∈ partsL a b p, p < x.1 ∨ x.2 ≤ p := by
  intro x hx
  by_cases h : b - a ≤ 1
  · rw [partsL_end p h] at hx; cases hx
  · have hk := halfM_ok (n := b - a) (by omega)
    by_cases hp : p < a + halfM (b - a)
    · rw [partsL_low h hp] at hx
      rcases List.mem_append.1 hx with h1 | h1
      · exact partsL_apart a (a + halfM (b - a)) p ha hp x h1
      · rw [List.mem_singleton.1 h1]
        exact .inl hp
    · rw [partsL_high h hp] at hx
      rcases List.mem_append.1 hx with h1 | h1
      · exact partsL_apart (a + halfM (b - a)) b p (by omega) hb x h1
      · rw [List.mem_singleton.1 h1]
        exact .inr (by omega)
termination_by b - a
decreasing_by all_goals omega
/-- Climbing begun: where the root's box lies, and the way's. -/
def CbI (w0 : World) (gp gz : Nat) (X : PlD) (R : List UInt8) (A : Option Addr) (m c : Nat) (l : List (List UInt8)) (u v : Value) (W : World) : Prop :=
  ∃ gr gw, u = .pointer (some ⟨gr, 0, none⟩) ∧ v = .pointer (some ⟨gw, 0, none⟩) ∧ CbS w0 gp gz gr gw X R A m c l W
/-- All steps of the closure, by parted. -/
theorem climb_all (w0 : World) (gp gz gr gw : Nat) (n k : Nat) (hk : k < n) (hn : n ≤ 1099511627776) (a : List UInt8) (ha : a.length = 32) (A : Option Addr) (m c : Nat) (way : List (List UInt8)) (hm : (partsL 0 n k).length = m) (W : World) (hl : way.length = m)
    (HC : CbS w0 gp gz gr gw ⟨a, k, A, m, c⟩ (tagB itemN [a]) A m c way W) :
    Calls Try.prog 51 #[.int .i64 0, .int .i64 (n : Int), .int .i64 (k : Int), .func (.func 52) #[] #[.pointer (some ⟨gr, 0, none⟩), .pointer (some ⟨gw, 0, none⟩), .pointer (some ⟨gp, 0, none⟩)]] W fun e w' => e = .returned (.tuple #[]) ∧ ∃ A' m' c' l', CbS w0 gp gz gr gw ⟨a, k, A, m, c⟩ (upL n k way a m) A' m' c' l' w' := by
  have hX : PlD.ok ⟨a, (k : Int), A, m, c⟩ := ha
  have hll : (lowsL n k).length = way.length := by rw [lowsL_length, hm, hl]
  have cP := parted_any 52 hfnM3 #[.pointer (some ⟨gr, 0, none⟩), .pointer (some ⟨gw, 0, none⟩), .pointer (some ⟨gp, 0, none⟩)]
    (fun i W => ∃ A' c', CbS w0 gp gz gr gw ⟨a, k, A, m, c⟩ (upL n k way a i) A' (m - i) c' (way.drop i) W) n 0 n k (by omega) (by omega) hn (by omega) (fun i x V hx hJ => by
      obtain ⟨A', c', HS⟩ := hJ
      have hi := (List.getElem?_eq_some_iff.1 hx).1
      have hiw : i < way.length := by omega
      obtain ⟨y, hy⟩ : ∃ y, way[i]? = some y := ⟨_, List.getElem?_eq_getElem hiw⟩
      have hd : way.drop i = y :: way.drop (i + 1) := by
        rw [List.drop_eq_getElem_cons hiw]
        have : way[i] = y := by have := List.getElem?_eq_getElem hiw; rw [this] at hy; exact Option.some.inj hy
        rw [this]
      rw [hd] at HS
      have hR := upL_length n k way a i
      obtain ⟨p1, p2, p3⟩ := partsL_in 0 n k x (List.mem_of_getElem? hx)
      have hs : (lowsL n k)[i]? = some (decide (k < x.1)) := by unfold lowsL; rw [List.getElem?_map, hx]; rfl
      have hst := upL_step (a := a) hll hs hy
      rw [hst]
      rcases partsL_apart 0 n k (by omega) hk x (List.mem_of_getElem? hx) with h1 | h1
      · rw [decide_eq_true h1]
        refine (climb1_low w0 gp gz gr gw _ hX _ hR A' (m - i) c' y (way.drop (i + 1)) x.1 x.2 (by show ¬ ((x.1 : Int) < (k : Int)); omega) V HS).mono ?_
        rintro e w' ⟨rfl, B, d, HQ⟩
        exact ⟨rfl, B, d, by rw [show m - (i + 1) = m - i - 1 by omega]; exact HQ⟩
      · rw [decide_eq_false (by omega)]
        refine (climb1_high w0 gp gz gr gw _ hX _ hR A' (m - i) c' y (way.drop (i + 1)) x.1 x.2 (by show ((x.1 : Int) < (k : Int)); omega) V HS).mono ?_
        rintro e w' ⟨rfl, B, d, HQ⟩
        exact ⟨rfl, B, d, by rw [show m - (i + 1) = m - i - 1 by omega]; exact HQ⟩) W ⟨A, c, by rw [List.drop_zero]; exact HC⟩
  rw [hm] at cP
  refine cP.mono ?_
  rintro e w' ⟨rfl, A', c', HS⟩
  exact ⟨rfl, A', _, c', _, HS⟩
set_option maxRecDepth 100000 in
set_option maxHeartbeats 8000000 in
theorem climb_yes (n k : Nat) (hk : k < n) (hn : n ≤ 1099511627776) (a : List UInt8) (ha : a.length = 32) (A : Option Addr) (m c : Nat) (way : List (List UInt8)) (hm : (partsL 0 n k).length = m) (w : World) (h : RowC w A m c way) :
    Calls Try.prog 14 #[.int .i64 (n : Int), .agg (PlD.cs ⟨a, (k : Int), A, m, c⟩)] w fun e w' => e = .returned (.tuple #[.agg (idVals (upL n k way a m)), .bool true]) ∧ Below w.heap.size w w' := by
  have mixed : Try.prog.follows .mixedOrders = true := by kernel_rfl
  have hu := Try.underlying24
  have hX : PlD.ok ⟨a, (k : Int), A, m, c⟩ := ha
  have hza : (Try.prog.info? 24).map (·.size) = some (a.map u8v).length := by rw [List.length_map, ha]; exact sizeId
  have hln := h.1.1
  have HA := hid (climb_all · · · · · n k hk hn a ha A m c way hm · hln)
  have cN : ∀ W, Calls Try.prog 49 #[.int .i64 n, .int .i64 k] W fun e w' => e = .returned (.int .i64 (m : Int)) ∧ Below W.heap.size W w' := fun W => by
    have := partings_any n k hn (by omega) W
    rw [hm] at this
    exact this
  have HUL := hid (upL_length n k way a m)
  have z1 : ¬ (k : Int) < 0 := by omega
  have z2 : ¬ (n : Int) ≤ (k : Int) := by omega
  have z3 : ¬ (1099511627776 : Int) < (n : Int) := by omega
  have z4 : ((m : Int) == (m : Int)) = true := by simp
  generalize upL n k way a m = U at *
  have hR0 := tagB_length itemN [a]
  have cR : ∀ V g, RowC V (some ⟨g, 0, none⟩) 1 1 [a] → Calls Try.prog 50 #[.slice (some ⟨g, 0, none⟩) 1 1] V fun e w' => e = .returned (.agg (idVals (tagB itemN [a]))) ∧ Below V.heap.size V w' := fun V g hr => by
    have := mroot_any 1 [a] (Nat.le_refl _) (some ⟨g, 0, none⟩) 1 1 V hr
    rw [rootM_one] at this
    exact this
  generalize tagB itemN [a] = R0 at *
  have HCR := hid cR
  have hzR : (Try.prog.info? 24).map (·.size) = some (idVals R0).size := by rw [idVals_size, hR0]; exact sizeId
  have sR : (idVals R0).size = 32 := by rw [idVals_size, hR0]
  have h1R := idVals_one R0
  clear cR hm hk hn hln
  go_enter Try.func14, Try.ntmps14
  go_upto_region 1 with (fail)
  generalize hZ : (w.alloc (.cells (PlD.cs ⟨a, (k : Int), A, m, c⟩) 37)).alloc _ = w1
  have hb1 : Below w.heap.size w w1 := by rw [← hZ]; exact ((Below.refl w.heap.size w).alloc (Nat.le_refl _) _).alloc (by simp) _
  have hx1 : PlX w1 w.heap.size ⟨a, (k : Int), A, m, c⟩ := by rw [← hZ]; exact (PlX.new w _).alloc _
  have hz1 : Blk w1 (w.heap.size + 1) 24 (idVals zeroB) := by
    have := Blk.new (w.alloc (.cells (PlD.cs ⟨a, (k : Int), A, m, c⟩) 37)) 24 (idVals zeroB)
    rw [show (w.alloc (.cells (PlD.cs ⟨a, (k : Int), A, m, c⟩) 37)).heap.size = w.heap.size + 1 by simp] at this
    rw [← hZ]; exact this
  clear hZ
  have f32 : ∀ p : LaterW w1, p.w.cell? ⟨w.heap.size, 32, none⟩ = some (.int .i64 (k : Int)) := fun p => cell_belM p.h (hx1.c32 hX)
  have f33 : ∀ p : LaterW w1, p.w.cell? ⟨w.heap.size, 33, none⟩ = some (.slice A m c) := fun p => cell_belM p.h (hx1.c33 hX)
  have dN : ∀ p : LaterW w1, Calls Try.prog 49 #[.int .i64 n, .int .i64 k] p.w fun e w' => e = .returned (.int .i64 (m : Int)) ∧ Below p.w.heap.size p.w w' := fun p => cN p.w
  refine wp_region_later mixed (by kernel_rfl) ?_
  repeat (first
    | ((with_reducible refine wpQuiet_skip (by with_unfolding_all rfl) ?_); simp only [Act.put, List.setIfInBounds_toArray, List.set_cons_zero, List.set_cons_succ])
    | ((with_reducible refine wpQuiet_step (fun K hK => ?_)); go_simp; first | ((with_reducible refine hK _ ?_); clear hK K) | (with_reducible apply Exists.intro; (with_reducible refine ⟨fun _ => ?_, hK _ ?_⟩); ((first | (go_at_call 49; exact later_of (dN _)))); clear hK K)))
  with_reducible refine wpQuiet_nil ?_
  intro _ hw'
  obtain ⟨p9, rfl⟩ := hw'
  have hp9 := p9.h
  generalize p9.w = w2 at *
  replace hx1 := hx1.below hp9
  replace hz1 := hz1.below hp9
  replace hb1 := hb1.trans (hp9.mono hb1.size)
  clear f32 f33 dN cN hp9
  go_upto_region 3 with (fail)
  have HX := hid (hx1.below (below_drew1 _))
  have HZ := hid (hz1.below (below_drew1 _))
  have HB := hid (hb1.trans ((below_drew1 _).mono hb1.size))
  have HQ := hid h
  clear hx1 hz1 hb1 h z1 z2 z3 z4
  go_cut [6, 7] (fun s6 s7 wx => CbI w w.heap.size (w.heap.size + 1) ⟨a, (k : Int), A, m, c⟩ R0 A m c way s6 s7 wx)
  case first =>
    refine wp_region_held_drew (S := fun V => Below w2.drew.heap.size w2.drew V) (by kernel_rfl) (Below.refl _ _) (fun hHeld => ?_)
    generalize w2.drew = V0 at *
    have fr : V0.rangeAt w.heap.size 0 (a.map u8v) := HX.out.ida
    have fs := HX.out.c33 hX
    refine' wpAnyH_take (i := 0) (v := .pointer (some ⟨w.heap.size, 0, none⟩)) rfl (by kernel_rfl) (by kernel_rfl) (by kernel_rfl) (fun _ _ _ h => h) (Or.inl ⟨by rfl, fun w' hw' => by go_simp⟩) hHeld ?_
    try simp only [Act.put, List.getElem_toArray, List.getElem_cons_succ, List.getElem_cons_zero, List.setIfInBounds_toArray, List.set_cons_zero, List.set_cons_succ]
    refine' wpAnyH_take (i := 1) (v := _) rfl (by kernel_rfl) (by kernel_rfl) (by kernel_rfl) (fun _ _ _ h => h) (yieldsIf_load_mid (by rfl) 24 _ rfl _ _ rfl (a.map u8v) _ (fun w' h => fr.below h) hu rfl hza) hHeld ?_
    try simp only [Act.put, List.getElem_toArray, List.getElem_cons_succ, List.getElem_cons_zero, List.setIfInBounds_toArray, List.set_cons_zero, List.set_cons_succ]
    refine' wpAnyH_take (i := 4) (v := .pointer (some ⟨w.heap.size, 33, none⟩)) rfl (by kernel_rfl) (by kernel_rfl) (by kernel_rfl) (fun _ _ _ h => h) (Or.inl ⟨by rfl, fun w' hw' => by go_simp⟩) hHeld ?_
    try simp only [Act.put, List.getElem_toArray, List.getElem_cons_succ, List.getElem_cons_zero, List.setIfInBounds_toArray, List.set_cons_zero, List.set_cons_succ]
    refine' wpAnyH_take (i := 5) (v := .slice A m c) rfl (by kernel_rfl) (by kernel_rfl) (by kernel_rfl) (fun _ _ _ h => h) (Or.inl ⟨by rfl, fun w' hw' => by have hv := cell_belM hw' fs; go_simp⟩) hHeld ?_
    try simp only [Act.put, List.getElem_toArray, List.getElem_cons_succ, List.getElem_cons_zero, List.setIfInBounds_toArray, List.set_cons_zero, List.set_cons_succ]
    refine wpAnyH_ready (rs := [2, 6, 7]) (by kernel_rfl) (by simp) ?_
    refine AllReadyH.cons rfl (fun K hK => ?_) (AllReadyH.cons rfl (fun K hK => ?_) (AllReadyH.cons rfl (fun K hK => ?_) AllReadyH.nil))
    · as_aux_lemma =>
        refine wp_build1j _ rfl a ha rfl ?_
        intro g9 V2 hrow hb9
        refine hK.out _ _ (hHeld.trans (hb9.mono hHeld.size)) (fun hHeld => ?_)
        clear hK K hb9
        try simp only [Act.put, List.getElem_toArray, List.getElem_cons_succ, List.getElem_cons_zero, List.setIfInBounds_toArray, List.set_cons_zero, List.set_cons_succ]
        refine wpAnyH_ready (rs := [3, 6, 7]) (by kernel_rfl) (by simp) ?_
        refine AllReadyH.cons rfl (fun K hK => ?_) (AllReadyH.cons rfl (fun K hK => ?_) (AllReadyH.cons rfl (fun K hK => ?_) AllReadyH.nil))
        · as_aux_lemma =>
            go_simp
            (with_reducible refine (HCR.out _ _ hrow).mono ?_)
            rintro e3 V3 ⟨rfl, hb9⟩
            clear hrow
            refine hK.out _ _ (hHeld.trans (hb9.mono hHeld.size)) (fun hHeld => ?_)
            clear hK K hb9
            try simp only [Act.put, List.getElem_toArray, List.getElem_cons_succ, List.getElem_cons_zero, List.setIfInBounds_toArray, List.set_cons_zero, List.set_cons_succ]
            refine wpAnyH_ready (rs := [6, 7]) (by kernel_rfl) (by simp) ?_
            refine AllReadyH.cons rfl (fun K hK => ?_) (AllReadyH.cons rfl (fun K hK => ?_) AllReadyH.nil)
            · as_aux_lemma =>
                refine wp_allocI rfl ?_
                intro g6 cs6 V6 hs6 hn6 hB6 hb9
                have n6 : V0.heap.size ≤ g6 := by have := hn6.out; have := hHeld.size; omega
                refine hK.out _ _ (hHeld.trans (hb9.mono hHeld.size)) (fun hHeld => ?_)
                clear hK K hb9 hn6
                try simp only [Act.put, List.getElem_toArray, List.getElem_cons_succ, List.getElem_cons_zero, List.setIfInBounds_toArray, List.set_cons_zero, List.set_cons_succ]
                refine wpAnyH_ready (rs := [7]) (by kernel_rfl) (by simp) ?_
                refine AllReadyH.cons rfl (fun K hK => ?_) AllReadyH.nil
                refine wp_allocL rfl ?_
                intro g7 v7 V7 hn7 hB7 hb9
                have n7 : V0.heap.size ≤ g7 := by have := hn7.out; have := hHeld.size; omega
                replace hB6 := hB6.below hb9
                refine hK.out _ _ (hHeld.trans (hb9.mono hHeld.size)) (fun hHeld => ?_)
                clear hK K hb9 hn7
                try simp only [Act.put, List.getElem_toArray, List.getElem_cons_succ, List.getElem_cons_zero, List.setIfInBounds_toArray, List.set_cons_zero, List.set_cons_succ]
                refine wpAnyH_ready (rs := [8]) (by kernel_rfl) (by simp) ?_
                refine AllReadyH.cons rfl (fun K hK => ?_) AllReadyH.nil
                refine wp_store_blk 24 _ _ rfl g6 _ (idVals R0) 24 hB6 rfl rfl hzR (by rw [hs6, sR]) h1R ?_
                intro V8 hC6 hg9
                replace hB7 := blk_gM hB7 hg9 (blk_neM hB7 hB6 (by decide))
                clear hB6; have hB6 := hC6; clear hC6
                refine hK.out _ _ (hHeld.grown hg9 hHeld.size (fun q hq => by have := Option.some.inj hq; omega)) (fun hHeld => ?_)
                clear hK K hg9
                try simp only [Act.put, List.getElem_toArray, List.getElem_cons_succ, List.getElem_cons_zero, List.setIfInBounds_toArray, List.set_cons_zero, List.set_cons_succ]
                refine wpAnyH_ready (rs := [9]) (by kernel_rfl) (by simp) ?_
                refine AllReadyH.cons rfl (fun K hK => ?_) AllReadyH.nil
                refine wp_store_sl _ _ rfl g7 _ hB7 A m c rfl rfl ?_
                intro V9 hC7 hg9
                replace hB6 := blk_gM hB6 hg9 (blk_neM hB6 hB7 (by decide))
                clear hB7; have hB7 := hC7; clear hC7
                refine hK.out _ _ (hHeld.grown hg9 hHeld.size (fun q hq => by have := Option.some.inj hq; omega)) (fun hHeld => ?_)
                clear hK K hg9
                try simp only [Act.put, List.getElem_toArray, List.getElem_cons_succ, List.getElem_cons_zero, List.setIfInBounds_toArray, List.set_cons_zero, List.set_cons_succ]
                refine wpAnyH_done (by kernel_rfl) ?_ _
                go_wp2_with (fail)
                go_meet
                have lz := HZ.out.lt
                have hsz := HB.out.size
                exact ⟨g6, g7, rfl, rfl, HX.out.below hHeld, HZ.out.below hHeld, hB6, hB7, HQ.out, HB.out.trans (hHeld.mono HB.out.size), by omega, by omega, by omega⟩
            · as_aux_lemma =>
                refine wp_allocL rfl ?_
                intro g7 v7 V7 hn7 hB7 hb9
                have n7 : V0.heap.size ≤ g7 := by have := hn7.out; have := hHeld.size; omega
                refine hK.out _ _ (hHeld.trans (hb9.mono hHeld.size)) (fun hHeld => ?_)
                clear hK K hb9 hn7
                try simp only [Act.put, List.getElem_toArray, List.getElem_cons_succ, List.getElem_cons_zero, List.setIfInBounds_toArray, List.set_cons_zero, List.set_cons_succ]
                refine wpAnyH_ready (rs := [6]) (by kernel_rfl) (by simp) ?_
                refine AllReadyH.cons rfl (fun K hK => ?_) AllReadyH.nil
                refine wp_allocI rfl ?_
                intro g6 cs6 V6 hs6 hn6 hB6 hb9
                have n6 : V0.heap.size ≤ g6 := by have := hn6.out; have := hHeld.size; omega
                replace hB7 := hB7.below hb9
                refine hK.out _ _ (hHeld.trans (hb9.mono hHeld.size)) (fun hHeld => ?_)
                clear hK K hb9 hn6
                try simp only [Act.put, List.getElem_toArray, List.getElem_cons_succ, List.getElem_cons_zero, List.setIfInBounds_toArray, List.set_cons_zero, List.set_cons_succ]
                refine wpAnyH_ready (rs := [8]) (by kernel_rfl) (by simp) ?_
                refine AllReadyH.cons rfl (fun K hK => ?_) AllReadyH.nil
                refine wp_store_blk 24 _ _ rfl g6 _ (idVals R0) 24 hB6 rfl rfl hzR (by rw [hs6, sR]) h1R ?_
                intro V8 hC6 hg9
                replace hB7 := blk_gM hB7 hg9 (blk_neM hB7 hB6 (by decide))
                clear hB6; have hB6 := hC6; clear hC6
                refine hK.out _ _ (hHeld.grown hg9 hHeld.size (fun q hq => by have := Option.some.inj hq; omega)) (fun hHeld => ?_)
                clear hK K hg9
                try simp only [Act.put, List.getElem_toArray, List.getElem_cons_succ, List.getElem_cons_zero, List.setIfInBounds_toArray, List.set_cons_zero, List.set_cons_succ]
                refine wpAnyH_ready (rs := [9]) (by kernel_rfl) (by simp) ?_
                refine AllReadyH.cons rfl (fun K hK => ?_) AllReadyH.nil
                refine wp_store_sl _ _ rfl g7 _ hB7 A m c rfl rfl ?_
                intro V9 hC7 hg9
                replace hB6 := blk_gM hB6 hg9 (blk_neM hB6 hB7 (by decide))
                clear hB7; have hB7 := hC7; clear hC7
                refine hK.out _ _ (hHeld.grown hg9 hHeld.size (fun q hq => by have := Option.some.inj hq; omega)) (fun hHeld => ?_)
                clear hK K hg9
                try simp only [Act.put, List.getElem_toArray, List.getElem_cons_succ, List.getElem_cons_zero, List.setIfInBounds_toArray, List.set_cons_zero, List.set_cons_succ]
                refine wpAnyH_done (by kernel_rfl) ?_ _
                go_wp2_with (fail)
                go_meet
                have lz := HZ.out.lt
                have hsz := HB.out.size
                exact ⟨g6, g7, rfl, rfl, HX.out.below hHeld, HZ.out.below hHeld, hB6, hB7, HQ.out, HB.out.trans (hHeld.mono HB.out.size), by omega, by omega, by omega⟩
        · as_aux_lemma =>
            refine wp_allocI rfl ?_
            intro g6 cs6 V6 hs6 hn6 hB6 hb9
            have n6 : V0.heap.size ≤ g6 := by have := hn6.out; have := hHeld.size; omega
            replace hrow := hrow.below hb9
            refine hK.out _ _ (hHeld.trans (hb9.mono hHeld.size)) (fun hHeld => ?_)
            clear hK K hb9 hn6
            try simp only [Act.put, List.getElem_toArray, List.getElem_cons_succ, List.getElem_cons_zero, List.setIfInBounds_toArray, List.set_cons_zero, List.set_cons_succ]
            refine wpAnyH_ready (rs := [3, 7]) (by kernel_rfl) (by simp) ?_
            refine AllReadyH.cons rfl (fun K hK => ?_) (AllReadyH.cons rfl (fun K hK => ?_) AllReadyH.nil)
            · as_aux_lemma =>
                go_simp
                (with_reducible refine (HCR.out _ _ hrow).mono ?_)
                rintro e3 V3 ⟨rfl, hb9⟩
                clear hrow
                replace hB6 := hB6.below hb9
                refine hK.out _ _ (hHeld.trans (hb9.mono hHeld.size)) (fun hHeld => ?_)
                clear hK K hb9
                try simp only [Act.put, List.getElem_toArray, List.getElem_cons_succ, List.getElem_cons_zero, List.setIfInBounds_toArray, List.set_cons_zero, List.set_cons_succ]
                refine wpAnyH_ready (rs := [7]) (by kernel_rfl) (by simp) ?_
                refine AllReadyH.cons rfl (fun K hK => ?_) AllReadyH.nil
                refine wp_allocL rfl ?_
                intro g7 v7 V7 hn7 hB7 hb9
                have n7 : V0.heap.size ≤ g7 := by have := hn7.out; have := hHeld.size; omega
                replace hB6 := hB6.below hb9
                refine hK.out _ _ (hHeld.trans (hb9.mono hHeld.size)) (fun hHeld => ?_)
                clear hK K hb9 hn7
                try simp only [Act.put, List.getElem_toArray, List.getElem_cons_succ, List.getElem_cons_zero, List.setIfInBounds_toArray, List.set_cons_zero, List.set_cons_succ]
                refine wpAnyH_ready (rs := [8]) (by kernel_rfl) (by simp) ?_
                refine AllReadyH.cons rfl (fun K hK => ?_) AllReadyH.nil
                refine wp_store_blk 24 _ _ rfl g6 _ (idVals R0) 24 hB6 rfl rfl hzR (by rw [hs6, sR]) h1R ?_
                intro V8 hC6 hg9
                replace hB7 := blk_gM hB7 hg9 (blk_neM hB7 hB6 (by decide))
                clear hB6; have hB6 := hC6; clear hC6
                refine hK.out _ _ (hHeld.grown hg9 hHeld.size (fun q hq => by have := Option.some.inj hq; omega)) (fun hHeld => ?_)
                clear hK K hg9
                try simp only [Act.put, List.getElem_toArray, List.getElem_cons_succ, List.getElem_cons_zero, List.setIfInBounds_toArray, List.set_cons_zero, List.set_cons_succ]
                refine wpAnyH_ready (rs := [9]) (by kernel_rfl) (by simp) ?_
                refine AllReadyH.cons rfl (fun K hK => ?_) AllReadyH.nil
                refine wp_store_sl _ _ rfl g7 _ hB7 A m c rfl rfl ?_
                intro V9 hC7 hg9
                replace hB6 := blk_gM hB6 hg9 (blk_neM hB6 hB7 (by decide))
                clear hB7; have hB7 := hC7; clear hC7
                refine hK.out _ _ (hHeld.grown hg9 hHeld.size (fun q hq => by have := Option.some.inj hq; omega)) (fun hHeld => ?_)
                clear hK K hg9
                try simp only [Act.put, List.getElem_toArray, List.getElem_cons_succ, List.getElem_cons_zero, List.setIfInBounds_toArray, List.set_cons_zero, List.set_cons_succ]
                refine wpAnyH_done (by kernel_rfl) ?_ _
                go_wp2_with (fail)
                go_meet
                have lz := HZ.out.lt
                have hsz := HB.out.size
                exact ⟨g6, g7, rfl, rfl, HX.out.below hHeld, HZ.out.below hHeld, hB6, hB7, HQ.out, HB.out.trans (hHeld.mono HB.out.size), by omega, by omega, by omega⟩
            · as_aux_lemma =>
                refine wp_allocL rfl ?_
                intro g7 v7 V7 hn7 hB7 hb9
                have n7 : V0.heap.size ≤ g7 := by have := hn7.out; have := hHeld.size; omega
                replace hrow := hrow.below hb9
                replace hB6 := hB6.below hb9
                refine hK.out _ _ (hHeld.trans (hb9.mono hHeld.size)) (fun hHeld => ?_)
                clear hK K hb9 hn7
                try simp only [Act.put, List.getElem_toArray, List.getElem_cons_succ, List.getElem_cons_zero, List.setIfInBounds_toArray, List.set_cons_zero, List.set_cons_succ]
                refine wpAnyH_ready (rs := [3]) (by kernel_rfl) (by simp) ?_
                refine AllReadyH.cons rfl (fun K hK => ?_) AllReadyH.nil
                go_simp
                (with_reducible refine (HCR.out _ _ hrow).mono ?_)
                rintro e3 V3 ⟨rfl, hb9⟩
                clear hrow
                replace hB6 := hB6.below hb9
                replace hB7 := hB7.below hb9
                refine hK.out _ _ (hHeld.trans (hb9.mono hHeld.size)) (fun hHeld => ?_)
                clear hK K hb9
                try simp only [Act.put, List.getElem_toArray, List.getElem_cons_succ, List.getElem_cons_zero, List.setIfInBounds_toArray, List.set_cons_zero, List.set_cons_succ]
                refine wpAnyH_ready (rs := [8]) (by kernel_rfl) (by simp) ?_
                refine AllReadyH.cons rfl (fun K hK => ?_) AllReadyH.nil
                refine wp_store_blk 24 _ _ rfl g6 _ (idVals R0) 24 hB6 rfl rfl hzR (by rw [hs6, sR]) h1R ?_
                intro V8 hC6 hg9
                replace hB7 := blk_gM hB7 hg9 (blk_neM hB7 hB6 (by decide))
                clear hB6; have hB6 := hC6; clear hC6
                refine hK.out _ _ (hHeld.grown hg9 hHeld.size (fun q hq => by have := Option.some.inj hq; omega)) (fun hHeld => ?_)
                clear hK K hg9
                try simp only [Act.put, List.getElem_toArray, List.getElem_cons_succ, List.getElem_cons_zero, List.setIfInBounds_toArray, List.set_cons_zero, List.set_cons_succ]
                refine wpAnyH_ready (rs := [9]) (by kernel_rfl) (by simp) ?_
                refine AllReadyH.cons rfl (fun K hK => ?_) AllReadyH.nil
                refine wp_store_sl _ _ rfl g7 _ hB7 A m c rfl rfl ?_
                intro V9 hC7 hg9
                replace hB6 := blk_gM hB6 hg9 (blk_neM hB6 hB7 (by decide))
                clear hB7; have hB7 := hC7; clear hC7
                refine hK.out _ _ (hHeld.grown hg9 hHeld.size (fun q hq => by have := Option.some.inj hq; omega)) (fun hHeld => ?_)
                clear hK K hg9
                try simp only [Act.put, List.getElem_toArray, List.getElem_cons_succ, List.getElem_cons_zero, List.setIfInBounds_toArray, List.set_cons_zero, List.set_cons_succ]
                refine wpAnyH_done (by kernel_rfl) ?_ _
                go_wp2_with (fail)
                go_meet
                have lz := HZ.out.lt
                have hsz := HB.out.size
                exact ⟨g6, g7, rfl, rfl, HX.out.below hHeld, HZ.out.below hHeld, hB6, hB7, HQ.out, HB.out.trans (hHeld.mono HB.out.size), by omega, by omega, by omega⟩
        · as_aux_lemma =>
            refine wp_allocL rfl ?_
            intro g7 v7 V7 hn7 hB7 hb9
            have n7 : V0.heap.size ≤ g7 := by have := hn7.out; have := hHeld.size; omega
            replace hrow := hrow.below hb9
            refine hK.out _ _ (hHeld.trans (hb9.mono hHeld.size)) (fun hHeld => ?_)
            clear hK K hb9 hn7
            try simp only [Act.put, List.getElem_toArray, List.getElem_cons_succ, List.getElem_cons_zero, List.setIfInBounds_toArray, List.set_cons_zero, List.set_cons_succ]
            refine wpAnyH_ready (rs := [3, 6]) (by kernel_rfl) (by simp) ?_
            refine AllReadyH.cons rfl (fun K hK => ?_) (AllReadyH.cons rfl (fun K hK => ?_) AllReadyH.nil)
            · as_aux_lemma =>
                go_simp
                (with_reducible refine (HCR.out _ _ hrow).mono ?_)
                rintro e3 V3 ⟨rfl, hb9⟩
                clear hrow
                replace hB7 := hB7.below hb9
                refine hK.out _ _ (hHeld.trans (hb9.mono hHeld.size)) (fun hHeld => ?_)
                clear hK K hb9
                try simp only [Act.put, List.getElem_toArray, List.getElem_cons_succ, List.getElem_cons_zero, List.setIfInBounds_toArray, List.set_cons_zero, List.set_cons_succ]
                refine wpAnyH_ready (rs := [6]) (by kernel_rfl) (by simp) ?_
                refine AllReadyH.cons rfl (fun K hK => ?_) AllReadyH.nil
                refine wp_allocI rfl ?_
                intro g6 cs6 V6 hs6 hn6 hB6 hb9
                have n6 : V0.heap.size ≤ g6 := by have := hn6.out; have := hHeld.size; omega
                replace hB7 := hB7.below hb9
                refine hK.out _ _ (hHeld.trans (hb9.mono hHeld.size)) (fun hHeld => ?_)
                clear hK K hb9 hn6
                try simp only [Act.put, List.getElem_toArray, List.getElem_cons_succ, List.getElem_cons_zero, List.setIfInBounds_toArray, List.set_cons_zero, List.set_cons_succ]
                refine wpAnyH_ready (rs := [8]) (by kernel_rfl) (by simp) ?_
                refine AllReadyH.cons rfl (fun K hK => ?_) AllReadyH.nil
                refine wp_store_blk 24 _ _ rfl g6 _ (idVals R0) 24 hB6 rfl rfl hzR (by rw [hs6, sR]) h1R ?_
                intro V8 hC6 hg9
                replace hB7 := blk_gM hB7 hg9 (blk_neM hB7 hB6 (by decide))
                clear hB6; have hB6 := hC6; clear hC6
                refine hK.out _ _ (hHeld.grown hg9 hHeld.size (fun q hq => by have := Option.some.inj hq; omega)) (fun hHeld => ?_)
                clear hK K hg9
                try simp only [Act.put, List.getElem_toArray, List.getElem_cons_succ, List.getElem_cons_zero, List.setIfInBounds_toArray, List.set_cons_zero, List.set_cons_succ]
                refine wpAnyH_ready (rs := [9]) (by kernel_rfl) (by simp) ?_
                refine AllReadyH.cons rfl (fun K hK => ?_) AllReadyH.nil
                refine wp_store_sl _ _ rfl g7 _ hB7 A m c rfl rfl ?_
                intro V9 hC7 hg9
                replace hB6 := blk_gM hB6 hg9 (blk_neM hB6 hB7 (by decide))
                clear hB7; have hB7 := hC7; clear hC7
                refine hK.out _ _ (hHeld.grown hg9 hHeld.size (fun q hq => by have := Option.some.inj hq; omega)) (fun hHeld => ?_)
                clear hK K hg9
                try simp only [Act.put, List.getElem_toArray, List.getElem_cons_succ, List.getElem_cons_zero, List.setIfInBounds_toArray, List.set_cons_zero, List.set_cons_succ]
                refine wpAnyH_done (by kernel_rfl) ?_ _
                go_wp2_with (fail)
                go_meet
                have lz := HZ.out.lt
                have hsz := HB.out.size
                exact ⟨g6, g7, rfl, rfl, HX.out.below hHeld, HZ.out.below hHeld, hB6, hB7, HQ.out, HB.out.trans (hHeld.mono HB.out.size), by omega, by omega, by omega⟩
            · as_aux_lemma =>
                refine wp_allocI rfl ?_
                intro g6 cs6 V6 hs6 hn6 hB6 hb9
                have n6 : V0.heap.size ≤ g6 := by have := hn6.out; have := hHeld.size; omega
                replace hrow := hrow.below hb9
                replace hB7 := hB7.below hb9
                refine hK.out _ _ (hHeld.trans (hb9.mono hHeld.size)) (fun hHeld => ?_)
                clear hK K hb9 hn6
                try simp only [Act.put, List.getElem_toArray, List.getElem_cons_succ, List.getElem_cons_zero, List.setIfInBounds_toArray, List.set_cons_zero, List.set_cons_succ]
                refine wpAnyH_ready (rs := [3]) (by kernel_rfl) (by simp) ?_
                refine AllReadyH.cons rfl (fun K hK => ?_) AllReadyH.nil
                go_simp
                (with_reducible refine (HCR.out _ _ hrow).mono ?_)
                rintro e3 V3 ⟨rfl, hb9⟩
                clear hrow
                replace hB7 := hB7.below hb9
                replace hB6 := hB6.below hb9
                refine hK.out _ _ (hHeld.trans (hb9.mono hHeld.size)) (fun hHeld => ?_)
                clear hK K hb9
                try simp only [Act.put, List.getElem_toArray, List.getElem_cons_succ, List.getElem_cons_zero, List.setIfInBounds_toArray, List.set_cons_zero, List.set_cons_succ]
                refine wpAnyH_ready (rs := [8]) (by kernel_rfl) (by simp) ?_
                refine AllReadyH.cons rfl (fun K hK => ?_) AllReadyH.nil
                refine wp_store_blk 24 _ _ rfl g6 _ (idVals R0) 24 hB6 rfl rfl hzR (by rw [hs6, sR]) h1R ?_
                intro V8 hC6 hg9
                replace hB7 := blk_gM hB7 hg9 (blk_neM hB7 hB6 (by decide))
                clear hB6; have hB6 := hC6; clear hC6
                refine hK.out _ _ (hHeld.grown hg9 hHeld.size (fun q hq => by have := Option.some.inj hq; omega)) (fun hHeld => ?_)
                clear hK K hg9
                try simp only [Act.put, List.getElem_toArray, List.getElem_cons_succ, List.getElem_cons_zero, List.setIfInBounds_toArray, List.set_cons_zero, List.set_cons_succ]
                refine wpAnyH_ready (rs := [9]) (by kernel_rfl) (by simp) ?_
                refine AllReadyH.cons rfl (fun K hK => ?_) AllReadyH.nil
                refine wp_store_sl _ _ rfl g7 _ hB7 A m c rfl rfl ?_
                intro V9 hC7 hg9
                replace hB6 := blk_gM hB6 hg9 (blk_neM hB6 hB7 (by decide))
                clear hB7; have hB7 := hC7; clear hC7
                refine hK.out _ _ (hHeld.grown hg9 hHeld.size (fun q hq => by have := Option.some.inj hq; omega)) (fun hHeld => ?_)
                clear hK K hg9
                try simp only [Act.put, List.getElem_toArray, List.getElem_cons_succ, List.getElem_cons_zero, List.setIfInBounds_toArray, List.set_cons_zero, List.set_cons_succ]
                refine wpAnyH_done (by kernel_rfl) ?_ _
                go_wp2_with (fail)
                go_meet
                have lz := HZ.out.lt
                have hsz := HB.out.size
                exact ⟨g6, g7, rfl, rfl, HX.out.below hHeld, HZ.out.below hHeld, hB6, hB7, HQ.out, HB.out.trans (hHeld.mono HB.out.size), by omega, by omega, by omega⟩
    · as_aux_lemma =>
        refine wp_allocI rfl ?_
        intro g6 cs6 V6 hs6 hn6 hB6 hb9
        have n6 : V0.heap.size ≤ g6 := by have := hn6.out; have := hHeld.size; omega
        refine hK.out _ _ (hHeld.trans (hb9.mono hHeld.size)) (fun hHeld => ?_)
        clear hK K hb9 hn6
        try simp only [Act.put, List.getElem_toArray, List.getElem_cons_succ, List.getElem_cons_zero, List.setIfInBounds_toArray, List.set_cons_zero, List.set_cons_succ]
        refine wpAnyH_ready (rs := [2, 7]) (by kernel_rfl) (by simp) ?_
        refine AllReadyH.cons rfl (fun K hK => ?_) (AllReadyH.cons rfl (fun K hK => ?_) AllReadyH.nil)
        · as_aux_lemma =>
            refine wp_build1j _ rfl a ha rfl ?_
            intro g9 V2 hrow hb9
            replace hB6 := hB6.below hb9
            refine hK.out _ _ (hHeld.trans (hb9.mono hHeld.size)) (fun hHeld => ?_)
            clear hK K hb9
            try simp only [Act.put, List.getElem_toArray, List.getElem_cons_succ, List.getElem_cons_zero, List.setIfInBounds_toArray, List.set_cons_zero, List.set_cons_succ]
            refine wpAnyH_ready (rs := [3, 7]) (by kernel_rfl) (by simp) ?_
            refine AllReadyH.cons rfl (fun K hK => ?_) (AllReadyH.cons rfl (fun K hK => ?_) AllReadyH.nil)
            · as_aux_lemma =>
                go_simp
                (with_reducible refine (HCR.out _ _ hrow).mono ?_)
                rintro e3 V3 ⟨rfl, hb9⟩
                clear hrow
                replace hB6 := hB6.below hb9
                refine hK.out _ _ (hHeld.trans (hb9.mono hHeld.size)) (fun hHeld => ?_)
                clear hK K hb9
                try simp only [Act.put, List.getElem_toArray, List.getElem_cons_succ, List.getElem_cons_zero, List.setIfInBounds_toArray, List.set_cons_zero, List.set_cons_succ]
                refine wpAnyH_ready (rs := [7]) (by kernel_rfl) (by simp) ?_
                refine AllReadyH.cons rfl (fun K hK => ?_) AllReadyH.nil
                refine wp_allocL rfl ?_
                intro g7 v7 V7 hn7 hB7 hb9
                have n7 : V0.heap.size ≤ g7 := by have := hn7.out; have := hHeld.size; omega
                replace hB6 := hB6.below hb9
                refine hK.out _ _ (hHeld.trans (hb9.mono hHeld.size)) (fun hHeld => ?_)
                clear hK K hb9 hn7
                try simp only [Act.put, List.getElem_toArray, List.getElem_cons_succ, List.getElem_cons_zero, List.setIfInBounds_toArray, List.set_cons_zero, List.set_cons_succ]
                refine wpAnyH_ready (rs := [8]) (by kernel_rfl) (by simp) ?_
                refine AllReadyH.cons rfl (fun K hK => ?_) AllReadyH.nil
                refine wp_store_blk 24 _ _ rfl g6 _ (idVals R0) 24 hB6 rfl rfl hzR (by rw [hs6, sR]) h1R ?_
                intro V8 hC6 hg9
                replace hB7 := blk_gM hB7 hg9 (blk_neM hB7 hB6 (by decide))
                clear hB6; have hB6 := hC6; clear hC6
                refine hK.out _ _ (hHeld.grown hg9 hHeld.size (fun q hq => by have := Option.some.inj hq; omega)) (fun hHeld => ?_)
                clear hK K hg9
                try simp only [Act.put, List.getElem_toArray, List.getElem_cons_succ, List.getElem_cons_zero, List.setIfInBounds_toArray, List.set_cons_zero, List.set_cons_succ]
                refine wpAnyH_ready (rs := [9]) (by kernel_rfl) (by simp) ?_
                refine AllReadyH.cons rfl (fun K hK => ?_) AllReadyH.nil
                refine wp_store_sl _ _ rfl g7 _ hB7 A m c rfl rfl ?_
                intro V9 hC7 hg9
                replace hB6 := blk_gM hB6 hg9 (blk_neM hB6 hB7 (by decide))
                clear hB7; have hB7 := hC7; clear hC7
                refine hK.out _ _ (hHeld.grown hg9 hHeld.size (fun q hq => by have := Option.some.inj hq; omega)) (fun hHeld => ?_)
                clear hK K hg9
                try simp only [Act.put, List.getElem_toArray, List.getElem_cons_succ, List.getElem_cons_zero, List.setIfInBounds_toArray, List.set_cons_zero, List.set_cons_succ]
                refine wpAnyH_done (by kernel_rfl) ?_ _
                go_wp2_with (fail)
                go_meet
                have lz := HZ.out.lt
                have hsz := HB.out.size
                exact ⟨g6, g7, rfl, rfl, HX.out.below hHeld, HZ.out.below hHeld, hB6, hB7, HQ.out, HB.out.trans (hHeld.mono HB.out.size), by omega, by omega, by omega⟩
            · as_aux_lemma =>
                refine wp_allocL rfl ?_
                intro g7 v7 V7 hn7 hB7 hb9
                have n7 : V0.heap.size ≤ g7 := by have := hn7.out; have := hHeld.size; omega
                replace hB6 := hB6.below hb9
                replace hrow := hrow.below hb9
                refine hK.out _ _ (hHeld.trans (hb9.mono hHeld.size)) (fun hHeld => ?_)
                clear hK K hb9 hn7
                try simp only [Act.put, List.getElem_toArray, List.getElem_cons_succ, List.getElem_cons_zero, List.setIfInBounds_toArray, List.set_cons_zero, List.set_cons_succ]
                refine wpAnyH_ready (rs := [3]) (by kernel_rfl) (by simp) ?_
                refine AllReadyH.cons rfl (fun K hK => ?_) AllReadyH.nil
                go_simp
                (with_reducible refine (HCR.out _ _ hrow).mono ?_)
                rintro e3 V3 ⟨rfl, hb9⟩
                clear hrow
                replace hB6 := hB6.below hb9
                replace hB7 := hB7.below hb9
                refine hK.out _ _ (hHeld.trans (hb9.mono hHeld.size)) (fun hHeld => ?_)
                clear hK K hb9
                try simp only [Act.put, List.getElem_toArray, List.getElem_cons_succ, List.getElem_cons_zero, List.setIfInBounds_toArray, List.set_cons_zero, List.set_cons_succ]
                refine wpAnyH_ready (rs := [8]) (by kernel_rfl) (by simp) ?_
                refine AllReadyH.cons rfl (fun K hK => ?_) AllReadyH.nil
                refine wp_store_blk 24 _ _ rfl g6 _ (idVals R0) 24 hB6 rfl rfl hzR (by rw [hs6, sR]) h1R ?_
                intro V8 hC6 hg9
                replace hB7 := blk_gM hB7 hg9 (blk_neM hB7 hB6 (by decide))
                clear hB6; have hB6 := hC6; clear hC6
                refine hK.out _ _ (hHeld.grown hg9 hHeld.size (fun q hq => by have := Option.some.inj hq; omega)) (fun hHeld => ?_)
                clear hK K hg9
                try simp only [Act.put, List.getElem_toArray, List.getElem_cons_succ, List.getElem_cons_zero, List.setIfInBounds_toArray, List.set_cons_zero, List.set_cons_succ]
                refine wpAnyH_ready (rs := [9]) (by kernel_rfl) (by simp) ?_
                refine AllReadyH.cons rfl (fun K hK => ?_) AllReadyH.nil
                refine wp_store_sl _ _ rfl g7 _ hB7 A m c rfl rfl ?_
                intro V9 hC7 hg9
                replace hB6 := blk_gM hB6 hg9 (blk_neM hB6 hB7 (by decide))
                clear hB7; have hB7 := hC7; clear hC7
                refine hK.out _ _ (hHeld.grown hg9 hHeld.size (fun q hq => by have := Option.some.inj hq; omega)) (fun hHeld => ?_)
                clear hK K hg9
                try simp only [Act.put, List.getElem_toArray, List.getElem_cons_succ, List.getElem_cons_zero, List.setIfInBounds_toArray, List.set_cons_zero, List.set_cons_succ]
                refine wpAnyH_done (by kernel_rfl) ?_ _
                go_wp2_with (fail)
                go_meet
                have lz := HZ.out.lt
                have hsz := HB.out.size
                exact ⟨g6, g7, rfl, rfl, HX.out.below hHeld, HZ.out.below hHeld, hB6, hB7, HQ.out, HB.out.trans (hHeld.mono HB.out.size), by omega, by omega, by omega⟩
        · as_aux_lemma =>
            refine wp_allocL rfl ?_
            intro g7 v7 V7 hn7 hB7 hb9
            have n7 : V0.heap.size ≤ g7 := by have := hn7.out; have := hHeld.size; omega
            replace hB6 := hB6.below hb9
            refine hK.out _ _ (hHeld.trans (hb9.mono hHeld.size)) (fun hHeld => ?_)
            clear hK K hb9 hn7
            try simp only [Act.put, List.getElem_toArray, List.getElem_cons_succ, List.getElem_cons_zero, List.setIfInBounds_toArray, List.set_cons_zero, List.set_cons_succ]
            refine wpAnyH_ready (rs := [2]) (by kernel_rfl) (by simp) ?_
            refine AllReadyH.cons rfl (fun K hK => ?_) AllReadyH.nil
            refine wp_build1j _ rfl a ha rfl ?_
            intro g9 V2 hrow hb9
            replace hB6 := hB6.below hb9
            replace hB7 := hB7.below hb9
            refine hK.out _ _ (hHeld.trans (hb9.mono hHeld.size)) (fun hHeld => ?_)
            clear hK K hb9
            try simp only [Act.put, List.getElem_toArray, List.getElem_cons_succ, List.getElem_cons_zero, List.setIfInBounds_toArray, List.set_cons_zero, List.set_cons_succ]
            refine wpAnyH_ready (rs := [3]) (by kernel_rfl) (by simp) ?_
            refine AllReadyH.cons rfl (fun K hK => ?_) AllReadyH.nil
            go_simp
            (with_reducible refine (HCR.out _ _ hrow).mono ?_)
            rintro e3 V3 ⟨rfl, hb9⟩
            clear hrow
            replace hB6 := hB6.below hb9
            replace hB7 := hB7.below hb9
            refine hK.out _ _ (hHeld.trans (hb9.mono hHeld.size)) (fun hHeld => ?_)
            clear hK K hb9
            try simp only [Act.put, List.getElem_toArray, List.getElem_cons_succ, List.getElem_cons_zero, List.setIfInBounds_toArray, List.set_cons_zero, List.set_cons_succ]
            refine wpAnyH_ready (rs := [8]) (by kernel_rfl) (by simp) ?_
            refine AllReadyH.cons rfl (fun K hK => ?_) AllReadyH.nil
            refine wp_store_blk 24 _ _ rfl g6 _ (idVals R0) 24 hB6 rfl rfl hzR (by rw [hs6, sR]) h1R ?_
            intro V8 hC6 hg9
            replace hB7 := blk_gM hB7 hg9 (blk_neM hB7 hB6 (by decide))
            clear hB6; have hB6 := hC6; clear hC6
            refine hK.out _ _ (hHeld.grown hg9 hHeld.size (fun q hq => by have := Option.some.inj hq; omega)) (fun hHeld => ?_)
            clear hK K hg9
            try simp only [Act.put, List.getElem_toArray, List.getElem_cons_succ, List.getElem_cons_zero, List.setIfInBounds_toArray, List.set_cons_zero, List.set_cons_succ]
            refine wpAnyH_ready (rs := [9]) (by kernel_rfl) (by simp) ?_
            refine AllReadyH.cons rfl (fun K hK => ?_) AllReadyH.nil
            refine wp_store_sl _ _ rfl g7 _ hB7 A m c rfl rfl ?_
            intro V9 hC7 hg9
            replace hB6 := blk_gM hB6 hg9 (blk_neM hB6 hB7 (by decide))
            clear hB7; have hB7 := hC7; clear hC7
            refine hK.out _ _ (hHeld.grown hg9 hHeld.size (fun q hq => by have := Option.some.inj hq; omega)) (fun hHeld => ?_)
            clear hK K hg9
            try simp only [Act.put, List.getElem_toArray, List.getElem_cons_succ, List.getElem_cons_zero, List.setIfInBounds_toArray, List.set_cons_zero, List.set_cons_succ]
            refine wpAnyH_done (by kernel_rfl) ?_ _
            go_wp2_with (fail)
            go_meet
            have lz := HZ.out.lt
            have hsz := HB.out.size
            exact ⟨g6, g7, rfl, rfl, HX.out.below hHeld, HZ.out.below hHeld, hB6, hB7, HQ.out, HB.out.trans (hHeld.mono HB.out.size), by omega, by omega, by omega⟩
    · as_aux_lemma =>
        refine wp_allocL rfl ?_
        intro g7 v7 V7 hn7 hB7 hb9
        have n7 : V0.heap.size ≤ g7 := by have := hn7.out; have := hHeld.size; omega
        refine hK.out _ _ (hHeld.trans (hb9.mono hHeld.size)) (fun hHeld => ?_)
        clear hK K hb9 hn7
        try simp only [Act.put, List.getElem_toArray, List.getElem_cons_succ, List.getElem_cons_zero, List.setIfInBounds_toArray, List.set_cons_zero, List.set_cons_succ]
        refine wpAnyH_ready (rs := [2, 6]) (by kernel_rfl) (by simp) ?_
        refine AllReadyH.cons rfl (fun K hK => ?_) (AllReadyH.cons rfl (fun K hK => ?_) AllReadyH.nil)
        · as_aux_lemma =>
            refine wp_build1j _ rfl a ha rfl ?_
            intro g9 V2 hrow hb9
            replace hB7 := hB7.below hb9
            refine hK.out _ _ (hHeld.trans (hb9.mono hHeld.size)) (fun hHeld => ?_)
            clear hK K hb9
            try simp only [Act.put, List.getElem_toArray, List.getElem_cons_succ, List.getElem_cons_zero, List.setIfInBounds_toArray, List.set_cons_zero, List.set_cons_succ]
            refine wpAnyH_ready (rs := [3, 6]) (by kernel_rfl) (by simp) ?_
            refine AllReadyH.cons rfl (fun K hK => ?_) (AllReadyH.cons rfl (fun K hK => ?_) AllReadyH.nil)
            · as_aux_lemma =>
                go_simp
                (with_reducible refine (HCR.out _ _ hrow).mono ?_)
                rintro e3 V3 ⟨rfl, hb9⟩
                clear hrow
                replace hB7 := hB7.below hb9
                refine hK.out _ _ (hHeld.trans (hb9.mono hHeld.size)) (fun hHeld => ?_)
                clear hK K hb9
                try simp only [Act.put, List.getElem_toArray, List.getElem_cons_succ, List.getElem_cons_zero, List.setIfInBounds_toArray, List.set_cons_zero, List.set_cons_succ]
                refine wpAnyH_ready (rs := [6]) (by kernel_rfl) (by simp) ?_
                refine AllReadyH.cons rfl (fun K hK => ?_) AllReadyH.nil
                refine wp_allocI rfl ?_
                intro g6 cs6 V6 hs6 hn6 hB6 hb9
                have n6 : V0.heap.size ≤ g6 := by have := hn6.out; have := hHeld.size; omega
                replace hB7 := hB7.below hb9
                refine hK.out _ _ (hHeld.trans (hb9.mono hHeld.size)) (fun hHeld => ?_)
                clear hK K hb9 hn6
                try simp only [Act.put, List.getElem_toArray, List.getElem_cons_succ, List.getElem_cons_zero, List.setIfInBounds_toArray, List.set_cons_zero, List.set_cons_succ]
                refine wpAnyH_ready (rs := [8]) (by kernel_rfl) (by simp) ?_
                refine AllReadyH.cons rfl (fun K hK => ?_) AllReadyH.nil
                refine wp_store_blk 24 _ _ rfl g6 _ (idVals R0) 24 hB6 rfl rfl hzR (by rw [hs6, sR]) h1R ?_
                intro V8 hC6 hg9
                replace hB7 := blk_gM hB7 hg9 (blk_neM hB7 hB6 (by decide))
                clear hB6; have hB6 := hC6; clear hC6
                refine hK.out _ _ (hHeld.grown hg9 hHeld.size (fun q hq => by have := Option.some.inj hq; omega)) (fun hHeld => ?_)
                clear hK K hg9
                try simp only [Act.put, List.getElem_toArray, List.getElem_cons_succ, List.getElem_cons_zero, List.setIfInBounds_toArray, List.set_cons_zero, List.set_cons_succ]
                refine wpAnyH_ready (rs := [9]) (by kernel_rfl) (by simp) ?_
                refine AllReadyH.cons rfl (fun K hK => ?_) AllReadyH.nil
                refine wp_store_sl _ _ rfl g7 _ hB7 A m c rfl rfl ?_
                intro V9 hC7 hg9
                replace hB6 := blk_gM hB6 hg9 (blk_neM hB6 hB7 (by decide))
                clear hB7; have hB7 := hC7; clear hC7
                refine hK.out _ _ (hHeld.grown hg9 hHeld.size (fun q hq => by have := Option.some.inj hq; omega)) (fun hHeld => ?_)
                clear hK K hg9
                try simp only [Act.put, List.getElem_toArray, List.getElem_cons_succ, List.getElem_cons_zero, List.setIfInBounds_toArray, List.set_cons_zero, List.set_cons_succ]
                refine wpAnyH_done (by kernel_rfl) ?_ _
                go_wp2_with (fail)
                go_meet
                have lz := HZ.out.lt
                have hsz := HB.out.size
                exact ⟨g6, g7, rfl, rfl, HX.out.below hHeld, HZ.out.below hHeld, hB6, hB7, HQ.out, HB.out.trans (hHeld.mono HB.out.size), by omega, by omega, by omega⟩
            · as_aux_lemma =>
                refine wp_allocI rfl ?_
                intro g6 cs6 V6 hs6 hn6 hB6 hb9
                have n6 : V0.heap.size ≤ g6 := by have := hn6.out; have := hHeld.size; omega
                replace hB7 := hB7.below hb9
                replace hrow := hrow.below hb9
                refine hK.out _ _ (hHeld.trans (hb9.mono hHeld.size)) (fun hHeld => ?_)
                clear hK K hb9 hn6
                try simp only [Act.put, List.getElem_toArray, List.getElem_cons_succ, List.getElem_cons_zero, List.setIfInBounds_toArray, List.set_cons_zero, List.set_cons_succ]
                refine wpAnyH_ready (rs := [3]) (by kernel_rfl) (by simp) ?_
                refine AllReadyH.cons rfl (fun K hK => ?_) AllReadyH.nil
                go_simp
                (with_reducible refine (HCR.out _ _ hrow).mono ?_)
                rintro e3 V3 ⟨rfl, hb9⟩
                clear hrow
                replace hB7 := hB7.below hb9
                replace hB6 := hB6.below hb9
                refine hK.out _ _ (hHeld.trans (hb9.mono hHeld.size)) (fun hHeld => ?_)
                clear hK K hb9
                try simp only [Act.put, List.getElem_toArray, List.getElem_cons_succ, List.getElem_cons_zero, List.setIfInBounds_toArray, List.set_cons_zero, List.set_cons_succ]
                refine wpAnyH_ready (rs := [8]) (by kernel_rfl) (by simp) ?_
                refine AllReadyH.cons rfl (fun K hK => ?_) AllReadyH.nil
                refine wp_store_blk 24 _ _ rfl g6 _ (idVals R0) 24 hB6 rfl rfl hzR (by rw [hs6, sR]) h1R ?_
                intro V8 hC6 hg9
                replace hB7 := blk_gM hB7 hg9 (blk_neM hB7 hB6 (by decide))
                clear hB6; have hB6 := hC6; clear hC6
                refine hK.out _ _ (hHeld.grown hg9 hHeld.size (fun q hq => by have := Option.some.inj hq; omega)) (fun hHeld => ?_)
                clear hK K hg9
                try simp only [Act.put, List.getElem_toArray, List.getElem_cons_succ, List.getElem_cons_zero, List.setIfInBounds_toArray, List.set_cons_zero, List.set_cons_succ]
                refine wpAnyH_ready (rs := [9]) (by kernel_rfl) (by simp) ?_
                refine AllReadyH.cons rfl (fun K hK => ?_) AllReadyH.nil
                refine wp_store_sl _ _ rfl g7 _ hB7 A m c rfl rfl ?_
                intro V9 hC7 hg9
                replace hB6 := blk_gM hB6 hg9 (blk_neM hB6 hB7 (by decide))
                clear hB7; have hB7 := hC7; clear hC7
                refine hK.out _ _ (hHeld.grown hg9 hHeld.size (fun q hq => by have := Option.some.inj hq; omega)) (fun hHeld => ?_)
                clear hK K hg9
                try simp only [Act.put, List.getElem_toArray, List.getElem_cons_succ, List.getElem_cons_zero, List.setIfInBounds_toArray, List.set_cons_zero, List.set_cons_succ]
                refine wpAnyH_done (by kernel_rfl) ?_ _
                go_wp2_with (fail)
                go_meet
                have lz := HZ.out.lt
                have hsz := HB.out.size
                exact ⟨g6, g7, rfl, rfl, HX.out.below hHeld, HZ.out.below hHeld, hB6, hB7, HQ.out, HB.out.trans (hHeld.mono HB.out.size), by omega, by omega, by omega⟩
        · as_aux_lemma =>
            refine wp_allocI rfl ?_
            intro g6 cs6 V6 hs6 hn6 hB6 hb9
            have n6 : V0.heap.size ≤ g6 := by have := hn6.out; have := hHeld.size; omega
            replace hB7 := hB7.below hb9
            refine hK.out _ _ (hHeld.trans (hb9.mono hHeld.size)) (fun hHeld => ?_)
            clear hK K hb9 hn6
            try simp only [Act.put, List.getElem_toArray, List.getElem_cons_succ, List.getElem_cons_zero, List.setIfInBounds_toArray, List.set_cons_zero, List.set_cons_succ]
            refine wpAnyH_ready (rs := [2]) (by kernel_rfl) (by simp) ?_
            refine AllReadyH.cons rfl (fun K hK => ?_) AllReadyH.nil
            refine wp_build1j _ rfl a ha rfl ?_
            intro g9 V2 hrow hb9
            replace hB7 := hB7.below hb9
            replace hB6 := hB6.below hb9
            refine hK.out _ _ (hHeld.trans (hb9.mono hHeld.size)) (fun hHeld => ?_)
            clear hK K hb9
            try simp only [Act.put, List.getElem_toArray, List.getElem_cons_succ, List.getElem_cons_zero, List.setIfInBounds_toArray, List.set_cons_zero, List.set_cons_succ]
            refine wpAnyH_ready (rs := [3]) (by kernel_rfl) (by simp) ?_
            refine AllReadyH.cons rfl (fun K hK => ?_) AllReadyH.nil
            go_simp
            (with_reducible refine (HCR.out _ _ hrow).mono ?_)
            rintro e3 V3 ⟨rfl, hb9⟩
            clear hrow
            replace hB7 := hB7.below hb9
            replace hB6 := hB6.below hb9
            refine hK.out _ _ (hHeld.trans (hb9.mono hHeld.size)) (fun hHeld => ?_)
            clear hK K hb9
            try simp only [Act.put, List.getElem_toArray, List.getElem_cons_succ, List.getElem_cons_zero, List.setIfInBounds_toArray, List.set_cons_zero, List.set_cons_succ]
            refine wpAnyH_ready (rs := [8]) (by kernel_rfl) (by simp) ?_
            refine AllReadyH.cons rfl (fun K hK => ?_) AllReadyH.nil
            refine wp_store_blk 24 _ _ rfl g6 _ (idVals R0) 24 hB6 rfl rfl hzR (by rw [hs6, sR]) h1R ?_
            intro V8 hC6 hg9
            replace hB7 := blk_gM hB7 hg9 (blk_neM hB7 hB6 (by decide))
            clear hB6; have hB6 := hC6; clear hC6
            refine hK.out _ _ (hHeld.grown hg9 hHeld.size (fun q hq => by have := Option.some.inj hq; omega)) (fun hHeld => ?_)
            clear hK K hg9
            try simp only [Act.put, List.getElem_toArray, List.getElem_cons_succ, List.getElem_cons_zero, List.setIfInBounds_toArray, List.set_cons_zero, List.set_cons_succ]
            refine wpAnyH_ready (rs := [9]) (by kernel_rfl) (by simp) ?_
            refine AllReadyH.cons rfl (fun K hK => ?_) AllReadyH.nil
            refine wp_store_sl _ _ rfl g7 _ hB7 A m c rfl rfl ?_
            intro V9 hC7 hg9
            replace hB6 := blk_gM hB6 hg9 (blk_neM hB6 hB7 (by decide))
            clear hB7; have hB7 := hC7; clear hC7
            refine hK.out _ _ (hHeld.grown hg9 hHeld.size (fun q hq => by have := Option.some.inj hq; omega)) (fun hHeld => ?_)
            clear hK K hg9
            try simp only [Act.put, List.getElem_toArray, List.getElem_cons_succ, List.getElem_cons_zero, List.setIfInBounds_toArray, List.set_cons_zero, List.set_cons_succ]
            refine wpAnyH_done (by kernel_rfl) ?_ _
            go_wp2_with (fail)
            go_meet
            have lz := HZ.out.lt
            have hsz := HB.out.size
            exact ⟨g6, g7, rfl, rfl, HX.out.below hHeld, HZ.out.below hHeld, hB6, hB7, HQ.out, HB.out.trans (hHeld.mono HB.out.size), by omega, by omega, by omega⟩
  case rest =>
    obtain ⟨gr, gw, rfl, rfl, HC⟩ := hcut
    have cA := HA.out _ _ _ _ _ _ HC
    have hzU : (Try.prog.info? 24).map (·.size) = some (U.map u8v).length := by rw [List.length_map, HUL.out]; exact sizeId
    have hzU2 : (Try.prog.info? 24).map (·.size) = some (idVals U).size := by rw [idVals_size, HUL.out]; exact sizeId
    have h1U := idVals_one U
    have HS9 : Hid ((idVals zeroB).size = (idVals U).size) := hid (by rw [idVals_size, idVals_size, HUL.out]; decide)
    have f32 := HC.x.c32 hX
    go_upto_region 5 with (go_at_call 51; (with_reducible refine cA.mono ?_); rintro e5 w5 ⟨rfl, A5, m5, c5, l5, H5⟩)
    have fr := range_blk H5.r
    have hz5 := H5.z
    go_wp2_with (first
      | (with_reducible refine wpList_load_if (by with_unfolding_all rfl) 24 _ rfl _ _ rfl (U.map u8v) _ fr hu rfl hzU ?_)
      | ((with_reducible refine wpList_store_blk rfl 24 _ _ rfl (w.heap.size + 1) _ (idVals U) 24 hz5 rfl rfl hzU2 HS9.out h1U ?_); intro w9 hB9 hg9))
    have hb9 := below_gM H5.b hg9 (by omega)
    unfold idVals at hB9 ⊢
    refine bodyPost_ret (ret_idM2 rfl _ _ _ U HUL.out rfl hB9) rfl ⟨rfl, hb9⟩
end Go.Proofs.Ytkbokffonnjjiaa
/- merkle: lead, of places that all lead to one root. -/
set_option linter.unusedSimpArgs false
set_option linter.unusedVariables false
namespace Go.Proofs.Ytkbokffonnjjiaa
open Go.RowKit Go.Qc Go.Shelf
attribute [local go_sem] txt_size txt_append ib_fold
set_option maxRecDepth 100000 in
set_option maxHeartbeats 8000000 in
theorem lead_any (n m d : Nat) (B : Option Addr) (Xs : List PlD) (U S : List UInt8) (hU : U.length = 32) (hS : wholeM (n : Int) U = S) (hn : n ≤ 1099511627776) (hm : Xs.length = m) (h0 : 0 < m) (h1 : m ≤ 1000) (w : World) (hP : PlRd w B Xs)
    (hc : ∀ (k : Nat) (X : PlD), Xs[k]? = some X → ∀ W, Below w.heap.size w W → Calls Try.prog 14 #[.int .i64 (n : Int), .agg X.cs] W fun e w' => e = .returned (.tuple #[.agg (idVals U), .bool true]) ∧ Below W.heap.size W w') :
    Calls Try.prog 59 #[.agg (idVals S), .agg #[.int .i64 (n : Int), .slice B m d]] w fun e w' => e = .returned (.bool true) ∧ Below w.heap.size w w' := by
  have mixed : Try.prog.follows .mixedOrders = true := by kernel_rfl
  have hu := Try.underlying24
  have hSl : S.length = 32 := by rw [← hS]; exact tagB_length _ _
  have hzS : (Try.prog.info? 24).map (·.size) = some (S.map u8v).length := by rw [List.length_map, hSl]; exact sizeId
  have hzU : (Try.prog.info? 24).map (·.size) = some (U.map u8v).length := by rw [List.length_map, hU]; exact sizeId
  have hzU2 : (Try.prog.info? 24).map (·.size) = some (idVals U).size := by rw [idVals_size, hU]; exact sizeId
  have h1U := idVals_one U
  have cW : ∀ W, Calls Try.prog 58 #[.int .i64 (n : Int), .agg (List.map u8v U).toArray] W fun e w' => e = .returned (.agg (idVals S)) ∧ Below W.heap.size W w' := fun W => by
    have := mwhole_any (n : Int) (by omega) U hU W
    rw [hS] at this
    exact this
  have heS : ∀ W, (Op.equalIn 10000 24 (.agg (idVals S)) (.agg (List.map u8v S).toArray)).run Try.prog W = .ok true W := fun W => (ids_eq W S S hSl hSl).trans (by rw [decide_eq_true rfl])
  have heU : ∀ W, (Op.equalIn 10000 24 (.agg (List.map u8v U).toArray) (.agg (List.map u8v U).toArray)).run Try.prog W = .ok true W := fun W => (ids_eq W U U hU hU).trans (by rw [decide_eq_true rfl])
  have HC := hid hc
  have HN := hid hn
  have HM := hid hm
  have HS := hid hS
  have HUL := hid hU
  clear hc hn hS
  go_enter Try.func59, Try.ntmps59
  go_upto_region 2 with (fail)
  generalize hZ : (w.alloc (.cells (idVals S) 24)).alloc (.cells #[.int .i64 (n : Int), .slice B m d] 28) = w1
  have hs1 : w1.heap.size = w.heap.size + 1 + 1 := by rw [← hZ]; simp
  have hb1 : Below w.heap.size w w1 := by rw [← hZ]; exact ((Below.refl w.heap.size w).alloc (Nat.le_refl _) _).alloc (by simp) _
  have hbS : w1.rangeAt w.heap.size 0 (S.map u8v) := by rw [← hZ]; exact range_blk ((Blk.new w 24 (idVals S)).alloc _)
  have hp1 : Blk w1 (w.heap.size + 1) 28 #[.int .i64 (n : Int), .slice B m d] := by
    have := Blk.new (w.alloc (.cells (idVals S) 24)) 28 #[.int .i64 (n : Int), .slice B m d]
    rw [show (w.alloc (.cells (idVals S) 24)).heap.size = w.heap.size + 1 by simp] at this
    rw [← hZ]; exact this
  clear hZ
  generalize hZ : w1.alloc _ = w2
  have hO : Blk w2 (w.heap.size + 1 + 1) 24 (idVals zeroB) := by rw [← hZ, ← hs1]; exact Blk.new _ _ _
  have hb2 : Below w1.heap.size w1 w2 := by rw [← hZ]; exact (Below.refl _ _).alloc (Nat.le_refl _) _
  clear hZ
  obtain ⟨g5, hg5⟩ : ∃ g, w.heap.size + 1 + 1 = g := ⟨_, rfl⟩
  obtain ⟨g3, hg3⟩ : ∃ g, w.heap.size + 1 = g := ⟨_, rfl⟩
  rw [hg5] at hO
  simp only [hg5]
  rw [hg3] at hp1
  simp only [hg3]
  have HG5 := hid hg5
  have HS1 := hid hs1
  have HB1 := hid hb1
  have HP := hid (hP.below hb1)
  have HP1 := hid hp1
  have HBS := hid hbS
  have HO0 : Hid (Blk w2 g5 24 (idVals (if (0 : Nat) = 0 then zeroB else U))) := hid hO
  have HB0 := hid hb2
  have f1 := (hp1.below hb2).cell_ (i := 1) rfl
  clear hg3 hg5 hs1 hb1 hP hp1 hbS hO hb2
  go_wp2_with (fail)
  clear f1
  go_loopw [13] (fun v wr => ∃ k : Nat, k ≤ m ∧ v = .int .i64 (k : Int) ∧ Hid (Blk wr g5 24 (idVals (if k = 0 then zeroB else U))) ∧ Hid (Below w1.heap.size w1 wr)) (fun v _ => m - (intOf v).toNat)
  case atStart => exact ⟨0, Nat.zero_le _, rfl, HO0, HB0⟩
  case round =>
    clear HO0 HB0
    obtain ⟨k, hk, rfl, HO, HB⟩ := hrel
    obtain ⟨wo, hwo⟩ : ∃ u, u = wr := ⟨_, rfl⟩
    subst hwo
    have f0 := (HP1.out.below HB.out).cell_ (i := 0) rfl
    have f1 := (HP1.out.below HB.out).cell_ (i := 1) rfl
    by_cases hlt : k < m
    · obtain ⟨X, hX⟩ : ∃ X, Xs[k]? = some X := ⟨_, List.getElem?_eq_getElem (by omega)⟩
      obtain ⟨g, q, fx, hok, hix⟩ := (HP.out.below HB.out).pick (k := k) d hm hX
      have cC := HC.out k X hX
      have z3 : (k : Int) < (m : Int) := Int.ofNat_lt.2 hlt
      have q9 := pv_q1 (p := k) (by omega)
      have HLT := hid hlt
      have hbw : Below w.heap.size w wo := HB1.out.trans (HB.out.mono HB1.out.size)
      clear hlt hk hX hm f1
      obtain ⟨O, hOO⟩ : ∃ O, (if k = 0 then zeroB else U) = O := ⟨_, rfl⟩
      have hOl : O.length = 32 := by rw [← hOO]; split; decide; exact HUL.out
      have HO1 : Hid (Blk wo g5 24 (idVals O)) := hid (by have := HO.out; rw [hOO] at this; exact this)
      clear HO
      have hlt5 : g5 < wo.heap.size := HO1.out.lt
      go_upto_region 5 with (first
        | (with_reducible refine wpList_load_plr (by with_unfolding_all rfl) _ rfl g q rfl fx hok ?_)
        | (with_reducible refine wpList_store_pln rfl _ _ rfl rfl rfl hok rfl ?_))
      have hx5 := PlX.new wo X
      have hb5 := (Below.refl wo.heap.size wo).alloc (Nat.le_refl _) (.cells X.cs 37)
      have f05 : (wo.alloc (.cells X.cs 37)).cell? ⟨g3, 0, none⟩ = some (.int .i64 (n : Int)) := cell_belM hb5 f0
      have c5 := cC _ (hbw.trans (hb5.mono hbw.size))
      have HO5 := hid (HO1.out.below hb5)
      have HB5 := hid (HB.out.trans (hb5.mono HB.out.size))
      clear hb5 cC hbw
      generalize wo.alloc (.cells X.cs 37) = w5 at *
      obtain ⟨g7, hg7⟩ : ∃ g, wo.heap.size = g := ⟨_, rfl⟩
      rw [hg7] at hx5 hlt5
      simp only [hg7]
      clear f0 fx hix hg7 HB HO1
      go_upto_region 6 with (first
        | (with_reducible refine wpList_load_plx (by with_unfolding_all rfl) _ rfl g7 rfl hx5 hok ?_)
        | (go_at_call 14; (with_reducible refine c5.mono ?_); rintro e6 w6 ⟨rfl, hb6⟩)
        | (with_reducible refine wpList_store_newid rfl _ _ rfl U HUL.out rfl rfl (by with_unfolding_all rfl) ?_; intro w7 hr7 hb7))
      have HO7 := hid ((HO5.out.below hb6).below hb7)
      have HB7 := hid (HB5.out.trans ((hb6.trans (hb7.mono hb6.size)).mono HB5.out.size))
      have hn5 : w1.heap.size ≤ g5 := by have := HG5.out; have := HS1.out; omega
      clear f05 HO5 HB5 hb6 hb7 c5 hx5 hlt5
      generalize w6.heap.size = g8 at *
      have hO7 := HO7.out
      have hfO := range_blk hO7
      have hzO : (Try.prog.info? 24).map (·.size) = some (O.map u8v).length := by rw [List.length_map, hOl]; exact sizeId
      have hsO : (idVals O).size = (idVals U).size := by rw [idVals_size, idVals_size, hOl, HUL.out]
      by_cases hk0 : k = 0
      · have z4 : ¬ (0 : Int) < (k : Int) := by omega
        have z5 : decide ((0 : Int) < (k : Int)) = false := decide_eq_false z4
        clear hOO hk0
        go_wp2_with (first
          | (with_reducible refine wpList_load_if (by with_unfolding_all rfl) 24 _ rfl _ _ rfl (U.map u8v) _ hr7 hu rfl hzU ?_)
          | ((with_reducible refine wpList_store_blk rfl 24 _ _ rfl g5 _ (idVals U) 24 hO7 rfl rfl hzU2 hsO h1U ?_); intro w9 hB9 hg9))
        go_roundw
        case rel => exact ⟨k + 1, HLT.out, by go_num, hid (by rw [if_neg (by omega)]; exact hB9), hid (HB7.out.grown hg9 HB7.out.size (fun q hq => by have := Option.some.inj hq; omega))⟩
        case measure => first | exact pv_meas2 HLT.out | (rw [q9]; exact pv_meas2 HLT.out)
      · have z4 : (0 : Int) < (k : Int) := by omega
        have z5 : decide ((0 : Int) < (k : Int)) = true := decide_eq_true z4
        rw [if_neg hk0] at hOO
        subst hOO
        have z6 : 0 < k := by omega
        have z7 : decide (0 < k) = true := decide_eq_true z6
        clear hk0
        go_wp2_with (first
          | (with_reducible refine wpList_load_if (by with_unfolding_all rfl) 24 _ rfl _ _ rfl (U.map u8v) _ hr7 hu rfl hzU ?_)
          | (with_reducible refine wpList_load_if (by with_unfolding_all rfl) 24 _ rfl _ _ rfl (U.map u8v) _ hfO hu rfl hzU ?_)
          | ((with_reducible refine wpList_store_blk rfl 24 _ _ rfl g5 _ (idVals U) 24 hO7 rfl rfl hzU2 hsO h1U ?_); intro w9 hB9 hg9))
        go_roundw
        case rel => exact ⟨k + 1, HLT.out, by go_num, hid (by rw [if_neg (by omega)]; exact hB9), hid (HB7.out.grown hg9 HB7.out.size (fun q hq => by have := Option.some.inj hq; omega))⟩
        case measure => first | exact pv_meas2 HLT.out | (rw [q9]; exact pv_meas2 HLT.out)
    · obtain rfl : k = m := by omega
      have z3 : ¬ (k : Int) < (k : Int) := by omega
      have z6 : (0 : Int) < (k : Int) := by omega
      have HO1 : Blk wo g5 24 (idVals U) := by have := HO.out; rw [if_neg (by omega)] at this; exact this
      have hbS := HBS.out.below HB.out
      have hbw : Below w.heap.size w wo := HB1.out.trans (HB.out.mono HB1.out.size)
      clear HO hlt hk
      go_upto_region 10 with (fail)
      have fU := range_later (range_blk HO1)
      have fS := range_later hbS
      have f10 : ∀ p : LaterW wo, p.w.cell? ⟨g3, 0, none⟩ = some (.int .i64 (n : Int)) := fun p => cell_belM p.h f0
      have f11 : ∀ p : LaterW wo, p.w.cell? ⟨g3, 1, none⟩ = some (.slice B k d) := fun p => cell_belM p.h f1
      have dW : ∀ p : LaterW wo, Calls Try.prog 58 #[.int .i64 (n : Int), .agg (List.map u8v U).toArray] p.w fun e w' => e = .returned (.agg (idVals S)) ∧ Below p.w.heap.size p.w w' := fun p => cW p.w
      clear f0 f1 hbS HO1
      refine wp_region_later mixed (by kernel_rfl) ?_
      repeat (first
        | ((with_reducible refine wpQuiet_skip (by with_unfolding_all rfl) ?_); simp only [Act.put, List.setIfInBounds_toArray, List.set_cons_zero, List.set_cons_succ])
        | ((with_reducible refine wpQuiet_load_if (by with_unfolding_all rfl) 24 _ rfl _ _ rfl (U.map u8v) _ fU hu (by with_unfolding_all rfl) hzU ?_); simp only [Act.put, List.setIfInBounds_toArray, List.set_cons_zero, List.set_cons_succ])
        | ((with_reducible refine wpQuiet_load_if (by with_unfolding_all rfl) 24 _ rfl _ _ rfl (S.map u8v) _ fS hu (by with_unfolding_all rfl) hzS ?_); simp only [Act.put, List.setIfInBounds_toArray, List.set_cons_zero, List.set_cons_succ])
        | ((with_reducible refine wpQuiet_step (fun K hK => ?_)); go_simp; first | ((with_reducible refine hK _ ?_); clear hK K) | (with_reducible apply Exists.intro; (with_reducible refine ⟨fun _ => ?_, hK _ ?_⟩); ((first | (go_at_call 58; exact later_of (dW _)))); clear hK K)))
      with_reducible refine wpQuiet_nil ?_
      intro _ hw'
      obtain ⟨p9, rfl⟩ := hw'
      have hp9 := p9.h
      generalize p9.w = w9 at *
      go_wp2_with (fail)
      go_ret
      exact ⟨rfl, hbw.trans (hp9.mono hbw.size)⟩

end Go.Proofs.Ytkbokffonnjjiaa

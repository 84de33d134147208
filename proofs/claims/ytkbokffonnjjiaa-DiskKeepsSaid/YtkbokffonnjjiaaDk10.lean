
/- disk: Copy; two disks side by side; the chapter's example. -/
import Derived.Test.YtkbokffonnjjiaaDk9
set_option linter.unusedSimpArgs false
set_option linter.unusedVariables false
namespace Go.Proofs.Ytkbokffonnjjiaa
open Go.RowKit Go.Qc Go.Shelf
attribute [local go_sem] txt_size txt_append ib_fold
theorem own_fr {W w' : World} {base n size D : Nat} {r : Option Nat} {e : TypeId} {v : Value} {xs : List Value} (h : W.ownsRow base e size v n xs) (hf : FrD D r W w') (hD : D < base) (hr : ∀ g, r = some g → g < base) : w'.ownsRow base e size v n xs := by
  refine ⟨h.1, ?_⟩
  rcases h.2 with hn | ⟨g, cap, cur, rfl, hb, hg, rest⟩
  · exact .inl hn
  · refine .inr ⟨g, cap, cur, rfl, hb, ?_, rest⟩
    rw [hf.block g (Array.getElem?_eq_some_iff.1 hg).1 (by omega) (fun e => by have := hr g e.symm; omega)]
    exact hg
/-- A disk is as it was behind what was done to one that was there before it. -/
theorem DkS.far {base D E : Nat} {r : Option Nat} {kv sv wv : Value} {k s : List UInt8} {ws : List WrD} {dn : Bool} {W w' : World} (h : DkS base E kv sv wv k s ws dn W) (hf : FrD D r W w') (hD : D < base) (hr : ∀ g, r = some g → g < base) : DkS base E kv sv wv k s ws dn w' :=
  ⟨(hf.block E h.x.lt (by have := h.bd; omega) (fun e => by have := hr E e.symm; have := h.bd; omega)).trans h.x, ⟨own_fr h.r.k hf hD hr, own_fr h.r.s hf hD hr, own_fr h.r.q hf hD hr, h.r.ap, Nat.le_trans h.r.bs hf.size⟩, h.bd⟩
theorem fr_below {base E : Nat} {r : Option Nat} {W w' : World} (hf : FrD E r W w') (hE : base ≤ E) (hr : ∀ g, r = some g → base ≤ g) (hb : base ≤ W.heap.size) : Below base W w' :=
  ⟨hf.os, hf.tape, hf.output, hf.size, fun i hi => hf.block i (by omega) (by omega) (fun e => by have := hr i e.symm; omega)⟩
/-- What Copy answers. -/
def CopyQ (k s : List UInt8) (ws : List WrD) (dn : Bool) (W : World) (e : Ending) (w' : World) : Prop :=
  ∃ E kv sv wv, e = .returned (.pointer (some ⟨E, 0, none⟩)) ∧ DkS W.heap.size E kv sv wv k s ws dn w' ∧ Below W.heap.size W w'
theorem wr_le {W : World} {b base n : Nat} {v : Value} {Xs : List WrD} (h : WrOw W b v n Xs) (hb : base ≤ b) : WrOw W base v n Xs :=
  ⟨h.1, h.2.imp id fun ⟨g, c, cur, a, e, d⟩ => ⟨g, c, cur, a, Nat.le_trans hb e, d⟩⟩
theorem wr_slice2 {W : World} {base n : Nat} {v : Value} {Xs : List WrD} (h : WrOw W base v n Xs) : ∃ A c, v = .slice A n c := by
  rcases h.2 with ⟨rfl, rfl⟩ | ⟨g, c, cur, rfl, _⟩
  · exact ⟨_, _, rfl⟩
  · exact ⟨_, _, rfl⟩
theorem cell_bd {W V : World} {D : Nat} {t : TypeId} {cs : Array Value} (h : Blk W.drew D t cs) (hb : Below W.heap.size W V) (hD : D < W.heap.size) (i : Nat) (u : Value) (hu : cs[i]? = some u) : V.cell? ⟨D, i, none⟩ = some u := by
  have h2 : Blk V D t cs := (hb.block D hD).trans h
  exact h2.cell_ hu
theorem wp_boxD {w : World} {o : Oper} {a : Act} {K : Act → World → Prop} {Q : Exit → Act → World → Prop} (x : Operand) (ho : o.op = .box 111 x)
    (cs : Array Value) (hx : a.eval x = .agg cs)
    (h : ∀ g w', Hid (g = w.heap.size) → Blk w' g 111 cs → Below w.heap.size w w' → K (a.put o.dst (.pointer (some ⟨g, 0, none⟩))) w') : o.wp Try.prog a w K Q := by
  have h9 := h w.heap.size (w.alloc (.cells cs 111)) (hid rfl) (Blk.new _ _ _) ((Below.refl _ _).alloc (Nat.le_refl _) _)
  unfold Oper.wp
  simp only [execOp, ho, hx]
  simp [newVar, newRow, Value.cells, newObj]
  exact h9
set_option maxRecDepth 100000 in
set_option maxHeartbeats 8000000 in
theorem dcopy_any (base D : Nat) (kv sv wv : Value) (k s : List UInt8) (ws : List WrD) (dn : Bool) (hk : k.length ≤ 10000000) (hs : s.length ≤ 10000000) (hn : ws.length ≤ 1000) (W : World) (h : DkS base D kv sv wv k s ws dn W) :
    Calls Try.prog 29 #[.pointer (some ⟨D, 0, none⟩)] W (CopyQ k s ws dn W) := by
  have HS := hid (h.below (below_drew1 W))
  have HN := hid (show k.length ≤ 10000000 ∧ s.length ≤ 10000000 ∧ ws.length ≤ 1000 from ⟨hk, hs, hn⟩)
  have HB := hid (below_drew1 W)
  clear h hk hs hn
  go_enter Try.func29, Try.ntmps29
  go_upto_region 1 with (fail)
  refine wp_region_held_drew (S := fun V => Below W.heap.size W V) (by kernel_rfl) HB.out (fun hHeld => ?_)
  have HBV : Hid (∀ {V : World}, Below W.heap.size W V → Below W.drew.heap.size W.drew V) := hid (fun hV => ⟨hV.os, hV.tape, hV.output, hV.size, hV.block⟩)
  have HWS : Hid (D < W.heap.size) := hid (show D < W.drew.heap.size from HS.out.x.lt)
  clear HB
  refine' wpAnyH_take (i := 0) (v := .pointer (some ⟨D, 0, none⟩)) rfl (by kernel_rfl) (by kernel_rfl) (by kernel_rfl) (fun _ _ _ h => h) (Or.inl ⟨by rfl, fun w' hw' => by go_simp⟩) hHeld ?_
  try simp only [Act.put, List.getElem_toArray, List.getElem_cons_succ, List.getElem_cons_zero, List.setIfInBounds_toArray, List.set_cons_zero, List.set_cons_succ]
  refine' wpAnyH_take (i := 1) (v := .pointer (some ⟨D, 0, none⟩)) rfl (by kernel_rfl) (by kernel_rfl) (by kernel_rfl) (fun _ _ _ h => h) (Or.inl ⟨by rfl, fun w' hw' => by go_simp⟩) hHeld ?_
  try simp only [Act.put, List.getElem_toArray, List.getElem_cons_succ, List.getElem_cons_zero, List.setIfInBounds_toArray, List.set_cons_zero, List.set_cons_succ]
  refine' wpAnyH_take (i := 2) (v := .pointer (some ⟨D, 0, none⟩)) rfl (by kernel_rfl) (by kernel_rfl) (by kernel_rfl) (fun _ _ _ h => h) (Or.inl ⟨by rfl, fun w' hw' => by go_simp⟩) hHeld ?_
  try simp only [Act.put, List.getElem_toArray, List.getElem_cons_succ, List.getElem_cons_zero, List.setIfInBounds_toArray, List.set_cons_zero, List.set_cons_succ]
  refine' wpAnyH_take (i := 3) (v := kv) rfl (by kernel_rfl) (by kernel_rfl) (by kernel_rfl) (fun _ _ _ h => h) (Or.inl ⟨by rfl, fun w' hw' => by have hv : World.cell? w' ⟨D, 0, none⟩ = _ := cell_bd HS.out.x hw' HWS.out 0 _ rfl; go_simp⟩) hHeld ?_
  try simp only [Act.put, List.getElem_toArray, List.getElem_cons_succ, List.getElem_cons_zero, List.setIfInBounds_toArray, List.set_cons_zero, List.set_cons_succ]
  refine' wpAnyH_take (i := 5) (v := .pointer (some ⟨D, 0, none⟩)) rfl (by kernel_rfl) (by kernel_rfl) (by kernel_rfl) (fun _ _ _ h => h) (Or.inl ⟨by rfl, fun w' hw' => by go_simp⟩) hHeld ?_
  try simp only [Act.put, List.getElem_toArray, List.getElem_cons_succ, List.getElem_cons_zero, List.setIfInBounds_toArray, List.set_cons_zero, List.set_cons_succ]
  refine' wpAnyH_take (i := 6) (v := .pointer (some ⟨D, 0, none⟩)) rfl (by kernel_rfl) (by kernel_rfl) (by kernel_rfl) (fun _ _ _ h => h) (Or.inl ⟨by rfl, fun w' hw' => by go_simp⟩) hHeld ?_
  try simp only [Act.put, List.getElem_toArray, List.getElem_cons_succ, List.getElem_cons_zero, List.setIfInBounds_toArray, List.set_cons_zero, List.set_cons_succ]
  refine' wpAnyH_take (i := 7) (v := .pointer (some ⟨D, 1, none⟩)) rfl (by kernel_rfl) (by kernel_rfl) (by kernel_rfl) (fun _ _ _ h => h) (Or.inl ⟨by rfl, fun w' hw' => by go_simp⟩) hHeld ?_
  try simp only [Act.put, List.getElem_toArray, List.getElem_cons_succ, List.getElem_cons_zero, List.setIfInBounds_toArray, List.set_cons_zero, List.set_cons_succ]
  refine' wpAnyH_take (i := 8) (v := sv) rfl (by kernel_rfl) (by kernel_rfl) (by kernel_rfl) (fun _ _ _ h => h) (Or.inl ⟨by rfl, fun w' hw' => by have hv : World.cell? w' ⟨D, 1, none⟩ = _ := cell_bd HS.out.x hw' HWS.out 1 _ rfl; go_simp⟩) hHeld ?_
  try simp only [Act.put, List.getElem_toArray, List.getElem_cons_succ, List.getElem_cons_zero, List.setIfInBounds_toArray, List.set_cons_zero, List.set_cons_succ]
  refine' wpAnyH_take (i := 10) (v := .pointer (some ⟨D, 0, none⟩)) rfl (by kernel_rfl) (by kernel_rfl) (by kernel_rfl) (fun _ _ _ h => h) (Or.inl ⟨by rfl, fun w' hw' => by go_simp⟩) hHeld ?_
  try simp only [Act.put, List.getElem_toArray, List.getElem_cons_succ, List.getElem_cons_zero, List.setIfInBounds_toArray, List.set_cons_zero, List.set_cons_succ]
  refine' wpAnyH_take (i := 11) (v := .pointer (some ⟨D, 0, none⟩)) rfl (by kernel_rfl) (by kernel_rfl) (by kernel_rfl) (fun _ _ _ h => h) (Or.inl ⟨by rfl, fun w' hw' => by go_simp⟩) hHeld ?_
  try simp only [Act.put, List.getElem_toArray, List.getElem_cons_succ, List.getElem_cons_zero, List.setIfInBounds_toArray, List.set_cons_zero, List.set_cons_succ]
  refine' wpAnyH_take (i := 12) (v := .pointer (some ⟨D, 2, none⟩)) rfl (by kernel_rfl) (by kernel_rfl) (by kernel_rfl) (fun _ _ _ h => h) (Or.inl ⟨by rfl, fun w' hw' => by go_simp⟩) hHeld ?_
  try simp only [Act.put, List.getElem_toArray, List.getElem_cons_succ, List.getElem_cons_zero, List.setIfInBounds_toArray, List.set_cons_zero, List.set_cons_succ]
  refine' wpAnyH_take (i := 13) (v := wv) rfl (by kernel_rfl) (by kernel_rfl) (by kernel_rfl) (fun _ _ _ h => h) (Or.inl ⟨by rfl, fun w' hw' => by have hv : World.cell? w' ⟨D, 2, none⟩ = _ := cell_bd HS.out.x hw' HWS.out 2 _ rfl; go_simp⟩) hHeld ?_
  try simp only [Act.put, List.getElem_toArray, List.getElem_cons_succ, List.getElem_cons_zero, List.setIfInBounds_toArray, List.set_cons_zero, List.set_cons_succ]
  refine' wpAnyH_take (i := 15) (v := .pointer (some ⟨D, 0, none⟩)) rfl (by kernel_rfl) (by kernel_rfl) (by kernel_rfl) (fun _ _ _ h => h) (Or.inl ⟨by rfl, fun w' hw' => by go_simp⟩) hHeld ?_
  try simp only [Act.put, List.getElem_toArray, List.getElem_cons_succ, List.getElem_cons_zero, List.setIfInBounds_toArray, List.set_cons_zero, List.set_cons_succ]
  refine' wpAnyH_take (i := 16) (v := .pointer (some ⟨D, 0, none⟩)) rfl (by kernel_rfl) (by kernel_rfl) (by kernel_rfl) (fun _ _ _ h => h) (Or.inl ⟨by rfl, fun w' hw' => by go_simp⟩) hHeld ?_
  try simp only [Act.put, List.getElem_toArray, List.getElem_cons_succ, List.getElem_cons_zero, List.setIfInBounds_toArray, List.set_cons_zero, List.set_cons_succ]
  refine' wpAnyH_take (i := 17) (v := .pointer (some ⟨D, 4, none⟩)) rfl (by kernel_rfl) (by kernel_rfl) (by kernel_rfl) (fun _ _ _ h => h) (Or.inl ⟨by rfl, fun w' hw' => by go_simp⟩) hHeld ?_
  try simp only [Act.put, List.getElem_toArray, List.getElem_cons_succ, List.getElem_cons_zero, List.setIfInBounds_toArray, List.set_cons_zero, List.set_cons_succ]
  refine' wpAnyH_take (i := 18) (v := .bool dn) rfl (by kernel_rfl) (by kernel_rfl) (by kernel_rfl) (fun _ _ _ h => h) (Or.inl ⟨by rfl, fun w' hw' => by have hv : World.cell? w' ⟨D, 4, none⟩ = _ := cell_bd HS.out.x hw' HWS.out 4 _ rfl; go_simp⟩) hHeld ?_
  try simp only [Act.put, List.getElem_toArray, List.getElem_cons_succ, List.getElem_cons_zero, List.setIfInBounds_toArray, List.set_cons_zero, List.set_cons_succ]
  refine wpAnyH_ready (rs := [4]) (by kernel_rfl) (by simp) ?_
  refine AllReadyH.cons rfl (fun K hK => ?_) AllReadyH.nil
  go_simp
  (with_reducible refine (cloneB_any base kv k (by have := HN.out; omega) _ (HS.out.r.k.below (HBV.out hHeld))).mono ?_)
  rintro e9 V9 ⟨v1, rfl, ho1, hb9⟩
  obtain ⟨A1, c1, hv1⟩ := ho1.sl
  subst hv1
  replace ho1 := by_le ho1 hHeld.size
  have HO1 := hid ho1
  refine hK.out _ _ (hHeld.trans (hb9.mono hHeld.size)) (fun hHeld => ?_)
  clear hK K hb9 ho1
  try simp only [Act.put, List.getElem_toArray, List.getElem_cons_succ, List.getElem_cons_zero, List.setIfInBounds_toArray, List.set_cons_zero, List.set_cons_succ]
  refine wpAnyH_ready (rs := [9]) (by kernel_rfl) (by simp) ?_
  refine AllReadyH.cons rfl (fun K hK => ?_) AllReadyH.nil
  go_simp
  (with_reducible refine (cloneB_any base sv s (by have := HN.out; omega) _ (HS.out.r.s.below (HBV.out hHeld))).mono ?_)
  rintro e9 V10 ⟨v2, rfl, ho2, hb9⟩
  obtain ⟨A2, c2, hv2⟩ := ho2.sl
  subst hv2
  have hap : (Value.slice A1 k.length c1).ownBlock = none ∨ (Value.slice A1 k.length c1).ownBlock ≠ (Value.slice A2 s.length c2).ownBlock := by
    cases hq : (Value.slice A1 k.length c1).ownBlock with
    | none => exact .inl rfl
    | some g => exact .inr (fun e => by have h1 := (World.ownsRow.lt HO1.out g hq).2; have h2 := (World.ownsRow.lt ho2 g e.symm).1; omega)
  have HAP := hid hap
  replace ho2 := by_le ho2 hHeld.size
  have HO2 := hid ho2
  replace HO1 := hid (HO1.out.below hb9)
  refine hK.out _ _ (hHeld.trans (hb9.mono hHeld.size)) (fun hHeld => ?_)
  clear hK K hb9 ho2 hap
  try simp only [Act.put, List.getElem_toArray, List.getElem_cons_succ, List.getElem_cons_zero, List.setIfInBounds_toArray, List.set_cons_zero, List.set_cons_succ]
  refine wpAnyH_ready (rs := [14]) (by kernel_rfl) (by simp) ?_
  refine AllReadyH.cons rfl (fun K hK => ?_) AllReadyH.nil
  go_simp
  (with_reducible refine (cloneW_any base wv ws.length ws (by have := HN.out; omega) _ (HS.out.r.q.below (HBV.out hHeld))).mono ?_)
  rintro e9 V11 ⟨v3, rfl, ho3, hb9⟩
  obtain ⟨A3, c3, hv3⟩ := wr_slice2 ho3
  subst hv3
  replace ho3 := wr_le ho3 hHeld.size
  have HO3 := hid ho3
  replace HO1 := hid (HO1.out.below hb9)
  replace HO2 := hid (HO2.out.below hb9)
  refine hK.out _ _ (hHeld.trans (hb9.mono hHeld.size)) (fun hHeld => ?_)
  clear hK K hb9 ho3
  try simp only [Act.put, List.getElem_toArray, List.getElem_cons_succ, List.getElem_cons_zero, List.setIfInBounds_toArray, List.set_cons_zero, List.set_cons_succ]
  refine' wpAnyH_take (i := 19) (v := .agg #[.slice A1 k.length c1, .slice A2 s.length c2, .slice A3 ws.length c3, .pointer none, .bool dn]) rfl (by kernel_rfl) (by kernel_rfl) (by kernel_rfl) (fun _ _ _ h => h) (Or.inl ⟨by rfl, fun w' hw' => by go_simp⟩) hHeld ?_
  try simp only [Act.put, List.getElem_toArray, List.getElem_cons_succ, List.getElem_cons_zero, List.setIfInBounds_toArray, List.set_cons_zero, List.set_cons_succ]
  refine wpAnyH_ready (rs := [20]) (by kernel_rfl) (by simp) ?_
  refine AllReadyH.cons rfl (fun K hK => ?_) AllReadyH.nil
  refine wp_boxD _ rfl _ rfl ?_
  intro gE V12 hgE hE hb9
  have HSE : Hid (DkS W.heap.size gE (.slice A1 k.length c1) (.slice A2 s.length c2) (.slice A3 ws.length c3) k s ws dn V12) := hid ⟨hE, ⟨HO1.out.below hb9, HO2.out.below hb9, HO3.out.below hb9, HAP.out, Nat.le_trans hHeld.size hb9.size⟩, by rw [hgE.out]; exact hHeld.size⟩
  refine hK.out _ _ (hHeld.trans (hb9.mono hHeld.size)) (fun hHeld => ?_)
  clear hK K hb9 hE hgE
  try simp only [Act.put, List.getElem_toArray, List.getElem_cons_succ, List.getElem_cons_zero, List.setIfInBounds_toArray, List.set_cons_zero, List.set_cons_succ]
  refine' wpAnyH_take (i := 21) (v := .pointer (some ⟨gE, 0, none⟩)) rfl (by kernel_rfl) (by kernel_rfl) (by kernel_rfl) (fun _ _ _ h => h) (Or.inl ⟨by rfl, fun w' hw' => by go_simp⟩) hHeld ?_
  try simp only [Act.put, List.getElem_toArray, List.getElem_cons_succ, List.getElem_cons_zero, List.setIfInBounds_toArray, List.set_cons_zero, List.set_cons_succ]
  refine wpAnyH_done (by kernel_rfl) ?_ _
  go_wp2_with (fail)
  go_ret
  exact ⟨gE, _, _, _, rfl, HSE.out, hHeld⟩
def abB : List UInt8 := [97, 98]
def cdB : List UInt8 := [99, 100]
def abcB : List UInt8 := [97, 98, 99]
set_option maxRecDepth 100000 in
set_option maxHeartbeats 8000000 in
theorem awake24_any (w : World) : Calls Try.prog 24 #[] w fun e w' => e = .returned (.bool true) ∧ Below w.heap.size w w' := by
  have c1 := dnew_any w
  go_enter Try.func24, Try.ntmps24
  go_upto_region 2 with (go_at_call 25; (with_reducible refine c1.mono ?_); rintro e1 w1 ⟨D, rfl, h1, hb1⟩)
  have HB1 := hid hb1
  have HBD := hid h1.bd
  generalize hbs : w.heap.size = base at *
  have c2 : Calls Try.prog 26 #[.pointer (some ⟨D, 0, none⟩), .int .i64 0, .string ⟨#[97, 98]⟩] w1 (WriteQ base D (.slice none 0 0) [] [] abB [] w1) := dWrite_any base D _ _ _ [] [] [] (by decide) (by decide) abB (by decide) w1 h1
  clear h1 hb1 c1
  go_upto_region 4 with (first
    | (go_at_call 26; (with_reducible refine c2.mono ?_); rintro e2 w2 ⟨rfl, sv2, wv2, h2, hb2⟩; have HB2 := hid (HB1.out.trans hb2); have c3 := dsync_any base D _ _ _ [] abB _ (by decide) (by decide) (by decide) (by decide) (by decide) w2 h2; clear c2 h2 hb2)
    | (go_at_call 27; (with_reducible refine c3.mono ?_); rintro e3 w3 ⟨rfl, kv3, h3, hb3⟩; have HB3 := hid (HB2.out.trans hb3); have c4 : Calls Try.prog 26 #[.pointer (some ⟨D, 0, none⟩), .int .i64 2, .string ⟨#[99, 100]⟩] w3 (WriteQ base D kv3 abB abB cdB [] w3) := (dWrite_any base D _ _ _ abB abB [] (by decide) (by decide) cdB (by decide) w3 h3); clear c3 h3 hb3)
    | (go_at_call 26; (with_reducible refine c4.mono ?_); rintro e4 w4 ⟨rfl, sv4, wv4, h4, hb4⟩; have HB4 := hid (HB3.out.trans hb4)))
  clear c4 hb4
  have HKV : Hid (∀ g, kv3.ownBlock = some g → base ≤ g) := hid (fun g hg => (World.ownsRow.lt h4.r.k g hg).1)
  have HBS := hid h4.r.bs
  have c5 := dCrash_any base D kv3 sv4 wv4 abB (abB ++ cdB) (addW abB cdB []) (by decide) (by decide) (by decide) 0 1 w4 h4
  rw [show (crS 0 1 abB (addW abB cdB []) (addW abB cdB []).length).1 = abcB from by decide] at c5
  clear h4
  go_upto_region 5 with (go_at_call 31; (with_reducible refine c5.mono ?_); rintro e5 w5 ⟨rfl, kv5, sv5, h5, hf5⟩)
  have HB5 := hid (HB4.out.trans (fr_below hf5 HBD.out HKV.out HBS.out))
  clear c5 hf5
  have c6 : Calls Try.prog 32 #[.pointer (some ⟨D, 0, none⟩)] w5 fun e w' => e = .returned (.string ⟨#[97, 98, 99]⟩) ∧ w5 = w' := dall_any _ _ _ _ _ _ _ _ _ _ h5
  have c7 := ddown_any _ _ _ _ _ _ _ _ _ _ h5
  clear h5
  go_wp2_with (first
    | (go_at_call 32; (with_reducible refine c6.mono ?_); rintro e6 w6 ⟨rfl, rfl⟩)
    | (go_at_call 71; (with_reducible refine c7.mono ?_); rintro e7 w7 ⟨rfl, rfl⟩))
  go_ret
  exact ⟨rfl, by rw [← hbs] at HB5; exact HB5.out⟩
end Go.Proofs.Ytkbokffonnjjiaa


/- The document's Pair, and the program's. -/
import Derived.Test.YticpdepbgcagaaaGreatTag4
namespace Go.Proofs.YticpdepbgcagaaaGreat
open Go.RowKit Go.Qc
attribute [local go_sem] txt_size

theorem rd_two (w : World) (s t : List UInt8) : Rd (w.alloc (.cells #[.string (txt s), .string (txt t)] 9)) (some ⟨w.heap.size, 0, none⟩) ([s, t].map strV) := Rd.blk (Blk.new _ _ _) (by
  intro j u h
  match j with
  | 0 => exact h
  | 1 => exact h
  | j + 2 => simp at h)
/-- An id stored into a block of its own, in a drawn region. -/
theorem wp_store_blk {P : Program} {w : World} {o : Oper} {a : Act} {K : Act → World → Prop} {Q : Exit → Act → World → Prop} (ty : TypeId) (x y : Operand) (ho : o.op = .store ty x y)
    (g : Nat) (old cs : Array Value) (t : TypeId) (hg : Blk w g t old) (hx : a.eval x = .pointer (some ⟨g, 0, none⟩)) (hy : a.eval y = .agg cs) (hi : (P.info? ty).map (·.size) = some cs.size) (hs : old.size = cs.size) (h1 : cs.all (·.oneCell') = true)
    (h : ∀ w', Blk w' g t cs → w.grownBy w' (some g) → K (a.put o.dst undef) w') : o.wp P a w K Q := by
  have hr : (Instr.storeAt ty (.pointer (some ⟨g, 0, none⟩)) (.agg cs)).run P w = .ok () (w.setRow g cs) := by
    simp only [Instr.storeAt, Instr.sureAddr, Sem.run_bind, Sem.run_pure, Result.andThen]
    exact run_storeVar_row _ g t ty old cs hg hi hs h1
  obtain ⟨hb, hgr⟩ := blk_over hg cs
  unfold Oper.wp
  simp [execOp, ho, hx, hy, hr]
  exact h _ hb hgr
/-- What stands through the region: two ids, room for a third, and all that was there. -/
structure PairS (w : World) (a b : List UInt8) (w' : World) : Prop where
  hra : w'.rangeAt w.heap.size 0 (a.map u8v)
  hrb : w'.rangeAt (w.heap.size + 1) 0 (b.map u8v)
  hC : ∃ cs : Array Value, Blk w' (w.heap.size + 1 + 1) 24 cs ∧ cs.size = 32
  hB : Below w.heap.size w w'
theorem PairS.below {w : World} {a b : List UInt8} {W W' : World} (h : PairS w a b W) (hb : Below W.heap.size W W') : PairS w a b W' := ⟨h.hra.below hb, h.hrb.below hb, h.hC.elim fun cs hc => ⟨cs, hc.1.below hb, hc.2⟩, h.hB.trans (hb.mono h.hB.size)⟩
theorem PairS.put {w : World} {a b : List UInt8} {W W' : World} {cs : Array Value} (h : PairS w a b W) (hb : Blk W' (w.heap.size + 1 + 1) 24 cs) (hs : cs.size = 32) (hg : W.grownBy W' (some (w.heap.size + 1 + 1))) : PairS w a b W' :=
  ⟨range_gb h.hra hg (by omega), range_gb h.hrb hg (by omega), ⟨cs, hb, hs⟩, h.hB.grown hg h.hB.size (by intro i e; cases e; omega)⟩
theorem PairS.all {w W : World} {a b : List UInt8} (h : PairS w a b W) : (W.rangeAt w.heap.size 0 (a.map u8v) ∧ W.rangeAt (w.heap.size + 1) 0 (b.map u8v) ∧ PairS w a b W) := ⟨h.hra, h.hrb, h⟩
set_option maxRecDepth 100000 in
set_option maxHeartbeats 4000000 in
set_option linter.unusedSimpArgs false in
theorem rpair_any (nm : List UInt8) (hnm : nm.length ≤ 255) (a b : List UInt8) (ha : a.length = 32) (hb : b.length = 32) (w : World) :
    Calls Tryz.prog 72 #[.string (txt nm), .agg (idVals a), .agg (idVals b)] w fun e w' => e = .returned (.agg (idVals (tagB nm [a, b]))) ∧ Below w.heap.size w w' := by
  obtain ⟨S, hS⟩ : ∃ S, S = tagB nm [a, b] := ⟨_, rfl⟩
  have hSl : S.length = 32 := by rw [hS]; exact tagB_length _ _
  have cO : ∀ W, (W.rangeAt w.heap.size 0 (a.map u8v) ∧ W.rangeAt (w.heap.size + 1) 0 (b.map u8v) ∧ PairS w a b W) → Calls Tryz.prog 50 #[.string (txt nm), .slice (some ⟨W.heap.size, 0, none⟩) 2 2] (W.alloc (.cells #[.string (txt a), .string (txt b)] 9)) fun e w' => e = .returned (.agg (idVals S)) ∧ (w'.rangeAt w.heap.size 0 (a.map u8v) ∧ w'.rangeAt (w.heap.size + 1) 0 (b.map u8v) ∧ PairS w a b w') := fun W h => by
    have hA := h.2.2.below ((Below.refl W.heap.size W).alloc (Nat.le_refl _) (.cells #[.string (txt a), .string (txt b)] 9))
    refine (rof_any nm hnm _ 2 2 [a, b] rfl (textB_ids _ hnm _ (by simp [ha, hb])) _ (rd_two W a b)).mono ?_
    rw [← hS]
    rintro e w' ⟨h1, h2⟩
    exact ⟨h1, (hA.below h2).all⟩
  have cA : ∀ W, (W.rangeAt w.heap.size 0 (a.map u8v) ∧ W.rangeAt (w.heap.size + 1) 0 (b.map u8v) ∧ PairS w a b W) → Calls Tryz.prog 49 #[.agg (List.map u8v a).toArray] W fun e w' => e = .returned (.string (txt a)) ∧ (w'.rangeAt w.heap.size 0 (a.map u8v) ∧ w'.rangeAt (w.heap.size + 1) 0 (b.map u8v) ∧ PairS w a b w') := fun W h =>
    (rid_any a ha W).mono (by rintro e w' ⟨h1, h2⟩; exact ⟨h1, (h.2.2.below h2).all⟩)
  have cB : ∀ W, (W.rangeAt w.heap.size 0 (a.map u8v) ∧ W.rangeAt (w.heap.size + 1) 0 (b.map u8v) ∧ PairS w a b W) → Calls Tryz.prog 49 #[.agg (List.map u8v b).toArray] W fun e w' => e = .returned (.string (txt b)) ∧ (w'.rangeAt w.heap.size 0 (a.map u8v) ∧ w'.rangeAt (w.heap.size + 1) 0 (b.map u8v) ∧ PairS w a b w') := fun W h =>
    (rid_any b hb W).mono (by rintro e w' ⟨h1, h2⟩; exact ⟨h1, (h.2.2.below h2).all⟩)
  have hu := Tryz.underlying24
  have hza : (Tryz.prog.info? 24).map (·.size) = some (a.map u8v).length := by rw [List.length_map, ha]; exact sizeId
  have hzb : (Tryz.prog.info? 24).map (·.size) = some (b.map u8v).length := by rw [List.length_map, hb]; exact sizeId
  rw [← hS]
  have HSL := hid hSl
  clear hS hSl ha hb
  go_enter Tryz.func72, Tryz.ntmps72
  go_wp2_with (fail)
  have hA0 := ((Blk.new w 24 (idVals a)).alloc (.cells (idVals b) 24)).alloc (.cells (idVals zeroB) 24)
  have hk : (w.alloc (.cells (idVals a) 24)).heap.size = w.heap.size + 1 := by simp
  have hB0 := (Blk.new (w.alloc (.cells (idVals a) 24)) 24 (idVals b)).alloc (.cells (idVals zeroB) 24)
  rw [hk] at hB0
  have hk2 : ((w.alloc (.cells (idVals a) 24)).alloc (.cells (idVals b) 24)).heap.size = w.heap.size + 1 + 1 := by simp
  have hC0 := Blk.new ((w.alloc (.cells (idVals a) 24)).alloc (.cells (idVals b) 24)) 24 (idVals zeroB)
  rw [hk2] at hC0
  have hBB : Below w.heap.size w (((w.alloc (.cells (idVals a) 24)).alloc (.cells (idVals b) 24)).alloc (.cells (idVals zeroB) 24)) := (((Below.refl _ _).alloc (Nat.le_refl _) _).alloc (by simp) _).alloc (by simp; omega) _
  generalize hW : ((w.alloc (.cells (idVals a) 24)).alloc (.cells (idVals b) 24)).alloc (.cells (idVals zeroB) 24) = w3 at *
  have hW2 : ((w.alloc (.cells (idVals a) 24)).alloc (.cells (idVals b) 24)).alloc (.cells #[.int .u8 0, .int .u8 0, .int .u8 0, .int .u8 0, .int .u8 0, .int .u8 0, .int .u8 0, .int .u8 0, .int .u8 0, .int .u8 0, .int .u8 0, .int .u8 0, .int .u8 0, .int .u8 0, .int .u8 0, .int .u8 0, .int .u8 0, .int .u8 0, .int .u8 0, .int .u8 0, .int .u8 0, .int .u8 0, .int .u8 0, .int .u8 0, .int .u8 0, .int .u8 0, .int .u8 0, .int .u8 0, .int .u8 0, .int .u8 0, .int .u8 0, .int .u8 0] 24) = w3 := hW
  have hS0 : PairS w a b w3 := ⟨range_blk hA0, range_blk hB0, ⟨_, hC0, rfl⟩, hBB⟩
  simp only [hW2]
  clear hW hW2 hA0 hB0 hC0 hk hk2
  refine wp_region_held_drew (S := fun w' => (w'.rangeAt w.heap.size 0 (a.map u8v) ∧ w'.rangeAt (w.heap.size + 1) 0 (b.map u8v) ∧ PairS w a b w')) (by kernel_rfl) ?_ (fun hHeld => ?_)
  · exact (hS0.below (below_drew1 w3)).all
  refine' wpAnyH_take (i := 1) (v := _) rfl (by kernel_rfl) (by kernel_rfl) (by kernel_rfl) (fun _ _ _ h => h) (yieldsIf_load_mid (by rfl) 24 _ rfl _ _ rfl (a.map u8v) _ (fun w' h => h.1) hu rfl hza) hHeld ?_
  try simp only [Act.put, List.setIfInBounds_toArray, List.set_cons_zero, List.set_cons_succ]
  refine' wpAnyH_take (i := 3) (v := _) rfl (by kernel_rfl) (by kernel_rfl) (by kernel_rfl) (fun _ _ _ h => h) (yieldsIf_load_mid (by rfl) 24 _ rfl _ _ rfl (b.map u8v) _ (fun w' h => h.2.1) hu rfl hzb) hHeld ?_
  try simp only [Act.put, List.setIfInBounds_toArray, List.set_cons_zero, List.set_cons_succ]
  refine' wpAnyH_take (i := 0) (v := .string (txt nm)) rfl (by kernel_rfl) (by kernel_rfl) (by kernel_rfl) (fun _ _ _ h => h) (Or.inl ⟨by rfl, fun w' hw' => by go_simp⟩) hHeld ?_
  try simp only [Act.put, List.setIfInBounds_toArray, List.set_cons_zero, List.set_cons_succ]
  refine wpAnyH_ready (rs := [2]) (by kernel_rfl) (by simp) ?_
  refine AllReadyH.cons rfl (fun K hK => ?_) AllReadyH.nil
  go_simp
  (with_reducible refine (cA _ hHeld).mono ?_)
  rintro e5 w5 ⟨rfl, hS5⟩
  refine hK.out _ _ hS5 (fun hHeld => ?_)
  clear hK K
  try simp only [Act.put, List.setIfInBounds_toArray, List.set_cons_zero, List.set_cons_succ]
  refine wpAnyH_ready (rs := [4]) (by kernel_rfl) (by simp) ?_
  refine AllReadyH.cons rfl (fun K hK => ?_) AllReadyH.nil
  go_simp
  (with_reducible refine (cB _ hHeld).mono ?_)
  rintro e6 w6 ⟨rfl, hS6⟩
  refine hK.out _ _ hS6 (fun hHeld => ?_)
  clear hK K
  try simp only [Act.put, List.setIfInBounds_toArray, List.set_cons_zero, List.set_cons_succ]
  refine wpAnyH_ready (rs := [5]) (by kernel_rfl) (by simp) ?_
  refine AllReadyH.cons rfl (fun K hK => ?_) AllReadyH.nil
  go_simp
  refine hK.out _ _ (hHeld.2.2.below ((Below.refl _ _).alloc (Nat.le_refl _) _)).all (fun hHeld => ?_)
  clear hK K
  try simp only [Act.put, List.setIfInBounds_toArray, List.set_cons_zero, List.set_cons_succ]
  refine wpAnyH_ready (rs := [6]) (by kernel_rfl) (by simp) ?_
  refine AllReadyH.cons rfl (fun K hK => ?_) AllReadyH.nil
  go_simp
  (with_reducible refine (cO _ hS6).mono ?_)
  rintro e7 w7 ⟨rfl, hS7⟩
  refine hK.out _ _ hS7 (fun hHeld => ?_)
  clear hK K
  try simp only [Act.put, List.setIfInBounds_toArray, List.set_cons_zero, List.set_cons_succ]
  refine wpAnyH_ready (rs := [7]) (by kernel_rfl) (by simp) ?_
  refine AllReadyH.cons rfl (fun K hK => ?_) AllReadyH.nil
  rw [if_pos (by rfl)]
  obtain ⟨old, hC, hCs⟩ := hHeld.2.2.hC
  refine wp_store_blk 24 _ _ rfl (w.heap.size + 1 + 1) old (idVals S) 24 hC rfl rfl (by rw [idVals_size, HSL.out]; exact sizeId) (by rw [idVals_size, HSL.out]; exact hCs) (idVals_one _) ?_
  intro w8 hb8 hg8
  refine hK.out _ _ (hHeld.2.2.put hb8 (by rw [idVals_size, HSL.out]) hg8).all (fun hHeld => ?_)
  clear hK K
  try simp only [Act.put, List.setIfInBounds_toArray, List.set_cons_zero, List.set_cons_succ]
  refine wpAnyH_done (by kernel_rfl) ?_ _
  go_wp2
  refine bodyPost_ret (results_cell_row rfl _ _ _ _ _ _ _ rfl hb8 Tryz.underlying24 rfl (by rw [idVals_size, HSL.out]; exact sizeId)) rfl ⟨rfl, ?_⟩
  exact hHeld.2.2.hB
end Go.Proofs.YticpdepbgcagaaaGreat


/- The program's Pair. -/
import Derived.Test.YticpdepbgcagaaaGreatTag5
namespace Go.Proofs.YticpdepbgcagaaaGreat
open Go.RowKit Go.Qc
attribute [local go_sem] txt_size

theorem PairS.far {w : World} {a b : List UInt8} {W W' : World} {q : Nat} (h : PairS w a b W) (hg : W.grownBy W' (some q)) (hq : w.heap.size + 1 + 1 < q) : PairS w a b W' :=
  ⟨range_gb h.hra hg (by omega), range_gb h.hrb hg (by omega), h.hC.elim fun cs hc => ⟨cs, (hg.block _ hc.1.lt (fun e => by cases e; omega)).trans hc.1, hc.2⟩, h.hB.grown hg h.hB.size (by intro i e; cases e; omega)⟩
theorem rd_range {w : World} {g : Nat} {xs : List Value} (h : w.rangeAt g 0 xs) : Rd w (some ⟨g, 0, none⟩) xs := .inr ⟨_, rfl, range_add h⟩
set_option maxRecDepth 100000 in
set_option maxHeartbeats 8000000 in
set_option linter.unusedSimpArgs false in
theorem pair_any (nm : List UInt8) (hnm : nm.length ≤ 1000000) (a b : List UInt8) (ha : a.length = 32) (hb : b.length = 32) (w : World) :
    Calls Tryz.prog 107 #[.string (txt nm), .agg (idVals a), .agg (idVals b)] w fun e w' => e = .returned (.agg (idVals (tagB (nm.take 255) [a, b]))) ∧ Below w.heap.size w w' := by
  obtain ⟨S, hS⟩ : ∃ S, S = tagB (nm.take 255) [a, b] := ⟨_, rfl⟩
  have hSl : S.length = 32 := by rw [hS]; exact tagB_length _ _
  have cOf : ∀ W A c, Rd W A ([a, b].map strV) → Calls Tryz.prog 60 #[.string (txt (nm.take 255)), .slice A 2 c] W fun e w' => e = .returned (.tuple #[.agg (idVals S), .int .i64 0]) ∧ Below W.heap.size W w' := fun W A c h => by
    rw [hS]
    exact of_any (nm.take 255) (take_min nm) A 2 c [a, b] rfl (textB_ids _ (take_min nm) _ (by simp [ha, hb])) W h
  have cC : ∀ W : World, Calls Tryz.prog 95 #[.string (txt nm)] W fun e w' => e = .returned (.string (txt (nm.take 255))) ∧ W = w' := fun W => clipped_any nm (by omega) W
  have hu := Tryz.underlying24
  have hzS : (Tryz.prog.info? 24).map (·.size) = some (S.map u8v).length := by rw [List.length_map, hSl]; exact sizeId
  have hc3 : (S.map u8v).toArray.size = 32 := by rw [List.size_toArray, List.length_map, hSl]
  have hc2 : (Tryz.prog.info? 24).map (·.size) = some (S.map u8v).toArray.size := by rw [hc3]; exact sizeId
  have h1S : (S.map u8v).toArray.all (·.oneCell') = true := idVals_one S
  have va : ∀ W, (W.rangeAt w.heap.size 0 (a.map u8v) ∧ W.rangeAt (w.heap.size + 1) 0 (b.map u8v) ∧ PairS w a b W) → (convert 97 9 (.slice (some ⟨w.heap.size, 0, none⟩) 32 32)).run Tryz.prog W = .ok (.string (txt a)) W := fun W h =>
    run_txt (P := Tryz.prog) W 97 9 5 _ 32 32 a Tryz.underlying97 Tryz.underlying5 Tryz.underlying9 ha.symm (rd_range h.1)
  have vb : ∀ W, (W.rangeAt w.heap.size 0 (a.map u8v) ∧ W.rangeAt (w.heap.size + 1) 0 (b.map u8v) ∧ PairS w a b W) → (convert 97 9 (.slice (some ⟨w.heap.size + 1, 0, none⟩) 32 32)).run Tryz.prog W = .ok (.string (txt b)) W := fun W h =>
    run_txt (P := Tryz.prog) W 97 9 5 _ 32 32 b Tryz.underlying97 Tryz.underlying5 Tryz.underlying9 hb.symm (rd_range h.2.1)
  rw [← hS]
  have HSL := hid hSl
  clear hS hSl ha hb hnm
  go_enter Tryz.func107, Tryz.ntmps107
  go_wp2_with (fail)
  have hA0 := ((Blk.new w 24 (idVals a)).alloc (.cells (idVals b) 24)).alloc (.cells (idVals zeroB) 24)
  have hk : (w.alloc (.cells (idVals a) 24)).heap.size = w.heap.size + 1 := by simp
  have hB0 := (Blk.new (w.alloc (.cells (idVals a) 24)) 24 (idVals b)).alloc (.cells (idVals zeroB) 24)
  rw [hk] at hB0
  have hk2 : ((w.alloc (.cells (idVals a) 24)).alloc (.cells (idVals b) 24)).heap.size = w.heap.size + 1 + 1 := by simp
  have hC0 := Blk.new ((w.alloc (.cells (idVals a) 24)).alloc (.cells (idVals b) 24)) 24 (idVals zeroB)
  rw [hk2] at hC0
  have hBB : Below w.heap.size w (((w.alloc (.cells (idVals a) 24)).alloc (.cells (idVals b) 24)).alloc (.cells (idVals zeroB) 24)) := (((Below.refl _ _).alloc (Nat.le_refl _) _).alloc (by simp) _).alloc (by simp; omega) _
  generalize hW : ((w.alloc (.cells (idVals a) 24)).alloc (.cells (idVals b) 24)).alloc (.cells (idVals zeroB) 24) = w3 at *
  have hW2 : ((w.alloc (.cells (idVals a) 24)).alloc (.cells (idVals b) 24)).alloc (.cells #[.int .u8 0, .int .u8 0, .int .u8 0, .int .u8 0, .int .u8 0, .int .u8 0, .int .u8 0, .int .u8 0, .int .u8 0, .int .u8 0, .int .u8 0, .int .u8 0, .int .u8 0, .int .u8 0, .int .u8 0, .int .u8 0, .int .u8 0, .int .u8 0, .int .u8 0, .int .u8 0, .int .u8 0, .int .u8 0, .int .u8 0, .int .u8 0, .int .u8 0, .int .u8 0, .int .u8 0, .int .u8 0, .int .u8 0, .int .u8 0, .int .u8 0, .int .u8 0] 24) = w3 := hW
  have hS0 : PairS w a b w3 := ⟨range_blk hA0, range_blk hB0, ⟨_, hC0, rfl⟩, hBB⟩
  simp only [hW2]
  clear hW hW2 hA0 hB0 hC0 hk hk2
  refine wp_region_held_drew (S := fun w' => (w'.rangeAt w.heap.size 0 (a.map u8v) ∧ w'.rangeAt (w.heap.size + 1) 0 (b.map u8v) ∧ PairS w a b w')) (by kernel_rfl) ?_ (fun hHeld => ?_)
  · exact (hS0.below (below_drew1 w3)).all
  generalize w3.drew = W0 at *
  refine' wpAnyH_take (i := 0) (v := .string (txt nm)) rfl (by kernel_rfl) (by kernel_rfl) (by kernel_rfl) (fun _ _ _ h => h) (Or.inl ⟨by rfl, fun w' hw' => by go_simp⟩) hHeld ?_
  try simp only [Act.put, List.setIfInBounds_toArray, List.set_cons_zero, List.set_cons_succ]
  refine' wpAnyH_take (i := 2) (v := .slice (some ⟨w.heap.size, 0, none⟩) 32 32) rfl (by kernel_rfl) (by kernel_rfl) (by kernel_rfl) (fun _ _ _ h => h) (Or.inl ⟨by rfl, fun w' hw' => by go_simp⟩) hHeld ?_
  try simp only [Act.put, List.setIfInBounds_toArray, List.set_cons_zero, List.set_cons_succ]
  refine' wpAnyH_take (i := 3) (v := .string (txt a)) rfl (by kernel_rfl) (by kernel_rfl) (by kernel_rfl) (fun _ _ _ h => h) (Or.inl ⟨by rfl, fun w' hw' => by have hv := va w' hw'; go_simp⟩) hHeld ?_
  try simp only [Act.put, List.setIfInBounds_toArray, List.set_cons_zero, List.set_cons_succ]
  refine' wpAnyH_take (i := 4) (v := .slice (some ⟨w.heap.size + 1, 0, none⟩) 32 32) rfl (by kernel_rfl) (by kernel_rfl) (by kernel_rfl) (fun _ _ _ h => h) (Or.inl ⟨by rfl, fun w' hw' => by go_simp⟩) hHeld ?_
  try simp only [Act.put, List.setIfInBounds_toArray, List.set_cons_zero, List.set_cons_succ]
  refine' wpAnyH_take (i := 5) (v := .string (txt b)) rfl (by kernel_rfl) (by kernel_rfl) (by kernel_rfl) (fun _ _ _ h => h) (Or.inl ⟨by rfl, fun w' hw' => by have hv := vb w' hw'; go_simp⟩) hHeld ?_
  try simp only [Act.put, List.setIfInBounds_toArray, List.set_cons_zero, List.set_cons_succ]
  clear va vb hS0
  refine wpAnyH_ready (rs := [1, 6, 11]) (by kernel_rfl) (by simp) ?_
  refine AllReadyH.cons rfl (fun K hK => ?_) ?_
  · go_simp
    (with_reducible refine (cC _).mono ?_)
    rintro e1 w1 ⟨rfl, rfl⟩
    refine hK.out _ _ hHeld (fun hHeld => ?_)
    clear hK K
    try simp only [Act.put, List.setIfInBounds_toArray, List.set_cons_zero, List.set_cons_succ]
    refine wpAnyH_ready (rs := [6, 11]) (by kernel_rfl) (by simp) ?_
    refine AllReadyH.cons rfl (fun K hK => ?_) ?_
    · go_simp
      have hA := (Below.refl W0.heap.size W0).alloc (Nat.le_refl _) (.cells #[.string (txt a), .string (txt b)] 9)
      have hRd := rd_two W0 a b
      have hS := (hHeld.2.2.below hA).all
      generalize W0.alloc (.cells #[.string (txt a), .string (txt b)] 9) = W2 at *
      refine hK.out _ _ hS (fun hHeld => ?_)
      clear hA hS
      clear hK K
      try simp only [Act.put, List.setIfInBounds_toArray, List.set_cons_zero, List.set_cons_succ]
      refine wpAnyH_ready (rs := [7, 11]) (by kernel_rfl) (by simp) ?_
      refine AllReadyH.cons rfl (fun K hK => ?_) ?_
      · go_simp
        (with_reducible refine (cOf _ _ _ hRd).mono ?_)
        rintro e3 W3 ⟨rfl, hb3⟩
        refine hK.out _ _ (hHeld.2.2.below hb3).all (fun hHeld => ?_)
        clear hRd hb3
        clear hK K
        try simp only [Act.put, List.setIfInBounds_toArray, List.set_cons_zero, List.set_cons_succ]
        refine' wpAnyH_take (i := 8) (v := .tuple #[.agg (idVals S), .int .i64 0]) rfl (by kernel_rfl) (by kernel_rfl) (by kernel_rfl) (fun _ _ _ h => h) (Or.inl ⟨by rfl, fun w' hw' => by go_simp⟩) hHeld ?_
        try simp only [Act.put, List.setIfInBounds_toArray, List.set_cons_zero, List.set_cons_succ]
        refine' wpAnyH_take (i := 9) (v := .agg (idVals S)) rfl (by kernel_rfl) (by kernel_rfl) (by kernel_rfl) (fun _ _ _ h => h) (Or.inl ⟨by rfl, fun w' hw' => by go_simp⟩) hHeld ?_
        try simp only [Act.put, List.setIfInBounds_toArray, List.set_cons_zero, List.set_cons_succ]
        refine' wpAnyH_take (i := 10) (v := .int .i64 0) rfl (by kernel_rfl) (by kernel_rfl) (by kernel_rfl) (fun _ _ _ h => h) (Or.inl ⟨by rfl, fun w' hw' => by go_simp⟩) hHeld ?_
        try simp only [Act.put, List.setIfInBounds_toArray, List.set_cons_zero, List.set_cons_succ]
        refine wpAnyH_ready (rs := [11]) (by kernel_rfl) (by simp) ?_
        refine AllReadyH.cons rfl (fun K hK => ?_) ?_
        · go_simp
          have hA := (Below.refl W3.heap.size W3).alloc (Nat.le_refl _) (.cells #[.int .u8 0, .int .u8 0, .int .u8 0, .int .u8 0, .int .u8 0, .int .u8 0, .int .u8 0, .int .u8 0, .int .u8 0, .int .u8 0, .int .u8 0, .int .u8 0, .int .u8 0, .int .u8 0, .int .u8 0, .int .u8 0, .int .u8 0, .int .u8 0, .int .u8 0, .int .u8 0, .int .u8 0, .int .u8 0, .int .u8 0, .int .u8 0, .int .u8 0, .int .u8 0, .int .u8 0, .int .u8 0, .int .u8 0, .int .u8 0, .int .u8 0, .int .u8 0] 24)
          have hBlk := Blk.new W3 24 #[.int .u8 0, .int .u8 0, .int .u8 0, .int .u8 0, .int .u8 0, .int .u8 0, .int .u8 0, .int .u8 0, .int .u8 0, .int .u8 0, .int .u8 0, .int .u8 0, .int .u8 0, .int .u8 0, .int .u8 0, .int .u8 0, .int .u8 0, .int .u8 0, .int .u8 0, .int .u8 0, .int .u8 0, .int .u8 0, .int .u8 0, .int .u8 0, .int .u8 0, .int .u8 0, .int .u8 0, .int .u8 0, .int .u8 0, .int .u8 0, .int .u8 0, .int .u8 0]
          have hq : w.heap.size + 1 + 1 < W3.heap.size := hHeld.2.2.hC.elim fun _ h => h.1.lt
          have hS := (hHeld.2.2.below hA).all
          generalize W3.alloc (.cells #[.int .u8 0, .int .u8 0, .int .u8 0, .int .u8 0, .int .u8 0, .int .u8 0, .int .u8 0, .int .u8 0, .int .u8 0, .int .u8 0, .int .u8 0, .int .u8 0, .int .u8 0, .int .u8 0, .int .u8 0, .int .u8 0, .int .u8 0, .int .u8 0, .int .u8 0, .int .u8 0, .int .u8 0, .int .u8 0, .int .u8 0, .int .u8 0, .int .u8 0, .int .u8 0, .int .u8 0, .int .u8 0, .int .u8 0, .int .u8 0, .int .u8 0, .int .u8 0] 24) = W4 at *
          refine hK.out _ _ hS (fun hHeld => ?_)
          clear hA hS
          clear hK K
          try simp only [Act.put, List.setIfInBounds_toArray, List.set_cons_zero, List.set_cons_succ]
          refine wpAnyH_ready (rs := [12]) (by kernel_rfl) (by simp) ?_
          refine AllReadyH.cons rfl (fun K hK => ?_) AllReadyH.nil
          rw [if_pos (by rfl)]
          refine wp_store_blk 24 _ _ rfl _ _ (idVals S) 24 hBlk rfl rfl (by rw [idVals_size, HSL.out]; exact sizeId) (by rw [idVals_size, HSL.out]; rfl) (idVals_one _) ?_
          intro w8 hb8 hg8
          refine hK.out _ _ (hHeld.2.2.far hg8 hq).all (fun hHeld => ?_)
          clear hK K hg8 hBlk
          try simp only [Act.put, List.setIfInBounds_toArray, List.set_cons_zero, List.set_cons_succ]
          refine' wpAnyH_take (i := 13) (v := .int .i64 0) rfl (by kernel_rfl) (by kernel_rfl) (by kernel_rfl) (fun _ _ _ h => h) (Or.inl ⟨by rfl, fun w' hw' => by go_simp⟩) hHeld ?_
          try simp only [Act.put, List.setIfInBounds_toArray, List.set_cons_zero, List.set_cons_succ]
          refine wpAnyH_done (by kernel_rfl) ?_ _
          have hrg := range_blk hb8
          obtain ⟨old, hC, hCs⟩ := hHeld.2.2.hC
          have hBw := hHeld.2.2.hB
          go_wp2_with (first
            | (with_reducible refine wpList_load_if (by with_unfolding_all rfl) 24 _ rfl _ _ rfl (S.map u8v) _ hrg hu (by with_unfolding_all rfl) hzS ?_)
            | (with_reducible refine wpList_store_blk rfl 24 _ _ rfl (w.heap.size + 1 + 1) old (S.map u8v).toArray 24 hC rfl rfl hc2 (hCs.trans hc3.symm) h1S ?_))
          intro w9 hb9 hg9
          go_wp2
          refine bodyPost_ret (results_cell_row rfl _ _ _ _ _ _ _ rfl hb9 Tryz.underlying24 rfl hc2) rfl ⟨rfl, ?_⟩
          exact hBw.grown hg9 hBw.size (by intro i e; cases e; omega)
        exact AllReadyH.nil
      refine AllReadyH.cons rfl (fun K hK => ?_) ?_
      · go_simp
        have hA := (Below.refl W2.heap.size W2).alloc (Nat.le_refl _) (.cells #[.int .u8 0, .int .u8 0, .int .u8 0, .int .u8 0, .int .u8 0, .int .u8 0, .int .u8 0, .int .u8 0, .int .u8 0, .int .u8 0, .int .u8 0, .int .u8 0, .int .u8 0, .int .u8 0, .int .u8 0, .int .u8 0, .int .u8 0, .int .u8 0, .int .u8 0, .int .u8 0, .int .u8 0, .int .u8 0, .int .u8 0, .int .u8 0, .int .u8 0, .int .u8 0, .int .u8 0, .int .u8 0, .int .u8 0, .int .u8 0, .int .u8 0, .int .u8 0] 24)
        have hBlk := Blk.new W2 24 #[.int .u8 0, .int .u8 0, .int .u8 0, .int .u8 0, .int .u8 0, .int .u8 0, .int .u8 0, .int .u8 0, .int .u8 0, .int .u8 0, .int .u8 0, .int .u8 0, .int .u8 0, .int .u8 0, .int .u8 0, .int .u8 0, .int .u8 0, .int .u8 0, .int .u8 0, .int .u8 0, .int .u8 0, .int .u8 0, .int .u8 0, .int .u8 0, .int .u8 0, .int .u8 0, .int .u8 0, .int .u8 0, .int .u8 0, .int .u8 0, .int .u8 0, .int .u8 0]
        have hq : w.heap.size + 1 + 1 < W2.heap.size := hHeld.2.2.hC.elim fun _ h => h.1.lt
        have hS := (hHeld.2.2.below hA).all
        replace hRd := hRd.below hA
        generalize W2.alloc (.cells #[.int .u8 0, .int .u8 0, .int .u8 0, .int .u8 0, .int .u8 0, .int .u8 0, .int .u8 0, .int .u8 0, .int .u8 0, .int .u8 0, .int .u8 0, .int .u8 0, .int .u8 0, .int .u8 0, .int .u8 0, .int .u8 0, .int .u8 0, .int .u8 0, .int .u8 0, .int .u8 0, .int .u8 0, .int .u8 0, .int .u8 0, .int .u8 0, .int .u8 0, .int .u8 0, .int .u8 0, .int .u8 0, .int .u8 0, .int .u8 0, .int .u8 0, .int .u8 0] 24) = W5 at *
        refine hK.out _ _ hS (fun hHeld => ?_)
        clear hA hS
        clear hK K
        try simp only [Act.put, List.setIfInBounds_toArray, List.set_cons_zero, List.set_cons_succ]
        refine wpAnyH_ready (rs := [7]) (by kernel_rfl) (by simp) ?_
        refine AllReadyH.cons rfl (fun K hK => ?_) ?_
        · go_simp
          (with_reducible refine (cOf _ _ _ hRd).mono ?_)
          rintro e6 W6 ⟨rfl, hb6⟩
          replace hBlk := hBlk.below hb6
          refine hK.out _ _ (hHeld.2.2.below hb6).all (fun hHeld => ?_)
          clear hRd hb6
          clear hK K
          try simp only [Act.put, List.setIfInBounds_toArray, List.set_cons_zero, List.set_cons_succ]
          refine' wpAnyH_take (i := 8) (v := .tuple #[.agg (idVals S), .int .i64 0]) rfl (by kernel_rfl) (by kernel_rfl) (by kernel_rfl) (fun _ _ _ h => h) (Or.inl ⟨by rfl, fun w' hw' => by go_simp⟩) hHeld ?_
          try simp only [Act.put, List.setIfInBounds_toArray, List.set_cons_zero, List.set_cons_succ]
          refine' wpAnyH_take (i := 9) (v := .agg (idVals S)) rfl (by kernel_rfl) (by kernel_rfl) (by kernel_rfl) (fun _ _ _ h => h) (Or.inl ⟨by rfl, fun w' hw' => by go_simp⟩) hHeld ?_
          try simp only [Act.put, List.setIfInBounds_toArray, List.set_cons_zero, List.set_cons_succ]
          refine' wpAnyH_take (i := 10) (v := .int .i64 0) rfl (by kernel_rfl) (by kernel_rfl) (by kernel_rfl) (fun _ _ _ h => h) (Or.inl ⟨by rfl, fun w' hw' => by go_simp⟩) hHeld ?_
          try simp only [Act.put, List.setIfInBounds_toArray, List.set_cons_zero, List.set_cons_succ]
          refine wpAnyH_ready (rs := [12]) (by kernel_rfl) (by simp) ?_
          refine AllReadyH.cons rfl (fun K hK => ?_) AllReadyH.nil
          rw [if_pos (by rfl)]
          refine wp_store_blk 24 _ _ rfl _ _ (idVals S) 24 hBlk rfl rfl (by rw [idVals_size, HSL.out]; exact sizeId) (by rw [idVals_size, HSL.out]; rfl) (idVals_one _) ?_
          intro w8 hb8 hg8
          refine hK.out _ _ (hHeld.2.2.far hg8 hq).all (fun hHeld => ?_)
          clear hK K hg8 hBlk
          try simp only [Act.put, List.setIfInBounds_toArray, List.set_cons_zero, List.set_cons_succ]
          refine' wpAnyH_take (i := 13) (v := .int .i64 0) rfl (by kernel_rfl) (by kernel_rfl) (by kernel_rfl) (fun _ _ _ h => h) (Or.inl ⟨by rfl, fun w' hw' => by go_simp⟩) hHeld ?_
          try simp only [Act.put, List.setIfInBounds_toArray, List.set_cons_zero, List.set_cons_succ]
          refine wpAnyH_done (by kernel_rfl) ?_ _
          have hrg := range_blk hb8
          obtain ⟨old, hC, hCs⟩ := hHeld.2.2.hC
          have hBw := hHeld.2.2.hB
          go_wp2_with (first
            | (with_reducible refine wpList_load_if (by with_unfolding_all rfl) 24 _ rfl _ _ rfl (S.map u8v) _ hrg hu (by with_unfolding_all rfl) hzS ?_)
            | (with_reducible refine wpList_store_blk rfl 24 _ _ rfl (w.heap.size + 1 + 1) old (S.map u8v).toArray 24 hC rfl rfl hc2 (hCs.trans hc3.symm) h1S ?_))
          intro w9 hb9 hg9
          go_wp2
          refine bodyPost_ret (results_cell_row rfl _ _ _ _ _ _ _ rfl hb9 Tryz.underlying24 rfl hc2) rfl ⟨rfl, ?_⟩
          exact hBw.grown hg9 hBw.size (by intro i e; cases e; omega)
        exact AllReadyH.nil
      exact AllReadyH.nil
    refine AllReadyH.cons rfl (fun K hK => ?_) ?_
    · go_simp
      have hA := (Below.refl W0.heap.size W0).alloc (Nat.le_refl _) (.cells #[.int .u8 0, .int .u8 0, .int .u8 0, .int .u8 0, .int .u8 0, .int .u8 0, .int .u8 0, .int .u8 0, .int .u8 0, .int .u8 0, .int .u8 0, .int .u8 0, .int .u8 0, .int .u8 0, .int .u8 0, .int .u8 0, .int .u8 0, .int .u8 0, .int .u8 0, .int .u8 0, .int .u8 0, .int .u8 0, .int .u8 0, .int .u8 0, .int .u8 0, .int .u8 0, .int .u8 0, .int .u8 0, .int .u8 0, .int .u8 0, .int .u8 0, .int .u8 0] 24)
      have hBlk := Blk.new W0 24 #[.int .u8 0, .int .u8 0, .int .u8 0, .int .u8 0, .int .u8 0, .int .u8 0, .int .u8 0, .int .u8 0, .int .u8 0, .int .u8 0, .int .u8 0, .int .u8 0, .int .u8 0, .int .u8 0, .int .u8 0, .int .u8 0, .int .u8 0, .int .u8 0, .int .u8 0, .int .u8 0, .int .u8 0, .int .u8 0, .int .u8 0, .int .u8 0, .int .u8 0, .int .u8 0, .int .u8 0, .int .u8 0, .int .u8 0, .int .u8 0, .int .u8 0, .int .u8 0]
      have hq : w.heap.size + 1 + 1 < W0.heap.size := hHeld.2.2.hC.elim fun _ h => h.1.lt
      have hS := (hHeld.2.2.below hA).all
      generalize W0.alloc (.cells #[.int .u8 0, .int .u8 0, .int .u8 0, .int .u8 0, .int .u8 0, .int .u8 0, .int .u8 0, .int .u8 0, .int .u8 0, .int .u8 0, .int .u8 0, .int .u8 0, .int .u8 0, .int .u8 0, .int .u8 0, .int .u8 0, .int .u8 0, .int .u8 0, .int .u8 0, .int .u8 0, .int .u8 0, .int .u8 0, .int .u8 0, .int .u8 0, .int .u8 0, .int .u8 0, .int .u8 0, .int .u8 0, .int .u8 0, .int .u8 0, .int .u8 0, .int .u8 0] 24) = W7 at *
      refine hK.out _ _ hS (fun hHeld => ?_)
      clear hA hS
      clear hK K
      try simp only [Act.put, List.setIfInBounds_toArray, List.set_cons_zero, List.set_cons_succ]
      refine wpAnyH_ready (rs := [6]) (by kernel_rfl) (by simp) ?_
      refine AllReadyH.cons rfl (fun K hK => ?_) ?_
      · go_simp
        have hA := (Below.refl W7.heap.size W7).alloc (Nat.le_refl _) (.cells #[.string (txt a), .string (txt b)] 9)
        have hRd := rd_two W7 a b
        have hS := (hHeld.2.2.below hA).all
        replace hBlk := hBlk.below hA
        generalize W7.alloc (.cells #[.string (txt a), .string (txt b)] 9) = W8 at *
        refine hK.out _ _ hS (fun hHeld => ?_)
        clear hA hS
        clear hK K
        try simp only [Act.put, List.setIfInBounds_toArray, List.set_cons_zero, List.set_cons_succ]
        refine wpAnyH_ready (rs := [7]) (by kernel_rfl) (by simp) ?_
        refine AllReadyH.cons rfl (fun K hK => ?_) ?_
        · go_simp
          (with_reducible refine (cOf _ _ _ hRd).mono ?_)
          rintro e9 W9 ⟨rfl, hb9⟩
          replace hBlk := hBlk.below hb9
          refine hK.out _ _ (hHeld.2.2.below hb9).all (fun hHeld => ?_)
          clear hRd hb9
          clear hK K
          try simp only [Act.put, List.setIfInBounds_toArray, List.set_cons_zero, List.set_cons_succ]
          refine' wpAnyH_take (i := 8) (v := .tuple #[.agg (idVals S), .int .i64 0]) rfl (by kernel_rfl) (by kernel_rfl) (by kernel_rfl) (fun _ _ _ h => h) (Or.inl ⟨by rfl, fun w' hw' => by go_simp⟩) hHeld ?_
          try simp only [Act.put, List.setIfInBounds_toArray, List.set_cons_zero, List.set_cons_succ]
          refine' wpAnyH_take (i := 9) (v := .agg (idVals S)) rfl (by kernel_rfl) (by kernel_rfl) (by kernel_rfl) (fun _ _ _ h => h) (Or.inl ⟨by rfl, fun w' hw' => by go_simp⟩) hHeld ?_
          try simp only [Act.put, List.setIfInBounds_toArray, List.set_cons_zero, List.set_cons_succ]
          refine' wpAnyH_take (i := 10) (v := .int .i64 0) rfl (by kernel_rfl) (by kernel_rfl) (by kernel_rfl) (fun _ _ _ h => h) (Or.inl ⟨by rfl, fun w' hw' => by go_simp⟩) hHeld ?_
          try simp only [Act.put, List.setIfInBounds_toArray, List.set_cons_zero, List.set_cons_succ]
          refine wpAnyH_ready (rs := [12]) (by kernel_rfl) (by simp) ?_
          refine AllReadyH.cons rfl (fun K hK => ?_) AllReadyH.nil
          rw [if_pos (by rfl)]
          refine wp_store_blk 24 _ _ rfl _ _ (idVals S) 24 hBlk rfl rfl (by rw [idVals_size, HSL.out]; exact sizeId) (by rw [idVals_size, HSL.out]; rfl) (idVals_one _) ?_
          intro w8 hb8 hg8
          refine hK.out _ _ (hHeld.2.2.far hg8 hq).all (fun hHeld => ?_)
          clear hK K hg8 hBlk
          try simp only [Act.put, List.setIfInBounds_toArray, List.set_cons_zero, List.set_cons_succ]
          refine' wpAnyH_take (i := 13) (v := .int .i64 0) rfl (by kernel_rfl) (by kernel_rfl) (by kernel_rfl) (fun _ _ _ h => h) (Or.inl ⟨by rfl, fun w' hw' => by go_simp⟩) hHeld ?_
          try simp only [Act.put, List.setIfInBounds_toArray, List.set_cons_zero, List.set_cons_succ]
          refine wpAnyH_done (by kernel_rfl) ?_ _
          have hrg := range_blk hb8
          obtain ⟨old, hC, hCs⟩ := hHeld.2.2.hC
          have hBw := hHeld.2.2.hB
          go_wp2_with (first
            | (with_reducible refine wpList_load_if (by with_unfolding_all rfl) 24 _ rfl _ _ rfl (S.map u8v) _ hrg hu (by with_unfolding_all rfl) hzS ?_)
            | (with_reducible refine wpList_store_blk rfl 24 _ _ rfl (w.heap.size + 1 + 1) old (S.map u8v).toArray 24 hC rfl rfl hc2 (hCs.trans hc3.symm) h1S ?_))
          intro w9 hb9 hg9
          go_wp2
          refine bodyPost_ret (results_cell_row rfl _ _ _ _ _ _ _ rfl hb9 Tryz.underlying24 rfl hc2) rfl ⟨rfl, ?_⟩
          exact hBw.grown hg9 hBw.size (by intro i e; cases e; omega)
        exact AllReadyH.nil
      exact AllReadyH.nil
    exact AllReadyH.nil
  refine AllReadyH.cons rfl (fun K hK => ?_) ?_
  · go_simp
    have hA := (Below.refl W0.heap.size W0).alloc (Nat.le_refl _) (.cells #[.string (txt a), .string (txt b)] 9)
    have hRd := rd_two W0 a b
    have hS := (hHeld.2.2.below hA).all
    generalize W0.alloc (.cells #[.string (txt a), .string (txt b)] 9) = W10 at *
    refine hK.out _ _ hS (fun hHeld => ?_)
    clear hA hS
    clear hK K
    try simp only [Act.put, List.setIfInBounds_toArray, List.set_cons_zero, List.set_cons_succ]
    refine wpAnyH_ready (rs := [1, 11]) (by kernel_rfl) (by simp) ?_
    refine AllReadyH.cons rfl (fun K hK => ?_) ?_
    · go_simp
      (with_reducible refine (cC _).mono ?_)
      rintro e11 w11 ⟨rfl, rfl⟩
      refine hK.out _ _ hHeld (fun hHeld => ?_)
      clear hK K
      try simp only [Act.put, List.setIfInBounds_toArray, List.set_cons_zero, List.set_cons_succ]
      refine wpAnyH_ready (rs := [7, 11]) (by kernel_rfl) (by simp) ?_
      refine AllReadyH.cons rfl (fun K hK => ?_) ?_
      · go_simp
        (with_reducible refine (cOf _ _ _ hRd).mono ?_)
        rintro e12 W12 ⟨rfl, hb12⟩
        refine hK.out _ _ (hHeld.2.2.below hb12).all (fun hHeld => ?_)
        clear hRd hb12
        clear hK K
        try simp only [Act.put, List.setIfInBounds_toArray, List.set_cons_zero, List.set_cons_succ]
        refine' wpAnyH_take (i := 8) (v := .tuple #[.agg (idVals S), .int .i64 0]) rfl (by kernel_rfl) (by kernel_rfl) (by kernel_rfl) (fun _ _ _ h => h) (Or.inl ⟨by rfl, fun w' hw' => by go_simp⟩) hHeld ?_
        try simp only [Act.put, List.setIfInBounds_toArray, List.set_cons_zero, List.set_cons_succ]
        refine' wpAnyH_take (i := 9) (v := .agg (idVals S)) rfl (by kernel_rfl) (by kernel_rfl) (by kernel_rfl) (fun _ _ _ h => h) (Or.inl ⟨by rfl, fun w' hw' => by go_simp⟩) hHeld ?_
        try simp only [Act.put, List.setIfInBounds_toArray, List.set_cons_zero, List.set_cons_succ]
        refine' wpAnyH_take (i := 10) (v := .int .i64 0) rfl (by kernel_rfl) (by kernel_rfl) (by kernel_rfl) (fun _ _ _ h => h) (Or.inl ⟨by rfl, fun w' hw' => by go_simp⟩) hHeld ?_
        try simp only [Act.put, List.setIfInBounds_toArray, List.set_cons_zero, List.set_cons_succ]
        refine wpAnyH_ready (rs := [11]) (by kernel_rfl) (by simp) ?_
        refine AllReadyH.cons rfl (fun K hK => ?_) ?_
        · go_simp
          have hA := (Below.refl W12.heap.size W12).alloc (Nat.le_refl _) (.cells #[.int .u8 0, .int .u8 0, .int .u8 0, .int .u8 0, .int .u8 0, .int .u8 0, .int .u8 0, .int .u8 0, .int .u8 0, .int .u8 0, .int .u8 0, .int .u8 0, .int .u8 0, .int .u8 0, .int .u8 0, .int .u8 0, .int .u8 0, .int .u8 0, .int .u8 0, .int .u8 0, .int .u8 0, .int .u8 0, .int .u8 0, .int .u8 0, .int .u8 0, .int .u8 0, .int .u8 0, .int .u8 0, .int .u8 0, .int .u8 0, .int .u8 0, .int .u8 0] 24)
          have hBlk := Blk.new W12 24 #[.int .u8 0, .int .u8 0, .int .u8 0, .int .u8 0, .int .u8 0, .int .u8 0, .int .u8 0, .int .u8 0, .int .u8 0, .int .u8 0, .int .u8 0, .int .u8 0, .int .u8 0, .int .u8 0, .int .u8 0, .int .u8 0, .int .u8 0, .int .u8 0, .int .u8 0, .int .u8 0, .int .u8 0, .int .u8 0, .int .u8 0, .int .u8 0, .int .u8 0, .int .u8 0, .int .u8 0, .int .u8 0, .int .u8 0, .int .u8 0, .int .u8 0, .int .u8 0]
          have hq : w.heap.size + 1 + 1 < W12.heap.size := hHeld.2.2.hC.elim fun _ h => h.1.lt
          have hS := (hHeld.2.2.below hA).all
          generalize W12.alloc (.cells #[.int .u8 0, .int .u8 0, .int .u8 0, .int .u8 0, .int .u8 0, .int .u8 0, .int .u8 0, .int .u8 0, .int .u8 0, .int .u8 0, .int .u8 0, .int .u8 0, .int .u8 0, .int .u8 0, .int .u8 0, .int .u8 0, .int .u8 0, .int .u8 0, .int .u8 0, .int .u8 0, .int .u8 0, .int .u8 0, .int .u8 0, .int .u8 0, .int .u8 0, .int .u8 0, .int .u8 0, .int .u8 0, .int .u8 0, .int .u8 0, .int .u8 0, .int .u8 0] 24) = W13 at *
          refine hK.out _ _ hS (fun hHeld => ?_)
          clear hA hS
          clear hK K
          try simp only [Act.put, List.setIfInBounds_toArray, List.set_cons_zero, List.set_cons_succ]
          refine wpAnyH_ready (rs := [12]) (by kernel_rfl) (by simp) ?_
          refine AllReadyH.cons rfl (fun K hK => ?_) AllReadyH.nil
          rw [if_pos (by rfl)]
          refine wp_store_blk 24 _ _ rfl _ _ (idVals S) 24 hBlk rfl rfl (by rw [idVals_size, HSL.out]; exact sizeId) (by rw [idVals_size, HSL.out]; rfl) (idVals_one _) ?_
          intro w8 hb8 hg8
          refine hK.out _ _ (hHeld.2.2.far hg8 hq).all (fun hHeld => ?_)
          clear hK K hg8 hBlk
          try simp only [Act.put, List.setIfInBounds_toArray, List.set_cons_zero, List.set_cons_succ]
          refine' wpAnyH_take (i := 13) (v := .int .i64 0) rfl (by kernel_rfl) (by kernel_rfl) (by kernel_rfl) (fun _ _ _ h => h) (Or.inl ⟨by rfl, fun w' hw' => by go_simp⟩) hHeld ?_
          try simp only [Act.put, List.setIfInBounds_toArray, List.set_cons_zero, List.set_cons_succ]
          refine wpAnyH_done (by kernel_rfl) ?_ _
          have hrg := range_blk hb8
          obtain ⟨old, hC, hCs⟩ := hHeld.2.2.hC
          have hBw := hHeld.2.2.hB
          go_wp2_with (first
            | (with_reducible refine wpList_load_if (by with_unfolding_all rfl) 24 _ rfl _ _ rfl (S.map u8v) _ hrg hu (by with_unfolding_all rfl) hzS ?_)
            | (with_reducible refine wpList_store_blk rfl 24 _ _ rfl (w.heap.size + 1 + 1) old (S.map u8v).toArray 24 hC rfl rfl hc2 (hCs.trans hc3.symm) h1S ?_))
          intro w9 hb9 hg9
          go_wp2
          refine bodyPost_ret (results_cell_row rfl _ _ _ _ _ _ _ rfl hb9 Tryz.underlying24 rfl hc2) rfl ⟨rfl, ?_⟩
          exact hBw.grown hg9 hBw.size (by intro i e; cases e; omega)
        exact AllReadyH.nil
      refine AllReadyH.cons rfl (fun K hK => ?_) ?_
      · go_simp
        have hA := (Below.refl W10.heap.size W10).alloc (Nat.le_refl _) (.cells #[.int .u8 0, .int .u8 0, .int .u8 0, .int .u8 0, .int .u8 0, .int .u8 0, .int .u8 0, .int .u8 0, .int .u8 0, .int .u8 0, .int .u8 0, .int .u8 0, .int .u8 0, .int .u8 0, .int .u8 0, .int .u8 0, .int .u8 0, .int .u8 0, .int .u8 0, .int .u8 0, .int .u8 0, .int .u8 0, .int .u8 0, .int .u8 0, .int .u8 0, .int .u8 0, .int .u8 0, .int .u8 0, .int .u8 0, .int .u8 0, .int .u8 0, .int .u8 0] 24)
        have hBlk := Blk.new W10 24 #[.int .u8 0, .int .u8 0, .int .u8 0, .int .u8 0, .int .u8 0, .int .u8 0, .int .u8 0, .int .u8 0, .int .u8 0, .int .u8 0, .int .u8 0, .int .u8 0, .int .u8 0, .int .u8 0, .int .u8 0, .int .u8 0, .int .u8 0, .int .u8 0, .int .u8 0, .int .u8 0, .int .u8 0, .int .u8 0, .int .u8 0, .int .u8 0, .int .u8 0, .int .u8 0, .int .u8 0, .int .u8 0, .int .u8 0, .int .u8 0, .int .u8 0, .int .u8 0]
        have hq : w.heap.size + 1 + 1 < W10.heap.size := hHeld.2.2.hC.elim fun _ h => h.1.lt
        have hS := (hHeld.2.2.below hA).all
        replace hRd := hRd.below hA
        generalize W10.alloc (.cells #[.int .u8 0, .int .u8 0, .int .u8 0, .int .u8 0, .int .u8 0, .int .u8 0, .int .u8 0, .int .u8 0, .int .u8 0, .int .u8 0, .int .u8 0, .int .u8 0, .int .u8 0, .int .u8 0, .int .u8 0, .int .u8 0, .int .u8 0, .int .u8 0, .int .u8 0, .int .u8 0, .int .u8 0, .int .u8 0, .int .u8 0, .int .u8 0, .int .u8 0, .int .u8 0, .int .u8 0, .int .u8 0, .int .u8 0, .int .u8 0, .int .u8 0, .int .u8 0] 24) = W14 at *
        refine hK.out _ _ hS (fun hHeld => ?_)
        clear hA hS
        clear hK K
        try simp only [Act.put, List.setIfInBounds_toArray, List.set_cons_zero, List.set_cons_succ]
        refine wpAnyH_ready (rs := [7]) (by kernel_rfl) (by simp) ?_
        refine AllReadyH.cons rfl (fun K hK => ?_) ?_
        · go_simp
          (with_reducible refine (cOf _ _ _ hRd).mono ?_)
          rintro e15 W15 ⟨rfl, hb15⟩
          replace hBlk := hBlk.below hb15
          refine hK.out _ _ (hHeld.2.2.below hb15).all (fun hHeld => ?_)
          clear hRd hb15
          clear hK K
          try simp only [Act.put, List.setIfInBounds_toArray, List.set_cons_zero, List.set_cons_succ]
          refine' wpAnyH_take (i := 8) (v := .tuple #[.agg (idVals S), .int .i64 0]) rfl (by kernel_rfl) (by kernel_rfl) (by kernel_rfl) (fun _ _ _ h => h) (Or.inl ⟨by rfl, fun w' hw' => by go_simp⟩) hHeld ?_
          try simp only [Act.put, List.setIfInBounds_toArray, List.set_cons_zero, List.set_cons_succ]
          refine' wpAnyH_take (i := 9) (v := .agg (idVals S)) rfl (by kernel_rfl) (by kernel_rfl) (by kernel_rfl) (fun _ _ _ h => h) (Or.inl ⟨by rfl, fun w' hw' => by go_simp⟩) hHeld ?_
          try simp only [Act.put, List.setIfInBounds_toArray, List.set_cons_zero, List.set_cons_succ]
          refine' wpAnyH_take (i := 10) (v := .int .i64 0) rfl (by kernel_rfl) (by kernel_rfl) (by kernel_rfl) (fun _ _ _ h => h) (Or.inl ⟨by rfl, fun w' hw' => by go_simp⟩) hHeld ?_
          try simp only [Act.put, List.setIfInBounds_toArray, List.set_cons_zero, List.set_cons_succ]
          refine wpAnyH_ready (rs := [12]) (by kernel_rfl) (by simp) ?_
          refine AllReadyH.cons rfl (fun K hK => ?_) AllReadyH.nil
          rw [if_pos (by rfl)]
          refine wp_store_blk 24 _ _ rfl _ _ (idVals S) 24 hBlk rfl rfl (by rw [idVals_size, HSL.out]; exact sizeId) (by rw [idVals_size, HSL.out]; rfl) (idVals_one _) ?_
          intro w8 hb8 hg8
          refine hK.out _ _ (hHeld.2.2.far hg8 hq).all (fun hHeld => ?_)
          clear hK K hg8 hBlk
          try simp only [Act.put, List.setIfInBounds_toArray, List.set_cons_zero, List.set_cons_succ]
          refine' wpAnyH_take (i := 13) (v := .int .i64 0) rfl (by kernel_rfl) (by kernel_rfl) (by kernel_rfl) (fun _ _ _ h => h) (Or.inl ⟨by rfl, fun w' hw' => by go_simp⟩) hHeld ?_
          try simp only [Act.put, List.setIfInBounds_toArray, List.set_cons_zero, List.set_cons_succ]
          refine wpAnyH_done (by kernel_rfl) ?_ _
          have hrg := range_blk hb8
          obtain ⟨old, hC, hCs⟩ := hHeld.2.2.hC
          have hBw := hHeld.2.2.hB
          go_wp2_with (first
            | (with_reducible refine wpList_load_if (by with_unfolding_all rfl) 24 _ rfl _ _ rfl (S.map u8v) _ hrg hu (by with_unfolding_all rfl) hzS ?_)
            | (with_reducible refine wpList_store_blk rfl 24 _ _ rfl (w.heap.size + 1 + 1) old (S.map u8v).toArray 24 hC rfl rfl hc2 (hCs.trans hc3.symm) h1S ?_))
          intro w9 hb9 hg9
          go_wp2
          refine bodyPost_ret (results_cell_row rfl _ _ _ _ _ _ _ rfl hb9 Tryz.underlying24 rfl hc2) rfl ⟨rfl, ?_⟩
          exact hBw.grown hg9 hBw.size (by intro i e; cases e; omega)
        exact AllReadyH.nil
      exact AllReadyH.nil
    refine AllReadyH.cons rfl (fun K hK => ?_) ?_
    · go_simp
      have hA := (Below.refl W10.heap.size W10).alloc (Nat.le_refl _) (.cells #[.int .u8 0, .int .u8 0, .int .u8 0, .int .u8 0, .int .u8 0, .int .u8 0, .int .u8 0, .int .u8 0, .int .u8 0, .int .u8 0, .int .u8 0, .int .u8 0, .int .u8 0, .int .u8 0, .int .u8 0, .int .u8 0, .int .u8 0, .int .u8 0, .int .u8 0, .int .u8 0, .int .u8 0, .int .u8 0, .int .u8 0, .int .u8 0, .int .u8 0, .int .u8 0, .int .u8 0, .int .u8 0, .int .u8 0, .int .u8 0, .int .u8 0, .int .u8 0] 24)
      have hBlk := Blk.new W10 24 #[.int .u8 0, .int .u8 0, .int .u8 0, .int .u8 0, .int .u8 0, .int .u8 0, .int .u8 0, .int .u8 0, .int .u8 0, .int .u8 0, .int .u8 0, .int .u8 0, .int .u8 0, .int .u8 0, .int .u8 0, .int .u8 0, .int .u8 0, .int .u8 0, .int .u8 0, .int .u8 0, .int .u8 0, .int .u8 0, .int .u8 0, .int .u8 0, .int .u8 0, .int .u8 0, .int .u8 0, .int .u8 0, .int .u8 0, .int .u8 0, .int .u8 0, .int .u8 0]
      have hq : w.heap.size + 1 + 1 < W10.heap.size := hHeld.2.2.hC.elim fun _ h => h.1.lt
      have hS := (hHeld.2.2.below hA).all
      replace hRd := hRd.below hA
      generalize W10.alloc (.cells #[.int .u8 0, .int .u8 0, .int .u8 0, .int .u8 0, .int .u8 0, .int .u8 0, .int .u8 0, .int .u8 0, .int .u8 0, .int .u8 0, .int .u8 0, .int .u8 0, .int .u8 0, .int .u8 0, .int .u8 0, .int .u8 0, .int .u8 0, .int .u8 0, .int .u8 0, .int .u8 0, .int .u8 0, .int .u8 0, .int .u8 0, .int .u8 0, .int .u8 0, .int .u8 0, .int .u8 0, .int .u8 0, .int .u8 0, .int .u8 0, .int .u8 0, .int .u8 0] 24) = W16 at *
      refine hK.out _ _ hS (fun hHeld => ?_)
      clear hA hS
      clear hK K
      try simp only [Act.put, List.setIfInBounds_toArray, List.set_cons_zero, List.set_cons_succ]
      refine wpAnyH_ready (rs := [1]) (by kernel_rfl) (by simp) ?_
      refine AllReadyH.cons rfl (fun K hK => ?_) ?_
      · go_simp
        (with_reducible refine (cC _).mono ?_)
        rintro e17 w17 ⟨rfl, rfl⟩
        refine hK.out _ _ hHeld (fun hHeld => ?_)
        clear hK K
        try simp only [Act.put, List.setIfInBounds_toArray, List.set_cons_zero, List.set_cons_succ]
        refine wpAnyH_ready (rs := [7]) (by kernel_rfl) (by simp) ?_
        refine AllReadyH.cons rfl (fun K hK => ?_) ?_
        · go_simp
          (with_reducible refine (cOf _ _ _ hRd).mono ?_)
          rintro e18 W18 ⟨rfl, hb18⟩
          replace hBlk := hBlk.below hb18
          refine hK.out _ _ (hHeld.2.2.below hb18).all (fun hHeld => ?_)
          clear hRd hb18
          clear hK K
          try simp only [Act.put, List.setIfInBounds_toArray, List.set_cons_zero, List.set_cons_succ]
          refine' wpAnyH_take (i := 8) (v := .tuple #[.agg (idVals S), .int .i64 0]) rfl (by kernel_rfl) (by kernel_rfl) (by kernel_rfl) (fun _ _ _ h => h) (Or.inl ⟨by rfl, fun w' hw' => by go_simp⟩) hHeld ?_
          try simp only [Act.put, List.setIfInBounds_toArray, List.set_cons_zero, List.set_cons_succ]
          refine' wpAnyH_take (i := 9) (v := .agg (idVals S)) rfl (by kernel_rfl) (by kernel_rfl) (by kernel_rfl) (fun _ _ _ h => h) (Or.inl ⟨by rfl, fun w' hw' => by go_simp⟩) hHeld ?_
          try simp only [Act.put, List.setIfInBounds_toArray, List.set_cons_zero, List.set_cons_succ]
          refine' wpAnyH_take (i := 10) (v := .int .i64 0) rfl (by kernel_rfl) (by kernel_rfl) (by kernel_rfl) (fun _ _ _ h => h) (Or.inl ⟨by rfl, fun w' hw' => by go_simp⟩) hHeld ?_
          try simp only [Act.put, List.setIfInBounds_toArray, List.set_cons_zero, List.set_cons_succ]
          refine wpAnyH_ready (rs := [12]) (by kernel_rfl) (by simp) ?_
          refine AllReadyH.cons rfl (fun K hK => ?_) AllReadyH.nil
          rw [if_pos (by rfl)]
          refine wp_store_blk 24 _ _ rfl _ _ (idVals S) 24 hBlk rfl rfl (by rw [idVals_size, HSL.out]; exact sizeId) (by rw [idVals_size, HSL.out]; rfl) (idVals_one _) ?_
          intro w8 hb8 hg8
          refine hK.out _ _ (hHeld.2.2.far hg8 hq).all (fun hHeld => ?_)
          clear hK K hg8 hBlk
          try simp only [Act.put, List.setIfInBounds_toArray, List.set_cons_zero, List.set_cons_succ]
          refine' wpAnyH_take (i := 13) (v := .int .i64 0) rfl (by kernel_rfl) (by kernel_rfl) (by kernel_rfl) (fun _ _ _ h => h) (Or.inl ⟨by rfl, fun w' hw' => by go_simp⟩) hHeld ?_
          try simp only [Act.put, List.setIfInBounds_toArray, List.set_cons_zero, List.set_cons_succ]
          refine wpAnyH_done (by kernel_rfl) ?_ _
          have hrg := range_blk hb8
          obtain ⟨old, hC, hCs⟩ := hHeld.2.2.hC
          have hBw := hHeld.2.2.hB
          go_wp2_with (first
            | (with_reducible refine wpList_load_if (by with_unfolding_all rfl) 24 _ rfl _ _ rfl (S.map u8v) _ hrg hu (by with_unfolding_all rfl) hzS ?_)
            | (with_reducible refine wpList_store_blk rfl 24 _ _ rfl (w.heap.size + 1 + 1) old (S.map u8v).toArray 24 hC rfl rfl hc2 (hCs.trans hc3.symm) h1S ?_))
          intro w9 hb9 hg9
          go_wp2
          refine bodyPost_ret (results_cell_row rfl _ _ _ _ _ _ _ rfl hb9 Tryz.underlying24 rfl hc2) rfl ⟨rfl, ?_⟩
          exact hBw.grown hg9 hBw.size (by intro i e; cases e; omega)
        exact AllReadyH.nil
      exact AllReadyH.nil
    exact AllReadyH.nil
  refine AllReadyH.cons rfl (fun K hK => ?_) ?_
  · go_simp
    have hA := (Below.refl W0.heap.size W0).alloc (Nat.le_refl _) (.cells #[.int .u8 0, .int .u8 0, .int .u8 0, .int .u8 0, .int .u8 0, .int .u8 0, .int .u8 0, .int .u8 0, .int .u8 0, .int .u8 0, .int .u8 0, .int .u8 0, .int .u8 0, .int .u8 0, .int .u8 0, .int .u8 0, .int .u8 0, .int .u8 0, .int .u8 0, .int .u8 0, .int .u8 0, .int .u8 0, .int .u8 0, .int .u8 0, .int .u8 0, .int .u8 0, .int .u8 0, .int .u8 0, .int .u8 0, .int .u8 0, .int .u8 0, .int .u8 0] 24)
    have hBlk := Blk.new W0 24 #[.int .u8 0, .int .u8 0, .int .u8 0, .int .u8 0, .int .u8 0, .int .u8 0, .int .u8 0, .int .u8 0, .int .u8 0, .int .u8 0, .int .u8 0, .int .u8 0, .int .u8 0, .int .u8 0, .int .u8 0, .int .u8 0, .int .u8 0, .int .u8 0, .int .u8 0, .int .u8 0, .int .u8 0, .int .u8 0, .int .u8 0, .int .u8 0, .int .u8 0, .int .u8 0, .int .u8 0, .int .u8 0, .int .u8 0, .int .u8 0, .int .u8 0, .int .u8 0]
    have hq : w.heap.size + 1 + 1 < W0.heap.size := hHeld.2.2.hC.elim fun _ h => h.1.lt
    have hS := (hHeld.2.2.below hA).all
    generalize W0.alloc (.cells #[.int .u8 0, .int .u8 0, .int .u8 0, .int .u8 0, .int .u8 0, .int .u8 0, .int .u8 0, .int .u8 0, .int .u8 0, .int .u8 0, .int .u8 0, .int .u8 0, .int .u8 0, .int .u8 0, .int .u8 0, .int .u8 0, .int .u8 0, .int .u8 0, .int .u8 0, .int .u8 0, .int .u8 0, .int .u8 0, .int .u8 0, .int .u8 0, .int .u8 0, .int .u8 0, .int .u8 0, .int .u8 0, .int .u8 0, .int .u8 0, .int .u8 0, .int .u8 0] 24) = W19 at *
    refine hK.out _ _ hS (fun hHeld => ?_)
    clear hA hS
    clear hK K
    try simp only [Act.put, List.setIfInBounds_toArray, List.set_cons_zero, List.set_cons_succ]
    refine wpAnyH_ready (rs := [1, 6]) (by kernel_rfl) (by simp) ?_
    refine AllReadyH.cons rfl (fun K hK => ?_) ?_
    · go_simp
      (with_reducible refine (cC _).mono ?_)
      rintro e20 w20 ⟨rfl, rfl⟩
      refine hK.out _ _ hHeld (fun hHeld => ?_)
      clear hK K
      try simp only [Act.put, List.setIfInBounds_toArray, List.set_cons_zero, List.set_cons_succ]
      refine wpAnyH_ready (rs := [6]) (by kernel_rfl) (by simp) ?_
      refine AllReadyH.cons rfl (fun K hK => ?_) ?_
      · go_simp
        have hA := (Below.refl W19.heap.size W19).alloc (Nat.le_refl _) (.cells #[.string (txt a), .string (txt b)] 9)
        have hRd := rd_two W19 a b
        have hS := (hHeld.2.2.below hA).all
        replace hBlk := hBlk.below hA
        generalize W19.alloc (.cells #[.string (txt a), .string (txt b)] 9) = W21 at *
        refine hK.out _ _ hS (fun hHeld => ?_)
        clear hA hS
        clear hK K
        try simp only [Act.put, List.setIfInBounds_toArray, List.set_cons_zero, List.set_cons_succ]
        refine wpAnyH_ready (rs := [7]) (by kernel_rfl) (by simp) ?_
        refine AllReadyH.cons rfl (fun K hK => ?_) ?_
        · go_simp
          (with_reducible refine (cOf _ _ _ hRd).mono ?_)
          rintro e22 W22 ⟨rfl, hb22⟩
          replace hBlk := hBlk.below hb22
          refine hK.out _ _ (hHeld.2.2.below hb22).all (fun hHeld => ?_)
          clear hRd hb22
          clear hK K
          try simp only [Act.put, List.setIfInBounds_toArray, List.set_cons_zero, List.set_cons_succ]
          refine' wpAnyH_take (i := 8) (v := .tuple #[.agg (idVals S), .int .i64 0]) rfl (by kernel_rfl) (by kernel_rfl) (by kernel_rfl) (fun _ _ _ h => h) (Or.inl ⟨by rfl, fun w' hw' => by go_simp⟩) hHeld ?_
          try simp only [Act.put, List.setIfInBounds_toArray, List.set_cons_zero, List.set_cons_succ]
          refine' wpAnyH_take (i := 9) (v := .agg (idVals S)) rfl (by kernel_rfl) (by kernel_rfl) (by kernel_rfl) (fun _ _ _ h => h) (Or.inl ⟨by rfl, fun w' hw' => by go_simp⟩) hHeld ?_
          try simp only [Act.put, List.setIfInBounds_toArray, List.set_cons_zero, List.set_cons_succ]
          refine' wpAnyH_take (i := 10) (v := .int .i64 0) rfl (by kernel_rfl) (by kernel_rfl) (by kernel_rfl) (fun _ _ _ h => h) (Or.inl ⟨by rfl, fun w' hw' => by go_simp⟩) hHeld ?_
          try simp only [Act.put, List.setIfInBounds_toArray, List.set_cons_zero, List.set_cons_succ]
          refine wpAnyH_ready (rs := [12]) (by kernel_rfl) (by simp) ?_
          refine AllReadyH.cons rfl (fun K hK => ?_) AllReadyH.nil
          rw [if_pos (by rfl)]
          refine wp_store_blk 24 _ _ rfl _ _ (idVals S) 24 hBlk rfl rfl (by rw [idVals_size, HSL.out]; exact sizeId) (by rw [idVals_size, HSL.out]; rfl) (idVals_one _) ?_
          intro w8 hb8 hg8
          refine hK.out _ _ (hHeld.2.2.far hg8 hq).all (fun hHeld => ?_)
          clear hK K hg8 hBlk
          try simp only [Act.put, List.setIfInBounds_toArray, List.set_cons_zero, List.set_cons_succ]
          refine' wpAnyH_take (i := 13) (v := .int .i64 0) rfl (by kernel_rfl) (by kernel_rfl) (by kernel_rfl) (fun _ _ _ h => h) (Or.inl ⟨by rfl, fun w' hw' => by go_simp⟩) hHeld ?_
          try simp only [Act.put, List.setIfInBounds_toArray, List.set_cons_zero, List.set_cons_succ]
          refine wpAnyH_done (by kernel_rfl) ?_ _
          have hrg := range_blk hb8
          obtain ⟨old, hC, hCs⟩ := hHeld.2.2.hC
          have hBw := hHeld.2.2.hB
          go_wp2_with (first
            | (with_reducible refine wpList_load_if (by with_unfolding_all rfl) 24 _ rfl _ _ rfl (S.map u8v) _ hrg hu (by with_unfolding_all rfl) hzS ?_)
            | (with_reducible refine wpList_store_blk rfl 24 _ _ rfl (w.heap.size + 1 + 1) old (S.map u8v).toArray 24 hC rfl rfl hc2 (hCs.trans hc3.symm) h1S ?_))
          intro w9 hb9 hg9
          go_wp2
          refine bodyPost_ret (results_cell_row rfl _ _ _ _ _ _ _ rfl hb9 Tryz.underlying24 rfl hc2) rfl ⟨rfl, ?_⟩
          exact hBw.grown hg9 hBw.size (by intro i e; cases e; omega)
        exact AllReadyH.nil
      exact AllReadyH.nil
    refine AllReadyH.cons rfl (fun K hK => ?_) ?_
    · go_simp
      have hA := (Below.refl W19.heap.size W19).alloc (Nat.le_refl _) (.cells #[.string (txt a), .string (txt b)] 9)
      have hRd := rd_two W19 a b
      have hS := (hHeld.2.2.below hA).all
      replace hBlk := hBlk.below hA
      generalize W19.alloc (.cells #[.string (txt a), .string (txt b)] 9) = W23 at *
      refine hK.out _ _ hS (fun hHeld => ?_)
      clear hA hS
      clear hK K
      try simp only [Act.put, List.setIfInBounds_toArray, List.set_cons_zero, List.set_cons_succ]
      refine wpAnyH_ready (rs := [1]) (by kernel_rfl) (by simp) ?_
      refine AllReadyH.cons rfl (fun K hK => ?_) ?_
      · go_simp
        (with_reducible refine (cC _).mono ?_)
        rintro e24 w24 ⟨rfl, rfl⟩
        refine hK.out _ _ hHeld (fun hHeld => ?_)
        clear hK K
        try simp only [Act.put, List.setIfInBounds_toArray, List.set_cons_zero, List.set_cons_succ]
        refine wpAnyH_ready (rs := [7]) (by kernel_rfl) (by simp) ?_
        refine AllReadyH.cons rfl (fun K hK => ?_) ?_
        · go_simp
          (with_reducible refine (cOf _ _ _ hRd).mono ?_)
          rintro e25 W25 ⟨rfl, hb25⟩
          replace hBlk := hBlk.below hb25
          refine hK.out _ _ (hHeld.2.2.below hb25).all (fun hHeld => ?_)
          clear hRd hb25
          clear hK K
          try simp only [Act.put, List.setIfInBounds_toArray, List.set_cons_zero, List.set_cons_succ]
          refine' wpAnyH_take (i := 8) (v := .tuple #[.agg (idVals S), .int .i64 0]) rfl (by kernel_rfl) (by kernel_rfl) (by kernel_rfl) (fun _ _ _ h => h) (Or.inl ⟨by rfl, fun w' hw' => by go_simp⟩) hHeld ?_
          try simp only [Act.put, List.setIfInBounds_toArray, List.set_cons_zero, List.set_cons_succ]
          refine' wpAnyH_take (i := 9) (v := .agg (idVals S)) rfl (by kernel_rfl) (by kernel_rfl) (by kernel_rfl) (fun _ _ _ h => h) (Or.inl ⟨by rfl, fun w' hw' => by go_simp⟩) hHeld ?_
          try simp only [Act.put, List.setIfInBounds_toArray, List.set_cons_zero, List.set_cons_succ]
          refine' wpAnyH_take (i := 10) (v := .int .i64 0) rfl (by kernel_rfl) (by kernel_rfl) (by kernel_rfl) (fun _ _ _ h => h) (Or.inl ⟨by rfl, fun w' hw' => by go_simp⟩) hHeld ?_
          try simp only [Act.put, List.setIfInBounds_toArray, List.set_cons_zero, List.set_cons_succ]
          refine wpAnyH_ready (rs := [12]) (by kernel_rfl) (by simp) ?_
          refine AllReadyH.cons rfl (fun K hK => ?_) AllReadyH.nil
          rw [if_pos (by rfl)]
          refine wp_store_blk 24 _ _ rfl _ _ (idVals S) 24 hBlk rfl rfl (by rw [idVals_size, HSL.out]; exact sizeId) (by rw [idVals_size, HSL.out]; rfl) (idVals_one _) ?_
          intro w8 hb8 hg8
          refine hK.out _ _ (hHeld.2.2.far hg8 hq).all (fun hHeld => ?_)
          clear hK K hg8 hBlk
          try simp only [Act.put, List.setIfInBounds_toArray, List.set_cons_zero, List.set_cons_succ]
          refine' wpAnyH_take (i := 13) (v := .int .i64 0) rfl (by kernel_rfl) (by kernel_rfl) (by kernel_rfl) (fun _ _ _ h => h) (Or.inl ⟨by rfl, fun w' hw' => by go_simp⟩) hHeld ?_
          try simp only [Act.put, List.setIfInBounds_toArray, List.set_cons_zero, List.set_cons_succ]
          refine wpAnyH_done (by kernel_rfl) ?_ _
          have hrg := range_blk hb8
          obtain ⟨old, hC, hCs⟩ := hHeld.2.2.hC
          have hBw := hHeld.2.2.hB
          go_wp2_with (first
            | (with_reducible refine wpList_load_if (by with_unfolding_all rfl) 24 _ rfl _ _ rfl (S.map u8v) _ hrg hu (by with_unfolding_all rfl) hzS ?_)
            | (with_reducible refine wpList_store_blk rfl 24 _ _ rfl (w.heap.size + 1 + 1) old (S.map u8v).toArray 24 hC rfl rfl hc2 (hCs.trans hc3.symm) h1S ?_))
          intro w9 hb9 hg9
          go_wp2
          refine bodyPost_ret (results_cell_row rfl _ _ _ _ _ _ _ rfl hb9 Tryz.underlying24 rfl hc2) rfl ⟨rfl, ?_⟩
          exact hBw.grown hg9 hBw.size (by intro i e; cases e; omega)
        exact AllReadyH.nil
      exact AllReadyH.nil
    exact AllReadyH.nil
  exact AllReadyH.nil
end Go.Proofs.YticpdepbgcagaaaGreat

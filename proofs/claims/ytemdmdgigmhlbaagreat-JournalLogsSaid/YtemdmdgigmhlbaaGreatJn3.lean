
/- journal: the document's chain behind a frame, and a frame's error. -/
import Derived.Test.YtemdmdgigmhlbaaGreatJn2
set_option linter.unusedSimpArgs false
set_option linter.unusedVariables false
namespace Go.Proofs.YtemdmdgigmhlbaaGreat
open Go.RowKit Go.Qc Go.Shelf
attribute [local go_sem] txt_size txt_append ib_fold
theorem byte_textB (W : World) (g : Nat) (x : UInt8) (h : Blk W g 5 #[.int .u8 (ib x)]) : (convert 56 9 (.slice (some ⟨g, 0, none⟩) 1 1)).run Tryz.prog W = .ok (.string (txt [x])) W :=
  run_txt (P := Tryz.prog) _ 56 9 5 _ 1 1 [x] Tryz.underlying56 Tryz.underlying5 Tryz.underlying9 rfl (Rd.blk h (by
    intro j u h
    rw [List.getElem?_toArray]; exact h))
set_option maxRecDepth 100000 in
set_option maxHeartbeats 4000000 in
theorem rwrong_any (k : Int) (p : List UInt8) (hp : p.length ≤ 5000) (w : World) :
    Calls Tryz.prog 9 #[.agg #[.int .i64 k, .string (txt p)]] w fun e w' => e = .returned (.int .i64 (wrgF ⟨k, p⟩)) ∧ Below w.heap.size w w' := by
  have hb := (Below.refl w.heap.size w).alloc (Nat.le_refl _) (.cells #[.int .i64 k, .string (txt p)] 36)
  have z3 : ¬ ((4194304 : Int) < (p.length : Int)) := by omega
  have z4 : ¬ (4194304 < p.length) := by omega
  unfold wrgF
  by_cases h : k < 1 ∨ 255 < k
  · rw [if_pos h]
    go_enter Tryz.func9, Tryz.ntmps9
    rcases (Classical.em (k < 1)) with h1 | h1
    · go_wp2
      go_ret
      exact ⟨rfl, hb⟩
    · have h2 : 255 < k := by omega
      go_wp2
      go_ret
      exact ⟨rfl, hb⟩
  · rw [if_neg h]
    have h1 : ¬ k < 1 := by omega
    have h2 : ¬ 255 < k := by omega
    go_enter Tryz.func9, Tryz.ntmps9
    go_wp2
    go_ret
    exact ⟨rfl, hb⟩
set_option maxRecDepth 100000 in
set_option maxHeartbeats 8000000 in
theorem rnext_ok (a : List UInt8) (ha : a.length = 32) (n : Nat) (hn1 : 1 ≤ n) (hn2 : n ≤ 255) (p : List UInt8) (hp : p.length ≤ 5000) (w : World) :
    Calls Tryz.prog 29 #[.agg (idVals a), .agg #[.int .i64 (n : Int), .string (txt p)]] w fun e w' => e = .returned (.agg (idVals (nxtB a ⟨n, p⟩))) ∧ Below w.heap.size w w' := by
  have hSl := nxtB_length a ⟨n, p⟩
  obtain ⟨x, hx⟩ : ∃ x, x = kB ⟨n, p⟩ := ⟨_, rfl⟩
  have hxn : (n : Int) = ib x := by rw [hx]; exact ib_of_nat n (by omega)
  have cT : ∀ W A c, Rd W A ([a, [x], p].map strV) → Calls Tryz.prog 40 #[.string ⟨#[102, 114, 97, 109, 101]⟩, .slice A 3 c] W fun e w' => e = .returned (.agg (idVals (nxtB a ⟨n, p⟩))) ∧ Below W.heap.size W w' := fun W A c h => by
    unfold nxtB
    rw [← hx]
    exact rof_any frmN (by decide) A 3 c [a, [x], p] rfl (textB_frm _ _ _ ha rfl hp) W h
  have cB : ∀ W, Calls Tryz.prog 48 #[.agg (List.map u8v a).toArray] W fun e w' => e = .returned (.string (txt a)) ∧ Below W.heap.size W w' := fun W => rid_any a ha W
  generalize nxtB a ⟨n, p⟩ = S at *
  have HSL := hid hSl
  have hwx : IntKind.u8.wrap (n : Int) = ib x := by rw [← hxn]; unfold IntKind.wrap; simp [IntKind.bits, IntKind.signed]; omega
  have hI : (Tryz.prog.info? 42).map (·.size) = some (idVals S).size := by rw [idVals_size, HSL.out]; exact sizeId
  have hLa : (Tryz.prog.info? 42).map (·.size) = some (a.map u8v).length := by rw [List.length_map, ha]; exact sizeId
  have hu := Tryz.underlying42
  have h1c := idVals_one S
  clear hSl hx hxn
  go_enter Tryz.func29, Tryz.ntmps29
  go_upto_region 1 with (fail)
  rw [← zeroB_vals]
  obtain ⟨zc, hzc, hZ⟩ : ∃ zc : Array Value, zc.size = 32 ∧ zc = idVals zeroB := ⟨_, by rw [idVals_size]; decide, rfl⟩
  rw [← hZ]
  clear hZ
  have hS := nx_start w 36 a n p zc
  generalize ((w.alloc (.cells (idVals a) 42)).alloc (.cells #[.int .i64 (n : Int), .string (txt p)] 36)).alloc (.cells zc 42) = W at *
  have HZC := hid hzc
  clear hzc
  refine wp_region_held_drew (S := NxH w 36 a (n : Int) p) (by kernel_rfl) ?_ (fun hHeld => ?_)
  · exact (hS.held HZC.out).below (below_drew1 W)
  clear hS
  generalize W.drew = V at *
  refine' wpAnyH_take (i := 0) (v := .agg (List.map u8v a).toArray) rfl (by kernel_rfl) (by kernel_rfl) (by kernel_rfl) (fun _ _ _ h => h) (yieldsIf_load_mid (by rfl) 42 _ rfl _ 0 rfl (a.map u8v) _ (fun w' hw' => range_blk hw'.ba) hu rfl hLa) hHeld ?_
  try simp only [Act.put, List.getElem_toArray, List.getElem_cons_succ, List.getElem_cons_zero, List.setIfInBounds_toArray, List.set_cons_zero, List.set_cons_succ]
  refine' wpAnyH_take (i := 2) (v := .pointer (some ⟨w.heap.size + 1, 0, none⟩)) rfl (by kernel_rfl) (by kernel_rfl) (by kernel_rfl) (fun _ _ _ h => h) (Or.inl ⟨by rfl, fun w' hw' => by go_simp⟩) hHeld ?_
  try simp only [Act.put, List.getElem_toArray, List.getElem_cons_succ, List.getElem_cons_zero, List.setIfInBounds_toArray, List.set_cons_zero, List.set_cons_succ]
  refine' wpAnyH_take (i := 3) (v := .int .i64 (n : Int)) rfl (by kernel_rfl) (by kernel_rfl) (by kernel_rfl) (fun _ _ _ h => h) (Or.inl ⟨by rfl, fun w' hw' => by have q0 : w'.cell? ⟨w.heap.size + 1, 0, none⟩ = some (.int .i64 (n : Int)) := hw'.bf.cell_ rfl; have q1 : w'.cell? ⟨w.heap.size + 1, 1, none⟩ = some (.string (txt p)) := hw'.bf.cell_ rfl; go_simp⟩) hHeld ?_
  try simp only [Act.put, List.getElem_toArray, List.getElem_cons_succ, List.getElem_cons_zero, List.setIfInBounds_toArray, List.set_cons_zero, List.set_cons_succ]
  refine' wpAnyH_take (i := 4) (v := .int .u8 (ib x)) rfl (by kernel_rfl) (by kernel_rfl) (by kernel_rfl) (fun _ _ _ h => h) (Or.inl ⟨by rfl, fun w' hw' => by have q2 := hwx; go_simp⟩) hHeld ?_
  try simp only [Act.put, List.getElem_toArray, List.getElem_cons_succ, List.getElem_cons_zero, List.setIfInBounds_toArray, List.set_cons_zero, List.set_cons_succ]
  refine' wpAnyH_take (i := 7) (v := .pointer (some ⟨w.heap.size + 1, 1, none⟩)) rfl (by kernel_rfl) (by kernel_rfl) (by kernel_rfl) (fun _ _ _ h => h) (Or.inl ⟨by rfl, fun w' hw' => by go_simp⟩) hHeld ?_
  try simp only [Act.put, List.getElem_toArray, List.getElem_cons_succ, List.getElem_cons_zero, List.setIfInBounds_toArray, List.set_cons_zero, List.set_cons_succ]
  refine' wpAnyH_take (i := 8) (v := .string (txt p)) rfl (by kernel_rfl) (by kernel_rfl) (by kernel_rfl) (fun _ _ _ h => h) (Or.inl ⟨by rfl, fun w' hw' => by have q0 : w'.cell? ⟨w.heap.size + 1, 0, none⟩ = some (.int .i64 (n : Int)) := hw'.bf.cell_ rfl; have q1 : w'.cell? ⟨w.heap.size + 1, 1, none⟩ = some (.string (txt p)) := hw'.bf.cell_ rfl; go_simp⟩) hHeld ?_
  try simp only [Act.put, List.getElem_toArray, List.getElem_cons_succ, List.getElem_cons_zero, List.setIfInBounds_toArray, List.set_cons_zero, List.set_cons_succ]
  refine wpAnyH_ready (rs := [1, 5]) (by kernel_rfl) (by simp) ?_
  refine AllReadyH.cons rfl (fun K hK => ?_) (AllReadyH.cons rfl (fun K hK => ?_) AllReadyH.nil)
  · as_aux_lemma =>
      go_simp
      (with_reducible refine (cB _).mono ?_)
      rintro e1 w1 ⟨rfl, hb1⟩
      refine hK.out _ _ (hHeld.below hb1) (fun hHeld => ?_)
      clear hK K
      try simp only [Act.put, List.getElem_toArray, List.getElem_cons_succ, List.getElem_cons_zero, List.setIfInBounds_toArray, List.set_cons_zero, List.set_cons_succ]
      refine wpAnyH_ready (rs := [5]) (by kernel_rfl) (by simp) ?_
      refine AllReadyH.cons rfl (fun K hK => ?_) AllReadyH.nil
      have hal := (Below.refl w1.heap.size w1).alloc (Nat.le_refl _) (.cells #[.int .u8 (ib x)] 5)
      have hbk := Blk.new w1 5 #[.int .u8 (ib x)]
      go_simp
      refine hK.out _ _ (hHeld.below hal) (fun hHeld => ?_)
      clear hK K
      try simp only [Act.put, List.getElem_toArray, List.getElem_cons_succ, List.getElem_cons_zero, List.setIfInBounds_toArray, List.set_cons_zero, List.set_cons_succ]
      generalize w1.heap.size = gx at *
      generalize w1.alloc (.cells #[.int .u8 (ib x)] 5) = Vx at *
      clear hal
      refine wpAnyH_ready (rs := [6]) (by kernel_rfl) (by simp) ?_
      refine AllReadyH.cons rfl (fun K hK => ?_) AllReadyH.nil
      have hbt := byte_textB Vx gx x hbk
      go_simp
      refine hK.out _ _ hHeld (fun hHeld => ?_)
      clear hK K hbt hbk
      try simp only [Act.put, List.getElem_toArray, List.getElem_cons_succ, List.getElem_cons_zero, List.setIfInBounds_toArray, List.set_cons_zero, List.set_cons_succ]
      refine wpAnyH_ready (rs := [9]) (by kernel_rfl) (by simp) ?_
      refine AllReadyH.cons rfl (fun K hK => ?_) AllReadyH.nil
      have hal := (Below.refl Vx.heap.size Vx).alloc (Nat.le_refl _) (.cells #[.string (txt a), .string (txt [x]), .string (txt p)] 9)
      have hRd := rd_threeJ Vx a [x] p
      go_simp
      refine hK.out _ _ (hHeld.below hal) (fun hHeld => ?_)
      clear hK K
      try simp only [Act.put, List.getElem_toArray, List.getElem_cons_succ, List.getElem_cons_zero, List.setIfInBounds_toArray, List.set_cons_zero, List.set_cons_succ]
      refine wpAnyH_ready (rs := [10]) (by kernel_rfl) (by simp) ?_
      refine AllReadyH.cons rfl (fun K hK => ?_) AllReadyH.nil
      go_simp
      (with_reducible refine (cT _ _ _ hRd).mono ?_)
      rintro e5 w5 ⟨rfl, hb5⟩
      refine hK.out _ _ (hHeld.below hb5) (fun hHeld => ?_)
      clear hK K
      try simp only [Act.put, List.getElem_toArray, List.getElem_cons_succ, List.getElem_cons_zero, List.setIfInBounds_toArray, List.set_cons_zero, List.set_cons_succ]
      refine wpAnyH_ready (rs := [11]) (by kernel_rfl) (by simp) ?_
      refine AllReadyH.cons rfl (fun K hK => ?_) AllReadyH.nil
      obtain ⟨cs9, hc9, hz9⟩ := hHeld.bz
      refine wp_store_blk 42 _ _ rfl (w.heap.size + 1 + 1) _ (idVals S) 42 hz9 rfl rfl hI (hc9.trans (HSL.out.symm.trans (idVals_size S).symm)) h1c ?_
      intro w7 hb7 hg7
      refine hK.out _ _ (hHeld.put hg7 ((idVals_size S).trans HSL.out) hb7) (fun hHeld => ?_)
      clear hK K
      try simp only [Act.put, List.getElem_toArray, List.getElem_cons_succ, List.getElem_cons_zero, List.setIfInBounds_toArray, List.set_cons_zero, List.set_cons_succ]
      refine wpAnyH_done (by kernel_rfl) ?_ _
      go_wp2
      refine bodyPost_ret (results_cell_row rfl _ _ _ _ _ _ _ rfl hb7 Tryz.underlying42 rfl hI) rfl ⟨rfl, hHeld.hb⟩
  · as_aux_lemma =>
      have hal := (Below.refl V.heap.size V).alloc (Nat.le_refl _) (.cells #[.int .u8 (ib x)] 5)
      have hbk := Blk.new V 5 #[.int .u8 (ib x)]
      go_simp
      refine hK.out _ _ (hHeld.below hal) (fun hHeld => ?_)
      clear hK K
      try simp only [Act.put, List.getElem_toArray, List.getElem_cons_succ, List.getElem_cons_zero, List.setIfInBounds_toArray, List.set_cons_zero, List.set_cons_succ]
      generalize V.heap.size = gx at *
      generalize V.alloc (.cells #[.int .u8 (ib x)] 5) = Vx at *
      clear hal
      refine wpAnyH_ready (rs := [1, 6]) (by kernel_rfl) (by simp) ?_
      refine AllReadyH.cons rfl (fun K hK => ?_) (AllReadyH.cons rfl (fun K hK => ?_) AllReadyH.nil)
      · as_aux_lemma =>
          go_simp
          (with_reducible refine (cB _).mono ?_)
          rintro e1 w1 ⟨rfl, hb1⟩
          replace hbk := hbk.below hb1
          refine hK.out _ _ (hHeld.below hb1) (fun hHeld => ?_)
          clear hK K
          try simp only [Act.put, List.getElem_toArray, List.getElem_cons_succ, List.getElem_cons_zero, List.setIfInBounds_toArray, List.set_cons_zero, List.set_cons_succ]
          refine wpAnyH_ready (rs := [6]) (by kernel_rfl) (by simp) ?_
          refine AllReadyH.cons rfl (fun K hK => ?_) AllReadyH.nil
          have hbt := byte_textB w1 gx x hbk
          go_simp
          refine hK.out _ _ hHeld (fun hHeld => ?_)
          clear hK K hbt hbk
          try simp only [Act.put, List.getElem_toArray, List.getElem_cons_succ, List.getElem_cons_zero, List.setIfInBounds_toArray, List.set_cons_zero, List.set_cons_succ]
          refine wpAnyH_ready (rs := [9]) (by kernel_rfl) (by simp) ?_
          refine AllReadyH.cons rfl (fun K hK => ?_) AllReadyH.nil
          have hal := (Below.refl w1.heap.size w1).alloc (Nat.le_refl _) (.cells #[.string (txt a), .string (txt [x]), .string (txt p)] 9)
          have hRd := rd_threeJ w1 a [x] p
          go_simp
          refine hK.out _ _ (hHeld.below hal) (fun hHeld => ?_)
          clear hK K
          try simp only [Act.put, List.getElem_toArray, List.getElem_cons_succ, List.getElem_cons_zero, List.setIfInBounds_toArray, List.set_cons_zero, List.set_cons_succ]
          refine wpAnyH_ready (rs := [10]) (by kernel_rfl) (by simp) ?_
          refine AllReadyH.cons rfl (fun K hK => ?_) AllReadyH.nil
          go_simp
          (with_reducible refine (cT _ _ _ hRd).mono ?_)
          rintro e5 w5 ⟨rfl, hb5⟩
          refine hK.out _ _ (hHeld.below hb5) (fun hHeld => ?_)
          clear hK K
          try simp only [Act.put, List.getElem_toArray, List.getElem_cons_succ, List.getElem_cons_zero, List.setIfInBounds_toArray, List.set_cons_zero, List.set_cons_succ]
          refine wpAnyH_ready (rs := [11]) (by kernel_rfl) (by simp) ?_
          refine AllReadyH.cons rfl (fun K hK => ?_) AllReadyH.nil
          obtain ⟨cs9, hc9, hz9⟩ := hHeld.bz
          refine wp_store_blk 42 _ _ rfl (w.heap.size + 1 + 1) _ (idVals S) 42 hz9 rfl rfl hI (hc9.trans (HSL.out.symm.trans (idVals_size S).symm)) h1c ?_
          intro w7 hb7 hg7
          refine hK.out _ _ (hHeld.put hg7 ((idVals_size S).trans HSL.out) hb7) (fun hHeld => ?_)
          clear hK K
          try simp only [Act.put, List.getElem_toArray, List.getElem_cons_succ, List.getElem_cons_zero, List.setIfInBounds_toArray, List.set_cons_zero, List.set_cons_succ]
          refine wpAnyH_done (by kernel_rfl) ?_ _
          go_wp2
          refine bodyPost_ret (results_cell_row rfl _ _ _ _ _ _ _ rfl hb7 Tryz.underlying42 rfl hI) rfl ⟨rfl, hHeld.hb⟩
      · as_aux_lemma =>
          have hbt := byte_textB Vx gx x hbk
          go_simp
          refine hK.out _ _ hHeld (fun hHeld => ?_)
          clear hK K hbt hbk
          try simp only [Act.put, List.getElem_toArray, List.getElem_cons_succ, List.getElem_cons_zero, List.setIfInBounds_toArray, List.set_cons_zero, List.set_cons_succ]
          refine wpAnyH_ready (rs := [1]) (by kernel_rfl) (by simp) ?_
          refine AllReadyH.cons rfl (fun K hK => ?_) AllReadyH.nil
          go_simp
          (with_reducible refine (cB _).mono ?_)
          rintro e1 w1 ⟨rfl, hb1⟩
          refine hK.out _ _ (hHeld.below hb1) (fun hHeld => ?_)
          clear hK K
          try simp only [Act.put, List.getElem_toArray, List.getElem_cons_succ, List.getElem_cons_zero, List.setIfInBounds_toArray, List.set_cons_zero, List.set_cons_succ]
          refine wpAnyH_ready (rs := [9]) (by kernel_rfl) (by simp) ?_
          refine AllReadyH.cons rfl (fun K hK => ?_) AllReadyH.nil
          have hal := (Below.refl w1.heap.size w1).alloc (Nat.le_refl _) (.cells #[.string (txt a), .string (txt [x]), .string (txt p)] 9)
          have hRd := rd_threeJ w1 a [x] p
          go_simp
          refine hK.out _ _ (hHeld.below hal) (fun hHeld => ?_)
          clear hK K
          try simp only [Act.put, List.getElem_toArray, List.getElem_cons_succ, List.getElem_cons_zero, List.setIfInBounds_toArray, List.set_cons_zero, List.set_cons_succ]
          refine wpAnyH_ready (rs := [10]) (by kernel_rfl) (by simp) ?_
          refine AllReadyH.cons rfl (fun K hK => ?_) AllReadyH.nil
          go_simp
          (with_reducible refine (cT _ _ _ hRd).mono ?_)
          rintro e5 w5 ⟨rfl, hb5⟩
          refine hK.out _ _ (hHeld.below hb5) (fun hHeld => ?_)
          clear hK K
          try simp only [Act.put, List.getElem_toArray, List.getElem_cons_succ, List.getElem_cons_zero, List.setIfInBounds_toArray, List.set_cons_zero, List.set_cons_succ]
          refine wpAnyH_ready (rs := [11]) (by kernel_rfl) (by simp) ?_
          refine AllReadyH.cons rfl (fun K hK => ?_) AllReadyH.nil
          obtain ⟨cs9, hc9, hz9⟩ := hHeld.bz
          refine wp_store_blk 42 _ _ rfl (w.heap.size + 1 + 1) _ (idVals S) 42 hz9 rfl rfl hI (hc9.trans (HSL.out.symm.trans (idVals_size S).symm)) h1c ?_
          intro w7 hb7 hg7
          refine hK.out _ _ (hHeld.put hg7 ((idVals_size S).trans HSL.out) hb7) (fun hHeld => ?_)
          clear hK K
          try simp only [Act.put, List.getElem_toArray, List.getElem_cons_succ, List.getElem_cons_zero, List.setIfInBounds_toArray, List.set_cons_zero, List.set_cons_succ]
          refine wpAnyH_done (by kernel_rfl) ?_ _
          go_wp2
          refine bodyPost_ret (results_cell_row rfl _ _ _ _ _ _ _ rfl hb7 Tryz.underlying42 rfl hI) rfl ⟨rfl, hHeld.hb⟩
end Go.Proofs.YtemdmdgigmhlbaaGreat

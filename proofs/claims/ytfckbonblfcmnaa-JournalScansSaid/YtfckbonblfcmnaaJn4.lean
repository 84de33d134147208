/- journal: the document's chain behind a frame, and a frame's error. -/
import Derived.Test.YtfckbonblfcmnaaJn2
set_option linter.unusedSimpArgs false
set_option linter.unusedVariables false
namespace Go.Proofs.Ytfckbonblfcmnaa
open Go.RowKit Go.Qc Go.Shelf
attribute [local go_sem] txt_size txt_append ib_fold
theorem byte_textB (W : World) (g : Nat) (x : UInt8) (h : Blk W g 5 #[.int .u8 (ib x)]) : (convert 51 9 (.slice (some ⟨g, 0, none⟩) 1 1)).run Try.prog W = .ok (.string (txt [x])) W :=
  run_txt (P := Try.prog) _ 51 9 5 _ 1 1 [x] Try.underlying51 Try.underlying5 Try.underlying9 rfl (Rd.blk h (by
    intro j u h
    rw [List.getElem?_toArray]; exact h))
set_option maxRecDepth 100000 in
set_option maxHeartbeats 8000000 in
theorem rnext_ok (a : List UInt8) (ha : a.length = 32) (n : Nat) (hn1 : 1 ≤ n) (hn2 : n ≤ 255) (p : List UInt8) (hp : p.length ≤ 5000) (w : World) :
    Calls Try.prog 10 #[.agg (idVals a), .agg #[.int .i64 (n : Int), .string (txt p)]] w fun e w' => e = .returned (.agg (idVals (nxtB a ⟨n, p⟩))) ∧ Below w.heap.size w w' := by
  have hSl := nxtB_length a ⟨n, p⟩
  obtain ⟨x, hx⟩ : ∃ x, x = kB ⟨n, p⟩ := ⟨_, rfl⟩
  have hxn : (n : Int) = ib x := by rw [hx]; exact ib_of_nat n (by omega)
  have cT : ∀ W A c, Rd W A ([a, [x], p].map strV) → Calls Try.prog 21 #[.string ⟨#[102, 114, 97, 109, 101]⟩, .slice A 3 c] W fun e w' => e = .returned (.agg (idVals (nxtB a ⟨n, p⟩))) ∧ Below W.heap.size W w' := fun W A c h => by
    unfold nxtB
    rw [← hx]
    exact rof_any frmN (by decide) A 3 c [a, [x], p] rfl (textB_frm _ _ _ ha rfl hp) W h
  have cB : ∀ W, Calls Try.prog 22 #[.agg (List.map u8v a).toArray] W fun e w' => e = .returned (.string (txt a)) ∧ Below W.heap.size W w' := fun W => rid_any a ha W
  generalize nxtB a ⟨n, p⟩ = S at *
  have HSL := hid hSl
  have hwx : IntKind.u8.wrap (n : Int) = ib x := by rw [← hxn]; unfold IntKind.wrap; simp [IntKind.bits, IntKind.signed]; omega
  have hI : (Try.prog.info? 23).map (·.size) = some (idVals S).size := by rw [idVals_size, HSL.out]; exact sizeId
  have hLa : (Try.prog.info? 23).map (·.size) = some (a.map u8v).length := by rw [List.length_map, ha]; exact sizeId
  have hu := Try.underlying23
  have h1c := idVals_one S
  clear hSl hx hxn
  go_enter Try.func10, Try.ntmps10
  go_upto_region 1 with (fail)
  rw [← zeroB_vals]
  obtain ⟨zc, hzc, hZ⟩ : ∃ zc : Array Value, zc.size = 32 ∧ zc = idVals zeroB := ⟨_, by rw [idVals_size]; decide, rfl⟩
  rw [← hZ]
  clear hZ
  have hS := nx_start w 37 a n p zc
  generalize ((w.alloc (.cells (idVals a) 23)).alloc (.cells #[.int .i64 (n : Int), .string (txt p)] 37)).alloc (.cells zc 23) = W at *
  have HZC := hid hzc
  clear hzc
  refine wp_region_held_drew (S := NxH w 37 a (n : Int) p) (by kernel_rfl) ?_ (fun hHeld => ?_)
  · exact (hS.held HZC.out).below (below_drew1 W)
  clear hS
  generalize W.drew = V at *
  refine' wpAnyH_take (i := 0) (v := .agg (List.map u8v a).toArray) rfl (by kernel_rfl) (by kernel_rfl) (by kernel_rfl) (fun _ _ _ h => h) (yieldsIf_load_mid (by rfl) 23 _ rfl _ 0 rfl (a.map u8v) _ (fun w' hw' => range_blk hw'.ba) hu rfl hLa) hHeld ?_
  try simp only [Act.put, List.getElem_toArray, List.getElem_cons_succ, List.getElem_cons_zero, List.setIfInBounds_toArray, List.set_cons_zero, List.set_cons_succ]
  refine' wpAnyH_take (i := 2) (v := .pointer (some ⟨w.heap.size + 1, 0, none⟩)) rfl (by kernel_rfl) (by kernel_rfl) (by kernel_rfl) (fun _ _ _ h => h) (Or.inl ⟨by rfl, fun w' hw' => by go_simp⟩) hHeld ?_
  try simp only [Act.put, List.getElem_toArray, List.getElem_cons_succ, List.getElem_cons_zero, List.setIfInBounds_toArray, List.set_cons_zero, List.set_cons_succ]
  refine' wpAnyH_take (i := 3) (v := .int .i64 (n : Int)) rfl (by kernel_rfl) (by kernel_rfl) (by kernel_rfl) (fun _ _ _ h => h) (Or.inl ⟨by rfl, fun w' hw' => by have q0 : w'.cell? ⟨w.heap.size + 1, 0, none⟩ = some (.int .i64 (n : Int)) := hw'.bf.cell_ rfl; have q1 : w'.cell? ⟨w.heap.size + 1, 1, none⟩ = some (.string (txt p)) := hw'.bf.cell_ rfl; go_simp⟩) hHeld ?_
  try simp only [Act.put, List.getElem_toArray, List.getElem_cons_succ, List.getElem_cons_zero, List.setIfInBounds_toArray, List.set_cons_zero, List.set_cons_succ]
  refine' wpAnyH_take (i := 4) (v := .int .u8 (ib x)) rfl (by kernel_rfl) (by kernel_rfl) (by kernel_rfl) (fun _ _ _ h => h) (Or.inl ⟨by rfl, fun w' hw' => by have q2 := hwx; go_simp⟩) hHeld ?_
  try simp only [Act.put, List.getElem_toArray, List.getElem_cons_succ, List.getElem_cons_zero, List.setIfInBounds_toArray, List.set_cons_zero, List.set_cons_succ]
  refine' wpAnyH_take (i := 7) (v := .pointer (some ⟨w.heap.size + 1, 1, none⟩)) rfl (by kernel_rfl) (by kernel_rfl) (by kernel_rfl) (fun _ _ _ h => h) (Or.inl ⟨by rfl, fun w' hw' => by go_simp⟩) hHeld ?_
  try simp only [Act.put, List.getElem_toArray, List.getElem_cons_succ, List.getElem_cons_zero, List.setIfInBounds_toArray, List.set_cons_zero, List.set_cons_succ]
  refine' wpAnyH_take (i := 8) (v := .string (txt p)) rfl (by kernel_rfl) (by kernel_rfl) (by kernel_rfl) (fun _ _ _ h => h) (Or.inl ⟨by rfl, fun w' hw' => by have q0 : w'.cell? ⟨w.heap.size + 1, 0, none⟩ = some (.int .i64 (n : Int)) := hw'.bf.cell_ rfl; have q1 : w'.cell? ⟨w.heap.size + 1, 1, none⟩ = some (.string (txt p)) := hw'.bf.cell_ rfl; go_simp⟩) hHeld ?_
  try simp only [Act.put, List.getElem_toArray, List.getElem_cons_succ, List.getElem_cons_zero, List.setIfInBounds_toArray, List.set_cons_zero, List.set_cons_succ]
  refine wpAnyH_ready (rs := [1, 5]) (by kernel_rfl) (by simp) ?_
  refine AllReadyH.cons rfl (fun K hK => ?_) (AllReadyH.cons rfl (fun K hK => ?_) AllReadyH.nil)
  · as_aux_lemma =>
      go_simp
      (with_reducible refine (cB _).mono ?_)
      rintro e1 w1 ⟨rfl, hb1⟩
      refine hK.out _ _ (hHeld.below hb1) (fun hHeld => ?_)
      clear hK K
      try simp only [Act.put, List.getElem_toArray, List.getElem_cons_succ, List.getElem_cons_zero, List.setIfInBounds_toArray, List.set_cons_zero, List.set_cons_succ]
      refine wpAnyH_ready (rs := [5]) (by kernel_rfl) (by simp) ?_
      refine AllReadyH.cons rfl (fun K hK => ?_) AllReadyH.nil
      have hal := (Below.refl w1.heap.size w1).alloc (Nat.le_refl _) (.cells #[.int .u8 (ib x)] 5)
      have hbk := Blk.new w1 5 #[.int .u8 (ib x)]
      go_simp
      refine hK.out _ _ (hHeld.below hal) (fun hHeld => ?_)
      clear hK K
      try simp only [Act.put, List.getElem_toArray, List.getElem_cons_succ, List.getElem_cons_zero, List.setIfInBounds_toArray, List.set_cons_zero, List.set_cons_succ]
      generalize w1.heap.size = gx at *
      generalize w1.alloc (.cells #[.int .u8 (ib x)] 5) = Vx at *
      clear hal
      refine wpAnyH_ready (rs := [6]) (by kernel_rfl) (by simp) ?_
      refine AllReadyH.cons rfl (fun K hK => ?_) AllReadyH.nil
      have hbt := byte_textB Vx gx x hbk
      go_simp
      refine hK.out _ _ hHeld (fun hHeld => ?_)
      clear hK K hbt hbk
      try simp only [Act.put, List.getElem_toArray, List.getElem_cons_succ, List.getElem_cons_zero, List.setIfInBounds_toArray, List.set_cons_zero, List.set_cons_succ]
      refine wpAnyH_ready (rs := [9]) (by kernel_rfl) (by simp) ?_
      refine AllReadyH.cons rfl (fun K hK => ?_) AllReadyH.nil
      have hal := (Below.refl Vx.heap.size Vx).alloc (Nat.le_refl _) (.cells #[.string (txt a), .string (txt [x]), .string (txt p)] 9)
      have hRd := rd_threeJ Vx a [x] p
      go_simp
      refine hK.out _ _ (hHeld.below hal) (fun hHeld => ?_)
      clear hK K
      try simp only [Act.put, List.getElem_toArray, List.getElem_cons_succ, List.getElem_cons_zero, List.setIfInBounds_toArray, List.set_cons_zero, List.set_cons_succ]
      refine wpAnyH_ready (rs := [10]) (by kernel_rfl) (by simp) ?_
      refine AllReadyH.cons rfl (fun K hK => ?_) AllReadyH.nil
      go_simp
      (with_reducible refine (cT _ _ _ hRd).mono ?_)
      rintro e5 w5 ⟨rfl, hb5⟩
      refine hK.out _ _ (hHeld.below hb5) (fun hHeld => ?_)
      clear hK K
      try simp only [Act.put, List.getElem_toArray, List.getElem_cons_succ, List.getElem_cons_zero, List.setIfInBounds_toArray, List.set_cons_zero, List.set_cons_succ]
      refine wpAnyH_ready (rs := [11]) (by kernel_rfl) (by simp) ?_
      refine AllReadyH.cons rfl (fun K hK => ?_) AllReadyH.nil
      obtain ⟨cs9, hc9, hz9⟩ := hHeld.bz
      refine wp_store_blk 23 _ _ rfl (w.heap.size + 1 + 1) _ (idVals S) 23 hz9 rfl rfl hI (hc9.trans (HSL.out.symm.trans (idVals_size S).symm)) h1c ?_
      intro w7 hb7 hg7
      refine hK.out _ _ (hHeld.put hg7 ((idVals_size S).trans HSL.out) hb7) (fun hHeld => ?_)
      clear hK K
      try simp only [Act.put, List.getElem_toArray, List.getElem_cons_succ, List.getElem_cons_zero, List.setIfInBounds_toArray, List.set_cons_zero, List.set_cons_succ]
      refine wpAnyH_done (by kernel_rfl) ?_ _
      go_wp2
      refine bodyPost_ret (results_cell_row rfl _ _ _ _ _ _ _ rfl hb7 Try.underlying23 rfl hI) rfl ⟨rfl, hHeld.hb⟩
  · as_aux_lemma =>
      have hal := (Below.refl V.heap.size V).alloc (Nat.le_refl _) (.cells #[.int .u8 (ib x)] 5)
      have hbk := Blk.new V 5 #[.int .u8 (ib x)]
      go_simp
      refine hK.out _ _ (hHeld.below hal) (fun hHeld => ?_)
      clear hK K
      try simp only [Act.put, List.getElem_toArray, List.getElem_cons_succ, List.getElem_cons_zero, List.setIfInBounds_toArray, List.set_cons_zero, List.set_cons_succ]
      generalize V.heap.size = gx at *
      generalize V.alloc (.cells #[.int .u8 (ib x)] 5) = Vx at *
      clear hal
      refine wpAnyH_ready (rs := [1, 6]) (by kernel_rfl) (by simp) ?_
      refine AllReadyH.cons rfl (fun K hK => ?_) (AllReadyH.cons rfl (fun K hK => ?_) AllReadyH.nil)
      · as_aux_lemma =>
          go_simp
          (with_reducible refine (cB _).mono ?_)
          rintro e1 w1 ⟨rfl, hb1⟩
          replace hbk := hbk.below hb1
          refine hK.out _ _ (hHeld.below hb1) (fun hHeld => ?_)
          clear hK K
          try simp only [Act.put, List.getElem_toArray, List.getElem_cons_succ, List.getElem_cons_zero, List.setIfInBounds_toArray, List.set_cons_zero, List.set_cons_succ]
          refine wpAnyH_ready (rs := [6]) (by kernel_rfl) (by simp) ?_
          refine AllReadyH.cons rfl (fun K hK => ?_) AllReadyH.nil
          have hbt := byte_textB w1 gx x hbk
          go_simp
          refine hK.out _ _ hHeld (fun hHeld => ?_)
          clear hK K hbt hbk
          try simp only [Act.put, List.getElem_toArray, List.getElem_cons_succ, List.getElem_cons_zero, List.setIfInBounds_toArray, List.set_cons_zero, List.set_cons_succ]
          refine wpAnyH_ready (rs := [9]) (by kernel_rfl) (by simp) ?_
          refine AllReadyH.cons rfl (fun K hK => ?_) AllReadyH.nil
          have hal := (Below.refl w1.heap.size w1).alloc (Nat.le_refl _) (.cells #[.string (txt a), .string (txt [x]), .string (txt p)] 9)
          have hRd := rd_threeJ w1 a [x] p
          go_simp
          refine hK.out _ _ (hHeld.below hal) (fun hHeld => ?_)
          clear hK K
          try simp only [Act.put, List.getElem_toArray, List.getElem_cons_succ, List.getElem_cons_zero, List.setIfInBounds_toArray, List.set_cons_zero, List.set_cons_succ]
          refine wpAnyH_ready (rs := [10]) (by kernel_rfl) (by simp) ?_
          refine AllReadyH.cons rfl (fun K hK => ?_) AllReadyH.nil
          go_simp
          (with_reducible refine (cT _ _ _ hRd).mono ?_)
          rintro e5 w5 ⟨rfl, hb5⟩
          refine hK.out _ _ (hHeld.below hb5) (fun hHeld => ?_)
          clear hK K
          try simp only [Act.put, List.getElem_toArray, List.getElem_cons_succ, List.getElem_cons_zero, List.setIfInBounds_toArray, List.set_cons_zero, List.set_cons_succ]
          refine wpAnyH_ready (rs := [11]) (by kernel_rfl) (by simp) ?_
          refine AllReadyH.cons rfl (fun K hK => ?_) AllReadyH.nil
          obtain ⟨cs9, hc9, hz9⟩ := hHeld.bz
          refine wp_store_blk 23 _ _ rfl (w.heap.size + 1 + 1) _ (idVals S) 23 hz9 rfl rfl hI (hc9.trans (HSL.out.symm.trans (idVals_size S).symm)) h1c ?_
          intro w7 hb7 hg7
          refine hK.out _ _ (hHeld.put hg7 ((idVals_size S).trans HSL.out) hb7) (fun hHeld => ?_)
          clear hK K
          try simp only [Act.put, List.getElem_toArray, List.getElem_cons_succ, List.getElem_cons_zero, List.setIfInBounds_toArray, List.set_cons_zero, List.set_cons_succ]
          refine wpAnyH_done (by kernel_rfl) ?_ _
          go_wp2
          refine bodyPost_ret (results_cell_row rfl _ _ _ _ _ _ _ rfl hb7 Try.underlying23 rfl hI) rfl ⟨rfl, hHeld.hb⟩
      · as_aux_lemma =>
          have hbt := byte_textB Vx gx x hbk
          go_simp
          refine hK.out _ _ hHeld (fun hHeld => ?_)
          clear hK K hbt hbk
          try simp only [Act.put, List.getElem_toArray, List.getElem_cons_succ, List.getElem_cons_zero, List.setIfInBounds_toArray, List.set_cons_zero, List.set_cons_succ]
          refine wpAnyH_ready (rs := [1]) (by kernel_rfl) (by simp) ?_
          refine AllReadyH.cons rfl (fun K hK => ?_) AllReadyH.nil
          go_simp
          (with_reducible refine (cB _).mono ?_)
          rintro e1 w1 ⟨rfl, hb1⟩
          refine hK.out _ _ (hHeld.below hb1) (fun hHeld => ?_)
          clear hK K
          try simp only [Act.put, List.getElem_toArray, List.getElem_cons_succ, List.getElem_cons_zero, List.setIfInBounds_toArray, List.set_cons_zero, List.set_cons_succ]
          refine wpAnyH_ready (rs := [9]) (by kernel_rfl) (by simp) ?_
          refine AllReadyH.cons rfl (fun K hK => ?_) AllReadyH.nil
          have hal := (Below.refl w1.heap.size w1).alloc (Nat.le_refl _) (.cells #[.string (txt a), .string (txt [x]), .string (txt p)] 9)
          have hRd := rd_threeJ w1 a [x] p
          go_simp
          refine hK.out _ _ (hHeld.below hal) (fun hHeld => ?_)
          clear hK K
          try simp only [Act.put, List.getElem_toArray, List.getElem_cons_succ, List.getElem_cons_zero, List.setIfInBounds_toArray, List.set_cons_zero, List.set_cons_succ]
          refine wpAnyH_ready (rs := [10]) (by kernel_rfl) (by simp) ?_
          refine AllReadyH.cons rfl (fun K hK => ?_) AllReadyH.nil
          go_simp
          (with_reducible refine (cT _ _ _ hRd).mono ?_)
          rintro e5 w5 ⟨rfl, hb5⟩
          refine hK.out _ _ (hHeld.below hb5) (fun hHeld => ?_)
          clear hK K
          try simp only [Act.put, List.getElem_toArray, List.getElem_cons_succ, List.getElem_cons_zero, List.setIfInBounds_toArray, List.set_cons_zero, List.set_cons_succ]
          refine wpAnyH_ready (rs := [11]) (by kernel_rfl) (by simp) ?_
          refine AllReadyH.cons rfl (fun K hK => ?_) AllReadyH.nil
          obtain ⟨cs9, hc9, hz9⟩ := hHeld.bz
          refine wp_store_blk 23 _ _ rfl (w.heap.size + 1 + 1) _ (idVals S) 23 hz9 rfl rfl hI (hc9.trans (HSL.out.symm.trans (idVals_size S).symm)) h1c ?_
          intro w7 hb7 hg7
          refine hK.out _ _ (hHeld.put hg7 ((idVals_size S).trans HSL.out) hb7) (fun hHeld => ?_)
          clear hK K
          try simp only [Act.put, List.getElem_toArray, List.getElem_cons_succ, List.getElem_cons_zero, List.setIfInBounds_toArray, List.set_cons_zero, List.set_cons_succ]
          refine wpAnyH_done (by kernel_rfl) ?_ _
          go_wp2
          refine bodyPost_ret (results_cell_row rfl _ _ _ _ _ _ _ rfl hb7 Try.underlying23 rfl hI) rfl ⟨rfl, hHeld.hb⟩
end Go.Proofs.Ytfckbonblfcmnaa
/- journal: the document's bytes of a frame. -/
set_option linter.unusedSimpArgs false
set_option linter.unusedVariables false
namespace Go.Proofs.Ytfckbonblfcmnaa
open Go.RowKit Go.Qc Go.Shelf
attribute [local go_sem] txt_size txt_append ib_fold
/-- A frame's bytes. -/
def frB (c : List UInt8) (X : FmD) : List UInt8 := 74 :: kB X :: (textE X.p ++ (nxtB c X).take 8)
/-- A chain's box and a frame's box. -/
structure Nx2 (w : World) (ft : TypeId) (a : List UInt8) (k : Int) (p : List UInt8) (W : World) : Prop where
  ba : Blk W w.heap.size 23 (idVals a)
  bf : Blk W (w.heap.size + 1) ft #[.int .i64 k, .string (txt p)]
  hb : Below w.heap.size w W
theorem nx2_start (w : World) (ft : TypeId) (a : List UInt8) (k : Int) (p : List UInt8) :
    Nx2 w ft a k p ((w.alloc (.cells (idVals a) 23)).alloc (.cells #[.int .i64 k, .string (txt p)] ft)) := by
  have h1 : (w.alloc (.cells (idVals a) 23)).heap.size = w.heap.size + 1 := by simp
  have b1 := Blk.new (w.alloc (.cells (idVals a) 23)) ft #[.int .i64 k, .string (txt p)]
  rw [h1] at b1
  exact ⟨(Blk.new w 23 (idVals a)).alloc _, b1, ((Below.refl _ _).alloc (Nat.le_refl _) _).alloc (by simp) _⟩
theorem Nx2.below {w : World} {ft : TypeId} {a : List UInt8} {k : Int} {p : List UInt8} {W W' : World} (h : Nx2 w ft a k p W) (g : Below W.heap.size W W') : Nx2 w ft a k p W' :=
  ⟨h.ba.below g, h.bf.below g, h.hb.trans (g.mono h.hb.size)⟩
theorem blk_range {W : World} {g : Nat} {t : TypeId} {cs : Array Value} (h : Blk W g t cs) : W.rangeAt g 0 cs.toList := fun j v hj => by
  rw [Nat.zero_add]; exact h.cell_ (by rw [← Array.getElem?_toList]; exact hj)
theorem txt_to8 (l : List UInt8) : (txt l).extract 0 8 = txt (l.take 8) := by rw [txt_extract]; simp
end Go.Proofs.Ytfckbonblfcmnaa

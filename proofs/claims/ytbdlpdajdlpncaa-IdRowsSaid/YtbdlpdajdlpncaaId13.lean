
/- The law IdRows, with id.Sort's contract as a premise. -/
import Derived.Test.YtbdlpdajdlpncaaId12
import Derived.Deep.RegionHeld3
import Derived.Deep.DeepCutAuto
set_option linter.unusedVariables false
set_option linter.unusedSimpArgs false
namespace Go.Proofs.Ytbdlpdajdlpncaa
open Go.RowKit Go.Qc Go.Shelf
attribute [local go_sem] txt_size

theorem cut_ex : ∀ (l : List (List UInt8)) (a : List UInt8), Rising l → ∃ p, Cuts l a p
  | [], a, _ => ⟨0, Nat.le_refl _, fun k x h => by omega, fun k x _ h => by simp at h⟩
  | x :: t, a, h => by
    obtain ⟨h1, h2⟩ := List.pairwise_cons.1 h
    by_cases hx : Lt x a
    · obtain ⟨p, q1, q2, q3⟩ := cut_ex t a h2
      refine ⟨p + 1, by rw [List.length_cons]; omega, ?_, ?_⟩
      · intro k y hk hy
        cases k with
        | zero => rw [List.getElem?_cons_zero] at hy; cases hy; exact hx
        | succ k => rw [List.getElem?_cons_succ] at hy; exact q2 k y (by omega) hy
      · intro k y hk hy
        cases k with
        | zero => omega
        | succ k => rw [List.getElem?_cons_succ] at hy; exact q3 k y (by omega) hy
    · refine ⟨0, Nat.zero_le _, fun k y hk => by omega, ?_⟩
      intro k y _ hy
      cases k with
      | zero => rw [List.getElem?_cons_zero] at hy; cases hy; exact hx
      | succ k => rw [List.getElem?_cons_succ] at hy; exact fun hl => hx ((h1 y (List.mem_of_getElem? hy)).tr hl)
theorem cut_one {l : List (List UInt8)} {a : List UInt8} {p q : Nat} (h : Cuts l a p) (g : Cuts l a q) : p = q := by
  rcases Nat.lt_trichotomy p q with e | e | e
  · have hl : p < l.length := Nat.lt_of_lt_of_le e g.1
    exact (h.2.2 p _ (Nat.le_refl _) (List.getElem?_eq_getElem hl) (g.2.1 p _ e (List.getElem?_eq_getElem hl))).elim
  · exact e
  · have hl : q < l.length := Nat.lt_of_lt_of_le e h.1
    exact (g.2.2 q _ (Nat.le_refl _) (List.getElem?_eq_getElem hl) (h.2.1 q _ e (List.getElem?_eq_getElem hl))).elim
set_option maxRecDepth 100000 in
set_option maxHeartbeats 40000000 in
theorem idRows_gen (A : Option Addr) (n c : Nat) (l : List (List UInt8)) (a : List UInt8) (ha : a.length = 32) (hn40 : n ≤ 40) (w : World) (hA : RowR w A n l)
    (cSort : ∀ W, Below w.heap.size w W → Calls Try.prog 9 #[.slice A n c] W fun e w' => ∃ A2 n2 c2, e = .returned (.slice A2 n2 c2) ∧ RowR w' A2 n2 (sortL l) ∧ Below W.heap.size W w') :
    Calls Try.prog 3 #[.slice A n c, .agg (idVals a)] w fun e w' => e = .returned (.bool true) ∧ Below w.heap.size w w' := by
  have hu := Try.underlying24
  have hX : Below w.heap.size w (w.alloc (.cells (idVals a) 24)) := (Below.refl _ w).alloc (Nat.le_refl _) _
  have hbx : (w.alloc (.cells (idVals a) 24)).rangeAt w.heap.size 0 (a.map u8v) := range_blk (Blk.new w 24 (idVals a))
  have hza : (Try.prog.info? 24).map (·.size) = some (a.map u8v).length := by rw [List.length_map, ha]; exact sizeId
  have b0 : ¬ (40 : Int) < n := by omega
  obtain ⟨R, hR⟩ : ∃ R : Bool, R = true ↔ Steps l n := by
    by_cases h : Steps l n
    · exact ⟨true, by simp [h]⟩
    · exact ⟨false, by simp [h]⟩
  have tell : ∀ v, TellsV v (Steps l n) → v = .bool R := fun v ⟨t, h1, h2⟩ => by
    rw [h1]; congr 1; rw [Bool.eq_iff_iff, h2, hR]
  obtain ⟨D, hD⟩ : ∃ D : Bool, D = decide (a ∈ l) := ⟨_, rfl⟩
  have hD2 : D = decide (a ∈ sortL l) := by rw [hD]; exact decide_eq_decide.2 mem_sortL.symm
  have hris := rising_sortL l
  obtain ⟨p0, hp0⟩ := cut_ex (sortL l) a hris
  go_enter Try.func3, Try.ntmps3
  go_upto_region 3 with (fail)
  generalize w.alloc (.cells (idVals a) 24) = W0 at *
  go_upto_region 4 with (go_at_call 9; (with_reducible refine (cSort _ hX).mono ?_); rintro o1 w1 ⟨A2, n2, c2, rfl, hS, hb1⟩)
  have hX1 := hX.trans (hb1.mono hX.size)
  have hbx2 : ∀ W, Below w1.heap.size w1 W → W.rangeAt w.heap.size 0 (a.map u8v) := fun W h => (hbx.below hb1).below h
  have old : ∀ W, Below w1.heap.size w1 W → RowR W A n l := fun W h => hA.below (hX1.trans (h.mono hX1.size))
  have c1 : ∀ W, Below w1.heap.size w1 W → Calls Try.prog 11 #[.slice A n c] W fun e w' => ∃ B m d, e = .returned (.slice B m d) ∧ RowR w' B m (sortL l) ∧ Below W.heap.size W w' := fun W h => (rsort_any A n c l W (old W h) (by omega)).mono (by rintro e w' ⟨ad, m, d, h1, h2, h3⟩; exact ⟨_, _, _, h1, h2.r, h3⟩)
  have c2' : ∀ W B m d, Below w1.heap.size w1 W → RowR W B m (sortL l) → Calls Try.prog 10 #[.slice A2 n2 c2, .slice B m d] W fun e w' => e = .returned (.bool true) ∧ Below W.heap.size W w' := fun W B m d h h2 => by
    have := rsame_any A2 B n2 c2 m d _ _ W (hS.below h) h2
    rw [decide_eq_true rfl] at this
    exact this
  have c3 : ∀ W, Below w1.heap.size w1 W → Calls Try.prog 12 #[.slice A n c] W fun e w' => e = .returned (.bool R) ∧ Below W.heap.size W w' := fun W h => (rises_any A n c l W (old W h)).mono (by rintro e w' ⟨v, rfl, h2, h3⟩; rw [tell v h2]; exact ⟨rfl, h3⟩)
  have c4 : ∀ W, Below w1.heap.size w1 W → Calls Try.prog 13 #[.slice A n c] W fun e w' => e = .returned (.bool R) ∧ Below W.heap.size W w' := fun W h => (rrises_any A n c l W (old W h)).mono (by rintro e w' ⟨v, rfl, h2, h3⟩; rw [tell v h2]; exact ⟨rfl, h3⟩)
  have c5 : ∀ W, Below w1.heap.size w1 W → Calls Try.prog 14 #[.slice A2 n2 c2, .agg (List.map u8v a).toArray] W fun e w' => e = .returned (.bool D) ∧ Below W.heap.size W w' := fun W h => by
    have := id_has A2 n2 c2 _ a ha hris W (hS.below h)
    rw [← hD2] at this
    exact this
  have c6 : ∀ W, Below w1.heap.size w1 W → Calls Try.prog 15 #[.slice A n c, .agg (List.map u8v a).toArray] W fun e w' => e = .returned (.bool D) ∧ Below W.heap.size W w' := fun W h => by
    have := rhas_any A n c l a ha W (old W h)
    rw [← hD] at this
    exact this
  have c7 : ∀ W, Below w1.heap.size w1 W → Calls Try.prog 17 #[.slice A2 n2 c2, .agg (List.map u8v a).toArray] W fun e w' => e = .returned (.int .i64 p0) ∧ Below W.heap.size W w' := fun W h => (id_place A2 n2 c2 _ a ha hris W (hS.below h)).mono (by rintro e w' ⟨p, rfl, h2, h3⟩; rw [cut_one h2 hp0]; exact ⟨rfl, h3⟩)
  clear tell hD hD2 hR
  refine wp_region_held_drew (S := fun W => Below w1.heap.size w1 W) (by kernel_rfl) (below_drew1 w1) (fun hHeld => ?_)
  generalize w1.drew = Wd at *
  refine' wpAnyH_take (i := 0) (v := .slice A2 n2 c2) rfl (by kernel_rfl) (by kernel_rfl) (by kernel_rfl) (fun _ _ _ h => h) (Or.inl ⟨by rfl, fun w' hw' => by go_simp⟩) hHeld ?_
  try simp only [Act.put, List.getElem_toArray, List.getElem_cons_succ, List.getElem_cons_zero, List.setIfInBounds_toArray, List.set_cons_zero, List.set_cons_succ]
  refine' wpAnyH_take (i := 1) (v := .slice A n c) rfl (by kernel_rfl) (by kernel_rfl) (by kernel_rfl) (fun _ _ _ h => h) (Or.inl ⟨by rfl, fun w' hw' => by go_simp⟩) hHeld ?_
  try simp only [Act.put, List.getElem_toArray, List.getElem_cons_succ, List.getElem_cons_zero, List.setIfInBounds_toArray, List.set_cons_zero, List.set_cons_succ]
  refine wpAnyH_ready (rs := [2]) (by kernel_rfl) (by simp) ?_
  refine AllReadyH.cons rfl (fun K hK => ?_) AllReadyH.nil
  go_simp
  (with_reducible refine (c1 _ hHeld).mono ?_)
  rintro e Wr1 ⟨B3, m3, d3, rfl, hrow, hbc⟩
  have hL := hHeld.trans (hbc.mono hHeld.size)
  refine hK.out _ _ hL (fun hHeld => ?_)
  clear hbc hL hK K
  try simp only [Act.put, List.getElem_toArray, List.getElem_cons_succ, List.getElem_cons_zero, List.setIfInBounds_toArray, List.set_cons_zero, List.set_cons_succ]
  refine wpAnyH_ready (rs := [3]) (by kernel_rfl) (by simp) ?_
  refine AllReadyH.cons rfl (fun K hK => ?_) AllReadyH.nil
  go_simp
  (with_reducible refine (c2' _ _ _ _ hHeld hrow).mono ?_)
  rintro e Wr2 ⟨rfl, hbc⟩
  have hL := hHeld.trans (hbc.mono hHeld.size)
  clear hrow
  refine hK.out _ _ hL (fun hHeld => ?_)
  clear hbc hL hK K
  try simp only [Act.put, List.getElem_toArray, List.getElem_cons_succ, List.getElem_cons_zero, List.setIfInBounds_toArray, List.set_cons_zero, List.set_cons_succ]
  refine' wpAnyH_take (i := 4) (v := .bool false) rfl (by kernel_rfl) (by kernel_rfl) (by kernel_rfl) (fun _ _ _ h => h) (Or.inl ⟨by rfl, fun w' hw' => by go_simp⟩) hHeld ?_
  try simp only [Act.put, List.getElem_toArray, List.getElem_cons_succ, List.getElem_cons_zero, List.setIfInBounds_toArray, List.set_cons_zero, List.set_cons_succ]
  refine' wpAnyH_take (i := 5) (v := .bool false) rfl (by kernel_rfl) (by kernel_rfl) (by kernel_rfl) (fun _ _ _ h => h) (Or.inl ⟨by rfl, fun w' hw' => by go_simp⟩) hHeld ?_
  try simp only [Act.put, List.getElem_toArray, List.getElem_cons_succ, List.getElem_cons_zero, List.setIfInBounds_toArray, List.set_cons_zero, List.set_cons_succ]
  refine' wpAnyH_take (i := 6) (v := .slice A n c) rfl (by kernel_rfl) (by kernel_rfl) (by kernel_rfl) (fun _ _ _ h => h) (Or.inl ⟨by rfl, fun w' hw' => by go_simp⟩) hHeld ?_
  try simp only [Act.put, List.getElem_toArray, List.getElem_cons_succ, List.getElem_cons_zero, List.setIfInBounds_toArray, List.set_cons_zero, List.set_cons_succ]
  refine' wpAnyH_take (i := 8) (v := .slice A n c) rfl (by kernel_rfl) (by kernel_rfl) (by kernel_rfl) (fun _ _ _ h => h) (Or.inl ⟨by rfl, fun w' hw' => by go_simp⟩) hHeld ?_
  try simp only [Act.put, List.getElem_toArray, List.getElem_cons_succ, List.getElem_cons_zero, List.setIfInBounds_toArray, List.set_cons_zero, List.set_cons_succ]
  refine wpAnyH_ready (rs := [7]) (by kernel_rfl) (by simp) ?_
  refine AllReadyH.cons rfl (fun K hK => ?_) AllReadyH.nil
  go_simp
  (with_reducible refine (c3 _ hHeld).mono ?_)
  rintro e Wr3 ⟨rfl, hbc⟩
  have hL := hHeld.trans (hbc.mono hHeld.size)
  refine hK.out _ _ hL (fun hHeld => ?_)
  clear hbc hL hK K
  try simp only [Act.put, List.getElem_toArray, List.getElem_cons_succ, List.getElem_cons_zero, List.setIfInBounds_toArray, List.set_cons_zero, List.set_cons_succ]
  refine wpAnyH_ready (rs := [9]) (by kernel_rfl) (by simp) ?_
  refine AllReadyH.cons rfl (fun K hK => ?_) AllReadyH.nil
  go_simp
  (with_reducible refine (c4 _ hHeld).mono ?_)
  rintro e Wr4 ⟨rfl, hbc⟩
  have hL := hHeld.trans (hbc.mono hHeld.size)
  refine hK.out _ _ hL (fun hHeld => ?_)
  clear hbc hL hK K
  try simp only [Act.put, List.getElem_toArray, List.getElem_cons_succ, List.getElem_cons_zero, List.setIfInBounds_toArray, List.set_cons_zero, List.set_cons_succ]
  refine' wpAnyH_take (i := 10) (v := .bool false) rfl (by kernel_rfl) (by kernel_rfl) (by kernel_rfl) (fun _ _ _ h => h) (Or.inl ⟨by rfl, fun w' hw' => by go_simp⟩) hHeld ?_
  try simp only [Act.put, List.getElem_toArray, List.getElem_cons_succ, List.getElem_cons_zero, List.setIfInBounds_toArray, List.set_cons_zero, List.set_cons_succ]
  refine' wpAnyH_take (i := 11) (v := .bool false) rfl (by kernel_rfl) (by kernel_rfl) (by kernel_rfl) (fun _ _ _ h => h) (Or.inl ⟨by rfl, fun w' hw' => by go_simp⟩) hHeld ?_
  try simp only [Act.put, List.getElem_toArray, List.getElem_cons_succ, List.getElem_cons_zero, List.setIfInBounds_toArray, List.set_cons_zero, List.set_cons_succ]
  refine' wpAnyH_take (i := 12) (v := .bool false) rfl (by kernel_rfl) (by kernel_rfl) (by kernel_rfl) (fun _ _ _ h => h) (Or.inl ⟨by rfl, fun w' hw' => by go_simp⟩) hHeld ?_
  try simp only [Act.put, List.getElem_toArray, List.getElem_cons_succ, List.getElem_cons_zero, List.setIfInBounds_toArray, List.set_cons_zero, List.set_cons_succ]
  refine' wpAnyH_take (i := 13) (v := .slice A2 n2 c2) rfl (by kernel_rfl) (by kernel_rfl) (by kernel_rfl) (fun _ _ _ h => h) (Or.inl ⟨by rfl, fun w' hw' => by go_simp⟩) hHeld ?_
  try simp only [Act.put, List.getElem_toArray, List.getElem_cons_succ, List.getElem_cons_zero, List.setIfInBounds_toArray, List.set_cons_zero, List.set_cons_succ]
  refine' wpAnyH_take (i := 14) (v := _) rfl (by kernel_rfl) (by kernel_rfl) (by kernel_rfl) (fun _ _ _ h => h) (yieldsIf_load_mid (by rfl) 24 _ rfl _ _ rfl (a.map u8v) _ (fun w' h => hbx2 w' h) hu rfl hza) hHeld ?_
  try simp only [Act.put, List.getElem_toArray, List.getElem_cons_succ, List.getElem_cons_zero, List.setIfInBounds_toArray, List.set_cons_zero, List.set_cons_succ]
  refine' wpAnyH_take (i := 16) (v := .slice A n c) rfl (by kernel_rfl) (by kernel_rfl) (by kernel_rfl) (fun _ _ _ h => h) (Or.inl ⟨by rfl, fun w' hw' => by go_simp⟩) hHeld ?_
  try simp only [Act.put, List.getElem_toArray, List.getElem_cons_succ, List.getElem_cons_zero, List.setIfInBounds_toArray, List.set_cons_zero, List.set_cons_succ]
  refine' wpAnyH_take (i := 17) (v := _) rfl (by kernel_rfl) (by kernel_rfl) (by kernel_rfl) (fun _ _ _ h => h) (yieldsIf_load_mid (by rfl) 24 _ rfl _ _ rfl (a.map u8v) _ (fun w' h => hbx2 w' h) hu rfl hza) hHeld ?_
  try simp only [Act.put, List.getElem_toArray, List.getElem_cons_succ, List.getElem_cons_zero, List.setIfInBounds_toArray, List.set_cons_zero, List.set_cons_succ]
  refine wpAnyH_ready (rs := [15]) (by kernel_rfl) (by simp) ?_
  refine AllReadyH.cons rfl (fun K hK => ?_) AllReadyH.nil
  go_simp
  (with_reducible refine (c5 _ hHeld).mono ?_)
  rintro e Wr5 ⟨rfl, hbc⟩
  have hL := hHeld.trans (hbc.mono hHeld.size)
  refine hK.out _ _ hL (fun hHeld => ?_)
  clear hbc hL hK K
  try simp only [Act.put, List.getElem_toArray, List.getElem_cons_succ, List.getElem_cons_zero, List.setIfInBounds_toArray, List.set_cons_zero, List.set_cons_succ]
  refine wpAnyH_ready (rs := [18]) (by kernel_rfl) (by simp) ?_
  refine AllReadyH.cons rfl (fun K hK => ?_) AllReadyH.nil
  go_simp
  (with_reducible refine (c6 _ hHeld).mono ?_)
  rintro e Wr6 ⟨rfl, hbc⟩
  have hL := hHeld.trans (hbc.mono hHeld.size)
  refine hK.out _ _ hL (fun hHeld => ?_)
  clear hbc hL hK K
  try simp only [Act.put, List.getElem_toArray, List.getElem_cons_succ, List.getElem_cons_zero, List.setIfInBounds_toArray, List.set_cons_zero, List.set_cons_succ]
  refine' wpAnyH_take (i := 19) (v := .bool false) rfl (by kernel_rfl) (by kernel_rfl) (by kernel_rfl) (fun _ _ _ h => h) (Or.inl ⟨by rfl, fun w' hw' => by go_simp⟩) hHeld ?_
  try simp only [Act.put, List.getElem_toArray, List.getElem_cons_succ, List.getElem_cons_zero, List.setIfInBounds_toArray, List.set_cons_zero, List.set_cons_succ]
  refine' wpAnyH_take (i := 20) (v := .bool false) rfl (by kernel_rfl) (by kernel_rfl) (by kernel_rfl) (fun _ _ _ h => h) (Or.inl ⟨by rfl, fun w' hw' => by go_simp⟩) hHeld ?_
  try simp only [Act.put, List.getElem_toArray, List.getElem_cons_succ, List.getElem_cons_zero, List.setIfInBounds_toArray, List.set_cons_zero, List.set_cons_succ]
  refine wpAnyH_done (by kernel_rfl) ?_ _
  clear c1 c2' c3 c4 c5 c6 old
  obtain ⟨hn2, bn2, hr2⟩ := hS
  have HN2 := hid hn2
  have HP0 := hid hp0
  clear hn2 hp0
  go_wp2
  go_loopw [6, 38] (fun k i wr => ∃ j : Nat, k = .int .i64 ((min j p0 : Nat) : Int) ∧ i = .int .i64 j ∧ j ≤ n2 ∧ Below w1.heap.size w1 wr) (fun _ i _ => n2 - (intOf i).toNat)
  case atStart => exact ⟨0, by simp, rfl, by omega, hHeld⟩
  case round =>
    obtain ⟨j, rfl, rfl, hj, hb⟩ := hrel
    by_cases hlt : j < n2
    · have b1 : (j : Int) < n2 := by omega
      obtain ⟨x, hx⟩ : ∃ x, (sortL l)[j]? = some x := ⟨_, List.getElem?_eq_getElem (by rw [HN2.out]; exact hlt)⟩
      obtain ⟨g, q, hg, lx, hix⟩ := hr2.pick c2 HN2.out hx
      have hzx : (Try.prog.info? 24).map (·.size) = some (x.map u8v).length := by rw [List.length_map, lx]; exact sizeId
      have fx : wr.rangeAt g q (x.map u8v) := hg.below hb
      obtain ⟨L, hL⟩ : ∃ L, ltB x a = L := ⟨_, rfl⟩
      have hless : ∀ W : World, Calls Try.prog 16 #[.agg (List.map u8v x).toArray, .agg (List.map u8v a).toArray] W fun e w' => e = .returned (.bool L) ∧ Below W.heap.size W w' := fun W => by rw [← hL]; exact rless_any x a lx ha W
      have HL := hid hL
      have HX := hid hx
      have HLX := hid lx
      clear hL hx hg lx
      have hk9 : min j p0 ≤ 1000000 := by have := Nat.min_le_left j p0; omega
      have hlt1 : L = true → j < p0 := fun h => by
        rcases Nat.lt_or_ge j p0 with e | e
        · exact e
        · exact (HP0.out.2.2 j x e HX.out (by have := HL.out; rw [h] at this; have h7 : Lib.compareBytes x a < 0 := of_decide_eq_true this; exact h7)).elim
      have hlt0 : L = false → p0 ≤ j := fun h => by
        rcases Nat.lt_or_ge j p0 with e | e
        · have := HL.out
          rw [h] at this
          have h7 : ¬ Lib.compareBytes x a < 0 := of_decide_eq_false this
          exact (h7 (HP0.out.2.1 j x e HX.out)).elim
        · exact e
      have H1 := hid hlt1
      have H0 := hid hlt0
      generalize hk : min j p0 = k at *
      have HK := hid hk
      have b3 : (0 : Int) ≤ k := by omega
      have b4 : (k : Int) ≤ 1000000 := by omega
      clear hk hlt1 hlt0
      cases L with
      | true =>
        go_wp2_with (first
          | (with_reducible refine wpList_load_if (by with_unfolding_all rfl) 24 _ rfl _ _ rfl (x.map u8v) _ fx hu (by with_unfolding_all rfl) hzx ?_)
          | ((with_reducible refine wpList_store_newid rfl _ _ rfl x HLX.out rfl rfl (by with_unfolding_all rfl) ?_); intro w8 hx8 hb8; have hb9 := hb.trans (hb8.mono hb.size); have fa8 := hbx2 _ hb9)
          | (with_reducible refine wpList_load_if (by with_unfolding_all rfl) 24 _ rfl _ _ rfl (x.map u8v) _ hx8 hu (by with_unfolding_all rfl) hzx ?_)
          | (with_reducible refine wpList_load_if (by with_unfolding_all rfl) 24 _ rfl _ _ rfl (a.map u8v) _ fa8 hu (by with_unfolding_all rfl) hza ?_)
          | (go_at_call 16; (with_reducible refine (hless _).mono ?_); rintro o9 w9 ⟨rfl, hbl⟩; have hb10 := hb9.trans (hbl.mono hb9.size)))
        go_roundw
        case rel => exact ⟨j + 1, by rw [show min (j + 1) p0 = k + 1 by have := H1.out (by trivial); have := HK.out; omega]; go_num, by go_num, hlt, hb10⟩
        case measure => simp [intOf]; omega
      | false =>
        go_wp2_with (first
          | (with_reducible refine wpList_load_if (by with_unfolding_all rfl) 24 _ rfl _ _ rfl (x.map u8v) _ fx hu (by with_unfolding_all rfl) hzx ?_)
          | ((with_reducible refine wpList_store_newid rfl _ _ rfl x HLX.out rfl rfl (by with_unfolding_all rfl) ?_); intro w8 hx8 hb8; have hb9 := hb.trans (hb8.mono hb.size); have fa8 := hbx2 _ hb9)
          | (with_reducible refine wpList_load_if (by with_unfolding_all rfl) 24 _ rfl _ _ rfl (x.map u8v) _ hx8 hu (by with_unfolding_all rfl) hzx ?_)
          | (with_reducible refine wpList_load_if (by with_unfolding_all rfl) 24 _ rfl _ _ rfl (a.map u8v) _ fa8 hu (by with_unfolding_all rfl) hza ?_)
          | (go_at_call 16; (with_reducible refine (hless _).mono ?_); rintro o9 w9 ⟨rfl, hbl⟩; have hb10 := hb9.trans (hbl.mono hb9.size)))
        go_roundw
        case rel => exact ⟨j + 1, by rw [show min (j + 1) p0 = k by have := H0.out (by trivial); have := HK.out; omega], by go_num, hlt, hb10⟩
        case measure => simp [intOf]; omega
    · obtain rfl : j = n2 := by omega
      have b1 : ¬ (j : Int) < j := by omega
      have hm : min j p0 = p0 := by have := HP0.out.1; rw [HN2.out] at this; omega
      rw [hm]
      have fa := hbx2 _ hb
      go_wp2_with (first
        | (with_reducible refine wpList_load_if (by with_unfolding_all rfl) 24 _ rfl _ _ rfl (a.map u8v) _ fa hu (by with_unfolding_all rfl) hza ?_)
        | (go_at_call 17; (with_reducible refine (c7 _ hb).mono ?_); rintro o9 w9 ⟨rfl, hbl⟩; have hb10 := hb.trans (hbl.mono hb.size))
        | (go_at_call 8; (with_reducible refine (awake4_any _).mono ?_); rintro o10 w10 ⟨rfl, hb11⟩; have hb12 := hb10.trans (hb11.mono hb10.size)))
      go_ret
      exact ⟨rfl, hX1.trans (hb12.mono hX1.size)⟩
end Go.Proofs.Ytbdlpdajdlpncaa

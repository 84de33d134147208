
/- TreeAll: any operations, all at once, come to what the document says, and are undone one by one.
   The statement as given, at the landed commit. -/
import Derived.Test.YtodfaakodgedbaaTr15
set_option linter.unusedSimpArgs false
set_option linter.unusedVariables false
namespace Go.Proofs.Ytodfaakodgedbaa
open Go.RowKit Go.Qc Go.Shelf
attribute [local go_sem] txt_size txt_append ib_fold txt_toL

set_option maxRecDepth 100000 in
set_option maxHeartbeats 80000000 in
theorem tl_no (A : Option Addr) (n c : Nat) (Xs : List OpV) (w : World) (hR : OpRow w A n Xs) (hf : fewT Xs = false) :
    Calls Try.prog 3 #[.slice A n c] w fun e w' => e = .returned (.bool true) ∧ Below w.heap.size w w' := by
  have cF := tfew_any A n c Xs w hR
  rw [hf] at cF
  clear hf hR
  go_enter Try.func3, Try.ntmps3
  go_wp2_with (first
    | (go_at_call 4; (with_reducible refine cF.mono ?_); rintro e1 w1 ⟨rfl, hb⟩)
    | (go_at_call 5; (with_reducible refine (awake14_any _).mono ?_); rintro e8 w8 ⟨rfl, hb8⟩; replace hb := hb.trans (hb8.mono hb.size); clear hb8))
  go_ret
  exact ⟨rfl, hb⟩

set_option maxRecDepth 100000 in
set_option maxHeartbeats 80000000 in
theorem tl_yes (A : Option Addr) (n c : Nat) (hnc : n ≤ c) (Xs : List OpV) (w : World) (hR : OpRow w A n Xs) (hf : fewT Xs = true) :
    Calls Try.prog 3 #[.slice A n c] w fun e w' => e = .returned (.bool true) ∧ Below w.heap.size w w' := by
  have cF := tfew_any A n c Xs w hR
  rw [hf] at cF
  obtain ⟨hn, -, hS, hin⟩ := hR
  unfold fewT at hf
  simp only [Bool.and_eq_true, decide_eq_true_eq, List.all_eq_true, Bool.not_eq_true'] at hf
  obtain ⟨h40, hall⟩ := hf
  have hn40 : n ≤ 40 := by omega
  have hO : ∀ X ∈ Xs, OpR w X.D X.A X.n X.B X.m := fun X hX => by
    obtain ⟨q1, q2, q3, q4, q5⟩ := hin X hX
    exact opR_lngt X.D X.A X.n X.c X.B X.m X.d w q1 q2 q3 (hall X hX)
  have HSS := hid hS
  have HOO := hid hO
  have HNN := hid hn
  have cA := fun W (h : Below w.heap.size w W) => tall_nil A n c Xs W hn (by omega) (hS.below h) (fun X hX => (hO X hX).below h)
  have cR := fun W (h : Below w.heap.size w W) => rall_nil A n c Xs W hn (by omega) (hS.below h) (fun X hX => (hO X hX).below h)
  clear hall hin h40 hS hO hn
  go_enter Try.func3, Try.ntmps3
  go_upto_region 4 with (first
    | (go_at_call 4; (with_reducible refine cF.mono ?_); rintro e1 w0 ⟨rfl, hb⟩)
    | (go_at_call 6; (with_reducible refine (cA _ hb).mono ?_); rintro e2 w1 ⟨A1, n1, c1, i1, k1, rfl, hT, hb1⟩; have HT := hid hT; clear hT; replace hb := hb.trans (hb1.mono hb.size); clear hb1))
  have h3 := Blk.new w1 27 #[.slice A1 n1 c1]
  have hbx := (Below.refl w1.heap.size w1).alloc (Nat.le_refl _) (.cells #[.slice A1 n1 c1] 27)
  have HT1 := hid (HT.out.below hbx)
  have hwle : w.heap.size ≤ w1.heap.size := hb.size
  replace hb := hb.trans (hbx.mono hb.size)
  clear hbx HT cA
  generalize hg3 : w1.heap.size = g3 at *
  generalize w1.alloc (.cells #[.slice A1 n1 c1] 27) = W1 at *
  go_upto_region 5 with (go_at_call 7; (with_reducible refine (cR _ hb).mono ?_); rintro e3 w2 ⟨v2, i2, r2, rfl, hQ, hb1⟩; have HQ := hid hQ; clear hQ)
  have HT2 := hid (HT1.out.below hb1)
  replace h3 := h3.below hb1
  replace hb := hb.trans (hb1.mono hb.size)
  clear hb1 HT1 cR
  cases hd : allF 0 [] (Xs.map OpV.D) with
  | ok L0 =>
    obtain ⟨rfl, rfl, Ys, hY1, hY2⟩ := HT2.out.okN hd
    have hgL := allF_good _ 0 [] L0 GoodF.nil hd
    have hnL : n1 = L0.length := by rw [← hY1, List.length_map, hY2.rw_.ln]
    have hn200 : n1 ≤ 200 := by rw [hnL]; exact hgL.n
    rcases HQ.out with ⟨Zs2, A2, n2, c2, rfl, rfl, rfl, e1, e2, e3, e4, e5⟩ | ⟨k, e, rfl, rfl, rfl, e1, e2⟩
    case inr => rw [hd] at e1; cases e1
    rw [hd] at e1
    injection e1 with e1
    obtain rfl : n2 = n1 := by rw [hnL, e1, List.length_map, e2]
    have HG := hid hgL
    have HD := hid hd
    have HY := hid (And.intro hY1 hY2)
    have HE := hid (And.intro e1 (And.intro e2 (And.intro e4 e5)))
    clear HT2 HQ hd hgL hY1 hY2 e1 e2 e4 e5 hnL
    go_upto_region 7 with (first
      | (with_reducible refine wpList_load_tree (by with_unfolding_all rfl) _ rfl _ rfl h3 ?_)
      | (go_at_call 9; (with_reducible refine (tplain_any A1 n2 c1 Ys _ HY.out.2 (by omega)).mono ?_); rintro e4 w4 ⟨A5, c5, rfl, Zs, hp1, hp2, hp3, hp4, hb4⟩; have HP := hid (And.intro hp1 (And.intro hp2 (And.intro hp3 hp4))); clear hp1 hp2 hp3 hp4)
      | (go_at_call 8; (with_reducible refine (rsame14_eq A5 n2 c5 Zs A2 c2 Zs2 _ HP.out.2.1 (by omega) HP.out.2.2.1 HP.out.2.2.2 (HE.out.2.2.1.below hb4) (fun X hX => (HE.out.2.2.2 X hX).below hb4) (by rw [HP.out.1, HY.out.1, HE.out.1])).mono ?_); rintro e5 w5 ⟨rfl, hb5⟩))
    have hb45 := hb4.trans (hb5.mono hb4.size)
    replace h3 := h3.below hb45
    have HY5 := hid (HY.out.2.below hb45)
    replace hb := hb.trans (hb45.mono hb.size)
    have hbx := (Below.refl w5.heap.size w5).alloc (Nat.le_refl _) (.cells #[.slice A1 n2 c1] 27)
    have HN0 := hid (show NowS w (w5.alloc (.cells #[.slice A1 n2 c1] 27)) w5.heap.size A1 n2 c1 L0 ∧ GoodF L0 ∧ allF 0 [] ((Xs.map OpV.D).take n) = .ok L0 from ⟨⟨Blk.new w5 27 #[.slice A1 n2 c1], ⟨Ys, HY.out.1, HY5.out.below hbx⟩, hb.trans (hbx.mono hb.size)⟩, HG.out, by rw [List.take_of_length_le (by rw [List.length_map, HNN.out]; exact Nat.le_refl _)]; exact HD.out⟩)
    have HLE := hid (show w.heap.size ≤ w5.heap.size from hb.size)
    have w1n : wrap64 ((n : Int) - 1) = (n : Int) - 1 := by unfold wrap64; omega
    clear HP HE HY HY5 hb hb4 hb5 hb45 hbx HG HD
    go_wp2_with (first
      | (with_reducible refine wpList_load_tree (by with_unfolding_all rfl) _ rfl _ rfl h3 ?_))
    clear h3
    generalize w5.alloc (.cells #[.slice A1 n2 c1] 27) = W7 at *
    generalize w5.heap.size = g9 at *
    go_loopw [10] (fun i wr => ∃ (k : Nat) (z : Int) (A' : Option Addr) (n' c' : Nat) (L : List FD), z = (k : Int) - 1 ∧ i = .int .i64 z ∧ k ≤ n ∧ Hid (NowS w wr g9 A' n' c' L ∧ GoodF L ∧ allF 0 [] ((Xs.map OpV.D).take k) = .ok L)) (fun i _ => (intOf i + 1).toNat)
    case atStart => exact ⟨n, _, A1, n2, c1, L0, by first | rfl | trivial, by first | rfl | go_num, by omega, hid ⟨HN0.out.1, HN0.out.2.1, HN0.out.2.2⟩⟩
    case round =>
      clear HN0
      obtain ⟨k, z, A', n', c', L, hz, rfl, hk, HI⟩ := hrel
      have hnb := HI.out.1.b
      cases k with
      | zero =>
        have hz0 : ¬ (0 : Int) ≤ z := by omega
        clear hz
        have hL0 : L = [] := by
          have := HI.out.2.2
          rw [List.take_zero, allF] at this
          injection this with this
          exact this.symm
        have hn0 : n' = 0 := by have := HI.out.1.len; rw [hL0] at this; exact this.symm
        subst hn0
        have hbw := HI.out.1.w
        have cL0 : ∀ W, Calls Try.prog 11 #[.agg #[.slice A' 0 c']] W fun e w' => e = .returned (.int .i64 0) ∧ Below W.heap.size W w' := fun W => tlen_any A' 0 c' W
        go_wp2_with (first
          | (with_reducible refine wpList_load_tree (by with_unfolding_all rfl) _ rfl _ rfl hnb ?_)
          | (go_at_call 11; (with_reducible refine (cL0 _).mono ?_); rintro e7 w7 ⟨rfl, hb7⟩; replace hbw := hbw.trans (hb7.mono hbw.size); clear hb7)
          | (go_at_call 5; (with_reducible refine (awake14_any _).mono ?_); rintro e8 w8 ⟨rfl, hb8⟩; replace hbw := hbw.trans (hb8.mono hbw.size); clear hb8))
        go_ret
        exact ⟨rfl, hbw⟩
      | succ j =>
        obtain rfl : z = (j : Int) := by omega
        clear hz
        have hjn : j < n := by omega
        have b0 : (0 : Int) ≤ (j : Int) := by omega
        have b1 : (j : Int) < n := by omega
        obtain ⟨X, hXk⟩ : ∃ X, Xs[j]? = some X := ⟨_, List.getElem?_eq_getElem (by rw [HNN.out]; exact hjn)⟩
        have hbw := HI.out.1.w
        obtain ⟨g, q, hg, hK, hix⟩ := (HSS.out.below hbw).pick c HNN.out hXk
        unfold OpV.cs at hg
        have HRX := hid ((HOO.out X (List.mem_of_getElem? hXk)).below hbw)
        obtain ⟨N, s1, s2, s3, s4, s5⟩ := step_back HI.out.2.2 (ops_at Xs j X hXk)
        have HN1 := hid s1
        have HN2 := hid s2
        have y0 : wr.cell? ⟨g, q, none⟩ = some (.int .i64 X.D.k) := by
          have := hg 0 (.int .i64 X.D.k) (by rw [Array.getElem?_toList]; exact opC_0 _ _ _ _ _ _ _)
          rwa [Nat.add_zero] at this
        have w1j : wrap64 ((j : Int) - 1) = (j : Int) - 1 := by unfold wrap64; omega
        clear hXk s1 s2 s3
        by_cases h4 : 4 < X.D.k
        · have hNL := s4 h4
          subst hNL
          clear s4 s5
          go_wp2_with (fail)
          go_roundw
          case rel => exact ⟨j, _, A', n', c', N, by first | rfl | trivial, by first | rfl | go_num, by omega, hid ⟨HI.out.1, HN2.out, HN1.out⟩⟩
          case measure => simp [intOf]; try omega
        · have hk14 : 1 ≤ X.D.k ∧ X.D.k ≤ 4 := ⟨(s5 (by omega)).1, by omega⟩
          have HUN := hid (s5 (by omega)).2
          clear s4 s5
          obtain ⟨Ln, hLn⟩ : ∃ l, (invD X.D).length = l := ⟨_, rfl⟩
          have bLn : Ln ≤ 1000 := by
            rw [← hLn]
            unfold invD
            repeat' split
            all_goals simp
          have HGL := hid HI.out.2.1
          go_upto_region 17 with (fail)
          go_cut [11, 12, 13] (fun s11 s12 s13 wx => ∃ g11 A9 n9 c9, s11 = .pointer (some ⟨g11, 0, none⟩) ∧ s12 = .int .i64 (Ln : Int) ∧ s13 = .int .i64 0 ∧ NowS w wx g11 A9 n9 c9 N ∧ Below wr.drew.heap.size wr.drew wx)
          case first =>
            refine wp_region_held_drew (S := fun V => Below wr.drew.heap.size wr.drew V) (by kernel_rfl) (Below.refl _ _) (fun hHeld => ?_)
            have hd := below_drew10 wr
            have HN := hid (HI.out.1.below hd)
            replace HRX := hid (HRX.out.below hd)
            replace hg := hg.below hd
            clear y0 hnb HI hbw w1j HN1 HN2
            generalize wr.drew = W2 at *
            refine' wpAnyH_take (i := 0) (v := .agg #[.slice A' n' c']) rfl (by kernel_rfl) (by kernel_rfl) (by kernel_rfl) (fun _ _ _ h => h) (yields_tree (by rfl) _ rfl _ rfl (fun w' hw' => (HN.out.b.below hw').cell_ rfl)) hHeld ?_
            try simp only [Act.put, List.getElem_toArray, List.getElem_cons_succ, List.getElem_cons_zero, List.setIfInBounds_toArray, List.set_cons_zero, List.set_cons_succ]
            refine' wpAnyH_take (i := 1) (v := .slice A n c) rfl (by kernel_rfl) (by kernel_rfl) (by kernel_rfl) (fun _ _ _ h => h) (Or.inl ⟨by rfl, fun w' hw' => by go_simp⟩) hHeld ?_
            try simp only [Act.put, List.getElem_toArray, List.getElem_cons_succ, List.getElem_cons_zero, List.setIfInBounds_toArray, List.set_cons_zero, List.set_cons_succ]
            refine' wpAnyH_take (i := 2) (v := .int .i64 (j : Int)) rfl (by kernel_rfl) (by kernel_rfl) (by kernel_rfl) (fun _ _ _ h => h) (Or.inl ⟨by rfl, fun w' hw' => by go_simp⟩) hHeld ?_
            try simp only [Act.put, List.getElem_toArray, List.getElem_cons_succ, List.getElem_cons_zero, List.setIfInBounds_toArray, List.set_cons_zero, List.set_cons_succ]
            refine' wpAnyH_take (i := 3) (v := .pointer (some ⟨g, q, none⟩)) rfl (by kernel_rfl) (by kernel_rfl) (by kernel_rfl) (fun _ _ _ h => h) (Or.inl ⟨by rfl, fun w' hw' => by go_simp⟩) hHeld ?_
            try simp only [Act.put, List.getElem_toArray, List.getElem_cons_succ, List.getElem_cons_zero, List.setIfInBounds_toArray, List.set_cons_zero, List.set_cons_succ]
            refine' wpAnyH_take (i := 4) (v := .agg (opC X.D X.A X.n X.c X.B X.m X.d)) rfl (by kernel_rfl) (by kernel_rfl) (by kernel_rfl) (fun _ _ _ h => h) (yields_opq (by rfl) _ rfl _ _ rfl (fun w' hw' => hg.below hw') hK) hHeld ?_
            try simp only [Act.put, List.getElem_toArray, List.getElem_cons_succ, List.getElem_cons_zero, List.setIfInBounds_toArray, List.set_cons_zero, List.set_cons_succ]
            refine wpAnyH_ready (rs := [5, 11]) (by kernel_rfl) (by simp) ?_
            refine AllReadyH.cons rfl (fun K hK => ?_) (AllReadyH.cons rfl (fun K hK => ?_) AllReadyH.nil)
            · as_aux_lemma =>
                go_simp
                (with_reducible refine (rinv_any X.D X.A X.n X.c X.B X.m X.d _ (HRX.out.below hHeld) hk14).mono ?_)
                rintro e5 V5 ⟨g5, Is, rfl, hI1, hI2, hI3, hb5⟩
                have hH5 := hHeld.trans (hb5.mono hHeld.size)
                rw [hLn]
                refine hK.out _ _ hH5 (fun hHeld => ?_)
                clear hK K hb5 hH5
                try simp only [Act.put, List.getElem_toArray, List.getElem_cons_succ, List.getElem_cons_zero, List.setIfInBounds_toArray, List.set_cons_zero, List.set_cons_succ]
                refine wpAnyH_ready (rs := [6, 11]) (by kernel_rfl) (by simp) ?_
                refine AllReadyH.cons rfl (fun K hK => ?_) (AllReadyH.cons rfl (fun K hK => ?_) AllReadyH.nil)
                · as_aux_lemma =>
                    obtain ⟨Ys, hY1, hY2⟩ := (HN.out.below hHeld).s
                    have cT := tall_any A' n' c' Ys (some ⟨g5, 0, none⟩) Ln Ln Is _ hY2 (by rw [hY1]; exact HGL.out) (by rw [← List.length_map, hI1, hLn]) bLn hI2 hI3
                    rw [hI1, hY1] at cT
                    go_simp
                    (with_reducible refine cT.mono ?_)
                    rintro e6 V6 ⟨A9, n9, c9, i9, k9, rfl, hT, hb6⟩
                    obtain ⟨rfl, rfl, Zs, hZ1, hZ2⟩ := hT.okN HUN.out
                    have hH6 := hHeld.trans (hb6.mono hHeld.size)
                    refine hK.out _ _ hH6 (fun hHeld => ?_)
                    clear hK K hb6 hH6 cT hT
                    try simp only [Act.put, List.getElem_toArray, List.getElem_cons_succ, List.getElem_cons_zero, List.setIfInBounds_toArray, List.set_cons_zero, List.set_cons_succ]
                    refine' wpAnyH_take (i := 7) (v := .tuple #[.agg #[.slice A9 n9 c9], .int .i64 (Ln : Int), .int .i64 0]) rfl (by kernel_rfl) (by kernel_rfl) (by kernel_rfl) (fun _ _ _ h => h) (Or.inl ⟨by rfl, fun w' hw' => by go_simp⟩) hHeld ?_
                    try simp only [Act.put, List.getElem_toArray, List.getElem_cons_succ, List.getElem_cons_zero, List.setIfInBounds_toArray, List.set_cons_zero, List.set_cons_succ]
                    refine' wpAnyH_take (i := 8) (v := .agg #[.slice A9 n9 c9]) rfl (by kernel_rfl) (by kernel_rfl) (by kernel_rfl) (fun _ _ _ h => h) (Or.inl ⟨by rfl, fun w' hw' => by go_simp⟩) hHeld ?_
                    try simp only [Act.put, List.getElem_toArray, List.getElem_cons_succ, List.getElem_cons_zero, List.setIfInBounds_toArray, List.set_cons_zero, List.set_cons_succ]
                    refine' wpAnyH_take (i := 9) (v := .int .i64 (Ln : Int)) rfl (by kernel_rfl) (by kernel_rfl) (by kernel_rfl) (fun _ _ _ h => h) (Or.inl ⟨by rfl, fun w' hw' => by go_simp⟩) hHeld ?_
                    try simp only [Act.put, List.getElem_toArray, List.getElem_cons_succ, List.getElem_cons_zero, List.setIfInBounds_toArray, List.set_cons_zero, List.set_cons_succ]
                    refine' wpAnyH_take (i := 10) (v := .int .i64 0) rfl (by kernel_rfl) (by kernel_rfl) (by kernel_rfl) (fun _ _ _ h => h) (Or.inl ⟨by rfl, fun w' hw' => by go_simp⟩) hHeld ?_
                    try simp only [Act.put, List.getElem_toArray, List.getElem_cons_succ, List.getElem_cons_zero, List.setIfInBounds_toArray, List.set_cons_zero, List.set_cons_succ]
                    refine wpAnyH_ready (rs := [11]) (by kernel_rfl) (by simp) ?_
                    refine AllReadyH.cons rfl (fun K hK => ?_) AllReadyH.nil
                    refine wp_allocT rfl ?_
                    intro g11 V11 hn11 hB11 hb11
                    have n11 : W2.heap.size ≤ g11 := by have := hn11.out; have := hHeld.size; omega
                    have hH11 := hHeld.trans (hb11.mono hHeld.size)
                    replace hZ2 := hZ2.below hb11
                    refine hK.out _ _ hH11 (fun hHeld => ?_)
                    clear hK K hb11 hn11 hH11
                    try simp only [Act.put, List.getElem_toArray, List.getElem_cons_succ, List.getElem_cons_zero, List.setIfInBounds_toArray, List.set_cons_zero, List.set_cons_succ]
                    refine wpAnyH_ready (rs := [12]) (by kernel_rfl) (by simp) ?_
                    refine AllReadyH.cons rfl (fun K hK => ?_) AllReadyH.nil
                    refine (if_pos (by kernel_rfl)).mpr ?_
                    refine wp_store_whole 27 _ _ rfl g11 _ #[.slice A9 n9 c9] 27 hB11 rfl rfl (by kernel_rfl) rfl (by simp [Value.oneCell']) ?_
                    intro W9 hb9 hg9
                    replace hZ2 := hZ2.zs hB11 hg9
                    have hH9 : Below W2.heap.size W2 W9 := hHeld.grown hg9 hHeld.size (fun k e => by have := Option.some.inj e; omega)
                    refine hK.out _ _ hH9 (fun hHeld => ?_)
                    clear hK K hH9
                    try simp only [Act.put, List.getElem_toArray, List.getElem_cons_succ, List.getElem_cons_zero, List.setIfInBounds_toArray, List.set_cons_zero, List.set_cons_succ]
                    refine wpAnyH_ready (rs := [13]) (by kernel_rfl) (by simp) ?_
                    refine AllReadyH.cons rfl (fun K hK => ?_) AllReadyH.nil
                    go_simp
                    refine hK.out _ _ hHeld (fun hHeld => ?_)
                    clear hK K
                    try simp only [Act.put, List.getElem_toArray, List.getElem_cons_succ, List.getElem_cons_zero, List.setIfInBounds_toArray, List.set_cons_zero, List.set_cons_succ]
                    refine wpAnyH_ready (rs := [14]) (by kernel_rfl) (by simp) ?_
                    refine AllReadyH.cons rfl (fun K hK => ?_) AllReadyH.nil
                    go_simp
                    refine hK.out _ _ hHeld (fun hHeld => ?_)
                    clear hK K
                    try simp only [Act.put, List.getElem_toArray, List.getElem_cons_succ, List.getElem_cons_zero, List.setIfInBounds_toArray, List.set_cons_zero, List.set_cons_succ]
                    refine wpAnyH_done (by kernel_rfl) ?_ _
                    go_wp2_with (fail)
                    go_meet
                    exact ⟨g11, A9, n9, c9, rfl, rfl, rfl, ⟨hb9, ⟨Zs, hZ1, hZ2⟩, HN.out.w.trans (hHeld.mono HN.out.w.size)⟩, hHeld⟩
                · as_aux_lemma =>
                    refine wp_allocT rfl ?_
                    intro g11 V11 hn11 hB11 hb11
                    have n11 : W2.heap.size ≤ g11 := by have := hn11.out; have := hHeld.size; omega
                    have hH11 := hHeld.trans (hb11.mono hHeld.size)
                    replace hI2 := hI2.below hb11
                    replace hI3 := fun X hX => (hI3 X hX).below hb11
                    refine hK.out _ _ hH11 (fun hHeld => ?_)
                    clear hK K hb11 hn11 hH11
                    try simp only [Act.put, List.getElem_toArray, List.getElem_cons_succ, List.getElem_cons_zero, List.setIfInBounds_toArray, List.set_cons_zero, List.set_cons_succ]
                    refine wpAnyH_ready (rs := [6]) (by kernel_rfl) (by simp) ?_
                    refine AllReadyH.cons rfl (fun K hK => ?_) AllReadyH.nil
                    obtain ⟨Ys, hY1, hY2⟩ := (HN.out.below hHeld).s
                    have cT := tall_any A' n' c' Ys (some ⟨g5, 0, none⟩) Ln Ln Is _ hY2 (by rw [hY1]; exact HGL.out) (by rw [← List.length_map, hI1, hLn]) bLn hI2 hI3
                    rw [hI1, hY1] at cT
                    go_simp
                    (with_reducible refine cT.mono ?_)
                    rintro e6 V6 ⟨A9, n9, c9, i9, k9, rfl, hT, hb6⟩
                    obtain ⟨rfl, rfl, Zs, hZ1, hZ2⟩ := hT.okN HUN.out
                    have hH6 := hHeld.trans (hb6.mono hHeld.size)
                    replace hB11 := hB11.below hb6
                    refine hK.out _ _ hH6 (fun hHeld => ?_)
                    clear hK K hb6 hH6 cT hT
                    try simp only [Act.put, List.getElem_toArray, List.getElem_cons_succ, List.getElem_cons_zero, List.setIfInBounds_toArray, List.set_cons_zero, List.set_cons_succ]
                    refine' wpAnyH_take (i := 7) (v := .tuple #[.agg #[.slice A9 n9 c9], .int .i64 (Ln : Int), .int .i64 0]) rfl (by kernel_rfl) (by kernel_rfl) (by kernel_rfl) (fun _ _ _ h => h) (Or.inl ⟨by rfl, fun w' hw' => by go_simp⟩) hHeld ?_
                    try simp only [Act.put, List.getElem_toArray, List.getElem_cons_succ, List.getElem_cons_zero, List.setIfInBounds_toArray, List.set_cons_zero, List.set_cons_succ]
                    refine' wpAnyH_take (i := 8) (v := .agg #[.slice A9 n9 c9]) rfl (by kernel_rfl) (by kernel_rfl) (by kernel_rfl) (fun _ _ _ h => h) (Or.inl ⟨by rfl, fun w' hw' => by go_simp⟩) hHeld ?_
                    try simp only [Act.put, List.getElem_toArray, List.getElem_cons_succ, List.getElem_cons_zero, List.setIfInBounds_toArray, List.set_cons_zero, List.set_cons_succ]
                    refine' wpAnyH_take (i := 9) (v := .int .i64 (Ln : Int)) rfl (by kernel_rfl) (by kernel_rfl) (by kernel_rfl) (fun _ _ _ h => h) (Or.inl ⟨by rfl, fun w' hw' => by go_simp⟩) hHeld ?_
                    try simp only [Act.put, List.getElem_toArray, List.getElem_cons_succ, List.getElem_cons_zero, List.setIfInBounds_toArray, List.set_cons_zero, List.set_cons_succ]
                    refine' wpAnyH_take (i := 10) (v := .int .i64 0) rfl (by kernel_rfl) (by kernel_rfl) (by kernel_rfl) (fun _ _ _ h => h) (Or.inl ⟨by rfl, fun w' hw' => by go_simp⟩) hHeld ?_
                    try simp only [Act.put, List.getElem_toArray, List.getElem_cons_succ, List.getElem_cons_zero, List.setIfInBounds_toArray, List.set_cons_zero, List.set_cons_succ]
                    refine wpAnyH_ready (rs := [12]) (by kernel_rfl) (by simp) ?_
                    refine AllReadyH.cons rfl (fun K hK => ?_) AllReadyH.nil
                    refine (if_pos (by kernel_rfl)).mpr ?_
                    refine wp_store_whole 27 _ _ rfl g11 _ #[.slice A9 n9 c9] 27 hB11 rfl rfl (by kernel_rfl) rfl (by simp [Value.oneCell']) ?_
                    intro W9 hb9 hg9
                    replace hZ2 := hZ2.zs hB11 hg9
                    have hH9 : Below W2.heap.size W2 W9 := hHeld.grown hg9 hHeld.size (fun k e => by have := Option.some.inj e; omega)
                    refine hK.out _ _ hH9 (fun hHeld => ?_)
                    clear hK K hH9
                    try simp only [Act.put, List.getElem_toArray, List.getElem_cons_succ, List.getElem_cons_zero, List.setIfInBounds_toArray, List.set_cons_zero, List.set_cons_succ]
                    refine wpAnyH_ready (rs := [13]) (by kernel_rfl) (by simp) ?_
                    refine AllReadyH.cons rfl (fun K hK => ?_) AllReadyH.nil
                    go_simp
                    refine hK.out _ _ hHeld (fun hHeld => ?_)
                    clear hK K
                    try simp only [Act.put, List.getElem_toArray, List.getElem_cons_succ, List.getElem_cons_zero, List.setIfInBounds_toArray, List.set_cons_zero, List.set_cons_succ]
                    refine wpAnyH_ready (rs := [14]) (by kernel_rfl) (by simp) ?_
                    refine AllReadyH.cons rfl (fun K hK => ?_) AllReadyH.nil
                    go_simp
                    refine hK.out _ _ hHeld (fun hHeld => ?_)
                    clear hK K
                    try simp only [Act.put, List.getElem_toArray, List.getElem_cons_succ, List.getElem_cons_zero, List.setIfInBounds_toArray, List.set_cons_zero, List.set_cons_succ]
                    refine wpAnyH_done (by kernel_rfl) ?_ _
                    go_wp2_with (fail)
                    go_meet
                    exact ⟨g11, A9, n9, c9, rfl, rfl, rfl, ⟨hb9, ⟨Zs, hZ1, hZ2⟩, HN.out.w.trans (hHeld.mono HN.out.w.size)⟩, hHeld⟩
            · as_aux_lemma =>
                refine wp_allocT rfl ?_
                intro g11 V11 hn11 hB11 hb11
                have n11 : W2.heap.size ≤ g11 := by have := hn11.out; have := hHeld.size; omega
                have hH11 := hHeld.trans (hb11.mono hHeld.size)
                refine hK.out _ _ hH11 (fun hHeld => ?_)
                clear hK K hb11 hn11 hH11
                try simp only [Act.put, List.getElem_toArray, List.getElem_cons_succ, List.getElem_cons_zero, List.setIfInBounds_toArray, List.set_cons_zero, List.set_cons_succ]
                refine wpAnyH_ready (rs := [5]) (by kernel_rfl) (by simp) ?_
                refine AllReadyH.cons rfl (fun K hK => ?_) AllReadyH.nil
                go_simp
                (with_reducible refine (rinv_any X.D X.A X.n X.c X.B X.m X.d _ (HRX.out.below hHeld) hk14).mono ?_)
                rintro e5 V5 ⟨g5, Is, rfl, hI1, hI2, hI3, hb5⟩
                have hH5 := hHeld.trans (hb5.mono hHeld.size)
                replace hB11 := hB11.below hb5
                rw [hLn]
                refine hK.out _ _ hH5 (fun hHeld => ?_)
                clear hK K hb5 hH5
                try simp only [Act.put, List.getElem_toArray, List.getElem_cons_succ, List.getElem_cons_zero, List.setIfInBounds_toArray, List.set_cons_zero, List.set_cons_succ]
                refine wpAnyH_ready (rs := [6]) (by kernel_rfl) (by simp) ?_
                refine AllReadyH.cons rfl (fun K hK => ?_) AllReadyH.nil
                obtain ⟨Ys, hY1, hY2⟩ := (HN.out.below hHeld).s
                have cT := tall_any A' n' c' Ys (some ⟨g5, 0, none⟩) Ln Ln Is _ hY2 (by rw [hY1]; exact HGL.out) (by rw [← List.length_map, hI1, hLn]) bLn hI2 hI3
                rw [hI1, hY1] at cT
                go_simp
                (with_reducible refine cT.mono ?_)
                rintro e6 V6 ⟨A9, n9, c9, i9, k9, rfl, hT, hb6⟩
                obtain ⟨rfl, rfl, Zs, hZ1, hZ2⟩ := hT.okN HUN.out
                have hH6 := hHeld.trans (hb6.mono hHeld.size)
                replace hB11 := hB11.below hb6
                refine hK.out _ _ hH6 (fun hHeld => ?_)
                clear hK K hb6 hH6 cT hT
                try simp only [Act.put, List.getElem_toArray, List.getElem_cons_succ, List.getElem_cons_zero, List.setIfInBounds_toArray, List.set_cons_zero, List.set_cons_succ]
                refine' wpAnyH_take (i := 7) (v := .tuple #[.agg #[.slice A9 n9 c9], .int .i64 (Ln : Int), .int .i64 0]) rfl (by kernel_rfl) (by kernel_rfl) (by kernel_rfl) (fun _ _ _ h => h) (Or.inl ⟨by rfl, fun w' hw' => by go_simp⟩) hHeld ?_
                try simp only [Act.put, List.getElem_toArray, List.getElem_cons_succ, List.getElem_cons_zero, List.setIfInBounds_toArray, List.set_cons_zero, List.set_cons_succ]
                refine' wpAnyH_take (i := 8) (v := .agg #[.slice A9 n9 c9]) rfl (by kernel_rfl) (by kernel_rfl) (by kernel_rfl) (fun _ _ _ h => h) (Or.inl ⟨by rfl, fun w' hw' => by go_simp⟩) hHeld ?_
                try simp only [Act.put, List.getElem_toArray, List.getElem_cons_succ, List.getElem_cons_zero, List.setIfInBounds_toArray, List.set_cons_zero, List.set_cons_succ]
                refine' wpAnyH_take (i := 9) (v := .int .i64 (Ln : Int)) rfl (by kernel_rfl) (by kernel_rfl) (by kernel_rfl) (fun _ _ _ h => h) (Or.inl ⟨by rfl, fun w' hw' => by go_simp⟩) hHeld ?_
                try simp only [Act.put, List.getElem_toArray, List.getElem_cons_succ, List.getElem_cons_zero, List.setIfInBounds_toArray, List.set_cons_zero, List.set_cons_succ]
                refine' wpAnyH_take (i := 10) (v := .int .i64 0) rfl (by kernel_rfl) (by kernel_rfl) (by kernel_rfl) (fun _ _ _ h => h) (Or.inl ⟨by rfl, fun w' hw' => by go_simp⟩) hHeld ?_
                try simp only [Act.put, List.getElem_toArray, List.getElem_cons_succ, List.getElem_cons_zero, List.setIfInBounds_toArray, List.set_cons_zero, List.set_cons_succ]
                refine wpAnyH_ready (rs := [12]) (by kernel_rfl) (by simp) ?_
                refine AllReadyH.cons rfl (fun K hK => ?_) AllReadyH.nil
                refine (if_pos (by kernel_rfl)).mpr ?_
                refine wp_store_whole 27 _ _ rfl g11 _ #[.slice A9 n9 c9] 27 hB11 rfl rfl (by kernel_rfl) rfl (by simp [Value.oneCell']) ?_
                intro W9 hb9 hg9
                replace hZ2 := hZ2.zs hB11 hg9
                have hH9 : Below W2.heap.size W2 W9 := hHeld.grown hg9 hHeld.size (fun k e => by have := Option.some.inj e; omega)
                refine hK.out _ _ hH9 (fun hHeld => ?_)
                clear hK K hH9
                try simp only [Act.put, List.getElem_toArray, List.getElem_cons_succ, List.getElem_cons_zero, List.setIfInBounds_toArray, List.set_cons_zero, List.set_cons_succ]
                refine wpAnyH_ready (rs := [13]) (by kernel_rfl) (by simp) ?_
                refine AllReadyH.cons rfl (fun K hK => ?_) AllReadyH.nil
                go_simp
                refine hK.out _ _ hHeld (fun hHeld => ?_)
                clear hK K
                try simp only [Act.put, List.getElem_toArray, List.getElem_cons_succ, List.getElem_cons_zero, List.setIfInBounds_toArray, List.set_cons_zero, List.set_cons_succ]
                refine wpAnyH_ready (rs := [14]) (by kernel_rfl) (by simp) ?_
                refine AllReadyH.cons rfl (fun K hK => ?_) AllReadyH.nil
                go_simp
                refine hK.out _ _ hHeld (fun hHeld => ?_)
                clear hK K
                try simp only [Act.put, List.getElem_toArray, List.getElem_cons_succ, List.getElem_cons_zero, List.setIfInBounds_toArray, List.set_cons_zero, List.set_cons_succ]
                refine wpAnyH_done (by kernel_rfl) ?_ _
                go_wp2_with (fail)
                go_meet
                exact ⟨g11, A9, n9, c9, rfl, rfl, rfl, ⟨hb9, ⟨Zs, hZ1, hZ2⟩, HN.out.w.trans (hHeld.mono HN.out.w.size)⟩, hHeld⟩
          case rest =>
            obtain ⟨g11, A9, n9, c9, rfl, rfl, rfl, HC, hbc⟩ := hcut
            have hbC := (below_drew10 wr).trans (hbc.mono (below_drew10 wr).size)
            have HNC := hid (HI.out.1.below hbC)
            replace HRX := hid (HRX.out.below hbC)
            have hg2 := hg.below hbC
            have HC2 := hid HC
            have hcb := HC.b
            clear hg y0 hbw hbc HC
            go_wp2_with (first
              | (with_reducible refine wpList_load_opr (by with_unfolding_all rfl) _ rfl _ _ rfl hg2 hK ?_)
              | (go_at_call 10; (with_reducible refine (rinv_any X.D X.A X.n X.c X.B X.m X.d _ HRX.out hk14).mono ?_); rintro e5 w6 ⟨g5, Is, rfl, hI1, hI2, hI3, hb5⟩; rw [hLn]; have HC3 := hid (HC2.out.below hb5); have HN3 := hid (HNC.out.below hb5); have hcb3 := HC3.out.b; have hnb3 := HN3.out.b; clear hI1 hI2 hI3 hb5)
              | (with_reducible refine wpList_load_tree (by with_unfolding_all rfl) _ rfl _ rfl hcb3 ?_)
              | (with_reducible refine wpList_store_tree rfl _ _ rfl g9 A9 n9 c9 hnb3 rfl rfl ?_; intro W9 hb9 hg9))
            go_roundw
            case rel => exact ⟨j, _, A9, n9, c9, N, by first | rfl | trivial, by first | rfl | go_num, by omega, hid ⟨HN3.out.put HC3.out hb9 hg9 HLE.out, HN2.out, HN1.out⟩⟩
            case measure => simp [intOf]; try omega
  | error qe =>
    obtain ⟨q0, er⟩ := qe
    obtain ⟨rfl, rfl, rfl, rfl, rfl, her⟩ := HT2.out.errN hd
    obtain ⟨-, hq1, M, hq2⟩ := allF_err _ 0 [] q0 k1 hd
    rw [Nat.sub_zero, List.length_map, HNN.out] at hq1
    rw [Nat.sub_zero, ← List.map_take] at hq2
    rcases HQ.out with ⟨Zs2, A2, n2, c2, rfl, rfl, rfl, e1, e2, e3, e4, e5⟩ | ⟨k, e, rfl, rfl, rfl, e1, e2⟩
    case inl => rw [hd] at e1; cases e1
    rw [hd] at e1
    injection e1 with e1
    injection e1 with e1 e3
    subst e1 e3
    have HM := hid hq2
    have her0 : ¬ k1 = 0 := her
    obtain ⟨hsl, hst⟩ := slice_opsT A n c q0 Xs w HNN.out HSS.out hq1 hnc
    have cA2 := fun W (h : Below w.heap.size w W) => tall_nil A q0 c (Xs.take q0) W (by rw [List.length_take, HNN.out]; omega) (by omega) (hst W (HSS.out.below h)) (fun X hX => (HOO.out X (List.mem_of_mem_take hX)).below h)
    have HGM := hid (allF_good _ 0 [] M GoodF.nil hq2)
    have HTK := hid (show allF 0 [] ((Xs.map OpV.D).take q0) = .ok M by rw [← List.map_take]; exact hq2)
    clear HT2 HQ hd her e2 hst hq2
    go_upto_region 7 with (first
      | (with_reducible refine wpList_load_tree (by with_unfolding_all rfl) _ rfl _ rfl h3 ?_)
      | (go_at_call 9; (with_reducible refine (tplain_any none 0 0 [] _ ⟨RwT.nil_ _, by simp⟩ (by omega)).mono ?_); rintro e4 w4 ⟨A5, c5, rfl, Zs, hp1, hp2, hp3, hp4, hb4⟩; have HP := hid (And.intro hp1 (And.intro hp2 (And.intro hp3 hp4))); clear hp1 hp2 hp3 hp4)
      | (go_at_call 8; (with_reducible refine (rsame14_eq A5 0 c5 Zs none 0 [] _ HP.out.2.1 (by omega) HP.out.2.2.1 HP.out.2.2.2 (FlRd.nil_ _ _) (by simp) HP.out.1).mono ?_); rintro e5 w5 ⟨rfl, hb5⟩))
    have hb45 := hb4.trans (hb5.mono hb4.size)
    replace h3 := h3.below hb45
    replace hb := hb.trans (hb45.mono hb.size)
    go_upto_region 8 with (first
      | (with_reducible refine wpList_load_tree (by with_unfolding_all rfl) _ rfl _ rfl h3 ?_))
    have hbx := (Below.refl w5.heap.size w5).alloc (Nat.le_refl _) (.cells #[.slice none 0 0] 27)
    have h9 := Blk.new w5 27 #[.slice none 0 0]
    have HLE := hid (show w.heap.size ≤ w5.heap.size from hb.size)
    have hne := Nat.ne_of_lt h3.lt
    replace h3 := h3.below hbx
    replace hb := hb.trans (hbx.mono hb.size)
    have w1n : wrap64 ((q0 : Int) - 1) = (q0 : Int) - 1 := by unfold wrap64; omega
    clear HP hb4 hb5 hb45 hbx
    generalize w5.alloc (.cells #[.slice none 0 0] 27) = W7 at *
    generalize w5.heap.size = g9 at *
    go_upto_region 13 with (first
      | (go_at_call 6; (with_reducible refine (cA2 _ hb).mono ?_); rintro e6 w6 ⟨A9, n9, c9, i9, k9, rfl, hT9, hb6⟩; obtain ⟨rfl, rfl, Zs9, hZ1, hZ2⟩ := hT9.okN HM.out; replace h3 := h3.below hb6; replace h9 := h9.below hb6; replace hb := hb.trans (hb6.mono hb.size); clear hb6 hT9)
      | (with_reducible refine wpList_store_tree rfl _ _ rfl g3 A9 n9 c9 h3 rfl rfl ?_; intro Wa ha hga; have h9a := blk_gb h9 hga (Ne.symm hne))
      | (with_reducible refine wpList_load_tree (by with_unfolding_all rfl) _ rfl _ rfl ha ?_)
      | (with_reducible refine wpList_store_tree rfl _ _ rfl g9 A9 n9 c9 h9a rfl rfl ?_; intro W9 hb9 hg9))
    have hbA : Below w.heap.size w Wa := hb.trans (below_of_gb hga hwle hb.size)
    have HN0 := hid (show NowS w W9 g9 A9 n9 c9 M ∧ GoodF M ∧ allF 0 [] ((Xs.map OpV.D).take q0) = .ok M from ⟨⟨hb9, ⟨Zs9, hZ1, (hZ2.zs h3 hga).zs h9a hg9⟩, hbA.trans (below_of_gb hg9 HLE.out hbA.size)⟩, HGM.out, HTK.out⟩)
    clear ha hga h3 h9 h9a hb9 hg9 hZ1 hZ2 hb hbA HM HGM HTK cA2
    go_wp2_with (fail)
    go_loopw [10] (fun i wr => ∃ (k : Nat) (z : Int) (A' : Option Addr) (n' c' : Nat) (L : List FD), z = (k : Int) - 1 ∧ i = .int .i64 z ∧ k ≤ n ∧ Hid (NowS w wr g9 A' n' c' L ∧ GoodF L ∧ allF 0 [] ((Xs.map OpV.D).take k) = .ok L)) (fun i _ => (intOf i + 1).toNat)
    case atStart => exact ⟨q0, _, A9, n9, c9, M, by first | rfl | trivial, by first | rfl | go_num, by omega, hid ⟨HN0.out.1, HN0.out.2.1, HN0.out.2.2⟩⟩
    case round =>
      clear HN0
      obtain ⟨k, z, A', n', c', L, hz, rfl, hk, HI⟩ := hrel
      have hnb := HI.out.1.b
      cases k with
      | zero =>
        have hz0 : ¬ (0 : Int) ≤ z := by omega
        clear hz
        have hL0 : L = [] := by
          have := HI.out.2.2
          rw [List.take_zero, allF] at this
          injection this with this
          exact this.symm
        have hn0 : n' = 0 := by have := HI.out.1.len; rw [hL0] at this; exact this.symm
        subst hn0
        have hbw := HI.out.1.w
        have cL0 : ∀ W, Calls Try.prog 11 #[.agg #[.slice A' 0 c']] W fun e w' => e = .returned (.int .i64 0) ∧ Below W.heap.size W w' := fun W => tlen_any A' 0 c' W
        go_wp2_with (first
          | (with_reducible refine wpList_load_tree (by with_unfolding_all rfl) _ rfl _ rfl hnb ?_)
          | (go_at_call 11; (with_reducible refine (cL0 _).mono ?_); rintro e7 w7 ⟨rfl, hb7⟩; replace hbw := hbw.trans (hb7.mono hbw.size); clear hb7)
          | (go_at_call 5; (with_reducible refine (awake14_any _).mono ?_); rintro e8 w8 ⟨rfl, hb8⟩; replace hbw := hbw.trans (hb8.mono hbw.size); clear hb8))
        go_ret
        exact ⟨rfl, hbw⟩
      | succ j =>
        obtain rfl : z = (j : Int) := by omega
        clear hz
        have hjn : j < n := by omega
        have b0 : (0 : Int) ≤ (j : Int) := by omega
        have b1 : (j : Int) < n := by omega
        obtain ⟨X, hXk⟩ : ∃ X, Xs[j]? = some X := ⟨_, List.getElem?_eq_getElem (by rw [HNN.out]; exact hjn)⟩
        have hbw := HI.out.1.w
        obtain ⟨g, q, hg, hK, hix⟩ := (HSS.out.below hbw).pick c HNN.out hXk
        unfold OpV.cs at hg
        have HRX := hid ((HOO.out X (List.mem_of_getElem? hXk)).below hbw)
        obtain ⟨N, s1, s2, s3, s4, s5⟩ := step_back HI.out.2.2 (ops_at Xs j X hXk)
        have HN1 := hid s1
        have HN2 := hid s2
        have y0 : wr.cell? ⟨g, q, none⟩ = some (.int .i64 X.D.k) := by
          have := hg 0 (.int .i64 X.D.k) (by rw [Array.getElem?_toList]; exact opC_0 _ _ _ _ _ _ _)
          rwa [Nat.add_zero] at this
        have w1j : wrap64 ((j : Int) - 1) = (j : Int) - 1 := by unfold wrap64; omega
        clear hXk s1 s2 s3
        by_cases h4 : 4 < X.D.k
        · have hNL := s4 h4
          subst hNL
          clear s4 s5
          go_wp2_with (fail)
          go_roundw
          case rel => exact ⟨j, _, A', n', c', N, by first | rfl | trivial, by first | rfl | go_num, by omega, hid ⟨HI.out.1, HN2.out, HN1.out⟩⟩
          case measure => simp [intOf]; try omega
        · have hk14 : 1 ≤ X.D.k ∧ X.D.k ≤ 4 := ⟨(s5 (by omega)).1, by omega⟩
          have HUN := hid (s5 (by omega)).2
          clear s4 s5
          obtain ⟨Ln, hLn⟩ : ∃ l, (invD X.D).length = l := ⟨_, rfl⟩
          have bLn : Ln ≤ 1000 := by
            rw [← hLn]
            unfold invD
            repeat' split
            all_goals simp
          have HGL := hid HI.out.2.1
          go_upto_region 17 with (fail)
          go_cut [11, 12, 13] (fun s11 s12 s13 wx => ∃ g11 A9 n9 c9, s11 = .pointer (some ⟨g11, 0, none⟩) ∧ s12 = .int .i64 (Ln : Int) ∧ s13 = .int .i64 0 ∧ NowS w wx g11 A9 n9 c9 N ∧ Below wr.drew.heap.size wr.drew wx)
          case first =>
            refine wp_region_held_drew (S := fun V => Below wr.drew.heap.size wr.drew V) (by kernel_rfl) (Below.refl _ _) (fun hHeld => ?_)
            have hd := below_drew10 wr
            have HN := hid (HI.out.1.below hd)
            replace HRX := hid (HRX.out.below hd)
            replace hg := hg.below hd
            clear y0 hnb HI hbw w1j HN1 HN2
            generalize wr.drew = W2 at *
            refine' wpAnyH_take (i := 0) (v := .agg #[.slice A' n' c']) rfl (by kernel_rfl) (by kernel_rfl) (by kernel_rfl) (fun _ _ _ h => h) (yields_tree (by rfl) _ rfl _ rfl (fun w' hw' => (HN.out.b.below hw').cell_ rfl)) hHeld ?_
            try simp only [Act.put, List.getElem_toArray, List.getElem_cons_succ, List.getElem_cons_zero, List.setIfInBounds_toArray, List.set_cons_zero, List.set_cons_succ]
            refine' wpAnyH_take (i := 1) (v := .slice A n c) rfl (by kernel_rfl) (by kernel_rfl) (by kernel_rfl) (fun _ _ _ h => h) (Or.inl ⟨by rfl, fun w' hw' => by go_simp⟩) hHeld ?_
            try simp only [Act.put, List.getElem_toArray, List.getElem_cons_succ, List.getElem_cons_zero, List.setIfInBounds_toArray, List.set_cons_zero, List.set_cons_succ]
            refine' wpAnyH_take (i := 2) (v := .int .i64 (j : Int)) rfl (by kernel_rfl) (by kernel_rfl) (by kernel_rfl) (fun _ _ _ h => h) (Or.inl ⟨by rfl, fun w' hw' => by go_simp⟩) hHeld ?_
            try simp only [Act.put, List.getElem_toArray, List.getElem_cons_succ, List.getElem_cons_zero, List.setIfInBounds_toArray, List.set_cons_zero, List.set_cons_succ]
            refine' wpAnyH_take (i := 3) (v := .pointer (some ⟨g, q, none⟩)) rfl (by kernel_rfl) (by kernel_rfl) (by kernel_rfl) (fun _ _ _ h => h) (Or.inl ⟨by rfl, fun w' hw' => by go_simp⟩) hHeld ?_
            try simp only [Act.put, List.getElem_toArray, List.getElem_cons_succ, List.getElem_cons_zero, List.setIfInBounds_toArray, List.set_cons_zero, List.set_cons_succ]
            refine' wpAnyH_take (i := 4) (v := .agg (opC X.D X.A X.n X.c X.B X.m X.d)) rfl (by kernel_rfl) (by kernel_rfl) (by kernel_rfl) (fun _ _ _ h => h) (yields_opq (by rfl) _ rfl _ _ rfl (fun w' hw' => hg.below hw') hK) hHeld ?_
            try simp only [Act.put, List.getElem_toArray, List.getElem_cons_succ, List.getElem_cons_zero, List.setIfInBounds_toArray, List.set_cons_zero, List.set_cons_succ]
            refine wpAnyH_ready (rs := [5, 11]) (by kernel_rfl) (by simp) ?_
            refine AllReadyH.cons rfl (fun K hK => ?_) (AllReadyH.cons rfl (fun K hK => ?_) AllReadyH.nil)
            · as_aux_lemma =>
                go_simp
                (with_reducible refine (rinv_any X.D X.A X.n X.c X.B X.m X.d _ (HRX.out.below hHeld) hk14).mono ?_)
                rintro e5 V5 ⟨g5, Is, rfl, hI1, hI2, hI3, hb5⟩
                have hH5 := hHeld.trans (hb5.mono hHeld.size)
                rw [hLn]
                refine hK.out _ _ hH5 (fun hHeld => ?_)
                clear hK K hb5 hH5
                try simp only [Act.put, List.getElem_toArray, List.getElem_cons_succ, List.getElem_cons_zero, List.setIfInBounds_toArray, List.set_cons_zero, List.set_cons_succ]
                refine wpAnyH_ready (rs := [6, 11]) (by kernel_rfl) (by simp) ?_
                refine AllReadyH.cons rfl (fun K hK => ?_) (AllReadyH.cons rfl (fun K hK => ?_) AllReadyH.nil)
                · as_aux_lemma =>
                    obtain ⟨Ys, hY1, hY2⟩ := (HN.out.below hHeld).s
                    have cT := tall_any A' n' c' Ys (some ⟨g5, 0, none⟩) Ln Ln Is _ hY2 (by rw [hY1]; exact HGL.out) (by rw [← List.length_map, hI1, hLn]) bLn hI2 hI3
                    rw [hI1, hY1] at cT
                    go_simp
                    (with_reducible refine cT.mono ?_)
                    rintro e6 V6 ⟨A9, n9, c9, i9, k9, rfl, hT, hb6⟩
                    obtain ⟨rfl, rfl, Zs, hZ1, hZ2⟩ := hT.okN HUN.out
                    have hH6 := hHeld.trans (hb6.mono hHeld.size)
                    refine hK.out _ _ hH6 (fun hHeld => ?_)
                    clear hK K hb6 hH6 cT hT
                    try simp only [Act.put, List.getElem_toArray, List.getElem_cons_succ, List.getElem_cons_zero, List.setIfInBounds_toArray, List.set_cons_zero, List.set_cons_succ]
                    refine' wpAnyH_take (i := 7) (v := .tuple #[.agg #[.slice A9 n9 c9], .int .i64 (Ln : Int), .int .i64 0]) rfl (by kernel_rfl) (by kernel_rfl) (by kernel_rfl) (fun _ _ _ h => h) (Or.inl ⟨by rfl, fun w' hw' => by go_simp⟩) hHeld ?_
                    try simp only [Act.put, List.getElem_toArray, List.getElem_cons_succ, List.getElem_cons_zero, List.setIfInBounds_toArray, List.set_cons_zero, List.set_cons_succ]
                    refine' wpAnyH_take (i := 8) (v := .agg #[.slice A9 n9 c9]) rfl (by kernel_rfl) (by kernel_rfl) (by kernel_rfl) (fun _ _ _ h => h) (Or.inl ⟨by rfl, fun w' hw' => by go_simp⟩) hHeld ?_
                    try simp only [Act.put, List.getElem_toArray, List.getElem_cons_succ, List.getElem_cons_zero, List.setIfInBounds_toArray, List.set_cons_zero, List.set_cons_succ]
                    refine' wpAnyH_take (i := 9) (v := .int .i64 (Ln : Int)) rfl (by kernel_rfl) (by kernel_rfl) (by kernel_rfl) (fun _ _ _ h => h) (Or.inl ⟨by rfl, fun w' hw' => by go_simp⟩) hHeld ?_
                    try simp only [Act.put, List.getElem_toArray, List.getElem_cons_succ, List.getElem_cons_zero, List.setIfInBounds_toArray, List.set_cons_zero, List.set_cons_succ]
                    refine' wpAnyH_take (i := 10) (v := .int .i64 0) rfl (by kernel_rfl) (by kernel_rfl) (by kernel_rfl) (fun _ _ _ h => h) (Or.inl ⟨by rfl, fun w' hw' => by go_simp⟩) hHeld ?_
                    try simp only [Act.put, List.getElem_toArray, List.getElem_cons_succ, List.getElem_cons_zero, List.setIfInBounds_toArray, List.set_cons_zero, List.set_cons_succ]
                    refine wpAnyH_ready (rs := [11]) (by kernel_rfl) (by simp) ?_
                    refine AllReadyH.cons rfl (fun K hK => ?_) AllReadyH.nil
                    refine wp_allocT rfl ?_
                    intro g11 V11 hn11 hB11 hb11
                    have n11 : W2.heap.size ≤ g11 := by have := hn11.out; have := hHeld.size; omega
                    have hH11 := hHeld.trans (hb11.mono hHeld.size)
                    replace hZ2 := hZ2.below hb11
                    refine hK.out _ _ hH11 (fun hHeld => ?_)
                    clear hK K hb11 hn11 hH11
                    try simp only [Act.put, List.getElem_toArray, List.getElem_cons_succ, List.getElem_cons_zero, List.setIfInBounds_toArray, List.set_cons_zero, List.set_cons_succ]
                    refine wpAnyH_ready (rs := [12]) (by kernel_rfl) (by simp) ?_
                    refine AllReadyH.cons rfl (fun K hK => ?_) AllReadyH.nil
                    refine (if_pos (by kernel_rfl)).mpr ?_
                    refine wp_store_whole 27 _ _ rfl g11 _ #[.slice A9 n9 c9] 27 hB11 rfl rfl (by kernel_rfl) rfl (by simp [Value.oneCell']) ?_
                    intro W9 hb9 hg9
                    replace hZ2 := hZ2.zs hB11 hg9
                    have hH9 : Below W2.heap.size W2 W9 := hHeld.grown hg9 hHeld.size (fun k e => by have := Option.some.inj e; omega)
                    refine hK.out _ _ hH9 (fun hHeld => ?_)
                    clear hK K hH9
                    try simp only [Act.put, List.getElem_toArray, List.getElem_cons_succ, List.getElem_cons_zero, List.setIfInBounds_toArray, List.set_cons_zero, List.set_cons_succ]
                    refine wpAnyH_ready (rs := [13]) (by kernel_rfl) (by simp) ?_
                    refine AllReadyH.cons rfl (fun K hK => ?_) AllReadyH.nil
                    go_simp
                    refine hK.out _ _ hHeld (fun hHeld => ?_)
                    clear hK K
                    try simp only [Act.put, List.getElem_toArray, List.getElem_cons_succ, List.getElem_cons_zero, List.setIfInBounds_toArray, List.set_cons_zero, List.set_cons_succ]
                    refine wpAnyH_ready (rs := [14]) (by kernel_rfl) (by simp) ?_
                    refine AllReadyH.cons rfl (fun K hK => ?_) AllReadyH.nil
                    go_simp
                    refine hK.out _ _ hHeld (fun hHeld => ?_)
                    clear hK K
                    try simp only [Act.put, List.getElem_toArray, List.getElem_cons_succ, List.getElem_cons_zero, List.setIfInBounds_toArray, List.set_cons_zero, List.set_cons_succ]
                    refine wpAnyH_done (by kernel_rfl) ?_ _
                    go_wp2_with (fail)
                    go_meet
                    exact ⟨g11, A9, n9, c9, rfl, rfl, rfl, ⟨hb9, ⟨Zs, hZ1, hZ2⟩, HN.out.w.trans (hHeld.mono HN.out.w.size)⟩, hHeld⟩
                · as_aux_lemma =>
                    refine wp_allocT rfl ?_
                    intro g11 V11 hn11 hB11 hb11
                    have n11 : W2.heap.size ≤ g11 := by have := hn11.out; have := hHeld.size; omega
                    have hH11 := hHeld.trans (hb11.mono hHeld.size)
                    replace hI2 := hI2.below hb11
                    replace hI3 := fun X hX => (hI3 X hX).below hb11
                    refine hK.out _ _ hH11 (fun hHeld => ?_)
                    clear hK K hb11 hn11 hH11
                    try simp only [Act.put, List.getElem_toArray, List.getElem_cons_succ, List.getElem_cons_zero, List.setIfInBounds_toArray, List.set_cons_zero, List.set_cons_succ]
                    refine wpAnyH_ready (rs := [6]) (by kernel_rfl) (by simp) ?_
                    refine AllReadyH.cons rfl (fun K hK => ?_) AllReadyH.nil
                    obtain ⟨Ys, hY1, hY2⟩ := (HN.out.below hHeld).s
                    have cT := tall_any A' n' c' Ys (some ⟨g5, 0, none⟩) Ln Ln Is _ hY2 (by rw [hY1]; exact HGL.out) (by rw [← List.length_map, hI1, hLn]) bLn hI2 hI3
                    rw [hI1, hY1] at cT
                    go_simp
                    (with_reducible refine cT.mono ?_)
                    rintro e6 V6 ⟨A9, n9, c9, i9, k9, rfl, hT, hb6⟩
                    obtain ⟨rfl, rfl, Zs, hZ1, hZ2⟩ := hT.okN HUN.out
                    have hH6 := hHeld.trans (hb6.mono hHeld.size)
                    replace hB11 := hB11.below hb6
                    refine hK.out _ _ hH6 (fun hHeld => ?_)
                    clear hK K hb6 hH6 cT hT
                    try simp only [Act.put, List.getElem_toArray, List.getElem_cons_succ, List.getElem_cons_zero, List.setIfInBounds_toArray, List.set_cons_zero, List.set_cons_succ]
                    refine' wpAnyH_take (i := 7) (v := .tuple #[.agg #[.slice A9 n9 c9], .int .i64 (Ln : Int), .int .i64 0]) rfl (by kernel_rfl) (by kernel_rfl) (by kernel_rfl) (fun _ _ _ h => h) (Or.inl ⟨by rfl, fun w' hw' => by go_simp⟩) hHeld ?_
                    try simp only [Act.put, List.getElem_toArray, List.getElem_cons_succ, List.getElem_cons_zero, List.setIfInBounds_toArray, List.set_cons_zero, List.set_cons_succ]
                    refine' wpAnyH_take (i := 8) (v := .agg #[.slice A9 n9 c9]) rfl (by kernel_rfl) (by kernel_rfl) (by kernel_rfl) (fun _ _ _ h => h) (Or.inl ⟨by rfl, fun w' hw' => by go_simp⟩) hHeld ?_
                    try simp only [Act.put, List.getElem_toArray, List.getElem_cons_succ, List.getElem_cons_zero, List.setIfInBounds_toArray, List.set_cons_zero, List.set_cons_succ]
                    refine' wpAnyH_take (i := 9) (v := .int .i64 (Ln : Int)) rfl (by kernel_rfl) (by kernel_rfl) (by kernel_rfl) (fun _ _ _ h => h) (Or.inl ⟨by rfl, fun w' hw' => by go_simp⟩) hHeld ?_
                    try simp only [Act.put, List.getElem_toArray, List.getElem_cons_succ, List.getElem_cons_zero, List.setIfInBounds_toArray, List.set_cons_zero, List.set_cons_succ]
                    refine' wpAnyH_take (i := 10) (v := .int .i64 0) rfl (by kernel_rfl) (by kernel_rfl) (by kernel_rfl) (fun _ _ _ h => h) (Or.inl ⟨by rfl, fun w' hw' => by go_simp⟩) hHeld ?_
                    try simp only [Act.put, List.getElem_toArray, List.getElem_cons_succ, List.getElem_cons_zero, List.setIfInBounds_toArray, List.set_cons_zero, List.set_cons_succ]
                    refine wpAnyH_ready (rs := [12]) (by kernel_rfl) (by simp) ?_
                    refine AllReadyH.cons rfl (fun K hK => ?_) AllReadyH.nil
                    refine (if_pos (by kernel_rfl)).mpr ?_
                    refine wp_store_whole 27 _ _ rfl g11 _ #[.slice A9 n9 c9] 27 hB11 rfl rfl (by kernel_rfl) rfl (by simp [Value.oneCell']) ?_
                    intro W9 hb9 hg9
                    replace hZ2 := hZ2.zs hB11 hg9
                    have hH9 : Below W2.heap.size W2 W9 := hHeld.grown hg9 hHeld.size (fun k e => by have := Option.some.inj e; omega)
                    refine hK.out _ _ hH9 (fun hHeld => ?_)
                    clear hK K hH9
                    try simp only [Act.put, List.getElem_toArray, List.getElem_cons_succ, List.getElem_cons_zero, List.setIfInBounds_toArray, List.set_cons_zero, List.set_cons_succ]
                    refine wpAnyH_ready (rs := [13]) (by kernel_rfl) (by simp) ?_
                    refine AllReadyH.cons rfl (fun K hK => ?_) AllReadyH.nil
                    go_simp
                    refine hK.out _ _ hHeld (fun hHeld => ?_)
                    clear hK K
                    try simp only [Act.put, List.getElem_toArray, List.getElem_cons_succ, List.getElem_cons_zero, List.setIfInBounds_toArray, List.set_cons_zero, List.set_cons_succ]
                    refine wpAnyH_ready (rs := [14]) (by kernel_rfl) (by simp) ?_
                    refine AllReadyH.cons rfl (fun K hK => ?_) AllReadyH.nil
                    go_simp
                    refine hK.out _ _ hHeld (fun hHeld => ?_)
                    clear hK K
                    try simp only [Act.put, List.getElem_toArray, List.getElem_cons_succ, List.getElem_cons_zero, List.setIfInBounds_toArray, List.set_cons_zero, List.set_cons_succ]
                    refine wpAnyH_done (by kernel_rfl) ?_ _
                    go_wp2_with (fail)
                    go_meet
                    exact ⟨g11, A9, n9, c9, rfl, rfl, rfl, ⟨hb9, ⟨Zs, hZ1, hZ2⟩, HN.out.w.trans (hHeld.mono HN.out.w.size)⟩, hHeld⟩
            · as_aux_lemma =>
                refine wp_allocT rfl ?_
                intro g11 V11 hn11 hB11 hb11
                have n11 : W2.heap.size ≤ g11 := by have := hn11.out; have := hHeld.size; omega
                have hH11 := hHeld.trans (hb11.mono hHeld.size)
                refine hK.out _ _ hH11 (fun hHeld => ?_)
                clear hK K hb11 hn11 hH11
                try simp only [Act.put, List.getElem_toArray, List.getElem_cons_succ, List.getElem_cons_zero, List.setIfInBounds_toArray, List.set_cons_zero, List.set_cons_succ]
                refine wpAnyH_ready (rs := [5]) (by kernel_rfl) (by simp) ?_
                refine AllReadyH.cons rfl (fun K hK => ?_) AllReadyH.nil
                go_simp
                (with_reducible refine (rinv_any X.D X.A X.n X.c X.B X.m X.d _ (HRX.out.below hHeld) hk14).mono ?_)
                rintro e5 V5 ⟨g5, Is, rfl, hI1, hI2, hI3, hb5⟩
                have hH5 := hHeld.trans (hb5.mono hHeld.size)
                replace hB11 := hB11.below hb5
                rw [hLn]
                refine hK.out _ _ hH5 (fun hHeld => ?_)
                clear hK K hb5 hH5
                try simp only [Act.put, List.getElem_toArray, List.getElem_cons_succ, List.getElem_cons_zero, List.setIfInBounds_toArray, List.set_cons_zero, List.set_cons_succ]
                refine wpAnyH_ready (rs := [6]) (by kernel_rfl) (by simp) ?_
                refine AllReadyH.cons rfl (fun K hK => ?_) AllReadyH.nil
                obtain ⟨Ys, hY1, hY2⟩ := (HN.out.below hHeld).s
                have cT := tall_any A' n' c' Ys (some ⟨g5, 0, none⟩) Ln Ln Is _ hY2 (by rw [hY1]; exact HGL.out) (by rw [← List.length_map, hI1, hLn]) bLn hI2 hI3
                rw [hI1, hY1] at cT
                go_simp
                (with_reducible refine cT.mono ?_)
                rintro e6 V6 ⟨A9, n9, c9, i9, k9, rfl, hT, hb6⟩
                obtain ⟨rfl, rfl, Zs, hZ1, hZ2⟩ := hT.okN HUN.out
                have hH6 := hHeld.trans (hb6.mono hHeld.size)
                replace hB11 := hB11.below hb6
                refine hK.out _ _ hH6 (fun hHeld => ?_)
                clear hK K hb6 hH6 cT hT
                try simp only [Act.put, List.getElem_toArray, List.getElem_cons_succ, List.getElem_cons_zero, List.setIfInBounds_toArray, List.set_cons_zero, List.set_cons_succ]
                refine' wpAnyH_take (i := 7) (v := .tuple #[.agg #[.slice A9 n9 c9], .int .i64 (Ln : Int), .int .i64 0]) rfl (by kernel_rfl) (by kernel_rfl) (by kernel_rfl) (fun _ _ _ h => h) (Or.inl ⟨by rfl, fun w' hw' => by go_simp⟩) hHeld ?_
                try simp only [Act.put, List.getElem_toArray, List.getElem_cons_succ, List.getElem_cons_zero, List.setIfInBounds_toArray, List.set_cons_zero, List.set_cons_succ]
                refine' wpAnyH_take (i := 8) (v := .agg #[.slice A9 n9 c9]) rfl (by kernel_rfl) (by kernel_rfl) (by kernel_rfl) (fun _ _ _ h => h) (Or.inl ⟨by rfl, fun w' hw' => by go_simp⟩) hHeld ?_
                try simp only [Act.put, List.getElem_toArray, List.getElem_cons_succ, List.getElem_cons_zero, List.setIfInBounds_toArray, List.set_cons_zero, List.set_cons_succ]
                refine' wpAnyH_take (i := 9) (v := .int .i64 (Ln : Int)) rfl (by kernel_rfl) (by kernel_rfl) (by kernel_rfl) (fun _ _ _ h => h) (Or.inl ⟨by rfl, fun w' hw' => by go_simp⟩) hHeld ?_
                try simp only [Act.put, List.getElem_toArray, List.getElem_cons_succ, List.getElem_cons_zero, List.setIfInBounds_toArray, List.set_cons_zero, List.set_cons_succ]
                refine' wpAnyH_take (i := 10) (v := .int .i64 0) rfl (by kernel_rfl) (by kernel_rfl) (by kernel_rfl) (fun _ _ _ h => h) (Or.inl ⟨by rfl, fun w' hw' => by go_simp⟩) hHeld ?_
                try simp only [Act.put, List.getElem_toArray, List.getElem_cons_succ, List.getElem_cons_zero, List.setIfInBounds_toArray, List.set_cons_zero, List.set_cons_succ]
                refine wpAnyH_ready (rs := [12]) (by kernel_rfl) (by simp) ?_
                refine AllReadyH.cons rfl (fun K hK => ?_) AllReadyH.nil
                refine (if_pos (by kernel_rfl)).mpr ?_
                refine wp_store_whole 27 _ _ rfl g11 _ #[.slice A9 n9 c9] 27 hB11 rfl rfl (by kernel_rfl) rfl (by simp [Value.oneCell']) ?_
                intro W9 hb9 hg9
                replace hZ2 := hZ2.zs hB11 hg9
                have hH9 : Below W2.heap.size W2 W9 := hHeld.grown hg9 hHeld.size (fun k e => by have := Option.some.inj e; omega)
                refine hK.out _ _ hH9 (fun hHeld => ?_)
                clear hK K hH9
                try simp only [Act.put, List.getElem_toArray, List.getElem_cons_succ, List.getElem_cons_zero, List.setIfInBounds_toArray, List.set_cons_zero, List.set_cons_succ]
                refine wpAnyH_ready (rs := [13]) (by kernel_rfl) (by simp) ?_
                refine AllReadyH.cons rfl (fun K hK => ?_) AllReadyH.nil
                go_simp
                refine hK.out _ _ hHeld (fun hHeld => ?_)
                clear hK K
                try simp only [Act.put, List.getElem_toArray, List.getElem_cons_succ, List.getElem_cons_zero, List.setIfInBounds_toArray, List.set_cons_zero, List.set_cons_succ]
                refine wpAnyH_ready (rs := [14]) (by kernel_rfl) (by simp) ?_
                refine AllReadyH.cons rfl (fun K hK => ?_) AllReadyH.nil
                go_simp
                refine hK.out _ _ hHeld (fun hHeld => ?_)
                clear hK K
                try simp only [Act.put, List.getElem_toArray, List.getElem_cons_succ, List.getElem_cons_zero, List.setIfInBounds_toArray, List.set_cons_zero, List.set_cons_succ]
                refine wpAnyH_done (by kernel_rfl) ?_ _
                go_wp2_with (fail)
                go_meet
                exact ⟨g11, A9, n9, c9, rfl, rfl, rfl, ⟨hb9, ⟨Zs, hZ1, hZ2⟩, HN.out.w.trans (hHeld.mono HN.out.w.size)⟩, hHeld⟩
          case rest =>
            obtain ⟨g11, A9, n9, c9, rfl, rfl, rfl, HC, hbc⟩ := hcut
            have hbC := (below_drew10 wr).trans (hbc.mono (below_drew10 wr).size)
            have HNC := hid (HI.out.1.below hbC)
            replace HRX := hid (HRX.out.below hbC)
            have hg2 := hg.below hbC
            have HC2 := hid HC
            have hcb := HC.b
            clear hg y0 hbw hbc HC
            go_wp2_with (first
              | (with_reducible refine wpList_load_opr (by with_unfolding_all rfl) _ rfl _ _ rfl hg2 hK ?_)
              | (go_at_call 10; (with_reducible refine (rinv_any X.D X.A X.n X.c X.B X.m X.d _ HRX.out hk14).mono ?_); rintro e5 w6 ⟨g5, Is, rfl, hI1, hI2, hI3, hb5⟩; rw [hLn]; have HC3 := hid (HC2.out.below hb5); have HN3 := hid (HNC.out.below hb5); have hcb3 := HC3.out.b; have hnb3 := HN3.out.b; clear hI1 hI2 hI3 hb5)
              | (with_reducible refine wpList_load_tree (by with_unfolding_all rfl) _ rfl _ rfl hcb3 ?_)
              | (with_reducible refine wpList_store_tree rfl _ _ rfl g9 A9 n9 c9 hnb3 rfl rfl ?_; intro W9 hb9 hg9))
            go_roundw
            case rel => exact ⟨j, _, A9, n9, c9, N, by first | rfl | trivial, by first | rfl | go_num, by omega, hid ⟨HN3.out.put HC3.out hb9 hg9 HLE.out, HN2.out, HN1.out⟩⟩
            case measure => simp [intOf]; try omega

theorem treeAll_any (A : Option Addr) (n c : Nat) (hnc : n ≤ c) (Xs : List OpV) (w : World) (hR : OpRow w A n Xs) :
    Calls Try.prog 3 #[.slice A n c] w fun e w' => e = .returned (.bool true) ∧ Below w.heap.size w w' := by
  cases hf : fewT Xs with
  | false => exact tl_no A n c Xs w hR hf
  | true => exact tl_yes A n c hnc Xs w hR hf

section
open Go.ChangeShapes Go.WideShapes Go.ChangeAt
open Go.ChangeMaps (open_string shut_string)
theorem own_TreeAll : ownKnob Try.prog.godebug = none := by kernel_rfl
theorem laidOut_TreeAll : laidOutB Try.prog = true := by kernel_rfl
set_option linter.unusedVariables false in
set_option maxRecDepth 100000 in
theorem lifted_TreeAll (os : Os) (started : os.Started) (H : Type) (enc : TypeId × Value → H) :
    ReturnsInHanded {} Try.checked os 3 .any (Rows.treeAllSpec.pre6 enc Try.prog Try.f3 Rows.treeAllRow.domain false) (Rows.treeAllSpec.post enc Try.prog Try.f3 false true false false) := by
  refine returnsInHanded_of_change (C := Try.checked) own_TreeAll started (by kernel_rfl) Try.func3
    (ChangeSpec.witness6 (enc := enc) (C := Try.checked) false ⟨#[], #[.slice none 0 0], []⟩ 8 (by kernel_rfl) (by kernel_rfl) (by kernel_rfl) (by kernel_rfl)) ?_
  intro W base args ds gs before hval0 hW hcnd _
  have hval : ∀ (j : Nat) t v, Try.f3.params[j]? = some t → args[j]? = some v → Value.okWide Try.prog W .any base t v := hval0
  have hW' := hW
  obtain ⟨p, q, hA0, hV, rfl, hfz, hnd⟩ := hW
  have hA1 : DataW.TrodAll enc Try.prog W 0 (fun _ => true) true Try.f3.params.toList args.toList ds p := hA0
  have hA : DataW.TrodAll enc Try.prog W 0 (fun _ => true) true Try.f3.params.toList args.toList ds p := hA0
  rw [Try.params3] at hA hval
  obtain ⟨v0, vs0, d0, ds0, p0, q0, hargs, rfl, rfl, h0, r0⟩ := trodAll_cons hA
  obtain ⟨rfl, rfl, rfl⟩ := trodAll_nil r0
  obtain rfl : args = #[v0] := by cases args; simp_all
  obtain ⟨rfl, rfl⟩ := trodVars_none hV
  obtain ⟨A0, n0, c0, Xs, rfl, hX9⟩ := open_opRow (hval 0 22 v0 rfl rfl) h0
  have hc9 := open_opCap (hval 0 22 _ rfl rfl) h0 A0 n0 c0 rfl
  clear hA0 hval0
  refine (treeAll_any A0 n0 c0 hc9 Xs W hX9).mono fun e W' ⟨he, bel⟩ => ?_
  subst he
  exact ⟨_, rfl, _, _, _, [], _, [], hW', trodAll_mk1 (shut_bool Try.underlying4 _), trodAll_stays laidOut_TreeAll bel (by kernel_rfl) hA1, rfl, bel.frame _, fun h => by cases h⟩

/-- The statement. -/
theorem TreeAll_holds : Rows.TreeAllSaid :=
  OpenClaim.holds_of_wide 3 Try.f3 rfl rfl rfl rfl rfl rfl rfl ⟨rfl, rfl, rfl, rfl, rfl⟩ rfl rfl rfl rfl rfl (by kernel_rfl) Try.func3 (by kernel_rfl)
    (of_decide_eq_true (by kernel_rfl)) (by unfold Func.isWrapper; first | (rw [if_pos (by decide +kernel)]; kernel_rfl) | (rw [if_neg (by decide +kernel)]; exact ⟨rfl, rfl⟩))
    (fun os started H enc _ => lifted_TreeAll os started H enc)
end
#print axioms TreeAll_holds
end Go.Proofs.Ytodfaakodgedbaa

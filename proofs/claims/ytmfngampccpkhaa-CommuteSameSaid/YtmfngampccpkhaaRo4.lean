
/- commute.swapped: two rows in the other order, as far as they go. -/
import Derived.Test.YtmfngampccpkhaaRo3
import Derived.Deep.LoopGhost
set_option linter.unusedSimpArgs false
set_option linter.unusedVariables false
namespace Go.Proofs.Ytmfngampccpkhaa
open Go.RowKit Go.Qc Go.Shelf
attribute [local go_sem] txt_size txt_append ib_fold txt_toL

theorem pair_one (x y : Int) : (#[Value.int .i64 x, Value.int .i64 y] : Array Value).all (·.oneCell') = true := by
  have h0 : ∀ x, (Value.int .i64 x).oneCell' = true := fun _ => rfl
  simp [h0]
set_option maxRecDepth 100000 in
set_option maxHeartbeats 40000000 in
theorem swapped_any (A : Option Addr) (n c : Nat) (Xs : List OpV) (B : Option Addr) (m d : Nat) (Ys : List OpV) (w : World) (hn : Xs.length = n) (bn : n ≤ 1000) (hr : OpRd w A Xs) (hX : ∀ X ∈ Xs, OpR w X.D X.A X.n X.B X.m) (hm : Ys.length = m) (bm : m ≤ 1000) (hs : OpRd w B Ys) (hY : ∀ X ∈ Ys, OpR w X.D X.A X.n X.B X.m) :
    Calls Try.prog 16 #[.slice A n c, .slice B m d] w fun e w' => (∃ A1 c1 A2 c2 g1 g2 Fs Ts, e = .returned (.tuple #[.slice A1 m c1, .slice A2 n c2, .agg #[.int .i64 0, .int .i64 0], .bool false]) ∧ Fs.length = m ∧ Ts.length = n ∧ rowsF 0 (Ys.map OpV.D) (Xs.map OpV.D) = .ok (Fs.map OpV.D, Ts.map OpV.D) ∧ RowG w' w.heap.size g1 A1 Fs ∧ RowG w' w.heap.size g2 A2 Ts ∧ (∀ X ∈ Fs, OpOw w' w.heap.size X) ∧ (∀ X ∈ Ts, OpOw w' w.heap.size X) ∧ Below w.heap.size w w') ∨
      (∃ (A1 A2 : Option Addr) (c1 c2 : Nat) (i k : Nat), e = .returned (.tuple #[.slice A1 m c1, .slice A2 n c2, .agg #[.int .i64 i, .int .i64 k], .bool true]) ∧ rowsF 0 (Ys.map OpV.D) (Xs.map OpV.D) = .error (i, k) ∧ Below w.heap.size w w') := by
  have hb0 : Below w.heap.size w (w.alloc (.cells #[.int .i64 0, .int .i64 0] 47)) := (Below.refl _ w).alloc (Nat.le_refl _) _
  have hp0 := Blk.new w 47 #[.int .i64 0, .int .i64 0]
  have hz0 : (w.alloc (.cells #[.int .i64 0, .int .i64 0] 47)).heap.size = w.heap.size + 1 := by simp
  have cB := fun (W : World) (h : Below w.heap.size w W) => cloned_any B m d Ys W hm bm (hs.below h) (fun X hx => (hY X hx).below h)
  have cA := fun (W : World) (h : Below w.heap.size w W) => cloned_any A n c Xs W hn bn (hr.below h) (fun X hx => (hX X hx).below h)
  have bn9 : n ≤ 9223372036854775807 := by omega
  have bm9 : m ≤ 9223372036854775807 := by omega
  have HN := hid hn
  have HM := hid hm
  clear hn hm hX hY hr hs
  go_enter Try.func16, Try.ntmps16
  go_wp2_with (fail)
  go_step3
  go_wp2_with (first
    | (go_at_call 28; (with_reducible refine (cB _ hb0).mono ?_); rintro o1 w1 ⟨AF, cF, gF, Fs, rfl, hF1, hF2, hF3, hb1⟩; have hb1' := hb0.trans (hb1.mono hb0.size))
    | (go_at_call 28; (with_reducible refine (cA _ hb1').mono ?_); rintro o2 w2 ⟨AT, cT, gT, Ts, rfl, hT1, hT2, hT3, hb2⟩; have hb2' := hb1'.trans (hb2.mono hb1'.size)))
  go_step3
  go_wp2
  clear cA cB
  have hS : SwS w w2 gF gT AF AT Fs Ts #[.int .i64 0, .int .i64 0] := by
    rw [hz0] at hF2 hF3
    have l1 : w.heap.size + 1 ≤ w1.heap.size := by have := hb1.size; rw [hz0] at this; exact this
    refine ⟨hF2.below hb2, hT2.le l1, fun X hX => ((hF3 X hX).below hb2).le (by omega), fun X hX => (hT3 X hX).le (by omega), ?_, (hp0.below hb1).below hb2, hb2'⟩
    rcases hF2 with h | ⟨_, _, cs, h, _⟩
    · exact .inl h
    · rcases hT2 with h' | ⟨_, h', _⟩
      · exact .inr (.inl h')
      · exact .inr (.inr (by have := h.lt; omega))
  have HD : Hid (Fs.map OpV.D = Ys.map OpV.D ∧ Ts.map OpV.D = Xs.map OpV.D) := hid ⟨hF1, hT1⟩
  clear hF1 hF2 hF3 hT1 hT2 hT3 hb1 hb2 hb2' hp0 hb0 hb1'
  go_loopg [7, 19] m (fun g t i wr => ∃ (k : Nat) (P R Tr : List OpV), k + g = m ∧ i = .int .i64 k ∧ t = .bool false ∧ SwS w wr gF gT AF AT (P ++ R) Tr #[.int .i64 0, .int .i64 0] ∧ Hid (P.length = k ∧ R.length = g ∧ Tr.length = n ∧ rowsF 0 (Ys.map OpV.D) (Xs.map OpV.D) = thenR (P.map OpV.D) (rowsF k (R.map OpV.D) (Tr.map OpV.D))))
  case atStart =>
    refine ⟨0, [], Fs, Ts, by omega, rfl, rfl, hS, hid ⟨rfl, ?_, ?_, ?_⟩⟩
    · have := congrArg List.length HD.out.1
      rw [List.length_map, List.length_map, HM.out] at this
      exact this
    · have := congrArg List.length HD.out.2
      rw [List.length_map, List.length_map, HN.out] at this
      exact this
    · rw [HD.out.1, HD.out.2]; exact (thenR_nil _).symm
  case round =>
    clear hS HD
    obtain ⟨k, P, R, Tr, hkg, rfl, rfl, hS, HI⟩ := hrel
    cases gk with
    | zero =>
      have hkz : ¬ (k : Int) < m := by omega
      obtain rfl : R = [] := List.eq_nil_of_length_eq_zero HI.out.2.1
      go_wp2_with (fail)
      refine wp_region_held_drew (S := fun W => Blk W w.heap.size 47 #[.int .i64 0, .int .i64 0]) (by kernel_rfl) (hS.pr.below (below_drew10 _)) (fun hHeld => ?_)
      refine' wpAnyH_take (i := 0) (v := .slice AF m cF) rfl (by kernel_rfl) (by kernel_rfl) (by kernel_rfl) (fun _ _ _ h => h) (Or.inl ⟨by rfl, fun w' hw' => by go_simp⟩) hHeld ?_
      try simp only [Act.put, List.getElem_toArray, List.getElem_cons_succ, List.getElem_cons_zero, List.setIfInBounds_toArray, List.set_cons_zero, List.set_cons_succ]
      refine' wpAnyH_take (i := 1) (v := .slice AT n cT) rfl (by kernel_rfl) (by kernel_rfl) (by kernel_rfl) (fun _ _ _ h => h) (Or.inl ⟨by rfl, fun w' hw' => by go_simp⟩) hHeld ?_
      try simp only [Act.put, List.getElem_toArray, List.getElem_cons_succ, List.getElem_cons_zero, List.setIfInBounds_toArray, List.set_cons_zero, List.set_cons_succ]
      refine' wpAnyH_take (i := 2) (v := .agg #[.int .i64 0, .int .i64 0]) rfl (by kernel_rfl) (by kernel_rfl) (by kernel_rfl) (fun _ _ _ h => h) (yieldsIf_load_mid (by rfl) 47 _ rfl w.heap.size 0 rfl (#[.int .i64 0, .int .i64 0]).toList _ (fun w' h j u hj => by rw [Nat.zero_add]; exact h.cell_ (by rw [← Array.getElem?_toList]; exact hj)) Try.underlying47 rfl infoPair) hHeld ?_
      try simp only [Act.put, List.getElem_toArray, List.getElem_cons_succ, List.getElem_cons_zero, List.setIfInBounds_toArray, List.set_cons_zero, List.set_cons_succ]
      refine' wpAnyH_take (i := 3) (v := .bool false) rfl (by kernel_rfl) (by kernel_rfl) (by kernel_rfl) (fun _ _ _ h => h) (Or.inl ⟨by rfl, fun w' hw' => by go_simp⟩) hHeld ?_
      try simp only [Act.put, List.getElem_toArray, List.getElem_cons_succ, List.getElem_cons_zero, List.setIfInBounds_toArray, List.set_cons_zero, List.set_cons_succ]
      refine' wpAnyH_take (i := 4) (v := .slice AF m cF) rfl (by kernel_rfl) (by kernel_rfl) (by kernel_rfl) (fun _ _ _ h => h) (Or.inl ⟨by rfl, fun w' hw' => by go_simp⟩) hHeld ?_
      try simp only [Act.put, List.getElem_toArray, List.getElem_cons_succ, List.getElem_cons_zero, List.setIfInBounds_toArray, List.set_cons_zero, List.set_cons_succ]
      refine' wpAnyH_take (i := 5) (v := .slice AT n cT) rfl (by kernel_rfl) (by kernel_rfl) (by kernel_rfl) (fun _ _ _ h => h) (Or.inl ⟨by rfl, fun w' hw' => by go_simp⟩) hHeld ?_
      try simp only [Act.put, List.getElem_toArray, List.getElem_cons_succ, List.getElem_cons_zero, List.setIfInBounds_toArray, List.set_cons_zero, List.set_cons_succ]
      refine wpAnyH_ready (rs := [6]) (by kernel_rfl) (by simp) ?_
      refine AllReadyH.cons rfl (fun K hK => ?_) AllReadyH.nil
      refine wp_store_whole 47 _ _ rfl w.heap.size #[.int .i64 0, .int .i64 0] #[.int .i64 0, .int .i64 0] 47 hHeld rfl rfl infoPair rfl (pair_one _ _) ?_
      intro V9 b9 q9
      refine hK.out _ _ b9 (fun hHeld => ?_)
      clear hK K
      try simp only [Act.put, List.getElem_toArray, List.getElem_cons_succ, List.getElem_cons_zero, List.setIfInBounds_toArray, List.set_cons_zero, List.set_cons_succ]
      refine' wpAnyH_take (i := 7) (v := .bool false) rfl (by kernel_rfl) (by kernel_rfl) (by kernel_rfl) (fun _ _ _ h => h) (Or.inl ⟨by rfl, fun w' hw' => by go_simp⟩) hHeld ?_
      try simp only [Act.put, List.getElem_toArray, List.getElem_cons_succ, List.getElem_cons_zero, List.setIfInBounds_toArray, List.set_cons_zero, List.set_cons_succ]
      refine wpAnyH_done (by kernel_rfl) ?_ _
      go_wp2
      rw [Exit.noGoto_ret]
      go_wp2_with (fail)
      refine bodyPost_ret (results_swd rfl rfl rfl rfl b9 rfl) rfl ?_
      have hE := (hS.below (below_drew10 _)).fin q9
      obtain ⟨i1, _, i3, i4⟩ := HI.out
      rw [List.append_nil] at hE
      refine .inl ⟨AF, cF, AT, cT, gF, gT, P, Tr, rfl, by omega, i3, ?_, hE.1, hE.2.1, hE.2.2.1, hE.2.2.2.1, hE.2.2.2.2⟩
      rw [i4, List.map_nil, rowsF]
      unfold thenR
      simp only [List.append_nil]

    | succ g =>
      have hkz : (k : Int) < m := by omega
      obtain ⟨y, R', rfl⟩ : ∃ y R', R = y :: R' := by
        cases R with
        | nil => have := HI.out.2.1; simp at this
        | cons y R' => exact ⟨y, R', rfl⟩
      go_wp2
      go_loopg [7, 9] n (fun g2 t i wy => ∃ (T1 T2 : List OpV) (y' : OpV), i = .int .i64 ((g2 : Int) - 1) ∧ t = .bool false ∧ SwS w wy gF gT AF AT (P ++ y' :: R') (T1 ++ T2) #[.int .i64 0, .int .i64 0] ∧ Hid (T1.length = g2 ∧ (T1 ++ T2).length = n ∧ ahF (Tr.map OpV.D) y.D = thenF (ahF (T1.map OpV.D) y'.D) (T2.map OpV.D)))
      case atStart =>
        exact ⟨Tr, [], y, by go_num, rfl, by rw [List.append_nil]; exact hS, hid ⟨HI.out.2.2.1, by rw [List.append_nil]; exact HI.out.2.2.1, by rw [List.map_nil, thenF_nil]⟩⟩
      case round =>
        clear hS
        obtain ⟨T1, T2, y', rfl, rfl, hS, HJ⟩ := hrel
        cases gk with
        | zero =>
          go_wp2
          go_roundg g
          case measure => omega
          case rel =>
            obtain rfl : T1 = [] := List.eq_nil_of_length_eq_zero HJ.out.1
            obtain ⟨i1, i2, i3, i4⟩ := HI.out
            obtain ⟨j1, j2, j3⟩ := HJ.out
            refine ⟨k + 1, P ++ [y'], R', T2, by omega, by go_num, rfl, by rw [List.append_assoc]; exact hS, hid ⟨by simp [i1], by simpa using i2, by simpa using j2, ?_⟩⟩
            rw [i4, List.map_cons, rowsF_yes (p := y'.D) (T' := T2.map OpV.D) (by rw [j3]; rfl), List.map_append, List.map_singleton]
        | succ g2 =>
          obtain ⟨T3, x, rfl⟩ : ∃ T3 x, T1 = T3 ++ [x] := by
            have hne : T1 ≠ [] := by intro h; have := HJ.out.1; rw [h] at this; simp at this
            exact ⟨T1.dropLast, T1.getLast hne, (List.dropLast_concat_getLast hne).symm⟩
          rw [show ((g2 + 1 : Nat) : Int) - 1 = (g2 : Int) by omega]
          rw [List.append_assoc, List.singleton_append] at hS
          have hT3 : T3.length = g2 := by have := HJ.out.1; simp at this; exact this
          have hPl : P.length = k := HI.out.1
          obtain ⟨rfl, hFl, -⟩ := hS.rF hPl
          obtain ⟨rfl, hTl, -⟩ := hS.rT hT3
          have ixF := index_ops gF m cF k (by omega)
          have ixT := index_ops gT n cT g2 (by have := HJ.out.2.1; simp at this; omega)
          have KX := (hS.tO x (by simp)).hK
          have KY := (hS.fo y' (by simp)).hK
          have hg2 : (0 : Int) ≤ g2 := by omega
          have hg3 : g2 ≤ 1000 := by have := HJ.out.2.1; simp at this; omega
          obtain ⟨b, HA⟩ : ∃ b, Hid (apB x.D y'.D = b) := ⟨_, hid rfl⟩
          have cS : ∀ W, SwS w W gF gT (some ⟨gF, 0, none⟩) (some ⟨gT, 0, none⟩) (P ++ y' :: R') (T3 ++ x :: T2) #[.int .i64 0, .int .i64 0] → Calls Try.prog 29 #[.agg (opC x.D x.A x.n x.c x.B x.m x.d), .agg (opC y'.D y'.A y'.n y'.c y'.B y'.m y'.d)] W fun e w' => ∃ Y1 Y2 : OpV, e = .returned (.tuple #[.agg (opC Y1.D Y1.A Y1.n Y1.c Y1.B Y1.m Y1.d), .agg (opC Y2.D Y2.A Y2.n Y2.c Y2.B Y2.m Y2.d), .bool b]) ∧ SwP w' w.heap.size x y' Y1 Y2 b ∧ Below W.heap.size W w' := fun W h => by
            rw [← HA.out]
            exact cswap_row x y' w.heap.size W (h.tO x (by simp)).rd (h.fo y' (by simp)).rd h.bel.size
          have HP := hid hPl
          have HT := hid hT3
          clear hPl hT3
          go_wp2_with (fail)
          have hPl := HP.out
          have hT3 := HT.out
          refine Code.wp_mono (Q := fun ex a' W => ex = .normal ∧ ∃ g7 g8 Y1 Y2 t25 t26 t27 t28 t29 t30 t31 t32 t33 t34 t35 t36 t37 t38 t39 t40 t41 t42 t43 t44 t45 t46 t47 t48 t49 t50 t51 t52 t53 t54, a' = { tmps := #[.slice A n c, .slice B m d, undef, undef, .slice (some ⟨gF, 0, none⟩) m cF, .slice (some ⟨gT, 0, none⟩) n cT, .pointer (some ⟨w.heap.size, 0, none⟩), .bool false, .int .i64 k, .int .i64 g2, .pointer (some ⟨g7, 0, none⟩), .pointer (some ⟨g8, 0, none⟩), .bool b, .slice B m d, .slice (some ⟨gF, 0, none⟩) m cF, .slice A n c, .slice (some ⟨gT, 0, none⟩) n cT, .slice (some ⟨gF, 0, none⟩) m cF, .int .i64 m, .int .i64 k, .bool true, .int .i64 k, .slice (some ⟨gT, 0, none⟩) n cT, .int .i64 n, .int .i64 ((n : Int) - 1), t25, t26, t27, t28, t29, t30, t31, t32, t33, t34, t35, t36, t37, t38, t39, t40, t41, t42, t43, t44, t45, t46, t47, t48, t49, t50, t51, t52, t53, t54, u55, undef, undef, undef, undef], defers := [] } ∧ SwS w W gF gT (some ⟨gF, 0, none⟩) (some ⟨gT, 0, none⟩) (P ++ y' :: R') (T3 ++ x :: T2) #[.int .i64 0, .int .i64 0] ∧ Blk W g7 42 (opC Y1.D Y1.A Y1.n Y1.c Y1.B Y1.m Y1.d) ∧ Blk W g8 42 (opC Y2.D Y2.A Y2.n Y2.c Y2.B Y2.m Y2.d) ∧ gF ≠ g7 ∧ gT ≠ g7 ∧ gF ≠ g8 ∧ gT ≠ g8 ∧ w.heap.size < g7 ∧ w.heap.size < g8 ∧ SwP W w.heap.size x y' Y1 Y2 b) ?cont ?reg
          case reg =>
            obtain ⟨zc, hzc, hz0⟩ : ∃ zc : Array Value, Hid (zc = #[.int .i64 0, .string ⟨#[]⟩, .string ⟨#[]⟩, .int .i64 0, .slice none 0 0, .slice none 0 0, .int .u8 0, .int .u8 0, .int .u8 0, .int .u8 0, .int .u8 0, .int .u8 0, .int .u8 0, .int .u8 0, .int .u8 0, .int .u8 0, .int .u8 0, .int .u8 0, .int .u8 0, .int .u8 0, .int .u8 0, .int .u8 0, .int .u8 0, .int .u8 0, .int .u8 0, .int .u8 0, .int .u8 0, .int .u8 0, .int .u8 0, .int .u8 0, .int .u8 0, .int .u8 0, .int .u8 0, .int .u8 0, .int .u8 0, .int .u8 0, .int .u8 0, .int .u8 0, .int .i64 0]) ∧ zc.size = 39 := ⟨_, hid rfl, rfl⟩
            refine wp_region_held_drew (S := fun W => SwS w W gF gT (some ⟨gF, 0, none⟩) (some ⟨gT, 0, none⟩) (P ++ y' :: R') (T3 ++ x :: T2) #[.int .i64 0, .int .i64 0]) (by kernel_rfl) (hS.below (below_drew10 _)) (fun hHeld => ?_)
            generalize World.drew _ = W1 at *
            clear hS
            refine' wpAnyH_take (i := 0) (v := .slice (some ⟨gT, 0, none⟩) n cT) rfl (by kernel_rfl) (by kernel_rfl) (by kernel_rfl) (fun _ _ _ h => nomatch h.1) (Or.inl ⟨by rfl, fun w' hw' => by go_simp⟩) hHeld ?_
            try simp only [Act.put, List.getElem_toArray, List.getElem_cons_succ, List.getElem_cons_zero, List.setIfInBounds_toArray, List.set_cons_zero, List.set_cons_succ]
            refine' wpAnyH_take (i := 1) (v := .int .i64 g2) rfl (by kernel_rfl) (by kernel_rfl) (by kernel_rfl) (fun _ _ _ h => nomatch h.1) (Or.inl ⟨by rfl, fun w' hw' => by go_simp⟩) hHeld ?_
            try simp only [Act.put, List.getElem_toArray, List.getElem_cons_succ, List.getElem_cons_zero, List.setIfInBounds_toArray, List.set_cons_zero, List.set_cons_succ]
            refine' wpAnyH_take (i := 2) (v := .pointer (some ⟨gT, g2 * 39, none⟩)) rfl (by kernel_rfl) (by kernel_rfl) (by kernel_rfl) (fun _ _ _ h => nomatch h.1) (Or.inl ⟨by rfl, fun w' hw' => by go_simp⟩) hHeld ?_
            try simp only [Act.put, List.getElem_toArray, List.getElem_cons_succ, List.getElem_cons_zero, List.setIfInBounds_toArray, List.set_cons_zero, List.set_cons_succ]
            refine' wpAnyH_take (i := 3) (v := .agg (opC x.D x.A x.n x.c x.B x.m x.d)) rfl (by kernel_rfl) (by kernel_rfl) (by kernel_rfl) (fun _ _ _ h => nomatch h.1) (yields_opr (by rfl) _ rfl _ _ rfl (fun w' h => (h.rT hT3).2.2.2.1) KX) hHeld ?_
            try simp only [Act.put, List.getElem_toArray, List.getElem_cons_succ, List.getElem_cons_zero, List.setIfInBounds_toArray, List.set_cons_zero, List.set_cons_succ]
            refine' wpAnyH_take (i := 4) (v := .slice (some ⟨gF, 0, none⟩) m cF) rfl (by kernel_rfl) (by kernel_rfl) (by kernel_rfl) (fun _ _ _ h => nomatch h.1) (Or.inl ⟨by rfl, fun w' hw' => by go_simp⟩) hHeld ?_
            try simp only [Act.put, List.getElem_toArray, List.getElem_cons_succ, List.getElem_cons_zero, List.setIfInBounds_toArray, List.set_cons_zero, List.set_cons_succ]
            refine' wpAnyH_take (i := 5) (v := .int .i64 k) rfl (by kernel_rfl) (by kernel_rfl) (by kernel_rfl) (fun _ _ _ h => nomatch h.1) (Or.inl ⟨by rfl, fun w' hw' => by go_simp⟩) hHeld ?_
            try simp only [Act.put, List.getElem_toArray, List.getElem_cons_succ, List.getElem_cons_zero, List.setIfInBounds_toArray, List.set_cons_zero, List.set_cons_succ]
            refine' wpAnyH_take (i := 6) (v := .pointer (some ⟨gF, k * 39, none⟩)) rfl (by kernel_rfl) (by kernel_rfl) (by kernel_rfl) (fun _ _ _ h => nomatch h.1) (Or.inl ⟨by rfl, fun w' hw' => by go_simp⟩) hHeld ?_
            try simp only [Act.put, List.getElem_toArray, List.getElem_cons_succ, List.getElem_cons_zero, List.setIfInBounds_toArray, List.set_cons_zero, List.set_cons_succ]
            refine' wpAnyH_take (i := 7) (v := .agg (opC y'.D y'.A y'.n y'.c y'.B y'.m y'.d)) rfl (by kernel_rfl) (by kernel_rfl) (by kernel_rfl) (fun _ _ _ h => nomatch h.1) (yields_opr (by rfl) _ rfl _ _ rfl (fun w' h => (h.rF hPl).2.2.2.1) KY) hHeld ?_
            try simp only [Act.put, List.getElem_toArray, List.getElem_cons_succ, List.getElem_cons_zero, List.setIfInBounds_toArray, List.set_cons_zero, List.set_cons_succ]
            refine wpAnyH_ready (rs := [8, 13, 14]) (by kernel_rfl) (by simp) ?_
            refine AllReadyH.cons rfl (fun K hK => ?_) (AllReadyH.cons rfl (fun K hK => ?_) (AllReadyH.cons rfl (fun K hK => ?_) AllReadyH.nil))
            · as_aux_lemma =>
                go_simp
                (with_reducible refine (cS _ hHeld).mono ?_)
                rintro e9 W1x ⟨Y1, Y2, rfl, hres, hb⟩
                have KA := hres.1
                have KB := hres.2.1
                refine hK.out _ _ (hHeld.below hb) (fun hHeld => ?_)
                clear hK K hb
                try simp only [Act.put, List.getElem_toArray, List.getElem_cons_succ, List.getElem_cons_zero, List.setIfInBounds_toArray, List.set_cons_zero, List.set_cons_succ]
                refine' wpAnyH_take (i := 9) (v := .tuple #[.agg (opC Y1.D Y1.A Y1.n Y1.c Y1.B Y1.m Y1.d), .agg (opC Y2.D Y2.A Y2.n Y2.c Y2.B Y2.m Y2.d), .bool b]) rfl (by kernel_rfl) (by kernel_rfl) (by kernel_rfl) (fun _ _ _ h => nomatch h.1) (Or.inl ⟨by rfl, fun w' hw' => by go_simp⟩) hHeld ?_
                try simp only [Act.put, List.getElem_toArray, List.getElem_cons_succ, List.getElem_cons_zero, List.setIfInBounds_toArray, List.set_cons_zero, List.set_cons_succ]
                refine' wpAnyH_take (i := 10) (v := .agg (opC Y1.D Y1.A Y1.n Y1.c Y1.B Y1.m Y1.d)) rfl (by kernel_rfl) (by kernel_rfl) (by kernel_rfl) (fun _ _ _ h => nomatch h.1) (Or.inl ⟨by rfl, fun w' hw' => by go_simp⟩) hHeld ?_
                try simp only [Act.put, List.getElem_toArray, List.getElem_cons_succ, List.getElem_cons_zero, List.setIfInBounds_toArray, List.set_cons_zero, List.set_cons_succ]
                refine' wpAnyH_take (i := 11) (v := .agg (opC Y2.D Y2.A Y2.n Y2.c Y2.B Y2.m Y2.d)) rfl (by kernel_rfl) (by kernel_rfl) (by kernel_rfl) (fun _ _ _ h => nomatch h.1) (Or.inl ⟨by rfl, fun w' hw' => by go_simp⟩) hHeld ?_
                try simp only [Act.put, List.getElem_toArray, List.getElem_cons_succ, List.getElem_cons_zero, List.setIfInBounds_toArray, List.set_cons_zero, List.set_cons_succ]
                refine' wpAnyH_take (i := 12) (v := .bool b) rfl (by kernel_rfl) (by kernel_rfl) (by kernel_rfl) (fun _ _ _ h => nomatch h.1) (Or.inl ⟨by rfl, fun w' hw' => by go_simp⟩) hHeld ?_
                try simp only [Act.put, List.getElem_toArray, List.getElem_cons_succ, List.getElem_cons_zero, List.setIfInBounds_toArray, List.set_cons_zero, List.set_cons_succ]
                refine wpAnyH_ready (rs := [13, 14]) (by kernel_rfl) (by simp) ?_
                refine AllReadyH.cons rfl (fun K hK => ?_) (AllReadyH.cons rfl (fun K hK => ?_) AllReadyH.nil)
                · as_aux_lemma =>
                    go_simp
                    rw [← hzc.out]
                    have hb : Below W1x.heap.size W1x (W1x.alloc (.cells zc 42)) := (Below.refl _ _).alloc (Nat.le_refl _) _
                    have z7 := Blk.new W1x 42 zc
                    have p7 : gF ≠ W1x.heap.size := by have := (hHeld.rF hPl).2.2.1; omega
                    have q7 : gT ≠ W1x.heap.size := by have := (hHeld.rT hT3).2.2.1; omega
                    have n7 : w.heap.size < W1x.heap.size := hHeld.pr.lt
                    replace hres := hres.below hb
                    refine hK.out _ _ (hHeld.below hb) (fun hHeld => ?_)
                    clear hK K hb
                    generalize W1x.alloc (.cells zc 42) = W1xx at *
                    generalize W1x.heap.size = g7 at *
                    try simp only [Act.put, List.getElem_toArray, List.getElem_cons_succ, List.getElem_cons_zero, List.setIfInBounds_toArray, List.set_cons_zero, List.set_cons_succ]
                    refine wpAnyH_ready (rs := [14]) (by kernel_rfl) (by simp) ?_
                    refine AllReadyH.cons rfl (fun K hK => ?_) AllReadyH.nil
                    go_simp
                    rw [← hzc.out]
                    have hb : Below W1xx.heap.size W1xx (W1xx.alloc (.cells zc 42)) := (Below.refl _ _).alloc (Nat.le_refl _) _
                    have z8 := Blk.new W1xx 42 zc
                    have p8 : gF ≠ W1xx.heap.size := by have := (hHeld.rF hPl).2.2.1; omega
                    have q8 : gT ≠ W1xx.heap.size := by have := (hHeld.rT hT3).2.2.1; omega
                    have n8 : w.heap.size < W1xx.heap.size := hHeld.pr.lt
                    have ne : g7 ≠ W1xx.heap.size := by have := z7.lt; omega
                    replace z7 := z7.below hb
                    replace hres := hres.below hb
                    refine hK.out _ _ (hHeld.below hb) (fun hHeld => ?_)
                    clear hK K hb
                    generalize W1xx.alloc (.cells zc 42) = W1xxx at *
                    generalize W1xx.heap.size = g8 at *
                    try simp only [Act.put, List.getElem_toArray, List.getElem_cons_succ, List.getElem_cons_zero, List.setIfInBounds_toArray, List.set_cons_zero, List.set_cons_succ]
                    refine wpAnyH_ready (rs := [15]) (by kernel_rfl) (by simp) ?_
                    refine AllReadyH.cons rfl (fun K hK => ?_) AllReadyH.nil
                    refine wp_store_whole 42 _ _ rfl g7 zc (opC Y1.D Y1.A Y1.n Y1.c Y1.B Y1.m Y1.d) 42 z7 rfl rfl (opC_info _ _ _ _ _ _ _ KA) (by rw [opC_size _ _ _ _ _ _ _ KA, hz0]) (opC_one _ _ _ _ _ _ _) ?_
                    intro W1xxxx hb hg
                    replace hres := hres.kept z7 hg
                    replace z8 := blk_gb z8 hg (by omega)
                    refine hK.out _ _ (hHeld.box z7 hg n7 p7 q7) (fun hHeld => ?_)
                    clear hK K hg
                    replace z7 := hb
                    clear hb
                    try simp only [Act.put, List.getElem_toArray, List.getElem_cons_succ, List.getElem_cons_zero, List.setIfInBounds_toArray, List.set_cons_zero, List.set_cons_succ]
                    refine wpAnyH_ready (rs := [16]) (by kernel_rfl) (by simp) ?_
                    refine AllReadyH.cons rfl (fun K hK => ?_) AllReadyH.nil
                    refine wp_store_whole 42 _ _ rfl g8 zc (opC Y2.D Y2.A Y2.n Y2.c Y2.B Y2.m Y2.d) 42 z8 rfl rfl (opC_info _ _ _ _ _ _ _ KB) (by rw [opC_size _ _ _ _ _ _ _ KB, hz0]) (opC_one _ _ _ _ _ _ _) ?_
                    intro W1xxxxx hb hg
                    replace hres := hres.kept z8 hg
                    replace z7 := blk_gb z7 hg (by omega)
                    refine hK.out _ _ (hHeld.box z8 hg n8 p8 q8) (fun hHeld => ?_)
                    clear hK K hg
                    replace z8 := hb
                    clear hb
                    try simp only [Act.put, List.getElem_toArray, List.getElem_cons_succ, List.getElem_cons_zero, List.setIfInBounds_toArray, List.set_cons_zero, List.set_cons_succ]
                    refine' wpAnyH_take (i := 17) (v := .bool b) rfl (by kernel_rfl) (by kernel_rfl) (by kernel_rfl) (fun _ _ _ h => nomatch h.1) (Or.inl ⟨by rfl, fun w' hw' => by go_simp⟩) hHeld ?_
                    try simp only [Act.put, List.getElem_toArray, List.getElem_cons_succ, List.getElem_cons_zero, List.setIfInBounds_toArray, List.set_cons_zero, List.set_cons_succ]
                    refine wpAnyH_done (by kernel_rfl) ?_ _
                    exact ⟨rfl, _, _, Y1, Y2, _, _, _, _, _, _, _, _, _, _, _, _, _, _, _, _, _, _, _, _, _, _, _, _, _, _, _, _, _, _, rfl, hHeld, z7, z8, p7, q7, p8, q8, n7, n8, hres⟩
                · as_aux_lemma =>
                    go_simp
                    rw [← hzc.out]
                    have hb : Below W1x.heap.size W1x (W1x.alloc (.cells zc 42)) := (Below.refl _ _).alloc (Nat.le_refl _) _
                    have z8 := Blk.new W1x 42 zc
                    have p8 : gF ≠ W1x.heap.size := by have := (hHeld.rF hPl).2.2.1; omega
                    have q8 : gT ≠ W1x.heap.size := by have := (hHeld.rT hT3).2.2.1; omega
                    have n8 : w.heap.size < W1x.heap.size := hHeld.pr.lt
                    replace hres := hres.below hb
                    refine hK.out _ _ (hHeld.below hb) (fun hHeld => ?_)
                    clear hK K hb
                    generalize W1x.alloc (.cells zc 42) = W1xx at *
                    generalize W1x.heap.size = g8 at *
                    try simp only [Act.put, List.getElem_toArray, List.getElem_cons_succ, List.getElem_cons_zero, List.setIfInBounds_toArray, List.set_cons_zero, List.set_cons_succ]
                    refine wpAnyH_ready (rs := [13]) (by kernel_rfl) (by simp) ?_
                    refine AllReadyH.cons rfl (fun K hK => ?_) AllReadyH.nil
                    go_simp
                    rw [← hzc.out]
                    have hb : Below W1xx.heap.size W1xx (W1xx.alloc (.cells zc 42)) := (Below.refl _ _).alloc (Nat.le_refl _) _
                    have z7 := Blk.new W1xx 42 zc
                    have p7 : gF ≠ W1xx.heap.size := by have := (hHeld.rF hPl).2.2.1; omega
                    have q7 : gT ≠ W1xx.heap.size := by have := (hHeld.rT hT3).2.2.1; omega
                    have n7 : w.heap.size < W1xx.heap.size := hHeld.pr.lt
                    have ne : W1xx.heap.size ≠ g8 := by have := z8.lt; omega
                    replace z8 := z8.below hb
                    replace hres := hres.below hb
                    refine hK.out _ _ (hHeld.below hb) (fun hHeld => ?_)
                    clear hK K hb
                    generalize W1xx.alloc (.cells zc 42) = W1xxx at *
                    generalize W1xx.heap.size = g7 at *
                    try simp only [Act.put, List.getElem_toArray, List.getElem_cons_succ, List.getElem_cons_zero, List.setIfInBounds_toArray, List.set_cons_zero, List.set_cons_succ]
                    refine wpAnyH_ready (rs := [15]) (by kernel_rfl) (by simp) ?_
                    refine AllReadyH.cons rfl (fun K hK => ?_) AllReadyH.nil
                    refine wp_store_whole 42 _ _ rfl g7 zc (opC Y1.D Y1.A Y1.n Y1.c Y1.B Y1.m Y1.d) 42 z7 rfl rfl (opC_info _ _ _ _ _ _ _ KA) (by rw [opC_size _ _ _ _ _ _ _ KA, hz0]) (opC_one _ _ _ _ _ _ _) ?_
                    intro W1xxxx hb hg
                    replace hres := hres.kept z7 hg
                    replace z8 := blk_gb z8 hg (by omega)
                    refine hK.out _ _ (hHeld.box z7 hg n7 p7 q7) (fun hHeld => ?_)
                    clear hK K hg
                    replace z7 := hb
                    clear hb
                    try simp only [Act.put, List.getElem_toArray, List.getElem_cons_succ, List.getElem_cons_zero, List.setIfInBounds_toArray, List.set_cons_zero, List.set_cons_succ]
                    refine wpAnyH_ready (rs := [16]) (by kernel_rfl) (by simp) ?_
                    refine AllReadyH.cons rfl (fun K hK => ?_) AllReadyH.nil
                    refine wp_store_whole 42 _ _ rfl g8 zc (opC Y2.D Y2.A Y2.n Y2.c Y2.B Y2.m Y2.d) 42 z8 rfl rfl (opC_info _ _ _ _ _ _ _ KB) (by rw [opC_size _ _ _ _ _ _ _ KB, hz0]) (opC_one _ _ _ _ _ _ _) ?_
                    intro W1xxxxx hb hg
                    replace hres := hres.kept z8 hg
                    replace z7 := blk_gb z7 hg (by omega)
                    refine hK.out _ _ (hHeld.box z8 hg n8 p8 q8) (fun hHeld => ?_)
                    clear hK K hg
                    replace z8 := hb
                    clear hb
                    try simp only [Act.put, List.getElem_toArray, List.getElem_cons_succ, List.getElem_cons_zero, List.setIfInBounds_toArray, List.set_cons_zero, List.set_cons_succ]
                    refine' wpAnyH_take (i := 17) (v := .bool b) rfl (by kernel_rfl) (by kernel_rfl) (by kernel_rfl) (fun _ _ _ h => nomatch h.1) (Or.inl ⟨by rfl, fun w' hw' => by go_simp⟩) hHeld ?_
                    try simp only [Act.put, List.getElem_toArray, List.getElem_cons_succ, List.getElem_cons_zero, List.setIfInBounds_toArray, List.set_cons_zero, List.set_cons_succ]
                    refine wpAnyH_done (by kernel_rfl) ?_ _
                    exact ⟨rfl, _, _, Y1, Y2, _, _, _, _, _, _, _, _, _, _, _, _, _, _, _, _, _, _, _, _, _, _, _, _, _, _, _, _, _, _, rfl, hHeld, z7, z8, p7, q7, p8, q8, n7, n8, hres⟩
            · as_aux_lemma =>
                go_simp
                rw [← hzc.out]
                have hb : Below W1.heap.size W1 (W1.alloc (.cells zc 42)) := (Below.refl _ _).alloc (Nat.le_refl _) _
                have z7 := Blk.new W1 42 zc
                have p7 : gF ≠ W1.heap.size := by have := (hHeld.rF hPl).2.2.1; omega
                have q7 : gT ≠ W1.heap.size := by have := (hHeld.rT hT3).2.2.1; omega
                have n7 : w.heap.size < W1.heap.size := hHeld.pr.lt
                refine hK.out _ _ (hHeld.below hb) (fun hHeld => ?_)
                clear hK K hb
                generalize W1.alloc (.cells zc 42) = W1x at *
                generalize W1.heap.size = g7 at *
                try simp only [Act.put, List.getElem_toArray, List.getElem_cons_succ, List.getElem_cons_zero, List.setIfInBounds_toArray, List.set_cons_zero, List.set_cons_succ]
                refine wpAnyH_ready (rs := [8, 14]) (by kernel_rfl) (by simp) ?_
                refine AllReadyH.cons rfl (fun K hK => ?_) (AllReadyH.cons rfl (fun K hK => ?_) AllReadyH.nil)
                · as_aux_lemma =>
                    go_simp
                    (with_reducible refine (cS _ hHeld).mono ?_)
                    rintro e9 W1xx ⟨Y1, Y2, rfl, hres, hb⟩
                    have KA := hres.1
                    have KB := hres.2.1
                    replace z7 := z7.below hb
                    refine hK.out _ _ (hHeld.below hb) (fun hHeld => ?_)
                    clear hK K hb
                    try simp only [Act.put, List.getElem_toArray, List.getElem_cons_succ, List.getElem_cons_zero, List.setIfInBounds_toArray, List.set_cons_zero, List.set_cons_succ]
                    refine' wpAnyH_take (i := 9) (v := .tuple #[.agg (opC Y1.D Y1.A Y1.n Y1.c Y1.B Y1.m Y1.d), .agg (opC Y2.D Y2.A Y2.n Y2.c Y2.B Y2.m Y2.d), .bool b]) rfl (by kernel_rfl) (by kernel_rfl) (by kernel_rfl) (fun _ _ _ h => nomatch h.1) (Or.inl ⟨by rfl, fun w' hw' => by go_simp⟩) hHeld ?_
                    try simp only [Act.put, List.getElem_toArray, List.getElem_cons_succ, List.getElem_cons_zero, List.setIfInBounds_toArray, List.set_cons_zero, List.set_cons_succ]
                    refine' wpAnyH_take (i := 10) (v := .agg (opC Y1.D Y1.A Y1.n Y1.c Y1.B Y1.m Y1.d)) rfl (by kernel_rfl) (by kernel_rfl) (by kernel_rfl) (fun _ _ _ h => nomatch h.1) (Or.inl ⟨by rfl, fun w' hw' => by go_simp⟩) hHeld ?_
                    try simp only [Act.put, List.getElem_toArray, List.getElem_cons_succ, List.getElem_cons_zero, List.setIfInBounds_toArray, List.set_cons_zero, List.set_cons_succ]
                    refine' wpAnyH_take (i := 11) (v := .agg (opC Y2.D Y2.A Y2.n Y2.c Y2.B Y2.m Y2.d)) rfl (by kernel_rfl) (by kernel_rfl) (by kernel_rfl) (fun _ _ _ h => nomatch h.1) (Or.inl ⟨by rfl, fun w' hw' => by go_simp⟩) hHeld ?_
                    try simp only [Act.put, List.getElem_toArray, List.getElem_cons_succ, List.getElem_cons_zero, List.setIfInBounds_toArray, List.set_cons_zero, List.set_cons_succ]
                    refine' wpAnyH_take (i := 12) (v := .bool b) rfl (by kernel_rfl) (by kernel_rfl) (by kernel_rfl) (fun _ _ _ h => nomatch h.1) (Or.inl ⟨by rfl, fun w' hw' => by go_simp⟩) hHeld ?_
                    try simp only [Act.put, List.getElem_toArray, List.getElem_cons_succ, List.getElem_cons_zero, List.setIfInBounds_toArray, List.set_cons_zero, List.set_cons_succ]
                    refine wpAnyH_ready (rs := [14]) (by kernel_rfl) (by simp) ?_
                    refine AllReadyH.cons rfl (fun K hK => ?_) AllReadyH.nil
                    go_simp
                    rw [← hzc.out]
                    have hb : Below W1xx.heap.size W1xx (W1xx.alloc (.cells zc 42)) := (Below.refl _ _).alloc (Nat.le_refl _) _
                    have z8 := Blk.new W1xx 42 zc
                    have p8 : gF ≠ W1xx.heap.size := by have := (hHeld.rF hPl).2.2.1; omega
                    have q8 : gT ≠ W1xx.heap.size := by have := (hHeld.rT hT3).2.2.1; omega
                    have n8 : w.heap.size < W1xx.heap.size := hHeld.pr.lt
                    have ne : g7 ≠ W1xx.heap.size := by have := z7.lt; omega
                    replace z7 := z7.below hb
                    replace hres := hres.below hb
                    refine hK.out _ _ (hHeld.below hb) (fun hHeld => ?_)
                    clear hK K hb
                    generalize W1xx.alloc (.cells zc 42) = W1xxx at *
                    generalize W1xx.heap.size = g8 at *
                    try simp only [Act.put, List.getElem_toArray, List.getElem_cons_succ, List.getElem_cons_zero, List.setIfInBounds_toArray, List.set_cons_zero, List.set_cons_succ]
                    refine wpAnyH_ready (rs := [15]) (by kernel_rfl) (by simp) ?_
                    refine AllReadyH.cons rfl (fun K hK => ?_) AllReadyH.nil
                    refine wp_store_whole 42 _ _ rfl g7 zc (opC Y1.D Y1.A Y1.n Y1.c Y1.B Y1.m Y1.d) 42 z7 rfl rfl (opC_info _ _ _ _ _ _ _ KA) (by rw [opC_size _ _ _ _ _ _ _ KA, hz0]) (opC_one _ _ _ _ _ _ _) ?_
                    intro W1xxxx hb hg
                    replace hres := hres.kept z7 hg
                    replace z8 := blk_gb z8 hg (by omega)
                    refine hK.out _ _ (hHeld.box z7 hg n7 p7 q7) (fun hHeld => ?_)
                    clear hK K hg
                    replace z7 := hb
                    clear hb
                    try simp only [Act.put, List.getElem_toArray, List.getElem_cons_succ, List.getElem_cons_zero, List.setIfInBounds_toArray, List.set_cons_zero, List.set_cons_succ]
                    refine wpAnyH_ready (rs := [16]) (by kernel_rfl) (by simp) ?_
                    refine AllReadyH.cons rfl (fun K hK => ?_) AllReadyH.nil
                    refine wp_store_whole 42 _ _ rfl g8 zc (opC Y2.D Y2.A Y2.n Y2.c Y2.B Y2.m Y2.d) 42 z8 rfl rfl (opC_info _ _ _ _ _ _ _ KB) (by rw [opC_size _ _ _ _ _ _ _ KB, hz0]) (opC_one _ _ _ _ _ _ _) ?_
                    intro W1xxxxx hb hg
                    replace hres := hres.kept z8 hg
                    replace z7 := blk_gb z7 hg (by omega)
                    refine hK.out _ _ (hHeld.box z8 hg n8 p8 q8) (fun hHeld => ?_)
                    clear hK K hg
                    replace z8 := hb
                    clear hb
                    try simp only [Act.put, List.getElem_toArray, List.getElem_cons_succ, List.getElem_cons_zero, List.setIfInBounds_toArray, List.set_cons_zero, List.set_cons_succ]
                    refine' wpAnyH_take (i := 17) (v := .bool b) rfl (by kernel_rfl) (by kernel_rfl) (by kernel_rfl) (fun _ _ _ h => nomatch h.1) (Or.inl ⟨by rfl, fun w' hw' => by go_simp⟩) hHeld ?_
                    try simp only [Act.put, List.getElem_toArray, List.getElem_cons_succ, List.getElem_cons_zero, List.setIfInBounds_toArray, List.set_cons_zero, List.set_cons_succ]
                    refine wpAnyH_done (by kernel_rfl) ?_ _
                    exact ⟨rfl, _, _, Y1, Y2, _, _, _, _, _, _, _, _, _, _, _, _, _, _, _, _, _, _, _, _, _, _, _, _, _, _, _, _, _, _, rfl, hHeld, z7, z8, p7, q7, p8, q8, n7, n8, hres⟩
                · as_aux_lemma =>
                    go_simp
                    rw [← hzc.out]
                    have hb : Below W1x.heap.size W1x (W1x.alloc (.cells zc 42)) := (Below.refl _ _).alloc (Nat.le_refl _) _
                    have z8 := Blk.new W1x 42 zc
                    have p8 : gF ≠ W1x.heap.size := by have := (hHeld.rF hPl).2.2.1; omega
                    have q8 : gT ≠ W1x.heap.size := by have := (hHeld.rT hT3).2.2.1; omega
                    have n8 : w.heap.size < W1x.heap.size := hHeld.pr.lt
                    have ne : g7 ≠ W1x.heap.size := by have := z7.lt; omega
                    replace z7 := z7.below hb
                    refine hK.out _ _ (hHeld.below hb) (fun hHeld => ?_)
                    clear hK K hb
                    generalize W1x.alloc (.cells zc 42) = W1xx at *
                    generalize W1x.heap.size = g8 at *
                    try simp only [Act.put, List.getElem_toArray, List.getElem_cons_succ, List.getElem_cons_zero, List.setIfInBounds_toArray, List.set_cons_zero, List.set_cons_succ]
                    refine wpAnyH_ready (rs := [8]) (by kernel_rfl) (by simp) ?_
                    refine AllReadyH.cons rfl (fun K hK => ?_) AllReadyH.nil
                    go_simp
                    (with_reducible refine (cS _ hHeld).mono ?_)
                    rintro e9 W1xxx ⟨Y1, Y2, rfl, hres, hb⟩
                    have KA := hres.1
                    have KB := hres.2.1
                    replace z7 := z7.below hb
                    replace z8 := z8.below hb
                    refine hK.out _ _ (hHeld.below hb) (fun hHeld => ?_)
                    clear hK K hb
                    try simp only [Act.put, List.getElem_toArray, List.getElem_cons_succ, List.getElem_cons_zero, List.setIfInBounds_toArray, List.set_cons_zero, List.set_cons_succ]
                    refine' wpAnyH_take (i := 9) (v := .tuple #[.agg (opC Y1.D Y1.A Y1.n Y1.c Y1.B Y1.m Y1.d), .agg (opC Y2.D Y2.A Y2.n Y2.c Y2.B Y2.m Y2.d), .bool b]) rfl (by kernel_rfl) (by kernel_rfl) (by kernel_rfl) (fun _ _ _ h => nomatch h.1) (Or.inl ⟨by rfl, fun w' hw' => by go_simp⟩) hHeld ?_
                    try simp only [Act.put, List.getElem_toArray, List.getElem_cons_succ, List.getElem_cons_zero, List.setIfInBounds_toArray, List.set_cons_zero, List.set_cons_succ]
                    refine' wpAnyH_take (i := 10) (v := .agg (opC Y1.D Y1.A Y1.n Y1.c Y1.B Y1.m Y1.d)) rfl (by kernel_rfl) (by kernel_rfl) (by kernel_rfl) (fun _ _ _ h => nomatch h.1) (Or.inl ⟨by rfl, fun w' hw' => by go_simp⟩) hHeld ?_
                    try simp only [Act.put, List.getElem_toArray, List.getElem_cons_succ, List.getElem_cons_zero, List.setIfInBounds_toArray, List.set_cons_zero, List.set_cons_succ]
                    refine' wpAnyH_take (i := 11) (v := .agg (opC Y2.D Y2.A Y2.n Y2.c Y2.B Y2.m Y2.d)) rfl (by kernel_rfl) (by kernel_rfl) (by kernel_rfl) (fun _ _ _ h => nomatch h.1) (Or.inl ⟨by rfl, fun w' hw' => by go_simp⟩) hHeld ?_
                    try simp only [Act.put, List.getElem_toArray, List.getElem_cons_succ, List.getElem_cons_zero, List.setIfInBounds_toArray, List.set_cons_zero, List.set_cons_succ]
                    refine' wpAnyH_take (i := 12) (v := .bool b) rfl (by kernel_rfl) (by kernel_rfl) (by kernel_rfl) (fun _ _ _ h => nomatch h.1) (Or.inl ⟨by rfl, fun w' hw' => by go_simp⟩) hHeld ?_
                    try simp only [Act.put, List.getElem_toArray, List.getElem_cons_succ, List.getElem_cons_zero, List.setIfInBounds_toArray, List.set_cons_zero, List.set_cons_succ]
                    refine wpAnyH_ready (rs := [15]) (by kernel_rfl) (by simp) ?_
                    refine AllReadyH.cons rfl (fun K hK => ?_) AllReadyH.nil
                    refine wp_store_whole 42 _ _ rfl g7 zc (opC Y1.D Y1.A Y1.n Y1.c Y1.B Y1.m Y1.d) 42 z7 rfl rfl (opC_info _ _ _ _ _ _ _ KA) (by rw [opC_size _ _ _ _ _ _ _ KA, hz0]) (opC_one _ _ _ _ _ _ _) ?_
                    intro W1xxxx hb hg
                    replace hres := hres.kept z7 hg
                    replace z8 := blk_gb z8 hg (by omega)
                    refine hK.out _ _ (hHeld.box z7 hg n7 p7 q7) (fun hHeld => ?_)
                    clear hK K hg
                    replace z7 := hb
                    clear hb
                    try simp only [Act.put, List.getElem_toArray, List.getElem_cons_succ, List.getElem_cons_zero, List.setIfInBounds_toArray, List.set_cons_zero, List.set_cons_succ]
                    refine wpAnyH_ready (rs := [16]) (by kernel_rfl) (by simp) ?_
                    refine AllReadyH.cons rfl (fun K hK => ?_) AllReadyH.nil
                    refine wp_store_whole 42 _ _ rfl g8 zc (opC Y2.D Y2.A Y2.n Y2.c Y2.B Y2.m Y2.d) 42 z8 rfl rfl (opC_info _ _ _ _ _ _ _ KB) (by rw [opC_size _ _ _ _ _ _ _ KB, hz0]) (opC_one _ _ _ _ _ _ _) ?_
                    intro W1xxxxx hb hg
                    replace hres := hres.kept z8 hg
                    replace z7 := blk_gb z7 hg (by omega)
                    refine hK.out _ _ (hHeld.box z8 hg n8 p8 q8) (fun hHeld => ?_)
                    clear hK K hg
                    replace z8 := hb
                    clear hb
                    try simp only [Act.put, List.getElem_toArray, List.getElem_cons_succ, List.getElem_cons_zero, List.setIfInBounds_toArray, List.set_cons_zero, List.set_cons_succ]
                    refine' wpAnyH_take (i := 17) (v := .bool b) rfl (by kernel_rfl) (by kernel_rfl) (by kernel_rfl) (fun _ _ _ h => nomatch h.1) (Or.inl ⟨by rfl, fun w' hw' => by go_simp⟩) hHeld ?_
                    try simp only [Act.put, List.getElem_toArray, List.getElem_cons_succ, List.getElem_cons_zero, List.setIfInBounds_toArray, List.set_cons_zero, List.set_cons_succ]
                    refine wpAnyH_done (by kernel_rfl) ?_ _
                    exact ⟨rfl, _, _, Y1, Y2, _, _, _, _, _, _, _, _, _, _, _, _, _, _, _, _, _, _, _, _, _, _, _, _, _, _, _, _, _, _, rfl, hHeld, z7, z8, p7, q7, p8, q8, n7, n8, hres⟩
            · as_aux_lemma =>
                go_simp
                rw [← hzc.out]
                have hb : Below W1.heap.size W1 (W1.alloc (.cells zc 42)) := (Below.refl _ _).alloc (Nat.le_refl _) _
                have z8 := Blk.new W1 42 zc
                have p8 : gF ≠ W1.heap.size := by have := (hHeld.rF hPl).2.2.1; omega
                have q8 : gT ≠ W1.heap.size := by have := (hHeld.rT hT3).2.2.1; omega
                have n8 : w.heap.size < W1.heap.size := hHeld.pr.lt
                refine hK.out _ _ (hHeld.below hb) (fun hHeld => ?_)
                clear hK K hb
                generalize W1.alloc (.cells zc 42) = W1x at *
                generalize W1.heap.size = g8 at *
                try simp only [Act.put, List.getElem_toArray, List.getElem_cons_succ, List.getElem_cons_zero, List.setIfInBounds_toArray, List.set_cons_zero, List.set_cons_succ]
                refine wpAnyH_ready (rs := [8, 13]) (by kernel_rfl) (by simp) ?_
                refine AllReadyH.cons rfl (fun K hK => ?_) (AllReadyH.cons rfl (fun K hK => ?_) AllReadyH.nil)
                · as_aux_lemma =>
                    go_simp
                    (with_reducible refine (cS _ hHeld).mono ?_)
                    rintro e9 W1xx ⟨Y1, Y2, rfl, hres, hb⟩
                    have KA := hres.1
                    have KB := hres.2.1
                    replace z8 := z8.below hb
                    refine hK.out _ _ (hHeld.below hb) (fun hHeld => ?_)
                    clear hK K hb
                    try simp only [Act.put, List.getElem_toArray, List.getElem_cons_succ, List.getElem_cons_zero, List.setIfInBounds_toArray, List.set_cons_zero, List.set_cons_succ]
                    refine' wpAnyH_take (i := 9) (v := .tuple #[.agg (opC Y1.D Y1.A Y1.n Y1.c Y1.B Y1.m Y1.d), .agg (opC Y2.D Y2.A Y2.n Y2.c Y2.B Y2.m Y2.d), .bool b]) rfl (by kernel_rfl) (by kernel_rfl) (by kernel_rfl) (fun _ _ _ h => nomatch h.1) (Or.inl ⟨by rfl, fun w' hw' => by go_simp⟩) hHeld ?_
                    try simp only [Act.put, List.getElem_toArray, List.getElem_cons_succ, List.getElem_cons_zero, List.setIfInBounds_toArray, List.set_cons_zero, List.set_cons_succ]
                    refine' wpAnyH_take (i := 10) (v := .agg (opC Y1.D Y1.A Y1.n Y1.c Y1.B Y1.m Y1.d)) rfl (by kernel_rfl) (by kernel_rfl) (by kernel_rfl) (fun _ _ _ h => nomatch h.1) (Or.inl ⟨by rfl, fun w' hw' => by go_simp⟩) hHeld ?_
                    try simp only [Act.put, List.getElem_toArray, List.getElem_cons_succ, List.getElem_cons_zero, List.setIfInBounds_toArray, List.set_cons_zero, List.set_cons_succ]
                    refine' wpAnyH_take (i := 11) (v := .agg (opC Y2.D Y2.A Y2.n Y2.c Y2.B Y2.m Y2.d)) rfl (by kernel_rfl) (by kernel_rfl) (by kernel_rfl) (fun _ _ _ h => nomatch h.1) (Or.inl ⟨by rfl, fun w' hw' => by go_simp⟩) hHeld ?_
                    try simp only [Act.put, List.getElem_toArray, List.getElem_cons_succ, List.getElem_cons_zero, List.setIfInBounds_toArray, List.set_cons_zero, List.set_cons_succ]
                    refine' wpAnyH_take (i := 12) (v := .bool b) rfl (by kernel_rfl) (by kernel_rfl) (by kernel_rfl) (fun _ _ _ h => nomatch h.1) (Or.inl ⟨by rfl, fun w' hw' => by go_simp⟩) hHeld ?_
                    try simp only [Act.put, List.getElem_toArray, List.getElem_cons_succ, List.getElem_cons_zero, List.setIfInBounds_toArray, List.set_cons_zero, List.set_cons_succ]
                    refine wpAnyH_ready (rs := [13]) (by kernel_rfl) (by simp) ?_
                    refine AllReadyH.cons rfl (fun K hK => ?_) AllReadyH.nil
                    go_simp
                    rw [← hzc.out]
                    have hb : Below W1xx.heap.size W1xx (W1xx.alloc (.cells zc 42)) := (Below.refl _ _).alloc (Nat.le_refl _) _
                    have z7 := Blk.new W1xx 42 zc
                    have p7 : gF ≠ W1xx.heap.size := by have := (hHeld.rF hPl).2.2.1; omega
                    have q7 : gT ≠ W1xx.heap.size := by have := (hHeld.rT hT3).2.2.1; omega
                    have n7 : w.heap.size < W1xx.heap.size := hHeld.pr.lt
                    have ne : W1xx.heap.size ≠ g8 := by have := z8.lt; omega
                    replace z8 := z8.below hb
                    replace hres := hres.below hb
                    refine hK.out _ _ (hHeld.below hb) (fun hHeld => ?_)
                    clear hK K hb
                    generalize W1xx.alloc (.cells zc 42) = W1xxx at *
                    generalize W1xx.heap.size = g7 at *
                    try simp only [Act.put, List.getElem_toArray, List.getElem_cons_succ, List.getElem_cons_zero, List.setIfInBounds_toArray, List.set_cons_zero, List.set_cons_succ]
                    refine wpAnyH_ready (rs := [15]) (by kernel_rfl) (by simp) ?_
                    refine AllReadyH.cons rfl (fun K hK => ?_) AllReadyH.nil
                    refine wp_store_whole 42 _ _ rfl g7 zc (opC Y1.D Y1.A Y1.n Y1.c Y1.B Y1.m Y1.d) 42 z7 rfl rfl (opC_info _ _ _ _ _ _ _ KA) (by rw [opC_size _ _ _ _ _ _ _ KA, hz0]) (opC_one _ _ _ _ _ _ _) ?_
                    intro W1xxxx hb hg
                    replace hres := hres.kept z7 hg
                    replace z8 := blk_gb z8 hg (by omega)
                    refine hK.out _ _ (hHeld.box z7 hg n7 p7 q7) (fun hHeld => ?_)
                    clear hK K hg
                    replace z7 := hb
                    clear hb
                    try simp only [Act.put, List.getElem_toArray, List.getElem_cons_succ, List.getElem_cons_zero, List.setIfInBounds_toArray, List.set_cons_zero, List.set_cons_succ]
                    refine wpAnyH_ready (rs := [16]) (by kernel_rfl) (by simp) ?_
                    refine AllReadyH.cons rfl (fun K hK => ?_) AllReadyH.nil
                    refine wp_store_whole 42 _ _ rfl g8 zc (opC Y2.D Y2.A Y2.n Y2.c Y2.B Y2.m Y2.d) 42 z8 rfl rfl (opC_info _ _ _ _ _ _ _ KB) (by rw [opC_size _ _ _ _ _ _ _ KB, hz0]) (opC_one _ _ _ _ _ _ _) ?_
                    intro W1xxxxx hb hg
                    replace hres := hres.kept z8 hg
                    replace z7 := blk_gb z7 hg (by omega)
                    refine hK.out _ _ (hHeld.box z8 hg n8 p8 q8) (fun hHeld => ?_)
                    clear hK K hg
                    replace z8 := hb
                    clear hb
                    try simp only [Act.put, List.getElem_toArray, List.getElem_cons_succ, List.getElem_cons_zero, List.setIfInBounds_toArray, List.set_cons_zero, List.set_cons_succ]
                    refine' wpAnyH_take (i := 17) (v := .bool b) rfl (by kernel_rfl) (by kernel_rfl) (by kernel_rfl) (fun _ _ _ h => nomatch h.1) (Or.inl ⟨by rfl, fun w' hw' => by go_simp⟩) hHeld ?_
                    try simp only [Act.put, List.getElem_toArray, List.getElem_cons_succ, List.getElem_cons_zero, List.setIfInBounds_toArray, List.set_cons_zero, List.set_cons_succ]
                    refine wpAnyH_done (by kernel_rfl) ?_ _
                    exact ⟨rfl, _, _, Y1, Y2, _, _, _, _, _, _, _, _, _, _, _, _, _, _, _, _, _, _, _, _, _, _, _, _, _, _, _, _, _, _, rfl, hHeld, z7, z8, p7, q7, p8, q8, n7, n8, hres⟩
                · as_aux_lemma =>
                    go_simp
                    rw [← hzc.out]
                    have hb : Below W1x.heap.size W1x (W1x.alloc (.cells zc 42)) := (Below.refl _ _).alloc (Nat.le_refl _) _
                    have z7 := Blk.new W1x 42 zc
                    have p7 : gF ≠ W1x.heap.size := by have := (hHeld.rF hPl).2.2.1; omega
                    have q7 : gT ≠ W1x.heap.size := by have := (hHeld.rT hT3).2.2.1; omega
                    have n7 : w.heap.size < W1x.heap.size := hHeld.pr.lt
                    have ne : W1x.heap.size ≠ g8 := by have := z8.lt; omega
                    replace z8 := z8.below hb
                    refine hK.out _ _ (hHeld.below hb) (fun hHeld => ?_)
                    clear hK K hb
                    generalize W1x.alloc (.cells zc 42) = W1xx at *
                    generalize W1x.heap.size = g7 at *
                    try simp only [Act.put, List.getElem_toArray, List.getElem_cons_succ, List.getElem_cons_zero, List.setIfInBounds_toArray, List.set_cons_zero, List.set_cons_succ]
                    refine wpAnyH_ready (rs := [8]) (by kernel_rfl) (by simp) ?_
                    refine AllReadyH.cons rfl (fun K hK => ?_) AllReadyH.nil
                    go_simp
                    (with_reducible refine (cS _ hHeld).mono ?_)
                    rintro e9 W1xxx ⟨Y1, Y2, rfl, hres, hb⟩
                    have KA := hres.1
                    have KB := hres.2.1
                    replace z8 := z8.below hb
                    replace z7 := z7.below hb
                    refine hK.out _ _ (hHeld.below hb) (fun hHeld => ?_)
                    clear hK K hb
                    try simp only [Act.put, List.getElem_toArray, List.getElem_cons_succ, List.getElem_cons_zero, List.setIfInBounds_toArray, List.set_cons_zero, List.set_cons_succ]
                    refine' wpAnyH_take (i := 9) (v := .tuple #[.agg (opC Y1.D Y1.A Y1.n Y1.c Y1.B Y1.m Y1.d), .agg (opC Y2.D Y2.A Y2.n Y2.c Y2.B Y2.m Y2.d), .bool b]) rfl (by kernel_rfl) (by kernel_rfl) (by kernel_rfl) (fun _ _ _ h => nomatch h.1) (Or.inl ⟨by rfl, fun w' hw' => by go_simp⟩) hHeld ?_
                    try simp only [Act.put, List.getElem_toArray, List.getElem_cons_succ, List.getElem_cons_zero, List.setIfInBounds_toArray, List.set_cons_zero, List.set_cons_succ]
                    refine' wpAnyH_take (i := 10) (v := .agg (opC Y1.D Y1.A Y1.n Y1.c Y1.B Y1.m Y1.d)) rfl (by kernel_rfl) (by kernel_rfl) (by kernel_rfl) (fun _ _ _ h => nomatch h.1) (Or.inl ⟨by rfl, fun w' hw' => by go_simp⟩) hHeld ?_
                    try simp only [Act.put, List.getElem_toArray, List.getElem_cons_succ, List.getElem_cons_zero, List.setIfInBounds_toArray, List.set_cons_zero, List.set_cons_succ]
                    refine' wpAnyH_take (i := 11) (v := .agg (opC Y2.D Y2.A Y2.n Y2.c Y2.B Y2.m Y2.d)) rfl (by kernel_rfl) (by kernel_rfl) (by kernel_rfl) (fun _ _ _ h => nomatch h.1) (Or.inl ⟨by rfl, fun w' hw' => by go_simp⟩) hHeld ?_
                    try simp only [Act.put, List.getElem_toArray, List.getElem_cons_succ, List.getElem_cons_zero, List.setIfInBounds_toArray, List.set_cons_zero, List.set_cons_succ]
                    refine' wpAnyH_take (i := 12) (v := .bool b) rfl (by kernel_rfl) (by kernel_rfl) (by kernel_rfl) (fun _ _ _ h => nomatch h.1) (Or.inl ⟨by rfl, fun w' hw' => by go_simp⟩) hHeld ?_
                    try simp only [Act.put, List.getElem_toArray, List.getElem_cons_succ, List.getElem_cons_zero, List.setIfInBounds_toArray, List.set_cons_zero, List.set_cons_succ]
                    refine wpAnyH_ready (rs := [15]) (by kernel_rfl) (by simp) ?_
                    refine AllReadyH.cons rfl (fun K hK => ?_) AllReadyH.nil
                    refine wp_store_whole 42 _ _ rfl g7 zc (opC Y1.D Y1.A Y1.n Y1.c Y1.B Y1.m Y1.d) 42 z7 rfl rfl (opC_info _ _ _ _ _ _ _ KA) (by rw [opC_size _ _ _ _ _ _ _ KA, hz0]) (opC_one _ _ _ _ _ _ _) ?_
                    intro W1xxxx hb hg
                    replace hres := hres.kept z7 hg
                    replace z8 := blk_gb z8 hg (by omega)
                    refine hK.out _ _ (hHeld.box z7 hg n7 p7 q7) (fun hHeld => ?_)
                    clear hK K hg
                    replace z7 := hb
                    clear hb
                    try simp only [Act.put, List.getElem_toArray, List.getElem_cons_succ, List.getElem_cons_zero, List.setIfInBounds_toArray, List.set_cons_zero, List.set_cons_succ]
                    refine wpAnyH_ready (rs := [16]) (by kernel_rfl) (by simp) ?_
                    refine AllReadyH.cons rfl (fun K hK => ?_) AllReadyH.nil
                    refine wp_store_whole 42 _ _ rfl g8 zc (opC Y2.D Y2.A Y2.n Y2.c Y2.B Y2.m Y2.d) 42 z8 rfl rfl (opC_info _ _ _ _ _ _ _ KB) (by rw [opC_size _ _ _ _ _ _ _ KB, hz0]) (opC_one _ _ _ _ _ _ _) ?_
                    intro W1xxxxx hb hg
                    replace hres := hres.kept z8 hg
                    replace z7 := blk_gb z7 hg (by omega)
                    refine hK.out _ _ (hHeld.box z8 hg n8 p8 q8) (fun hHeld => ?_)
                    clear hK K hg
                    replace z8 := hb
                    clear hb
                    try simp only [Act.put, List.getElem_toArray, List.getElem_cons_succ, List.getElem_cons_zero, List.setIfInBounds_toArray, List.set_cons_zero, List.set_cons_succ]
                    refine' wpAnyH_take (i := 17) (v := .bool b) rfl (by kernel_rfl) (by kernel_rfl) (by kernel_rfl) (fun _ _ _ h => nomatch h.1) (Or.inl ⟨by rfl, fun w' hw' => by go_simp⟩) hHeld ?_
                    try simp only [Act.put, List.getElem_toArray, List.getElem_cons_succ, List.getElem_cons_zero, List.setIfInBounds_toArray, List.set_cons_zero, List.set_cons_succ]
                    refine wpAnyH_done (by kernel_rfl) ?_ _
                    exact ⟨rfl, _, _, Y1, Y2, _, _, _, _, _, _, _, _, _, _, _, _, _, _, _, _, _, _, _, _, _, _, _, _, _, _, _, _, _, _, rfl, hHeld, z7, z8, p7, q7, p8, q8, n7, n8, hres⟩
          case cont =>
            clear hS
            rintro ex a' W ⟨rfl, g7, g8, Y1, Y2, t25, t26, t27, t28, t29, t30, t31, t32, t33, t34, t35, t36, t37, t38, t39, t40, t41, t42, t43, t44, t45, t46, t47, t48, t49, t50, t51, t52, t53, t54, rfl, hS, z7, z8, p7, q7, p8, q8, n7, n8, hres⟩
            clear cS
            cases b with
            | false =>
              have hPR := hS.pr
              have hiP : (Try.prog.info? 47).map (·.size) = some (#[Value.int .i64 g2, Value.int .i64 k] : Array Value).size := infoPair
              have hsP : (#[.int .i64 0, .int .i64 0] : Array Value).size = (#[Value.int .i64 g2, Value.int .i64 k] : Array Value).size := rfl
              have hoP := pair_one (g2 : Int) (k : Int)
              go_wp2_with (first
                | ((with_reducible refine wpList_store_blk rfl 47 _ _ rfl w.heap.size #[.int .i64 0, .int .i64 0] (#[.int .i64 g2, .int .i64 k]) 47 hPR rfl rfl hiP hsP hoP ?_); intro V4 b4 q4))
              have hbl := hS.pair b4 q4
              clear hS hres z7 z8 hPR q4
              refine wp_region_held_drew (S := fun W => Blk W w.heap.size 47 #[.int .i64 g2, .int .i64 k]) (by kernel_rfl) (b4.below (below_drew10 _)) (fun hHeld => ?_)
              refine' wpAnyH_take (i := 0) (v := .slice (some ⟨gF, 0, none⟩) m cF) rfl (by kernel_rfl) (by kernel_rfl) (by kernel_rfl) (fun _ _ _ h => h) (Or.inl ⟨by rfl, fun w' hw' => by go_simp⟩) hHeld ?_
              try simp only [Act.put, List.getElem_toArray, List.getElem_cons_succ, List.getElem_cons_zero, List.setIfInBounds_toArray, List.set_cons_zero, List.set_cons_succ]
              refine' wpAnyH_take (i := 1) (v := .slice (some ⟨gT, 0, none⟩) n cT) rfl (by kernel_rfl) (by kernel_rfl) (by kernel_rfl) (fun _ _ _ h => h) (Or.inl ⟨by rfl, fun w' hw' => by go_simp⟩) hHeld ?_
              try simp only [Act.put, List.getElem_toArray, List.getElem_cons_succ, List.getElem_cons_zero, List.setIfInBounds_toArray, List.set_cons_zero, List.set_cons_succ]
              refine' wpAnyH_take (i := 2) (v := .agg #[.int .i64 g2, .int .i64 k]) rfl (by kernel_rfl) (by kernel_rfl) (by kernel_rfl) (fun _ _ _ h => h) (yieldsIf_load_mid (by rfl) 47 _ rfl w.heap.size 0 rfl (#[.int .i64 g2, .int .i64 k]).toList _ (fun w' h j u hj => by rw [Nat.zero_add]; exact h.cell_ (by rw [← Array.getElem?_toList]; exact hj)) Try.underlying47 rfl infoPair) hHeld ?_
              try simp only [Act.put, List.getElem_toArray, List.getElem_cons_succ, List.getElem_cons_zero, List.setIfInBounds_toArray, List.set_cons_zero, List.set_cons_succ]
              refine' wpAnyH_take (i := 3) (v := .bool true) rfl (by kernel_rfl) (by kernel_rfl) (by kernel_rfl) (fun _ _ _ h => h) (Or.inl ⟨by rfl, fun w' hw' => by go_simp⟩) hHeld ?_
              try simp only [Act.put, List.getElem_toArray, List.getElem_cons_succ, List.getElem_cons_zero, List.setIfInBounds_toArray, List.set_cons_zero, List.set_cons_succ]
              refine' wpAnyH_take (i := 4) (v := .slice (some ⟨gF, 0, none⟩) m cF) rfl (by kernel_rfl) (by kernel_rfl) (by kernel_rfl) (fun _ _ _ h => h) (Or.inl ⟨by rfl, fun w' hw' => by go_simp⟩) hHeld ?_
              try simp only [Act.put, List.getElem_toArray, List.getElem_cons_succ, List.getElem_cons_zero, List.setIfInBounds_toArray, List.set_cons_zero, List.set_cons_succ]
              refine' wpAnyH_take (i := 5) (v := .slice (some ⟨gT, 0, none⟩) n cT) rfl (by kernel_rfl) (by kernel_rfl) (by kernel_rfl) (fun _ _ _ h => h) (Or.inl ⟨by rfl, fun w' hw' => by go_simp⟩) hHeld ?_
              try simp only [Act.put, List.getElem_toArray, List.getElem_cons_succ, List.getElem_cons_zero, List.setIfInBounds_toArray, List.set_cons_zero, List.set_cons_succ]
              refine wpAnyH_ready (rs := [6]) (by kernel_rfl) (by simp) ?_
              refine AllReadyH.cons rfl (fun K hK => ?_) AllReadyH.nil
              refine wp_store_whole 47 _ _ rfl w.heap.size #[.int .i64 g2, .int .i64 k] #[.int .i64 g2, .int .i64 k] 47 hHeld rfl rfl infoPair rfl (pair_one _ _) ?_
              intro V9 b9 q9
              refine hK.out _ _ b9 (fun hHeld => ?_)
              clear hK K
              try simp only [Act.put, List.getElem_toArray, List.getElem_cons_succ, List.getElem_cons_zero, List.setIfInBounds_toArray, List.set_cons_zero, List.set_cons_succ]
              refine' wpAnyH_take (i := 7) (v := .bool true) rfl (by kernel_rfl) (by kernel_rfl) (by kernel_rfl) (fun _ _ _ h => h) (Or.inl ⟨by rfl, fun w' hw' => by go_simp⟩) hHeld ?_
              try simp only [Act.put, List.getElem_toArray, List.getElem_cons_succ, List.getElem_cons_zero, List.setIfInBounds_toArray, List.set_cons_zero, List.set_cons_succ]
              refine wpAnyH_done (by kernel_rfl) ?_ _
              go_wp2
              rw [Exit.noGoto_ret]
              go_wp2_with (fail)
              refine bodyPost_ret (results_swd rfl rfl rfl rfl b9 rfl) rfl ?_
              refine .inr ⟨_, _, _, _, g2, k, rfl, ?_, (hbl.trans ((below_drew10 V4).mono hbl.size)).trans (below_of_gb q9 (Nat.le_refl _) (by have := hbl.size; simpa using this))⟩
              rw [HI.out.2.2.2, List.map_cons]
              refine rowsF_no ?_
              rw [HJ.out.2.2, List.map_append, List.map_singleton, ahF_no HA.out, List.length_map, HT.out]

            | true =>
              go_wp2_with (fail)
              refine wp_region_held_drew (S := fun W => Blk W g7 42 (opC Y1.D Y1.A Y1.n Y1.c Y1.B Y1.m Y1.d) ∧ Blk W g8 42 (opC Y2.D Y2.A Y2.n Y2.c Y2.B Y2.m Y2.d)) (by kernel_rfl) ⟨z7.below (below_drew10 _), z8.below (below_drew10 _)⟩ (fun hHeld => ?_)
              replace hS := hS.below (below_drew10 _)
              replace hres := hres.below (below_drew10 _)
              generalize World.drew _ = V1 at *
              clear z7 z8
              obtain ⟨_, -, -, -, fcs, fB, fsz, fput⟩ := hS.rF hPl
              refine' wpAnyH_take (i := 0) (v := .slice (some ⟨gF, 0, none⟩) m cF) rfl (by kernel_rfl) (by kernel_rfl) (by kernel_rfl) (fun _ _ _ h => h) (Or.inl ⟨by rfl, fun w' hw' => by go_simp⟩) hHeld ?_
              try simp only [Act.put, List.getElem_toArray, List.getElem_cons_succ, List.getElem_cons_zero, List.setIfInBounds_toArray, List.set_cons_zero, List.set_cons_succ]
              refine' wpAnyH_take (i := 1) (v := .int .i64 k) rfl (by kernel_rfl) (by kernel_rfl) (by kernel_rfl) (fun _ _ _ h => h) (Or.inl ⟨by rfl, fun w' hw' => by go_simp⟩) hHeld ?_
              try simp only [Act.put, List.getElem_toArray, List.getElem_cons_succ, List.getElem_cons_zero, List.setIfInBounds_toArray, List.set_cons_zero, List.set_cons_succ]
              refine' wpAnyH_take (i := 2) (v := .slice (some ⟨gT, 0, none⟩) n cT) rfl (by kernel_rfl) (by kernel_rfl) (by kernel_rfl) (fun _ _ _ h => h) (Or.inl ⟨by rfl, fun w' hw' => by go_simp⟩) hHeld ?_
              try simp only [Act.put, List.getElem_toArray, List.getElem_cons_succ, List.getElem_cons_zero, List.setIfInBounds_toArray, List.set_cons_zero, List.set_cons_succ]
              refine' wpAnyH_take (i := 3) (v := .int .i64 g2) rfl (by kernel_rfl) (by kernel_rfl) (by kernel_rfl) (fun _ _ _ h => h) (Or.inl ⟨by rfl, fun w' hw' => by go_simp⟩) hHeld ?_
              try simp only [Act.put, List.getElem_toArray, List.getElem_cons_succ, List.getElem_cons_zero, List.setIfInBounds_toArray, List.set_cons_zero, List.set_cons_succ]
              refine' wpAnyH_take (i := 4) (v := .agg (opC Y1.D Y1.A Y1.n Y1.c Y1.B Y1.m Y1.d)) rfl (by kernel_rfl) (by kernel_rfl) (by kernel_rfl) (fun _ _ _ h => h) (yields_opx (by rfl) _ rfl _ rfl (fun w' h => ⟨h.1⟩) hres.1) hHeld ?_
              try simp only [Act.put, List.getElem_toArray, List.getElem_cons_succ, List.getElem_cons_zero, List.setIfInBounds_toArray, List.set_cons_zero, List.set_cons_succ]
              refine' wpAnyH_take (i := 5) (v := .agg (opC Y2.D Y2.A Y2.n Y2.c Y2.B Y2.m Y2.d)) rfl (by kernel_rfl) (by kernel_rfl) (by kernel_rfl) (fun _ _ _ h => h) (yields_opx (by rfl) _ rfl _ rfl (fun w' h => ⟨h.2⟩) hres.2.1) hHeld ?_
              try simp only [Act.put, List.getElem_toArray, List.getElem_cons_succ, List.getElem_cons_zero, List.setIfInBounds_toArray, List.set_cons_zero, List.set_cons_succ]
              refine' wpAnyH_take (i := 6) (v := .pointer (some ⟨gF, k * 39, none⟩)) rfl (by kernel_rfl) (by kernel_rfl) (by kernel_rfl) (fun _ _ _ h => h) (Or.inl ⟨by rfl, fun w' hw' => by go_simp⟩) hHeld ?_
              try simp only [Act.put, List.getElem_toArray, List.getElem_cons_succ, List.getElem_cons_zero, List.setIfInBounds_toArray, List.set_cons_zero, List.set_cons_succ]
              refine wpAnyH_ready (rs := [7]) (by kernel_rfl) (by simp) ?_
              refine AllReadyH.cons rfl (fun K hK => ?_) AllReadyH.nil
              refine ro_store_at _ _ rfl gF (k * 39) fcs (opC Y1.D Y1.A Y1.n Y1.c Y1.B Y1.m Y1.d) fB rfl rfl (opC_info _ _ _ _ _ _ _ hres.1) (by rw [opC_size _ _ _ _ _ _ _ hres.1]; exact fsz) (opC_one _ _ _ _ _ _ _) ?_
              intro V2 bF kF
              replace hS := hS.putF hS.neq fB kF hFl (hres.2.2 rfl).2.2.1 (fput Y1 V2 hres.1 bF)
              replace hres := hres.kept fB kF
              obtain ⟨_, -, -, -, tcs, tB, tsz, tput⟩ := hS.rT hT3
              refine hK.out _ _ ⟨blk_gb hHeld.1 kF (Ne.symm p7), blk_gb hHeld.2 kF (Ne.symm p8)⟩ (fun hHeld => ?_)
              clear hK K fB bF kF fput
              try simp only [Act.put, List.getElem_toArray, List.getElem_cons_succ, List.getElem_cons_zero, List.setIfInBounds_toArray, List.set_cons_zero, List.set_cons_succ]
              refine' wpAnyH_take (i := 8) (v := .pointer (some ⟨gT, g2 * 39, none⟩)) rfl (by kernel_rfl) (by kernel_rfl) (by kernel_rfl) (fun _ _ _ h => h) (Or.inl ⟨by rfl, fun w' hw' => by go_simp⟩) hHeld ?_
              try simp only [Act.put, List.getElem_toArray, List.getElem_cons_succ, List.getElem_cons_zero, List.setIfInBounds_toArray, List.set_cons_zero, List.set_cons_succ]
              refine wpAnyH_ready (rs := [9]) (by kernel_rfl) (by simp) ?_
              refine AllReadyH.cons rfl (fun K hK => ?_) AllReadyH.nil
              refine ro_store_at _ _ rfl gT (g2 * 39) tcs (opC Y2.D Y2.A Y2.n Y2.c Y2.B Y2.m Y2.d) tB rfl rfl (opC_info _ _ _ _ _ _ _ hres.2.1) (by rw [opC_size _ _ _ _ _ _ _ hres.2.1]; exact tsz) (opC_one _ _ _ _ _ _ _) ?_
              intro V3 bT kT
              replace hS := hS.putT hS.neq tB kT hTl (hres.2.2 rfl).2.2.2 (tput Y2 V3 hres.2.1 bT)
              refine hK.out _ _ ⟨blk_gb hHeld.1 kT (Ne.symm q7), blk_gb hHeld.2 kT (Ne.symm q8)⟩ (fun hHeld => ?_)
              clear hK K tB bT kT tput hHeld
              try simp only [Act.put, List.getElem_toArray, List.getElem_cons_succ, List.getElem_cons_zero, List.setIfInBounds_toArray, List.set_cons_zero, List.set_cons_succ]
              refine wpAnyH_done (by kernel_rfl) ?_ _
              go_wp2
              go_roundg g2
              case measure => omega
              case rel => exact ⟨T3, Y2 :: T2, Y1, by go_num, rfl, hS, hid ⟨hT3, by have := HJ.out.2.1; simp at this ⊢; omega, by rw [HJ.out.2.2, List.map_append, List.map_singleton, ahF_yes HA.out, (hres.2.2 rfl).1, List.map_cons, (hres.2.2 rfl).2.1]⟩⟩

end Go.Proofs.Ytmfngampccpkhaa

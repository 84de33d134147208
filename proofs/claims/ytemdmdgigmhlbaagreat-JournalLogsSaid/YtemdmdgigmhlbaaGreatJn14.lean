
/- journal: frames are scanned, the walk. -/
import Derived.Test.YtemdmdgigmhlbaaGreatJn13
set_option linter.unusedSimpArgs false
set_option linter.unusedVariables false
namespace Go.Proofs.YtemdmdgigmhlbaaGreat
open Go.RowKit Go.Qc Go.Shelf
attribute [local go_sem] txt_size txt_append ib_fold
/-- Scanning under way: the chain's box, the reader, the frames so far. -/
structure ScS (w : World) (gc gr : Nat) (s : List UInt8) (a : Nat) (C : List UInt8) (v : Value) (l : List FmD) (W : World) : Prop where
  bc : Blk W gc 42 (idVals C)
  lC : C.length = 32
  rd : Rdr gr s a 0 W
  row : FjOw W (gr + 1) v l.length l
  ge : w.heap.size ≤ gc
  lt : gc < gr
  hb : Below w.heap.size w W
  le : a ≤ s.length
  ln : l.length ≤ a
theorem results_ttc {P : Program} {fn : Func} {t p u : Tmp} {ty : TypeId} (h : fn.results = #[.tmp t, .tmp u, .cell p ty]) (tmps : Array Value) (w : World) (g : Nat) (ty2 : TypeId) (cs : Array Value) (d : TypeDesc)
    (hp : tmps.getD p undef = .pointer (some ⟨g, 0, none⟩)) (hg : Blk w g ty2 cs)
    (hu : P.underlying ty = some d) (hd : (match d with | .struct _ | .array _ _ => true | _ => false) = true) (hi : (P.info? ty).map (·.size) = some cs.size) :
    (results fn tmps).run P w = .ok (.tuple #[tmps.getD t undef, tmps.getD u undef, .agg cs]) w := by
  have hp' : tmps[p]?.getD undef = .pointer (some ⟨g, 0, none⟩) := by simpa using hp
  simp only [results, h]
  simp [Sem.run_bind, hp', asAddr, run_loadVar_row w g ty2 ty cs (0, 0) d hg hu hd hi, Result.andThen]
theorem FjOw.gb {W W' : World} {base g : Nat} {v : Value} {l : List FmD} (h : FjOw W base v l.length l) (k : W.grownBy W' (some g)) (hg : g < base) : FjOw W' base v l.length l :=
  h.kept k (.inr (fun e => by have := (h.lt g e).1; omega))
set_option maxRecDepth 100000 in
set_option maxHeartbeats 8000000 in
theorem scan_any (s : List UInt8) (hs : s.length ≤ 5000) (w : World) :
    Calls Tryz.prog 21 #[.string (txt s)] w fun e w' => ∃ v, e = .returned (.tuple #[v, .int .i64 ((scJ s).2.1 : Int), .agg (idVals (scJ s).2.2)]) ∧ FjOw w' w.heap.size v (scJ s).1.length (scJ s).1 ∧ Below w.heap.size w w' := by
  have cB := begin_any
  have h0l := begB_length
  have e0 : scJ s = scF s (s.length + 1) 0 begB := rfl
  generalize begB = S0 at *
  have hI : (Tryz.prog.info? 42).map (·.size) = some (idVals S0).size := by rw [idVals_size, h0l]; exact sizeId
  have h1c := idVals_one S0
  have E0 := hid e0
  have HS0 := hid h0l
  clear e0 h0l
  go_enter Tryz.func21, Tryz.ntmps21
  go_wp2
  refine wp_scope_label 0 (fun a' w' => ∃ (a : Nat) (C : List UInt8) (v : Value) (l : List FmD) (f gc gr : Nat) (u6 u7 u8 u9 u10 u11 u12 u13 u14 u15 u16 u17 u18 u19 u20 u21 u22 u23 u24 u25 u26 u27 u28 u29 : Value), a' = { tmps := #[.string (txt s), undef, v, .int .i64 (a : Int), .pointer (some ⟨gc, 0, none⟩), .pointer (some ⟨gr, 0, none⟩), u6, u7, u8, u9, u10, u11, u12, u13, u14, u15, u16, u17, u18, u19, u20, u21, u22, u23, u24, u25, u26, u27, u28, u29], defers := [] } ∧ s.length - a < f ∧ scJ s = (l ++ (scF s f a C).1, (scF s f a C).2) ∧ ScS w gc gr s a C v l w') (fun a' _ => s.length - (intOf (a'.tmps.getD 3 undef)).toNat) rfl ?pass ?first
  case first =>
    intro hrest
    rw [← zeroB_vals]
    have hZ := Blk.new w 42 (idVals zeroB)
    have hb0 := (Below.refl w.heap.size w).alloc (Nat.le_refl _) (.cells (idVals zeroB) 42)
    have hsz : (w.alloc (.cells (idVals zeroB) 42)).heap.size = w.heap.size + 1 := by simp
    generalize w.alloc (.cells (idVals zeroB) 42) = W0 at *
    go_wp2_with (fail)
    refine (pkNew_any s _).mono ?_
    rintro e1 w1 ⟨rfl, hR1, hb1⟩
    rw [hsz] at hR1
    replace hZ := hZ.below hb1
    have hb := hb0.trans (hb1.mono hb0.size)
    rw [hsz]
    clear hb0 hb1 hsz
    go_wp2_with (fail)
    refine (cB _).mono ?_
    rintro e2 w2 ⟨rfl, hb2⟩
    replace hZ := hZ.below hb2
    replace hR1 : Rdr (w.heap.size + 1) s 0 0 w2 := Blk.below hR1 hb2
    replace hb := hb.trans (hb2.mono hb.size)
    clear hb2
    go_wp2_with (first
      | (with_reducible refine wpList_store_blk rfl 42 _ _ rfl w.heap.size _ (idVals S0) 42 hZ rfl rfl hI ?c4 h1c ?_))
    case c4 => rw [idVals_size, idVals_size, HS0.out]; decide
    intro w3 hz3 hg3
    have hS : ScS w w.heap.size (w.heap.size + 1) s 0 S0 (.slice none 0 0) [] w3 := ⟨hz3, HS0.out, (hg3.block _ (Rdr.lt hR1) (by intro x; have := Option.some.inj x; omega)).trans hR1, FjOw.none_ _ _, Nat.le_refl _, Nat.lt_succ_self _, hb.grown hg3 hb.size (by intro i e; cases e; exact Nat.le_refl _), Nat.zero_le _, Nat.le_refl _⟩
    have hJ0 : scJ s = (([] : List FmD) ++ (scF s (s.length + 1) 0 S0).1, (scF s (s.length + 1) 0 S0).2) := by rw [E0.out]; rfl
    go_wp2_with (fail)
    go_step3
    rename_i K1 hK1 K2 hK2
    refine hK2 _ _ ?_
    exact hrest _ _ ⟨0, S0, _, [], s.length + 1, _, _, _, _, _, _, _, _, _, _, _, _, _, _, _, _, _, _, _, _, _, _, _, _, _, _, rfl, by omega, hJ0, hS⟩
  case pass =>
    intro a' wr hj
    obtain ⟨a, C, v, l, f, gc, gr, u6, u7, u8, u9, u10, u11, u12, u13, u14, u15, u16, u17, u18, u19, u20, u21, u22, u23, u24, u25, u26, u27, u28, u29, rfl, hf, hJ, hS⟩ := hj
    clear E0 HS0 cB hI h1c
    have bc0 := hS.bc
    have rC := range_blk hS.bc
    have hu := Tryz.underlying42
    have hLC : (Tryz.prog.info? 42).map (·.size) = some (C.map u8v).length := by rw [List.length_map, hS.lC]; exact sizeId
    have hIC : (Tryz.prog.info? 42).map (·.size) = some (idVals C).size := by rw [idVals_size, hS.lC]; exact sizeId
    have h1C := idVals_one C
    have lt := hS.lt
    have ge := hS.ge
    have hA1 : ∀ (W : World) (x y : Array Value), Blk ((W.alloc (.cells x 34)).alloc (.cells y 42)) W.heap.size 34 x := fun W x y => (Blk.new W 34 x).alloc _
    have hA2 : ∀ (W : World) (x y : Array Value), Blk ((W.alloc (.cells x 34)).alloc (.cells y 42)) (W.heap.size + 1) 42 y := fun W x y => by
      have h1 : (W.alloc (.cells x 34)).heap.size = W.heap.size + 1 := by simp
      have := Blk.new (W.alloc (.cells x 34)) 42 y
      rwa [h1] at this
    have hA3 : ∀ (W : World) (x y : Array Value), Below W.heap.size W ((W.alloc (.cells x 34)).alloc (.cells y 42)) := fun W x y => ((Below.refl _ _).alloc (Nat.le_refl _) _).alloc (by simp) _
    cases hfr : frR s C a with
    | none =>
      have hrow := hS.row
      have hb0 := hS.hb
      have hrd := hS.rd
      have cF : ∀ W, Rdr gr s a 0 W → Calls Tryz.prog 37 #[.pointer (some ⟨gr, 0, none⟩), .agg (List.map u8v C).toArray] W fun o w' => o = .returned (.tuple #[.agg zF, .agg (idVals zeroB), .bool false]) ∧ ∃ b e, Step gr s b e W w' := fun W h => (frame_any gr s C a hs hS.le hS.lC W h).mono (fun o w' h => by unfold FmP at h; rw [hfr] at h; exact h)
      have hIz := (show (Tryz.prog.info? 42).map (·.size) = some (idVals zeroB).size by rw [idVals_size]; exact sizeId)
      have h1z := idVals_one zeroB
      have hIf : (Tryz.prog.info? 34).map (·.size) = some zF.size := Fj_infoN
      have hzF : zF.all (·.oneCell') = true := by unfold zF; simp [Value.oneCell']
      have HJ := hid (show scJ s = (l ++ [], a, C) by
        rw [hJ]
        obtain ⟨f', rfl⟩ : ∃ f', f = f' + 1 := ⟨f - 1, by omega⟩
        rw [scF_none hfr])
      clear hfr hJ hS hf
      go_wp2_with (first
        | (with_reducible refine wpList_load_if (by with_unfolding_all rfl) 42 _ rfl _ _ rfl (C.map u8v) _ rC hu rfl hLC ?_)
        | (go_at_call 37; (with_reducible refine (cF _ hrd).mono ?_); rintro o4 w4 ⟨rfl, b4, e4, k4⟩; clear hrd rC)
        | (with_reducible refine wpList_store_blk rfl 34 _ _ rfl w4.heap.size _ zF 34 (hA1 w4 _ _) rfl rfl hIf ?c1 hzF ?_))
      case c1 => rfl
      intro w5 h5 g5
      have b5 := (hA3 w4 _ _).grown g5 (hA3 w4 _ _).size (by intro i e; cases e; exact Nat.le_refl _)
      have z5 : Blk w5 (w4.heap.size + 1) 42 _ := (g5.block _ (hA2 w4 _ _).lt (by intro x; have := Option.some.inj x; omega)).trans (hA2 w4 _ _)
      have bc : Blk w4 gc 42 (idVals C) := (k4.gb.block _ bc0.lt (by intro x; have := Option.some.inj x; omega)).trans bc0
      have row : FjOw w4 (gr + 1) v l.length l := hrow.gb k4.gb (by omega)
      have hb : Below w.heap.size w w4 := hb0.grown k4.gb hb0.size (by intro i e; cases e; omega)
      clear bc0 hrow hb0 g5 h5 k4 hA1 hA2 hA3
      go_wp2_with (first
        | (with_reducible refine wpList_store_blk rfl 42 _ _ rfl (w4.heap.size + 1) _ (idVals zeroB) 42 z5 rfl rfl hIz ?c2 h1z ?_))
      case c2 => rfl
      intro w6 h6 g6
      replace b5 := b5.grown g6 b5.size (by intro i e; cases e; omega)
      replace bc := bc.below b5
      replace row := row.below b5
      replace hb := hb.trans (b5.mono hb.size)
      clear b5 z5 g6 h6
      go_upto_region 6 with (fail)
      refine wp_region_held_drew (S := fun W => Blk W gc 42 (idVals C) ∧ FjOw W (gr + 1) v l.length l ∧ Below w.heap.size w W) (by kernel_rfl) ⟨bc.below (below_drew1 _), row.below (below_drew1 _), hb.trans ((below_drew1 _).mono hb.size)⟩ (fun hHeld => ?_)
      clear bc row hb
      generalize w6.drew = V at *
      refine' wpAnyH_take (i := 0) (v := v) rfl (by kernel_rfl) (by kernel_rfl) (by kernel_rfl) (fun _ _ _ h => h) (Or.inl ⟨by rfl, fun w' hw' => by go_simp⟩) hHeld ?_
      try simp only [Act.put, List.getElem_toArray, List.getElem_cons_succ, List.getElem_cons_zero, List.setIfInBounds_toArray, List.set_cons_zero, List.set_cons_succ]
      refine' wpAnyH_take (i := 1) (v := .int .i64 (a : Int)) rfl (by kernel_rfl) (by kernel_rfl) (by kernel_rfl) (fun _ _ _ h => h) (Or.inl ⟨by rfl, fun w' hw' => by go_simp⟩) hHeld ?_
      try simp only [Act.put, List.getElem_toArray, List.getElem_cons_succ, List.getElem_cons_zero, List.setIfInBounds_toArray, List.set_cons_zero, List.set_cons_succ]
      refine' wpAnyH_take (i := 2) (v := .agg (List.map u8v C).toArray) rfl (by kernel_rfl) (by kernel_rfl) (by kernel_rfl) (fun _ _ _ h => h) (yieldsIf_load_mid (by rfl) 42 _ rfl _ 0 rfl (C.map u8v) _ (fun w' hw' => range_blk hw'.1) hu rfl hLC) hHeld ?_
      try simp only [Act.put, List.getElem_toArray, List.getElem_cons_succ, List.getElem_cons_zero, List.setIfInBounds_toArray, List.set_cons_zero, List.set_cons_succ]
      refine wpAnyH_ready (rs := [3]) (by kernel_rfl) (by simp) ?_
      refine AllReadyH.cons rfl (fun K hK => ?_) AllReadyH.nil
      go_simp
      refine hK.out _ _ hHeld (fun hHeld => ?_)
      clear hK K
      try simp only [Act.put, List.getElem_toArray, List.getElem_cons_succ, List.getElem_cons_zero, List.setIfInBounds_toArray, List.set_cons_zero, List.set_cons_succ]
      refine wpAnyH_ready (rs := [4]) (by kernel_rfl) (by simp) ?_
      refine AllReadyH.cons rfl (fun K hK => ?_) AllReadyH.nil
      go_simp
      refine hK.out _ _ hHeld (fun hHeld => ?_)
      clear hK K
      try simp only [Act.put, List.getElem_toArray, List.getElem_cons_succ, List.getElem_cons_zero, List.setIfInBounds_toArray, List.set_cons_zero, List.set_cons_succ]
      refine wpAnyH_ready (rs := [5]) (by kernel_rfl) (by simp) ?_
      refine AllReadyH.cons rfl (fun K hK => ?_) AllReadyH.nil
      refine wp_store_blk 42 _ _ rfl gc _ (idVals C) 42 hHeld.1 rfl rfl hIC rfl h1C ?_
      intro w8 hb8 hg8
      refine hK.out _ _ ⟨hb8, hHeld.2.1.gb hg8 (by omega), hHeld.2.2.grown hg8 hHeld.2.2.size (by intro i e; cases e; exact ge)⟩ (fun hHeld => ?_)
      clear hK K
      try simp only [Act.put, List.getElem_toArray, List.getElem_cons_succ, List.getElem_cons_zero, List.setIfInBounds_toArray, List.set_cons_zero, List.set_cons_succ]
      refine wpAnyH_done (by kernel_rfl) ?_ _
      go_wp2
      simp only [Exit.jump]
      refine bodyPost_ret (results_ttc (P := Tryz.prog) (fn := Tryz.f21) (t := 2) (p := 4) (u := 3) (by rfl) _ _ _ _ _ _ (by rfl) hb8 Tryz.underlying42 rfl hIC) rfl ?_
      refine ⟨v, ?_, ?_, hHeld.2.2⟩
      · rw [HJ.out]; rfl
      · rw [HJ.out]; simp only [List.append_nil]; exact hHeld.2.1.le (by omega)
    | some Y =>
      obtain ⟨X, b⟩ := Y
      obtain ⟨hab, hbl, hok, hpl⟩ := frR_some hfr hS.le
      have hrow := hS.row
      have hb0 := hS.hb
      have hrd := hS.rd
      have hln := hS.ln
      have cF : ∀ W, Rdr gr s a 0 W → Calls Tryz.prog 37 #[.pointer (some ⟨gr, 0, none⟩), .agg (List.map u8v C).toArray] W fun o w' => o = .returned (.tuple #[.agg X.cs, .agg (idVals (nxtB C X)), .bool true]) ∧ Step gr s b 0 W w' := fun W h => (frame_any gr s C a hs hS.le hS.lC W h).mono (fun o w' h => by unfold FmP at h; rw [hfr] at h; exact h)
      obtain ⟨f2, rfl⟩ : ∃ f2, f = f2 + 1 := ⟨f - 1, by omega⟩
      have HJ := hid (show scJ s = ((l ++ [X]) ++ (scF s f2 b (nxtB C X)).1, (scF s f2 b (nxtB C X)).2) by
        rw [hJ, scF_some hfr]
        simp)
      have hNl := nxtB_length C X
      generalize nxtB C X = N at *
      have hIN := (show (Tryz.prog.info? 42).map (·.size) = some (idVals N).size by rw [idVals_size, hNl]; exact sizeId)
      have hLN : (Tryz.prog.info? 42).map (·.size) = some (N.map u8v).length := by rw [List.length_map, hNl]; exact sizeId
      have h1N := idVals_one N
      have hIf : (Tryz.prog.info? 34).map (·.size) = some X.cs.size := Fj_infoN
      have h1X := X.one
      have hXo : X.ok := rfl
      have hlC := hid hS.lC
      have HNL := hid hNl
      clear hfr hJ hS hNl
      go_wp2_with (first
        | (with_reducible refine wpList_load_if (by with_unfolding_all rfl) 42 _ rfl _ _ rfl (C.map u8v) _ rC hu rfl hLC ?_)
        | (go_at_call 37; (with_reducible refine (cF _ hrd).mono ?_); rintro o4 w4 ⟨rfl, k4⟩; clear hrd rC)
        | (with_reducible refine wpList_store_blk rfl 34 _ _ rfl w4.heap.size _ X.cs 34 (hA1 w4 _ _) rfl rfl hIf ?c1 h1X ?_))
      case c1 => rfl
      intro w5 h5 g5
      have b5 := (hA3 w4 _ _).grown g5 (hA3 w4 _ _).size (by intro i e; cases e; exact Nat.le_refl _)
      have z5 : Blk w5 (w4.heap.size + 1) 42 _ := (g5.block _ (hA2 w4 _ _).lt (by intro x; have := Option.some.inj x; omega)).trans (hA2 w4 _ _)
      have bc : Blk w4 gc 42 (idVals C) := (k4.gb.block _ bc0.lt (by intro x; have := Option.some.inj x; omega)).trans bc0
      have row : FjOw w4 (gr + 1) v l.length l := hrow.gb k4.gb (by omega)
      have hb : Below w.heap.size w w4 := hb0.grown k4.gb hb0.size (by intro i e; cases e; omega)
      have rd := k4.r
      have hgr4 : gr < w4.heap.size := Rdr.lt k4.r
      have hvk : ∀ k, v.ownBlock = some k → gr + 1 ≤ k ∧ k < w4.heap.size := fun k hk => row.lt k hk
      clear bc0 hrow hb0 g5 k4 hA1 hA2 hA3
      go_wp2_with (first
        | (with_reducible refine wpList_store_blk rfl 42 _ _ rfl (w4.heap.size + 1) _ (idVals N) 42 z5 rfl rfl hIN ?c2 h1N ?_))
      case c2 => rw [idVals_size, HNL.out]; rfl
      intro w6 h6 g6
      replace b5 := b5.grown g6 b5.size (by intro i e; cases e; omega)
      replace bc := bc.below b5
      replace row := row.below b5
      replace hb := hb.trans (b5.mono hb.size)
      replace rd : Rdr gr s b 0 w6 := Blk.below rd b5
      have hX6 : Blk w6 w4.heap.size 34 X.cs := (g6.block _ h5.lt (by intro x; have := Option.some.inj x; omega)).trans h5
      have hg6 := h6.lt
      clear b5 z5 g6 h5
      generalize hg4 : w4.heap.size = q4 at *
      clear hg4
      go_upto_region 5 with (fail)
      refine wp_region_held_drew (S := fun W => Blk W q4 34 X.cs ∧ Blk W (q4 + 1) 42 (idVals N)) (by kernel_rfl) ⟨hX6.below (below_drew1 _), h6.below (below_drew1 _)⟩ (fun hHeld => ?_)
      replace bc := bc.below (below_drew1 w6)
      replace row := row.below (below_drew1 w6)
      replace hb := hb.trans ((below_drew1 w6).mono hb.size)
      replace rd : Rdr gr s b 0 w6.drew := Blk.below rd (below_drew1 w6)
      clear hX6 h6
      have hg7 : q4 + 1 < w6.drew.heap.size := hHeld.2.lt
      generalize w6.drew = V at *
      refine' wpAnyH_take (i := 0) (v := v) rfl (by kernel_rfl) (by kernel_rfl) (by kernel_rfl) (fun _ _ _ h => h) (Or.inl ⟨by rfl, fun w' hw' => by go_simp⟩) hHeld ?_
      try simp only [Act.put, List.getElem_toArray, List.getElem_cons_succ, List.getElem_cons_zero, List.setIfInBounds_toArray, List.set_cons_zero, List.set_cons_succ]
      refine' wpAnyH_take (i := 1) (v := .agg X.cs) rfl (by kernel_rfl) (by kernel_rfl) (by kernel_rfl) (fun _ _ _ h => h) (yields_fj (by rfl) _ rfl _ _ rfl X hXo (fun w' hw' => blk_range hw'.1)) hHeld ?_
      try simp only [Act.put, List.getElem_toArray, List.getElem_cons_succ, List.getElem_cons_zero, List.setIfInBounds_toArray, List.set_cons_zero, List.set_cons_succ]
      refine' wpAnyH_take (i := 4) (v := .pointer (some ⟨gr, 0, none⟩)) rfl (by kernel_rfl) (by kernel_rfl) (by kernel_rfl) (fun _ _ _ h => h) (Or.inl ⟨by rfl, fun w' hw' => by go_simp⟩) hHeld ?_
      try simp only [Act.put, List.getElem_toArray, List.getElem_cons_succ, List.getElem_cons_zero, List.setIfInBounds_toArray, List.set_cons_zero, List.set_cons_succ]
      refine' wpAnyH_take (i := 6) (v := .agg (List.map u8v N).toArray) rfl (by kernel_rfl) (by kernel_rfl) (by kernel_rfl) (fun _ _ _ h => h) (yieldsIf_load_mid (by rfl) 42 _ rfl _ 0 rfl (N.map u8v) _ (fun w' hw' => range_blk hw'.2) hu rfl hLN) hHeld ?_
      try simp only [Act.put, List.getElem_toArray, List.getElem_cons_succ, List.getElem_cons_zero, List.setIfInBounds_toArray, List.set_cons_zero, List.set_cons_succ]
      refine wpAnyH_ready (rs := [2]) (by kernel_rfl) (by simp) ?_
      refine AllReadyH.cons rfl (fun K hK => ?_) AllReadyH.nil
      refine wp_build1fj _ rfl X hXo rfl ?_
      intro csn hRn
      have hal := (Below.refl V.heap.size V).alloc (Nat.le_refl _) (.cells csn 34)
      replace bc := bc.below hal
      replace row := row.below hal
      replace hb := hb.trans (hal.mono hb.size)
      replace rd : Rdr gr s b 0 _ := Blk.below rd hal
      refine hK.out _ _ ⟨hHeld.1.below hal, hHeld.2.below hal⟩ (fun hHeld => ?_)
      clear hK K hal
      try simp only [Act.put, List.getElem_toArray, List.getElem_cons_succ, List.getElem_cons_zero, List.setIfInBounds_toArray, List.set_cons_zero, List.set_cons_succ]
      refine wpAnyH_ready (rs := [3]) (by kernel_rfl) (by simp) ?_
      refine AllReadyH.cons rfl (fun K hK => ?_) AllReadyH.nil
      refine wp_append_fj _ _ rfl (gr + 1) v l.length l rfl row _ 1 1 [X] rfl rfl (by intro e; cases e) hRn (by omega) (by simp; omega) ?_
      intro v9 w9 row9 g9
      have n9 : ∀ k, k < q4 → k ≤ gr → some k ≠ v.ownBlock := fun k _ hk e => by have := (hvk k e.symm).1; omega
      have m9 : ∀ k, q4 ≤ k → some k ≠ v.ownBlock := fun k hk e => by have := (hvk k e.symm).2; omega
      replace bc : Blk w9 gc 42 (idVals C) := (g9.block _ bc.lt (fun e => by have := (hvk _ e.symm).1; omega)).trans bc
      replace rd : Rdr gr s b 0 w9 := (g9.block _ (Rdr.lt rd) (fun e => by have := (hvk _ e.symm).1; omega)).trans rd
      replace hb : Below w.heap.size w w9 := hb.grown g9 hb.size (fun k hk => by have := (hvk k hk).1; omega)
      refine hK.out _ _ ⟨(g9.block _ hHeld.1.lt (m9 _ (Nat.le_refl _))).trans hHeld.1, (g9.block _ hHeld.2.lt (m9 _ (Nat.le_succ _))).trans hHeld.2⟩ (fun hHeld => ?_)
      clear hK K row hRn n9 m9
      try simp only [Act.put, List.getElem_toArray, List.getElem_cons_succ, List.getElem_cons_zero, List.setIfInBounds_toArray, List.set_cons_zero, List.set_cons_succ]
      refine wpAnyH_ready (rs := [5]) (by kernel_rfl) (by simp) ?_
      refine AllReadyH.cons rfl (fun K hK => ?_) AllReadyH.nil
      go_simp
      (with_reducible refine (pkPlace_any gr s b 0 _ rd).mono ?_)
      rintro e8 w8 ⟨rfl, rfl⟩
      refine hK.out _ _ hHeld (fun hHeld => ?_)
      clear hK K
      try simp only [Act.put, List.getElem_toArray, List.getElem_cons_succ, List.getElem_cons_zero, List.setIfInBounds_toArray, List.set_cons_zero, List.set_cons_succ]
      refine wpAnyH_ready (rs := [7]) (by kernel_rfl) (by simp) ?_
      refine AllReadyH.cons rfl (fun K hK => ?_) AllReadyH.nil
      go_simp
      refine hK.out _ _ hHeld (fun hHeld => ?_)
      clear hK K
      try simp only [Act.put, List.getElem_toArray, List.getElem_cons_succ, List.getElem_cons_zero, List.setIfInBounds_toArray, List.set_cons_zero, List.set_cons_succ]
      refine wpAnyH_ready (rs := [8]) (by kernel_rfl) (by simp) ?_
      refine AllReadyH.cons rfl (fun K hK => ?_) AllReadyH.nil
      go_simp
      refine hK.out _ _ hHeld (fun hHeld => ?_)
      clear hK K
      try simp only [Act.put, List.getElem_toArray, List.getElem_cons_succ, List.getElem_cons_zero, List.setIfInBounds_toArray, List.set_cons_zero, List.set_cons_succ]
      refine wpAnyH_ready (rs := [9]) (by kernel_rfl) (by simp) ?_
      refine AllReadyH.cons rfl (fun K hK => ?_) AllReadyH.nil
      refine wp_store_blk 42 _ _ rfl gc _ (idVals N) 42 bc rfl rfl hIN ((idVals_size C).trans (hlC.out.trans (HNL.out.symm.trans (idVals_size N).symm))) h1N ?_
      intro wz hbz hgz
      have row2 : FjOw wz (gr + 1) v9 (l ++ [X]).length (l ++ [X]) := by
        have hl1 : (l ++ [X]).length = l.length + 1 := by simp
        refine FjOw.gb ?_ hgz (by omega)
        rw [hl1]
        exact row9
      have rd2 : Rdr gr s b 0 wz := (hgz.block _ (Rdr.lt rd) (by intro x; have := Option.some.inj x; omega)).trans rd
      have hb2 := hb.grown hgz hb.size (by intro i e; cases e; exact ge)
      have hSz : ScS w gc gr s b N v9 (l ++ [X]) wz := ⟨hbz, HNL.out, rd2, row2, ge, lt, hb2, hbl, by rw [List.length_append]; simp; omega⟩
      refine hK.out _ _ ⟨(hgz.block _ hHeld.1.lt (by intro x; have := Option.some.inj x; omega)).trans hHeld.1, (hgz.block _ hHeld.2.lt (by intro x; have := Option.some.inj x; omega)).trans hHeld.2⟩ (fun hHeld => ?_)
      clear hK K hgz hbz row2 rd2 hb2 row9 rd bc hb hHeld
      try simp only [Act.put, List.getElem_toArray, List.getElem_cons_succ, List.getElem_cons_zero, List.setIfInBounds_toArray, List.set_cons_zero, List.set_cons_succ]
      refine wpAnyH_done (by kernel_rfl) ?_ _
      go_wp2
      go_step3
      simp only [Exit.then, Exit.jump]
      refine ⟨rfl, ⟨b, N, v9, l ++ [X], f2, gc, gr, _, _, _, _, _, _, _, _, _, _, _, _, _, _, _, _, _, _, _, _, _, _, _, _, rfl, by omega, HJ.out, hSz⟩, ?_⟩
      simp [intOf]
      omega
end Go.Proofs.YtemdmdgigmhlbaaGreat


/- journal: the document's Scan. -/
import Derived.Test.YtemdmdgigmhlbaaGreatJs3
set_option linter.unusedSimpArgs false
set_option linter.unusedVariables false
namespace Go.Proofs.YtemdmdgigmhlbaaGreat
open Go.RowKit Go.Qc Go.Shelf
attribute [local go_sem] txt_size txt_append ib_fold
theorem FrOw.id {W W' : World} {base n g : Nat} {v : Value} {l : List FmD} {cs : Array Value} (h : FrOw W base v n l) (hb : Blk W g 42 cs) (hg : W.grownBy W' (some g)) : FrOw W' base v n l := by
  refine World.ownsRow.kept h hg ?_
  rcases h.2 with ⟨rfl, _⟩ | ⟨g2, cap, cur, rfl, _, h2, _⟩
  · exact .inl rfl
  · right
    intro e
    obtain rfl : g2 = g := by simpa [Value.ownBlock] using e
    have := h2.symm.trans (show W.heap[g2]? = _ from hb)
    simp at this
theorem wp_allocFr {w : World} {o : Oper} {a : Act} {K : Act → World → Prop} {Q : Exit → Act → World → Prop} (ho : o.op = .alloc 36)
    (h : ∀ g cs w', cs.size = 2 → Hid (g = w.heap.size) → Blk w' g 36 cs → Below w.heap.size w w' → K (a.put o.dst (.pointer (some ⟨g, 0, none⟩))) w') : o.wp Tryz.prog a w K Q := by
  obtain ⟨i, Z, hi, hz, hs, hZ, hb⟩ := Fr_info4
  have h9 := h w.heap.size Z (w.alloc (.cells Z 36)) hZ (hid rfl) (Blk.new _ _ _) ((Below.refl _ _).alloc (Nat.le_refl _) _)
  unfold Oper.wp
  simp only [execOp, ho]
  simp [Instr.alloc, zeroValue, typeInfo, hi, hz, newVar, newRow, Value.cells, newObj]
  exact h9
/-- Scanning under way. -/
structure RcS (w : World) (gz gc : Nat) (s : List UInt8) (a : Nat) (C : List UInt8) (v : Value) (l : List FmD) (W : World) : Prop where
  bc : Blk W gc 42 (idVals C)
  bz : Blk W gz 42 (idVals zeroB)
  lC : C.length = 32
  row : FrOw W w.heap.size v l.length l
  ge : w.heap.size ≤ gc
  zge : w.heap.size ≤ gz
  ne : gz ≠ gc
  hb : Below w.heap.size w W
  le : a ≤ s.length
  ln : l.length ≤ a
theorem RcS.below {w : World} {gz gc : Nat} {s : List UInt8} {a : Nat} {C : List UInt8} {v : Value} {l : List FmD} {W W' : World} (h : RcS w gz gc s a C v l W) (g : Below W.heap.size W W') : RcS w gz gc s a C v l W' :=
  ⟨h.bc.below g, h.bz.below g, h.lC, h.row.below g, h.ge, h.zge, h.ne, h.hb.trans (g.mono h.hb.size), h.le, h.ln⟩
/-- What the region that returns keeps. -/
structure RcE (w : World) (gz gc : Nat) (C : List UInt8) (v : Value) (l : List FmD) (W : World) : Prop where
  bc : Blk W gc 42 (idVals C)
  bz : ∃ cs, cs.size = 32 ∧ Blk W gz 42 cs
  row : FrOw W w.heap.size v l.length l
  hb : Below w.heap.size w W
theorem RcE.below {w : World} {gz gc : Nat} {C : List UInt8} {v : Value} {l : List FmD} {W W' : World} (h : RcE w gz gc C v l W) (g : Below W.heap.size W W') : RcE w gz gc C v l W' :=
  ⟨h.bc.below g, h.bz.elim fun cs hc => ⟨cs, hc.1, hc.2.below g⟩, h.row.below g, h.hb.trans (g.mono h.hb.size)⟩
set_option maxRecDepth 100000 in
set_option maxHeartbeats 20000000 in
theorem rscan25_any (s : List UInt8) (hs : s.length ≤ 5000) (w : World) :
    Calls Tryz.prog 14 #[.string (txt s)] w fun e w' => ∃ v, e = .returned (.tuple #[v, .int .i64 ((scJ s).2.1 : Int), .agg (idVals (scJ s).2.2)]) ∧ FrOw w' w.heap.size v (scJ s).1.length (scJ s).1 ∧ Below w.heap.size w w' := by
  have cB := rbegin_any
  have h0l := begB_length
  have e0 : scJ s = scF s (s.length + 1) 0 begB := rfl
  generalize begB = S0 at *
  have hI : (Tryz.prog.info? 42).map (·.size) = some (idVals S0).size := by rw [idVals_size, h0l]; exact sizeId
  have h1c := idVals_one S0
  have E0 := hid e0
  have HS0 := hid h0l
  have hN2 : ∀ (V : World) (cs : Array Value), Blk (V.alloc (.cells cs 42)) V.heap.size 42 cs := fun V cs => Blk.new _ _ _
  clear e0 h0l
  go_enter Tryz.func14, Tryz.ntmps14
  go_upto_region 1 with (fail)
  rw [← zeroB_vals]
  have hZ := Blk.new w 42 (idVals zeroB)
  have hb0 := (Below.refl w.heap.size w).alloc (Nat.le_refl _) (.cells (idVals zeroB) 42)
  have hzlt := hid hZ.lt
  generalize w.alloc (.cells (idVals zeroB) 42) = W0 at *
  go_upto_region 2 with (fail)
  have hM := FrOw.made W0
  have hbM := (Below.refl W0.heap.size W0).alloc (Nat.le_refl _) (.cells #[] 36)
  replace hM := hM.le (Nat.le_trans (Nat.le_of_lt hzlt.out) (Nat.le_refl _))
  replace hZ := hZ.below hbM
  have hb := hb0.trans (hbM.mono hb0.size)
  generalize (Value.slice (some ⟨W0.heap.size, 0, none⟩) 0 0) = v0 at *
  generalize W0.alloc (.cells #[] 36) = W1 at *
  clear hb0 hbM hzlt
  go_wp2_with (first
    | (go_at_call 24; (with_reducible refine (cB _).mono ?_); rintro e1 w1 ⟨rfl, hb1⟩)
    | (with_reducible refine wpList_store_blk rfl 42 _ _ rfl w1.heap.size _ (idVals S0) 42 (hN2 _ _) rfl rfl hI ?c4 h1c ?_))
  case c4 => rw [idVals_size, HS0.out]; rfl
  intro w2 hz2 hg2
  have hn2 := below_new hg2
  replace hM := (hM.below hb1).below hn2
  replace hZ := (hZ.below hb1)
  have hzl := hZ.lt
  replace hZ := hZ.below hn2
  replace hb := hb.trans (hb1.mono hb.size)
  have hsz := hb.size
  have hS : RcS w w.heap.size w1.heap.size s 0 S0 v0 [] w2 := ⟨hz2, hZ, HS0.out, hM, by omega, Nat.le_refl _, by omega, hb.trans (hn2.mono hb.size), Nat.zero_le _, Nat.zero_le _⟩
  have hJ0 : scJ s = (([] : List FmD) ++ (scF s (s.length + 1) 0 S0).1, (scF s (s.length + 1) 0 S0).2) := by rw [E0.out]; rfl
  have HJ0 := hid hJ0
  obtain ⟨gc, hgc⟩ : ∃ gc, gc = w1.heap.size := ⟨_, rfl⟩
  rw [← hgc] at hS ⊢
  clear hz2 hg2 hb1 hgc cB hI h1c hN2 hJ0 hM hZ hb hn2 hzl hsz
  go_wp2_with (fail)
  go_loopw [5, 6] (fun vv i W' => ∃ (a : Nat) (C : List UInt8) (l : List FmD) (f : Nat) (v : Value), v = vv ∧ i = .int .i64 (a : Int) ∧ Hid (s.length - a < f ∧ scJ s = (l ++ (scF s f a C).1, (scF s f a C).2)) ∧ RcS w w.heap.size gc s a C v l W') (fun _ i _ => s.length - (intOf i).toNat)
  case atStart => exact ⟨0, S0, [], s.length + 1, _, rfl, rfl, hid ⟨by omega, HJ0.out⟩, hS⟩
  case round =>
    clear hS HJ0 E0 HS0
    obtain ⟨a, C, l, f, v, rfl, rfl, HF, hS⟩ := hrel
    have hle := hS.le
    have hu := Tryz.underlying42
    have hLC : (Tryz.prog.info? 42).map (·.size) = some (C.map u8v).length := by rw [List.length_map, hS.lC]; exact sizeId
    have hIC : (Tryz.prog.info? 42).map (·.size) = some (idVals C).size := by rw [idVals_size, hS.lC]; exact sizeId
    have h1C := idVals_one C
    have hDl : (s.drop a).length ≤ 5000 := by rw [List.length_drop]; omega
    have cO := fun W => rone25_any (s.drop a) C hDl hS.lC W
    have hex : (txt s).extract a s.length = txt (s.drop a) := by
      rw [txt_extract, List.take_of_length_le (by rw [List.length_drop]; exact Nat.le_refl _)]
    have x1 : (a : Int) ≤ (s.length : Int) := by omega
    have x2 : (0 : Int) ≤ (a : Int) := by omega
    -- what one answers
    obtain ⟨Fc, nb, hFs, hF1, hOne⟩ : ∃ (Fc : Array Value) (nb : Int), Fc.size = 2 ∧ Fc.all (·.oneCell') = true ∧ Hid ((∀ W, Calls Tryz.prog 30 #[.string (txt (s.drop a)), .agg (List.map u8v C).toArray] W fun e w' => e = .returned (.tuple #[.agg Fc, .int .i64 nb]) ∧ Below W.heap.size W w') ∧ ((frR s C a = none ∧ nb = 0) ∨ ∃ X b, frR s C a = some (X, a + b) ∧ Fc = X.cs ∧ nb = (b : Int))) := by
      cases hfr : frR s C a with
      | none => exact ⟨zF, 0, rfl, by unfold zF; simp [Value.oneCell'], hid ⟨fun W => (cO W).mono fun e w' h => by unfold OnQ at h; rw [frR_drop_none hs hle hfr] at h; exact h, .inl ⟨rfl, rfl⟩⟩⟩
      | some p =>
        obtain ⟨X, b'⟩ := p
        obtain ⟨hab, _⟩ := frR_some hfr hle
        obtain ⟨b, rfl⟩ : ∃ b, b' = a + b := ⟨b' - a, by omega⟩
        exact ⟨X.cs, b, rfl, X.one, hid ⟨fun W => (cO W).mono fun e w' h => by unfold OnQ at h; rw [(frR_drop hs hle).2 hfr] at h; exact h, .inr ⟨X, b, rfl, rfl, rfl⟩⟩⟩
    have hIF : (Tryz.prog.info? 36).map (·.size) = some Fc.size := by rw [hFs]; exact Fr_infoN
    have HDR := hid (show (s.drop a).length = s.length - a from List.length_drop ..)
    clear cO hDl
    generalize s.drop a = D at *
    go_upto_region 4 with (fail)
    refine wp_region_held_drew (S := RcS w w.heap.size gc s a C v l) (by kernel_rfl) (hS.below (below_drew1 _)) (fun hHeld => ?_)
    clear hS
    generalize wr.drew = V at *
    refine' wpAnyH_take (i := 0) (v := .string (txt s)) rfl (by kernel_rfl) (by kernel_rfl) (by kernel_rfl) (fun _ _ _ h => h) (Or.inl ⟨by rfl, fun w' hw' => by go_simp⟩) hHeld ?_
    try simp only [Act.put, List.getElem_toArray, List.getElem_cons_succ, List.getElem_cons_zero, List.setIfInBounds_toArray, List.set_cons_zero, List.set_cons_succ]
    refine' wpAnyH_take (i := 1) (v := .int .i64 (a : Int)) rfl (by kernel_rfl) (by kernel_rfl) (by kernel_rfl) (fun _ _ _ h => h) (Or.inl ⟨by rfl, fun w' hw' => by go_simp⟩) hHeld ?_
    try simp only [Act.put, List.getElem_toArray, List.getElem_cons_succ, List.getElem_cons_zero, List.setIfInBounds_toArray, List.set_cons_zero, List.set_cons_succ]
    refine' wpAnyH_take (i := 2) (v := .string (txt D)) rfl (by kernel_rfl) (by kernel_rfl) (by kernel_rfl) (fun _ _ _ h => h) (Or.inl ⟨by rfl, fun w' hw' => by go_simp⟩) hHeld ?_
    try simp only [Act.put, List.getElem_toArray, List.getElem_cons_succ, List.getElem_cons_zero, List.setIfInBounds_toArray, List.set_cons_zero, List.set_cons_succ]
    refine' wpAnyH_take (i := 3) (v := .agg (List.map u8v C).toArray) rfl (by kernel_rfl) (by kernel_rfl) (by kernel_rfl) (fun _ _ _ h => h) (yieldsIf_load_mid (by rfl) 42 _ rfl _ 0 rfl (C.map u8v) _ (fun w' hw' => range_blk hw'.bc) hu rfl hLC) hHeld ?_
    try simp only [Act.put, List.getElem_toArray, List.getElem_cons_succ, List.getElem_cons_zero, List.setIfInBounds_toArray, List.set_cons_zero, List.set_cons_succ]
    refine wpAnyH_ready (rs := [4, 8]) (by kernel_rfl) (by simp) ?_
    refine AllReadyH.cons rfl (fun K hK => ?_) (AllReadyH.cons rfl (fun K hK => ?_) AllReadyH.nil)
    · as_aux_lemma =>
        go_simp
        (with_reducible refine (hOne.out.1 _).mono ?_)
        rintro e5 V5 ⟨rfl, hb5⟩
        refine hK.out _ _ (hHeld.below hb5) (fun hHeld => ?_)
        clear hK K hb5
        try simp only [Act.put, List.getElem_toArray, List.getElem_cons_succ, List.getElem_cons_zero, List.setIfInBounds_toArray, List.set_cons_zero, List.set_cons_succ]
        refine' wpAnyH_take (i := 5) (v := .tuple #[.agg Fc, .int .i64 nb]) rfl (by kernel_rfl) (by kernel_rfl) (by kernel_rfl) (fun _ _ _ h => h) (Or.inl ⟨by rfl, fun w' hw' => by go_simp⟩) hHeld ?_
        try simp only [Act.put, List.getElem_toArray, List.getElem_cons_succ, List.getElem_cons_zero, List.setIfInBounds_toArray, List.set_cons_zero, List.set_cons_succ]
        refine' wpAnyH_take (i := 6) (v := .agg Fc) rfl (by kernel_rfl) (by kernel_rfl) (by kernel_rfl) (fun _ _ _ h => h) (Or.inl ⟨by rfl, fun w' hw' => by go_simp⟩) hHeld ?_
        try simp only [Act.put, List.getElem_toArray, List.getElem_cons_succ, List.getElem_cons_zero, List.setIfInBounds_toArray, List.set_cons_zero, List.set_cons_succ]
        refine' wpAnyH_take (i := 7) (v := .int .i64 nb) rfl (by kernel_rfl) (by kernel_rfl) (by kernel_rfl) (fun _ _ _ h => h) (Or.inl ⟨by rfl, fun w' hw' => by go_simp⟩) hHeld ?_
        try simp only [Act.put, List.getElem_toArray, List.getElem_cons_succ, List.getElem_cons_zero, List.setIfInBounds_toArray, List.set_cons_zero, List.set_cons_succ]
        refine wpAnyH_ready (rs := [8]) (by kernel_rfl) (by simp) ?_
        refine AllReadyH.cons rfl (fun K hK => ?_) AllReadyH.nil
        refine wp_allocFr rfl ?_
        intro gf cs8 V8 hs8 hn8 bF hb8
        have hvk : ∀ k, v.ownBlock = some k → k < gf := fun k hk => by rw [hn8.out]; exact (hHeld.row.lt k hk).2
        have hzf : w.heap.size < gf ∧ gc < gf := by have := hHeld.bc.lt; have := hHeld.bz.lt; have := hn8.out; omega
        refine hK.out _ _ (hHeld.below hb8) (fun hHeld => ?_)
        clear hK K hb8 hn8
        try simp only [Act.put, List.getElem_toArray, List.getElem_cons_succ, List.getElem_cons_zero, List.setIfInBounds_toArray, List.set_cons_zero, List.set_cons_succ]
        refine wpAnyH_ready (rs := [9]) (by kernel_rfl) (by simp) ?_
        refine AllReadyH.cons rfl (fun K hK => ?_) AllReadyH.nil
        refine wp_store_blk 36 _ _ rfl gf _ Fc 36 bF rfl rfl hIF (hs8.trans hFs.symm) hF1 ?_
        clear bF
        intro V9 bF hg9
        refine hK.out _ _ ⟨(hg9.block _ hHeld.bc.lt (by intro e; have := Option.some.inj e; omega)).trans hHeld.bc, (hg9.block _ hHeld.bz.lt (by intro e; have := Option.some.inj e; omega)).trans hHeld.bz, hHeld.lC, World.ownsRow.kept hHeld.row hg9 (.inr (fun e => by have := hvk _ e; omega)), hHeld.ge, hHeld.zge, hHeld.ne, hHeld.hb.grown hg9 hHeld.hb.size (by intro i e; cases e; omega), hHeld.le, hHeld.ln⟩ (fun hHeld => ?_)
        clear hK K hg9
        try simp only [Act.put, List.getElem_toArray, List.getElem_cons_succ, List.getElem_cons_zero, List.setIfInBounds_toArray, List.set_cons_zero, List.set_cons_succ]
        refine wpAnyH_ready (rs := [10]) (by kernel_rfl) (by simp) ?_
        refine AllReadyH.cons rfl (fun K hK => ?_) AllReadyH.nil
        go_simp
        refine hK.out _ _ hHeld (fun hHeld => ?_)
        clear hK K
        try simp only [Act.put, List.getElem_toArray, List.getElem_cons_succ, List.getElem_cons_zero, List.setIfInBounds_toArray, List.set_cons_zero, List.set_cons_succ]
        refine wpAnyH_done (by kernel_rfl) ?_ _
        have hS := hHeld
        clear hHeld
        rcases hOne.out.2 with ⟨hfr, hnb⟩ | ⟨X, b, hfr, rfl, hnb⟩
        · obtain ⟨f', rfl⟩ : ∃ f', f = f' + 1 := ⟨f - 1, by have := HF.out.1; omega⟩
          have HJ := hid (show scJ s = (l ++ [], a, C) by rw [HF.out.2, scF_none hfr])
          subst hnb
          clear hOne hfr bF hFs hF1 hIF
          go_upto_region 6 with (fail)
          refine wp_region_held_drew (S := RcE w w.heap.size gc C v l) (by kernel_rfl) (RcE.below ⟨hS.bc, ⟨_, by rw [idVals_size]; decide, hS.bz⟩, hS.row, hS.hb⟩ (below_drew1 _)) (fun hHeld => ?_)
          have hne9 := hS.ne
          clear hS
          generalize World.drew _ = V6 at *
          refine' wpAnyH_take (i := 0) (v := v) rfl (by kernel_rfl) (by kernel_rfl) (by kernel_rfl) (fun _ _ _ h => h) (Or.inl ⟨by rfl, fun w' hw' => by go_simp⟩) hHeld ?_
          try simp only [Act.put, List.getElem_toArray, List.getElem_cons_succ, List.getElem_cons_zero, List.setIfInBounds_toArray, List.set_cons_zero, List.set_cons_succ]
          refine' wpAnyH_take (i := 1) (v := .int .i64 (a : Int)) rfl (by kernel_rfl) (by kernel_rfl) (by kernel_rfl) (fun _ _ _ h => h) (Or.inl ⟨by rfl, fun w' hw' => by go_simp⟩) hHeld ?_
          try simp only [Act.put, List.getElem_toArray, List.getElem_cons_succ, List.getElem_cons_zero, List.setIfInBounds_toArray, List.set_cons_zero, List.set_cons_succ]
          refine' wpAnyH_take (i := 2) (v := .agg (List.map u8v C).toArray) rfl (by kernel_rfl) (by kernel_rfl) (by kernel_rfl) (fun _ _ _ h => h) (yieldsIf_load_mid (by rfl) 42 _ rfl _ 0 rfl (C.map u8v) _ (fun w' hw' => range_blk hw'.bc) hu rfl hLC) hHeld ?_
          try simp only [Act.put, List.getElem_toArray, List.getElem_cons_succ, List.getElem_cons_zero, List.setIfInBounds_toArray, List.set_cons_zero, List.set_cons_succ]
          refine wpAnyH_ready (rs := [3]) (by kernel_rfl) (by simp) ?_
          refine AllReadyH.cons rfl (fun K hK => ?_) AllReadyH.nil
          go_simp
          refine hK.out _ _ hHeld (fun hHeld => ?_)
          clear hK K
          try simp only [Act.put, List.getElem_toArray, List.getElem_cons_succ, List.getElem_cons_zero, List.setIfInBounds_toArray, List.set_cons_zero, List.set_cons_succ]
          refine wpAnyH_ready (rs := [4]) (by kernel_rfl) (by simp) ?_
          refine AllReadyH.cons rfl (fun K hK => ?_) AllReadyH.nil
          go_simp
          refine hK.out _ _ hHeld (fun hHeld => ?_)
          clear hK K
          try simp only [Act.put, List.getElem_toArray, List.getElem_cons_succ, List.getElem_cons_zero, List.setIfInBounds_toArray, List.set_cons_zero, List.set_cons_succ]
          refine wpAnyH_ready (rs := [5]) (by kernel_rfl) (by simp) ?_
          refine AllReadyH.cons rfl (fun K hK => ?_) AllReadyH.nil
          obtain ⟨cs9, hc9, hz9⟩ := hHeld.bz
          refine wp_store_blk 42 _ _ rfl w.heap.size _ (idVals C) 42 hz9 rfl rfl hIC (hc9.trans (by have := Option.some.inj (hIC.symm.trans sizeId); exact this.symm)) h1C ?_
          intro w8 hb8 hg8
          refine hK.out _ _ ⟨(hg8.block _ hHeld.bc.lt (by intro e; have := Option.some.inj e; omega)).trans hHeld.bc, ⟨_, Option.some.inj (hIC.symm.trans sizeId), hb8⟩, hHeld.row.id hz9 hg8, hHeld.hb.grown hg8 hHeld.hb.size (by intro i e; cases e; exact Nat.le_refl _)⟩ (fun hHeld => ?_)
          clear hK K
          try simp only [Act.put, List.getElem_toArray, List.getElem_cons_succ, List.getElem_cons_zero, List.setIfInBounds_toArray, List.set_cons_zero, List.set_cons_succ]
          refine wpAnyH_done (by kernel_rfl) ?_ _
          go_wp2
          refine bodyPost_ret (results_ttc (P := Tryz.prog) (fn := Tryz.f14) (t := 2) (p := 4) (u := 3) (by rfl) _ _ _ _ _ _ (by rfl) hb8 Tryz.underlying42 rfl hIC) rfl ?_
          refine ⟨v, ?_, ?_, hHeld.hb⟩
          · rw [HJ.out]; rfl
          · rw [HJ.out]; simp only [List.append_nil]; exact hHeld.row
        · obtain ⟨hab, hbl, hok, hpl⟩ := frR_some hfr hle
          obtain ⟨f2, rfl⟩ : ∃ f2, f = f2 + 1 := ⟨f - 1, by have := HF.out.1; omega⟩
          have HJ := hid (show s.length - (a + b) < f2 ∧ scJ s = ((l ++ [X]) ++ (scF s f2 (a + b) (nxtB C X)).1, (scF s f2 (a + b) (nxtB C X)).2) from ⟨by have := HF.out.1; omega, by
            rw [HF.out.2, scF_some hfr]
            simp⟩)
          have cN : ∀ W, Calls Tryz.prog 29 #[.agg (List.map u8v C).toArray, .agg X.cs] W fun e w' => e = .returned (.agg (idVals (nxtB C X))) ∧ Below W.heap.size W w' := fun W => rnext_yes C hS.lC X hok (by omega) W
          have hNl := nxtB_length C X
          generalize nxtB C X = N at *
          have hIN := (show (Tryz.prog.info? 42).map (·.size) = some (idVals N).size by rw [idVals_size, hNl]; exact sizeId)
          have h1N := idVals_one N
          have HNL := hid hNl
          have hXo : X.ok := rfl
          subst hnb
          have z1 : ¬ ((b : Int) = 0) := by omega
          have rF := blk_range bF
          have y1 : wrap64 ((a : Int) + (b : Int)) = ((a + b : Nat) : Int) := by unfold wrap64; omega
          have HLE := hid hbl
          have HAB := hid hab
          have HLN := hid hS.ln
          clear hOne hfr hFs hF1 hIF HF hNl
          go_upto_region 7 with (fail)
          have hlr : (l.length + 1) * 24 ≤ 140737488355328 := by have := HLN.out; omega
          have huR := Tryz.underlying36
          have hLf : (Tryz.prog.info? 36).map (·.size) = some ([.int .i64 X.k, .string (txt X.p)] : List Value).length := Fr_infoN
          have rF2 : V9.rangeAt gf 0 [.int .i64 X.k, .string (txt X.p)] := rF
          have hal := (Below.refl V9.heap.size V9).alloc (Nat.le_refl _) (.cells #[.int .i64 X.k, .string (txt X.p)] 36)
          have hRn : FrRd (V9.alloc (.cells #[.int .i64 X.k, .string (txt X.p)] 36)) (some ⟨V9.heap.size, 0, none⟩) [X] :=
            ⟨FmD.all_ok _, .inr ⟨V9.heap.size, 0, rfl, fun j v hj => blk_range (Blk.new V9 36 #[.int .i64 X.k, .string (txt X.p)]) j v (by simpa [fmsV, FmD.cs] using hj)⟩⟩
          have hS1 := hS.below hal
          have bF1 := bF.below hal
          have hRow := hS1.row
          have hsz1 := hS1.hb.size
          go_upto_region 8 with (first
            | (with_reducible refine wpList_load_if (by with_unfolding_all rfl) 36 _ rfl gf 0 rfl [.int .i64 X.k, .string (txt X.p)] _ rF2 huR rfl hLf ?_)
            | (at_builtin; go_loud (refine wpList_append_fr rfl _ _ rfl w.heap.size v l.length l rfl hRow _ 1 1 [X] rfl rfl (by intro e; cases e) hRn hlr hsz1 ?_); intro v9 w9 row9 g9))
          have bc9 := blk_apart hS1.bc hS1.row (by decide) g9
          have bz9 := blk_apart hS1.bz hS1.row (by decide) g9
          have bF9 : Blk w9 gf 36 X.cs := (g9.block gf bF1.lt (by intro e; have := hvk _ e.symm; omega)).trans bF1
          have hb9 : Below w.heap.size w w9 := hS1.hb.grown g9 hsz1 (fun j hj => (hRow.lt j hj).1)
          have HR := hid (And.intro hS.ge (And.intro hS.zge hS.ne))
          have HLC9 := hid hS.lC
          have rC9 := range_blk bc9
          have rF9 := blk_range bF9
          clear hS hS1 bF bF1 hRow hRn rF rF2 hal g9 hvk hzf
          go_wp2_with (first
            | (with_reducible refine wpList_load_if (by with_unfolding_all rfl) 42 _ rfl _ _ rfl (C.map u8v) _ rC9 hu rfl hLC ?_)
            | (with_reducible refine wpList_load_frr (by with_unfolding_all rfl) _ rfl gf 0 rfl rF9 hXo ?_)
            | (go_at_call 29; (with_reducible refine (cN _).mono ?_); rintro e10 w10 ⟨rfl, hb10⟩; replace bc9 := bc9.below hb10; replace bz9 := bz9.below hb10; replace row9 := row9.below hb10; replace hb9 := hb9.trans (hb10.mono hb9.size); clear rC9 rF9 bF9 hb10)
            | (with_reducible refine wpList_store_blk rfl 42 _ _ rfl gc _ (idVals N) 42 bc9 rfl rfl hIN ?c9 h1N ?_))
          case c9 => exact (idVals_size C).trans (HLC9.out.trans (HNL.out.symm.trans (idVals_size N).symm))
          intro w11 hb11 hg11
          have hln9 : (l ++ [X]).length = l.length + 1 := by simp
          have hSN : RcS w w.heap.size gc s (a + b) N v9 (l ++ [X]) w11 := ⟨hb11, (hg11.block _ bz9.lt (by intro e; have := Option.some.inj e; exact HR.out.2.2 this)).trans bz9, HNL.out, by rw [hln9]; exact row9.id bc9 hg11, HR.out.1, HR.out.2.1, HR.out.2.2, hb9.grown hg11 hb9.size (by intro i e; cases e; exact HR.out.1), HLE.out, by rw [hln9]; have := HLN.out; have := HAB.out; omega⟩
          clear bc9 bz9 row9 hb9 hb11 hg11 hlr hln9
          go_wp2
          go_roundw
          case rel => exact ⟨a + b, N, l ++ [X], f2, v9, rfl, by go_num, hid HJ.out, hSN⟩
          case measure => have := HLE.out; have := HAB.out; simp [intOf]; omega
    · as_aux_lemma =>
        refine wp_allocFr rfl ?_
        intro gf cs8 V8 hs8 hn8 bF hb8
        have hvk : ∀ k, v.ownBlock = some k → k < gf := fun k hk => by rw [hn8.out]; exact (hHeld.row.lt k hk).2
        have hzf : w.heap.size < gf ∧ gc < gf := by have := hHeld.bc.lt; have := hHeld.bz.lt; have := hn8.out; omega
        refine hK.out _ _ (hHeld.below hb8) (fun hHeld => ?_)
        clear hK K hb8 hn8
        try simp only [Act.put, List.getElem_toArray, List.getElem_cons_succ, List.getElem_cons_zero, List.setIfInBounds_toArray, List.set_cons_zero, List.set_cons_succ]
        refine wpAnyH_ready (rs := [4]) (by kernel_rfl) (by simp) ?_
        refine AllReadyH.cons rfl (fun K hK => ?_) AllReadyH.nil
        go_simp
        (with_reducible refine (hOne.out.1 _).mono ?_)
        rintro e5 V5 ⟨rfl, hb5⟩
        replace bF := bF.below hb5
        refine hK.out _ _ (hHeld.below hb5) (fun hHeld => ?_)
        clear hK K hb5
        try simp only [Act.put, List.getElem_toArray, List.getElem_cons_succ, List.getElem_cons_zero, List.setIfInBounds_toArray, List.set_cons_zero, List.set_cons_succ]
        refine' wpAnyH_take (i := 5) (v := .tuple #[.agg Fc, .int .i64 nb]) rfl (by kernel_rfl) (by kernel_rfl) (by kernel_rfl) (fun _ _ _ h => h) (Or.inl ⟨by rfl, fun w' hw' => by go_simp⟩) hHeld ?_
        try simp only [Act.put, List.getElem_toArray, List.getElem_cons_succ, List.getElem_cons_zero, List.setIfInBounds_toArray, List.set_cons_zero, List.set_cons_succ]
        refine' wpAnyH_take (i := 6) (v := .agg Fc) rfl (by kernel_rfl) (by kernel_rfl) (by kernel_rfl) (fun _ _ _ h => h) (Or.inl ⟨by rfl, fun w' hw' => by go_simp⟩) hHeld ?_
        try simp only [Act.put, List.getElem_toArray, List.getElem_cons_succ, List.getElem_cons_zero, List.setIfInBounds_toArray, List.set_cons_zero, List.set_cons_succ]
        refine' wpAnyH_take (i := 7) (v := .int .i64 nb) rfl (by kernel_rfl) (by kernel_rfl) (by kernel_rfl) (fun _ _ _ h => h) (Or.inl ⟨by rfl, fun w' hw' => by go_simp⟩) hHeld ?_
        try simp only [Act.put, List.getElem_toArray, List.getElem_cons_succ, List.getElem_cons_zero, List.setIfInBounds_toArray, List.set_cons_zero, List.set_cons_succ]
        refine wpAnyH_ready (rs := [9]) (by kernel_rfl) (by simp) ?_
        refine AllReadyH.cons rfl (fun K hK => ?_) AllReadyH.nil
        refine wp_store_blk 36 _ _ rfl gf _ Fc 36 bF rfl rfl hIF (hs8.trans hFs.symm) hF1 ?_
        clear bF
        intro V9 bF hg9
        refine hK.out _ _ ⟨(hg9.block _ hHeld.bc.lt (by intro e; have := Option.some.inj e; omega)).trans hHeld.bc, (hg9.block _ hHeld.bz.lt (by intro e; have := Option.some.inj e; omega)).trans hHeld.bz, hHeld.lC, World.ownsRow.kept hHeld.row hg9 (.inr (fun e => by have := hvk _ e; omega)), hHeld.ge, hHeld.zge, hHeld.ne, hHeld.hb.grown hg9 hHeld.hb.size (by intro i e; cases e; omega), hHeld.le, hHeld.ln⟩ (fun hHeld => ?_)
        clear hK K hg9
        try simp only [Act.put, List.getElem_toArray, List.getElem_cons_succ, List.getElem_cons_zero, List.setIfInBounds_toArray, List.set_cons_zero, List.set_cons_succ]
        refine wpAnyH_ready (rs := [10]) (by kernel_rfl) (by simp) ?_
        refine AllReadyH.cons rfl (fun K hK => ?_) AllReadyH.nil
        go_simp
        refine hK.out _ _ hHeld (fun hHeld => ?_)
        clear hK K
        try simp only [Act.put, List.getElem_toArray, List.getElem_cons_succ, List.getElem_cons_zero, List.setIfInBounds_toArray, List.set_cons_zero, List.set_cons_succ]
        refine wpAnyH_done (by kernel_rfl) ?_ _
        have hS := hHeld
        clear hHeld
        rcases hOne.out.2 with ⟨hfr, hnb⟩ | ⟨X, b, hfr, rfl, hnb⟩
        · obtain ⟨f', rfl⟩ : ∃ f', f = f' + 1 := ⟨f - 1, by have := HF.out.1; omega⟩
          have HJ := hid (show scJ s = (l ++ [], a, C) by rw [HF.out.2, scF_none hfr])
          subst hnb
          clear hOne hfr bF hFs hF1 hIF
          go_upto_region 6 with (fail)
          refine wp_region_held_drew (S := RcE w w.heap.size gc C v l) (by kernel_rfl) (RcE.below ⟨hS.bc, ⟨_, by rw [idVals_size]; decide, hS.bz⟩, hS.row, hS.hb⟩ (below_drew1 _)) (fun hHeld => ?_)
          have hne9 := hS.ne
          clear hS
          generalize World.drew _ = V6 at *
          refine' wpAnyH_take (i := 0) (v := v) rfl (by kernel_rfl) (by kernel_rfl) (by kernel_rfl) (fun _ _ _ h => h) (Or.inl ⟨by rfl, fun w' hw' => by go_simp⟩) hHeld ?_
          try simp only [Act.put, List.getElem_toArray, List.getElem_cons_succ, List.getElem_cons_zero, List.setIfInBounds_toArray, List.set_cons_zero, List.set_cons_succ]
          refine' wpAnyH_take (i := 1) (v := .int .i64 (a : Int)) rfl (by kernel_rfl) (by kernel_rfl) (by kernel_rfl) (fun _ _ _ h => h) (Or.inl ⟨by rfl, fun w' hw' => by go_simp⟩) hHeld ?_
          try simp only [Act.put, List.getElem_toArray, List.getElem_cons_succ, List.getElem_cons_zero, List.setIfInBounds_toArray, List.set_cons_zero, List.set_cons_succ]
          refine' wpAnyH_take (i := 2) (v := .agg (List.map u8v C).toArray) rfl (by kernel_rfl) (by kernel_rfl) (by kernel_rfl) (fun _ _ _ h => h) (yieldsIf_load_mid (by rfl) 42 _ rfl _ 0 rfl (C.map u8v) _ (fun w' hw' => range_blk hw'.bc) hu rfl hLC) hHeld ?_
          try simp only [Act.put, List.getElem_toArray, List.getElem_cons_succ, List.getElem_cons_zero, List.setIfInBounds_toArray, List.set_cons_zero, List.set_cons_succ]
          refine wpAnyH_ready (rs := [3]) (by kernel_rfl) (by simp) ?_
          refine AllReadyH.cons rfl (fun K hK => ?_) AllReadyH.nil
          go_simp
          refine hK.out _ _ hHeld (fun hHeld => ?_)
          clear hK K
          try simp only [Act.put, List.getElem_toArray, List.getElem_cons_succ, List.getElem_cons_zero, List.setIfInBounds_toArray, List.set_cons_zero, List.set_cons_succ]
          refine wpAnyH_ready (rs := [4]) (by kernel_rfl) (by simp) ?_
          refine AllReadyH.cons rfl (fun K hK => ?_) AllReadyH.nil
          go_simp
          refine hK.out _ _ hHeld (fun hHeld => ?_)
          clear hK K
          try simp only [Act.put, List.getElem_toArray, List.getElem_cons_succ, List.getElem_cons_zero, List.setIfInBounds_toArray, List.set_cons_zero, List.set_cons_succ]
          refine wpAnyH_ready (rs := [5]) (by kernel_rfl) (by simp) ?_
          refine AllReadyH.cons rfl (fun K hK => ?_) AllReadyH.nil
          obtain ⟨cs9, hc9, hz9⟩ := hHeld.bz
          refine wp_store_blk 42 _ _ rfl w.heap.size _ (idVals C) 42 hz9 rfl rfl hIC (hc9.trans (by have := Option.some.inj (hIC.symm.trans sizeId); exact this.symm)) h1C ?_
          intro w8 hb8 hg8
          refine hK.out _ _ ⟨(hg8.block _ hHeld.bc.lt (by intro e; have := Option.some.inj e; omega)).trans hHeld.bc, ⟨_, Option.some.inj (hIC.symm.trans sizeId), hb8⟩, hHeld.row.id hz9 hg8, hHeld.hb.grown hg8 hHeld.hb.size (by intro i e; cases e; exact Nat.le_refl _)⟩ (fun hHeld => ?_)
          clear hK K
          try simp only [Act.put, List.getElem_toArray, List.getElem_cons_succ, List.getElem_cons_zero, List.setIfInBounds_toArray, List.set_cons_zero, List.set_cons_succ]
          refine wpAnyH_done (by kernel_rfl) ?_ _
          go_wp2
          refine bodyPost_ret (results_ttc (P := Tryz.prog) (fn := Tryz.f14) (t := 2) (p := 4) (u := 3) (by rfl) _ _ _ _ _ _ (by rfl) hb8 Tryz.underlying42 rfl hIC) rfl ?_
          refine ⟨v, ?_, ?_, hHeld.hb⟩
          · rw [HJ.out]; rfl
          · rw [HJ.out]; simp only [List.append_nil]; exact hHeld.row
        · obtain ⟨hab, hbl, hok, hpl⟩ := frR_some hfr hle
          obtain ⟨f2, rfl⟩ : ∃ f2, f = f2 + 1 := ⟨f - 1, by have := HF.out.1; omega⟩
          have HJ := hid (show s.length - (a + b) < f2 ∧ scJ s = ((l ++ [X]) ++ (scF s f2 (a + b) (nxtB C X)).1, (scF s f2 (a + b) (nxtB C X)).2) from ⟨by have := HF.out.1; omega, by
            rw [HF.out.2, scF_some hfr]
            simp⟩)
          have cN : ∀ W, Calls Tryz.prog 29 #[.agg (List.map u8v C).toArray, .agg X.cs] W fun e w' => e = .returned (.agg (idVals (nxtB C X))) ∧ Below W.heap.size W w' := fun W => rnext_yes C hS.lC X hok (by omega) W
          have hNl := nxtB_length C X
          generalize nxtB C X = N at *
          have hIN := (show (Tryz.prog.info? 42).map (·.size) = some (idVals N).size by rw [idVals_size, hNl]; exact sizeId)
          have h1N := idVals_one N
          have HNL := hid hNl
          have hXo : X.ok := rfl
          subst hnb
          have z1 : ¬ ((b : Int) = 0) := by omega
          have rF := blk_range bF
          have y1 : wrap64 ((a : Int) + (b : Int)) = ((a + b : Nat) : Int) := by unfold wrap64; omega
          have HLE := hid hbl
          have HAB := hid hab
          have HLN := hid hS.ln
          clear hOne hfr hFs hF1 hIF HF hNl
          go_upto_region 7 with (fail)
          have hlr : (l.length + 1) * 24 ≤ 140737488355328 := by have := HLN.out; omega
          have huR := Tryz.underlying36
          have hLf : (Tryz.prog.info? 36).map (·.size) = some ([.int .i64 X.k, .string (txt X.p)] : List Value).length := Fr_infoN
          have rF2 : V9.rangeAt gf 0 [.int .i64 X.k, .string (txt X.p)] := rF
          have hal := (Below.refl V9.heap.size V9).alloc (Nat.le_refl _) (.cells #[.int .i64 X.k, .string (txt X.p)] 36)
          have hRn : FrRd (V9.alloc (.cells #[.int .i64 X.k, .string (txt X.p)] 36)) (some ⟨V9.heap.size, 0, none⟩) [X] :=
            ⟨FmD.all_ok _, .inr ⟨V9.heap.size, 0, rfl, fun j v hj => blk_range (Blk.new V9 36 #[.int .i64 X.k, .string (txt X.p)]) j v (by simpa [fmsV, FmD.cs] using hj)⟩⟩
          have hS1 := hS.below hal
          have bF1 := bF.below hal
          have hRow := hS1.row
          have hsz1 := hS1.hb.size
          go_upto_region 8 with (first
            | (with_reducible refine wpList_load_if (by with_unfolding_all rfl) 36 _ rfl gf 0 rfl [.int .i64 X.k, .string (txt X.p)] _ rF2 huR rfl hLf ?_)
            | (at_builtin; go_loud (refine wpList_append_fr rfl _ _ rfl w.heap.size v l.length l rfl hRow _ 1 1 [X] rfl rfl (by intro e; cases e) hRn hlr hsz1 ?_); intro v9 w9 row9 g9))
          have bc9 := blk_apart hS1.bc hS1.row (by decide) g9
          have bz9 := blk_apart hS1.bz hS1.row (by decide) g9
          have bF9 : Blk w9 gf 36 X.cs := (g9.block gf bF1.lt (by intro e; have := hvk _ e.symm; omega)).trans bF1
          have hb9 : Below w.heap.size w w9 := hS1.hb.grown g9 hsz1 (fun j hj => (hRow.lt j hj).1)
          have HR := hid (And.intro hS.ge (And.intro hS.zge hS.ne))
          have HLC9 := hid hS.lC
          have rC9 := range_blk bc9
          have rF9 := blk_range bF9
          clear hS hS1 bF bF1 hRow hRn rF rF2 hal g9 hvk hzf
          go_wp2_with (first
            | (with_reducible refine wpList_load_if (by with_unfolding_all rfl) 42 _ rfl _ _ rfl (C.map u8v) _ rC9 hu rfl hLC ?_)
            | (with_reducible refine wpList_load_frr (by with_unfolding_all rfl) _ rfl gf 0 rfl rF9 hXo ?_)
            | (go_at_call 29; (with_reducible refine (cN _).mono ?_); rintro e10 w10 ⟨rfl, hb10⟩; replace bc9 := bc9.below hb10; replace bz9 := bz9.below hb10; replace row9 := row9.below hb10; replace hb9 := hb9.trans (hb10.mono hb9.size); clear rC9 rF9 bF9 hb10)
            | (with_reducible refine wpList_store_blk rfl 42 _ _ rfl gc _ (idVals N) 42 bc9 rfl rfl hIN ?c9 h1N ?_))
          case c9 => exact (idVals_size C).trans (HLC9.out.trans (HNL.out.symm.trans (idVals_size N).symm))
          intro w11 hb11 hg11
          have hln9 : (l ++ [X]).length = l.length + 1 := by simp
          have hSN : RcS w w.heap.size gc s (a + b) N v9 (l ++ [X]) w11 := ⟨hb11, (hg11.block _ bz9.lt (by intro e; have := Option.some.inj e; exact HR.out.2.2 this)).trans bz9, HNL.out, by rw [hln9]; exact row9.id bc9 hg11, HR.out.1, HR.out.2.1, HR.out.2.2, hb9.grown hg11 hb9.size (by intro i e; cases e; exact HR.out.1), HLE.out, by rw [hln9]; have := HLN.out; have := HAB.out; omega⟩
          clear bc9 bz9 row9 hb9 hb11 hg11 hlr hln9
          go_wp2
          go_roundw
          case rel => exact ⟨a + b, N, l ++ [X], f2, v9, rfl, by go_num, hid HJ.out, hSN⟩
          case measure => have := HLE.out; have := HAB.out; simp [intOf]; omega
end Go.Proofs.YtemdmdgigmhlbaaGreat

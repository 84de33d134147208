
/- journal: a frame is read, the walk. -/
import Derived.Test.YtemdmdgigmhlbaaGreatJn11
set_option linter.unusedSimpArgs false
set_option linter.unusedVariables false
namespace Go.Proofs.YtemdmdgigmhlbaaGreat
open Go.RowKit Go.Qc Go.Shelf
attribute [local go_sem] txt_size txt_append ib_fold
theorem set_take (cs : Array Value) (k : Nat) (hk : k < cs.size) (v : Value) : (cs.setIfInBounds k v).toList.take (k + 1) = cs.toList.take k ++ [v] := by
  rw [Array.toList_setIfInBounds, List.take_add_one, List.getElem?_set_self (by simpa using hk), List.take_set_of_le (Nat.le_refl _)]
  rfl
theorem vaT_len (most : Int) (s : List UInt8) (a : Nat) (e : Int) : (vaTJ most s a e).length ≤ s.length := by
  unfold vaTJ
  split
  · cases h : textR most (s.drop a) with
    | ok p =>
      obtain ⟨v, n⟩ := p
      unfold textR at h
      split at h
      · split at h
        · injection h with h
          injection h with h _
          rw [← h]
          simp only [List.length_take, List.length_drop]
          omega
        · cases h
      · cases h
    | error e => exact Nat.zero_le _
  · exact Nat.zero_le _
theorem run_arrayAt (W : World) (g n c : Nat) (h : 8 ≤ n) : (Instr.arrayAt 106 (.slice (some ⟨g, 0, none⟩) n c)).run Tryz.prog W = .ok (.pointer (some ⟨g, 0, none⟩)) W := by
  unfold Instr.arrayAt
  simp [Sem.run_bind, run_underlying Tryz.underlying106, Result.andThen]
  omega
theorem eq_eight (A B : List UInt8) (hA : A.length = 8) (hB : B.length = 8) (W : World) : (Op.equalIn 10000 106 (.agg (List.map u8v A).toArray) (.agg (List.map u8v B).toArray)).run Tryz.prog W = .ok (decide (A = B)) W := by
  obtain ⟨i0, hi, _⟩ := info_parts infoByte
  exact run_ids W _ 5 8 i0 Tryz.underlying106 hi (by kernel_rfl) Tryz.underlying5 A B hA hB
set_option maxRecDepth 100000 in
set_option maxHeartbeats 8000000 in
theorem frame_any (g : Nat) (s C : List UInt8) (a : Nat) (hs : s.length ≤ 5000) (ha : a ≤ s.length) (hC : C.length = 32) (w : World) (hr : Rdr g s a 0 w) :
    Calls Tryz.prog 37 #[.pointer (some ⟨g, 0, none⟩), .agg (idVals C)] w fun o w' => FmP g s C a w o w' := by
  have hs9 : s.length ≤ 1000000000000 := by omega
  have hS0 := FmS.start hr C zF (idVals zeroB) rfl (by rw [idVals_size]; decide)
  replace hS0 : FmS w g s a 0 C zF (idVals zeroB) (((w.alloc (.cells (idVals C) 42)).alloc (.cells #[.int .i64 0, .string ⟨#[]⟩] 34)).alloc (.cells (idVals zeroB) 42)) := hS0
  go_enter Tryz.func37, Tryz.ntmps37
  go_upto_region 1 with (fail)
  rw [← zeroB_vals]
  generalize ((w.alloc (.cells (idVals C) 42)).alloc (.cells #[.int .i64 0, .string ⟨#[]⟩] 34)).alloc (.cells (idVals zeroB) 42) = W at *
  go_wp2_with (fail)
  refine (pkByteTJ g s a 0 hs9 ha _ hS0.st.r).mono ?_
  rintro o1 w1 ⟨rfl, k1⟩
  have hS := hS0.step k1
  clear k1 hS0
  have la1 := stB_leJ s a 0 ha
  by_cases hx : vaBJ s a 0 = 74
  · rw [hx]
    have hx74 : u8v 74 = .int .u8 74 := rfl
    rw [hx74]
    clear hx74
    have HX := hid hx
    have hf : frR s C a = if (sJ s a).2.2 ≠ 0 then none else if ¬ (fJ s a).okF then none else if (sJ s a).1 ≠ (nxtB C (fJ s a)).take 8 then none else some (fJ s a, (sJ s a).2.1) := by
      unfold frR; rw [if_neg (by simpa using hx)]
    have HF := hid hf
    clear hx hf
    go_wp2_with (fail)
    refine (pkByteTJ g s _ _ hs9 la1 _ hS.st.r).mono ?_
    rintro o2 w2 ⟨rfl, k2⟩
    replace hS := hS.step k2
    clear k2
    have la2 : (kS s a).1 ≤ s.length := stB_leJ s _ _ la1
    change FmS w g s (kS s a).1 (kS s a).2 C zF (idVals zeroB) w2 at hS
    have hky : vaBJ s (stBJ s a 0).1 (stBJ s a 0).2 = kJ s a := rfl
    rw [hky]
    clear hky
    have hwk : wrap64 (ib (kJ s a)) = ib (kJ s a) := by unfold wrap64 ib; have := (kJ s a).toNat_lt; omega
    have hu8 : ∀ y : UInt8, u8v y = .int .u8 (ib y) := fun _ => rfl
    rw [hu8]
    go_wp2_with (fail)
    refine (pkTextTJ g s _ _ 4194304 hs9 la2 _ hS.st.r).mono ?_
    rintro o3 w3 ⟨rfl, k3⟩
    replace hS := hS.step k3
    clear k3
    have la3 : (pS s a).1 ≤ s.length := stT_leJ _ s _ _ la2
    change FmS w g s (pS s a).1 (pS s a).2 C zF (idVals zeroB) w3 at hS
    have hpy : vaTJ 4194304 s (kS s a).1 (kS s a).2 = pJ s a := rfl
    rw [hpy]
    clear hpy
    go_wp2_with (first
      | (with_reducible refine wpList_store_blk rfl 34 _ _ rfl (w.heap.size + 1) _ _ 34 hS.bf rfl rfl ?y1 ?y2 ?y3 ?_))
    case y1 => first | exact Fj_infoN | simpa using Fj_infoN
    case y2 => exact hS.sf
    case y3 => simp [Value.oneCell']
    intro w4 h4 g4
    replace hS := hS.putf g4 h4 rfl
    change FmS w g s (pS s a).1 (pS s a).2 C (fJ s a).cs (idVals zeroB) w4 at hS
    clear g4 h4
    clear hwk
    go_wp2_with (fail)
    have hB8 := Blk.new w4 106 #[.int .u8 0, .int .u8 0, .int .u8 0, .int .u8 0, .int .u8 0, .int .u8 0, .int .u8 0, .int .u8 0]
    have lt8 := hS.bz.lt
    replace hS := hS.below ((Below.refl _ _).alloc (Nat.le_refl _) (.cells #[.int .u8 0, .int .u8 0, .int .u8 0, .int .u8 0, .int .u8 0, .int .u8 0, .int .u8 0, .int .u8 0] 106))
    generalize w4.alloc (.cells #[.int .u8 0, .int .u8 0, .int .u8 0, .int .u8 0, .int .u8 0, .int .u8 0, .int .u8 0, .int .u8 0] 106) = w5 at *
    generalize w4.heap.size = gs at *
    go_loopw [21] (fun i W' => ∃ (k : Nat) (cs : Array Value), k ≤ 8 ∧ i = .int .i64 k ∧ cs.size = 8 ∧ Blk W' gs 106 cs ∧ cs.toList.take k = (slJ s (pS s a).1 (pS s a).2 k).1.map u8v ∧ FmS w g s (slJ s (pS s a).1 (pS s a).2 k).2.1 (slJ s (pS s a).1 (pS s a).2 k).2.2 C (fJ s a).cs (idVals zeroB) W') (fun i _ => 8 - (intOf i).toNat)
    case atStart => exact ⟨0, _, by omega, rfl, rfl, hB8, rfl, hS⟩
    case round =>
      clear hS hB8
      obtain ⟨k, cs, hk, rfl, hcs, hB8, htk, hS⟩ := hrel
      by_cases hlt : k < 8
      · have lak := slJ_le s (pS s a).1 (pS s a).2 la3 k
        have hsl : slJ s (pS s a).1 (pS s a).2 (k + 1) = ((slJ s (pS s a).1 (pS s a).2 k).1 ++ [vaBJ s (slJ s (pS s a).1 (pS s a).2 k).2.1 (slJ s (pS s a).1 (pS s a).2 k).2.2], stBJ s (slJ s (pS s a).1 (pS s a).2 k).2.1 (slJ s (pS s a).1 (pS s a).2 k).2.2) := rfl
        have HSL := hid hsl
        have b1 : (k : Int) < 8 := by omega
        have b2 : (0 : Int) ≤ (k : Int) := by omega
        clear hsl
        generalize slJ s (pS s a).1 (pS s a).2 k = T at *
        have cB := fun W h => pkByteTJ g s T.2.1 T.2.2 hs9 lak W h
        generalize vaBJ s T.2.1 T.2.2 = y at *
        generalize stBJ s T.2.1 T.2.2 = T2 at *
        have hy8 : u8v y = .int .u8 (ib y) := rfl
        rw [hy8] at cB
        clear hy8
        obtain ⟨u, hu⟩ : ∃ u, cs[k]? = some u := ⟨_, Array.getElem?_eq_getElem (by omega)⟩
        go_wp2_with (first
          | (go_at_call 55; (with_reducible refine (cB _ hS.st.r).mono ?_); rintro o6 w6 ⟨rfl, k6⟩; replace hB8 := (k6.gb.block _ hB8.lt (by intro x; have := Option.some.inj x; have := hS.gt; omega)).trans hB8; have hB9 : Blk w6 gs 106 cs := hB8; have d0 := hB9.cell_ hu; have f0 := hB9.frozen k; replace hS := hS.step k6))
        go_roundw
        case rel =>
          refine ⟨k + 1, cs.setIfInBounds k (.int .u8 (ib y)), by omega, by go_num, by rw [Array.size_setIfInBounds, hcs], hB9.set k _, ?_, ?_⟩
          · rw [set_take _ _ (by omega), htk, HSL.out, List.map_append]; rfl
          · rw [HSL.out]
            exact hS.puts (gb_set (gb_refl w6 (some gs)) k _) lt8
        case measure => simp [intOf]; omega
      · obtain rfl : k = 8 := by omega
        have b1 : ¬ (8 : Int) < 8 := by omega
        have hsl : (slJ s (pS s a).1 (pS s a).2 8) = sJ s a := rfl
        rw [hsl] at htk hS
        clear hsl
        have hcsl : cs.toList = (sJ s a).1.map u8v := by
          rw [← htk, List.take_of_length_le (by rw [Array.length_toList, hcs]; exact Nat.le_refl _)]
        have hA8 : (sJ s a).1.length = 8 := slJ_len _ _ _ 8
        have rS := blk_range hB8
        rw [hcsl] at rS
        have hgs := hB8.lt
        have hXp : (fJ s a).p.length ≤ 5000 := Nat.le_trans (vaT_len _ _ _ _) hs
        clear hcsl htk hB8 hcs cs
        generalize fJ s a = X at *
        generalize (sJ s a).1 = A8 at *
        generalize (sJ s a).2.1 = b9 at *
        generalize (sJ s a).2.2 = e9 at *
        go_wp2_with (fail)
        refine (pkErr_any g s _ _ _ hS.st.r).mono ?_
        rintro o7 w7 ⟨rfl, rfl⟩
        by_cases he : e9 = 0
        · subst he
          have hLC : (Tryz.prog.info? 42).map (·.size) = some (C.map u8v).length := by rw [List.length_map, hC]; exact sizeId
          have hu := Tryz.underlying42
          have rC := range_blk hS.bc
          have hFX : FjX wr (w.heap.size + 1) X := ⟨hS.bf⟩
          have hXo : X.ok := rfl
          by_cases hk : X.okF
          · have cN := fun W => next_yes C hC X hk hXp W
            have hf : frR s C a = if A8 ≠ (nxtB C X).take 8 then none else some (X, b9) := by
              rw [HF.out, if_neg (by simp), if_neg (by simpa using hk)]
            have hNl := nxtB_length C X
            have HF2 := hid hf
            clear HF hf
            have HKO := hid hk
            clear hk
            generalize hNN : nxtB C X = N at *
            have HNN := hid hNN
            clear hNN
            have hI := (show (Tryz.prog.info? 42).map (·.size) = some (idVals N).size by rw [idVals_size, hNl]; exact sizeId)
            have h1c := idVals_one N
            go_wp2_with (first
              | (with_reducible refine wpList_load_if (by with_unfolding_all rfl) 42 _ rfl _ _ rfl (C.map u8v) _ rC hu rfl hLC ?_)
              | (with_reducible refine wpList_load_fjx (by with_unfolding_all rfl) _ rfl (w.heap.size + 1) rfl hFX hXo ?_)
              | (go_at_call 43; (with_reducible refine (cN _).mono ?_); rintro e8 w8 ⟨rfl, hb8⟩; replace hS := hS.below hb8; replace rS := rS.below hb8; replace hgs := Nat.lt_of_lt_of_le hgs hb8.size; clear rC hFX hb8)
              | (with_reducible refine wpList_store_blk rfl 42 _ _ rfl (w.heap.size + 1 + 1) _ (idVals N) 42 hS.bz rfl rfl hI ?x1 h1c ?_))
            case x1 => rw [hS.sz, idVals_size, hNl]
            intro wn hn gn
            replace rS : wn.rangeAt gs 0 (A8.map u8v) := fun j v hj => by
              have := rS j v hj
              exact gn.cell this (by intro x; have := Option.some.inj x; simp at this; omega)
            replace hS := hS.putz gn hn (by rw [idVals_size, hNl])
            have rN : wn.rangeAt (w.heap.size + 1 + 1) 0 ((N.take 8).map u8v) := fun j v hj => range_blk hS.bz j v (by
              rw [List.map_take, List.getElem?_take] at hj
              split at hj
              · exact hj
              · cases hj)
            clear gn hn
            have hN8 : (N.take 8).length = 8 := by rw [List.length_take]; omega
            have hLNN : (Tryz.prog.info? 42).map (·.size) = some (N.map u8v).length := by rw [List.length_map, hNl]; exact sizeId
            generalize hn8 : N.take 8 = N8 at *
            have heq := eq_eight A8 N8 hA8 hN8
            have har := fun W => run_arrayAt W (w.heap.size + 1 + 1) 8 32 (by decide)
            have huS := Tryz.underlying106
            have hL8 : (Tryz.prog.info? 106).map (·.size) = some (A8.map u8v).length := by rw [List.length_map, hA8]; kernel_rfl
            have hLN : (Tryz.prog.info? 106).map (·.size) = some (N8.map u8v).length := by rw [List.length_map, hN8]; kernel_rfl
            have fS : ∀ w', (∃ p : LaterW wn, w' = p.w) → w'.rangeAt gs 0 (A8.map u8v) := by rintro _ ⟨p, rfl⟩; exact rS.below p.h
            have fN : ∀ w', (∃ p : LaterW wn, w' = p.w) → w'.rangeAt (w.heap.size + 1 + 1) 0 (N8.map u8v) := by rintro _ ⟨p, rfl⟩; exact rN.below p.h
            clear hn8 hA8 hN8 hgs rS rN
            by_cases hq : A8 = N8
            · have hd : decide (A8 = N8) = true := decide_eq_true hq
              rw [hd] at heq
              have HQ := hid hq
              clear hd hq
              go_upto_region 13 with (fail)
              have mixed : Tryz.prog.follows .mixedOrders = true := by kernel_rfl
              refine wp_region_later mixed (by kernel_rfl) ?_
              repeat (first
                | ((with_reducible refine wpQuiet_skip (by with_unfolding_all rfl) ?_); simp only [Act.put, List.setIfInBounds_toArray, List.set_cons_zero, List.set_cons_succ])
                | ((with_reducible refine wpQuiet_load_if (by with_unfolding_all rfl) 106 _ rfl _ _ rfl (A8.map u8v) _ fS huS (by with_unfolding_all rfl) hL8 ?_); simp only [Act.put, List.setIfInBounds_toArray, List.set_cons_zero, List.set_cons_succ])
                | ((with_reducible refine wpQuiet_load_if (by with_unfolding_all rfl) 106 _ rfl _ _ rfl (N8.map u8v) _ fN huS (by with_unfolding_all rfl) hLN ?_); simp only [Act.put, List.setIfInBounds_toArray, List.set_cons_zero, List.set_cons_succ])
                | ((with_reducible refine wpQuiet_step (fun K hK => ?_)); go_simp; first | ((with_reducible refine hK _ ?_); clear hK K)))
              with_reducible refine wpQuiet_nil ?_
              intro _ hw'
              obtain ⟨p9, rfl⟩ := hw'
              have hp9 := p9.h
              generalize p9.w = V9 at *
              replace hS := hS.below hp9
              clear fS fN
              go_upto_region 15 with (fail)
              refine wp_region_held_drew (S := FmS w g s b9 0 C X.cs (idVals N)) (by kernel_rfl) ?_ (fun hHeld => ?_)
              · exact hS.below (below_drew1 V9)
              clear hS hp9
              generalize V9.drew = V at *
              refine' wpAnyH_take (i := 0) (v := .agg X.cs) rfl (by kernel_rfl) (by kernel_rfl) (by kernel_rfl) (fun _ _ _ h => h) (yields_fj (by rfl) _ rfl _ _ rfl X hXo (fun w' hw' => blk_range hw'.bf)) hHeld ?_
              try simp only [Act.put, List.getElem_toArray, List.getElem_cons_succ, List.getElem_cons_zero, List.setIfInBounds_toArray, List.set_cons_zero, List.set_cons_succ]
              refine' wpAnyH_take (i := 1) (v := .agg (List.map u8v N).toArray) rfl (by kernel_rfl) (by kernel_rfl) (by kernel_rfl) (fun _ _ _ h => h) (yieldsIf_load_mid (by rfl) 42 _ rfl _ 0 rfl (N.map u8v) _ (fun w' hw' => range_blk hw'.bz) hu rfl hLNN) hHeld ?_
              try simp only [Act.put, List.getElem_toArray, List.getElem_cons_succ, List.getElem_cons_zero, List.setIfInBounds_toArray, List.set_cons_zero, List.set_cons_succ]
              refine wpAnyH_ready (rs := [2]) (by kernel_rfl) (by simp) ?_
              refine AllReadyH.cons rfl (fun K hK => ?_) AllReadyH.nil
              refine wp_store_blk 34 _ _ rfl (w.heap.size + 1) _ X.cs 34 hHeld.bf rfl rfl Fj_infoN rfl X.one ?_
              intro wa ha2 ga
              refine hK.out _ _ (hHeld.putf ga ha2 rfl) (fun hHeld => ?_)
              clear hK K ga ha2
              try simp only [Act.put, List.getElem_toArray, List.getElem_cons_succ, List.getElem_cons_zero, List.setIfInBounds_toArray, List.set_cons_zero, List.set_cons_succ]
              refine wpAnyH_ready (rs := [3]) (by kernel_rfl) (by simp) ?_
              refine AllReadyH.cons rfl (fun K hK => ?_) AllReadyH.nil
              refine wp_store_blk 42 _ _ rfl (w.heap.size + 1 + 1) _ (idVals N) 42 hHeld.bz rfl rfl hI rfl h1c ?_
              intro wb hb2 gb
              refine hK.out _ _ (hHeld.putz gb hb2 hHeld.sz) (fun hHeld => ?_)
              clear hK K gb hb2
              try simp only [Act.put, List.getElem_toArray, List.getElem_cons_succ, List.getElem_cons_zero, List.setIfInBounds_toArray, List.set_cons_zero, List.set_cons_succ]
              refine wpAnyH_ready (rs := [4]) (by kernel_rfl) (by simp) ?_
              refine AllReadyH.cons rfl (fun K hK => ?_) AllReadyH.nil
              go_simp
              refine hK.out _ _ hHeld (fun hHeld => ?_)
              clear hK K
              try simp only [Act.put, List.getElem_toArray, List.getElem_cons_succ, List.getElem_cons_zero, List.setIfInBounds_toArray, List.set_cons_zero, List.set_cons_succ]
              refine wpAnyH_done (by kernel_rfl) ?_ _
              go_wp2
              refine bodyPost_ret (results_cct (P := Tryz.prog) (fn := Tryz.f37) (t := 4) (p := 5) (u := 6) (by rfl) _ _ _ _ _ _ X.cs (idVals N) _ _ (by rfl) hHeld.bf Tryz.underlying34 rfl Fj_infoN (by rfl) hHeld.bz Tryz.underlying42 rfl hI) rfl ?_
              unfold FmP
              rw [HF2.out, if_neg (fun h => h HQ.out)]
              show _ ∧ _
              rw [HNN.out]
              exact ⟨rfl, hHeld.st⟩
            · have hd : decide (A8 = N8) = false := decide_eq_false hq
              rw [hd] at heq
              clear hd
              go_upto_region 13 with (fail)
              have mixed : Tryz.prog.follows .mixedOrders = true := by kernel_rfl
              refine wp_region_later mixed (by kernel_rfl) ?_
              repeat (first
                | ((with_reducible refine wpQuiet_skip (by with_unfolding_all rfl) ?_); simp only [Act.put, List.setIfInBounds_toArray, List.set_cons_zero, List.set_cons_succ])
                | ((with_reducible refine wpQuiet_load_if (by with_unfolding_all rfl) 106 _ rfl _ _ rfl (A8.map u8v) _ fS huS (by with_unfolding_all rfl) hL8 ?_); simp only [Act.put, List.setIfInBounds_toArray, List.set_cons_zero, List.set_cons_succ])
                | ((with_reducible refine wpQuiet_load_if (by with_unfolding_all rfl) 106 _ rfl _ _ rfl (N8.map u8v) _ fN huS (by with_unfolding_all rfl) hLN ?_); simp only [Act.put, List.setIfInBounds_toArray, List.set_cons_zero, List.set_cons_succ])
                | ((with_reducible refine wpQuiet_step (fun K hK => ?_)); go_simp; first | ((with_reducible refine hK _ ?_); clear hK K)))
              with_reducible refine wpQuiet_nil ?_
              intro _ hw'
              obtain ⟨p9, rfl⟩ := hw'
              have hp9 := p9.h
              generalize p9.w = V9 at *
              replace hS := hS.below hp9
              clear fS fN heq har
              have hno : frR s C a = none := by rw [HF2.out, if_pos hq]
              go_wp2_with (first
                | (with_reducible refine wpList_store_blk rfl 34 _ _ rfl (w.heap.size + 1) _ _ 34 hS.bf rfl rfl ?z1 ?z2 ?z3 ?_))
              case z1 => first | exact Fj_infoN | simpa using Fj_infoN
              case z2 => exact hS.sf
              case z3 => simp [Value.oneCell']
              intro wA hA gA
              have hSA := hS.putf gA hA rfl
              go_wp2_with (first
                | (with_reducible refine wpList_store_blk rfl 42 _ _ rfl (w.heap.size + 1 + 1) _ _ 42 hSA.bz rfl rfl ?z4 ?z5 ?z6 ?_))
              case z4 => first | exact sizeId | simpa using sizeId
              case z5 => exact hSA.sz
              case z6 => first | rfl | (rw [← zeroB_vals]; exact idVals_one _)
              intro wB hB gB
              rw [← zeroB_vals] at hB
              have hSB := hSA.putz gB hB (by rw [idVals_size]; decide)
              clear gA hA gB hB hSA
              go_wp2
              exact bodyPost_ret (fr_zeros hSB hno (by rfl) (by rfl) (by rfl)) rfl (fr_none hSB hno)
          · have cN := fun W => next_no C X hk W
            have hI := (show (Tryz.prog.info? 42).map (·.size) = some (idVals zeroB).size by rw [idVals_size]; exact sizeId)
            have h1c := idVals_one zeroB
            have hszz : (idVals zeroB).size = 32 := by rw [idVals_size]; decide
            have HK := hid hk
            clear hk
            obtain ⟨ZZ, hZZ⟩ : ∃ ZZ, Hid (ZZ = idVals zeroB) := ⟨_, hid rfl⟩
            rw [← hZZ.out] at hI h1c hszz hS cN
            go_wp2_with (first
              | (with_reducible refine wpList_load_if (by with_unfolding_all rfl) 42 _ rfl _ _ rfl (C.map u8v) _ rC hu rfl hLC ?_)
              | (with_reducible refine wpList_load_fjx (by with_unfolding_all rfl) _ rfl (w.heap.size + 1) rfl hFX hXo ?_)
              | (go_at_call 43; (with_reducible refine (cN _).mono ?_); rintro e8 w8 ⟨rfl, hb8⟩; replace hS := hS.below hb8; clear rC hFX hb8)
              | (with_reducible refine wpList_store_blk rfl 42 _ _ rfl (w.heap.size + 1 + 1) _ ZZ 42 hS.bz rfl rfl hI ?x1 h1c ?_))
            case x1 => rfl
            intro wn hn gn
            replace hS := hS.putz gn hn hszz
            clear gn hn rS hgs
            have huS := Tryz.underlying106
            go_upto_region 13 with (fail)
            have mixed : Tryz.prog.follows .mixedOrders = true := by kernel_rfl
            refine wp_region_later mixed (by kernel_rfl) ?_
            repeat (first
              | ((with_reducible refine wpQuiet_skip (by with_unfolding_all rfl) ?_); simp only [Act.put, List.setIfInBounds_toArray, List.set_cons_zero, List.set_cons_succ])
              | ((with_reducible refine wpQuiet_load_if (by with_unfolding_all rfl) 106 _ rfl _ _ rfl (A8.map u8v) _ fS huS (by with_unfolding_all rfl) hL8 ?_); simp only [Act.put, List.setIfInBounds_toArray, List.set_cons_zero, List.set_cons_succ])
              | ((with_reducible refine wpQuiet_load_if (by with_unfolding_all rfl) 106 _ rfl _ _ rfl (N8.map u8v) _ fN huS (by with_unfolding_all rfl) hLN ?_); simp only [Act.put, List.setIfInBounds_toArray, List.set_cons_zero, List.set_cons_succ])
              | ((with_reducible refine wpQuiet_step (fun K hK => ?_)); go_simp; first | ((with_reducible refine hK _ ?_); clear hK K)))
            with_reducible refine wpQuiet_nil ?_
            intro _ hw'
            obtain ⟨p9, rfl⟩ := hw'
            have hp9 := p9.h
            generalize p9.w = V9 at *
            replace hS := hS.below hp9
            have hno : frR s C a = none := by rw [HF.out, if_neg (by simp), if_pos HK.out]
            go_wp2_with (first
              | (with_reducible refine wpList_store_blk rfl 34 _ _ rfl (w.heap.size + 1) _ _ 34 hS.bf rfl rfl ?z1 ?z2 ?z3 ?_))
            case z1 => first | exact Fj_infoN | simpa using Fj_infoN
            case z2 => exact hS.sf
            case z3 => simp [Value.oneCell']
            intro wA hA gA
            have hSA := hS.putf gA hA rfl
            go_wp2_with (first
              | (with_reducible refine wpList_store_blk rfl 42 _ _ rfl (w.heap.size + 1 + 1) _ _ 42 hSA.bz rfl rfl ?z4 ?z5 ?z6 ?_))
            case z4 => first | exact sizeId | simpa using sizeId
            case z5 => exact hSA.sz
            case z6 => first | rfl | (rw [← zeroB_vals]; exact idVals_one _)
            intro wB hB gB
            rw [← zeroB_vals] at hB
            have hSB := hSA.putz gB hB (by rw [idVals_size]; decide)
            clear gA hA gB hB hSA
            go_wp2
            exact bodyPost_ret (fr_zeros hSB hno (by rfl) (by rfl) (by rfl)) rfl (fr_none hSB hno)
        · have z1 : ¬ e9 = 0 := he
          have z2 : (e9 == 0) = false := by rw [beq_eq_false_iff_ne]; exact he
          have z3 : (e9 != 0) = true := by simpa using he
          clear rS hgs
          have hno : frR s C a = none := by rw [HF.out, if_pos he]
          go_wp2_with (first
            | (with_reducible refine wpList_store_blk rfl 34 _ _ rfl (w.heap.size + 1) _ _ 34 hS.bf rfl rfl ?z1 ?z2 ?z3 ?_))
          case z1 => first | exact Fj_infoN | simpa using Fj_infoN
          case z2 => exact hS.sf
          case z3 => simp [Value.oneCell']
          intro wA hA gA
          have hSA := hS.putf gA hA rfl
          go_wp2_with (first
            | (with_reducible refine wpList_store_blk rfl 42 _ _ rfl (w.heap.size + 1 + 1) _ _ 42 hSA.bz rfl rfl ?z4 ?z5 ?z6 ?_))
          case z4 => first | exact sizeId | simpa using sizeId
          case z5 => exact hSA.sz
          case z6 => first | rfl | (rw [← zeroB_vals]; exact idVals_one _)
          intro wB hB gB
          rw [← zeroB_vals] at hB
          have hSB := hSA.putz gB hB (by rw [idVals_size]; decide)
          clear gA hA gB hB hSA
          go_wp2
          exact bodyPost_ret (fr_zeros hSB hno (by rfl) (by rfl) (by rfl)) rfl (fr_none hSB hno)
  · have z1 : ¬ (ib (vaBJ s a 0) = 74) := fun h => hx ((ib_inj _ 74).mp (show ib (vaBJ s a 0) = ib 74 from h))
    have z2 : (ib (vaBJ s a 0) == 74) = false := by rw [beq_eq_false_iff_ne]; exact z1
    have z3 : (ib (vaBJ s a 0) != 74) = true := by simpa using z1
    have hu8 : u8v (vaBJ s a 0) = .int .u8 (ib (vaBJ s a 0)) := rfl
    rw [hu8]
    clear hu8
    have hno : frR s C a = none := by unfold frR; rw [if_pos (by simpa using hx)]
    go_wp2_with (first
      | (with_reducible refine wpList_store_blk rfl 34 _ _ rfl (w.heap.size + 1) _ _ 34 hS.bf rfl rfl ?z1 ?z2 ?z3 ?_))
    case z1 => first | exact Fj_infoN | simpa using Fj_infoN
    case z2 => exact hS.sf
    case z3 => simp [Value.oneCell']
    intro wA hA gA
    have hSA := hS.putf gA hA rfl
    go_wp2_with (first
      | (with_reducible refine wpList_store_blk rfl 42 _ _ rfl (w.heap.size + 1 + 1) _ _ 42 hSA.bz rfl rfl ?z4 ?z5 ?z6 ?_))
    case z4 => first | exact sizeId | simpa using sizeId
    case z5 => exact hSA.sz
    case z6 => first | rfl | (rw [← zeroB_vals]; exact idVals_one _)
    intro wB hB gB
    rw [← zeroB_vals] at hB
    have hSB := hSA.putz gB hB (by rw [idVals_size]; decide)
    clear gA hA gB hB hSA
    go_wp2
    exact bodyPost_ret (fr_zeros hSB hno (by rfl) (by rfl) (by rfl)) rfl (fr_none hSB hno)
end Go.Proofs.YtemdmdgigmhlbaaGreat

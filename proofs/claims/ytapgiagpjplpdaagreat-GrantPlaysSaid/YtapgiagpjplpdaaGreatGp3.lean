/- grant: slices.IndexFunc and ContainsFunc over texts; the question that May asks of a path. -/
import Derived.Test.YtapgiagpjplpdaaGreatGr9
import Derived.Test.YtapgiagpjplpdaaGreatGr11
import Derived.Test.YtapgiagpjplpdaaGreatCm0
import Derived.ChangeShapes
import Derived.Deep.DeepCutAuto
import Derived.Test.YtapgiagpjplpdaaGreatRk12
set_option linter.unusedSimpArgs false
set_option linter.unusedVariables false
namespace Go.Proofs.YtapgiagpjplpdaaGreat
open Go.RowKit Go.Qc Go.Shelf
attribute [local go_sem] txt_size txt_append ib_fold txt_toL

set_option maxRecDepth 100000 in
set_option maxHeartbeats 20000000 in
theorem sindex_any (fn : FuncId) (hfn : ∀ args W, (callFunc fn args).run Tryz.prog W = .ok (.enter fn args) W) (cap : Array Value) (goes : List UInt8 → Bool) (base : Nat) (w0 : World) (A : Option Addr) (n c : Nat) (Ls : List (List UInt8)) (w : World) (hn : Ls.length = n) (bn : n ≤ 1000) (hr : Rd w A (Ls.map strV)) (h0 : Below base w0 w) (hbs : base ≤ w.heap.size)
    (cF : ∀ X ∈ Ls, ∀ W, Below base w0 W → Calls Tryz.prog fn (#[.string (txt X)] ++ cap) W fun e w' => e = .returned (.bool (goes X)) ∧ Below W.heap.size W w') :
    Calls Tryz.prog 46 #[.slice A n c, .func (.func fn) #[] cap] w fun e w' => ∃ i : Int, e = .returned (.int .i64 i) ∧ decide (0 ≤ i) = Ls.any goes ∧ Below w.heap.size w w' := by
  have HN := hid hn
  have bn9 : n ≤ 9223372036854775807 := by omega
  clear hn
  go_enter Tryz.func46, Tryz.ntmps46
  go_wp2
  go_loopw [8] (fun i wr => ∃ k : Nat, k ≤ n ∧ i = .int .i64 k ∧ (∀ X ∈ Ls.take k, goes X = false) ∧ Below w.heap.size w wr) (fun i _ => n - (intOf i).toNat)
  case atStart => exact ⟨0, by omega, rfl, by simp, Below.refl _ _⟩
  case round =>
    obtain ⟨k, hkn, rfl, hall, hb⟩ := hrel
    by_cases hlt : k < n
    · obtain ⟨ad, X, rfl, hX, hc0⟩ := (hr.below hb).atm (k := k) (by have := HN.out; omega)
      have hcell : wr.cell? (ad.add k) = some (.string (txt X)) := hc0
      clear hc0
      have b1 : (k : Int) < n := by omega
      have cX := cF X (List.mem_of_getElem? hX) wr (h0.trans (hb.mono hbs))
      obtain ⟨t, ht⟩ : ∃ t, goes X = t := ⟨_, rfl⟩
      rw [ht] at cX
      have HT := hid ht
      have HX := hid hX
      have HALL := hid hall
      clear ht hX hall
      have HLT := hid (show k + 1 ≤ n from hlt)
      cases t with
      | true =>
        go_wp2_with ((with_reducible refine cX.mono ?_); rintro e3 w3 ⟨rfl, hb3⟩)
        go_ret
        exact ⟨_, rfl, by rw [decide_eq_true (Int.natCast_nonneg k)]; exact (List.any_eq_true.2 ⟨X, List.mem_of_getElem? HX.out, HT.out⟩).symm, hb.trans (hb3.mono hb.size)⟩
      | false =>
        go_wp2_with ((with_reducible refine cX.mono ?_); rintro e3 w3 ⟨rfl, hb3⟩)
        go_roundw
        case rel => exact ⟨k + 1, HLT.out, by go_num, fun Y hY => by
          rw [List.take_add_one, HX.out] at hY
          rcases List.mem_append.1 hY with hY | hY
          · exact HALL.out Y hY
          · rw [List.mem_singleton.1 hY]; exact HT.out, hb.trans (hb3.mono hb.size)⟩
        case measure => exact meas_k1 HLT.out
    · obtain rfl : k = n := by omega
      have c1 : ¬ (k : Int) < k := by omega
      go_wp2
      go_ret
      refine ⟨_, rfl, ?_, hb⟩
      rw [List.take_of_length_le (by rw [HN.out]; exact Nat.le_refl _)] at hall
      have : Ls.any goes = false := by
        rw [List.any_eq_false]
        exact fun X hX => by rw [hall X hX]; simp
      rw [this]
      decide

set_option maxRecDepth 100000 in
set_option maxHeartbeats 20000000 in
theorem scontains_any (fn : FuncId) (hfn : ∀ args W, (callFunc fn args).run Tryz.prog W = .ok (.enter fn args) W) (cap : Array Value) (goes : List UInt8 → Bool) (base : Nat) (w0 : World) (A : Option Addr) (n c : Nat) (Ls : List (List UInt8)) (w : World) (hn : Ls.length = n) (bn : n ≤ 1000) (hr : Rd w A (Ls.map strV)) (h0 : Below base w0 w) (hbs : base ≤ w.heap.size)
    (cF : ∀ X ∈ Ls, ∀ W, Below base w0 W → Calls Tryz.prog fn (#[.string (txt X)] ++ cap) W fun e w' => e = .returned (.bool (goes X)) ∧ Below W.heap.size W w') :
    Calls Tryz.prog 25 #[.slice A n c, .func (.func fn) #[] cap] w fun e w' => e = .returned (.bool (Ls.any goes)) ∧ Below w.heap.size w w' := by
  have cI := sindex_any fn hfn cap goes base w0 A n c Ls w hn bn hr h0 hbs cF
  clear hn cF hr
  go_enter Tryz.func25, Tryz.ntmps25
  go_wp2_with ((with_reducible refine cI.mono ?_); rintro e1 w1 ⟨i, rfl, hi, hb1⟩)
  go_ret
  rw [← hi]
  exact ⟨rfl, hb1⟩

theorem depG_lo {d : Int} (h : -1 ≤ d) (key s : List UInt8) (X : GrD) : -1 ≤ depG d key s X := by
  unfold depG
  split <;> omega
theorem depS_lo : ∀ (Xs : List GrD) (key s : List UInt8) (d : Int), -1 ≤ d → -1 ≤ Xs.foldl (fun d X => depG d key s X) d
  | [], _, _, _, h => h
  | X :: Xs, key, s, d, h => depS_lo Xs key s _ (depG_lo h key s X)
theorem depV_lo (root : List UInt8) (Xs : List GrD) (key s : List UInt8) : -1 ≤ depV root Xs key s := by
  unfold depV
  split
  · decide
  · exact depS_lo Xs key s (-1) (by decide)
theorem hfnM : ∀ args W, (callFunc 27 args).run Tryz.prog W = .ok (.enter 27 args) W := fun args W => by
  have h1 : decide (Tryz.f27.name = "runtime.NumGoroutine") = false := by kernel_rfl
  have h2 : Tryz.f27.body.isNone = false := by kernel_rfl
  have h1' : ¬ Tryz.f27.name = "runtime.NumGoroutine" := of_decide_eq_false h1
  have h2' : ¬ Tryz.f27.body = none := fun e => by rw [e] at h2; cases h2
  simp [callFunc, Tryz.func27, h1', h2']

set_option maxRecDepth 100000 in
set_option maxHeartbeats 20000000 in
theorem gmay1_any (tb : Nat) (root : List UInt8) (hR : root.length = 32) (Xs : List GrD) (bn : Xs.length ≤ 1000) (key : List UInt8) (hk : key.length = 32) (s : List UInt8) (hp : preR s = true) (tg kg : Nat) (w : World) (hs : TbS w tb root Xs) (ht : w.cell? ⟨tg, 0, none⟩ = some (.pointer (some ⟨tb, 0, none⟩))) (hkk : w.rangeAt kg 0 (key.map u8v)) :
    Calls Tryz.prog 27 #[.string (txt s), .pointer (some ⟨tg, 0, none⟩), .pointer (some ⟨kg, 0, none⟩)] w fun e w' => e = .returned (.bool (decide (depV root Xs key s < 0))) ∧ Below w.heap.size w w' := by
  have cD := gdepthX_any tb root hR Xs bn key hk s hp w hs
  have hlo := depV_lo root Xs key s
  obtain ⟨z, hz⟩ : ∃ z, depV root Xs key s = z := ⟨_, rfl⟩
  rw [hz] at cD hlo ⊢
  unfold idVals at cD
  have hu := Tryz.underlying23
  have hzk : (Tryz.prog.info? 23).map (·.size) = some (key.map u8v).length := by rw [List.length_map, hk]; exact sizeId
  clear hs hz
  go_enter Tryz.func27, Tryz.ntmps27
  by_cases h : z = -1
  · have c1 : (z == -1) = true := by simpa using h
    go_wp2_with (first
      | (with_reducible refine wpList_load_if (by with_unfolding_all rfl) 23 _ rfl _ _ rfl (key.map u8v) _ hkk hu rfl hzk ?_)
      | (go_at_call 18; (with_reducible refine cD.mono ?_); rintro e3 w3 ⟨rfl, hb3⟩))
    go_ret
    exact ⟨by rw [decide_eq_true (by omega)]; rfl, hb3⟩
  · have c1 : (z == -1) = false := by simpa using h
    go_wp2_with (first
      | (with_reducible refine wpList_load_if (by with_unfolding_all rfl) 23 _ rfl _ _ rfl (key.map u8v) _ hkk hu rfl hzk ?_)
      | (go_at_call 18; (with_reducible refine cD.mono ?_); rintro e3 w3 ⟨rfl, hb3⟩))
    go_ret
    exact ⟨by rw [decide_eq_false (by omega)]; rfl, hb3⟩

end Go.Proofs.YtapgiagpjplpdaaGreat
/- grant: May of the program. -/
set_option linter.unusedSimpArgs false
set_option linter.unusedVariables false
namespace Go.Proofs.YtapgiagpjplpdaaGreat
open Go.RowKit Go.Qc Go.Shelf
attribute [local go_sem] txt_size txt_append ib_fold txt_toL

theorem pth_pre {D : OpD} (h : opE D = 0) (hp : ¬ (D.k = 5 ∨ D.k = 6)) : ∀ s ∈ pthD D, preR s = true := by
  have hk := opE_kind h
  unfold opE at h
  rw [if_pos hk] at h
  have w1 : ∀ s, pathR s = true → preR s = true := fun s h => by unfold preR; rw [h, Bool.or_true]
  by_cases h2 : (bareR D && formedR D) = true
  · rw [Bool.and_eq_true] at h2
    have hf := h2.2
    unfold formedR at hf
    rw [if_neg hp] at hf
    unfold pthD
    by_cases h4 : D.k = 4
    · rw [if_pos h4, Bool.and_eq_true, Bool.and_eq_true] at hf
      rw [if_pos h4]
      intro s hs
      simp only [List.mem_cons, List.not_mem_nil, or_false] at hs
      rcases hs with rfl | rfl
      · exact w1 _ hf.1
      · exact w1 _ hf.2.1
    · rw [if_neg h4] at hf
      rw [if_neg h4]
      intro s hs
      rw [List.mem_singleton.1 hs]
      split at hf
      · rw [Bool.and_eq_true] at hf; exact w1 _ hf.1
      · rw [Bool.and_eq_true] at hf; exact w1 _ hf.1
  · rw [if_neg h2] at h; cases h
theorem pth_len (D : OpD) : (pthD D).length ≤ 2 := by unfold pthD; split <;> simp
/-- May a key do something? -/
def mayG (root : List UInt8) (Xs : List GrD) (key : List UInt8) (D : OpD) : Bool :=
  if opE D ≠ 0 then false else if 5 ≤ D.k then decide ((appG root Xs key D).2 = 0) else !((pthD D).any fun s => decide (depV root Xs key s < 0))
theorem may_pol {root : List UInt8} {Xs : List GrD} {key : List UInt8} {D : OpD} (h : D.k = 5 ∨ D.k = 6) : mayG root Xs key D = decide ((appG root Xs key D).2 = 0) := by
  unfold mayG
  by_cases h1 : opE D ≠ 0
  · rw [if_pos h1]
    unfold appG
    rw [if_pos h1]
    exact (decide_eq_false h1).symm
  · rw [if_neg h1, if_pos (show 5 ≤ D.k by omega)]
theorem may_bad {root : List UInt8} {Xs : List GrD} {key : List UInt8} {D : OpD} (h : opE D ≠ 0) : mayG root Xs key D = false := by
  unfold mayG; rw [if_pos h]
theorem may_own {root : List UInt8} {Xs : List GrD} {key : List UInt8} {D : OpD} (h : opE D = 0) (hp : ¬ (D.k = 5 ∨ D.k = 6)) : mayG root Xs key D = !((pthD D).any fun s => decide (depV root Xs key s < 0)) := by
  have := opE_kind h
  unfold mayG; rw [if_neg (by rw [h]; decide), if_neg (show ¬ 5 ≤ D.k by omega)]

set_option maxRecDepth 100000 in
set_option maxHeartbeats 20000000 in
theorem gmay_pol (D : OpD) (hK : D.K.length = 32) (A : Option Addr) (n c : Nat) (B : Option Addr) (m d : Nat) (hlo : D.o.length = n) (bno : n ≤ 1000000) (hln : D.n.length = m) (bmo : m ≤ 1000000) (root : List UInt8) (hR : root.length = 32) (tb : Nat) (Xs : List GrD) (bn : Xs.length ≤ 900) (key : List UInt8) (hk : key.length = 32) (w : World) (hs : TbS w tb root Xs) (rA : Rd w A (D.o.map strV)) (rB : Rd w B (D.n.map strV)) (hp : D.k = 5 ∨ D.k = 6) :
    Calls Tryz.prog 8 #[.pointer (some ⟨tb, 0, none⟩), .agg (idVals key), .agg (opC D A n c B m d)] w fun e w' => e = .returned (.bool (mayG root Xs key D)) ∧ Below w.heap.size w w' := by
  rw [may_pol hp]
  have cA : ∀ W, Below w.heap.size w W → Calls Tryz.prog 23 #[.pointer (some ⟨tb, 0, none⟩), .agg (List.map u8v key).toArray, .agg (opC D A n c B m d)] W fun e w' => ∃ A5 n5 c5, e = .returned (.tuple #[.slice A5 n5 c5, .int .i64 (appG root Xs key D).2]) ∧ Below W.heap.size W w' := fun W hW => by
    obtain ⟨AG, C, ht, hNC, hA, hr⟩ := (hs.below hW).open_
    refine (gapplied_any D hK A n c B m d hlo bno hln bmo root hR tb AG Xs.length C Xs rfl bn hNC hA key hk W ht hr (rA.below hW) (rB.below hW)).mono ?_
    rintro e5 w5 ⟨hQ, hb5⟩
    rcases hQ with ⟨hl, rfl⟩ | ⟨hl, v5, rfl, hown5⟩
    · exact ⟨none, 0, 0, rfl, hb5⟩
    · obtain ⟨A5, c5, rfl, _⟩ := hown5.rd (appG_ok hs.ok hk hK)
      exact ⟨A5, _, c5, by rw [hl], hb5⟩
  have cP := fun W => policy_any D A n c B m d W
  rw [decide_eq_true hp] at cP
  have hu := Tryz.underlying23
  have hzk : (Tryz.prog.info? 23).map (·.size) = some (key.map u8v).length := by rw [List.length_map, hk]; exact sizeId
  have hb1 := (Below.refl w.heap.size w).alloc (Nat.le_refl _) (.cells #[.pointer (some ⟨tb, 0, none⟩)] 26)
  have hb2 := hb1.alloc hb1.size (.cells (idVals key) 23)
  have hbo := hb2.alloc hb2.size (.cells (opC D A n c B m d) 34)
  have e1 : (w.alloc (.cells #[.pointer (some ⟨tb, 0, none⟩)] 26)).heap.size = w.heap.size + 1 := World.size_alloc _ _
  have e2 : ((w.alloc (.cells #[.pointer (some ⟨tb, 0, none⟩)] 26)).alloc (.cells (idVals key) 23)).heap.size = w.heap.size + 1 + 1 := by rw [World.size_alloc, World.size_alloc]
  have b12 := (Below.refl (w.alloc (.cells #[.pointer (some ⟨tb, 0, none⟩)] 26)).heap.size (w.alloc (.cells #[.pointer (some ⟨tb, 0, none⟩)] 26))).alloc (Nat.le_refl _) (.cells (idVals key) 23)
  have b23 := (Below.refl ((w.alloc (.cells #[.pointer (some ⟨tb, 0, none⟩)] 26)).alloc (.cells (idVals key) 23)).heap.size ((w.alloc (.cells #[.pointer (some ⟨tb, 0, none⟩)] 26)).alloc (.cells (idVals key) 23))).alloc (Nat.le_refl _) (.cells (opC D A n c B m d) 34)
  have xp : (((w.alloc (.cells #[.pointer (some ⟨tb, 0, none⟩)] 26)).alloc (.cells (idVals key) 23)).alloc (.cells (opC D A n c B m d) 34)).cell? ⟨w.heap.size, 0, none⟩ = some (.pointer (some ⟨tb, 0, none⟩)) := gr_cell b23 (gr_cell b12 ((Blk.new w 26 #[.pointer (some ⟨tb, 0, none⟩)]).cell_ (i := 0) rfl))
  have hkk := (range_blk (Blk.new (w.alloc (.cells #[.pointer (some ⟨tb, 0, none⟩)] 26)) 23 (idVals key))).below b23
  have hox := OpX.new ((w.alloc (.cells #[.pointer (some ⟨tb, 0, none⟩)] 26)).alloc (.cells (idVals key) 23)) D A n c B m d
  rw [e1] at hkk
  rw [e2] at hox
  generalize (appG root Xs key D).2 = z at *
  clear hs rA rB hp b12 b23 hb1 hb2 e1 e2
  go_enter Tryz.func8, Tryz.ntmps8
  go_upto_region 1 with (fail)
  generalize (((w.alloc (.cells #[.pointer (some ⟨tb, 0, none⟩)] 26)).alloc (.cells (idVals key) 23)).alloc (.cells (opC D A n c B m d) 34)) = w3 at *
  obtain ⟨t, ht⟩ : ∃ t, (z == 0) = t := ⟨_, rfl⟩
  go_wp2_with (first
    | (with_reducible refine wpList_load_opx (by with_unfolding_all rfl) _ rfl _ rfl hox hK ?_)
    | (with_reducible refine wpList_load_if (by with_unfolding_all rfl) 23 _ rfl _ _ rfl (key.map u8v) _ hkk hu rfl hzk ?_)
    | (go_at_call 22; (with_reducible refine (cP _).mono ?_); rintro e3 w4 ⟨rfl, hb3⟩; replace xp := gr_cell hb3 xp; replace hox := hox.below hb3; replace hkk := hkk.below hb3; replace hbo := hbo.trans (hb3.mono hbo.size))
    | (go_at_call 23; (with_reducible refine (cA _ hbo).mono ?_); rintro e5 w5 ⟨A5, n5, c5, rfl, hb5⟩))
  all_goals go_ret
  all_goals exact ⟨by rw [← ht]; rfl, hbo.trans (hb5.mono hbo.size)⟩

set_option maxRecDepth 100000 in
set_option maxHeartbeats 20000000 in
theorem gmay_bad (D : OpD) (hK : D.K.length = 32) (A : Option Addr) (n c : Nat) (B : Option Addr) (m d : Nat) (hlo : D.o.length = n) (bno : n ≤ 1000000) (hln : D.n.length = m) (bmo : m ≤ 1000000) (root : List UInt8) (hR : root.length = 32) (tb : Nat) (Xs : List GrD) (bn : Xs.length ≤ 900) (key : List UInt8) (hk : key.length = 32) (w : World) (hs : TbS w tb root Xs) (rA : Rd w A (D.o.map strV)) (rB : Rd w B (D.n.map strV)) (hp : ¬ (D.k = 5 ∨ D.k = 6)) (he : opE D ≠ 0) :
    Calls Tryz.prog 8 #[.pointer (some ⟨tb, 0, none⟩), .agg (idVals key), .agg (opC D A n c B m d)] w fun e w' => e = .returned (.bool (mayG root Xs key D)) ∧ Below w.heap.size w w' := by
  rw [may_bad he]
  have cR : ∀ W, Below w.heap.size w W → Calls Tryz.prog 24 #[.agg (opC D A n c B m d)] W fun o w' => o = .returned (.int .i64 (opE D)) ∧ Below W.heap.size W w' := fun W hW => oright_any D hK A n c hlo bno B m d hln bmo W (rA.below hW) (rB.below hW)
  have cP := fun W => policy_any D A n c B m d W
  rw [decide_eq_false hp] at cP
  have hu := Tryz.underlying23
  have hzk : (Tryz.prog.info? 23).map (·.size) = some (key.map u8v).length := by rw [List.length_map, hk]; exact sizeId
  have hb1 := (Below.refl w.heap.size w).alloc (Nat.le_refl _) (.cells #[.pointer (some ⟨tb, 0, none⟩)] 26)
  have hb2 := hb1.alloc hb1.size (.cells (idVals key) 23)
  have hbo := hb2.alloc hb2.size (.cells (opC D A n c B m d) 34)
  have e1 : (w.alloc (.cells #[.pointer (some ⟨tb, 0, none⟩)] 26)).heap.size = w.heap.size + 1 := World.size_alloc _ _
  have e2 : ((w.alloc (.cells #[.pointer (some ⟨tb, 0, none⟩)] 26)).alloc (.cells (idVals key) 23)).heap.size = w.heap.size + 1 + 1 := by rw [World.size_alloc, World.size_alloc]
  have b12 := (Below.refl (w.alloc (.cells #[.pointer (some ⟨tb, 0, none⟩)] 26)).heap.size (w.alloc (.cells #[.pointer (some ⟨tb, 0, none⟩)] 26))).alloc (Nat.le_refl _) (.cells (idVals key) 23)
  have b23 := (Below.refl ((w.alloc (.cells #[.pointer (some ⟨tb, 0, none⟩)] 26)).alloc (.cells (idVals key) 23)).heap.size ((w.alloc (.cells #[.pointer (some ⟨tb, 0, none⟩)] 26)).alloc (.cells (idVals key) 23))).alloc (Nat.le_refl _) (.cells (opC D A n c B m d) 34)
  have xp : (((w.alloc (.cells #[.pointer (some ⟨tb, 0, none⟩)] 26)).alloc (.cells (idVals key) 23)).alloc (.cells (opC D A n c B m d) 34)).cell? ⟨w.heap.size, 0, none⟩ = some (.pointer (some ⟨tb, 0, none⟩)) := gr_cell b23 (gr_cell b12 ((Blk.new w 26 #[.pointer (some ⟨tb, 0, none⟩)]).cell_ (i := 0) rfl))
  have hkk := (range_blk (Blk.new (w.alloc (.cells #[.pointer (some ⟨tb, 0, none⟩)] 26)) 23 (idVals key))).below b23
  have hox := OpX.new ((w.alloc (.cells #[.pointer (some ⟨tb, 0, none⟩)] 26)).alloc (.cells (idVals key) 23)) D A n c B m d
  rw [e1] at hkk
  rw [e2] at hox
  have z0 : (opE D == 0) = false := by rw [beq_eq_false_iff_ne]; exact he
  generalize opE D = z at *
  clear hs rA rB hp b12 b23 hb1 hb2 e1 e2 xp hkk
  go_enter Tryz.func8, Tryz.ntmps8
  go_upto_region 1 with (fail)
  generalize (((w.alloc (.cells #[.pointer (some ⟨tb, 0, none⟩)] 26)).alloc (.cells (idVals key) 23)).alloc (.cells (opC D A n c B m d) 34)) = w3 at *
  go_wp2_with (first
    | (with_reducible refine wpList_load_opx (by with_unfolding_all rfl) _ rfl _ rfl hox hK ?_)
    | (go_at_call 22; (with_reducible refine (cP _).mono ?_); rintro e3 w4 ⟨rfl, hb3⟩; replace hox := hox.below hb3; replace hbo := hbo.trans (hb3.mono hbo.size))
    | (go_at_call 24; (with_reducible refine (cR _ hbo).mono ?_); rintro e5 w5 ⟨rfl, hb5⟩))
  all_goals go_ret
  all_goals exact ⟨rfl, hbo.trans (hb5.mono hbo.size)⟩

set_option maxRecDepth 100000 in
set_option maxHeartbeats 20000000 in
theorem gmay_own (D : OpD) (hK : D.K.length = 32) (A : Option Addr) (n c : Nat) (B : Option Addr) (m d : Nat) (hlo : D.o.length = n) (bno : n ≤ 1000000) (hln : D.n.length = m) (bmo : m ≤ 1000000) (root : List UInt8) (hR : root.length = 32) (tb : Nat) (Xs : List GrD) (bn : Xs.length ≤ 900) (key : List UInt8) (hk : key.length = 32) (w : World) (hs : TbS w tb root Xs) (rA : Rd w A (D.o.map strV)) (rB : Rd w B (D.n.map strV)) (hp : ¬ (D.k = 5 ∨ D.k = 6)) (he : opE D = 0) :
    Calls Tryz.prog 8 #[.pointer (some ⟨tb, 0, none⟩), .agg (idVals key), .agg (opC D A n c B m d)] w fun e w' => e = .returned (.bool (mayG root Xs key D)) ∧ Below w.heap.size w w' := by
  rw [may_own he hp]
  have cR : ∀ W, Below w.heap.size w W → Calls Tryz.prog 24 #[.agg (opC D A n c B m d)] W fun o w' => o = .returned (.int .i64 0) ∧ Below W.heap.size W w' := fun W hW => by
    have := oright_any D hK A n c hlo bno B m d hln bmo W (rA.below hW) (rB.below hW)
    rwa [he] at this
  have cQ : ∀ W, Below w.heap.size w W → Calls Tryz.prog 26 #[.agg (opC D A n c B m d)] W fun o w' => ∃ A1 n1, o = .returned (.slice A1 n1 n1) ∧ (pthD D).length = n1 ∧ n1 ≤ 2 ∧ Rd w' A1 ((pthD D).map strV) ∧ Below W.heap.size W w' := fun W hW => opaths_any D A n c B m d W hK (fun W2 h2 => cR W2 (hW.trans (h2.mono hW.size)))
  have hpre := pth_pre he hp
  have cC : ∀ W, Below w.heap.size w W → ∀ (tg kg : Nat) A1 n1, (pthD D).length = n1 → Rd W A1 ((pthD D).map strV) → W.cell? ⟨tg, 0, none⟩ = some (.pointer (some ⟨tb, 0, none⟩)) → W.rangeAt kg 0 (key.map u8v) → Calls Tryz.prog 25 #[.slice A1 n1 n1, .func (.func 27) #[] #[.pointer (some ⟨tg, 0, none⟩), .pointer (some ⟨kg, 0, none⟩)]] W fun e w' => e = .returned (.bool ((pthD D).any fun s => decide (depV root Xs key s < 0))) ∧ Below W.heap.size W w' := fun W hW tg kg A1 n1 hl hr ht hkk =>
    scontains_any 27 hfnM #[.pointer (some ⟨tg, 0, none⟩), .pointer (some ⟨kg, 0, none⟩)] (fun s => decide (depV root Xs key s < 0)) W.heap.size W A1 n1 n1 (pthD D) W hl (by have := pth_len D; omega) hr (Below.refl _ _) (Nat.le_refl _)
      (fun s hs2 W2 h2 => gmay1_any tb root hR Xs (by omega) key hk s (hpre s hs2) tg kg W2 (hs.below (hW.trans (h2.mono hW.size))) (gr_cell h2 ht) (hkk.below h2))
  have cP := fun W => policy_any D A n c B m d W
  rw [decide_eq_false hp] at cP
  have hu := Tryz.underlying23
  have hzk : (Tryz.prog.info? 23).map (·.size) = some (key.map u8v).length := by rw [List.length_map, hk]; exact sizeId
  have hb1 := (Below.refl w.heap.size w).alloc (Nat.le_refl _) (.cells #[.pointer (some ⟨tb, 0, none⟩)] 26)
  have hb2 := hb1.alloc hb1.size (.cells (idVals key) 23)
  have hbo := hb2.alloc hb2.size (.cells (opC D A n c B m d) 34)
  have e1 : (w.alloc (.cells #[.pointer (some ⟨tb, 0, none⟩)] 26)).heap.size = w.heap.size + 1 := World.size_alloc _ _
  have e2 : ((w.alloc (.cells #[.pointer (some ⟨tb, 0, none⟩)] 26)).alloc (.cells (idVals key) 23)).heap.size = w.heap.size + 1 + 1 := by rw [World.size_alloc, World.size_alloc]
  have b12 := (Below.refl (w.alloc (.cells #[.pointer (some ⟨tb, 0, none⟩)] 26)).heap.size (w.alloc (.cells #[.pointer (some ⟨tb, 0, none⟩)] 26))).alloc (Nat.le_refl _) (.cells (idVals key) 23)
  have b23 := (Below.refl ((w.alloc (.cells #[.pointer (some ⟨tb, 0, none⟩)] 26)).alloc (.cells (idVals key) 23)).heap.size ((w.alloc (.cells #[.pointer (some ⟨tb, 0, none⟩)] 26)).alloc (.cells (idVals key) 23))).alloc (Nat.le_refl _) (.cells (opC D A n c B m d) 34)
  have xp : (((w.alloc (.cells #[.pointer (some ⟨tb, 0, none⟩)] 26)).alloc (.cells (idVals key) 23)).alloc (.cells (opC D A n c B m d) 34)).cell? ⟨w.heap.size, 0, none⟩ = some (.pointer (some ⟨tb, 0, none⟩)) := gr_cell b23 (gr_cell b12 ((Blk.new w 26 #[.pointer (some ⟨tb, 0, none⟩)]).cell_ (i := 0) rfl))
  have hkk := (range_blk (Blk.new (w.alloc (.cells #[.pointer (some ⟨tb, 0, none⟩)] 26)) 23 (idVals key))).below b23
  have hox := OpX.new ((w.alloc (.cells #[.pointer (some ⟨tb, 0, none⟩)] 26)).alloc (.cells (idVals key) 23)) D A n c B m d
  rw [e1] at hkk
  rw [e2] at hox
  generalize ((pthD D).any fun s => decide (depV root Xs key s < 0)) = z at *
  generalize pthD D = Ps at *
  clear hs rA rB hp b12 b23 hb1 hb2 e1 e2 he hpre
  go_enter Tryz.func8, Tryz.ntmps8
  go_upto_region 1 with (fail)
  generalize (((w.alloc (.cells #[.pointer (some ⟨tb, 0, none⟩)] 26)).alloc (.cells (idVals key) 23)).alloc (.cells (opC D A n c B m d) 34)) = w3 at *
  go_wp2_with (first
    | (with_reducible refine wpList_load_opx (by with_unfolding_all rfl) _ rfl _ rfl hox hK ?_)
    | (go_at_call 22; (with_reducible refine (cP _).mono ?_); rintro e3 w4 ⟨rfl, hb3⟩; replace xp := gr_cell hb3 xp; replace hkk := hkk.below hb3; replace hox := hox.below hb3; replace hbo := hbo.trans (hb3.mono hbo.size))
    | (go_at_call 24; (with_reducible refine (cR _ hbo).mono ?_); rintro e5 w5 ⟨rfl, hb5⟩; replace xp := gr_cell hb5 xp; replace hkk := hkk.below hb5; replace hox := hox.below hb5; replace hbo := hbo.trans (hb5.mono hbo.size))
    | (go_at_call 26; (with_reducible refine (cQ _ hbo).mono ?_); rintro e6 w6 ⟨A1, n1, rfl, hl1, hn1, hr1, hb6⟩; replace xp := gr_cell hb6 xp; replace hkk := hkk.below hb6; replace hbo := hbo.trans (hb6.mono hbo.size); have HL1 := hid hl1; clear hl1 hn1)
    | (go_at_call 25; (with_reducible refine (cC _ hbo _ _ A1 n1 HL1.out hr1 xp hkk).mono ?_); rintro e7 w7 ⟨rfl, hb7⟩))
  go_ret
  exact ⟨rfl, hbo.trans (hb7.mono hbo.size)⟩
theorem gmay_any (D : OpD) (hK : D.K.length = 32) (A : Option Addr) (n c : Nat) (B : Option Addr) (m d : Nat) (hlo : D.o.length = n) (bno : n ≤ 1000000) (hln : D.n.length = m) (bmo : m ≤ 1000000) (root : List UInt8) (hR : root.length = 32) (tb : Nat) (Xs : List GrD) (bn : Xs.length ≤ 900) (key : List UInt8) (hk : key.length = 32) (w : World) (hs : TbS w tb root Xs) (rA : Rd w A (D.o.map strV)) (rB : Rd w B (D.n.map strV)) :
    Calls Tryz.prog 8 #[.pointer (some ⟨tb, 0, none⟩), .agg (idVals key), .agg (opC D A n c B m d)] w fun e w' => e = .returned (.bool (mayG root Xs key D)) ∧ Below w.heap.size w w' := by
  by_cases hp : D.k = 5 ∨ D.k = 6
  · exact gmay_pol D hK A n c B m d hlo bno hln bmo root hR tb Xs bn key hk w hs rA rB hp
  · by_cases he : opE D = 0
    · exact gmay_own D hK A n c B m d hlo bno hln bmo root hR tb Xs bn key hk w hs rA rB hp he
    · exact gmay_bad D hK A n c B m d hlo bno hln bmo root hR tb Xs bn key hk w hs rA rB hp he

end Go.Proofs.YtapgiagpjplpdaaGreat
/- grant: May of the document. -/
set_option linter.unusedSimpArgs false
set_option linter.unusedVariables false
namespace Go.Proofs.YtapgiagpjplpdaaGreat
open Go.RowKit Go.Qc Go.Shelf
attribute [local go_sem] txt_size txt_append ib_fold txt_toL

set_option maxRecDepth 100000 in
set_option maxHeartbeats 20000000 in
theorem rmay_bad (root : List UInt8) (hR : root.length = 32) (A : Option Addr) (n c : Nat) (Xs : List GrD) (hn : Xs.length = n) (bn : n ≤ 900) (hP : ∀ X ∈ Xs, X.p.length ≤ 1000000) (hO : SortG Xs) (key : List UInt8) (hk : key.length = 32) (D : OpD) (hK : D.K.length = 32) (A' : Option Addr) (n' c' : Nat) (hlo : D.o.length = n') (bno : n' ≤ 1000000) (B' : Option Addr) (m' d' : Nat) (hln : D.n.length = m') (bmo : m' ≤ 1000000) (bp : D.p.length ≤ 1000000) (bt : D.t.length ≤ 1000000) (bo : ∀ x ∈ D.o, x.length ≤ 1000000000000) (bnn : ∀ x ∈ D.n, x.length ≤ 1000000000000) (w : World) (hr : GrRd w A Xs) (rA : Rd w A' (D.o.map strV)) (rB : Rd w B' (D.n.map strV)) (he : opE D ≠ 0) :
    Calls Tryz.prog 9 #[.agg (tbC root (.slice A n c)), .agg (idVals key), .agg (opC D A' n' c' B' m' d')] w fun e w' => e = .returned (.bool (mayG root Xs key D)) ∧ Below w.heap.size w w' := by
  rw [may_bad he]
  have hu := Tryz.underlying23
  have hzk : (Tryz.prog.info? 23).map (·.size) = some (key.map u8v).length := by rw [List.length_map, hk]; exact sizeId
  have hb1 := (Below.refl w.heap.size w).alloc (Nat.le_refl _) (.cells (tbC root (.slice A n c)) 31)
  have hb2 := hb1.alloc hb1.size (.cells (idVals key) 23)
  have hbo := hb2.alloc hb2.size (.cells (opC D A' n' c' B' m' d') 34)
  have e1 : (w.alloc (.cells (tbC root (.slice A n c)) 31)).heap.size = w.heap.size + 1 := World.size_alloc _ _
  have e2 : ((w.alloc (.cells (tbC root (.slice A n c)) 31)).alloc (.cells (idVals key) 23)).heap.size = w.heap.size + 1 + 1 := by rw [World.size_alloc, World.size_alloc]
  have b12 := (Below.refl (w.alloc (.cells (tbC root (.slice A n c)) 31)).heap.size (w.alloc (.cells (tbC root (.slice A n c)) 31))).alloc (Nat.le_refl _) (.cells (idVals key) 23)
  have b23 := (Below.refl ((w.alloc (.cells (tbC root (.slice A n c)) 31)).alloc (.cells (idVals key) 23)).heap.size ((w.alloc (.cells (tbC root (.slice A n c)) 31)).alloc (.cells (idVals key) 23))).alloc (Nat.le_refl _) (.cells (opC D A' n' c' B' m' d') 34)
  have hT0 : TbK (w.alloc (.cells (tbC root (.slice A n c)) 31)) w.heap.size root (.slice A n c) := ⟨Blk.new _ _ _⟩
  have hT := (hT0.below b12).below b23
  have hkk := (range_blk (Blk.new (w.alloc (.cells (tbC root (.slice A n c)) 31)) 23 (idVals key))).below b23
  have hox := OpX.new ((w.alloc (.cells (tbC root (.slice A n c)) 31)).alloc (.cells (idVals key) 23)) D A' n' c' B' m' d'
  rw [e1] at hkk
  rw [e2] at hox
  have cR : ∀ W, Below w.heap.size w W → Calls Tryz.prog 28 #[.agg (opC D A' n' c' B' m' d')] W fun o w' => o = .returned (.int .i64 (opE D)) ∧ Below W.heap.size W w' := fun W h => rr13_any D hK A' n' c' hlo bno B' m' d' hln bmo bp bt bo bnn W (rA.below h) (rB.below h)
  have z0 : (opE D == 0) = false := by rw [beq_eq_false_iff_ne]; exact he
  have z1 : (opE D != 0) = true := by simpa using he
  generalize opE D = z at *
  clear hr rA rB b12 b23 hb1 hb2 e1 e2 hT0 hkk hT
  go_enter Tryz.func9, Tryz.ntmps9
  go_upto_region 1 with (fail)
  generalize (((w.alloc (.cells (tbC root (.slice A n c)) 31)).alloc (.cells (idVals key) 23)).alloc (.cells (opC D A' n' c' B' m' d') 34)) = w3 at *
  go_wp2_with (first
    | (with_reducible refine wpList_load_opx (by with_unfolding_all rfl) _ rfl _ rfl hox hK ?_)
    | (go_at_call 28; (with_reducible refine (cR _ hbo).mono ?_); rintro e5 w5 ⟨rfl, hb5⟩))
  go_ret
  exact ⟨rfl, hbo.trans (hb5.mono hbo.size)⟩

set_option maxRecDepth 100000 in
set_option maxHeartbeats 20000000 in
theorem rmay_pol (root : List UInt8) (hR : root.length = 32) (A : Option Addr) (n c : Nat) (Xs : List GrD) (hn : Xs.length = n) (bn : n ≤ 900) (hP : ∀ X ∈ Xs, X.p.length ≤ 1000000) (hO : SortG Xs) (key : List UInt8) (hk : key.length = 32) (D : OpD) (hK : D.K.length = 32) (A' : Option Addr) (n' c' : Nat) (hlo : D.o.length = n') (bno : n' ≤ 1000000) (B' : Option Addr) (m' d' : Nat) (hln : D.n.length = m') (bmo : m' ≤ 1000000) (bp : D.p.length ≤ 1000000) (bt : D.t.length ≤ 1000000) (bo : ∀ x ∈ D.o, x.length ≤ 1000000000000) (bnn : ∀ x ∈ D.n, x.length ≤ 1000000000000) (w : World) (hr : GrRd w A Xs) (rA : Rd w A' (D.o.map strV)) (rB : Rd w B' (D.n.map strV)) (he : opE D = 0) (hp : D.k = 5 ∨ D.k = 6) :
    Calls Tryz.prog 9 #[.agg (tbC root (.slice A n c)), .agg (idVals key), .agg (opC D A' n' c' B' m' d')] w fun e w' => e = .returned (.bool (mayG root Xs key D)) ∧ Below w.heap.size w w' := by
  rw [may_pol hp]
  have hm : (applyD19 root Xs key D).2 = (appG root Xs key D).2 := by rw [apply_same hO key D]
  have cA : ∀ W, Below w.heap.size w W → Calls Tryz.prog 10 #[.agg (tbC root (.slice A n c)), .agg (List.map u8v key).toArray, .agg (opC D A' n' c' B' m' d')] W fun e w' => ∃ A5 n5 c5, e = .returned (.tuple #[.agg (tbC root (.slice A5 n5 c5)), .int .i64 (appG root Xs key D).2]) ∧ Below W.heap.size W w' := fun W hW => by
    refine (rapply19_any root hR A n c Xs hn bn hP key hk D hK A' n' c' hlo bno B' m' d' hln bmo bp bt bo bnn W (hr.below hW) (rA.below hW) (rB.below hW)).mono ?_
    rintro e5 w5 ⟨v, rfl, ⟨A5, c5, rfl, _⟩, hb5⟩
    exact ⟨A5, _, c5, by rw [hm], hb5⟩
  have hu := Tryz.underlying23
  have hzk : (Tryz.prog.info? 23).map (·.size) = some (key.map u8v).length := by rw [List.length_map, hk]; exact sizeId
  have hb1 := (Below.refl w.heap.size w).alloc (Nat.le_refl _) (.cells (tbC root (.slice A n c)) 31)
  have hb2 := hb1.alloc hb1.size (.cells (idVals key) 23)
  have hbo := hb2.alloc hb2.size (.cells (opC D A' n' c' B' m' d') 34)
  have e1 : (w.alloc (.cells (tbC root (.slice A n c)) 31)).heap.size = w.heap.size + 1 := World.size_alloc _ _
  have e2 : ((w.alloc (.cells (tbC root (.slice A n c)) 31)).alloc (.cells (idVals key) 23)).heap.size = w.heap.size + 1 + 1 := by rw [World.size_alloc, World.size_alloc]
  have b12 := (Below.refl (w.alloc (.cells (tbC root (.slice A n c)) 31)).heap.size (w.alloc (.cells (tbC root (.slice A n c)) 31))).alloc (Nat.le_refl _) (.cells (idVals key) 23)
  have b23 := (Below.refl ((w.alloc (.cells (tbC root (.slice A n c)) 31)).alloc (.cells (idVals key) 23)).heap.size ((w.alloc (.cells (tbC root (.slice A n c)) 31)).alloc (.cells (idVals key) 23))).alloc (Nat.le_refl _) (.cells (opC D A' n' c' B' m' d') 34)
  have hT0 : TbK (w.alloc (.cells (tbC root (.slice A n c)) 31)) w.heap.size root (.slice A n c) := ⟨Blk.new _ _ _⟩
  have hT := (hT0.below b12).below b23
  have hkk := (range_blk (Blk.new (w.alloc (.cells (tbC root (.slice A n c)) 31)) 23 (idVals key))).below b23
  have hox := OpX.new ((w.alloc (.cells (tbC root (.slice A n c)) 31)).alloc (.cells (idVals key) 23)) D A' n' c' B' m' d'
  rw [e1] at hkk
  rw [e2] at hox
  have cR : ∀ W, Below w.heap.size w W → Calls Tryz.prog 28 #[.agg (opC D A' n' c' B' m' d')] W fun o w' => o = .returned (.int .i64 (opE D)) ∧ Below W.heap.size W w' := fun W h => rr13_any D hK A' n' c' hlo bno B' m' d' hln bmo bp bt bo bnn W (rA.below h) (rB.below h)
  rw [he] at cR
  have z5 : (5 : Int) ≤ D.k := by omega
  generalize (appG root Xs key D).2 = z at *
  obtain ⟨t, ht⟩ : ∃ t, (z == 0) = t := ⟨_, rfl⟩
  clear hr rA rB b12 b23 hb1 hb2 e1 e2 hT0 hp hm he
  go_enter Tryz.func9, Tryz.ntmps9
  go_upto_region 1 with (fail)
  generalize (((w.alloc (.cells (tbC root (.slice A n c)) 31)).alloc (.cells (idVals key) 23)).alloc (.cells (opC D A' n' c' B' m' d') 34)) = w3 at *
  go_wp2_with (first
    | (with_reducible refine wpList_load_opx (by with_unfolding_all rfl) _ rfl _ rfl hox hK ?_)
    | (go_at_call 28; (with_reducible refine (cR _ hbo).mono ?_); rintro e2 w4 ⟨rfl, hb3⟩; replace hT := hT.below hb3; replace hkk := hkk.below hb3; replace hox := hox.below hb3; replace hbo := hbo.trans (hb3.mono hbo.size); have c0 := hox.c0)
    | (with_reducible refine wpList_load_tb (by with_unfolding_all rfl) _ rfl w.heap.size root hR _ rfl hT ?_)
    | (with_reducible refine wpList_load_if (by with_unfolding_all rfl) 23 _ rfl _ _ rfl (key.map u8v) _ hkk hu rfl hzk ?_)
    | (go_at_call 10; (with_reducible refine (cA _ hbo).mono ?_); rintro e5 w5 ⟨A5, n5, c5, rfl, hb5⟩)
    | (with_reducible refine wpList_store_tbn rfl _ _ rfl root hR _ rfl rfl rfl (by with_unfolding_all rfl) ?_))
  go_ret
  have hb9 := hbo.trans (hb5.mono hbo.size)
  exact ⟨by rw [← ht]; rfl, hb9.alloc hb9.size _⟩

set_option maxRecDepth 100000 in
set_option maxHeartbeats 20000000 in
theorem rmay_own (root : List UInt8) (hR : root.length = 32) (A : Option Addr) (n c : Nat) (Xs : List GrD) (hn : Xs.length = n) (bn : n ≤ 900) (hP : ∀ X ∈ Xs, X.p.length ≤ 1000000) (hO : SortG Xs) (key : List UInt8) (hk : key.length = 32) (D : OpD) (hK : D.K.length = 32) (A' : Option Addr) (n' c' : Nat) (hlo : D.o.length = n') (bno : n' ≤ 1000000) (B' : Option Addr) (m' d' : Nat) (hln : D.n.length = m') (bmo : m' ≤ 1000000) (bp : D.p.length ≤ 1000000) (bt : D.t.length ≤ 1000000) (bo : ∀ x ∈ D.o, x.length ≤ 1000000000000) (bnn : ∀ x ∈ D.n, x.length ≤ 1000000000000) (w : World) (hr : GrRd w A Xs) (rA : Rd w A' (D.o.map strV)) (rB : Rd w B' (D.n.map strV)) (he : opE D = 0) (hp : ¬ (D.k = 5 ∨ D.k = 6)) :
    Calls Tryz.prog 9 #[.agg (tbC root (.slice A n c)), .agg (idVals key), .agg (opC D A' n' c' B' m' d')] w fun e w' => e = .returned (.bool (mayG root Xs key D)) ∧ Below w.heap.size w w' := by
  have hkd := opE_kind he
  rw [may_own he hp]
  have hu := Tryz.underlying23
  have hzk : (Tryz.prog.info? 23).map (·.size) = some (key.map u8v).length := by rw [List.length_map, hk]; exact sizeId
  have hb1 := (Below.refl w.heap.size w).alloc (Nat.le_refl _) (.cells (tbC root (.slice A n c)) 31)
  have hb2 := hb1.alloc hb1.size (.cells (idVals key) 23)
  have hbo := hb2.alloc hb2.size (.cells (opC D A' n' c' B' m' d') 34)
  have e1 : (w.alloc (.cells (tbC root (.slice A n c)) 31)).heap.size = w.heap.size + 1 := World.size_alloc _ _
  have e2 : ((w.alloc (.cells (tbC root (.slice A n c)) 31)).alloc (.cells (idVals key) 23)).heap.size = w.heap.size + 1 + 1 := by rw [World.size_alloc, World.size_alloc]
  have b12 := (Below.refl (w.alloc (.cells (tbC root (.slice A n c)) 31)).heap.size (w.alloc (.cells (tbC root (.slice A n c)) 31))).alloc (Nat.le_refl _) (.cells (idVals key) 23)
  have b23 := (Below.refl ((w.alloc (.cells (tbC root (.slice A n c)) 31)).alloc (.cells (idVals key) 23)).heap.size ((w.alloc (.cells (tbC root (.slice A n c)) 31)).alloc (.cells (idVals key) 23))).alloc (Nat.le_refl _) (.cells (opC D A' n' c' B' m' d') 34)
  have hT0 : TbK (w.alloc (.cells (tbC root (.slice A n c)) 31)) w.heap.size root (.slice A n c) := ⟨Blk.new _ _ _⟩
  have hT := (hT0.below b12).below b23
  have hkk := (range_blk (Blk.new (w.alloc (.cells (tbC root (.slice A n c)) 31)) 23 (idVals key))).below b23
  have hox := OpX.new ((w.alloc (.cells (tbC root (.slice A n c)) 31)).alloc (.cells (idVals key) 23)) D A' n' c' B' m' d'
  rw [e1] at hkk
  rw [e2] at hox
  have cR : ∀ W, Below w.heap.size w W → Calls Tryz.prog 28 #[.agg (opC D A' n' c' B' m' d')] W fun o w' => o = .returned (.int .i64 (opE D)) ∧ Below W.heap.size W w' := fun W h => rr13_any D hK A' n' c' hlo bno B' m' d' hln bmo bp bt bo bnn W (rA.below h) (rB.below h)
  rw [he] at cR
  have z5 : ¬ (5 : Int) ≤ D.k := by omega
  have cQ : ∀ W, Below w.heap.size w W → Calls Tryz.prog 29 #[.agg (opC D A' n' c' B' m' d')] W fun o w' => ∃ A1 n1, o = .returned (.slice A1 n1 n1) ∧ (pthD D).length = n1 ∧ n1 ≤ 2 ∧ Rd w' A1 ((pthD D).map strV) ∧ Below W.heap.size W w' := fun W hW => rpaths_any D A' n' c' B' m' d' W hK
  have hbd : ∀ s ∈ pthD D, s.length ≤ 1000000 := fun s hs => by have := preR_len (pth_pre he hp s hs); omega
  have cD : ∀ W, Below w.heap.size w W → ∀ s ∈ pthD D, Calls Tryz.prog 16 #[.agg (tbC root (.slice A n c)), .agg (List.map u8v key).toArray, .string (txt s)] W fun e w' => e = .returned (.int .i64 (depV root Xs key s)) ∧ Below W.heap.size W w' := fun W hW s hs => rdepth19_any root hR A n c Xs hn (by omega) hP key hk s (hbd s hs) W (hr.below hW)
  have HPL := hid (pth_len D)
  generalize pthD D = Ps at *
  clear hr rA rB b12 b23 hb1 hb2 e1 e2 hT0 hp he hbd hkd
  go_enter Tryz.func9, Tryz.ntmps9
  go_upto_region 1 with (fail)
  generalize (((w.alloc (.cells (tbC root (.slice A n c)) 31)).alloc (.cells (idVals key) 23)).alloc (.cells (opC D A' n' c' B' m' d') 34)) = w3 at *
  go_wp2_with (first
    | (with_reducible refine wpList_load_opx (by with_unfolding_all rfl) _ rfl _ rfl hox hK ?_)
    | (go_at_call 28; (with_reducible refine (cR _ hbo).mono ?_); rintro e2 w4 ⟨rfl, hb3⟩; replace hT := hT.below hb3; replace hkk := hkk.below hb3; replace hox := hox.below hb3; replace hbo := hbo.trans (hb3.mono hbo.size); have c0 := hox.c0)
    | (go_at_call 29; (with_reducible refine (cQ _ hbo).mono ?_); rintro e6 w6 ⟨A1, n1, rfl, hl1, hn1, hr1, hb6⟩; replace hT := hT.below hb6; replace hkk := hkk.below hb6; replace hbo := hbo.trans (hb6.mono hbo.size); have HL1 := hid hl1; have HN1 := hid hn1; clear hl1 hn1 c0 hox))
  have bn9 : n1 ≤ 9223372036854775807 := by have := HN1.out; omega
  go_loopw [10] (fun i wr => ∃ k : Nat, k ≤ n1 ∧ i = .int .i64 k ∧ (∀ s ∈ Ps.take k, decide (depV root Xs key s < 0) = false) ∧ Below w6.heap.size w6 wr) (fun i _ => n1 - (intOf i).toNat)
  case atStart => exact ⟨0, by omega, rfl, by simp, Below.refl _ _⟩
  case round =>
    obtain ⟨k, hkn, rfl, hall, hb⟩ := hrel
    have hbr := hbo.trans (hb.mono hbo.size)
    by_cases hlt : k < n1
    · obtain ⟨ad, s, rfl, hX, hc0⟩ := (hr1.below hb).atm (k := k) (by have := HL1.out; omega)
      have hcell : wr.cell? (ad.add k) = some (.string (txt s)) := hc0
      clear hc0
      have b1 : (k : Int) < n1 := by omega
      obtain ⟨z, hz⟩ : ∃ z, depV root Xs key s = z := ⟨_, rfl⟩
      have HZ := hid hz
      have HX := hid hX
      have HALL := hid hall
      have HLT := hid (show k + 1 ≤ n1 from hlt)
      have f1 : ∀ w', (∃ p : LaterW wr, w' = p.w) → w'.rangeAt w.heap.size 0 (tbC root (.slice A n c)).toList := range_later (hT.below hb).all
      have fk := range_later (hkk.below hb)
      have f2 : ∀ P : LaterW wr, P.w.cell? (ad.add k) = some (.string (txt s)) := fun P => gr_cell P.h hcell
      have cP := fun P : LaterW wr => cD P.w (hbr.trans (P.h.mono hbr.size)) s (List.mem_of_getElem? hX)
      rw [hz] at cP
      clear hX hall hz hcell hlt
      by_cases hneg : z < 0
      · go_wp2_with (fail)
        refine wp_region_later mixed10 (by kernel_rfl) ?_
        repeat (first
          | ((with_reducible refine wpQuiet_load_tb (by with_unfolding_all rfl) _ rfl w.heap.size root hR (.slice A n c) rfl f1 ?_); simp only [Act.put, List.setIfInBounds_toArray, List.set_cons_zero, List.set_cons_succ])
          | ((with_reducible refine wpQuiet_load_if (by with_unfolding_all rfl) 23 _ rfl _ _ rfl (key.map u8v) _ fk hu (by with_unfolding_all rfl) hzk ?_); simp only [Act.put, List.setIfInBounds_toArray, List.set_cons_zero, List.set_cons_succ])
          | ((with_reducible refine wpQuiet_step (fun K hK => ?_)); go_simp; first | ((with_reducible refine hK _ ?_); clear hK K) | (with_reducible apply Exists.intro; (with_reducible refine ⟨fun P => ?_, hK _ ?_⟩); ((go_at_call 16; exact later_of (cP P))); clear hK K))
          | ((with_reducible refine BigFrame.wpQuiet_skip (by first | kernel_rfl | with_unfolding_all rfl) ?_); simp only [Act.put, List.setIfInBounds_toArray, List.set_cons_zero, List.set_cons_succ]))
        with_reducible refine wpQuiet_nil ?_
        intro _ hw9
        obtain ⟨P9, rfl⟩ := hw9
        have hb9 := hbr.trans (P9.h.mono hbr.size)
        generalize P9.w = w9 at *
        go_wp2_with (fail)
        go_ret
        exact ⟨by rw [(List.any_eq_true.2 ⟨s, List.mem_of_getElem? HX.out, by rw [HZ.out]; exact decide_eq_true hneg⟩ : Ps.any (fun s => decide (depV root Xs key s < 0)) = true)]; rfl, hb9⟩
      · go_wp2_with (fail)
        refine wp_region_later mixed10 (by kernel_rfl) ?_
        repeat (first
          | ((with_reducible refine wpQuiet_load_tb (by with_unfolding_all rfl) _ rfl w.heap.size root hR (.slice A n c) rfl f1 ?_); simp only [Act.put, List.setIfInBounds_toArray, List.set_cons_zero, List.set_cons_succ])
          | ((with_reducible refine wpQuiet_load_if (by with_unfolding_all rfl) 23 _ rfl _ _ rfl (key.map u8v) _ fk hu (by with_unfolding_all rfl) hzk ?_); simp only [Act.put, List.setIfInBounds_toArray, List.set_cons_zero, List.set_cons_succ])
          | ((with_reducible refine wpQuiet_step (fun K hK => ?_)); go_simp; first | ((with_reducible refine hK _ ?_); clear hK K) | (with_reducible apply Exists.intro; (with_reducible refine ⟨fun P => ?_, hK _ ?_⟩); ((go_at_call 16; exact later_of (cP P))); clear hK K))
          | ((with_reducible refine BigFrame.wpQuiet_skip (by first | kernel_rfl | with_unfolding_all rfl) ?_); simp only [Act.put, List.setIfInBounds_toArray, List.set_cons_zero, List.set_cons_succ]))
        with_reducible refine wpQuiet_nil ?_
        intro _ hw9
        obtain ⟨P9, rfl⟩ := hw9
        have hb9 := hb.trans (P9.h.mono hb.size)
        generalize P9.w = w9 at *
        go_wp2_with (fail)
        go_roundw
        case rel => exact ⟨k + 1, HLT.out, by go_num, fun Y hY => by
          rw [List.take_add_one, HX.out] at hY
          rcases List.mem_append.1 hY with hY | hY
          · exact HALL.out Y hY
          · rw [List.mem_singleton.1 hY, HZ.out]; exact decide_eq_false (by omega), hb9⟩
        case measure => exact meas_k1 HLT.out
    · obtain rfl : k = n1 := by omega
      have c1 : ¬ (k : Int) < k := by omega
      go_wp2_with (fail)
      go_ret
      refine ⟨?_, hbr⟩
      rw [List.take_of_length_le (by rw [HL1.out]; exact Nat.le_refl _)] at hall
      have : Ps.any (fun s => decide (depV root Xs key s < 0)) = false := by
        rw [List.any_eq_false]
        exact fun X hX => by rw [hall X hX]; simp
      rw [this]
      rfl
theorem rmay_any (root : List UInt8) (hR : root.length = 32) (A : Option Addr) (n c : Nat) (Xs : List GrD) (hn : Xs.length = n) (bn : n ≤ 900) (hP : ∀ X ∈ Xs, X.p.length ≤ 1000000) (hO : SortG Xs) (key : List UInt8) (hk : key.length = 32) (D : OpD) (hK : D.K.length = 32) (A' : Option Addr) (n' c' : Nat) (hlo : D.o.length = n') (bno : n' ≤ 1000000) (B' : Option Addr) (m' d' : Nat) (hln : D.n.length = m') (bmo : m' ≤ 1000000) (bp : D.p.length ≤ 1000000) (bt : D.t.length ≤ 1000000) (bo : ∀ x ∈ D.o, x.length ≤ 1000000000000) (bnn : ∀ x ∈ D.n, x.length ≤ 1000000000000) (w : World) (hr : GrRd w A Xs) (rA : Rd w A' (D.o.map strV)) (rB : Rd w B' (D.n.map strV)) :
    Calls Tryz.prog 9 #[.agg (tbC root (.slice A n c)), .agg (idVals key), .agg (opC D A' n' c' B' m' d')] w fun e w' => e = .returned (.bool (mayG root Xs key D)) ∧ Below w.heap.size w w' := by
  by_cases he : opE D = 0
  · by_cases hp : D.k = 5 ∨ D.k = 6
    · exact rmay_pol root hR A n c Xs hn bn hP hO key hk D hK A' n' c' hlo bno B' m' d' hln bmo bp bt bo bnn w hr rA rB he hp
    · exact rmay_own root hR A n c Xs hn bn hP hO key hk D hK A' n' c' hlo bno B' m' d' hln bmo bp bt bo bnn w hr rA rB he hp
  · exact rmay_bad root hR A n c Xs hn bn hP hO key hk D hK A' n' c' hlo bno B' m' d' hln bmo bp bt bo bnn w hr rA rB he

end Go.Proofs.YtapgiagpjplpdaaGreat

/- witness: Alike, of the program and of the document. -/
import Derived.Test.YticpdepbgcagaaaGreatWi0
import Derived.ChangeShapes
import Derived.Deep.DeepCutAuto
set_option linter.unusedSimpArgs false
set_option linter.unusedVariables false
namespace Go.Proofs.YticpdepbgcagaaaGreat
open Go.RowKit Go.Qc Go.Shelf
attribute [local go_sem] txt_size txt_append ib_fold
theorem mixedW : Tryz.prog.follows .mixedOrders = true := by kernel_rfl
/-- How many bits are looked at; are they the same? -/
def alkN (b : Int) : Nat := (min b 256).toNat
def alkB (b : Int) (x y : List UInt8) : Bool := (List.range (alkN b)).all fun i => bitZ x i == bitZ y i
theorem alkB_yes {b : Int} {x y : List UInt8} (h : ∀ i, i < alkN b → bitZ x i = bitZ y i) : alkB b x y = true := by
  unfold alkB
  rw [List.all_eq_true]
  intro i hi
  rw [h i (List.mem_range.1 hi)]
  exact beq_self_eq_true _
theorem alkB_no {b : Int} {x y : List UInt8} {i : Nat} (hi : i < alkN b) (h : ¬ bitZ x i = bitZ y i) : alkB b x y = false := by
  unfold alkB
  rw [List.all_eq_false]
  exact ⟨i, List.mem_range.2 hi, by simpa using h⟩
theorem alkN_lt {b : Int} {k : Nat} (h : k < alkN b) : (k : Int) < b ∧ (k : Int) < 256 := by unfold alkN at h; omega
theorem alkN_ge {b : Int} {k : Nat} (h : ¬ k < alkN b) : ¬ ((k : Int) < b ∧ (k : Int) < 256) := by unfold alkN at h; omega

theorem meas_wi {k n : Nat} (h : k + 1 ≤ n) : n - (intOf (Value.int .i64 ((k : Int) + 1))).toNat < n - (intOf (Value.int .i64 (k : Int))).toNat := by
  simp only [intOf]
  omega

set_option maxRecDepth 100000 in
set_option maxHeartbeats 20000000 in
theorem walk_any (b : Int) (x y : List UInt8) (hx : x.length = 32) (hy : y.length = 32) (w : World) :
    Calls Tryz.prog 22 #[.int .i64 b, .agg (idVals x), .agg (idVals y)] w fun e w' => e = .returned (.bool (alkB b x y)) ∧ Below w.heap.size w w' := by
  have hba := (Below.refl w.heap.size w).alloc (Nat.le_refl _) (.cells (idVals x) 24)
  have hbc := hba.alloc hba.size (.cells (idVals y) 24)
  have hbk := (Below.refl (w.alloc (.cells (idVals x) 24)).heap.size (w.alloc (.cells (idVals x) 24))).alloc (Nat.le_refl _) (.cells (idVals y) 24)
  have fx0 := (range_blk (Blk.new w 24 (idVals x))).below hbk
  have fy0 := range_blk (Blk.new (w.alloc (.cells (idVals x) 24)) 24 (idVals y))
  rw [World.size_alloc] at fy0
  have hu := Tryz.underlying24
  have hzx : (Tryz.prog.info? 24).map (·.size) = some (x.map u8v).length := by rw [List.length_map, hx]; exact sizeId
  have hzy : (Tryz.prog.info? 24).map (·.size) = some (y.map u8v).length := by rw [List.length_map, hy]; exact sizeId
  have HB := hid hbc
  clear hba hbc hbk
  obtain ⟨m, hm⟩ : ∃ m : Int, min b 256 = m := ⟨_, rfl⟩
  have HM := hid (show ∀ k : Nat, k < alkN b ↔ (k : Int) < m by intro k; unfold alkN; omega)
  go_enter Tryz.func22, Tryz.ntmps22
  go_wp2_with (fail)
  generalize (w.alloc (.cells (idVals x) 24)).alloc (.cells (idVals y) 24) = w1 at *
  go_loopw [10] (fun i wr => ∃ k : Nat, k ≤ alkN b ∧ i = .int .i64 k ∧ Hid (∀ j, j < k → bitZ x j = bitZ y j) ∧ Below w1.heap.size w1 wr) (fun i _ => alkN b - (intOf i).toNat)
  case atStart => exact ⟨0, Nat.zero_le _, rfl, hid (fun j hj => by omega), Below.refl _ _⟩
  case round =>
    obtain ⟨k, hkn, rfl, HA, hb⟩ := hrel
    by_cases hlt : k < alkN b
    · have hd := alkN_lt hlt
      have HLT := hid (show k + 1 ≤ alkN b from hlt)
      have k256 : k < 256 := by omega
      have b1 : (k : Int) < m := (HM.out k).1 hlt
      obtain ⟨u, hu1⟩ : ∃ u : Int, ((bitZ x k : Nat) : Int) = u := ⟨_, rfl⟩
      obtain ⟨v, hv1⟩ : ∃ v : Int, ((bitZ y k : Nat) : Int) = v := ⟨_, rfl⟩
      have cX : ∀ W : World, Calls Tryz.prog 33 #[.agg (List.map u8v x).toArray, .int .i64 k] W fun e w' => e = .returned (.int .i64 u) ∧ Below W.heap.size W w' := fun W => by
        have h := ibit_any x hx k k256 W
        rw [hu1] at h
        exact h
      have cY : ∀ W : World, Calls Tryz.prog 33 #[.agg (List.map u8v y).toArray, .int .i64 k] W fun e w' => e = .returned (.int .i64 v) ∧ Below W.heap.size W w' := fun W => by
        have h := ibit_any y hy k k256 W
        rw [hv1] at h
        exact h
      have HUV := hid (show u = v ↔ bitZ x k = bitZ y k by omega)
      have hkN := hlt
      have fx := range_later (fx0.below hb)
      have fy := range_later (fy0.below hb)
      clear hu1 hv1 hd hlt k256 hkn
      go_upto_region 4 with (fail)
      refine wp_region_later mixedW (by kernel_rfl) ?_
      repeat (first
        | ((with_reducible refine wpQuiet_load_if (by with_unfolding_all rfl) 24 _ rfl _ _ rfl (x.map u8v) _ fx hu (by with_unfolding_all rfl) hzx ?_); simp only [Act.put, List.setIfInBounds_toArray, List.set_cons_zero, List.set_cons_succ])
        | ((with_reducible refine wpQuiet_load_if (by with_unfolding_all rfl) 24 _ rfl _ _ rfl (y.map u8v) _ fy hu (by with_unfolding_all rfl) hzy ?_); simp only [Act.put, List.setIfInBounds_toArray, List.set_cons_zero, List.set_cons_succ])
        | ((with_reducible refine wpQuiet_step (fun K hK => ?_)); go_simp; first | ((with_reducible refine hK _ ?_); clear hK K) | (with_reducible apply Exists.intro; (with_reducible refine ⟨fun P => ?_, hK _ ?_⟩); (first | (go_at_call 33; exact later_of (cX P.w)) | (go_at_call 33; exact later_of (cY P.w))); clear hK K))
        | ((with_reducible refine BigFrame.wpQuiet_skip (by first | kernel_rfl | with_unfolding_all rfl) ?_); simp only [Act.put, List.setIfInBounds_toArray, List.set_cons_zero, List.set_cons_succ]))
      with_reducible refine wpQuiet_nil ?_
      intro _ hw9
      obtain ⟨P9, rfl⟩ := hw9
      have hb9 := hb.trans (P9.h.mono hb.size)
      by_cases huv : u = v
      · subst huv
        go_wp2_with (fail)
        go_roundw
        case rel => exact ⟨k + 1, HLT.out, by go_num, hid (fun j hj => by
          by_cases hjk : j = k
          · rw [hjk]; exact HUV.out.1 rfl
          · exact HA.out j (by omega)), hb9⟩
        case measure => exact meas_wi HLT.out
      · have huv2 : (u == v) = false := by simpa using huv
        have HF := hid (alkB_no hkN (fun e => huv (HUV.out.2 e)))
        clear hkN
        go_wp2_with (fail)
        go_ret
        exact ⟨by rw [HF.out]; rfl, HB.out.trans (hb9.mono HB.out.size)⟩
    · have HE := hid (alkB_yes (fun i hi => HA.out i (by omega)) : alkB b x y = true)
      have c1 : ¬ (k : Int) < m := fun h => hlt ((HM.out k).2 h)
      go_wp2_with (fail)
      go_ret
      exact ⟨by rw [HE.out]; rfl, HB.out.trans (hb.mono HB.out.size)⟩

set_option maxRecDepth 100000 in
set_option maxHeartbeats 20000000 in
theorem wralk_any (b : Int) (x y : List UInt8) (hx : x.length = 32) (hy : y.length = 32) (w : World) :
    Calls Tryz.prog 23 #[.int .i64 b, .agg (idVals x), .agg (idVals y)] w fun e w' => e = .returned (.bool (alkB b x y)) ∧ Below w.heap.size w w' := by
  have hba := (Below.refl w.heap.size w).alloc (Nat.le_refl _) (.cells (idVals x) 24)
  have hbc := hba.alloc hba.size (.cells (idVals y) 24)
  have hbk := (Below.refl (w.alloc (.cells (idVals x) 24)).heap.size (w.alloc (.cells (idVals x) 24))).alloc (Nat.le_refl _) (.cells (idVals y) 24)
  have fx0 := (range_blk (Blk.new w 24 (idVals x))).below hbk
  have fy0 := range_blk (Blk.new (w.alloc (.cells (idVals x) 24)) 24 (idVals y))
  rw [World.size_alloc] at fy0
  have hu := Tryz.underlying24
  have hzx : (Tryz.prog.info? 24).map (·.size) = some (x.map u8v).length := by rw [List.length_map, hx]; exact sizeId
  have hzy : (Tryz.prog.info? 24).map (·.size) = some (y.map u8v).length := by rw [List.length_map, hy]; exact sizeId
  have HB := hid hbc
  clear hba hbc hbk
  go_enter Tryz.func23, Tryz.ntmps23
  go_wp2_with (fail)
  generalize (w.alloc (.cells (idVals x) 24)).alloc (.cells (idVals y) 24) = w1 at *
  go_loopw [7] (fun i wr => ∃ k : Nat, k ≤ alkN b ∧ i = .int .i64 k ∧ Hid (∀ j, j < k → bitZ x j = bitZ y j) ∧ Below w1.heap.size w1 wr) (fun i _ => alkN b - (intOf i).toNat)
  case atStart => exact ⟨0, Nat.zero_le _, rfl, hid (fun j hj => by omega), Below.refl _ _⟩
  case round =>
    obtain ⟨k, hkn, rfl, HA, hb⟩ := hrel
    by_cases hlt : k < alkN b
    · have hd := alkN_lt hlt
      have HLT := hid (show k + 1 ≤ alkN b from hlt)
      have k256 : k < 256 := by omega
      have b1 : (k : Int) < b := hd.1
      have b2 : (k : Int) < 256 := hd.2
      obtain ⟨u, hu1⟩ : ∃ u : Int, ((bitZ x k : Nat) : Int) = u := ⟨_, rfl⟩
      obtain ⟨v, hv1⟩ : ∃ v : Int, ((bitZ y k : Nat) : Int) = v := ⟨_, rfl⟩
      have cX : ∀ W : World, Calls Tryz.prog 19 #[.agg (List.map u8v x).toArray, .int .i64 k] W fun e w' => e = .returned (.int .i64 u) ∧ Below W.heap.size W w' := fun W => by
        have h := rbit6_any x hx k k256 W
        rw [hu1] at h
        exact h
      have cY : ∀ W : World, Calls Tryz.prog 19 #[.agg (List.map u8v y).toArray, .int .i64 k] W fun e w' => e = .returned (.int .i64 v) ∧ Below W.heap.size W w' := fun W => by
        have h := rbit6_any y hy k k256 W
        rw [hv1] at h
        exact h
      have HUV := hid (show u = v ↔ bitZ x k = bitZ y k by omega)
      have hkN := hlt
      have fx := range_later (fx0.below hb)
      have fy := range_later (fy0.below hb)
      clear hu1 hv1 hd hlt k256 hkn
      go_upto_region 4 with (fail)
      refine wp_region_later mixedW (by kernel_rfl) ?_
      repeat (first
        | ((with_reducible refine wpQuiet_load_if (by with_unfolding_all rfl) 24 _ rfl _ _ rfl (x.map u8v) _ fx hu (by with_unfolding_all rfl) hzx ?_); simp only [Act.put, List.setIfInBounds_toArray, List.set_cons_zero, List.set_cons_succ])
        | ((with_reducible refine wpQuiet_load_if (by with_unfolding_all rfl) 24 _ rfl _ _ rfl (y.map u8v) _ fy hu (by with_unfolding_all rfl) hzy ?_); simp only [Act.put, List.setIfInBounds_toArray, List.set_cons_zero, List.set_cons_succ])
        | ((with_reducible refine wpQuiet_step (fun K hK => ?_)); go_simp; first | ((with_reducible refine hK _ ?_); clear hK K) | (with_reducible apply Exists.intro; (with_reducible refine ⟨fun P => ?_, hK _ ?_⟩); (first | (go_at_call 19; exact later_of (cX P.w)) | (go_at_call 19; exact later_of (cY P.w))); clear hK K))
        | ((with_reducible refine BigFrame.wpQuiet_skip (by first | kernel_rfl | with_unfolding_all rfl) ?_); simp only [Act.put, List.setIfInBounds_toArray, List.set_cons_zero, List.set_cons_succ]))
      with_reducible refine wpQuiet_nil ?_
      intro _ hw9
      obtain ⟨P9, rfl⟩ := hw9
      have hb9 := hb.trans (P9.h.mono hb.size)
      by_cases huv : u = v
      · subst huv
        go_wp2_with (fail)
        go_roundw
        case rel => exact ⟨k + 1, HLT.out, by go_num, hid (fun j hj => by
          by_cases hjk : j = k
          · rw [hjk]; exact HUV.out.1 rfl
          · exact HA.out j (by omega)), hb9⟩
        case measure => exact meas_wi HLT.out
      · have huv2 : (u == v) = false := by simpa using huv
        have HF := hid (alkB_no hkN (fun e => huv (HUV.out.2 e)))
        clear hkN
        go_wp2_with (fail)
        go_ret
        exact ⟨by rw [HF.out]; rfl, HB.out.trans (hb9.mono HB.out.size)⟩
    · have HE := hid (alkB_yes (fun i hi => HA.out i (by omega)) : alkB b x y = true)
      have hng := alkN_ge hlt
      by_cases hkb : (k : Int) < b
      · have c1 : ¬ (k : Int) < 256 := fun h => hng ⟨hkb, h⟩
        clear hng
        go_wp2_with (fail)
        go_ret
        exact ⟨by rw [HE.out]; rfl, HB.out.trans (hb.mono HB.out.size)⟩
      · clear hng
        go_wp2_with (fail)
        go_ret
        exact ⟨by rw [HE.out]; rfl, HB.out.trans (hb.mono HB.out.size)⟩

end Go.Proofs.YticpdepbgcagaaaGreat
/- witness: slices.IndexFunc and ContainsFunc over rows; honest, showed. -/
set_option linter.unusedSimpArgs false
set_option linter.unusedVariables false
namespace Go.Proofs.YticpdepbgcagaaaGreat
open Go.RowKit Go.Qc Go.Shelf
attribute [local go_sem] txt_size txt_append ib_fold
theorem wi_cell {w W : World} (hb : Below w.heap.size w W) {p : Addr} {u : Value} (h : w.cell? p = some u) : W.cell? p = some u := (hb.cell (World.block_lt_of_cell? w p h)).trans h

set_option maxRecDepth 100000 in
set_option maxHeartbeats 20000000 in
theorem windex_any (fn : FuncId) (hfn : ∀ args W, (callFunc fn args).run Tryz.prog W = .ok (.enter fn args) W) (cap : Array Value) (goes : WiD → Bool) (base : Nat) (w0 : World) (A : Option Addr) (n c : Nat) (Xs : List WiD) (w : World) (hn : Xs.length = n) (bn : n ≤ 1000) (hr : WiRd w A Xs) (h0 : Below base w0 w) (hbs : base ≤ w.heap.size)
    (cF : ∀ X ∈ Xs, ∀ W, Below base w0 W → Calls Tryz.prog fn (#[.agg X.cs] ++ cap) W fun e w' => e = .returned (.bool (goes X)) ∧ Below W.heap.size W w') :
    Calls Tryz.prog 97 #[.slice A n c, .func (.func fn) #[] cap] w fun e w' => ∃ i : Int, e = .returned (.int .i64 i) ∧ decide (0 ≤ i) = Xs.any goes ∧ Below w.heap.size w w' := by
  have HN := hid hn
  have bn9 : n ≤ 9223372036854775807 := by omega
  clear hn
  go_enter Tryz.func97, Tryz.ntmps97
  go_wp2
  go_loopw [8] (fun i wr => ∃ k : Nat, k ≤ n ∧ i = .int .i64 k ∧ (∀ X ∈ Xs.take k, goes X = false) ∧ Below w.heap.size w wr) (fun i _ => n - (intOf i).toNat)
  case atStart => exact ⟨0, by omega, rfl, by simp, Below.refl _ _⟩
  case round =>
    obtain ⟨k, hkn, rfl, hall, hb⟩ := hrel
    by_cases hlt : k < n
    · obtain ⟨X, hX⟩ : ∃ X, Xs[k]? = some X := ⟨_, List.getElem?_eq_getElem (by have := HN.out; omega)⟩
      obtain ⟨g, q, hg, hXo, hix⟩ := hr.pick c HN.out hX
      have b1 : (k : Int) < n := by omega
      have fX := hg.below hb
      have cX := cF X (List.mem_of_getElem? hX) wr (h0.trans (hb.mono hbs))
      obtain ⟨t, ht⟩ : ∃ t, goes X = t := ⟨_, rfl⟩
      rw [ht] at cX
      have HT := hid ht
      have HX := hid hX
      have HALL := hid hall
      clear ht hX hall hg
      have HLT := hid (show k + 1 ≤ n from hlt)
      cases t with
      | true =>
        go_wp2_with (first
          | (with_reducible refine wpList_load_wir (by with_unfolding_all rfl) _ rfl _ _ rfl fX hXo ?_)
          | ((with_reducible refine cX.mono ?_); rintro e3 w3 ⟨rfl, hb3⟩))
        go_ret
        exact ⟨_, rfl, by rw [decide_eq_true (Int.natCast_nonneg k)]; exact (List.any_eq_true.2 ⟨X, List.mem_of_getElem? HX.out, HT.out⟩).symm, hb.trans (hb3.mono hb.size)⟩
      | false =>
        go_wp2_with (first
          | (with_reducible refine wpList_load_wir (by with_unfolding_all rfl) _ rfl _ _ rfl fX hXo ?_)
          | ((with_reducible refine cX.mono ?_); rintro e3 w3 ⟨rfl, hb3⟩))
        go_roundw
        case rel => exact ⟨k + 1, HLT.out, by go_num, fun Y hY => by
          rw [List.take_add_one, HX.out] at hY
          rcases List.mem_append.1 hY with hY | hY
          · exact HALL.out Y hY
          · rw [List.mem_singleton.1 hY]; exact HT.out, hb.trans (hb3.mono hb.size)⟩
        case measure => exact meas_wi HLT.out
    · obtain rfl : k = n := by omega
      have c1 : ¬ (k : Int) < k := by omega
      go_wp2
      go_ret
      refine ⟨_, rfl, ?_, hb⟩
      rw [List.take_of_length_le (by rw [HN.out]; exact Nat.le_refl _)] at hall
      have : Xs.any goes = false := by
        rw [List.any_eq_false]
        exact fun X hX => by rw [hall X hX]; simp
      rw [this]
      decide

set_option maxRecDepth 100000 in
set_option maxHeartbeats 20000000 in
theorem wcontains_any (fn : FuncId) (hfn : ∀ args W, (callFunc fn args).run Tryz.prog W = .ok (.enter fn args) W) (cap : Array Value) (goes : WiD → Bool) (base : Nat) (w0 : World) (A : Option Addr) (n c : Nat) (Xs : List WiD) (w : World) (hn : Xs.length = n) (bn : n ≤ 1000) (hr : WiRd w A Xs) (h0 : Below base w0 w) (hbs : base ≤ w.heap.size)
    (cF : ∀ X ∈ Xs, ∀ W, Below base w0 W → Calls Tryz.prog fn (#[.agg X.cs] ++ cap) W fun e w' => e = .returned (.bool (goes X)) ∧ Below W.heap.size W w') :
    Calls Tryz.prog 67 #[.slice A n c, .func (.func fn) #[] cap] w fun e w' => e = .returned (.bool (Xs.any goes)) ∧ Below w.heap.size w w' := by
  have cI := windex_any fn hfn cap goes base w0 A n c Xs w hn bn hr h0 hbs cF
  clear hn cF hr
  go_enter Tryz.func67, Tryz.ntmps67
  go_wp2_with ((with_reducible refine cI.mono ?_); rintro e1 w1 ⟨i, rfl, hi, hb1⟩)
  go_ret
  rw [← hi]
  exact ⟨rfl, hb1⟩

theorem hfnH : ∀ args W, (callFunc 68 args).run Tryz.prog W = .ok (.enter 68 args) W := fun args W => by
  have h1 : decide (Tryz.f68.name = "runtime.NumGoroutine") = false := by kernel_rfl
  have h2 : Tryz.f68.body.isNone = false := by kernel_rfl
  have h1' : ¬ Tryz.f68.name = "runtime.NumGoroutine" := of_decide_eq_false h1
  have h2' : ¬ Tryz.f68.body = none := fun e => by rw [e] at h2; cases h2
  simp [callFunc, Tryz.func68, h1', h2']

theorem hfnS : ∀ args W, (callFunc 69 args).run Tryz.prog W = .ok (.enter 69 args) W := fun args W => by
  have h1 : decide (Tryz.f69.name = "runtime.NumGoroutine") = false := by kernel_rfl
  have h2 : Tryz.f69.body.isNone = false := by kernel_rfl
  have h1' : ¬ Tryz.f69.name = "runtime.NumGoroutine" := of_decide_eq_false h1
  have h2' : ¬ Tryz.f69.body = none := fun e => by rw [e] at h2; cases h2
  simp [callFunc, Tryz.func69, h1', h2']

/-- Did a leaf sign such a sum; has it shown a side of a bit? -/
def honG (b : Int) (s : List UInt8) (L : Int) (X : WiD) : Bool := decide (X.l = L) && alkB b X.a s
def honB (b : Int) (Xs : List WiD) (s : List UInt8) (L : Int) : Bool := Xs.any (honG b s L)
def shwG (L : Int) (bt : Nat) (sd : Int) (X : WiD) : Bool := decide (X.l = L) && decide (((bitZ X.a bt : Nat) : Int) = sd)
def shwB (Xs : List WiD) (L : Int) (bt : Nat) (sd : Int) : Bool := Xs.any (shwG L bt sd)

set_option maxRecDepth 100000 in
set_option maxHeartbeats 20000000 in
theorem wh1_any (b h : Int) (s : List UInt8) (hs : s.length = 32) (L : Int) (X : WiD) (hX : X.ok) (p1 p2 p3 : Nat) (w : World) (h1 : w.cell? ⟨p1, 0, none⟩ = some (.int .i64 L)) (h2 : w.cell? ⟨p2, 0, none⟩ = some (.int .i64 b)) (h3 : w.rangeAt p3 0 (s.map u8v)) :
    Calls Tryz.prog 68 #[.agg X.cs, .pointer (some ⟨p1, 0, none⟩), .pointer (some ⟨p2, 0, none⟩), .pointer (some ⟨p3, 0, none⟩)] w fun e w' => e = .returned (.bool (honG b s L X)) ∧ Below w.heap.size w w' := by
  have hX0 := WiX.new w X
  have hba := (Below.refl w.heap.size w).alloc (Nat.le_refl _) (.cells X.cs 67)
  have hu := Tryz.underlying24
  have hzX : (Tryz.prog.info? 24).map (·.size) = some (X.a.map u8v).length := by rw [List.length_map, (show X.a.length = 32 from hX)]; exact sizeId
  have fX := hX0.key
  have c0 := hX0.c0
  have hzs : (Tryz.prog.info? 24).map (·.size) = some (s.map u8v).length := by rw [List.length_map, hs]; exact sizeId
  have f1 := wi_cell hba h1
  have f2 := wi_cell hba h2
  have f3 := h3.below hba
  obtain ⟨cv, hcv⟩ : ∃ cv, alkB b X.a s = cv := ⟨_, rfl⟩
  have cA : ∀ W, Calls Tryz.prog 22 #[.int .i64 b, .agg (List.map u8v X.a).toArray, .agg (List.map u8v s).toArray] W fun e w' => e = .returned (.bool cv) ∧ Below W.heap.size W w' := fun W => by
    have h := walk_any b X.a s hX hs W
    rw [hcv] at h
    exact h
  unfold honG
  rw [hcv]
  clear hcv h1 h2 h3 hX0
  go_enter Tryz.func68, Tryz.ntmps68
  by_cases he : X.l = L
  · rw [decide_eq_true he]
    have e1 : (X.l == L) = true := by simpa using he
    clear he
    go_wp2_with (first
      | (with_reducible refine wpList_load_if (by with_unfolding_all rfl) 24 _ rfl _ _ rfl (X.a.map u8v) _ fX hu rfl hzX ?_)
      | (with_reducible refine wpList_load_if (by with_unfolding_all rfl) 24 _ rfl _ _ rfl (s.map u8v) _ f3 hu rfl hzs ?_)
      | (go_at_call 22; (with_reducible refine (cA _).mono ?_); rintro e3 w3 ⟨rfl, hb3⟩))
    go_ret
    exact ⟨rfl, hba.trans (hb3.mono hba.size)⟩
  · rw [decide_eq_false he]
    have e1 : (X.l == L) = false := by simpa using he
    go_wp2_with (fail)
    go_ret
    exact ⟨rfl, hba⟩

set_option maxRecDepth 100000 in
set_option maxHeartbeats 20000000 in
theorem ws1_any (L : Int) (bt : Nat) (hb : bt < 256) (sd : Int) (X : WiD) (hX : X.ok) (p1 p2 p3 : Nat) (w : World) (h1 : w.cell? ⟨p1, 0, none⟩ = some (.int .i64 L)) (h2 : w.cell? ⟨p2, 0, none⟩ = some (.int .i64 bt)) (h3 : w.cell? ⟨p3, 0, none⟩ = some (.int .i64 sd)) :
    Calls Tryz.prog 69 #[.agg X.cs, .pointer (some ⟨p1, 0, none⟩), .pointer (some ⟨p2, 0, none⟩), .pointer (some ⟨p3, 0, none⟩)] w fun e w' => e = .returned (.bool (shwG L bt sd X)) ∧ Below w.heap.size w w' := by
  have hX0 := WiX.new w X
  have hba := (Below.refl w.heap.size w).alloc (Nat.le_refl _) (.cells X.cs 67)
  have hu := Tryz.underlying24
  have hzX : (Tryz.prog.info? 24).map (·.size) = some (X.a.map u8v).length := by rw [List.length_map, (show X.a.length = 32 from hX)]; exact sizeId
  have fX := hX0.key
  have c0 := hX0.c0
  obtain ⟨u, hu1⟩ : ∃ u : Int, ((bitZ X.a bt : Nat) : Int) = u := ⟨_, rfl⟩
  have cB : ∀ W : World, Calls Tryz.prog 33 #[.agg (List.map u8v X.a).toArray, .int .i64 bt] W fun e w' => e = .returned (.int .i64 u) ∧ Below W.heap.size W w' := fun W => by
    have h := ibit_any X.a hX bt hb W
    rw [hu1] at h
    exact h
  unfold shwG
  rw [hu1]
  obtain ⟨t1, ht1⟩ : ∃ t1, decide (X.l = L) = t1 := ⟨_, rfl⟩
  obtain ⟨t2, ht2⟩ : ∃ t2, decide (u = sd) = t2 := ⟨_, rfl⟩
  rw [ht1, ht2]
  have k0 : ∀ p : LaterW (w.alloc (.cells X.cs 67)), p.w.cell? ⟨w.heap.size, 0, none⟩ = some (.int .i64 X.l) := fun p => wi_cell p.h c0
  have k1 : ∀ p : LaterW (w.alloc (.cells X.cs 67)), p.w.cell? ⟨p1, 0, none⟩ = some (.int .i64 L) := fun p => wi_cell p.h (wi_cell hba h1)
  have k2 : ∀ p : LaterW (w.alloc (.cells X.cs 67)), p.w.cell? ⟨p2, 0, none⟩ = some (.int .i64 bt) := fun p => wi_cell p.h (wi_cell hba h2)
  have k3 : ∀ p : LaterW (w.alloc (.cells X.cs 67)), p.w.cell? ⟨p3, 0, none⟩ = some (.int .i64 sd) := fun p => wi_cell p.h (wi_cell hba h3)
  have fq := range_later fX
  have e1 : (X.l == L) = t1 := by rw [← ht1]; rfl
  have e2 : (u == sd) = t2 := by rw [← ht2]; rfl
  clear hu1 h1 h2 h3 hX0 c0 fX ht1 ht2
  go_enter Tryz.func69, Tryz.ntmps69
  go_upto_region 1 with (fail)
  generalize w.alloc (.cells X.cs 67) = w1 at *
  cases t1 with
  | true =>
    cases t2 with
    | true =>
      refine wp_region_later mixedW (by kernel_rfl) ?_
      repeat (first
        | ((with_reducible refine wpQuiet_load_if (by with_unfolding_all rfl) 24 _ rfl _ _ rfl (X.a.map u8v) _ fq hu (by with_unfolding_all rfl) hzX ?_); simp only [Act.put, List.setIfInBounds_toArray, List.set_cons_zero, List.set_cons_succ])
        | ((with_reducible refine wpQuiet_step (fun K hK => ?_)); go_simp; first | ((with_reducible refine hK _ ?_); clear hK K) | (with_reducible apply Exists.intro; (with_reducible refine ⟨fun P => ?_, hK _ ?_⟩); ((go_at_call 33; exact later_of (cB P.w))); clear hK K))
        | ((with_reducible refine BigFrame.wpQuiet_skip (by first | kernel_rfl | with_unfolding_all rfl) ?_); simp only [Act.put, List.setIfInBounds_toArray, List.set_cons_zero, List.set_cons_succ]))
      with_reducible refine wpQuiet_nil ?_
      intro _ hw9
      obtain ⟨P9, rfl⟩ := hw9
      go_wp2_with (fail)
      go_ret
      exact ⟨rfl, hba.trans (P9.h.mono hba.size)⟩
    | false =>
      refine wp_region_later mixedW (by kernel_rfl) ?_
      repeat (first
        | ((with_reducible refine wpQuiet_load_if (by with_unfolding_all rfl) 24 _ rfl _ _ rfl (X.a.map u8v) _ fq hu (by with_unfolding_all rfl) hzX ?_); simp only [Act.put, List.setIfInBounds_toArray, List.set_cons_zero, List.set_cons_succ])
        | ((with_reducible refine wpQuiet_step (fun K hK => ?_)); go_simp; first | ((with_reducible refine hK _ ?_); clear hK K) | (with_reducible apply Exists.intro; (with_reducible refine ⟨fun P => ?_, hK _ ?_⟩); ((go_at_call 33; exact later_of (cB P.w))); clear hK K))
        | ((with_reducible refine BigFrame.wpQuiet_skip (by first | kernel_rfl | with_unfolding_all rfl) ?_); simp only [Act.put, List.setIfInBounds_toArray, List.set_cons_zero, List.set_cons_succ]))
      with_reducible refine wpQuiet_nil ?_
      intro _ hw9
      obtain ⟨P9, rfl⟩ := hw9
      go_wp2_with (fail)
      go_ret
      exact ⟨rfl, hba.trans (P9.h.mono hba.size)⟩
  | false =>
    refine wp_region_later mixedW (by kernel_rfl) ?_
    repeat (first
      | ((with_reducible refine wpQuiet_load_if (by with_unfolding_all rfl) 24 _ rfl _ _ rfl (X.a.map u8v) _ fq hu (by with_unfolding_all rfl) hzX ?_); simp only [Act.put, List.setIfInBounds_toArray, List.set_cons_zero, List.set_cons_succ])
      | ((with_reducible refine wpQuiet_step (fun K hK => ?_)); go_simp; first | ((with_reducible refine hK _ ?_); clear hK K) | (with_reducible apply Exists.intro; (with_reducible refine ⟨fun P => ?_, hK _ ?_⟩); ((go_at_call 33; exact later_of (cB P.w))); clear hK K))
      | ((with_reducible refine BigFrame.wpQuiet_skip (by first | kernel_rfl | with_unfolding_all rfl) ?_); simp only [Act.put, List.setIfInBounds_toArray, List.set_cons_zero, List.set_cons_succ]))
    with_reducible refine wpQuiet_nil ?_
    intro _ hw9
    obtain ⟨P9, rfl⟩ := hw9
    go_wp2_with (fail)
    go_ret
    exact ⟨rfl, hba.trans (P9.h.mono hba.size)⟩

set_option maxRecDepth 100000 in
set_option maxHeartbeats 20000000 in
theorem whonest_any (b h : Int) (s : List UInt8) (hs : s.length = 32) (L : Int) (A : Option Addr) (n c : Nat) (Xs : List WiD) (hn : Xs.length = n) (bn : n ≤ 1000) (w : World) (hr : WiRd w A Xs) :
    Calls Tryz.prog 32 #[.agg #[.int .i64 b, .int .i64 h], .slice A n c, .agg (idVals s), .int .i64 L] w fun e w' => e = .returned (.bool (Xs.any (honG b s L))) ∧ Below w.heap.size w w' := by
  have h1 := (Below.refl w.heap.size w).alloc (Nat.le_refl _) (.cells #[.int .i64 b, .int .i64 h] 29)
  have h2 := h1.alloc h1.size (.cells (idVals s) 24)
  have h3 := h2.alloc h2.size (.cells #[.int .i64 L] 3)
  have B2 := Blk.new (w.alloc (.cells #[.int .i64 b, .int .i64 h] 29)) 24 (idVals s)
  have B3 := Blk.new ((w.alloc (.cells #[.int .i64 b, .int .i64 h] 29)).alloc (.cells (idVals s) 24)) 3 #[.int .i64 L]
  have B1 := ((Blk.new w 29 #[.int .i64 b, .int .i64 h]).alloc (.cells (idVals s) 24)).alloc (.cells #[.int .i64 L] 3)
  replace B2 := B2.alloc (.cells #[.int .i64 L] 3)
  rw [World.size_alloc] at B2
  rw [World.size_alloc, World.size_alloc] at B3
  have f2 := B1.cell_ (i := 0) rfl
  have f3 := range_blk B2
  have f1 := B3.cell_ (i := 0) rfl
  have hOK := hr.1
  have cC := wcontains_any 68 hfnH #[.pointer (some ⟨w.heap.size + 1 + 1, 0, none⟩), .pointer (some ⟨w.heap.size, 0, none⟩), .pointer (some ⟨w.heap.size + 1, 0, none⟩)] (honG b s L) (((w.alloc (.cells #[.int .i64 b, .int .i64 h] 29)).alloc (.cells (idVals s) 24)).alloc (.cells #[.int .i64 L] 3)).heap.size (((w.alloc (.cells #[.int .i64 b, .int .i64 h] 29)).alloc (.cells (idVals s) 24)).alloc (.cells #[.int .i64 L] 3)) A n c Xs (((w.alloc (.cells #[.int .i64 b, .int .i64 h] 29)).alloc (.cells (idVals s) 24)).alloc (.cells #[.int .i64 L] 3)) hn bn (hr.below h3) (Below.refl _ _) (Nat.le_refl _) (fun X hX W hW => wh1_any b h s hs L X (hOK X hX) _ _ _ W (wi_cell hW f1) (wi_cell hW f2) (f3.below hW))
  clear B1 B2 B3 hr h1 h2 hn
  go_enter Tryz.func32, Tryz.ntmps32
  go_wp2_with (go_at_call 67; (with_reducible refine cC.mono ?_); rintro e4 w4 ⟨rfl, hb4⟩)
  go_ret
  exact ⟨rfl, h3.trans (hb4.mono h3.size)⟩

set_option maxRecDepth 100000 in
set_option maxHeartbeats 20000000 in
theorem wshowed_any (L : Int) (bt : Nat) (hb : bt < 256) (sd : Int) (A : Option Addr) (n c : Nat) (Xs : List WiD) (hn : Xs.length = n) (bn : n ≤ 1000) (w : World) (hr : WiRd w A Xs) :
    Calls Tryz.prog 34 #[.slice A n c, .int .i64 L, .int .i64 bt, .int .i64 sd] w fun e w' => e = .returned (.bool (Xs.any (shwG L bt sd))) ∧ Below w.heap.size w w' := by
  have h1 := (Below.refl w.heap.size w).alloc (Nat.le_refl _) (.cells #[.int .i64 L] 3)
  have h2 := h1.alloc h1.size (.cells #[.int .i64 bt] 3)
  have h3 := h2.alloc h2.size (.cells #[.int .i64 sd] 3)
  have B2 := Blk.new (w.alloc (.cells #[.int .i64 L] 3)) 3 #[.int .i64 bt]
  have B3 := Blk.new ((w.alloc (.cells #[.int .i64 L] 3)).alloc (.cells #[.int .i64 bt] 3)) 3 #[.int .i64 sd]
  have B1 := ((Blk.new w 3 #[.int .i64 L]).alloc (.cells #[.int .i64 bt] 3)).alloc (.cells #[.int .i64 sd] 3)
  replace B2 := B2.alloc (.cells #[.int .i64 sd] 3)
  rw [World.size_alloc] at B2
  rw [World.size_alloc, World.size_alloc] at B3
  have f1 := B1.cell_ (i := 0) rfl
  have f2 := B2.cell_ (i := 0) rfl
  have f3 := B3.cell_ (i := 0) rfl
  have hOK := hr.1
  have cC := wcontains_any 69 hfnS #[.pointer (some ⟨w.heap.size, 0, none⟩), .pointer (some ⟨w.heap.size + 1, 0, none⟩), .pointer (some ⟨w.heap.size + 1 + 1, 0, none⟩)] (shwG L bt sd) (((w.alloc (.cells #[.int .i64 L] 3)).alloc (.cells #[.int .i64 bt] 3)).alloc (.cells #[.int .i64 sd] 3)).heap.size (((w.alloc (.cells #[.int .i64 L] 3)).alloc (.cells #[.int .i64 bt] 3)).alloc (.cells #[.int .i64 sd] 3)) A n c Xs (((w.alloc (.cells #[.int .i64 L] 3)).alloc (.cells #[.int .i64 bt] 3)).alloc (.cells #[.int .i64 sd] 3)) hn bn (hr.below h3) (Below.refl _ _) (Nat.le_refl _) (fun X hX W hW => ws1_any L bt hb sd X (hOK X hX) _ _ _ W (wi_cell hW f1) (wi_cell hW f2) (wi_cell hW f3))
  clear B1 B2 B3 hr h1 h2 hn
  go_enter Tryz.func34, Tryz.ntmps34
  go_wp2_with (go_at_call 67; (with_reducible refine cC.mono ?_); rintro e4 w4 ⟨rfl, hb4⟩)
  go_ret
  exact ⟨rfl, h3.trans (hb4.mono h3.size)⟩

end Go.Proofs.YticpdepbgcagaaaGreat

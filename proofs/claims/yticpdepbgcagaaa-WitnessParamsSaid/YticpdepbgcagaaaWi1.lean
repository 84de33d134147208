
/- witness: Alike, of the program and of the document. -/
import Derived.Test.YticpdepbgcagaaaWi0
import Derived.ChangeShapes
import Derived.Deep.DeepCutAuto
set_option linter.unusedSimpArgs false
set_option linter.unusedVariables false
namespace Go.Proofs.Yticpdepbgcagaaa
open Go.RowKit Go.Qc Go.Shelf
attribute [local go_sem] txt_size txt_append ib_fold
theorem mixedW : Try.prog.follows .mixedOrders = true := by kernel_rfl
/-- How many bits are looked at; are they the same? -/
def alkN (b : Int) : Nat := (min b 256).toNat
def alkB (b : Int) (x y : List UInt8) : Bool := (List.range (alkN b)).all fun i => bitZ x i == bitZ y i
theorem alkB_yes {b : Int} {x y : List UInt8} (h : ∀ i, i < alkN b → bitZ x i = bitZ y i) : alkB b x y = true := by
  unfold alkB
  rw [List.all_eq_true]
  intro i hi
  rw [h i (List.mem_range.1 hi)]
  exact beq_self_eq_true _
theorem alkB_no {b : Int} {x y : List UInt8} {i : Nat} (hi : i < alkN b) (h : ¬ bitZ x i = bitZ y i) : alkB b x y = false := by
  unfold alkB
  rw [List.all_eq_false]
  exact ⟨i, List.mem_range.2 hi, by simpa using h⟩
theorem alkN_lt {b : Int} {k : Nat} (h : k < alkN b) : (k : Int) < b ∧ (k : Int) < 256 := by unfold alkN at h; omega
theorem meas_wi {k n : Nat} (h : k + 1 ≤ n) : n - (intOf (Value.int .i64 ((k : Int) + 1))).toNat < n - (intOf (Value.int .i64 (k : Int))).toNat := by
  simp only [intOf]
  omega

set_option maxRecDepth 100000 in
set_option maxHeartbeats 20000000 in
theorem walk_any (b : Int) (x y : List UInt8) (hx : x.length = 32) (hy : y.length = 32) (w : World) :
    Calls Try.prog 42 #[.int .i64 b, .agg (idVals x), .agg (idVals y)] w fun e w' => e = .returned (.bool (alkB b x y)) ∧ Below w.heap.size w w' := by
  have hba := (Below.refl w.heap.size w).alloc (Nat.le_refl _) (.cells (idVals x) 25)
  have hbc := hba.alloc hba.size (.cells (idVals y) 25)
  have hbk := (Below.refl (w.alloc (.cells (idVals x) 25)).heap.size (w.alloc (.cells (idVals x) 25))).alloc (Nat.le_refl _) (.cells (idVals y) 25)
  have fx0 := (range_blk (Blk.new w 25 (idVals x))).below hbk
  have fy0 := range_blk (Blk.new (w.alloc (.cells (idVals x) 25)) 25 (idVals y))
  rw [World.size_alloc] at fy0
  have hu := Try.underlying25
  have hzx : (Try.prog.info? 25).map (·.size) = some (x.map u8v).length := by rw [List.length_map, hx]; exact sizeId
  have hzy : (Try.prog.info? 25).map (·.size) = some (y.map u8v).length := by rw [List.length_map, hy]; exact sizeId
  have HB := hid hbc
  clear hba hbc hbk
  obtain ⟨m, hm⟩ : ∃ m : Int, min b 256 = m := ⟨_, rfl⟩
  have HM := hid (show ∀ k : Nat, k < alkN b ↔ (k : Int) < m by intro k; unfold alkN; omega)
  go_enter Try.func42, Try.ntmps42
  go_wp2_with (fail)
  generalize (w.alloc (.cells (idVals x) 25)).alloc (.cells (idVals y) 25) = w1 at *
  go_loopw [10] (fun i wr => ∃ k : Nat, k ≤ alkN b ∧ i = .int .i64 k ∧ Hid (∀ j, j < k → bitZ x j = bitZ y j) ∧ Below w1.heap.size w1 wr) (fun i _ => alkN b - (intOf i).toNat)
  case atStart => exact ⟨0, Nat.zero_le _, rfl, hid (fun j hj => by omega), Below.refl _ _⟩
  case round =>
    obtain ⟨k, hkn, rfl, HA, hb⟩ := hrel
    by_cases hlt : k < alkN b
    · have hd := alkN_lt hlt
      have HLT := hid (show k + 1 ≤ alkN b from hlt)
      have k256 : k < 256 := by omega
      have b1 : (k : Int) < m := (HM.out k).1 hlt
      obtain ⟨u, hu1⟩ : ∃ u : Int, ((bitZ x k : Nat) : Int) = u := ⟨_, rfl⟩
      obtain ⟨v, hv1⟩ : ∃ v : Int, ((bitZ y k : Nat) : Int) = v := ⟨_, rfl⟩
      have cX : ∀ W : World, Calls Try.prog 19 #[.agg (List.map u8v x).toArray, .int .i64 k] W fun e w' => e = .returned (.int .i64 u) ∧ Below W.heap.size W w' := fun W => by
        have h := ibit_any x hx k k256 W
        rw [hu1] at h
        exact h
      have cY : ∀ W : World, Calls Try.prog 19 #[.agg (List.map u8v y).toArray, .int .i64 k] W fun e w' => e = .returned (.int .i64 v) ∧ Below W.heap.size W w' := fun W => by
        have h := ibit_any y hy k k256 W
        rw [hv1] at h
        exact h
      have HUV := hid (show u = v ↔ bitZ x k = bitZ y k by omega)
      have hkN := hlt
      have fx := range_later (fx0.below hb)
      have fy := range_later (fy0.below hb)
      clear hu1 hv1 hd hlt k256 hkn
      go_upto_region 4 with (fail)
      refine wp_region_later mixedW (by kernel_rfl) ?_
      repeat (first
        | ((with_reducible refine wpQuiet_load_if (by with_unfolding_all rfl) 25 _ rfl _ _ rfl (x.map u8v) _ fx hu (by with_unfolding_all rfl) hzx ?_); simp only [Act.put, List.setIfInBounds_toArray, List.set_cons_zero, List.set_cons_succ])
        | ((with_reducible refine wpQuiet_load_if (by with_unfolding_all rfl) 25 _ rfl _ _ rfl (y.map u8v) _ fy hu (by with_unfolding_all rfl) hzy ?_); simp only [Act.put, List.setIfInBounds_toArray, List.set_cons_zero, List.set_cons_succ])
        | ((with_reducible refine wpQuiet_step (fun K hK => ?_)); go_simp; first | ((with_reducible refine hK _ ?_); clear hK K) | (with_reducible apply Exists.intro; (with_reducible refine ⟨fun P => ?_, hK _ ?_⟩); (first | (go_at_call 19; exact later_of (cX P.w)) | (go_at_call 19; exact later_of (cY P.w))); clear hK K))
        | ((with_reducible refine BigFrame.wpQuiet_skip (by first | kernel_rfl | with_unfolding_all rfl) ?_); simp only [Act.put, List.setIfInBounds_toArray, List.set_cons_zero, List.set_cons_succ]))
      with_reducible refine wpQuiet_nil ?_
      intro _ hw9
      obtain ⟨P9, rfl⟩ := hw9
      have hb9 := hb.trans (P9.h.mono hb.size)
      by_cases huv : u = v
      · subst huv
        go_wp2_with (fail)
        go_roundw
        case rel => exact ⟨k + 1, HLT.out, by go_num, hid (fun j hj => by
          by_cases hjk : j = k
          · rw [hjk]; exact HUV.out.1 rfl
          · exact HA.out j (by omega)), hb9⟩
        case measure => exact meas_wi HLT.out
      · have huv2 : (u == v) = false := by simpa using huv
        have HF := hid (alkB_no hkN (fun e => huv (HUV.out.2 e)))
        clear hkN
        go_wp2_with (fail)
        go_ret
        exact ⟨by rw [HF.out]; rfl, HB.out.trans (hb9.mono HB.out.size)⟩
    · have HE := hid (alkB_yes (fun i hi => HA.out i (by omega)) : alkB b x y = true)
      have c1 : ¬ (k : Int) < m := fun h => hlt ((HM.out k).2 h)
      go_wp2_with (fail)
      go_ret
      exact ⟨by rw [HE.out]; rfl, HB.out.trans (hb.mono HB.out.size)⟩

end Go.Proofs.Yticpdepbgcagaaa


/- gauss: the law's closure tells what the program's test of a part tells; what is reckoned of numbers of which one is no residue. -/
import Derived.Test.YtdkeobpmenaljaaGs7
import Derived.Deep.DeepCutAuto
set_option linter.unusedSimpArgs false
set_option linter.unusedVariables false
namespace Go.Proofs.Ytdkeobpmenaljaa
open Go.RowKit Go.Qc

/-- The law's six numbers. -/
def sixF (k : Nat) : Nat := if k = 0 then 0 else if k = 1 then 4607182418800017408 else if k = 2 then 4611686018427387904 else if k = 3 then 4679237538936782848 else if k = 4 then 4679237676375736320 else 4643985272004935680
theorem sixF_fl : sixF 0 = 0 ∧ sixF 1 = fl 1 ∧ sixF 2 = fl 2 ∧ sixF 3 = fl 65518 ∧ sixF 4 = fl 65519 ∧ sixF 5 = fl 300 := by decide +kernel
theorem sixF_lt (k : Nat) (hk : k < 6) : (FloatKind.f64.format.order (sixF k) 4679237676375736320 == some .lt) = decide (k ≠ 4) := by
  rcases k with _ | _ | _ | _ | _ | _ | k
  · decide +kernel
  · decide +kernel
  · decide +kernel
  · decide +kernel
  · decide +kernel
  · decide +kernel
  · omega
theorem six_part (b : Nat) (hb : b < 2 ^ 64) (k : Nat) (h0 : 0 < k) (hk : k < 6) (h : (FloatKind.f64.format.order b (sixF k) == some .eq) = true) : partF b = decide (k ≠ 4) := by
  obtain ⟨e0, e1, e2, e3, e4, e5⟩ := sixF_fl
  rcases k with _ | _ | _ | _ | _ | _ | k
  · omega
  · rw [e1] at h; exact eq_wholeF b hb 1 (by decide) (by decide) h
  · rw [e2] at h; exact eq_wholeF b hb 2 (by decide) (by decide) h
  · rw [e3] at h; exact eq_wholeF b hb 65518 (by decide) (by decide) h
  · rw [e4] at h; exact eq_wholeF b hb 65519 (by decide) (by decide) h
  · rw [e5] at h; exact eq_wholeF b hb 300 (by decide) (by decide) h
  · omega
theorem six_step {p : Nat → Prop} {k : Nat} (h : ∀ j, j < k → p j) (hk : p k) : ∀ j, j < k + 1 → p j := fun j hj => by
  rcases Nat.lt_or_ge j k with h1 | h1
  · exact h j h1
  · obtain rfl : j = k := by omega
    exact hk
set_option maxRecDepth 100000 in
set_option maxHeartbeats 4000000 in
theorem six_any (b : Nat) (hb : b < 2 ^ 64) (w : World) : Calls Try.prog 59 #[.float .f64 b] w fun e w' => e = .returned (.bool (partF b)) ∧ Below w.heap.size w w' := by
  have HB := hid hb
  obtain ⟨V, hV0⟩ : ∃ V, partF b = V := ⟨_, rfl⟩
  rw [hV0]
  have hV := hid hV0
  clear hV0
  have hbel := (Below.refl w.heap.size w).alloc (Nat.le_refl _) (.cells #[.float .f64 0, .float .f64 4607182418800017408, .float .f64 4611686018427387904, .float .f64 4679237538936782848, .float .f64 4679237676375736320, .float .f64 4643985272004935680] 97)
  have hblk := Blk.new w 97 #[.float .f64 0, .float .f64 4607182418800017408, .float .f64 4611686018427387904, .float .f64 4679237538936782848, .float .f64 4679237676375736320, .float .f64 4643985272004935680]
  have hcell : ∀ k, k < 6 → (#[.float .f64 0, .float .f64 4607182418800017408, .float .f64 4611686018427387904, .float .f64 4679237538936782848, .float .f64 4679237676375736320, .float .f64 4643985272004935680] : Array Value)[k]? = some (.float .f64 (sixF k)) := fun k hk => by
    rcases k with _ | _ | _ | _ | _ | _ | k <;> first | rfl | omega
  clear hb
  go_enter Try.func59, Try.ntmps59
  go_wp2_with (fail)
  generalize w.alloc (.cells #[.float .f64 0, .float .f64 4607182418800017408, .float .f64 4611686018427387904, .float .f64 4679237538936782848, .float .f64 4679237676375736320, .float .f64 4643985272004935680] 97) = W0 at *
  go_loopw [7] (fun j wr => ∃ (k : Nat), k ≤ 6 ∧ j = .int .i64 k ∧ wr = W0 ∧ Hid (∀ j, j < k → (FloatKind.f64.format.order b (sixF j) == some .eq) = false)) (fun j _ => 6 - (intOf j).toNat)
  case atStart => exact ⟨0, Nat.zero_le _, rfl, rfl, hid (fun _ h => absurd h (Nat.not_lt_zero _))⟩
  case round =>
    obtain ⟨k, hk, rfl, rfl, HI⟩ := hrel
    by_cases hlt : k < 6
    · have z1 : (k : Int) < 6 := by omega
      have fc := hblk.cell_ (hcell k hlt)
      have qlt := sixF_lt k hlt
      clear hcell hblk
      cases hq : (FloatKind.f64.format.order b (sixF k) == some .eq) with
      | true =>
        by_cases hk0 : k = 0
        · subst hk0
          have e0 : sixF 0 = 0 := rfl
          rw [e0] at fc qlt hq
          have ql : (FloatKind.f64.format.order 0 4679237676375736320 == some .lt) = true := qlt
          have fc2 : wr.cell? ⟨w.heap.size, 0, none⟩ = some (.float .f64 0) := fc
          have hn0 : (FloatKind.f64.format.order b 0 != some .eq) = false := by
            rw [bne, hq]; rfl
          have hz := eq_zeroF b HB.out hq
          rcases hz with rfl | rfl
          · have hquo : ∀ w, (binOp .quo 97 (.float .f64 4607182418800017408) (.float .f64 0)).run Try.prog w = .ok (.float .f64 9218868437227405312) w := fun w => run_float_arith w .quo _ .f64 _ _ _ (by decide +kernel)
            have hg : (FloatKind.f64.format.order 9218868437227405312 0 == some .gt) = true := by decide +kernel
            have hp : partF 0 = true := by decide +kernel
            clear HI qlt fc e0 hlt hk
            go_wp2_with (fail)
            go_ret
            exact ⟨by rw [← hV.out, hp]; rfl, hbel⟩
          · have hquo : ∀ w, (binOp .quo 97 (.float .f64 4607182418800017408) (.float .f64 9223372036854775808)).run Try.prog w = .ok (.float .f64 18442240474082181120) w := fun w => run_float_arith w .quo _ .f64 _ _ _ (by decide +kernel)
            have hg : (FloatKind.f64.format.order 18442240474082181120 0 == some .gt) = false := by decide +kernel
            have hp : partF 9223372036854775808 = false := by decide +kernel
            clear HI qlt fc e0 hlt hk
            go_wp2_with (fail)
            go_ret
            exact ⟨by rw [← hV.out, hp]; rfl, hbel⟩
        · have hp := six_part b HB.out k (by omega) hlt hq
          have hn0 : (FloatKind.f64.format.order b 0 != some .eq) = true := by
            have := HI.out 0 (by omega)
            rw [show sixF 0 = 0 from rfl] at this
            rw [bne, this]; rfl
          have HP := hid (hV.out.symm.trans hp)
          have HL := hid hlt
          clear HI hlt
          generalize sixF k = c at *
          cases hd : decide (k ≠ 4) with
          | true =>
            rw [hd] at qlt
            have HD := hid hd
            clear hd hp hk0 hV
            go_wp2_with (fail)
            go_ret
            exact ⟨by rw [HP.out, HD.out]; rfl, hbel⟩
          | false =>
            rw [hd] at qlt
            have HD := hid hd
            clear hd hp hk0 hV
            go_wp2_with (fail)
            go_ret
            exact ⟨by rw [HP.out, HD.out]; rfl, hbel⟩
      | false =>
        have HL := hid hlt
        have HN := hid (six_step HI.out hq)
        clear HI hlt qlt
        generalize hc : sixF k = c at *
        clear hc
        go_wp2_with (fail)
        go_roundw
        case rel => exact ⟨k + 1, HL.out, by go_num, trivial, HN⟩
        case measure => exact meas_z HL.out
    · obtain rfl : k = 6 := by omega
      have h0 := HI.out 0 (by omega)
      rw [show sixF 0 = 0 from rfl] at h0
      have hl := last_F b HB.out h0
      clear HI hcell hblk h0
      rcases hl with ⟨h1, hp⟩ | ⟨h1, h2, hp⟩ | ⟨q, h1, h2, h3, h4, hp⟩
      · have HP := hid (hV.out.symm.trans hp)
        clear hp hV
        go_wp2_with (fail)
        go_ret
        exact ⟨by rw [HP.out]; rfl, hbel⟩
      · have HP := hid (hV.out.symm.trans hp)
        clear hp hV
        go_wp2_with (fail)
        go_ret
        exact ⟨by rw [HP.out]; rfl, hbel⟩
      · have hc : ∀ w, (convert 97 3 (.float .f64 b)).run Try.prog w = .ok (.int .i64 q) w := fun w => run_convert_float_int w _ _ .f64 .i64 b q (by kernel_rfl) (by kernel_rfl) h3
        have hd : ∀ (w : World) (m : Int), (convert 3 97 (.int .i64 m)).run Try.prog w = .ok (.float .f64 (fl m)) w := fun w m => run_convert_int_float w _ _ .i64 .f64 m (by kernel_rfl) (by kernel_rfl)
        have HP := hid (hV.out.symm.trans hp)
        clear hp h3 hV
        go_wp2_with (fail)
        go_ret
        exact ⟨by rw [HP.out]; rfl, hbel⟩
end Go.Proofs.Ytdkeobpmenaljaa

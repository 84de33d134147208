
/- Rows that rise: what the document says of it. -/
import Derived.Test.YtkbokffonnjjiaaIdL
namespace Go.Proofs.Ytkbokffonnjjiaa
open Go.RowKit Go.Qc
attribute [local go_sem] txt_size

/-- Each one is above the one ahead. -/
def Steps (l : List (List UInt8)) (k : Nat) : Prop := ∀ i x y, i + 1 < k → l[i]? = some x → l[i + 1]? = some y → ltB x y = true
/-- A test that tells whether p. -/
def TellsV (v : Value) (p : Prop) : Prop := ∃ t : Bool, v = .bool t ∧ (t = true ↔ p)
set_option maxRecDepth 100000 in
set_option maxHeartbeats 20000000 in
theorem rrises_any (A : Option Addr) (n c : Nat) (l : List (List UInt8)) (w : World) (hA : RowR w A n l) :
    Calls Try.prog 11 #[.slice A n c] w fun e w' => ∃ v : Value, e = .returned v ∧ TellsV v (Steps l n) ∧ Below w.heap.size w w' := by
  obtain ⟨hn, bn, hr⟩ := hA
  have hu := Try.underlying24
  have mixed : Try.prog.follows .mixedOrders = true := by kernel_rfl
  go_enter Try.func11, Try.ntmps11
  go_wp2
  go_loopw [3] (fun i wr => ∃ j : Nat, j ≤ n ∧ i = .int .i64 ((j : Int) + 1) ∧ Steps l (j + 1) ∧ Below w.heap.size w wr) (fun i _ => n + 1 - (intOf i).toNat)
  case atStart => exact ⟨0, by omega, rfl, fun i x y h => by omega, Below.refl _ _⟩
  case round =>
    obtain ⟨j, hj, rfl, hst, hb⟩ := hrel
    by_cases hlt : j + 1 < n
    · obtain ⟨x, hx⟩ : ∃ x, l[j]? = some x := ⟨_, List.getElem?_eq_getElem (by omega)⟩
      obtain ⟨y, hy⟩ : ∃ y, l[j + 1]? = some y := ⟨_, List.getElem?_eq_getElem (by omega)⟩
      obtain ⟨g, q, hg, lx, hix⟩ := hr.pick c hn hx
      obtain ⟨g2, q2, hg2, ly, hiy0⟩ := hr.pick c hn hy
      have hiy : ∀ W : World, (Instr.indexAt 22 (.slice A n c) (.int .i64 ((j : Int) + 1))).run Try.prog W = .ok (.pointer (some ⟨g2, q2, none⟩)) W := hiy0
      clear hiy0
      have b1 : (j : Int) + 1 < n := by omega
      have b2 : (0 : Int) ≤ j := by omega
      have b3 : IntKind.i64.wrap (j : Int) = j := by
        rw [IntKind.wrap_i64]; omega
      have fx := range_later (hg.below hb)
      have fy := range_later (hg2.below hb)
      have hzx : (Try.prog.info? 24).map (·.size) = some (x.map u8v).length := by rw [List.length_map, lx]; exact sizeId
      have hzy : (Try.prog.info? 24).map (·.size) = some (y.map u8v).length := by rw [List.length_map, ly]; exact sizeId
      obtain ⟨L, hL⟩ : ∃ L, ltB x y = L := ⟨_, rfl⟩
      have hless : ∀ W : World, Calls Try.prog 12 #[.agg (List.map u8v x).toArray, .agg (List.map u8v y).toArray] W fun e w' => e = .returned (.bool L) ∧ Below W.heap.size W w' := fun W => by rw [← hL]; exact rless_any x y lx ly W
      have HN := hid hn
      have HL := hid hL
      have HX := hid hx
      have HY := hid hy
      have HST := hid hst
      clear hn hL hx hy hst lx ly hg hg2
      go_wp2
      refine wp_region_later mixed (by kernel_rfl) ?_
      repeat (first
        | ((with_reducible refine wpQuiet_skip (by with_unfolding_all rfl) ?_); simp only [Act.put, List.setIfInBounds_toArray, List.set_cons_zero, List.set_cons_succ])
        | ((with_reducible refine wpQuiet_load_if (by with_unfolding_all rfl) 24 _ rfl _ _ rfl (x.map u8v) _ fx hu (by with_unfolding_all rfl) hzx ?_); simp only [Act.put, List.setIfInBounds_toArray, List.set_cons_zero, List.set_cons_succ])
        | ((with_reducible refine wpQuiet_load_if (by with_unfolding_all rfl) 24 _ rfl _ _ rfl (y.map u8v) _ fy hu (by with_unfolding_all rfl) hzy ?_); simp only [Act.put, List.setIfInBounds_toArray, List.set_cons_zero, List.set_cons_succ])
        | ((with_reducible refine wpQuiet_step (fun K hK => ?_)); go_simp; first | ((with_reducible refine hK _ ?_); clear hK K) | (with_reducible apply Exists.intro; (with_reducible refine ⟨fun _ => ?_, hK _ ?_⟩); ((first | (go_at_call 12; exact later_of (hless _)))); clear hK K)))
      with_reducible refine wpQuiet_nil ?_
      intro _ hw'
      obtain ⟨p, rfl⟩ := hw'
      have hp := p.h
      generalize p.w = wq at *
      replace hb := hb.trans (hp.mono hb.size)
      cases L with
      | false =>
        go_wp2
        go_ret
        exact ⟨_, rfl, ⟨false, rfl, ⟨fun h => (by cases h), fun h => by have h1 := h j x y hlt HX.out HY.out; rw [HL.out] at h1; exact h1⟩⟩, hb⟩
      | true =>
        go_wp2
        go_roundw
        case rel => exact ⟨j + 1, by omega, by go_num, (fun i x' y' hi h1 h2 => by
          by_cases e : i = j
          · subst e; rw [HX.out] at h1; rw [HY.out] at h2; cases h1; cases h2; exact HL.out
          · exact HST.out i x' y' (by omega) h1 h2), hb⟩
        case measure => simp [intOf]; omega
    · have b1 : ¬ (j : Int) + 1 < n := by omega
      have HN := hid hn
      have HST := hid hst
      clear hn hst
      go_wp2
      go_ret
      exact ⟨_, rfl, ⟨true, rfl, ⟨fun _ i x y hi => HST.out i x y (by omega), fun _ => rfl⟩⟩, hb⟩
theorem order_later (a b : List UInt8) (ha : a.length = 32) (hb : b.length = 32) (w : World) :
    Calls Try.prog 91 #[.agg (a.map u8v).toArray, .agg (b.map u8v).toArray] w fun e w' => e = .returned (.int .i64 (Lib.compareBytes a b)) ∧ Below w.heap.size w w' :=
  (order_grow a b ha hb w).mono (by rintro e w' ⟨h1, q, os, rfl⟩; exact ⟨h1, below_grown2 q os⟩)
theorem ltB_neg {x y : List UInt8} {z : Int} (h : Lib.compareBytes x y = z) : ltB x y = true ↔ ¬ 0 ≤ z := by
  unfold ltB
  rw [h, decide_eq_true_iff]
  omega
set_option maxRecDepth 100000 in
set_option maxHeartbeats 20000000 in
theorem rises_any (A : Option Addr) (n c : Nat) (l : List (List UInt8)) (w : World) (hA : RowR w A n l) :
    Calls Try.prog 45 #[.slice A n c] w fun e w' => ∃ v : Value, e = .returned v ∧ TellsV v (Steps l n) ∧ Below w.heap.size w w' := by
  obtain ⟨hn, bn, hr⟩ := hA
  have hu := Try.underlying24
  have mixed : Try.prog.follows .mixedOrders = true := by kernel_rfl
  go_enter Try.func45, Try.ntmps45
  go_wp2
  go_loopw [6] (fun i wr => ∃ k : Nat, k ≤ n ∧ i = .int .i64 k ∧ Steps l k ∧ Below w.heap.size w wr) (fun i _ => n - (intOf i).toNat)
  case atStart => exact ⟨0, by omega, rfl, fun i x y h => by omega, Below.refl _ _⟩
  case round =>
    obtain ⟨k, hk, rfl, hst, hb⟩ := hrel
    by_cases hlt : k < n
    · cases k with
      | zero =>
        have b1 : (0 : Int) < n := by omega
        have b0 : 0 < n := hlt
        clear hst
        go_wp2
        refine wp_region_later mixed (by kernel_rfl) ?_
        repeat (first
          | ((with_reducible refine wpQuiet_skip (by with_unfolding_all rfl) ?_); simp only [Act.put, List.setIfInBounds_toArray, List.set_cons_zero, List.set_cons_succ])
          | ((with_reducible refine wpQuiet_step (fun K hK => ?_)); go_simp; first | ((with_reducible refine hK _ ?_); clear hK K) | (with_reducible apply Exists.intro; (with_reducible refine ⟨fun _ => ?_, hK _ ?_⟩); ((fail)); clear hK K)))
        with_reducible refine wpQuiet_nil ?_
        intro _ hw'
        obtain ⟨p, rfl⟩ := hw'
        have hp := p.h
        generalize p.w = wq at *
        replace hb := hb.trans (hp.mono hb.size)
        go_wp2
        go_roundw
        case rel => exact ⟨1, by omega, by go_num, fun i x y h => by omega, hb⟩
        case measure => simp [intOf]; omega
      | succ j =>
        obtain ⟨x, hx⟩ : ∃ x, l[j]? = some x := ⟨_, List.getElem?_eq_getElem (by omega)⟩
        obtain ⟨y, hy⟩ : ∃ y, l[j + 1]? = some y := ⟨_, List.getElem?_eq_getElem (by omega)⟩
        obtain ⟨g, q, hg, lx, hix⟩ := hr.pick c hn hx
        obtain ⟨g2, q2, hg2, ly, hiy0⟩ := hr.pick c hn hy
        have hiy : ∀ W : World, (Instr.indexAt 22 (.slice A n c) (.int .i64 ((j : Int) + 1))).run Try.prog W = .ok (.pointer (some ⟨g2, q2, none⟩)) W := hiy0
        clear hiy0
        have b1 : (j : Int) + 1 < n := by omega
        have b2 : (0 : Int) ≤ j := by omega
        have b4 : (0 : Int) < (j : Int) + 1 := by omega
        have b3 : IntKind.i64.wrap (j : Int) = j := by
          rw [IntKind.wrap_i64]; omega
        have fx := range_later (hg.below hb)
        have fy := range_later (hg2.below hb)
        have hzx : (Try.prog.info? 24).map (·.size) = some (x.map u8v).length := by rw [List.length_map, lx]; exact sizeId
        have hzy : (Try.prog.info? 24).map (·.size) = some (y.map u8v).length := by rw [List.length_map, ly]; exact sizeId
        obtain ⟨z, hz⟩ : ∃ z, Lib.compareBytes x y = z := ⟨_, rfl⟩
        have hless : ∀ W : World, Calls Try.prog 91 #[.agg (List.map u8v x).toArray, .agg (List.map u8v y).toArray] W fun e w' => e = .returned (.int .i64 z) ∧ Below W.heap.size W w' := fun W => by rw [← hz]; exact order_later x y lx ly W
        have HN := hid hn
        have HL := hid (ltB_neg hz)
        have HX := hid hx
        have HY := hid hy
        have HST := hid hst
        clear hn hz hx hy hst lx ly hg hg2
        by_cases b5 : 0 ≤ z
        · go_wp2
          refine wp_region_later mixed (by kernel_rfl) ?_
          repeat (first
            | ((with_reducible refine wpQuiet_skip (by with_unfolding_all rfl) ?_); simp only [Act.put, List.setIfInBounds_toArray, List.set_cons_zero, List.set_cons_succ])
            | ((with_reducible refine wpQuiet_load_if (by with_unfolding_all rfl) 24 _ rfl _ _ rfl (x.map u8v) _ fx hu (by with_unfolding_all rfl) hzx ?_); simp only [Act.put, List.setIfInBounds_toArray, List.set_cons_zero, List.set_cons_succ])
            | ((with_reducible refine wpQuiet_load_if (by with_unfolding_all rfl) 24 _ rfl _ _ rfl (y.map u8v) _ fy hu (by with_unfolding_all rfl) hzy ?_); simp only [Act.put, List.setIfInBounds_toArray, List.set_cons_zero, List.set_cons_succ])
            | ((with_reducible refine wpQuiet_step (fun K hK => ?_)); go_simp; first | ((with_reducible refine hK _ ?_); clear hK K) | (with_reducible apply Exists.intro; (with_reducible refine ⟨fun _ => ?_, hK _ ?_⟩); ((first | (go_at_call 91; exact later_of (hless _)))); clear hK K)))
          with_reducible refine wpQuiet_nil ?_
          intro _ hw'
          obtain ⟨p, rfl⟩ := hw'
          have hp := p.h
          generalize p.w = wq at *
          replace hb := hb.trans (hp.mono hb.size)
          go_wp2
          go_ret
          exact ⟨_, rfl, ⟨false, rfl, ⟨fun h => (by cases h), fun h => by have h1 := h j x y hlt HX.out HY.out; have h2 := HL.out.1 h1; omega⟩⟩, hb⟩
        · go_wp2
          refine wp_region_later mixed (by kernel_rfl) ?_
          repeat (first
            | ((with_reducible refine wpQuiet_skip (by with_unfolding_all rfl) ?_); simp only [Act.put, List.setIfInBounds_toArray, List.set_cons_zero, List.set_cons_succ])
            | ((with_reducible refine wpQuiet_load_if (by with_unfolding_all rfl) 24 _ rfl _ _ rfl (x.map u8v) _ fx hu (by with_unfolding_all rfl) hzx ?_); simp only [Act.put, List.setIfInBounds_toArray, List.set_cons_zero, List.set_cons_succ])
            | ((with_reducible refine wpQuiet_load_if (by with_unfolding_all rfl) 24 _ rfl _ _ rfl (y.map u8v) _ fy hu (by with_unfolding_all rfl) hzy ?_); simp only [Act.put, List.setIfInBounds_toArray, List.set_cons_zero, List.set_cons_succ])
            | ((with_reducible refine wpQuiet_step (fun K hK => ?_)); go_simp; first | ((with_reducible refine hK _ ?_); clear hK K) | (with_reducible apply Exists.intro; (with_reducible refine ⟨fun _ => ?_, hK _ ?_⟩); ((first | (go_at_call 91; exact later_of (hless _)))); clear hK K)))
          with_reducible refine wpQuiet_nil ?_
          intro _ hw'
          obtain ⟨p, rfl⟩ := hw'
          have hp := p.h
          generalize p.w = wq at *
          replace hb := hb.trans (hp.mono hb.size)
          go_wp2
          go_roundw
          case rel => exact ⟨j + 1 + 1, by omega, by go_num, (fun i x' y' hi h1 h2 => by
            by_cases e : i = j
            · subst e; rw [HX.out] at h1; rw [HY.out] at h2; cases h1; cases h2; exact HL.out.2 b5
            · exact HST.out i x' y' (by omega) h1 h2), hb⟩
          case measure => simp [intOf]; omega
    · obtain rfl : k = n := by omega
      have b1 : ¬ (k : Int) < k := by omega
      have HN := hid hn
      have HST := hid hst
      clear hn hst
      go_wp2
      go_ret
      exact ⟨_, rfl, ⟨true, rfl, ⟨fun _ => HST.out, fun _ => rfl⟩⟩, hb⟩
end Go.Proofs.Ytkbokffonnjjiaa

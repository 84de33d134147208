
/- Where an id stands in a row that rises: slices.BinarySearchFunc at ids; Place, Has. -/
import Derived.Test.YtkbokffonnjjiaaId11
set_option linter.unusedVariables false
set_option linter.unusedSimpArgs false
namespace Go.Proofs.Ytkbokffonnjjiaa
open Go.RowKit Go.Qc
attribute [local go_sem] txt_size

/-- How many of a row that rises are ahead of an id. -/
def Cuts (l : List (List UInt8)) (a : List UInt8) (p : Nat) : Prop := p ≤ l.length ∧ (∀ k x, k < p → l[k]? = some x → Lt x a) ∧ ∀ k x, p ≤ k → l[k]? = some x → ¬ Lt x a
theorem rising_get {l : List (List UInt8)} {x y : List UInt8} {i j : Nat} (hri : Rising l) (h : i < j) (hx : l[i]? = some x) (hy : l[j]? = some y) : Lt x y := by
  have hl := (List.getElem?_eq_some_iff.1 hx)
  have hp := (List.getElem?_eq_some_iff.1 hy)
  have := List.pairwise_iff_getElem.1 hri i j hl.1 hp.1 h
  rw [hp.2, hl.2] at this
  exact this
theorem cut_lo {l : List (List UInt8)} {a x : List UInt8} {h : Nat} (hri : Rising l) (hx : l[h]? = some x) (hlt : Lt x a) : ∀ k y, k < h + 1 → l[k]? = some y → Lt y a := fun k y hk hy => by
  rcases Nat.lt_or_ge k h with e | e
  · exact (rising_get hri e hy hx).tr hlt
  · obtain rfl : k = h := by omega
    rw [hx] at hy; cases hy; exact hlt
theorem cut_hi {l : List (List UInt8)} {a x : List UInt8} {h : Nat} (hri : Rising l) (hx : l[h]? = some x) (hn : ¬ Lt x a) : ∀ k y, h ≤ k → l[k]? = some y → ¬ Lt y a := fun k y hk hy hl => by
  rcases Nat.lt_or_ge h k with e | e
  · exact hn ((rising_get hri e hx hy).tr hl)
  · obtain rfl : k = h := by omega
    rw [hx] at hy; cases hy; exact hn hl
theorem cut_mem {l : List (List UInt8)} {a x : List UInt8} {p : Nat} (hri : Rising l) (hc : Cuts l a p) (hx : l[p]? = some x) : a ∈ l ↔ Lib.compareBytes x a = 0 := by
  obtain ⟨h1, h2, h3⟩ := hc
  constructor
  · intro h
    obtain ⟨k, hk⟩ := List.getElem?_of_mem h
    rcases Nat.lt_trichotomy k p with e | e | e
    · exact (Lt.irr (h2 k a e hk)).elim
    · subst e; rw [hx] at hk; cases hk; exact cmp_refl _
    · have hl := (List.getElem?_eq_some_iff.1 hk)
      have hp := (List.getElem?_eq_some_iff.1 hx)
      have := List.pairwise_iff_getElem.1 hri p k hp.1 hl.1 e
      rw [hp.2, hl.2] at this
      exact (h3 p x (Nat.le_refl _) hx this).elim
  · intro h
    rw [← cmp_zero x a h]
    exact List.mem_of_getElem? hx
theorem cut_end {l : List (List UInt8)} {a : List UInt8} (hc : Cuts l a l.length) : a ∉ l := fun h => by
  obtain ⟨k, hk⟩ := List.getElem?_of_mem h
  exact Lt.irr (hc.2.1 k a (List.getElem?_eq_some_iff.1 hk).1 hk)
set_option maxRecDepth 100000 in
set_option maxHeartbeats 20000000 in
theorem bsearch_any (A : Option Addr) (n c : Nat) (l : List (List UInt8)) (a : List UInt8) (ha : a.length = 32) (hri : Rising l) (w : World) (hA : RowR w A n l) :
    Calls Try.prog 92 #[.slice A n c, .agg (idVals a), .func (.func 91) #[] #[]] w fun e w' => ∃ p : Nat, e = .returned (.tuple #[.int .i64 p, .bool (decide (a ∈ l))]) ∧ Cuts l a p ∧ Below w.heap.size w w' := by
  obtain ⟨hn, bn, hr⟩ := hA
  have hu := Try.underlying24
  have mixed : Try.prog.follows .mixedOrders = true := by kernel_rfl
  have hX : Below w.heap.size w (w.alloc (.cells (idVals a) 24)) := (Below.refl _ w).alloc (Nat.le_refl _) _
  have hbx : (w.alloc (.cells (idVals a) 24)).rangeAt w.heap.size 0 (a.map u8v) := range_blk (Blk.new w 24 (idVals a))
  have hsz : w.heap.size + 1 ≤ (w.alloc (.cells (idVals a) 24)).heap.size := by simp
  have hza : (Try.prog.info? 24).map (·.size) = some (a.map u8v).length := by rw [List.length_map, ha]; exact sizeId
  have hn9 : n ≤ 1000000 := bn
  go_enter Try.func92, Try.ntmps92
  go_wp2_with (fail)
  generalize w.alloc (.cells (idVals a) 24) = W0 at *
  go_loopw [9, 10] (fun i j wr => ∃ p q : Nat, i = .int .i64 p ∧ j = .int .i64 q ∧ p ≤ q ∧ q ≤ n ∧ (∀ k x, k < p → l[k]? = some x → Lt x a) ∧ (∀ k x, q ≤ k → l[k]? = some x → ¬ Lt x a) ∧ Below W0.heap.size W0 wr) (fun i j _ => (intOf j).toNat - (intOf i).toNat)
  case atStart => exact ⟨0, n, rfl, rfl, by omega, by omega, fun k x h => by omega, fun k x h1 h2 => by have := (List.getElem?_eq_some_iff.1 h2).1; omega, Below.refl _ _⟩
  case round =>
    obtain ⟨p, q, rfl, rfl, hpq, hq, hlo, hhi, hb⟩ := hrel
    by_cases hlt : p < q
    · have b1 : (p : Int) < q := by omega
      obtain ⟨h, hh, h1, h2⟩ : ∃ h : Nat, ((p : Int) + (q : Int)) / 2 = (h : Int) ∧ p ≤ h ∧ h < q := ⟨(p + q) / 2, by omega, by omega, by omega⟩
      obtain ⟨x, hx⟩ : ∃ x, l[h]? = some x := ⟨_, List.getElem?_eq_getElem (by omega)⟩
      obtain ⟨g, o, hg, lx, hix⟩ := hr.pick c hn hx
      have hzx : (Try.prog.info? 24).map (·.size) = some (x.map u8v).length := by rw [List.length_map, lx]; exact sizeId
      have fx := range_later ((hg.below hX).below hb)
      have fa := range_later (hbx.below hb)
      obtain ⟨z, hz⟩ : ∃ z, Lib.compareBytes x a = z := ⟨_, rfl⟩
      have hord : ∀ W : World, Calls Try.prog 91 #[.agg (List.map u8v x).toArray, .agg (List.map u8v a).toArray] W fun e w' => e = .returned (.int .i64 z) ∧ Below W.heap.size W w' := fun W => by rw [← hz]; exact order_later x a lx ha W
      have HLO := hid hlo
      have HHI := hid hhi
      have HZ := hid hz
      have HX := hid hx
      have HB := hid ha
      clear hlo hhi hz hx hn hg
      go_wp2
      try simp only [hh]
      refine wp_region_later mixed (by kernel_rfl) ?_
      repeat (first
        | ((with_reducible refine wpQuiet_skip (by with_unfolding_all rfl) ?_); simp only [Act.put, List.setIfInBounds_toArray, List.set_cons_zero, List.set_cons_succ])
        | ((with_reducible refine wpQuiet_load_if (by with_unfolding_all rfl) 24 _ rfl _ _ rfl (x.map u8v) _ fx hu (by with_unfolding_all rfl) hzx ?_); simp only [Act.put, List.setIfInBounds_toArray, List.set_cons_zero, List.set_cons_succ])
        | ((with_reducible refine wpQuiet_load_if (by with_unfolding_all rfl) 24 _ rfl _ _ rfl (a.map u8v) _ fa hu (by with_unfolding_all rfl) hza ?_); simp only [Act.put, List.setIfInBounds_toArray, List.set_cons_zero, List.set_cons_succ])
        | ((with_reducible refine wpQuiet_step (fun K hK => ?_)); go_simp; first | ((with_reducible refine hK _ ?_); clear hK K) | (with_reducible apply Exists.intro; (with_reducible refine ⟨fun _ => ?_, hK _ ?_⟩); ((first | (go_at_call 91; exact later_of (hord _)))); clear hK K)))
      with_reducible refine wpQuiet_nil ?_
      intro _ hw'
      obtain ⟨pw, rfl⟩ := hw'
      have hp := pw.h
      generalize pw.w = wq at *
      replace hb := hb.trans (hp.mono hb.size)
      by_cases zz : z < 0
      · go_wp2
        go_roundw
        case rel => exact ⟨h + 1, q, by go_num, by first | rfl | trivial, by omega, hq, cut_lo hri HX.out (by unfold Lt; rw [HZ.out]; exact zz), HHI.out, hb⟩
        case measure => simp [intOf]; omega
      · go_wp2
        go_roundw
        case rel => exact ⟨p, h, by first | rfl | trivial, by first | rfl | trivial, h1, by omega, HLO.out, cut_hi hri HX.out (by unfold Lt; rw [HZ.out]; exact zz), hb⟩
        case measure => simp [intOf]; omega
    · obtain rfl : p = q := by omega
      have b1 : ¬ (p : Int) < p := by omega
      by_cases hlt2 : p < n
      · have b2 : (p : Int) < n := by omega
        obtain ⟨x, hx⟩ : ∃ x, l[p]? = some x := ⟨_, List.getElem?_eq_getElem (by omega)⟩
        obtain ⟨g, o, hg, lx, hix⟩ := hr.pick c hn hx
        have hzx : (Try.prog.info? 24).map (·.size) = some (x.map u8v).length := by rw [List.length_map, lx]; exact sizeId
        have fx := range_later ((hg.below hX).below hb)
        have fa := range_later (hbx.below hb)
        obtain ⟨z, hz⟩ : ∃ z, Lib.compareBytes x a = z := ⟨_, rfl⟩
        have hord : ∀ W : World, Calls Try.prog 91 #[.agg (List.map u8v x).toArray, .agg (List.map u8v a).toArray] W fun e w' => e = .returned (.int .i64 z) ∧ Below W.heap.size W w' := fun W => by rw [← hz]; exact order_later x a lx ha W
        have HC : Hid (Cuts l a p) := hid ⟨by omega, hlo, hhi⟩
        have HZ := hid hz
        have HX := hid hx
        clear hlo hhi hz hx hn hg
        go_wp2
        refine wp_region_later mixed (by kernel_rfl) ?_
        repeat (first
          | ((with_reducible refine wpQuiet_skip (by with_unfolding_all rfl) ?_); simp only [Act.put, List.setIfInBounds_toArray, List.set_cons_zero, List.set_cons_succ])
          | ((with_reducible refine wpQuiet_load_if (by with_unfolding_all rfl) 24 _ rfl _ _ rfl (x.map u8v) _ fx hu (by with_unfolding_all rfl) hzx ?_); simp only [Act.put, List.setIfInBounds_toArray, List.set_cons_zero, List.set_cons_succ])
          | ((with_reducible refine wpQuiet_load_if (by with_unfolding_all rfl) 24 _ rfl _ _ rfl (a.map u8v) _ fa hu (by with_unfolding_all rfl) hza ?_); simp only [Act.put, List.setIfInBounds_toArray, List.set_cons_zero, List.set_cons_succ])
          | ((with_reducible refine wpQuiet_step (fun K hK => ?_)); go_simp; first | ((with_reducible refine hK _ ?_); clear hK K) | (with_reducible apply Exists.intro; (with_reducible refine ⟨fun _ => ?_, hK _ ?_⟩); ((first | (go_at_call 91; exact later_of (hord _)))); clear hK K)))
        with_reducible refine wpQuiet_nil ?_
        intro _ hw'
        obtain ⟨pw, rfl⟩ := hw'
        have hp := pw.h
        generalize pw.w = wq at *
        replace hb := hb.trans (hp.mono hb.size)
        go_wp2
        go_ret2
        have h9 : a ∈ l ↔ z = 0 := by rw [← HZ.out]; exact cut_mem hri HC.out HX.out
        have hdec : decide (a ∈ l) = (z == 0) := by rw [Bool.eq_iff_iff]; simp [h9]
        exact ⟨p, by rw [hdec]; rfl, HC.out, hX.trans (hb.mono hX.size)⟩
      · obtain rfl : p = n := by omega
        have HC : Hid (Cuts l a p) := hid ⟨by omega, hlo, hhi⟩
        have HN := hid hn
        have b2 : ¬ (p : Int) < p := by omega
        clear hlo hhi hn
        go_wp2
        refine wp_region_later mixed (by kernel_rfl) ?_
        repeat (first
          | ((with_reducible refine wpQuiet_skip (by with_unfolding_all rfl) ?_); simp only [Act.put, List.setIfInBounds_toArray, List.set_cons_zero, List.set_cons_succ])
          | ((with_reducible refine wpQuiet_step (fun K hK => ?_)); go_simp; ((with_reducible refine hK _ ?_); clear hK K)))
        with_reducible refine wpQuiet_nil ?_
        intro _ hw'
        obtain ⟨pw, rfl⟩ := hw'
        have hp := pw.h
        generalize pw.w = wq at *
        replace hb := hb.trans (hp.mono hb.size)
        go_wp2
        go_ret2
        have hdec : decide (a ∈ l) = false := decide_eq_false (cut_end (by rw [HN.out]; exact HC.out))
        exact ⟨p, by rw [hdec]; rfl, HC.out, hX.trans (hb.mono hX.size)⟩
set_option maxRecDepth 100000 in
set_option maxHeartbeats 4000000 in
theorem id_has (A : Option Addr) (n c : Nat) (l : List (List UInt8)) (a : List UInt8) (ha : a.length = 32) (hri : Rising l) (w : World) (hA : RowR w A n l) :
    Calls Try.prog 47 #[.slice A n c, .agg (idVals a)] w fun e w' => e = .returned (.bool (decide (a ∈ l))) ∧ Below w.heap.size w w' := by
  have hu := Try.underlying24
  have hX : Below w.heap.size w (w.alloc (.cells (idVals a) 24)) := (Below.refl _ w).alloc (Nat.le_refl _) _
  have hbx : (w.alloc (.cells (idVals a) 24)).rangeAt w.heap.size 0 (a.map u8v) := range_blk (Blk.new w 24 (idVals a))
  have hza : (Try.prog.info? 24).map (·.size) = some (a.map u8v).length := by rw [List.length_map, ha]; exact sizeId
  have cS : ∀ W, Below w.heap.size w W → Calls Try.prog 92 #[.slice A n c, .agg (List.map u8v a).toArray, .func (.func 91) #[] #[]] W fun e w' => ∃ p : Nat, e = .returned (.tuple #[.int .i64 p, .bool (decide (a ∈ l))]) ∧ Cuts l a p ∧ Below W.heap.size W w' := fun W hW => bsearch_any A n c l a ha hri W (hA.below hW)
  clear hA ha hri
  generalize decide (a ∈ l) = D at *
  go_enter Try.func47, Try.ntmps47
  go_wp2_with (first
    | (with_reducible refine wpList_load_if (by with_unfolding_all rfl) 24 _ rfl _ _ rfl (a.map u8v) _ hbx hu (by with_unfolding_all rfl) hza ?_)
    | (go_at_call 92; (with_reducible refine (cS _ hX).mono ?_); rintro o1 w1 ⟨p, rfl, hC, hb⟩))
  go_ret
  exact ⟨rfl, hX.trans (hb.mono hX.size)⟩
set_option maxRecDepth 100000 in
set_option maxHeartbeats 4000000 in
theorem id_place (A : Option Addr) (n c : Nat) (l : List (List UInt8)) (a : List UInt8) (ha : a.length = 32) (hri : Rising l) (w : World) (hA : RowR w A n l) :
    Calls Try.prog 46 #[.slice A n c, .agg (idVals a)] w fun e w' => ∃ p : Nat, e = .returned (.int .i64 p) ∧ Cuts l a p ∧ Below w.heap.size w w' := by
  have hu := Try.underlying24
  have hX : Below w.heap.size w (w.alloc (.cells (idVals a) 24)) := (Below.refl _ w).alloc (Nat.le_refl _) _
  have hbx : (w.alloc (.cells (idVals a) 24)).rangeAt w.heap.size 0 (a.map u8v) := range_blk (Blk.new w 24 (idVals a))
  have hza : (Try.prog.info? 24).map (·.size) = some (a.map u8v).length := by rw [List.length_map, ha]; exact sizeId
  have cS : ∀ W, Below w.heap.size w W → Calls Try.prog 92 #[.slice A n c, .agg (List.map u8v a).toArray, .func (.func 91) #[] #[]] W fun e w' => ∃ p : Nat, e = .returned (.tuple #[.int .i64 p, .bool (decide (a ∈ l))]) ∧ Cuts l a p ∧ Below W.heap.size W w' := fun W hW => bsearch_any A n c l a ha hri W (hA.below hW)
  clear hA ha hri
  generalize decide (a ∈ l) = D at *
  go_enter Try.func46, Try.ntmps46
  go_wp2_with (first
    | (with_reducible refine wpList_load_if (by with_unfolding_all rfl) 24 _ rfl _ _ rfl (a.map u8v) _ hbx hu (by with_unfolding_all rfl) hza ?_)
    | (go_at_call 92; (with_reducible refine (cS _ hX).mono ?_); rintro o1 w1 ⟨p, rfl, hC, hb⟩))
  go_ret
  exact ⟨p, rfl, hC, hX.trans (hb.mono hX.size)⟩
end Go.Proofs.Ytkbokffonnjjiaa

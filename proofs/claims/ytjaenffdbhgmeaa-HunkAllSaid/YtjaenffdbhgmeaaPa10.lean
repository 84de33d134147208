
/- path: parts joined to a path, by the program and by the document. -/
import Derived.Test.YtjaenffdbhgmeaaPa9
import Derived.Shelf.Strings.OnBuilder
namespace Go.Proofs.Ytjaenffdbhgmeaa
open Go.RowKit Go.Qc Go.Shelf
attribute [local go_sem] txt_size txt_append ib_fold txt_toL

set_option maxHeartbeats 2000000 in
theorem sequal_any (A B : Option Addr) (n m c d : Nat) (ps qs : List (List UInt8)) (hn : ps.length = n) (hm : qs.length = m) (bn : n ≤ 9223372036854775807) (bm : m ≤ 9223372036854775807) (w : World) (hr : Rd w A (ps.map strV)) (hs : Rd w B (qs.map strV)) :
    Calls Try.prog 85 #[.slice A n c, .slice B m d] w fun e w' => e = .returned (.bool (decide (ps = qs))) ∧ Below w.heap.size w w' := by
  by_cases hnm : n = m
  · subst hnm
    go_enter Try.func85, Try.ntmps85
    go_wp2
    go_loopw [13] (fun i wr => ∃ k : Nat, k ≤ n ∧ i = .int .i64 k ∧ ps.take k = qs.take k ∧ Below w.heap.size w wr) (fun i _ => n - (intOf i).toNat)
    case atStart => exact ⟨0, by omega, rfl, rfl, Below.refl _ _⟩
    case round =>
      obtain ⟨k, hk, rfl, ht, hBr⟩ := hrel
      by_cases hlt : k < n
      · obtain ⟨p, hp⟩ : ∃ p, ps[k]? = some p := ⟨_, List.getElem?_eq_getElem (by omega)⟩
        obtain ⟨q, hq⟩ : ∃ q, qs[k]? = some q := ⟨_, List.getElem?_eq_getElem (by omega)⟩
        obtain ⟨ad, rfl, hcell⟩ := rd_in (hr.below hBr) k (strV p) (by rw [List.getElem?_map, hp]; rfl)
        obtain ⟨ad2, rfl, hcell2⟩ := rd_in (hs.below hBr) k (strV q) (by rw [List.getElem?_map, hq]; rfl)
        unfold strV at hcell hcell2
        have HP := hid hp
        have HQ := hid hq
        have HT2 := hid ht
        have b1 : (k : Int) < n := by omega
        clear hp hq ht
        by_cases hpq : p = q
        · subst hpq
          go_wp2
          go_quiet (fail)
          go_wp2
          go_roundw
          case rel => exact ⟨k + 1, hlt, by go_num, by rw [take_snoc HP.out, take_snoc HQ.out, HT2.out], below_drewN hBr _⟩
          case measure => simp [intOf]; omega
        · have hb2 : (p == q) = false := beq_eq_false_iff_ne.2 hpq
          go_wp2
          go_quiet (fail)
          go_wp2
          go_ret
          refine ⟨?_, below_drewN hBr _⟩
          have : ¬ ps = qs := by
            rintro rfl
            have := HP.out.symm.trans HQ.out
            exact hpq (Option.some.inj this)
          rw [decide_eq_false this]; rfl
      · obtain rfl : k = n := by omega
        rw [List.take_of_length_le (by omega), List.take_of_length_le (by omega)] at ht
        have HT := hid ht
        have b1 : ¬ (k : Int) < k := by omega
        clear ht
        go_wp2
        go_ret
        exact ⟨by rw [decide_eq_true HT.out]; rfl, hBr⟩
  · have h1 : ((n : Int) == m) = false := by rw [beq_eq_false_iff_ne]; omega
    have h2 : ¬ (n : Int) = m := by omega
    have hne : ¬ ps = qs := by rintro rfl; omega
    rw [decide_eq_false hne]
    clear hne
    go_enter Try.func85, Try.ntmps85
    go_wp2
    go_ret
    exact ⟨rfl, Below.refl _ _⟩

theorem rd_lit {w : World} {A : Option Addr} {xs : List Value} (h : Rd w A xs) (hne : xs ≠ []) : ∃ g o, A = some ⟨g, o, none⟩ ∧ g < w.heap.size ∧ ∀ j u, xs[j]? = some u → w.cell? ⟨g, o + j, none⟩ = some u := by
  rcases h with h | ⟨a, rfl, hc⟩
  · exact absurd h hne
  · obtain ⟨x, xs, rfl⟩ := List.exists_cons_of_ne_nil hne
    have hsp : a.spot = none := by
      have := hc 0 x rfl
      cases hs : a.spot with
      | none => rfl
      | some s => simp [Addr.add, World.cell?, hs] at this; split at this <;> simp_all
    obtain ⟨g, o, sp⟩ := a
    obtain rfl : sp = none := hsp
    have hlit : ∀ j, (⟨g, o, none⟩ : Addr).add j = ⟨g, o + j, none⟩ := fun j => by unfold Addr.add; split <;> simp_all
    refine ⟨g, o, rfl, World.block_lt_of_cell? w _ (hc 0 x rfl), fun j u hu => ?_⟩
    have := hc j u hu
    rwa [hlit] at this
/-! ### what joined parts part into -/
theorem split_join (x : List UInt8) (xs : List (List UInt8)) : splitS (joinS (x :: xs)) = (x :: xs).flatMap splitS := by
  induction xs generalizing x with
  | nil => rw [joinS_one]; simp
  | cons y ys ih =>
    have e : joinS (x :: y :: ys) = x ++ 47 :: joinS (y :: ys) := by
      unfold joinS
      rw [Lib.join_cons, Lib.join_cons]
      simp [Lib.joinTail]
    rw [e, splitS_mid, ih y, List.flatMap_cons]
    rfl
theorem flat_splits : ∀ (xs : List (List UInt8)), xs.length ≤ (xs.flatMap splitS).length ∧ ((xs.flatMap splitS).length = xs.length → xs.flatMap splitS = xs)
  | [] => by simp
  | x :: xs => by
    obtain ⟨h1, h2⟩ := flat_splits xs
    have hx : 1 ≤ (splitS x).length := by
      cases h : splitS x with
      | nil => exact absurd h (splitS_ne x)
      | cons y ys => simp
    rw [List.flatMap_cons, List.length_append, List.length_cons]
    refine ⟨by omega, fun h => ?_⟩
    have h3 := h2 (by omega)
    have h4 : (splitS x).length = 1 := by omega
    obtain ⟨y, hy⟩ := List.length_eq_one_iff.1 h4
    have h5 := joinS_split x
    rw [hy, joinS_one] at h5
    rw [h3, hy, h5]; rfl
/-- Parts that are a path's. -/
def joinR (ps : List (List UInt8)) : Bool := pathR (joinS ps) && decide (splitS (joinS ps) = ps)
theorem joinR_doc (ps : List (List UInt8)) : joinR ps = (decide (0 < ps.length) && (pathR (joinS ps) && decide ((splitS (joinS ps)).length = ps.length))) := by
  unfold joinR
  cases ps with
  | nil => rw [joinS_nil, pathR_nil]; rfl
  | cons x xs =>
    have h : decide (splitS (joinS (x :: xs)) = x :: xs) = decide ((splitS (joinS (x :: xs))).length = (x :: xs).length) := by
      rw [decide_eq_decide]
      refine ⟨fun h => congrArg List.length h, fun h => ?_⟩
      rw [split_join] at h ⊢
      exact (flat_splits _).2 h
    rw [h, decide_eq_true (show 0 < (x :: xs).length by simp), Bool.true_and]
end Go.Proofs.Ytjaenffdbhgmeaa

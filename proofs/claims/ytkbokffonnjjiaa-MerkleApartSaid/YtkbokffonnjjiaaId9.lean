
/- Rows of ids: the document's Put, Sort, Only; id.Same. -/
import Derived.Test.YtkbokffonnjjiaaId8
namespace Go.Proofs.Ytkbokffonnjjiaa
open Go.RowKit Go.Qc
attribute [local go_sem] txt_size

set_option maxRecDepth 100000 in
set_option maxHeartbeats 20000000 in
theorem equal_any (A B : Option Addr) (n c m d : Nat) (l r : List (List UInt8)) (w : World) (hA : RowR w A n l) (hB : RowR w B m r) :
    Calls Try.prog 102 #[.slice A n c, .slice B m d] w fun e w' => e = .returned (.bool (decide (l = r))) ∧ Below w.heap.size w w' := by
  obtain ⟨hn, bn, hr⟩ := hA
  obtain ⟨hm, bm, hs⟩ := hB
  have hu := Try.underlying24
  have mixed : Try.prog.follows .mixedOrders = true := by kernel_rfl
  by_cases hnm : n = m
  · subst hnm
    have z1 : ((n : Int) != n) = false := by simp
    go_enter Try.func102, Try.ntmps102
    go_wp2
    go_loopw [13] (fun i wr => ∃ k : Nat, k ≤ n ∧ i = .int .i64 k ∧ l.take k = r.take k ∧ Below w.heap.size w wr) (fun i _ => n - (intOf i).toNat)
    case atStart => exact ⟨0, by omega, rfl, by simp, Below.refl _ _⟩
    case round =>
      obtain ⟨k, hk, rfl, hpre, hb⟩ := hrel
      by_cases hlt : k < n
      · obtain ⟨x, hx⟩ : ∃ x, l[k]? = some x := ⟨_, List.getElem?_eq_getElem (by omega)⟩
        obtain ⟨y, hy⟩ : ∃ y, r[k]? = some y := ⟨_, List.getElem?_eq_getElem (by omega)⟩
        obtain ⟨g, q, hg, lx, hix⟩ := hr.pick c hn hx
        obtain ⟨g2, q2, hg2, ly, hiy⟩ := hs.pick d hm hy
        have b1 : (k : Int) < n := by omega
        have fx := range_later (hg.below hb)
        have fy := range_later (hg2.below hb)
        have hzx : (Try.prog.info? 24).map (·.size) = some (x.map u8v).length := by rw [List.length_map, lx]; exact sizeId
        have hzy : (Try.prog.info? 24).map (·.size) = some (y.map u8v).length := by rw [List.length_map, ly]; exact sizeId
        obtain ⟨t, ht⟩ : ∃ t, decide (x = y) = t := ⟨_, rfl⟩
        have heq : ∀ W, (Op.equalIn 10000 24 (.agg (List.map u8v x).toArray) (.agg (List.map u8v y).toArray)).run Try.prog W = .ok t W := fun W => (ids_eq W x y lx ly).trans (by rw [ht])
        have HN := hid hn
        have HM := hid hm
        have HT := hid ht
        have HX := hid hx
        have HY := hid hy
        have HP := hid hpre
        clear hn hm ht hx hy hpre lx ly hg hg2
        go_wp2
        refine wp_region_later mixed (by kernel_rfl) ?_
        repeat (first
          | ((with_reducible refine wpQuiet_skip (by with_unfolding_all rfl) ?_); simp only [Act.put, List.setIfInBounds_toArray, List.set_cons_zero, List.set_cons_succ])
          | ((with_reducible refine wpQuiet_load_if (by with_unfolding_all rfl) 24 _ rfl _ _ rfl (x.map u8v) _ fx hu (by with_unfolding_all rfl) hzx ?_); simp only [Act.put, List.setIfInBounds_toArray, List.set_cons_zero, List.set_cons_succ])
          | ((with_reducible refine wpQuiet_load_if (by with_unfolding_all rfl) 24 _ rfl _ _ rfl (y.map u8v) _ fy hu (by with_unfolding_all rfl) hzy ?_); simp only [Act.put, List.setIfInBounds_toArray, List.set_cons_zero, List.set_cons_succ])
          | ((with_reducible refine wpQuiet_step (fun K hK => ?_)); go_simp; first | ((with_reducible refine hK _ ?_); clear hK K) | (with_reducible apply Exists.intro; (with_reducible refine ⟨fun _ => ?_, hK _ ?_⟩); ((fail)); clear hK K)))
        with_reducible refine wpQuiet_nil ?_
        intro _ hw'
        obtain ⟨p, rfl⟩ := hw'
        have hp := p.h
        generalize p.w = wq at *
        replace hb := hb.trans (hp.mono hb.size)
        cases t with
        | false =>
          go_wp2
          go_ret
          exact ⟨congrArg (fun b => Ending.returned (Value.bool b)) (ne_of_at HX.out HY.out HT.out).symm, hb⟩
        | true =>
          go_wp2
          go_roundw
          case rel => exact ⟨k + 1, by omega, by go_num, take_snoc_eq HP.out HX.out HY.out HT.out, hb⟩
          case measure => simp [intOf]; omega
      · obtain rfl : k = n := by omega
        rw [List.take_of_length_le (by omega), List.take_of_length_le (by omega)] at hpre
        have HP := hid hpre
        have b1 : ¬ (k : Int) < k := by omega
        clear hpre
        go_wp2
        go_ret
        exact ⟨congrArg (fun b => Ending.returned (Value.bool b)) (decide_eq_true HP.out).symm, hb⟩
  · have z1 : ((n : Int) != m) = true := by simp only [bne_iff_ne, ne_eq]; omega
    have HNE := hid (show decide (l = r) = false from decide_eq_false fun e => hnm (by rw [← hn, ← hm, e]))
    clear hnm
    go_enter Try.func102, Try.ntmps102
    go_wp2
    go_ret
    exact ⟨congrArg (fun b => Ending.returned (Value.bool b)) HNE.out.symm, Below.refl _ _⟩
theorem isame_any (A B : Option Addr) (n c m d : Nat) (l r : List (List UInt8)) (w : World) (hA : RowR w A n l) (hB : RowR w B m r) :
    Calls Try.prog 63 #[.slice A n c, .slice B m d] w fun e w' => e = .returned (.bool (decide (l = r))) ∧ Below w.heap.size w w' := by
  have h := equal_any A B n c m d l r w hA hB
  generalize decide (l = r) = t at *
  go_enter Try.func63, Try.ntmps63
  go_wp2_with (first | (go_at_call 102; (with_reducible refine h.mono ?_); rintro e1 w1 ⟨rfl, hb⟩))
  go_ret
  exact ⟨rfl, hb⟩
theorem RowAt.below {w w' : World} {A : Option Addr} {n c : Nat} {l : List (List UInt8)} (h : RowAt w A n c l) (hb : Below w.heap.size w w') : RowAt w' A n c l := ⟨h.1, h.2.1, h.2.2.1, h.2.2.2.1, h.2.2.2.2.below hb⟩
theorem RowAt.own {w : World} {base n : Nat} {e : TypeId} {v : Value} {ids : List (List UInt8)} (h : w.ownsRow base e 32 v n (idsV ids)) (h32 : ∀ a ∈ ids, a.length = 32) (hm : n ≤ 1000000) : ∃ A c, v = .slice A n c ∧ RowAt w A n c ids := by
  obtain ⟨A, c, hv, hl, hr⟩ := IdRd.own h h32
  rcases h.2 with ⟨h1, h2⟩ | ⟨g, cap, cur, h1, _, _, h3, h4, _⟩
  · rw [hv] at h1
    injection h1 with _ h5 h6
    exact ⟨A, c, hv, hl, by omega, by unfold maxLen; omega, hm, hr⟩
  · rw [hv] at h1
    injection h1 with _ h5 h6
    exact ⟨A, c, hv, hl, by omega, by omega, hm, hr⟩
end Go.Proofs.Ytkbokffonnjjiaa


/- Rows of ids: the document's Sort and Only. -/
import Derived.Test.YtapgiagpjplpdaaGreatIdL
namespace Go.Proofs.YtapgiagpjplpdaaGreat
open Go.RowKit Go.Qc
attribute [local go_sem] txt_size

set_option maxRecDepth 100000 in
set_option maxHeartbeats 20000000 in
theorem rsort_any (A : Option Addr) (n c : Nat) (l : List (List UInt8)) (w : World) (hA : RowR w A n l) (hN : n ≤ 900000) :
    Calls Tryz.prog 21 #[.slice A n c] w fun e w' => ∃ ad' n' c', e = .returned (.slice (some ad') n' c') ∧ RowAt w' (some ad') n' c' (sortL l) ∧ Below w.heap.size w w' := by
  obtain ⟨hn, bn, hr⟩ := hA
  have hu := Tryz.underlying23
  go_enter Tryz.func21, Tryz.ntmps21
  go_wp2
  go_loopw [3, 4] (fun v i wr => ∃ (k n' c' : Nat) (ad' : Addr), k ≤ n ∧ i = .int .i64 k ∧ v = .slice (some ad') n' c' ∧ RowAt wr (some ad') n' c' (sortL (l.take k)) ∧ Below w.heap.size w wr) (fun _ i _ => n - (intOf i).toNat)
  case atStart => exact ⟨0, 0, 0, _, by omega, rfl, rfl, ⟨rfl, Nat.le_refl _, by decide, by decide, IdRd.nil_ _ _⟩, (Below.refl _ _).alloc (Nat.le_refl _) _⟩
  case round =>
    obtain ⟨k, n1, c1, ad1, hk, rfl, rfl, hR, hb⟩ := hrel
    by_cases hlt : k < n
    · obtain ⟨x, hx⟩ : ∃ x, l[k]? = some x := ⟨_, List.getElem?_eq_getElem (by omega)⟩
      obtain ⟨g, q, hg, lx, hix⟩ := hr.pick c hn hx
      have b1 : (k : Int) < n := by omega
      have r1 := hg.below hb
      have hzx : (Tryz.prog.info? 23).map (·.size) = some (x.map u8v).length := by rw [List.length_map, lx]; exact sizeId
      have hl1 : n1 ≤ k := by
        have h1 := sortL_le (l.take k)
        rw [hR.1, List.length_take] at h1
        omega
      have cP : Calls Tryz.prog 40 #[.slice (some ad1) n1 c1, .agg (List.map u8v x).toArray] wr fun e w' => ∃ ad' n' c', e = .returned (.slice (some ad') n' c') ∧ RowAt w' (some ad') n' c' (sortL (l.take (k + 1))) ∧ Below wr.heap.size wr w' := by
        rw [sortL_snoc hx]
        exact rput_any ad1 n1 c1 _ x lx wr hR (by omega)
      have HN := hid hn
      clear hn hx hR hg
      go_wp2_with (first
        | (with_reducible refine wpList_load_if (by with_unfolding_all rfl) 23 _ rfl _ _ rfl (x.map u8v) _ r1 hu (by with_unfolding_all rfl) hzx ?_)
        | (go_at_call 40; (with_reducible refine cP.mono ?_); rintro e1 w1 ⟨ad2, n2, c2, rfl, hR2, hb2⟩))
      go_roundw
      case rel => exact ⟨k + 1, n2, c2, ad2, by omega, by go_num, rfl, hR2, hb.trans (hb2.mono hb.size)⟩
      case measure => simp [intOf]; omega
    · obtain rfl : k = n := by omega
      rw [List.take_of_length_le (by omega)] at hR
      have b1 : ¬ (k : Int) < k := by omega
      have HN := hid hn
      clear hn
      go_wp2
      go_ret
      exact ⟨ad1, n1, c1, rfl, hR, hb⟩
end Go.Proofs.YtapgiagpjplpdaaGreat


/- hunk: rows of texts put together; lines with a hunk. -/
import Derived.Test.YtjaenffdbhgmeaaHk2
import Derived.Laws.AppendOwnNone
set_option linter.unusedSimpArgs false
set_option linter.unusedVariables false
namespace Go.Proofs.Ytjaenffdbhgmeaa
open Go.RowKit Go.Qc Go.Shelf
attribute [local go_sem] txt_size txt_append ib_fold txt_toL

/-- A slice that reads as a row of texts. -/
def Sl (w : World) (v : Value) (r : List (List UInt8)) : Prop := ∃ A n c, v = .slice A n c ∧ r.length = n ∧ (A = none → c = 0) ∧ Rd w A (r.map strV)
theorem Sl.below {w w' : World} {v : Value} {r : List (List UInt8)} (h : Sl w v r) (hb : Below w.heap.size w w') : Sl w' v r := by
  obtain ⟨A, n, c, rfl, h1, h0, h2⟩ := h
  exact ⟨A, n, c, rfl, h1, h0, h2.below hb⟩
set_option maxRecDepth 100000 in
set_option maxHeartbeats 4000000 in
theorem concat_any (ad : Addr) (N cc : Nat) (ss : List (Value × List (List UInt8))) (hN : ss.length = N) (bN : N ≤ 1000) (hl : ∀ x ∈ ss, x.2.length ≤ 10000) (w : World)
    (hc : ∀ W, Below w.heap.size w W → ∀ j x, ss[j]? = some x → W.cell? (ad.add j) = some x.1 ∧ Sl W x.1 x.2) :
    Calls Try.prog 83 #[.slice (some ad) N cc] w fun e w' => ∃ v, e = .returned v ∧ w'.ownsRow w.heap.size 9 1 v (ss.flatMap (·.2)).length ((ss.flatMap (·.2)).map strV) ∧ Below w.heap.size w w' := by
  obtain ⟨j0, hj, hjz, hjs, hjb⟩ := info_parts infoString
  have hsum : ∀ k, ((ss.take k).flatMap (·.2)).length ≤ k * 10000 := fun k => by
    induction k with
    | zero => simp
    | succ k ih =>
      by_cases hk : k < ss.length
      · rw [List.take_succ_eq_append_getElem hk, List.flatMap_append, List.length_append]
        have h1 := hl ss[k] (List.getElem_mem hk)
        have h2 : (([ss[k]] : List (Value × List (List UInt8))).flatMap (·.2)).length = ss[k].2.length := by simp
        rw [h2]
        omega
      · rw [List.take_of_length_le (by omega)] at ih ⊢
        omega
  have hB0 := Below.refl w.heap.size w
  obtain ⟨R, hR⟩ : ∃ R, R = ss.flatMap (·.2) := ⟨_, rfl⟩
  rw [← hR]
  have HR := hid hR
  clear hR
  have HC := hid hc
  have HSUM := hid hsum
  have HLL := hid hl
  clear hc hsum hl
  go_enter Try.func83, Try.ntmps83
  go_wp2
  go_loopw [3, 11] (fun z i wr => ∃ (k T : Nat), k ≤ N ∧ i = .int .i64 k ∧ z = .int .i64 T ∧ T = ((ss.take k).flatMap (·.2)).length ∧ w = wr) (fun _ i _ => N - (intOf i).toNat)
  case atStart => exact ⟨0, 0, by omega, rfl, rfl, by simp, by first | rfl | trivial⟩
  case round =>
    obtain ⟨k, T, hk, rfl, rfl, hT, rfl⟩ := hrel
    have hTb : T ≤ 10000000 := by have := HSUM.out k; omega
    have HT := hid hT
    clear hT
    by_cases hlt : k < N
    · obtain ⟨x, hx⟩ : ∃ x, ss[k]? = some x := ⟨_, List.getElem?_eq_getElem (by omega)⟩
      obtain ⟨hcell, A, n, c, hv, hn, _, _⟩ := HC.out w hB0 k x hx
      have hxl := HLL.out x (List.mem_of_getElem? hx)
      rw [hv] at hcell
      have HX := hid hx
      have b1 : (k : Int) < N := by omega
      have b2 : ¬ ((T : Int) + n) < 0 := by omega
      have hw : wrap64 ((T : Int) + n) = (T : Int) + n := by unfold wrap64; omega
      clear hx
      go_wp2
      go_roundw
      case rel =>
        refine ⟨k + 1, T + n, hlt, by go_num, by go_num, ?_, by first | rfl | trivial⟩
        rw [take_snoc HX.out, List.flatMap_append, List.length_append, HT.out, ← hn]
        simp
      case measure => simp [intOf]; omega
    · obtain rfl : N = k := by omega
      have b1 : ¬ (N : Int) < N := by omega
      clear HT
      go_wp2_with (go_at_call 113; (with_reducible refine (grow_any T (by omega) _).mono ?_); rintro e1 w1 ⟨v, rfl, hown, hB⟩)
      go_loopw [6, 27] (fun v i wr => ∃ (k : Nat), k ≤ N ∧ i = .int .i64 k ∧ wr.ownsRow w.heap.size 9 1 v ((ss.take k).flatMap (·.2)).length (((ss.take k).flatMap (·.2)).map strV) ∧ Below w.heap.size w wr) (fun _ i _ => N - (intOf i).toNat)
      case atStart => exact ⟨0, by omega, rfl, by simpa using hown, hB⟩
      case round =>
        clear hown hB
        obtain ⟨k, hk, rfl, hown, hB⟩ := hrel
        have hwz := hB.size
        have hlen := HSUM.out k
        obtain ⟨Q, hQ⟩ : ∃ Q, Q = (ss.take k).flatMap (·.2) := ⟨_, rfl⟩
        rw [← hQ] at hown hlen
        have HQ := hid hQ
        clear hQ
        by_cases hlt : k < N
        · obtain ⟨x, hx⟩ : ∃ x, ss[k]? = some x := ⟨_, List.getElem?_eq_getElem (by omega)⟩
          obtain ⟨hcell, A, n, c, hv, hn, hz, hrd⟩ := HC.out wr hB k x hx
          have hxl := HLL.out x (List.mem_of_getElem? hx)
          rw [hv] at hcell
          have HX := hid hx
          have b1 : (k : Int) < N := by omega
          clear hx
          have hstep : (ss.take (k + 1)).flatMap (·.2) = Q ++ x.2 := by
            rw [take_snoc HX.out, List.flatMap_append, HQ.out]; simp
          have HS := hid hstep
          clear hstep
          cases A with
          | none =>
            obtain rfl : c = 0 := hz rfl
            have hx2 : x.2 = [] := by
              rcases hrd with h | ⟨_, h, _⟩
              · simpa using h
              · cases h
            obtain rfl : n = 0 := by rw [← hn, hx2]; rfl
            have HX2 := hid hx2
            clear hx2 hrd hz
            go_wp2_with (at_builtin; refine wpList_append_own_none rfl _ _ 37 rfl w.heap.size 9 j0 1 Try.underlying37 hj _ _ _ rfl hown rfl ?_)
            go_roundw
            case rel => exact ⟨k + 1, hlt, by go_num, by rw [HS.out, HX2.out, List.append_nil]; exact hown, hB⟩
            case measure => simp [intOf]; omega
          | some ad2 =>
            have hcells : ∀ j u, (x.2.map strV)[j]? = some u → wr.cell? (ad2.add j) = some u := by
              rcases hrd with h | ⟨ad3, h3, h4⟩
              · intro j u hu; rw [h] at hu; simp at hu
              · cases h3; exact h4
            have HL := hid hlen
            clear hlen hz hrd
            go_wp2_with (at_builtin; refine wpList_append_own _ rfl _ _ 37 rfl w.heap.size 9 j0 (.string ⟨#[]⟩) 1 16 Try.underlying37 hj hjz hjs hjb rfl (by decide) _ _ _ rfl hown ad2 n c (x.2.map strV) rfl ?l1 hcells ?l2 ?l3 ?l4 hwz ?_)
            case l1 => rw [List.length_map]; omega
            case l2 =>
              intro u hu
              first | rfl | (obtain ⟨y, _, rfl⟩ := List.mem_map.1 hu; rfl)
            case l3 => have := HL.out; unfold maxLen; omega
            case l4 => have := HL.out; omega
            intro v8 w8 hown8 hg8 _
            have hB8 : Below w.heap.size w w8 := hB.grown hg8 hwz (fun q hq => (hown.lt q hq).1)
            go_wp2
            go_roundw
            case rel =>
              refine ⟨k + 1, hlt, by go_num, ?_, hB8⟩
              rw [HS.out, List.length_append, List.map_append, hn]
              exact hown8
            case measure => simp [intOf]; omega
        · obtain rfl : k = N := by omega
          have b1 : ¬ (k : Int) < k := by omega
          have hQR : Q = R := by rw [HQ.out, HR.out, List.take_of_length_le (by omega)]
          subst hQR
          clear hlen
          go_wp2
          go_ret
          exact ⟨_, rfl, hown, hB⟩
end Go.Proofs.Ytjaenffdbhgmeaa

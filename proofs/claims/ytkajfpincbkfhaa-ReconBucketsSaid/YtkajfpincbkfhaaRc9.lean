
/- recon: In of the program; what is out of range; small powers of 2. -/
import Derived.Test.YtkajfpincbkfhaaRcB
set_option linter.unusedSimpArgs false
set_option linter.unusedVariables false
namespace Go.Proofs.Ytkajfpincbkfhaa
open Go.RowKit Go.Qc Go.Shelf
attribute [local go_sem] txt_size txt_append ib_fold
set_option maxRecDepth 100000 in
set_option maxHeartbeats 8000000 in
theorem buckets_no (A : Option Addr) (n c : Nat) (v : Int) (hv : ¬ (0 ≤ v ∧ v ≤ 8)) (w : World) :
    Calls Try.prog 36 #[.slice A n c, .int .i64 v] w fun e w' => e = .returned (.tuple #[.slice none 0 0, .int .i64 5]) ∧ w = w' := by
  have cM : ∀ W, Calls Try.prog 85 #[.int .i64 v] W fun e w' => e = .returned (.bool false) ∧ W = w' := fun W => by
    have := maybe_any v W
    rw [decide_eq_false hv] at this
    exact this
  clear hv
  go_enter Try.func36, Try.ntmps36
  go_wp2_with (go_at_call 85; (with_reducible refine (cM _).mono ?_); rintro e2 w2 ⟨rfl, rfl⟩)
  go_ret2
  exact ⟨rfl, rfl⟩
set_option maxRecDepth 100000 in
set_option maxHeartbeats 8000000 in
theorem rcin_no (A : Option Addr) (n c : Nat) (v t : Int) (hv : ¬ (0 ≤ v ∧ v ≤ 8)) (w : World) :
    Calls Try.prog 37 #[.slice A n c, .int .i64 v, .int .i64 t] w fun e w' => e = .returned (.slice none 0 0) ∧ w = w' := by
  have cM : ∀ W, Calls Try.prog 85 #[.int .i64 v] W fun e w' => e = .returned (.bool false) ∧ W = w' := fun W => by
    have := maybe_any v W
    rw [decide_eq_false hv] at this
    exact this
  clear hv
  go_enter Try.func37, Try.ntmps37
  go_wp2_with (go_at_call 85; (with_reducible refine (cM _).mono ?_); rintro e2 w2 ⟨rfl, rfl⟩)
  go_ret
  exact ⟨rfl, rfl⟩
set_option maxRecDepth 100000 in
set_option maxHeartbeats 8000000 in
theorem rcin_any (A : Option Addr) (n c : Nat) (l : List (List UInt8)) (k : Nat) (hk : k ≤ 8) (t : Int) (w : World) (h : RowC w A n c l) :
    Calls Try.prog 37 #[.slice A n c, .int .i64 (k : Int), .int .i64 t] w fun e w' => ∃ v, e = .returned v ∧ IdOw w' w.heap.size v (inL l k t).length (inL l k t) ∧ Below w.heap.size w w' := by
  have hu := Try.underlying24
  have hn6 := h.1.2.1
  have cM : ∀ W, Calls Try.prog 85 #[.int .i64 (k : Int)] W fun e w' => e = .returned (.bool true) ∧ W = w' := fun W => by
    have := maybe_any (k : Int) W
    rw [decide_eq_true ⟨by omega, by omega⟩] at this
    exact this
  have H := hid h
  have HK := hid hk
  clear h hk
  go_enter Try.func37, Try.ntmps37
  go_wp2_with (go_at_call 85; (with_reducible refine (cM _).mono ?_); rintro e2 w2 ⟨rfl, rfl⟩)
  go_loopw [7, 15] (fun u v wr => ∃ (m : Nat) (u9 : Value), m ≤ n ∧ u9 = u ∧ v = .int .i64 (m : Int) ∧ Hid (IdOw wr w.heap.size u9 (inL (l.take m) k t).length (inL (l.take m) k t)) ∧ Hid (Below w.heap.size w wr)) (fun _ v _ => n - (intOf v).toNat)
  case atStart => exact ⟨0, _, Nat.zero_le _, rfl, rfl, hid ⟨rfl, .inl ⟨rfl, rfl⟩⟩, hid (Below.refl _ _)⟩
  case round =>
    clear cM
    obtain ⟨m, u9, hm, rfl, rfl, HO, HB⟩ := hrel
    by_cases hlt : m < n
    · have hln := H.out.1.1
      obtain ⟨x, hx⟩ : ∃ x, l[m]? = some x := ⟨_, List.getElem?_eq_getElem (by omega)⟩
      obtain ⟨gi, q, hgi, lx, hix⟩ := H.out.1.2.2.pick (k := m) (a := x) c hln hx
      have hzx : (Try.prog.info? 24).map (·.size) = some (x.map u8v).length := by rw [List.length_map, lx]; exact sizeId
      have fg := hgi.below HB.out
      have z2 : (m : Int) < (n : Int) := by omega
      have q9 := pv_q1 (p := m) (by omega)
      have HLT := hid hlt
      have HX := hid hx
      have HL := hid (inL_len l m k t)
      have cB : ∀ W, Calls Try.prog 86 #[.agg (List.map u8v x).toArray, .int .i64 (k : Int)] W fun e w' => e = .returned (.int .i64 ((bktN x k : Nat) : Int)) ∧ Below W.heap.size W w' := fun W => bucket_any x lx k HK.out W
      clear hlt hm hx hgi hln
      go_upto_region 7 with (first
        | (with_reducible refine wpList_load_if (by with_unfolding_all rfl) 24 _ rfl _ _ rfl (x.map u8v) _ fg hu rfl hzx ?_)
        | ((with_reducible refine wpList_store_newid rfl _ _ rfl x lx rfl rfl (by with_unfolding_all rfl) ?_); intro w3 hx3 hb3))
      have HO3 : Hid (IdOw w3 w.heap.size u9 (inL (l.take m) k t).length (inL (l.take m) k t)) := hid (own_below HO.out hb3)
      have HB3 : Hid (Below w.heap.size w w3) := hid (HB.out.trans (hb3.mono HB.out.size))
      clear HO HB hb3 fg
      by_cases e : ((bktN x k : Nat) : Int) = t
      · have HS : Hid (inL (l.take (m + 1)) k t = inL (l.take m) k t ++ [x]) := hid (by rw [inL_step HX.out, if_pos e])
        have HE : Hid ((inL (l.take (m + 1)) k t).length = (inL (l.take m) k t).length + 1) := hid (by rw [HS.out, List.length_append]; rfl)
        have HLM : Hid ((inL (l.take m) k t).length + 1 ≤ 1000000) := hid (by have := HL.out; have := HLT.out; omega)
        generalize inL (l.take m) k t = M at *
        obtain ⟨ML, hML⟩ : ∃ L, M.length = L := ⟨_, rfl⟩
        rw [hML] at HO3 HE HLM
        rw [e] at cB
        clear hML e
        go_wp2_with (first
          | (with_reducible refine wpList_load_if (by with_unfolding_all rfl) 24 _ rfl _ _ rfl (x.map u8v) _ hx3 hu rfl hzx ?_)
          | (go_at_call 86; (with_reducible refine (cB _).mono ?_); rintro e4 w4 ⟨rfl, hb4⟩; replace hx3 := hx3.below hb4; replace HO3 : Hid (IdOw w4 w.heap.size u9 ML M) := hid (own_below HO3.out hb4); replace HB3 := hid (HB3.out.trans (hb4.mono HB3.out.size)))
          | ((with_reducible refine wpList_build1i rfl _ rfl x lx rfl ?_); intro cs hrow; have HAL := hid ((Below.refl w4.heap.size w4).alloc (Nat.le_refl _) (.cells cs 24)); have HO4 : Hid (IdOw (w4.alloc (.cells cs 24)) w.heap.size u9 ML M) := hid (own_below HO3.out HAL.out); have HRO := hid hrow; clear hrow)
          | (at_builtin; refine wpList_append_idw rfl _ _ rfl w.heap.size _ _ _ rfl HO4.out (some ⟨w4.heap.size, 0, none⟩) 1 1 [x] rfl rfl (fun h => by cases h) HRO.out HLM.out (Nat.le_trans HB3.out.size HAL.out.size) ?_; intro v8 w8 hown8 hg8; have HB8 := hid (IdOw.grown HO4.out hg8 (Nat.le_refl _) (HB3.out.trans (HAL.out.mono HB3.out.size)) (Nat.le_trans HB3.out.size HAL.out.size)); have HO8 := hid hown8; clear hown8 hg8))
        go_roundw
        case rel => exact ⟨m + 1, _, HLT.out, rfl, by go_num, by rw [HE.out, HS.out]; exact HO8, HB8⟩
        case measure => first | exact meas_k9 HLT.out | (rw [q9]; exact meas_k9 HLT.out)
      · have HS : Hid (inL (l.take (m + 1)) k t = inL (l.take m) k t) := hid (by rw [inL_step HX.out, if_neg e])
        go_wp2_with (first
          | (with_reducible refine wpList_load_if (by with_unfolding_all rfl) 24 _ rfl _ _ rfl (x.map u8v) _ hx3 hu rfl hzx ?_)
          | (go_at_call 86; (with_reducible refine (cB _).mono ?_); rintro e4 w4 ⟨rfl, hb4⟩))
        go_roundw
        case rel => exact ⟨m + 1, _, HLT.out, rfl, by go_num, by rw [HS.out]; exact hid (own_below HO3.out hb4), hid (HB3.out.trans (hb4.mono HB3.out.size))⟩
        case measure => first | exact meas_k9 HLT.out | (rw [q9]; exact meas_k9 HLT.out)
    · obtain rfl : m = n := by omega
      have z2 : ¬ (m : Int) < (m : Int) := by omega
      have HF : Hid (IdOw wr w.heap.size u9 (inL l k t).length (inL l k t)) := hid (by
        have := HO.out
        rw [← H.out.1.1, List.take_length] at this
        exact this)
      clear HO hlt hm
      go_wp2_with (fail)
      go_ret
      exact ⟨_, rfl, HF.out, HB.out⟩
theorem pow_step {i : Nat} (hi : i < 8) : wrap64 (2 * ((2 ^ i : Nat) : Int)) = ((2 ^ (i + 1) : Nat) : Int) ∧ wrap64 ((i : Int) + 1) = (i : Int) + 1 := by
  have h := two_8 (k := i) (by omega)
  have e : 2 ^ (i + 1) = 2 * 2 ^ i := by rw [Nat.pow_succ, Nat.mul_comm]
  rw [e]
  generalize 2 ^ i = q at *
  constructor <;> (unfold wrap64; omega)
set_option maxRecDepth 100000 in
set_option maxHeartbeats 8000000 in
theorem rpow_8 (k : Nat) (hk : k ≤ 8) (w : World) :
    Calls Try.prog 38 #[.int .i64 (k : Int)] w fun e w' => e = .returned (.int .i64 ((2 ^ k : Nat) : Int)) ∧ w = w' := by
  have HK := hid hk
  clear hk
  go_enter Try.func38, Try.ntmps38
  go_wp2_with (fail)
  go_loopw [3, 4] (fun u v wr => ∃ (i N : Nat), i ≤ k ∧ u = .int .i64 (N : Int) ∧ v = .int .i64 (i : Int) ∧ Hid (N = 2 ^ i) ∧ w = wr) (fun _ v _ => k - (intOf v).toNat)
  case atStart => exact ⟨0, 1, Nat.zero_le _, rfl, rfl, hid rfl, rfl⟩
  case round =>
    obtain ⟨i, N, hi, rfl, rfl, HN, rfl⟩ := hrel
    by_cases hlt : i < k
    · have hi8 : i < 8 := by have := HK.out; omega
      obtain ⟨q1, q2⟩ := pow_step hi8
      rw [← HN.out] at q1
      have z1 : (i : Int) < (k : Int) := Int.ofNat_lt.2 hlt
      have HLT := hid hlt
      obtain ⟨M, hM⟩ : ∃ M, 2 ^ (i + 1) = M := ⟨_, rfl⟩
      rw [hM] at q1
      have HM := hid hM
      clear hlt hi hi8 hM
      go_wp2_with (fail)
      go_roundw
      case rel => exact ⟨i + 1, M, HLT.out, by first | rw [q1] | rfl, by go_num, hid HM.out.symm, by first | rfl | trivial⟩
      case measure => first | exact bk_meas HLT.out | (rw [q2]; exact bk_meas HLT.out)
    · obtain rfl : i = k := by omega
      have z1 : ¬ (i : Int) < (i : Int) := by omega
      clear hlt hi
      go_wp2_with (fail)
      go_ret
      exact ⟨by rw [HN.out]; show Ending.returned (.int .i64 ((2 ^ i : Nat) : Int)) = _; first | rfl | simp, rfl⟩
theorem unL_split (T U : Nat → Int × Int) (k : Nat) : ∀ n, k ≤ n → ∃ R, unL T U n = unL T U k ++ R
  | 0, h => by
    obtain rfl : k = 0 := by omega
    exact ⟨[], by rw [List.append_nil]⟩
  | n + 1, h => by
    rcases Nat.lt_or_ge n k with e | e
    · obtain rfl : k = n + 1 := by omega
      exact ⟨[], by rw [List.append_nil]⟩
    · obtain ⟨R, hR⟩ := unL_split T U k n e
      rw [unL_step, hR]
      by_cases e2 : T n = U n
      · rw [if_pos e2]; exact ⟨R, rfl⟩
      · rw [if_neg e2, List.append_assoc]; exact ⟨_, rfl⟩
theorem unL_at {T U : Nat → Int × Int} {k n : Nat} (hk : k < n) (h : T k ≠ U k) : (unL T U n)[(unL T U k).length]? = some k := by
  obtain ⟨R, hR⟩ := unL_split T U (k + 1) n hk
  rw [hR, unL_step, if_neg h, List.append_assoc, List.getElem?_append_right (Nat.le_refl _), Nat.sub_self]
  rfl
theorem NtOw.pick {W : World} {base : Nat} {v : Value} {L : List Nat} {j i : Nat} (h : NtOw W base v L) (hj : L[j]? = some i) : ∃ g c, v = .slice (some ⟨g, 0, none⟩) L.length c ∧ W.cell? ⟨g, j, none⟩ = some (.int .i64 (i : Int)) := by
  have hlt := (List.getElem?_eq_some_iff.1 hj).1
  rcases h.2 with ⟨rfl, h0⟩ | ⟨g, c, cur, rfl, _, hg, h3, _, _, ht⟩
  · omega
  · refine ⟨g, c, rfl, ?_⟩
    have ht2 : cur.toList.take (L.length * 1) = ntV L := ht
    have h9 : (cur.toList.take (L.length * 1))[j]? = some (.int .i64 (i : Int)) := by
      rw [ht2]; unfold ntV; rw [List.getElem?_map, hj]; rfl
    rw [List.getElem?_take, if_pos (by omega), Array.getElem?_toList] at h9
    rw [cell_of_row W g j cur _ _ hg]
    exact h9
theorem slice3_cx (q N : Nat) (h : 1 ≤ N) (W : World) : (Instr.sliceAt 69 (.slice (some ⟨q, 0, none⟩) N N) none (some (.int .i64 ((N - 1 : Nat) : Int))) (some (.int .i64 ((N - 1 : Nat) : Int)))).run Try.prog W = .ok (.slice (some ⟨q, 0, none⟩) (N - 1) (N - 1)) W := by
  obtain ⟨i0, hi0, h1⟩ : ∃ i0, Try.prog.info? 54 = some i0 ∧ i0.size = 1 := by
    have h := infoCx
    cases hq : Try.prog.info? 54 with
    | none => rw [hq] at h; cases h
    | some i => rw [hq] at h; simp at h; exact ⟨i, rfl, h⟩
  generalize hM : N - 1 = M
  have h2 : (0 : Int) ≤ (M : Int) ∧ (M : Int) ≤ (N : Int) := by omega
  have h3 : (0 : Int) ≤ (M : Int) ∧ (M : Int) ≤ (M : Int) := by omega
  simp [Instr.sliceAt, Instr.slice, Instr.sliceBounds, run_underlying Try.underlying69, run_sliceBound, h2, h3, sizeOf, typeInfo, hi0, h1, Addr.add_lit, Int.toNat_natCast]
end Go.Proofs.Ytkajfpincbkfhaa


/- path: the document's parts of a text, its paths, what covers what; rows of texts that are the same. -/
import Derived.Test.YtlbmikjgpaeddaaPa6
namespace Go.Proofs.Ytlbmikjgpaeddaa
open Go.RowKit Go.Qc Go.Shelf
attribute [local go_sem] txt_size txt_append ib_fold txt_toL

theorem covers_any (p s : List UInt8) (w : World) :
    Calls Try.prog 13 #[.string (txt p), .string (txt s)] w fun e w' => e = .returned (.bool (covR p s)) ∧ Below w.heap.size w w' := by
  have := covers_gen p s (Lib.trimPrefix s p) (preR p) (pathR s) (Lib.hasPrefix s p) (Lib.hasPrefix (Lib.trimPrefix s p) [47]) (prefix_any p) (right_any s) (cutPrefix_any s p) (hasPrefix_any _) w
  rw [covB_of] at this
  exact this
theorem rd_in {w : World} {A : Option Addr} {xs : List Value} (h : Rd w A xs) (j : Nat) (u : Value) (hu : xs[j]? = some u) : ∃ ad, A = some ad ∧ w.cell? (ad.add j) = some u := by
  rcases h with rfl | ⟨ad, rfl, hc⟩
  · simp at hu
  · exact ⟨ad, rfl, hc j u hu⟩
theorem splitS_no : ∀ (m : List UInt8), (∀ x ∈ m, x ≠ 47) → splitS m = [m]
  | [], _ => rfl
  | b :: m, h => by
    rw [splitS, if_neg (h b (by simp)), splitS_no m (fun x hx => h x (by simp [hx]))]
theorem splitS_at : ∀ (m r : List UInt8), (∀ x ∈ m, x ≠ 47) → splitS (m ++ 47 :: r) = m :: splitS r
  | [], r, _ => by rw [List.nil_append, splitS, if_pos rfl]
  | b :: m, r, h => by
    rw [List.cons_append, splitS, if_neg (h b (by simp)), splitS_at m r (fun x hx => h x (by simp [hx]))]
/-- What stands between two places. -/
def cutL (l : List UInt8) (a b : Nat) : List UInt8 := (l.drop a).take (b - a)
theorem cutL_snoc (l : List UInt8) (a k : Nat) (x : UInt8) (ha : a ≤ k) (hx : l[k]? = some x) : cutL l a (k + 1) = cutL l a k ++ [x] := by
  unfold cutL
  rw [show k + 1 - a = (k - a) + 1 by omega]
  exact take_snoc (by rw [List.getElem?_drop, show a + (k - a) = k by omega]; exact hx)
theorem cutL_rest (l : List UInt8) (a k : Nat) (x : UInt8) (ha : a ≤ k) (hx : l[k]? = some x) : l.drop a = cutL l a k ++ x :: l.drop (k + 1) := by
  obtain ⟨hk, rfl⟩ := List.getElem?_eq_some_iff.1 hx
  have h : (l.drop a).drop (k - a) = l[k] :: l.drop (k + 1) := by
    rw [List.drop_drop, show a + (k - a) = k by omega, List.drop_eq_getElem_cons hk]
  unfold cutL
  rw [← h, List.take_append_drop]
theorem slice_mid (l : List UInt8) (a b : Nat) : (txt l).extract a b = txt (cutL l a b) := txt_extract l a b
set_option maxRecDepth 100000 in
set_option maxHeartbeats 4000000 in
theorem rsplit_any (l : List UInt8) (hl : l.length ≤ 1000000) (w : World) :
    Calls Try.prog 19 #[.string (txt l)] w fun e w' => ∃ v, e = .returned v ∧ w'.ownsRow w.heap.size 9 1 v (splitS l).length ((splitS l).map strV) ∧ Below w.heap.size w w' := by
  obtain ⟨j0, hj, hjz, hjs, hjb⟩ := info_parts infoString
  go_enter Try.func19, Try.ntmps19
  go_wp2
  have h0 : (w.alloc (.cells #[] 9)).ownsRow w.heap.size 9 1 (.slice (some ⟨w.heap.size, 0, none⟩) 0 0) 0 [] := World.ownsRow_made w #[] 0 (Nat.le_refl _) (by decide) rfl
  have hB0 : Below w.heap.size w (w.alloc (.cells #[] 9)) := (Below.refl _ w).alloc (Nat.le_refl _) _
  go_loopw [3, 4, 5] (fun v f i wr => ∃ (k a : Nat) (xs : List (List UInt8)), k ≤ l.length ∧ a ≤ k ∧ i = .int .i64 k ∧ f = .int .i64 a ∧ xs.length ≤ k ∧ splitS l = xs ++ splitS (l.drop a) ∧ (∀ x ∈ cutL l a k, x ≠ 47) ∧ wr.ownsRow w.heap.size 9 1 v xs.length (xs.map strV) ∧ Below w.heap.size w wr) (fun _ _ i _ => l.length - (intOf i).toNat)
  case atStart => exact ⟨0, 0, [], by omega, by omega, rfl, rfl, by simp, by simp, by simp [cutL], h0, hB0⟩
  case round =>
    obtain ⟨k, a, xs, hk, ha, rfl, rfl, hxl, hsp, hno, hown, hB⟩ := hrel
    have hwz := hB.size
    have HSP := hid hsp
    have HNO := hid hno
    have HXL := hid hxl
    clear hsp hno h0 hB0 hxl
    by_cases hlt : k < l.length
    · obtain ⟨x, hx⟩ : ∃ x, l[k]? = some x := ⟨_, List.getElem?_eq_getElem (by omega)⟩
      have f1 := run_index_str l k x hx k rfl
      have b1 : (k : Int) < l.length := by omega
      have HX := hid hx
      clear hx
      by_cases h47 : x = 47
      · subst h47
        have e47 : ib 47 = 47 := rfl
        have s1 : (txt l).extract a k = txt (cutL l a k) := slice_mid l a k
        have c1 : (0 : Int) ≤ a := by omega
        have c2 : (a : Int) ≤ k := by omega
        have c3 : (k : Int) ≤ l.length := by omega
        rw [e47] at f1
        have hlx := HXL.out
        go_wp2_with (at_builtin; refine wpList_append_new rfl _ _ 25 rfl w.heap.size 9 j0 (.string ⟨#[]⟩) 16 Try.underlying25 hj hjz hjs hjb rfl _ _ _ rfl hown 1 _ rfl rfl ?l1 ?l2 ?l3 hwz ?_)
        case l1 => simp [Value.oneCell']
        case l2 => unfold maxLen; omega
        case l3 => omega
        intro v8 w8 hown8 hb8
        go_wp2
        go_roundw
        case rel =>
          refine ⟨k + 1, k + 1, xs ++ [cutL l a k], hlt, by omega, by go_num, by go_num, by simp; omega, ?_, by simp [cutL], ?_, hB.trans (hb8.mono (Nat.le_refl _))⟩
          · rw [HSP.out, cutL_rest l a k 47 ha HX.out, splitS_at _ _ HNO.out, List.append_assoc]; rfl
          · rw [List.length_append, List.map_append]; exact hown8
        case measure => simp [intOf]; omega
      · have hne : ¬ ib x = 47 := by
          intro h
          apply h47
          have e47 : ib 47 = 47 := rfl
          rw [← e47, ib_inj] at h
          exact h
        go_wp2
        go_roundw
        case rel =>
          refine ⟨k + 1, a, xs, hlt, by omega, by go_num, rfl, by have := HXL.out; omega, HSP.out, ?_, hown, hB⟩
          rw [cutL_snoc l a k x ha HX.out]
          intro y hy
          rcases List.mem_append.1 hy with hy | hy
          · exact HNO.out y hy
          · obtain rfl : y = x := by simpa using hy
            exact h47
        case measure => simp [intOf]; omega
    · obtain rfl : k = l.length := by omega
      have b1 : ¬ (l.length : Int) < l.length := by omega
      have s1 : (txt l).extract a l.length = txt (l.drop a) := by have := slice_from l a; rwa [txt_size] at this
      have c1 : (0 : Int) ≤ a := by omega
      have c2 : (a : Int) ≤ l.length := by omega
      have hlx := HXL.out
      have hend : splitS (l.drop a) = [l.drop a] := splitS_no _ (fun x hx => HNO.out x (by unfold cutL; rw [List.take_of_length_le (by rw [List.length_drop]; omega)]; exact hx))
      have HE := hid hend
      clear hend
      go_wp2_with (at_builtin; refine wpList_append_new rfl _ _ 25 rfl w.heap.size 9 j0 (.string ⟨#[]⟩) 16 Try.underlying25 hj hjz hjs hjb rfl _ _ _ rfl hown 1 _ rfl rfl ?l1 ?l2 ?l3 hwz ?_)
      case l1 => simp [Value.oneCell']
      case l2 => unfold maxLen; omega
      case l3 => omega
      intro v8 w8 hown8 hb8
      go_wp2
      go_ret
      refine ⟨_, rfl, ?_, hB.trans (hb8.mono (Nat.le_refl _))⟩
      rw [HSP.out, HE.out, List.length_append, List.map_append]
      exact hown8
set_option maxHeartbeats 2000000 in
theorem same_any (A B : Option Addr) (n m c d : Nat) (ps qs : List (List UInt8)) (hn : ps.length = n) (hm : qs.length = m) (bn : n ≤ 9223372036854775807) (bm : m ≤ 9223372036854775807) (w : World) (hr : Rd w A (ps.map strV)) (hs : Rd w B (qs.map strV)) :
    Calls Try.prog 20 #[.slice A n c, .slice B m d] w fun e w' => e = .returned (.bool (decide (ps = qs))) ∧ Below w.heap.size w w' := by
  by_cases hnm : n = m
  · subst hnm
    go_enter Try.func20, Try.ntmps20
    go_wp2
    go_loopw [5] (fun i wr => ∃ k : Nat, k ≤ n ∧ i = .int .i64 k ∧ ps.take k = qs.take k ∧ Below w.heap.size w wr) (fun i _ => n - (intOf i).toNat)
    case atStart => exact ⟨0, by omega, rfl, rfl, Below.refl _ _⟩
    case round =>
      obtain ⟨k, hk, rfl, ht, hBr⟩ := hrel
      by_cases hlt : k < n
      · obtain ⟨p, hp⟩ : ∃ p, ps[k]? = some p := ⟨_, List.getElem?_eq_getElem (by omega)⟩
        obtain ⟨q, hq⟩ : ∃ q, qs[k]? = some q := ⟨_, List.getElem?_eq_getElem (by omega)⟩
        obtain ⟨ad, rfl, hcell⟩ := rd_in (hr.below hBr) k (strV p) (by rw [List.getElem?_map, hp]; rfl)
        obtain ⟨ad2, rfl, hcell2⟩ := rd_in (hs.below hBr) k (strV q) (by rw [List.getElem?_map, hq]; rfl)
        unfold strV at hcell hcell2
        have HP := hid hp
        have HQ := hid hq
        have HT2 := hid ht
        have b1 : (k : Int) < n := by omega
        clear hp hq ht
        by_cases hpq : p = q
        · subst hpq
          go_wp2
          go_quiet (fail)
          go_wp2
          go_roundw
          case rel => exact ⟨k + 1, hlt, by go_num, by rw [take_snoc HP.out, take_snoc HQ.out, HT2.out], below_drewN hBr _⟩
          case measure => simp [intOf]; omega
        · have hb2 : (p == q) = false := beq_eq_false_iff_ne.2 hpq
          go_wp2
          go_quiet (fail)
          go_wp2
          go_ret
          refine ⟨?_, below_drewN hBr _⟩
          have : ¬ ps = qs := by
            rintro rfl
            have := HP.out.symm.trans HQ.out
            exact hpq (Option.some.inj this)
          rw [decide_eq_false this]; rfl
      · obtain rfl : k = n := by omega
        rw [List.take_of_length_le (by omega), List.take_of_length_le (by omega)] at ht
        have HT := hid ht
        have b1 : ¬ (k : Int) < k := by omega
        clear ht
        go_wp2
        go_ret
        exact ⟨by rw [decide_eq_true HT.out]; rfl, hBr⟩
  · have h1 : ((n : Int) == m) = false := by rw [beq_eq_false_iff_ne]; omega
    have h2 : ¬ (n : Int) = m := by omega
    have hne : ¬ ps = qs := by rintro rfl; omega
    rw [decide_eq_false hne]
    clear hne
    go_enter Try.func20, Try.ntmps20
    go_wp2
    go_ret
    exact ⟨rfl, Below.refl _ _⟩
theorem rowRd {w : World} {base n : Nat} {v : Value} {xs : List Value} {e : TypeId} (h : w.ownsRow base e 1 v n xs) : xs.length = n ∧ ∃ A c, v = .slice A n c ∧ Rd w A xs := Rd.own h
theorem rright_any (s : List UInt8) (hs : s.length ≤ 1000000) (w : World) :
    Calls Try.prog 10 #[.string (txt s)] w fun e w' => e = .returned (.bool (pathR s)) ∧ Below w.heap.size w w' := by
  by_cases hl : s.length ≤ 200
  · have b0 : ¬ (200 : Int) < s.length := by omega
    have cS := rsplit_any s hs
    have hcnt := splitS_count s
    obtain ⟨L, hL⟩ : ∃ L, L = splitS s := ⟨_, rfl⟩
    have hlen : ∀ x ∈ L, x.length ≤ 1000000000000 := fun x hx => by have := splitS_len s x (by rw [← hL]; exact hx); omega
    have hR : pathR s = (decide (L.length ≤ 16) && L.all partS) := by unfold pathR; rw [decide_eq_true hl, ← hL]; rfl
    rw [← hL] at cS hcnt
    rw [hR]
    clear hR hL
    go_enter Try.func10, Try.ntmps10
    go_wp2_with (go_at_call 19; (with_reducible refine (cS _).mono ?_); rintro e1 w1 ⟨v, rfl, hown, hB1⟩; obtain ⟨hm, A, c, rfl, hrd⟩ := rowRd hown)
    go_loopw [4] (fun i wr => ∃ k : Nat, k ≤ L.length ∧ i = .int .i64 k ∧ (L.take k).all partS = true ∧ w1 = wr) (fun i _ => L.length - (intOf i).toNat)
    case atStart => exact ⟨0, by omega, rfl, by simp, by first | rfl | trivial⟩
    case round =>
      obtain ⟨k, hk, rfl, ht, rfl⟩ := hrel
      have HT := hid ht
      clear ht
      by_cases hlt : k < L.length
      · obtain ⟨x, hx⟩ : ∃ x, L[k]? = some x := ⟨_, List.getElem?_eq_getElem (by omega)⟩
        obtain ⟨ad, rfl, hcell⟩ := rd_in hrd k (strV x) (by rw [List.getElem?_map, hx]; rfl)
        unfold strV at hcell
        have b1 : (k : Int) < L.length := by omega
        have HX := hid hx
        have cP := rpart_any x (hlen x (List.mem_of_getElem? hx))
        clear hx
        cases hb : partS x with
        | true =>
          have HB := hid hb
          rw [hb] at cP
          clear hb
          go_wp2_with (go_at_call 42; (with_reducible refine (cP _).mono ?_); rintro e1 w1 ⟨rfl, rfl⟩)
          go_roundw
          case rel => exact ⟨k + 1, hlt, by go_num, by rw [take_snoc HX.out, List.all_append, HT.out]; simp [HB.out], by first | rfl | trivial⟩
          case measure => simp [intOf]; omega
        | false =>
          have HB := hid hb
          rw [hb] at cP
          clear hb
          go_wp2_with (go_at_call 42; (with_reducible refine (cP _).mono ?_); rintro e1 w1 ⟨rfl, rfl⟩)
          go_ret
          refine ⟨?_, hB1⟩
          have : L.all partS = false := by rw [List.all_eq_false]; exact ⟨x, List.mem_of_getElem? HX.out, by simp [HB.out]⟩
          rw [this, Bool.and_false]; rfl
      · obtain rfl : k = L.length := by omega
        have ht := HT.out
        rw [List.take_length] at ht
        have HU := hid ht
        have b1 : ¬ (L.length : Int) < L.length := by omega
        clear ht HT
        have e16 : decide ((L.length : Int) ≤ 16) = decide (L.length ≤ 16) := by rw [decide_eq_decide]; omega
        go_wp2
        go_ret
        refine ⟨?_, hB1⟩
        rw [HU.out, Bool.and_true, ← e16]; rfl
  · rw [pathR_long (by omega)]
    have b0 : (200 : Int) < s.length := by omega
    go_enter Try.func10, Try.ntmps10
    go_wp2
    go_ret
    exact ⟨rfl, Below.refl _ _⟩
end Go.Proofs.Ytlbmikjgpaeddaa

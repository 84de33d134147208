
/- path and hunk: covering, what stands beside, above, last; lines, hunks, applying -/
import Derived.Test.YtodfaakodgedbaaPaA
import Derived.Lib.Join
import Derived.Shelf.Strings.OnBuilder
import Derived.Shelf.Spec.SlicesGrow
import Derived.Laws.AppendOwnNone
set_option linter.unusedSimpArgs false
set_option linter.unusedVariables false
namespace Go.Proofs.Ytodfaakodgedbaa
open Go.RowKit Go.Qc Go.Shelf
attribute [local go_sem] txt_size txt_append ib_fold txt_toL

theorem covers_any (p s : List UInt8) (w : World) :
    Calls Try.prog 61 #[.string (txt p), .string (txt s)] w fun e w' => e = .returned (.bool (covR p s)) ∧ Below w.heap.size w w' := by
  have := covers_gen p s (Lib.trimPrefix s p) (preR p) (pathR s) (Lib.hasPrefix s p) (Lib.hasPrefix (Lib.trimPrefix s p) [47]) (prefix_any p) (path_any s) (cutPrefix_any s p) (hasPrefix_any _) w
  rw [covB_of] at this
  exact this
theorem splitS_no : ∀ (m : List UInt8), (∀ x ∈ m, x ≠ 47) → splitS m = [m]
  | [], _ => rfl
  | b :: m, h => by
    rw [splitS, if_neg (h b (by simp)), splitS_no m (fun x hx => h x (by simp [hx]))]
theorem splitS_at : ∀ (m r : List UInt8), (∀ x ∈ m, x ≠ 47) → splitS (m ++ 47 :: r) = m :: splitS r
  | [], r, _ => by rw [List.nil_append, splitS, if_pos rfl]
  | b :: m, r, h => by
    rw [List.cons_append, splitS, if_neg (h b (by simp)), splitS_at m r (fun x hx => h x (by simp [hx]))]
/-- What stands between two places. -/
def cutL (l : List UInt8) (a b : Nat) : List UInt8 := (l.drop a).take (b - a)
theorem cutL_snoc (l : List UInt8) (a k : Nat) (x : UInt8) (ha : a ≤ k) (hx : l[k]? = some x) : cutL l a (k + 1) = cutL l a k ++ [x] := by
  unfold cutL
  rw [show k + 1 - a = (k - a) + 1 by omega]
  exact take_snoc (by rw [List.getElem?_drop, show a + (k - a) = k by omega]; exact hx)
theorem cutL_rest (l : List UInt8) (a k : Nat) (x : UInt8) (ha : a ≤ k) (hx : l[k]? = some x) : l.drop a = cutL l a k ++ x :: l.drop (k + 1) := by
  obtain ⟨hk, rfl⟩ := List.getElem?_eq_some_iff.1 hx
  have h : (l.drop a).drop (k - a) = l[k] :: l.drop (k + 1) := by
    rw [List.drop_drop, show a + (k - a) = k by omega, List.drop_eq_getElem_cons hk]
  unfold cutL
  rw [← h, List.take_append_drop]
theorem slice_mid (l : List UInt8) (a b : Nat) : (txt l).extract a b = txt (cutL l a b) := txt_extract l a b
set_option maxRecDepth 100000 in
set_option maxHeartbeats 4000000 in
theorem rsplit_any (l : List UInt8) (hl : l.length ≤ 1000000) (w : World) :
    Calls Try.prog 64 #[.string (txt l)] w fun e w' => ∃ v, e = .returned v ∧ w'.ownsRow w.heap.size 9 1 v (splitS l).length ((splitS l).map strV) ∧ Below w.heap.size w w' := by
  obtain ⟨j0, hj, hjz, hjs, hjb⟩ := info_parts infoString
  go_enter Try.func64, Try.ntmps64
  go_wp2
  have h0 : (w.alloc (.cells #[] 9)).ownsRow w.heap.size 9 1 (.slice (some ⟨w.heap.size, 0, none⟩) 0 0) 0 [] := World.ownsRow_made w #[] 0 (Nat.le_refl _) (by decide) rfl
  have hB0 : Below w.heap.size w (w.alloc (.cells #[] 9)) := (Below.refl _ w).alloc (Nat.le_refl _) _
  go_loopw [3, 4, 5] (fun v f i wr => ∃ (k a : Nat) (xs : List (List UInt8)), k ≤ l.length ∧ a ≤ k ∧ i = .int .i64 k ∧ f = .int .i64 a ∧ xs.length ≤ k ∧ splitS l = xs ++ splitS (l.drop a) ∧ (∀ x ∈ cutL l a k, x ≠ 47) ∧ wr.ownsRow w.heap.size 9 1 v xs.length (xs.map strV) ∧ Below w.heap.size w wr) (fun _ _ i _ => l.length - (intOf i).toNat)
  case atStart => exact ⟨0, 0, [], by omega, by omega, rfl, rfl, by simp, by simp, by simp [cutL], h0, hB0⟩
  case round =>
    obtain ⟨k, a, xs, hk, ha, rfl, rfl, hxl, hsp, hno, hown, hB⟩ := hrel
    have hwz := hB.size
    have HSP := hid hsp
    have HNO := hid hno
    have HXL := hid hxl
    clear hsp hno h0 hB0 hxl
    by_cases hlt : k < l.length
    · obtain ⟨x, hx⟩ : ∃ x, l[k]? = some x := ⟨_, List.getElem?_eq_getElem (by omega)⟩
      have f1 := run_index_str l k x hx k rfl
      have b1 : (k : Int) < l.length := by omega
      have HX := hid hx
      clear hx
      by_cases h47 : x = 47
      · subst h47
        have e47 : ib 47 = 47 := rfl
        have s1 : (txt l).extract a k = txt (cutL l a k) := slice_mid l a k
        have c1 : (0 : Int) ≤ a := by omega
        have c2 : (a : Int) ≤ k := by omega
        have c3 : (k : Int) ≤ l.length := by omega
        rw [e47] at f1
        have hlx := HXL.out
        go_wp2_with (at_builtin; refine wpList_append_new rfl _ _ 36 rfl w.heap.size 9 j0 (.string ⟨#[]⟩) 16 Try.underlying36 hj hjz hjs hjb rfl _ _ _ rfl hown 1 _ rfl rfl ?l1 ?l2 ?l3 hwz ?_)
        case l1 => simp [Value.oneCell']
        case l2 => unfold maxLen; omega
        case l3 => omega
        intro v8 w8 hown8 hb8
        go_wp2
        go_roundw
        case rel =>
          refine ⟨k + 1, k + 1, xs ++ [cutL l a k], hlt, by omega, by go_num, by go_num, by simp; omega, ?_, by simp [cutL], ?_, hB.trans (hb8.mono (Nat.le_refl _))⟩
          · rw [HSP.out, cutL_rest l a k 47 ha HX.out, splitS_at _ _ HNO.out, List.append_assoc]; rfl
          · rw [List.length_append, List.map_append]; exact hown8
        case measure => simp [intOf]; omega
      · have hne : ¬ ib x = 47 := by
          intro h
          apply h47
          have e47 : ib 47 = 47 := rfl
          rw [← e47, ib_inj] at h
          exact h
        go_wp2
        go_roundw
        case rel =>
          refine ⟨k + 1, a, xs, hlt, by omega, by go_num, rfl, by have := HXL.out; omega, HSP.out, ?_, hown, hB⟩
          rw [cutL_snoc l a k x ha HX.out]
          intro y hy
          rcases List.mem_append.1 hy with hy | hy
          · exact HNO.out y hy
          · obtain rfl : y = x := by simpa using hy
            exact h47
        case measure => simp [intOf]; omega
    · obtain rfl : k = l.length := by omega
      have b1 : ¬ (l.length : Int) < l.length := by omega
      have s1 : (txt l).extract a l.length = txt (l.drop a) := by have := slice_from l a; rwa [txt_size] at this
      have c1 : (0 : Int) ≤ a := by omega
      have c2 : (a : Int) ≤ l.length := by omega
      have hlx := HXL.out
      have hend : splitS (l.drop a) = [l.drop a] := splitS_no _ (fun x hx => HNO.out x (by unfold cutL; rw [List.take_of_length_le (by rw [List.length_drop]; omega)]; exact hx))
      have HE := hid hend
      clear hend
      go_wp2_with (at_builtin; refine wpList_append_new rfl _ _ 36 rfl w.heap.size 9 j0 (.string ⟨#[]⟩) 16 Try.underlying36 hj hjz hjs hjb rfl _ _ _ rfl hown 1 _ rfl rfl ?l1 ?l2 ?l3 hwz ?_)
      case l1 => simp [Value.oneCell']
      case l2 => unfold maxLen; omega
      case l3 => omega
      intro v8 w8 hown8 hb8
      go_wp2
      go_ret
      refine ⟨_, rfl, ?_, hB.trans (hb8.mono (Nat.le_refl _))⟩
      rw [HSP.out, HE.out, List.length_append, List.map_append]
      exact hown8
set_option maxHeartbeats 2000000 in
theorem same_any (A B : Option Addr) (n m c d : Nat) (ps qs : List (List UInt8)) (hn : ps.length = n) (hm : qs.length = m) (bn : n ≤ 9223372036854775807) (bm : m ≤ 9223372036854775807) (w : World) (hr : Rd w A (ps.map strV)) (hs : Rd w B (qs.map strV)) :
    Calls Try.prog 16 #[.slice A n c, .slice B m d] w fun e w' => e = .returned (.bool (decide (ps = qs))) ∧ Below w.heap.size w w' := by
  by_cases hnm : n = m
  · subst hnm
    go_enter Try.func16, Try.ntmps16
    go_wp2
    go_loopw [5] (fun i wr => ∃ k : Nat, k ≤ n ∧ i = .int .i64 k ∧ ps.take k = qs.take k ∧ Below w.heap.size w wr) (fun i _ => n - (intOf i).toNat)
    case atStart => exact ⟨0, by omega, rfl, rfl, Below.refl _ _⟩
    case round =>
      obtain ⟨k, hk, rfl, ht, hBr⟩ := hrel
      by_cases hlt : k < n
      · obtain ⟨p, hp⟩ : ∃ p, ps[k]? = some p := ⟨_, List.getElem?_eq_getElem (by omega)⟩
        obtain ⟨q, hq⟩ : ∃ q, qs[k]? = some q := ⟨_, List.getElem?_eq_getElem (by omega)⟩
        obtain ⟨ad, rfl, hcell⟩ := rd_in (hr.below hBr) k (strV p) (by rw [List.getElem?_map, hp]; rfl)
        obtain ⟨ad2, rfl, hcell2⟩ := rd_in (hs.below hBr) k (strV q) (by rw [List.getElem?_map, hq]; rfl)
        unfold strV at hcell hcell2
        have HP := hid hp
        have HQ := hid hq
        have HT2 := hid ht
        have b1 : (k : Int) < n := by omega
        clear hp hq ht
        by_cases hpq : p = q
        · subst hpq
          go_wp2
          go_quiet (fail)
          go_wp2
          go_roundw
          case rel => exact ⟨k + 1, hlt, by go_num, by rw [take_snoc HP.out, take_snoc HQ.out, HT2.out], below_drewN hBr _⟩
          case measure => simp [intOf]; omega
        · have hb2 : (p == q) = false := beq_eq_false_iff_ne.2 hpq
          go_wp2
          go_quiet (fail)
          go_wp2
          go_ret
          refine ⟨?_, below_drewN hBr _⟩
          have : ¬ ps = qs := by
            rintro rfl
            have := HP.out.symm.trans HQ.out
            exact hpq (Option.some.inj this)
          rw [decide_eq_false this]; rfl
      · obtain rfl : k = n := by omega
        rw [List.take_of_length_le (by omega), List.take_of_length_le (by omega)] at ht
        have HT := hid ht
        have b1 : ¬ (k : Int) < k := by omega
        clear ht
        go_wp2
        go_ret
        exact ⟨by rw [decide_eq_true HT.out]; rfl, hBr⟩
  · have h1 : ((n : Int) == m) = false := by rw [beq_eq_false_iff_ne]; omega
    have h2 : ¬ (n : Int) = m := by omega
    have hne : ¬ ps = qs := by rintro rfl; omega
    rw [decide_eq_false hne]
    clear hne
    go_enter Try.func16, Try.ntmps16
    go_wp2
    go_ret
    exact ⟨rfl, Below.refl _ _⟩
theorem rowRd {w : World} {base n : Nat} {v : Value} {xs : List Value} {e : TypeId} (h : w.ownsRow base e 1 v n xs) : xs.length = n ∧ ∃ A c, v = .slice A n c ∧ Rd w A xs := Rd.own h
theorem rpath_any (s : List UInt8) (hs : s.length ≤ 1000000) (w : World) :
    Calls Try.prog 47 #[.string (txt s)] w fun e w' => e = .returned (.bool (pathR s)) ∧ Below w.heap.size w w' := by
  by_cases hl : s.length ≤ 200
  · have b0 : ¬ (200 : Int) < s.length := by omega
    have cS := rsplit_any s hs
    have hcnt := splitS_count s
    obtain ⟨L, hL⟩ : ∃ L, L = splitS s := ⟨_, rfl⟩
    have hlen : ∀ x ∈ L, x.length ≤ 1000000000000 := fun x hx => by have := splitS_len s x (by rw [← hL]; exact hx); omega
    have hR : pathR s = (decide (L.length ≤ 16) && L.all partS) := by unfold pathR; rw [decide_eq_true hl, ← hL]; rfl
    rw [← hL] at cS hcnt
    rw [hR]
    clear hR hL
    go_enter Try.func47, Try.ntmps47
    go_wp2_with (go_at_call 64; (with_reducible refine (cS _).mono ?_); rintro e1 w1 ⟨v, rfl, hown, hB1⟩; obtain ⟨hm, A, c, rfl, hrd⟩ := rowRd hown)
    go_loopw [4] (fun i wr => ∃ k : Nat, k ≤ L.length ∧ i = .int .i64 k ∧ (L.take k).all partS = true ∧ w1 = wr) (fun i _ => L.length - (intOf i).toNat)
    case atStart => exact ⟨0, by omega, rfl, by simp, by first | rfl | trivial⟩
    case round =>
      obtain ⟨k, hk, rfl, ht, rfl⟩ := hrel
      have HT := hid ht
      clear ht
      by_cases hlt : k < L.length
      · obtain ⟨x, hx⟩ : ∃ x, L[k]? = some x := ⟨_, List.getElem?_eq_getElem (by omega)⟩
        obtain ⟨ad, rfl, hcell⟩ := rd_in hrd k (strV x) (by rw [List.getElem?_map, hx]; rfl)
        unfold strV at hcell
        have b1 : (k : Int) < L.length := by omega
        have HX := hid hx
        have cP := rpart_any x (hlen x (List.mem_of_getElem? hx))
        clear hx
        cases hb : partS x with
        | true =>
          have HB := hid hb
          rw [hb] at cP
          clear hb
          go_wp2_with (go_at_call 65; (with_reducible refine (cP _).mono ?_); rintro e1 w1 ⟨rfl, rfl⟩)
          go_roundw
          case rel => exact ⟨k + 1, hlt, by go_num, by rw [take_snoc HX.out, List.all_append, HT.out]; simp [HB.out], by first | rfl | trivial⟩
          case measure => simp [intOf]; omega
        | false =>
          have HB := hid hb
          rw [hb] at cP
          clear hb
          go_wp2_with (go_at_call 65; (with_reducible refine (cP _).mono ?_); rintro e1 w1 ⟨rfl, rfl⟩)
          go_ret
          refine ⟨?_, hB1⟩
          have : L.all partS = false := by rw [List.all_eq_false]; exact ⟨x, List.mem_of_getElem? HX.out, by simp [HB.out]⟩
          rw [this, Bool.and_false]; rfl
      · obtain rfl : k = L.length := by omega
        have ht := HT.out
        rw [List.take_length] at ht
        have HU := hid ht
        have b1 : ¬ (L.length : Int) < L.length := by omega
        clear ht HT
        have e16 : decide ((L.length : Int) ≤ 16) = decide (L.length ≤ 16) := by rw [decide_eq_decide]; omega
        go_wp2
        go_ret
        refine ⟨?_, hB1⟩
        rw [HU.out, Bool.and_true, ← e16]; rfl
  · rw [pathR_long (by omega)]
    have b0 : (200 : Int) < s.length := by omega
    go_enter Try.func47, Try.ntmps47
    go_wp2
    go_ret
    exact ⟨rfl, Below.refl _ _⟩
end Go.Proofs.Ytodfaakodgedbaa

namespace Go.Proofs.Ytodfaakodgedbaa
open Go.RowKit Go.Qc Go.Shelf
attribute [local go_sem] txt_size txt_append ib_fold txt_toL

theorem covB_far (p s : List UInt8) (h0 : p ≠ []) (h1 : p ≠ s) : covB p s = (p ++ [47]).isPrefixOf s := by
  unfold covB
  have : p.isEmpty = false := by cases p <;> first | rfl | exact absurd rfl h0
  rw [this, beq_eq_false_iff_ne.2 h1]; rfl
theorem pre_at (p s : List UInt8) (b : UInt8) : (p ++ [b]).isPrefixOf s = decide (p.length < s.length ∧ s.take p.length = p ∧ s[p.length]? = some b) := by
  rw [Bool.eq_iff_iff, List.isPrefixOf_iff_prefix, decide_eq_true_eq]
  constructor
  · rintro ⟨r, rfl⟩
    refine ⟨by simp, by simp, by simp⟩
  · rintro ⟨h, h2, h3⟩
    refine ⟨s.drop (p.length + 1), ?_⟩
    obtain ⟨hk, h4⟩ := List.getElem?_eq_some_iff.1 h3
    conv => rhs; rw [← List.take_append_drop p.length s, h2, List.drop_eq_getElem_cons hk, h4]
    simp
set_option maxHeartbeats 1000000 in
theorem rcovers_any (p s : List UInt8) (hp : p.length ≤ 1000000) (hs : s.length ≤ 1000000) (w : World) :
    Calls Try.prog 52 #[.string (txt p), .string (txt s)] w fun e w' => e = .returned (.bool (covB p s)) ∧ w = w' := by
  by_cases h0 : p = []
  · subst h0
    have e : txt [] = ⟨#[]⟩ := rfl
    have ev : covB [] s = true := rfl
    rw [e, ev]
    go_enter Try.func52, Try.ntmps52
    go_wp2
    go_ret
    exact ⟨rfl, rfl⟩
  have n0 : p.isEmpty = false := by cases p <;> first | rfl | exact absurd rfl h0
  by_cases h1 : p = s
  · subst h1
    have ev : covB p p = true := by unfold covB; simp
    rw [ev]
    go_enter Try.func52, Try.ntmps52
    go_wp2
    all_goals go_ret
    all_goals exact ⟨rfl, rfl⟩
  have n1 : (p == s) = false := beq_eq_false_iff_ne.2 h1
  rw [covB_far p s h0 h1, pre_at]
  by_cases hl : p.length < s.length
  · obtain ⟨x, hx⟩ : ∃ x, s[p.length]? = some x := ⟨_, List.getElem?_eq_getElem hl⟩
    have f1 := run_index_str s p.length x hx p.length rfl
    have s1 : (txt s).extract 0 p.length = txt (s.take p.length) := slice_to s p.length
    have b1 : (p.length : Int) < s.length := by omega
    have b2 : (0 : Int) ≤ p.length := by omega
    have b3 : (p.length : Int) ≤ s.length := by omega
    have HX := hid hx
    obtain ⟨T, hT⟩ : ∃ T, T = s.take p.length := ⟨_, rfl⟩
    rw [← hT] at s1
    rw [← hT, hx]
    clear hx hT
    by_cases h2 : T = p
    · subst h2
      by_cases h3 : x = 47
      · subst h3
        have e47 : ib 47 = 47 := rfl
        rw [e47] at f1
        rw [decide_eq_true ⟨hl, rfl, rfl⟩]
        go_enter Try.func52, Try.ntmps52
        go_wp2
        all_goals go_ret
        all_goals exact ⟨rfl, rfl⟩
      · have hne : (ib x == 47) = false := by
          have e47 : ib 47 = 47 := rfl
          rw [beq_eq_false_iff_ne, ← e47, ne_eq, ib_inj]; exact h3
        rw [decide_eq_false (by rintro ⟨_, _, h⟩; exact h3 (Option.some.inj h))]
        go_enter Try.func52, Try.ntmps52
        go_wp2
        all_goals go_ret
        all_goals refine ⟨?_, rfl⟩
        all_goals first | rfl | simp [hne]
    · have n2 : (T == p) = false := beq_eq_false_iff_ne.2 h2
      rw [decide_eq_false (by rintro ⟨_, h, _⟩; exact h2 h)]
      go_enter Try.func52, Try.ntmps52
      go_wp2
      all_goals go_ret
      all_goals refine ⟨?_, rfl⟩
      all_goals first | rfl | simp [n2]
  · have b1 : ¬ (p.length : Int) < s.length := by omega
    rw [decide_eq_false (by rintro ⟨h, _⟩; exact hl h)]
    go_enter Try.func52, Try.ntmps52
    go_wp2
    all_goals go_ret
    all_goals exact ⟨rfl, rfl⟩

/-! ### joined with slashes -/
def joinS (xs : List (List UInt8)) : List UInt8 := Lib.join xs [47]
theorem joinS_snoc (xs : List (List UInt8)) (x : List UInt8) (h : xs ≠ []) : joinS (xs ++ [x]) = joinS xs ++ [47] ++ x := by
  unfold joinS
  cases xs with
  | nil => exact absurd rfl h
  | cons y ys =>
    rw [List.cons_append, Lib.join_cons, Lib.join_cons]
    unfold Lib.joinTail
    simp
theorem joinS_one (x : List UInt8) : joinS [x] = x := Lib.join_one x [47]
theorem splitS_mid : ∀ (u m : List UInt8), splitS (u ++ 47 :: m) = splitS u ++ splitS m
  | [], m => by
    have e : splitS (47 :: m) = [] :: splitS m := by rw [splitS, if_pos rfl]
    rw [List.nil_append, e]; rfl
  | b :: u, m => by
    rw [List.cons_append, splitS, splitS, splitS_mid u m]
    split
    · rfl
    · cases h : splitS u with
      | nil => exact absurd h (splitS_ne u)
      | cons x xs => rfl
theorem joinS_split : ∀ (u : List UInt8), joinS (splitS u) = u
  | [] => rfl
  | b :: u => by
    have ih := joinS_split u
    rw [splitS]
    split
    · rename_i h
      subst h
      cases hs : splitS u with
      | nil => exact absurd hs (splitS_ne u)
      | cons x xs =>
        rw [hs] at ih
        unfold joinS at ih ⊢
        rw [Lib.join_cons] at ih ⊢
        rw [← ih]
        simp [Lib.joinTail]
    · cases hs : splitS u with
      | nil => exact absurd hs (splitS_ne u)
      | cons x xs =>
        rw [hs] at ih
        unfold joinS at ih ⊢
        simp only
        rw [Lib.join_cons] at ih ⊢
        rw [← ih]; rfl
/-! ### the last slash -/
/-- A path without its last part; that part. -/
def abvS (s : List UInt8) : List UInt8 := joinS (splitS s).dropLast
def lstS (s : List UInt8) : List UInt8 := ((splitS s).getLast?).getD []
theorem last_cases (s : List UInt8) : (Lib.lastIndexByte (txt s) 47 = -1 ∧ abvS s = [] ∧ lstS s = s) ∨
    ∃ i : Nat, i < s.length ∧ Lib.lastIndexByte (txt s) 47 = i ∧ abvS s = s.take i ∧ lstS s = s.drop (i + 1) := by
  have hd : ∀ j, j < s.length → ((txt s).data[j]!).toNat = (s.getD j 0).toNat := fun j hj => by
    have : (txt s).data[j]! = s[j] := by simp [txt, hj]
    rw [this, List.getD_eq_getElem?_getD, List.getElem?_eq_getElem hj]; rfl
  have h47 : ∀ b : UInt8, ((b.toNat : Int) = 47) = (b = 47) := fun b => by
    rw [← ib_inj b 47]; rfl
  unfold abvS lstS Lib.lastIndexByte
  rw [txt_size]
  rcases Lib.lastIdx_spec (txt s) 47 s.length with ⟨h, hno⟩ | ⟨i, hi, h, hat, hno⟩
  · refine .inl ⟨h, ?_⟩
    have hs : splitS s = [s] := splitS_no s (fun x hx e => by
      obtain ⟨j, hj, rfl⟩ := List.getElem_of_mem hx
      apply hno j hj
      rw [show (((txt s).data[j]!).toNat : Int) = ((s.getD j 0).toNat : Int) by rw [hd j hj], h47, List.getD_eq_getElem?_getD, List.getElem?_eq_getElem hj]
      exact e)
    rw [hs]
    exact ⟨rfl, rfl⟩
  · refine .inr ⟨i, hi, h, ?_⟩
    have hx : s[i] = 47 := by
      rw [show (((txt s).data[i]!).toNat : Int) = ((s.getD i 0).toNat : Int) by rw [hd i hi], h47, List.getD_eq_getElem?_getD, List.getElem?_eq_getElem hi] at hat
      exact hat
    have hsp : s = s.take i ++ 47 :: s.drop (i + 1) := by
      conv => lhs; rw [← List.take_append_drop i s, List.drop_eq_getElem_cons hi, hx]
    have hn : ∀ x ∈ s.drop (i + 1), x ≠ 47 := fun x hx e => by
      obtain ⟨j, hj, rfl⟩ := List.getElem_of_mem hx
      rw [List.length_drop] at hj
      apply hno (i + 1 + j) (by omega) (by omega)
      rw [show (((txt s).data[i + 1 + j]!).toNat : Int) = ((s.getD (i + 1 + j) 0).toNat : Int) by rw [hd _ (by omega)], h47, List.getD_eq_getElem?_getD, List.getElem?_eq_getElem (by omega)]
      rw [List.getElem_drop] at e
      exact e
    have hs : splitS s = splitS (s.take i) ++ [s.drop (i + 1)] := by
      conv => lhs; rw [hsp, splitS_mid, splitS_no _ hn]
    rw [hs, List.dropLast_concat, joinS_split, List.getLast?_append]
    exact ⟨rfl, rfl⟩
theorem lastIndex_any (s : List UInt8) (hs : s.length ≤ 1000000) (w : World) :
    Calls Try.prog 86 #[.string (txt s), .string ⟨#[47]⟩] w fun e w' => e = .returned (.int .i64 (Lib.lastIndexByte (txt s) 47)) ∧ w = w' := by
  have := Any.strings_LastIndex_one lays148 (txt s) ⟨#[47]⟩ rfl (by rw [txt_size]; omega) w
  exact this.mono (by rintro e w' ⟨h, rfl⟩; exact ⟨h, rfl⟩)
set_option maxHeartbeats 1000000 in
theorem pcut_any (s : List UInt8) (hs : s.length ≤ 1000000) (w : World) :
    Calls Try.prog 73 #[.string (txt s)] w fun e w' => e = .returned (.tuple #[.string (txt (if pathR s then abvS s else [])), .string (txt (if pathR s then lstS s else []))]) ∧ Below w.heap.size w w' := by
  have cR := path_any s
  cases hR : pathR s with
  | false =>
    rw [hR] at cR
    clear hR
    go_enter Try.func73, Try.ntmps73
    go_wp2_with (go_at_call 57; (with_reducible refine (cR _).mono ?_); rintro e1 w1 ⟨rfl, hB1⟩)
    go_ret2
    exact ⟨rfl, hB1⟩
  | true =>
    rw [hR] at cR
    clear hR
    have cL := lastIndex_any s hs
    rcases last_cases s with ⟨h, ha, hl⟩ | ⟨i, hi, h, ha, hl⟩
    · rw [h] at cL
      simp only [if_true]
      rw [ha, hl]
      have s1 : (txt s).extract 0 0 = txt [] := slice_to s 0
      have s2 : (txt s).extract 0 s.length = txt s := by have := slice_from s 0; rwa [txt_size] at this
      have m1 : max (-1 : Int) 0 = 0 := by decide
      clear ha hl h
      go_enter Try.func73, Try.ntmps73
      go_wp2_with (first
        | (go_at_call 57; (with_reducible refine (cR _).mono ?_); rintro e1 w1 ⟨rfl, hB1⟩)
        | (go_at_call 86; (with_reducible refine (cL _).mono ?_); rintro e2 w2 ⟨rfl, rfl⟩))
      go_quiet (fail)
      go_wp2
      go_ret2
      exact ⟨rfl, below_drewN hB1 _⟩
    · rw [h] at cL
      simp only [if_true]
      rw [ha, hl]
      have s1 : (txt s).extract 0 i = txt (s.take i) := slice_to s i
      have s2 : (txt s).extract (i + 1) s.length = txt (s.drop (i + 1)) := by have := slice_from s (i + 1); rwa [txt_size] at this
      have m1 : max (i : Int) 0 = i := by omega
      have b1 : (0 : Int) ≤ i := by omega
      have b2 : (i : Int) ≤ s.length := by omega
      have b3 : (i : Int) + 1 ≤ s.length := by omega
      have b4 : (0 : Int) ≤ (i : Int) + 1 := by omega
      clear ha hl h
      go_enter Try.func73, Try.ntmps73
      go_wp2_with (first
        | (go_at_call 57; (with_reducible refine (cR _).mono ?_); rintro e1 w1 ⟨rfl, hB1⟩)
        | (go_at_call 86; (with_reducible refine (cL _).mono ?_); rintro e2 w2 ⟨rfl, rfl⟩))
      go_quiet (fail)
      go_wp2
      go_ret2
      exact ⟨rfl, below_drewN hB1 _⟩
theorem pabove_any (s : List UInt8) (hs : s.length ≤ 1000000) (w : World) :
    Calls Try.prog 60 #[.string (txt s)] w fun e w' => e = .returned (.string (txt (if pathR s then abvS s else []))) ∧ Below w.heap.size w w' := by
  have c := pcut_any s hs
  generalize (if pathR s then abvS s else []) = U at c ⊢
  generalize (if pathR s then lstS s else []) = V at c ⊢
  go_enter Try.func60, Try.ntmps60
  go_wp2_with (go_at_call 73; (with_reducible refine (c _).mono ?_); rintro e1 w1 ⟨rfl, hB1⟩)
  go_ret
  exact ⟨rfl, hB1⟩
end Go.Proofs.Ytodfaakodgedbaa

namespace Go.Proofs.Ytodfaakodgedbaa
open Go.RowKit Go.Qc Go.Shelf
attribute [local go_sem] txt_size txt_append ib_fold txt_toL

theorem mixed10 : Try.prog.follows .mixedOrders = true := by kernel_rfl
/-- A world behind W: what W held lies there still. -/
structure LtW (W : World) where
  w : World
  h : Below W.heap.size W w
instance (W : World) : Inhabited (LtW W) := ⟨⟨W, Below.refl _ _⟩⟩
theorem below_drew10 (w : World) : Below w.heap.size w w.drew := ⟨(Below.refl w.heap.size w).os, (Below.refl w.heap.size w).tape, (Below.refl w.heap.size w).output, (Below.refl w.heap.size w).size, (Below.refl w.heap.size w).block⟩
theorem wp_region_lt {P : Program} {id : Nat} {Q : Exit → Act → World → Prop} {a : Act} {w : World} {l : List Oper} (hm : P.follows .mixedOrders = true) (hB : Region.lexB .any l.toArray = true)
    (h : wpQuiet P l.toArray (fun w' => ∃ p : LtW w, w' = p.w) (fun a' => ∀ w', (∃ p : LtW w, w' = p.w) → Q .normal a' w') l a) : (Code.region id l.toArray true).wp P Q a w :=
  wp_region_quiet (C := fun w' => ∃ p : LtW w, w' = p.w) hm hB ⟨⟨w.drew, below_drew10 w⟩, rfl⟩ (by simpa using h)
theorem lt_of {P : Program} {f : FuncId} {args : Array Value} {W : World} {p : LtW W} {v : Value} (h : Calls P f args p.w fun e w'' => e = .returned v ∧ Below p.w.heap.size p.w w'') :
    Calls P f args p.w fun e w'' => e = .returned v ∧ ∃ p' : LtW W, w'' = p'.w :=
  h.mono fun _ w'' ⟨he, hb⟩ => ⟨he, ⟨w'', p.h.trans (hb.mono p.h.size)⟩, rfl⟩
/-- A text has a last part. -/
theorem splitS_last (s : List UInt8) : ∃ (U : List (List UInt8)) (m : List UInt8), splitS s = U ++ [m] ∧ abvS s = joinS U ∧ lstS s = m := by
  have h := splitS_ne s
  refine ⟨(splitS s).dropLast, (splitS s).getLast h, (List.dropLast_concat_getLast h).symm, rfl, ?_⟩
  unfold lstS
  rw [List.getLast?_eq_some_getLast h]; rfl
end Go.Proofs.Ytodfaakodgedbaa

namespace Go.Proofs.Ytodfaakodgedbaa
open Go.RowKit Go.Qc Go.Shelf
attribute [local go_sem] txt_size txt_append ib_fold txt_toL

set_option maxHeartbeats 2000000 in
theorem sequal_any (A B : Option Addr) (n m c d : Nat) (ps qs : List (List UInt8)) (hn : ps.length = n) (hm : qs.length = m) (bn : n ≤ 9223372036854775807) (bm : m ≤ 9223372036854775807) (w : World) (hr : Rd w A (ps.map strV)) (hs : Rd w B (qs.map strV)) :
    Calls Try.prog 42 #[.slice A n c, .slice B m d] w fun e w' => e = .returned (.bool (decide (ps = qs))) ∧ Below w.heap.size w w' := by
  by_cases hnm : n = m
  · subst hnm
    go_enter Try.func42, Try.ntmps42
    go_wp2
    go_loopw [13] (fun i wr => ∃ k : Nat, k ≤ n ∧ i = .int .i64 k ∧ ps.take k = qs.take k ∧ Below w.heap.size w wr) (fun i _ => n - (intOf i).toNat)
    case atStart => exact ⟨0, by omega, rfl, rfl, Below.refl _ _⟩
    case round =>
      obtain ⟨k, hk, rfl, ht, hBr⟩ := hrel
      by_cases hlt : k < n
      · obtain ⟨p, hp⟩ : ∃ p, ps[k]? = some p := ⟨_, List.getElem?_eq_getElem (by omega)⟩
        obtain ⟨q, hq⟩ : ∃ q, qs[k]? = some q := ⟨_, List.getElem?_eq_getElem (by omega)⟩
        obtain ⟨ad, rfl, hcell⟩ := rd_in (hr.below hBr) k (strV p) (by rw [List.getElem?_map, hp]; rfl)
        obtain ⟨ad2, rfl, hcell2⟩ := rd_in (hs.below hBr) k (strV q) (by rw [List.getElem?_map, hq]; rfl)
        unfold strV at hcell hcell2
        have HP := hid hp
        have HQ := hid hq
        have HT2 := hid ht
        have b1 : (k : Int) < n := by omega
        clear hp hq ht
        by_cases hpq : p = q
        · subst hpq
          go_wp2
          go_quiet (fail)
          go_wp2
          go_roundw
          case rel => exact ⟨k + 1, hlt, by go_num, by rw [take_snoc HP.out, take_snoc HQ.out, HT2.out], below_drewN hBr _⟩
          case measure => simp [intOf]; omega
        · have hb2 : (p == q) = false := beq_eq_false_iff_ne.2 hpq
          go_wp2
          go_quiet (fail)
          go_wp2
          go_ret
          refine ⟨?_, below_drewN hBr _⟩
          have : ¬ ps = qs := by
            rintro rfl
            have := HP.out.symm.trans HQ.out
            exact hpq (Option.some.inj this)
          rw [decide_eq_false this]; rfl
      · obtain rfl : k = n := by omega
        rw [List.take_of_length_le (by omega), List.take_of_length_le (by omega)] at ht
        have HT := hid ht
        have b1 : ¬ (k : Int) < k := by omega
        clear ht
        go_wp2
        go_ret
        exact ⟨by rw [decide_eq_true HT.out]; rfl, hBr⟩
  · have h1 : ((n : Int) == m) = false := by rw [beq_eq_false_iff_ne]; omega
    have h2 : ¬ (n : Int) = m := by omega
    have hne : ¬ ps = qs := by rintro rfl; omega
    rw [decide_eq_false hne]
    clear hne
    go_enter Try.func42, Try.ntmps42
    go_wp2
    go_ret
    exact ⟨rfl, Below.refl _ _⟩

/-! ### what joined parts part into -/
end Go.Proofs.Ytodfaakodgedbaa

namespace Go.Proofs.Ytodfaakodgedbaa
open Go.RowKit Go.Qc Go.Shelf
attribute [local go_sem] txt_size txt_append ib_fold txt_toL

theorem index_in (l : List UInt8) (c : UInt8) : Lib.indexByte l c = -1 ∧ l.contains c = false ∨ 0 ≤ Lib.indexByte l c ∧ l.contains c = true := by
  induction l with
  | nil => exact .inl ⟨rfl, rfl⟩
  | cons b l ih =>
    by_cases hb : b = c
    · subst hb; exact .inr ⟨by simp [Lib.indexByte], by simp⟩
    · have h1 : (b == c) = false := beq_eq_false_iff_ne.2 hb
      have h2 : (c == b) = false := beq_eq_false_iff_ne.2 (fun h => hb h.symm)
      rcases ih with ⟨h, hc⟩ | ⟨h, hc⟩
      · refine .inl ⟨by simp [Lib.indexByte, h1, h], ?_⟩
        rw [List.contains_cons, h2, hc]; rfl
      · have h3 : (Lib.indexByte l c == -1) = false := by rw [beq_eq_false_iff_ne]; omega
        refine .inr ⟨?_, ?_⟩
        · simp only [Lib.indexByte, h1, h3, Bool.false_eq_true, if_false]; omega
        · rw [List.contains_cons, hc, Bool.or_true]
theorem contains_any (l : List UInt8) (w : World) :
    Calls Try.prog 72 #[.string (txt l), .string ⟨#[10]⟩] w fun e w' => e = .returned (.bool (l.contains 10)) ∧ w = w' := by
  have := Any.strings_Contains_one lays144 (txt l) 10 w
  rw [txt_data] at this
  refine this.mono ?_
  rintro e w' ⟨rfl, rfl⟩
  refine ⟨?_, rfl⟩
  rcases index_in l 10 with ⟨h, hc⟩ | ⟨h, hc⟩
  · rw [h, hc]; rfl
  · rw [decide_eq_true h, hc]
/-- A line that may be; lines that may be. -/
def lineR (x : List UInt8) : Bool := decide (x.length ≤ 200) && !x.contains 10
def linesR (l : List (List UInt8)) : Bool := decide (l.length ≤ 1000) && l.all lineR
theorem bad_any (x : List UInt8) (w : World) :
    Calls Try.prog 71 #[.string (txt x)] w fun e w' => e = .returned (.bool (!lineR x)) ∧ w = w' := by
  have c := contains_any x
  unfold lineR
  by_cases h : 200 < x.length
  · have z : (200 : Int) < x.length := by omega
    rw [decide_eq_false (show ¬ x.length ≤ 200 by omega)]
    clear c
    go_enter Try.func71, Try.ntmps71
    go_wp2_with (fail)
    go_ret
    exact ⟨rfl, rfl⟩
  · have z : ¬ (200 : Int) < x.length := by omega
    rw [decide_eq_true (show x.length ≤ 200 by omega), Bool.true_and, Bool.not_not]
    generalize x.contains 10 = C at c ⊢
    go_enter Try.func71, Try.ntmps71
    go_wp2_with (go_at_call 72; (with_reducible refine (c _).mono ?_); rintro e1 w1 ⟨rfl, rfl⟩)
    go_ret
    exact ⟨rfl, rfl⟩
set_option maxHeartbeats 2000000 in
theorem indexFunc_any (A : Option Addr) (n c : Nat) (ps : List (List UInt8)) (hn : ps.length = n) (bn : n ≤ 9223372036854775807) (w : World) (hr : Rd w A (ps.map strV)) :
    Calls Try.prog 84 #[.slice A n c, .func (.func 71) #[] #[]] w fun e w' => (∃ z : Int, e = .returned (.int .i64 z) ∧ (ps.all lineR = true ∧ z = -1 ∨ ps.all lineR = false ∧ 0 ≤ z)) ∧ w = w' := by
  have hg := enters_of Try.func71 (by kernel_rfl) rfl
  go_enter Try.func84, Try.ntmps84
  go_wp2
  go_loopw [8] (fun i wr => ∃ k : Nat, k ≤ n ∧ i = .int .i64 k ∧ (ps.take k).all lineR = true ∧ w = wr) (fun i _ => n - (intOf i).toNat)
  case atStart => exact ⟨0, by omega, rfl, by simp, by first | rfl | trivial⟩
  case round =>
    obtain ⟨k, hk, rfl, ht, rfl⟩ := hrel
    have HT := hid ht
    clear ht
    by_cases hlt : k < n
    · obtain ⟨p, hpk⟩ : ∃ p, ps[k]? = some p := ⟨_, List.getElem?_eq_getElem (by omega)⟩
      obtain ⟨ad, rfl, hcell⟩ := rd_in hr k (strV p) (by rw [List.getElem?_map, hpk]; rfl)
      unfold strV at hcell
      have HP := hid hpk
      have b1 : (k : Int) < n := by omega
      have cB := bad_any p
      clear hpk
      cases hb : lineR p with
      | true =>
        rw [hb] at cB
        have HB := hid hb
        clear hb
        go_wp2_with ((with_reducible refine (cB _).mono ?_); rintro e1 w1 ⟨rfl, rfl⟩)
        go_roundw
        case rel => exact ⟨k + 1, hlt, by go_num, by rw [take_snoc HP.out, List.all_append, HT.out]; simp [HB.out], by first | rfl | trivial⟩
        case measure => simp [intOf]; omega
      | false =>
        rw [hb] at cB
        have HB := hid hb
        clear hb
        go_wp2_with ((with_reducible refine (cB _).mono ?_); rintro e1 w1 ⟨rfl, rfl⟩)
        go_ret
        refine ⟨⟨_, rfl, .inr ⟨?_, by omega⟩⟩, rfl⟩
        rw [List.all_eq_false]
        exact ⟨p, List.mem_of_getElem? HP.out, by simp [HB.out]⟩
    · obtain rfl : k = n := by omega
      have b1 : ¬ (k : Int) < k := by omega
      have ht := HT.out
      rw [List.take_of_length_le (by omega)] at ht
      have HU := hid ht
      clear ht HT
      go_wp2
      go_ret
      exact ⟨⟨_, rfl, .inl ⟨by simpa using HU.out, rfl⟩⟩, rfl⟩
theorem containsFunc_any (A : Option Addr) (n c : Nat) (ps : List (List UInt8)) (hn : ps.length = n) (bn : n ≤ 9223372036854775807) (w : World) (hr : Rd w A (ps.map strV)) :
    Calls Try.prog 70 #[.slice A n c, .func (.func 71) #[] #[]] w fun e w' => e = .returned (.bool (!ps.all lineR)) ∧ w = w' := by
  have cI := indexFunc_any A n c ps hn bn w hr
  go_enter Try.func70, Try.ntmps70
  go_wp2_with (go_at_call 84; (with_reducible refine cI.mono ?_); rintro e1 w1 ⟨⟨z, rfl, hz⟩, rfl⟩)
  go_ret
  refine ⟨?_, rfl⟩
  rcases hz with ⟨h1, rfl⟩ | ⟨h1, h2⟩
  · rw [h1]; rfl
  · rw [h1]; simp [h2]
theorem lines_any (A : Option Addr) (n c : Nat) (ps : List (List UInt8)) (hn : ps.length = n) (bn : n ≤ 9223372036854775807) (w : World) (hr : Rd w A (ps.map strV)) :
    Calls Try.prog 59 #[.slice A n c] w fun e w' => e = .returned (.bool (linesR ps)) ∧ w = w' := by
  have cI := containsFunc_any A n c ps hn bn w hr
  unfold linesR
  rw [hn]
  by_cases h : n ≤ 1000
  · have z : (n : Int) ≤ 1000 := by omega
    rw [decide_eq_true h, Bool.true_and]
    generalize ps.all lineR = C at cI ⊢
    go_enter Try.func59, Try.ntmps59
    go_wp2_with (go_at_call 70; (with_reducible refine cI.mono ?_); rintro e1 w1 ⟨rfl, rfl⟩)
    go_ret
    exact ⟨by simp, rfl⟩
  · have z : ¬ (n : Int) ≤ 1000 := by omega
    rw [decide_eq_false h, Bool.false_and]
    clear cI
    go_enter Try.func59, Try.ntmps59
    go_wp2_with (fail)
    go_ret
    exact ⟨rfl, rfl⟩
/-! ### the document's -/
theorem rline_any (x : List UInt8) (hx : x.length ≤ 1000000000000) (w : World) :
    Calls Try.prog 66 #[.string (txt x)] w fun e w' => e = .returned (.bool (lineR x)) ∧ w = w' := by
  go_enter Try.func66, Try.ntmps66
  go_wp2
  go_loopw [3] (fun i wr => ∃ k : Nat, k ≤ x.length ∧ i = .int .i64 k ∧ (x.take k).contains 10 = false ∧ w = wr) (fun i _ => x.length - (intOf i).toNat)
  case atStart => exact ⟨0, by omega, rfl, by simp⟩
  case round =>
    obtain ⟨k, hk, rfl, ht, rfl⟩ := hrel
    have HT := hid ht
    clear ht
    by_cases hlt : k < x.length
    · obtain ⟨y, hy⟩ : ∃ y, x[k]? = some y := ⟨_, List.getElem?_eq_getElem (by omega)⟩
      have f1 := run_index_str x k y hy k rfl
      have b1 : (k : Int) < x.length := by omega
      have HY := hid hy
      clear hy
      by_cases he : y = 10
      · subst he
        have e10 : ib 10 = 10 := rfl
        rw [e10] at f1
        go_wp2
        go_ret
        refine ⟨?_, rfl⟩
        have : x.contains 10 = true := by simpa using List.mem_of_getElem? HY.out
        unfold lineR
        rw [this, Bool.not_true, Bool.and_false]; rfl
      · have e10 : ib 10 = 10 := rfl
        have hne : ¬ ib y = 10 := by rw [← e10, ib_inj]; exact he
        go_wp2
        go_roundw
        case rel =>
          refine ⟨k + 1, hlt, by go_num, ?_, by first | rfl | trivial⟩
          rw [take_snoc HY.out]
          have := HT.out
          simp at this ⊢
          exact ⟨this, fun h => he h.symm⟩
        case measure => simp [intOf]; omega
    · obtain rfl : k = x.length := by omega
      have ht := HT.out
      rw [List.take_length] at ht
      have HU := hid ht
      have b1 : ¬ (x.length : Int) < x.length := by omega
      have e2 : decide ((x.length : Int) ≤ 200) = decide (x.length ≤ 200) := by rw [decide_eq_decide]; omega
      clear ht HT
      go_wp2
      go_ret
      refine ⟨?_, rfl⟩
      unfold lineR
      rw [HU.out, Bool.not_false, Bool.and_true, ← e2]; rfl
set_option maxHeartbeats 2000000 in
theorem rlines_any (A : Option Addr) (n c : Nat) (ps : List (List UInt8)) (hn : ps.length = n) (bn : n ≤ 9223372036854775807) (h8 : ∀ x ∈ ps, x.length ≤ 1000000000000) (w : World) (hr : Rd w A (ps.map strV)) :
    Calls Try.prog 49 #[.slice A n c] w fun e w' => e = .returned (.bool (linesR ps)) ∧ w = w' := by
  go_enter Try.func49, Try.ntmps49
  go_wp2
  go_loopw [3] (fun i wr => ∃ k : Nat, k ≤ n ∧ i = .int .i64 k ∧ (ps.take k).all lineR = true ∧ w = wr) (fun i _ => n - (intOf i).toNat)
  case atStart => exact ⟨0, by omega, rfl, by simp, by first | rfl | trivial⟩
  case round =>
    obtain ⟨k, hk, rfl, ht, rfl⟩ := hrel
    have HT := hid ht
    clear ht
    by_cases hlt : k < n
    · obtain ⟨p, hpk⟩ : ∃ p, ps[k]? = some p := ⟨_, List.getElem?_eq_getElem (by omega)⟩
      obtain ⟨ad, rfl, hcell⟩ := rd_in hr k (strV p) (by rw [List.getElem?_map, hpk]; rfl)
      unfold strV at hcell
      have HP := hid hpk
      have b1 : (k : Int) < n := by omega
      have cB := rline_any p (h8 p (List.mem_of_getElem? hpk))
      clear hpk
      cases hb : lineR p with
      | true =>
        rw [hb] at cB
        have HB := hid hb
        clear hb
        go_wp2_with (go_at_call 66; (with_reducible refine (cB _).mono ?_); rintro e1 w1 ⟨rfl, rfl⟩)
        go_roundw
        case rel => exact ⟨k + 1, hlt, by go_num, by rw [take_snoc HP.out, List.all_append, HT.out]; simp [HB.out], by first | rfl | trivial⟩
        case measure => simp [intOf]; omega
      | false =>
        rw [hb] at cB
        have HB := hid hb
        clear hb
        go_wp2_with (go_at_call 66; (with_reducible refine (cB _).mono ?_); rintro e1 w1 ⟨rfl, rfl⟩)
        go_ret
        refine ⟨?_, rfl⟩
        have : ps.all lineR = false := by rw [List.all_eq_false]; exact ⟨p, List.mem_of_getElem? HP.out, by simp [HB.out]⟩
        unfold linesR
        rw [this, Bool.and_false]; rfl
    · obtain rfl : k = n := by omega
      have b1 : ¬ (k : Int) < k := by omega
      have ht := HT.out
      rw [List.take_of_length_le (by omega)] at ht
      have HU := hid ht
      have e2 : decide ((k : Int) ≤ 1000) = decide (k ≤ 1000) := by rw [decide_eq_decide]; omega
      clear ht HT
      go_wp2
      go_ret
      refine ⟨?_, rfl⟩
      unfold linesR
      rw [HU.out, Bool.and_true, hn, ← e2]; rfl
/-! ### hunks -/
def hkV (at' : Int) (A : Option Addr) (n c : Nat) (B : Option Addr) (m d : Nat) : Array Value := #[.int .i64 at', .slice A n c, .slice B m d]
def hunkR (at' : Int) (old new : List (List UInt8)) : Bool := decide (0 ≤ at') && (decide (at' ≤ 1000) && (linesR old && (linesR new && decide (0 < old.length + new.length))))
set_option maxHeartbeats 4000000 in
theorem hright_gen (at' : Int) (A : Option Addr) (n c : Nat) (B : Option Addr) (m d : Nat) (bn : n ≤ 1000000) (bm : m ≤ 1000000) (O N : Bool) (w : World)
    (cO : ∀ W, Below w.heap.size w W → Calls Try.prog 59 #[.slice A n c] W fun e w' => e = .returned (.bool O) ∧ W = w')
    (cN : ∀ W, Below w.heap.size w W → Calls Try.prog 59 #[.slice B m d] W fun e w' => e = .returned (.bool N) ∧ W = w') :
    Calls Try.prog 58 #[.agg (hkV at' A n c B m d)] w fun e w' => e = .returned (.bool (decide (0 ≤ at') && (decide (at' ≤ 1000) && (O && (N && decide (0 < n + m)))))) ∧ Below w.heap.size w w' := by
  have hB : Below w.heap.size w (w.alloc (.cells #[.int .i64 at', .slice A n c, .slice B m d] 64)) := (Below.refl _ w).alloc (Nat.le_refl _) _
  have hb := Blk.new w 64 #[.int .i64 at', .slice A n c, .slice B m d]
  have x0 := hb.cell_ (i := 0) rfl
  have x1 := hb.cell_ (i := 1) rfl
  have x2 := hb.cell_ (i := 2) rfl
  have e2 : decide (0 < n + m) = decide ((0 : Int) < (n : Int) + m) := by rw [decide_eq_decide]; omega
  have hw : wrap64 ((n : Int) + m) = (n : Int) + m := by unfold wrap64; omega
  rw [e2]
  unfold hkV
  by_cases h0 : (0 : Int) ≤ at' <;> by_cases h1 : at' ≤ 1000 <;> cases O <;> cases N <;> by_cases hs : (0 : Int) < (n : Int) + m
  all_goals try (exfalso; omega)
  all_goals go_enter Try.func58, Try.ntmps58
  all_goals go_wp2_with (go_at_call 59; (first | (with_reducible refine (cO _ hB).mono ?_) | (with_reducible refine (cN _ hB).mono ?_)); rintro e1 w1 ⟨rfl, rfl⟩)
  all_goals go_ret
  all_goals exact ⟨by simp [*], hB⟩
end Go.Proofs.Ytodfaakodgedbaa

namespace Go.Proofs.Ytodfaakodgedbaa
open Go.RowKit Go.Qc Go.Shelf
attribute [local go_sem] txt_size txt_append ib_fold txt_toL

/-- Where a piece of a row begins. -/
def pcA (A : Option Addr) (l m : Nat) : Option Addr := if m = l then A else A.map (·.add l)
theorem rd_piece {w : World} {A : Option Addr} {xs : List Value} (h : Rd w A xs) (l k m : Nat) (hm : k ≤ m - l) : Rd w (pcA A l m) ((xs.drop l).take k) := by
  unfold pcA
  by_cases he : m = l
  · rw [if_pos he]
    have : k = 0 := by omega
    subst this
    exact .inl (by simp)
  · rw [if_neg he]
    rcases h with rfl | ⟨ad, rfl, hc⟩
    · exact .inl (by simp)
    · refine .inr ⟨ad.add l, rfl, fun j u hu => ?_⟩
      have hk : j < k := by
        have := (List.getElem?_eq_some_iff.1 hu).1
        rw [List.length_take] at this; omega
      rw [List.getElem?_take, if_pos hk, List.getElem?_drop] at hu
      have := hc (l + j) u hu
      have e : (ad.add l).add j = ad.add (l + j) := by
        unfold Addr.add
        by_cases h1 : l = 0 <;> by_cases h2 : j = 0 <;> simp [h1, h2, Nat.add_assoc]
      rw [e]; exact this
theorem sliced_pc (A : Option Addr) (l h m : Nat) : sliced A l h m 1 = .slice (pcA A l m) (h - l) (m - l) := by
  unfold sliced pcA
  cases A <;> simp <;> split <;> rfl
theorem sl_lh (A : Option Addr) (n c l h : Nat) (h1 : l ≤ h) (h2 : h ≤ c) (W : World) :
    (Instr.sliceAt 36 (.slice A n c) (some (.int .i64 (l : Int))) (some (.int .i64 (h : Int))) none).run Try.prog W = .ok (.slice (pcA A l c) (h - l) (c - l)) W := by
  obtain ⟨i0, hi, _, hs, _⟩ := info_parts infoString
  have b1 : (l : Int) ≤ h := by omega
  have b2 : (h : Int) ≤ c := by omega
  rw [← sliced_pc]
  simp [Instr.sliceAt, Instr.slice, Instr.sliceBounds, run_underlying Try.underlying36, run_sliceBound, b1, b2, sizeOf, typeInfo, hi, hs, Int.toNat_natCast, sliced]
theorem sl_hm (A : Option Addr) (n c h m : Nat) (h1 : h ≤ m) (h2 : m ≤ c) (W : World) :
    (Instr.sliceAt 36 (.slice A n c) none (some (.int .i64 (h : Int))) (some (.int .i64 (m : Int)))).run Try.prog W = .ok (.slice (pcA A 0 m) h m) W := by
  obtain ⟨i0, hi, _, _, _⟩ := info_parts infoString
  have b1 : (h : Int) ≤ m := by omega
  have b2 : (m : Int) ≤ c := by omega
  have := sliced_pc A 0 h m
  rw [Nat.sub_zero, Nat.sub_zero] at this
  rw [← this]
  simp [Instr.sliceAt, Instr.slice, Instr.sliceBounds, run_underlying Try.underlying36, run_sliceBound, b1, b2, sizeOf, typeInfo, hi, Int.toNat_natCast, sliced]
theorem sl_lhm (A : Option Addr) (n c l h m : Nat) (h0 : l ≤ h) (h1 : h ≤ m) (h2 : m ≤ c) (W : World) :
    (Instr.sliceAt 36 (.slice A n c) (some (.int .i64 (l : Int))) (some (.int .i64 (h : Int))) (some (.int .i64 (m : Int)))).run Try.prog W = .ok (.slice (pcA A l m) (h - l) (m - l)) W := by
  obtain ⟨i0, hi, _, hs, _⟩ := info_parts infoString
  have b0 : (l : Int) ≤ h := by omega
  have b1 : (h : Int) ≤ m := by omega
  have b2 : (m : Int) ≤ c := by omega
  rw [← sliced_pc]
  simp [Instr.sliceAt, Instr.slice, Instr.sliceBounds, run_underlying Try.underlying36, run_sliceBound, b0, b1, b2, sizeOf, typeInfo, hi, hs, Int.toNat_natCast, sliced]
/-- A struct of three cells in a block. -/
structure Hk (w : World) (g : Nat) (t : TypeId) (at' : Int) (u v : Value) : Prop where
  b : Blk w g t #[.int .i64 at', u, v]
theorem Hk.c0 {w : World} {g : Nat} {t : TypeId} {at' : Int} {u v : Value} (h : Hk w g t at' u v) : w.cell? ⟨g, 0, none⟩ = some (.int .i64 at') := h.b.cell_ rfl
theorem Hk.c1 {w : World} {g : Nat} {t : TypeId} {at' : Int} {u v : Value} (h : Hk w g t at' u v) : w.cell? ⟨g, 1, none⟩ = some u := h.b.cell_ rfl
theorem Hk.c2 {w : World} {g : Nat} {t : TypeId} {at' : Int} {u v : Value} (h : Hk w g t at' u v) : w.cell? ⟨g, 2, none⟩ = some v := h.b.cell_ rfl
theorem Hk.below {w w' : World} {g : Nat} {t : TypeId} {at' : Int} {u v : Value} (h : Hk w g t at' u v) (hb : Below w.heap.size w w') : Hk w' g t at' u v := ⟨h.b.below hb⟩
theorem Hk.new (w : World) (t : TypeId) (at' : Int) (u v : Value) : Hk (w.alloc (.cells #[.int .i64 at', u, v] t)) w.heap.size t at' u v := ⟨Blk.new _ _ _⟩
theorem behind_any (at' : Int) (A : Option Addr) (n c : Nat) (B : Option Addr) (m d : Nat) (z : Int) (hz : wrap64 (at' + n) = z) (w : World) :
    Calls Try.prog 78 #[.agg #[.int .i64 at', .slice A n c, .slice B m d]] w fun e w' => e = .returned (.int .i64 z) ∧ Below w.heap.size w w' := by
  go_enter Try.func78, Try.ntmps78
  go_wp2
  go_ret
  exact ⟨by simp [hz], (Below.refl _ w).alloc (Nat.le_refl _) _⟩
/-- Whether a hunk fits lines (at 0 to so many). -/
def fitR (l old : List (List UInt8)) (at' : Nat) : Bool := decide (at' + old.length ≤ l.length) && decide ((l.drop at').take old.length = old)
set_option maxHeartbeats 4000000 in
theorem fits_any (L : Option Addr) (k e : Nat) (ls : List (List UInt8)) (hk : ls.length = k) (hke : k ≤ e) (bk : k ≤ 1000000) (at' : Nat) (ba : at' ≤ 1000000) (A : Option Addr) (n c : Nat) (old : List (List UInt8)) (hn : old.length = n) (bn : n ≤ 1000000) (B : Option Addr) (m d : Nat) (w : World)
    (hL : Rd w L (ls.map strV)) (hA : Rd w A (old.map strV)) :
    Calls Try.prog 77 #[.slice L k e, .agg #[.int .i64 (at' : Int), .slice A n c, .slice B m d]] w fun e w' => e = .returned (.bool (fitR ls old at')) ∧ Below w.heap.size w w' := by
  have hB0 : Below w.heap.size w (w.alloc (.cells #[.int .i64 (at' : Int), .slice A n c, .slice B m d] 64)) := (Below.refl _ w).alloc (Nat.le_refl _) _
  have hw : wrap64 ((at' : Int) + n) = ((at' + n : Nat) : Int) := by unfold wrap64; omega
  have cB := behind_any (at' : Int) A n c B m d _ hw
  have hh := Hk.new w 64 (at' : Int) (.slice A n c) (.slice B m d)
  generalize hW : w.alloc (.cells #[.int .i64 (at' : Int), .slice A n c, .slice B m d] 64) = W0 at *
  have c0 : ∀ p : LtW W0, p.w.cell? ⟨w.heap.size, 0, none⟩ = some (.int .i64 (at' : Int)) := fun p => (hh.below p.h).c0
  have c1 : ∀ p : LtW W0, p.w.cell? ⟨w.heap.size, 1, none⟩ = some (.slice A n c) := fun p => (hh.below p.h).c1
  have c2 : ∀ p : LtW W0, p.w.cell? ⟨w.heap.size, 2, none⟩ = some (.slice B m d) := fun p => (hh.below p.h).c2
  unfold fitR
  rw [hk, hn]
  by_cases hle : at' + n ≤ k
  · have z1 : ((at' + n : Nat) : Int) ≤ k := by omega
    have z2 : (at' : Int) + n ≤ k := by omega
    rw [decide_eq_true hle, Bool.true_and]
    have hs := sl_lh L k e at' (at' + n) (by omega) (by omega)
    rw [show at' + n - at' = n by omega, show ((at' + n : Nat) : Int) = (at' : Int) + n by omega] at hs
    have cE : ∀ p : LtW W0, Calls Try.prog 42 #[.slice (pcA L at' e) n (e - at'), .slice A n c] p.w fun e w' => e = .returned (.bool (decide ((ls.drop at').take n = old))) ∧ Below p.w.heap.size p.w w' := fun p => by
      have hB1 := hB0.trans (p.h.mono hB0.size)
      have hr := rd_piece (hL.below hB1) at' n e (by omega)
      rw [← List.map_drop, ← List.map_take] at hr
      exact sequal_any (pcA L at' e) A n n (e - at') c ((ls.drop at').take n) old (by rw [List.length_take, List.length_drop]; omega) hn (by omega) (by omega) p.w hr (hA.below hB1)
    generalize decide ((ls.drop at').take n = old) = V at *
    go_enter Try.func77, Try.ntmps77
    go_wp2_with (fail)
    try rw [hW]
    refine wp_region_lt mixed10 (by kernel_rfl) ?_
    repeat (first
      | ((with_reducible refine wpQuiet_skip (by with_unfolding_all rfl) ?_); simp only [Act.put, List.setIfInBounds_toArray, List.set_cons_zero, List.set_cons_succ])
      | ((with_reducible refine wpQuiet_step (fun K hK => ?_)); go_simp; first | ((with_reducible refine hK _ ?_); clear hK K) | (with_reducible apply Exists.intro; (with_reducible refine ⟨fun _ => ?_, hK _ ?_⟩); ((first | (go_at_call 78; exact lt_of (cB _)) | (go_at_call 42; exact lt_of (cE _)))); clear hK K)))
    with_reducible refine wpQuiet_nil ?_
    intro _ hw'
    obtain ⟨p, rfl⟩ := hw'
    have hp := p.h
    generalize p.w = w4 at *
    go_wp2
    go_ret
    exact ⟨by simp, hB0.trans (hp.mono hB0.size)⟩
  · have z1 : ¬ ((at' + n : Nat) : Int) ≤ k := by omega
    have z2 : ¬ (at' : Int) + n ≤ k := by omega
    have z4 : decide ((at' : Int) + n ≤ k) = false := decide_eq_false z2
    rw [decide_eq_false hle, Bool.false_and]
    clear z1
    go_enter Try.func77, Try.ntmps77
    go_wp2_with (fail)
    try rw [hW]
    refine wp_region_lt mixed10 (by kernel_rfl) ?_
    repeat (first
      | ((with_reducible refine wpQuiet_skip (by with_unfolding_all rfl) ?_); simp only [Act.put, List.setIfInBounds_toArray, List.set_cons_zero, List.set_cons_succ])
      | ((with_reducible refine wpQuiet_step (fun K hK => ?_)); go_simp; first | ((with_reducible refine hK _ ?_); clear hK K) | (with_reducible apply Exists.intro; (with_reducible refine ⟨fun _ => ?_, hK _ ?_⟩); (go_at_call 78; exact lt_of (cB _)); clear hK K) | (rw [if_neg z2]; (with_reducible refine hK _ ?_); clear hK K)))
    with_reducible refine wpQuiet_nil ?_
    intro _ hw'
    obtain ⟨p, rfl⟩ := hw'
    have hp := p.h
    generalize p.w = w4 at *
    go_wp2
    go_ret
    exact ⟨by simp, hB0.trans (hp.mono hB0.size)⟩
/-! ### a row of the call's own, made with room -/
def laysNm84_ren : Go.Shelf.Ren := ⟨fun | 4 => 89 | n => n, fun | 22 => 36 | 25 => 9 | 3 => 3 | 4 => 4 | 9 => 9 | 20 => 20 | 0 => 0 | n => n, fun | n => n⟩
theorem laysNm84 : Go.Proofs.Lays8.n4 Try.prog laysNm84_ren := {
  mixed := by kernel_rfl
  f4 := ⟨Try.f89.name, by decide, Try.func89.trans (congrArg some (by kernel_rfl))⟩
  t0 := Try.underlying0
  a0 := Try.isAgg0
  z0 := Try.sizeOf0
  v0 := Try.zeroValue0
  t3 := Try.underlying3
  a3 := Try.isAgg3
  z3 := Try.sizeOf3
  v3 := Try.zeroValue3
  t4 := Try.underlying4
  a4 := Try.isAgg4
  z4 := Try.sizeOf4
  v4 := Try.zeroValue4
  t9 := Try.underlying9
  a9 := Try.isAgg9
  z9 := Try.sizeOf9
  v9 := Try.zeroValue9
  t20 := Try.underlying20
  a20 := Try.isAgg20
  z20 := Try.sizeOf20
  v20 := Try.zeroValue20
  t22 := Try.underlying36
  a22 := Try.isAgg36
  z22 := Try.sizeOf36
  v22 := Try.zeroValue36 }
theorem grow_any (k : Nat) (hk : k ≤ 100000000) (w : World) :
    Calls Try.prog 89 #[.slice none 0 0, .int .i64 k] w fun e w' => ∃ v, e = .returned v ∧ w'.ownsRow w.heap.size 9 1 v 0 [] ∧ Below w.heap.size w w' := by
  by_cases h0 : k = 0
  · subst h0
    exact (Any8.slices_Grow_room laysNm84 none 0 0 0 w (Nat.le_refl _) (by decide) (by decide) (Nat.le_refl _)).mono (by rintro e w' ⟨rfl, rfl⟩; exact ⟨_, rfl, World.ownsRow_nil _ _ _ _, Below.refl _ _⟩)
  · obtain ⟨i0, hi, hz, hs, hb⟩ := info_parts infoString
    refine (Any8.slices_Grow_grow laysNm84 i0 (.string ⟨#[]⟩) hi hz (by omega) none 0 0 k [] w (Nat.le_refl _) (by omega) (by rw [hb]; omega) (by omega) (by simp) (fun _ => rfl) (fun a h => by cases h)).mono ?_
    rintro e w' ⟨rfl, rfl⟩
    refine ⟨_, rfl, ?_, (below_drew10 w).trans ((Below.refl w.heap.size w.drew).alloc (Nat.le_refl _) _)⟩
    have h1 := grownCap_ge w (0 + k) 0 (laysNm84_ren.t 25)
    have h2 := grownCap_le_maxLen w (0 + k) 0 (laysNm84_ren.t 25) (by unfold maxLen; omega)
    generalize grownCap w (0 + k) 0 (laysNm84_ren.t 25) = G at *
    refine World.ownsRow_made w.drew _ _ (Nat.le_refl _) h2 ?_
    simp only [Array.size_append, size_zeroCells, Value.cells, List.size_toArray, List.length_nil]
    simp
    omega
end Go.Proofs.Ytodfaakodgedbaa

namespace Go.Proofs.Ytodfaakodgedbaa
open Go.RowKit Go.Qc Go.Shelf
attribute [local go_sem] txt_size txt_append ib_fold txt_toL

/-- A slice that reads as a row of texts. -/
def Sl (w : World) (v : Value) (r : List (List UInt8)) : Prop := ∃ A n c, v = .slice A n c ∧ r.length = n ∧ (A = none → c = 0) ∧ Rd w A (r.map strV)
theorem Sl.below {w w' : World} {v : Value} {r : List (List UInt8)} (h : Sl w v r) (hb : Below w.heap.size w w') : Sl w' v r := by
  obtain ⟨A, n, c, rfl, h1, h0, h2⟩ := h
  exact ⟨A, n, c, rfl, h1, h0, h2.below hb⟩
set_option maxRecDepth 100000 in
set_option maxHeartbeats 4000000 in
theorem concat_any (ad : Addr) (N cc : Nat) (ss : List (Value × List (List UInt8))) (hN : ss.length = N) (bN : N ≤ 1000) (hl : ∀ x ∈ ss, x.2.length ≤ 10000) (w : World)
    (hc : ∀ W, Below w.heap.size w W → ∀ j x, ss[j]? = some x → W.cell? (ad.add j) = some x.1 ∧ Sl W x.1 x.2) :
    Calls Try.prog 79 #[.slice (some ad) N cc] w fun e w' => ∃ v, e = .returned v ∧ w'.ownsRow w.heap.size 9 1 v (ss.flatMap (·.2)).length ((ss.flatMap (·.2)).map strV) ∧ Below w.heap.size w w' := by
  obtain ⟨j0, hj, hjz, hjs, hjb⟩ := info_parts infoString
  have hsum : ∀ k, ((ss.take k).flatMap (·.2)).length ≤ k * 10000 := fun k => by
    induction k with
    | zero => simp
    | succ k ih =>
      by_cases hk : k < ss.length
      · rw [List.take_succ_eq_append_getElem hk, List.flatMap_append, List.length_append]
        have h1 := hl ss[k] (List.getElem_mem hk)
        have h2 : (([ss[k]] : List (Value × List (List UInt8))).flatMap (·.2)).length = ss[k].2.length := by simp
        rw [h2]
        omega
      · rw [List.take_of_length_le (by omega)] at ih ⊢
        omega
  have hB0 := Below.refl w.heap.size w
  obtain ⟨R, hR⟩ : ∃ R, R = ss.flatMap (·.2) := ⟨_, rfl⟩
  rw [← hR]
  have HR := hid hR
  clear hR
  have HC := hid hc
  have HSUM := hid hsum
  have HLL := hid hl
  clear hc hsum hl
  go_enter Try.func79, Try.ntmps79
  go_wp2
  go_loopw [3, 11] (fun z i wr => ∃ (k T : Nat), k ≤ N ∧ i = .int .i64 k ∧ z = .int .i64 T ∧ T = ((ss.take k).flatMap (·.2)).length ∧ w = wr) (fun _ i _ => N - (intOf i).toNat)
  case atStart => exact ⟨0, 0, by omega, rfl, rfl, by simp, by first | rfl | trivial⟩
  case round =>
    obtain ⟨k, T, hk, rfl, rfl, hT, rfl⟩ := hrel
    have hTb : T ≤ 10000000 := by have := HSUM.out k; omega
    have HT := hid hT
    clear hT
    by_cases hlt : k < N
    · obtain ⟨x, hx⟩ : ∃ x, ss[k]? = some x := ⟨_, List.getElem?_eq_getElem (by omega)⟩
      obtain ⟨hcell, A, n, c, hv, hn, _, _⟩ := HC.out w hB0 k x hx
      have hxl := HLL.out x (List.mem_of_getElem? hx)
      rw [hv] at hcell
      have HX := hid hx
      have b1 : (k : Int) < N := by omega
      have b2 : ¬ ((T : Int) + n) < 0 := by omega
      have hw : wrap64 ((T : Int) + n) = (T : Int) + n := by unfold wrap64; omega
      clear hx
      go_wp2
      go_roundw
      case rel =>
        refine ⟨k + 1, T + n, hlt, by go_num, by go_num, ?_, by first | rfl | trivial⟩
        rw [take_snoc HX.out, List.flatMap_append, List.length_append, HT.out, ← hn]
        simp
      case measure => simp [intOf]; omega
    · obtain rfl : N = k := by omega
      have b1 : ¬ (N : Int) < N := by omega
      clear HT
      go_wp2_with (go_at_call 89; (with_reducible refine (grow_any T (by omega) _).mono ?_); rintro e1 w1 ⟨v, rfl, hown, hB⟩)
      go_loopw [6, 27] (fun v i wr => ∃ (k : Nat), k ≤ N ∧ i = .int .i64 k ∧ wr.ownsRow w.heap.size 9 1 v ((ss.take k).flatMap (·.2)).length (((ss.take k).flatMap (·.2)).map strV) ∧ Below w.heap.size w wr) (fun _ i _ => N - (intOf i).toNat)
      case atStart => exact ⟨0, by omega, rfl, by simpa using hown, hB⟩
      case round =>
        clear hown hB
        obtain ⟨k, hk, rfl, hown, hB⟩ := hrel
        have hwz := hB.size
        have hlen := HSUM.out k
        obtain ⟨Q, hQ⟩ : ∃ Q, Q = (ss.take k).flatMap (·.2) := ⟨_, rfl⟩
        rw [← hQ] at hown hlen
        have HQ := hid hQ
        clear hQ
        by_cases hlt : k < N
        · obtain ⟨x, hx⟩ : ∃ x, ss[k]? = some x := ⟨_, List.getElem?_eq_getElem (by omega)⟩
          obtain ⟨hcell, A, n, c, hv, hn, hz, hrd⟩ := HC.out wr hB k x hx
          have hxl := HLL.out x (List.mem_of_getElem? hx)
          rw [hv] at hcell
          have HX := hid hx
          have b1 : (k : Int) < N := by omega
          clear hx
          have hstep : (ss.take (k + 1)).flatMap (·.2) = Q ++ x.2 := by
            rw [take_snoc HX.out, List.flatMap_append, HQ.out]; simp
          have HS := hid hstep
          clear hstep
          cases A with
          | none =>
            obtain rfl : c = 0 := hz rfl
            have hx2 : x.2 = [] := by
              rcases hrd with h | ⟨_, h, _⟩
              · simpa using h
              · cases h
            obtain rfl : n = 0 := by rw [← hn, hx2]; rfl
            have HX2 := hid hx2
            clear hx2 hrd hz
            go_wp2_with (at_builtin; refine wpList_append_own_none rfl _ _ 36 rfl w.heap.size 9 j0 1 Try.underlying36 hj _ _ _ rfl hown rfl ?_)
            go_roundw
            case rel => exact ⟨k + 1, hlt, by go_num, by rw [HS.out, HX2.out, List.append_nil]; exact hown, hB⟩
            case measure => simp [intOf]; omega
          | some ad2 =>
            have hcells : ∀ j u, (x.2.map strV)[j]? = some u → wr.cell? (ad2.add j) = some u := by
              rcases hrd with h | ⟨ad3, h3, h4⟩
              · intro j u hu; rw [h] at hu; simp at hu
              · cases h3; exact h4
            have HL := hid hlen
            clear hlen hz hrd
            go_wp2_with (at_builtin; refine wpList_append_own _ rfl _ _ 36 rfl w.heap.size 9 j0 (.string ⟨#[]⟩) 1 16 Try.underlying36 hj hjz hjs hjb rfl (by decide) _ _ _ rfl hown ad2 n c (x.2.map strV) rfl ?l1 hcells ?l2 ?l3 ?l4 hwz ?_)
            case l1 => rw [List.length_map]; omega
            case l2 =>
              intro u hu
              first | rfl | (obtain ⟨y, _, rfl⟩ := List.mem_map.1 hu; rfl)
            case l3 => have := HL.out; unfold maxLen; omega
            case l4 => have := HL.out; omega
            intro v8 w8 hown8 hg8 _
            have hB8 : Below w.heap.size w w8 := hB.grown hg8 hwz (fun q hq => (hown.lt q hq).1)
            go_wp2
            go_roundw
            case rel =>
              refine ⟨k + 1, hlt, by go_num, ?_, hB8⟩
              rw [HS.out, List.length_append, List.map_append, hn]
              exact hown8
            case measure => simp [intOf]; omega
        · obtain rfl : k = N := by omega
          have b1 : ¬ (k : Int) < k := by omega
          have hQR : Q = R := by rw [HQ.out, HR.out, List.take_of_length_le (by omega)]
          subst hQR
          clear hlen
          go_wp2
          go_ret
          exact ⟨_, rfl, hown, hB⟩
end Go.Proofs.Ytodfaakodgedbaa

namespace Go.Proofs.Ytodfaakodgedbaa
open Go.RowKit Go.Qc Go.Shelf
attribute [local go_sem] txt_size txt_append ib_fold txt_toL

theorem hright_any (at' : Int) (A : Option Addr) (n c : Nat) (old : List (List UInt8)) (hn : old.length = n) (bn : n ≤ 1000000) (B : Option Addr) (m d : Nat) (new : List (List UInt8)) (hm : new.length = m) (bm : m ≤ 1000000) (w : World)
    (hA : Rd w A (old.map strV)) (hB : Rd w B (new.map strV)) :
    Calls Try.prog 58 #[.agg #[.int .i64 at', .slice A n c, .slice B m d]] w fun e w' => e = .returned (.bool (hunkR at' old new)) ∧ Below w.heap.size w w' := by
  have := hright_gen at' A n c B m d bn bm (linesR old) (linesR new) w
    (fun W hb => (lines_any A n c old hn (by omega) W (hA.below hb)).mono (by rintro e w' ⟨h1, h2⟩; exact ⟨h1, h2⟩))
    (fun W hb => (lines_any B m d new hm (by omega) W (hB.below hb)).mono (by rintro e w' ⟨h1, h2⟩; exact ⟨h1, h2⟩))
  unfold hunkR
  rw [hn, hm]
  exact this

set_option maxRecDepth 100000 in
set_option maxHeartbeats 2000000 in
theorem app_form (L : Option Addr) (k e : Nat) (at' : Int) (A : Option Addr) (n c : Nat) (B : Option Addr) (m d : Nat) (w : World)
    (cR : ∀ W, Below w.heap.size w W → Calls Try.prog 58 #[.agg #[.int .i64 at', .slice A n c, .slice B m d]] W fun e w' => e = .returned (.bool false) ∧ Below W.heap.size W w')
    : Calls Try.prog 63 #[.slice L k e, .agg #[.int .i64 at', .slice A n c, .slice B m d]] w fun e w' => e = .returned (.tuple #[.slice none 0 0, .int .i64 3]) ∧ Below w.heap.size w w' := by
  have hX : Below w.heap.size w (w.alloc (.cells #[.int .i64 at', .slice A n c, .slice B m d] 64)) := (Below.refl _ w).alloc (Nat.le_refl _) _
  have hh := Hk.new w 64 at' (.slice A n c) (.slice B m d)
  go_enter Try.func63, Try.ntmps63
  go_wp2_with (first
    | (go_at_call 58; (with_reducible refine (cR _ hX).mono ?_); rintro e1 w1 ⟨rfl, hb⟩; replace hh := hh.below hb; replace hX := hX.trans (hb.mono hX.size); clear hb; have c0 := hh.c0; have c1 := hh.c1; have c2 := hh.c2)
    | (go_at_call 77; (with_reducible refine (cF _ hX).mono ?_); rintro e2 w2 ⟨rfl, hb⟩; clear c0 c1 c2; replace hh := hh.below hb; replace hX := hX.trans (hb.mono hX.size); clear hb; have c0 := hh.c0; have c1 := hh.c1; have c2 := hh.c2))
  go_ret2
  exact ⟨rfl, hX⟩

set_option maxRecDepth 100000 in
set_option maxHeartbeats 2000000 in
theorem app_range (L : Option Addr) (k e : Nat) (at' : Int) (A : Option Addr) (n c : Nat) (B : Option Addr) (m d : Nat) (w : World)
    (h1 : (k : Int) < at')
    (cR : ∀ W, Below w.heap.size w W → Calls Try.prog 58 #[.agg #[.int .i64 at', .slice A n c, .slice B m d]] W fun e w' => e = .returned (.bool true) ∧ Below W.heap.size W w')
    : Calls Try.prog 63 #[.slice L k e, .agg #[.int .i64 at', .slice A n c, .slice B m d]] w fun e w' => e = .returned (.tuple #[.slice none 0 0, .int .i64 5]) ∧ Below w.heap.size w w' := by
  have hX : Below w.heap.size w (w.alloc (.cells #[.int .i64 at', .slice A n c, .slice B m d] 64)) := (Below.refl _ w).alloc (Nat.le_refl _) _
  have hh := Hk.new w 64 at' (.slice A n c) (.slice B m d)
  go_enter Try.func63, Try.ntmps63
  go_wp2_with (first
    | (go_at_call 58; (with_reducible refine (cR _ hX).mono ?_); rintro e1 w1 ⟨rfl, hb⟩; replace hh := hh.below hb; replace hX := hX.trans (hb.mono hX.size); clear hb; have c0 := hh.c0; have c1 := hh.c1; have c2 := hh.c2)
    | (go_at_call 77; (with_reducible refine (cF _ hX).mono ?_); rintro e2 w2 ⟨rfl, hb⟩; clear c0 c1 c2; replace hh := hh.below hb; replace hX := hX.trans (hb.mono hX.size); clear hb; have c0 := hh.c0; have c1 := hh.c1; have c2 := hh.c2))
  go_ret2
  exact ⟨rfl, hX⟩

set_option maxRecDepth 100000 in
set_option maxHeartbeats 2000000 in
theorem app_clash (L : Option Addr) (k e : Nat) (at' : Int) (A : Option Addr) (n c : Nat) (B : Option Addr) (m d : Nat) (w : World)
    (h1 : ¬ (k : Int) < at')
    (cR : ∀ W, Below w.heap.size w W → Calls Try.prog 58 #[.agg #[.int .i64 at', .slice A n c, .slice B m d]] W fun e w' => e = .returned (.bool true) ∧ Below W.heap.size W w')
    (cF : ∀ W, Below w.heap.size w W → Calls Try.prog 77 #[.slice L k e, .agg #[.int .i64 at', .slice A n c, .slice B m d]] W fun e w' => e = .returned (.bool false) ∧ Below W.heap.size W w')
    : Calls Try.prog 63 #[.slice L k e, .agg #[.int .i64 at', .slice A n c, .slice B m d]] w fun e w' => e = .returned (.tuple #[.slice none 0 0, .int .i64 12]) ∧ Below w.heap.size w w' := by
  have hX : Below w.heap.size w (w.alloc (.cells #[.int .i64 at', .slice A n c, .slice B m d] 64)) := (Below.refl _ w).alloc (Nat.le_refl _) _
  have hh := Hk.new w 64 at' (.slice A n c) (.slice B m d)
  go_enter Try.func63, Try.ntmps63
  go_wp2_with (first
    | (go_at_call 58; (with_reducible refine (cR _ hX).mono ?_); rintro e1 w1 ⟨rfl, hb⟩; replace hh := hh.below hb; replace hX := hX.trans (hb.mono hX.size); clear hb; have c0 := hh.c0; have c1 := hh.c1; have c2 := hh.c2)
    | (go_at_call 77; (with_reducible refine (cF _ hX).mono ?_); rintro e2 w2 ⟨rfl, hb⟩; clear c0 c1 c2; replace hh := hh.below hb; replace hX := hX.trans (hb.mono hX.size); clear hb; have c0 := hh.c0; have c1 := hh.c1; have c2 := hh.c2))
  go_ret2
  exact ⟨rfl, hX⟩

set_option maxRecDepth 100000 in
set_option maxHeartbeats 2000000 in
theorem app_long (L : Option Addr) (k e : Nat) (at' : Int) (A : Option Addr) (n c : Nat) (B : Option Addr) (m d : Nat) (w : World)
    (h1 : ¬ (k : Int) < at') (bk : k ≤ 1000) (bn : n ≤ 1000) (bm : m ≤ 1000) (hl : (1000 : Int) < (k : Int) - n + m)
    (cR : ∀ W, Below w.heap.size w W → Calls Try.prog 58 #[.agg #[.int .i64 at', .slice A n c, .slice B m d]] W fun e w' => e = .returned (.bool true) ∧ Below W.heap.size W w')
    (cF : ∀ W, Below w.heap.size w W → Calls Try.prog 77 #[.slice L k e, .agg #[.int .i64 at', .slice A n c, .slice B m d]] W fun e w' => e = .returned (.bool true) ∧ Below W.heap.size W w')
    : Calls Try.prog 63 #[.slice L k e, .agg #[.int .i64 at', .slice A n c, .slice B m d]] w fun e w' => e = .returned (.tuple #[.slice none 0 0, .int .i64 4]) ∧ Below w.heap.size w w' := by
  have hX : Below w.heap.size w (w.alloc (.cells #[.int .i64 at', .slice A n c, .slice B m d] 64)) := (Below.refl _ w).alloc (Nat.le_refl _) _
  have hh := Hk.new w 64 at' (.slice A n c) (.slice B m d)
  have hw1 : wrap64 ((k : Int) - n) = (k : Int) - n := by unfold wrap64; omega
  have hw2 : wrap64 ((k : Int) - n + m) = (k : Int) - n + m := by unfold wrap64; omega
  go_enter Try.func63, Try.ntmps63
  go_wp2_with (first
    | (go_at_call 58; (with_reducible refine (cR _ hX).mono ?_); rintro e1 w1 ⟨rfl, hb⟩; replace hh := hh.below hb; replace hX := hX.trans (hb.mono hX.size); clear hb; have c0 := hh.c0; have c1 := hh.c1; have c2 := hh.c2)
    | (go_at_call 77; (with_reducible refine (cF _ hX).mono ?_); rintro e2 w2 ⟨rfl, hb⟩; clear c0 c1 c2; replace hh := hh.below hb; replace hX := hX.trans (hb.mono hX.size); clear hb; have c0 := hh.c0; have c1 := hh.c1; have c2 := hh.c2))
  go_ret2
  exact ⟨rfl, hX⟩

set_option maxRecDepth 100000 in
set_option maxHeartbeats 8000000 in
theorem app_ok (L : Option Addr) (k e : Nat) (at' : Int) (A : Option Addr) (n c : Nat) (B : Option Addr) (m d : Nat) (w : World)
    (h1 : ¬ (k : Int) < at') (h2 : -10000 ≤ at') (hb3 : k ≤ 1000 ∧ n ≤ 1000 ∧ m ≤ 1000) (hl : ¬ (1000 : Int) < (k : Int) - n + m)
    (cR : ∀ W, Below w.heap.size w W → Calls Try.prog 58 #[.agg #[.int .i64 at', .slice A n c, .slice B m d]] W fun e w' => e = .returned (.bool true) ∧ Below W.heap.size W w')
    (cF : ∀ W, Below w.heap.size w W → Calls Try.prog 77 #[.slice L k e, .agg #[.int .i64 at', .slice A n c, .slice B m d]] W fun e w' => e = .returned (.bool true) ∧ Below W.heap.size W w')
    (A1 A2 : Option Addr) (n1 d1 n2 d2 : Nat) (R : List (List UInt8))
    (s1 : ∀ W, (Instr.sliceAt 36 (.slice L k e) none (some (.int .i64 at')) (some (.int .i64 at'))).run Try.prog W = .ok (.slice A1 n1 d1) W)
    (s2 : ∀ W, (Instr.sliceAt 36 (.slice L k e) (some (.int .i64 (at' + n))) (some (.int .i64 (k : Int))) (some (.int .i64 (k : Int)))).run Try.prog W = .ok (.slice A2 n2 d2) W)
    (cC : ∀ W, Below w.heap.size w W → Calls Try.prog 79 #[.slice (some ⟨W.heap.size, 0, none⟩) 3 3] (W.alloc (.cells #[.slice A1 n1 d1, .slice B m d, .slice A2 n2 d2] 36)) fun e w' => ∃ v, e = .returned v ∧ w'.ownsRow w.heap.size 9 1 v R.length (R.map strV) ∧ Below w.heap.size w w')
    : Calls Try.prog 63 #[.slice L k e, .agg #[.int .i64 at', .slice A n c, .slice B m d]] w fun e w' => ∃ v, e = .returned (.tuple #[v, .int .i64 0]) ∧ w'.ownsRow w.heap.size 9 1 v R.length (R.map strV) ∧ Below w.heap.size w w' := by
  have hX : Below w.heap.size w (w.alloc (.cells #[.int .i64 at', .slice A n c, .slice B m d] 64)) := (Below.refl _ w).alloc (Nat.le_refl _) _
  have hh := Hk.new w 64 at' (.slice A n c) (.slice B m d)
  have hw1 : wrap64 ((k : Int) - n) = (k : Int) - n := by unfold wrap64; omega
  have hw2 : wrap64 ((k : Int) - n + m) = (k : Int) - n + m := by unfold wrap64; omega
  have hw : wrap64 (at' + n) = at' + n := by unfold wrap64; omega
  have cB := behind_any at' A n c B m d _ hw
  obtain ⟨bk, bn, bm⟩ := hb3
  go_enter Try.func63, Try.ntmps63
  go_wp2_with (first
    | (go_at_call 58; (with_reducible refine (cR _ hX).mono ?_); rintro e1 w1 ⟨rfl, hb⟩; replace hh := hh.below hb; replace hX := hX.trans (hb.mono hX.size); clear hb; have c0 := hh.c0; have c1 := hh.c1; have c2 := hh.c2)
    | (go_at_call 77; (with_reducible refine (cF _ hX).mono ?_); rintro e2 w2 ⟨rfl, hb⟩; clear c0 c1 c2; replace hh := hh.below hb; replace hX := hX.trans (hb.mono hX.size); clear hb; have c0 := hh.c0; have c1 := hh.c1; have c2 := hh.c2))
  have l0 : ∀ p : LtW w2, p.w.cell? ⟨w.heap.size, 0, none⟩ = some (.int .i64 at') := fun p => (hh.below p.h).c0
  have l1 : ∀ p : LtW w2, p.w.cell? ⟨w.heap.size, 1, none⟩ = some (.slice A n c) := fun p => (hh.below p.h).c1
  have l2 : ∀ p : LtW w2, p.w.cell? ⟨w.heap.size, 2, none⟩ = some (.slice B m d) := fun p => (hh.below p.h).c2
  clear c0 c1 c2
  refine wp_region_lt mixed10 (by kernel_rfl) ?_
  repeat (first
    | ((with_reducible refine wpQuiet_skip (by with_unfolding_all rfl) ?_); simp only [Act.put, List.setIfInBounds_toArray, List.set_cons_zero, List.set_cons_succ])
    | ((with_reducible refine wpQuiet_step (fun K hK => ?_)); go_simp; first | ((with_reducible refine hK _ ?_); clear hK K) | (with_reducible apply Exists.intro; (with_reducible refine ⟨fun _ => ?_, hK _ ?_⟩); (go_at_call 78; exact lt_of (cB _)); clear hK K)))
  with_reducible refine wpQuiet_nil ?_
  intro _ hw'
  obtain ⟨p, rfl⟩ := hw'
  have hp := p.h
  replace hh := hh.below hp
  replace hX := hX.trans (hp.mono hX.size)
  generalize p.w = w4 at *
  clear l0 l1 l2
  have c2 := hh.c2
  go_wp2_with (go_at_call 79; (with_reducible refine (cC _ hX).mono ?_); rintro e5 w5 ⟨v, rfl, hown, hb⟩)
  go_ret2
  exact ⟨v, rfl, hown, hb⟩

/-- Lines with a hunk; what is wrong. -/
def appR (l : List (List UInt8)) (at' : Int) (old new : List (List UInt8)) : List (List UInt8) × Int :=
  if hunkR at' old new = false then ([], 3) else if (l.length : Int) < at' then ([], 5) else if fitR l old at'.toNat = false then ([], 12)
  else if 1000 < l.length - old.length + new.length then ([], 4) else (l.take at'.toNat ++ (new ++ l.drop (at'.toNat + old.length)), 0)
theorem hunkR_at {at' : Int} {old new : List (List UInt8)} (h : hunkR at' old new = true) : 0 ≤ at' ∧ at' ≤ 1000 := by
  unfold hunkR at h
  rw [Bool.and_eq_true, Bool.and_eq_true, decide_eq_true_eq, decide_eq_true_eq] at h
  exact ⟨h.1, h.2.1⟩
theorem applied_any (L : Option Addr) (k e : Nat) (ls : List (List UInt8)) (hk : ls.length = k) (hke : k ≤ e) (hL0 : L = none → e = 0) (bk : k ≤ 1000) (at' : Int) (A : Option Addr) (n c : Nat) (old : List (List UInt8)) (hn : old.length = n) (bn : n ≤ 1000) (B : Option Addr) (m d : Nat) (new : List (List UInt8)) (hm : new.length = m) (bm : m ≤ 1000) (hB0 : B = none → d = 0) (w : World)
    (hL : Rd w L (ls.map strV)) (hA : Rd w A (old.map strV)) (hB : Rd w B (new.map strV)) :
    Calls Try.prog 63 #[.slice L k e, .agg #[.int .i64 at', .slice A n c, .slice B m d]] w fun e w' => ∃ v, e = .returned (.tuple #[v, .int .i64 (appR ls at' old new).2]) ∧ w'.ownsRow w.heap.size 9 1 v (appR ls at' old new).1.length ((appR ls at' old new).1.map strV) ∧ Below w.heap.size w w' := by
  have cR : ∀ W, Below w.heap.size w W → Calls Try.prog 58 #[.agg #[.int .i64 at', .slice A n c, .slice B m d]] W fun e w' => e = .returned (.bool (hunkR at' old new)) ∧ Below W.heap.size W w' := fun W hb => hright_any at' A n c old hn (by omega) B m d new hm (by omega) W (hA.below hb) (hB.below hb)
  have nil : ∀ (z : Int) (e : Ending) (w' : World), e = .returned (.tuple #[.slice none 0 0, .int .i64 z]) ∧ Below w.heap.size w w' → ∃ v, e = .returned (.tuple #[v, .int .i64 z]) ∧ w'.ownsRow w.heap.size 9 1 v ([] : List (List UInt8)).length (([] : List (List UInt8)).map strV) ∧ Below w.heap.size w w' := fun z e w' h => ⟨_, h.1, World.ownsRow_nil _ _ _ _, h.2⟩
  unfold appR
  rw [hk, hn, hm]
  cases hR : hunkR at' old new with
  | false =>
    rw [hR] at cR
    rw [if_pos rfl]
    exact (app_form L k e at' A n c B m d w cR).mono (nil 3)
  | true =>
    rw [hR] at cR
    obtain ⟨h0, h1⟩ := hunkR_at hR
    rw [if_neg (by simp)]
    by_cases hka : (k : Int) < at'
    · rw [if_pos hka]
      exact (app_range L k e at' A n c B m d w hka cR).mono (nil 5)
    rw [if_neg hka]
    obtain ⟨a, rfl⟩ : ∃ a : Nat, at' = a := ⟨at'.toNat, by omega⟩
    rw [Int.toNat_natCast]
    have cF : ∀ W, Below w.heap.size w W → Calls Try.prog 77 #[.slice L k e, .agg #[.int .i64 (a : Int), .slice A n c, .slice B m d]] W fun e w' => e = .returned (.bool (fitR ls old a)) ∧ Below W.heap.size W w' := fun W hb => fits_any L k e ls hk hke (by omega) a (by omega) A n c old hn (by omega) B m d W (hL.below hb) (hA.below hb)
    cases hF : fitR ls old a with
    | false =>
      rw [hF] at cF
      rw [if_pos rfl]
      exact (app_clash L k e a A n c B m d w hka cR cF).mono (nil 12)
    | true =>
      rw [hF] at cF
      rw [if_neg (by simp)]
      have hle : a + n ≤ k := by
        unfold fitR at hF
        rw [Bool.and_eq_true, decide_eq_true_eq, hn, hk] at hF
        exact hF.1
      by_cases hlong : 1000 < k - n + m
      · rw [if_pos hlong]
        exact (app_long L k e a A n c B m d w hka bk bn bm (by omega) cR cF).mono (nil 4)
      · rw [if_neg hlong]
        have s1 := sl_hm L k e a a (Nat.le_refl _) (by omega)
        have s2 := sl_lhm L k e (a + n) k k hle (Nat.le_refl _) hke
        rw [show ((a + n : Nat) : Int) = (a : Int) + n by omega] at s2
        refine app_ok L k e a A n c B m d w hka (by omega) ⟨bk, bn, bm⟩ (by omega) cR cF (pcA L 0 a) (pcA L (a + n) k) a a (k - (a + n)) (k - (a + n)) (ls.take a ++ (new ++ ls.drop (a + n))) s1 s2 (fun W hb => ?_)
        have hw1 : (W.alloc (.cells #[.slice (pcA L 0 a) a a, .slice B m d, .slice (pcA L (a + n) k) (k - (a + n)) (k - (a + n))] 36)).heap.size = W.heap.size + 1 := by simp
        have hbW : Below W.heap.size W (W.alloc (.cells #[.slice (pcA L 0 a) a a, .slice B m d, .slice (pcA L (a + n) k) (k - (a + n)) (k - (a + n))] 36)) := (Below.refl _ W).alloc (Nat.le_refl _) _
        have p1 : Sl w (.slice (pcA L 0 a) a a) (ls.take a) := by
          refine ⟨_, _, _, rfl, by rw [List.length_take]; omega, fun h => ?_, ?_⟩
          · unfold pcA at h
            by_cases h2 : a = 0
            · exact h2
            · rw [if_neg h2] at h
              cases L with
              | none => have := hL0 rfl; omega
              | some x => cases h
          · have := rd_piece hL 0 a a (by omega)
            rw [List.drop_zero, ← List.map_take] at this
            exact this
        have p3 : Sl w (.slice (pcA L (a + n) k) (k - (a + n)) (k - (a + n))) (ls.drop (a + n)) := by
          refine ⟨_, _, _, rfl, by rw [List.length_drop]; omega, fun h => ?_, ?_⟩
          · unfold pcA at h
            by_cases h2 : k = a + n
            · omega
            · rw [if_neg h2] at h
              cases L with
              | none => have := hL0 rfl; omega
              | some x => cases h
          · have := rd_piece hL (a + n) (k - (a + n)) k (Nat.le_refl _)
            rw [← List.map_drop, List.take_of_length_le (by rw [List.length_map, List.length_drop]; omega)] at this
            exact this
        have p2 : Sl w (.slice B m d) new := ⟨_, _, _, rfl, hm, hB0, hB⟩
        have hcat := concat_any ⟨W.heap.size, 0, none⟩ 3 3 [(.slice (pcA L 0 a) a a, ls.take a), (.slice B m d, new), (.slice (pcA L (a + n) k) (k - (a + n)) (k - (a + n)), ls.drop (a + n))] rfl (by omega) (by
          intro x hx
          simp only [List.mem_cons, List.not_mem_nil, or_false] at hx
          rcases hx with rfl | rfl | rfl
          · show (ls.take a).length ≤ 10000; rw [List.length_take]; omega
          · show new.length ≤ 10000; omega
          · show (ls.drop (a + n)).length ≤ 10000; rw [List.length_drop]; omega) _ (by
          intro W2 h2 j x hx
          have hw2 : Below w.heap.size w W2 := hb.trans ((hbW.mono hb.size).trans (h2.mono (by rw [hw1]; have := hb.size; omega)))
          have hblk := (Blk.new W 36 #[.slice (pcA L 0 a) a a, .slice B m d, .slice (pcA L (a + n) k) (k - (a + n)) (k - (a + n))]).below h2
          have hlit : ∀ j, (⟨W.heap.size, 0, none⟩ : Addr).add j = ⟨W.heap.size, j, none⟩ := fun j => by unfold Addr.add; split <;> simp_all
          rw [hlit]
          match j, hx with
          | 0, hx => cases hx; exact ⟨hblk.cell_ rfl, p1.below hw2⟩
          | 1, hx => cases hx; exact ⟨hblk.cell_ rfl, p2.below hw2⟩
          | 2, hx => cases hx; exact ⟨hblk.cell_ rfl, p3.below hw2⟩
          | j + 3, hx => simp at hx)
        refine hcat.mono ?_
        rintro e w' ⟨v, rfl, hown, hb2⟩
        rw [hw1] at hown hb2
        refine ⟨v, rfl, ?_, hb.trans ((hbW.mono hb.size).trans (hb2.mono (by have := hb.size; omega)))⟩
        have he : ([(.slice (pcA L 0 a) a a, ls.take a), (.slice B m d, new), (.slice (pcA L (a + n) k) (k - (a + n)) (k - (a + n)), ls.drop (a + n))] : List (Value × List (List UInt8))).flatMap (·.2) = ls.take a ++ (new ++ ls.drop (a + n)) := by simp
        rw [he] at hown
        exact own_base hown (by have := hb.size; omega)

end Go.Proofs.Ytodfaakodgedbaa

namespace Go.Proofs.Ytodfaakodgedbaa
open Go.RowKit Go.Qc Go.Shelf
attribute [local go_sem] txt_size txt_append ib_fold txt_toL

set_option maxHeartbeats 2000000 in
theorem clones_any (A : Option Addr) (n c : Nat) (l : List (List UInt8)) (hn : l.length = n) (bn : n ≤ 1000000) (w : World) (hr : Rd w A (l.map strV)) :
    Calls Try.prog 19 #[.slice A n c] w fun e w' => ∃ v, e = .returned v ∧ w'.ownsRow w.heap.size 9 1 v n (l.map strV) ∧ Below w.heap.size w w' := by
  obtain ⟨j0, hj, hjz, hjs, hjb⟩ := info_parts infoString
  have qN : ∀ (W : World) (a : Option Addr) (n c n' c' : Nat), (binOp .eql 36 (.slice a n c) (.slice none n' c')).run Try.prog W = .ok (.bool a.isNone) W := fun W a n c n' c' => Lib.run_eql_slice_nil W _ _ a n c n' c' Try.underlying36
  cases A with
  | none =>
    obtain rfl : l = [] := by
      rcases hr with h | ⟨_, h, _⟩
      · simpa using h
      · cases h
    obtain rfl : n = 0 := hn.symm
    clear hr
    go_enter Try.func19, Try.ntmps19
    go_wp2
    go_ret
    exact ⟨_, rfl, World.ownsRow_nil _ _ _ _, Below.refl _ _⟩
  | some ad =>
    have hc : ∀ j u, (l.map strV)[j]? = some u → w.cell? (ad.add j) = some u := by
      rcases hr with h | ⟨a, h, hr⟩
      · intro j u hu; rw [h] at hu; simp at hu
      · cases h; exact hr
    have h1 : ∀ u ∈ l.map strV, u.oneCell' = true := by
      intro u hu
      obtain ⟨a, _, rfl⟩ := List.mem_map.1 hu
      rfl
    have hl2 : (l.map strV).length = n * 1 := by rw [List.length_map]; omega
    generalize l.map strV = R at *
    have HC := hid hc
    clear hr hn hc
    go_enter Try.func19, Try.ntmps19
    go_wp2_with (at_builtin; refine wpList_append_own _ rfl _ _ 36 rfl w.heap.size 9 j0 (.string ⟨#[]⟩) 1 16 Try.underlying36 hj hjz hjs hjb rfl (by decide) _ _ _ rfl (World.ownsRow_made w #[] 0 (Nat.le_refl _) (by decide) rfl) ad n c R rfl hl2 ?l6 h1 ?l2 ?l3 ?l4 ?_)
    case l6 => intro j u hju; exact Lib.cell?_alloc_some _ (HC.out j u hju)
    case l2 => unfold maxLen; omega
    case l3 => omega
    case l4 => simp
    intro v' w1 hown hgrow _
    go_wp2
    go_ret
    exact ⟨v', rfl, by simpa using hown, ((Below.refl _ w).alloc (Nat.le_refl _) _).grown hgrow (by simp) (by intro k hk; simp [Value.ownBlock] at hk; omega)⟩
theorem apply_any (L : Option Addr) (k e : Nat) (ls : List (List UInt8)) (hk : ls.length = k) (hke : k ≤ e) (hL0 : L = none → e = 0) (bk : k ≤ 1000) (at' : Int) (A : Option Addr) (n c : Nat) (old : List (List UInt8)) (hn : old.length = n) (bn : n ≤ 1000) (B : Option Addr) (m d : Nat) (new : List (List UInt8)) (hm : new.length = m) (bm : m ≤ 1000) (hB0 : B = none → d = 0) (w : World)
    (hL : Rd w L (ls.map strV)) (hA : Rd w A (old.map strV)) (hB : Rd w B (new.map strV)) :
    Calls Try.prog 44 #[.slice L k e, .agg #[.int .i64 at', .slice A n c, .slice B m d]] w fun e w' => ∃ v, e = .returned (.tuple #[v, .int .i64 (if linesR ls then (appR ls at' old new).2 else 3)]) ∧ w'.ownsRow w.heap.size 9 1 v (if linesR ls then (appR ls at' old new).1 else []).length ((if linesR ls then (appR ls at' old new).1 else []).map strV) ∧ Below w.heap.size w w' := by
  have hX : Below w.heap.size w (w.alloc (.cells #[.int .i64 at', .slice A n c, .slice B m d] 64)) := (Below.refl _ w).alloc (Nat.le_refl _) _
  have hh := Hk.new w 64 at' (.slice A n c) (.slice B m d)
  have cL : ∀ W, Below w.heap.size w W → Calls Try.prog 59 #[.slice L k e] W fun e w' => e = .returned (.bool (linesR ls)) ∧ W = w' := fun W hb => lines_any L k e ls hk (by omega) W (hL.below hb)
  have cA : ∀ W, Below w.heap.size w W → Calls Try.prog 63 #[.slice L k e, .agg #[.int .i64 at', .slice A n c, .slice B m d]] W fun e w' => ∃ v, e = .returned (.tuple #[v, .int .i64 (appR ls at' old new).2]) ∧ w'.ownsRow W.heap.size 9 1 v (appR ls at' old new).1.length ((appR ls at' old new).1.map strV) ∧ Below W.heap.size W w' := fun W hb => applied_any L k e ls hk hke hL0 bk at' A n c old hn bn B m d new hm bm hB0 W (hL.below hb) (hA.below hb) (hB.below hb)
  generalize appR ls at' old new = P at *
  cases hl : linesR ls with
  | true =>
    rw [hl] at cL
    simp only [if_true]
    clear hl hk hke bk hn bn hm bm hB0 hL hA hB hL0
    go_enter Try.func44, Try.ntmps44
    go_wp2_with (first
      | (go_at_call 59; (with_reducible refine (cL _ hX).mono ?_); rintro e1 w1 ⟨rfl, rfl⟩)
      | (go_at_call 63; (with_reducible refine (cA _ hX).mono ?_); rintro e2 w2 ⟨v, rfl, hown, hb⟩))
    go_ret2
    exact ⟨v, rfl, own_base hown hX.size, hX.trans (hb.mono hX.size)⟩
  | false =>
    rw [hl] at cL
    simp only [if_false, Bool.false_eq_true]
    clear hl hk hke bk hn bn hm bm hB0 hL hA hB hL0 cA
    go_enter Try.func44, Try.ntmps44
    go_wp2_with (go_at_call 59; (with_reducible refine (cL _ hX).mono ?_); rintro e1 w1 ⟨rfl, rfl⟩)
    go_ret2
    exact ⟨_, rfl, World.ownsRow_nil _ _ _ _, hX⟩
/-! ### the document's -/
set_option maxHeartbeats 8000000 in
theorem rhright_gen (at' : Int) (A : Option Addr) (n c : Nat) (B : Option Addr) (m d : Nat) (O N : Bool) (w : World)
    (cO : ∀ W, Below w.heap.size w W → Calls Try.prog 49 #[.slice A n c] W fun e w' => e = .returned (.bool O) ∧ W = w')
    (cN : ∀ W, Below w.heap.size w W → Calls Try.prog 49 #[.slice B m d] W fun e w' => e = .returned (.bool N) ∧ W = w') :
    Calls Try.prog 50 #[.agg #[.int .i64 at', .slice A n c, .slice B m d]] w fun e w' => e = .returned (.bool (decide (0 ≤ at') && (decide (at' ≤ 1000) && (O && (N && decide (0 < n + m)))))) ∧ Below w.heap.size w w' := by
  have hB : Below w.heap.size w (w.alloc (.cells #[.int .i64 at', .slice A n c, .slice B m d] 73)) := (Below.refl _ w).alloc (Nat.le_refl _) _
  by_cases h0 : (0 : Int) ≤ at'
  case neg =>
    rw [decide_eq_false h0, Bool.false_and]
    go_enter Try.func50, Try.ntmps50
    go_wp2_with (go_at_call 49; (first | (with_reducible refine (cO _ hB).mono ?_) | (with_reducible refine (cN _ hB).mono ?_)); rintro e1 w1 ⟨rfl, rfl⟩)
    go_ret
    exact ⟨rfl, hB⟩
  rw [decide_eq_true h0, Bool.true_and]
  by_cases h1 : at' ≤ 1000
  case neg =>
    rw [decide_eq_false h1, Bool.false_and]
    go_enter Try.func50, Try.ntmps50
    go_wp2_with (go_at_call 49; (first | (with_reducible refine (cO _ hB).mono ?_) | (with_reducible refine (cN _ hB).mono ?_)); rintro e1 w1 ⟨rfl, rfl⟩)
    go_ret
    exact ⟨rfl, hB⟩
  rw [decide_eq_true h1, Bool.true_and]
  cases O with
  | false =>
    rw [Bool.false_and]
    go_enter Try.func50, Try.ntmps50
    go_wp2_with (go_at_call 49; (first | (with_reducible refine (cO _ hB).mono ?_) | (with_reducible refine (cN _ hB).mono ?_)); rintro e1 w1 ⟨rfl, rfl⟩)
    go_ret
    exact ⟨rfl, hB⟩
  | true =>
    rw [Bool.true_and]
    cases N with
    | false =>
      rw [Bool.false_and]
      go_enter Try.func50, Try.ntmps50
      go_wp2_with (go_at_call 49; (first | (with_reducible refine (cO _ hB).mono ?_) | (with_reducible refine (cN _ hB).mono ?_)); rintro e1 w1 ⟨rfl, rfl⟩)
      go_ret
      exact ⟨rfl, hB⟩
    | true =>
      rw [Bool.true_and]
      by_cases hs : 0 < n
      · have z : (0 : Int) < n := by omega
        rw [decide_eq_true (show 0 < n + m by omega)]
        go_enter Try.func50, Try.ntmps50
        go_wp2_with (go_at_call 49; (first | (with_reducible refine (cO _ hB).mono ?_) | (with_reducible refine (cN _ hB).mono ?_)); rintro e1 w1 ⟨rfl, rfl⟩)
        go_ret
        exact ⟨rfl, hB⟩
      · have z : ¬ (0 : Int) < n := by omega
        have hn0 := hid hs
        clear hs
        by_cases ht : 0 < m
        · have z2 : (0 : Int) < m := by omega
          rw [decide_eq_true (show 0 < n + m by omega)]
          obtain rfl : n = 0 := by have := hn0.out; omega
          go_enter Try.func50, Try.ntmps50
          go_wp2_with (go_at_call 49; (first | (with_reducible refine (cO _ hB).mono ?_) | (with_reducible refine (cN _ hB).mono ?_)); rintro e1 w1 ⟨rfl, rfl⟩)
          go_ret
          exact ⟨rfl, hB⟩
        · obtain rfl : n = 0 := by have := hn0.out; omega
          obtain rfl : m = 0 := by omega
          clear z ht hn0
          go_enter Try.func50, Try.ntmps50
          go_wp2_with (go_at_call 49; (first | (with_reducible refine (cO _ hB).mono ?_) | (with_reducible refine (cN _ hB).mono ?_)); rintro e1 w1 ⟨rfl, rfl⟩)
          go_ret
          exact ⟨rfl, hB⟩
end Go.Proofs.Ytodfaakodgedbaa

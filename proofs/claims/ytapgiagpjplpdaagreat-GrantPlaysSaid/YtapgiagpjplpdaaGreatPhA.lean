
/- path and hunk: covering, what stands beside, above, last; lines, hunks, applying -/
import Derived.Test.YtapgiagpjplpdaaGreatPaA
import Derived.Lib.Join
import Derived.Shelf.Strings.OnBuilder
import Derived.Shelf.Spec.SlicesGrow
import Derived.Laws.AppendOwnNone
set_option linter.unusedSimpArgs false
set_option linter.unusedVariables false
namespace Go.Proofs.YtapgiagpjplpdaaGreat
open Go.RowKit Go.Qc Go.Shelf
attribute [local go_sem] txt_size txt_append ib_fold txt_toL

theorem splitS_no : ∀ (m : List UInt8), (∀ x ∈ m, x ≠ 47) → splitS m = [m]
  | [], _ => rfl
  | b :: m, h => by
    rw [splitS, if_neg (h b (by simp)), splitS_no m (fun x hx => h x (by simp [hx]))]
theorem splitS_at : ∀ (m r : List UInt8), (∀ x ∈ m, x ≠ 47) → splitS (m ++ 47 :: r) = m :: splitS r
  | [], r, _ => by rw [List.nil_append, splitS, if_pos rfl]
  | b :: m, r, h => by
    rw [List.cons_append, splitS, if_neg (h b (by simp)), splitS_at m r (fun x hx => h x (by simp [hx]))]
/-- What stands between two places. -/
def cutL (l : List UInt8) (a b : Nat) : List UInt8 := (l.drop a).take (b - a)
theorem cutL_snoc (l : List UInt8) (a k : Nat) (x : UInt8) (ha : a ≤ k) (hx : l[k]? = some x) : cutL l a (k + 1) = cutL l a k ++ [x] := by
  unfold cutL
  rw [show k + 1 - a = (k - a) + 1 by omega]
  exact take_snoc (by rw [List.getElem?_drop, show a + (k - a) = k by omega]; exact hx)
theorem cutL_rest (l : List UInt8) (a k : Nat) (x : UInt8) (ha : a ≤ k) (hx : l[k]? = some x) : l.drop a = cutL l a k ++ x :: l.drop (k + 1) := by
  obtain ⟨hk, rfl⟩ := List.getElem?_eq_some_iff.1 hx
  have h : (l.drop a).drop (k - a) = l[k] :: l.drop (k + 1) := by
    rw [List.drop_drop, show a + (k - a) = k by omega, List.drop_eq_getElem_cons hk]
  unfold cutL
  rw [← h, List.take_append_drop]
theorem slice_mid (l : List UInt8) (a b : Nat) : (txt l).extract a b = txt (cutL l a b) := txt_extract l a b
set_option maxRecDepth 100000 in
set_option maxHeartbeats 4000000 in
theorem rsplit_any (l : List UInt8) (hl : l.length ≤ 1000000) (w : World) :
    Calls Tryz.prog 33 #[.string (txt l)] w fun e w' => ∃ v, e = .returned v ∧ w'.ownsRow w.heap.size 9 1 v (splitS l).length ((splitS l).map strV) ∧ Below w.heap.size w w' := by
  obtain ⟨j0, hj, hjz, hjs, hjb⟩ := info_parts infoString
  go_enter Tryz.func33, Tryz.ntmps33
  go_wp2
  have h0 : (w.alloc (.cells #[] 9)).ownsRow w.heap.size 9 1 (.slice (some ⟨w.heap.size, 0, none⟩) 0 0) 0 [] := World.ownsRow_made w #[] 0 (Nat.le_refl _) (by decide) rfl
  have hB0 : Below w.heap.size w (w.alloc (.cells #[] 9)) := (Below.refl _ w).alloc (Nat.le_refl _) _
  go_loopw [3, 4, 5] (fun v f i wr => ∃ (k a : Nat) (xs : List (List UInt8)), k ≤ l.length ∧ a ≤ k ∧ i = .int .i64 k ∧ f = .int .i64 a ∧ xs.length ≤ k ∧ splitS l = xs ++ splitS (l.drop a) ∧ (∀ x ∈ cutL l a k, x ≠ 47) ∧ wr.ownsRow w.heap.size 9 1 v xs.length (xs.map strV) ∧ Below w.heap.size w wr) (fun _ _ i _ => l.length - (intOf i).toNat)
  case atStart => exact ⟨0, 0, [], by omega, by omega, rfl, rfl, by simp, by simp, by simp [cutL], h0, hB0⟩
  case round =>
    obtain ⟨k, a, xs, hk, ha, rfl, rfl, hxl, hsp, hno, hown, hB⟩ := hrel
    have hwz := hB.size
    have HSP := hid hsp
    have HNO := hid hno
    have HXL := hid hxl
    clear hsp hno h0 hB0 hxl
    by_cases hlt : k < l.length
    · obtain ⟨x, hx⟩ : ∃ x, l[k]? = some x := ⟨_, List.getElem?_eq_getElem (by omega)⟩
      have f1 := run_index_str l k x hx k rfl
      have b1 : (k : Int) < l.length := by omega
      have HX := hid hx
      clear hx
      by_cases h47 : x = 47
      · subst h47
        have e47 : ib 47 = 47 := rfl
        have s1 : (txt l).extract a k = txt (cutL l a k) := slice_mid l a k
        have c1 : (0 : Int) ≤ a := by omega
        have c2 : (a : Int) ≤ k := by omega
        have c3 : (k : Int) ≤ l.length := by omega
        rw [e47] at f1
        have hlx := HXL.out
        go_wp2_with (at_builtin; refine wpList_append_new rfl _ _ 32 rfl w.heap.size 9 j0 (.string ⟨#[]⟩) 16 Tryz.underlying32 hj hjz hjs hjb rfl _ _ _ rfl hown 1 _ rfl rfl ?l1 ?l2 ?l3 hwz ?_)
        case l1 => simp [Value.oneCell']
        case l2 => unfold maxLen; omega
        case l3 => omega
        intro v8 w8 hown8 hb8
        go_wp2
        go_roundw
        case rel =>
          refine ⟨k + 1, k + 1, xs ++ [cutL l a k], hlt, by omega, by go_num, by go_num, by simp; omega, ?_, by simp [cutL], ?_, hB.trans (hb8.mono (Nat.le_refl _))⟩
          · rw [HSP.out, cutL_rest l a k 47 ha HX.out, splitS_at _ _ HNO.out, List.append_assoc]; rfl
          · rw [List.length_append, List.map_append]; exact hown8
        case measure => simp [intOf]; omega
      · have hne : ¬ ib x = 47 := by
          intro h
          apply h47
          have e47 : ib 47 = 47 := rfl
          rw [← e47, ib_inj] at h
          exact h
        go_wp2
        go_roundw
        case rel =>
          refine ⟨k + 1, a, xs, hlt, by omega, by go_num, rfl, by have := HXL.out; omega, HSP.out, ?_, hown, hB⟩
          rw [cutL_snoc l a k x ha HX.out]
          intro y hy
          rcases List.mem_append.1 hy with hy | hy
          · exact HNO.out y hy
          · obtain rfl : y = x := by simpa using hy
            exact h47
        case measure => simp [intOf]; omega
    · obtain rfl : k = l.length := by omega
      have b1 : ¬ (l.length : Int) < l.length := by omega
      have s1 : (txt l).extract a l.length = txt (l.drop a) := by have := slice_from l a; rwa [txt_size] at this
      have c1 : (0 : Int) ≤ a := by omega
      have c2 : (a : Int) ≤ l.length := by omega
      have hlx := HXL.out
      have hend : splitS (l.drop a) = [l.drop a] := splitS_no _ (fun x hx => HNO.out x (by unfold cutL; rw [List.take_of_length_le (by rw [List.length_drop]; omega)]; exact hx))
      have HE := hid hend
      clear hend
      go_wp2_with (at_builtin; refine wpList_append_new rfl _ _ 32 rfl w.heap.size 9 j0 (.string ⟨#[]⟩) 16 Tryz.underlying32 hj hjz hjs hjb rfl _ _ _ rfl hown 1 _ rfl rfl ?l1 ?l2 ?l3 hwz ?_)
      case l1 => simp [Value.oneCell']
      case l2 => unfold maxLen; omega
      case l3 => omega
      intro v8 w8 hown8 hb8
      go_wp2
      go_ret
      refine ⟨_, rfl, ?_, hB.trans (hb8.mono (Nat.le_refl _))⟩
      rw [HSP.out, HE.out, List.length_append, List.map_append]
      exact hown8
theorem rowRd {w : World} {base n : Nat} {v : Value} {xs : List Value} {e : TypeId} (h : w.ownsRow base e 1 v n xs) : xs.length = n ∧ ∃ A c, v = .slice A n c ∧ Rd w A xs := Rd.own h
theorem rpath_any (s : List UInt8) (hs : s.length ≤ 1000000) (w : World) :
    Calls Tryz.prog 15 #[.string (txt s)] w fun e w' => e = .returned (.bool (pathR s)) ∧ Below w.heap.size w w' := by
  by_cases hl : s.length ≤ 200
  · have b0 : ¬ (200 : Int) < s.length := by omega
    have cS := rsplit_any s hs
    have hcnt := splitS_count s
    obtain ⟨L, hL⟩ : ∃ L, L = splitS s := ⟨_, rfl⟩
    have hlen : ∀ x ∈ L, x.length ≤ 1000000000000 := fun x hx => by have := splitS_len s x (by rw [← hL]; exact hx); omega
    have hR : pathR s = (decide (L.length ≤ 16) && L.all partS) := by unfold pathR; rw [decide_eq_true hl, ← hL]; rfl
    rw [← hL] at cS hcnt
    rw [hR]
    clear hR hL
    go_enter Tryz.func15, Tryz.ntmps15
    go_wp2_with (go_at_call 33; (with_reducible refine (cS _).mono ?_); rintro e1 w1 ⟨v, rfl, hown, hB1⟩; obtain ⟨hm, A, c, rfl, hrd⟩ := rowRd hown)
    go_loopw [4] (fun i wr => ∃ k : Nat, k ≤ L.length ∧ i = .int .i64 k ∧ (L.take k).all partS = true ∧ w1 = wr) (fun i _ => L.length - (intOf i).toNat)
    case atStart => exact ⟨0, by omega, rfl, by simp, by first | rfl | trivial⟩
    case round =>
      obtain ⟨k, hk, rfl, ht, rfl⟩ := hrel
      have HT := hid ht
      clear ht
      by_cases hlt : k < L.length
      · obtain ⟨x, hx⟩ : ∃ x, L[k]? = some x := ⟨_, List.getElem?_eq_getElem (by omega)⟩
        obtain ⟨ad, rfl, hcell⟩ := rd_in hrd k (strV x) (by rw [List.getElem?_map, hx]; rfl)
        unfold strV at hcell
        have b1 : (k : Int) < L.length := by omega
        have HX := hid hx
        have cP := rpart_any x (hlen x (List.mem_of_getElem? hx))
        clear hx
        cases hb : partS x with
        | true =>
          have HB := hid hb
          rw [hb] at cP
          clear hb
          go_wp2_with (go_at_call 34; (with_reducible refine (cP _).mono ?_); rintro e1 w1 ⟨rfl, rfl⟩)
          go_roundw
          case rel => exact ⟨k + 1, hlt, by go_num, by rw [take_snoc HX.out, List.all_append, HT.out]; simp [HB.out], by first | rfl | trivial⟩
          case measure => simp [intOf]; omega
        | false =>
          have HB := hid hb
          rw [hb] at cP
          clear hb
          go_wp2_with (go_at_call 34; (with_reducible refine (cP _).mono ?_); rintro e1 w1 ⟨rfl, rfl⟩)
          go_ret
          refine ⟨?_, hB1⟩
          have : L.all partS = false := by rw [List.all_eq_false]; exact ⟨x, List.mem_of_getElem? HX.out, by simp [HB.out]⟩
          rw [this, Bool.and_false]; rfl
      · obtain rfl : k = L.length := by omega
        have ht := HT.out
        rw [List.take_length] at ht
        have HU := hid ht
        have b1 : ¬ (L.length : Int) < L.length := by omega
        clear ht HT
        have e16 : decide ((L.length : Int) ≤ 16) = decide (L.length ≤ 16) := by rw [decide_eq_decide]; omega
        go_wp2
        go_ret
        refine ⟨?_, hB1⟩
        rw [HU.out, Bool.and_true, ← e16]; rfl
  · rw [pathR_long (by omega)]
    have b0 : (200 : Int) < s.length := by omega
    go_enter Tryz.func15, Tryz.ntmps15
    go_wp2
    go_ret
    exact ⟨rfl, Below.refl _ _⟩
end Go.Proofs.YtapgiagpjplpdaaGreat

namespace Go.Proofs.YtapgiagpjplpdaaGreat
open Go.RowKit Go.Qc Go.Shelf
attribute [local go_sem] txt_size txt_append ib_fold txt_toL

theorem covB_far (p s : List UInt8) (h0 : p ≠ []) (h1 : p ≠ s) : covB p s = (p ++ [47]).isPrefixOf s := by
  unfold covB
  have : p.isEmpty = false := by cases p <;> first | rfl | exact absurd rfl h0
  rw [this, beq_eq_false_iff_ne.2 h1]; rfl
theorem pre_at (p s : List UInt8) (b : UInt8) : (p ++ [b]).isPrefixOf s = decide (p.length < s.length ∧ s.take p.length = p ∧ s[p.length]? = some b) := by
  rw [Bool.eq_iff_iff, List.isPrefixOf_iff_prefix, decide_eq_true_eq]
  constructor
  · rintro ⟨r, rfl⟩
    refine ⟨by simp, by simp, by simp⟩
  · rintro ⟨h, h2, h3⟩
    refine ⟨s.drop (p.length + 1), ?_⟩
    obtain ⟨hk, h4⟩ := List.getElem?_eq_some_iff.1 h3
    conv => rhs; rw [← List.take_append_drop p.length s, h2, List.drop_eq_getElem_cons hk, h4]
    simp
set_option maxHeartbeats 1000000 in
theorem rcovers_any (p s : List UInt8) (hp : p.length ≤ 1000000) (hs : s.length ≤ 1000000) (w : World) :
    Calls Tryz.prog 35 #[.string (txt p), .string (txt s)] w fun e w' => e = .returned (.bool (covB p s)) ∧ w = w' := by
  by_cases h0 : p = []
  · subst h0
    have e : txt [] = ⟨#[]⟩ := rfl
    have ev : covB [] s = true := rfl
    rw [e, ev]
    go_enter Tryz.func35, Tryz.ntmps35
    go_wp2
    go_ret
    exact ⟨rfl, rfl⟩
  have n0 : p.isEmpty = false := by cases p <;> first | rfl | exact absurd rfl h0
  by_cases h1 : p = s
  · subst h1
    have ev : covB p p = true := by unfold covB; simp
    rw [ev]
    go_enter Tryz.func35, Tryz.ntmps35
    go_wp2
    all_goals go_ret
    all_goals exact ⟨rfl, rfl⟩
  have n1 : (p == s) = false := beq_eq_false_iff_ne.2 h1
  rw [covB_far p s h0 h1, pre_at]
  by_cases hl : p.length < s.length
  · obtain ⟨x, hx⟩ : ∃ x, s[p.length]? = some x := ⟨_, List.getElem?_eq_getElem hl⟩
    have f1 := run_index_str s p.length x hx p.length rfl
    have s1 : (txt s).extract 0 p.length = txt (s.take p.length) := slice_to s p.length
    have b1 : (p.length : Int) < s.length := by omega
    have b2 : (0 : Int) ≤ p.length := by omega
    have b3 : (p.length : Int) ≤ s.length := by omega
    have HX := hid hx
    obtain ⟨T, hT⟩ : ∃ T, T = s.take p.length := ⟨_, rfl⟩
    rw [← hT] at s1
    rw [← hT, hx]
    clear hx hT
    by_cases h2 : T = p
    · subst h2
      by_cases h3 : x = 47
      · subst h3
        have e47 : ib 47 = 47 := rfl
        rw [e47] at f1
        rw [decide_eq_true ⟨hl, rfl, rfl⟩]
        go_enter Tryz.func35, Tryz.ntmps35
        go_wp2
        all_goals go_ret
        all_goals exact ⟨rfl, rfl⟩
      · have hne : (ib x == 47) = false := by
          have e47 : ib 47 = 47 := rfl
          rw [beq_eq_false_iff_ne, ← e47, ne_eq, ib_inj]; exact h3
        rw [decide_eq_false (by rintro ⟨_, _, h⟩; exact h3 (Option.some.inj h))]
        go_enter Tryz.func35, Tryz.ntmps35
        go_wp2
        all_goals go_ret
        all_goals refine ⟨?_, rfl⟩
        all_goals first | rfl | simp [hne]
    · have n2 : (T == p) = false := beq_eq_false_iff_ne.2 h2
      rw [decide_eq_false (by rintro ⟨_, h, _⟩; exact h2 h)]
      go_enter Tryz.func35, Tryz.ntmps35
      go_wp2
      all_goals go_ret
      all_goals refine ⟨?_, rfl⟩
      all_goals first | rfl | simp [n2]
  · have b1 : ¬ (p.length : Int) < s.length := by omega
    rw [decide_eq_false (by rintro ⟨h, _⟩; exact hl h)]
    go_enter Tryz.func35, Tryz.ntmps35
    go_wp2
    all_goals go_ret
    all_goals exact ⟨rfl, rfl⟩

/-! ### joined with slashes -/
/-! ### the last slash -/
end Go.Proofs.YtapgiagpjplpdaaGreat

namespace Go.Proofs.YtapgiagpjplpdaaGreat
open Go.RowKit Go.Qc Go.Shelf
attribute [local go_sem] txt_size txt_append ib_fold txt_toL

theorem mixed10 : Tryz.prog.follows .mixedOrders = true := by kernel_rfl
theorem below_drew10 (w : World) : Below w.heap.size w w.drew := ⟨(Below.refl w.heap.size w).os, (Below.refl w.heap.size w).tape, (Below.refl w.heap.size w).output, (Below.refl w.heap.size w).size, (Below.refl w.heap.size w).block⟩
end Go.Proofs.YtapgiagpjplpdaaGreat

namespace Go.Proofs.YtapgiagpjplpdaaGreat
open Go.RowKit Go.Qc Go.Shelf
attribute [local go_sem] txt_size txt_append ib_fold txt_toL

/-! ### what joined parts part into -/
end Go.Proofs.YtapgiagpjplpdaaGreat

namespace Go.Proofs.YtapgiagpjplpdaaGreat
open Go.RowKit Go.Qc Go.Shelf
attribute [local go_sem] txt_size txt_append ib_fold txt_toL

theorem index_in (l : List UInt8) (c : UInt8) : Lib.indexByte l c = -1 ∧ l.contains c = false ∨ 0 ≤ Lib.indexByte l c ∧ l.contains c = true := by
  induction l with
  | nil => exact .inl ⟨rfl, rfl⟩
  | cons b l ih =>
    by_cases hb : b = c
    · subst hb; exact .inr ⟨by simp [Lib.indexByte], by simp⟩
    · have h1 : (b == c) = false := beq_eq_false_iff_ne.2 hb
      have h2 : (c == b) = false := beq_eq_false_iff_ne.2 (fun h => hb h.symm)
      rcases ih with ⟨h, hc⟩ | ⟨h, hc⟩
      · refine .inl ⟨by simp [Lib.indexByte, h1, h], ?_⟩
        rw [List.contains_cons, h2, hc]; rfl
      · have h3 : (Lib.indexByte l c == -1) = false := by rw [beq_eq_false_iff_ne]; omega
        refine .inr ⟨?_, ?_⟩
        · simp only [Lib.indexByte, h1, h3, Bool.false_eq_true, if_false]; omega
        · rw [List.contains_cons, hc, Bool.or_true]
theorem contains_any (l : List UInt8) (w : World) :
    Calls Tryz.prog 89 #[.string (txt l), .string ⟨#[10]⟩] w fun e w' => e = .returned (.bool (l.contains 10)) ∧ w = w' := by
  have := Any.strings_Contains_one lays144 (txt l) 10 w
  rw [txt_data] at this
  refine this.mono ?_
  rintro e w' ⟨rfl, rfl⟩
  refine ⟨?_, rfl⟩
  rcases index_in l 10 with ⟨h, hc⟩ | ⟨h, hc⟩
  · rw [h, hc]; rfl
  · rw [decide_eq_true h, hc]
/-- A line that may be; lines that may be. -/
def lineR (x : List UInt8) : Bool := decide (x.length ≤ 200) && !x.contains 10
def linesR (l : List (List UInt8)) : Bool := decide (l.length ≤ 1000) && l.all lineR
theorem bad_any (x : List UInt8) (w : World) :
    Calls Tryz.prog 88 #[.string (txt x)] w fun e w' => e = .returned (.bool (!lineR x)) ∧ w = w' := by
  have c := contains_any x
  unfold lineR
  by_cases h : 200 < x.length
  · have z : (200 : Int) < x.length := by omega
    rw [decide_eq_false (show ¬ x.length ≤ 200 by omega)]
    clear c
    go_enter Tryz.func88, Tryz.ntmps88
    go_wp2_with (fail)
    go_ret
    exact ⟨rfl, rfl⟩
  · have z : ¬ (200 : Int) < x.length := by omega
    rw [decide_eq_true (show x.length ≤ 200 by omega), Bool.true_and, Bool.not_not]
    generalize x.contains 10 = C at c ⊢
    go_enter Tryz.func88, Tryz.ntmps88
    go_wp2_with (go_at_call 89; (with_reducible refine (c _).mono ?_); rintro e1 w1 ⟨rfl, rfl⟩)
    go_ret
    exact ⟨rfl, rfl⟩
set_option maxHeartbeats 2000000 in
theorem indexFunc_any (A : Option Addr) (n c : Nat) (ps : List (List UInt8)) (hn : ps.length = n) (bn : n ≤ 9223372036854775807) (w : World) (hr : Rd w A (ps.map strV)) :
    Calls Tryz.prog 46 #[.slice A n c, .func (.func 88) #[] #[]] w fun e w' => (∃ z : Int, e = .returned (.int .i64 z) ∧ (ps.all lineR = true ∧ z = -1 ∨ ps.all lineR = false ∧ 0 ≤ z)) ∧ w = w' := by
  have hg := enters_of Tryz.func88 (by kernel_rfl) rfl
  go_enter Tryz.func46, Tryz.ntmps46
  go_wp2
  go_loopw [8] (fun i wr => ∃ k : Nat, k ≤ n ∧ i = .int .i64 k ∧ (ps.take k).all lineR = true ∧ w = wr) (fun i _ => n - (intOf i).toNat)
  case atStart => exact ⟨0, by omega, rfl, by simp, by first | rfl | trivial⟩
  case round =>
    obtain ⟨k, hk, rfl, ht, rfl⟩ := hrel
    have HT := hid ht
    clear ht
    by_cases hlt : k < n
    · obtain ⟨p, hpk⟩ : ∃ p, ps[k]? = some p := ⟨_, List.getElem?_eq_getElem (by omega)⟩
      obtain ⟨ad, rfl, hcell⟩ := rd_in hr k (strV p) (by rw [List.getElem?_map, hpk]; rfl)
      unfold strV at hcell
      have HP := hid hpk
      have b1 : (k : Int) < n := by omega
      have cB := bad_any p
      clear hpk
      cases hb : lineR p with
      | true =>
        rw [hb] at cB
        have HB := hid hb
        clear hb
        go_wp2_with ((with_reducible refine (cB _).mono ?_); rintro e1 w1 ⟨rfl, rfl⟩)
        go_roundw
        case rel => exact ⟨k + 1, hlt, by go_num, by rw [take_snoc HP.out, List.all_append, HT.out]; simp [HB.out], by first | rfl | trivial⟩
        case measure => simp [intOf]; omega
      | false =>
        rw [hb] at cB
        have HB := hid hb
        clear hb
        go_wp2_with ((with_reducible refine (cB _).mono ?_); rintro e1 w1 ⟨rfl, rfl⟩)
        go_ret
        refine ⟨⟨_, rfl, .inr ⟨?_, by omega⟩⟩, rfl⟩
        rw [List.all_eq_false]
        exact ⟨p, List.mem_of_getElem? HP.out, by simp [HB.out]⟩
    · obtain rfl : k = n := by omega
      have b1 : ¬ (k : Int) < k := by omega
      have ht := HT.out
      rw [List.take_of_length_le (by omega)] at ht
      have HU := hid ht
      clear ht HT
      go_wp2
      go_ret
      exact ⟨⟨_, rfl, .inl ⟨by simpa using HU.out, rfl⟩⟩, rfl⟩
theorem containsFunc_any (A : Option Addr) (n c : Nat) (ps : List (List UInt8)) (hn : ps.length = n) (bn : n ≤ 9223372036854775807) (w : World) (hr : Rd w A (ps.map strV)) :
    Calls Tryz.prog 25 #[.slice A n c, .func (.func 88) #[] #[]] w fun e w' => e = .returned (.bool (!ps.all lineR)) ∧ w = w' := by
  have cI := indexFunc_any A n c ps hn bn w hr
  go_enter Tryz.func25, Tryz.ntmps25
  go_wp2_with (go_at_call 46; (with_reducible refine cI.mono ?_); rintro e1 w1 ⟨⟨z, rfl, hz⟩, rfl⟩)
  go_ret
  refine ⟨?_, rfl⟩
  rcases hz with ⟨h1, rfl⟩ | ⟨h1, h2⟩
  · rw [h1]; rfl
  · rw [h1]; simp [h2]
theorem lines_any (A : Option Addr) (n c : Nat) (ps : List (List UInt8)) (hn : ps.length = n) (bn : n ≤ 9223372036854775807) (w : World) (hr : Rd w A (ps.map strV)) :
    Calls Tryz.prog 75 #[.slice A n c] w fun e w' => e = .returned (.bool (linesR ps)) ∧ w = w' := by
  have cI := containsFunc_any A n c ps hn bn w hr
  unfold linesR
  rw [hn]
  by_cases h : n ≤ 1000
  · have z : (n : Int) ≤ 1000 := by omega
    rw [decide_eq_true h, Bool.true_and]
    generalize ps.all lineR = C at cI ⊢
    go_enter Tryz.func75, Tryz.ntmps75
    go_wp2_with (go_at_call 25; (with_reducible refine cI.mono ?_); rintro e1 w1 ⟨rfl, rfl⟩)
    go_ret
    exact ⟨by simp, rfl⟩
  · have z : ¬ (n : Int) ≤ 1000 := by omega
    rw [decide_eq_false h, Bool.false_and]
    clear cI
    go_enter Tryz.func75, Tryz.ntmps75
    go_wp2_with (fail)
    go_ret
    exact ⟨rfl, rfl⟩
/-! ### the document's -/
theorem rline_any (x : List UInt8) (hx : x.length ≤ 1000000000000) (w : World) :
    Calls Tryz.prog 76 #[.string (txt x)] w fun e w' => e = .returned (.bool (lineR x)) ∧ w = w' := by
  go_enter Tryz.func76, Tryz.ntmps76
  go_wp2
  go_loopw [3] (fun i wr => ∃ k : Nat, k ≤ x.length ∧ i = .int .i64 k ∧ (x.take k).contains 10 = false ∧ w = wr) (fun i _ => x.length - (intOf i).toNat)
  case atStart => exact ⟨0, by omega, rfl, by simp⟩
  case round =>
    obtain ⟨k, hk, rfl, ht, rfl⟩ := hrel
    have HT := hid ht
    clear ht
    by_cases hlt : k < x.length
    · obtain ⟨y, hy⟩ : ∃ y, x[k]? = some y := ⟨_, List.getElem?_eq_getElem (by omega)⟩
      have f1 := run_index_str x k y hy k rfl
      have b1 : (k : Int) < x.length := by omega
      have HY := hid hy
      clear hy
      by_cases he : y = 10
      · subst he
        have e10 : ib 10 = 10 := rfl
        rw [e10] at f1
        go_wp2
        go_ret
        refine ⟨?_, rfl⟩
        have : x.contains 10 = true := by simpa using List.mem_of_getElem? HY.out
        unfold lineR
        rw [this, Bool.not_true, Bool.and_false]; rfl
      · have e10 : ib 10 = 10 := rfl
        have hne : ¬ ib y = 10 := by rw [← e10, ib_inj]; exact he
        go_wp2
        go_roundw
        case rel =>
          refine ⟨k + 1, hlt, by go_num, ?_, by first | rfl | trivial⟩
          rw [take_snoc HY.out]
          have := HT.out
          simp at this ⊢
          exact ⟨this, fun h => he h.symm⟩
        case measure => simp [intOf]; omega
    · obtain rfl : k = x.length := by omega
      have ht := HT.out
      rw [List.take_length] at ht
      have HU := hid ht
      have b1 : ¬ (x.length : Int) < x.length := by omega
      have e2 : decide ((x.length : Int) ≤ 200) = decide (x.length ≤ 200) := by rw [decide_eq_decide]; omega
      clear ht HT
      go_wp2
      go_ret
      refine ⟨?_, rfl⟩
      unfold lineR
      rw [HU.out, Bool.not_false, Bool.and_true, ← e2]; rfl
set_option maxHeartbeats 2000000 in
theorem rlines_any (A : Option Addr) (n c : Nat) (ps : List (List UInt8)) (hn : ps.length = n) (bn : n ≤ 9223372036854775807) (h8 : ∀ x ∈ ps, x.length ≤ 1000000000000) (w : World) (hr : Rd w A (ps.map strV)) :
    Calls Tryz.prog 49 #[.slice A n c] w fun e w' => e = .returned (.bool (linesR ps)) ∧ w = w' := by
  go_enter Tryz.func49, Tryz.ntmps49
  go_wp2
  go_loopw [3] (fun i wr => ∃ k : Nat, k ≤ n ∧ i = .int .i64 k ∧ (ps.take k).all lineR = true ∧ w = wr) (fun i _ => n - (intOf i).toNat)
  case atStart => exact ⟨0, by omega, rfl, by simp, by first | rfl | trivial⟩
  case round =>
    obtain ⟨k, hk, rfl, ht, rfl⟩ := hrel
    have HT := hid ht
    clear ht
    by_cases hlt : k < n
    · obtain ⟨p, hpk⟩ : ∃ p, ps[k]? = some p := ⟨_, List.getElem?_eq_getElem (by omega)⟩
      obtain ⟨ad, rfl, hcell⟩ := rd_in hr k (strV p) (by rw [List.getElem?_map, hpk]; rfl)
      unfold strV at hcell
      have HP := hid hpk
      have b1 : (k : Int) < n := by omega
      have cB := rline_any p (h8 p (List.mem_of_getElem? hpk))
      clear hpk
      cases hb : lineR p with
      | true =>
        rw [hb] at cB
        have HB := hid hb
        clear hb
        go_wp2_with (go_at_call 76; (with_reducible refine (cB _).mono ?_); rintro e1 w1 ⟨rfl, rfl⟩)
        go_roundw
        case rel => exact ⟨k + 1, hlt, by go_num, by rw [take_snoc HP.out, List.all_append, HT.out]; simp [HB.out], by first | rfl | trivial⟩
        case measure => simp [intOf]; omega
      | false =>
        rw [hb] at cB
        have HB := hid hb
        clear hb
        go_wp2_with (go_at_call 76; (with_reducible refine (cB _).mono ?_); rintro e1 w1 ⟨rfl, rfl⟩)
        go_ret
        refine ⟨?_, rfl⟩
        have : ps.all lineR = false := by rw [List.all_eq_false]; exact ⟨p, List.mem_of_getElem? HP.out, by simp [HB.out]⟩
        unfold linesR
        rw [this, Bool.and_false]; rfl
    · obtain rfl : k = n := by omega
      have b1 : ¬ (k : Int) < k := by omega
      have ht := HT.out
      rw [List.take_of_length_le (by omega)] at ht
      have HU := hid ht
      have e2 : decide ((k : Int) ≤ 1000) = decide (k ≤ 1000) := by rw [decide_eq_decide]; omega
      clear ht HT
      go_wp2
      go_ret
      refine ⟨?_, rfl⟩
      unfold linesR
      rw [HU.out, Bool.and_true, hn, ← e2]; rfl
/-! ### hunks -/
def hkV (at' : Int) (A : Option Addr) (n c : Nat) (B : Option Addr) (m d : Nat) : Array Value := #[.int .i64 at', .slice A n c, .slice B m d]
def hunkR (at' : Int) (old new : List (List UInt8)) : Bool := decide (0 ≤ at') && (decide (at' ≤ 1000) && (linesR old && (linesR new && decide (0 < old.length + new.length))))
set_option maxHeartbeats 4000000 in
theorem hright_gen (at' : Int) (A : Option Addr) (n c : Nat) (B : Option Addr) (m d : Nat) (bn : n ≤ 1000000) (bm : m ≤ 1000000) (O N : Bool) (w : World)
    (cO : ∀ W, Below w.heap.size w W → Calls Tryz.prog 75 #[.slice A n c] W fun e w' => e = .returned (.bool O) ∧ W = w')
    (cN : ∀ W, Below w.heap.size w W → Calls Tryz.prog 75 #[.slice B m d] W fun e w' => e = .returned (.bool N) ∧ W = w') :
    Calls Tryz.prog 73 #[.agg (hkV at' A n c B m d)] w fun e w' => e = .returned (.bool (decide (0 ≤ at') && (decide (at' ≤ 1000) && (O && (N && decide (0 < n + m)))))) ∧ Below w.heap.size w w' := by
  have hB : Below w.heap.size w (w.alloc (.cells #[.int .i64 at', .slice A n c, .slice B m d] 107)) := (Below.refl _ w).alloc (Nat.le_refl _) _
  have hb := Blk.new w 107 #[.int .i64 at', .slice A n c, .slice B m d]
  have x0 := hb.cell_ (i := 0) rfl
  have x1 := hb.cell_ (i := 1) rfl
  have x2 := hb.cell_ (i := 2) rfl
  have e2 : decide (0 < n + m) = decide ((0 : Int) < (n : Int) + m) := by rw [decide_eq_decide]; omega
  have hw : wrap64 ((n : Int) + m) = (n : Int) + m := by unfold wrap64; omega
  rw [e2]
  unfold hkV
  by_cases h0 : (0 : Int) ≤ at' <;> by_cases h1 : at' ≤ 1000 <;> cases O <;> cases N <;> by_cases hs : (0 : Int) < (n : Int) + m
  all_goals try (exfalso; omega)
  all_goals go_enter Tryz.func73, Tryz.ntmps73
  all_goals go_wp2_with (go_at_call 75; (first | (with_reducible refine (cO _ hB).mono ?_) | (with_reducible refine (cN _ hB).mono ?_)); rintro e1 w1 ⟨rfl, rfl⟩)
  all_goals go_ret
  all_goals exact ⟨by simp [*], hB⟩
end Go.Proofs.YtapgiagpjplpdaaGreat

namespace Go.Proofs.YtapgiagpjplpdaaGreat
open Go.RowKit Go.Qc Go.Shelf
attribute [local go_sem] txt_size txt_append ib_fold txt_toL

/-- A struct of three cells in a block. -/
structure Hk (w : World) (g : Nat) (t : TypeId) (at' : Int) (u v : Value) : Prop where
  b : Blk w g t #[.int .i64 at', u, v]
theorem Hk.c0 {w : World} {g : Nat} {t : TypeId} {at' : Int} {u v : Value} (h : Hk w g t at' u v) : w.cell? ⟨g, 0, none⟩ = some (.int .i64 at') := h.b.cell_ rfl
theorem Hk.c1 {w : World} {g : Nat} {t : TypeId} {at' : Int} {u v : Value} (h : Hk w g t at' u v) : w.cell? ⟨g, 1, none⟩ = some u := h.b.cell_ rfl
theorem Hk.c2 {w : World} {g : Nat} {t : TypeId} {at' : Int} {u v : Value} (h : Hk w g t at' u v) : w.cell? ⟨g, 2, none⟩ = some v := h.b.cell_ rfl
theorem Hk.below {w w' : World} {g : Nat} {t : TypeId} {at' : Int} {u v : Value} (h : Hk w g t at' u v) (hb : Below w.heap.size w w') : Hk w' g t at' u v := ⟨h.b.below hb⟩
theorem Hk.new (w : World) (t : TypeId) (at' : Int) (u v : Value) : Hk (w.alloc (.cells #[.int .i64 at', u, v] t)) w.heap.size t at' u v := ⟨Blk.new _ _ _⟩
/-! ### a row of the call's own, made with room -/
end Go.Proofs.YtapgiagpjplpdaaGreat

namespace Go.Proofs.YtapgiagpjplpdaaGreat
open Go.RowKit Go.Qc Go.Shelf
attribute [local go_sem] txt_size txt_append ib_fold txt_toL

/-- A slice that reads as a row of texts. -/
def Sl (w : World) (v : Value) (r : List (List UInt8)) : Prop := ∃ A n c, v = .slice A n c ∧ r.length = n ∧ (A = none → c = 0) ∧ Rd w A (r.map strV)
theorem Sl.below {w w' : World} {v : Value} {r : List (List UInt8)} (h : Sl w v r) (hb : Below w.heap.size w w') : Sl w' v r := by
  obtain ⟨A, n, c, rfl, h1, h0, h2⟩ := h
  exact ⟨A, n, c, rfl, h1, h0, h2.below hb⟩
end Go.Proofs.YtapgiagpjplpdaaGreat

namespace Go.Proofs.YtapgiagpjplpdaaGreat
open Go.RowKit Go.Qc Go.Shelf
attribute [local go_sem] txt_size txt_append ib_fold txt_toL

theorem hright_any (at' : Int) (A : Option Addr) (n c : Nat) (old : List (List UInt8)) (hn : old.length = n) (bn : n ≤ 1000000) (B : Option Addr) (m d : Nat) (new : List (List UInt8)) (hm : new.length = m) (bm : m ≤ 1000000) (w : World)
    (hA : Rd w A (old.map strV)) (hB : Rd w B (new.map strV)) :
    Calls Tryz.prog 73 #[.agg #[.int .i64 at', .slice A n c, .slice B m d]] w fun e w' => e = .returned (.bool (hunkR at' old new)) ∧ Below w.heap.size w w' := by
  have := hright_gen at' A n c B m d bn bm (linesR old) (linesR new) w
    (fun W hb => (lines_any A n c old hn (by omega) W (hA.below hb)).mono (by rintro e w' ⟨h1, h2⟩; exact ⟨h1, h2⟩))
    (fun W hb => (lines_any B m d new hm (by omega) W (hB.below hb)).mono (by rintro e w' ⟨h1, h2⟩; exact ⟨h1, h2⟩))
  unfold hunkR
  rw [hn, hm]
  exact this

end Go.Proofs.YtapgiagpjplpdaaGreat

namespace Go.Proofs.YtapgiagpjplpdaaGreat
open Go.RowKit Go.Qc Go.Shelf
attribute [local go_sem] txt_size txt_append ib_fold txt_toL

/-! ### the document's -/
set_option maxHeartbeats 8000000 in
theorem rhright_gen (at' : Int) (A : Option Addr) (n c : Nat) (B : Option Addr) (m d : Nat) (O N : Bool) (w : World)
    (cO : ∀ W, Below w.heap.size w W → Calls Tryz.prog 49 #[.slice A n c] W fun e w' => e = .returned (.bool O) ∧ W = w')
    (cN : ∀ W, Below w.heap.size w W → Calls Tryz.prog 49 #[.slice B m d] W fun e w' => e = .returned (.bool N) ∧ W = w') :
    Calls Tryz.prog 50 #[.agg #[.int .i64 at', .slice A n c, .slice B m d]] w fun e w' => e = .returned (.bool (decide (0 ≤ at') && (decide (at' ≤ 1000) && (O && (N && decide (0 < n + m)))))) ∧ Below w.heap.size w w' := by
  have hB : Below w.heap.size w (w.alloc (.cells #[.int .i64 at', .slice A n c, .slice B m d] 86)) := (Below.refl _ w).alloc (Nat.le_refl _) _
  by_cases h0 : (0 : Int) ≤ at'
  case neg =>
    rw [decide_eq_false h0, Bool.false_and]
    go_enter Tryz.func50, Tryz.ntmps50
    go_wp2_with (go_at_call 49; (first | (with_reducible refine (cO _ hB).mono ?_) | (with_reducible refine (cN _ hB).mono ?_)); rintro e1 w1 ⟨rfl, rfl⟩)
    go_ret
    exact ⟨rfl, hB⟩
  rw [decide_eq_true h0, Bool.true_and]
  by_cases h1 : at' ≤ 1000
  case neg =>
    rw [decide_eq_false h1, Bool.false_and]
    go_enter Tryz.func50, Tryz.ntmps50
    go_wp2_with (go_at_call 49; (first | (with_reducible refine (cO _ hB).mono ?_) | (with_reducible refine (cN _ hB).mono ?_)); rintro e1 w1 ⟨rfl, rfl⟩)
    go_ret
    exact ⟨rfl, hB⟩
  rw [decide_eq_true h1, Bool.true_and]
  cases O with
  | false =>
    rw [Bool.false_and]
    go_enter Tryz.func50, Tryz.ntmps50
    go_wp2_with (go_at_call 49; (first | (with_reducible refine (cO _ hB).mono ?_) | (with_reducible refine (cN _ hB).mono ?_)); rintro e1 w1 ⟨rfl, rfl⟩)
    go_ret
    exact ⟨rfl, hB⟩
  | true =>
    rw [Bool.true_and]
    cases N with
    | false =>
      rw [Bool.false_and]
      go_enter Tryz.func50, Tryz.ntmps50
      go_wp2_with (go_at_call 49; (first | (with_reducible refine (cO _ hB).mono ?_) | (with_reducible refine (cN _ hB).mono ?_)); rintro e1 w1 ⟨rfl, rfl⟩)
      go_ret
      exact ⟨rfl, hB⟩
    | true =>
      rw [Bool.true_and]
      by_cases hs : 0 < n
      · have z : (0 : Int) < n := by omega
        rw [decide_eq_true (show 0 < n + m by omega)]
        go_enter Tryz.func50, Tryz.ntmps50
        go_wp2_with (go_at_call 49; (first | (with_reducible refine (cO _ hB).mono ?_) | (with_reducible refine (cN _ hB).mono ?_)); rintro e1 w1 ⟨rfl, rfl⟩)
        go_ret
        exact ⟨rfl, hB⟩
      · have z : ¬ (0 : Int) < n := by omega
        have hn0 := hid hs
        clear hs
        by_cases ht : 0 < m
        · have z2 : (0 : Int) < m := by omega
          rw [decide_eq_true (show 0 < n + m by omega)]
          obtain rfl : n = 0 := by have := hn0.out; omega
          go_enter Tryz.func50, Tryz.ntmps50
          go_wp2_with (go_at_call 49; (first | (with_reducible refine (cO _ hB).mono ?_) | (with_reducible refine (cN _ hB).mono ?_)); rintro e1 w1 ⟨rfl, rfl⟩)
          go_ret
          exact ⟨rfl, hB⟩
        · obtain rfl : n = 0 := by have := hn0.out; omega
          obtain rfl : m = 0 := by omega
          clear z ht hn0
          go_enter Tryz.func50, Tryz.ntmps50
          go_wp2_with (go_at_call 49; (first | (with_reducible refine (cO _ hB).mono ?_) | (with_reducible refine (cN _ hB).mono ?_)); rintro e1 w1 ⟨rfl, rfl⟩)
          go_ret
          exact ⟨rfl, hB⟩
end Go.Proofs.YtapgiagpjplpdaaGreat

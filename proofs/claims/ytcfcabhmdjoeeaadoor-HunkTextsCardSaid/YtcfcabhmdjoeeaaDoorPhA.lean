
/- path and hunk: covering, what stands beside, above, last; lines, hunks, applying -/
import Derived.Test.YtcfcabhmdjoeeaaDoorPaA
import Derived.Lib.Join
import Derived.Shelf.Strings.OnBuilder
import Derived.Shelf.Spec.SlicesGrow
import Derived.Laws.AppendOwnNone
set_option linter.unusedSimpArgs false
set_option linter.unusedVariables false
namespace Go.Proofs.YtcfcabhmdjoeeaaDoor
open Go.RowKit Go.Qc Go.Shelf
attribute [local go_sem] txt_size txt_append ib_fold txt_toL

/-- What stands between two places. -/
def cutL (l : List UInt8) (a b : Nat) : List UInt8 := (l.drop a).take (b - a)
theorem cutL_snoc (l : List UInt8) (a k : Nat) (x : UInt8) (ha : a ≤ k) (hx : l[k]? = some x) : cutL l a (k + 1) = cutL l a k ++ [x] := by
  unfold cutL
  rw [show k + 1 - a = (k - a) + 1 by omega]
  exact take_snoc (by rw [List.getElem?_drop, show a + (k - a) = k by omega]; exact hx)
theorem slice_mid (l : List UInt8) (a b : Nat) : (txt l).extract a b = txt (cutL l a b) := txt_extract l a b
set_option maxHeartbeats 2000000 in
theorem same_any (A B : Option Addr) (n m c d : Nat) (ps qs : List (List UInt8)) (hn : ps.length = n) (hm : qs.length = m) (bn : n ≤ 9223372036854775807) (bm : m ≤ 9223372036854775807) (w : World) (hr : Rd w A (ps.map strV)) (hs : Rd w B (qs.map strV)) :
    Calls Tryd.prog 10 #[.slice A n c, .slice B m d] w fun e w' => e = .returned (.bool (decide (ps = qs))) ∧ Below w.heap.size w w' := by
  by_cases hnm : n = m
  · subst hnm
    go_enter Tryd.func10, Tryd.ntmps10
    go_wp2
    go_loopw [5] (fun i wr => ∃ k : Nat, k ≤ n ∧ i = .int .i64 k ∧ ps.take k = qs.take k ∧ Below w.heap.size w wr) (fun i _ => n - (intOf i).toNat)
    case atStart => exact ⟨0, by omega, rfl, rfl, Below.refl _ _⟩
    case round =>
      obtain ⟨k, hk, rfl, ht, hBr⟩ := hrel
      by_cases hlt : k < n
      · obtain ⟨p, hp⟩ : ∃ p, ps[k]? = some p := ⟨_, List.getElem?_eq_getElem (by omega)⟩
        obtain ⟨q, hq⟩ : ∃ q, qs[k]? = some q := ⟨_, List.getElem?_eq_getElem (by omega)⟩
        obtain ⟨ad, rfl, hcell⟩ := rd_in (hr.below hBr) k (strV p) (by rw [List.getElem?_map, hp]; rfl)
        obtain ⟨ad2, rfl, hcell2⟩ := rd_in (hs.below hBr) k (strV q) (by rw [List.getElem?_map, hq]; rfl)
        unfold strV at hcell hcell2
        have HP := hid hp
        have HQ := hid hq
        have HT2 := hid ht
        have b1 : (k : Int) < n := by omega
        clear hp hq ht
        by_cases hpq : p = q
        · subst hpq
          go_wp2
          go_quiet (fail)
          go_wp2
          go_roundw
          case rel => exact ⟨k + 1, hlt, by go_num, by rw [take_snoc HP.out, take_snoc HQ.out, HT2.out], below_drewN hBr _⟩
          case measure => simp [intOf]; omega
        · have hb2 : (p == q) = false := beq_eq_false_iff_ne.2 hpq
          go_wp2
          go_quiet (fail)
          go_wp2
          go_ret
          refine ⟨?_, below_drewN hBr _⟩
          have : ¬ ps = qs := by
            rintro rfl
            have := HP.out.symm.trans HQ.out
            exact hpq (Option.some.inj this)
          rw [decide_eq_false this]; rfl
      · obtain rfl : k = n := by omega
        rw [List.take_of_length_le (by omega), List.take_of_length_le (by omega)] at ht
        have HT := hid ht
        have b1 : ¬ (k : Int) < k := by omega
        clear ht
        go_wp2
        go_ret
        exact ⟨by rw [decide_eq_true HT.out]; rfl, hBr⟩
  · have h1 : ((n : Int) == m) = false := by rw [beq_eq_false_iff_ne]; omega
    have h2 : ¬ (n : Int) = m := by omega
    have hne : ¬ ps = qs := by rintro rfl; omega
    rw [decide_eq_false hne]
    clear hne
    go_enter Tryd.func10, Tryd.ntmps10
    go_wp2
    go_ret
    exact ⟨rfl, Below.refl _ _⟩
theorem rowRd {w : World} {base n : Nat} {v : Value} {xs : List Value} {e : TypeId} (h : w.ownsRow base e 1 v n xs) : xs.length = n ∧ ∃ A c, v = .slice A n c ∧ Rd w A xs := Rd.own h
end Go.Proofs.YtcfcabhmdjoeeaaDoor

namespace Go.Proofs.YtcfcabhmdjoeeaaDoor
open Go.RowKit Go.Qc Go.Shelf
attribute [local go_sem] txt_size txt_append ib_fold txt_toL

/-! ### joined with slashes -/
/-! ### the last slash -/
end Go.Proofs.YtcfcabhmdjoeeaaDoor

namespace Go.Proofs.YtcfcabhmdjoeeaaDoor
open Go.RowKit Go.Qc Go.Shelf
attribute [local go_sem] txt_size txt_append ib_fold txt_toL

theorem mixed10 : Tryd.prog.follows .mixedOrders = true := by kernel_rfl
/-- A world behind W: what W held lies there still. -/
structure LtW (W : World) where
  w : World
  h : Below W.heap.size W w
instance (W : World) : Inhabited (LtW W) := ⟨⟨W, Below.refl _ _⟩⟩
theorem below_drew10 (w : World) : Below w.heap.size w w.drew := ⟨(Below.refl w.heap.size w).os, (Below.refl w.heap.size w).tape, (Below.refl w.heap.size w).output, (Below.refl w.heap.size w).size, (Below.refl w.heap.size w).block⟩
theorem wp_region_lt {P : Program} {id : Nat} {Q : Exit → Act → World → Prop} {a : Act} {w : World} {l : List Oper} (hm : P.follows .mixedOrders = true) (hB : Region.lexB .any l.toArray = true)
    (h : wpQuiet P l.toArray (fun w' => ∃ p : LtW w, w' = p.w) (fun a' => ∀ w', (∃ p : LtW w, w' = p.w) → Q .normal a' w') l a) : (Code.region id l.toArray true).wp P Q a w :=
  wp_region_quiet (C := fun w' => ∃ p : LtW w, w' = p.w) hm hB ⟨⟨w.drew, below_drew10 w⟩, rfl⟩ (by simpa using h)
theorem lt_of {P : Program} {f : FuncId} {args : Array Value} {W : World} {p : LtW W} {v : Value} (h : Calls P f args p.w fun e w'' => e = .returned v ∧ Below p.w.heap.size p.w w'') :
    Calls P f args p.w fun e w'' => e = .returned v ∧ ∃ p' : LtW W, w'' = p'.w :=
  h.mono fun _ w'' ⟨he, hb⟩ => ⟨he, ⟨w'', p.h.trans (hb.mono p.h.size)⟩, rfl⟩
end Go.Proofs.YtcfcabhmdjoeeaaDoor

namespace Go.Proofs.YtcfcabhmdjoeeaaDoor
open Go.RowKit Go.Qc Go.Shelf
attribute [local go_sem] txt_size txt_append ib_fold txt_toL

set_option maxHeartbeats 2000000 in
theorem sequal_any (A B : Option Addr) (n m c d : Nat) (ps qs : List (List UInt8)) (hn : ps.length = n) (hm : qs.length = m) (bn : n ≤ 9223372036854775807) (bm : m ≤ 9223372036854775807) (w : World) (hr : Rd w A (ps.map strV)) (hs : Rd w B (qs.map strV)) :
    Calls Tryd.prog 39 #[.slice A n c, .slice B m d] w fun e w' => e = .returned (.bool (decide (ps = qs))) ∧ Below w.heap.size w w' := by
  by_cases hnm : n = m
  · subst hnm
    go_enter Tryd.func39, Tryd.ntmps39
    go_wp2
    go_loopw [13] (fun i wr => ∃ k : Nat, k ≤ n ∧ i = .int .i64 k ∧ ps.take k = qs.take k ∧ Below w.heap.size w wr) (fun i _ => n - (intOf i).toNat)
    case atStart => exact ⟨0, by omega, rfl, rfl, Below.refl _ _⟩
    case round =>
      obtain ⟨k, hk, rfl, ht, hBr⟩ := hrel
      by_cases hlt : k < n
      · obtain ⟨p, hp⟩ : ∃ p, ps[k]? = some p := ⟨_, List.getElem?_eq_getElem (by omega)⟩
        obtain ⟨q, hq⟩ : ∃ q, qs[k]? = some q := ⟨_, List.getElem?_eq_getElem (by omega)⟩
        obtain ⟨ad, rfl, hcell⟩ := rd_in (hr.below hBr) k (strV p) (by rw [List.getElem?_map, hp]; rfl)
        obtain ⟨ad2, rfl, hcell2⟩ := rd_in (hs.below hBr) k (strV q) (by rw [List.getElem?_map, hq]; rfl)
        unfold strV at hcell hcell2
        have HP := hid hp
        have HQ := hid hq
        have HT2 := hid ht
        have b1 : (k : Int) < n := by omega
        clear hp hq ht
        by_cases hpq : p = q
        · subst hpq
          go_wp2
          go_quiet (fail)
          go_wp2
          go_roundw
          case rel => exact ⟨k + 1, hlt, by go_num, by rw [take_snoc HP.out, take_snoc HQ.out, HT2.out], below_drewN hBr _⟩
          case measure => simp [intOf]; omega
        · have hb2 : (p == q) = false := beq_eq_false_iff_ne.2 hpq
          go_wp2
          go_quiet (fail)
          go_wp2
          go_ret
          refine ⟨?_, below_drewN hBr _⟩
          have : ¬ ps = qs := by
            rintro rfl
            have := HP.out.symm.trans HQ.out
            exact hpq (Option.some.inj this)
          rw [decide_eq_false this]; rfl
      · obtain rfl : k = n := by omega
        rw [List.take_of_length_le (by omega), List.take_of_length_le (by omega)] at ht
        have HT := hid ht
        have b1 : ¬ (k : Int) < k := by omega
        clear ht
        go_wp2
        go_ret
        exact ⟨by rw [decide_eq_true HT.out]; rfl, hBr⟩
  · have h1 : ((n : Int) == m) = false := by rw [beq_eq_false_iff_ne]; omega
    have h2 : ¬ (n : Int) = m := by omega
    have hne : ¬ ps = qs := by rintro rfl; omega
    rw [decide_eq_false hne]
    clear hne
    go_enter Tryd.func39, Tryd.ntmps39
    go_wp2
    go_ret
    exact ⟨rfl, Below.refl _ _⟩

/-! ### what joined parts part into -/
end Go.Proofs.YtcfcabhmdjoeeaaDoor

namespace Go.Proofs.YtcfcabhmdjoeeaaDoor
open Go.RowKit Go.Qc Go.Shelf
attribute [local go_sem] txt_size txt_append ib_fold txt_toL

theorem index_in (l : List UInt8) (c : UInt8) : Lib.indexByte l c = -1 ∧ l.contains c = false ∨ 0 ≤ Lib.indexByte l c ∧ l.contains c = true := by
  induction l with
  | nil => exact .inl ⟨rfl, rfl⟩
  | cons b l ih =>
    by_cases hb : b = c
    · subst hb; exact .inr ⟨by simp [Lib.indexByte], by simp⟩
    · have h1 : (b == c) = false := beq_eq_false_iff_ne.2 hb
      have h2 : (c == b) = false := beq_eq_false_iff_ne.2 (fun h => hb h.symm)
      rcases ih with ⟨h, hc⟩ | ⟨h, hc⟩
      · refine .inl ⟨by simp [Lib.indexByte, h1, h], ?_⟩
        rw [List.contains_cons, h2, hc]; rfl
      · have h3 : (Lib.indexByte l c == -1) = false := by rw [beq_eq_false_iff_ne]; omega
        refine .inr ⟨?_, ?_⟩
        · simp only [Lib.indexByte, h1, h3, Bool.false_eq_true, if_false]; omega
        · rw [List.contains_cons, hc, Bool.or_true]
theorem contains_any (l : List UInt8) (w : World) :
    Calls Tryd.prog 27 #[.string (txt l), .string ⟨#[10]⟩] w fun e w' => e = .returned (.bool (l.contains 10)) ∧ w = w' := by
  have := Any.strings_Contains_one lays144 (txt l) 10 w
  rw [txt_data] at this
  refine this.mono ?_
  rintro e w' ⟨rfl, rfl⟩
  refine ⟨?_, rfl⟩
  rcases index_in l 10 with ⟨h, hc⟩ | ⟨h, hc⟩
  · rw [h, hc]; rfl
  · rw [decide_eq_true h, hc]
/-- A line that may be; lines that may be. -/
def lineR (x : List UInt8) : Bool := decide (x.length ≤ 200) && !x.contains 10
def linesR (l : List (List UInt8)) : Bool := decide (l.length ≤ 1000) && l.all lineR
theorem bad_any (x : List UInt8) (w : World) :
    Calls Tryd.prog 26 #[.string (txt x)] w fun e w' => e = .returned (.bool (!lineR x)) ∧ w = w' := by
  have c := contains_any x
  unfold lineR
  by_cases h : 200 < x.length
  · have z : (200 : Int) < x.length := by omega
    rw [decide_eq_false (show ¬ x.length ≤ 200 by omega)]
    clear c
    go_enter Tryd.func26, Tryd.ntmps26
    go_wp2_with (fail)
    go_ret
    exact ⟨rfl, rfl⟩
  · have z : ¬ (200 : Int) < x.length := by omega
    rw [decide_eq_true (show x.length ≤ 200 by omega), Bool.true_and, Bool.not_not]
    generalize x.contains 10 = C at c ⊢
    go_enter Tryd.func26, Tryd.ntmps26
    go_wp2_with (go_at_call 27; (with_reducible refine (c _).mono ?_); rintro e1 w1 ⟨rfl, rfl⟩)
    go_ret
    exact ⟨rfl, rfl⟩
set_option maxHeartbeats 2000000 in
theorem indexFunc_any (A : Option Addr) (n c : Nat) (ps : List (List UInt8)) (hn : ps.length = n) (bn : n ≤ 9223372036854775807) (w : World) (hr : Rd w A (ps.map strV)) :
    Calls Tryd.prog 37 #[.slice A n c, .func (.func 26) #[] #[]] w fun e w' => (∃ z : Int, e = .returned (.int .i64 z) ∧ (ps.all lineR = true ∧ z = -1 ∨ ps.all lineR = false ∧ 0 ≤ z)) ∧ w = w' := by
  have hg := enters_of Tryd.func26 (by kernel_rfl) rfl
  go_enter Tryd.func37, Tryd.ntmps37
  go_wp2
  go_loopw [8] (fun i wr => ∃ k : Nat, k ≤ n ∧ i = .int .i64 k ∧ (ps.take k).all lineR = true ∧ w = wr) (fun i _ => n - (intOf i).toNat)
  case atStart => exact ⟨0, by omega, rfl, by simp, by first | rfl | trivial⟩
  case round =>
    obtain ⟨k, hk, rfl, ht, rfl⟩ := hrel
    have HT := hid ht
    clear ht
    by_cases hlt : k < n
    · obtain ⟨p, hpk⟩ : ∃ p, ps[k]? = some p := ⟨_, List.getElem?_eq_getElem (by omega)⟩
      obtain ⟨ad, rfl, hcell⟩ := rd_in hr k (strV p) (by rw [List.getElem?_map, hpk]; rfl)
      unfold strV at hcell
      have HP := hid hpk
      have b1 : (k : Int) < n := by omega
      have cB := bad_any p
      clear hpk
      cases hb : lineR p with
      | true =>
        rw [hb] at cB
        have HB := hid hb
        clear hb
        go_wp2_with ((with_reducible refine (cB _).mono ?_); rintro e1 w1 ⟨rfl, rfl⟩)
        go_roundw
        case rel => exact ⟨k + 1, hlt, by go_num, by rw [take_snoc HP.out, List.all_append, HT.out]; simp [HB.out], by first | rfl | trivial⟩
        case measure => simp [intOf]; omega
      | false =>
        rw [hb] at cB
        have HB := hid hb
        clear hb
        go_wp2_with ((with_reducible refine (cB _).mono ?_); rintro e1 w1 ⟨rfl, rfl⟩)
        go_ret
        refine ⟨⟨_, rfl, .inr ⟨?_, by omega⟩⟩, rfl⟩
        rw [List.all_eq_false]
        exact ⟨p, List.mem_of_getElem? HP.out, by simp [HB.out]⟩
    · obtain rfl : k = n := by omega
      have b1 : ¬ (k : Int) < k := by omega
      have ht := HT.out
      rw [List.take_of_length_le (by omega)] at ht
      have HU := hid ht
      clear ht HT
      go_wp2
      go_ret
      exact ⟨⟨_, rfl, .inl ⟨by simpa using HU.out, rfl⟩⟩, rfl⟩
theorem containsFunc_any (A : Option Addr) (n c : Nat) (ps : List (List UInt8)) (hn : ps.length = n) (bn : n ≤ 9223372036854775807) (w : World) (hr : Rd w A (ps.map strV)) :
    Calls Tryd.prog 25 #[.slice A n c, .func (.func 26) #[] #[]] w fun e w' => e = .returned (.bool (!ps.all lineR)) ∧ w = w' := by
  have cI := indexFunc_any A n c ps hn bn w hr
  go_enter Tryd.func25, Tryd.ntmps25
  go_wp2_with (go_at_call 37; (with_reducible refine cI.mono ?_); rintro e1 w1 ⟨⟨z, rfl, hz⟩, rfl⟩)
  go_ret
  refine ⟨?_, rfl⟩
  rcases hz with ⟨h1, rfl⟩ | ⟨h1, h2⟩
  · rw [h1]; rfl
  · rw [h1]; simp [h2]
theorem lines_any (A : Option Addr) (n c : Nat) (ps : List (List UInt8)) (hn : ps.length = n) (bn : n ≤ 9223372036854775807) (w : World) (hr : Rd w A (ps.map strV)) :
    Calls Tryd.prog 15 #[.slice A n c] w fun e w' => e = .returned (.bool (linesR ps)) ∧ w = w' := by
  have cI := containsFunc_any A n c ps hn bn w hr
  unfold linesR
  rw [hn]
  by_cases h : n ≤ 1000
  · have z : (n : Int) ≤ 1000 := by omega
    rw [decide_eq_true h, Bool.true_and]
    generalize ps.all lineR = C at cI ⊢
    go_enter Tryd.func15, Tryd.ntmps15
    go_wp2_with (go_at_call 25; (with_reducible refine cI.mono ?_); rintro e1 w1 ⟨rfl, rfl⟩)
    go_ret
    exact ⟨by simp, rfl⟩
  · have z : ¬ (n : Int) ≤ 1000 := by omega
    rw [decide_eq_false h, Bool.false_and]
    clear cI
    go_enter Tryd.func15, Tryd.ntmps15
    go_wp2_with (fail)
    go_ret
    exact ⟨rfl, rfl⟩
/-! ### the document's -/
theorem rline_any (x : List UInt8) (hx : x.length ≤ 1000000000000) (w : World) :
    Calls Tryd.prog 28 #[.string (txt x)] w fun e w' => e = .returned (.bool (lineR x)) ∧ w = w' := by
  go_enter Tryd.func28, Tryd.ntmps28
  go_wp2
  go_loopw [3] (fun i wr => ∃ k : Nat, k ≤ x.length ∧ i = .int .i64 k ∧ (x.take k).contains 10 = false ∧ w = wr) (fun i _ => x.length - (intOf i).toNat)
  case atStart => exact ⟨0, by omega, rfl, by simp⟩
  case round =>
    obtain ⟨k, hk, rfl, ht, rfl⟩ := hrel
    have HT := hid ht
    clear ht
    by_cases hlt : k < x.length
    · obtain ⟨y, hy⟩ : ∃ y, x[k]? = some y := ⟨_, List.getElem?_eq_getElem (by omega)⟩
      have f1 := run_index_str x k y hy k rfl
      have b1 : (k : Int) < x.length := by omega
      have HY := hid hy
      clear hy
      by_cases he : y = 10
      · subst he
        have e10 : ib 10 = 10 := rfl
        rw [e10] at f1
        go_wp2
        go_ret
        refine ⟨?_, rfl⟩
        have : x.contains 10 = true := by simpa using List.mem_of_getElem? HY.out
        unfold lineR
        rw [this, Bool.not_true, Bool.and_false]; rfl
      · have e10 : ib 10 = 10 := rfl
        have hne : ¬ ib y = 10 := by rw [← e10, ib_inj]; exact he
        go_wp2
        go_roundw
        case rel =>
          refine ⟨k + 1, hlt, by go_num, ?_, by first | rfl | trivial⟩
          rw [take_snoc HY.out]
          have := HT.out
          simp at this ⊢
          exact ⟨this, fun h => he h.symm⟩
        case measure => simp [intOf]; omega
    · obtain rfl : k = x.length := by omega
      have ht := HT.out
      rw [List.take_length] at ht
      have HU := hid ht
      have b1 : ¬ (x.length : Int) < x.length := by omega
      have e2 : decide ((x.length : Int) ≤ 200) = decide (x.length ≤ 200) := by rw [decide_eq_decide]; omega
      clear ht HT
      go_wp2
      go_ret
      refine ⟨?_, rfl⟩
      unfold lineR
      rw [HU.out, Bool.not_false, Bool.and_true, ← e2]; rfl
set_option maxHeartbeats 2000000 in
theorem rlines_any (A : Option Addr) (n c : Nat) (ps : List (List UInt8)) (hn : ps.length = n) (bn : n ≤ 9223372036854775807) (h8 : ∀ x ∈ ps, x.length ≤ 1000000000000) (w : World) (hr : Rd w A (ps.map strV)) :
    Calls Tryd.prog 16 #[.slice A n c] w fun e w' => e = .returned (.bool (linesR ps)) ∧ w = w' := by
  go_enter Tryd.func16, Tryd.ntmps16
  go_wp2
  go_loopw [3] (fun i wr => ∃ k : Nat, k ≤ n ∧ i = .int .i64 k ∧ (ps.take k).all lineR = true ∧ w = wr) (fun i _ => n - (intOf i).toNat)
  case atStart => exact ⟨0, by omega, rfl, by simp, by first | rfl | trivial⟩
  case round =>
    obtain ⟨k, hk, rfl, ht, rfl⟩ := hrel
    have HT := hid ht
    clear ht
    by_cases hlt : k < n
    · obtain ⟨p, hpk⟩ : ∃ p, ps[k]? = some p := ⟨_, List.getElem?_eq_getElem (by omega)⟩
      obtain ⟨ad, rfl, hcell⟩ := rd_in hr k (strV p) (by rw [List.getElem?_map, hpk]; rfl)
      unfold strV at hcell
      have HP := hid hpk
      have b1 : (k : Int) < n := by omega
      have cB := rline_any p (h8 p (List.mem_of_getElem? hpk))
      clear hpk
      cases hb : lineR p with
      | true =>
        rw [hb] at cB
        have HB := hid hb
        clear hb
        go_wp2_with (go_at_call 28; (with_reducible refine (cB _).mono ?_); rintro e1 w1 ⟨rfl, rfl⟩)
        go_roundw
        case rel => exact ⟨k + 1, hlt, by go_num, by rw [take_snoc HP.out, List.all_append, HT.out]; simp [HB.out], by first | rfl | trivial⟩
        case measure => simp [intOf]; omega
      | false =>
        rw [hb] at cB
        have HB := hid hb
        clear hb
        go_wp2_with (go_at_call 28; (with_reducible refine (cB _).mono ?_); rintro e1 w1 ⟨rfl, rfl⟩)
        go_ret
        refine ⟨?_, rfl⟩
        have : ps.all lineR = false := by rw [List.all_eq_false]; exact ⟨p, List.mem_of_getElem? HP.out, by simp [HB.out]⟩
        unfold linesR
        rw [this, Bool.and_false]; rfl
    · obtain rfl : k = n := by omega
      have b1 : ¬ (k : Int) < k := by omega
      have ht := HT.out
      rw [List.take_of_length_le (by omega)] at ht
      have HU := hid ht
      have e2 : decide ((k : Int) ≤ 1000) = decide (k ≤ 1000) := by rw [decide_eq_decide]; omega
      clear ht HT
      go_wp2
      go_ret
      refine ⟨?_, rfl⟩
      unfold linesR
      rw [HU.out, Bool.and_true, hn, ← e2]; rfl
/-! ### hunks -/
def hkV (at' : Int) (A : Option Addr) (n c : Nat) (B : Option Addr) (m d : Nat) : Array Value := #[.int .i64 at', .slice A n c, .slice B m d]
def hunkR (at' : Int) (old new : List (List UInt8)) : Bool := decide (0 ≤ at') && (decide (at' ≤ 1000) && (linesR old && (linesR new && decide (0 < old.length + new.length))))
set_option maxHeartbeats 4000000 in
theorem hright_gen (at' : Int) (A : Option Addr) (n c : Nat) (B : Option Addr) (m d : Nat) (bn : n ≤ 1000000) (bm : m ≤ 1000000) (O N : Bool) (w : World)
    (cO : ∀ W, Below w.heap.size w W → Calls Tryd.prog 15 #[.slice A n c] W fun e w' => e = .returned (.bool O) ∧ W = w')
    (cN : ∀ W, Below w.heap.size w W → Calls Tryd.prog 15 #[.slice B m d] W fun e w' => e = .returned (.bool N) ∧ W = w') :
    Calls Tryd.prog 30 #[.agg (hkV at' A n c B m d)] w fun e w' => e = .returned (.bool (decide (0 ≤ at') && (decide (at' ≤ 1000) && (O && (N && decide (0 < n + m)))))) ∧ Below w.heap.size w w' := by
  have hB : Below w.heap.size w (w.alloc (.cells #[.int .i64 at', .slice A n c, .slice B m d] 36)) := (Below.refl _ w).alloc (Nat.le_refl _) _
  have hb := Blk.new w 36 #[.int .i64 at', .slice A n c, .slice B m d]
  have x0 := hb.cell_ (i := 0) rfl
  have x1 := hb.cell_ (i := 1) rfl
  have x2 := hb.cell_ (i := 2) rfl
  have e2 : decide (0 < n + m) = decide ((0 : Int) < (n : Int) + m) := by rw [decide_eq_decide]; omega
  have hw : wrap64 ((n : Int) + m) = (n : Int) + m := by unfold wrap64; omega
  rw [e2]
  unfold hkV
  by_cases h0 : (0 : Int) ≤ at' <;> by_cases h1 : at' ≤ 1000 <;> cases O <;> cases N <;> by_cases hs : (0 : Int) < (n : Int) + m
  all_goals try (exfalso; omega)
  all_goals go_enter Tryd.func30, Tryd.ntmps30
  all_goals go_wp2_with (go_at_call 15; (first | (with_reducible refine (cO _ hB).mono ?_) | (with_reducible refine (cN _ hB).mono ?_)); rintro e1 w1 ⟨rfl, rfl⟩)
  all_goals go_ret
  all_goals exact ⟨by simp [*], hB⟩
end Go.Proofs.YtcfcabhmdjoeeaaDoor

namespace Go.Proofs.YtcfcabhmdjoeeaaDoor
open Go.RowKit Go.Qc Go.Shelf
attribute [local go_sem] txt_size txt_append ib_fold txt_toL

/-- Where a piece of a row begins. -/
def pcA (A : Option Addr) (l m : Nat) : Option Addr := if m = l then A else A.map (·.add l)
theorem rd_piece {w : World} {A : Option Addr} {xs : List Value} (h : Rd w A xs) (l k m : Nat) (hm : k ≤ m - l) : Rd w (pcA A l m) ((xs.drop l).take k) := by
  unfold pcA
  by_cases he : m = l
  · rw [if_pos he]
    have : k = 0 := by omega
    subst this
    exact .inl (by simp)
  · rw [if_neg he]
    rcases h with rfl | ⟨ad, rfl, hc⟩
    · exact .inl (by simp)
    · refine .inr ⟨ad.add l, rfl, fun j u hu => ?_⟩
      have hk : j < k := by
        have := (List.getElem?_eq_some_iff.1 hu).1
        rw [List.length_take] at this; omega
      rw [List.getElem?_take, if_pos hk, List.getElem?_drop] at hu
      have := hc (l + j) u hu
      have e : (ad.add l).add j = ad.add (l + j) := by
        unfold Addr.add
        by_cases h1 : l = 0 <;> by_cases h2 : j = 0 <;> simp [h1, h2, Nat.add_assoc]
      rw [e]; exact this
theorem sliced_pc (A : Option Addr) (l h m : Nat) : sliced A l h m 1 = .slice (pcA A l m) (h - l) (m - l) := by
  unfold sliced pcA
  cases A <;> simp <;> split <;> rfl
theorem sl_lh (A : Option Addr) (n c l h : Nat) (h1 : l ≤ h) (h2 : h ≤ c) (W : World) :
    (Instr.sliceAt 22 (.slice A n c) (some (.int .i64 (l : Int))) (some (.int .i64 (h : Int))) none).run Tryd.prog W = .ok (.slice (pcA A l c) (h - l) (c - l)) W := by
  obtain ⟨i0, hi, _, hs, _⟩ := info_parts infoString
  have b1 : (l : Int) ≤ h := by omega
  have b2 : (h : Int) ≤ c := by omega
  rw [← sliced_pc]
  simp [Instr.sliceAt, Instr.slice, Instr.sliceBounds, run_underlying Tryd.underlying22, run_sliceBound, b1, b2, sizeOf, typeInfo, hi, hs, Int.toNat_natCast, sliced]
theorem sl_hm (A : Option Addr) (n c h m : Nat) (h1 : h ≤ m) (h2 : m ≤ c) (W : World) :
    (Instr.sliceAt 22 (.slice A n c) none (some (.int .i64 (h : Int))) (some (.int .i64 (m : Int)))).run Tryd.prog W = .ok (.slice (pcA A 0 m) h m) W := by
  obtain ⟨i0, hi, _, _, _⟩ := info_parts infoString
  have b1 : (h : Int) ≤ m := by omega
  have b2 : (m : Int) ≤ c := by omega
  have := sliced_pc A 0 h m
  rw [Nat.sub_zero, Nat.sub_zero] at this
  rw [← this]
  simp [Instr.sliceAt, Instr.slice, Instr.sliceBounds, run_underlying Tryd.underlying22, run_sliceBound, b1, b2, sizeOf, typeInfo, hi, Int.toNat_natCast, sliced]
theorem sl_lhm (A : Option Addr) (n c l h m : Nat) (h0 : l ≤ h) (h1 : h ≤ m) (h2 : m ≤ c) (W : World) :
    (Instr.sliceAt 22 (.slice A n c) (some (.int .i64 (l : Int))) (some (.int .i64 (h : Int))) (some (.int .i64 (m : Int)))).run Tryd.prog W = .ok (.slice (pcA A l m) (h - l) (m - l)) W := by
  obtain ⟨i0, hi, _, hs, _⟩ := info_parts infoString
  have b0 : (l : Int) ≤ h := by omega
  have b1 : (h : Int) ≤ m := by omega
  have b2 : (m : Int) ≤ c := by omega
  rw [← sliced_pc]
  simp [Instr.sliceAt, Instr.slice, Instr.sliceBounds, run_underlying Tryd.underlying22, run_sliceBound, b0, b1, b2, sizeOf, typeInfo, hi, hs, Int.toNat_natCast, sliced]
/-- A struct of three cells in a block. -/
structure Hk (w : World) (g : Nat) (t : TypeId) (at' : Int) (u v : Value) : Prop where
  b : Blk w g t #[.int .i64 at', u, v]
theorem Hk.c0 {w : World} {g : Nat} {t : TypeId} {at' : Int} {u v : Value} (h : Hk w g t at' u v) : w.cell? ⟨g, 0, none⟩ = some (.int .i64 at') := h.b.cell_ rfl
theorem Hk.c1 {w : World} {g : Nat} {t : TypeId} {at' : Int} {u v : Value} (h : Hk w g t at' u v) : w.cell? ⟨g, 1, none⟩ = some u := h.b.cell_ rfl
theorem Hk.c2 {w : World} {g : Nat} {t : TypeId} {at' : Int} {u v : Value} (h : Hk w g t at' u v) : w.cell? ⟨g, 2, none⟩ = some v := h.b.cell_ rfl
theorem Hk.below {w w' : World} {g : Nat} {t : TypeId} {at' : Int} {u v : Value} (h : Hk w g t at' u v) (hb : Below w.heap.size w w') : Hk w' g t at' u v := ⟨h.b.below hb⟩
theorem Hk.new (w : World) (t : TypeId) (at' : Int) (u v : Value) : Hk (w.alloc (.cells #[.int .i64 at', u, v] t)) w.heap.size t at' u v := ⟨Blk.new _ _ _⟩
theorem behind_any (at' : Int) (A : Option Addr) (n c : Nat) (B : Option Addr) (m d : Nat) (z : Int) (hz : wrap64 (at' + n) = z) (w : World) :
    Calls Tryd.prog 32 #[.agg #[.int .i64 at', .slice A n c, .slice B m d]] w fun e w' => e = .returned (.int .i64 z) ∧ Below w.heap.size w w' := by
  go_enter Tryd.func32, Tryd.ntmps32
  go_wp2
  go_ret
  exact ⟨by simp [hz], (Below.refl _ w).alloc (Nat.le_refl _) _⟩
/-- Whether a hunk fits lines (at 0 to so many). -/
def fitR (l old : List (List UInt8)) (at' : Nat) : Bool := decide (at' + old.length ≤ l.length) && decide ((l.drop at').take old.length = old)
set_option maxHeartbeats 4000000 in
theorem fits_any (L : Option Addr) (k e : Nat) (ls : List (List UInt8)) (hk : ls.length = k) (hke : k ≤ e) (bk : k ≤ 1000000) (at' : Nat) (ba : at' ≤ 1000000) (A : Option Addr) (n c : Nat) (old : List (List UInt8)) (hn : old.length = n) (bn : n ≤ 1000000) (B : Option Addr) (m d : Nat) (w : World)
    (hL : Rd w L (ls.map strV)) (hA : Rd w A (old.map strV)) :
    Calls Tryd.prog 31 #[.slice L k e, .agg #[.int .i64 (at' : Int), .slice A n c, .slice B m d]] w fun e w' => e = .returned (.bool (fitR ls old at')) ∧ Below w.heap.size w w' := by
  have hB0 : Below w.heap.size w (w.alloc (.cells #[.int .i64 (at' : Int), .slice A n c, .slice B m d] 36)) := (Below.refl _ w).alloc (Nat.le_refl _) _
  have hw : wrap64 ((at' : Int) + n) = ((at' + n : Nat) : Int) := by unfold wrap64; omega
  have cB := behind_any (at' : Int) A n c B m d _ hw
  have hh := Hk.new w 36 (at' : Int) (.slice A n c) (.slice B m d)
  generalize hW : w.alloc (.cells #[.int .i64 (at' : Int), .slice A n c, .slice B m d] 36) = W0 at *
  have c0 : ∀ p : LtW W0, p.w.cell? ⟨w.heap.size, 0, none⟩ = some (.int .i64 (at' : Int)) := fun p => (hh.below p.h).c0
  have c1 : ∀ p : LtW W0, p.w.cell? ⟨w.heap.size, 1, none⟩ = some (.slice A n c) := fun p => (hh.below p.h).c1
  have c2 : ∀ p : LtW W0, p.w.cell? ⟨w.heap.size, 2, none⟩ = some (.slice B m d) := fun p => (hh.below p.h).c2
  unfold fitR
  rw [hk, hn]
  by_cases hle : at' + n ≤ k
  · have z1 : ((at' + n : Nat) : Int) ≤ k := by omega
    have z2 : (at' : Int) + n ≤ k := by omega
    rw [decide_eq_true hle, Bool.true_and]
    have hs := sl_lh L k e at' (at' + n) (by omega) (by omega)
    rw [show at' + n - at' = n by omega, show ((at' + n : Nat) : Int) = (at' : Int) + n by omega] at hs
    have cE : ∀ p : LtW W0, Calls Tryd.prog 39 #[.slice (pcA L at' e) n (e - at'), .slice A n c] p.w fun e w' => e = .returned (.bool (decide ((ls.drop at').take n = old))) ∧ Below p.w.heap.size p.w w' := fun p => by
      have hB1 := hB0.trans (p.h.mono hB0.size)
      have hr := rd_piece (hL.below hB1) at' n e (by omega)
      rw [← List.map_drop, ← List.map_take] at hr
      exact sequal_any (pcA L at' e) A n n (e - at') c ((ls.drop at').take n) old (by rw [List.length_take, List.length_drop]; omega) hn (by omega) (by omega) p.w hr (hA.below hB1)
    generalize decide ((ls.drop at').take n = old) = V at *
    go_enter Tryd.func31, Tryd.ntmps31
    go_wp2_with (fail)
    try rw [hW]
    refine wp_region_lt mixed10 (by kernel_rfl) ?_
    repeat (first
      | ((with_reducible refine wpQuiet_skip (by with_unfolding_all rfl) ?_); simp only [Act.put, List.setIfInBounds_toArray, List.set_cons_zero, List.set_cons_succ])
      | ((with_reducible refine wpQuiet_step (fun K hK => ?_)); go_simp; first | ((with_reducible refine hK _ ?_); clear hK K) | (with_reducible apply Exists.intro; (with_reducible refine ⟨fun _ => ?_, hK _ ?_⟩); ((first | (go_at_call 32; exact lt_of (cB _)) | (go_at_call 39; exact lt_of (cE _)))); clear hK K)))
    with_reducible refine wpQuiet_nil ?_
    intro _ hw'
    obtain ⟨p, rfl⟩ := hw'
    have hp := p.h
    generalize p.w = w4 at *
    go_wp2
    go_ret
    exact ⟨by simp, hB0.trans (hp.mono hB0.size)⟩
  · have z1 : ¬ ((at' + n : Nat) : Int) ≤ k := by omega
    have z2 : ¬ (at' : Int) + n ≤ k := by omega
    have z4 : decide ((at' : Int) + n ≤ k) = false := decide_eq_false z2
    rw [decide_eq_false hle, Bool.false_and]
    clear z1
    go_enter Tryd.func31, Tryd.ntmps31
    go_wp2_with (fail)
    try rw [hW]
    refine wp_region_lt mixed10 (by kernel_rfl) ?_
    repeat (first
      | ((with_reducible refine wpQuiet_skip (by with_unfolding_all rfl) ?_); simp only [Act.put, List.setIfInBounds_toArray, List.set_cons_zero, List.set_cons_succ])
      | ((with_reducible refine wpQuiet_step (fun K hK => ?_)); go_simp; first | ((with_reducible refine hK _ ?_); clear hK K) | (with_reducible apply Exists.intro; (with_reducible refine ⟨fun _ => ?_, hK _ ?_⟩); (go_at_call 32; exact lt_of (cB _)); clear hK K) | (rw [if_neg z2]; (with_reducible refine hK _ ?_); clear hK K)))
    with_reducible refine wpQuiet_nil ?_
    intro _ hw'
    obtain ⟨p, rfl⟩ := hw'
    have hp := p.h
    generalize p.w = w4 at *
    go_wp2
    go_ret
    exact ⟨by simp, hB0.trans (hp.mono hB0.size)⟩
/-! ### a row of the call's own, made with room -/
def laysNm84_ren : Go.Shelf.Ren := ⟨fun | 4 => 40 | n => n, fun | 22 => 22 | 25 => 9 | 3 => 3 | 4 => 4 | 9 => 9 | 20 => 20 | 0 => 0 | n => n, fun | n => n⟩
theorem laysNm84 : Go.Proofs.Lays8.n4 Tryd.prog laysNm84_ren := {
  mixed := by kernel_rfl
  f4 := ⟨Tryd.f40.name, by decide, Tryd.func40.trans (congrArg some (by kernel_rfl))⟩
  t0 := Tryd.underlying0
  a0 := Tryd.isAgg0
  z0 := Tryd.sizeOf0
  v0 := Tryd.zeroValue0
  t3 := Tryd.underlying3
  a3 := Tryd.isAgg3
  z3 := Tryd.sizeOf3
  v3 := Tryd.zeroValue3
  t4 := Tryd.underlying4
  a4 := Tryd.isAgg4
  z4 := Tryd.sizeOf4
  v4 := Tryd.zeroValue4
  t9 := Tryd.underlying9
  a9 := Tryd.isAgg9
  z9 := Tryd.sizeOf9
  v9 := Tryd.zeroValue9
  t20 := Tryd.underlying20
  a20 := Tryd.isAgg20
  z20 := Tryd.sizeOf20
  v20 := Tryd.zeroValue20
  t22 := Tryd.underlying22
  a22 := Tryd.isAgg22
  z22 := Tryd.sizeOf22
  v22 := Tryd.zeroValue22 }
theorem grow_any (k : Nat) (hk : k ≤ 100000000) (w : World) :
    Calls Tryd.prog 40 #[.slice none 0 0, .int .i64 k] w fun e w' => ∃ v, e = .returned v ∧ w'.ownsRow w.heap.size 9 1 v 0 [] ∧ Below w.heap.size w w' := by
  by_cases h0 : k = 0
  · subst h0
    exact (Any8.slices_Grow_room laysNm84 none 0 0 0 w (Nat.le_refl _) (by decide) (by decide) (Nat.le_refl _)).mono (by rintro e w' ⟨rfl, rfl⟩; exact ⟨_, rfl, World.ownsRow_nil _ _ _ _, Below.refl _ _⟩)
  · obtain ⟨i0, hi, hz, hs, hb⟩ := info_parts infoString
    refine (Any8.slices_Grow_grow laysNm84 i0 (.string ⟨#[]⟩) hi hz (by omega) none 0 0 k [] w (Nat.le_refl _) (by omega) (by rw [hb]; omega) (by omega) (by simp) (fun _ => rfl) (fun a h => by cases h)).mono ?_
    rintro e w' ⟨rfl, rfl⟩
    refine ⟨_, rfl, ?_, (below_drew10 w).trans ((Below.refl w.heap.size w.drew).alloc (Nat.le_refl _) _)⟩
    have h1 := grownCap_ge w (0 + k) 0 (laysNm84_ren.t 25)
    have h2 := grownCap_le_maxLen w (0 + k) 0 (laysNm84_ren.t 25) (by unfold maxLen; omega)
    generalize grownCap w (0 + k) 0 (laysNm84_ren.t 25) = G at *
    refine World.ownsRow_made w.drew _ _ (Nat.le_refl _) h2 ?_
    simp only [Array.size_append, size_zeroCells, Value.cells, List.size_toArray, List.length_nil]
    simp
    omega
end Go.Proofs.YtcfcabhmdjoeeaaDoor

namespace Go.Proofs.YtcfcabhmdjoeeaaDoor
open Go.RowKit Go.Qc Go.Shelf
attribute [local go_sem] txt_size txt_append ib_fold txt_toL

/-- A slice that reads as a row of texts. -/
def Sl (w : World) (v : Value) (r : List (List UInt8)) : Prop := ∃ A n c, v = .slice A n c ∧ r.length = n ∧ (A = none → c = 0) ∧ Rd w A (r.map strV)
theorem Sl.below {w w' : World} {v : Value} {r : List (List UInt8)} (h : Sl w v r) (hb : Below w.heap.size w w') : Sl w' v r := by
  obtain ⟨A, n, c, rfl, h1, h0, h2⟩ := h
  exact ⟨A, n, c, rfl, h1, h0, h2.below hb⟩
set_option maxRecDepth 100000 in
set_option maxHeartbeats 4000000 in
theorem concat_any (ad : Addr) (N cc : Nat) (ss : List (Value × List (List UInt8))) (hN : ss.length = N) (bN : N ≤ 1000) (hl : ∀ x ∈ ss, x.2.length ≤ 10000) (w : World)
    (hc : ∀ W, Below w.heap.size w W → ∀ j x, ss[j]? = some x → W.cell? (ad.add j) = some x.1 ∧ Sl W x.1 x.2) :
    Calls Tryd.prog 33 #[.slice (some ad) N cc] w fun e w' => ∃ v, e = .returned v ∧ w'.ownsRow w.heap.size 9 1 v (ss.flatMap (·.2)).length ((ss.flatMap (·.2)).map strV) ∧ Below w.heap.size w w' := by
  obtain ⟨j0, hj, hjz, hjs, hjb⟩ := info_parts infoString
  have hsum : ∀ k, ((ss.take k).flatMap (·.2)).length ≤ k * 10000 := fun k => by
    induction k with
    | zero => simp
    | succ k ih =>
      by_cases hk : k < ss.length
      · rw [List.take_succ_eq_append_getElem hk, List.flatMap_append, List.length_append]
        have h1 := hl ss[k] (List.getElem_mem hk)
        have h2 : (([ss[k]] : List (Value × List (List UInt8))).flatMap (·.2)).length = ss[k].2.length := by simp
        rw [h2]
        omega
      · rw [List.take_of_length_le (by omega)] at ih ⊢
        omega
  have hB0 := Below.refl w.heap.size w
  obtain ⟨R, hR⟩ : ∃ R, R = ss.flatMap (·.2) := ⟨_, rfl⟩
  rw [← hR]
  have HR := hid hR
  clear hR
  have HC := hid hc
  have HSUM := hid hsum
  have HLL := hid hl
  clear hc hsum hl
  go_enter Tryd.func33, Tryd.ntmps33
  go_wp2
  go_loopw [3, 11] (fun z i wr => ∃ (k T : Nat), k ≤ N ∧ i = .int .i64 k ∧ z = .int .i64 T ∧ T = ((ss.take k).flatMap (·.2)).length ∧ w = wr) (fun _ i _ => N - (intOf i).toNat)
  case atStart => exact ⟨0, 0, by omega, rfl, rfl, by simp, by first | rfl | trivial⟩
  case round =>
    obtain ⟨k, T, hk, rfl, rfl, hT, rfl⟩ := hrel
    have hTb : T ≤ 10000000 := by have := HSUM.out k; omega
    have HT := hid hT
    clear hT
    by_cases hlt : k < N
    · obtain ⟨x, hx⟩ : ∃ x, ss[k]? = some x := ⟨_, List.getElem?_eq_getElem (by omega)⟩
      obtain ⟨hcell, A, n, c, hv, hn, _, _⟩ := HC.out w hB0 k x hx
      have hxl := HLL.out x (List.mem_of_getElem? hx)
      rw [hv] at hcell
      have HX := hid hx
      have b1 : (k : Int) < N := by omega
      have b2 : ¬ ((T : Int) + n) < 0 := by omega
      have hw : wrap64 ((T : Int) + n) = (T : Int) + n := by unfold wrap64; omega
      clear hx
      go_wp2
      go_roundw
      case rel =>
        refine ⟨k + 1, T + n, hlt, by go_num, by go_num, ?_, by first | rfl | trivial⟩
        rw [take_snoc HX.out, List.flatMap_append, List.length_append, HT.out, ← hn]
        simp
      case measure => simp [intOf]; omega
    · obtain rfl : N = k := by omega
      have b1 : ¬ (N : Int) < N := by omega
      clear HT
      go_wp2_with (go_at_call 40; (with_reducible refine (grow_any T (by omega) _).mono ?_); rintro e1 w1 ⟨v, rfl, hown, hB⟩)
      go_loopw [6, 27] (fun v i wr => ∃ (k : Nat), k ≤ N ∧ i = .int .i64 k ∧ wr.ownsRow w.heap.size 9 1 v ((ss.take k).flatMap (·.2)).length (((ss.take k).flatMap (·.2)).map strV) ∧ Below w.heap.size w wr) (fun _ i _ => N - (intOf i).toNat)
      case atStart => exact ⟨0, by omega, rfl, by simpa using hown, hB⟩
      case round =>
        clear hown hB
        obtain ⟨k, hk, rfl, hown, hB⟩ := hrel
        have hwz := hB.size
        have hlen := HSUM.out k
        obtain ⟨Q, hQ⟩ : ∃ Q, Q = (ss.take k).flatMap (·.2) := ⟨_, rfl⟩
        rw [← hQ] at hown hlen
        have HQ := hid hQ
        clear hQ
        by_cases hlt : k < N
        · obtain ⟨x, hx⟩ : ∃ x, ss[k]? = some x := ⟨_, List.getElem?_eq_getElem (by omega)⟩
          obtain ⟨hcell, A, n, c, hv, hn, hz, hrd⟩ := HC.out wr hB k x hx
          have hxl := HLL.out x (List.mem_of_getElem? hx)
          rw [hv] at hcell
          have HX := hid hx
          have b1 : (k : Int) < N := by omega
          clear hx
          have hstep : (ss.take (k + 1)).flatMap (·.2) = Q ++ x.2 := by
            rw [take_snoc HX.out, List.flatMap_append, HQ.out]; simp
          have HS := hid hstep
          clear hstep
          cases A with
          | none =>
            obtain rfl : c = 0 := hz rfl
            have hx2 : x.2 = [] := by
              rcases hrd with h | ⟨_, h, _⟩
              · simpa using h
              · cases h
            obtain rfl : n = 0 := by rw [← hn, hx2]; rfl
            have HX2 := hid hx2
            clear hx2 hrd hz
            go_wp2_with (at_builtin; refine wpList_append_own_none rfl _ _ 22 rfl w.heap.size 9 j0 1 Tryd.underlying22 hj _ _ _ rfl hown rfl ?_)
            go_roundw
            case rel => exact ⟨k + 1, hlt, by go_num, by rw [HS.out, HX2.out, List.append_nil]; exact hown, hB⟩
            case measure => simp [intOf]; omega
          | some ad2 =>
            have hcells : ∀ j u, (x.2.map strV)[j]? = some u → wr.cell? (ad2.add j) = some u := by
              rcases hrd with h | ⟨ad3, h3, h4⟩
              · intro j u hu; rw [h] at hu; simp at hu
              · cases h3; exact h4
            have HL := hid hlen
            clear hlen hz hrd
            go_wp2_with (at_builtin; refine wpList_append_own _ rfl _ _ 22 rfl w.heap.size 9 j0 (.string ⟨#[]⟩) 1 16 Tryd.underlying22 hj hjz hjs hjb rfl (by decide) _ _ _ rfl hown ad2 n c (x.2.map strV) rfl ?l1 hcells ?l2 ?l3 ?l4 hwz ?_)
            case l1 => rw [List.length_map]; omega
            case l2 =>
              intro u hu
              first | rfl | (obtain ⟨y, _, rfl⟩ := List.mem_map.1 hu; rfl)
            case l3 => have := HL.out; unfold maxLen; omega
            case l4 => have := HL.out; omega
            intro v8 w8 hown8 hg8 _
            have hB8 : Below w.heap.size w w8 := hB.grown hg8 hwz (fun q hq => (hown.lt q hq).1)
            go_wp2
            go_roundw
            case rel =>
              refine ⟨k + 1, hlt, by go_num, ?_, hB8⟩
              rw [HS.out, List.length_append, List.map_append, hn]
              exact hown8
            case measure => simp [intOf]; omega
        · obtain rfl : k = N := by omega
          have b1 : ¬ (k : Int) < k := by omega
          have hQR : Q = R := by rw [HQ.out, HR.out, List.take_of_length_le (by omega)]
          subst hQR
          clear hlen
          go_wp2
          go_ret
          exact ⟨_, rfl, hown, hB⟩
end Go.Proofs.YtcfcabhmdjoeeaaDoor

namespace Go.Proofs.YtcfcabhmdjoeeaaDoor
open Go.RowKit Go.Qc Go.Shelf
attribute [local go_sem] txt_size txt_append ib_fold txt_toL

theorem hright_any (at' : Int) (A : Option Addr) (n c : Nat) (old : List (List UInt8)) (hn : old.length = n) (bn : n ≤ 1000000) (B : Option Addr) (m d : Nat) (new : List (List UInt8)) (hm : new.length = m) (bm : m ≤ 1000000) (w : World)
    (hA : Rd w A (old.map strV)) (hB : Rd w B (new.map strV)) :
    Calls Tryd.prog 30 #[.agg #[.int .i64 at', .slice A n c, .slice B m d]] w fun e w' => e = .returned (.bool (hunkR at' old new)) ∧ Below w.heap.size w w' := by
  have := hright_gen at' A n c B m d bn bm (linesR old) (linesR new) w
    (fun W hb => (lines_any A n c old hn (by omega) W (hA.below hb)).mono (by rintro e w' ⟨h1, h2⟩; exact ⟨h1, h2⟩))
    (fun W hb => (lines_any B m d new hm (by omega) W (hB.below hb)).mono (by rintro e w' ⟨h1, h2⟩; exact ⟨h1, h2⟩))
  unfold hunkR
  rw [hn, hm]
  exact this

set_option maxRecDepth 100000 in
set_option maxHeartbeats 2000000 in
theorem app_form (L : Option Addr) (k e : Nat) (at' : Int) (A : Option Addr) (n c : Nat) (B : Option Addr) (m d : Nat) (w : World)
    (cR : ∀ W, Below w.heap.size w W → Calls Tryd.prog 30 #[.agg #[.int .i64 at', .slice A n c, .slice B m d]] W fun e w' => e = .returned (.bool false) ∧ Below W.heap.size W w')
    : Calls Tryd.prog 19 #[.slice L k e, .agg #[.int .i64 at', .slice A n c, .slice B m d]] w fun e w' => e = .returned (.tuple #[.slice none 0 0, .int .i64 3]) ∧ Below w.heap.size w w' := by
  have hX : Below w.heap.size w (w.alloc (.cells #[.int .i64 at', .slice A n c, .slice B m d] 36)) := (Below.refl _ w).alloc (Nat.le_refl _) _
  have hh := Hk.new w 36 at' (.slice A n c) (.slice B m d)
  go_enter Tryd.func19, Tryd.ntmps19
  go_wp2_with (first
    | (go_at_call 30; (with_reducible refine (cR _ hX).mono ?_); rintro e1 w1 ⟨rfl, hb⟩; replace hh := hh.below hb; replace hX := hX.trans (hb.mono hX.size); clear hb; have c0 := hh.c0; have c1 := hh.c1; have c2 := hh.c2)
    | (go_at_call 31; (with_reducible refine (cF _ hX).mono ?_); rintro e2 w2 ⟨rfl, hb⟩; clear c0 c1 c2; replace hh := hh.below hb; replace hX := hX.trans (hb.mono hX.size); clear hb; have c0 := hh.c0; have c1 := hh.c1; have c2 := hh.c2))
  go_ret2
  exact ⟨rfl, hX⟩

set_option maxRecDepth 100000 in
set_option maxHeartbeats 2000000 in
theorem app_range (L : Option Addr) (k e : Nat) (at' : Int) (A : Option Addr) (n c : Nat) (B : Option Addr) (m d : Nat) (w : World)
    (h1 : (k : Int) < at')
    (cR : ∀ W, Below w.heap.size w W → Calls Tryd.prog 30 #[.agg #[.int .i64 at', .slice A n c, .slice B m d]] W fun e w' => e = .returned (.bool true) ∧ Below W.heap.size W w')
    : Calls Tryd.prog 19 #[.slice L k e, .agg #[.int .i64 at', .slice A n c, .slice B m d]] w fun e w' => e = .returned (.tuple #[.slice none 0 0, .int .i64 5]) ∧ Below w.heap.size w w' := by
  have hX : Below w.heap.size w (w.alloc (.cells #[.int .i64 at', .slice A n c, .slice B m d] 36)) := (Below.refl _ w).alloc (Nat.le_refl _) _
  have hh := Hk.new w 36 at' (.slice A n c) (.slice B m d)
  go_enter Tryd.func19, Tryd.ntmps19
  go_wp2_with (first
    | (go_at_call 30; (with_reducible refine (cR _ hX).mono ?_); rintro e1 w1 ⟨rfl, hb⟩; replace hh := hh.below hb; replace hX := hX.trans (hb.mono hX.size); clear hb; have c0 := hh.c0; have c1 := hh.c1; have c2 := hh.c2)
    | (go_at_call 31; (with_reducible refine (cF _ hX).mono ?_); rintro e2 w2 ⟨rfl, hb⟩; clear c0 c1 c2; replace hh := hh.below hb; replace hX := hX.trans (hb.mono hX.size); clear hb; have c0 := hh.c0; have c1 := hh.c1; have c2 := hh.c2))
  go_ret2
  exact ⟨rfl, hX⟩

set_option maxRecDepth 100000 in
set_option maxHeartbeats 2000000 in
theorem app_clash (L : Option Addr) (k e : Nat) (at' : Int) (A : Option Addr) (n c : Nat) (B : Option Addr) (m d : Nat) (w : World)
    (h1 : ¬ (k : Int) < at')
    (cR : ∀ W, Below w.heap.size w W → Calls Tryd.prog 30 #[.agg #[.int .i64 at', .slice A n c, .slice B m d]] W fun e w' => e = .returned (.bool true) ∧ Below W.heap.size W w')
    (cF : ∀ W, Below w.heap.size w W → Calls Tryd.prog 31 #[.slice L k e, .agg #[.int .i64 at', .slice A n c, .slice B m d]] W fun e w' => e = .returned (.bool false) ∧ Below W.heap.size W w')
    : Calls Tryd.prog 19 #[.slice L k e, .agg #[.int .i64 at', .slice A n c, .slice B m d]] w fun e w' => e = .returned (.tuple #[.slice none 0 0, .int .i64 12]) ∧ Below w.heap.size w w' := by
  have hX : Below w.heap.size w (w.alloc (.cells #[.int .i64 at', .slice A n c, .slice B m d] 36)) := (Below.refl _ w).alloc (Nat.le_refl _) _
  have hh := Hk.new w 36 at' (.slice A n c) (.slice B m d)
  go_enter Tryd.func19, Tryd.ntmps19
  go_wp2_with (first
    | (go_at_call 30; (with_reducible refine (cR _ hX).mono ?_); rintro e1 w1 ⟨rfl, hb⟩; replace hh := hh.below hb; replace hX := hX.trans (hb.mono hX.size); clear hb; have c0 := hh.c0; have c1 := hh.c1; have c2 := hh.c2)
    | (go_at_call 31; (with_reducible refine (cF _ hX).mono ?_); rintro e2 w2 ⟨rfl, hb⟩; clear c0 c1 c2; replace hh := hh.below hb; replace hX := hX.trans (hb.mono hX.size); clear hb; have c0 := hh.c0; have c1 := hh.c1; have c2 := hh.c2))
  go_ret2
  exact ⟨rfl, hX⟩

set_option maxRecDepth 100000 in
set_option maxHeartbeats 2000000 in
theorem app_long (L : Option Addr) (k e : Nat) (at' : Int) (A : Option Addr) (n c : Nat) (B : Option Addr) (m d : Nat) (w : World)
    (h1 : ¬ (k : Int) < at') (bk : k ≤ 1000) (bn : n ≤ 1000) (bm : m ≤ 1000) (hl : (1000 : Int) < (k : Int) - n + m)
    (cR : ∀ W, Below w.heap.size w W → Calls Tryd.prog 30 #[.agg #[.int .i64 at', .slice A n c, .slice B m d]] W fun e w' => e = .returned (.bool true) ∧ Below W.heap.size W w')
    (cF : ∀ W, Below w.heap.size w W → Calls Tryd.prog 31 #[.slice L k e, .agg #[.int .i64 at', .slice A n c, .slice B m d]] W fun e w' => e = .returned (.bool true) ∧ Below W.heap.size W w')
    : Calls Tryd.prog 19 #[.slice L k e, .agg #[.int .i64 at', .slice A n c, .slice B m d]] w fun e w' => e = .returned (.tuple #[.slice none 0 0, .int .i64 4]) ∧ Below w.heap.size w w' := by
  have hX : Below w.heap.size w (w.alloc (.cells #[.int .i64 at', .slice A n c, .slice B m d] 36)) := (Below.refl _ w).alloc (Nat.le_refl _) _
  have hh := Hk.new w 36 at' (.slice A n c) (.slice B m d)
  have hw1 : wrap64 ((k : Int) - n) = (k : Int) - n := by unfold wrap64; omega
  have hw2 : wrap64 ((k : Int) - n + m) = (k : Int) - n + m := by unfold wrap64; omega
  go_enter Tryd.func19, Tryd.ntmps19
  go_wp2_with (first
    | (go_at_call 30; (with_reducible refine (cR _ hX).mono ?_); rintro e1 w1 ⟨rfl, hb⟩; replace hh := hh.below hb; replace hX := hX.trans (hb.mono hX.size); clear hb; have c0 := hh.c0; have c1 := hh.c1; have c2 := hh.c2)
    | (go_at_call 31; (with_reducible refine (cF _ hX).mono ?_); rintro e2 w2 ⟨rfl, hb⟩; clear c0 c1 c2; replace hh := hh.below hb; replace hX := hX.trans (hb.mono hX.size); clear hb; have c0 := hh.c0; have c1 := hh.c1; have c2 := hh.c2))
  go_ret2
  exact ⟨rfl, hX⟩

set_option maxRecDepth 100000 in
set_option maxHeartbeats 8000000 in
theorem app_ok (L : Option Addr) (k e : Nat) (at' : Int) (A : Option Addr) (n c : Nat) (B : Option Addr) (m d : Nat) (w : World)
    (h1 : ¬ (k : Int) < at') (h2 : -10000 ≤ at') (hb3 : k ≤ 1000 ∧ n ≤ 1000 ∧ m ≤ 1000) (hl : ¬ (1000 : Int) < (k : Int) - n + m)
    (cR : ∀ W, Below w.heap.size w W → Calls Tryd.prog 30 #[.agg #[.int .i64 at', .slice A n c, .slice B m d]] W fun e w' => e = .returned (.bool true) ∧ Below W.heap.size W w')
    (cF : ∀ W, Below w.heap.size w W → Calls Tryd.prog 31 #[.slice L k e, .agg #[.int .i64 at', .slice A n c, .slice B m d]] W fun e w' => e = .returned (.bool true) ∧ Below W.heap.size W w')
    (A1 A2 : Option Addr) (n1 d1 n2 d2 : Nat) (R : List (List UInt8))
    (s1 : ∀ W, (Instr.sliceAt 22 (.slice L k e) none (some (.int .i64 at')) (some (.int .i64 at'))).run Tryd.prog W = .ok (.slice A1 n1 d1) W)
    (s2 : ∀ W, (Instr.sliceAt 22 (.slice L k e) (some (.int .i64 (at' + n))) (some (.int .i64 (k : Int))) (some (.int .i64 (k : Int)))).run Tryd.prog W = .ok (.slice A2 n2 d2) W)
    (cC : ∀ W, Below w.heap.size w W → Calls Tryd.prog 33 #[.slice (some ⟨W.heap.size, 0, none⟩) 3 3] (W.alloc (.cells #[.slice A1 n1 d1, .slice B m d, .slice A2 n2 d2] 22)) fun e w' => ∃ v, e = .returned v ∧ w'.ownsRow w.heap.size 9 1 v R.length (R.map strV) ∧ Below w.heap.size w w')
    : Calls Tryd.prog 19 #[.slice L k e, .agg #[.int .i64 at', .slice A n c, .slice B m d]] w fun e w' => ∃ v, e = .returned (.tuple #[v, .int .i64 0]) ∧ w'.ownsRow w.heap.size 9 1 v R.length (R.map strV) ∧ Below w.heap.size w w' := by
  have hX : Below w.heap.size w (w.alloc (.cells #[.int .i64 at', .slice A n c, .slice B m d] 36)) := (Below.refl _ w).alloc (Nat.le_refl _) _
  have hh := Hk.new w 36 at' (.slice A n c) (.slice B m d)
  have hw1 : wrap64 ((k : Int) - n) = (k : Int) - n := by unfold wrap64; omega
  have hw2 : wrap64 ((k : Int) - n + m) = (k : Int) - n + m := by unfold wrap64; omega
  have hw : wrap64 (at' + n) = at' + n := by unfold wrap64; omega
  have cB := behind_any at' A n c B m d _ hw
  obtain ⟨bk, bn, bm⟩ := hb3
  go_enter Tryd.func19, Tryd.ntmps19
  go_wp2_with (first
    | (go_at_call 30; (with_reducible refine (cR _ hX).mono ?_); rintro e1 w1 ⟨rfl, hb⟩; replace hh := hh.below hb; replace hX := hX.trans (hb.mono hX.size); clear hb; have c0 := hh.c0; have c1 := hh.c1; have c2 := hh.c2)
    | (go_at_call 31; (with_reducible refine (cF _ hX).mono ?_); rintro e2 w2 ⟨rfl, hb⟩; clear c0 c1 c2; replace hh := hh.below hb; replace hX := hX.trans (hb.mono hX.size); clear hb; have c0 := hh.c0; have c1 := hh.c1; have c2 := hh.c2))
  have l0 : ∀ p : LtW w2, p.w.cell? ⟨w.heap.size, 0, none⟩ = some (.int .i64 at') := fun p => (hh.below p.h).c0
  have l1 : ∀ p : LtW w2, p.w.cell? ⟨w.heap.size, 1, none⟩ = some (.slice A n c) := fun p => (hh.below p.h).c1
  have l2 : ∀ p : LtW w2, p.w.cell? ⟨w.heap.size, 2, none⟩ = some (.slice B m d) := fun p => (hh.below p.h).c2
  clear c0 c1 c2
  refine wp_region_lt mixed10 (by kernel_rfl) ?_
  repeat (first
    | ((with_reducible refine wpQuiet_skip (by with_unfolding_all rfl) ?_); simp only [Act.put, List.setIfInBounds_toArray, List.set_cons_zero, List.set_cons_succ])
    | ((with_reducible refine wpQuiet_step (fun K hK => ?_)); go_simp; first | ((with_reducible refine hK _ ?_); clear hK K) | (with_reducible apply Exists.intro; (with_reducible refine ⟨fun _ => ?_, hK _ ?_⟩); (go_at_call 32; exact lt_of (cB _)); clear hK K)))
  with_reducible refine wpQuiet_nil ?_
  intro _ hw'
  obtain ⟨p, rfl⟩ := hw'
  have hp := p.h
  replace hh := hh.below hp
  replace hX := hX.trans (hp.mono hX.size)
  generalize p.w = w4 at *
  clear l0 l1 l2
  have c2 := hh.c2
  go_wp2_with (go_at_call 33; (with_reducible refine (cC _ hX).mono ?_); rintro e5 w5 ⟨v, rfl, hown, hb⟩)
  go_ret2
  exact ⟨v, rfl, hown, hb⟩

/-- Lines with a hunk; what is wrong. -/
def appR (l : List (List UInt8)) (at' : Int) (old new : List (List UInt8)) : List (List UInt8) × Int :=
  if hunkR at' old new = false then ([], 3) else if (l.length : Int) < at' then ([], 5) else if fitR l old at'.toNat = false then ([], 12)
  else if 1000 < l.length - old.length + new.length then ([], 4) else (l.take at'.toNat ++ (new ++ l.drop (at'.toNat + old.length)), 0)
theorem hunkR_at {at' : Int} {old new : List (List UInt8)} (h : hunkR at' old new = true) : 0 ≤ at' ∧ at' ≤ 1000 := by
  unfold hunkR at h
  rw [Bool.and_eq_true, Bool.and_eq_true, decide_eq_true_eq, decide_eq_true_eq] at h
  exact ⟨h.1, h.2.1⟩
theorem applied_any (L : Option Addr) (k e : Nat) (ls : List (List UInt8)) (hk : ls.length = k) (hke : k ≤ e) (hL0 : L = none → e = 0) (bk : k ≤ 1000) (at' : Int) (A : Option Addr) (n c : Nat) (old : List (List UInt8)) (hn : old.length = n) (bn : n ≤ 1000) (B : Option Addr) (m d : Nat) (new : List (List UInt8)) (hm : new.length = m) (bm : m ≤ 1000) (hB0 : B = none → d = 0) (w : World)
    (hL : Rd w L (ls.map strV)) (hA : Rd w A (old.map strV)) (hB : Rd w B (new.map strV)) :
    Calls Tryd.prog 19 #[.slice L k e, .agg #[.int .i64 at', .slice A n c, .slice B m d]] w fun e w' => ∃ v, e = .returned (.tuple #[v, .int .i64 (appR ls at' old new).2]) ∧ w'.ownsRow w.heap.size 9 1 v (appR ls at' old new).1.length ((appR ls at' old new).1.map strV) ∧ Below w.heap.size w w' := by
  have cR : ∀ W, Below w.heap.size w W → Calls Tryd.prog 30 #[.agg #[.int .i64 at', .slice A n c, .slice B m d]] W fun e w' => e = .returned (.bool (hunkR at' old new)) ∧ Below W.heap.size W w' := fun W hb => hright_any at' A n c old hn (by omega) B m d new hm (by omega) W (hA.below hb) (hB.below hb)
  have nil : ∀ (z : Int) (e : Ending) (w' : World), e = .returned (.tuple #[.slice none 0 0, .int .i64 z]) ∧ Below w.heap.size w w' → ∃ v, e = .returned (.tuple #[v, .int .i64 z]) ∧ w'.ownsRow w.heap.size 9 1 v ([] : List (List UInt8)).length (([] : List (List UInt8)).map strV) ∧ Below w.heap.size w w' := fun z e w' h => ⟨_, h.1, World.ownsRow_nil _ _ _ _, h.2⟩
  unfold appR
  rw [hk, hn, hm]
  cases hR : hunkR at' old new with
  | false =>
    rw [hR] at cR
    rw [if_pos rfl]
    exact (app_form L k e at' A n c B m d w cR).mono (nil 3)
  | true =>
    rw [hR] at cR
    obtain ⟨h0, h1⟩ := hunkR_at hR
    rw [if_neg (by simp)]
    by_cases hka : (k : Int) < at'
    · rw [if_pos hka]
      exact (app_range L k e at' A n c B m d w hka cR).mono (nil 5)
    rw [if_neg hka]
    obtain ⟨a, rfl⟩ : ∃ a : Nat, at' = a := ⟨at'.toNat, by omega⟩
    rw [Int.toNat_natCast]
    have cF : ∀ W, Below w.heap.size w W → Calls Tryd.prog 31 #[.slice L k e, .agg #[.int .i64 (a : Int), .slice A n c, .slice B m d]] W fun e w' => e = .returned (.bool (fitR ls old a)) ∧ Below W.heap.size W w' := fun W hb => fits_any L k e ls hk hke (by omega) a (by omega) A n c old hn (by omega) B m d W (hL.below hb) (hA.below hb)
    cases hF : fitR ls old a with
    | false =>
      rw [hF] at cF
      rw [if_pos rfl]
      exact (app_clash L k e a A n c B m d w hka cR cF).mono (nil 12)
    | true =>
      rw [hF] at cF
      rw [if_neg (by simp)]
      have hle : a + n ≤ k := by
        unfold fitR at hF
        rw [Bool.and_eq_true, decide_eq_true_eq, hn, hk] at hF
        exact hF.1
      by_cases hlong : 1000 < k - n + m
      · rw [if_pos hlong]
        exact (app_long L k e a A n c B m d w hka bk bn bm (by omega) cR cF).mono (nil 4)
      · rw [if_neg hlong]
        have s1 := sl_hm L k e a a (Nat.le_refl _) (by omega)
        have s2 := sl_lhm L k e (a + n) k k hle (Nat.le_refl _) hke
        rw [show ((a + n : Nat) : Int) = (a : Int) + n by omega] at s2
        refine app_ok L k e a A n c B m d w hka (by omega) ⟨bk, bn, bm⟩ (by omega) cR cF (pcA L 0 a) (pcA L (a + n) k) a a (k - (a + n)) (k - (a + n)) (ls.take a ++ (new ++ ls.drop (a + n))) s1 s2 (fun W hb => ?_)
        have hw1 : (W.alloc (.cells #[.slice (pcA L 0 a) a a, .slice B m d, .slice (pcA L (a + n) k) (k - (a + n)) (k - (a + n))] 22)).heap.size = W.heap.size + 1 := by simp
        have hbW : Below W.heap.size W (W.alloc (.cells #[.slice (pcA L 0 a) a a, .slice B m d, .slice (pcA L (a + n) k) (k - (a + n)) (k - (a + n))] 22)) := (Below.refl _ W).alloc (Nat.le_refl _) _
        have p1 : Sl w (.slice (pcA L 0 a) a a) (ls.take a) := by
          refine ⟨_, _, _, rfl, by rw [List.length_take]; omega, fun h => ?_, ?_⟩
          · unfold pcA at h
            by_cases h2 : a = 0
            · exact h2
            · rw [if_neg h2] at h
              cases L with
              | none => have := hL0 rfl; omega
              | some x => cases h
          · have := rd_piece hL 0 a a (by omega)
            rw [List.drop_zero, ← List.map_take] at this
            exact this
        have p3 : Sl w (.slice (pcA L (a + n) k) (k - (a + n)) (k - (a + n))) (ls.drop (a + n)) := by
          refine ⟨_, _, _, rfl, by rw [List.length_drop]; omega, fun h => ?_, ?_⟩
          · unfold pcA at h
            by_cases h2 : k = a + n
            · omega
            · rw [if_neg h2] at h
              cases L with
              | none => have := hL0 rfl; omega
              | some x => cases h
          · have := rd_piece hL (a + n) (k - (a + n)) k (Nat.le_refl _)
            rw [← List.map_drop, List.take_of_length_le (by rw [List.length_map, List.length_drop]; omega)] at this
            exact this
        have p2 : Sl w (.slice B m d) new := ⟨_, _, _, rfl, hm, hB0, hB⟩
        have hcat := concat_any ⟨W.heap.size, 0, none⟩ 3 3 [(.slice (pcA L 0 a) a a, ls.take a), (.slice B m d, new), (.slice (pcA L (a + n) k) (k - (a + n)) (k - (a + n)), ls.drop (a + n))] rfl (by omega) (by
          intro x hx
          simp only [List.mem_cons, List.not_mem_nil, or_false] at hx
          rcases hx with rfl | rfl | rfl
          · show (ls.take a).length ≤ 10000; rw [List.length_take]; omega
          · show new.length ≤ 10000; omega
          · show (ls.drop (a + n)).length ≤ 10000; rw [List.length_drop]; omega) _ (by
          intro W2 h2 j x hx
          have hw2 : Below w.heap.size w W2 := hb.trans ((hbW.mono hb.size).trans (h2.mono (by rw [hw1]; have := hb.size; omega)))
          have hblk := (Blk.new W 22 #[.slice (pcA L 0 a) a a, .slice B m d, .slice (pcA L (a + n) k) (k - (a + n)) (k - (a + n))]).below h2
          have hlit : ∀ j, (⟨W.heap.size, 0, none⟩ : Addr).add j = ⟨W.heap.size, j, none⟩ := fun j => by unfold Addr.add; split <;> simp_all
          rw [hlit]
          match j, hx with
          | 0, hx => cases hx; exact ⟨hblk.cell_ rfl, p1.below hw2⟩
          | 1, hx => cases hx; exact ⟨hblk.cell_ rfl, p2.below hw2⟩
          | 2, hx => cases hx; exact ⟨hblk.cell_ rfl, p3.below hw2⟩
          | j + 3, hx => simp at hx)
        refine hcat.mono ?_
        rintro e w' ⟨v, rfl, hown, hb2⟩
        rw [hw1] at hown hb2
        refine ⟨v, rfl, ?_, hb.trans ((hbW.mono hb.size).trans (hb2.mono (by have := hb.size; omega)))⟩
        have he : ([(.slice (pcA L 0 a) a a, ls.take a), (.slice B m d, new), (.slice (pcA L (a + n) k) (k - (a + n)) (k - (a + n)), ls.drop (a + n))] : List (Value × List (List UInt8))).flatMap (·.2) = ls.take a ++ (new ++ ls.drop (a + n)) := by simp
        rw [he] at hown
        exact own_base hown (by have := hb.size; omega)

end Go.Proofs.YtcfcabhmdjoeeaaDoor

namespace Go.Proofs.YtcfcabhmdjoeeaaDoor
open Go.RowKit Go.Qc Go.Shelf
attribute [local go_sem] txt_size txt_append ib_fold txt_toL

theorem apply_any (L : Option Addr) (k e : Nat) (ls : List (List UInt8)) (hk : ls.length = k) (hke : k ≤ e) (hL0 : L = none → e = 0) (bk : k ≤ 1000) (at' : Int) (A : Option Addr) (n c : Nat) (old : List (List UInt8)) (hn : old.length = n) (bn : n ≤ 1000) (B : Option Addr) (m d : Nat) (new : List (List UInt8)) (hm : new.length = m) (bm : m ≤ 1000) (hB0 : B = none → d = 0) (w : World)
    (hL : Rd w L (ls.map strV)) (hA : Rd w A (old.map strV)) (hB : Rd w B (new.map strV)) :
    Calls Tryd.prog 11 #[.slice L k e, .agg #[.int .i64 at', .slice A n c, .slice B m d]] w fun e w' => ∃ v, e = .returned (.tuple #[v, .int .i64 (if linesR ls then (appR ls at' old new).2 else 3)]) ∧ w'.ownsRow w.heap.size 9 1 v (if linesR ls then (appR ls at' old new).1 else []).length ((if linesR ls then (appR ls at' old new).1 else []).map strV) ∧ Below w.heap.size w w' := by
  have hX : Below w.heap.size w (w.alloc (.cells #[.int .i64 at', .slice A n c, .slice B m d] 36)) := (Below.refl _ w).alloc (Nat.le_refl _) _
  have hh := Hk.new w 36 at' (.slice A n c) (.slice B m d)
  have cL : ∀ W, Below w.heap.size w W → Calls Tryd.prog 15 #[.slice L k e] W fun e w' => e = .returned (.bool (linesR ls)) ∧ W = w' := fun W hb => lines_any L k e ls hk (by omega) W (hL.below hb)
  have cA : ∀ W, Below w.heap.size w W → Calls Tryd.prog 19 #[.slice L k e, .agg #[.int .i64 at', .slice A n c, .slice B m d]] W fun e w' => ∃ v, e = .returned (.tuple #[v, .int .i64 (appR ls at' old new).2]) ∧ w'.ownsRow W.heap.size 9 1 v (appR ls at' old new).1.length ((appR ls at' old new).1.map strV) ∧ Below W.heap.size W w' := fun W hb => applied_any L k e ls hk hke hL0 bk at' A n c old hn bn B m d new hm bm hB0 W (hL.below hb) (hA.below hb) (hB.below hb)
  generalize appR ls at' old new = P at *
  cases hl : linesR ls with
  | true =>
    rw [hl] at cL
    simp only [if_true]
    clear hl hk hke bk hn bn hm bm hB0 hL hA hB hL0
    go_enter Tryd.func11, Tryd.ntmps11
    go_wp2_with (first
      | (go_at_call 15; (with_reducible refine (cL _ hX).mono ?_); rintro e1 w1 ⟨rfl, rfl⟩)
      | (go_at_call 19; (with_reducible refine (cA _ hX).mono ?_); rintro e2 w2 ⟨v, rfl, hown, hb⟩))
    go_ret2
    exact ⟨v, rfl, own_base hown hX.size, hX.trans (hb.mono hX.size)⟩
  | false =>
    rw [hl] at cL
    simp only [if_false, Bool.false_eq_true]
    clear hl hk hke bk hn bn hm bm hB0 hL hA hB hL0 cA
    go_enter Tryd.func11, Tryd.ntmps11
    go_wp2_with (go_at_call 15; (with_reducible refine (cL _ hX).mono ?_); rintro e1 w1 ⟨rfl, rfl⟩)
    go_ret2
    exact ⟨_, rfl, World.ownsRow_nil _ _ _ _, hX⟩
/-! ### the document's -/
end Go.Proofs.YtcfcabhmdjoeeaaDoor


/- path and hunk: covering, what stands beside, above, last; lines, hunks, applying -/
import Derived.Test.YtplcfdmehnilnaaPaA
import Derived.Lib.Join
import Derived.Shelf.Strings.OnBuilder
import Derived.Shelf.Spec.SlicesGrow
import Derived.Laws.AppendOwnNone
set_option linter.unusedSimpArgs false
set_option linter.unusedVariables false
namespace Go.Proofs.Ytplcfdmehnilnaa
open Go.RowKit Go.Qc Go.Shelf
attribute [local go_sem] txt_size txt_append ib_fold txt_toL

set_option maxHeartbeats 2000000 in
theorem same_any (A B : Option Addr) (n m c d : Nat) (ps qs : List (List UInt8)) (hn : ps.length = n) (hm : qs.length = m) (bn : n ≤ 9223372036854775807) (bm : m ≤ 9223372036854775807) (w : World) (hr : Rd w A (ps.map strV)) (hs : Rd w B (qs.map strV)) :
    Calls Try.prog 15 #[.slice A n c, .slice B m d] w fun e w' => e = .returned (.bool (decide (ps = qs))) ∧ Below w.heap.size w w' := by
  by_cases hnm : n = m
  · subst hnm
    go_enter Try.func15, Try.ntmps15
    go_wp2
    go_loopw [5] (fun i wr => ∃ k : Nat, k ≤ n ∧ i = .int .i64 k ∧ ps.take k = qs.take k ∧ Below w.heap.size w wr) (fun i _ => n - (intOf i).toNat)
    case atStart => exact ⟨0, by omega, rfl, rfl, Below.refl _ _⟩
    case round =>
      obtain ⟨k, hk, rfl, ht, hBr⟩ := hrel
      by_cases hlt : k < n
      · obtain ⟨p, hp⟩ : ∃ p, ps[k]? = some p := ⟨_, List.getElem?_eq_getElem (by omega)⟩
        obtain ⟨q, hq⟩ : ∃ q, qs[k]? = some q := ⟨_, List.getElem?_eq_getElem (by omega)⟩
        obtain ⟨ad, rfl, hcell⟩ := rd_in (hr.below hBr) k (strV p) (by rw [List.getElem?_map, hp]; rfl)
        obtain ⟨ad2, rfl, hcell2⟩ := rd_in (hs.below hBr) k (strV q) (by rw [List.getElem?_map, hq]; rfl)
        unfold strV at hcell hcell2
        have HP := hid hp
        have HQ := hid hq
        have HT2 := hid ht
        have b1 : (k : Int) < n := by omega
        clear hp hq ht
        by_cases hpq : p = q
        · subst hpq
          go_wp2
          go_quiet (fail)
          go_wp2
          go_roundw
          case rel => exact ⟨k + 1, hlt, by go_num, by rw [take_snoc HP.out, take_snoc HQ.out, HT2.out], below_drewN hBr _⟩
          case measure => simp [intOf]; omega
        · have hb2 : (p == q) = false := beq_eq_false_iff_ne.2 hpq
          go_wp2
          go_quiet (fail)
          go_wp2
          go_ret
          refine ⟨?_, below_drewN hBr _⟩
          have : ¬ ps = qs := by
            rintro rfl
            have := HP.out.symm.trans HQ.out
            exact hpq (Option.some.inj this)
          rw [decide_eq_false this]; rfl
      · obtain rfl : k = n := by omega
        rw [List.take_of_length_le (by omega), List.take_of_length_le (by omega)] at ht
        have HT := hid ht
        have b1 : ¬ (k : Int) < k := by omega
        clear ht
        go_wp2
        go_ret
        exact ⟨by rw [decide_eq_true HT.out]; rfl, hBr⟩
  · have h1 : ((n : Int) == m) = false := by rw [beq_eq_false_iff_ne]; omega
    have h2 : ¬ (n : Int) = m := by omega
    have hne : ¬ ps = qs := by rintro rfl; omega
    rw [decide_eq_false hne]
    clear hne
    go_enter Try.func15, Try.ntmps15
    go_wp2
    go_ret
    exact ⟨rfl, Below.refl _ _⟩
theorem rowRd {w : World} {base n : Nat} {v : Value} {xs : List Value} {e : TypeId} (h : w.ownsRow base e 1 v n xs) : xs.length = n ∧ ∃ A c, v = .slice A n c ∧ Rd w A xs := Rd.own h
end Go.Proofs.Ytplcfdmehnilnaa

namespace Go.Proofs.Ytplcfdmehnilnaa
open Go.RowKit Go.Qc Go.Shelf
attribute [local go_sem] txt_size txt_append ib_fold txt_toL

/-! ### joined with slashes -/
/-! ### the last slash -/
end Go.Proofs.Ytplcfdmehnilnaa

namespace Go.Proofs.Ytplcfdmehnilnaa
open Go.RowKit Go.Qc Go.Shelf
attribute [local go_sem] txt_size txt_append ib_fold txt_toL

theorem mixed10 : Try.prog.follows .mixedOrders = true := by kernel_rfl
/-- A world behind W: what W held lies there still. -/
structure LtW (W : World) where
  w : World
  h : Below W.heap.size W w
instance (W : World) : Inhabited (LtW W) := ⟨⟨W, Below.refl _ _⟩⟩
theorem below_drew10 (w : World) : Below w.heap.size w w.drew := ⟨(Below.refl w.heap.size w).os, (Below.refl w.heap.size w).tape, (Below.refl w.heap.size w).output, (Below.refl w.heap.size w).size, (Below.refl w.heap.size w).block⟩
theorem wp_region_lt {P : Program} {id : Nat} {Q : Exit → Act → World → Prop} {a : Act} {w : World} {l : List Oper} (hm : P.follows .mixedOrders = true) (hB : Region.lexB .any l.toArray = true)
    (h : wpQuiet P l.toArray (fun w' => ∃ p : LtW w, w' = p.w) (fun a' => ∀ w', (∃ p : LtW w, w' = p.w) → Q .normal a' w') l a) : (Code.region id l.toArray true).wp P Q a w :=
  wp_region_quiet (C := fun w' => ∃ p : LtW w, w' = p.w) hm hB ⟨⟨w.drew, below_drew10 w⟩, rfl⟩ (by simpa using h)
theorem lt_of {P : Program} {f : FuncId} {args : Array Value} {W : World} {p : LtW W} {v : Value} (h : Calls P f args p.w fun e w'' => e = .returned v ∧ Below p.w.heap.size p.w w'') :
    Calls P f args p.w fun e w'' => e = .returned v ∧ ∃ p' : LtW W, w'' = p'.w :=
  h.mono fun _ w'' ⟨he, hb⟩ => ⟨he, ⟨w'', p.h.trans (hb.mono p.h.size)⟩, rfl⟩
end Go.Proofs.Ytplcfdmehnilnaa

namespace Go.Proofs.Ytplcfdmehnilnaa
open Go.RowKit Go.Qc Go.Shelf
attribute [local go_sem] txt_size txt_append ib_fold txt_toL

set_option maxHeartbeats 2000000 in
theorem sequal_any (A B : Option Addr) (n m c d : Nat) (ps qs : List (List UInt8)) (hn : ps.length = n) (hm : qs.length = m) (bn : n ≤ 9223372036854775807) (bm : m ≤ 9223372036854775807) (w : World) (hr : Rd w A (ps.map strV)) (hs : Rd w B (qs.map strV)) :
    Calls Try.prog 44 #[.slice A n c, .slice B m d] w fun e w' => e = .returned (.bool (decide (ps = qs))) ∧ Below w.heap.size w w' := by
  by_cases hnm : n = m
  · subst hnm
    go_enter Try.func44, Try.ntmps44
    go_wp2
    go_loopw [13] (fun i wr => ∃ k : Nat, k ≤ n ∧ i = .int .i64 k ∧ ps.take k = qs.take k ∧ Below w.heap.size w wr) (fun i _ => n - (intOf i).toNat)
    case atStart => exact ⟨0, by omega, rfl, rfl, Below.refl _ _⟩
    case round =>
      obtain ⟨k, hk, rfl, ht, hBr⟩ := hrel
      by_cases hlt : k < n
      · obtain ⟨p, hp⟩ : ∃ p, ps[k]? = some p := ⟨_, List.getElem?_eq_getElem (by omega)⟩
        obtain ⟨q, hq⟩ : ∃ q, qs[k]? = some q := ⟨_, List.getElem?_eq_getElem (by omega)⟩
        obtain ⟨ad, rfl, hcell⟩ := rd_in (hr.below hBr) k (strV p) (by rw [List.getElem?_map, hp]; rfl)
        obtain ⟨ad2, rfl, hcell2⟩ := rd_in (hs.below hBr) k (strV q) (by rw [List.getElem?_map, hq]; rfl)
        unfold strV at hcell hcell2
        have HP := hid hp
        have HQ := hid hq
        have HT2 := hid ht
        have b1 : (k : Int) < n := by omega
        clear hp hq ht
        by_cases hpq : p = q
        · subst hpq
          go_wp2
          go_quiet (fail)
          go_wp2
          go_roundw
          case rel => exact ⟨k + 1, hlt, by go_num, by rw [take_snoc HP.out, take_snoc HQ.out, HT2.out], below_drewN hBr _⟩
          case measure => simp [intOf]; omega
        · have hb2 : (p == q) = false := beq_eq_false_iff_ne.2 hpq
          go_wp2
          go_quiet (fail)
          go_wp2
          go_ret
          refine ⟨?_, below_drewN hBr _⟩
          have : ¬ ps = qs := by
            rintro rfl
            have := HP.out.symm.trans HQ.out
            exact hpq (Option.some.inj this)
          rw [decide_eq_false this]; rfl
      · obtain rfl : k = n := by omega
        rw [List.take_of_length_le (by omega), List.take_of_length_le (by omega)] at ht
        have HT := hid ht
        have b1 : ¬ (k : Int) < k := by omega
        clear ht
        go_wp2
        go_ret
        exact ⟨by rw [decide_eq_true HT.out]; rfl, hBr⟩
  · have h1 : ((n : Int) == m) = false := by rw [beq_eq_false_iff_ne]; omega
    have h2 : ¬ (n : Int) = m := by omega
    have hne : ¬ ps = qs := by rintro rfl; omega
    rw [decide_eq_false hne]
    clear hne
    go_enter Try.func44, Try.ntmps44
    go_wp2
    go_ret
    exact ⟨rfl, Below.refl _ _⟩

/-! ### what joined parts part into -/
end Go.Proofs.Ytplcfdmehnilnaa

namespace Go.Proofs.Ytplcfdmehnilnaa
open Go.RowKit Go.Qc Go.Shelf
attribute [local go_sem] txt_size txt_append ib_fold txt_toL

theorem index_in (l : List UInt8) (c : UInt8) : Lib.indexByte l c = -1 ∧ l.contains c = false ∨ 0 ≤ Lib.indexByte l c ∧ l.contains c = true := by
  induction l with
  | nil => exact .inl ⟨rfl, rfl⟩
  | cons b l ih =>
    by_cases hb : b = c
    · subst hb; exact .inr ⟨by simp [Lib.indexByte], by simp⟩
    · have h1 : (b == c) = false := beq_eq_false_iff_ne.2 hb
      have h2 : (c == b) = false := beq_eq_false_iff_ne.2 (fun h => hb h.symm)
      rcases ih with ⟨h, hc⟩ | ⟨h, hc⟩
      · refine .inl ⟨by simp [Lib.indexByte, h1, h], ?_⟩
        rw [List.contains_cons, h2, hc]; rfl
      · have h3 : (Lib.indexByte l c == -1) = false := by rw [beq_eq_false_iff_ne]; omega
        refine .inr ⟨?_, ?_⟩
        · simp only [Lib.indexByte, h1, h3, Bool.false_eq_true, if_false]; omega
        · rw [List.contains_cons, hc, Bool.or_true]
theorem contains_any (l : List UInt8) (w : World) :
    Calls Try.prog 47 #[.string (txt l), .string ⟨#[10]⟩] w fun e w' => e = .returned (.bool (l.contains 10)) ∧ w = w' := by
  have := Any.strings_Contains_one lays144 (txt l) 10 w
  rw [txt_data] at this
  refine this.mono ?_
  rintro e w' ⟨rfl, rfl⟩
  refine ⟨?_, rfl⟩
  rcases index_in l 10 with ⟨h, hc⟩ | ⟨h, hc⟩
  · rw [h, hc]; rfl
  · rw [decide_eq_true h, hc]
/-- A line that may be; lines that may be. -/
def lineR (x : List UInt8) : Bool := decide (x.length ≤ 200) && !x.contains 10
def linesR (l : List (List UInt8)) : Bool := decide (l.length ≤ 1000) && l.all lineR
theorem bad_any (x : List UInt8) (w : World) :
    Calls Try.prog 46 #[.string (txt x)] w fun e w' => e = .returned (.bool (!lineR x)) ∧ w = w' := by
  have c := contains_any x
  unfold lineR
  by_cases h : 200 < x.length
  · have z : (200 : Int) < x.length := by omega
    rw [decide_eq_false (show ¬ x.length ≤ 200 by omega)]
    clear c
    go_enter Try.func46, Try.ntmps46
    go_wp2_with (fail)
    go_ret
    exact ⟨rfl, rfl⟩
  · have z : ¬ (200 : Int) < x.length := by omega
    rw [decide_eq_true (show x.length ≤ 200 by omega), Bool.true_and, Bool.not_not]
    generalize x.contains 10 = C at c ⊢
    go_enter Try.func46, Try.ntmps46
    go_wp2_with (go_at_call 47; (with_reducible refine (c _).mono ?_); rintro e1 w1 ⟨rfl, rfl⟩)
    go_ret
    exact ⟨rfl, rfl⟩
set_option maxHeartbeats 2000000 in
theorem indexFunc_any (A : Option Addr) (n c : Nat) (ps : List (List UInt8)) (hn : ps.length = n) (bn : n ≤ 9223372036854775807) (w : World) (hr : Rd w A (ps.map strV)) :
    Calls Try.prog 62 #[.slice A n c, .func (.func 46) #[] #[]] w fun e w' => (∃ z : Int, e = .returned (.int .i64 z) ∧ (ps.all lineR = true ∧ z = -1 ∨ ps.all lineR = false ∧ 0 ≤ z)) ∧ w = w' := by
  have hg := enters_of Try.func46 (by kernel_rfl) rfl
  go_enter Try.func62, Try.ntmps62
  go_wp2
  go_loopw [8] (fun i wr => ∃ k : Nat, k ≤ n ∧ i = .int .i64 k ∧ (ps.take k).all lineR = true ∧ w = wr) (fun i _ => n - (intOf i).toNat)
  case atStart => exact ⟨0, by omega, rfl, by simp, by first | rfl | trivial⟩
  case round =>
    obtain ⟨k, hk, rfl, ht, rfl⟩ := hrel
    have HT := hid ht
    clear ht
    by_cases hlt : k < n
    · obtain ⟨p, hpk⟩ : ∃ p, ps[k]? = some p := ⟨_, List.getElem?_eq_getElem (by omega)⟩
      obtain ⟨ad, rfl, hcell⟩ := rd_in hr k (strV p) (by rw [List.getElem?_map, hpk]; rfl)
      unfold strV at hcell
      have HP := hid hpk
      have b1 : (k : Int) < n := by omega
      have cB := bad_any p
      clear hpk
      cases hb : lineR p with
      | true =>
        rw [hb] at cB
        have HB := hid hb
        clear hb
        go_wp2_with ((with_reducible refine (cB _).mono ?_); rintro e1 w1 ⟨rfl, rfl⟩)
        go_roundw
        case rel => exact ⟨k + 1, hlt, by go_num, by rw [take_snoc HP.out, List.all_append, HT.out]; simp [HB.out], by first | rfl | trivial⟩
        case measure => simp [intOf]; omega
      | false =>
        rw [hb] at cB
        have HB := hid hb
        clear hb
        go_wp2_with ((with_reducible refine (cB _).mono ?_); rintro e1 w1 ⟨rfl, rfl⟩)
        go_ret
        refine ⟨⟨_, rfl, .inr ⟨?_, by omega⟩⟩, rfl⟩
        rw [List.all_eq_false]
        exact ⟨p, List.mem_of_getElem? HP.out, by simp [HB.out]⟩
    · obtain rfl : k = n := by omega
      have b1 : ¬ (k : Int) < k := by omega
      have ht := HT.out
      rw [List.take_of_length_le (by omega)] at ht
      have HU := hid ht
      clear ht HT
      go_wp2
      go_ret
      exact ⟨⟨_, rfl, .inl ⟨by simpa using HU.out, rfl⟩⟩, rfl⟩
theorem containsFunc_any (A : Option Addr) (n c : Nat) (ps : List (List UInt8)) (hn : ps.length = n) (bn : n ≤ 9223372036854775807) (w : World) (hr : Rd w A (ps.map strV)) :
    Calls Try.prog 45 #[.slice A n c, .func (.func 46) #[] #[]] w fun e w' => e = .returned (.bool (!ps.all lineR)) ∧ w = w' := by
  have cI := indexFunc_any A n c ps hn bn w hr
  go_enter Try.func45, Try.ntmps45
  go_wp2_with (go_at_call 62; (with_reducible refine cI.mono ?_); rintro e1 w1 ⟨⟨z, rfl, hz⟩, rfl⟩)
  go_ret
  refine ⟨?_, rfl⟩
  rcases hz with ⟨h1, rfl⟩ | ⟨h1, h2⟩
  · rw [h1]; rfl
  · rw [h1]; simp [h2]
theorem lines_any (A : Option Addr) (n c : Nat) (ps : List (List UInt8)) (hn : ps.length = n) (bn : n ≤ 9223372036854775807) (w : World) (hr : Rd w A (ps.map strV)) :
    Calls Try.prog 28 #[.slice A n c] w fun e w' => e = .returned (.bool (linesR ps)) ∧ w = w' := by
  have cI := containsFunc_any A n c ps hn bn w hr
  unfold linesR
  rw [hn]
  by_cases h : n ≤ 1000
  · have z : (n : Int) ≤ 1000 := by omega
    rw [decide_eq_true h, Bool.true_and]
    generalize ps.all lineR = C at cI ⊢
    go_enter Try.func28, Try.ntmps28
    go_wp2_with (go_at_call 45; (with_reducible refine cI.mono ?_); rintro e1 w1 ⟨rfl, rfl⟩)
    go_ret
    exact ⟨by simp, rfl⟩
  · have z : ¬ (n : Int) ≤ 1000 := by omega
    rw [decide_eq_false h, Bool.false_and]
    clear cI
    go_enter Try.func28, Try.ntmps28
    go_wp2_with (fail)
    go_ret
    exact ⟨rfl, rfl⟩
/-! ### the document's -/
theorem rline_any (x : List UInt8) (hx : x.length ≤ 1000000000000) (w : World) :
    Calls Try.prog 32 #[.string (txt x)] w fun e w' => e = .returned (.bool (lineR x)) ∧ w = w' := by
  go_enter Try.func32, Try.ntmps32
  go_wp2
  go_loopw [3] (fun i wr => ∃ k : Nat, k ≤ x.length ∧ i = .int .i64 k ∧ (x.take k).contains 10 = false ∧ w = wr) (fun i _ => x.length - (intOf i).toNat)
  case atStart => exact ⟨0, by omega, rfl, by simp⟩
  case round =>
    obtain ⟨k, hk, rfl, ht, rfl⟩ := hrel
    have HT := hid ht
    clear ht
    by_cases hlt : k < x.length
    · obtain ⟨y, hy⟩ : ∃ y, x[k]? = some y := ⟨_, List.getElem?_eq_getElem (by omega)⟩
      have f1 := run_index_str x k y hy k rfl
      have b1 : (k : Int) < x.length := by omega
      have HY := hid hy
      clear hy
      by_cases he : y = 10
      · subst he
        have e10 : ib 10 = 10 := rfl
        rw [e10] at f1
        go_wp2
        go_ret
        refine ⟨?_, rfl⟩
        have : x.contains 10 = true := by simpa using List.mem_of_getElem? HY.out
        unfold lineR
        rw [this, Bool.not_true, Bool.and_false]; rfl
      · have e10 : ib 10 = 10 := rfl
        have hne : ¬ ib y = 10 := by rw [← e10, ib_inj]; exact he
        go_wp2
        go_roundw
        case rel =>
          refine ⟨k + 1, hlt, by go_num, ?_, by first | rfl | trivial⟩
          rw [take_snoc HY.out]
          have := HT.out
          simp at this ⊢
          exact ⟨this, fun h => he h.symm⟩
        case measure => simp [intOf]; omega
    · obtain rfl : k = x.length := by omega
      have ht := HT.out
      rw [List.take_length] at ht
      have HU := hid ht
      have b1 : ¬ (x.length : Int) < x.length := by omega
      have e2 : decide ((x.length : Int) ≤ 200) = decide (x.length ≤ 200) := by rw [decide_eq_decide]; omega
      clear ht HT
      go_wp2
      go_ret
      refine ⟨?_, rfl⟩
      unfold lineR
      rw [HU.out, Bool.not_false, Bool.and_true, ← e2]; rfl
set_option maxHeartbeats 2000000 in
theorem rlines_any (A : Option Addr) (n c : Nat) (ps : List (List UInt8)) (hn : ps.length = n) (bn : n ≤ 9223372036854775807) (h8 : ∀ x ∈ ps, x.length ≤ 1000000000000) (w : World) (hr : Rd w A (ps.map strV)) :
    Calls Try.prog 10 #[.slice A n c] w fun e w' => e = .returned (.bool (linesR ps)) ∧ w = w' := by
  go_enter Try.func10, Try.ntmps10
  go_wp2
  go_loopw [3] (fun i wr => ∃ k : Nat, k ≤ n ∧ i = .int .i64 k ∧ (ps.take k).all lineR = true ∧ w = wr) (fun i _ => n - (intOf i).toNat)
  case atStart => exact ⟨0, by omega, rfl, by simp, by first | rfl | trivial⟩
  case round =>
    obtain ⟨k, hk, rfl, ht, rfl⟩ := hrel
    have HT := hid ht
    clear ht
    by_cases hlt : k < n
    · obtain ⟨p, hpk⟩ : ∃ p, ps[k]? = some p := ⟨_, List.getElem?_eq_getElem (by omega)⟩
      obtain ⟨ad, rfl, hcell⟩ := rd_in hr k (strV p) (by rw [List.getElem?_map, hpk]; rfl)
      unfold strV at hcell
      have HP := hid hpk
      have b1 : (k : Int) < n := by omega
      have cB := rline_any p (h8 p (List.mem_of_getElem? hpk))
      clear hpk
      cases hb : lineR p with
      | true =>
        rw [hb] at cB
        have HB := hid hb
        clear hb
        go_wp2_with (go_at_call 32; (with_reducible refine (cB _).mono ?_); rintro e1 w1 ⟨rfl, rfl⟩)
        go_roundw
        case rel => exact ⟨k + 1, hlt, by go_num, by rw [take_snoc HP.out, List.all_append, HT.out]; simp [HB.out], by first | rfl | trivial⟩
        case measure => simp [intOf]; omega
      | false =>
        rw [hb] at cB
        have HB := hid hb
        clear hb
        go_wp2_with (go_at_call 32; (with_reducible refine (cB _).mono ?_); rintro e1 w1 ⟨rfl, rfl⟩)
        go_ret
        refine ⟨?_, rfl⟩
        have : ps.all lineR = false := by rw [List.all_eq_false]; exact ⟨p, List.mem_of_getElem? HP.out, by simp [HB.out]⟩
        unfold linesR
        rw [this, Bool.and_false]; rfl
    · obtain rfl : k = n := by omega
      have b1 : ¬ (k : Int) < k := by omega
      have ht := HT.out
      rw [List.take_of_length_le (by omega)] at ht
      have HU := hid ht
      have e2 : decide ((k : Int) ≤ 1000) = decide (k ≤ 1000) := by rw [decide_eq_decide]; omega
      clear ht HT
      go_wp2
      go_ret
      refine ⟨?_, rfl⟩
      unfold linesR
      rw [HU.out, Bool.and_true, hn, ← e2]; rfl
/-! ### hunks -/
def hunkR (at' : Int) (old new : List (List UInt8)) : Bool := decide (0 ≤ at') && (decide (at' ≤ 1000) && (linesR old && (linesR new && decide (0 < old.length + new.length))))
end Go.Proofs.Ytplcfdmehnilnaa

namespace Go.Proofs.Ytplcfdmehnilnaa
open Go.RowKit Go.Qc Go.Shelf
attribute [local go_sem] txt_size txt_append ib_fold txt_toL

/-- Where a piece of a row begins. -/
def pcA (A : Option Addr) (l m : Nat) : Option Addr := if m = l then A else A.map (·.add l)
theorem rd_piece {w : World} {A : Option Addr} {xs : List Value} (h : Rd w A xs) (l k m : Nat) (hm : k ≤ m - l) : Rd w (pcA A l m) ((xs.drop l).take k) := by
  unfold pcA
  by_cases he : m = l
  · rw [if_pos he]
    have : k = 0 := by omega
    subst this
    exact .inl (by simp)
  · rw [if_neg he]
    rcases h with rfl | ⟨ad, rfl, hc⟩
    · exact .inl (by simp)
    · refine .inr ⟨ad.add l, rfl, fun j u hu => ?_⟩
      have hk : j < k := by
        have := (List.getElem?_eq_some_iff.1 hu).1
        rw [List.length_take] at this; omega
      rw [List.getElem?_take, if_pos hk, List.getElem?_drop] at hu
      have := hc (l + j) u hu
      have e : (ad.add l).add j = ad.add (l + j) := by
        unfold Addr.add
        by_cases h1 : l = 0 <;> by_cases h2 : j = 0 <;> simp [h1, h2, Nat.add_assoc]
      rw [e]; exact this
theorem sliced_pc (A : Option Addr) (l h m : Nat) : sliced A l h m 1 = .slice (pcA A l m) (h - l) (m - l) := by
  unfold sliced pcA
  cases A <;> simp <;> split <;> rfl
theorem sl_lh (A : Option Addr) (n c l h : Nat) (h1 : l ≤ h) (h2 : h ≤ c) (W : World) :
    (Instr.sliceAt 22 (.slice A n c) (some (.int .i64 (l : Int))) (some (.int .i64 (h : Int))) none).run Try.prog W = .ok (.slice (pcA A l c) (h - l) (c - l)) W := by
  obtain ⟨i0, hi, _, hs, _⟩ := info_parts infoString
  have b1 : (l : Int) ≤ h := by omega
  have b2 : (h : Int) ≤ c := by omega
  rw [← sliced_pc]
  simp [Instr.sliceAt, Instr.slice, Instr.sliceBounds, run_underlying Try.underlying22, run_sliceBound, b1, b2, sizeOf, typeInfo, hi, hs, Int.toNat_natCast, sliced]
/-- A struct of three cells in a block. -/
structure Hk (w : World) (g : Nat) (t : TypeId) (at' : Int) (u v : Value) : Prop where
  b : Blk w g t #[.int .i64 at', u, v]
theorem Hk.c0 {w : World} {g : Nat} {t : TypeId} {at' : Int} {u v : Value} (h : Hk w g t at' u v) : w.cell? ⟨g, 0, none⟩ = some (.int .i64 at') := h.b.cell_ rfl
theorem Hk.c1 {w : World} {g : Nat} {t : TypeId} {at' : Int} {u v : Value} (h : Hk w g t at' u v) : w.cell? ⟨g, 1, none⟩ = some u := h.b.cell_ rfl
theorem Hk.c2 {w : World} {g : Nat} {t : TypeId} {at' : Int} {u v : Value} (h : Hk w g t at' u v) : w.cell? ⟨g, 2, none⟩ = some v := h.b.cell_ rfl
theorem Hk.below {w w' : World} {g : Nat} {t : TypeId} {at' : Int} {u v : Value} (h : Hk w g t at' u v) (hb : Below w.heap.size w w') : Hk w' g t at' u v := ⟨h.b.below hb⟩
theorem Hk.new (w : World) (t : TypeId) (at' : Int) (u v : Value) : Hk (w.alloc (.cells #[.int .i64 at', u, v] t)) w.heap.size t at' u v := ⟨Blk.new _ _ _⟩
/-- Whether a hunk fits lines (at 0 to so many). -/
def fitR (l old : List (List UInt8)) (at' : Nat) : Bool := decide (at' + old.length ≤ l.length) && decide ((l.drop at').take old.length = old)
/-! ### a row of the call's own, made with room -/
end Go.Proofs.Ytplcfdmehnilnaa

namespace Go.Proofs.Ytplcfdmehnilnaa
open Go.RowKit Go.Qc Go.Shelf
attribute [local go_sem] txt_size txt_append ib_fold txt_toL

/-- A slice that reads as a row of texts. -/
def Sl (w : World) (v : Value) (r : List (List UInt8)) : Prop := ∃ A n c, v = .slice A n c ∧ r.length = n ∧ (A = none → c = 0) ∧ Rd w A (r.map strV)
theorem Sl.below {w w' : World} {v : Value} {r : List (List UInt8)} (h : Sl w v r) (hb : Below w.heap.size w w') : Sl w' v r := by
  obtain ⟨A, n, c, rfl, h1, h0, h2⟩ := h
  exact ⟨A, n, c, rfl, h1, h0, h2.below hb⟩
end Go.Proofs.Ytplcfdmehnilnaa

namespace Go.Proofs.Ytplcfdmehnilnaa
open Go.RowKit Go.Qc Go.Shelf
attribute [local go_sem] txt_size txt_append ib_fold txt_toL

/-- Lines with a hunk; what is wrong. -/
def appR (l : List (List UInt8)) (at' : Int) (old new : List (List UInt8)) : List (List UInt8) × Int :=
  if hunkR at' old new = false then ([], 3) else if (l.length : Int) < at' then ([], 5) else if fitR l old at'.toNat = false then ([], 12)
  else if 1000 < l.length - old.length + new.length then ([], 4) else (l.take at'.toNat ++ (new ++ l.drop (at'.toNat + old.length)), 0)
theorem hunkR_at {at' : Int} {old new : List (List UInt8)} (h : hunkR at' old new = true) : 0 ≤ at' ∧ at' ≤ 1000 := by
  unfold hunkR at h
  rw [Bool.and_eq_true, Bool.and_eq_true, decide_eq_true_eq, decide_eq_true_eq] at h
  exact ⟨h.1, h.2.1⟩
end Go.Proofs.Ytplcfdmehnilnaa

namespace Go.Proofs.Ytplcfdmehnilnaa
open Go.RowKit Go.Qc Go.Shelf
attribute [local go_sem] txt_size txt_append ib_fold txt_toL

set_option maxHeartbeats 2000000 in
theorem clones_any (A : Option Addr) (n c : Nat) (l : List (List UInt8)) (hn : l.length = n) (bn : n ≤ 1000000) (w : World) (hr : Rd w A (l.map strV)) :
    Calls Try.prog 64 #[.slice A n c] w fun e w' => ∃ v, e = .returned v ∧ w'.ownsRow w.heap.size 9 1 v n (l.map strV) ∧ Below w.heap.size w w' := by
  obtain ⟨j0, hj, hjz, hjs, hjb⟩ := info_parts infoString
  have qN : ∀ (W : World) (a : Option Addr) (n c n' c' : Nat), (binOp .eql 22 (.slice a n c) (.slice none n' c')).run Try.prog W = .ok (.bool a.isNone) W := fun W a n c n' c' => Lib.run_eql_slice_nil W _ _ a n c n' c' Try.underlying22
  cases A with
  | none =>
    obtain rfl : l = [] := by
      rcases hr with h | ⟨_, h, _⟩
      · simpa using h
      · cases h
    obtain rfl : n = 0 := hn.symm
    clear hr
    go_enter Try.func64, Try.ntmps64
    go_wp2
    go_ret
    exact ⟨_, rfl, World.ownsRow_nil _ _ _ _, Below.refl _ _⟩
  | some ad =>
    have hc : ∀ j u, (l.map strV)[j]? = some u → w.cell? (ad.add j) = some u := by
      rcases hr with h | ⟨a, h, hr⟩
      · intro j u hu; rw [h] at hu; simp at hu
      · cases h; exact hr
    have h1 : ∀ u ∈ l.map strV, u.oneCell' = true := by
      intro u hu
      obtain ⟨a, _, rfl⟩ := List.mem_map.1 hu
      rfl
    have hl2 : (l.map strV).length = n * 1 := by rw [List.length_map]; omega
    generalize l.map strV = R at *
    have HC := hid hc
    clear hr hn hc
    go_enter Try.func64, Try.ntmps64
    go_wp2_with (at_builtin; refine wpList_append_own _ rfl _ _ 22 rfl w.heap.size 9 j0 (.string ⟨#[]⟩) 1 16 Try.underlying22 hj hjz hjs hjb rfl (by decide) _ _ _ rfl (World.ownsRow_made w #[] 0 (Nat.le_refl _) (by decide) rfl) ad n c R rfl hl2 ?l6 h1 ?l2 ?l3 ?l4 ?_)
    case l6 => intro j u hju; exact Lib.cell?_alloc_some _ (HC.out j u hju)
    case l2 => unfold maxLen; omega
    case l3 => omega
    case l4 => simp
    intro v' w1 hown hgrow _
    go_wp2
    go_ret
    exact ⟨v', rfl, by simpa using hown, ((Below.refl _ w).alloc (Nat.le_refl _) _).grown hgrow (by simp) (by intro k hk; simp [Value.ownBlock] at hk; omega)⟩
/-! ### the document's -/
set_option maxHeartbeats 8000000 in
theorem rhright_gen (at' : Int) (A : Option Addr) (n c : Nat) (B : Option Addr) (m d : Nat) (O N : Bool) (w : World)
    (cO : ∀ W, Below w.heap.size w W → Calls Try.prog 10 #[.slice A n c] W fun e w' => e = .returned (.bool O) ∧ W = w')
    (cN : ∀ W, Below w.heap.size w W → Calls Try.prog 10 #[.slice B m d] W fun e w' => e = .returned (.bool N) ∧ W = w') :
    Calls Try.prog 34 #[.agg #[.int .i64 at', .slice A n c, .slice B m d]] w fun e w' => e = .returned (.bool (decide (0 ≤ at') && (decide (at' ≤ 1000) && (O && (N && decide (0 < n + m)))))) ∧ Below w.heap.size w w' := by
  have hB : Below w.heap.size w (w.alloc (.cells #[.int .i64 at', .slice A n c, .slice B m d] 40)) := (Below.refl _ w).alloc (Nat.le_refl _) _
  by_cases h0 : (0 : Int) ≤ at'
  case neg =>
    rw [decide_eq_false h0, Bool.false_and]
    go_enter Try.func34, Try.ntmps34
    go_wp2_with (go_at_call 10; (first | (with_reducible refine (cO _ hB).mono ?_) | (with_reducible refine (cN _ hB).mono ?_)); rintro e1 w1 ⟨rfl, rfl⟩)
    go_ret
    exact ⟨rfl, hB⟩
  rw [decide_eq_true h0, Bool.true_and]
  by_cases h1 : at' ≤ 1000
  case neg =>
    rw [decide_eq_false h1, Bool.false_and]
    go_enter Try.func34, Try.ntmps34
    go_wp2_with (go_at_call 10; (first | (with_reducible refine (cO _ hB).mono ?_) | (with_reducible refine (cN _ hB).mono ?_)); rintro e1 w1 ⟨rfl, rfl⟩)
    go_ret
    exact ⟨rfl, hB⟩
  rw [decide_eq_true h1, Bool.true_and]
  cases O with
  | false =>
    rw [Bool.false_and]
    go_enter Try.func34, Try.ntmps34
    go_wp2_with (go_at_call 10; (first | (with_reducible refine (cO _ hB).mono ?_) | (with_reducible refine (cN _ hB).mono ?_)); rintro e1 w1 ⟨rfl, rfl⟩)
    go_ret
    exact ⟨rfl, hB⟩
  | true =>
    rw [Bool.true_and]
    cases N with
    | false =>
      rw [Bool.false_and]
      go_enter Try.func34, Try.ntmps34
      go_wp2_with (go_at_call 10; (first | (with_reducible refine (cO _ hB).mono ?_) | (with_reducible refine (cN _ hB).mono ?_)); rintro e1 w1 ⟨rfl, rfl⟩)
      go_ret
      exact ⟨rfl, hB⟩
    | true =>
      rw [Bool.true_and]
      by_cases hs : 0 < n
      · have z : (0 : Int) < n := by omega
        rw [decide_eq_true (show 0 < n + m by omega)]
        go_enter Try.func34, Try.ntmps34
        go_wp2_with (go_at_call 10; (first | (with_reducible refine (cO _ hB).mono ?_) | (with_reducible refine (cN _ hB).mono ?_)); rintro e1 w1 ⟨rfl, rfl⟩)
        go_ret
        exact ⟨rfl, hB⟩
      · have z : ¬ (0 : Int) < n := by omega
        have hn0 := hid hs
        clear hs
        by_cases ht : 0 < m
        · have z2 : (0 : Int) < m := by omega
          rw [decide_eq_true (show 0 < n + m by omega)]
          obtain rfl : n = 0 := by have := hn0.out; omega
          go_enter Try.func34, Try.ntmps34
          go_wp2_with (go_at_call 10; (first | (with_reducible refine (cO _ hB).mono ?_) | (with_reducible refine (cN _ hB).mono ?_)); rintro e1 w1 ⟨rfl, rfl⟩)
          go_ret
          exact ⟨rfl, hB⟩
        · obtain rfl : n = 0 := by have := hn0.out; omega
          obtain rfl : m = 0 := by omega
          clear z ht hn0
          go_enter Try.func34, Try.ntmps34
          go_wp2_with (go_at_call 10; (first | (with_reducible refine (cO _ hB).mono ?_) | (with_reducible refine (cN _ hB).mono ?_)); rintro e1 w1 ⟨rfl, rfl⟩)
          go_ret
          exact ⟨rfl, hB⟩
end Go.Proofs.Ytplcfdmehnilnaa

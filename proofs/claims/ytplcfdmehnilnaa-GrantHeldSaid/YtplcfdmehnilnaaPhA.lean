
/- path and hunk: covering, what stands beside, above, last; lines, hunks, applying -/
import Derived.Test.YtplcfdmehnilnaaPaA
import Derived.Lib.Join
import Derived.Shelf.Strings.OnBuilder
import Derived.Shelf.Spec.SlicesGrow
import Derived.Laws.AppendOwnNone
set_option linter.unusedSimpArgs false
set_option linter.unusedVariables false
namespace Go.Proofs.Ytplcfdmehnilnaa
open Go.RowKit Go.Qc Go.Shelf
attribute [local go_sem] txt_size txt_append ib_fold txt_toL

end Go.Proofs.Ytplcfdmehnilnaa

namespace Go.Proofs.Ytplcfdmehnilnaa
open Go.RowKit Go.Qc Go.Shelf
attribute [local go_sem] txt_size txt_append ib_fold txt_toL

/-! ### joined with slashes -/
/-! ### the last slash -/
end Go.Proofs.Ytplcfdmehnilnaa

namespace Go.Proofs.Ytplcfdmehnilnaa
open Go.RowKit Go.Qc Go.Shelf
attribute [local go_sem] txt_size txt_append ib_fold txt_toL

theorem mixed10 : Try.prog.follows .mixedOrders = true := by kernel_rfl
theorem below_drew10 (w : World) : Below w.heap.size w w.drew := ⟨(Below.refl w.heap.size w).os, (Below.refl w.heap.size w).tape, (Below.refl w.heap.size w).output, (Below.refl w.heap.size w).size, (Below.refl w.heap.size w).block⟩
end Go.Proofs.Ytplcfdmehnilnaa

namespace Go.Proofs.Ytplcfdmehnilnaa
open Go.RowKit Go.Qc Go.Shelf
attribute [local go_sem] txt_size txt_append ib_fold txt_toL

/-! ### what joined parts part into -/
end Go.Proofs.Ytplcfdmehnilnaa

namespace Go.Proofs.Ytplcfdmehnilnaa
open Go.RowKit Go.Qc Go.Shelf
attribute [local go_sem] txt_size txt_append ib_fold txt_toL

theorem index_in (l : List UInt8) (c : UInt8) : Lib.indexByte l c = -1 ∧ l.contains c = false ∨ 0 ≤ Lib.indexByte l c ∧ l.contains c = true := by
  induction l with
  | nil => exact .inl ⟨rfl, rfl⟩
  | cons b l ih =>
    by_cases hb : b = c
    · subst hb; exact .inr ⟨by simp [Lib.indexByte], by simp⟩
    · have h1 : (b == c) = false := beq_eq_false_iff_ne.2 hb
      have h2 : (c == b) = false := beq_eq_false_iff_ne.2 (fun h => hb h.symm)
      rcases ih with ⟨h, hc⟩ | ⟨h, hc⟩
      · refine .inl ⟨by simp [Lib.indexByte, h1, h], ?_⟩
        rw [List.contains_cons, h2, hc]; rfl
      · have h3 : (Lib.indexByte l c == -1) = false := by rw [beq_eq_false_iff_ne]; omega
        refine .inr ⟨?_, ?_⟩
        · simp only [Lib.indexByte, h1, h3, Bool.false_eq_true, if_false]; omega
        · rw [List.contains_cons, hc, Bool.or_true]
theorem contains_any (l : List UInt8) (w : World) :
    Calls Try.prog 47 #[.string (txt l), .string ⟨#[10]⟩] w fun e w' => e = .returned (.bool (l.contains 10)) ∧ w = w' := by
  have := Any.strings_Contains_one lays144 (txt l) 10 w
  rw [txt_data] at this
  refine this.mono ?_
  rintro e w' ⟨rfl, rfl⟩
  refine ⟨?_, rfl⟩
  rcases index_in l 10 with ⟨h, hc⟩ | ⟨h, hc⟩
  · rw [h, hc]; rfl
  · rw [decide_eq_true h, hc]
/-- A line that may be; lines that may be. -/
def lineR (x : List UInt8) : Bool := decide (x.length ≤ 200) && !x.contains 10
def linesR (l : List (List UInt8)) : Bool := decide (l.length ≤ 1000) && l.all lineR
theorem bad_any (x : List UInt8) (w : World) :
    Calls Try.prog 46 #[.string (txt x)] w fun e w' => e = .returned (.bool (!lineR x)) ∧ w = w' := by
  have c := contains_any x
  unfold lineR
  by_cases h : 200 < x.length
  · have z : (200 : Int) < x.length := by omega
    rw [decide_eq_false (show ¬ x.length ≤ 200 by omega)]
    clear c
    go_enter Try.func46, Try.ntmps46
    go_wp2_with (fail)
    go_ret
    exact ⟨rfl, rfl⟩
  · have z : ¬ (200 : Int) < x.length := by omega
    rw [decide_eq_true (show x.length ≤ 200 by omega), Bool.true_and, Bool.not_not]
    generalize x.contains 10 = C at c ⊢
    go_enter Try.func46, Try.ntmps46
    go_wp2_with (go_at_call 47; (with_reducible refine (c _).mono ?_); rintro e1 w1 ⟨rfl, rfl⟩)
    go_ret
    exact ⟨rfl, rfl⟩
set_option maxHeartbeats 2000000 in
theorem indexFunc_any (A : Option Addr) (n c : Nat) (ps : List (List UInt8)) (hn : ps.length = n) (bn : n ≤ 9223372036854775807) (w : World) (hr : Rd w A (ps.map strV)) :
    Calls Try.prog 62 #[.slice A n c, .func (.func 46) #[] #[]] w fun e w' => (∃ z : Int, e = .returned (.int .i64 z) ∧ (ps.all lineR = true ∧ z = -1 ∨ ps.all lineR = false ∧ 0 ≤ z)) ∧ w = w' := by
  have hg := enters_of Try.func46 (by kernel_rfl) rfl
  go_enter Try.func62, Try.ntmps62
  go_wp2
  go_loopw [8] (fun i wr => ∃ k : Nat, k ≤ n ∧ i = .int .i64 k ∧ (ps.take k).all lineR = true ∧ w = wr) (fun i _ => n - (intOf i).toNat)
  case atStart => exact ⟨0, by omega, rfl, by simp, by first | rfl | trivial⟩
  case round =>
    obtain ⟨k, hk, rfl, ht, rfl⟩ := hrel
    have HT := hid ht
    clear ht
    by_cases hlt : k < n
    · obtain ⟨p, hpk⟩ : ∃ p, ps[k]? = some p := ⟨_, List.getElem?_eq_getElem (by omega)⟩
      obtain ⟨ad, rfl, hcell⟩ := rd_in hr k (strV p) (by rw [List.getElem?_map, hpk]; rfl)
      unfold strV at hcell
      have HP := hid hpk
      have b1 : (k : Int) < n := by omega
      have cB := bad_any p
      clear hpk
      cases hb : lineR p with
      | true =>
        rw [hb] at cB
        have HB := hid hb
        clear hb
        go_wp2_with ((with_reducible refine (cB _).mono ?_); rintro e1 w1 ⟨rfl, rfl⟩)
        go_roundw
        case rel => exact ⟨k + 1, hlt, by go_num, by rw [take_snoc HP.out, List.all_append, HT.out]; simp [HB.out], by first | rfl | trivial⟩
        case measure => simp [intOf]; omega
      | false =>
        rw [hb] at cB
        have HB := hid hb
        clear hb
        go_wp2_with ((with_reducible refine (cB _).mono ?_); rintro e1 w1 ⟨rfl, rfl⟩)
        go_ret
        refine ⟨⟨_, rfl, .inr ⟨?_, by omega⟩⟩, rfl⟩
        rw [List.all_eq_false]
        exact ⟨p, List.mem_of_getElem? HP.out, by simp [HB.out]⟩
    · obtain rfl : k = n := by omega
      have b1 : ¬ (k : Int) < k := by omega
      have ht := HT.out
      rw [List.take_of_length_le (by omega)] at ht
      have HU := hid ht
      clear ht HT
      go_wp2
      go_ret
      exact ⟨⟨_, rfl, .inl ⟨by simpa using HU.out, rfl⟩⟩, rfl⟩
theorem containsFunc_any (A : Option Addr) (n c : Nat) (ps : List (List UInt8)) (hn : ps.length = n) (bn : n ≤ 9223372036854775807) (w : World) (hr : Rd w A (ps.map strV)) :
    Calls Try.prog 45 #[.slice A n c, .func (.func 46) #[] #[]] w fun e w' => e = .returned (.bool (!ps.all lineR)) ∧ w = w' := by
  have cI := indexFunc_any A n c ps hn bn w hr
  go_enter Try.func45, Try.ntmps45
  go_wp2_with (go_at_call 62; (with_reducible refine cI.mono ?_); rintro e1 w1 ⟨⟨z, rfl, hz⟩, rfl⟩)
  go_ret
  refine ⟨?_, rfl⟩
  rcases hz with ⟨h1, rfl⟩ | ⟨h1, h2⟩
  · rw [h1]; rfl
  · rw [h1]; simp [h2]
theorem lines_any (A : Option Addr) (n c : Nat) (ps : List (List UInt8)) (hn : ps.length = n) (bn : n ≤ 9223372036854775807) (w : World) (hr : Rd w A (ps.map strV)) :
    Calls Try.prog 28 #[.slice A n c] w fun e w' => e = .returned (.bool (linesR ps)) ∧ w = w' := by
  have cI := containsFunc_any A n c ps hn bn w hr
  unfold linesR
  rw [hn]
  by_cases h : n ≤ 1000
  · have z : (n : Int) ≤ 1000 := by omega
    rw [decide_eq_true h, Bool.true_and]
    generalize ps.all lineR = C at cI ⊢
    go_enter Try.func28, Try.ntmps28
    go_wp2_with (go_at_call 45; (with_reducible refine cI.mono ?_); rintro e1 w1 ⟨rfl, rfl⟩)
    go_ret
    exact ⟨by simp, rfl⟩
  · have z : ¬ (n : Int) ≤ 1000 := by omega
    rw [decide_eq_false h, Bool.false_and]
    clear cI
    go_enter Try.func28, Try.ntmps28
    go_wp2_with (fail)
    go_ret
    exact ⟨rfl, rfl⟩
/-! ### the document's -/
/-! ### hunks -/
def hkV (at' : Int) (A : Option Addr) (n c : Nat) (B : Option Addr) (m d : Nat) : Array Value := #[.int .i64 at', .slice A n c, .slice B m d]
def hunkR (at' : Int) (old new : List (List UInt8)) : Bool := decide (0 ≤ at') && (decide (at' ≤ 1000) && (linesR old && (linesR new && decide (0 < old.length + new.length))))
set_option maxHeartbeats 4000000 in
theorem hright_gen (at' : Int) (A : Option Addr) (n c : Nat) (B : Option Addr) (m d : Nat) (bn : n ≤ 1000000) (bm : m ≤ 1000000) (O N : Bool) (w : World)
    (cO : ∀ W, Below w.heap.size w W → Calls Try.prog 28 #[.slice A n c] W fun e w' => e = .returned (.bool O) ∧ W = w')
    (cN : ∀ W, Below w.heap.size w W → Calls Try.prog 28 #[.slice B m d] W fun e w' => e = .returned (.bool N) ∧ W = w') :
    Calls Try.prog 88 #[.agg (hkV at' A n c B m d)] w fun e w' => e = .returned (.bool (decide (0 ≤ at') && (decide (at' ≤ 1000) && (O && (N && decide (0 < n + m)))))) ∧ Below w.heap.size w w' := by
  have hB : Below w.heap.size w (w.alloc (.cells #[.int .i64 at', .slice A n c, .slice B m d] 38)) := (Below.refl _ w).alloc (Nat.le_refl _) _
  have hb := Blk.new w 38 #[.int .i64 at', .slice A n c, .slice B m d]
  have x0 := hb.cell_ (i := 0) rfl
  have x1 := hb.cell_ (i := 1) rfl
  have x2 := hb.cell_ (i := 2) rfl
  have e2 : decide (0 < n + m) = decide ((0 : Int) < (n : Int) + m) := by rw [decide_eq_decide]; omega
  have hw : wrap64 ((n : Int) + m) = (n : Int) + m := by unfold wrap64; omega
  rw [e2]
  unfold hkV
  by_cases h0 : (0 : Int) ≤ at' <;> by_cases h1 : at' ≤ 1000 <;> cases O <;> cases N <;> by_cases hs : (0 : Int) < (n : Int) + m
  all_goals try (exfalso; omega)
  all_goals go_enter Try.func88, Try.ntmps88
  all_goals go_wp2_with (go_at_call 28; (first | (with_reducible refine (cO _ hB).mono ?_) | (with_reducible refine (cN _ hB).mono ?_)); rintro e1 w1 ⟨rfl, rfl⟩)
  all_goals go_ret
  all_goals exact ⟨by simp [*], hB⟩
end Go.Proofs.Ytplcfdmehnilnaa

namespace Go.Proofs.Ytplcfdmehnilnaa
open Go.RowKit Go.Qc Go.Shelf
attribute [local go_sem] txt_size txt_append ib_fold txt_toL

/-- A struct of three cells in a block. -/
structure Hk (w : World) (g : Nat) (t : TypeId) (at' : Int) (u v : Value) : Prop where
  b : Blk w g t #[.int .i64 at', u, v]
theorem Hk.c0 {w : World} {g : Nat} {t : TypeId} {at' : Int} {u v : Value} (h : Hk w g t at' u v) : w.cell? ⟨g, 0, none⟩ = some (.int .i64 at') := h.b.cell_ rfl
theorem Hk.c1 {w : World} {g : Nat} {t : TypeId} {at' : Int} {u v : Value} (h : Hk w g t at' u v) : w.cell? ⟨g, 1, none⟩ = some u := h.b.cell_ rfl
theorem Hk.c2 {w : World} {g : Nat} {t : TypeId} {at' : Int} {u v : Value} (h : Hk w g t at' u v) : w.cell? ⟨g, 2, none⟩ = some v := h.b.cell_ rfl
theorem Hk.below {w w' : World} {g : Nat} {t : TypeId} {at' : Int} {u v : Value} (h : Hk w g t at' u v) (hb : Below w.heap.size w w') : Hk w' g t at' u v := ⟨h.b.below hb⟩
theorem Hk.new (w : World) (t : TypeId) (at' : Int) (u v : Value) : Hk (w.alloc (.cells #[.int .i64 at', u, v] t)) w.heap.size t at' u v := ⟨Blk.new _ _ _⟩
/-! ### a row of the call's own, made with room -/
end Go.Proofs.Ytplcfdmehnilnaa

namespace Go.Proofs.Ytplcfdmehnilnaa
open Go.RowKit Go.Qc Go.Shelf
attribute [local go_sem] txt_size txt_append ib_fold txt_toL

/-- A slice that reads as a row of texts. -/
def Sl (w : World) (v : Value) (r : List (List UInt8)) : Prop := ∃ A n c, v = .slice A n c ∧ r.length = n ∧ (A = none → c = 0) ∧ Rd w A (r.map strV)
theorem Sl.below {w w' : World} {v : Value} {r : List (List UInt8)} (h : Sl w v r) (hb : Below w.heap.size w w') : Sl w' v r := by
  obtain ⟨A, n, c, rfl, h1, h0, h2⟩ := h
  exact ⟨A, n, c, rfl, h1, h0, h2.below hb⟩
end Go.Proofs.Ytplcfdmehnilnaa

namespace Go.Proofs.Ytplcfdmehnilnaa
open Go.RowKit Go.Qc Go.Shelf
attribute [local go_sem] txt_size txt_append ib_fold txt_toL

theorem hright_any (at' : Int) (A : Option Addr) (n c : Nat) (old : List (List UInt8)) (hn : old.length = n) (bn : n ≤ 1000000) (B : Option Addr) (m d : Nat) (new : List (List UInt8)) (hm : new.length = m) (bm : m ≤ 1000000) (w : World)
    (hA : Rd w A (old.map strV)) (hB : Rd w B (new.map strV)) :
    Calls Try.prog 88 #[.agg #[.int .i64 at', .slice A n c, .slice B m d]] w fun e w' => e = .returned (.bool (hunkR at' old new)) ∧ Below w.heap.size w w' := by
  have := hright_gen at' A n c B m d bn bm (linesR old) (linesR new) w
    (fun W hb => (lines_any A n c old hn (by omega) W (hA.below hb)).mono (by rintro e w' ⟨h1, h2⟩; exact ⟨h1, h2⟩))
    (fun W hb => (lines_any B m d new hm (by omega) W (hB.below hb)).mono (by rintro e w' ⟨h1, h2⟩; exact ⟨h1, h2⟩))
  unfold hunkR
  rw [hn, hm]
  exact this

end Go.Proofs.Ytplcfdmehnilnaa

namespace Go.Proofs.Ytplcfdmehnilnaa
open Go.RowKit Go.Qc Go.Shelf
attribute [local go_sem] txt_size txt_append ib_fold txt_toL

/-! ### the document's -/
end Go.Proofs.Ytplcfdmehnilnaa

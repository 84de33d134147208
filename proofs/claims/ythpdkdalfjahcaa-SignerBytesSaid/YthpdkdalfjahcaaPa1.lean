
/- path: which bytes and parts may be, by the program and by the document; the first slash of a text. -/
import Derived.Test.YthpdkdalfjahcaaRows
import Derived.Test.YthpdkdalfjahcaaKit6
namespace Go.Proofs.Ythpdkdalfjahcaa
open Go.RowKit Go.Qc
attribute [local go_sem] txt_size txt_append ib_fold
theorem txt_lp (l : List UInt8) : ∀ (k i : Nat) (r : List UInt8), l.length - i = k → ByteArray.toList.loop (txt l) i r = r.reverse ++ l.drop i := by
  intro k
  induction k with
  | zero =>
    intro i r h
    unfold ByteArray.toList.loop
    rw [if_neg (by rw [txt_size]; omega), List.drop_of_length_le (by omega), List.append_nil]
  | succ k ih =>
    intro i r h
    unfold ByteArray.toList.loop
    rw [if_pos (by rw [txt_size]; omega), ih (i + 1) _ (by omega), List.reverse_cons, List.append_assoc]
    have hi : i < l.length := by omega
    have hg : (txt l).get! i = l[i] := by
      show l.toArray[i]! = l[i]
      simp [hi]
    rw [hg, List.drop_eq_getElem_cons hi]
    rfl
theorem txt_toL (l : List UInt8) : (txt l).toList = l := by
  unfold ByteArray.toList
  rw [txt_lp l _ 0 [] rfl]
  rfl
attribute [local go_sem] txt_toL

theorem run_index_str (l : List UInt8) (n : Nat) (x : UInt8) (hx : l[n]? = some x) (z : Int) (hz : z = n) (w : World) : (Instr.index 9 (.string (txt l)) (.int .i64 z)).run Try.prog w = .ok (.int .u8 (ib x)) w := by
  subst hz
  have hn : n < l.length := (List.getElem?_eq_some_iff.1 hx).1
  have h1 : (0 : Int) ≤ (n : Int) ∧ (n : Int) < ((txt l).size : Nat) := by rw [txt_size]; omega
  have hg : (txt l)[n]? = some x := by
    rw [getElem?_pos (txt l) n (by rw [txt_size]; exact hn)]
    congr 1
    exact txt_get rfl hx _
  simp [Instr.index, asIntOf, run_underlying Try.underlying9, h1, hg]
  rfl

/-- A byte that may stand within a part. -/
def letB (b : UInt8) : Bool := decide (97 ≤ ib b) && decide (ib b ≤ 122) || decide (48 ≤ ib b) && decide (ib b ≤ 57) || ib b == 46 || ib b == 95 || ib b == 45
theorem within_any (b : UInt8) (w : World) :
    Calls Try.prog 186 #[.int .u8 (ib b)] w fun e w' => e = .returned (.bool (letB b)) ∧ w = w' := by
  go_enter Try.func186, Try.ntmps186
  go_wp2
  all_goals go_ret
  all_goals refine ⟨?_, rfl⟩
  all_goals simp [letB]
  all_goals first | omega | (rw [Bool.eq_iff_iff]; simp; omega)
def letL : List UInt8 := [97, 98, 99, 100, 101, 102, 103, 104, 105, 106, 107, 108, 109, 110, 111, 112, 113, 114, 115, 116, 117, 118, 119, 120, 121, 122, 48, 49, 50, 51, 52, 53, 54, 55, 56, 57, 46, 95, 45]
set_option maxRecDepth 100000 in
theorem letL_all (b : UInt8) : letB b = letL.contains b := by
  have h : ∀ n : Fin 256, letB (UInt8.ofNat n.val) = letL.contains (UInt8.ofNat n.val) := by decide
  have := h ⟨b.toNat, b.toNat_lt⟩
  simpa using this
set_option maxRecDepth 100000 in
theorem letter_any (b : UInt8) (w : World) :
    Calls Try.prog 156 #[.int .u8 (ib b)] w fun e w' => e = .returned (.bool (letB b)) ∧ w = w' := by
  rw [letL_all]
  go_enter Try.func156, Try.ntmps156
  have hT : (⟨#[97, 98, 99, 100, 101, 102, 103, 104, 105, 106, 107, 108, 109, 110, 111, 112, 113, 114, 115, 116, 117, 118, 119, 120, 121, 122, 48, 49, 50, 51, 52, 53, 54, 55, 56, 57, 46, 95, 45]⟩ : ByteArray) = txt letL := rfl
  have hlen : letL.length = 39 := rfl
  rw [hT]
  clear hT
  generalize letL = L at *
  go_wp2
  go_loopw [4] (fun i wr => ∃ k : Nat, k ≤ 39 ∧ i = .int .i64 k ∧ (L.take k).contains b = false ∧ w = wr) (fun i _ => 39 - (intOf i).toNat)
  case atStart => exact ⟨0, by omega, rfl, by simp⟩
  case round =>
    obtain ⟨k, hk, rfl, ht, rfl⟩ := hrel
    by_cases hlt : k < 39
    · obtain ⟨x, hx⟩ : ∃ x, L[k]? = some x := ⟨_, List.getElem?_eq_getElem (by omega)⟩
      have f1 := run_index_str L k x hx k rfl
      have b1 : (k : Int) < 39 := by omega
      have HX := hid hx
      have HT := hid ht
      clear hx ht
      by_cases he : x = b
      · subst he
        go_wp2
        go_ret
        refine ⟨?_, rfl⟩
        have : x ∈ L := List.mem_of_getElem? HX.out
        simp [this]
      · have hne : ¬ ib x = ib b := by rw [ib_inj]; exact he
        go_wp2
        go_roundw
        case rel =>
          refine ⟨k + 1, hlt, by go_num, ?_, by first | rfl | trivial⟩
          rw [take_snoc HX.out]
          have := HT.out
          simp at this ⊢
          exact ⟨this, fun h => he h.symm⟩
        case measure => simp [intOf]; omega
    · obtain rfl : k = 39 := by omega
      rw [List.take_of_length_le (by omega)] at ht
      have HT := hid ht
      clear ht
      go_wp2
      go_ret
      exact ⟨by rw [HT.out]; rfl, rfl⟩

/-- A part. -/
def partS (l : List UInt8) : Bool := !(l == []) && !(l == [46]) && !(l == [46, 46]) && l.all letB
theorem partS_of (l : List UInt8) (h0 : l ≠ []) (h1 : l ≠ [46]) (h2 : l ≠ [46, 46]) : partS l = l.all letB := by
  simp [partS, h0, h1, h2]
theorem all_take {l : List UInt8} {k : Nat} {x : UInt8} (hx : l[k]? = some x) (h : (l.take k).all letB = true) (hb : letB x = true) : (l.take (k + 1)).all letB = true := by
  rw [take_snoc hx, List.all_append, h]; simp [hb]
theorem all_bad {l : List UInt8} {k : Nat} {x : UInt8} (hx : l[k]? = some x) (hb : letB x = false) : l.all letB = false := by
  rw [List.all_eq_false]; exact ⟨x, List.mem_of_getElem? hx, by simp [hb]⟩
theorem part_any (l : List UInt8) (hl : l.length ≤ 1000000000000) (w : World) :
    Calls Try.prog 170 #[.string (txt l)] w fun e w' => e = .returned (.bool (partS l)) ∧ w = w' := by
  by_cases h0 : l = []
  · subst h0
    have e : txt [] = ⟨#[]⟩ := rfl
    rw [e]
    go_enter Try.func170, Try.ntmps170
    go_wp2
    go_ret
    exact ⟨rfl, rfl⟩
  by_cases h1 : l = [46]
  · subst h1
    have e : txt [46] = ⟨#[46]⟩ := rfl
    rw [e]
    go_enter Try.func170, Try.ntmps170
    go_wp2
    go_ret
    exact ⟨rfl, rfl⟩
  by_cases h2 : l = [46, 46]
  · subst h2
    have e : txt [46, 46] = ⟨#[46, 46]⟩ := rfl
    rw [e]
    go_enter Try.func170, Try.ntmps170
    go_wp2
    go_ret
    exact ⟨rfl, rfl⟩
  rw [partS_of l h0 h1 h2]
  have n0 : ¬ l = [] := h0
  have n0b : l.isEmpty = false := by cases l <;> first | rfl | exact absurd rfl h0
  have n1 : ¬ l = [46] := h1
  have n1b : (l == [46]) = false := beq_eq_false_iff_ne.2 h1
  have n2 : ¬ l = [46, 46] := h2
  have n2b : (l == [46, 46]) = false := beq_eq_false_iff_ne.2 h2
  clear h0 h1 h2
  go_enter Try.func170, Try.ntmps170
  go_wp2
  go_loopw [16] (fun i wr => ∃ k : Nat, k ≤ l.length ∧ i = .int .i64 k ∧ (l.take k).all letB = true ∧ w = wr) (fun i _ => l.length - (intOf i).toNat)
  case atStart => exact ⟨0, by omega, rfl, rfl, rfl⟩
  case round =>
    obtain ⟨k, hk, rfl, ht, rfl⟩ := hrel
    have HT := hid ht
    clear ht
    by_cases hlt : k < l.length
    · obtain ⟨x, hx⟩ : ∃ x, l[k]? = some x := ⟨_, List.getElem?_eq_getElem (by omega)⟩
      have f1 := run_index_str l k x hx k rfl
      have b1 : (k : Int) < l.length := by omega
      have HX := hid hx
      clear hx
      cases hb : letB x with
      | true =>
        have HB := hid hb
        have cW := within_any x
        rw [hb] at cW
        clear hb
        go_wp2_with (go_at_call 186; (with_reducible refine (cW _).mono ?_); rintro e1 w1 ⟨rfl, rfl⟩)
        go_roundw
        case rel => exact ⟨k + 1, hlt, by go_num, all_take HX.out HT.out HB.out, by first | rfl | trivial⟩
        case measure => simp [intOf]; omega
      | false =>
        have HB := hid hb
        have cW := within_any x
        rw [hb] at cW
        clear hb
        go_wp2_with (go_at_call 186; (with_reducible refine (cW _).mono ?_); rintro e1 w1 ⟨rfl, rfl⟩)
        go_ret
        exact ⟨by rw [all_bad HX.out HB.out]; rfl, rfl⟩
    · obtain rfl : k = l.length := by omega
      have ht := HT.out
      rw [List.take_length] at ht
      have HU := hid ht
      clear ht HT
      go_wp2
      go_ret
      exact ⟨by rw [HU.out]; rfl, rfl⟩
theorem rpart_any (l : List UInt8) (hl : l.length ≤ 1000000000000) (w : World) :
    Calls Try.prog 127 #[.string (txt l)] w fun e w' => e = .returned (.bool (partS l)) ∧ w = w' := by
  by_cases h0 : l = []
  · subst h0
    have e : txt [] = ⟨#[]⟩ := rfl
    rw [e]
    go_enter Try.func127, Try.ntmps127
    go_wp2
    go_ret
    exact ⟨rfl, rfl⟩
  by_cases h1 : l = [46]
  · subst h1
    have e : txt [46] = ⟨#[46]⟩ := rfl
    rw [e]
    go_enter Try.func127, Try.ntmps127
    go_wp2
    go_ret
    exact ⟨rfl, rfl⟩
  by_cases h2 : l = [46, 46]
  · subst h2
    have e : txt [46, 46] = ⟨#[46, 46]⟩ := rfl
    rw [e]
    go_enter Try.func127, Try.ntmps127
    go_wp2
    go_ret
    exact ⟨rfl, rfl⟩
  rw [partS_of l h0 h1 h2]
  have nl : ¬ l.length = 0 := fun h => h0 (List.eq_nil_of_length_eq_zero h)
  have n1 : ¬ l = [46] := h1
  have n1b : (l == [46]) = false := beq_eq_false_iff_ne.2 h1
  have n2 : ¬ l = [46, 46] := h2
  have n2b : (l == [46, 46]) = false := beq_eq_false_iff_ne.2 h2
  have nl2 : ¬ (l.length : Int) = 0 := by omega
  have nl3 : ((l.length : Int) == 0) = false := beq_eq_false_iff_ne.2 nl2
  clear h0 h1 h2
  go_enter Try.func127, Try.ntmps127
  go_wp2
  go_loopw [3] (fun i wr => ∃ k : Nat, k ≤ l.length ∧ i = .int .i64 k ∧ (l.take k).all letB = true ∧ w = wr) (fun i _ => l.length - (intOf i).toNat)
  case atStart => exact ⟨0, by omega, rfl, rfl, rfl⟩
  case round =>
    obtain ⟨k, hk, rfl, ht, rfl⟩ := hrel
    have HT := hid ht
    clear ht
    by_cases hlt : k < l.length
    · obtain ⟨x, hx⟩ : ∃ x, l[k]? = some x := ⟨_, List.getElem?_eq_getElem (by omega)⟩
      have f1 := run_index_str l k x hx k rfl
      have b1 : (k : Int) < l.length := by omega
      have HX := hid hx
      clear hx
      cases hb : letB x with
      | true =>
        have HB := hid hb
        have cW := letter_any x
        rw [hb] at cW
        clear hb
        go_wp2_with (go_at_call 156; (with_reducible refine (cW _).mono ?_); rintro e1 w1 ⟨rfl, rfl⟩)
        go_roundw
        case rel => exact ⟨k + 1, hlt, by go_num, all_take HX.out HT.out HB.out, by first | rfl | trivial⟩
        case measure => simp [intOf]; omega
      | false =>
        have HB := hid hb
        have cW := letter_any x
        rw [hb] at cW
        clear hb
        go_wp2_with (go_at_call 156; (with_reducible refine (cW _).mono ?_); rintro e1 w1 ⟨rfl, rfl⟩)
        go_ret
        exact ⟨by rw [all_bad HX.out HB.out]; rfl, rfl⟩
    · obtain rfl : k = l.length := by omega
      have ht := HT.out
      rw [List.take_length] at ht
      have HU := hid ht
      clear ht HT
      go_wp2
      go_ret
      exact ⟨by rw [HU.out]; rfl, rfl⟩
end Go.Proofs.Ythpdkdalfjahcaa

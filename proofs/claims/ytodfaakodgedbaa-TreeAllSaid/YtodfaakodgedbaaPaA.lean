
/- path: letters, parts, pieces, paths, prefixes -/
import Derived.Test.YtodfaakodgedbaaRows
import Derived.Test.YtodfaakodgedbaaKit6
import Derived.Shelf.Strings.Search3
import Derived.Shelf.Strings.LastIndex
import Derived.Shelf.Small.Wraps
import Derived.Shelf.Slices.Equal
import Derived.Shelf.Slices.Empties2
import Derived.RangeFuncNested
import Derived.RangeFuncCalls
import Derived.RangeFuncLeaves
import Derived.RangeFuncBox
import Derived.Maps.AppendAt
import Derived.Shelf.Abstract
import Derived.Shelf.RegionOpen
import Derived.WalkKit
import Derived.OwnWalkIn
import Derived.TacticsInMore
import Derived.LoopNIn
import Derived.LoopIn
set_option linter.unusedSimpArgs false
set_option linter.unusedVariables false
namespace Go.Proofs.Ytodfaakodgedbaa
open Go.RowKit Go.Qc
attribute [local go_sem] txt_size txt_append ib_fold
theorem txt_lp (l : List UInt8) : ∀ (k i : Nat) (r : List UInt8), l.length - i = k → ByteArray.toList.loop (txt l) i r = r.reverse ++ l.drop i := by
  intro k
  induction k with
  | zero =>
    intro i r h
    unfold ByteArray.toList.loop
    rw [if_neg (by rw [txt_size]; omega), List.drop_of_length_le (by omega), List.append_nil]
  | succ k ih =>
    intro i r h
    unfold ByteArray.toList.loop
    rw [if_pos (by rw [txt_size]; omega), ih (i + 1) _ (by omega), List.reverse_cons, List.append_assoc]
    have hi : i < l.length := by omega
    have hg : (txt l).get! i = l[i] := by
      show l.toArray[i]! = l[i]
      simp [hi]
    rw [hg, List.drop_eq_getElem_cons hi]
    rfl
theorem txt_toL (l : List UInt8) : (txt l).toList = l := by
  unfold ByteArray.toList
  rw [txt_lp l _ 0 [] rfl]
  rfl
attribute [local go_sem] txt_toL

theorem run_index_str (l : List UInt8) (n : Nat) (x : UInt8) (hx : l[n]? = some x) (z : Int) (hz : z = n) (w : World) : (Instr.index 9 (.string (txt l)) (.int .i64 z)).run Try.prog w = .ok (.int .u8 (ib x)) w := by
  subst hz
  have hn : n < l.length := (List.getElem?_eq_some_iff.1 hx).1
  have h1 : (0 : Int) ≤ (n : Int) ∧ (n : Int) < ((txt l).size : Nat) := by rw [txt_size]; omega
  have hg : (txt l)[n]? = some x := by
    rw [getElem?_pos (txt l) n (by rw [txt_size]; exact hn)]
    congr 1
    exact txt_get rfl hx _
  simp [Instr.index, asIntOf, run_underlying Try.underlying9, h1, hg]
  rfl

/-- A byte that may stand within a part. -/
def letB (b : UInt8) : Bool := decide (97 ≤ ib b) && decide (ib b ≤ 122) || decide (48 ≤ ib b) && decide (ib b ≤ 57) || ib b == 46 || ib b == 95 || ib b == 45
theorem within_any (b : UInt8) (w : World) :
    Calls Try.prog 83 #[.int .u8 (ib b)] w fun e w' => e = .returned (.bool (letB b)) ∧ w = w' := by
  go_enter Try.func83, Try.ntmps83
  go_wp2
  all_goals go_ret
  all_goals refine ⟨?_, rfl⟩
  all_goals simp [letB]
  all_goals first | omega | (rw [Bool.eq_iff_iff]; simp; omega)
def letL : List UInt8 := [97, 98, 99, 100, 101, 102, 103, 104, 105, 106, 107, 108, 109, 110, 111, 112, 113, 114, 115, 116, 117, 118, 119, 120, 121, 122, 48, 49, 50, 51, 52, 53, 54, 55, 56, 57, 46, 95, 45]
set_option maxRecDepth 100000 in
theorem letL_all (b : UInt8) : letB b = letL.contains b := by
  have h : ∀ n : Fin 256, letB (UInt8.ofNat n.val) = letL.contains (UInt8.ofNat n.val) := by decide
  have := h ⟨b.toNat, b.toNat_lt⟩
  simpa using this
set_option maxRecDepth 100000 in
theorem letter_any (b : UInt8) (w : World) :
    Calls Try.prog 80 #[.int .u8 (ib b)] w fun e w' => e = .returned (.bool (letB b)) ∧ w = w' := by
  rw [letL_all]
  go_enter Try.func80, Try.ntmps80
  have hT : (⟨#[97, 98, 99, 100, 101, 102, 103, 104, 105, 106, 107, 108, 109, 110, 111, 112, 113, 114, 115, 116, 117, 118, 119, 120, 121, 122, 48, 49, 50, 51, 52, 53, 54, 55, 56, 57, 46, 95, 45]⟩ : ByteArray) = txt letL := rfl
  have hlen : letL.length = 39 := rfl
  rw [hT]
  clear hT
  generalize letL = L at *
  go_wp2
  go_loopw [4] (fun i wr => ∃ k : Nat, k ≤ 39 ∧ i = .int .i64 k ∧ (L.take k).contains b = false ∧ w = wr) (fun i _ => 39 - (intOf i).toNat)
  case atStart => exact ⟨0, by omega, rfl, by simp⟩
  case round =>
    obtain ⟨k, hk, rfl, ht, rfl⟩ := hrel
    by_cases hlt : k < 39
    · obtain ⟨x, hx⟩ : ∃ x, L[k]? = some x := ⟨_, List.getElem?_eq_getElem (by omega)⟩
      have f1 := run_index_str L k x hx k rfl
      have b1 : (k : Int) < 39 := by omega
      have HX := hid hx
      have HT := hid ht
      clear hx ht
      by_cases he : x = b
      · subst he
        go_wp2
        go_ret
        refine ⟨?_, rfl⟩
        have : x ∈ L := List.mem_of_getElem? HX.out
        simp [this]
      · have hne : ¬ ib x = ib b := by rw [ib_inj]; exact he
        go_wp2
        go_roundw
        case rel =>
          refine ⟨k + 1, hlt, by go_num, ?_, by first | rfl | trivial⟩
          rw [take_snoc HX.out]
          have := HT.out
          simp at this ⊢
          exact ⟨this, fun h => he h.symm⟩
        case measure => simp [intOf]; omega
    · obtain rfl : k = 39 := by omega
      rw [List.take_of_length_le (by omega)] at ht
      have HT := hid ht
      clear ht
      go_wp2
      go_ret
      exact ⟨by rw [HT.out]; rfl, rfl⟩

/-- A part. -/
def partS (l : List UInt8) : Bool := !(l == []) && !(l == [46]) && !(l == [46, 46]) && l.all letB
theorem partS_of (l : List UInt8) (h0 : l ≠ []) (h1 : l ≠ [46]) (h2 : l ≠ [46, 46]) : partS l = l.all letB := by
  simp [partS, h0, h1, h2]
theorem all_take {l : List UInt8} {k : Nat} {x : UInt8} (hx : l[k]? = some x) (h : (l.take k).all letB = true) (hb : letB x = true) : (l.take (k + 1)).all letB = true := by
  rw [take_snoc hx, List.all_append, h]; simp [hb]
theorem all_bad {l : List UInt8} {k : Nat} {x : UInt8} (hx : l[k]? = some x) (hb : letB x = false) : l.all letB = false := by
  rw [List.all_eq_false]; exact ⟨x, List.mem_of_getElem? hx, by simp [hb]⟩
theorem part_any (l : List UInt8) (hl : l.length ≤ 1000000000000) (w : World) :
    Calls Try.prog 69 #[.string (txt l)] w fun e w' => e = .returned (.bool (partS l)) ∧ w = w' := by
  by_cases h0 : l = []
  · subst h0
    have e : txt [] = ⟨#[]⟩ := rfl
    rw [e]
    go_enter Try.func69, Try.ntmps69
    go_wp2
    go_ret
    exact ⟨rfl, rfl⟩
  by_cases h1 : l = [46]
  · subst h1
    have e : txt [46] = ⟨#[46]⟩ := rfl
    rw [e]
    go_enter Try.func69, Try.ntmps69
    go_wp2
    go_ret
    exact ⟨rfl, rfl⟩
  by_cases h2 : l = [46, 46]
  · subst h2
    have e : txt [46, 46] = ⟨#[46, 46]⟩ := rfl
    rw [e]
    go_enter Try.func69, Try.ntmps69
    go_wp2
    go_ret
    exact ⟨rfl, rfl⟩
  rw [partS_of l h0 h1 h2]
  have n0 : ¬ l = [] := h0
  have n0b : l.isEmpty = false := by cases l <;> first | rfl | exact absurd rfl h0
  have n1 : ¬ l = [46] := h1
  have n1b : (l == [46]) = false := beq_eq_false_iff_ne.2 h1
  have n2 : ¬ l = [46, 46] := h2
  have n2b : (l == [46, 46]) = false := beq_eq_false_iff_ne.2 h2
  clear h0 h1 h2
  go_enter Try.func69, Try.ntmps69
  go_wp2
  go_loopw [16] (fun i wr => ∃ k : Nat, k ≤ l.length ∧ i = .int .i64 k ∧ (l.take k).all letB = true ∧ w = wr) (fun i _ => l.length - (intOf i).toNat)
  case atStart => exact ⟨0, by omega, rfl, rfl, rfl⟩
  case round =>
    obtain ⟨k, hk, rfl, ht, rfl⟩ := hrel
    have HT := hid ht
    clear ht
    by_cases hlt : k < l.length
    · obtain ⟨x, hx⟩ : ∃ x, l[k]? = some x := ⟨_, List.getElem?_eq_getElem (by omega)⟩
      have f1 := run_index_str l k x hx k rfl
      have b1 : (k : Int) < l.length := by omega
      have HX := hid hx
      clear hx
      cases hb : letB x with
      | true =>
        have HB := hid hb
        have cW := within_any x
        rw [hb] at cW
        clear hb
        go_wp2_with (go_at_call 83; (with_reducible refine (cW _).mono ?_); rintro e1 w1 ⟨rfl, rfl⟩)
        go_roundw
        case rel => exact ⟨k + 1, hlt, by go_num, all_take HX.out HT.out HB.out, by first | rfl | trivial⟩
        case measure => simp [intOf]; omega
      | false =>
        have HB := hid hb
        have cW := within_any x
        rw [hb] at cW
        clear hb
        go_wp2_with (go_at_call 83; (with_reducible refine (cW _).mono ?_); rintro e1 w1 ⟨rfl, rfl⟩)
        go_ret
        exact ⟨by rw [all_bad HX.out HB.out]; rfl, rfl⟩
    · obtain rfl : k = l.length := by omega
      have ht := HT.out
      rw [List.take_length] at ht
      have HU := hid ht
      clear ht HT
      go_wp2
      go_ret
      exact ⟨by rw [HU.out]; rfl, rfl⟩
theorem rpart_any (l : List UInt8) (hl : l.length ≤ 1000000000000) (w : World) :
    Calls Try.prog 65 #[.string (txt l)] w fun e w' => e = .returned (.bool (partS l)) ∧ w = w' := by
  by_cases h0 : l = []
  · subst h0
    have e : txt [] = ⟨#[]⟩ := rfl
    rw [e]
    go_enter Try.func65, Try.ntmps65
    go_wp2
    go_ret
    exact ⟨rfl, rfl⟩
  by_cases h1 : l = [46]
  · subst h1
    have e : txt [46] = ⟨#[46]⟩ := rfl
    rw [e]
    go_enter Try.func65, Try.ntmps65
    go_wp2
    go_ret
    exact ⟨rfl, rfl⟩
  by_cases h2 : l = [46, 46]
  · subst h2
    have e : txt [46, 46] = ⟨#[46, 46]⟩ := rfl
    rw [e]
    go_enter Try.func65, Try.ntmps65
    go_wp2
    go_ret
    exact ⟨rfl, rfl⟩
  rw [partS_of l h0 h1 h2]
  have nl : ¬ l.length = 0 := fun h => h0 (List.eq_nil_of_length_eq_zero h)
  have n1 : ¬ l = [46] := h1
  have n1b : (l == [46]) = false := beq_eq_false_iff_ne.2 h1
  have n2 : ¬ l = [46, 46] := h2
  have n2b : (l == [46, 46]) = false := beq_eq_false_iff_ne.2 h2
  have nl2 : ¬ (l.length : Int) = 0 := by omega
  have nl3 : ((l.length : Int) == 0) = false := beq_eq_false_iff_ne.2 nl2
  clear h0 h1 h2
  go_enter Try.func65, Try.ntmps65
  go_wp2
  go_loopw [3] (fun i wr => ∃ k : Nat, k ≤ l.length ∧ i = .int .i64 k ∧ (l.take k).all letB = true ∧ w = wr) (fun i _ => l.length - (intOf i).toNat)
  case atStart => exact ⟨0, by omega, rfl, rfl, rfl⟩
  case round =>
    obtain ⟨k, hk, rfl, ht, rfl⟩ := hrel
    have HT := hid ht
    clear ht
    by_cases hlt : k < l.length
    · obtain ⟨x, hx⟩ : ∃ x, l[k]? = some x := ⟨_, List.getElem?_eq_getElem (by omega)⟩
      have f1 := run_index_str l k x hx k rfl
      have b1 : (k : Int) < l.length := by omega
      have HX := hid hx
      clear hx
      cases hb : letB x with
      | true =>
        have HB := hid hb
        have cW := letter_any x
        rw [hb] at cW
        clear hb
        go_wp2_with (go_at_call 80; (with_reducible refine (cW _).mono ?_); rintro e1 w1 ⟨rfl, rfl⟩)
        go_roundw
        case rel => exact ⟨k + 1, hlt, by go_num, all_take HX.out HT.out HB.out, by first | rfl | trivial⟩
        case measure => simp [intOf]; omega
      | false =>
        have HB := hid hb
        have cW := letter_any x
        rw [hb] at cW
        clear hb
        go_wp2_with (go_at_call 80; (with_reducible refine (cW _).mono ?_); rintro e1 w1 ⟨rfl, rfl⟩)
        go_ret
        exact ⟨by rw [all_bad HX.out HB.out]; rfl, rfl⟩
    · obtain rfl : k = l.length := by omega
      have ht := HT.out
      rw [List.take_length] at ht
      have HU := hid ht
      clear ht HT
      go_wp2
      go_ret
      exact ⟨by rw [HU.out]; rfl, rfl⟩
end Go.Proofs.Ytodfaakodgedbaa

namespace Go.Proofs.Ytodfaakodgedbaa
open Go.RowKit Go.Qc Go.Shelf
attribute [local go_sem] txt_size txt_append ib_fold txt_toL
def lays219_ren : Go.Shelf.Ren := ⟨fun | 219 => 91 | 217 => 94 | 225 => 95 | 224 => 96 | 267 => 97 | 266 => 99 | 314 => 100 | n => n, fun | 9 => 9 | 3 => 3 | 4 => 4 | 5 => 5 | 46 => 90 | 146 => 120 | 51 => 119 | n => n, fun | 1 => 0 | n => n⟩
theorem lays219 : Go.Proofs.Lays.n219 Try.prog lays219_ren := {
  mixed := by kernel_rfl
  f217 := Try.func94.trans (congrArg some (by kernel_rfl))
  f219 := Try.func91.trans (congrArg some (by kernel_rfl))
  f224 := Try.func96.trans (congrArg some (by kernel_rfl))
  f225 := Try.func95.trans (congrArg some (by kernel_rfl))
  f266 := Try.func99.trans (congrArg some (by kernel_rfl))
  f267 := Try.func97.trans (congrArg some (by kernel_rfl))
  f314 := Try.func100.trans (congrArg some (by kernel_rfl))
  t3 := Try.underlying3
  a3 := Try.isAgg3
  z3 := Try.sizeOf3
  v3 := Try.zeroValue3
  t4 := Try.underlying4
  a4 := Try.isAgg4
  z4 := Try.sizeOf4
  v4 := Try.zeroValue4
  t5 := Try.underlying5
  a5 := Try.isAgg5
  z5 := Try.sizeOf5
  v5 := Try.zeroValue5
  t9 := Try.underlying9
  a9 := Try.isAgg9
  z9 := Try.sizeOf9
  v9 := Try.zeroValue9
  t46 := Try.underlying90
  a46 := Try.isAgg90
  z46 := Try.sizeOf90
  v46 := Try.zeroValue90
  t51 := Try.underlying119
  a51 := Try.isAgg119
  z51 := Try.sizeOf119
  v51 := Try.zeroValue119
  t146 := Try.underlying120
  a146 := Try.isAgg120
  z146 := Try.sizeOf120
  v146 := Try.zeroValue120
  g1 := by kernel_rfl }
def lays144_ren : Go.Shelf.Ren := ⟨fun | 144 => 72 | 143 => 85 | 219 => 91 | 217 => 94 | 225 => 95 | 224 => 96 | 267 => 97 | 266 => 99 | 314 => 100 | n => n, fun | 9 => 9 | 4 => 4 | 3 => 3 | 5 => 5 | 46 => 90 | 146 => 120 | 51 => 119 | n => n, fun | 1 => 0 | n => n⟩
theorem lays144 : Go.Proofs.Lays.n144 Try.prog lays144_ren := {
  mixed := by kernel_rfl
  f143 := Try.func85.trans (congrArg some (by kernel_rfl))
  f144 := Try.func72.trans (congrArg some (by kernel_rfl))
  f217 := Try.func94.trans (congrArg some (by kernel_rfl))
  f219 := Try.func91.trans (congrArg some (by kernel_rfl))
  f224 := Try.func96.trans (congrArg some (by kernel_rfl))
  f225 := Try.func95.trans (congrArg some (by kernel_rfl))
  f266 := Try.func99.trans (congrArg some (by kernel_rfl))
  f267 := Try.func97.trans (congrArg some (by kernel_rfl))
  f314 := Try.func100.trans (congrArg some (by kernel_rfl))
  t3 := Try.underlying3
  a3 := Try.isAgg3
  z3 := Try.sizeOf3
  v3 := Try.zeroValue3
  t4 := Try.underlying4
  a4 := Try.isAgg4
  z4 := Try.sizeOf4
  v4 := Try.zeroValue4
  t5 := Try.underlying5
  a5 := Try.isAgg5
  z5 := Try.sizeOf5
  v5 := Try.zeroValue5
  t9 := Try.underlying9
  a9 := Try.isAgg9
  z9 := Try.sizeOf9
  v9 := Try.zeroValue9
  t46 := Try.underlying90
  a46 := Try.isAgg90
  z46 := Try.sizeOf90
  v46 := Try.zeroValue90
  t51 := Try.underlying119
  a51 := Try.isAgg119
  z51 := Try.sizeOf119
  v51 := Try.zeroValue119
  t146 := Try.underlying120
  a146 := Try.isAgg120
  z146 := Try.sizeOf120
  v146 := Try.zeroValue120
  g1 := by kernel_rfl }
def lays148_ren : Go.Shelf.Ren := ⟨fun | 148 => 86 | 222 => 92 | 223 => 93 | 269 => 98 | n => n, fun | 9 => 9 | 3 => 3 | 4 => 4 | 5 => 5 | 146 => 120 | 51 => 119 | 46 => 90 | n => n, fun | n => n⟩
theorem lays148 : Go.Proofs.Lays.n148 Try.prog lays148_ren := {
  mixed := by kernel_rfl
  f148 := Try.func86.trans (congrArg some (by kernel_rfl))
  f222 := Try.func92.trans (congrArg some (by kernel_rfl))
  f223 := Try.func93.trans (congrArg some (by kernel_rfl))
  f269 := Try.func98.trans (congrArg some (by kernel_rfl))
  t3 := Try.underlying3
  a3 := Try.isAgg3
  z3 := Try.sizeOf3
  v3 := Try.zeroValue3
  t4 := Try.underlying4
  a4 := Try.isAgg4
  z4 := Try.sizeOf4
  v4 := Try.zeroValue4
  t5 := Try.underlying5
  a5 := Try.isAgg5
  z5 := Try.sizeOf5
  v5 := Try.zeroValue5
  t9 := Try.underlying9
  a9 := Try.isAgg9
  z9 := Try.sizeOf9
  v9 := Try.zeroValue9
  t46 := Try.underlying90
  a46 := Try.isAgg90
  z46 := Try.sizeOf90
  v46 := Try.zeroValue90
  t51 := Try.underlying119
  a51 := Try.isAgg119
  z51 := Try.sizeOf119
  v51 := Try.zeroValue119
  t146 := Try.underlying120
  a146 := Try.isAgg120
  z146 := Try.sizeOf120
  v146 := Try.zeroValue120 }
def lays103_ren : Go.Shelf.Ren := ⟨fun | 103 => 74 | 210 => 87 | 206 => 88 | n => n, fun | 9 => 9 | 4 => 4 | 24 => 105 | 3 => 3 | n => n, fun | n => n⟩
theorem lays103 : Go.Proofs.Lays.n103 Try.prog lays103_ren := {
  mixed := by kernel_rfl
  f103 := Try.func74.trans (congrArg some (by kernel_rfl))
  f206 := Try.func88.trans (congrArg some (by kernel_rfl))
  f210 := Try.func87.trans (congrArg some (by kernel_rfl))
  t3 := Try.underlying3
  a3 := Try.isAgg3
  z3 := Try.sizeOf3
  v3 := Try.zeroValue3
  t4 := Try.underlying4
  a4 := Try.isAgg4
  z4 := Try.sizeOf4
  v4 := Try.zeroValue4
  t9 := Try.underlying9
  a9 := Try.isAgg9
  z9 := Try.sizeOf9
  v9 := Try.zeroValue9
  t24 := Try.underlying105
  a24 := Try.isAgg105
  z24 := Try.sizeOf105
  v24 := Try.zeroValue105 }
def lays99_ren : Go.Shelf.Ren := ⟨fun | 99 => 75 | 206 => 88 | n => n, fun | 9 => 9 | 4 => 4 | 3 => 3 | n => n, fun | n => n⟩
theorem lays99 : Go.Proofs.Lays.n99 Try.prog lays99_ren := {
  mixed := by kernel_rfl
  f99 := Try.func75.trans (congrArg some (by kernel_rfl))
  f206 := Try.func88.trans (congrArg some (by kernel_rfl))
  t3 := Try.underlying3
  a3 := Try.isAgg3
  z3 := Try.sizeOf3
  v3 := Try.zeroValue3
  t4 := Try.underlying4
  a4 := Try.isAgg4
  z4 := Try.sizeOf4
  v4 := Try.zeroValue4
  t9 := Try.underlying9
  a9 := Try.isAgg9
  z9 := Try.sizeOf9
  v9 := Try.zeroValue9 }
theorem txt_data (l : List UInt8) : (txt l).data.toList = l := by simp [txt]
/-! ### a text in parts -/
def splitS : List UInt8 → List (List UInt8)
  | [] => [[]]
  | b :: l => if b = 47 then [] :: splitS l else match splitS l with
    | [] => [[b]]
    | x :: xs => (b :: x) :: xs
theorem splitS_ne (l : List UInt8) : splitS l ≠ [] := by
  cases l with
  | nil => simp [splitS]
  | cons b l =>
    rw [splitS]
    split
    · simp
    · split <;> simp
/-- The first slash: there is none, and the text is its only part; or it parts the text. -/
theorem splitS_cut (l : List UInt8) : (Lib.indexByte l 47 = -1 ∧ splitS l = [l]) ∨ ∃ i : Nat, i < l.length ∧ Lib.indexByte l 47 = i ∧ splitS l = l.take i :: splitS (l.drop (i + 1)) := by
  induction l with
  | nil => exact .inl ⟨rfl, rfl⟩
  | cons b l ih =>
    by_cases hb : b = 47
    · subst hb
      refine .inr ⟨0, by simp, by simp [Lib.indexByte], ?_⟩
      rw [splitS, if_pos rfl]; rfl
    · have h1 : (b == 47) = false := beq_eq_false_iff_ne.2 hb
      rcases ih with ⟨h, hs⟩ | ⟨i, hi, h, hs⟩
      · refine .inl ⟨by simp [Lib.indexByte, h1, h], ?_⟩
        rw [splitS, if_neg hb, hs]
      · refine .inr ⟨i + 1, by simp; omega, ?_, ?_⟩
        · have h2 : ((i : Int) == -1) = false := by rw [beq_eq_false_iff_ne]; omega
          simp [Lib.indexByte, h1, h, h2]
        · rw [splitS, if_neg hb, hs]; simp
theorem index_any (l : List UInt8) (w : World) :
    Calls Try.prog 91 #[.string (txt l), .string ⟨#[47]⟩] w fun e w' => e = .returned (.int .i64 (Lib.indexByte l 47)) ∧ w = w' := by
  have := Any.stringslite_Index_one lays219 (txt l) 47 w
  rw [txt_data] at this
  exact this.mono (by rintro e w' ⟨h, rfl⟩; exact ⟨h, rfl⟩)
theorem slice_to (l : List UInt8) (i : Nat) : (txt l).extract 0 i = txt (l.take i) := by
  rw [txt_extract]; simp
theorem slice_from (l : List UInt8) (i : Nat) : (txt l).extract i (txt l).size = txt (l.drop i) := by
  rw [txt_extract, txt_size, List.take_of_length_le (by rw [List.length_drop]; omega)]
set_option maxRecDepth 100000 in
theorem cut1_miss (l : List UInt8) (h : Lib.indexByte l 47 = -1) (w : World) :
    Calls Try.prog 90 #[.string (txt l), .string ⟨#[47]⟩] w fun e w' => e = .returned (.tuple #[.string (txt l), .string ⟨#[]⟩, .bool false]) ∧ Below w.heap.size w w' := by
  have cI := index_any l
  rw [h] at cI
  clear h
  go_enter Try.func90, Try.ntmps90
  go_wp2_with (go_at_call 91; (with_reducible refine (cI _).mono ?_); rintro e1 w1 ⟨rfl, rfl⟩)
  go_ret3
  exact ⟨rfl, Below.refl _ _⟩
set_option maxRecDepth 100000 in
theorem cut1_hit (l : List UInt8) (hl : l.length ≤ 1000000000000) (i : Nat) (hi : i < l.length) (h : Lib.indexByte l 47 = i) (w : World) :
    Calls Try.prog 90 #[.string (txt l), .string ⟨#[47]⟩] w fun e w' => e = .returned (.tuple #[.string (txt (l.take i)), .string (txt (l.drop (i + 1))), .bool true]) ∧ Below w.heap.size w w' := by
  have cI := index_any l
  rw [h] at cI
  clear h
  have e1 : (txt l).extract 0 i = txt (l.take i) := slice_to l i
  have e2 : (txt l).extract (i + 1) l.length = txt (l.drop (i + 1)) := by have := slice_from l (i + 1); rwa [txt_size] at this
  have b1 : (0 : Int) ≤ i := by omega
  have b2 : (i : Int) ≤ l.length := by omega
  have b3 : (i : Int) + 1 ≤ l.length := by omega
  have b4 : (0 : Int) ≤ (i : Int) + 1 := by omega
  go_enter Try.func90, Try.ntmps90
  go_wp2_with (go_at_call 91; (with_reducible refine (cI _).mono ?_); rintro e1 w1 ⟨rfl, rfl⟩)
  go_quiet (fail)
  go_wp2
  go_ret3
  exact ⟨rfl, below_drewN (Below.refl _ _) _⟩
theorem cut_miss (l : List UInt8) (h : Lib.indexByte l 47 = -1) (w : World) :
    Calls Try.prog 82 #[.string (txt l), .string ⟨#[47]⟩] w fun e w' => e = .returned (.tuple #[.string (txt l), .string ⟨#[]⟩, .bool false]) ∧ Below w.heap.size w w' := by
  go_enter Try.func82, Try.ntmps82
  go_wp2_with (go_at_call 90; (with_reducible refine (cut1_miss l h _).mono ?_); rintro e1 w1 ⟨rfl, hB⟩)
  go_ret3
  exact ⟨rfl, hB⟩
theorem cut_hit (l : List UInt8) (hl : l.length ≤ 1000000000000) (i : Nat) (hi : i < l.length) (h : Lib.indexByte l 47 = i) (w : World) :
    Calls Try.prog 82 #[.string (txt l), .string ⟨#[47]⟩] w fun e w' => e = .returned (.tuple #[.string (txt (l.take i)), .string (txt (l.drop (i + 1))), .bool true]) ∧ Below w.heap.size w w' := by
  have c := cut1_hit l hl i hi h
  clear h
  go_enter Try.func82, Try.ntmps82
  go_wp2_with (go_at_call 90; (with_reducible refine (c _).mono ?_); rintro e1 w1 ⟨rfl, hB⟩)
  go_ret3
  exact ⟨rfl, hB⟩
/-- What Cut tells of a text: its first part, what is behind, whether there is more. -/
def cutA (l : List UInt8) : List UInt8 := if Lib.indexByte l 47 = -1 then l else l.take (Lib.indexByte l 47).toNat
def cutR (l : List UInt8) : List UInt8 := if Lib.indexByte l 47 = -1 then [] else l.drop ((Lib.indexByte l 47).toNat + 1)
def cutM (l : List UInt8) : Bool := !decide (Lib.indexByte l 47 = -1)
theorem cut_any (l : List UInt8) (hl : l.length ≤ 1000000000000) (w : World) :
    Calls Try.prog 82 #[.string (txt l), .string ⟨#[47]⟩] w fun e w' => e = .returned (.tuple #[.string (txt (cutA l)), .string (txt (cutR l)), .bool (cutM l)]) ∧ Below w.heap.size w w' := by
  unfold cutA cutR cutM
  rcases splitS_cut l with ⟨h, _⟩ | ⟨i, hi, h, _⟩
  · rw [if_pos h, if_pos h, decide_eq_true h]
    exact cut_miss l h w
  · have hn : ¬ Lib.indexByte l 47 = -1 := by omega
    rw [if_neg hn, if_neg hn, decide_eq_false hn, h]
    exact cut_hit l hl i hi h w
theorem splitS_eq (l : List UInt8) : splitS l = if cutM l then cutA l :: splitS (cutR l) else [cutA l] := by
  unfold cutA cutR cutM
  rcases splitS_cut l with ⟨h, hs⟩ | ⟨i, hi, h, hs⟩
  · rw [if_pos h, if_pos h, decide_eq_true h, hs]; rfl
  · have hn : ¬ Lib.indexByte l 47 = -1 := by omega
    rw [if_neg hn, if_neg hn, decide_eq_false hn, h, hs]; rfl
theorem cutR_len (l : List UInt8) : (cutR l).length + (if cutM l then 1 else 0) ≤ l.length := by
  unfold cutR cutM
  rcases splitS_cut l with ⟨h, _⟩ | ⟨i, hi, h, _⟩
  · rw [if_pos h, decide_eq_true h]; simp
  · have hn : ¬ Lib.indexByte l 47 = -1 := by omega
    rw [if_neg hn, decide_eq_false hn, h]; simp; omega
theorem cutA_len (l : List UInt8) : (cutA l).length ≤ l.length := by
  unfold cutA; split
  · exact Nat.le_refl _
  · rw [List.length_take]; omega
theorem splitS_len (l : List UInt8) : ∀ x ∈ splitS l, x.length ≤ l.length := by
  induction l with
  | nil => simp [splitS]
  | cons b l ih =>
    rw [splitS]
    split
    · intro x hx
      simp at hx
      rcases hx with rfl | hx
      · simp
      · have := ih x hx; simp; omega
    · split
      · rename_i h; exact absurd h (splitS_ne l)
      · rename_i y ys h
        intro x hx
        simp at hx
        rcases hx with rfl | hx
        · have := ih y (by rw [h]; simp); simp; omega
        · have := ih x (by rw [h]; simp [hx]); simp; omega
end Go.Proofs.Ytodfaakodgedbaa

namespace Go.Proofs.Ytodfaakodgedbaa
open Go.RowKit Go.Qc Go.Shelf
attribute [local go_sem] txt_size txt_append ib_fold txt_toL
attribute [local go_sem] Oper.semAt_some

theorem grown_none {a b : World} (h : Below a.heap.size a b) : a.grownBy b none := ⟨h.os, h.tape, h.output, h.size, fun k hk _ => h.block k hk⟩
def sizeV : Value → Nat
  | .string s => s.size
  | _ => 0
def flagV : Value → Nat
  | .bool true => 1
  | _ => 0
/-- A text of no more bytes than a machine has. -/
abbrev PS := { x : List UInt8 // x.length ≤ 1000000000000 }
set_option maxRecDepth 100000 in
set_option maxHeartbeats 2000000 in
theorem pieces1_in (n : Nat) (hn : 1 ≤ n) (l Bn : Nat) (s : List UInt8) (hs : s.length ≤ 1000000000000) (J Jx : List PS → World → Prop) (W : World) (hJ : AbidesFrom W.heap.size J)
    (hY : ∀ pre x W, J pre W → pre.length < (splitS s).length → YieldAt Fence.wide (n - 1) Try.prog l #[strV x.1] W fun e W' =>
      (e = .returned (.bool true) ∧ J (pre ++ [x]) W' ∧ True) ∨ (e = .returned (.bool false) ∧ Jx (pre ++ [x]) W'))
    (hBn : W.cell? ⟨Bn, 0, none⟩ = some (.string (txt s))) (h0 : J [] W) :
    CallsIn Fence.wide n Try.prog 81 #[.func (.yield l) #[] #[], .pointer (some ⟨Bn, 0, none⟩)] W fun e W' => (∃ v, e = .returned v) ∧
      ((∃ ys : List PS, ys.map (·.1) = splitS s ∧ J ys W') ∨ (∃ pre : List PS, pre.map (·.1) <+: splitS s ∧ Jx pre W')) := by
  unfold strV at hY
  have cC := cut_any s hs
  refine callsIn_of_wp Try.func81 rfl trivial ?_ rfl
  simp only [Try.ntmps81, List.size_toArray, List.length_cons, List.length_nil, Nat.reduceAdd, Nat.reduceSub, Array.replicate_succ, Array.replicate_zero, List.push_toArray, List.append_toArray, List.nil_append, List.cons_append]
  gi_wp2_with (refine ⟨trivial, ?_⟩; gi_at_call 82; refine (callsIn_wide.2 (cC _)).mono ?_; rintro e1 w1 ⟨rfl, hB1⟩)
  have h1 : J [] w1 := hJ _ _ _ none h0 (grown_none hB1) (fun r e => by cases e)
  have hAb : ∀ pre W2 W3, J pre W2 → Below W2.heap.size W2 W3 → J pre W3 := fun pre W2 W3 h hb => hJ _ _ _ none h (grown_none hb) (fun r e => by cases e)
  gi_loopw [3, 4, 5] (fun p r m wr => ∃ (pre : List PS) (a : PS) (b : List UInt8) (t : Bool), p = .string (txt a.1) ∧ r = .string (txt b) ∧ m = .bool t ∧ b.length ≤ s.length ∧ splitS s = pre.map (·.1) ++ (if t then a.1 :: splitS b else [a.1]) ∧ J pre wr)
    (fun _ r m _ => sizeV r + flagV m)
  case atStart =>
    exact ⟨[], ⟨cutA s, Nat.le_trans (cutA_len s) hs⟩, cutR s, cutM s, rfl, rfl, rfl, by have := cutR_len s; omega, by rw [List.map_nil, List.nil_append]; exact splitS_eq s, h1⟩
  case round =>
    obtain ⟨pre, a, b, t, rfl, rfl, rfl, hbl, hsp, hJs⟩ := hrel
    obtain ⟨fn, tmps, assign, body, hy, hR⟩ := hY pre a wr hJs (by rw [hsp]; cases t <;> simp)
    have cD := cut_any b (by omega)
    have HSP := hid hsp
    clear hsp
    gi_wp2
    refine hR.mono ?_
    rintro e W3 (⟨rfl, hJ3, _⟩ | ⟨rfl, hJx3⟩)
    · cases t with
      | true =>
        gi_wp2_with (refine ⟨trivial, ?_⟩; gi_at_call 82; refine (callsIn_wide.2 (cD _)).mono ?_; rintro e1 w1 ⟨rfl, hB1⟩)
        go_roundw
        case rel =>
          have hl := cutR_len b
          exact ⟨pre ++ [a], ⟨cutA b, Nat.le_trans (cutA_len b) (by omega)⟩, cutR b, cutM b, rfl, rfl, rfl, by omega, by rw [HSP.out, splitS_eq b, List.map_append, List.append_assoc]; rfl, hAb _ _ _ hJ3 hB1⟩
        case measure =>
          have hl := cutR_len b
          simp only [sizeV, flagV, txt_size]
          cases hm : cutM b
          · rw [hm] at hl; simp at hl ⊢; omega
          · rw [hm] at hl; simp at hl ⊢; omega
      | false =>
        gi_wp2
        go_end0
        exact ⟨⟨_, rfl⟩, .inl ⟨pre ++ [a], by rw [HSP.out, List.map_append]; rfl, hJ3⟩⟩
    · gi_wp2
      go_end0
      exact ⟨⟨_, rfl⟩, .inr ⟨pre ++ [a], by rw [HSP.out]; cases t <;> simp, hJx3⟩⟩
end Go.Proofs.Ytodfaakodgedbaa

namespace Go.Proofs.Ytodfaakodgedbaa
open Go.RowKit Go.Qc Go.Shelf
attribute [local go_sem] txt_size txt_append ib_fold txt_toL
attribute [local go_sem] Oper.semAt_some

theorem pieces_any (s : List UInt8) (w : World) :
    Calls Try.prog 68 #[.string (txt s)] w fun e w' => e = .returned (.func (.func 81) #[] #[.pointer (some ⟨w.heap.size, 0, none⟩)]) ∧ w' = w.alloc (.cells #[.string (txt s)] 9) := by
  go_enter Try.func68, Try.ntmps68
  go_wp2
  go_ret
  exact ⟨rfl, rfl⟩
theorem pieces_stops (n : Nat) (hn : 1 ≤ n) (Bn : Nat) (s : List UInt8) (hs : s.length ≤ 1000000000000) (w : World) (hBn : Bn < w.heap.size) (hc : w.cell? ⟨Bn, 0, none⟩ = some (.string (txt s))) :
    SeqStopsK Fence.wide n Try.prog 81 #[.pointer (some ⟨Bn, 0, none⟩)] (fun x : PS => #[strV x.1]) (fun _ _ => True) (fun ys => ys.map (·.1) = splitS s) (fun pre => pre.map (·.1) <+: splitS s) (splitS s).length w :=
  fun l J Jx W hW hJ _ hY h0 => pieces1_in n hn l Bn s hs J Jx W hJ hY ((hW.cell (p := ⟨Bn, 0, none⟩) hBn).trans hc) h0

/-- A path. -/
def pathR (s : List UInt8) : Bool := decide (s.length ≤ 200) && (decide ((splitS s).length ≤ 16) && (splitS s).all partS)
theorem pathR_long {s : List UInt8} (h : 200 < s.length) : pathR s = false := by
  unfold pathR; rw [decide_eq_false (by omega)]; rfl
theorem pathR_bad {s : List UInt8} {pre : List (List UInt8)} (h : pre <+: splitS s) (hb : 16 < pre.length ∨ ∃ x ∈ pre, partS x = false) : pathR s = false := by
  unfold pathR
  rcases hb with hb | ⟨x, hx, hb⟩
  · have := h.length_le
    rw [decide_eq_false (show ¬ (splitS s).length ≤ 16 by omega)]; simp
  · have : (splitS s).all partS = false := by rw [List.all_eq_false]; exact ⟨x, h.subset hx, by simp [hb]⟩
    rw [this]; simp
theorem pathR_ok {s : List UInt8} (h1 : s.length ≤ 200) (h2 : (splitS s).length ≤ 16) (h3 : ∀ x ∈ splitS s, partS x = true) : pathR s = true := by
  unfold pathR
  rw [decide_eq_true h1, decide_eq_true h2, List.all_eq_true.2 h3]; rfl
set_option maxRecDepth 100000 in
set_option maxHeartbeats 2000000 in
theorem right_short (s : List UInt8) (hs : s.length ≤ 200) (w : World) :
    Calls Try.prog 57 #[.string (txt s)] w fun e w' => e = .returned (.bool (pathR s)) ∧ Below w.heap.size w w' := by
  refine (callsIn_wide (n := 3)).1 ?_
  have b0 : ¬ (200 : Int) < s.length := by omega
  refine callsIn_of_wp_marks Try.func57 rfl trivial ?_ rfl
  simp only [Try.ntmps57, List.size_toArray, List.length_cons, List.length_nil, Nat.reduceAdd, Nat.reduceSub, Array.replicate_succ, Array.replicate_zero, List.push_toArray, List.append_toArray, List.nil_append, List.cons_append]
  gi_wp2_with (refine ⟨trivial, ?_⟩; gi_at_call 68; refine (callsIn_wide.2 (pieces_any s _)).mono ?_; rintro e1 w1 ⟨rfl, rfl⟩)
  have x0 := Boxed.new w 4 (.bool false)
  have x1 := Boxed.new (w.alloc (.cells #[.bool false] 4)) 3 (.int .i64 0)
  have x2 := Boxed.new ((w.alloc (.cells #[.bool false] 4)).alloc (.cells #[.int .i64 0] 3)) 9 (.string (txt s))
  simp only [World.size_alloc] at x1 x2
  have hB0 : Below w.heap.size w (((w.alloc (.cells #[.bool false] 4)).alloc (.cells #[.int .i64 0] 3)).alloc (.cells #[.string (txt s)] 9)) := (((Below.refl _ w).alloc (Nat.le_refl _) _).alloc (by simp) _).alloc (by simp; omega) _
  refine wpIn_rangeFunc_ownG rfl (by omega) (gf := 81) (lb := #[.pointer (some ⟨w.heap.size + 1 + 1, 0, none⟩)]) rfl trivial (enters_of Try.func81 (by kernel_rfl) rfl)
    (pieces_stops (3 - 1) (by omega) (w.heap.size + 1 + 1) s (by omega) _ x2.lt x2.cell) (fun _ _ => trivial) (fun _ _ _ _ _ _ _ _ => trivial) (Below.refl _ _) (fun _ => rfl)
    (fun pre W => (Boxed W w.heap.size 4 (.bool false) ∧ Boxed W (w.heap.size + 1) 3 (.int .i64 pre.length)) ∧ ((∀ x ∈ pre, partS x.1 = true) ∧ pre.length ≤ 16) ∧ Below w.heap.size w W)
    (fun c pre W => (Boxed W w.heap.size 4 (.bool false)) ∧ (c = .ret ∧ (16 < pre.length ∨ ∃ x ∈ pre, partS x.1 = false)) ∧ Below w.heap.size w W)
    ?own ?ownx
    ⟨⟨(x0.alloc _).alloc _, x1.alloc _⟩, ⟨by simp, by simp⟩, hB0⟩
    (fun x => { tmps := #[.string (txt s), undef, .pointer (some ⟨w.heap.size, 0, none⟩), .pointer (some ⟨w.heap.size + 1, 0, none⟩), .string (txt x.1), .string (txt s), .int .i64 s.length, .bool false, .string (txt s), .func (.func 81) #[] #[.pointer (some ⟨w.heap.size + 1 + 1, 0, none⟩)], .string (txt x.1), undef, undef, undef, undef, undef, undef, undef, undef, undef], defers := [] }) ?assign ?body ?done ?stop
  case own => exact OwnFrom.and (OwnFrom.and (Own.from (boxed_own _ _ _) _) (Own.from (boxed_own _ _ _) _)) (OwnFrom.and (ownFrom_pure _ _) (ownFrom_below (Nat.le_refl _) (by simp; omega)))
  case ownx => exact fun c => OwnFrom.and (Own.from (boxed_own _ _ _) _) (OwnFrom.and (ownFrom_pure _ _) (ownFrom_below (Nat.le_refl _) (by simp; omega)))
  case assign =>
    intro l x W K hK
    unfold strV
    gi_wp2
    exact hK
  case body =>
    rintro l pre x W ⟨⟨hb, hi⟩, ⟨hp, hl⟩, hB⟩ _
    have c0 := hb.cell
    have c1 := hi.cell
    have f0 := hb.frozen
    have f1 := hi.frozen
    have hB1 := hB.setCell (p := ⟨w.heap.size + 1, 0, none⟩) (Nat.le_succ _) (.int .i64 ((pre.length : Int) + 1))
    have hb1 := hb.other (B' := w.heap.size + 1) (by omega) (.int .i64 ((pre.length : Int) + 1))
    have hi1 := hi.set (.int .i64 ((pre.length : Int) + 1))
    gi_wp2_with (refine ⟨trivial, ?_⟩; gi_at_call 69; refine (CallsIn.inRound l (callsIn_wide.2 (part_any x.1 x.2 _))).mono ?_; rintro e w' ⟨rfl, rfl⟩)
    · have h : 16 < (pre.length : Int) + 1 ∨ (!partS x.val) = true := by assumption
      refine ⟨((KeepsOthers.setCell _ _ _).trans (KeepsOthers.setCell _ _ _)).from _, hb1.set _, ⟨rfl, ?_⟩, hB1.setCell (p := ⟨w.heap.size, 0, none⟩) (Nat.le_refl _) _⟩
      rcases h with h | h
      · exact .inl (by simp; omega)
      · exact .inr ⟨x, by simp, by simpa using h⟩
    · have h : (pre.length : Int) + 1 ≤ 16 ∧ (!partS x.val) = false := by assumption
      refine ⟨(KeepsOthers.setCell _ _ _).from _, trivial, ⟨hb1, by rw [List.length_append]; exact hi1⟩, ⟨fun y hy => ?_, by simp; omega⟩, hB1⟩
      rcases List.mem_append.1 hy with hy | hy
      · exact hp y hy
      · obtain rfl : y = x := by simpa using hy
        simpa using h.2
    · have h : 16 < (pre.length : Int) + 1 := by assumption
      refine ⟨trivial, ?_⟩
      gi_wp2
      refine ⟨((KeepsOthers.setCell _ _ _).trans (KeepsOthers.setCell _ _ _)).from _, hb1.set _, ⟨rfl, .inl (by simp; omega)⟩, hB1.setCell (p := ⟨w.heap.size, 0, none⟩) (Nat.le_refl _) _⟩
  case done =>
    rintro D ys W hD hys ⟨⟨hb, hi⟩, ⟨hp, hl⟩, hB⟩ hK
    have c0 := hb.cell
    have f0 := hb.frozen
    gi_wp2
    have hK' := (KeepsOthers.setCell W ⟨w.heap.size, 0, none⟩ (.bool true)).same D _ hK rfl
    refine ⟨by simp, .inl ⟨_, _, rfl, run_takeDeferred hK', ?_⟩⟩
    have hc5 := cell_kept (hb.set (.bool true)).cell (grownBy_putObj' _ D (.deferred none)) (fun r e => by cases e; exact ⟨_, hK', rfl⟩)
    have hok : pathR s = true := pathR_ok hs (by rw [← hys, List.length_map]; exact hl) (fun x hx => by
      rw [← hys] at hx
      obtain ⟨y, hy, rfl⟩ := List.mem_map.1 hx
      exact hp y hy)
    refine ⟨.bool true, ?_, by rw [hok], (hB.setCell (p := ⟨w.heap.size, 0, none⟩) (Nat.le_refl _) _).trans (belowK_b (w := w) (Nat.le_refl _) _ D _ _ (by simp at hD; omega) hK' rfl rfl)⟩
    simp [results, Try.f57, go_sem, hc5]
  case stop =>
    rintro D c pre W hD hpre ⟨hb, ⟨rfl, hbad⟩, hB⟩ hK
    gi_wp2
    refine ⟨by simp, .inl ⟨_, _, rfl, run_takeDeferred hK, ?_⟩⟩
    have hc5 := cell_kept hb.cell (grownBy_putObj' _ D (.deferred none)) (fun r e => by cases e; exact ⟨_, hK, rfl⟩)
    have hno : pathR s = false := pathR_bad hpre (by
      rcases hbad with h | ⟨x, hx, h⟩
      · exact .inl (by rw [List.length_map]; exact h)
      · exact .inr ⟨x.1, List.mem_map.2 ⟨x, hx, rfl⟩, h⟩)
    refine ⟨.bool false, ?_, by rw [hno], hB.trans (belowK_b (w := w) (Nat.le_refl _) W D _ _ (by simp at hD; omega) hK rfl rfl)⟩
    simp [results, Try.f57, go_sem, hc5]
theorem right_long (s : List UInt8) (hs : 200 < s.length) (w : World) :
    Calls Try.prog 57 #[.string (txt s)] w fun e w' => e = .returned (.bool (pathR s)) ∧ Below w.heap.size w w' := by
  rw [pathR_long hs]
  have b0 : (200 : Int) < s.length := by omega
  go_enter Try.func57, Try.ntmps57
  go_wp2
  refine bodyPost_ret (v := .bool false) (by simp [results, Try.f57, go_sem]) rfl ?_
  exact ⟨rfl, (Below.refl _ w).alloc (Nat.le_refl _) _⟩
theorem path_any (s : List UInt8) (w : World) :
    Calls Try.prog 57 #[.string (txt s)] w fun e w' => e = .returned (.bool (pathR s)) ∧ Below w.heap.size w w' := by
  by_cases h : s.length ≤ 200
  · exact right_short s h w
  · exact right_long s (by omega) w
end Go.Proofs.Ytodfaakodgedbaa

namespace Go.Proofs.Ytodfaakodgedbaa
open Go.RowKit Go.Qc Go.Shelf
attribute [local go_sem] txt_size txt_append ib_fold txt_toL
attribute [local go_sem] Oper.semAt_some

theorem infoString : (Try.prog.info? 9).map (fun i => (i.zero, i.size, i.bytes)) = some (some (.string ⟨#[]⟩), 1, 16) := by kernel_rfl
theorem splitS_count (l : List UInt8) : (splitS l).length ≤ l.length + 1 := by
  induction l with
  | nil => simp [splitS]
  | cons b l ih =>
    rw [splitS]
    split
    · simp; omega
    · split
      · simp
      · rename_i h; rw [h] at ih; simp at ih ⊢; omega
end Go.Proofs.Ytodfaakodgedbaa

namespace Go.Proofs.Ytodfaakodgedbaa
open Go.RowKit Go.Qc Go.Shelf
attribute [local go_sem] txt_size txt_append ib_fold txt_toL

/-- A prefix; what one covers. -/
def preR (p : List UInt8) : Bool := p.isEmpty || pathR p
def covB (p s : List UInt8) : Bool := p.isEmpty || (p == s || (p ++ [47]).isPrefixOf s)
def covR (p s : List UInt8) : Bool := preR p && (pathR s && covB p s)
theorem pathR_nil : pathR [] = false := by decide
theorem prefix_any (p : List UInt8) (w : World) :
    Calls Try.prog 56 #[.string (txt p)] w fun e w' => e = .returned (.bool (preR p)) ∧ Below w.heap.size w w' := by
  unfold preR
  by_cases h : p = []
  · subst h
    have e : txt [] = ⟨#[]⟩ := rfl
    rw [e]
    go_enter Try.func56, Try.ntmps56
    go_wp2
    go_ret
    exact ⟨rfl, Below.refl _ _⟩
  · have h2 : p.isEmpty = false := by cases p <;> first | rfl | exact absurd rfl h
    rw [h2, Bool.false_or]
    have cR := path_any p
    go_enter Try.func56, Try.ntmps56
    go_wp2_with (go_at_call 57; (with_reducible refine (cR _).mono ?_); rintro e1 w1 ⟨rfl, hB1⟩)
    go_ret
    exact ⟨rfl, hB1⟩
theorem covB_of (p s : List UInt8) : (Lib.hasPrefix s p && (p.isEmpty || ((Lib.trimPrefix s p).isEmpty || Lib.hasPrefix (Lib.trimPrefix s p) [47]))) = covB p s := by
  unfold Lib.trimPrefix covB Lib.hasPrefix
  by_cases h : p <+: s
  · obtain ⟨r, rfl⟩ := h
    have h1 : p.isPrefixOf (p ++ r) = true := by rw [List.isPrefixOf_iff_prefix]; exact ⟨r, rfl⟩
    rw [h1, if_pos rfl, Bool.true_and, List.drop_left]
    congr 1
    rw [Bool.eq_iff_iff]
    simp only [Bool.or_eq_true, List.isEmpty_iff, List.isPrefixOf_iff_prefix, beq_iff_eq]
    rw [List.prefix_append_right_inj]
    constructor
    · rintro (rfl | h)
      · exact .inl (by simp)
      · exact .inr h
    · rintro (h | h)
      · exact .inl (by simpa using h)
      · exact .inr h
  · have h1 : p.isPrefixOf s = false := by rw [Bool.eq_false_iff, ne_eq, List.isPrefixOf_iff_prefix]; exact h
    rw [h1, Bool.false_and]
    symm
    rw [Bool.eq_false_iff]
    simp only [ne_eq, Bool.or_eq_true, List.isEmpty_iff, List.isPrefixOf_iff_prefix, beq_iff_eq]
    rintro (rfl | rfl | h2)
    · exact h (List.nil_prefix)
    · exact h (List.prefix_refl _)
    · exact h (List.IsPrefix.trans (List.prefix_append _ _) h2)
theorem cutPrefix_any (s p : List UInt8) (w : World) :
    Calls Try.prog 74 #[.string (txt s), .string (txt p)] w fun e w' => e = .returned (.tuple #[.string (txt (Lib.trimPrefix s p)), .bool (Lib.hasPrefix s p)]) ∧ w = w' := by
  have := Any.strings_CutPrefix lays103 (txt s) (txt p) w
  rw [txt_data, txt_data] at this
  exact this.mono (by rintro e w' ⟨h, rfl⟩; exact ⟨h, rfl⟩)
theorem hasPrefix_any (s : List UInt8) (w : World) :
    Calls Try.prog 75 #[.string (txt s), .string ⟨#[47]⟩] w fun e w' => e = .returned (.bool (Lib.hasPrefix s [47])) ∧ w = w' := by
  have := Any.strings_HasPrefix lays99 (txt s) ⟨#[47]⟩ w
  rw [txt_data] at this
  exact this.mono (by rintro e w' ⟨h, rfl⟩; exact ⟨h, rfl⟩)
theorem covers_gen (p s T : List UInt8) (P R H K : Bool)
    (cP : ∀ W, Calls Try.prog 56 #[.string (txt p)] W fun e w' => e = .returned (.bool P) ∧ Below W.heap.size W w')
    (cR : ∀ W, Calls Try.prog 57 #[.string (txt s)] W fun e w' => e = .returned (.bool R) ∧ Below W.heap.size W w')
    (cC : ∀ W, Calls Try.prog 74 #[.string (txt s), .string (txt p)] W fun e w' => e = .returned (.tuple #[.string (txt T), .bool H]) ∧ W = w')
    (cH : ∀ W, Calls Try.prog 75 #[.string (txt T), .string ⟨#[47]⟩] W fun e w' => e = .returned (.bool K) ∧ W = w') (w : World) :
    Calls Try.prog 61 #[.string (txt p), .string (txt s)] w fun e w' => e = .returned (.bool (P && (R && (H && (p.isEmpty || (T.isEmpty || K)))))) ∧ Below w.heap.size w w' := by
  obtain ⟨E1, h1⟩ : ∃ E1, E1 = p.isEmpty := ⟨_, rfl⟩
  obtain ⟨E2, h2⟩ : ∃ E2, E2 = T.isEmpty := ⟨_, rfl⟩
  have f1 : (p = []) = (E1 = true) := by rw [h1, List.isEmpty_iff]
  have f2 : (T = []) = (E2 = true) := by rw [h2, List.isEmpty_iff]
  rw [← h1, ← h2]
  replace h1 := h1.symm
  replace h2 := h2.symm
  go_enter Try.func61, Try.ntmps61
  cases P <;> cases R <;> cases H <;> cases E1 <;> cases E2 <;> cases K
  all_goals go_wp2_with (first
    | (go_at_call 56; (with_reducible refine (cP _).mono ?_); rintro e1 w1 ⟨rfl, hB1⟩)
    | (go_at_call 57; (with_reducible refine (cR _).mono ?_); rintro e2 w2 ⟨rfl, hB2⟩)
    | (go_at_call 74; (with_reducible refine (cC _).mono ?_); rintro e3 w3 ⟨rfl, rfl⟩)
    | (go_at_call 75; (with_reducible refine (cH _).mono ?_); rintro e3 w3 ⟨rfl, rfl⟩))
  all_goals go_ret
  all_goals refine ⟨?_, by first | exact hB1 | exact hB1.trans (hB2.mono hB1.size)⟩
  all_goals rfl
end Go.Proofs.Ytodfaakodgedbaa

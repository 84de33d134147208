
/- path: which bytes and parts may be, by the program and by the document; the first slash of a text. -/
import Derived.Test.YtjaenffdbhgmeaaRows
import Derived.Test.YtjaenffdbhgmeaaKit6
namespace Go.Proofs.Ytjaenffdbhgmeaa
open Go.RowKit Go.Qc
attribute [local go_sem] txt_size txt_append ib_fold
theorem txt_lp (l : List UInt8) : ∀ (k i : Nat) (r : List UInt8), l.length - i = k → ByteArray.toList.loop (txt l) i r = r.reverse ++ l.drop i := by
  intro k
  induction k with
  | zero =>
    intro i r h
    unfold ByteArray.toList.loop
    rw [if_neg (by rw [txt_size]; omega), List.drop_of_length_le (by omega), List.append_nil]
  | succ k ih =>
    intro i r h
    unfold ByteArray.toList.loop
    rw [if_pos (by rw [txt_size]; omega), ih (i + 1) _ (by omega), List.reverse_cons, List.append_assoc]
    have hi : i < l.length := by omega
    have hg : (txt l).get! i = l[i] := by
      show l.toArray[i]! = l[i]
      simp [hi]
    rw [hg, List.drop_eq_getElem_cons hi]
    rfl
theorem txt_toL (l : List UInt8) : (txt l).toList = l := by
  unfold ByteArray.toList
  rw [txt_lp l _ 0 [] rfl]
  rfl
attribute [local go_sem] txt_toL

theorem run_index_str (l : List UInt8) (n : Nat) (x : UInt8) (hx : l[n]? = some x) (z : Int) (hz : z = n) (w : World) : (Instr.index 9 (.string (txt l)) (.int .i64 z)).run Try.prog w = .ok (.int .u8 (ib x)) w := by
  subst hz
  have hn : n < l.length := (List.getElem?_eq_some_iff.1 hx).1
  have h1 : (0 : Int) ≤ (n : Int) ∧ (n : Int) < ((txt l).size : Nat) := by rw [txt_size]; omega
  have hg : (txt l)[n]? = some x := by
    rw [getElem?_pos (txt l) n (by rw [txt_size]; exact hn)]
    congr 1
    exact txt_get rfl hx _
  simp [Instr.index, asIntOf, run_underlying Try.underlying9, h1, hg]
  rfl

/-- A byte that may stand within a part. -/
def letB (b : UInt8) : Bool := decide (97 ≤ ib b) && decide (ib b ≤ 122) || decide (48 ≤ ib b) && decide (ib b ≤ 57) || ib b == 46 || ib b == 95 || ib b == 45
def letL : List UInt8 := [97, 98, 99, 100, 101, 102, 103, 104, 105, 106, 107, 108, 109, 110, 111, 112, 113, 114, 115, 116, 117, 118, 119, 120, 121, 122, 48, 49, 50, 51, 52, 53, 54, 55, 56, 57, 46, 95, 45]
set_option maxRecDepth 100000 in
theorem letL_all (b : UInt8) : letB b = letL.contains b := by
  have h : ∀ n : Fin 256, letB (UInt8.ofNat n.val) = letL.contains (UInt8.ofNat n.val) := by decide
  have := h ⟨b.toNat, b.toNat_lt⟩
  simpa using this
/-- A part. -/
def partS (l : List UInt8) : Bool := !(l == []) && !(l == [46]) && !(l == [46, 46]) && l.all letB
theorem partS_of (l : List UInt8) (h0 : l ≠ []) (h1 : l ≠ [46]) (h2 : l ≠ [46, 46]) : partS l = l.all letB := by
  simp [partS, h0, h1, h2]
theorem all_take {l : List UInt8} {k : Nat} {x : UInt8} (hx : l[k]? = some x) (h : (l.take k).all letB = true) (hb : letB x = true) : (l.take (k + 1)).all letB = true := by
  rw [take_snoc hx, List.all_append, h]; simp [hb]
theorem all_bad {l : List UInt8} {k : Nat} {x : UInt8} (hx : l[k]? = some x) (hb : letB x = false) : l.all letB = false := by
  rw [List.all_eq_false]; exact ⟨x, List.mem_of_getElem? hx, by simp [hb]⟩
end Go.Proofs.Ytjaenffdbhgmeaa


/- path: letters, parts, pieces, paths, prefixes -/
import Derived.Test.YtemdmdgigmhlbaaGreatRows
import Derived.Test.YtemdmdgigmhlbaaGreatKit6
import Derived.Shelf.Strings.Search3
import Derived.Shelf.Strings.LastIndex
import Derived.Shelf.Small.Wraps
import Derived.Shelf.Slices.Equal
import Derived.Shelf.Slices.Empties2
import Derived.RangeFuncNested
import Derived.RangeFuncCalls
import Derived.RangeFuncLeaves
import Derived.RangeFuncBox
import Derived.Maps.AppendAt
import Derived.Shelf.Abstract
import Derived.Shelf.RegionOpen
import Derived.WalkKit
import Derived.OwnWalkIn
import Derived.TacticsInMore
import Derived.LoopNIn
import Derived.LoopIn
set_option linter.unusedSimpArgs false
set_option linter.unusedVariables false
namespace Go.Proofs.YtemdmdgigmhlbaaGreat
open Go.RowKit Go.Qc
attribute [local go_sem] txt_size txt_append ib_fold
theorem txt_lp (l : List UInt8) : ∀ (k i : Nat) (r : List UInt8), l.length - i = k → ByteArray.toList.loop (txt l) i r = r.reverse ++ l.drop i := by
  intro k
  induction k with
  | zero =>
    intro i r h
    unfold ByteArray.toList.loop
    rw [if_neg (by rw [txt_size]; omega), List.drop_of_length_le (by omega), List.append_nil]
  | succ k ih =>
    intro i r h
    unfold ByteArray.toList.loop
    rw [if_pos (by rw [txt_size]; omega), ih (i + 1) _ (by omega), List.reverse_cons, List.append_assoc]
    have hi : i < l.length := by omega
    have hg : (txt l).get! i = l[i] := by
      show l.toArray[i]! = l[i]
      simp [hi]
    rw [hg, List.drop_eq_getElem_cons hi]
    rfl
theorem txt_toL (l : List UInt8) : (txt l).toList = l := by
  unfold ByteArray.toList
  rw [txt_lp l _ 0 [] rfl]
  rfl
attribute [local go_sem] txt_toL

theorem run_index_str (l : List UInt8) (n : Nat) (x : UInt8) (hx : l[n]? = some x) (z : Int) (hz : z = n) (w : World) : (Instr.index 9 (.string (txt l)) (.int .i64 z)).run Tryz.prog w = .ok (.int .u8 (ib x)) w := by
  subst hz
  have hn : n < l.length := (List.getElem?_eq_some_iff.1 hx).1
  have h1 : (0 : Int) ≤ (n : Int) ∧ (n : Int) < ((txt l).size : Nat) := by rw [txt_size]; omega
  have hg : (txt l)[n]? = some x := by
    rw [getElem?_pos (txt l) n (by rw [txt_size]; exact hn)]
    congr 1
    exact txt_get rfl hx _
  simp [Instr.index, asIntOf, run_underlying Tryz.underlying9, h1, hg]
  rfl

end Go.Proofs.YtemdmdgigmhlbaaGreat

namespace Go.Proofs.YtemdmdgigmhlbaaGreat
open Go.RowKit Go.Qc Go.Shelf
attribute [local go_sem] txt_size txt_append ib_fold txt_toL
/-! ### a text in parts -/
end Go.Proofs.YtemdmdgigmhlbaaGreat

namespace Go.Proofs.YtemdmdgigmhlbaaGreat
open Go.RowKit Go.Qc Go.Shelf
attribute [local go_sem] txt_size txt_append ib_fold txt_toL
attribute [local go_sem] Oper.semAt_some

end Go.Proofs.YtemdmdgigmhlbaaGreat

namespace Go.Proofs.YtemdmdgigmhlbaaGreat
open Go.RowKit Go.Qc Go.Shelf
attribute [local go_sem] txt_size txt_append ib_fold txt_toL
attribute [local go_sem] Oper.semAt_some

end Go.Proofs.YtemdmdgigmhlbaaGreat

namespace Go.Proofs.YtemdmdgigmhlbaaGreat
open Go.RowKit Go.Qc Go.Shelf
attribute [local go_sem] txt_size txt_append ib_fold txt_toL
attribute [local go_sem] Oper.semAt_some

end Go.Proofs.YtemdmdgigmhlbaaGreat

namespace Go.Proofs.YtemdmdgigmhlbaaGreat
open Go.RowKit Go.Qc Go.Shelf
attribute [local go_sem] txt_size txt_append ib_fold txt_toL

end Go.Proofs.YtemdmdgigmhlbaaGreat

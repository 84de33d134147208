
/- path: letters, parts, pieces, paths, prefixes -/
import Derived.Test.YtcfcabhmdjoeeaaDoorRows
import Derived.Test.YtcfcabhmdjoeeaaDoorKit6
import Derived.Shelf.Strings.Search3
import Derived.Shelf.Strings.LastIndex
import Derived.Shelf.Small.Wraps
import Derived.Shelf.Slices.Equal
import Derived.Shelf.Slices.Empties2
import Derived.RangeFuncNested
import Derived.RangeFuncCalls
import Derived.RangeFuncLeaves
import Derived.RangeFuncBox
import Derived.Maps.AppendAt
import Derived.Shelf.Abstract
import Derived.Shelf.RegionOpen
import Derived.WalkKit
import Derived.OwnWalkIn
import Derived.TacticsInMore
import Derived.LoopNIn
import Derived.LoopIn
set_option linter.unusedSimpArgs false
set_option linter.unusedVariables false
namespace Go.Proofs.YtcfcabhmdjoeeaaDoor
open Go.RowKit Go.Qc
attribute [local go_sem] txt_size txt_append ib_fold
theorem txt_lp (l : List UInt8) : ∀ (k i : Nat) (r : List UInt8), l.length - i = k → ByteArray.toList.loop (txt l) i r = r.reverse ++ l.drop i := by
  intro k
  induction k with
  | zero =>
    intro i r h
    unfold ByteArray.toList.loop
    rw [if_neg (by rw [txt_size]; omega), List.drop_of_length_le (by omega), List.append_nil]
  | succ k ih =>
    intro i r h
    unfold ByteArray.toList.loop
    rw [if_pos (by rw [txt_size]; omega), ih (i + 1) _ (by omega), List.reverse_cons, List.append_assoc]
    have hi : i < l.length := by omega
    have hg : (txt l).get! i = l[i] := by
      show l.toArray[i]! = l[i]
      simp [hi]
    rw [hg, List.drop_eq_getElem_cons hi]
    rfl
theorem txt_toL (l : List UInt8) : (txt l).toList = l := by
  unfold ByteArray.toList
  rw [txt_lp l _ 0 [] rfl]
  rfl
attribute [local go_sem] txt_toL

theorem run_index_str (l : List UInt8) (n : Nat) (x : UInt8) (hx : l[n]? = some x) (z : Int) (hz : z = n) (w : World) : (Instr.index 9 (.string (txt l)) (.int .i64 z)).run Tryd.prog w = .ok (.int .u8 (ib x)) w := by
  subst hz
  have hn : n < l.length := (List.getElem?_eq_some_iff.1 hx).1
  have h1 : (0 : Int) ≤ (n : Int) ∧ (n : Int) < ((txt l).size : Nat) := by rw [txt_size]; omega
  have hg : (txt l)[n]? = some x := by
    rw [getElem?_pos (txt l) n (by rw [txt_size]; exact hn)]
    congr 1
    exact txt_get rfl hx _
  simp [Instr.index, asIntOf, run_underlying Tryd.underlying9, h1, hg]
  rfl

end Go.Proofs.YtcfcabhmdjoeeaaDoor

namespace Go.Proofs.YtcfcabhmdjoeeaaDoor
open Go.RowKit Go.Qc Go.Shelf
attribute [local go_sem] txt_size txt_append ib_fold txt_toL
def lays144_ren : Go.Shelf.Ren := ⟨fun | 144 => 27 | 143 => 23 | 219 => 35 | 217 => 41 | 225 => 42 | 224 => 43 | 267 => 44 | 266 => 46 | 314 => 47 | n => n, fun | 9 => 9 | 4 => 4 | 3 => 3 | 5 => 5 | 46 => 68 | 146 => 72 | 51 => 71 | n => n, fun | 1 => 0 | n => n⟩
theorem lays144 : Go.Proofs.Lays.n144 Tryd.prog lays144_ren := {
  mixed := by kernel_rfl
  f143 := Tryd.func23.trans (congrArg some (by kernel_rfl))
  f144 := Tryd.func27.trans (congrArg some (by kernel_rfl))
  f217 := Tryd.func41.trans (congrArg some (by kernel_rfl))
  f219 := Tryd.func35.trans (congrArg some (by kernel_rfl))
  f224 := Tryd.func43.trans (congrArg some (by kernel_rfl))
  f225 := Tryd.func42.trans (congrArg some (by kernel_rfl))
  f266 := Tryd.func46.trans (congrArg some (by kernel_rfl))
  f267 := Tryd.func44.trans (congrArg some (by kernel_rfl))
  f314 := Tryd.func47.trans (congrArg some (by kernel_rfl))
  t3 := Tryd.underlying3
  a3 := Tryd.isAgg3
  z3 := Tryd.sizeOf3
  v3 := Tryd.zeroValue3
  t4 := Tryd.underlying4
  a4 := Tryd.isAgg4
  z4 := Tryd.sizeOf4
  v4 := Tryd.zeroValue4
  t5 := Tryd.underlying5
  a5 := Tryd.isAgg5
  z5 := Tryd.sizeOf5
  v5 := Tryd.zeroValue5
  t9 := Tryd.underlying9
  a9 := Tryd.isAgg9
  z9 := Tryd.sizeOf9
  v9 := Tryd.zeroValue9
  t46 := Tryd.underlying68
  a46 := Tryd.isAgg68
  z46 := Tryd.sizeOf68
  v46 := Tryd.zeroValue68
  t51 := Tryd.underlying71
  a51 := Tryd.isAgg71
  z51 := Tryd.sizeOf71
  v51 := Tryd.zeroValue71
  t146 := Tryd.underlying72
  a146 := Tryd.isAgg72
  z146 := Tryd.sizeOf72
  v146 := Tryd.zeroValue72
  g1 := by kernel_rfl }
theorem txt_data (l : List UInt8) : (txt l).data.toList = l := by simp [txt]
/-! ### a text in parts -/
end Go.Proofs.YtcfcabhmdjoeeaaDoor

namespace Go.Proofs.YtcfcabhmdjoeeaaDoor
open Go.RowKit Go.Qc Go.Shelf
attribute [local go_sem] txt_size txt_append ib_fold txt_toL
attribute [local go_sem] Oper.semAt_some

end Go.Proofs.YtcfcabhmdjoeeaaDoor

namespace Go.Proofs.YtcfcabhmdjoeeaaDoor
open Go.RowKit Go.Qc Go.Shelf
attribute [local go_sem] txt_size txt_append ib_fold txt_toL
attribute [local go_sem] Oper.semAt_some

end Go.Proofs.YtcfcabhmdjoeeaaDoor

namespace Go.Proofs.YtcfcabhmdjoeeaaDoor
open Go.RowKit Go.Qc Go.Shelf
attribute [local go_sem] txt_size txt_append ib_fold txt_toL
attribute [local go_sem] Oper.semAt_some

theorem infoString : (Tryd.prog.info? 9).map (fun i => (i.zero, i.size, i.bytes)) = some (some (.string ⟨#[]⟩), 1, 16) := by kernel_rfl
end Go.Proofs.YtcfcabhmdjoeeaaDoor

namespace Go.Proofs.YtcfcabhmdjoeeaaDoor
open Go.RowKit Go.Qc Go.Shelf
attribute [local go_sem] txt_size txt_append ib_fold txt_toL

end Go.Proofs.YtcfcabhmdjoeeaaDoor

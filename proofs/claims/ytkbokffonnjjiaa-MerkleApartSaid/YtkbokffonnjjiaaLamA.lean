
/- lamport: secrets, leaves and what they lean on. -/
import Derived.Test.YtkbokffonnjjiaaId7
import Derived.Test.YtkbokffonnjjiaaTag4
import Derived.Great.BuildSlice
set_option linter.unusedSimpArgs false
set_option linter.unusedVariables false
namespace Go.Proofs.Ytkbokffonnjjiaa
open Go.RowKit Go.Qc
attribute [local go_sem] txt_size txt_append ib_fold

/-! ### secrets -/
end Go.Proofs.Ytkbokffonnjjiaa

namespace Go.Proofs.Ytkbokffonnjjiaa
open Go.RowKit Go.Qc
attribute [local go_sem] txt_size txt_append ib_fold

/-! ### public sums -/
/-! ### right bits -/
end Go.Proofs.Ytkbokffonnjjiaa

namespace Go.Proofs.Ytkbokffonnjjiaa
open Go.RowKit Go.Qc
attribute [local go_sem] txt_size txt_append ib_fold

/-! ### a slice literal of ids -/
theorem put_get (off : Nat) : ∀ (l : List Value) (k : Nat) (cs : Array Value), off + k + l.length ≤ cs.size →
    ((l.zipIdx k).foldl (fun cs x => cs.setIfInBounds (off + x.2) x.1) cs).size = cs.size ∧ ∀ i, ((l.zipIdx k).foldl (fun cs x => cs.setIfInBounds (off + x.2) x.1) cs)[i]? = if off + k ≤ i ∧ i < off + k + l.length then l[i - off - k]? else cs[i]?
  | [], k, cs, _ => ⟨rfl, fun i => by simp; omega⟩
  | v :: l, k, cs, h => by
    simp only [List.length_cons] at h
    obtain ⟨h1, h2⟩ := put_get off l (k + 1) (cs.setIfInBounds (off + k) v) (by simp; omega)
    rw [List.zipIdx_cons, List.foldl_cons]
    refine ⟨by rw [h1]; simp, fun i => ?_⟩
    rw [h2]
    simp only [List.length_cons]
    by_cases c1 : off + (k + 1) ≤ i ∧ i < off + (k + 1) + l.length
    · rw [if_pos c1, if_pos (by omega), show i - off - k = (i - off - (k + 1)) + 1 by omega, List.getElem?_cons_succ]
    · rw [if_neg c1, Array.getElem?_setIfInBounds]
      by_cases c2 : off + k = i
      · subst c2
        rw [if_pos rfl, if_pos (by omega), if_pos (by omega), show off + k - off - k = 0 by omega]; rfl
      · rw [if_neg c2, if_neg (by omega)]
theorem put_get_arr (off : Nat) (X : List UInt8) (cs : Array Value) (h : off + X.length ≤ cs.size) :
    ((idVals X).zipIdx.foldl (fun cs (c, j) => cs.setIfInBounds (off + j) c) cs).size = cs.size ∧ ∀ i, ((idVals X).zipIdx.foldl (fun cs (c, j) => cs.setIfInBounds (off + j) c) cs)[i]? = if off ≤ i ∧ i < off + X.length then (X.map u8v)[i - off]? else cs[i]? := by
  have := put_get off (X.map u8v) 0 cs (by rw [List.length_map]; omega)
  rw [List.length_map, Nat.add_zero, show ((X.map u8v).zipIdx 0).foldl (fun cs x => cs.setIfInBounds (off + x.2) x.1) cs = (idVals X).zipIdx.foldl (fun cs (c, j) => cs.setIfInBounds (off + j) c) cs by unfold idVals; simp] at this
  exact this
end Go.Proofs.Ytkbokffonnjjiaa

namespace Go.Proofs.Ytkbokffonnjjiaa
open Go.RowKit Go.Qc
attribute [local go_sem] txt_size txt_append ib_fold

/-! ### the leaf's own public sums -/
/-- The worlds behind Leaf's three variables. -/
def w3 (w : World) (s : List UInt8) (lf : Int) (zc : Array Value) : World := ((w.alloc (.cells #[.string (txt s)] 9)).alloc (.cells #[.int .i64 lf] 3)).alloc (.cells zc 24)
/-! ### the document's -/
end Go.Proofs.Ytkbokffonnjjiaa

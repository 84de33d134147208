
/- lamport: secrets, leaves and what they lean on. -/
import Derived.Test.YtkajfpincbkfhaaId7
import Derived.Test.YtkajfpincbkfhaaTag4
import Derived.Great.BuildSlice
set_option linter.unusedSimpArgs false
set_option linter.unusedVariables false
namespace Go.Proofs.Ytkajfpincbkfhaa
open Go.RowKit Go.Qc
attribute [local go_sem] txt_size txt_append ib_fold

/-! ### secrets -/
end Go.Proofs.Ytkajfpincbkfhaa

namespace Go.Proofs.Ytkajfpincbkfhaa
open Go.RowKit Go.Qc
attribute [local go_sem] txt_size txt_append ib_fold

/-! ### public sums -/
/-! ### right bits -/
end Go.Proofs.Ytkajfpincbkfhaa

namespace Go.Proofs.Ytkajfpincbkfhaa
open Go.RowKit Go.Qc
attribute [local go_sem] txt_size txt_append ib_fold

/-! ### a slice literal of ids -/
theorem put_get (off : Nat) : ∀ (l : List Value) (k : Nat) (cs : Array Value), off + k + l.length ≤ cs.size →
    ((l.zipIdx k).foldl (fun cs x => cs.setIfInBounds (off + x.2) x.1) cs).size = cs.size ∧ ∀ i, ((l.zipIdx k).foldl (fun cs x => cs.setIfInBounds (off + x.2) x.1) cs)[i]? = if off + k ≤ i ∧ i < off + k + l.length then l[i - off - k]? else cs[i]?
  | [], k, cs, _ => ⟨rfl, fun i => by simp; omega⟩
  | v :: l, k, cs, h => by
    simp only [List.length_cons] at h
    obtain ⟨h1, h2⟩ := put_get off l (k + 1) (cs.setIfInBounds (off + k) v) (by simp; omega)
    rw [List.zipIdx_cons, List.foldl_cons]
    refine ⟨by rw [h1]; simp, fun i => ?_⟩
    rw [h2]
    simp only [List.length_cons]
    by_cases c1 : off + (k + 1) ≤ i ∧ i < off + (k + 1) + l.length
    · rw [if_pos c1, if_pos (by omega), show i - off - k = (i - off - (k + 1)) + 1 by omega, List.getElem?_cons_succ]
    · rw [if_neg c1, Array.getElem?_setIfInBounds]
      by_cases c2 : off + k = i
      · subst c2
        rw [if_pos rfl, if_pos (by omega), if_pos (by omega), show off + k - off - k = 0 by omega]; rfl
      · rw [if_neg c2, if_neg (by omega)]
theorem put_get_arr (off : Nat) (X : List UInt8) (cs : Array Value) (h : off + X.length ≤ cs.size) :
    ((idVals X).zipIdx.foldl (fun cs (c, j) => cs.setIfInBounds (off + j) c) cs).size = cs.size ∧ ∀ i, ((idVals X).zipIdx.foldl (fun cs (c, j) => cs.setIfInBounds (off + j) c) cs)[i]? = if off ≤ i ∧ i < off + X.length then (X.map u8v)[i - off]? else cs[i]? := by
  have := put_get off (X.map u8v) 0 cs (by rw [List.length_map]; omega)
  rw [List.length_map, Nat.add_zero, show ((X.map u8v).zipIdx 0).foldl (fun cs x => cs.setIfInBounds (off + x.2) x.1) cs = (idVals X).zipIdx.foldl (fun cs (c, j) => cs.setIfInBounds (off + j) c) cs by unfold idVals; simp] at this
  exact this
theorem wpList_build2 {w : World} {ops : Array Oper} {rest : List Oper} {o : Oper} {a : Act} {Q : Exit → Act → World → Prop} (hgd : o.guard = none) (x y : Operand) (ho : o.op = .buildSlice 22 2 #[(0, x), (1, y)])
    (X Y : List UInt8) (lx : X.length = 32) (ly : Y.length = 32) (hx : a.eval x = .agg (idVals X)) (hy : a.eval y = .agg (idVals Y))
    (h : ∀ cs, (∀ j u, (X.map u8v ++ Y.map u8v)[j]? = some u → (w.alloc (.cells cs 24)).cell? ((⟨w.heap.size, 0, none⟩ : Addr).add j) = some u) → wpList Try.prog ops Q rest (a.put o.dst (.slice (some ⟨w.heap.size, 0, none⟩) 2 2)) (w.alloc (.cells cs 24))) :
    wpList Try.prog ops Q (o :: rest) a w := by
  obtain ⟨j0, hj, hjz, hjs, hjb⟩ := infoId2_parts
  obtain ⟨zs, hzs⟩ : ∃ zs : Array Value, zs = (Array.range (2 * j0.size)).map ((Value.agg (idVals zeroB)).cells[· % (Value.agg (idVals zeroB)).cells.size]!) := ⟨_, rfl⟩
  have hz : zs.size = 64 := by rw [hzs, hjs]; simp
  obtain ⟨s1, g1⟩ := put_get_arr 0 X zs (by rw [hz, lx]; decide)
  generalize hc1 : (idVals X).zipIdx.foldl (fun cs (c, j) => cs.setIfInBounds (0 + j) c) zs = c1 at s1 g1
  obtain ⟨s2, g2⟩ := put_get_arr 32 Y c1 (by rw [s1, hz, ly]; decide)
  generalize hc2 : (idVals Y).zipIdx.foldl (fun cs (c, j) => cs.setIfInBounds (32 + j) c) c1 = c2 at s2 g2
  refine wpList_buildSlice hgd 22 24 2 #[(0, x), (1, y)] ho c2 j0 (.agg (idVals zeroB)) Try.underlying22 hj hjz (by rw [hjs]; decide) (by rw [hjs]; decide) ?_ (h c2 ?_)
  · rw [← hzs, hjs]
    have e1 : (Value.agg (idVals X)).cells = idVals X := rfl
    have e2 : (Value.agg (idVals Y)).cells = idVals Y := rfl
    simp only [List.map_toArray, List.map_cons, List.map_nil, hx, hy, Instr.fill, e1, e2, idVals_size, lx, ly, hz]
    rw [if_neg (by decide)]
    simp only [Nat.zero_mul, Nat.one_mul]
    rw [hc1, s1, hz, if_neg (by decide), hc2]
  · intro j u hj'
    have hlt : j < 64 := by have := (List.getElem?_eq_some_iff.1 hj').1; simp [lx, ly] at this; omega
    rw [Addr.add_lit, Nat.zero_add, cell_of_row _ _ j _ _ _ (heap_alloc_new w _), g2, ly]
    by_cases c : 32 ≤ j
    · rw [if_pos (by omega), ← hj', List.getElem?_append_right (by rw [List.length_map, lx]; exact c), List.length_map, lx]
    · rw [if_neg (by omega), g1, lx, if_pos (by omega), ← hj', List.getElem?_append_left (by rw [List.length_map, lx]; omega), Nat.sub_zero]
end Go.Proofs.Ytkajfpincbkfhaa

namespace Go.Proofs.Ytkajfpincbkfhaa
open Go.RowKit Go.Qc
attribute [local go_sem] txt_size txt_append ib_fold

/-! ### the leaf's own public sums -/
/-- The worlds behind Leaf's three variables. -/
def w3 (w : World) (s : List UInt8) (lf : Int) (zc : Array Value) : World := ((w.alloc (.cells #[.string (txt s)] 9)).alloc (.cells #[.int .i64 lf] 3)).alloc (.cells zc 24)
/-! ### the document's -/
end Go.Proofs.Ytkajfpincbkfhaa

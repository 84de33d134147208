
/- A row of two operations; few; the chapter's example. -/
import Derived.Test.YtodfaakodgedbaaCm3
import Derived.Test.YtodfaakodgedbaaLamA
set_option linter.unusedSimpArgs false
set_option linter.unusedVariables false
namespace Go.Proofs.Ytodfaakodgedbaa
open Go.RowKit Go.Qc Go.Shelf
attribute [local go_sem] txt_size txt_append ib_fold txt_toL

set_option maxRecDepth 100000 in
set_option maxHeartbeats 40000000 in
theorem infoOp2 : (Try.prog.info? 40).map (fun i => (i.zero, i.size)) = some (some (.agg #[.int .i64 0, .string ⟨#[]⟩, .string ⟨#[]⟩, .int .i64 0, .slice none 0 0, .slice none 0 0, .int .u8 0, .int .u8 0, .int .u8 0, .int .u8 0, .int .u8 0, .int .u8 0, .int .u8 0, .int .u8 0, .int .u8 0, .int .u8 0, .int .u8 0, .int .u8 0, .int .u8 0, .int .u8 0, .int .u8 0, .int .u8 0, .int .u8 0, .int .u8 0, .int .u8 0, .int .u8 0, .int .u8 0, .int .u8 0, .int .u8 0, .int .u8 0, .int .u8 0, .int .u8 0, .int .u8 0, .int .u8 0, .int .u8 0, .int .u8 0, .int .u8 0, .int .u8 0, .int .i64 0]), 39) := by kernel_rfl
theorem infoOp2_parts : ∃ i Z, Try.prog.info? 40 = some i ∧ i.zero = some (.agg Z) ∧ i.size = 39 ∧ Z.size = 39 := by
  have h := infoOp2
  cases hq : Try.prog.info? 40 with
  | none => rw [hq] at h; cases h
  | some i => rw [hq] at h; simp only [Option.map_some, Option.some.injEq, Prod.mk.injEq] at h; exact ⟨i, _, rfl, h.1, h.2, rfl⟩
theorem put_get_A (off : Nat) (X : Array Value) (cs : Array Value) (h : off + X.size ≤ cs.size) :
    (X.zipIdx.foldl (fun cs (c, j) => cs.setIfInBounds (off + j) c) cs).size = cs.size ∧ ∀ i, (X.zipIdx.foldl (fun cs (c, j) => cs.setIfInBounds (off + j) c) cs)[i]? = if off ≤ i ∧ i < off + X.size then X.toList[i - off]? else cs[i]? := by
  have := put_get off X.toList 0 cs (by rw [Array.length_toList]; omega)
  rw [Array.length_toList, Nat.add_zero, show ((X.toList).zipIdx 0).foldl (fun cs x => cs.setIfInBounds (off + x.2) x.1) cs = X.zipIdx.foldl (fun cs (c, j) => cs.setIfInBounds (off + j) c) cs by rw [← Array.foldl_toList, Array.toList_zipIdx]] at this
  exact this
theorem wpList_build2o {w : World} {ops : Array Oper} {rest : List Oper} {o : Oper} {a : Act} {Q : Exit → Act → World → Prop} (hgd : o.guard = none) (x y : Operand) (ho : o.op = .buildSlice 22 2 #[(0, x), (1, y)])
    (X Y : Array Value) (lx : X.size = 39) (ly : Y.size = 39) (hx : a.eval x = .agg X) (hy : a.eval y = .agg Y)
    (h : ∀ cs, (w.alloc (.cells cs 40)).rangeAt w.heap.size 0 X.toList → (w.alloc (.cells cs 40)).rangeAt w.heap.size 39 Y.toList → wpList Try.prog ops Q rest (a.put o.dst (.slice (some ⟨w.heap.size, 0, none⟩) 2 2)) (w.alloc (.cells cs 40))) :
    wpList Try.prog ops Q (o :: rest) a w := by
  obtain ⟨j0, Z, hj, hjz, hjs, hZ⟩ := infoOp2_parts
  obtain ⟨zs, hzs⟩ : ∃ zs : Array Value, zs = (Array.range (2 * j0.size)).map ((Value.agg Z).cells[· % (Value.agg Z).cells.size]!) := ⟨_, rfl⟩
  have hz : zs.size = 78 := by rw [hzs, hjs]; simp
  obtain ⟨s1, g1⟩ := put_get_A 0 X zs (by rw [hz, lx]; decide)
  generalize hc1 : X.zipIdx.foldl (fun cs (c, j) => cs.setIfInBounds (0 + j) c) zs = c1 at s1 g1
  obtain ⟨s2, g2⟩ := put_get_A 39 Y c1 (by rw [s1, hz, ly]; decide)
  generalize hc2 : Y.zipIdx.foldl (fun cs (c, j) => cs.setIfInBounds (39 + j) c) c1 = c2 at s2 g2
  refine wpList_buildSlice hgd 22 40 2 #[(0, x), (1, y)] ho c2 j0 (.agg Z) Try.underlying22 hj hjz (by rw [hjs]; decide) (by rw [hjs]; decide) ?_ (h c2 ?_ ?_)
  · rw [← hzs, hjs]
    have e1 : (Value.agg X).cells = X := rfl
    have e2 : (Value.agg Y).cells = Y := rfl
    simp only [List.map_toArray, List.map_cons, List.map_nil, hx, hy, Instr.fill, e1, e2, lx, ly, hz]
    rw [if_neg (by decide)]
    simp only [Nat.zero_mul, Nat.one_mul]
    rw [hc1, s1, hz, if_neg (by decide), hc2]
  · intro j u hj'
    have hlt : j < 39 := by have := (List.getElem?_eq_some_iff.1 hj').1; rw [Array.length_toList, lx] at this; exact this
    rw [cell_of_row _ _ _ _ _ _ (heap_alloc_new w _), Nat.zero_add, g2, if_neg (by omega), g1, lx, if_pos (by omega), Nat.sub_zero]
    exact hj'
  · intro j u hj'
    have hlt : j < 39 := by have := (List.getElem?_eq_some_iff.1 hj').1; rw [Array.length_toList, ly] at this; exact this
    rw [cell_of_row _ _ _ _ _ _ (heap_alloc_new w _), g2, ly, if_pos (by omega), show 39 + j - 39 = j by omega]
    exact hj'
theorem wpList_load_opr {ops : Array Oper} {rest : List Oper} {o : Oper} {a : Act} {w : World} {Q : Exit → Act → World → Prop} (hw : Region.wanted o (yielded ops a.tmps) = true) (x : Operand) (ho : o.op = .load 40 x)
    (g q : Nat) (hx : a.eval x = .pointer (some ⟨g, q, none⟩)) {D : OpD} {A : Option Addr} {n c : Nat} {B : Option Addr} {m d : Nat} (hX : w.rangeAt g q (opC D A n c B m d).toList) (hK : D.K.length = 32)
    (h : wpList Try.prog ops Q rest (a.put o.dst (.agg (opC D A n c B m d))) w) : wpList Try.prog ops Q (o :: rest) a w := by
  refine wpList_load_if hw 40 x ho g q hx (opC D A n c B m d).toList _ hX Try.underlying40 rfl ?_ ?_
  · rw [infoOp, Array.length_toList, opC_size _ _ _ _ _ _ _ hK]
  · rw [Array.toArray_toList]; exact h
theorem wpList_store_opn {w : World} {ops : Array Oper} {rest : List Oper} {o : Oper} {a : Act} {Q : Exit → Act → World → Prop} {old : Array Value} (hgd : o.guard = none) (x y : Operand) (ho : o.op = .store 40 x y)
    {D : OpD} {A : Option Addr} {n c : Nat} {B : Option Addr} {m d : Nat} (hx : a.eval x = .pointer (some ⟨w.heap.size, 0, none⟩)) (hy : a.eval y = .agg (opC D A n c B m d)) (hK : D.K.length = 32) (hs : old.size = 39)
    (h : wpList Try.prog ops Q rest (a.put o.dst undef) (w.alloc (.cells (opC D A n c B m d) 40))) : wpList Try.prog ops Q (o :: rest) a (w.alloc (.cells old 40)) :=
  wpList_store_new hgd 40 x y ho (opC D A n c B m d) hx hy (opC_info _ _ _ _ _ _ _ hK) (by rw [opC_size _ _ _ _ _ _ _ hK, hs]) (opC_one _ _ _ _ _ _ _) h
set_option maxRecDepth 100000 in
set_option maxHeartbeats 40000000 in
theorem opP_lit (p : List UInt8) : opC ⟨1, p, [], 0, [], [], zeroB, 0⟩ none 0 0 none 0 0 = #[.int .i64 1, .string (txt p), .string ⟨#[]⟩, .int .i64 0, .slice none 0 0, .slice none 0 0, .int .u8 0, .int .u8 0, .int .u8 0, .int .u8 0, .int .u8 0, .int .u8 0, .int .u8 0, .int .u8 0, .int .u8 0, .int .u8 0, .int .u8 0, .int .u8 0, .int .u8 0, .int .u8 0, .int .u8 0, .int .u8 0, .int .u8 0, .int .u8 0, .int .u8 0, .int .u8 0, .int .u8 0, .int .u8 0, .int .u8 0, .int .u8 0, .int .u8 0, .int .u8 0, .int .u8 0, .int .u8 0, .int .u8 0, .int .u8 0, .int .u8 0, .int .u8 0, .int .i64 0] := by
  unfold opC
  rw [zeroB_vals]
  simp
  try rfl
theorem build_opP (p : List UInt8) (W : World) : (Instr.build 40 #[(0, .int .i64 1), (1, .string (txt p))]).run Try.prog W = .ok (.agg (opC ⟨1, p, [], 0, [], [], zeroB, 0⟩ none 0 0 none 0 0)) W := by
  rw [opP_lit]
  generalize txt p = s
  kernel_rfl
theorem wpList_build_opP {w : World} {ops : Array Oper} {rest : List Oper} {o : Oper} {a : Act} {Q : Exit → Act → World → Prop} (hgd : o.guard = none) (x : Operand) (ho : o.op = .build 40 #[(0, .const (.int .i64 1)), (1, x)]) (p : List UInt8) (hx : a.eval x = .string (txt p))
    (h : wpList Try.prog ops Q rest (a.put o.dst (.agg (opC ⟨1, p, [], 0, [], [], zeroB, 0⟩ none 0 0 none 0 0))) w) : wpList Try.prog ops Q (o :: rest) a w := by
  refine wpList_plain hgd fun K' hK' => ?_
  have hr := build_opP p w
  unfold Oper.wp
  simp only [execOp, ho]
  simp only [Sem.run_bind, List.map_toArray, List.map_cons, List.map_nil, hx]
  simp only [Act.eval, hr, Result.andThen, Sem.run_pure]
  exact hK' _ _ h
end Go.Proofs.Ytodfaakodgedbaa


/- Proved: for any root and any two rows of acts quitclaimlaw19.GrantClones returns true and leaves its arguments as they were. No conditions. -/
import Derived.Test.YtapgiagpjplpdaaGreatRk12
import Derived.Test.YtapgiagpjplpdaaGreatRows
import Derived.ChangeShapes
import Derived.Deep.DeepCutAuto
set_option linter.unusedSimpArgs false
set_option linter.unusedVariables false
namespace Go.Proofs.YtapgiagpjplpdaaGreat
open Go.RowKit Go.Qc Go.Shelf
attribute [local go_sem] txt_size txt_append ib_fold txt_toL
/-- An act's box. -/
structure AcXC (W : World) (g : Nat) (X : AcV) : Prop where
  b : Blk W g 36 X.cs
theorem AcXC.below {W W' : World} {g : Nat} {X : AcV} (h : AcXC W g X) (hb : Below W.heap.size W W') : AcXC W' g X := ⟨h.b.below hb⟩
theorem AcXC.by_ {W : World} {g : Nat} {X : AcV} (h : AcXC W g X) : W.rangeAt g 0 (X.y.map u8v) := fun j u hj => h.b.cell_ (by
  rw [Nat.zero_add]
  unfold AcV.cs
  have := (List.getElem?_eq_some_iff.1 hj).1
  rw [Array.getElem?_append_left (by rw [idVals_size]; rwa [List.length_map] at this)]
  unfold idVals
  rw [List.getElem?_toArray]; exact hj)
theorem AcXC.op_ {W : World} {g : Nat} {X : AcV} (h : AcXC W g X) (hK : X.ok) : W.rangeAt g 32 (opC X.D X.A X.n X.c X.B X.m X.d).toList := fun j u hj => h.b.cell_ (by
  unfold AcV.cs AcV.op
  rw [Array.getElem?_append_right (by rw [idVals_size, hK.1]; omega), idVals_size, hK.1, Nat.add_sub_cancel_left, ← Array.getElem?_toList]; exact hj)
theorem wpList_load_acrC {w : World} {ops : Array Oper} {rest : List Oper} {o : Oper} {a : Act} {Q : Exit → Act → World → Prop} (hgd : Region.wanted o (yielded ops a.tmps) = true) (x : Operand) (ho : o.op = .load 36 x)
    (g q : Nat) {X : AcV} (hx : a.eval x = .pointer (some ⟨g, q, none⟩)) (hr : w.rangeAt g q X.cs.toList) (hK : X.ok)
    (h : wpList Tryz.prog ops Q rest (a.put o.dst (.agg X.cs)) w) : wpList Tryz.prog ops Q (o :: rest) a w := by
  refine wpList_load_if hgd 36 x ho g q hx X.cs.toList _ hr Tryz.underlying36 rfl ?_ ?_
  · rw [Ac_info X hK, Array.length_toList]
  · rw [Array.toArray_toList]; exact h
theorem wpList_store_acnC {w : World} {ops : Array Oper} {rest : List Oper} {o : Oper} {a : Act} {Q : Exit → Act → World → Prop} {old : Array Value} (hgd : o.guard = none) (x y : Operand) (ho : o.op = .store 36 x y)
    {X : AcV} (hx : a.eval x = .pointer (some ⟨w.heap.size, 0, none⟩)) (hy : a.eval y = .agg X.cs) (hK : X.ok) (hs : old.size = 71)
    (h : wpList Tryz.prog ops Q rest (a.put o.dst undef) (w.alloc (.cells X.cs 36))) : wpList Tryz.prog ops Q (o :: rest) a (w.alloc (.cells old 36)) :=
  wpList_store_new hgd 36 x y ho X.cs hx hy (Ac_info X hK) (by rw [AcV.size hK, hs]) X.one h
theorem wpList_load_opGC {ops : Array Oper} {rest : List Oper} {o : Oper} {a : Act} {w : World} {Q : Exit → Act → World → Prop} (hw : Region.wanted o (yielded ops a.tmps) = true) (x : Operand) (ho : o.op = .load 34 x)
    (g q : Nat) (hx : a.eval x = .pointer (some ⟨g, q, none⟩)) {D : OpD} {A : Option Addr} {n c : Nat} {B : Option Addr} {m d : Nat} (hX : w.rangeAt g q (opC D A n c B m d).toList) (hK : D.K.length = 32)
    (h : wpList Tryz.prog ops Q rest (a.put o.dst (.agg (opC D A n c B m d))) w) : wpList Tryz.prog ops Q (o :: rest) a w := by
  refine wpList_load_if hw 34 x ho g q hx (opC D A n c B m d).toList _ hX Tryz.underlying34 rfl ?_ ?_
  · rw [infoOp, Array.length_toList, opC_size _ _ _ _ _ _ _ hK]
  · rw [Array.toArray_toList]; exact h
theorem lngG_boundsC {D : OpD} (h : lngO D = false) : D.o.length ≤ 40 ∧ D.n.length ≤ 40 := by
  unfold lngO at h
  simp only [Bool.or_eq_false_iff, decide_eq_false_iff_not] at h
  omega
theorem lngC_p {D : OpD} (h : lngO D = false) : D.p.length ≤ 300 ∧ D.t.length ≤ 300 ∧ (∀ x ∈ D.o, x.length ≤ 300) ∧ (∀ x ∈ D.n, x.length ≤ 300) := by
  unfold lngO at h
  simp only [Bool.or_eq_false_iff, decide_eq_false_iff_not] at h
  obtain ⟨h1, h2, h3, h4, h5⟩ := h
  rw [List.any_eq_false] at h5
  refine ⟨by omega, by omega, fun x hx => ?_, fun x hx => ?_⟩
  · have := h5 D.o (by simp)
    rw [List.any_eq_true] at this
    have h6 : ¬ 300 < x.length := fun h => this ⟨x, hx, decide_eq_true h⟩
    omega
  · have := h5 D.n (by simp)
    rw [List.any_eq_true] at this
    have h6 : ¬ 300 < x.length := fun h => this ⟨x, hx, decide_eq_true h⟩
    omega
theorem keep_startC (root : List UInt8) : KeepG root [] := ⟨fun _ h => by simp at h, fun _ h => by simp at h, by simp⟩
/-- The state of a walk: a table of the program's, and the document's. -/
structure GcS (u0 : World) (tb bx : Nat) (root : List UInt8) (W : World) (v : Value) (Ys Zs : List GrD) : Prop where
  T : TbS W tb root Zs
  x : TbK W bx root v
  r : RkT W v Ys
  b : Below u0.heap.size u0 W
  n1 : u0.heap.size ≤ tb
  n2 : tb < bx
section
variable {u0 : World} {tb bx : Nat} {root : List UInt8} {W W' : World} {v v' : Value} {Ys Zs Ys' Zs' : List GrD}
theorem GcS.below (h : GcS u0 tb bx root W v Ys Zs) (hb : Below W.heap.size W W') : GcS u0 tb bx root W' v Ys Zs :=
  ⟨h.T.below hb, h.x.below hb, h.r.below hb, h.b.trans (hb.mono h.b.size), h.n1, h.n2⟩
theorem GcS.t (h : GcS u0 tb bx root W v Ys Zs) (hT : TbS W' tb root Zs') (hg : W.grownBy W' (some tb)) : GcS u0 tb bx root W' v Ys Zs' := by
  have h2 := h.n2
  obtain ⟨A, n, c, hk⟩ := h.T.blk
  exact ⟨hT, ⟨blk_grown h.x.b hg (by omega)⟩, h.r.apart hk (row_str root A n c) hg, below_grownS h.b hg h.n1, h.n1, h.n2⟩
theorem GcS.put (h : GcS u0 tb bx root W v Ys Zs) (hr : RkT W v' Ys') (hx : TbK W' bx root v') (hg : W.grownBy W' (some bx)) : GcS u0 tb bx root W' v' Ys' Zs := by
  have h2 := h.n2
  have h1 := h.n1
  obtain ⟨A, c, rfl, _⟩ := h.r
  exact ⟨h.T.apart h.x.b (by decide) (by omega) hg, hx, hr.apart h.x.b (row_str root A _ c) hg, below_grownS h.b hg (by omega), h.n1, h.n2⟩
end

theorem RkT.at_ {W : World} {A : Option Addr} {n c : Nat} {Ys : List GrD} (h : RkT W (.slice A n c) Ys) : GrRd W A Ys := by
  obtain ⟨A', c', e, hr⟩ := h
  cases e
  exact hr

open Go.ChangeShapes Go.WideShapes Go.ChangeAt
open Go.ChangeMaps (open_string shut_string)
end Go.Proofs.YtapgiagpjplpdaaGreat

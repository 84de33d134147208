
/- merkle: places, placed, Prove, the chapter's example -/
import Derived.Test.YtkajfpincbkfhaaMkA
import Derived.Great.BuildSlice
import Derived.Test.YtkajfpincbkfhaaLamA
import Derived.Test.YtkajfpincbkfhaaId12
import Derived.Test.YtkajfpincbkfhaaId6
set_option linter.unusedSimpArgs false
set_option linter.unusedVariables false
namespace Go.Proofs.Ytkajfpincbkfhaa
open Go.RowKit Go.Qc Go.Shelf
attribute [local go_sem] txt_size txt_append ib_fold
/-- A place as data: its id, its number, where its way lies. -/
structure PlD where
  a : List UInt8
  t : Int
  A : Option Addr
  n : Nat
  c : Nat
def PlD.ok (X : PlD) : Prop := X.a.length = 32
def PlD.cs (X : PlD) : Array Value := idVals X.a ++ #[.int .i64 X.t, .slice X.A X.n X.c]
theorem PlD.size {X : PlD} (h : X.ok) : X.cs.size = 34 := by unfold PlD.cs; simp [idVals_size]; exact h
theorem PlD.one (X : PlD) : X.cs.all (·.oneCell') = true := by
  unfold PlD.cs
  rw [Array.all_append, idVals_one]
  simp [Value.oneCell']
def plsV (Xs : List PlD) : List Value := Xs.flatMap (fun X => X.cs.toList)
theorem plsV_cons (X : PlD) (Xs : List PlD) : plsV (X :: Xs) = X.cs.toList ++ plsV Xs := by simp [plsV]
theorem plsV_length : ∀ (Xs : List PlD), (∀ X ∈ Xs, X.ok) → (plsV Xs).length = Xs.length * 34
  | [], _ => rfl
  | X :: Xs, h => by
    rw [plsV_cons, List.length_append, Array.length_toList, PlD.size (h X (by simp)), plsV_length Xs (fun x hx => h x (by simp [hx])), List.length_cons]
    omega
theorem plsV_get : ∀ (Xs : List PlD) (k : Nat) (X : PlD) (j : Nat) (v : Value), (∀ X ∈ Xs, X.ok) → Xs[k]? = some X → X.cs.toList[j]? = some v → (plsV Xs)[k * 34 + j]? = some v
  | [], k, X, j, v, _, hk, _ => by simp at hk
  | Y :: Xs, 0, X, j, v, h, hk, hj => by
    simp at hk
    subst hk
    have hlt := (List.getElem?_eq_some_iff.1 hj).1
    rw [plsV_cons, Nat.zero_mul, Nat.zero_add, List.getElem?_append_left hlt]
    exact hj
  | Y :: Xs, k + 1, X, j, v, h, hk, hj => by
    have hb := PlD.size (h Y (by simp))
    rw [List.getElem?_cons_succ] at hk
    rw [plsV_cons, List.getElem?_append_right (by rw [Array.length_toList, hb]; omega), Array.length_toList, hb, show (k + 1) * 34 + j - 34 = k * 34 + j by omega]
    exact plsV_get Xs k X j v (fun x hx => h x (by simp [hx])) hk hj
theorem Pl_infoN : (Try.prog.info? 42).map (·.size) = some 34 := by kernel_rfl
theorem Pl_info3 : ∃ i, Try.prog.info? 42 = some i ∧ i.size = 34 := by
  have h := Pl_infoN
  cases hq : Try.prog.info? 42 with
  | none => rw [hq] at h; cases h
  | some i => rw [hq] at h; simp at h; exact ⟨i, rfl, h⟩
/-- A grant's box. -/
structure PlX (W : World) (g : Nat) (X : PlD) : Prop where
  b : Blk W g 42 X.cs
theorem PlX.new (w : World) (X : PlD) : PlX (w.alloc (.cells X.cs 42)) w.heap.size X := ⟨Blk.new _ _ _⟩
section
variable {W : World} {g : Nat} {X : PlD}
theorem PlX.alloc (h : PlX W g X) (o : Obj) : PlX (W.alloc o) g X := ⟨h.b.alloc o⟩
theorem PlX.below {W' : World} (h : PlX W g X) (hb : Below W.heap.size W W') : PlX W' g X := ⟨h.b.below hb⟩
end
/-- A row of grants lies at A. -/
def PlRd (w : World) (A : Option Addr) (Xs : List PlD) : Prop := (∀ X ∈ Xs, X.ok) ∧ (Xs = [] ∨ ∃ g o, A = some ⟨g, o, none⟩ ∧ w.rangeAt g o (plsV Xs))
theorem PlRd.nil_ (w : World) (A : Option Addr) : PlRd w A [] := ⟨by simp, .inl rfl⟩
theorem PlRd.below {w w' : World} {A : Option Addr} {Xs : List PlD} (h : PlRd w A Xs) (hb : Below w.heap.size w w') : PlRd w' A Xs :=
  ⟨h.1, h.2.elim .inl fun ⟨g, o, e, hr⟩ => .inr ⟨g, o, e, hr.below hb⟩⟩
theorem PlRd.pick {w : World} {A : Option Addr} {Xs : List PlD} {n : Nat} (c : Nat) (h : PlRd w A Xs) (hn : Xs.length = n) {k : Nat} {X : PlD} (hk : Xs[k]? = some X) :
    ∃ g q, w.rangeAt g q X.cs.toList ∧ X.ok ∧ ∀ W : World, (Instr.indexAt 33 (.slice A n c) (.int .i64 (k : Int))).run Try.prog W = .ok (.pointer (some ⟨g, q, none⟩)) W := by
  obtain ⟨h1, rfl | ⟨g, o, rfl, h2⟩⟩ := h
  · simp at hk
  · refine ⟨g, o + k * 34, fun j v hj => by rw [Nat.add_assoc]; exact h2 _ _ (plsV_get Xs k X j v h1 hk hj), h1 X (List.mem_of_getElem? hk), fun W => ?_⟩
    obtain ⟨i0, hi, h34⟩ := Pl_info3
    have hlt : k < n := by rw [← hn]; exact (List.getElem?_eq_some_iff.1 hk).1
    have h1 : (0 : Int) ≤ (k : Int) ∧ (k : Int) < (n : Int) := by omega
    simp [Instr.indexAt, run_underlying Try.underlying33, asIntOf, h1, sizeOf, typeInfo, hi, h34, Addr.add_lit, Int.toNat_natCast]
    intro h2; omega
/-- A row of grants of one's own. -/
def PlOw (W : World) (base : Nat) (v : Value) (n : Nat) (Xs : List PlD) : Prop := W.ownsRow base 42 34 v n (plsV Xs)
theorem PlOw.rd {W : World} {base n : Nat} {v : Value} {Xs : List PlD} (h : PlOw W base v n Xs) (hK : ∀ X ∈ Xs, X.ok) : ∃ A c, v = .slice A n c ∧ Xs.length = n ∧ n ≤ c ∧ (A = none → n = 0 ∧ c = 0) ∧ PlRd W A Xs := by
  have hl : Xs.length = n := by
    have h1 : (plsV Xs).length = n * 34 := h.1
    rw [plsV_length Xs hK] at h1
    omega
  rcases h.2 with ⟨rfl, h0⟩ | ⟨g, cap, cur, rfl, _, hg, h3, _, _, ht⟩
  · subst h0
    exact ⟨none, 0, rfl, hl, Nat.le_refl _, fun _ => ⟨rfl, rfl⟩, hK, .inl (List.eq_nil_of_length_eq_zero hl)⟩
  · refine ⟨_, cap, rfl, hl, h3, (fun e => by cases e), hK, .inr ⟨g, 0, rfl, fun j v hj => ?_⟩⟩
    rw [← ht, List.getElem?_take] at hj
    split at hj
    · rw [cell_of_row W g (0 + j) cur _ _ hg, Nat.zero_add, ← Array.getElem?_toList]; exact hj
    · cases hj
theorem PlOw.below {W W' : World} {base n : Nat} {v : Value} {Xs : List PlD} (h : PlOw W base v n Xs) (hb : Below W.heap.size W W') : PlOw W' base v n Xs := own_below h hb
theorem PlOw.made (W : World) : PlOw (W.alloc (.cells #[] 42)) W.heap.size (.slice (some ⟨W.heap.size, 0, none⟩) 0 0) 0 [] :=
  World.ownsRow_made W #[] 0 (Nat.le_refl _) (by decide) rfl
theorem PlOw.grown {W W' : World} {base n B : Nat} {v : Value} {Xs : List PlD} (h : PlOw W base v n Xs) (hg : W.grownBy W' v.ownBlock) (hB : B ≤ base) {w : World} (hb : Below B w W) (hs : B ≤ W.heap.size) : Below B w W' :=
  hb.grown hg hs (by intro k hk; have := (h.lt k hk).1; omega)
end Go.Proofs.Ytkajfpincbkfhaa

namespace Go.Proofs.Ytkajfpincbkfhaa
open Go.RowKit Go.Qc Go.Shelf
attribute [local go_sem] txt_size txt_append ib_fold
theorem blk_gM {w w' : World} {g k : Nat} {t : TypeId} {cs : Array Value} (h : Blk w g t cs) (hg : w.grownBy w' (some k)) (hne : g ≠ k) : Blk w' g t cs := (hg.block g h.lt (by simpa using hne)).trans h
theorem below_gM {w W W' : World} {k : Nat} (h : Below w.heap.size w W) (hg : W.grownBy W' (some k)) (hk : w.heap.size ≤ k) : Below w.heap.size w W' := h.grown hg h.size (fun i e => by have := Option.some.inj e; omega)
theorem IdOw.kept_ {w w' : World} {base n k : Nat} {v : Value} {l : List (List UInt8)} (hown : IdOw w base v n l) (hg : w.grownBy w' (some k)) (hlt : k < base) : IdOw w' base v n l :=
  World.ownsRow.kept hown hg (by
    by_cases h : v.ownBlock = none
    · exact .inl h
    · right
      intro e
      have := (hown.lt k e).1
      omega)
theorem slice_mid_ids (g o n c x y : Nat) (hx : x < y) (hy : y ≤ n) (hc : n ≤ c) (W : World) : (Instr.sliceAt 22 (.slice (some ⟨g, o, none⟩) n c) (some (.int .i64 (x : Int))) (some (.int .i64 (y : Int))) none).run Try.prog W = .ok (.slice (some ⟨g, o + x * 32, none⟩) (y - x) (c - x)) W := by
  obtain ⟨i0, hi, h32, _⟩ := infoId_parts
  have h1 : (0 : Int) ≤ (x : Int) ∧ (x : Int) ≤ (y : Int) := by omega
  have h2 : (0 : Int) ≤ (y : Int) ∧ (y : Int) ≤ (c : Int) := by omega
  have h3 : ¬ (x = c) := by omega
  simp [Instr.sliceAt, Instr.slice, Instr.sliceBounds, run_underlying Try.underlying22, run_sliceBound, h1, h2, sizeOf, typeInfo, hi, h32, Addr.add_lit, Int.toNat_natCast]
  omega
/-- A row's middle. -/
theorem RowC.cut {w : World} {A : Option Addr} {n c : Nat} {l : List (List UInt8)} (h : RowC w A n c l) {x y : Nat} (hx : x < y) (hy : y ≤ n) :
    ∃ A1 c1, (∀ W, (Instr.sliceAt 22 (.slice A n c) (some (.int .i64 (x : Int))) (some (.int .i64 (y : Int))) none).run Try.prog W = .ok (.slice A1 (y - x) c1) W) ∧ RowC w A1 (y - x) c1 ((l.drop x).take (y - x)) := by
  obtain ⟨⟨hl, hn, h32, hr⟩, hc⟩ := h
  have d32 : ∀ a ∈ (l.drop x).take (y - x), a.length = 32 := fun a ha => h32 a (List.mem_of_mem_drop (List.mem_of_mem_take ha))
  rcases hr with rfl | ⟨g, o, rfl, hr⟩
  · simp at hl; omega
  · rcases hc with ⟨hA, _⟩ | ⟨_, hnc, hcm⟩
    · cases hA
    · refine ⟨_, _, fun W => slice_mid_ids g o n c x y hx hy hnc W, ⟨by rw [List.length_take, List.length_drop]; omega, by omega, d32, .inr ⟨g, o + x * 32, rfl, fun j v hj => ?_⟩⟩, .inr ⟨⟨_, rfl⟩, by omega, by omega⟩⟩
      have e : idsV l = idsV (l.take x) ++ idsV ((l.drop x).take (y - x)) ++ idsV ((l.drop x).drop (y - x)) := by rw [List.append_assoc, ← idsV_append, ← idsV_append, List.take_append_drop, List.take_append_drop]
      have l1 : (idsV (l.take x)).length = x * 32 := by rw [idsV_length _ (fun a ha => h32 a (List.mem_of_mem_take ha)), List.length_take, Nat.min_eq_left (by omega)]
      rw [Nat.add_assoc]
      refine hr _ v ?_
      have hlt := (List.getElem?_eq_some_iff.1 hj).1
      rw [e, List.getElem?_append_left (by rw [List.length_append, l1]; omega), List.getElem?_append_right (by omega), l1, show x * 32 + j - x * 32 = j by omega]
      exact hj
theorem wp_build1i {w : World} {o : Oper} {a : Act} {K : Act → World → Prop} {Q : Exit → Act → World → Prop} (x : Operand) (ho : o.op = .buildSlice 22 1 #[(0, x)])
    (X : List UInt8) (lx : X.length = 32) (hx : a.eval x = .agg (idVals X))
    (h : ∀ cs, IdRd (w.alloc (.cells cs 24)) (some ⟨w.heap.size, 0, none⟩) [X] → K (a.put o.dst (.slice (some ⟨w.heap.size, 0, none⟩) 1 1)) (w.alloc (.cells cs 24))) :
    o.wp Try.prog a w K Q := by
  obtain ⟨j0, hj, hjz, hjs, hjb⟩ := infoId2_parts
  have sx : (idVals X).size = 32 := by rw [idVals_size, lx]
  obtain ⟨zs, hzs⟩ : ∃ zs : Array Value, zs = (Array.range (1 * j0.size)).map ((Value.agg (idVals zeroB)).cells[· % (Value.agg (idVals zeroB)).cells.size]!) := ⟨_, rfl⟩
  have hz : zs.size = 32 := by rw [hzs, hjs]; simp
  obtain ⟨s1, g1⟩ := put_get_arr 0 X zs (by rw [hz, lx]; decide)
  generalize hc1 : (idVals X).zipIdx.foldl (fun cs (c, j) => cs.setIfInBounds (0 + j) c) zs = c1 at s1 g1
  refine wp_buildSlice 22 24 1 #[(0, x)] ho c1 j0 (.agg (idVals zeroB)) Try.underlying22 hj hjz (by rw [hjs]; decide) (by rw [hjs]; decide) ?_ (h c1 ⟨fun Y hY => by rw [List.mem_singleton.1 hY]; exact lx, .inr ⟨w.heap.size, 0, rfl, ?_⟩⟩)
  · rw [← hzs, hjs]
    have e1 : (Value.agg (idVals X)).cells = idVals X := rfl
    simp only [List.map_toArray, List.map_cons, List.map_nil, hx, Instr.fill, e1, idVals_size, lx, hz]
    rw [if_neg (by decide)]
    simp only [Nat.zero_mul]
    rw [hc1]
  · intro j u hj'
    have hj2 : (X.map u8v)[j]? = some u := by simpa [idsV] using hj'
    have hlt : j < 32 := by have := (List.getElem?_eq_some_iff.1 hj2).1; simpa [lx] using this
    rw [cell_of_row _ _ _ _ _ _ (heap_alloc_new w _), Nat.zero_add, g1, lx, if_pos (by omega), Nat.sub_zero]
    exact hj2
/-- A place under way: its box, the row's box, its way's own row. -/
structure PwS (w0 : World) (gp gl base : Nat) (A : Option Addr) (n c : Nat) (X : PlD) (u : Value) (k : Nat) (Way : List (List UInt8)) (W : World) : Prop where
  x : PlX W gp X
  l : Blk W gl 22 #[.slice A n c]
  o : IdOw W base u k Way
  b : Below w0.heap.size w0 W
  n2 : w0.heap.size ≤ gp
  n3 : gl < base
  n4 : gp < base
  n5 : gl ≠ gp
  n6 : base ≤ W.heap.size
section
variable {w0 : World} {gp gl base : Nat} {A : Option Addr} {n c : Nat} {X X' : PlD} {u u' : Value} {k k' : Nat} {Way Way' : List (List UInt8)} {W W' : World}
theorem PwS.below (h : PwS w0 gp gl base A n c X u k Way W) (hb : Below W.heap.size W W') : PwS w0 gp gl base A n c X u k Way W' :=
  ⟨h.x.below hb, h.l.below hb, own_below h.o hb, h.b.trans (hb.mono h.b.size), h.n2, h.n3, h.n4, h.n5, Nat.le_trans h.n6 hb.size⟩
theorem PwS.put (h : PwS w0 gp gl base A n c X u k Way W) (hx : PlX W' gp X') (hg : W.grownBy W' (some gp)) : PwS w0 gp gl base A n c X' u k Way W' :=
  ⟨hx, blk_gM h.l hg h.n5, h.o.kept_ hg h.n4, below_gM h.b hg h.n2, h.n2, h.n3, h.n4, h.n5, Nat.le_trans h.n6 hg.size⟩
theorem PwS.row (h : PwS w0 gp gl base A n c X u k Way W) : W.cell? ⟨gl, 0, none⟩ = some (.slice A n c) := h.l.cell_ rfl
end
end Go.Proofs.Ytkajfpincbkfhaa

namespace Go.Proofs.Ytkajfpincbkfhaa
open Go.RowKit Go.Qc Go.Shelf
attribute [local go_sem] txt_size txt_append ib_fold
/-- The roots beside a place, from its own up. -/
def wayL (l : List (List UInt8)) (n k : Nat) : List (List UInt8) := (partsL 0 n k).map fun x => rootM ((l.drop x.1).take (x.2 - x.1))
theorem list32m (K : List UInt8) (h : K.length = 32) : ∃ x0 x1 x2 x3 x4 x5 x6 x7 x8 x9 x10 x11 x12 x13 x14 x15 x16 x17 x18 x19 x20 x21 x22 x23 x24 x25 x26 x27 x28 x29 x30 x31, K = [x0, x1, x2, x3, x4, x5, x6, x7, x8, x9, x10, x11, x12, x13, x14, x15, x16, x17, x18, x19, x20, x21, x22, x23, x24, x25, x26, x27, x28, x29, x30, x31] := by
  match K, h with
  | [x0, x1, x2, x3, x4, x5, x6, x7, x8, x9, x10, x11, x12, x13, x14, x15, x16, x17, x18, x19, x20, x21, x22, x23, x24, x25, x26, x27, x28, x29, x30, x31], _ => exact ⟨_, _, _, _, _, _, _, _, _, _, _, _, _, _, _, _, _, _, _, _, _, _, _, _, _, _, _, _, _, _, _, _, rfl⟩

end Go.Proofs.Ytkajfpincbkfhaa

namespace Go.Proofs.Ytkajfpincbkfhaa
open Go.RowKit Go.Qc Go.Shelf
attribute [local go_sem] txt_size txt_append ib_fold
theorem steps_rising : ∀ (l : List (List UInt8)), Steps l l.length → Rising l
  | [], _ => List.Pairwise.nil
  | [x], _ => List.Pairwise.cons (fun _ h => by cases h) List.Pairwise.nil
  | x :: y :: l, h => by
    have h1 : Lt x y := by
      have := h 0 x y (by simp) rfl rfl
      unfold ltB at this
      have h9 := of_decide_eq_true this
      exact h9
    have h2 := steps_rising (y :: l) (fun i a b hi ha hb => h (i + 1) a b (by simp only [List.length_cons] at hi ⊢; omega) (by simpa using ha) (by simpa using hb))
    refine List.Pairwise.cons (fun z hz => ?_) h2
    rcases List.mem_cons.1 hz with rfl | hz
    · exact h1
    · exact h1.tr (List.rel_of_pairwise_cons h2 hz)
theorem own_idbx {W W' : World} {b1 n g : Nat} {t : TypeId} {cs : Array Value} {v : Value} {xs : List (List UInt8)} (h : IdOw W b1 v n xs) (hw : Blk W g t cs) (ht : t ≠ 24) (hg : W.grownBy W' (some g)) : IdOw W' b1 v n xs := by
  refine World.ownsRow.kept h hg ?_
  rcases h.2 with ⟨rfl, _⟩ | ⟨g1, cap, cur, rfl, _, hb, _⟩
  · exact .inl rfl
  · right
    intro e
    simp only [Value.ownBlock, Option.some.injEq] at e
    subst e
    have hb2 : W.heap[g1]? = some (.cells cs t (0, 0)) := hw
    rw [hb] at hb2
    injection hb2 with e
    injection e with _ e
    exact absurd e.symm ht
/-- A place is told: its id, its number, its way. -/
structure PlOk (W : World) (b : Nat) (l : List (List UInt8)) (n k : Nat) (X : PlD) : Prop where
  fi : l[k]? = some X.a
  ft : X.t = (k : Int)
  fn : X.n = (partsL 0 n k).length
  fw : IdOw W b (.slice X.A X.n X.c) X.n (wayL l n k)
  fo : X.ok
theorem PlOk.below {W W' : World} {b : Nat} {l : List (List UInt8)} {n k : Nat} {X : PlD} (h : PlOk W b l n k X) (hb : Below W.heap.size W W') : PlOk W' b l n k X := ⟨h.fi, h.ft, h.fn, own_below h.fw hb, h.fo⟩
/-- Places under way: their box, their own row. -/
structure PvS (w0 : World) (gp base : Nat) (l : List (List UInt8)) (n f : Nat) (B : Option Addr) (i d : Nat) (u : Value) (Xs : List PlD) (W : World) : Prop where
  x : Blk W gp 35 #[.int .i64 (n : Int), .slice B i d]
  o : PlOw W base u Xs.length Xs
  r : ∀ j X, Xs[j]? = some X → PlOk W w0.heap.size l n (f + j) X
  b : Below w0.heap.size w0 W
  n2 : w0.heap.size ≤ gp
  n4 : gp < base
  n6 : base ≤ W.heap.size
section
variable {w0 : World} {gp base : Nat} {l : List (List UInt8)} {n f : Nat} {B B' : Option Addr} {i i' d d' : Nat} {u u' : Value} {Xs : List PlD} {X : PlD} {W W' : World}
theorem PvS.below (h : PvS w0 gp base l n f B i d u Xs W) (hb : Below W.heap.size W W') : PvS w0 gp base l n f B i d u Xs W' :=
  ⟨h.x.below hb, own_below h.o hb, fun j X hj => (h.r j X hj).below hb, h.b.trans (hb.mono h.b.size), h.n2, h.n4, Nat.le_trans h.n6 hb.size⟩
theorem PvS.put (h : PvS w0 gp base l n f B i d u Xs W) (hx : Blk W' gp 35 #[.int .i64 (n : Int), .slice B' i' d']) (hg : W.grownBy W' (some gp)) : PvS w0 gp base l n f B' i' d' u Xs W' :=
  ⟨hx, World.ownsRow.kept h.o hg (by
    by_cases hu : u.ownBlock = none
    · exact .inl hu
    · right
      intro e
      have := (World.ownsRow.lt h.o gp e).1
      have := h.n4
      omega), fun j Y hj => ⟨(h.r j Y hj).fi, (h.r j Y hj).ft, (h.r j Y hj).fn, own_idbx (h.r j Y hj).fw h.x (by decide) hg, (h.r j Y hj).fo⟩, below_gM h.b hg h.n2, h.n2, h.n4, Nat.le_trans h.n6 hg.size⟩
theorem PvS.c1 (h : PvS w0 gp base l n f B i d u Xs W) : W.cell? ⟨gp, 1, none⟩ = some (.slice B i d) := h.x.cell_ rfl
theorem PvS.ok (h : PvS w0 gp base l n f B i d u Xs W) : ∀ X ∈ Xs, X.ok := fun X hX => by
  obtain ⟨j, hj⟩ := List.getElem?_of_mem hX
  exact (h.r j X hj).fo
end
theorem pv_q1 {p : Nat} (h : p ≤ 1000000) : wrap64 ((p : Int) + 1) = (p : Int) + 1 := by unfold wrap64; omega
end Go.Proofs.Ytkajfpincbkfhaa

namespace Go.Proofs.Ytkajfpincbkfhaa
open Go.RowKit Go.Qc Go.Shelf
attribute [local go_sem] txt_size txt_append ib_fold
theorem wpList_build3 {w : World} {ops : Array Oper} {rest : List Oper} {o : Oper} {a : Act} {Q : Exit → Act → World → Prop} (hgd : o.guard = none) (x y z : Operand) (ho : o.op = .buildSlice 22 3 #[(0, x), (1, y), (2, z)])
    (X Y Z : List UInt8) (lx : X.length = 32) (ly : Y.length = 32) (lz : Z.length = 32) (hx : a.eval x = .agg (idVals X)) (hy : a.eval y = .agg (idVals Y)) (hz9 : a.eval z = .agg (idVals Z))
    (h : ∀ cs, RowC (w.alloc (.cells cs 24)) (some ⟨w.heap.size, 0, none⟩) 3 3 [X, Y, Z] → wpList Try.prog ops Q rest (a.put o.dst (.slice (some ⟨w.heap.size, 0, none⟩) 3 3)) (w.alloc (.cells cs 24))) :
    wpList Try.prog ops Q (o :: rest) a w := by
  obtain ⟨j0, hj, hjz, hjs, hjb⟩ := infoId2_parts
  obtain ⟨zs, hzs⟩ : ∃ zs : Array Value, zs = (Array.range (3 * j0.size)).map ((Value.agg (idVals zeroB)).cells[· % (Value.agg (idVals zeroB)).cells.size]!) := ⟨_, rfl⟩
  have hz : zs.size = 96 := by rw [hzs, hjs]; simp
  obtain ⟨s1, g1⟩ := put_get_arr 0 X zs (by rw [hz, lx]; decide)
  generalize hc1 : (idVals X).zipIdx.foldl (fun cs (c, j) => cs.setIfInBounds (0 + j) c) zs = c1 at s1 g1
  obtain ⟨s2, g2⟩ := put_get_arr 32 Y c1 (by rw [s1, hz, ly]; decide)
  generalize hc2 : (idVals Y).zipIdx.foldl (fun cs (c, j) => cs.setIfInBounds (32 + j) c) c1 = c2 at s2 g2
  obtain ⟨s3, g3⟩ := put_get_arr 64 Z c2 (by rw [s2, s1, hz, lz]; decide)
  generalize hc3 : (idVals Z).zipIdx.foldl (fun cs (c, j) => cs.setIfInBounds (64 + j) c) c2 = c3 at s3 g3
  refine wpList_buildSlice hgd 22 24 3 #[(0, x), (1, y), (2, z)] ho c3 j0 (.agg (idVals zeroB)) Try.underlying22 hj hjz (by rw [hjs]; decide) (by rw [hjs]; decide) ?_
    (h c3 ⟨⟨rfl, by decide, fun u hu => by simp only [List.mem_cons, List.not_mem_nil, or_false] at hu; rcases hu with rfl | rfl | rfl <;> assumption, .inr ⟨w.heap.size, 0, rfl, ?_⟩⟩, .inr ⟨⟨_, rfl⟩, by decide, by decide⟩⟩)
  · rw [← hzs, hjs]
    have e1 : (Value.agg (idVals X)).cells = idVals X := rfl
    have e2 : (Value.agg (idVals Y)).cells = idVals Y := rfl
    have e3 : (Value.agg (idVals Z)).cells = idVals Z := rfl
    simp only [List.map_toArray, List.map_cons, List.map_nil, hx, hy, hz9, Instr.fill, e1, e2, e3, idVals_size, lx, ly, lz, hz]
    rw [if_neg (by decide)]
    simp only [Nat.zero_mul, Nat.one_mul, Nat.reduceMul]
    rw [hc1, s1, hz, if_neg (by decide), hc2, s2, s1, hz, if_neg (by decide), hc3]
  · intro j u hj'
    have hj2 : (X.map u8v ++ (Y.map u8v ++ Z.map u8v))[j]? = some u := by simpa [idsV] using hj'
    have hlt : j < 96 := by have := (List.getElem?_eq_some_iff.1 hj2).1; simp [lx, ly, lz] at this; omega
    rw [cell_of_row _ _ _ _ _ _ (heap_alloc_new w _), Nat.zero_add, g3, lz]
    by_cases c : 64 ≤ j
    · rw [if_pos (by omega), ← hj2, List.getElem?_append_right (by rw [List.length_map, lx]; omega), List.length_map, lx, List.getElem?_append_right (by rw [List.length_map, ly]; omega), List.length_map, ly, Nat.sub_sub]
    · rw [if_neg (by omega), g2, ly]
      by_cases c5 : 32 ≤ j
      · rw [if_pos (by omega), ← hj2, List.getElem?_append_right (by rw [List.length_map, lx]; omega), List.length_map, lx, List.getElem?_append_left (by rw [List.length_map, ly]; omega)]
      · rw [if_neg (by omega), g1, lx, if_pos (by omega), ← hj2, List.getElem?_append_left (by rw [List.length_map, lx]; omega), Nat.sub_zero]
def L123 : List (List UInt8) := [idN 1, idN 2, idN 3]
theorem steps_123 : Steps L123 3 := fun i x y hi hx hy => by
  rcases (show i = 0 ∨ i = 1 by omega) with rfl | rfl
  · cases hx; cases hy; decide
  · cases hx; cases hy; decide
theorem cell_belM {w w' : World} {a : Addr} {v : Value} (hb : Below w.heap.size w w') (h : w.cell? a = some v) : w'.cell? a = some v := (hb.cell (World.block_lt_of_cell? w a h)).trans h
end Go.Proofs.Ytkajfpincbkfhaa

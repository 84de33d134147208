
/- witness: a row as data, its cells, its box, rows of them; the document's; rows that come in. -/
import Derived.Test.YticpdepbgcagaaaKtA
import Derived.Test.YticpdepbgcagaaaLam6
import Derived.Test.YticpdepbgcagaaaId7
set_option linter.unusedSimpArgs false
set_option linter.unusedVariables false
namespace Go.Proofs.Yticpdepbgcagaaa
open Go.RowKit Go.Qc Go.Shelf
attribute [local go_sem] txt_size txt_append ib_fold
/-- A leaf, and the sum that it signed, as data. -/
structure WiD where
  l : Int
  a : List UInt8
def WiD.ok (X : WiD) : Prop := X.a.length = 32
def WiD.cs (X : WiD) : Array Value := #[.int .i64 X.l] ++ idVals X.a
theorem WiD.size {X : WiD} (h : X.ok) : X.cs.size = 33 := by unfold WiD.cs; simp [idVals_size, (show X.a.length = 32 from h)]
theorem WiD.one (X : WiD) : X.cs.all (·.oneCell') = true := by
  unfold WiD.cs
  rw [Array.all_append, idVals_one]
  simp [Value.oneCell']
theorem WiD.c0 (X : WiD) : X.cs[0]? = some (.int .i64 X.l) := by
  unfold WiD.cs
  rw [Array.getElem?_append_left (by simp)]
  rfl
theorem WiD.ckey (X : WiD) (j : Nat) (u : Value) (h : (X.a.map u8v)[j]? = some u) : X.cs[1 + j]? = some u := by
  have hj := (List.getElem?_eq_some_iff.1 h).1
  rw [List.length_map] at hj
  unfold WiD.cs
  rw [Array.getElem?_append_right (by simp)]
  simp only [List.size_toArray, List.length_singleton, Nat.add_sub_cancel_left]
  unfold idVals
  rw [List.getElem?_toArray]
  exact h
def wisV (Xs : List WiD) : List Value := Xs.flatMap (fun X => X.cs.toList)
theorem wisV_cons (X : WiD) (Xs : List WiD) : wisV (X :: Xs) = X.cs.toList ++ wisV Xs := by simp [wisV]
theorem wisV_get : ∀ (Xs : List WiD) (k : Nat) (X : WiD) (j : Nat) (v : Value), (∀ X ∈ Xs, X.ok) → Xs[k]? = some X → X.cs.toList[j]? = some v → (wisV Xs)[k * 33 + j]? = some v
  | [], k, X, j, v, _, hk, _ => by simp at hk
  | Y :: Xs, 0, X, j, v, h, hk, hj => by
    simp at hk
    subst hk
    have hlt := (List.getElem?_eq_some_iff.1 hj).1
    rw [wisV_cons, Nat.zero_mul, Nat.zero_add, List.getElem?_append_left hlt]
    exact hj
  | Y :: Xs, k + 1, X, j, v, h, hk, hj => by
    have hb := WiD.size (h Y (by simp))
    rw [List.getElem?_cons_succ] at hk
    rw [wisV_cons, List.getElem?_append_right (by rw [Array.length_toList, hb]; omega), Array.length_toList, hb, show (k + 1) * 33 + j - 33 = k * 33 + j by omega]
    exact wisV_get Xs k X j v (fun x hx => h x (by simp [hx])) hk hj
theorem Wi_infoN : (Try.prog.info? 78).map (·.size) = some 33 := by kernel_rfl
theorem Wi_info (X : WiD) (h : X.ok) : (Try.prog.info? 78).map (·.size) = some X.cs.size := by rw [WiD.size h]; exact Wi_infoN
theorem Wi_info3 : ∃ i, Try.prog.info? 78 = some i ∧ i.size = 33 := by
  have h := Wi_infoN
  cases hq : Try.prog.info? 78 with
  | none => rw [hq] at h; cases h
  | some i => rw [hq] at h; simp at h; exact ⟨i, rfl, h⟩
/-- A row's box. -/
structure WiX (W : World) (g : Nat) (X : WiD) : Prop where
  b : Blk W g 78 X.cs
theorem WiX.new (w : World) (X : WiD) : WiX (w.alloc (.cells X.cs 78)) w.heap.size X := ⟨Blk.new _ _ _⟩
section
variable {W : World} {g : Nat} {X : WiD}
theorem WiX.alloc (h : WiX W g X) (o : Obj) : WiX (W.alloc o) g X := ⟨h.b.alloc o⟩
theorem WiX.below {W' : World} (h : WiX W g X) (hb : Below W.heap.size W W') : WiX W' g X := ⟨h.b.below hb⟩
theorem WiX.c0 (h : WiX W g X) : W.cell? ⟨g, 0, none⟩ = some (.int .i64 X.l) := h.b.cell_ X.c0
theorem WiX.key (h : WiX W g X) : W.rangeAt g 1 (X.a.map u8v) := fun j u hj => h.b.cell_ (X.ckey j u hj)
end
/-- A row of rows lies at A. -/
def WiRd (w : World) (A : Option Addr) (Xs : List WiD) : Prop := (∀ X ∈ Xs, X.ok) ∧ (Xs = [] ∨ ∃ g o, A = some ⟨g, o, none⟩ ∧ w.rangeAt g o (wisV Xs))
theorem WiRd.nil_ (w : World) (A : Option Addr) : WiRd w A [] := ⟨by simp, .inl rfl⟩
theorem WiRd.below {w w' : World} {A : Option Addr} {Xs : List WiD} (h : WiRd w A Xs) (hb : Below w.heap.size w w') : WiRd w' A Xs :=
  ⟨h.1, h.2.elim .inl fun ⟨g, o, e, hr⟩ => .inr ⟨g, o, e, hr.below hb⟩⟩
theorem WiRd.pick {w : World} {A : Option Addr} {Xs : List WiD} {n : Nat} (c : Nat) (h : WiRd w A Xs) (hn : Xs.length = n) {k : Nat} {X : WiD} (hk : Xs[k]? = some X) :
    ∃ g q, w.rangeAt g q X.cs.toList ∧ X.ok ∧ ∀ W : World, (Instr.indexAt 40 (.slice A n c) (.int .i64 (k : Int))).run Try.prog W = .ok (.pointer (some ⟨g, q, none⟩)) W := by
  obtain ⟨h1, rfl | ⟨g, o, rfl, h2⟩⟩ := h
  · simp at hk
  · refine ⟨g, o + k * 33, fun j v hj => by rw [Nat.add_assoc]; exact h2 _ _ (wisV_get Xs k X j v h1 hk hj), h1 X (List.mem_of_getElem? hk), fun W => ?_⟩
    obtain ⟨i0, hi, h33⟩ := Wi_info3
    have hlt : k < n := by rw [← hn]; exact (List.getElem?_eq_some_iff.1 hk).1
    have h1 : (0 : Int) ≤ (k : Int) ∧ (k : Int) < (n : Int) := by omega
    simp [Instr.indexAt, run_underlying Try.underlying40, asIntOf, h1, sizeOf, typeInfo, hi, h33, Addr.add_lit, Int.toNat_natCast]
    intro h2; omega
/-- A row of rows of one's own. -/
def WiOw (W : World) (base : Nat) (v : Value) (n : Nat) (Xs : List WiD) : Prop := W.ownsRow base 78 33 v n (wisV Xs)
theorem WiOw.below {W W' : World} {base n : Nat} {v : Value} {Xs : List WiD} (h : WiOw W base v n Xs) (hb : Below W.heap.size W W') : WiOw W' base v n Xs := own_below h hb
theorem WiOw.made (W : World) : WiOw (W.alloc (.cells #[] 78)) W.heap.size (.slice (some ⟨W.heap.size, 0, none⟩) 0 0) 0 [] :=
  World.ownsRow_made W #[] 0 (Nat.le_refl _) (by decide) rfl
/-- A whole grant is loaded out of a row; out of its box; stored into its box. -/
theorem wpList_load_wir {w : World} {ops : Array Oper} {rest : List Oper} {o : Oper} {a : Act} {Q : Exit → Act → World → Prop} (hgd : Region.wanted o (yielded ops a.tmps) = true) (x : Operand) (ho : o.op = .load 78 x)
    (g q : Nat) {X : WiD} (hx : a.eval x = .pointer (some ⟨g, q, none⟩)) (hr : w.rangeAt g q X.cs.toList) (hK : X.ok)
    (h : wpList Try.prog ops Q rest (a.put o.dst (.agg X.cs)) w) : wpList Try.prog ops Q (o :: rest) a w := by
  refine wpList_load_if hgd 78 x ho g q hx X.cs.toList _ hr Try.underlying78 rfl ?_ ?_
  · rw [Array.length_toList]; exact Wi_info X hK
  · rw [Array.toArray_toList]; exact h
theorem WiOw.grown {W W' : World} {base n B : Nat} {v : Value} {Xs : List WiD} (h : WiOw W base v n Xs) (hg : W.grownBy W' v.ownBlock) (hB : B ≤ base) {w : World} (hb : Below B w W) (hs : B ≤ W.heap.size) : Below B w W' :=
  hb.grown hg hs (by intro k hk; have := (h.lt k hk).1; omega)
section
variable {W : World} {g : Nat} {X : WiD}
end
section
open Go.ChangeShapes Go.WideShapes Go.ChangeAt
variable {H : Type} {enc : TypeId × Value → H} {w : World} {r : Reach} {base b0 : Nat} {sp : Nat → Bool} {hd : Bool}
end
end Go.Proofs.Yticpdepbgcagaaa

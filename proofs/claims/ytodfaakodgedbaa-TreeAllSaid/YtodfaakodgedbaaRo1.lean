
/- Rows of operations: read, come in; few. -/
import Derived.Test.YtodfaakodgedbaaCm5
set_option linter.unusedSimpArgs false
set_option linter.unusedVariables false
namespace Go.Proofs.Ytodfaakodgedbaa
open Go.RowKit Go.Qc Go.Shelf
attribute [local go_sem] txt_size txt_append ib_fold txt_toL

/-- An operation with its rows' places. -/
structure OpV where
  D : OpD
  A : Option Addr
  n : Nat
  c : Nat
  B : Option Addr
  m : Nat
  d : Nat
def OpV.cs (X : OpV) : Array Value := opC X.D X.A X.n X.c X.B X.m X.d
theorem OpV.size {X : OpV} (h : X.D.K.length = 32) : X.cs.size = 39 := opC_size _ _ _ _ _ _ _ h
def opsV (Xs : List OpV) : List Value := Xs.flatMap (fun X => X.cs.toList)
theorem opsV_cons (X : OpV) (Xs : List OpV) : opsV (X :: Xs) = X.cs.toList ++ opsV Xs := by simp [opsV]
theorem opsV_append (Xs Ys : List OpV) : opsV (Xs ++ Ys) = opsV Xs ++ opsV Ys := by simp [opsV]
theorem opsV_snoc (Xs : List OpV) (X : OpV) : opsV (Xs ++ [X]) = opsV Xs ++ X.cs.toList := by simp [opsV]
theorem opsV_length : ∀ (Xs : List OpV), (∀ X ∈ Xs, X.D.K.length = 32) → (opsV Xs).length = Xs.length * 39
  | [], _ => rfl
  | X :: Xs, h => by
    rw [opsV_cons, List.length_append, Array.length_toList, OpV.size (h X (by simp)), opsV_length Xs (fun x hx => h x (by simp [hx])), List.length_cons]
    omega
theorem opsV_get : ∀ (Xs : List OpV) (k : Nat) (X : OpV) (j : Nat) (v : Value), (∀ X ∈ Xs, X.D.K.length = 32) → Xs[k]? = some X → X.cs.toList[j]? = some v → (opsV Xs)[k * 39 + j]? = some v
  | [], k, X, j, v, _, hk, _ => by simp at hk
  | Y :: Xs, 0, X, j, v, h, hk, hj => by
    simp at hk
    subst hk
    have hlt := (List.getElem?_eq_some_iff.1 hj).1
    rw [opsV_cons, Nat.zero_mul, Nat.zero_add, List.getElem?_append_left hlt]
    exact hj
  | Y :: Xs, k + 1, X, j, v, h, hk, hj => by
    have hb := OpV.size (h Y (by simp))
    rw [List.getElem?_cons_succ] at hk
    rw [opsV_cons, List.getElem?_append_right (by rw [Array.length_toList, hb]; omega), Array.length_toList, hb, show (k + 1) * 39 + j - 39 = k * 39 + j by omega]
    exact opsV_get Xs k X j v (fun x hx => h x (by simp [hx])) hk hj
/-- A row of operations lies at A. -/
def OpRd (w : World) (A : Option Addr) (Xs : List OpV) : Prop := (∀ X ∈ Xs, X.D.K.length = 32) ∧ (Xs = [] ∨ ∃ g o, A = some ⟨g, o, none⟩ ∧ w.rangeAt g o (opsV Xs))
theorem OpRd.nil_ (w : World) (A : Option Addr) : OpRd w A [] := ⟨by simp, .inl rfl⟩
theorem OpRd.below {w w' : World} {A : Option Addr} {Xs : List OpV} (h : OpRd w A Xs) (hb : Below w.heap.size w w') : OpRd w' A Xs :=
  ⟨h.1, h.2.elim .inl fun ⟨g, o, e, hr⟩ => .inr ⟨g, o, e, hr.below hb⟩⟩
theorem infoOp3 : ∃ i, Try.prog.info? 40 = some i ∧ i.size = 39 := by
  have h := infoOp
  cases hq : Try.prog.info? 40 with
  | none => rw [hq] at h; cases h
  | some i => rw [hq] at h; simp at h; exact ⟨i, rfl, h⟩
theorem OpRd.pick {w : World} {A : Option Addr} {Xs : List OpV} {n : Nat} (c : Nat) (h : OpRd w A Xs) (hn : Xs.length = n) {k : Nat} {X : OpV} (hk : Xs[k]? = some X) :
    ∃ g q, w.rangeAt g q X.cs.toList ∧ X.D.K.length = 32 ∧ ∀ W : World, (Instr.indexAt 22 (.slice A n c) (.int .i64 (k : Int))).run Try.prog W = .ok (.pointer (some ⟨g, q, none⟩)) W := by
  obtain ⟨h1, rfl | ⟨g, o, rfl, h2⟩⟩ := h
  · simp at hk
  · refine ⟨g, o + k * 39, fun j v hj => by rw [Nat.add_assoc]; exact h2 _ _ (opsV_get Xs k X j v h1 hk hj), h1 X (List.mem_of_getElem? hk), fun W => ?_⟩
    obtain ⟨i0, hi, h39⟩ := infoOp3
    have hlt : k < n := by rw [← hn]; exact (List.getElem?_eq_some_iff.1 hk).1
    have h1 : (0 : Int) ≤ (k : Int) ∧ (k : Int) < (n : Int) := by omega
    simp [Instr.indexAt, run_underlying Try.underlying22, asIntOf, h1, sizeOf, typeInfo, hi, h39, Addr.add_lit, Int.toNat_natCast]
    intro h2; omega
/-- An operation's rows, where they lie. -/
def OpIn (w : World) (X : OpV) : Prop := X.D.K.length = 32 ∧ LnO w X.A X.n X.D.o ∧ LnO w X.B X.m X.D.n ∧ X.D.p.length ≤ 9223372036854775807 ∧ X.D.t.length ≤ 9223372036854775807
theorem LnO.below {w w' : World} {A : Option Addr} {n : Nat} {l : List (List UInt8)} (h : LnO w A n l) (hb : Below w.heap.size w w') : LnO w' A n l := ⟨h.1, h.2.1, h.2.2.below hb⟩
theorem OpIn.below {w w' : World} {X : OpV} (h : OpIn w X) (hb : Below w.heap.size w w') : OpIn w' X := ⟨h.1, h.2.1.below hb, h.2.2.1.below hb, h.2.2.2.1, h.2.2.2.2⟩
/-- A row of operations that came in. -/
def OpRow (w : World) (A : Option Addr) (len : Nat) (Xs : List OpV) : Prop := Xs.length = len ∧ len ≤ maxLen ∧ OpRd w A Xs ∧ ∀ X ∈ Xs, OpIn w X
theorem all_ops {w : World} {g o : Nat} : ∀ (n : Nat), (∀ i, i < n → ∃ X : OpV, OpIn w X ∧ w.rangeAt g (o + i * 39) X.cs.toList) → ∃ Xs : List OpV, Xs.length = n ∧ (∀ X ∈ Xs, OpIn w X) ∧ w.rangeAt g o (opsV Xs)
  | 0, _ => ⟨[], rfl, by simp, fun j v h => by simp [opsV] at h⟩
  | n + 1, h => by
    obtain ⟨Xs, h1, h2, h3⟩ := all_ops n (fun i hi => h i (by omega))
    obtain ⟨X, hX, hr⟩ := h n (by omega)
    refine ⟨Xs ++ [X], by simp [h1], fun Y hY => ?_, fun j v hj => ?_⟩
    · rcases List.mem_append.1 hY with hY | hY
      · exact h2 Y hY
      · simp at hY; rw [hY]; exact hX
    · rw [opsV_snoc] at hj
      by_cases hlt : j < (opsV Xs).length
      · rw [List.getElem?_append_left hlt] at hj
        exact h3 j v hj
      · rw [List.getElem?_append_right (by omega)] at hj
        rw [opsV_length Xs (fun X hX => (h2 X hX).1), h1] at hj hlt
        have := hr _ _ hj
        rwa [show o + n * 39 + (j - n * 39) = o + j by omega] at this
section
open Go.ChangeShapes Go.WideShapes Go.ChangeAt
variable {H : Type} {enc : TypeId × Value → H} {w : World} {r : Reach} {base b0 : Nat} {sp : Nat → Bool} {hd : Bool}
set_option maxRecDepth 100000 in
theorem open_opRow {v : Value} {d : DataW H} {ps : List MemPlace} (hv : Value.okWide Try.prog w r b0 22 v) (h : DataW.Trod enc Try.prog w base sp hd 22 v d ps) : ∃ a len cap Xs, v = .slice a len cap ∧ OpRow w a len Xs := by
  have ht := Try.underlying22
  have hn : Try.prog.cellsOf 40 = 39 := by kernel_rfl
  obtain ⟨a0, len0, cap0, rfl⟩ := okWide_slice ht hv
  obtain ⟨fuel, hf⟩ := h
  cases fuel with
  | zero => simp [DataW.trod] at hf
  | succ m =>
    rw [DataW.trod_step] at hf
    unfold DataW.trodStep at hf
    simp only [ht, Value.cells] at hf
    cases a0 with
    | none =>
      rcases len0 with _ | len0
      · exact ⟨none, 0, cap0, [], rfl, rfl, Nat.zero_le _, OpRd.nil_ _ _, by simp⟩
      · simp at hf
    | some a =>
      simp only [hn] at hf
      split at hf
      · rename_i hcond
        simp only [Option.bind_eq_some_iff] at hf
        obtain ⟨ys, hy, _⟩ := hf
        have hy2 := mapM_each _ _ hy
        have hall : ∀ i, i < len0 → ∃ X : OpV, OpIn w X ∧ ∀ j v, X.cs.toList[j]? = some v → w.cell? ((a.add (i * 39)).add j) = some v := fun i hi => by
          obtain ⟨y, hy⟩ := hy2 i (List.mem_range.2 (by omega))
          simp only [Option.bind_eq_some_iff] at hy
          obtain ⟨cs, hcs, htr⟩ := hy
          obtain ⟨D, A, n, c, B, m, d, rfl, q1, q2, q3, q4, q5⟩ := trod_op htr
          refine ⟨⟨D, A, n, c, B, m, d⟩, ⟨q1, q2, q3, q4, q5⟩, fun j v hj => ?_⟩
          have hj39 : j < 39 := by have := (List.getElem?_eq_some_iff.1 hj).1; rw [Array.length_toList, OpV.size q1] at this; exact this
          exact ((World.cells?_some hcs).2.2 j hj39).trans hj
        by_cases h0 : len0 = 0
        · subst h0
          exact ⟨_, _, _, [], rfl, rfl, Nat.zero_le _, OpRd.nil_ _ _, by simp⟩
        · have hsp : a.spot = none := by
            obtain ⟨X, hX, hr⟩ := hall 0 (by omega)
            obtain ⟨v, hv⟩ : ∃ v, X.cs.toList[0]? = some v := ⟨_, List.getElem?_eq_getElem (by rw [Array.length_toList, OpV.size hX.1]; omega)⟩
            have := hr 0 v hv
            cases hs : a.spot with
            | none => rfl
            | some s => simp [Addr.add, World.cell?, hs] at this; split at this <;> simp_all
          obtain ⟨g, o, sp⟩ := a
          obtain rfl : sp = none := hsp
          obtain ⟨Xs, h1, h2, h3⟩ := all_ops (w := w) (g := g) (o := o) len0 (fun i hi => by
            obtain ⟨X, hX, hr⟩ := hall i hi
            refine ⟨X, hX, fun j v hj => ?_⟩
            have := hr j v hj
            rwa [Addr.add_lit, Addr.add_lit] at this)
          exact ⟨_, _, _, Xs, rfl, h1, by omega, ⟨fun X hX => (h2 X hX).1, .inr ⟨g, o, rfl, h3⟩⟩, h2⟩
      · cases hf
end
/-- A row's value. -/
structure RowV where
  A : Option Addr
  n : Nat
  c : Nat
  Xs : List OpV
def RowV.val (R : RowV) : Value := .slice R.A R.n R.c
end Go.Proofs.Ytodfaakodgedbaa

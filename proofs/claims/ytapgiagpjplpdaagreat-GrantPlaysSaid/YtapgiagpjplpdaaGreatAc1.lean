
/- grant: acts that come in. -/
import Derived.Test.YtapgiagpjplpdaaGreatGr10
import Derived.Test.YtapgiagpjplpdaaGreatOpE
set_option linter.unusedSimpArgs false
set_option linter.unusedVariables false
namespace Go.Proofs.YtapgiagpjplpdaaGreat
open Go.RowKit Go.Qc Go.Shelf
attribute [local go_sem] txt_size txt_append ib_fold txt_toL
/-- An act: by whom, and the operation, with its rows' places. -/
structure AcV where
  y : List UInt8
  D : OpD
  A : Option Addr
  n : Nat
  c : Nat
  B : Option Addr
  m : Nat
  d : Nat
def AcV.op (Z : AcV) : Array Value := opC Z.D Z.A Z.n Z.c Z.B Z.m Z.d
def AcV.cs (Z : AcV) : Array Value := idVals Z.y ++ Z.op
def AcV.ok (Z : AcV) : Prop := Z.y.length = 32 ∧ Z.D.K.length = 32
theorem AcV.size {Z : AcV} (h : Z.ok) : Z.cs.size = 71 := by unfold AcV.cs AcV.op; rw [Array.size_append, idVals_size, h.1, opC_size _ _ _ _ _ _ _ h.2]
theorem AcV.one (Z : AcV) : Z.cs.all (·.oneCell') = true := by
  unfold AcV.cs AcV.op
  rw [Array.all_append, idVals_one, opC_one]
  rfl
def acsV (Xs : List AcV) : List Value := Xs.flatMap (fun X => X.cs.toList)
theorem acsV_cons (X : AcV) (Xs : List AcV) : acsV (X :: Xs) = X.cs.toList ++ acsV Xs := by simp [acsV]
theorem acsV_snoc (Xs : List AcV) (X : AcV) : acsV (Xs ++ [X]) = acsV Xs ++ X.cs.toList := by simp [acsV]
theorem acsV_length : ∀ (Xs : List AcV), (∀ X ∈ Xs, X.ok) → (acsV Xs).length = Xs.length * 71
  | [], _ => rfl
  | X :: Xs, h => by
    rw [acsV_cons, List.length_append, Array.length_toList, AcV.size (h X (by simp)), acsV_length Xs (fun x hx => h x (by simp [hx])), List.length_cons]
    omega
theorem acsV_get : ∀ (Xs : List AcV) (k : Nat) (X : AcV) (j : Nat) (v : Value), (∀ X ∈ Xs, X.ok) → Xs[k]? = some X → X.cs.toList[j]? = some v → (acsV Xs)[k * 71 + j]? = some v
  | [], k, X, j, v, _, hk, _ => by simp at hk
  | Y :: Xs, 0, X, j, v, h, hk, hj => by
    simp at hk
    subst hk
    have hlt := (List.getElem?_eq_some_iff.1 hj).1
    rw [acsV_cons, Nat.zero_mul, Nat.zero_add, List.getElem?_append_left hlt]
    exact hj
  | Y :: Xs, k + 1, X, j, v, h, hk, hj => by
    have hb := AcV.size (h Y (by simp))
    rw [List.getElem?_cons_succ] at hk
    rw [acsV_cons, List.getElem?_append_right (by rw [Array.length_toList, hb]; omega), Array.length_toList, hb, show (k + 1) * 71 + j - 71 = k * 71 + j by omega]
    exact acsV_get Xs k X j v (fun x hx => h x (by simp [hx])) hk hj
/-- A row of acts lies at A. -/
def AcRd (w : World) (A : Option Addr) (Xs : List AcV) : Prop := (∀ X ∈ Xs, X.ok) ∧ (Xs = [] ∨ ∃ g o, A = some ⟨g, o, none⟩ ∧ w.rangeAt g o (acsV Xs))
theorem AcRd.nil_ (w : World) (A : Option Addr) : AcRd w A [] := ⟨by simp, .inl rfl⟩
theorem Ac_infoN : (Tryz.prog.info? 36).map (·.size) = some 71 := by kernel_rfl
theorem Ac_info (X : AcV) (h : X.ok) : (Tryz.prog.info? 36).map (·.size) = some X.cs.size := by rw [AcV.size h]; exact Ac_infoN
theorem Ac_info3 : ∃ i, Tryz.prog.info? 36 = some i ∧ i.size = 71 := by
  have h := Ac_infoN
  cases hq : Tryz.prog.info? 36 with
  | none => rw [hq] at h; cases h
  | some i => rw [hq] at h; simp at h; exact ⟨i, rfl, h⟩
theorem AcRd.pick {w : World} {A : Option Addr} {Xs : List AcV} {n : Nat} (c : Nat) (h : AcRd w A Xs) (hn : Xs.length = n) {k : Nat} {X : AcV} (hk : Xs[k]? = some X) :
    ∃ g q, w.rangeAt g q X.cs.toList ∧ g < w.heap.size ∧ X.ok ∧ ∀ W : World, (Instr.indexAt 24 (.slice A n c) (.int .i64 (k : Int))).run Tryz.prog W = .ok (.pointer (some ⟨g, q, none⟩)) W := by
  obtain ⟨h1, rfl | ⟨g, o, rfl, h2⟩⟩ := h
  · simp at hk
  · have hX := h1 X (List.mem_of_getElem? hk)
    have hr : w.rangeAt g (o + k * 71) X.cs.toList := fun j v hj => by rw [Nat.add_assoc]; exact h2 _ _ (acsV_get Xs k X j v h1 hk hj)
    obtain ⟨u, hu⟩ : ∃ u, X.cs.toList[0]? = some u := ⟨_, List.getElem?_eq_getElem (by rw [Array.length_toList, AcV.size hX]; decide)⟩
    refine ⟨g, o + k * 71, hr, World.block_lt_of_cell? w _ (hr 0 u hu), hX, fun W => ?_⟩
    obtain ⟨i0, hi, h71⟩ := Ac_info3
    have hlt : k < n := by rw [← hn]; exact (List.getElem?_eq_some_iff.1 hk).1
    have h1 : (0 : Int) ≤ (k : Int) ∧ (k : Int) < (n : Int) := by omega
    simp [Instr.indexAt, run_underlying Tryz.underlying24, asIntOf, h1, sizeOf, typeInfo, hi, h71, Addr.add_lit, Int.toNat_natCast]
    intro h2; omega
/-- An act's rows, where they lie. -/
def AcIn (w : World) (X : AcV) : Prop := X.ok ∧ LnO w X.A X.n X.D.o ∧ LnO w X.B X.m X.D.n ∧ X.D.p.length ≤ 9223372036854775807 ∧ X.D.t.length ≤ 9223372036854775807
def AcRow (w : World) (A : Option Addr) (len : Nat) (Xs : List AcV) : Prop := Xs.length = len ∧ len ≤ maxLen ∧ AcRd w A Xs ∧ ∀ X ∈ Xs, AcIn w X
theorem all_acts {w : World} {g o : Nat} : ∀ (n : Nat), (∀ i, i < n → ∃ X : AcV, AcIn w X ∧ w.rangeAt g (o + i * 71) X.cs.toList) → ∃ Xs : List AcV, Xs.length = n ∧ (∀ X ∈ Xs, AcIn w X) ∧ w.rangeAt g o (acsV Xs)
  | 0, _ => ⟨[], rfl, by simp, fun j v h => by simp [acsV] at h⟩
  | n + 1, h => by
    obtain ⟨Xs, h1, h2, h3⟩ := all_acts n (fun i hi => h i (by omega))
    obtain ⟨X, hX, hr⟩ := h n (by omega)
    refine ⟨Xs ++ [X], by simp [h1], fun Y hY => ?_, fun j v hj => ?_⟩
    · rcases List.mem_append.1 hY with hY | hY
      · exact h2 Y hY
      · simp at hY; rw [hY]; exact hX
    · rw [acsV_snoc] at hj
      by_cases hlt : j < (acsV Xs).length
      · rw [List.getElem?_append_left hlt] at hj
        exact h3 j v hj
      · rw [List.getElem?_append_right (by omega)] at hj
        rw [acsV_length Xs (fun X hX => (h2 X hX).1), h1] at hj hlt
        have := hr _ _ hj
        rwa [show o + n * 71 + (j - n * 71) = o + j by omega] at this
section
open Go.ChangeShapes Go.WideShapes Go.ChangeAt
variable {H : Type} {enc : TypeId × Value → H} {w : World} {r : Reach} {base b0 : Nat} {sp : Nat → Bool} {hd : Bool}
set_option maxRecDepth 100000 in
theorem trod_act {fuel : Nat} {cs : List Value} {x : DataW H × List MemPlace} (h : DataW.trod enc Tryz.prog w base sp hd fuel 36 cs = some x) : ∃ Z : AcV, cs = Z.cs.toList ∧ AcIn w Z := by
  obtain ⟨xs, k, _, _, hl, hxl, hx⟩ := DataW.trod_struct Tryz.underlying36 h
  have hc71 : Tryz.prog.cellsOf 36 = 71 := by kernel_rfl
  have hc39 : Tryz.prog.cellsOf 34 = 39 := by kernel_rfl
  have hci : Tryz.prog.cellsOf 23 = 32 := by kernel_rfl
  rw [hc71] at hl
  have h0 := hx 0 _ rfl
  have h1 := hx 1 _ rfl
  have g : ∀ i : Nat, i < 2 → ∃ y, xs[i]? = some y := fun i hi => ⟨_, List.getElem?_eq_getElem (by rw [hxl]; exact hi)⟩
  obtain ⟨y0, e0⟩ := g 0 (by decide)
  obtain ⟨y1, e1⟩ := g 1 (by decide)
  rw [e0] at h0
  rw [e1] at h1
  obtain ⟨K, lK, q0⟩ := trod_id Tryz.underlying23 Tryz.underlying5 (by kernel_rfl) hci h0
  obtain ⟨D, A, n, c, B, m, d, q1, w0, w1, w2, w3, w4⟩ := trod_op h1
  have u0 : (cs.drop 0).take (Tryz.prog.cellsOf 23) = _ := q0
  have u1 : (cs.drop 32).take (Tryz.prog.cellsOf 34) = _ := q1
  rw [hci] at u0
  rw [hc39] at u1
  refine ⟨⟨K, D, A, n, c, B, m, d⟩, ?_, ⟨lK, w0⟩, w1, w2, w3, w4⟩
  have e : cs = (cs.drop 0).take 32 ++ (cs.drop 32).take 39 := by
    rw [List.drop_zero, List.take_of_length_le (by rw [List.length_drop]; omega : (cs.drop 32).length ≤ 39), List.take_append_drop]
  rw [u0, u1] at e
  rw [e]
  unfold AcV.cs AcV.op idVals
  simp
set_option maxRecDepth 100000 in
theorem open_actRow {v : Value} {d : DataW H} {ps : List MemPlace} (hv : Value.okWide Tryz.prog w r b0 24 v) (h : DataW.Trod enc Tryz.prog w base sp hd 24 v d ps) : ∃ a len cap Xs, v = .slice a len cap ∧ AcRow w a len Xs := by
  have ht := Tryz.underlying24
  have hn : Tryz.prog.cellsOf 36 = 71 := by kernel_rfl
  obtain ⟨a0, len0, cap0, rfl⟩ := okWide_slice ht hv
  obtain ⟨fuel, hf⟩ := h
  cases fuel with
  | zero => simp [DataW.trod] at hf
  | succ m =>
    rw [DataW.trod_step] at hf
    unfold DataW.trodStep at hf
    simp only [ht, Value.cells] at hf
    cases a0 with
    | none =>
      rcases len0 with _ | len0
      · exact ⟨none, 0, cap0, [], rfl, rfl, Nat.zero_le _, AcRd.nil_ _ _, by simp⟩
      · simp at hf
    | some a =>
      simp only [hn] at hf
      split at hf
      · rename_i hcond
        simp only [Option.bind_eq_some_iff] at hf
        obtain ⟨ys, hy, _⟩ := hf
        have hy2 := mapM_each _ _ hy
        have hall : ∀ i, i < len0 → ∃ X : AcV, AcIn w X ∧ ∀ j v, X.cs.toList[j]? = some v → w.cell? ((a.add (i * 71)).add j) = some v := fun i hi => by
          obtain ⟨y, hy⟩ := hy2 i (List.mem_range.2 (by omega))
          simp only [Option.bind_eq_some_iff] at hy
          obtain ⟨cs, hcs, htr⟩ := hy
          obtain ⟨Z, rfl, hZ⟩ := trod_act htr
          refine ⟨Z, hZ, fun j v hj => ?_⟩
          have hj71 : j < 71 := by have := (List.getElem?_eq_some_iff.1 hj).1; rw [Array.length_toList, AcV.size hZ.1] at this; exact this
          exact ((World.cells?_some hcs).2.2 j hj71).trans hj
        by_cases h0 : len0 = 0
        · subst h0
          exact ⟨_, _, _, [], rfl, rfl, Nat.zero_le _, AcRd.nil_ _ _, by simp⟩
        · have hsp : a.spot = none := by
            obtain ⟨X, hX, hr⟩ := hall 0 (by omega)
            obtain ⟨v, hv⟩ : ∃ v, X.cs.toList[0]? = some v := ⟨_, List.getElem?_eq_getElem (by rw [Array.length_toList, AcV.size hX.1]; omega)⟩
            have := hr 0 v hv
            cases hs : a.spot with
            | none => rfl
            | some s => simp [Addr.add, World.cell?, hs] at this; split at this <;> simp_all
          obtain ⟨g, o, sp⟩ := a
          obtain rfl : sp = none := hsp
          obtain ⟨Xs, h1, h2, h3⟩ := all_acts (w := w) (g := g) (o := o) len0 (fun i hi => by
            obtain ⟨X, hX, hr⟩ := hall i hi
            refine ⟨X, hX, fun j v hj => ?_⟩
            have := hr j v hj
            rwa [Addr.add_lit, Addr.add_lit] at this)
          exact ⟨_, _, _, Xs, rfl, h1, by omega, ⟨fun X hX => (h2 X hX).1, .inr ⟨g, o, rfl, h3⟩⟩, h2⟩
      · cases hf
end
end Go.Proofs.YtapgiagpjplpdaaGreat

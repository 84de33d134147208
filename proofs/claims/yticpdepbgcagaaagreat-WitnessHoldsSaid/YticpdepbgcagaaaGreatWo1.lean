
/- witness: params and a signature that came in. -/
import Derived.Test.YticpdepbgcagaaaGreatWi10
import Derived.ChangeShapes
set_option linter.unusedSimpArgs false
set_option linter.unusedVariables false
namespace Go.Proofs.YticpdepbgcagaaaGreat
open Go.RowKit Go.Qc
open Go.ChangeShapes Go.WideShapes Go.ChangeAt
attribute [local go_sem] txt_size
section
variable {H : Type} {enc : TypeId × Value → H} {P : Program} {w : World} {r : Reach} {base b0 : Nat} {sp : Nat → Bool} {hd : Bool}
theorem open_idRowW {t e q : TypeId} {a0 : Option Addr} {len0 cap0 : Nat} {d : DataW H} {ps : List MemPlace} (ht : P.underlying t = some (.slice e)) (he : P.underlying e = some (.array 32 q)) (hq : P.underlying q = some (.int .u8)) (hc : P.cellsOf q = 1) (hn : P.cellsOf e = 32)
    (h : DataW.Trod enc P w base sp hd t (.slice a0 len0 cap0) d ps) : ∃ a len cap ids, Value.slice a0 len0 cap0 = .slice a len cap ∧ IdRow w a len ids ∧ len ≤ cap := by
  obtain ⟨fuel, hf⟩ := h
  cases fuel with
  | zero => simp [DataW.trod] at hf
  | succ m =>
    rw [DataW.trod_step] at hf
    unfold DataW.trodStep at hf
    simp only [ht, Value.cells] at hf
    cases a0 with
    | none =>
      rcases len0 with _ | len0
      · exact ⟨none, 0, cap0, [], rfl, ⟨rfl, Nat.zero_le _, IdRd.nil_ _ _⟩, Nat.zero_le _⟩
      · simp at hf
    | some a =>
      simp only [hn] at hf
      split at hf
      · rename_i hcond
        simp only [Option.bind_eq_some_iff] at hf
        obtain ⟨ys, hy, _⟩ := hf
        have hy2 := mapM_each _ _ hy
        have hall : ∀ i, i < len0 → ∃ l : List UInt8, l.length = 32 ∧ ∀ j v, (l.map u8v)[j]? = some v → w.cell? ((a.add (i * 32)).add j) = some v := fun i hi => by
          obtain ⟨y, hy⟩ := hy2 i (List.mem_range.2 hi)
          simp only [Option.bind_eq_some_iff] at hy
          obtain ⟨cs, hcs, htr⟩ := hy
          obtain ⟨l, hl, rfl⟩ := trod_id he hq hc hn htr
          refine ⟨l, hl, fun j v hj => ?_⟩
          have hj32 : j < 32 := by have := (List.getElem?_eq_some_iff.1 hj).1; rw [List.length_map, hl] at this; exact this
          exact ((World.cells?_some hcs).2.2 j hj32).trans hj
        by_cases h0 : len0 = 0
        · subst h0
          exact ⟨_, _, _, [], rfl, ⟨rfl, Nat.zero_le _, IdRd.nil_ _ _⟩, Nat.zero_le _⟩
        · have hsp : a.spot = none := by
            obtain ⟨l, hl, hr⟩ := hall 0 (by omega)
            obtain ⟨v, hv⟩ : ∃ v, (l.map u8v)[0]? = some v := ⟨_, List.getElem?_eq_getElem (by rw [List.length_map]; omega)⟩
            have := hr 0 v hv
            cases hs : a.spot with
            | none => rfl
            | some s => simp [Addr.add, World.cell?, hs] at this; split at this <;> simp_all
          obtain ⟨g, o, sp⟩ := a
          obtain rfl : sp = none := hsp
          obtain ⟨ids, h1, h2, h3⟩ := all_ids (w := w) (g := g) (o := o) len0 (fun i hi => by
            obtain ⟨l, hl, hr⟩ := hall i hi
            refine ⟨l, hl, fun j v hj => ?_⟩
            have := hr j v hj
            rwa [Addr.add_lit, Addr.add_lit] at this)
          exact ⟨_, _, _, ids, rfl, ⟨h1, by omega, h2, .inr ⟨g, o, rfl, h3⟩⟩, by omega⟩
      · cases hf
theorem trod_idRowW {t e q : TypeId} {fuel : Nat} {cs : List Value} {x : DataW H × List MemPlace} (ht : P.underlying t = some (.slice e)) (he : P.underlying e = some (.array 32 q)) (hq : P.underlying q = some (.int .u8)) (hc : P.cellsOf q = 1) (hn : P.cellsOf e = 32)
    (h : DataW.trod enc P w base sp hd fuel t cs = some x) : ∃ a len cap ids, cs = [.slice a len cap] ∧ IdRow w a len ids ∧ len ≤ cap := by
  obtain ⟨d, ps⟩ := x
  rcases DataW.trod_slice ht h with ⟨rfl, _⟩ | ⟨a, len, cap, _, _, _, _, rfl, _⟩
  · exact ⟨none, 0, 0, [], rfl, ⟨rfl, Nat.zero_le _, IdRd.nil_ _ _⟩, Nat.zero_le _⟩
  · obtain ⟨a1, l1, c1, ids, e, hi⟩ := open_idRowW (d := d) (ps := ps) ht he hq hc hn ⟨fuel, h⟩
    exact ⟨a1, l1, c1, ids, by rw [e], hi⟩
end
section
variable {H : Type} {enc : TypeId × Value → H} {w : World} {r : Reach} {base b0 : Nat} {sp : Nat → Bool} {hd : Bool}
end
section
variable {H : Type} {enc : TypeId × Value → H} {w : World} {r : Reach} {base b0 : Nat} {sp : Nat → Bool} {hd : Bool}
set_option maxRecDepth 100000 in
/-- A signature that came in. -/
theorem open_sigW {v : Value} {d : DataW H} {ps : List MemPlace} (hv : Value.okWide Tryz.prog w r b0 27 v) (h : DataW.Trod enc Tryz.prog w base sp hd 27 v d ps) :
    ∃ (L : Int) (A B C : Option Addr) (k1 k2 k3 c1 c2 c3 : Nat) (l r way : List (List UInt8)), v = .agg #[.int .i64 L, .slice A k1 c1, .slice B k2 c2, .slice C k3 c3] ∧ (Lit.int .i64 L).wf = true ∧ IdRow w A k1 l ∧ IdRow w B k2 r ∧ IdRow w C k3 way ∧ k3 ≤ c3 := by
  simp only [Value.okWide, Tryz.underlying27] at hv
  obtain ⟨cs, rfl, hsz, _⟩ := hv
  obtain ⟨fuel, hf⟩ := h
  obtain ⟨xs, k, _, _, hl, hxl, hx⟩ := DataW.trod_struct Tryz.underlying27 hf
  have hc4 : Tryz.prog.cellsOf 27 = 4 := by kernel_rfl
  have hc1 : Tryz.prog.cellsOf 3 = 1 := by kernel_rfl
  have hcr : Tryz.prog.cellsOf 25 = 1 := by kernel_rfl
  rw [hc4] at hsz
  obtain ⟨x, y, z, u, hxy⟩ : ∃ x y z u, cs = #[x, y, z, u] := by
    obtain ⟨l⟩ := cs
    simp at hsz
    match l, hsz with
    | [x, y, z, u], _ => exact ⟨x, y, z, u, rfl⟩
  subst hxy
  have h0 := hx 0 _ rfl
  have h1 := hx 1 _ rfl
  have h2 := hx 2 _ rfl
  have h3 := hx 3 _ rfl
  have g : ∀ i : Nat, i < 4 → ∃ y, xs[i]? = some y := fun i hi => ⟨_, List.getElem?_eq_getElem (by rw [hxl]; exact hi)⟩
  obtain ⟨y0, e0⟩ := g 0 (by decide)
  obtain ⟨y1, e1⟩ := g 1 (by decide)
  obtain ⟨y2, e2⟩ := g 2 (by decide)
  obtain ⟨y3, e3⟩ := g 3 (by decide)
  rw [e0] at h0
  rw [e1] at h1
  rw [e2] at h2
  rw [e3] at h3
  simp only [Value.cells] at h0 h1 h2 h3
  obtain ⟨L, q0, _, w0⟩ := DataW.trod_int Tryz.underlying3 h0
  obtain ⟨A, k1, c1, l, q1, w1, _⟩ := trod_idRowW Tryz.underlying25 Tryz.underlying24 Tryz.underlying5 (by kernel_rfl) (by kernel_rfl) h1
  obtain ⟨B, k2, c2, r, q2, w2, _⟩ := trod_idRowW Tryz.underlying25 Tryz.underlying24 Tryz.underlying5 (by kernel_rfl) (by kernel_rfl) h2
  obtain ⟨C, k3, c3, way, q3, w3, w4⟩ := trod_idRowW Tryz.underlying25 Tryz.underlying24 Tryz.underlying5 (by kernel_rfl) (by kernel_rfl) h3
  simp [hc1] at q0
  simp [hcr] at q1 q2 q3
  exact ⟨L, A, B, C, k1, k2, k3, c1, c2, c3, l, r, way, by rw [q0, q1, q2, q3], w0, w1, w2, w3, w4⟩
end
end Go.Proofs.YticpdepbgcagaaaGreat


/- hunk: rows of hunks that come in; All of lines that may not be; all of them back. -/
import Derived.Test.YtkciohifldgdjaaHunkApplies
import Derived.Test.YtkciohifldgdjaaHk16
import Derived.Test.YtkciohifldgdjaaBw3
set_option linter.unusedSimpArgs false
set_option linter.unusedVariables false
namespace Go.Proofs.Ytkciohifldgdjaa
open Go.RowKit Go.Qc Go.Shelf
attribute [local go_sem] txt_size txt_append ib_fold txt_toL

section
open Go.ChangeShapes Go.WideShapes Go.ChangeAt
variable {H : Type} {enc : TypeId × Value → H} {w : World} {r : Reach} {base b0 : Nat} {sp : Nat → Bool} {hd : Bool}
/-- A hunk that came in, in memory. -/
def HkCame (w : World) (p : Addr) (h : HunkD) : Prop := ∃ A n c B m d, w.cell? ⟨p.block, p.off, none⟩ = some (.int .i64 h.1) ∧ w.cell? ⟨p.block, p.off + 1, none⟩ = some (.slice A n c) ∧ w.cell? ⟨p.block, p.off + 2, none⟩ = some (.slice B m d) ∧ (Lit.int .i64 h.1).wf = true ∧ LnRow w A n c h.2.1 ∧ LnRow w B m d h.2.2
/-- Hunks that came in. -/
def HkRow (w : World) (A : Option Addr) (n : Nat) (hs : List HunkD) : Prop := hs.length = n ∧ n ≤ 9223372036854775807 ∧ ∀ j h, hs[j]? = some h → ∃ g o, A = some ⟨g, o, none⟩ ∧ HkCame w ⟨g, o + j * 3, none⟩ h
set_option maxRecDepth 100000 in
theorem trod_hunk {fuel : Nat} {cs : List Value} {x : DataW H × List MemPlace} (h : DataW.trod enc Try.prog w base sp hd fuel 38 cs = some x) :
    ∃ (L : Int) (A B : Option Addr) (n m c d : Nat) (old new : List (List UInt8)), cs = [.int .i64 L, .slice A n c, .slice B m d] ∧ (Lit.int .i64 L).wf = true ∧ LnRow w A n c old ∧ LnRow w B m d new := by
  obtain ⟨xs, k, _, _, hl, hxl, hx⟩ := DataW.trod_struct Try.underlying38 h
  have hc3 : Try.prog.cellsOf 38 = 3 := by kernel_rfl
  have hc1 : Try.prog.cellsOf 3 = 1 := by kernel_rfl
  have hcr : Try.prog.cellsOf 22 = 1 := by kernel_rfl
  rw [hc3] at hl
  obtain ⟨x, y, z, rfl⟩ : ∃ x y z, cs = [x, y, z] := by
    match cs, hl with
    | [x, y, z], _ => exact ⟨x, y, z, rfl⟩
  have h0 := hx 0 _ rfl
  have h1 := hx 1 _ rfl
  have h2 := hx 2 _ rfl
  have g : ∀ i : Nat, i < 3 → ∃ y, xs[i]? = some y := fun i hi => ⟨_, List.getElem?_eq_getElem (by rw [hxl]; exact hi)⟩
  obtain ⟨y0, e0⟩ := g 0 (by decide)
  obtain ⟨y1, e1⟩ := g 1 (by decide)
  obtain ⟨y2, e2⟩ := g 2 (by decide)
  rw [e0] at h0
  rw [e1] at h1
  rw [e2] at h2
  obtain ⟨L, q0, _, w0⟩ := DataW.trod_int Try.underlying3 h0
  obtain ⟨A, n, c, old, q1, w1⟩ := trod_ln h1
  obtain ⟨B, m, d, new, q2, w2⟩ := trod_ln h2
  simp [hc1] at q0
  simp [hcr] at q1 q2
  exact ⟨L, A, B, n, m, c, d, old, new, by rw [q0, q1, q2], w0, w1, w2⟩
set_option maxRecDepth 100000 in
theorem open_hunks {v : Value} {d : DataW H} {ps : List MemPlace} (hv : Value.okWide Try.prog w r b0 25 v) (h : DataW.Trod enc Try.prog w base sp hd 25 v d ps) :
    ∃ A n c hs, v = .slice A n c ∧ HkRow w A n hs := by
  obtain ⟨a0, len0, cap0, rfl⟩ := okWide_slice Try.underlying25 hv
  obtain ⟨fuel, hf⟩ := h
  have hc3 : Try.prog.cellsOf 38 = 3 := by kernel_rfl
  rcases DataW.trod_slice Try.underlying25 hf with ⟨hcs, _⟩ | ⟨a, len, cap, elems, rest, n, _, hcs, _, hb, hl, hm, hlen, hel, _, _⟩
  · simp [Value.cells] at hcs
    obtain ⟨rfl, rfl, rfl⟩ := hcs
    exact ⟨_, _, _, [], rfl, rfl, by decide, by simp⟩
  · simp [Value.cells] at hcs
    obtain ⟨rfl, rfl, rfl⟩ := hcs
    unfold maxLen at hm
    have each : ∀ i, i < len0 → ∃ h : HunkD, ∃ g o, a = ⟨g, o, none⟩ ∧ HkCame w ⟨g, o + i * 3, none⟩ h := by
      intro i hi
      have he := hel i hi
      rw [List.getElem?_eq_getElem (by omega), hc3, Option.bind_eq_some_iff] at he
      obtain ⟨cs, hcs, ht⟩ := he
      obtain ⟨L, A, B, n1, m1, c1, d1, old, new, rfl, w0, w1, w2⟩ := trod_hunk ht
      obtain ⟨_, _, hcell⟩ := World.cells?_some hcs
      have q0 := hcell 0 (by decide)
      have q1 := hcell 1 (by decide)
      have q2 := hcell 2 (by decide)
      have hsp : a.spot = none := by
        by_cases h0 : i = 0
        · subst h0
          have q : w.cell? a = some (.int .i64 L) := by simpa [Addr.add] using q0
          unfold World.cell? at q
          split at q
          · split at q
            · cases q
            · rename_i hs; simpa using hs
          · cases q
        · have he0 := hel 0 (by omega)
          rw [List.getElem?_eq_getElem (by omega), hc3, Option.bind_eq_some_iff] at he0
          obtain ⟨cs0, hcs0, ht0⟩ := he0
          obtain ⟨L0, _, _, _, _, _, _, _, _, rfl, _, _, _⟩ := trod_hunk ht0
          have q := (World.cells?_some hcs0).2.2 0 (by decide)
          have q : w.cell? a = some (.int .i64 L0) := by simpa [Addr.add] using q
          unfold World.cell? at q
          split at q
          · split at q
            · cases q
            · rename_i hs; simpa using hs
          · cases q
      obtain ⟨g, o, sp⟩ := a
      simp only at hsp
      subst hsp
      have ea : ∀ k, (((⟨g, o, none⟩ : Addr).add (i * 3)).add k) = ⟨g, o + i * 3 + k, none⟩ := by
        intro k
        unfold Addr.add
        by_cases h1 : i * 3 = 0 <;> by_cases h2 : k = 0 <;> simp [h1, h2, Nat.add_assoc]
      rw [ea] at q0 q1 q2
      refine ⟨(L, old, new), g, o, rfl, A, n1, c1, B, m1, d1, ?_, ?_, ?_, w0, w1, w2⟩
      · simpa using q0
      · simpa using q1
      · simpa using q2
    have hch : ∃ f : Nat → HunkD, ∀ i, i < len0 → ∃ g o, a = ⟨g, o, none⟩ ∧ HkCame w ⟨g, o + i * 3, none⟩ (f i) := by
      refine ⟨fun i => if h : i < len0 then (each i h).choose else (0, [], []), fun i hi => ?_⟩
      simp only [dif_pos hi]
      exact (each i hi).choose_spec
    obtain ⟨f, hf2⟩ := hch
    refine ⟨_, _, _, (List.range len0).map f, rfl, by simp, by omega, fun j h hj => ?_⟩
    have hjl : j < len0 := by
      have := (List.getElem?_eq_some_iff.1 hj).1
      simpa using this
    rw [List.getElem?_map, List.getElem?_range hjl] at hj
    simp at hj
    subst hj
    obtain ⟨g, o, rfl, h⟩ := hf2 j hjl
    exact ⟨g, o, rfl, h⟩
end
end Go.Proofs.Ytkciohifldgdjaa

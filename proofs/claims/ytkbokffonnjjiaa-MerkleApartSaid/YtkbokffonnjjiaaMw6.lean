/- merkle: the program's Climb: one step of the closure. -/
import Derived.Test.YtkbokffonnjjiaaMw4
import Derived.Deep.DeepCutAuto
set_option linter.unusedSimpArgs false
set_option linter.unusedVariables false
namespace Go.Proofs.Ytkbokffonnjjiaa
open Go.RowKit Go.Qc Go.Shelf
attribute [local go_sem] txt_size txt_append ib_fold
theorem blk_neM {W : World} {a b : Nat} {s t : TypeId} {x y : Array Value} (h : Blk W a s x) (k : Blk W b t y) (hne : s ≠ t) : a ≠ b := by
  rintro rfl
  have e := Option.some.inj (h.symm.trans k)
  injection e with _ e2 _
  exact hne e2
theorem wp_allocI {w : World} {o : Oper} {a : Act} {K : Act → World → Prop} {Q : Exit → Act → World → Prop} (ho : o.op = .alloc 24)
    (h : ∀ g cs w', cs.size = 32 → Hid (g = w.heap.size) → Blk w' g 24 cs → Below w.heap.size w w' → K (a.put o.dst (.pointer (some ⟨g, 0, none⟩))) w') : o.wp Try.prog a w K Q := by
  obtain ⟨i0, hi, hz, hs, hb⟩ := infoId2_parts
  have h9 := h w.heap.size (idVals zeroB) (w.alloc (.cells (idVals zeroB) 24)) (by rw [idVals_size]; decide) (hid rfl) (Blk.new _ _ _) ((Below.refl _ _).alloc (Nat.le_refl _) _)
  unfold Oper.wp
  simp only [execOp, ho]
  simp [Instr.alloc, zeroValue, typeInfo, hi, hz, newVar, newRow, Value.cells, newObj]
  exact h9
/-- Climbing under way: the place's box, the result's, the root's, the way's. -/
structure CbS (w0 : World) (gp gz gr gw : Nat) (X : PlD) (R : List UInt8) (A : Option Addr) (m c : Nat) (l : List (List UInt8)) (W : World) : Prop where
  x : PlX W gp X
  z : Blk W gz 24 (idVals zeroB)
  r : Blk W gr 24 (idVals R)
  s : Blk W gw 22 #[.slice A m c]
  q : RowC w0 A m c l
  b : Below w0.heap.size w0 W
  n1 : w0.heap.size ≤ gr
  n2 : w0.heap.size ≤ gw
  n3 : gz ≠ gr
section
variable {w0 : World} {gp gz gr gw : Nat} {X : PlD} {R R' : List UInt8} {A A' : Option Addr} {m m' c c' : Nat} {l l' : List (List UInt8)} {W W' : World}
theorem CbS.below (h : CbS w0 gp gz gr gw X R A m c l W) (hb : Below W.heap.size W W') : CbS w0 gp gz gr gw X R A m c l W' :=
  ⟨h.x.below hb, h.z.below hb, h.r.below hb, h.s.below hb, h.q, h.b.trans (hb.mono h.b.size), h.n1, h.n2, h.n3⟩
end
/-- A row without its first. -/
theorem RowC.tail {w : World} {A : Option Addr} {n c : Nat} {y : List UInt8} {t : List (List UInt8)} (h : RowC w A n c (y :: t)) :
    ∃ A1 c1, (∀ W, (Instr.sliceAt 22 (.slice A n c) (some (.int .i64 1)) none none).run Try.prog W = .ok (.slice A1 (n - 1) c1) W) ∧ RowC w A1 (n - 1) c1 t := by
  obtain ⟨⟨hl, hn, hr⟩, hc⟩ := h
  rcases hc with ⟨rfl, rfl, _⟩ | ⟨_, h1, h2⟩
  · simp at hl
  · obtain ⟨g, o, B, rfl, _, _, e, r⟩ := hr.uncons n c hl h1 h2
    exact ⟨some B, c - 1, e, ⟨by simp at hl; omega, by omega, r⟩, .inr ⟨⟨_, rfl⟩, by omega, by omega⟩⟩
end Go.Proofs.Ytkbokffonnjjiaa
/- merkle: the program's Climb, where the place leads. -/
set_option linter.unusedSimpArgs false
set_option linter.unusedVariables false
namespace Go.Proofs.Ytkbokffonnjjiaa
open Go.RowKit Go.Qc Go.Shelf
attribute [local go_sem] txt_size txt_append ib_fold
/-- The parts beside a place never hold it. -/
theorem partsL_apart (a b p : Nat) (ha : a ≤ p) (hb : p < b) : ∀ x ∈ partsL a b p, p < x.1 ∨ x.2 ≤ p := by
  intro x hx
  by_cases h : b - a ≤ 1
  · rw [partsL_end p h] at hx; cases hx
  · have hk := halfM_ok (n := b - a) (by omega)
    by_cases hp : p < a + halfM (b - a)
    · rw [partsL_low h hp] at hx
      rcases List.mem_append.1 hx with h1 | h1
      · exact partsL_apart a (a + halfM (b - a)) p ha hp x h1
      · rw [List.mem_singleton.1 h1]
        exact .inl hp
    · rw [partsL_high h hp] at hx
      rcases List.mem_append.1 hx with h1 | h1
      · exact partsL_apart (a + halfM (b - a)) b p (by omega) hb x h1
      · rw [List.mem_singleton.1 h1]
        exact .inr (by omega)
termination_by b - a
decreasing_by all_goals omega
end Go.Proofs.Ytkbokffonnjjiaa


/- hunk: what came in; what a hunk makes, and that its other way undoes it. -/
import Derived.Test.YtkciohifldgdjaaHk8
set_option linter.unusedSimpArgs false
set_option linter.unusedVariables false
namespace Go.Proofs.Ytkciohifldgdjaa
open Go.RowKit Go.Qc Go.Shelf

section
open Go.ChangeShapes Go.WideShapes Go.ChangeAt
variable {H : Type} {enc : TypeId × Value → H} {w : World} {r : Reach} {base b0 : Nat} {sp : Nat → Bool} {hd : Bool}
/-- Lines that came in: a slice of texts, with its room. -/
def LnRow (w : World) (A : Option Addr) (n c : Nat) (ls : List (List UInt8)) : Prop := ls.length = n ∧ n ≤ c ∧ (A = none → c = 0) ∧ n ≤ 9223372036854775807 ∧ Rd w A (ls.map strV) ∧ ∀ x ∈ ls, x.length ≤ 9223372036854775807
theorem trod_ln {fuel : Nat} {cs : List Value} {x : DataW H × List MemPlace} (h : DataW.trod enc Try.prog w base sp hd fuel 22 cs = some x) : ∃ A n c ls, cs = [.slice A n c] ∧ LnRow w A n c ls := by
  rcases open_strings Try.underlying22 Try.underlying9 (by kernel_rfl) h with ⟨hcs, _⟩ | ⟨a, l, c, zs, hcs, _, hl, hm, hz, _, hcell, hwz⟩
  · exact ⟨none, 0, 0, [], hcs, rfl, Nat.le_refl _, fun _ => rfl, by decide, .inl rfl, by simp⟩
  · unfold maxLen at hm hwz
    have hlen : l ≤ zs.length := by rw [hz]; split <;> omega
    refine ⟨some a, l, c, (zs.take l).map fun s => s.data.toList, hcs, by rw [List.length_map, List.length_take]; omega, hl, (fun h => by cases h), by omega, .inr ⟨a, rfl, ?_⟩, ?_⟩
    · intro j u hu
      rw [List.map_map, List.getElem?_map, List.getElem?_take] at hu
      by_cases hj : j < l
      · rw [if_pos hj, List.getElem?_eq_getElem (by omega)] at hu
        have := hcell j (by omega)
        rw [List.getD_eq_getElem?_getD, List.getElem?_eq_getElem (by omega)] at this
        rw [this]
        simp at hu
        rw [← hu]; rfl
      · rw [if_neg hj] at hu; simp at hu
    · intro y hy
      obtain ⟨s, hs, rfl⟩ := List.mem_map.1 hy
      exact hwz s (List.mem_of_mem_take hs)
set_option maxRecDepth 100000 in
theorem open_ln {v : Value} {d : DataW H} {ps : List MemPlace} (hv : Value.okWide Try.prog w r b0 22 v) (h : DataW.Trod enc Try.prog w base sp hd 22 v d ps) : ∃ A n c ls, v = .slice A n c ∧ LnRow w A n c ls := by
  obtain ⟨a0, len0, cap0, rfl⟩ := okWide_slice Try.underlying22 hv
  obtain ⟨fuel, hf⟩ := h
  obtain ⟨A, n, c, ls, hcs, hr⟩ := trod_ln hf
  simp [Value.cells] at hcs
  obtain ⟨rfl, rfl, rfl⟩ := hcs
  exact ⟨_, _, _, ls, rfl, hr⟩
end
theorem own_cap {w : World} {base n c : Nat} {e : TypeId} {A : Option Addr} {xs : List Value} (h : w.ownsRow base e 1 (.slice A n c) n xs) : n ≤ c ∧ (A = none → c = 0) := by
  rcases h.2 with ⟨h1, h2⟩ | ⟨g, cap, cur, h1, _, _, hc, _⟩
  · cases h1; exact ⟨Nat.le_refl _, fun _ => rfl⟩
  · cases h1; exact ⟨hc, fun h => by cases h⟩
end Go.Proofs.Ytkciohifldgdjaa

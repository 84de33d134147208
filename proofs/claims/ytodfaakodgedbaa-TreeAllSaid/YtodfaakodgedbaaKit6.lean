
/- append to a row of the call's own: where it lies then; rows that lie apart. Of no program. -/
import Derived.Test.YtodfaakodgedbaaKit
import Derived.Deep.RegionLaw
namespace Go.Qc
open Go.RowKit

/-- Two rows that lie apart. -/
def Apart (v u : Value) : Prop := v.ownBlock = none ∨ u.ownBlock = none ∨ v.ownBlock ≠ u.ownBlock
theorem Apart.symm {v u : Value} (h : Apart v u) : Apart u v := by
  rcases h with h | h | h
  · exact .inr (.inl h)
  · exact .inl h
  · exact .inr (.inr (fun e => h e.symm))
theorem Apart.kept {w w' : World} {v u : Value} {base n : Nat} {e : TypeId} {size : Nat} {xs : List Value} (h : Apart v u) (ho : w.ownsRow base e size u n xs) (hg : w.grownBy w' v.ownBlock) : w'.ownsRow base e size u n xs := by
  rcases h with h | h | h
  · rw [h] at hg
    exact ho.kept hg (by cases hu : u.ownBlock with | none => exact .inl rfl | some k => exact .inr (by simp))
  · exact ho.kept hg (.inl h)
  · exact ho.kept hg (.inr (fun e => h e.symm))
theorem Apart.grow {w : World} {v u v' : Value} {base n : Nat} {e : TypeId} {size : Nat} {xs : List Value} (h : Apart v u) (ho : w.ownsRow base e size u n xs) (hv : v'.ownBlock = v.ownBlock ∨ v'.ownBlock = some w.heap.size) : Apart v' u := by
  rcases hv with hv | hv
  · unfold Apart at h ⊢; rw [hv]; exact h
  · refine .inr (.inr fun e => ?_)
    rw [hv] at e
    have := (ho.lt _ e.symm).2
    omega
end Go.Qc

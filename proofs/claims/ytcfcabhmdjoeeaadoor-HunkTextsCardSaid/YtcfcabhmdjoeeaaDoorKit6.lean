
/- append to a row of the call's own: where it lies then; rows that lie apart. Of no program. -/
import Derived.Test.YtcfcabhmdjoeeaaDoorKit
import Derived.Deep.RegionLaw
namespace Go.Qc
open Go.RowKit

/-- Two rows that lie apart. -/
def Apart (v u : Value) : Prop := v.ownBlock = none ∨ u.ownBlock = none ∨ v.ownBlock ≠ u.ownBlock
theorem Apart.symm {v u : Value} (h : Apart v u) : Apart u v := by
  rcases h with h | h | h
  · exact .inr (.inl h)
  · exact .inl h
  · exact .inr (.inr (fun e => h e.symm))
end Go.Qc


/- Rising rows of ids: what merging, sorting and choosing make of them. No program here. -/
import Derived.Test.YticpdepbgcagaaaGreatId9
namespace Go.Proofs.YticpdepbgcagaaaGreat
open Go.RowKit Go.Qc

def Lt (a b : List UInt8) : Prop := Lib.compareBytes a b < 0
theorem Lt.irr {a : List UInt8} (h : Lt a a) : False := by unfold Lt at h; rw [cmp_refl] at h; omega
theorem Lt.ne {a b : List UInt8} (h : Lt a b) : a ≠ b := fun e => Lt.irr (e ▸ h)
end Go.Proofs.YticpdepbgcagaaaGreat


/- Proved: for every name and row of parts, quitclaimlaw03.TagSums returns true and leaves its arguments as they were. No conditions. -/
import Derived.Test.YthpdkdalfjahcaaTag2
import Derived.Test.YthpdkdalfjahcaaKit4
namespace Go.Proofs.Ythpdkdalfjahcaa
open Go.RowKit Go.Qc
attribute [local go_sem] txt_size

theorem textB_short (nm : List UInt8) (hnm : nm.length ≤ 600) : ∀ (ps : List (List UInt8)), isLong ps = false → (textB nm ps).length ≤ 1000000000000 := by
  intro ps h
  simp only [isLong, Bool.or_eq_false_iff, List.any_eq_false, decide_eq_true_eq, decide_eq_false_iff_not] at h
  have hb : ∀ (qs : List (List UInt8)), (∀ p ∈ qs, ¬ 300 < p.length) → (qs.flatMap partB).length ≤ 308 * qs.length := by
    intro qs hq
    induction qs with
    | nil => simp
    | cons q qs ih =>
      have h1 := hq q (by simp)
      have h2 := ih (fun p hp => hq p (by simp [hp]))
      rw [List.flatMap_cons, List.length_append, partB_length, List.length_cons]
      omega
  have := hb ps h.1
  simp only [textB, List.length_append, List.length_cons, List.length_nil]
  omega
open Go.ChangeShapes Go.WideShapes Go.ChangeAt
open Go.ChangeMaps (open_string shut_string)
theorem own_TagSums : ownKnob Try.prog.godebug = none := by kernel_rfl
theorem laidOut_TagSums : laidOutB Try.prog = true := by kernel_rfl
end Go.Proofs.Ythpdkdalfjahcaa

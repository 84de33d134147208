
/- path: which texts are prefixes, what they cover, what stands beside what, by the program and by the document. -/
import Derived.Test.YtjaenffdbhgmeaaPa5
namespace Go.Proofs.Ytjaenffdbhgmeaa
open Go.RowKit Go.Qc Go.Shelf
attribute [local go_sem] txt_size txt_append ib_fold txt_toL

/-- A prefix; what one covers. -/
def preR (p : List UInt8) : Bool := p.isEmpty || pathR p
def covB (p s : List UInt8) : Bool := p.isEmpty || (p == s || (p ++ [47]).isPrefixOf s)
def covR (p s : List UInt8) : Bool := preR p && (pathR s && covB p s)
theorem pathR_nil : pathR [] = false := by decide
theorem covB_of (p s : List UInt8) : (Lib.hasPrefix s p && (p.isEmpty || ((Lib.trimPrefix s p).isEmpty || Lib.hasPrefix (Lib.trimPrefix s p) [47]))) = covB p s := by
  unfold Lib.trimPrefix covB Lib.hasPrefix
  by_cases h : p <+: s
  · obtain ⟨r, rfl⟩ := h
    have h1 : p.isPrefixOf (p ++ r) = true := by rw [List.isPrefixOf_iff_prefix]; exact ⟨r, rfl⟩
    rw [h1, if_pos rfl, Bool.true_and, List.drop_left]
    congr 1
    rw [Bool.eq_iff_iff]
    simp only [Bool.or_eq_true, List.isEmpty_iff, List.isPrefixOf_iff_prefix, beq_iff_eq]
    rw [List.prefix_append_right_inj]
    constructor
    · rintro (rfl | h)
      · exact .inl (by simp)
      · exact .inr h
    · rintro (h | h)
      · exact .inl (by simpa using h)
      · exact .inr h
  · have h1 : p.isPrefixOf s = false := by rw [Bool.eq_false_iff, ne_eq, List.isPrefixOf_iff_prefix]; exact h
    rw [h1, Bool.false_and]
    symm
    rw [Bool.eq_false_iff]
    simp only [ne_eq, Bool.or_eq_true, List.isEmpty_iff, List.isPrefixOf_iff_prefix, beq_iff_eq]
    rintro (rfl | rfl | h2)
    · exact h (List.nil_prefix)
    · exact h (List.prefix_refl _)
    · exact h (List.IsPrefix.trans (List.prefix_append _ _) h2)
end Go.Proofs.Ytjaenffdbhgmeaa


/- path: which texts are prefixes, what they cover, what stands beside what, by the program and by the document. -/
import Derived.Test.YtlbmikjgpaeddaaPa5
namespace Go.Proofs.Ytlbmikjgpaeddaa
open Go.RowKit Go.Qc Go.Shelf
attribute [local go_sem] txt_size txt_append ib_fold txt_toL

/-- A prefix; what one covers. -/
def preR (p : List UInt8) : Bool := p.isEmpty || pathR p
def covB (p s : List UInt8) : Bool := p.isEmpty || (p == s || (p ++ [47]).isPrefixOf s)
def covR (p s : List UInt8) : Bool := preR p && (pathR s && covB p s)
theorem pathR_nil : pathR [] = false := by decide
theorem prefix_any (p : List UInt8) (w : World) :
    Calls Try.prog 12 #[.string (txt p)] w fun e w' => e = .returned (.bool (preR p)) ∧ Below w.heap.size w w' := by
  unfold preR
  by_cases h : p = []
  · subst h
    have e : txt [] = ⟨#[]⟩ := rfl
    rw [e]
    go_enter Try.func12, Try.ntmps12
    go_wp2
    go_ret
    exact ⟨rfl, Below.refl _ _⟩
  · have h2 : p.isEmpty = false := by cases p <;> first | rfl | exact absurd rfl h
    rw [h2, Bool.false_or]
    have cR := right_any p
    go_enter Try.func12, Try.ntmps12
    go_wp2_with (go_at_call 11; (with_reducible refine (cR _).mono ?_); rintro e1 w1 ⟨rfl, hB1⟩)
    go_ret
    exact ⟨rfl, hB1⟩
theorem covB_of (p s : List UInt8) : (Lib.hasPrefix s p && (p.isEmpty || ((Lib.trimPrefix s p).isEmpty || Lib.hasPrefix (Lib.trimPrefix s p) [47]))) = covB p s := by
  unfold Lib.trimPrefix covB Lib.hasPrefix
  by_cases h : p <+: s
  · obtain ⟨r, rfl⟩ := h
    have h1 : p.isPrefixOf (p ++ r) = true := by rw [List.isPrefixOf_iff_prefix]; exact ⟨r, rfl⟩
    rw [h1, if_pos rfl, Bool.true_and, List.drop_left]
    congr 1
    rw [Bool.eq_iff_iff]
    simp only [Bool.or_eq_true, List.isEmpty_iff, List.isPrefixOf_iff_prefix, beq_iff_eq]
    rw [List.prefix_append_right_inj]
    constructor
    · rintro (rfl | h)
      · exact .inl (by simp)
      · exact .inr h
    · rintro (h | h)
      · exact .inl (by simpa using h)
      · exact .inr h
  · have h1 : p.isPrefixOf s = false := by rw [Bool.eq_false_iff, ne_eq, List.isPrefixOf_iff_prefix]; exact h
    rw [h1, Bool.false_and]
    symm
    rw [Bool.eq_false_iff]
    simp only [ne_eq, Bool.or_eq_true, List.isEmpty_iff, List.isPrefixOf_iff_prefix, beq_iff_eq]
    rintro (rfl | rfl | h2)
    · exact h (List.nil_prefix)
    · exact h (List.prefix_refl _)
    · exact h (List.IsPrefix.trans (List.prefix_append _ _) h2)
theorem cutPrefix_any (s p : List UInt8) (w : World) :
    Calls Try.prog 45 #[.string (txt s), .string (txt p)] w fun e w' => e = .returned (.tuple #[.string (txt (Lib.trimPrefix s p)), .bool (Lib.hasPrefix s p)]) ∧ w = w' := by
  have := Any.strings_CutPrefix lays103 (txt s) (txt p) w
  rw [txt_data, txt_data] at this
  exact this.mono (by rintro e w' ⟨h, rfl⟩; exact ⟨h, rfl⟩)
theorem hasPrefix_any (s : List UInt8) (w : World) :
    Calls Try.prog 46 #[.string (txt s), .string ⟨#[47]⟩] w fun e w' => e = .returned (.bool (Lib.hasPrefix s [47])) ∧ w = w' := by
  have := Any.strings_HasPrefix lays99 (txt s) ⟨#[47]⟩ w
  rw [txt_data] at this
  exact this.mono (by rintro e w' ⟨h, rfl⟩; exact ⟨h, rfl⟩)
theorem covers_gen (p s T : List UInt8) (P R H K : Bool)
    (cP : ∀ W, Calls Try.prog 12 #[.string (txt p)] W fun e w' => e = .returned (.bool P) ∧ Below W.heap.size W w')
    (cR : ∀ W, Calls Try.prog 11 #[.string (txt s)] W fun e w' => e = .returned (.bool R) ∧ Below W.heap.size W w')
    (cC : ∀ W, Calls Try.prog 45 #[.string (txt s), .string (txt p)] W fun e w' => e = .returned (.tuple #[.string (txt T), .bool H]) ∧ W = w')
    (cH : ∀ W, Calls Try.prog 46 #[.string (txt T), .string ⟨#[47]⟩] W fun e w' => e = .returned (.bool K) ∧ W = w') (w : World) :
    Calls Try.prog 13 #[.string (txt p), .string (txt s)] w fun e w' => e = .returned (.bool (P && (R && (H && (p.isEmpty || (T.isEmpty || K)))))) ∧ Below w.heap.size w w' := by
  obtain ⟨E1, h1⟩ : ∃ E1, E1 = p.isEmpty := ⟨_, rfl⟩
  obtain ⟨E2, h2⟩ : ∃ E2, E2 = T.isEmpty := ⟨_, rfl⟩
  have f1 : (p = []) = (E1 = true) := by rw [h1, List.isEmpty_iff]
  have f2 : (T = []) = (E2 = true) := by rw [h2, List.isEmpty_iff]
  rw [← h1, ← h2]
  replace h1 := h1.symm
  replace h2 := h2.symm
  go_enter Try.func13, Try.ntmps13
  cases P <;> cases R <;> cases H <;> cases E1 <;> cases E2 <;> cases K
  all_goals go_wp2_with (first
    | (go_at_call 12; (with_reducible refine (cP _).mono ?_); rintro e1 w1 ⟨rfl, hB1⟩)
    | (go_at_call 11; (with_reducible refine (cR _).mono ?_); rintro e2 w2 ⟨rfl, hB2⟩)
    | (go_at_call 45; (with_reducible refine (cC _).mono ?_); rintro e3 w3 ⟨rfl, rfl⟩)
    | (go_at_call 46; (with_reducible refine (cH _).mono ?_); rintro e3 w3 ⟨rfl, rfl⟩))
  all_goals go_ret
  all_goals refine ⟨?_, by first | exact hB1 | exact hB1.trans (hB2.mono hB1.size)⟩
  all_goals rfl
end Go.Proofs.Ytlbmikjgpaeddaa

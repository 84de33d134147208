
/- Proved: for all lines and every hunk quitclaimlaw11.HunkApplies returns true and leaves its arguments as they were. No conditions. -/
import Derived.Test.YtjaenffdbhgmeaaHk10
set_option linter.unusedSimpArgs false
set_option linter.unusedVariables false
namespace Go.Proofs.Ytjaenffdbhgmeaa
open Go.RowKit Go.Qc Go.Shelf
attribute [local go_sem] txt_size txt_append ib_fold txt_toL

theorem own_le {w : World} {base base' n : Nat} {e : TypeId} {v : Value} {xs : List Value} (h : w.ownsRow base e 1 v n xs) (hb : base' ≤ base) : w.ownsRow base' e 1 v n xs := ⟨h.1, h.2.imp id fun ⟨g, cap, cur, h1, h2, h3⟩ => ⟨g, cap, cur, h1, Nat.le_trans hb h2, h3⟩⟩
theorem apR_len (ls : List (List UInt8)) (at' : Int) (old new : List (List UInt8)) : (apR ls at' old new).1.length ≤ 1000 := by
  by_cases h : (apR ls at' old new).2 = 0
  · exact (apR_back ls at' old new h).2
  · have : (apR ls at' old new).1 = [] := by
      revert h; unfold apR appR; repeat' split
      all_goals simp
    rw [this]; decide
theorem long3_any (L : Option Addr) (k e : Nat) (ls : List (List UInt8)) (A : Option Addr) (n c : Nat) (old : List (List UInt8)) (B : Option Addr) (m d : Nat) (new : List (List UInt8)) (W : World)
    (hl : LnRow W L k e ls) (ha : LnRow W A n c old) (hb : LnRow W B m d new) :
    Calls Try.prog 11 #[.slice (some ⟨W.heap.size, 0, none⟩) 3 3] (W.alloc (.cells #[.slice L k e, .slice A n c, .slice B m d] 37)) fun e w' => e = .returned (.bool (longL ls || (longL old || longL new))) ∧ Below W.heap.size W w' := by
  obtain ⟨l1, l2, l3, l4, l5, l6⟩ := hl
  obtain ⟨a1, a2, a3, a4, a5, a6⟩ := ha
  obtain ⟨b1, b2, b3, b4, b5, b6⟩ := hb
  have hB : Below W.heap.size W (W.alloc (.cells #[.slice L k e, .slice A n c, .slice B m d] 37)) := (Below.refl _ W).alloc (Nat.le_refl _) _
  have hk := Blk.new W 37 #[.slice L k e, .slice A n c, .slice B m d]
  have := long11_any ⟨W.heap.size, 0, none⟩ 3 3 [(.slice L k e, ls), (.slice A n c, old), (.slice B m d, new)] rfl (by decide) (by
    intro x hx
    simp only [List.mem_cons, List.not_mem_nil, or_false] at hx
    rcases hx with rfl | rfl | rfl
    · exact l1 ▸ l4
    · exact a1 ▸ a4
    · exact b1 ▸ b4) _ (by
    intro j x hx
    match j, hx with
    | 0, hx => cases hx; exact ⟨hk.cell_ (i := 0) rfl, L, k, e, rfl, l1, l3, l5.below hB⟩
    | 1, hx => cases hx; exact ⟨hk.cell_ (i := 1) rfl, A, n, c, rfl, a1, a3, a5.below hB⟩
    | 2, hx => cases hx; exact ⟨hk.cell_ (i := 2) rfl, B, m, d, rfl, b1, b3, b5.below hB⟩
    | j + 3, hx => simp at hx)
  refine this.mono ?_
  rintro e w' ⟨rfl, rfl⟩
  exact ⟨by simp, hB⟩
theorem longL_no {l : List (List UInt8)} (h : longL l = false) : l.length ≤ 60 ∧ ∀ x ∈ l, x.length ≤ 300 := by
  unfold longL at h
  rw [Bool.or_eq_false_iff, decide_eq_false_iff_not, List.any_eq_false] at h
  refine ⟨by omega, fun x hx => ?_⟩
  have := h.2 x hx
  simp at this
  omega
theorem rhright_any (at' : Int) (A : Option Addr) (n c : Nat) (old : List (List UInt8)) (hn : old.length = n) (bn : n ≤ 1000) (B : Option Addr) (m d : Nat) (new : List (List UInt8)) (hm : new.length = m) (bm : m ≤ 1000) (o8 : ∀ x ∈ old, x.length ≤ 1000000000000) (n8 : ∀ x ∈ new, x.length ≤ 1000000000000) (W : World)
    (hA : Rd W A (old.map strV)) (hB : Rd W B (new.map strV)) :
    Calls Try.prog 43 #[.agg #[.int .i64 at', .slice A n c, .slice B m d]] W fun e w' => e = .returned (.bool (hunkR at' old new)) ∧ Below W.heap.size W w' := by
  have := rhright_gen at' A n c B m d (linesR old) (linesR new) W (fun W2 h2 => rlines_any A n c old hn (by omega) o8 W2 (hA.below h2)) (fun W2 h2 => rlines_any B m d new hm (by omega) n8 W2 (hB.below h2))
  unfold hunkR
  rw [hn, hm]
  exact this
theorem invert_any (at' : Int) (A : Option Addr) (n c : Nat) (old : List (List UInt8)) (hn : old.length = n) (bn : n ≤ 1000) (B : Option Addr) (m d : Nat) (new : List (List UInt8)) (hm : new.length = m) (bm : m ≤ 1000) (W : World)
    (hA : Rd W A (old.map strV)) (hB : Rd W B (new.map strV)) :
    Calls Try.prog 48 #[.agg #[.int .i64 at', .slice A n c, .slice B m d]] W fun e w' => ∃ A' c' B' d', e = .returned (.agg #[.int .i64 at', .slice B' m d', .slice A' n c']) ∧ w'.ownsRow W.heap.size 9 1 (.slice A' n c') n (old.map strV) ∧ w'.ownsRow W.heap.size 9 1 (.slice B' m d') m (new.map strV) ∧ Below W.heap.size W w' := by
  refine invert_gen at' A n c B m d (old.map strV) (new.map strV) W (fun W2 h2 => (clones_any A n c old hn (by omega) W2 (hA.below h2)).mono ?_) (fun W2 h2 => (clones_any B m d new hm (by omega) W2 (hB.below h2)).mono ?_)
  all_goals
    rintro e w' ⟨v, rfl, hown, hb⟩
    obtain ⟨_, A4, c4, rfl, _⟩ := rowRd hown
    exact ⟨A4, c4, rfl, own_le hown h2.size, hb⟩
open Go.ChangeShapes Go.WideShapes Go.ChangeAt
open Go.ChangeMaps (open_string shut_string)
theorem own_HunkApplies : ownKnob Try.prog.godebug = none := by kernel_rfl
theorem laidOut_HunkApplies : laidOutB Try.prog = true := by kernel_rfl
end Go.Proofs.Ytjaenffdbhgmeaa


/- Rising rows of ids: what merging, sorting and choosing make of them. No program here. -/
import Derived.Test.YtkajfpincbkfhaaId9
namespace Go.Proofs.Ytkajfpincbkfhaa
open Go.RowKit Go.Qc

theorem cmp_zero : ∀ (a b : List UInt8), Lib.compareBytes a b = 0 → a = b
  | [], [], _ => rfl
  | [], _ :: _, h => by simp [Lib.compareBytes] at h
  | _ :: _, [], h => by simp [Lib.compareBytes] at h
  | x :: a, y :: b, h => by
    rw [Lib.compareBytes] at h
    by_cases h1 : x < y
    · rw [if_pos h1] at h; omega
    · rw [if_neg h1] at h
      by_cases h2 : y < x
      · rw [if_pos h2] at h; omega
      · rw [if_neg h2] at h
        have e : x = y := UInt8.le_antisymm (UInt8.not_lt.1 h2) (UInt8.not_lt.1 h1)
        rw [e, cmp_zero a b h]
theorem cmp_swap : ∀ (a b : List UInt8), Lib.compareBytes a b = - Lib.compareBytes b a
  | [], [] => by simp [Lib.compareBytes]
  | [], _ :: _ => by simp [Lib.compareBytes]
  | _ :: _, [] => by simp [Lib.compareBytes]
  | x :: a, y :: b => by
    rw [Lib.compareBytes, Lib.compareBytes]
    by_cases h1 : x < y
    · rw [if_pos h1, if_neg (UInt8.lt_asymm h1), if_pos h1]
    · rw [if_neg h1]
      by_cases h2 : y < x
      · rw [if_pos h2, if_pos h2]; rfl
      · rw [if_neg h2, if_neg h2, if_neg h1]; exact cmp_swap a b
theorem cmp_trans : ∀ (a b c : List UInt8), Lib.compareBytes a b < 0 → Lib.compareBytes b c < 0 → Lib.compareBytes a c < 0
  | [], [], _, h, _ => by simp [Lib.compareBytes] at h
  | [], _ :: _, [], _, h => by simp [Lib.compareBytes] at h
  | [], _ :: _, _ :: _, _, _ => by simp [Lib.compareBytes]
  | _ :: _, [], _, h, _ => by simp [Lib.compareBytes] at h
  | _ :: _, _ :: _, [], _, h => by simp [Lib.compareBytes] at h
  | x :: a, y :: b, z :: c, h, g => by
    rw [Lib.compareBytes] at h g ⊢
    by_cases h1 : x < y
    · by_cases g1 : y < z
      · rw [if_pos (UInt8.lt_trans h1 g1)]; decide
      · rw [if_neg g1] at g
        by_cases g2 : z < y
        · rw [if_pos g2] at g; omega
        · have e : y = z := UInt8.le_antisymm (UInt8.not_lt.1 g2) (UInt8.not_lt.1 g1)
          rw [if_pos (e ▸ h1)]; decide
    · rw [if_neg h1] at h
      by_cases h2 : y < x
      · rw [if_pos h2] at h; omega
      · rw [if_neg h2] at h
        have e : x = y := UInt8.le_antisymm (UInt8.not_lt.1 h2) (UInt8.not_lt.1 h1)
        subst e
        by_cases g1 : x < z
        · rw [if_pos g1]; decide
        · rw [if_neg g1] at g ⊢
          by_cases g2 : z < x
          · rw [if_pos g2] at g; omega
          · rw [if_neg g2] at g ⊢
            exact cmp_trans a b c h g
def Lt (a b : List UInt8) : Prop := Lib.compareBytes a b < 0
theorem Lt.irr {a : List UInt8} (h : Lt a a) : False := by unfold Lt at h; rw [cmp_refl] at h; omega
theorem Lt.ne {a b : List UInt8} (h : Lt a b) : a ≠ b := fun e => Lt.irr (e ▸ h)
theorem Lt.tr {a b c : List UInt8} (h : Lt a b) (g : Lt b c) : Lt a c := cmp_trans a b c h g
abbrev Rising (l : List (List UInt8)) : Prop := l.Pairwise Lt
theorem rising_ext : ∀ (l m : List (List UInt8)), Rising l → Rising m → (∀ x, x ∈ l ↔ x ∈ m) → l = m
  | [], [], _, _, _ => rfl
  | [], b :: m, _, _, h => by have := (h b).2 (by simp); simp at this
  | a :: l, [], _, _, h => by have := (h a).1 (by simp); simp at this
  | a :: l, b :: m, hl, hm, h => by
    obtain ⟨h1, h2⟩ := List.pairwise_cons.1 hl
    obtain ⟨h3, h4⟩ := List.pairwise_cons.1 hm
    have e : a = b := by
      rcases List.mem_cons.1 ((h a).1 (by simp)) with e | e
      · exact e
      · rcases List.mem_cons.1 ((h b).2 (by simp)) with e' | e'
        · exact e'.symm
        · exact ((h1 b e').tr (h3 a e)).irr.elim
    subst e
    rw [rising_ext l m h2 h4 fun x => ?_]
    constructor
    · intro hx
      rcases List.mem_cons.1 ((h x).1 (by simp [hx])) with e | e
      · exact ((h1 x hx).ne e.symm).elim
      · exact e
    · intro hx
      rcases List.mem_cons.1 ((h x).2 (by simp [hx])) with e | e
      · exact ((h3 x hx).ne e.symm).elim
      · exact e
theorem le_both {a b : List UInt8} (h : Lib.compareBytes a b ≤ 0) (g : Lib.compareBytes b a ≤ 0) : a = b := cmp_zero a b (by rw [cmp_swap] at g; omega)
theorem lt_of_le {a b : List UInt8} (h : Lib.compareBytes a b ≤ 0) (g : ¬ Lib.compareBytes b a ≤ 0) : Lt a b := by unfold Lt; rw [cmp_swap]; omega
theorem gt_of {a b : List UInt8} (h : ¬ Lib.compareBytes a b ≤ 0) : Lt b a := by unfold Lt; rw [cmp_swap]; omega
/-- What is in a merged row. -/
def Chosen (f : Bool → Bool → Bool) (l r : List (List UInt8)) (y : List UInt8) : Prop := (y ∈ l ∨ y ∈ r) ∧ f (decide (y ∈ l)) (decide (y ∈ r)) = true
theorem mem_if {c : Bool} {x y : List UInt8} : y ∈ (if c then [x] else []) ↔ y = x ∧ c = true := by cases c <;> simp
theorem mergeL_mem (f : Bool → Bool → Bool) : ∀ (l r : List (List UInt8)), Rising l → Rising r → ∀ y, y ∈ mergeL f l r ↔ Chosen f l r y
  | [], [], _, _, y => by simp [mergeL, Chosen]
  | a :: l, [], hl, hr, y => by
    obtain ⟨h1, h2⟩ := List.pairwise_cons.1 hl
    rw [mergeL, List.mem_append, mem_if, mergeL_mem f l [] h2 hr y]
    unfold Chosen
    by_cases e : y = a
    · subst e
      have hn : y ∉ l := fun e => (h1 y e).irr
      simp [hn]
    · simp [e]
  | [], b :: m, hl, hr, y => by
    obtain ⟨h1, h2⟩ := List.pairwise_cons.1 hr
    rw [mergeL, List.mem_append, mem_if, mergeL_mem f [] m hl h2 y]
    unfold Chosen
    by_cases e : y = b
    · subst e
      have hn : y ∉ m := fun e => (h1 y e).irr
      simp [hn]
    · simp [e]
  | a :: l, b :: m, hl, hr, y => by
    obtain ⟨h1, h2⟩ := List.pairwise_cons.1 hl
    obtain ⟨h3, h4⟩ := List.pairwise_cons.1 hr
    rw [mergeL]
    split
    · rename_i hab
      split
      · rename_i hba
        obtain rfl := le_both hab hba
        rw [List.mem_append, mem_if, mergeL_mem f l m h2 h4 y]
        unfold Chosen
        by_cases e : y = a
        · subst e
          have hn : y ∉ l := fun e => (h1 y e).irr
          have hm : y ∉ m := fun e => (h3 y e).irr
          simp [hn, hm]
        · simp [e]
      · rename_i hba
        have hlt := lt_of_le hab hba
        rw [List.mem_append, mem_if, mergeL_mem f l (b :: m) h2 hr y]
        unfold Chosen
        by_cases e : y = a
        · subst e
          have hn : y ∉ l := fun e => (h1 y e).irr
          have hm : y ∉ m := fun e => (hlt.tr (h3 y e)).irr
          have hb : ¬ y = b := hlt.ne
          simp [hn, hm, hb]
        · simp [e]
    · rename_i hab
      have hlt := gt_of hab
      rw [List.mem_append, mem_if, mergeL_mem f (a :: l) m hl h4 y]
      unfold Chosen
      by_cases e : y = b
      · subst e
        have hn : y ∉ m := fun e => (h3 y e).irr
        have hm : y ∉ l := fun e => (hlt.tr (h1 y e)).irr
        have hb : ¬ y = a := hlt.ne
        simp [hn, hm, hb]
      · simp [e]
termination_by l r => l.length + r.length
theorem mergeL_in {f : Bool → Bool → Bool} {l r : List (List UInt8)} (hl : Rising l) (hr : Rising r) {y : List UInt8} (h : y ∈ mergeL f l r) : y ∈ l ∨ y ∈ r := ((mergeL_mem f l r hl hr y).1 h).1
theorem rising_app {c : Bool} {x : List UInt8} {l : List (List UInt8)} (h : Rising l) (hx : ∀ y ∈ l, Lt x y) : Rising ((if c then [x] else []) ++ l) := by
  cases c
  · exact h
  · exact List.pairwise_cons.2 ⟨hx, h⟩
theorem rising_mergeL (f : Bool → Bool → Bool) : ∀ (l r : List (List UInt8)), Rising l → Rising r → Rising (mergeL f l r)
  | [], [], _, _ => by rw [mergeL]; exact List.Pairwise.nil
  | a :: l, [], hl, hr => by
    obtain ⟨h1, h2⟩ := List.pairwise_cons.1 hl
    rw [mergeL]
    refine rising_app (rising_mergeL f l [] h2 hr) fun y hy => ?_
    rcases mergeL_in h2 hr hy with e | e
    · exact h1 y e
    · cases e
  | [], b :: m, hl, hr => by
    obtain ⟨h1, h2⟩ := List.pairwise_cons.1 hr
    rw [mergeL]
    refine rising_app (rising_mergeL f [] m hl h2) fun y hy => ?_
    rcases mergeL_in hl h2 hy with e | e
    · cases e
    · exact h1 y e
  | a :: l, b :: m, hl, hr => by
    obtain ⟨h1, h2⟩ := List.pairwise_cons.1 hl
    obtain ⟨h3, h4⟩ := List.pairwise_cons.1 hr
    rw [mergeL]
    split
    · rename_i hab
      split
      · rename_i hba
        obtain rfl := le_both hab hba
        refine rising_app (rising_mergeL f l m h2 h4) fun y hy => ?_
        rcases mergeL_in h2 h4 hy with e | e
        · exact h1 y e
        · exact h3 y e
      · rename_i hba
        have hlt := lt_of_le hab hba
        refine rising_app (rising_mergeL f l (b :: m) h2 hr) fun y hy => ?_
        rcases mergeL_in h2 hr hy with e | e
        · exact h1 y e
        · rcases List.mem_cons.1 e with e | e
          · rw [e]; exact hlt
          · exact hlt.tr (h3 y e)
    · rename_i hab
      have hlt := gt_of hab
      refine rising_app (rising_mergeL f (a :: l) m hl h4) fun y hy => ?_
      rcases mergeL_in hl h4 hy with e | e
      · rcases List.mem_cons.1 e with e | e
        · rw [e]; exact hlt
        · exact hlt.tr (h1 y e)
      · exact h3 y e
termination_by l r => l.length + r.length
theorem merge_minus {l r : List (List UInt8)} (hl : Rising l) (hr : Rising r) : mergeL (fun x y => x && !y) l r = l.filter (fun x => decide (x ∈ r) == false) :=
  rising_ext _ _ (rising_mergeL _ l r hl hr) (hl.filter _) fun y => by
    rw [mergeL_mem _ l r hl hr y, List.mem_filter]
    unfold Chosen
    by_cases h1 : y ∈ l <;> by_cases h2 : y ∈ r <;> simp [h1, h2]
end Go.Proofs.Ytkajfpincbkfhaa

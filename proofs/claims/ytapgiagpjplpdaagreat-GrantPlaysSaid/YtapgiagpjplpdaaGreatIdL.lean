
/- Rising rows of ids: what merging, sorting and choosing make of them. No program here. -/
import Derived.Test.YtapgiagpjplpdaaGreatId9
namespace Go.Proofs.YtapgiagpjplpdaaGreat
open Go.RowKit Go.Qc

theorem cmp_zero : ∀ (a b : List UInt8), Lib.compareBytes a b = 0 → a = b
  | [], [], _ => rfl
  | [], _ :: _, h => by simp [Lib.compareBytes] at h
  | _ :: _, [], h => by simp [Lib.compareBytes] at h
  | x :: a, y :: b, h => by
    rw [Lib.compareBytes] at h
    by_cases h1 : x < y
    · rw [if_pos h1] at h; omega
    · rw [if_neg h1] at h
      by_cases h2 : y < x
      · rw [if_pos h2] at h; omega
      · rw [if_neg h2] at h
        have e : x = y := UInt8.le_antisymm (UInt8.not_lt.1 h2) (UInt8.not_lt.1 h1)
        rw [e, cmp_zero a b h]
theorem cmp_swap : ∀ (a b : List UInt8), Lib.compareBytes a b = - Lib.compareBytes b a
  | [], [] => by simp [Lib.compareBytes]
  | [], _ :: _ => by simp [Lib.compareBytes]
  | _ :: _, [] => by simp [Lib.compareBytes]
  | x :: a, y :: b => by
    rw [Lib.compareBytes, Lib.compareBytes]
    by_cases h1 : x < y
    · rw [if_pos h1, if_neg (UInt8.lt_asymm h1), if_pos h1]
    · rw [if_neg h1]
      by_cases h2 : y < x
      · rw [if_pos h2, if_pos h2]; rfl
      · rw [if_neg h2, if_neg h2, if_neg h1]; exact cmp_swap a b
theorem cmp_trans : ∀ (a b c : List UInt8), Lib.compareBytes a b < 0 → Lib.compareBytes b c < 0 → Lib.compareBytes a c < 0
  | [], [], _, h, _ => by simp [Lib.compareBytes] at h
  | [], _ :: _, [], _, h => by simp [Lib.compareBytes] at h
  | [], _ :: _, _ :: _, _, _ => by simp [Lib.compareBytes]
  | _ :: _, [], _, h, _ => by simp [Lib.compareBytes] at h
  | _ :: _, _ :: _, [], _, h => by simp [Lib.compareBytes] at h
  | x :: a, y :: b, z :: c, h, g => by
    rw [Lib.compareBytes] at h g ⊢
    by_cases h1 : x < y
    · by_cases g1 : y < z
      · rw [if_pos (UInt8.lt_trans h1 g1)]; decide
      · rw [if_neg g1] at g
        by_cases g2 : z < y
        · rw [if_pos g2] at g; omega
        · have e : y = z := UInt8.le_antisymm (UInt8.not_lt.1 g2) (UInt8.not_lt.1 g1)
          rw [if_pos (e ▸ h1)]; decide
    · rw [if_neg h1] at h
      by_cases h2 : y < x
      · rw [if_pos h2] at h; omega
      · rw [if_neg h2] at h
        have e : x = y := UInt8.le_antisymm (UInt8.not_lt.1 h2) (UInt8.not_lt.1 h1)
        subst e
        by_cases g1 : x < z
        · rw [if_pos g1]; decide
        · rw [if_neg g1] at g ⊢
          by_cases g2 : z < x
          · rw [if_pos g2] at g; omega
          · rw [if_neg g2] at g ⊢
            exact cmp_trans a b c h g
def Lt (a b : List UInt8) : Prop := Lib.compareBytes a b < 0
theorem Lt.irr {a : List UInt8} (h : Lt a a) : False := by unfold Lt at h; rw [cmp_refl] at h; omega
theorem Lt.ne {a b : List UInt8} (h : Lt a b) : a ≠ b := fun e => Lt.irr (e ▸ h)
theorem Lt.tr {a b c : List UInt8} (h : Lt a b) (g : Lt b c) : Lt a c := cmp_trans a b c h g
theorem lt_of_not {a b : List UInt8} (h : ¬ Lt a b) (hne : a ≠ b) : Lt b a := by
  unfold Lt at *
  have h1 : Lib.compareBytes a b ≠ 0 := fun e => hne (cmp_zero a b e)
  rw [cmp_swap]
  omega
abbrev Rising (l : List (List UInt8)) : Prop := l.Pairwise Lt
theorem rising_ext : ∀ (l m : List (List UInt8)), Rising l → Rising m → (∀ x, x ∈ l ↔ x ∈ m) → l = m
  | [], [], _, _, _ => rfl
  | [], b :: m, _, _, h => by have := (h b).2 (by simp); simp at this
  | a :: l, [], _, _, h => by have := (h a).1 (by simp); simp at this
  | a :: l, b :: m, hl, hm, h => by
    obtain ⟨h1, h2⟩ := List.pairwise_cons.1 hl
    obtain ⟨h3, h4⟩ := List.pairwise_cons.1 hm
    have e : a = b := by
      rcases List.mem_cons.1 ((h a).1 (by simp)) with e | e
      · exact e
      · rcases List.mem_cons.1 ((h b).2 (by simp)) with e' | e'
        · exact e'.symm
        · exact ((h1 b e').tr (h3 a e)).irr.elim
    subst e
    rw [rising_ext l m h2 h4 fun x => ?_]
    constructor
    · intro hx
      rcases List.mem_cons.1 ((h x).1 (by simp [hx])) with e | e
      · exact ((h1 x hx).ne e.symm).elim
      · exact e
    · intro hx
      rcases List.mem_cons.1 ((h x).2 (by simp [hx])) with e | e
      · exact ((h3 x hx).ne e.symm).elim
      · exact e
theorem mem_insL (a y : List UInt8) : ∀ l : List (List UInt8), y ∈ insL a l ↔ y = a ∨ y ∈ l
  | [] => by simp [insL]
  | x :: t => by
    rw [insL]
    split
    · simp
    · rw [List.mem_cons, mem_insL a y t, List.mem_cons]
      constructor
      · rintro (h | h | h) <;> simp [h]
      · rintro (h | h | h) <;> simp [h]
theorem rising_insL (a : List UInt8) : ∀ l : List (List UInt8), Rising l → a ∉ l → Rising (insL a l)
  | [], _, _ => by simp [insL]
  | x :: t, h, hn => by
    obtain ⟨h1, h2⟩ := List.pairwise_cons.1 h
    rw [insL]
    split
    · rename_i hlt
      have hax : Lt a x := by unfold Lt; exact of_decide_eq_true (show decide (Lib.compareBytes a x < 0) = true from hlt)
      refine List.pairwise_cons.2 ⟨fun y hy => ?_, h⟩
      rcases List.mem_cons.1 hy with e | e
      · rw [e]; exact hax
      · exact hax.tr (h1 y e)
    · rename_i hlt
      have hxa : Lt x a := lt_of_not (fun e => hlt (decide_eq_true e)) (fun e => hn (by simp [e]))
      refine List.pairwise_cons.2 ⟨fun y hy => ?_, rising_insL a t h2 (fun e => hn (by simp [e]))⟩
      rcases (mem_insL a y t).1 hy with e | e
      · rw [e]; exact hxa
      · exact h1 y e
theorem rising_putL {l : List (List UInt8)} {a : List UInt8} (h : Rising l) : Rising (putL l a) := by
  unfold putL
  split
  · exact h
  · rename_i hn; exact rising_insL a l h hn
theorem mem_putL {l : List (List UInt8)} {a y : List UInt8} : y ∈ putL l a ↔ y ∈ l ∨ y = a := by
  unfold putL
  split
  · rename_i h
    constructor
    · exact .inl
    · rintro (e | e)
      · exact e
      · rw [e]; exact h
  · rw [mem_insL]; exact Or.comm
theorem rising_foldl : ∀ (l o : List (List UInt8)), Rising o → Rising (l.foldl putL o)
  | [], _, h => h
  | x :: t, o, h => rising_foldl t (putL o x) (rising_putL h)
theorem mem_foldl (y : List UInt8) : ∀ (l o : List (List UInt8)), y ∈ l.foldl putL o ↔ y ∈ o ∨ y ∈ l
  | [], o => by simp
  | x :: t, o => by
    rw [List.foldl_cons, mem_foldl y t, mem_putL, List.mem_cons, or_assoc]
theorem rising_sortL (l : List (List UInt8)) : Rising (sortL l) := rising_foldl l [] List.Pairwise.nil
theorem mem_sortL {l : List (List UInt8)} {y : List UInt8} : y ∈ sortL l ↔ y ∈ l := by unfold sortL; rw [mem_foldl]; simp
end Go.Proofs.YtapgiagpjplpdaaGreat

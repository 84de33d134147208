
/- Lines of a text: lists alone. -/
import Derived.Test.YtcfcabhmdjoeeaaDoorPhA
import Derived.Lib.SplitLaws
import Derived.Lib.IndexBytes
set_option linter.unusedSimpArgs false
set_option linter.unusedVariables false
namespace Go.Proofs.YtcfcabhmdjoeeaaDoor
open Go.RowKit Go.Qc Go.Shelf

/-- The pieces of a text between line ends. -/
def pcs : List UInt8 → List (List UInt8)
  | [] => [[]]
  | c :: s => if c = 10 then [] :: pcs s else match pcs s with
    | [] => [[c]]
    | p :: ps => (c :: p) :: ps
theorem pcs_cons (s : List UInt8) : ∃ p ps, pcs s = p :: ps := by
  cases s with
  | nil => exact ⟨[], [], rfl⟩
  | cons c s =>
    rw [pcs]
    split
    · exact ⟨_, _, rfl⟩
    · split <;> exact ⟨_, _, rfl⟩
theorem pcs_len : ∀ s : List UInt8, (pcs s).length = Lib.count s [10] + 1
  | [] => by rw [Lib.count_one]; rfl
  | c :: s => by
    obtain ⟨p, ps, h⟩ := pcs_cons s
    have ih := pcs_len s
    rw [pcs]
    by_cases hc : c = 10
    · subst hc
      rw [if_pos rfl, Lib.count_cons_eq, List.length_cons, ih]
      omega
    · rw [if_neg hc, Lib.count_cons_ne _ _ _ hc, ← ih, h]
      rfl
theorem splitK_pcs : ∀ s : List UInt8, Lib.splitK [10] 0 (Lib.count s [10]) s = pcs s
  | [] => by rw [show Lib.count ([] : List UInt8) [10] = 0 by rw [Lib.count_one]; rfl]; rfl
  | c :: s => by
    have ih := splitK_pcs s
    rw [pcs]
    by_cases hc : c = 10
    · subst hc
      rw [if_pos rfl, Lib.count_cons_eq, Nat.add_comm 1, Lib.splitK]
      have hix : Lib.index (10 :: s) [10] = 0 := by rw [Lib.index]; simp [List.isPrefixOf]
      rw [hix, if_neg (by decide)]
      simp only [Int.toNat_zero, Nat.add_zero, List.take_zero, Nat.zero_add, List.length_singleton, List.drop_succ_cons, List.drop_zero, ih]
    · rw [if_neg hc, Lib.count_cons_ne _ _ _ hc]
      have hp : ([10] : List UInt8).isPrefixOf (c :: s) = false := by simp [List.isPrefixOf, Ne.symm hc]
      have hix : Lib.index (c :: s) [10] = if Lib.index s [10] == -1 then -1 else Lib.index s [10] + 1 := by rw [Lib.index, hp]; simp
      generalize Lib.count s [10] = k at ih ⊢
      cases k with
      | zero =>
        rw [Lib.splitK] at ih ⊢
        rw [← ih]
      | succ k =>
        rw [Lib.splitK] at ih ⊢
        by_cases hm : Lib.index s [10] = -1
        · rw [if_pos (beq_iff_eq.2 hm)] at ih
          rw [if_pos (by rw [hix, if_pos (beq_iff_eq.2 hm)]; rfl), ← ih]
        · have hge := Lib.index_ge s [10]
          obtain ⟨j, hj⟩ : ∃ j : Nat, Lib.index s [10] = j := ⟨(Lib.index s [10]).toNat, by omega⟩
          have hix' : Lib.index (c :: s) [10] = ((j + 1 : Nat) : Int) := by rw [hix, if_neg (fun e => hm (beq_iff_eq.1 e)), hj]; omega
          rw [if_neg (fun e => hm (beq_iff_eq.1 e)), hj] at ih
          rw [hix', if_neg (by rw [beq_iff_eq]; omega), ← ih]
          simp only [Int.toNat_natCast, Nat.add_zero, List.take_succ_cons, List.length_singleton, List.drop_succ_cons]
/-- One byte more, as the document reads it. -/
def stp (r : List (List UInt8) × List UInt8) (c : UInt8) : List (List UInt8) × List UInt8 := if c = 10 then (r.1 ++ [r.2], []) else (r.1, r.2 ++ [c])
theorem stp_pcs : ∀ (s : List UInt8) (out : List (List UInt8)) (now p : List UInt8) (ps : List (List UInt8)), pcs s = p :: ps → s.foldl stp (out, now) = (out ++ ((now ++ p) :: ps).dropLast, ((now ++ p) :: ps).getLast (by simp))
  | [], out, now, p, ps, h => by
    rw [pcs] at h
    injection h with h1 h2
    subst h1 h2
    simp
  | c :: s, out, now, p, ps, h => by
    obtain ⟨q, qs, hq⟩ := pcs_cons s
    rw [pcs] at h
    rw [List.foldl_cons, stp]
    by_cases hc : c = 10
    · rw [if_pos hc] at h ⊢
      injection h with h1 h2
      subst h1
      rw [hq] at h2
      subst h2
      rw [stp_pcs s _ _ q qs hq]
      simp
    · rw [if_neg hc, hq] at h
      rw [if_neg hc]
      simp only at h
      injection h with h1 h2
      subst h1 h2
      rw [stp_pcs s _ _ q qs hq]
      simp
theorem pcs_end : ∀ r : List UInt8, pcs (r ++ [10]) = pcs r ++ [[]]
  | [] => by simp [pcs]
  | c :: r => by
    obtain ⟨q, qs, hq⟩ := pcs_cons r
    rw [List.cons_append, pcs, pcs, pcs_end r, hq]
    by_cases hc : c = 10
    · rw [if_pos hc, if_pos hc]; rfl
    · rw [if_neg hc, if_neg hc]; rfl
theorem pcs_last : ∀ (s p : List UInt8) (ps : List (List UInt8)), pcs s = p :: ps → (p :: ps).getLast (by simp) = [] → s = [] ∨ ∃ r, s = r ++ [10]
  | [], _, _, _, _ => .inl rfl
  | c :: s, p, ps, h, hl => by
    obtain ⟨q, qs, hq⟩ := pcs_cons s
    rw [pcs, hq] at h
    right
    by_cases hc : c = 10
    · rw [if_pos hc] at h
      injection h with h1 h2
      subst h1 h2
      rw [List.getLast_cons (by simp)] at hl
      rcases pcs_last s q qs hq hl with rfl | ⟨r, rfl⟩
      · exact ⟨[], by rw [hc]; rfl⟩
      · exact ⟨c :: r, rfl⟩
    · rw [if_neg hc] at h
      simp only at h
      injection h with h1 h2
      subst h1 h2
      cases qs with
      | nil => simp at hl
      | cons a bs =>
        rw [List.getLast_cons (by simp)] at hl
        rcases pcs_last s q (a :: bs) hq (by rw [List.getLast_cons (by simp)]; exact hl) with rfl | ⟨r, rfl⟩
        · rw [pcs] at hq; cases hq
        · exact ⟨c :: r, rfl⟩
/-- Lines as a text. -/
def textL (L : List (List UInt8)) : List UInt8 := L.flatMap (· ++ [10])
theorem textL_snoc (L : List (List UInt8)) (x : List UInt8) : textL (L ++ [x]) = textL L ++ (x ++ [10]) := by simp [textL]
theorem textL_pcs : ∀ r : List UInt8, textL (pcs r) = r ++ [10]
  | [] => rfl
  | c :: r => by
    obtain ⟨q, qs, hq⟩ := pcs_cons r
    have ih := textL_pcs r
    rw [hq] at ih
    rw [pcs, hq]
    by_cases hc : c = 10
    · subst hc
      rw [if_pos rfl]
      simp only [textL, List.flatMap_cons] at ih ⊢
      rw [ih]; rfl
    · rw [if_neg hc]
      simp only [textL, List.flatMap_cons] at ih ⊢
      simp only [List.cons_append, ih]
/-- What the document reads of a text. -/
def splD (s : List UInt8) : List (List UInt8) × Bool := ((s.foldl stp ([], [])).1, (s.foldl stp ([], [])).2.isEmpty && linesR (s.foldl stp ([], [])).1)
theorem splD_nil : splD [] = ([], true) := by decide
theorem splD_end (r : List UInt8) : splD (r ++ [10]) = (pcs r, linesR (pcs r)) := by
  obtain ⟨q, qs, hq⟩ := pcs_cons r
  have h := pcs_end r
  rw [hq, List.cons_append] at h
  have e := stp_pcs (r ++ [10]) [] [] q (qs ++ [[]]) h
  unfold splD
  rw [e, hq]
  have e1 : ((([] : List UInt8) ++ q) :: (qs ++ [[]])).dropLast = q :: qs := by
    rw [List.nil_append, ← List.cons_append, List.dropLast_concat]
  have e2 : ((([] : List UInt8) ++ q) :: (qs ++ [[]])).getLast (by simp) = [] := by
    rw [List.getLast_cons (by simp), List.getLast_append_right (by simp)]; rfl
  rw [e1, e2]
  rfl
theorem splD_open {s : List UInt8} (h0 : s ≠ []) (h : ∀ r, s ≠ r ++ [10]) : (splD s).2 = false := by
  obtain ⟨q, qs, hq⟩ := pcs_cons s
  have e := stp_pcs s [] [] q qs hq
  unfold splD
  rw [e]
  simp only [List.nil_append]
  cases hl : (q :: qs).getLast (by simp) with
  | nil =>
    rcases pcs_last s q qs hq hl with h1 | ⟨r, h1⟩
    · exact absurd h1 h0
    · exact absurd h1 (h r)
  | cons a bs => rfl

end Go.Proofs.YtcfcabhmdjoeeaaDoor

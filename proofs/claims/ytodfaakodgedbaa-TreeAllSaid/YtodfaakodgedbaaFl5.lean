
/- What operations that are apart do to a tree, in either order: lists and maps alone. -/
import Derived.Test.YtodfaakodgedbaaFl4
import Derived.Test.YtodfaakodgedbaaRo3
set_option linter.unusedSimpArgs false
set_option linter.unusedVariables false
namespace Go.Proofs.Ytodfaakodgedbaa
open Go.RowKit Go.Qc Go.Shelf

theorem bl_irr : ∀ a : List UInt8, Go.Op.bytesLess a a = false
  | [] => rfl
  | x :: a => by
    rw [Go.Op.bytesLess, bl_irr a]
    simp
theorem bl_trans : ∀ a b c : List UInt8, Go.Op.bytesLess a b = true → Go.Op.bytesLess b c = true → Go.Op.bytesLess a c = true
  | _, [], _, h, _ => by cases ‹List UInt8› <;> simp [Go.Op.bytesLess] at h
  | _, _ :: _, [], _, h => by simp [Go.Op.bytesLess] at h
  | [], _ :: _, _ :: _, _, _ => rfl
  | x :: a, y :: b, z :: c, h, g => by
    simp only [Go.Op.bytesLess, Bool.or_eq_true, Bool.and_eq_true, decide_eq_true_eq, beq_iff_eq, UInt8.lt_iff_toNat_lt] at h g ⊢
    rcases h with h | ⟨rfl, h⟩
    · rcases g with g | ⟨rfl, g⟩
      · exact .inl (by omega)
      · exact .inl h
    · rcases g with g | ⟨rfl, g⟩
      · exact .inl g
      · exact .inr ⟨rfl, bl_trans a b c h g⟩
theorem bl_tot : ∀ a b : List UInt8, Go.Op.bytesLess a b = false → a ≠ b → Go.Op.bytesLess b a = true
  | [], [], _, h => absurd rfl h
  | x :: a, [], _, _ => rfl
  | [], y :: b, h, _ => by simp [Go.Op.bytesLess] at h
  | x :: a, y :: b, h, hne => by
    simp only [Go.Op.bytesLess, Bool.or_eq_false_iff, Bool.and_eq_false_iff, decide_eq_false_iff_not, UInt8.lt_iff_toNat_lt] at h
    simp only [Go.Op.bytesLess, Bool.or_eq_true, Bool.and_eq_true, decide_eq_true_eq, beq_iff_eq, UInt8.lt_iff_toNat_lt]
    by_cases hxy : x = y
    · subst hxy
      right
      refine ⟨rfl, bl_tot a b ?_ (fun e => hne (by rw [e]))⟩
      rcases h.2 with h2 | h2
      · simp at h2
      · exact h2
    · left
      have : x.toNat ≠ y.toNat := fun e => hxy (UInt8.toNat_inj.1 e)
      omega
/-- Files by paths. -/
def SortF (L : List FD) : Prop := L.Pairwise fun x y => Go.Op.bytesLess x.1 y.1 = true
/-- What is at a path: nothing, what is spoilt, lines. -/
abbrev MP := List UInt8 → Option (Option (List (List UInt8)))
def look : List FD → MP
  | [], _ => none
  | x :: xs, s => if x.1 = s then some (some x.2) else look xs s
theorem look_none : ∀ (L : List FD) (s : List UInt8), look L s = none ↔ ∀ x ∈ L, x.1 ≠ s
  | [], s => by simp [look]
  | x :: xs, s => by
    rw [look]
    by_cases h : x.1 = s
    · rw [if_pos h]
      simp [h]
    · rw [if_neg h, look_none xs s]
      simp [h]
theorem look_at : ∀ (L : List FD) (s : List UInt8), (atV L s = -1 ∧ look L s = none) ∨ ∃ i x, atV L s = (i : Nat) ∧ L[i]? = some x ∧ x.1 = s ∧ look L s = some (some x.2)
  | [], _ => .inl ⟨rfl, rfl⟩
  | x :: xs, s => by
    rw [atV, look]
    by_cases h : x.1 = s
    · rw [if_pos h, if_pos h]
      exact .inr ⟨0, x, rfl, rfl, h, rfl⟩
    · rw [if_neg h, if_neg h]
      rcases look_at xs s with ⟨h1, h2⟩ | ⟨i, y, h1, h2, h3, h4⟩
      · rw [h1]; exact .inl ⟨rfl, h2⟩
      · rw [h1, if_neg (by omega)]
        exact .inr ⟨i + 1, y, by omega, h2, h3, h4⟩
theorem look_ext : ∀ (L M : List FD), SortF L → SortF M → (∀ s, look L s = look M s) → L = M
  | [], [], _, _, _ => rfl
  | [], y :: M, _, _, h => by have := h y.1; simp [look] at this
  | x :: L, [], _, _, h => by have := h x.1; simp [look] at this
  | x :: L, y :: M, hL, hM, h => by
    obtain ⟨hx, hL2⟩ := List.pairwise_cons.1 hL
    obtain ⟨hy, hM2⟩ := List.pairwise_cons.1 hM
    have e1 : x.1 = y.1 := by
      apply Classical.byContradiction
      intro hne
      have h1 := h x.1
      have h2 := h y.1
      simp only [look, if_true] at h1 h2
      rw [if_neg (fun e => hne e.symm)] at h1
      rw [if_neg hne] at h2
      have m1 : ∃ z ∈ M, z.1 = x.1 := by
        apply Classical.byContradiction
        intro hn
        rw [(look_none M x.1).2 (fun z hz e => hn ⟨z, hz, e⟩)] at h1
        cases h1
      have m2 : ∃ z ∈ L, z.1 = y.1 := by
        apply Classical.byContradiction
        intro hn
        rw [(look_none L y.1).2 (fun z hz e => hn ⟨z, hz, e⟩)] at h2
        cases h2
      obtain ⟨z1, hz1, q1⟩ := m1
      obtain ⟨z2, hz2, q2⟩ := m2
      have r1 := hy z1 hz1
      have r2 := hx z2 hz2
      rw [q1] at r1
      rw [q2] at r2
      have := bl_trans _ _ _ r1 r2
      rw [bl_irr] at this
      cases this
    have e2 : x.2 = y.2 := by
      have h1 := h x.1
      simp only [look, if_true, e1.symm] at h1
      injection h1 with h1
      injection h1
    have exy : x = y := Prod.ext e1 e2
    subst exy
    refine congrArg (x :: ·) (look_ext L M hL2 hM2 (fun s => ?_))
    by_cases hs : x.1 = s
    · subst hs
      rw [(look_none L x.1).2 (fun z hz e => by have := hx z hz; rw [e, bl_irr] at this; cases this), (look_none M x.1).2 (fun z hz e => by have := hy z hz; rw [e, bl_irr] at this; cases this)]
    · have := h s
      simpa only [look, if_neg hs] using this
theorem putD_mem : ∀ (L : List FD) (f z : FD), z ∈ putD L f → z = f ∨ z ∈ L
  | [], f, z, h => by simp [putD] at h; exact .inl h
  | x :: xs, f, z, h => by
    rw [putD] at h
    split at h
    · rcases List.mem_cons.1 h with h | h
      · exact .inl h
      · exact .inr h
    · rcases List.mem_cons.1 h with h | h
      · exact .inr (by rw [h]; simp)
      · exact (putD_mem xs f z h).imp id (fun h => by simp [h])
theorem putD_sort : ∀ (L : List FD) (f : FD), SortF L → look L f.1 = none → SortF (putD L f)
  | [], f, _, _ => by unfold SortF; simp [putD]
  | x :: xs, f, h, hn => by
    obtain ⟨hx, hs⟩ := List.pairwise_cons.1 h
    rw [look_none] at hn
    rw [putD]
    by_cases hl : Go.Op.bytesLess f.1 x.1 = true
    · rw [if_pos hl]
      refine List.pairwise_cons.2 ⟨fun z hz => ?_, h⟩
      rcases List.mem_cons.1 hz with rfl | hz
      · exact hl
      · exact bl_trans _ _ _ hl (hx z hz)
    · rw [if_neg hl]
      refine List.pairwise_cons.2 ⟨fun z hz => ?_, putD_sort xs f hs ((look_none _ _).2 (fun z hz => hn z (by simp [hz])))⟩
      rcases putD_mem xs f z hz with rfl | hz
      · exact bl_tot _ _ (by simpa using hl) (fun e => hn x (by simp) e.symm)
      · exact hx z hz
theorem putD_look : ∀ (L : List FD) (f : FD) (s : List UInt8), look L f.1 = none → look (putD L f) s = if s = f.1 then some (some f.2) else look L s
  | [], f, s, _ => by
    simp only [putD, look]
    by_cases h : f.1 = s
    · rw [if_pos h, if_pos h.symm]
    · rw [if_neg h, if_neg (fun e => h e.symm)]
  | x :: xs, f, s, hn => by
    have hn' := (look_none _ _).1 hn
    rw [putD]
    split
    · rw [look]
      by_cases h : f.1 = s
      · rw [if_pos h, if_pos h.symm]
      · rw [if_neg h, if_neg (fun e => h e.symm)]
    · rw [look, putD_look xs f s ((look_none _ _).2 (fun z hz => hn' z (by simp [hz]))), look]
      by_cases h : x.1 = s
      · rw [if_pos h, if_pos h, if_neg (fun e => hn' x (by simp) (h.trans e))]
      · rw [if_neg h, if_neg h]
theorem erase_sort {L : List FD} {i : Nat} (h : SortF L) : SortF (L.eraseIdx i) := h.sublist (List.eraseIdx_sublist L i)
theorem erase_look : ∀ (L : List FD) (i : Nat) (x : FD) (s : List UInt8), SortF L → L[i]? = some x → look (L.eraseIdx i) s = if s = x.1 then none else look L s
  | [], i, x, s, _, h => by simp at h
  | y :: L, 0, x, s, h, hx => by
    simp at hx
    subst hx
    obtain ⟨hy, hs⟩ := List.pairwise_cons.1 h
    rw [List.eraseIdx_zero, List.tail_cons, look]
    by_cases e : s = y.1
    · rw [if_pos e, (look_none _ _).2 (fun z hz q => by have := hy z hz; rw [q, e, bl_irr] at this; cases this)]
    · rw [if_neg e, if_neg (fun q => e q.symm)]
  | y :: L, i + 1, x, s, h, hx => by
    rw [List.getElem?_cons_succ] at hx
    obtain ⟨hy, hs⟩ := List.pairwise_cons.1 h
    rw [List.eraseIdx_cons_succ, look, erase_look L i x s hs hx, look]
    by_cases e : y.1 = s
    · rw [if_pos e, if_pos e, if_neg (fun q => by have := hy x (List.mem_of_getElem? hx); rw [e, q, bl_irr] at this; cases this)]
    · rw [if_neg e, if_neg e]

/-- A stretch of lines in the place of another. -/
def spl (L : List (List UInt8)) (a : Int) (old new : List (List UInt8)) : Option (List (List UInt8)) :=
  if 0 ≤ a ∧ a.toNat + old.length ≤ L.length ∧ (L.drop a.toNat).take old.length = old then some (L.take a.toNat ++ (new ++ L.drop (a.toNat + old.length))) else none
def Spl (L : List (List UInt8)) (a : Int) (old new M : List (List UInt8)) : Prop := ∃ P S, a = (P.length : Int) ∧ L = P ++ (old ++ S) ∧ M = P ++ (new ++ S)
theorem spl_iff {L : List (List UInt8)} {a : Int} {old new M : List (List UInt8)} : spl L a old new = some M ↔ Spl L a old new M := by
  unfold spl Spl
  constructor
  · intro h
    split at h
    · rename_i hc
      obtain ⟨h0, h1, h2⟩ := hc
      injection h with h
      refine ⟨L.take a.toNat, L.drop (a.toNat + old.length), ?_, ?_, h.symm⟩
      · rw [List.length_take, Nat.min_eq_left (by omega)]; omega
      · conv => lhs; rw [← List.take_append_drop a.toNat L, ← List.take_append_drop old.length (L.drop a.toNat), h2, List.drop_drop]
    · cases h
  · rintro ⟨P, S, rfl, rfl, rfl⟩
    rw [Int.toNat_natCast]
    have d1 : (P ++ (old ++ S)).drop P.length = old ++ S := List.drop_left
    rw [if_pos ⟨by omega, by simp only [List.length_append]; omega, by rw [d1, List.take_left]⟩]
    rw [List.take_left, ← List.drop_drop, d1, List.drop_left]
/-- What an operation does to what is at the paths. -/
def eff (o : OpD) (f : MP) : MP := fun s =>
  if o.k = 1 then (if s = o.p then some (some []) else f s)
  else if o.k = 2 then (if s = o.p then none else f s)
  else if o.k = 3 then (if s = o.p then (f s).map (fun l => l.bind fun L => spl L o.a o.o o.n) else f s)
  else if o.k = 4 then (if s = o.t then f o.p else if s = o.p then none else f s)
  else f s
theorem room_look {L : List FD} {s : List UInt8} (h : roomV L s = 0) : look L s = none := by
  rcases look_at L s with ⟨_, h2⟩ | ⟨i, x, h1, _⟩
  · exact h2
  · unfold roomV at h
    rw [h1, if_pos (by omega)] at h
    cases h
theorem apply_eff {L L' : List FD} {o : OpD} (hs : SortF L) (h : applyF L o = .ok L') : SortF L' ∧ ∀ s, look L' s = eff o (look L) s := by
  unfold applyF at h
  by_cases hE : opE o = 0
  · rw [if_pos hE] at h
    have hk6 : 1 ≤ o.k ∧ o.k ≤ 6 := by
      by_cases h : 1 ≤ o.k ∧ o.k ≤ 6
      · exact h
      · unfold opE at hE; rw [if_neg h] at hE; cases hE
    by_cases h4 : 4 < o.k
    · rw [if_pos h4] at h
      injection h with h
      subst h
      refine ⟨hs, fun s => ?_⟩
      unfold eff
      rw [if_neg (by omega), if_neg (by omega), if_neg (by omega), if_neg (by omega)]
    · rw [if_neg h4] at h
      by_cases h1 : o.k = 1
      · rw [if_pos h1] at h
        by_cases hr : roomV L o.p = 0
        · rw [if_pos hr] at h
          by_cases h2 : 200 ≤ L.length
          · rw [if_pos h2] at h; cases h
          · rw [if_neg h2] at h
            injection h with h
            subst h
            have hn := room_look hr
            refine ⟨putD_sort _ _ hs hn, fun s => ?_⟩
            rw [putD_look _ _ _ hn]
            unfold eff
            rw [if_pos h1]
        · rw [if_neg hr] at h; cases h
      · rw [if_neg h1] at h
        rcases look_at L o.p with ⟨a1, _⟩ | ⟨i, x, a1, a2, a3, a4⟩
        · rw [a1, if_pos (by decide)] at h; cases h
        · rw [a1, if_neg (by omega), Int.toNat_natCast, a2] at h
          simp only at h
          have hl := fun s => erase_look L i x s hs a2
          rw [a3] at hl
          by_cases h2 : o.k = 2
          · rw [if_pos h2] at h
            split at h
            · injection h with h
              subst h
              refine ⟨erase_sort hs, fun s => ?_⟩
              rw [hl]
              unfold eff
              rw [if_neg h1, if_pos h2]
            · cases h
          · rw [if_neg h2] at h
            by_cases h3 : o.k = 3
            · rw [if_pos h3] at h
              split at h
              · rename_i hap
                injection h with h
                subst h
                have hn : look (L.eraseIdx i) o.p = none := by rw [hl, if_pos rfl]
                refine ⟨putD_sort _ _ (erase_sort hs) hn, fun s => ?_⟩
                rw [putD_look _ _ _ hn, hl]
                unfold eff
                rw [if_neg h1, if_neg h2, if_pos h3]
                by_cases e : s = o.p
                · rw [if_pos e, if_pos e, e, a4]
                  obtain ⟨P, S, e1, e2, e3, _, _⟩ := apR_get hap
                  have : spl x.2 o.a o.o o.n = some (apR x.2 o.a o.o o.n).1 := spl_iff.2 ⟨P, S, e1, e2, e3⟩
                  simp only [Option.map_some, Option.bind_some, this]
                · rw [if_neg e, if_neg e, if_neg e]
              · cases h
            · rw [if_neg h3] at h
              split at h
              · rename_i hr
                injection h with h
                subst h
                have hn := room_look hr
                refine ⟨putD_sort _ _ (erase_sort hs) hn, fun s => ?_⟩
                rw [putD_look _ _ _ hn, hl]
                unfold eff
                rw [if_neg h1, if_neg h2, if_neg h3, if_pos (show o.k = 4 by omega)]
                by_cases e : s = o.t
                · rw [if_pos e, if_pos e, a4]
                · rw [if_neg e, if_neg e]
              · cases h
  · rw [if_neg hE] at h; cases h
end Go.Proofs.Ytodfaakodgedbaa


/- grant: rows in their order; the document's put and Apply; lists alone. -/
import Derived.Test.YtapgiagpjplpdaaGreatGr10
import Derived.Test.YtapgiagpjplpdaaGreatIdL
set_option linter.unusedSimpArgs false
set_option linter.unusedVariables false
namespace Go.Proofs.YtapgiagpjplpdaaGreat
open Go.RowKit Go.Qc Go.Shelf

theorem cmpi_swap (x y : Int) : Lib.compareInt x y = - Lib.compareInt y x := by
  unfold Lib.compareInt
  by_cases h1 : x < y
  · rw [if_pos h1, if_neg (by omega), if_pos h1]
  · rw [if_neg h1]
    by_cases h2 : x > y
    · rw [if_pos h2, if_pos h2]; rfl
    · rw [if_neg h2, if_neg (by omega), if_neg (by omega)]
      rfl
theorem cmpi_zero {x y : Int} (h : Lib.compareInt x y = 0) : x = y := by
  unfold Lib.compareInt at h
  by_cases h1 : x < y
  · rw [if_pos h1] at h; omega
  · rw [if_neg h1] at h
    by_cases h2 : x > y
    · rw [if_pos h2] at h; omega
    · omega
theorem cmpi_neg {x y : Int} : Lib.compareInt x y < 0 ↔ x < y := by
  unfold Lib.compareInt
  by_cases h1 : x < y
  · rw [if_pos h1]; omega
  · rw [if_neg h1]
    by_cases h2 : x > y
    · rw [if_pos h2]; omega
    · rw [if_neg h2]; omega
theorem or_four (a b c d : Int) : orI [a, b, c, d] = if a = 0 then (if b = 0 then (if c = 0 then (if d = 0 then 0 else d) else c) else b) else a := rfl
theorem or_swap (a b c d : Int) : orI [-a, -b, -c, -d] = - orI [a, b, c, d] := by
  rw [or_four, or_four]
  by_cases h1 : a = 0
  · rw [if_pos (by omega), if_pos h1]
    by_cases h2 : b = 0
    · rw [if_pos (by omega), if_pos h2]
      by_cases h3 : c = 0
      · rw [if_pos (by omega), if_pos h3]
        by_cases h4 : d = 0
        · rw [if_pos (by omega), if_pos h4]; rfl
        · rw [if_neg (by omega), if_neg h4]
      · rw [if_neg (by omega), if_neg h3]
    · rw [if_neg (by omega), if_neg h2]
  · rw [if_neg (by omega), if_neg h1]
theorem cmpG_swap (X Y : GrD) : cmpG X Y = - cmpG Y X := by
  unfold cmpG
  rw [cmp_swap X.p, cmp_swap X.k, cmp_swap X.b, cmpi_swap X.d, or_swap]
theorem cmpG_refl (X : GrD) : cmpG X X = 0 := by have := cmpG_swap X X; omega
theorem cmpG_zero {X Y : GrD} (h : cmpG X Y = 0) : X = Y := by
  unfold cmpG at h
  rw [or_four] at h
  by_cases h1 : Lib.compareBytes X.p Y.p = 0
  · rw [if_pos h1] at h
    by_cases h2 : Lib.compareBytes X.k Y.k = 0
    · rw [if_pos h2] at h
      by_cases h3 : Lib.compareBytes X.b Y.b = 0
      · rw [if_pos h3] at h
        by_cases h4 : Lib.compareInt X.d Y.d = 0
        · have e1 := cmp_zero _ _ h1
          have e2 := cmp_zero _ _ h2
          have e3 := cmp_zero _ _ h3
          have e4 := cmpi_zero h4
          cases X; cases Y
          simp only at e1 e2 e3 e4
          subst e1 e2 e3 e4
          rfl
        · rw [if_neg h4] at h; exact (h4 h).elim
      · rw [if_neg h3] at h; exact (h3 h).elim
    · rw [if_neg h2] at h; exact (h2 h).elim
  · rw [if_neg h1] at h; exact (h1 h).elim
theorem lex_trans {a1 a2 a3 r1 r2 r3 : Int} (h1 : (if a1 = 0 then r1 else a1) < 0) (h2 : (if a2 = 0 then r2 else a2) < 0) (t : a1 < 0 → a2 < 0 → a3 < 0) (z1 : a1 = 0 → a3 = a2) (z2 : a2 = 0 → a3 = a1) (r : a1 = 0 → a2 = 0 → r1 < 0 → r2 < 0 → r3 < 0) : (if a3 = 0 then r3 else a3) < 0 := by
  by_cases e1 : a1 = 0
  · rw [if_pos e1] at h1
    by_cases e2 : a2 = 0
    · rw [if_pos e2] at h2
      rw [if_pos ((z1 e1).trans e2)]
      exact r e1 e2 h1 h2
    · rw [if_neg e2] at h2
      rw [z1 e1, if_neg e2]
      exact h2
  · rw [if_neg e1] at h1
    by_cases e2 : a2 = 0
    · rw [z2 e2, if_neg e1]
      exact h1
    · rw [if_neg e2] at h2
      have := t h1 h2
      rw [if_neg (by omega)]
      exact this
theorem cmpb_z1 {a b c : List UInt8} (h : Lib.compareBytes a b = 0) : Lib.compareBytes a c = Lib.compareBytes b c := by rw [cmp_zero _ _ h]
theorem cmpb_z2 {a b c : List UInt8} (h : Lib.compareBytes b c = 0) : Lib.compareBytes a c = Lib.compareBytes a b := by rw [cmp_zero _ _ h]
theorem cmpG_trans {X Y Z : GrD} (h1 : cmpG X Y < 0) (h2 : cmpG Y Z < 0) : cmpG X Z < 0 := by
  unfold cmpG at *
  rw [or_four] at *
  refine lex_trans h1 h2 (cmp_trans _ _ _) cmpb_z1 cmpb_z2 (fun _ _ g1 g2 => lex_trans g1 g2 (cmp_trans _ _ _) cmpb_z1 cmpb_z2 (fun _ _ k1 k2 => lex_trans k1 k2 (cmp_trans _ _ _) cmpb_z1 cmpb_z2 (fun _ _ m1 m2 => ?_)))
  have n1 : Lib.compareInt X.d Y.d < 0 := by
    by_cases e : Lib.compareInt X.d Y.d = 0
    · rw [if_pos e] at m1; omega
    · rw [if_neg e] at m1; exact m1
  have n2 : Lib.compareInt Y.d Z.d < 0 := by
    by_cases e : Lib.compareInt Y.d Z.d = 0
    · rw [if_pos e] at m2; omega
    · rw [if_neg e] at m2; exact m2
  rw [cmpi_neg] at n1 n2
  have n3 : Lib.compareInt X.d Z.d < 0 := cmpi_neg.2 (by omega)
  rw [if_neg (by omega)]
  exact n3

/-- A row in its order, each once. -/
def SortG (Xs : List GrD) : Prop := Xs.Pairwise (fun X Y => cmpG X Y < 0)
theorem SortG.at_ {Xs : List GrD} (h : SortG Xs) {i j : Nat} {X Y : GrD} (hi : Xs[i]? = some X) (hj : Xs[j]? = some Y) (hlt : i < j) : cmpG X Y < 0 := by
  obtain ⟨h1, rfl⟩ := List.getElem?_eq_some_iff.1 hi
  obtain ⟨h2, rfl⟩ := List.getElem?_eq_some_iff.1 hj
  exact List.pairwise_iff_getElem.1 h i j h1 h2 hlt
theorem pl_below {Xs : List GrD} (h : SortG Xs) (Y : GrD) {i : Nat} {X : GrD} (hi : Xs[i]? = some X) (hlt : i < plG Xs Y) : cmpG X Y < 0 := by
  have hp := plG_ok Xs Y
  obtain ⟨k, hk⟩ : ∃ k, plG Xs Y = k + 1 := ⟨plG Xs Y - 1, by omega⟩
  obtain ⟨Z, hZ, hc⟩ := hp.lo k hk
  by_cases e : i = k
  · subst e
    rw [hi] at hZ
    cases hZ
    exact hc
  · exact cmpG_trans (h.at_ hi hZ (by omega)) hc
theorem pl_above {Xs : List GrD} (h : SortG Xs) (Y : GrD) {i : Nat} {X : GrD} (hi : Xs[i]? = some X) (hge : plG Xs Y ≤ i) : ¬ cmpG X Y < 0 := by
  intro hc
  have hp := plG_ok Xs Y
  have hlt := (List.getElem?_eq_some_iff.1 hi).1
  obtain ⟨Z, hZ⟩ : ∃ Z, Xs[plG Xs Y]? = some Z := ⟨_, List.getElem?_eq_getElem (by omega)⟩
  have hn := hp.hi Z hZ
  by_cases e : plG Xs Y = i
  · rw [e, hi] at hZ
    cases hZ
    exact hn hc
  · exact hn (cmpG_trans (h.at_ hZ hi (by omega)) hc)
theorem there_iff {Xs : List GrD} (h : SortG Xs) (Y : GrD) : thereB Xs Y (plG Xs Y) = true ↔ Y ∈ Xs := by
  unfold thereB
  constructor
  · intro ht
    cases hX : Xs[plG Xs Y]? with
    | none => rw [hX] at ht; cases ht
    | some X =>
      rw [hX] at ht
      simp only [beq_iff_eq] at ht
      rw [← cmpG_zero ht]
      exact List.mem_of_getElem? hX
  · intro hY
    obtain ⟨i, hi⟩ := List.getElem?_of_mem hY
    have h1 : ¬ i < plG Xs Y := fun hlt => by have := pl_below h Y hi hlt; rw [cmpG_refl] at this; omega
    by_cases e : plG Xs Y = i
    · rw [e, hi]
      simp only [beq_iff_eq]
      exact cmpG_refl Y
    · have hlt := (List.getElem?_eq_some_iff.1 hi).1
      obtain ⟨Z, hZ⟩ : ∃ Z, Xs[plG Xs Y]? = some Z := ⟨_, List.getElem?_eq_getElem (by omega)⟩
      exact ((plG_ok Xs Y).hi Z hZ (h.at_ hZ hi (by omega))).elim
/-- With one more, as the document puts it. -/
def putGD : List GrD → GrD → List GrD
  | [], Y => [Y]
  | X :: Xs, Y => if cmpG Y X < 0 then Y :: X :: Xs else X :: putGD Xs Y
theorem putGD_at (Y : GrD) (R : List GrD) (hR : ∀ X, R[0]? = some X → cmpG Y X < 0) : ∀ (L : List GrD), (∀ X ∈ L, ¬ cmpG Y X < 0) → putGD (L ++ R) Y = L ++ Y :: R
  | [], _ => by
    cases R with
    | nil => rfl
    | cons X R => rw [List.nil_append, putGD, if_pos (hR X rfl)]; rfl
  | X :: L, h => by
    rw [List.cons_append, putGD, if_neg (h X (by simp)), putGD_at Y R hR L (fun Z hZ => h Z (by simp [hZ]))]
    rfl
theorem put_same {Xs : List GrD} (h : SortG Xs) {Y : GrD} (hY : Y ∉ Xs) : putG Xs Y = putGD Xs Y := by
  have hl := (plG_ok Xs Y).le
  have e := putGD_at Y (Xs.drop (plG Xs Y)) (fun X hX => by
    rw [List.getElem?_drop, Nat.add_zero] at hX
    have h1 := pl_above h Y hX (Nat.le_refl _)
    have h2 : cmpG X Y ≠ 0 := fun e => hY (by rw [← cmpG_zero e]; exact List.mem_of_getElem? hX)
    rw [cmpG_swap]
    omega) (Xs.take (plG Xs Y)) (fun X hX => by
    obtain ⟨i, hi⟩ := List.getElem?_of_mem hX
    rw [List.getElem?_take] at hi
    by_cases hlt : i < plG Xs Y
    · rw [if_pos hlt] at hi
      have := pl_below h Y hi hlt
      rw [cmpG_swap] at this
      omega
    · rw [if_neg hlt] at hi; cases hi)
  rw [List.take_append_drop] at e
  unfold putG
  exact e.symm
theorem sort_put {Xs : List GrD} (h : SortG Xs) {Y : GrD} (hY : Y ∉ Xs) : SortG (putG Xs Y) := by
  unfold putG SortG
  refine List.pairwise_append.2 ⟨h.sublist (List.take_sublist _ _), List.pairwise_cons.2 ⟨fun X hX => ?_, h.sublist (List.drop_sublist _ _)⟩, fun X hX Z hZ => ?_⟩
  · obtain ⟨i, hi⟩ := List.getElem?_of_mem hX
    rw [List.getElem?_drop] at hi
    have h1 := pl_above h Y hi (by omega)
    have h2 : cmpG X Y ≠ 0 := fun e => hY (by rw [← cmpG_zero e]; exact List.mem_of_getElem? hi)
    rw [cmpG_swap]
    omega
  · obtain ⟨i, hi⟩ := List.getElem?_of_mem hX
    rw [List.getElem?_take] at hi
    by_cases hlt : i < plG Xs Y
    · rw [if_pos hlt] at hi
      rcases List.mem_cons.1 hZ with rfl | hZ
      · exact pl_below h Z hi hlt
      · obtain ⟨j, hj⟩ := List.getElem?_of_mem hZ
        rw [List.getElem?_drop] at hj
        exact h.at_ hi hj (by omega)
    · rw [if_neg hlt] at hi; cases hi
theorem sort_iter {root : List UInt8} : ∀ (N : Nat) {l : List GrD}, SortG l → SortG (iterH root N l)
  | 0, _, h => h
  | N + 1, l, h => sort_iter N (List.Pairwise.filter _ h)
/-- Does one stand in a row? -/
def inB (Xs : List GrD) (Y : GrD) : Bool := Xs.any fun X => cmpG X Y == 0
theorem inB_iff {Xs : List GrD} {Y : GrD} : inB Xs Y = true ↔ Y ∈ Xs := by
  unfold inB
  rw [List.any_eq_true]
  constructor
  · rintro ⟨X, hX, h⟩
    rw [beq_iff_eq] at h
    rw [← cmpG_zero h]
    exact hX
  · intro h
    exact ⟨Y, h, by rw [beq_iff_eq]; exact cmpG_refl Y⟩
/-- What the document's Apply answers: the grants, and an error. -/
def applyD19 (root : List UInt8) (Xs : List GrD) (key : List UInt8) (D : OpD) : List GrD × Int :=
  if opE D ≠ 0 then (Xs, opE D)
  else if D.k < 5 then (Xs, 1)
  else if D.k = 5 then
    (if depV root Xs key D.p ≤ D.d then (Xs, 10)
     else if inB Xs (newG key D) = true then (Xs, 7)
     else if D.K = root then (Xs, 7)
     else if 500 ≤ Xs.length then (Xs, 14)
     else (putGD Xs (newG key D), 0))
  else if depV root Xs key D.p < 1 then (Xs, 10)
  else if (leftG D.K D.p Xs).length = Xs.length then (Xs, 6)
  else (iterH root Xs.length (leftG D.K D.p Xs), 0)
theorem opE_kind {D : OpD} (h : opE D = 0) : 1 ≤ D.k ∧ D.k ≤ 6 := by
  unfold opE at h
  split at h
  · rename_i hk; exact hk
  · omega
/-- Program and document agree: what is answered, and what stands behind it. -/
theorem apply_same {root : List UInt8} {Xs : List GrD} (h : SortG Xs) (key : List UInt8) (D : OpD) : applyD19 root Xs key D = (nextG root Xs key D, (appG root Xs key D).2) := by
  unfold applyD19 nextG appG
  by_cases h1 : opE D ≠ 0
  · rw [if_pos h1, if_pos h1, if_neg h1]
  · rw [if_neg h1, if_neg h1]
    have hk := opE_kind (Decidable.not_not.1 h1)
    by_cases h2 : D.k < 5
    · rw [if_pos h2, if_pos (show ¬ (D.k = 5 ∨ D.k = 6) by omega), if_neg (by decide)]
    · rw [if_neg h2, if_neg (show ¬ ¬ (D.k = 5 ∨ D.k = 6) by omega)]
      by_cases h3 : D.k = 5
      · rw [if_pos h3, if_neg (show ¬ D.k = 6 by omega)]
        by_cases h4 : depV root Xs key D.p ≤ D.d
        · rw [if_pos h4, if_pos h4, if_neg (by decide)]
        · rw [if_neg h4, if_neg h4]
          by_cases h5 : newG key D ∈ Xs
          · rw [if_pos (inB_iff.2 h5), if_pos (show thereB Xs (newG key D) (plG Xs (newG key D)) = true ∨ D.K = root from .inl ((there_iff h _).2 h5)), if_neg (by decide)]
          · rw [if_neg (fun e => h5 (inB_iff.1 e))]
            by_cases h6 : D.K = root
            · rw [if_pos h6, if_pos (show thereB Xs (newG key D) (plG Xs (newG key D)) = true ∨ D.K = root from .inr h6), if_neg (by decide)]
            · rw [if_neg h6, if_neg (show ¬ (thereB Xs (newG key D) (plG Xs (newG key D)) = true ∨ D.K = root) from fun e => e.elim (fun e => h5 ((there_iff h _).1 e)) h6)]
              by_cases h7 : 500 ≤ Xs.length
              · rw [if_pos h7, if_pos h7, if_neg (by decide)]
              · rw [if_neg h7, if_neg h7, if_pos rfl, put_same h h5]
      · rw [if_neg h3, if_pos (show D.k = 6 by omega)]
        by_cases h4 : depV root Xs key D.p < 1
        · rw [if_pos h4, if_pos h4, if_neg (by decide)]
        · rw [if_neg h4, if_neg h4]
          by_cases h5 : (leftG D.K D.p Xs).length = Xs.length
          · rw [if_pos h5, if_pos h5, if_neg (by decide)]
          · rw [if_neg h5, if_neg h5, if_pos rfl]
theorem sort_next {root : List UInt8} {Xs : List GrD} (h : SortG Xs) (key : List UInt8) (D : OpD) : SortG (nextG root Xs key D) := by
  unfold nextG appG
  by_cases h1 : opE D ≠ 0
  · rw [if_pos h1, if_neg h1]; exact h
  · rw [if_neg h1]
    by_cases h2 : ¬ (D.k = 5 ∨ D.k = 6)
    · rw [if_pos h2, if_neg (by decide)]; exact h
    · rw [if_neg h2]
      by_cases h3 : D.k = 6
      · rw [if_pos h3]
        by_cases h4 : depV root Xs key D.p < 1
        · rw [if_pos h4, if_neg (by decide)]; exact h
        · rw [if_neg h4]
          by_cases h5 : (leftG D.K D.p Xs).length = Xs.length
          · rw [if_pos h5, if_neg (by decide)]; exact h
          · rw [if_neg h5, if_pos rfl]
            exact sort_iter _ (List.Pairwise.filter _ h)
      · rw [if_neg h3]
        by_cases h4 : depV root Xs key D.p ≤ D.d
        · rw [if_pos h4, if_neg (by decide)]; exact h
        · rw [if_neg h4]
          by_cases h5 : thereB Xs (newG key D) (plG Xs (newG key D)) = true ∨ D.K = root
          · rw [if_pos h5, if_neg (by decide)]; exact h
          · rw [if_neg h5]
            by_cases h6 : 500 ≤ Xs.length
            · rw [if_pos h6, if_neg (by decide)]; exact h
            · rw [if_neg h6, if_pos rfl]
              exact sort_put h (fun e => h5 (.inl ((there_iff h _).2 e)))
end Go.Proofs.YtapgiagpjplpdaaGreat

/- What undoes operations, on files as data: lists alone. -/
import Derived.Test.YtodfaakodgedbaaFl5
import Derived.Test.YtodfaakodgedbaaTr3
set_option linter.unusedSimpArgs false
set_option linter.unusedVariables false
namespace Go.Proofs.Ytodfaakodgedbaa
open Go.RowKit Go.Qc Go.Shelf

/-- No path covers another one. -/
def ApartF (L : List FD) : Prop := ∀ x ∈ L, ∀ y ∈ L, x.1 ≠ y.1 → covB x.1 y.1 = false
structure GoodF (L : List FD) : Prop where
  s : SortF L
  a : ApartF L
  n : L.length ≤ 200
  r : ∀ x ∈ L, pathR x.1 = true
theorem GoodF.nil : GoodF [] := ⟨List.Pairwise.nil, fun x h => by simp at h, by simp, fun x h => by simp at h⟩
theorem room_iff (L : List FD) (s : List UInt8) : roomV L s = 0 ↔ look L s = none ∧ ∀ x ∈ L, covB x.1 s = false ∧ covB s x.1 = false := by
  unfold roomV
  rcases look_at L s with ⟨h1, h2⟩ | ⟨i, x, h1, _, _, h4⟩
  · rw [h1, if_neg (by decide)]
    constructor
    · intro h
      refine ⟨h2, fun x hx => ?_⟩
      split at h
      · cases h
      · rename_i h3
        have : ¬ (covB x.1 s || covB s x.1) = true := fun e => h3 (List.any_eq_true.2 ⟨x, hx, e⟩)
        simpa using this
    · rintro ⟨_, h⟩
      rw [if_neg]
      intro h3
      obtain ⟨x, hx, e⟩ := List.any_eq_true.1 h3
      rw [(h x hx).1, (h x hx).2] at e
      cases e
  · rw [h1, if_pos (by omega)]
    constructor
    · intro h; cases h
    · rintro ⟨h, _⟩
      rw [h] at h4
      cases h4
theorem putD_len : ∀ (L : List FD) (f : FD), (putD L f).length = L.length + 1
  | [], f => rfl
  | x :: xs, f => by
    rw [putD]
    split
    · rfl
    · rw [List.length_cons, putD_len xs f]; rfl
theorem apart_put {L : List FD} {f : FD} (h : ApartF L) (hr : roomV L f.1 = 0) : ApartF (putD L f) := by
  obtain ⟨_, h2⟩ := (room_iff L f.1).1 hr
  intro x hx y hy hne
  rcases putD_mem L f x hx with e | hx2
  · rcases putD_mem L f y hy with e2 | hy2
    · exact absurd (by rw [e, e2]) hne
    · rw [e]; exact (h2 y hy2).2
  · rcases putD_mem L f y hy with e2 | hy2
    · rw [e2]; exact (h2 x hx2).1
    · exact h x hx2 y hy2 hne
theorem apart_put_at {L E : List FD} {p : List UInt8} {l l' : List (List UInt8)} (h : ApartF L) (hE : ∀ x ∈ E, x ∈ L) (hp : (p, l) ∈ L) : ApartF (putD E (p, l')) := by
  intro x hx y hy hne
  rcases putD_mem E _ x hx with e | hx2
  · rcases putD_mem E _ y hy with e2 | hy2
    · exact absurd (by rw [e, e2]) hne
    · rw [e] at hne ⊢; exact h (p, l) hp y (hE y hy2) hne
  · rcases putD_mem E _ y hy with e2 | hy2
    · rw [e2] at hne ⊢; exact h x (hE x hx2) (p, l) hp hne
    · exact h x (hE x hx2) y (hE y hy2) hne
theorem right_put {L : List FD} {f : FD} (h : ∀ x ∈ L, pathR x.1 = true) (hf : pathR f.1 = true) : ∀ x ∈ putD L f, pathR x.1 = true := by
  intro x hx
  rcases putD_mem L f x hx with e | hx2
  · rw [e]; exact hf
  · exact h x hx2
theorem room_erase {L : List FD} {i : Nat} {x : FD} (hs : SortF L) (ha : ApartF L) (hx : L[i]? = some x) : roomV (L.eraseIdx i) x.1 = 0 := by
  have hl : look (L.eraseIdx i) x.1 = none := by rw [erase_look L i x x.1 hs hx, if_pos rfl]
  refine (room_iff _ _).2 ⟨hl, fun y hy => ?_⟩
  have hne := (look_none _ _).1 hl y hy
  have my := List.mem_of_mem_eraseIdx hy
  have mx := List.mem_of_getElem? hx
  exact ⟨ha y my x mx hne, ha x mx y my (fun e => hne e.symm)⟩
/-- What undoes an operation that is no policy. -/
def invD (D : OpD) : List OpD :=
  if D.k = 1 then [⟨2, D.p, [], 0, [], [], zeroB, 0⟩]
  else if D.k = 2 then (if D.o = [] then [⟨1, D.p, [], 0, [], [], zeroB, 0⟩] else [⟨1, D.p, [], 0, [], [], zeroB, 0⟩, ⟨3, D.p, [], 0, [], D.o, zeroB, 0⟩])
  else if D.k = 3 then [⟨3, D.p, [], D.a, D.n, D.o, zeroB, 0⟩]
  else [⟨4, D.t, D.p, 0, [], [], zeroB, 0⟩]
theorem formed_of {D : OpD} (h : opE D = 0) : (1 ≤ D.k ∧ D.k ≤ 6) ∧ formedR D = true := by
  unfold opE at h
  split at h
  · rename_i hk
    split at h
    · rename_i hb
      rw [Bool.and_eq_true] at hb
      exact ⟨hk, hb.2⟩
    · cases h
  · cases h
theorem tdE_1 {p : List UInt8} (h : pathR p = true) : opE ⟨1, p, [], 0, [], [], zeroB, 0⟩ = 0 := by
  have h2 : linesR [] = true := by decide
  simp [opE, bareR, formedR, h, h2]
theorem tdE_2 {p : List UInt8} (h : pathR p = true) : opE ⟨2, p, [], 0, [], [], zeroB, 0⟩ = 0 := by
  have h2 : linesR [] = true := by decide
  simp [opE, bareR, formedR, h, h2]
theorem tdE_3 {p : List UInt8} {a : Int} {o n : List (List UInt8)} (h : pathR p = true) (h2 : hunkR a o n = true) : opE ⟨3, p, [], a, o, n, zeroB, 0⟩ = 0 := by
  simp [opE, bareR, formedR, h, h2]
theorem tdE_4 {p t : List UInt8} (h : pathR p = true) (h2 : pathR t = true) (hne : t ≠ p) : opE ⟨4, p, t, 0, [], [], zeroB, 0⟩ = 0 := by
  simp [opE, bareR, formedR, h, h2, hne]
theorem tdh_swap {a : Int} {o n : List (List UInt8)} (h : hunkR a o n = true) : hunkR a n o = true := by
  unfold hunkR at h ⊢
  simp only [Bool.and_eq_true, decide_eq_true_eq] at h ⊢
  obtain ⟨h1, h2, h3, h4, h5⟩ := h
  exact ⟨h1, h2, h4, h3, by omega⟩
theorem apply_1 {L : List FD} {p : List UInt8} (hp : pathR p = true) (hr : roomV L p = 0) (hn : L.length < 200) : applyF L ⟨1, p, [], 0, [], [], zeroB, 0⟩ = .ok (putD L (p, [])) := by
  unfold applyF
  rw [if_pos (tdE_1 hp), if_neg (show ¬ (4 : Int) < 1 by decide), if_pos rfl, if_pos hr, if_neg (by omega)]
theorem apply_2 {L : List FD} {p : List UInt8} {i : Nat} {x : FD} (hp : pathR p = true) (ha : atV L p = (i : Nat)) (hx : L[i]? = some x) (h0 : x.2 = []) : applyF L ⟨2, p, [], 0, [], [], zeroB, 0⟩ = .ok (L.eraseIdx i) := by
  unfold applyF
  rw [if_pos (tdE_2 hp), if_neg (show ¬ (4 : Int) < 2 by decide), if_neg (show ¬ (2 : Int) = 1 by decide)]
  simp only [ha]
  rw [if_neg (by omega), Int.toNat_natCast, hx]
  simp [h0]
theorem apply_3 {L : List FD} {p : List UInt8} {a : Int} {o n M : List (List UInt8)} {i : Nat} {x : FD} (hp : pathR p = true) (hh : hunkR a o n = true) (ha : atV L p = (i : Nat)) (hx : L[i]? = some x) (h0 : apR x.2 a o n = (M, 0)) : applyF L ⟨3, p, [], a, o, n, zeroB, 0⟩ = .ok (putD (L.eraseIdx i) (p, M)) := by
  unfold applyF
  rw [if_pos (tdE_3 hp hh), if_neg (show ¬ (4 : Int) < 3 by decide), if_neg (show ¬ (3 : Int) = 1 by decide)]
  simp only [ha]
  rw [if_neg (by omega), Int.toNat_natCast, hx]
  simp [h0]
theorem apply_4 {L : List FD} {p t : List UInt8} {i : Nat} {x : FD} (hp : pathR p = true) (ht : pathR t = true) (hne : t ≠ p) (ha : atV L p = (i : Nat)) (hx : L[i]? = some x) (h0 : roomV (L.eraseIdx i) t = 0) : applyF L ⟨4, p, t, 0, [], [], zeroB, 0⟩ = .ok (putD (L.eraseIdx i) (t, x.2)) := by
  unfold applyF
  rw [if_pos (tdE_4 hp ht hne), if_neg (show ¬ (4 : Int) < 4 by decide), if_neg (show ¬ (4 : Int) = 1 by decide)]
  simp only [ha]
  rw [if_neg (by omega), Int.toNat_natCast, hx]
  simp [h0]
theorem all_one {L M : List FD} {o : OpD} {k : Nat} (h : applyF L o = .ok M) : allF k L [o] = .ok M := by
  rw [allF, h]
  rfl
theorem all_two {L M N : List FD} {o q : OpD} {k : Nat} (h : applyF L o = .ok M) (h2 : applyF M q = .ok N) : allF k L [o, q] = .ok N := by
  rw [allF, h]
  simp only
  rw [allF, h2]
  rfl
/-- Where a path stands, told by what is at it. -/
theorem at_of_look {L : List FD} {s : List UInt8} {l : List (List UInt8)} (h : look L s = some (some l)) : ∃ i x, atV L s = (i : Nat) ∧ L[i]? = some x ∧ x.1 = s ∧ x.2 = l := by
  rcases look_at L s with ⟨_, h2⟩ | ⟨i, x, h1, h2, h3, h4⟩
  · rw [h2] at h; cases h
  · rw [h] at h4
    injection h4 with h4
    injection h4 with h4
    exact ⟨i, x, h1, h2, h3, h4.symm⟩
theorem put_erase {L : List FD} {i : Nat} {x : FD} (hs : SortF L) (hx : L[i]? = some x) : putD (L.eraseIdx i) x = L := by
  have hn : look (L.eraseIdx i) x.1 = none := by rw [erase_look L i x x.1 hs hx, if_pos rfl]
  refine look_ext _ _ (putD_sort _ _ (erase_sort hs) hn) hs (fun s => ?_)
  rw [putD_look _ _ _ hn, erase_look L i x s hs hx]
  by_cases e : s = x.1
  · rw [if_pos e, e]
    have : ∀ (L : List FD) (i : Nat), SortF L → L[i]? = some x → look L x.1 = some (some x.2) := by
      intro L
      induction L with
      | nil => intro i _ h; simp at h
      | cons y L ih =>
        intro i hs hx
        rw [look]
        by_cases e : y.1 = x.1
        · rw [if_pos e]
          cases i with
          | zero => simp at hx; rw [hx]
          | succ i =>
            rw [List.getElem?_cons_succ] at hx
            have := (List.pairwise_cons.1 hs).1 x (List.mem_of_getElem? hx)
            rw [e, bl_irr] at this
            cases this
        · rw [if_neg e]
          cases i with
          | zero => simp at hx; exact absurd (by rw [hx]) e
          | succ i =>
            rw [List.getElem?_cons_succ] at hx
            exact ih i (List.pairwise_cons.1 hs).2 hx
    rw [this L i hs hx]
  · rw [if_neg e, if_neg e]
theorem erase_put {L : List FD} {f x : FD} {j : Nat} (hs : SortF L) (hn : look L f.1 = none) (hx : (putD L f)[j]? = some x) (he : x.1 = f.1) : (putD L f).eraseIdx j = L := by
  have s1 := putD_sort L f hs hn
  refine look_ext _ _ (erase_sort s1) hs (fun s => ?_)
  rw [erase_look _ j x s s1 hx, putD_look _ _ _ hn, he]
  by_cases e : s = f.1
  · rw [if_pos e, e, hn]
  · rw [if_neg e, if_neg e]
/-- An operation, and what undoes it. -/
theorem undo_one {L L' : List FD} {D : OpD} (h : GoodF L) (hk : D.k ≤ 4) (ha : applyF L D = .ok L') : GoodF L' ∧ allF 0 L' (invD D) = .ok L := by
  have hs' := (apply_eff h.s ha).1
  unfold applyF at ha
  by_cases hE : opE D = 0
  · rw [if_pos hE, if_neg (by omega)] at ha
    obtain ⟨⟨k1, k6⟩, hf⟩ := formed_of hE
    by_cases e1 : D.k = 1
    · rw [if_pos e1] at ha
      by_cases hr : roomV L D.p = 0
      · rw [if_pos hr] at ha
        by_cases h2 : 200 ≤ L.length
        · rw [if_pos h2] at ha; cases ha
        · rw [if_neg h2] at ha
          injection ha with ha
          subst ha
          have hp : pathR D.p = true := by
            unfold formedR at hf
            rw [if_neg (by omega), if_neg (by omega), if_neg (by omega), Bool.and_eq_true] at hf
            exact hf.1
          have hn := room_look hr
          refine ⟨⟨hs', apart_put h.a hr, by rw [putD_len]; omega, right_put h.r hp⟩, ?_⟩
          obtain ⟨i, x, q1, q2, q3, q4⟩ := at_of_look (L := putD L (D.p, [])) (s := D.p) (l := []) (by rw [putD_look _ _ _ hn, if_pos rfl])
          unfold invD
          rw [if_pos e1, all_one (apply_2 hp q1 q2 q4), erase_put h.s hn q2 q3]
      · rw [if_neg hr] at ha; cases ha
    · rw [if_neg e1] at ha
      rcases look_at L D.p with ⟨a1, _⟩ | ⟨i, x, a1, a2, a3, a4⟩
      · rw [a1, if_pos (by decide)] at ha; cases ha
      · rw [a1, if_neg (by omega), Int.toNat_natCast, a2] at ha
        simp only at ha
        have hlt : i < L.length := (List.getElem?_eq_some_iff.1 a2).1
        have hlen : (L.eraseIdx i).length = L.length - 1 := by rw [List.length_eraseIdx, if_pos hlt]
        have hln := h.n
        have hsE := erase_sort (i := i) h.s
        have hnE : look (L.eraseIdx i) D.p = none := by rw [erase_look L i x D.p h.s a2, if_pos a3.symm]
        have hrE : roomV (L.eraseIdx i) D.p = 0 := by rw [← a3]; exact room_erase h.s h.a a2
        have aE : ApartF (L.eraseIdx i) := fun y hy z hz => h.a y (List.mem_of_mem_eraseIdx hy) z (List.mem_of_mem_eraseIdx hz)
        have rE : ∀ y ∈ L.eraseIdx i, pathR y.1 = true := fun y hy => h.r y (List.mem_of_mem_eraseIdx hy)
        have hx : x = (D.p, x.2) := Prod.ext a3 rfl
        have hback := put_erase h.s a2
        rw [hx] at hback
        by_cases e2 : D.k = 2
        · rw [if_pos e2] at ha
          have hp : pathR D.p = true ∧ linesR D.o = true := by
            unfold formedR at hf
            rw [if_neg (by omega), if_neg (by omega), if_neg (by omega), Bool.and_eq_true] at hf
            exact hf
          split at ha
          · rename_i ho
            injection ha with ha
            subst ha
            refine ⟨⟨hs', aE, by omega, rE⟩, ?_⟩
            have c1 := apply_1 hp.1 hrE (by omega)
            unfold invD
            rw [if_neg e1, if_pos e2]
            by_cases h0 : D.o = []
            · rw [if_pos h0, all_one c1]
              rw [ho, h0] at hback
              rw [hback]
            · rw [if_neg h0]
              have hh : hunkR 0 [] D.o = true := by
                have h3 : linesR [] = true := by decide
                have h4 : 0 < D.o.length := List.length_pos_iff.2 h0
                unfold hunkR
                rw [hp.2, h3]
                simp [h4]
              have ho3 : D.o.length ≤ 1000 := by
                have := hp.2
                unfold linesR at this
                simp only [Bool.and_eq_true, decide_eq_true_eq] at this
                exact this.1
              have hap : apR [] 0 [] D.o = (D.o, 0) := by
                have := apR_put (P := []) (old := []) (new := D.o) (S := []) (by decide) hh (by simpa using ho3)
                simpa using this
              obtain ⟨j, y, q1, q2, q3, q4⟩ := at_of_look (L := putD (L.eraseIdx i) (D.p, [])) (s := D.p) (l := []) (by rw [putD_look _ _ _ hnE, if_pos rfl])
              rw [all_two c1 (apply_3 hp.1 hh q1 q2 (by rw [q4]; exact hap)), erase_put hsE hnE q2 q3]
              rw [ho] at hback
              rw [hback]
          · cases ha
        · rw [if_neg e2] at ha
          by_cases e3 : D.k = 3
          · rw [if_pos e3] at ha
            have hp : pathR D.p = true ∧ hunkR D.a D.o D.n = true := by
              unfold formedR at hf
              rw [if_neg (by omega), if_neg (by omega), if_pos e3, Bool.and_eq_true] at hf
              exact hf
            split at ha
            · rename_i hap
              injection ha with ha
              subst ha
              obtain ⟨b1, b2⟩ := apR_back x.2 D.a D.o D.n hap
              refine ⟨⟨hs', apart_put_at (l := x.2) h.a (fun y hy => List.mem_of_mem_eraseIdx hy) (by rw [← hx]; exact List.mem_of_getElem? a2), by rw [putD_len]; omega, right_put rE hp.1⟩, ?_⟩
              obtain ⟨j, y, q1, q2, q3, q4⟩ := at_of_look (L := putD (L.eraseIdx i) (D.p, (apR x.2 D.a D.o D.n).1)) (s := D.p) (l := (apR x.2 D.a D.o D.n).1) (by rw [putD_look _ _ _ hnE, if_pos rfl])
              unfold invD
              rw [if_neg e1, if_neg e2, if_pos e3, all_one (apply_3 hp.1 (tdh_swap hp.2) q1 q2 (by rw [q4]; exact b1)), erase_put hsE hnE q2 q3, hback]
            · cases ha
          · rw [if_neg e3] at ha
            have e4 : D.k = 4 := by omega
            have hp : pathR D.p = true ∧ pathR D.t = true ∧ D.t ≠ D.p := by
              unfold formedR at hf
              rw [if_neg (by omega), if_pos e4] at hf
              simp only [Bool.and_eq_true, decide_eq_true_eq] at hf
              exact hf
            split at ha
            · rename_i hr
              injection ha with ha
              subst ha
              have hn := room_look hr
              refine ⟨⟨hs', apart_put aE hr, by rw [putD_len]; omega, right_put rE hp.2.1⟩, ?_⟩
              obtain ⟨j, y, q1, q2, q3, q4⟩ := at_of_look (L := putD (L.eraseIdx i) (D.t, x.2)) (s := D.t) (l := x.2) (by rw [putD_look _ _ _ hn, if_pos rfl])
              have he := erase_put hsE hn q2 q3
              unfold invD
              rw [if_neg e1, if_neg e2, if_neg e3, all_one (apply_4 hp.2.1 hp.1 (fun e => hp.2.2 e.symm) q1 q2 (by rw [he]; exact hrE)), he, q4, hback]
            · cases ha
  · rw [if_neg hE] at ha; cases ha
theorem pol_same {L L' : List FD} {D : OpD} (hk : 4 < D.k) (ha : applyF L D = .ok L') : L' = L := by
  unfold applyF at ha
  by_cases hE : opE D = 0
  · rw [if_pos hE, if_pos hk] at ha
    injection ha with ha
    exact ha.symm
  · rw [if_neg hE] at ha; cases ha
theorem good_next {L L' : List FD} {D : OpD} (h : GoodF L) (ha : applyF L D = .ok L') : GoodF L' := by
  by_cases hk : D.k ≤ 4
  · exact (undo_one h hk ha).1
  · rw [pol_same (by omega) ha]; exact h
end Go.Proofs.Ytodfaakodgedbaa
/- Where a file may stand among files by their paths: what the program looks at is what the document looks at: lists alone. -/
set_option linter.unusedSimpArgs false
set_option linter.unusedVariables false
namespace Go.Proofs.Ytodfaakodgedbaa
open Go.RowKit Go.Qc Go.Shelf

theorem split_no47 : ∀ (l : List UInt8), ∀ x ∈ splitS l, (47 : UInt8) ∉ x
  | [], x, h => by
    simp [splitS] at h
    subst h
    simp
  | b :: l, x, h => by
    have ih := split_no47 l
    rw [splitS] at h
    by_cases hb : b = 47
    · rw [if_pos hb] at h
      rcases List.mem_cons.1 h with rfl | h
      · simp
      · exact ih x h
    · rw [if_neg hb] at h
      cases hq : splitS l with
      | nil =>
        rw [hq] at h
        simp at h
        subst h
        simp
        exact fun e => hb e.symm
      | cons y ys =>
        rw [hq] at h ih
        simp only at h
        rcases List.mem_cons.1 h with rfl | h
        · intro hm
          rcases List.mem_cons.1 hm with e | hm
          · exact hb e.symm
          · exact ih y (by simp) hm
        · exact ih x (by simp [h])
theorem abv_eq (s : List UInt8) : ((47 : UInt8) ∉ s ∧ abvS s = []) ∨ ((47 : UInt8) ∉ lstS s ∧ s = abvS s ++ 47 :: lstS s) := by
  obtain ⟨U, m, h1, h2, h3⟩ := splitS_last s
  have hm : (47 : UInt8) ∉ m := split_no47 s m (by rw [h1]; simp)
  have hj := joinS_split s
  rw [h1] at hj
  by_cases hU : U = []
  · subst hU
    rw [List.nil_append, joinS_one] at hj
    left
    rw [h2, ← hj]
    exact ⟨hm, rfl⟩
  · right
    rw [joinS_snoc _ _ hU] at hj
    rw [h2, h3]
    exact ⟨hm, by simpa using hj.symm⟩
theorem abv_right {s : List UInt8} (h : pathR s = true) (hne : abvS s ≠ []) : pathR (abvS s) = true := by
  rcases abv_eq s with ⟨_, e⟩ | ⟨hm, e⟩
  · exact absurd e hne
  · have hsp : splitS s = splitS (abvS s) ++ [lstS s] := by
      conv => lhs; rw [e]
      rw [splitS_mid, splitS_no _ (fun x hx e => hm (e ▸ hx))]
    unfold pathR at h
    simp only [Bool.and_eq_true, decide_eq_true_eq, List.all_eq_true] at h
    obtain ⟨l1, l2, l3⟩ := h
    have hl := congrArg List.length e
    rw [List.length_append] at hl
    rw [hsp] at l2 l3
    rw [List.length_append] at l2
    exact pathR_ok (by omega) (by omega) (fun x hx => l3 x (List.mem_append_left _ hx))
theorem abv_less {s : List UInt8} (h : s ≠ []) : (abvS s).length < s.length := by
  rcases abv_eq s with ⟨_, e⟩ | ⟨_, e⟩
  · rw [e]; exact List.length_pos_iff.2 h
  · have hl := congrArg List.length e
    rw [List.length_append, List.length_cons] at hl
    omega
/-- What stands above a text, with a slash behind it, is no longer than the text without its last part. -/
theorem abv_top {s t : List UInt8} (h : (t ++ [47]) <+: s) : t.length ≤ (abvS s).length := by
  have hmem : (47 : UInt8) ∈ s := h.subset (by simp)
  rcases abv_eq s with ⟨hn, _⟩ | ⟨hm, e⟩
  · exact absurd hmem hn
  · apply Classical.byContradiction
    intro hlt
    have hg : s[t.length]? = some 47 := by
      obtain ⟨u, rfl⟩ := h
      rw [List.append_assoc, List.getElem?_append_right (by omega), Nat.sub_self]
      rfl
    rw [e, List.getElem?_append_right (by omega), show t.length - (abvS s).length = (t.length - (abvS s).length - 1) + 1 by omega, List.getElem?_cons_succ] at hg
    exact hm (List.mem_of_getElem? hg)
theorem abv_pre {s : List UInt8} (h : abvS s ≠ []) : (abvS s ++ [47]) <+: s := by
  rcases abv_eq s with ⟨_, e⟩ | ⟨_, e⟩
  · exact absurd e h
  · refine ⟨lstS s, ?_⟩
    conv => rhs; rw [e]
    simp
/-- Under way: what is above and longer isn't there. -/
structure AbvI (Xs : List FlV) (s a : List UInt8) : Prop where
  h : a = [] ∨ ((a ++ [47]) <+: s ∧ pathR a = true)
  n : ∀ X ∈ Xs, (X.p ++ [47]) <+: s → X.p.length ≤ a.length
theorem AbvI.start {Xs : List FlV} {s : List UInt8} (hs : pathR s = true) : AbvI Xs s (abvS s) := by
  refine ⟨?_, fun X _ h => abv_top h⟩
  by_cases e : abvS s = []
  · exact .inl e
  · exact .inr ⟨abv_pre e, abv_right hs e⟩
theorem AbvI.next {Xs : List FlV} {s a : List UInt8} (h : AbvI Xs s a) (ha : a ≠ []) (hn : ∀ X ∈ Xs, X.p ≠ a) : AbvI Xs s (abvS a) := by
  rcases h.h with e | ⟨h1, h2⟩
  · exact absurd e ha
  · have hpre : a <+: s := (List.prefix_append a [47]).trans h1
    refine ⟨?_, fun X hX hx => ?_⟩
    · by_cases e : abvS a = []
      · exact .inl e
      · exact .inr ⟨(abv_pre e).trans hpre, abv_right h2 e⟩
    · have hl := h.n X hX hx
      have hxp : X.p <+: s := (List.prefix_append X.p [47]).trans hx
      by_cases e : X.p.length = a.length
      · exact absurd ((List.prefix_of_prefix_length_le hxp hpre (by omega)).eq_of_length e) (hn X hX)
      · exact abv_top (List.prefix_of_prefix_length_le hx hpre (by rw [List.length_append]; simp; omega))
theorem AbvI.pathA {Xs : List FlV} {s a : List UInt8} (h : AbvI Xs s a) (ha : a ≠ []) : pathR a = true := by
  rcases h.h with e | ⟨_, h2⟩
  · exact absurd e ha
  · exact h2
theorem cov_pre {p s : List UInt8} (h0 : p ≠ []) (h1 : p ≠ s) : covB p s = true ↔ (p ++ [47]) <+: s := by
  rw [covB_far p s h0 h1, List.isPrefixOf_iff_prefix]
theorem path_ne {s : List UInt8} (h : pathR s = true) : s ≠ [] := fun e => by rw [e, pathR_nil] at h; cases h
/-- A path is hit just if a file stands there. -/
theorem hit_iff {Xs : List FlV} {s : List UInt8} {p : Nat} (hs : SortF (Xs.map FlV.D)) (hp : FindP Xs s p) : hitB Xs s p = true ↔ ∃ X ∈ Xs, X.p = s := by
  constructor
  · intro h
    unfold hitB at h
    cases hq : Xs[p]? with
    | none => rw [hq] at h; cases h
    | some X =>
      rw [hq] at h
      exact ⟨X, List.mem_of_getElem? hq, of_decide_eq_true h⟩
  · rintro ⟨X, hX, rfl⟩
    obtain ⟨k, hk⟩ := List.getElem?_of_mem hX
    have h1 : ¬ k < p := fun h => by
      have := hp.lo k X h hk
      rw [bl_irr] at this
      cases this
    have hkl := (List.getElem?_eq_some_iff.1 hk).1
    obtain ⟨Y, hY⟩ : ∃ Y, Xs[p]? = some Y := ⟨_, List.getElem?_eq_getElem (by omega)⟩
    by_cases e : p = k
    · subst e
      unfold hitB
      rw [hk]
      simp
    · have h2 := sort_get hs (show p < k by omega) hY hk
      have h3 := hp.hi p Y (Nat.le_refl _) hY
      rw [h2] at h3
      cases h3
theorem look_hit (Xs : List FlV) (s : List UInt8) : look (Xs.map FlV.D) s = none ↔ ¬ ∃ X ∈ Xs, X.p = s := by
  rw [look_none]
  constructor
  · rintro h ⟨X, hX, e⟩
    exact h X.D (List.mem_map_of_mem hX) e
  · intro h x hx e
    obtain ⟨X, hX, rfl⟩ := List.mem_map.1 hx
    exact h ⟨X, hX, e⟩
theorem room_7 {Xs : List FlV} {s : List UInt8} (h : ∃ X ∈ Xs, X.p = s) : roomV (Xs.map FlV.D) s = 7 := by
  unfold roomV
  rcases look_at (Xs.map FlV.D) s with ⟨_, h2⟩ | ⟨i, x, h1, _⟩
  · exact absurd h ((look_hit Xs s).1 h2)
  · rw [h1, if_pos (by omega)]
theorem room_12 {Xs : List FlV} {s : List UInt8} (h : ¬ ∃ X ∈ Xs, X.p = s) {X : FlV} (hX : X ∈ Xs) (hc : covB X.p s = true ∨ covB s X.p = true) : roomV (Xs.map FlV.D) s = 12 := by
  unfold roomV
  rcases look_at (Xs.map FlV.D) s with ⟨h1, _⟩ | ⟨i, x, _, h2, h3, _⟩
  · rw [h1, if_neg (by decide), if_pos]
    refine List.any_eq_true.2 ⟨X.D, List.mem_map_of_mem hX, ?_⟩
    show (covB X.p s || covB s X.p) = true
    rcases hc with hc | hc <;> simp [hc]
  · obtain ⟨Y, hY, rfl⟩ := List.mem_map.1 (List.mem_of_getElem? h2)
    exact absurd ⟨Y, hY, h3⟩ h
theorem room_0 {Xs : List FlV} {s : List UInt8} (h : ¬ ∃ X ∈ Xs, X.p = s) (hc : ∀ X ∈ Xs, covB X.p s = false ∧ covB s X.p = false) : roomV (Xs.map FlV.D) s = 0 := by
  refine (room_iff _ _).2 ⟨(look_hit Xs s).2 h, fun x hx => ?_⟩
  obtain ⟨X, hX, rfl⟩ := List.mem_map.1 hx
  exact hc X hX
/-- What stands between a text and one that begins with it begins with it. -/
theorem bl_between : ∀ (t x u : List UInt8), Go.Op.bytesLess x t = false → Go.Op.bytesLess (t ++ u) x = false → t <+: x
  | [], x, u, _, _ => List.nil_prefix
  | b :: t, [], u, h, _ => by cases h
  | b :: t, c :: x, u, h1, h2 => by
    simp only [List.cons_append, Go.Op.bytesLess, Bool.or_eq_false_iff, Bool.and_eq_false_iff, decide_eq_false_iff_not, UInt8.lt_iff_toNat_lt] at h1 h2
    have e : c = b := UInt8.toNat_inj.1 (by omega)
    subst e
    have h3 : Go.Op.bytesLess x t = false := by
      rcases h1.2 with h | h
      · simp at h
      · exact h
    have h4 : Go.Op.bytesLess (t ++ u) x = false := by
      rcases h2.2 with h | h
      · simp at h
      · exact h
    exact (List.prefix_cons_inj c).2 (bl_between t x u h3 h4)
theorem bl_pre (t u : List UInt8) : Go.Op.bytesLess (t ++ u) t = false := by
  induction t with
  | nil => cases u <;> rfl
  | cons b t ih =>
    simp only [List.cons_append, Go.Op.bytesLess, ih]
    simp
/-- Files below a path stand together: the first behind the path and a slash tells. -/
theorem below_iff {Xs : List FlV} {s : List UInt8} {p : Nat} (hs : SortF (Xs.map FlV.D)) (hp : FindP Xs (s ++ [47]) p) : (∃ X ∈ Xs, (s ++ [47]) <+: X.p) ↔ ∃ X, Xs[p]? = some X ∧ (s ++ [47]) <+: X.p := by
  constructor
  · rintro ⟨X, hX, u, hu⟩
    obtain ⟨k, hk⟩ := List.getElem?_of_mem hX
    have hkl := (List.getElem?_eq_some_iff.1 hk).1
    have h1 : ¬ k < p := fun h => by
      have := hp.lo k X h hk
      rw [← hu, bl_pre] at this
      cases this
    obtain ⟨Y, hY⟩ : ∃ Y, Xs[p]? = some Y := ⟨_, List.getElem?_eq_getElem (by omega)⟩
    refine ⟨Y, hY, ?_⟩
    have h3 := hp.hi p Y (Nat.le_refl _) hY
    refine bl_between (s ++ [47]) Y.p u h3 ?_
    rw [hu]
    by_cases e : p = k
    · subst e
      rw [hk] at hY
      cases hY
      exact bl_irr _
    · have h4 := sort_get hs (show p < k by omega) hY hk
      cases hq : Go.Op.bytesLess X.p Y.p with
      | false => rfl
      | true =>
        have := bl_trans _ _ _ h4 hq
        rw [bl_irr] at this
        cases this
  · rintro ⟨X, hX, h⟩
    exact ⟨X, List.mem_of_getElem? hX, h⟩
/-- What the file behind a path and a slash tells. -/
def nxtT (Xs : List FlV) (s : List UInt8) (p : Nat) : Bool := match Xs[p]? with | some X => covR s X.p | none => false
theorem room_end {Xs : List FlV} {s : List UInt8} {p : Nat} (hs : SortF (Xs.map FlV.D)) (hr : ∀ X ∈ Xs, pathR X.p = true) (hp : pathR s = true) (h7 : ¬ ∃ X ∈ Xs, X.p = s) (hno : ∀ X ∈ Xs, covB X.p s = false) (hf : FindP Xs (s ++ [47]) p) : roomV (Xs.map FlV.D) s = if nxtT Xs s p then 12 else 0 := by
  have h0 := path_ne hp
  have hcov : ∀ X ∈ Xs, (covB s X.p = true ↔ (s ++ [47]) <+: X.p) := fun X hX => cov_pre h0 (fun e => h7 ⟨X, hX, e.symm⟩)
  have hcr : ∀ X ∈ Xs, covR s X.p = covB s X.p := fun X hX => by
    unfold covR preR
    rw [hp, hr X hX, Bool.or_true, Bool.true_and, Bool.true_and]
  cases hq : nxtT Xs s p with
  | true =>
    unfold nxtT at hq
    cases hx : Xs[p]? with
    | none => rw [hx] at hq; cases hq
    | some X =>
      rw [hx] at hq
      have hX := List.mem_of_getElem? hx
      simp only at hq
      rw [hcr X hX] at hq
      rw [room_12 h7 hX (.inr hq)]
      rfl
  | false =>
    rw [room_0 h7 (fun X hX => ⟨hno X hX, ?_⟩)]
    · rfl
    · cases hc : covB s X.p with
      | false => rfl
      | true =>
        obtain ⟨Y, hY, hy⟩ := (below_iff hs hf).1 ⟨X, hX, (hcov X hX).1 hc⟩
        have mY := List.mem_of_getElem? hY
        unfold nxtT at hq
        rw [hY] at hq
        simp only at hq
        rw [hcr Y mY, (hcov Y mY).2 hy] at hq
        cases hq
theorem room_above {Xs : List FlV} {s a : List UInt8} (h7 : ¬ ∃ X ∈ Xs, X.p = s) (h : AbvI Xs s a) (ha : a ≠ []) (hx : ∃ X ∈ Xs, X.p = a) : roomV (Xs.map FlV.D) s = 12 := by
  obtain ⟨X, hX, rfl⟩ := hx
  rcases h.h with e | ⟨h1, _⟩
  · exact absurd e ha
  · exact room_12 h7 hX (.inl ((cov_pre ha (fun e => h7 ⟨X, hX, e⟩)).2 h1))
end Go.Proofs.Ytodfaakodgedbaa

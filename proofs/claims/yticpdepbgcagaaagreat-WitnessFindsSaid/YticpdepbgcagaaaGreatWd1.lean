
/- witness, as data: the texts by which a signature comes to its key; where two rows of texts are unlike; what follows. -/
import Derived.Test.YticpdepbgcagaaaGreatSvA
set_option linter.unusedSimpArgs false
set_option linter.unusedVariables false
namespace Go.Proofs.YticpdepbgcagaaaGreat
open Go.RowKit Go.Qc

/-- The text of which the sum at a place is. -/
def wiT (n H L : Nat) (a : List UInt8) (l r way : List (List UInt8)) : Nat → List UInt8
  | 0 => textB leafN [(sideL (pubF a l r) n).flatten]
  | p + 1 => if H ≤ p then textB keyN [nB n 2, nB H 1, rootB a l r way n L]
    else if (L / 2 ^ p) % 2 = 1 then textB nodeN [getB way p, climbB L (recB a l r n) (way.take p)] else textB nodeN [climbB L (recB a l r n) (way.take p), getB way p]
theorem wiT_succ (n H L : Nat) (a : List UInt8) (l r way : List (List UInt8)) (p : Nat) : wiT n H L a l r way (p + 1) = if H ≤ p then textB keyN [nB n 2, nB H 1, rootB a l r way n L]
    else if (L / 2 ^ p) % 2 = 1 then textB nodeN [getB way p, climbB L (recB a l r n) (way.take p)] else textB nodeN [climbB L (recB a l r n) (way.take p), getB way p] := rfl
theorem wiT_0 (n H L : Nat) (a : List UInt8) (l r way : List (List UInt8)) : wiT n H L a l r way 0 = textB leafN [(sideL (pubF a l r) n).flatten] := rfl
def wiS (n L : Nat) (a : List UInt8) (l r way : List (List UInt8)) (p : Nat) : List UInt8 := climbB L (recB a l r n) (way.take p)
theorem wiS_length (n L : Nat) (a : List UInt8) (l r way : List (List UInt8)) (p : Nat) : (wiS n L a l r way p).length = 32 := climbB_length _ _ _ (recB_length _ _ _ _)
theorem wiT_zero (n H L : Nat) (a : List UInt8) (l r way : List (List UInt8)) : sumB (wiT n H L a l r way 0) = wiS n L a l r way 0 := rfl
theorem wiT_key (n H L : Nat) (a : List UInt8) (l r way : List (List UInt8)) : sumB (wiT n H L a l r way (H + 1)) = keyB n H (rootB a l r way n L) := by
  rw [wiT_succ, if_pos (Nat.le_refl _)]
  rfl
theorem wiT_node (n H L : Nat) (a : List UInt8) (l r way : List (List UInt8)) (hw : way.length = H) {p : Nat} (hp : p < H) : sumB (wiT n H L a l r way (p + 1)) = wiS n L a l r way (p + 1) := by
  unfold wiS
  rw [wiT_succ, if_neg (by omega), climbB_take (getB_at (by omega))]
  unfold stepB nodeB tagB
  split <;> rfl
/-- The place of the first texts that are unlike, from the highest down. -/
def unlW (T U : Nat → List UInt8) : Nat → Option Nat
  | 0 => none
  | k + 1 => if T k = U k then unlW T U k else some k
theorem unlW_some {T U : Nat → List UInt8} : ∀ {m k : Nat}, unlW T U m = some k → k < m ∧ T k ≠ U k ∧ ∀ j, k < j → j < m → T j = U j
  | 0, k, h => by cases h
  | m + 1, k, h => by
    unfold unlW at h
    split at h
    · rename_i e
      obtain ⟨h1, h2, h3⟩ := unlW_some h
      refine ⟨by omega, h2, fun j hj hm => ?_⟩
      by_cases hjm : j = m
      · rw [hjm]; exact e
      · exact h3 j hj (by omega)
    · rename_i e
      cases h
      exact ⟨by omega, e, fun j hj hm => by omega⟩
theorem unlW_none {T U : Nat → List UInt8} : ∀ {m : Nat}, unlW T U m = none → ∀ j, j < m → T j = U j
  | 0, h, j, hj => by omega
  | m + 1, h, j, hj => by
    unfold unlW at h
    split at h
    · rename_i e
      by_cases hjm : j = m
      · rw [hjm]; exact e
      · exact unlW_none h j (by omega)
    · cases h
theorem unlW_self (T : Nat → List UInt8) : ∀ m, unlW T T m = none
  | 0 => rfl
  | m + 1 => by unfold unlW; rw [if_pos rfl]; exact unlW_self T m
theorem text2_inj {nm a b c d : List UInt8} (ha : a.length = 32) (hb : b.length = 32) (hc : c.length = 32) (hd : d.length = 32) (h : textB nm [a, b] = textB nm [c, d]) : a = c ∧ b = d := by
  unfold textB at h
  have h1 := List.append_cancel_left h
  simp only [List.flatMap_cons, List.flatMap_nil, List.append_nil, partB, ha, hb, hc, hd, List.append_assoc] at h1
  have h2 := List.append_cancel_left h1
  obtain ⟨e1, h3⟩ := List.append_inj h2 (by rw [ha, hc])
  exact ⟨e1, List.append_cancel_left h3⟩
theorem text1_inj {nm a b : List UInt8} (h : a.length = b.length) (e : textB nm [a] = textB nm [b]) : a = b := by
  unfold textB at e
  have h1 := List.append_cancel_left e
  simp only [List.flatMap_cons, List.flatMap_nil, List.append_nil, partB, h] at h1
  exact List.append_cancel_left h1
theorem text3_inj {nm x y a b : List UInt8} (ha : a.length = 32) (hb : b.length = 32) (e : textB nm [x, y, a] = textB nm [x, y, b]) : a = b := by
  unfold textB at e
  have h1 := List.append_cancel_left e
  simp only [List.flatMap_cons, List.flatMap_nil, List.append_nil, partB, ha, hb, List.append_assoc] at h1
  exact List.append_cancel_left (List.append_cancel_left (List.append_cancel_left (List.append_cancel_left (List.append_cancel_left h1))))
section
variable {n H L : Nat} {a : List UInt8} {l r way l' r' way' : List (List UInt8)}
theorem wiT_key_inj (h : wiT n H L a l r way (H + 1) = wiT n H L a l' r' way' (H + 1)) (hw : way.length = H) (hw' : way'.length = H) : wiS n L a l r way H = wiS n L a l' r' way' H := by
  rw [wiT_succ, wiT_succ, if_pos (Nat.le_refl _), if_pos (Nat.le_refl _)] at h
  have := text3_inj (rootB_length _ _ _ _ _ _) (rootB_length _ _ _ _ _ _) h
  unfold wiS
  rw [List.take_of_length_le (by omega), List.take_of_length_le (by omega)]
  exact this
theorem wiT_node_inj (h32 : ∀ x ∈ way, x.length = 32) (h32' : ∀ x ∈ way', x.length = 32) {p : Nat} (hp : p < H) (h : wiT n H L a l r way (p + 1) = wiT n H L a l' r' way' (p + 1)) : wiS n L a l r way p = wiS n L a l' r' way' p := by
  rw [wiT_succ, wiT_succ, if_neg (show ¬ H ≤ p by omega), if_neg (show ¬ H ≤ p by omega)] at h
  split at h
  · exact (text2_inj (getB_length h32 p) (wiS_length n L a l r way p) (getB_length h32' p) (wiS_length n L a l' r' way' p) h).2
  · exact (text2_inj (wiS_length n L a l r way p) (getB_length h32 p) (wiS_length n L a l' r' way' p) (getB_length h32' p) h).1
/-- The first texts that are unlike have one sum. -/
theorem unlW_sum (hw : way.length = H) (hw' : way'.length = H) (h32 : ∀ x ∈ way, x.length = 32) (h32' : ∀ x ∈ way', x.length = 32) (hk : keyB n H (rootB a l r way n L) = keyB n H (rootB a l' r' way' n L))
    {k : Nat} (h : unlW (wiT n H L a l r way) (wiT n H L a l' r' way') (H + 2) = some k) : sumB (wiT n H L a l r way k) = sumB (wiT n H L a l' r' way' k) := by
  obtain ⟨h1, h2, h3⟩ := unlW_some h
  by_cases hkH : k = H + 1
  · subst hkH
    rw [wiT_key, wiT_key, hk]
  · have e := h3 (k + 1) (by omega) (by omega)
    have hS : wiS n L a l r way k = wiS n L a l' r' way' k := by
      by_cases hkh : k = H
      · subst hkh; exact wiT_key_inj e hw hw'
      · exact wiT_node_inj h32 h32' (by omega) e
    cases k with
    | zero => rw [wiT_zero, wiT_zero, hS]
    | succ p => rw [wiT_node n H L a l r way hw (by omega), wiT_node n H L a l' r' way' hw' (by omega), hS]
end
theorem sideL_inj (F G : Nat → Nat → List UInt8) (hF : ∀ b s, (F b s).length = 32) (hG : ∀ b s, (G b s).length = 32) : ∀ n, (sideL F n).flatten = (sideL G n).flatten → ∀ b, b < n → F b 0 = G b 0 ∧ F b 1 = G b 1
  | 0, _, b, hb => by omega
  | n + 1, h, b, hb => by
    rw [sideL_succ, sideL_succ, List.flatten_append, List.flatten_append] at h
    have hl : ((sideL F n).flatten).length = ((sideL G n).flatten).length := by
      rw [flatten_len _ (sideL_32 F hF n), flatten_len _ (sideL_32 G hG n), sideL_length, sideL_length]
    obtain ⟨e1, e2⟩ := List.append_inj h hl
    simp only [List.flatten_cons, List.flatten_nil, List.append_nil] at e2
    obtain ⟨e3, e4⟩ := List.append_inj e2 (by rw [hF, hG])
    by_cases hbn : b = n
    · subst hbn; exact ⟨e3, e4⟩
    · exact sideL_inj F G hF hG n e1 b (by omega)
/-- Texts that are one at the leaf: what is shown has the owner's public sums. -/
theorem wiT_leaf {n H L : Nat} {a s : List UInt8} {l r way way' : List (List UInt8)} (hl : l.length = n) (h32 : ∀ x ∈ r, x.length = 32) (hn : n ≤ 256)
    (h : wiT n H L a l r way 0 = wiT n H L a (upTo (shownX s L a) n) (upTo (hiddenX s L a) n) way' 0) {b : Nat} (hb : b < n) : pubB (getB l b) = pubB (secB s L b (bitZ a b : Nat)) := by
  rw [wiT_0, wiT_0, signed_back s L a n] at h
  have hF := pubF_length a l r h32
  have hG := fun b sd => leafF_length s (L : Int) b sd
  have h1 := text1_inj (by rw [flatten_len _ (sideL_32 _ hF n), flatten_len _ (sideL_32 _ hG n), sideL_length, sideL_length]) h
  obtain ⟨e0, e1⟩ := sideL_inj _ _ hF hG n h1 b hb
  have hz := bitZ_le a b
  have hg : l.getD b zeroB = getB l b := by unfold getB; rw [List.getD_eq_getElem?_getD]
  have e : pubF a l r b (bitZ a b) = leafF s L b (bitZ a b) := by
    rcases (show bitZ a b = 0 ∨ bitZ a b = 1 by omega) with e | e <;> rw [e]
    · exact e0
    · exact e1
  unfold pubF leafF at e
  rw [if_pos rfl, hg] at e
  exact e
end Go.Proofs.YticpdepbgcagaaaGreat

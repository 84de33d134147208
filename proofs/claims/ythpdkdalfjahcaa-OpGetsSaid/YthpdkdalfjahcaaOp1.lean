
/- op, bytes: operations as data; what is wrong with them; what is written and read: lists alone. -/
import Derived.Test.YthpdkdalfjahcaaRsA
import Derived.Test.YthpdkdalfjahcaaOp0
set_option linter.unusedSimpArgs false
set_option linter.unusedVariables false
namespace Go.Proofs.Ythpdkdalfjahcaa
open Go.RowKit Go.Qc Go.Shelf

/-- What is written of one that is right. -/
def opB (D : OpD) : List UInt8 :=
  [UInt8.ofNat D.k.toNat] ++ (textE D.p ++ ((if D.k = 3 then numE D.a.toNat else []) ++ ((if D.k = 2 ∨ D.k = 3 then textsE D.o else []) ++ ((if D.k = 3 then textsE D.n else []) ++ ((if D.k = 4 then textE D.t else []) ++ ((if D.k = 5 ∨ D.k = 6 then D.K else []) ++ (if D.k = 5 then numE D.d.toNat else [])))))))
/-- A reader that is told what is wrong. -/
def flS (c : Prop) [Decidable c] (q : Nat × Int) : Nat × Int := if c ∧ q.2 = 0 then (q.1, 3) else q
/-- An operation that is read, of a kind; where the reader is behind it. -/
def og1 (k : Int) (q : Nat × Int) : Nat × Int := flS (¬ (1 ≤ k ∧ k ≤ 6)) q
def og2 (k : Int) (s : List UInt8) (q : Nat × Int) : Nat × Int := stT 200 s (og1 k q).1 (og1 k q).2
def ogP (k : Int) (s : List UInt8) (q : Nat × Int) : List UInt8 := vaT 200 s (og1 k q).1 (og1 k q).2
def og3 (k : Int) (s : List UInt8) (q : Nat × Int) : Nat × Int := if k = 3 then stN s (og2 k s q).1 (og2 k s q).2 else og2 k s q
def ogA (k : Int) (s : List UInt8) (q : Nat × Int) : Nat := if k = 3 then vaN s (og2 k s q).1 (og2 k s q).2 else 0
def og4 (k : Int) (s : List UInt8) (q : Nat × Int) : Nat × Int := if k = 2 ∨ k = 3 then stX 1000 200 s (og3 k s q).1 (og3 k s q).2 else og3 k s q
def ogO (k : Int) (s : List UInt8) (q : Nat × Int) : List (List UInt8) := if k = 2 ∨ k = 3 then vaX 1000 200 s (og3 k s q).1 (og3 k s q).2 else []
def og5 (k : Int) (s : List UInt8) (q : Nat × Int) : Nat × Int := if k = 3 then stX 1000 200 s (og4 k s q).1 (og4 k s q).2 else og4 k s q
def ogN (k : Int) (s : List UInt8) (q : Nat × Int) : List (List UInt8) := if k = 3 then vaX 1000 200 s (og4 k s q).1 (og4 k s q).2 else []
def og6 (k : Int) (s : List UInt8) (q : Nat × Int) : Nat × Int := if k = 4 then stT 200 s (og5 k s q).1 (og5 k s q).2 else og5 k s q
def ogT (k : Int) (s : List UInt8) (q : Nat × Int) : List UInt8 := if k = 4 then vaT 200 s (og5 k s q).1 (og5 k s q).2 else []
def og7 (k : Int) (s : List UInt8) (q : Nat × Int) : Nat × Int := if k = 5 ∨ k = 6 then stD s (og6 k s q).1 (og6 k s q).2 else og6 k s q
def ogK (k : Int) (s : List UInt8) (q : Nat × Int) : List UInt8 := if k = 5 ∨ k = 6 then vaD s (og6 k s q).1 (og6 k s q).2 else zeroB
def og8 (k : Int) (s : List UInt8) (q : Nat × Int) : Nat × Int := if k = 5 then stN s (og7 k s q).1 (og7 k s q).2 else og7 k s q
def ogD (k : Int) (s : List UInt8) (q : Nat × Int) : Nat := if k = 5 then vaN s (og7 k s q).1 (og7 k s q).2 else 0
/-- What is read, before it is asked whether it is right. -/
def ogV (k : Int) (s : List UInt8) (q : Nat × Int) : OpD := ⟨k, ogP k s q, ogT k s q, ogA k s q, ogO k s q, ogN k s q, ogK k s q, ogD k s q⟩
def og9 (k : Int) (s : List UInt8) (q : Nat × Int) : Nat × Int := flS (opE (ogV k s q) ≠ 0) (og8 k s q)
def opZ : OpD := ⟨0, [], [], 0, [], [], zeroB, 0⟩
/-- An operation that is read; where the reader is, and what is wrong. -/
def opG (s : List UInt8) (a : Nat) (e : Int) : Nat × Int := og9 (ib (vaB s a e)) s (stB s a e)
def opGV (s : List UInt8) (a : Nat) (e : Int) : OpD := if (opG s a e).2 = 0 then ogV (ib (vaB s a e)) s (stB s a e) else opZ

/-! ### what was read is what is written of it -/
theorem num_fore {l : List UInt8} {v n : Nat} (h : scanN 0 0 l = .ok (v, n)) : n ≤ l.length ∧ l.take n = numE v ∧ v ≤ 4611686018427387904 := by
  obtain ⟨k, X, hn, _, hkl, hv, hX, _, hb⟩ := scanN_back _ _ _ _ _ h
  have hvX : v = X := by rw [hv]; simp
  have hnk : n = k := by rw [hn, Nat.zero_add]
  subst hvX hnk
  exact ⟨hkl, hX.symm, hb⟩
theorem cnt_fore {most : Int} {l : List UInt8} {v n : Nat} (h : cntN most l = .ok (v, n)) : scanN 0 0 l = .ok (v, n) ∧ (v : Int) ≤ most := by
  unfold cntN at h
  cases hs : scanN 0 0 l with
  | error e => rw [hs] at h; cases h
  | ok q =>
    obtain ⟨v', n'⟩ := q
    rw [hs] at h
    simp only at h
    split at h
    · cases h
    · injection h with h; injection h with h1 h2; subst h1 h2; exact ⟨rfl, by omega⟩
theorem text_fore {most : Int} {l t : List UInt8} {n : Nat} (h : textR most l = .ok (t, n)) : n ≤ l.length ∧ l.take n = textE t ∧ (t.length : Int) ≤ most := by
  unfold textR at h
  cases hc : cntN most l with
  | error e => rw [hc] at h; cases h
  | ok q =>
    obtain ⟨v, k⟩ := q
    rw [hc] at h
    simp only at h
    split at h
    · rename_i hle
      injection h with h
      injection h with h1 h2
      obtain ⟨hs, hm⟩ := cnt_fore hc
      obtain ⟨hk, hE, _⟩ := num_fore hs
      have hl : t.length = v := by rw [← h1, List.length_take, List.length_drop]; omega
      subst h2
      refine ⟨hle, ?_, by rw [hl]; exact hm⟩
      unfold textE
      rw [hl, List.take_add, hE, h1]
    · cases h
theorem row_fore {α : Type} {item : List UInt8 → Except Int (α × Nat)} {enc : α → List UInt8} {P : α → Prop} (hi : ∀ l x n, item l = .ok (x, n) → n ≤ l.length ∧ l.take n = enc x ∧ P x) : ∀ (c : Nat) (l : List UInt8) (xs : List α) (m : Nat), rowR item c l = .ok (xs, m) → m ≤ l.length ∧ l.take m = xs.flatMap enc ∧ xs.length = c ∧ ∀ x ∈ xs, P x
  | 0, l, xs, m, h => by
    rw [rowR] at h; injection h with h; injection h with h1 h2; subst h1 h2
    exact ⟨Nat.zero_le _, by simp, rfl, by simp⟩
  | c + 1, l, xs, m, h => by
    rw [rowR] at h
    split at h
    · cases h
    · rename_i x k hx
      split at h
      · cases h
      · rename_i ys m2 h2
        injection h with h; injection h with h3 h4; subst h3 h4
        obtain ⟨a1, a2, a3⟩ := hi _ _ _ hx
        obtain ⟨b1, b2, b3, b4⟩ := row_fore hi c _ _ _ h2
        rw [List.length_drop] at b1
        refine ⟨by omega, ?_, by rw [List.length_cons, b3], ?_⟩
        · rw [List.take_add, a2, b2, List.flatMap_cons]
        · intro y hy
          rcases List.mem_cons.1 hy with rfl | hy
          · exact a3
          · exact b4 y hy
theorem rows_fore {α : Type} {item : List UInt8 → Except Int (α × Nat)} {enc : α → List UInt8} {P : α → Prop} (hi : ∀ l x n, item l = .ok (x, n) → n ≤ l.length ∧ l.take n = enc x ∧ P x) {most : Int} {l : List UInt8} {xs : List α} {m : Nat} (h : rowsR item most l = .ok (xs, m)) : m ≤ l.length ∧ l.take m = numE xs.length ++ xs.flatMap enc ∧ (xs.length : Int) ≤ most ∧ ∀ x ∈ xs, P x := by
  unfold rowsR at h
  cases hc : cntN most l with
  | error e => rw [hc] at h; cases h
  | ok q =>
    obtain ⟨v, k⟩ := q
    rw [hc] at h
    simp only at h
    split at h
    · cases h
    · rename_i ys m2 h2
      injection h with h; injection h with h3 h4; subst h3 h4
      obtain ⟨hs, hm⟩ := cnt_fore hc
      obtain ⟨hk, hE, _⟩ := num_fore hs
      obtain ⟨b1, b2, b3, b4⟩ := row_fore hi _ _ _ _ h2
      rw [List.length_drop] at b1
      exact ⟨by omega, by rw [List.take_add, hE, b2, b3], by rw [b3]; exact hm, b4⟩
theorem texts_fore {most long : Int} {l : List UInt8} {L : List (List UInt8)} {n : Nat} (h : rowsR (textR long) most l = .ok (L, n)) : n ≤ l.length ∧ l.take n = textsE L ∧ (L.length : Int) ≤ most ∧ ∀ x ∈ L, (x.length : Int) ≤ long :=
  rows_fore (enc := textE) (P := fun x => (x.length : Int) ≤ long) (fun _ _ _ h => text_fore h) h
theorem scan_err {l : List UInt8} {e : Int} (h : scanN 0 0 l = .error e) : e ≠ 0 := scanN_err _ _ _ _ h
theorem rows_err {item : List UInt8 → Except Int (List UInt8 × Nat)} (hi : ∀ l e, item l = .error e → e ≠ 0) : ∀ (c : Nat) (l : List UInt8) (e : Int), rowR item c l = .error e → e ≠ 0
  | 0, l, e, h => by rw [rowR] at h; cases h
  | c + 1, l, e, h => by
    rw [rowR] at h
    split at h
    · rename_i e2 h2
      injection h with h; subst h
      exact hi _ _ h2
    · split at h
      · rename_i e2 h2
        injection h with h; subst h
        exact rows_err hi c _ _ h2
      · cases h
theorem rowsR_err {item : List UInt8 → Except Int (List UInt8 × Nat)} (hi : ∀ l e, item l = .error e → e ≠ 0) {most : Int} {l : List UInt8} {e : Int} (h : rowsR item most l = .error e) : e ≠ 0 := by
  unfold rowsR at h
  cases hc : cntN most l with
  | error e2 => rw [hc] at h; injection h with h; subst h; exact cntN_err _ _ _ hc
  | ok q =>
    obtain ⟨v, k⟩ := q
    rw [hc] at h
    simp only at h
    split at h
    · rename_i e2 h2
      injection h with h; subst h
      exact rows_err hi _ _ _ h2
    · cases h
/-- Where a reader is, what was read, and that this is what is written of it. -/
def Fore (s : List UInt8) (a : Nat) (e : Int) (q : Nat × Int) (T : List UInt8) : Prop := e = 0 ∧ a ≤ q.1 ∧ q.1 ≤ s.length ∧ s.take q.1 = s.take a ++ T
theorem fore_mk {s : List UInt8} {a n : Nat} {T : List UInt8} (ha : a ≤ s.length) (hn : n ≤ (s.drop a).length) (hT : (s.drop a).take n = T) : Fore s a 0 (a + n, 0) T := by
  rw [List.length_drop] at hn
  exact ⟨rfl, Nat.le_add_right _ _, by simp only; omega, by simp only; rw [List.take_add, hT]⟩
theorem stN_fore {s : List UInt8} {a : Nat} {e : Int} (ha : a ≤ s.length) (h : (stN s a e).2 = 0) : Fore s a e (stN s a e) (numE (vaN s a e)) ∧ vaN s a e ≤ 4611686018427387904 := by
  unfold stN vaN at *
  by_cases he : e = 0
  · rw [if_pos he] at h ⊢
    rw [if_pos he]
    cases hs : scanN 0 0 (s.drop a) with
    | error e2 => rw [hs] at h; exact absurd h (scan_err hs)
    | ok q =>
      obtain ⟨hn, hT, hb⟩ := num_fore hs
      subst he
      exact ⟨fore_mk ha hn hT, hb⟩
  · rw [if_neg he] at h; exact absurd h he
theorem stT_fore {most : Int} {s : List UInt8} {a : Nat} {e : Int} (ha : a ≤ s.length) (h : (stT most s a e).2 = 0) : Fore s a e (stT most s a e) (textE (vaT most s a e)) := by
  unfold stT vaT at *
  by_cases he : e = 0
  · rw [if_pos he] at h ⊢
    rw [if_pos he]
    cases hs : textR most (s.drop a) with
    | error e2 => rw [hs] at h; exact absurd h (textR_err hs)
    | ok q =>
      obtain ⟨hn, hT, _⟩ := text_fore hs
      subst he
      exact fore_mk ha hn hT
  · rw [if_neg he] at h; exact absurd h he
theorem stX_fore {most long : Int} {s : List UInt8} {a : Nat} {e : Int} (ha : a ≤ s.length) (h : (stX most long s a e).2 = 0) : Fore s a e (stX most long s a e) (textsE (vaX most long s a e)) := by
  unfold stX vaX at *
  by_cases he : e = 0
  · rw [if_pos he] at h ⊢
    rw [if_pos he]
    cases hs : rowsR (textR long) most (s.drop a) with
    | error e2 => rw [hs] at h; exact absurd h (rowsR_err (fun _ _ h => textR_err h) hs)
    | ok q =>
      obtain ⟨hn, hT, _⟩ := texts_fore hs
      subst he
      exact fore_mk ha hn hT
  · rw [if_neg he] at h; exact absurd h he
theorem stD_fore {s : List UInt8} {a : Nat} {e : Int} (ha : a ≤ s.length) (h : (stD s a e).2 = 0) : Fore s a e (stD s a e) (vaD s a e) := by
  unfold stD vaD at *
  by_cases he : e = 0
  · rw [if_pos he] at h ⊢
    rw [if_pos he]
    unfold idR at h ⊢
    split
    · rename_i v n hs
      split at hs
      · injection hs with hs; injection hs with h1 h2; subst h1 h2 he
        have : 32 ≤ (s.drop a).length := by assumption
        exact fore_mk ha this rfl
      · cases hs
    · rename_i e2 hs
      split at hs
      · cases hs
      · injection hs with hs; subst hs
        have : ¬ 32 ≤ (s.drop a).length := by assumption
        rw [if_neg this] at h
        cases h
  · rw [if_neg he] at h; exact absurd h he
theorem vaD_len (s : List UInt8) (a : Nat) (e : Int) : (vaD s a e).length = 32 := by
  unfold vaD idR
  split
  · split
    · rename_i v n hs
      split at hs
      · injection hs with hs; injection hs with h1 h2; subst h1
        rw [List.length_take]; omega
      · cases hs
    · rfl
  · rfl
theorem stB_fore {s : List UInt8} {a : Nat} {e : Int} (ha : a ≤ s.length) (h : (stB s a e).2 = 0) : Fore s a e (stB s a e) [vaB s a e] := by
  unfold stB vaB at *
  by_cases he : e = 0
  · rw [if_pos he] at h ⊢
    rw [if_pos he]
    cases hd : s.drop a with
    | nil => rw [hd] at h; cases h
    | cons x r =>
      subst he
      have hx : (s.drop a).take 1 = [x] := by rw [hd]; rfl
      refine fore_mk ha (by rw [hd]; simp) hx
  · rw [if_neg he] at h; exact absurd h he
theorem Fore.trans {s : List UInt8} {a : Nat} {e : Int} {q r : Nat × Int} {T U : List UInt8} (h : Fore s a e q T) (k : Fore s q.1 q.2 r U) : Fore s a e r (T ++ U) :=
  ⟨h.1, Nat.le_trans h.2.1 k.2.1, k.2.2.1, by rw [k.2.2.2, h.2.2.2, List.append_assoc]⟩
theorem Fore.refl {s : List UInt8} {q : Nat × Int} (ha : q.1 ≤ s.length) (h : q.2 = 0) : Fore s q.1 q.2 q [] := ⟨h, Nat.le_refl _, ha, by rw [List.append_nil]⟩
/-! ### each reading stays within the bytes -/
theorem stX_le (most long : Int) (s : List UInt8) (a : Nat) (e : Int) (ha : a ≤ s.length) : (stX most long s a e).1 ≤ s.length := by
  unfold stX
  split
  · cases h : rowsR (textR long) most (s.drop a) with
    | ok p => obtain ⟨hn, _⟩ := texts_fore h; rw [List.length_drop] at hn; simp only; omega
    | error e => exact ha
  · exact ha
theorem stD_le (s : List UInt8) (a : Nat) (e : Int) (ha : a ≤ s.length) : (stD s a e).1 ≤ s.length := by
  unfold stD idR
  split
  · split
    · rename_i v n hs
      split at hs
      · injection hs with hs; injection hs with h1 h2; subst h2
        have : 32 ≤ (s.drop a).length := by assumption
        rw [List.length_drop] at this; simp only; omega
      · cases hs
    · exact ha
  · exact ha
theorem stB_le (s : List UInt8) (a : Nat) (e : Int) (ha : a ≤ s.length) : (stB s a e).1 ≤ s.length := by
  unfold stB
  split
  · cases hd : s.drop a with
    | nil => exact ha
    | cons x r =>
      have : (s.drop a).length = r.length + 1 := by rw [hd]; rfl
      rw [List.length_drop] at this; simp only [byteR]; omega
  · exact ha
theorem flS_le {c : Prop} [Decidable c] {s : List UInt8} {q : Nat × Int} (h : q.1 ≤ s.length) : (flS c q).1 ≤ s.length := by unfold flS; split <;> exact h
theorem flS_ok {c : Prop} [Decidable c] {q : Nat × Int} (h : (flS c q).2 = 0) : ¬ c ∧ q.2 = 0 ∧ flS c q = q := by
  unfold flS at h ⊢
  split at h
  · cases h
  · rename_i hn
    by_cases hc : c
    · exact absurd ⟨hc, h⟩ hn
    · exact ⟨hc, h, if_neg hn⟩
/-! ### operations: what was read is what is written of it -/
theorem fore_if {c : Prop} [Decidable c] {s : List UInt8} {q r : Nat × Int} {T : List UInt8} (ha : q.1 ≤ s.length) (h : (if c then r else q).2 = 0) (hf : c → r.2 = 0 → Fore s q.1 q.2 r T) : Fore s q.1 q.2 (if c then r else q) (if c then T else []) := by
  by_cases hc : c
  · rw [if_pos hc] at h; rw [if_pos hc, if_pos hc]; exact hf hc h
  · rw [if_neg hc] at h; rw [if_neg hc, if_neg hc]; exact Fore.refl ha h
theorem if_le {c : Prop} [Decidable c] {s : List UInt8} {q r : Nat × Int} (h : q.1 ≤ s.length) (k : r.1 ≤ s.length) : (if c then r else q).1 ≤ s.length := by split <;> assumption
theorem og1_le {k : Int} {s : List UInt8} {q : Nat × Int} (h : q.1 ≤ s.length) : (og1 k q).1 ≤ s.length := flS_le h
theorem og2_le {k : Int} {s : List UInt8} {q : Nat × Int} (h : q.1 ≤ s.length) : (og2 k s q).1 ≤ s.length := stT_le _ _ _ _ (og1_le h)
theorem og3_le {k : Int} {s : List UInt8} {q : Nat × Int} (h : q.1 ≤ s.length) : (og3 k s q).1 ≤ s.length := if_le (og2_le h) (stN_le _ _ _ (og2_le h))
theorem og4_le {k : Int} {s : List UInt8} {q : Nat × Int} (h : q.1 ≤ s.length) : (og4 k s q).1 ≤ s.length := if_le (og3_le h) (stX_le _ _ _ _ _ (og3_le h))
theorem og5_le {k : Int} {s : List UInt8} {q : Nat × Int} (h : q.1 ≤ s.length) : (og5 k s q).1 ≤ s.length := if_le (og4_le h) (stX_le _ _ _ _ _ (og4_le h))
theorem og6_le {k : Int} {s : List UInt8} {q : Nat × Int} (h : q.1 ≤ s.length) : (og6 k s q).1 ≤ s.length := if_le (og5_le h) (stT_le _ _ _ _ (og5_le h))
theorem og7_le {k : Int} {s : List UInt8} {q : Nat × Int} (h : q.1 ≤ s.length) : (og7 k s q).1 ≤ s.length := if_le (og6_le h) (stD_le _ _ _ (og6_le h))
theorem og8_le {k : Int} {s : List UInt8} {q : Nat × Int} (h : q.1 ≤ s.length) : (og8 k s q).1 ≤ s.length := if_le (og7_le h) (stN_le _ _ _ (og7_le h))
theorem og9_le {k : Int} {s : List UInt8} {q : Nat × Int} (h : q.1 ≤ s.length) : (og9 k s q).1 ≤ s.length := flS_le (og8_le h)
theorem opG_le (s : List UInt8) (a : Nat) (e : Int) (ha : a ≤ s.length) : (opG s a e).1 ≤ s.length := og9_le (stB_le s a e ha)
theorem ib_of_byte (x : UInt8) : UInt8.ofNat (ib x).toNat = x := by unfold ib; rw [Int.toNat_natCast]; exact UInt8.ofNat_toNat
theorem opG_fore {s : List UInt8} {a : Nat} {e : Int} (ha : a ≤ s.length) (h : (opG s a e).2 = 0) : Fore s a e (opG s a e) (opB (opGV s a e)) ∧ opE (opGV s a e) = 0 := by
  unfold opGV
  rw [if_pos h]
  unfold opG at h ⊢
  obtain ⟨hE, h8, e9⟩ := flS_ok h
  have hE0 : opE (ogV (ib (vaB s a e)) s (stB s a e)) = 0 := Decidable.not_not.1 hE
  refine ⟨?_, hE0⟩
  rw [show og9 (ib (vaB s a e)) s (stB s a e) = og8 (ib (vaB s a e)) s (stB s a e) from e9]
  have hb := stB_le s a e ha
  obtain ⟨x, hx⟩ : ∃ x, x = vaB s a e := ⟨_, rfl⟩
  have hkx : UInt8.ofNat (ib (vaB s a e)).toNat = vaB s a e := ib_of_byte _
  have f8 := fore_if (T := numE (vaN s (og7 (ib (vaB s a e)) s (stB s a e)).1 (og7 (ib (vaB s a e)) s (stB s a e)).2)) (og7_le hb) h8 (fun _ h => (stN_fore (og7_le hb) h).1)
  have h7 := f8.1
  have f7 := fore_if (T := vaD s (og6 (ib (vaB s a e)) s (stB s a e)).1 (og6 (ib (vaB s a e)) s (stB s a e)).2) (og6_le hb) h7 (fun _ h => stD_fore (og6_le hb) h)
  have h6 := f7.1
  have f6 := fore_if (T := textE (vaT 200 s (og5 (ib (vaB s a e)) s (stB s a e)).1 (og5 (ib (vaB s a e)) s (stB s a e)).2)) (og5_le hb) h6 (fun _ h => stT_fore (og5_le hb) h)
  have h5 := f6.1
  have f5 := fore_if (T := textsE (vaX 1000 200 s (og4 (ib (vaB s a e)) s (stB s a e)).1 (og4 (ib (vaB s a e)) s (stB s a e)).2)) (og4_le hb) h5 (fun _ h => stX_fore (og4_le hb) h)
  have h4 := f5.1
  have f4 := fore_if (T := textsE (vaX 1000 200 s (og3 (ib (vaB s a e)) s (stB s a e)).1 (og3 (ib (vaB s a e)) s (stB s a e)).2)) (og3_le hb) h4 (fun _ h => stX_fore (og3_le hb) h)
  have h3 := f4.1
  have f3 := fore_if (T := numE (vaN s (og2 (ib (vaB s a e)) s (stB s a e)).1 (og2 (ib (vaB s a e)) s (stB s a e)).2)) (og2_le hb) h3 (fun _ h => (stN_fore (og2_le hb) h).1)
  have h2 := f3.1
  have f2 : Fore s (og1 (ib (vaB s a e)) (stB s a e)).1 (og1 (ib (vaB s a e)) (stB s a e)).2 (og2 (ib (vaB s a e)) s (stB s a e)) (textE (ogP (ib (vaB s a e)) s (stB s a e))) := stT_fore (og1_le hb) h2
  have h1 := f2.1
  obtain ⟨_, hB, e1⟩ := flS_ok h1
  have f1 := stB_fore ha hB
  rw [show og1 (ib (vaB s a e)) (stB s a e) = stB s a e from e1] at f2
  have := (((((((f1.trans f2).trans f3).trans f4).trans f5).trans f6).trans f7).trans f8)
  have hkey : ∀ T U : List UInt8, Fore s a e (og8 (ib (vaB s a e)) s (stB s a e)) T → U = T → Fore s a e (og8 (ib (vaB s a e)) s (stB s a e)) U := fun T U h e => e ▸ h
  refine hkey _ _ this ?_
  · unfold opB ogV
    simp only [Int.toNat_natCast, List.append_assoc]
    rw [hkx]
    congr 2
    generalize ib (vaB s a e) = k
    have c3 : (if k = 3 then numE (ogA k s (stB s a e)) else []) = if k = 3 then numE (vaN s (og2 k s (stB s a e)).1 (og2 k s (stB s a e)).2) else [] := by
      unfold ogA; split <;> rfl
    have c4 : (if k = 2 ∨ k = 3 then textsE (ogO k s (stB s a e)) else []) = if k = 2 ∨ k = 3 then textsE (vaX 1000 200 s (og3 k s (stB s a e)).1 (og3 k s (stB s a e)).2) else [] := by
      unfold ogO; split <;> rfl
    have c5 : (if k = 3 then textsE (ogN k s (stB s a e)) else []) = if k = 3 then textsE (vaX 1000 200 s (og4 k s (stB s a e)).1 (og4 k s (stB s a e)).2) else [] := by
      unfold ogN; split <;> rfl
    have c6 : (if k = 4 then textE (ogT k s (stB s a e)) else []) = if k = 4 then textE (vaT 200 s (og5 k s (stB s a e)).1 (og5 k s (stB s a e)).2) else [] := by
      unfold ogT; split <;> rfl
    have c7 : (if k = 5 ∨ k = 6 then ogK k s (stB s a e) else []) = if k = 5 ∨ k = 6 then vaD s (og6 k s (stB s a e)).1 (og6 k s (stB s a e)).2 else [] := by
      unfold ogK; split <;> rfl
    have c8 : (if k = 5 then numE (ogD k s (stB s a e)) else []) = if k = 5 then numE (vaN s (og7 k s (stB s a e)).1 (og7 k s (stB s a e)).2) else [] := by
      unfold ogD; split <;> rfl
    rw [c3, c4, c5, c6, c7, c8]
/-! ### operations: what was written is read back -/
theorem drop_on {s T rest : List UInt8} {a : Nat} (h : s.drop a = T ++ rest) : s.drop (a + T.length) = rest := by rw [← List.drop_drop, h, List.drop_left]
theorem stN_at {s rest : List UInt8} {a x : Nat} (hx : x ≤ 4611686018427387904) (h : s.drop a = numE x ++ rest) : stN s a 0 = (a + (numE x).length, 0) ∧ vaN s a 0 = x := by
  unfold stN vaN; rw [if_pos rfl, if_pos rfl, h, scanN_back0 x hx rest]; exact ⟨rfl, rfl⟩
theorem stT_at {most : Int} {s rest t : List UInt8} {a : Nat} (ht : t.length ≤ 4611686018427387904) (hm : (t.length : Int) ≤ most) (h : s.drop a = textE t ++ rest) : stT most s a 0 = (a + (textE t).length, 0) ∧ vaT most s a 0 = t := by
  unfold stT vaT; rw [if_pos rfl, if_pos rfl, h, textR_back most t ht hm rest]; exact ⟨rfl, rfl⟩
theorem stX_at {most long : Int} {s rest : List UInt8} {m : List (List UInt8)} {a : Nat} (hl : m.length ≤ 4611686018427387904) (hm : (m.length : Int) ≤ most) (hx : ∀ x ∈ m, x.length ≤ 4611686018427387904 ∧ (x.length : Int) ≤ long) (h : s.drop a = textsE m ++ rest) : stX most long s a 0 = (a + (textsE m).length, 0) ∧ vaX most long s a 0 = m := by
  unfold stX vaX; rw [if_pos rfl, if_pos rfl, h, textsR_back most long m hl hm hx rest]; exact ⟨rfl, rfl⟩
theorem stD_at {s rest b : List UInt8} {a : Nat} (hb : b.length = 32) (h : s.drop a = b ++ rest) : stD s a 0 = (a + b.length, 0) ∧ vaD s a 0 = b := by
  unfold stD vaD; rw [if_pos rfl, if_pos rfl, h, idR_back b hb rest, hb]; exact ⟨rfl, rfl⟩
theorem stB_at {s rest : List UInt8} {a : Nat} {x : UInt8} (h : s.drop a = [x] ++ rest) : stB s a 0 = (a + 1, 0) ∧ vaB s a 0 = x := by
  unfold stB vaB; rw [if_pos rfl, if_pos rfl, h]; exact ⟨rfl, rfl⟩
theorem if_back {α : Type} {c : Prop} [Decidable c] {s T rest : List UInt8} {a : Nat} {r : Nat × Int} {v z x : α} (h : s.drop a = (if c then T else []) ++ rest) (hr : c → s.drop a = T ++ rest → r = (a + T.length, 0) ∧ v = x) (hz : ¬ c → x = z) : (if c then r else (a, 0)) = (a + (if c then T else []).length, 0) ∧ (if c then v else z) = x := by
  by_cases hc : c
  · rw [if_pos hc] at h
    rw [if_pos hc, if_pos hc, if_pos hc]
    exact hr hc h
  · rw [if_neg hc, if_neg hc, if_neg hc]
    exact ⟨rfl, (hz hc).symm⟩
theorem opG_back (D : OpD) (hK : D.K.length = 32) (hE : opE D = 0) {s rest : List UInt8} {a : Nat} (h : s.drop a = opB D ++ rest) : opG s a 0 = (a + (opB D).length, 0) ∧ opGV s a 0 = D := by
  have ok := opOk hE
  obtain ⟨k, p, t, A, o, n, K, d⟩ := D
  have okk := ok.lo
  have okh := ok.hi
  simp only at okk okh hK
  unfold opB at h
  simp only [List.append_assoc] at h
  obtain ⟨b1, b2⟩ := stB_at h
  have hk : ib (UInt8.ofNat k.toNat) = k := by
    unfold ib
    rw [UInt8.toNat_ofNat']
    omega
  have h : s.drop (a + 1) = _ := drop_on h
  have hlen : (opB ⟨k, p, t, A, o, n, K, d⟩).length = _ := congrArg List.length (rfl : opB ⟨k, p, t, A, o, n, K, d⟩ = _)
  have e1 : og1 k (a + 1, 0) = (a + 1, 0) := by unfold og1 flS; rw [if_neg (by rintro ⟨h, _⟩; exact h ⟨okk, okh⟩)]
  obtain ⟨c1, c2⟩ := stT_at (most := 200) (by have := ok.p; simp only at this; omega) (by have := ok.p; simp only at this; omega) h
  have e2 : og2 k s (a + 1, 0) = (a + 1 + (textE p).length, 0) := by unfold og2; rw [e1]; exact c1
  have v2 : ogP k s (a + 1, 0) = p := by unfold ogP; rw [e1]; exact c2
  have h := drop_on h
  obtain ⟨e3, v3⟩ := if_back (v := (vaN s (a + 1 + (textE p).length) 0 : Int)) (z := 0) (x := A) (r := stN s (a + 1 + (textE p).length) 0) h (fun hc h => by
    obtain ⟨x1, x2⟩ := stN_at (x := A.toNat) (by have := ok.a; simp only at this; omega) h
    exact ⟨x1, by rw [x2]; have := ok.a.1; simp only at this; omega⟩) (fun hc => ok.a0 hc)
  have h := drop_on h
  generalize ha3 : a + 1 + (textE p).length + (if k = 3 then numE A.toNat else []).length = a3 at *
  have E3 : og3 k s (a + 1, 0) = (a3, 0) := by unfold og3; rw [e2]; exact e3
  have V3 : (ogA k s (a + 1, 0) : Int) = A := by
    unfold ogA; rw [e2, ← v3]; split <;> rfl
  obtain ⟨e4, v4⟩ := if_back (v := vaX 1000 200 s a3 0) (z := []) (x := o) (r := stX 1000 200 s a3 0) h (fun hc h => stX_at (by have := ok.o.1; simp only at this; omega) (by have := ok.o.1; simp only at this; omega) (fun x hx => by have := ok.o.2 x hx; omega) h) (fun hc => ok.o0 hc)
  have h := drop_on h
  generalize ha4 : a3 + (if k = 2 ∨ k = 3 then textsE o else []).length = a4 at *
  have E4 : og4 k s (a + 1, 0) = (a4, 0) := by unfold og4; rw [E3]; exact e4
  have V4 : ogO k s (a + 1, 0) = o := by unfold ogO; rw [E3]; exact v4
  obtain ⟨e5, v5⟩ := if_back (v := vaX 1000 200 s a4 0) (z := []) (x := n) (r := stX 1000 200 s a4 0) h (fun hc h => stX_at (by have := ok.n.1; simp only at this; omega) (by have := ok.n.1; simp only at this; omega) (fun x hx => by have := ok.n.2 x hx; omega) h) (fun hc => ok.n0 hc)
  have h := drop_on h
  generalize ha5 : a4 + (if k = 3 then textsE n else []).length = a5 at *
  have E5 : og5 k s (a + 1, 0) = (a5, 0) := by unfold og5; rw [E4]; exact e5
  have V5 : ogN k s (a + 1, 0) = n := by unfold ogN; rw [E4]; exact v5
  obtain ⟨e6, v6⟩ := if_back (v := vaT 200 s a5 0) (z := []) (x := t) (r := stT 200 s a5 0) h (fun hc h => stT_at (by have := ok.t; simp only at this; omega) (by have := ok.t; simp only at this; omega) h) (fun hc => ok.t0 hc)
  have h := drop_on h
  generalize ha6 : a5 + (if k = 4 then textE t else []).length = a6 at *
  have E6 : og6 k s (a + 1, 0) = (a6, 0) := by unfold og6; rw [E5]; exact e6
  have V6 : ogT k s (a + 1, 0) = t := by unfold ogT; rw [E5]; exact v6
  obtain ⟨e7, v7⟩ := if_back (v := vaD s a6 0) (z := zeroB) (x := K) (r := stD s a6 0) h (fun hc h => stD_at hK h) (fun hc => ok.K0 hc)
  have h := drop_on h
  generalize ha7 : a6 + (if k = 5 ∨ k = 6 then K else []).length = a7 at *
  have E7 : og7 k s (a + 1, 0) = (a7, 0) := by unfold og7; rw [E6]; exact e7
  have V7 : ogK k s (a + 1, 0) = K := by unfold ogK; rw [E6]; exact v7
  obtain ⟨e8, v8⟩ := if_back (v := (vaN s a7 0 : Int)) (z := 0) (x := d) (r := stN s a7 0) h (fun hc h => by
    obtain ⟨x1, x2⟩ := stN_at (x := d.toNat) (by have := ok.d; simp only at this; omega) h
    exact ⟨x1, by rw [x2]; have := ok.d.1; simp only at this; omega⟩) (fun hc => ok.d0 hc)
  generalize ha8 : a7 + (if k = 5 then numE d.toNat else []).length = a8 at *
  have E8 : og8 k s (a + 1, 0) = (a8, 0) := by unfold og8; rw [E7]; exact e8
  have V8 : (ogD k s (a + 1, 0) : Int) = d := by
    unfold ogD; rw [E7, ← v8]; split <;> rfl
  have EV : ogV k s (a + 1, 0) = ⟨k, p, t, A, o, n, K, d⟩ := by unfold ogV; rw [v2, V3, V4, V5, V6, V7, V8]
  have E9 : og9 k s (a + 1, 0) = (a8, 0) := by unfold og9 flS; rw [E8, EV, hE, if_neg (by simp)]
  have EG : opG s a 0 = (a8, 0) := by unfold opG; rw [b1, b2, hk]; exact E9
  refine ⟨?_, ?_⟩
  · rw [EG]
    unfold opB
    simp only [List.length_append, List.length_singleton]
    congr 1
    omega
  · unfold opGV
    rw [EG, if_pos rfl, b1, b2, hk]
    exact EV
theorem opB_len (D : OpD) (hK : D.K.length = 32) (hE : opE D = 0) : (opB D).length ≤ 3000000 := by
  have ok := opOk hE
  have hp := numE_len9 D.p.length (by have := ok.p; omega)
  have ht := numE_len9 D.t.length (by have := ok.t; omega)
  have hA := numE_len9 D.a.toNat (by have := ok.a; omega)
  have hd := numE_len9 D.d.toNat (by have := ok.d; omega)
  have ho := flatE_len2 D.o (fun x hx => by have := ok.o.2 x hx; omega)
  have hn := flatE_len2 D.n (fun x hx => by have := ok.n.2 x hx; omega)
  have ho1 := numE_len9 D.o.length (by have := ok.o.1; omega)
  have hn1 := numE_len9 D.n.length (by have := ok.n.1; omega)
  have q1 := ok.p
  have q2 := ok.t
  have q3 := ok.o.1
  have q4 := ok.n.1
  have c1 : ∀ (c : Prop) [Decidable c] (T : List UInt8) (m : Nat), T.length ≤ m → (if c then T else []).length ≤ m := fun c _ T m h => by split <;> first | exact h | exact Nat.zero_le _
  have r1 := c1 (D.k = 3) (numE D.a.toNat) 9 hA
  have r2 := c1 (D.k = 2 ∨ D.k = 3) (textsE D.o) 1010000 (by unfold textsE; rw [List.length_append]; omega)
  have r3 := c1 (D.k = 3) (textsE D.n) 1010000 (by unfold textsE; rw [List.length_append]; omega)
  have r4 := c1 (D.k = 4) (textE D.t) 300 (by unfold textE; rw [List.length_append]; omega)
  have r5 := c1 (D.k = 5 ∨ D.k = 6) D.K 32 (by omega)
  have r6 := c1 (D.k = 5) (numE D.d.toNat) 9 hd
  unfold opB textE
  unfold textE at r4
  simp only [List.length_append, List.length_singleton] at *
  omega
end Go.Proofs.Ythpdkdalfjahcaa

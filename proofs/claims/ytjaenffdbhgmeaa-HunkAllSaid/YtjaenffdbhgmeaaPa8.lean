
/- path: what the document says of covering and joining; a path without its last part, and that part. -/
import Derived.Test.YtjaenffdbhgmeaaPa7
import Derived.Lib.Join
namespace Go.Proofs.Ytjaenffdbhgmeaa
open Go.RowKit Go.Qc Go.Shelf
attribute [local go_sem] txt_size txt_append ib_fold txt_toL

theorem covB_far (p s : List UInt8) (h0 : p ≠ []) (h1 : p ≠ s) : covB p s = (p ++ [47]).isPrefixOf s := by
  unfold covB
  have : p.isEmpty = false := by cases p <;> first | rfl | exact absurd rfl h0
  rw [this, beq_eq_false_iff_ne.2 h1]; rfl
theorem pre_at (p s : List UInt8) (b : UInt8) : (p ++ [b]).isPrefixOf s = decide (p.length < s.length ∧ s.take p.length = p ∧ s[p.length]? = some b) := by
  rw [Bool.eq_iff_iff, List.isPrefixOf_iff_prefix, decide_eq_true_eq]
  constructor
  · rintro ⟨r, rfl⟩
    refine ⟨by simp, by simp, by simp⟩
  · rintro ⟨h, h2, h3⟩
    refine ⟨s.drop (p.length + 1), ?_⟩
    obtain ⟨hk, h4⟩ := List.getElem?_eq_some_iff.1 h3
    conv => rhs; rw [← List.take_append_drop p.length s, h2, List.drop_eq_getElem_cons hk, h4]
    simp
/-- Beside one another. -/
def besR (a b : List UInt8) : Bool := pathR a && (pathR b && (!covR a b && !covR b a))
/-- A contract, from a world on. -/
theorem from_base {P : Program} {f : FuncId} {args : Array Value} {v : Value} {w : World} (h : ∀ W, Calls P f args W fun e w' => e = .returned v ∧ Below W.heap.size W w') : ∀ W, Below w.heap.size w W → Calls P f args W fun e w' => e = .returned v ∧ Below w.heap.size w w' :=
  fun W hB => (h W).mono (by rintro e w' ⟨h1, h2⟩; exact ⟨h1, hB.trans (h2.mono hB.size)⟩)
/-! ### joined with slashes -/
def joinS (xs : List (List UInt8)) : List UInt8 := Lib.join xs [47]
theorem joinS_snoc (xs : List (List UInt8)) (x : List UInt8) (h : xs ≠ []) : joinS (xs ++ [x]) = joinS xs ++ [47] ++ x := by
  unfold joinS
  cases xs with
  | nil => exact absurd rfl h
  | cons y ys =>
    rw [List.cons_append, Lib.join_cons, Lib.join_cons]
    unfold Lib.joinTail
    simp
theorem joinS_nil : joinS [] = [] := rfl
theorem joinS_one (x : List UInt8) : joinS [x] = x := Lib.join_one x [47]
theorem splitS_mid : ∀ (u m : List UInt8), splitS (u ++ 47 :: m) = splitS u ++ splitS m
  | [], m => by
    have e : splitS (47 :: m) = [] :: splitS m := by rw [splitS, if_pos rfl]
    rw [List.nil_append, e]; rfl
  | b :: u, m => by
    rw [List.cons_append, splitS, splitS, splitS_mid u m]
    split
    · rfl
    · cases h : splitS u with
      | nil => exact absurd h (splitS_ne u)
      | cons x xs => rfl
theorem joinS_split : ∀ (u : List UInt8), joinS (splitS u) = u
  | [] => rfl
  | b :: u => by
    have ih := joinS_split u
    rw [splitS]
    split
    · rename_i h
      subst h
      cases hs : splitS u with
      | nil => exact absurd hs (splitS_ne u)
      | cons x xs =>
        rw [hs] at ih
        unfold joinS at ih ⊢
        rw [Lib.join_cons] at ih ⊢
        rw [← ih]
        simp [Lib.joinTail]
    · cases hs : splitS u with
      | nil => exact absurd hs (splitS_ne u)
      | cons x xs =>
        rw [hs] at ih
        unfold joinS at ih ⊢
        simp only
        rw [Lib.join_cons] at ih ⊢
        rw [← ih]; rfl
theorem joinS_len (xs : List (List UInt8)) (n : Nat) (h : ∀ x ∈ xs, x.length ≤ n) : (joinS xs).length ≤ xs.length * (n + 1) := by
  induction xs with
  | nil => simp [joinS_nil]
  | cons x xs ih =>
    have ih := ih (fun y hy => h y (by simp [hy]))
    have hx := h x (by simp)
    unfold joinS at ih ⊢
    cases xs with
    | nil => rw [Lib.join_one]; simp; omega
    | cons y ys =>
      rw [Lib.join_length] at ih ⊢
      simp only [Lib.lens, List.map_cons, List.sum_cons, List.length_cons, List.length_nil] at ih ⊢
      have e : (ys.length + 1 + 1) * (n + 1) = (ys.length + 1) * (n + 1) + (n + 1) := Nat.succ_mul _ _
      omega
/-! ### the last slash -/
/-- A path without its last part; that part. -/
def abvS (s : List UInt8) : List UInt8 := joinS (splitS s).dropLast
def lstS (s : List UInt8) : List UInt8 := ((splitS s).getLast?).getD []
theorem last_cases (s : List UInt8) : (Lib.lastIndexByte (txt s) 47 = -1 ∧ abvS s = [] ∧ lstS s = s) ∨
    ∃ i : Nat, i < s.length ∧ Lib.lastIndexByte (txt s) 47 = i ∧ abvS s = s.take i ∧ lstS s = s.drop (i + 1) := by
  have hd : ∀ j, j < s.length → ((txt s).data[j]!).toNat = (s.getD j 0).toNat := fun j hj => by
    have : (txt s).data[j]! = s[j] := by simp [txt, hj]
    rw [this, List.getD_eq_getElem?_getD, List.getElem?_eq_getElem hj]; rfl
  have h47 : ∀ b : UInt8, ((b.toNat : Int) = 47) = (b = 47) := fun b => by
    rw [← ib_inj b 47]; rfl
  unfold abvS lstS Lib.lastIndexByte
  rw [txt_size]
  rcases Lib.lastIdx_spec (txt s) 47 s.length with ⟨h, hno⟩ | ⟨i, hi, h, hat, hno⟩
  · refine .inl ⟨h, ?_⟩
    have hs : splitS s = [s] := splitS_no s (fun x hx e => by
      obtain ⟨j, hj, rfl⟩ := List.getElem_of_mem hx
      apply hno j hj
      rw [show (((txt s).data[j]!).toNat : Int) = ((s.getD j 0).toNat : Int) by rw [hd j hj], h47, List.getD_eq_getElem?_getD, List.getElem?_eq_getElem hj]
      exact e)
    rw [hs]
    exact ⟨rfl, rfl⟩
  · refine .inr ⟨i, hi, h, ?_⟩
    have hx : s[i] = 47 := by
      rw [show (((txt s).data[i]!).toNat : Int) = ((s.getD i 0).toNat : Int) by rw [hd i hi], h47, List.getD_eq_getElem?_getD, List.getElem?_eq_getElem hi] at hat
      exact hat
    have hsp : s = s.take i ++ 47 :: s.drop (i + 1) := by
      conv => lhs; rw [← List.take_append_drop i s, List.drop_eq_getElem_cons hi, hx]
    have hn : ∀ x ∈ s.drop (i + 1), x ≠ 47 := fun x hx e => by
      obtain ⟨j, hj, rfl⟩ := List.getElem_of_mem hx
      rw [List.length_drop] at hj
      apply hno (i + 1 + j) (by omega) (by omega)
      rw [show (((txt s).data[i + 1 + j]!).toNat : Int) = ((s.getD (i + 1 + j) 0).toNat : Int) by rw [hd _ (by omega)], h47, List.getD_eq_getElem?_getD, List.getElem?_eq_getElem (by omega)]
      rw [List.getElem_drop] at e
      exact e
    have hs : splitS s = splitS (s.take i) ++ [s.drop (i + 1)] := by
      conv => lhs; rw [hsp, splitS_mid, splitS_no _ hn]
    rw [hs, List.dropLast_concat, joinS_split, List.getLast?_append]
    exact ⟨rfl, rfl⟩
end Go.Proofs.Ytjaenffdbhgmeaa


/- Trees of sums: lists alone. -/
import Derived.Test.YtfdbgmnnahcejaaLam6
namespace Go.Proofs.Ytfdbgmnnahcejaa
open Go.RowKit Go.Qc

/-- "node" -/
def nodeN : List UInt8 := [110, 111, 100, 101]
def nodeB (a b : List UInt8) : List UInt8 := tagB nodeN [a, b]
theorem nodeB_length (a b : List UInt8) : (nodeB a b).length = 32 := tagB_length _ _
/-- One step up. -/
def stepB (n : Nat) (s x : List UInt8) : List UInt8 := if n % 2 = 1 then nodeB x s else nodeB s x
theorem stepB_length (n : Nat) (s x : List UInt8) : (stepB n s x).length = 32 := by unfold stepB; split <;> exact nodeB_length _ _
def climbB : Nat → List UInt8 → List (List UInt8) → List UInt8
  | _, s, [] => s
  | n, s, x :: xs => climbB (n / 2) (stepB n s x) xs
theorem climbB_length (xs : List (List UInt8)) : ∀ (n : Nat) (s : List UInt8), s.length = 32 → (climbB n s xs).length = 32 := by
  induction xs with
  | nil => intro n s h; exact h
  | cons x xs ih => intro n s _; exact ih _ _ (stepB_length _ _ _)
theorem climbB_snoc (x : List UInt8) : ∀ (xs : List (List UInt8)) (n : Nat) (s : List UInt8), climbB n s (xs ++ [x]) = stepB (n / 2 ^ xs.length) (climbB n s xs) x
  | [], n, s => by simp [climbB]
  | y :: xs, n, s => by
    rw [List.cons_append, climbB, climbB_snoc x xs, climbB, List.length_cons, Nat.pow_succ, Nat.mul_comm (2 ^ xs.length) 2, Nat.div_div_eq_div_mul]
theorem climbB_take {way : List (List UInt8)} {k : Nat} {x : List UInt8} (h : way[k]? = some x) (n : Nat) (s : List UInt8) :
    climbB n s (way.take (k + 1)) = stepB (n / 2 ^ k) (climbB n s (way.take k)) x := by
  have hk := (List.getElem?_eq_some_iff.1 h).1
  rw [List.take_add_one, h]
  show climbB n s (way.take k ++ [x]) = _
  rw [climbB_snoc, List.length_take, Nat.min_eq_left (by omega)]
theorem div_pow_succ (n k : Nat) : n / 2 ^ k / 2 = n / 2 ^ (k + 1) := by rw [Nat.div_div_eq_div_mul, Nat.pow_succ]

/-- The sum so many levels up, the i-th one. -/
def ndB (f : Nat → List UInt8) : Nat → Nat → List UInt8
  | 0, i => f i
  | j + 1, i => nodeB (ndB f j (2 * i)) (ndB f j (2 * i + 1))
theorem ndB_length (f : Nat → List UInt8) (hf : ∀ i, (f i).length = 32) : ∀ j i, (ndB f j i).length = 32
  | 0, i => hf i
  | _ + 1, _ => nodeB_length _ _
theorem ndB_congr {f g : Nat → List UInt8} : ∀ (j i : Nat), (∀ x, i * 2 ^ j ≤ x → x < (i + 1) * 2 ^ j → f x = g x) → ndB f j i = ndB g j i
  | 0, i, h => h i (by simp) (by simp)
  | j + 1, i, h => by
    have e : 2 ^ (j + 1) = 2 * 2 ^ j := by rw [Nat.pow_succ, Nat.mul_comm]
    have e1 : i * 2 ^ (j + 1) = 2 * i * 2 ^ j := by rw [e, ← Nat.mul_assoc, Nat.mul_comm i 2]
    have e2 : (i + 1) * 2 ^ (j + 1) = (2 * i + 1 + 1) * 2 ^ j := by rw [e, ← Nat.mul_assoc, show (i + 1) * 2 = 2 * i + 1 + 1 by omega]
    have f1 : ndB f j (2 * i) = ndB g j (2 * i) := ndB_congr j (2 * i) fun x h1 h2 => h x (by rw [e1]; exact h1) (by rw [e2]; exact Nat.lt_of_lt_of_le h2 (Nat.mul_le_mul_right _ (by omega)))
    have f2 : ndB f j (2 * i + 1) = ndB g j (2 * i + 1) := ndB_congr j (2 * i + 1) fun x h1 h2 => h x (by rw [e1]; exact Nat.le_trans (Nat.mul_le_mul_right _ (by omega)) h1) (by rw [e2]; exact h2)
    rw [ndB, ndB, f1, f2]
theorem ndB_shift (f : Nat → List UInt8) : ∀ (j m : Nat) (i : Nat), ndB (fun x => f (m * 2 ^ j + x)) j i = ndB f j (m + i)
  | 0, m, i => by simp [ndB]
  | j + 1, m, i => by
    have e : m * 2 ^ (j + 1) = 2 * m * 2 ^ j := by rw [Nat.pow_succ, ← Nat.mul_assoc, Nat.mul_right_comm, Nat.mul_comm m 2]
    rw [ndB, ndB, e, ndB_shift f j (2 * m), ndB_shift f j (2 * m), Nat.mul_add, Nat.add_assoc]

/-- A row's elements, as a function. -/
def getB (l : List (List UInt8)) (i : Nat) : List UInt8 := (l[i]?).getD zeroB
theorem getB_some {l : List (List UInt8)} {i : Nat} {x : List UInt8} (h : l[i]? = some x) : getB l i = x := by rw [getB, h]; rfl
theorem getB_at {l : List (List UInt8)} {i : Nat} (h : i < l.length) : l[i]? = some (getB l i) := by rw [getB, List.getElem?_eq_getElem h]; rfl
theorem getB_length {l : List (List UInt8)} (h : ∀ x ∈ l, x.length = 32) (i : Nat) : (getB l i).length = 32 := by
  unfold getB
  cases hx : l[i]? with
  | none => rfl
  | some x => exact h x (List.mem_of_getElem? hx)
theorem getB_upTo (f : Nat → List UInt8) {n i : Nat} (h : i < n) : getB (upTo f n) i = f i := getB_some (upTo_get f n i h)
theorem upTo_getB (l : List (List UInt8)) : upTo (getB l) l.length = l := by
  apply List.ext_getElem?
  intro i
  by_cases h : i < l.length
  · rw [upTo_get _ _ _ h, getB_at h]
  · rw [List.getElem?_eq_none (by rw [upTo_length]; omega), List.getElem?_eq_none (by omega)]
/-- What stands above a row's pairs. -/
def aboveB (l : List (List UInt8)) (i : Nat) : List UInt8 := nodeB (getB l (2 * i)) (getB l (2 * i + 1))
theorem aboveB_length (l : List (List UInt8)) (i : Nat) : (aboveB l i).length = 32 := nodeB_length _ _
theorem upTo_congr {f g : Nat → List UInt8} (n : Nat) (h : ∀ i, i < n → f i = g i) : upTo f n = upTo g n := by
  apply List.ext_getElem?
  intro i
  by_cases hi : i < n
  · rw [upTo_get _ _ _ hi, upTo_get _ _ _ hi, h i hi]
  · rw [List.getElem?_eq_none (by rw [upTo_length]; omega), List.getElem?_eq_none (by rw [upTo_length]; omega)]
theorem above_level (f : Nat → List UInt8) (j m : Nat) : upTo (aboveB (upTo (ndB f j) (2 * m))) m = upTo (ndB f (j + 1)) m :=
  upTo_congr m fun i hi => by rw [aboveB, getB_upTo _ (by omega), getB_upTo _ (by omega), ndB]

/-- A leaf's way. -/
def besideN (i : Nat) : Nat := if i % 2 = 1 then i - 1 else i + 1
def wayF (f : Nat → List UInt8) (i : Nat) (j : Nat) : List UInt8 := ndB f j (besideN (i / 2 ^ j))
theorem climb_way (f : Nat → List UInt8) (i : Nat) : ∀ h, climbB i (f i) (upTo (wayF f i) h) = ndB f h (i / 2 ^ h)
  | 0 => by simp [upTo, climbB, ndB]
  | h + 1 => by
    rw [upTo_succ, climbB_snoc, climb_way f i h, upTo_length, ndB, ← div_pow_succ]
    unfold stepB wayF besideN
    generalize i / 2 ^ h = m
    by_cases hm : m % 2 = 1
    · rw [if_pos hm, if_pos hm, show 2 * (m / 2) + 1 = m by omega, show 2 * (m / 2) = m - 1 by omega]
    · rw [if_neg hm, if_neg hm, show 2 * (m / 2) + 1 = m + 1 by omega, show 2 * (m / 2) = m by omega]
end Go.Proofs.Ytfdbgmnnahcejaa


/- Pairs of whole numbers as complex ones, modulo 65519: powers, inverses, tallies. Of no program. -/
import Derived.Test.YtkajfpincbkfhaaNt0
set_option linter.unusedVariables false
namespace Go.Qc

/-- Pairs of whole numbers, multiplied as complex numbers; the remainders of both. -/
def zmul (x y : Int × Int) : Int × Int := (x.1 * y.1 - x.2 * y.2, x.1 * y.2 + x.2 * y.1)
def zred (x : Int × Int) : Int × Int := (x.1 % 65519, x.2 % 65519)
def gmulZ (x y : Int × Int) : Int × Int := zred (zmul x y)
def gpowZ (x : Int × Int) : Nat → Int × Int
  | 0 => (1, 0)
  | n + 1 => gmulZ (gpowZ x n) x
structure ResZ (x : Int × Int) : Prop where
  a0 : 0 ≤ x.1
  a1 : x.1 < 65519
  b0 : 0 ≤ x.2
  b1 : x.2 < 65519
theorem zred_res (x : Int × Int) : ResZ (zred x) := by
  refine ⟨?_, ?_, ?_, ?_⟩ <;> · unfold zred; dsimp only; omega
theorem zred_of {x : Int × Int} (h : ResZ x) : zred x = x := by
  obtain ⟨a, b⟩ := x
  obtain ⟨h1, h2, h3, h4⟩ := h
  unfold zred
  dsimp only at *
  rw [Int.emod_eq_of_lt h1 h2, Int.emod_eq_of_lt h3 h4]
theorem emod_same (a b k : Int) (h : a = b + 65519 * k) : a % 65519 = b % 65519 := by omega
theorem zmul_comm (x y : Int × Int) : zmul x y = zmul y x := by
  unfold zmul
  ext <;> dsimp only <;> grind
theorem zmul_assoc (x y z : Int × Int) : zmul (zmul x y) z = zmul x (zmul y z) := by
  unfold zmul
  ext <;> dsimp only <;> grind
theorem zred_zmul (x y : Int × Int) : zred (zmul (zred x) y) = zred (zmul x y) := by
  obtain ⟨a, b⟩ := x
  obtain ⟨c, d⟩ := y
  have h1 : a = a % 65519 + 65519 * (a / 65519) := by omega
  have h2 : b = b % 65519 + 65519 * (b / 65519) := by omega
  unfold zmul zred
  ext
  · dsimp only
    generalize a % 65519 = r at *
    generalize b % 65519 = s at *
    generalize a / 65519 = q at *
    generalize b / 65519 = t at *
    subst h1 h2
    exact (emod_same _ _ (q * c - t * d) (by grind)).symm
  · dsimp only
    generalize a % 65519 = r at *
    generalize b % 65519 = s at *
    generalize a / 65519 = q at *
    generalize b / 65519 = t at *
    subst h1 h2
    exact (emod_same _ _ (q * d + t * c) (by grind)).symm
theorem gmulZ_res (x y : Int × Int) : ResZ (gmulZ x y) := zred_res _
theorem gmulZ_comm (x y : Int × Int) : gmulZ x y = gmulZ y x := by unfold gmulZ; rw [zmul_comm]
theorem gmulZ_assoc (x y z : Int × Int) : gmulZ (gmulZ x y) z = gmulZ x (gmulZ y z) := by
  unfold gmulZ
  rw [zred_zmul, zmul_assoc, zmul_comm x (zred _), zred_zmul, zmul_comm x]
theorem gmulZ_one {x : Int × Int} (h : ResZ x) : gmulZ x (1, 0) = x := by
  have : zmul x (1, 0) = x := by unfold zmul; ext <;> dsimp only <;> omega
  unfold gmulZ
  rw [this, zred_of h]
theorem oneZ_res : ResZ (1, 0) := ⟨by decide, by decide, by decide, by decide⟩
theorem gone_mulZ {x : Int × Int} (h : ResZ x) : gmulZ (1, 0) x = x := by rw [gmulZ_comm, gmulZ_one h]
theorem gpowZ_res (x : Int × Int) (n : Nat) : ResZ (gpowZ x n) := by
  cases n with
  | zero => exact oneZ_res
  | succ n => exact gmulZ_res _ _
theorem gpowZ_add (x : Int × Int) (m n : Nat) : gpowZ x (m + n) = gmulZ (gpowZ x m) (gpowZ x n) := by
  induction n with
  | zero => exact (gmulZ_one (gpowZ_res x m)).symm
  | succ n ih => show gmulZ (gpowZ x (m + n)) x = gmulZ (gpowZ x m) (gmulZ (gpowZ x n) x); rw [ih, gmulZ_assoc]
theorem gpowZ_one {x : Int × Int} (h : ResZ x) : gpowZ x 1 = x := gone_mulZ h
theorem gpowZ_sq {x : Int × Int} (h : ResZ x) (n : Nat) : gpowZ (gmulZ x x) n = gpowZ x (2 * n) := by
  induction n with
  | zero => rfl
  | succ n ih =>
    show gmulZ (gpowZ (gmulZ x x) n) (gmulZ x x) = _
    have e : gpowZ x (2 * (n + 1)) = gmulZ (gmulZ (gpowZ x (2 * n)) x) x := rfl
    rw [ih, e, gmulZ_assoc]
/-- A step of the powers by squares. -/
theorem gpowZ_half {c a : Int × Int} (ha : ResZ a) (hc : ResZ c) (n : Nat) : gmulZ (if n % 2 = 1 then gmulZ c a else c) (gpowZ (gmulZ a a) (n / 2)) = gmulZ c (gpowZ a n) := by
  rw [gpowZ_sq ha]
  split
  · rename_i h
    have e : gpowZ a n = gmulZ a (gpowZ a (2 * (n / 2))) := by
      have : n = 1 + 2 * (n / 2) := by omega
      conv => lhs; rw [this]
      rw [gpowZ_add, gpowZ_one ha]
    rw [e, gmulZ_assoc]
  · rename_i h
    have : 2 * (n / 2) = n := by omega
    rw [this]

/-- The norm of a residue that isn't 0 isn't 0. -/
theorem sq_mod (a b : Nat) (h : (a * a + b * b) % 65519 = 0) : a % 65519 = 0 := by
  by_cases ha : a % 65519 = 0
  · exact ha
  exfalso
  have hd : ¬ 65519 ∣ a := fun h => ha (Nat.mod_eq_zero_of_dvd h)
  have hbd : ¬ 65519 ∣ b := by
    intro hb
    obtain ⟨k, rfl⟩ := hb
    have h2 : 65519 ∣ a * a := by
      have h3 : 65519 ∣ a * a + 65519 * k * (65519 * k) := Nat.dvd_of_mod_eq_zero h
      exact (Nat.dvd_add_iff_left ⟨k * (65519 * k), by rw [Nat.mul_assoc]⟩).2 h3
    exact hd (euclid5 h2 hd)
  have fa := fermat1 a ha
  have fb := fermat1 b (fun h => hbd (Nat.dvd_of_mod_eq_zero h))
  obtain ⟨q, hq⟩ : ∃ q, q = 32759 := ⟨_, rfl⟩
  have e1 : a ^ 65518 = (a * a) ^ q := by rw [show 65518 = 2 * q by omega, Nat.pow_mul, Nat.pow_two]
  have e2 : b ^ 65518 = (b * b) ^ q := by rw [show 65518 = 2 * q by omega, Nat.pow_mul, Nat.pow_two]
  rw [e1] at fa
  rw [e2] at fb
  generalize a * a = A at *
  generalize b * b = B at *
  -- (-1)^q = -1: the sum of odd powers is divisible by the sum
  have key : ∀ m, 65519 ∣ A ^ (2 * m + 1) + B ^ (2 * m + 1) := by
    intro m
    induction m with
    | zero => simpa using Nat.dvd_of_mod_eq_zero h
    | succ m ih =>
      have e : A ^ (2 * (m + 1) + 1) + B ^ (2 * (m + 1) + 1) + A * B * (A ^ (2 * m) * A + B ^ (2 * m) * B) = (A + B) * (A ^ (2 * m + 2) + B ^ (2 * m + 2)) + 0 := by
        have p1 : A ^ (2 * (m + 1) + 1) = A ^ (2 * m) * A * A * A := by rw [show 2 * (m + 1) + 1 = 2 * m + 1 + 1 + 1 by omega]; simp only [Nat.pow_succ]
        have p2 : B ^ (2 * (m + 1) + 1) = B ^ (2 * m) * B * B * B := by rw [show 2 * (m + 1) + 1 = 2 * m + 1 + 1 + 1 by omega]; simp only [Nat.pow_succ]
        have p3 : A ^ (2 * m + 2) = A ^ (2 * m) * A * A := by simp only [Nat.pow_succ]
        have p4 : B ^ (2 * m + 2) = B ^ (2 * m) * B * B := by simp only [Nat.pow_succ]
        rw [p1, p2, p3, p4]
        generalize A ^ (2 * m) = U
        generalize B ^ (2 * m) = V
        grind
      rw [Nat.pow_succ, Nat.pow_succ] at ih
      have h1 : 65519 ∣ (A + B) * (A ^ (2 * m + 2) + B ^ (2 * m + 2)) + 0 := Nat.dvd_trans (Nat.dvd_of_mod_eq_zero h) (Nat.dvd_mul_right ..)
      rw [← e] at h1
      exact (Nat.dvd_add_iff_left (Nat.dvd_trans ih (Nat.dvd_mul_left ..))).2 h1
  have hk := key 16379
  rw [show 2 * 16379 + 1 = q by omega] at hk
  have := Nat.mod_eq_zero_of_dvd hk
  omega
theorem gpowZ_real (N n : Nat) : gpowZ ((N : Int), 0) n = (((N ^ n % 65519 : Nat) : Int), 0) := by
  induction n with
  | zero => rfl
  | succ n ih =>
    show gmulZ (gpowZ ((N : Int), 0) n) ((N : Int), 0) = _
    rw [ih, Nat.pow_succ, Nat.mul_mod]
    unfold gmulZ zmul zred
    dsimp only
    rw [Int.mul_zero, Int.mul_zero, Int.zero_mul, Int.sub_zero, Int.add_zero, Int.zero_emod]
    congr 1
    rw [Nat.mul_mod_mod]
    generalize N ^ n % 65519 = A
    rw [Int.natCast_emod, Int.natCast_mul]
    rfl
/-- Across the real line. -/
def gbarZ (x : Int × Int) : Int × Int := zred (x.1, -x.2)
def gnormZ (x : Int × Int) : Nat := (x.1.toNat * x.1.toNat + x.2.toNat * x.2.toNat) % 65519
theorem gbar_mul {x : Int × Int} (h : ResZ x) : gmulZ x (gbarZ x) = ((gnormZ x : Int), 0) := by
  obtain ⟨a, b⟩ := x
  obtain ⟨h1, h2, h3, h4⟩ := h
  dsimp only at *
  obtain ⟨m, rfl⟩ : ∃ m : Nat, a = m := ⟨a.toNat, by omega⟩
  obtain ⟨n, rfl⟩ : ∃ n : Nat, b = n := ⟨b.toNat, by omega⟩
  have e : gmulZ ((m : Int), (n : Int)) (gbarZ ((m : Int), (n : Int))) = zred (zmul ((m : Int), -(n : Int)) ((m : Int), (n : Int))) := by
    unfold gbarZ
    rw [gmulZ_comm]
    exact zred_zmul _ _
  rw [e]
  unfold zmul zred gnormZ
  dsimp only
  rw [Int.toNat_natCast, Int.toNat_natCast, Int.natCast_emod, Int.natCast_add, Int.natCast_mul, Int.natCast_mul]
  have e1 : (m : Int) * m - -(n : Int) * n = (m : Int) * m + (n : Int) * n := by grind
  have e2 : (m : Int) * n + -(n : Int) * m = 0 := by grind
  rw [e1, e2]
  rfl
theorem gnorm_ne {x : Int × Int} (h : ResZ x) (h0 : x ≠ (0, 0)) : gnormZ x % 65519 ≠ 0 := by
  obtain ⟨a, b⟩ := x
  obtain ⟨h1, h2, h3, h4⟩ := h
  dsimp only at *
  obtain ⟨m, rfl⟩ : ∃ m : Nat, a = m := ⟨a.toNat, by omega⟩
  obtain ⟨n, rfl⟩ : ∃ n : Nat, b = n := ⟨b.toNat, by omega⟩
  unfold gnormZ
  dsimp only
  rw [Int.toNat_natCast, Int.toNat_natCast, Nat.mod_mod]
  intro hz
  have z1 := sq_mod m n hz
  have z2 := sq_mod n m (by rw [Nat.add_comm]; exact hz)
  apply h0
  have : m = 0 := by omega
  have : n = 0 := by omega
  subst m n
  rfl
def ginvZ (x : Int × Int) : Int × Int := gmulZ (gbarZ x) (gpowZ (gmulZ x (gbarZ x)) 65517)
theorem ginv_mul {x : Int × Int} (h : ResZ x) (h0 : x ≠ (0, 0)) : gmulZ x (ginvZ x) = (1, 0) := by
  unfold ginvZ
  rw [← gmulZ_assoc, gbar_mul h]
  have hne := gnorm_ne h h0
  generalize gnormZ x = N at *
  obtain ⟨q, hq⟩ : ∃ q, q = 65517 := ⟨_, rfl⟩
  have e : gmulZ ((N : Int), 0) (gpowZ ((N : Int), 0) q) = gpowZ ((N : Int), 0) (q + 1) := gmulZ_comm _ _
  have hf := fermat1 N hne
  rw [← hq, e, gpowZ_real, show q + 1 = 65518 by omega, hf]
  rfl
theorem ginv_res (x : Int × Int) : ResZ (ginvZ x) := gmulZ_res _ _
/-- The product of a row. -/
def gtalZ (l : List (Int × Int)) : Int × Int := l.foldl gmulZ (1, 0)
theorem gfold_res (l : List (Int × Int)) : ∀ c, ResZ c → ResZ (l.foldl gmulZ c) := by
  induction l with
  | nil => intro c h; exact h
  | cons x l ih => intro c _; exact ih _ (gmulZ_res _ _)
theorem gfold_mul (l : List (Int × Int)) : ∀ c, ResZ c → l.foldl gmulZ c = gmulZ c (gtalZ l) := by
  induction l with
  | nil => intro c h; exact (gmulZ_one h).symm
  | cons x l ih =>
    intro c h
    show l.foldl gmulZ (gmulZ c x) = gmulZ c (l.foldl gmulZ (gmulZ (1, 0) x))
    rw [ih _ (gmulZ_res _ _), ih _ (gmulZ_res _ _), gmulZ_assoc, gmulZ_assoc (1, 0), gone_mulZ (gmulZ_res _ _)]
theorem gtal_append (l m : List (Int × Int)) : gtalZ (l ++ m) = gmulZ (gtalZ l) (gtalZ m) := by
  unfold gtalZ
  rw [List.foldl_append]
  exact gfold_mul m _ (gfold_res l _ oneZ_res)
end Go.Qc

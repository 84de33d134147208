
/- Pairs of whole numbers as complex ones, modulo 65519: powers, inverses, tallies. Of no program. -/
import Derived.ChangeShapes
set_option linter.unusedVariables false
namespace Go.Qc

/-- Pairs of whole numbers, multiplied as complex numbers; the remainders of both. -/
def zmul (x y : Int × Int) : Int × Int := (x.1 * y.1 - x.2 * y.2, x.1 * y.2 + x.2 * y.1)
def zred (x : Int × Int) : Int × Int := (x.1 % 65519, x.2 % 65519)
def gmulZ (x y : Int × Int) : Int × Int := zred (zmul x y)
def gpowZ (x : Int × Int) : Nat → Int × Int
  | 0 => (1, 0)
  | n + 1 => gmulZ (gpowZ x n) x
structure ResZ (x : Int × Int) : Prop where
  a0 : 0 ≤ x.1
  a1 : x.1 < 65519
  b0 : 0 ≤ x.2
  b1 : x.2 < 65519
theorem zred_res (x : Int × Int) : ResZ (zred x) := by
  refine ⟨?_, ?_, ?_, ?_⟩ <;> · unfold zred; dsimp only; omega
theorem zred_of {x : Int × Int} (h : ResZ x) : zred x = x := by
  obtain ⟨a, b⟩ := x
  obtain ⟨h1, h2, h3, h4⟩ := h
  unfold zred
  dsimp only at *
  rw [Int.emod_eq_of_lt h1 h2, Int.emod_eq_of_lt h3 h4]
theorem emod_same (a b k : Int) (h : a = b + 65519 * k) : a % 65519 = b % 65519 := by omega
theorem zmul_comm (x y : Int × Int) : zmul x y = zmul y x := by
  unfold zmul
  ext <;> dsimp only <;> grind
theorem zmul_assoc (x y z : Int × Int) : zmul (zmul x y) z = zmul x (zmul y z) := by
  unfold zmul
  ext <;> dsimp only <;> grind
theorem zred_zmul (x y : Int × Int) : zred (zmul (zred x) y) = zred (zmul x y) := by
  obtain ⟨a, b⟩ := x
  obtain ⟨c, d⟩ := y
  have h1 : a = a % 65519 + 65519 * (a / 65519) := by omega
  have h2 : b = b % 65519 + 65519 * (b / 65519) := by omega
  unfold zmul zred
  ext
  · dsimp only
    generalize a % 65519 = r at *
    generalize b % 65519 = s at *
    generalize a / 65519 = q at *
    generalize b / 65519 = t at *
    subst h1 h2
    exact (emod_same _ _ (q * c - t * d) (by grind)).symm
  · dsimp only
    generalize a % 65519 = r at *
    generalize b % 65519 = s at *
    generalize a / 65519 = q at *
    generalize b / 65519 = t at *
    subst h1 h2
    exact (emod_same _ _ (q * d + t * c) (by grind)).symm
theorem gmulZ_res (x y : Int × Int) : ResZ (gmulZ x y) := zred_res _
theorem gmulZ_comm (x y : Int × Int) : gmulZ x y = gmulZ y x := by unfold gmulZ; rw [zmul_comm]
theorem gmulZ_assoc (x y z : Int × Int) : gmulZ (gmulZ x y) z = gmulZ x (gmulZ y z) := by
  unfold gmulZ
  rw [zred_zmul, zmul_assoc, zmul_comm x (zred _), zred_zmul, zmul_comm x]
theorem gmulZ_one {x : Int × Int} (h : ResZ x) : gmulZ x (1, 0) = x := by
  have : zmul x (1, 0) = x := by unfold zmul; ext <;> dsimp only <;> omega
  unfold gmulZ
  rw [this, zred_of h]
theorem oneZ_res : ResZ (1, 0) := ⟨by decide, by decide, by decide, by decide⟩
theorem gone_mulZ {x : Int × Int} (h : ResZ x) : gmulZ (1, 0) x = x := by rw [gmulZ_comm, gmulZ_one h]
theorem gpowZ_res (x : Int × Int) (n : Nat) : ResZ (gpowZ x n) := by
  cases n with
  | zero => exact oneZ_res
  | succ n => exact gmulZ_res _ _
theorem gpowZ_add (x : Int × Int) (m n : Nat) : gpowZ x (m + n) = gmulZ (gpowZ x m) (gpowZ x n) := by
  induction n with
  | zero => exact (gmulZ_one (gpowZ_res x m)).symm
  | succ n ih => show gmulZ (gpowZ x (m + n)) x = gmulZ (gpowZ x m) (gmulZ (gpowZ x n) x); rw [ih, gmulZ_assoc]
theorem gpowZ_one {x : Int × Int} (h : ResZ x) : gpowZ x 1 = x := gone_mulZ h
theorem gpowZ_sq {x : Int × Int} (h : ResZ x) (n : Nat) : gpowZ (gmulZ x x) n = gpowZ x (2 * n) := by
  induction n with
  | zero => rfl
  | succ n ih =>
    show gmulZ (gpowZ (gmulZ x x) n) (gmulZ x x) = _
    have e : gpowZ x (2 * (n + 1)) = gmulZ (gmulZ (gpowZ x (2 * n)) x) x := rfl
    rw [ih, e, gmulZ_assoc]
/-- A step of the powers by squares. -/
theorem gpowZ_half {c a : Int × Int} (ha : ResZ a) (hc : ResZ c) (n : Nat) : gmulZ (if n % 2 = 1 then gmulZ c a else c) (gpowZ (gmulZ a a) (n / 2)) = gmulZ c (gpowZ a n) := by
  rw [gpowZ_sq ha]
  split
  · rename_i h
    have e : gpowZ a n = gmulZ a (gpowZ a (2 * (n / 2))) := by
      have : n = 1 + 2 * (n / 2) := by omega
      conv => lhs; rw [this]
      rw [gpowZ_add, gpowZ_one ha]
    rw [e, gmulZ_assoc]
  · rename_i h
    have : 2 * (n / 2) = n := by omega
    rw [this]

end Go.Qc


/- Pairs of whole numbers as complex ones, modulo 65519: powers, inverses, tallies. Of no program. -/
import Derived.ChangeShapes
set_option linter.unusedVariables false
namespace Go.Qc

/-- Pairs of whole numbers, multiplied as complex numbers; the remainders of both. -/
def zmul (x y : Int × Int) : Int × Int := (x.1 * y.1 - x.2 * y.2, x.1 * y.2 + x.2 * y.1)
def zred (x : Int × Int) : Int × Int := (x.1 % 65519, x.2 % 65519)
def gmulZ (x y : Int × Int) : Int × Int := zred (zmul x y)
def gpowZ (x : Int × Int) : Nat → Int × Int
  | 0 => (1, 0)
  | n + 1 => gmulZ (gpowZ x n) x
structure ResZ (x : Int × Int) : Prop where
  a0 : 0 ≤ x.1
  a1 : x.1 < 65519
  b0 : 0 ≤ x.2
  b1 : x.2 < 65519
theorem zred_res (x : Int × Int) : ResZ (zred x) := by
  refine ⟨?_, ?_, ?_, ?_⟩ <;> · unfold zred; dsimp only; omega
theorem zred_of {x : Int × Int} (h : ResZ x) : zred x = x := by
  obtain ⟨a, b⟩ := x
  obtain ⟨h1, h2, h3, h4⟩ := h
  unfold zred
  dsimp only at *
  rw [Int.emod_eq_of_lt h1 h2, Int.emod_eq_of_lt h3 h4]
theorem zmul_comm (x y : Int × Int) : zmul x y = zmul y x := by
  unfold zmul
  ext <;> dsimp only <;> grind
theorem gmulZ_res (x y : Int × Int) : ResZ (gmulZ x y) := zred_res _
theorem gmulZ_comm (x y : Int × Int) : gmulZ x y = gmulZ y x := by unfold gmulZ; rw [zmul_comm]
theorem gmulZ_one {x : Int × Int} (h : ResZ x) : gmulZ x (1, 0) = x := by
  have : zmul x (1, 0) = x := by unfold zmul; ext <;> dsimp only <;> omega
  unfold gmulZ
  rw [this, zred_of h]
theorem oneZ_res : ResZ (1, 0) := ⟨by decide, by decide, by decide, by decide⟩
theorem gone_mulZ {x : Int × Int} (h : ResZ x) : gmulZ (1, 0) x = x := by rw [gmulZ_comm, gmulZ_one h]
theorem gpowZ_res (x : Int × Int) (n : Nat) : ResZ (gpowZ x n) := by
  cases n with
  | zero => exact oneZ_res
  | succ n => exact gmulZ_res _ _
end Go.Qc

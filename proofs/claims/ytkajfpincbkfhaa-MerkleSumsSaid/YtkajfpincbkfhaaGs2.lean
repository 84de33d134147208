
/- gauss: Power, Inverse, Divide, Turn; the chapter's example. -/
import Derived.Test.YtkajfpincbkfhaaGs1
import Derived.Deep.DeepCutAuto
set_option linter.unusedSimpArgs false
set_option linter.unusedVariables false
namespace Go.Proofs.Ytkajfpincbkfhaa
open Go.RowKit Go.Qc

/-- The loop's state: what is left to be multiplied. -/
structure PwI (x : Int × Int) (n : Nat) (A C : Int × Int) (k : Nat) : Prop where
  a : ResZ A
  c : ResZ C
  e : gmulZ C (gpowZ A k) = gpowZ x n
theorem PwI.even {x A C : Int × Int} {n k : Nat} (h : PwI x n A C k) (hk : k % 2 = 0) : PwI x n (gmulZ A A) C (k / 2) := ⟨gmulZ_res _ _, h.c, by
  have := gpowZ_half h.a h.c k
  rw [if_neg (by omega)] at this
  rw [this, h.e]⟩
/-! ### Inverses -/
theorem fl_eqb (a b : Int) (ha : a.natAbs < 2 ^ 53) (hb : b.natAbs < 2 ^ 53) : (FloatKind.f64.format.order (fl a) (fl b) == some .eq) = decide (a = b) := by rw [ford a b ha hb, cmp_eq]
theorem run_cz_eq (t : TypeId) (x y : Int × Int) (hx : ResZ x) (hy : ResZ y) (w : World) : (binOp .eql t (cz x) (cz y)).run Try.prog w = .ok (.bool (decide (x = y))) w := by
  obtain ⟨x0, x1, x2, x3⟩ := hx
  obtain ⟨y0, y1, y2, y3⟩ := hy
  unfold cz
  rw [run_eql_complex, fl_eqb _ _ (by omega) (by omega), fl_eqb _ _ (by omega) (by omega)]
  congr 2
  obtain ⟨a, b⟩ := x
  obtain ⟨c, d⟩ := y
  by_cases h1 : a = c
  · by_cases h2 : b = d <;> simp [h1, h2]
  · simp [h1]
end Go.Proofs.Ytkajfpincbkfhaa

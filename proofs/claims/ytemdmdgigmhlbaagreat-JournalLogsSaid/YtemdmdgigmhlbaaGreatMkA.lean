/- Floats of whole numbers: what is read of them, their sums, products, order. Of no program. -/
import Derived.Laws.ComplexArith
import Derived.ChangeShapes
import Derived.Test.YtemdmdgigmhlbaaGreatKit
import Derived.Test.YtemdmdgigmhlbaaGreatChecked
import Derived.Deep.DeepCutAuto
import Derived.Laws.StructEq
import Derived.Test.YtemdmdgigmhlbaaGreatTag2
import Derived.Deep.RegionHeld3
import Derived.Test.YtemdmdgigmhlbaaGreatIdL
import Derived.Test.YtemdmdgigmhlbaaGreatTag6
set_option linter.unusedVariables false
namespace Go.Qc
open Ieee

/-- The float of a whole number. -/
def fl (n : Int) : Nat := FloatKind.f64.nearest n
end Go.Qc
/- Pairs of whole numbers as complex ones, modulo 65519: powers, inverses, tallies. Of no program. -/
set_option linter.unusedVariables false
namespace Go.Qc

/-- Pairs of whole numbers, multiplied as complex numbers; the remainders of both. -/
def zmul (x y : Int × Int) : Int × Int := (x.1 * y.1 - x.2 * y.2, x.1 * y.2 + x.2 * y.1)
def zred (x : Int × Int) : Int × Int := (x.1 % 65519, x.2 % 65519)
def gmulZ (x y : Int × Int) : Int × Int := zred (zmul x y)
def gpowZ (x : Int × Int) : Nat → Int × Int
  | 0 => (1, 0)
  | n + 1 => gmulZ (gpowZ x n) x
structure ResZ (x : Int × Int) : Prop where
  a0 : 0 ≤ x.1
  a1 : x.1 < 65519
  b0 : 0 ≤ x.2
  b1 : x.2 < 65519
theorem zred_res (x : Int × Int) : ResZ (zred x) := by
  refine ⟨?_, ?_, ?_, ?_⟩ <;> · unfold zred; dsimp only; omega
theorem zred_of {x : Int × Int} (h : ResZ x) : zred x = x := by
  obtain ⟨a, b⟩ := x
  obtain ⟨h1, h2, h3, h4⟩ := h
  unfold zred
  dsimp only at *
  rw [Int.emod_eq_of_lt h1 h2, Int.emod_eq_of_lt h3 h4]
theorem zmul_comm (x y : Int × Int) : zmul x y = zmul y x := by
  unfold zmul
  ext <;> dsimp only <;> grind
theorem gmulZ_res (x y : Int × Int) : ResZ (gmulZ x y) := zred_res _
theorem gmulZ_comm (x y : Int × Int) : gmulZ x y = gmulZ y x := by unfold gmulZ; rw [zmul_comm]
theorem gmulZ_one {x : Int × Int} (h : ResZ x) : gmulZ x (1, 0) = x := by
  have : zmul x (1, 0) = x := by unfold zmul; ext <;> dsimp only <;> omega
  unfold gmulZ
  rw [this, zred_of h]
theorem oneZ_res : ResZ (1, 0) := ⟨by decide, by decide, by decide, by decide⟩
theorem gone_mulZ {x : Int × Int} (h : ResZ x) : gmulZ (1, 0) x = x := by rw [gmulZ_comm, gmulZ_one h]
theorem gpowZ_res (x : Int × Int) (n : Nat) : ResZ (gpowZ x n) := by
  cases n with
  | zero => exact oneZ_res
  | succ n => exact gmulZ_res _ _
end Go.Qc
/- gauss: remainder, reduced, reckoned; what is told of residues. -/
set_option linter.unusedSimpArgs false
set_option linter.unusedVariables false
namespace Go.Proofs.YtemdmdgigmhlbaaGreat
open Go.RowKit Go.Qc

/-- A pair as the program has it. -/
def cz (x : Int × Int) : Value := .complex .f64 (fl x.1) (fl x.2)
/-! ### Sums, differences, products -/
end Go.Proofs.YtemdmdgigmhlbaaGreat
/- gauss: Power, Inverse, Divide, Turn; the chapter's example. -/
set_option linter.unusedSimpArgs false
set_option linter.unusedVariables false
namespace Go.Proofs.YtemdmdgigmhlbaaGreat
open Go.RowKit Go.Qc

/-- The loop's state: what is left to be multiplied. -/
structure PwI (x : Int × Int) (n : Nat) (A C : Int × Int) (k : Nat) : Prop where
  a : ResZ A
  c : ResZ C
  e : gmulZ C (gpowZ A k) = gpowZ x n
theorem PwI.start {x : Int × Int} (h : ResZ x) (n : Nat) : PwI x n x (1, 0) n := ⟨h, oneZ_res, gone_mulZ (gpowZ_res x n)⟩
/-! ### Inverses -/
end Go.Proofs.YtemdmdgigmhlbaaGreat
/- gauss: regions that draw their order, read, and call what leaves old blocks alone; what the laws' calls answer, told by letters. -/
set_option linter.unusedSimpArgs false
set_option linter.unusedVariables false
namespace Go.Proofs.YtemdmdgigmhlbaaGreat
open Go.RowKit Go.Qc

/-- A residue's four letters: both parts, as whole numbers and as floats. -/
structure LetZ (r : Int × Int) (a b : Int) (u v : Nat) : Prop where
  ra : r.1 = a
  rb : r.2 = b
  ua : fl a = u
  vb : fl b = v
theorem LetZ.cz {r : Int × Int} {a b : Int} {u v : Nat} (h : LetZ r a b u v) : cz r = .complex .f64 u v := by unfold Proofs.YtemdmdgigmhlbaaGreat.cz; rw [h.ra, h.rb, h.ua, h.vb]
end Go.Proofs.YtemdmdgigmhlbaaGreat
/- ids: rows that are cut anywhere, and put behind one's own. -/
set_option linter.unusedSimpArgs false
set_option linter.unusedVariables false
namespace Go.Proofs.YtemdmdgigmhlbaaGreat
open Go.RowKit Go.Qc

/-- A row that came in: it is read, and its cap is known. -/
def RowC (w : World) (A : Option Addr) (n c : Nat) (l : List (List UInt8)) : Prop := RowR w A n l ∧ ((A = none ∧ n = 0 ∧ c = 0) ∨ ((∃ a, A = some a) ∧ n ≤ c ∧ c ≤ maxLen))
theorem RowC.below {w w' : World} {A : Option Addr} {n c : Nat} {l : List (List UInt8)} (h : RowC w A n c l) (hb : Below w.heap.size w w') : RowC w' A n c l := ⟨h.1.below hb, h.2⟩
/-- A row of one's own. -/
def IdOw (W : World) (base : Nat) (v : Value) (n : Nat) (l : List (List UInt8)) : Prop := W.ownsRow base 42 32 v n (idsV l)
theorem IdOw.made (W : World) : IdOw (W.alloc (.cells #[] 42)) W.heap.size (.slice (some ⟨W.heap.size, 0, none⟩) 0 0) 0 [] :=
  World.ownsRow_made W #[] 0 (Nat.le_refl _) (by decide) rfl
theorem IdOw.grown {W W' : World} {base n B : Nat} {v : Value} {l : List (List UInt8)} (h : IdOw W base v n l) (hg : W.grownBy W' v.ownBlock) (hB : B ≤ base) {w : World} (hb : Below B w W) (hs : B ≤ W.heap.size) : Below B w W' :=
  hb.grown hg hs (by intro k hk; have := (h.lt k hk).1; omega)
theorem IdOw.row {w : World} {base n : Nat} {v : Value} {l : List (List UInt8)} (h : IdOw w base v n l) (h32 : ∀ a ∈ l, a.length = 32) (hm : n ≤ 1000000) : ∃ A c, v = .slice A n c ∧ RowR w A n l := by
  obtain ⟨A, c, rfl, hr⟩ := RowAt.own h h32 hm
  exact ⟨A, c, rfl, hr.r⟩
end Go.Proofs.YtemdmdgigmhlbaaGreat
/- merkle: parting, short texts, Root, Whole, Sum, parted, partings -/
set_option linter.unusedSimpArgs false
set_option linter.unusedVariables false
namespace Go.Proofs.YtemdmdgigmhlbaaGreat
open Go.RowKit Go.Qc Go.Shelf
attribute [local go_sem] txt_size txt_append ib_fold
end Go.Proofs.YtemdmdgigmhlbaaGreat

namespace Go.Proofs.YtemdmdgigmhlbaaGreat
open Go.RowKit Go.Qc Go.Shelf
attribute [local go_sem] txt_size txt_append ib_fold
/-- An id of a row as a text. -/
theorem id_text (W : World) (g : Nat) (a : List UInt8) (ha : a.length = 32) (h : W.rangeAt g 0 (a.map u8v)) : (convert 56 9 (.slice (some ⟨g, 0, none⟩) 32 32)).run Tryz.prog W = .ok (.string (txt a)) W :=
  run_txt (P := Tryz.prog) W 56 9 5 _ 32 32 a Tryz.underlying56 Tryz.underlying5 Tryz.underlying9 ha.symm (rd_range h)
end Go.Proofs.YtemdmdgigmhlbaaGreat

namespace Go.Proofs.YtemdmdgigmhlbaaGreat
open Go.RowKit Go.Qc Go.Shelf
attribute [local go_sem] txt_size txt_append ib_fold
end Go.Proofs.YtemdmdgigmhlbaaGreat

namespace Go.Proofs.YtemdmdgigmhlbaaGreat
open Go.RowKit Go.Qc Go.Shelf
attribute [local go_sem] txt_size txt_append ib_fold
end Go.Proofs.YtemdmdgigmhlbaaGreat

namespace Go.Proofs.YtemdmdgigmhlbaaGreat
open Go.RowKit Go.Qc Go.Shelf
attribute [local go_sem] txt_size txt_append ib_fold
end Go.Proofs.YtemdmdgigmhlbaaGreat

namespace Go.Proofs.YtemdmdgigmhlbaaGreat
open Go.RowKit Go.Qc Go.Shelf
attribute [local go_sem] txt_size txt_append ib_fold
theorem wpList_build_byM {w : World} {ops : Array Oper} {rest : List Oper} {o : Oper} {a : Act} {Q : Exit → Act → World → Prop} (hgd : o.guard = none) (ty : TypeId) (parts : Array (Nat × Operand)) (ho : o.op = .build ty parts)
    (ps : Array (Nat × Value)) (v : Value) (hb : ∀ W, (Instr.build ty ps).run Tryz.prog W = .ok v W) (hp : (parts.map fun (i, x) => (i, a.eval x)) = ps)
    (h : wpList Tryz.prog ops Q rest (a.put o.dst v) w) : wpList Tryz.prog ops Q (o :: rest) a w := by
  refine wpList_plain hgd fun K' hK' => ?_
  have hr := hb w
  rw [← hp] at hr
  unfold Oper.wp
  simp only [execOp, ho]
  simp only [Sem.run_bind, hr, Result.andThen, Sem.run_pure]
  exact hK' _ _ h
end Go.Proofs.YtemdmdgigmhlbaaGreat

namespace Go.Proofs.YtemdmdgigmhlbaaGreat
open Go.RowKit Go.Qc Go.Shelf
attribute [local go_sem] txt_size txt_append ib_fold
end Go.Proofs.YtemdmdgigmhlbaaGreat

namespace Go.Proofs.YtemdmdgigmhlbaaGreat
open Go.RowKit Go.Qc Go.Shelf
attribute [local go_sem] txt_size txt_append ib_fold
end Go.Proofs.YtemdmdgigmhlbaaGreat

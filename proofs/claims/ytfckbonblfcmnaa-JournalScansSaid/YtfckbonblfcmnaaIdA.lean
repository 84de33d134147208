
/- id: order, digits, hexadecimal digits, parsing. -/
import Derived.Test.YtfckbonblfcmnaaTag3
import Derived.Lib.Bytealg
import Derived.Laws.Externs
import Derived.Laws.IdiomStrings
set_option linter.unusedSimpArgs false
set_option linter.unusedVariables false
namespace Go.Proofs.Ytfckbonblfcmnaa
open Go.RowKit Go.Qc
attribute [local go_sem] txt_size txt_append ib_fold

/-- The world behind two boxed ids. -/
def two (w : World) (a b : List UInt8) : World := (w.alloc (.cells (idVals a) 23)).alloc (.cells (idVals b) 23)
end Go.Proofs.Ytfckbonblfcmnaa

namespace Go.Proofs.Ytfckbonblfcmnaa
open Go.RowKit Go.Qc
attribute [local go_sem] txt_size txt_append ib_fold ib_inj

theorem cmp_refl : ∀ (a : List UInt8), Lib.compareBytes a a = 0
  | [] => rfl
  | x :: a => by rw [Lib.compareBytes, if_neg (UInt8.lt_irrefl x), if_neg (UInt8.lt_irrefl x)]; exact cmp_refl a
/-! ### digits -/
/-! ### an id's text -/
end Go.Proofs.Ytfckbonblfcmnaa

namespace Go.Proofs.Ytfckbonblfcmnaa
open Go.RowKit Go.Qc
attribute [local go_sem] txt_size txt_append ib_fold ib_i64

/-! ### a text's id -/
theorem run_index_txt (l : List UInt8) (n : Nat) (x : UInt8) (hx : l[n]? = some x) (z : Int) (hz : z = n) (w : World) : (Instr.index 9 (.string (txt l)) (.int .i64 z)).run Try.prog w = .ok (.int .u8 (ib x)) w := by
  subst hz
  have hn : n < l.length := (List.getElem?_eq_some_iff.1 hx).1
  have h1 : (0 : Int) ≤ (n : Int) ∧ (n : Int) < ((txt l).size : Nat) := by rw [txt_size]; omega
  have hg : (txt l)[n]? = some x := by
    rw [getElem?_pos (txt l) n (by rw [txt_size]; exact hn)]
    congr 1
    exact txt_get rfl hx _
  simp [Instr.index, asIntOf, run_underlying Try.underlying9, h1, hg]
  rfl
end Go.Proofs.Ytfckbonblfcmnaa

namespace Go.Proofs.Ytfckbonblfcmnaa
open Go.RowKit Go.Qc
attribute [local go_sem] txt_size txt_append ib_fold ib_i64 ib_shr ib_and1

/-! ### Parse of Hex is the id -/
/-! ### Bytes -/
/-! ### Bit -/
end Go.Proofs.Ytfckbonblfcmnaa

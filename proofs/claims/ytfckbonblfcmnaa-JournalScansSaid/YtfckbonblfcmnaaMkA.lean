
/- merkle: parting, short texts, Root, Whole, Sum, parted, partings -/
import Derived.Test.YtfckbonblfcmnaaGt2
import Derived.Test.YtfckbonblfcmnaaTag6
import Derived.Test.YtfckbonblfcmnaaIdL
set_option linter.unusedSimpArgs false
set_option linter.unusedVariables false
namespace Go.Proofs.Ytfckbonblfcmnaa
open Go.RowKit Go.Qc Go.Shelf
attribute [local go_sem] txt_size txt_append ib_fold
end Go.Proofs.Ytfckbonblfcmnaa

namespace Go.Proofs.Ytfckbonblfcmnaa
open Go.RowKit Go.Qc Go.Shelf
attribute [local go_sem] txt_size txt_append ib_fold
/-- An id of a row as a text. -/
theorem id_text (W : World) (g : Nat) (a : List UInt8) (ha : a.length = 32) (h : W.rangeAt g 0 (a.map u8v)) : (convert 51 9 (.slice (some ⟨g, 0, none⟩) 32 32)).run Try.prog W = .ok (.string (txt a)) W :=
  run_txt (P := Try.prog) W 51 9 5 _ 32 32 a Try.underlying51 Try.underlying5 Try.underlying9 ha.symm (rd_range h)
end Go.Proofs.Ytfckbonblfcmnaa

namespace Go.Proofs.Ytfckbonblfcmnaa
open Go.RowKit Go.Qc Go.Shelf
attribute [local go_sem] txt_size txt_append ib_fold
end Go.Proofs.Ytfckbonblfcmnaa

namespace Go.Proofs.Ytfckbonblfcmnaa
open Go.RowKit Go.Qc Go.Shelf
attribute [local go_sem] txt_size txt_append ib_fold
end Go.Proofs.Ytfckbonblfcmnaa

namespace Go.Proofs.Ytfckbonblfcmnaa
open Go.RowKit Go.Qc Go.Shelf
attribute [local go_sem] txt_size txt_append ib_fold
end Go.Proofs.Ytfckbonblfcmnaa

namespace Go.Proofs.Ytfckbonblfcmnaa
open Go.RowKit Go.Qc Go.Shelf
attribute [local go_sem] txt_size txt_append ib_fold
theorem wpList_build_byM {w : World} {ops : Array Oper} {rest : List Oper} {o : Oper} {a : Act} {Q : Exit → Act → World → Prop} (hgd : o.guard = none) (ty : TypeId) (parts : Array (Nat × Operand)) (ho : o.op = .build ty parts)
    (ps : Array (Nat × Value)) (v : Value) (hb : ∀ W, (Instr.build ty ps).run Try.prog W = .ok v W) (hp : (parts.map fun (i, x) => (i, a.eval x)) = ps)
    (h : wpList Try.prog ops Q rest (a.put o.dst v) w) : wpList Try.prog ops Q (o :: rest) a w := by
  refine wpList_plain hgd fun K' hK' => ?_
  have hr := hb w
  rw [← hp] at hr
  unfold Oper.wp
  simp only [execOp, ho]
  simp only [Sem.run_bind, hr, Result.andThen, Sem.run_pure]
  exact hK' _ _ h
end Go.Proofs.Ytfckbonblfcmnaa

namespace Go.Proofs.Ytfckbonblfcmnaa
open Go.RowKit Go.Qc Go.Shelf
attribute [local go_sem] txt_size txt_append ib_fold
end Go.Proofs.Ytfckbonblfcmnaa

namespace Go.Proofs.Ytfckbonblfcmnaa
open Go.RowKit Go.Qc Go.Shelf
attribute [local go_sem] txt_size txt_append ib_fold
end Go.Proofs.Ytfckbonblfcmnaa

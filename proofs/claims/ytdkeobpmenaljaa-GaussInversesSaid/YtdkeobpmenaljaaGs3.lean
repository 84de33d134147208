
/- gauss: the document's sums, differences, products, powers; the law's pairs; Divide, Turn. -/
import Derived.Test.YtdkeobpmenaljaaGs2
set_option linter.unusedSimpArgs false
set_option linter.unusedVariables false
namespace Go.Proofs.Ytdkeobpmenaljaa
open Go.RowKit Go.Qc

/-- A pair as the document has it. -/
def pz (x : Int × Int) : Value := .agg #[.int .i64 x.1, .int .i64 x.2]
theorem mixedZ : Try.prog.follows .mixedOrders = true := by kernel_rfl
theorem below_drewZ {B : Nat} {a w : World} (h : Below B a w) : Below B a w.drew := ⟨h.os, h.tape, h.output, h.size, h.block⟩
theorem blk_p1 (w : World) (o1 : Obj) (t : TypeId) (cs : Array Value) : Blk ((w.alloc o1).alloc (.cells cs t)) (w.heap.size + 1) t cs := by
  have h := Blk.new (w.alloc o1) t cs
  rwa [World.size_alloc] at h
theorem ret_pair {fn : Func} {p : Tmp} (h : fn.results = #[.cell p 78]) (tmps : Array Value) (w : World) (g : Nat) (x y : Value) (hp : tmps.getD p undef = .pointer (some ⟨g, 0, none⟩)) (hg : Blk w g 78 #[x, y]) :
    (results fn tmps).run Try.prog w = .ok (.agg #[x, y]) w := results_cell_row h tmps w g _ _ _ _ hp hg Try.underlying78 rfl (by kernel_rfl)
end Go.Proofs.Ytdkeobpmenaljaa


/- lamport: Publics and Recover, of the document. -/
import Derived.Test.YticpdepbgcagaaaGreatLam7
import Derived.Test.YticpdepbgcagaaaGreatTag6
namespace Go.Proofs.YticpdepbgcagaaaGreat
open Go.RowKit Go.Qc
attribute [local go_sem] txt_size

theorem range_lt8 {w : World} {g o : Nat} {l : List UInt8} (h : w.rangeAt g o (l.map u8v)) (hl : 0 < l.length) : g < w.heap.size := by
  cases l with
  | nil => simp at hl
  | cons b t => exact World.block_lt_of_cell? w _ (h 0 (u8v b) rfl)
end Go.Proofs.YticpdepbgcagaaaGreat

namespace Go.Proofs.YticpdepbgcagaaaGreat
open Go.RowKit Go.Qc
attribute [local go_sem] txt_size

end Go.Proofs.YticpdepbgcagaaaGreat


/- The document's Pair, and the program's. -/
import Derived.Test.YtkajfpincbkfhaaTag4
namespace Go.Proofs.Ytkajfpincbkfhaa
open Go.RowKit Go.Qc
attribute [local go_sem] txt_size

theorem rd_two (w : World) (s t : List UInt8) : Rd (w.alloc (.cells #[.string (txt s), .string (txt t)] 9)) (some ⟨w.heap.size, 0, none⟩) ([s, t].map strV) := Rd.blk (Blk.new _ _ _) (by
  intro j u h
  match j with
  | 0 => exact h
  | 1 => exact h
  | j + 2 => simp at h)
/-- What stands through the region: two ids, room for a third, and all that was there. -/
structure PairS (w : World) (a b : List UInt8) (w' : World) : Prop where
  hra : w'.rangeAt w.heap.size 0 (a.map u8v)
  hrb : w'.rangeAt (w.heap.size + 1) 0 (b.map u8v)
  hC : ∃ cs : Array Value, Blk w' (w.heap.size + 1 + 1) 24 cs ∧ cs.size = 32
  hB : Below w.heap.size w w'
theorem PairS.below {w : World} {a b : List UInt8} {W W' : World} (h : PairS w a b W) (hb : Below W.heap.size W W') : PairS w a b W' := ⟨h.hra.below hb, h.hrb.below hb, h.hC.elim fun cs hc => ⟨cs, hc.1.below hb, hc.2⟩, h.hB.trans (hb.mono h.hB.size)⟩
theorem PairS.put {w : World} {a b : List UInt8} {W W' : World} {cs : Array Value} (h : PairS w a b W) (hb : Blk W' (w.heap.size + 1 + 1) 24 cs) (hs : cs.size = 32) (hg : W.grownBy W' (some (w.heap.size + 1 + 1))) : PairS w a b W' :=
  ⟨range_gb h.hra hg (by omega), range_gb h.hrb hg (by omega), ⟨cs, hb, hs⟩, h.hB.grown hg h.hB.size (by intro i e; cases e; omega)⟩
theorem PairS.all {w W : World} {a b : List UInt8} (h : PairS w a b W) : (W.rangeAt w.heap.size 0 (a.map u8v) ∧ W.rangeAt (w.heap.size + 1) 0 (b.map u8v) ∧ PairS w a b W) := ⟨h.hra, h.hrb, h⟩
end Go.Proofs.Ytkajfpincbkfhaa

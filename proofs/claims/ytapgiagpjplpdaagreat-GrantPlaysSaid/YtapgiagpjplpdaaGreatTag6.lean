/- The document's Pair, and the program's. -/
import Derived.Test.YtapgiagpjplpdaaGreatId10
import Derived.Test.YtapgiagpjplpdaaGreatTag2
import Derived.Test.YtapgiagpjplpdaaGreatKit4
import Derived.Test.YtapgiagpjplpdaaGreatIdK
namespace Go.Proofs.YtapgiagpjplpdaaGreat
open Go.RowKit Go.Qc
attribute [local go_sem] txt_size

/-- What stands through the region: two ids, room for a third, and all that was there. -/
structure PairS (w : World) (a b : List UInt8) (w' : World) : Prop where
  hra : w'.rangeAt w.heap.size 0 (a.map u8v)
  hrb : w'.rangeAt (w.heap.size + 1) 0 (b.map u8v)
  hC : ∃ cs : Array Value, Blk w' (w.heap.size + 1 + 1) 23 cs ∧ cs.size = 32
  hB : Below w.heap.size w w'
theorem PairS.below {w : World} {a b : List UInt8} {W W' : World} (h : PairS w a b W) (hb : Below W.heap.size W W') : PairS w a b W' := ⟨h.hra.below hb, h.hrb.below hb, h.hC.elim fun cs hc => ⟨cs, hc.1.below hb, hc.2⟩, h.hB.trans (hb.mono h.hB.size)⟩
theorem PairS.put {w : World} {a b : List UInt8} {W W' : World} {cs : Array Value} (h : PairS w a b W) (hb : Blk W' (w.heap.size + 1 + 1) 23 cs) (hs : cs.size = 32) (hg : W.grownBy W' (some (w.heap.size + 1 + 1))) : PairS w a b W' :=
  ⟨range_gb h.hra hg (by omega), range_gb h.hrb hg (by omega), ⟨cs, hb, hs⟩, h.hB.grown hg h.hB.size (by intro i e; cases e; omega)⟩
theorem PairS.all {w W : World} {a b : List UInt8} (h : PairS w a b W) : (W.rangeAt w.heap.size 0 (a.map u8v) ∧ W.rangeAt (w.heap.size + 1) 0 (b.map u8v) ∧ PairS w a b W) := ⟨h.hra, h.hrb, h⟩
end Go.Proofs.YtapgiagpjplpdaaGreat
/- The program's Pair. -/
namespace Go.Proofs.YtapgiagpjplpdaaGreat
open Go.RowKit Go.Qc
attribute [local go_sem] txt_size

theorem PairS.far {w : World} {a b : List UInt8} {W W' : World} {q : Nat} (h : PairS w a b W) (hg : W.grownBy W' (some q)) (hq : w.heap.size + 1 + 1 < q) : PairS w a b W' :=
  ⟨range_gb h.hra hg (by omega), range_gb h.hrb hg (by omega), h.hC.elim fun cs hc => ⟨cs, (hg.block _ hc.1.lt (fun e => by cases e; omega)).trans hc.1, hc.2⟩, h.hB.grown hg h.hB.size (by intro i e; cases e; omega)⟩
end Go.Proofs.YtapgiagpjplpdaaGreat

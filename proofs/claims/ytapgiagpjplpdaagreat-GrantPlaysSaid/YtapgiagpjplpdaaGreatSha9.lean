
/- The contract of the document's block. -/
import Derived.Test.YtapgiagpjplpdaaGreatSha7
import Derived.Test.YtapgiagpjplpdaaGreatKit
import Derived.Deep.RegionLaw
import Derived.Deep.RegionHeld3
import Derived.Deep.AppendLies
namespace Go.Proofs.YtapgiagpjplpdaaGreat
open Go.RowKit Go.Qc
attribute [local go_sem] iv_add iv_and iv_or iv_xor iv_not iv_bnot iv_shl iv_shr iv_inj iv_div3 iv_div10

def up32 (x : BitVec 32) : BitVec 64 := BitVec.ofNat 64 x.toNat
theorem up32_lo (x : BitVec 32) : IntKind.u32.wrap (lv (up32 x)) = iv x := by
  have := x.isLt
  unfold lv iv up32; rw [IntKind.wrap_u32', BitVec.toNat_ofNat]; omega
attribute [local go_sem] up32_lo

end Go.Proofs.YtapgiagpjplpdaaGreat


/- The contract of mix: a block taken in. -/
import Derived.Test.YtkbokffonnjjiaaShaM
import Derived.StillTailTactics
namespace Go.Proofs.Ytkbokffonnjjiaa
open Go.RowKit Go.Qc
attribute [local go_sem] iv_add iv_and iv_or iv_xor iv_not iv_bnot iv_shl iv_shr iv_inj iv_div3 iv_div10

/-- The eight words as the machine has them. -/
def S8.vals (s : S8) : Array Value := #[.int .u32 (iv s.a), .int .u32 (iv s.b), .int .u32 (iv s.c), .int .u32 (iv s.d), .int .u32 (iv s.e), .int .u32 (iv s.f), .int .u32 (iv s.g), .int .u32 (iv s.h)]
theorem S8.vals_one (s : S8) : s.vals.all (·.oneCell') = true := by simp [S8.vals, Value.oneCell']
end Go.Proofs.Ytkbokffonnjjiaa

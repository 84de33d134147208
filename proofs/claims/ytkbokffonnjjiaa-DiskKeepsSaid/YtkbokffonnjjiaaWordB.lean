
/- The document's turning, bit by bit: its contracts, and that it is the turning of package word. -/
import Derived.Test.YtkbokffonnjjiaaWord
namespace Go.Proofs.Ytkbokffonnjjiaa
open Go.RowKit Go.Qc
attribute [local go_sem] iv_add iv_and iv_or iv_xor iv_shl iv_shr iv_inj iv_i64 iv_mod2

theorem toWord (x : BitVec 32) : IntKind.u32.wrap (iv x) = iv x := by
  have := iv_lo x; have := iv_hi x; rw [IntKind.wrap_u32']; omega
theorem two_iv (x : BitVec 32) : IntKind.u32.wrap (2 * iv x) = iv (2#32 * x) := by
  unfold iv; rw [IntKind.wrap_u32', BitVec.toNat_mul]
  show _ = (((2 * x.toNat) % 2 ^ 32 : Nat) : Int)
  omega
attribute [local go_sem] toWord two_iv

/-! ### the chapter's examples -/
end Go.Proofs.Ytkbokffonnjjiaa

/- The plain mathematics of layer 1, and the contracts of the calls of package word and of the document's answers for it. -/
import Derived.Test.YtodfaakodgedbaaRows
import Derived.Test.YtodfaakodgedbaaKit
namespace Go.Proofs.Ytodfaakodgedbaa
open Go.RowKit Go.Qc
attribute [local go_sem] iv_add iv_and iv_or iv_xor iv_shl iv_shr iv_inj iv_i64 iv_mod2

/-! ### turning -/
def rotl (x : BitVec 32) (s : Nat) : BitVec 32 := x <<< s ||| x >>> (32 - s)

end Go.Proofs.Ytodfaakodgedbaa
/- The document's turning, bit by bit: its contracts, and that it is the turning of package word. -/
namespace Go.Proofs.Ytodfaakodgedbaa
open Go.RowKit Go.Qc
attribute [local go_sem] iv_add iv_and iv_or iv_xor iv_shl iv_shr iv_inj iv_i64 iv_mod2

theorem toWord (x : BitVec 32) : IntKind.u32.wrap (iv x) = iv x := by
  have := iv_lo x; have := iv_hi x; rw [IntKind.wrap_u32']; omega
theorem two_iv (x : BitVec 32) : IntKind.u32.wrap (2 * iv x) = iv (2#32 * x) := by
  unfold iv; rw [IntKind.wrap_u32', BitVec.toNat_mul]
  show _ = (((2 * x.toNat) % 2 ^ 32 : Nat) : Int)
  omega
attribute [local go_sem] toWord two_iv

/-! ### the chapter's examples -/
end Go.Proofs.Ytodfaakodgedbaa
/- Words as bytes: the contracts of package word's calls and of the document's answers. -/
namespace Go.Proofs.Ytodfaakodgedbaa
open Go.RowKit Go.Qc
attribute [local go_sem] iv_add iv_and iv_or iv_xor iv_shl iv_shr iv_inj iv_i64 iv_mod2 ib_fold ib_lo_of ib_lo_mod iv_up_of iv_div8 iv_div16 iv_div24 iv_tmod256 ib_u8

theorem infoByte : (Try.prog.info? 5).map (fun i => (i.zero, i.size, i.bytes)) = some (some (.int .u8 0), 1, 1) := by kernel_rfl
end Go.Proofs.Ytodfaakodgedbaa
/- Bytes as words: the contract of package word's Words. -/
namespace Go.Proofs.Ytodfaakodgedbaa
open Go.RowKit Go.Qc
attribute [local go_sem] iv_add iv_and iv_or iv_xor iv_shl iv_shr iv_inj iv_i64 iv_mod2 ib_fold ib_lo_of ib_lo_mod iv_up_of iv_div8 iv_div16 iv_div24 iv_tmod256 ib_u8

attribute [local go_sem] iv_shl8
def mk4 (b0 b1 b2 b3 : UInt8) : BitVec 32 := BitVec.ofNat 32 (b0.toNat * 16777216 + b1.toNat * 65536 + b2.toNat * 256 + b3.toNat)
end Go.Proofs.Ytodfaakodgedbaa


/- Bytes as words: the contract of package word's Words. -/
import Derived.Test.YtkbokffonnjjiaaBytes
namespace Go.Proofs.Ytkbokffonnjjiaa
open Go.RowKit Go.Qc
attribute [local go_sem] iv_add iv_and iv_or iv_xor iv_shl iv_shr iv_inj iv_i64 iv_mod2 ib_fold ib_lo_of ib_lo_mod iv_up_of iv_div8 iv_div16 iv_div24 iv_tmod256 ib_u8

attribute [local go_sem] iv_shl8
def mk4 (b0 b1 b2 b3 : UInt8) : BitVec 32 := BitVec.ofNat 32 (b0.toNat * 16777216 + b1.toNat * 65536 + b2.toNat * 256 + b3.toNat)
end Go.Proofs.Ytkbokffonnjjiaa


/- Words as bytes: the contracts of package word's calls and of the document's answers. -/
import Derived.Test.YtkbokffonnjjiaaWordB
namespace Go.Proofs.Ytkbokffonnjjiaa
open Go.RowKit Go.Qc
attribute [local go_sem] iv_add iv_and iv_or iv_xor iv_shl iv_shr iv_inj iv_i64 iv_mod2 ib_fold ib_lo_of ib_lo_mod iv_up_of iv_div8 iv_div16 iv_div24 iv_tmod256 ib_u8

theorem infoByte : (Try.prog.info? 5).map (fun i => (i.zero, i.size, i.bytes)) = some (some (.int .u8 0), 1, 1) := by kernel_rfl
end Go.Proofs.Ytkbokffonnjjiaa

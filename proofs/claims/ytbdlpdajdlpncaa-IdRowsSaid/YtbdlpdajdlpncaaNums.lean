
/- Numbers as bytes, bits of texts: the contracts of package word's calls and of the document's answers. -/
import Derived.Test.YtbdlpdajdlpncaaWords
namespace Go.Proofs.Ytbdlpdajdlpncaa
open Go.RowKit Go.Qc
attribute [local go_sem] ib_fold lv_add lv_mul256 lv_or lv_shr lv_div256 lv_shl8 lv_tdiv256 lv_mod256 lv_tmod256 lv_u8 lv_up lv_w64 lv_inj txt_append ib_u8 ib_shr ib_div2 ib_tdiv2 ib_mod2 ib_tmod2 ib_and1 ib_i64 ib_w64 ib_inj

/-! ### Number -/
/-! ### the document's Number -/
end Go.Proofs.Ytbdlpdajdlpncaa

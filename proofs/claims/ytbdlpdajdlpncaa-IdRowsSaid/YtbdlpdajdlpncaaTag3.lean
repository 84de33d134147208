
/- tag: two ids, rows of ids; the bytes of ids. -/
import Derived.Test.YtbdlpdajdlpncaaTagSums
import Derived.Test.YtbdlpdajdlpncaaIdK
namespace Go.Proofs.Ytbdlpdajdlpncaa
open Go.RowKit Go.Qc
attribute [local go_sem] txt_size txt_append ib_fold

/-! ### strings.Builder.Write of bytes that lie anywhere -/
end Go.Proofs.Ytbdlpdajdlpncaa

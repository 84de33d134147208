
/- The contracts of the document's table and padding. -/
import Derived.Test.YtfbglhlejpmhbaaSha7
namespace Go.Proofs.Ytfbglhlejpmhbaa
open Go.RowKit Go.Qc

attribute [local go_sem] txt_size txt_append

theorem mk_txt1 (b : UInt8) : (⟨#[b]⟩ : ByteArray) = txt [b] := rfl

end Go.Proofs.Ytfbglhlejpmhbaa

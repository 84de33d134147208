
/- The contracts of the document's table and padding. -/
import Derived.Test.YthpdkdalfjahcaaSha7
namespace Go.Proofs.Ythpdkdalfjahcaa
open Go.RowKit Go.Qc

attribute [local go_sem] txt_size txt_append

theorem mk_txt1 (b : UInt8) : (⟨#[b]⟩ : ByteArray) = txt [b] := rfl

end Go.Proofs.Ythpdkdalfjahcaa

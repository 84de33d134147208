
/- hunk: the body of the law of Apply, its calls given. -/
import Derived.Test.YtmfngampccpkhaaHk9
set_option linter.unusedSimpArgs false
set_option linter.unusedVariables false
namespace Go.Proofs.Ytmfngampccpkhaa
open Go.RowKit Go.Qc Go.Shelf
attribute [local go_sem] txt_size txt_append ib_fold txt_toL

theorem Hk.c0l {W : World} {g : Nat} {t : TypeId} {at' : Int} {u v : Value} (h : Hk W g t at' u v) (p : LtW W) : p.w.cell? ⟨g, 0, none⟩ = some (.int .i64 at') := (h.below p.h).c0
theorem Hk.c1l {W : World} {g : Nat} {t : TypeId} {at' : Int} {u v : Value} (h : Hk W g t at' u v) (p : LtW W) : p.w.cell? ⟨g, 1, none⟩ = some u := (h.below p.h).c1
theorem Hk.c2l {W : World} {g : Nat} {t : TypeId} {at' : Int} {u v : Value} (h : Hk W g t at' u v) (p : LtW W) : p.w.cell? ⟨g, 2, none⟩ = some v := (h.below p.h).c2

end Go.Proofs.Ytmfngampccpkhaa

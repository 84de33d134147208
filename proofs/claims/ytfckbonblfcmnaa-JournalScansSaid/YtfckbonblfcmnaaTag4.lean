
/- The document's All of a row of ids; the program's Chain. -/
import Derived.Test.YtfckbonblfcmnaaIdL
import Derived.Test.YtfckbonblfcmnaaTag3
namespace Go.Proofs.Ytfckbonblfcmnaa
open Go.RowKit Go.Qc
attribute [local go_sem] txt_size txt_append

theorem range_add {w : World} {g : Nat} {xs : List Value} (h : w.rangeAt g 0 xs) : ∀ j u, xs[j]? = some u → w.cell? ((⟨g, 0, none⟩ : Addr).add j) = some u := fun j u hj => by
  rw [Addr.add_lit]
  exact h j u hj
end Go.Proofs.Ytfckbonblfcmnaa

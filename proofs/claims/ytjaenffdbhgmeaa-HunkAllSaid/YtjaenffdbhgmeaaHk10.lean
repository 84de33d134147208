
/- hunk: the body of the law of Apply, its calls given. -/
import Derived.Test.YtjaenffdbhgmeaaHk9
set_option linter.unusedSimpArgs false
set_option linter.unusedVariables false
namespace Go.Proofs.Ytjaenffdbhgmeaa
open Go.RowKit Go.Qc Go.Shelf
attribute [local go_sem] txt_size txt_append ib_fold txt_toL

theorem same_yes (W : World) (A A2 : Option Addr) (N c c2 : Nat) (r : List (List UInt8)) (hN : r.length = N) (bN : N ≤ 10000) (h1 : Rd W A (r.map strV)) (h2 : Rd W A2 (r.map strV)) :
    Calls Try.prog 18 #[.slice A N c, .slice A2 N c2] W fun e w' => e = .returned (.bool true) ∧ Below W.heap.size W w' := by
  have := same_any A A2 N N c c2 r r hN hN (by omega) (by omega) W h1 h2
  rw [decide_eq_true rfl] at this
  exact this
theorem Hk.c0l {W : World} {g : Nat} {t : TypeId} {at' : Int} {u v : Value} (h : Hk W g t at' u v) (p : LtW W) : p.w.cell? ⟨g, 0, none⟩ = some (.int .i64 at') := (h.below p.h).c0
theorem Hk.c1l {W : World} {g : Nat} {t : TypeId} {at' : Int} {u v : Value} (h : Hk W g t at' u v) (p : LtW W) : p.w.cell? ⟨g, 1, none⟩ = some u := (h.below p.h).c1
theorem Hk.c2l {W : World} {g : Nat} {t : TypeId} {at' : Int} {u v : Value} (h : Hk W g t at' u v) (p : LtW W) : p.w.cell? ⟨g, 2, none⟩ = some v := (h.below p.h).c2

end Go.Proofs.Ytjaenffdbhgmeaa

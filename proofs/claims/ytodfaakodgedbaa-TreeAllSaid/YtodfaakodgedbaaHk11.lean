
/- hunk: two hunks: apart or not, one or not; a hunk's copy. -/
import Derived.Test.YtodfaakodgedbaaHunkApplies
set_option linter.unusedSimpArgs false
set_option linter.unusedVariables false
namespace Go.Proofs.Ytodfaakodgedbaa
open Go.RowKit Go.Qc Go.Shelf
attribute [local go_sem] txt_size txt_append ib_fold txt_toL

/-- Two hunks that came in, each in a block of its own. -/
structure Hk2 (w W : World) (T : TypeId) (s : Int) (u1 u2 : Value) (t : Int) (u3 u4 : Value) : Prop where
  a : Hk W w.heap.size T s u1 u2
  b : Hk W (w.heap.size + 1) T t u3 u4
  x : Below w.heap.size w W
theorem Hk2.new (w : World) (T : TypeId) (s : Int) (u1 u2 : Value) (t : Int) (u3 u4 : Value) : Hk2 w ((w.alloc (.cells #[.int .i64 s, u1, u2] T)).alloc (.cells #[.int .i64 t, u3, u4] T)) T s u1 u2 t u3 u4 := by
  have h1 := (Hk.new w T s u1 u2).below ((Below.refl _ (w.alloc (.cells #[.int .i64 s, u1, u2] T))).alloc (Nat.le_refl _) (.cells #[.int .i64 t, u3, u4] T))
  have h2 := Hk.new (w.alloc (.cells #[.int .i64 s, u1, u2] T)) T t u3 u4
  rw [show (w.alloc (.cells #[.int .i64 s, u1, u2] T)).heap.size = w.heap.size + 1 by simp] at h2
  exact ⟨h1, h2, ((Below.refl _ w).alloc (Nat.le_refl _) _).alloc (by simp) _⟩
theorem Hk2.below {w W W' : World} {T : TypeId} {s : Int} {u1 u2 : Value} {t : Int} {u3 u4 : Value} (h : Hk2 w W T s u1 u2 t u3 u4) (hb : Below W.heap.size W W') : Hk2 w W' T s u1 u2 t u3 u4 := ⟨h.a.below hb, h.b.below hb, h.x.trans (hb.mono h.x.size)⟩
end Go.Proofs.Ytodfaakodgedbaa

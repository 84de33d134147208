
/- hunk: two hunks in the other order. -/
import Derived.Test.YtodfaakodgedbaaHk11
set_option linter.unusedSimpArgs false
set_option linter.unusedVariables false
namespace Go.Proofs.Ytodfaakodgedbaa
open Go.RowKit Go.Qc Go.Shelf
attribute [local go_sem] txt_size txt_append ib_fold txt_toL

theorem Hk2.gb {w W W' : World} {T : TypeId} {s : Int} {u1 u2 : Value} {t : Int} {u3 u4 : Value} (h : Hk2 w W T s u1 u2 t u3 u4) {g : Nat} (hg : W.grownBy W' (some g)) (hn : w.heap.size + 2 ≤ g) : Hk2 w W' T s u1 u2 t u3 u4 :=
  ⟨⟨blk_gb h.a.b hg (by omega)⟩, ⟨blk_gb h.b.b hg (by omega)⟩, h.x.trans (below_of_gb hg (by omega) h.x.size)⟩
/-- The two hunks that came in, and the two results. -/
structure Sw (w W : World) (T : TypeId) (s : Int) (u1 u2 : Value) (t : Int) (u3 u4 : Value) (x4 x5 : Array Value) : Prop where
  k : Hk2 w W T s u1 u2 t u3 u4
  r4 : Blk W (w.heap.size + 1 + 1) T x4
  r5 : Blk W (w.heap.size + 1 + 1 + 1) T x5
theorem Sw.below {w W W' : World} {T : TypeId} {s : Int} {u1 u2 : Value} {t : Int} {u3 u4 : Value} {x4 x5 : Array Value} (h : Sw w W T s u1 u2 t u3 u4 x4 x5) (hb : Below W.heap.size W W') : Sw w W' T s u1 u2 t u3 u4 x4 x5 := ⟨h.k.below hb, h.r4.below hb, h.r5.below hb⟩
theorem Sw.gb {w W W' : World} {T : TypeId} {s : Int} {u1 u2 : Value} {t : Int} {u3 u4 : Value} {x4 x5 : Array Value} (h : Sw w W T s u1 u2 t u3 u4 x4 x5) {g : Nat} (hg : W.grownBy W' (some g)) (hn : w.heap.size + 4 ≤ g) : Sw w W' T s u1 u2 t u3 u4 x4 x5 := ⟨h.k.gb hg (by omega), blk_gb h.r4 hg (by omega), blk_gb h.r5 hg (by omega)⟩
theorem Sw.new (w : World) (T : TypeId) (s : Int) (u1 u2 : Value) (t : Int) (u3 u4 : Value) (x4 x5 : Array Value) : Sw w ((((w.alloc (.cells #[.int .i64 s, u1, u2] T)).alloc (.cells #[.int .i64 t, u3, u4] T)).alloc (.cells x4 T)).alloc (.cells x5 T)) T s u1 u2 t u3 u4 x4 x5 := by
  have h := Hk2.new w T s u1 u2 t u3 u4
  have h4 := Blk.new ((w.alloc (.cells #[.int .i64 s, u1, u2] T)).alloc (.cells #[.int .i64 t, u3, u4] T)) T x4
  have h5 := Blk.new (((w.alloc (.cells #[.int .i64 s, u1, u2] T)).alloc (.cells #[.int .i64 t, u3, u4] T)).alloc (.cells x4 T)) T x5
  have e4 : ((w.alloc (.cells #[.int .i64 s, u1, u2] T)).alloc (.cells #[.int .i64 t, u3, u4] T)).heap.size = w.heap.size + 1 + 1 := by simp
  have e5 : (((w.alloc (.cells #[.int .i64 s, u1, u2] T)).alloc (.cells #[.int .i64 t, u3, u4] T)).alloc (.cells x4 T)).heap.size = w.heap.size + 1 + 1 + 1 := by simp
  rw [e4] at h4
  rw [e5] at h5
  exact ⟨(h.below ((Below.refl _ _).alloc (Nat.le_refl _) _)).below ((Below.refl _ _).alloc (Nat.le_refl _) _), h4.alloc _, h5⟩
/-- The two copies, each in a block of its own. -/
structure SwR (w W : World) (T : TypeId) (s : Int) (u1 u2 : Value) (t : Int) (u3 u4 : Value) (x4 x5 : Array Value) (g7 g8 : Nat) (x7 x8 : Array Value) : Prop where
  sw : Sw w W T s u1 u2 t u3 u4 x4 x5
  z7 : Blk W g7 T x7
  z8 : Blk W g8 T x8
  n7 : w.heap.size + 4 ≤ g7
  n8 : w.heap.size + 4 ≤ g8
  ne : g8 ≠ g7
theorem SwR.below {w W W' : World} {T : TypeId} {s : Int} {u1 u2 : Value} {t : Int} {u3 u4 : Value} {x4 x5 : Array Value} {g7 g8 : Nat} {x7 x8 : Array Value} (h : SwR w W T s u1 u2 t u3 u4 x4 x5 g7 g8 x7 x8) (hb : Below W.heap.size W W') : SwR w W' T s u1 u2 t u3 u4 x4 x5 g7 g8 x7 x8 := ⟨h.sw.below hb, h.z7.below hb, h.z8.below hb, h.n7, h.n8, h.ne⟩

end Go.Proofs.Ytodfaakodgedbaa

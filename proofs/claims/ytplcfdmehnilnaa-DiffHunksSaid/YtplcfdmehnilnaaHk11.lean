
/- hunk: two hunks: apart or not, one or not; a hunk's copy. -/
import Derived.Test.YtplcfdmehnilnaaHunkApplies
set_option linter.unusedSimpArgs false
set_option linter.unusedVariables false
namespace Go.Proofs.Ytplcfdmehnilnaa
open Go.RowKit Go.Qc Go.Shelf
attribute [local go_sem] txt_size txt_append ib_fold txt_toL

/-- Two hunks that came in, each in a block of its own. -/
structure Hk2 (w W : World) (T : TypeId) (s : Int) (u1 u2 : Value) (t : Int) (u3 u4 : Value) : Prop where
  a : Hk W w.heap.size T s u1 u2
  b : Hk W (w.heap.size + 1) T t u3 u4
  x : Below w.heap.size w W
theorem Hk2.new (w : World) (T : TypeId) (s : Int) (u1 u2 : Value) (t : Int) (u3 u4 : Value) : Hk2 w ((w.alloc (.cells #[.int .i64 s, u1, u2] T)).alloc (.cells #[.int .i64 t, u3, u4] T)) T s u1 u2 t u3 u4 := by
  have h1 := (Hk.new w T s u1 u2).below ((Below.refl _ (w.alloc (.cells #[.int .i64 s, u1, u2] T))).alloc (Nat.le_refl _) (.cells #[.int .i64 t, u3, u4] T))
  have h2 := Hk.new (w.alloc (.cells #[.int .i64 s, u1, u2] T)) T t u3 u4
  rw [show (w.alloc (.cells #[.int .i64 s, u1, u2] T)).heap.size = w.heap.size + 1 by simp] at h2
  exact ⟨h1, h2, ((Below.refl _ w).alloc (Nat.le_refl _) _).alloc (by simp) _⟩
theorem Hk2.below {w W W' : World} {T : TypeId} {s : Int} {u1 u2 : Value} {t : Int} {u3 u4 : Value} (h : Hk2 w W T s u1 u2 t u3 u4) (hb : Below W.heap.size W W') : Hk2 w W' T s u1 u2 t u3 u4 := ⟨h.a.below hb, h.b.below hb, h.x.trans (hb.mono h.x.size)⟩
set_option maxRecDepth 100000 in
set_option maxHeartbeats 8000000 in
theorem hsame_gen (s : Int) (A : Option Addr) (n c : Nat) (B : Option Addr) (m d : Nat) (t : Int) (C : Option Addr) (p f : Nat) (D : Option Addr) (q g : Nat) (b1 b2 : Bool) (w : World)
    (c1 : ∀ W, Below w.heap.size w W → Calls Try.prog 44 #[.slice A n c, .slice C p f] W fun e w' => e = .returned (.bool b1) ∧ Below W.heap.size W w')
    (c3 : ∀ W, Below w.heap.size w W → Calls Try.prog 44 #[.slice B m d, .slice D q g] W fun e w' => e = .returned (.bool b2) ∧ Below W.heap.size W w') :
    Calls Try.prog 27 #[.agg #[.int .i64 s, .slice A n c, .slice B m d], .agg #[.int .i64 t, .slice C p f, .slice D q g]] w fun e w' => e = .returned (.bool (decide (s = t) && (b1 && b2))) ∧ Below w.heap.size w w' := by
  have hh := Hk2.new w 38 s (.slice A n c) (.slice B m d) t (.slice C p f) (.slice D q g)
  have c0 := hh.a.c0
  have x1 := hh.a.c1
  have c2 := hh.a.c2
  have d0 := hh.b.c0
  have d1 := hh.b.c1
  have d2 := hh.b.c2
  by_cases h1 : s = t
  · rw [decide_eq_true h1, Bool.true_and]
    subst h1
    cases b1 with
    | false =>
      rw [Bool.false_and]
      go_enter Try.func27, Try.ntmps27
      go_wp2_with (first | (go_at_call 44; (with_reducible refine (c1 _ hh.x).mono ?_); rintro e1 w1 ⟨rfl, hb⟩; replace hh := hh.below hb; clear c0 x1 c2 d0 d1 d2; have c0 := hh.a.c0; have x1 := hh.a.c1; have c2 := hh.a.c2; have d0 := hh.b.c0; have d1 := hh.b.c1; have d2 := hh.b.c2; clear hb) | (go_at_call 44; (with_reducible refine (c3 _ hh.x).mono ?_); rintro e1 w1 ⟨rfl, hb⟩; replace hh := hh.below hb; clear c0 x1 c2 d0 d1 d2; have c0 := hh.a.c0; have x1 := hh.a.c1; have c2 := hh.a.c2; have d0 := hh.b.c0; have d1 := hh.b.c1; have d2 := hh.b.c2; clear hb))
      go_ret
      exact ⟨rfl, hh.x⟩
    | true =>
      rw [Bool.true_and]
      go_enter Try.func27, Try.ntmps27
      go_wp2_with (first | (go_at_call 44; (with_reducible refine (c1 _ hh.x).mono ?_); rintro e1 w1 ⟨rfl, hb⟩; replace hh := hh.below hb; clear c0 x1 c2 d0 d1 d2; have c0 := hh.a.c0; have x1 := hh.a.c1; have c2 := hh.a.c2; have d0 := hh.b.c0; have d1 := hh.b.c1; have d2 := hh.b.c2; clear hb) | (go_at_call 44; (with_reducible refine (c3 _ hh.x).mono ?_); rintro e1 w1 ⟨rfl, hb⟩; replace hh := hh.below hb; clear c0 x1 c2 d0 d1 d2; have c0 := hh.a.c0; have x1 := hh.a.c1; have c2 := hh.a.c2; have d0 := hh.b.c0; have d1 := hh.b.c1; have d2 := hh.b.c2; clear hb))
      go_ret
      exact ⟨rfl, hh.x⟩
  · rw [decide_eq_false h1, Bool.false_and]
    have h2 : (s == t) = false := by simp [h1]
    go_enter Try.func27, Try.ntmps27
    go_wp2_with (first | (go_at_call 44; (with_reducible refine (c1 _ hh.x).mono ?_); rintro e1 w1 ⟨rfl, hb⟩; replace hh := hh.below hb; clear c0 x1 c2 d0 d1 d2; have c0 := hh.a.c0; have x1 := hh.a.c1; have c2 := hh.a.c2; have d0 := hh.b.c0; have d1 := hh.b.c1; have d2 := hh.b.c2; clear hb) | (go_at_call 44; (with_reducible refine (c3 _ hh.x).mono ?_); rintro e1 w1 ⟨rfl, hb⟩; replace hh := hh.below hb; clear c0 x1 c2 d0 d1 d2; have c0 := hh.a.c0; have x1 := hh.a.c1; have c2 := hh.a.c2; have d0 := hh.b.c0; have d1 := hh.b.c1; have d2 := hh.b.c2; clear hb))
    go_ret
    exact ⟨rfl, hh.x⟩

set_option maxRecDepth 100000 in
set_option maxHeartbeats 8000000 in
theorem rsame_gen (s : Int) (A : Option Addr) (n c : Nat) (B : Option Addr) (m d : Nat) (t : Int) (C : Option Addr) (p f : Nat) (D : Option Addr) (q g : Nat) (b1 b2 : Bool) (w : World)
    (c1 : ∀ W, Below w.heap.size w W → Calls Try.prog 15 #[.slice A n c, .slice C p f] W fun e w' => e = .returned (.bool b1) ∧ Below W.heap.size W w')
    (c3 : ∀ W, Below w.heap.size w W → Calls Try.prog 15 #[.slice B m d, .slice D q g] W fun e w' => e = .returned (.bool b2) ∧ Below W.heap.size W w') :
    Calls Try.prog 13 #[.agg #[.int .i64 s, .slice A n c, .slice B m d], .agg #[.int .i64 t, .slice C p f, .slice D q g]] w fun e w' => e = .returned (.bool (decide (s = t) && (b1 && b2))) ∧ Below w.heap.size w w' := by
  have hh := Hk2.new w 40 s (.slice A n c) (.slice B m d) t (.slice C p f) (.slice D q g)
  have c0 := hh.a.c0
  have x1 := hh.a.c1
  have c2 := hh.a.c2
  have d0 := hh.b.c0
  have d1 := hh.b.c1
  have d2 := hh.b.c2
  by_cases h1 : s = t
  · rw [decide_eq_true h1, Bool.true_and]
    subst h1
    cases b1 with
    | false =>
      rw [Bool.false_and]
      go_enter Try.func13, Try.ntmps13
      go_wp2_with (first | (go_at_call 15; (with_reducible refine (c1 _ hh.x).mono ?_); rintro e1 w1 ⟨rfl, hb⟩; replace hh := hh.below hb; clear c0 x1 c2 d0 d1 d2; have c0 := hh.a.c0; have x1 := hh.a.c1; have c2 := hh.a.c2; have d0 := hh.b.c0; have d1 := hh.b.c1; have d2 := hh.b.c2; clear hb) | (go_at_call 15; (with_reducible refine (c3 _ hh.x).mono ?_); rintro e1 w1 ⟨rfl, hb⟩; replace hh := hh.below hb; clear c0 x1 c2 d0 d1 d2; have c0 := hh.a.c0; have x1 := hh.a.c1; have c2 := hh.a.c2; have d0 := hh.b.c0; have d1 := hh.b.c1; have d2 := hh.b.c2; clear hb))
      go_ret
      exact ⟨rfl, hh.x⟩
    | true =>
      rw [Bool.true_and]
      go_enter Try.func13, Try.ntmps13
      go_wp2_with (first | (go_at_call 15; (with_reducible refine (c1 _ hh.x).mono ?_); rintro e1 w1 ⟨rfl, hb⟩; replace hh := hh.below hb; clear c0 x1 c2 d0 d1 d2; have c0 := hh.a.c0; have x1 := hh.a.c1; have c2 := hh.a.c2; have d0 := hh.b.c0; have d1 := hh.b.c1; have d2 := hh.b.c2; clear hb) | (go_at_call 15; (with_reducible refine (c3 _ hh.x).mono ?_); rintro e1 w1 ⟨rfl, hb⟩; replace hh := hh.below hb; clear c0 x1 c2 d0 d1 d2; have c0 := hh.a.c0; have x1 := hh.a.c1; have c2 := hh.a.c2; have d0 := hh.b.c0; have d1 := hh.b.c1; have d2 := hh.b.c2; clear hb))
      go_ret
      exact ⟨rfl, hh.x⟩
  · rw [decide_eq_false h1, Bool.false_and]
    have h2 : (s == t) = false := by simp [h1]
    go_enter Try.func13, Try.ntmps13
    go_wp2_with (first | (go_at_call 15; (with_reducible refine (c1 _ hh.x).mono ?_); rintro e1 w1 ⟨rfl, hb⟩; replace hh := hh.below hb; clear c0 x1 c2 d0 d1 d2; have c0 := hh.a.c0; have x1 := hh.a.c1; have c2 := hh.a.c2; have d0 := hh.b.c0; have d1 := hh.b.c1; have d2 := hh.b.c2; clear hb) | (go_at_call 15; (with_reducible refine (c3 _ hh.x).mono ?_); rintro e1 w1 ⟨rfl, hb⟩; replace hh := hh.below hb; clear c0 x1 c2 d0 d1 d2; have c0 := hh.a.c0; have x1 := hh.a.c1; have c2 := hh.a.c2; have d0 := hh.b.c0; have d1 := hh.b.c1; have d2 := hh.b.c2; clear hb))
    go_ret
    exact ⟨rfl, hh.x⟩

end Go.Proofs.Ytplcfdmehnilnaa


/- hunk: two hunks: apart or not, one or not; a hunk's copy. -/
import Derived.Test.YtmfngampccpkhaaHunkApplies
set_option linter.unusedSimpArgs false
set_option linter.unusedVariables false
namespace Go.Proofs.Ytmfngampccpkhaa
open Go.RowKit Go.Qc Go.Shelf
attribute [local go_sem] txt_size txt_append ib_fold txt_toL

/-- Two hunks that came in, each in a block of its own. -/
structure Hk2 (w W : World) (T : TypeId) (s : Int) (u1 u2 : Value) (t : Int) (u3 u4 : Value) : Prop where
  a : Hk W w.heap.size T s u1 u2
  b : Hk W (w.heap.size + 1) T t u3 u4
  x : Below w.heap.size w W
theorem Hk2.new (w : World) (T : TypeId) (s : Int) (u1 u2 : Value) (t : Int) (u3 u4 : Value) : Hk2 w ((w.alloc (.cells #[.int .i64 s, u1, u2] T)).alloc (.cells #[.int .i64 t, u3, u4] T)) T s u1 u2 t u3 u4 := by
  have h1 := (Hk.new w T s u1 u2).below ((Below.refl _ (w.alloc (.cells #[.int .i64 s, u1, u2] T))).alloc (Nat.le_refl _) (.cells #[.int .i64 t, u3, u4] T))
  have h2 := Hk.new (w.alloc (.cells #[.int .i64 s, u1, u2] T)) T t u3 u4
  rw [show (w.alloc (.cells #[.int .i64 s, u1, u2] T)).heap.size = w.heap.size + 1 by simp] at h2
  exact ⟨h1, h2, ((Below.refl _ w).alloc (Nat.le_refl _) _).alloc (by simp) _⟩
theorem Hk2.below {w W W' : World} {T : TypeId} {s : Int} {u1 u2 : Value} {t : Int} {u3 u4 : Value} (h : Hk2 w W T s u1 u2 t u3 u4) (hb : Below W.heap.size W W') : Hk2 w W' T s u1 u2 t u3 u4 := ⟨h.a.below hb, h.b.below hb, h.x.trans (hb.mono h.x.size)⟩
set_option maxRecDepth 100000 in
set_option maxHeartbeats 8000000 in
theorem apart_gen (s : Int) (A : Option Addr) (n c : Nat) (B : Option Addr) (m d : Nat) (t : Int) (C : Option Addr) (p f : Nat) (D : Option Addr) (q g : Nat) (ra rb : Bool) (y z : Int) (w : World) (hz : ra = true → rb = true → wrap64 (t + p) = z) (hy : ra = true → rb = true → wrap64 (s + m) = y)
    (cA : ∀ W, Below w.heap.size w W → Calls Try.prog 40 #[.agg #[.int .i64 s, .slice A n c, .slice B m d]] W fun e w' => e = .returned (.bool ra) ∧ Below W.heap.size W w')
    (cC : ∀ W, Below w.heap.size w W → Calls Try.prog 40 #[.agg #[.int .i64 t, .slice C p f, .slice D q g]] W fun e w' => e = .returned (.bool rb) ∧ Below W.heap.size W w') :
    Calls Try.prog 24 #[.agg #[.int .i64 s, .slice A n c, .slice B m d], .agg #[.int .i64 t, .slice C p f, .slice D q g]] w fun e w' => e = .returned (.bool (ra && (rb && (decide (z < s) || decide (y < t))))) ∧ Below w.heap.size w w' := by
  have hh := Hk2.new w 62 s (.slice A n c) (.slice B m d) t (.slice C p f) (.slice D q g)
  have c0 := hh.a.c0
  have c1 := hh.a.c1
  have c2 := hh.a.c2
  have d0 := hh.b.c0
  have d1 := hh.b.c1
  have d2 := hh.b.c2
  cases ra with
  | false =>
    rw [Bool.false_and]
    clear hz hy
    go_enter Try.func24, Try.ntmps24
    go_wp2
    generalize (w.alloc _).alloc _ = W0 at *
    clear c0 c1 c2 d0 d1 d2
    have l0 := hh.a.c0l
    have l1 := hh.a.c1l
    have l2 := hh.a.c2l
    have k0 := hh.b.c0l
    have k1 := hh.b.c1l
    have k2 := hh.b.c2l
    have hXp : ∀ P : LtW W0, Below w.heap.size w P.w := fun P => hh.x.trans (P.h.mono hh.x.size)
    have hX := hid hh.x
    clear hh
    refine wp_region_lt mixed10 (by kernel_rfl) ?_
    repeat (first
      | ((with_reducible refine wpQuiet_skip (by with_unfolding_all rfl) ?_); simp only [Act.put, List.setIfInBounds_toArray, List.set_cons_zero, List.set_cons_succ])
      | ((with_reducible refine wpQuiet_step (fun K hK => ?_)); go_simp; first | ((with_reducible refine hK _ ?_); clear hK K) | (rw [if_neg (by first | decide | (intro h; cases h))]; (with_reducible refine hK _ ?_); clear hK K) | (with_reducible apply Exists.intro; (with_reducible refine ⟨fun P => ?_, hK _ ?_⟩); ((first | (go_at_call 40; exact lt_of (cA _ (hXp P))) | (go_at_call 40; exact lt_of (cC _ (hXp P))) | (go_at_call 41; exact lt_of (behind_any t C p f D q g _ hz _)))); clear hK K)))
    with_reducible refine wpQuiet_nil ?_
    intro _ hw'
    obtain ⟨P, rfl⟩ := hw'
    have hp := P.h
    clear l0 l1 l2 k0 k1 k2 hXp
    generalize P.w = w5 at *
    go_wp2
    go_ret
    exact ⟨by first | rfl | (rw [show IntKind.i64.wrap (s + (m : Int)) = y by (rw [IntKind.wrap_i64]; unfold wrap64 at hy; exact hy)]; simp [h4]; done), hX.out.trans (hp.mono hX.out.size)⟩
  | true =>
  cases rb with
  | false =>
    rw [Bool.false_and, Bool.and_false]
    clear hz hy
    go_enter Try.func24, Try.ntmps24
    go_wp2
    generalize (w.alloc _).alloc _ = W0 at *
    clear c0 c1 c2 d0 d1 d2
    have l0 := hh.a.c0l
    have l1 := hh.a.c1l
    have l2 := hh.a.c2l
    have k0 := hh.b.c0l
    have k1 := hh.b.c1l
    have k2 := hh.b.c2l
    have hXp : ∀ P : LtW W0, Below w.heap.size w P.w := fun P => hh.x.trans (P.h.mono hh.x.size)
    have hX := hid hh.x
    clear hh
    refine wp_region_lt mixed10 (by kernel_rfl) ?_
    repeat (first
      | ((with_reducible refine wpQuiet_skip (by with_unfolding_all rfl) ?_); simp only [Act.put, List.setIfInBounds_toArray, List.set_cons_zero, List.set_cons_succ])
      | ((with_reducible refine wpQuiet_step (fun K hK => ?_)); go_simp; first | ((with_reducible refine hK _ ?_); clear hK K) | (rw [if_neg (by first | decide | (intro h; cases h))]; (with_reducible refine hK _ ?_); clear hK K) | (with_reducible apply Exists.intro; (with_reducible refine ⟨fun P => ?_, hK _ ?_⟩); ((first | (go_at_call 40; exact lt_of (cA _ (hXp P))) | (go_at_call 40; exact lt_of (cC _ (hXp P))) | (go_at_call 41; exact lt_of (behind_any t C p f D q g _ hz _)))); clear hK K)))
    with_reducible refine wpQuiet_nil ?_
    intro _ hw'
    obtain ⟨P, rfl⟩ := hw'
    have hp := P.h
    clear l0 l1 l2 k0 k1 k2 hXp
    generalize P.w = w5 at *
    go_wp2
    go_ret
    exact ⟨by first | rfl | (rw [show IntKind.i64.wrap (s + (m : Int)) = y by (rw [IntKind.wrap_i64]; unfold wrap64 at hy; exact hy)]; simp [h4]; done), hX.out.trans (hp.mono hX.out.size)⟩
  | true =>
  rw [Bool.true_and, Bool.true_and]
  replace hz := hz rfl rfl
  replace hy := hy rfl rfl
  by_cases h1 : z < s
  · rw [decide_eq_true h1, Bool.true_or]
    have h3 := decide_eq_true h1
    go_enter Try.func24, Try.ntmps24
    go_wp2
    generalize (w.alloc _).alloc _ = W0 at *
    clear c0 c1 c2 d0 d1 d2
    have l0 := hh.a.c0l
    have l1 := hh.a.c1l
    have l2 := hh.a.c2l
    have k0 := hh.b.c0l
    have k1 := hh.b.c1l
    have k2 := hh.b.c2l
    have hXp : ∀ P : LtW W0, Below w.heap.size w P.w := fun P => hh.x.trans (P.h.mono hh.x.size)
    have hX := hid hh.x
    clear hh
    refine wp_region_lt mixed10 (by kernel_rfl) ?_
    repeat (first
      | ((with_reducible refine wpQuiet_skip (by with_unfolding_all rfl) ?_); simp only [Act.put, List.setIfInBounds_toArray, List.set_cons_zero, List.set_cons_succ])
      | ((with_reducible refine wpQuiet_step (fun K hK => ?_)); go_simp; first | ((with_reducible refine hK _ ?_); clear hK K) | (rw [if_neg (by first | decide | (intro h; cases h))]; (with_reducible refine hK _ ?_); clear hK K) | (with_reducible apply Exists.intro; (with_reducible refine ⟨fun P => ?_, hK _ ?_⟩); ((first | (go_at_call 40; exact lt_of (cA _ (hXp P))) | (go_at_call 40; exact lt_of (cC _ (hXp P))) | (go_at_call 41; exact lt_of (behind_any t C p f D q g _ hz _)))); clear hK K)))
    with_reducible refine wpQuiet_nil ?_
    intro _ hw'
    obtain ⟨P, rfl⟩ := hw'
    have hp := P.h
    clear l0 l1 l2 k0 k1 k2 hXp
    generalize P.w = w5 at *
    go_wp2
    go_ret
    exact ⟨by first | rfl | (rw [show IntKind.i64.wrap (s + (m : Int)) = y by (rw [IntKind.wrap_i64]; unfold wrap64 at hy; exact hy)]; simp [h4]; done), hX.out.trans (hp.mono hX.out.size)⟩
  · rw [decide_eq_false h1, Bool.false_or]
    have h3 := decide_eq_false h1
    by_cases h2 : y < t
    · rw [decide_eq_true h2]
      have h4 := decide_eq_true h2
      go_enter Try.func24, Try.ntmps24
      go_wp2
      generalize (w.alloc _).alloc _ = W0 at *
      clear c0 c1 c2 d0 d1 d2
      have l0 := hh.a.c0l
      have l1 := hh.a.c1l
      have l2 := hh.a.c2l
      have k0 := hh.b.c0l
      have k1 := hh.b.c1l
      have k2 := hh.b.c2l
      have hXp : ∀ P : LtW W0, Below w.heap.size w P.w := fun P => hh.x.trans (P.h.mono hh.x.size)
      have hX := hid hh.x
      clear hh
      refine wp_region_lt mixed10 (by kernel_rfl) ?_
      repeat (first
        | ((with_reducible refine wpQuiet_skip (by with_unfolding_all rfl) ?_); simp only [Act.put, List.setIfInBounds_toArray, List.set_cons_zero, List.set_cons_succ])
        | ((with_reducible refine wpQuiet_step (fun K hK => ?_)); go_simp; first | ((with_reducible refine hK _ ?_); clear hK K) | (rw [if_neg (by first | decide | (intro h; cases h))]; (with_reducible refine hK _ ?_); clear hK K) | (with_reducible apply Exists.intro; (with_reducible refine ⟨fun P => ?_, hK _ ?_⟩); ((first | (go_at_call 40; exact lt_of (cA _ (hXp P))) | (go_at_call 40; exact lt_of (cC _ (hXp P))) | (go_at_call 41; exact lt_of (behind_any t C p f D q g _ hz _)))); clear hK K)))
      with_reducible refine wpQuiet_nil ?_
      intro _ hw'
      obtain ⟨P, rfl⟩ := hw'
      have hp := P.h
      clear l0 l1 l2 k0 k1 k2 hXp
      generalize P.w = w5 at *
      go_wp2
      go_ret
      exact ⟨by first | rfl | (rw [show IntKind.i64.wrap (s + (m : Int)) = y by (rw [IntKind.wrap_i64]; unfold wrap64 at hy; exact hy)]; simp [h4]; done), hX.out.trans (hp.mono hX.out.size)⟩
    · rw [decide_eq_false h2]
      have h4 := decide_eq_false h2
      go_enter Try.func24, Try.ntmps24
      go_wp2
      generalize (w.alloc _).alloc _ = W0 at *
      clear c0 c1 c2 d0 d1 d2
      have l0 := hh.a.c0l
      have l1 := hh.a.c1l
      have l2 := hh.a.c2l
      have k0 := hh.b.c0l
      have k1 := hh.b.c1l
      have k2 := hh.b.c2l
      have hXp : ∀ P : LtW W0, Below w.heap.size w P.w := fun P => hh.x.trans (P.h.mono hh.x.size)
      have hX := hid hh.x
      clear hh
      refine wp_region_lt mixed10 (by kernel_rfl) ?_
      repeat (first
        | ((with_reducible refine wpQuiet_skip (by with_unfolding_all rfl) ?_); simp only [Act.put, List.setIfInBounds_toArray, List.set_cons_zero, List.set_cons_succ])
        | ((with_reducible refine wpQuiet_step (fun K hK => ?_)); go_simp; first | ((with_reducible refine hK _ ?_); clear hK K) | (rw [if_neg (by first | decide | (intro h; cases h))]; (with_reducible refine hK _ ?_); clear hK K) | (with_reducible apply Exists.intro; (with_reducible refine ⟨fun P => ?_, hK _ ?_⟩); ((first | (go_at_call 40; exact lt_of (cA _ (hXp P))) | (go_at_call 40; exact lt_of (cC _ (hXp P))) | (go_at_call 41; exact lt_of (behind_any t C p f D q g _ hz _)))); clear hK K)))
      with_reducible refine wpQuiet_nil ?_
      intro _ hw'
      obtain ⟨P, rfl⟩ := hw'
      have hp := P.h
      clear l0 l1 l2 k0 k1 k2 hXp
      generalize P.w = w5 at *
      go_wp2
      go_ret
      exact ⟨by first | rfl | (rw [show IntKind.i64.wrap (s + (m : Int)) = y by (rw [IntKind.wrap_i64]; unfold wrap64 at hy; exact hy)]; simp [h4]; done), hX.out.trans (hp.mono hX.out.size)⟩

end Go.Proofs.Ytmfngampccpkhaa

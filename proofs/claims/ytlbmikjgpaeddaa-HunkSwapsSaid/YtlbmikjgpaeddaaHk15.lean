
/- hunk: the body of the law of Swap, its calls given. -/
import Derived.Test.YtlbmikjgpaeddaaHk13
import Derived.Test.YtlbmikjgpaeddaaHk14
set_option linter.unusedSimpArgs false
set_option linter.unusedVariables false
namespace Go.Proofs.Ytlbmikjgpaeddaa
open Go.RowKit Go.Qc Go.Shelf
attribute [local go_sem] txt_size txt_append ib_fold txt_toL

theorem Hk2.ga {w W : World} {T : TypeId} {s : Int} {u1 u2 : Value} {t : Int} {u3 u4 : Value} (h : Hk2 w W T s u1 u2 t u3 u4) (P : LtW W) : Hk P.w w.heap.size T s u1 u2 := h.a.below P.h
theorem Hk2.gb' {w W : World} {T : TypeId} {s : Int} {u1 u2 : Value} {t : Int} {u3 u4 : Value} (h : Hk2 w W T s u1 u2 t u3 u4) (P : LtW W) : Hk P.w (w.heap.size + 1) T t u3 u4 := h.b.below P.h

set_option maxRecDepth 100000 in
set_option maxHeartbeats 8000000 in
theorem hs_long (L : Option Addr) (k e : Nat) (ls : List (List UInt8)) (s : Int) (A : Option Addr) (n c : Nat) (a1 : List (List UInt8)) (B : Option Addr) (m d : Nat) (a2 : List (List UInt8)) (t : Int) (C : Option Addr) (p f : Nat) (b1 : List (List UInt8)) (D : Option Addr) (q g : Nat) (b2 : List (List UInt8)) (w : World)
    (cG : ∀ W, Below w.heap.size w W → Calls Try.prog 24 #[.slice (some ⟨W.heap.size, 0, none⟩) 5 5] (W.alloc (.cells #[.slice L k e, .slice A n c, .slice B m d, .slice C p f, .slice D q g] 25)) fun e w' => e = .returned (.bool true) ∧ Below W.heap.size W w') :
    Calls Try.prog 8 #[.slice L k e, .agg #[.int .i64 s, .slice A n c, .slice B m d], .agg #[.int .i64 t, .slice C p f, .slice D q g]] w fun e w' => e = .returned (.bool true) ∧ Below w.heap.size w w' := by
  have hh := Hk2.new w 38 s (.slice A n c) (.slice B m d) t (.slice C p f) (.slice D q g)
  have c0 := hh.a.c0
  have c1 := hh.a.c1
  have c2 := hh.a.c2
  have d0 := hh.b.c0
  have d1 := hh.b.c1
  have d2 := hh.b.c2
  have hG := cG _ hh.x
  have hs : ((w.alloc (.cells #[.int .i64 s, .slice A n c, .slice B m d] 38)).alloc (.cells #[.int .i64 t, .slice C p f, .slice D q g] 38)).heap.size = w.heap.size + 1 + 1 := by simp
  rw [hs] at hG
  clear cG
  go_enter Try.func8, Try.ntmps8
  go_wp2_with (first | (go_at_call 24; (with_reducible refine hG.mono ?_); rintro e1 w1 ⟨rfl, hb⟩; rw [← hs] at hb; clear hG hs; replace hh := hh.below hb; clear c0 c1 c2 d0 d1 d2; have c0 := hh.a.c0; have c1 := hh.a.c1; have c2 := hh.a.c2; have d0 := hh.b.c0; have d1 := hh.b.c1; have d2 := hh.b.c2; clear hb) | (go_at_call 25; (with_reducible refine (awake11_any _).mono ?_); rintro e9 w9 ⟨rfl, hb⟩; replace hh := hh.below hb; clear c0 c1 c2 d0 d1 d2; have c0 := hh.a.c0; have c1 := hh.a.c1; have c2 := hh.a.c2; have d0 := hh.b.c0; have d1 := hh.b.c1; have d2 := hh.b.c2; clear hb))
  go_ret
  exact ⟨rfl, hh.x⟩

set_option maxRecDepth 100000 in
set_option maxHeartbeats 16000000 in
theorem hs_no (L : Option Addr) (k e : Nat) (ls : List (List UInt8)) (s : Int) (A : Option Addr) (n c : Nat) (a1 : List (List UInt8)) (B : Option Addr) (m d : Nat) (a2 : List (List UInt8)) (t : Int) (C : Option Addr) (p f : Nat) (b1 : List (List UInt8)) (D : Option Addr) (q g : Nat) (b2 : List (List UInt8)) (sm : Bool) (w : World)
    (cG : ∀ W, Below w.heap.size w W → Calls Try.prog 24 #[.slice (some ⟨W.heap.size, 0, none⟩) 5 5] (W.alloc (.cells #[.slice L k e, .slice A n c, .slice B m d, .slice C p f, .slice D q g] 25)) fun e w' => e = .returned (.bool false) ∧ Below W.heap.size W w')
    (cP : ∀ W, Below w.heap.size w W → Calls Try.prog 37 #[.agg #[.int .i64 s, .slice A n c, .slice B m d], .agg #[.int .i64 t, .slice C p f, .slice D q g]] W fun e w' => e = .returned (.bool false) ∧ Below W.heap.size W w')
    (cQ : ∀ W, Below w.heap.size w W → Calls Try.prog 39 #[.agg #[.int .i64 s, .slice A n c, .slice B m d], .agg #[.int .i64 t, .slice C p f, .slice D q g]] W fun e w' => e = .returned (.bool false) ∧ Below W.heap.size W w')
    (cM : ∀ W, Below w.heap.size w W → Calls Try.prog 40 #[.agg #[.int .i64 s, .slice A n c, .slice B m d], .agg #[.int .i64 t, .slice C p f, .slice D q g]] W fun e w' => e = .returned (.bool sm) ∧ Below W.heap.size W w')
    (dM : ∀ W, Below w.heap.size w W → Calls Try.prog 41 #[.agg #[.int .i64 s, .slice A n c, .slice B m d], .agg #[.int .i64 t, .slice C p f, .slice D q g]] W fun e w' => e = .returned (.bool sm) ∧ Below W.heap.size W w')
    (cS : ∀ W, Below w.heap.size w W → Calls Try.prog 38 #[.agg #[.int .i64 s, .slice A n c, .slice B m d], .agg #[.int .i64 t, .slice C p f, .slice D q g]] W fun e w' => e = .returned (.tuple #[.agg #[.int .i64 0, .slice none 0 0, .slice none 0 0], .agg #[.int .i64 0, .slice none 0 0, .slice none 0 0], .bool false]) ∧ Below W.heap.size W w')
    (dZ : ∀ W, Calls Try.prog 41 #[.agg #[.int .i64 0, .slice none 0 0, .slice none 0 0], .agg #[.int .i64 0, .slice none 0 0, .slice none 0 0]] W fun e w' => e = .returned (.bool true) ∧ Below W.heap.size W w') :
    Calls Try.prog 8 #[.slice L k e, .agg #[.int .i64 s, .slice A n c, .slice B m d], .agg #[.int .i64 t, .slice C p f, .slice D q g]] w fun e w' => e = .returned (.bool true) ∧ Below w.heap.size w w' := by
  have hh := Hk2.new w 38 s (.slice A n c) (.slice B m d) t (.slice C p f) (.slice D q g)
  have c0 := hh.a.c0
  have c1 := hh.a.c1
  have c2 := hh.a.c2
  have d0 := hh.b.c0
  have d1 := hh.b.c1
  have d2 := hh.b.c2
  have hG := cG _ hh.x
  have hs : ((w.alloc (.cells #[.int .i64 s, .slice A n c, .slice B m d] 38)).alloc (.cells #[.int .i64 t, .slice C p f, .slice D q g] 38)).heap.size = w.heap.size + 1 + 1 := by simp
  rw [hs] at hG
  clear cG
  go_enter Try.func8, Try.ntmps8
  go_wp2_with (go_at_call 24; (with_reducible refine hG.mono ?_); rintro e1 w1 ⟨rfl, hb⟩; rw [← hs] at hb; clear hG hs; replace hh := hh.below hb; clear c0 c1 c2 d0 d1 d2; have c0 := hh.a.c0; have c1 := hh.a.c1; have c2 := hh.a.c2; have d0 := hh.b.c0; have d1 := hh.b.c1; have d2 := hh.b.c2; clear hb)
  have l0 := hh.a.c0l
  have l1 := hh.a.c1l
  have l2 := hh.a.c2l
  have k0 := hh.b.c0l
  have k1 := hh.b.c1l
  have k2 := hh.b.c2l
  have hXp : ∀ P : LtW _, Below w.heap.size w P.w := fun P => hh.x.trans (P.h.mono hh.x.size)
  clear c0 c1 c2 d0 d1 d2
  refine wp_region_lt mixed10 (by kernel_rfl) ?_
  repeat (first
    | ((with_reducible refine wpQuiet_skip (by with_unfolding_all rfl) ?_); simp only [Act.put, List.setIfInBounds_toArray, List.set_cons_zero, List.set_cons_succ])
    | ((with_reducible refine wpQuiet_step (fun K hK => ?_)); go_simp; first | ((with_reducible refine hK _ ?_); clear hK K) | (rw [if_neg (by first | decide | (intro h; cases h))]; (with_reducible refine hK _ ?_); clear hK K) | (with_reducible apply Exists.intro; (with_reducible refine ⟨fun P => ?_, hK _ ?_⟩); ((first | (go_at_call 28; exact lt_of (plain11_any s A n c B m d _)) | (go_at_call 28; exact lt_of (plain11_any t C p f D q g _)) | (go_at_call 37; exact lt_of (cP _ (hXp P))))); clear hK K)))
  with_reducible refine wpQuiet_nil ?_
  intro _ hw'
  obtain ⟨P, rfl⟩ := hw'
  have hb := P.h
  clear l0 l1 l2 k0 k1 k2 hXp
  generalize P.w = w2 at *
  clear P
  replace hh := hh.below hb
  clear hb
  have c0 := hh.a.c0
  have c1 := hh.a.c1
  have c2 := hh.a.c2
  have d0 := hh.b.c0
  have d1 := hh.b.c1
  have d2 := hh.b.c2
  go_wp2_with (go_at_call 38; (with_reducible refine (cS _ hh.x).mono ?_); rintro e3 w3 ⟨rfl, hb⟩; replace hh := hh.below hb; clear c0 c1 c2 d0 d1 d2; have c0 := hh.a.c0; have c1 := hh.a.c1; have c2 := hh.a.c2; have d0 := hh.b.c0; have d1 := hh.b.c1; have d2 := hh.b.c2; clear hb)
  have hx := Hk2.new w3 38 0 (.slice none 0 0) (.slice none 0 0) 0 (.slice none 0 0) (.slice none 0 0)
  have hb := hx.x
  replace hh := hh.below hb
  clear hb
  generalize (w3.alloc _).alloc _ = w4 at *
  have l0 := hh.a.c0l
  have l1 := hh.a.c1l
  have l2 := hh.a.c2l
  have k0 := hh.b.c0l
  have k1 := hh.b.c1l
  have k2 := hh.b.c2l
  have hXp : ∀ P : LtW _, Below w.heap.size w P.w := fun P => hh.x.trans (P.h.mono hh.x.size)
  clear c0 c1 c2 d0 d1 d2
  refine wp_region_lt mixed10 (by kernel_rfl) ?_
  repeat (first
    | ((with_reducible refine wpQuiet_skip (by with_unfolding_all rfl) ?_); simp only [Act.put, List.setIfInBounds_toArray, List.set_cons_zero, List.set_cons_succ])
    | ((with_reducible refine wpQuiet_step (fun K hK => ?_)); go_simp; first | ((with_reducible refine hK _ ?_); clear hK K) | (rw [if_neg (by first | decide | (intro h; cases h))]; (with_reducible refine hK _ ?_); clear hK K) | (with_reducible apply Exists.intro; (with_reducible refine ⟨fun P => ?_, hK _ ?_⟩); ((first | (go_at_call 28; exact lt_of (plain11_any s A n c B m d _)) | (go_at_call 28; exact lt_of (plain11_any t C p f D q g _)) | (go_at_call 39; exact lt_of (cQ _ (hXp P))) | (go_at_call 40; exact lt_of (cM _ (hXp P))) | (go_at_call 41; exact lt_of (dM _ (hXp P))))); clear hK K)))
  with_reducible refine wpQuiet_nil ?_
  intro _ hw'
  obtain ⟨P, rfl⟩ := hw'
  have hb := P.h
  clear l0 l1 l2 k0 k1 k2 hXp
  generalize P.w = w5 at *
  clear P
  replace hh := hh.below hb
  replace hx := hx.below hb
  clear hb
  have c0 := hh.a.c0
  have c1 := hh.a.c1
  have c2 := hh.a.c2
  have d0 := hh.b.c0
  have d1 := hh.b.c1
  have d2 := hh.b.c2
  have y0 := hx.a.c0
  have y1 := hx.a.c1
  have y2 := hx.a.c2
  have v0 := hx.b.c0
  have v1 := hx.b.c1
  have v2 := hx.b.c2
  clear cP cQ cM dM cS
  go_wp2_with (first
    | (go_at_call 28; (with_reducible refine (plain11_any 0 none 0 0 none 0 0 _).mono ?_); rintro e6 w6 ⟨rfl, hb⟩; replace hh := hh.below hb; clear c0 c1 c2 d0 d1 d2; have c0 := hh.a.c0; have c1 := hh.a.c1; have c2 := hh.a.c2; have d0 := hh.b.c0; have d1 := hh.b.c1; have d2 := hh.b.c2; replace hx := hx.below hb; clear y0 y1 y2 v0 v1 v2; have y0 := hx.a.c0; have y1 := hx.a.c1; have y2 := hx.a.c2; have v0 := hx.b.c0; have v1 := hx.b.c1; have v2 := hx.b.c2; clear hb)
    | (go_at_call 41; (with_reducible refine (dZ _).mono ?_); rintro e6 w6 ⟨rfl, hb⟩; replace hh := hh.below hb; clear c0 c1 c2 d0 d1 d2; have c0 := hh.a.c0; have c1 := hh.a.c1; have c2 := hh.a.c2; have d0 := hh.b.c0; have d1 := hh.b.c1; have d2 := hh.b.c2; replace hx := hx.below hb; clear y0 y1 y2 v0 v1 v2; have y0 := hx.a.c0; have y1 := hx.a.c1; have y2 := hx.a.c2; have v0 := hx.b.c0; have v1 := hx.b.c1; have v2 := hx.b.c2; clear hb)
    | (go_at_call 25; (with_reducible refine (awake11_any _).mono ?_); rintro e9 w9 ⟨rfl, hb⟩; replace hh := hh.below hb; clear c0 c1 c2 d0 d1 d2; have c0 := hh.a.c0; have c1 := hh.a.c1; have c2 := hh.a.c2; have d0 := hh.b.c0; have d1 := hh.b.c1; have d2 := hh.b.c2; replace hx := hx.below hb; clear y0 y1 y2 v0 v1 v2; have y0 := hx.a.c0; have y1 := hx.a.c1; have y2 := hx.a.c2; have v0 := hx.b.c0; have v1 := hx.b.c1; have v2 := hx.b.c2; clear hb))
  go_ret
  exact ⟨rfl, hh.x⟩

set_option maxRecDepth 100000 in
set_option maxHeartbeats 40000000 in
theorem hs_yes (L : Option Addr) (k e : Nat) (ls : List (List UInt8)) (s : Int) (A : Option Addr) (n c : Nat) (a1 : List (List UInt8)) (B : Option Addr) (m d : Nat) (a2 : List (List UInt8)) (t : Int) (C : Option Addr) (p f : Nat) (b1 : List (List UInt8)) (D : Option Addr) (q g : Nat) (b2 : List (List UInt8)) (sm : Bool) (w : World) (R1 R2 R3 : List (List UInt8)) (N1 N2 N3 : Nat) (z1 z2 : Int) (tx sy : Int) (bk : k ≤ 60) (bq : q ≤ 60) (hN2 : R2.length = N2) (bN2 : N2 ≤ 1000)
    (ka1 : a1.length = n) (ka2 : a2.length = m) (kb1 : b1.length = p) (kb2 : b2.length = q) (bn : n ≤ 60) (bm : m ≤ 60) (bp : p ≤ 60) (hA : Rd w A (a1.map strV)) (hB : Rd w B (a2.map strV)) (hC : Rd w C (b1.map strV)) (hD : Rd w D (b2.map strV))
    (cG : ∀ W, Below w.heap.size w W → Calls Try.prog 24 #[.slice (some ⟨W.heap.size, 0, none⟩) 5 5] (W.alloc (.cells #[.slice L k e, .slice A n c, .slice B m d, .slice C p f, .slice D q g] 25)) fun e w' => e = .returned (.bool false) ∧ Below W.heap.size W w')
    (cP : ∀ W, Below w.heap.size w W → Calls Try.prog 37 #[.agg #[.int .i64 s, .slice A n c, .slice B m d], .agg #[.int .i64 t, .slice C p f, .slice D q g]] W fun e w' => e = .returned (.bool true) ∧ Below W.heap.size W w')
    (cQ : ∀ W, Below w.heap.size w W → Calls Try.prog 39 #[.agg #[.int .i64 s, .slice A n c, .slice B m d], .agg #[.int .i64 t, .slice C p f, .slice D q g]] W fun e w' => e = .returned (.bool true) ∧ Below W.heap.size W w')
    (cM : ∀ W, Below w.heap.size w W → Calls Try.prog 40 #[.agg #[.int .i64 s, .slice A n c, .slice B m d], .agg #[.int .i64 t, .slice C p f, .slice D q g]] W fun e w' => e = .returned (.bool sm) ∧ Below W.heap.size W w')
    (dM : ∀ W, Below w.heap.size w W → Calls Try.prog 41 #[.agg #[.int .i64 s, .slice A n c, .slice B m d], .agg #[.int .i64 t, .slice C p f, .slice D q g]] W fun e w' => e = .returned (.bool sm) ∧ Below W.heap.size W w')
    (cS : ∀ W, Below w.heap.size w W → Calls Try.prog 38 #[.agg #[.int .i64 s, .slice A n c, .slice B m d], .agg #[.int .i64 t, .slice C p f, .slice D q g]] W fun e w' => ∃ A3 c3 A4 c4 A6 c6 A7 c7, e = .returned (.tuple #[.agg #[.int .i64 tx, .slice A3 p c3, .slice A4 q c4], .agg #[.int .i64 sy, .slice A6 n c6, .slice A7 m c7], .bool true]) ∧ Rd w' A3 (b1.map strV) ∧ Rd w' A4 (b2.map strV) ∧ Rd w' A6 (a1.map strV) ∧ Rd w' A7 (a2.map strV) ∧ Below W.heap.size W w')
    (e1 : ∀ W, Below w.heap.size w W → Calls Try.prog 27 #[.slice L k e, .agg #[.int .i64 s, .slice A n c, .slice B m d]] W fun e w' => ∃ A1 r1, e = .returned (.tuple #[.slice A1 N1 r1, .int .i64 z1]) ∧ Rd w' A1 (R1.map strV) ∧ Below W.heap.size W w')
    (e2 : ∀ W A1 r1, Below w.heap.size w W → Rd W A1 (R1.map strV) → Calls Try.prog 27 #[.slice A1 N1 r1, .agg #[.int .i64 t, .slice C p f, .slice D q g]] W fun e w' => ∃ A2 r2, e = .returned (.tuple #[.slice A2 N2 r2, .int .i64 z2]) ∧ Rd w' A2 (R2.map strV) ∧ Below W.heap.size W w')
    (e3 : z1 = 0 → z2 = 0 → ∀ W A3 c3 A4 c4, Below w.heap.size w W → Rd W A3 (b1.map strV) → Rd W A4 (b2.map strV) → Calls Try.prog 27 #[.slice L k e, .agg #[.int .i64 tx, .slice A3 p c3, .slice A4 q c4]] W fun e w' => ∃ A5 r5, e = .returned (.tuple #[.slice A5 N3 r5, .int .i64 0]) ∧ Rd w' A5 (R3.map strV) ∧ Below W.heap.size W w')
    (e4 : z1 = 0 → z2 = 0 → ∀ W A5 r5 A6 c6 A7 c7, Rd W A5 (R3.map strV) → Rd W A6 (a1.map strV) → Rd W A7 (a2.map strV) → Calls Try.prog 27 #[.slice A5 N3 r5, .agg #[.int .i64 sy, .slice A6 n c6, .slice A7 m c7]] W fun e w' => ∃ A8 r8, e = .returned (.tuple #[.slice A8 N2 r8, .int .i64 0]) ∧ Rd w' A8 (R2.map strV) ∧ Below W.heap.size W w') :
    Calls Try.prog 8 #[.slice L k e, .agg #[.int .i64 s, .slice A n c, .slice B m d], .agg #[.int .i64 t, .slice C p f, .slice D q g]] w fun e w' => e = .returned (.bool true) ∧ Below w.heap.size w w' := by
  have HA := hid hA
  have HB := hid hB
  have HC := hid hC
  have HD := hid hD
  have KA1 := hid ka1
  have KA2 := hid ka2
  have KB1 := hid kb1
  have KB2 := hid kb2
  have HN2 := hid hN2
  clear hA hB hC hD ka1 ka2 kb1 kb2 hN2
  have hh := Hk2.new w 38 s (.slice A n c) (.slice B m d) t (.slice C p f) (.slice D q g)
  have c0 := hh.a.c0
  have c1 := hh.a.c1
  have c2 := hh.a.c2
  have d0 := hh.b.c0
  have d1 := hh.b.c1
  have d2 := hh.b.c2
  have hG := cG _ hh.x
  have hs : ((w.alloc (.cells #[.int .i64 s, .slice A n c, .slice B m d] 38)).alloc (.cells #[.int .i64 t, .slice C p f, .slice D q g] 38)).heap.size = w.heap.size + 1 + 1 := by simp
  rw [hs] at hG
  clear cG
  go_enter Try.func8, Try.ntmps8
  go_wp2_with (go_at_call 24; (with_reducible refine hG.mono ?_); rintro e1 w1 ⟨rfl, hb⟩; rw [← hs] at hb; clear hG hs; replace hh := hh.below hb; clear c0 c1 c2 d0 d1 d2; have c0 := hh.a.c0; have c1 := hh.a.c1; have c2 := hh.a.c2; have d0 := hh.b.c0; have d1 := hh.b.c1; have d2 := hh.b.c2; clear hb)
  have l0 := hh.a.c0l
  have l1 := hh.a.c1l
  have l2 := hh.a.c2l
  have k0 := hh.b.c0l
  have k1 := hh.b.c1l
  have k2 := hh.b.c2l
  have hXp : ∀ P : LtW _, Below w.heap.size w P.w := fun P => hh.x.trans (P.h.mono hh.x.size)
  clear c0 c1 c2 d0 d1 d2
  refine wp_region_lt mixed10 (by kernel_rfl) ?_
  repeat (first
    | ((with_reducible refine wpQuiet_skip (by with_unfolding_all rfl) ?_); simp only [Act.put, List.setIfInBounds_toArray, List.set_cons_zero, List.set_cons_succ])
    | ((with_reducible refine wpQuiet_step (fun K hK => ?_)); go_simp; first | ((with_reducible refine hK _ ?_); clear hK K) | (rw [if_neg (by first | decide | (intro h; cases h))]; (with_reducible refine hK _ ?_); clear hK K) | (with_reducible apply Exists.intro; (with_reducible refine ⟨fun P => ?_, hK _ ?_⟩); ((first | (go_at_call 28; exact lt_of (plain11_any s A n c B m d _)) | (go_at_call 28; exact lt_of (plain11_any t C p f D q g _)) | (go_at_call 37; exact lt_of (cP _ (hXp P))))); clear hK K)))
  with_reducible refine wpQuiet_nil ?_
  intro _ hw'
  obtain ⟨P, rfl⟩ := hw'
  have hb := P.h
  clear l0 l1 l2 k0 k1 k2 hXp
  generalize P.w = w2 at *
  clear P
  replace hh := hh.below hb
  clear hb
  have c0 := hh.a.c0
  have c1 := hh.a.c1
  have c2 := hh.a.c2
  have d0 := hh.b.c0
  have d1 := hh.b.c1
  have d2 := hh.b.c2
  go_wp2_with (go_at_call 38; (with_reducible refine (cS _ hh.x).mono ?_); rintro e3 w3 ⟨A3, c3, A4, c4, A6, c6, A7, c7, rfl, r3, r4, r6, r7, hb⟩; replace hh := hh.below hb; clear c0 c1 c2 d0 d1 d2; have c0 := hh.a.c0; have c1 := hh.a.c1; have c2 := hh.a.c2; have d0 := hh.b.c0; have d1 := hh.b.c1; have d2 := hh.b.c2; clear hb)
  have hx := Hk2.new w3 38 tx (.slice A3 p c3) (.slice A4 q c4) sy (.slice A6 n c6) (.slice A7 m c7)
  have hb := hx.x
  replace hh := hh.below hb
  replace r3 := r3.below hb
  replace r4 := r4.below hb
  replace r6 := r6.below hb
  replace r7 := r7.below hb
  clear hb
  generalize (w3.alloc _).alloc _ = w4 at *
  have l0 := hh.a.c0l
  have l1 := hh.a.c1l
  have l2 := hh.a.c2l
  have k0 := hh.b.c0l
  have k1 := hh.b.c1l
  have k2 := hh.b.c2l
  have hXp : ∀ P : LtW _, Below w.heap.size w P.w := fun P => hh.x.trans (P.h.mono hh.x.size)
  clear c0 c1 c2 d0 d1 d2
  refine wp_region_lt mixed10 (by kernel_rfl) ?_
  repeat (first
    | ((with_reducible refine wpQuiet_skip (by with_unfolding_all rfl) ?_); simp only [Act.put, List.setIfInBounds_toArray, List.set_cons_zero, List.set_cons_succ])
    | ((with_reducible refine wpQuiet_step (fun K hK => ?_)); go_simp; first | ((with_reducible refine hK _ ?_); clear hK K) | (rw [if_neg (by first | decide | (intro h; cases h))]; (with_reducible refine hK _ ?_); clear hK K) | (with_reducible apply Exists.intro; (with_reducible refine ⟨fun P => ?_, hK _ ?_⟩); ((first | (go_at_call 28; exact lt_of (plain11_any s A n c B m d _)) | (go_at_call 28; exact lt_of (plain11_any t C p f D q g _)) | (go_at_call 39; exact lt_of (cQ _ (hXp P))) | (go_at_call 40; exact lt_of (cM _ (hXp P))) | (go_at_call 41; exact lt_of (dM _ (hXp P))))); clear hK K)))
  with_reducible refine wpQuiet_nil ?_
  intro _ hw'
  obtain ⟨P, rfl⟩ := hw'
  have hb := P.h
  clear l0 l1 l2 k0 k1 k2 hXp
  generalize P.w = w5 at *
  clear P
  replace hh := hh.below hb
  replace hx := hx.below hb
  replace r3 := r3.below hb
  replace r4 := r4.below hb
  replace r6 := r6.below hb
  replace r7 := r7.below hb
  clear hb
  have c0 := hh.a.c0
  have c1 := hh.a.c1
  have c2 := hh.a.c2
  have d0 := hh.b.c0
  have d1 := hh.b.c1
  have d2 := hh.b.c2
  have y0 := hx.a.c0
  have y1 := hx.a.c1
  have y2 := hx.a.c2
  have v0 := hx.b.c0
  have v1 := hx.b.c1
  have v2 := hx.b.c2
  clear cP cQ cM dM cS
  by_cases h1 : z1 = 0
  · subst h1
    by_cases h2 : z2 = 0
    · subst h2
      replace e3 := e3 rfl rfl
      replace e4 := e4 rfl rfl
      go_wp2_with (first
      | (go_at_call 20; (with_reducible refine (same_yes _ A3 C p c3 f b1 KB1.out (by omega) r3 (HC.out.below hh.x)).mono ?_); rintro e6 w6 ⟨rfl, hb⟩; replace hh := hh.below hb; clear c0 c1 c2 d0 d1 d2; have c0 := hh.a.c0; have c1 := hh.a.c1; have c2 := hh.a.c2; have d0 := hh.b.c0; have d1 := hh.b.c1; have d2 := hh.b.c2; replace hx := hx.below hb; clear y0 y1 y2 v0 v1 v2; have y0 := hx.a.c0; have y1 := hx.a.c1; have y2 := hx.a.c2; have v0 := hx.b.c0; have v1 := hx.b.c1; have v2 := hx.b.c2; replace r3 := r3.below hb; replace r4 := r4.below hb; replace r6 := r6.below hb; replace r7 := r7.below hb; clear hb)
      | (go_at_call 20; (with_reducible refine (same_yes _ A4 D q c4 g b2 KB2.out (by omega) r4 (HD.out.below hh.x)).mono ?_); rintro e6 w6 ⟨rfl, hb⟩; replace hh := hh.below hb; clear c0 c1 c2 d0 d1 d2; have c0 := hh.a.c0; have c1 := hh.a.c1; have c2 := hh.a.c2; have d0 := hh.b.c0; have d1 := hh.b.c1; have d2 := hh.b.c2; replace hx := hx.below hb; clear y0 y1 y2 v0 v1 v2; have y0 := hx.a.c0; have y1 := hx.a.c1; have y2 := hx.a.c2; have v0 := hx.b.c0; have v1 := hx.b.c1; have v2 := hx.b.c2; replace r3 := r3.below hb; replace r4 := r4.below hb; replace r6 := r6.below hb; replace r7 := r7.below hb; clear hb)
      | (go_at_call 20; (with_reducible refine (same_yes _ A6 A n c6 c a1 KA1.out (by omega) r6 (HA.out.below hh.x)).mono ?_); rintro e6 w6 ⟨rfl, hb⟩; replace hh := hh.below hb; clear c0 c1 c2 d0 d1 d2; have c0 := hh.a.c0; have c1 := hh.a.c1; have c2 := hh.a.c2; have d0 := hh.b.c0; have d1 := hh.b.c1; have d2 := hh.b.c2; replace hx := hx.below hb; clear y0 y1 y2 v0 v1 v2; have y0 := hx.a.c0; have y1 := hx.a.c1; have y2 := hx.a.c2; have v0 := hx.b.c0; have v1 := hx.b.c1; have v2 := hx.b.c2; replace r3 := r3.below hb; replace r4 := r4.below hb; replace r6 := r6.below hb; replace r7 := r7.below hb; clear hb)
      | (go_at_call 20; (with_reducible refine (same_yes _ A7 B m c7 d a2 KA2.out (by omega) r7 (HB.out.below hh.x)).mono ?_); rintro e6 w6 ⟨rfl, hb⟩; replace hh := hh.below hb; clear c0 c1 c2 d0 d1 d2; have c0 := hh.a.c0; have c1 := hh.a.c1; have c2 := hh.a.c2; have d0 := hh.b.c0; have d1 := hh.b.c1; have d2 := hh.b.c2; replace hx := hx.below hb; clear y0 y1 y2 v0 v1 v2; have y0 := hx.a.c0; have y1 := hx.a.c1; have y2 := hx.a.c2; have v0 := hx.b.c0; have v1 := hx.b.c1; have v2 := hx.b.c2; replace r3 := r3.below hb; replace r4 := r4.below hb; replace r6 := r6.below hb; replace r7 := r7.below hb; clear hb)
      | (go_at_call 27; (with_reducible refine (e1 _ hh.x).mono ?_); rintro e6 w6 ⟨A1, r1, rfl, q1, hb⟩; replace hh := hh.below hb; clear c0 c1 c2 d0 d1 d2; have c0 := hh.a.c0; have c1 := hh.a.c1; have c2 := hh.a.c2; have d0 := hh.b.c0; have d1 := hh.b.c1; have d2 := hh.b.c2; replace hx := hx.below hb; clear y0 y1 y2 v0 v1 v2; have y0 := hx.a.c0; have y1 := hx.a.c1; have y2 := hx.a.c2; have v0 := hx.b.c0; have v1 := hx.b.c1; have v2 := hx.b.c2; replace r3 := r3.below hb; replace r4 := r4.below hb; replace r6 := r6.below hb; replace r7 := r7.below hb; clear hb)
      | (go_at_call 27; (with_reducible refine (e2 _ A1 r1 hh.x q1).mono ?_); rintro e6 w6 ⟨A2, r2, rfl, q2, hb⟩; replace hh := hh.below hb; clear c0 c1 c2 d0 d1 d2; have c0 := hh.a.c0; have c1 := hh.a.c1; have c2 := hh.a.c2; have d0 := hh.b.c0; have d1 := hh.b.c1; have d2 := hh.b.c2; replace hx := hx.below hb; clear y0 y1 y2 v0 v1 v2; have y0 := hx.a.c0; have y1 := hx.a.c1; have y2 := hx.a.c2; have v0 := hx.b.c0; have v1 := hx.b.c1; have v2 := hx.b.c2; replace r3 := r3.below hb; replace r4 := r4.below hb; replace r6 := r6.below hb; replace r7 := r7.below hb; replace q1 := q1.below hb; clear hb)
      | (go_at_call 27; (with_reducible refine (e3 _ A3 c3 A4 c4 hh.x r3 r4).mono ?_); rintro e6 w6 ⟨A5, r5, rfl, q5, hb⟩; replace hh := hh.below hb; clear c0 c1 c2 d0 d1 d2; have c0 := hh.a.c0; have c1 := hh.a.c1; have c2 := hh.a.c2; have d0 := hh.b.c0; have d1 := hh.b.c1; have d2 := hh.b.c2; replace hx := hx.below hb; clear y0 y1 y2 v0 v1 v2; have y0 := hx.a.c0; have y1 := hx.a.c1; have y2 := hx.a.c2; have v0 := hx.b.c0; have v1 := hx.b.c1; have v2 := hx.b.c2; replace r3 := r3.below hb; replace r4 := r4.below hb; replace r6 := r6.below hb; replace r7 := r7.below hb; replace q1 := q1.below hb; replace q2 := q2.below hb; clear hb)
      | (go_at_call 27; (with_reducible refine (e4 _ A5 r5 A6 c6 A7 c7 q5 r6 r7).mono ?_); rintro e6 w6 ⟨A8, r8, rfl, q8, hb⟩; replace hh := hh.below hb; clear c0 c1 c2 d0 d1 d2; have c0 := hh.a.c0; have c1 := hh.a.c1; have c2 := hh.a.c2; have d0 := hh.b.c0; have d1 := hh.b.c1; have d2 := hh.b.c2; replace hx := hx.below hb; clear y0 y1 y2 v0 v1 v2; have y0 := hx.a.c0; have y1 := hx.a.c1; have y2 := hx.a.c2; have v0 := hx.b.c0; have v1 := hx.b.c1; have v2 := hx.b.c2; replace r3 := r3.below hb; replace r4 := r4.below hb; replace r6 := r6.below hb; replace r7 := r7.below hb; replace q1 := q1.below hb; replace q2 := q2.below hb; clear hb)
      | (go_at_call 20; (with_reducible refine (same_yes _ A8 A2 N2 r8 r2 R2 HN2.out (by omega) q8 q2).mono ?_); rintro e6 w6 ⟨rfl, hb⟩; replace hh := hh.below hb; clear c0 c1 c2 d0 d1 d2; have c0 := hh.a.c0; have c1 := hh.a.c1; have c2 := hh.a.c2; have d0 := hh.b.c0; have d1 := hh.b.c1; have d2 := hh.b.c2; replace hx := hx.below hb; clear y0 y1 y2 v0 v1 v2; have y0 := hx.a.c0; have y1 := hx.a.c1; have y2 := hx.a.c2; have v0 := hx.b.c0; have v1 := hx.b.c1; have v2 := hx.b.c2; replace r3 := r3.below hb; replace r4 := r4.below hb; replace r6 := r6.below hb; replace r7 := r7.below hb; clear hb)
      | (go_at_call 28; (with_reducible refine (plain11_any _ _ _ _ _ _ _ _).mono ?_); rintro e6 w6 ⟨rfl, hb⟩; replace hh := hh.below hb; clear c0 c1 c2 d0 d1 d2; have c0 := hh.a.c0; have c1 := hh.a.c1; have c2 := hh.a.c2; have d0 := hh.b.c0; have d1 := hh.b.c1; have d2 := hh.b.c2; replace hx := hx.below hb; clear y0 y1 y2 v0 v1 v2; have y0 := hx.a.c0; have y1 := hx.a.c1; have y2 := hx.a.c2; have v0 := hx.b.c0; have v1 := hx.b.c1; have v2 := hx.b.c2; replace r3 := r3.below hb; replace r4 := r4.below hb; replace r6 := r6.below hb; replace r7 := r7.below hb; (try replace q1 := q1.below hb); (try replace q2 := q2.below hb); (try replace q5 := q5.below hb); clear hb)
      | (go_at_call 25; (with_reducible refine (awake11_any _).mono ?_); rintro e9 w9 ⟨rfl, hb⟩; replace hh := hh.below hb; clear c0 c1 c2 d0 d1 d2; have c0 := hh.a.c0; have c1 := hh.a.c1; have c2 := hh.a.c2; have d0 := hh.b.c0; have d1 := hh.b.c1; have d2 := hh.b.c2; replace hx := hx.below hb; clear y0 y1 y2 v0 v1 v2; have y0 := hx.a.c0; have y1 := hx.a.c1; have y2 := hx.a.c2; have v0 := hx.b.c0; have v1 := hx.b.c1; have v2 := hx.b.c2; replace r3 := r3.below hb; replace r4 := r4.below hb; replace r6 := r6.below hb; replace r7 := r7.below hb; clear hb))
      go_ret
      exact ⟨rfl, hh.x⟩
    · clear e3 e4
      have hF : ((0 : Int) == z2) = false := by simp; omega
      have hF2 : (z2 == (0 : Int)) = false := by simp; omega
      go_wp2_with (first
      | (go_at_call 20; (with_reducible refine (same_yes _ A3 C p c3 f b1 KB1.out (by omega) r3 (HC.out.below hh.x)).mono ?_); rintro e6 w6 ⟨rfl, hb⟩; replace hh := hh.below hb; clear c0 c1 c2 d0 d1 d2; have c0 := hh.a.c0; have c1 := hh.a.c1; have c2 := hh.a.c2; have d0 := hh.b.c0; have d1 := hh.b.c1; have d2 := hh.b.c2; replace hx := hx.below hb; clear y0 y1 y2 v0 v1 v2; have y0 := hx.a.c0; have y1 := hx.a.c1; have y2 := hx.a.c2; have v0 := hx.b.c0; have v1 := hx.b.c1; have v2 := hx.b.c2; replace r3 := r3.below hb; replace r4 := r4.below hb; replace r6 := r6.below hb; replace r7 := r7.below hb; clear hb)
      | (go_at_call 20; (with_reducible refine (same_yes _ A4 D q c4 g b2 KB2.out (by omega) r4 (HD.out.below hh.x)).mono ?_); rintro e6 w6 ⟨rfl, hb⟩; replace hh := hh.below hb; clear c0 c1 c2 d0 d1 d2; have c0 := hh.a.c0; have c1 := hh.a.c1; have c2 := hh.a.c2; have d0 := hh.b.c0; have d1 := hh.b.c1; have d2 := hh.b.c2; replace hx := hx.below hb; clear y0 y1 y2 v0 v1 v2; have y0 := hx.a.c0; have y1 := hx.a.c1; have y2 := hx.a.c2; have v0 := hx.b.c0; have v1 := hx.b.c1; have v2 := hx.b.c2; replace r3 := r3.below hb; replace r4 := r4.below hb; replace r6 := r6.below hb; replace r7 := r7.below hb; clear hb)
      | (go_at_call 20; (with_reducible refine (same_yes _ A6 A n c6 c a1 KA1.out (by omega) r6 (HA.out.below hh.x)).mono ?_); rintro e6 w6 ⟨rfl, hb⟩; replace hh := hh.below hb; clear c0 c1 c2 d0 d1 d2; have c0 := hh.a.c0; have c1 := hh.a.c1; have c2 := hh.a.c2; have d0 := hh.b.c0; have d1 := hh.b.c1; have d2 := hh.b.c2; replace hx := hx.below hb; clear y0 y1 y2 v0 v1 v2; have y0 := hx.a.c0; have y1 := hx.a.c1; have y2 := hx.a.c2; have v0 := hx.b.c0; have v1 := hx.b.c1; have v2 := hx.b.c2; replace r3 := r3.below hb; replace r4 := r4.below hb; replace r6 := r6.below hb; replace r7 := r7.below hb; clear hb)
      | (go_at_call 20; (with_reducible refine (same_yes _ A7 B m c7 d a2 KA2.out (by omega) r7 (HB.out.below hh.x)).mono ?_); rintro e6 w6 ⟨rfl, hb⟩; replace hh := hh.below hb; clear c0 c1 c2 d0 d1 d2; have c0 := hh.a.c0; have c1 := hh.a.c1; have c2 := hh.a.c2; have d0 := hh.b.c0; have d1 := hh.b.c1; have d2 := hh.b.c2; replace hx := hx.below hb; clear y0 y1 y2 v0 v1 v2; have y0 := hx.a.c0; have y1 := hx.a.c1; have y2 := hx.a.c2; have v0 := hx.b.c0; have v1 := hx.b.c1; have v2 := hx.b.c2; replace r3 := r3.below hb; replace r4 := r4.below hb; replace r6 := r6.below hb; replace r7 := r7.below hb; clear hb)
      | (go_at_call 27; (with_reducible refine (e1 _ hh.x).mono ?_); rintro e6 w6 ⟨A1, r1, rfl, q1, hb⟩; replace hh := hh.below hb; clear c0 c1 c2 d0 d1 d2; have c0 := hh.a.c0; have c1 := hh.a.c1; have c2 := hh.a.c2; have d0 := hh.b.c0; have d1 := hh.b.c1; have d2 := hh.b.c2; replace hx := hx.below hb; clear y0 y1 y2 v0 v1 v2; have y0 := hx.a.c0; have y1 := hx.a.c1; have y2 := hx.a.c2; have v0 := hx.b.c0; have v1 := hx.b.c1; have v2 := hx.b.c2; replace r3 := r3.below hb; replace r4 := r4.below hb; replace r6 := r6.below hb; replace r7 := r7.below hb; clear hb)
      | (go_at_call 27; (with_reducible refine (e2 _ A1 r1 hh.x q1).mono ?_); rintro e6 w6 ⟨A2, r2, rfl, q2, hb⟩; replace hh := hh.below hb; clear c0 c1 c2 d0 d1 d2; have c0 := hh.a.c0; have c1 := hh.a.c1; have c2 := hh.a.c2; have d0 := hh.b.c0; have d1 := hh.b.c1; have d2 := hh.b.c2; replace hx := hx.below hb; clear y0 y1 y2 v0 v1 v2; have y0 := hx.a.c0; have y1 := hx.a.c1; have y2 := hx.a.c2; have v0 := hx.b.c0; have v1 := hx.b.c1; have v2 := hx.b.c2; replace r3 := r3.below hb; replace r4 := r4.below hb; replace r6 := r6.below hb; replace r7 := r7.below hb; replace q1 := q1.below hb; clear hb)
      | (go_at_call 28; (with_reducible refine (plain11_any _ _ _ _ _ _ _ _).mono ?_); rintro e6 w6 ⟨rfl, hb⟩; replace hh := hh.below hb; clear c0 c1 c2 d0 d1 d2; have c0 := hh.a.c0; have c1 := hh.a.c1; have c2 := hh.a.c2; have d0 := hh.b.c0; have d1 := hh.b.c1; have d2 := hh.b.c2; replace hx := hx.below hb; clear y0 y1 y2 v0 v1 v2; have y0 := hx.a.c0; have y1 := hx.a.c1; have y2 := hx.a.c2; have v0 := hx.b.c0; have v1 := hx.b.c1; have v2 := hx.b.c2; replace r3 := r3.below hb; replace r4 := r4.below hb; replace r6 := r6.below hb; replace r7 := r7.below hb; (try replace q1 := q1.below hb); (try replace q2 := q2.below hb); (try replace q5 := q5.below hb); clear hb)
      | (go_at_call 25; (with_reducible refine (awake11_any _).mono ?_); rintro e9 w9 ⟨rfl, hb⟩; replace hh := hh.below hb; clear c0 c1 c2 d0 d1 d2; have c0 := hh.a.c0; have c1 := hh.a.c1; have c2 := hh.a.c2; have d0 := hh.b.c0; have d1 := hh.b.c1; have d2 := hh.b.c2; replace hx := hx.below hb; clear y0 y1 y2 v0 v1 v2; have y0 := hx.a.c0; have y1 := hx.a.c1; have y2 := hx.a.c2; have v0 := hx.b.c0; have v1 := hx.b.c1; have v2 := hx.b.c2; replace r3 := r3.below hb; replace r4 := r4.below hb; replace r6 := r6.below hb; replace r7 := r7.below hb; clear hb))
      go_ret
      exact ⟨rfl, hh.x⟩
  · clear e3 e4
    have hF : ((0 : Int) == z1) = false := by simp; omega
    have hF2 : (z1 == (0 : Int)) = false := by simp; omega
    go_wp2_with (first
      | (go_at_call 20; (with_reducible refine (same_yes _ A3 C p c3 f b1 KB1.out (by omega) r3 (HC.out.below hh.x)).mono ?_); rintro e6 w6 ⟨rfl, hb⟩; replace hh := hh.below hb; clear c0 c1 c2 d0 d1 d2; have c0 := hh.a.c0; have c1 := hh.a.c1; have c2 := hh.a.c2; have d0 := hh.b.c0; have d1 := hh.b.c1; have d2 := hh.b.c2; replace hx := hx.below hb; clear y0 y1 y2 v0 v1 v2; have y0 := hx.a.c0; have y1 := hx.a.c1; have y2 := hx.a.c2; have v0 := hx.b.c0; have v1 := hx.b.c1; have v2 := hx.b.c2; replace r3 := r3.below hb; replace r4 := r4.below hb; replace r6 := r6.below hb; replace r7 := r7.below hb; clear hb)
      | (go_at_call 20; (with_reducible refine (same_yes _ A4 D q c4 g b2 KB2.out (by omega) r4 (HD.out.below hh.x)).mono ?_); rintro e6 w6 ⟨rfl, hb⟩; replace hh := hh.below hb; clear c0 c1 c2 d0 d1 d2; have c0 := hh.a.c0; have c1 := hh.a.c1; have c2 := hh.a.c2; have d0 := hh.b.c0; have d1 := hh.b.c1; have d2 := hh.b.c2; replace hx := hx.below hb; clear y0 y1 y2 v0 v1 v2; have y0 := hx.a.c0; have y1 := hx.a.c1; have y2 := hx.a.c2; have v0 := hx.b.c0; have v1 := hx.b.c1; have v2 := hx.b.c2; replace r3 := r3.below hb; replace r4 := r4.below hb; replace r6 := r6.below hb; replace r7 := r7.below hb; clear hb)
      | (go_at_call 20; (with_reducible refine (same_yes _ A6 A n c6 c a1 KA1.out (by omega) r6 (HA.out.below hh.x)).mono ?_); rintro e6 w6 ⟨rfl, hb⟩; replace hh := hh.below hb; clear c0 c1 c2 d0 d1 d2; have c0 := hh.a.c0; have c1 := hh.a.c1; have c2 := hh.a.c2; have d0 := hh.b.c0; have d1 := hh.b.c1; have d2 := hh.b.c2; replace hx := hx.below hb; clear y0 y1 y2 v0 v1 v2; have y0 := hx.a.c0; have y1 := hx.a.c1; have y2 := hx.a.c2; have v0 := hx.b.c0; have v1 := hx.b.c1; have v2 := hx.b.c2; replace r3 := r3.below hb; replace r4 := r4.below hb; replace r6 := r6.below hb; replace r7 := r7.below hb; clear hb)
      | (go_at_call 20; (with_reducible refine (same_yes _ A7 B m c7 d a2 KA2.out (by omega) r7 (HB.out.below hh.x)).mono ?_); rintro e6 w6 ⟨rfl, hb⟩; replace hh := hh.below hb; clear c0 c1 c2 d0 d1 d2; have c0 := hh.a.c0; have c1 := hh.a.c1; have c2 := hh.a.c2; have d0 := hh.b.c0; have d1 := hh.b.c1; have d2 := hh.b.c2; replace hx := hx.below hb; clear y0 y1 y2 v0 v1 v2; have y0 := hx.a.c0; have y1 := hx.a.c1; have y2 := hx.a.c2; have v0 := hx.b.c0; have v1 := hx.b.c1; have v2 := hx.b.c2; replace r3 := r3.below hb; replace r4 := r4.below hb; replace r6 := r6.below hb; replace r7 := r7.below hb; clear hb)
      | (go_at_call 27; (with_reducible refine (e1 _ hh.x).mono ?_); rintro e6 w6 ⟨A1, r1, rfl, q1, hb⟩; replace hh := hh.below hb; clear c0 c1 c2 d0 d1 d2; have c0 := hh.a.c0; have c1 := hh.a.c1; have c2 := hh.a.c2; have d0 := hh.b.c0; have d1 := hh.b.c1; have d2 := hh.b.c2; replace hx := hx.below hb; clear y0 y1 y2 v0 v1 v2; have y0 := hx.a.c0; have y1 := hx.a.c1; have y2 := hx.a.c2; have v0 := hx.b.c0; have v1 := hx.b.c1; have v2 := hx.b.c2; replace r3 := r3.below hb; replace r4 := r4.below hb; replace r6 := r6.below hb; replace r7 := r7.below hb; clear hb)
      | (go_at_call 27; (with_reducible refine (e2 _ A1 r1 hh.x q1).mono ?_); rintro e6 w6 ⟨A2, r2, rfl, q2, hb⟩; replace hh := hh.below hb; clear c0 c1 c2 d0 d1 d2; have c0 := hh.a.c0; have c1 := hh.a.c1; have c2 := hh.a.c2; have d0 := hh.b.c0; have d1 := hh.b.c1; have d2 := hh.b.c2; replace hx := hx.below hb; clear y0 y1 y2 v0 v1 v2; have y0 := hx.a.c0; have y1 := hx.a.c1; have y2 := hx.a.c2; have v0 := hx.b.c0; have v1 := hx.b.c1; have v2 := hx.b.c2; replace r3 := r3.below hb; replace r4 := r4.below hb; replace r6 := r6.below hb; replace r7 := r7.below hb; replace q1 := q1.below hb; clear hb)
      | (go_at_call 28; (with_reducible refine (plain11_any _ _ _ _ _ _ _ _).mono ?_); rintro e6 w6 ⟨rfl, hb⟩; replace hh := hh.below hb; clear c0 c1 c2 d0 d1 d2; have c0 := hh.a.c0; have c1 := hh.a.c1; have c2 := hh.a.c2; have d0 := hh.b.c0; have d1 := hh.b.c1; have d2 := hh.b.c2; replace hx := hx.below hb; clear y0 y1 y2 v0 v1 v2; have y0 := hx.a.c0; have y1 := hx.a.c1; have y2 := hx.a.c2; have v0 := hx.b.c0; have v1 := hx.b.c1; have v2 := hx.b.c2; replace r3 := r3.below hb; replace r4 := r4.below hb; replace r6 := r6.below hb; replace r7 := r7.below hb; (try replace q1 := q1.below hb); (try replace q2 := q2.below hb); (try replace q5 := q5.below hb); clear hb)
      | (go_at_call 25; (with_reducible refine (awake11_any _).mono ?_); rintro e9 w9 ⟨rfl, hb⟩; replace hh := hh.below hb; clear c0 c1 c2 d0 d1 d2; have c0 := hh.a.c0; have c1 := hh.a.c1; have c2 := hh.a.c2; have d0 := hh.b.c0; have d1 := hh.b.c1; have d2 := hh.b.c2; replace hx := hx.below hb; clear y0 y1 y2 v0 v1 v2; have y0 := hx.a.c0; have y1 := hx.a.c1; have y2 := hx.a.c2; have v0 := hx.b.c0; have v1 := hx.b.c1; have v2 := hx.b.c2; replace r3 := r3.below hb; replace r4 := r4.below hb; replace r6 := r6.below hb; replace r7 := r7.below hb; clear hb))
    go_ret
    exact ⟨rfl, hh.x⟩

end Go.Proofs.Ytlbmikjgpaeddaa

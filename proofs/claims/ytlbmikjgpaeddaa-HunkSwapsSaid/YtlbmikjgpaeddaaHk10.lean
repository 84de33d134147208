
/- hunk: the body of the law of Apply, its calls given. -/
import Derived.Test.YtlbmikjgpaeddaaHk9
set_option linter.unusedSimpArgs false
set_option linter.unusedVariables false
namespace Go.Proofs.Ytlbmikjgpaeddaa
open Go.RowKit Go.Qc Go.Shelf
attribute [local go_sem] txt_size txt_append ib_fold txt_toL

theorem same_yes (W : World) (A A2 : Option Addr) (N c c2 : Nat) (r : List (List UInt8)) (hN : r.length = N) (bN : N ≤ 10000) (h1 : Rd W A (r.map strV)) (h2 : Rd W A2 (r.map strV)) :
    Calls Try.prog 20 #[.slice A N c, .slice A2 N c2] W fun e w' => e = .returned (.bool true) ∧ Below W.heap.size W w' := by
  have := same_any A A2 N N c c2 r r hN hN (by omega) (by omega) W h1 h2
  rw [decide_eq_true rfl] at this
  exact this
theorem Hk.c0l {W : World} {g : Nat} {t : TypeId} {at' : Int} {u v : Value} (h : Hk W g t at' u v) (p : LtW W) : p.w.cell? ⟨g, 0, none⟩ = some (.int .i64 at') := (h.below p.h).c0
theorem Hk.c1l {W : World} {g : Nat} {t : TypeId} {at' : Int} {u v : Value} (h : Hk W g t at' u v) (p : LtW W) : p.w.cell? ⟨g, 1, none⟩ = some u := (h.below p.h).c1
theorem Hk.c2l {W : World} {g : Nat} {t : TypeId} {at' : Int} {u v : Value} (h : Hk W g t at' u v) (p : LtW W) : p.w.cell? ⟨g, 2, none⟩ = some v := (h.below p.h).c2

set_option maxRecDepth 100000 in
set_option maxHeartbeats 16000000 in
theorem ha_gen (L : Option Addr) (k e : Nat) (ls : List (List UInt8)) (at' : Int) (A : Option Addr) (n c : Nat) (old : List (List UInt8)) (B : Option Addr) (m d : Nat) (new : List (List UInt8)) (R : List (List UInt8)) (N1 : Nat) (hN1 : R.length = N1) (bN : N1 ≤ 1000) (z : Int) (lb rb fb : Bool) (hfb : (z == 0 || z == 4) = fb) (w : World)
    (hk : ls.length = k) (hn : old.length = n) (hm : new.length = m) (bk : k ≤ 60) (bn : n ≤ 60) (bm : m ≤ 60) (hL : Rd w L (ls.map strV)) (hA : Rd w A (old.map strV)) (hB : Rd w B (new.map strV))
    (cG : ∀ W, Below w.heap.size w W → Calls Try.prog 24 #[.slice (some ⟨W.heap.size, 0, none⟩) 3 3] (W.alloc (.cells #[.slice L k e, .slice A n c, .slice B m d] 25)) fun e w' => e = .returned (.bool false) ∧ Below W.heap.size W w')
    (cA : ∀ W, Below w.heap.size w W → Calls Try.prog 26 #[.slice L k e, .agg #[.int .i64 at', .slice A n c, .slice B m d]] W fun e w' => ∃ A1 c1, e = .returned (.tuple #[.slice A1 N1 c1, .int .i64 z]) ∧ N1 ≤ c1 ∧ (A1 = none → c1 = 0) ∧ Rd w' A1 (R.map strV) ∧ Below W.heap.size W w')
    (dA : ∀ W, Below w.heap.size w W → Calls Try.prog 27 #[.slice L k e, .agg #[.int .i64 at', .slice A n c, .slice B m d]] W fun e w' => ∃ A1 c1, e = .returned (.tuple #[.slice A1 N1 c1, .int .i64 z]) ∧ Rd w' A1 (R.map strV) ∧ Below W.heap.size W w')
    (cL : ∀ W, Below w.heap.size w W → Calls Try.prog 29 #[.slice L k e] W fun e w' => e = .returned (.bool lb) ∧ Below W.heap.size W w')
    (dL : ∀ W, Below w.heap.size w W → Calls Try.prog 30 #[.slice L k e] W fun e w' => e = .returned (.bool lb) ∧ Below W.heap.size W w')
    (cR : ∀ W, Below w.heap.size w W → Calls Try.prog 31 #[.agg #[.int .i64 at', .slice A n c, .slice B m d]] W fun e w' => e = .returned (.bool rb) ∧ Below W.heap.size W w')
    (dR : ∀ W, Below w.heap.size w W → Calls Try.prog 32 #[.agg #[.int .i64 at', .slice A n c, .slice B m d]] W fun e w' => e = .returned (.bool rb) ∧ Below W.heap.size W w')
    (cF : ∀ W, Below w.heap.size w W → Calls Try.prog 33 #[.slice L k e, .agg #[.int .i64 at', .slice A n c, .slice B m d]] W fun e w' => e = .returned (.bool fb) ∧ Below W.heap.size W w')
    (cI : ∀ W, Below w.heap.size w W → Calls Try.prog 34 #[.agg #[.int .i64 at', .slice A n c, .slice B m d]] W fun e w' => ∃ A' c' B' d', e = .returned (.agg #[.int .i64 at', .slice B' m d', .slice A' n c']) ∧ n ≤ c' ∧ (A' = none → c' = 0) ∧ Rd w' A' (old.map strV) ∧ Rd w' B' (new.map strV) ∧ Below W.heap.size W w')
    (cB : z = 0 → ∀ (W : World) (A1 : Option Addr) (d1 : Nat), Rd W A1 (R.map strV) → N1 ≤ d1 → (A1 = none → d1 = 0) → ∀ (B' A' : Option Addr) (d' c' : Nat), Rd W B' (new.map strV) → Rd W A' (old.map strV) → n ≤ c' → (A' = none → c' = 0) → Calls Try.prog 26 #[.slice A1 N1 d1, .agg #[.int .i64 at', .slice B' m d', .slice A' n c']] W fun e w' => ∃ A3 c3, e = .returned (.tuple #[.slice A3 k c3, .int .i64 0]) ∧ Rd w' A3 (ls.map strV) ∧ Below W.heap.size W w')
    : Calls Try.prog 6 #[.slice L k e, .agg #[.int .i64 at', .slice A n c, .slice B m d]] w fun e w' => e = .returned (.bool true) ∧ Below w.heap.size w w' := by
  have hX : Below w.heap.size w (w.alloc (.cells #[.int .i64 at', .slice A n c, .slice B m d] 38)) := (Below.refl _ w).alloc (Nat.le_refl _) _
  have hh := Hk.new w 38 at' (.slice A n c) (.slice B m d)
  have c0 := hh.c0
  have c1 := hh.c1
  have c2 := hh.c2
  have HL := hid hL
  have HA := hid hA
  have HB := hid hB
  have HK := hid hk
  have HN := hid hn
  have HM := hid hm
  have HN1 := hid hN1
  clear hL hA hB hk hn hm hN1
  have hG := cG _ hX
  have hs : (w.alloc (.cells #[.int .i64 at', .slice A n c, .slice B m d] 38)).heap.size = w.heap.size + 1 := by simp
  rw [hs] at hG
  clear cG
  go_enter Try.func6, Try.ntmps6
  go_wp2_with (first
    | (go_at_call 24; (with_reducible refine hG.mono ?_); rintro e1 w1 ⟨rfl, hb⟩; rw [← hs] at hb; clear hG hs; replace hh := hh.below hb; replace hX := hX.trans (hb.mono hX.size); clear c0 c1 c2; have c0 := hh.c0; have c1 := hh.c1; have c2 := hh.c2; clear hb)
    | (go_at_call 26; (with_reducible refine (cA _ hX).mono ?_); rintro e2 w2 ⟨A1, d1, rfl, hc1, hz1, r1, hb⟩; replace hh := hh.below hb; replace hX := hX.trans (hb.mono hX.size); clear c0 c1 c2; have c0 := hh.c0; have c1 := hh.c1; have c2 := hh.c2; clear hb)
    | (go_at_call 28; (with_reducible refine (plain11_any at' A n c B m d _).mono ?_); rintro e3 w3 ⟨rfl, hb⟩; replace hh := hh.below hb; replace hX := hX.trans (hb.mono hX.size); clear c0 c1 c2; have c0 := hh.c0; have c1 := hh.c1; have c2 := hh.c2; replace r1 := r1.below hb; clear hb)
    | (go_at_call 27; (with_reducible refine (dA _ hX).mono ?_); rintro e4 w4 ⟨A2, d2, rfl, r2, hb⟩; replace hh := hh.below hb; replace hX := hX.trans (hb.mono hX.size); clear c0 c1 c2; have c0 := hh.c0; have c1 := hh.c1; have c2 := hh.c2; replace r1 := r1.below hb; clear hb))
  have l0 := hh.c0l
  have l1 := hh.c1l
  have l2 := hh.c2l
  have qS : ∀ p : LtW w4, Calls Try.prog 20 #[.slice A1 N1 d1, .slice A2 N1 d2] p.w fun e w' => e = .returned (.bool true) ∧ Below p.w.heap.size p.w w' := fun p => same_yes p.w A1 A2 N1 d1 d2 R HN1.out (by omega) (r1.below p.h) (r2.below p.h)
  have hXp : ∀ p : LtW w4, Below w.heap.size w p.w := fun p => hX.trans (p.h.mono hX.size)
  clear c0 c1 c2
  refine wp_region_lt mixed10 (by kernel_rfl) ?_
  repeat (first
    | ((with_reducible refine wpQuiet_skip (by with_unfolding_all rfl) ?_); simp only [Act.put, List.setIfInBounds_toArray, List.set_cons_zero, List.set_cons_succ])
    | ((with_reducible refine wpQuiet_step (fun K hK => ?_)); go_simp; first | ((with_reducible refine hK _ ?_); clear hK K) | (with_reducible apply Exists.intro; (with_reducible refine ⟨fun p => ?_, hK _ ?_⟩); ((first | (go_at_call 20; exact lt_of (qS p)) | (go_at_call 29; exact lt_of (cL _ (hXp p))) | (go_at_call 30; exact lt_of (dL _ (hXp p))) | (go_at_call 31; exact lt_of (cR _ (hXp p))) | (go_at_call 28; exact lt_of (plain11_any at' A n c B m d _)) | (go_at_call 32; exact lt_of (dR _ (hXp p))))); clear hK K)))
  with_reducible refine wpQuiet_nil ?_
  intro _ hw'
  obtain ⟨p, rfl⟩ := hw'
  have hp := p.h
  clear l0 l1 l2 qS hXp
  generalize p.w = w5 at *
  replace hh := hh.below hp
  replace hX := hX.trans (hp.mono hX.size)
  replace r1 := r1.below hp
  clear hp r2
  have c0 := hh.c0
  have c1 := hh.c1
  have c2 := hh.c2
  by_cases h0 : z = 0
  · subst h0
    obtain rfl : fb = true := by rw [← hfb]; rfl
    have cB' := cB rfl
    clear cB hfb cA dA cL dL cR dR
    go_wp2_with (first
      | (go_at_call 33; (with_reducible refine (cF _ hX).mono ?_); rintro e6 w6 ⟨rfl, hb⟩; replace hh := hh.below hb; replace hX := hX.trans (hb.mono hX.size); clear c0 c1 c2; have c0 := hh.c0; have c1 := hh.c1; have c2 := hh.c2; replace r1 := r1.below hb; clear hb)
      | (go_at_call 34; (with_reducible refine (cI _ hX).mono ?_); rintro e7 w7 ⟨A', c', B', d', rfl, hc', hz', rA, rB, hb⟩; replace hh := hh.below hb; replace hX := hX.trans (hb.mono hX.size); clear c0 c1 c2; have c0 := hh.c0; have c1 := hh.c1; have c2 := hh.c2; replace r1 := r1.below hb; clear hb; have hq := Hk.new w7 38 at' (.slice B' m d') (.slice A' n c'); have hal : Below w7.heap.size w7 (w7.alloc (.cells #[.int .i64 at', .slice B' m d', .slice A' n c'] 38)) := (Below.refl _ w7).alloc (Nat.le_refl _) _; replace hh := hh.below hal; replace hX := hX.trans (hal.mono hX.size); clear c0 c1 c2; have c0 := hh.c0; have c1 := hh.c1; have c2 := hh.c2; replace r1 := r1.below hal; replace rA := rA.below hal; replace rB := rB.below hal; clear hal; have y0 := hq.c0; have y1 := hq.c1; have y2 := hq.c2)
      | (go_at_call 20; (with_reducible refine (same_yes _ B' B m d' d new HM.out (by omega) rB (HB.out.below hX)).mono ?_); rintro e8 w8 ⟨rfl, hb⟩; replace hh := hh.below hb; replace hq := hq.below hb; replace hX := hX.trans (hb.mono hX.size); replace r1 := r1.below hb; replace rA := rA.below hb; replace rB := rB.below hb; clear c0 c1 c2 y0 y1 y2; have c0 := hh.c0; have c1 := hh.c1; have c2 := hh.c2; have y0 := hq.c0; have y1 := hq.c1; have y2 := hq.c2; clear hb)
      | (go_at_call 20; (with_reducible refine (same_yes _ A' A n c' c old HN.out (by omega) rA (HA.out.below hX)).mono ?_); rintro e8 w8 ⟨rfl, hb⟩; replace hh := hh.below hb; replace hq := hq.below hb; replace hX := hX.trans (hb.mono hX.size); replace r1 := r1.below hb; replace rA := rA.below hb; replace rB := rB.below hb; clear c0 c1 c2 y0 y1 y2; have c0 := hh.c0; have c1 := hh.c1; have c2 := hh.c2; have y0 := hq.c0; have y1 := hq.c1; have y2 := hq.c2; clear hb)
      | (go_at_call 26; (with_reducible refine (cB' _ A1 d1 r1 hc1 hz1 B' A' d' c' rB rA hc' hz').mono ?_); rintro e9 w9 ⟨A3, d3, rfl, r3, hb⟩; replace hh := hh.below hb; replace hq := hq.below hb; replace hX := hX.trans (hb.mono hX.size); replace r1 := r1.below hb; replace rA := rA.below hb; replace rB := rB.below hb; clear c0 c1 c2 y0 y1 y2; have c0 := hh.c0; have c1 := hh.c1; have c2 := hh.c2; have y0 := hq.c0; have y1 := hq.c1; have y2 := hq.c2; clear hb)
      | (go_at_call 20; (with_reducible refine (same_yes _ A3 L k d3 e ls HK.out (by omega) r3 (HL.out.below hX)).mono ?_); rintro e8 w8 ⟨rfl, hb⟩; replace hh := hh.below hb; replace hq := hq.below hb; replace hX := hX.trans (hb.mono hX.size); replace r1 := r1.below hb; replace rA := rA.below hb; replace rB := rB.below hb; clear c0 c1 c2 y0 y1 y2; have c0 := hh.c0; have c1 := hh.c1; have c2 := hh.c2; have y0 := hq.c0; have y1 := hq.c1; have y2 := hq.c2; clear hb)
      | (go_at_call 25; (with_reducible refine (awake11_any _).mono ?_); rintro e9 w9 ⟨rfl, hb⟩; replace hX := hX.trans (hb.mono hX.size); clear hb))
    go_ret
    exact ⟨rfl, hX⟩
  · have hF : ((0 : Int) == z) = false := by simp; omega
    have hF2 : (z == (0 : Int)) = false := by simp; omega
    rw [hF2, Bool.false_or] at hfb
    obtain ⟨b4, h4⟩ : ∃ b, (z == (4 : Int)) = b := ⟨_, rfl⟩
    rw [h4] at hfb
    subst hfb
    clear cB cA dA cL dL cR dR
    cases b4 <;>
    go_wp2_with (first
      | (go_at_call 33; (with_reducible refine (cF _ hX).mono ?_); rintro e6 w6 ⟨rfl, hb⟩; replace hh := hh.below hb; replace hX := hX.trans (hb.mono hX.size); clear c0 c1 c2; have c0 := hh.c0; have c1 := hh.c1; have c2 := hh.c2; replace r1 := r1.below hb; clear hb)
      | (go_at_call 34; (with_reducible refine (cI _ hX).mono ?_); rintro e7 w7 ⟨A', c', B', d', rfl, hc', hz', rA, rB, hb⟩; replace hh := hh.below hb; replace hX := hX.trans (hb.mono hX.size); clear c0 c1 c2; have c0 := hh.c0; have c1 := hh.c1; have c2 := hh.c2; replace r1 := r1.below hb; clear hb; have hq := Hk.new w7 38 at' (.slice B' m d') (.slice A' n c'); have hal : Below w7.heap.size w7 (w7.alloc (.cells #[.int .i64 at', .slice B' m d', .slice A' n c'] 38)) := (Below.refl _ w7).alloc (Nat.le_refl _) _; replace hh := hh.below hal; replace hX := hX.trans (hal.mono hX.size); clear c0 c1 c2; have c0 := hh.c0; have c1 := hh.c1; have c2 := hh.c2; replace r1 := r1.below hal; replace rA := rA.below hal; replace rB := rB.below hal; clear hal; have y0 := hq.c0; have y1 := hq.c1; have y2 := hq.c2)
      | (go_at_call 20; (with_reducible refine (same_yes _ B' B m d' d new HM.out (by omega) rB (HB.out.below hX)).mono ?_); rintro e8 w8 ⟨rfl, hb⟩; replace hh := hh.below hb; replace hq := hq.below hb; replace hX := hX.trans (hb.mono hX.size); replace r1 := r1.below hb; replace rA := rA.below hb; replace rB := rB.below hb; clear c0 c1 c2 y0 y1 y2; have c0 := hh.c0; have c1 := hh.c1; have c2 := hh.c2; have y0 := hq.c0; have y1 := hq.c1; have y2 := hq.c2; clear hb)
      | (go_at_call 20; (with_reducible refine (same_yes _ A' A n c' c old HN.out (by omega) rA (HA.out.below hX)).mono ?_); rintro e8 w8 ⟨rfl, hb⟩; replace hh := hh.below hb; replace hq := hq.below hb; replace hX := hX.trans (hb.mono hX.size); replace r1 := r1.below hb; replace rA := rA.below hb; replace rB := rB.below hb; clear c0 c1 c2 y0 y1 y2; have c0 := hh.c0; have c1 := hh.c1; have c2 := hh.c2; have y0 := hq.c0; have y1 := hq.c1; have y2 := hq.c2; clear hb)
      | (go_at_call 25; (with_reducible refine (awake11_any _).mono ?_); rintro e9 w9 ⟨rfl, hb⟩; replace hX := hX.trans (hb.mono hX.size); clear hb))
    all_goals go_ret
    all_goals exact ⟨rfl, hX⟩

end Go.Proofs.Ytlbmikjgpaeddaa

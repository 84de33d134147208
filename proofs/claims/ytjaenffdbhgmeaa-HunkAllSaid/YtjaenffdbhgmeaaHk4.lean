
/- hunk: lines with a hunk. -/
import Derived.Test.YtjaenffdbhgmeaaHk3
set_option linter.unusedSimpArgs false
set_option linter.unusedVariables false
namespace Go.Proofs.Ytjaenffdbhgmeaa
open Go.RowKit Go.Qc Go.Shelf
attribute [local go_sem] txt_size txt_append ib_fold txt_toL

theorem hright_any (at' : Int) (A : Option Addr) (n c : Nat) (old : List (List UInt8)) (hn : old.length = n) (bn : n ≤ 1000000) (B : Option Addr) (m d : Nat) (new : List (List UInt8)) (hm : new.length = m) (bm : m ≤ 1000000) (w : World)
    (hA : Rd w A (old.map strV)) (hB : Rd w B (new.map strV)) :
    Calls Try.prog 80 #[.agg #[.int .i64 at', .slice A n c, .slice B m d]] w fun e w' => e = .returned (.bool (hunkR at' old new)) ∧ Below w.heap.size w w' := by
  have := hright_gen at' A n c B m d bn bm (linesR old) (linesR new) w
    (fun W hb => (lines_any A n c old hn (by omega) W (hA.below hb)).mono (by rintro e w' ⟨h1, h2⟩; exact ⟨h1, h2⟩))
    (fun W hb => (lines_any B m d new hm (by omega) W (hB.below hb)).mono (by rintro e w' ⟨h1, h2⟩; exact ⟨h1, h2⟩))
  unfold hunkR
  rw [hn, hm]
  exact this

set_option maxRecDepth 100000 in
set_option maxHeartbeats 2000000 in
theorem app_form (L : Option Addr) (k e : Nat) (at' : Int) (A : Option Addr) (n c : Nat) (B : Option Addr) (m d : Nat) (w : World)
    (cR : ∀ W, Below w.heap.size w W → Calls Try.prog 80 #[.agg #[.int .i64 at', .slice A n c, .slice B m d]] W fun e w' => e = .returned (.bool false) ∧ Below W.heap.size W w')
    : Calls Try.prog 46 #[.slice L k e, .agg #[.int .i64 at', .slice A n c, .slice B m d]] w fun e w' => e = .returned (.tuple #[.slice none 0 0, .int .i64 3]) ∧ Below w.heap.size w w' := by
  have hX : Below w.heap.size w (w.alloc (.cells #[.int .i64 at', .slice A n c, .slice B m d] 42)) := (Below.refl _ w).alloc (Nat.le_refl _) _
  have hh := Hk.new w 42 at' (.slice A n c) (.slice B m d)
  go_enter Try.func46, Try.ntmps46
  go_wp2_with (first
    | (go_at_call 80; (with_reducible refine (cR _ hX).mono ?_); rintro e1 w1 ⟨rfl, hb⟩; replace hh := hh.below hb; replace hX := hX.trans (hb.mono hX.size); clear hb; have c0 := hh.c0; have c1 := hh.c1; have c2 := hh.c2)
    | (go_at_call 81; (with_reducible refine (cF _ hX).mono ?_); rintro e2 w2 ⟨rfl, hb⟩; clear c0 c1 c2; replace hh := hh.below hb; replace hX := hX.trans (hb.mono hX.size); clear hb; have c0 := hh.c0; have c1 := hh.c1; have c2 := hh.c2))
  go_ret2
  exact ⟨rfl, hX⟩

set_option maxRecDepth 100000 in
set_option maxHeartbeats 2000000 in
theorem app_range (L : Option Addr) (k e : Nat) (at' : Int) (A : Option Addr) (n c : Nat) (B : Option Addr) (m d : Nat) (w : World)
    (h1 : (k : Int) < at')
    (cR : ∀ W, Below w.heap.size w W → Calls Try.prog 80 #[.agg #[.int .i64 at', .slice A n c, .slice B m d]] W fun e w' => e = .returned (.bool true) ∧ Below W.heap.size W w')
    : Calls Try.prog 46 #[.slice L k e, .agg #[.int .i64 at', .slice A n c, .slice B m d]] w fun e w' => e = .returned (.tuple #[.slice none 0 0, .int .i64 5]) ∧ Below w.heap.size w w' := by
  have hX : Below w.heap.size w (w.alloc (.cells #[.int .i64 at', .slice A n c, .slice B m d] 42)) := (Below.refl _ w).alloc (Nat.le_refl _) _
  have hh := Hk.new w 42 at' (.slice A n c) (.slice B m d)
  go_enter Try.func46, Try.ntmps46
  go_wp2_with (first
    | (go_at_call 80; (with_reducible refine (cR _ hX).mono ?_); rintro e1 w1 ⟨rfl, hb⟩; replace hh := hh.below hb; replace hX := hX.trans (hb.mono hX.size); clear hb; have c0 := hh.c0; have c1 := hh.c1; have c2 := hh.c2)
    | (go_at_call 81; (with_reducible refine (cF _ hX).mono ?_); rintro e2 w2 ⟨rfl, hb⟩; clear c0 c1 c2; replace hh := hh.below hb; replace hX := hX.trans (hb.mono hX.size); clear hb; have c0 := hh.c0; have c1 := hh.c1; have c2 := hh.c2))
  go_ret2
  exact ⟨rfl, hX⟩

set_option maxRecDepth 100000 in
set_option maxHeartbeats 2000000 in
theorem app_clash (L : Option Addr) (k e : Nat) (at' : Int) (A : Option Addr) (n c : Nat) (B : Option Addr) (m d : Nat) (w : World)
    (h1 : ¬ (k : Int) < at')
    (cR : ∀ W, Below w.heap.size w W → Calls Try.prog 80 #[.agg #[.int .i64 at', .slice A n c, .slice B m d]] W fun e w' => e = .returned (.bool true) ∧ Below W.heap.size W w')
    (cF : ∀ W, Below w.heap.size w W → Calls Try.prog 81 #[.slice L k e, .agg #[.int .i64 at', .slice A n c, .slice B m d]] W fun e w' => e = .returned (.bool false) ∧ Below W.heap.size W w')
    : Calls Try.prog 46 #[.slice L k e, .agg #[.int .i64 at', .slice A n c, .slice B m d]] w fun e w' => e = .returned (.tuple #[.slice none 0 0, .int .i64 12]) ∧ Below w.heap.size w w' := by
  have hX : Below w.heap.size w (w.alloc (.cells #[.int .i64 at', .slice A n c, .slice B m d] 42)) := (Below.refl _ w).alloc (Nat.le_refl _) _
  have hh := Hk.new w 42 at' (.slice A n c) (.slice B m d)
  go_enter Try.func46, Try.ntmps46
  go_wp2_with (first
    | (go_at_call 80; (with_reducible refine (cR _ hX).mono ?_); rintro e1 w1 ⟨rfl, hb⟩; replace hh := hh.below hb; replace hX := hX.trans (hb.mono hX.size); clear hb; have c0 := hh.c0; have c1 := hh.c1; have c2 := hh.c2)
    | (go_at_call 81; (with_reducible refine (cF _ hX).mono ?_); rintro e2 w2 ⟨rfl, hb⟩; clear c0 c1 c2; replace hh := hh.below hb; replace hX := hX.trans (hb.mono hX.size); clear hb; have c0 := hh.c0; have c1 := hh.c1; have c2 := hh.c2))
  go_ret2
  exact ⟨rfl, hX⟩

set_option maxRecDepth 100000 in
set_option maxHeartbeats 2000000 in
theorem app_long (L : Option Addr) (k e : Nat) (at' : Int) (A : Option Addr) (n c : Nat) (B : Option Addr) (m d : Nat) (w : World)
    (h1 : ¬ (k : Int) < at') (bk : k ≤ 1000) (bn : n ≤ 1000) (bm : m ≤ 1000) (hl : (1000 : Int) < (k : Int) - n + m)
    (cR : ∀ W, Below w.heap.size w W → Calls Try.prog 80 #[.agg #[.int .i64 at', .slice A n c, .slice B m d]] W fun e w' => e = .returned (.bool true) ∧ Below W.heap.size W w')
    (cF : ∀ W, Below w.heap.size w W → Calls Try.prog 81 #[.slice L k e, .agg #[.int .i64 at', .slice A n c, .slice B m d]] W fun e w' => e = .returned (.bool true) ∧ Below W.heap.size W w')
    : Calls Try.prog 46 #[.slice L k e, .agg #[.int .i64 at', .slice A n c, .slice B m d]] w fun e w' => e = .returned (.tuple #[.slice none 0 0, .int .i64 4]) ∧ Below w.heap.size w w' := by
  have hX : Below w.heap.size w (w.alloc (.cells #[.int .i64 at', .slice A n c, .slice B m d] 42)) := (Below.refl _ w).alloc (Nat.le_refl _) _
  have hh := Hk.new w 42 at' (.slice A n c) (.slice B m d)
  have hw1 : wrap64 ((k : Int) - n) = (k : Int) - n := by unfold wrap64; omega
  have hw2 : wrap64 ((k : Int) - n + m) = (k : Int) - n + m := by unfold wrap64; omega
  go_enter Try.func46, Try.ntmps46
  go_wp2_with (first
    | (go_at_call 80; (with_reducible refine (cR _ hX).mono ?_); rintro e1 w1 ⟨rfl, hb⟩; replace hh := hh.below hb; replace hX := hX.trans (hb.mono hX.size); clear hb; have c0 := hh.c0; have c1 := hh.c1; have c2 := hh.c2)
    | (go_at_call 81; (with_reducible refine (cF _ hX).mono ?_); rintro e2 w2 ⟨rfl, hb⟩; clear c0 c1 c2; replace hh := hh.below hb; replace hX := hX.trans (hb.mono hX.size); clear hb; have c0 := hh.c0; have c1 := hh.c1; have c2 := hh.c2))
  go_ret2
  exact ⟨rfl, hX⟩

set_option maxRecDepth 100000 in
set_option maxHeartbeats 8000000 in
theorem app_ok (L : Option Addr) (k e : Nat) (at' : Int) (A : Option Addr) (n c : Nat) (B : Option Addr) (m d : Nat) (w : World)
    (h1 : ¬ (k : Int) < at') (h2 : -10000 ≤ at') (hb3 : k ≤ 1000 ∧ n ≤ 1000 ∧ m ≤ 1000) (hl : ¬ (1000 : Int) < (k : Int) - n + m)
    (cR : ∀ W, Below w.heap.size w W → Calls Try.prog 80 #[.agg #[.int .i64 at', .slice A n c, .slice B m d]] W fun e w' => e = .returned (.bool true) ∧ Below W.heap.size W w')
    (cF : ∀ W, Below w.heap.size w W → Calls Try.prog 81 #[.slice L k e, .agg #[.int .i64 at', .slice A n c, .slice B m d]] W fun e w' => e = .returned (.bool true) ∧ Below W.heap.size W w')
    (A1 A2 : Option Addr) (n1 d1 n2 d2 : Nat) (R : List (List UInt8))
    (s1 : ∀ W, (Instr.sliceAt 37 (.slice L k e) none (some (.int .i64 at')) (some (.int .i64 at'))).run Try.prog W = .ok (.slice A1 n1 d1) W)
    (s2 : ∀ W, (Instr.sliceAt 37 (.slice L k e) (some (.int .i64 (at' + n))) (some (.int .i64 (k : Int))) (some (.int .i64 (k : Int)))).run Try.prog W = .ok (.slice A2 n2 d2) W)
    (cC : ∀ W, Below w.heap.size w W → Calls Try.prog 83 #[.slice (some ⟨W.heap.size, 0, none⟩) 3 3] (W.alloc (.cells #[.slice A1 n1 d1, .slice B m d, .slice A2 n2 d2] 37)) fun e w' => ∃ v, e = .returned v ∧ w'.ownsRow w.heap.size 9 1 v R.length (R.map strV) ∧ Below w.heap.size w w')
    : Calls Try.prog 46 #[.slice L k e, .agg #[.int .i64 at', .slice A n c, .slice B m d]] w fun e w' => ∃ v, e = .returned (.tuple #[v, .int .i64 0]) ∧ w'.ownsRow w.heap.size 9 1 v R.length (R.map strV) ∧ Below w.heap.size w w' := by
  have hX : Below w.heap.size w (w.alloc (.cells #[.int .i64 at', .slice A n c, .slice B m d] 42)) := (Below.refl _ w).alloc (Nat.le_refl _) _
  have hh := Hk.new w 42 at' (.slice A n c) (.slice B m d)
  have hw1 : wrap64 ((k : Int) - n) = (k : Int) - n := by unfold wrap64; omega
  have hw2 : wrap64 ((k : Int) - n + m) = (k : Int) - n + m := by unfold wrap64; omega
  have hw : wrap64 (at' + n) = at' + n := by unfold wrap64; omega
  have cB := behind_any at' A n c B m d _ hw
  obtain ⟨bk, bn, bm⟩ := hb3
  go_enter Try.func46, Try.ntmps46
  go_wp2_with (first
    | (go_at_call 80; (with_reducible refine (cR _ hX).mono ?_); rintro e1 w1 ⟨rfl, hb⟩; replace hh := hh.below hb; replace hX := hX.trans (hb.mono hX.size); clear hb; have c0 := hh.c0; have c1 := hh.c1; have c2 := hh.c2)
    | (go_at_call 81; (with_reducible refine (cF _ hX).mono ?_); rintro e2 w2 ⟨rfl, hb⟩; clear c0 c1 c2; replace hh := hh.below hb; replace hX := hX.trans (hb.mono hX.size); clear hb; have c0 := hh.c0; have c1 := hh.c1; have c2 := hh.c2))
  have l0 : ∀ p : LtW w2, p.w.cell? ⟨w.heap.size, 0, none⟩ = some (.int .i64 at') := fun p => (hh.below p.h).c0
  have l1 : ∀ p : LtW w2, p.w.cell? ⟨w.heap.size, 1, none⟩ = some (.slice A n c) := fun p => (hh.below p.h).c1
  have l2 : ∀ p : LtW w2, p.w.cell? ⟨w.heap.size, 2, none⟩ = some (.slice B m d) := fun p => (hh.below p.h).c2
  clear c0 c1 c2
  refine wp_region_lt mixed10 (by kernel_rfl) ?_
  repeat (first
    | ((with_reducible refine wpQuiet_skip (by with_unfolding_all rfl) ?_); simp only [Act.put, List.setIfInBounds_toArray, List.set_cons_zero, List.set_cons_succ])
    | ((with_reducible refine wpQuiet_step (fun K hK => ?_)); go_simp; first | ((with_reducible refine hK _ ?_); clear hK K) | (with_reducible apply Exists.intro; (with_reducible refine ⟨fun _ => ?_, hK _ ?_⟩); (go_at_call 82; exact lt_of (cB _)); clear hK K)))
  with_reducible refine wpQuiet_nil ?_
  intro _ hw'
  obtain ⟨p, rfl⟩ := hw'
  have hp := p.h
  replace hh := hh.below hp
  replace hX := hX.trans (hp.mono hX.size)
  generalize p.w = w4 at *
  clear l0 l1 l2
  have c2 := hh.c2
  go_wp2_with (go_at_call 83; (with_reducible refine (cC _ hX).mono ?_); rintro e5 w5 ⟨v, rfl, hown, hb⟩)
  go_ret2
  exact ⟨v, rfl, hown, hb⟩

/-- Lines with a hunk; what is wrong. -/
def appR (l : List (List UInt8)) (at' : Int) (old new : List (List UInt8)) : List (List UInt8) × Int :=
  if hunkR at' old new = false then ([], 3) else if (l.length : Int) < at' then ([], 5) else if fitR l old at'.toNat = false then ([], 12)
  else if 1000 < l.length - old.length + new.length then ([], 4) else (l.take at'.toNat ++ (new ++ l.drop (at'.toNat + old.length)), 0)
theorem hunkR_at {at' : Int} {old new : List (List UInt8)} (h : hunkR at' old new = true) : 0 ≤ at' ∧ at' ≤ 1000 := by
  unfold hunkR at h
  rw [Bool.and_eq_true, Bool.and_eq_true, decide_eq_true_eq, decide_eq_true_eq] at h
  exact ⟨h.1, h.2.1⟩
theorem applied_any (L : Option Addr) (k e : Nat) (ls : List (List UInt8)) (hk : ls.length = k) (hke : k ≤ e) (hL0 : L = none → e = 0) (bk : k ≤ 1000) (at' : Int) (A : Option Addr) (n c : Nat) (old : List (List UInt8)) (hn : old.length = n) (bn : n ≤ 1000) (B : Option Addr) (m d : Nat) (new : List (List UInt8)) (hm : new.length = m) (bm : m ≤ 1000) (hB0 : B = none → d = 0) (w : World)
    (hL : Rd w L (ls.map strV)) (hA : Rd w A (old.map strV)) (hB : Rd w B (new.map strV)) :
    Calls Try.prog 46 #[.slice L k e, .agg #[.int .i64 at', .slice A n c, .slice B m d]] w fun e w' => ∃ v, e = .returned (.tuple #[v, .int .i64 (appR ls at' old new).2]) ∧ w'.ownsRow w.heap.size 9 1 v (appR ls at' old new).1.length ((appR ls at' old new).1.map strV) ∧ Below w.heap.size w w' := by
  have cR : ∀ W, Below w.heap.size w W → Calls Try.prog 80 #[.agg #[.int .i64 at', .slice A n c, .slice B m d]] W fun e w' => e = .returned (.bool (hunkR at' old new)) ∧ Below W.heap.size W w' := fun W hb => hright_any at' A n c old hn (by omega) B m d new hm (by omega) W (hA.below hb) (hB.below hb)
  have nil : ∀ (z : Int) (e : Ending) (w' : World), e = .returned (.tuple #[.slice none 0 0, .int .i64 z]) ∧ Below w.heap.size w w' → ∃ v, e = .returned (.tuple #[v, .int .i64 z]) ∧ w'.ownsRow w.heap.size 9 1 v ([] : List (List UInt8)).length (([] : List (List UInt8)).map strV) ∧ Below w.heap.size w w' := fun z e w' h => ⟨_, h.1, World.ownsRow_nil _ _ _ _, h.2⟩
  unfold appR
  rw [hk, hn, hm]
  cases hR : hunkR at' old new with
  | false =>
    rw [hR] at cR
    rw [if_pos rfl]
    exact (app_form L k e at' A n c B m d w cR).mono (nil 3)
  | true =>
    rw [hR] at cR
    obtain ⟨h0, h1⟩ := hunkR_at hR
    rw [if_neg (by simp)]
    by_cases hka : (k : Int) < at'
    · rw [if_pos hka]
      exact (app_range L k e at' A n c B m d w hka cR).mono (nil 5)
    rw [if_neg hka]
    obtain ⟨a, rfl⟩ : ∃ a : Nat, at' = a := ⟨at'.toNat, by omega⟩
    rw [Int.toNat_natCast]
    have cF : ∀ W, Below w.heap.size w W → Calls Try.prog 81 #[.slice L k e, .agg #[.int .i64 (a : Int), .slice A n c, .slice B m d]] W fun e w' => e = .returned (.bool (fitR ls old a)) ∧ Below W.heap.size W w' := fun W hb => fits_any L k e ls hk hke (by omega) a (by omega) A n c old hn (by omega) B m d W (hL.below hb) (hA.below hb)
    cases hF : fitR ls old a with
    | false =>
      rw [hF] at cF
      rw [if_pos rfl]
      exact (app_clash L k e a A n c B m d w hka cR cF).mono (nil 12)
    | true =>
      rw [hF] at cF
      rw [if_neg (by simp)]
      have hle : a + n ≤ k := by
        unfold fitR at hF
        rw [Bool.and_eq_true, decide_eq_true_eq, hn, hk] at hF
        exact hF.1
      by_cases hlong : 1000 < k - n + m
      · rw [if_pos hlong]
        exact (app_long L k e a A n c B m d w hka bk bn bm (by omega) cR cF).mono (nil 4)
      · rw [if_neg hlong]
        have s1 := sl_hm L k e a a (Nat.le_refl _) (by omega)
        have s2 := sl_lhm L k e (a + n) k k hle (Nat.le_refl _) hke
        rw [show ((a + n : Nat) : Int) = (a : Int) + n by omega] at s2
        refine app_ok L k e a A n c B m d w hka (by omega) ⟨bk, bn, bm⟩ (by omega) cR cF (pcA L 0 a) (pcA L (a + n) k) a a (k - (a + n)) (k - (a + n)) (ls.take a ++ (new ++ ls.drop (a + n))) s1 s2 (fun W hb => ?_)
        have hw1 : (W.alloc (.cells #[.slice (pcA L 0 a) a a, .slice B m d, .slice (pcA L (a + n) k) (k - (a + n)) (k - (a + n))] 37)).heap.size = W.heap.size + 1 := by simp
        have hbW : Below W.heap.size W (W.alloc (.cells #[.slice (pcA L 0 a) a a, .slice B m d, .slice (pcA L (a + n) k) (k - (a + n)) (k - (a + n))] 37)) := (Below.refl _ W).alloc (Nat.le_refl _) _
        have p1 : Sl w (.slice (pcA L 0 a) a a) (ls.take a) := by
          refine ⟨_, _, _, rfl, by rw [List.length_take]; omega, fun h => ?_, ?_⟩
          · unfold pcA at h
            by_cases h2 : a = 0
            · exact h2
            · rw [if_neg h2] at h
              cases L with
              | none => have := hL0 rfl; omega
              | some x => cases h
          · have := rd_piece hL 0 a a (by omega)
            rw [List.drop_zero, ← List.map_take] at this
            exact this
        have p3 : Sl w (.slice (pcA L (a + n) k) (k - (a + n)) (k - (a + n))) (ls.drop (a + n)) := by
          refine ⟨_, _, _, rfl, by rw [List.length_drop]; omega, fun h => ?_, ?_⟩
          · unfold pcA at h
            by_cases h2 : k = a + n
            · omega
            · rw [if_neg h2] at h
              cases L with
              | none => have := hL0 rfl; omega
              | some x => cases h
          · have := rd_piece hL (a + n) (k - (a + n)) k (Nat.le_refl _)
            rw [← List.map_drop, List.take_of_length_le (by rw [List.length_map, List.length_drop]; omega)] at this
            exact this
        have p2 : Sl w (.slice B m d) new := ⟨_, _, _, rfl, hm, hB0, hB⟩
        have hcat := concat_any ⟨W.heap.size, 0, none⟩ 3 3 [(.slice (pcA L 0 a) a a, ls.take a), (.slice B m d, new), (.slice (pcA L (a + n) k) (k - (a + n)) (k - (a + n)), ls.drop (a + n))] rfl (by omega) (by
          intro x hx
          simp only [List.mem_cons, List.not_mem_nil, or_false] at hx
          rcases hx with rfl | rfl | rfl
          · show (ls.take a).length ≤ 10000; rw [List.length_take]; omega
          · show new.length ≤ 10000; omega
          · show (ls.drop (a + n)).length ≤ 10000; rw [List.length_drop]; omega) _ (by
          intro W2 h2 j x hx
          have hw2 : Below w.heap.size w W2 := hb.trans ((hbW.mono hb.size).trans (h2.mono (by rw [hw1]; have := hb.size; omega)))
          have hblk := (Blk.new W 37 #[.slice (pcA L 0 a) a a, .slice B m d, .slice (pcA L (a + n) k) (k - (a + n)) (k - (a + n))]).below h2
          have hlit : ∀ j, (⟨W.heap.size, 0, none⟩ : Addr).add j = ⟨W.heap.size, j, none⟩ := fun j => by unfold Addr.add; split <;> simp_all
          rw [hlit]
          match j, hx with
          | 0, hx => cases hx; exact ⟨hblk.cell_ rfl, p1.below hw2⟩
          | 1, hx => cases hx; exact ⟨hblk.cell_ rfl, p2.below hw2⟩
          | 2, hx => cases hx; exact ⟨hblk.cell_ rfl, p3.below hw2⟩
          | j + 3, hx => simp at hx)
        refine hcat.mono ?_
        rintro e w' ⟨v, rfl, hown, hb2⟩
        rw [hw1] at hown hb2
        refine ⟨v, rfl, ?_, hb.trans ((hbW.mono hb.size).trans (hb2.mono (by have := hb.size; omega)))⟩
        have he : ([(.slice (pcA L 0 a) a a, ls.take a), (.slice B m d, new), (.slice (pcA L (a + n) k) (k - (a + n)) (k - (a + n)), ls.drop (a + n))] : List (Value × List (List UInt8))).flatMap (·.2) = ls.take a ++ (new ++ ls.drop (a + n)) := by simp
        rw [he] at hown
        exact own_base hown (by have := hb.size; omega)

end Go.Proofs.Ytjaenffdbhgmeaa


/- Proved: for all params, seeds and leaves, quitclaimlaw07.KeytreeWays returns true and leaves its arguments as they were. No conditions. -/
import Derived.Test.YtfdbgmnnahcejaaKt12
namespace Go.Proofs.Ytfdbgmnnahcejaa
open Go.RowKit Go.Qc
open Go.ChangeShapes Go.WideShapes Go.ChangeAt
attribute [local go_sem] txt_size

set_option maxRecDepth 100000 in
set_option maxHeartbeats 8000000 in
theorem ways_big (s : List UInt8) (hs : 100 < s.length) (b h L : Int) (w : World) :
    Calls Try.prog 6 #[.agg #[.int .i64 b, .int .i64 h], .string (txt s), .int .i64 L] w fun e w' => e = .returned (.bool true) ∧ Below w.heap.size w w' := by
  have l1 : (100 : Int) < s.length := by omega
  clear hs
  have hpr := par_new w (b : Int) (h : Int)
  have hB0 : Below w.heap.size w (w.alloc (.cells #[.int .i64 (b : Int), .int .i64 (h : Int)] 63)) := (Below.refl _ _).alloc (Nat.le_refl _) _
  have p0 := hpr.cell_ (i := 0) rfl
  have p1 := hpr.cell_ (i := 1) rfl
  go_enter Try.func6, Try.ntmps6
  go_wp2_with (first
    | (go_at_call 54; (with_reducible refine (awake7_any _).mono ?_); rintro e9 w9 ⟨rfl, hb9⟩))
  go_ret
  exact ⟨rfl, hB0.trans (hb9.mono hB0.size)⟩
set_option maxRecDepth 100000 in
set_option maxHeartbeats 8000000 in
theorem ways_large (s : List UInt8) (hs : s.length ≤ 100) (b h L : Int) (hl : lgP b h = true) (w : World) :
    Calls Try.prog 6 #[.agg #[.int .i64 b, .int .i64 h], .string (txt s), .int .i64 L] w fun e w' => e = .returned (.bool true) ∧ Below w.heap.size w w' := by
  have l1 : ¬ (100 : Int) < s.length := by omega
  have cG := fun W => large_any b h W
  rw [hl] at cG
  clear hs hl
  have hpr := par_new w (b : Int) (h : Int)
  have hB0 : Below w.heap.size w (w.alloc (.cells #[.int .i64 (b : Int), .int .i64 (h : Int)] 63)) := (Below.refl _ _).alloc (Nat.le_refl _) _
  have p0 := hpr.cell_ (i := 0) rfl
  have p1 := hpr.cell_ (i := 1) rfl
  go_enter Try.func6, Try.ntmps6
  go_wp2_with (first
    | (go_at_call 53; (with_reducible refine (cG _).mono ?_); rintro e1 w1 ⟨rfl, hb1⟩; replace hpr := hpr.below hb1; replace hB0 := hB0.trans (hb1.mono hB0.size); clear hb1 p0 p1; have p0 := hpr.cell_ (i := 0) rfl; have p1 := hpr.cell_ (i := 1) rfl)
    | (go_at_call 54; (with_reducible refine (awake7_any _).mono ?_); rintro e9 w9 ⟨rfl, hb9⟩))
  go_ret
  exact ⟨rfl, hB0.trans (hb9.mono hB0.size)⟩
set_option maxRecDepth 100000 in
set_option maxHeartbeats 8000000 in
theorem ways_arg (s : List UInt8) (hs : s.length ≤ 100) (b h L : Int) (hr : rgtP b h = false) (w : World) :
    Calls Try.prog 6 #[.agg #[.int .i64 b, .int .i64 h], .string (txt s), .int .i64 L] w fun e w' => e = .returned (.bool true) ∧ Below w.heap.size w w' := by
  have l1 : ¬ (100 : Int) < s.length := by omega
  have hl : lgP b h = false := by unfold lgP; rw [hr]; rfl
  have cG := fun W => large_any b h W
  rw [hl] at cG
  have cR := fun W => rright7_any b h W
  rw [hr] at cR
  have cW := fun W => kway_arg s b h hr L W
  clear hs hl hr
  have hpr := par_new w (b : Int) (h : Int)
  have hB0 : Below w.heap.size w (w.alloc (.cells #[.int .i64 (b : Int), .int .i64 (h : Int)] 63)) := (Below.refl _ _).alloc (Nat.le_refl _) _
  have p0 := hpr.cell_ (i := 0) rfl
  have p1 := hpr.cell_ (i := 1) rfl
  go_enter Try.func6, Try.ntmps6
  go_wp2_with (first
    | (go_at_call 53; (with_reducible refine (cG _).mono ?_); rintro e1 w1 ⟨rfl, hb1⟩; replace hpr := hpr.below hb1; replace hB0 := hB0.trans (hb1.mono hB0.size); clear hb1 p0 p1; have p0 := hpr.cell_ (i := 0) rfl; have p1 := hpr.cell_ (i := 1) rfl)
    | (go_at_call 58; (with_reducible refine (cW _).mono ?_); rintro e2 w2 ⟨rfl, hb2⟩; replace hpr := hpr.below hb2; replace hB0 := hB0.trans (hb2.mono hB0.size); clear hb2 p0 p1; have p0 := hpr.cell_ (i := 0) rfl; have p1 := hpr.cell_ (i := 1) rfl)
    | (go_at_call 48; (with_reducible refine (cR _).mono ?_); rintro e3 w3 ⟨rfl, hb3⟩; replace hpr := hpr.below hb3; replace hB0 := hB0.trans (hb3.mono hB0.size); clear hb3 p0 p1; have p0 := hpr.cell_ (i := 0) rfl; have p1 := hpr.cell_ (i := 1) rfl)
    | (go_at_call 54; (with_reducible refine (awake7_any _).mono ?_); rintro e9 w9 ⟨rfl, hb9⟩))
  go_ret
  exact ⟨rfl, hB0.trans (hb9.mono hB0.size)⟩
set_option maxRecDepth 100000 in
set_option maxHeartbeats 8000000 in
theorem ways_neg (s : List UInt8) (hs : s.length ≤ 100) (n m : Nat) (hr : rgtP n m = true) (hl : lgP n m = false) (L : Int) (h0 : L < 0) (w : World) :
    Calls Try.prog 6 #[.agg #[.int .i64 n, .int .i64 m], .string (txt s), .int .i64 L] w fun e w' => e = .returned (.bool true) ∧ Below w.heap.size w w' := by
  have l1 : ¬ (100 : Int) < s.length := by omega
  have cG := fun W => large_any n m W
  rw [hl] at cG
  have cR := fun W => rright7_any n m W
  rw [hr] at cR
  have hm10 : m ≤ 10 := by have := rgtP_parts hr; omega
  have cP := fun W => rpower_any m hm10 W
  have cW := fun W => kway_range s n m hr L (.inl h0) W
  generalize 2 ^ m = P at *
  clear hs hl hr hm10
  have hpr := par_new w (n : Int) (m : Int)
  have hB0 : Below w.heap.size w (w.alloc (.cells #[.int .i64 (n : Int), .int .i64 (m : Int)] 63)) := (Below.refl _ _).alloc (Nat.le_refl _) _
  have p0 := hpr.cell_ (i := 0) rfl
  have p1 := hpr.cell_ (i := 1) rfl
  go_enter Try.func6, Try.ntmps6
  go_wp2_with (first
    | (go_at_call 53; (with_reducible refine (cG _).mono ?_); rintro e1 w1 ⟨rfl, hb1⟩; replace hpr := hpr.below hb1; replace hB0 := hB0.trans (hb1.mono hB0.size); clear hb1 p0 p1; have p0 := hpr.cell_ (i := 0) rfl; have p1 := hpr.cell_ (i := 1) rfl)
    | (go_at_call 58; (with_reducible refine (cW _).mono ?_); rintro e2 w2 ⟨rfl, hb2⟩; replace hpr := hpr.below hb2; replace hB0 := hB0.trans (hb2.mono hB0.size); clear hb2 p0 p1; have p0 := hpr.cell_ (i := 0) rfl; have p1 := hpr.cell_ (i := 1) rfl)
    | (go_at_call 48; (with_reducible refine (cR _).mono ?_); rintro e3 w3 ⟨rfl, hb3⟩; replace hpr := hpr.below hb3; replace hB0 := hB0.trans (hb3.mono hB0.size); clear hb3 p0 p1; have p0 := hpr.cell_ (i := 0) rfl; have p1 := hpr.cell_ (i := 1) rfl)
    | (go_at_call 49; (with_reducible refine (cP _).mono ?_); rintro e4 w4 ⟨rfl, rfl⟩)
    | (go_at_call 54; (with_reducible refine (awake7_any _).mono ?_); rintro e9 w9 ⟨rfl, hb9⟩))
  go_ret
  exact ⟨rfl, hB0.trans (hb9.mono hB0.size)⟩
set_option maxRecDepth 100000 in
set_option maxHeartbeats 8000000 in
theorem ways_high (s : List UInt8) (hs : s.length ≤ 100) (n m : Nat) (hr : rgtP n m = true) (hl : lgP n m = false) (L : Int) (h0 : ¬ L < 0) (h1 : ((2 ^ m : Nat) : Int) ≤ L) (w : World) :
    Calls Try.prog 6 #[.agg #[.int .i64 n, .int .i64 m], .string (txt s), .int .i64 L] w fun e w' => e = .returned (.bool true) ∧ Below w.heap.size w w' := by
  have l1 : ¬ (100 : Int) < s.length := by omega
  have cG := fun W => large_any n m W
  rw [hl] at cG
  have cR := fun W => rright7_any n m W
  rw [hr] at cR
  have hm10 : m ≤ 10 := by have := rgtP_parts hr; omega
  have cP := fun W => rpower_any m hm10 W
  have cW := fun W => kway_range s n m hr L (.inr h1) W
  have z0 : decide (L < 0) = false := decide_eq_false h0
  generalize 2 ^ m = P at *
  clear hs hl hr hm10
  have hpr := par_new w (n : Int) (m : Int)
  have hB0 : Below w.heap.size w (w.alloc (.cells #[.int .i64 (n : Int), .int .i64 (m : Int)] 63)) := (Below.refl _ _).alloc (Nat.le_refl _) _
  have p0 := hpr.cell_ (i := 0) rfl
  have p1 := hpr.cell_ (i := 1) rfl
  go_enter Try.func6, Try.ntmps6
  go_wp2_with (first
    | (go_at_call 53; (with_reducible refine (cG _).mono ?_); rintro e1 w1 ⟨rfl, hb1⟩; replace hpr := hpr.below hb1; replace hB0 := hB0.trans (hb1.mono hB0.size); clear hb1 p0 p1; have p0 := hpr.cell_ (i := 0) rfl; have p1 := hpr.cell_ (i := 1) rfl)
    | (go_at_call 58; (with_reducible refine (cW _).mono ?_); rintro e2 w2 ⟨rfl, hb2⟩; replace hpr := hpr.below hb2; replace hB0 := hB0.trans (hb2.mono hB0.size); clear hb2 p0 p1; have p0 := hpr.cell_ (i := 0) rfl; have p1 := hpr.cell_ (i := 1) rfl)
    | (go_at_call 48; (with_reducible refine (cR _).mono ?_); rintro e3 w3 ⟨rfl, hb3⟩; replace hpr := hpr.below hb3; replace hB0 := hB0.trans (hb3.mono hB0.size); clear hb3 p0 p1; have p0 := hpr.cell_ (i := 0) rfl; have p1 := hpr.cell_ (i := 1) rfl)
    | (go_at_call 49; (with_reducible refine (cP _).mono ?_); rintro e4 w4 ⟨rfl, rfl⟩)
    | (go_at_call 54; (with_reducible refine (awake7_any _).mono ?_); rintro e9 w9 ⟨rfl, hb9⟩))
  go_ret
  exact ⟨rfl, hB0.trans (hb9.mono hB0.size)⟩
theorem same_true (W : World) (A B : Option Addr) (n c d : Nat) (l : List (List UInt8)) (hA : RowR W A n l) (hB : RowR W B n l) :
    Calls Try.prog 14 #[.slice A n c, .slice B n d] W fun e w' => e = .returned (.bool true) ∧ Below W.heap.size W w' := by
  have := rsame_any A B n c n d l l W hA hB
  rw [decide_eq_true rfl] at this
  exact this
set_option maxRecDepth 100000 in
set_option maxHeartbeats 40000000 in
set_option linter.unusedSimpArgs false in
theorem ways_ok (s : List UInt8) (hs : s.length ≤ 100) (n m : Nat) (hr : rgtP n m = true) (hl : lgP n m = false) (L : Nat) (hL : L < 2 ^ m) (w : World) :
    Calls Try.prog 6 #[.agg #[.int .i64 n, .int .i64 m], .string (txt s), .int .i64 L] w fun e w' => e = .returned (.bool true) ∧ Below w.heap.size w w' := by
  have hu := Try.underlying24
  have l1 : ¬ (100 : Int) < s.length := by omega
  have cG := fun W => large_any n m W
  rw [hl] at cG
  have cR := fun W => rright7_any n m W
  rw [hr] at cR
  have hm10 : m ≤ 10 := by have := rgtP_parts hr; omega
  have cP := fun W => rpower_any m hm10 W
  have hm2 : m ≤ 2 := by
    unfold lgP at hl
    rw [hr, Bool.true_and, Bool.or_eq_false_iff, decide_eq_false_iff_not, decide_eq_false_iff_not] at hl
    omega
  have hn8 : n ≤ 256 := by have := rgt_le9 (rgtP_parts hr).1; omega
  have hL4 : L < 4 := Nat.lt_of_lt_of_le hL (Nat.pow_le_pow_right (n := 2) (by decide) hm2)
  have cW := fun W => kway_any s (by omega) n m hr (by omega) L hL W
  have cRW := fun W => rway_any s (by omega) n m hr (by omega) L hL W
  have cO := fun W => kof_any s (by omega) n m hr (by omega) W
  have hf0 := lfF_length s n
  have h32 := upTo_32 (wayF (lfF s n) L) (fun b => ndB_length _ hf0 _ _) m
  have hcw := climb_way (lfF s n) L m
  rw [Nat.div_eq_of_lt hL] at hcw
  have c6 : ∀ W : World, Calls Try.prog 60 #[.string (txt s), .int .i64 L, .int .i64 n] W fun e w' => e = .returned (.agg (idVals (lfF s n L))) ∧ Below W.heap.size W w' := fun W => rleaf_any s (by omega) (L : Nat) n hn8 W
  have lX := hf0 L
  have lR := ndB_length (lfF s n) hf0 m 0
  have c9 : ∀ W : World, Calls Try.prog 50 #[.agg #[.int .i64 n, .int .i64 m], .agg (idVals (ndB (lfF s n) m 0))] W fun e w' => e = .returned (.tuple #[.agg (idVals (ofB s n m)), .int .i64 0]) ∧ Below W.heap.size W w' := fun W => key_any n m hr _ lR W
  have cCl : ∀ (A : Option Addr) (c : Nat) (W : World), RowR W A m (upTo (wayF (lfF s n) L) m) → Calls Try.prog 59 #[.int .i64 L, .agg (idVals (lfF s n L)), .slice A m c] W fun e w' => e = .returned (.agg (idVals (ndB (lfF s n) m 0))) ∧ Below W.heap.size W w' := fun A c W h => by
    have := climb_any L (by omega) (lfF s n L) lX A m c _ W h
    rw [Int.toNat_natCast, hcw] at this
    exact this
  have lT : (ofB s n m).length = 32 := keyB_length _ _ _
  generalize ofB s n m = T at *
  generalize ndB (lfF s n) m 0 = R at *
  generalize upTo (wayF (lfF s n) L) m = LL at *
  generalize lfF s n L = X at *
  have hzT : (Try.prog.info? 24).map (·.size) = some (T.map u8v).length := by rw [List.length_map, lT]; exact sizeId
  have heqT : ∀ W, (Op.equalIn 10000 24 (.agg (List.map u8v T).toArray) (.agg (List.map u8v T).toArray)).run Try.prog W = .ok true W := fun W => (ids_eq W T T lT lT).trans (by rw [decide_eq_true rfl])
  have z1 : ¬ ((L : Int) < 0) := by omega
  have z2 : ¬ (((2 ^ m : Nat) : Int) ≤ (L : Int)) := by omega
  generalize 2 ^ m = P at *
  have HLT := hid lT
  have H32 := hid h32
  clear hs hl hr hm10 hcw lX lR lT h32 hn8 hf0 hL
  have hpr := par_new w n m
  have hB0 : Below w.heap.size w (w.alloc (.cells #[.int .i64 n, .int .i64 m] 63)) := (Below.refl _ _).alloc (Nat.le_refl _) _
  have p0 := hpr.cell_ (i := 0) rfl
  have p1 := hpr.cell_ (i := 1) rfl
  go_enter Try.func6, Try.ntmps6
  go_wp2_with (first
    | (go_at_call 53; (with_reducible refine (cG _).mono ?_); rintro e1 w1 ⟨rfl, hb1⟩; replace hpr := hpr.below hb1; replace hB0 := hB0.trans (hb1.mono hB0.size); clear hb1 p0 p1; have p0 := hpr.cell_ (i := 0) rfl; have p1 := hpr.cell_ (i := 1) rfl)
    | (go_at_call 58; (with_reducible refine (cW _).mono ?_); rintro e2 w2 ⟨v2, rfl, hown2, hb2⟩; obtain ⟨A, c, rfl, hrow5⟩ := RowAt.own hown2 H32.out (by omega); replace hpr := hpr.below hb2; replace hB0 := hB0.trans (hb2.mono hB0.size); clear hb2 p0 p1; have p0 := hpr.cell_ (i := 0) rfl; have p1 := hpr.cell_ (i := 1) rfl)
    | (go_at_call 48; (with_reducible refine (cR _).mono ?_); rintro e3 w5 ⟨rfl, hb3⟩; replace hrow5 := hrow5.below hb3; replace hpr := hpr.below hb3; replace hB0 := hB0.trans (hb3.mono hB0.size); clear hb3 p0 p1; have p0 := hpr.cell_ (i := 0) rfl; have p1 := hpr.cell_ (i := 1) rfl)
    | (go_at_call 49; (with_reducible refine (cP _).mono ?_); rintro e4 w4 ⟨rfl, rfl⟩))
  have hpar := hpr
  have hBw := hB0
  have c8 := fun W (h : Below w5.heap.size w5 W) => cCl A c W (hrow5.r.below h)
  clear hpr hB0 p0 p1 cCl cG cR cP cW hown2
  refine wp_region_held_drew (S := fun W => Below w5.heap.size w5 W) (by kernel_rfl) ?_ (fun hHeld => ?_)
  · exact below_drew1 w5
  refine' wpAnyH_take (i := 0) (v := .agg #[.int .i64 n, .int .i64 m]) rfl (by kernel_rfl) (by kernel_rfl) (by kernel_rfl) (fun _ _ _ h => h) (Or.inl ⟨by rfl, fun w' hw' => by have q0 := (hpar.below hw').cell_ (i := 0) rfl; have q1 := (hpar.below hw').cell_ (i := 1) rfl; go_simp⟩) hHeld ?_
  try simp only [Act.put, List.getElem_toArray, List.getElem_cons_succ, List.getElem_cons_zero, List.setIfInBounds_toArray, List.set_cons_zero, List.set_cons_succ]
  refine' wpAnyH_take (i := 1) (v := .int .i64 L) rfl (by kernel_rfl) (by kernel_rfl) (by kernel_rfl) (fun _ _ _ h => h) (Or.inl ⟨by rfl, fun w' hw' => by go_simp⟩) hHeld ?_
  try simp only [Act.put, List.getElem_toArray, List.getElem_cons_succ, List.getElem_cons_zero, List.setIfInBounds_toArray, List.set_cons_zero, List.set_cons_succ]
  refine' wpAnyH_take (i := 2) (v := .string (txt s)) rfl (by kernel_rfl) (by kernel_rfl) (by kernel_rfl) (fun _ _ _ h => h) (Or.inl ⟨by rfl, fun w' hw' => by go_simp⟩) hHeld ?_
  try simp only [Act.put, List.getElem_toArray, List.getElem_cons_succ, List.getElem_cons_zero, List.setIfInBounds_toArray, List.set_cons_zero, List.set_cons_succ]
  refine' wpAnyH_take (i := 3) (v := .int .i64 L) rfl (by kernel_rfl) (by kernel_rfl) (by kernel_rfl) (fun _ _ _ h => h) (Or.inl ⟨by rfl, fun w' hw' => by go_simp⟩) hHeld ?_
  try simp only [Act.put, List.getElem_toArray, List.getElem_cons_succ, List.getElem_cons_zero, List.setIfInBounds_toArray, List.set_cons_zero, List.set_cons_succ]
  refine' wpAnyH_take (i := 4) (v := .pointer (some ⟨w.heap.size, 0, none⟩)) rfl (by kernel_rfl) (by kernel_rfl) (by kernel_rfl) (fun _ _ _ h => h) (Or.inl ⟨by rfl, fun w' hw' => by go_simp⟩) hHeld ?_
  try simp only [Act.put, List.getElem_toArray, List.getElem_cons_succ, List.getElem_cons_zero, List.setIfInBounds_toArray, List.set_cons_zero, List.set_cons_succ]
  refine' wpAnyH_take (i := 5) (v := .int .i64 n) rfl (by kernel_rfl) (by kernel_rfl) (by kernel_rfl) (fun _ _ _ h => h) (Or.inl ⟨by rfl, fun w' hw' => by have q0 := (hpar.below hw').cell_ (i := 0) rfl; go_simp⟩) hHeld ?_
  try simp only [Act.put, List.getElem_toArray, List.getElem_cons_succ, List.getElem_cons_zero, List.setIfInBounds_toArray, List.set_cons_zero, List.set_cons_succ]
  refine' wpAnyH_take (i := 7) (v := .slice A m c) rfl (by kernel_rfl) (by kernel_rfl) (by kernel_rfl) (fun _ _ _ h => h) (Or.inl ⟨by rfl, fun w' hw' => by go_simp⟩) hHeld ?_
  try simp only [Act.put, List.getElem_toArray, List.getElem_cons_succ, List.getElem_cons_zero, List.setIfInBounds_toArray, List.set_cons_zero, List.set_cons_succ]
  refine wpAnyH_ready (rs := [6, 13]) (by kernel_rfl) (by simp) ?_
  refine AllReadyH.cons rfl (fun K hK => ?_) (AllReadyH.cons rfl (fun K hK => ?_) AllReadyH.nil)
  · go_simp
    (with_reducible refine (c6 _).mono ?_)
    rintro e6 w6 ⟨rfl, hb6⟩
    refine hK.out _ _ (hHeld.trans (hb6.mono hHeld.size)) (fun hHeld => ?_)
    clear hK K
    try simp only [Act.put, List.getElem_toArray, List.getElem_cons_succ, List.getElem_cons_zero, List.setIfInBounds_toArray, List.set_cons_zero, List.set_cons_succ]
    refine wpAnyH_ready (rs := [8, 13]) (by kernel_rfl) (by simp) ?_
    refine AllReadyH.cons rfl (fun K hK => ?_) (AllReadyH.cons rfl (fun K hK => ?_) AllReadyH.nil)
    · go_simp
      (with_reducible refine (c8 _ hHeld).mono ?_)
      rintro e8 w8 ⟨rfl, hb8⟩
      refine hK.out _ _ (hHeld.trans (hb8.mono hHeld.size)) (fun hHeld => ?_)
      clear hK K
      try simp only [Act.put, List.getElem_toArray, List.getElem_cons_succ, List.getElem_cons_zero, List.setIfInBounds_toArray, List.set_cons_zero, List.set_cons_succ]
      refine wpAnyH_ready (rs := [9, 13]) (by kernel_rfl) (by simp) ?_
      refine AllReadyH.cons rfl (fun K hK => ?_) (AllReadyH.cons rfl (fun K hK => ?_) AllReadyH.nil)
      · go_simp
        (with_reducible refine (c9 _).mono ?_)
        rintro e9 w10 ⟨rfl, hb10⟩
        refine hK.out _ _ (hHeld.trans (hb10.mono hHeld.size)) (fun hHeld => ?_)
        clear hK K
        try simp only [Act.put, List.getElem_toArray, List.getElem_cons_succ, List.getElem_cons_zero, List.setIfInBounds_toArray, List.set_cons_zero, List.set_cons_succ]
        refine' wpAnyH_take (i := 10) (v := .tuple #[.agg (idVals T), .int .i64 0]) rfl (by kernel_rfl) (by kernel_rfl) (by kernel_rfl) (fun _ _ _ h => h) (Or.inl ⟨by rfl, fun w' hw' => by go_simp⟩) hHeld ?_
        try simp only [Act.put, List.getElem_toArray, List.getElem_cons_succ, List.getElem_cons_zero, List.setIfInBounds_toArray, List.set_cons_zero, List.set_cons_succ]
        refine' wpAnyH_take (i := 11) (v := .agg (idVals T)) rfl (by kernel_rfl) (by kernel_rfl) (by kernel_rfl) (fun _ _ _ h => h) (Or.inl ⟨by rfl, fun w' hw' => by go_simp⟩) hHeld ?_
        try simp only [Act.put, List.getElem_toArray, List.getElem_cons_succ, List.getElem_cons_zero, List.setIfInBounds_toArray, List.set_cons_zero, List.set_cons_succ]
        refine' wpAnyH_take (i := 12) (v := .int .i64 0) rfl (by kernel_rfl) (by kernel_rfl) (by kernel_rfl) (fun _ _ _ h => h) (Or.inl ⟨by rfl, fun w' hw' => by go_simp⟩) hHeld ?_
        try simp only [Act.put, List.getElem_toArray, List.getElem_cons_succ, List.getElem_cons_zero, List.setIfInBounds_toArray, List.set_cons_zero, List.set_cons_succ]
        refine wpAnyH_ready (rs := [13]) (by kernel_rfl) (by simp) ?_
        refine AllReadyH.cons rfl (fun K hK => ?_) AllReadyH.nil
        go_simp
        have hge := hHeld.size
        have hnew := Blk.new w10 24 #[.int .u8 0, .int .u8 0, .int .u8 0, .int .u8 0, .int .u8 0, .int .u8 0, .int .u8 0, .int .u8 0, .int .u8 0, .int .u8 0, .int .u8 0, .int .u8 0, .int .u8 0, .int .u8 0, .int .u8 0, .int .u8 0, .int .u8 0, .int .u8 0, .int .u8 0, .int .u8 0, .int .u8 0, .int .u8 0, .int .u8 0, .int .u8 0, .int .u8 0, .int .u8 0, .int .u8 0, .int .u8 0, .int .u8 0, .int .u8 0, .int .u8 0, .int .u8 0]
        refine hK.out _ _ (hHeld.alloc hHeld.size _) (fun hHeld => ?_)
        clear hK K
        try simp only [Act.put, List.getElem_toArray, List.getElem_cons_succ, List.getElem_cons_zero, List.setIfInBounds_toArray, List.set_cons_zero, List.set_cons_succ]
        refine wpAnyH_ready (rs := [14]) (by kernel_rfl) (by simp) ?_
        refine AllReadyH.cons rfl (fun K hK => ?_) AllReadyH.nil
        rw [if_pos (by rfl)]
        refine wp_store_blk 24 _ _ rfl _ _ (idVals T) 24 hnew rfl rfl (by rw [idVals_size, HLT.out]; exact sizeId) (by rw [idVals_size, HLT.out]; rfl) (idVals_one _) ?_
        intro w9 hb9 hg9
        refine hK.out _ _ (hHeld.grown hg9 hHeld.size (by intro i e; cases e; exact hge)) (fun hHeld => ?_)
        clear hK K hnew
        try simp only [Act.put, List.getElem_toArray, List.getElem_cons_succ, List.getElem_cons_zero, List.setIfInBounds_toArray, List.set_cons_zero, List.set_cons_succ]
        refine wpAnyH_ready (rs := [15]) (by kernel_rfl) (by simp) ?_
        refine AllReadyH.cons rfl (fun K hK => ?_) AllReadyH.nil
        go_simp
        refine hK.out _ _ hHeld (fun hHeld => ?_)
        clear hK K
        try simp only [Act.put, List.getElem_toArray, List.getElem_cons_succ, List.getElem_cons_zero, List.setIfInBounds_toArray, List.set_cons_zero, List.set_cons_succ]
        refine wpAnyH_done (by kernel_rfl) ?_ _
        clear c6 c8 c9
        have hpr := hpar.below hHeld
        have hB0 := hBw.trans (hHeld.mono hBw.size)
        have hrow := hrow5.below hHeld
        have p0 := hpr.cell_ (i := 0) rfl
        have p1 := hpr.cell_ (i := 1) rfl
        have hxk := range_blk hb9
        clear hpar hBw hrow5 hHeld
        go_wp2_with (first
          | (go_at_call 55; (with_reducible refine (cO _).mono ?_); rintro e11 w11 ⟨rfl, hb11⟩; replace hrow := hrow.below hb11; replace hxk := hxk.below hb11; replace hpr := hpr.below hb11; replace hB0 := hB0.trans (hb11.mono hB0.size); clear hb11 p0 p1; have p0 := hpr.cell_ (i := 0) rfl; have p1 := hpr.cell_ (i := 1) rfl)
          | ((with_reducible refine wpList_store_newid rfl _ _ rfl T HLT.out rfl rfl (by with_unfolding_all rfl) ?_); intro w12 hx12 hb12; replace hrow := hrow.below hb12; replace hxk := hxk.below hb12; replace hpr := hpr.below hb12; replace hB0 := hB0.trans (hb12.mono hB0.size); clear hb12 p0 p1; have p0 := hpr.cell_ (i := 0) rfl; have p1 := hpr.cell_ (i := 1) rfl)
          | (go_at_call 61; (with_reducible refine (cRW _).mono ?_); rintro e13 w13 ⟨v13, rfl, hown13, hb13⟩; obtain ⟨A13, c13, rfl, hrow13⟩ := RowAt.own hown13 H32.out (by omega); replace hrow := hrow.below hb13; replace hxk := hxk.below hb13; replace hx12 := hx12.below hb13; replace hpr := hpr.below hb13; replace hB0 := hB0.trans (hb13.mono hB0.size); clear hb13 p0 p1; have p0 := hpr.cell_ (i := 0) rfl; have p1 := hpr.cell_ (i := 1) rfl)
          | (go_at_call 14; (with_reducible refine (same_true _ _ _ _ _ _ _ hrow.r hrow13.r).mono ?_); rintro e14 w14 ⟨rfl, hb14⟩; replace hxk := hxk.below hb14; replace hx12 := hx12.below hb14; replace hpr := hpr.below hb14; replace hB0 := hB0.trans (hb14.mono hB0.size); clear hb14 p0 p1; have p0 := hpr.cell_ (i := 0) rfl; have p1 := hpr.cell_ (i := 1) rfl)
          | (with_reducible refine wpList_load_if (by with_unfolding_all rfl) 24 _ rfl _ _ rfl (T.map u8v) _ hxk hu (by with_unfolding_all rfl) hzT ?_)
          | (with_reducible refine wpList_load_if (by with_unfolding_all rfl) 24 _ rfl _ _ rfl (T.map u8v) _ hx12 hu (by with_unfolding_all rfl) hzT ?_)
          | (go_at_call 54; (with_reducible refine (awake7_any _).mono ?_); rintro e15 w15 ⟨rfl, hb15⟩))
        go_ret
        exact ⟨rfl, hB0.trans (hb15.mono hB0.size)⟩
      · go_simp
        have hge := hHeld.size
        have hnew := Blk.new w8 24 #[.int .u8 0, .int .u8 0, .int .u8 0, .int .u8 0, .int .u8 0, .int .u8 0, .int .u8 0, .int .u8 0, .int .u8 0, .int .u8 0, .int .u8 0, .int .u8 0, .int .u8 0, .int .u8 0, .int .u8 0, .int .u8 0, .int .u8 0, .int .u8 0, .int .u8 0, .int .u8 0, .int .u8 0, .int .u8 0, .int .u8 0, .int .u8 0, .int .u8 0, .int .u8 0, .int .u8 0, .int .u8 0, .int .u8 0, .int .u8 0, .int .u8 0, .int .u8 0]
        refine hK.out _ _ (hHeld.alloc hHeld.size _) (fun hHeld => ?_)
        clear hK K
        try simp only [Act.put, List.getElem_toArray, List.getElem_cons_succ, List.getElem_cons_zero, List.setIfInBounds_toArray, List.set_cons_zero, List.set_cons_succ]
        refine wpAnyH_ready (rs := [9]) (by kernel_rfl) (by simp) ?_
        refine AllReadyH.cons rfl (fun K hK => ?_) AllReadyH.nil
        go_simp
        (with_reducible refine (c9 _).mono ?_)
        rintro e9 w10 ⟨rfl, hb10⟩
        refine hK.out _ _ (hHeld.trans (hb10.mono hHeld.size)) (fun hHeld => ?_)
        clear hK K
        try simp only [Act.put, List.getElem_toArray, List.getElem_cons_succ, List.getElem_cons_zero, List.setIfInBounds_toArray, List.set_cons_zero, List.set_cons_succ]
        replace hnew := hnew.below hb10
        refine' wpAnyH_take (i := 10) (v := .tuple #[.agg (idVals T), .int .i64 0]) rfl (by kernel_rfl) (by kernel_rfl) (by kernel_rfl) (fun _ _ _ h => h) (Or.inl ⟨by rfl, fun w' hw' => by go_simp⟩) hHeld ?_
        try simp only [Act.put, List.getElem_toArray, List.getElem_cons_succ, List.getElem_cons_zero, List.setIfInBounds_toArray, List.set_cons_zero, List.set_cons_succ]
        refine' wpAnyH_take (i := 11) (v := .agg (idVals T)) rfl (by kernel_rfl) (by kernel_rfl) (by kernel_rfl) (fun _ _ _ h => h) (Or.inl ⟨by rfl, fun w' hw' => by go_simp⟩) hHeld ?_
        try simp only [Act.put, List.getElem_toArray, List.getElem_cons_succ, List.getElem_cons_zero, List.setIfInBounds_toArray, List.set_cons_zero, List.set_cons_succ]
        refine' wpAnyH_take (i := 12) (v := .int .i64 0) rfl (by kernel_rfl) (by kernel_rfl) (by kernel_rfl) (fun _ _ _ h => h) (Or.inl ⟨by rfl, fun w' hw' => by go_simp⟩) hHeld ?_
        try simp only [Act.put, List.getElem_toArray, List.getElem_cons_succ, List.getElem_cons_zero, List.setIfInBounds_toArray, List.set_cons_zero, List.set_cons_succ]
        refine wpAnyH_ready (rs := [14]) (by kernel_rfl) (by simp) ?_
        refine AllReadyH.cons rfl (fun K hK => ?_) AllReadyH.nil
        rw [if_pos (by rfl)]
        refine wp_store_blk 24 _ _ rfl _ _ (idVals T) 24 hnew rfl rfl (by rw [idVals_size, HLT.out]; exact sizeId) (by rw [idVals_size, HLT.out]; rfl) (idVals_one _) ?_
        intro w9 hb9 hg9
        refine hK.out _ _ (hHeld.grown hg9 hHeld.size (by intro i e; cases e; exact hge)) (fun hHeld => ?_)
        clear hK K hnew
        try simp only [Act.put, List.getElem_toArray, List.getElem_cons_succ, List.getElem_cons_zero, List.setIfInBounds_toArray, List.set_cons_zero, List.set_cons_succ]
        refine wpAnyH_ready (rs := [15]) (by kernel_rfl) (by simp) ?_
        refine AllReadyH.cons rfl (fun K hK => ?_) AllReadyH.nil
        go_simp
        refine hK.out _ _ hHeld (fun hHeld => ?_)
        clear hK K
        try simp only [Act.put, List.getElem_toArray, List.getElem_cons_succ, List.getElem_cons_zero, List.setIfInBounds_toArray, List.set_cons_zero, List.set_cons_succ]
        refine wpAnyH_done (by kernel_rfl) ?_ _
        clear c6 c8 c9
        have hpr := hpar.below hHeld
        have hB0 := hBw.trans (hHeld.mono hBw.size)
        have hrow := hrow5.below hHeld
        have p0 := hpr.cell_ (i := 0) rfl
        have p1 := hpr.cell_ (i := 1) rfl
        have hxk := range_blk hb9
        clear hpar hBw hrow5 hHeld
        go_wp2_with (first
          | (go_at_call 55; (with_reducible refine (cO _).mono ?_); rintro e11 w11 ⟨rfl, hb11⟩; replace hrow := hrow.below hb11; replace hxk := hxk.below hb11; replace hpr := hpr.below hb11; replace hB0 := hB0.trans (hb11.mono hB0.size); clear hb11 p0 p1; have p0 := hpr.cell_ (i := 0) rfl; have p1 := hpr.cell_ (i := 1) rfl)
          | ((with_reducible refine wpList_store_newid rfl _ _ rfl T HLT.out rfl rfl (by with_unfolding_all rfl) ?_); intro w12 hx12 hb12; replace hrow := hrow.below hb12; replace hxk := hxk.below hb12; replace hpr := hpr.below hb12; replace hB0 := hB0.trans (hb12.mono hB0.size); clear hb12 p0 p1; have p0 := hpr.cell_ (i := 0) rfl; have p1 := hpr.cell_ (i := 1) rfl)
          | (go_at_call 61; (with_reducible refine (cRW _).mono ?_); rintro e13 w13 ⟨v13, rfl, hown13, hb13⟩; obtain ⟨A13, c13, rfl, hrow13⟩ := RowAt.own hown13 H32.out (by omega); replace hrow := hrow.below hb13; replace hxk := hxk.below hb13; replace hx12 := hx12.below hb13; replace hpr := hpr.below hb13; replace hB0 := hB0.trans (hb13.mono hB0.size); clear hb13 p0 p1; have p0 := hpr.cell_ (i := 0) rfl; have p1 := hpr.cell_ (i := 1) rfl)
          | (go_at_call 14; (with_reducible refine (same_true _ _ _ _ _ _ _ hrow.r hrow13.r).mono ?_); rintro e14 w14 ⟨rfl, hb14⟩; replace hxk := hxk.below hb14; replace hx12 := hx12.below hb14; replace hpr := hpr.below hb14; replace hB0 := hB0.trans (hb14.mono hB0.size); clear hb14 p0 p1; have p0 := hpr.cell_ (i := 0) rfl; have p1 := hpr.cell_ (i := 1) rfl)
          | (with_reducible refine wpList_load_if (by with_unfolding_all rfl) 24 _ rfl _ _ rfl (T.map u8v) _ hxk hu (by with_unfolding_all rfl) hzT ?_)
          | (with_reducible refine wpList_load_if (by with_unfolding_all rfl) 24 _ rfl _ _ rfl (T.map u8v) _ hx12 hu (by with_unfolding_all rfl) hzT ?_)
          | (go_at_call 54; (with_reducible refine (awake7_any _).mono ?_); rintro e15 w15 ⟨rfl, hb15⟩))
        go_ret
        exact ⟨rfl, hB0.trans (hb15.mono hB0.size)⟩
    · go_simp
      have hge := hHeld.size
      have hnew := Blk.new w6 24 #[.int .u8 0, .int .u8 0, .int .u8 0, .int .u8 0, .int .u8 0, .int .u8 0, .int .u8 0, .int .u8 0, .int .u8 0, .int .u8 0, .int .u8 0, .int .u8 0, .int .u8 0, .int .u8 0, .int .u8 0, .int .u8 0, .int .u8 0, .int .u8 0, .int .u8 0, .int .u8 0, .int .u8 0, .int .u8 0, .int .u8 0, .int .u8 0, .int .u8 0, .int .u8 0, .int .u8 0, .int .u8 0, .int .u8 0, .int .u8 0, .int .u8 0, .int .u8 0]
      refine hK.out _ _ (hHeld.alloc hHeld.size _) (fun hHeld => ?_)
      clear hK K
      try simp only [Act.put, List.getElem_toArray, List.getElem_cons_succ, List.getElem_cons_zero, List.setIfInBounds_toArray, List.set_cons_zero, List.set_cons_succ]
      refine wpAnyH_ready (rs := [8]) (by kernel_rfl) (by simp) ?_
      refine AllReadyH.cons rfl (fun K hK => ?_) AllReadyH.nil
      go_simp
      (with_reducible refine (c8 _ hHeld).mono ?_)
      rintro e8 w8 ⟨rfl, hb8⟩
      refine hK.out _ _ (hHeld.trans (hb8.mono hHeld.size)) (fun hHeld => ?_)
      clear hK K
      try simp only [Act.put, List.getElem_toArray, List.getElem_cons_succ, List.getElem_cons_zero, List.setIfInBounds_toArray, List.set_cons_zero, List.set_cons_succ]
      replace hnew := hnew.below hb8
      refine wpAnyH_ready (rs := [9]) (by kernel_rfl) (by simp) ?_
      refine AllReadyH.cons rfl (fun K hK => ?_) AllReadyH.nil
      go_simp
      (with_reducible refine (c9 _).mono ?_)
      rintro e9 w10 ⟨rfl, hb10⟩
      refine hK.out _ _ (hHeld.trans (hb10.mono hHeld.size)) (fun hHeld => ?_)
      clear hK K
      try simp only [Act.put, List.getElem_toArray, List.getElem_cons_succ, List.getElem_cons_zero, List.setIfInBounds_toArray, List.set_cons_zero, List.set_cons_succ]
      replace hnew := hnew.below hb10
      refine' wpAnyH_take (i := 10) (v := .tuple #[.agg (idVals T), .int .i64 0]) rfl (by kernel_rfl) (by kernel_rfl) (by kernel_rfl) (fun _ _ _ h => h) (Or.inl ⟨by rfl, fun w' hw' => by go_simp⟩) hHeld ?_
      try simp only [Act.put, List.getElem_toArray, List.getElem_cons_succ, List.getElem_cons_zero, List.setIfInBounds_toArray, List.set_cons_zero, List.set_cons_succ]
      refine' wpAnyH_take (i := 11) (v := .agg (idVals T)) rfl (by kernel_rfl) (by kernel_rfl) (by kernel_rfl) (fun _ _ _ h => h) (Or.inl ⟨by rfl, fun w' hw' => by go_simp⟩) hHeld ?_
      try simp only [Act.put, List.getElem_toArray, List.getElem_cons_succ, List.getElem_cons_zero, List.setIfInBounds_toArray, List.set_cons_zero, List.set_cons_succ]
      refine' wpAnyH_take (i := 12) (v := .int .i64 0) rfl (by kernel_rfl) (by kernel_rfl) (by kernel_rfl) (fun _ _ _ h => h) (Or.inl ⟨by rfl, fun w' hw' => by go_simp⟩) hHeld ?_
      try simp only [Act.put, List.getElem_toArray, List.getElem_cons_succ, List.getElem_cons_zero, List.setIfInBounds_toArray, List.set_cons_zero, List.set_cons_succ]
      refine wpAnyH_ready (rs := [14]) (by kernel_rfl) (by simp) ?_
      refine AllReadyH.cons rfl (fun K hK => ?_) AllReadyH.nil
      rw [if_pos (by rfl)]
      refine wp_store_blk 24 _ _ rfl _ _ (idVals T) 24 hnew rfl rfl (by rw [idVals_size, HLT.out]; exact sizeId) (by rw [idVals_size, HLT.out]; rfl) (idVals_one _) ?_
      intro w9 hb9 hg9
      refine hK.out _ _ (hHeld.grown hg9 hHeld.size (by intro i e; cases e; exact hge)) (fun hHeld => ?_)
      clear hK K hnew
      try simp only [Act.put, List.getElem_toArray, List.getElem_cons_succ, List.getElem_cons_zero, List.setIfInBounds_toArray, List.set_cons_zero, List.set_cons_succ]
      refine wpAnyH_ready (rs := [15]) (by kernel_rfl) (by simp) ?_
      refine AllReadyH.cons rfl (fun K hK => ?_) AllReadyH.nil
      go_simp
      refine hK.out _ _ hHeld (fun hHeld => ?_)
      clear hK K
      try simp only [Act.put, List.getElem_toArray, List.getElem_cons_succ, List.getElem_cons_zero, List.setIfInBounds_toArray, List.set_cons_zero, List.set_cons_succ]
      refine wpAnyH_done (by kernel_rfl) ?_ _
      clear c6 c8 c9
      have hpr := hpar.below hHeld
      have hB0 := hBw.trans (hHeld.mono hBw.size)
      have hrow := hrow5.below hHeld
      have p0 := hpr.cell_ (i := 0) rfl
      have p1 := hpr.cell_ (i := 1) rfl
      have hxk := range_blk hb9
      clear hpar hBw hrow5 hHeld
      go_wp2_with (first
        | (go_at_call 55; (with_reducible refine (cO _).mono ?_); rintro e11 w11 ⟨rfl, hb11⟩; replace hrow := hrow.below hb11; replace hxk := hxk.below hb11; replace hpr := hpr.below hb11; replace hB0 := hB0.trans (hb11.mono hB0.size); clear hb11 p0 p1; have p0 := hpr.cell_ (i := 0) rfl; have p1 := hpr.cell_ (i := 1) rfl)
        | ((with_reducible refine wpList_store_newid rfl _ _ rfl T HLT.out rfl rfl (by with_unfolding_all rfl) ?_); intro w12 hx12 hb12; replace hrow := hrow.below hb12; replace hxk := hxk.below hb12; replace hpr := hpr.below hb12; replace hB0 := hB0.trans (hb12.mono hB0.size); clear hb12 p0 p1; have p0 := hpr.cell_ (i := 0) rfl; have p1 := hpr.cell_ (i := 1) rfl)
        | (go_at_call 61; (with_reducible refine (cRW _).mono ?_); rintro e13 w13 ⟨v13, rfl, hown13, hb13⟩; obtain ⟨A13, c13, rfl, hrow13⟩ := RowAt.own hown13 H32.out (by omega); replace hrow := hrow.below hb13; replace hxk := hxk.below hb13; replace hx12 := hx12.below hb13; replace hpr := hpr.below hb13; replace hB0 := hB0.trans (hb13.mono hB0.size); clear hb13 p0 p1; have p0 := hpr.cell_ (i := 0) rfl; have p1 := hpr.cell_ (i := 1) rfl)
        | (go_at_call 14; (with_reducible refine (same_true _ _ _ _ _ _ _ hrow.r hrow13.r).mono ?_); rintro e14 w14 ⟨rfl, hb14⟩; replace hxk := hxk.below hb14; replace hx12 := hx12.below hb14; replace hpr := hpr.below hb14; replace hB0 := hB0.trans (hb14.mono hB0.size); clear hb14 p0 p1; have p0 := hpr.cell_ (i := 0) rfl; have p1 := hpr.cell_ (i := 1) rfl)
        | (with_reducible refine wpList_load_if (by with_unfolding_all rfl) 24 _ rfl _ _ rfl (T.map u8v) _ hxk hu (by with_unfolding_all rfl) hzT ?_)
        | (with_reducible refine wpList_load_if (by with_unfolding_all rfl) 24 _ rfl _ _ rfl (T.map u8v) _ hx12 hu (by with_unfolding_all rfl) hzT ?_)
        | (go_at_call 54; (with_reducible refine (awake7_any _).mono ?_); rintro e15 w15 ⟨rfl, hb15⟩))
      go_ret
      exact ⟨rfl, hB0.trans (hb15.mono hB0.size)⟩
  · go_simp
    have hge := hHeld.size
    have hnew := Blk.new w5.drew 24 #[.int .u8 0, .int .u8 0, .int .u8 0, .int .u8 0, .int .u8 0, .int .u8 0, .int .u8 0, .int .u8 0, .int .u8 0, .int .u8 0, .int .u8 0, .int .u8 0, .int .u8 0, .int .u8 0, .int .u8 0, .int .u8 0, .int .u8 0, .int .u8 0, .int .u8 0, .int .u8 0, .int .u8 0, .int .u8 0, .int .u8 0, .int .u8 0, .int .u8 0, .int .u8 0, .int .u8 0, .int .u8 0, .int .u8 0, .int .u8 0, .int .u8 0, .int .u8 0]
    refine hK.out _ _ (hHeld.alloc hHeld.size _) (fun hHeld => ?_)
    clear hK K
    try simp only [Act.put, List.getElem_toArray, List.getElem_cons_succ, List.getElem_cons_zero, List.setIfInBounds_toArray, List.set_cons_zero, List.set_cons_succ]
    refine wpAnyH_ready (rs := [6]) (by kernel_rfl) (by simp) ?_
    refine AllReadyH.cons rfl (fun K hK => ?_) AllReadyH.nil
    go_simp
    (with_reducible refine (c6 _).mono ?_)
    rintro e6 w6 ⟨rfl, hb6⟩
    refine hK.out _ _ (hHeld.trans (hb6.mono hHeld.size)) (fun hHeld => ?_)
    clear hK K
    try simp only [Act.put, List.getElem_toArray, List.getElem_cons_succ, List.getElem_cons_zero, List.setIfInBounds_toArray, List.set_cons_zero, List.set_cons_succ]
    replace hnew := hnew.below hb6
    refine wpAnyH_ready (rs := [8]) (by kernel_rfl) (by simp) ?_
    refine AllReadyH.cons rfl (fun K hK => ?_) AllReadyH.nil
    go_simp
    (with_reducible refine (c8 _ hHeld).mono ?_)
    rintro e8 w8 ⟨rfl, hb8⟩
    refine hK.out _ _ (hHeld.trans (hb8.mono hHeld.size)) (fun hHeld => ?_)
    clear hK K
    try simp only [Act.put, List.getElem_toArray, List.getElem_cons_succ, List.getElem_cons_zero, List.setIfInBounds_toArray, List.set_cons_zero, List.set_cons_succ]
    replace hnew := hnew.below hb8
    refine wpAnyH_ready (rs := [9]) (by kernel_rfl) (by simp) ?_
    refine AllReadyH.cons rfl (fun K hK => ?_) AllReadyH.nil
    go_simp
    (with_reducible refine (c9 _).mono ?_)
    rintro e9 w10 ⟨rfl, hb10⟩
    refine hK.out _ _ (hHeld.trans (hb10.mono hHeld.size)) (fun hHeld => ?_)
    clear hK K
    try simp only [Act.put, List.getElem_toArray, List.getElem_cons_succ, List.getElem_cons_zero, List.setIfInBounds_toArray, List.set_cons_zero, List.set_cons_succ]
    replace hnew := hnew.below hb10
    refine' wpAnyH_take (i := 10) (v := .tuple #[.agg (idVals T), .int .i64 0]) rfl (by kernel_rfl) (by kernel_rfl) (by kernel_rfl) (fun _ _ _ h => h) (Or.inl ⟨by rfl, fun w' hw' => by go_simp⟩) hHeld ?_
    try simp only [Act.put, List.getElem_toArray, List.getElem_cons_succ, List.getElem_cons_zero, List.setIfInBounds_toArray, List.set_cons_zero, List.set_cons_succ]
    refine' wpAnyH_take (i := 11) (v := .agg (idVals T)) rfl (by kernel_rfl) (by kernel_rfl) (by kernel_rfl) (fun _ _ _ h => h) (Or.inl ⟨by rfl, fun w' hw' => by go_simp⟩) hHeld ?_
    try simp only [Act.put, List.getElem_toArray, List.getElem_cons_succ, List.getElem_cons_zero, List.setIfInBounds_toArray, List.set_cons_zero, List.set_cons_succ]
    refine' wpAnyH_take (i := 12) (v := .int .i64 0) rfl (by kernel_rfl) (by kernel_rfl) (by kernel_rfl) (fun _ _ _ h => h) (Or.inl ⟨by rfl, fun w' hw' => by go_simp⟩) hHeld ?_
    try simp only [Act.put, List.getElem_toArray, List.getElem_cons_succ, List.getElem_cons_zero, List.setIfInBounds_toArray, List.set_cons_zero, List.set_cons_succ]
    refine wpAnyH_ready (rs := [14]) (by kernel_rfl) (by simp) ?_
    refine AllReadyH.cons rfl (fun K hK => ?_) AllReadyH.nil
    rw [if_pos (by rfl)]
    refine wp_store_blk 24 _ _ rfl _ _ (idVals T) 24 hnew rfl rfl (by rw [idVals_size, HLT.out]; exact sizeId) (by rw [idVals_size, HLT.out]; rfl) (idVals_one _) ?_
    intro w9 hb9 hg9
    refine hK.out _ _ (hHeld.grown hg9 hHeld.size (by intro i e; cases e; exact hge)) (fun hHeld => ?_)
    clear hK K hnew
    try simp only [Act.put, List.getElem_toArray, List.getElem_cons_succ, List.getElem_cons_zero, List.setIfInBounds_toArray, List.set_cons_zero, List.set_cons_succ]
    refine wpAnyH_ready (rs := [15]) (by kernel_rfl) (by simp) ?_
    refine AllReadyH.cons rfl (fun K hK => ?_) AllReadyH.nil
    go_simp
    refine hK.out _ _ hHeld (fun hHeld => ?_)
    clear hK K
    try simp only [Act.put, List.getElem_toArray, List.getElem_cons_succ, List.getElem_cons_zero, List.setIfInBounds_toArray, List.set_cons_zero, List.set_cons_succ]
    refine wpAnyH_done (by kernel_rfl) ?_ _
    clear c6 c8 c9
    have hpr := hpar.below hHeld
    have hB0 := hBw.trans (hHeld.mono hBw.size)
    have hrow := hrow5.below hHeld
    have p0 := hpr.cell_ (i := 0) rfl
    have p1 := hpr.cell_ (i := 1) rfl
    have hxk := range_blk hb9
    clear hpar hBw hrow5 hHeld
    go_wp2_with (first
      | (go_at_call 55; (with_reducible refine (cO _).mono ?_); rintro e11 w11 ⟨rfl, hb11⟩; replace hrow := hrow.below hb11; replace hxk := hxk.below hb11; replace hpr := hpr.below hb11; replace hB0 := hB0.trans (hb11.mono hB0.size); clear hb11 p0 p1; have p0 := hpr.cell_ (i := 0) rfl; have p1 := hpr.cell_ (i := 1) rfl)
      | ((with_reducible refine wpList_store_newid rfl _ _ rfl T HLT.out rfl rfl (by with_unfolding_all rfl) ?_); intro w12 hx12 hb12; replace hrow := hrow.below hb12; replace hxk := hxk.below hb12; replace hpr := hpr.below hb12; replace hB0 := hB0.trans (hb12.mono hB0.size); clear hb12 p0 p1; have p0 := hpr.cell_ (i := 0) rfl; have p1 := hpr.cell_ (i := 1) rfl)
      | (go_at_call 61; (with_reducible refine (cRW _).mono ?_); rintro e13 w13 ⟨v13, rfl, hown13, hb13⟩; obtain ⟨A13, c13, rfl, hrow13⟩ := RowAt.own hown13 H32.out (by omega); replace hrow := hrow.below hb13; replace hxk := hxk.below hb13; replace hx12 := hx12.below hb13; replace hpr := hpr.below hb13; replace hB0 := hB0.trans (hb13.mono hB0.size); clear hb13 p0 p1; have p0 := hpr.cell_ (i := 0) rfl; have p1 := hpr.cell_ (i := 1) rfl)
      | (go_at_call 14; (with_reducible refine (same_true _ _ _ _ _ _ _ hrow.r hrow13.r).mono ?_); rintro e14 w14 ⟨rfl, hb14⟩; replace hxk := hxk.below hb14; replace hx12 := hx12.below hb14; replace hpr := hpr.below hb14; replace hB0 := hB0.trans (hb14.mono hB0.size); clear hb14 p0 p1; have p0 := hpr.cell_ (i := 0) rfl; have p1 := hpr.cell_ (i := 1) rfl)
      | (with_reducible refine wpList_load_if (by with_unfolding_all rfl) 24 _ rfl _ _ rfl (T.map u8v) _ hxk hu (by with_unfolding_all rfl) hzT ?_)
      | (with_reducible refine wpList_load_if (by with_unfolding_all rfl) 24 _ rfl _ _ rfl (T.map u8v) _ hx12 hu (by with_unfolding_all rfl) hzT ?_)
      | (go_at_call 54; (with_reducible refine (awake7_any _).mono ?_); rintro e15 w15 ⟨rfl, hb15⟩))
    go_ret
    exact ⟨rfl, hB0.trans (hb15.mono hB0.size)⟩
section
variable {H : Type} {enc : TypeId × Value → H} {w : World} {r : Reach} {base b0 : Nat} {sp : Nat → Bool} {hd : Bool}
set_option maxRecDepth 100000 in
/-- Params that came in. -/
theorem open_params {v : Value} {d : DataW H} {ps : List MemPlace} (hv : Value.okWide Try.prog w r b0 63 v) (h : DataW.Trod enc Try.prog w base sp hd 63 v d ps) :
    ∃ b h : Int, v = .agg #[.int .i64 b, .int .i64 h] ∧ (Lit.int .i64 b).wf = true ∧ (Lit.int .i64 h).wf = true := by
  simp only [Value.okWide, Try.underlying63] at hv
  obtain ⟨cs, rfl, hsz, _⟩ := hv
  obtain ⟨fuel, hf⟩ := h
  cases fuel with
  | zero => simp [DataW.trod] at hf
  | succ k =>
    rw [DataW.trod_step] at hf
    unfold DataW.trodStep at hf
    simp only [Try.underlying63, Value.cells] at hf
    have hc2 : Try.prog.cellsOf 63 = 2 := by kernel_rfl
    have hc1 : Try.prog.cellsOf 3 = 1 := by kernel_rfl
    rw [hc2] at hsz
    rw [if_pos (by rw [hc2, Array.length_toList, hsz])] at hf
    simp only [Option.map_eq_some_iff] at hf
    obtain ⟨xs, hx, _⟩ := hf
    have hy := mapM_each _ _ hx
    obtain ⟨y0, h0⟩ := hy _ (List.mem_cons_self)
    obtain ⟨y1, h1⟩ := hy _ (List.mem_cons_of_mem _ (List.mem_cons_self))
    simp only [hc1] at h0 h1
    obtain ⟨b, e0, _, w0⟩ := DataW.trod_int Try.underlying3 h0
    obtain ⟨h, e1, _, w1⟩ := DataW.trod_int Try.underlying3 h1
    refine ⟨b, h, ?_, w0, w1⟩
    obtain ⟨x, y, hxy⟩ : ∃ x y, cs = #[x, y] := by
      obtain ⟨l⟩ := cs
      simp at hsz
      match l, hsz with
      | [x, y], _ => exact ⟨x, y, rfl⟩
    subst hxy
    simp at e0 e1
    rw [e0, e1]
end
theorem bound_i64w {n : Int} (h : (Lit.int .i64 n).wf = true) : (-9223372036854775808 : Int) ≤ n ∧ n ≤ (9223372036854775807 : Int) := by
  simp only [Lit.wf, Bool.and_eq_true, decide_eq_true_eq] at h
  exact ⟨h.1, h.2⟩
theorem keytreeWays_any (s : List UInt8) (b h L : Int) (w : World) :
    Calls Try.prog 6 #[.agg #[.int .i64 b, .int .i64 h], .string (txt s), .int .i64 L] w fun e w' => e = .returned (.bool true) ∧ Below w.heap.size w w' := by
  by_cases hs : s.length ≤ 100
  · cases hq : rgtP b h with
    | false => exact ways_arg s hs b h L hq w
    | true =>
      cases hl : lgP b h with
      | true => exact ways_large s hs b h L hl w
      | false =>
        obtain ⟨h1, h2, h3⟩ := rgtP_parts hq
        have h4 := rgt_le9 h1
        obtain ⟨n, rfl⟩ : ∃ n : Nat, b = n := ⟨b.toNat, by omega⟩
        obtain ⟨m, rfl⟩ : ∃ m : Nat, h = m := ⟨h.toNat, by omega⟩
        by_cases h0 : L < 0
        · exact ways_neg s hs n m hq hl L h0 w
        · by_cases h5 : ((2 ^ m : Nat) : Int) ≤ L
          · exact ways_high s hs n m hq hl L h0 h5 w
          · obtain ⟨l, rfl⟩ : ∃ l : Nat, L = l := ⟨L.toNat, by omega⟩
            exact ways_ok s hs n m hq hl l (by omega) w
  · exact ways_big s (by omega) b h L w
set_option linter.unusedVariables false in
theorem law_KeytreeWays (w : World) (a0 : Int) (w0 : (Lit.int .i64 a0).wf = true) (x0 : Int) (u0 : (Lit.int .i64 x0).wf = true) (a1 : ByteArray) (w1 : a1.size ≤ maxLen) (a2 : Int) (w2 : (Lit.int .i64 a2).wf = true) :
    Calls Try.prog 6 #[.agg #[.int .i64 a0, .int .i64 x0], .string a1, .int .i64 a2] w fun e w' => e = .returned (.bool true) ∧ Below w.heap.size w w' := by
  exact keytreeWays_any a1.data.toList a0 x0 a2 w

open Go.ChangeShapes Go.WideShapes Go.ChangeAt
open Go.ChangeMaps (open_string shut_string)
theorem own_KeytreeWays : ownKnob Try.prog.godebug = none := by kernel_rfl
theorem laidOut_KeytreeWays : laidOutB Try.prog = true := by kernel_rfl
set_option linter.unusedVariables false in
set_option maxRecDepth 100000 in
theorem lifted_KeytreeWays (os : Os) (started : os.Started) (H : Type) (enc : TypeId × Value → H) :
    ReturnsInHanded {} Try.checked os 6 .any (Rows.keytreeWaysSpec.pre6 enc Try.prog Try.f6 Rows.keytreeWaysRow.domain false) (Rows.keytreeWaysSpec.post enc Try.prog Try.f6 false true false false) := by
  refine returnsInHanded_of_change (C := Try.checked) own_KeytreeWays started (by kernel_rfl) Try.func6
    (ChangeSpec.witness6 (enc := enc) (C := Try.checked) false ⟨#[], #[.agg #[.int .i64 0, .int .i64 0], .string ByteArray.empty, .int .i64 0], []⟩ 8 (by kernel_rfl) (by kernel_rfl) (by kernel_rfl) (by kernel_rfl)) ?_
  intro W base args ds gs before hval0 hW hcnd _
  have hval : ∀ (j : Nat) t v, Try.f6.params[j]? = some t → args[j]? = some v → Value.okWide Try.prog W .any base t v := hval0
  have hW' := hW
  obtain ⟨p, q, hA0, hV, rfl, hfz, hnd⟩ := hW
  have hA1 : DataW.TrodAll enc Try.prog W 0 (fun _ => true) true Try.f6.params.toList args.toList ds p := hA0
  have hA : DataW.TrodAll enc Try.prog W 0 (fun _ => true) true Try.f6.params.toList args.toList ds p := hA0
  rw [Try.params6] at hA hval
  obtain ⟨v0, vs0, d0, ds0, p0, q0, hargs, rfl, rfl, h0, r0⟩ := trodAll_cons hA
  obtain ⟨v1, vs1, d1, ds1, p1, q1, rfl, rfl, rfl, h1, r1⟩ := trodAll_cons r0
  obtain ⟨v2, vs2, d2, ds2, p2, q2, rfl, rfl, rfl, h2, r2⟩ := trodAll_cons r1
  obtain ⟨rfl, rfl, rfl⟩ := trodAll_nil r2
  obtain rfl : args = #[v0, v1, v2] := by cases args; simp_all
  obtain ⟨rfl, rfl⟩ := trodVars_none hV
  obtain ⟨a0, x0, rfl, w0, u0⟩ := open_params (hval 0 63 v0 rfl rfl) h0
  obtain ⟨a1, rfl, rfl, rfl, w1⟩ := open_string Try.underlying9 (hval 1 9 v1 rfl rfl) h1
  obtain ⟨a2, rfl, rfl, rfl, w2⟩ := open_int Try.underlying3 (hval 2 3 v2 rfl rfl) h2
  clear hA0 hval0
  refine (law_KeytreeWays W a0 w0 x0 u0 a1 w1 a2 w2).mono fun e W' ⟨he, bel⟩ => ?_
  subst he
  exact ⟨_, rfl, _, _, _, [], _, [], hW', trodAll_mk1 (shut_bool Try.underlying4 _), trodAll_stays laidOut_KeytreeWays bel (by kernel_rfl) hA1, rfl, bel.frame _, fun h => by cases h⟩

/-- The statement. -/
theorem KeytreeWays_holds : Rows.KeytreeWaysSaid :=
  OpenClaim.holds_of_wide 6 Try.f6 rfl rfl rfl rfl rfl rfl rfl ⟨rfl, rfl, rfl, rfl, rfl⟩ rfl rfl rfl rfl rfl (by kernel_rfl) Try.func6 (by kernel_rfl)
    (of_decide_eq_true (by kernel_rfl)) (by unfold Func.isWrapper; first | (rw [if_pos (by decide +kernel)]; kernel_rfl) | (rw [if_neg (by decide +kernel)]; exact ⟨rfl, rfl⟩))
    (fun os started H enc _ => lifted_KeytreeWays os started H enc)
#print axioms KeytreeWays_holds
end Go.Proofs.Ytfdbgmnnahcejaa


/- recon: the law ReconBuckets, walked. -/
import Derived.Test.YtkajfpincbkfhaaRc9
set_option linter.unusedSimpArgs false
set_option linter.unusedVariables false
namespace Go.Proofs.Ytkajfpincbkfhaa
open Go.RowKit Go.Qc Go.Shelf
attribute [local go_sem] txt_size txt_append ib_fold
theorem inL_bk (l : List (List UInt8)) (k j : Nat) : talZ (inL l k ((j : Nat) : Int)) = bkT l k j := by
  unfold inL bkT
  congr 1
  apply List.filter_congr
  intro x _
  simp [Int.ofNat_inj]
theorem rb_eq {a b c d : Int} : ((a == c) && (b == d)) = decide ((a, b) = (c, d)) := by
  by_cases h1 : a = c <;> by_cases h2 : b = d <;> simp [h1, h2]
set_option maxRecDepth 100000 in
set_option maxHeartbeats 8000000 in
theorem rb_far (A B : Option Addr) (n c m d : Nat) (v t : Int) (w : World) (hn : 30 < n ∨ 30 < m) :
    Calls Try.prog 8 #[.slice A n c, .slice B m d, .int .i64 v, .int .i64 t] w fun e w' => e = .returned (.bool true) ∧ Below w.heap.size w w' := by
  by_cases h1 : 30 < n
  · have z1 : (30 : Int) < n := by omega
    go_enter Try.func8, Try.ntmps8
    go_wp2_with (go_at_call 29; (with_reducible refine (awake23_any _).mono ?_); rintro e9 w9 ⟨rfl, hb9⟩)
    go_ret
    exact ⟨rfl, hb9⟩
  · have z1 : ¬ (30 : Int) < n := by omega
    have z2 : (30 : Int) < m := by omega
    go_enter Try.func8, Try.ntmps8
    go_wp2_with (go_at_call 29; (with_reducible refine (awake23_any _).mono ?_); rintro e9 w9 ⟨rfl, hb9⟩)
    go_ret
    exact ⟨rfl, hb9⟩
set_option maxRecDepth 100000 in
set_option maxHeartbeats 8000000 in
theorem rb_out (A B : Option Addr) (n c m d : Nat) (v t : Int) (hv : ¬ (0 ≤ v ∧ v ≤ 8)) (w : World) (hn : n ≤ 30) (hm : m ≤ 30) :
    Calls Try.prog 8 #[.slice A n c, .slice B m d, .int .i64 v, .int .i64 t] w fun e w' => e = .returned (.bool true) ∧ Below w.heap.size w w' := by
  have z1 : ¬ (30 : Int) < n := by omega
  have z2 : ¬ (30 : Int) < m := by omega
  have cB : ∀ W, Calls Try.prog 36 #[.slice A n c, .int .i64 v] W fun e w' => e = .returned (.tuple #[.slice none 0 0, .int .i64 5]) ∧ W = w' := fun W => buckets_no A n c v hv W
  have cI : ∀ W, Calls Try.prog 37 #[.slice A n c, .int .i64 v, .int .i64 t] W fun e w' => e = .returned (.slice none 0 0) ∧ W = w' := fun W => rcin_no A n c v t hv W
  by_cases h1 : v < 0
  · go_enter Try.func8, Try.ntmps8
    go_wp2_with (first
      | (go_at_call 36; (with_reducible refine (cB _).mono ?_); rintro e2 w2 ⟨rfl, rfl⟩)
      | (go_at_call 37; (with_reducible refine (cI _).mono ?_); rintro e3 w3 ⟨rfl, rfl⟩)
      | (go_at_call 29; (with_reducible refine (awake23_any _).mono ?_); rintro e9 w9 ⟨rfl, hb9⟩))
    go_ret
    exact ⟨rfl, hb9⟩
  · have h2 : 8 < v := by omega
    go_enter Try.func8, Try.ntmps8
    go_wp2_with (first
      | (go_at_call 36; (with_reducible refine (cB _).mono ?_); rintro e2 w2 ⟨rfl, rfl⟩)
      | (go_at_call 37; (with_reducible refine (cI _).mono ?_); rintro e3 w3 ⟨rfl, rfl⟩)
      | (go_at_call 29; (with_reducible refine (awake23_any _).mono ?_); rintro e9 w9 ⟨rfl, hb9⟩))
    go_ret
    exact ⟨rfl, hb9⟩
set_option maxRecDepth 100000 in
set_option maxHeartbeats 8000000 in
theorem rb_in (A B : Option Addr) (n c m d : Nat) (l r : List (List UInt8)) (k : Nat) (hk : k ≤ 8) (t : Int) (w : World) (hn : n ≤ 30) (hm : m ≤ 30) (hA : RowC w A n c l) (hB : RowC w B m d r) :
    Calls Try.prog 8 #[.slice A n c, .slice B m d, .int .i64 (k : Int), .int .i64 t] w fun e w' => e = .returned (.bool true) ∧ Below w.heap.size w w' := by
  have mixed : Try.prog.follows .mixedOrders = true := by kernel_rfl
  have z1 : ¬ (30 : Int) < n := by omega
  have z2 : ¬ (30 : Int) < m := by omega
  have z3 : ¬ (k : Int) < 0 := by omega
  have z4 : ¬ (8 : Int) < (k : Int) := by omega
  obtain ⟨N, hN⟩ : ∃ N, 2 ^ k = N := ⟨_, rfl⟩
  have hN9 : N ≤ 256 := by rw [← hN]; exact two_8 hk
  have hN1 : 1 ≤ N := by rw [← hN]; exact Nat.one_le_two_pow
  have h32l := hA.1.2.2.1
  have h32r := hB.1.2.2.1
  have hll := hA.1.1
  have cB1 : ∀ W, RowC W A n c l → Calls Try.prog 36 #[.slice A n c, .int .i64 (k : Int)] W fun e w' => ∃ g, W.heap.size ≤ g ∧ e = .returned (.tuple #[.slice (some ⟨g, 0, none⟩) N N, .int .i64 0]) ∧ CxAt w' g N (bkT l k) ∧ Below W.heap.size W w' := fun W h => buckets_gen A n c l k hk N hN W h.1
  have cB2 : ∀ W, RowC W B m d r → Calls Try.prog 36 #[.slice B m d, .int .i64 (k : Int)] W fun e w' => ∃ g, W.heap.size ≤ g ∧ e = .returned (.tuple #[.slice (some ⟨g, 0, none⟩) N N, .int .i64 0]) ∧ CxAt w' g N (bkT r k) ∧ Below W.heap.size W w' := fun W h => buckets_gen B m d r k hk N hN W h.1
  have cP : ∀ W, Calls Try.prog 38 #[.int .i64 (k : Int)] W fun e w' => e = .returned (.int .i64 (N : Int)) ∧ W = w' := fun W => by rw [← hN]; exact rpow_8 k hk W
  have cI : ∀ W, RowC W A n c l → Calls Try.prog 37 #[.slice A n c, .int .i64 (k : Int), .int .i64 t] W fun e w' => ∃ A9 c9, e = .returned (.slice A9 (inL l k t).length c9) ∧ RowR w' A9 (inL l k t).length (inL l k t) ∧ Below W.heap.size W w' := fun W h => by
    refine (rcin_any A n c l k hk t W h).mono ?_
    rintro e w' ⟨v, rfl, ho, hb⟩
    obtain ⟨A9, c9, rfl, hq⟩ := own_rowC ho (inL_32 k t h32l) (show (inL l k t).length ≤ 1000000 by have : (inL l k t).length ≤ l.length := List.length_filter_le _ _; omega)
    exact ⟨A9, c9, rfl, hq.1, hb⟩
  have cJ : ∀ W, RowC W A n c l → Calls Try.prog 39 #[.slice A n c, .int .i64 (k : Int), .int .i64 t] W fun e w' => ∃ A9 c9, e = .returned (.slice A9 (inL l k t).length c9) ∧ RowR w' A9 (inL l k t).length (inL l k t) ∧ Below W.heap.size W w' := fun W h => by
    refine (rin23_any A n c l k hk t W h).mono ?_
    rintro e w' ⟨v, rfl, ho, hb⟩
    obtain ⟨A9, c9, rfl, hq⟩ := own_rowC ho (inL_32 k t h32l) (show (inL l k t).length ≤ 1000000 by have : (inL l k t).length ≤ l.length := List.length_filter_le _ _; omega)
    exact ⟨A9, c9, rfl, hq.1, hb⟩
  have cS : ∀ W A9 c9 A8 c8, RowR W A9 (inL l k t).length (inL l k t) → RowR W A8 (inL l k t).length (inL l k t) → Calls Try.prog 23 #[.slice A9 (inL l k t).length c9, .slice A8 (inL l k t).length c8] W fun e w' => e = .returned (.bool true) ∧ Below W.heap.size W w' := fun W A9 c9 A8 c8 h1 h2 => by
    have := rsame_any A9 A8 _ c9 _ c8 _ _ W h1 h2
    rw [decide_eq_true rfl] at this
    exact this
  have cU1 : ∀ W g q, CxAt W g N (bkT l k) → CxAt W q N (bkT r k) → Calls Try.prog 40 #[.slice (some ⟨g, 0, none⟩) N N, .slice (some ⟨q, 0, none⟩) N N] W fun e w' => ∃ v, e = .returned (.tuple #[v, .int .i64 0]) ∧ NtOw w' W.heap.size v (unL (bkT l k) (bkT r k) N) ∧ Below W.heap.size W w' := fun W g q h1 h2 => unlike_any g q N hN9 _ _ (bkT_res _ _) (bkT_res _ _) W h1 h2
  have cU2 : ∀ W g q, Calls Try.prog 40 #[.slice (some ⟨g, 0, none⟩) N N, .slice (some ⟨q, 0, none⟩) (N - 1) (N - 1)] W fun e w' => e = .returned (.tuple #[.slice none 0 0, .int .i64 3]) ∧ W = w' := fun W g q => unlike_no _ _ N N (N - 1) (N - 1) (by omega) W
  have HR : Hid (∀ j : Nat, ∀ W, RowC W A n c l → Calls Try.prog 39 #[.slice A n c, .int .i64 (k : Int), .int .i64 (j : Int)] W fun e w' => ∃ A9 n9 c9, e = .returned (.slice A9 n9 c9) ∧ RowR w' A9 n9 (inL l k (j : Int)) ∧ Below W.heap.size W w') := hid (fun j W h => by
    refine (rin23_any A n c l k hk (j : Int) W h).mono ?_
    rintro e w' ⟨v, rfl, ho, hb⟩
    obtain ⟨A9, c9, rfl, hq⟩ := own_rowC ho (inL_32 k _ h32l) (show (inL l k (j : Int)).length ≤ 1000000 by have : (inL l k (j : Int)).length ≤ l.length := List.length_filter_le _ _; omega)
    exact ⟨A9, _, c9, rfl, hq.1, hb⟩)
  have HR2 : Hid (∀ j : Nat, ∀ W, RowC W B m d r → Calls Try.prog 39 #[.slice B m d, .int .i64 (k : Int), .int .i64 (j : Int)] W fun e w' => ∃ A9 n9 c9, e = .returned (.slice A9 n9 c9) ∧ RowR w' A9 n9 (inL r k (j : Int)) ∧ Below W.heap.size W w') := hid (fun j W h => by
    refine (rin23_any B m d r k hk (j : Int) W h).mono ?_
    rintro e w' ⟨v, rfl, ho, hb⟩
    obtain ⟨A9, c9, rfl, hq⟩ := own_rowC ho (inL_32 k _ h32r) (show (inL r k (j : Int)).length ≤ 1000000 by have : (inL r k (j : Int)).length ≤ r.length := List.length_filter_le _ _; have := hB.1.1; omega)
    exact ⟨A9, _, c9, rfl, hq.1, hb⟩)
  have hq1 : wrap64 ((N : Int) - 1) = ((N - 1 : Nat) : Int) := by unfold wrap64; omega
  have HN9 := hid hN9
  have HN1 := hid hN1
  generalize inL l k t = M at *
  obtain ⟨ML, hML⟩ : ∃ L, M.length = L := ⟨_, rfl⟩
  rw [hML] at cI cJ cS
  clear hML hN hk h32l h32r hll hn hm hN9 hN1
  go_enter Try.func8, Try.ntmps8
  go_upto_region 4 with (go_at_call 36; (with_reducible refine (cB1 _ hA).mono ?_); rintro e2 w2 ⟨g, hg2, rfl, hC2, hb2⟩)
  replace hA := hA.below hb2
  replace hB := hB.below hb2
  have hb := hb2
  clear hb2 hg2 cB1
  go_upto_region 8 with (first
    | (go_at_call 38; (with_reducible refine (cP _).mono ?_); rintro e3 w3 ⟨rfl, rfl⟩)
    | (go_at_call 37; (with_reducible refine (cI _ hA).mono ?_); rintro e4 w4 ⟨A4, c4, rfl, hr4, hb4⟩; replace hA := hA.below hb4; replace hB := hB.below hb4; replace hC2 := hC2.below hb4; replace hb := hb.trans (hb4.mono hb.size))
    | (go_at_call 39; (with_reducible refine (cJ _ hA).mono ?_); rintro e5 w5 ⟨A5, c5, rfl, hr5, hb5⟩; replace hr4 := hr4.below hb5; replace hA := hA.below hb5; replace hB := hB.below hb5; replace hC2 := hC2.below hb5; replace hb := hb.trans (hb5.mono hb.size))
    | (go_at_call 23; (with_reducible refine (cS _ _ _ _ _ hr4 hr5).mono ?_); rintro e6 w6 ⟨rfl, hb6⟩; replace hA := hA.below hb6; replace hB := hB.below hb6; replace hC2 := hC2.below hb6; replace hb := hb.trans (hb6.mono hb.size)))
  clear hr4 hr5 hb4 hb5 hb6 cI cJ cS cP
  go_upto_region 10 with (first
    | (go_at_call 36; (with_reducible refine (cB2 _ hB).mono ?_); rintro e7 w7 ⟨q, hq7, rfl, hC7, hb7⟩; replace hA := hA.below hb7; replace hB := hB.below hb7; replace hC2 := hC2.below hb7; replace hb := hb.trans (hb7.mono hb.size))
    | (go_at_call 40; (with_reducible refine (cU1 _ _ _ hC2 hC7).mono ?_); rintro e8 w8 ⟨v8, rfl, hO8, hb8⟩; replace hA := hA.below hb8; replace hB := hB.below hb8; replace hC2 := hC2.below hb8; replace hb := hb.trans (hb8.mono hb.size)))
  have hs3 := slice3_cx q N HN1.out
  clear hq7 hb7 hb8 hC7 cB2 cU1
  generalize hT : bkT l k = T at *
  generalize hU : bkT r k = U at *
  have hLn : Hid ((unL T U N).length ≤ 256) := hid (Nat.le_trans (unL_len T U N) HN9.out)
  obtain ⟨Av, cv, rfl⟩ := hO8.sl
  obtain ⟨Lu, hLu⟩ : ∃ L, (unL T U N).length = L := ⟨_, rfl⟩
  rw [hLu] at hLn
  have HO := hid hO8
  simp only [hLu]
  have HLu := hid hLu
  have HT := hid hT
  have HU := hid hU
  have HA := hid hA
  have HB := hid hB
  have HC := hid hC2
  have HBW := hid hb
  clear hLu hO8 hT hU hA hB hC2 hb
  go_upto_region 14 with (go_at_call 40; (with_reducible refine (cU2 _ _ _).mono ?_); rintro e9 w9 ⟨rfl, rfl⟩)
  clear cU2 hs3 hq1
  go_wp2_with (fail)
  go_loopw [17, 118] (fun u v wr => ∃ (j p : Nat), j ≤ N ∧ u = .int .i64 (p : Int) ∧ v = .int .i64 (j : Int) ∧ Hid (p = (unL T U j).length) ∧ Hid (Below w8.heap.size w8 wr)) (fun _ v _ => N - (intOf v).toNat)
  case atStart => exact ⟨0, 0, Nat.zero_le _, rfl, rfl, hid rfl, hid (Below.refl _ _)⟩
  case round =>
    obtain ⟨j, p, hj, rfl, rfl, HP, HB9⟩ := hrel
    by_cases hlt : j < N
    · have z5 : (j : Int) < (N : Int) := Int.ofNat_lt.2 hlt
      have q9 := pv_q1 (p := j) (by have := HN9.out; omega)
      have hpl : p ≤ 256 := by rw [HP.out]; exact Nat.le_trans (unL_len T U j) (by have := HN9.out; omega)
      have q8 := pv_q1 (p := p) (by omega)
      have hpj : T j ≠ U j → p < Lu := fun hne => by
        have := (List.getElem?_eq_some_iff.1 (unL_at hlt hne)).1
        rw [HLu.out, ← HP.out] at this
        exact this
      have HPJ := hid hpj
      have HLT := hid hlt
      have cI1 := HR.out j
      have cI2 := HR2.out j
      obtain ⟨⟨a1, a2⟩, hTj⟩ : ∃ x, T j = x := ⟨_, rfl⟩
      obtain ⟨⟨b1, b2⟩, hUj⟩ : ∃ x, U j = x := ⟨_, rfl⟩
      have cT1 : ∀ W A9 n9 c9, RowR W A9 n9 (inL l k (j : Int)) → Calls Try.prog 33 #[.slice A9 n9 c9] W fun e w' => e = .returned (.agg #[.int .i64 a1, .int .i64 a2]) ∧ Below W.heap.size W w' := fun W A9 n9 c9 h1 => by
        have := rtally22_any A9 n9 c9 _ W h1
        rw [inL_bk, HT.out, hTj] at this
        exact this
      have cT2 : ∀ W A9 n9 c9, RowR W A9 n9 (inL r k (j : Int)) → Calls Try.prog 33 #[.slice A9 n9 c9] W fun e w' => e = .returned (.agg #[.int .i64 b1, .int .i64 b2]) ∧ Below W.heap.size W w' := fun W A9 n9 c9 h1 => by
        have := rtally22_any A9 n9 c9 _ W h1
        rw [inL_bk, HU.out, hUj] at this
        exact this
      have cN : ∀ W, Calls Try.prog 32 #[.agg #[.int .i64 a1, .int .i64 a2]] W fun e w' => e = .returned (cz (a1, a2)) ∧ Below W.heap.size W w' := fun W => number22_any (a1, a2) W
      have hres : ResZ (a1, a2) := by rw [← hTj, ← HT.out]; exact bkT_res _ _ _
      have HTJ := hid hTj
      have HUJ := hid hUj
      have hA9 := HA.out.below HB9.out
      have hB9 := HB.out.below HB9.out
      have hbx := HB9.out
      generalize inL l k (j : Int) = M1 at *
      generalize inL r k (j : Int) = M2 at *
      clear hlt hj hpj hTj hUj HB9 HR HR2
      go_upto_region 18 with (first
        | (go_at_call 39; (with_reducible refine (cI1 _ hA9).mono ?_); rintro e3 w3 ⟨A3, n3, c3, rfl, hr3, hb3⟩; replace hbx := hbx.trans (hb3.mono hbx.size); replace hB9 := hB9.below hb3)
        | (go_at_call 33; (with_reducible refine (cT1 _ _ _ _ hr3).mono ?_); rintro e4 w4 ⟨rfl, hb4⟩; replace hbx := hbx.trans (hb4.mono hbx.size); replace hB9 := hB9.below hb4)
        | (go_at_call 39; (with_reducible refine (cI2 _ hB9).mono ?_); rintro e5 w5 ⟨A5, n5, c5, rfl, hr5, hb5⟩; replace hbx := hbx.trans (hb5.mono hbx.size))
        | (go_at_call 33; (with_reducible refine (cT2 _ _ _ _ hr5).mono ?_); rintro e6 w6 ⟨rfl, hb6⟩; replace hbx := hbx.trans (hb6.mono hbx.size)))
      have hal := ((Below.refl w6.heap.size w6).alloc (Nat.le_refl _) (.cells #[.int .i64 a1, .int .i64 a2] 63)).alloc (by simp) (.cells #[.int .i64 b1, .int .i64 b2] 63)
      have h19 := (Blk.new w6 63 #[.int .i64 a1, .int .i64 a2]).alloc (.cells #[.int .i64 b1, .int .i64 b2] 63)
      have h20 := Blk.new (w6.alloc (.cells #[.int .i64 a1, .int .i64 a2] 63)) 63 #[.int .i64 b1, .int .i64 b2]
      have hsz : (w6.alloc (.cells #[.int .i64 a1, .int .i64 a2] 63)).heap.size = w6.heap.size + 1 := by simp
      rw [hsz] at h20
      replace hbx := hbx.trans (hal.mono hbx.size)
      clear hal hr3 hr5 hb3 hb4 hb5 hb6 hA9 hB9 cI1 cI2 cT1 cT2 hsz
      generalize (w6.alloc (.cells #[.int .i64 a1, .int .i64 a2] 63)).alloc (.cells #[.int .i64 b1, .int .i64 b2] 63) = w9 at *
      have hfc : w9.cell? ⟨g, j, none⟩ = some (cz (a1, a2)) := by rw [← HTJ.out]; exact (HC.out.below hbx).cell HLT.out
      have fC : ∀ p : LaterW w9, p.w.cell? ⟨g, j, none⟩ = some (cz (a1, a2)) := fun p => cell_belM p.h hfc
      have f0 : ∀ p : LaterW w9, p.w.cell? ⟨w6.heap.size, 0, none⟩ = some (.int .i64 a1) := fun p => (h19.below p.h).cell_ rfl
      have f1 : ∀ p : LaterW w9, p.w.cell? ⟨w6.heap.size, 1, none⟩ = some (.int .i64 a2) := fun p => (h19.below p.h).cell_ rfl
      have dN : ∀ p : LaterW w9, Calls Try.prog 32 #[.agg #[.int .i64 a1, .int .i64 a2]] p.w fun e w' => e = .returned (cz (a1, a2)) ∧ Below p.w.heap.size p.w w' := fun p => cN p.w
      have x1 := fun W => cx_index g N N j HLT.out W
      have he1 : ∀ W, (binOp .neq 54 (cz (a1, a2)) (cz (a1, a2))).run Try.prog W = .ok (.bool false) W := fun W => by
        have := run_cz_neq 54 (a1, a2) (a1, a2) hres hres W
        rw [decide_eq_true rfl] at this
        exact this
      have he0 : ∀ W a b, (eqGuard .neq 54 a b (cz (a1, a2)) (cz (a1, a2))).run Try.prog W = .ok () W := fun W a b => guard_cz .neq 54 a b _ _ W
      generalize cz (a1, a2) = CZ at *
      clear cN hres hfc
      refine wp_region_later mixed (by kernel_rfl) ?_
      repeat (first
        | ((with_reducible refine wpQuiet_skip (by with_unfolding_all rfl) ?_); simp only [Act.put, List.setIfInBounds_toArray, List.set_cons_zero, List.set_cons_succ])
        | ((with_reducible refine wpQuiet_step (fun K hK => ?_)); go_simp; first | ((with_reducible refine hK _ ?_); clear hK K) | (with_reducible apply Exists.intro; (with_reducible refine ⟨fun _ => ?_, hK _ ?_⟩); ((first | (go_at_call 32; exact later_of (dN _)))); clear hK K)))
      with_reducible refine wpQuiet_nil ?_
      intro _ hw'
      obtain ⟨p9, rfl⟩ := hw'
      have hp9 := p9.h
      generalize p9.w = w10 at *
      replace h19 := h19.below hp9
      replace h20 := h20.below hp9
      replace hbx := hbx.trans (hp9.mono hbx.size)
      clear fC f0 f1 dN x1 he0 he1 hp9
      have g0 : w10.cell? ⟨w6.heap.size, 0, none⟩ = some (.int .i64 a1) := h19.cell_ rfl
      have g1 : w10.cell? ⟨w6.heap.size, 1, none⟩ = some (.int .i64 a2) := h19.cell_ rfl
      have g2 : w10.cell? ⟨w6.heap.size + 1, 0, none⟩ = some (.int .i64 b1) := h20.cell_ rfl
      have g3 : w10.cell? ⟨w6.heap.size + 1, 1, none⟩ = some (.int .i64 b2) := h20.cell_ rfl
      obtain ⟨te, hte⟩ : ∃ t, ((a1 == b1) && (a2 == b2)) = t := ⟨_, rfl⟩
      have hpe : ∀ W, (Op.equalIn 10000 63 (.agg #[.int .i64 a1, .int .i64 a2]) (.agg #[.int .i64 b1, .int .i64 b2])).run Try.prog W = .ok te W := fun W => by rw [← hte]; exact pair_eqZ a1 a2 b1 b2 W
      have HTE : Hid (te = decide (T j = U j)) := hid (by rw [← hte, rb_eq, HTJ.out, HUJ.out])
      have HBX := hid hbx
      clear hte h19 h20 hbx
      cases te with
      | true =>
        have HS : Hid (unL T U (j + 1) = unL T U j) := hid (by rw [unL_step, if_pos (of_decide_eq_true HTE.out.symm)])
        go_wp2_with (fail)
        go_roundw
        case rel => exact ⟨j + 1, p, HLT.out, rfl, by go_num, hid (by rw [HS.out]; exact HP.out), HBX⟩
        case measure => first | exact meas_k9 HLT.out | (rw [q9]; exact meas_k9 HLT.out)
      | false =>
        have hne : T j ≠ U j := of_decide_eq_false HTE.out.symm
        have HS : Hid (unL T U (j + 1) = unL T U j ++ [j]) := hid (by rw [unL_step, if_neg hne])
        have hpL : p < Lu := HPJ.out hne
        have z6 : ¬ (Lu : Int) ≤ (p : Int) := by omega
        obtain ⟨gu, cu, eu, fu8⟩ := HO.out.pick (j := p) (i := j) (by rw [HP.out]; exact unL_at HLT.out hne)
        have hAv : Av = some ⟨gu, 0, none⟩ := by injection eu
        have x3 : ∀ W, (Instr.indexAt 39 (.slice Av Lu cv) (.int .i64 (p : Int))).run Try.prog W = .ok (.pointer (some ⟨gu, p, none⟩)) W := fun W => by rw [hAv]; exact nt_index gu Lu cv p hpL W
        have fu := cell_belM HBX.out fu8
        clear hne hpL eu hAv fu8
        go_wp2_with (fail)
        go_roundw
        case rel => exact ⟨j + 1, p + 1, HLT.out, by go_num, by go_num, hid (by rw [HS.out, List.length_append, HP.out]; rfl), HBX⟩
        case measure => first | exact meas_k9 HLT.out | (rw [q9]; exact meas_k9 HLT.out)
    · obtain rfl : j = N := by omega
      obtain rfl : p = Lu := by rw [HP.out]; exact HLu.out
      have z5 : ¬ (j : Int) < (j : Int) := by omega
      have HBF := hid (HBW.out.trans (HB9.out.mono HBW.out.size))
      clear hlt hj HB9
      go_wp2_with (go_at_call 29; (with_reducible refine (awake23_any _).mono ?_); rintro e9 w11 ⟨rfl, hb11⟩)
      go_ret
      exact ⟨rfl, HBF.out.trans (hb11.mono HBF.out.size)⟩
end Go.Proofs.Ytkajfpincbkfhaa


/- lamport: the document's secrets, public sums, right bits; the chapter's examples. -/
import Derived.Test.YtfdbgmnnahcejaaLam1
namespace Go.Proofs.Ytfdbgmnnahcejaa
open Go.RowKit Go.Qc
attribute [local go_sem] txt_size txt_append ib_fold

set_option maxRecDepth 100000 in
set_option maxHeartbeats 4000000 in
theorem rsecret_any (s : List UInt8) (hs : s.length ≤ 1000) (lf bt sd : Int) (w : World) :
    Calls Try.prog 127 #[.string (txt s), .int .i64 lf, .int .i64 bt, .int .i64 sd] w fun e w' => e = .returned (.agg (idVals (secB s lf bt sd))) ∧ Below w.heap.size w w' := by
  have hu := Try.underlying24
  obtain ⟨S, hS⟩ : ∃ S, S = secB s lf bt sd := ⟨_, rfl⟩
  have hSl : S.length = 32 := by rw [hS]; exact secB_length _ _ _ _
  rw [← hS]
  have k1 := fun W => rclamp_any lf 9223372036854775807 9223372036854775807 rfl W
  have k2 := fun W => rclamp_any bt 65535 65535 rfl W
  have k3 := fun W => rclamp_any sd 1 1 rfl W
  have c1 : ∀ W : World, Calls Try.prog 152 #[.int .i64 (clN lf 9223372036854775807 : Nat), .int .i64 8] W fun e w' => e = .returned (.string (txt (nB (clN lf 9223372036854775807) 8))) ∧ Below W.heap.size W w' := fun W =>
    rnum_any _ 8 8 rfl (clN_le _ _) (by decide) (Nat.lt_of_le_of_lt (clN_le _ _) (by decide)) W
  have c2 : ∀ W : World, Calls Try.prog 152 #[.int .i64 (clN bt 65535 : Nat), .int .i64 2] W fun e w' => e = .returned (.string (txt (nB (clN bt 65535) 2))) ∧ Below W.heap.size W w' := fun W =>
    rnum_any _ 2 2 rfl (Nat.le_trans (clN_le _ _) (by decide)) (by decide) (Nat.lt_of_le_of_lt (clN_le _ _) (by decide)) W
  have c3 : ∀ W : World, Calls Try.prog 152 #[.int .i64 (clN sd 1 : Nat), .int .i64 1] W fun e w' => e = .returned (.string (txt (nB (clN sd 1) 1))) ∧ Below W.heap.size W w' := fun W =>
    rnum_any _ 1 1 rfl (Nat.le_trans (clN_le _ _) (by decide)) (by decide) (Nat.lt_of_le_of_lt (clN_le _ _) (by decide)) W
  have hof : ∀ W A c, Rd W A ([s, nB (clN lf 9223372036854775807) 8, nB (clN bt 65535) 2, nB (clN sd 1) 1].map strV) → Calls Try.prog 123 #[.string ⟨#[115, 101, 99, 114, 101, 116]⟩, .slice A 4 c] W fun e w' => e = .returned (.agg (idVals S)) ∧ Below W.heap.size W w' := fun W A c h => by
    rw [hS]
    exact rof_any secN (by decide) A 4 c _ rfl (textB_sec _ _ _ _ hs (nB_length _ _) (nB_length _ _) (nB_length _ _)) W h
  clear hS
  generalize nB (clN lf 9223372036854775807) 8 = N1 at *
  generalize nB (clN bt 65535) 2 = N2 at *
  generalize nB (clN sd 1) 1 = N3 at *
  generalize clN lf 9223372036854775807 = q1 at *
  generalize clN bt 65535 = q2 at *
  generalize clN sd 1 = q3 at *
  have HSL := hid hSl
  have HOF := hid hof
  clear hof hSl hs
  go_enter Try.func127, Try.ntmps127
  go_wp2_with (fail)
  generalize hZ : (Obj.cells _ 24) = Z
  obtain ⟨zc, rfl, hzc⟩ : ∃ zc : Array Value, Z = Obj.cells zc 24 ∧ zc.size = 32 := ⟨_, hZ.symm, rfl⟩
  clear hZ
  have hR := Blk.new w 24 zc
  have hB : Below w.heap.size w (w.alloc (.cells zc 24)) := (Below.refl _ _).alloc (Nat.le_refl _) _
  have HZC := hid hzc
  clear hzc
  refine (k1 _).mono ?_
  rintro e1 w1 ⟨rfl, rfl⟩
  go_wp2_with (first
    | (go_at_call 153; first | ((with_reducible refine (k2 _).mono ?_); rintro e2 w2 ⟨rfl, rfl⟩) | ((with_reducible refine (k3 _).mono ?_); rintro e3 w3 ⟨rfl, rfl⟩))
    | (go_at_call 152; first | ((with_reducible refine (c1 _).mono ?_); rintro e4 w4 ⟨rfl, hB4⟩; replace hR := hR.below hB4; replace hB := hB.trans (hB4.mono hB.size); clear hB4) | ((with_reducible refine (c2 _).mono ?_); rintro e5 w5 ⟨rfl, hB5⟩; replace hR := hR.below hB5; replace hB := hB.trans (hB5.mono hB.size); clear hB5) | ((with_reducible refine (c3 _).mono ?_); rintro e6 w6 ⟨rfl, hB6⟩; replace hR := hR.below hB6; replace hB := hB.trans (hB6.mono hB.size); clear hB6; have hrd := rd_four w6 s N1 N2 N3; replace hR := hR.alloc (.cells #[.string (txt s), .string (txt N1), .string (txt N2), .string (txt N3)] 9); replace hB := hB.alloc hB.size (.cells #[.string (txt s), .string (txt N1), .string (txt N2), .string (txt N3)] 9)))
    | (go_at_call 123; (with_reducible refine (HOF.out _ _ _ hrd).mono ?_); rintro e7 w7 ⟨rfl, hB7⟩; replace hR := hR.below hB7; replace hB := hB.trans (hB7.mono hB.size))
    | (with_reducible refine wpList_store_blk rfl 24 _ _ rfl w.heap.size zc (idVals S) 24 hR rfl rfl ?c2 ?c3 (idVals_one _) ?_))
  case c2 => rw [idVals_size, HSL.out]; exact sizeId
  case c3 => rw [idVals_size, HSL.out]; exact HZC.out
  intro w9 hb9 hg9
  go_wp2
  refine bodyPost_ret (results_cell_row rfl _ _ _ _ _ _ _ rfl hb9 Try.underlying24 rfl (by rw [idVals_size, HSL.out]; exact sizeId)) rfl ⟨rfl, ?_⟩
  exact hB.grown hg9 hB.size (by intro i e; cases e; exact Nat.le_refl _)

/-! ### public sums -/
def pubN : List UInt8 := [112, 117, 98, 108, 105, 99]
def pubB (a : List UInt8) : List UInt8 := tagB pubN [a]
theorem pubB_length (a : List UInt8) : (pubB a).length = 32 := tagB_length _ _
theorem textB_pub (a : List UInt8) (ha : a.length = 32) : (textB pubN [a]).length ≤ 1000000000000 :=
  textB_ids pubN (by decide) _ (by simp only [List.map_cons, List.map_nil, List.sum_cons, List.sum_nil, List.length_cons, List.length_nil]; omega)
theorem rd_strV (w : World) (s : List UInt8) : Rd (w.alloc (.cells #[.string (txt s)] 9)) (some ⟨w.heap.size, 0, none⟩) ([s].map strV) := Rd.blk (Blk.new _ _ _) (by
  intro j u h
  rw [List.getElem?_toArray]; exact h)
set_option maxRecDepth 100000 in
set_option maxHeartbeats 4000000 in
theorem public_any (a : List UInt8) (ha : a.length = 32) (w : World) :
    Calls Try.prog 157 #[.agg (idVals a)] w fun e w' => e = .returned (.agg (idVals (pubB a))) ∧ Below w.heap.size w w' := by
  have hu := Try.underlying24
  obtain ⟨i0, hi, hz0, hz1, hz2⟩ := info_parts infoByte
  obtain ⟨S, hS⟩ : ∃ S, S = pubB a := ⟨_, rfl⟩
  have hSl : S.length = 32 := by rw [hS]; exact pubB_length _
  rw [← hS]
  have hof : ∀ W A c, Rd W A ([a].map strV) → Calls Try.prog 119 #[.string ⟨#[112, 117, 98, 108, 105, 99]⟩, .slice A 1 c] W fun e w' => e = .returned (.tuple #[.agg (idVals S), .int .i64 0]) ∧ Below W.heap.size W w' := fun W A c h => by
    rw [hS]
    exact of_any pubN (by decide) A 1 c _ rfl (textB_pub a ha) W h
  clear hS
  have hs := fun W g => run_slice_whole (P := Try.prog) W 24 5 g 0 32 i0 Try.underlying24 hi hz1 (by decide)
  have hconv : ∀ zc, (convert 34 9 (.slice (some ⟨w.heap.size, 0, none⟩) 32 32)).run Try.prog ((w.alloc (.cells (idVals a) 24)).alloc (.cells zc 24)) = .ok (.string (txt a)) ((w.alloc (.cells (idVals a) 24)).alloc (.cells zc 24)) := fun zc =>
    run_txt _ _ _ 5 _ 32 32 a Try.underlying34 Try.underlying5 Try.underlying9 ha.symm (rd_id ((Blk.new w 24 (idVals a)).alloc _))
  have HSL := hid hSl
  have HOF := hid hof
  have HZ : (Try.prog.info? 24).map (·.size) = some (S.map u8v).length := by rw [List.length_map, HSL.out]; exact sizeId
  clear hof hSl ha
  go_enter Try.func157, Try.ntmps157
  go_wp2_with (fail)
  rw [← zeroB_vals]
  have hzc : (idVals zeroB).size = 32 := rfl
  generalize idVals zeroB = zc at *
  have hB : Below w.heap.size w ((w.alloc (.cells (idVals a) 24)).alloc (.cells zc 24)) := ((Below.refl _ _).alloc (Nat.le_refl _) _).alloc (by simp) _
  have hk : (w.alloc (.cells (idVals a) 24)).heap.size = w.heap.size + 1 := by simp
  have hR := Blk.new (w.alloc (.cells (idVals a) 24)) 24 zc
  rw [hk] at hR
  have hk2 : ((w.alloc (.cells (idVals a) 24)).alloc (.cells zc 24)).heap.size = w.heap.size + 1 + 1 := by simp
  clear hconv hs
  generalize (w.alloc (.cells (idVals a) 24)).alloc (.cells zc 24) = w0 at *
  have HZC := hid hzc
  have hrd := rd_strV w0 a
  rw [hk2] at hrd
  clear hzc hk hk2
  replace hR := hR.alloc (.cells #[.string (txt a)] 9)
  replace hB := hB.alloc hB.size (.cells #[.string (txt a)] 9)
  refine (HOF.out _ _ _ hrd).mono ?_
  rintro e7 w7 ⟨rfl, hB7⟩
  replace hR := hR.below hB7
  replace hB := hB.trans (hB7.mono hB.size)
  go_wp2_with (first
    | ((with_reducible refine wpList_store_newid rfl _ _ rfl S HSL.out rfl rfl (by with_unfolding_all rfl) ?_); intro w8 hx8 hb8; replace hR := hR.below hb8; replace hB := hB.trans (hb8.mono hB.size))
    | (with_reducible refine wpList_load_if (by with_unfolding_all rfl) 24 _ rfl _ _ rfl (S.map u8v) _ hx8 hu (by with_unfolding_all rfl) HZ ?_)
    | (with_reducible refine wpList_store_blk rfl 24 _ _ rfl (w.heap.size + 1) zc (S.map u8v).toArray 24 hR rfl rfl ?c2 ?c3 ?c4 ?_))
  case c2 => rw [show (S.map u8v).toArray.size = 32 by rw [List.size_toArray, List.length_map, HSL.out]]; exact sizeId
  case c3 => rw [show (S.map u8v).toArray.size = 32 by rw [List.size_toArray, List.length_map, HSL.out]]; exact HZC.out
  case c4 => exact idVals_one S
  intro w9 hb9 hg9
  go_wp2
  refine bodyPost_ret (results_cell_row rfl _ _ _ _ _ _ _ rfl hb9 Try.underlying24 rfl (by rw [show (S.map u8v).toArray.size = 32 by rw [List.size_toArray, List.length_map, HSL.out]]; exact sizeId)) rfl ⟨rfl, ?_⟩
  exact hB.grown hg9 hB.size (by intro i e; cases e; exact Nat.le_succ _)

set_option maxRecDepth 100000 in
set_option maxHeartbeats 4000000 in
theorem rpublic_any (a : List UInt8) (ha : a.length = 32) (w : World) :
    Calls Try.prog 126 #[.agg (idVals a)] w fun e w' => e = .returned (.agg (idVals (pubB a))) ∧ Below w.heap.size w w' := by
  have hu := Try.underlying24
  obtain ⟨S, hS⟩ : ∃ S, S = pubB a := ⟨_, rfl⟩
  have hSl : S.length = 32 := by rw [hS]; exact pubB_length _
  rw [← hS]
  have hof : ∀ W A c, Rd W A ([a].map strV) → Calls Try.prog 123 #[.string ⟨#[112, 117, 98, 108, 105, 99]⟩, .slice A 1 c] W fun e w' => e = .returned (.agg (idVals S)) ∧ Below W.heap.size W w' := fun W A c h => by
    rw [hS]
    exact rof_any pubN (by decide) A 1 c _ rfl (textB_pub a ha) W h
  clear hS
  have hk : (w.alloc (.cells (idVals a) 24)).heap.size = w.heap.size + 1 := by simp
  have hI : ∀ zc, ((w.alloc (.cells (idVals a) 24)).alloc (.cells zc 24)).rangeAt w.heap.size 0 (a.map u8v) := fun zc => range_blk ((Blk.new w 24 (idVals a)).alloc _)
  have hR : ∀ zc, Blk ((w.alloc (.cells (idVals a) 24)).alloc (.cells zc 24)) (w.heap.size + 1) 24 zc := fun zc => by have := Blk.new (w.alloc (.cells (idVals a) 24)) 24 zc; rwa [hk] at this
  have hB : ∀ zc, Below w.heap.size w ((w.alloc (.cells (idVals a) 24)).alloc (.cells zc 24)) := fun zc => ((Below.refl _ _).alloc (Nat.le_refl _) _).alloc (by simp) _
  have cX : ∀ W : World, Calls Try.prog 32 #[.agg (List.map u8v a).toArray] W fun e w' => e = .returned (.string (txt a)) ∧ Below W.heap.size W w' := fun W => rid_any a ha W
  have hza : (Try.prog.info? 24).map (·.size) = some (a.map u8v).length := by rw [List.length_map, ha]; exact sizeId
  have HSL := hid hSl
  have HOF := hid hof
  clear hof hSl ha hk
  go_enter Try.func126, Try.ntmps126
  go_wp2_with (first
    | (with_reducible refine wpList_load_if (by with_unfolding_all rfl) 24 _ rfl _ 0 rfl (a.map u8v) _ (hI _) hu (by with_unfolding_all rfl) hza ?_)
    | (go_at_call 32; (with_reducible refine (cX _).mono ?_); rintro e1 w1 ⟨rfl, hB1⟩; replace hR := (hR _).below hB1; replace hB := (hB _).trans (hB1.mono (hB _).size); have hrd := rd_strV w1 a; replace hR := hR.alloc (.cells #[.string (txt a)] 9); replace hB := hB.alloc hB.size (.cells #[.string (txt a)] 9))
    | (go_at_call 123; (with_reducible refine (HOF.out _ _ _ hrd).mono ?_); rintro e7 w7 ⟨rfl, hB7⟩; replace hR := hR.below hB7; replace hB := hB.trans (hB7.mono hB.size))
    | (with_reducible refine wpList_store_blk rfl 24 _ _ rfl (w.heap.size + 1) _ (idVals S) 24 hR rfl rfl ?c2 ?c3 (idVals_one _) ?_))
  case c2 => rw [idVals_size, HSL.out]; exact sizeId
  case c3 => rw [idVals_size, HSL.out]; rfl
  intro w9 hb9 hg9
  go_wp2
  refine bodyPost_ret (results_cell_row rfl _ _ _ _ _ _ _ rfl hb9 Try.underlying24 rfl (by rw [idVals_size, HSL.out]; exact sizeId)) rfl ⟨rfl, ?_⟩
  exact hB.grown hg9 hB.size (by intro i e; cases e; exact Nat.le_succ _)

/-! ### right bits -/
def rgt (b : Int) : Bool := decide (8 ≤ b ∧ b ≤ 256 ∧ b % 8 = 0)
theorem lright_any (b : Int) (w : World) :
    Calls Try.prog 120 #[.int .i64 b] w fun e w' => e = .returned (.bool (rgt b)) ∧ w = w' := by
  by_cases h0 : b < 8
  · have hr : rgt b = false := by unfold rgt; rw [decide_eq_false_iff_not]; omega
    rw [hr]
    go_enter Try.func120, Try.ntmps120
    go_wp2
    go_ret
    exact ⟨rfl, rfl⟩
  · by_cases h1 : 256 < b
    · have hr : rgt b = false := by unfold rgt; rw [decide_eq_false_iff_not]; omega
      rw [hr]
      go_enter Try.func120, Try.ntmps120
      go_wp2
      go_ret
      exact ⟨rfl, rfl⟩
    · have ht : b.tmod 8 = b % 8 := Int.tmod_eq_emod_of_nonneg (by omega)
      by_cases h2 : b % 8 = 0
      · have hr : rgt b = true := by unfold rgt; rw [decide_eq_true_iff]; omega
        rw [hr]
        go_enter Try.func120, Try.ntmps120
        go_wp2
        go_ret
        exact ⟨rfl, rfl⟩
      · have hr : rgt b = false := by unfold rgt; rw [decide_eq_false_iff_not]; omega
        have h3 : (b % 8 == 0) = false := beq_false_of_ne h2
        rw [hr]
        go_enter Try.func120, Try.ntmps120
        go_wp2
        go_ret
        exact ⟨rfl, rfl⟩
theorem rright_any (b : Int) (w : World) :
    Calls Try.prog 117 #[.int .i64 b] w fun e w' => e = .returned (.bool (rgt b)) ∧ w = w' := by
  go_enter Try.func117, Try.ntmps117
  go_wp2
  go_loop [3] (fun i => ∃ k : Nat, k ≤ 32 ∧ i = .int .i64 (8 + 8 * k) ∧ ∀ j : Nat, j < k → b ≠ 8 + 8 * j) (fun i => 300 - (intOf i).toNat)
  case atStart => exact ⟨0, by omega, rfl, fun j hj => by omega⟩
  case round =>
    obtain ⟨k, hk, rfl, ha⟩ := hrel
    have HA := hid ha
    clear ha
    by_cases hlt : k < 32
    · have b1 : 8 + 8 * (k : Int) ≤ 256 := by omega
      by_cases he : 8 + 8 * (k : Int) = b
      · have hr : rgt b = true := by unfold rgt; rw [decide_eq_true_iff]; omega
        have HR := hid hr
        clear hr
        have h2 : ((8 + 8 * (k : Int)) == b) = true := by rw [he]; exact beq_self_eq_true _
        clear he
        go_wp2
        go_ret
        rw [HR.out]
        exact ⟨rfl, rfl⟩
      · have h2 : ((8 + 8 * (k : Int)) == b) = false := beq_false_of_ne he
        have HE := hid he
        clear he
        go_wp2
        go_round
        case rel => exact ⟨k + 1, hlt, by go_num, fun j hj => by
          by_cases hj2 : j < k
          · exact HA.out j hj2
          · have := HE.out; omega⟩
        case measure => simp [intOf]; omega
    · obtain rfl : k = 32 := by omega
      have hr : rgt b = false := by
        unfold rgt
        rw [decide_eq_false_iff_not]
        rintro ⟨h1, h2, h3⟩
        exact HA.out ((b - 8) / 8).toNat (by omega) (by omega)
      have HR := hid hr
      clear hr
      go_wp2
      go_ret
      rw [HR.out]
      exact ⟨rfl, rfl⟩
end Go.Proofs.Ytfdbgmnnahcejaa

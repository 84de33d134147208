
/- lamport: secrets, leaves and what they lean on. -/
import Derived.Test.YticpdepbgcagaaaGreatId7
import Derived.Test.YticpdepbgcagaaaGreatTag4
import Derived.Great.BuildSlice
set_option linter.unusedSimpArgs false
set_option linter.unusedVariables false
namespace Go.Proofs.YticpdepbgcagaaaGreat
open Go.RowKit Go.Qc
attribute [local go_sem] txt_size txt_append ib_fold

def nB (m n : Nat) : List UInt8 := numB (BitVec.ofNat 64 m) n
theorem nB_length (m n : Nat) : (nB m n).length = n := numB_length _ _
theorem lv_nat (m : Nat) (h : m ≤ 9223372036854775807) : (m : Int) = lv (BitVec.ofNat 64 m) := by
  unfold lv; rw [BitVec.toNat_ofNat]; omega
theorem nB_fits (m n : Nat) (hm : m ≤ 9223372036854775807) (hf : m < 256 ^ n) : BitVec.ofNat 64 m >>> (8 * n) = 0#64 := by
  rw [fits_iff, BitVec.toNat_ofNat, Nat.mod_eq_of_lt (by omega)]; exact hf
theorem lnum_any (m n : Nat) (q : Int) (hq : q = n) (hm : m ≤ 9223372036854775807) (hn : n ≤ 8) (hf : m < 256 ^ n) (w : World) :
    Calls Tryz.prog 83 #[.int .i64 m, .int .i64 q] w fun e w' => e = .returned (.string (txt (nB m n))) ∧ Below w.heap.size w w' := by
  have hN : ∀ W : World, Calls Tryz.prog 59 #[.int .u64 m, .int .i64 q] W fun e w' => e = .returned (.tuple #[.string (txt (nB m n)), .bool true]) ∧ Below W.heap.size W w' := fun W => by
    rw [hq, lv_nat m hm]
    exact number_any _ n hn (nB_fits m n hm hf) W
  clear hq hn hf
  go_enter Tryz.func83, Tryz.ntmps83
  go_wp2_with (first
    | (go_at_call 59; (with_reducible refine (hN _).mono ?_); rintro e1 w1 ⟨rfl, hB1⟩))
  go_ret
  exact ⟨rfl, hB1⟩
theorem rnum_any (m n : Nat) (q : Int) (hq : q = n) (hm : m ≤ 9223372036854775807) (hn : n ≤ 8) (hf : m < 256 ^ n) (w : World) :
    Calls Tryz.prog 51 #[.int .i64 m, .int .i64 q] w fun e w' => e = .returned (.string (txt (nB m n))) ∧ Below w.heap.size w w' := by
  have hN : ∀ W : World, Calls Tryz.prog 71 #[.int .u64 m, .int .i64 q] W fun e w' => e = .returned (.tuple #[.string (txt (nB m n)), .bool true]) ∧ Below W.heap.size W w' := fun W => by
    rw [hq, lv_nat m hm]
    exact rnumber_any _ n hn (nB_fits m n hm hf) W
  clear hq hn hf
  go_enter Tryz.func51, Tryz.ntmps51
  go_wp2_with (first
    | (go_at_call 71; (with_reducible refine (hN _).mono ?_); rintro e1 w1 ⟨rfl, hB1⟩))
  go_ret
  exact ⟨rfl, hB1⟩

/-- A number held between 0 and a greatest. -/
def clN (v : Int) (m : Nat) : Nat := (min (max v 0) m).toNat
theorem clN_le (v : Int) (m : Nat) : clN v m ≤ m := by unfold clN; omega
theorem clN_eq (v : Int) (m : Nat) : ((clN v m : Nat) : Int) = min (max v 0) m := by unfold clN; omega
theorem clN_max (v : Int) (h : v ≤ 9223372036854775807) : ((clN v 9223372036854775807 : Nat) : Int) = max v 0 := by unfold clN; omega
theorem rclamp_any (v : Int) (m : Nat) (q : Int) (hq : q = m) (w : World) :
    Calls Tryz.prog 52 #[.int .i64 v, .int .i64 q] w fun e w' => e = .returned (.int .i64 (clN v m : Nat)) ∧ w = w' := by
  rw [clN_eq]
  obtain ⟨r, hr⟩ : ∃ r : Int, r = min (max v 0) m := ⟨_, rfl⟩
  rw [← hr]
  have HR := hid hr
  have HQ := hid hq
  clear hr hq
  by_cases h0 : v < 0
  · go_enter Tryz.func52, Tryz.ntmps52
    go_wp2
    go_ret
    refine ⟨?_, rfl⟩
    rw [show r = 0 by have := HR.out; have := HQ.out; omega]; rfl
  · by_cases h1 : q < v
    · go_enter Tryz.func52, Tryz.ntmps52
      go_wp2
      go_ret
      refine ⟨?_, rfl⟩
      rw [show r = q by have := HR.out; have := HQ.out; omega]; rfl
    · go_enter Tryz.func52, Tryz.ntmps52
      go_wp2
      go_ret
      refine ⟨?_, rfl⟩
      rw [show r = v by have := HR.out; have := HQ.out; omega]; rfl

/-! ### secrets -/
def secN : List UInt8 := [115, 101, 99, 114, 101, 116]
def secB (s : List UInt8) (lf bt sd : Int) : List UInt8 := tagB secN [s, nB (clN lf 9223372036854775807) 8, nB (clN bt 65535) 2, nB (clN sd 1) 1]
theorem secB_length (s : List UInt8) (lf bt sd : Int) : (secB s lf bt sd).length = 32 := tagB_length _ _
theorem textB_sec (s a b c : List UInt8) (hs : s.length ≤ 1000) (ha : a.length = 8) (hb : b.length = 2) (hc : c.length = 1) : (textB secN [s, a, b, c]).length ≤ 1000000000000 :=
  textB_ids secN (by decide) _ (by simp only [List.map_cons, List.map_nil, List.sum_cons, List.sum_nil, List.length_cons, List.length_nil]; omega)
theorem rd_four (w : World) (s a b c : List UInt8) : Rd (w.alloc (.cells #[.string (txt s), .string (txt a), .string (txt b), .string (txt c)] 9)) (some ⟨w.heap.size, 0, none⟩) ([s, a, b, c].map strV) := Rd.blk (Blk.new _ _ _) (by
  intro j u h
  rw [List.getElem?_toArray]; exact h)

set_option maxRecDepth 100000 in
set_option maxHeartbeats 4000000 in
theorem secret_any (s : List UInt8) (hs : s.length ≤ 1000) (lf bt sd : Int) (hl : lf ≤ 9223372036854775807) (w : World) :
    Calls Tryz.prog 45 #[.string (txt s), .int .i64 lf, .int .i64 bt, .int .i64 sd] w fun e w' => e = .returned (.agg (idVals (secB s lf bt sd))) ∧ Below w.heap.size w w' := by
  have hu := Tryz.underlying24
  obtain ⟨S, hS⟩ : ∃ S, S = secB s lf bt sd := ⟨_, rfl⟩
  have hSl : S.length = 32 := by rw [hS]; exact secB_length _ _ _ _
  rw [← hS]
  have c1 : ∀ W : World, Calls Tryz.prog 83 #[.int .i64 (max lf 0), .int .i64 8] W fun e w' => e = .returned (.string (txt (nB (clN lf 9223372036854775807) 8))) ∧ Below W.heap.size W w' := fun W => by
    rw [← clN_max lf hl]
    exact lnum_any _ 8 8 rfl (clN_le _ _) (by decide) (Nat.lt_of_le_of_lt (clN_le _ _) (by decide)) W
  have c2 : ∀ W : World, Calls Tryz.prog 83 #[.int .i64 (min (max bt 0) 65535), .int .i64 2] W fun e w' => e = .returned (.string (txt (nB (clN bt 65535) 2))) ∧ Below W.heap.size W w' := fun W => by
    rw [show min (max bt 0) (65535 : Int) = ((clN bt 65535 : Nat) : Int) from (clN_eq bt 65535).symm]
    exact lnum_any _ 2 2 rfl (Nat.le_trans (clN_le _ _) (by decide)) (by decide) (Nat.lt_of_le_of_lt (clN_le _ _) (by decide)) W
  have c3 : ∀ W : World, Calls Tryz.prog 83 #[.int .i64 (min (max sd 0) 1), .int .i64 1] W fun e w' => e = .returned (.string (txt (nB (clN sd 1) 1))) ∧ Below W.heap.size W w' := fun W => by
    rw [show min (max sd 0) (1 : Int) = ((clN sd 1 : Nat) : Int) from (clN_eq sd 1).symm]
    exact lnum_any _ 1 1 rfl (Nat.le_trans (clN_le _ _) (by decide)) (by decide) (Nat.lt_of_le_of_lt (clN_le _ _) (by decide)) W
  have hof : ∀ W A c, Rd W A ([s, nB (clN lf 9223372036854775807) 8, nB (clN bt 65535) 2, nB (clN sd 1) 1].map strV) → Calls Tryz.prog 60 #[.string ⟨#[115, 101, 99, 114, 101, 116]⟩, .slice A 4 c] W fun e w' => e = .returned (.tuple #[.agg (idVals S), .int .i64 0]) ∧ Below W.heap.size W w' := fun W A c h => by
    rw [hS]
    exact of_any secN (by decide) A 4 c _ rfl (textB_sec _ _ _ _ hs (nB_length _ _) (nB_length _ _) (nB_length _ _)) W h
  clear hS
  generalize nB (clN lf 9223372036854775807) 8 = N1 at *
  generalize nB (clN bt 65535) 2 = N2 at *
  generalize nB (clN sd 1) 1 = N3 at *
  have HSL := hid hSl
  have HOF := hid hof
  have HZ : (Tryz.prog.info? 24).map (·.size) = some (S.map u8v).length := by rw [List.length_map, HSL.out]; exact sizeId
  clear hof hSl hs hl
  go_enter Tryz.func45, Tryz.ntmps45
  go_wp2_with (fail)
  generalize hZ : (Obj.cells _ 24) = Z
  obtain ⟨zc, rfl, hzc⟩ : ∃ zc : Array Value, Z = Obj.cells zc 24 ∧ zc.size = 32 := ⟨_, hZ.symm, rfl⟩
  clear hZ
  have hR := Blk.new w 24 zc
  have hB : Below w.heap.size w (w.alloc (.cells zc 24)) := (Below.refl _ _).alloc (Nat.le_refl _) _
  have HZC := hid hzc
  clear hzc
  refine (c1 _).mono ?_
  rintro e1 w1 ⟨rfl, hB1⟩
  replace hR := hR.below hB1
  replace hB := hB.trans (hB1.mono hB.size)
  clear hB1
  go_wp2_with (first
    | (go_at_call 83; first | ((with_reducible refine (c2 _).mono ?_); rintro e2 w2 ⟨rfl, hB2⟩; replace hR := hR.below hB2; replace hB := hB.trans (hB2.mono hB.size); clear hB2) | ((with_reducible refine (c3 _).mono ?_); rintro e3 w3 ⟨rfl, hB3⟩; replace hR := hR.below hB3; replace hB := hB.trans (hB3.mono hB.size); clear hB3; have hrd := rd_four w3 s N1 N2 N3; replace hR := hR.alloc (.cells #[.string (txt s), .string (txt N1), .string (txt N2), .string (txt N3)] 9); replace hB := hB.alloc hB.size (.cells #[.string (txt s), .string (txt N1), .string (txt N2), .string (txt N3)] 9)))
    | (go_at_call 60; (with_reducible refine (HOF.out _ _ _ hrd).mono ?_); rintro e7 w7 ⟨rfl, hB7⟩; replace hR := hR.below hB7; replace hB := hB.trans (hB7.mono hB.size))
    | ((with_reducible refine wpList_store_newid rfl _ _ rfl S HSL.out rfl rfl (by with_unfolding_all rfl) ?_); intro w8 hx8 hb8; replace hR := hR.below hb8; replace hB := hB.trans (hb8.mono hB.size))
    | (with_reducible refine wpList_load_if (by with_unfolding_all rfl) 24 _ rfl _ _ rfl (S.map u8v) _ hx8 hu (by with_unfolding_all rfl) HZ ?_)
    | (with_reducible refine wpList_store_blk rfl 24 _ _ rfl w.heap.size zc (S.map u8v).toArray 24 hR rfl rfl ?c2 ?c3 ?c4 ?_))
  case c2 => rw [show (S.map u8v).toArray.size = 32 by rw [List.size_toArray, List.length_map, HSL.out]]; exact sizeId
  case c3 => rw [show (S.map u8v).toArray.size = 32 by rw [List.size_toArray, List.length_map, HSL.out]]; exact HZC.out
  case c4 => exact idVals_one S
  intro w9 hb9 hg9
  go_wp2
  refine bodyPost_ret (results_cell_row rfl _ _ _ _ _ _ _ rfl hb9 Tryz.underlying24 rfl (by rw [show (S.map u8v).toArray.size = 32 by rw [List.size_toArray, List.length_map, HSL.out]]; exact sizeId)) rfl ⟨rfl, ?_⟩
  exact hB.grown hg9 hB.size (by intro i e; cases e; exact Nat.le_refl _)
end Go.Proofs.YticpdepbgcagaaaGreat

namespace Go.Proofs.YticpdepbgcagaaaGreat
open Go.RowKit Go.Qc
attribute [local go_sem] txt_size txt_append ib_fold

set_option maxRecDepth 100000 in
set_option maxHeartbeats 4000000 in
theorem rsecret_any (s : List UInt8) (hs : s.length ≤ 1000) (lf bt sd : Int) (w : World) :
    Calls Tryz.prog 20 #[.string (txt s), .int .i64 lf, .int .i64 bt, .int .i64 sd] w fun e w' => e = .returned (.agg (idVals (secB s lf bt sd))) ∧ Below w.heap.size w w' := by
  have hu := Tryz.underlying24
  obtain ⟨S, hS⟩ : ∃ S, S = secB s lf bt sd := ⟨_, rfl⟩
  have hSl : S.length = 32 := by rw [hS]; exact secB_length _ _ _ _
  rw [← hS]
  have k1 := fun W => rclamp_any lf 9223372036854775807 9223372036854775807 rfl W
  have k2 := fun W => rclamp_any bt 65535 65535 rfl W
  have k3 := fun W => rclamp_any sd 1 1 rfl W
  have c1 : ∀ W : World, Calls Tryz.prog 51 #[.int .i64 (clN lf 9223372036854775807 : Nat), .int .i64 8] W fun e w' => e = .returned (.string (txt (nB (clN lf 9223372036854775807) 8))) ∧ Below W.heap.size W w' := fun W =>
    rnum_any _ 8 8 rfl (clN_le _ _) (by decide) (Nat.lt_of_le_of_lt (clN_le _ _) (by decide)) W
  have c2 : ∀ W : World, Calls Tryz.prog 51 #[.int .i64 (clN bt 65535 : Nat), .int .i64 2] W fun e w' => e = .returned (.string (txt (nB (clN bt 65535) 2))) ∧ Below W.heap.size W w' := fun W =>
    rnum_any _ 2 2 rfl (Nat.le_trans (clN_le _ _) (by decide)) (by decide) (Nat.lt_of_le_of_lt (clN_le _ _) (by decide)) W
  have c3 : ∀ W : World, Calls Tryz.prog 51 #[.int .i64 (clN sd 1 : Nat), .int .i64 1] W fun e w' => e = .returned (.string (txt (nB (clN sd 1) 1))) ∧ Below W.heap.size W w' := fun W =>
    rnum_any _ 1 1 rfl (Nat.le_trans (clN_le _ _) (by decide)) (by decide) (Nat.lt_of_le_of_lt (clN_le _ _) (by decide)) W
  have hof : ∀ W A c, Rd W A ([s, nB (clN lf 9223372036854775807) 8, nB (clN bt 65535) 2, nB (clN sd 1) 1].map strV) → Calls Tryz.prog 50 #[.string ⟨#[115, 101, 99, 114, 101, 116]⟩, .slice A 4 c] W fun e w' => e = .returned (.agg (idVals S)) ∧ Below W.heap.size W w' := fun W A c h => by
    rw [hS]
    exact rof_any secN (by decide) A 4 c _ rfl (textB_sec _ _ _ _ hs (nB_length _ _) (nB_length _ _) (nB_length _ _)) W h
  clear hS
  generalize nB (clN lf 9223372036854775807) 8 = N1 at *
  generalize nB (clN bt 65535) 2 = N2 at *
  generalize nB (clN sd 1) 1 = N3 at *
  generalize clN lf 9223372036854775807 = q1 at *
  generalize clN bt 65535 = q2 at *
  generalize clN sd 1 = q3 at *
  have HSL := hid hSl
  have HOF := hid hof
  clear hof hSl hs
  go_enter Tryz.func20, Tryz.ntmps20
  go_wp2_with (fail)
  generalize hZ : (Obj.cells _ 24) = Z
  obtain ⟨zc, rfl, hzc⟩ : ∃ zc : Array Value, Z = Obj.cells zc 24 ∧ zc.size = 32 := ⟨_, hZ.symm, rfl⟩
  clear hZ
  have hR := Blk.new w 24 zc
  have hB : Below w.heap.size w (w.alloc (.cells zc 24)) := (Below.refl _ _).alloc (Nat.le_refl _) _
  have HZC := hid hzc
  clear hzc
  refine (k1 _).mono ?_
  rintro e1 w1 ⟨rfl, rfl⟩
  go_wp2_with (first
    | (go_at_call 52; first | ((with_reducible refine (k2 _).mono ?_); rintro e2 w2 ⟨rfl, rfl⟩) | ((with_reducible refine (k3 _).mono ?_); rintro e3 w3 ⟨rfl, rfl⟩))
    | (go_at_call 51; first | ((with_reducible refine (c1 _).mono ?_); rintro e4 w4 ⟨rfl, hB4⟩; replace hR := hR.below hB4; replace hB := hB.trans (hB4.mono hB.size); clear hB4) | ((with_reducible refine (c2 _).mono ?_); rintro e5 w5 ⟨rfl, hB5⟩; replace hR := hR.below hB5; replace hB := hB.trans (hB5.mono hB.size); clear hB5) | ((with_reducible refine (c3 _).mono ?_); rintro e6 w6 ⟨rfl, hB6⟩; replace hR := hR.below hB6; replace hB := hB.trans (hB6.mono hB.size); clear hB6; have hrd := rd_four w6 s N1 N2 N3; replace hR := hR.alloc (.cells #[.string (txt s), .string (txt N1), .string (txt N2), .string (txt N3)] 9); replace hB := hB.alloc hB.size (.cells #[.string (txt s), .string (txt N1), .string (txt N2), .string (txt N3)] 9)))
    | (go_at_call 50; (with_reducible refine (HOF.out _ _ _ hrd).mono ?_); rintro e7 w7 ⟨rfl, hB7⟩; replace hR := hR.below hB7; replace hB := hB.trans (hB7.mono hB.size))
    | (with_reducible refine wpList_store_blk rfl 24 _ _ rfl w.heap.size zc (idVals S) 24 hR rfl rfl ?c2 ?c3 (idVals_one _) ?_))
  case c2 => rw [idVals_size, HSL.out]; exact sizeId
  case c3 => rw [idVals_size, HSL.out]; exact HZC.out
  intro w9 hb9 hg9
  go_wp2
  refine bodyPost_ret (results_cell_row rfl _ _ _ _ _ _ _ rfl hb9 Tryz.underlying24 rfl (by rw [idVals_size, HSL.out]; exact sizeId)) rfl ⟨rfl, ?_⟩
  exact hB.grown hg9 hB.size (by intro i e; cases e; exact Nat.le_refl _)

/-! ### public sums -/
def pubN : List UInt8 := [112, 117, 98, 108, 105, 99]
def pubB (a : List UInt8) : List UInt8 := tagB pubN [a]
theorem pubB_length (a : List UInt8) : (pubB a).length = 32 := tagB_length _ _
theorem textB_pub (a : List UInt8) (ha : a.length = 32) : (textB pubN [a]).length ≤ 1000000000000 :=
  textB_ids pubN (by decide) _ (by simp only [List.map_cons, List.map_nil, List.sum_cons, List.sum_nil, List.length_cons, List.length_nil]; omega)
theorem rd_strV (w : World) (s : List UInt8) : Rd (w.alloc (.cells #[.string (txt s)] 9)) (some ⟨w.heap.size, 0, none⟩) ([s].map strV) := Rd.blk (Blk.new _ _ _) (by
  intro j u h
  rw [List.getElem?_toArray]; exact h)
set_option maxRecDepth 100000 in
set_option maxHeartbeats 4000000 in
theorem public_any (a : List UInt8) (ha : a.length = 32) (w : World) :
    Calls Tryz.prog 44 #[.agg (idVals a)] w fun e w' => e = .returned (.agg (idVals (pubB a))) ∧ Below w.heap.size w w' := by
  have hu := Tryz.underlying24
  obtain ⟨i0, hi, hz0, hz1, hz2⟩ := info_parts infoByte
  obtain ⟨S, hS⟩ : ∃ S, S = pubB a := ⟨_, rfl⟩
  have hSl : S.length = 32 := by rw [hS]; exact pubB_length _
  rw [← hS]
  have hof : ∀ W A c, Rd W A ([a].map strV) → Calls Tryz.prog 60 #[.string ⟨#[112, 117, 98, 108, 105, 99]⟩, .slice A 1 c] W fun e w' => e = .returned (.tuple #[.agg (idVals S), .int .i64 0]) ∧ Below W.heap.size W w' := fun W A c h => by
    rw [hS]
    exact of_any pubN (by decide) A 1 c _ rfl (textB_pub a ha) W h
  clear hS
  have hs := fun W g => run_slice_whole (P := Tryz.prog) W 24 5 g 0 32 i0 Tryz.underlying24 hi hz1 (by decide)
  have hconv : ∀ zc, (convert 97 9 (.slice (some ⟨w.heap.size, 0, none⟩) 32 32)).run Tryz.prog ((w.alloc (.cells (idVals a) 24)).alloc (.cells zc 24)) = .ok (.string (txt a)) ((w.alloc (.cells (idVals a) 24)).alloc (.cells zc 24)) := fun zc =>
    run_txt _ _ _ 5 _ 32 32 a Tryz.underlying97 Tryz.underlying5 Tryz.underlying9 ha.symm (rd_id ((Blk.new w 24 (idVals a)).alloc _))
  have HSL := hid hSl
  have HOF := hid hof
  have HZ : (Tryz.prog.info? 24).map (·.size) = some (S.map u8v).length := by rw [List.length_map, HSL.out]; exact sizeId
  clear hof hSl ha
  go_enter Tryz.func44, Tryz.ntmps44
  go_wp2_with (fail)
  rw [← zeroB_vals]
  have hzc : (idVals zeroB).size = 32 := rfl
  generalize idVals zeroB = zc at *
  have hB : Below w.heap.size w ((w.alloc (.cells (idVals a) 24)).alloc (.cells zc 24)) := ((Below.refl _ _).alloc (Nat.le_refl _) _).alloc (by simp) _
  have hk : (w.alloc (.cells (idVals a) 24)).heap.size = w.heap.size + 1 := by simp
  have hR := Blk.new (w.alloc (.cells (idVals a) 24)) 24 zc
  rw [hk] at hR
  have hk2 : ((w.alloc (.cells (idVals a) 24)).alloc (.cells zc 24)).heap.size = w.heap.size + 1 + 1 := by simp
  clear hconv hs
  generalize (w.alloc (.cells (idVals a) 24)).alloc (.cells zc 24) = w0 at *
  have HZC := hid hzc
  have hrd := rd_strV w0 a
  rw [hk2] at hrd
  clear hzc hk hk2
  replace hR := hR.alloc (.cells #[.string (txt a)] 9)
  replace hB := hB.alloc hB.size (.cells #[.string (txt a)] 9)
  refine (HOF.out _ _ _ hrd).mono ?_
  rintro e7 w7 ⟨rfl, hB7⟩
  replace hR := hR.below hB7
  replace hB := hB.trans (hB7.mono hB.size)
  go_wp2_with (first
    | ((with_reducible refine wpList_store_newid rfl _ _ rfl S HSL.out rfl rfl (by with_unfolding_all rfl) ?_); intro w8 hx8 hb8; replace hR := hR.below hb8; replace hB := hB.trans (hb8.mono hB.size))
    | (with_reducible refine wpList_load_if (by with_unfolding_all rfl) 24 _ rfl _ _ rfl (S.map u8v) _ hx8 hu (by with_unfolding_all rfl) HZ ?_)
    | (with_reducible refine wpList_store_blk rfl 24 _ _ rfl (w.heap.size + 1) zc (S.map u8v).toArray 24 hR rfl rfl ?c2 ?c3 ?c4 ?_))
  case c2 => rw [show (S.map u8v).toArray.size = 32 by rw [List.size_toArray, List.length_map, HSL.out]]; exact sizeId
  case c3 => rw [show (S.map u8v).toArray.size = 32 by rw [List.size_toArray, List.length_map, HSL.out]]; exact HZC.out
  case c4 => exact idVals_one S
  intro w9 hb9 hg9
  go_wp2
  refine bodyPost_ret (results_cell_row rfl _ _ _ _ _ _ _ rfl hb9 Tryz.underlying24 rfl (by rw [show (S.map u8v).toArray.size = 32 by rw [List.size_toArray, List.length_map, HSL.out]]; exact sizeId)) rfl ⟨rfl, ?_⟩
  exact hB.grown hg9 hB.size (by intro i e; cases e; exact Nat.le_succ _)

set_option maxRecDepth 100000 in
set_option maxHeartbeats 4000000 in
theorem rpublic_any (a : List UInt8) (ha : a.length = 32) (w : World) :
    Calls Tryz.prog 42 #[.agg (idVals a)] w fun e w' => e = .returned (.agg (idVals (pubB a))) ∧ Below w.heap.size w w' := by
  have hu := Tryz.underlying24
  obtain ⟨S, hS⟩ : ∃ S, S = pubB a := ⟨_, rfl⟩
  have hSl : S.length = 32 := by rw [hS]; exact pubB_length _
  rw [← hS]
  have hof : ∀ W A c, Rd W A ([a].map strV) → Calls Tryz.prog 50 #[.string ⟨#[112, 117, 98, 108, 105, 99]⟩, .slice A 1 c] W fun e w' => e = .returned (.agg (idVals S)) ∧ Below W.heap.size W w' := fun W A c h => by
    rw [hS]
    exact rof_any pubN (by decide) A 1 c _ rfl (textB_pub a ha) W h
  clear hS
  have hk : (w.alloc (.cells (idVals a) 24)).heap.size = w.heap.size + 1 := by simp
  have hI : ∀ zc, ((w.alloc (.cells (idVals a) 24)).alloc (.cells zc 24)).rangeAt w.heap.size 0 (a.map u8v) := fun zc => range_blk ((Blk.new w 24 (idVals a)).alloc _)
  have hR : ∀ zc, Blk ((w.alloc (.cells (idVals a) 24)).alloc (.cells zc 24)) (w.heap.size + 1) 24 zc := fun zc => by have := Blk.new (w.alloc (.cells (idVals a) 24)) 24 zc; rwa [hk] at this
  have hB : ∀ zc, Below w.heap.size w ((w.alloc (.cells (idVals a) 24)).alloc (.cells zc 24)) := fun zc => ((Below.refl _ _).alloc (Nat.le_refl _) _).alloc (by simp) _
  have cX : ∀ W : World, Calls Tryz.prog 49 #[.agg (List.map u8v a).toArray] W fun e w' => e = .returned (.string (txt a)) ∧ Below W.heap.size W w' := fun W => rid_any a ha W
  have hza : (Tryz.prog.info? 24).map (·.size) = some (a.map u8v).length := by rw [List.length_map, ha]; exact sizeId
  have HSL := hid hSl
  have HOF := hid hof
  clear hof hSl ha hk
  go_enter Tryz.func42, Tryz.ntmps42
  go_wp2_with (first
    | (with_reducible refine wpList_load_if (by with_unfolding_all rfl) 24 _ rfl _ 0 rfl (a.map u8v) _ (hI _) hu (by with_unfolding_all rfl) hza ?_)
    | (go_at_call 49; (with_reducible refine (cX _).mono ?_); rintro e1 w1 ⟨rfl, hB1⟩; replace hR := (hR _).below hB1; replace hB := (hB _).trans (hB1.mono (hB _).size); have hrd := rd_strV w1 a; replace hR := hR.alloc (.cells #[.string (txt a)] 9); replace hB := hB.alloc hB.size (.cells #[.string (txt a)] 9))
    | (go_at_call 50; (with_reducible refine (HOF.out _ _ _ hrd).mono ?_); rintro e7 w7 ⟨rfl, hB7⟩; replace hR := hR.below hB7; replace hB := hB.trans (hB7.mono hB.size))
    | (with_reducible refine wpList_store_blk rfl 24 _ _ rfl (w.heap.size + 1) _ (idVals S) 24 hR rfl rfl ?c2 ?c3 (idVals_one _) ?_))
  case c2 => rw [idVals_size, HSL.out]; exact sizeId
  case c3 => rw [idVals_size, HSL.out]; rfl
  intro w9 hb9 hg9
  go_wp2
  refine bodyPost_ret (results_cell_row rfl _ _ _ _ _ _ _ rfl hb9 Tryz.underlying24 rfl (by rw [idVals_size, HSL.out]; exact sizeId)) rfl ⟨rfl, ?_⟩
  exact hB.grown hg9 hB.size (by intro i e; cases e; exact Nat.le_succ _)

/-! ### right bits -/
def rgt (b : Int) : Bool := decide (8 ≤ b ∧ b ≤ 256 ∧ b % 8 = 0)
theorem lright_any (b : Int) (w : World) :
    Calls Tryz.prog 53 #[.int .i64 b] w fun e w' => e = .returned (.bool (rgt b)) ∧ w = w' := by
  by_cases h0 : b < 8
  · have hr : rgt b = false := by unfold rgt; rw [decide_eq_false_iff_not]; omega
    rw [hr]
    go_enter Tryz.func53, Tryz.ntmps53
    go_wp2
    go_ret
    exact ⟨rfl, rfl⟩
  · by_cases h1 : 256 < b
    · have hr : rgt b = false := by unfold rgt; rw [decide_eq_false_iff_not]; omega
      rw [hr]
      go_enter Tryz.func53, Tryz.ntmps53
      go_wp2
      go_ret
      exact ⟨rfl, rfl⟩
    · have ht : b.tmod 8 = b % 8 := Int.tmod_eq_emod_of_nonneg (by omega)
      by_cases h2 : b % 8 = 0
      · have hr : rgt b = true := by unfold rgt; rw [decide_eq_true_iff]; omega
        rw [hr]
        go_enter Tryz.func53, Tryz.ntmps53
        go_wp2
        go_ret
        exact ⟨rfl, rfl⟩
      · have hr : rgt b = false := by unfold rgt; rw [decide_eq_false_iff_not]; omega
        have h3 : (b % 8 == 0) = false := beq_false_of_ne h2
        rw [hr]
        go_enter Tryz.func53, Tryz.ntmps53
        go_wp2
        go_ret
        exact ⟨rfl, rfl⟩
end Go.Proofs.YticpdepbgcagaaaGreat

namespace Go.Proofs.YticpdepbgcagaaaGreat
open Go.RowKit Go.Qc
attribute [local go_sem] txt_size txt_append ib_fold

/-- Both sides of each bit. -/
def sideL (F : Nat → Nat → List UInt8) (n : Nat) : List (List UInt8) := (List.range n).flatMap fun b => [F b 0, F b 1]
theorem sideL_succ (F : Nat → Nat → List UInt8) (n : Nat) : sideL F (n + 1) = sideL F n ++ [F n 0, F n 1] := by
  simp [sideL, List.range_succ, List.flatMap_append]
theorem sideL_length (F : Nat → Nat → List UInt8) (n : Nat) : (sideL F n).length = 2 * n := by
  induction n with
  | zero => rfl
  | succ n ih => rw [sideL_succ, List.length_append, ih]; simp; omega
theorem sideL_32 (F : Nat → Nat → List UInt8) (hF : ∀ b s, (F b s).length = 32) (n : Nat) : ∀ x ∈ sideL F n, x.length = 32 := by
  intro x hx
  simp only [sideL, List.mem_flatMap, List.mem_cons, List.not_mem_nil, or_false] at hx
  obtain ⟨b, _, h | h⟩ := hx <;> rw [h] <;> exact hF _ _

/-! ### a slice literal of ids -/
theorem put_get (off : Nat) : ∀ (l : List Value) (k : Nat) (cs : Array Value), off + k + l.length ≤ cs.size →
    ((l.zipIdx k).foldl (fun cs x => cs.setIfInBounds (off + x.2) x.1) cs).size = cs.size ∧ ∀ i, ((l.zipIdx k).foldl (fun cs x => cs.setIfInBounds (off + x.2) x.1) cs)[i]? = if off + k ≤ i ∧ i < off + k + l.length then l[i - off - k]? else cs[i]?
  | [], k, cs, _ => ⟨rfl, fun i => by simp; omega⟩
  | v :: l, k, cs, h => by
    simp only [List.length_cons] at h
    obtain ⟨h1, h2⟩ := put_get off l (k + 1) (cs.setIfInBounds (off + k) v) (by simp; omega)
    rw [List.zipIdx_cons, List.foldl_cons]
    refine ⟨by rw [h1]; simp, fun i => ?_⟩
    rw [h2]
    simp only [List.length_cons]
    by_cases c1 : off + (k + 1) ≤ i ∧ i < off + (k + 1) + l.length
    · rw [if_pos c1, if_pos (by omega), show i - off - k = (i - off - (k + 1)) + 1 by omega, List.getElem?_cons_succ]
    · rw [if_neg c1, Array.getElem?_setIfInBounds]
      by_cases c2 : off + k = i
      · subst c2
        rw [if_pos rfl, if_pos (by omega), if_pos (by omega), show off + k - off - k = 0 by omega]; rfl
      · rw [if_neg c2, if_neg (by omega)]
theorem put_get_arr (off : Nat) (X : List UInt8) (cs : Array Value) (h : off + X.length ≤ cs.size) :
    ((idVals X).zipIdx.foldl (fun cs (c, j) => cs.setIfInBounds (off + j) c) cs).size = cs.size ∧ ∀ i, ((idVals X).zipIdx.foldl (fun cs (c, j) => cs.setIfInBounds (off + j) c) cs)[i]? = if off ≤ i ∧ i < off + X.length then (X.map u8v)[i - off]? else cs[i]? := by
  have := put_get off (X.map u8v) 0 cs (by rw [List.length_map]; omega)
  rw [List.length_map, Nat.add_zero, show ((X.map u8v).zipIdx 0).foldl (fun cs x => cs.setIfInBounds (off + x.2) x.1) cs = (idVals X).zipIdx.foldl (fun cs (c, j) => cs.setIfInBounds (off + j) c) cs by unfold idVals; simp] at this
  exact this
theorem wpList_build2 {w : World} {ops : Array Oper} {rest : List Oper} {o : Oper} {a : Act} {Q : Exit → Act → World → Prop} (hgd : o.guard = none) (x y : Operand) (ho : o.op = .buildSlice 25 2 #[(0, x), (1, y)])
    (X Y : List UInt8) (lx : X.length = 32) (ly : Y.length = 32) (hx : a.eval x = .agg (idVals X)) (hy : a.eval y = .agg (idVals Y))
    (h : ∀ cs, (∀ j u, (X.map u8v ++ Y.map u8v)[j]? = some u → (w.alloc (.cells cs 24)).cell? ((⟨w.heap.size, 0, none⟩ : Addr).add j) = some u) → wpList Tryz.prog ops Q rest (a.put o.dst (.slice (some ⟨w.heap.size, 0, none⟩) 2 2)) (w.alloc (.cells cs 24))) :
    wpList Tryz.prog ops Q (o :: rest) a w := by
  obtain ⟨j0, hj, hjz, hjs, hjb⟩ := infoId2_parts
  obtain ⟨zs, hzs⟩ : ∃ zs : Array Value, zs = (Array.range (2 * j0.size)).map ((Value.agg (idVals zeroB)).cells[· % (Value.agg (idVals zeroB)).cells.size]!) := ⟨_, rfl⟩
  have hz : zs.size = 64 := by rw [hzs, hjs]; simp
  obtain ⟨s1, g1⟩ := put_get_arr 0 X zs (by rw [hz, lx]; decide)
  generalize hc1 : (idVals X).zipIdx.foldl (fun cs (c, j) => cs.setIfInBounds (0 + j) c) zs = c1 at s1 g1
  obtain ⟨s2, g2⟩ := put_get_arr 32 Y c1 (by rw [s1, hz, ly]; decide)
  generalize hc2 : (idVals Y).zipIdx.foldl (fun cs (c, j) => cs.setIfInBounds (32 + j) c) c1 = c2 at s2 g2
  refine wpList_buildSlice hgd 25 24 2 #[(0, x), (1, y)] ho c2 j0 (.agg (idVals zeroB)) Tryz.underlying25 hj hjz (by rw [hjs]; decide) (by rw [hjs]; decide) ?_ (h c2 ?_)
  · rw [← hzs, hjs]
    have e1 : (Value.agg (idVals X)).cells = idVals X := rfl
    have e2 : (Value.agg (idVals Y)).cells = idVals Y := rfl
    simp only [List.map_toArray, List.map_cons, List.map_nil, hx, hy, Instr.fill, e1, e2, idVals_size, lx, ly, hz]
    rw [if_neg (by decide)]
    simp only [Nat.zero_mul, Nat.one_mul]
    rw [hc1, s1, hz, if_neg (by decide), hc2]
  · intro j u hj'
    have hlt : j < 64 := by have := (List.getElem?_eq_some_iff.1 hj').1; simp [lx, ly] at this; omega
    rw [Addr.add_lit, Nat.zero_add, cell_of_row _ _ j _ _ _ (heap_alloc_new w _), g2, ly]
    by_cases c : 32 ≤ j
    · rw [if_pos (by omega), ← hj', List.getElem?_append_right (by rw [List.length_map, lx]; exact c), List.length_map, lx]
    · rw [if_neg (by omega), g1, lx, if_pos (by omega), ← hj', List.getElem?_append_left (by rw [List.length_map, lx]; omega), Nat.sub_zero]
theorem wpList_build1 {w : World} {ops : Array Oper} {rest : List Oper} {o : Oper} {a : Act} {Q : Exit → Act → World → Prop} (hgd : o.guard = none) (x : Operand) (ho : o.op = .buildSlice 25 1 #[(0, x)])
    (X : List UInt8) (lx : X.length = 32) (hx : a.eval x = .agg (idVals X))
    (h : ∀ cs, (∀ j u, (X.map u8v)[j]? = some u → (w.alloc (.cells cs 24)).cell? ((⟨w.heap.size, 0, none⟩ : Addr).add j) = some u) → wpList Tryz.prog ops Q rest (a.put o.dst (.slice (some ⟨w.heap.size, 0, none⟩) 1 1)) (w.alloc (.cells cs 24))) :
    wpList Tryz.prog ops Q (o :: rest) a w := by
  obtain ⟨j0, hj, hjz, hjs, hjb⟩ := infoId2_parts
  obtain ⟨zs, hzs⟩ : ∃ zs : Array Value, zs = (Array.range (1 * j0.size)).map ((Value.agg (idVals zeroB)).cells[· % (Value.agg (idVals zeroB)).cells.size]!) := ⟨_, rfl⟩
  have hz : zs.size = 32 := by rw [hzs, hjs]; simp
  obtain ⟨s1, g1⟩ := put_get_arr 0 X zs (by rw [hz, lx]; decide)
  generalize hc1 : (idVals X).zipIdx.foldl (fun cs (c, j) => cs.setIfInBounds (0 + j) c) zs = c1 at s1 g1
  refine wpList_buildSlice hgd 25 24 1 #[(0, x)] ho c1 j0 (.agg (idVals zeroB)) Tryz.underlying25 hj hjz (by rw [hjs]; decide) (by rw [hjs]; decide) ?_ (h c1 ?_)
  · rw [← hzs, hjs]
    have e1 : (Value.agg (idVals X)).cells = idVals X := rfl
    simp only [List.map_toArray, List.map_cons, List.map_nil, hx, Instr.fill, e1, idVals_size, lx, hz]
    rw [if_neg (by decide)]
    simp only [Nat.zero_mul]
    rw [hc1]
  · intro j u hj'
    have hlt : j < 32 := by have := (List.getElem?_eq_some_iff.1 hj').1; simp [lx] at this; omega
    rw [Addr.add_lit, Nat.zero_add, cell_of_row _ _ j _ _ _ (heap_alloc_new w _), g1, lx, if_pos (by omega), ← hj', Nat.sub_zero]

set_option maxRecDepth 100000 in
set_option maxHeartbeats 20000000 in
theorem sides_any (g : Nat) (cap : Array Value) (F : Nat → Nat → List UInt8) (hF32 : ∀ b s, (F b s).length = 32) (n : Nat) (hn : n ≤ 1000) (w : World) (hg : ∀ args W, (callFunc g args).run Tryz.prog W = .ok (.enter g args) W)
    (hF : ∀ W, Below w.heap.size w W → ∀ b : Nat, b < n → (Calls Tryz.prog g (#[.int .i64 b, .int .i64 0] ++ cap) W fun e w' => e = .returned (.agg (idVals (F b 0))) ∧ Below W.heap.size W w') ∧ (Calls Tryz.prog g (#[.int .i64 b, .int .i64 1] ++ cap) W fun e w' => e = .returned (.agg (idVals (F b 1))) ∧ Below W.heap.size W w')) :
    Calls Tryz.prog 91 #[.int .i64 n, .func (.func g) #[] cap] w fun e w' => ∃ v, e = .returned v ∧ w'.ownsRow w.heap.size 24 32 v (2 * n) (idsV (sideL F n)) ∧ Below w.heap.size w w' := by
  obtain ⟨j0, hj, hjz, hjs, hjb⟩ := infoId2_parts
  go_enter Tryz.func91, Tryz.ntmps91
  go_wp2_with (at_make; refine wpList_make_own _ rfl _ _ 25 rfl w.heap.size 24 j0 (.agg (idVals zeroB)) 32 Tryz.underlying25 hj hjz hjs _ _ _ (2 * n) rfl rfl ?c1 ?c2 ?c3 (Nat.le_refl _) ?_)
  case c1 => omega
  case c2 => rw [hjb]; omega
  case c3 => unfold maxLen; omega
  intro w1 hown1 hg1
  have hb1 : Below w.heap.size w w1 := (Below.refl _ w).grown hg1 (Nat.le_refl _) (by intro i e; cases e)
  clear hg1
  go_wp2
  go_loopw [5, 11] (fun v i wr => ∃ k : Nat, k ≤ n ∧ i = .int .i64 k ∧ wr.ownsRow w.heap.size 24 32 v (2 * k) (idsV (sideL F k)) ∧ Below w.heap.size w wr) (fun _ i _ => n - (intOf i).toNat)
  case atStart => exact ⟨0, by omega, rfl, hown1, hb1⟩
  case round =>
    obtain ⟨k, hk, rfl, hown, hb⟩ := hrel
    clear hown1 hb1
    by_cases hlt : k < n
    · have b1 : (k : Int) < n := by omega
      have c0 := (hF wr hb k hlt).1
      obtain ⟨X, hX⟩ : ∃ X, X = F k 0 := ⟨_, rfl⟩
      obtain ⟨Y, hY⟩ : ∃ Y, Y = F k 1 := ⟨_, rfl⟩
      have lx : X.length = 32 := by rw [hX]; exact hF32 _ _
      have ly : Y.length = 32 := by rw [hY]; exact hF32 _ _
      have c1 := fun W h => (hF W h k hlt).2
      rw [← hX] at c0
      rw [← hY] at c1
      have hS := sideL_succ F k
      rw [← hX, ← hY] at hS
      have HS := hid hS
      clear hS hX hY
      go_wp2_with (first
        | ((with_reducible refine c0.mono ?_); rintro e2 w2 ⟨rfl, hb2⟩; replace hb := hb.trans (hb2.mono hb.size); replace hown := own_below hown hb2)
        | ((with_reducible refine (c1 _ hb).mono ?_); rintro e3 w3 ⟨rfl, hb3⟩; replace hb := hb.trans (hb3.mono hb.size); replace hown := own_below hown hb3)
        | ((with_reducible refine wpList_build2 rfl _ _ rfl X Y lx ly rfl rfl ?_); intro cs hcs)
        | (at_builtin; refine wpList_append_own _ rfl _ _ 25 rfl w.heap.size 24 j0 (.agg (idVals zeroB)) 32 32 Tryz.underlying25 hj hjz hjs hjb rfl (by decide) _ _ _ rfl (hown.alloc _) ⟨w3.heap.size, 0, none⟩ 2 2 (X.map u8v ++ Y.map u8v) rfl ?l1 hcs ?l5 ?l2 ?l3 ?l4 ?_))
      case l1 => rw [List.length_append, List.length_map, List.length_map, lx, ly]
      case l5 => intro u hu; rcases List.mem_append.1 hu with hu | hu <;> exact u8v_one _ u hu
      case l2 => unfold maxLen; omega
      case l3 => omega
      case l4 => (try simp); have := hb.size; omega
      intro v8 w8 hown8 hg8 _
      have hB8 := (hb.alloc hb.size _).grown hg8 (hb.alloc hb.size _).size (fun k hk => (hown.lt k hk).1)
      clear hg8
      go_wp2
      go_roundw
      case rel => exact ⟨k + 1, hlt, by go_num, (by rw [HS.out, idsV_append, show idsV [X, Y] = X.map u8v ++ Y.map u8v by simp [idsV], show 2 * (k + 1) = 2 * k + 2 by omega]; exact hown8), hB8⟩
      case measure => simp [intOf]; omega
    · obtain rfl : k = n := by omega
      have b1 : ¬ (k : Int) < k := by omega
      go_wp2
      go_ret
      exact ⟨_, rfl, hown, hb⟩
end Go.Proofs.YticpdepbgcagaaaGreat

namespace Go.Proofs.YticpdepbgcagaaaGreat
open Go.RowKit Go.Qc
attribute [local go_sem] txt_size txt_append ib_fold

theorem usable_any (lf b : Int) (w : World) :
    Calls Tryz.prog 85 #[.int .i64 lf, .int .i64 b] w fun e w' => e = .returned (.bool (decide (0 ≤ lf) && rgt b)) ∧ w = w' := by
  obtain ⟨q, hq⟩ : ∃ q, q = rgt b := ⟨_, rfl⟩
  have c1 := fun W => lright_any b W
  rw [← hq] at c1 ⊢
  clear hq
  by_cases h : 0 ≤ lf
  · rw [decide_eq_true h, Bool.true_and]
    go_enter Tryz.func85, Tryz.ntmps85
    go_wp2_with (first
      | (go_at_call 53; (with_reducible refine (c1 _).mono ?_); rintro e1 w1 ⟨rfl, rfl⟩))
    go_ret
    exact ⟨rfl, rfl⟩
  · rw [decide_eq_false h, Bool.false_and]
    go_enter Tryz.func85, Tryz.ntmps85
    go_wp2_with (first
      | (go_at_call 53; (with_reducible refine (c1 _).mono ?_); rintro e1 w1 ⟨rfl, rfl⟩))
    go_ret
    exact ⟨rfl, rfl⟩

def leafN : List UInt8 := [108, 101, 97, 102]
def joinB (l : List (List UInt8)) : List UInt8 := tagB leafN [l.flatten]
theorem joinB_length (l : List (List UInt8)) : (joinB l).length = 32 := tagB_length _ _
set_option maxRecDepth 100000 in
set_option maxHeartbeats 4000000 in
theorem joined_any (A : Option Addr) (n c : Nat) (l : List (List UInt8)) (w : World) (hA : RowR w A n l) (hN : n ≤ 1000) :
    Calls Tryz.prog 88 #[.slice A n c] w fun e w' => e = .returned (.agg (idVals (joinB l))) ∧ Below w.heap.size w w' := by
  obtain ⟨S, hS⟩ : ∃ S, S = joinB l := ⟨_, rfl⟩
  have hSl : S.length = 32 := by rw [hS]; exact joinB_length _
  have cC : ∀ W : World, RowR W A n l → Calls Tryz.prog 62 #[.string ⟨#[108, 101, 97, 102]⟩, .slice A n c] W fun e w' => e = .returned (.agg (idVals S)) ∧ Below W.heap.size W w' := fun W h => by
    rw [hS]
    exact chain_any leafN (by decide) A n c l W h hN
  rw [← hS]
  have HSL := hid hSl
  have HC := hid cC
  have HA := hid hA
  clear hS hSl cC hA
  go_enter Tryz.func88, Tryz.ntmps88
  go_wp2_with (fail)
  generalize hZ : (Obj.cells _ 24) = Z
  obtain ⟨zc, rfl, hzc⟩ : ∃ zc : Array Value, Z = Obj.cells zc 24 ∧ zc.size = 32 := ⟨_, hZ.symm, rfl⟩
  clear hZ
  have hR := Blk.new w 24 zc
  have hB : Below w.heap.size w (w.alloc (.cells zc 24)) := (Below.refl _ _).alloc (Nat.le_refl _) _
  have HZC := hid hzc
  clear hzc
  refine (HC.out _ (HA.out.below hB)).mono ?_
  rintro e1 w1 ⟨rfl, hB1⟩
  replace hR := hR.below hB1
  replace hB := hB.trans (hB1.mono hB.size)
  clear hB1
  go_wp2_with (with_reducible refine wpList_store_blk rfl 24 _ _ rfl w.heap.size zc (idVals S) 24 hR rfl rfl ?c2 ?c3 (idVals_one _) ?_)
  case c2 => rw [idVals_size, HSL.out]; exact sizeId
  case c3 => rw [idVals_size, HSL.out]; exact HZC.out
  intro w9 hb9 hg9
  go_wp2
  refine bodyPost_ret (results_cell_row rfl _ _ _ _ _ _ _ rfl hb9 Tryz.underlying24 rfl (by rw [idVals_size, HSL.out]; exact sizeId)) rfl ⟨rfl, ?_⟩
  exact hB.grown hg9 hB.size (by intro i e; cases e; exact Nat.le_refl _)

/-! ### the leaf's own public sums -/
def leafF (s : List UInt8) (lf : Int) (b sd : Nat) : List UInt8 := pubB (secB s lf b sd)
theorem leafF_length (s : List UInt8) (lf : Int) (b sd : Nat) : (leafF s lf b sd).length = 32 := pubB_length _
set_option maxRecDepth 100000 in
set_option maxHeartbeats 4000000 in
theorem leaf1_any (s : List UInt8) (hs : s.length ≤ 1000) (lf : Int) (hl : lf ≤ 9223372036854775807) (b sd : Nat) (q : Int) (hq : q = sd) (p1 p2 : Nat) (w : World) (h1 : w.cell? ⟨p1, 0, none⟩ = some (.string (txt s))) (h2 : w.cell? ⟨p2, 0, none⟩ = some (.int .i64 lf)) :
    Calls Tryz.prog 115 #[.int .i64 b, .int .i64 q, .pointer (some ⟨p1, 0, none⟩), .pointer (some ⟨p2, 0, none⟩)] w fun e w' => e = .returned (.agg (idVals (leafF s lf b sd))) ∧ Below w.heap.size w w' := by
  obtain ⟨S, hS⟩ : ∃ S, S = secB s lf b sd := ⟨_, rfl⟩
  have hSl : S.length = 32 := by rw [hS]; exact secB_length _ _ _ _
  have c1 : ∀ W : World, Calls Tryz.prog 45 #[.string (txt s), .int .i64 lf, .int .i64 b, .int .i64 q] W fun e w' => e = .returned (.agg (idVals S)) ∧ Below W.heap.size W w' := fun W => by
    rw [hS, hq]
    exact secret_any s hs lf b sd hl W
  have c2 := fun W => public_any S hSl W
  have hT : leafF s lf b sd = pubB S := by rw [hS]; rfl
  rw [hT]
  have hTl := pubB_length S
  clear hS hT hq
  generalize pubB S = T at *
  have hk1 : ∀ zc, (w.alloc (.cells zc 24)).cell? ⟨p1, 0, none⟩ = some (.string (txt s)) := fun zc => Below.keep ((Below.refl _ _).alloc (Nat.le_refl _) _) h1
  have hk2 : ∀ zc, (w.alloc (.cells zc 24)).cell? ⟨p2, 0, none⟩ = some (.int .i64 lf) := fun zc => Below.keep ((Below.refl _ _).alloc (Nat.le_refl _) _) h2
  have HTL := hid hTl
  clear hTl h1 h2 hs hl
  go_enter Tryz.func115, Tryz.ntmps115
  go_wp2_with (fail)
  generalize hZ : (Obj.cells _ 24) = Z
  obtain ⟨zc, rfl, hzc⟩ : ∃ zc : Array Value, Z = Obj.cells zc 24 ∧ zc.size = 32 := ⟨_, hZ.symm, rfl⟩
  clear hZ
  have hR := Blk.new w 24 zc
  have hB : Below w.heap.size w (w.alloc (.cells zc 24)) := (Below.refl _ _).alloc (Nat.le_refl _) _
  have HZC := hid hzc
  clear hzc hk1 hk2
  refine (c1 _).mono ?_
  rintro e1 w1 ⟨rfl, hB1⟩
  replace hR := hR.below hB1
  replace hB := hB.trans (hB1.mono hB.size)
  clear hB1
  go_wp2_with (first
    | (go_at_call 44; (with_reducible refine (c2 _).mono ?_); rintro e2 w2 ⟨rfl, hB2⟩; replace hR := hR.below hB2; replace hB := hB.trans (hB2.mono hB.size))
    | (with_reducible refine wpList_store_blk rfl 24 _ _ rfl w.heap.size zc (idVals T) 24 hR rfl rfl ?c2 ?c3 (idVals_one _) ?_))
  case c2 => rw [idVals_size, HTL.out]; exact sizeId
  case c3 => rw [idVals_size, HTL.out]; exact HZC.out
  intro w9 hb9 hg9
  go_wp2
  refine bodyPost_ret (results_cell_row rfl _ _ _ _ _ _ _ rfl hb9 Tryz.underlying24 rfl (by rw [idVals_size, HTL.out]; exact sizeId)) rfl ⟨rfl, ?_⟩
  exact hB.grown hg9 hB.size (by intro i e; cases e; exact Nat.le_refl _)

def leafB (s : List UInt8) (lf : Int) (n : Nat) : List UInt8 := joinB (sideL (leafF s lf) n)
theorem leafB_length (s : List UInt8) (lf : Int) (n : Nat) : (leafB s lf n).length = 32 := joinB_length _
/-- The worlds behind Leaf's three variables. -/
def w3 (w : World) (s : List UInt8) (lf : Int) (zc : Array Value) : World := ((w.alloc (.cells #[.string (txt s)] 9)).alloc (.cells #[.int .i64 lf] 3)).alloc (.cells zc 24)
set_option maxRecDepth 100000 in
set_option maxHeartbeats 4000000 in
theorem leaf_any (s : List UInt8) (hs : s.length ≤ 1000) (lf : Int) (h0 : 0 ≤ lf) (hl : lf ≤ 9223372036854775807) (n : Nat) (hn : n ≤ 256) (hr : rgt n = true) (w : World) :
    Calls Tryz.prog 106 #[.string (txt s), .int .i64 lf, .int .i64 n] w fun e w' => e = .returned (.tuple #[.agg (idVals (leafB s lf n)), .int .i64 0]) ∧ Below w.heap.size w w' := by
  obtain ⟨S, hS⟩ : ∃ S, S = leafB s lf n := ⟨_, rfl⟩
  have hSl : S.length = 32 := by rw [hS]; exact leafB_length _ _ _
  rw [← hS]
  have c1 : ∀ W : World, Calls Tryz.prog 85 #[.int .i64 lf, .int .i64 n] W fun e w' => e = .returned (.bool true) ∧ W = w' := fun W => by
    have := usable_any lf n W
    rw [decide_eq_true h0, hr] at this
    exact this
  have k2 : ∀ zc, w3 w s lf zc = ((w.alloc (.cells #[.string (txt s)] 9)).alloc (.cells #[.int .i64 lf] 3)).alloc (.cells zc 24) := fun _ => rfl
  have hz1 : (w.alloc (.cells #[.string (txt s)] 9)).heap.size = w.heap.size + 1 := by simp
  have hz2 : ((w.alloc (.cells #[.string (txt s)] 9)).alloc (.cells #[.int .i64 lf] 3)).heap.size = w.heap.size + 1 + 1 := by simp
  have b1 : ∀ zc, Blk (w3 w s lf zc) w.heap.size 9 #[.string (txt s)] := fun zc => ((Blk.new w 9 _).alloc _).alloc _
  have b2 : ∀ zc, Blk (w3 w s lf zc) (w.heap.size + 1) 3 #[.int .i64 lf] := fun zc => by
    have := (Blk.new (w.alloc (.cells #[.string (txt s)] 9)) 3 #[.int .i64 lf]).alloc (.cells zc 24)
    rw [hz1] at this; exact this
  have b3 : ∀ zc, Blk (w3 w s lf zc) (w.heap.size + 1 + 1) 24 zc := fun zc => by
    have := Blk.new ((w.alloc (.cells #[.string (txt s)] 9)).alloc (.cells #[.int .i64 lf] 3)) 24 zc
    rw [hz2] at this; exact this
  have bB : ∀ zc, Below w.heap.size w (w3 w s lf zc) := fun zc => (((Below.refl _ _).alloc (Nat.le_refl _) _).alloc (by simp) _).alloc (by simp; omega) _
  have e2 : ∀ zc, (((w.alloc (.cells #[.string (txt s)] 9)).alloc (.cells #[.int .i64 lf] 3)).alloc (.cells zc 24)).cell? ⟨w.heap.size + 1, 0, none⟩ = some (.int .i64 lf) := fun zc => (b2 zc).cell_ rfl
  have cS : ∀ zc, Calls Tryz.prog 91 #[.int .i64 n, .func (.func 115) #[] #[.pointer (some ⟨w.heap.size, 0, none⟩), .pointer (some ⟨w.heap.size + 1, 0, none⟩)]] (w3 w s lf zc) fun e w' => ∃ v, e = .returned v ∧ w'.ownsRow (w3 w s lf zc).heap.size 24 32 v (2 * n) (idsV (sideL (leafF s lf) n)) ∧ Below (w3 w s lf zc).heap.size (w3 w s lf zc) w' := fun zc =>
    sides_any _ _ (leafF s lf) (leafF_length s lf) n (by omega) _ (enters_of Tryz.func115 (by kernel_rfl) rfl) (fun W hW b hb => by
      have d1 := Below.keep hW ((b1 zc).cell_ (i := 0) rfl)
      have d2 := Below.keep hW ((b2 zc).cell_ (i := 0) rfl)
      exact ⟨leaf1_any s hs lf hl b 0 0 rfl _ _ W d1 d2, leaf1_any s hs lf hl b 1 1 rfl _ _ W d1 d2⟩)
  have cJ := fun A c W h => joined_any A (2 * n) c (sideL (leafF s lf) n) W h (by omega)
  have h32 := sideL_32 (leafF s lf) (leafF_length s lf) n
  rw [show joinB (sideL (leafF s lf) n) = S from hS.symm] at cJ
  generalize sideL (leafF s lf) n = L at *
  have HSL := hid hSl
  have H32 := hid h32
  have HN := hid hn
  clear hS hSl h32 hz1 hz2 b1 b2 hn hr hs hl h0
  go_enter Tryz.func106, Tryz.ntmps106
  go_wp2_with (first
    | (go_at_call 85; (with_reducible refine (c1 _).mono ?_); rintro e1 w1 ⟨rfl, rfl⟩)
    | (go_at_call 91; rw [← k2]; (with_reducible refine (cS _).mono ?_); rintro e2 w2 ⟨v, rfl, hown, hB2⟩; obtain ⟨A2, cc, rfl, hrow⟩ := RowAt.own hown H32.out (by have := HN.out; omega); have hR := (b3 _).below hB2; have hB := (bB _).trans (hB2.mono (bB _).size))
    | (go_at_call 88; (with_reducible refine (cJ _ _ _ hrow.r).mono ?_); rintro e4 w4 ⟨rfl, hB4⟩; replace hR := hR.below hB4; replace hB := hB.trans (hB4.mono hB.size))
    | (with_reducible refine wpList_store_blk rfl 24 _ _ rfl (w.heap.size + 1 + 1) _ (idVals S) 24 hR rfl rfl ?c2 ?c3 (idVals_one _) ?_))
  case c2 => rw [idVals_size, HSL.out]; exact sizeId
  case c3 => rw [idVals_size, HSL.out]; rfl
  intro w9 hb9 hg9
  go_wp2
  refine bodyPost_ret (results_cellt rfl _ _ _ _ _ _ rfl hb9 Tryz.underlying24 rfl (by rw [idVals_size, HSL.out]; exact sizeId)) rfl ⟨rfl, ?_⟩
  exact hB.grown hg9 hB.size (by intro i e; cases e; omega)
/-! ### the document's -/
theorem flat_side (F : Nat → Nat → List UInt8) (k : Nat) : (sideL F (k + 1)).flatten = (sideL F k).flatten ++ (F k 0 ++ F k 1) := by
  rw [sideL_succ, List.flatten_append]; simp
theorem flat_len (F : Nat → Nat → List UInt8) (hF : ∀ b s, (F b s).length = 32) (k : Nat) : (sideL F k).flatten.length = 64 * k := by
  rw [flatten_len _ (sideL_32 F hF k), sideL_length]; omega
theorem textB_leaf (q : List UInt8) (h : q.length ≤ 90000) : (textB leafN [q]).length ≤ 1000000000000 :=
  textB_ids leafN (by decide) _ (by simp only [List.map_cons, List.map_nil, List.sum_cons, List.sum_nil, List.length_cons, List.length_nil]; omega)
set_option maxRecDepth 100000 in
set_option maxHeartbeats 4000000 in
theorem rleaf_any (s : List UInt8) (hs : s.length ≤ 1000) (lf : Int) (n : Nat) (hn : n ≤ 256) (w : World) :
    Calls Tryz.prog 75 #[.string (txt s), .int .i64 lf, .int .i64 n] w fun e w' => e = .returned (.agg (idVals (leafB s lf n))) ∧ Below w.heap.size w w' := by
  obtain ⟨S, hS⟩ : ∃ S, S = leafB s lf n := ⟨_, rfl⟩
  have hSl : S.length = 32 := by rw [hS]; exact leafB_length _ _ _
  rw [← hS]
  have hof : ∀ W A c, Rd W A ([(sideL (leafF s lf) n).flatten].map strV) → Calls Tryz.prog 50 #[.string ⟨#[108, 101, 97, 102]⟩, .slice A 1 c] W fun e w' => e = .returned (.agg (idVals S)) ∧ Below W.heap.size W w' := fun W A c h => by
    rw [hS]
    exact rof_any leafN (by decide) A 1 c _ rfl (textB_leaf _ (by rw [flat_len _ (leafF_length s lf)]; omega)) W h
  have HSL := hid hSl
  have HOF := hid hof
  clear hS hSl hof
  go_enter Tryz.func75, Tryz.ntmps75
  go_wp2_with (fail)
  generalize hZ : (Obj.cells _ 24) = Z
  obtain ⟨zc, rfl, hzc⟩ : ∃ zc : Array Value, Z = Obj.cells zc 24 ∧ zc.size = 32 := ⟨_, hZ.symm, rfl⟩
  clear hZ
  have hR0 := Blk.new w 24 zc
  have hB0 : Below w.heap.size w (w.alloc (.cells zc 24)) := (Below.refl _ _).alloc (Nat.le_refl _) _
  have HZC := hid hzc
  clear hzc
  generalize w.alloc (.cells zc 24) = w0 at *
  go_loopw [7, 8] (fun v i wr => ∃ k : Nat, k ≤ n ∧ i = .int .i64 k ∧ v = .string (txt (sideL (leafF s lf) k).flatten) ∧ Below w0.heap.size w0 wr) (fun _ i _ => n - (intOf i).toNat)
  case atStart => exact ⟨0, by omega, rfl, rfl, Below.refl _ _⟩
  case round =>
    obtain ⟨k, hk, rfl, rfl, hB⟩ := hrel
    by_cases hlt : k < n
    · have b1 : (k : Int) < n := by omega
      have ql := flat_len _ (leafF_length s lf) k
      have HS := hid (flat_side (leafF s lf) k)
      obtain ⟨X, hX⟩ : ∃ X, X = secB s lf k ((0 : Nat) : Int) := ⟨_, rfl⟩
      obtain ⟨Y, hY⟩ : ∃ Y, Y = secB s lf k ((1 : Nat) : Int) := ⟨_, rfl⟩
      have lx : X.length = 32 := by rw [hX]; exact secB_length _ _ _ _
      have ly : Y.length = 32 := by rw [hY]; exact secB_length _ _ _ _
      have c0 : ∀ W : World, Calls Tryz.prog 20 #[.string (txt s), .int .i64 lf, .int .i64 k, .int .i64 0] W fun e w' => e = .returned (.agg (idVals X)) ∧ Below W.heap.size W w' := fun W => by
        rw [hX]; exact rsecret_any s hs lf k ((0 : Nat) : Int) W
      have c1 : ∀ W : World, Calls Tryz.prog 20 #[.string (txt s), .int .i64 lf, .int .i64 k, .int .i64 1] W fun e w' => e = .returned (.agg (idVals Y)) ∧ Below W.heap.size W w' := fun W => by
        rw [hY]; exact rsecret_any s hs lf k ((1 : Nat) : Int) W
      have p0 := fun W => rpublic_any X lx W
      have p1 := fun W => rpublic_any Y ly W
      have lpx := pubB_length X
      have lpy := pubB_length Y
      have f0 : leafF s lf k 0 = pubB X := by rw [hX]; rfl
      have f1 : leafF s lf k 1 = pubB Y := by rw [hY]; rfl
      rw [f0, f1] at HS
      clear hX hY f0 f1
      generalize pubB X = PX at *
      generalize pubB Y = PY at *
      have t0 := fun W => rid_any PX lpx W
      have t1 := fun W => rid_any PY lpy W
      generalize hQ : (sideL (leafF s lf) k).flatten = Q at *
      have HQ := hid hQ
      have z1 : ¬ (9223372036854775807 : Int) < PX.length + PY.length := by omega
      have z2 : ¬ (9223372036854775807 : Int) < Q.length + (PX.length + PY.length) := by omega
      clear hQ ql lpx lpy lx ly
      go_wp2_with (first
        | (go_at_call 20; first | ((with_reducible refine (c0 _).mono ?_); rintro e1 w1 ⟨rfl, hb1⟩; replace hB := hB.trans (hb1.mono hB.size)) | ((with_reducible refine (c1 _).mono ?_); rintro e2 w2 ⟨rfl, hb2⟩; replace hB := hB.trans (hb2.mono hB.size)))
        | (go_at_call 42; first | ((with_reducible refine (p0 _).mono ?_); rintro e1 w1 ⟨rfl, hb1⟩; replace hB := hB.trans (hb1.mono hB.size)) | ((with_reducible refine (p1 _).mono ?_); rintro e2 w2 ⟨rfl, hb2⟩; replace hB := hB.trans (hb2.mono hB.size)))
        | (go_at_call 49; first | ((with_reducible refine (t0 _).mono ?_); rintro e1 w1 ⟨rfl, hb1⟩; replace hB := hB.trans (hb1.mono hB.size)) | ((with_reducible refine (t1 _).mono ?_); rintro e2 w2 ⟨rfl, hb2⟩; replace hB := hB.trans (hb2.mono hB.size))))
      go_roundw
      case rel => exact ⟨k + 1, hlt, by go_num, by rw [HS.out], hB⟩
      case measure => simp [intOf]; omega
    · obtain rfl : k = n := by omega
      have b1 : ¬ (k : Int) < k := by omega
      generalize (sideL (leafF s lf) k).flatten = Q at *
      have hrd := rd_strV wr Q
      have hBw := hB0.trans (hB.mono hB0.size)
      have hR := (hR0.below hB).alloc (.cells #[.string (txt Q)] 9)
      have hB9 := hBw.alloc hBw.size (.cells #[.string (txt Q)] 9)
      go_wp2_with (first
        | (go_at_call 50; (with_reducible refine (HOF.out _ _ _ hrd).mono ?_); rintro e7 w7 ⟨rfl, hB7⟩; replace hR := hR.below hB7; replace hB9 := hB9.trans (hB7.mono hB9.size))
        | (with_reducible refine wpList_store_blk rfl 24 _ _ rfl w.heap.size zc (idVals S) 24 hR rfl rfl ?c2 ?c3 (idVals_one _) ?_))
      case c2 => rw [idVals_size, HSL.out]; exact sizeId
      case c3 => rw [idVals_size, HSL.out]; exact HZC.out
      intro w9 hb9 hg9
      go_wp2
      refine bodyPost_ret (results_cell_row rfl _ _ _ _ _ _ _ rfl hb9 Tryz.underlying24 rfl (by rw [idVals_size, HSL.out]; exact sizeId)) rfl ⟨rfl, ?_⟩
      exact hB9.grown hg9 hB9.size (by intro i e; cases e; exact Nat.le_refl _)
end Go.Proofs.YticpdepbgcagaaaGreat

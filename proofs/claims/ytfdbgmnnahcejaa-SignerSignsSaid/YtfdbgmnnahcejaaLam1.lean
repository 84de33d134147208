
/- lamport: numbers, secrets, public sums, right bits; of the program and of the document. -/
import Derived.Test.YtfdbgmnnahcejaaId7
namespace Go.Proofs.Ytfdbgmnnahcejaa
open Go.RowKit Go.Qc
attribute [local go_sem] txt_size txt_append ib_fold

def nB (m n : Nat) : List UInt8 := numB (BitVec.ofNat 64 m) n
theorem nB_length (m n : Nat) : (nB m n).length = n := numB_length _ _
theorem lv_nat (m : Nat) (h : m ≤ 9223372036854775807) : (m : Int) = lv (BitVec.ofNat 64 m) := by
  unfold lv; rw [BitVec.toNat_ofNat]; omega
theorem nB_fits (m n : Nat) (hm : m ≤ 9223372036854775807) (hf : m < 256 ^ n) : BitVec.ofNat 64 m >>> (8 * n) = 0#64 := by
  rw [fits_iff, BitVec.toNat_ofNat, Nat.mod_eq_of_lt (by omega)]; exact hf
theorem lnum_any (m n : Nat) (q : Int) (hq : q = n) (hm : m ≤ 9223372036854775807) (hn : n ≤ 8) (hf : m < 256 ^ n) (w : World) :
    Calls Try.prog 190 #[.int .i64 m, .int .i64 q] w fun e w' => e = .returned (.string (txt (nB m n))) ∧ Below w.heap.size w w' := by
  have hN : ∀ W : World, Calls Try.prog 118 #[.int .u64 m, .int .i64 q] W fun e w' => e = .returned (.tuple #[.string (txt (nB m n)), .bool true]) ∧ Below W.heap.size W w' := fun W => by
    rw [hq, lv_nat m hm]
    exact number_any _ n hn (nB_fits m n hm hf) W
  clear hq hn hf
  go_enter Try.func190, Try.ntmps190
  go_wp2_with (first
    | (go_at_call 118; (with_reducible refine (hN _).mono ?_); rintro e1 w1 ⟨rfl, hB1⟩))
  go_ret
  exact ⟨rfl, hB1⟩
theorem rnum_any (m n : Nat) (q : Int) (hq : q = n) (hm : m ≤ 9223372036854775807) (hn : n ≤ 8) (hf : m < 256 ^ n) (w : World) :
    Calls Try.prog 152 #[.int .i64 m, .int .i64 q] w fun e w' => e = .returned (.string (txt (nB m n))) ∧ Below w.heap.size w w' := by
  have hN : ∀ W : World, Calls Try.prog 122 #[.int .u64 m, .int .i64 q] W fun e w' => e = .returned (.tuple #[.string (txt (nB m n)), .bool true]) ∧ Below W.heap.size W w' := fun W => by
    rw [hq, lv_nat m hm]
    exact rnumber_any _ n hn (nB_fits m n hm hf) W
  clear hq hn hf
  go_enter Try.func152, Try.ntmps152
  go_wp2_with (first
    | (go_at_call 122; (with_reducible refine (hN _).mono ?_); rintro e1 w1 ⟨rfl, hB1⟩))
  go_ret
  exact ⟨rfl, hB1⟩

/-- A number held between 0 and a greatest. -/
def clN (v : Int) (m : Nat) : Nat := (min (max v 0) m).toNat
theorem clN_le (v : Int) (m : Nat) : clN v m ≤ m := by unfold clN; omega
theorem clN_eq (v : Int) (m : Nat) : ((clN v m : Nat) : Int) = min (max v 0) m := by unfold clN; omega
theorem clN_max (v : Int) (h : v ≤ 9223372036854775807) : ((clN v 9223372036854775807 : Nat) : Int) = max v 0 := by unfold clN; omega
theorem rclamp_any (v : Int) (m : Nat) (q : Int) (hq : q = m) (w : World) :
    Calls Try.prog 153 #[.int .i64 v, .int .i64 q] w fun e w' => e = .returned (.int .i64 (clN v m : Nat)) ∧ w = w' := by
  rw [clN_eq]
  obtain ⟨r, hr⟩ : ∃ r : Int, r = min (max v 0) m := ⟨_, rfl⟩
  rw [← hr]
  have HR := hid hr
  have HQ := hid hq
  clear hr hq
  by_cases h0 : v < 0
  · go_enter Try.func153, Try.ntmps153
    go_wp2
    go_ret
    refine ⟨?_, rfl⟩
    rw [show r = 0 by have := HR.out; have := HQ.out; omega]; rfl
  · by_cases h1 : q < v
    · go_enter Try.func153, Try.ntmps153
      go_wp2
      go_ret
      refine ⟨?_, rfl⟩
      rw [show r = q by have := HR.out; have := HQ.out; omega]; rfl
    · go_enter Try.func153, Try.ntmps153
      go_wp2
      go_ret
      refine ⟨?_, rfl⟩
      rw [show r = v by have := HR.out; have := HQ.out; omega]; rfl

/-! ### secrets -/
def secN : List UInt8 := [115, 101, 99, 114, 101, 116]
def secB (s : List UInt8) (lf bt sd : Int) : List UInt8 := tagB secN [s, nB (clN lf 9223372036854775807) 8, nB (clN bt 65535) 2, nB (clN sd 1) 1]
theorem secB_length (s : List UInt8) (lf bt sd : Int) : (secB s lf bt sd).length = 32 := tagB_length _ _
theorem textB_sec (s a b c : List UInt8) (hs : s.length ≤ 1000) (ha : a.length = 8) (hb : b.length = 2) (hc : c.length = 1) : (textB secN [s, a, b, c]).length ≤ 1000000000000 :=
  textB_ids secN (by decide) _ (by simp only [List.map_cons, List.map_nil, List.sum_cons, List.sum_nil, List.length_cons, List.length_nil]; omega)
theorem rd_four (w : World) (s a b c : List UInt8) : Rd (w.alloc (.cells #[.string (txt s), .string (txt a), .string (txt b), .string (txt c)] 9)) (some ⟨w.heap.size, 0, none⟩) ([s, a, b, c].map strV) := Rd.blk (Blk.new _ _ _) (by
  intro j u h
  rw [List.getElem?_toArray]; exact h)

set_option maxRecDepth 100000 in
set_option maxHeartbeats 4000000 in
theorem secret_any (s : List UInt8) (hs : s.length ≤ 1000) (lf bt sd : Int) (hl : lf ≤ 9223372036854775807) (w : World) :
    Calls Try.prog 156 #[.string (txt s), .int .i64 lf, .int .i64 bt, .int .i64 sd] w fun e w' => e = .returned (.agg (idVals (secB s lf bt sd))) ∧ Below w.heap.size w w' := by
  have hu := Try.underlying24
  obtain ⟨S, hS⟩ : ∃ S, S = secB s lf bt sd := ⟨_, rfl⟩
  have hSl : S.length = 32 := by rw [hS]; exact secB_length _ _ _ _
  rw [← hS]
  have c1 : ∀ W : World, Calls Try.prog 190 #[.int .i64 (max lf 0), .int .i64 8] W fun e w' => e = .returned (.string (txt (nB (clN lf 9223372036854775807) 8))) ∧ Below W.heap.size W w' := fun W => by
    rw [← clN_max lf hl]
    exact lnum_any _ 8 8 rfl (clN_le _ _) (by decide) (Nat.lt_of_le_of_lt (clN_le _ _) (by decide)) W
  have c2 : ∀ W : World, Calls Try.prog 190 #[.int .i64 (min (max bt 0) 65535), .int .i64 2] W fun e w' => e = .returned (.string (txt (nB (clN bt 65535) 2))) ∧ Below W.heap.size W w' := fun W => by
    rw [show min (max bt 0) (65535 : Int) = ((clN bt 65535 : Nat) : Int) from (clN_eq bt 65535).symm]
    exact lnum_any _ 2 2 rfl (Nat.le_trans (clN_le _ _) (by decide)) (by decide) (Nat.lt_of_le_of_lt (clN_le _ _) (by decide)) W
  have c3 : ∀ W : World, Calls Try.prog 190 #[.int .i64 (min (max sd 0) 1), .int .i64 1] W fun e w' => e = .returned (.string (txt (nB (clN sd 1) 1))) ∧ Below W.heap.size W w' := fun W => by
    rw [show min (max sd 0) (1 : Int) = ((clN sd 1 : Nat) : Int) from (clN_eq sd 1).symm]
    exact lnum_any _ 1 1 rfl (Nat.le_trans (clN_le _ _) (by decide)) (by decide) (Nat.lt_of_le_of_lt (clN_le _ _) (by decide)) W
  have hof : ∀ W A c, Rd W A ([s, nB (clN lf 9223372036854775807) 8, nB (clN bt 65535) 2, nB (clN sd 1) 1].map strV) → Calls Try.prog 119 #[.string ⟨#[115, 101, 99, 114, 101, 116]⟩, .slice A 4 c] W fun e w' => e = .returned (.tuple #[.agg (idVals S), .int .i64 0]) ∧ Below W.heap.size W w' := fun W A c h => by
    rw [hS]
    exact of_any secN (by decide) A 4 c _ rfl (textB_sec _ _ _ _ hs (nB_length _ _) (nB_length _ _) (nB_length _ _)) W h
  clear hS
  generalize nB (clN lf 9223372036854775807) 8 = N1 at *
  generalize nB (clN bt 65535) 2 = N2 at *
  generalize nB (clN sd 1) 1 = N3 at *
  have HSL := hid hSl
  have HOF := hid hof
  have HZ : (Try.prog.info? 24).map (·.size) = some (S.map u8v).length := by rw [List.length_map, HSL.out]; exact sizeId
  clear hof hSl hs hl
  go_enter Try.func156, Try.ntmps156
  go_wp2_with (fail)
  generalize hZ : (Obj.cells _ 24) = Z
  obtain ⟨zc, rfl, hzc⟩ : ∃ zc : Array Value, Z = Obj.cells zc 24 ∧ zc.size = 32 := ⟨_, hZ.symm, rfl⟩
  clear hZ
  have hR := Blk.new w 24 zc
  have hB : Below w.heap.size w (w.alloc (.cells zc 24)) := (Below.refl _ _).alloc (Nat.le_refl _) _
  have HZC := hid hzc
  clear hzc
  refine (c1 _).mono ?_
  rintro e1 w1 ⟨rfl, hB1⟩
  replace hR := hR.below hB1
  replace hB := hB.trans (hB1.mono hB.size)
  clear hB1
  go_wp2_with (first
    | (go_at_call 190; first | ((with_reducible refine (c2 _).mono ?_); rintro e2 w2 ⟨rfl, hB2⟩; replace hR := hR.below hB2; replace hB := hB.trans (hB2.mono hB.size); clear hB2) | ((with_reducible refine (c3 _).mono ?_); rintro e3 w3 ⟨rfl, hB3⟩; replace hR := hR.below hB3; replace hB := hB.trans (hB3.mono hB.size); clear hB3; have hrd := rd_four w3 s N1 N2 N3; replace hR := hR.alloc (.cells #[.string (txt s), .string (txt N1), .string (txt N2), .string (txt N3)] 9); replace hB := hB.alloc hB.size (.cells #[.string (txt s), .string (txt N1), .string (txt N2), .string (txt N3)] 9)))
    | (go_at_call 119; (with_reducible refine (HOF.out _ _ _ hrd).mono ?_); rintro e7 w7 ⟨rfl, hB7⟩; replace hR := hR.below hB7; replace hB := hB.trans (hB7.mono hB.size))
    | ((with_reducible refine wpList_store_newid rfl _ _ rfl S HSL.out rfl rfl (by with_unfolding_all rfl) ?_); intro w8 hx8 hb8; replace hR := hR.below hb8; replace hB := hB.trans (hb8.mono hB.size))
    | (with_reducible refine wpList_load_if (by with_unfolding_all rfl) 24 _ rfl _ _ rfl (S.map u8v) _ hx8 hu (by with_unfolding_all rfl) HZ ?_)
    | (with_reducible refine wpList_store_blk rfl 24 _ _ rfl w.heap.size zc (S.map u8v).toArray 24 hR rfl rfl ?c2 ?c3 ?c4 ?_))
  case c2 => rw [show (S.map u8v).toArray.size = 32 by rw [List.size_toArray, List.length_map, HSL.out]]; exact sizeId
  case c3 => rw [show (S.map u8v).toArray.size = 32 by rw [List.size_toArray, List.length_map, HSL.out]]; exact HZC.out
  case c4 => exact idVals_one S
  intro w9 hb9 hg9
  go_wp2
  refine bodyPost_ret (results_cell_row rfl _ _ _ _ _ _ _ rfl hb9 Try.underlying24 rfl (by rw [show (S.map u8v).toArray.size = 32 by rw [List.size_toArray, List.length_map, HSL.out]]; exact sizeId)) rfl ⟨rfl, ?_⟩
  exact hB.grown hg9 hB.size (by intro i e; cases e; exact Nat.le_refl _)
end Go.Proofs.Ytfdbgmnnahcejaa

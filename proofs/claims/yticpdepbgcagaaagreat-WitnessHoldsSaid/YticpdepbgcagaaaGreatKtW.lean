
/- keytree: keys, leaves, ways; of the program and of the document. -/
import Derived.Test.YticpdepbgcagaaaGreatKt7
import Derived.Test.YticpdepbgcagaaaGreatLam7
namespace Go.Proofs.YticpdepbgcagaaaGreat
open Go.RowKit Go.Qc
attribute [local go_sem] txt_size txt_append ib_fold

theorem rgt_le9 {b : Int} (h : rgt b = true) : 0 ≤ b ∧ b ≤ 256 := by
  unfold rgt at h
  rw [decide_eq_true_iff] at h
  omega
/-- "key" -/
def keyN : List UInt8 := [107, 101, 121]
def keyB (n m : Nat) (r : List UInt8) : List UInt8 := tagB keyN [nB n 2, nB m 1, r]
theorem keyB_length (n m : Nat) (r : List UInt8) : (keyB n m r).length = 32 := tagB_length _ _
theorem textB_key (a b c : List UInt8) (ha : a.length = 2) (hb : b.length = 1) (hc : c.length = 32) : (textB keyN [a, b, c]).length ≤ 1000000000000 :=
  textB_ids keyN (by decide) _ (by simp only [List.map_cons, List.map_nil, List.sum_cons, List.sum_nil, List.length_cons, List.length_nil]; omega)
theorem rd_three (w : World) (a b c : List UInt8) : Rd (w.alloc (.cells #[.string (txt a), .string (txt b), .string (txt c)] 9)) (some ⟨w.heap.size, 0, none⟩) ([a, b, c].map strV) := Rd.blk (Blk.new _ _ _) (by
  intro j u h
  rw [List.getElem?_toArray]; exact h)
/-- Params, a root, and the answer's place. -/
structure KeyS (w : World) (b h : Int) (r : List UInt8) (W : World) : Prop where
  par : Blk W w.heap.size 29 #[.int .i64 b, .int .i64 h]
  root : Blk W (w.heap.size + 1) 24 (idVals r)
  res : ∃ zc : Array Value, Blk W (w.heap.size + 1 + 1) 24 zc ∧ zc.size = 32
  bel : Below w.heap.size w W
theorem KeyS.below {w W W' : World} {b h : Int} {r : List UInt8} (k : KeyS w b h r W) (hb : Below W.heap.size W W') : KeyS w b h r W' :=
  ⟨k.par.below hb, k.root.below hb, k.res.imp fun _ ⟨x, y⟩ => ⟨x.below hb, y⟩, k.bel.trans (hb.mono k.bel.size)⟩
theorem KeyS.new (w : World) (b h : Int) (r : List UInt8) (zc : Array Value) (hz : zc.size = 32) :
    KeyS w b h r (((w.alloc (.cells #[.int .i64 b, .int .i64 h] 29)).alloc (.cells (idVals r) 24)).alloc (.cells zc 24)) := by
  have hk1 : (w.alloc (.cells #[.int .i64 b, .int .i64 h] 29)).heap.size = w.heap.size + 1 := by simp
  have hk2 : ((w.alloc (.cells #[.int .i64 b, .int .i64 h] 29)).alloc (.cells (idVals r) 24)).heap.size = w.heap.size + 1 + 1 := by simp
  have h2 := Blk.new (w.alloc (.cells #[.int .i64 b, .int .i64 h] 29)) 24 (idVals r)
  rw [hk1] at h2
  have h3 := Blk.new ((w.alloc (.cells #[.int .i64 b, .int .i64 h] 29)).alloc (.cells (idVals r) 24)) 24 zc
  rw [hk2] at h3
  exact ⟨((Blk.new w 29 _).alloc _).alloc _, h2.alloc _, ⟨zc, h3, hz⟩, (((Below.refl _ _).alloc (Nat.le_refl _) _).alloc (by simp) _).alloc (by simp; omega) _⟩
set_option maxRecDepth 100000 in
set_option maxHeartbeats 8000000 in
theorem key_any (n m : Nat) (hr : rgtP n m = true) (r : List UInt8) (hr32 : r.length = 32) (w : World) :
    Calls Tryz.prog 28 #[.agg #[.int .i64 n, .int .i64 m], .agg (idVals r)] w fun e w' => e = .returned (.tuple #[.agg (idVals (keyB n m r)), .int .i64 0]) ∧ Below w.heap.size w w' := by
  have hu := Tryz.underlying24
  obtain ⟨i0, hi, hz0, hz1, hz2⟩ := info_parts infoByte
  obtain ⟨S, hS⟩ : ∃ S, S = keyB n m r := ⟨_, rfl⟩
  have hSl : S.length = 32 := by rw [hS]; exact keyB_length _ _ _
  rw [← hS]
  have hp := rgtP_parts hr
  have hn8 : n ≤ 256 := by have := rgt_le9 hp.1; omega
  have hm8 : m ≤ 10 := by omega
  have cR := fun W => kright_any n m W
  rw [hr] at cR
  have c1 : ∀ W : World, Calls Tryz.prog 59 #[.int .u64 n, .int .i64 2] W fun e w' => e = .returned (.tuple #[.string (txt (nB n 2)), .bool true]) ∧ Below W.heap.size W w' := fun W => by
    rw [lv_nat n (by omega)]
    exact number_any _ 2 (by decide) (nB_fits n 2 (by omega) (by omega)) W
  have c2 : ∀ W : World, Calls Tryz.prog 59 #[.int .u64 m, .int .i64 1] W fun e w' => e = .returned (.tuple #[.string (txt (nB m 1)), .bool true]) ∧ Below W.heap.size W w' := fun W => by
    rw [lv_nat m (by omega)]
    exact number_any _ 1 (by decide) (nB_fits m 1 (by omega) (by omega)) W
  have hof : ∀ W A c, Rd W A ([nB n 2, nB m 1, r].map strV) → Calls Tryz.prog 60 #[.string ⟨#[107, 101, 121]⟩, .slice A 3 c] W fun e w' => e = .returned (.tuple #[.agg (idVals S), .int .i64 0]) ∧ Below W.heap.size W w' := fun W A c h => by
    rw [hS]
    exact of_any keyN (by decide) A 3 c _ rfl (textB_key _ _ _ (nB_length _ _) (nB_length _ _) hr32) W h
  have hs := fun W g => run_slice_whole (P := Tryz.prog) W 24 5 g 0 32 i0 Tryz.underlying24 hi hz1 (by decide)
  clear hS hp hr
  generalize nB n 2 = N1 at *
  generalize nB m 1 = N2 at *
  have HSL := hid hSl
  have HOF := hid hof
  have HR := hid hr32
  have HZ : (Tryz.prog.info? 24).map (·.size) = some (S.map u8v).length := by rw [List.length_map, HSL.out]; exact sizeId
  clear hof hSl hr32
  go_enter Tryz.func28, Tryz.ntmps28
  go_wp2_with (fail)
  have h0 := KeyS.new w n m r #[.int .u8 0, .int .u8 0, .int .u8 0, .int .u8 0, .int .u8 0, .int .u8 0, .int .u8 0, .int .u8 0, .int .u8 0, .int .u8 0, .int .u8 0, .int .u8 0, .int .u8 0, .int .u8 0, .int .u8 0, .int .u8 0, .int .u8 0, .int .u8 0, .int .u8 0, .int .u8 0, .int .u8 0, .int .u8 0, .int .u8 0, .int .u8 0, .int .u8 0, .int .u8 0, .int .u8 0, .int .u8 0, .int .u8 0, .int .u8 0, .int .u8 0, .int .u8 0] rfl
  generalize ((w.alloc (.cells #[.int .i64 (n : Int), .int .i64 (m : Int)] 29)).alloc (.cells (idVals r) 24)).alloc (.cells _ 24) = w0 at *
  refine (cR _).mono ?_
  rintro e1 w1 ⟨rfl, hb1⟩
  have hk := h0.below hb1
  have p0 := hk.par.cell_ (i := 0) rfl
  have p1 := hk.par.cell_ (i := 1) rfl
  clear h0 hb1
  go_wp2_with (first
    | (go_at_call 59; first
      | ((with_reducible refine (c1 _).mono ?_); rintro e2 w2 ⟨rfl, hb2⟩; replace hk := hk.below hb2; have p3 := hk.par.cell_ (i := 1) rfl; clear hb2 p0 p1)
      | ((with_reducible refine (c2 _).mono ?_); rintro e3 w3 ⟨rfl, hb3⟩; replace hk := hk.below hb3; clear hb3 p3; have hcv := run_txt w3 _ _ 5 (some ⟨w.heap.size + 1, 0, none⟩) 32 32 r Tryz.underlying97 Tryz.underlying5 Tryz.underlying9 HR.out.symm (rd_id hk.root); have hrd := rd_three w3 N1 N2 r; replace hk := hk.below ((Below.refl _ _).alloc (Nat.le_refl _) (.cells #[.string (txt N1), .string (txt N2), .string (txt r)] 9))))
    | (go_at_call 60; (with_reducible refine (HOF.out _ _ _ hrd).mono ?_); rintro e7 w7 ⟨rfl, hb7⟩; replace hk := hk.below hb7; obtain ⟨zc, hzc, hzz⟩ := hk.res)
    | (with_reducible refine wpList_store_blk rfl 24 _ _ rfl (w.heap.size + 1 + 1) zc (idVals S) 24 hzc rfl rfl ?c2 ?c3 (idVals_one _) ?_))
  case c2 => rw [idVals_size, HSL.out]; try exact sizeId
  case c3 => rw [idVals_size, HSL.out, hzz]
  intro w9 hb9 hg9
  go_wp2
  refine bodyPost_ret (results_cellt rfl _ _ _ _ _ _ rfl hb9 Tryz.underlying24 rfl (by rw [idVals_size, HSL.out]; exact sizeId)) rfl ⟨rfl, ?_⟩
  exact hk.bel.grown hg9 hk.bel.size (by intro i e; cases e; omega)
/-! ### the document's -/
end Go.Proofs.YticpdepbgcagaaaGreat

namespace Go.Proofs.YticpdepbgcagaaaGreat
open Go.RowKit Go.Qc
attribute [local go_sem] txt_size txt_append ib_fold

def lfF (s : List UInt8) (n : Nat) (i : Nat) : List UInt8 := leafB s (i : Nat) n
theorem lfF_length (s : List UInt8) (n i : Nat) : (lfF s n i).length = 32 := leafB_length _ _ _
theorem lvs_ok {n m : Nat} (hr : rgtP n m = true) : lvs n m = 2 ^ m := by
  unfold lvs
  rw [hr]
  rfl
theorem par_new (w : World) (b h : Int) : Blk (w.alloc (.cells #[.int .i64 b, .int .i64 h] 29)) w.heap.size 29 #[.int .i64 b, .int .i64 h] := Blk.new _ _ _
set_option maxRecDepth 100000 in
set_option maxHeartbeats 8000000 in
theorem kleafs_any (s : List UInt8) (hs : s.length ≤ 1000) (n m : Nat) (hr : rgtP n m = true) (w : World) :
    Calls Tryz.prog 87 #[.agg #[.int .i64 n, .int .i64 m], .string (txt s)] w fun e w' => ∃ v, e = .returned v ∧ w'.ownsRow w.heap.size 24 32 v (2 ^ m) (idsV (upTo (lfF s n) (2 ^ m))) ∧ Below w.heap.size w w' := by
  obtain ⟨j0, hj, hjz, hjs, hjb⟩ := infoId2_parts
  have hp := rgtP_parts hr
  have hn8 : n ≤ 256 := by have := rgt_le9 hp.1; omega
  have hm8 : m ≤ 10 := by omega
  have hP : 2 ^ m ≤ 2 ^ 10 := Nat.pow_le_pow_right (by decide) hm8
  have cL := fun W => kleaves_any n m W
  rw [lvs_ok hr] at cL
  have cF : ∀ (k : Nat) (W : World), k ≤ 1024 → Calls Tryz.prog 106 #[.string (txt s), .int .i64 k, .int .i64 n] W fun e w' => e = .returned (.tuple #[.agg (idVals (lfF s n k)), .int .i64 0]) ∧ Below W.heap.size W w' := fun k W hk => leaf_any s hs k (by omega) (by omega) n hn8 hp.1 W
  generalize 2 ^ m = P at *
  have hP2 : P ≤ 1024 := hP
  have h0 := par_new w n m
  have hB0 : Below w.heap.size w (w.alloc (.cells #[.int .i64 n, .int .i64 m] 29)) := (Below.refl _ _).alloc (Nat.le_refl _) _
  clear hr hp hP
  go_enter Tryz.func87, Tryz.ntmps87
  go_wp2_with (first
    | (go_at_call 54; (with_reducible refine (cL _).mono ?_); rintro e1 w1 ⟨rfl, hb1⟩)
    | (at_make; refine wpList_make_full _ rfl _ _ 25 rfl (w.heap.size + 1) 24 j0 (.agg (idVals zeroB)) 32 Tryz.underlying25 hj hjz hjs _ _ _ _ P rfl rfl ?c0 ?c1 ?c2 ?c3 ?c4 ?_))
  case c0 => rfl
  case c1 => rfl
  case c2 => rw [hjb]; omega
  case c3 => unfold maxLen; omega
  case c4 => have := hb1.size; simpa using this
  intro w2 hown2 hg2
  have hB2 : Below w.heap.size w w2 := (hB0.trans (hb1.mono hB0.size)).grown hg2 (Nat.le_trans hB0.size hb1.size) (by intro i e; cases e)
  have hp2 : Blk w2 w.heap.size 29 #[.int .i64 n, .int .i64 m] := (hg2.block _ (by have := hb1.size; simp at this; omega) (by intro e; cases e)).trans (h0.below hb1)
  have hlt1 : w.heap.size + 1 ≤ w1.heap.size := by have := hb1.size; simpa using this
  have hm2 : MadeP w P w1.heap.size (lfF s n) 0 w2 := MadeP.start (own_mono hown2 (Nat.le_succ _)) hB2
  clear hown2 hg2 hB2 hB0 hb1 h0
  generalize w1.heap.size = g0 at *
  go_wp2
  go_loopw [12] (fun i wr => ∃ k : Nat, k ≤ P ∧ i = .int .i64 k ∧ MadeP w P g0 (lfF s n) k wr ∧ Blk wr w.heap.size 29 #[.int .i64 n, .int .i64 m]) (fun i _ => P - (intOf i).toNat)
  case atStart => exact ⟨0, by omega, rfl, hm2, hp2⟩
  case round =>
    obtain ⟨k, hk, rfl, hm, hpr⟩ := hrel
    clear hm2 hp2
    by_cases hlt : k < P
    · have b1 : (k : Int) < P := by omega
      have hio := index_own g0 P k hlt
      have p0 := hpr.cell_ (i := 0) rfl
      have cK := cF k
      obtain ⟨Z, hZ⟩ : ∃ Z, Z = lfF s n k := ⟨_, rfl⟩
      have hZL : Z.length = 32 := by rw [hZ]; exact lfF_length _ _ _
      rw [← hZ] at cK
      have HZ := hid hZ
      have HZL := hid hZL
      clear hZ hZL
      go_wp2_with (first
        | (go_at_call 106; (with_reducible refine (cK _ (by omega)).mono ?_); rintro e3 w3 ⟨rfl, hb3⟩; replace hm := hm.below hb3; replace hpr := hpr.below hb3; obtain ⟨cs, hC, hCs, hCt⟩ := hm.blk)
        | (with_reducible refine wpList_store_at rfl 24 _ _ rfl g0 (k * 32) cs (idVals Z) 24 hC rfl rfl ?d1 ?d2 (idVals_one _) ?_))
      case d1 => rw [idVals_size, HZL.out]; try exact sizeId
      case d2 => rw [idVals_size, HZL.out, hCs]; omega
      intro w4 hb4 hg4
      have hm4 := hm.put hC hCs hCt hb4 hg4 hlt HZL.out HZ.out
      have hp4 := blk_gb hpr hg4 (by omega)
      go_wp2
      go_roundw
      case rel => exact ⟨k + 1, by omega, by go_num, hm4, hp4⟩
      case measure => simp [intOf]; omega
    · obtain rfl : k = P := by omega
      have b1 : ¬ (k : Int) < k := by omega
      go_wp2
      go_ret
      exact ⟨_, rfl, hm.own (by unfold maxLen; omega) (lfF_length s n), hm.bel⟩
/-- Params and the answer's place. -/
structure ParS (w : World) (b h : Int) (W : World) : Prop where
  par : Blk W w.heap.size 29 #[.int .i64 b, .int .i64 h]
  res : ∃ zc : Array Value, Blk W (w.heap.size + 1) 24 zc ∧ zc.size = 32
  bel : Below w.heap.size w W
theorem ParS.below {w W W' : World} {b h : Int} (k : ParS w b h W) (hb : Below W.heap.size W W') : ParS w b h W' :=
  ⟨k.par.below hb, k.res.imp fun _ ⟨x, y⟩ => ⟨x.below hb, y⟩, k.bel.trans (hb.mono k.bel.size)⟩
theorem ParS.new (w : World) (b h : Int) (zc : Array Value) (hz : zc.size = 32) :
    ParS w b h ((w.alloc (.cells #[.int .i64 b, .int .i64 h] 29)).alloc (.cells zc 24)) := by
  have hk1 : (w.alloc (.cells #[.int .i64 b, .int .i64 h] 29)).heap.size = w.heap.size + 1 := by simp
  have h2 := Blk.new (w.alloc (.cells #[.int .i64 b, .int .i64 h] 29)) 24 zc
  rw [hk1] at h2
  exact ⟨(Blk.new w 29 _).alloc _, ⟨zc, h2, hz⟩, ((Below.refl _ _).alloc (Nat.le_refl _) _).alloc (by simp) _⟩
theorem ParS.put {w W W' : World} {b h : Int} {Z : List UInt8} (k : ParS w b h W) (hb : Blk W' (w.heap.size + 1) 24 (idVals Z)) (hz : Z.length = 32) (hg : W.grownBy W' (some (w.heap.size + 1))) : ParS w b h W' :=
  ⟨blk_gb k.par hg (by omega), ⟨_, hb, by rw [idVals_size, hz]⟩, k.bel.grown hg k.bel.size (by intro i e; cases e; exact Nat.le_succ _)⟩
theorem root_eq (s : List UInt8) (n m : Nat) : ndB (getB (upTo (lfF s n) (2 ^ m))) m 0 = ndB (lfF s n) m 0 :=
  ndB_congr m 0 fun _ _ h => getB_upTo _ (by omega)
end Go.Proofs.YticpdepbgcagaaaGreat

namespace Go.Proofs.YticpdepbgcagaaaGreat
open Go.RowKit Go.Qc
attribute [local go_sem] txt_size txt_append ib_fold

set_option maxRecDepth 100000 in
set_option maxHeartbeats 8000000 in
theorem rnode_zero (s : List UInt8) (hs : s.length ≤ 1000) (n m : Nat) (hn : n ≤ 256) (i : Nat) (w : World) :
    Calls Tryz.prog 39 #[.agg #[.int .i64 n, .int .i64 m], .string (txt s), .int .i64 0, .int .i64 i] w fun e w' => e = .returned (.agg (idVals (lfF s n i))) ∧ Below w.heap.size w w' := by
  have cF := fun W => rleaf_any s hs (i : Nat) n hn W
  have hSl := lfF_length s n i
  rw [show leafB s (i : Nat) n = lfF s n i from rfl] at cF
  generalize lfF s n i = S at *
  have HSL := hid hSl
  clear hSl hs hn
  go_enter Tryz.func39, Tryz.ntmps39
  go_wp2_with (fail)
  have h0 := ParS.new w n m #[.int .u8 0, .int .u8 0, .int .u8 0, .int .u8 0, .int .u8 0, .int .u8 0, .int .u8 0, .int .u8 0, .int .u8 0, .int .u8 0, .int .u8 0, .int .u8 0, .int .u8 0, .int .u8 0, .int .u8 0, .int .u8 0, .int .u8 0, .int .u8 0, .int .u8 0, .int .u8 0, .int .u8 0, .int .u8 0, .int .u8 0, .int .u8 0, .int .u8 0, .int .u8 0, .int .u8 0, .int .u8 0, .int .u8 0, .int .u8 0, .int .u8 0, .int .u8 0] rfl
  generalize (w.alloc (.cells #[.int .i64 (n : Int), .int .i64 (m : Int)] 29)).alloc (.cells _ 24) = w0 at *
  refine (cF _).mono ?_
  rintro e1 w1 ⟨rfl, hb1⟩
  have hk := h0.below hb1
  obtain ⟨zc, hzc, hzz⟩ := hk.res
  clear h0 hb1
  go_wp2_with (with_reducible refine wpList_store_blk rfl 24 _ _ rfl (w.heap.size + 1) zc (idVals S) 24 hzc rfl rfl ?c2 ?c3 (idVals_one _) ?_)
  case c2 => rw [idVals_size, HSL.out]; try exact sizeId
  case c3 => rw [idVals_size, HSL.out, hzz]
  intro w9 hb9 hg9
  go_wp2
  refine bodyPost_ret (results_cell_row rfl _ _ _ _ _ _ _ rfl hb9 Tryz.underlying24 rfl (by rw [idVals_size, HSL.out]; exact sizeId)) rfl ⟨rfl, ?_⟩
  exact hk.bel.grown hg9 hk.bel.size (by intro i e; cases e; omega)
set_option maxRecDepth 100000 in
set_option maxHeartbeats 8000000 in
set_option linter.unusedSimpArgs false in
theorem rnode_any (s : List UInt8) (hs : s.length ≤ 1000) (n m : Nat) (hn : n ≤ 256) : ∀ (j i : Nat) (w : World), j ≤ 20 → (i + 1) * 2 ^ j ≤ 1000000 →
    Calls Tryz.prog 39 #[.agg #[.int .i64 n, .int .i64 m], .string (txt s), .int .i64 j, .int .i64 i] w fun e w' => e = .returned (.agg (idVals (ndB (lfF s n) j i))) ∧ Below w.heap.size w w'
  | 0, i, w, _, _ => rnode_zero s hs n m hn i w
  | j + 1, i, w, hj, hi => by
    have hp1 : 1 ≤ 2 ^ j := Nat.one_le_two_pow
    have e : (i + 1) * 2 ^ (j + 1) = (2 * i + 1 + 1) * 2 ^ j := by rw [Nat.pow_succ, Nat.mul_comm (2 ^ j) 2, ← Nat.mul_assoc, show (i + 1) * 2 = 2 * i + 1 + 1 by omega]
    have hi2 : (2 * i + 1 + 1) * 2 ^ j ≤ 1000000 := by rw [← e]; exact hi
    have hi3 : i ≤ 1000000 := by
      have h1 : (2 * i + 1 + 1) * 1 ≤ (2 * i + 1 + 1) * 2 ^ j := Nat.mul_le_mul_left _ hp1
      omega
    have c1 := fun W => rnode_any s hs n m hn j (2 * i) W (by omega) (Nat.le_trans (Nat.mul_le_mul_right _ (by omega)) hi2)
    have c2 := fun W => rnode_any s hs n m hn j (2 * i + 1) W (by omega) hi2
    have l1 := ndB_length (lfF s n) (lfF_length s n) j (2 * i)
    have l2 := ndB_length (lfF s n) (lfF_length s n) j (2 * i + 1)
    rw [show ndB (lfF s n) (j + 1) i = nodeB (ndB (lfF s n) j (2 * i)) (ndB (lfF s n) j (2 * i + 1)) from rfl]
    generalize ndB (lfF s n) j (2 * i) = X at *
    generalize ndB (lfF s n) j (2 * i + 1) = Y at *
    have cN : ∀ W : World, Calls Tryz.prog 72 #[.string ⟨#[110, 111, 100, 101]⟩, .agg (idVals X), .agg (idVals Y)] W fun e w' => e = .returned (.agg (idVals (nodeB X Y))) ∧ Below W.heap.size W w' := fun W => rpair_any nodeN (by decide) X Y l1 l2 W
    have hZL := nodeB_length X Y
    generalize nodeB X Y = Z at *
    obtain ⟨J, hJ⟩ : ∃ J : Int, J = ((j + 1 : Nat) : Int) := ⟨_, rfl⟩
    obtain ⟨I1, hI1⟩ : ∃ I1 : Int, I1 = ((2 * i : Nat) : Int) := ⟨_, rfl⟩
    obtain ⟨I2, hI2⟩ : ∃ I2 : Int, I2 = ((2 * i + 1 : Nat) : Int) := ⟨_, rfl⟩
    rw [← hI1] at c1
    rw [← hI2] at c2
    rw [← hJ]
    have z1 : (J == 0) = false := by rw [hJ]; simp; omega
    have s1 : J - 1 = (j : Int) := by omega
    have s2 : 2 * (i : Int) = I1 := by omega
    have s3 : I1 + 1 = I2 := by omega
    have b1 : IntKind.i64.wrap (j : Int) = j := by rw [IntKind.wrap_i64]; omega
    have b2 : IntKind.i64.wrap I1 = I1 := by rw [IntKind.wrap_i64]; omega
    have b3 : IntKind.i64.wrap I2 = I2 := by rw [IntKind.wrap_i64]; omega
    have HZL := hid hZL
    clear hZL l1 l2 hs hn e hi hi2 hi3 hJ hI1 hI2 hp1 hj
    go_enter Tryz.func39, Tryz.ntmps39
    go_wp2
    have h0 := ParS.new w n m #[.int .u8 0, .int .u8 0, .int .u8 0, .int .u8 0, .int .u8 0, .int .u8 0, .int .u8 0, .int .u8 0, .int .u8 0, .int .u8 0, .int .u8 0, .int .u8 0, .int .u8 0, .int .u8 0, .int .u8 0, .int .u8 0, .int .u8 0, .int .u8 0, .int .u8 0, .int .u8 0, .int .u8 0, .int .u8 0, .int .u8 0, .int .u8 0, .int .u8 0, .int .u8 0, .int .u8 0, .int .u8 0, .int .u8 0, .int .u8 0, .int .u8 0, .int .u8 0] rfl
    generalize (w.alloc (.cells #[.int .i64 (n : Int), .int .i64 (m : Int)] 29)).alloc (.cells _ 24) = w0 at *
    refine wp_region_held_drew (S := fun W => ParS w n m W) (by kernel_rfl) ?_ (fun hHeld => ?_)
    · exact h0.below (below_drew1 _)
    refine' wpAnyH_take (i := 0) (v := .agg #[.int .i64 n, .int .i64 m]) rfl (by kernel_rfl) (by kernel_rfl) (by kernel_rfl) (fun _ _ _ h => h) (Or.inl ⟨by rfl, fun w' hw' => by have q0 := hw'.par.cell_ (i := 0) rfl; have q1 := hw'.par.cell_ (i := 1) rfl; go_simp⟩) hHeld ?_
    try simp only [Act.put, List.getElem_toArray, List.getElem_cons_succ, List.getElem_cons_zero, List.setIfInBounds_toArray, List.set_cons_zero, List.set_cons_succ]
    refine' wpAnyH_take (i := 1) (v := .string (txt s)) rfl (by kernel_rfl) (by kernel_rfl) (by kernel_rfl) (fun _ _ _ h => h) (Or.inl ⟨by rfl, fun w' hw' => by go_simp⟩) hHeld ?_
    try simp only [Act.put, List.getElem_toArray, List.getElem_cons_succ, List.getElem_cons_zero, List.setIfInBounds_toArray, List.set_cons_zero, List.set_cons_succ]
    refine' wpAnyH_take (i := 2) (v := .int .i64 J) rfl (by kernel_rfl) (by kernel_rfl) (by kernel_rfl) (fun _ _ _ h => h) (Or.inl ⟨by rfl, fun w' hw' => by go_simp⟩) hHeld ?_
    try simp only [Act.put, List.getElem_toArray, List.getElem_cons_succ, List.getElem_cons_zero, List.setIfInBounds_toArray, List.set_cons_zero, List.set_cons_succ]
    refine' wpAnyH_take (i := 3) (v := .int .i64 j) rfl (by kernel_rfl) (by kernel_rfl) (by kernel_rfl) (fun _ _ _ h => h) (Or.inl ⟨by rfl, fun w' hw' => by go_simp⟩) hHeld ?_
    try simp only [Act.put, List.getElem_toArray, List.getElem_cons_succ, List.getElem_cons_zero, List.setIfInBounds_toArray, List.set_cons_zero, List.set_cons_succ]
    refine' wpAnyH_take (i := 4) (v := .int .i64 i) rfl (by kernel_rfl) (by kernel_rfl) (by kernel_rfl) (fun _ _ _ h => h) (Or.inl ⟨by rfl, fun w' hw' => by go_simp⟩) hHeld ?_
    try simp only [Act.put, List.getElem_toArray, List.getElem_cons_succ, List.getElem_cons_zero, List.setIfInBounds_toArray, List.set_cons_zero, List.set_cons_succ]
    refine' wpAnyH_take (i := 5) (v := .int .i64 I1) rfl (by kernel_rfl) (by kernel_rfl) (by kernel_rfl) (fun _ _ _ h => h) (Or.inl ⟨by rfl, fun w' hw' => by go_simp⟩) hHeld ?_
    try simp only [Act.put, List.getElem_toArray, List.getElem_cons_succ, List.getElem_cons_zero, List.setIfInBounds_toArray, List.set_cons_zero, List.set_cons_succ]
    refine' wpAnyH_take (i := 7) (v := .agg #[.int .i64 n, .int .i64 m]) rfl (by kernel_rfl) (by kernel_rfl) (by kernel_rfl) (fun _ _ _ h => h) (Or.inl ⟨by rfl, fun w' hw' => by have q0 := hw'.par.cell_ (i := 0) rfl; have q1 := hw'.par.cell_ (i := 1) rfl; go_simp⟩) hHeld ?_
    try simp only [Act.put, List.getElem_toArray, List.getElem_cons_succ, List.getElem_cons_zero, List.setIfInBounds_toArray, List.set_cons_zero, List.set_cons_succ]
    refine' wpAnyH_take (i := 8) (v := .string (txt s)) rfl (by kernel_rfl) (by kernel_rfl) (by kernel_rfl) (fun _ _ _ h => h) (Or.inl ⟨by rfl, fun w' hw' => by go_simp⟩) hHeld ?_
    try simp only [Act.put, List.getElem_toArray, List.getElem_cons_succ, List.getElem_cons_zero, List.setIfInBounds_toArray, List.set_cons_zero, List.set_cons_succ]
    refine' wpAnyH_take (i := 9) (v := .int .i64 J) rfl (by kernel_rfl) (by kernel_rfl) (by kernel_rfl) (fun _ _ _ h => h) (Or.inl ⟨by rfl, fun w' hw' => by go_simp⟩) hHeld ?_
    try simp only [Act.put, List.getElem_toArray, List.getElem_cons_succ, List.getElem_cons_zero, List.setIfInBounds_toArray, List.set_cons_zero, List.set_cons_succ]
    refine' wpAnyH_take (i := 10) (v := .int .i64 j) rfl (by kernel_rfl) (by kernel_rfl) (by kernel_rfl) (fun _ _ _ h => h) (Or.inl ⟨by rfl, fun w' hw' => by go_simp⟩) hHeld ?_
    try simp only [Act.put, List.getElem_toArray, List.getElem_cons_succ, List.getElem_cons_zero, List.setIfInBounds_toArray, List.set_cons_zero, List.set_cons_succ]
    refine' wpAnyH_take (i := 11) (v := .int .i64 i) rfl (by kernel_rfl) (by kernel_rfl) (by kernel_rfl) (fun _ _ _ h => h) (Or.inl ⟨by rfl, fun w' hw' => by go_simp⟩) hHeld ?_
    try simp only [Act.put, List.getElem_toArray, List.getElem_cons_succ, List.getElem_cons_zero, List.setIfInBounds_toArray, List.set_cons_zero, List.set_cons_succ]
    refine' wpAnyH_take (i := 12) (v := .int .i64 I1) rfl (by kernel_rfl) (by kernel_rfl) (by kernel_rfl) (fun _ _ _ h => h) (Or.inl ⟨by rfl, fun w' hw' => by go_simp⟩) hHeld ?_
    try simp only [Act.put, List.getElem_toArray, List.getElem_cons_succ, List.getElem_cons_zero, List.setIfInBounds_toArray, List.set_cons_zero, List.set_cons_succ]
    refine' wpAnyH_take (i := 13) (v := .int .i64 I2) rfl (by kernel_rfl) (by kernel_rfl) (by kernel_rfl) (fun _ _ _ h => h) (Or.inl ⟨by rfl, fun w' hw' => by go_simp⟩) hHeld ?_
    try simp only [Act.put, List.getElem_toArray, List.getElem_cons_succ, List.getElem_cons_zero, List.setIfInBounds_toArray, List.set_cons_zero, List.set_cons_succ]
    refine wpAnyH_ready (rs := [6]) (by kernel_rfl) (by simp) ?_
    refine AllReadyH.cons rfl (fun K hK => ?_) AllReadyH.nil
    go_simp
    (with_reducible refine (c1 _).mono ?_)
    rintro e3 w3 ⟨rfl, hb3⟩
    refine hK.out _ _ (hHeld.below hb3) (fun hHeld => ?_)
    clear hK K
    try simp only [Act.put, List.getElem_toArray, List.getElem_cons_succ, List.getElem_cons_zero, List.setIfInBounds_toArray, List.set_cons_zero, List.set_cons_succ]
    refine wpAnyH_ready (rs := [14]) (by kernel_rfl) (by simp) ?_
    refine AllReadyH.cons rfl (fun K hK => ?_) AllReadyH.nil
    go_simp
    (with_reducible refine (c2 _).mono ?_)
    rintro e7 w7 ⟨rfl, hb7⟩
    refine hK.out _ _ (hHeld.below hb7) (fun hHeld => ?_)
    clear hK K
    try simp only [Act.put, List.getElem_toArray, List.getElem_cons_succ, List.getElem_cons_zero, List.setIfInBounds_toArray, List.set_cons_zero, List.set_cons_succ]
    refine wpAnyH_ready (rs := [15]) (by kernel_rfl) (by simp) ?_
    refine AllReadyH.cons rfl (fun K hK => ?_) AllReadyH.nil
    go_simp
    (with_reducible refine (cN _).mono ?_)
    rintro e8 w8 ⟨rfl, hb8⟩
    refine hK.out _ _ (hHeld.below hb8) (fun hHeld => ?_)
    clear hK K
    try simp only [Act.put, List.getElem_toArray, List.getElem_cons_succ, List.getElem_cons_zero, List.setIfInBounds_toArray, List.set_cons_zero, List.set_cons_succ]
    refine wpAnyH_ready (rs := [16]) (by kernel_rfl) (by simp) ?_
    refine AllReadyH.cons rfl (fun K hK => ?_) AllReadyH.nil
    rw [if_pos (by rfl)]
    obtain ⟨zc, hC, hCs⟩ := hHeld.res
    refine wp_store_blk 24 _ _ rfl (w.heap.size + 1) zc (idVals Z) 24 hC rfl rfl (by rw [idVals_size, HZL.out]; exact sizeId) (by rw [idVals_size, HZL.out]; exact hCs) (idVals_one _) ?_
    intro w9 hb9 hg9
    refine hK.out _ _ (hHeld.put hb9 HZL.out hg9) (fun hHeld => ?_)
    clear hK K
    try simp only [Act.put, List.getElem_toArray, List.getElem_cons_succ, List.getElem_cons_zero, List.setIfInBounds_toArray, List.set_cons_zero, List.set_cons_succ]
    refine wpAnyH_done (by kernel_rfl) ?_ _
    go_wp2
    refine bodyPost_ret (results_cell_row rfl _ _ _ _ _ _ _ rfl hb9 Tryz.underlying24 rfl (by rw [idVals_size, HZL.out]; exact sizeId)) rfl ⟨rfl, ?_⟩
    exact hHeld.bel
end Go.Proofs.YticpdepbgcagaaaGreat

namespace Go.Proofs.YticpdepbgcagaaaGreat
open Go.RowKit Go.Qc
attribute [local go_sem] txt_size txt_append ib_fold

theorem xor_fact {i : Nat} (hi : i < 32) : bits BinOp.xor IntKind.i64 (i : Int) 1 = ((besideN i : Nat) : Int) := by
  have key : ∀ j : Fin 32, bits BinOp.xor IntKind.i64 (j.val : Int) 1 = ((besideN j.val : Nat) : Int) := by decide
  exact key ⟨i, hi⟩
theorem beside_lt {i q : Nat} (h : i < 2 * q) : besideN i < 2 * q := by unfold besideN; split <;> omega
theorem div_lt_pow {L m i : Nat} (h : L < 2 ^ m) (hi : i < m) : L / 2 ^ i < 2 * 2 ^ (m - (i + 1)) := by
  rw [← pow_half hi]
  apply Nat.div_lt_of_lt_mul
  rw [← Nat.pow_add, show i + (m - i) = m by omega]
  exact h
set_option maxRecDepth 100000 in
set_option maxHeartbeats 8000000 in
theorem kway_any (s : List UInt8) (hs : s.length ≤ 1000) (n m : Nat) (hr : rgtP n m = true) (hm5 : m ≤ 5) (L : Nat) (hL : L < 2 ^ m) (w : World) :
    Calls Tryz.prog 56 #[.agg #[.int .i64 n, .int .i64 m], .string (txt s), .int .i64 L] w fun e w' => ∃ v, e = .returned (.tuple #[v, .int .i64 0]) ∧ w'.ownsRow w.heap.size 24 32 v m (idsV (upTo (wayF (lfF s n) L) m)) ∧ Below w.heap.size w w' := by
  have hu := Tryz.underlying24
  obtain ⟨j0, hj, hjz, hjs, hjb⟩ := infoId2_parts
  have cR := fun W => kright_any n m W
  rw [hr] at cR
  have cL := fun W => kleafs_any s hs n m hr W
  have cN := fun W => kleaves_any n m W
  rw [lvs_ok hr] at cN
  have h32 := upTo_32 (lfF s n) (lfF_length s n) (2 ^ m)
  have hP : 2 ^ m ≤ 2 ^ 5 := Nat.pow_le_pow_right (by decide) hm5
  have cF := fun A c W h => fold_any A c (upTo (lfF s n) (2 ^ m)) m hm5 W h
  rw [root_eq] at cF
  have hf0 := lfF_length s n
  have hrowsE : ∀ W b k vs, FoldR W b (getB (upTo (lfF s n) (2 ^ m))) m k vs → k ≤ m + 1 → FoldR W b (lfF s n) m k vs := fun W b k vs h hk => by
    refine ⟨h.1, fun j hj => ?_⟩
    obtain ⟨v, h1, h2⟩ := h.2 j hj
    refine ⟨v, h1, ?_⟩
    rw [upTo_congr (2 ^ (m - j)) (g := ndB (getB (upTo (lfF s n) (2 ^ m))) j) (fun i hi => ndB_congr j i fun x _ hx => ?_)]
    · exact h2
    · have : (i + 1) * 2 ^ j ≤ 2 ^ m := by
        have e : 2 ^ m = 2 ^ (m - j) * 2 ^ j := by rw [← Nat.pow_add, show m - j + j = m by omega]
        rw [e]
        exact Nat.mul_le_mul_right _ (by omega)
      exact (getB_upTo _ (by omega)).symm
  obtain ⟨R, hR⟩ : ∃ R, R = ndB (lfF s n) m 0 := ⟨_, rfl⟩
  have lR : R.length = 32 := by rw [hR]; exact ndB_length _ hf0 _ _
  rw [← hR] at cF
  generalize lfF s n = f at *
  have HRE := hid hrowsE
  have HDL := hid (show ∀ i, i < m → L / 2 ^ i < 2 * 2 ^ (m - (i + 1)) from fun i hi => div_lt_pow hL hi)
  have HPM := hid (show ∀ i, i < m → 2 * 2 ^ (m - (i + 1)) ≤ 32 from fun i hi => by rw [← pow_half hi]; exact Nat.le_trans (Nat.pow_le_pow_right (by decide) (by omega)) hP)
  have HLR := hid lR
  have H32 := hid h32
  have hb1 : ¬ ((L : Int) < 0) := by omega
  have hb2 : ¬ (((2 ^ m : Nat) : Int) ≤ (L : Int)) := by omega
  have hP2 : 2 ^ m ≤ 32 := hP
  generalize hLeq : upTo f (2 ^ m) = LL at *
  generalize 2 ^ m = P at *
  have hp2 := par_new w n m
  have hB0 : Below w.heap.size w (w.alloc (.cells #[.int .i64 n, .int .i64 m] 29)) := (Below.refl _ _).alloc (Nat.le_refl _) _
  have hL32 : L < 32 := by omega
  clear hrowsE hR lR h32 hs hr hP hLeq hL
  go_enter Tryz.func56, Tryz.ntmps56
  go_wp2_with (first
    | (go_at_call 24; (with_reducible refine (cR _).mono ?_); rintro e1 w1 ⟨rfl, hb3⟩; replace hp2 := hp2.below hb3; replace hB0 := hB0.trans (hb3.mono hB0.size); clear hb3; have p0 := hp2.cell_ (i := 0) rfl; have p1 := hp2.cell_ (i := 1) rfl)
    | (go_at_call 54; (with_reducible refine (cN _).mono ?_); rintro e2 w2 ⟨rfl, hb3⟩; replace hp2 := hp2.below hb3; replace hB0 := hB0.trans (hb3.mono hB0.size); clear hb3 p0 p1; have q0 := hp2.cell_ (i := 0) rfl; have q1 := hp2.cell_ (i := 1) rfl)
    | (go_at_call 87; (with_reducible refine (cL _).mono ?_); rintro e4 w4 ⟨v4, rfl, hown4, hb4⟩; obtain ⟨A4, c4, rfl, hrow4⟩ := RowAt.own hown4 H32.out (by omega); replace hp2 := hp2.below hb4; replace hB0 := hB0.trans (hb4.mono hB0.size); clear q0 q1 hb4)
    | (go_at_call 86; (with_reducible refine (cF _ _ _ hrow4.r).mono ?_); rintro e5 w5 ⟨v5, vs5, rfl, hv5, hf5, hb5⟩; obtain ⟨gr, cr, rfl, hrows⟩ := RowsF.of hm5 hf0 hv5 (HRE.out _ _ _ _ hf5 (Nat.le_refl _)); replace hp2 := hp2.below hb5; replace hB0 := hB0.trans (hb5.mono hB0.size); clear hb5 hv5 hf5)
    | ((with_reducible refine wpList_store_newid rfl _ _ rfl R HLR.out rfl rfl (by with_unfolding_all rfl) ?_); intro w6 hx6 hb6; replace hp2 := hp2.below hb6; replace hB0 := hB0.trans (hb6.mono hB0.size); replace hrows := hrows.below hb6; clear hb6 hx6; have r1 := hp2.cell_ (i := 1) rfl)
    | (at_make; refine wpList_make_full _ rfl _ _ 25 rfl (w.heap.size + 1) 24 j0 (.agg (idVals zeroB)) 32 Tryz.underlying25 hj hjz hjs _ _ _ _ m rfl rfl ?c0 ?c1 ?c2 ?c3 ?c4 ?_))
  case c0 => rfl
  case c1 => rfl
  case c2 => rw [hjb]; omega
  case c3 => unfold maxLen; omega
  case c4 => exact hp2.lt
  intro w7 hown7 hg7
  have hB7 := hB0.grown hg7 hB0.size (by intro i e; cases e)
  have hb67 : Below w6.heap.size w6 w7 := (Below.refl _ _).grown hg7 (Nat.le_refl _) (by intro i e; cases e)
  have hg0 : w.heap.size + 1 ≤ w6.heap.size := hp2.lt
  have hm7 : MadeP w m w6.heap.size (wayF f L) 0 w7 := MadeP.start (own_mono hown7 (Nat.le_succ _)) hB7
  clear hown7 hg7 hB7 hB0 hp2 r1 cR cL cN cF hrow4 hown4
  go_wp2
  go_loopw [2, 35] (fun lv iv wr => ∃ i : Nat, i ≤ m ∧ iv = .int .i64 i ∧ lv = .int .i64 (L / 2 ^ i : Nat) ∧ MadeP w m w6.heap.size (wayF f L) i wr ∧ Below w6.heap.size w6 wr) (fun _ iv _ => m - (intOf iv).toNat)
  case atStart => exact ⟨0, by omega, rfl, (by rw [Nat.pow_zero, Nat.div_one]), hm7, hb67⟩
  case round =>
    obtain ⟨i, hi, rfl, rfl, hm, hb⟩ := hrel
    clear hm7 hb67
    by_cases hlt : i < m
    · obtain ⟨A8, c8, hcell, hrow⟩ := (hrows.below hb) i (by omega)
      have hph := pow_half hlt
      rw [hph] at hcell hrow
      have hx2 := HDL.out i hlt
      have hx3 := HPM.out i hlt
      have HS := hid (div_pow_succ L i)
      have hZw : wayF f L i = ndB f i (besideN (L / 2 ^ i)) := rfl
      generalize L / 2 ^ i = x at *
      generalize 2 ^ (m - (i + 1)) = q at *
      have hxb := beside_lt hx2
      have hxor := xor_fact (i := x) (by omega)
      obtain ⟨gx, qx, hgx, lx, hix⟩ := hrow.2.2.pick c8 hrow.1 (upTo_get (ndB f i) (2 * q) (besideN x) hxb)
      rw [← hZw] at hgx lx
      obtain ⟨Z, hZ⟩ : ∃ Z, Z = wayF f L i := ⟨_, rfl⟩
      rw [← hZ] at hgx lx
      have hio := index_own w6.heap.size m i hlt
      have hzx : (Tryz.prog.info? 24).map (·.size) = some (Z.map u8v).length := by rw [List.length_map, lx]; exact sizeId
      obtain ⟨cs, hC, hCs, hCt⟩ := hm.blk
      have b1 : (i : Int) < m := by omega
      have b2 : (i : Int) < (m : Int) + 1 := by omega
      have hq : ((x : Int)).tdiv 2 = ((x / 2 : Nat) : Int) := (half_facts x).1
      have hwx : wrap64 ((x : Int) / 2) = (x : Int) / 2 := by unfold wrap64; omega
      have HZ := hid hZ
      have HZL := hid lx
      have HB := hid hxb
      clear hZ lx hZw hx2 hx3 hph hxb hrow
      generalize besideN x = y at *
      go_wp2_with (first
        | (with_reducible refine wpList_load_if (by with_unfolding_all rfl) 24 _ rfl _ _ rfl (Z.map u8v) _ hgx hu (by with_unfolding_all rfl) hzx ?_)
        | (with_reducible refine wpList_store_at rfl 24 _ _ rfl w6.heap.size (i * 32) cs (idVals Z) 24 hC rfl rfl ?d1 ?d2 (idVals_one _) ?_))
      case d1 => rw [idVals_size, HZL.out]; try exact sizeId
      case d2 => rw [idVals_size, HZL.out, hCs]; omega
      intro w9 hb9 hg9
      have hm9 := hm.put hC hCs hCt hb9 hg9 hlt HZL.out HZ.out
      have hb10 := hb.grown hg9 hb.size (by intro k e; cases e; exact Nat.le_refl _)
      go_wp2
      go_roundw
      case rel => exact ⟨i + 1, by omega, by go_num, (by rw [← HS.out]; try (first | rfl | (simp; done) | (simp; exact hwx))), hm9, hb10⟩
      case measure => simp [intOf]; omega
    · obtain rfl : i = m := by omega
      have b1 : ¬ (i : Int) < i := by omega
      generalize L / 2 ^ i = x at *
      go_wp2
      go_ret2
      exact ⟨_, rfl, hm.own (by unfold maxLen; omega) (fun b => ndB_length f hf0 _ _), hm.bel⟩
/-! ### the document's -/
set_option maxRecDepth 100000 in
set_option maxHeartbeats 8000000 in
theorem rway_any (s : List UInt8) (hs : s.length ≤ 1000) (n m : Nat) (hr : rgtP n m = true) (hm5 : m ≤ 5) (L : Nat) (hL : L < 2 ^ m) (w : World) :
    Calls Tryz.prog 47 #[.agg #[.int .i64 n, .int .i64 m], .string (txt s), .int .i64 L] w fun e w' => ∃ v, e = .returned v ∧ w'.ownsRow w.heap.size 24 32 v m (idsV (upTo (wayF (lfF s n) L) m)) ∧ Below w.heap.size w w' := by
  obtain ⟨j0, hj, hjz, hjs, hjb⟩ := infoId2_parts
  have hn8 : n ≤ 256 := by have := rgt_le9 (rgtP_parts hr).1; omega
  have cN : ∀ (j i : Nat) (W : World), j ≤ 5 → i ≤ 40 → Calls Tryz.prog 39 #[.agg #[.int .i64 n, .int .i64 m], .string (txt s), .int .i64 j, .int .i64 i] W fun e w' => e = .returned (.agg (idVals (ndB (lfF s n) j i))) ∧ Below W.heap.size W w' := fun j i W hj hi =>
    rnode_any s hs n m hn8 j i W (by omega) (Nat.le_trans (Nat.mul_le_mul (show i + 1 ≤ 41 by omega) (Nat.pow_le_pow_right (by decide) hj)) (by decide))
  have hf0 := lfF_length s n
  have HDL := hid (show ∀ i, i < m → L / 2 ^ i < 32 from fun i hi => Nat.lt_of_lt_of_le (div_lt_pow hL hi) (by rw [← pow_half hi]; exact Nat.pow_le_pow_right (by decide) (show m - i ≤ 5 by omega)))
  generalize lfF s n = f at *
  have hp2 := par_new w n m
  have hB0 : Below w.heap.size w (w.alloc (.cells #[.int .i64 n, .int .i64 m] 29)) := (Below.refl _ _).alloc (Nat.le_refl _) _
  have hk1 : (w.alloc (.cells #[.int .i64 n, .int .i64 m] 29)).heap.size = w.heap.size + 1 := by simp
  clear hr hs hn8 hL
  go_enter Tryz.func47, Tryz.ntmps47
  go_wp2
  have hown0 := World.ownsRow_made (base := w.heap.size + 1) (e := 24) (size := 32) (w.alloc (.cells #[.int .i64 (n : Int), .int .i64 (m : Int)] 29)) #[] 0 (by rw [hk1]; exact Nat.le_refl _) (by decide) rfl
  rw [hk1] at hown0
  replace hp2 := hp2.alloc (.cells #[] 24)
  replace hB0 := hB0.alloc hB0.size (.cells #[] 24)
  generalize (w.alloc (.cells #[.int .i64 (n : Int), .int .i64 (m : Int)] 29)).alloc (.cells #[] 24) = w0 at *
  have HO := hid hown0
  have HP := hid hp2
  have HB := hid hB0
  clear hown0 hp2 hB0
  go_loopw [2, 7, 8] (fun lv v iv wr => ∃ i : Nat, i ≤ m ∧ iv = .int .i64 i ∧ lv = .int .i64 (L / 2 ^ i : Nat) ∧ wr.ownsRow (w.heap.size + 1) 24 32 v i (idsV (upTo (wayF f L) i)) ∧ Blk wr w.heap.size 29 #[.int .i64 n, .int .i64 m] ∧ Below w.heap.size w wr) (fun _ _ iv _ => m - (intOf iv).toNat)
  case atStart => exact ⟨0, by omega, rfl, (by rw [Nat.pow_zero, Nat.div_one]), HO.out, HP.out, HB.out⟩
  case round =>
    obtain ⟨i, hi, rfl, rfl, hown, hpr, hb⟩ := hrel
    by_cases hlt : i < m
    · have b1 : (i : Int) < m := by omega
      have p0 := hpr.cell_ (i := 0) rfl
      have p1 := hpr.cell_ (i := 1) rfl
      have hx2 := HDL.out i hlt
      have HS := hid (div_pow_succ L i)
      have hZw : wayF f L i = ndB f i (besideN (L / 2 ^ i)) := rfl
      have hus := upTo_succ (wayF f L) i
      generalize L / 2 ^ i = x at *
      obtain ⟨hq, hrm⟩ := half_facts x
      have cX := fun y W hy => cN i y W (by omega) hy
      obtain ⟨Z, hZ⟩ : ∃ Z, Z = wayF f L i := ⟨_, rfl⟩
      have lZ : Z.length = 32 := by rw [hZ]; exact ndB_length f hf0 _ _
      rw [← hZ] at hZw hus
      have HUS := hid hus
      by_cases hx1 : x % 2 = 1
      · have hmI : ((x % 2 : Nat) : Int) = 1 := by omega
        rw [hmI] at hrm
        have hbs : besideN x = x - 1 := by unfold besideN; rw [if_pos hx1]
        rw [hbs] at hZw
        have cY := fun W => cX (x - 1) W (by omega)
        rw [← hZw, show ((x - 1 : Nat) : Int) = (x : Int) - 1 by omega] at cY
        have b4 : (1 : Int) ≤ x := by omega
        have b5 : (x : Int) ≤ 32 := by omega
        have HX := hid hx1
        clear hZ hus hmI hbs hZw cX hx1
        go_wp2_with (first
          | (go_at_call 39; (with_reducible refine (cY _).mono ?_); rintro e3 w3 ⟨rfl, hb3⟩; replace hb := hb.trans (hb3.mono hb.size); replace hown := own_below hown hb3; replace hpr := hpr.below hb3; clear p0 p1)
          | ((with_reducible refine wpList_build1 rfl _ rfl Z lZ rfl ?_); intro cs hcs)
          | (at_builtin; refine wpList_append_own _ rfl _ _ 25 rfl (w.heap.size + 1) 24 j0 (.agg (idVals zeroB)) 32 32 Tryz.underlying25 hj hjz hjs hjb rfl (by decide) _ _ _ rfl (hown.alloc _) ⟨w3.heap.size, 0, none⟩ 1 1 (Z.map u8v) rfl ?l1 hcs (u8v_one Z) ?l2 ?l3 ?l4 ?_))
        case l1 => rw [List.length_map, lZ]
        case l2 => unfold maxLen; omega
        case l3 => omega
        case l4 => have := hpr.lt; simp; omega
        intro v8 w8 hown8 hg8 _
        have hbA := hb.alloc hb.size (.cells cs 24)
        have hB8 := hbA.grown hg8 hbA.size (fun k hk => by have := (hown.lt k hk).1; omega)
        have hp8 : Blk w8 w.heap.size 29 #[.int .i64 n, .int .i64 m] := (hg8.block _ (by have := hpr.lt; simp; omega) (by intro e; have := (hown.lt _ e.symm).1; omega)).trans (hpr.alloc _)
        clear hg8 hbA
        go_wp2
        go_roundw
        case rel => exact ⟨i + 1, by omega, by go_num, (by rw [← HS.out]; try (first | rfl | simp)), (by rw [HUS.out, idsV_snoc]; exact hown8), hp8, hB8⟩
        case measure => simp [intOf]; omega
      · have hmI : ((x % 2 : Nat) : Int) = 0 := by omega
        rw [hmI] at hrm
        have hbs : besideN x = x + 1 := by unfold besideN; rw [if_neg hx1]
        rw [hbs] at hZw
        have cY := fun W => cX (x + 1) W (by omega)
        rw [← hZw, show ((x + 1 : Nat) : Int) = (x : Int) + 1 by omega] at cY
        have b5 : (x : Int) ≤ 32 := by omega
        have HX := hid hx1
        clear hZ hus hmI hbs hZw cX hx1
        go_wp2_with (first
          | (go_at_call 39; (with_reducible refine (cY _).mono ?_); rintro e3 w3 ⟨rfl, hb3⟩; replace hb := hb.trans (hb3.mono hb.size); replace hown := own_below hown hb3; replace hpr := hpr.below hb3; clear p0 p1)
          | ((with_reducible refine wpList_build1 rfl _ rfl Z lZ rfl ?_); intro cs hcs)
          | (at_builtin; refine wpList_append_own _ rfl _ _ 25 rfl (w.heap.size + 1) 24 j0 (.agg (idVals zeroB)) 32 32 Tryz.underlying25 hj hjz hjs hjb rfl (by decide) _ _ _ rfl (hown.alloc _) ⟨w3.heap.size, 0, none⟩ 1 1 (Z.map u8v) rfl ?l1 hcs (u8v_one Z) ?l2 ?l3 ?l4 ?_))
        case l1 => rw [List.length_map, lZ]
        case l2 => unfold maxLen; omega
        case l3 => omega
        case l4 => have := hpr.lt; simp; omega
        intro v8 w8 hown8 hg8 _
        have hbA := hb.alloc hb.size (.cells cs 24)
        have hB8 := hbA.grown hg8 hbA.size (fun k hk => by have := (hown.lt k hk).1; omega)
        have hp8 : Blk w8 w.heap.size 29 #[.int .i64 n, .int .i64 m] := (hg8.block _ (by have := hpr.lt; simp; omega) (by intro e; have := (hown.lt _ e.symm).1; omega)).trans (hpr.alloc _)
        clear hg8 hbA
        go_wp2
        go_roundw
        case rel => exact ⟨i + 1, by omega, by go_num, (by rw [← HS.out]; try (first | rfl | simp)), (by rw [HUS.out, idsV_snoc]; exact hown8), hp8, hB8⟩
        case measure => simp [intOf]; omega
    · obtain rfl : i = m := by omega
      have b1 : ¬ (i : Int) < i := by omega
      have p0 := hpr.cell_ (i := 0) rfl
      have p1 := hpr.cell_ (i := 1) rfl
      generalize L / 2 ^ i = x at *
      go_wp2
      go_ret
      exact ⟨_, rfl, own_mono hown (Nat.le_succ _), hb⟩
end Go.Proofs.YticpdepbgcagaaaGreat

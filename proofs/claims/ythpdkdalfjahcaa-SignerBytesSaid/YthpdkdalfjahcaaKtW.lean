
/- keytree: keys, leaves, ways; of the program and of the document. -/
import Derived.Test.YthpdkdalfjahcaaKt7
import Derived.Test.YthpdkdalfjahcaaLam7
namespace Go.Proofs.Ythpdkdalfjahcaa
open Go.RowKit Go.Qc
attribute [local go_sem] txt_size txt_append ib_fold

theorem rgt_le9 {b : Int} (h : rgt b = true) : 0 ≤ b ∧ b ≤ 256 := by
  unfold rgt at h
  rw [decide_eq_true_iff] at h
  omega
/-- "key" -/
def keyN : List UInt8 := [107, 101, 121]
def keyB (n m : Nat) (r : List UInt8) : List UInt8 := tagB keyN [nB n 2, nB m 1, r]
theorem keyB_length (n m : Nat) (r : List UInt8) : (keyB n m r).length = 32 := tagB_length _ _
theorem textB_key (a b c : List UInt8) (ha : a.length = 2) (hb : b.length = 1) (hc : c.length = 32) : (textB keyN [a, b, c]).length ≤ 1000000000000 :=
  textB_ids keyN (by decide) _ (by simp only [List.map_cons, List.map_nil, List.sum_cons, List.sum_nil, List.length_cons, List.length_nil]; omega)
theorem rd_three (w : World) (a b c : List UInt8) : Rd (w.alloc (.cells #[.string (txt a), .string (txt b), .string (txt c)] 9)) (some ⟨w.heap.size, 0, none⟩) ([a, b, c].map strV) := Rd.blk (Blk.new _ _ _) (by
  intro j u h
  rw [List.getElem?_toArray]; exact h)
/-- Params, a root, and the answer's place. -/
structure KeyS (w : World) (b h : Int) (r : List UInt8) (W : World) : Prop where
  par : Blk W w.heap.size 111 #[.int .i64 b, .int .i64 h]
  root : Blk W (w.heap.size + 1) 24 (idVals r)
  res : ∃ zc : Array Value, Blk W (w.heap.size + 1 + 1) 24 zc ∧ zc.size = 32
  bel : Below w.heap.size w W
theorem KeyS.below {w W W' : World} {b h : Int} {r : List UInt8} (k : KeyS w b h r W) (hb : Below W.heap.size W W') : KeyS w b h r W' :=
  ⟨k.par.below hb, k.root.below hb, k.res.imp fun _ ⟨x, y⟩ => ⟨x.below hb, y⟩, k.bel.trans (hb.mono k.bel.size)⟩
theorem KeyS.new (w : World) (b h : Int) (r : List UInt8) (zc : Array Value) (hz : zc.size = 32) :
    KeyS w b h r (((w.alloc (.cells #[.int .i64 b, .int .i64 h] 111)).alloc (.cells (idVals r) 24)).alloc (.cells zc 24)) := by
  have hk1 : (w.alloc (.cells #[.int .i64 b, .int .i64 h] 111)).heap.size = w.heap.size + 1 := by simp
  have hk2 : ((w.alloc (.cells #[.int .i64 b, .int .i64 h] 111)).alloc (.cells (idVals r) 24)).heap.size = w.heap.size + 1 + 1 := by simp
  have h2 := Blk.new (w.alloc (.cells #[.int .i64 b, .int .i64 h] 111)) 24 (idVals r)
  rw [hk1] at h2
  have h3 := Blk.new ((w.alloc (.cells #[.int .i64 b, .int .i64 h] 111)).alloc (.cells (idVals r) 24)) 24 zc
  rw [hk2] at h3
  exact ⟨((Blk.new w 111 _).alloc _).alloc _, h2.alloc _, ⟨zc, h3, hz⟩, (((Below.refl _ _).alloc (Nat.le_refl _) _).alloc (by simp) _).alloc (by simp; omega) _⟩
set_option maxRecDepth 100000 in
set_option maxHeartbeats 8000000 in
theorem key_any (n m : Nat) (hr : rgtP n m = true) (r : List UInt8) (hr32 : r.length = 32) (w : World) :
    Calls Try.prog 119 #[.agg #[.int .i64 n, .int .i64 m], .agg (idVals r)] w fun e w' => e = .returned (.tuple #[.agg (idVals (keyB n m r)), .int .i64 0]) ∧ Below w.heap.size w w' := by
  have hu := Try.underlying24
  obtain ⟨i0, hi, hz0, hz1, hz2⟩ := info_parts infoByte
  obtain ⟨S, hS⟩ : ∃ S, S = keyB n m r := ⟨_, rfl⟩
  have hSl : S.length = 32 := by rw [hS]; exact keyB_length _ _ _
  rw [← hS]
  have hp := rgtP_parts hr
  have hn8 : n ≤ 256 := by have := rgt_le9 hp.1; omega
  have hm8 : m ≤ 10 := by omega
  have cR := fun W => kright_any n m W
  rw [hr] at cR
  have c1 : ∀ W : World, Calls Try.prog 144 #[.int .u64 n, .int .i64 2] W fun e w' => e = .returned (.tuple #[.string (txt (nB n 2)), .bool true]) ∧ Below W.heap.size W w' := fun W => by
    rw [lv_nat n (by omega)]
    exact number_any _ 2 (by decide) (nB_fits n 2 (by omega) (by omega)) W
  have c2 : ∀ W : World, Calls Try.prog 144 #[.int .u64 m, .int .i64 1] W fun e w' => e = .returned (.tuple #[.string (txt (nB m 1)), .bool true]) ∧ Below W.heap.size W w' := fun W => by
    rw [lv_nat m (by omega)]
    exact number_any _ 1 (by decide) (nB_fits m 1 (by omega) (by omega)) W
  have hof : ∀ W A c, Rd W A ([nB n 2, nB m 1, r].map strV) → Calls Try.prog 145 #[.string ⟨#[107, 101, 121]⟩, .slice A 3 c] W fun e w' => e = .returned (.tuple #[.agg (idVals S), .int .i64 0]) ∧ Below W.heap.size W w' := fun W A c h => by
    rw [hS]
    exact of_any keyN (by decide) A 3 c _ rfl (textB_key _ _ _ (nB_length _ _) (nB_length _ _) hr32) W h
  have hs := fun W g => run_slice_whole (P := Try.prog) W 24 5 g 0 32 i0 Try.underlying24 hi hz1 (by decide)
  clear hS hp hr
  generalize nB n 2 = N1 at *
  generalize nB m 1 = N2 at *
  have HSL := hid hSl
  have HOF := hid hof
  have HR := hid hr32
  have HZ : (Try.prog.info? 24).map (·.size) = some (S.map u8v).length := by rw [List.length_map, HSL.out]; exact sizeId
  clear hof hSl hr32
  go_enter Try.func119, Try.ntmps119
  go_wp2_with (fail)
  have h0 := KeyS.new w n m r #[.int .u8 0, .int .u8 0, .int .u8 0, .int .u8 0, .int .u8 0, .int .u8 0, .int .u8 0, .int .u8 0, .int .u8 0, .int .u8 0, .int .u8 0, .int .u8 0, .int .u8 0, .int .u8 0, .int .u8 0, .int .u8 0, .int .u8 0, .int .u8 0, .int .u8 0, .int .u8 0, .int .u8 0, .int .u8 0, .int .u8 0, .int .u8 0, .int .u8 0, .int .u8 0, .int .u8 0, .int .u8 0, .int .u8 0, .int .u8 0, .int .u8 0, .int .u8 0] rfl
  generalize ((w.alloc (.cells #[.int .i64 (n : Int), .int .i64 (m : Int)] 111)).alloc (.cells (idVals r) 24)).alloc (.cells _ 24) = w0 at *
  refine (cR _).mono ?_
  rintro e1 w1 ⟨rfl, hb1⟩
  have hk := h0.below hb1
  have p0 := hk.par.cell_ (i := 0) rfl
  have p1 := hk.par.cell_ (i := 1) rfl
  clear h0 hb1
  go_wp2_with (first
    | (go_at_call 144; first
      | ((with_reducible refine (c1 _).mono ?_); rintro e2 w2 ⟨rfl, hb2⟩; replace hk := hk.below hb2; have p3 := hk.par.cell_ (i := 1) rfl; clear hb2 p0 p1)
      | ((with_reducible refine (c2 _).mono ?_); rintro e3 w3 ⟨rfl, hb3⟩; replace hk := hk.below hb3; clear hb3 p3; have hcv := run_txt w3 _ _ 5 (some ⟨w.heap.size + 1, 0, none⟩) 32 32 r Try.underlying34 Try.underlying5 Try.underlying9 HR.out.symm (rd_id hk.root); have hrd := rd_three w3 N1 N2 r; replace hk := hk.below ((Below.refl _ _).alloc (Nat.le_refl _) (.cells #[.string (txt N1), .string (txt N2), .string (txt r)] 9))))
    | (go_at_call 145; (with_reducible refine (HOF.out _ _ _ hrd).mono ?_); rintro e7 w7 ⟨rfl, hb7⟩; replace hk := hk.below hb7; obtain ⟨zc, hzc, hzz⟩ := hk.res)
    | (with_reducible refine wpList_store_blk rfl 24 _ _ rfl (w.heap.size + 1 + 1) zc (idVals S) 24 hzc rfl rfl ?c2 ?c3 (idVals_one _) ?_))
  case c2 => rw [idVals_size, HSL.out]; try exact sizeId
  case c3 => rw [idVals_size, HSL.out, hzz]
  intro w9 hb9 hg9
  go_wp2
  refine bodyPost_ret (results_cellt rfl _ _ _ _ _ _ rfl hb9 Try.underlying24 rfl (by rw [idVals_size, HSL.out]; exact sizeId)) rfl ⟨rfl, ?_⟩
  exact hk.bel.grown hg9 hk.bel.size (by intro i e; cases e; omega)
set_option maxRecDepth 100000 in
set_option maxHeartbeats 8000000 in
theorem key_no (b h : Int) (hr : rgtP b h = false) (r : List UInt8) (w : World) :
    Calls Try.prog 119 #[.agg #[.int .i64 b, .int .i64 h], .agg (idVals r)] w fun e w' => e = .returned (.tuple #[.agg (idVals zeroB), .int .i64 1]) ∧ Below w.heap.size w w' := by
  have cR := fun W => kright_any b h W
  rw [hr] at cR
  clear hr
  go_enter Try.func119, Try.ntmps119
  go_wp2_with (fail)
  have h0 := KeyS.new w b h r #[.int .u8 0, .int .u8 0, .int .u8 0, .int .u8 0, .int .u8 0, .int .u8 0, .int .u8 0, .int .u8 0, .int .u8 0, .int .u8 0, .int .u8 0, .int .u8 0, .int .u8 0, .int .u8 0, .int .u8 0, .int .u8 0, .int .u8 0, .int .u8 0, .int .u8 0, .int .u8 0, .int .u8 0, .int .u8 0, .int .u8 0, .int .u8 0, .int .u8 0, .int .u8 0, .int .u8 0, .int .u8 0, .int .u8 0, .int .u8 0, .int .u8 0, .int .u8 0] rfl
  generalize ((w.alloc (.cells #[.int .i64 b, .int .i64 h] 111)).alloc (.cells (idVals r) 24)).alloc (.cells _ 24) = w0 at *
  refine (cR _).mono ?_
  rintro e1 w1 ⟨rfl, hb1⟩
  have hk := h0.below hb1
  obtain ⟨zc, hzc, hzz⟩ := hk.res
  have HZZ := hid hzz
  clear h0 hb1 hzz
  go_wp2_with (with_reducible refine wpList_store_blk rfl 24 _ _ rfl (w.heap.size + 1 + 1) zc _ 24 hzc rfl rfl ?c2 ?c3 ?c4 ?_)
  case c2 => exact sizeId
  case c3 => rw [HZZ.out]; rfl
  case c4 => rw [← zeroB_vals]; exact idVals_one _
  intro w7 hb7 hg7
  go_wp2
  refine bodyPost_ret (results_cellt rfl _ _ _ _ _ _ rfl hb7 Try.underlying24 rfl sizeId) rfl ⟨?_, ?_⟩
  · rw [zeroB_vals]; rfl
  · exact hk.bel.grown hg7 hk.bel.size (by intro i e; cases e; omega)

/-! ### the document's -/
def lgP (b h : Int) : Bool := rgtP b h && (decide (16 < b) || decide (2 < h))
end Go.Proofs.Ythpdkdalfjahcaa

namespace Go.Proofs.Ythpdkdalfjahcaa
open Go.RowKit Go.Qc
attribute [local go_sem] txt_size txt_append ib_fold

def lfF (s : List UInt8) (n : Nat) (i : Nat) : List UInt8 := leafB s (i : Nat) n
theorem lfF_length (s : List UInt8) (n i : Nat) : (lfF s n i).length = 32 := leafB_length _ _ _
def ofB (s : List UInt8) (n m : Nat) : List UInt8 := keyB n m (ndB (lfF s n) m 0)
theorem lvs_ok {n m : Nat} (hr : rgtP n m = true) : lvs n m = 2 ^ m := by
  unfold lvs
  rw [hr]
  rfl
theorem par_new (w : World) (b h : Int) : Blk (w.alloc (.cells #[.int .i64 b, .int .i64 h] 111)) w.heap.size 111 #[.int .i64 b, .int .i64 h] := Blk.new _ _ _
/-- Params and the answer's place. -/
structure ParS (w : World) (b h : Int) (W : World) : Prop where
  par : Blk W w.heap.size 111 #[.int .i64 b, .int .i64 h]
  res : ∃ zc : Array Value, Blk W (w.heap.size + 1) 24 zc ∧ zc.size = 32
  bel : Below w.heap.size w W
theorem ParS.below {w W W' : World} {b h : Int} (k : ParS w b h W) (hb : Below W.heap.size W W') : ParS w b h W' :=
  ⟨k.par.below hb, k.res.imp fun _ ⟨x, y⟩ => ⟨x.below hb, y⟩, k.bel.trans (hb.mono k.bel.size)⟩
theorem ParS.new (w : World) (b h : Int) (zc : Array Value) (hz : zc.size = 32) :
    ParS w b h ((w.alloc (.cells #[.int .i64 b, .int .i64 h] 111)).alloc (.cells zc 24)) := by
  have hk1 : (w.alloc (.cells #[.int .i64 b, .int .i64 h] 111)).heap.size = w.heap.size + 1 := by simp
  have h2 := Blk.new (w.alloc (.cells #[.int .i64 b, .int .i64 h] 111)) 24 zc
  rw [hk1] at h2
  exact ⟨(Blk.new w 111 _).alloc _, ⟨zc, h2, hz⟩, ((Below.refl _ _).alloc (Nat.le_refl _) _).alloc (by simp) _⟩
theorem ParS.put {w W W' : World} {b h : Int} {Z : List UInt8} (k : ParS w b h W) (hb : Blk W' (w.heap.size + 1) 24 (idVals Z)) (hz : Z.length = 32) (hg : W.grownBy W' (some (w.heap.size + 1))) : ParS w b h W' :=
  ⟨blk_gb k.par hg (by omega), ⟨_, hb, by rw [idVals_size, hz]⟩, k.bel.grown hg k.bel.size (by intro i e; cases e; exact Nat.le_succ _)⟩
theorem root_eq (s : List UInt8) (n m : Nat) : ndB (getB (upTo (lfF s n) (2 ^ m))) m 0 = ndB (lfF s n) m 0 :=
  ndB_congr m 0 fun _ _ h => getB_upTo _ (by omega)
end Go.Proofs.Ythpdkdalfjahcaa

namespace Go.Proofs.Ythpdkdalfjahcaa
open Go.RowKit Go.Qc
attribute [local go_sem] txt_size txt_append ib_fold

end Go.Proofs.Ythpdkdalfjahcaa

namespace Go.Proofs.Ythpdkdalfjahcaa
open Go.RowKit Go.Qc
attribute [local go_sem] txt_size txt_append ib_fold

theorem xor_fact {i : Nat} (hi : i < 32) : bits BinOp.xor IntKind.i64 (i : Int) 1 = ((besideN i : Nat) : Int) := by
  have key : ∀ j : Fin 32, bits BinOp.xor IntKind.i64 (j.val : Int) 1 = ((besideN j.val : Nat) : Int) := by decide
  exact key ⟨i, hi⟩
theorem beside_lt {i q : Nat} (h : i < 2 * q) : besideN i < 2 * q := by unfold besideN; split <;> omega
theorem div_lt_pow {L m i : Nat} (h : L < 2 ^ m) (hi : i < m) : L / 2 ^ i < 2 * 2 ^ (m - (i + 1)) := by
  rw [← pow_half hi]
  apply Nat.div_lt_of_lt_mul
  rw [← Nat.pow_add, show i + (m - i) = m by omega]
  exact h
/-! ### the document's -/
end Go.Proofs.Ythpdkdalfjahcaa

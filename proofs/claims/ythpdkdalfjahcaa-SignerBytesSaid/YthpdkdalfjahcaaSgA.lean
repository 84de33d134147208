
/- signer: New, Sign, Next, Left, the chapter's example. -/
import Derived.Test.YthpdkdalfjahcaaKtW
namespace Go.Proofs.Ythpdkdalfjahcaa
open Go.RowKit Go.Qc
attribute [local go_sem] txt_size txt_append ib_fold

set_option maxRecDepth 100000 in
set_option maxHeartbeats 8000000 in
theorem sleafs_any (s : List UInt8) (hs : s.length ≤ 1000) (n m : Nat) (hr : rgtP n m = true) (w : World) :
    Calls Try.prog 118 #[.agg #[.int .i64 n, .int .i64 m], .string (txt s)] w fun e w' => ∃ v, e = .returned v ∧ w'.ownsRow w.heap.size 24 32 v (2 ^ m) (idsV (upTo (lfF s n) (2 ^ m))) ∧ Below w.heap.size w w' := by
  obtain ⟨j0, hj, hjz, hjs, hjb⟩ := infoId2_parts
  have hp := rgtP_parts hr
  have hn8 : n ≤ 256 := by have := rgt_le9 hp.1; omega
  have hm8 : m ≤ 10 := by omega
  have hP : 2 ^ m ≤ 2 ^ 10 := Nat.pow_le_pow_right (by decide) hm8
  have cL := fun W => kleaves_any n m W
  rw [lvs_ok hr] at cL
  have cF : ∀ (k : Nat) (W : World), k ≤ 1024 → Calls Try.prog 143 #[.string (txt s), .int .i64 k, .int .i64 n] W fun e w' => e = .returned (.tuple #[.agg (idVals (lfF s n k)), .int .i64 0]) ∧ Below W.heap.size W w' := fun k W hk => leaf_any s hs k (by omega) (by omega) n hn8 hp.1 W
  generalize 2 ^ m = P at *
  have hP2 : P ≤ 1024 := hP
  have h0 := par_new w n m
  have hB0 : Below w.heap.size w (w.alloc (.cells #[.int .i64 n, .int .i64 m] 111)) := (Below.refl _ _).alloc (Nat.le_refl _) _
  clear hr hp hP
  go_enter Try.func118, Try.ntmps118
  go_wp2_with (first
    | (go_at_call 116; (with_reducible refine (cL _).mono ?_); rintro e1 w1 ⟨rfl, hb1⟩)
    | (at_make; refine wpList_make_full _ rfl _ _ 22 rfl (w.heap.size + 1) 24 j0 (.agg (idVals zeroB)) 32 Try.underlying22 hj hjz hjs _ _ _ _ P rfl rfl ?c0 ?c1 ?c2 ?c3 ?c4 ?_))
  case c0 => rfl
  case c1 => rfl
  case c2 => rw [hjb]; omega
  case c3 => unfold maxLen; omega
  case c4 => have := hb1.size; simpa using this
  intro w2 hown2 hg2
  have hB2 : Below w.heap.size w w2 := (hB0.trans (hb1.mono hB0.size)).grown hg2 (Nat.le_trans hB0.size hb1.size) (by intro i e; cases e)
  have hp2 : Blk w2 w.heap.size 111 #[.int .i64 n, .int .i64 m] := (hg2.block _ (by have := hb1.size; simp at this; omega) (by intro e; cases e)).trans (h0.below hb1)
  have hlt1 : w.heap.size + 1 ≤ w1.heap.size := by have := hb1.size; simpa using this
  have hm2 : MadeP w P w1.heap.size (lfF s n) 0 w2 := MadeP.start (own_mono hown2 (Nat.le_succ _)) hB2
  clear hown2 hg2 hB2 hB0 hb1 h0
  generalize w1.heap.size = g0 at *
  go_wp2
  go_loopw [12] (fun i wr => ∃ k : Nat, k ≤ P ∧ i = .int .i64 k ∧ MadeP w P g0 (lfF s n) k wr ∧ Blk wr w.heap.size 111 #[.int .i64 n, .int .i64 m]) (fun i _ => P - (intOf i).toNat)
  case atStart => exact ⟨0, by omega, rfl, hm2, hp2⟩
  case round =>
    obtain ⟨k, hk, rfl, hm, hpr⟩ := hrel
    clear hm2 hp2
    by_cases hlt : k < P
    · have b1 : (k : Int) < P := by omega
      have hio := index_own g0 P k hlt
      have p0 := hpr.cell_ (i := 0) rfl
      have cK := cF k
      obtain ⟨Z, hZ⟩ : ∃ Z, Z = lfF s n k := ⟨_, rfl⟩
      have hZL : Z.length = 32 := by rw [hZ]; exact lfF_length _ _ _
      rw [← hZ] at cK
      have HZ := hid hZ
      have HZL := hid hZL
      clear hZ hZL
      go_wp2_with (first
        | (go_at_call 143; (with_reducible refine (cK _ (by omega)).mono ?_); rintro e3 w3 ⟨rfl, hb3⟩; replace hm := hm.below hb3; replace hpr := hpr.below hb3; obtain ⟨cs, hC, hCs, hCt⟩ := hm.blk)
        | (with_reducible refine wpList_store_at rfl 24 _ _ rfl g0 (k * 32) cs (idVals Z) 24 hC rfl rfl ?d1 ?d2 (idVals_one _) ?_))
      case d1 => rw [idVals_size, HZL.out]; try exact sizeId
      case d2 => rw [idVals_size, HZL.out, hCs]; omega
      intro w4 hb4 hg4
      have hm4 := hm.put hC hCs hCt hb4 hg4 hlt HZL.out HZ.out
      have hp4 := blk_gb hpr hg4 (by omega)
      go_wp2
      go_roundw
      case rel => exact ⟨k + 1, by omega, by go_num, hm4, hp4⟩
      case measure => simp [intOf]; omega
    · obtain rfl : k = P := by omega
      have b1 : ¬ (k : Int) < k := by omega
      go_wp2
      go_ret
      exact ⟨_, rfl, hm.own (by unfold maxLen; omega) (lfF_length s n), hm.bel⟩

/-! ### a signer's cells -/
def sgC (n m : Nat) (s K : List UInt8) (nx : Int) (v : Value) : Array Value := #[.int .i64 n, .int .i64 m, .string (txt s)] ++ idVals K ++ #[.int .i64 nx, v]
theorem sgC_size (n m : Nat) (s K : List UInt8) (nx : Int) (v : Value) (hK : K.length = 32) : (sgC n m s K nx v).size = 37 := by
  unfold sgC; simp [idVals_size, hK]
theorem sgC_0 (n m : Nat) (s K : List UInt8) (nx : Int) (v : Value) : (sgC n m s K nx v)[0]? = some (.int .i64 n) := by
  unfold sgC; rw [Array.getElem?_append_left (by simp; omega), Array.getElem?_append_left (by simp)]; rfl
theorem sgC_1 (n m : Nat) (s K : List UInt8) (nx : Int) (v : Value) : (sgC n m s K nx v)[1]? = some (.int .i64 m) := by
  unfold sgC; rw [Array.getElem?_append_left (by simp; omega), Array.getElem?_append_left (by simp)]; rfl
theorem sgC_2 (n m : Nat) (s K : List UInt8) (nx : Int) (v : Value) : (sgC n m s K nx v)[2]? = some (.string (txt s)) := by
  unfold sgC; rw [Array.getElem?_append_left (by simp; omega), Array.getElem?_append_left (by simp)]; rfl
theorem sgC_35 (n m : Nat) (s K : List UInt8) (nx : Int) (v : Value) (hK : K.length = 32) : (sgC n m s K nx v)[35]? = some (.int .i64 nx) := by
  unfold sgC; rw [Array.getElem?_append_right (by simp [idVals_size, hK])]; simp [idVals_size, hK]
theorem sgC_36 (n m : Nat) (s K : List UInt8) (nx : Int) (v : Value) (hK : K.length = 32) : (sgC n m s K nx v)[36]? = some v := by
  unfold sgC; rw [Array.getElem?_append_right (by simp [idVals_size, hK])]; simp [idVals_size, hK]
theorem sgC_key (n m : Nat) (s K : List UInt8) (nx : Int) (v : Value) (j : Nat) (u : Value) (h : (K.map u8v)[j]? = some u) : (sgC n m s K nx v)[3 + j]? = some u := by
  have hlt := (List.getElem?_eq_some_iff.1 h).1
  rw [List.length_map] at hlt
  unfold sgC
  rw [Array.getElem?_append_left (by simp [idVals_size]; omega), Array.getElem?_append_right (by simp)]
  unfold idVals
  simpa using h
theorem sgC_next (n m : Nat) (s K : List UInt8) (nx ny : Int) (v : Value) (hK : K.length = 32) : (sgC n m s K nx v).setIfInBounds 35 (.int .i64 ny) = sgC n m s K ny v := by
  apply Array.ext_getElem?
  intro i
  rw [Array.getElem?_setIfInBounds, sgC_size _ _ _ _ _ _ hK]
  by_cases h : 35 = i
  · subst h
    rw [if_pos rfl, if_pos (by decide), sgC_35 _ _ _ _ _ _ hK]
  · rw [if_neg h]
    unfold sgC
    have hsz : (#[Value.int .i64 (n : Int), .int .i64 m, .string (txt s)] ++ idVals K).size = 35 := by simp [idVals_size, hK]
    by_cases h2 : i < 35
    · have a : ∀ z : Array Value, (#[Value.int .i64 (n : Int), .int .i64 m, .string (txt s)] ++ idVals K ++ z)[i]? = (#[Value.int .i64 (n : Int), .int .i64 m, .string (txt s)] ++ idVals K)[i]? := fun z => Array.getElem?_append_left (by rw [hsz]; exact h2)
      rw [a, a]
    · have a : ∀ z : Array Value, (#[Value.int .i64 (n : Int), .int .i64 m, .string (txt s)] ++ idVals K ++ z)[i]? = z[i - 35]? := fun z => by rw [Array.getElem?_append_right (by rw [hsz]; omega), hsz]
      rw [a, a]
      obtain ⟨j, rfl⟩ : ∃ j, i = 36 + j := ⟨i - 36, by omega⟩
      rw [show 36 + j - 35 = j + 1 by omega]
      rfl
theorem list32 (K : List UInt8) (h : K.length = 32) : ∃ x0 x1 x2 x3 x4 x5 x6 x7 x8 x9 x10 x11 x12 x13 x14 x15 x16 x17 x18 x19 x20 x21 x22 x23 x24 x25 x26 x27 x28 x29 x30 x31, K = [x0, x1, x2, x3, x4, x5, x6, x7, x8, x9, x10, x11, x12, x13, x14, x15, x16, x17, x18, x19, x20, x21, x22, x23, x24, x25, x26, x27, x28, x29, x30, x31] := by
  match K, h with
  | [x0, x1, x2, x3, x4, x5, x6, x7, x8, x9, x10, x11, x12, x13, x14, x15, x16, x17, x18, x19, x20, x21, x22, x23, x24, x25, x26, x27, x28, x29, x30, x31], _ => exact ⟨_, _, _, _, _, _, _, _, _, _, _, _, _, _, _, _, _, _, _, _, _, _, _, _, _, _, _, _, _, _, _, _, rfl⟩
set_option maxRecDepth 100000 in
set_option maxHeartbeats 8000000 in
theorem build_signer (n m : Nat) (s K : List UInt8) (nx : Int) (A : Option Addr) (k c : Nat) (hK : K.length = 32) (W : World) :
    (Instr.build 151 #[(0, .agg #[.int .i64 n, .int .i64 m]), (1, .string (txt s)), (2, .agg (List.map u8v K).toArray), (3, .int .i64 nx), (4, .slice A k c)]).run Try.prog W = .ok (.agg (sgC n m s K nx (.slice A k c))) W := by
  obtain ⟨x0, x1, x2, x3, x4, x5, x6, x7, x8, x9, x10, x11, x12, x13, x14, x15, x16, x17, x18, x19, x20, x21, x22, x23, x24, x25, x26, x27, x28, x29, x30, x31, rfl⟩ := list32 K hK
  kernel_rfl
end Go.Proofs.Ythpdkdalfjahcaa

namespace Go.Proofs.Ythpdkdalfjahcaa
open Go.RowKit Go.Qc
attribute [local go_sem] txt_size txt_append ib_fold

/-- A signer at block g, its key's tree at block gr, which is older. -/
structure SgS (W : World) (g gr cr n m : Nat) (s : List UInt8) (nx : Nat) : Prop where
  blk : Blk W g 151 (sgC n m s (ofB s n m) nx (.slice (some ⟨gr, 0, none⟩) (m + 1) cr))
  old : ∃ V : World, RowsF V gr (lfF s n) m ∧ Below V.heap.size V W ∧ V.heap.size ≤ g
theorem SgS.below {W W' : World} {g gr cr n m : Nat} {s : List UInt8} {nx : Nat} (h : SgS W g gr cr n m s nx) (hb : Below W.heap.size W W') : SgS W' g gr cr n m s nx :=
  ⟨h.blk.below hb, h.old.imp fun _ ⟨x, y, z⟩ => ⟨x, y.trans (hb.mono y.size), z⟩⟩
theorem SgS.rows {W : World} {g gr cr n m : Nat} {s : List UInt8} {nx : Nat} (h : SgS W g gr cr n m s nx) : RowsF W gr (lfF s n) m := by
  obtain ⟨V, x, y, _⟩ := h.old
  exact x.below y
theorem ofB_length (s : List UInt8) (n m : Nat) : (ofB s n m).length = 32 := keyB_length _ _ _
theorem fold_lf {W : World} {b n m k : Nat} {s : List UInt8} {vs : List Value} (h : FoldR W b (getB (upTo (lfF s n) (2 ^ m))) m k vs) (hk : k ≤ m + 1) : FoldR W b (lfF s n) m k vs := by
  refine ⟨h.1, fun j hj => ?_⟩
  obtain ⟨v, h1, h2⟩ := h.2 j hj
  refine ⟨v, h1, ?_⟩
  rw [upTo_congr (2 ^ (m - j)) (g := ndB (getB (upTo (lfF s n) (2 ^ m))) j) (fun i hi => ndB_congr j i fun x _ hx => ?_)]
  · exact h2
  · have : (i + 1) * 2 ^ j ≤ 2 ^ m := by
      have e : 2 ^ m = 2 ^ (m - j) * 2 ^ j := by rw [← Nat.pow_add, show m - j + j = m by omega]
      rw [e]
      exact Nat.mul_le_mul_right _ (by omega)
    exact (getB_upTo _ (by omega)).symm
theorem wpList_build_sg {w : World} {ops : Array Oper} {rest : List Oper} {o : Oper} {a : Act} {Q : Exit → Act → World → Prop} (hgd : o.guard = none) (parts : Array (Nat × Operand)) (ho : o.op = .build 151 parts)
    (n m : Nat) (s K : List UInt8) (nx : Int) (A : Option Addr) (k c : Nat) (hK : K.length = 32)
    (hp : (parts.map fun (i, x) => (i, a.eval x)) = #[(0, .agg #[.int .i64 n, .int .i64 m]), (1, .string (txt s)), (2, .agg (List.map u8v K).toArray), (3, .int .i64 nx), (4, .slice A k c)])
    (h : wpList Try.prog ops Q rest (a.put o.dst (.agg (sgC n m s K nx (.slice A k c)))) w) : wpList Try.prog ops Q (o :: rest) a w := by
  refine wpList_plain hgd fun K' hK' => ?_
  have hr := build_signer n m s K nx A k c hK w
  rw [← hp] at hr
  unfold Oper.wp
  simp only [execOp, ho]
  simp only [Sem.run_bind, hr, Result.andThen, Sem.run_pure]
  exact hK' _ _ h
set_option maxRecDepth 100000 in
set_option maxHeartbeats 8000000 in
theorem snew_any (s : List UInt8) (hs : s.length ≤ 1000) (n m : Nat) (hr : rgtP n m = true) (hm5 : m ≤ 5) (nx : Nat) (hx : nx ≤ 2 ^ m) (w : World) :
    Calls Try.prog 90 #[.agg #[.int .i64 n, .int .i64 m], .string (txt s), .int .i64 nx] w fun e w' => ∃ g gr cr, e = .returned (.tuple #[.pointer (some ⟨g, 0, none⟩), .int .i64 0]) ∧ SgS w' g gr cr n m s nx ∧ w.heap.size ≤ g ∧ Below w.heap.size w w' := by
  have hu := Try.underlying24
  have cR := fun W => kright_any n m W
  rw [hr] at cR
  have cL := fun W => sleafs_any s hs n m hr W
  have cN := fun W => kleaves_any n m W
  rw [lvs_ok hr] at cN
  have h32 := upTo_32 (lfF s n) (lfF_length s n) (2 ^ m)
  have hP : 2 ^ m ≤ 2 ^ 5 := Nat.pow_le_pow_right (by decide) hm5
  have cF : ∀ A c W, RowR W A (2 ^ m) (upTo (lfF s n) (2 ^ m)) → Calls Try.prog 117 #[.slice A (2 ^ m) c] W fun e w' => ∃ gr cr, e = .returned (.tuple #[.agg (idVals (ndB (lfF s n) m 0)), .slice (some ⟨gr, 0, none⟩) (m + 1) cr]) ∧ RowsF w' gr (lfF s n) m ∧ Below W.heap.size W w' := fun A c W h => by
    refine (fold_any A c (upTo (lfF s n) (2 ^ m)) m hm5 W h).mono ?_
    rintro e w' ⟨v, vs, rfl, h1, h2, h3⟩
    obtain ⟨gr, cr, rfl, h4⟩ := RowsF.of hm5 (lfF_length s n) h1 (fold_lf h2 (Nat.le_refl _))
    exact ⟨gr, cr, by rw [root_eq], h4, h3⟩
  have lR := ndB_length (lfF s n) (lfF_length s n) m 0
  have cK : ∀ W : World, Calls Try.prog 119 #[.agg #[.int .i64 n, .int .i64 m], .agg (List.map u8v (ndB (lfF s n) m 0)).toArray] W fun e w' => e = .returned (.tuple #[.agg (idVals (ofB s n m)), .int .i64 0]) ∧ Below W.heap.size W w' := fun W => key_any n m hr _ lR W
  have lT := ofB_length s n m
  obtain ⟨T, hT⟩ : ∃ T, T = ofB s n m := ⟨_, rfl⟩
  rw [← hT] at cK lT
  generalize ndB (lfF s n) m 0 = R at *
  have hzR : (Try.prog.info? 24).map (·.size) = some (R.map u8v).length := by rw [List.length_map, lR]; exact sizeId
  have hzT : (Try.prog.info? 24).map (·.size) = some (T.map u8v).length := by rw [List.length_map, lT]; exact sizeId
  have HLR := hid lR
  have HLT := hid lT
  have H32 := hid h32
  have HT := hid hT
  have hb1 : ¬ ((nx : Int) < 0) := by omega
  have zd : decide ((nx : Int) < 0) = false := decide_eq_false hb1
  have hb2 : ¬ (((2 ^ m : Nat) : Int) < (nx : Int)) := by omega
  have hP2 : 2 ^ m ≤ 32 := hP
  generalize upTo (lfF s n) (2 ^ m) = LL at *
  generalize 2 ^ m = P at *
  have hp2 := par_new w n m
  have hB0 : Below w.heap.size w (w.alloc (.cells #[.int .i64 n, .int .i64 m] 111)) := (Below.refl _ _).alloc (Nat.le_refl _) _
  clear lR lT h32 hT hs hr hP hx
  go_enter Try.func90, Try.ntmps90
  go_wp2_with (first
    | (go_at_call 115; (with_reducible refine (cR _).mono ?_); rintro e1 w1 ⟨rfl, hb3⟩; replace hp2 := hp2.below hb3; replace hB0 := hB0.trans (hb3.mono hB0.size); clear hb3; have p0 := hp2.cell_ (i := 0) rfl; have p1 := hp2.cell_ (i := 1) rfl)
    | (go_at_call 116; (with_reducible refine (cN _).mono ?_); rintro e2 w2 ⟨rfl, hb3⟩; replace hp2 := hp2.below hb3; replace hB0 := hB0.trans (hb3.mono hB0.size); clear hb3 p0 p1; have q0 := hp2.cell_ (i := 0) rfl; have q1 := hp2.cell_ (i := 1) rfl)
    | (go_at_call 118; (with_reducible refine (cL _).mono ?_); rintro e4 w4 ⟨v4, rfl, hown4, hb4⟩; obtain ⟨A4, c4, rfl, hrow4⟩ := RowAt.own hown4 H32.out (by omega); replace hp2 := hp2.below hb4; replace hB0 := hB0.trans (hb4.mono hB0.size); clear q0 q1 hb4)
    | (go_at_call 117; (with_reducible refine (cF _ _ _ hrow4.r).mono ?_); rintro e5 w5 ⟨gr, cr, rfl, hrows, hb5⟩; replace hp2 := hp2.below hb5; replace hB0 := hB0.trans (hb5.mono hB0.size); clear hb5)
    | ((with_reducible refine wpList_store_newid rfl _ _ rfl R HLR.out rfl rfl (by with_unfolding_all rfl) ?_); intro w6 hx6 hb6; replace hp2 := hp2.below hb6; replace hB0 := hB0.trans (hb6.mono hB0.size); replace hrows := hrows.below hb6; clear hb6; have r0 := hp2.cell_ (i := 0) rfl; have r1 := hp2.cell_ (i := 1) rfl)
    | (with_reducible refine wpList_load_if (by with_unfolding_all rfl) 24 _ rfl _ _ rfl (R.map u8v) _ hx6 hu (by with_unfolding_all rfl) hzR ?_)
    | (go_at_call 119; (with_reducible refine (cK _).mono ?_); rintro e7 w7 ⟨rfl, hb7⟩; replace hp2 := hp2.below hb7; replace hB0 := hB0.trans (hb7.mono hB0.size); replace hrows := hrows.below hb7; clear hb7 hx6 r0 r1)
    | ((with_reducible refine wpList_store_newid rfl _ _ rfl T HLT.out rfl rfl (by with_unfolding_all rfl) ?_); intro w8 hx8 hb8; replace hp2 := hp2.below hb8; replace hB0 := hB0.trans (hb8.mono hB0.size); replace hrows := hrows.below hb8; clear hb8; have t0 := hp2.cell_ (i := 0) rfl; have t1 := hp2.cell_ (i := 1) rfl)
    | (with_reducible refine wpList_load_if (by with_unfolding_all rfl) 24 _ rfl _ _ rfl (T.map u8v) _ hx8 hu (by with_unfolding_all rfl) hzT ?_)
    | (with_reducible refine wpList_build_sg rfl _ rfl n m s T nx (some ⟨gr, 0, none⟩) (m + 1) cr HLT.out (by with_unfolding_all rfl) ?_))
  all_goals
    go_ret2
    refine ⟨_, gr, cr, rfl, ⟨?_, w8, hrows, (Below.refl _ _).alloc (Nat.le_refl _) _, Nat.le_refl _⟩, Nat.le_trans (Nat.le_of_lt hp2.lt) (Nat.le_refl _), hB0.alloc hB0.size _⟩
    rw [← HT.out]
    exact Blk.new _ _ _
set_option maxRecDepth 100000 in
set_option maxHeartbeats 8000000 in
theorem snew_arg (s : List UInt8) (b h : Int) (hr : rgtP b h = false) (nx : Int) (w : World) :
    Calls Try.prog 90 #[.agg #[.int .i64 b, .int .i64 h], .string (txt s), .int .i64 nx] w fun e w' => e = .returned (.tuple #[.pointer none, .int .i64 1]) ∧ Below w.heap.size w w' := by
  have cR := fun W => kright_any b h W
  rw [hr] at cR
  have hB : ∀ o, Below w.heap.size w (w.alloc o) := fun o => (Below.refl _ _).alloc (Nat.le_refl _) o
  clear hr
  go_enter Try.func90, Try.ntmps90
  go_wp2_with (first
    | (go_at_call 115; (with_reducible refine (cR _).mono ?_); rintro e1 w1 ⟨rfl, hb3⟩))
  go_ret2
  exact ⟨rfl, (hB _).trans (hb3.mono (hB _).size)⟩
set_option maxRecDepth 100000 in
set_option maxHeartbeats 8000000 in
theorem snew_range (s : List UInt8) (n m : Nat) (hr : rgtP n m = true) (L : Int) (hL : L < 0 ∨ ((2 ^ m : Nat) : Int) < L) (w : World) :
    Calls Try.prog 90 #[.agg #[.int .i64 n, .int .i64 m], .string (txt s), .int .i64 L] w fun e w' => e = .returned (.tuple #[.pointer none, .int .i64 5]) ∧ Below w.heap.size w w' := by
  have cR := fun W => kright_any n m W
  rw [hr] at cR
  have cN := fun W => kleaves_any n m W
  rw [lvs_ok hr] at cN
  have hp2 := par_new w n m
  have hB0 : Below w.heap.size w (w.alloc (.cells #[.int .i64 n, .int .i64 m] 111)) := (Below.refl _ _).alloc (Nat.le_refl _) _
  generalize 2 ^ m = P at *
  clear hr
  by_cases h0 : L < 0
  · go_enter Try.func90, Try.ntmps90
    go_wp2_with (first
      | (go_at_call 115; (with_reducible refine (cR _).mono ?_); rintro e1 w1 ⟨rfl, hb3⟩; replace hp2 := hp2.below hb3; replace hB0 := hB0.trans (hb3.mono hB0.size); have p0 := hp2.cell_ (i := 0) rfl; have p1 := hp2.cell_ (i := 1) rfl)
      | (go_at_call 116; (with_reducible refine (cN _).mono ?_); rintro e2 w2 ⟨rfl, hb4⟩; replace hB0 := hB0.trans (hb4.mono hB0.size)))
    go_ret2
    exact ⟨rfl, hB0⟩
  · have h1 : (P : Int) < L := by omega
    have z0 : decide (L < 0) = false := decide_eq_false h0
    clear hL
    go_enter Try.func90, Try.ntmps90
    go_wp2_with (first
      | (go_at_call 115; (with_reducible refine (cR _).mono ?_); rintro e1 w1 ⟨rfl, hb3⟩; replace hp2 := hp2.below hb3; replace hB0 := hB0.trans (hb3.mono hB0.size); have p0 := hp2.cell_ (i := 0) rfl; have p1 := hp2.cell_ (i := 1) rfl)
      | (go_at_call 116; (with_reducible refine (cN _).mono ?_); rintro e2 w2 ⟨rfl, hb4⟩; replace hB0 := hB0.trans (hb4.mono hB0.size)))
    go_ret2
    exact ⟨rfl, hB0⟩
end Go.Proofs.Ythpdkdalfjahcaa

namespace Go.Proofs.Ythpdkdalfjahcaa
open Go.RowKit Go.Qc
attribute [local go_sem] txt_size txt_append ib_fold

theorem SgS.c0 {W : World} {g gr cr n m : Nat} {s : List UInt8} {nx : Nat} (h : SgS W g gr cr n m s nx) : W.cell? ⟨g, 0, none⟩ = some (.int .i64 n) := h.blk.cell_ (sgC_0 _ _ _ _ _ _)
theorem SgS.c1 {W : World} {g gr cr n m : Nat} {s : List UInt8} {nx : Nat} (h : SgS W g gr cr n m s nx) : W.cell? ⟨g, 1, none⟩ = some (.int .i64 m) := h.blk.cell_ (sgC_1 _ _ _ _ _ _)
theorem SgS.c2 {W : World} {g gr cr n m : Nat} {s : List UInt8} {nx : Nat} (h : SgS W g gr cr n m s nx) : W.cell? ⟨g, 2, none⟩ = some (.string (txt s)) := h.blk.cell_ (sgC_2 _ _ _ _ _ _)
theorem SgS.c35 {W : World} {g gr cr n m : Nat} {s : List UInt8} {nx : Nat} (h : SgS W g gr cr n m s nx) : W.cell? ⟨g, 35, none⟩ = some (.int .i64 nx) := h.blk.cell_ (sgC_35 _ _ _ _ _ _ (ofB_length _ _ _))
theorem SgS.c36 {W : World} {g gr cr n m : Nat} {s : List UInt8} {nx : Nat} (h : SgS W g gr cr n m s nx) : W.cell? ⟨g, 36, none⟩ = some (.slice (some ⟨gr, 0, none⟩) (m + 1) cr) := h.blk.cell_ (sgC_36 _ _ _ _ _ _ (ofB_length _ _ _))
set_option maxRecDepth 100000 in
set_option maxHeartbeats 8000000 in
theorem sway_any (g gr cr : Nat) (s : List UInt8) (n m : Nat) (hm5 : m ≤ 5) (nx L : Nat) (hL : L < 2 ^ m) (w : World) (hS : SgS w g gr cr n m s nx) :
    Calls Try.prog 121 #[.pointer (some ⟨g, 0, none⟩), .int .i64 L] w fun e w' => ∃ v, e = .returned v ∧ w'.ownsRow w.heap.size 24 32 v m (idsV (upTo (wayF (lfF s n) L) m)) ∧ Below w.heap.size w w' := by
  have hu := Try.underlying24
  obtain ⟨j0, hj, hjz, hjs, hjb⟩ := infoId2_parts
  have hf0 := lfF_length s n
  have hP : 2 ^ m ≤ 2 ^ 5 := Nat.pow_le_pow_right (by decide) hm5
  have HDL := hid (show ∀ i, i < m → L / 2 ^ i < 2 * 2 ^ (m - (i + 1)) from fun i hi => div_lt_pow hL hi)
  have HPM := hid (show ∀ i, i < m → 2 * 2 ^ (m - (i + 1)) ≤ 32 from fun i hi => by rw [← pow_half hi]; exact Nat.le_trans (Nat.pow_le_pow_right (by decide) (by omega)) hP)
  have hrows := hS.rows
  have s1 := hS.c1
  have hg36 : ∀ W, Below w.heap.size w W → W.cell? ⟨g, 36, none⟩ = some (.slice (some ⟨gr, 0, none⟩) (m + 1) cr) := fun W h => Below.keep h hS.c36
  generalize lfF s n = f at *
  clear hP hS hL
  go_enter Try.func121, Try.ntmps121
  go_wp2_with (at_make; refine wpList_make_full _ rfl _ _ 22 rfl w.heap.size 24 j0 (.agg (idVals zeroB)) 32 Try.underlying22 hj hjz hjs _ _ _ _ m rfl rfl ?c0 ?c1 ?c2 ?c3 (Nat.le_refl _) ?_)
  case c0 => rfl
  case c1 => rfl
  case c2 => rw [hjb]; omega
  case c3 => unfold maxLen; omega
  intro w7 hown7 hg7
  have hB7 : Below w.heap.size w w7 := (Below.refl _ w).grown hg7 (Nat.le_refl _) (by intro i e; cases e)
  have hm7 : MadeP w m w.heap.size (wayF f L) 0 w7 := MadeP.start hown7 hB7
  clear hown7 hg7 s1
  go_wp2
  go_loopw [1, 15] (fun lv iv wr => ∃ i : Nat, i ≤ m ∧ iv = .int .i64 i ∧ lv = .int .i64 (L / 2 ^ i : Nat) ∧ MadeP w m w.heap.size (wayF f L) i wr) (fun _ iv _ => m - (intOf iv).toNat)
  case atStart => exact ⟨0, by omega, rfl, (by rw [Nat.pow_zero, Nat.div_one]), hm7⟩
  case round =>
    obtain ⟨i, hi, rfl, rfl, hm⟩ := hrel
    clear hm7 hB7
    by_cases hlt : i < m
    · have s36 := hg36 wr hm.bel
      obtain ⟨A8, c8, hcell, hrow⟩ := (hrows.below hm.bel) i (by omega)
      have hph := pow_half hlt
      rw [hph] at hcell hrow
      have hx2 := HDL.out i hlt
      have hx3 := HPM.out i hlt
      have HS := hid (div_pow_succ L i)
      have hZw : wayF f L i = ndB f i (besideN (L / 2 ^ i)) := rfl
      generalize L / 2 ^ i = x at *
      generalize 2 ^ (m - (i + 1)) = q at *
      have hxb := beside_lt hx2
      have hxor := xor_fact (i := x) (by omega)
      obtain ⟨gx, qx, hgx, lx, hix⟩ := hrow.2.2.pick c8 hrow.1 (upTo_get (ndB f i) (2 * q) (besideN x) hxb)
      rw [← hZw] at hgx lx
      obtain ⟨Z, hZ⟩ : ∃ Z, Z = wayF f L i := ⟨_, rfl⟩
      rw [← hZ] at hgx lx
      have hio := index_own w.heap.size m i hlt
      have hzx : (Try.prog.info? 24).map (·.size) = some (Z.map u8v).length := by rw [List.length_map, lx]; exact sizeId
      obtain ⟨cs, hC, hCs, hCt⟩ := hm.blk
      have b1 : (i : Int) < m := by omega
      have b2 : (i : Int) < (m : Int) + 1 := by omega
      have hq : ((x : Int)).tdiv 2 = ((x / 2 : Nat) : Int) := (half_facts x).1
      have hwx : wrap64 ((x : Int) / 2) = (x : Int) / 2 := by unfold wrap64; omega
      have HZ := hid hZ
      have HZL := hid lx
      have HB := hid hxb
      clear hZ lx hZw hx2 hx3 hph hxb hrow
      generalize besideN x = y at *
      go_wp2_with (first
        | (with_reducible refine wpList_load_if (by with_unfolding_all rfl) 24 _ rfl _ _ rfl (Z.map u8v) _ hgx hu (by with_unfolding_all rfl) hzx ?_)
        | (with_reducible refine wpList_store_at rfl 24 _ _ rfl w.heap.size (i * 32) cs (idVals Z) 24 hC rfl rfl ?d1 ?d2 (idVals_one _) ?_))
      case d1 => rw [idVals_size, HZL.out]; try exact sizeId
      case d2 => rw [idVals_size, HZL.out, hCs]; omega
      intro w9 hb9 hg9
      have hm9 := hm.put hC hCs hCt hb9 hg9 hlt HZL.out HZ.out
      go_wp2
      go_roundw
      case rel => exact ⟨i + 1, by omega, by go_num, (by rw [← HS.out]; try (first | rfl | (simp; done) | (simp; exact hwx))), hm9⟩
      case measure => simp [intOf]; omega
    · obtain rfl : i = m := by omega
      have b1 : ¬ (i : Int) < i := by omega
      generalize L / 2 ^ i = x at *
      go_wp2
      go_ret
      exact ⟨_, rfl, hm.own (by unfold maxLen; omega) (fun b => ndB_length f hf0 _ _), hm.bel⟩
set_option maxRecDepth 100000 in
set_option maxHeartbeats 8000000 in
theorem left_any9 (g gr cr : Nat) (s : List UInt8) (n m : Nat) (hr : rgtP n m = true) (nx : Nat) (hx : nx ≤ 2 ^ m) (w : World) (hS : SgS w g gr cr n m s nx) :
    Calls Try.prog 120 #[.pointer (some ⟨g, 0, none⟩)] w fun e w' => e = .returned (.int .i64 ((2 ^ m : Nat) - (nx : Int))) ∧ Below w.heap.size w w' := by
  have mixed : Try.prog.follows .mixedOrders = true := by kernel_rfl
  have cL := fun W => kleaves_any n m W
  rw [lvs_ok hr] at cL
  have f0 : ∀ p : LaterW w, p.w.cell? ⟨g, 0, none⟩ = some (.int .i64 n) := fun p => (hS.below p.h).c0
  have f1 : ∀ p : LaterW w, p.w.cell? ⟨g, 1, none⟩ = some (.int .i64 m) := fun p => (hS.below p.h).c1
  have f35 : ∀ p : LaterW w, p.w.cell? ⟨g, 35, none⟩ = some (.int .i64 nx) := fun p => (hS.below p.h).c35
  have hP : 2 ^ m ≤ 1024 := Nat.le_trans (Nat.pow_le_pow_right (n := 2) (by decide) (show m ≤ 10 by have := rgtP_parts hr; omega)) (by decide)
  generalize 2 ^ m = P at *
  have hw : IntKind.i64.wrap ((P : Int) - (nx : Int)) = (P : Int) - (nx : Int) := by rw [IntKind.wrap_i64]; omega
  clear hS hr
  go_enter Try.func120, Try.ntmps120
  go_wp2
  refine wp_region_later mixed (by kernel_rfl) ?_
  repeat (first
    | ((with_reducible refine wpQuiet_skip (by with_unfolding_all rfl) ?_); simp only [Act.put, List.setIfInBounds_toArray, List.set_cons_zero, List.set_cons_succ])
    | ((with_reducible refine wpQuiet_step (fun K hK => ?_)); go_simp; first | ((with_reducible refine hK _ ?_); clear hK K) | (with_reducible apply Exists.intro; (with_reducible refine ⟨fun _ => ?_, hK _ ?_⟩); ((first | (go_at_call 116; exact later_of (cL _)))); clear hK K)))
  with_reducible refine wpQuiet_nil ?_
  intro _ hw'
  obtain ⟨p, rfl⟩ := hw'
  have hp := p.h
  generalize p.w = w5 at *
  go_wp2
  go_ret
  exact ⟨rfl, hp⟩
end Go.Proofs.Ythpdkdalfjahcaa

namespace Go.Proofs.Ythpdkdalfjahcaa
open Go.RowKit Go.Qc
attribute [local go_sem] txt_size txt_append ib_fold

theorem run_store_cell {P : Program} {w : World} {g i : Nat} {old : Array Value} {t ty : TypeId} {v : Value} (hg : Blk w g t old) (hi : (P.info? ty).map (·.size) = some 1) (hs : i + 1 ≤ old.size) (hv : v.cells = #[v]) (h1 : v.oneCell' = true) :
    (Instr.storeAt ty (.pointer (some ⟨g, i, none⟩)) v).run P w = .ok () (w.setRow g (over old i [v])) := by
  have hst := run_storeCells_at P g i t [v] 0 old w hg (by simpa using hs) (by intro u hu; simp at hu; rw [hu]; exact h1)
  simp only [Nat.add_zero] at hst
  cases hq : P.info? ty with
  | none => simp [hq] at hi
  | some j =>
    have hsz : j.size = 1 := by simpa [hq] using hi
    simp [Instr.storeAt, Instr.sureAddr, storeVar, sizeOf, typeInfo, hq, hv, hsz]
    rw [hst]; simp [over]
theorem wp_store_cell {P : Program} {w : World} {o : Oper} {a : Act} {K : Act → World → Prop} {Q : Exit → Act → World → Prop} (ty : TypeId) (x y : Operand) (ho : o.op = .store ty x y)
    (g i : Nat) (old : Array Value) (t : TypeId) (hg : Blk w g t old) (v : Value) (hx : a.eval x = .pointer (some ⟨g, i, none⟩)) (hy : a.eval y = v) (hi : (P.info? ty).map (·.size) = some 1) (hs : i + 1 ≤ old.size) (hv : v.cells = #[v]) (h1 : v.oneCell' = true)
    (h : ∀ w', Blk w' g t (over old i [v]) → w.grownBy w' (some g) → K (a.put o.dst undef) w') : o.wp P a w K Q := by
  obtain ⟨hb, hgr⟩ := blk_over hg (over old i [v])
  have hr := run_store_cell (P := P) (ty := ty) hg hi hs hv h1
  unfold Oper.wp
  simp only [execOp, ho, hx, hy]
  simp only [Sem.run_bind, hr, Result.andThen, Sem.run_pure]
  exact h _ hb hgr
theorem wpList_store_cell {P : Program} {w : World} {ops : Array Oper} {rest : List Oper} {o : Oper} {a : Act} {Q : Exit → Act → World → Prop} (hgd : o.guard = none) (ty : TypeId) (x y : Operand) (ho : o.op = .store ty x y)
    (g i : Nat) (old : Array Value) (t : TypeId) (hg : Blk w g t old) (v : Value) (hx : a.eval x = .pointer (some ⟨g, i, none⟩)) (hy : a.eval y = v) (hi : (P.info? ty).map (·.size) = some 1) (hs : i + 1 ≤ old.size) (hv : v.cells = #[v]) (h1 : v.oneCell' = true)
    (h : ∀ w', Blk w' g t (over old i [v]) → w.grownBy w' (some g) → wpList P ops Q rest (a.put o.dst undef) w') : wpList P ops Q (o :: rest) a w :=
  wpList_plain hgd fun _ hK => wp_store_cell ty x y ho g i old t hg v hx hy hi hs hv h1 fun w' hb hgr => hK _ _ (h w' hb hgr)
theorem over_set (cs : Array Value) (i : Nat) (v : Value) (h : i < cs.size) : over cs i [v] = cs.setIfInBounds i v := by
  apply Array.ext_getElem?
  intro j
  rw [over_get cs i [v] (by simpa using (show i + 1 ≤ cs.size from h)), Array.getElem?_setIfInBounds]
  by_cases h1 : j < i
  · rw [if_pos h1, if_neg (by omega)]
  · rw [if_neg h1]
    by_cases h2 : i = j
    · subst h2
      rw [if_pos (by simp), if_pos rfl, if_pos h]
      simp
    · rw [if_neg (by simp; omega), if_neg h2]
theorem gb_after {w W W' : World} {g : Nat} (h : Below w.heap.size w W) (hg : W.grownBy W' (some g)) : w.grownBy W' (some g) :=
  ⟨hg.os.trans h.os, hg.tape.trans h.tape, hg.output.trans h.output, Nat.le_trans h.size hg.size, fun k hk hne => (hg.block k (Nat.lt_of_lt_of_le hk h.size) hne).trans (h.block k hk)⟩
theorem gb_high {w W W' : World} {g r : Nat} (h : w.grownBy W (some g)) (hg : W.grownBy W' (some r)) (hr : w.heap.size ≤ r) : w.grownBy W' (some g) :=
  ⟨hg.os.trans h.os, hg.tape.trans h.tape, hg.output.trans h.output, Nat.le_trans h.size hg.size, fun k hk hne => (hg.block k (Nat.lt_of_lt_of_le hk h.size) (by intro e; cases e; omega)).trans (h.block k hk hne)⟩
theorem infoSig : (Try.prog.info? 63).map (·.size) = some 4 := by kernel_rfl
theorem infoInt1 : (Try.prog.info? 3).map (·.size) = some 1 := by kernel_rfl
theorem infoRow1 : (Try.prog.info? 22).map (·.size) = some 1 := by kernel_rfl
/-- A signature's cells. -/
def sigC (nx : Nat) (v1 v2 v3 : Value) : Array Value := #[.int .i64 nx, v1, v2, v3]
theorem infoSigC (nx : Nat) (v1 v2 v3 : Value) : (Try.prog.info? 63).map (·.size) = some (sigC nx v1 v2 v3).size := infoSig
theorem sigC_one (nx : Nat) (A1 A2 A3 : Option Addr) (n1 n2 n3 c1 c2 c3 : Nat) : (sigC nx (.slice A1 n1 c1) (.slice A2 n2 c2) (.slice A3 n3 c3)).all (·.oneCell') = true := by
  simp [sigC, Value.oneCell']
theorem own_sig {w w' : World} {b g n : Nat} {cs : Array Value} {v : Value} {xs : List Value} (h : w.ownsRow b 24 32 v n xs) (hb : Blk w g 63 cs) (hg : w.grownBy w' (some g)) : w'.ownsRow b 24 32 v n xs := by
  refine h.kept hg ?_
  rcases h.2 with ⟨rfl, _⟩ | ⟨g2, cap, cur, rfl, _, h2, _⟩
  · exact .inl rfl
  · right
    intro e
    simp only [Value.ownBlock, Option.some.injEq] at e
    subst e
    have := h2.symm.trans hb
    injection this with this
    injection this with _ this
    exact absurd this (by decide)
set_option maxRecDepth 100000 in
set_option maxHeartbeats 40000000 in
set_option linter.unusedSimpArgs false in
theorem ssign_any (g gr cr : Nat) (s : List UInt8) (hs : s.length ≤ 1000) (n m : Nat) (hr : rgtP n m = true) (hm5 : m ≤ 5) (nx : Nat) (hx : nx < 2 ^ m) (a : List UInt8) (ha : a.length = 32) (w : World) (hS : SgS w g gr cr n m s nx) :
    Calls Try.prog 91 #[.pointer (some ⟨g, 0, none⟩), .agg (idVals a)] w fun e w' => ∃ A1 c1 A2 c2 A3 c3, e = .returned (.tuple #[.agg (sigC nx (.slice A1 n c1) (.slice A2 n c2) (.slice A3 m c3)), .int .i64 0]) ∧ w'.ownsRow w.heap.size 24 32 (.slice A1 n c1) n (idsV (upTo (shownX s nx a) n)) ∧ w'.ownsRow w.heap.size 24 32 (.slice A2 n c2) n (idsV (upTo (hiddenX s nx a) n)) ∧ w'.ownsRow w.heap.size 24 32 (.slice A3 m c3) m (idsV (upTo (wayF (lfF s n) nx) m)) ∧ SgS w' g gr cr n m s (nx + 1) ∧ w.grownBy w' (some g) := by
  have hu := Try.underlying24
  have hn8 : n ≤ 256 := by have := rgt_le9 (rgtP_parts hr).1; omega
  have hn4 : n ≤ 1000000 := by omega
  have cL := fun W h => left_any9 g gr cr s n m hr nx (Nat.le_of_lt hx) W h
  have cW0 := fun W h => sway_any g gr cr s n m hm5 nx nx hx W h
  have cS : ∀ W : World, Calls Try.prog 122 #[.string (txt s), .int .i64 nx, .int .i64 n, .agg (List.map u8v a).toArray] W fun e w' => ∃ v u, e = .returned (.tuple #[v, u, .int .i64 0]) ∧ w'.ownsRow W.heap.size 24 32 v n (idsV (upTo (shownX s nx a) n)) ∧ w'.ownsRow W.heap.size 24 32 u n (idsV (upTo (hiddenX s nx a) n)) ∧ Below W.heap.size W w' := fun W =>
    sign_any s hs nx (by omega) (by have : 2 ^ m ≤ 2 ^ 5 := Nat.pow_le_pow_right (by decide) hm5; omega) n hn8 (rgtP_parts hr).1 a ha W
  have H32 := hid (upTo_32 (wayF (lfF s n) nx) (fun b => ndB_length _ (lfF_length s n) _ _) m)
  have H1 := hid (upTo_32 (shownX s nx a) (shownX_length s nx a) n)
  have H2 := hid (upTo_32 (hiddenX s nx a) (hiddenX_length s nx a) n)
  have hza : (Try.prog.info? 24).map (·.size) = some (a.map u8v).length := by rw [List.length_map, ha]; exact sizeId
  have hP : 2 ^ m ≤ 32 := Nat.pow_le_pow_right (n := 2) (by decide) hm5
  have hw1 : IntKind.i64.wrap ((nx : Int) + 1) = (nx : Int) + 1 := by rw [IntKind.wrap_i64]; omega
  have hk1 : (w.alloc (.cells (idVals a) 24)).heap.size = w.heap.size + 1 := by simp
  have hI0 : ((w.alloc (.cells (idVals a) 24)).alloc (.cells #[.int .i64 0, .slice none 0 0, .slice none 0 0, .slice none 0 0] 63)).rangeAt w.heap.size 0 (a.map u8v) := range_blk ((Blk.new w 24 (idVals a)).alloc _)
  have hR0 := Blk.new (w.alloc (.cells (idVals a) 24)) 63 #[.int .i64 0, .slice none 0 0, .slice none 0 0, .slice none 0 0]
  rw [hk1] at hR0
  have hB0 : Below w.heap.size w ((w.alloc (.cells (idVals a) 24)).alloc (.cells #[.int .i64 0, .slice none 0 0, .slice none 0 0, .slice none 0 0] 63)) := ((Below.refl _ _).alloc (Nat.le_refl _) _).alloc (by simp) _
  have hS0 := hS.below hB0
  have hsz0 : w.heap.size + 2 ≤ ((w.alloc (.cells (idVals a) 24)).alloc (.cells #[.int .i64 0, .slice none 0 0, .slice none 0 0, .slice none 0 0] 63)).heap.size := by simp
  generalize wayF (lfF s n) nx = wf at *
  generalize 2 ^ m = P at *
  have zL : (((P : Nat) : Int) - (nx : Int) == 0) = false := by simp; omega
  clear hs hr ha hk1
  go_enter Try.func91, Try.ntmps91
  go_wp2_with (first
    | (go_at_call 120; (with_reducible refine (cL _ hS0).mono ?_); rintro e1 w3 ⟨rfl, hb3⟩))
  have hS3 := hS0.below hb3
  have hI := hI0.below hb3
  have hR3 := hR0.below hb3
  have hB3 := hB0.trans (hb3.mono hB0.size)
  have hge2 : w.heap.size + 2 ≤ w3.heap.size := Nat.le_trans hsz0 hb3.size
  have cW := fun W (h : Below w3.heap.size w3 W) => cW0 W (hS3.below h)
  clear cL cW0 hS0 hI0 hR0 hB0 hb3 hsz0
  refine wp_region_held_drew (S := fun W => Below w3.heap.size w3 W) (by kernel_rfl) ?_ (fun hHeld => ?_)
  · exact below_drew1 w3
  refine' wpAnyH_take (i := 0) (v := .pointer (some ⟨g, 0, none⟩)) rfl (by kernel_rfl) (by kernel_rfl) (by kernel_rfl) (fun _ _ _ h => h) (Or.inl ⟨by rfl, fun w' hw' => by go_simp⟩) hHeld ?_
  try simp only [Act.put, List.getElem_toArray, List.getElem_cons_succ, List.getElem_cons_zero, List.setIfInBounds_toArray, List.set_cons_zero, List.set_cons_succ]
  refine' wpAnyH_take (i := 1) (v := .pointer (some ⟨g, 0, none⟩)) rfl (by kernel_rfl) (by kernel_rfl) (by kernel_rfl) (fun _ _ _ h => h) (Or.inl ⟨by rfl, fun w' hw' => by go_simp⟩) hHeld ?_
  try simp only [Act.put, List.getElem_toArray, List.getElem_cons_succ, List.getElem_cons_zero, List.setIfInBounds_toArray, List.set_cons_zero, List.set_cons_succ]
  refine' wpAnyH_take (i := 2) (v := .pointer (some ⟨g, 35, none⟩)) rfl (by kernel_rfl) (by kernel_rfl) (by kernel_rfl) (fun _ _ _ h => h) (Or.inl ⟨by rfl, fun w' hw' => by go_simp⟩) hHeld ?_
  try simp only [Act.put, List.getElem_toArray, List.getElem_cons_succ, List.getElem_cons_zero, List.setIfInBounds_toArray, List.set_cons_zero, List.set_cons_succ]
  refine' wpAnyH_take (i := 3) (v := .int .i64 nx) rfl (by kernel_rfl) (by kernel_rfl) (by kernel_rfl) (fun _ _ _ h => h) (Or.inl ⟨by rfl, fun w' hw' => by have q0 := (hS3.below hw').c35; go_simp⟩) hHeld ?_
  try simp only [Act.put, List.getElem_toArray, List.getElem_cons_succ, List.getElem_cons_zero, List.setIfInBounds_toArray, List.set_cons_zero, List.set_cons_succ]
  refine' wpAnyH_take (i := 4) (v := .pointer (some ⟨g, 0, none⟩)) rfl (by kernel_rfl) (by kernel_rfl) (by kernel_rfl) (fun _ _ _ h => h) (Or.inl ⟨by rfl, fun w' hw' => by go_simp⟩) hHeld ?_
  try simp only [Act.put, List.getElem_toArray, List.getElem_cons_succ, List.getElem_cons_zero, List.setIfInBounds_toArray, List.set_cons_zero, List.set_cons_succ]
  refine' wpAnyH_take (i := 5) (v := .pointer (some ⟨g, 0, none⟩)) rfl (by kernel_rfl) (by kernel_rfl) (by kernel_rfl) (fun _ _ _ h => h) (Or.inl ⟨by rfl, fun w' hw' => by go_simp⟩) hHeld ?_
  try simp only [Act.put, List.getElem_toArray, List.getElem_cons_succ, List.getElem_cons_zero, List.setIfInBounds_toArray, List.set_cons_zero, List.set_cons_succ]
  refine' wpAnyH_take (i := 6) (v := .pointer (some ⟨g, 0, none⟩)) rfl (by kernel_rfl) (by kernel_rfl) (by kernel_rfl) (fun _ _ _ h => h) (Or.inl ⟨by rfl, fun w' hw' => by go_simp⟩) hHeld ?_
  try simp only [Act.put, List.getElem_toArray, List.getElem_cons_succ, List.getElem_cons_zero, List.setIfInBounds_toArray, List.set_cons_zero, List.set_cons_succ]
  refine' wpAnyH_take (i := 7) (v := .pointer (some ⟨g, 35, none⟩)) rfl (by kernel_rfl) (by kernel_rfl) (by kernel_rfl) (fun _ _ _ h => h) (Or.inl ⟨by rfl, fun w' hw' => by go_simp⟩) hHeld ?_
  try simp only [Act.put, List.getElem_toArray, List.getElem_cons_succ, List.getElem_cons_zero, List.setIfInBounds_toArray, List.set_cons_zero, List.set_cons_succ]
  refine' wpAnyH_take (i := 8) (v := .int .i64 nx) rfl (by kernel_rfl) (by kernel_rfl) (by kernel_rfl) (fun _ _ _ h => h) (Or.inl ⟨by rfl, fun w' hw' => by have q0 := (hS3.below hw').c35; go_simp⟩) hHeld ?_
  try simp only [Act.put, List.getElem_toArray, List.getElem_cons_succ, List.getElem_cons_zero, List.setIfInBounds_toArray, List.set_cons_zero, List.set_cons_succ]
  refine wpAnyH_ready (rs := [9, 11]) (by kernel_rfl) (by simp) ?_
  refine AllReadyH.cons rfl (fun K hK => ?_) (AllReadyH.cons rfl (fun K hK => ?_) AllReadyH.nil)
  · go_simp
    (with_reducible refine (cW _ hHeld).mono ?_)
    rintro e5 w5 ⟨v5, rfl, hown5, hb5⟩
    obtain ⟨A3, c3, rfl, hrow5⟩ := RowAt.own hown5 H32.out (by omega)
    replace hown5 := own_mono hown5 (Nat.le_trans hge2 hHeld.size)
    refine hK.out _ _ (hHeld.trans (hb5.mono hHeld.size)) (fun hHeld => ?_)
    clear hK K
    try simp only [Act.put, List.getElem_toArray, List.getElem_cons_succ, List.getElem_cons_zero, List.setIfInBounds_toArray, List.set_cons_zero, List.set_cons_succ]
    refine' wpAnyH_take (i := 10) (v := .agg (sigC nx (.slice none 0 0) (.slice none 0 0) (.slice A3 m c3))) rfl (by kernel_rfl) (by kernel_rfl) (by kernel_rfl) (fun _ _ _ h => h) (Or.inl ⟨by rfl, fun w' hw' => by go_simp; rfl⟩) hHeld ?_
    try simp only [Act.put, List.getElem_toArray, List.getElem_cons_succ, List.getElem_cons_zero, List.setIfInBounds_toArray, List.set_cons_zero, List.set_cons_succ]
    refine wpAnyH_ready (rs := [11]) (by kernel_rfl) (by simp) ?_
    refine AllReadyH.cons rfl (fun K hK => ?_) AllReadyH.nil
    have hgx : w3.heap.size ≤ w5.heap.size := hHeld.size
    go_simp
    have hge := hHeld.size
    have hnew := Blk.new w5 63 #[.int .i64 0, .slice none 0 0, .slice none 0 0, .slice none 0 0]
    replace hown5 := hown5.alloc (.cells #[.int .i64 0, .slice none 0 0, .slice none 0 0, .slice none 0 0] 63)
    refine hK.out _ _ (hHeld.alloc hHeld.size _) (fun hHeld => ?_)
    clear hK K
    try simp only [Act.put, List.getElem_toArray, List.getElem_cons_succ, List.getElem_cons_zero, List.setIfInBounds_toArray, List.set_cons_zero, List.set_cons_succ]
    refine wpAnyH_ready (rs := [12]) (by kernel_rfl) (by simp) ?_
    refine AllReadyH.cons rfl (fun K hK => ?_) AllReadyH.nil
    rw [if_pos (by rfl)]
    refine wp_store_blk 63 _ _ rfl _ _ (sigC nx (.slice none 0 0) (.slice none 0 0) (.slice A3 m c3)) 63 hnew rfl rfl infoSig rfl (sigC_one _ _ _ _ _ _ _ _ _ _) ?_
    intro w8 hb8 hg8
    replace hown5 := own_sig hown5 hnew hg8
    refine hK.out _ _ (hHeld.grown hg8 hHeld.size (by intro i e; cases e; exact hge)) (fun hHeld => ?_)
    clear hK K hnew
    try simp only [Act.put, List.getElem_toArray, List.getElem_cons_succ, List.getElem_cons_zero, List.setIfInBounds_toArray, List.set_cons_zero, List.set_cons_succ]
    refine wpAnyH_done (by kernel_rfl) ?_ _
    have hge0 : w3.heap.size ≤ w5.heap.size := hge
    have hgx8 : w5.heap.size ≤ w8.heap.size := Nat.le_of_lt hb8.lt
    generalize w5.heap.size = gx at *
    go_wp2
    clear cW
    refine wp_region_held_drew (S := fun W => Below w3.heap.size w3 W) (by kernel_rfl) ?_ (fun hHeld => ?_)
    · exact hHeld.trans ((below_drew1 w8).mono hHeld.size)
    refine' wpAnyH_take (i := 0) (v := .pointer (some ⟨g, 0, none⟩)) rfl (by kernel_rfl) (by kernel_rfl) (by kernel_rfl) (fun _ _ _ h => h) (Or.inl ⟨by rfl, fun w' hw' => by go_simp⟩) hHeld ?_
    try simp only [Act.put, List.getElem_toArray, List.getElem_cons_succ, List.getElem_cons_zero, List.setIfInBounds_toArray, List.set_cons_zero, List.set_cons_succ]
    refine' wpAnyH_take (i := 1) (v := .pointer (some ⟨g, 0, none⟩)) rfl (by kernel_rfl) (by kernel_rfl) (by kernel_rfl) (fun _ _ _ h => h) (Or.inl ⟨by rfl, fun w' hw' => by go_simp⟩) hHeld ?_
    try simp only [Act.put, List.getElem_toArray, List.getElem_cons_succ, List.getElem_cons_zero, List.setIfInBounds_toArray, List.set_cons_zero, List.set_cons_succ]
    refine' wpAnyH_take (i := 2) (v := .pointer (some ⟨g, 2, none⟩)) rfl (by kernel_rfl) (by kernel_rfl) (by kernel_rfl) (fun _ _ _ h => h) (Or.inl ⟨by rfl, fun w' hw' => by go_simp⟩) hHeld ?_
    try simp only [Act.put, List.getElem_toArray, List.getElem_cons_succ, List.getElem_cons_zero, List.setIfInBounds_toArray, List.set_cons_zero, List.set_cons_succ]
    refine' wpAnyH_take (i := 3) (v := .string (txt s)) rfl (by kernel_rfl) (by kernel_rfl) (by kernel_rfl) (fun _ _ _ h => h) (Or.inl ⟨by rfl, fun w' hw' => by have q0 := (hS3.below hw').c2; go_simp⟩) hHeld ?_
    try simp only [Act.put, List.getElem_toArray, List.getElem_cons_succ, List.getElem_cons_zero, List.setIfInBounds_toArray, List.set_cons_zero, List.set_cons_succ]
    refine' wpAnyH_take (i := 4) (v := .pointer (some ⟨g, 0, none⟩)) rfl (by kernel_rfl) (by kernel_rfl) (by kernel_rfl) (fun _ _ _ h => h) (Or.inl ⟨by rfl, fun w' hw' => by go_simp⟩) hHeld ?_
    try simp only [Act.put, List.getElem_toArray, List.getElem_cons_succ, List.getElem_cons_zero, List.setIfInBounds_toArray, List.set_cons_zero, List.set_cons_succ]
    refine' wpAnyH_take (i := 5) (v := .pointer (some ⟨g, 0, none⟩)) rfl (by kernel_rfl) (by kernel_rfl) (by kernel_rfl) (fun _ _ _ h => h) (Or.inl ⟨by rfl, fun w' hw' => by go_simp⟩) hHeld ?_
    try simp only [Act.put, List.getElem_toArray, List.getElem_cons_succ, List.getElem_cons_zero, List.setIfInBounds_toArray, List.set_cons_zero, List.set_cons_succ]
    refine' wpAnyH_take (i := 6) (v := .pointer (some ⟨g, 35, none⟩)) rfl (by kernel_rfl) (by kernel_rfl) (by kernel_rfl) (fun _ _ _ h => h) (Or.inl ⟨by rfl, fun w' hw' => by go_simp⟩) hHeld ?_
    try simp only [Act.put, List.getElem_toArray, List.getElem_cons_succ, List.getElem_cons_zero, List.setIfInBounds_toArray, List.set_cons_zero, List.set_cons_succ]
    refine' wpAnyH_take (i := 7) (v := .int .i64 nx) rfl (by kernel_rfl) (by kernel_rfl) (by kernel_rfl) (fun _ _ _ h => h) (Or.inl ⟨by rfl, fun w' hw' => by have q0 := (hS3.below hw').c35; go_simp⟩) hHeld ?_
    try simp only [Act.put, List.getElem_toArray, List.getElem_cons_succ, List.getElem_cons_zero, List.setIfInBounds_toArray, List.set_cons_zero, List.set_cons_succ]
    refine' wpAnyH_take (i := 8) (v := .pointer (some ⟨g, 0, none⟩)) rfl (by kernel_rfl) (by kernel_rfl) (by kernel_rfl) (fun _ _ _ h => h) (Or.inl ⟨by rfl, fun w' hw' => by go_simp⟩) hHeld ?_
    try simp only [Act.put, List.getElem_toArray, List.getElem_cons_succ, List.getElem_cons_zero, List.setIfInBounds_toArray, List.set_cons_zero, List.set_cons_succ]
    refine' wpAnyH_take (i := 9) (v := .pointer (some ⟨g, 0, none⟩)) rfl (by kernel_rfl) (by kernel_rfl) (by kernel_rfl) (fun _ _ _ h => h) (Or.inl ⟨by rfl, fun w' hw' => by go_simp⟩) hHeld ?_
    try simp only [Act.put, List.getElem_toArray, List.getElem_cons_succ, List.getElem_cons_zero, List.setIfInBounds_toArray, List.set_cons_zero, List.set_cons_succ]
    refine' wpAnyH_take (i := 10) (v := .pointer (some ⟨g, 0, none⟩)) rfl (by kernel_rfl) (by kernel_rfl) (by kernel_rfl) (fun _ _ _ h => h) (Or.inl ⟨by rfl, fun w' hw' => by go_simp⟩) hHeld ?_
    try simp only [Act.put, List.getElem_toArray, List.getElem_cons_succ, List.getElem_cons_zero, List.setIfInBounds_toArray, List.set_cons_zero, List.set_cons_succ]
    refine' wpAnyH_take (i := 11) (v := .pointer (some ⟨g, 0, none⟩)) rfl (by kernel_rfl) (by kernel_rfl) (by kernel_rfl) (fun _ _ _ h => h) (Or.inl ⟨by rfl, fun w' hw' => by go_simp⟩) hHeld ?_
    try simp only [Act.put, List.getElem_toArray, List.getElem_cons_succ, List.getElem_cons_zero, List.setIfInBounds_toArray, List.set_cons_zero, List.set_cons_succ]
    refine' wpAnyH_take (i := 12) (v := .int .i64 n) rfl (by kernel_rfl) (by kernel_rfl) (by kernel_rfl) (fun _ _ _ h => h) (Or.inl ⟨by rfl, fun w' hw' => by have q0 := (hS3.below hw').c0; go_simp⟩) hHeld ?_
    try simp only [Act.put, List.getElem_toArray, List.getElem_cons_succ, List.getElem_cons_zero, List.setIfInBounds_toArray, List.set_cons_zero, List.set_cons_succ]
    refine' wpAnyH_take (i := 13) (v := _) rfl (by kernel_rfl) (by kernel_rfl) (by kernel_rfl) (fun _ _ _ h => h) (yieldsIf_load_mid (by rfl) 24 _ rfl _ _ rfl (a.map u8v) _ (fun w' h => hI.below h) hu rfl hza) hHeld ?_
    try simp only [Act.put, List.getElem_toArray, List.getElem_cons_succ, List.getElem_cons_zero, List.setIfInBounds_toArray, List.set_cons_zero, List.set_cons_succ]
    refine wpAnyH_ready (rs := [14]) (by kernel_rfl) (by simp) ?_
    refine AllReadyH.cons rfl (fun K hK => ?_) AllReadyH.nil
    go_simp
    (with_reducible refine (cS _).mono ?_)
    rintro e11 w11 ⟨v1, v2, rfl, hown1, hown2, hb11⟩
    obtain ⟨A1, c1, rfl, _⟩ := RowAt.own hown1 H1.out (by omega)
    obtain ⟨A2, c2, rfl, _⟩ := RowAt.own hown2 H2.out (by omega)
    have hsz8 : w3.heap.size ≤ w8.heap.size := Nat.le_trans hge0 hgx8
    replace hown1 := own_mono hown1 (Nat.le_trans hge2 hsz8)
    replace hown2 := own_mono hown2 (Nat.le_trans hge2 hsz8)
    have hb12 : Below w8.heap.size w8 w11 := (below_drew1 w8).trans hb11
    replace hown5 := own_below hown5 hb12
    replace hb8 := hb8.below hb12
    refine hK.out _ _ (hHeld.trans (hb11.mono hHeld.size)) (fun hHeld => ?_)
    clear hK K
    try simp only [Act.put, List.getElem_toArray, List.getElem_cons_succ, List.getElem_cons_zero, List.setIfInBounds_toArray, List.set_cons_zero, List.set_cons_succ]
    refine' wpAnyH_take (i := 15) (v := .tuple #[.slice A1 n c1, .slice A2 n c2, .int .i64 0]) rfl (by kernel_rfl) (by kernel_rfl) (by kernel_rfl) (fun _ _ _ h => h) (Or.inl ⟨by rfl, fun w' hw' => by go_simp⟩) hHeld ?_
    try simp only [Act.put, List.getElem_toArray, List.getElem_cons_succ, List.getElem_cons_zero, List.setIfInBounds_toArray, List.set_cons_zero, List.set_cons_succ]
    refine' wpAnyH_take (i := 16) (v := .slice A1 n c1) rfl (by kernel_rfl) (by kernel_rfl) (by kernel_rfl) (fun _ _ _ h => h) (Or.inl ⟨by rfl, fun w' hw' => by go_simp⟩) hHeld ?_
    try simp only [Act.put, List.getElem_toArray, List.getElem_cons_succ, List.getElem_cons_zero, List.setIfInBounds_toArray, List.set_cons_zero, List.set_cons_succ]
    refine' wpAnyH_take (i := 17) (v := .slice A2 n c2) rfl (by kernel_rfl) (by kernel_rfl) (by kernel_rfl) (fun _ _ _ h => h) (Or.inl ⟨by rfl, fun w' hw' => by go_simp⟩) hHeld ?_
    try simp only [Act.put, List.getElem_toArray, List.getElem_cons_succ, List.getElem_cons_zero, List.setIfInBounds_toArray, List.set_cons_zero, List.set_cons_succ]
    refine' wpAnyH_take (i := 18) (v := .int .i64 0) rfl (by kernel_rfl) (by kernel_rfl) (by kernel_rfl) (fun _ _ _ h => h) (Or.inl ⟨by rfl, fun w' hw' => by go_simp⟩) hHeld ?_
    try simp only [Act.put, List.getElem_toArray, List.getElem_cons_succ, List.getElem_cons_zero, List.setIfInBounds_toArray, List.set_cons_zero, List.set_cons_succ]
    refine' wpAnyH_take (i := 19) (v := .pointer (some ⟨gx, 1, none⟩)) rfl (by kernel_rfl) (by kernel_rfl) (by kernel_rfl) (fun _ _ _ h => h) (Or.inl ⟨by rfl, fun w' hw' => by go_simp⟩) hHeld ?_
    try simp only [Act.put, List.getElem_toArray, List.getElem_cons_succ, List.getElem_cons_zero, List.setIfInBounds_toArray, List.set_cons_zero, List.set_cons_succ]
    refine wpAnyH_ready (rs := [20]) (by kernel_rfl) (by simp) ?_
    refine AllReadyH.cons rfl (fun K hK => ?_) AllReadyH.nil
    rw [if_pos (by rfl)]
    refine wp_store_cell 22 _ _ rfl gx 1 _ 63 hb8 (.slice A1 n c1) rfl rfl infoRow1 (show 1 + 1 ≤ 4 by decide) rfl rfl ?_
    have hb8' := hb8
    intro w20 hb20 hg20
    replace hb8 : Blk w20 gx 63 (#[.int .i64 nx, .slice A1 n c1, .slice none 0 0, .slice A3 m c3]) := hb20
    replace hown1 := own_sig hown1 hb8' hg20
    replace hown2 := own_sig hown2 hb8' hg20
    replace hown5 := own_sig hown5 hb8' hg20
    refine hK.out _ _ (hHeld.grown hg20 hHeld.size (by intro i e; cases e; exact hge0)) (fun hHeld => ?_)
    clear hK K
    try simp only [Act.put, List.getElem_toArray, List.getElem_cons_succ, List.getElem_cons_zero, List.setIfInBounds_toArray, List.set_cons_zero, List.set_cons_succ]
    refine' wpAnyH_take (i := 21) (v := .pointer (some ⟨gx, 2, none⟩)) rfl (by kernel_rfl) (by kernel_rfl) (by kernel_rfl) (fun _ _ _ h => h) (Or.inl ⟨by rfl, fun w' hw' => by go_simp⟩) hHeld ?_
    try simp only [Act.put, List.getElem_toArray, List.getElem_cons_succ, List.getElem_cons_zero, List.setIfInBounds_toArray, List.set_cons_zero, List.set_cons_succ]
    refine wpAnyH_ready (rs := [22]) (by kernel_rfl) (by simp) ?_
    refine AllReadyH.cons rfl (fun K hK => ?_) AllReadyH.nil
    rw [if_pos (by rfl)]
    refine wp_store_cell 22 _ _ rfl gx 2 _ 63 hb8 (.slice A2 n c2) rfl rfl infoRow1 (show 2 + 1 ≤ 4 by decide) rfl rfl ?_
    have hb8' := hb8
    intro w22 hb22 hg22
    replace hb8 : Blk w22 gx 63 (sigC nx (.slice A1 n c1) (.slice A2 n c2) (.slice A3 m c3)) := hb22
    replace hown1 := own_sig hown1 hb8' hg22
    replace hown2 := own_sig hown2 hb8' hg22
    replace hown5 := own_sig hown5 hb8' hg22
    refine hK.out _ _ (hHeld.grown hg22 hHeld.size (by intro i e; cases e; exact hge0)) (fun hHeld => ?_)
    clear hK K
    try simp only [Act.put, List.getElem_toArray, List.getElem_cons_succ, List.getElem_cons_zero, List.setIfInBounds_toArray, List.set_cons_zero, List.set_cons_succ]
    refine wpAnyH_done (by kernel_rfl) ?_ _
    clear cS
    have hSa := hS3.below hHeld
    have q35 := hSa.c35
    have hRa := hR3.below hHeld
    have hBa := hB3.trans (hHeld.mono hB3.size)
    go_wp2_with (with_reducible refine wpList_store_cell rfl 3 _ _ rfl g 35 _ 151 hSa.blk (.int .i64 ((nx : Int) + 1)) rfl rfl infoInt1 ?s1 rfl rfl ?_)
    case s1 => rw [sgC_size _ _ _ _ _ _ (ofB_length _ _ _)]; decide
    intro w31 hb31 hg31
    have hgw : g < w.heap.size := hS.blk.lt
    have hx31 : Blk w31 gx 63 (sigC nx (.slice A1 n c1) (.slice A2 n c2) (.slice A3 m c3)) := blk_gb hb8 hg31 (by omega)
    have hR31 := blk_gb hRa hg31 (by omega)
    have o1 := own_gbl hown1 hg31 (by omega)
    have o2 := own_gbl hown2 hg31 (by omega)
    have o5 := own_gbl hown5 hg31 (by omega)
    clear hown1 hown2 hown5 hb8 hRa
    go_wp2_with (first
      | (with_reducible refine wpList_load_blk rfl 63 _ rfl gx (sigC nx (.slice A1 n c1) (.slice A2 n c2) (.slice A3 m c3)) 63 hx31 rfl _ Try.underlying63 (by with_unfolding_all rfl) (infoSigC _ _ _ _) ?_)
      | (with_reducible refine wpList_store_blk rfl 63 _ _ rfl (w.heap.size + 1) _ (sigC nx (.slice A1 n c1) (.slice A2 n c2) (.slice A3 m c3)) 63 hR31 rfl rfl (infoSigC _ _ _ _) (by with_unfolding_all rfl) (sigC_one _ _ _ _ _ _ _ _ _ _) ?_))
    intro w32 hb32 hg32
    go_wp2
    refine bodyPost_ret (results_cellt rfl _ _ _ _ _ _ rfl hb32 Try.underlying63 rfl infoSig) rfl ⟨A1, c1, A2, c2, A3, c3, rfl, own_mono (own_gbl o1 hg32 (by omega)) (by omega), own_mono (own_gbl o2 hg32 (by omega)) (by omega), own_mono (own_gbl o5 hg32 (by omega)) (by omega), ⟨?_, ?_⟩, gb_high (gb_after hBa hg31) hg32 (by omega)⟩
    · have := blk_gb hb31 hg32 (by omega)
      rw [over_set _ _ _ (by rw [sgC_size _ _ _ _ _ _ (ofB_length _ _ _)]; decide), sgC_next _ _ _ _ _ _ _ (ofB_length _ _ _)] at this
      rw [show ((nx + 1 : Nat) : Int) = (nx : Int) + 1 by omega]
      exact this
    · obtain ⟨V, x, y, z⟩ := hSa.old
      exact ⟨V, x, (y.grown hg31 y.size (by intro i e; cases e; exact z)).grown hg32 (Nat.le_trans y.size hg31.size) (by intro i e; cases e; omega), z⟩
  · go_simp
    have hge := hHeld.size
    have hnew := Blk.new w3.drew 63 #[.int .i64 0, .slice none 0 0, .slice none 0 0, .slice none 0 0]
    refine hK.out _ _ (hHeld.alloc hHeld.size _) (fun hHeld => ?_)
    clear hK K
    try simp only [Act.put, List.getElem_toArray, List.getElem_cons_succ, List.getElem_cons_zero, List.setIfInBounds_toArray, List.set_cons_zero, List.set_cons_succ]
    refine wpAnyH_ready (rs := [9]) (by kernel_rfl) (by simp) ?_
    refine AllReadyH.cons rfl (fun K hK => ?_) AllReadyH.nil
    go_simp
    (with_reducible refine (cW _ hHeld).mono ?_)
    rintro e5 w5 ⟨v5, rfl, hown5, hb5⟩
    obtain ⟨A3, c3, rfl, hrow5⟩ := RowAt.own hown5 H32.out (by omega)
    replace hown5 := own_mono hown5 (Nat.le_trans hge2 hHeld.size)
    refine hK.out _ _ (hHeld.trans (hb5.mono hHeld.size)) (fun hHeld => ?_)
    clear hK K
    replace hnew := hnew.below hb5
    try simp only [Act.put, List.getElem_toArray, List.getElem_cons_succ, List.getElem_cons_zero, List.setIfInBounds_toArray, List.set_cons_zero, List.set_cons_succ]
    refine' wpAnyH_take (i := 10) (v := .agg (sigC nx (.slice none 0 0) (.slice none 0 0) (.slice A3 m c3))) rfl (by kernel_rfl) (by kernel_rfl) (by kernel_rfl) (fun _ _ _ h => h) (Or.inl ⟨by rfl, fun w' hw' => by go_simp; rfl⟩) hHeld ?_
    try simp only [Act.put, List.getElem_toArray, List.getElem_cons_succ, List.getElem_cons_zero, List.setIfInBounds_toArray, List.set_cons_zero, List.set_cons_succ]
    refine wpAnyH_ready (rs := [12]) (by kernel_rfl) (by simp) ?_
    refine AllReadyH.cons rfl (fun K hK => ?_) AllReadyH.nil
    rw [if_pos (by rfl)]
    refine wp_store_blk 63 _ _ rfl _ _ (sigC nx (.slice none 0 0) (.slice none 0 0) (.slice A3 m c3)) 63 hnew rfl rfl infoSig rfl (sigC_one _ _ _ _ _ _ _ _ _ _) ?_
    intro w8 hb8 hg8
    replace hown5 := own_sig hown5 hnew hg8
    refine hK.out _ _ (hHeld.grown hg8 hHeld.size (by intro i e; cases e; exact hge)) (fun hHeld => ?_)
    clear hK K hnew
    try simp only [Act.put, List.getElem_toArray, List.getElem_cons_succ, List.getElem_cons_zero, List.setIfInBounds_toArray, List.set_cons_zero, List.set_cons_succ]
    refine wpAnyH_done (by kernel_rfl) ?_ _
    have hge0 : w3.heap.size ≤ w3.heap.size := Nat.le_refl _
    have hgx8 : w3.heap.size ≤ w8.heap.size := Nat.le_of_lt hb8.lt
    go_wp2
    clear cW
    refine wp_region_held_drew (S := fun W => Below w3.heap.size w3 W) (by kernel_rfl) ?_ (fun hHeld => ?_)
    · exact hHeld.trans ((below_drew1 w8).mono hHeld.size)
    refine' wpAnyH_take (i := 0) (v := .pointer (some ⟨g, 0, none⟩)) rfl (by kernel_rfl) (by kernel_rfl) (by kernel_rfl) (fun _ _ _ h => h) (Or.inl ⟨by rfl, fun w' hw' => by go_simp⟩) hHeld ?_
    try simp only [Act.put, List.getElem_toArray, List.getElem_cons_succ, List.getElem_cons_zero, List.setIfInBounds_toArray, List.set_cons_zero, List.set_cons_succ]
    refine' wpAnyH_take (i := 1) (v := .pointer (some ⟨g, 0, none⟩)) rfl (by kernel_rfl) (by kernel_rfl) (by kernel_rfl) (fun _ _ _ h => h) (Or.inl ⟨by rfl, fun w' hw' => by go_simp⟩) hHeld ?_
    try simp only [Act.put, List.getElem_toArray, List.getElem_cons_succ, List.getElem_cons_zero, List.setIfInBounds_toArray, List.set_cons_zero, List.set_cons_succ]
    refine' wpAnyH_take (i := 2) (v := .pointer (some ⟨g, 2, none⟩)) rfl (by kernel_rfl) (by kernel_rfl) (by kernel_rfl) (fun _ _ _ h => h) (Or.inl ⟨by rfl, fun w' hw' => by go_simp⟩) hHeld ?_
    try simp only [Act.put, List.getElem_toArray, List.getElem_cons_succ, List.getElem_cons_zero, List.setIfInBounds_toArray, List.set_cons_zero, List.set_cons_succ]
    refine' wpAnyH_take (i := 3) (v := .string (txt s)) rfl (by kernel_rfl) (by kernel_rfl) (by kernel_rfl) (fun _ _ _ h => h) (Or.inl ⟨by rfl, fun w' hw' => by have q0 := (hS3.below hw').c2; go_simp⟩) hHeld ?_
    try simp only [Act.put, List.getElem_toArray, List.getElem_cons_succ, List.getElem_cons_zero, List.setIfInBounds_toArray, List.set_cons_zero, List.set_cons_succ]
    refine' wpAnyH_take (i := 4) (v := .pointer (some ⟨g, 0, none⟩)) rfl (by kernel_rfl) (by kernel_rfl) (by kernel_rfl) (fun _ _ _ h => h) (Or.inl ⟨by rfl, fun w' hw' => by go_simp⟩) hHeld ?_
    try simp only [Act.put, List.getElem_toArray, List.getElem_cons_succ, List.getElem_cons_zero, List.setIfInBounds_toArray, List.set_cons_zero, List.set_cons_succ]
    refine' wpAnyH_take (i := 5) (v := .pointer (some ⟨g, 0, none⟩)) rfl (by kernel_rfl) (by kernel_rfl) (by kernel_rfl) (fun _ _ _ h => h) (Or.inl ⟨by rfl, fun w' hw' => by go_simp⟩) hHeld ?_
    try simp only [Act.put, List.getElem_toArray, List.getElem_cons_succ, List.getElem_cons_zero, List.setIfInBounds_toArray, List.set_cons_zero, List.set_cons_succ]
    refine' wpAnyH_take (i := 6) (v := .pointer (some ⟨g, 35, none⟩)) rfl (by kernel_rfl) (by kernel_rfl) (by kernel_rfl) (fun _ _ _ h => h) (Or.inl ⟨by rfl, fun w' hw' => by go_simp⟩) hHeld ?_
    try simp only [Act.put, List.getElem_toArray, List.getElem_cons_succ, List.getElem_cons_zero, List.setIfInBounds_toArray, List.set_cons_zero, List.set_cons_succ]
    refine' wpAnyH_take (i := 7) (v := .int .i64 nx) rfl (by kernel_rfl) (by kernel_rfl) (by kernel_rfl) (fun _ _ _ h => h) (Or.inl ⟨by rfl, fun w' hw' => by have q0 := (hS3.below hw').c35; go_simp⟩) hHeld ?_
    try simp only [Act.put, List.getElem_toArray, List.getElem_cons_succ, List.getElem_cons_zero, List.setIfInBounds_toArray, List.set_cons_zero, List.set_cons_succ]
    refine' wpAnyH_take (i := 8) (v := .pointer (some ⟨g, 0, none⟩)) rfl (by kernel_rfl) (by kernel_rfl) (by kernel_rfl) (fun _ _ _ h => h) (Or.inl ⟨by rfl, fun w' hw' => by go_simp⟩) hHeld ?_
    try simp only [Act.put, List.getElem_toArray, List.getElem_cons_succ, List.getElem_cons_zero, List.setIfInBounds_toArray, List.set_cons_zero, List.set_cons_succ]
    refine' wpAnyH_take (i := 9) (v := .pointer (some ⟨g, 0, none⟩)) rfl (by kernel_rfl) (by kernel_rfl) (by kernel_rfl) (fun _ _ _ h => h) (Or.inl ⟨by rfl, fun w' hw' => by go_simp⟩) hHeld ?_
    try simp only [Act.put, List.getElem_toArray, List.getElem_cons_succ, List.getElem_cons_zero, List.setIfInBounds_toArray, List.set_cons_zero, List.set_cons_succ]
    refine' wpAnyH_take (i := 10) (v := .pointer (some ⟨g, 0, none⟩)) rfl (by kernel_rfl) (by kernel_rfl) (by kernel_rfl) (fun _ _ _ h => h) (Or.inl ⟨by rfl, fun w' hw' => by go_simp⟩) hHeld ?_
    try simp only [Act.put, List.getElem_toArray, List.getElem_cons_succ, List.getElem_cons_zero, List.setIfInBounds_toArray, List.set_cons_zero, List.set_cons_succ]
    refine' wpAnyH_take (i := 11) (v := .pointer (some ⟨g, 0, none⟩)) rfl (by kernel_rfl) (by kernel_rfl) (by kernel_rfl) (fun _ _ _ h => h) (Or.inl ⟨by rfl, fun w' hw' => by go_simp⟩) hHeld ?_
    try simp only [Act.put, List.getElem_toArray, List.getElem_cons_succ, List.getElem_cons_zero, List.setIfInBounds_toArray, List.set_cons_zero, List.set_cons_succ]
    refine' wpAnyH_take (i := 12) (v := .int .i64 n) rfl (by kernel_rfl) (by kernel_rfl) (by kernel_rfl) (fun _ _ _ h => h) (Or.inl ⟨by rfl, fun w' hw' => by have q0 := (hS3.below hw').c0; go_simp⟩) hHeld ?_
    try simp only [Act.put, List.getElem_toArray, List.getElem_cons_succ, List.getElem_cons_zero, List.setIfInBounds_toArray, List.set_cons_zero, List.set_cons_succ]
    refine' wpAnyH_take (i := 13) (v := _) rfl (by kernel_rfl) (by kernel_rfl) (by kernel_rfl) (fun _ _ _ h => h) (yieldsIf_load_mid (by rfl) 24 _ rfl _ _ rfl (a.map u8v) _ (fun w' h => hI.below h) hu rfl hza) hHeld ?_
    try simp only [Act.put, List.getElem_toArray, List.getElem_cons_succ, List.getElem_cons_zero, List.setIfInBounds_toArray, List.set_cons_zero, List.set_cons_succ]
    refine wpAnyH_ready (rs := [14]) (by kernel_rfl) (by simp) ?_
    refine AllReadyH.cons rfl (fun K hK => ?_) AllReadyH.nil
    go_simp
    (with_reducible refine (cS _).mono ?_)
    rintro e11 w11 ⟨v1, v2, rfl, hown1, hown2, hb11⟩
    obtain ⟨A1, c1, rfl, _⟩ := RowAt.own hown1 H1.out (by omega)
    obtain ⟨A2, c2, rfl, _⟩ := RowAt.own hown2 H2.out (by omega)
    have hsz8 : w3.heap.size ≤ w8.heap.size := Nat.le_trans hge0 hgx8
    replace hown1 := own_mono hown1 (Nat.le_trans hge2 hsz8)
    replace hown2 := own_mono hown2 (Nat.le_trans hge2 hsz8)
    have hb12 : Below w8.heap.size w8 w11 := (below_drew1 w8).trans hb11
    replace hown5 := own_below hown5 hb12
    replace hb8 := hb8.below hb12
    refine hK.out _ _ (hHeld.trans (hb11.mono hHeld.size)) (fun hHeld => ?_)
    clear hK K
    try simp only [Act.put, List.getElem_toArray, List.getElem_cons_succ, List.getElem_cons_zero, List.setIfInBounds_toArray, List.set_cons_zero, List.set_cons_succ]
    refine' wpAnyH_take (i := 15) (v := .tuple #[.slice A1 n c1, .slice A2 n c2, .int .i64 0]) rfl (by kernel_rfl) (by kernel_rfl) (by kernel_rfl) (fun _ _ _ h => h) (Or.inl ⟨by rfl, fun w' hw' => by go_simp⟩) hHeld ?_
    try simp only [Act.put, List.getElem_toArray, List.getElem_cons_succ, List.getElem_cons_zero, List.setIfInBounds_toArray, List.set_cons_zero, List.set_cons_succ]
    refine' wpAnyH_take (i := 16) (v := .slice A1 n c1) rfl (by kernel_rfl) (by kernel_rfl) (by kernel_rfl) (fun _ _ _ h => h) (Or.inl ⟨by rfl, fun w' hw' => by go_simp⟩) hHeld ?_
    try simp only [Act.put, List.getElem_toArray, List.getElem_cons_succ, List.getElem_cons_zero, List.setIfInBounds_toArray, List.set_cons_zero, List.set_cons_succ]
    refine' wpAnyH_take (i := 17) (v := .slice A2 n c2) rfl (by kernel_rfl) (by kernel_rfl) (by kernel_rfl) (fun _ _ _ h => h) (Or.inl ⟨by rfl, fun w' hw' => by go_simp⟩) hHeld ?_
    try simp only [Act.put, List.getElem_toArray, List.getElem_cons_succ, List.getElem_cons_zero, List.setIfInBounds_toArray, List.set_cons_zero, List.set_cons_succ]
    refine' wpAnyH_take (i := 18) (v := .int .i64 0) rfl (by kernel_rfl) (by kernel_rfl) (by kernel_rfl) (fun _ _ _ h => h) (Or.inl ⟨by rfl, fun w' hw' => by go_simp⟩) hHeld ?_
    try simp only [Act.put, List.getElem_toArray, List.getElem_cons_succ, List.getElem_cons_zero, List.setIfInBounds_toArray, List.set_cons_zero, List.set_cons_succ]
    refine' wpAnyH_take (i := 19) (v := .pointer (some ⟨w3.heap.size, 1, none⟩)) rfl (by kernel_rfl) (by kernel_rfl) (by kernel_rfl) (fun _ _ _ h => h) (Or.inl ⟨by rfl, fun w' hw' => by go_simp⟩) hHeld ?_
    try simp only [Act.put, List.getElem_toArray, List.getElem_cons_succ, List.getElem_cons_zero, List.setIfInBounds_toArray, List.set_cons_zero, List.set_cons_succ]
    refine wpAnyH_ready (rs := [20]) (by kernel_rfl) (by simp) ?_
    refine AllReadyH.cons rfl (fun K hK => ?_) AllReadyH.nil
    rw [if_pos (by rfl)]
    refine wp_store_cell 22 _ _ rfl w3.heap.size 1 _ 63 hb8 (.slice A1 n c1) rfl rfl infoRow1 (show 1 + 1 ≤ 4 by decide) rfl rfl ?_
    have hb8' := hb8
    intro w20 hb20 hg20
    replace hb8 : Blk w20 w3.heap.size 63 (#[.int .i64 nx, .slice A1 n c1, .slice none 0 0, .slice A3 m c3]) := hb20
    replace hown1 := own_sig hown1 hb8' hg20
    replace hown2 := own_sig hown2 hb8' hg20
    replace hown5 := own_sig hown5 hb8' hg20
    refine hK.out _ _ (hHeld.grown hg20 hHeld.size (by intro i e; cases e; exact hge0)) (fun hHeld => ?_)
    clear hK K
    try simp only [Act.put, List.getElem_toArray, List.getElem_cons_succ, List.getElem_cons_zero, List.setIfInBounds_toArray, List.set_cons_zero, List.set_cons_succ]
    refine' wpAnyH_take (i := 21) (v := .pointer (some ⟨w3.heap.size, 2, none⟩)) rfl (by kernel_rfl) (by kernel_rfl) (by kernel_rfl) (fun _ _ _ h => h) (Or.inl ⟨by rfl, fun w' hw' => by go_simp⟩) hHeld ?_
    try simp only [Act.put, List.getElem_toArray, List.getElem_cons_succ, List.getElem_cons_zero, List.setIfInBounds_toArray, List.set_cons_zero, List.set_cons_succ]
    refine wpAnyH_ready (rs := [22]) (by kernel_rfl) (by simp) ?_
    refine AllReadyH.cons rfl (fun K hK => ?_) AllReadyH.nil
    rw [if_pos (by rfl)]
    refine wp_store_cell 22 _ _ rfl w3.heap.size 2 _ 63 hb8 (.slice A2 n c2) rfl rfl infoRow1 (show 2 + 1 ≤ 4 by decide) rfl rfl ?_
    have hb8' := hb8
    intro w22 hb22 hg22
    replace hb8 : Blk w22 w3.heap.size 63 (sigC nx (.slice A1 n c1) (.slice A2 n c2) (.slice A3 m c3)) := hb22
    replace hown1 := own_sig hown1 hb8' hg22
    replace hown2 := own_sig hown2 hb8' hg22
    replace hown5 := own_sig hown5 hb8' hg22
    refine hK.out _ _ (hHeld.grown hg22 hHeld.size (by intro i e; cases e; exact hge0)) (fun hHeld => ?_)
    clear hK K
    try simp only [Act.put, List.getElem_toArray, List.getElem_cons_succ, List.getElem_cons_zero, List.setIfInBounds_toArray, List.set_cons_zero, List.set_cons_succ]
    refine wpAnyH_done (by kernel_rfl) ?_ _
    clear cS
    have hSa := hS3.below hHeld
    have q35 := hSa.c35
    have hRa := hR3.below hHeld
    have hBa := hB3.trans (hHeld.mono hB3.size)
    go_wp2_with (with_reducible refine wpList_store_cell rfl 3 _ _ rfl g 35 _ 151 hSa.blk (.int .i64 ((nx : Int) + 1)) rfl rfl infoInt1 ?s1 rfl rfl ?_)
    case s1 => rw [sgC_size _ _ _ _ _ _ (ofB_length _ _ _)]; decide
    intro w31 hb31 hg31
    have hgw : g < w.heap.size := hS.blk.lt
    have hx31 : Blk w31 w3.heap.size 63 (sigC nx (.slice A1 n c1) (.slice A2 n c2) (.slice A3 m c3)) := blk_gb hb8 hg31 (by omega)
    have hR31 := blk_gb hRa hg31 (by omega)
    have o1 := own_gbl hown1 hg31 (by omega)
    have o2 := own_gbl hown2 hg31 (by omega)
    have o5 := own_gbl hown5 hg31 (by omega)
    clear hown1 hown2 hown5 hb8 hRa
    go_wp2_with (first
      | (with_reducible refine wpList_load_blk rfl 63 _ rfl w3.heap.size (sigC nx (.slice A1 n c1) (.slice A2 n c2) (.slice A3 m c3)) 63 hx31 rfl _ Try.underlying63 (by with_unfolding_all rfl) (infoSigC _ _ _ _) ?_)
      | (with_reducible refine wpList_store_blk rfl 63 _ _ rfl (w.heap.size + 1) _ (sigC nx (.slice A1 n c1) (.slice A2 n c2) (.slice A3 m c3)) 63 hR31 rfl rfl (infoSigC _ _ _ _) (by with_unfolding_all rfl) (sigC_one _ _ _ _ _ _ _ _ _ _) ?_))
    intro w32 hb32 hg32
    go_wp2
    refine bodyPost_ret (results_cellt rfl _ _ _ _ _ _ rfl hb32 Try.underlying63 rfl infoSig) rfl ⟨A1, c1, A2, c2, A3, c3, rfl, own_mono (own_gbl o1 hg32 (by omega)) (by omega), own_mono (own_gbl o2 hg32 (by omega)) (by omega), own_mono (own_gbl o5 hg32 (by omega)) (by omega), ⟨?_, ?_⟩, gb_high (gb_after hBa hg31) hg32 (by omega)⟩
    · have := blk_gb hb31 hg32 (by omega)
      rw [over_set _ _ _ (by rw [sgC_size _ _ _ _ _ _ (ofB_length _ _ _)]; decide), sgC_next _ _ _ _ _ _ _ (ofB_length _ _ _)] at this
      rw [show ((nx + 1 : Nat) : Int) = (nx : Int) + 1 by omega]
      exact this
    · obtain ⟨V, x, y, z⟩ := hSa.old
      exact ⟨V, x, (y.grown hg31 y.size (by intro i e; cases e; exact z)).grown hg32 (Nat.le_trans y.size hg31.size) (by intro i e; cases e; omega), z⟩
end Go.Proofs.Ythpdkdalfjahcaa

namespace Go.Proofs.Ythpdkdalfjahcaa
open Go.RowKit Go.Qc
attribute [local go_sem] txt_size txt_append ib_fold

set_option maxRecDepth 100000 in
set_option maxHeartbeats 8000000 in
theorem ssign_spent (g gr cr : Nat) (s : List UInt8) (n m : Nat) (hr : rgtP n m = true) (a : List UInt8) (w : World) (hS : SgS w g gr cr n m s (2 ^ m)) :
    Calls Try.prog 91 #[.pointer (some ⟨g, 0, none⟩), .agg (idVals a)] w fun e w' => e = .returned (.tuple #[.agg #[.int .i64 0, .slice none 0 0, .slice none 0 0, .slice none 0 0], .int .i64 8]) ∧ Below w.heap.size w w' := by
  have cL := fun W h => left_any9 g gr cr s n m hr (2 ^ m) (Nat.le_refl _) W h
  have hk1 : (w.alloc (.cells (idVals a) 24)).heap.size = w.heap.size + 1 := by simp
  have hR0 := Blk.new (w.alloc (.cells (idVals a) 24)) 63 #[.int .i64 0, .slice none 0 0, .slice none 0 0, .slice none 0 0]
  rw [hk1] at hR0
  have hB0 : Below w.heap.size w ((w.alloc (.cells (idVals a) 24)).alloc (.cells #[.int .i64 0, .slice none 0 0, .slice none 0 0, .slice none 0 0] 63)) := ((Below.refl _ _).alloc (Nat.le_refl _) _).alloc (by simp) _
  have hS0 := hS.below hB0
  generalize 2 ^ m = P at *
  have zL : ((P : Int) - (P : Int) == 0) = true := by simp
  clear hr hk1 hS
  go_enter Try.func91, Try.ntmps91
  go_wp2_with (first
    | (go_at_call 120; (with_reducible refine (cL _ hS0).mono ?_); rintro e1 w3 ⟨rfl, hb3⟩; have hR3 := hR0.below hb3; have hB3 := hB0.trans (hb3.mono hB0.size))
    | (with_reducible refine wpList_store_blk rfl 63 _ _ rfl (w.heap.size + 1) _ #[.int .i64 0, .slice none 0 0, .slice none 0 0, .slice none 0 0] 63 hR3 rfl rfl (by with_unfolding_all exact infoSig) (by with_unfolding_all rfl) ?one ?_))
  case one => simp [Value.oneCell']
  intro w7 hb7 hg7
  go_wp2
  refine bodyPost_ret (results_cellt rfl _ _ _ _ _ _ rfl hb7 Try.underlying63 rfl infoSig) rfl ⟨rfl, ?_⟩
  exact hB3.grown hg7 hB3.size (by intro i e; cases e; omega)
set_option maxRecDepth 100000 in
set_option maxHeartbeats 8000000 in
theorem awake8_any (w : World) :
    Calls Try.prog 44 #[] w fun e w' => e = .returned (.bool true) ∧ Below w.heap.size w w' := by
  have hr : rgtP ((8 : Nat) : Int) ((1 : Nat) : Int) = true := by decide
  have cN : ∀ W : World, Calls Try.prog 90 #[.agg #[.int .i64 8, .int .i64 1], .string ⟨#[115]⟩, .int .i64 0] W fun e w' => ∃ g gr cr, e = .returned (.tuple #[.pointer (some ⟨g, 0, none⟩), .int .i64 0]) ∧ SgS w' g gr cr 8 1 [115] 0 ∧ W.heap.size ≤ g ∧ Below W.heap.size W w' := fun W => snew_any [115] (by decide) 8 1 hr (by decide) 0 (by decide) W
  have c1 : ∀ g gr cr W, SgS W g gr cr 8 1 [115] 0 → Calls Try.prog 91 #[.pointer (some ⟨g, 0, none⟩), .agg #[.int .u8 1, .int .u8 0, .int .u8 0, .int .u8 0, .int .u8 0, .int .u8 0, .int .u8 0, .int .u8 0, .int .u8 0, .int .u8 0, .int .u8 0, .int .u8 0, .int .u8 0, .int .u8 0, .int .u8 0, .int .u8 0, .int .u8 0, .int .u8 0, .int .u8 0, .int .u8 0, .int .u8 0, .int .u8 0, .int .u8 0, .int .u8 0, .int .u8 0, .int .u8 0, .int .u8 0, .int .u8 0, .int .u8 0, .int .u8 0, .int .u8 0, .int .u8 0]] W fun e w' => ∃ A1 c1 A2 c2 A3 c3, e = .returned (.tuple #[.agg (sigC 0 (.slice A1 8 c1) (.slice A2 8 c2) (.slice A3 1 c3)), .int .i64 0]) ∧ SgS w' g gr cr 8 1 [115] 1 ∧ W.grownBy w' (some g) := fun g gr cr W h => by
    have e1 : (#[.int .u8 1, .int .u8 0, .int .u8 0, .int .u8 0, .int .u8 0, .int .u8 0, .int .u8 0, .int .u8 0, .int .u8 0, .int .u8 0, .int .u8 0, .int .u8 0, .int .u8 0, .int .u8 0, .int .u8 0, .int .u8 0, .int .u8 0, .int .u8 0, .int .u8 0, .int .u8 0, .int .u8 0, .int .u8 0, .int .u8 0, .int .u8 0, .int .u8 0, .int .u8 0, .int .u8 0, .int .u8 0, .int .u8 0, .int .u8 0, .int .u8 0, .int .u8 0] : Array Value) = idVals (1 :: List.replicate 31 0 : List UInt8) := rfl
    rw [e1]
    refine (ssign_any g gr cr [115] (by decide) 8 1 hr (by decide) 0 (by decide) (1 :: List.replicate 31 0 : List UInt8) rfl W h).mono ?_
    rintro e w' ⟨A1, c1, A2, c2, A3, c3, h1, _, _, _, h2, h3⟩
    exact ⟨A1, c1, A2, c2, A3, c3, h1, h2, h3⟩
  have c2 : ∀ g gr cr W, SgS W g gr cr 8 1 [115] 1 → Calls Try.prog 91 #[.pointer (some ⟨g, 0, none⟩), .agg #[.int .u8 2, .int .u8 0, .int .u8 0, .int .u8 0, .int .u8 0, .int .u8 0, .int .u8 0, .int .u8 0, .int .u8 0, .int .u8 0, .int .u8 0, .int .u8 0, .int .u8 0, .int .u8 0, .int .u8 0, .int .u8 0, .int .u8 0, .int .u8 0, .int .u8 0, .int .u8 0, .int .u8 0, .int .u8 0, .int .u8 0, .int .u8 0, .int .u8 0, .int .u8 0, .int .u8 0, .int .u8 0, .int .u8 0, .int .u8 0, .int .u8 0, .int .u8 0]] W fun e w' => ∃ A1 c1 A2 c2 A3 c3, e = .returned (.tuple #[.agg (sigC 1 (.slice A1 8 c1) (.slice A2 8 c2) (.slice A3 1 c3)), .int .i64 0]) ∧ SgS w' g gr cr 8 1 [115] 2 ∧ W.grownBy w' (some g) := fun g gr cr W h => by
    have e2 : (#[.int .u8 2, .int .u8 0, .int .u8 0, .int .u8 0, .int .u8 0, .int .u8 0, .int .u8 0, .int .u8 0, .int .u8 0, .int .u8 0, .int .u8 0, .int .u8 0, .int .u8 0, .int .u8 0, .int .u8 0, .int .u8 0, .int .u8 0, .int .u8 0, .int .u8 0, .int .u8 0, .int .u8 0, .int .u8 0, .int .u8 0, .int .u8 0, .int .u8 0, .int .u8 0, .int .u8 0, .int .u8 0, .int .u8 0, .int .u8 0, .int .u8 0, .int .u8 0] : Array Value) = idVals (2 :: List.replicate 31 0 : List UInt8) := rfl
    rw [e2]
    refine (ssign_any g gr cr [115] (by decide) 8 1 hr (by decide) 1 (by decide) (2 :: List.replicate 31 0 : List UInt8) rfl W h).mono ?_
    rintro e w' ⟨A1, c1, A2, c2, A3, c3, h1, _, _, _, h2, h3⟩
    exact ⟨A1, c1, A2, c2, A3, c3, h1, h2, h3⟩
  have c3 : ∀ g gr cr W, SgS W g gr cr 8 1 [115] 2 → Calls Try.prog 91 #[.pointer (some ⟨g, 0, none⟩), .agg #[.int .u8 3, .int .u8 0, .int .u8 0, .int .u8 0, .int .u8 0, .int .u8 0, .int .u8 0, .int .u8 0, .int .u8 0, .int .u8 0, .int .u8 0, .int .u8 0, .int .u8 0, .int .u8 0, .int .u8 0, .int .u8 0, .int .u8 0, .int .u8 0, .int .u8 0, .int .u8 0, .int .u8 0, .int .u8 0, .int .u8 0, .int .u8 0, .int .u8 0, .int .u8 0, .int .u8 0, .int .u8 0, .int .u8 0, .int .u8 0, .int .u8 0, .int .u8 0]] W fun e w' => e = .returned (.tuple #[.agg #[.int .i64 0, .slice none 0 0, .slice none 0 0, .slice none 0 0], .int .i64 8]) ∧ Below W.heap.size W w' := fun g gr cr W h => by
    have e3 : (#[.int .u8 3, .int .u8 0, .int .u8 0, .int .u8 0, .int .u8 0, .int .u8 0, .int .u8 0, .int .u8 0, .int .u8 0, .int .u8 0, .int .u8 0, .int .u8 0, .int .u8 0, .int .u8 0, .int .u8 0, .int .u8 0, .int .u8 0, .int .u8 0, .int .u8 0, .int .u8 0, .int .u8 0, .int .u8 0, .int .u8 0, .int .u8 0, .int .u8 0, .int .u8 0, .int .u8 0, .int .u8 0, .int .u8 0, .int .u8 0, .int .u8 0, .int .u8 0] : Array Value) = idVals (3 :: List.replicate 31 0 : List UInt8) := rfl
    rw [e3]
    exact ssign_spent g gr cr [115] 8 1 hr (3 :: List.replicate 31 0 : List UInt8) W h
  clear hr
  go_enter Try.func44, Try.ntmps44
  go_wp2_with (first
    | (go_at_call 90; (with_reducible refine (cN _).mono ?_); rintro e1 w1 ⟨g, gr, cr, rfl, hS1, hgg, hb1⟩)
    | (go_at_call 91; first
      | ((with_reducible refine (c1 _ _ _ _ hS1).mono ?_); rintro e2 w2 ⟨A1, k1, A2, k2, A3, k3, rfl, hS2, hg2⟩)
      | ((with_reducible refine (c2 _ _ _ _ (hS2.below ((Below.refl _ _).alloc (Nat.le_refl _) _))).mono ?_); rintro e3 w3 ⟨B1, l1, B2, l2, B3, l3, rfl, hS3, hg3⟩)
      | ((with_reducible refine (c3 _ _ _ _ (hS3.below ((Below.refl _ _).alloc (Nat.le_refl _) _))).mono ?_); rintro e4 w4 ⟨rfl, hb4⟩))
    | (with_reducible refine wpList_store_new rfl 63 _ _ rfl (sigC _ _ _ _) rfl rfl (infoSigC _ _ _ _) (by with_unfolding_all rfl) (sigC_one _ _ _ _ _ _ _ _ _ _) ?_))
  go_ret
  refine ⟨rfl, ?_⟩
  have b2 := hb1.grown hg2 hb1.size (by intro i e; cases e; exact hgg)
  have b3 := (b2.alloc b2.size (.cells (sigC 0 (.slice A1 8 k1) (.slice A2 8 k2) (.slice A3 1 k3)) 63)).grown hg3 (b2.alloc b2.size _).size (by intro i e; cases e; exact hgg)
  have b4 := (b3.alloc b3.size (.cells (sigC 1 (.slice B1 8 l1) (.slice B2 8 l2) (.slice B3 1 l3)) 63)).trans (hb4.mono (b3.alloc b3.size _).size)
  exact b4.alloc b4.size _
end Go.Proofs.Ythpdkdalfjahcaa

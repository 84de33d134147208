
/- keytree: ways, of the program and of the document. -/
import Derived.Test.YtfdbgmnnahcejaaKtK
namespace Go.Proofs.Ytfdbgmnnahcejaa
open Go.RowKit Go.Qc
attribute [local go_sem] txt_size txt_append ib_fold

theorem xor_fact {i : Nat} (hi : i < 32) : bits BinOp.xor IntKind.i64 (i : Int) 1 = ((besideN i : Nat) : Int) := by
  have key : ∀ j : Fin 32, bits BinOp.xor IntKind.i64 (j.val : Int) 1 = ((besideN j.val : Nat) : Int) := by decide
  exact key ⟨i, hi⟩
theorem beside_lt {i q : Nat} (h : i < 2 * q) : besideN i < 2 * q := by unfold besideN; split <;> omega
theorem div_lt_pow {L m i : Nat} (h : L < 2 ^ m) (hi : i < m) : L / 2 ^ i < 2 * 2 ^ (m - (i + 1)) := by
  rw [← pow_half hi]
  apply Nat.div_lt_of_lt_mul
  rw [← Nat.pow_add, show i + (m - i) = m by omega]
  exact h
set_option maxRecDepth 100000 in
set_option maxHeartbeats 8000000 in
theorem kway_any (s : List UInt8) (hs : s.length ≤ 1000) (n m : Nat) (hr : rgtP n m = true) (hm5 : m ≤ 5) (L : Nat) (hL : L < 2 ^ m) (w : World) :
    Calls Try.prog 58 #[.agg #[.int .i64 n, .int .i64 m], .string (txt s), .int .i64 L] w fun e w' => ∃ v, e = .returned (.tuple #[v, .int .i64 0]) ∧ w'.ownsRow w.heap.size 24 32 v m (idsV (upTo (wayF (lfF s n) L) m)) ∧ Below w.heap.size w w' := by
  have hu := Try.underlying24
  obtain ⟨j0, hj, hjz, hjs, hjb⟩ := infoId2_parts
  have cR := fun W => kright_any n m W
  rw [hr] at cR
  have cL := fun W => kleafs_any s hs n m hr W
  have cN := fun W => kleaves_any n m W
  rw [lvs_ok hr] at cN
  have h32 := upTo_32 (lfF s n) (lfF_length s n) (2 ^ m)
  have hP : 2 ^ m ≤ 2 ^ 5 := Nat.pow_le_pow_right (by decide) hm5
  have cF := fun A c W h => fold_any A c (upTo (lfF s n) (2 ^ m)) m hm5 W h
  rw [root_eq] at cF
  have hf0 := lfF_length s n
  have hrowsE : ∀ W b k vs, FoldR W b (getB (upTo (lfF s n) (2 ^ m))) m k vs → k ≤ m + 1 → FoldR W b (lfF s n) m k vs := fun W b k vs h hk => by
    refine ⟨h.1, fun j hj => ?_⟩
    obtain ⟨v, h1, h2⟩ := h.2 j hj
    refine ⟨v, h1, ?_⟩
    rw [upTo_congr (2 ^ (m - j)) (g := ndB (getB (upTo (lfF s n) (2 ^ m))) j) (fun i hi => ndB_congr j i fun x _ hx => ?_)]
    · exact h2
    · have : (i + 1) * 2 ^ j ≤ 2 ^ m := by
        have e : 2 ^ m = 2 ^ (m - j) * 2 ^ j := by rw [← Nat.pow_add, show m - j + j = m by omega]
        rw [e]
        exact Nat.mul_le_mul_right _ (by omega)
      exact (getB_upTo _ (by omega)).symm
  obtain ⟨R, hR⟩ : ∃ R, R = ndB (lfF s n) m 0 := ⟨_, rfl⟩
  have lR : R.length = 32 := by rw [hR]; exact ndB_length _ hf0 _ _
  rw [← hR] at cF
  generalize lfF s n = f at *
  have HRE := hid hrowsE
  have HDL := hid (show ∀ i, i < m → L / 2 ^ i < 2 * 2 ^ (m - (i + 1)) from fun i hi => div_lt_pow hL hi)
  have HPM := hid (show ∀ i, i < m → 2 * 2 ^ (m - (i + 1)) ≤ 32 from fun i hi => by rw [← pow_half hi]; exact Nat.le_trans (Nat.pow_le_pow_right (by decide) (by omega)) hP)
  have HLR := hid lR
  have H32 := hid h32
  have hb1 : ¬ ((L : Int) < 0) := by omega
  have hb2 : ¬ (((2 ^ m : Nat) : Int) ≤ (L : Int)) := by omega
  have hP2 : 2 ^ m ≤ 32 := hP
  generalize hLeq : upTo f (2 ^ m) = LL at *
  generalize 2 ^ m = P at *
  have hp2 := par_new w n m
  have hB0 : Below w.heap.size w (w.alloc (.cells #[.int .i64 n, .int .i64 m] 63)) := (Below.refl _ _).alloc (Nat.le_refl _) _
  have hL32 : L < 32 := by omega
  clear hrowsE hR lR h32 hs hr hP hLeq hL
  go_enter Try.func58, Try.ntmps58
  go_wp2_with (first
    | (go_at_call 51; (with_reducible refine (cR _).mono ?_); rintro e1 w1 ⟨rfl, hb3⟩; replace hp2 := hp2.below hb3; replace hB0 := hB0.trans (hb3.mono hB0.size); clear hb3; have p0 := hp2.cell_ (i := 0) rfl; have p1 := hp2.cell_ (i := 1) rfl)
    | (go_at_call 52; (with_reducible refine (cN _).mono ?_); rintro e2 w2 ⟨rfl, hb3⟩; replace hp2 := hp2.below hb3; replace hB0 := hB0.trans (hb3.mono hB0.size); clear hb3 p0 p1; have q0 := hp2.cell_ (i := 0) rfl; have q1 := hp2.cell_ (i := 1) rfl)
    | (go_at_call 121; (with_reducible refine (cL _).mono ?_); rintro e4 w4 ⟨v4, rfl, hown4, hb4⟩; obtain ⟨A4, c4, rfl, hrow4⟩ := RowAt.own hown4 H32.out (by omega); replace hp2 := hp2.below hb4; replace hB0 := hB0.trans (hb4.mono hB0.size); clear q0 q1 hb4)
    | (go_at_call 62; (with_reducible refine (cF _ _ _ hrow4.r).mono ?_); rintro e5 w5 ⟨v5, vs5, rfl, hv5, hf5, hb5⟩; obtain ⟨gr, cr, rfl, hrows⟩ := RowsF.of hm5 hf0 hv5 (HRE.out _ _ _ _ hf5 (Nat.le_refl _)); replace hp2 := hp2.below hb5; replace hB0 := hB0.trans (hb5.mono hB0.size); clear hb5 hv5 hf5)
    | ((with_reducible refine wpList_store_newid rfl _ _ rfl R HLR.out rfl rfl (by with_unfolding_all rfl) ?_); intro w6 hx6 hb6; replace hp2 := hp2.below hb6; replace hB0 := hB0.trans (hb6.mono hB0.size); replace hrows := hrows.below hb6; clear hb6 hx6; have r1 := hp2.cell_ (i := 1) rfl)
    | (at_make; refine wpList_make_full _ rfl _ _ 22 rfl (w.heap.size + 1) 24 j0 (.agg (idVals zeroB)) 32 Try.underlying22 hj hjz hjs _ _ _ _ m rfl rfl ?c0 ?c1 ?c2 ?c3 ?c4 ?_))
  case c0 => rfl
  case c1 => rfl
  case c2 => rw [hjb]; omega
  case c3 => unfold maxLen; omega
  case c4 => exact hp2.lt
  intro w7 hown7 hg7
  have hB7 := hB0.grown hg7 hB0.size (by intro i e; cases e)
  have hb67 : Below w6.heap.size w6 w7 := (Below.refl _ _).grown hg7 (Nat.le_refl _) (by intro i e; cases e)
  have hg0 : w.heap.size + 1 ≤ w6.heap.size := hp2.lt
  have hm7 : MadeP w m w6.heap.size (wayF f L) 0 w7 := MadeP.start (own_mono hown7 (Nat.le_succ _)) hB7
  clear hown7 hg7 hB7 hB0 hp2 r1 cR cL cN cF hrow4 hown4
  go_wp2
  go_loopw [2, 35] (fun lv iv wr => ∃ i : Nat, i ≤ m ∧ iv = .int .i64 i ∧ lv = .int .i64 (L / 2 ^ i : Nat) ∧ MadeP w m w6.heap.size (wayF f L) i wr ∧ Below w6.heap.size w6 wr) (fun _ iv _ => m - (intOf iv).toNat)
  case atStart => exact ⟨0, by omega, rfl, (by rw [Nat.pow_zero, Nat.div_one]), hm7, hb67⟩
  case round =>
    obtain ⟨i, hi, rfl, rfl, hm, hb⟩ := hrel
    clear hm7 hb67
    by_cases hlt : i < m
    · obtain ⟨A8, c8, hcell, hrow⟩ := (hrows.below hb) i (by omega)
      have hph := pow_half hlt
      rw [hph] at hcell hrow
      have hx2 := HDL.out i hlt
      have hx3 := HPM.out i hlt
      have HS := hid (div_pow_succ L i)
      have hZw : wayF f L i = ndB f i (besideN (L / 2 ^ i)) := rfl
      generalize L / 2 ^ i = x at *
      generalize 2 ^ (m - (i + 1)) = q at *
      have hxb := beside_lt hx2
      have hxor := xor_fact (i := x) (by omega)
      obtain ⟨gx, qx, hgx, lx, hix⟩ := hrow.2.2.pick c8 hrow.1 (upTo_get (ndB f i) (2 * q) (besideN x) hxb)
      rw [← hZw] at hgx lx
      obtain ⟨Z, hZ⟩ : ∃ Z, Z = wayF f L i := ⟨_, rfl⟩
      rw [← hZ] at hgx lx
      have hio := index_own w6.heap.size m i hlt
      have hzx : (Try.prog.info? 24).map (·.size) = some (Z.map u8v).length := by rw [List.length_map, lx]; exact sizeId
      obtain ⟨cs, hC, hCs, hCt⟩ := hm.blk
      have b1 : (i : Int) < m := by omega
      have b2 : (i : Int) < (m : Int) + 1 := by omega
      have hq : ((x : Int)).tdiv 2 = ((x / 2 : Nat) : Int) := (half_facts x).1
      have hwx : wrap64 ((x : Int) / 2) = (x : Int) / 2 := by unfold wrap64; omega
      have HZ := hid hZ
      have HZL := hid lx
      have HB := hid hxb
      clear hZ lx hZw hx2 hx3 hph hxb hrow
      generalize besideN x = y at *
      go_wp2_with (first
        | (with_reducible refine wpList_load_if (by with_unfolding_all rfl) 24 _ rfl _ _ rfl (Z.map u8v) _ hgx hu (by with_unfolding_all rfl) hzx ?_)
        | (with_reducible refine wpList_store_at rfl 24 _ _ rfl w6.heap.size (i * 32) cs (idVals Z) 24 hC rfl rfl ?d1 ?d2 (idVals_one _) ?_))
      case d1 => rw [idVals_size, HZL.out]; try exact sizeId
      case d2 => rw [idVals_size, HZL.out, hCs]; omega
      intro w9 hb9 hg9
      have hm9 := hm.put hC hCs hCt hb9 hg9 hlt HZL.out HZ.out
      have hb10 := hb.grown hg9 hb.size (by intro k e; cases e; exact Nat.le_refl _)
      go_wp2
      go_roundw
      case rel => exact ⟨i + 1, by omega, by go_num, (by rw [← HS.out]; try (first | rfl | (simp; done) | (simp; exact hwx))), hm9, hb10⟩
      case measure => simp [intOf]; omega
    · obtain rfl : i = m := by omega
      have b1 : ¬ (i : Int) < i := by omega
      generalize L / 2 ^ i = x at *
      go_wp2
      go_ret2
      exact ⟨_, rfl, hm.own (by unfold maxLen; omega) (fun b => ndB_length f hf0 _ _), hm.bel⟩
set_option maxRecDepth 100000 in
set_option maxHeartbeats 8000000 in
theorem kway_arg (s : List UInt8) (b h : Int) (hr : rgtP b h = false) (L : Int) (w : World) :
    Calls Try.prog 58 #[.agg #[.int .i64 b, .int .i64 h], .string (txt s), .int .i64 L] w fun e w' => e = .returned (.tuple #[.slice none 0 0, .int .i64 1]) ∧ Below w.heap.size w w' := by
  have cR := fun W => kright_any b h W
  rw [hr] at cR
  have hB : ∀ o, Below w.heap.size w (w.alloc o) := fun o => (Below.refl _ _).alloc (Nat.le_refl _) o
  clear hr
  go_enter Try.func58, Try.ntmps58
  go_wp2_with (first
    | (go_at_call 51; (with_reducible refine (cR _).mono ?_); rintro e1 w1 ⟨rfl, hb3⟩))
  go_ret2
  exact ⟨rfl, (hB _).trans (hb3.mono (hB _).size)⟩
set_option maxRecDepth 100000 in
set_option maxHeartbeats 8000000 in
theorem kway_range (s : List UInt8) (n m : Nat) (hr : rgtP n m = true) (L : Int) (hL : L < 0 ∨ ((2 ^ m : Nat) : Int) ≤ L) (w : World) :
    Calls Try.prog 58 #[.agg #[.int .i64 n, .int .i64 m], .string (txt s), .int .i64 L] w fun e w' => e = .returned (.tuple #[.slice none 0 0, .int .i64 5]) ∧ Below w.heap.size w w' := by
  have cR := fun W => kright_any n m W
  rw [hr] at cR
  have cN := fun W => kleaves_any n m W
  rw [lvs_ok hr] at cN
  have hp2 := par_new w n m
  have hB0 : Below w.heap.size w (w.alloc (.cells #[.int .i64 n, .int .i64 m] 63)) := (Below.refl _ _).alloc (Nat.le_refl _) _
  generalize 2 ^ m = P at *
  clear hr
  by_cases h0 : L < 0
  · go_enter Try.func58, Try.ntmps58
    go_wp2_with (first
      | (go_at_call 51; (with_reducible refine (cR _).mono ?_); rintro e1 w1 ⟨rfl, hb3⟩; replace hp2 := hp2.below hb3; replace hB0 := hB0.trans (hb3.mono hB0.size); have p0 := hp2.cell_ (i := 0) rfl; have p1 := hp2.cell_ (i := 1) rfl)
      | (go_at_call 52; (with_reducible refine (cN _).mono ?_); rintro e2 w2 ⟨rfl, hb4⟩; replace hB0 := hB0.trans (hb4.mono hB0.size)))
    go_ret2
    exact ⟨rfl, hB0⟩
  · have h1 : (P : Int) ≤ L := by omega
    have z0 : decide (L < 0) = false := decide_eq_false h0
    clear hL
    go_enter Try.func58, Try.ntmps58
    go_wp2_with (first
      | (go_at_call 51; (with_reducible refine (cR _).mono ?_); rintro e1 w1 ⟨rfl, hb3⟩; replace hp2 := hp2.below hb3; replace hB0 := hB0.trans (hb3.mono hB0.size); have p0 := hp2.cell_ (i := 0) rfl; have p1 := hp2.cell_ (i := 1) rfl)
      | (go_at_call 52; (with_reducible refine (cN _).mono ?_); rintro e2 w2 ⟨rfl, hb4⟩; replace hB0 := hB0.trans (hb4.mono hB0.size)))
    go_ret2
    exact ⟨rfl, hB0⟩

/-! ### the document's -/
set_option maxRecDepth 100000 in
set_option maxHeartbeats 8000000 in
theorem rway_any (s : List UInt8) (hs : s.length ≤ 1000) (n m : Nat) (hr : rgtP n m = true) (hm5 : m ≤ 5) (L : Nat) (hL : L < 2 ^ m) (w : World) :
    Calls Try.prog 61 #[.agg #[.int .i64 n, .int .i64 m], .string (txt s), .int .i64 L] w fun e w' => ∃ v, e = .returned v ∧ w'.ownsRow w.heap.size 24 32 v m (idsV (upTo (wayF (lfF s n) L) m)) ∧ Below w.heap.size w w' := by
  obtain ⟨j0, hj, hjz, hjs, hjb⟩ := infoId2_parts
  have hn8 : n ≤ 256 := by have := rgt_le9 (rgtP_parts hr).1; omega
  have cN : ∀ (j i : Nat) (W : World), j ≤ 5 → i ≤ 40 → Calls Try.prog 124 #[.agg #[.int .i64 n, .int .i64 m], .string (txt s), .int .i64 j, .int .i64 i] W fun e w' => e = .returned (.agg (idVals (ndB (lfF s n) j i))) ∧ Below W.heap.size W w' := fun j i W hj hi =>
    rnode_any s hs n m hn8 j i W (by omega) (Nat.le_trans (Nat.mul_le_mul (show i + 1 ≤ 41 by omega) (Nat.pow_le_pow_right (by decide) hj)) (by decide))
  have hf0 := lfF_length s n
  have HDL := hid (show ∀ i, i < m → L / 2 ^ i < 32 from fun i hi => Nat.lt_of_lt_of_le (div_lt_pow hL hi) (by rw [← pow_half hi]; exact Nat.pow_le_pow_right (by decide) (show m - i ≤ 5 by omega)))
  generalize lfF s n = f at *
  have hp2 := par_new w n m
  have hB0 : Below w.heap.size w (w.alloc (.cells #[.int .i64 n, .int .i64 m] 63)) := (Below.refl _ _).alloc (Nat.le_refl _) _
  have hk1 : (w.alloc (.cells #[.int .i64 n, .int .i64 m] 63)).heap.size = w.heap.size + 1 := by simp
  clear hr hs hn8 hL
  go_enter Try.func61, Try.ntmps61
  go_wp2
  have hown0 := World.ownsRow_made (base := w.heap.size + 1) (e := 24) (size := 32) (w.alloc (.cells #[.int .i64 (n : Int), .int .i64 (m : Int)] 63)) #[] 0 (by rw [hk1]; exact Nat.le_refl _) (by decide) rfl
  rw [hk1] at hown0
  replace hp2 := hp2.alloc (.cells #[] 24)
  replace hB0 := hB0.alloc hB0.size (.cells #[] 24)
  generalize (w.alloc (.cells #[.int .i64 (n : Int), .int .i64 (m : Int)] 63)).alloc (.cells #[] 24) = w0 at *
  have HO := hid hown0
  have HP := hid hp2
  have HB := hid hB0
  clear hown0 hp2 hB0
  go_loopw [2, 7, 8] (fun lv v iv wr => ∃ i : Nat, i ≤ m ∧ iv = .int .i64 i ∧ lv = .int .i64 (L / 2 ^ i : Nat) ∧ wr.ownsRow (w.heap.size + 1) 24 32 v i (idsV (upTo (wayF f L) i)) ∧ Blk wr w.heap.size 63 #[.int .i64 n, .int .i64 m] ∧ Below w.heap.size w wr) (fun _ _ iv _ => m - (intOf iv).toNat)
  case atStart => exact ⟨0, by omega, rfl, (by rw [Nat.pow_zero, Nat.div_one]), HO.out, HP.out, HB.out⟩
  case round =>
    obtain ⟨i, hi, rfl, rfl, hown, hpr, hb⟩ := hrel
    by_cases hlt : i < m
    · have b1 : (i : Int) < m := by omega
      have p0 := hpr.cell_ (i := 0) rfl
      have p1 := hpr.cell_ (i := 1) rfl
      have hx2 := HDL.out i hlt
      have HS := hid (div_pow_succ L i)
      have hZw : wayF f L i = ndB f i (besideN (L / 2 ^ i)) := rfl
      have hus := upTo_succ (wayF f L) i
      generalize L / 2 ^ i = x at *
      obtain ⟨hq, hrm⟩ := half_facts x
      have cX := fun y W hy => cN i y W (by omega) hy
      obtain ⟨Z, hZ⟩ : ∃ Z, Z = wayF f L i := ⟨_, rfl⟩
      have lZ : Z.length = 32 := by rw [hZ]; exact ndB_length f hf0 _ _
      rw [← hZ] at hZw hus
      have HUS := hid hus
      by_cases hx1 : x % 2 = 1
      · have hmI : ((x % 2 : Nat) : Int) = 1 := by omega
        rw [hmI] at hrm
        have hbs : besideN x = x - 1 := by unfold besideN; rw [if_pos hx1]
        rw [hbs] at hZw
        have cY := fun W => cX (x - 1) W (by omega)
        rw [← hZw, show ((x - 1 : Nat) : Int) = (x : Int) - 1 by omega] at cY
        have b4 : (1 : Int) ≤ x := by omega
        have b5 : (x : Int) ≤ 32 := by omega
        have HX := hid hx1
        clear hZ hus hmI hbs hZw cX hx1
        go_wp2_with (first
          | (go_at_call 124; (with_reducible refine (cY _).mono ?_); rintro e3 w3 ⟨rfl, hb3⟩; replace hb := hb.trans (hb3.mono hb.size); replace hown := own_below hown hb3; replace hpr := hpr.below hb3; clear p0 p1)
          | ((with_reducible refine wpList_build1 rfl _ rfl Z lZ rfl ?_); intro cs hcs)
          | (at_builtin; refine wpList_append_own _ rfl _ _ 22 rfl (w.heap.size + 1) 24 j0 (.agg (idVals zeroB)) 32 32 Try.underlying22 hj hjz hjs hjb rfl (by decide) _ _ _ rfl (hown.alloc _) ⟨w3.heap.size, 0, none⟩ 1 1 (Z.map u8v) rfl ?l1 hcs (u8v_one Z) ?l2 ?l3 ?l4 ?_))
        case l1 => rw [List.length_map, lZ]
        case l2 => unfold maxLen; omega
        case l3 => omega
        case l4 => have := hpr.lt; simp; omega
        intro v8 w8 hown8 hg8 _
        have hbA := hb.alloc hb.size (.cells cs 24)
        have hB8 := hbA.grown hg8 hbA.size (fun k hk => by have := (hown.lt k hk).1; omega)
        have hp8 : Blk w8 w.heap.size 63 #[.int .i64 n, .int .i64 m] := (hg8.block _ (by have := hpr.lt; simp; omega) (by intro e; have := (hown.lt _ e.symm).1; omega)).trans (hpr.alloc _)
        clear hg8 hbA
        go_wp2
        go_roundw
        case rel => exact ⟨i + 1, by omega, by go_num, (by rw [← HS.out]; try (first | rfl | simp)), (by rw [HUS.out, idsV_snoc]; exact hown8), hp8, hB8⟩
        case measure => simp [intOf]; omega
      · have hmI : ((x % 2 : Nat) : Int) = 0 := by omega
        rw [hmI] at hrm
        have hbs : besideN x = x + 1 := by unfold besideN; rw [if_neg hx1]
        rw [hbs] at hZw
        have cY := fun W => cX (x + 1) W (by omega)
        rw [← hZw, show ((x + 1 : Nat) : Int) = (x : Int) + 1 by omega] at cY
        have b5 : (x : Int) ≤ 32 := by omega
        have HX := hid hx1
        clear hZ hus hmI hbs hZw cX hx1
        go_wp2_with (first
          | (go_at_call 124; (with_reducible refine (cY _).mono ?_); rintro e3 w3 ⟨rfl, hb3⟩; replace hb := hb.trans (hb3.mono hb.size); replace hown := own_below hown hb3; replace hpr := hpr.below hb3; clear p0 p1)
          | ((with_reducible refine wpList_build1 rfl _ rfl Z lZ rfl ?_); intro cs hcs)
          | (at_builtin; refine wpList_append_own _ rfl _ _ 22 rfl (w.heap.size + 1) 24 j0 (.agg (idVals zeroB)) 32 32 Try.underlying22 hj hjz hjs hjb rfl (by decide) _ _ _ rfl (hown.alloc _) ⟨w3.heap.size, 0, none⟩ 1 1 (Z.map u8v) rfl ?l1 hcs (u8v_one Z) ?l2 ?l3 ?l4 ?_))
        case l1 => rw [List.length_map, lZ]
        case l2 => unfold maxLen; omega
        case l3 => omega
        case l4 => have := hpr.lt; simp; omega
        intro v8 w8 hown8 hg8 _
        have hbA := hb.alloc hb.size (.cells cs 24)
        have hB8 := hbA.grown hg8 hbA.size (fun k hk => by have := (hown.lt k hk).1; omega)
        have hp8 : Blk w8 w.heap.size 63 #[.int .i64 n, .int .i64 m] := (hg8.block _ (by have := hpr.lt; simp; omega) (by intro e; have := (hown.lt _ e.symm).1; omega)).trans (hpr.alloc _)
        clear hg8 hbA
        go_wp2
        go_roundw
        case rel => exact ⟨i + 1, by omega, by go_num, (by rw [← HS.out]; try (first | rfl | simp)), (by rw [HUS.out, idsV_snoc]; exact hown8), hp8, hB8⟩
        case measure => simp [intOf]; omega
    · obtain rfl : i = m := by omega
      have b1 : ¬ (i : Int) < i := by omega
      have p0 := hpr.cell_ (i := 0) rfl
      have p1 := hpr.cell_ (i := 1) rfl
      generalize L / 2 ^ i = x at *
      go_wp2
      go_ret
      exact ⟨_, rfl, own_mono hown (Nat.le_succ _), hb⟩
end Go.Proofs.Ytfdbgmnnahcejaa

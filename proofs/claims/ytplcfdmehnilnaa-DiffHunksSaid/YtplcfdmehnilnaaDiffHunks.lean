
/- Proved: for any old lines and any new lines quitclaimlaw12.DiffHunks returns true and leaves its arguments as they were. No conditions. -/
import Derived.Test.YtplcfdmehnilnaaDt6
set_option linter.unusedSimpArgs false
set_option linter.unusedVariables false
namespace Go.Proofs.Ytplcfdmehnilnaa
open Go.RowKit Go.Qc Go.Shelf
attribute [local go_sem] txt_size txt_append ib_fold txt_toL


set_option maxRecDepth 100000 in
set_option maxHeartbeats 8000000 in
theorem dh_long (A : Option Addr) (n c : Nat) (x : List (List UInt8)) (B : Option Addr) (m d : Nat) (y : List (List UInt8)) (w : World) (ha : LnRow w A n c x) (hb : LnRow w B m d y) (hl : (longD x || longD y) = true) :
    Calls Try.prog 3 #[.slice A n c, .slice B m d] w fun e w' => e = .returned (.bool true) ∧ Below w.heap.size w w' := by
  have cL := long12_two A n c x B m d y w ha hb
  rw [hl] at cL
  clear ha hb hl
  go_enter Try.func3, Try.ntmps3
  go_wp2_with (fail)
  refine cL.mono ?_
  rintro e1 w1 ⟨rfl, hb1⟩
  go_wp2_with (fail)
  have hX := hb1
  refine (awake12_any _).mono ?_
  rintro e9 w9 ⟨rfl, hb9⟩
  go_wp2_with (fail)
  go_ret
  exact ⟨rfl, hX.trans (hb9.mono hX.size)⟩


set_option maxRecDepth 100000 in
set_option maxHeartbeats 8000000 in
theorem dh_no (A : Option Addr) (n c : Nat) (x : List (List UInt8)) (B : Option Addr) (m d : Nat) (y : List (List UInt8)) (w : World) (ha : LnRow w A n c x) (hb : LnRow w B m d y) (hl : (longD x || longD y) = false) (hxy : (linesR x && linesR y) = false) :
    Calls Try.prog 3 #[.slice A n c, .slice B m d] w fun e w' => e = .returned (.bool true) ∧ Below w.heap.size w w' := by
  have cL := long12_two A n c x B m d y w ha hb
  rw [hl] at cL
  rw [Bool.or_eq_false_iff] at hl
  have q1 := longD_no hl.1
  have q2 := longD_no hl.2
  have cX := hid (fun W (h : Below w.heap.size w W) => rlines_any A n c x ha.1 (by have := ha.1; omega) (fun z hz => by have := q1.2 z hz; omega) W (ha.2.2.2.2.1.below h))
  have cY := hid (fun W (h : Below w.heap.size w W) => rlines_any B m d y hb.1 (by have := hb.1; omega) (fun z hz => by have := q2.2 z hz; omega) W (hb.2.2.2.2.1.below h))
  have o1 := hid (fun W (h : Below w.heap.size w W) => of_no A n c B m d x y ha.1 hb.1 (by have := ha.1; omega) (by have := hb.1; omega) hxy W (ha.2.2.2.2.1.below h) (hb.2.2.2.2.1.below h))
  have o2 := hid (fun W (h : Below w.heap.size w W) => common_no A n c B m d x y ha.1 hb.1 (by have := ha.1; omega) (by have := hb.1; omega) hxy W (ha.2.2.2.2.1.below h) (hb.2.2.2.2.1.below h))
  clear ha hb hl q1 q2
  generalize linesR x = bx at *
  generalize linesR y = by' at *
  go_enter Try.func3, Try.ntmps3
  go_wp2_with (fail)
  refine cL.mono ?_
  rintro e1 w1 ⟨rfl, hb1⟩
  go_wp2_with (fail)
  refine (o1.out w1 hb1).mono ?_
  rintro e2 w2 ⟨rfl, hb2⟩
  have hX2 := hb1.trans (hb2.mono hb1.size)
  go_wp2_with (fail)
  refine (o2.out w2 hX2).mono ?_
  rintro e3 w3 ⟨rfl, hb3⟩
  have hX := hX2.trans (hb3.mono hX2.size)
  clear hb1 hb2 hb3 hX2 o1 o2 cL
  go_wp2_with (fail)
  refine (cX.out w3 hX).mono ?_
  rintro _ _ ⟨rfl, rfl⟩
  cases bx with
  | false =>
    go_wp2_with (fail)
    refine (awake12_any _).mono ?_
    rintro e9 w9 ⟨rfl, hb9⟩
    go_wp2_with (fail)
    go_ret
    exact ⟨rfl, hX.trans (hb9.mono hX.size)⟩
  | true =>
    rw [Bool.true_and] at hxy
    subst hxy
    go_wp2_with (fail)
    refine (cY.out _ hX).mono ?_
    rintro _ _ ⟨rfl, rfl⟩
    go_wp2_with (fail)
    refine (awake12_any _).mono ?_
    rintro e9 w9 ⟨rfl, hb9⟩
    go_wp2_with (fail)
    go_ret
    exact ⟨rfl, hX.trans (hb9.mono hX.size)⟩


theorem meas_k {k N : Nat} (h : k + 1 ≤ N) (hw : wrap64 ((k : Int) + 1) = (k : Int) + 1) : N - (intOf (Value.int .i64 (wrap64 ((k : Int) + 1)))).toNat < N - (intOf (Value.int .i64 (k : Int))).toNat := by
  rw [hw]
  simp only [intOf]
  omega
theorem meas_k3 {k N : Nat} (h : k + 1 ≤ N) : N - (intOf (Value.int .i64 ((k : Int) + 1))).toNat < N - (intOf (Value.int .i64 (k : Int))).toNat := by
  simp only [intOf]
  omega
theorem dh_next {j N : Nat} (h : j + 1 + 1 ≤ N) (hN : N ≤ 81) : Value.int .i64 (wrap64 ((j : Int) + 1 + 1)) = Value.int .i64 ((j + 1 + 1 : Nat) : Int) := by rw [w64_in _ (by omega)]; rfl
theorem dh_zero {k : Nat} (h : k = 0) : ¬ (0 : Int) < (k : Int) ∧ ¬ 0 < k := ⟨by omega, by omega⟩
theorem dh_succ {k : Nat} (h : ¬ k = 0) : ∃ j, k = j + 1 := ⟨k - 1, by omega⟩
theorem dh_facts {j N pa lE at' o o2 : Nat} (h1 : j + 1 < N) (hN : N ≤ 81) (h2 : pa + lE < at') (h3 : at' ≤ 40) : (0 : Int) < (j : Int) + 1 ∧ 0 < j + 1 ∧ IntKind.i64.wrap ((j : Int) + 1 - 1) = (j : Int) ∧ (j : Int) < (N : Int) ∧ (o : Int) + j * 3 = ((o + j * 3 : Nat) : Int) ∧ wrap64 ((pa : Int) + lE) = (pa : Int) + lE ∧ IntKind.i64.wrap ((pa : Int) + lE) = (pa : Int) + lE ∧ ¬ (at' : Int) ≤ (pa : Int) + lE ∧ ¬ at' ≤ pa + lE ∧ j < N ∧ (j : Int) + 1 < (N : Int) ∧ (o2 : Int) + ((j : Int) + 1) * 3 = ((o2 + (j + 1) * 3 : Nat) : Int) ∧ (0 : Int) ≤ (j : Int) + 1 ∧ IntKind.i64.wrap (j : Int) = (j : Int) ∧ wrap64 (j : Int) = (j : Int) :=
  ⟨by omega, by omega, by rw [IntKind.wrap_i64]; omega, by omega, by omega, w64_in _ (by omega), by rw [IntKind.wrap_i64]; omega, by omega, by omega, by omega, by omega, by omega, by omega, by rw [IntKind.wrap_i64]; omega, w64_in _ (by omega)⟩
theorem apAll_step {ds : List HD} {k : Nat} {h : HD} {cs y : List (List UInt8)} (hj : ds[k]? = some h) (ha : apAll (ds.drop k) cs = some y) : (apR cs (h.1 : Int) h.2.1 h.2.2).2 = 0 ∧ apAll (ds.drop (k + 1)) (apR cs (h.1 : Int) h.2.1 h.2.2).1 = some y := by
  obtain ⟨hk, rfl⟩ := List.getElem?_eq_some_iff.1 hj
  rw [List.drop_eq_getElem_cons hk, apAll] at ha
  split at ha
  · exact ⟨by assumption, ha⟩
  · cases ha

set_option maxRecDepth 100000 in
set_option maxHeartbeats 8000000 in
theorem dh_yes (A : Option Addr) (n c : Nat) (x : List (List UInt8)) (B : Option Addr) (m d : Nat) (y : List (List UInt8)) (w : World) (ha : LnRow w A n c x) (hb : LnRow w B m d y) (hl : (longD x || longD y) = false) (hx : linesR x = true) (hy : linesR y = true) :
    Calls Try.prog 3 #[.slice A n c, .slice B m d] w fun e w' => e = .returned (.bool true) ∧ Below w.heap.size w w' := by
  have cL := long12_two A n c x B m d y w ha hb
  rw [hl] at cL
  rw [Bool.or_eq_false_iff] at hl
  have q1 := longD_no hl.1
  have q2 := longD_no hl.2
  have cX := hid (fun W (h : Below w.heap.size w W) => rlines_any A n c x ha.1 (by have := ha.1; omega) (fun z hz => by have := q1.2 z hz; omega) W (ha.2.2.2.2.1.below h))
  have cY := hid (fun W (h : Below w.heap.size w W) => rlines_any B m d y hb.1 (by have := hb.1; omega) (fun z hz => by have := q2.2 z hz; omega) W (hb.2.2.2.2.1.below h))
  have o1 := hid (fun W (h : Below w.heap.size w W) => dof_any A n c B m d x y ha.1 hb.1 (by have := ha.1; omega) (by have := hb.1; omega) ha.2.1 hb.2.1 hx hy W (ha.2.2.2.2.1.below h) (hb.2.2.2.2.1.below h))
  have o2 := hid (fun W (h : Below w.heap.size w W) => common_any A n c B m d x y ha.1 hb.1 (by have := ha.1; omega) (by have := hb.1; omega) hx hy W (ha.2.2.2.2.1.below h) (hb.2.2.2.2.1.below h))
  have o3 := hid (fun W (h : Below w.heap.size w W) => rof12_any A c B d x y (by omega) (by omega) (ha.1 ▸ ha.2.1) (hb.1 ▸ hb.2.1) W (ha.2.2.2.2.1.below h) (hb.2.2.2.2.1.below h))
  rw [ha.1, hb.1] at o3
  have o4 := hid (fun W (h : Below w.heap.size w W) => rtable_any y B m d hb.1 (by have := hb.1; omega) x A n c ha.1 (by have := ha.1; omega) ha.2.1 W (ha.2.2.2.2.1.below h) (hb.2.2.2.2.1.below h))
  have HAPY := hid (dfG_makes x y hx hy (by omega))
  have HTOP := hid (fun h hm => dfG_top x y 0 0 [] [] (Nat.le_refl _) h hm)
  have HQS := hid (fun h hm => dfG_lines (fun z => z.length ≤ 300) x y 0 0 [] [] q1.2 q2.2 (by simp) (by simp) h hm)
  have HNX := hid (fun (i : Nat) (p h : HD) => dfG_next (x := x) (y := y) (i := i) (p := p) (h := h))
  have HLX := hid hx
  have HAR := hid ha
  have HBR := hid hb
  have HQ1 := hid q1
  have HQ2 := hid q2
  have hlN := dfG_lenH x y 0 0 [] []
  have bN : (dfG x y 0 0 [] []).length ≤ 81 := by omega
  rw [hx] at cX
  rw [hy] at cY
  clear ha hb hl hx hy q1 q2 hlN
  generalize dfG x y 0 0 [] [] = ds at *
  go_enter Try.func3, Try.ntmps3
  go_wp2_with (fail)
  refine cL.mono ?_
  rintro e1 w1 ⟨rfl, hb1⟩
  go_wp2_with (fail)
  refine (o1.out w1 hb1).mono ?_
  rintro e2 w2 ⟨vl, rfl, HO2, hb2⟩
  have hX2 := hb1.trans (hb2.mono hb1.size)
  go_wp2_with (fail)
  refine (o2.out w2 hX2).mono ?_
  rintro e3 w3 ⟨rfl, hb3⟩
  have hX3 := hX2.trans (hb3.mono hX2.size)
  have HO3 := HO2.below hb3
  clear o1 o2 cL hb1 hb2 hb3 hX2 HO2
  go_wp2_with (fail)
  refine (cX.out w3 hX3).mono ?_
  rintro _ _ ⟨rfl, rfl⟩
  go_wp2_with (fail)
  refine (cY.out _ hX3).mono ?_
  rintro _ _ ⟨rfl, rfl⟩
  clear cX cY
  go_wp2_with (fail)
  refine (o3.out _ hX3).mono ?_
  rintro e4 w4 ⟨vr, bR, rfl, hbR, HR4, hb4⟩
  have hX4 := hX3.trans (hb4.mono hX3.size)
  have HO4 := HO3.below hb4
  obtain ⟨AL, cl, rfl, rL⟩ := hown_row HO4
  obtain ⟨AR, cr, rfl, rR⟩ := hownR_row HR4
  clear rL rR HO3 o3 hb4 hX3
  go_wp2_with (fail)
  refine (o4.out _ hX4).mono ?_
  rintro e5 w5 ⟨vt, rfl, HT, hb5⟩
  have hX5 := hX4.trans (hb5.mono hX4.size)
  have HO5 := hid (HO4.below hb5)
  have HR5 := hid (HR4.below hb5)
  obtain ⟨vs, hown, hvs⟩ := HT
  obtain ⟨gT, ct, rfl⟩ : ∃ gT ct, vt = .slice (some ⟨gT, 0, none⟩) (x.length + 1) ct := by
    rcases hown.2 with ⟨_, h⟩ | ⟨g, cap, _, e, _⟩
    · omega
    · exact ⟨g, cap, e⟩
  obtain ⟨a0, f0, t0, T0⟩ := tab_at hown hvs (Below.refl _ _) 0 (Nat.zero_le _)
  have t00 := T0 0 (Nat.zero_le _)
  rw [List.drop_zero, List.drop_zero] at t00
  replace t00 : w5.cell? a0 = _ := t00
  clear T0 hvs hown HO4 HR4 o4 hb5 hX4
  generalize lcs x y = K at *
  go_wp2_with (fail)
  go_loopw [10, 88] (fun now i wr => ∃ (k : Nat) (L : Option Addr) (N e : Nat) (cs : List (List UInt8)), k ≤ ds.length ∧ i = .int .i64 k ∧ now = .slice L N e ∧ Hid (cs.length = N) ∧ Hid (apAll (ds.drop k) cs = some y) ∧ Hid (N ≤ 1000) ∧ Hid (∀ z ∈ cs, z.length ≤ 300) ∧ Hid (Rd wr L (cs.map strV)) ∧ Hid (HOwn wr w1.heap.size (.slice AL ds.length cl) ds) ∧ Hid (HOwnR wr bR (.slice AR ds.length cr) ds) ∧ Below w.heap.size w wr) (fun _ i _ => ds.length - (intOf i).toNat)
  case atStart => exact ⟨0, A, n, c, x, Nat.zero_le _, rfl, rfl, hid HAR.out.1, hid (by rw [List.drop_zero]; exact HAPY.out), hid (by have := HAR.out.1; have := HQ1.out.1; omega), hid HQ1.out.2, hid (HAR.out.2.2.2.2.1.below hX5), HO5, HR5, hX5⟩
  case round =>
    clear HO5 HR5 hX5 t0 t00
    obtain ⟨k, L, N, e, cs, hk, rfl, rfl, HC, HAP, HN, HLN, HRD, HO, HR, hB⟩ := hrel
    by_cases hlt : k < ds.length
    · obtain ⟨h, hj⟩ : ∃ h, ds[k]? = some h := ⟨_, List.getElem?_eq_getElem hlt⟩
      obtain ⟨AL', cl', eL, rL⟩ := hown_row HO.out
      obtain ⟨AR', cr', eR, rR⟩ := hownR_row HR.out
      cases eL
      cases eR
      have HRL := hid rL
      obtain ⟨g, o, rfl, A1, c1, A2, c2, p0, p1, p2, rd1, rd2, u1, u2, _, _, _, _⟩ := rL k h hj
      obtain ⟨g2, o2, rfl, A3, c3, A4, c4, s0, s1, s2, rd3, rd4, _⟩ := rR k h hj
      have HST := hid (apAll_step hj HAP.out)
      have HMEM := hid (List.mem_of_getElem? hj)
      have HHJ := hid hj
      have htop := HTOP.out h HMEM.out
      have HLS := hid (HQS.out h HMEM.out)
      obtain ⟨at', D, E⟩ := h
      simp only at p0 p1 p2 s0 s1 s2 rd1 rd2 rd3 rd4 u1 u2 htop
      have RD1 := hid rd1
      have RD2 := hid rd2
      have RD3 := hid rd3
      have RD4 := hid rd4
      have hat : at' ≤ 40 := by have := HQ2.out.1; omega
      have hkN : (k : Int) < (ds.length : Int) := by omega
      have ho : (o : Int) + k * 3 = ((o + k * 3 : Nat) : Int) := by omega
      have ho2 : (o2 : Int) + k * 3 = ((o2 + k * 3 : Nat) : Int) := by omega
      have hbx : Below wr.heap.size wr (wr.alloc (.cells #[.int .i64 at', .slice A1 D.length c1, .slice A2 E.length c2] 38)) := (Below.refl _ _).alloc (Nat.le_refl _) _
      have hkb := Blk.new wr 38 #[.int .i64 at', .slice A1 D.length c1, .slice A2 E.length c2]
      have HBW := hid (hB.trans (hbx.mono hB.size))
      have HBX := hid hbx
      have HKB := hid hkb
      have hh9 : ∀ P : LtW (wr.alloc (.cells #[.int .i64 at', .slice A1 D.length c1, .slice A2 E.length c2] 38)), Below wr.heap.size wr P.w := fun P => HBX.out.trans (P.h.mono HBX.out.size)
      have HH9 := hid hh9
      have cS := hid (fun P : LtW (wr.alloc (.cells #[.int .i64 at', .slice A1 D.length c1, .slice A2 E.length c2] 38)) => rsame_gen at' A1 D.length c1 A2 E.length c2 at' A3 D.length c3 A4 E.length c4 true true P.w (fun W hb => by have := same_any A1 A3 D.length D.length c1 c3 D D rfl rfl (by omega) (by omega) W ((RD1.out.below (HH9.out P)).below hb) ((RD3.out.below (HH9.out P)).below hb); rwa [decide_eq_true rfl] at this) (fun W hb => by have := same_any A2 A4 E.length E.length c2 c4 E E rfl rfl (by omega) (by omega) W ((RD2.out.below (HH9.out P)).below hb) ((RD4.out.below (HH9.out P)).below hb); rwa [decide_eq_true rfl] at this))
      rw [decide_eq_true rfl, Bool.and_true, Bool.and_true] at cS
      have cA := hid (fun P : LtW (wr.alloc (.cells #[.int .i64 at', .slice A1 D.length c1, .slice A2 E.length c2] 38)) => rapply_any L N e cs HC.out HN.out at' A3 D.length c3 D rfl u1 A4 E.length c4 E rfl u2 (fun z hz => by have := HLN.out z hz; omega) (fun z hz => by have := HLS.out.1 z hz; omega) (fun z hz => by have := HLS.out.2 z hz; omega) P.w (HRD.out.below (HH9.out P)) (RD3.out.below (HH9.out P)) (RD4.out.below (HH9.out P)))
      rw [← apR_fst, ← apR_snd, HST.out.1] at cA
      have hlR := apR_lenH cs at' D E
      have HR8 := hid (apR_shortH cs at' D E 300 HLN.out HLS.out.2)
      have HAP2 := hid HST.out.2
      simp only at HAP2
      generalize (apR cs at' D E).1 = R at *
      have HRL2 := hid hlR
      have hw2 : wrap64 ((k : Int) + 1) = (k : Int) + 1 := w64_in _ (by omega)
      have HW2 := hid hw2
      have HLT := hid (show k + 1 ≤ ds.length from hlt)
      have HUU := hid (And.intro u1 u2)
      clear rd1 rd2 rd3 rd4 rL rR hj htop hbx hkb hlR hh9
      go_wp2_with (fail)
      have t0 : ∀ P : LtW (wr.alloc (.cells #[.int .i64 at', .slice A1 D.length c1, .slice A2 E.length c2] 38)), P.w.cell? ⟨wr.heap.size, 0, none⟩ = some (.int .i64 at') := fun P => (HKB.out.below P.h).cell_ (i := 0) rfl
      have t1 : ∀ P : LtW (wr.alloc (.cells #[.int .i64 at', .slice A1 D.length c1, .slice A2 E.length c2] 38)), P.w.cell? ⟨wr.heap.size, 0 + 1, none⟩ = some (.slice A1 D.length c1) := fun P => (HKB.out.below P.h).cell_ (i := 1) rfl
      have t2 : ∀ P : LtW (wr.alloc (.cells #[.int .i64 at', .slice A1 D.length c1, .slice A2 E.length c2] 38)), P.w.cell? ⟨wr.heap.size, 0 + 2, none⟩ = some (.slice A2 E.length c2) := fun P => (HKB.out.below P.h).cell_ (i := 2) rfl
      have v0 := fun P => below_cellD (HH9.out P) s0
      have v1 := fun P => below_cellD (HH9.out P) s1
      have v2 := fun P => below_cellD (HH9.out P) s2
      by_cases hz : k = 0
      · as_aux_lemma =>
        obtain ⟨z1, z2⟩ := dh_zero hz
        clear p0 p1 p2 s0 s1 s2 u1 u2 hat hw2 hk hlt hz
        refine wp_region_lt mixed10 (by kernel_rfl) ?_
        repeat (first
          | ((with_reducible refine wpQuiet_step (fun K hK => ?_)); go_simp; first | ((with_reducible refine hK _ ?_); clear hK K) | (with_reducible apply Exists.intro; (with_reducible refine ⟨fun P => ?_, hK _ ?_⟩); (go_at_call 13; exact lt_of (cS.out P)); clear hK K))
          | ((with_reducible refine BigFrame.wpQuiet_skip (by first | kernel_rfl | with_unfolding_all rfl) ?_); simp only [Act.put, List.setIfInBounds_toArray, List.set_cons_zero, List.set_cons_succ]))
        with_reducible refine wpQuiet_nil ?_
        intro _ hw9
        obtain ⟨P9, rfl⟩ := hw9
        have hB9 := HBW.out.trans (P9.h.mono HBW.out.size)
        have hW9 := HH9.out P9
        have v0 := v0 P9
        have v1 := v1 P9
        have v2 := v2 P9
        have cA := cA.out P9
        have HO9 := hid (HO.out.below hW9)
        have HR9 := hid (HR.out.below hW9)
        clear t0 t1 t2 cS 
        generalize P9.w = wp at *
        go_wp2_with (fail)
        refine cA.mono ?_
        rintro e3 w3 ⟨v, rfl, hown, hb3⟩
        obtain ⟨_, A5, d5, rfl, rd5⟩ := rowRd hown
        have hX3 := hid (hB9.trans (hb3.mono hB9.size))
        have HO3 := hid (HO9.out.below hb3)
        have HR3 := hid (HR9.out.below hb3)
        have HRD3 := hid rd5
        clear hown rd5 cA v0 v1 v2 hB9 hb3 HO9 HR9 hW9
        go_wp2_with (fail)
        go_roundw
        case rel => exact ⟨k + 1, A5, R.length, d5, R, HLT.out, by go_num, rfl, hid rfl, HAP2, HRL2, HR8, HRD3, HO3, HR3, hX3.out⟩
        case measure => first | exact meas_k HLT.out HW2.out | (have hm := meas_k HLT.out HW2.out; rw [HW2.out] at hm; exact hm) | exact meas_k3 HLT.out
      · as_aux_lemma =>
        obtain ⟨j, rfl⟩ := dh_succ hz
        obtain ⟨⟨pa, pD, pE⟩, hpj⟩ : ∃ h, ds[j]? = some h := ⟨_, List.getElem?_eq_getElem (Nat.lt_of_succ_lt hlt)⟩
        have hnx := HNX.out j _ _ hpj HHJ.out
        simp only at hnx
        obtain ⟨g', o', e', B1, d1, B2, d2, y0, y1, y2, _⟩ := HRL.out j _ hpj
        cases e'
        simp only at y0 y1 y2
        have x0 := fun P => below_cellD (HH9.out P) y0
        have x2 := fun P => below_cellD (HH9.out P) y2
        obtain ⟨z1, z2, z3, z4, z5, z6, z7, z8, z9, z10, z11, z12, z13, z14, z15⟩ := dh_facts (o := o) (o2 := o2) hlt bN hnx hat
        clear p0 p1 p2 s0 s1 s2 u1 u2 hat hw2 hk hlt hz hnx hpj y0 y1 y2
        refine wp_region_lt mixed10 (by kernel_rfl) ?_
        repeat (first
          | ((with_reducible refine wpQuiet_step (fun K hK => ?_)); go_simp; first | ((with_reducible refine hK _ ?_); clear hK K) | (with_reducible apply Exists.intro; (with_reducible refine ⟨fun P => ?_, hK _ ?_⟩); (go_at_call 13; exact lt_of (cS.out P)); clear hK K))
          | ((with_reducible refine BigFrame.wpQuiet_skip (by first | kernel_rfl | with_unfolding_all rfl) ?_); simp only [Act.put, List.setIfInBounds_toArray, List.set_cons_zero, List.set_cons_succ]))
        with_reducible refine wpQuiet_nil ?_
        intro _ hw9
        obtain ⟨P9, rfl⟩ := hw9
        have hB9 := HBW.out.trans (P9.h.mono HBW.out.size)
        have hW9 := HH9.out P9
        have v0 := v0 P9
        have v1 := v1 P9
        have v2 := v2 P9
        have cA := cA.out P9
        have HO9 := hid (HO.out.below hW9)
        have HR9 := hid (HR.out.below hW9)
        clear t0 t1 t2 cS x0 x2
        generalize P9.w = wp at *
        go_wp2_with (fail)
        refine cA.mono ?_
        rintro e3 w3 ⟨v, rfl, hown, hb3⟩
        obtain ⟨_, A5, d5, rfl, rd5⟩ := rowRd hown
        have hX3 := hid (hB9.trans (hb3.mono hB9.size))
        have HO3 := hid (HO9.out.below hb3)
        have HR3 := hid (HR9.out.below hb3)
        have HRD3 := hid rd5
        clear hown rd5 cA v0 v1 v2 hB9 hb3 HO9 HR9 hW9
        go_wp2_with (fail)
        go_roundw
        case rel => exact ⟨(j + 1) + 1, A5, R.length, d5, R, HLT.out, by first | exact dh_next HLT.out bN | go_num, rfl, hid rfl, HAP2, HRL2, HR8, HRD3, HO3, HR3, hX3.out⟩
        case measure => first | exact meas_k HLT.out HW2.out | (have hm := meas_k HLT.out HW2.out; rw [HW2.out] at hm; exact hm) | exact meas_k3 HLT.out
    · as_aux_lemma =>
      obtain rfl : k = ds.length := Nat.le_antisymm hk (Nat.le_of_not_lt hlt)
      have z1 : ¬ (ds.length : Int) < (ds.length : Int) := Int.lt_irrefl _
      have hcy : cs = y := by have := HAP.out; rw [List.drop_length, apAll] at this; exact Option.some.inj this
      subst hcy
      have cE := same_any L B N m e d cs cs HC.out HBR.out.1 (by have := HN.out; omega) (by have := HBR.out.1; have := HQ2.out.1; omega) wr HRD.out (HBR.out.2.2.2.2.1.below hB)
      rw [decide_eq_true rfl] at cE
      clear hk hlt
      go_wp2_with (fail)
      refine cE.mono ?_
      rintro e6 w6 ⟨rfl, hb6⟩
      have hX := hB.trans (hb6.mono hB.size)
      go_wp2_with (fail)
      refine (awake12_any _).mono ?_
      rintro e9 w9 ⟨rfl, hb9⟩
      go_wp2_with (fail)
      go_ret
      exact ⟨rfl, hX.trans (hb9.mono hX.size)⟩

theorem diffHunks_any (A : Option Addr) (n c : Nat) (x : List (List UInt8)) (B : Option Addr) (m d : Nat) (y : List (List UInt8)) (w : World) (ha : LnRow w A n c x) (hb : LnRow w B m d y) :
    Calls Try.prog 3 #[.slice A n c, .slice B m d] w fun e w' => e = .returned (.bool true) ∧ Below w.heap.size w w' := by
  cases hl : longD x || longD y with
  | true => exact dh_long A n c x B m d y w ha hb hl
  | false =>
    cases hx : linesR x with
    | false => exact dh_no A n c x B m d y w ha hb hl (by rw [hx]; rfl)
    | true =>
      cases hy : linesR y with
      | false => exact dh_no A n c x B m d y w ha hb hl (by rw [hx, hy]; rfl)
      | true => exact dh_yes A n c x B m d y w ha hb hl hx hy
set_option linter.unusedVariables false in
theorem law_DiffHunks (w : World) (A : Option Addr) (n c : Nat) (x : List (List UInt8)) (B : Option Addr) (m d : Nat) (y : List (List UInt8)) (ha : LnRow w A n c x) (hb : LnRow w B m d y) :
    Calls Try.prog 3 #[.slice A n c, .slice B m d] w fun e w' => e = .returned (.bool true) ∧ Below w.heap.size w w' := diffHunks_any A n c x B m d y w ha hb


open Go.ChangeShapes Go.WideShapes Go.ChangeAt
open Go.ChangeMaps (open_string shut_string)
theorem own_DiffHunks : ownKnob Try.prog.godebug = none := by kernel_rfl
theorem laidOut_DiffHunks : laidOutB Try.prog = true := by kernel_rfl
set_option linter.unusedVariables false in
set_option maxRecDepth 100000 in
theorem lifted_DiffHunks (os : Os) (started : os.Started) (H : Type) (enc : TypeId × Value → H) :
    ReturnsInHanded {} Try.checked os 3 .any (Rows.diffHunksSpec.pre6 enc Try.prog Try.f3 Rows.diffHunksRow.domain false) (Rows.diffHunksSpec.post enc Try.prog Try.f3 false true false false) := by
  refine returnsInHanded_of_change (C := Try.checked) own_DiffHunks started (by kernel_rfl) Try.func3
    (ChangeSpec.witness6 (enc := enc) (C := Try.checked) false ⟨#[], #[.slice none 0 0, .slice none 0 0], []⟩ 8 (by kernel_rfl) (by kernel_rfl) (by kernel_rfl) (by kernel_rfl)) ?_
  intro W base args ds gs before hval0 hW hcnd _
  have hval : ∀ (j : Nat) t v, Try.f3.params[j]? = some t → args[j]? = some v → Value.okWide Try.prog W .any base t v := hval0
  have hW' := hW
  obtain ⟨p, q, hA0, hV, rfl, hfz, hnd⟩ := hW
  have hA1 : DataW.TrodAll enc Try.prog W 0 (fun _ => true) true Try.f3.params.toList args.toList ds p := hA0
  have hA : DataW.TrodAll enc Try.prog W 0 (fun _ => true) true Try.f3.params.toList args.toList ds p := hA0
  rw [Try.params3] at hA hval
  obtain ⟨v0, vs0, d0, ds0, p0, q0, hargs, rfl, rfl, h0, r0⟩ := trodAll_cons hA
  obtain ⟨v1, vs1, d1, ds1, p1, q1, rfl, rfl, rfl, h1, r1⟩ := trodAll_cons r0
  obtain ⟨rfl, rfl, rfl⟩ := trodAll_nil r1
  obtain rfl : args = #[v0, v1] := by cases args; simp_all
  obtain ⟨rfl, rfl⟩ := trodVars_none hV
  obtain ⟨A0, n0, c0, ls0, rfl, y0⟩ := open_ln (hval 0 22 v0 rfl rfl) h0
  obtain ⟨A1, n1, c1, ls1, rfl, y1⟩ := open_ln (hval 1 22 v1 rfl rfl) h1
  clear hA0 hval0
  refine (law_DiffHunks W A0 n0 c0 ls0 A1 n1 c1 ls1 y0 y1).mono fun e W' ⟨he, bel⟩ => ?_
  subst he
  exact ⟨_, rfl, _, _, _, [], _, [], hW', trodAll_mk1 (shut_bool Try.underlying4 _), trodAll_stays laidOut_DiffHunks bel (by kernel_rfl) hA1, rfl, bel.frame _, fun h => by cases h⟩

/-- The statement. -/
theorem DiffHunks_holds : Rows.DiffHunksSaid :=
  OpenClaim.holds_of_wide 3 Try.f3 rfl rfl rfl rfl rfl rfl rfl ⟨rfl, rfl, rfl, rfl, rfl⟩ rfl rfl rfl rfl rfl (by kernel_rfl) Try.func3 (by kernel_rfl)
    (of_decide_eq_true (by kernel_rfl)) (by unfold Func.isWrapper; first | (rw [if_pos (by decide +kernel)]; kernel_rfl) | (rw [if_neg (by decide +kernel)]; exact ⟨rfl, rfl⟩))
    (fun os started H enc _ => lifted_DiffHunks os started H enc)
#print axioms DiffHunks_holds

end Go.Proofs.Ytplcfdmehnilnaa

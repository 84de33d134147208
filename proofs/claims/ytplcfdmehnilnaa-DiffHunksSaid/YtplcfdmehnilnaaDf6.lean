
/- diff: the hunks from lines to lines. -/
import Derived.Test.YtplcfdmehnilnaaDf5
import Derived.StillTailTactics
import Derived.Scope
import Derived.WalkMore
set_option linter.unusedSimpArgs false
set_option linter.unusedVariables false
namespace Go.Proofs.Ytplcfdmehnilnaa
open Go.RowKit Go.Qc Go.Shelf
attribute [local go_sem] txt_size txt_append ib_fold txt_toL

theorem sl_l (A : Option Addr) (n c l : Nat) (h1 : l ≤ n) (h2 : n ≤ c) (W : World) :
    (Instr.sliceAt 22 (.slice A n c) (some (.int .i64 (l : Int))) none none).run Try.prog W = .ok (.slice (pcA A l c) (n - l) (c - l)) W := by
  obtain ⟨i0, hi, _, hs, _⟩ := info_parts infoString
  have b1 : (l : Int) ≤ n := by omega
  have b2 : (l : Int) ≤ c := by omega
  have b3 : (n : Int) ≤ c := by omega
  rw [← sliced_pc]
  simp [Instr.sliceAt, Instr.slice, Instr.sliceBounds, run_underlying Try.underlying22, run_sliceBound, b1, b2, b3, sizeOf, typeInfo, hi, hs, Int.toNat_natCast, sliced]
/-- Lines from one on, up to another one. -/
def cutT (x : List (List UInt8)) (a b : Nat) : List (List UInt8) := (x.drop a).take (b - a)
theorem cutT_nil (x : List (List UInt8)) (a : Nat) : cutT x a a = [] := by unfold cutT; rw [Nat.sub_self]; rfl
theorem cutT_length (x : List (List UInt8)) (a b : Nat) (h : b ≤ x.length) : (cutT x a b).length = b - a := by unfold cutT; rw [List.length_take, List.length_drop]; omega
theorem cutT_snoc (x : List (List UInt8)) (a b : Nat) (h : a ≤ b) {z : List UInt8} (hz : x[b]? = some z) : cutT x a (b + 1) = cutT x a b ++ [z] := by
  unfold cutT
  rw [show b + 1 - a = (b - a) + 1 by omega]
  exact take_snoc (by rw [List.getElem?_drop, show a + (b - a) = b by omega]; exact hz)
theorem drop_at {x : List (List UInt8)} {i : Nat} {z : List UInt8} (h : x[i]? = some z) : x.drop i = z :: x.drop (i + 1) := by
  obtain ⟨hi, rfl⟩ := List.getElem?_eq_some_iff.1 h
  exact List.drop_eq_getElem_cons hi
theorem counts_from (g : Nat) (x y : List (List UInt8)) (n m N : Nat) (hn : x.length = n) (hm : y.length = m) (hN : (n + 1) * (m + 1) = N) (bn : n ≤ 1000) (bm : m ≤ 1000) (w : World) (hC : CntAt w g x y) (i j : Nat) (hi : i ≤ n) (hj : j ≤ m) (W : World) (hb : Below w.heap.size w W) (zi zj : Int) (ei : zi = (i : Int)) (ej : zj = (j : Int)) :
    Calls Try.prog 31 #[.agg #[.int .i64 ((m : Int) + 1), .slice (some ⟨g, 0, none⟩) N N], .int .i64 zi, .int .i64 zj] W fun e w' => e = .returned (.int .i64 (lcs (x.drop i) (y.drop j) : Int)) ∧ Below W.heap.size W w' := by
  subst ei ej hn hm
  have h1 := idx_lt (n := x.length) (m := y.length) hi hj
  have bN : N ≤ 1002001 := by rw [← hN]; have := Nat.mul_le_mul (Nat.add_le_add_right bn 1) (Nat.add_le_add_right bm 1); omega
  have h2 := lcs_left (x.drop i) (y.drop j)
  rw [List.length_drop] at h2
  rw [hN] at h1
  exact from_any (y.length + 1) g N N i j (lcs (x.drop i) (y.drop j) : Int) h1 (by omega) (by omega) (by omega) W ((hC.below hb) i j hi hj)
theorem dg_x {x y : List (List UInt8)} {i j at' : Nat} {a : List UInt8} {D E : List (List UInt8)} (ha : x[i]? = some a) (hj : y.length ≤ j) : dfG (x.drop i) (y.drop j) at' j D E = dfG (x.drop (i + 1)) (y.drop j) at' j (D ++ [a]) E := by
  rw [drop_at ha, List.drop_eq_nil_of_le hj, dfG]
theorem dg_y {x y : List (List UInt8)} {i j at' : Nat} {b : List UInt8} {D E : List (List UInt8)} (hb : y[j]? = some b) (hi : x.length ≤ i) : dfG (x.drop i) (y.drop j) at' j D E = dfG (x.drop i) (y.drop (j + 1)) at' (j + 1) D (E ++ [b]) := by
  rw [drop_at hb, List.drop_eq_nil_of_le hi, dfG]
theorem dg_e {x y : List (List UInt8)} {i j at' : Nat} {D E : List (List UInt8)} (hi : x.length ≤ i) (hj : y.length ≤ j) : dfG (x.drop i) (y.drop j) at' j D E = flu at' D E := by
  rw [List.drop_eq_nil_of_le hj, List.drop_eq_nil_of_le hi, dfG]
theorem dg_eq {x y : List (List UInt8)} {i j at' : Nat} {a : List UInt8} {D E : List (List UInt8)} (ha : x[i]? = some a) (hb : y[j]? = some a) : dfG (x.drop i) (y.drop j) at' j D E = flu at' D E ++ dfG (x.drop (i + 1)) (y.drop (j + 1)) (j + 1) (j + 1) [] [] := by
  rw [drop_at ha, drop_at hb, dfG, if_pos rfl]
theorem dg_le {x y : List (List UInt8)} {i j at' : Nat} {a b : List UInt8} {D E : List (List UInt8)} (ha : x[i]? = some a) (hb : y[j]? = some b) (hab : a ≠ b) (hl : lcs (x.drop i) (y.drop (j + 1)) ≤ lcs (x.drop (i + 1)) (y.drop j)) : dfG (x.drop i) (y.drop j) at' j D E = dfG (x.drop (i + 1)) (y.drop j) at' j (D ++ [a]) E := by
  rw [drop_at ha, drop_at hb] at *
  rw [dfG, if_neg hab, if_pos hl]
theorem dg_gt {x y : List (List UInt8)} {i j at' : Nat} {a b : List UInt8} {D E : List (List UInt8)} (ha : x[i]? = some a) (hb : y[j]? = some b) (hab : a ≠ b) (hl : ¬ lcs (x.drop i) (y.drop (j + 1)) ≤ lcs (x.drop (i + 1)) (y.drop j)) : dfG (x.drop i) (y.drop j) at' j D E = dfG (x.drop i) (y.drop (j + 1)) at' (j + 1) D (E ++ [b]) := by
  rw [drop_at ha, drop_at hb] at *
  rw [dfG, if_neg hab, if_neg hl]
theorem cut_rd {w : World} {A : Option Addr} {x : List (List UInt8)} (h : Rd w A (x.map strV)) (a b c : Nat) (hb : b ≤ c) : Rd w (pcA A a c) ((cutT x a b).map strV) := by
  unfold cutT
  rw [List.map_take, List.map_drop]
  exact rd_piece h a (b - a) c (by omega)
theorem HOwn.le {W : World} {b base : Nat} {v : Value} {ds : List HD} (h : HOwn W base v ds) (hb : b ≤ base) : HOwn W b v ds := by
  obtain ⟨ts, h1, h2⟩ := h
  exact ⟨ts, ⟨h1.1, h1.2.imp id fun ⟨g, cap, cur, e, hg, hr⟩ => ⟨g, cap, cur, e, Nat.le_trans hb hg, hr⟩⟩, h2.1, fun j t d e1 e2 => by obtain ⟨a, b1, c1, e, f⟩ := h2.2 j t d e1 e2; exact ⟨a, own_le b1 hb, own_le c1 hb, e, f⟩⟩
set_option maxRecDepth 100000 in
set_option maxHeartbeats 8000000 in
theorem hunks_any (A : Option Addr) (n c : Nat) (B : Option Addr) (m d : Nat) (x y : List (List UInt8)) (hn : x.length = n) (hm : y.length = m) (bn : n ≤ 1000) (bm : m ≤ 1000) (hnc : n ≤ c) (hmd : m ≤ d) (g N : Nat) (hN : (n + 1) * (m + 1) = N) (w : World) (hr : Rd w A (x.map strV)) (hs : Rd w B (y.map strV)) (hC : CntAt w g x y) :
    Calls Try.prog 29 #[.slice A n c, .slice B m d, .agg #[.int .i64 ((m : Int) + 1), .slice (some ⟨g, 0, none⟩) N N]] w fun e w' => ∃ v, e = .returned v ∧ HOwn w' w.heap.size v (dfG x y 0 0 [] []) ∧ Below w.heap.size w w' := by
  have hx := (Below.refl w.heap.size w).alloc (Nat.le_refl _) (.cells #[.int .i64 ((m : Int) + 1), .slice (some ⟨g, 0, none⟩) N N] 76)
  have hk := Blk.new w 76 #[.int .i64 ((m : Int) + 1), .slice (some ⟨g, 0, none⟩) N N]
  have hsz : (w.alloc (.cells #[.int .i64 ((m : Int) + 1), .slice (some ⟨g, 0, none⟩) N N] 76)).heap.size = w.heap.size + 1 := by simp
  have HCF := hid (fun i j hi hj W hb zi zj ei ej => counts_from g x y n m N hn hm hN bn bm w hC i j hi hj W hb zi zj ei ej)
  have HR := hid hr
  have HS := hid hs
  have HNN := hid hN
  have HX := hid hn
  have HY := hid hm
  clear hr hs hC hN hn hm
  go_enter Try.func29, Try.ntmps29
  go_wp2_with (fail)
  generalize w.alloc (.cells #[.int .i64 ((m : Int) + 1), .slice (some ⟨g, 0, none⟩) N N] 76) = W0 at *
  go_step3
  go_wp2_with (fail)
  go_step3
  go_wp2_with (fail)
  go_loopw [7, 8, 9] (fun v zi zj wr => ∃ (V : Value) (i j : Nat) (ds : List HD), V = v ∧ i ≤ n ∧ j ≤ m ∧ zi = .int .i64 i ∧ zj = .int .i64 j ∧ Hid (HOwn wr (w.heap.size + 1) V ds) ∧ Hid (dfG x y 0 0 [] [] = ds ++ dfG (x.drop i) (y.drop j) j j [] []) ∧ ds.length ≤ i ∧ Below (w.heap.size + 1) W0 wr) (fun _ zi zj _ => (n - (intOf zi).toNat) + (m - (intOf zj).toNat))
  case atStart => exact ⟨_, 0, 0, [], rfl, by omega, by omega, rfl, rfl, hid (HOwn.none _ _), hid (by rw [List.nil_append]; rfl), by simp, Below.refl _ _⟩
  case round =>
    obtain ⟨V, i0, j0, ds, hV, hi0, hj0, rfl, rfl, HO, HE, hdl, hB⟩ := hrel
    subst hV
    go_wp2_with (fail)
    go_hide hQ
    go_loopw [7, 8, 9] (fun v zi zj wr2 => V = v ∧ ∃ (i j : Nat), i0 ≤ i ∧ i ≤ n ∧ j0 ≤ j ∧ j ≤ m ∧ zi = .int .i64 i ∧ zj = .int .i64 j ∧ Hid (dfG (x.drop i0) (y.drop j0) j0 j0 [] [] = dfG (x.drop i) (y.drop j) j0 j (cutT x i0 i) (cutT y j0 j)) ∧ Hid (HOwn wr2 (w.heap.size + 1) V ds) ∧ Below (w.heap.size + 1) W0 wr2) (fun _ zi zj _ => (n - (intOf zi).toNat) + (m - (intOf zj).toNat))
    case atStart => exact ⟨rfl, i0, j0, by omega, by omega, by omega, by omega, rfl, rfl, hid (by rw [cutT_nil, cutT_nil]), HO, hB⟩
    case round =>
      clear HO hB
      obtain ⟨hV, i, j, hii, hin, hjj, hjm, rfl, rfl, HF, HO, hB⟩ := hrel
      subst hV
      have hX : Below w.heap.size w wr := hx.trans (hB.mono (by omega))
      have hsw := hB.size
      by_cases hi : i < n
      · obtain ⟨a, ha⟩ : ∃ a, x[i]? = some a := ⟨_, List.getElem?_eq_getElem (by rw [HX.out]; omega)⟩
        have HA := hid ha
        have z1 : (i : Int) < n := by omega
        by_cases hj : j < m
        · obtain ⟨b, hb⟩ : ∃ b, y[j]? = some b := ⟨_, List.getElem?_eq_getElem (by rw [HY.out]; omega)⟩
          have HBB := hid hb
          have z2 : (j : Int) < m := by omega
          have z3 : ((j : Int) == (m : Int)) = false := by rw [beq_eq_false_iff_ne]; omega
          have z4 : ¬ (j : Int) = m := by omega
          have z5 : ¬ j = m := by omega
          obtain ⟨ad, rfl, p0⟩ := rd_in (HR.out.below hX) i (strV a) (by rw [List.getElem?_map, ha]; rfl)
          obtain ⟨ad2, rfl, p1⟩ := rd_in (HS.out.below hX) j (strV b) (by rw [List.getElem?_map, hb]; rfl)
          unfold strV at p0 p1
          clear ha hb
          by_cases hab : a = b
          · as_aux_lemma =>
            subst hab
            go_wp2_with (fail)
            refine wp_region_quiet_lit mixed10 (by kernel_rfl) ?_
            repeat (first
              | ((with_reducible refine wpQuiet_step (fun K hK => ?_)); go_simp; first | ((with_reducible refine hK _ ?_); clear hK K))
              | ((with_reducible refine BigFrame.wpQuiet_skip (by first | kernel_rfl | with_unfolding_all rfl) ?_); simp only [Act.put, List.setIfInBounds_toArray, List.set_cons_zero, List.set_cons_succ]))
            with_reducible refine wpQuiet_nil ?_
            intro _ hw9
            obtain ⟨nq, rfl⟩ := hw9
            clear p0 p1
            replace hX := below_drewN hX nq
            replace hB := below_drewN hB nq
            replace HO : Hid (HOwn (wr.drewN nq) (w.heap.size + 1) V ds) := hid HO.out
            generalize wr.drewN nq = wr at *
            clear hsw
            have hsw := hB.size
            have s1 := sl_lh (some ad) n c i0 i hii (by omega)
            have s2 := sl_lh (some ad2) m d j0 j hjj (by omega)
            go_wp2_with (fail)
            go_still_tail 10, mixed10
            have hX9 := hX.trans ((below_drew10 wr).mono hX.size)
            have hB9 : Below (w.heap.size + 1) W0 wr.drew := hB.trans ((below_drew10 wr).mono (by omega))
            go_wp2_with (fail)
            refine (with_any (w.heap.size + 1) V ds (by omega) j0 (pcA (some ad) i0 c) (i - i0) (c - i0) (cutT x i0 i) (cutT_length x i0 i (by rw [HX.out]; omega)) (by omega) (pcA (some ad2) j0 d) (j - j0) (d - j0) (cutT y j0 j) (cutT_length y j0 j (by rw [HY.out]; omega)) (by omega) wr.drew (by have := hB9.size; omega) HO.out (cut_rd (HR.out.below hX9) i0 i c (by omega)) (cut_rd (HS.out.below hX9) j0 j d (by omega))).mono ?_
            rintro e9 w9 ⟨v', rfl, hO9, hb9⟩
            subst hQ
            go_wp2_with (fail)
            go_roundw
            case rel => exact ⟨v', i + 1, j + 1, ds ++ flu j0 (cutT x i0 i) (cutT y j0 j), rfl, by omega, by omega, by go_num, by go_num, hid hO9, hid (by rw [HE.out, HF.out, dg_eq HA.out HBB.out, List.append_assoc]), by rw [List.length_append]; have : (flu j0 (cutT x i0 i) (cutT y j0 j)).length ≤ 1 := (by unfold flu; split <;> simp); omega, hB9.trans hb9⟩
            case measure => simp [intOf]; omega
          · as_aux_lemma =>
            have hne : (a == b) = false := beq_eq_false_iff_ne.2 hab
            have HAB := hid hab
            clear hab
            go_wp2_with (fail)
            refine wp_region_quiet_lit mixed10 (by kernel_rfl) ?_
            repeat (first
              | ((with_reducible refine wpQuiet_step (fun K hK => ?_)); go_simp; first | ((with_reducible refine hK _ ?_); clear hK K))
              | ((with_reducible refine BigFrame.wpQuiet_skip (by first | kernel_rfl | with_unfolding_all rfl) ?_); simp only [Act.put, List.setIfInBounds_toArray, List.set_cons_zero, List.set_cons_succ]))
            with_reducible refine wpQuiet_nil ?_
            intro _ hw9
            obtain ⟨nq, rfl⟩ := hw9
            clear p0 p1
            replace hX := below_drewN hX nq
            replace hB := below_drewN hB nq
            replace HO : Hid (HOwn (wr.drewN nq) (w.heap.size + 1) V ds) := hid HO.out
            generalize wr.drewN nq = wr at *
            clear hsw
            have hsw := hB.size
            have c1 := fun W hb => HCF.out (i + 1) j (by omega) (by omega) W hb ((i : Int) + 1) j (by omega) rfl
            have c2 := fun W hb => HCF.out i (j + 1) (by omega) (by omega) W hb i ((j : Int) + 1) rfl (by omega)
            have HLE := hid (rfl : lcs (x.drop i) (y.drop (j + 1)) = lcs (x.drop i) (y.drop (j + 1)))
            generalize h2 : lcs (x.drop i) (y.drop (j + 1)) = l2 at c2
            generalize h1 : lcs (x.drop (i + 1)) (y.drop j) = l1 at c1
            have hkw : Blk wr w.heap.size 76 #[.int .i64 ((m : Int) + 1), .slice (some ⟨g, 0, none⟩) N N] := (hB.block w.heap.size (by omega)).trans hk
            have H1 := hid h1
            have H2 := hid h2
            have hi1 : IntKind.i64.wrap ((i : Int) + 1) = (i : Int) + 1 := by rw [IntKind.wrap_i64]; omega
            have hj1 : IntKind.i64.wrap ((j : Int) + 1) = (j : Int) + 1 := by rw [IntKind.wrap_i64]; omega
            clear h1 h2 HLE
            go_wp2_with (fail)
            have k0 : ∀ P : LtW wr, P.w.cell? ⟨w.heap.size, 0, none⟩ = some (.int .i64 ((m : Int) + 1)) := fun P => (hkw.below P.h).cell_ (i := 0) rfl
            have k1 : ∀ P : LtW wr, P.w.cell? ⟨w.heap.size, 0 + 1, none⟩ = some (.slice (some ⟨g, 0, none⟩) N N) := fun P => (hkw.below P.h).cell_ (i := 1) rfl
            have hXp : ∀ P : LtW wr, Below w.heap.size w P.w := fun P => hX.trans (P.h.mono hX.size)
            by_cases hle : l2 ≤ l1
            · have hle1 : (l2 : Int) ≤ (l1 : Int) := by omega
              have HLE := hid hle
              refine wp_region_lt mixed10 (by kernel_rfl) ?_
              repeat (first
                | ((with_reducible refine wpQuiet_step (fun K hK => ?_)); go_simp; first | ((with_reducible refine hK _ ?_); clear hK K) | (with_reducible apply Exists.intro; (with_reducible refine ⟨fun P => ?_, hK _ ?_⟩); (go_at_call 31; (first | exact lt_of (c1 _ (hXp P)) | exact lt_of (c2 _ (hXp P)))); clear hK K))
                | ((with_reducible refine BigFrame.wpQuiet_skip (by first | kernel_rfl | with_unfolding_all rfl) ?_); simp only [Act.put, List.setIfInBounds_toArray, List.set_cons_zero, List.set_cons_succ]))
              with_reducible refine wpQuiet_nil ?_
              intro _ hw'
              obtain ⟨P, rfl⟩ := hw'
              have hBP : Below (w.heap.size + 1) W0 P.w := hB.trans (P.h.mono (by omega))
              have HOP := hid (HO.out.below P.h)
              clear k0 k1 hXp
              generalize P.w = wp at *
              go_wp2_with (fail)
              go_roundw
              case rel => exact ⟨rfl, i + 1, j, by omega, by omega, hjj, hjm, by go_num, rfl, hid (by rw [HF.out, dg_le HA.out HBB.out HAB.out (by rw [H1.out, H2.out]; exact HLE.out), cutT_snoc x i0 i hii HA.out]), HOP, hBP⟩
              case measure => simp [intOf]; omega
            · have hle1 : ¬ (l2 : Int) ≤ (l1 : Int) := by omega
              have HLE := hid hle
              refine wp_region_lt mixed10 (by kernel_rfl) ?_
              repeat (first
                | ((with_reducible refine wpQuiet_step (fun K hK => ?_)); go_simp; first | ((with_reducible refine hK _ ?_); clear hK K) | (with_reducible apply Exists.intro; (with_reducible refine ⟨fun P => ?_, hK _ ?_⟩); (go_at_call 31; (first | exact lt_of (c1 _ (hXp P)) | exact lt_of (c2 _ (hXp P)))); clear hK K))
                | ((with_reducible refine BigFrame.wpQuiet_skip (by first | kernel_rfl | with_unfolding_all rfl) ?_); simp only [Act.put, List.setIfInBounds_toArray, List.set_cons_zero, List.set_cons_succ]))
              with_reducible refine wpQuiet_nil ?_
              intro _ hw'
              obtain ⟨P, rfl⟩ := hw'
              have hBP : Below (w.heap.size + 1) W0 P.w := hB.trans (P.h.mono (by omega))
              have HOP := hid (HO.out.below P.h)
              clear k0 k1 hXp
              generalize P.w = wp at *
              go_wp2_with (fail)
              go_roundw
              case rel => exact ⟨rfl, i, j + 1, hii, hin, by omega, by omega, rfl, by go_num, hid (by rw [HF.out, dg_gt HA.out HBB.out HAB.out (by rw [H1.out, H2.out]; exact HLE.out), cutT_snoc y j0 j hjj HBB.out]), HOP, hBP⟩
              case measure => simp [intOf]; omega
        · as_aux_lemma =>
          obtain rfl : j = m := by omega
          have z2 : ¬ (j : Int) < j := by omega
          clear ha
          go_wp2_with (fail)
          refine wp_region_quiet_lit mixed10 (by kernel_rfl) ?_
          repeat (first
            | ((with_reducible refine wpQuiet_step (fun K hK => ?_)); go_simp; first | ((with_reducible refine hK _ ?_); clear hK K))
            | ((with_reducible refine BigFrame.wpQuiet_skip (by first | kernel_rfl | with_unfolding_all rfl) ?_); simp only [Act.put, List.setIfInBounds_toArray, List.set_cons_zero, List.set_cons_succ]))
          with_reducible refine wpQuiet_nil ?_
          intro _ hw9
          obtain ⟨nq, rfl⟩ := hw9
          replace hX := below_drewN hX nq
          replace hB := below_drewN hB nq
          replace HO : Hid (HOwn (wr.drewN nq) (w.heap.size + 1) V ds) := hid HO.out
          generalize wr.drewN nq = wr at *
          clear hsw
          have hsw := hB.size
          go_wp2_with (fail)
          refine wp_region_quiet_lit mixed10 (by kernel_rfl) ?_
          repeat (first
            | ((with_reducible refine wpQuiet_step (fun K hK => ?_)); go_simp; first | ((with_reducible refine hK _ ?_); clear hK K))
            | ((with_reducible refine BigFrame.wpQuiet_skip (by first | kernel_rfl | with_unfolding_all rfl) ?_); simp only [Act.put, List.setIfInBounds_toArray, List.set_cons_zero, List.set_cons_succ]))
          with_reducible refine wpQuiet_nil ?_
          intro _ hw9
          obtain ⟨nq, rfl⟩ := hw9
          replace hX := below_drewN hX nq
          replace hB := below_drewN hB nq
          replace HO : Hid (HOwn (wr.drewN nq) (w.heap.size + 1) V ds) := hid HO.out
          generalize wr.drewN nq = wr at *
          clear hsw
          have hsw := hB.size
          go_wp2_with (fail)
          go_roundw
          case rel => exact ⟨rfl, i + 1, j, by omega, by omega, hjj, hjm, by go_num, rfl, hid (by rw [HF.out, dg_x HA.out (by rw [HY.out]; omega), cutT_snoc x i0 i hii HA.out]), HO, hB⟩
          case measure => simp [intOf]; omega
      · obtain rfl : i = n := by omega
        by_cases hj : j < m
        · as_aux_lemma =>
          obtain ⟨b, hb⟩ : ∃ b, y[j]? = some b := ⟨_, List.getElem?_eq_getElem (by rw [HY.out]; omega)⟩
          have HBB := hid hb
          have z1 : ¬ (i : Int) < i := by omega
          have z2 : (j : Int) < m := by omega
          have z3 : ((j : Int) == (m : Int)) = false := by rw [beq_eq_false_iff_ne]; omega
          have z4 : ¬ (j : Int) = m := by omega
          have z5 : ¬ j = m := by omega
          clear hb
          go_wp2_with (fail)
          refine wp_region_quiet_lit mixed10 (by kernel_rfl) ?_
          repeat (first
            | ((with_reducible refine wpQuiet_step (fun K hK => ?_)); go_simp; first | ((with_reducible refine hK _ ?_); clear hK K))
            | ((with_reducible refine BigFrame.wpQuiet_skip (by first | kernel_rfl | with_unfolding_all rfl) ?_); simp only [Act.put, List.setIfInBounds_toArray, List.set_cons_zero, List.set_cons_succ]))
          with_reducible refine wpQuiet_nil ?_
          intro _ hw9
          obtain ⟨nq, rfl⟩ := hw9
          replace hX := below_drewN hX nq
          replace hB := below_drewN hB nq
          replace HO : Hid (HOwn (wr.drewN nq) (w.heap.size + 1) V ds) := hid HO.out
          generalize wr.drewN nq = wr at *
          clear hsw
          have hsw := hB.size
          go_wp2_with (fail)
          refine wp_region_quiet_lit mixed10 (by kernel_rfl) ?_
          repeat (first
            | ((with_reducible refine wpQuiet_step (fun K hK => ?_)); go_simp; first | ((with_reducible refine hK _ ?_); clear hK K))
            | ((with_reducible refine BigFrame.wpQuiet_skip (by first | kernel_rfl | with_unfolding_all rfl) ?_); simp only [Act.put, List.setIfInBounds_toArray, List.set_cons_zero, List.set_cons_succ]))
          with_reducible refine wpQuiet_nil ?_
          intro _ hw9
          obtain ⟨nq, rfl⟩ := hw9
          replace hX := below_drewN hX nq
          replace hB := below_drewN hB nq
          replace HO : Hid (HOwn (wr.drewN nq) (w.heap.size + 1) V ds) := hid HO.out
          generalize wr.drewN nq = wr at *
          clear hsw
          have hsw := hB.size
          go_wp2_with (fail)
          go_roundw
          case rel => exact ⟨rfl, i, j + 1, hii, hin, by omega, by omega, rfl, by go_num, hid (by rw [HF.out, dg_y HBB.out (by rw [HX.out]; omega), cutT_snoc y j0 j hjj HBB.out]), HO, hB⟩
          case measure => simp [intOf]; omega
        · as_aux_lemma =>
          obtain rfl : j = m := by omega
          have z1 : ¬ (i : Int) < i := by omega
          have z2 : ¬ (j : Int) < j := by omega
          have s1 := sl_l A i c i0 hii hnc
          have s2 := sl_l B j d j0 hjj hmd
          go_wp2_with (fail)
          subst hQ
          go_wp2_with (fail)
          go_still_tail 8, mixed10
          have hX9 := hX.trans ((below_drew10 wr).mono hX.size)
          have hB9 : Below (w.heap.size + 1) W0 wr.drew := hB.trans ((below_drew10 wr).mono (by omega))
          go_wp2_with (fail)
          refine (with_any (w.heap.size + 1) V ds (by omega) j0 (pcA A i0 c) (i - i0) (c - i0) (cutT x i0 i) (cutT_length x i0 i (by rw [HX.out]; omega)) (by omega) (pcA B j0 d) (j - j0) (d - j0) (cutT y j0 j) (cutT_length y j0 j (by rw [HY.out]; omega)) (by omega) wr.drew (by have := hB9.size; omega) HO.out (cut_rd (HR.out.below hX9) i0 i c (by omega)) (cut_rd (HS.out.below hX9) j0 j d (by omega))).mono ?_
          rintro e9 w9 ⟨v', rfl, hO9, hb9⟩
          go_wp2_with (fail)
          (try rw [Exit.noGoto_ret])
          go_ret
          refine ⟨v', rfl, HOwn.le ?_ (Nat.le_succ _), hx.trans ((hB9.trans hb9).mono (Nat.le_succ _))⟩
          rw [HE.out, HF.out, dg_e (by rw [HX.out]; omega) (by rw [HY.out]; omega)]
          exact hO9
end Go.Proofs.Ytplcfdmehnilnaa

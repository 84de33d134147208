
/- Proved: for any four words of 16 bits, any byte and any int quitclaimlaw22.GaussSums returns true and leaves its arguments as they were. No conditions. -/
import Derived.Test.YtdkeobpmenaljaaGs5
import Derived.Test.YtdkeobpmenaljaaRows
import Derived.ChangeShapes
import Derived.Deep.DeepCutAuto
set_option linter.unusedSimpArgs false
set_option linter.unusedVariables false
namespace Go.Proofs.Ytdkeobpmenaljaa
open Go.RowKit Go.Qc

set_option maxRecDepth 100000 in
set_option maxHeartbeats 20000000 in
theorem walk_GaussSums (a b c d n : Nat) (t : Int) (ha : a < 65536) (hb : b < 65536) (hc : c < 65536) (hd : d < 65536) (hn : n < 256) (ht0 : -9223372036854775808 ≤ t) (ht1 : t ≤ 9223372036854775807) (w : World) :
    Calls Try.prog 8 #[.int .u16 a, .int .u16 b, .int .u16 c, .int .u16 d, .int .u8 n, .int .i64 t] w fun e w' => e = .returned (.bool true) ∧ Below w.heap.size w w' := by
  have rx := prZ_res a b
  have ry := prZ_res c d
  obtain ⟨K, m, hK, htK, htm, hm0, hm1, hcase⟩ := turn_cases t ht0 ht1
  have p1 := pair22_any a b ha hb
  have p2 := pair22_any c d hc hd
  generalize prZ a b = x at *
  generalize prZ c d = y at *
  obtain ⟨x1, x2, X1, X2, lx⟩ := LetZ.mk_ x
  obtain ⟨y1, y2, Y1, Y2, ly⟩ := LetZ.mk_ y
  obtain ⟨a1, a2, A1, A2, la⟩ := LetZ.mk_ (gaddZ x y)
  obtain ⟨s1, s2, S1, S2, ls⟩ := LetZ.mk_ (gsubZ x y)
  obtain ⟨m1, m2, M1, M2, lm⟩ := LetZ.mk_ (gmulZ x y)
  obtain ⟨q1, q2, Q1, Q2, lq⟩ := LetZ.mk_ (gpowZ x n)
  obtain ⟨i1, i2, I1, I2, li⟩ := LetZ.mk_ (gpowZ (0, 1) K)
  obtain ⟨t1, t2, T1, T2, lt⟩ := LetZ.mk_ (gmulZ x (gpowZ (0, 1) K))
  have ea := la.eq (zred_res _)
  have es := ls.eq (zred_res _)
  have em := lm.eq (gmulZ_res _ _)
  have eq := lq.eq (gpowZ_res _ _)
  have et := lt.eq (gmulZ_res _ _)
  have nx := lx.number
  have ny := ly.number
  have na := la.number
  have ns := ls.number
  have nm := lm.number
  have nq := lq.number
  have nt := lt.number
  have gr : ∀ W, Calls Try.prog 42 #[.complex .f64 X1 X2] W fun e w' => e = .returned (.bool true) ∧ Below W.heap.size W w' := fun W => by
    have hr := gright_any (fl x.1) (fl x.2) (fl_wf _) (fl_wf _) W
    rw [part_res rx.a0 rx.a1, part_res rx.b0 rx.b1] at hr
    have hr2 : Calls Try.prog 42 #[cz x] W fun e w' => e = .returned (.bool true) ∧ W = w' := hr
    rw [lx.cz] at hr2
    exact same_belowZ hr2
  have ga := fun W => same_belowZ (gadd_any x y rx ry W)
  have gs := fun W => same_belowZ (gsub_any x y rx ry W)
  have gm := fun W => same_belowZ (gmul_any x y rx ry W)
  have gp := fun W => same_belowZ (gpower_any x rx n (by omega) W)
  have gt := fun W => same_belowZ (gturn_any x rx t W)
  have ra := radd22_any x y rx ry
  have rs := rsub22_any x y rx ry
  have rm := rmul22_any x y rx ry
  have rp := rpower22_any x rx n (by omega)
  have ri := rpower22_any (0, 1) iZ_res K (by omega)
  have rt := rmul22_any x (gpowZ (0, 1) K) rx (gpowZ_res _ _)
  have ri' : ∀ W, Calls Try.prog 50 #[.agg #[.int .i64 0, .int .i64 1], .int .i64 K] W fun e w' => e = .returned (pz (gpowZ (0, 1) K)) ∧ Below W.heap.size W w' := ri
  rw [htK, Int.toNat_natCast] at gt
  rw [lx.cz, ly.cz, la.cz] at ga
  rw [lx.cz, ly.cz, ls.cz] at gs
  rw [lx.cz, ly.cz, lm.cz] at gm
  rw [lx.cz, lq.cz] at gp
  rw [lx.cz, lt.cz] at gt
  rw [lx.pz, ly.pz, la.pz] at ra
  rw [lx.pz, ly.pz, ls.pz] at rs
  rw [lx.pz, ly.pz, lm.pz] at rm
  rw [lx.pz, lq.pz] at rp
  rw [li.pz] at ri'
  rw [lx.pz, li.pz, lt.pz] at rt
  rw [lx.pz] at p1
  rw [ly.pz] at p2
  have aw := fun W => same_belowZ (awake22_any W)
  have hn2 : (n : Int) < 256 := by omega
  have hwn : IntKind.i64.wrap (n : Int) = n := by rw [IntKind.wrap_i64]; omega
  clear lx ly la ls lm lq li lt rx ry ri htK
  go_enter Try.func8, Try.ntmps8
  go_wp2_with (first
    | (go_at_call 40; (with_reducible refine (p1 _).mono ?_); rintro e1 w1 ⟨rfl, hb1⟩)
    | (go_at_call 40; (with_reducible refine (p2 _).mono ?_); rintro e2 w2 ⟨rfl, hb2⟩))
  have hk1 := (Blk.new w2 78 #[.int .i64 x1, .int .i64 x2]).alloc (.cells #[.int .i64 y1, .int .i64 y2] 78)
  have hk2 := blk_p1 w2 (.cells #[.int .i64 x1, .int .i64 x2] 78) 78 #[.int .i64 y1, .int .i64 y2]
  have hb3 := ((hb1.trans (hb2.mono hb1.size)).alloc (Nat.le_trans hb1.size hb2.size) (.cells #[.int .i64 x1, .int .i64 x2] 78)).alloc (by rw [World.size_alloc]; have := hb1.size; have := hb2.size; omega) (.cells #[.int .i64 y1, .int .i64 y2] 78)
  generalize (w2.alloc (.cells #[.int .i64 x1, .int .i64 x2] 78)).alloc (.cells #[.int .i64 y1, .int .i64 y2] 78) = W2 at *
  have f1 : ∀ P : LaterZ W2, P.w.cell? ⟨w2.heap.size, 0, none⟩ = some (.int .i64 x1) := fun P => (hk1.below P.h).cell_ rfl
  have f2 : ∀ P : LaterZ W2, P.w.cell? ⟨w2.heap.size, 1, none⟩ = some (.int .i64 x2) := fun P => (hk1.below P.h).cell_ rfl
  have f3 : ∀ P : LaterZ W2, P.w.cell? ⟨w2.heap.size + 1, 0, none⟩ = some (.int .i64 y1) := fun P => (hk2.below P.h).cell_ rfl
  have f4 : ∀ P : LaterZ W2, P.w.cell? ⟨w2.heap.size + 1, 1, none⟩ = some (.int .i64 y2) := fun P => (hk2.below P.h).cell_ rfl
  refine wp_region_laterZ mixedZ (by kernel_rfl) ?_
  repeat (first
    | ((with_reducible refine wpQuiet_step (fun K hK => ?_)); go_simp; first | ((with_reducible refine hK _ ?_); clear hK K) | (with_reducible apply Exists.intro; (with_reducible refine ⟨fun P => ?_, hK _ ?_⟩); (first | (go_at_call 41; with_reducible exact later_ofZ (nx P.w)) | (go_at_call 41; with_reducible exact later_ofZ (ny P.w))); clear hK K))
    | ((with_reducible refine BigFrame.wpQuiet_skip (by first | kernel_rfl | with_unfolding_all rfl) ?_); simp only [Act.put, List.setIfInBounds_toArray, List.set_cons_zero, List.set_cons_succ]))
  with_reducible refine wpQuiet_nil ?_
  intro _ hw9
  obtain ⟨P9, rfl⟩ := hw9
  clear f1 f2 f3 f4
  have hk3 := hk1.below P9.h
  have hk4 := hk2.below P9.h
  have hb4 := hb3.trans (P9.h.mono hb3.size)
  generalize P9.w = W3 at *
  clear hb1 hb2 hb3 hk1 hk2
  have f1 : ∀ P : LaterZ W3, P.w.cell? ⟨w2.heap.size, 0, none⟩ = some (.int .i64 x1) := fun P => (hk3.below P.h).cell_ rfl
  have f2 : ∀ P : LaterZ W3, P.w.cell? ⟨w2.heap.size, 1, none⟩ = some (.int .i64 x2) := fun P => (hk3.below P.h).cell_ rfl
  have f3 : ∀ P : LaterZ W3, P.w.cell? ⟨w2.heap.size + 1, 0, none⟩ = some (.int .i64 y1) := fun P => (hk4.below P.h).cell_ rfl
  have f4 : ∀ P : LaterZ W3, P.w.cell? ⟨w2.heap.size + 1, 1, none⟩ = some (.int .i64 y2) := fun P => (hk4.below P.h).cell_ rfl
  have hb5 := hid hb4
  clear hb4 hk3 hk4
  rcases hcase with ⟨hmn, hmk⟩ | ⟨hmn, hmk⟩
  · go_wp2_with (fail)
    refine wp_region_laterZ mixedZ (by kernel_rfl) ?_
    repeat (first
      | ((with_reducible refine wpQuiet_step (fun K hK => ?_)); go_simp; first | ((with_reducible refine hK _ ?_); clear hK K) | (with_reducible apply Exists.intro; (with_reducible refine ⟨fun P => ?_, hK _ ?_⟩); (first | (go_at_call 41; with_reducible exact later_ofZ (nx P.w)) | (go_at_call 41; with_reducible exact later_ofZ (ny P.w)) | (go_at_call 41; with_reducible exact later_ofZ (na P.w)) | (go_at_call 41; with_reducible exact later_ofZ (ns P.w)) | (go_at_call 41; with_reducible exact later_ofZ (nm P.w)) | (go_at_call 41; with_reducible exact later_ofZ (nq P.w)) | (go_at_call 41; with_reducible exact later_ofZ (nt P.w)) | (go_at_call 42; with_reducible exact later_ofZ (gr P.w)) | (go_at_call 43; with_reducible exact later_ofZ (ga P.w)) | (go_at_call 45; with_reducible exact later_ofZ (gs P.w)) | (go_at_call 47; with_reducible exact later_ofZ (gm P.w)) | (go_at_call 49; with_reducible exact later_ofZ (gp P.w)) | (go_at_call 51; with_reducible exact later_ofZ (gt P.w)) | (go_at_call 44; with_reducible exact later_ofZ (ra P.w)) | (go_at_call 46; with_reducible exact later_ofZ (rs P.w)) | (go_at_call 48; with_reducible exact later_ofZ (rm P.w)) | (go_at_call 50; with_reducible exact later_ofZ (rp P.w)) | (go_at_call 50; with_reducible exact later_ofZ (ri' P.w)) | (go_at_call 48; with_reducible exact later_ofZ (rt P.w)) | (go_at_call 52; with_reducible exact later_ofZ (aw P.w))); clear hK K))
      | ((with_reducible refine BigFrame.wpQuiet_skip (by first | kernel_rfl | with_unfolding_all rfl) ?_); simp only [Act.put, List.setIfInBounds_toArray, List.set_cons_zero, List.set_cons_succ]))
    with_reducible refine wpQuiet_nil ?_
    intro _ hw9
    obtain ⟨P9, rfl⟩ := hw9
    go_wp2
    go_ret
    exact ⟨rfl, hb5.out.trans (P9.h.mono hb5.out.size)⟩
  · subst hmk
    go_wp2_with (fail)
    refine wp_region_laterZ mixedZ (by kernel_rfl) ?_
    repeat (first
      | ((with_reducible refine wpQuiet_step (fun K hK => ?_)); go_simp; first | ((with_reducible refine hK _ ?_); clear hK K) | (with_reducible apply Exists.intro; (with_reducible refine ⟨fun P => ?_, hK _ ?_⟩); (first | (go_at_call 41; with_reducible exact later_ofZ (nx P.w)) | (go_at_call 41; with_reducible exact later_ofZ (ny P.w)) | (go_at_call 41; with_reducible exact later_ofZ (na P.w)) | (go_at_call 41; with_reducible exact later_ofZ (ns P.w)) | (go_at_call 41; with_reducible exact later_ofZ (nm P.w)) | (go_at_call 41; with_reducible exact later_ofZ (nq P.w)) | (go_at_call 41; with_reducible exact later_ofZ (nt P.w)) | (go_at_call 42; with_reducible exact later_ofZ (gr P.w)) | (go_at_call 43; with_reducible exact later_ofZ (ga P.w)) | (go_at_call 45; with_reducible exact later_ofZ (gs P.w)) | (go_at_call 47; with_reducible exact later_ofZ (gm P.w)) | (go_at_call 49; with_reducible exact later_ofZ (gp P.w)) | (go_at_call 51; with_reducible exact later_ofZ (gt P.w)) | (go_at_call 44; with_reducible exact later_ofZ (ra P.w)) | (go_at_call 46; with_reducible exact later_ofZ (rs P.w)) | (go_at_call 48; with_reducible exact later_ofZ (rm P.w)) | (go_at_call 50; with_reducible exact later_ofZ (rp P.w)) | (go_at_call 50; with_reducible exact later_ofZ (ri' P.w)) | (go_at_call 48; with_reducible exact later_ofZ (rt P.w)) | (go_at_call 52; with_reducible exact later_ofZ (aw P.w))); clear hK K))
      | ((with_reducible refine BigFrame.wpQuiet_skip (by first | kernel_rfl | with_unfolding_all rfl) ?_); simp only [Act.put, List.setIfInBounds_toArray, List.set_cons_zero, List.set_cons_succ]))
    with_reducible refine wpQuiet_nil ?_
    intro _ hw9
    obtain ⟨P9, rfl⟩ := hw9
    go_wp2
    go_ret
    exact ⟨rfl, hb5.out.trans (P9.h.mono hb5.out.size)⟩

theorem law_GaussSums (w : World) (a0 : Int) (w0 : (Lit.int .u16 a0).wf = true) (a1 : Int) (w1 : (Lit.int .u16 a1).wf = true) (a2 : Int) (w2 : (Lit.int .u16 a2).wf = true) (a3 : Int) (w3 : (Lit.int .u16 a3).wf = true) (a4 : Int) (w4 : (Lit.int .u8 a4).wf = true) (a5 : Int) (w5 : (Lit.int .i64 a5).wf = true) :
    Calls Try.prog 8 #[.int .u16 a0, .int .u16 a1, .int .u16 a2, .int .u16 a3, .int .u8 a4, .int .i64 a5] w fun e w' => e = .returned (.bool true) ∧ Below w.heap.size w w' := by
  obtain ⟨a, rfl, ha⟩ := wf_u16 w0
  obtain ⟨b, rfl, hb⟩ := wf_u16 w1
  obtain ⟨c, rfl, hc⟩ := wf_u16 w2
  obtain ⟨d, rfl, hd⟩ := wf_u16 w3
  obtain ⟨n, rfl, hn⟩ := wf_u8 w4
  obtain ⟨t0, t1⟩ := wf_i64Z w5
  exact walk_GaussSums a b c d n a5 ha hb hc hd hn t0 t1 w

open Go.ChangeShapes Go.WideShapes Go.ChangeAt
open Go.ChangeMaps (open_string shut_string)
theorem own_GaussSums : ownKnob Try.prog.godebug = none := by kernel_rfl
theorem laidOut_GaussSums : laidOutB Try.prog = true := by kernel_rfl
set_option linter.unusedVariables false in
set_option maxRecDepth 100000 in
theorem lifted_GaussSums (os : Os) (started : os.Started) (H : Type) (enc : TypeId × Value → H) :
    ReturnsInHanded {} Try.checked os 8 .any (Rows.gaussSumsSpec.pre6 enc Try.prog Try.f8 Rows.gaussSumsRow.domain false) (Rows.gaussSumsSpec.post enc Try.prog Try.f8 false true false false) := by
  refine returnsInHanded_of_change (C := Try.checked) own_GaussSums started (by kernel_rfl) Try.func8
    (ChangeSpec.witness6 (enc := enc) (C := Try.checked) false ⟨#[], #[.int .u16 0, .int .u16 0, .int .u16 0, .int .u16 0, .int .u8 0, .int .i64 0], []⟩ 8 (by kernel_rfl) (by kernel_rfl) (by kernel_rfl) (by kernel_rfl)) ?_
  intro W base args ds gs before hval0 hW hcnd _
  have hval : ∀ (j : Nat) t v, Try.f8.params[j]? = some t → args[j]? = some v → Value.okWide Try.prog W .any base t v := hval0
  have hW' := hW
  obtain ⟨p, q, hA0, hV, rfl, hfz, hnd⟩ := hW
  have hA1 : DataW.TrodAll enc Try.prog W 0 (fun _ => true) true Try.f8.params.toList args.toList ds p := hA0
  have hA : DataW.TrodAll enc Try.prog W 0 (fun _ => true) true Try.f8.params.toList args.toList ds p := hA0
  rw [Try.params8] at hA hval
  obtain ⟨v0, vs0, d0, ds0, p0, q0, hargs, rfl, rfl, h0, r0⟩ := trodAll_cons hA
  obtain ⟨v1, vs1, d1, ds1, p1, q1, rfl, rfl, rfl, h1, r1⟩ := trodAll_cons r0
  obtain ⟨v2, vs2, d2, ds2, p2, q2, rfl, rfl, rfl, h2, r2⟩ := trodAll_cons r1
  obtain ⟨v3, vs3, d3, ds3, p3, q3, rfl, rfl, rfl, h3, r3⟩ := trodAll_cons r2
  obtain ⟨v4, vs4, d4, ds4, p4, q4, rfl, rfl, rfl, h4, r4⟩ := trodAll_cons r3
  obtain ⟨v5, vs5, d5, ds5, p5, q5, rfl, rfl, rfl, h5, r5⟩ := trodAll_cons r4
  obtain ⟨rfl, rfl, rfl⟩ := trodAll_nil r5
  obtain rfl : args = #[v0, v1, v2, v3, v4, v5] := by cases args; simp_all
  obtain ⟨rfl, rfl⟩ := trodVars_none hV
  obtain ⟨a0, rfl, rfl, rfl, w0⟩ := open_int Try.underlying76 (hval 0 76 v0 rfl rfl) h0
  obtain ⟨a1, rfl, rfl, rfl, w1⟩ := open_int Try.underlying76 (hval 1 76 v1 rfl rfl) h1
  obtain ⟨a2, rfl, rfl, rfl, w2⟩ := open_int Try.underlying76 (hval 2 76 v2 rfl rfl) h2
  obtain ⟨a3, rfl, rfl, rfl, w3⟩ := open_int Try.underlying76 (hval 3 76 v3 rfl rfl) h3
  obtain ⟨a4, rfl, rfl, rfl, w4⟩ := open_int Try.underlying5 (hval 4 5 v4 rfl rfl) h4
  obtain ⟨a5, rfl, rfl, rfl, w5⟩ := open_int Try.underlying3 (hval 5 3 v5 rfl rfl) h5
  clear hA0 hval0
  refine (law_GaussSums W a0 w0 a1 w1 a2 w2 a3 w3 a4 w4 a5 w5).mono fun e W' ⟨he, bel⟩ => ?_
  subst he
  exact ⟨_, rfl, _, _, _, [], _, [], hW', trodAll_mk1 (shut_bool Try.underlying4 _), trodAll_stays laidOut_GaussSums bel (by kernel_rfl) hA1, rfl, bel.frame _, fun h => by cases h⟩

/-- The statement. -/
theorem GaussSums_holds : Rows.GaussSumsSaid :=
  OpenClaim.holds_of_wide 8 Try.f8 rfl rfl rfl rfl rfl rfl rfl ⟨rfl, rfl, rfl, rfl, rfl⟩ rfl rfl rfl rfl rfl (by kernel_rfl) Try.func8 (by kernel_rfl)
    (of_decide_eq_true (by kernel_rfl)) (by unfold Func.isWrapper; first | (rw [if_pos (by decide +kernel)]; kernel_rfl) | (rw [if_neg (by decide +kernel)]; exact ⟨rfl, rfl⟩))
    (fun os started H enc _ => lifted_GaussSums os started H enc)
#print axioms GaussSums_holds

end Go.Proofs.Ytdkeobpmenaljaa


/- Proved: for any four words of 16 bits quitclaimlaw22.GaussInverses returns true and leaves its arguments as they were. No conditions. -/
import Derived.Test.YtdkeobpmenaljaaGs5
import Derived.Test.YtdkeobpmenaljaaRows
import Derived.ChangeShapes
import Derived.Deep.DeepCutAuto
set_option linter.unusedSimpArgs false
set_option linter.unusedVariables false
namespace Go.Proofs.Ytdkeobpmenaljaa
open Go.RowKit Go.Qc

theorem back_mulZ (x y : Int × Int) (hx : ResZ x) (hy : ResZ y) (h0 : y ≠ (0, 0)) : gmulZ (gmulZ x (ginvZ y)) y = x := by
  rw [gmulZ_assoc, gmulZ_comm (ginvZ y) y, ginv_mul hy h0, gmulZ_one hx]
set_option maxRecDepth 100000 in
set_option maxHeartbeats 20000000 in
theorem walk_GaussInverses (a b c d : Nat) (ha : a < 65536) (hb : b < 65536) (hc : c < 65536) (hd : d < 65536) (w : World) :
    Calls Try.prog 9 #[.int .u16 a, .int .u16 b, .int .u16 c, .int .u16 d] w fun e w' => e = .returned (.bool true) ∧ Below w.heap.size w w' := by
  have rx := prZ_res a b
  have ry := prZ_res c d
  have p1 := pair22_any a b ha hb
  have p2 := pair22_any c d hc hd
  generalize prZ a b = x at *
  generalize prZ c d = y at *
  obtain ⟨x1, x2, X1, X2, lx⟩ := LetZ.mk_ x
  have nx := lx.number
  have aw := fun W => same_belowZ (awake22_any W)
  by_cases hz : y = (0, 0)
  · subst hz
    have hcz := cz_zero
    have n0 : ∀ W, Calls Try.prog 41 #[.agg #[.int .i64 0, .int .i64 0]] W fun e w' => e = .returned (.complex .f64 0 0) ∧ Below W.heap.size W w' := fun W => by
      have := number22_any (0, 0) W
      rw [← cz_zero] at this
      exact this
    have p2' : ∀ W, Calls Try.prog 40 #[.int .u16 c, .int .u16 d] W fun e w' => e = .returned (.agg #[.int .i64 0, .int .i64 0]) ∧ Below W.heap.size W w' := p2
    have iv := ginv_zero
    have dv := gdiv_zero x
    rw [← cz_zero] at iv dv
    rw [lx.cz] at dv
    rw [lx.pz] at p1
    have q0 : ∀ W, (binOp .eql 80 (.complex .f64 0 0) (.complex .f64 0 0)).run Try.prog W = .ok (.bool true) W := fun W => by
      have := run_cz_zero 80 (0, 0) ry W
      rw [← cz_zero, decide_eq_true rfl] at this
      exact this
    have pe : ∀ W, (Op.equalIn 10000 78 (.agg #[.int .i64 0, .int .i64 0]) (.agg #[.int .i64 0, .int .i64 0])).run Try.prog W = .ok true W := fun W => pair_eqZ 0 0 0 0 W
    have k := hid hcz
    clear lx rx ry p2 hcz
    go_enter Try.func9, Try.ntmps9
    go_wp2_with (first
      | (go_at_call 40; (with_reducible refine (p1 _).mono ?_); rintro e1 w1 ⟨rfl, hb1⟩)
      | (go_at_call 40; (with_reducible refine (p2' _).mono ?_); rintro e2 w2 ⟨rfl, hb2⟩))
    have hk1 := (Blk.new w2 78 #[.int .i64 x1, .int .i64 x2]).alloc (.cells #[.int .i64 0, .int .i64 0] 78)
    have hk2 := blk_p1 w2 (.cells #[.int .i64 x1, .int .i64 x2] 78) 78 #[.int .i64 0, .int .i64 0]
    have hb3 := ((hb1.trans (hb2.mono hb1.size)).alloc (Nat.le_trans hb1.size hb2.size) (.cells #[.int .i64 x1, .int .i64 x2] 78)).alloc (by rw [World.size_alloc]; have := hb1.size; have := hb2.size; omega) (.cells #[.int .i64 0, .int .i64 0] 78)
    generalize (w2.alloc (.cells #[.int .i64 x1, .int .i64 x2] 78)).alloc (.cells #[.int .i64 0, .int .i64 0] 78) = W2 at *
    have f1 : ∀ P : LaterZ W2, P.w.cell? ⟨w2.heap.size, 0, none⟩ = some (.int .i64 x1) := fun P => (hk1.below P.h).cell_ rfl
    have f2 : ∀ P : LaterZ W2, P.w.cell? ⟨w2.heap.size, 1, none⟩ = some (.int .i64 x2) := fun P => (hk1.below P.h).cell_ rfl
    have f3 : ∀ P : LaterZ W2, P.w.cell? ⟨w2.heap.size + 1, 0, none⟩ = some (.int .i64 0) := fun P => (hk2.below P.h).cell_ rfl
    have f4 : ∀ P : LaterZ W2, P.w.cell? ⟨w2.heap.size + 1, 1, none⟩ = some (.int .i64 0) := fun P => (hk2.below P.h).cell_ rfl
    refine wp_region_laterZ mixedZ (by kernel_rfl) ?_
    repeat (first
      | ((with_reducible refine wpQuiet_step (fun K hK => ?_)); go_simp; first | ((with_reducible refine hK _ ?_); clear hK K) | (with_reducible apply Exists.intro; (with_reducible refine ⟨fun P => ?_, hK _ ?_⟩); (first | (go_at_call 41; with_reducible exact later_ofZ (nx P.w)) | (go_at_call 41; with_reducible exact later_ofZ (n0 P.w))); clear hK K)))
    with_reducible refine wpQuiet_nil ?_
    intro _ hw9
    obtain ⟨P9, rfl⟩ := hw9
    have hk4 := hk2.below P9.h
    have hb4 := hb3.trans (P9.h.mono hb3.size)
    generalize P9.w = W3 at *
    have c0 := hk4.cell_ (i := 0) rfl
    have c1 := hk4.cell_ (i := 1) rfl
    clear hb1 hb2 hb3 hk1 hk2 f1 f2 f3 f4 hk4
    go_wp2_with (first
      | (go_at_call 53; (with_reducible refine (iv _).mono ?_); rintro e1 w1 ⟨rfl, rfl⟩)
      | (go_at_call 54; (with_reducible refine (dv _).mono ?_); rintro e1 w1 ⟨rfl, rfl⟩)
      | (go_at_call 52; (with_reducible refine (aw _).mono ?_); rintro e1 w1 ⟨rfl, hb5⟩))
    go_ret
    exact ⟨rfl, hb4.trans (hb5.mono hb4.size)⟩
  · obtain ⟨y1, y2, Y1, Y2, ly⟩ := LetZ.mk_ y
    obtain ⟨i1, i2, I1, I2, li⟩ := LetZ.mk_ (ginvZ y)
    obtain ⟨r1, r2, R1, R2, lr⟩ := LetZ.mk_ (gmulZ x (ginvZ y))
    have ny := ly.number
    have iv := ginv_any y ry hz
    have dv := gdiv_any x y rx ry hz
    have m1 := gmul_any y (ginvZ y) ry (ginv_res y)
    have m2 := gmul_any (gmulZ x (ginvZ y)) y (gmulZ_res _ _) ry
    rw [back_mulZ x y rx ry hz] at m2
    rw [ginv_mul ry hz, ← cz_one] at m1
    have gi : ∀ W, Calls Try.prog 42 #[.complex .f64 I1 I2] W fun e w' => e = .returned (.bool true) ∧ W = w' := fun W => by
      have rr := ginv_res y
      have hr := gright_any (fl (ginvZ y).1) (fl (ginvZ y).2) (fl_wf _) (fl_wf _) W
      rw [part_res rr.a0 rr.a1, part_res rr.b0 rr.b1] at hr
      have hr2 : Calls Try.prog 42 #[cz (ginvZ y)] W fun e w' => e = .returned (.bool true) ∧ W = w' := hr
      rwa [li.cz] at hr2
    have gr : ∀ W, Calls Try.prog 42 #[.complex .f64 R1 R2] W fun e w' => e = .returned (.bool true) ∧ W = w' := fun W => by
      have rr := gmulZ_res x (ginvZ y)
      have hr := gright_any (fl (gmulZ x (ginvZ y)).1) (fl (gmulZ x (ginvZ y)).2) (fl_wf _) (fl_wf _) W
      rw [part_res rr.a0 rr.a1, part_res rr.b0 rr.b1] at hr
      have hr2 : Calls Try.prog 42 #[cz (gmulZ x (ginvZ y))] W fun e w' => e = .returned (.bool true) ∧ W = w' := hr
      rwa [lr.cz] at hr2
    have q1 : ∀ W, (binOp .eql 80 (.complex .f64 4607182418800017408 0) (.complex .f64 4607182418800017408 0)).run Try.prog W = .ok (.bool true) W := fun W => by
      have := run_cz_eq 80 (1, 0) (1, 0) oneZ_res oneZ_res W
      rw [← cz_one, decide_eq_true rfl] at this
      exact this
    have qx := lx.eq rx
    have pe : ∀ W, (Op.equalIn 10000 78 (.agg #[.int .i64 y1, .int .i64 y2]) (.agg #[.int .i64 0, .int .i64 0])).run Try.prog W = .ok false W := fun W => by
      have h := pair_eqZ y1 y2 0 0 W
      have hn : ((y1 == 0) && (y2 == 0)) = false := by
        rw [Bool.and_eq_false_iff]
        by_cases h1 : y1 = 0
        · by_cases h2 : y2 = 0
          · exfalso
            apply hz
            have e1 := ly.ra
            have e2 := ly.rb
            rw [h1] at e1
            rw [h2] at e2
            exact Prod.ext e1 e2
          · exact .inr (by simpa using h2)
        · exact .inl (by simpa using h1)
      rw [hn] at h
      exact h
    rw [ly.cz, li.cz] at iv
    rw [lx.cz, ly.cz, lr.cz] at dv
    rw [ly.cz, li.cz] at m1
    rw [lr.cz, ly.cz, lx.cz] at m2
    rw [lx.pz] at p1
    rw [ly.pz] at p2
    clear lx ly li lr rx ry hz
    go_enter Try.func9, Try.ntmps9
    go_wp2_with (first
      | (go_at_call 40; (with_reducible refine (p1 _).mono ?_); rintro e1 w1 ⟨rfl, hb1⟩)
      | (go_at_call 40; (with_reducible refine (p2 _).mono ?_); rintro e2 w2 ⟨rfl, hb2⟩))
    have hk1 := (Blk.new w2 78 #[.int .i64 x1, .int .i64 x2]).alloc (.cells #[.int .i64 y1, .int .i64 y2] 78)
    have hk2 := blk_p1 w2 (.cells #[.int .i64 x1, .int .i64 x2] 78) 78 #[.int .i64 y1, .int .i64 y2]
    have hb3 := ((hb1.trans (hb2.mono hb1.size)).alloc (Nat.le_trans hb1.size hb2.size) (.cells #[.int .i64 x1, .int .i64 x2] 78)).alloc (by rw [World.size_alloc]; have := hb1.size; have := hb2.size; omega) (.cells #[.int .i64 y1, .int .i64 y2] 78)
    generalize (w2.alloc (.cells #[.int .i64 x1, .int .i64 x2] 78)).alloc (.cells #[.int .i64 y1, .int .i64 y2] 78) = W2 at *
    have f1 : ∀ P : LaterZ W2, P.w.cell? ⟨w2.heap.size, 0, none⟩ = some (.int .i64 x1) := fun P => (hk1.below P.h).cell_ rfl
    have f2 : ∀ P : LaterZ W2, P.w.cell? ⟨w2.heap.size, 1, none⟩ = some (.int .i64 x2) := fun P => (hk1.below P.h).cell_ rfl
    have f3 : ∀ P : LaterZ W2, P.w.cell? ⟨w2.heap.size + 1, 0, none⟩ = some (.int .i64 y1) := fun P => (hk2.below P.h).cell_ rfl
    have f4 : ∀ P : LaterZ W2, P.w.cell? ⟨w2.heap.size + 1, 1, none⟩ = some (.int .i64 y2) := fun P => (hk2.below P.h).cell_ rfl
    refine wp_region_laterZ mixedZ (by kernel_rfl) ?_
    repeat (first
      | ((with_reducible refine wpQuiet_step (fun K hK => ?_)); go_simp; first | ((with_reducible refine hK _ ?_); clear hK K) | (with_reducible apply Exists.intro; (with_reducible refine ⟨fun P => ?_, hK _ ?_⟩); (first | (go_at_call 41; with_reducible exact later_ofZ (nx P.w)) | (go_at_call 41; with_reducible exact later_ofZ (ny P.w))); clear hK K)))
    with_reducible refine wpQuiet_nil ?_
    intro _ hw9
    obtain ⟨P9, rfl⟩ := hw9
    have hk4 := hk2.below P9.h
    have hb4 := hb3.trans (P9.h.mono hb3.size)
    generalize P9.w = W3 at *
    have c0 := hk4.cell_ (i := 0) rfl
    have c1 := hk4.cell_ (i := 1) rfl
    clear hb1 hb2 hb3 hk1 hk2 f1 f2 f3 f4 hk4
    go_wp2_with (first
      | (go_at_call 53; (with_reducible refine (iv _).mono ?_); rintro e1 w1 ⟨rfl, rfl⟩)
      | (go_at_call 54; (with_reducible refine (dv _).mono ?_); rintro e1 w1 ⟨rfl, rfl⟩)
      | (go_at_call 42; (with_reducible refine (gi _).mono ?_); rintro e1 w1 ⟨rfl, rfl⟩)
      | (go_at_call 42; (with_reducible refine (gr _).mono ?_); rintro e1 w1 ⟨rfl, rfl⟩)
      | (go_at_call 47; (with_reducible refine (m1 _).mono ?_); rintro e1 w1 ⟨rfl, rfl⟩)
      | (go_at_call 47; (with_reducible refine (m2 _).mono ?_); rintro e1 w1 ⟨rfl, rfl⟩)
      | (go_at_call 52; (with_reducible refine (aw _).mono ?_); rintro e1 w1 ⟨rfl, hb5⟩))
    go_ret
    exact ⟨rfl, hb4.trans (hb5.mono hb4.size)⟩

theorem law_GaussInverses (w : World) (a0 : Int) (w0 : (Lit.int .u16 a0).wf = true) (a1 : Int) (w1 : (Lit.int .u16 a1).wf = true) (a2 : Int) (w2 : (Lit.int .u16 a2).wf = true) (a3 : Int) (w3 : (Lit.int .u16 a3).wf = true) :
    Calls Try.prog 9 #[.int .u16 a0, .int .u16 a1, .int .u16 a2, .int .u16 a3] w fun e w' => e = .returned (.bool true) ∧ Below w.heap.size w w' := by
  obtain ⟨a, rfl, ha⟩ := wf_u16 w0
  obtain ⟨b, rfl, hb⟩ := wf_u16 w1
  obtain ⟨c, rfl, hc⟩ := wf_u16 w2
  obtain ⟨d, rfl, hd⟩ := wf_u16 w3
  exact walk_GaussInverses a b c d ha hb hc hd w

open Go.ChangeShapes Go.WideShapes Go.ChangeAt
open Go.ChangeMaps (open_string shut_string)
theorem own_GaussInverses : ownKnob Try.prog.godebug = none := by kernel_rfl
theorem laidOut_GaussInverses : laidOutB Try.prog = true := by kernel_rfl
set_option linter.unusedVariables false in
set_option maxRecDepth 100000 in
theorem lifted_GaussInverses (os : Os) (started : os.Started) (H : Type) (enc : TypeId × Value → H) :
    ReturnsInHanded {} Try.checked os 9 .any (Rows.gaussInversesSpec.pre6 enc Try.prog Try.f9 Rows.gaussInversesRow.domain false) (Rows.gaussInversesSpec.post enc Try.prog Try.f9 false true false false) := by
  refine returnsInHanded_of_change (C := Try.checked) own_GaussInverses started (by kernel_rfl) Try.func9
    (ChangeSpec.witness6 (enc := enc) (C := Try.checked) false ⟨#[], #[.int .u16 0, .int .u16 0, .int .u16 0, .int .u16 0], []⟩ 8 (by kernel_rfl) (by kernel_rfl) (by kernel_rfl) (by kernel_rfl)) ?_
  intro W base args ds gs before hval0 hW hcnd _
  have hval : ∀ (j : Nat) t v, Try.f9.params[j]? = some t → args[j]? = some v → Value.okWide Try.prog W .any base t v := hval0
  have hW' := hW
  obtain ⟨p, q, hA0, hV, rfl, hfz, hnd⟩ := hW
  have hA1 : DataW.TrodAll enc Try.prog W 0 (fun _ => true) true Try.f9.params.toList args.toList ds p := hA0
  have hA : DataW.TrodAll enc Try.prog W 0 (fun _ => true) true Try.f9.params.toList args.toList ds p := hA0
  rw [Try.params9] at hA hval
  obtain ⟨v0, vs0, d0, ds0, p0, q0, hargs, rfl, rfl, h0, r0⟩ := trodAll_cons hA
  obtain ⟨v1, vs1, d1, ds1, p1, q1, rfl, rfl, rfl, h1, r1⟩ := trodAll_cons r0
  obtain ⟨v2, vs2, d2, ds2, p2, q2, rfl, rfl, rfl, h2, r2⟩ := trodAll_cons r1
  obtain ⟨v3, vs3, d3, ds3, p3, q3, rfl, rfl, rfl, h3, r3⟩ := trodAll_cons r2
  obtain ⟨rfl, rfl, rfl⟩ := trodAll_nil r3
  obtain rfl : args = #[v0, v1, v2, v3] := by cases args; simp_all
  obtain ⟨rfl, rfl⟩ := trodVars_none hV
  obtain ⟨a0, rfl, rfl, rfl, w0⟩ := open_int Try.underlying76 (hval 0 76 v0 rfl rfl) h0
  obtain ⟨a1, rfl, rfl, rfl, w1⟩ := open_int Try.underlying76 (hval 1 76 v1 rfl rfl) h1
  obtain ⟨a2, rfl, rfl, rfl, w2⟩ := open_int Try.underlying76 (hval 2 76 v2 rfl rfl) h2
  obtain ⟨a3, rfl, rfl, rfl, w3⟩ := open_int Try.underlying76 (hval 3 76 v3 rfl rfl) h3
  clear hA0 hval0
  refine (law_GaussInverses W a0 w0 a1 w1 a2 w2 a3 w3).mono fun e W' ⟨he, bel⟩ => ?_
  subst he
  exact ⟨_, rfl, _, _, _, [], _, [], hW', trodAll_mk1 (shut_bool Try.underlying4 _), trodAll_stays laidOut_GaussInverses bel (by kernel_rfl) hA1, rfl, bel.frame _, fun h => by cases h⟩

/-- The statement. -/
theorem GaussInverses_holds : Rows.GaussInversesSaid :=
  OpenClaim.holds_of_wide 9 Try.f9 rfl rfl rfl rfl rfl rfl rfl ⟨rfl, rfl, rfl, rfl, rfl⟩ rfl rfl rfl rfl rfl (by kernel_rfl) Try.func9 (by kernel_rfl)
    (of_decide_eq_true (by kernel_rfl)) (by unfold Func.isWrapper; first | (rw [if_pos (by decide +kernel)]; kernel_rfl) | (rw [if_neg (by decide +kernel)]; exact ⟨rfl, rfl⟩))
    (fun os started H enc _ => lifted_GaussInverses os started H enc)
#print axioms GaussInverses_holds

end Go.Proofs.Ytdkeobpmenaljaa


/- Proved: for any two floats and any int quitclaimlaw22.GaussOdd returns true and leaves its arguments as they were. No conditions. -/
import Derived.Test.YtdkeobpmenaljaaGs9
import Derived.Test.YtdkeobpmenaljaaRows
import Derived.ChangeShapes
import Derived.Deep.DeepCutAuto
set_option linter.unusedSimpArgs false
set_option linter.unusedVariables false
namespace Go.Proofs.Ytdkeobpmenaljaa
open Go.RowKit Go.Qc

theorem one_part : partF 4607182418800017408 = true ∧ partF 0 = true := by decide +kernel
set_option maxRecDepth 100000 in
set_option maxHeartbeats 20000000 in
theorem walk_GaussOdd (a b : Nat) (ha : a < 2 ^ 64) (hb : b < 2 ^ 64) (n : Int) (w : World) :
    Calls Try.prog 11 #[.float .f64 a, .float .f64 b, .int .i64 n] w fun e w' => e = .returned (.bool true) ∧ Below w.heap.size w w' := by
  have c1 := six_any a ha
  have c2 := six_any b hb
  have cr := gright_any a b ha hb
  have aw := awake22_any
  have hone := one_part
  have q0 : ∀ W, (binOp .eql 80 (.complex .f64 0 0) (.complex .f64 0 0)).run Try.prog W = .ok (.bool true) W := fun W => by
    have := run_cz_zero 80 (0, 0) ⟨by decide, by decide, by decide, by decide⟩ W
    rw [← cz_zero, decide_eq_true rfl] at this
    exact this
  by_cases hpq : (partF a && partF b) = true
  · rw [hpq] at cr
    rw [Bool.and_eq_true] at hpq
    rw [hpq.1] at c1
    rw [hpq.2] at c2
    clear hpq ha hb hone
    go_enter Try.func11, Try.ntmps11
    go_wp2_with (first
      | (go_at_call 59; (with_reducible refine (c1 _).mono ?_); rintro e w1 ⟨rfl, hb1⟩)
      | (go_at_call 59; (with_reducible refine (c2 _).mono ?_); rintro e w2 ⟨rfl, hb2⟩)
      | (go_at_call 42; (with_reducible refine (cr _).mono ?_); rintro e w3 ⟨rfl, rfl⟩)
      | (go_at_call 52; (with_reducible refine (aw _).mono ?_); rintro e w4 ⟨rfl, rfl⟩))
    go_ret
    exact ⟨rfl, hb1.trans (hb2.mono hb1.size)⟩
  · have hno : (partF a && partF b) = false := by simpa using hpq
    have h1 : ((partF a && partF b) && (partF 4607182418800017408 && partF 0)) = false := by rw [hno]; rfl
    have h2 : ((partF 4607182418800017408 && partF 0) && (partF a && partF b)) = false := by rw [hno, Bool.and_false]
    have h3 : ((partF a && partF b) && (partF a && partF b)) = false := by rw [hno]; rfl
    have iv := ginv_no a b ha hb hno
    have dv := gdiv_no (.complex .f64 4607182418800017408 0) a b ha hb hno
    have pw := gpower_no a b ha hb hno n
    rw [← cz_zero] at iv dv pw
    have ad := gadd_no a b 4607182418800017408 0 ha hb (by decide) (by decide) h1
    have sb := gsub_no 4607182418800017408 0 a b (by decide) (by decide) ha hb h2
    have ml := gmul_no a b a b ha hb ha hb h3
    have tn := gturn_no a b ha hb hno n
    rw [hno] at cr
    have HB := hid (Below.refl w.heap.size w)
    have hc : partF a = false ∨ (partF a = true ∧ partF b = false) := by
      cases h : partF a
      · exact .inl rfl
      · rw [h] at hno; exact .inr ⟨rfl, hno⟩
    clear hpq hno h1 h2 h3 hone ha hb
    rcases hc with hc | ⟨hc, hc2⟩
    · rw [hc] at c1
      clear hc c2
      go_enter Try.func11, Try.ntmps11
      go_wp2_with (first
        | (go_at_call 59; (with_reducible refine (c1 _).mono ?_); rintro e w1 ⟨rfl, hb1⟩; replace HB := hid (HB.out.trans (hb1.mono HB.out.size)); clear hb1)
        | (go_at_call 42; (with_reducible refine (cr _).mono ?_); rintro e w3 ⟨rfl, rfl⟩)
        | (go_at_call 53; (with_reducible refine (iv _).mono ?_); rintro e w3 ⟨rfl, rfl⟩)
        | (go_at_call 54; (with_reducible refine (dv _).mono ?_); rintro e w3 ⟨rfl, rfl⟩)
        | (go_at_call 49; (with_reducible refine (pw _).mono ?_); rintro e w3 ⟨rfl, rfl⟩)
        | (go_at_call 43; (with_reducible refine (ad _).mono ?_); rintro e w1 ⟨rfl, hb1⟩; replace HB := hid (HB.out.trans (hb1.mono HB.out.size)); clear hb1)
        | (go_at_call 45; (with_reducible refine (sb _).mono ?_); rintro e w1 ⟨rfl, hb1⟩; replace HB := hid (HB.out.trans (hb1.mono HB.out.size)); clear hb1)
        | (go_at_call 47; (with_reducible refine (ml _).mono ?_); rintro e w1 ⟨rfl, hb1⟩; replace HB := hid (HB.out.trans (hb1.mono HB.out.size)); clear hb1)
        | (go_at_call 51; (with_reducible refine (tn _).mono ?_); rintro e w1 ⟨rfl, hb1⟩; replace HB := hid (HB.out.trans (hb1.mono HB.out.size)); clear hb1)
        | (go_at_call 52; (with_reducible refine (aw _).mono ?_); rintro e w4 ⟨rfl, rfl⟩))
      go_ret
      exact ⟨rfl, HB.out⟩
    · rw [hc] at c1
      rw [hc2] at c2
      clear hc hc2
      go_enter Try.func11, Try.ntmps11
      go_wp2_with (first
        | (go_at_call 59; (with_reducible refine (c1 _).mono ?_); rintro e w1 ⟨rfl, hb1⟩; replace HB := hid (HB.out.trans (hb1.mono HB.out.size)); clear hb1)
        | (go_at_call 59; (with_reducible refine (c2 _).mono ?_); rintro e w1 ⟨rfl, hb1⟩; replace HB := hid (HB.out.trans (hb1.mono HB.out.size)); clear hb1)
        | (go_at_call 42; (with_reducible refine (cr _).mono ?_); rintro e w3 ⟨rfl, rfl⟩)
        | (go_at_call 53; (with_reducible refine (iv _).mono ?_); rintro e w3 ⟨rfl, rfl⟩)
        | (go_at_call 54; (with_reducible refine (dv _).mono ?_); rintro e w3 ⟨rfl, rfl⟩)
        | (go_at_call 49; (with_reducible refine (pw _).mono ?_); rintro e w3 ⟨rfl, rfl⟩)
        | (go_at_call 43; (with_reducible refine (ad _).mono ?_); rintro e w1 ⟨rfl, hb1⟩; replace HB := hid (HB.out.trans (hb1.mono HB.out.size)); clear hb1)
        | (go_at_call 45; (with_reducible refine (sb _).mono ?_); rintro e w1 ⟨rfl, hb1⟩; replace HB := hid (HB.out.trans (hb1.mono HB.out.size)); clear hb1)
        | (go_at_call 47; (with_reducible refine (ml _).mono ?_); rintro e w1 ⟨rfl, hb1⟩; replace HB := hid (HB.out.trans (hb1.mono HB.out.size)); clear hb1)
        | (go_at_call 51; (with_reducible refine (tn _).mono ?_); rintro e w1 ⟨rfl, hb1⟩; replace HB := hid (HB.out.trans (hb1.mono HB.out.size)); clear hb1)
        | (go_at_call 52; (with_reducible refine (aw _).mono ?_); rintro e w4 ⟨rfl, rfl⟩))
      go_ret
      exact ⟨rfl, HB.out⟩

theorem wf_f64 {a : Nat} (h : (Lit.float .f64 a).wf = true) : a < 2 ^ 64 := by simpa [Lit.wf] using h
theorem law_GaussOdd (w : World) (a0 : Nat) (w0 : (Lit.float .f64 a0).wf = true) (a1 : Nat) (w1 : (Lit.float .f64 a1).wf = true) (a2 : Int) (w2 : (Lit.int .i64 a2).wf = true) :
    Calls Try.prog 11 #[.float .f64 a0, .float .f64 a1, .int .i64 a2] w fun e w' => e = .returned (.bool true) ∧ Below w.heap.size w w' :=
  walk_GaussOdd a0 a1 (wf_f64 w0) (wf_f64 w1) a2 w

open Go.ChangeShapes Go.WideShapes Go.ChangeAt
open Go.ChangeMaps (open_string shut_string)
theorem own_GaussOdd : ownKnob Try.prog.godebug = none := by kernel_rfl
theorem laidOut_GaussOdd : laidOutB Try.prog = true := by kernel_rfl
set_option linter.unusedVariables false in
set_option maxRecDepth 100000 in
theorem lifted_GaussOdd (os : Os) (started : os.Started) (H : Type) (enc : TypeId × Value → H) :
    ReturnsInHanded {} Try.checked os 11 .any (Rows.gaussOddSpec.pre6 enc Try.prog Try.f11 Rows.gaussOddRow.domain false) (Rows.gaussOddSpec.post enc Try.prog Try.f11 false true false false) := by
  refine returnsInHanded_of_change (C := Try.checked) own_GaussOdd started (by kernel_rfl) Try.func11
    (ChangeSpec.witness6 (enc := enc) (C := Try.checked) false ⟨#[], #[.float .f64 0, .float .f64 0, .int .i64 0], []⟩ 8 (by kernel_rfl) (by kernel_rfl) (by kernel_rfl) (by kernel_rfl)) ?_
  intro W base args ds gs before hval0 hW hcnd _
  have hval : ∀ (j : Nat) t v, Try.f11.params[j]? = some t → args[j]? = some v → Value.okWide Try.prog W .any base t v := hval0
  have hW' := hW
  obtain ⟨p, q, hA0, hV, rfl, hfz, hnd⟩ := hW
  have hA1 : DataW.TrodAll enc Try.prog W 0 (fun _ => true) true Try.f11.params.toList args.toList ds p := hA0
  have hA : DataW.TrodAll enc Try.prog W 0 (fun _ => true) true Try.f11.params.toList args.toList ds p := hA0
  rw [Try.params11] at hA hval
  obtain ⟨v0, vs0, d0, ds0, p0, q0, hargs, rfl, rfl, h0, r0⟩ := trodAll_cons hA
  obtain ⟨v1, vs1, d1, ds1, p1, q1, rfl, rfl, rfl, h1, r1⟩ := trodAll_cons r0
  obtain ⟨v2, vs2, d2, ds2, p2, q2, rfl, rfl, rfl, h2, r2⟩ := trodAll_cons r1
  obtain ⟨rfl, rfl, rfl⟩ := trodAll_nil r2
  obtain rfl : args = #[v0, v1, v2] := by cases args; simp_all
  obtain ⟨rfl, rfl⟩ := trodVars_none hV
  obtain ⟨a0, rfl, rfl, rfl, w0⟩ := open_float Try.underlying97 (hval 0 97 v0 rfl rfl) h0
  obtain ⟨a1, rfl, rfl, rfl, w1⟩ := open_float Try.underlying97 (hval 1 97 v1 rfl rfl) h1
  obtain ⟨a2, rfl, rfl, rfl, w2⟩ := open_int Try.underlying3 (hval 2 3 v2 rfl rfl) h2
  clear hA0 hval0
  refine (law_GaussOdd W a0 w0 a1 w1 a2 w2).mono fun e W' ⟨he, bel⟩ => ?_
  subst he
  exact ⟨_, rfl, _, _, _, [], _, [], hW', trodAll_mk1 (shut_bool Try.underlying4 _), trodAll_stays laidOut_GaussOdd bel (by kernel_rfl) hA1, rfl, bel.frame _, fun h => by cases h⟩

/-- The statement. -/
theorem GaussOdd_holds : Rows.GaussOddSaid :=
  OpenClaim.holds_of_wide 11 Try.f11 rfl rfl rfl rfl rfl rfl rfl ⟨rfl, rfl, rfl, rfl, rfl⟩ rfl rfl rfl rfl rfl (by kernel_rfl) Try.func11 (by kernel_rfl)
    (of_decide_eq_true (by kernel_rfl)) (by unfold Func.isWrapper; first | (rw [if_pos (by decide +kernel)]; kernel_rfl) | (rw [if_neg (by decide +kernel)]; exact ⟨rfl, rfl⟩))
    (fun os started H enc _ => lifted_GaussOdd os started H enc)
#print axioms GaussOdd_holds

end Go.Proofs.Ytdkeobpmenaljaa

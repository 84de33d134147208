
/- Proved: for every seed, leaf, bit, side and id, quitclaimlaw06.LamportSecrets returns true and leaves its arguments as they were. No conditions. -/
import Derived.Test.YtjofobfflnnjhaaLam2
namespace Go.Proofs.Ytjofobfflnnjhaa
open Go.RowKit Go.Qc
attribute [local go_sem] txt_size

theorem to_below {f : FuncId} {args : Array Value} {v : Value} (h : ∀ W : World, Calls Try.prog f args W fun e w' => e = .returned v ∧ W = w') (W : World) : Calls Try.prog f args W fun e w' => e = .returned v ∧ Below W.heap.size W w' :=
  (h W).mono fun _ _ ⟨h1, h2⟩ => ⟨h1, h2 ▸ Below.refl _ _⟩
theorem wf_i64 {n : Int} (h : (Lit.int .i64 n).wf = true) : (-9223372036854775808 : Int) ≤ n ∧ n ≤ (9223372036854775807 : Int) := by
  simp only [Lit.wf, Bool.and_eq_true, decide_eq_true_eq] at h
  exact ⟨h.1, h.2⟩
set_option maxRecDepth 100000 in
set_option maxHeartbeats 20000000 in
theorem lamSecrets_any (s a : List UInt8) (ha : a.length = 32) (lf bt sd : Int) (hl : lf ≤ 9223372036854775807) (hs : s.length ≤ 9223372036854775807) (w : World) :
    Calls Try.prog 7 #[.string (txt s), .int .i64 lf, .int .i64 bt, .int .i64 sd, .agg (idVals a)] w fun e w' => e = .returned (.bool true) ∧ Below w.heap.size w w' := by
  have hA := Blk.new w 23 (idVals a)
  have hB : Below w.heap.size w (w.alloc (.cells (idVals a) 23)) := (Below.refl _ _).alloc (Nat.le_refl _) _
  have hra := range_blk hA
  have hza : (Try.prog.info? 23).map (·.size) = some (a.map u8v).length := by rw [List.length_map, ha]; exact sizeId
  have hu := Try.underlying23
  have HA := hid ha
  have HS := hid hs
  have mixed : Try.prog.follows .mixedOrders = true := by kernel_rfl
  clear ha hA hs
  by_cases h2 : s.length ≤ 200
  · have l1 : ¬ (200 : Int) < s.length := by omega
    have HL := hid hl
    have H2 := hid h2
    clear hl h2
    go_enter Try.func7, Try.ntmps7
    go_wp2_with (fail)
    have fra := range_later hra
    have h1000 : s.length ≤ 1000 := Nat.le_trans H2.out (by decide)
    have c1 := fun W => secret_any s h1000 lf bt sd HL.out W
    have c2 := fun W => rsecret_any s h1000 lf bt sd W
    have c3 : ∀ W : World, Calls Try.prog 56 #[.agg (List.map u8v a).toArray] W fun e w' => e = .returned (.agg (idVals (pubB a))) ∧ Below W.heap.size W w' := fun W => public_any a HA.out W
    have c4 : ∀ W : World, Calls Try.prog 57 #[.agg (List.map u8v a).toArray] W fun e w' => e = .returned (.agg (idVals (pubB a))) ∧ Below W.heap.size W w' := fun W => rpublic_any a HA.out W
    have c5 := to_below (lright_any bt)
    have c6 := to_below (rright_any bt)
    have c7 := to_below awake6_any
    obtain ⟨S, hS⟩ : ∃ S, S = secB s lf bt sd := ⟨_, rfl⟩
    have hSl : S.length = 32 := by rw [hS]; exact secB_length _ _ _ _
    rw [← hS] at c1 c2
    obtain ⟨T, hT⟩ : ∃ T, T = pubB a := ⟨_, rfl⟩
    have hTl : T.length = 32 := by rw [hT]; exact pubB_length _
    rw [← hT] at c3 c4
    generalize rgt bt = q at *
    have e1 := fun W => (ids_eq W S S hSl hSl).trans (by rw [decide_eq_true rfl])
    have e2 := fun W => (ids_eq W T T hTl hTl).trans (by rw [decide_eq_true rfl])
    have e3 : (q == q) = true := beq_self_eq_true q
    clear hS hT hSl hTl h1000
    refine wp_region_later mixed (by kernel_rfl) ?_
    repeat (first
      | ((with_reducible refine wpQuiet_skip (by with_unfolding_all rfl) ?_); simp only [Act.put, List.setIfInBounds_toArray, List.set_cons_zero, List.set_cons_succ])
      | ((with_reducible refine wpQuiet_load_if (by with_unfolding_all rfl) 23 _ rfl _ 0 rfl (a.map u8v) _ fra hu (by with_unfolding_all rfl) hza ?_); simp only [Act.put, List.setIfInBounds_toArray, List.set_cons_zero, List.set_cons_succ])
      | ((with_reducible refine wpQuiet_step (fun K hK => ?_)); go_simp; first | ((with_reducible refine hK _ ?_); clear hK K) | (with_reducible apply Exists.intro; (with_reducible refine ⟨fun _ => ?_, hK _ ?_⟩); (first | (go_at_call 54; exact later_of (c1 _)) | (go_at_call 55; exact later_of (c2 _)) | (go_at_call 56; exact later_of (c3 _)) | (go_at_call 57; exact later_of (c4 _)) | (go_at_call 58; exact later_of (c5 _)) | (go_at_call 59; exact later_of (c6 _)) | (go_at_call 53; exact later_of (c7 _))); clear hK K)))
    with_reducible refine wpQuiet_nil ?_
    intro _ hw'
    obtain ⟨p, rfl⟩ := hw'
    have hp := p.h
    generalize p.w = w4 at *
    go_wp2
    go_ret
    exact ⟨rfl, hB.trans (hp.mono hB.size)⟩
  · have l1 : (200 : Int) < s.length := by omega
    have c7 := to_below awake6_any
    clear hl h2
    go_enter Try.func7, Try.ntmps7
    go_wp2_with (first
      | (go_at_call 53; (with_reducible refine (c7 _).mono ?_); rintro e3 w3 ⟨rfl, hb3⟩))
    go_ret
    exact ⟨rfl, hB.trans (hb3.mono hB.size)⟩
set_option linter.unusedVariables false in
theorem law_LamportSecrets (w : World) (a0 : ByteArray) (w0 : a0.size ≤ maxLen) (a1 : Int) (w1 : (Lit.int .i64 a1).wf = true) (a2 : Int) (w2 : (Lit.int .i64 a2).wf = true) (a3 : Int) (w3 : (Lit.int .i64 a3).wf = true) (a4 : List UInt8) (w4 : a4.length = 32) :
    Calls Try.prog 7 #[.string a0, .int .i64 a1, .int .i64 a2, .int .i64 a3, .agg (idVals a4)] w fun e w' => e = .returned (.bool true) ∧ Below w.heap.size w w' := by
  obtain ⟨h1, h2⟩ := wf_i64 w1
  refine lamSecrets_any a0.data.toList a4 w4 a1 a2 a3 ?_ ?_ w
  · omega
  · unfold maxLen at w0
    have : a0.data.toList.length = a0.size := rfl
    omega

open Go.ChangeShapes Go.WideShapes Go.ChangeAt
open Go.ChangeMaps (open_string shut_string)
theorem own_LamportSecrets : ownKnob Try.prog.godebug = none := by kernel_rfl
theorem laidOut_LamportSecrets : laidOutB Try.prog = true := by kernel_rfl
set_option linter.unusedVariables false in
set_option maxRecDepth 100000 in
theorem lifted_LamportSecrets (os : Os) (started : os.Started) (H : Type) (enc : TypeId × Value → H) :
    ReturnsInHanded {} Try.checked os 7 .any (Rows.lamportSecretsSpec.pre6 enc Try.prog Try.f7 Rows.lamportSecretsRow.domain false) (Rows.lamportSecretsSpec.post enc Try.prog Try.f7 false true false false) := by
  refine returnsInHanded_of_change (C := Try.checked) own_LamportSecrets started (by kernel_rfl) Try.func7
    (ChangeSpec.witness6 (enc := enc) (C := Try.checked) false ⟨#[], #[.string ByteArray.empty, .int .i64 0, .int .i64 0, .int .i64 0, .agg #[.int .u8 0, .int .u8 0, .int .u8 0, .int .u8 0, .int .u8 0, .int .u8 0, .int .u8 0, .int .u8 0, .int .u8 0, .int .u8 0, .int .u8 0, .int .u8 0, .int .u8 0, .int .u8 0, .int .u8 0, .int .u8 0, .int .u8 0, .int .u8 0, .int .u8 0, .int .u8 0, .int .u8 0, .int .u8 0, .int .u8 0, .int .u8 0, .int .u8 0, .int .u8 0, .int .u8 0, .int .u8 0, .int .u8 0, .int .u8 0, .int .u8 0, .int .u8 0]], []⟩ 8 (by kernel_rfl) (by kernel_rfl) (by kernel_rfl) (by kernel_rfl)) ?_
  intro W base args ds gs before hval0 hW hcnd _
  have hval : ∀ (j : Nat) t v, Try.f7.params[j]? = some t → args[j]? = some v → Value.okWide Try.prog W .any base t v := hval0
  have hW' := hW
  obtain ⟨p, q, hA0, hV, rfl, hfz, hnd⟩ := hW
  have hA1 : DataW.TrodAll enc Try.prog W 0 (fun _ => true) true Try.f7.params.toList args.toList ds p := hA0
  have hA : DataW.TrodAll enc Try.prog W 0 (fun _ => true) true Try.f7.params.toList args.toList ds p := hA0
  rw [Try.params7] at hA hval
  obtain ⟨v0, vs0, d0, ds0, p0, q0, hargs, rfl, rfl, h0, r0⟩ := trodAll_cons hA
  obtain ⟨v1, vs1, d1, ds1, p1, q1, rfl, rfl, rfl, h1, r1⟩ := trodAll_cons r0
  obtain ⟨v2, vs2, d2, ds2, p2, q2, rfl, rfl, rfl, h2, r2⟩ := trodAll_cons r1
  obtain ⟨v3, vs3, d3, ds3, p3, q3, rfl, rfl, rfl, h3, r3⟩ := trodAll_cons r2
  obtain ⟨v4, vs4, d4, ds4, p4, q4, rfl, rfl, rfl, h4, r4⟩ := trodAll_cons r3
  obtain ⟨rfl, rfl, rfl⟩ := trodAll_nil r4
  obtain rfl : args = #[v0, v1, v2, v3, v4] := by cases args; simp_all
  obtain ⟨rfl, rfl⟩ := trodVars_none hV
  obtain ⟨a0, rfl, rfl, rfl, w0⟩ := open_string Try.underlying9 (hval 0 9 v0 rfl rfl) h0
  obtain ⟨a1, rfl, rfl, rfl, w1⟩ := open_int Try.underlying3 (hval 1 3 v1 rfl rfl) h1
  obtain ⟨a2, rfl, rfl, rfl, w2⟩ := open_int Try.underlying3 (hval 2 3 v2 rfl rfl) h2
  obtain ⟨a3, rfl, rfl, rfl, w3⟩ := open_int Try.underlying3 (hval 3 3 v3 rfl rfl) h3
  obtain ⟨a4, w4, rfl⟩ := open_id Try.underlying23 Try.underlying5 (by kernel_rfl) (by kernel_rfl) (hval 4 23 v4 rfl rfl) h4
  clear hA0 hval0
  refine (law_LamportSecrets W a0 w0 a1 w1 a2 w2 a3 w3 a4 w4).mono fun e W' ⟨he, bel⟩ => ?_
  subst he
  exact ⟨_, rfl, _, _, _, [], _, [], hW', trodAll_mk1 (shut_bool Try.underlying4 _), trodAll_stays laidOut_LamportSecrets bel (by kernel_rfl) hA1, rfl, bel.frame _, fun h => by cases h⟩

/-- The statement. -/
theorem LamportSecrets_holds : Rows.LamportSecretsSaid :=
  OpenClaim.holds_of_wide 7 Try.f7 rfl rfl rfl rfl rfl rfl rfl ⟨rfl, rfl, rfl, rfl, rfl⟩ rfl rfl rfl rfl rfl (by kernel_rfl) Try.func7 (by kernel_rfl)
    (of_decide_eq_true (by kernel_rfl)) (by unfold Func.isWrapper; first | (rw [if_pos (by decide +kernel)]; kernel_rfl) | (rw [if_neg (by decide +kernel)]; exact ⟨rfl, rfl⟩))
    (fun os started H enc _ => lifted_LamportSecrets os started H enc)
#print axioms LamportSecrets_holds
end Go.Proofs.Ytjofobfflnnjhaa

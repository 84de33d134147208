
/- Proved: for every seed, leaf and number of bits, quitclaimlaw06.LamportLeaves returns true and leaves its arguments as they were. No conditions. -/
import Derived.Test.YtjofobfflnnjhaaLam5
namespace Go.Proofs.Ytjofobfflnnjhaa
open Go.RowKit Go.Qc
attribute [local go_sem] txt_size

theorem bound_i64 {n : Int} (h : (Lit.int .i64 n).wf = true) : (-9223372036854775808 : Int) ≤ n ∧ n ≤ (9223372036854775807 : Int) := by
  simp only [Lit.wf, Bool.and_eq_true, decide_eq_true_eq] at h
  exact ⟨h.1, h.2⟩
theorem to_belowL {f : FuncId} {args : Array Value} {v : Value} (h : ∀ W : World, Calls Try.prog f args W fun e w' => e = .returned v ∧ W = w') (W : World) : Calls Try.prog f args W fun e w' => e = .returned v ∧ Below W.heap.size W w' :=
  (h W).mono fun _ _ ⟨h1, h2⟩ => ⟨h1, h2 ▸ Below.refl _ _⟩
theorem rgt_le {b : Int} (h : rgt b = true) : 0 ≤ b ∧ b ≤ 256 := by
  unfold rgt at h
  rw [decide_eq_true_iff] at h
  omega
set_option maxRecDepth 100000 in
set_option maxHeartbeats 20000000 in
theorem lamLeaves_any (s : List UInt8) (lf b : Int) (hl : lf ≤ 9223372036854775807) (hs : s.length ≤ 9223372036854775807) (w : World) :
    Calls Try.prog 8 #[.string (txt s), .int .i64 lf, .int .i64 b] w fun e w' => e = .returned (.bool true) ∧ Below w.heap.size w w' := by
  have mixed : Try.prog.follows .mixedOrders = true := by kernel_rfl
  have hu := Try.underlying23
  obtain ⟨q, hq⟩ : ∃ q, q = rgt b := ⟨_, rfl⟩
  have cR := fun W => rright_any b W
  rw [← hq] at cR
  have HQ := hid hq
  have HS := hid hs
  have HL := hid hl
  clear hq hs hl
  by_cases h2 : s.length ≤ 200 ∧ (b ≤ 32 ∨ q = false)
  · obtain ⟨h2, h3⟩ := h2
    have l1 : ¬ (200 : Int) < s.length := by omega
    have H2 := hid h2
    clear h2
    obtain ⟨u, hu2⟩ : ∃ u, u = (decide (0 ≤ lf) && q) := ⟨_, rfl⟩
    cases u with
    | false =>
      have cL := fun W => leaf_no s lf b (by rw [← HQ.out]; exact hu2.symm) W
      have hno : q = false ∨ lf < 0 := by
        rcases Bool.and_eq_false_iff.1 hu2.symm with h | h
        · right; rw [decide_eq_false_iff_not] at h; omega
        · left; exact h
      have hzl : zeroB.length = 32 := rfl
      have HZ : (Try.prog.info? 23).map (·.size) = some (zeroB.map u8v).length := sizeId
      have heq := fun W => (ids_eq W zeroB zeroB rfl rfl).trans (by rw [decide_eq_true rfl])
      have heq2 : ∀ W, (Op.equalIn 10000 23 (.agg (List.map u8v zeroB).toArray) (.agg #[.int .u8 0, .int .u8 0, .int .u8 0, .int .u8 0, .int .u8 0, .int .u8 0, .int .u8 0, .int .u8 0, .int .u8 0, .int .u8 0, .int .u8 0, .int .u8 0, .int .u8 0, .int .u8 0, .int .u8 0, .int .u8 0, .int .u8 0, .int .u8 0, .int .u8 0, .int .u8 0, .int .u8 0, .int .u8 0, .int .u8 0, .int .u8 0, .int .u8 0, .int .u8 0, .int .u8 0, .int .u8 0, .int .u8 0, .int .u8 0, .int .u8 0, .int .u8 0])).run Try.prog W = .ok true W := heq
      clear hu2 heq
      have HZL := hid hzl
      clear hzl
      have go : ∀ (l2 : (decide ((32 : Int) < b) = false ∨ q = false)) (l3 : q = false ∨ lf < 0), Calls Try.prog 8 #[.string (txt s), .int .i64 lf, .int .i64 b] w fun e w' => e = .returned (.bool true) ∧ Below w.heap.size w w' := by
        intro l2 l3
        cases q with
        | false =>
          clear l2 l3 h3
          by_cases k1 : (32 : Int) < b
          · go_enter Try.func8, Try.ntmps8
            go_wp2_with (first
              | (go_at_call 59; (with_reducible refine (cR _).mono ?_); rintro e1 w1 ⟨rfl, rfl⟩)
              | (go_at_call 60; (with_reducible refine (cL _).mono ?_); rintro e2 w2 ⟨rfl, hB2⟩)
              | ((with_reducible refine wpList_store_newid rfl _ _ rfl zeroB HZL.out rfl rfl (by with_unfolding_all rfl) ?_); intro w8 hx8 hb8)
              | (with_reducible refine wpList_load_if (by with_unfolding_all rfl) 23 _ rfl _ _ rfl (zeroB.map u8v) _ hx8 hu (by with_unfolding_all rfl) HZ ?_)
              | (go_at_call 53; (with_reducible refine (awake6_any _).mono ?_); rintro e3 w3 ⟨rfl, rfl⟩))
            go_ret
            exact ⟨rfl, hB2.trans (hb8.mono hB2.size)⟩
          · go_enter Try.func8, Try.ntmps8
            go_wp2_with (first
              | (go_at_call 59; (with_reducible refine (cR _).mono ?_); rintro e1 w1 ⟨rfl, rfl⟩)
              | (go_at_call 60; (with_reducible refine (cL _).mono ?_); rintro e2 w2 ⟨rfl, hB2⟩)
              | ((with_reducible refine wpList_store_newid rfl _ _ rfl zeroB HZL.out rfl rfl (by with_unfolding_all rfl) ?_); intro w8 hx8 hb8)
              | (with_reducible refine wpList_load_if (by with_unfolding_all rfl) 23 _ rfl _ _ rfl (zeroB.map u8v) _ hx8 hu (by with_unfolding_all rfl) HZ ?_)
              | (go_at_call 53; (with_reducible refine (awake6_any _).mono ?_); rintro e3 w3 ⟨rfl, rfl⟩))
            go_ret
            exact ⟨rfl, hB2.trans (hb8.mono hB2.size)⟩
        | true =>
          have k3 : lf < 0 := by rcases l3 with h | h; · cases h
                                 · exact h
          have k1 : ¬ (32 : Int) < b := by
            rcases l2 with h | h
            · exact of_decide_eq_false h
            · cases h
          clear l2 l3 h3
          go_enter Try.func8, Try.ntmps8
          go_wp2_with (first
            | (go_at_call 59; (with_reducible refine (cR _).mono ?_); rintro e1 w1 ⟨rfl, rfl⟩)
            | (go_at_call 60; (with_reducible refine (cL _).mono ?_); rintro e2 w2 ⟨rfl, hB2⟩)
            | ((with_reducible refine wpList_store_newid rfl _ _ rfl zeroB HZL.out rfl rfl (by with_unfolding_all rfl) ?_); intro w8 hx8 hb8)
            | (with_reducible refine wpList_load_if (by with_unfolding_all rfl) 23 _ rfl _ _ rfl (zeroB.map u8v) _ hx8 hu (by with_unfolding_all rfl) HZ ?_)
            | (go_at_call 53; (with_reducible refine (awake6_any _).mono ?_); rintro e3 w3 ⟨rfl, rfl⟩))
          go_ret
          exact ⟨rfl, hB2.trans (hb8.mono hB2.size)⟩
      exact go (by rcases h3 with h3 | h3; · left; rw [decide_eq_false_iff_not]; omega
                   · right; exact h3) hno
    | true =>
      have h0 : 0 ≤ lf := by have := (Bool.and_eq_true _ _ ▸ hu2.symm); exact of_decide_eq_true this.1
      have hq1 : q = true := by have := (Bool.and_eq_true _ _ ▸ hu2.symm); exact this.2
      clear hu2
      subst hq1
      have h32 : b ≤ 32 := by rcases h3 with h3 | h3; · exact h3
                              · cases h3
      have hrg := HQ.out.symm
      obtain ⟨g0, g1⟩ := rgt_le hrg
      obtain ⟨n, rfl⟩ := Int.eq_ofNat_of_zero_le g0
      have l2 : ¬ (32 : Int) < n := by omega
      have l3 : ¬ lf < 0 := by omega
      have h1000 : s.length ≤ 1000 := Nat.le_trans H2.out (by decide)
      have cL := fun W => leaf_any s h1000 lf h0 HL.out n (by omega) hrg W
      have cM := fun W => rleaf_any s h1000 lf n (by omega) W
      obtain ⟨S, hS⟩ : ∃ S, S = leafB s lf n := ⟨_, rfl⟩
      have hSl : S.length = 32 := by rw [hS]; exact leafB_length _ _ _
      rw [← hS] at cL cM
      have HZ : (Try.prog.info? 23).map (·.size) = some (S.map u8v).length := by rw [List.length_map, hSl]; exact sizeId
      have e1 : ∀ W, (Op.equalIn 10000 23 (.agg (List.map u8v S).toArray) (.agg (idVals S))).run Try.prog W = .ok true W := fun W => (ids_eq W S S hSl hSl).trans (by rw [decide_eq_true rfl])
      have HSL := hid hSl
      clear hS hSl hrg g0 g1 h1000 h32 h3 h0
      go_enter Try.func8, Try.ntmps8
      go_wp2_with (first
        | (go_at_call 59; (with_reducible refine (cR _).mono ?_); rintro e1 w1 ⟨rfl, rfl⟩)
        | (go_at_call 60; (with_reducible refine (cL _).mono ?_); rintro e2 w2 ⟨rfl, hB2⟩)
        | ((with_reducible refine wpList_store_newid rfl _ _ rfl S HSL.out rfl rfl (by with_unfolding_all rfl) ?_); intro w8 hx8 hb8))
      have hB := hB2.trans (hb8.mono hB2.size)
      have fx := range_later hx8
      have c7 := to_belowL awake6_any
      refine wp_region_later mixed (by kernel_rfl) ?_
      repeat (first
        | ((with_reducible refine wpQuiet_skip (by with_unfolding_all rfl) ?_); simp only [Act.put, List.setIfInBounds_toArray, List.set_cons_zero, List.set_cons_succ])
        | ((with_reducible refine wpQuiet_load_if (by with_unfolding_all rfl) 23 _ rfl _ 0 rfl (S.map u8v) _ fx hu (by with_unfolding_all rfl) HZ ?_); simp only [Act.put, List.setIfInBounds_toArray, List.set_cons_zero, List.set_cons_succ])
        | ((with_reducible refine wpQuiet_step (fun K hK => ?_)); go_simp; first | ((with_reducible refine hK _ ?_); clear hK K) | (with_reducible apply Exists.intro; (with_reducible refine ⟨fun _ => ?_, hK _ ?_⟩); (first | (go_at_call 61; exact later_of (cM _)) | (go_at_call 53; exact later_of (c7 _))); clear hK K)))
      with_reducible refine wpQuiet_nil ?_
      intro _ hw'
      obtain ⟨p, rfl⟩ := hw'
      have hp := p.h
      generalize p.w = w4 at *
      go_wp2
      go_ret
      exact ⟨rfl, hB.trans (hp.mono hB.size)⟩
  · have c7 := to_belowL awake6_any
    by_cases h4 : s.length ≤ 200
    · have l1 : ¬ (200 : Int) < s.length := by omega
      have l2 : (32 : Int) < b := by
        by_cases h5 : b ≤ 32
        · exact absurd ⟨h4, .inl h5⟩ h2
        · omega
      obtain rfl : q = true := by
        cases q with
        | true => rfl
        | false => exact absurd ⟨h4, .inr rfl⟩ h2
      clear h2 h4
      go_enter Try.func8, Try.ntmps8
      go_wp2_with (first
        | (go_at_call 59; (with_reducible refine (cR _).mono ?_); rintro e1 w1 ⟨rfl, rfl⟩)
        | (go_at_call 53; (with_reducible refine (c7 _).mono ?_); rintro e3 w3 ⟨rfl, hb3⟩))
      go_ret
      exact ⟨rfl, hb3⟩
    · have l1 : (200 : Int) < s.length := by omega
      clear h2 h4
      go_enter Try.func8, Try.ntmps8
      go_wp2_with (first
        | (go_at_call 59; (with_reducible refine (cR _).mono ?_); rintro e1 w1 ⟨rfl, rfl⟩)
        | (go_at_call 53; (with_reducible refine (c7 _).mono ?_); rintro e3 w3 ⟨rfl, hb3⟩))
      go_ret
      exact ⟨rfl, hb3⟩
set_option linter.unusedVariables false in
theorem law_LamportLeaves (w : World) (a0 : ByteArray) (w0 : a0.size ≤ maxLen) (a1 : Int) (w1 : (Lit.int .i64 a1).wf = true) (a2 : Int) (w2 : (Lit.int .i64 a2).wf = true) :
    Calls Try.prog 8 #[.string a0, .int .i64 a1, .int .i64 a2] w fun e w' => e = .returned (.bool true) ∧ Below w.heap.size w w' := by
  obtain ⟨h1, h2⟩ := bound_i64 w1
  refine lamLeaves_any a0.data.toList a1 a2 ?_ ?_ w
  · omega
  · unfold maxLen at w0
    have : a0.data.toList.length = a0.size := rfl
    omega

open Go.ChangeShapes Go.WideShapes Go.ChangeAt
open Go.ChangeMaps (open_string shut_string)
theorem own_LamportLeaves : ownKnob Try.prog.godebug = none := by kernel_rfl
theorem laidOut_LamportLeaves : laidOutB Try.prog = true := by kernel_rfl
set_option linter.unusedVariables false in
set_option maxRecDepth 100000 in
theorem lifted_LamportLeaves (os : Os) (started : os.Started) (H : Type) (enc : TypeId × Value → H) :
    ReturnsInHanded {} Try.checked os 8 .any (Rows.lamportLeavesSpec.pre6 enc Try.prog Try.f8 Rows.lamportLeavesRow.domain false) (Rows.lamportLeavesSpec.post enc Try.prog Try.f8 false true false false) := by
  refine returnsInHanded_of_change (C := Try.checked) own_LamportLeaves started (by kernel_rfl) Try.func8
    (ChangeSpec.witness6 (enc := enc) (C := Try.checked) false ⟨#[], #[.string ByteArray.empty, .int .i64 0, .int .i64 0], []⟩ 8 (by kernel_rfl) (by kernel_rfl) (by kernel_rfl) (by kernel_rfl)) ?_
  intro W base args ds gs before hval0 hW hcnd _
  have hval : ∀ (j : Nat) t v, Try.f8.params[j]? = some t → args[j]? = some v → Value.okWide Try.prog W .any base t v := hval0
  have hW' := hW
  obtain ⟨p, q, hA0, hV, rfl, hfz, hnd⟩ := hW
  have hA1 : DataW.TrodAll enc Try.prog W 0 (fun _ => true) true Try.f8.params.toList args.toList ds p := hA0
  have hA : DataW.TrodAll enc Try.prog W 0 (fun _ => true) true Try.f8.params.toList args.toList ds p := hA0
  rw [Try.params8] at hA hval
  obtain ⟨v0, vs0, d0, ds0, p0, q0, hargs, rfl, rfl, h0, r0⟩ := trodAll_cons hA
  obtain ⟨v1, vs1, d1, ds1, p1, q1, rfl, rfl, rfl, h1, r1⟩ := trodAll_cons r0
  obtain ⟨v2, vs2, d2, ds2, p2, q2, rfl, rfl, rfl, h2, r2⟩ := trodAll_cons r1
  obtain ⟨rfl, rfl, rfl⟩ := trodAll_nil r2
  obtain rfl : args = #[v0, v1, v2] := by cases args; simp_all
  obtain ⟨rfl, rfl⟩ := trodVars_none hV
  obtain ⟨a0, rfl, rfl, rfl, w0⟩ := open_string Try.underlying9 (hval 0 9 v0 rfl rfl) h0
  obtain ⟨a1, rfl, rfl, rfl, w1⟩ := open_int Try.underlying3 (hval 1 3 v1 rfl rfl) h1
  obtain ⟨a2, rfl, rfl, rfl, w2⟩ := open_int Try.underlying3 (hval 2 3 v2 rfl rfl) h2
  clear hA0 hval0
  refine (law_LamportLeaves W a0 w0 a1 w1 a2 w2).mono fun e W' ⟨he, bel⟩ => ?_
  subst he
  exact ⟨_, rfl, _, _, _, [], _, [], hW', trodAll_mk1 (shut_bool Try.underlying4 _), trodAll_stays laidOut_LamportLeaves bel (by kernel_rfl) hA1, rfl, bel.frame _, fun h => by cases h⟩

/-- The statement. -/
theorem LamportLeaves_holds : Rows.LamportLeavesSaid :=
  OpenClaim.holds_of_wide 8 Try.f8 rfl rfl rfl rfl rfl rfl rfl ⟨rfl, rfl, rfl, rfl, rfl⟩ rfl rfl rfl rfl rfl (by kernel_rfl) Try.func8 (by kernel_rfl)
    (of_decide_eq_true (by kernel_rfl)) (by unfold Func.isWrapper; first | (rw [if_pos (by decide +kernel)]; kernel_rfl) | (rw [if_neg (by decide +kernel)]; exact ⟨rfl, rfl⟩))
    (fun os started H enc _ => lifted_LamportLeaves os started H enc)
#print axioms LamportLeaves_holds
end Go.Proofs.Ytjofobfflnnjhaa

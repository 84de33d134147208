
/- Proved: for every seed, leaf, number of bits and sum, quitclaimlaw06.LamportSigns returns true and leaves its arguments as they were. No conditions. -/
import Derived.Test.YtjofobfflnnjhaaLam7
namespace Go.Proofs.Ytjofobfflnnjhaa
open Go.RowKit Go.Qc
attribute [local go_sem] txt_size

theorem bound_i64s {n : Int} (h : (Lit.int .i64 n).wf = true) : (-9223372036854775808 : Int) ≤ n ∧ n ≤ (9223372036854775807 : Int) := by
  simp only [Lit.wf, Bool.and_eq_true, decide_eq_true_eq] at h
  exact ⟨h.1, h.2⟩
theorem rgt_les {b : Int} (h : rgt b = true) : 0 ≤ b ∧ b ≤ 256 := by
  unfold rgt at h
  rw [decide_eq_true_iff] at h
  omega
set_option maxRecDepth 100000 in
set_option maxHeartbeats 20000000 in
theorem lamSigns_any (s : List UInt8) (lf b : Int) (m : List UInt8) (hm : m.length = 32) (hl : lf ≤ 9223372036854775807) (hs : s.length ≤ 9223372036854775807) (w : World) :
    Calls Try.prog 9 #[.string (txt s), .int .i64 lf, .int .i64 b, .agg (idVals m)] w fun e w' => e = .returned (.bool true) ∧ Below w.heap.size w w' := by
  have hu := Try.underlying23
  have hI : (w.alloc (.cells (idVals m) 23)).rangeAt w.heap.size 0 (m.map u8v) := range_blk (Blk.new w 23 (idVals m))
  have hB : Below w.heap.size w (w.alloc (.cells (idVals m) 23)) := (Below.refl _ _).alloc (Nat.le_refl _) _
  have hzm : (Try.prog.info? 23).map (·.size) = some (m.map u8v).length := by rw [List.length_map, hm]; exact sizeId
  obtain ⟨q, hq⟩ : ∃ q, q = rgt b := ⟨_, rfl⟩
  have cR := fun W => rright_any b W
  rw [← hq] at cR
  have HQ := hid hq
  have HS := hid hs
  have HL := hid hl
  have HM := hid hm
  clear hq hs hl hm
  by_cases h2 : s.length ≤ 200 ∧ (b ≤ 32 ∨ q = false)
  · obtain ⟨h2, h3⟩ := h2
    have l1 : ¬ (200 : Int) < s.length := by omega
    have H2 := hid h2
    clear h2
    obtain ⟨u, hu2⟩ : ∃ u, u = (decide (0 ≤ lf) && q) := ⟨_, rfl⟩
    cases u with
    | false =>
      have cL : ∀ W : World, Calls Try.prog 62 #[.string (txt s), .int .i64 lf, .int .i64 b, .agg (List.map u8v m).toArray] W fun e w' => e = .returned (.tuple #[.slice none 0 0, .slice none 0 0, .int .i64 1]) ∧ Below W.heap.size W w' := fun W => sign_no s lf b (by rw [← HQ.out]; exact hu2.symm) m W
      have hno : q = false ∨ lf < 0 := by
        rcases Bool.and_eq_false_iff.1 hu2.symm with h | h
        · right; rw [decide_eq_false_iff_not] at h; omega
        · left; exact h
      clear hu2
      have go : ∀ (l2 : (decide ((32 : Int) < b) = false ∨ q = false)) (l3 : q = false ∨ lf < 0), Calls Try.prog 9 #[.string (txt s), .int .i64 lf, .int .i64 b, .agg (idVals m)] w fun e w' => e = .returned (.bool true) ∧ Below w.heap.size w w' := by
        intro l2 l3
        cases q with
        | false =>
          clear l2 l3 h3
          by_cases k1 : (32 : Int) < b
          · go_enter Try.func9, Try.ntmps9
            go_wp2_with (first
              | (with_reducible refine wpList_load_if (by with_unfolding_all rfl) 23 _ rfl _ 0 rfl (m.map u8v) _ hI hu (by with_unfolding_all rfl) hzm ?_)
              | (go_at_call 59; (with_reducible refine (cR _).mono ?_); rintro e1 w1 ⟨rfl, rfl⟩)
              | (go_at_call 62; (with_reducible refine (cL _).mono ?_); rintro e2 w2 ⟨rfl, hB2⟩)
              | (go_at_call 53; (with_reducible refine (awake6_any _).mono ?_); rintro e3 w3 ⟨rfl, rfl⟩))
            go_ret
            exact ⟨rfl, hB.trans (hB2.mono hB.size)⟩
          · go_enter Try.func9, Try.ntmps9
            go_wp2_with (first
              | (with_reducible refine wpList_load_if (by with_unfolding_all rfl) 23 _ rfl _ 0 rfl (m.map u8v) _ hI hu (by with_unfolding_all rfl) hzm ?_)
              | (go_at_call 59; (with_reducible refine (cR _).mono ?_); rintro e1 w1 ⟨rfl, rfl⟩)
              | (go_at_call 62; (with_reducible refine (cL _).mono ?_); rintro e2 w2 ⟨rfl, hB2⟩)
              | (go_at_call 53; (with_reducible refine (awake6_any _).mono ?_); rintro e3 w3 ⟨rfl, rfl⟩))
            go_ret
            exact ⟨rfl, hB.trans (hB2.mono hB.size)⟩
        | true =>
          have k3 : lf < 0 := by rcases l3 with h | h; · cases h
                                 · exact h
          have k1 : ¬ (32 : Int) < b := by
            rcases l2 with h | h
            · exact of_decide_eq_false h
            · cases h
          clear l2 l3 h3
          go_enter Try.func9, Try.ntmps9
          go_wp2_with (first
            | (with_reducible refine wpList_load_if (by with_unfolding_all rfl) 23 _ rfl _ 0 rfl (m.map u8v) _ hI hu (by with_unfolding_all rfl) hzm ?_)
            | (go_at_call 59; (with_reducible refine (cR _).mono ?_); rintro e1 w1 ⟨rfl, rfl⟩)
            | (go_at_call 62; (with_reducible refine (cL _).mono ?_); rintro e2 w2 ⟨rfl, hB2⟩)
            | (go_at_call 53; (with_reducible refine (awake6_any _).mono ?_); rintro e3 w3 ⟨rfl, rfl⟩))
          go_ret
          exact ⟨rfl, hB.trans (hB2.mono hB.size)⟩
      exact go (by rcases h3 with h3 | h3; · left; rw [decide_eq_false_iff_not]; omega
                   · right; exact h3) hno
    | true =>
      have h0 : 0 ≤ lf := by have := (Bool.and_eq_true _ _ ▸ hu2.symm); exact of_decide_eq_true this.1
      have hq1 : q = true := by have := (Bool.and_eq_true _ _ ▸ hu2.symm); exact this.2
      clear hu2
      subst hq1
      have h32 : b ≤ 32 := by rcases h3 with h3 | h3; · exact h3
                              · cases h3
      have hrg := HQ.out.symm
      obtain ⟨g0, g1⟩ := rgt_les hrg
      obtain ⟨n, rfl⟩ := Int.eq_ofNat_of_zero_le g0
      have l2 : ¬ (32 : Int) < n := by omega
      have l3 : ¬ lf < 0 := by omega
      have hn : n ≤ 256 := by omega
      have h1000 : s.length ≤ 1000 := Nat.le_trans H2.out (by decide)
      have cS : ∀ W : World, Calls Try.prog 62 #[.string (txt s), .int .i64 lf, .int .i64 n, .agg (List.map u8v m).toArray] W fun e w' => ∃ v u, e = .returned (.tuple #[v, u, .int .i64 0]) ∧ w'.ownsRow W.heap.size 23 32 v n (idsV (upTo (shownX s lf m) n)) ∧ w'.ownsRow W.heap.size 23 32 u n (idsV (upTo (hiddenX s lf m) n)) ∧ Below W.heap.size W w' := fun W => sign_any s h1000 lf h0 HL.out n hn hrg m HM.out W
      have cT : ∀ W : World, Calls Try.prog 63 #[.string (txt s), .int .i64 lf, .int .i64 n, .agg (List.map u8v m).toArray] W fun e w' => ∃ v u, e = .returned (.tuple #[v, u]) ∧ w'.ownsRow W.heap.size 23 32 v n (idsV (upTo (shownX s lf m) n)) ∧ w'.ownsRow W.heap.size 23 32 u n (idsV (upTo (hiddenX s lf m) n)) ∧ Below W.heap.size W w' := fun W => rsign_any s h1000 lf n hn m HM.out W
      have cL := fun W => leaf_any s h1000 lf h0 HL.out n hn hrg W
      have cV : ∀ A B c d W, RowR W A n (upTo (shownX s lf m) n) → RowR W B n (upTo (hiddenX s lf m) n) → Calls Try.prog 64 #[.agg (List.map u8v m).toArray, .slice A n c, .slice B n d] W fun e w' => e = .returned (.tuple #[.agg (idVals (leafB s lf n)), .int .i64 0]) ∧ Below W.heap.size W w' := fun A B c d W hA hB => by
        have := recover_any m HM.out A B n c d _ _ hn hrg W hA hB
        rw [signed_back] at this
        exact this
      have h32a := upTo_32 (shownX s lf m) (shownX_length s lf m) n
      have h32b := upTo_32 (hiddenX s lf m) (hiddenX_length s lf m) n
      have cM : ∀ A B c d l W, RowR W A n l → RowR W B n l → Calls Try.prog 19 #[.slice A n c, .slice B n d] W fun e w' => e = .returned (.bool true) ∧ Below W.heap.size W w' := fun A B c d l W hA hB => by
        have := rsame_any A B n c n d l l W hA hB
        rw [decide_eq_true rfl] at this
        exact this
      generalize upTo (shownX s lf m) n = L1 at *
      generalize upTo (hiddenX s lf m) n = L2 at *
      obtain ⟨S, hS⟩ : ∃ S, S = leafB s lf n := ⟨_, rfl⟩
      have hSl : S.length = 32 := by rw [hS]; exact leafB_length _ _ _
      rw [← hS] at cL cV
      have HZ : (Try.prog.info? 23).map (·.size) = some (S.map u8v).length := by rw [List.length_map, hSl]; exact sizeId
      have e1 : ∀ W, (Op.equalIn 10000 23 (.agg (List.map u8v S).toArray) (.agg (List.map u8v S).toArray)).run Try.prog W = .ok true W := fun W => (ids_eq W S S hSl hSl).trans (by rw [decide_eq_true rfl])
      have HSL := hid hSl
      have H32a := hid h32a
      have H32b := hid h32b
      have HN := hid hn
      clear hS hSl hrg g0 g1 h1000 h32 h3 h0 h32a h32b hn
      go_enter Try.func9, Try.ntmps9
      go_wp2_with (first
        | (with_reducible refine wpList_load_if (by with_unfolding_all rfl) 23 _ rfl _ 0 rfl (m.map u8v) _ hI hu (by with_unfolding_all rfl) hzm ?_)
        | (go_at_call 59; (with_reducible refine (cR _).mono ?_); rintro e1 w1 ⟨rfl, rfl⟩)
        | (go_at_call 62; (with_reducible refine (cS _).mono ?_); rintro e2 w2 ⟨v1, v2, rfl, ho1, ho2, hb2⟩; obtain ⟨A1, k1, rfl, hr1⟩ := RowAt.own ho1 H32a.out (by have := HN.out; omega); obtain ⟨A2, k2, rfl, hr2⟩ := RowAt.own ho2 H32b.out (by have := HN.out; omega); replace hI := hI.below hb2; replace hB := hB.trans (hb2.mono hB.size))
        | (go_at_call 63; (with_reducible refine (cT _).mono ?_); rintro e3 w3 ⟨v3, v4, rfl, ho3, ho4, hb3⟩; obtain ⟨A3, k3, rfl, hr3⟩ := RowAt.own ho3 H32a.out (by have := HN.out; omega); obtain ⟨A4, k4, rfl, hr4⟩ := RowAt.own ho4 H32b.out (by have := HN.out; omega); replace hI := hI.below hb3; replace hB := hB.trans (hb3.mono hB.size); replace hr1 := hr1.below hb3; replace hr2 := hr2.below hb3)
        | (go_at_call 64; (with_reducible refine (cV _ _ _ _ _ hr1.r hr2.r).mono ?_); rintro e4 w4 ⟨rfl, hb4⟩; replace hI := hI.below hb4; replace hB := hB.trans (hb4.mono hB.size); replace hr1 := hr1.below hb4; replace hr2 := hr2.below hb4; replace hr3 := hr3.below hb4; replace hr4 := hr4.below hb4)
        | (go_at_call 60; (with_reducible refine (cL _).mono ?_); rintro e5 w5 ⟨rfl, hb5⟩; replace hx6 := hx6.below hb5; replace hB := hB.trans (hb5.mono hB.size); replace hr1 := hr1.below hb5; replace hr2 := hr2.below hb5; replace hr3 := hr3.below hb5; replace hr4 := hr4.below hb5)
        | (have hx6' := hx6; (with_reducible refine wpList_store_newid rfl _ _ rfl S HSL.out rfl rfl (by with_unfolding_all rfl) ?_); intro w7 hx7 hb7; replace hx6 := hx6.below hb7; replace hB := hB.trans (hb7.mono hB.size); replace hr1 := hr1.below hb7; replace hr2 := hr2.below hb7; replace hr3 := hr3.below hb7; replace hr4 := hr4.below hb7)
        | ((with_reducible refine wpList_store_newid rfl _ _ rfl S HSL.out rfl rfl (by with_unfolding_all rfl) ?_); intro w6 hx6 hb6; replace hB := hB.trans (hb6.mono hB.size); replace hr1 := hr1.below hb6; replace hr2 := hr2.below hb6; replace hr3 := hr3.below hb6; replace hr4 := hr4.below hb6)
        | (go_at_call 19; first | ((with_reducible refine (cM _ _ _ _ _ _ hr1.r hr3.r).mono ?_); rintro e8 w8 ⟨rfl, hb8⟩; replace hx6 := hx6.below hb8; replace hx7 := hx7.below hb8; replace hB := hB.trans (hb8.mono hB.size); replace hr2 := hr2.below hb8; replace hr4 := hr4.below hb8) | ((with_reducible refine (cM _ _ _ _ _ _ hr2.r hr4.r).mono ?_); rintro e9 w9 ⟨rfl, hb9⟩; replace hx6 := hx6.below hb9; replace hx7 := hx7.below hb9; replace hB := hB.trans (hb9.mono hB.size)))
        | (with_reducible refine wpList_load_if (by with_unfolding_all rfl) 23 _ rfl _ 0 rfl (S.map u8v) _ hx6 hu (by with_unfolding_all rfl) HZ ?_)
        | (with_reducible refine wpList_load_if (by with_unfolding_all rfl) 23 _ rfl _ 0 rfl (S.map u8v) _ hx7 hu (by with_unfolding_all rfl) HZ ?_)
        | (go_at_call 53; (with_reducible refine (awake6_any _).mono ?_); rintro e10 w10 ⟨rfl, rfl⟩))
      go_ret
      exact ⟨rfl, hB⟩
  · have c7 := awake6_any
    by_cases h4 : s.length ≤ 200
    · have l1 : ¬ (200 : Int) < s.length := by omega
      have l2 : (32 : Int) < b := by
        by_cases h5 : b ≤ 32
        · exact absurd ⟨h4, .inl h5⟩ h2
        · omega
      obtain rfl : q = true := by
        cases q with
        | true => rfl
        | false => exact absurd ⟨h4, .inr rfl⟩ h2
      clear h2 h4
      go_enter Try.func9, Try.ntmps9
      go_wp2_with (first
        | (go_at_call 59; (with_reducible refine (cR _).mono ?_); rintro e1 w1 ⟨rfl, rfl⟩)
        | (go_at_call 53; (with_reducible refine (c7 _).mono ?_); rintro e3 w3 ⟨rfl, rfl⟩))
      go_ret
      exact ⟨rfl, hB⟩
    · have l1 : (200 : Int) < s.length := by omega
      clear h2 h4
      go_enter Try.func9, Try.ntmps9
      go_wp2_with (first
        | (go_at_call 59; (with_reducible refine (cR _).mono ?_); rintro e1 w1 ⟨rfl, rfl⟩)
        | (go_at_call 53; (with_reducible refine (c7 _).mono ?_); rintro e3 w3 ⟨rfl, rfl⟩))
      go_ret
      exact ⟨rfl, hB⟩
set_option linter.unusedVariables false in
theorem law_LamportSigns (w : World) (a0 : ByteArray) (w0 : a0.size ≤ maxLen) (a1 : Int) (w1 : (Lit.int .i64 a1).wf = true) (a2 : Int) (w2 : (Lit.int .i64 a2).wf = true) (a3 : List UInt8) (w3 : a3.length = 32) :
    Calls Try.prog 9 #[.string a0, .int .i64 a1, .int .i64 a2, .agg (idVals a3)] w fun e w' => e = .returned (.bool true) ∧ Below w.heap.size w w' := by
  obtain ⟨h1, h2⟩ := bound_i64s w1
  refine lamSigns_any a0.data.toList a1 a2 a3 w3 ?_ ?_ w
  · omega
  · unfold maxLen at w0
    have : a0.data.toList.length = a0.size := rfl
    omega

open Go.ChangeShapes Go.WideShapes Go.ChangeAt
open Go.ChangeMaps (open_string shut_string)
theorem own_LamportSigns : ownKnob Try.prog.godebug = none := by kernel_rfl
theorem laidOut_LamportSigns : laidOutB Try.prog = true := by kernel_rfl
set_option linter.unusedVariables false in
set_option maxRecDepth 100000 in
theorem lifted_LamportSigns (os : Os) (started : os.Started) (H : Type) (enc : TypeId × Value → H) :
    ReturnsInHanded {} Try.checked os 9 .any (Rows.lamportSignsSpec.pre6 enc Try.prog Try.f9 Rows.lamportSignsRow.domain false) (Rows.lamportSignsSpec.post enc Try.prog Try.f9 false true false false) := by
  refine returnsInHanded_of_change (C := Try.checked) own_LamportSigns started (by kernel_rfl) Try.func9
    (ChangeSpec.witness6 (enc := enc) (C := Try.checked) false ⟨#[], #[.string ByteArray.empty, .int .i64 0, .int .i64 0, .agg #[.int .u8 0, .int .u8 0, .int .u8 0, .int .u8 0, .int .u8 0, .int .u8 0, .int .u8 0, .int .u8 0, .int .u8 0, .int .u8 0, .int .u8 0, .int .u8 0, .int .u8 0, .int .u8 0, .int .u8 0, .int .u8 0, .int .u8 0, .int .u8 0, .int .u8 0, .int .u8 0, .int .u8 0, .int .u8 0, .int .u8 0, .int .u8 0, .int .u8 0, .int .u8 0, .int .u8 0, .int .u8 0, .int .u8 0, .int .u8 0, .int .u8 0, .int .u8 0]], []⟩ 8 (by kernel_rfl) (by kernel_rfl) (by kernel_rfl) (by kernel_rfl)) ?_
  intro W base args ds gs before hval0 hW hcnd _
  have hval : ∀ (j : Nat) t v, Try.f9.params[j]? = some t → args[j]? = some v → Value.okWide Try.prog W .any base t v := hval0
  have hW' := hW
  obtain ⟨p, q, hA0, hV, rfl, hfz, hnd⟩ := hW
  have hA1 : DataW.TrodAll enc Try.prog W 0 (fun _ => true) true Try.f9.params.toList args.toList ds p := hA0
  have hA : DataW.TrodAll enc Try.prog W 0 (fun _ => true) true Try.f9.params.toList args.toList ds p := hA0
  rw [Try.params9] at hA hval
  obtain ⟨v0, vs0, d0, ds0, p0, q0, hargs, rfl, rfl, h0, r0⟩ := trodAll_cons hA
  obtain ⟨v1, vs1, d1, ds1, p1, q1, rfl, rfl, rfl, h1, r1⟩ := trodAll_cons r0
  obtain ⟨v2, vs2, d2, ds2, p2, q2, rfl, rfl, rfl, h2, r2⟩ := trodAll_cons r1
  obtain ⟨v3, vs3, d3, ds3, p3, q3, rfl, rfl, rfl, h3, r3⟩ := trodAll_cons r2
  obtain ⟨rfl, rfl, rfl⟩ := trodAll_nil r3
  obtain rfl : args = #[v0, v1, v2, v3] := by cases args; simp_all
  obtain ⟨rfl, rfl⟩ := trodVars_none hV
  obtain ⟨a0, rfl, rfl, rfl, w0⟩ := open_string Try.underlying9 (hval 0 9 v0 rfl rfl) h0
  obtain ⟨a1, rfl, rfl, rfl, w1⟩ := open_int Try.underlying3 (hval 1 3 v1 rfl rfl) h1
  obtain ⟨a2, rfl, rfl, rfl, w2⟩ := open_int Try.underlying3 (hval 2 3 v2 rfl rfl) h2
  obtain ⟨a3, w3, rfl⟩ := open_id Try.underlying23 Try.underlying5 (by kernel_rfl) (by kernel_rfl) (hval 3 23 v3 rfl rfl) h3
  clear hA0 hval0
  refine (law_LamportSigns W a0 w0 a1 w1 a2 w2 a3 w3).mono fun e W' ⟨he, bel⟩ => ?_
  subst he
  exact ⟨_, rfl, _, _, _, [], _, [], hW', trodAll_mk1 (shut_bool Try.underlying4 _), trodAll_stays laidOut_LamportSigns bel (by kernel_rfl) hA1, rfl, bel.frame _, fun h => by cases h⟩

/-- The statement. -/
theorem LamportSigns_holds : Rows.LamportSignsSaid :=
  OpenClaim.holds_of_wide 9 Try.f9 rfl rfl rfl rfl rfl rfl rfl ⟨rfl, rfl, rfl, rfl, rfl⟩ rfl rfl rfl rfl rfl (by kernel_rfl) Try.func9 (by kernel_rfl)
    (of_decide_eq_true (by kernel_rfl)) (by unfold Func.isWrapper; first | (rw [if_pos (by decide +kernel)]; kernel_rfl) | (rw [if_neg (by decide +kernel)]; exact ⟨rfl, rfl⟩))
    (fun os started H enc _ => lifted_LamportSigns os started H enc)
#print axioms LamportSigns_holds
end Go.Proofs.Ytjofobfflnnjhaa

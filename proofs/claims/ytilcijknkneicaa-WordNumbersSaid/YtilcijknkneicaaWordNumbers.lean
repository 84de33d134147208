/- Proved: for every number, count, text and place, quitclaimlaw01.WordNumbers returns true and leaves its arguments as they were. No conditions. -/
import Derived.Test.YtilcijknkneicaaNums
namespace Go.Proofs.Ytilcijknkneicaa
open Go.RowKit Go.Qc
attribute [local go_sem] ib_fold lv_add lv_mul256 lv_or lv_shr lv_div256 lv_shl8 lv_tdiv256 lv_mod256 lv_tmod256 lv_u8 lv_up lv_w64 lv_inj txt_append ib_u8 ib_shr ib_div2 ib_tdiv2 ib_mod2 ib_tmod2 ib_and1 ib_i64 ib_w64 ib_inj

set_option maxHeartbeats 400000 in
theorem wordNumbers_far (x : Int) (n : Int) (s : ByteArray) (i : Int) (h : (100 : Int) < s.size) (w : World) :
    Calls Try.prog 5 #[.int .u64 x, .int .i64 n, .string s, .int .i64 i] w fun e w' => e = .returned (.bool true) ∧ Below w.heap.size w w' := by
  go_enter Try.func5, Try.ntmps5
  go_wp2_with (go_at_call 13; (with_reducible refine (awake1_any _).mono ?_); rintro e w' ⟨rfl, rfl⟩)
  go_ret
  exact ⟨rfl, Below.refl _ _⟩

/-- What the two calls of Number answer, together. -/
def NumBoth (v : BitVec 64) (n : Int) (l : List UInt8) (ok : Bool) : Prop :=
  l.length ≤ 8 ∧ (ok = true → valB l 0#64 = v) ∧
  (∀ w : World, Calls Try.prog 17 #[.int .u64 (lv v), .int .i64 n] w fun e w' => e = .returned (.tuple #[.string (txt l), .bool ok]) ∧ Below w.heap.size w w') ∧
  (∀ w : World, Calls Try.prog 18 #[.int .u64 (lv v), .int .i64 n] w fun e w' => e = .returned (.tuple #[.string (txt l), .bool ok]) ∧ Below w.heap.size w w')
theorem numBoth (v : BitVec 64) (n : Int) : ∃ l ok, NumBoth v n l ok := by
  have same : ∀ {f : FuncId} {args : Array Value} {w : World} {u : Value}, Calls Try.prog f args w (fun e w' => e = .returned u ∧ w = w') → Calls Try.prog f args w (fun e w' => e = .returned u ∧ Below w.heap.size w w') :=
    fun h => h.mono fun _ _ ⟨he, hw⟩ => ⟨he, hw ▸ Below.refl _ _⟩
  by_cases hf : n < 0 ∨ 8 < n
  · exact ⟨[], false, by simp, by simp, fun w => same (number_far v n hf w), fun w => same (rnumber_far v n hf w)⟩
  · obtain ⟨m, rfl⟩ : ∃ m : Nat, n = m := ⟨n.toNat, by omega⟩
    by_cases hz : v >>> (8 * m) = 0#64
    · refine ⟨numB v m, true, by rw [numB_length]; omega, fun _ => ?_, fun w => number_any v m (by omega) hz w, fun w => rnumber_any v m (by omega) hz w⟩
      rw [← hz, valB_num]
    · exact ⟨[], false, by simp, by simp, fun w => same (number_big v m (by omega) hz w), fun w => same (rnumber_big v m (by omega) hz w)⟩

set_option maxHeartbeats 1000000 in
theorem wordNumbers_near (v : BitVec 64) (n : Int) (s : ByteArray) (i : Int) (h : ¬ (100 : Int) < s.size) (hi : i ≤ 9223372036854775807) (w : World) :
    Calls Try.prog 5 #[.int .u64 (lv v), .int .i64 n, .string s, .int .i64 i] w fun e w' => e = .returned (.bool true) ∧ Below w.heap.size w w' := by
  obtain ⟨l, ok, hl, hv, c1, c2⟩ := numBoth v n
  have c3 : ∀ w : World, Calls Try.prog 19 #[.string (txt l)] w fun e w' => e = .returned (.tuple #[.int .u64 (lv (valB l 0#64)), .bool true]) ∧ w = w' :=
    fun w => value_any (txt l) (by rw [txt_size]; exact hl) w
  have HM := hid c1
  have HR := hid c2
  have HU := hid c3
  clear c1 c2 c3 hl
  cases ok
  all_goals
    first | (obtain rfl := hv rfl) | clear hv
    have h63 : s.size ≤ maxLen := by unfold maxLen; omega
    have HK := hid h63
    clear h63
    by_cases h8 : (8 : Int) < s.size
    all_goals
      by_cases hb : i < 0
      · have HB := hid (bit_no s i (.inl hb) hi)
        go_enter Try.func5, Try.ntmps5
        go_wp2_with (first
          | (go_at_call 13; (with_reducible refine (awake1_any _).mono ?_); rintro e w' ⟨rfl, rfl⟩)
          | (go_at_call 17; (with_reducible refine (HM.out _).mono ?_); rintro e w1 ⟨rfl, hb1⟩)
          | (go_at_call 18; (with_reducible refine (HR.out _).mono ?_); rintro e w2 ⟨rfl, hb2⟩)
          | (go_at_call 19; first
              | ((with_reducible refine (HU.out _).mono ?_); rintro e w' ⟨rfl, rfl⟩)
              | ((with_reducible refine (value_no s h8 _).mono ?_); rintro e w' ⟨rfl, rfl⟩)
              | ((with_reducible refine (value_any s (by omega) _).mono ?_); rintro e w' ⟨rfl, rfl⟩))
          | (go_at_call 20; (with_reducible refine (rvalue_any s HK.out _).mono ?_); rintro e w' ⟨rfl, rfl⟩)
          | (go_at_call 21; (with_reducible refine (HB.out _).mono ?_); rintro e w' ⟨rfl, rfl⟩))
        go_ret
        exact ⟨rfl, hb1.trans (hb2.mono hb1.size)⟩
      · obtain ⟨j, rfl⟩ : ∃ j : Nat, i = j := ⟨i.toNat, by omega⟩
        by_cases hj : j / 8 < s.size
        · have h1 : (j : Int) / 8 < s.size := by omega
          go_enter Try.func5, Try.ntmps5
          go_wp2_with (first
            | (go_at_call 13; (with_reducible refine (awake1_any _).mono ?_); rintro e w' ⟨rfl, rfl⟩)
            | (go_at_call 17; (with_reducible refine (HM.out _).mono ?_); rintro e w1 ⟨rfl, hb1⟩)
            | (go_at_call 18; (with_reducible refine (HR.out _).mono ?_); rintro e w2 ⟨rfl, hb2⟩)
            | (go_at_call 19; first
                | ((with_reducible refine (HU.out _).mono ?_); rintro e w' ⟨rfl, rfl⟩)
                | ((with_reducible refine (value_no s h8 _).mono ?_); rintro e w' ⟨rfl, rfl⟩)
                | ((with_reducible refine (value_any s (by omega) _).mono ?_); rintro e w' ⟨rfl, rfl⟩))
            | (go_at_call 20; (with_reducible refine (rvalue_any s HK.out _).mono ?_); rintro e w' ⟨rfl, rfl⟩)
            | (go_at_call 21; (with_reducible refine (bit_any s j (by omega) hj _).mono ?_); rintro e w' ⟨rfl, rfl⟩)
            | (go_at_call 22; (with_reducible refine (rbit_any s j (by omega) hj _).mono ?_); rintro e w' ⟨rfl, rfl⟩))
          go_ret
          exact ⟨rfl, hb1.trans (hb2.mono hb1.size)⟩
        · have h1 : (s.size : Int) ≤ (j : Int) / 8 := by omega
          have HB := hid (bit_no s j (.inr ⟨by omega, h1⟩) hi)
          go_enter Try.func5, Try.ntmps5
          go_wp2_with (first
            | (go_at_call 13; (with_reducible refine (awake1_any _).mono ?_); rintro e w' ⟨rfl, rfl⟩)
            | (go_at_call 17; (with_reducible refine (HM.out _).mono ?_); rintro e w1 ⟨rfl, hb1⟩)
            | (go_at_call 18; (with_reducible refine (HR.out _).mono ?_); rintro e w2 ⟨rfl, hb2⟩)
            | (go_at_call 19; first
                | ((with_reducible refine (HU.out _).mono ?_); rintro e w' ⟨rfl, rfl⟩)
                | ((with_reducible refine (value_no s h8 _).mono ?_); rintro e w' ⟨rfl, rfl⟩)
                | ((with_reducible refine (value_any s (by omega) _).mono ?_); rintro e w' ⟨rfl, rfl⟩))
            | (go_at_call 20; (with_reducible refine (rvalue_any s HK.out _).mono ?_); rintro e w' ⟨rfl, rfl⟩)
            | (go_at_call 21; (with_reducible refine (HB.out _).mono ?_); rintro e w' ⟨rfl, rfl⟩))
          go_ret
          exact ⟨rfl, hb1.trans (hb2.mono hb1.size)⟩

set_option linter.unusedVariables false in
theorem law_WordNumbers (w : World) (a0 : Int) (w0 : (Lit.int .u64 a0).wf = true) (a1 : Int) (w1 : (Lit.int .i64 a1).wf = true) (a2 : ByteArray) (w2 : a2.size ≤ maxLen) (a3 : Int) (w3 : (Lit.int .i64 a3).wf = true) :
    Calls Try.prog 5 #[.int .u64 a0, .int .i64 a1, .string a2, .int .i64 a3] w fun e w' => e = .returned (.bool true) ∧ Below w.heap.size w w' := by
  obtain ⟨h0, h1⟩ := bounds_u64 w0
  obtain ⟨v, rfl⟩ := lv_ex a0 h0 (by omega)
  by_cases h : (100 : Int) < a2.size
  · exact wordNumbers_far _ _ _ _ h w
  exact wordNumbers_near v a1 a2 a3 h (bounds_i64 w3).2 w

open Go.ChangeShapes Go.WideShapes Go.ChangeAt
open Go.ChangeMaps (open_string shut_string)
theorem own_WordNumbers : ownKnob Try.prog.godebug = none := by kernel_rfl
theorem laidOut_WordNumbers : laidOutB Try.prog = true := by kernel_rfl
set_option linter.unusedVariables false in
set_option maxRecDepth 100000 in
theorem lifted_WordNumbers (os : Os) (started : os.Started) (H : Type) (enc : TypeId × Value → H) :
    ReturnsInHanded {} Try.checked os 5 .any (Rows.wordNumbersSpec.pre6 enc Try.prog Try.f5 Rows.wordNumbersRow.domain false) (Rows.wordNumbersSpec.post enc Try.prog Try.f5 false true false false) := by
  refine returnsInHanded_of_change (C := Try.checked) own_WordNumbers started (by kernel_rfl) Try.func5
    (ChangeSpec.witness6 (enc := enc) (C := Try.checked) false ⟨#[], #[.int .u64 0, .int .i64 0, .string ByteArray.empty, .int .i64 0], []⟩ 8 (by kernel_rfl) (by kernel_rfl) (by kernel_rfl) (by kernel_rfl)) ?_
  intro W base args ds gs before hval0 hW hcnd _
  have hval : ∀ (j : Nat) t v, Try.f5.params[j]? = some t → args[j]? = some v → Value.okWide Try.prog W .any base t v := hval0
  have hW' := hW
  obtain ⟨p, q, hA0, hV, rfl, hfz, hnd⟩ := hW
  have hA1 : DataW.TrodAll enc Try.prog W 0 (fun _ => true) true Try.f5.params.toList args.toList ds p := hA0
  have hA : DataW.TrodAll enc Try.prog W 0 (fun _ => true) true Try.f5.params.toList args.toList ds p := hA0
  rw [Try.params5] at hA hval
  obtain ⟨v0, vs0, d0, ds0, p0, q0, hargs, rfl, rfl, h0, r0⟩ := trodAll_cons hA
  obtain ⟨v1, vs1, d1, ds1, p1, q1, rfl, rfl, rfl, h1, r1⟩ := trodAll_cons r0
  obtain ⟨v2, vs2, d2, ds2, p2, q2, rfl, rfl, rfl, h2, r2⟩ := trodAll_cons r1
  obtain ⟨v3, vs3, d3, ds3, p3, q3, rfl, rfl, rfl, h3, r3⟩ := trodAll_cons r2
  obtain ⟨rfl, rfl, rfl⟩ := trodAll_nil r3
  obtain rfl : args = #[v0, v1, v2, v3] := by cases args; simp_all
  obtain ⟨rfl, rfl⟩ := trodVars_none hV
  obtain ⟨a0, rfl, rfl, rfl, w0⟩ := open_int Try.underlying33 (hval 0 33 v0 rfl rfl) h0
  obtain ⟨a1, rfl, rfl, rfl, w1⟩ := open_int Try.underlying3 (hval 1 3 v1 rfl rfl) h1
  obtain ⟨a2, rfl, rfl, rfl, w2⟩ := open_string Try.underlying9 (hval 2 9 v2 rfl rfl) h2
  obtain ⟨a3, rfl, rfl, rfl, w3⟩ := open_int Try.underlying3 (hval 3 3 v3 rfl rfl) h3
  clear hA0 hval0
  refine (law_WordNumbers W a0 w0 a1 w1 a2 w2 a3 w3).mono fun e W' ⟨he, bel⟩ => ?_
  subst he
  exact ⟨_, rfl, _, _, _, [], _, [], hW', trodAll_mk1 (shut_bool Try.underlying4 _), trodAll_stays laidOut_WordNumbers bel (by kernel_rfl) hA1, rfl, bel.frame _, fun h => by cases h⟩

/-- The statement. -/
theorem WordNumbers_holds : Rows.WordNumbersSaid :=
  OpenClaim.holds_of_wide 5 Try.f5 rfl rfl rfl rfl rfl rfl rfl ⟨rfl, rfl, rfl, rfl, rfl⟩ rfl rfl rfl rfl rfl (by kernel_rfl) Try.func5 (by kernel_rfl)
    (of_decide_eq_true (by kernel_rfl)) (by unfold Func.isWrapper; first | (rw [if_pos (by decide +kernel)]; kernel_rfl) | (rw [if_neg (by decide +kernel)]; exact ⟨rfl, rfl⟩))
    (fun os started H enc _ => lifted_WordNumbers os started H enc)
#print axioms WordNumbers_holds
end Go.Proofs.Ytilcijknkneicaa

/- Proved: for every word and every count, quitclaimlaw01.WordTurns returns true and leaves its arguments as they were. No conditions. -/
import Derived.Test.YtilcijknkneicaaWordB
namespace Go.Proofs.Ytilcijknkneicaa
open Go.RowKit Go.Qc
attribute [local go_sem] iv_add iv_and iv_or iv_xor iv_shl iv_shr iv_inj iv_i64 iv_mod2

theorem left_ex (w : World) : Calls Try.prog 10 #[.int .u32 2147483649, .int .i64 1] w fun e w' => e = .returned (.int .u32 3) ∧ w = w' := by
  have h := left_any 2147483649#32 1 w
  have e1 : iv 2147483649#32 = 2147483649 := by decide
  have e2 : iv (rotl 2147483649#32 ((1:Int) % 32).toNat) = 3 := by decide
  rw [e1, e2] at h
  exact h

set_option maxHeartbeats 400000 in
theorem awake1_any (w : World) :
    Calls Try.prog 13 #[] w fun e w' => e = .returned (.bool true) ∧ w = w' := by
  have hbit : wrap64 (bits .and .u8 (((⟨#[64]⟩ : ByteArray)[0]'(by decide)).toNat / 64) 1) = 1 := by kernel_rfl
  go_enter Try.func13, Try.ntmps13
  go_wp2_with (first | (go_at_call 10; refine (left_ex _).mono ?_; rintro e w' ⟨rfl, rfl⟩) | (go_at_call 21; go_in))
  go_ret
  exact ⟨rfl, rfl⟩

theorem right_at (x : BitVec 32) (k : Int) (m : Nat) (hm : (-k) % 32 = m) (w : World) :
    Calls Try.prog 11 #[.int .u32 (iv x), .int .i64 k] w fun e w' => e = .returned (.int .u32 (iv (rotl x m))) ∧ w = w' := by
  have h := right_any x k w
  rw [hm, Int.toNat_natCast] at h
  exact h
theorem left_at (x : BitVec 32) (k : Int) (m : Nat) (hm : k % 32 = m) (w : World) :
    Calls Try.prog 10 #[.int .u32 (iv x), .int .i64 k] w fun e w' => e = .returned (.int .u32 (iv (rotl x m))) ∧ w = w' := by
  have h := left_any x k w
  rw [hm, Int.toNat_natCast] at h
  exact h
theorem turn_at (k : Int) (m : Nat) (hm : k % 32 = m) (w : World) :
    Calls Try.prog 9 #[.int .i64 k] w fun e w' => e = .returned (.int .i64 m) ∧ w = w' := by
  have h := turn_any k w
  rw [hm] at h
  exact h
theorem rleft_at (x : BitVec 32) (z : Int) (m : Nat) (hz : z = m) (hm : m < 32) (w : World) :
    Calls Try.prog 12 #[.int .u32 (iv x), .int .i64 z] w fun e w' => e = .returned (.int .u32 (iv (rotl x m))) ∧ Below w.heap.size w w' := by
  rw [hz]; exact rleft_any x m hm w

set_option maxHeartbeats 400000 in
theorem wordTurns_any (x : BitVec 32) (k : Int) (m m2 : Nat) (hm : k % 32 = m) (hm2 : (-k) % 32 = m2) (w : World) :
    Calls Try.prog 3 #[.int .u32 (iv x), .int .i64 k] w fun e w' => e = .returned (.bool true) ∧ Below w.heap.size w w' := by
  have hl : m < 32 := by omega
  have hl2 : m2 < 32 := by omega
  have e2 : -(m : Int) % 32 = m2 := by omega
  have hb' : rotl (rotl x m) m2 = x := rotl_back x m m2 hl hl2 (by omega)
  have HE2 := hid e2
  have HM := hid hm
  have HM2 := hid hm2
  clear e2 hm hm2
  go_enter Try.func3, Try.ntmps3
  go_wp2_with (first
    | (go_at_call 9; (with_reducible refine (turn_at _ m HM.out _).mono ?_); rintro e w' ⟨rfl, rfl⟩)
    | (go_at_call 10; (with_reducible refine (left_at _ _ m HM.out _).mono ?_); rintro e w' ⟨rfl, rfl⟩)
    | (go_at_call 11; (with_reducible refine (right_at _ _ m2 HM2.out _).mono ?_); rintro e w' ⟨rfl, rfl⟩)
    | (go_at_call 12; first
        | ((with_reducible refine (rleft_at _ _ m (by with_reducible rfl) hl _).mono ?_); rintro e w1 ⟨rfl, hb1⟩)
        | ((with_reducible refine (rleft_at _ _ m2 HE2.out hl2 _).mono ?_); rintro e w2 ⟨rfl, hb2⟩))
    | (go_at_call 13; (with_reducible refine (awake1_any _).mono ?_); rintro e w' ⟨rfl, rfl⟩))
  go_ret
  exact ⟨rfl, hb1.trans (hb2.mono hb1.size)⟩

set_option linter.unusedVariables false in
theorem law_WordTurns (w : World) (a0 : Int) (w0 : (Lit.int .u32 a0).wf = true) (a1 : Int) (w1 : (Lit.int .i64 a1).wf = true) :
    Calls Try.prog 3 #[.int .u32 a0, .int .i64 a1] w fun e w' => e = .returned (.bool true) ∧ Below w.heap.size w w' := by
  obtain ⟨h0, h1⟩ := bounds_u32 w0
  obtain ⟨x, rfl⟩ := iv_ex a0 h0 (by omega)
  exact wordTurns_any x a1 (a1 % 32).toNat ((-a1) % 32).toNat (by omega) (by omega) w

open Go.ChangeShapes Go.WideShapes Go.ChangeAt
open Go.ChangeMaps (open_string shut_string)
theorem own_WordTurns : ownKnob Try.prog.godebug = none := by kernel_rfl
theorem laidOut_WordTurns : laidOutB Try.prog = true := by kernel_rfl
set_option linter.unusedVariables false in
set_option maxRecDepth 100000 in
theorem lifted_WordTurns (os : Os) (started : os.Started) (H : Type) (enc : TypeId × Value → H) :
    ReturnsInHanded {} Try.checked os 3 .any (Rows.wordTurnsSpec.pre6 enc Try.prog Try.f3 Rows.wordTurnsRow.domain false) (Rows.wordTurnsSpec.post enc Try.prog Try.f3 false true false false) := by
  refine returnsInHanded_of_change (C := Try.checked) own_WordTurns started (by kernel_rfl) Try.func3
    (ChangeSpec.witness6 (enc := enc) (C := Try.checked) false ⟨#[], #[.int .u32 0, .int .i64 0], []⟩ 8 (by kernel_rfl) (by kernel_rfl) (by kernel_rfl) (by kernel_rfl)) ?_
  intro W base args ds gs before hval0 hW hcnd _
  have hval : ∀ (j : Nat) t v, Try.f3.params[j]? = some t → args[j]? = some v → Value.okWide Try.prog W .any base t v := hval0
  have hW' := hW
  obtain ⟨p, q, hA0, hV, rfl, hfz, hnd⟩ := hW
  have hA1 : DataW.TrodAll enc Try.prog W 0 (fun _ => true) true Try.f3.params.toList args.toList ds p := hA0
  have hA : DataW.TrodAll enc Try.prog W 0 (fun _ => true) true Try.f3.params.toList args.toList ds p := hA0
  rw [Try.params3] at hA hval
  obtain ⟨v0, vs0, d0, ds0, p0, q0, hargs, rfl, rfl, h0, r0⟩ := trodAll_cons hA
  obtain ⟨v1, vs1, d1, ds1, p1, q1, rfl, rfl, rfl, h1, r1⟩ := trodAll_cons r0
  obtain ⟨rfl, rfl, rfl⟩ := trodAll_nil r1
  obtain rfl : args = #[v0, v1] := by cases args; simp_all
  obtain ⟨rfl, rfl⟩ := trodVars_none hV
  obtain ⟨a0, rfl, rfl, rfl, w0⟩ := open_int Try.underlying22 (hval 0 22 v0 rfl rfl) h0
  obtain ⟨a1, rfl, rfl, rfl, w1⟩ := open_int Try.underlying3 (hval 1 3 v1 rfl rfl) h1
  clear hA0 hval0
  refine (law_WordTurns W a0 w0 a1 w1).mono fun e W' ⟨he, bel⟩ => ?_
  subst he
  exact ⟨_, rfl, _, _, _, [], _, [], hW', trodAll_mk1 (shut_bool Try.underlying4 _), trodAll_stays laidOut_WordTurns bel (by kernel_rfl) hA1, rfl, bel.frame _, fun h => by cases h⟩

/-- The statement. -/
theorem WordTurns_holds : Rows.WordTurnsSaid :=
  OpenClaim.holds_of_wide 3 Try.f3 rfl rfl rfl rfl rfl rfl rfl ⟨rfl, rfl, rfl, rfl, rfl⟩ rfl rfl rfl rfl rfl (by kernel_rfl) Try.func3 (by kernel_rfl)
    (of_decide_eq_true (by kernel_rfl)) (by unfold Func.isWrapper; first | (rw [if_pos (by decide +kernel)]; kernel_rfl) | (rw [if_neg (by decide +kernel)]; exact ⟨rfl, rfl⟩))
    (fun os started H enc _ => lifted_WordTurns os started H enc)
#print axioms WordTurns_holds
end Go.Proofs.Ytilcijknkneicaa

/- Proved: for every text, quitclaimlaw02.ShaSums returns true and leaves its arguments as they were. No conditions. -/
import Derived.Test.YtilcijknkneicaaSha10
import Derived.Test.YtilcijknkneicaaSha11
namespace Go.Proofs.Ytilcijknkneicaa
open Go.RowKit Go.Qc
attribute [local go_sem] txt_size

theorem shaSums_any (a : List UInt8) (w : World) :
    Calls Try.prog 6 #[.string (txt a)] w fun e w' => e = .returned (.bool true) ∧ Below w.heap.size w w' := by
  obtain ⟨A, hA⟩ : ∃ A, A = sumB a := ⟨_, rfl⟩
  have s1 : ∀ W : World, a.length ≤ 2000 → Calls Try.prog 24 #[.string (txt a)] W fun e w' => e = .returned (.agg (idVals A)) ∧ Below W.heap.size W w' := fun W h => by rw [hA]; exact sum_any a (by omega) W
  have s2 : ∀ W : World, a.length ≤ 2000 → Calls Try.prog 25 #[.string (txt a)] W fun e w' => e = .returned (.agg (idVals A)) ∧ Below W.heap.size W w' := fun W h => by rw [hA]; exact rsum_any a (by omega) W
  have HS1 := hid s1
  have HS2 := hid s2
  have hAl : A.length = 32 := by rw [hA]; exact sumB_length _
  have heq := fun W => (ids_eq W A A hAl hAl).trans (by rw [decide_eq_true rfl])
  clear s1 s2 hA hAl
  by_cases hl : a.length ≤ 2000
  · have HL := hid hl
    have l1 : ¬ (2000 : Int) < a.length := by omega
    clear hl
    go_enter Try.func6, Try.ntmps6
    go_wp2_with (first
      | (go_at_call 24; (with_reducible refine (HS1.out _ HL.out).mono ?_); rintro e1 w1 ⟨rfl, hb1⟩)
      | (go_at_call 25; (with_reducible refine (HS2.out _ HL.out).mono ?_); rintro e2 w2 ⟨rfl, hb2⟩)
      | (go_at_call 23; (with_reducible refine (awake2_any _).mono ?_); rintro e3 w3 ⟨rfl, hb3⟩))
    go_ret
    have hB := hb1.trans (hb2.mono hb1.size)
    exact ⟨rfl, hB.trans (hb3.mono hB.size)⟩
  · have l1 : (2000 : Int) < a.length := by omega
    go_enter Try.func6, Try.ntmps6
    go_wp2_with (first
      | (go_at_call 23; (with_reducible refine (awake2_any _).mono ?_); rintro e3 w3 ⟨rfl, hb3⟩))
    go_ret
    exact ⟨rfl, hb3⟩

set_option linter.unusedVariables false in
theorem law_ShaSums (w : World) (a0 : ByteArray) (w0 : a0.size ≤ maxLen) :
    Calls Try.prog 6 #[.string a0] w fun e w' => e = .returned (.bool true) ∧ Below w.heap.size w w' := by
  exact shaSums_any a0.data.toList w

open Go.ChangeShapes Go.WideShapes Go.ChangeAt
open Go.ChangeMaps (open_string shut_string)
theorem own_ShaSums : ownKnob Try.prog.godebug = none := by kernel_rfl
theorem laidOut_ShaSums : laidOutB Try.prog = true := by kernel_rfl
set_option linter.unusedVariables false in
set_option maxRecDepth 100000 in
theorem lifted_ShaSums (os : Os) (started : os.Started) (H : Type) (enc : TypeId × Value → H) :
    ReturnsInHanded {} Try.checked os 6 .any (Rows.shaSumsSpec.pre6 enc Try.prog Try.f6 Rows.shaSumsRow.domain false) (Rows.shaSumsSpec.post enc Try.prog Try.f6 false true false false) := by
  refine returnsInHanded_of_change (C := Try.checked) own_ShaSums started (by kernel_rfl) Try.func6
    (ChangeSpec.witness6 (enc := enc) (C := Try.checked) false ⟨#[], #[.string ByteArray.empty], []⟩ 8 (by kernel_rfl) (by kernel_rfl) (by kernel_rfl) (by kernel_rfl)) ?_
  intro W base args ds gs before hval0 hW hcnd _
  have hval : ∀ (j : Nat) t v, Try.f6.params[j]? = some t → args[j]? = some v → Value.okWide Try.prog W .any base t v := hval0
  have hW' := hW
  obtain ⟨p, q, hA0, hV, rfl, hfz, hnd⟩ := hW
  have hA1 : DataW.TrodAll enc Try.prog W 0 (fun _ => true) true Try.f6.params.toList args.toList ds p := hA0
  have hA : DataW.TrodAll enc Try.prog W 0 (fun _ => true) true Try.f6.params.toList args.toList ds p := hA0
  rw [Try.params6] at hA hval
  obtain ⟨v0, vs0, d0, ds0, p0, q0, hargs, rfl, rfl, h0, r0⟩ := trodAll_cons hA
  obtain ⟨rfl, rfl, rfl⟩ := trodAll_nil r0
  obtain rfl : args = #[v0] := by cases args; simp_all
  obtain ⟨rfl, rfl⟩ := trodVars_none hV
  obtain ⟨a0, rfl, rfl, rfl, w0⟩ := open_string Try.underlying9 (hval 0 9 v0 rfl rfl) h0
  clear hA0 hval0
  refine (law_ShaSums W a0 w0).mono fun e W' ⟨he, bel⟩ => ?_
  subst he
  exact ⟨_, rfl, _, _, _, [], _, [], hW', trodAll_mk1 (shut_bool Try.underlying4 _), trodAll_stays laidOut_ShaSums bel (by kernel_rfl) hA1, rfl, bel.frame _, fun h => by cases h⟩

/-- The statement. -/
theorem ShaSums_holds : Rows.ShaSumsSaid :=
  OpenClaim.holds_of_wide 6 Try.f6 rfl rfl rfl rfl rfl rfl rfl ⟨rfl, rfl, rfl, rfl, rfl⟩ rfl rfl rfl rfl rfl (by kernel_rfl) Try.func6 (by kernel_rfl)
    (of_decide_eq_true (by kernel_rfl)) (by unfold Func.isWrapper; first | (rw [if_pos (by decide +kernel)]; kernel_rfl) | (rw [if_neg (by decide +kernel)]; exact ⟨rfl, rfl⟩))
    (fun os started H enc _ => lifted_ShaSums os started H enc)
#print axioms ShaSums_holds
end Go.Proofs.Ytilcijknkneicaa


/- Proved: for any two rows of ids, changed or not, and any count quitclaimlaw23.ReconLacks returns true and leaves its arguments as they were. No conditions. -/
import Derived.Test.YtkajfpincbkfhaaRl8
set_option linter.unusedSimpArgs false
set_option linter.unusedVariables false
namespace Go.Proofs.Ytkajfpincbkfhaa
open Go.RowKit Go.Qc Go.Shelf
theorem open_capL {H : Type} {enc : TypeId × Value → H} {P : Program} {w : World} {base : Nat} {sp : Nat → Bool} {hd : Bool} {t e : TypeId} {a : Option Addr} {len cap : Nat} {d : DataW H} {ps : List MemPlace} (ht : P.underlying t = some (.slice e))
    (h : DataW.Trod enc P w base sp hd t (.slice a len cap) d ps) : (a = none ∧ len = 0 ∧ cap = 0) ∨ ((∃ x, a = some x) ∧ len ≤ cap ∧ cap ≤ maxLen) := by
  obtain ⟨fuel, hf⟩ := h
  cases fuel with
  | zero => simp [DataW.trod] at hf
  | succ m =>
    rw [DataW.trod_step] at hf
    unfold DataW.trodStep at hf
    simp only [ht, Value.cells] at hf
    cases a with
    | none =>
      left
      rcases len with _ | len <;> rcases cap with _ | cap <;> first | exact ⟨rfl, rfl, rfl⟩ | (simp at hf)
    | some a =>
      right
      dsimp only at hf
      split at hf
      · rename_i hcond
        exact ⟨⟨a, rfl⟩, hcond.2.1, hcond.2.2⟩
      · cases hf
theorem law_ReconLacks (w : World) (a0 : Option Addr) (l0 c0 : Nat) (z0 : List (List UInt8)) (w0 : IdRow w a0 l0 z0) (a1 : Option Addr) (l1 c1 : Nat) (z1 : List (List UInt8)) (w1 : IdRow w a1 l1 z1) (a2 : Bool) (a3 : Int) (w3 : (Lit.int .i64 a3).wf = true) (x0 : (a0 = none ∧ l0 = 0 ∧ c0 = 0) ∨ ((∃ x, a0 = some x) ∧ l0 ≤ c0 ∧ c0 ≤ maxLen)) (x1 : (a1 = none ∧ l1 = 0 ∧ c1 = 0) ∨ ((∃ x, a1 = some x) ∧ l1 ≤ c1 ∧ c1 ≤ maxLen)) :
    Calls Try.prog 7 #[.slice a0 l0 c0, .slice a1 l1 c1, .bool a2, .int .i64 a3] w fun e w' => e = .returned (.bool true) ∧ Below w.heap.size w w' := by
  by_cases h : 8 < l0 ∨ 8 < l1
  · exact rl_far a0 a1 l0 c0 l1 c1 a2 a3 w h
  · have h0 : l0 ≤ 8 := by omega
    have h1 : l1 ≤ 8 := by omega
    have r0 : RowC w a0 l0 c0 z0 := ⟨⟨w0.1, by omega, w0.2.2⟩, x0⟩
    have r1 : RowC w a1 l1 c1 z1 := ⟨⟨w1.1, by omega, w1.2.2⟩, x1⟩
    by_cases hs : Steps z0 l0
    · cases a2
      · exact rl_inf a0 a1 l0 c0 l1 c1 z0 z1 a3 w h0 h1 r0 r1 hs
      · exact rl_int a0 a1 l0 c0 l1 c1 z0 z1 a3 w h0 h1 r0 r1 hs
    · exact rl_order a0 a1 l0 c0 l1 c1 z0 a2 a3 w h0 h1 r0 hs
open Go.ChangeShapes Go.WideShapes Go.ChangeAt
open Go.ChangeMaps (open_string shut_string)
theorem own_ReconLacks : ownKnob Try.prog.godebug = none := by kernel_rfl
theorem laidOut_ReconLacks : laidOutB Try.prog = true := by kernel_rfl
set_option linter.unusedVariables false in
set_option maxRecDepth 100000 in
theorem lifted_ReconLacks (os : Os) (started : os.Started) (H : Type) (enc : TypeId × Value → H) :
    ReturnsInHanded {} Try.checked os 7 .any (Rows.reconLacksSpec.pre6 enc Try.prog Try.f7 Rows.reconLacksRow.domain false) (Rows.reconLacksSpec.post enc Try.prog Try.f7 false true false false) := by
  refine returnsInHanded_of_change (C := Try.checked) own_ReconLacks started (by kernel_rfl) Try.func7
    (ChangeSpec.witness6 (enc := enc) (C := Try.checked) false ⟨#[], #[.slice none 0 0, .slice none 0 0, .bool false, .int .i64 0], []⟩ 8 (by kernel_rfl) (by kernel_rfl) (by kernel_rfl) (by kernel_rfl)) ?_
  intro W base args ds gs before hval0 hW hcnd _
  have hval : ∀ (j : Nat) t v, Try.f7.params[j]? = some t → args[j]? = some v → Value.okWide Try.prog W .any base t v := hval0
  have hW' := hW
  obtain ⟨p, q, hA0, hV, rfl, hfz, hnd⟩ := hW
  have hA1 : DataW.TrodAll enc Try.prog W 0 (fun _ => true) true Try.f7.params.toList args.toList ds p := hA0
  have hA : DataW.TrodAll enc Try.prog W 0 (fun _ => true) true Try.f7.params.toList args.toList ds p := hA0
  rw [Try.params7] at hA hval
  obtain ⟨v0, vs0, d0, ds0, p0, q0, hargs, rfl, rfl, h0, r0⟩ := trodAll_cons hA
  obtain ⟨v1, vs1, d1, ds1, p1, q1, rfl, rfl, rfl, h1, r1⟩ := trodAll_cons r0
  obtain ⟨v2, vs2, d2, ds2, p2, q2, rfl, rfl, rfl, h2, r2⟩ := trodAll_cons r1
  obtain ⟨v3, vs3, d3, ds3, p3, q3, rfl, rfl, rfl, h3, r3⟩ := trodAll_cons r2
  obtain ⟨rfl, rfl, rfl⟩ := trodAll_nil r3
  obtain rfl : args = #[v0, v1, v2, v3] := by cases args; simp_all
  obtain ⟨rfl, rfl⟩ := trodVars_none hV
  obtain ⟨a0, l0, c0, z0, rfl, w0⟩ := open_idRow Try.underlying22 Try.underlying24 Try.underlying5 (by kernel_rfl) (by kernel_rfl) (hval 0 22 v0 rfl rfl) h0
  obtain ⟨a1, l1, c1, z1, rfl, w1⟩ := open_idRow Try.underlying22 Try.underlying24 Try.underlying5 (by kernel_rfl) (by kernel_rfl) (hval 1 22 v1 rfl rfl) h1
  obtain ⟨a2, rfl, rfl, rfl⟩ := open_bool Try.underlying4 (hval 2 4 v2 rfl rfl) h2
  obtain ⟨a3, rfl, rfl, rfl, w3⟩ := open_int Try.underlying3 (hval 3 3 v3 rfl rfl) h3
  have x0 := open_capL Try.underlying22 h0
  have x1 := open_capL Try.underlying22 h1
  clear hA0 hval0
  refine (law_ReconLacks W a0 l0 c0 z0 w0 a1 l1 c1 z1 w1 a2 a3 w3 x0 x1).mono fun e W' ⟨he, bel⟩ => ?_
  subst he
  exact ⟨_, rfl, _, _, _, [], _, [], hW', trodAll_mk1 (shut_bool Try.underlying4 _), trodAll_stays laidOut_ReconLacks bel (by kernel_rfl) hA1, rfl, bel.frame _, fun h => by cases h⟩

/-- The statement. -/
theorem ReconLacks_holds : Rows.ReconLacksSaid :=
  OpenClaim.holds_of_wide 7 Try.f7 rfl rfl rfl rfl rfl rfl rfl ⟨rfl, rfl, rfl, rfl, rfl⟩ rfl rfl rfl rfl rfl (by kernel_rfl) Try.func7 (by kernel_rfl)
    (of_decide_eq_true (by kernel_rfl)) (by unfold Func.isWrapper; first | (rw [if_pos (by decide +kernel)]; kernel_rfl) | (rw [if_neg (by decide +kernel)]; exact ⟨rfl, rfl⟩))
    (fun os started H enc _ => lifted_ReconLacks os started H enc)
#print axioms ReconLacks_holds
end Go.Proofs.Ytkajfpincbkfhaa

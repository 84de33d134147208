/- Proved: for every count and byte, quitclaimlaw02.ShaEdges returns true and leaves its arguments as they were. No conditions. -/
import Derived.Test.YtilcijknkneicaaSha10
import Derived.Test.YtilcijknkneicaaSha11
namespace Go.Proofs.Ytilcijknkneicaa
open Go.RowKit Go.Qc
attribute [local go_sem] txt_size txt_append

theorem txt_empty : (⟨#[]⟩ : ByteArray) = txt [] := rfl
theorem shaEdges_any (n : Nat) (b : UInt8) (hn : n < 256) (w : World) :
    Calls Try.prog 8 #[.int .u8 (n : Int), .int .u8 (ib b)] w fun e w' => e = .returned (.bool true) ∧ Below w.heap.size w w' := by
  obtain ⟨m, hm⟩ : ∃ m : Nat, (n : Int) % 140 = m := ⟨n % 140, by omega⟩
  have hm1 : m < 140 := by omega
  go_enter Try.func8, Try.ntmps8
  have HM := hid hm
  clear hm
  go_wp2
  go_loopw [5, 9] (fun v i wr => ∃ (k : Nat) (o : List UInt8), k ≤ m ∧ o.length = k ∧ v = .string (txt o) ∧ i = .int .i64 (k : Int) ∧ Below w.heap.size w wr) (fun _ i _ => m - (intOf i).toNat)
  case atStart => exact ⟨0, [], by omega, rfl, rfl, rfl, Below.refl _ _⟩
  case round =>
    obtain ⟨k, o, hk, hol, rfl, rfl, hb⟩ := hrel
    by_cases hlt : k < m
    · have hconv := run_txt (P := Try.prog) (wr.alloc (.cells #[.int .u8 (ib b)] 5)) 54 9 5 (some ⟨wr.heap.size, 0, none⟩) 1 1 [b] Try.underlying54 Try.underlying5 Try.underlying9 rfl
        (Rd.blk (cs := #[.int .u8 (ib b)]) (Blk.new wr 5 #[.int .u8 (ib b)]) (fun j u hu => by
          match j, hu with
          | 0, hu => exact hu
          | j + 1, hu => simp at hu))
      have z2 : ¬ 9223372036854775807 < (txt o).size + (txt [b]).size := by rw [txt_size, txt_size]; simp; omega
      have l1 : (k : Int) < (n : Int) % 140 := by rw [HM.out]; omega
      have HO := hid hol
      clear hol
      go_wp2
      go_roundw
      case rel => exact ⟨k + 1, _, hlt, by rw [List.length_append, HO.out]; rfl, rfl, by go_num, hb.alloc hb.size _⟩
      case measure => simp [intOf]; omega
    · have l1 : ¬ (k : Int) < (n : Int) % 140 := by rw [HM.out]; omega
      have ho : o.length ≤ 1000000000000 := by omega
      obtain ⟨A, hA⟩ : ∃ A, A = sumB o := ⟨_, rfl⟩
      have s1 : ∀ W : World, Calls Try.prog 24 #[.string (txt o)] W fun e w' => e = .returned (.agg (idVals A)) ∧ Below W.heap.size W w' := fun W => by rw [hA]; exact sum_any o ho W
      have s2 : ∀ W : World, Calls Try.prog 25 #[.string (txt o)] W fun e w' => e = .returned (.agg (idVals A)) ∧ Below W.heap.size W w' := fun W => by rw [hA]; exact rsum_any o ho W
      have HS1 := hid s1
      have HS2 := hid s2
      have hAl : A.length = 32 := by rw [hA]; exact sumB_length _
      have heq := fun W => (ids_eq W A A hAl hAl).trans (by rw [decide_eq_true rfl])
      clear s1 s2 hA hAl ho hol
      go_wp2_with (first
        | (go_at_call 24; (with_reducible refine (HS1.out _).mono ?_); rintro e1 w1 ⟨rfl, hb1⟩)
        | (go_at_call 25; (with_reducible refine (HS2.out _).mono ?_); rintro e2 w2 ⟨rfl, hb2⟩)
        | (go_at_call 23; (with_reducible refine (awake2_any _).mono ?_); rintro e3 w3 ⟨rfl, hb3⟩))
      go_ret
      have hB1 := hb.trans (hb1.mono hb.size)
      have hB := hB1.trans (hb2.mono hB1.size)
      exact ⟨rfl, hB.trans (hb3.mono hB.size)⟩

set_option linter.unusedVariables false in
theorem law_ShaEdges (w : World) (a0 : Int) (w0 : (Lit.int .u8 a0).wf = true) (a1 : Int) (w1 : (Lit.int .u8 a1).wf = true) :
    Calls Try.prog 8 #[.int .u8 a0, .int .u8 a1] w fun e w' => e = .returned (.bool true) ∧ Below w.heap.size w w' := by
  have h0 := bounds_u8 w0
  have h1 := bounds_u8 w1
  obtain ⟨n, rfl⟩ : ∃ n : Nat, a0 = n := ⟨a0.toNat, by omega⟩
  obtain ⟨b, rfl⟩ := ib_ex a1 h1.1 (by omega)
  exact shaEdges_any n b (by omega) w


open Go.ChangeShapes Go.WideShapes Go.ChangeAt
open Go.ChangeMaps (open_string shut_string)
theorem own_ShaEdges : ownKnob Try.prog.godebug = none := by kernel_rfl
theorem laidOut_ShaEdges : laidOutB Try.prog = true := by kernel_rfl
set_option linter.unusedVariables false in
set_option maxRecDepth 100000 in
theorem lifted_ShaEdges (os : Os) (started : os.Started) (H : Type) (enc : TypeId × Value → H) :
    ReturnsInHanded {} Try.checked os 8 .any (Rows.shaEdgesSpec.pre6 enc Try.prog Try.f8 Rows.shaEdgesRow.domain false) (Rows.shaEdgesSpec.post enc Try.prog Try.f8 false true false false) := by
  refine returnsInHanded_of_change (C := Try.checked) own_ShaEdges started (by kernel_rfl) Try.func8
    (ChangeSpec.witness6 (enc := enc) (C := Try.checked) false ⟨#[], #[.int .u8 0, .int .u8 0], []⟩ 8 (by kernel_rfl) (by kernel_rfl) (by kernel_rfl) (by kernel_rfl)) ?_
  intro W base args ds gs before hval0 hW hcnd _
  have hval : ∀ (j : Nat) t v, Try.f8.params[j]? = some t → args[j]? = some v → Value.okWide Try.prog W .any base t v := hval0
  have hW' := hW
  obtain ⟨p, q, hA0, hV, rfl, hfz, hnd⟩ := hW
  have hA1 : DataW.TrodAll enc Try.prog W 0 (fun _ => true) true Try.f8.params.toList args.toList ds p := hA0
  have hA : DataW.TrodAll enc Try.prog W 0 (fun _ => true) true Try.f8.params.toList args.toList ds p := hA0
  rw [Try.params8] at hA hval
  obtain ⟨v0, vs0, d0, ds0, p0, q0, hargs, rfl, rfl, h0, r0⟩ := trodAll_cons hA
  obtain ⟨v1, vs1, d1, ds1, p1, q1, rfl, rfl, rfl, h1, r1⟩ := trodAll_cons r0
  obtain ⟨rfl, rfl, rfl⟩ := trodAll_nil r1
  obtain rfl : args = #[v0, v1] := by cases args; simp_all
  obtain ⟨rfl, rfl⟩ := trodVars_none hV
  obtain ⟨a0, rfl, rfl, rfl, w0⟩ := open_int Try.underlying5 (hval 0 5 v0 rfl rfl) h0
  obtain ⟨a1, rfl, rfl, rfl, w1⟩ := open_int Try.underlying5 (hval 1 5 v1 rfl rfl) h1
  clear hA0 hval0
  refine (law_ShaEdges W a0 w0 a1 w1).mono fun e W' ⟨he, bel⟩ => ?_
  subst he
  exact ⟨_, rfl, _, _, _, [], _, [], hW', trodAll_mk1 (shut_bool Try.underlying4 _), trodAll_stays laidOut_ShaEdges bel (by kernel_rfl) hA1, rfl, bel.frame _, fun h => by cases h⟩

/-- The statement. -/
theorem ShaEdges_holds : Rows.ShaEdgesSaid :=
  OpenClaim.holds_of_wide 8 Try.f8 rfl rfl rfl rfl rfl rfl rfl ⟨rfl, rfl, rfl, rfl, rfl⟩ rfl rfl rfl rfl rfl (by kernel_rfl) Try.func8 (by kernel_rfl)
    (of_decide_eq_true (by kernel_rfl)) (by unfold Func.isWrapper; first | (rw [if_pos (by decide +kernel)]; kernel_rfl) | (rw [if_neg (by decide +kernel)]; exact ⟨rfl, rfl⟩))
    (fun os started H enc _ => lifted_ShaEdges os started H enc)
#print axioms ShaEdges_holds
end Go.Proofs.Ytilcijknkneicaa

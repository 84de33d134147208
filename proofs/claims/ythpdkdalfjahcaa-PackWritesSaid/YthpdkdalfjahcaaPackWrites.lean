
/- Proved: for every byte, number, text, id, truth, row of ids, and row of texts quitclaimlaw05.PackWrites returns true and leaves its arguments as they were. No conditions. -/
import Derived.Test.YthpdkdalfjahcaaPwA
set_option linter.unusedVariables false
namespace Go.Proofs.Ythpdkdalfjahcaa
open Go.RowKit Go.Qc Go.Shelf

set_option linter.unusedVariables false in
theorem law_PackWrites (w : World) (a0 : Int) (w0 : (Lit.int .u8 a0).wf = true) (a1 : Int) (w1 : (Lit.int .i64 a1).wf = true) (a2 : ByteArray) (w2 : a2.size ≤ maxLen) (a3 : List UInt8) (w3 : a3.length = 32) (a4 : Bool) (a5 : Option Addr) (l5 c5 : Nat) (z5 : List (List UInt8)) (w5 : IdRow w a5 l5 z5) (a6 : Option Addr) (l6 c6 : Nat) (z6 : List ByteArray) (w6 : StrRow w a6 l6 z6) :
    Calls Try.prog 4 #[.int .u8 a0, .int .i64 a1, .string a2, .agg (idVals a3), .bool a4, .slice a5 l5 c5, .slice a6 l6 c6] w fun e w' => e = .returned (.bool true) ∧ Below w.heap.size w w' := by
  obtain ⟨x, rfl⟩ : ∃ x : UInt8, a0 = ib x := by
    have hb : (0 : Int) ≤ a0 ∧ a0 ≤ 255 := by
      simp only [Lit.wf, Bool.and_eq_true, decide_eq_true_eq] at w0
      exact ⟨w0.1, w0.2⟩
    exact ib_ex a0 hb.1 (by omega)
  obtain ⟨q1, q2, q3⟩ := w5
  obtain ⟨r1, r2, r3, _⟩ := w6
  by_cases h0 : a2.data.toList.length ≤ 300
  · by_cases h1 : l5 ≤ 20
    · by_cases h2 : l6 ≤ 20
      · have hl : RowR w a5 l5 z5 := ⟨q1, by omega, q3⟩
        have hm : (z6.map fun s => s.data.toList).length = l6 := by rw [List.length_map]; exact r1
        have hmr : Rd w a6 ((z6.map fun s => s.data.toList).map strV) := by rw [List.map_map]; exact r3
        by_cases hv : 0 ≤ a1 ∧ a1 ≤ 4611686018427387904
        · obtain ⟨y, rfl⟩ : ∃ y : Nat, a1 = (y : Int) := ⟨a1.toNat, by omega⟩
          have hy : y ≤ 4611686018427387904 := by omega
          exact pw_mid x y a2.data.toList a3 w3 a4 a5 l5 c5 z5 a6 l6 c6 (z6.map fun s => s.data.toList) h0 h1 h2 w hl hm hmr (numE y) (numE_len9 y hy) true
            (fun b L hL W hW => pkWNum_any b L y hy (by omega) W hW) (.inl ⟨rfl, hv.1, hv.2⟩) (fun h => by cases h) (fun _ => ⟨y, rfl, rfl, hy⟩) (fun _ W => rPkNum_any y hy W)
        · exact pw_mid x a1 a2.data.toList a3 w3 a4 a5 l5 c5 z5 a6 l6 c6 (z6.map fun s => s.data.toList) h0 h1 h2 w hl hm hmr [] (by decide) false
            (fun b L hL W hW => (pkWNum_no b a1 (by omega) W).mono (by rintro o w' ⟨h3, rfl⟩; exact ⟨h3, by rw [List.append_nil]; exact hW, Below.refl _ _⟩))
            (by by_cases h3 : 0 ≤ a1
                · exact .inr (.inr ⟨rfl, h3, fun h4 => hv ⟨h3, h4⟩⟩)
                · exact .inr (.inl ⟨rfl, h3⟩)) (fun _ => rfl) (fun h => by cases h) (fun h => by cases h)
      · exact pw_long3 x a1 a2.data.toList a3 w3 a4 a5 l5 c5 z5 a6 l6 c6 (z6.map fun s => s.data.toList) h0 h1 (by omega) w
    · exact pw_long2 x a1 a2.data.toList a3 w3 a4 a5 l5 c5 z5 a6 l6 c6 (z6.map fun s => s.data.toList) h0 (by omega) w
  · exact pw_long1 x a1 a2.data.toList a3 w3 a4 a5 l5 c5 z5 a6 l6 c6 (z6.map fun s => s.data.toList) (by omega) w

open Go.ChangeShapes Go.WideShapes Go.ChangeAt
open Go.ChangeMaps (open_string shut_string)
theorem own_PackWrites : ownKnob Try.prog.godebug = none := by kernel_rfl
theorem laidOut_PackWrites : laidOutB Try.prog = true := by kernel_rfl
set_option linter.unusedVariables false in
set_option maxRecDepth 100000 in
theorem lifted_PackWrites (os : Os) (started : os.Started) (H : Type) (enc : TypeId × Value → H) :
    ReturnsInHanded {} Try.checked os 4 .any (Rows.packWritesSpec.pre6 enc Try.prog Try.f4 Rows.packWritesRow.domain false) (Rows.packWritesSpec.post enc Try.prog Try.f4 false true false false) := by
  refine returnsInHanded_of_change (C := Try.checked) own_PackWrites started (by kernel_rfl) Try.func4
    (ChangeSpec.witness6 (enc := enc) (C := Try.checked) false ⟨#[], #[.int .u8 0, .int .i64 0, .string ByteArray.empty, .agg #[.int .u8 0, .int .u8 0, .int .u8 0, .int .u8 0, .int .u8 0, .int .u8 0, .int .u8 0, .int .u8 0, .int .u8 0, .int .u8 0, .int .u8 0, .int .u8 0, .int .u8 0, .int .u8 0, .int .u8 0, .int .u8 0, .int .u8 0, .int .u8 0, .int .u8 0, .int .u8 0, .int .u8 0, .int .u8 0, .int .u8 0, .int .u8 0, .int .u8 0, .int .u8 0, .int .u8 0, .int .u8 0, .int .u8 0, .int .u8 0, .int .u8 0, .int .u8 0], .bool false, .slice none 0 0, .slice none 0 0], []⟩ 8 (by kernel_rfl) (by kernel_rfl) (by kernel_rfl) (by kernel_rfl)) ?_
  intro W base args ds gs before hval0 hW hcnd _
  have hval : ∀ (j : Nat) t v, Try.f4.params[j]? = some t → args[j]? = some v → Value.okWide Try.prog W .any base t v := hval0
  have hW' := hW
  obtain ⟨p, q, hA0, hV, rfl, hfz, hnd⟩ := hW
  have hA1 : DataW.TrodAll enc Try.prog W 0 (fun _ => true) true Try.f4.params.toList args.toList ds p := hA0
  have hA : DataW.TrodAll enc Try.prog W 0 (fun _ => true) true Try.f4.params.toList args.toList ds p := hA0
  rw [Try.params4] at hA hval
  obtain ⟨v0, vs0, d0, ds0, p0, q0, hargs, rfl, rfl, h0, r0⟩ := trodAll_cons hA
  obtain ⟨v1, vs1, d1, ds1, p1, q1, rfl, rfl, rfl, h1, r1⟩ := trodAll_cons r0
  obtain ⟨v2, vs2, d2, ds2, p2, q2, rfl, rfl, rfl, h2, r2⟩ := trodAll_cons r1
  obtain ⟨v3, vs3, d3, ds3, p3, q3, rfl, rfl, rfl, h3, r3⟩ := trodAll_cons r2
  obtain ⟨v4, vs4, d4, ds4, p4, q4, rfl, rfl, rfl, h4, r4⟩ := trodAll_cons r3
  obtain ⟨v5, vs5, d5, ds5, p5, q5, rfl, rfl, rfl, h5, r5⟩ := trodAll_cons r4
  obtain ⟨v6, vs6, d6, ds6, p6, q6, rfl, rfl, rfl, h6, r6⟩ := trodAll_cons r5
  obtain ⟨rfl, rfl, rfl⟩ := trodAll_nil r6
  obtain rfl : args = #[v0, v1, v2, v3, v4, v5, v6] := by cases args; simp_all
  obtain ⟨rfl, rfl⟩ := trodVars_none hV
  obtain ⟨a0, rfl, rfl, rfl, w0⟩ := open_int Try.underlying5 (hval 0 5 v0 rfl rfl) h0
  obtain ⟨a1, rfl, rfl, rfl, w1⟩ := open_int Try.underlying3 (hval 1 3 v1 rfl rfl) h1
  obtain ⟨a2, rfl, rfl, rfl, w2⟩ := open_string Try.underlying9 (hval 2 9 v2 rfl rfl) h2
  obtain ⟨a3, w3, rfl⟩ := open_id Try.underlying24 Try.underlying5 (by kernel_rfl) (by kernel_rfl) (hval 3 24 v3 rfl rfl) h3
  obtain ⟨a4, rfl, rfl, rfl⟩ := open_bool Try.underlying4 (hval 4 4 v4 rfl rfl) h4
  obtain ⟨a5, l5, c5, z5, rfl, w5⟩ := open_idRow Try.underlying22 Try.underlying24 Try.underlying5 (by kernel_rfl) (by kernel_rfl) (hval 5 22 v5 rfl rfl) h5
  obtain ⟨a6, l6, c6, z6, rfl, w6⟩ := open_strRow Try.underlying32 Try.underlying9 (by kernel_rfl) (hval 6 32 v6 rfl rfl) h6
  clear hA0 hval0
  refine (law_PackWrites W a0 w0 a1 w1 a2 w2 a3 w3 a4 a5 l5 c5 z5 w5 a6 l6 c6 z6 w6).mono fun e W' ⟨he, bel⟩ => ?_
  subst he
  exact ⟨_, rfl, _, _, _, [], _, [], hW', trodAll_mk1 (shut_bool Try.underlying4 _), trodAll_stays laidOut_PackWrites bel (by kernel_rfl) hA1, rfl, bel.frame _, fun h => by cases h⟩

/-- The statement. -/
theorem PackWrites_holds : Rows.PackWritesSaid :=
  OpenClaim.holds_of_wide 4 Try.f4 rfl rfl rfl rfl rfl rfl rfl ⟨rfl, rfl, rfl, rfl, rfl⟩ rfl rfl rfl rfl rfl (by kernel_rfl) Try.func4 (by kernel_rfl)
    (of_decide_eq_true (by kernel_rfl)) (by unfold Func.isWrapper; first | (rw [if_pos (by decide +kernel)]; kernel_rfl) | (rw [if_neg (by decide +kernel)]; exact ⟨rfl, rfl⟩))
    (fun os started H enc _ => lifted_PackWrites os started H enc)
#print axioms PackWrites_holds
end Go.Proofs.Ythpdkdalfjahcaa

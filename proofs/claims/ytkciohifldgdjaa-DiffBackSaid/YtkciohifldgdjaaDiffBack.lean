
/- Proved: for any old lines and any new lines quitclaimlaw12.DiffBack returns true and leaves its arguments as they were. No conditions. -/
import Derived.Test.YtkciohifldgdjaaDf8
import Derived.Test.YtkciohifldgdjaaHk9
set_option linter.unusedSimpArgs false
set_option linter.unusedVariables false
namespace Go.Proofs.Ytkciohifldgdjaa
open Go.RowKit Go.Qc Go.Shelf
attribute [local go_sem] txt_size txt_append ib_fold txt_toL


set_option maxRecDepth 100000 in
set_option maxHeartbeats 4000000 in
theorem diffBack_long (A : Option Addr) (n c : Nat) (x : List (List UInt8)) (B : Option Addr) (m d : Nat) (y : List (List UInt8)) (w : World) (ha : LnRow w A n c x) (hb : LnRow w B m d y) (hl : (longD x || longD y) = true) :
    Calls Try.prog 5 #[.slice A n c, .slice B m d] w fun e w' => e = .returned (.bool true) ∧ Below w.heap.size w w' := by
  have cL := long12_two A n c x B m d y w ha hb
  rw [hl] at cL
  clear ha hb hl
  go_enter Try.func5, Try.ntmps5
  go_wp2_with (fail)
  refine cL.mono ?_
  rintro e1 w1 ⟨rfl, hb1⟩
  go_wp2_with (fail)
  have hX := hb1
  refine (awake12_any _).mono ?_
  rintro e9 w9 ⟨rfl, hb9⟩
  go_wp2_with (fail)
  go_ret
  exact ⟨rfl, hX.trans (hb9.mono hX.size)⟩

set_option maxRecDepth 100000 in
set_option maxHeartbeats 4000000 in
theorem diffBack_left (A : Option Addr) (n c : Nat) (x : List (List UInt8)) (B : Option Addr) (m d : Nat) (y : List (List UInt8)) (w : World) (ha : LnRow w A n c x) (hb : LnRow w B m d y) (hl : (longD x || longD y) = false) (hx : linesR x = false) :
    Calls Try.prog 5 #[.slice A n c, .slice B m d] w fun e w' => e = .returned (.bool true) ∧ Below w.heap.size w w' := by
  have cL := long12_two A n c x B m d y w ha hb
  rw [hl] at cL
  rw [Bool.or_eq_false_iff] at hl
  have q1 := longD_no hl.1
  have cX := hid (fun W (h : Below w.heap.size w W) => rlines_any A n c x ha.1 (by have := ha.1; omega) (fun z hz => by have := q1.2 z hz; omega) W (ha.2.2.2.2.1.below h))
  rw [hx] at cX
  clear ha hb hl hx q1
  go_enter Try.func5, Try.ntmps5
  go_wp2_with (fail)
  refine cL.mono ?_
  rintro e1 w1 ⟨rfl, hb1⟩
  go_wp2_with (fail)
  refine (cX.out w1 hb1).mono ?_
  rintro _ _ ⟨rfl, rfl⟩
  go_wp2_with (fail)
  have hX := hb1
  refine (awake12_any _).mono ?_
  rintro e9 w9 ⟨rfl, hb9⟩
  go_wp2_with (fail)
  go_ret
  exact ⟨rfl, hX.trans (hb9.mono hX.size)⟩

set_option maxRecDepth 100000 in
set_option maxHeartbeats 4000000 in
theorem diffBack_right (A : Option Addr) (n c : Nat) (x : List (List UInt8)) (B : Option Addr) (m d : Nat) (y : List (List UInt8)) (w : World) (ha : LnRow w A n c x) (hb : LnRow w B m d y) (hl : (longD x || longD y) = false) (hx : linesR x = true) (hy : linesR y = false) :
    Calls Try.prog 5 #[.slice A n c, .slice B m d] w fun e w' => e = .returned (.bool true) ∧ Below w.heap.size w w' := by
  have cL := long12_two A n c x B m d y w ha hb
  rw [hl] at cL
  rw [Bool.or_eq_false_iff] at hl
  have q1 := longD_no hl.1
  have q2 := longD_no hl.2
  have cX := hid (fun W (h : Below w.heap.size w W) => rlines_any A n c x ha.1 (by have := ha.1; omega) (fun z hz => by have := q1.2 z hz; omega) W (ha.2.2.2.2.1.below h))
  have cY := hid (fun W (h : Below w.heap.size w W) => rlines_any B m d y hb.1 (by have := hb.1; omega) (fun z hz => by have := q2.2 z hz; omega) W (hb.2.2.2.2.1.below h))
  rw [hx] at cX
  rw [hy] at cY
  clear ha hb hl hx hy q1 q2
  go_enter Try.func5, Try.ntmps5
  go_wp2_with (fail)
  refine cL.mono ?_
  rintro e1 w1 ⟨rfl, hb1⟩
  go_wp2_with (fail)
  refine (cX.out w1 hb1).mono ?_
  rintro _ _ ⟨rfl, rfl⟩
  go_wp2_with (fail)
  refine (cY.out _ hb1).mono ?_
  rintro _ _ ⟨rfl, rfl⟩
  go_wp2_with (fail)
  have hX := hb1
  refine (awake12_any _).mono ?_
  rintro e9 w9 ⟨rfl, hb9⟩
  go_wp2_with (fail)
  go_ret
  exact ⟨rfl, hX.trans (hb9.mono hX.size)⟩

theorem flu_len (a : Nat) (D E : List (List UInt8)) : (flu a D E).length ≤ 1 := by unfold flu; split <;> simp
theorem dfG_len : ∀ (x y : List (List UInt8)) (at' j : Nat) (D A : List (List UInt8)), (dfG x y at' j D A).length ≤ x.length + y.length + 1
  | [], [], at', j, D, A => by rw [dfG]; have := flu_len at' D A; simp only [List.length_nil]; omega
  | a :: x, [], at', j, D, A => by
    rw [dfG]
    have := dfG_len x [] at' j (D ++ [a]) A
    simp only [List.length_cons, List.length_nil] at *
    omega
  | [], b :: y, at', j, D, A => by
    rw [dfG]
    have := dfG_len [] y at' (j + 1) D (A ++ [b])
    simp only [List.length_cons, List.length_nil] at *
    omega
  | a :: x, b :: y, at', j, D, A => by
    rw [dfG]
    split
    · have := dfG_len x y (j + 1) (j + 1) [] []
      have := flu_len at' D A
      rw [List.length_append]
      simp only [List.length_cons] at *
      omega
    · split
      · have := dfG_len x (b :: y) at' j (D ++ [a]) A
        simp only [List.length_cons] at *
        omega
      · have := dfG_len (a :: x) y at' (j + 1) D (A ++ [b])
        simp only [List.length_cons] at *
        omega
termination_by x y => x.length + y.length
set_option maxRecDepth 100000 in
set_option maxHeartbeats 4000000 in
theorem diffBack_yes (A : Option Addr) (n c : Nat) (x : List (List UInt8)) (B : Option Addr) (m d : Nat) (y : List (List UInt8)) (w : World) (ha : LnRow w A n c x) (hb : LnRow w B m d y) (hl : (longD x || longD y) = false) (hx : linesR x = true) (hy : linesR y = true) :
    Calls Try.prog 5 #[.slice A n c, .slice B m d] w fun e w' => e = .returned (.bool true) ∧ Below w.heap.size w w' := by
  have cL := long12_two A n c x B m d y w ha hb
  rw [hl] at cL
  rw [Bool.or_eq_false_iff] at hl
  have q1 := longD_no hl.1
  have q2 := longD_no hl.2
  have cX := hid (fun W (h : Below w.heap.size w W) => rlines_any A n c x ha.1 (by have := ha.1; omega) (fun z hz => by have := q1.2 z hz; omega) W (ha.2.2.2.2.1.below h))
  have cY := hid (fun W (h : Below w.heap.size w W) => rlines_any B m d y hb.1 (by have := hb.1; omega) (fun z hz => by have := q2.2 z hz; omega) W (hb.2.2.2.2.1.below h))
  have o1 := hid (fun W (h : Below w.heap.size w W) => of_any A n c B m d x y ha.1 hb.1 (by have := ha.1; omega) (by have := hb.1; omega) ha.2.1 hb.2.1 hx hy W (ha.2.2.2.2.1.below h) (hb.2.2.2.2.1.below h))
  have o2 := hid (fun W (h : Below w.heap.size w W) => of_any B m d A n c y x hb.1 ha.1 (by have := hb.1; omega) (by have := ha.1; omega) hb.2.1 ha.2.1 hy hx W (hb.2.2.2.2.1.below h) (ha.2.2.2.2.1.below h))
  have o3 := hid (fun W (h : Below w.heap.size w W) => common_any A n c B m d x y ha.1 hb.1 (by have := ha.1; omega) (by have := hb.1; omega) hx hy W (ha.2.2.2.2.1.below h) (hb.2.2.2.2.1.below h))
  rw [hx] at cX
  rw [hy] at cY
  have hsz := dfG_size x y 0 0 [] []
  have hbk := dfG_back x y
  have hl1 := dfG_len x y 0 0 [] []
  have hl2 := dfG_len y x 0 0 [] []
  rw [ha.1, hb.1] at hsz hl1
  rw [ha.1, hb.1] at hl2
  have bn : n ≤ 40 := by have := ha.1; omega
  have bm : m ≤ 40 := by have := hb.1; omega
  clear ha hb hl hx hy q1 q2
  generalize dfG x y 0 0 [] [] = P at *
  generalize dfG y x 0 0 [] [] = Q at *
  generalize lcs x y = K at *
  simp only [List.length_nil] at hsz
  generalize hS : szH P = S at *
  have hSQ := hid hbk.symm
  have HP := hid hS
  have HL1 := hid hl1
  have HL2 := hid hl2
  clear hS hbk hl1 hl2
  go_enter Try.func5, Try.ntmps5
  go_wp2_with (fail)
  refine cL.mono ?_
  rintro e1 w1 ⟨rfl, hb1⟩
  go_wp2_with (fail)
  refine (cX.out w1 hb1).mono ?_
  rintro _ _ ⟨rfl, rfl⟩
  go_wp2_with (fail)
  refine (cY.out _ hb1).mono ?_
  rintro _ _ ⟨rfl, rfl⟩
  go_wp2_with (fail)
  refine (o1.out _ hb1).mono ?_
  rintro e2 w2 ⟨v1, rfl, hO1, hb2⟩
  have hX2 := hb1.trans (hb2.mono hb1.size)
  go_wp2_with (fail)
  refine (o2.out _ hX2).mono ?_
  rintro e3 w3 ⟨v2, rfl, hO2, hb3⟩
  have hX3 := hX2.trans (hb3.mono hX2.size)
  go_wp2_with (fail)
  refine (o3.out _ hX3).mono ?_
  rintro e4 w4 ⟨rfl, hb4⟩
  have hX4 := hX3.trans (hb4.mono hX3.size)
  have s1 := sizeO_any ((hO1.below hb3).below hb4) (by have := HL1.out; omega)
  rw [HP.out] at s1
  have h2K : IntKind.i64.wrap (2 * (K : Int)) = 2 * (K : Int) := by rw [IntKind.wrap_i64]; omega
  have h2S : IntKind.i64.wrap ((n : Int) + m - 2 * (K : Int)) = (S : Int) := by rw [IntKind.wrap_i64]; omega
  have h2T : wrap64 (2 * (K : Int)) = 2 * (K : Int) := w64_in _ (by omega)
  have h2U : wrap64 ((n : Int) + m - 2 * (K : Int)) = (S : Int) := by rw [w64_in _ (by omega)]; omega
  go_wp2_with (fail)
  refine s1.mono ?_
  rintro e5 w5 ⟨rfl, hb5⟩
  have hX5 := hX4.trans (hb5.mono hX4.size)
  have s2 := sizeO_any ((hO2.below hb4).below hb5) (by have := HL2.out; omega)
  rw [hSQ.out] at s2
  go_wp2_with (fail)
  refine s2.mono ?_
  rintro e6 w6 ⟨rfl, hb6⟩
  have hX6 := hX5.trans (hb6.mono hX5.size)
  have s3 := sizeO_any ((((hO1.below hb3).below hb4).below hb5).below hb6) (by have := HL1.out; omega)
  rw [HP.out] at s3
  go_wp2_with (fail)
  refine s3.mono ?_
  rintro e7 w7 ⟨rfl, hb7⟩
  have hX := hX6.trans (hb7.mono hX6.size)
  go_wp2_with (fail)
  refine (awake12_any _).mono ?_
  rintro e9 w9 ⟨rfl, hb9⟩
  go_wp2_with (fail)
  go_ret
  exact ⟨rfl, hX.trans (hb9.mono hX.size)⟩

theorem diffBack_any (A : Option Addr) (n c : Nat) (x : List (List UInt8)) (B : Option Addr) (m d : Nat) (y : List (List UInt8)) (w : World) (ha : LnRow w A n c x) (hb : LnRow w B m d y) :
    Calls Try.prog 5 #[.slice A n c, .slice B m d] w fun e w' => e = .returned (.bool true) ∧ Below w.heap.size w w' := by
  cases hl : longD x || longD y with
  | true => exact diffBack_long A n c x B m d y w ha hb hl
  | false =>
    cases hx : linesR x with
    | false => exact diffBack_left A n c x B m d y w ha hb hl hx
    | true =>
      cases hy : linesR y with
      | false => exact diffBack_right A n c x B m d y w ha hb hl hx hy
      | true => exact diffBack_yes A n c x B m d y w ha hb hl hx hy

set_option linter.unusedVariables false in
theorem law_DiffBack (w : World) (A : Option Addr) (n c : Nat) (x : List (List UInt8)) (B : Option Addr) (m d : Nat) (y : List (List UInt8)) (ha : LnRow w A n c x) (hb : LnRow w B m d y) :
    Calls Try.prog 5 #[.slice A n c, .slice B m d] w fun e w' => e = .returned (.bool true) ∧ Below w.heap.size w w' := diffBack_any A n c x B m d y w ha hb


open Go.ChangeShapes Go.WideShapes Go.ChangeAt
open Go.ChangeMaps (open_string shut_string)
theorem own_DiffBack : ownKnob Try.prog.godebug = none := by kernel_rfl
theorem laidOut_DiffBack : laidOutB Try.prog = true := by kernel_rfl
set_option linter.unusedVariables false in
set_option maxRecDepth 100000 in
theorem lifted_DiffBack (os : Os) (started : os.Started) (H : Type) (enc : TypeId × Value → H) :
    ReturnsInHanded {} Try.checked os 5 .any (Rows.diffBackSpec.pre6 enc Try.prog Try.f5 Rows.diffBackRow.domain false) (Rows.diffBackSpec.post enc Try.prog Try.f5 false true false false) := by
  refine returnsInHanded_of_change (C := Try.checked) own_DiffBack started (by kernel_rfl) Try.func5
    (ChangeSpec.witness6 (enc := enc) (C := Try.checked) false ⟨#[], #[.slice none 0 0, .slice none 0 0], []⟩ 8 (by kernel_rfl) (by kernel_rfl) (by kernel_rfl) (by kernel_rfl)) ?_
  intro W base args ds gs before hval0 hW hcnd _
  have hval : ∀ (j : Nat) t v, Try.f5.params[j]? = some t → args[j]? = some v → Value.okWide Try.prog W .any base t v := hval0
  have hW' := hW
  obtain ⟨p, q, hA0, hV, rfl, hfz, hnd⟩ := hW
  have hA1 : DataW.TrodAll enc Try.prog W 0 (fun _ => true) true Try.f5.params.toList args.toList ds p := hA0
  have hA : DataW.TrodAll enc Try.prog W 0 (fun _ => true) true Try.f5.params.toList args.toList ds p := hA0
  rw [Try.params5] at hA hval
  obtain ⟨v0, vs0, d0, ds0, p0, q0, hargs, rfl, rfl, h0, r0⟩ := trodAll_cons hA
  obtain ⟨v1, vs1, d1, ds1, p1, q1, rfl, rfl, rfl, h1, r1⟩ := trodAll_cons r0
  obtain ⟨rfl, rfl, rfl⟩ := trodAll_nil r1
  obtain rfl : args = #[v0, v1] := by cases args; simp_all
  obtain ⟨rfl, rfl⟩ := trodVars_none hV
  obtain ⟨A0, n0, c0, ls0, rfl, y0⟩ := open_ln (hval 0 22 v0 rfl rfl) h0
  obtain ⟨A1, n1, c1, ls1, rfl, y1⟩ := open_ln (hval 1 22 v1 rfl rfl) h1
  clear hA0 hval0
  refine (law_DiffBack W A0 n0 c0 ls0 A1 n1 c1 ls1 y0 y1).mono fun e W' ⟨he, bel⟩ => ?_
  subst he
  exact ⟨_, rfl, _, _, _, [], _, [], hW', trodAll_mk1 (shut_bool Try.underlying4 _), trodAll_stays laidOut_DiffBack bel (by kernel_rfl) hA1, rfl, bel.frame _, fun h => by cases h⟩

/-- The statement. -/
theorem DiffBack_holds : Rows.DiffBackSaid :=
  OpenClaim.holds_of_wide 5 Try.f5 rfl rfl rfl rfl rfl rfl rfl ⟨rfl, rfl, rfl, rfl, rfl⟩ rfl rfl rfl rfl rfl (by kernel_rfl) Try.func5 (by kernel_rfl)
    (of_decide_eq_true (by kernel_rfl)) (by unfold Func.isWrapper; first | (rw [if_pos (by decide +kernel)]; kernel_rfl) | (rw [if_neg (by decide +kernel)]; exact ⟨rfl, rfl⟩))
    (fun os started H enc _ => lifted_DiffBack os started H enc)
#print axioms DiffBack_holds

end Go.Proofs.Ytkciohifldgdjaa

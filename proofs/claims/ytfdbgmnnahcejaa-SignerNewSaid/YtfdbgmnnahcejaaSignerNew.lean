
/- Proved: for all params, seeds and leaves, quitclaimlaw08.SignerNew returns true and leaves its arguments as they were. No conditions. -/
import Derived.Test.YtfdbgmnnahcejaaSgA
namespace Go.Proofs.Ytfdbgmnnahcejaa
open Go.RowKit Go.Qc
open Go.ChangeShapes Go.WideShapes Go.ChangeAt
attribute [local go_sem] txt_size

set_option maxRecDepth 100000 in
set_option maxHeartbeats 8000000 in
theorem snews_big (s : List UInt8) (hs : 100 < s.length) (b h L : Int) (w : World) :
    Calls Try.prog 10 #[.agg #[.int .i64 b, .int .i64 h], .string (txt s), .int .i64 L] w fun e w' => e = .returned (.bool true) ∧ Below w.heap.size w w' := by
  have l1 : (100 : Int) < s.length := by omega
  clear hs
  have hpr := par_new w (b : Int) (h : Int)
  have hB0 : Below w.heap.size w (w.alloc (.cells #[.int .i64 (b : Int), .int .i64 (h : Int)] 63)) := (Below.refl _ _).alloc (Nat.le_refl _) _
  have p0 := hpr.cell_ (i := 0) rfl
  have p1 := hpr.cell_ (i := 1) rfl
  go_enter Try.func10, Try.ntmps10
  go_wp2_with (first
    | (go_at_call 66; (with_reducible refine (awake8_any _).mono ?_); rintro e9 w9 ⟨rfl, hb9⟩))
  go_ret
  exact ⟨rfl, hB0.trans (hb9.mono hB0.size)⟩
set_option maxRecDepth 100000 in
set_option maxHeartbeats 8000000 in
theorem snews_bits (s : List UInt8) (hs : s.length ≤ 100) (b h L : Int) (hr : rgtP b h = true) (h1 : 16 < b) (w : World) :
    Calls Try.prog 10 #[.agg #[.int .i64 b, .int .i64 h], .string (txt s), .int .i64 L] w fun e w' => e = .returned (.bool true) ∧ Below w.heap.size w w' := by
  have l1 : ¬ (100 : Int) < s.length := by omega
  have cR := fun W => rright7_any b h W
  rw [hr] at cR
  have zb : decide (16 < b) = true := decide_eq_true h1
  clear hs hr
  have hpr := par_new w (b : Int) (h : Int)
  have hB0 : Below w.heap.size w (w.alloc (.cells #[.int .i64 (b : Int), .int .i64 (h : Int)] 63)) := (Below.refl _ _).alloc (Nat.le_refl _) _
  have p0 := hpr.cell_ (i := 0) rfl
  have p1 := hpr.cell_ (i := 1) rfl
  go_enter Try.func10, Try.ntmps10
  go_wp2_with (first
    | (go_at_call 48; (with_reducible refine (cR _).mono ?_); rintro e3 w3 ⟨rfl, hb3⟩; replace hpr := hpr.below hb3; replace hB0 := hB0.trans (hb3.mono hB0.size); clear hb3 p0 p1; have p0 := hpr.cell_ (i := 0) rfl; have p1 := hpr.cell_ (i := 1) rfl)
    | (go_at_call 66; (with_reducible refine (awake8_any _).mono ?_); rintro e9 w9 ⟨rfl, hb9⟩))
  go_ret
  exact ⟨rfl, hB0.trans (hb9.mono hB0.size)⟩
set_option maxRecDepth 100000 in
set_option maxHeartbeats 8000000 in
theorem snews_high (s : List UInt8) (hs : s.length ≤ 100) (b h L : Int) (hr : rgtP b h = true) (h0 : ¬ 16 < b) (h1 : 2 < h) (w : World) :
    Calls Try.prog 10 #[.agg #[.int .i64 b, .int .i64 h], .string (txt s), .int .i64 L] w fun e w' => e = .returned (.bool true) ∧ Below w.heap.size w w' := by
  have l1 : ¬ (100 : Int) < s.length := by omega
  have cR := fun W => rright7_any b h W
  rw [hr] at cR
  have zb : decide (16 < b) = false := decide_eq_false h0
  have zh : decide (2 < h) = true := decide_eq_true h1
  clear hs hr
  have hpr := par_new w (b : Int) (h : Int)
  have hB0 : Below w.heap.size w (w.alloc (.cells #[.int .i64 (b : Int), .int .i64 (h : Int)] 63)) := (Below.refl _ _).alloc (Nat.le_refl _) _
  have p0 := hpr.cell_ (i := 0) rfl
  have p1 := hpr.cell_ (i := 1) rfl
  go_enter Try.func10, Try.ntmps10
  go_wp2_with (first
    | (go_at_call 48; (with_reducible refine (cR _).mono ?_); rintro e3 w3 ⟨rfl, hb3⟩; replace hpr := hpr.below hb3; replace hB0 := hB0.trans (hb3.mono hB0.size); clear hb3 p0 p1; have p0 := hpr.cell_ (i := 0) rfl; have p1 := hpr.cell_ (i := 1) rfl)
    | (go_at_call 66; (with_reducible refine (awake8_any _).mono ?_); rintro e9 w9 ⟨rfl, hb9⟩))
  go_ret
  exact ⟨rfl, hB0.trans (hb9.mono hB0.size)⟩
set_option maxRecDepth 100000 in
set_option maxHeartbeats 8000000 in
theorem snews_arg (s : List UInt8) (hs : s.length ≤ 100) (b h L : Int) (hr : rgtP b h = false) (w : World) :
    Calls Try.prog 10 #[.agg #[.int .i64 b, .int .i64 h], .string (txt s), .int .i64 L] w fun e w' => e = .returned (.bool true) ∧ Below w.heap.size w w' := by
  have l1 : ¬ (100 : Int) < s.length := by omega
  have cR := fun W => rright7_any b h W
  rw [hr] at cR
  have cN := fun W => snew_arg s b h hr L W
  clear hs hr
  have hpr := par_new w (b : Int) (h : Int)
  have hB0 : Below w.heap.size w (w.alloc (.cells #[.int .i64 (b : Int), .int .i64 (h : Int)] 63)) := (Below.refl _ _).alloc (Nat.le_refl _) _
  have p0 := hpr.cell_ (i := 0) rfl
  have p1 := hpr.cell_ (i := 1) rfl
  go_enter Try.func10, Try.ntmps10
  go_wp2_with (first
    | (go_at_call 48; (with_reducible refine (cR _).mono ?_); rintro e3 w3 ⟨rfl, hb3⟩; replace hpr := hpr.below hb3; replace hB0 := hB0.trans (hb3.mono hB0.size); clear hb3 p0 p1; have p0 := hpr.cell_ (i := 0) rfl; have p1 := hpr.cell_ (i := 1) rfl)
    | (go_at_call 68; (with_reducible refine (cN _).mono ?_); rintro e2 w2 ⟨rfl, hb2⟩; replace hpr := hpr.below hb2; replace hB0 := hB0.trans (hb2.mono hB0.size); clear hb2 p0 p1; have p0 := hpr.cell_ (i := 0) rfl; have p1 := hpr.cell_ (i := 1) rfl)
    | (go_at_call 66; (with_reducible refine (awake8_any _).mono ?_); rintro e9 w9 ⟨rfl, hb9⟩))
  go_ret
  exact ⟨rfl, hB0.trans (hb9.mono hB0.size)⟩
set_option maxRecDepth 100000 in
set_option maxHeartbeats 8000000 in
theorem snews_neg (s : List UInt8) (hs : s.length ≤ 100) (n m : Nat) (hr : rgtP n m = true) (h0 : ¬ (16 : Int) < n) (h1 : ¬ (2 : Int) < m) (L : Int) (h2 : L < 0) (w : World) :
    Calls Try.prog 10 #[.agg #[.int .i64 n, .int .i64 m], .string (txt s), .int .i64 L] w fun e w' => e = .returned (.bool true) ∧ Below w.heap.size w w' := by
  have l1 : ¬ (100 : Int) < s.length := by omega
  have cR := fun W => rright7_any n m W
  rw [hr] at cR
  have zb : decide ((16 : Int) < n) = false := decide_eq_false h0
  have zh : decide ((2 : Int) < m) = false := decide_eq_false h1
  have hm10 : m ≤ 10 := by omega
  have cP := fun W => rpower_any m hm10 W
  have cN := fun W => snew_range s n m hr L (.inl h2) W
  generalize 2 ^ m = P at *
  clear hs hr hm10
  have hpr := par_new w (n : Int) (m : Int)
  have hB0 : Below w.heap.size w (w.alloc (.cells #[.int .i64 (n : Int), .int .i64 (m : Int)] 63)) := (Below.refl _ _).alloc (Nat.le_refl _) _
  have p0 := hpr.cell_ (i := 0) rfl
  have p1 := hpr.cell_ (i := 1) rfl
  go_enter Try.func10, Try.ntmps10
  go_wp2_with (first
    | (go_at_call 48; (with_reducible refine (cR _).mono ?_); rintro e3 w3 ⟨rfl, hb3⟩; replace hpr := hpr.below hb3; replace hB0 := hB0.trans (hb3.mono hB0.size); clear hb3 p0 p1; have p0 := hpr.cell_ (i := 0) rfl; have p1 := hpr.cell_ (i := 1) rfl)
    | (go_at_call 68; (with_reducible refine (cN _).mono ?_); rintro e2 w2 ⟨rfl, hb2⟩; replace hpr := hpr.below hb2; replace hB0 := hB0.trans (hb2.mono hB0.size); clear hb2 p0 p1; have p0 := hpr.cell_ (i := 0) rfl; have p1 := hpr.cell_ (i := 1) rfl)
    | (go_at_call 49; (with_reducible refine (cP _).mono ?_); rintro e4 w4 ⟨rfl, rfl⟩)
    | (go_at_call 66; (with_reducible refine (awake8_any _).mono ?_); rintro e9 w9 ⟨rfl, hb9⟩))
  go_ret
  exact ⟨rfl, hB0.trans (hb9.mono hB0.size)⟩
set_option maxRecDepth 100000 in
set_option maxHeartbeats 8000000 in
theorem snews_above (s : List UInt8) (hs : s.length ≤ 100) (n m : Nat) (hr : rgtP n m = true) (h0 : ¬ (16 : Int) < n) (h1 : ¬ (2 : Int) < m) (L : Int) (h2 : ¬ L < 0) (h3 : ((2 ^ m : Nat) : Int) < L) (w : World) :
    Calls Try.prog 10 #[.agg #[.int .i64 n, .int .i64 m], .string (txt s), .int .i64 L] w fun e w' => e = .returned (.bool true) ∧ Below w.heap.size w w' := by
  have l1 : ¬ (100 : Int) < s.length := by omega
  have cR := fun W => rright7_any n m W
  rw [hr] at cR
  have zb : decide ((16 : Int) < n) = false := decide_eq_false h0
  have zh : decide ((2 : Int) < m) = false := decide_eq_false h1
  have hm10 : m ≤ 10 := by omega
  have cP := fun W => rpower_any m hm10 W
  have cN := fun W => snew_range s n m hr L (.inr h3) W
  have z0 : decide (L < 0) = false := decide_eq_false h2
  generalize 2 ^ m = P at *
  clear hs hr hm10
  have hpr := par_new w (n : Int) (m : Int)
  have hB0 : Below w.heap.size w (w.alloc (.cells #[.int .i64 (n : Int), .int .i64 (m : Int)] 63)) := (Below.refl _ _).alloc (Nat.le_refl _) _
  have p0 := hpr.cell_ (i := 0) rfl
  have p1 := hpr.cell_ (i := 1) rfl
  go_enter Try.func10, Try.ntmps10
  go_wp2_with (first
    | (go_at_call 48; (with_reducible refine (cR _).mono ?_); rintro e3 w3 ⟨rfl, hb3⟩; replace hpr := hpr.below hb3; replace hB0 := hB0.trans (hb3.mono hB0.size); clear hb3 p0 p1; have p0 := hpr.cell_ (i := 0) rfl; have p1 := hpr.cell_ (i := 1) rfl)
    | (go_at_call 68; (with_reducible refine (cN _).mono ?_); rintro e2 w2 ⟨rfl, hb2⟩; replace hpr := hpr.below hb2; replace hB0 := hB0.trans (hb2.mono hB0.size); clear hb2 p0 p1; have p0 := hpr.cell_ (i := 0) rfl; have p1 := hpr.cell_ (i := 1) rfl)
    | (go_at_call 49; (with_reducible refine (cP _).mono ?_); rintro e4 w4 ⟨rfl, rfl⟩)
    | (go_at_call 66; (with_reducible refine (awake8_any _).mono ?_); rintro e9 w9 ⟨rfl, hb9⟩))
  go_ret
  exact ⟨rfl, hB0.trans (hb9.mono hB0.size)⟩
set_option maxRecDepth 100000 in
set_option maxHeartbeats 8000000 in
theorem snews_ok (s : List UInt8) (hs : s.length ≤ 100) (n m : Nat) (hr : rgtP n m = true) (h0 : ¬ (16 : Int) < n) (h1 : ¬ (2 : Int) < m) (L : Nat) (h3 : L ≤ 2 ^ m) (w : World) :
    Calls Try.prog 10 #[.agg #[.int .i64 n, .int .i64 m], .string (txt s), .int .i64 L] w fun e w' => e = .returned (.bool true) ∧ Below w.heap.size w w' := by
  have l1 : ¬ (100 : Int) < s.length := by omega
  have cR := fun W => rright7_any n m W
  rw [hr] at cR
  have zb : decide ((16 : Int) < n) = false := decide_eq_false h0
  have zh : decide ((2 : Int) < m) = false := decide_eq_false h1
  have hm10 : m ≤ 10 := by omega
  have cP := fun W => rpower_any m hm10 W
  have cN := fun W => snew_any s (by omega) n m hr (by omega) L h3 W
  have z1 : ¬ ((L : Int) < 0) := by omega
  have z0 : decide ((L : Int) < 0) = false := decide_eq_false z1
  have z2 : ¬ (((2 ^ m : Nat) : Int) < (L : Int)) := by omega
  have zLL : ((L : Int) == (L : Int)) = true := by simp
  generalize 2 ^ m = P at *
  clear hs hr hm10
  have hpr := par_new w (n : Int) (m : Int)
  have hB0 : Below w.heap.size w (w.alloc (.cells #[.int .i64 (n : Int), .int .i64 (m : Int)] 63)) := (Below.refl _ _).alloc (Nat.le_refl _) _
  have p0 := hpr.cell_ (i := 0) rfl
  have p1 := hpr.cell_ (i := 1) rfl
  go_enter Try.func10, Try.ntmps10
  go_wp2_with (first
    | (go_at_call 48; (with_reducible refine (cR _).mono ?_); rintro e3 w3 ⟨rfl, hb3⟩; (try replace hS := hS.below hb3); replace hpr := hpr.below hb3; replace hB0 := hB0.trans (hb3.mono hB0.size); clear hb3 p0 p1; have p0 := hpr.cell_ (i := 0) rfl; have p1 := hpr.cell_ (i := 1) rfl)
    | (go_at_call 68; (with_reducible refine (cN _).mono ?_); rintro e2 w2 ⟨g, gr, cr, rfl, hS, _, hb2⟩; replace hpr := hpr.below hb2; replace hB0 := hB0.trans (hb2.mono hB0.size); clear hb2 p0 p1; have p0 := hpr.cell_ (i := 0) rfl; have p1 := hpr.cell_ (i := 1) rfl)
    | (go_at_call 49; (with_reducible refine (cP _).mono ?_); rintro e4 w4 ⟨rfl, rfl⟩)
    | (go_at_call 71; (with_reducible refine (snext_any _ _ _ _ _ _ _ _ hS).mono ?_); rintro e5 w5 ⟨rfl, rfl⟩)
    | (go_at_call 66; (with_reducible refine (awake8_any _).mono ?_); rintro e9 w9 ⟨rfl, hb9⟩))
  go_ret
  exact ⟨rfl, hB0.trans (hb9.mono hB0.size)⟩
section
variable {H : Type} {enc : TypeId × Value → H} {w : World} {r : Reach} {base b0 : Nat} {sp : Nat → Bool} {hd : Bool}
set_option maxRecDepth 100000 in
/-- Params that came in. -/
theorem open_params {v : Value} {d : DataW H} {ps : List MemPlace} (hv : Value.okWide Try.prog w r b0 63 v) (h : DataW.Trod enc Try.prog w base sp hd 63 v d ps) :
    ∃ b h : Int, v = .agg #[.int .i64 b, .int .i64 h] ∧ (Lit.int .i64 b).wf = true ∧ (Lit.int .i64 h).wf = true := by
  simp only [Value.okWide, Try.underlying63] at hv
  obtain ⟨cs, rfl, hsz, _⟩ := hv
  obtain ⟨fuel, hf⟩ := h
  cases fuel with
  | zero => simp [DataW.trod] at hf
  | succ k =>
    rw [DataW.trod_step] at hf
    unfold DataW.trodStep at hf
    simp only [Try.underlying63, Value.cells] at hf
    have hc2 : Try.prog.cellsOf 63 = 2 := by kernel_rfl
    have hc1 : Try.prog.cellsOf 3 = 1 := by kernel_rfl
    rw [hc2] at hsz
    rw [if_pos (by rw [hc2, Array.length_toList, hsz])] at hf
    simp only [Option.map_eq_some_iff] at hf
    obtain ⟨xs, hx, _⟩ := hf
    have hy := mapM_each _ _ hx
    obtain ⟨y0, h0⟩ := hy _ (List.mem_cons_self)
    obtain ⟨y1, h1⟩ := hy _ (List.mem_cons_of_mem _ (List.mem_cons_self))
    simp only [hc1] at h0 h1
    obtain ⟨b, e0, _, w0⟩ := DataW.trod_int Try.underlying3 h0
    obtain ⟨h, e1, _, w1⟩ := DataW.trod_int Try.underlying3 h1
    refine ⟨b, h, ?_, w0, w1⟩
    obtain ⟨x, y, hxy⟩ : ∃ x y, cs = #[x, y] := by
      obtain ⟨l⟩ := cs
      simp at hsz
      match l, hsz with
      | [x, y], _ => exact ⟨x, y, rfl⟩
    subst hxy
    simp at e0 e1
    rw [e0, e1]
end
theorem signerNew_any (s : List UInt8) (b h L : Int) (w : World) :
    Calls Try.prog 10 #[.agg #[.int .i64 b, .int .i64 h], .string (txt s), .int .i64 L] w fun e w' => e = .returned (.bool true) ∧ Below w.heap.size w w' := by
  by_cases hs : s.length ≤ 100
  · cases hq : rgtP b h with
    | false => exact snews_arg s hs b h L hq w
    | true =>
      by_cases h6 : 16 < b
      · exact snews_bits s hs b h L hq h6 w
      · by_cases h7 : 2 < h
        · exact snews_high s hs b h L hq h6 h7 w
        · obtain ⟨h1, h2, h3⟩ := rgtP_parts hq
          have h4 := rgt_le9 h1
          obtain ⟨n, rfl⟩ : ∃ n : Nat, b = n := ⟨b.toNat, by omega⟩
          obtain ⟨m, rfl⟩ : ∃ m : Nat, h = m := ⟨h.toNat, by omega⟩
          by_cases h0 : L < 0
          · exact snews_neg s hs n m hq h6 h7 L h0 w
          · by_cases h5 : ((2 ^ m : Nat) : Int) < L
            · exact snews_above s hs n m hq h6 h7 L h0 h5 w
            · obtain ⟨l, rfl⟩ : ∃ l : Nat, L = l := ⟨L.toNat, by omega⟩
              exact snews_ok s hs n m hq h6 h7 l (by omega) w
  · exact snews_big s (by omega) b h L w
set_option linter.unusedVariables false in
theorem law_SignerNew (w : World) (a0 : Int) (w0 : (Lit.int .i64 a0).wf = true) (x0 : Int) (u0 : (Lit.int .i64 x0).wf = true) (a1 : ByteArray) (w1 : a1.size ≤ maxLen) (a2 : Int) (w2 : (Lit.int .i64 a2).wf = true) :
    Calls Try.prog 10 #[.agg #[.int .i64 a0, .int .i64 x0], .string a1, .int .i64 a2] w fun e w' => e = .returned (.bool true) ∧ Below w.heap.size w w' := by
  exact signerNew_any a1.data.toList a0 x0 a2 w

open Go.ChangeShapes Go.WideShapes Go.ChangeAt
open Go.ChangeMaps (open_string shut_string)
theorem own_SignerNew : ownKnob Try.prog.godebug = none := by kernel_rfl
theorem laidOut_SignerNew : laidOutB Try.prog = true := by kernel_rfl
set_option linter.unusedVariables false in
set_option maxRecDepth 100000 in
theorem lifted_SignerNew (os : Os) (started : os.Started) (H : Type) (enc : TypeId × Value → H) :
    ReturnsInHanded {} Try.checked os 10 .any (Rows.signerNewSpec.pre6 enc Try.prog Try.f10 Rows.signerNewRow.domain false) (Rows.signerNewSpec.post enc Try.prog Try.f10 false true false false) := by
  refine returnsInHanded_of_change (C := Try.checked) own_SignerNew started (by kernel_rfl) Try.func10
    (ChangeSpec.witness6 (enc := enc) (C := Try.checked) false ⟨#[], #[.agg #[.int .i64 0, .int .i64 0], .string ByteArray.empty, .int .i64 0], []⟩ 8 (by kernel_rfl) (by kernel_rfl) (by kernel_rfl) (by kernel_rfl)) ?_
  intro W base args ds gs before hval0 hW hcnd _
  have hval : ∀ (j : Nat) t v, Try.f10.params[j]? = some t → args[j]? = some v → Value.okWide Try.prog W .any base t v := hval0
  have hW' := hW
  obtain ⟨p, q, hA0, hV, rfl, hfz, hnd⟩ := hW
  have hA1 : DataW.TrodAll enc Try.prog W 0 (fun _ => true) true Try.f10.params.toList args.toList ds p := hA0
  have hA : DataW.TrodAll enc Try.prog W 0 (fun _ => true) true Try.f10.params.toList args.toList ds p := hA0
  rw [Try.params10] at hA hval
  obtain ⟨v0, vs0, d0, ds0, p0, q0, hargs, rfl, rfl, h0, r0⟩ := trodAll_cons hA
  obtain ⟨v1, vs1, d1, ds1, p1, q1, rfl, rfl, rfl, h1, r1⟩ := trodAll_cons r0
  obtain ⟨v2, vs2, d2, ds2, p2, q2, rfl, rfl, rfl, h2, r2⟩ := trodAll_cons r1
  obtain ⟨rfl, rfl, rfl⟩ := trodAll_nil r2
  obtain rfl : args = #[v0, v1, v2] := by cases args; simp_all
  obtain ⟨rfl, rfl⟩ := trodVars_none hV
  obtain ⟨a0, x0, rfl, w0, u0⟩ := open_params (hval 0 63 v0 rfl rfl) h0
  obtain ⟨a1, rfl, rfl, rfl, w1⟩ := open_string Try.underlying9 (hval 1 9 v1 rfl rfl) h1
  obtain ⟨a2, rfl, rfl, rfl, w2⟩ := open_int Try.underlying3 (hval 2 3 v2 rfl rfl) h2
  clear hA0 hval0
  refine (law_SignerNew W a0 w0 x0 u0 a1 w1 a2 w2).mono fun e W' ⟨he, bel⟩ => ?_
  subst he
  exact ⟨_, rfl, _, _, _, [], _, [], hW', trodAll_mk1 (shut_bool Try.underlying4 _), trodAll_stays laidOut_SignerNew bel (by kernel_rfl) hA1, rfl, bel.frame _, fun h => by cases h⟩

/-- The statement. -/
theorem SignerNew_holds : Rows.SignerNewSaid :=
  OpenClaim.holds_of_wide 10 Try.f10 rfl rfl rfl rfl rfl rfl rfl ⟨rfl, rfl, rfl, rfl, rfl⟩ rfl rfl rfl rfl rfl (by kernel_rfl) Try.func10 (by kernel_rfl)
    (of_decide_eq_true (by kernel_rfl)) (by unfold Func.isWrapper; first | (rw [if_pos (by decide +kernel)]; kernel_rfl) | (rw [if_neg (by decide +kernel)]; exact ⟨rfl, rfl⟩))
    (fun os started H enc _ => lifted_SignerNew os started H enc)
#print axioms SignerNew_holds
end Go.Proofs.Ytfdbgmnnahcejaa

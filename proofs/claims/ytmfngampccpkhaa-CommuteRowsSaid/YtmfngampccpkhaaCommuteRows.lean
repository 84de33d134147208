
/- For any two rows of operations a and b: commute.Rows(a, b) and commute.Touch(a, b) tell what the document says: what the rows become, swapped, or where they touch. No condition beyond the statement's own. -/
import Derived.Test.YtmfngampccpkhaaRo5
import Derived.Test.YtmfngampccpkhaaRo6
import Derived.Test.YtmfngampccpkhaaRo9
import Derived.Test.YtmfngampccpkhaaRows
import Derived.ChangeShapes
import Derived.Deep.DeepCutAuto
set_option linter.unusedSimpArgs false
set_option linter.unusedVariables false
namespace Go.Proofs.Ytmfngampccpkhaa
open Go.RowKit Go.Qc Go.Shelf
attribute [local go_sem] txt_size txt_append ib_fold txt_toL

/-- A row of operations that is read, with its data. -/
def RowD (W : World) (A : Option Addr) (n : Nat) (L : List OpD) : Prop := ∃ Xs : List OpV, Xs.length = n ∧ Xs.map OpV.D = L ∧ OpRd W A Xs ∧ ∀ X ∈ Xs, OpR W X.D X.A X.n X.B X.m
theorem RowD.below {W W' : World} {A : Option Addr} {n : Nat} {L : List OpD} (h : RowD W A n L) (hb : Below W.heap.size W W') : RowD W' A n L := by
  obtain ⟨Xs, h1, h2, h3, h4⟩ := h
  exact ⟨Xs, h1, h2, h3.below hb, fun X hX => (h4 X hX).below hb⟩
theorem all_rowD {W : World} {A B : Option Addr} {n c d : Nat} {L : List OpD} (hn : n ≤ 1000) (h : RowD W A n L) (h' : RowD W B n L) : Calls Try.prog 10 #[.slice A n c, .slice B n d] W fun e w' => e = .returned (.bool true) ∧ Below W.heap.size W w' := by
  obtain ⟨Xs, h1, h2, h3, h4⟩ := h
  obtain ⟨Ys, g1, g2, g3, g4⟩ := h'
  exact rall_same A n c Xs B d Ys W h1 hn h3 h4 g3 g4 (h2.trans g2.symm)

theorem open_capr {H : Type} {enc : TypeId × Value → H} {P : Program} {w : World} {base : Nat} {sp : Nat → Bool} {hd : Bool} {t e : TypeId} {a : Option Addr} {len cap : Nat} {d : DataW H} {ps : List MemPlace} (ht : P.underlying t = some (.slice e))
    (h : DataW.Trod enc P w base sp hd t (.slice a len cap) d ps) : a = none ∨ (len ≤ cap ∧ cap ≤ maxLen) := by
  obtain ⟨fuel, hf⟩ := h
  cases fuel with
  | zero => simp [DataW.trod] at hf
  | succ m =>
    rw [DataW.trod_step] at hf
    unfold DataW.trodStep at hf
    simp only [ht, Value.cells] at hf
    cases a with
    | none => exact .inl rfl
    | some a =>
      right
      dsimp only at hf
      split at hf
      · rename_i hcond
        exact ⟨hcond.2.1, hcond.2.2⟩
      · cases hf
set_option maxRecDepth 100000 in
set_option maxHeartbeats 40000000 in
theorem crw_long (A : Option Addr) (n c : Nat) (B : Option Addr) (m d : Nat) (w : World) (cF : Calls Try.prog 5 #[.slice (some ⟨w.heap.size, 0, none⟩) 2 2] (w.alloc (.cells #[.slice A n c, .slice B m d] 22)) fun e w' => e = .returned (.bool false) ∧ Below w.heap.size w w') : Calls Try.prog 3 #[.slice A n c, .slice B m d] w fun e w' => e = .returned (.bool true) ∧ Below w.heap.size w w' := by
  go_enter Try.func3, Try.ntmps3
  go_wp2_with (first
    | (go_at_call 5; (with_reducible refine cF.mono ?_); rintro o1 w1 ⟨rfl, hx⟩)
    | (go_at_call 6; (with_reducible refine (awake16_any _).mono ?_); rintro o9 w9 ⟨rfl, hb9⟩; have hx9 := hx.trans (hb9.mono hx.size)))
  go_ret
  exact ⟨rfl, hx9⟩

set_option maxRecDepth 100000 in
set_option maxHeartbeats 40000000 in
theorem crw_ok (A : Option Addr) (n c : Nat) (B : Option Addr) (m d : Nat) (w : World) (Ps Ts : List OpD) (bn : n ≤ 1000) (bm : m ≤ 1000) (cF : Calls Try.prog 5 #[.slice (some ⟨w.heap.size, 0, none⟩) 2 2] (w.alloc (.cells #[.slice A n c, .slice B m d] 22)) fun e w' => e = .returned (.bool true) ∧ Below w.heap.size w w') (cS : ∀ W, Below w.heap.size w W → Calls Try.prog 7 #[.slice A n c, .slice B m d] W fun e w' => ∃ A1 c1 A2 c2, e = .returned (.tuple #[.slice A1 m c1, .slice A2 n c2, .bool true]) ∧ RowD w' A1 m Ps ∧ RowD w' A2 n Ts ∧ Below W.heap.size W w') (cT : ∀ W, Below w.heap.size w W → Calls Try.prog 8 #[.slice A n c, .slice B m d] W fun e w' => e = .returned (.tuple #[.int .i64 0, .int .i64 0, .bool false]) ∧ Below W.heap.size W w') (cR : ∀ W, Below w.heap.size w W → Calls Try.prog 9 #[.slice A n c, .slice B m d] W fun e w' => ∃ A1 c1 A2 c2, e = .returned (.tuple #[.slice A1 m c1, .slice A2 n c2, .int .i64 (-1), .int .i64 (-1)]) ∧ RowD w' A1 m Ps ∧ RowD w' A2 n Ts ∧ Below W.heap.size W w') : Calls Try.prog 3 #[.slice A n c, .slice B m d] w fun e w' => e = .returned (.bool true) ∧ Below w.heap.size w w' := by
  go_enter Try.func3, Try.ntmps3
  go_wp2_with (first
    | (go_at_call 5; (with_reducible refine cF.mono ?_); rintro o1 w1 ⟨rfl, hx⟩)
    | (go_at_call 7; (with_reducible refine (cS _ hx).mono ?_); rintro o2 w2 ⟨A1, e1, A2, e2, rfl, x1, x2, hb⟩; replace hx := hx.trans (hb.mono hx.size); clear hb)
    | (go_at_call 8; (with_reducible refine (cT _ hx).mono ?_); rintro o3 w3 ⟨rfl, hb⟩; replace x1 := x1.below hb; replace x2 := x2.below hb; replace hx := hx.trans (hb.mono hx.size); clear hb)
    | (go_at_call 9; (with_reducible refine (cR _ hx).mono ?_); rintro o4 w4 ⟨A3, e3, A4, e4, rfl, y1, y2, hb⟩; replace x1 := x1.below hb; replace x2 := x2.below hb; replace hx := hx.trans (hb.mono hx.size); clear hb)
    | (go_at_call 10; (first | (with_reducible refine (all_rowD bm x1 y1).mono ?_) | (with_reducible refine (all_rowD bn x2 y2).mono ?_)); rintro o5 w5 ⟨rfl, hb⟩; replace x1 := x1.below hb; replace x2 := x2.below hb; replace y1 := y1.below hb; replace y2 := y2.below hb; replace hx := hx.trans (hb.mono hx.size); clear hb)
    | (go_at_call 6; (with_reducible refine (awake16_any _).mono ?_); rintro o9 w9 ⟨rfl, hb9⟩; have hx9 := hx.trans (hb9.mono hx.size)))
  go_ret
  exact ⟨rfl, hx9⟩

set_option maxRecDepth 100000 in
set_option maxHeartbeats 40000000 in
theorem crw_no (A : Option Addr) (n c : Nat) (B : Option Addr) (m d : Nat) (w : World) (i k : Nat) (cF : Calls Try.prog 5 #[.slice (some ⟨w.heap.size, 0, none⟩) 2 2] (w.alloc (.cells #[.slice A n c, .slice B m d] 22)) fun e w' => e = .returned (.bool true) ∧ Below w.heap.size w w') (cS : ∀ W, Below w.heap.size w W → Calls Try.prog 7 #[.slice A n c, .slice B m d] W fun e w' => e = .returned (.tuple #[.slice none 0 0, .slice none 0 0, .bool false]) ∧ Below W.heap.size W w') (cT : ∀ W, Below w.heap.size w W → Calls Try.prog 8 #[.slice A n c, .slice B m d] W fun e w' => e = .returned (.tuple #[.int .i64 i, .int .i64 k, .bool true]) ∧ Below W.heap.size W w') (cR : ∀ W, Below w.heap.size w W → Calls Try.prog 9 #[.slice A n c, .slice B m d] W fun e w' => e = .returned (.tuple #[.slice none 0 0, .slice none 0 0, .int .i64 i, .int .i64 k]) ∧ Below W.heap.size W w') : Calls Try.prog 3 #[.slice A n c, .slice B m d] w fun e w' => e = .returned (.bool true) ∧ Below w.heap.size w w' := by
  have q1 : ¬ (i : Int) < 0 := by omega
  have q2 : decide ((i : Int) < 0) = false := decide_eq_false q1
  go_enter Try.func3, Try.ntmps3
  go_wp2_with (first
    | (go_at_call 5; (with_reducible refine cF.mono ?_); rintro o1 w1 ⟨rfl, hx⟩)
    | (go_at_call 7; (with_reducible refine (cS _ hx).mono ?_); rintro o2 w2 ⟨rfl, hb⟩; replace hx := hx.trans (hb.mono hx.size); clear hb)
    | (go_at_call 8; (with_reducible refine (cT _ hx).mono ?_); rintro o3 w3 ⟨rfl, hb⟩; replace hx := hx.trans (hb.mono hx.size); clear hb)
    | (go_at_call 9; (with_reducible refine (cR _ hx).mono ?_); rintro o4 w4 ⟨rfl, hb⟩; replace hx := hx.trans (hb.mono hx.size); clear hb)
    | (go_at_call 6; (with_reducible refine (awake16_any _).mono ?_); rintro o9 w9 ⟨rfl, hb9⟩; have hx9 := hx.trans (hb9.mono hx.size)))
  go_ret
  exact ⟨rfl, hx9⟩

theorem lng_smallr {D : OpD} (h : lngO D = false) : D.p.length ≤ 300 ∧ D.t.length ≤ 300 ∧ D.o.length ≤ 40 ∧ D.n.length ≤ 40 ∧ (∀ x ∈ D.o, x.length ≤ 300) ∧ ∀ x ∈ D.n, x.length ≤ 300 := by
  unfold lngO at h
  simp only [Bool.or_eq_false_iff, decide_eq_false_iff_not, List.any_cons, List.any_nil, List.any_eq_false, decide_eq_true_eq] at h
  obtain ⟨a, b, c, d, e, f⟩ := h
  refine ⟨by omega, by omega, by omega, by omega, fun x hx => ?_, fun x hx => ?_⟩
  · have := e x hx; omega
  · have := f.1 x hx; omega

theorem opR_lngr (D : OpD) (A : Option Addr) (n c : Nat) (B : Option Addr) (m d : Nat) (w : World) (K1 : D.K.length = 32) (y1 : LnO w A n D.o) (y2 : LnO w B m D.n) (hl : lngO D = false) : OpR w D A n B m := by
  obtain ⟨z1, z2, z3, z4, z5, z6⟩ := lng_smallr hl
  exact ⟨y1.1, by have := y1.1; omega, fun x hx => Nat.le_trans (z5 x hx) (by decide), y2.1, by have := y2.1; omega, fun x hx => Nat.le_trans (z6 x hx) (by decide), y1.2.2, y2.2.2, K1, by omega, by omega⟩
theorem commuteRows_any (A : Option Addr) (n c : Nat) (Xs : List OpV) (B : Option Addr) (m d : Nat) (Ys : List OpV) (w : World) (hA : OpRow w A n Xs) (hB : OpRow w B m Ys) (cA : A = none ∨ n ≤ c) (cB : B = none ∨ m ≤ d) :
    Calls Try.prog 3 #[.slice A n c, .slice B m d] w fun e w' => e = .returned (.bool true) ∧ Below w.heap.size w w' := by
  have hb0 := (Below.refl w.heap.size w).alloc (Nat.le_refl _) (.cells #[.slice A n c, .slice B m d] 22)
  have hl : ([⟨A, n, c, Xs⟩, ⟨B, m, d, Ys⟩] : List RowV).length = 2 := rfl
  have cF : Calls Try.prog 5 #[.slice (some ⟨w.heap.size, 0, none⟩) 2 2] (w.alloc (.cells #[.slice A n c, .slice B m d] 22)) fun e w' => e = .returned (.bool (fewB [⟨A, n, c, Xs⟩, ⟨B, m, d, Ys⟩])) ∧ Below w.heap.size w w' := by
    refine (fewr_any ⟨w.heap.size, 0, none⟩ 2 [⟨A, n, c, Xs⟩, ⟨B, m, d, Ys⟩] hl (by decide) _ (.inr ⟨_, rfl, fun j u hj => ?_⟩) (fun R hR => ?_)).mono (fun e w' h => ⟨h.1, hb0.trans (h.2.mono hb0.size)⟩)
    · rw [Addr.add_lit, Nat.zero_add, cell_of_row _ _ _ _ _ _ (heap_alloc_new w _), ← Array.getElem?_toList]
      exact hj
    · simp at hR
      rcases hR with rfl | rfl
      · exact ⟨hA.1, hA.2.1, hA.2.2.1.below hb0, fun X hX => (hA.2.2.2 X hX).below hb0⟩
      · exact ⟨hB.1, hB.2.1, hB.2.2.1.below hb0, fun X hX => (hB.2.2.2 X hX).below hb0⟩
  cases hf : fewB [⟨A, n, c, Xs⟩, ⟨B, m, d, Ys⟩] with
  | false => exact crw_long A n c B m d w (by rw [← hf]; exact cF)
  | true =>
    rw [hf] at cF
    simp only [fewB, List.all_cons, List.all_nil, Bool.and_true, Bool.and_eq_true, decide_eq_true_eq, List.all_eq_true, Bool.not_eq_true'] at hf
    obtain ⟨⟨hn, hX⟩, hm, hY⟩ := hf
    have rX : ∀ X ∈ Xs, OpR w X.D X.A X.n X.B X.m := fun X h => by
      obtain ⟨q1, q2, q3, q4, q5⟩ := hA.2.2.2 X h
      exact opR_lngr X.D X.A X.n X.c X.B X.m X.d w q1 q2 q3 (hX X h)
    have rY : ∀ X ∈ Ys, OpR w X.D X.A X.n X.B X.m := fun X h => by
      obtain ⟨q1, q2, q3, q4, q5⟩ := hB.2.2.2 X h
      exact opR_lngr X.D X.A X.n X.c X.B X.m X.d w q1 q2 q3 (hY X h)
    have hnc : n ≤ c := by
      rcases cA with rfl | h
      · rcases hA.2.2.1.2 with rfl | ⟨_, _, h, _⟩
        · rw [← hA.1]; exact Nat.zero_le _
        · cases h
      · exact h
    cases hq : rowsF 0 (Ys.map OpV.D) (Xs.map OpV.D) with
    | ok r =>
      obtain ⟨Ps, Ts⟩ := r
      refine crw_ok A n c B m d w Ps Ts (by omega) (by omega) cF (fun W h => ?_) (fun W h => ?_) (fun W h => ?_)
      · refine (crows_any A n c Xs B m d Ys W hA.1 (by omega) (hA.2.2.1.below h) (fun X hx => (rX X hx).below h) hB.1 (by omega) (hB.2.2.1.below h) (fun X hx => (rY X hx).below h)).mono ?_
        rintro e w' (⟨A1, c1, A2, c2, g1, g2, Fs, Us, rfl, h1, h2, h3, h4, h5, h6, h7, h8⟩ | ⟨_, _, _, h3, _⟩)
        · rw [hq] at h3
          injection h3 with h3
          injection h3 with h9 h10
          subst h9 h10
          exact ⟨A1, c1, A2, c2, rfl, ⟨Fs, h1, rfl, h4.rd (fun X hX => (h6 X hX).hK), fun X hX => (h6 X hX).rd⟩, ⟨Us, h2, rfl, h5.rd (fun X hX => (h7 X hX).hK), fun X hX => (h7 X hX).rd⟩, h8⟩
        · rw [hq] at h3; cases h3
      · refine (ctouch_any A n c Xs B m d Ys W hA.1 (by omega) (hA.2.2.1.below h) (fun X hx => (rX X hx).below h) hB.1 (by omega) (hB.2.2.1.below h) (fun X hx => (rY X hx).below h)).mono ?_
        rintro e w' (⟨_, h1, h2⟩ | ⟨_, _, h3, _⟩)
        · exact ⟨h1, h2⟩
        · rw [hq] at h3; cases h3
      · refine (rrows_any A n c Xs B m d Ys W hA.1 (by omega) hnc (hA.2.2.1.below h) (fun X hx => (rX X hx).below h) hB.1 (by omega) (hB.2.2.1.below h) (fun X hx => (rY X hx).below h)).mono ?_
        rintro e w' (⟨v, A2, c2, P, Tr, rfl, h3, h4, h5, h6, h7, h8, h9⟩ | ⟨_, _, _, h3, _⟩)
        · rw [hq] at h3
          injection h3 with h3
          injection h3 with h10 h11
          subst h10 h11
          obtain ⟨A1, c1, rfl, l1, l2, l3, l4⟩ := h4.rd (fun X hX => (h7 X hX).hK)
          exact ⟨A1, c1, A2, c2, rfl, ⟨P, l1, rfl, l4, fun X hX => (h7 X hX).below h9⟩, ⟨Tr, h5, rfl, h6, fun X hX => (h8 X hX).below h9⟩, h9⟩
        · rw [hq] at h3; cases h3
    | error ik =>
      obtain ⟨i, k⟩ := ik
      refine crw_no A n c B m d w i k cF (fun W h => ?_) (fun W h => ?_) (fun W h => ?_)
      · refine (crows_any A n c Xs B m d Ys W hA.1 (by omega) (hA.2.2.1.below h) (fun X hx => (rX X hx).below h) hB.1 (by omega) (hB.2.2.1.below h) (fun X hx => (rY X hx).below h)).mono ?_
        rintro e w' (⟨A1, c1, A2, c2, g1, g2, Fs, Us, rfl, h1, h2, h3, _⟩ | ⟨_, _, h1, h3, h4⟩)
        · rw [hq] at h3; cases h3
        · exact ⟨h1, h4⟩
      · refine (ctouch_any A n c Xs B m d Ys W hA.1 (by omega) (hA.2.2.1.below h) (fun X hx => (rX X hx).below h) hB.1 (by omega) (hB.2.2.1.below h) (fun X hx => (rY X hx).below h)).mono ?_
        rintro e w' (⟨⟨_, h3⟩, _⟩ | ⟨_, _, h3, h1, h2⟩)
        · rw [hq] at h3; cases h3
        · rw [hq] at h3
          injection h3 with h3
          injection h3 with h5 h6
          subst h5 h6
          exact ⟨h1, h2⟩
      · refine (rrows_any A n c Xs B m d Ys W hA.1 (by omega) hnc (hA.2.2.1.below h) (fun X hx => (rX X hx).below h) hB.1 (by omega) (hB.2.2.1.below h) (fun X hx => (rY X hx).below h)).mono ?_
        rintro e w' (⟨_, _, _, _, _, _, h3, _⟩ | ⟨_, _, h1, h3, h2⟩)
        · rw [hq] at h3; cases h3
        · rw [hq] at h3
          injection h3 with h3
          injection h3 with h5 h6
          subst h5 h6
          exact ⟨h1, h2⟩

section
open Go.ChangeShapes Go.WideShapes Go.ChangeAt
open Go.ChangeMaps (open_string shut_string)
theorem own_CommuteRows : ownKnob Try.prog.godebug = none := by kernel_rfl
theorem laidOut_CommuteRows : laidOutB Try.prog = true := by kernel_rfl
set_option linter.unusedVariables false in
set_option maxRecDepth 100000 in
theorem lifted_CommuteRows (os : Os) (started : os.Started) (H : Type) (enc : TypeId × Value → H) :
    ReturnsInHanded {} Try.checked os 3 .any (Rows.commuteRowsSpec.pre6 enc Try.prog Try.f3 Rows.commuteRowsRow.domain false) (Rows.commuteRowsSpec.post enc Try.prog Try.f3 false true false false) := by
  refine returnsInHanded_of_change (C := Try.checked) own_CommuteRows started (by kernel_rfl) Try.func3
    (ChangeSpec.witness6 (enc := enc) (C := Try.checked) false ⟨#[], #[.slice none 0 0, .slice none 0 0], []⟩ 8 (by kernel_rfl) (by kernel_rfl) (by kernel_rfl) (by kernel_rfl)) ?_
  intro W base args ds gs before hval0 hW hcnd _
  have hval : ∀ (j : Nat) t v, Try.f3.params[j]? = some t → args[j]? = some v → Value.okWide Try.prog W .any base t v := hval0
  have hW' := hW
  obtain ⟨p, q, hA0, hV, rfl, hfz, hnd⟩ := hW
  have hA1 : DataW.TrodAll enc Try.prog W 0 (fun _ => true) true Try.f3.params.toList args.toList ds p := hA0
  have hA : DataW.TrodAll enc Try.prog W 0 (fun _ => true) true Try.f3.params.toList args.toList ds p := hA0
  rw [Try.params3] at hA hval
  obtain ⟨v0, vs0, d0, ds0, p0, q0, hargs, rfl, rfl, h0, r0⟩ := trodAll_cons hA
  obtain ⟨v1, vs1, d1, ds1, p1, q1, rfl, rfl, rfl, h1, r1⟩ := trodAll_cons r0
  obtain ⟨rfl, rfl, rfl⟩ := trodAll_nil r1
  obtain rfl : args = #[v0, v1] := by cases args; simp_all
  obtain ⟨rfl, rfl⟩ := trodVars_none hV
  obtain ⟨A, n, c, Xs, rfl, hA9⟩ := open_opRow (hval 0 22 v0 rfl rfl) h0
  obtain ⟨B, m, d, Ys, rfl, hB9⟩ := open_opRow (hval 1 22 v1 rfl rfl) h1
  have cA := (open_capr Try.underlying22 h0).imp id And.left
  have cB := (open_capr Try.underlying22 h1).imp id And.left
  clear hA0 hval0
  refine (commuteRows_any A n c Xs B m d Ys W hA9 hB9 cA cB).mono fun e W' ⟨he, bel⟩ => ?_
  subst he
  exact ⟨_, rfl, _, _, _, [], _, [], hW', trodAll_mk1 (shut_bool Try.underlying4 _), trodAll_stays laidOut_CommuteRows bel (by kernel_rfl) hA1, rfl, bel.frame _, fun h => by cases h⟩

/-- The statement. -/
theorem CommuteRows_holds : Rows.CommuteRowsSaid :=
  OpenClaim.holds_of_wide 3 Try.f3 rfl rfl rfl rfl rfl rfl rfl ⟨rfl, rfl, rfl, rfl, rfl⟩ rfl rfl rfl rfl rfl (by kernel_rfl) Try.func3 (by kernel_rfl)
    (of_decide_eq_true (by kernel_rfl)) (by unfold Func.isWrapper; first | (rw [if_pos (by decide +kernel)]; kernel_rfl) | (rw [if_neg (by decide +kernel)]; exact ⟨rfl, rfl⟩))
    (fun os started H enc _ => lifted_CommuteRows os started H enc)
end
#print axioms CommuteRows_holds
end Go.Proofs.Ytmfngampccpkhaa

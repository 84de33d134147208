
/- For any rows of operations base, a and b: where a and b are apart, and both orders can be applied to the tree of base, they make the same files. No condition beyond the statement's own. -/
import Derived.Test.YtmfngampccpkhaaRo5
import Derived.Test.YtmfngampccpkhaaFl5
import Derived.Test.YtmfngampccpkhaaRows
import Derived.ChangeShapes
import Derived.Deep.DeepCutAuto
set_option linter.unusedSimpArgs false
set_option linter.unusedVariables false
namespace Go.Proofs.Ytmfngampccpkhaa
open Go.RowKit Go.Qc Go.Shelf
attribute [local go_sem] txt_size txt_append ib_fold txt_toL

theorem rowG_rd {W : World} {base g : Nat} {A : Option Addr} {Xs : List OpV} (h : RowG W base g A Xs) (hK : ∀ X ∈ Xs, X.D.K.length = 32) : OpRd W A Xs := by
  refine ⟨hK, ?_⟩
  rcases h with h | ⟨rfl, _, cs, hc, hv⟩
  · exact .inl h
  · exact .inr ⟨g, 0, rfl, fun j v hj => by rw [Nat.zero_add]; exact hc.cell_ (hv j v hj)⟩
/-- A row of operations that is read, with its data. -/
def RowE (W : World) (A : Option Addr) (n : Nat) (L : List OpD) : Prop := ∃ Xs : List OpV, Xs.length = n ∧ Xs.map OpV.D = L ∧ OpRd W A Xs ∧ ∀ X ∈ Xs, OpR W X.D X.A X.n X.B X.m
theorem RowE.below {W W' : World} {A : Option Addr} {n : Nat} {L : List OpD} (h : RowE W A n L) (hb : Below W.heap.size W W') : RowE W' A n L := by
  obtain ⟨Xs, h1, h2, h3, h4⟩ := h
  exact ⟨Xs, h1, h2, h3.below hb, fun X hX => (h4 X hX).below hb⟩
theorem RowE.none_ {W : World} {A : Option Addr} {n : Nat} {L : List OpD} (h : RowE W A n L) (hA : A = none) : n = 0 := by
  obtain ⟨Xs, h1, _, h3, _⟩ := h
  rcases h3.2 with rfl | ⟨g, o, h, _⟩
  · exact h1.symm
  · rw [hA] at h; cases h
/-- A tree that is read, with its data. -/
def TrD (W : World) (A : Option Addr) (n : Nat) (L : List FD) : Prop := ∃ Xs : List FlV, Xs.length = n ∧ n ≤ 300 ∧ Xs.map FlV.D = L ∧ FlRd W A Xs ∧ ∀ X ∈ Xs, FlOk W X
theorem TrD.below {W W' : World} {A : Option Addr} {n : Nat} {L : List FD} (h : TrD W A n L) (hb : Below W.heap.size W W') : TrD W' A n L := by
  obtain ⟨Xs, h1, h2, h3, h4, h5⟩ := h
  exact ⟨Xs, h1, h2, h3, h4.below hb, fun X hX => (h5 X hX).below hb⟩
theorem run_append_owned_nil {P : Program} {w : World} (base : Nat) (t ty e : TypeId) (i : TypeInfo) (size c : Nat) (ht : P.underlying t = some (.slice e)) (hi : P.info? e = some i)
    (v : Value) (n : Nat) (xs : List Value) (hown : w.ownsRow base e size v n xs) :
    (Builtin.append_ #[t, t] ty #[v, .slice none 0 c]).run P w = .ok v w := by
  rcases hown.2 with ⟨rfl, rfl⟩ | ⟨g, cap, cur, rfl, _, _, hnc, _⟩
  · simp [Builtin.append_, run_underlying ht, sizeOf, typeInfo, hi, Builtin.lenOf, Builtin.firstCells]
  · simp [Builtin.append_, run_underlying ht, sizeOf, typeInfo, hi, Builtin.lenOf, Builtin.firstCells, hnc, storeCells]
/-- A row that grows from a world on. -/
def AppS (W w : World) (v : Value) (n : Nat) (L : List OpD) : Prop := (∃ Os : List OpV, OwnOps w W.heap.size v n Os ∧ Os.map OpV.D = L ∧ ∀ X ∈ Os, OpR W X.D X.A X.n X.B X.m) ∧ Below W.heap.size W w
theorem AppS.made (W : World) : AppS W (W.alloc (.cells #[] 42)) (.slice (some ⟨W.heap.size, 0, none⟩) 0 0) 0 [] :=
  ⟨⟨[], OwnOps.made W, rfl, by simp⟩, (Below.refl _ _).alloc (Nat.le_refl _) _⟩
theorem AppS.row {W w : World} {v : Value} {n : Nat} {L : List OpD} (h : AppS W w v n L) : ∃ A c, v = .slice A n c ∧ RowE w A n L := by
  obtain ⟨⟨Os, h1, h2, h3⟩, hb⟩ := h
  obtain ⟨A, c, rfl, l1, l2, l3, l4⟩ := h1.rd (fun X hX => (h3 X hX).hK)
  exact ⟨A, c, rfl, Os, l1, h2, l4, fun X hX => (h3 X hX).below hb⟩
theorem wpList_append_rowE (W : World) {w : World} {ops : Array Oper} {rest : List Oper} {o : Oper} {a : Act} {Q : Exit → Act → World → Prop} (hgd : o.guard = none) (s x : Operand)
    (ho : o.op = .call { callee := .builtin .append, args := #[s, x], argTypes := #[22, 22] })
    (v : Value) (n : Nat) (L : List OpD) (hs : a.eval s = v) (hown : AppS W w v n L)
    (A : Option Addr) (m c : Nat) (M : List OpD) (hx : a.eval x = .slice A m c) (hr : RowE W A m M) (hn : n + m ≤ 1000)
    (h : ∀ v' w', AppS W w' v' (n + m) (L ++ M) → wpList Try.prog ops Q rest (a.put o.dst v') w') : wpList Try.prog ops Q (o :: rest) a w := by
  obtain ⟨⟨Os, o1, o2, o3⟩, hb⟩ := hown
  have hnone := hr.none_
  obtain ⟨Xs, x1, x2, x3, x4⟩ := hr
  have key : ∀ X ∈ Os ++ Xs, OpR W X.D X.A X.n X.B X.m := fun X hX => by
    rcases List.mem_append.1 hX with hX | hX
    · exact o3 X hX
    · exact x4 X hX
  have fin : ∀ v' w', OwnOps w' W.heap.size v' (n + m) (Os ++ Xs) → w.grownBy w' v.ownBlock → wpList Try.prog ops Q rest (a.put o.dst v') w' := fun v' w' h1 h2 =>
    h v' w' ⟨⟨Os ++ Xs, h1, by rw [List.map_append, o2, x2], key⟩, o1.grown h2 (Nat.le_refl _) hb hb.size⟩
  cases A with
  | none =>
    obtain rfl : m = 0 := hnone rfl
    obtain rfl : Xs = [] := List.eq_nil_of_length_eq_zero x1
    obtain ⟨j0, Z, hj, hjz, hjs, hZ, hjb⟩ := infoOp4
    refine wpList_plain hgd fun K hK => ?_
    have hrun := run_append_owned_nil (P := Try.prog) (w := w) W.heap.size 22 o.type 42 j0 39 c Try.underlying22 hj v n (opsV Os) o1
    unfold Oper.wp execOp
    simp only [ho, resolve, invoke, builtin, Sem.run_bind, Sem.run_pure, Result.andThen_ok, List.map_toArray, List.map_cons, List.map_nil, hs, hx, hrun]
    exact hK _ _ (fin v w (by rw [List.append_nil]; exact o1) ⟨rfl, rfl, rfl, Nat.le_refl _, fun _ _ _ => rfl⟩)
  | some ad => exact wpList_append_ops hgd s x ho W.heap.size v n Os hs o1 (some ad) m c Xs hx x1 (fun e => by cases e) (x3.below hb) hn hb.size fin
theorem all_trd {W : World} {TA A : Option Addr} {tn tc m c : Nat} {L : List FD} {os : List OpD} (hT : TrD W TA tn L) (hm : m ≤ 1000) (hR : RowE W A m os) :
    Calls Try.prog 11 #[.slice TA tn tc, .slice A m c] W fun e w' => ∃ (A7 : Option Addr) (n7 c7 : Nat) (i : Value) (r : Int), e = .returned (.tuple #[.slice A7 n7 c7, i, .int .i64 r]) ∧ Hid ((∃ M, allF 0 L os = .ok M ∧ TrD w' A7 n7 M ∧ r = 0) ∨ (∃ k, allF 0 L os = .error (k, r) ∧ A7 = TA ∧ n7 = tn ∧ ¬ r = 0)) ∧ Below W.heap.size W w' := by
  obtain ⟨Ts, t1, t2, t3, t4, t5⟩ := hT
  obtain ⟨Os, o1, o2, o3, o4⟩ := hR
  refine (rall14_any TA tn tc Ts A m c Os W t1 t2 t4 t5 o1 hm o3 o4).mono ?_
  rintro e w' ⟨v, i, r, rfl, h | h, hb⟩
  · obtain ⟨Ys, A4, n4, c4, rfl, rfl, rfl, h1, h2, h3, h4, h5⟩ := h
    rw [t3, o2] at h1
    exact ⟨A4, n4, c4, _, 0, rfl, hid (.inl ⟨_, h1, ⟨Ys, h2, h3, rfl, h4, h5⟩, rfl⟩), hb⟩
  · obtain ⟨k, e, rfl, rfl, rfl, h1, h2⟩ := h
    rw [t3, o2] at h1
    exact ⟨TA, tn, tc, _, e, rfl, hid (.inr ⟨k, h1, rfl, rfl, h2⟩), hb⟩
theorem same_trd {W : World} {A B : Option Addr} {n n' c d : Nat} {L : List FD} (h : TrD W A n L) (h' : TrD W B n' L) : Calls Try.prog 12 #[.slice A n c, .slice B n' d] W fun e w' => e = .returned (.bool true) ∧ Below W.heap.size W w' := by
  obtain ⟨Xs, h1, h2, h3, h4, h5⟩ := h
  obtain ⟨Ys, g1, g2, g3, g4, g5⟩ := h'
  have : n' = n := by
    rw [← h1, ← g1]
    have := congrArg List.length (h3.trans g3.symm)
    rw [List.length_map, List.length_map] at this
    exact this.symm
  subst this
  exact rsame14_eq A _ c Xs B d Ys W h1 (by omega) h4 h5 g4 g5 (h3.trans g3.symm)

theorem TrD.nil_ (W : World) : TrD W none 0 [] := ⟨[], rfl, Nat.zero_le _, rfl, .inl rfl, by simp⟩
theorem trd_base {W w' : World} {A7 : Option Addr} {n7 : Nat} {L0 : List OpD} {r : Int} (h : Hid ((∃ M, allF 0 [] L0 = .ok M ∧ TrD w' A7 n7 M ∧ r = 0) ∨ (∃ k, allF 0 [] L0 = .error (k, r) ∧ A7 = none ∧ n7 = 0 ∧ ¬ r = 0))) : ∃ Lt, TrD w' A7 n7 Lt ∧ SortF Lt := by
  rcases h.out with ⟨M, h1, h2, _⟩ | ⟨k, _, rfl, rfl, _⟩
  · exact ⟨M, h2, (all_eff _ _ _ _ List.Pairwise.nil h1).1⟩
  · exact ⟨[], TrD.nil_ _, List.Pairwise.nil⟩

set_option maxRecDepth 100000 in
set_option maxHeartbeats 40000000 in
theorem csm_long (A0 : Option Addr) (n0 c0 : Nat) (A : Option Addr) (n c : Nat) (B : Option Addr) (m d : Nat) (w : World) (cF : Calls Try.prog 5 #[.slice (some ⟨w.heap.size, 0, none⟩) 3 3] (w.alloc (.cells #[.slice A0 n0 c0, .slice A n c, .slice B m d] 22)) fun e w' => e = .returned (.bool false) ∧ Below w.heap.size w w') : Calls Try.prog 4 #[.slice A0 n0 c0, .slice A n c, .slice B m d] w fun e w' => e = .returned (.bool true) ∧ Below w.heap.size w w' := by
  go_enter Try.func4, Try.ntmps4
  go_wp2_with (first
    | (go_at_call 5; (with_reducible refine cF.mono ?_); rintro o1 w1 ⟨rfl, hx⟩)
    | (go_at_call 6; (with_reducible refine (awake16_any _).mono ?_); rintro o9 w9 ⟨rfl, hb9⟩; have hx9 := hx.trans (hb9.mono hx.size)))
  go_ret
  exact ⟨rfl, hx9⟩

set_option maxRecDepth 100000 in
set_option maxHeartbeats 40000000 in
theorem csm_touch (A0 : Option Addr) (n0 c0 : Nat) (A : Option Addr) (n c : Nat) (B : Option Addr) (m d : Nat) (w : World) (b0 : n0 ≤ 400) (bn : n ≤ 400) (bm : m ≤ 400) (L0 La Lb : List OpD) (r0 : RowE w A0 n0 L0) (ra : RowE w A n La) (rb : RowE w B m Lb) (cF : Calls Try.prog 5 #[.slice (some ⟨w.heap.size, 0, none⟩) 3 3] (w.alloc (.cells #[.slice A0 n0 c0, .slice A n c, .slice B m d] 22)) fun e w' => e = .returned (.bool true) ∧ Below w.heap.size w w') (cS : ∀ W, Below w.heap.size w W → Calls Try.prog 7 #[.slice A n c, .slice B m d] W fun e w' => e = .returned (.tuple #[.slice none 0 0, .slice none 0 0, .bool false]) ∧ Below W.heap.size W w') : Calls Try.prog 4 #[.slice A0 n0 c0, .slice A n c, .slice B m d] w fun e w' => e = .returned (.bool true) ∧ Below w.heap.size w w' := by
  go_enter Try.func4, Try.ntmps4
  go_upto_region 5 with (first
    | (go_at_call 5; (with_reducible refine cF.mono ?_); rintro o1 w1 ⟨rfl, hx⟩)
    | (go_at_call 7; (with_reducible refine (cS _ hx).mono ?_); rintro o2 w2 ⟨rfl, hb⟩; replace hx := hx.trans (hb.mono hx.size); clear hb)
    | (go_at_call 11; (with_reducible refine (all_trd (TrD.nil_ _) (by omega) (r0.below hx)).mono ?_); rintro o3 w3 ⟨TA, tn, tc, ti, tr, rfl, HT, hb⟩; replace hx := hx.trans (hb.mono hx.size); clear hb))
  obtain ⟨Lt, hT0, hs0⟩ : ∃ Lt, TrD w3 TA tn Lt ∧ SortF Lt := trd_base (W := w3) HT
  have HT0 := hid hT0
  have HS0 := hid hs0
  clear hT0 hs0 HT
  go_upto_region 7 with (first
    | (at_builtin; refine wpList_append_rowE w3 rfl _ _ rfl _ 0 [] rfl (AppS.made w3) A n c La rfl (ra.below hx) (by omega) ?_; intro v1 V1 hA1)
    | (at_builtin; refine wpList_append_rowE w3 rfl _ _ rfl _ _ _ rfl hA1 B m d Lb rfl (rb.below hx) (by omega) ?_; intro v2 V2 hA2; have hbV := hA2.2; obtain ⟨A6, c6, rfl, r6⟩ := hA2.row; rw [Nat.zero_add] at r6)
    | (go_at_call 11; (with_reducible refine (all_trd (HT0.out.below hbV) (by omega) r6).mono ?_); rintro o5 w5 ⟨B5, n5, c5, i5, r5, rfl, H5, hb⟩; replace hbV := hbV.trans (hb.mono hbV.size); clear hb))
  replace hx := hx.trans (hbV.mono hx.size)
  go_wp2_with (first
    | (go_at_call 6; (with_reducible refine (awake16_any _).mono ?_); rintro o9 w9 ⟨rfl, hb9⟩; have hx9 := hx.trans (hb9.mono hx.size)))
  go_ret
  exact ⟨rfl, hx9⟩

set_option maxRecDepth 100000 in
set_option maxHeartbeats 40000000 in
theorem csm_ok (A0 : Option Addr) (n0 c0 : Nat) (A : Option Addr) (n c : Nat) (B : Option Addr) (m d : Nat) (w : World) (b0 : n0 ≤ 400) (bn : n ≤ 400) (bm : m ≤ 400) (L0 La Lb : List OpD) (r0 : RowE w A0 n0 L0) (ra : RowE w A n La) (rb : RowE w B m Lb) (Ps Ts : List OpD) (hq : rowsF 0 Lb La = .ok (Ps, Ts)) (cF : Calls Try.prog 5 #[.slice (some ⟨w.heap.size, 0, none⟩) 3 3] (w.alloc (.cells #[.slice A0 n0 c0, .slice A n c, .slice B m d] 22)) fun e w' => e = .returned (.bool true) ∧ Below w.heap.size w w') (cS : ∀ W, Below w.heap.size w W → Calls Try.prog 7 #[.slice A n c, .slice B m d] W fun e w' => ∃ A1 c1 A2 c2, e = .returned (.tuple #[.slice A1 m c1, .slice A2 n c2, .bool true]) ∧ RowE w' A1 m Ps ∧ RowE w' A2 n Ts ∧ Below W.heap.size W w') : Calls Try.prog 4 #[.slice A0 n0 c0, .slice A n c, .slice B m d] w fun e w' => e = .returned (.bool true) ∧ Below w.heap.size w w' := by
  have HQ := hid hq
  clear hq
  go_enter Try.func4, Try.ntmps4
  go_upto_region 5 with (first
    | (go_at_call 5; (with_reducible refine cF.mono ?_); rintro o1 w1 ⟨rfl, hx⟩)
    | (go_at_call 7; (with_reducible refine (cS _ hx).mono ?_); rintro o2 w2 ⟨A1, e1, A2, e2, rfl, x1, x2, hb⟩; replace hx := hx.trans (hb.mono hx.size); clear hb)
    | (go_at_call 11; (with_reducible refine (all_trd (TrD.nil_ _) (by omega) (r0.below hx)).mono ?_); rintro o3 w3 ⟨TA, tn, tc, ti, tr, rfl, HT, hb⟩; replace x1 := x1.below hb; replace x2 := x2.below hb; replace hx := hx.trans (hb.mono hx.size); clear hb))
  obtain ⟨Lt, hT0, hs0⟩ : ∃ Lt, TrD w3 TA tn Lt ∧ SortF Lt := trd_base (W := w3) HT
  have HT0 := hid hT0
  have HS0 := hid hs0
  clear hT0 hs0 HT
  go_upto_region 7 with (first
    | (at_builtin; refine wpList_append_rowE w3 rfl _ _ rfl _ 0 [] rfl (AppS.made w3) A n c La rfl (ra.below hx) (by omega) ?_; intro v1 V1 hA1)
    | (at_builtin; refine wpList_append_rowE w3 rfl _ _ rfl _ _ _ rfl hA1 B m d Lb rfl (rb.below hx) (by omega) ?_; intro v2 V2 hA2; have hbV := hA2.2; obtain ⟨A6, c6, rfl, r6⟩ := hA2.row; rw [Nat.zero_add] at r6)
    | (go_at_call 11; (with_reducible refine (all_trd (HT0.out.below hbV) (by omega) r6).mono ?_); rintro o5 w5 ⟨B5, n5, c5, i5, s5, rfl, H5, hb⟩; replace hbV := hbV.trans (hb.mono hbV.size); clear hb))
  replace hx := hx.trans (hbV.mono hx.size)
  replace x1 := x1.below hbV
  replace x2 := x2.below hbV
  have HT1 := hid (HT0.out.below hbV)
  clear hA1 hA2 r6 HT0 hbV cS
  rcases H5.out with ⟨M, m1, m2, rfl⟩ | ⟨k5, m1, _, _, m2⟩
  · have HM := hid m1
    have HO := hid m2
    clear m1 m2 H5
    go_upto_region 10 with (first
      | (at_builtin; refine wpList_append_rowE w5 rfl _ _ rfl _ 0 [] rfl (AppS.made w5) A1 m e1 Ps rfl x1 (by omega) ?_; intro v3 V3 hA3)
      | (at_builtin; refine wpList_append_rowE w5 rfl _ _ rfl _ _ _ rfl hA3 A2 n e2 Ts rfl x2 (by omega) ?_; intro v4 V4 hA4; have hbW := hA4.2; obtain ⟨A8, c8, rfl, r8⟩ := hA4.row; rw [Nat.zero_add] at r8)
      | (go_at_call 11; (with_reducible refine (all_trd (HT1.out.below hbW) (by omega) r8).mono ?_); rintro o8 w8 ⟨B8, n8, f8, i8, s8, rfl, H8, hb⟩; replace hbW := hbW.trans (hb.mono hbW.size); clear hb))
    replace hx := hx.trans (hbW.mono hx.size)
    have HO2 := HO.out.below hbW
    clear hA3 hA4 r8 HT1 HO hbW x1 x2
    rcases H8.out with ⟨N, m3, m4, rfl⟩ | ⟨k8, m3, _, _, m4⟩
    · have e : M = N := rows_same HS0.out HQ.out HM.out m3
      subst e
      clear m3 H8
      go_wp2_with (first
        | (go_at_call 12; (with_reducible refine (same_trd HO2 m4).mono ?_); rintro o6 w6 ⟨rfl, hb⟩; replace hx := hx.trans (hb.mono hx.size); clear hb)
        | (go_at_call 6; (with_reducible refine (awake16_any _).mono ?_); rintro o9 w9 ⟨rfl, hb9⟩; have hx9 := hx.trans (hb9.mono hx.size)))
      go_ret
      exact ⟨rfl, hx9⟩
    · clear m3 H8 HO2
      go_wp2_with (first
        | (go_at_call 6; (with_reducible refine (awake16_any _).mono ?_); rintro o9 w9 ⟨rfl, hb9⟩; have hx9 := hx.trans (hb9.mono hx.size)))
      go_ret
      exact ⟨rfl, hx9⟩
  · clear m1 H5 HT1 x1 x2
    go_wp2_with (first
      | (go_at_call 6; (with_reducible refine (awake16_any _).mono ?_); rintro o9 w9 ⟨rfl, hb9⟩; have hx9 := hx.trans (hb9.mono hx.size)))
    go_ret
    exact ⟨rfl, hx9⟩

theorem lng_smallc {D : OpD} (h : lngO D = false) : D.p.length ≤ 300 ∧ D.t.length ≤ 300 ∧ D.o.length ≤ 40 ∧ D.n.length ≤ 40 ∧ (∀ x ∈ D.o, x.length ≤ 300) ∧ ∀ x ∈ D.n, x.length ≤ 300 := by
  unfold lngO at h
  simp only [Bool.or_eq_false_iff, decide_eq_false_iff_not, List.any_cons, List.any_nil, List.any_eq_false, decide_eq_true_eq] at h
  obtain ⟨a, b, c, d, e, f⟩ := h
  refine ⟨by omega, by omega, by omega, by omega, fun x hx => ?_, fun x hx => ?_⟩
  · have := e x hx; omega
  · have := f.1 x hx; omega

theorem opR_lngc (D : OpD) (A : Option Addr) (n c : Nat) (B : Option Addr) (m d : Nat) (w : World) (K1 : D.K.length = 32) (y1 : LnO w A n D.o) (y2 : LnO w B m D.n) (hl : lngO D = false) : OpR w D A n B m := by
  obtain ⟨z1, z2, z3, z4, z5, z6⟩ := lng_smallc hl
  exact ⟨y1.1, by have := y1.1; omega, fun x hx => Nat.le_trans (z5 x hx) (by decide), y2.1, by have := y2.1; omega, fun x hx => Nat.le_trans (z6 x hx) (by decide), y1.2.2, y2.2.2, K1, by omega, by omega⟩
theorem OpRow.rowE {w : World} {A : Option Addr} {n : Nat} {Xs : List OpV} (h : OpRow w A n Xs) (hX : ∀ X ∈ Xs, lngO X.D = false) : RowE w A n (Xs.map OpV.D) :=
  ⟨Xs, h.1, rfl, h.2.2.1, fun X hx => by
    obtain ⟨q1, q2, q3, q4, q5⟩ := h.2.2.2 X hx
    exact opR_lngc X.D X.A X.n X.c X.B X.m X.d w q1 q2 q3 (hX X hx)⟩
theorem commuteSame_any (A0 : Option Addr) (n0 c0 : Nat) (Zs : List OpV) (A : Option Addr) (n c : Nat) (Xs : List OpV) (B : Option Addr) (m d : Nat) (Ys : List OpV) (w : World) (h0 : OpRow w A0 n0 Zs) (hA : OpRow w A n Xs) (hB : OpRow w B m Ys) :
    Calls Try.prog 4 #[.slice A0 n0 c0, .slice A n c, .slice B m d] w fun e w' => e = .returned (.bool true) ∧ Below w.heap.size w w' := by
  have hb0 := (Below.refl w.heap.size w).alloc (Nat.le_refl _) (.cells #[.slice A0 n0 c0, .slice A n c, .slice B m d] 22)
  have hl : ([⟨A0, n0, c0, Zs⟩, ⟨A, n, c, Xs⟩, ⟨B, m, d, Ys⟩] : List RowV).length = 3 := rfl
  have cF : Calls Try.prog 5 #[.slice (some ⟨w.heap.size, 0, none⟩) 3 3] (w.alloc (.cells #[.slice A0 n0 c0, .slice A n c, .slice B m d] 22)) fun e w' => e = .returned (.bool (fewB [⟨A0, n0, c0, Zs⟩, ⟨A, n, c, Xs⟩, ⟨B, m, d, Ys⟩])) ∧ Below w.heap.size w w' := by
    refine (fewr_any ⟨w.heap.size, 0, none⟩ 3 [⟨A0, n0, c0, Zs⟩, ⟨A, n, c, Xs⟩, ⟨B, m, d, Ys⟩] hl (by decide) _ (.inr ⟨_, rfl, fun j u hj => ?_⟩) (fun R hR => ?_)).mono (fun e w' h => ⟨h.1, hb0.trans (h.2.mono hb0.size)⟩)
    · rw [Addr.add_lit, Nat.zero_add, cell_of_row _ _ _ _ _ _ (heap_alloc_new w _), ← Array.getElem?_toList]
      exact hj
    · simp at hR
      rcases hR with rfl | rfl | rfl
      · exact ⟨h0.1, h0.2.1, h0.2.2.1.below hb0, fun X hX => (h0.2.2.2 X hX).below hb0⟩
      · exact ⟨hA.1, hA.2.1, hA.2.2.1.below hb0, fun X hX => (hA.2.2.2 X hX).below hb0⟩
      · exact ⟨hB.1, hB.2.1, hB.2.2.1.below hb0, fun X hX => (hB.2.2.2 X hX).below hb0⟩
  cases hf : fewB [⟨A0, n0, c0, Zs⟩, ⟨A, n, c, Xs⟩, ⟨B, m, d, Ys⟩] with
  | false => exact csm_long A0 n0 c0 A n c B m d w (by rw [← hf]; exact cF)
  | true =>
    rw [hf] at cF
    simp only [fewB, List.all_cons, List.all_nil, Bool.and_true, Bool.and_eq_true, decide_eq_true_eq, List.all_eq_true, Bool.not_eq_true'] at hf
    obtain ⟨⟨hn0, hZ⟩, ⟨hn, hX⟩, hm, hY⟩ := hf
    have r0 := h0.rowE hZ
    have ra := hA.rowE hX
    have rb := hB.rowE hY
    have rX : ∀ X ∈ Xs, OpR w X.D X.A X.n X.B X.m := fun X h => by
      obtain ⟨q1, q2, q3, q4, q5⟩ := hA.2.2.2 X h
      exact opR_lngc X.D X.A X.n X.c X.B X.m X.d w q1 q2 q3 (hX X h)
    have rY : ∀ X ∈ Ys, OpR w X.D X.A X.n X.B X.m := fun X h => by
      obtain ⟨q1, q2, q3, q4, q5⟩ := hB.2.2.2 X h
      exact opR_lngc X.D X.A X.n X.c X.B X.m X.d w q1 q2 q3 (hY X h)
    cases hq : rowsF 0 (Ys.map OpV.D) (Xs.map OpV.D) with
    | ok r =>
      obtain ⟨Ps, Ts⟩ := r
      refine csm_ok A0 n0 c0 A n c B m d w (by omega) (by omega) (by omega) _ _ _ r0 ra rb Ps Ts hq cF (fun W h => ?_)
      refine (crows_any A n c Xs B m d Ys W hA.1 (by omega) (hA.2.2.1.below h) (fun X hx => (rX X hx).below h) hB.1 (by omega) (hB.2.2.1.below h) (fun X hx => (rY X hx).below h)).mono ?_
      rintro e w' (⟨A1, c1, A2, c2, g1, g2, Fs, Us, rfl, h1, h2, h3, h4, h5, h6, h7, h8⟩ | ⟨_, _, _, h3, _⟩)
      · rw [hq] at h3
        injection h3 with h3
        injection h3 with h9 h10
        subst h9 h10
        exact ⟨A1, c1, A2, c2, rfl, ⟨Fs, h1, rfl, rowG_rd h4 (fun X hX => (h6 X hX).hK), fun X hX => (h6 X hX).rd⟩, ⟨Us, h2, rfl, rowG_rd h5 (fun X hX => (h7 X hX).hK), fun X hX => (h7 X hX).rd⟩, h8⟩
      · rw [hq] at h3; cases h3
    | error ik =>
      obtain ⟨i, k⟩ := ik
      refine csm_touch A0 n0 c0 A n c B m d w (by omega) (by omega) (by omega) _ _ _ r0 ra rb cF (fun W h => ?_)
      refine (crows_any A n c Xs B m d Ys W hA.1 (by omega) (hA.2.2.1.below h) (fun X hx => (rX X hx).below h) hB.1 (by omega) (hB.2.2.1.below h) (fun X hx => (rY X hx).below h)).mono ?_
      rintro e w' (⟨A1, c1, A2, c2, g1, g2, Fs, Us, rfl, h1, h2, h3, _⟩ | ⟨_, _, h1, h3, h4⟩)
      · rw [hq] at h3; cases h3
      · exact ⟨h1, h4⟩

section
open Go.ChangeShapes Go.WideShapes Go.ChangeAt
open Go.ChangeMaps (open_string shut_string)
theorem own_CommuteSame : ownKnob Try.prog.godebug = none := by kernel_rfl
theorem laidOut_CommuteSame : laidOutB Try.prog = true := by kernel_rfl
set_option linter.unusedVariables false in
set_option maxRecDepth 100000 in
theorem lifted_CommuteSame (os : Os) (started : os.Started) (H : Type) (enc : TypeId × Value → H) :
    ReturnsInHanded {} Try.checked os 4 .any (Rows.commuteSameSpec.pre6 enc Try.prog Try.f4 Rows.commuteSameRow.domain false) (Rows.commuteSameSpec.post enc Try.prog Try.f4 false true false false) := by
  refine returnsInHanded_of_change (C := Try.checked) own_CommuteSame started (by kernel_rfl) Try.func4
    (ChangeSpec.witness6 (enc := enc) (C := Try.checked) false ⟨#[], #[.slice none 0 0, .slice none 0 0, .slice none 0 0], []⟩ 8 (by kernel_rfl) (by kernel_rfl) (by kernel_rfl) (by kernel_rfl)) ?_
  intro W base args ds gs before hval0 hW hcnd _
  have hval : ∀ (j : Nat) t v, Try.f4.params[j]? = some t → args[j]? = some v → Value.okWide Try.prog W .any base t v := hval0
  have hW' := hW
  obtain ⟨p, q, hA0, hV, rfl, hfz, hnd⟩ := hW
  have hA1 : DataW.TrodAll enc Try.prog W 0 (fun _ => true) true Try.f4.params.toList args.toList ds p := hA0
  have hA : DataW.TrodAll enc Try.prog W 0 (fun _ => true) true Try.f4.params.toList args.toList ds p := hA0
  rw [Try.params4] at hA hval
  obtain ⟨v0, vs0, d0, ds0, p0, q0, hargs, rfl, rfl, h0, r0⟩ := trodAll_cons hA
  obtain ⟨v1, vs1, d1, ds1, p1, q1, rfl, rfl, rfl, h1, r1⟩ := trodAll_cons r0
  obtain ⟨v2, vs2, d2, ds2, p2, q2, rfl, rfl, rfl, h2, r2⟩ := trodAll_cons r1
  obtain ⟨rfl, rfl, rfl⟩ := trodAll_nil r2
  obtain rfl : args = #[v0, v1, v2] := by cases args; simp_all
  obtain ⟨rfl, rfl⟩ := trodVars_none hV
  obtain ⟨A0, n0, c0, Zs, rfl, hZ9⟩ := open_opRow (hval 0 22 v0 rfl rfl) h0
  obtain ⟨A, n, c, Xs, rfl, hA9⟩ := open_opRow (hval 1 22 v1 rfl rfl) h1
  obtain ⟨B, m, d, Ys, rfl, hB9⟩ := open_opRow (hval 2 22 v2 rfl rfl) h2
  clear hA0 hval0
  refine (commuteSame_any A0 n0 c0 Zs A n c Xs B m d Ys W hZ9 hA9 hB9).mono fun e W' ⟨he, bel⟩ => ?_
  subst he
  exact ⟨_, rfl, _, _, _, [], _, [], hW', trodAll_mk1 (shut_bool Try.underlying4 _), trodAll_stays laidOut_CommuteSame bel (by kernel_rfl) hA1, rfl, bel.frame _, fun h => by cases h⟩

/-- The statement. -/
theorem CommuteSame_holds : Rows.CommuteSameSaid :=
  OpenClaim.holds_of_wide 4 Try.f4 rfl rfl rfl rfl rfl rfl rfl ⟨rfl, rfl, rfl, rfl, rfl⟩ rfl rfl rfl rfl rfl (by kernel_rfl) Try.func4 (by kernel_rfl)
    (of_decide_eq_true (by kernel_rfl)) (by unfold Func.isWrapper; first | (rw [if_pos (by decide +kernel)]; kernel_rfl) | (rw [if_neg (by decide +kernel)]; exact ⟨rfl, rfl⟩))
    (fun os started H enc _ => lifted_CommuteSame os started H enc)
end
#print axioms CommuteSame_holds
end Go.Proofs.Ytmfngampccpkhaa


/- Proved: for all operations, quitclaimlaw13.OpBytes returns true and leaves its argument as it was. No conditions. -/
import Derived.Test.YthpdkdalfjahcaaOpE
set_option linter.unusedSimpArgs false
set_option linter.unusedVariables false
namespace Go.Proofs.Ythpdkdalfjahcaa
open Go.RowKit Go.Qc Go.Shelf
attribute [local go_sem] txt_size txt_append ib_fold txt_toL

theorem new_gO (s : List UInt8) (w : World) : Calls Try.prog 33 #[.string (txt s)] w fun o w' => ∃ g, o = .returned (.pointer (some ⟨g, 0, none⟩)) ∧ w.heap.size ≤ g ∧ Rdr g s 0 0 w' ∧ Below w.heap.size w w' :=
  (pkNew_any s w).mono fun _ _ ⟨h1, h2, h3⟩ => ⟨_, h1, Nat.le_refl _, h2, h3⟩
theorem step_lowO {g n : Nat} {s : List UInt8} {a : Nat} {e : Int} {w0 w w' : World} (h0 : Below n w0 w) (hn : n ≤ w.heap.size) (h : Step g s a e w w') (hg : n ≤ g) : Below n w0 w' := h0.grown h.gb hn (fun k hk => by cases hk; exact hg)
theorem wpQuiet_load_opx {W0 : World} {ops : Array Oper} {Q : Act → Prop} {rest : List Oper} {o : Oper} {a : Act} (hw : Region.wanted o (yielded ops a.tmps) = true) (x : Operand) (ho : o.op = .load 74 x)
    (g : Nat) (hx : a.eval x = .pointer (some ⟨g, 0, none⟩)) {D : OpD} {A : Option Addr} {n c : Nat} {B : Option Addr} {m d : Nat} (hX : OpX W0 g D A n c B m d) (hK : D.K.length = 32)
    (h : wpQuiet Try.prog ops (fun w' => ∃ p : LaterW W0, w' = p.w) Q rest (a.put o.dst (.agg (opC D A n c B m d)))) : wpQuiet Try.prog ops (fun w' => ∃ p : LaterW W0, w' = p.w) Q (o :: rest) a := by
  refine wpQuiet_load_if hw 74 x ho g 0 hx (opC D A n c B m d).toList _ (range_later hX.all) Try.underlying74 rfl ?_ ?_
  · rw [infoOp, Array.length_toList, opC_size _ _ _ _ _ _ _ hK]
  · rw [Array.toArray_toList]; exact h
theorem lng_bounds {D : OpD} (h : lngO D = false) : D.p.length ≤ 300 ∧ D.t.length ≤ 300 ∧ D.o.length ≤ 40 ∧ D.n.length ≤ 40 ∧ (∀ x ∈ D.o, x.length ≤ 300) ∧ ∀ x ∈ D.n, x.length ≤ 300 := by
  unfold lngO at h
  simp only [Bool.or_eq_false_iff, decide_eq_false_iff_not, List.any_cons, List.any_nil, List.any_eq_false, decide_eq_true_eq] at h
  obtain ⟨a, b, c, d, e, f⟩ := h
  refine ⟨by omega, by omega, by omega, by omega, fun x hx => ?_, fun x hx => ?_⟩
  · have := e x hx; omega
  · have := f.1 x hx; omega
set_option maxRecDepth 100000 in
set_option maxHeartbeats 40000000 in
theorem obs_long (D : OpD) (hK : D.K.length = 32) (A : Option Addr) (n c : Nat) (B : Option Addr) (m d : Nat) (w : World) (y1 : LnO w A n D.o) (y2 : LnO w B m D.n) (bp : D.p.length ≤ 9223372036854775807) (bt : D.t.length ≤ 9223372036854775807) (hl : lngO D = true) :
    Calls Try.prog 6 #[.agg (opC D A n c B m d)] w fun e w' => e = .returned (.bool true) ∧ Below w.heap.size w w' := by
  have hX := OpX.new w D A n c B m d
  have hB : Below w.heap.size w (w.alloc (.cells (opC D A n c B m d) 74)) := (Below.refl _ w).alloc (Nat.le_refl _) _
  have cL : ∀ W, Below w.heap.size w W → Calls Try.prog 51 #[.agg (opC D A n c B m d)] W fun o w' => o = .returned (.bool true) ∧ Below W.heap.size W w' := fun W h => by
    have z := rlong13_any D hK A n c y1.1 y1.2.1 B m d y2.1 y2.2.1 bp bt W (y1.2.2.below h) (y2.2.2.below h)
    rwa [hl] at z
  go_enter Try.func6, Try.ntmps6
  go_wp2_with (first
    | (with_reducible refine wpList_load_opx (by with_unfolding_all rfl) _ rfl _ rfl hX hK ?_)
    | (go_at_call 51; (with_reducible refine (cL _ hB).mono ?_); rintro o1 w1 ⟨rfl, hb⟩; replace hB := hB.trans (hb.mono hB.size))
    | (go_at_call 52; (with_reducible refine (awake13_any _).mono ?_); rintro o2 w2 ⟨rfl, hb2⟩; replace hB := hB.trans (hb2.mono hB.size)))
  go_ret
  exact ⟨rfl, hB⟩
set_option maxRecDepth 100000 in
set_option maxHeartbeats 40000000 in
theorem obs_no (D : OpD) (A : Option Addr) (n c : Nat) (B : Option Addr) (m d : Nat) (w : World) (hR : OpR w D A n B m) (hl : lngO D = false) (hE : opE D ≠ 0) :
    Calls Try.prog 6 #[.agg (opC D A n c B m d)] w fun e w' => e = .returned (.bool true) ∧ Below w.heap.size w w' := by
  have hK := hR.hK
  have hX0 := OpX.new w D A n c B m d
  have hB0 : Below w.heap.size w (w.alloc (.cells (opC D A n c B m d) 74)) := (Below.refl _ w).alloc (Nat.le_refl _) _
  have cL : ∀ W, Below w.heap.size w W → Calls Try.prog 51 #[.agg (opC D A n c B m d)] W fun o w' => o = .returned (.bool false) ∧ Below W.heap.size W w' := fun W h => by
    have z := rlong13_any D hK A n c hR.lo (by have := hR.bn; omega) B m d hR.ln (by have := hR.bm; omega) (by have := hR.bp; omega) (by have := hR.bt; omega) W (hR.rA.below h) (hR.rB.below h)
    rwa [hl] at z
  have cPut : ∀ V, Below w.heap.size w V → Calls Try.prog 53 #[.pointer (some ⟨V.heap.size, 0, none⟩), .agg (opC D A n c B m d)] (V.alloc (.cells #[.slice none 0 0] 36)) fun o w' => o = .returned (.int .i64 (opE D)) ∧ Wrt V.heap.size [] w' ∧ Below V.heap.size (V.alloc (.cells #[.slice none 0 0] 36)) w' ∧ KpW (V.alloc (.cells #[.slice none 0 0] 36)) w' := fun V h =>
    oput_no V.heap.size [] D hK A n c hR.lo hR.bn B m d hR.ln hR.bm (by simp) w _ h.size (h.alloc h.size _) hR.rA hR.rB (Wrt.new V) hE
  have cR : ∀ W, Below w.heap.size w W → Calls Try.prog 54 #[.agg (opC D A n c B m d)] W fun o w' => o = .returned (.int .i64 (opE D)) ∧ Below W.heap.size W w' := fun W h =>
    rr13_any D hK A n c hR.lo (by have := hR.bn; omega) B m d hR.ln (by have := hR.bm; omega) (by have := hR.bp; omega) (by have := hR.bt; omega) (fun x hx => by have := hR.bo x hx; omega) (fun x hx => by have := hR.bx x hx; omega) W (hR.rA.below h) (hR.rB.below h)
  have cS : ∀ (b : Nat) (W : World), Wrt b [] W → Calls Try.prog 32 #[.pointer (some ⟨b, 0, none⟩)] W fun o w' => o = .returned (.string ⟨#[]⟩) ∧ w' = W := fun b W h => (pkWString_any _ _ W h).mono fun _ _ ⟨a, b⟩ => ⟨a, b.symm⟩
  have e1 : (opE D != 0) = true := by simpa using hE
  generalize opE D = E at *
  go_enter Try.func6, Try.ntmps6
  go_wp2_with (first
    | (with_reducible refine wpList_load_opx (by with_unfolding_all rfl) _ rfl _ rfl hX hK ?_)
    | (with_reducible refine wpList_load_opx (by with_unfolding_all rfl) _ rfl _ rfl hX0 hK ?_)
    | (go_at_call 51; (with_reducible refine (cL _ hB0).mono ?_); rintro o1 w1 ⟨rfl, hb⟩; have hX := hX0.below hb; have hB := hB0.trans (hb.mono hB0.size); clear hb; have hX := hX.alloc (.cells #[.slice none 0 0] 36); have hB' := hB; have hB := hB.alloc hB.size (.cells #[.slice none 0 0] 36); have hW := Wrt.new w1; have hwb := hB'.size; have cP := cPut w1 hB')
    | (go_at_call 53; (with_reducible refine cP.mono ?_); rintro o2 w2 ⟨rfl, hW2, hb2, hk2⟩; replace hX := hX.kp hk2; replace hB := hB'.trans ((((Below.refl w1.heap.size w1).alloc (Nat.le_refl _) (.cells #[.slice none 0 0] 36)).trans hb2).mono hwb); replace hW := hW2; clear hW2 hb2 hk2 cP)
    | (go_at_call 54; (with_reducible refine (cR _ hB).mono ?_); rintro o3 w3 ⟨rfl, hb⟩; replace hX := hX.below hb; replace hW := hW.below hb; replace hB := hB.trans (hb.mono hB.size); clear hb)
    | (go_at_call 32; (with_reducible refine (cS _ _ hW).mono ?_); rintro o4 w4 ⟨rfl, rfl⟩)
    | (go_at_call 52; (with_reducible refine (awake13_any _).mono ?_); rintro o5 w5 ⟨rfl, hb⟩; replace hX := hX.below hb; replace hW := hW.below hb; replace hB := hB.trans (hb.mono hB.size); clear hb))
  go_ret
  exact ⟨rfl, hB⟩
set_option maxRecDepth 100000 in
set_option maxHeartbeats 40000000 in
theorem obs_yes (D : OpD) (A : Option Addr) (n c : Nat) (B : Option Addr) (m d : Nat) (w : World) (hR : OpR w D A n B m) (hl : lngO D = false) (hE : opE D = 0) :
    Calls Try.prog 6 #[.agg (opC D A n c B m d)] w fun e w' => e = .returned (.bool true) ∧ Below w.heap.size w w' := by
  have hK := hR.hK
  have mixed : Try.prog.follows .mixedOrders = true := by kernel_rfl
  have hX0 := OpX.new w D A n c B m d
  have hB0 : Below w.heap.size w (w.alloc (.cells (opC D A n c B m d) 74)) := (Below.refl _ w).alloc (Nat.le_refl _) _
  have hSl := opB_len D hK hE
  obtain ⟨hG1, hG2⟩ := opG_back D hK hE (s := opB D) (rest := []) (a := 0) (by simp)
  rw [Nat.zero_add] at hG1
  have cL : ∀ W, Below w.heap.size w W → Calls Try.prog 51 #[.agg (opC D A n c B m d)] W fun o w' => o = .returned (.bool false) ∧ Below W.heap.size W w' := fun W h => by
    have z := rlong13_any D hK A n c hR.lo (by have := hR.bn; omega) B m d hR.ln (by have := hR.bm; omega) (by have := hR.bp; omega) (by have := hR.bt; omega) W (hR.rA.below h) (hR.rB.below h)
    rwa [hl] at z
  have cPut : ∀ V, Below w.heap.size w V → Calls Try.prog 53 #[.pointer (some ⟨V.heap.size, 0, none⟩), .agg (opC D A n c B m d)] (V.alloc (.cells #[.slice none 0 0] 36)) fun o w' => o = .returned (.int .i64 0) ∧ Wrt V.heap.size (opB D) w' ∧ Below V.heap.size (V.alloc (.cells #[.slice none 0 0] 36)) w' ∧ KpW (V.alloc (.cells #[.slice none 0 0] 36)) w' := fun V h => by
    have z := oput_any V.heap.size [] D hK A n c hR.lo hR.bn B m d hR.ln hR.bm (by simp) w _ h.size (h.alloc h.size _) hR.rA hR.rB (Wrt.new V)
    rwa [hE, if_pos rfl, List.nil_append] at z
  have cR : ∀ W, Below w.heap.size w W → Calls Try.prog 54 #[.agg (opC D A n c B m d)] W fun o w' => o = .returned (.int .i64 0) ∧ Below W.heap.size W w' := fun W h => by
    have z := rr13_any D hK A n c hR.lo (by have := hR.bn; omega) B m d hR.ln (by have := hR.bm; omega) (by have := hR.bp; omega) (by have := hR.bt; omega) (fun x hx => by have := hR.bo x hx; omega) (fun x hx => by have := hR.bx x hx; omega) W (hR.rA.below h) (hR.rB.below h)
    rwa [hE] at z
  have cS : ∀ (b : Nat) (S : List UInt8) (W : World), Wrt b S W → Calls Try.prog 32 #[.pointer (some ⟨b, 0, none⟩)] W fun o w' => o = .returned (.string (txt S)) ∧ Below W.heap.size W w' := fun b S W h => (pkWString_any _ _ W h).mono fun _ _ ⟨a, b⟩ => ⟨a, b ▸ Below.refl _ _⟩
  have cB : ∀ W, Below w.heap.size w W → Calls Try.prog 56 #[.agg (opC D A n c B m d)] W fun o w' => o = .returned (.string (txt (opB D))) ∧ Below W.heap.size W w' := fun W h => rb13_any D hK A n c hR.lo hR.bn B m d hR.ln hR.bm W (hR.rA.below h) (hR.rB.below h) hE
  have cG : ∀ (g : Nat) (W : World), Rdr g (opB D) 0 0 W → Calls Try.prog 55 #[.pointer (some ⟨g, 0, none⟩)] W fun o w' => OgP g (opB D) (opB D).length 0 D W o w' := fun g W h => by
    have z := oget_any g (opB D) 0 0 (by omega) (Nat.zero_le _) W h
    rwa [hG1, hG2] at z
  have hE1 : endE (opB D) (opB D).length 0 = 0 := by unfold endE; rw [if_pos rfl, if_neg (Nat.lt_irrefl _)]
  have cE : ∀ (g : Nat) (W : World), Rdr g (opB D) (opB D).length 0 W → Calls Try.prog 42 #[.pointer (some ⟨g, 0, none⟩)] W fun o w' => o = .returned (.int .i64 0) ∧ Below W.heap.size W w' := fun g W h => by
    have := pkEnd_any g _ _ 0 (Nat.le_refl _) (by omega) W h
    rw [hE1] at this
    exact this.mono fun _ _ ⟨a, b⟩ => ⟨a, step_below h b⟩
  have cM : ∀ (W : World) (A2 : Option Addr) (n2 c2 : Nat) (B2 : Option Addr) (m2 d2 : Nat), OpR W D A2 n2 B2 m2 → Below w.heap.size w W → Calls Try.prog 57 #[.agg (opC D A2 n2 c2 B2 m2 d2), .agg (opC D A n c B m d)] W fun o w' => o = .returned (.bool true) ∧ Below W.heap.size W w' := fun W A2 n2 c2 B2 m2 d2 h hb => rsame13_eq D A2 n2 c2 B2 m2 d2 A n c B m d W h (hR.below hb)
  have hIS : ∀ A n c B m d, (Try.prog.info? 74).map (·.size) = some (opC D A n c B m d).size := fun _ _ _ _ _ _ => by rw [opC_size _ _ _ _ _ _ _ hK]; exact infoOp
  have cN : ∀ W, Calls Try.prog 33 #[.string (txt (opB D))] W fun o w' => ∃ g, o = .returned (.pointer (some ⟨g, 0, none⟩)) ∧ W.heap.size ≤ g ∧ Rdr g (opB D) 0 0 w' ∧ Below W.heap.size W w' := fun W => new_gO _ W
  clear hG1 hG2 hE1
  generalize opB D = S at *
  go_enter Try.func6, Try.ntmps6
  go_wp2_with (first
    | (with_reducible refine wpList_load_opx (by with_unfolding_all rfl) _ rfl _ rfl hX hK ?_)
    | (with_reducible refine wpList_load_opx (by with_unfolding_all rfl) _ rfl _ rfl hX0 hK ?_)
    | (go_at_call 51; (with_reducible refine (cL _ hB0).mono ?_); rintro o1 w1 ⟨rfl, hb⟩; have hX := hX0.below hb; have hB := hB0.trans (hb.mono hB0.size); clear hb; have hX := hX.alloc (.cells #[.slice none 0 0] 36); have hB' := hB; have hB := hB.alloc hB.size (.cells #[.slice none 0 0] 36); have hW := Wrt.new w1; have hwb := hB'.size; have cP := cPut w1 hB')
    | (go_at_call 53; (with_reducible refine cP.mono ?_); rintro o2 w2 ⟨rfl, hW2, hb2, hk2⟩; replace hX := hX.kp hk2; replace hB := hB'.trans ((((Below.refl w1.heap.size w1).alloc (Nat.le_refl _) (.cells #[.slice none 0 0] 36)).trans hb2).mono hwb); replace hW := hW2; clear hW2 hb2 hk2 cP)
    | (go_at_call 54; (with_reducible refine (cR _ hB).mono ?_); rintro o3 w3 ⟨rfl, hb⟩; replace hX := hX.below hb; replace hW := hW.below hb; replace hB := hB.trans (hb.mono hB.size); clear hb)
    | (go_at_call 32; (with_reducible refine (cS _ _ _ hW).mono ?_); rintro o4 w4 ⟨rfl, hb⟩; replace hX := hX.below hb; replace hW := hW.below hb; replace hB := hB.trans (hb.mono hB.size); clear hb)
    | (go_at_call 33; (with_reducible refine (cN _).mono ?_); rintro o5 w5 ⟨g, rfl, hg, hRd, hbN⟩)
    | (go_at_call 55; (with_reducible refine (cG _ _ hRd).mono ?_); rintro o6 w6 ⟨A2, n2, c2, B2, m2, d2, rfl, hR2, hst⟩; have hb := step_lowO hbN hbN.size hst hg; have hRe := hst.r; clear hst hRd hbN; replace hX := hX.below hb; replace hW := hW.below hb; replace hB := hB.trans (hb.mono hB.size); clear hb)
    | (with_reducible refine wpList_store_new rfl 74 _ _ rfl (opC D A2 n2 c2 B2 m2 d2) rfl rfl (hIS _ _ _ _ _ _) ?s3 (opC_one _ _ _ _ _ _ _) ?_))
  case s3 => exact (opC_size _ _ _ _ _ _ _ hK).symm ▸ rfl
  have hY := OpX.new w6 D A2 n2 c2 B2 m2 d2
  have hb := (Below.refl w6.heap.size w6).alloc (Nat.le_refl _) (.cells (opC D A2 n2 c2 B2 m2 d2) 74)
  replace hX := hX.below hb
  replace hW := hW.below hb
  replace hB := hB.trans (hb.mono hB.size)
  clear hb
  have hR3 := hR2.alloc (.cells (opC D A2 n2 c2 B2 m2 d2) 74)
  have hR4 : Rdr g S S.length 0 (w6.alloc (.cells (opC D A2 n2 c2 B2 m2 d2) 74)) := Blk.alloc hRe _
  generalize w6.alloc (.cells (opC D A2 n2 c2 B2 m2 d2) 74) = W5 at *
  generalize w6.heap.size = gy at *
  have lW : ∀ P : LaterW W5, Wrt w1.heap.size S P.w := fun P => hW.below P.h
  have lR : ∀ P : LaterW W5, Rdr g S S.length 0 P.w := fun P => Blk.below hR4 P.h
  have lX : ∀ P : LaterW W5, Below w.heap.size w P.w := fun P => hB.trans (P.h.mono hB.size)
  have lO : ∀ P : LaterW W5, OpR P.w D A2 n2 B2 m2 := fun P => hR3.below P.h
  refine wp_region_later mixed (by kernel_rfl) ?_
  repeat (first
    | ((with_reducible refine wpQuiet_skip (by with_unfolding_all rfl) ?_); simp only [Act.put, List.setIfInBounds_toArray, List.set_cons_zero, List.set_cons_succ])
    | ((with_reducible refine wpQuiet_load_opx (by with_unfolding_all rfl) _ rfl _ rfl hX hK ?_); simp only [Act.put, List.setIfInBounds_toArray, List.set_cons_zero, List.set_cons_succ])
    | ((with_reducible refine wpQuiet_load_opx (by with_unfolding_all rfl) _ rfl _ rfl hY hK ?_); simp only [Act.put, List.setIfInBounds_toArray, List.set_cons_zero, List.set_cons_succ])
    | ((with_reducible refine wpQuiet_step (fun K hK' => ?_)); go_simp; first | ((with_reducible refine hK' _ ?_); clear hK' K) | (rw [if_neg (by first | decide | (intro h; cases h))]; (with_reducible refine hK' _ ?_); clear hK' K) | (with_reducible apply Exists.intro; (with_reducible refine ⟨fun P => ?_, hK' _ ?_⟩); (first | (go_at_call 32; exact later_of (cS _ _ _ (lW P))) | (go_at_call 56; exact later_of (cB _ (lX P))) | (go_at_call 42; exact later_of (cE _ _ (lR P))) | (go_at_call 57; exact later_of (cM _ _ _ _ _ _ _ (lO P) (lX P))) | (go_at_call 52; exact later_of (awake13_any _))); clear hK' K)))
  with_reducible refine wpQuiet_nil ?_
  intro _ hw'
  obtain ⟨P, rfl⟩ := hw'
  have hP := P.h
  generalize P.w = w9 at *
  go_wp2
  go_ret
  exact ⟨rfl, hB.trans (hP.mono hB.size)⟩
theorem opBytes_any (D : OpD) (hK : D.K.length = 32) (A : Option Addr) (n c : Nat) (B : Option Addr) (m d : Nat) (w : World) (y1 : LnO w A n D.o) (y2 : LnO w B m D.n) (bp : D.p.length ≤ 9223372036854775807) (bt : D.t.length ≤ 9223372036854775807) :
    Calls Try.prog 6 #[.agg (opC D A n c B m d)] w fun e w' => e = .returned (.bool true) ∧ Below w.heap.size w w' := by
  cases hl : lngO D with
  | true => exact obs_long D hK A n c B m d w y1 y2 bp bt hl
  | false =>
    obtain ⟨z1, z2, z3, z4, z5, z6⟩ := lng_bounds hl
    have hR : OpR w D A n B m := ⟨y1.1, by have := y1.1; omega, fun x hx => Nat.le_trans (z5 x hx) (by decide), y2.1, by have := y2.1; omega, fun x hx => Nat.le_trans (z6 x hx) (by decide), y1.2.2, y2.2.2, hK, by omega, by omega⟩
    by_cases hE : opE D = 0
    · exact obs_yes D A n c B m d w hR hl hE
    · exact obs_no D A n c B m d w hR hl hE

section
open Go.ChangeShapes Go.WideShapes Go.ChangeAt
open Go.ChangeMaps (open_string shut_string)
theorem own_OpBytes : ownKnob Try.prog.godebug = none := by kernel_rfl
theorem laidOut_OpBytes : laidOutB Try.prog = true := by kernel_rfl
set_option linter.unusedVariables false in
set_option maxRecDepth 100000 in
theorem lifted_OpBytes (os : Os) (started : os.Started) (H : Type) (enc : TypeId × Value → H) :
    ReturnsInHanded {} Try.checked os 6 .any (Rows.opBytesSpec.pre6 enc Try.prog Try.f6 Rows.opBytesRow.domain false) (Rows.opBytesSpec.post enc Try.prog Try.f6 false true false false) := by
  refine returnsInHanded_of_change (C := Try.checked) own_OpBytes started (by kernel_rfl) Try.func6
    (ChangeSpec.witness6 (enc := enc) (C := Try.checked) false ⟨#[], #[.agg #[.int .i64 0, .string ⟨#[]⟩, .string ⟨#[]⟩, .int .i64 0, .slice none 0 0, .slice none 0 0, .int .u8 0, .int .u8 0, .int .u8 0, .int .u8 0, .int .u8 0, .int .u8 0, .int .u8 0, .int .u8 0, .int .u8 0, .int .u8 0, .int .u8 0, .int .u8 0, .int .u8 0, .int .u8 0, .int .u8 0, .int .u8 0, .int .u8 0, .int .u8 0, .int .u8 0, .int .u8 0, .int .u8 0, .int .u8 0, .int .u8 0, .int .u8 0, .int .u8 0, .int .u8 0, .int .u8 0, .int .u8 0, .int .u8 0, .int .u8 0, .int .u8 0, .int .u8 0, .int .i64 0]], []⟩ 8 (by kernel_rfl) (by kernel_rfl) (by kernel_rfl) (by kernel_rfl)) ?_
  intro W base args ds gs before hval0 hW hcnd _
  have hval : ∀ (j : Nat) t v, Try.f6.params[j]? = some t → args[j]? = some v → Value.okWide Try.prog W .any base t v := hval0
  have hW' := hW
  obtain ⟨p, q, hA0, hV, rfl, hfz, hnd⟩ := hW
  have hA1 : DataW.TrodAll enc Try.prog W 0 (fun _ => true) true Try.f6.params.toList args.toList ds p := hA0
  have hA : DataW.TrodAll enc Try.prog W 0 (fun _ => true) true Try.f6.params.toList args.toList ds p := hA0
  rw [Try.params6] at hA hval
  obtain ⟨v0, vs0, d0, ds0, p0, q0, hargs, rfl, rfl, h0, r0⟩ := trodAll_cons hA
  obtain ⟨rfl, rfl, rfl⟩ := trodAll_nil r0
  obtain rfl : args = #[v0] := by cases args; simp_all
  obtain ⟨rfl, rfl⟩ := trodVars_none hV
  obtain ⟨D, A, n, c, B, m, d, rfl, hK, y1, y2, bp, bt⟩ := open_op (hval 0 74 v0 rfl rfl) h0
  clear hA0 hval0
  refine (opBytes_any D hK A n c B m d W y1 y2 bp bt).mono fun e W' ⟨he, bel⟩ => ?_
  subst he
  exact ⟨_, rfl, _, _, _, [], _, [], hW', trodAll_mk1 (shut_bool Try.underlying4 _), trodAll_stays laidOut_OpBytes bel (by kernel_rfl) hA1, rfl, bel.frame _, fun h => by cases h⟩

/-- The statement. -/
theorem OpBytes_holds : Rows.OpBytesSaid :=
  OpenClaim.holds_of_wide 6 Try.f6 rfl rfl rfl rfl rfl rfl rfl ⟨rfl, rfl, rfl, rfl, rfl⟩ rfl rfl rfl rfl rfl (by kernel_rfl) Try.func6 (by kernel_rfl)
    (of_decide_eq_true (by kernel_rfl)) (by unfold Func.isWrapper; first | (rw [if_pos (by decide +kernel)]; kernel_rfl) | (rw [if_neg (by decide +kernel)]; exact ⟨rfl, rfl⟩))
    (fun os started H enc _ => lifted_OpBytes os started H enc)
end
#print axioms OpBytes_holds
end Go.Proofs.Ythpdkdalfjahcaa

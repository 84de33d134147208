
/- Proved: for all signatures and all texts, quitclaimlaw08.SignerBytes returns true and leaves its arguments as they were. No conditions. -/
import Derived.Test.YthpdkdalfjahcaaSbA
import Derived.Test.YthpdkdalfjahcaaSgA
set_option linter.unusedSimpArgs false
set_option linter.unusedVariables false
namespace Go.Proofs.Ythpdkdalfjahcaa
open Go.RowKit Go.Qc Go.Shelf
open Go.ChangeShapes Go.WideShapes Go.ChangeAt
attribute [local go_sem] txt_size txt_append ib_fold

theorem new_g (s : List UInt8) (w : World) : Calls Try.prog 33 #[.string (txt s)] w fun o w' => ∃ g, o = .returned (.pointer (some ⟨g, 0, none⟩)) ∧ w.heap.size ≤ g ∧ Rdr g s 0 0 w' ∧ Below w.heap.size w w' :=
  (pkNew_any s w).mono fun _ _ ⟨h1, h2, h3⟩ => ⟨_, h1, Nat.le_refl _, h2, h3⟩
theorem step_low {g n : Nat} {s : List UInt8} {a : Nat} {e : Int} {w0 w w' : World} (h0 : Below n w0 w) (hn : n ≤ w.heap.size) (h : Step g s a e w w') (hg : n ≤ g) : Below n w0 w' := h0.grown h.gb hn (fun k hk => by cases hk; exact hg)
def yL (s : List UInt8) : Nat := rdL (q4 s 0).2 (sbL s 0)
def yA (s : List UInt8) : List (List UInt8) := rdR (q4 s 0).2 (sbA s 0)
def yB (s : List UInt8) : List (List UInt8) := rdR (q4 s 0).2 (sbB s 0)
def yC (s : List UInt8) : List (List UInt8) := rdR (q4 s 0).2 (sbC s 0)
theorem get_s (g : Nat) (s : List UInt8) (hs : s.length ≤ 1000000000000) (xL : Nat) (xA xB xC : List (List UInt8)) (a : Nat) (e : Int) (eL : xL = yL s) (eA : xA = yA s) (eB : xB = yB s) (eC : xC = yC s) (eq : q4 s 0 = (a, e)) (w : World) (hr : Rdr g s 0 0 w) :
    Calls Try.prog 46 #[.pointer (some ⟨g, 0, none⟩)] w fun o w' => ∃ (A2 : Option Addr) (n2 c2 : Nat) (B2 : Option Addr) (m2 d2 : Nat) (C2 : Option Addr) (k2 p2 : Nat), o = .returned (.agg #[.int .i64 xL, .slice A2 n2 c2, .slice B2 m2 d2, .slice C2 k2 p2]) ∧ (RowR w' A2 n2 xA ∧ RowR w' B2 m2 xB ∧ RowR w' C2 k2 xC) ∧ Step g s a e w w' := by
  subst eL eA eB eC
  have := sget_R g s 0 hs (Nat.zero_le _) w hr
  rw [eq] at this
  refine this.mono ?_
  rintro o w' ⟨v, ho, ⟨A2, n2, c2, B2, m2, d2, C2, k2, p2, rfl, r1, r2, r3⟩, _, hst⟩
  unfold yL yA yB yC
  rw [eq]
  exact ⟨A2, n2, c2, B2, m2, d2, C2, k2, p2, ho, ⟨r1, r2, r3⟩, hst⟩
theorem rget_s (s : List UInt8) (hs : s.length ≤ 1000000000000) (xL : Nat) (xA xB xC : List (List UInt8)) (a : Nat) (e : Int) (eL : xL = yL s) (eA : xA = yA s) (eB : xB = yB s) (eC : xC = yC s) (eq : q4 s 0 = (a, e)) (w : World) :
    Calls Try.prog 49 #[.agg #[.string (txt s), .int .i64 0, .int .i64 0]] w fun o w' => ∃ (A3 : Option Addr) (n3 c3 : Nat) (B3 : Option Addr) (m3 d3 : Nat) (C3 : Option Addr) (k3 p3 : Nat), o = .returned (.tuple #[.agg #[.string (txt s), .int .i64 a, .int .i64 e], .agg #[.int .i64 xL, .slice A3 n3 c3, .slice B3 m3 d3, .slice C3 k3 p3]]) ∧ (RowR w' A3 n3 xA ∧ RowR w' B3 m3 xB ∧ RowR w' C3 k3 xC) ∧ Below w.heap.size w w' := by
  subst eL eA eB eC
  have := rget8_R s 0 hs (Nat.zero_le _) w
  rw [eq] at this
  refine this.mono ?_
  rintro o w' ⟨v, ho, ⟨A2, n2, c2, B2, m2, d2, C2, k2, p2, rfl, r1, r2, r3⟩, hst⟩
  unfold yL yA yB yC
  rw [eq]
  exact ⟨A2, n2, c2, B2, m2, d2, C2, k2, p2, ho, ⟨r1, r2, r3⟩, hst⟩
set_option maxRecDepth 100000 in
set_option maxHeartbeats 40000000 in
theorem sb_long1 (L : Int) (A B C : Option Addr) (na ca nb cb nc cc : Nat) (xA xB xC : List (List UInt8)) (s : List UInt8) (h1 : 40 < na) (w : World) :
    Calls Try.prog 5 #[.agg #[.int .i64 L, .slice A na ca, .slice B nb cb, .slice C nc cc], .string (txt s)] w fun e w' => e = .returned (.bool true) ∧ Below w.heap.size w w' := by
  have zna : (40 : Int) < na := by omega
  have hx : Below w.heap.size w (w.alloc (.cells #[.int .i64 L, .slice A na ca, .slice B nb cb, .slice C nc cc] 63)) := (Below.refl _ w).alloc (Nat.le_refl _) _
  go_enter Try.func5, Try.ntmps5
  go_wp2_with (first
    | (go_at_call 44; (with_reducible refine (awake8_any _).mono ?_); rintro e9 w9 ⟨rfl, hb9⟩))
  go_ret
  exact ⟨rfl, hx.trans (hb9.mono hx.size)⟩
set_option maxRecDepth 100000 in
set_option maxHeartbeats 40000000 in
theorem sb_long2 (L : Int) (A B C : Option Addr) (na ca nb cb nc cc : Nat) (xA xB xC : List (List UInt8)) (s : List UInt8) (h1 : ¬ 40 < na) (h2 : 40 < nb) (w : World) :
    Calls Try.prog 5 #[.agg #[.int .i64 L, .slice A na ca, .slice B nb cb, .slice C nc cc], .string (txt s)] w fun e w' => e = .returned (.bool true) ∧ Below w.heap.size w w' := by
  have zna : ¬ (40 : Int) < na := by omega
  have znb : (40 : Int) < nb := by omega
  have hx : Below w.heap.size w (w.alloc (.cells #[.int .i64 L, .slice A na ca, .slice B nb cb, .slice C nc cc] 63)) := (Below.refl _ w).alloc (Nat.le_refl _) _
  go_enter Try.func5, Try.ntmps5
  go_wp2_with (first
    | (go_at_call 44; (with_reducible refine (awake8_any _).mono ?_); rintro e9 w9 ⟨rfl, hb9⟩))
  go_ret
  exact ⟨rfl, hx.trans (hb9.mono hx.size)⟩
set_option maxRecDepth 100000 in
set_option maxHeartbeats 40000000 in
theorem sb_long3 (L : Int) (A B C : Option Addr) (na ca nb cb nc cc : Nat) (xA xB xC : List (List UInt8)) (s : List UInt8) (h1 : ¬ 40 < na) (h2 : ¬ 40 < nb) (h3 : 10 < nc) (w : World) :
    Calls Try.prog 5 #[.agg #[.int .i64 L, .slice A na ca, .slice B nb cb, .slice C nc cc], .string (txt s)] w fun e w' => e = .returned (.bool true) ∧ Below w.heap.size w w' := by
  have zna : ¬ (40 : Int) < na := by omega
  have znb : ¬ (40 : Int) < nb := by omega
  have znc : (10 : Int) < nc := by omega
  have hx : Below w.heap.size w (w.alloc (.cells #[.int .i64 L, .slice A na ca, .slice B nb cb, .slice C nc cc] 63)) := (Below.refl _ w).alloc (Nat.le_refl _) _
  go_enter Try.func5, Try.ntmps5
  go_wp2_with (first
    | (go_at_call 44; (with_reducible refine (awake8_any _).mono ?_); rintro e9 w9 ⟨rfl, hb9⟩))
  go_ret
  exact ⟨rfl, hx.trans (hb9.mono hx.size)⟩
set_option maxRecDepth 100000 in
set_option maxHeartbeats 40000000 in
theorem sb_long4 (L : Int) (A B C : Option Addr) (na ca nb cb nc cc : Nat) (xA xB xC : List (List UInt8)) (s : List UInt8) (h1 : ¬ 40 < na) (h2 : ¬ 40 < nb) (h3 : ¬ 10 < nc) (h4 : 2000 < s.length) (w : World) :
    Calls Try.prog 5 #[.agg #[.int .i64 L, .slice A na ca, .slice B nb cb, .slice C nc cc], .string (txt s)] w fun e w' => e = .returned (.bool true) ∧ Below w.heap.size w w' := by
  have zna : ¬ (40 : Int) < na := by omega
  have znb : ¬ (40 : Int) < nb := by omega
  have znc : ¬ (10 : Int) < nc := by omega
  have zs : (2000 : Int) < s.length := by omega
  have zt : 2000 < s.length := by omega
  have hx : Below w.heap.size w (w.alloc (.cells #[.int .i64 L, .slice A na ca, .slice B nb cb, .slice C nc cc] 63)) := (Below.refl _ w).alloc (Nat.le_refl _) _
  go_enter Try.func5, Try.ntmps5
  go_wp2_with (first
    | (go_at_call 44; (with_reducible refine (awake8_any _).mono ?_); rintro e9 w9 ⟨rfl, hb9⟩))
  go_ret
  exact ⟨rfl, hx.trans (hb9.mono hx.size)⟩
set_option maxRecDepth 100000 in
set_option maxHeartbeats 40000000 in
theorem sb_yes (N : Nat) (A B C : Option Addr) (na ca nb cb nc cc : Nat) (xA xB xC : List (List UInt8)) (s : List UInt8) (hN : N ≤ 4611686018427387904) (h1 : ¬ 40 < na) (h2 : ¬ 40 < nb) (h3 : ¬ 10 < nc) (h4 : ¬ 2000 < s.length) (w : World) (hA : RowR w A na xA) (hB : RowR w B nb xB) (hC : RowR w C nc xC) :
    Calls Try.prog 5 #[.agg #[.int .i64 (N : Int), .slice A na ca, .slice B nb cb, .slice C nc cc], .string (txt s)] w fun e w' => e = .returned (.bool true) ∧ Below w.heap.size w w' := by
  have zna : ¬ (40 : Int) < na := by omega
  have znb : ¬ (40 : Int) < nb := by omega
  have znc : ¬ (10 : Int) < nc := by omega
  have zs : ¬ (2000 : Int) < s.length := by omega
  have zt : ¬ 2000 < s.length := by omega
  have mixed : Try.prog.follows .mixedOrders = true := by kernel_rfl
  have lA := hA.1
  have lB := hB.1
  have lC := hC.1
  obtain ⟨bk1, bk2, bk3, bk4, bk5⟩ := sig_back (N : Int) xA xB xC (by omega) (by omega) (by omega) hA.2.2.1 hB.2.2.1 hC.2.2.1
  have lS : (sigE (N : Int) xA xB xC).length ≤ 1000000000000 := by
    have q1 := idsE_len xA na hA.1 (by omega) hA.2.2.1
    have q2 := idsE_len xB nb hB.1 (by omega) hB.2.2.1
    have q3 := idsE_len xC nc hC.1 (by omega) hC.2.2.1
    have q4 := numE_len9 (leafW (N : Int)) (leafW_le _)
    rw [sigE, List.length_append, List.length_append, List.length_append]; omega
  have hx0 : Below w.heap.size w ((w.alloc (.cells #[.int .i64 (N : Int), .slice A na ca, .slice B nb cb, .slice C nc cc] 63)).alloc (.cells #[.slice none 0 0] 36)) := ((Below.refl _ w).alloc (Nat.le_refl _) _).alloc (by simp) _
  have hk0 : (w.alloc (.cells #[.int .i64 (N : Int), .slice A na ca, .slice B nb cb, .slice C nc cc] 63)).heap.size = w.heap.size + 1 := by simp
  have hW0 := Wrt.new (w.alloc (.cells #[.int .i64 (N : Int), .slice A na ca, .slice B nb cb, .slice C nc cc] 63))
  rw [hk0] at hW0
  have hbx0 := (Blk.new w 63 #[.int .i64 (N : Int), .slice A na ca, .slice B nb cb, .slice C nc cc]).alloc (.cells #[.slice none 0 0] 36)
  have cPut := sput_any (w.heap.size + 1) [] (N : Int) A B C na ca nb cb nc cc xA xB xC (by omega) (by omega) (by omega) (by simp) w _ (Nat.le_succ _) hx0 hA hB hC hW0
  rw [List.nil_append] at cPut
  have cB8 : ∀ W, Below w.heap.size w W → Calls Try.prog 47 #[.agg #[.int .i64 (N : Int), .slice A na ca, .slice B nb cb, .slice C nc cc]] W fun o w' => o = .returned (.string (txt (sigE (N : Int) xA xB xC))) ∧ Below W.heap.size W w' := fun W h => rbytes8_any (N : Int) A B C na ca nb cb nc cc xA xB xC (by omega) (by omega) (by omega) W (hA.below h) (hB.below h) (hC.below h)
  have rd0 : ∀ (x : Nat), rdL 0 x = x := fun _ => rfl
  have rd1 : ∀ (x : List (List UInt8)), rdR 0 x = x := fun _ => rfl
  have cG1 : ∀ (g : Nat) (W : World), Rdr g (sigE (N : Int) xA xB xC) 0 0 W → _ := fun g W h => get_s g (sigE (N : Int) xA xB xC) lS (leafW (N : Int)) xA xB xC _ _ (by rw [yL, bk1, bk2, rd0]) (by rw [yA, bk1, bk3, rd1]) (by rw [yB, bk1, bk4, rd1]) (by rw [yC, bk1, bk5, rd1]) bk1 W h
  have hz := leafW_nat N hN
  rw [hz] at cG1
  have cS1 : ∀ (W : World) (A2 : Option Addr) (n2 c2 : Nat) (B2 : Option Addr) (m2 d2 : Nat) (C2 : Option Addr) (k2 p2 : Nat), Below w.heap.size w W → RowR W A2 n2 xA → RowR W B2 m2 xB → RowR W C2 k2 xC → Calls Try.prog 48 #[.agg #[.int .i64 (N : Int), .slice A2 n2 c2, .slice B2 m2 d2, .slice C2 k2 p2], .agg #[.int .i64 (N : Int), .slice A na ca, .slice B nb cb, .slice C nc cc]] W fun o w' => o = .returned (.bool true) ∧ Below W.heap.size W w' := fun W A2 n2 c2 B2 m2 d2 C2 k2 p2 h r1 r2 r3 => by
    have := rsame8_any (N : Int) A2 B2 C2 n2 c2 m2 d2 k2 p2 xA xB xC (N : Int) A B C na ca nb cb nc cc xA xB xC W r1 r2 r3 (hA.below h) (hB.below h) (hC.below h)
    rwa [decide_eq_true ⟨rfl, rfl, rfl, rfl⟩] at this
  have v0 : (0 : Int) ≤ (N : Int) := by omega
  have v1 : (N : Int) ≤ 4611686018427387904 := by omega
  clear hz
  have hE1 : endE (sigE (N : Int) xA xB xC) (sigE (N : Int) xA xB xC).length 0 = 0 := by unfold endE; rw [if_pos rfl, if_neg (Nat.lt_irrefl _)]
  have cE1 : ∀ (g : Nat) (W : World), Rdr g (sigE (N : Int) xA xB xC) (sigE (N : Int) xA xB xC).length 0 W → Calls Try.prog 42 #[.pointer (some ⟨g, 0, none⟩)] W fun o w' => o = .returned (.int .i64 0) ∧ Below W.heap.size W w' := fun g W h => by
    have := pkEnd_any g _ _ 0 (Nat.le_refl _) lS W h
    rw [hE1] at this
    exact this.mono fun _ _ ⟨a, b⟩ => ⟨a, step_below h b⟩
  obtain ⟨a4, e4, hq4⟩ : ∃ a4 e4, q4 s 0 = (a4, e4) := ⟨_, _, rfl⟩
  have cG2 : ∀ (g : Nat) (W : World), Rdr g s 0 0 W → _ := fun g W h => get_s g s (by omega) _ _ _ _ a4 e4 rfl rfl rfl rfl hq4 W h
  have cG3 := fun W => rget_s s (by omega) _ _ _ _ a4 e4 rfl rfl rfl rfl hq4 W
  generalize yL s = zL at *
  generalize yA s = zA at *
  generalize yB s = zB at *
  generalize yC s = zC at *
  have cS2 : ∀ (W : World) (A2 : Option Addr) (n2 c2 : Nat) (B2 : Option Addr) (m2 d2 : Nat) (C2 : Option Addr) (k2 p2 : Nat) (A3 : Option Addr) (n3 c3 : Nat) (B3 : Option Addr) (m3 d3 : Nat) (C3 : Option Addr) (k3 p3 : Nat), RowR W A2 n2 zA → RowR W B2 m2 zB → RowR W C2 k2 zC → RowR W A3 n3 zA → RowR W B3 m3 zB → RowR W C3 k3 zC → Calls Try.prog 48 #[.agg #[.int .i64 (zL : Int), .slice A2 n2 c2, .slice B2 m2 d2, .slice C2 k2 p2], .agg #[.int .i64 (zL : Int), .slice A3 n3 c3, .slice B3 m3 d3, .slice C3 k3 p3]] W fun o w' => o = .returned (.bool true) ∧ Below W.heap.size W w' := fun W A2 n2 c2 B2 m2 d2 C2 k2 p2 A3 n3 c3 B3 m3 d3 C3 k3 p3 r1 r2 r3 r4 r5 r6 => by
    have := rsame8_any (zL : Int) A2 B2 C2 n2 c2 m2 d2 k2 p2 zA zB zC (zL : Int) A3 B3 C3 n3 c3 m3 d3 k3 p3 zA zB zC W r1 r2 r3 r4 r5 r6
    rwa [decide_eq_true ⟨rfl, rfl, rfl, rfl⟩] at this
  have cER : ∀ (g : Nat) (W : World), Rdr g s a4 e4 W → Calls Try.prog 50 #[.pointer (some ⟨g, 0, none⟩)] W fun o w' => o = .returned (.int .i64 e4) ∧ Below W.heap.size W w' := fun g W h => (pkErr_any g s a4 e4 W h).mono fun _ _ ⟨a, b⟩ => ⟨a, b ▸ Below.refl _ _⟩
  have cWS : ∀ (S : List UInt8) (W : World), Wrt (w.heap.size + 1) S W → Calls Try.prog 32 #[.pointer (some ⟨w.heap.size + 1, 0, none⟩)] W fun o w' => o = .returned (.string (txt S)) ∧ Below W.heap.size W w' := fun S W h => (pkWString_any _ S W h).mono fun _ _ ⟨a, b⟩ => ⟨a, b ▸ Below.refl _ _⟩
  clear hA hB hC bk1 bk2 bk3 bk4 bk5 lS lA lB lC hq4 rd0 rd1 hE1 hk0 h1 h2 h3 h4
  generalize sigE (N : Int) xA xB xC = S at *
  
  go_enter Try.func5, Try.ntmps5
  go_wp2_with (first
    | (go_at_call 45; (with_reducible refine cPut.mono ?_); rintro o1 w1 ⟨rfl, hW1, hB1, hK1⟩; have hbx1 := hK1 _ _ _ (by decide) (by decide) hbx0; have hX1 := hx0.trans (hB1.mono (Nat.le_succ _)); clear cPut hB1 hK1 hbx0 hW0 hx0)
    | (go_at_call 32; (with_reducible refine (pkWString_any _ S w1 hW1).mono ?_); rintro o2 w2 ⟨rfl, rfl⟩)
    | (go_at_call 33; (with_reducible refine (new_g S w1).mono ?_); rintro o3 w3 ⟨gr, rfl, hgr, hR3, hB3⟩)
    | (go_at_call 46; (with_reducible refine (cG1 gr w3 hR3).mono ?_); rintro o4 w4 ⟨A2, n2, c2, B2, m2, d2, C2, k2, p2, rfl, ⟨r1, r2, r3⟩, hst4⟩; have hB4 := step_low hB3 hB3.size hst4 hgr; have hbx4 := hbx1.below hB4; have hW4 := hW1.below hB4; have hX4 := hX1.trans (hB4.mono hX1.size); have hR4 := hst4.r; clear hB3 hR3 hst4 hB4 hbx1 hW1 hX1))
  have hb5 := (Below.refl w4.heap.size w4).alloc (Nat.le_refl _) (.cells #[.int .i64 (N : Int), .slice A2 n2 c2, .slice B2 m2 d2, .slice C2 k2 p2] 63)
  have hbk5 := Blk.new w4 63 #[.int .i64 (N : Int), .slice A2 n2 c2, .slice B2 m2 d2, .slice C2 k2 p2]
  replace hbx4 := hbx4.below hb5
  replace hW4 := hW4.below hb5
  have hX5 := hX4.trans (hb5.mono hX4.size)
  replace hR4 : Rdr gr S S.length 0 (w4.alloc (.cells #[.int .i64 (N : Int), .slice A2 n2 c2, .slice B2 m2 d2, .slice C2 k2 p2] 63)) := Blk.alloc hR4 _
  replace r1 := r1.below hb5
  replace r2 := r2.below hb5
  replace r3 := r3.below hb5
  clear hb5 hX4
  generalize w4.alloc (.cells #[.int .i64 (N : Int), .slice A2 n2 c2, .slice B2 m2 d2, .slice C2 k2 p2] 63) = W5 at *
  generalize w4.heap.size = gb at *
  have l0 : ∀ P : LaterW W5, P.w.cell? ⟨w.heap.size, 0, none⟩ = some (.int .i64 (N : Int)) := fun P => (hbx4.below P.h).cell_ (i := 0) rfl
  have l1 : ∀ P : LaterW W5, P.w.cell? ⟨w.heap.size, 1, none⟩ = some (.slice A na ca) := fun P => (hbx4.below P.h).cell_ (i := 1) rfl
  have l2 : ∀ P : LaterW W5, P.w.cell? ⟨w.heap.size, 2, none⟩ = some (.slice B nb cb) := fun P => (hbx4.below P.h).cell_ (i := 2) rfl
  have l3 : ∀ P : LaterW W5, P.w.cell? ⟨w.heap.size, 3, none⟩ = some (.slice C nc cc) := fun P => (hbx4.below P.h).cell_ (i := 3) rfl
  have lW : ∀ P : LaterW W5, Wrt (w.heap.size + 1) S P.w := fun P => hW4.below P.h
  have lR : ∀ P : LaterW W5, Rdr gr S S.length 0 P.w := fun P => Blk.below hR4 P.h
  have lX : ∀ P : LaterW W5, Below w.heap.size w P.w := fun P => hX5.trans (P.h.mono hX5.size)
  refine wp_region_later mixed (by kernel_rfl) ?_
  repeat (first
    | ((with_reducible refine wpQuiet_skip (by with_unfolding_all rfl) ?_); simp only [Act.put, List.setIfInBounds_toArray, List.set_cons_zero, List.set_cons_succ])
    | ((with_reducible refine wpQuiet_step (fun K hK => ?_)); go_simp; first | ((with_reducible refine hK _ ?_); clear hK K) | (rw [if_neg (by first | decide | (intro h; cases h))]; (with_reducible refine hK _ ?_); clear hK K) | (with_reducible apply Exists.intro; (with_reducible refine ⟨fun P => ?_, hK _ ?_⟩); (first | (go_at_call 32; exact later_of (cWS _ _ (lW P))) | (go_at_call 47; exact later_of (cB8 _ (lX P))) | (go_at_call 42; exact later_of (cE1 _ _ (lR P)))); clear hK K)))
  with_reducible refine wpQuiet_nil ?_
  intro _ hw'
  obtain ⟨P, rfl⟩ := hw'
  have hP := P.h
  have hX6 := lX P
  have hbx6 := hbx4.below hP
  have hbk6 := hbk5.below hP
  replace r1 := r1.below hP
  replace r2 := r2.below hP
  replace r3 := r3.below hP
  clear l0 l1 l2 l3 lW lR lX hX5 hbx4 hbk5 hW4 hR4 cE1 cB8 cWS
  generalize P.w = w6 at *
  clear hP
  have x0 := hbx6.cell_ (i := 0) rfl
  have x1 := hbx6.cell_ (i := 1) rfl
  have x2 := hbx6.cell_ (i := 2) rfl
  have x3 := hbx6.cell_ (i := 3) rfl
  have k0 := hbk6.cell_ (i := 0) rfl
  have k1' := hbk6.cell_ (i := 1) rfl
  have k2' := hbk6.cell_ (i := 2) rfl
  have k3' := hbk6.cell_ (i := 3) rfl
  go_wp2_with (first
    | (go_at_call 48; (with_reducible refine (cS1 w6 _ _ _ _ _ _ _ _ _ hX6 r1 r2 r3).mono ?_); rintro o7 w7 ⟨rfl, hb7⟩; have hX7 := hX6.trans (hb7.mono hX6.size); clear x0 x1 x2 x3 k0 k1' k2' k3')
    | (go_at_call 33; (with_reducible refine (new_g s w7).mono ?_); rintro o8 w8 ⟨gq, rfl, hgq, hR8, hB8⟩; have hX8 := hX7.trans (hB8.mono hX7.size))
    | (go_at_call 46; (with_reducible refine (cG2 gq w8 hR8).mono ?_); rintro o9 w9 ⟨A2, n2, c2, B2, m2, d2, C2, k2, p2, rfl, ⟨s1, s2, s3⟩, hst9⟩; have hX9 := step_low hX8 hX8.size hst9 (Nat.le_trans hX7.size hgq); have hR9 := hst9.r; have hby9 := Blk.new w9 63 #[.int .i64 (zL : Int), .slice A2 n2 c2, .slice B2 m2 d2, .slice C2 k2 p2]; have hb9 := (Below.refl w9.heap.size w9).alloc (Nat.le_refl _) (.cells #[.int .i64 (zL : Int), .slice A2 n2 c2, .slice B2 m2 d2, .slice C2 k2 p2] 63); replace s1 := s1.below hb9; replace s2 := s2.below hb9; replace s3 := s3.below hb9; have hRa : Rdr gq s a4 e4 (w9.alloc (.cells #[.int .i64 (zL : Int), .slice A2 n2 c2, .slice B2 m2 d2, .slice C2 k2 p2] 63)) := Blk.alloc hR9 _; have hXa := hX9.trans (hb9.mono hX9.size); clear hb9 hst9 hX9 hR9)
    | (go_at_call 49; (with_reducible refine (cG3 _).mono ?_); rintro o10 w10 ⟨A3, n3, c3, B3, m3, d3, C3, k3, p3, rfl, ⟨s4, s5, s6⟩, hb10⟩; replace s1 := s1.below hb10; replace s2 := s2.below hb10; replace s3 := s3.below hb10; have hRb := Blk.below hRa hb10; have hXb := hXa.trans (hb10.mono hXa.size); have hbyb := hby9.below hb10))
  have hz1 := Blk.new w10 69 #[.string (txt s), .int .i64 a4, .int .i64 e4]
  have hz2 := Blk.new (w10.alloc (.cells #[.string (txt s), .int .i64 a4, .int .i64 e4] 69)) 63 #[.int .i64 (zL : Int), .slice A3 n3 c3, .slice B3 m3 d3, .slice C3 k3 p3]
  have hkz : (w10.alloc (.cells #[.string (txt s), .int .i64 a4, .int .i64 e4] 69)).heap.size = w10.heap.size + 1 := by simp
  have hz3 := hz1.alloc (.cells #[.int .i64 (zL : Int), .slice A3 n3 c3, .slice B3 m3 d3, .slice C3 k3 p3] 63)
  rw [hkz] at hz2
  have hbz := ((Below.refl w10.heap.size w10).alloc (Nat.le_refl _) (.cells #[.string (txt s), .int .i64 a4, .int .i64 e4] 69)).alloc (by simp) (.cells #[.int .i64 (zL : Int), .slice A3 n3 c3, .slice B3 m3 d3, .slice C3 k3 p3] 63)
  replace s1 := s1.below hbz
  replace s2 := s2.below hbz
  replace s3 := s3.below hbz
  replace s4 := s4.below hbz
  replace s5 := s5.below hbz
  replace s6 := s6.below hbz
  have hRc := Blk.below hRb hbz
  have hXc := hXb.trans (hbz.mono hXb.size)
  have hbyc := hbyb.below hbz
  clear hbz hkz hz1
  generalize (w10.alloc (.cells #[.string (txt s), .int .i64 a4, .int .i64 e4] 69)).alloc (.cells #[.int .i64 (zL : Int), .slice A3 n3 c3, .slice B3 m3 d3, .slice C3 k3 p3] 63) = W11 at *
  generalize w9.heap.size = gy at *
  generalize w10.heap.size = gz at *
  have l0 : ∀ P : LaterW W11, P.w.cell? ⟨gy, 0, none⟩ = some (.int .i64 zL) := fun P => (hbyc.below P.h).cell_ (i := 0) rfl
  have l1 : ∀ P : LaterW W11, P.w.cell? ⟨gy, 1, none⟩ = some (.slice A2 n2 c2) := fun P => (hbyc.below P.h).cell_ (i := 1) rfl
  have l2 : ∀ P : LaterW W11, P.w.cell? ⟨gy, 2, none⟩ = some (.slice B2 m2 d2) := fun P => (hbyc.below P.h).cell_ (i := 2) rfl
  have l3 : ∀ P : LaterW W11, P.w.cell? ⟨gy, 3, none⟩ = some (.slice C2 k2 p2) := fun P => (hbyc.below P.h).cell_ (i := 3) rfl
  have mm0 : ∀ P : LaterW W11, P.w.cell? ⟨gz + 1, 0, none⟩ = some (.int .i64 zL) := fun P => (hz2.below P.h).cell_ (i := 0) rfl
  have mm1 : ∀ P : LaterW W11, P.w.cell? ⟨gz + 1, 1, none⟩ = some (.slice A3 n3 c3) := fun P => (hz2.below P.h).cell_ (i := 1) rfl
  have mm2 : ∀ P : LaterW W11, P.w.cell? ⟨gz + 1, 2, none⟩ = some (.slice B3 m3 d3) := fun P => (hz2.below P.h).cell_ (i := 2) rfl
  have mm3 : ∀ P : LaterW W11, P.w.cell? ⟨gz + 1, 3, none⟩ = some (.slice C3 k3 p3) := fun P => (hz2.below P.h).cell_ (i := 3) rfl
  have lz : ∀ P : LaterW W11, P.w.cell? ⟨gz, 2, none⟩ = some (.int .i64 e4) := fun P => (hz3.below P.h).cell_ (i := 2) rfl
  have lS2 : ∀ P : LaterW W11, _ := fun P => cS2 P.w A2 n2 c2 B2 m2 d2 C2 k2 p2 A3 n3 c3 B3 m3 d3 C3 k3 p3 (s1.below P.h) (s2.below P.h) (s3.below P.h) (s4.below P.h) (s5.below P.h) (s6.below P.h)
  have lR : ∀ P : LaterW W11, Rdr gq s a4 e4 P.w := fun P => Blk.below hRc P.h
  refine wp_region_later mixed (by kernel_rfl) ?_
  repeat (first
    | ((with_reducible refine wpQuiet_skip (by with_unfolding_all rfl) ?_); simp only [Act.put, List.setIfInBounds_toArray, List.set_cons_zero, List.set_cons_succ])
    | ((with_reducible refine wpQuiet_step (fun K hK => ?_)); go_simp; first | ((with_reducible refine hK _ ?_); clear hK K) | (rw [if_neg (by first | decide | (intro h; cases h))]; (with_reducible refine hK _ ?_); clear hK K) | (with_reducible apply Exists.intro; (with_reducible refine ⟨fun P => ?_, hK _ ?_⟩); (first | (go_at_call 48; exact later_of (lS2 P)) | (go_at_call 50; exact later_of (cER _ _ (lR P))) | (go_at_call 44; exact later_of (awake8_any _))); clear hK K)))
  with_reducible refine wpQuiet_nil ?_
  intro _ hw'
  obtain ⟨P, rfl⟩ := hw'
  have hP := P.h
  generalize P.w = w12 at *
  go_wp2
  go_ret
  exact ⟨rfl, hXc.trans (hP.mono hXc.size)⟩
set_option maxRecDepth 100000 in
set_option maxHeartbeats 40000000 in
theorem sb_neg (L : Int) (A B C : Option Addr) (na ca nb cb nc cc : Nat) (xA xB xC : List (List UInt8)) (s : List UInt8) (hL : L < 0) (h1 : ¬ 40 < na) (h2 : ¬ 40 < nb) (h3 : ¬ 10 < nc) (h4 : ¬ 2000 < s.length) (w : World) (hA : RowR w A na xA) (hB : RowR w B nb xB) (hC : RowR w C nc xC) :
    Calls Try.prog 5 #[.agg #[.int .i64 L, .slice A na ca, .slice B nb cb, .slice C nc cc], .string (txt s)] w fun e w' => e = .returned (.bool true) ∧ Below w.heap.size w w' := by
  have zna : ¬ (40 : Int) < na := by omega
  have znb : ¬ (40 : Int) < nb := by omega
  have znc : ¬ (10 : Int) < nc := by omega
  have zs : ¬ (2000 : Int) < s.length := by omega
  have zt : ¬ 2000 < s.length := by omega
  have mixed : Try.prog.follows .mixedOrders = true := by kernel_rfl
  have lA := hA.1
  have lB := hB.1
  have lC := hC.1
  obtain ⟨bk1, bk2, bk3, bk4, bk5⟩ := sig_back L xA xB xC (by omega) (by omega) (by omega) hA.2.2.1 hB.2.2.1 hC.2.2.1
  have lS : (sigE L xA xB xC).length ≤ 1000000000000 := by
    have q1 := idsE_len xA na hA.1 (by omega) hA.2.2.1
    have q2 := idsE_len xB nb hB.1 (by omega) hB.2.2.1
    have q3 := idsE_len xC nc hC.1 (by omega) hC.2.2.1
    have q4 := numE_len9 (leafW L) (leafW_le _)
    rw [sigE, List.length_append, List.length_append, List.length_append]; omega
  have hx0 : Below w.heap.size w ((w.alloc (.cells #[.int .i64 L, .slice A na ca, .slice B nb cb, .slice C nc cc] 63)).alloc (.cells #[.slice none 0 0] 36)) := ((Below.refl _ w).alloc (Nat.le_refl _) _).alloc (by simp) _
  have hk0 : (w.alloc (.cells #[.int .i64 L, .slice A na ca, .slice B nb cb, .slice C nc cc] 63)).heap.size = w.heap.size + 1 := by simp
  have hW0 := Wrt.new (w.alloc (.cells #[.int .i64 L, .slice A na ca, .slice B nb cb, .slice C nc cc] 63))
  rw [hk0] at hW0
  have hbx0 := (Blk.new w 63 #[.int .i64 L, .slice A na ca, .slice B nb cb, .slice C nc cc]).alloc (.cells #[.slice none 0 0] 36)
  have cPut := sput_any (w.heap.size + 1) [] L A B C na ca nb cb nc cc xA xB xC (by omega) (by omega) (by omega) (by simp) w _ (Nat.le_succ _) hx0 hA hB hC hW0
  rw [List.nil_append] at cPut
  have cB8 : ∀ W, Below w.heap.size w W → Calls Try.prog 47 #[.agg #[.int .i64 L, .slice A na ca, .slice B nb cb, .slice C nc cc]] W fun o w' => o = .returned (.string (txt (sigE L xA xB xC))) ∧ Below W.heap.size W w' := fun W h => rbytes8_any L A B C na ca nb cb nc cc xA xB xC (by omega) (by omega) (by omega) W (hA.below h) (hB.below h) (hC.below h)
  have rd0 : ∀ (x : Nat), rdL 0 x = x := fun _ => rfl
  have rd1 : ∀ (x : List (List UInt8)), rdR 0 x = x := fun _ => rfl
  have cG1 : ∀ (g : Nat) (W : World), Rdr g (sigE L xA xB xC) 0 0 W → _ := fun g W h => get_s g (sigE L xA xB xC) lS (leafW L) xA xB xC _ _ (by rw [yL, bk1, bk2, rd0]) (by rw [yA, bk1, bk3, rd1]) (by rw [yB, bk1, bk4, rd1]) (by rw [yC, bk1, bk5, rd1]) bk1 W h
  have v0 : ¬ (0 : Int) ≤ L := by omega
  have v1 : decide ((0 : Int) ≤ L) = false := by simpa using v0
  have v2 : L < 0 := by omega
  have hE1 : endE (sigE L xA xB xC) (sigE L xA xB xC).length 0 = 0 := by unfold endE; rw [if_pos rfl, if_neg (Nat.lt_irrefl _)]
  have cE1 : ∀ (g : Nat) (W : World), Rdr g (sigE L xA xB xC) (sigE L xA xB xC).length 0 W → Calls Try.prog 42 #[.pointer (some ⟨g, 0, none⟩)] W fun o w' => o = .returned (.int .i64 0) ∧ Below W.heap.size W w' := fun g W h => by
    have := pkEnd_any g _ _ 0 (Nat.le_refl _) lS W h
    rw [hE1] at this
    exact this.mono fun _ _ ⟨a, b⟩ => ⟨a, step_below h b⟩
  obtain ⟨a4, e4, hq4⟩ : ∃ a4 e4, q4 s 0 = (a4, e4) := ⟨_, _, rfl⟩
  have cG2 : ∀ (g : Nat) (W : World), Rdr g s 0 0 W → _ := fun g W h => get_s g s (by omega) _ _ _ _ a4 e4 rfl rfl rfl rfl hq4 W h
  have cG3 := fun W => rget_s s (by omega) _ _ _ _ a4 e4 rfl rfl rfl rfl hq4 W
  generalize yL s = zL at *
  generalize yA s = zA at *
  generalize yB s = zB at *
  generalize yC s = zC at *
  have cS2 : ∀ (W : World) (A2 : Option Addr) (n2 c2 : Nat) (B2 : Option Addr) (m2 d2 : Nat) (C2 : Option Addr) (k2 p2 : Nat) (A3 : Option Addr) (n3 c3 : Nat) (B3 : Option Addr) (m3 d3 : Nat) (C3 : Option Addr) (k3 p3 : Nat), RowR W A2 n2 zA → RowR W B2 m2 zB → RowR W C2 k2 zC → RowR W A3 n3 zA → RowR W B3 m3 zB → RowR W C3 k3 zC → Calls Try.prog 48 #[.agg #[.int .i64 (zL : Int), .slice A2 n2 c2, .slice B2 m2 d2, .slice C2 k2 p2], .agg #[.int .i64 (zL : Int), .slice A3 n3 c3, .slice B3 m3 d3, .slice C3 k3 p3]] W fun o w' => o = .returned (.bool true) ∧ Below W.heap.size W w' := fun W A2 n2 c2 B2 m2 d2 C2 k2 p2 A3 n3 c3 B3 m3 d3 C3 k3 p3 r1 r2 r3 r4 r5 r6 => by
    have := rsame8_any (zL : Int) A2 B2 C2 n2 c2 m2 d2 k2 p2 zA zB zC (zL : Int) A3 B3 C3 n3 c3 m3 d3 k3 p3 zA zB zC W r1 r2 r3 r4 r5 r6
    rwa [decide_eq_true ⟨rfl, rfl, rfl, rfl⟩] at this
  have cER : ∀ (g : Nat) (W : World), Rdr g s a4 e4 W → Calls Try.prog 50 #[.pointer (some ⟨g, 0, none⟩)] W fun o w' => o = .returned (.int .i64 e4) ∧ Below W.heap.size W w' := fun g W h => (pkErr_any g s a4 e4 W h).mono fun _ _ ⟨a, b⟩ => ⟨a, b ▸ Below.refl _ _⟩
  have cWS : ∀ (S : List UInt8) (W : World), Wrt (w.heap.size + 1) S W → Calls Try.prog 32 #[.pointer (some ⟨w.heap.size + 1, 0, none⟩)] W fun o w' => o = .returned (.string (txt S)) ∧ Below W.heap.size W w' := fun S W h => (pkWString_any _ S W h).mono fun _ _ ⟨a, b⟩ => ⟨a, b ▸ Below.refl _ _⟩
  clear hA hB hC bk1 bk2 bk3 bk4 bk5 lS lA lB lC hq4 rd0 rd1 hE1 hk0 h1 h2 h3 h4
  generalize sigE L xA xB xC = S at *
  generalize leafW L = N at *
  go_enter Try.func5, Try.ntmps5
  go_wp2_with (first
    | (go_at_call 45; (with_reducible refine cPut.mono ?_); rintro o1 w1 ⟨rfl, hW1, hB1, hK1⟩; have hbx1 := hK1 _ _ _ (by decide) (by decide) hbx0; have hX1 := hx0.trans (hB1.mono (Nat.le_succ _)); clear cPut hB1 hK1 hbx0 hW0 hx0)
    | (go_at_call 32; (with_reducible refine (pkWString_any _ S w1 hW1).mono ?_); rintro o2 w2 ⟨rfl, rfl⟩)
    | (go_at_call 33; (with_reducible refine (new_g S w1).mono ?_); rintro o3 w3 ⟨gr, rfl, hgr, hR3, hB3⟩)
    | (go_at_call 46; (with_reducible refine (cG1 gr w3 hR3).mono ?_); rintro o4 w4 ⟨A2, n2, c2, B2, m2, d2, C2, k2, p2, rfl, ⟨r1, r2, r3⟩, hst4⟩; have hB4 := step_low hB3 hB3.size hst4 hgr; have hbx4 := hbx1.below hB4; have hW4 := hW1.below hB4; have hX4 := hX1.trans (hB4.mono hX1.size); have hR4 := hst4.r; clear hB3 hR3 hst4 hB4 hbx1 hW1 hX1))
  have hb5 := (Below.refl w4.heap.size w4).alloc (Nat.le_refl _) (.cells #[.int .i64 (N : Int), .slice A2 n2 c2, .slice B2 m2 d2, .slice C2 k2 p2] 63)
  have hbk5 := Blk.new w4 63 #[.int .i64 (N : Int), .slice A2 n2 c2, .slice B2 m2 d2, .slice C2 k2 p2]
  replace hbx4 := hbx4.below hb5
  replace hW4 := hW4.below hb5
  have hX5 := hX4.trans (hb5.mono hX4.size)
  replace hR4 : Rdr gr S S.length 0 (w4.alloc (.cells #[.int .i64 (N : Int), .slice A2 n2 c2, .slice B2 m2 d2, .slice C2 k2 p2] 63)) := Blk.alloc hR4 _
  replace r1 := r1.below hb5
  replace r2 := r2.below hb5
  replace r3 := r3.below hb5
  clear hb5 hX4
  generalize w4.alloc (.cells #[.int .i64 (N : Int), .slice A2 n2 c2, .slice B2 m2 d2, .slice C2 k2 p2] 63) = W5 at *
  generalize w4.heap.size = gb at *
  have l0 : ∀ P : LaterW W5, P.w.cell? ⟨w.heap.size, 0, none⟩ = some (.int .i64 L) := fun P => (hbx4.below P.h).cell_ (i := 0) rfl
  have l1 : ∀ P : LaterW W5, P.w.cell? ⟨w.heap.size, 1, none⟩ = some (.slice A na ca) := fun P => (hbx4.below P.h).cell_ (i := 1) rfl
  have l2 : ∀ P : LaterW W5, P.w.cell? ⟨w.heap.size, 2, none⟩ = some (.slice B nb cb) := fun P => (hbx4.below P.h).cell_ (i := 2) rfl
  have l3 : ∀ P : LaterW W5, P.w.cell? ⟨w.heap.size, 3, none⟩ = some (.slice C nc cc) := fun P => (hbx4.below P.h).cell_ (i := 3) rfl
  have lW : ∀ P : LaterW W5, Wrt (w.heap.size + 1) S P.w := fun P => hW4.below P.h
  have lR : ∀ P : LaterW W5, Rdr gr S S.length 0 P.w := fun P => Blk.below hR4 P.h
  have lX : ∀ P : LaterW W5, Below w.heap.size w P.w := fun P => hX5.trans (P.h.mono hX5.size)
  refine wp_region_later mixed (by kernel_rfl) ?_
  repeat (first
    | ((with_reducible refine wpQuiet_skip (by with_unfolding_all rfl) ?_); simp only [Act.put, List.setIfInBounds_toArray, List.set_cons_zero, List.set_cons_succ])
    | ((with_reducible refine wpQuiet_step (fun K hK => ?_)); go_simp; first | ((with_reducible refine hK _ ?_); clear hK K) | (rw [if_neg (by first | decide | (intro h; cases h))]; (with_reducible refine hK _ ?_); clear hK K) | (with_reducible apply Exists.intro; (with_reducible refine ⟨fun P => ?_, hK _ ?_⟩); (first | (go_at_call 32; exact later_of (cWS _ _ (lW P))) | (go_at_call 47; exact later_of (cB8 _ (lX P))) | (go_at_call 42; exact later_of (cE1 _ _ (lR P)))); clear hK K)))
  with_reducible refine wpQuiet_nil ?_
  intro _ hw'
  obtain ⟨P, rfl⟩ := hw'
  have hP := P.h
  have hX6 := lX P
  have hbx6 := hbx4.below hP
  have hbk6 := hbk5.below hP
  replace r1 := r1.below hP
  replace r2 := r2.below hP
  replace r3 := r3.below hP
  clear l0 l1 l2 l3 lW lR lX hX5 hbx4 hbk5 hW4 hR4 cE1 cB8 cWS
  generalize P.w = w6 at *
  clear hP
  have x0 := hbx6.cell_ (i := 0) rfl
  have x1 := hbx6.cell_ (i := 1) rfl
  have x2 := hbx6.cell_ (i := 2) rfl
  have x3 := hbx6.cell_ (i := 3) rfl
  have k0 := hbk6.cell_ (i := 0) rfl
  have k1' := hbk6.cell_ (i := 1) rfl
  have k2' := hbk6.cell_ (i := 2) rfl
  have k3' := hbk6.cell_ (i := 3) rfl
  go_wp2_with (first
    | (go_at_call 33; (with_reducible refine (new_g s w6).mono ?_); rintro o8 w8 ⟨gq, rfl, hgq, hR8, hB8⟩; have hX8 := hX6.trans (hB8.mono hX6.size))
    | (go_at_call 46; (with_reducible refine (cG2 gq w8 hR8).mono ?_); rintro o9 w9 ⟨A2, n2, c2, B2, m2, d2, C2, k2, p2, rfl, ⟨s1, s2, s3⟩, hst9⟩; have hX9 := step_low hX8 hX8.size hst9 (Nat.le_trans hX6.size hgq); have hR9 := hst9.r; have hby9 := Blk.new w9 63 #[.int .i64 (zL : Int), .slice A2 n2 c2, .slice B2 m2 d2, .slice C2 k2 p2]; have hb9 := (Below.refl w9.heap.size w9).alloc (Nat.le_refl _) (.cells #[.int .i64 (zL : Int), .slice A2 n2 c2, .slice B2 m2 d2, .slice C2 k2 p2] 63); replace s1 := s1.below hb9; replace s2 := s2.below hb9; replace s3 := s3.below hb9; have hRa : Rdr gq s a4 e4 (w9.alloc (.cells #[.int .i64 (zL : Int), .slice A2 n2 c2, .slice B2 m2 d2, .slice C2 k2 p2] 63)) := Blk.alloc hR9 _; have hXa := hX9.trans (hb9.mono hX9.size); clear hb9 hst9 hX9 hR9)
    | (go_at_call 49; (with_reducible refine (cG3 _).mono ?_); rintro o10 w10 ⟨A3, n3, c3, B3, m3, d3, C3, k3, p3, rfl, ⟨s4, s5, s6⟩, hb10⟩; replace s1 := s1.below hb10; replace s2 := s2.below hb10; replace s3 := s3.below hb10; have hRb := Blk.below hRa hb10; have hXb := hXa.trans (hb10.mono hXa.size); have hbyb := hby9.below hb10))
  have hz1 := Blk.new w10 69 #[.string (txt s), .int .i64 a4, .int .i64 e4]
  have hz2 := Blk.new (w10.alloc (.cells #[.string (txt s), .int .i64 a4, .int .i64 e4] 69)) 63 #[.int .i64 (zL : Int), .slice A3 n3 c3, .slice B3 m3 d3, .slice C3 k3 p3]
  have hkz : (w10.alloc (.cells #[.string (txt s), .int .i64 a4, .int .i64 e4] 69)).heap.size = w10.heap.size + 1 := by simp
  have hz3 := hz1.alloc (.cells #[.int .i64 (zL : Int), .slice A3 n3 c3, .slice B3 m3 d3, .slice C3 k3 p3] 63)
  rw [hkz] at hz2
  have hbz := ((Below.refl w10.heap.size w10).alloc (Nat.le_refl _) (.cells #[.string (txt s), .int .i64 a4, .int .i64 e4] 69)).alloc (by simp) (.cells #[.int .i64 (zL : Int), .slice A3 n3 c3, .slice B3 m3 d3, .slice C3 k3 p3] 63)
  replace s1 := s1.below hbz
  replace s2 := s2.below hbz
  replace s3 := s3.below hbz
  replace s4 := s4.below hbz
  replace s5 := s5.below hbz
  replace s6 := s6.below hbz
  have hRc := Blk.below hRb hbz
  have hXc := hXb.trans (hbz.mono hXb.size)
  have hbyc := hbyb.below hbz
  clear hbz hkz hz1
  generalize (w10.alloc (.cells #[.string (txt s), .int .i64 a4, .int .i64 e4] 69)).alloc (.cells #[.int .i64 (zL : Int), .slice A3 n3 c3, .slice B3 m3 d3, .slice C3 k3 p3] 63) = W11 at *
  generalize w9.heap.size = gy at *
  generalize w10.heap.size = gz at *
  have l0 : ∀ P : LaterW W11, P.w.cell? ⟨gy, 0, none⟩ = some (.int .i64 zL) := fun P => (hbyc.below P.h).cell_ (i := 0) rfl
  have l1 : ∀ P : LaterW W11, P.w.cell? ⟨gy, 1, none⟩ = some (.slice A2 n2 c2) := fun P => (hbyc.below P.h).cell_ (i := 1) rfl
  have l2 : ∀ P : LaterW W11, P.w.cell? ⟨gy, 2, none⟩ = some (.slice B2 m2 d2) := fun P => (hbyc.below P.h).cell_ (i := 2) rfl
  have l3 : ∀ P : LaterW W11, P.w.cell? ⟨gy, 3, none⟩ = some (.slice C2 k2 p2) := fun P => (hbyc.below P.h).cell_ (i := 3) rfl
  have mm0 : ∀ P : LaterW W11, P.w.cell? ⟨gz + 1, 0, none⟩ = some (.int .i64 zL) := fun P => (hz2.below P.h).cell_ (i := 0) rfl
  have mm1 : ∀ P : LaterW W11, P.w.cell? ⟨gz + 1, 1, none⟩ = some (.slice A3 n3 c3) := fun P => (hz2.below P.h).cell_ (i := 1) rfl
  have mm2 : ∀ P : LaterW W11, P.w.cell? ⟨gz + 1, 2, none⟩ = some (.slice B3 m3 d3) := fun P => (hz2.below P.h).cell_ (i := 2) rfl
  have mm3 : ∀ P : LaterW W11, P.w.cell? ⟨gz + 1, 3, none⟩ = some (.slice C3 k3 p3) := fun P => (hz2.below P.h).cell_ (i := 3) rfl
  have lz : ∀ P : LaterW W11, P.w.cell? ⟨gz, 2, none⟩ = some (.int .i64 e4) := fun P => (hz3.below P.h).cell_ (i := 2) rfl
  have lS2 : ∀ P : LaterW W11, _ := fun P => cS2 P.w A2 n2 c2 B2 m2 d2 C2 k2 p2 A3 n3 c3 B3 m3 d3 C3 k3 p3 (s1.below P.h) (s2.below P.h) (s3.below P.h) (s4.below P.h) (s5.below P.h) (s6.below P.h)
  have lR : ∀ P : LaterW W11, Rdr gq s a4 e4 P.w := fun P => Blk.below hRc P.h
  refine wp_region_later mixed (by kernel_rfl) ?_
  repeat (first
    | ((with_reducible refine wpQuiet_skip (by with_unfolding_all rfl) ?_); simp only [Act.put, List.setIfInBounds_toArray, List.set_cons_zero, List.set_cons_succ])
    | ((with_reducible refine wpQuiet_step (fun K hK => ?_)); go_simp; first | ((with_reducible refine hK _ ?_); clear hK K) | (rw [if_neg (by first | decide | (intro h; cases h))]; (with_reducible refine hK _ ?_); clear hK K) | (with_reducible apply Exists.intro; (with_reducible refine ⟨fun P => ?_, hK _ ?_⟩); (first | (go_at_call 48; exact later_of (lS2 P)) | (go_at_call 50; exact later_of (cER _ _ (lR P))) | (go_at_call 44; exact later_of (awake8_any _))); clear hK K)))
  with_reducible refine wpQuiet_nil ?_
  intro _ hw'
  obtain ⟨P, rfl⟩ := hw'
  have hP := P.h
  generalize P.w = w12 at *
  go_wp2
  go_ret
  exact ⟨rfl, hXc.trans (hP.mono hXc.size)⟩
set_option maxRecDepth 100000 in
set_option maxHeartbeats 40000000 in
theorem sb_big (L : Int) (A B C : Option Addr) (na ca nb cb nc cc : Nat) (xA xB xC : List (List UInt8)) (s : List UInt8) (hL : 4611686018427387904 < L) (h1 : ¬ 40 < na) (h2 : ¬ 40 < nb) (h3 : ¬ 10 < nc) (h4 : ¬ 2000 < s.length) (w : World) (hA : RowR w A na xA) (hB : RowR w B nb xB) (hC : RowR w C nc xC) :
    Calls Try.prog 5 #[.agg #[.int .i64 L, .slice A na ca, .slice B nb cb, .slice C nc cc], .string (txt s)] w fun e w' => e = .returned (.bool true) ∧ Below w.heap.size w w' := by
  have zna : ¬ (40 : Int) < na := by omega
  have znb : ¬ (40 : Int) < nb := by omega
  have znc : ¬ (10 : Int) < nc := by omega
  have zs : ¬ (2000 : Int) < s.length := by omega
  have zt : ¬ 2000 < s.length := by omega
  have mixed : Try.prog.follows .mixedOrders = true := by kernel_rfl
  have lA := hA.1
  have lB := hB.1
  have lC := hC.1
  obtain ⟨bk1, bk2, bk3, bk4, bk5⟩ := sig_back L xA xB xC (by omega) (by omega) (by omega) hA.2.2.1 hB.2.2.1 hC.2.2.1
  have lS : (sigE L xA xB xC).length ≤ 1000000000000 := by
    have q1 := idsE_len xA na hA.1 (by omega) hA.2.2.1
    have q2 := idsE_len xB nb hB.1 (by omega) hB.2.2.1
    have q3 := idsE_len xC nc hC.1 (by omega) hC.2.2.1
    have q4 := numE_len9 (leafW L) (leafW_le _)
    rw [sigE, List.length_append, List.length_append, List.length_append]; omega
  have hx0 : Below w.heap.size w ((w.alloc (.cells #[.int .i64 L, .slice A na ca, .slice B nb cb, .slice C nc cc] 63)).alloc (.cells #[.slice none 0 0] 36)) := ((Below.refl _ w).alloc (Nat.le_refl _) _).alloc (by simp) _
  have hk0 : (w.alloc (.cells #[.int .i64 L, .slice A na ca, .slice B nb cb, .slice C nc cc] 63)).heap.size = w.heap.size + 1 := by simp
  have hW0 := Wrt.new (w.alloc (.cells #[.int .i64 L, .slice A na ca, .slice B nb cb, .slice C nc cc] 63))
  rw [hk0] at hW0
  have hbx0 := (Blk.new w 63 #[.int .i64 L, .slice A na ca, .slice B nb cb, .slice C nc cc]).alloc (.cells #[.slice none 0 0] 36)
  have cPut := sput_any (w.heap.size + 1) [] L A B C na ca nb cb nc cc xA xB xC (by omega) (by omega) (by omega) (by simp) w _ (Nat.le_succ _) hx0 hA hB hC hW0
  rw [List.nil_append] at cPut
  have cB8 : ∀ W, Below w.heap.size w W → Calls Try.prog 47 #[.agg #[.int .i64 L, .slice A na ca, .slice B nb cb, .slice C nc cc]] W fun o w' => o = .returned (.string (txt (sigE L xA xB xC))) ∧ Below W.heap.size W w' := fun W h => rbytes8_any L A B C na ca nb cb nc cc xA xB xC (by omega) (by omega) (by omega) W (hA.below h) (hB.below h) (hC.below h)
  have rd0 : ∀ (x : Nat), rdL 0 x = x := fun _ => rfl
  have rd1 : ∀ (x : List (List UInt8)), rdR 0 x = x := fun _ => rfl
  have cG1 : ∀ (g : Nat) (W : World), Rdr g (sigE L xA xB xC) 0 0 W → _ := fun g W h => get_s g (sigE L xA xB xC) lS (leafW L) xA xB xC _ _ (by rw [yL, bk1, bk2, rd0]) (by rw [yA, bk1, bk3, rd1]) (by rw [yB, bk1, bk4, rd1]) (by rw [yC, bk1, bk5, rd1]) bk1 W h
  have v0 : (0 : Int) ≤ L := by omega
  have v1 : ¬ L ≤ (4611686018427387904 : Int) := by omega
  have v2 : decide (L ≤ (4611686018427387904 : Int)) = false := by simpa using v1
  have v3 : (4611686018427387904 : Int) < L := by omega
  have hE1 : endE (sigE L xA xB xC) (sigE L xA xB xC).length 0 = 0 := by unfold endE; rw [if_pos rfl, if_neg (Nat.lt_irrefl _)]
  have cE1 : ∀ (g : Nat) (W : World), Rdr g (sigE L xA xB xC) (sigE L xA xB xC).length 0 W → Calls Try.prog 42 #[.pointer (some ⟨g, 0, none⟩)] W fun o w' => o = .returned (.int .i64 0) ∧ Below W.heap.size W w' := fun g W h => by
    have := pkEnd_any g _ _ 0 (Nat.le_refl _) lS W h
    rw [hE1] at this
    exact this.mono fun _ _ ⟨a, b⟩ => ⟨a, step_below h b⟩
  obtain ⟨a4, e4, hq4⟩ : ∃ a4 e4, q4 s 0 = (a4, e4) := ⟨_, _, rfl⟩
  have cG2 : ∀ (g : Nat) (W : World), Rdr g s 0 0 W → _ := fun g W h => get_s g s (by omega) _ _ _ _ a4 e4 rfl rfl rfl rfl hq4 W h
  have cG3 := fun W => rget_s s (by omega) _ _ _ _ a4 e4 rfl rfl rfl rfl hq4 W
  generalize yL s = zL at *
  generalize yA s = zA at *
  generalize yB s = zB at *
  generalize yC s = zC at *
  have cS2 : ∀ (W : World) (A2 : Option Addr) (n2 c2 : Nat) (B2 : Option Addr) (m2 d2 : Nat) (C2 : Option Addr) (k2 p2 : Nat) (A3 : Option Addr) (n3 c3 : Nat) (B3 : Option Addr) (m3 d3 : Nat) (C3 : Option Addr) (k3 p3 : Nat), RowR W A2 n2 zA → RowR W B2 m2 zB → RowR W C2 k2 zC → RowR W A3 n3 zA → RowR W B3 m3 zB → RowR W C3 k3 zC → Calls Try.prog 48 #[.agg #[.int .i64 (zL : Int), .slice A2 n2 c2, .slice B2 m2 d2, .slice C2 k2 p2], .agg #[.int .i64 (zL : Int), .slice A3 n3 c3, .slice B3 m3 d3, .slice C3 k3 p3]] W fun o w' => o = .returned (.bool true) ∧ Below W.heap.size W w' := fun W A2 n2 c2 B2 m2 d2 C2 k2 p2 A3 n3 c3 B3 m3 d3 C3 k3 p3 r1 r2 r3 r4 r5 r6 => by
    have := rsame8_any (zL : Int) A2 B2 C2 n2 c2 m2 d2 k2 p2 zA zB zC (zL : Int) A3 B3 C3 n3 c3 m3 d3 k3 p3 zA zB zC W r1 r2 r3 r4 r5 r6
    rwa [decide_eq_true ⟨rfl, rfl, rfl, rfl⟩] at this
  have cER : ∀ (g : Nat) (W : World), Rdr g s a4 e4 W → Calls Try.prog 50 #[.pointer (some ⟨g, 0, none⟩)] W fun o w' => o = .returned (.int .i64 e4) ∧ Below W.heap.size W w' := fun g W h => (pkErr_any g s a4 e4 W h).mono fun _ _ ⟨a, b⟩ => ⟨a, b ▸ Below.refl _ _⟩
  have cWS : ∀ (S : List UInt8) (W : World), Wrt (w.heap.size + 1) S W → Calls Try.prog 32 #[.pointer (some ⟨w.heap.size + 1, 0, none⟩)] W fun o w' => o = .returned (.string (txt S)) ∧ Below W.heap.size W w' := fun S W h => (pkWString_any _ S W h).mono fun _ _ ⟨a, b⟩ => ⟨a, b ▸ Below.refl _ _⟩
  clear hA hB hC bk1 bk2 bk3 bk4 bk5 lS lA lB lC hq4 rd0 rd1 hE1 hk0 h1 h2 h3 h4
  generalize sigE L xA xB xC = S at *
  generalize leafW L = N at *
  go_enter Try.func5, Try.ntmps5
  go_wp2_with (first
    | (go_at_call 45; (with_reducible refine cPut.mono ?_); rintro o1 w1 ⟨rfl, hW1, hB1, hK1⟩; have hbx1 := hK1 _ _ _ (by decide) (by decide) hbx0; have hX1 := hx0.trans (hB1.mono (Nat.le_succ _)); clear cPut hB1 hK1 hbx0 hW0 hx0)
    | (go_at_call 32; (with_reducible refine (pkWString_any _ S w1 hW1).mono ?_); rintro o2 w2 ⟨rfl, rfl⟩)
    | (go_at_call 33; (with_reducible refine (new_g S w1).mono ?_); rintro o3 w3 ⟨gr, rfl, hgr, hR3, hB3⟩)
    | (go_at_call 46; (with_reducible refine (cG1 gr w3 hR3).mono ?_); rintro o4 w4 ⟨A2, n2, c2, B2, m2, d2, C2, k2, p2, rfl, ⟨r1, r2, r3⟩, hst4⟩; have hB4 := step_low hB3 hB3.size hst4 hgr; have hbx4 := hbx1.below hB4; have hW4 := hW1.below hB4; have hX4 := hX1.trans (hB4.mono hX1.size); have hR4 := hst4.r; clear hB3 hR3 hst4 hB4 hbx1 hW1 hX1))
  have hb5 := (Below.refl w4.heap.size w4).alloc (Nat.le_refl _) (.cells #[.int .i64 (N : Int), .slice A2 n2 c2, .slice B2 m2 d2, .slice C2 k2 p2] 63)
  have hbk5 := Blk.new w4 63 #[.int .i64 (N : Int), .slice A2 n2 c2, .slice B2 m2 d2, .slice C2 k2 p2]
  replace hbx4 := hbx4.below hb5
  replace hW4 := hW4.below hb5
  have hX5 := hX4.trans (hb5.mono hX4.size)
  replace hR4 : Rdr gr S S.length 0 (w4.alloc (.cells #[.int .i64 (N : Int), .slice A2 n2 c2, .slice B2 m2 d2, .slice C2 k2 p2] 63)) := Blk.alloc hR4 _
  replace r1 := r1.below hb5
  replace r2 := r2.below hb5
  replace r3 := r3.below hb5
  clear hb5 hX4
  generalize w4.alloc (.cells #[.int .i64 (N : Int), .slice A2 n2 c2, .slice B2 m2 d2, .slice C2 k2 p2] 63) = W5 at *
  generalize w4.heap.size = gb at *
  have l0 : ∀ P : LaterW W5, P.w.cell? ⟨w.heap.size, 0, none⟩ = some (.int .i64 L) := fun P => (hbx4.below P.h).cell_ (i := 0) rfl
  have l1 : ∀ P : LaterW W5, P.w.cell? ⟨w.heap.size, 1, none⟩ = some (.slice A na ca) := fun P => (hbx4.below P.h).cell_ (i := 1) rfl
  have l2 : ∀ P : LaterW W5, P.w.cell? ⟨w.heap.size, 2, none⟩ = some (.slice B nb cb) := fun P => (hbx4.below P.h).cell_ (i := 2) rfl
  have l3 : ∀ P : LaterW W5, P.w.cell? ⟨w.heap.size, 3, none⟩ = some (.slice C nc cc) := fun P => (hbx4.below P.h).cell_ (i := 3) rfl
  have lW : ∀ P : LaterW W5, Wrt (w.heap.size + 1) S P.w := fun P => hW4.below P.h
  have lR : ∀ P : LaterW W5, Rdr gr S S.length 0 P.w := fun P => Blk.below hR4 P.h
  have lX : ∀ P : LaterW W5, Below w.heap.size w P.w := fun P => hX5.trans (P.h.mono hX5.size)
  refine wp_region_later mixed (by kernel_rfl) ?_
  repeat (first
    | ((with_reducible refine wpQuiet_skip (by with_unfolding_all rfl) ?_); simp only [Act.put, List.setIfInBounds_toArray, List.set_cons_zero, List.set_cons_succ])
    | ((with_reducible refine wpQuiet_step (fun K hK => ?_)); go_simp; first | ((with_reducible refine hK _ ?_); clear hK K) | (rw [if_neg (by first | decide | (intro h; cases h))]; (with_reducible refine hK _ ?_); clear hK K) | (with_reducible apply Exists.intro; (with_reducible refine ⟨fun P => ?_, hK _ ?_⟩); (first | (go_at_call 32; exact later_of (cWS _ _ (lW P))) | (go_at_call 47; exact later_of (cB8 _ (lX P))) | (go_at_call 42; exact later_of (cE1 _ _ (lR P)))); clear hK K)))
  with_reducible refine wpQuiet_nil ?_
  intro _ hw'
  obtain ⟨P, rfl⟩ := hw'
  have hP := P.h
  have hX6 := lX P
  have hbx6 := hbx4.below hP
  have hbk6 := hbk5.below hP
  replace r1 := r1.below hP
  replace r2 := r2.below hP
  replace r3 := r3.below hP
  clear l0 l1 l2 l3 lW lR lX hX5 hbx4 hbk5 hW4 hR4 cE1 cB8 cWS
  generalize P.w = w6 at *
  clear hP
  have x0 := hbx6.cell_ (i := 0) rfl
  have x1 := hbx6.cell_ (i := 1) rfl
  have x2 := hbx6.cell_ (i := 2) rfl
  have x3 := hbx6.cell_ (i := 3) rfl
  have k0 := hbk6.cell_ (i := 0) rfl
  have k1' := hbk6.cell_ (i := 1) rfl
  have k2' := hbk6.cell_ (i := 2) rfl
  have k3' := hbk6.cell_ (i := 3) rfl
  go_wp2_with (first
    | (go_at_call 33; (with_reducible refine (new_g s w6).mono ?_); rintro o8 w8 ⟨gq, rfl, hgq, hR8, hB8⟩; have hX8 := hX6.trans (hB8.mono hX6.size))
    | (go_at_call 46; (with_reducible refine (cG2 gq w8 hR8).mono ?_); rintro o9 w9 ⟨A2, n2, c2, B2, m2, d2, C2, k2, p2, rfl, ⟨s1, s2, s3⟩, hst9⟩; have hX9 := step_low hX8 hX8.size hst9 (Nat.le_trans hX6.size hgq); have hR9 := hst9.r; have hby9 := Blk.new w9 63 #[.int .i64 (zL : Int), .slice A2 n2 c2, .slice B2 m2 d2, .slice C2 k2 p2]; have hb9 := (Below.refl w9.heap.size w9).alloc (Nat.le_refl _) (.cells #[.int .i64 (zL : Int), .slice A2 n2 c2, .slice B2 m2 d2, .slice C2 k2 p2] 63); replace s1 := s1.below hb9; replace s2 := s2.below hb9; replace s3 := s3.below hb9; have hRa : Rdr gq s a4 e4 (w9.alloc (.cells #[.int .i64 (zL : Int), .slice A2 n2 c2, .slice B2 m2 d2, .slice C2 k2 p2] 63)) := Blk.alloc hR9 _; have hXa := hX9.trans (hb9.mono hX9.size); clear hb9 hst9 hX9 hR9)
    | (go_at_call 49; (with_reducible refine (cG3 _).mono ?_); rintro o10 w10 ⟨A3, n3, c3, B3, m3, d3, C3, k3, p3, rfl, ⟨s4, s5, s6⟩, hb10⟩; replace s1 := s1.below hb10; replace s2 := s2.below hb10; replace s3 := s3.below hb10; have hRb := Blk.below hRa hb10; have hXb := hXa.trans (hb10.mono hXa.size); have hbyb := hby9.below hb10))
  have hz1 := Blk.new w10 69 #[.string (txt s), .int .i64 a4, .int .i64 e4]
  have hz2 := Blk.new (w10.alloc (.cells #[.string (txt s), .int .i64 a4, .int .i64 e4] 69)) 63 #[.int .i64 (zL : Int), .slice A3 n3 c3, .slice B3 m3 d3, .slice C3 k3 p3]
  have hkz : (w10.alloc (.cells #[.string (txt s), .int .i64 a4, .int .i64 e4] 69)).heap.size = w10.heap.size + 1 := by simp
  have hz3 := hz1.alloc (.cells #[.int .i64 (zL : Int), .slice A3 n3 c3, .slice B3 m3 d3, .slice C3 k3 p3] 63)
  rw [hkz] at hz2
  have hbz := ((Below.refl w10.heap.size w10).alloc (Nat.le_refl _) (.cells #[.string (txt s), .int .i64 a4, .int .i64 e4] 69)).alloc (by simp) (.cells #[.int .i64 (zL : Int), .slice A3 n3 c3, .slice B3 m3 d3, .slice C3 k3 p3] 63)
  replace s1 := s1.below hbz
  replace s2 := s2.below hbz
  replace s3 := s3.below hbz
  replace s4 := s4.below hbz
  replace s5 := s5.below hbz
  replace s6 := s6.below hbz
  have hRc := Blk.below hRb hbz
  have hXc := hXb.trans (hbz.mono hXb.size)
  have hbyc := hbyb.below hbz
  clear hbz hkz hz1
  generalize (w10.alloc (.cells #[.string (txt s), .int .i64 a4, .int .i64 e4] 69)).alloc (.cells #[.int .i64 (zL : Int), .slice A3 n3 c3, .slice B3 m3 d3, .slice C3 k3 p3] 63) = W11 at *
  generalize w9.heap.size = gy at *
  generalize w10.heap.size = gz at *
  have l0 : ∀ P : LaterW W11, P.w.cell? ⟨gy, 0, none⟩ = some (.int .i64 zL) := fun P => (hbyc.below P.h).cell_ (i := 0) rfl
  have l1 : ∀ P : LaterW W11, P.w.cell? ⟨gy, 1, none⟩ = some (.slice A2 n2 c2) := fun P => (hbyc.below P.h).cell_ (i := 1) rfl
  have l2 : ∀ P : LaterW W11, P.w.cell? ⟨gy, 2, none⟩ = some (.slice B2 m2 d2) := fun P => (hbyc.below P.h).cell_ (i := 2) rfl
  have l3 : ∀ P : LaterW W11, P.w.cell? ⟨gy, 3, none⟩ = some (.slice C2 k2 p2) := fun P => (hbyc.below P.h).cell_ (i := 3) rfl
  have mm0 : ∀ P : LaterW W11, P.w.cell? ⟨gz + 1, 0, none⟩ = some (.int .i64 zL) := fun P => (hz2.below P.h).cell_ (i := 0) rfl
  have mm1 : ∀ P : LaterW W11, P.w.cell? ⟨gz + 1, 1, none⟩ = some (.slice A3 n3 c3) := fun P => (hz2.below P.h).cell_ (i := 1) rfl
  have mm2 : ∀ P : LaterW W11, P.w.cell? ⟨gz + 1, 2, none⟩ = some (.slice B3 m3 d3) := fun P => (hz2.below P.h).cell_ (i := 2) rfl
  have mm3 : ∀ P : LaterW W11, P.w.cell? ⟨gz + 1, 3, none⟩ = some (.slice C3 k3 p3) := fun P => (hz2.below P.h).cell_ (i := 3) rfl
  have lz : ∀ P : LaterW W11, P.w.cell? ⟨gz, 2, none⟩ = some (.int .i64 e4) := fun P => (hz3.below P.h).cell_ (i := 2) rfl
  have lS2 : ∀ P : LaterW W11, _ := fun P => cS2 P.w A2 n2 c2 B2 m2 d2 C2 k2 p2 A3 n3 c3 B3 m3 d3 C3 k3 p3 (s1.below P.h) (s2.below P.h) (s3.below P.h) (s4.below P.h) (s5.below P.h) (s6.below P.h)
  have lR : ∀ P : LaterW W11, Rdr gq s a4 e4 P.w := fun P => Blk.below hRc P.h
  refine wp_region_later mixed (by kernel_rfl) ?_
  repeat (first
    | ((with_reducible refine wpQuiet_skip (by with_unfolding_all rfl) ?_); simp only [Act.put, List.setIfInBounds_toArray, List.set_cons_zero, List.set_cons_succ])
    | ((with_reducible refine wpQuiet_step (fun K hK => ?_)); go_simp; first | ((with_reducible refine hK _ ?_); clear hK K) | (rw [if_neg (by first | decide | (intro h; cases h))]; (with_reducible refine hK _ ?_); clear hK K) | (with_reducible apply Exists.intro; (with_reducible refine ⟨fun P => ?_, hK _ ?_⟩); (first | (go_at_call 48; exact later_of (lS2 P)) | (go_at_call 50; exact later_of (cER _ _ (lR P))) | (go_at_call 44; exact later_of (awake8_any _))); clear hK K)))
  with_reducible refine wpQuiet_nil ?_
  intro _ hw'
  obtain ⟨P, rfl⟩ := hw'
  have hP := P.h
  generalize P.w = w12 at *
  go_wp2
  go_ret
  exact ⟨rfl, hXc.trans (hP.mono hXc.size)⟩
section
variable {H : Type} {enc : TypeId × Value → H} {P : Program} {w : World} {r : Reach} {base b0 : Nat} {sp : Nat → Bool} {hd : Bool}
theorem open_idRowB {t e q : TypeId} {a0 : Option Addr} {len0 cap0 : Nat} {d : DataW H} {ps : List MemPlace} (ht : P.underlying t = some (.slice e)) (he : P.underlying e = some (.array 32 q)) (hq : P.underlying q = some (.int .u8)) (hc : P.cellsOf q = 1) (hn : P.cellsOf e = 32)
    (h : DataW.Trod enc P w base sp hd t (.slice a0 len0 cap0) d ps) : ∃ a len cap ids, Value.slice a0 len0 cap0 = .slice a len cap ∧ IdRow w a len ids := by
  obtain ⟨fuel, hf⟩ := h
  cases fuel with
  | zero => simp [DataW.trod] at hf
  | succ m =>
    rw [DataW.trod_step] at hf
    unfold DataW.trodStep at hf
    simp only [ht, Value.cells] at hf
    cases a0 with
    | none =>
      rcases len0 with _ | len0
      · exact ⟨none, 0, cap0, [], rfl, rfl, Nat.zero_le _, IdRd.nil_ _ _⟩
      · simp at hf
    | some a =>
      simp only [hn] at hf
      split at hf
      · rename_i hcond
        simp only [Option.bind_eq_some_iff] at hf
        obtain ⟨ys, hy, _⟩ := hf
        have hy2 := mapM_each _ _ hy
        have hall : ∀ i, i < len0 → ∃ l : List UInt8, l.length = 32 ∧ ∀ j v, (l.map u8v)[j]? = some v → w.cell? ((a.add (i * 32)).add j) = some v := fun i hi => by
          obtain ⟨y, hy⟩ := hy2 i (List.mem_range.2 hi)
          simp only [Option.bind_eq_some_iff] at hy
          obtain ⟨cs, hcs, htr⟩ := hy
          obtain ⟨l, hl, rfl⟩ := trod_id he hq hc hn htr
          refine ⟨l, hl, fun j v hj => ?_⟩
          have hj32 : j < 32 := by have := (List.getElem?_eq_some_iff.1 hj).1; rw [List.length_map, hl] at this; exact this
          exact ((World.cells?_some hcs).2.2 j hj32).trans hj
        by_cases h0 : len0 = 0
        · subst h0
          exact ⟨_, _, _, [], rfl, rfl, Nat.zero_le _, IdRd.nil_ _ _⟩
        · have hsp : a.spot = none := by
            obtain ⟨l, hl, hr⟩ := hall 0 (by omega)
            obtain ⟨v, hv⟩ : ∃ v, (l.map u8v)[0]? = some v := ⟨_, List.getElem?_eq_getElem (by rw [List.length_map]; omega)⟩
            have := hr 0 v hv
            cases hs : a.spot with
            | none => rfl
            | some s => simp [Addr.add, World.cell?, hs] at this; split at this <;> simp_all
          obtain ⟨g, o, sp⟩ := a
          obtain rfl : sp = none := hsp
          obtain ⟨ids, h1, h2, h3⟩ := all_ids (w := w) (g := g) (o := o) len0 (fun i hi => by
            obtain ⟨l, hl, hr⟩ := hall i hi
            refine ⟨l, hl, fun j v hj => ?_⟩
            have := hr j v hj
            rwa [Addr.add_lit, Addr.add_lit] at this)
          exact ⟨_, _, _, ids, rfl, h1, by omega, h2, .inr ⟨g, o, rfl, h3⟩⟩
      · cases hf
theorem trod_idRowB {t e q : TypeId} {fuel : Nat} {cs : List Value} {x : DataW H × List MemPlace} (ht : P.underlying t = some (.slice e)) (he : P.underlying e = some (.array 32 q)) (hq : P.underlying q = some (.int .u8)) (hc : P.cellsOf q = 1) (hn : P.cellsOf e = 32)
    (h : DataW.trod enc P w base sp hd fuel t cs = some x) : ∃ a len cap ids, cs = [.slice a len cap] ∧ IdRow w a len ids := by
  obtain ⟨d, ps⟩ := x
  rcases DataW.trod_slice ht h with ⟨rfl, _⟩ | ⟨a, len, cap, _, _, _, _, rfl, _⟩
  · exact ⟨none, 0, 0, [], rfl, rfl, Nat.zero_le _, IdRd.nil_ _ _⟩
  · obtain ⟨a1, l1, c1, ids, e, hi⟩ := open_idRowB (d := d) (ps := ps) ht he hq hc hn ⟨fuel, h⟩
    exact ⟨a1, l1, c1, ids, by rw [e], hi⟩
end
section
variable {H : Type} {enc : TypeId × Value → H} {w : World} {r : Reach} {base b0 : Nat} {sp : Nat → Bool} {hd : Bool}
set_option maxRecDepth 100000 in
/-- A signature that came in. -/
theorem open_sigB {v : Value} {d : DataW H} {ps : List MemPlace} (hv : Value.okWide Try.prog w r b0 63 v) (h : DataW.Trod enc Try.prog w base sp hd 63 v d ps) :
    ∃ (L : Int) (A B C : Option Addr) (k1 k2 k3 c1 c2 c3 : Nat) (l r way : List (List UInt8)), v = .agg #[.int .i64 L, .slice A k1 c1, .slice B k2 c2, .slice C k3 c3] ∧ (Lit.int .i64 L).wf = true ∧ IdRow w A k1 l ∧ IdRow w B k2 r ∧ IdRow w C k3 way := by
  simp only [Value.okWide, Try.underlying63] at hv
  obtain ⟨cs, rfl, hsz, _⟩ := hv
  obtain ⟨fuel, hf⟩ := h
  obtain ⟨xs, k, _, _, hl, hxl, hx⟩ := DataW.trod_struct Try.underlying63 hf
  have hc4 : Try.prog.cellsOf 63 = 4 := by kernel_rfl
  have hc1 : Try.prog.cellsOf 3 = 1 := by kernel_rfl
  have hcr : Try.prog.cellsOf 22 = 1 := by kernel_rfl
  rw [hc4] at hsz
  obtain ⟨x, y, z, u, hxy⟩ : ∃ x y z u, cs = #[x, y, z, u] := by
    obtain ⟨l⟩ := cs
    simp at hsz
    match l, hsz with
    | [x, y, z, u], _ => exact ⟨x, y, z, u, rfl⟩
  subst hxy
  have h0 := hx 0 _ rfl
  have h1 := hx 1 _ rfl
  have h2 := hx 2 _ rfl
  have h3 := hx 3 _ rfl
  have g : ∀ i : Nat, i < 4 → ∃ y, xs[i]? = some y := fun i hi => ⟨_, List.getElem?_eq_getElem (by rw [hxl]; exact hi)⟩
  obtain ⟨y0, e0⟩ := g 0 (by decide)
  obtain ⟨y1, e1⟩ := g 1 (by decide)
  obtain ⟨y2, e2⟩ := g 2 (by decide)
  obtain ⟨y3, e3⟩ := g 3 (by decide)
  rw [e0] at h0
  rw [e1] at h1
  rw [e2] at h2
  rw [e3] at h3
  simp only [Value.cells] at h0 h1 h2 h3
  obtain ⟨L, q0, _, w0⟩ := DataW.trod_int Try.underlying3 h0
  obtain ⟨A, k1, c1, l, q1, w1⟩ := trod_idRowB Try.underlying22 Try.underlying24 Try.underlying5 (by kernel_rfl) (by kernel_rfl) h1
  obtain ⟨B, k2, c2, r, q2, w2⟩ := trod_idRowB Try.underlying22 Try.underlying24 Try.underlying5 (by kernel_rfl) (by kernel_rfl) h2
  obtain ⟨C, k3, c3, way, q3, w3⟩ := trod_idRowB Try.underlying22 Try.underlying24 Try.underlying5 (by kernel_rfl) (by kernel_rfl) h3
  simp [hc1] at q0
  simp [hcr] at q1 q2 q3
  exact ⟨L, A, B, C, k1, k2, k3, c1, c2, c3, l, r, way, by rw [q0, q1, q2, q3], w0, w1, w2, w3⟩
end
theorem signerBytes_any (L : Int) (A B C : Option Addr) (na ca nb cb nc cc : Nat) (xA xB xC : List (List UInt8)) (s : List UInt8) (w : World) (y1 : IdRow w A na xA) (y2 : IdRow w B nb xB) (y3 : IdRow w C nc xC) :
    Calls Try.prog 5 #[.agg #[.int .i64 L, .slice A na ca, .slice B nb cb, .slice C nc cc], .string (txt s)] w fun e w' => e = .returned (.bool true) ∧ Below w.heap.size w w' := by
  by_cases h1 : 40 < na
  · exact sb_long1 L A B C na ca nb cb nc cc xA xB xC s h1 w
  · by_cases h2 : 40 < nb
    · exact sb_long2 L A B C na ca nb cb nc cc xA xB xC s h1 h2 w
    · by_cases h3 : 10 < nc
      · exact sb_long3 L A B C na ca nb cb nc cc xA xB xC s h1 h2 h3 w
      · by_cases h4 : 2000 < s.length
        · exact sb_long4 L A B C na ca nb cb nc cc xA xB xC s h1 h2 h3 h4 w
        · have hA : RowR w A na xA := ⟨y1.1, by omega, y1.2.2⟩
          have hB : RowR w B nb xB := ⟨y2.1, by omega, y2.2.2⟩
          have hC : RowR w C nc xC := ⟨y3.1, by omega, y3.2.2⟩
          rcases leaf_cases L with ⟨N, rfl, hN⟩ | hL | hL
          · exact sb_yes N A B C na ca nb cb nc cc xA xB xC s hN h1 h2 h3 h4 w hA hB hC
          · exact sb_neg L A B C na ca nb cb nc cc xA xB xC s hL h1 h2 h3 h4 w hA hB hC
          · exact sb_big L A B C na ca nb cb nc cc xA xB xC s hL h1 h2 h3 h4 w hA hB hC
set_option linter.unusedVariables false in
theorem law_SignerBytes (w : World) (a0 : Int) (A B C : Option Addr) (k1 k2 k3 c1 c2 c3 : Nat) (l r way : List (List UInt8)) (w0 : (Lit.int .i64 a0).wf = true) (y1 : IdRow w A k1 l) (y2 : IdRow w B k2 r) (y3 : IdRow w C k3 way) (a1 : ByteArray) (w1 : a1.size ≤ maxLen) :
    Calls Try.prog 5 #[.agg #[.int .i64 a0, .slice A k1 c1, .slice B k2 c2, .slice C k3 c3], .string a1] w fun e w' => e = .returned (.bool true) ∧ Below w.heap.size w w' := by
  exact signerBytes_any a0 A B C k1 c1 k2 c2 k3 c3 l r way a1.data.toList w y1 y2 y3

open Go.ChangeShapes Go.WideShapes Go.ChangeAt
open Go.ChangeMaps (open_string shut_string)
theorem own_SignerBytes : ownKnob Try.prog.godebug = none := by kernel_rfl
theorem laidOut_SignerBytes : laidOutB Try.prog = true := by kernel_rfl
set_option linter.unusedVariables false in
set_option maxRecDepth 100000 in
theorem lifted_SignerBytes (os : Os) (started : os.Started) (H : Type) (enc : TypeId × Value → H) :
    ReturnsInHanded {} Try.checked os 5 .any (Rows.signerBytesSpec.pre6 enc Try.prog Try.f5 Rows.signerBytesRow.domain false) (Rows.signerBytesSpec.post enc Try.prog Try.f5 false true false false) := by
  refine returnsInHanded_of_change (C := Try.checked) own_SignerBytes started (by kernel_rfl) Try.func5
    (ChangeSpec.witness6 (enc := enc) (C := Try.checked) false ⟨#[], #[.agg #[.int .i64 0, .slice none 0 0, .slice none 0 0, .slice none 0 0], .string ByteArray.empty], []⟩ 8 (by kernel_rfl) (by kernel_rfl) (by kernel_rfl) (by kernel_rfl)) ?_
  intro W base args ds gs before hval0 hW hcnd _
  have hval : ∀ (j : Nat) t v, Try.f5.params[j]? = some t → args[j]? = some v → Value.okWide Try.prog W .any base t v := hval0
  have hW' := hW
  obtain ⟨p, q, hA0, hV, rfl, hfz, hnd⟩ := hW
  have hA1 : DataW.TrodAll enc Try.prog W 0 (fun _ => true) true Try.f5.params.toList args.toList ds p := hA0
  have hA : DataW.TrodAll enc Try.prog W 0 (fun _ => true) true Try.f5.params.toList args.toList ds p := hA0
  rw [Try.params5] at hA hval
  obtain ⟨v0, vs0, d0, ds0, p0, q0, hargs, rfl, rfl, h0, r0⟩ := trodAll_cons hA
  obtain ⟨v1, vs1, d1, ds1, p1, q1, rfl, rfl, rfl, h1, r1⟩ := trodAll_cons r0
  obtain ⟨rfl, rfl, rfl⟩ := trodAll_nil r1
  obtain rfl : args = #[v0, v1] := by cases args; simp_all
  obtain ⟨rfl, rfl⟩ := trodVars_none hV
  obtain ⟨a0, A, B, C, k1, k2, k3, c1, c2, c3, l, r, way, rfl, w0, y1, y2, y3⟩ := open_sigB (hval 0 63 v0 rfl rfl) h0
  obtain ⟨a1, rfl, rfl, rfl, w1⟩ := open_string Try.underlying9 (hval 1 9 v1 rfl rfl) h1
  clear hA0 hval0
  refine (law_SignerBytes W a0 A B C k1 k2 k3 c1 c2 c3 l r way w0 y1 y2 y3 a1 w1).mono fun e W' ⟨he, bel⟩ => ?_
  subst he
  exact ⟨_, rfl, _, _, _, [], _, [], hW', trodAll_mk1 (shut_bool Try.underlying4 _), trodAll_stays laidOut_SignerBytes bel (by kernel_rfl) hA1, rfl, bel.frame _, fun h => by cases h⟩

/-- The statement. -/
theorem SignerBytes_holds : Rows.SignerBytesSaid :=
  OpenClaim.holds_of_wide 5 Try.f5 rfl rfl rfl rfl rfl rfl rfl ⟨rfl, rfl, rfl, rfl, rfl⟩ rfl rfl rfl rfl rfl (by kernel_rfl) Try.func5 (by kernel_rfl)
    (of_decide_eq_true (by kernel_rfl)) (by unfold Func.isWrapper; first | (rw [if_pos (by decide +kernel)]; kernel_rfl) | (rw [if_neg (by decide +kernel)]; exact ⟨rfl, rfl⟩))
    (fun os started H enc _ => lifted_SignerBytes os started H enc)
#print axioms SignerBytes_holds
end Go.Proofs.Ythpdkdalfjahcaa

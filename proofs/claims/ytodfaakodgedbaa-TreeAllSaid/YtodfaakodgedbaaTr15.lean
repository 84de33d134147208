/- All told in beginnings; the law's awake. -/
import Derived.Test.YtodfaakodgedbaaTr13
import Derived.Deep.DeepCutAuto
set_option linter.unusedSimpArgs false
set_option linter.unusedVariables false
namespace Go.Proofs.Ytodfaakodgedbaa
open Go.RowKit Go.Qc Go.Shelf
attribute [local go_sem] txt_size txt_append ib_fold txt_toL

theorem allF_snoc : ∀ (os : List OpD) (k : Nat) (L : List FD) (o : OpD) (M : List FD), allF k L (os ++ [o]) = .ok M → ∃ N, allF k L os = .ok N ∧ applyF N o = .ok M
  | [], k, L, o, M, h => by
    rw [List.nil_append, allF] at h
    cases hq : applyF L o with
    | error e => rw [hq] at h; cases h
    | ok N =>
      rw [hq] at h
      simp only [allF] at h
      injection h with h
      subst h
      exact ⟨L, rfl, hq⟩
  | x :: os, k, L, o, M, h => by
    rw [List.cons_append, allF] at h
    cases hq : applyF L x with
    | error e => rw [hq] at h; cases h
    | ok N =>
      rw [hq] at h
      simp only at h
      obtain ⟨N2, h1, h2⟩ := allF_snoc os (k + 1) N o M h
      exact ⟨N2, by rw [allF, hq]; exact h1, h2⟩
theorem allF_good : ∀ (os : List OpD) (k : Nat) (L M : List FD), GoodF L → allF k L os = .ok M → GoodF M
  | [], k, L, M, hg, h => by
    rw [allF] at h
    injection h with h
    subst h
    exact hg
  | x :: os, k, L, M, hg, h => by
    rw [allF] at h
    cases hq : applyF L x with
    | error e => rw [hq] at h; cases h
    | ok N =>
      rw [hq] at h
      exact allF_good os (k + 1) N M (good_next hg hq) h
theorem allF_err : ∀ (os : List OpD) (k : Nat) (L : List FD) (q : Nat) (e : Int), allF k L os = .error (q, e) → k ≤ q ∧ q - k < os.length ∧ ∃ M, allF k L (os.take (q - k)) = .ok M
  | [], k, L, q, e, h => by rw [allF] at h; cases h
  | x :: os, k, L, q, e, h => by
    rw [allF] at h
    cases hq : applyF L x with
    | error e2 =>
      rw [hq] at h
      simp only at h
      injection h with h
      injection h with h1 h2
      subst h1
      exact ⟨Nat.le_refl _, by simp, L, by rw [Nat.sub_self, List.take_zero, allF]⟩
    | ok N =>
      rw [hq] at h
      simp only at h
      obtain ⟨h1, h2, M, h3⟩ := allF_err os (k + 1) N q e h
      refine ⟨by omega, by rw [List.length_cons]; omega, M, ?_⟩
      rw [show q - k = (q - (k + 1)) + 1 by omega, List.take_succ_cons, allF, hq]
      exact h3
/-- One operation back. -/
theorem step_back {os : List OpD} {k : Nat} {D : OpD} {L : List FD} (h : allF 0 [] (os.take (k + 1)) = .ok L) (hk : os[k]? = some D) : ∃ N, allF 0 [] (os.take k) = .ok N ∧ GoodF N ∧ applyF N D = .ok L ∧ (4 < D.k → N = L) ∧ (D.k ≤ 4 → 1 ≤ D.k ∧ allF 0 L (invD D) = .ok N) := by
  rw [take_snoc hk] at h
  obtain ⟨N, h1, h2⟩ := allF_snoc _ 0 [] D L h
  have hg := allF_good _ 0 [] N GoodF.nil h1
  refine ⟨N, h1, hg, h2, fun h4 => (pol_same h4 h2).symm, fun h4 => ⟨?_, (undo_one hg h4 h2).2⟩⟩
  unfold applyF at h2
  by_cases hE : opE D = 0
  · exact (formed_of hE).1.1
  · rw [if_neg hE] at h2; cases h2

theorem awk_data : allF 0 [] [⟨1, [97], [], 0, [], [], zeroB, 0⟩, ⟨3, [97], [], 0, [], [[120]], zeroB, 0⟩] = .ok [([97], [[120]])] := by
  have h : (match allF 0 [] [⟨1, [97], [], 0, [], [], zeroB, 0⟩, ⟨3, [97], [], 0, [], [[120]], zeroB, 0⟩] with | .ok L => decide (L = [([97], [[120]])]) | .error _ => false) = true := by decide +kernel
  cases hq : allF 0 [] [⟨1, [97], [], 0, [], [], zeroB, 0⟩, ⟨3, [97], [], 0, [], [[120]], zeroB, 0⟩] with
  | error e => rw [hq] at h; cases h
  | ok L => rw [hq] at h; rw [of_decide_eq_true h]
theorem awk_rows (w : World) (cs : Array Value) : ∀ X ∈ [(⟨⟨1, [97], [], 0, [], [], zeroB, 0⟩, none, 0, 0, none, 0, 0⟩ : OpV), ⟨⟨3, [97], [], 0, [], [[120]], zeroB, 0⟩, none, 0, 0, some ⟨w.heap.size, 0, none⟩, 1, 1⟩], OpR ((w.alloc (.cells #[.string (txt [120])] 9)).alloc (.cells cs 40)) X.D X.A X.n X.B X.m := by
  intro X hX
  simp only [List.mem_cons, List.not_mem_nil, or_false] at hX
  rcases hX with rfl | rfl
  · exact ⟨rfl, by decide, by simp, rfl, by decide, by simp, .inl rfl, .inl rfl, rfl, by simp, by simp⟩
  · refine ⟨rfl, (show (0 : Nat) ≤ 1000 by decide), by simp, rfl, (show (1 : Nat) ≤ 1000 by decide), by simp, .inl rfl, .inr ⟨⟨w.heap.size, 0, none⟩, rfl, fun j u hj => ?_⟩, rfl, by simp, by simp⟩
    have hk := (Blk.new w 9 #[.string (txt [120])]).alloc (.cells cs 40)
    cases j with
    | zero =>
      simp only [List.map_cons, List.map_nil, List.getElem?_cons_zero, Option.some.injEq] at hj
      rw [← hj]
      exact hk.cell_ rfl
    | succ j => simp at hj
theorem tall_nil (B : Option Addr) (m d : Nat) (Os : List OpV) (w : World) (hm : Os.length = m) (bm : m ≤ 1000) (hs : OpRd w B Os) (hO : ∀ X ∈ Os, OpR w X.D X.A X.n X.B X.m) :
    Calls Try.prog 6 #[.agg #[.slice none 0 0], .slice B m d] w fun e w' => ∃ A' n' c' i k, e = .returned (.tuple #[.agg #[.slice A' n' c'], .int .i64 i, .int .i64 k]) ∧ TaV w' none 0 0 m [] (Os.map OpV.D) A' n' c' i k ∧ Below w.heap.size w w' :=
  tall_any none 0 0 [] B m d Os w ⟨RwT.nil_ _, by simp⟩ GoodF.nil hm bm hs hO
set_option maxRecDepth 100000 in
set_option maxHeartbeats 40000000 in
theorem awake14_any (w : World) : Calls Try.prog 5 #[] w fun e w' => e = .returned (.bool true) ∧ Below w.heap.size w w' := by
  have hb := Below.refl w.heap.size w
  have e97 : (⟨#[97]⟩ : ByteArray) = txt [97] := rfl
  have e120 : (⟨#[120]⟩ : ByteArray) = txt [120] := rfl
  have hgt : ∀ A n c Ys W, TrS W A n c Ys → Ys.map FlV.D = [([97], [[120]])] → Calls Try.prog 13 #[.agg #[.slice A n c], .string (txt [97])] W fun e w' => ∃ A' c', e = .returned (.tuple #[.slice A' 1 c', .bool true]) ∧ Rd w' A' ([[120]].map strV) ∧ Below W.heap.size W w' := fun A n c Ys W hS hd => by
    have hg : GoodF (Ys.map FlV.D) := by rw [hd]; exact allF_good _ 0 [] _ GoodF.nil awk_data
    obtain ⟨Y, rfl⟩ : ∃ Y, Ys = [Y] := by
      cases Ys with
      | nil => cases hd
      | cons Y Ys => cases Ys with
        | nil => exact ⟨Y, rfl⟩
        | cons Z Ys => simp at hd
    simp only [List.map_cons, List.map_nil, List.cons.injEq, and_true] at hd
    have hp : Y.p = [97] := congrArg Prod.fst hd
    have hl : Y.l = [[120]] := congrArg Prod.snd hd
    have := tget_hit A n c [Y] [97] Y W hS hg (by simp) hp
    rw [hl] at this
    exact this
  have hrows : ∀ W, W.rangeAt (w.heap.size + 1) 0 (opC ⟨1, [97], [], 0, [], [], zeroB, 0⟩ none 0 0 none 0 0).toList → W.rangeAt (w.heap.size + 1) 39 (opC ⟨3, [97], [], 0, [], [[120]], zeroB, 0⟩ none 0 0 (some ⟨w.heap.size, 0, none⟩) 1 1).toList → OpRd W (some ⟨w.heap.size + 1, 0, none⟩) [⟨⟨1, [97], [], 0, [], [], zeroB, 0⟩, none, 0, 0, none, 0, 0⟩, ⟨⟨3, [97], [], 0, [], [[120]], zeroB, 0⟩, none, 0, 0, some ⟨w.heap.size, 0, none⟩, 1, 1⟩] := fun W h1 h2 => OpRd.two (X := ⟨⟨1, [97], [], 0, [], [], zeroB, 0⟩, none, 0, 0, none, 0, 0⟩) (Y := ⟨⟨3, [97], [], 0, [], [[120]], zeroB, 0⟩, none, 0, 0, some ⟨w.heap.size, 0, none⟩, 1, 1⟩) h1 h2 rfl rfl
  have cA := fun W h1 h2 => tall_nil (some ⟨w.heap.size + 1, 0, none⟩) 2 2 [⟨⟨1, [97], [], 0, [], [], zeroB, 0⟩, none, 0, 0, none, 0, 0⟩, ⟨⟨3, [97], [], 0, [], [[120]], zeroB, 0⟩, none, 0, 0, some ⟨w.heap.size, 0, none⟩, 1, 1⟩] W rfl (by omega) h1 h2
  go_enter Try.func5, Try.ntmps5
  go_upto_region 2 with (first
    | (with_reducible refine wpList_build_opP rfl _ rfl [97] rfl ?_)
    | (with_reducible refine wpList_bldE rfl _ _ rfl [97] [[120]] _ 1 1 rfl rfl ?_)
    | (with_reducible refine wpList_build2o rfl _ _ rfl _ _ (opC_size _ _ _ _ _ _ _ rfl) (opC_size _ _ _ _ _ _ _ rfl) rfl rfl ?_; intro cs hrg hrg2; rw [World.size_alloc] at hrg hrg2)
    | (go_at_call 6; (with_reducible refine (cA _ (hrows _ hrg hrg2) (awk_rows w cs)).mono ?_); rintro e1 w1 ⟨A1, n1, c1, i1, k1, rfl, hT, hb1⟩; have hT1 := hid hT; clear hT hrg hrg2))
  obtain ⟨Ys, hi, hk, hd, hS⟩ : ∃ Ys, i1 = 2 ∧ k1 = 0 ∧ Ys.map FlV.D = [([97], [[120]])] ∧ TrS w1 A1 n1 c1 Ys := by
    rcases hT1.out with ⟨h1, h2, Ys, h3, _, h5⟩ | ⟨_, _, _, q, _, h3, _⟩
    · refine ⟨Ys, h1, h2, ?_, h5⟩
      have h4 := awk_data
      simp only [List.map_cons, List.map_nil] at h3
      rw [h4] at h3
      injection h3 with h3
      exact h3.symm
    · have h4 := awk_data
      simp only [List.map_cons, List.map_nil] at h3
      rw [h4] at h3
      cases h3
  subst hi hk
  have hba1 := (Below.refl w.heap.size w).alloc (Nat.le_refl _) (.cells #[.string (txt [120])] 9)
  have hba2 := hba1.alloc hba1.size (.cells cs 40)
  have hbw := hba2.trans (hb1.mono hba2.size)
  have hba3 := hbw.alloc hbw.size (.cells #[.slice A1 n1 c1] 27)
  have hw1 := (Below.refl w1.heap.size w1).alloc (Nat.le_refl _) (.cells #[.slice A1 n1 c1] 27)
  have ht := Blk.new w1 27 #[.slice A1 n1 c1]
  have hS1 := hS.below hw1
  clear hba1 hba2 hb1 hbw hT1 hS hw1
  generalize w1.alloc (.cells #[.slice A1 n1 c1] 27) = W1 at *
  go_upto_region 3 with (first
    | (with_reducible refine wpList_load_tree (by with_unfolding_all rfl) _ rfl _ rfl ht ?_)
    | (go_at_call 13; (with_reducible refine (hgt A1 n1 c1 Ys _ hS1 hd).mono ?_); rintro e2 w2 ⟨A2, c2, rfl, hr, hb2⟩))
  obtain ⟨ad, e, hc⟩ := hr.at_ (k := 0) (by simp)
  subst e
  have hc0 : w2.cell? (ad.add 0) = some (.string (txt [120])) := hc
  have e0 : ad.add 0 = ad := by unfold Addr.add; cases ad with | mk a b c => cases c <;> simp
  rw [e0] at hc0
  clear e0 hc
  go_wp2
  go_ret
  exact ⟨rfl, hba3.trans (hb2.mono hba3.size)⟩
end Go.Proofs.Ytodfaakodgedbaa
/- What the law's loop wants: an operation of a row loaded anywhere, a fresh tree's box. -/
set_option linter.unusedSimpArgs false
set_option linter.unusedVariables false
namespace Go.Proofs.Ytodfaakodgedbaa
open Go.RowKit Go.Qc Go.Shelf
attribute [local go_sem] txt_size txt_append ib_fold txt_toL

theorem yields_opq {ops : Array Oper} {S : World → Prop} {o : Oper} {a : Act} (hw : Region.wanted o (yielded ops a.tmps) = true) (x : Operand) (ho : o.op = .load 40 x) (g q : Nat) (hx : a.eval x = .pointer (some ⟨g, q, none⟩)) {D : OpD} {A : Option Addr} {n c : Nat} {B : Option Addr} {m d : Nat} (hX : ∀ w', S w' → w'.rangeAt g q (opC D A n c B m d).toList) (hK : D.K.length = 32) : YieldsIf Try.prog ops S o (.agg (opC D A n c B m d)) a := by
  have h := yieldsIf_load_mid (P := Try.prog) (S := S) hw 40 x ho g q hx (opC D A n c B m d).toList _ hX Try.underlying40 rfl (by rw [infoOp, Array.length_toList, opC_size _ _ _ _ _ _ _ hK])
  rw [Array.toArray_toList] at h
  exact h
theorem infoTreeZ : ∃ i, Try.prog.info? 27 = some i ∧ i.zero = some (.agg #[.slice none 0 0]) ∧ i.size = 1 := by
  have h : (Try.prog.info? 27).map (fun i => (i.zero, i.size)) = some (some (.agg #[.slice none 0 0]), 1) := by kernel_rfl
  cases hq : Try.prog.info? 27 with
  | none => rw [hq] at h; cases h
  | some i =>
    rw [hq] at h
    simp only [Option.map_some, Option.some.injEq, Prod.mk.injEq] at h
    exact ⟨i, rfl, h.1, h.2⟩
theorem wp_allocT {w : World} {o : Oper} {a : Act} {K : Act → World → Prop} {Q : Exit → Act → World → Prop} (ho : o.op = .alloc 27)
    (h : ∀ g w', Hid (g = w.heap.size) → Blk w' g 27 #[.slice none 0 0] → Below w.heap.size w w' → K (a.put o.dst (.pointer (some ⟨g, 0, none⟩))) w') : o.wp Try.prog a w K Q := by
  obtain ⟨i0, hi, hz, hs⟩ := infoTreeZ
  have h9 := h w.heap.size (w.alloc (.cells #[.slice none 0 0] 27)) (hid rfl) (Blk.new _ _ _) ((Below.refl _ _).alloc (Nat.le_refl _) _)
  unfold Oper.wp
  simp only [execOp, ho]
  simp [Instr.alloc, zeroValue, typeInfo, hi, hz, newVar, newRow, Value.cells, newObj]
  exact h9
theorem TaV.okN {w' : World} {A0 : Option Addr} {n0 c0 m : Nat} {L N : List FD} {os : List OpD} {A : Option Addr} {n c : Nat} {i k : Int} (h : TaV w' A0 n0 c0 m L os A n c i k) (hu : allF 0 L os = .ok N) : i = (m : Int) ∧ k = 0 ∧ ∃ Zs, Zs.map FlV.D = N ∧ TrS w' A n c Zs := by
  rcases h with ⟨h1, h2, Ys, h3, _, h5⟩ | ⟨_, _, _, q, _, h3, _⟩
  · rw [h3] at hu
    injection hu with hu
    exact ⟨h1, h2, Ys, hu, h5⟩
  · rw [h3] at hu
    cases hu
theorem TaV.errN {w' : World} {A0 : Option Addr} {n0 c0 m : Nat} {L : List FD} {os : List OpD} {A : Option Addr} {n c : Nat} {i k : Int} {q : Nat} {e : Int} (h : TaV w' A0 n0 c0 m L os A n c i k) (hu : allF 0 L os = .error (q, e)) : A = A0 ∧ n = n0 ∧ c = c0 ∧ i = (q : Int) ∧ k = e ∧ ¬ e = 0 := by
  rcases h with ⟨h1, h2, Ys, h3, _, h5⟩ | ⟨h1, h2, h3, q2, h4, h5, h6⟩
  · rw [h3] at hu; cases hu
  · rw [h5] at hu
    injection hu with hu
    injection hu with e1 e2
    subst e1 e2
    exact ⟨h1, h2, h3, h4, rfl, h6⟩
/-- A tree's box, and what lies in it. -/
structure NowS (w W : World) (g : Nat) (A : Option Addr) (n c : Nat) (L : List FD) : Prop where
  b : Blk W g 27 #[.slice A n c]
  s : ∃ Ys, Ys.map FlV.D = L ∧ TrS W A n c Ys
  w : Below w.heap.size w W
theorem NowS.below {w W W' : World} {g : Nat} {A : Option Addr} {n c : Nat} {L : List FD} (h : NowS w W g A n c L) (hb : Below W.heap.size W W') : NowS w W' g A n c L := by
  obtain ⟨Ys, h1, h2⟩ := h.s
  exact ⟨h.b.below hb, ⟨Ys, h1, h2.below hb⟩, h.w.trans (hb.mono h.w.size)⟩
/-- What a tree comes to is put into another tree's box. -/
theorem NowS.put {w W W' : World} {g g2 : Nat} {A A2 : Option Addr} {n c n2 c2 : Nat} {L L2 : List FD} (h : NowS w W g A n c L) (h2 : NowS w W g2 A2 n2 c2 L2) (hb : Blk W' g 27 #[.slice A2 n2 c2]) (hg : W.grownBy W' (some g)) (hle : w.heap.size ≤ g) : NowS w W' g A2 n2 c2 L2 := by
  obtain ⟨Ys, h3, h4⟩ := h2.s
  exact ⟨hb, ⟨Ys, h3, h4.zs h.b hg⟩, h.w.trans (below_of_gb hg hle h.w.size)⟩
theorem ops_at (Xs : List OpV) (k : Nat) (X : OpV) (h : Xs[k]? = some X) : (Xs.map OpV.D)[k]? = some X.D := by rw [List.getElem?_map, h]; rfl
theorem NowS.len {w W : World} {g : Nat} {A : Option Addr} {n c : Nat} {L : List FD} (h : NowS w W g A n c L) : L.length = n := by
  obtain ⟨Ys, h1, h2⟩ := h.s
  rw [← h1, List.length_map, h2.rw_.ln]
theorem lng_smallt {D : OpD} (h : lngO D = false) : D.p.length ≤ 300 ∧ D.t.length ≤ 300 ∧ D.o.length ≤ 40 ∧ D.n.length ≤ 40 ∧ (∀ x ∈ D.o, x.length ≤ 300) ∧ ∀ x ∈ D.n, x.length ≤ 300 := by
  unfold lngO at h
  simp only [Bool.or_eq_false_iff, decide_eq_false_iff_not, List.any_cons, List.any_nil, List.any_eq_false, decide_eq_true_eq] at h
  obtain ⟨a, b, c, d, e, f⟩ := h
  refine ⟨by omega, by omega, by omega, by omega, fun x hx => ?_, fun x hx => ?_⟩
  · have := e x hx; omega
  · have := f.1 x hx; omega
theorem opR_lngt (D : OpD) (A : Option Addr) (n c : Nat) (B : Option Addr) (m d : Nat) (w : World) (K1 : D.K.length = 32) (y1 : LnO w A n D.o) (y2 : LnO w B m D.n) (hl : lngO D = false) : OpR w D A n B m := by
  obtain ⟨z1, z2, z3, z4, z5, z6⟩ := lng_smallt hl
  exact ⟨y1.1, by have := y1.1; omega, fun x hx => Nat.le_trans (z5 x hx) (by decide), y2.1, by have := y2.1; omega, fun x hx => Nat.le_trans (z6 x hx) (by decide), y1.2.2, y2.2.2, K1, by omega, by omega⟩
theorem rall_nil (B : Option Addr) (m d : Nat) (Os : List OpV) (w : World) (hm : Os.length = m) (bm : m ≤ 1000) (hs : OpRd w B Os) (hO : ∀ X ∈ Os, OpR w X.D X.A X.n X.B X.m) :
    Calls Try.prog 7 #[.slice none 0 0, .slice B m d] w fun e w' => ∃ v i r, e = .returned (.tuple #[v, i, r]) ∧ AlR w w' none 0 0 m [] (Os.map OpV.D) v i r ∧ Below w.heap.size w w' :=
  rall14_any none 0 0 [] B m d Os w rfl (by omega) (.inl rfl) (by simp) hm bm hs hO
theorem slice_opsT (A : Option Addr) (n c q : Nat) (Xs : List OpV) (w : World) (hn : Xs.length = n) (hs : OpRd w A Xs) (hq : q < n) (hc : n ≤ c) : (∀ W, (Instr.sliceAt 22 (.slice A n c) none (some (.int .i64 (q : Int))) none).run Try.prog W = .ok (.slice A q c) W) ∧ ∀ W, OpRd W A Xs → OpRd W A (Xs.take q) := by
  refine ⟨fun W => ?_, fun W h => OpRd.upto (Ys := Xs.drop q) (by rw [List.take_append_drop]; exact h)⟩
  rcases hs.2 with h | ⟨g, o, rfl, _⟩
  · rw [h] at hn; simp at hn; omega
  · exact run_slice_ops g o n c q (by omega) W
section
open Go.ChangeShapes Go.WideShapes Go.ChangeAt
variable {H : Type} {enc : TypeId × Value → H} {w : World} {r : Reach} {base b0 : Nat} {sp : Nat → Bool} {hd : Bool}
set_option maxRecDepth 100000 in
theorem open_opCap {v : Value} {d : DataW H} {ps : List MemPlace} (hv : Value.okWide Try.prog w r b0 22 v) (h : DataW.Trod enc Try.prog w base sp hd 22 v d ps) : ∀ a n c, v = .slice a n c → n ≤ c := by
  have ht := Try.underlying22
  have hn : Try.prog.cellsOf 40 = 39 := by kernel_rfl
  obtain ⟨a0, len0, cap0, rfl⟩ := okWide_slice ht hv
  obtain ⟨fuel, hf⟩ := h
  intro a n c e
  cases e
  cases fuel with
  | zero => simp [DataW.trod] at hf
  | succ m =>
    rw [DataW.trod_step] at hf
    unfold DataW.trodStep at hf
    simp only [ht, Value.cells] at hf
    cases a0 with
    | none =>
      rcases len0 with _ | len0
      · omega
      · simp at hf
    | some a =>
      simp only [hn] at hf
      split at hf
      · rename_i hcond
        exact hcond.2.1
      · cases hf
end
end Go.Proofs.Ytodfaakodgedbaa

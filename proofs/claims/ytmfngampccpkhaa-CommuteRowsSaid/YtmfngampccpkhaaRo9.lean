
/- The document's Ahead, for rows of any length; its Rows. -/
import Derived.Test.YtmfngampccpkhaaRo8
set_option linter.unusedSimpArgs false
set_option linter.unusedVariables false
namespace Go.Proofs.Ytmfngampccpkhaa
open Go.RowKit Go.Qc Go.Shelf
attribute [local go_sem] txt_size txt_append ib_fold txt_toL

theorem rahead_any (w0 : World) : ∀ (n : Nat) (A : Option Addr) (c : Nat) (Xs : List OpV) (O : OpV) (w : World) (hw : Below w0.heap.size w0 w) (hn : Xs.length = n) (bn : n ≤ 1000) (hc : n ≤ c) (hr : OpRd w A Xs) (hX : ∀ X ∈ Xs, OpR w0 X.D X.A X.n X.B X.m) (hO : OpR w0 O.D O.A O.n O.B O.m),
    Calls Try.prog 17 #[.slice A n c, .agg (opC O.D O.A O.n O.c O.B O.m O.d)] w fun e w' => ∃ (P : OpV) (v : Value) (i : Int), e = .returned (.tuple #[.agg (opC P.D P.A P.n P.c P.B P.m P.d), v, .int .i64 i]) ∧ P.D.K.length = 32 ∧ AhQ (Xs.map OpV.D) O n w0 w.heap.size w'.heap.size w' P v i ∧ Below w.heap.size w w'
  | 0, A, c, Xs, O, w, hw, hn, bn, hc, hr, hX, hO => by
    obtain rfl : Xs = [] := List.eq_nil_of_length_eq_zero hn
    exact rah_nil A c O w0 w hO.hK hO
  | k + 1, A, c, Xs, O, w, hw, hn, bn, hc, hr, hX, hO => by
    obtain ⟨L, x, rfl⟩ : ∃ L x, Xs = L ++ [x] := by
      have hne : Xs ≠ [] := by intro h; rw [h] at hn; simp at hn
      exact ⟨Xs.dropLast, Xs.getLast hne, (List.dropLast_concat_getLast hne).symm⟩
    have hL : L.length = k := by simp at hn; exact hn
    obtain ⟨g, q, hg, hK, hix⟩ := hr.pick c hn (k := k) (X := x) (by rw [← hL]; simp)
    have hup := hr.upto
    obtain ⟨gA, oA, rfl⟩ : ∃ gA oA, A = some ⟨gA, oA, none⟩ := by
      rcases hr.2 with h | ⟨gA, oA, h, _⟩
      · simp at h
      · exact ⟨gA, oA, h⟩
    have hx := hX x (by simp)
    have hX' : ∀ X ∈ L, OpR w0 X.D X.A X.n X.B X.m := fun X h => hX X (by simp [h])
    unfold OpV.cs at hg
    rw [List.map_append, List.map_singleton]
    have low : ∀ W, Below w.heap.size w W → Below w0.heap.size w0 W := fun W h => hw.trans (h.mono hw.size)
    cases hb : apB x.D O.D with
    | true =>
      refine rah_step gA oA (k + 1) c k (L.map OpV.D) x O ⟨{ O.D with a := aE x.D O.D }, O.A, O.n, O.c, O.B, O.m, O.d⟩ ⟨{ x.D with a := aD x.D O.D }, x.A, x.n, x.c, x.B, x.m, x.d⟩ true g q w0 w rfl bn hK hO.hK hO.hK hK hix (fun W => run_slice_ops gA oA (k + 1) c k (by omega) W) (fun W h => hg.below h) (fun W h => ?_) (fun W h => ?_) (hid hb) (hid (fun _ => ⟨rfl, rfl⟩)) (hid ⟨hx.lo, hx.bn, hx.bo, hx.ln, hx.bm, hx.bx, hx.rA, hx.rB, hx.hK, hx.bp, hx.bt⟩) (hid (by rw [List.length_map, hL]))
      · refine (rswap_any x.D x.A x.n x.c x.B x.m x.d O.D O.A O.n O.c O.B O.m O.d W (hx.below (low W h)) (hO.below (low W h))).mono ?_
        rintro e w' (⟨_, rfl, h2⟩ | ⟨h2, _⟩)
        · exact ⟨rfl, h2⟩
        · rw [hb] at h2; cases h2
      · exact rahead_any w0 k _ c L ⟨{ O.D with a := aE x.D O.D }, O.A, O.n, O.c, O.B, O.m, O.d⟩ W (low W h) hL (by omega) (by omega) (hup.below h) hX' ⟨hO.lo, hO.bn, hO.bo, hO.ln, hO.bm, hO.bx, hO.rA, hO.rB, hO.hK, hO.bp, hO.bt⟩
    | false =>
      refine rah_step gA oA (k + 1) c k (L.map OpV.D) x O ⟨opZ, none, 0, 0, none, 0, 0⟩ ⟨opZ, none, 0, 0, none, 0, 0⟩ false g q w0 w rfl bn hK hO.hK rfl rfl hix (fun W => run_slice_ops gA oA (k + 1) c k (by omega) W) (fun W h => hg.below h) (fun W h => ?_) (fun W h => ?_) (hid hb) (hid (fun h => by cases h)) (hid (OpR.zero w0)) (hid (by rw [List.length_map, hL]))
      · refine (rswap_any x.D x.A x.n x.c x.B x.m x.d O.D O.A O.n O.c O.B O.m O.d W (hx.below (low W h)) (hO.below (low W h))).mono ?_
        rintro e w' (⟨h2, _⟩ | ⟨_, rfl, h2⟩)
        · rw [hb] at h2; cases h2
        · exact ⟨rfl, h2⟩
      · exact rahead_any w0 k _ c L ⟨opZ, none, 0, 0, none, 0, 0⟩ W (low W h) hL (by omega) (by omega) (hup.below h) hX' (OpR.zero w0)
theorem OwnOps.lt {W : World} {base n : Nat} {v : Value} {Xs : List OpV} (h : OwnOps W base v n Xs) {k : Nat} (hk : v.ownBlock = some k) : k < W.heap.size := by
  rcases h.2 with ⟨rfl, _⟩ | ⟨g, cap, cur, rfl, h1, hg, _⟩
  · cases hk
  · have hc : Blk W g 42 cur := hg
    simp [Value.ownBlock] at hk
    subst hk
    exact hc.lt
theorem RowG.gro {W W' : World} {base g : Nat} {A : Option Addr} {Xs : List OpV} {row : Option Nat} (h : RowG W base g A Xs) (hg : W.grownBy W' row) (hne : row ≠ some g) : RowG W' base g A Xs :=
  h.imp id fun ⟨a, b, cs, c, d⟩ => ⟨a, b, cs, (hg.block g c.lt (fun e => hne e.symm)).trans c, d⟩
theorem results_tmp4 {fn : Func} {t u v x : Tmp} (h : fn.results = #[.tmp t, .tmp u, .tmp v, .tmp x]) (tmps : Array Value) (P : Program) (w : World) :
    (results fn tmps).run P w = .ok (.tuple #[tmps.getD t undef, tmps.getD u undef, tmps.getD v undef, tmps.getD x undef]) w := by
  simp [results, h]

/-- What Rows tells where the rows are apart. -/
def RrP (w w' : World) (Xs Ys : List OpV) (n m : Nat) (e : Ending) : Prop :=
  ∃ (v : Value) (A' : Option Addr) (c' : Nat) (P Tr : List OpV), e = .returned (.tuple #[v, .slice A' n c', .int .i64 (-1), .int .i64 (-1)]) ∧ rowsF 0 (Ys.map OpV.D) (Xs.map OpV.D) = .ok (P.map OpV.D, Tr.map OpV.D) ∧ OwnOps w' w.heap.size v m P ∧ Tr.length = n ∧ OpRd w' A' Tr ∧ (∀ X ∈ P, OpR w X.D X.A X.n X.B X.m) ∧ (∀ X ∈ Tr, OpR w X.D X.A X.n X.B X.m) ∧ Below w.heap.size w w'

set_option maxRecDepth 100000 in
set_option maxHeartbeats 40000000 in
theorem rrows_any (A : Option Addr) (n c : Nat) (Xs : List OpV) (B : Option Addr) (m d : Nat) (Ys : List OpV) (w : World) (hn : Xs.length = n) (bn : n ≤ 500) (hc0 : n ≤ c) (hr : OpRd w A Xs) (hX : ∀ X ∈ Xs, OpR w X.D X.A X.n X.B X.m) (hm : Ys.length = m) (bm : m ≤ 500) (hs : OpRd w B Ys) (hY : ∀ X ∈ Ys, OpR w X.D X.A X.n X.B X.m) :
    Calls Try.prog 9 #[.slice A n c, .slice B m d] w fun e w' => RrP w w' Xs Ys n m e ∨
      (∃ i k : Nat, e = .returned (.tuple #[.slice none 0 0, .slice none 0 0, .int .i64 i, .int .i64 k]) ∧ rowsF 0 (Ys.map OpV.D) (Xs.map OpV.D) = .error (i, k) ∧ Below w.heap.size w w') := by
  have bm9 : m ≤ 9223372036854775807 := by omega
  have HM := hid hm
  have HX := hid hX
  have HY := hid hY
  have hb0 := (Below.refl w.heap.size w).alloc (Nat.le_refl _) (.cells #[] 42)
  have ho0 := OwnOps.made w
  have hr0 := hr.below hb0
  clear hX hY hm hr
  go_enter Try.func9, Try.ntmps9
  go_wp2
  go_loopw [8, 9, 10] (fun v u i wr => ∃ (k : Nat) (P Tr : List OpV) (A' : Option Addr) (c' : Nat), k ≤ m ∧ i = .int .i64 k ∧ u = .slice A' n c' ∧ OwnOps wr w.heap.size v k P ∧ n ≤ c' ∧ OpRd wr A' Tr ∧ Below w.heap.size w wr ∧ Hid (P.length = k ∧ Tr.length = n ∧ (∀ X ∈ P, OpR w X.D X.A X.n X.B X.m) ∧ (∀ X ∈ Tr, OpR w X.D X.A X.n X.B X.m) ∧ rowsF 0 (Ys.map OpV.D) (Xs.map OpV.D) = thenR (P.map OpV.D) (rowsF k ((Ys.drop k).map OpV.D) (Tr.map OpV.D)))) (fun _ _ i _ => m - (intOf i).toNat)
  case atStart => exact ⟨0, [], Xs, A, c, by omega, rfl, rfl, ho0, hc0, hr0, hb0, hid ⟨rfl, hn, by simp, HX.out, by rw [List.drop_zero]; exact (thenR_nil _).symm⟩⟩
  case round =>
    clear ho0 hr0 hb0 hn hc0
    obtain ⟨k, P, Tr, A', c', hk, rfl, rfl, hown, hc, hrd, hb, HI⟩ := hrel
    by_cases hlt : k < m
    · obtain ⟨Y, hYk⟩ : ∃ Y, Ys[k]? = some Y := ⟨_, List.getElem?_eq_getElem (by rw [HM.out]; exact hlt)⟩
      obtain ⟨g, q, hg, hK, hix⟩ := hs.pick d HM.out hYk
      unfold OpV.cs at hg
      replace hg := hg.below hb
      have cR := rahead_any w n A' c' Tr Y wr hb HI.out.2.1 (by omega) hc hrd HI.out.2.2.2.1 (HY.out Y (List.mem_of_getElem? hYk))
      have hdr : Ys.drop k = Y :: Ys.drop (k + 1) := by
        obtain ⟨h1, h2⟩ := List.getElem?_eq_some_iff.1 hYk
        rw [List.drop_eq_getElem_cons h1, h2]
      have HDR := hid hdr
      have b1 : (k : Int) < m := by omega
      have HC := hid hc
      have HRD := hid hrd
      clear hYk hdr hc hrd
      go_upto_region 7 with (first
        | (with_reducible refine wpList_load_opr (by with_unfolding_all rfl) _ rfl _ _ rfl hg hK ?_)
        | (go_at_call 17; (with_reducible refine cR.mono ?_); rintro e1 w1 ⟨P1, v1, i1, rfl, KP, HQ, hb1⟩; replace HQ := hid HQ)
        | (with_reducible refine wpList_store_opn rfl _ _ rfl rfl rfl KP (by with_unfolding_all rfl) ?_))
      have hb2 := hb1.alloc hb1.size (.cells (opC P1.D P1.A P1.n P1.c P1.B P1.m P1.d) 42)
      have hx1 := OpX.new w1 P1.D P1.A P1.n P1.c P1.B P1.m P1.d
      have hB1 := (Below.refl w1.heap.size w1).alloc (Nat.le_refl _) (.cells (opC P1.D P1.A P1.n P1.c P1.B P1.m P1.d) 42)
      generalize w1.alloc (.cells (opC P1.D P1.A P1.n P1.c P1.B P1.m P1.d) 42) = w2 at *
      have hb2' := hb.trans (hb2.mono hb.size)
      clear cR hg hix
      rcases HQ.out with ⟨Zs, A1, c1, gR, e1, e2, e3, e4, rfl, rfl, e7, e8, e9, e10⟩ | ⟨j, e1, rfl, rfl⟩
      · have hown2 := hown.below hb2
        have hbC := fun cs => (Below.refl w2.heap.size w2).alloc (Nat.le_refl _) (.cells cs 42)
        have HE : Hid (rowsF 0 (Ys.map OpV.D) (Xs.map OpV.D) = thenR ((P ++ [P1]).map OpV.D) (rowsF (k + 1) ((Ys.drop (k + 1)).map OpV.D) (Zs.map OpV.D))) := hid (by
          rw [HI.out.2.2.2.2, HDR.out, List.map_cons, rowsF_yes e1, List.map_append, List.map_singleton])
        have HE2 := hid (And.intro e2 (And.intro e3 (And.intro e7 (And.intro e8 (And.intro e9 e10)))))
        have hko : k + 1 ≤ 1000 := by omega
        have hbs : w.heap.size ≤ w2.heap.size := hb2'.size
        clear e1 e2 e3 e4 e7 e8 e9 e10 HQ
        go_wp2_with (first
          | (with_reducible refine wpList_load_opx (by with_unfolding_all rfl) _ rfl _ rfl hx1 KP ?_)
          | ((with_reducible refine wpList_build1o rfl _ rfl _ (opC_size _ _ _ _ _ _ _ KP) rfl ?_); intro cs hcs)
          | (at_builtin; refine wpList_append_ops rfl _ _ rfl w.heap.size _ k P rfl (hown2.below (hbC cs)) (some ⟨w2.heap.size, 0, none⟩) 1 1 [P1] rfl rfl (fun e => by cases e) (OpRd.one hcs KP) hko (Nat.le_trans hbs (hbC cs).size) ?_; intro v3 w3 hown3 hgr3))
        go_roundw
        case rel =>
          obtain ⟨e2, e3, e7, e8, e9, e10⟩ := HE2.out
          have e8' : RowG w3 wr.heap.size gR A1 Zs := by
            rcases e9 with rfl | ⟨e9, _⟩
            · exact .inl rfl
            · exact ((e8.below hB1).below (hbC cs)).gro hgr3 (by intro hv; have := hown.lt hv; omega)
          refine ⟨k + 1, P ++ [P1], Zs, A1, c1, hlt, by go_num, rfl, hown3, e3, e8'.rd (fun X hX => (e10 X hX).hK), ?_, hid ⟨by simp [HI.out.1], e2, fun X hX => ?_, e10, HE.out⟩⟩
          · exact (hown2.below (hbC cs)).grown hgr3 (Nat.le_refl _) (hb2'.trans ((hbC cs).mono hbs)) (Nat.le_trans hbs (hbC cs).size)
          · rcases List.mem_append.1 hX with hX | hX
            · exact HI.out.2.2.1 X hX
            · rw [List.mem_singleton.1 hX]; exact e7
        case measure => simp [intOf]; omega
      · have d1 : (0 : Int) ≤ j := by omega
        have d2 : decide ((0 : Int) ≤ j) = true := decide_eq_true d1
        go_wp2
        ((try simp only [Exit.inBlock, Exit.then]); refine bodyPost_ret (results_tmp4 rfl _ _ _) rfl ?_)
        exact .inr ⟨j, k, rfl, by rw [HI.out.2.2.2.2, HDR.out, List.map_cons, rowsF_no e1], hb2'⟩
    · obtain rfl : k = m := by omega
      have c1 : ¬ (k : Int) < k := by omega
      have HC := hid hc
      have HRD := hid hrd
      clear hc hrd
      go_wp2
      ((try simp only [Exit.inBlock, Exit.then]); refine bodyPost_ret (results_tmp4 rfl _ _ _) rfl ?_)
      refine .inl ⟨_, A', c', P, Tr, rfl, ?_, hown, HI.out.2.1, HRD.out, HI.out.2.2.1, HI.out.2.2.2.1, hb⟩
      rw [HI.out.2.2.2.2, List.drop_of_length_le (by rw [HM.out]; exact Nat.le_refl _), List.map_nil, rowsF]
      unfold thenR
      simp only [List.append_nil]


end Go.Proofs.Ytmfngampccpkhaa

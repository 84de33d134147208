/- journal: frames compared, the document's Same, the law's example. -/
import Derived.Test.YtemdmdgigmhlbaaGreatJn17
import Derived.Laws.StructEq
set_option linter.unusedSimpArgs false
set_option linter.unusedVariables false
namespace Go.Proofs.YtemdmdgigmhlbaaGreat
open Go.RowKit Go.Qc Go.Shelf
theorem eqF_cons25 {P : Program} (d : Nat) (xs ys : Array Value) (f : Field) (fs : List Field) (W : World) (a b : Value) (r q : Bool) (hn : (f.name == "_") = false) (ha : (part f.type xs f.offset).run P W = .ok a W) (hb : (part f.type ys f.offset).run P W = .ok b W) (he : (Op.equalIn d f.type a b).run P W = .ok r W) (hq : (Op.eqFields d xs ys fs).run P W = .ok q W) :
    (Op.eqFields d xs ys (f :: fs)).run P W = .ok (r && q) W := by
  have hn' : f.name ≠ "_" := by intro e; rw [e] at hn; simp at hn
  rw [Op.eqFields, if_pos hn']
  simp only [Sem.run_bind, ha, hb, he, Result.andThen_ok]
  cases r
  · simp
  · simpa using hq
theorem eqF_nil25 {P : Program} (d : Nat) (xs ys : Array Value) (W : World) : (Op.eqFields d xs ys []).run P W = .ok true W := by
  simp [Op.eqFields]
theorem fm_parts (X : FmD) (W : World) :
    (part 3 X.cs 0).run Tryz.prog W = .ok (.int .i64 X.k) W ∧ (part 9 X.cs 1).run Tryz.prog W = .ok (.string (txt X.p)) W := ⟨by kernel_rfl, by kernel_rfl⟩
/-- Are two frames one? -/
def eqFm (X Y : FmD) : Bool := (X.k == Y.k) && (X.p == Y.p)
theorem eqFm_refl (X : FmD) : eqFm X X = true := by simp [eqFm]
theorem fm_run (X Y : FmD) (W : World) (q0 q1 : Bool) (e0 : (Op.equalIn 9999 3 (.int .i64 X.k) (.int .i64 Y.k)).run Tryz.prog W = .ok q0 W) (e1 : (Op.equalIn 9999 9 (.string (txt X.p)) (.string (txt Y.p))).run Tryz.prog W = .ok q1 W) :
    (Op.equalIn (9999 + 1) 36 (.agg X.cs) (.agg Y.cs)).run Tryz.prog W = .ok (q0 && q1) W := by
  have hs : Tryz.prog.stoodInHeld 36 = false := by kernel_rfl
  have hu := Tryz.underlying36
  have ht : Tryz.prog.underlying 36 = some (.struct (Tryz.prog.fieldsOf 36)) := by
    unfold Program.fieldsOf; rw [hu]
  obtain ⟨a0, a1⟩ := fm_parts X W
  obtain ⟨b0, b1⟩ := fm_parts Y W
  rw [run_equalIn_struct W 9999 _ _ _ ht hs]
  unfold Program.fieldsOf
  rw [hu]
  have h := eqF_cons25 9999 X.cs Y.cs ({ name := "Kind", type := 3, offset := 0, embedded := false, tag := "", pkgPath := "", byteOffset := 0 } : Field) _ W _ _ q0 _ (by decide) a0 b0 e0 (eqF_cons25 9999 X.cs Y.cs ({ name := "Payload", type := 9, offset := 1, embedded := false, tag := "", pkgPath := "", byteOffset := 8 } : Field) _ W _ _ q1 _ (by decide) a1 b1 e1 (eqF_nil25 _ _ _ _))
  rw [Bool.and_true] at h
  exact h
theorem fm_eq (X Y : FmD) (W : World) : (Op.equalIn 10000 36 (.agg X.cs) (.agg Y.cs)).run Tryz.prog W = .ok (eqFm X Y) W := by
  have e1 : (Op.equalIn 9999 9 (.string (txt X.p)) (.string (txt Y.p))).run Tryz.prog W = .ok (X.p == Y.p) W := by
    rw [show (9999 : Nat) = 9998 + 1 from rfl, run_equalIn_string W 9998 _ _ _ Tryz.underlying9]
    congr 1
    unfold txt
    rw [Bool.eq_iff_iff]
    simp
  have e0 : (Op.equalIn 9999 3 (.int .i64 X.k) (.int .i64 Y.k)).run Tryz.prog W = .ok (X.k == Y.k) W := by
    rw [show (9999 : Nat) = 9998 + 1 from rfl, run_equalIn_int W 9998 _ .i64 .i64 _ _ Tryz.underlying3]
  exact fm_run X Y W _ _ e0 e1
attribute [local go_sem] txt_size txt_append ib_fold
theorem mixedJ : Tryz.prog.follows .mixedOrders = true := by kernel_rfl
/-- What Same answers: true of two equal rows. -/
def SmQ (Xs Ys : List FmD) (w : World) (e : Ending) (w' : World) : Prop := ∃ b, e = .returned (.bool b) ∧ (Xs = Ys → b = true) ∧ Below w.heap.size w w'
set_option maxRecDepth 100000 in
set_option maxHeartbeats 20000000 in
theorem rsame25_any (A : Option Addr) (n c : Nat) (B : Option Addr) (m d : Nat) (Xs Ys : List FmD) (hn : Xs.length = n) (hm : Ys.length = m) (bn : n ≤ 5000) (w : World) (rA : FrRd w A Xs) (rB : FrRd w B Ys) :
    Calls Tryz.prog 16 #[.slice A n c, .slice B m d] w (SmQ Xs Ys w) := by
  have HN := hid hn
  have HM := hid hm
  have hu := Tryz.underlying36
  clear hn hm
  by_cases hnm : n = m
  · subst hnm
    go_enter Tryz.func16, Tryz.ntmps16
    go_wp2
    go_loopw [5] (fun i wr => ∃ k : Nat, k ≤ n ∧ i = .int .i64 k ∧ Below w.heap.size w wr) (fun i _ => n - (intOf i).toNat)
    case atStart => exact ⟨0, by omega, rfl, Below.refl _ _⟩
    case round =>
      obtain ⟨k, hkn, rfl, hb⟩ := hrel
      by_cases hlt : k < n
      · obtain ⟨X, hX⟩ : ∃ X, Xs[k]? = some X := ⟨_, List.getElem?_eq_getElem (by have := HN.out; omega)⟩
        obtain ⟨Y, hY⟩ : ∃ Y, Ys[k]? = some Y := ⟨_, List.getElem?_eq_getElem (by have := HM.out; omega)⟩
        obtain ⟨g1, q1, hg1, hXo, hix1⟩ := rA.pick c HN.out hX
        obtain ⟨g2, q2, hg2, hYo, hix2⟩ := rB.pick d HM.out hY
        have b1 : (k : Int) < n := by omega
        have f1 := range_later (hg1.below hb)
        have f2 := range_later (hg2.below hb)
        have hz : (Tryz.prog.info? 36).map (·.size) = some X.cs.toList.length := by rw [Fr_info X hXo, Array.length_toList]
        have hz2 : (Tryz.prog.info? 36).map (·.size) = some Y.cs.toList.length := by rw [Fr_info Y hYo, Array.length_toList]
        obtain ⟨t, ht⟩ : ∃ t, eqFm X Y = t := ⟨_, rfl⟩
        have heq : ∀ W, (Op.equalIn 10000 36 (.agg X.cs.toList.toArray) (.agg Y.cs.toList.toArray)).run Tryz.prog W = .ok t W := fun W => by
          rw [Array.toArray_toList, Array.toArray_toList, fm_eq X Y W, ht]
        have HLT := hid (show k + 1 ≤ n from hlt)
        have HD := hid (show Xs = Ys → t = true from fun e => by subst e; have := Option.some.inj (hX.symm.trans hY); subst this; rw [← ht, eqFm_refl])
        have hsz := hb.size
        clear hX hY hg1 hg2 ht
        go_wp2
        refine wp_region_later mixedJ (by kernel_rfl) ?_
        repeat (first
          | ((with_reducible refine wpQuiet_load_if (by with_unfolding_all rfl) 36 _ rfl _ _ rfl X.cs.toList _ f1 hu (by with_unfolding_all rfl) hz ?_); simp only [Act.put, List.setIfInBounds_toArray, List.set_cons_zero, List.set_cons_succ])
          | ((with_reducible refine wpQuiet_load_if (by with_unfolding_all rfl) 36 _ rfl _ _ rfl Y.cs.toList _ f2 hu (by with_unfolding_all rfl) hz2 ?_); simp only [Act.put, List.setIfInBounds_toArray, List.set_cons_zero, List.set_cons_succ])
          | ((with_reducible refine wpQuiet_step (fun K hK => ?_)); go_simp; ((with_reducible refine hK _ ?_); clear hK K)))
        with_reducible refine wpQuiet_nil ?_
        intro _ hw9
        obtain ⟨P9, rfl⟩ := hw9
        have hb9 := hb.trans (P9.h.mono hsz)
        generalize P9.w = w4 at *
        cases t with
        | true =>
          go_wp2
          go_roundw
          case rel => exact ⟨k + 1, HLT.out, by go_num, hb9⟩
          case measure => simp [intOf]; omega
        | false =>
          go_wp2
          go_ret
          exact ⟨_, rfl, fun e => by have := HD.out e; exact this, hb9⟩
      · obtain rfl : k = n := by omega
        have c1 : ¬ (k : Int) < k := by omega
        go_wp2
        go_ret
        exact ⟨_, rfl, fun _ => rfl, hb⟩
  · have z1 : ¬ ((n : Int) = (m : Int)) := by omega
    have HD := hid (show Xs = Ys → False from fun e => hnm (by rw [← HN.out, ← HM.out, e]))
    go_enter Tryz.func16, Tryz.ntmps16
    go_wp2
    go_ret
    exact ⟨_, rfl, fun e => (HD.out e).elim, Below.refl _ _⟩
set_option maxRecDepth 100000 in
set_option maxHeartbeats 8000000 in
theorem awake25_any (w : World) : Calls Tryz.prog 5 #[] w fun e w' => e = .returned (.bool true) ∧ Below w.heap.size w w' := by
  have cS : ∀ W, Calls Tryz.prog 21 #[.string ⟨#[]⟩] W fun e w' => ∃ A c, e = .returned (.tuple #[.slice A 0 c, .int .i64 0, .agg (idVals begB)]) ∧ Below W.heap.size W w' := fun W =>
    (scan_any [] (by decide) W).mono fun e w' ⟨v, h1, h2, h3⟩ => by
      rw [scJ_nil] at h1 h2
      obtain ⟨A, c, rfl, _⟩ := h2.rd (FmD.all_ok _)
      exact ⟨A, c, h1, h3⟩
  obtain ⟨s, hs, hsl⟩ : ∃ s, s = frB begB ⟨(1 : Nat), []⟩ ∧ s.length = 11 := ⟨_, rfl, by
    simp only [frB, List.length_cons, List.length_append, List.length_take, nxtB_length, textE, List.length_nil, numE_lt (show (0 : Nat) < 128 by decide)]
    decide⟩
  have cY : ∀ W, Calls Tryz.prog 22 #[.agg (List.map u8v begB).toArray, .agg #[.int .i64 1, .string ⟨#[]⟩]] W fun e w' => e = .returned (.tuple #[.string (txt s), .int .i64 0]) ∧ Below W.heap.size W w' := fun W => by
    rw [hs]
    exact jbytes_ok begB begB_length 1 (by decide) (by decide) [] (by decide) W
  have bb : ∀ W, (Instr.build 34 #[(0, .int .i64 1)]).run Tryz.prog W = .ok (.agg #[.int .i64 1, .string ⟨#[]⟩]) W := fun W => by kernel_rfl
  have cB := begin_any
  have cR := rbegin_any
  have h0l := begB_length
  have heq : ∀ W, (Op.equalIn 10000 42 (.agg (List.map u8v begB).toArray) (.agg (idVals begB))).run Tryz.prog W = .ok true W := fun W => (ids_eq W begB begB h0l h0l).trans (by rw [decide_eq_true rfl])
  clear hs
  have hu := Tryz.underlying42
  have z11 : (s.length : Int) = 11 := by rw [hsl]; rfl
  generalize begB = S0 at *
  have hI : (Tryz.prog.info? 42).map (·.size) = some (idVals S0).size := by rw [idVals_size, h0l]; exact sizeId
  have hL : (Tryz.prog.info? 42).map (·.size) = some (S0.map u8v).length := by rw [List.length_map, h0l]; exact sizeId
  have h1c := idVals_one S0
  have HS0 := hid h0l
  have hN2 : ∀ (V : World) (cs : Array Value), Blk (V.alloc (.cells cs 42)) V.heap.size 42 cs := fun V cs => Blk.new _ _ _
  clear h0l
  go_enter Tryz.func5, Tryz.ntmps5
  go_wp2_with (first
    | (go_at_call 21; (with_reducible refine (cS _).mono ?_); rintro e1 w1 ⟨A1, c1, rfl, hb1⟩)
    | (with_reducible refine wpList_store_blk rfl 42 _ _ rfl w1.heap.size _ (idVals S0) 42 (hN2 _ _) rfl rfl hI ?c4 h1c ?_))
  case c4 => rw [idVals_size, HS0.out]; rfl
  intro w2 hz2 hg2
  have hb2 := hb1.trans ((below_new hg2).mono hb1.size)
  have r2 := range_blk hz2
  clear hg2 hb1 hI h1c hN2
  go_upto_region 3 with (first
    | (with_reducible refine wpList_load_if (by with_unfolding_all rfl) 42 _ rfl _ _ rfl (S0.map u8v) _ r2 hu rfl hL ?_)
    | (with_reducible refine wpList_build_byM rfl _ _ rfl _ _ bb (by with_unfolding_all rfl) ?_)
    | (go_at_call 22; (with_reducible refine (cY _).mono ?_); rintro e3 w3 ⟨rfl, hb3⟩))
  have r3 := range_later (range_blk (hz2.below hb3))
  have hb4 := hb2.trans (hb3.mono hb2.size)
  clear r2 hz2 hb3 bb cY cS
  have cBq : ∀ p : LaterW w3, Calls Tryz.prog 23 #[] p.w fun e w'' => e = .returned (.agg (idVals S0)) ∧ Below p.w.heap.size p.w w'' := fun p => cB p.w
  have cRq : ∀ p : LaterW w3, Calls Tryz.prog 24 #[] p.w fun e w'' => e = .returned (.agg (idVals S0)) ∧ Below p.w.heap.size p.w w'' := fun p => cR p.w
  refine wp_region_later mixedJ (by kernel_rfl) ?_
  repeat (first
    | ((with_reducible refine wpQuiet_skip (by with_unfolding_all rfl) ?_); simp only [Act.put, List.setIfInBounds_toArray, List.set_cons_zero, List.set_cons_succ])
    | ((with_reducible refine wpQuiet_load_if (by with_unfolding_all rfl) 42 _ rfl _ _ rfl (S0.map u8v) _ r3 hu (by with_unfolding_all rfl) hL ?_); simp only [Act.put, List.setIfInBounds_toArray, List.set_cons_zero, List.set_cons_succ])
    | ((with_reducible refine wpQuiet_step (fun K hK => ?_)); go_simp; first | ((with_reducible refine hK _ ?_); clear hK K) | (with_reducible apply Exists.intro; (with_reducible refine ⟨fun _ => ?_, hK _ ?_⟩); ((first | (go_at_call 23; exact later_of (cB _)) | (go_at_call 24; exact later_of (cR _)))); clear hK K)))
  with_reducible refine wpQuiet_nil ?_
  intro _ hw'
  obtain ⟨p9, rfl⟩ := hw'
  have hp9 := p9.h
  generalize p9.w = w4 at *
  go_wp2
  go_ret
  exact ⟨rfl, hb4.trans (hp9.mono hb4.size)⟩
end Go.Proofs.YtemdmdgigmhlbaaGreat
/- journal: what the law of bytes asks of each call, said of frames as data. -/
set_option linter.unusedSimpArgs false
set_option linter.unusedVariables false
namespace Go.Proofs.YtemdmdgigmhlbaaGreat
open Go.RowKit Go.Qc Go.Shelf
attribute [local go_sem] txt_size txt_append ib_fold

theorem wrong_yes (X : FmD) (h : X.okF) (hp : X.p.length ≤ 5000) (w : World) :
    Calls Tryz.prog 9 #[.agg X.cs] w fun e w' => e = .returned (.int .i64 0) ∧ Below w.heap.size w w' := by
  have := rwrong_any X.k X.p hp w
  rw [show wrgF ⟨X.k, X.p⟩ = 0 from wrg_ok h] at this
  exact this
theorem wrong_no (X : FmD) (h : ¬ X.okF) (hp : X.p.length ≤ 5000) (w : World) :
    Calls Tryz.prog 9 #[.agg X.cs] w fun e w' => e = .returned (.int .i64 1) ∧ Below w.heap.size w w' := by
  have := rwrong_any X.k X.p hp w
  rw [show wrgF ⟨X.k, X.p⟩ = 1 from wrg_no h] at this
  exact this
theorem frB_lenS (c : List UInt8) (X : FmD) (h : X.p.length ≤ 300) : (frB c X).length ≤ 319 := by
  have h9 := numE_len9 X.p.length (by omega)
  simp only [frB, textE, List.length_cons, List.length_append, List.length_take]
  omega
theorem stJ_lenS : ∀ (n : Nat) (Xs : List FmD), Xs.length = n → (∀ X ∈ Xs, X.p.length ≤ 300) → (stJ Xs).1.length ≤ n * 319 := by
  intro n
  induction n with
  | zero => intro Xs h _; rw [List.eq_nil_of_length_eq_zero h]; simp [stJ]
  | succ n ih =>
    intro Xs h hp
    have hne : Xs ≠ [] := by intro e; rw [e] at h; simp at h
    rw [← List.dropLast_concat_getLast hne, stJ_snoc]
    have h1 := ih Xs.dropLast (by rw [List.length_dropLast]; omega) (fun X hX => hp X ((List.dropLast_sublist Xs).subset hX))
    have h2 := frB_lenS (stJ Xs.dropLast).2 (Xs.getLast hne) (hp _ (List.getLast_mem hne))
    rw [List.length_append]
    omega
/-- What a round of the law holds: the chain's box, the frame's box, the document's frame, what came in. -/
structure JbH (B : Nat) (w : World) (gC : Nat) (C : List UInt8) (gF : Nat) (X : FmD) (g2 q2 : Nat) (W : World) : Prop where
  bc : Blk W gC 42 (idVals C)
  fx : FjX W gF X
  rm : W.rangeAt g2 q2 X.cs.toList
  sz : B ≤ W.heap.size
  hb : Below B w W
theorem JbH.below {B : Nat} {w : World} {gC : Nat} {C : List UInt8} {gF : Nat} {X : FmD} {g2 q2 : Nat} {W W' : World} (h : JbH B w gC C gF X g2 q2 W) (g : Below W.heap.size W W') : JbH B w gC C gF X g2 q2 W' :=
  ⟨h.bc.below g, h.fx.below g, h.rm.below g, Nat.le_trans h.sz g.size, h.hb.trans (g.mono h.sz)⟩
/-- plain of a row that may be. -/
theorem plain_12 (A : Option Addr) (n c : Nat) (Xs : List FmD) (hn : Xs.length = n) (hN : n ≤ 12) (hp : ∀ X ∈ Xs, X.p.length ≤ 300) (w : World) (hA : FjRd w A Xs) :
    Calls Tryz.prog 4 #[.slice A n c] w fun e w' => ∃ B d, e = .returned (.tuple #[.slice B n d, .bool true]) ∧ FrRd w' B Xs ∧ Below w.heap.size w w' :=
  (plain_yes A n c Xs hn (by omega) hp w hA).mono fun e w' ⟨v, h1, h2, h3⟩ => by
    obtain ⟨B, d, rfl, _, _, _, h4⟩ := h2.rd (FmD.all_ok _)
    rw [decide_eq_true (by omega : (n : Int) ≤ 12)] at h1
    exact ⟨B, d, h1, h4, h3⟩
/-- Where there are too many, or one is too long. -/
theorem plain_far (A : Option Addr) (n c : Nat) (Xs : List FmD) (hn : Xs.length = n) (hN : n * 24 ≤ 140737488355328) (hf : ¬ (n ≤ 12 ∧ ∀ X ∈ Xs, X.p.length ≤ 300)) (w : World) (hA : FjRd w A Xs) :
    Calls Tryz.prog 4 #[.slice A n c] w fun e w' => ∃ v, e = .returned (.tuple #[v, .bool false]) ∧ Below w.heap.size w w' := by
  by_cases hp : ∃ X ∈ Xs, 300 < X.p.length
  · exact (plain_no A n c Xs hn hN hp w hA).mono fun e w' ⟨h1, h2⟩ => ⟨_, h1, h2⟩
  · have hp2 : ∀ X ∈ Xs, X.p.length ≤ 300 := fun X hX => by
      rcases Nat.lt_or_ge 300 X.p.length with h | h
      · exact (hp ⟨X, hX, h⟩).elim
      · exact h
    have h12 : ¬ (n : Int) ≤ 12 := fun h => hf ⟨by omega, hp2⟩
    exact (plain_yes A n c Xs hn hN hp2 w hA).mono fun e w' ⟨v, h1, _, h3⟩ => by
      rw [decide_eq_false h12] at h1
      exact ⟨v, h1, h3⟩
end Go.Proofs.YtemdmdgigmhlbaaGreat

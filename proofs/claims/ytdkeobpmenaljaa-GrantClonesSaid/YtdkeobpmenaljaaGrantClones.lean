
/- Proved: for any root and any two rows of acts quitclaimlaw19.GrantClones returns true and leaves its arguments as they were. No conditions. -/
import Derived.Test.YtdkeobpmenaljaaRk12
import Derived.Test.YtdkeobpmenaljaaRows
import Derived.ChangeShapes
import Derived.Deep.DeepCutAuto
set_option linter.unusedSimpArgs false
set_option linter.unusedVariables false
namespace Go.Proofs.Ytdkeobpmenaljaa
open Go.RowKit Go.Qc Go.Shelf
attribute [local go_sem] txt_size txt_append ib_fold txt_toL
/-- An act's box. -/
structure AcXC (W : World) (g : Nat) (X : AcV) : Prop where
  b : Blk W g 35 X.cs
theorem AcXC.below {W W' : World} {g : Nat} {X : AcV} (h : AcXC W g X) (hb : Below W.heap.size W W') : AcXC W' g X := ⟨h.b.below hb⟩
theorem AcXC.by_ {W : World} {g : Nat} {X : AcV} (h : AcXC W g X) : W.rangeAt g 0 (X.y.map u8v) := fun j u hj => h.b.cell_ (by
  rw [Nat.zero_add]
  unfold AcV.cs
  have := (List.getElem?_eq_some_iff.1 hj).1
  rw [Array.getElem?_append_left (by rw [idVals_size]; rwa [List.length_map] at this)]
  unfold idVals
  rw [List.getElem?_toArray]; exact hj)
theorem AcXC.op_ {W : World} {g : Nat} {X : AcV} (h : AcXC W g X) (hK : X.ok) : W.rangeAt g 32 (opC X.D X.A X.n X.c X.B X.m X.d).toList := fun j u hj => h.b.cell_ (by
  unfold AcV.cs AcV.op
  rw [Array.getElem?_append_right (by rw [idVals_size, hK.1]; omega), idVals_size, hK.1, Nat.add_sub_cancel_left, ← Array.getElem?_toList]; exact hj)
theorem wpList_load_acrC {w : World} {ops : Array Oper} {rest : List Oper} {o : Oper} {a : Act} {Q : Exit → Act → World → Prop} (hgd : Region.wanted o (yielded ops a.tmps) = true) (x : Operand) (ho : o.op = .load 35 x)
    (g q : Nat) {X : AcV} (hx : a.eval x = .pointer (some ⟨g, q, none⟩)) (hr : w.rangeAt g q X.cs.toList) (hK : X.ok)
    (h : wpList Try.prog ops Q rest (a.put o.dst (.agg X.cs)) w) : wpList Try.prog ops Q (o :: rest) a w := by
  refine wpList_load_if hgd 35 x ho g q hx X.cs.toList _ hr Try.underlying35 rfl ?_ ?_
  · rw [Ac_info X hK, Array.length_toList]
  · rw [Array.toArray_toList]; exact h
theorem wpList_store_acnC {w : World} {ops : Array Oper} {rest : List Oper} {o : Oper} {a : Act} {Q : Exit → Act → World → Prop} {old : Array Value} (hgd : o.guard = none) (x y : Operand) (ho : o.op = .store 35 x y)
    {X : AcV} (hx : a.eval x = .pointer (some ⟨w.heap.size, 0, none⟩)) (hy : a.eval y = .agg X.cs) (hK : X.ok) (hs : old.size = 71)
    (h : wpList Try.prog ops Q rest (a.put o.dst undef) (w.alloc (.cells X.cs 35))) : wpList Try.prog ops Q (o :: rest) a (w.alloc (.cells old 35)) :=
  wpList_store_new hgd 35 x y ho X.cs hx hy (Ac_info X hK) (by rw [AcV.size hK, hs]) X.one h
theorem wpList_load_opGC {ops : Array Oper} {rest : List Oper} {o : Oper} {a : Act} {w : World} {Q : Exit → Act → World → Prop} (hw : Region.wanted o (yielded ops a.tmps) = true) (x : Operand) (ho : o.op = .load 33 x)
    (g q : Nat) (hx : a.eval x = .pointer (some ⟨g, q, none⟩)) {D : OpD} {A : Option Addr} {n c : Nat} {B : Option Addr} {m d : Nat} (hX : w.rangeAt g q (opC D A n c B m d).toList) (hK : D.K.length = 32)
    (h : wpList Try.prog ops Q rest (a.put o.dst (.agg (opC D A n c B m d))) w) : wpList Try.prog ops Q (o :: rest) a w := by
  refine wpList_load_if hw 33 x ho g q hx (opC D A n c B m d).toList _ hX Try.underlying33 rfl ?_ ?_
  · rw [infoOp, Array.length_toList, opC_size _ _ _ _ _ _ _ hK]
  · rw [Array.toArray_toList]; exact h
theorem lngG_boundsC {D : OpD} (h : lngO D = false) : D.o.length ≤ 40 ∧ D.n.length ≤ 40 := by
  unfold lngO at h
  simp only [Bool.or_eq_false_iff, decide_eq_false_iff_not] at h
  omega
theorem lngC_p {D : OpD} (h : lngO D = false) : D.p.length ≤ 300 ∧ D.t.length ≤ 300 ∧ (∀ x ∈ D.o, x.length ≤ 300) ∧ (∀ x ∈ D.n, x.length ≤ 300) := by
  unfold lngO at h
  simp only [Bool.or_eq_false_iff, decide_eq_false_iff_not] at h
  obtain ⟨h1, h2, h3, h4, h5⟩ := h
  rw [List.any_eq_false] at h5
  refine ⟨by omega, by omega, fun x hx => ?_, fun x hx => ?_⟩
  · have := h5 D.o (by simp)
    rw [List.any_eq_true] at this
    have h6 : ¬ 300 < x.length := fun h => this ⟨x, hx, decide_eq_true h⟩
    omega
  · have := h5 D.n (by simp)
    rw [List.any_eq_true] at this
    have h6 : ¬ 300 < x.length := fun h => this ⟨x, hx, decide_eq_true h⟩
    omega
theorem keep_startC (root : List UInt8) : KeepG root [] := ⟨fun _ h => by simp at h, fun _ h => by simp at h, by simp⟩
/-- The state of a walk: a table of the program's, and the document's. -/
structure GcS (u0 : World) (tb bx : Nat) (root : List UInt8) (W : World) (v : Value) (Ys Zs : List GrD) : Prop where
  T : TbS W tb root Zs
  x : TbK W bx root v
  r : RkT W v Ys
  b : Below u0.heap.size u0 W
  n1 : u0.heap.size ≤ tb
  n2 : tb < bx
section
variable {u0 : World} {tb bx : Nat} {root : List UInt8} {W W' : World} {v v' : Value} {Ys Zs Ys' Zs' : List GrD}
theorem GcS.below (h : GcS u0 tb bx root W v Ys Zs) (hb : Below W.heap.size W W') : GcS u0 tb bx root W' v Ys Zs :=
  ⟨h.T.below hb, h.x.below hb, h.r.below hb, h.b.trans (hb.mono h.b.size), h.n1, h.n2⟩
theorem GcS.t (h : GcS u0 tb bx root W v Ys Zs) (hT : TbS W' tb root Zs') (hg : W.grownBy W' (some tb)) : GcS u0 tb bx root W' v Ys Zs' := by
  have h2 := h.n2
  obtain ⟨A, n, c, hk⟩ := h.T.blk
  exact ⟨hT, ⟨blk_grown h.x.b hg (by omega)⟩, h.r.apart hk (row_str root A n c) hg, below_grownS h.b hg h.n1, h.n1, h.n2⟩
theorem GcS.put (h : GcS u0 tb bx root W v Ys Zs) (hr : RkT W v' Ys') (hx : TbK W' bx root v') (hg : W.grownBy W' (some bx)) : GcS u0 tb bx root W' v' Ys' Zs := by
  have h2 := h.n2
  have h1 := h.n1
  obtain ⟨A, c, rfl, _⟩ := h.r
  exact ⟨h.T.apart h.x.b (by decide) (by omega) hg, hx, hr.apart h.x.b (row_str root A _ c) hg, below_grownS h.b hg (by omega), h.n1, h.n2⟩
end

set_option maxRecDepth 100000 in
set_option maxHeartbeats 20000000 in
theorem gc_long1 (root : List UInt8) (hR : root.length = 32) (A : Option Addr) (n c : Nat) (Xs : List AcV) (B : Option Addr) (m d : Nat) (Ms : List AcV) (w : World) (ha : AcRow w A n Xs) (hb : AcRow w B m Ms) (hN : 20 < n) :
    Calls Try.prog 3 #[.agg (idVals root), .slice A n c, .slice B m d] w fun e w' => e = .returned (.bool true) ∧ Below w.heap.size w w' := by
  have hba := (Below.refl w.heap.size w).alloc (Nat.le_refl _) (.cells (idVals root) 23)
  have z1 : (20 : Int) < n := by omega
  clear ha hb
  go_enter Try.func3, Try.ntmps3
  go_wp2_with (fail)
  refine (awake19_any _).mono ?_
  rintro e9 w9 ⟨rfl, hb9⟩
  go_wp2_with (fail)
  go_ret
  exact ⟨rfl, hba.trans (hb9.mono hba.size)⟩

set_option maxRecDepth 100000 in
set_option maxHeartbeats 20000000 in
theorem gc_long2 (root : List UInt8) (hR : root.length = 32) (A : Option Addr) (n c : Nat) (Xs : List AcV) (B : Option Addr) (m d : Nat) (Ms : List AcV) (w : World) (ha : AcRow w A n Xs) (hb : AcRow w B m Ms) (hN1 : ¬ 20 < n) (hN : 20 < m) :
    Calls Try.prog 3 #[.agg (idVals root), .slice A n c, .slice B m d] w fun e w' => e = .returned (.bool true) ∧ Below w.heap.size w w' := by
  have hba := (Below.refl w.heap.size w).alloc (Nat.le_refl _) (.cells (idVals root) 23)
  have z1 : ¬ (20 : Int) < n := by omega
  have z2 : (20 : Int) < m := by omega
  clear ha hb
  go_enter Try.func3, Try.ntmps3
  go_wp2_with (fail)
  refine (awake19_any _).mono ?_
  rintro e9 w9 ⟨rfl, hb9⟩
  go_wp2_with (fail)
  go_ret
  exact ⟨rfl, hba.trans (hb9.mono hba.size)⟩

theorem RkT.at_ {W : World} {A : Option Addr} {n c : Nat} {Ys : List GrD} (h : RkT W (.slice A n c) Ys) : GrRd W A Ys := by
  obtain ⟨A', c', e, hr⟩ := h
  cases e
  exact hr

set_option maxRecDepth 100000 in
set_option maxHeartbeats 20000000 in
theorem gc_yes (root : List UInt8) (hR : root.length = 32) (A : Option Addr) (n c : Nat) (Xs : List AcV) (B : Option Addr) (m d : Nat) (Ms : List AcV) (w : World) (ha : AcRow w A n Xs) (hb : AcRow w B m Ms) (hN : ¬ 20 < n) (hM : ¬ 20 < m) :
    Calls Try.prog 3 #[.agg (idVals root), .slice A n c, .slice B m d] w fun e w' => e = .returned (.bool true) ∧ Below w.heap.size w w' := by
  have hka := Blk.new w 23 (idVals root)
  have hba := (Below.refl w.heap.size w).alloc (Nat.le_refl _) (.cells (idVals root) 23)
  have z1 : ¬ (20 : Int) < n := by omega
  have z2 : ¬ (20 : Int) < m := by omega
  have z3 : n ≤ 20 := by omega
  have z4 : m ≤ 20 := by omega
  have hu := Try.underlying23
  have hzr : (Try.prog.info? 23).map (·.size) = some (root.map u8v).length := by rw [List.length_map, hR]; exact sizeId
  have hr0 := range_blk hka
  have cN : ∀ W : World, Calls Try.prog 13 #[.agg (List.map u8v root).toArray] W fun e w' => ∃ tb, e = .returned (.pointer (some ⟨tb, 0, none⟩)) ∧ W.heap.size ≤ tb ∧ TbS w' tb root [] ∧ Below W.heap.size W w' := fun W => gnew_any root hR W
  have HA := hid ha
  have HM := hid hb
  have HB0 := hid hba
  have HRB := hid hr0
  clear ha hb hN hM hka
  go_enter Try.func3, Try.ntmps3
  go_upto_region 3 with (fail)
  generalize w.alloc (.cells (idVals root) 23) = u0 at *
  go_wp2_with (first
    | (with_reducible refine wpList_load_if (by with_unfolding_all rfl) 23 _ rfl _ _ rfl (root.map u8v) _ hr0 hu rfl hzr ?_)
    | (go_at_call 13; (with_reducible refine (cN _).mono ?_); rintro e1 w1 ⟨tb, rfl, htb, hT, hb1⟩; replace hr0 := hr0.below hb1)
    | (with_reducible refine wpList_build_tbk rfl _ rfl root hR (by with_unfolding_all rfl) ?_)
    | (with_reducible refine wpList_store_tbn rfl _ _ rfl root hR _ rfl rfl rfl (by with_unfolding_all rfl) ?_))
  have hal := (Below.refl w1.heap.size w1).alloc (Nat.le_refl _) (.cells (tbC root (.slice none 0 0)) 30)
  have hx1 : TbK (w1.alloc (.cells (tbC root (.slice none 0 0)) 30)) w1.heap.size root (.slice none 0 0) := ⟨Blk.new _ _ _⟩
  have ht1 : tb < w1.heap.size := by
    obtain ⟨_, _, _, h9⟩ := hT.blk
    exact h9.lt
  have H0 := hid (GcS.mk (hT.below hal) hx1 ⟨none, 0, rfl, GrRd.nil_ _ _⟩ (hb1.trans (hal.mono hb1.size)) htb ht1 : GcS u0 tb w1.heap.size root (w1.alloc (.cells (tbC root (.slice none 0 0)) 30)) (.slice none 0 0) [] [])
  obtain ⟨bx, hbx⟩ : ∃ bx, w1.heap.size = bx := ⟨_, rfl⟩
  rw [hbx] at H0 ⊢
  generalize w1.alloc (.cells (tbC root (.slice none 0 0)) 30) = w2 at *
  clear hal hx1 ht1 hbx htb hT hb1 hr0 cN hba
  go_loopw [32] (fun i wr => ∃ (k : Nat) (Ys : List GrD) (v : Value), k ≤ n ∧ i = .int .i64 k ∧ Hid (KeepG root Ys) ∧ Hid (SortG Ys) ∧ Hid (GcS u0 tb bx root wr v Ys Ys)) (fun i _ => n - (intOf i).toNat)
  case atStart => exact ⟨0, [], _, Nat.zero_le _, rfl, hid (keep_startC root), hid List.Pairwise.nil, H0⟩
  case round =>
    clear H0
    obtain ⟨k, Ys, v, hk, rfl, HK, HO, HS⟩ := hrel
    obtain ⟨A5, c5, rfl, hr5⟩ := HS.out.r
    have hbw := HB0.out.trans (HS.out.b.mono HB0.out.size)
    by_cases hlt : k < n
    · obtain ⟨X, hXk⟩ : ∃ X, Xs[k]? = some X := ⟨_, List.getElem?_eq_getElem (by have := HA.out.1; omega)⟩
      obtain ⟨g, q, hg, hgl, hok, hix⟩ := AcRd.pick c HA.out.2.2.1 HA.out.1 hXk
      obtain ⟨_, q1, q2, q3, q4⟩ := HA.out.2.2.2 X (List.mem_of_getElem? hXk)
      have fX := hg.below hbw
      have hokK : X.D.K.length = 32 := hok.2
      have c1 : (k : Int) < n := by omega
      have hnw : AcXC (wr.alloc (.cells X.cs 35)) wr.heap.size X := ⟨Blk.new _ _ _⟩
      have hal := (Below.refl wr.heap.size wr).alloc (Nat.le_refl _) (.cells X.cs 35)
      have HBW := hid (hbw.trans (hal.mono hbw.size))
      have fO := hnw.op_ hok
      have cL := rlong13_any X.D hok.2 X.A X.n X.c q1.1 q1.2.1 X.B X.m X.d q2.1 q2.2.1 q3 q4 (wr.alloc (.cells X.cs 35)) (q1.2.2.below HBW.out) (q2.2.2.below HBW.out)
      have Q1 := hid q1
      have Q2 := hid q2
      clear hXk hg q1 q2 q3 q4 hgl
      cases hl : lngO X.D with
      | true =>
        rw [hl] at cL
        clear hl
        go_wp2_with (first
          | (with_reducible refine wpList_load_acrC (by with_unfolding_all rfl) _ rfl _ _ rfl fX hok ?_)
          | (with_reducible refine wpList_store_acnC rfl _ _ rfl rfl rfl hok (by with_unfolding_all rfl) ?_)
          | (with_reducible refine wpList_load_opGC (by with_unfolding_all rfl) _ rfl _ _ rfl fO hokK ?_)
          | (go_at_call 14; (with_reducible refine cL.mono ?_); rintro e4 w4 ⟨rfl, hb4⟩)
          | (go_at_call 12; (with_reducible refine (awake19_any _).mono ?_); rintro e9 w9 ⟨rfl, hb9⟩))
        go_ret
        have hb5 := HBW.out.trans (hb4.mono HBW.out.size)
        exact ⟨rfl, hb5.trans (hb9.mono hb5.size)⟩
      | false =>
        rw [hl] at cL
        have HBD := hid (lngG_boundsC hl)
        have HBP := hid (lngC_p hl)
        clear hl
        have hm : (applyD19 root Ys X.y X.D).1 = nextG root Ys X.y X.D := by rw [apply_same HO.out X.y X.D]
        have cA : ∀ W : World, TbS W tb root Ys → Below w.heap.size w W → Calls Try.prog 15 #[.pointer (some ⟨tb, 0, none⟩), .agg (List.map u8v X.y).toArray, .agg (opC X.D X.A X.n X.c X.B X.m X.d)] W fun e w' => ∃ r, e = .returned (.int .i64 r) ∧ TbS w' tb root (nextG root Ys X.y X.D) ∧ W.grownBy w' (some tb) := fun W hT hW =>
          (gapply_any X.D hok.2 X.A X.n X.c X.B X.m X.d Q1.out.1 (by have := HBD.out.1; have := Q1.out.1; omega) Q2.out.1 (by have := HBD.out.2; have := Q2.out.1; omega) root hR tb Ys (by have := HK.out.len; omega) X.y hok.1 W hT (Q1.out.2.2.below hW) (Q2.out.2.2.below hW)).mono (fun e w' h => ⟨_, h⟩)
        have cR : ∀ W : World, GrRd W A5 Ys → Below w.heap.size w W → Calls Try.prog 16 #[.agg (tbC root (.slice A5 Ys.length c5)), .agg (List.map u8v X.y).toArray, .agg (opC X.D X.A X.n X.c X.B X.m X.d)] W fun e w' => ∃ v r, e = .returned (.tuple #[.agg (tbC root v), .int .i64 r]) ∧ RkT w' v (nextG root Ys X.y X.D) ∧ Below W.heap.size W w' := fun W hr hW => by
          have hc := rapply19_any root hR A5 Ys.length c5 Ys rfl (by have := HK.out.len; omega) (fun Y hY => by have := pre_len (HK.out.pre Y hY); omega) X.y hok.1 X.D hok.2 X.A X.n X.c Q1.out.1 (by have := HBD.out.1; have := Q1.out.1; omega) X.B X.m X.d Q2.out.1 (by have := HBD.out.2; have := Q2.out.1; omega) (by have := HBP.out.1; omega) (by have := HBP.out.2.1; omega) (fun x hx => by have := HBP.out.2.2.1 x hx; omega) (fun x hx => by have := HBP.out.2.2.2 x hx; omega) W hr (Q1.out.2.2.below hW) (Q2.out.2.2.below hW)
          refine hc.mono ?_
          rintro e w' ⟨v, rfl, h1, h2⟩
          rw [hm] at h1
          exact ⟨v, _, rfl, h1, h2⟩
        have HKN := hid (keep_next X.y X.D HK.out)
        have HON := hid (sort_next (root := root) HO.out X.y X.D)
        clear hm
        generalize nextG root Ys X.y X.D = Zs at *
        have ntb : tb ≠ wr.heap.size := by
          obtain ⟨_, _, _, h9⟩ := HS.out.T.blk
          have := h9.lt; omega
        replace HS := hid (HS.out.below hal)
        have HX := hid hnw
        have fY := hnw.by_
        have hzy : (Try.prog.info? 23).map (·.size) = some (X.y.map u8v).length := by rw [List.length_map, hok.1]; exact sizeId
        have HLT := hid (show k + 1 ≤ n from hlt)
        clear Q1 Q2 HBD HBP HK HO hnw hal hbw hr5 hlt
        go_wp2_with (first
          | (with_reducible refine wpList_load_acrC (by with_unfolding_all rfl) _ rfl _ _ rfl fX hok ?_)
          | (with_reducible refine wpList_store_acnC rfl _ _ rfl rfl rfl hok (by with_unfolding_all rfl) ?_)
          | (with_reducible refine wpList_load_opGC (by with_unfolding_all rfl) _ rfl _ _ rfl fO hokK ?_)
          | (with_reducible refine wpList_load_if (by with_unfolding_all rfl) 23 _ rfl _ _ rfl (X.y.map u8v) _ fY hu rfl hzy ?_)
          | (go_at_call 14; (with_reducible refine cL.mono ?_); rintro e4 w4 ⟨rfl, hb4⟩; replace HX := hid (HX.out.below hb4); replace fY := HX.out.by_; replace fO := HX.out.op_ hok; replace HS := hid (HS.out.below hb4); replace HBW := hid (HBW.out.trans (hb4.mono HBW.out.size)); clear cL)
          | (go_at_call 15; (with_reducible refine (cA _ HS.out.T HBW.out).mono ?_); rintro e6 w6 ⟨r6, rfl, hT6, hg6⟩; replace HX := hid (AcXC.mk (blk_grown HX.out.b hg6 ntb.symm)); replace fY := HX.out.by_; replace fO := HX.out.op_ hok; replace HS := hid (HS.out.t hT6 hg6); replace HBW := hid (HB0.out.trans (HS.out.b.mono HB0.out.size)); have hx := HS.out.x; have HR9 := (HS.out.r).at_; clear cA hT6 hg6)
          | (with_reducible refine wpList_load_tb (by with_unfolding_all rfl) _ rfl bx root hR _ rfl hx ?_)
          | (go_at_call 16; (with_reducible refine (cR _ HR9 HBW.out).mono ?_); rintro e7 w7 ⟨v7, r7, rfl, hr7, hb7⟩; replace HS := hid (HS.out.below hb7); have hob := HS.out.x.b; have hsz := tbC_size root hR (.slice A5 Ys.length c5); have HR7 := hid hr7; obtain ⟨A7, c7, rfl, _⟩ := hr7; clear hx cR fO fY)
          | ((with_reducible refine wpList_store_tb rfl _ _ rfl bx root hR _ rfl hob hsz rfl rfl ?_); intro w9 ho9 hg9))
        have HSn := hid (HS.out.put HR7.out ho9 hg9)
        go_roundw
        case rel => exact ⟨k + 1, Zs, _, HLT.out, by go_num, HKN, HON, HSn⟩
        case measure => exact meas_k1 HLT.out
    · obtain rfl : k = n := by omega
      have c1 : ¬ (k : Int) < k := by omega
      have cC := gtclone_any tb root hR Ys (by have := HK.out.len; omega) wr HS.out.T
      go_wp2_with (first
        | (go_at_call 17; (with_reducible refine cC.mono ?_); rintro e3 w3 ⟨cb, rfl, hcb, hTc, hb3⟩; have hx := (HS.out.below hb3).x; clear cC)
        | (with_reducible refine wpList_load_tb (by with_unfolding_all rfl) _ rfl bx root hR _ rfl hx ?_)
        | (with_reducible refine wpList_store_tbn rfl _ _ rfl root hR _ rfl rfl rfl (by with_unfolding_all rfl) ?_))
      have HB1 := hid hbw
      have HU1 := hid HS.out.b
      have HS1 := HS
      clear HS hbw HB0 hx
      have HB0 := HB1
      clear HB1
      have hal := (Below.refl w3.heap.size w3).alloc (Nat.le_refl _) (.cells (tbC root (.slice A5 Ys.length c5)) 30)
      have hx1 : TbK (w3.alloc (.cells (tbC root (.slice A5 Ys.length c5)) 30)) w3.heap.size root (.slice A5 Ys.length c5) := ⟨Blk.new _ _ _⟩
      have ht1 : cb < w3.heap.size := by
        obtain ⟨_, _, _, h9⟩ := hTc.blk
        exact h9.lt
      have hrb := hb3.trans (hal.mono hb3.size)
      have H0 := hid (GcS.mk (hTc.below hal) hx1 ⟨A5, c5, rfl, hr5.below hrb⟩ hrb hcb ht1 : GcS wr cb w3.heap.size root (w3.alloc (.cells (tbC root (.slice A5 Ys.length c5)) 30)) (.slice A5 Ys.length c5) Ys Ys)
      obtain ⟨yx, hyx⟩ : ∃ yx, w3.heap.size = yx := ⟨_, rfl⟩
      rw [hyx] at H0 ⊢
      generalize w3.alloc (.cells (tbC root (.slice A5 Ys.length c5)) 30) = w4 at *
      have HK1 := HK
      have HO1 := HO
      have HR1 := hid hr5
      clear hal hx1 ht1 hyx hcb hTc hb3 hrb hr5 HK HO
      obtain ⟨u1, hu1⟩ : ∃ u1, u1 = wr := ⟨_, rfl⟩
      subst hu1
      go_loopw [63] (fun i wr => ∃ (k : Nat) (Ys : List GrD) (v : Value), k ≤ m ∧ i = .int .i64 k ∧ Hid (KeepG root Ys) ∧ Hid (SortG Ys) ∧ Hid (GcS u1 cb yx root wr v Ys Ys)) (fun i _ => m - (intOf i).toNat)
      case atStart => exact ⟨0, Ys, _, Nat.zero_le _, rfl, HK1, HO1, H0⟩
      case round =>
        clear H0
        obtain ⟨j, Vs, v2, hk, rfl, HK, HO, HS⟩ := hrel
        obtain ⟨A6, c6, rfl, hr6⟩ := HS.out.r
        have hbw := HB0.out.trans (HS.out.b.mono HB0.out.size)
        by_cases hlt : j < m
        · obtain ⟨Y, hXk⟩ : ∃ Y, Ms[j]? = some Y := ⟨_, List.getElem?_eq_getElem (by have := HM.out.1; omega)⟩
          obtain ⟨g, q, hg, hgl, hok, hix⟩ := AcRd.pick d HM.out.2.2.1 HM.out.1 hXk
          obtain ⟨_, q1, q2, q3, q4⟩ := HM.out.2.2.2 Y (List.mem_of_getElem? hXk)
          have fX := hg.below hbw
          have hokK : Y.D.K.length = 32 := hok.2
          have c1 : (j : Int) < m := by omega
          have hnw : AcXC (wr.alloc (.cells Y.cs 35)) wr.heap.size Y := ⟨Blk.new _ _ _⟩
          have hal := (Below.refl wr.heap.size wr).alloc (Nat.le_refl _) (.cells Y.cs 35)
          have HBW := hid (hbw.trans (hal.mono hbw.size))
          have fO := hnw.op_ hok
          have cL := rlong13_any Y.D hok.2 Y.A Y.n Y.c q1.1 q1.2.1 Y.B Y.m Y.d q2.1 q2.2.1 q3 q4 (wr.alloc (.cells Y.cs 35)) (q1.2.2.below HBW.out) (q2.2.2.below HBW.out)
          have Q1 := hid q1
          have Q2 := hid q2
          clear hXk hg q1 q2 q3 q4 hgl
          cases hl : lngO Y.D with
          | true =>
            rw [hl] at cL
            clear hl
            go_wp2_with (first
              | (with_reducible refine wpList_load_acrC (by with_unfolding_all rfl) _ rfl _ _ rfl fX hok ?_)
              | (with_reducible refine wpList_store_acnC rfl _ _ rfl rfl rfl hok (by with_unfolding_all rfl) ?_)
              | (with_reducible refine wpList_load_opGC (by with_unfolding_all rfl) _ rfl _ _ rfl fO hokK ?_)
              | (go_at_call 14; (with_reducible refine cL.mono ?_); rintro e4 w4 ⟨rfl, hb4⟩)
              | (go_at_call 12; (with_reducible refine (awake19_any _).mono ?_); rintro e9 w9 ⟨rfl, hb9⟩))
            go_ret
            have hb5 := HBW.out.trans (hb4.mono HBW.out.size)
            exact ⟨rfl, hb5.trans (hb9.mono hb5.size)⟩
          | false =>
            rw [hl] at cL
            have HBD := hid (lngG_boundsC hl)
            have HBP := hid (lngC_p hl)
            clear hl
            have hm : (applyD19 root Vs Y.y Y.D).1 = nextG root Vs Y.y Y.D := by rw [apply_same HO.out Y.y Y.D]
            have cA : ∀ W : World, TbS W cb root Vs → Below w.heap.size w W → Calls Try.prog 15 #[.pointer (some ⟨cb, 0, none⟩), .agg (List.map u8v Y.y).toArray, .agg (opC Y.D Y.A Y.n Y.c Y.B Y.m Y.d)] W fun e w' => ∃ r, e = .returned (.int .i64 r) ∧ TbS w' cb root (nextG root Vs Y.y Y.D) ∧ W.grownBy w' (some cb) := fun W hT hW =>
              (gapply_any Y.D hok.2 Y.A Y.n Y.c Y.B Y.m Y.d Q1.out.1 (by have := HBD.out.1; have := Q1.out.1; omega) Q2.out.1 (by have := HBD.out.2; have := Q2.out.1; omega) root hR cb Vs (by have := HK.out.len; omega) Y.y hok.1 W hT (Q1.out.2.2.below hW) (Q2.out.2.2.below hW)).mono (fun e w' h => ⟨_, h⟩)
            have cR : ∀ W : World, GrRd W A6 Vs → Below w.heap.size w W → Calls Try.prog 16 #[.agg (tbC root (.slice A6 Vs.length c6)), .agg (List.map u8v Y.y).toArray, .agg (opC Y.D Y.A Y.n Y.c Y.B Y.m Y.d)] W fun e w' => ∃ v2 r, e = .returned (.tuple #[.agg (tbC root v2), .int .i64 r]) ∧ RkT w' v2 (nextG root Vs Y.y Y.D) ∧ Below W.heap.size W w' := fun W hr hW => by
              have hc := rapply19_any root hR A6 Vs.length c6 Vs rfl (by have := HK.out.len; omega) (fun Y hY => by have := pre_len (HK.out.pre Y hY); omega) Y.y hok.1 Y.D hok.2 Y.A Y.n Y.c Q1.out.1 (by have := HBD.out.1; have := Q1.out.1; omega) Y.B Y.m Y.d Q2.out.1 (by have := HBD.out.2; have := Q2.out.1; omega) (by have := HBP.out.1; omega) (by have := HBP.out.2.1; omega) (fun x hx => by have := HBP.out.2.2.1 x hx; omega) (fun x hx => by have := HBP.out.2.2.2 x hx; omega) W hr (Q1.out.2.2.below hW) (Q2.out.2.2.below hW)
              refine hc.mono ?_
              rintro e w' ⟨v2, rfl, h1, h2⟩
              rw [hm] at h1
              exact ⟨v2, _, rfl, h1, h2⟩
            have HKN := hid (keep_next Y.y Y.D HK.out)
            have HON := hid (sort_next (root := root) HO.out Y.y Y.D)
            clear hm
            generalize nextG root Vs Y.y Y.D = Us at *
            have ntb : cb ≠ wr.heap.size := by
              obtain ⟨_, _, _, h9⟩ := HS.out.T.blk
              have := h9.lt; omega
            replace HS := hid (HS.out.below hal)
            have HX := hid hnw
            have fY := hnw.by_
            have hzy : (Try.prog.info? 23).map (·.size) = some (Y.y.map u8v).length := by rw [List.length_map, hok.1]; exact sizeId
            have HLT := hid (show j + 1 ≤ m from hlt)
            clear Q1 Q2 HBD HBP HK HO hnw hal hbw hr6 hlt
            go_wp2_with (first
              | (with_reducible refine wpList_load_acrC (by with_unfolding_all rfl) _ rfl _ _ rfl fX hok ?_)
              | (with_reducible refine wpList_store_acnC rfl _ _ rfl rfl rfl hok (by with_unfolding_all rfl) ?_)
              | (with_reducible refine wpList_load_opGC (by with_unfolding_all rfl) _ rfl _ _ rfl fO hokK ?_)
              | (with_reducible refine wpList_load_if (by with_unfolding_all rfl) 23 _ rfl _ _ rfl (Y.y.map u8v) _ fY hu rfl hzy ?_)
              | (go_at_call 14; (with_reducible refine cL.mono ?_); rintro e4 w4 ⟨rfl, hb4⟩; replace HX := hid (HX.out.below hb4); replace fY := HX.out.by_; replace fO := HX.out.op_ hok; replace HS := hid (HS.out.below hb4); replace HBW := hid (HBW.out.trans (hb4.mono HBW.out.size)); clear cL)
              | (go_at_call 15; (with_reducible refine (cA _ HS.out.T HBW.out).mono ?_); rintro e6 w6 ⟨r6, rfl, hT6, hg6⟩; replace HX := hid (AcXC.mk (blk_grown HX.out.b hg6 ntb.symm)); replace fY := HX.out.by_; replace fO := HX.out.op_ hok; replace HS := hid (HS.out.t hT6 hg6); replace HBW := hid (HB0.out.trans (HS.out.b.mono HB0.out.size)); have hx := HS.out.x; have HR9 := (HS.out.r).at_; clear cA hT6 hg6)
              | (with_reducible refine wpList_load_tb (by with_unfolding_all rfl) _ rfl yx root hR _ rfl hx ?_)
              | (go_at_call 16; (with_reducible refine (cR _ HR9 HBW.out).mono ?_); rintro e7 w7 ⟨v7, r7, rfl, hr7, hb7⟩; replace HS := hid (HS.out.below hb7); have hob := HS.out.x.b; have hsz := tbC_size root hR (.slice A6 Vs.length c6); have HR7 := hid hr7; obtain ⟨A7, c7, rfl, _⟩ := hr7; clear hx cR fO fY)
              | ((with_reducible refine wpList_store_tb rfl _ _ rfl yx root hR _ rfl hob hsz rfl rfl ?_); intro w9 ho9 hg9))
            have HSn := hid (HS.out.put HR7.out ho9 hg9)
            go_roundw
            case rel => exact ⟨j + 1, Us, _, HLT.out, by go_num, HKN, HON, HSn⟩
            case measure => exact meas_k1 HLT.out
        · obtain rfl : j = m := by omega
          have c1 : ¬ (j : Int) < j := by omega
          have HU0 := hid (HU1.out.trans (HS.out.b.mono HU1.out.size))
          have HS2 := hid (HS1.out.below HS.out.b)
          have HW := hid (Below.refl wr.heap.size wr)
          have cG1 : ∀ W, Below wr.heap.size wr W → Calls Try.prog 20 #[.pointer (some ⟨tb, 0, none⟩)] W fun e w' => ∃ A2 c2, e = .returned (.slice A2 Ys.length c2) ∧ Hid (GrRd w' A2 Ys) ∧ Below W.heap.size W w' := fun W hW => by
            refine (ggrants_any tb root hR Ys (by have := HK1.out.len; omega) W (HS2.out.T.below hW)).mono ?_
            rintro e w' ⟨v, rfl, hown, hb⟩
            obtain ⟨A2, c2, rfl, _, _, _, hrd⟩ := hown.rd HS2.out.T.ok
            exact ⟨A2, c2, rfl, hid hrd, hb⟩
          have cG2 : ∀ W, Below wr.heap.size wr W → Calls Try.prog 20 #[.pointer (some ⟨cb, 0, none⟩)] W fun e w' => ∃ A2 c2, e = .returned (.slice A2 Vs.length c2) ∧ Hid (GrRd w' A2 Vs) ∧ Below W.heap.size W w' := fun W hW => by
            refine (ggrants_any cb root hR Vs (by have := HK.out.len; omega) W (HS.out.T.below hW)).mono ?_
            rintro e w' ⟨v, rfl, hown, hb⟩
            obtain ⟨A2, c2, rfl, _, _, _, hrd⟩ := hown.rd HS.out.T.ok
            exact ⟨A2, c2, rfl, hid hrd, hb⟩
          have cP : ∀ (Ls : List GrD), Ls.length ≤ 500 → ∀ W A2 c2, GrRd W A2 Ls → Calls Try.prog 19 #[.slice A2 Ls.length c2] W fun e w' => ∃ A3 c3, e = .returned (.slice A3 Ls.length c3) ∧ Hid (GrRd w' A3 Ls) ∧ Below W.heap.size W w' := fun Ls hL W A2 c2 h => by
            refine (rplain_any A2 Ls.length c2 Ls rfl (by omega) W h).mono ?_
            rintro e w' ⟨v, rfl, hown, hb⟩
            obtain ⟨A3, c3, rfl, _, _, _, hrd⟩ := hown.rd h.1
            exact ⟨A3, c3, rfl, hid hrd, hb⟩
          have cS : ∀ (Ls : List GrD), Ls.length ≤ 500 → ∀ W A2 c2 A3 c3, GrRd W A2 Ls → GrRd W A3 Ls → Calls Try.prog 18 #[.slice A2 Ls.length c2, .slice A3 Ls.length c3] W fun e w' => e = .returned (.bool true) ∧ Below W.heap.size W w' := fun Ls hL W A2 c2 A3 c3 h1 h2 =>
            rsame19_any A2 Ls.length c2 A3 c3 Ls rfl (by omega) W h1 h2
          have cP1 := cP Ys HK1.out.len
          have cP2 := cP Vs HK.out.len
          have cS1 := cS Ys HK1.out.len
          have cS2 := cS Vs HK.out.len
          have cO : ∀ W, Below wr.heap.size wr W → Calls Try.prog 21 #[.pointer (some ⟨cb, 0, none⟩)] W fun e w' => e = .returned (.agg (List.map u8v root).toArray) ∧ Below W.heap.size W w' := fun W hW => groot_any cb root hR Vs W (HS.out.T.below hW)
          have heq : ∀ W, (Op.equalIn 10000 23 (.agg (List.map u8v root).toArray) (.agg (List.map u8v root).toArray)).run Try.prog W = .ok true W := fun W => (ids_eq W root root hR hR).trans (by rw [decide_eq_true rfl])
          have HT1 := hid (HR1.out.below HS.out.b)
          have HT2 := hid hr6
          clear cP cS hr6 HK HK1 HO HO1 HR1
          generalize Ys.length = N1 at *
          generalize Vs.length = N2 at *
          have fS : ∀ W, Below wr.heap.size wr W → (W.cell? ⟨bx, 32, none⟩ = some (.slice A5 N1 c5) ∧ W.cell? ⟨yx, 32, none⟩ = some (.slice A6 N2 c6) ∧ W.rangeAt w.heap.size 0 (root.map u8v)) := fun W hW => ⟨(HS2.out.below hW).x.row hR, (HS.out.below hW).x.row hR, HRB.out.below (HU0.out.trans (hW.mono HU0.out.size))⟩
          replace HW := hid (below_drew10 wr)
          go_wp2_with (fail)
          refine wp_region_held_drew (S := fun W => W.cell? ⟨bx, 32, none⟩ = some (.slice A5 N1 c5) ∧ W.cell? ⟨yx, 32, none⟩ = some (.slice A6 N2 c6) ∧ W.rangeAt w.heap.size 0 (root.map u8v)) (by kernel_rfl) ?_ (fun hHeld => ?_)
          · exact fS _ HW.out
          refine' wpAnyH_take (i := 0) (v := .pointer (some ⟨tb, 0, none⟩)) rfl (by kernel_rfl) (by kernel_rfl) (by kernel_rfl) (fun _ _ _ h => h) (Or.inl ⟨by rfl, fun w' hw' => by go_simp⟩) hHeld ?_
          try simp only [Act.put, List.getElem_toArray, List.getElem_cons_succ, List.getElem_cons_zero, List.setIfInBounds_toArray, List.set_cons_zero, List.set_cons_succ]
          refine' wpAnyH_take (i := 3) (v := .pointer (some ⟨bx, 32, none⟩)) rfl (by kernel_rfl) (by kernel_rfl) (by kernel_rfl) (fun _ _ _ h => h) (Or.inl ⟨by rfl, fun w' hw' => by go_simp⟩) hHeld ?_
          try simp only [Act.put, List.getElem_toArray, List.getElem_cons_succ, List.getElem_cons_zero, List.setIfInBounds_toArray, List.set_cons_zero, List.set_cons_succ]
          refine' wpAnyH_take (i := 4) (v := .slice A5 N1 c5) rfl (by kernel_rfl) (by kernel_rfl) (by kernel_rfl) (fun _ _ _ h => h) (Or.inl ⟨by rfl, fun w' hw' => by have hv := hw'.1; go_simp⟩) hHeld ?_
          try simp only [Act.put, List.getElem_toArray, List.getElem_cons_succ, List.getElem_cons_zero, List.setIfInBounds_toArray, List.set_cons_zero, List.set_cons_succ]
          refine wpAnyH_ready (rs := [1]) (by kernel_rfl) (by simp) ?_
          refine AllReadyH.cons rfl (fun K hK => ?_) AllReadyH.nil
          go_simp
          (with_reducible refine (cG1 _ HW.out).mono ?_)
          rintro e5 w5 ⟨A8, c8, rfl, HR8, hb5⟩
          replace HW := hid (HW.out.trans (hb5.mono HW.out.size))
          refine hK.out _ _ (fS _ HW.out) (fun hHeld => ?_)
          clear hK K
          try simp only [Act.put, List.getElem_toArray, List.getElem_cons_succ, List.getElem_cons_zero, List.setIfInBounds_toArray, List.set_cons_zero, List.set_cons_succ]
          refine wpAnyH_ready (rs := [2]) (by kernel_rfl) (by simp) ?_
          refine AllReadyH.cons rfl (fun K hK => ?_) AllReadyH.nil
          go_simp
          (with_reducible refine (cP1 _ _ _ HR8.out).mono ?_)
          rintro e7 w7 ⟨A10, c10, rfl, HR10, hb7⟩
          replace HW := hid (HW.out.trans (hb7.mono HW.out.size))
          refine hK.out _ _ (fS _ HW.out) (fun hHeld => ?_)
          clear hK K
          try simp only [Act.put, List.getElem_toArray, List.getElem_cons_succ, List.getElem_cons_zero, List.setIfInBounds_toArray, List.set_cons_zero, List.set_cons_succ]
          refine wpAnyH_ready (rs := [5]) (by kernel_rfl) (by simp) ?_
          refine AllReadyH.cons rfl (fun K hK => ?_) AllReadyH.nil
          go_simp
          (with_reducible refine (cS1 _ _ _ _ _ HR10.out (HT1.out.below HW.out)).mono ?_)
          rintro e10 w10 ⟨rfl, hb10⟩
          replace HW := hid (HW.out.trans (hb10.mono HW.out.size))
          refine hK.out _ _ (fS _ HW.out) (fun hHeld => ?_)
          clear hK K
          try simp only [Act.put, List.getElem_toArray, List.getElem_cons_succ, List.getElem_cons_zero, List.setIfInBounds_toArray, List.set_cons_zero, List.set_cons_succ]
          refine' wpAnyH_take (i := 6) (v := .bool true) rfl (by kernel_rfl) (by kernel_rfl) (by kernel_rfl) (fun _ _ _ h => h) (Or.inl ⟨by rfl, fun w' hw' => by go_simp⟩) hHeld ?_
          try simp only [Act.put, List.getElem_toArray, List.getElem_cons_succ, List.getElem_cons_zero, List.setIfInBounds_toArray, List.set_cons_zero, List.set_cons_succ]
          refine' wpAnyH_take (i := 7) (v := .pointer (some ⟨cb, 0, none⟩)) rfl (by kernel_rfl) (by kernel_rfl) (by kernel_rfl) (fun _ _ _ h => h) (Or.inl ⟨by rfl, fun w' hw' => by go_simp⟩) hHeld ?_
          try simp only [Act.put, List.getElem_toArray, List.getElem_cons_succ, List.getElem_cons_zero, List.setIfInBounds_toArray, List.set_cons_zero, List.set_cons_succ]
          refine' wpAnyH_take (i := 10) (v := .pointer (some ⟨yx, 32, none⟩)) rfl (by kernel_rfl) (by kernel_rfl) (by kernel_rfl) (fun _ _ _ h => h) (Or.inl ⟨by rfl, fun w' hw' => by go_simp⟩) hHeld ?_
          try simp only [Act.put, List.getElem_toArray, List.getElem_cons_succ, List.getElem_cons_zero, List.setIfInBounds_toArray, List.set_cons_zero, List.set_cons_succ]
          refine' wpAnyH_take (i := 11) (v := .slice A6 N2 c6) rfl (by kernel_rfl) (by kernel_rfl) (by kernel_rfl) (fun _ _ _ h => h) (Or.inl ⟨by rfl, fun w' hw' => by have hv := hw'.2.1; go_simp⟩) hHeld ?_
          try simp only [Act.put, List.getElem_toArray, List.getElem_cons_succ, List.getElem_cons_zero, List.setIfInBounds_toArray, List.set_cons_zero, List.set_cons_succ]
          refine wpAnyH_ready (rs := [8]) (by kernel_rfl) (by simp) ?_
          refine AllReadyH.cons rfl (fun K hK => ?_) AllReadyH.nil
          go_simp
          (with_reducible refine (cG2 _ HW.out).mono ?_)
          rintro e6 w6 ⟨A9, c9, rfl, HR9, hb6⟩
          replace HW := hid (HW.out.trans (hb6.mono HW.out.size))
          refine hK.out _ _ (fS _ HW.out) (fun hHeld => ?_)
          clear hK K
          try simp only [Act.put, List.getElem_toArray, List.getElem_cons_succ, List.getElem_cons_zero, List.setIfInBounds_toArray, List.set_cons_zero, List.set_cons_succ]
          refine wpAnyH_ready (rs := [9]) (by kernel_rfl) (by simp) ?_
          refine AllReadyH.cons rfl (fun K hK => ?_) AllReadyH.nil
          go_simp
          (with_reducible refine (cP2 _ _ _ HR9.out).mono ?_)
          rintro e8 w8 ⟨A11, c11, rfl, HR11, hb8⟩
          replace HW := hid (HW.out.trans (hb8.mono HW.out.size))
          refine hK.out _ _ (fS _ HW.out) (fun hHeld => ?_)
          clear hK K
          try simp only [Act.put, List.getElem_toArray, List.getElem_cons_succ, List.getElem_cons_zero, List.setIfInBounds_toArray, List.set_cons_zero, List.set_cons_succ]
          refine wpAnyH_ready (rs := [12]) (by kernel_rfl) (by simp) ?_
          refine AllReadyH.cons rfl (fun K hK => ?_) AllReadyH.nil
          go_simp
          (with_reducible refine (cS2 _ _ _ _ _ HR11.out (HT2.out.below HW.out)).mono ?_)
          rintro e11 w11 ⟨rfl, hb11⟩
          replace HW := hid (HW.out.trans (hb11.mono HW.out.size))
          refine hK.out _ _ (fS _ HW.out) (fun hHeld => ?_)
          clear hK K
          try simp only [Act.put, List.getElem_toArray, List.getElem_cons_succ, List.getElem_cons_zero, List.setIfInBounds_toArray, List.set_cons_zero, List.set_cons_succ]
          refine' wpAnyH_take (i := 13) (v := .bool true) rfl (by kernel_rfl) (by kernel_rfl) (by kernel_rfl) (fun _ _ _ h => h) (Or.inl ⟨by rfl, fun w' hw' => by go_simp⟩) hHeld ?_
          try simp only [Act.put, List.getElem_toArray, List.getElem_cons_succ, List.getElem_cons_zero, List.setIfInBounds_toArray, List.set_cons_zero, List.set_cons_succ]
          refine' wpAnyH_take (i := 14) (v := .bool true) rfl (by kernel_rfl) (by kernel_rfl) (by kernel_rfl) (fun _ _ _ h => h) (Or.inl ⟨by rfl, fun w' hw' => by go_simp⟩) hHeld ?_
          try simp only [Act.put, List.getElem_toArray, List.getElem_cons_succ, List.getElem_cons_zero, List.setIfInBounds_toArray, List.set_cons_zero, List.set_cons_succ]
          refine' wpAnyH_take (i := 15) (v := .pointer (some ⟨cb, 0, none⟩)) rfl (by kernel_rfl) (by kernel_rfl) (by kernel_rfl) (fun _ _ _ h => h) (Or.inl ⟨by rfl, fun w' hw' => by go_simp⟩) hHeld ?_
          try simp only [Act.put, List.getElem_toArray, List.getElem_cons_succ, List.getElem_cons_zero, List.setIfInBounds_toArray, List.set_cons_zero, List.set_cons_succ]
          refine' wpAnyH_take (i := 17) (v := _) rfl (by kernel_rfl) (by kernel_rfl) (by kernel_rfl) (fun _ _ _ h => h) (yieldsIf_load_mid (by rfl) 23 _ rfl _ _ rfl (root.map u8v) _ (fun w' h => h.2.2) hu rfl hzr) hHeld ?_
          try simp only [Act.put, List.getElem_toArray, List.getElem_cons_succ, List.getElem_cons_zero, List.setIfInBounds_toArray, List.set_cons_zero, List.set_cons_succ]
          refine wpAnyH_ready (rs := [16]) (by kernel_rfl) (by simp) ?_
          refine AllReadyH.cons rfl (fun K hK => ?_) AllReadyH.nil
          go_simp
          (with_reducible refine (cO _ HW.out).mono ?_)
          rintro e12 w12 ⟨rfl, hb12⟩
          replace HW := hid (HW.out.trans (hb12.mono HW.out.size))
          refine hK.out _ _ (fS _ HW.out) (fun hHeld => ?_)
          clear hK K
          try simp only [Act.put, List.getElem_toArray, List.getElem_cons_succ, List.getElem_cons_zero, List.setIfInBounds_toArray, List.set_cons_zero, List.set_cons_succ]
          refine' wpAnyH_take (i := 18) (v := .bool true) rfl (by kernel_rfl) (by kernel_rfl) (by kernel_rfl) (fun _ _ _ h => h) (Or.inl ⟨by rfl, fun w' hw' => by have hv := heq w'; go_simp⟩) hHeld ?_
          try simp only [Act.put, List.getElem_toArray, List.getElem_cons_succ, List.getElem_cons_zero, List.setIfInBounds_toArray, List.set_cons_zero, List.set_cons_succ]
          refine' wpAnyH_take (i := 19) (v := .bool true) rfl (by kernel_rfl) (by kernel_rfl) (by kernel_rfl) (fun _ _ _ h => h) (Or.inl ⟨by rfl, fun w' hw' => by go_simp⟩) hHeld ?_
          try simp only [Act.put, List.getElem_toArray, List.getElem_cons_succ, List.getElem_cons_zero, List.setIfInBounds_toArray, List.set_cons_zero, List.set_cons_succ]
          refine' wpAnyH_take (i := 20) (v := .bool true) rfl (by kernel_rfl) (by kernel_rfl) (by kernel_rfl) (fun _ _ _ h => h) (Or.inl ⟨by rfl, fun w' hw' => by go_simp⟩) hHeld ?_
          try simp only [Act.put, List.getElem_toArray, List.getElem_cons_succ, List.getElem_cons_zero, List.setIfInBounds_toArray, List.set_cons_zero, List.set_cons_succ]
          refine wpAnyH_ready (rs := [21]) (by kernel_rfl) (by simp) ?_
          refine AllReadyH.cons rfl (fun K hK => ?_) AllReadyH.nil
          go_simp
          (with_reducible refine (awake19_any _).mono ?_)
          rintro e9 w9 ⟨rfl, hb9⟩
          replace HW := hid (HW.out.trans (hb9.mono HW.out.size))
          refine hK.out _ _ (fS _ HW.out) (fun hHeld => ?_)
          clear hK K
          try simp only [Act.put, List.getElem_toArray, List.getElem_cons_succ, List.getElem_cons_zero, List.setIfInBounds_toArray, List.set_cons_zero, List.set_cons_succ]
          refine' wpAnyH_take (i := 22) (v := .bool true) rfl (by kernel_rfl) (by kernel_rfl) (by kernel_rfl) (fun _ _ _ h => h) (Or.inl ⟨by rfl, fun w' hw' => by go_simp⟩) hHeld ?_
          try simp only [Act.put, List.getElem_toArray, List.getElem_cons_succ, List.getElem_cons_zero, List.setIfInBounds_toArray, List.set_cons_zero, List.set_cons_succ]
          refine' wpAnyH_take (i := 23) (v := .bool true) rfl (by kernel_rfl) (by kernel_rfl) (by kernel_rfl) (fun _ _ _ h => h) (Or.inl ⟨by rfl, fun w' hw' => by go_simp⟩) hHeld ?_
          try simp only [Act.put, List.getElem_toArray, List.getElem_cons_succ, List.getElem_cons_zero, List.setIfInBounds_toArray, List.set_cons_zero, List.set_cons_succ]
          refine wpAnyH_done (by kernel_rfl) ?_ _
          go_wp2
          go_ret
          exact ⟨rfl, hbw.trans (HW.out.mono hbw.size)⟩

theorem law_GrantClones (w : World) (root : List UInt8) (hR : root.length = 32) (A : Option Addr) (n c : Nat) (Xs : List AcV) (ha : AcRow w A n Xs) (B : Option Addr) (m d : Nat) (Ms : List AcV) (hb : AcRow w B m Ms) :
    Calls Try.prog 3 #[.agg (idVals root), .slice A n c, .slice B m d] w fun e w' => e = .returned (.bool true) ∧ Below w.heap.size w w' := by
  by_cases hN : 20 < n
  · exact gc_long1 root hR A n c Xs B m d Ms w ha hb hN
  · by_cases hM : 20 < m
    · exact gc_long2 root hR A n c Xs B m d Ms w ha hb hN hM
    · exact gc_yes root hR A n c Xs B m d Ms w ha hb hN hM

open Go.ChangeShapes Go.WideShapes Go.ChangeAt
open Go.ChangeMaps (open_string shut_string)
theorem own_GrantClones : ownKnob Try.prog.godebug = none := by kernel_rfl
theorem laidOut_GrantClones : laidOutB Try.prog = true := by kernel_rfl
set_option linter.unusedVariables false in
set_option maxRecDepth 100000 in
theorem lifted_GrantClones (os : Os) (started : os.Started) (H : Type) (enc : TypeId × Value → H) :
    ReturnsInHanded {} Try.checked os 3 .any (Rows.grantClonesSpec.pre6 enc Try.prog Try.f3 Rows.grantClonesRow.domain false) (Rows.grantClonesSpec.post enc Try.prog Try.f3 false true false false) := by
  refine returnsInHanded_of_change (C := Try.checked) own_GrantClones started (by kernel_rfl) Try.func3
    (ChangeSpec.witness6 (enc := enc) (C := Try.checked) false ⟨#[], #[.agg #[.int .u8 0, .int .u8 0, .int .u8 0, .int .u8 0, .int .u8 0, .int .u8 0, .int .u8 0, .int .u8 0, .int .u8 0, .int .u8 0, .int .u8 0, .int .u8 0, .int .u8 0, .int .u8 0, .int .u8 0, .int .u8 0, .int .u8 0, .int .u8 0, .int .u8 0, .int .u8 0, .int .u8 0, .int .u8 0, .int .u8 0, .int .u8 0, .int .u8 0, .int .u8 0, .int .u8 0, .int .u8 0, .int .u8 0, .int .u8 0, .int .u8 0, .int .u8 0], .slice none 0 0, .slice none 0 0], []⟩ 8 (by kernel_rfl) (by kernel_rfl) (by kernel_rfl) (by kernel_rfl)) ?_
  intro W base args ds gs before hval0 hW hcnd _
  have hval : ∀ (j : Nat) t v, Try.f3.params[j]? = some t → args[j]? = some v → Value.okWide Try.prog W .any base t v := hval0
  have hW' := hW
  obtain ⟨p, q, hA0, hV, rfl, hfz, hnd⟩ := hW
  have hA1 : DataW.TrodAll enc Try.prog W 0 (fun _ => true) true Try.f3.params.toList args.toList ds p := hA0
  have hA : DataW.TrodAll enc Try.prog W 0 (fun _ => true) true Try.f3.params.toList args.toList ds p := hA0
  rw [Try.params3] at hA hval
  obtain ⟨v0, vs0, d0, ds0, p0, q0, hargs, rfl, rfl, h0, r0⟩ := trodAll_cons hA
  obtain ⟨v1, vs1, d1, ds1, p1, q1, rfl, rfl, rfl, h1, r1⟩ := trodAll_cons r0
  obtain ⟨v2, vs2, d2, ds2, p2, q2, rfl, rfl, rfl, h2, r2⟩ := trodAll_cons r1
  obtain ⟨rfl, rfl, rfl⟩ := trodAll_nil r2
  obtain rfl : args = #[v0, v1, v2] := by cases args; simp_all
  obtain ⟨rfl, rfl⟩ := trodVars_none hV
  obtain ⟨a0, w0, rfl⟩ := open_id Try.underlying23 Try.underlying5 (by kernel_rfl) (by kernel_rfl) (hval 0 23 v0 rfl rfl) h0
  obtain ⟨A1, n1, c1, Xs1, rfl, y1⟩ := open_actRow (hval 1 24 v1 rfl rfl) h1
  obtain ⟨A2, n2, c2, Xs2, rfl, y2⟩ := open_actRow (hval 2 24 v2 rfl rfl) h2
  clear hA0 hval0
  refine (law_GrantClones W a0 w0 A1 n1 c1 Xs1 y1 A2 n2 c2 Xs2 y2).mono fun e W' ⟨he, bel⟩ => ?_
  subst he
  exact ⟨_, rfl, _, _, _, [], _, [], hW', trodAll_mk1 (shut_bool Try.underlying4 _), trodAll_stays laidOut_GrantClones bel (by kernel_rfl) hA1, rfl, bel.frame _, fun h => by cases h⟩

/-- The statement. -/
theorem GrantClones_holds : Rows.GrantClonesSaid :=
  OpenClaim.holds_of_wide 3 Try.f3 rfl rfl rfl rfl rfl rfl rfl ⟨rfl, rfl, rfl, rfl, rfl⟩ rfl rfl rfl rfl rfl (by kernel_rfl) Try.func3 (by kernel_rfl)
    (of_decide_eq_true (by kernel_rfl)) (by unfold Func.isWrapper; first | (rw [if_pos (by decide +kernel)]; kernel_rfl) | (rw [if_neg (by decide +kernel)]; exact ⟨rfl, rfl⟩))
    (fun os started H enc _ => lifted_GrantClones os started H enc)
#print axioms GrantClones_holds

end Go.Proofs.Ytdkeobpmenaljaa


/- Proved: for any root and any acts quitclaimlaw19.GrantHeld returns true and leaves its arguments as they were. No conditions. -/
import Derived.Test.YtplcfdmehnilnaaAw19
import Derived.Test.YtplcfdmehnilnaaRows
import Derived.ChangeShapes
import Derived.Deep.DeepCutAuto
set_option linter.unusedSimpArgs false
set_option linter.unusedVariables false
namespace Go.Proofs.Ytplcfdmehnilnaa
open Go.RowKit Go.Qc Go.Shelf
attribute [local go_sem] txt_size txt_append ib_fold txt_toL
/-- An act's box. -/
structure AcX (W : World) (g : Nat) (X : AcV) : Prop where
  b : Blk W g 52 X.cs
theorem AcX.below {W W' : World} {g : Nat} {X : AcV} (h : AcX W g X) (hb : Below W.heap.size W W') : AcX W' g X := ⟨h.b.below hb⟩
theorem AcX.by_ {W : World} {g : Nat} {X : AcV} (h : AcX W g X) : W.rangeAt g 0 (X.y.map u8v) := fun j u hj => h.b.cell_ (by
  rw [Nat.zero_add]
  unfold AcV.cs
  have := (List.getElem?_eq_some_iff.1 hj).1
  rw [Array.getElem?_append_left (by rw [idVals_size]; rwa [List.length_map] at this)]
  unfold idVals
  rw [List.getElem?_toArray]; exact hj)
theorem AcX.op_ {W : World} {g : Nat} {X : AcV} (h : AcX W g X) (hK : X.ok) : W.rangeAt g 32 (opC X.D X.A X.n X.c X.B X.m X.d).toList := fun j u hj => h.b.cell_ (by
  unfold AcV.cs AcV.op
  rw [Array.getElem?_append_right (by rw [idVals_size, hK.1]; omega), idVals_size, hK.1, Nat.add_sub_cancel_left, ← Array.getElem?_toList]; exact hj)
theorem wpList_load_acr {w : World} {ops : Array Oper} {rest : List Oper} {o : Oper} {a : Act} {Q : Exit → Act → World → Prop} (hgd : Region.wanted o (yielded ops a.tmps) = true) (x : Operand) (ho : o.op = .load 52 x)
    (g q : Nat) {X : AcV} (hx : a.eval x = .pointer (some ⟨g, q, none⟩)) (hr : w.rangeAt g q X.cs.toList) (hK : X.ok)
    (h : wpList Try.prog ops Q rest (a.put o.dst (.agg X.cs)) w) : wpList Try.prog ops Q (o :: rest) a w := by
  refine wpList_load_if hgd 52 x ho g q hx X.cs.toList _ hr Try.underlying52 rfl ?_ ?_
  · rw [Ac_info X hK, Array.length_toList]
  · rw [Array.toArray_toList]; exact h
theorem wpList_store_acn {w : World} {ops : Array Oper} {rest : List Oper} {o : Oper} {a : Act} {Q : Exit → Act → World → Prop} {old : Array Value} (hgd : o.guard = none) (x y : Operand) (ho : o.op = .store 52 x y)
    {X : AcV} (hx : a.eval x = .pointer (some ⟨w.heap.size, 0, none⟩)) (hy : a.eval y = .agg X.cs) (hK : X.ok) (hs : old.size = 71)
    (h : wpList Try.prog ops Q rest (a.put o.dst undef) (w.alloc (.cells X.cs 52))) : wpList Try.prog ops Q (o :: rest) a (w.alloc (.cells old 52)) :=
  wpList_store_new hgd 52 x y ho X.cs hx hy (Ac_info X hK) (by rw [AcV.size hK, hs]) X.one h
theorem wpList_load_opG {ops : Array Oper} {rest : List Oper} {o : Oper} {a : Act} {w : World} {Q : Exit → Act → World → Prop} (hw : Region.wanted o (yielded ops a.tmps) = true) (x : Operand) (ho : o.op = .load 50 x)
    (g q : Nat) (hx : a.eval x = .pointer (some ⟨g, q, none⟩)) {D : OpD} {A : Option Addr} {n c : Nat} {B : Option Addr} {m d : Nat} (hX : w.rangeAt g q (opC D A n c B m d).toList) (hK : D.K.length = 32)
    (h : wpList Try.prog ops Q rest (a.put o.dst (.agg (opC D A n c B m d))) w) : wpList Try.prog ops Q (o :: rest) a w := by
  refine wpList_load_if hw 50 x ho g q hx (opC D A n c B m d).toList _ hX Try.underlying50 rfl ?_ ?_
  · rw [infoOp, Array.length_toList, opC_size _ _ _ _ _ _ _ hK]
  · rw [Array.toArray_toList]; exact h
theorem lngG_bounds {D : OpD} (h : lngO D = false) : D.o.length ≤ 40 ∧ D.n.length ≤ 40 := by
  unfold lngO at h
  simp only [Bool.or_eq_false_iff, decide_eq_false_iff_not] at h
  omega
theorem keep_start (root : List UInt8) : KeepG root [] := ⟨fun _ h => by simp at h, fun _ h => by simp at h, by simp⟩
set_option maxRecDepth 100000 in
set_option maxHeartbeats 20000000 in
theorem gh_long (root : List UInt8) (hR : root.length = 32) (A : Option Addr) (n c : Nat) (Xs : List AcV) (w : World) (ha : AcRow w A n Xs) (hN : 30 < n) :
    Calls Try.prog 4 #[.agg (idVals root), .slice A n c] w fun e w' => e = .returned (.bool true) ∧ Below w.heap.size w w' := by
  have hba := (Below.refl w.heap.size w).alloc (Nat.le_refl _) (.cells (idVals root) 45)
  have z1 : (30 : Int) < n := by omega
  clear ha
  go_enter Try.func4, Try.ntmps4
  go_wp2_with (fail)
  refine (awake19_any _).mono ?_
  rintro e9 w9 ⟨rfl, hb9⟩
  go_wp2_with (fail)
  go_ret
  exact ⟨rfl, hba.trans (hb9.mono hba.size)⟩

set_option maxRecDepth 100000 in
set_option maxHeartbeats 20000000 in
theorem gh_yes (root : List UInt8) (hR : root.length = 32) (A : Option Addr) (n c : Nat) (Xs : List AcV) (w : World) (ha : AcRow w A n Xs) (hN : ¬ 30 < n) :
    Calls Try.prog 4 #[.agg (idVals root), .slice A n c] w fun e w' => e = .returned (.bool true) ∧ Below w.heap.size w w' := by
  have hka := Blk.new w 45 (idVals root)
  have hba := (Below.refl w.heap.size w).alloc (Nat.le_refl _) (.cells (idVals root) 45)
  have z1 : ¬ (30 : Int) < n := by omega
  have z2 : n ≤ 30 := by omega
  have hu := Try.underlying45
  have hzr : (Try.prog.info? 45).map (·.size) = some (root.map u8v).length := by rw [List.length_map, hR]; exact sizeId
  have hr0 := range_blk hka
  have cN : ∀ W : World, Calls Try.prog 17 #[.agg (List.map u8v root).toArray] W fun e w' => ∃ tb, e = .returned (.pointer (some ⟨tb, 0, none⟩)) ∧ W.heap.size ≤ tb ∧ TbS w' tb root [] ∧ Below W.heap.size W w' := fun W => gnew_any root hR W
  have HA := hid ha
  clear ha
  go_enter Try.func4, Try.ntmps4
  go_wp2_with (first | (with_reducible refine wpList_load_if (by with_unfolding_all rfl) 45 _ rfl _ _ rfl (root.map u8v) _ hr0 hu rfl hzr ?_))
  refine (cN _).mono ?_
  rintro e1 w1 ⟨tb, rfl, htb, hT, hb1⟩
  have htb2 : w.heap.size < tb := by have := hka.lt; omega
  have hX1 := hba.trans (hb1.mono hba.size)
  have hk1 := hka.below hb1
  clear hb1 hba hka hr0 cN htb
  go_wp2_with (fail)
  go_loopw [20] (fun i wr => ∃ (k : Nat) (Ys : List GrD), k ≤ n ∧ i = .int .i64 k ∧ Hid (TbS wr tb root Ys) ∧ Hid (KeepG root Ys) ∧ Hid (Blk wr w.heap.size 45 (idVals root)) ∧ Below w.heap.size w wr) (fun i _ => n - (intOf i).toNat)
  case atStart => exact ⟨0, [], by omega, rfl, hid hT, hid (keep_start root), hid hk1, hX1⟩
  case round =>
    clear hT hk1 hX1
    obtain ⟨k, Ys, hk, rfl, HT, HK, HB, hb⟩ := hrel
    by_cases hlt : k < n
    · obtain ⟨X, hXk⟩ : ∃ X, Xs[k]? = some X := ⟨_, List.getElem?_eq_getElem (by have := HA.out.1; omega)⟩
      obtain ⟨g, q, hg, hgl, hok, hix⟩ := AcRd.pick c HA.out.2.2.1 HA.out.1 hXk
      obtain ⟨_, q1, q2, q3, q4⟩ := HA.out.2.2.2 X (List.mem_of_getElem? hXk)
      have fX := hg.below hb
      have hokK : X.D.K.length = 32 := hok.2
      have c1 : (k : Int) < n := by omega
      have hnw : AcX (wr.alloc (.cells X.cs 52)) wr.heap.size X := ⟨Blk.new _ _ _⟩
      have hal := (Below.refl wr.heap.size wr).alloc (Nat.le_refl _) (.cells X.cs 52)
      have hbX := hb.trans (hal.mono hb.size)
      have fO := hnw.op_ hok
      have cL := rlong13_any X.D hok.2 X.A X.n X.c q1.1 q1.2.1 X.B X.m X.d q2.1 q2.2.1 q3 q4 (wr.alloc (.cells X.cs 52)) (q1.2.2.below hbX) (q2.2.2.below hbX)
      have Q1 := hid q1
      have Q2 := hid q2
      clear hXk hg q1 q2 q3 q4 hgl
      cases hl : lngO X.D with
      | true =>
        rw [hl] at cL
        clear hl
        go_wp2_with (first
          | (with_reducible refine wpList_load_acr (by with_unfolding_all rfl) _ rfl _ _ rfl fX hok ?_)
          | (with_reducible refine wpList_store_acn rfl _ _ rfl rfl rfl hok (by with_unfolding_all rfl) ?_)
          | (with_reducible refine wpList_load_opG (by with_unfolding_all rfl) _ rfl _ _ rfl fO hokK ?_)
          | (go_at_call 18; (with_reducible refine cL.mono ?_); rintro e4 w4 ⟨rfl, hb4⟩)
          | (go_at_call 16; (with_reducible refine (awake19_any _).mono ?_); rintro e9 w9 ⟨rfl, hb9⟩))
        go_ret
        have hb5 := hbX.trans (hb4.mono hbX.size)
        exact ⟨rfl, hb5.trans (hb9.mono hb5.size)⟩
      | false =>
        rw [hl] at cL
        have HBD := hid (lngG_bounds hl)
        clear hl
        have cA : ∀ W : World, Below (wr.alloc (.cells X.cs 52)).heap.size (wr.alloc (.cells X.cs 52)) W → Calls Try.prog 19 #[.pointer (some ⟨tb, 0, none⟩), .agg (List.map u8v X.y).toArray, .agg (opC X.D X.A X.n X.c X.B X.m X.d)] W fun e w' => ∃ r, e = .returned (.int .i64 r) ∧ TbS w' tb root (nextG root Ys X.y X.D) ∧ W.grownBy w' (some tb) := fun W hW => by
          have hW2 := hbX.trans (hW.mono hbX.size)
          exact (gapply_any X.D hok.2 X.A X.n X.c X.B X.m X.d Q1.out.1 (by have := HBD.out.1; have := Q1.out.1; omega) Q2.out.1 (by have := HBD.out.2; have := Q2.out.1; omega) root hR tb Ys (by have := HK.out.len; omega) X.y hok.1 W ((HT.out.below hal).below hW) (Q1.out.2.2.below hW2) (Q2.out.2.2.below hW2)).mono (fun e w' h => ⟨_, h⟩)
        have HKN := hid (keep_next X.y X.D HK.out)
        generalize nextG root Ys X.y X.D = Zs at *
        have cG : ∀ (W : World), TbS W tb root Zs → Calls Try.prog 20 #[.pointer (some ⟨tb, 0, none⟩)] W fun e w' => ∃ A2 c2, e = .returned (.slice A2 Zs.length c2) ∧ Hid (GrRd w' A2 Zs) ∧ Below W.heap.size W w' := fun W h => by
          refine (ggrants_any tb root hR Zs (by have := HKN.out.len; omega) W h).mono ?_
          rintro e w' ⟨v, rfl, hown, hb⟩
          obtain ⟨A2, c2, rfl, _, _, _, hrd⟩ := hown.rd h.ok
          exact ⟨A2, c2, rfl, hid hrd, hb⟩
        have hb0 := HB.out.below hal
        have fY0 := hnw.by_
        have hzy : (Try.prog.info? 45).map (·.size) = some (X.y.map u8v).length := by rw [List.length_map, hok.1]; exact sizeId
        clear Q1 Q2 HBD HK HT HB
        go_wp2_with (first
          | (with_reducible refine wpList_load_acr (by with_unfolding_all rfl) _ rfl _ _ rfl fX hok ?_)
          | (with_reducible refine wpList_store_acn rfl _ _ rfl rfl rfl hok (by with_unfolding_all rfl) ?_)
          | (with_reducible refine wpList_load_opG (by with_unfolding_all rfl) _ rfl _ _ rfl fO hokK ?_)
          | (with_reducible refine wpList_load_if (by with_unfolding_all rfl) 45 _ rfl _ _ rfl (X.y.map u8v) _ fY0 hu rfl hzy ?_)
          | (go_at_call 18; (with_reducible refine cL.mono ?_); rintro e4 w4 ⟨rfl, hb4⟩; replace fY0 := fY0.below hb4; replace fO := fO.below hb4; replace hb0 := hb0.below hb4; have hb5 := hbX.trans (hb4.mono hbX.size))
          | (go_at_call 19; (with_reducible refine (cA _ hb4).mono ?_); rintro e6 w6 ⟨r6, rfl, hT6, hg6⟩)
          | (go_at_call 20; (with_reducible refine (cG _ hT6).mono ?_); rintro e7 w7 ⟨A7, c7, rfl, HR7, hb7⟩))
        have hb6 := below_grownS hb5 hg6 (by omega)
        have hb8 := hb6.trans (hb7.mono hb6.size)
        have hk7 := (blk_grown hb0 hg6 (by omega)).below hb7
        have hT7 := hT6.below hb7
        clear fX fO fY0 hnw hal hbX cL cA cG hb4 hb5 hg6 hT6 hb7 hb6 hb0 hb hix
        have HT7 := hid hT7
        have HK7 := hid hk7
        obtain ⟨N, hN9⟩ : ∃ N, Zs.length = N := ⟨_, rfl⟩
        have HN := hid hN9
        rw [hN9]
        clear hT7 hk7 hN9
        go_loopw [37] (fun i wr => ∃ j : Nat, j ≤ N ∧ i = .int .i64 j ∧ Below w7.heap.size w7 wr) (fun i _ => N - (intOf i).toNat)
        case atStart => exact ⟨0, by omega, rfl, Below.refl _ _⟩
        case round =>
          obtain ⟨j, hj, rfl, hb⟩ := hrel
          by_cases hlt2 : j < N
          · obtain ⟨Z, hZk⟩ : ∃ Z, Zs[j]? = some Z := ⟨_, List.getElem?_eq_getElem (by have := HN.out; omega)⟩
            obtain ⟨g2, q2, hg2, hZo, hix2⟩ := HR7.out.pick c7 HN.out hZk
            have hzlt := HKN.out.held Z (List.mem_of_getElem? hZk)
            have hZP := HKN.out.pre Z (List.mem_of_getElem? hZk)
            have hlen : Zs.length ≤ 1000 := by have := HKN.out.len; omega
            have c2 : (j : Int) < N := by omega
            have hw8 : wrap64 ((j : Int) + 1) = (j : Int) + 1 := by have := HN.out; unfold wrap64; omega
            have HLT := hid (show j + 1 ≤ N from hlt2)
            have fZ := hg2.below hb
            have hnz := GrX.new wr Z
            have haz := (Below.refl wr.heap.size wr).alloc (Nat.le_refl _) (.cells Z.cs 58)
            have hbz := hb.trans (haz.mono hb.size)
            have hT2 := (HT7.out.below hb).below haz
            have hk2 := range_blk ((HK7.out.below hb).below haz)
            have hn33 := hnz.by_ hZo
            have hzb : (Try.prog.info? 45).map (·.size) = some (Z.b.map u8v).length := by rw [List.length_map, hZo.2]; exact sizeId
            obtain ⟨t, hte⟩ : ∃ t, decide (Z.b = root) = t := ⟨_, rfl⟩
            have heq : ∀ W, (Op.equalIn 10000 45 (.agg (List.map u8v Z.b).toArray) (.agg (List.map u8v root).toArray)).run Try.prog W = .ok t W := fun W => (ids_eq W Z.b root hZo.2 hR).trans (by rw [hte])
            obtain ⟨z, hz⟩ : ∃ z, depV root Zs Z.b Z.p = z := ⟨_, rfl⟩
            rw [hz] at hzlt
            have c3 : ¬ z ≤ Z.d := by omega
            have c4 : decide (z ≤ Z.d) = false := decide_eq_false c3
            have cD0 := fun (W : World) (h : TbS W tb root Zs) => gdepthX_any tb root hR Zs hlen Z.b hZo.2 Z.p hZP W h
            rw [hz] at cD0
            unfold idVals at cD0
            have HBZ := hid hbz
            have HB2 := hid hb
            clear hZk hg2 hte hz hlen hZP hzlt hbz hlt2 hb
            go_wp2_with (first
              | (with_reducible refine wpList_load_grr (by with_unfolding_all rfl) _ rfl _ _ rfl fZ hZo ?_)
              | (with_reducible refine wpList_store_grn rfl _ _ rfl rfl rfl hZo (by with_unfolding_all rfl) ?_))
            have f3 : ∀ P : LaterW (wr.alloc (.cells Z.cs 58)), P.w.cell? ⟨wr.heap.size, 0, none⟩ = some (.string (txt Z.p)) := fun P => (hnz.below P.h).c0
            have f4 : ∀ P : LaterW (wr.alloc (.cells Z.cs 58)), P.w.cell? ⟨wr.heap.size, 65, none⟩ = some (.int .i64 Z.d) := fun P => (hnz.below P.h).c65 hZo
            have fb := range_later hn33
            have fr := range_later hk2
            have cD := fun P : LaterW (wr.alloc (.cells Z.cs 58)) => cD0 P.w (hT2.below P.h)
            cases t with
            | true =>
              refine wp_region_later mixed10 (by kernel_rfl) ?_
              repeat (first
                | ((with_reducible refine wpQuiet_load_if (by with_unfolding_all rfl) 45 _ rfl _ _ rfl (Z.b.map u8v) _ fb hu (by with_unfolding_all rfl) hzb ?_); simp only [Act.put, List.setIfInBounds_toArray, List.set_cons_zero, List.set_cons_succ])
                | ((with_reducible refine wpQuiet_load_if (by with_unfolding_all rfl) 45 _ rfl _ _ rfl (root.map u8v) _ fr hu (by with_unfolding_all rfl) hzr ?_); simp only [Act.put, List.setIfInBounds_toArray, List.set_cons_zero, List.set_cons_succ])
                | ((with_reducible refine wpQuiet_step (fun K hK => ?_)); go_simp; first | ((with_reducible refine hK _ ?_); clear hK K) | (with_reducible apply Exists.intro; (with_reducible refine ⟨fun P => ?_, hK _ ?_⟩); ((go_at_call 21; exact later_of (cD P))); clear hK K))
                | ((with_reducible refine BigFrame.wpQuiet_skip (by first | kernel_rfl | with_unfolding_all rfl) ?_); simp only [Act.put, List.setIfInBounds_toArray, List.set_cons_zero, List.set_cons_succ]))
              with_reducible refine wpQuiet_nil ?_
              intro _ hw9
              obtain ⟨P9, rfl⟩ := hw9
              have hb9 := HBZ.out.trans (P9.h.mono HBZ.out.size)
              generalize P9.w = w8 at *
              go_wp2
              go_roundw
              case rel => exact ⟨j + 1, HLT.out, by go_num, hb9⟩
              case measure => rw [hw8]; exact meas_k1 HLT.out
            | false =>
              refine wp_region_later mixed10 (by kernel_rfl) ?_
              repeat (first
                | ((with_reducible refine wpQuiet_load_if (by with_unfolding_all rfl) 45 _ rfl _ _ rfl (Z.b.map u8v) _ fb hu (by with_unfolding_all rfl) hzb ?_); simp only [Act.put, List.setIfInBounds_toArray, List.set_cons_zero, List.set_cons_succ])
                | ((with_reducible refine wpQuiet_load_if (by with_unfolding_all rfl) 45 _ rfl _ _ rfl (root.map u8v) _ fr hu (by with_unfolding_all rfl) hzr ?_); simp only [Act.put, List.setIfInBounds_toArray, List.set_cons_zero, List.set_cons_succ])
                | ((with_reducible refine wpQuiet_step (fun K hK => ?_)); go_simp; first | ((with_reducible refine hK _ ?_); clear hK K) | (with_reducible apply Exists.intro; (with_reducible refine ⟨fun P => ?_, hK _ ?_⟩); ((go_at_call 21; exact later_of (cD P))); clear hK K))
                | ((with_reducible refine BigFrame.wpQuiet_skip (by first | kernel_rfl | with_unfolding_all rfl) ?_); simp only [Act.put, List.setIfInBounds_toArray, List.set_cons_zero, List.set_cons_succ]))
              with_reducible refine wpQuiet_nil ?_
              intro _ hw9
              obtain ⟨P9, rfl⟩ := hw9
              have hb9 := HBZ.out.trans (P9.h.mono HBZ.out.size)
              generalize P9.w = w8 at *
              go_wp2
              go_roundw
              case rel => exact ⟨j + 1, HLT.out, by go_num, hb9⟩
              case measure => rw [hw8]; exact meas_k1 HLT.out
          · obtain rfl : j = N := by omega
            have c2 : ¬ (j : Int) < j := by omega
            have HLK := hid (show k + 1 ≤ n from hlt)
            have HB9 := hid (hb8.trans (hb.mono hb8.size))
            have HT9 := hid (HT7.out.below hb)
            have HK9 := hid (HK7.out.below hb)
            clear hb hb8
            go_wp2
            go_roundw
            case rel => exact ⟨k + 1, Zs, HLK.out, by go_num, HT9, HKN, HK9, HB9.out⟩
            case measure => exact meas_k1 HLK.out
    · obtain rfl : k = n := by omega
      have c1 : ¬ (k : Int) < k := by omega
      go_wp2_with (first | (go_at_call 16; (with_reducible refine (awake19_any _).mono ?_); rintro e9 w9 ⟨rfl, hb9⟩))
      go_ret
      exact ⟨rfl, hb.trans (hb9.mono hb.size)⟩

theorem law_GrantHeld (w : World) (root : List UInt8) (hR : root.length = 32) (A : Option Addr) (n c : Nat) (Xs : List AcV) (ha : AcRow w A n Xs) :
    Calls Try.prog 4 #[.agg (idVals root), .slice A n c] w fun e w' => e = .returned (.bool true) ∧ Below w.heap.size w w' := by
  by_cases hN : 30 < n
  · exact gh_long root hR A n c Xs w ha hN
  · exact gh_yes root hR A n c Xs w ha hN

open Go.ChangeShapes Go.WideShapes Go.ChangeAt
open Go.ChangeMaps (open_string shut_string)
theorem own_GrantHeld : ownKnob Try.prog.godebug = none := by kernel_rfl
theorem laidOut_GrantHeld : laidOutB Try.prog = true := by kernel_rfl
set_option linter.unusedVariables false in
set_option maxRecDepth 100000 in
theorem lifted_GrantHeld (os : Os) (started : os.Started) (H : Type) (enc : TypeId × Value → H) :
    ReturnsInHanded {} Try.checked os 4 .any (Rows.grantHeldSpec.pre6 enc Try.prog Try.f4 Rows.grantHeldRow.domain false) (Rows.grantHeldSpec.post enc Try.prog Try.f4 false true false false) := by
  refine returnsInHanded_of_change (C := Try.checked) own_GrantHeld started (by kernel_rfl) Try.func4
    (ChangeSpec.witness6 (enc := enc) (C := Try.checked) false ⟨#[], #[.agg #[.int .u8 0, .int .u8 0, .int .u8 0, .int .u8 0, .int .u8 0, .int .u8 0, .int .u8 0, .int .u8 0, .int .u8 0, .int .u8 0, .int .u8 0, .int .u8 0, .int .u8 0, .int .u8 0, .int .u8 0, .int .u8 0, .int .u8 0, .int .u8 0, .int .u8 0, .int .u8 0, .int .u8 0, .int .u8 0, .int .u8 0, .int .u8 0, .int .u8 0, .int .u8 0, .int .u8 0, .int .u8 0, .int .u8 0, .int .u8 0, .int .u8 0, .int .u8 0], .slice none 0 0], []⟩ 8 (by kernel_rfl) (by kernel_rfl) (by kernel_rfl) (by kernel_rfl)) ?_
  intro W base args ds gs before hval0 hW hcnd _
  have hval : ∀ (j : Nat) t v, Try.f4.params[j]? = some t → args[j]? = some v → Value.okWide Try.prog W .any base t v := hval0
  have hW' := hW
  obtain ⟨p, q, hA0, hV, rfl, hfz, hnd⟩ := hW
  have hA1 : DataW.TrodAll enc Try.prog W 0 (fun _ => true) true Try.f4.params.toList args.toList ds p := hA0
  have hA : DataW.TrodAll enc Try.prog W 0 (fun _ => true) true Try.f4.params.toList args.toList ds p := hA0
  rw [Try.params4] at hA hval
  obtain ⟨v0, vs0, d0, ds0, p0, q0, hargs, rfl, rfl, h0, r0⟩ := trodAll_cons hA
  obtain ⟨v1, vs1, d1, ds1, p1, q1, rfl, rfl, rfl, h1, r1⟩ := trodAll_cons r0
  obtain ⟨rfl, rfl, rfl⟩ := trodAll_nil r1
  obtain rfl : args = #[v0, v1] := by cases args; simp_all
  obtain ⟨rfl, rfl⟩ := trodVars_none hV
  obtain ⟨a0, w0, rfl⟩ := open_id Try.underlying45 Try.underlying5 (by kernel_rfl) (by kernel_rfl) (hval 0 45 v0 rfl rfl) h0
  obtain ⟨A1, n1, c1, Xs1, rfl, y1⟩ := open_actRow (hval 1 46 v1 rfl rfl) h1
  clear hA0 hval0
  refine (law_GrantHeld W a0 w0 A1 n1 c1 Xs1 y1).mono fun e W' ⟨he, bel⟩ => ?_
  subst he
  exact ⟨_, rfl, _, _, _, [], _, [], hW', trodAll_mk1 (shut_bool Try.underlying4 _), trodAll_stays laidOut_GrantHeld bel (by kernel_rfl) hA1, rfl, bel.frame _, fun h => by cases h⟩

/-- The statement. -/
theorem GrantHeld_holds : Rows.GrantHeldSaid :=
  OpenClaim.holds_of_wide 4 Try.f4 rfl rfl rfl rfl rfl rfl rfl ⟨rfl, rfl, rfl, rfl, rfl⟩ rfl rfl rfl rfl rfl (by kernel_rfl) Try.func4 (by kernel_rfl)
    (of_decide_eq_true (by kernel_rfl)) (by unfold Func.isWrapper; first | (rw [if_pos (by decide +kernel)]; kernel_rfl) | (rw [if_neg (by decide +kernel)]; exact ⟨rfl, rfl⟩))
    (fun os started H enc _ => lifted_GrantHeld os started H enc)
#print axioms GrantHeld_holds

end Go.Proofs.Ytplcfdmehnilnaa

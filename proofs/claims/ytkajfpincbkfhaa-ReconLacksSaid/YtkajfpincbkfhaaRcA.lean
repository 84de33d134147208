
/- recon: a row without some ids, summaries, Lack of one, the chapter's example -/
import Derived.Test.YtkajfpincbkfhaaMkB
import Derived.Test.YtkajfpincbkfhaaGs4
import Derived.Test.YtkajfpincbkfhaaId10
set_option linter.unusedSimpArgs false
set_option linter.unusedVariables false
namespace Go.Proofs.Ytkajfpincbkfhaa
open Go.RowKit Go.Qc Go.Shelf
attribute [local go_sem] txt_size txt_append ib_fold
/-- A row without some ids; its sum. -/
def minL (l r : List (List UInt8)) : List (List UInt8) := l.filter (fun x => decide (x ∈ r) == false)
def sumL (l : List (List UInt8)) : List UInt8 := wholeM (l.length : Int) (rootM l)
def woB (l r : List (List UInt8)) : List UInt8 := sumL (minL l r)
theorem sumL_length (l : List (List UInt8)) : (sumL l).length = 32 := tagB_length _ _
theorem rising_steps {l : List (List UInt8)} (h : Rising l) : Steps l l.length := fun i x y hi hx hy => by
  have h9 : Lt x y := rising_get h (show i < i + 1 by omega) hx hy
  unfold ltB
  exact decide_eq_true h9
theorem minL_rising {l : List (List UInt8)} (r : List (List UInt8)) (h : Rising l) : Rising (minL l r) := h.filter _
theorem minL_length (l r : List (List UInt8)) : (minL l r).length ≤ l.length := List.length_filter_le _ _
theorem minL_32 {l : List (List UInt8)} (r : List (List UInt8)) (h : ∀ a ∈ l, a.length = 32) : ∀ a ∈ minL l r, a.length = 32 := fun a ha => h a (List.mem_filter.1 ha).1
theorem RowC.at {w : World} {A : Option Addr} {n c : Nat} {l : List (List UInt8)} (h : RowC w A n c l) : RowAt w A n c l := by
  obtain ⟨⟨h1, h2, h3⟩, hc⟩ := h
  rcases hc with ⟨_, rfl, rfl⟩ | ⟨_, h4, h5⟩
  · exact ⟨h1, Nat.le_refl _, by unfold maxLen; omega, h2, h3⟩
  · exact ⟨h1, h4, h5, h2, h3⟩
theorem own_rowC {w : World} {base n : Nat} {v : Value} {l : List (List UInt8)} (h : w.ownsRow base 24 32 v n (idsV l)) (h32 : ∀ a ∈ l, a.length = 32) (hn : n ≤ 1000000) : ∃ A c, v = .slice A n c ∧ RowC w A n c l := by
  obtain ⟨A, c, rfl, hr⟩ := RowAt.own h h32 hn
  refine ⟨A, c, rfl, hr.r, ?_⟩
  rcases h.2 with ⟨e, h0⟩ | ⟨g, cap, cur, e, _, _, h3, h4, _⟩
  · cases e; exact .inl ⟨rfl, rfl, rfl⟩
  · cases e; exact .inr ⟨⟨_, rfl⟩, h3, h4⟩
set_option maxRecDepth 100000 in
set_option maxHeartbeats 8000000 in
theorem without_any (A B : Option Addr) (n c m d : Nat) (l r : List (List UInt8)) (w : World) (hA : RowC w A n c l) (hs : Steps l n) (hB : RowAt w B m d r) (hr : Rising r) :
    Calls Try.prog 119 #[.slice A n c, .slice B m d] w fun e w' => e = .returned (.agg (idVals (woB l r))) ∧ Below w.heap.size w w' := by
  have hl : Rising l := steps_rising l (by rw [hA.1.1]; exact hs)
  have hn6 := hA.1.2.1
  have hlen := hA.1.1
  have h32 := hA.1.2.2.1
  have cM : ∀ W, RowAt W A n c l → RowAt W B m d r → Calls Try.prog 141 #[.slice A n c, .slice B m d] W fun e w' => ∃ A' c', e = .returned (.slice A' (minL l r).length c') ∧ RowC w' A' (minL l r).length c' (minL l r) ∧ Below W.heap.size W w' := fun W h1 h2 => by
    refine (minus_any A B n c m d l r W h1 h2).mono ?_
    rintro e w' ⟨v, rfl, ho, hb⟩
    rw [merge_minus hl hr] at ho
    obtain ⟨A', c', rfl, hq⟩ := own_rowC (l := minL l r) ho (minL_32 r h32) (show (minL l r).length ≤ 1000000 by have := minL_length l r; omega)
    exact ⟨A', c', rfl, hq, hb⟩
  have cS : ∀ W A' c', RowC W A' (minL l r).length c' (minL l r) → Calls Try.prog 12 #[.slice A' (minL l r).length c'] W fun e w' => e = .returned (.tuple #[.agg (idVals (woB l r)), .int .i64 0]) ∧ Below W.heap.size W w' := fun W A' c' h1 => msum_yes A' _ c' _ W h1 (rising_steps (minL_rising r hl))
  have hSl : (woB l r).length = 32 := sumL_length _
  have hrA := hA.at
  clear hA hs hr hl h32 hlen
  generalize woB l r = S at *
  generalize minL l r = M at *
  generalize M.length = ML at *
  have hu := Try.underlying24
  have hzi : (Try.prog.info? 24).map (·.size) = some (idVals S).size := by rw [idVals_size, hSl]; exact sizeId
  have hzs : (Try.prog.info? 24).map (·.size) = some (S.map u8v).length := by rw [List.length_map, hSl]; exact sizeId
  have h1c := idVals_one S
  go_enter Try.func119, Try.ntmps119
  go_upto_region 1 with (fail)
  generalize hZ : (Obj.cells _ 24) = Z
  obtain ⟨zc, rfl, hzc⟩ : ∃ zc : Array Value, Z = Obj.cells zc 24 ∧ zc.size = 32 := ⟨_, hZ.symm, rfl⟩
  clear hZ
  have hz := Blk.new w 24 zc
  have hb := (Below.refl w.heap.size w).alloc (Nat.le_refl _) (.cells zc 24)
  have hzq : zc.size = (idVals S).size := by rw [hzc, idVals_size, hSl]
  have hrA1 := hrA.below hb
  have hrB1 := hB.below hb
  generalize w.alloc (.cells zc 24) = w1 at *
  go_upto_region 2 with (first
    | (go_at_call 141; (with_reducible refine (cM _ hrA1 hrB1).mono ?_); rintro e2 w2 ⟨A2, c2, rfl, hr2, hb2⟩; replace hz := hz.below hb2; replace hb := hb.trans (hb2.mono hb.size))
    | (go_at_call 12; (with_reducible refine (cS _ _ _ hr2).mono ?_); rintro e3 w3 ⟨rfl, hb3⟩; replace hz := hz.below hb3; replace hb := hb.trans (hb3.mono hb.size))
    | ((with_reducible refine wpList_store_newid rfl _ _ rfl S hSl rfl rfl (by with_unfolding_all rfl) ?_); intro w4 hx4 hb4))
  replace hz := hz.below hb4
  replace hb := hb.trans (hb4.mono hb.size)
  generalize w3.heap.size = gS at *
  clear hb4
  go_wp2_with (first
    | (with_reducible refine wpList_load_if (by with_unfolding_all rfl) 24 _ rfl _ _ rfl (S.map u8v) _ hx4 hu rfl hzs ?_)
    | ((with_reducible refine wpList_store_blk rfl 24 _ _ rfl w.heap.size zc (idVals S) 24 hz rfl rfl hzi hzq h1c ?_); intro w9 hB9 hg9))
  have hb9 := below_grownM hb hg9
  unfold idVals at hB9 ⊢
  refine bodyPost_ret (ret_idM rfl _ _ _ S hSl rfl hB9) rfl ⟨rfl, hb9⟩
theorem guard_cz (op : BinOp) (t : TypeId) (a b : Operand) (x y : Int × Int) (W : World) : (eqGuard op t a b (cz x) (cz y)).run Try.prog W = .ok () W := by
  unfold eqGuard cz
  cases op <;> rfl
/-- May an id lack, by a product and a sum? -/
def oneB (l : List (List UInt8)) (P : Int × Int) (s x : List UInt8) : Bool := decide (idZ x = P) && decide (woB l [x] = s)
/-- What one answers. -/
def OneQ (l : List (List UInt8)) (P : Int × Int) (s : List UInt8) (w : World) (e : Ending) (w' : World) : Prop :=
  ((∃ (k : Nat) (a : List UInt8) (A : Option Addr) (c : Nat), l[k]? = some a ∧ oneB l P s a = true ∧ (∀ j x, j < k → l[j]? = some x → oneB l P s x = false) ∧ e = .returned (.tuple #[.slice A 1 c, .bool true]) ∧ RowC w' A 1 c [a]) ∨
   ((∀ x ∈ l, oneB l P s x = false) ∧ e = .returned (.tuple #[.slice none 0 0, .bool false]))) ∧ Below w.heap.size w w'
theorem wpList_build1i {w : World} {ops : Array Oper} {rest : List Oper} {o : Oper} {a : Act} {Q : Exit → Act → World → Prop} (hgd : o.guard = none) (x : Operand) (ho : o.op = .buildSlice 22 1 #[(0, x)])
    (X : List UInt8) (lx : X.length = 32) (hx : a.eval x = .agg (idVals X))
    (h : ∀ cs, IdRd (w.alloc (.cells cs 24)) (some ⟨w.heap.size, 0, none⟩) [X] → wpList Try.prog ops Q rest (a.put o.dst (.slice (some ⟨w.heap.size, 0, none⟩) 1 1)) (w.alloc (.cells cs 24))) : wpList Try.prog ops Q (o :: rest) a w :=
  wpList_plain hgd fun _ hK => wp_build1i x ho X lx hx fun cs h1 => hK _ _ (h cs h1)
theorem one_row {w : World} {g : Nat} {X : List UInt8} (h : IdRd w (some ⟨g, 0, none⟩) [X]) : RowC w (some ⟨g, 0, none⟩) 1 1 [X] := ⟨⟨rfl, by decide, h⟩, .inr ⟨⟨_, rfl⟩, by decide, by decide⟩⟩
theorem meas_k9 {k n : Nat} (h : k < n) : n - ((k : Int) + 1).toNat < n - ((k : Int)).toNat := by omega
theorem one_keep {l : List (List UInt8)} {P : Int × Int} {s x : List UInt8} {k : Nat} (h : ∀ j x, j < k → l[j]? = some x → oneB l P s x = false) (hk : l[k]? = some x) (hx : oneB l P s x = false) : ∀ j x, j < k + 1 → l[j]? = some x → oneB l P s x = false := fun j y hj hy => by
  rcases Nat.lt_or_ge j k with e | e
  · exact h j y e hy
  · obtain rfl : j = k := by omega
    rw [hk] at hy; cases hy; exact hx
set_option maxRecDepth 100000 in
set_option maxHeartbeats 8000000 in
theorem rcone_any (A : Option Addr) (n c : Nat) (l : List (List UInt8)) (P : Int × Int) (hP : ResZ P) (s : List UInt8) (hs32 : s.length = 32) (w : World) (h : RowC w A n c l) (hs : Steps l n) :
    Calls Try.prog 120 #[.slice A n c, cz P, .agg (idVals s)] w (OneQ l P s w) := by
  have mixed : Try.prog.follows .mixedOrders = true := by kernel_rfl
  have hu := Try.underlying24
  have hn6 := h.1.2.1
  have hzq : (Try.prog.info? 24).map (·.size) = some (s.map u8v).length := by rw [List.length_map, hs32]; exact sizeId
  have HW := hid (fun (W : World) (x : List UInt8) (g : Nat) (h1 : RowC W A n c l) (h2 : IdRd W (some ⟨g, 0, none⟩) [x]) => without_any A (some ⟨g, 0, none⟩) n c 1 1 l [x] W h1 hs (one_row h2).at (List.Pairwise.cons (fun _ h => by cases h) List.Pairwise.nil))
  have HEQ := hid hs32
  have HP := hid hP
  generalize hPV : cz P = PV
  have HPV := hid hPV
  clear hs hs32 hP hPV
  go_enter Try.func120, Try.ntmps120
  go_upto_region 1 with (fail)
  have hb0 := (Below.refl w.heap.size w).alloc (Nat.le_refl _) (.cells (idVals s) 24)
  have hbx := range_blk (Blk.new w 24 (idVals s))
  replace h := h.below hb0
  generalize w.alloc (.cells (idVals s) 24) = w1 at *
  have HH := hid h
  have HBX := hid hbx
  have HB0 := hid hb0
  go_wp2_with (fail)
  go_loopw [13] (fun v wr => ∃ k : Nat, k ≤ n ∧ v = .int .i64 (k : Int) ∧ Hid (∀ j x, j < k → l[j]? = some x → oneB l P s x = false) ∧ Below w1.heap.size w1 wr) (fun v _ => n - (intOf v).toNat)
  case atStart => exact ⟨0, Nat.zero_le _, rfl, hid (fun j x hj => by omega), Below.refl _ _⟩
  case round =>
    obtain ⟨k, hk, rfl, HN, hb⟩ := hrel
    clear h hbx hb0
    by_cases hlt : k < n
    · have hln := HH.out.1.1
      obtain ⟨x, hx⟩ : ∃ x, l[k]? = some x := ⟨_, List.getElem?_eq_getElem (by omega)⟩
      obtain ⟨g, q, hg, lx, hix⟩ := HH.out.1.2.2.pick (k := k) (a := x) c hln hx
      have fg := hg.below hb
      have hzx : (Try.prog.info? 24).map (·.size) = some (x.map u8v).length := by rw [List.length_map, lx]; exact sizeId
      have z1 : (k : Int) < (n : Int) := by omega
      have q9 := pv_q1 (p := k) (by omega)
      have HX := hid hx
      have HLT := hid hlt
      have hbh := HH.out.below hb
      have hbs := HBX.out.below hb
      have HBW := hid (HB0.out.trans (hb.mono HB0.out.size))
      have HBB := hid hb
      clear hln hx hlt hk hg hb
      go_upto_region 5 with (first
        | (with_reducible refine wpList_load_if (by with_unfolding_all rfl) 24 _ rfl _ _ rfl (x.map u8v) _ fg hu rfl hzx ?_)
        | ((with_reducible refine wpList_store_newid rfl _ _ rfl x lx rfl rfl (by with_unfolding_all rfl) ?_); intro w3 hx3 hb3)
        | (with_reducible refine wpList_load_if (by with_unfolding_all rfl) 24 _ rfl _ _ rfl (x.map u8v) _ hx3 hu rfl hzx ?_)
        | ((with_reducible refine wpList_build1i rfl _ rfl x lx rfl ?_); intro cs hrow))
      have hal := (Below.refl w3.heap.size w3).alloc (Nat.le_refl _) (.cells cs 24)
      have hx4 := hx3.below hal
      have hbh4 := (hbh.below hb3).below hal
      have hbs4 := (hbs.below hb3).below hal
      have HB4 := hid (hb3.trans (hal.mono hb3.size))
      have hg3 : w3.heap.size < w3.heap.size + 1 := by omega
      obtain ⟨g3, hg3e⟩ : ∃ g3, w3.heap.size = g3 := ⟨_, rfl⟩
      rw [hg3e] at hrow
      clear hx3 hb3 hal hbh hbs fg hg3
      generalize w3.alloc (.cells cs 24) = w4 at *
      simp only [hg3e]
      clear hg3e
      have fx := range_later hx4
      have fs := range_later hbs4
      have hof : ∀ p : LaterW w4, Calls Try.prog 88 #[.agg (List.map u8v x).toArray] p.w fun e w' => e = .returned (cz (idZ x)) ∧ Below p.w.heap.size p.w w' := fun p => gof_any x lx p.w
      have hwo : ∀ p : LaterW w4, Calls Try.prog 119 #[.slice A n c, .slice (some ⟨g3, 0, none⟩) 1 1] p.w fun e w' => e = .returned (.agg (idVals (woB l [x]))) ∧ Below p.w.heap.size p.w w' := fun p => HW.out p.w x g3 (hbh4.below p.h) (hrow.below p.h)
      have HROW := hid hrow
      obtain ⟨t1, ht1⟩ : ∃ t, decide (idZ x = P) = t := ⟨_, rfl⟩
      obtain ⟨t2, ht2⟩ : ∃ t, decide (woB l [x] = s) = t := ⟨_, rfl⟩
      have he1 : ∀ W, (binOp .eql 54 (cz (idZ x)) PV).run Try.prog W = .ok (.bool t1) W := fun W => by rw [← ht1, ← HPV.out]; exact run_cz_eq 54 _ _ (idZ_res x) HP.out W
      have he0 : ∀ W a b, (eqGuard .eql 54 a b (cz (idZ x)) PV).run Try.prog W = .ok () W := fun W a b => by rw [← HPV.out]; exact guard_cz .eql 54 a b _ _ W
      have he2 : ∀ W, (Op.equalIn 10000 24 (.agg (idVals (woB l [x]))) (.agg (List.map u8v s).toArray)).run Try.prog W = .ok t2 W := fun W => (ids_eq W (woB l [x]) s (sumL_length _) HEQ.out).trans (by rw [ht2])
      have HT : Hid (oneB l P s x = (t1 && t2)) := hid (by unfold oneB; rw [ht1, ht2])
      clear ht1 ht2 hx4 hbs4 hbh4 hrow
      generalize woB l [x] = S at *
      generalize cz (idZ x) = Z at *
      cases t1
      · refine wp_region_later mixed (by kernel_rfl) ?_
        repeat (first
          | ((with_reducible refine wpQuiet_skip (by with_unfolding_all rfl) ?_); simp only [Act.put, List.setIfInBounds_toArray, List.set_cons_zero, List.set_cons_succ])
          | ((with_reducible refine wpQuiet_load_if (by with_unfolding_all rfl) 24 _ rfl _ _ rfl (x.map u8v) _ fx hu (by with_unfolding_all rfl) hzx ?_); simp only [Act.put, List.setIfInBounds_toArray, List.set_cons_zero, List.set_cons_succ])
          | ((with_reducible refine wpQuiet_load_if (by with_unfolding_all rfl) 24 _ rfl _ _ rfl (s.map u8v) _ fs hu (by with_unfolding_all rfl) hzq ?_); simp only [Act.put, List.setIfInBounds_toArray, List.set_cons_zero, List.set_cons_succ])
          | ((with_reducible refine wpQuiet_step (fun K hK => ?_)); go_simp; first | ((with_reducible refine hK _ ?_); clear hK K) | (with_reducible apply Exists.intro; (with_reducible refine ⟨fun _ => ?_, hK _ ?_⟩); ((first | (go_at_call 88; exact later_of (hof _)) | (go_at_call 119; exact later_of (hwo _)))); clear hK K)))
        with_reducible refine wpQuiet_nil ?_
        intro _ hw'
        obtain ⟨p9, rfl⟩ := hw'
        have hp9 := p9.h
        generalize p9.w = w6 at *
        replace hp9 := HB4.out.trans (hp9.mono HB4.out.size)
        clear fx fs hof hwo he0 he1 he2 HROW
        go_wp2_with (fail)
        go_roundw
        case rel => exact ⟨k + 1, HLT.out, by go_num, hid (one_keep HN.out HX.out (HT.out.trans (by rfl))), HBB.out.trans (hp9.mono HBB.out.size)⟩
        case measure => exact meas_k9 HLT.out
      · cases t2
        · refine wp_region_later mixed (by kernel_rfl) ?_
          repeat (first
            | ((with_reducible refine wpQuiet_skip (by with_unfolding_all rfl) ?_); simp only [Act.put, List.setIfInBounds_toArray, List.set_cons_zero, List.set_cons_succ])
            | ((with_reducible refine wpQuiet_load_if (by with_unfolding_all rfl) 24 _ rfl _ _ rfl (x.map u8v) _ fx hu (by with_unfolding_all rfl) hzx ?_); simp only [Act.put, List.setIfInBounds_toArray, List.set_cons_zero, List.set_cons_succ])
            | ((with_reducible refine wpQuiet_load_if (by with_unfolding_all rfl) 24 _ rfl _ _ rfl (s.map u8v) _ fs hu (by with_unfolding_all rfl) hzq ?_); simp only [Act.put, List.setIfInBounds_toArray, List.set_cons_zero, List.set_cons_succ])
            | ((with_reducible refine wpQuiet_step (fun K hK => ?_)); go_simp; first | ((with_reducible refine hK _ ?_); clear hK K) | (with_reducible apply Exists.intro; (with_reducible refine ⟨fun _ => ?_, hK _ ?_⟩); ((first | (go_at_call 88; exact later_of (hof _)) | (go_at_call 119; exact later_of (hwo _)))); clear hK K)))
          with_reducible refine wpQuiet_nil ?_
          intro _ hw'
          obtain ⟨p9, rfl⟩ := hw'
          have hp9 := p9.h
          generalize p9.w = w6 at *
          replace hp9 := HB4.out.trans (hp9.mono HB4.out.size)
          clear fx fs hof hwo he0 he1 he2 HROW
          go_wp2_with (fail)
          go_roundw
          case rel => exact ⟨k + 1, HLT.out, by go_num, hid (one_keep HN.out HX.out (HT.out.trans (by rfl))), HBB.out.trans (hp9.mono HBB.out.size)⟩
          case measure => exact meas_k9 HLT.out
        · refine wp_region_later mixed (by kernel_rfl) ?_
          repeat (first
            | ((with_reducible refine wpQuiet_skip (by with_unfolding_all rfl) ?_); simp only [Act.put, List.setIfInBounds_toArray, List.set_cons_zero, List.set_cons_succ])
            | ((with_reducible refine wpQuiet_load_if (by with_unfolding_all rfl) 24 _ rfl _ _ rfl (x.map u8v) _ fx hu (by with_unfolding_all rfl) hzx ?_); simp only [Act.put, List.setIfInBounds_toArray, List.set_cons_zero, List.set_cons_succ])
            | ((with_reducible refine wpQuiet_load_if (by with_unfolding_all rfl) 24 _ rfl _ _ rfl (s.map u8v) _ fs hu (by with_unfolding_all rfl) hzq ?_); simp only [Act.put, List.setIfInBounds_toArray, List.set_cons_zero, List.set_cons_succ])
            | ((with_reducible refine wpQuiet_step (fun K hK => ?_)); go_simp; first | ((with_reducible refine hK _ ?_); clear hK K) | (with_reducible apply Exists.intro; (with_reducible refine ⟨fun _ => ?_, hK _ ?_⟩); ((first | (go_at_call 88; exact later_of (hof _)) | (go_at_call 119; exact later_of (hwo _)))); clear hK K)))
          with_reducible refine wpQuiet_nil ?_
          intro _ hw'
          obtain ⟨p9, rfl⟩ := hw'
          have hp9 := p9.h
          generalize p9.w = w6 at *
          have hrow6 := HROW.out.below hp9
          replace hp9 := HB4.out.trans (hp9.mono HB4.out.size)
          clear fx fs hof hwo he0 he1 he2 HROW
          go_wp2_with (fail)
          go_ret2
          exact ⟨.inl ⟨k, x, _, _, HX.out, HT.out, HN.out, rfl, one_row hrow6⟩, HBW.out.trans (hp9.mono HBW.out.size)⟩
    · obtain rfl : k = n := by omega
      have z1 : ¬ (k : Int) < (k : Int) := by omega
      have hbw := HB0.out.trans (hb.mono HB0.out.size)
      have HA : Hid (∀ x ∈ l, oneB l P s x = false) := hid (fun x hx => by
        obtain ⟨j, hj⟩ := List.getElem?_of_mem hx
        exact HN.out j x (by have := (List.getElem?_eq_some_iff.1 hj).1; have := HH.out.1.1; omega) hj)
      clear HN hb
      go_wp2_with (fail)
      go_ret2
      exact ⟨.inr ⟨HA.out, rfl⟩, hbw⟩
end Go.Proofs.Ytkajfpincbkfhaa

namespace Go.Proofs.Ytkajfpincbkfhaa
open Go.RowKit Go.Qc Go.Shelf
attribute [local go_sem] txt_size txt_append ib_fold
theorem gzero_mul (y : Int × Int) : gmulZ (0, 0) y = (0, 0) := by
  unfold gmulZ zmul zred
  simp
theorem gdiv_back {x y : Int × Int} (hx : ResZ x) (hy : ResZ y) (h0 : y ≠ (0, 0)) : gmulZ (gmulZ x y) (ginvZ y) = x := by
  rw [gmulZ_assoc, ginv_mul hy h0, gmulZ_one hx]
theorem gmul_ne {x y : Int × Int} (hx : ResZ x) (hy : ResZ y) (h1 : x ≠ (0, 0)) (h2 : y ≠ (0, 0)) : gmulZ x y ≠ (0, 0) := fun h => by
  have := gdiv_back hx hy h2
  rw [h, gzero_mul] at this
  exact h1 this.symm
theorem idZ_ne (a : List UInt8) : idZ a ≠ (0, 0) := by
  unfold idZ ofZ
  split
  · decide
  · assumption
theorem talZ_nil : talZ [] = (1, 0) := rfl
theorem talZ_cons (a : List UInt8) (l : List (List UInt8)) : talZ (a :: l) = gmulZ (idZ a) (talZ l) := by
  have h := talZ_append [a] l
  have e : talZ [a] = idZ a := gone_mulZ (idZ_res a)
  rw [e] at h
  exact h
theorem talZ_ne : ∀ l : List (List UInt8), talZ l ≠ (0, 0)
  | [] => by rw [talZ_nil]; decide
  | a :: l => by rw [talZ_cons]; exact gmul_ne (idZ_res a) (talZ_res l) (idZ_ne a) (talZ_ne l)
theorem run_cz_add0 (t : TypeId) (x : Int × Int) (hx : ResZ x) (w : World) : (binOp .add t (cz x) (.complex .f64 0 0)).run Try.prog w = .ok (cz x) w := by
  obtain ⟨x0, x1, x2, x3⟩ := hx
  rw [cz_zero]
  unfold cz
  refine run_complex_sum w .add (.inl rfl) _ .f64 _ _ _ _ _ _ ?_
  unfold cSumBits
  have e1 : floatBits .add .f64 (fl x.1) (fl 0) = some (fl (x.1 + 0)) := fl_add _ _ (by omega) (by decide) (by omega)
  have e2 : floatBits .add .f64 (fl x.2) (fl 0) = some (fl (x.2 + 0)) := fl_add _ _ (by omega) (by decide) (by omega)
  rw [Int.add_zero] at e1 e2
  rw [e1, e2]; rfl
/-- A summary's cells. -/
def smC (n : Int) (c : Value) (s : List UInt8) : Array Value := #[.int .i64 n, c] ++ idVals s
theorem smC_size (n : Int) (c : Value) {s : List UInt8} (hs : s.length = 32) : (smC n c s).size = 34 := by unfold smC; simp [idVals_size, hs]
theorem smC_one (n : Int) (x : Int × Int) (s : List UInt8) : (smC n (cz x) s).all (·.oneCell') = true := by
  unfold smC
  rw [Array.all_append, idVals_one]
  simp [Value.oneCell', cz]
theorem smC_0 (n : Int) (c : Value) (s : List UInt8) : (smC n c s)[0]? = some (.int .i64 n) := by
  unfold smC
  rw [Array.getElem?_append_left (by simp)]
  rfl
theorem smC_1 (n : Int) (c : Value) (s : List UInt8) : (smC n c s)[1]? = some c := by
  unfold smC
  rw [Array.getElem?_append_left (by simp)]
  rfl
theorem smC_id (n : Int) (c : Value) (s : List UInt8) (j : Nat) (u : Value) (h : (s.map u8v)[j]? = some u) : (smC n c s)[2 + j]? = some u := by
  unfold smC
  rw [Array.getElem?_append_right (by simp), show 2 + j - (#[Value.int .i64 n, c] : Array Value).size = j by simp]
  unfold idVals
  rw [List.getElem?_toArray]
  exact h
theorem infoSm : (Try.prog.info? 56).map (·.size) = some 34 := by kernel_rfl
theorem infoSmC (n : Int) (c : Value) {s : List UInt8} (hs : s.length = 32) : (Try.prog.info? 56).map (·.size) = some (smC n c s).size := by rw [smC_size n c hs]; exact infoSm
theorem build_sm (n : Int) (x : Int × Int) (s : List UInt8) (hs : s.length = 32) (W : World) : (Instr.build 56 #[(0, .int .i64 n), (1, cz x), (2, .agg (List.map u8v s).toArray)]).run Try.prog W = .ok (.agg (smC n (cz x) s)) W := by
  obtain ⟨x0, x1, x2, x3, x4, x5, x6, x7, x8, x9, x10, x11, x12, x13, x14, x15, x16, x17, x18, x19, x20, x21, x22, x23, x24, x25, x26, x27, x28, x29, x30, x31, rfl⟩ := list32m s hs
  unfold cz
  generalize fl x.1 = u
  generalize fl x.2 = v
  kernel_rfl
theorem yieldsIf_build_byM {ops : Array Oper} {S : World → Prop} {op : Oper} {a : Act} (hw : Region.wanted op (yielded ops a.tmps) = true) (ty : TypeId) (parts : Array (Nat × Operand)) (ho : op.op = .build ty parts)
    (ps : Array (Nat × Value)) (v : Value) (hb : ∀ W, (Instr.build ty ps).run Try.prog W = .ok v W) (hp : (parts.map fun (i, x) => (i, a.eval x)) = ps) : YieldsIf Try.prog ops S op v a :=
  .inl ⟨hw, fun w _ => by
    have hr := hb w
    rw [← hp] at hr
    unfold execOp
    simp only [ho]
    simp only [Sem.run_bind, hr, Result.andThen, Sem.run_pure]⟩
theorem ret_smM {fn : Func} {p u : Tmp} (hf : fn.results = #[.cell p 56, .tmp u]) (tmps : Array Value) (w : World) (g : Nat) (n : Int) (c : Value) (s : List UInt8) (hs : s.length = 32) (hp : tmps.getD p undef = .pointer (some ⟨g, 0, none⟩)) (hg : Blk w g 56 (smC n c s)) :
    (results fn tmps).run Try.prog w = .ok (.tuple #[.agg (smC n c s), tmps.getD u undef]) w := by
  have hl := run_loadVar_row (P := Try.prog) w g 56 56 (smC n c s) (0, 0) _ hg Try.underlying56 rfl (infoSmC n c hs)
  rw [results_cell_tmp hf, hp]
  simp only [asAddr, Sem.run_pure, Result.andThen_ok, hl]
set_option maxRecDepth 100000 in
set_option maxHeartbeats 8000000 in
theorem rcof_no (A : Option Addr) (n c : Nat) (l : List (List UInt8)) (w : World) (h : RowC w A n c l) (hs : ¬ Steps l n) :
    Calls Try.prog 30 #[.slice A n c] w fun e w' => e = .returned (.tuple #[.agg (smC 0 (cz (0, 0)) zeroB), .int .i64 17]) ∧ Below w.heap.size w w' := by
  have cS : ∀ W, RowC W A n c l → Calls Try.prog 12 #[.slice A n c] W fun e w' => e = .returned (.tuple #[.agg (idVals zeroB), .int .i64 17]) ∧ Below W.heap.size W w' := fun W hW => msum_no A n c l W hW hs
  have bz : ∀ W, (Instr.build 56 #[]).run Try.prog W = .ok (.agg (smC 0 (cz (0, 0)) zeroB)) W := fun W => by
    rw [← cz_zero]; kernel_rfl
  have h1c := smC_one 0 (0, 0) zeroB
  have hSl : zeroB.length = 32 := by decide
  have hi := infoSmC 0 (cz (0, 0)) hSl
  have hsz := smC_size 0 (cz (0, 0)) hSl
  generalize cz (0, 0) = CZ at *
  generalize zeroB = S at *
  go_enter Try.func30, Try.ntmps30
  go_upto_region 1 with (fail)
  generalize hZ : (Obj.cells _ 56) = Z
  obtain ⟨zc, rfl, hzc⟩ : ∃ zc : Array Value, Z = Obj.cells zc 56 ∧ zc.size = 34 := ⟨_, hZ.symm, rfl⟩
  clear hZ
  have hz := Blk.new w 56 zc
  have hb := (Below.refl w.heap.size w).alloc (Nat.le_refl _) (.cells zc 56)
  replace h := h.below hb
  have hlz : w.heap.size < (w.alloc (.cells zc 56)).heap.size := hz.lt
  generalize w.alloc (.cells zc 56) = w1 at *
  go_upto_region 2 with (first
    | (go_at_call 12; (with_reducible refine (cS _ h).mono ?_); rintro e2 w2 ⟨rfl, hb2⟩; replace h := h.below hb2; replace hz := hz.below hb2; replace hb := hb.trans (hb2.mono hb.size))
    | ((with_reducible refine wpList_store_newid rfl _ _ rfl S hSl rfl rfl (by with_unfolding_all rfl) ?_); intro w3 hx3 hb3))
  replace h := h.below hb3
  replace hz := hz.below hb3
  replace hb := hb.trans (hb3.mono hb.size)
  obtain ⟨g3, hg3⟩ : ∃ g3, w2.heap.size = g3 := ⟨_, rfl⟩
  rw [hg3] at hx3
  simp only [hg3]
  have HG3 : w.heap.size < g3 := by rw [← hg3]; exact Nat.lt_of_lt_of_le hlz hb2.size
  clear hb3 hg3
  have hzq : zc.size = (smC 0 CZ S).size := by rw [hzc, hsz]
  go_wp2_with (first
    | (with_reducible refine wpList_build_byM rfl _ _ rfl _ _ bz (by with_unfolding_all rfl) ?_)
    | ((with_reducible refine wpList_store_blk rfl 56 _ _ rfl w.heap.size zc (smC 0 CZ S) 56 hz rfl rfl hi hzq h1c ?_); intro w9 hB9 hg9))
  refine bodyPost_ret (ret_smM rfl _ _ _ _ _ _ hSl rfl hB9) rfl ⟨rfl, below_gM hb hg9 (Nat.le_refl _)⟩
theorem range_gM {w w' : World} {g o k : Nat} {cs : List Value} (h : w.rangeAt g o cs) (hg : w.grownBy w' (some k)) (hk : k < g) : w'.rangeAt g o cs := fun j v hj => by
  have h1 := h j v hj
  have hlt := World.block_lt_of_cell? w _ h1
  rw [World.cell?_of_block (hg.block g hlt (by simp; omega))]
  exact h1
set_option maxRecDepth 100000 in
set_option maxHeartbeats 8000000 in
theorem rcof_yes (A : Option Addr) (n c : Nat) (l : List (List UInt8)) (w : World) (h : RowC w A n c l) (hs : Steps l n) :
    Calls Try.prog 30 #[.slice A n c] w fun e w' => e = .returned (.tuple #[.agg (smC (n : Int) (cz (talZ l)) (sumL l)), .int .i64 0]) ∧ Below w.heap.size w w' := by
  have hu := Try.underlying24
  have cS : ∀ W, RowC W A n c l → Calls Try.prog 12 #[.slice A n c] W fun e w' => e = .returned (.tuple #[.agg (idVals (sumL l)), .int .i64 0]) ∧ Below W.heap.size W w' := fun W hW => by
    have := msum_yes A n c l W hW hs
    rw [← hW.1.1] at this ⊢
    exact this
  have cT : ∀ W, RowC W A n c l → Calls Try.prog 79 #[.slice A n c] W fun e w' => e = .returned (cz (talZ l)) ∧ Below W.heap.size W w' := fun W hW => gtally_any A n c l W hW.1
  have hSl : (sumL l).length = 32 := sumL_length l
  have bS := build_sm (n : Int) (talZ l) (sumL l) hSl
  have h1c := smC_one (n : Int) (talZ l) (sumL l)
  have hi := infoSmC (n : Int) (cz (talZ l)) hSl
  have hsz := smC_size (n : Int) (cz (talZ l)) hSl
  generalize cz (talZ l) = T at *
  generalize sumL l = S at *
  have hzs : (Try.prog.info? 24).map (·.size) = some (S.map u8v).length := by rw [List.length_map, hSl]; exact sizeId
  go_enter Try.func30, Try.ntmps30
  go_upto_region 1 with (fail)
  generalize hZ : (Obj.cells _ 56) = Z
  obtain ⟨zc, rfl, hzc⟩ : ∃ zc : Array Value, Z = Obj.cells zc 56 ∧ zc.size = 34 := ⟨_, hZ.symm, rfl⟩
  clear hZ
  have hz := Blk.new w 56 zc
  have hb := (Below.refl w.heap.size w).alloc (Nat.le_refl _) (.cells zc 56)
  replace h := h.below hb
  have hlz : w.heap.size < (w.alloc (.cells zc 56)).heap.size := hz.lt
  generalize w.alloc (.cells zc 56) = w1 at *
  go_upto_region 2 with (first
    | (go_at_call 12; (with_reducible refine (cS _ h).mono ?_); rintro e2 w2 ⟨rfl, hb2⟩; replace h := h.below hb2; replace hz := hz.below hb2; replace hb := hb.trans (hb2.mono hb.size))
    | ((with_reducible refine wpList_store_newid rfl _ _ rfl S hSl rfl rfl (by with_unfolding_all rfl) ?_); intro w3 hx3 hb3))
  replace h := h.below hb3
  replace hz := hz.below hb3
  replace hb := hb.trans (hb3.mono hb.size)
  obtain ⟨g3, hg3⟩ : ∃ g3, w2.heap.size = g3 := ⟨_, rfl⟩
  rw [hg3] at hx3
  simp only [hg3]
  have HG3 : w.heap.size < g3 := by rw [← hg3]; exact Nat.lt_of_lt_of_le hlz hb2.size
  clear hb3 hg3
  have hzq : zc.size = (smC (n : Int) T S).size := by rw [hzc, hsz]
  have hg30 : w.heap.size < g3 := HG3
  go_wp2_with (fail)
  replace h := h.below (below_drew1 w3)
  replace hz := hz.below (below_drew1 w3)
  replace hb := hb.trans ((below_drew1 w3).mono hb.size)
  refine wp_region_held_drew (S := fun W => W.rangeAt g3 0 (S.map u8v)) (by kernel_rfl) ?_ (fun hHeld => ?_)
  · exact hx3.below (below_drew1 w3)
  generalize w3.drew = w4 at *
  refine' wpAnyH_take (i := 0) (v := .slice A n c) rfl (by kernel_rfl) (by kernel_rfl) (by kernel_rfl) (fun _ _ _ h => h) (Or.inl ⟨by rfl, fun w' hw' => by go_simp⟩) hHeld ?_
  try simp only [Act.put, List.getElem_toArray, List.getElem_cons_succ, List.getElem_cons_zero, List.setIfInBounds_toArray, List.set_cons_zero, List.set_cons_succ]
  refine' wpAnyH_take (i := 1) (v := .int .i64 (n : Int)) rfl (by kernel_rfl) (by kernel_rfl) (by kernel_rfl) (fun _ _ _ h => h) (Or.inl ⟨by rfl, fun w' hw' => by go_simp⟩) hHeld ?_
  try simp only [Act.put, List.getElem_toArray, List.getElem_cons_succ, List.getElem_cons_zero, List.setIfInBounds_toArray, List.set_cons_zero, List.set_cons_succ]
  refine' wpAnyH_take (i := 2) (v := .slice A n c) rfl (by kernel_rfl) (by kernel_rfl) (by kernel_rfl) (fun _ _ _ h => h) (Or.inl ⟨by rfl, fun w' hw' => by go_simp⟩) hHeld ?_
  try simp only [Act.put, List.getElem_toArray, List.getElem_cons_succ, List.getElem_cons_zero, List.setIfInBounds_toArray, List.set_cons_zero, List.set_cons_succ]
  refine' wpAnyH_take (i := 4) (v := _) rfl (by kernel_rfl) (by kernel_rfl) (by kernel_rfl) (fun _ _ _ h => h) (yieldsIf_load_mid (by rfl) 24 _ rfl _ _ rfl (S.map u8v) _ (fun w' h => h) hu rfl hzs) hHeld ?_
  try simp only [Act.put, List.getElem_toArray, List.getElem_cons_succ, List.getElem_cons_zero, List.setIfInBounds_toArray, List.set_cons_zero, List.set_cons_succ]
  refine wpAnyH_ready (rs := [3]) (by kernel_rfl) (by simp) ?_
  refine AllReadyH.cons rfl (fun K hK => ?_) AllReadyH.nil
  go_simp
  (with_reducible refine (cT _ h).mono ?_)
  rintro e5 w5 ⟨rfl, hb5⟩
  replace hz := hz.below hb5
  replace hb := hb.trans (hb5.mono hb.size)
  refine hK.out _ _ (hHeld.below hb5) (fun hHeld => ?_)
  clear hK K hb5
  try simp only [Act.put, List.getElem_toArray, List.getElem_cons_succ, List.getElem_cons_zero, List.setIfInBounds_toArray, List.set_cons_zero, List.set_cons_succ]
  refine' wpAnyH_take (i := 5) (v := .agg (smC (n : Int) T S)) rfl (by kernel_rfl) (by kernel_rfl) (by kernel_rfl) (fun _ _ _ h => h) (yieldsIf_build_byM (by rfl) _ _ rfl _ _ bS (by with_unfolding_all rfl)) hHeld ?_
  try simp only [Act.put, List.getElem_toArray, List.getElem_cons_succ, List.getElem_cons_zero, List.setIfInBounds_toArray, List.set_cons_zero, List.set_cons_succ]
  refine wpAnyH_ready (rs := [6]) (by kernel_rfl) (by simp) ?_
  refine AllReadyH.cons rfl (fun K hK => ?_) AllReadyH.nil
  refine wp_store_wholeM 56 _ _ rfl w.heap.size zc (smC (n : Int) T S) 56 hz rfl rfl hi hzq h1c ?_
  intro w9 hB9 hg9
  refine hK.out _ _ (range_gM hHeld hg9 hg30) (fun hHeld => ?_)
  clear hK K
  try simp only [Act.put, List.getElem_toArray, List.getElem_cons_succ, List.getElem_cons_zero, List.setIfInBounds_toArray, List.set_cons_zero, List.set_cons_succ]
  refine' wpAnyH_take (i := 7) (v := .int .i64 0) rfl (by kernel_rfl) (by kernel_rfl) (by kernel_rfl) (fun _ _ _ h => h) (Or.inl ⟨by rfl, fun w' hw' => by go_simp⟩) hHeld ?_
  try simp only [Act.put, List.getElem_toArray, List.getElem_cons_succ, List.getElem_cons_zero, List.setIfInBounds_toArray, List.set_cons_zero, List.set_cons_succ]
  refine wpAnyH_done (by kernel_rfl) ?_ _
  go_wp2_with (fail)
  refine bodyPost_ret (ret_smM rfl _ _ _ _ _ _ hSl rfl hB9) rfl ⟨rfl, below_gM hb hg9 (Nat.le_refl _)⟩
end Go.Proofs.Ytkajfpincbkfhaa

namespace Go.Proofs.Ytkajfpincbkfhaa
open Go.RowKit Go.Qc Go.Shelf
attribute [local go_sem] txt_size txt_append ib_fold
/-- What is told of ids that lack: some that are good, or there are none. -/
def LQ (Good : World → Value → Prop) (Bad : Prop) (yes no : Value) (w : World) (e : Ending) (w' : World) : Prop :=
  ((∃ v, e = .returned (.tuple #[v, yes]) ∧ Good w' v) ∨ (Bad ∧ e = .returned (.tuple #[.slice none 0 0, no]))) ∧ Below w.heap.size w w'
def GoodOne (l : List (List UInt8)) (P : Int × Int) (s : List UInt8) (W : World) (v : Value) : Prop :=
  ∃ (k : Nat) (a : List UInt8) (A : Option Addr) (c : Nat), v = .slice A 1 c ∧ l[k]? = some a ∧ oneB l P s a = true ∧ (∀ j x, j < k → l[j]? = some x → oneB l P s x = false) ∧ RowC W A 1 c [a]
theorem OneQ.lq {l : List (List UInt8)} {P : Int × Int} {s : List UInt8} {w w' : World} {e : Ending} (h : OneQ l P s w e w') : LQ (GoodOne l P s) (∀ x ∈ l, oneB l P s x = false) (.bool true) (.bool false) w e w' := by
  obtain ⟨h1, hb⟩ := h
  refine ⟨?_, hb⟩
  rcases h1 with ⟨k, a, A, c, h1, h2, h3, rfl, h4⟩ | ⟨h1, h2⟩
  · exact .inl ⟨_, rfl, k, a, A, c, rfl, h1, h2, h3, h4⟩
  · exact .inr ⟨h1, h2⟩
set_option maxRecDepth 100000 in
set_option maxHeartbeats 8000000 in
theorem lacking1_any (A : Option Addr) (n c : Nat) (l : List (List UInt8)) (P : Int × Int) (hP : ResZ P) (s : List UInt8) (hs32 : s.length = 32) (w : World) (h : RowC w A n c l) (hs : Steps l n) :
    Calls Try.prog 81 #[.slice A n c, .int .i64 1, cz P, .agg (idVals s)] w (LQ (GoodOne l P s) (∀ x ∈ l, oneB l P s x = false) (.bool true) (.bool false) w) := by
  have hu := Try.underlying24
  have hzq : (Try.prog.info? 24).map (·.size) = some (s.map u8v).length := by rw [List.length_map, hs32]; exact sizeId
  have cO : ∀ W, RowC W A n c l → Calls Try.prog 120 #[.slice A n c, cz P, .agg (List.map u8v s).toArray] W (LQ (GoodOne l P s) (∀ x ∈ l, oneB l P s x = false) (.bool true) (.bool false) W) := fun W hW => (rcone_any A n c l P hP s hs32 W hW hs).mono fun e w' hq => hq.lq
  generalize cz P = PV at *
  generalize GoodOne l P s = Good at *
  generalize (∀ x ∈ l, oneB l P s x = false) = Bad at *
  go_enter Try.func81, Try.ntmps81
  go_upto_region 1 with (fail)
  have hb := (Below.refl w.heap.size w).alloc (Nat.le_refl _) (.cells (idVals s) 24)
  have hbx := range_blk (Blk.new w 24 (idVals s))
  replace h := h.below hb
  generalize w.alloc (.cells (idVals s) 24) = w1 at *
  have hlz := hb.size
  have HQ := hid (cO w1 h)
  clear cO
  go_wp2_with (first
    | (with_reducible refine wpList_load_if (by with_unfolding_all rfl) 24 _ rfl _ _ rfl (s.map u8v) _ hbx hu rfl hzq ?_)
    | (go_at_call 120; refine (HQ.out).mono ?_; rintro e2 w2 hq; obtain ⟨⟨v, rfl, hv⟩ | ⟨hv, rfl⟩, hb2⟩ := hq))
  · go_ret2
    exact ⟨.inl ⟨v, rfl, hv⟩, hb.trans (hb2.mono hlz)⟩
  · go_ret2
    exact ⟨.inr ⟨hv, rfl⟩, hb.trans (hb2.mono hlz)⟩
set_option maxRecDepth 100000 in
set_option maxHeartbeats 8000000 in
theorem lack_core (A : Option Addr) (n c : Nat) (l : List (List UInt8)) (v : Nat) (hv1 : v ≤ n) (hv2 : n ≤ v + 2) (cc : Int × Int) (hcc : ResZ cc) (hc0 : cc ≠ (0, 0)) (s : List UInt8) (hs32 : s.length = 32) (Good : World → Value → Prop) (Bad : Prop) (w : World) (h : RowC w A n c l) (hs : Steps l n)
    (cL : ∀ W, RowC W A n c l → Calls Try.prog 81 #[.slice A n c, .int .i64 ((n - v : Nat) : Int), cz (gmulZ (talZ l) (ginvZ cc)), .agg (idVals s)] W (LQ Good Bad (.bool true) (.bool false) W)) :
    Calls Try.prog 31 #[.slice A n c, .agg (smC (v : Int) (cz cc) s)] w (LQ Good Bad (.int .i64 0) (.int .i64 6) w) := by
  have mixed : Try.prog.follows .mixedOrders = true := by kernel_rfl
  have hu := Try.underlying24
  have hn6 := h.1.2.1
  have hzq : (Try.prog.info? 24).map (·.size) = some (s.map u8v).length := by rw [List.length_map, hs32]; exact sizeId
  have cR : ∀ W, RowC W A n c l → Calls Try.prog 51 #[.slice A n c] W fun e w' => e = .returned (.bool true) ∧ Below W.heap.size W w' := fun W hW => (rises_any A n c l W hW.1).mono (by
    rintro e w' ⟨v, rfl, ⟨t, rfl, ht⟩, hb⟩
    cases t
    · exact ⟨absurd (ht.2 hs) (by decide), hb⟩
    · exact ⟨rfl, hb⟩)
  have cT : ∀ W, RowC W A n c l → Calls Try.prog 79 #[.slice A n c] W fun e w' => e = .returned (cz (talZ l)) ∧ Below W.heap.size W w' := fun W hW => gtally_any A n c l W hW.1
  have cD : ∀ W, Calls Try.prog 80 #[cz (talZ l), cz cc] W fun e w' => e = .returned (.tuple #[cz (gmulZ (talZ l) (ginvZ cc)), .bool true]) ∧ Below W.heap.size W w' := fun W => (gdiv_any (talZ l) cc (talZ_res l) hcc hc0 W).mono (by rintro e w' ⟨rfl, rfl⟩; exact ⟨rfl, Below.refl _ _⟩)
  have hadd := run_cz_add0 54 cc hcc
  have c0 := smC_0 (v : Int) (cz cc) s
  have c1 := smC_1 (v : Int) (cz cc) s
  have cid := smC_id (v : Int) (cz cc) s
  generalize cz (gmulZ (talZ l) (ginvZ cc)) = PV at *
  generalize cz (talZ l) = TV at *
  generalize cz cc = CV at *
  generalize smC (v : Int) CV s = SC at *
  have z1 : ¬ (v : Int) < 0 := by omega
  have z2 : ¬ (n : Int) < (v : Int) := by omega
  have z3 : ¬ (v : Int) < (n : Int) - 2 := by omega
  have q1 : wrap64 ((n : Int) - 2) = (n : Int) - 2 := by unfold wrap64; omega
  have q2 : wrap64 ((n : Int) - (v : Int)) = ((n - v : Nat) : Int) := by unfold wrap64; omega
  clear hs hcc hc0
  obtain ⟨d, hd⟩ : ∃ d, n - v = d := ⟨_, rfl⟩
  rw [hd] at cL q2
  have HD := hid (show (d : Int) = (n : Int) - (v : Int) by omega)
  clear hd hv1 hv2
  go_enter Try.func31, Try.ntmps31
  go_upto_region 1 with (fail)
  have hb := (Below.refl w.heap.size w).alloc (Nat.le_refl _) (.cells SC 56)
  have hbx := Blk.new w 56 SC
  replace h := h.below hb
  generalize w.alloc (.cells SC 56) = w1 at *
  have f0 := hbx.cell_ c0
  go_upto_region 3 with (first
    | (go_at_call 51; (with_reducible refine (cR _ h).mono ?_); rintro e2 w2 ⟨rfl, hb2⟩))
  replace h := h.below hb2
  replace hbx := hbx.below hb2
  replace hb := hb.trans (hb2.mono hb.size)
  replace f0 := hbx.cell_ c0
  clear hb2 cR
  go_upto_region 5 with (fail)
  have fc1 : ∀ p : LaterW w2, p.w.cell? ⟨w.heap.size, 1, none⟩ = some CV := fun p => (hbx.below p.h).cell_ c1
  have dT : ∀ p : LaterW w2, Calls Try.prog 79 #[.slice A n c] p.w fun e w' => e = .returned TV ∧ Below p.w.heap.size p.w w' := fun p => cT p.w (h.below p.h)
  have dD : ∀ p : LaterW w2, Calls Try.prog 80 #[TV, CV] p.w fun e w' => e = .returned (.tuple #[PV, .bool true]) ∧ Below p.w.heap.size p.w w' := fun p => cD p.w
  clear cT cD f0
  refine wp_region_later mixed (by kernel_rfl) ?_
  repeat (first
    | ((with_reducible refine wpQuiet_skip (by with_unfolding_all rfl) ?_); simp only [Act.put, List.setIfInBounds_toArray, List.set_cons_zero, List.set_cons_succ])
    | ((with_reducible refine wpQuiet_step (fun K hK => ?_)); go_simp; first | ((with_reducible refine hK _ ?_); clear hK K) | (with_reducible apply Exists.intro; (with_reducible refine ⟨fun _ => ?_, hK _ ?_⟩); ((first | (go_at_call 79; exact later_of (dT _)) | (go_at_call 80; exact later_of (dD _)))); clear hK K)))
  with_reducible refine wpQuiet_nil ?_
  intro _ hw'
  obtain ⟨p9, rfl⟩ := hw'
  have hp9 := p9.h
  generalize p9.w = w3 at *
  replace h := h.below hp9
  replace hbx := hbx.below hp9
  replace hb := hb.trans (hp9.mono hb.size)
  clear fc1 dT dD hp9 hadd
  have f0 := hbx.cell_ c0
  have fr : w3.rangeAt w.heap.size 2 (s.map u8v) := fun j u hj => hbx.cell_ (cid j u hj)
  have hlz := hb.size
  have HQ : Hid (Calls Try.prog 81 #[.slice A n c, .int .i64 ((n : Int) - (v : Int)), PV, .agg (List.map u8v s).toArray] w3 (LQ Good Bad (.bool true) (.bool false) w3)) := hid (by rw [← HD.out]; exact cL w3 h)
  clear cL c0 c1 cid q1 hbx h
  go_wp2_with (first
    | (with_reducible refine wpList_load_if (by with_unfolding_all rfl) 24 _ rfl _ _ rfl (s.map u8v) _ fr hu rfl hzq ?_)
    | (go_at_call 81; (with_reducible refine (HQ.out).mono ?_); rintro e4 w4 hq; obtain ⟨⟨v9, rfl, hv9⟩ | ⟨hv9, rfl⟩, hb4⟩ := hq))
  · go_ret2
    exact ⟨.inl ⟨v9, rfl, hv9⟩, hb.trans (hb4.mono hlz)⟩
  · go_ret2
    exact ⟨.inr ⟨hv9, rfl⟩, hb.trans (hb4.mono hlz)⟩
def L13 : List (List UInt8) := [idN 1, idN 3]
theorem lack_123 : gmulZ (talZ L123) (ginvZ (talZ L13)) = idZ (idN 2) := by
  have e1 : talZ L123 = gmulZ (idZ (idN 2)) (talZ L13) := by
    show talZ [idN 1, idN 2, idN 3] = gmulZ (idZ (idN 2)) (talZ [idN 1, idN 3])
    rw [talZ_cons, talZ_cons, talZ_cons (idN 1), ← gmulZ_assoc, ← gmulZ_assoc, gmulZ_comm (idZ (idN 1))]
  rw [e1]
  exact gdiv_back (idZ_res _) (talZ_res _) (talZ_ne _)
theorem id_12 : idZ (idN 1) ≠ idZ (idN 2) := by decide +kernel
theorem good_123 {W : World} {v : Value} (h : GoodOne L123 (idZ (idN 2)) (sumL L13) W v) : ∃ A c, v = .slice A 1 c ∧ RowC W A 1 c [idN 2] := by
  obtain ⟨k, a, A, c, rfl, h1, h2, h3, h4⟩ := h
  have b1 : oneB L123 (idZ (idN 2)) (sumL L13) (idN 1) = false := by
    unfold oneB
    rw [decide_eq_false id_12]; rfl
  have e2 : minL L123 [idN 2] = L13 := by decide +kernel
  have b2 : oneB L123 (idZ (idN 2)) (sumL L13) (idN 2) = true := by
    unfold oneB woB
    rw [e2, decide_eq_true rfl, decide_eq_true rfl]; rfl
  have hk : k < 3 := (List.getElem?_eq_some_iff.1 h1).1
  rcases (show k = 0 ∨ k = 1 ∨ k = 2 by omega) with rfl | rfl | rfl
  · cases h1; rw [b1] at h2; cases h2
  · cases h1; exact ⟨A, c, rfl, h4⟩
  · have := h3 1 (idN 2) (by omega) rfl
    rw [b2] at this; cases this
theorem bad_123 (h : ∀ x ∈ L123, oneB L123 (idZ (idN 2)) (sumL L13) x = false) : False := by
  have e2 : minL L123 [idN 2] = L13 := by decide +kernel
  have := h (idN 2) (List.mem_cons_of_mem _ (List.mem_cons_self ..))
  unfold oneB woB at this
  rw [e2, decide_eq_true rfl, decide_eq_true rfl] at this
  cases this
theorem steps_13 : Steps L13 2 := fun i x y hi hx hy => by
  obtain rfl : i = 0 := by omega
  cases hx; cases hy; decide
theorem two_row {w : World} {cs : Array Value} {X Y : List UInt8} (lx : X.length = 32) (ly : Y.length = 32) (h : ∀ j u, (X.map u8v ++ Y.map u8v)[j]? = some u → (w.alloc (.cells cs 24)).cell? ((⟨w.heap.size, 0, none⟩ : Addr).add j) = some u) :
    RowC (w.alloc (.cells cs 24)) (some ⟨w.heap.size, 0, none⟩) 2 2 [X, Y] :=
  ⟨⟨rfl, by decide, fun u hu => by simp only [List.mem_cons, List.not_mem_nil, or_false] at hu; rcases hu with rfl | rfl <;> assumption, .inr ⟨w.heap.size, 0, rfl, fun j u hj => by
    have := h j u (by simpa [idsV] using hj)
    rw [Addr.add_lit] at this
    exact this⟩⟩, .inr ⟨⟨_, rfl⟩, by decide, by decide⟩⟩
theorem lack_123_any (A B : Option Addr) (c : Nat) (w : World) (h : RowC w A 3 c L123) :
    Calls Try.prog 31 #[.slice A 3 c, .agg (smC 2 (cz (talZ L13)) (sumL L13))] w fun e w' => ∃ A c, e = .returned (.tuple #[.slice A 1 c, .int .i64 0]) ∧ RowC w' A 1 c [idN 2] ∧ Below w.heap.size w w' := by
  refine (lack_core A 3 c L123 2 (by decide) (by decide) (talZ L13) (talZ_res _) (talZ_ne _) (sumL L13) (sumL_length _) (GoodOne L123 (idZ (idN 2)) (sumL L13)) (∀ x ∈ L123, oneB L123 (idZ (idN 2)) (sumL L13) x = false) w h steps_123 (fun W hW => ?_)).mono ?_
  · rw [lack_123]
    exact lacking1_any A 3 c L123 (idZ (idN 2)) (idZ_res _) (sumL L13) (sumL_length _) W hW steps_123
  · rintro e w' ⟨⟨v, rfl, hv⟩ | ⟨hv, rfl⟩, hb⟩
    · obtain ⟨A', c', rfl, hr⟩ := good_123 hv
      exact ⟨A', c', rfl, hr, hb⟩
    · exact (bad_123 hv).elim
theorem wpList_store_smn {w : World} {ops : Array Oper} {rest : List Oper} {o : Oper} {a : Act} {Q : Exit → Act → World → Prop} {old : Array Value} (hgd : o.guard = none) (x y : Operand) (ho : o.op = .store 56 x y)
    (SC : Array Value) (hS : SC.size = 34) (h1 : SC.all (·.oneCell') = true) (hx : a.eval x = .pointer (some ⟨w.heap.size, 0, none⟩)) (hy : a.eval y = .agg SC) (hs : old.size = 34)
    (h : wpList Try.prog ops Q rest (a.put o.dst undef) (w.alloc (.cells SC 56))) : wpList Try.prog ops Q (o :: rest) a (w.alloc (.cells old 56)) :=
  wpList_store_new hgd 56 x y ho SC hx hy (by rw [hS]; exact infoSm) (by rw [hS, hs]) h1 h
theorem wpList_load_smx {w : World} {ops : Array Oper} {rest : List Oper} {o : Oper} {a : Act} {Q : Exit → Act → World → Prop} (hgd : Region.wanted o (yielded ops a.tmps) = true) (x : Operand) (ho : o.op = .load 56 x)
    (g : Nat) (SC : Array Value) (hx : a.eval x = .pointer (some ⟨g, 0, none⟩)) (hr : Blk w g 56 SC) (hs : SC.size = 34)
    (h : wpList Try.prog ops Q rest (a.put o.dst (.agg SC)) w) : wpList Try.prog ops Q (o :: rest) a w := by
  refine wpList_load_if hgd 56 x ho g 0 hx SC.toList _ (fun j v hj => by rw [Nat.zero_add]; exact hr.cell_ (by rw [← Array.getElem?_toList]; exact hj)) Try.underlying56 rfl ?_ ?_
  · rw [Array.length_toList, hs]; exact infoSm
  · rw [Array.toArray_toList]; exact h
set_option maxRecDepth 100000 in
set_option maxHeartbeats 8000000 in
theorem awake23_any (w : World) : Calls Try.prog 29 #[] w fun e w' => e = .returned (.bool true) ∧ Below w.heap.size w w' := by
  have hu := Try.underlying24
  have b1 : ∀ W, (Instr.build 24 #[(0, .int .u8 1)]).run Try.prog W = .ok (.agg (idVals (idN 1))) W := fun W => by kernel_rfl
  have b2 : ∀ W, (Instr.build 24 #[(0, .int .u8 2)]).run Try.prog W = .ok (.agg (idVals (idN 2))) W := fun W => by kernel_rfl
  have b3 : ∀ W, (Instr.build 24 #[(0, .int .u8 3)]).run Try.prog W = .ok (.agg (idVals (idN 3))) W := fun W => by kernel_rfl
  have l1 : (idN 1).length = 32 := by decide
  have l2 : (idN 2).length = 32 := by decide
  have l3 : (idN 3).length = 32 := by decide
  have cO : ∀ W A c, RowC W A 2 c L13 → Calls Try.prog 30 #[.slice A 2 c] W fun e w' => e = .returned (.tuple #[.agg (smC 2 (cz (talZ L13)) (sumL L13)), .int .i64 0]) ∧ Below W.heap.size W w' := fun W A c hW => rcof_yes A 2 c L13 W hW steps_13
  have cL : ∀ W A c, RowC W A 3 c L123 → Calls Try.prog 31 #[.slice A 3 c, .agg (smC 2 (cz (talZ L13)) (sumL L13))] W fun e w' => ∃ A c, e = .returned (.tuple #[.slice A 1 c, .int .i64 0]) ∧ RowC w' A 1 c [idN 2] ∧ Below W.heap.size W w' := fun W A c hW => lack_123_any A none c W hW
  have hS : (smC 2 (cz (talZ L13)) (sumL L13)).size = 34 := smC_size _ _ (sumL_length _)
  have hi := infoSmC 2 (cz (talZ L13)) (sumL_length L13)
  have h1c := smC_one 2 (talZ L13) (sumL L13)
  have he9 : ∀ W, (Op.equalIn 10000 24 (.agg (List.map u8v (idN 2)).toArray) (.agg #[.int .u8 2, .int .u8 0, .int .u8 0, .int .u8 0, .int .u8 0, .int .u8 0, .int .u8 0, .int .u8 0, .int .u8 0, .int .u8 0, .int .u8 0, .int .u8 0, .int .u8 0, .int .u8 0, .int .u8 0, .int .u8 0, .int .u8 0, .int .u8 0, .int .u8 0, .int .u8 0, .int .u8 0, .int .u8 0, .int .u8 0, .int .u8 0, .int .u8 0, .int .u8 0, .int .u8 0, .int .u8 0, .int .u8 0, .int .u8 0, .int .u8 0, .int .u8 0])).run Try.prog W = .ok true W := fun W => (ids_eq W (idN 2) (idN 2) l2 l2).trans (by rw [decide_eq_true rfl])
  have hL13 : L13 = [idN 1, idN 3] := rfl
  have hL123 : L123 = [idN 1, idN 2, idN 3] := rfl
  generalize smC 2 (cz (talZ L13)) (sumL L13) = SC at *
  generalize L13 = LA at *
  generalize L123 = LB at *
  generalize idN 1 = i1 at *
  generalize idN 2 = i2 at *
  generalize idN 3 = i3 at *
  have hz2 : (Try.prog.info? 24).map (·.size) = some (i2.map u8v).length := by rw [List.length_map, l2]; exact sizeId
  have he2 : ∀ W, (Op.equalIn 10000 24 (.agg (List.map u8v i2).toArray) (.agg (idVals i2))).run Try.prog W = .ok true W := fun W => (ids_eq W i2 i2 l2 l2).trans (by rw [decide_eq_true rfl])
  go_enter Try.func29, Try.ntmps29
  go_upto_region 2 with (first
    | (with_reducible refine wpList_build_byM rfl _ _ rfl _ _ b1 (by with_unfolding_all rfl) ?_)
    | (with_reducible refine wpList_build_byM rfl _ _ rfl _ _ b3 (by with_unfolding_all rfl) ?_)
    | (with_reducible refine wpList_build2 rfl _ _ rfl i1 i3 l1 l3 rfl rfl ?_; intro cs hr0; have hr := two_row l1 l3 hr0; rw [← hL13] at hr)
    | (go_at_call 30; (with_reducible refine (cO _ _ _ hr).mono ?_); rintro e2 w2 ⟨rfl, hb2⟩)
    | (with_reducible refine wpList_store_smn rfl _ _ rfl SC hS h1c rfl rfl (by with_unfolding_all rfl) ?_))
  have hb := (((Below.refl w.heap.size w).alloc (Nat.le_refl _) (.cells cs 24)).trans (hb2.mono (by simp))).alloc (Nat.le_trans (by simp) hb2.size) (.cells SC 56)
  have hx := Blk.new w2 56 SC
  obtain ⟨gx, hgx⟩ : ∃ gx, w2.heap.size = gx := ⟨_, rfl⟩
  rw [hgx] at hx
  simp only [hgx]
  clear hr0 hr hb2 hgx
  generalize w2.alloc (.cells SC 56) = w3 at *
  go_upto_region 3 with (first
    | (with_reducible refine wpList_build_byM rfl _ _ rfl _ _ b1 (by with_unfolding_all rfl) ?_)
    | (with_reducible refine wpList_build_byM rfl _ _ rfl _ _ b2 (by with_unfolding_all rfl) ?_)
    | (with_reducible refine wpList_build_byM rfl _ _ rfl _ _ b3 (by with_unfolding_all rfl) ?_)
    | (with_reducible refine wpList_build3 rfl _ _ _ rfl i1 i2 i3 l1 l2 l3 rfl rfl rfl ?_; intro cs2 hr; rw [← hL123] at hr; have hal := (Below.refl w3.heap.size w3).alloc (Nat.le_refl _) (.cells cs2 24); replace hx := hx.below hal; replace hb := hb.trans (hal.mono hb.size))
    | (with_reducible refine wpList_load_smx (by with_unfolding_all rfl) _ rfl gx SC rfl hx hS ?_)
    | (go_at_call 31; (with_reducible refine (cL _ _ _ hr).mono ?_); rintro e4 w4 ⟨A4, c4, rfl, hr4, hb4⟩))
  replace hb := hb.trans (hb4.mono hb.size)
  obtain ⟨g, q, hg, _, hix0⟩ := hr4.1.2.2.pick (k := 0) (a := i2) c4 rfl rfl
  have hix : ∀ W : World, (Instr.indexAt 22 (.slice A4 1 c4) (.int .i64 0)).run Try.prog W = .ok (.pointer (some ⟨g, q, none⟩)) W := hix0
  clear hr hb4 hr4 hix0 hx hal
  go_wp2_with (first
    | (with_reducible refine wpList_load_if (by with_unfolding_all rfl) 24 _ rfl _ _ rfl (i2.map u8v) _ hg hu rfl hz2 ?_)
    | (with_reducible refine wpList_build_byM rfl _ _ rfl _ _ b2 (by with_unfolding_all rfl) ?_))
  go_ret
  exact ⟨rfl, hb⟩
end Go.Proofs.Ytkajfpincbkfhaa

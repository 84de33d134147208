
/- grant's document: Apply; a grant is put. -/
import Derived.Test.YtapgiagpjplpdaaGreatRk9
set_option linter.unusedSimpArgs false
set_option linter.unusedVariables false
namespace Go.Proofs.YtapgiagpjplpdaaGreat
open Go.RowKit Go.Qc Go.Shelf
attribute [local go_sem] txt_size txt_append ib_fold txt_toL

theorem put_ok {Xs : List GrD} {Y : GrD} (h : ∀ X ∈ Xs, X.ok) (hY : Y.ok) : ∀ X ∈ putGD Xs Y, X.ok := by
  induction Xs with
  | nil => intro X hX; rw [putGD, List.mem_singleton] at hX; rw [hX]; exact hY
  | cons Z Zs ih =>
    intro X hX
    rw [putGD] at hX
    split at hX
    · rcases List.mem_cons.1 hX with h1 | h1
      · rw [h1]; exact hY
      · exact h X h1
    · rcases List.mem_cons.1 hX with h1 | h1
      · rw [h1]; exact h Z (by simp)
      · exact ih (fun W hW => h W (by simp [hW])) X h1
theorem build_tb2 (root : List UInt8) (hR : root.length = 32) (A : Option Addr) (n c : Nat) (W : World) : (Instr.build 31 #[(0, .agg (List.map u8v root).toArray), (1, .slice A n c)]).run Tryz.prog W = .ok (.agg (tbC root (.slice A n c))) W := by
  obtain ⟨x0, x1, x2, x3, x4, x5, x6, x7, x8, x9, x10, x11, x12, x13, x14, x15, x16, x17, x18, x19, x20, x21, x22, x23, x24, x25, x26, x27, x28, x29, x30, x31, rfl⟩ := list32g root hR
  kernel_rfl
theorem yieldsIf_build_by {ops : Array Oper} {S : World → Prop} {op : Oper} {a : Act} (hw : Region.wanted op (yielded ops a.tmps) = true) (ty : TypeId) (parts : Array (Nat × Operand)) (ho : op.op = .build ty parts)
    (ps : Array (Nat × Value)) (v : Value) (hb : ∀ W, (Instr.build ty ps).run Tryz.prog W = .ok v W) (hp : (parts.map fun (i, x) => (i, a.eval x)) = ps) : YieldsIf Tryz.prog ops S op v a :=
  .inl ⟨hw, fun w _ => by
    have hr := hb w
    rw [← hp] at hr
    unfold execOp
    simp only [ho]
    simp only [Sem.run_bind, hr, Result.andThen, Sem.run_pure]⟩
theorem wp_store_wholeK {P : Program} {w : World} {o : Oper} {a : Act} {K : Act → World → Prop} {Q : Exit → Act → World → Prop} (ty : TypeId) (x y : Operand) (ho : o.op = .store ty x y)
    (g : Nat) (old cs : Array Value) (t : TypeId) (hg : Blk w g t old) (hx : a.eval x = .pointer (some ⟨g, 0, none⟩)) (hy : a.eval y = .agg cs) (hi : (P.info? ty).map (·.size) = some cs.size) (hs : old.size = cs.size) (h1 : cs.all (·.oneCell') = true)
    (h : ∀ w', Blk w' g t cs → w.grownBy w' (some g) → K (a.put o.dst undef) w') : o.wp P a w K Q := by
  have hr : (Instr.storeAt ty (.pointer (some ⟨g, 0, none⟩)) (.agg cs)).run P w = .ok () (w.setRow g cs) := by
    simp only [Instr.storeAt, Instr.sureAddr, Sem.run_bind, Sem.run_pure, Result.andThen]
    exact run_storeVar_row _ g t ty old cs hg hi hs h1
  obtain ⟨hb, hgr⟩ := blk_over hg cs
  unfold Oper.wp
  simp [execOp, ho, hx, hy, hr]
  exact h _ hb hgr
set_option maxRecDepth 100000 in
set_option maxHeartbeats 20000000 in
theorem rapply19_grant (root : List UInt8) (hR : root.length = 32) (A : Option Addr) (n c : Nat) (Xs : List GrD) (hn : Xs.length = n) (bn : n ≤ 900) (hP : ∀ X ∈ Xs, X.p.length ≤ 1000000) (key : List UInt8) (hk : key.length = 32) (D : OpD) (hK : D.K.length = 32) (A' : Option Addr) (n' c' : Nat) (hlo : D.o.length = n') (bno : n' ≤ 1000000) (B' : Option Addr) (m' d' : Nat) (hln : D.n.length = m') (bmo : m' ≤ 1000000) (bp : D.p.length ≤ 1000000) (bt : D.t.length ≤ 1000000) (bo : ∀ x ∈ D.o, x.length ≤ 1000000000000) (bnn : ∀ x ∈ D.n, x.length ≤ 1000000000000) (w : World) (hr : GrRd w A Xs) (rA : Rd w A' (D.o.map strV)) (rB : Rd w B' (D.n.map strV)) (he : opE D = 0) (hk5 : D.k = 5) (hd : ¬ depV root Xs key D.p ≤ D.d) :
    Calls Tryz.prog 10 #[.agg (tbC root (.slice A n c)), .agg (idVals key), .agg (opC D A' n' c' B' m' d')] w (ApR root (applyD19 root Xs key D) w) := by
  have hu := Tryz.underlying23
  have hzk : (Tryz.prog.info? 23).map (·.size) = some (key.map u8v).length := by rw [List.length_map, hk]; exact sizeId
  have hzr : (Tryz.prog.info? 23).map (·.size) = some (root.map u8v).length := by rw [List.length_map, hR]; exact sizeId
  have hzd : (Tryz.prog.info? 23).map (·.size) = some (D.K.map u8v).length := by rw [List.length_map, hK]; exact sizeId
  have cR : ∀ W, Below w.heap.size w W → Calls Tryz.prog 28 #[.agg (opC D A' n' c' B' m' d')] W fun o w' => o = .returned (.int .i64 (opE D)) ∧ Below W.heap.size W w' := fun W h => rr13_any D hK A' n' c' hlo bno B' m' d' hln bmo bp bt bo bnn W (rA.below h) (rB.below h)
  have cD : ∀ W, GrRd W A Xs → Calls Tryz.prog 16 #[.agg (tbC root (.slice A n c)), .agg (List.map u8v key).toArray, .string (txt D.p)] W fun e w' => e = .returned (.int .i64 (depV root Xs key D.p)) ∧ Below W.heap.size W w' := fun W h => rdepth19_any root hR A n c Xs hn (by omega) hP key hk D.p bp W h
  have g0 : TbK (w.alloc (.cells (tbC root (.slice A n c)) 31)) w.heap.size root (.slice A n c) := ⟨Blk.new _ _ _⟩
  have hb0 := (Below.refl w.heap.size w).alloc (Nat.le_refl _) (.cells (tbC root (.slice A n c)) 31)
  have hs0 := World.size_alloc w (.cells (tbC root (.slice A n c)) 31)
  have HRD := hid hr
  have HN := hid hn
  have HP := hid hP
  obtain ⟨R, hRR⟩ : ∃ R, applyD19 root Xs key D = R := ⟨_, rfl⟩
  have HRR := hid hRR
  rw [hRR]
  clear hr hn hP hRR hlo bno hln bmo bt bo bnn rA rB
  have k1 : ¬ D.k < 5 := by omega
  have k2 : (D.k == 5) = true := by rw [hk5]; rfl
  obtain ⟨z, hz0⟩ : ∃ z, depV root Xs key D.p = z := ⟨_, rfl⟩
  rw [hz0] at cD
  obtain ⟨Y, hYe⟩ : ∃ Y, newG key D = Y := ⟨_, rfl⟩
  have hY : Y.ok := by rw [← hYe]; exact ⟨hK, hk⟩
  have bg : ∀ W, (Instr.build 52 #[(0, .string (txt D.p)), (1, .agg (List.map u8v D.K).toArray), (2, .agg (List.map u8v key).toArray), (3, .int .i64 D.d)]).run Tryz.prog W = .ok (.agg Y.cs) W := fun W => by
    have := build_grk Y hY W
    rw [← hYe] at this ⊢
    exact this
  have HR1 := hid (show R = (if inB Xs Y = true then (Xs, 7) else if D.K = root then (Xs, 7) else if 500 ≤ Xs.length then (Xs, 14) else (putGD Xs Y, 0)) by
    rw [← HRR.out]; unfold applyD19; rw [if_neg (by rw [he]; decide), if_neg k1, if_pos hk5, if_neg hd, hYe])
  rw [he] at cR
  rw [hz0] at hd
  have hd2 : D.d < z := by omega
  have hug := Tryz.underlying52
  have hzY : (Tryz.prog.info? 52).map (·.size) = some Y.cs.toList.length := by rw [Array.length_toList]; exact Rk_info Y hY
  obtain ⟨kr, hkr⟩ : ∃ t, decide (D.K = root) = t := ⟨_, rfl⟩
  have heq : ∀ W, (Op.equalIn 10000 23 (.agg (List.map u8v D.K).toArray) (.agg (List.map u8v root).toArray)).run Tryz.prog W = .ok kr W := fun W => (ids_eq W D.K root hK hR).trans (by rw [hkr])
  have HKR := hid hkr
  clear HRR he hz0 hk5 hYe hkr
  go_enter Tryz.func10, Tryz.ntmps10
  go_upto_region 1 with (fail)
  generalize w.alloc (.cells (tbC root (.slice A n c)) 31) = W1 at *
  have hx1 := (Below.refl W1.heap.size W1).alloc (Nat.le_refl _) (.cells (idVals key) 23)
  have hk1 := range_blk (Blk.new W1 23 (idVals key))
  rw [hs0] at hk1
  have hs1 := World.size_alloc W1 (.cells (idVals key) 23)
  have g1 := g0.below hx1
  have hb1 := hb0.trans (hx1.mono hb0.size)
  clear hx1 hb0 g0
  generalize W1.alloc (.cells (idVals key) 23) = W2 at *
  have hx2 := (Below.refl W2.heap.size W2).alloc (Nat.le_refl _) (.cells (opC D A' n' c' B' m' d') 34)
  have hk2 := hk1.below hx2
  have ho2 := OpX.new W2 D A' n' c' B' m' d'
  rw [hs1, hs0] at ho2
  have hs2 := World.size_alloc W2 (.cells (opC D A' n' c' B' m' d') 34)
  have g2 := g1.below hx2
  have hb2 := hb1.trans (hx2.mono hb1.size)
  clear hx2 hb1 g1 hk1
  generalize W2.alloc (.cells (opC D A' n' c' B' m' d') 34) = W3 at *
  generalize hZ : (Obj.cells _ 31) = Z
  obtain ⟨zc, rfl, hzc⟩ : ∃ zc : Array Value, Z = Obj.cells zc 31 ∧ zc.size = 33 := ⟨_, hZ.symm, rfl⟩
  clear hZ
  have hx3 := (Below.refl W3.heap.size W3).alloc (Nat.le_refl _) (.cells zc 31)
  have hz3 := Blk.new W3 31 zc
  rw [hs2, hs1, hs0] at hz3
  have HS := hid (ApS.mk (g2.below hx3) (hk2.below hx3) (ho2.below hx3) hz3 (hb2.trans (hx3.mono hb2.size)) (by rw [World.size_alloc, hs2, hs1, hs0]; omega) : ApS w zc root (.slice A n c) key D A' n' c' B' m' d' (W3.alloc (.cells zc 31)))
  clear hx3 hz3 hb2 g2 hk2 ho2 hs0 hs1 hs2
  generalize W3.alloc (.cells zc 31) = W4 at *
  have hox := HS.out.o
  have hbS := HS.out.b
  go_wp2_with (first
    | (with_reducible refine wpList_load_opx (by with_unfolding_all rfl) _ rfl _ rfl hox hK ?_)
    | (go_at_call 28; (with_reducible refine (cR _ hbS).mono ?_); rintro e2 w2 ⟨rfl, hb2⟩; replace HS := hid (HS.out.below hb2); have hT := HS.out.t; have hz := HS.out.z; have c0 := HS.out.o.c0; clear hox))
  have hT := HS.out.t
  have f1 : ∀ w', (∃ p : LaterW w2, w' = p.w) → w'.rangeAt w.heap.size 0 (tbC root (.slice A n c)).toList := range_later HS.out.t.all
  have f2 : ∀ P : LaterW w2, P.w.cell? ⟨w.heap.size + 1 + 1, 1, none⟩ = some (.string (txt D.p)) := fun P => (HS.out.o.below P.h).c1
  have f3 : ∀ P : LaterW w2, P.w.cell? ⟨w.heap.size + 1 + 1, 38, none⟩ = some (.int .i64 D.d) := fun P => (HS.out.o.below P.h).c38 hK
  have fk := range_later HS.out.k
  have cP := fun P : LaterW w2 => cD P.w (HRD.out.below (HS.out.b.trans (P.h.mono HS.out.b.size)))
  refine wp_region_later mixed10 (by kernel_rfl) ?_
  repeat (first
    | ((with_reducible refine wpQuiet_load_tb (by with_unfolding_all rfl) _ rfl w.heap.size root hR (.slice A n c) rfl f1 ?_); simp only [Act.put, List.setIfInBounds_toArray, List.set_cons_zero, List.set_cons_succ])
    | ((with_reducible refine wpQuiet_load_if (by with_unfolding_all rfl) 23 _ rfl _ _ rfl (key.map u8v) _ fk hu (by with_unfolding_all rfl) hzk ?_); simp only [Act.put, List.setIfInBounds_toArray, List.set_cons_zero, List.set_cons_succ])
    | ((with_reducible refine wpQuiet_step (fun K hK => ?_)); go_simp; first | ((with_reducible refine hK _ ?_); clear hK K) | (with_reducible apply Exists.intro; (with_reducible refine ⟨fun P => ?_, hK _ ?_⟩); ((go_at_call 16; exact later_of (cP P))); clear hK K)))
  with_reducible refine wpQuiet_nil ?_
  intro _ hw9
  obtain ⟨P9, rfl⟩ := hw9
  replace HS := hid (HS.out.below P9.h)
  generalize P9.w = w3 at *
  clear f1 f2 f3 fk cP hT hz c0 cD
  have hT := HS.out.t
  have hz := HS.out.z
  have c1 := HS.out.o.c1
  have c38 := HS.out.o.c38 hK
  have fk := HS.out.k
  have fK := HS.out.o.key
  have hal := (Below.refl w3.heap.size w3).alloc (Nat.le_refl _) (.cells Y.cs 52)
  have hbx := RkX.new w3 Y
  go_wp2_with (first
    | (with_reducible refine wpList_load_if (by with_unfolding_all rfl) 23 _ rfl _ _ rfl (D.K.map u8v) _ fK hu rfl hzd ?_)
    | (with_reducible refine wpList_load_if (by with_unfolding_all rfl) 23 _ rfl _ _ rfl (key.map u8v) _ fk hu rfl hzk ?_)
    | (with_reducible refine wpList_build_by rfl _ _ rfl _ _ bg (by with_unfolding_all rfl) ?_)
    | (with_reducible refine wpList_store_rkn rfl _ _ rfl rfl rfl hY (by with_unfolding_all rfl) ?_))
  have hng : w3.heap.size ≠ w.heap.size + 1 + 1 + 1 := by have := HS.out.n; omega
  replace HS := hid (HS.out.below hal)
  have hn4 := HS.out.n
  clear c1 c38 fk fK hal hT hz
  obtain ⟨g9, hg9⟩ : ∃ g9, w3.heap.size = g9 := ⟨_, rfl⟩
  rw [hg9] at hbx hng ⊢
  generalize w3.alloc (.cells Y.cs 52) = w4 at *
  have HBX := hid hbx
  clear hbx hg9 bg
  go_loopw [10] (fun i wr => ∃ k : Nat, k ≤ n ∧ i = .int .i64 k ∧ Hid (∀ X ∈ Xs.take k, (cmpG X Y == 0) = false) ∧ Hid (ApS w zc root (.slice A n c) key D A' n' c' B' m' d' wr) ∧ Hid (RkX wr g9 Y)) (fun i _ => n - (intOf i).toNat)
  case atStart => exact ⟨0, Nat.zero_le _, rfl, hid (by simp), HS, HBX⟩
  case round =>
    clear HS HBX hn4
    obtain ⟨k, hk9, rfl, HNO, HS, HBX⟩ := hrel
    have f32 := HS.out.t.row hR
    have hT := HS.out.t
    have hz := HS.out.z
    by_cases hlt : k < n
    · obtain ⟨X, hX⟩ : ∃ X, Xs[k]? = some X := ⟨_, List.getElem?_eq_getElem (by have := HN.out; omega)⟩
      obtain ⟨g, q, hg0, hXo, hix⟩ := HRD.out.pickR c HN.out hX
      have z1 : (k : Int) < n := by omega
      have hg := hg0.below HS.out.b
      have f1 : ∀ P : LaterW wr, P.w.cell? ⟨w.heap.size, 32, none⟩ = some (.slice A n c) := fun P => (HS.out.t.below P.h).row hR
      have fX := range_later hg
      have fY : ∀ w', (∃ p : LaterW wr, w' = p.w) → w'.rangeAt g9 0 Y.cs.toList := range_later (fun j u hj => by rw [Nat.zero_add]; exact HBX.out.b.cell_ (by rw [← Array.getElem?_toList]; exact hj))
      have hzX : (Tryz.prog.info? 52).map (·.size) = some X.cs.toList.length := by rw [Array.length_toList]; exact Rk_info X hXo
      obtain ⟨t, ht⟩ : ∃ t, (cmpG X Y == 0) = t := ⟨_, rfl⟩
      have hge : ∀ W, (Op.equalIn 10000 52 (.agg X.cs.toList.toArray) (.agg Y.cs.toList.toArray)).run Tryz.prog W = .ok t W := fun W => by rw [Array.toArray_toList, Array.toArray_toList, grk_eq X Y hXo hY W, ht]
      have HTT := hid ht
      have HXM := hid (List.mem_of_getElem? hX)
      have HXT := hid (show Xs.take (k + 1) = Xs.take k ++ [X] by rw [List.take_add_one, hX]; rfl)
      have HLT := hid (show k + 1 ≤ n from hlt)
      clear hX hg0 hlt hg ht
      go_wp2_with (fail)
      refine wp_region_later mixed10 (by kernel_rfl) ?_
      repeat (first
        | ((with_reducible refine wpQuiet_load_if (by with_unfolding_all rfl) 52 _ rfl _ _ rfl X.cs.toList _ fX hug (by with_unfolding_all rfl) hzX ?_); simp only [Act.put, List.setIfInBounds_toArray, List.set_cons_zero, List.set_cons_succ])
        | ((with_reducible refine wpQuiet_load_if (by with_unfolding_all rfl) 52 _ rfl _ _ rfl Y.cs.toList _ fY hug (by with_unfolding_all rfl) hzY ?_); simp only [Act.put, List.setIfInBounds_toArray, List.set_cons_zero, List.set_cons_succ])
        | ((with_reducible refine wpQuiet_step (fun K hK => ?_)); go_simp; ((with_reducible refine hK _ ?_); clear hK K)))
      with_reducible refine wpQuiet_nil ?_
      intro _ hw9
      obtain ⟨P9, rfl⟩ := hw9
      replace HS := hid (HS.out.below P9.h)
      replace HBX := hid (HBX.out.below P9.h)
      generalize P9.w = w8 at *
      clear f1 fX fY hT hz f32
      have hT := HS.out.t
      have hz := HS.out.z
      cases t with
      | true =>
        have HRV := hid (show R = (Xs, 7) by rw [HR1.out, if_pos (show inB Xs Y = true from List.any_eq_true.2 ⟨X, HXM.out, HTT.out⟩)])
        go_wp2_with (first
          | (with_reducible refine wpList_load_tb (by with_unfolding_all rfl) _ rfl w.heap.size root hR _ rfl hT ?_)
          | ((with_reducible refine wpList_store_tb rfl _ _ rfl (w.heap.size + 1 + 1 + 1) root hR _ rfl hz hzc rfl rfl ?_); intro w9 ho9 hg9))
        have hb9 := below_grownS HS.out.b hg9 (by omega)
        refine bodyPost_ret (ret_tb2 rfl _ _ _ root hR _ rfl ho9) rfl (ApR.intro HRV.out ⟨A, c, by rw [HN.out], HRD.out.below hb9⟩ hb9)
      | false =>
        go_wp2
        go_roundw
        case rel => exact ⟨k + 1, HLT.out, by go_num, hid (fun Z hZ => by rw [HXT.out] at hZ; rcases List.mem_append.1 hZ with h | h; exact HNO.out Z h; rw [List.mem_singleton.1 h]; exact HTT.out), HS, HBX⟩
        case measure => exact meas_k1 HLT.out
    · obtain rfl : k = n := by omega
      have z1 : ¬ (k : Int) < k := by omega
      have hno : ¬ inB Xs Y = true := fun h => by
        obtain ⟨X, hX, h2⟩ := List.any_eq_true.1 h
        have := HNO.out X (by rw [List.take_of_length_le (by rw [HN.out]; exact Nat.le_refl _)]; exact hX)
        rw [this] at h2; cases h2
      have fK := HS.out.o.key
      have fr := hT.key
      cases kr with
      | true =>
        have HRV := hid (show R = (Xs, 7) by rw [HR1.out, if_neg hno, if_pos (of_decide_eq_true HKR.out)])
        clear hno
        go_wp2_with (first
          | (with_reducible refine wpList_load_if (by with_unfolding_all rfl) 23 _ rfl _ _ rfl (D.K.map u8v) _ fK hu rfl hzd ?_)
          | (with_reducible refine wpList_load_if (by with_unfolding_all rfl) 23 _ rfl _ _ rfl (root.map u8v) _ fr hu rfl hzr ?_)
          | (with_reducible refine wpList_load_tb (by with_unfolding_all rfl) _ rfl w.heap.size root hR _ rfl hT ?_)
          | ((with_reducible refine wpList_store_tb rfl _ _ rfl (w.heap.size + 1 + 1 + 1) root hR _ rfl hz hzc rfl rfl ?_); intro w9 ho9 hg9))
        have hb9 := below_grownS HS.out.b hg9 (by omega)
        refine bodyPost_ret (ret_tb2 rfl _ _ _ root hR _ rfl ho9) rfl (ApR.intro HRV.out ⟨A, c, by rw [HN.out], HRD.out.below hb9⟩ hb9)
      | false =>
        have hnr : ¬ D.K = root := of_decide_eq_false HKR.out
        by_cases h5 : 500 ≤ k
        · have z5 : ¬ (k : Int) < 500 := by omega
          have HRV := hid (show R = (Xs, 14) by rw [HR1.out, if_neg hno, if_neg hnr, if_pos (by rw [HN.out]; exact h5)])
          clear hno hnr
          go_wp2_with (first
            | (with_reducible refine wpList_load_if (by with_unfolding_all rfl) 23 _ rfl _ _ rfl (D.K.map u8v) _ fK hu rfl hzd ?_)
            | (with_reducible refine wpList_load_if (by with_unfolding_all rfl) 23 _ rfl _ _ rfl (root.map u8v) _ fr hu rfl hzr ?_)
            | (with_reducible refine wpList_load_tb (by with_unfolding_all rfl) _ rfl w.heap.size root hR _ rfl hT ?_)
            | ((with_reducible refine wpList_store_tb rfl _ _ rfl (w.heap.size + 1 + 1 + 1) root hR _ rfl hz hzc rfl rfl ?_); intro w9 ho9 hg9))
          have hb9 := below_grownS HS.out.b hg9 (by omega)
          refine bodyPost_ret (ret_tb2 rfl _ _ _ root hR _ rfl ho9) rfl (ApR.intro HRV.out ⟨A, c, by rw [HN.out], HRD.out.below hb9⟩ hb9)
        · have z5 : (k : Int) < 500 := by omega
          have HRV := hid (show R = (putGD Xs Y, 0) by rw [HR1.out, if_neg hno, if_neg hnr, if_neg (by rw [HN.out]; exact h5)])
          clear hno hnr
          go_wp2_with (first
            | (with_reducible refine wpList_load_if (by with_unfolding_all rfl) 23 _ rfl _ _ rfl (D.K.map u8v) _ fK hu rfl hzd ?_)
            | (with_reducible refine wpList_load_if (by with_unfolding_all rfl) 23 _ rfl _ _ rfl (root.map u8v) _ fr hu rfl hzr ?_))
          have HPOK := hid (show ∀ X ∈ putGD Xs Y, X.ok from put_ok (HRD.out.1) hY)
          have cPut : ∀ W, GrRd W A Xs → Calls Tryz.prog 30 #[.slice A k c, .agg Y.cs] W fun e w' => ∃ v, e = .returned v ∧ RkOw w' W.heap.size v (putGD Xs Y).length (putGD Xs Y) ∧ Below W.heap.size W w' := fun W h => rput19_any A k c Xs Y hY W HN.out bn h
          have hn5 : w.heap.size + 1 + 1 + 1 < wr.drew.heap.size := HS.out.n
          have hne9 : g9 ≠ w.heap.size + 1 + 1 + 1 := hng
          replace HS := hid (HS.out.below (below_drew10 wr))
          replace HBX := hid (HBX.out.below (below_drew10 wr))
          clear hT hz fK fr f32
          refine wp_region_held_drew (S := fun W => W.rangeAt w.heap.size 0 (root.map u8v) ∧ W.cell? ⟨w.heap.size, 32, none⟩ = some (.slice A k c) ∧ W.rangeAt g9 0 Y.cs.toList) (by kernel_rfl) ?_ (fun hHeld => ?_)
          · exact ⟨HS.out.t.key, HS.out.t.row hR, fun j u hj => by rw [Nat.zero_add]; exact HBX.out.b.cell_ (by rw [← Array.getElem?_toList]; exact hj)⟩
          refine' wpAnyH_take (i := 0) (v := .pointer (some ⟨w.heap.size, 0, none⟩)) rfl (by kernel_rfl) (by kernel_rfl) (by kernel_rfl) (fun _ _ _ h => h) (Or.inl ⟨by rfl, fun w' hw' => by go_simp⟩) hHeld ?_
          try simp only [Act.put, List.getElem_toArray, List.getElem_cons_succ, List.getElem_cons_zero, List.setIfInBounds_toArray, List.set_cons_zero, List.set_cons_succ]
          refine' wpAnyH_take (i := 1) (v := _) rfl (by kernel_rfl) (by kernel_rfl) (by kernel_rfl) (fun _ _ _ h => h) (yieldsIf_load_mid (by rfl) 23 _ rfl _ _ rfl (root.map u8v) _ (fun w' h => h.1) hu rfl hzr) hHeld ?_
          try simp only [Act.put, List.getElem_toArray, List.getElem_cons_succ, List.getElem_cons_zero, List.setIfInBounds_toArray, List.set_cons_zero, List.set_cons_succ]
          refine' wpAnyH_take (i := 2) (v := .pointer (some ⟨w.heap.size, 32, none⟩)) rfl (by kernel_rfl) (by kernel_rfl) (by kernel_rfl) (fun _ _ _ h => h) (Or.inl ⟨by rfl, fun w' hw' => by go_simp⟩) hHeld ?_
          try simp only [Act.put, List.getElem_toArray, List.getElem_cons_succ, List.getElem_cons_zero, List.setIfInBounds_toArray, List.set_cons_zero, List.set_cons_succ]
          refine' wpAnyH_take (i := 3) (v := .slice A k c) rfl (by kernel_rfl) (by kernel_rfl) (by kernel_rfl) (fun _ _ _ h => h) (Or.inl ⟨by rfl, fun w' hw' => by have hv := hw'.2.1; go_simp⟩) hHeld ?_
          try simp only [Act.put, List.getElem_toArray, List.getElem_cons_succ, List.getElem_cons_zero, List.setIfInBounds_toArray, List.set_cons_zero, List.set_cons_succ]
          refine' wpAnyH_take (i := 4) (v := _) rfl (by kernel_rfl) (by kernel_rfl) (by kernel_rfl) (fun _ _ _ h => h) (yieldsIf_load_mid (by rfl) 52 _ rfl _ _ rfl Y.cs.toList _ (fun w' h => h.2.2) hug rfl hzY) hHeld ?_
          try simp only [Act.put, List.getElem_toArray, List.getElem_cons_succ, List.getElem_cons_zero, List.setIfInBounds_toArray, List.set_cons_zero, List.set_cons_succ]
          simp only [Array.toArray_toList]
          refine wpAnyH_ready (rs := [5]) (by kernel_rfl) (by simp) ?_
          refine AllReadyH.cons rfl (fun K hK => ?_) AllReadyH.nil
          go_simp
          (with_reducible refine (cPut _ (HRD.out.below HS.out.b)).mono ?_)
          rintro e5 w5 ⟨v5, rfl, hown5, hb5⟩
          obtain ⟨A5, c5, rfl, hl5, _, _, _⟩ := hown5.rd HPOK.out
          replace HS := hid (HS.out.below hb5)
          replace HBX := hid (HBX.out.below hb5)
          refine hK.out _ _ ⟨HS.out.t.key, HS.out.t.row hR, fun j u hj => by rw [Nat.zero_add]; exact HBX.out.b.cell_ (by rw [← Array.getElem?_toList]; exact hj)⟩ (fun hHeld => ?_)
          clear hK K hb5
          try simp only [Act.put, List.getElem_toArray, List.getElem_cons_succ, List.getElem_cons_zero, List.setIfInBounds_toArray, List.set_cons_zero, List.set_cons_succ]
          refine' wpAnyH_take (i := 6) (v := .agg (tbC root (.slice A5 (putGD Xs Y).length c5))) rfl (by kernel_rfl) (by kernel_rfl) (by kernel_rfl) (fun _ _ _ h => h) (yieldsIf_build_by (by rfl) _ _ rfl _ _ (build_tb2 root hR A5 (putGD Xs Y).length c5) (by with_unfolding_all rfl)) hHeld ?_
          try simp only [Act.put, List.getElem_toArray, List.getElem_cons_succ, List.getElem_cons_zero, List.setIfInBounds_toArray, List.set_cons_zero, List.set_cons_succ]
          refine wpAnyH_ready (rs := [7]) (by kernel_rfl) (by simp) ?_
          refine AllReadyH.cons rfl (fun K hK => ?_) AllReadyH.nil
          refine wp_store_wholeK 31 _ _ rfl (w.heap.size + 1 + 1 + 1) zc (tbC root (.slice A5 (putGD Xs Y).length c5)) 31 HS.out.z rfl rfl (infoTb root hR _) (by rw [tbC_size root hR, hzc]) (tbC_one root _ rfl) ?_
          intro w9 k9 hg9
          have ho9 : TbK w9 (w.heap.size + 1 + 1 + 1) root (.slice A5 (putGD Xs Y).length c5) := ⟨k9⟩
          have hb9 := below_grownS HS.out.b hg9 (by omega)
          have hown9 := hown5.kept_ hg9 hn5
          have ht9 : TbK w9 w.heap.size root (.slice A k c) := ⟨blk_grown HS.out.t.b hg9 (by omega)⟩
          have hx9 : RkX w9 g9 Y := ⟨blk_grown HBX.out.b hg9 hne9⟩
          refine hK.out _ _ ⟨ht9.key, ht9.row hR, fun j u hj => by rw [Nat.zero_add]; exact hx9.b.cell_ (by rw [← Array.getElem?_toList]; exact hj)⟩ (fun hHeld => ?_)
          clear hK K
          try simp only [Act.put, List.getElem_toArray, List.getElem_cons_succ, List.getElem_cons_zero, List.setIfInBounds_toArray, List.set_cons_zero, List.set_cons_succ]
          refine' wpAnyH_take (i := 8) (v := .int .i64 0) rfl (by kernel_rfl) (by kernel_rfl) (by kernel_rfl) (fun _ _ _ h => h) (Or.inl ⟨by rfl, fun w' hw' => by go_simp⟩) hHeld ?_
          try simp only [Act.put, List.getElem_toArray, List.getElem_cons_succ, List.getElem_cons_zero, List.setIfInBounds_toArray, List.set_cons_zero, List.set_cons_succ]
          refine wpAnyH_done (by kernel_rfl) ?_ _
          go_wp2
          refine bodyPost_ret (ret_tb2 rfl _ _ _ root hR _ rfl ho9) rfl (ApR.intro HRV.out (hown9.t HPOK.out) hb9)
end Go.Proofs.YtapgiagpjplpdaaGreat

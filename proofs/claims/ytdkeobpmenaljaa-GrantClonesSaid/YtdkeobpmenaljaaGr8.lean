
/- grant: applied, Apply. -/
import Derived.Test.YtdkeobpmenaljaaGr7
set_option linter.unusedSimpArgs false
set_option linter.unusedVariables false
namespace Go.Proofs.Ytdkeobpmenaljaa
open Go.RowKit Go.Qc Go.Shelf
attribute [local go_sem] txt_size txt_append ib_fold txt_toL

theorem list32g (K : List UInt8) (h : K.length = 32) : ∃ x0 x1 x2 x3 x4 x5 x6 x7 x8 x9 x10 x11 x12 x13 x14 x15 x16 x17 x18 x19 x20 x21 x22 x23 x24 x25 x26 x27 x28 x29 x30 x31, K = [x0, x1, x2, x3, x4, x5, x6, x7, x8, x9, x10, x11, x12, x13, x14, x15, x16, x17, x18, x19, x20, x21, x22, x23, x24, x25, x26, x27, x28, x29, x30, x31] := by
  match K, h with
  | [x0, x1, x2, x3, x4, x5, x6, x7, x8, x9, x10, x11, x12, x13, x14, x15, x16, x17, x18, x19, x20, x21, x22, x23, x24, x25, x26, x27, x28, x29, x30, x31], _ => exact ⟨_, _, _, _, _, _, _, _, _, _, _, _, _, _, _, _, _, _, _, _, _, _, _, _, _, _, _, _, _, _, _, _, rfl⟩

set_option maxRecDepth 100000 in
set_option maxHeartbeats 20000000 in
theorem build_gr (p K b : List UInt8) (d : Int) (hK : K.length = 32) (hb : b.length = 32) (W : World) :
    (Instr.build 113 #[(0, .string (txt p)), (1, .agg (List.map u8v K).toArray), (2, .agg (List.map u8v b).toArray), (3, .int .i64 d)]).run Try.prog W = .ok (.agg (GrD.cs ⟨p, K, b, d⟩)) W := by
  obtain ⟨x0, x1, x2, x3, x4, x5, x6, x7, x8, x9, x10, x11, x12, x13, x14, x15, x16, x17, x18, x19, x20, x21, x22, x23, x24, x25, x26, x27, x28, x29, x30, x31, rfl⟩ := list32g K hK
  obtain ⟨y0, y1, y2, y3, y4, y5, y6, y7, y8, y9, y10, y11, y12, y13, y14, y15, y16, y17, y18, y19, y20, y21, y22, y23, y24, y25, y26, y27, y28, y29, y30, y31, rfl⟩ := list32g b hb
  kernel_rfl
theorem wpList_build_gr {w : World} {ops : Array Oper} {rest : List Oper} {o : Oper} {a : Act} {Q : Exit → Act → World → Prop} (hgd : o.guard = none) (parts : Array (Nat × Operand)) (ho : o.op = .build 113 parts)
    (X : GrD) (hX : X.ok) (hp : (parts.map fun (i, x) => (i, a.eval x)) = #[(0, .string (txt X.p)), (1, .agg (List.map u8v X.k).toArray), (2, .agg (List.map u8v X.b).toArray), (3, .int .i64 X.d)])
    (h : wpList Try.prog ops Q rest (a.put o.dst (.agg X.cs)) w) : wpList Try.prog ops Q (o :: rest) a w := by
  refine wpList_plain hgd fun K' hK' => ?_
  have hr := build_gr X.p X.k X.b X.d hX.1 hX.2 w
  rw [← hp] at hr
  unfold Oper.wp
  simp only [execOp, ho]
  simp only [Sem.run_bind, hr, Result.andThen, Sem.run_pure]
  exact hK' _ _ h
/-- What an operation makes of the grants, and the error. -/
abbrev newG (key : List UInt8) (D : OpD) : GrD := ⟨D.p, D.K, key, D.d⟩
def appG (root : List UInt8) (Xs : List GrD) (key : List UInt8) (D : OpD) : List GrD × Int :=
  if opE D ≠ 0 then ([], opE D)
  else if ¬ (D.k = 5 ∨ D.k = 6) then ([], 1)
  else if D.k = 6 then
    (if depV root Xs key D.p < 1 then ([], 10)
     else if (leftG D.K D.p Xs).length = Xs.length then ([], 6)
     else (iterH root Xs.length (leftG D.K D.p Xs), 0))
  else if depV root Xs key D.p ≤ D.d then ([], 10)
  else if thereB Xs (newG key D) (plG Xs (newG key D)) = true ∨ D.K = root then ([], 7)
  else if 500 ≤ Xs.length then ([], 14)
  else (putG Xs (newG key D), 0)
/-- What applied answers. -/
def ApQ2 (R : List GrD × Int) (base : Nat) (e : Ending) (w' : World) : Prop :=
  (R.2 ≠ 0 ∧ e = .returned (.tuple #[.slice none 0 0, .int .i64 R.2])) ∨ (R.2 = 0 ∧ ∃ v, e = .returned (.tuple #[v, .int .i64 0]) ∧ GrOw w' base v R.1.length R.1)
theorem iterH_ok {root : List UInt8} : ∀ (m : Nat) (l : List GrD), (∀ X ∈ l, X.ok) → ∀ X ∈ iterH root m l, X.ok
  | 0, l, h => h
  | m + 1, l, h => iterH_ok m (holdG root l) (fun X hX => h X (List.mem_filter.1 hX).1)

set_option maxRecDepth 100000 in
set_option maxHeartbeats 20000000 in
theorem gapplied_any (D : OpD) (hK : D.K.length = 32) (A : Option Addr) (n c : Nat) (B : Option Addr) (m d : Nat) (hlo : D.o.length = n) (bno : n ≤ 1000000) (hln : D.n.length = m) (bmo : m ≤ 1000000) (root : List UInt8) (hR : root.length = 32) (tb : Nat) (AG : Option Addr) (N C : Nat) (Xs : List GrD) (hn : Xs.length = N) (bn : N ≤ 900) (hNC : N ≤ C) (hA : AG = none → N = 0 ∧ C = 0) (key : List UInt8) (hk : key.length = 32) (w : World) (ht : TbX w tb root (.slice AG N C)) (hr : GrRd w AG Xs) (rA : Rd w A (D.o.map strV)) (rB : Rd w B (D.n.map strV)) :
    Calls Try.prog 60 #[.pointer (some ⟨tb, 0, none⟩), .agg (idVals key), .agg (opC D A n c B m d)] w fun e w' => ApQ2 (appG root Xs key D) w.heap.size e w' ∧ Below w.heap.size w w' := by
  have hka := range_blk (Blk.new w 23 (idVals key))
  have hba := (Below.refl w.heap.size w).alloc (Nat.le_refl _) (.cells (idVals key) 23)
  have hBA := (Below.refl (w.alloc (.cells (idVals key) 23)).heap.size (w.alloc (.cells (idVals key) 23))).alloc (Nat.le_refl _) (.cells (opC D A n c B m d) 33)
  have hbo := hba.alloc hba.size (.cells (opC D A n c B m d) 33)
  have hox := OpX.new (w.alloc (.cells (idVals key) 23)) D A n c B m d
  rw [World.size_alloc] at hox
  have hkk := hka.below hBA
  have ht2 := ht.below hbo
  have hr2 := hr.below hbo
  have rA2 := rA.below hbo
  have rB2 := rB.below hbo
  have hu := Try.underlying23
  have hzk : (Try.prog.info? 23).map (·.size) = some (key.map u8v).length := by rw [List.length_map, hk]; exact sizeId
  have hzd : (Try.prog.info? 23).map (·.size) = some (D.K.map u8v).length := by rw [List.length_map, hK]; exact sizeId
  obtain ⟨R, hRR⟩ : ∃ R, appG root Xs key D = R := ⟨_, rfl⟩
  have HRR := hid hRR
  rw [hRR]
  have cR := oright_any D hK A n c hlo bno B m d hln bmo _ rA2 rB2
  clear hRR hka hba hBA ht hr rA rB rA2 rB2
  by_cases he : opE D ≠ 0
  · have z1 : (opE D == 0) = false := by rw [beq_eq_false_iff_ne]; exact he
    have hRv : R = ([], opE D) := by rw [← HRR.out]; unfold appG; rw [if_pos he]
    have HRV := hid hRv
    clear hRv
    go_enter Try.func60, Try.ntmps60
    go_wp2_with (first
      | (with_reducible refine wpList_load_opx (by with_unfolding_all rfl) _ rfl _ rfl hox hK ?_)
      | (go_at_call 100; (with_reducible refine cR.mono ?_); rintro e2 w2 ⟨rfl, hb2⟩; replace hox := hox.below hb2))
    all_goals first
      | (go_ret2; exact ⟨.inl ⟨by rw [HRV.out]; exact he, by rw [HRV.out]; rfl⟩, hbo.trans (hb2.mono hbo.size)⟩)
      | (exfalso; simp_all)
  · have he0 : opE D = 0 := by simpa using he
    have hR1 : R = (if ¬ (D.k = 5 ∨ D.k = 6) then (([], 1) : List GrD × Int) else if D.k = 6 then (if depV root Xs key D.p < 1 then ([], 10) else if (leftG D.K D.p Xs).length = Xs.length then ([], 6) else (iterH root Xs.length (leftG D.K D.p Xs), 0)) else if depV root Xs key D.p ≤ D.d then ([], 10) else if thereB Xs (newG key D) (plG Xs (newG key D)) = true ∨ D.K = root then ([], 7) else if 500 ≤ Xs.length then ([], 14) else (putG Xs (newG key D), 0)) := by rw [← HRR.out]; unfold appG; rw [if_neg he]
    have HR1 := hid hR1
    rw [he0] at cR
    clear hR1 HRR he he0
    by_cases hp : D.k = 5 ∨ D.k = 6
    · have cP := fun W => policy_any D A n c B m d W
      rw [decide_eq_true hp] at cP
      go_enter Try.func60, Try.ntmps60
      go_wp2_with (first
        | (with_reducible refine wpList_load_opx (by with_unfolding_all rfl) _ rfl _ rfl hox hK ?_)
        | (go_at_call 100; (with_reducible refine cR.mono ?_); rintro e2 w2 ⟨rfl, hb2⟩; replace hox := hox.below hb2)
        | (go_at_call 101; (with_reducible refine (cP _).mono ?_); rintro e3 w3 ⟨rfl, hb3⟩))
      have hb23 := hb2.trans (hb3.mono hb2.size)
      have hb := hbo.trans (hb23.mono hbo.size)
      replace hox := hox.below hb3
      replace hkk := hkk.below hb23
      replace ht2 := ht2.below hb23
      replace hr2 := hr2.below hb23
      clear cP hb2 hb3 hb23 hbo cR
      obtain ⟨z, hz⟩ : ∃ z, depV root Xs key D.p = z := ⟨_, rfl⟩
      have hR2 : R = (if D.k = 6 then (if z < 1 then (([], 10) : List GrD × Int) else if (leftG D.K D.p Xs).length = Xs.length then ([], 6) else (iterH root Xs.length (leftG D.K D.p Xs), 0)) else if z ≤ D.d then ([], 10) else if thereB Xs (newG key D) (plG Xs (newG key D)) = true ∨ D.K = root then ([], 7) else if 500 ≤ Xs.length then ([], 14) else (putG Xs (newG key D), 0)) := by rw [HR1.out, if_neg (fun h => h hp), hz]
      have HR2 := hid hR2
      have f1 : ∀ Q : LaterW w3, Q.w.cell? ⟨tb, 32, none⟩ = some (.slice AG N C) := fun Q => gr_cell Q.h (ht2.row hR)
      have f2 : ∀ Q : LaterW w3, Q.w.cell? ⟨w.heap.size + 1, 1, none⟩ = some (.string (txt D.p)) := fun Q => (hox.below Q.h).c1
      have fk := range_later hkk
      have cD := fun Q : LaterW w3 => gdepth_any tb root hR (.slice AG N C) AG N C Xs hn (by omega) key hk D.p Q.w (ht2.below Q.h) (hr2.below Q.h)
      rw [hz] at cD
      unfold idVals at cD
      have HZ := hid hz
      clear hR2 HR1 hz
      go_wp2
      refine wp_region_later mixed10 (by kernel_rfl) ?_
      repeat (first
        | ((with_reducible refine wpQuiet_load_if (by with_unfolding_all rfl) 23 _ rfl _ _ rfl (key.map u8v) _ fk hu (by with_unfolding_all rfl) hzk ?_); simp only [Act.put, List.setIfInBounds_toArray, List.set_cons_zero, List.set_cons_succ])
        | ((with_reducible refine wpQuiet_step (fun K hK => ?_)); go_simp; first | ((with_reducible refine hK _ ?_); clear hK K) | (with_reducible apply Exists.intro; (with_reducible refine ⟨fun P => ?_, hK _ ?_⟩); ((go_at_call 102; exact later_of (cD P))); clear hK K))
        | ((with_reducible refine BigFrame.wpQuiet_skip (by first | kernel_rfl | with_unfolding_all rfl) ?_); simp only [Act.put, List.setIfInBounds_toArray, List.set_cons_zero, List.set_cons_succ]))
      with_reducible refine wpQuiet_nil ?_
      intro _ hw9
      obtain ⟨P9, rfl⟩ := hw9
      have hp9 := P9.h
      generalize P9.w = w4 at *
      replace hb := hb.trans (hp9.mono hb.size)
      replace hox := hox.below hp9
      replace hkk := hkk.below hp9
      replace ht2 := ht2.below hp9
      replace hr2 := hr2.below hp9
      clear f1 f2 fk cD hp9
      have o0 := hox.c0
      have o38 := hox.c38 hK
      have o1 := hox.c1
      have oK := hox.key
      by_cases h6 : D.k = 6
      · rw [if_pos h6] at HR2
        rw [h6] at o0
        by_cases hz1 : z < 1
        · rw [if_pos hz1] at HR2
          go_wp2
          go_ret2
          exact ⟨.inl ⟨by rw [HR2.out]; decide, by rw [HR2.out]; rfl⟩, hb⟩
        · rw [if_neg hz1] at HR2
          have cV := grevoked_any D hK A n c B m d root hR tb AG N C Xs hn (by omega) hA w4 ht2 hr2
          go_wp2_with (first
            | (with_reducible refine wpList_load_opx (by with_unfolding_all rfl) _ rfl _ rfl hox hK ?_)
            | (go_at_call 103; (with_reducible refine cV.mono ?_); rintro e5 w5 ⟨hQ, hb5⟩; rcases hQ with ⟨hl, rfl⟩ | ⟨hl, v5, rfl, hown5⟩))
          · go_ret2
            have hR9 : R = ([], 6) := by rw [HR2.out, if_pos (by rw [hl, hn])]
            exact ⟨.inl ⟨by rw [hR9]; decide, by rw [hR9]; rfl⟩, hb.trans (hb5.mono hb.size)⟩
          · go_ret2
            have hR9 : R = (iterH root N (leftG D.K D.p Xs), 0) := by rw [HR2.out, if_neg (by rw [hn]; exact hl), hn]
            exact ⟨.inr ⟨by rw [hR9], _, rfl, by rw [hR9]; exact hown5.le hb.size⟩, hb.trans (hb5.mono hb.size)⟩
      · rw [if_neg h6] at HR2
        have z6 : (D.k == 6) = false := by rw [beq_eq_false_iff_ne]; exact h6
        by_cases hz1 : z ≤ D.d
        · rw [if_pos hz1] at HR2
          go_wp2
          go_ret2
          exact ⟨.inl ⟨by rw [HR2.out]; decide, by rw [HR2.out]; rfl⟩, hb⟩
        · rw [if_neg hz1] at HR2
          have hok : (newG key D).ok := ⟨hK, hk⟩
          have cG := ggranted_any root hR tb AG N C Xs hn bn hNC hA (newG key D) hok w4 ht2 hr2
          go_wp2_with (first
            | (with_reducible refine wpList_load_if (by with_unfolding_all rfl) 23 _ rfl _ _ rfl (D.K.map u8v) _ oK hu rfl hzd ?_)
            | (with_reducible refine wpList_load_if (by with_unfolding_all rfl) 23 _ rfl _ _ rfl (key.map u8v) _ hkk hu rfl hzk ?_)
            | (with_reducible refine wpList_build_gr rfl _ rfl (newG key D) hok (by with_unfolding_all rfl) ?_)
            | (go_at_call 104; (with_reducible refine cG.mono ?_); rintro e5 w5 ⟨hQ, hb5⟩; rcases hQ with ⟨hl, rfl⟩ | ⟨hl, h500, rfl⟩ | ⟨hl, h500, v5, rfl, hown5⟩))
          · go_ret2
            have hR9 : R = ([], 7) := by rw [HR2.out, if_pos hl]
            exact ⟨.inl ⟨by rw [hR9]; decide, by rw [hR9]; rfl⟩, hb.trans (hb5.mono hb.size)⟩
          · go_ret2
            have hR9 : R = ([], 14) := by rw [HR2.out, if_neg hl, if_pos (by rw [hn]; exact h500)]
            exact ⟨.inl ⟨by rw [hR9]; decide, by rw [hR9]; rfl⟩, hb.trans (hb5.mono hb.size)⟩
          · go_ret2
            have hR9 : R = (putG Xs (newG key D), 0) := by rw [HR2.out, if_neg hl, if_neg (by rw [hn]; omega)]
            exact ⟨.inr ⟨by rw [hR9], _, rfl, by rw [hR9]; exact hown5.le hb.size⟩, hb.trans (hb5.mono hb.size)⟩
    · have cP := fun W => policy_any D A n c B m d W
      rw [decide_eq_false hp] at cP
      have hRv : R = ([], 1) := by rw [HR1.out, if_pos hp]
      have HRV := hid hRv
      clear hRv HR1
      go_enter Try.func60, Try.ntmps60
      go_wp2_with (first
        | (with_reducible refine wpList_load_opx (by with_unfolding_all rfl) _ rfl _ rfl hox hK ?_)
        | (go_at_call 100; (with_reducible refine cR.mono ?_); rintro e2 w2 ⟨rfl, hb2⟩; replace hox := hox.below hb2)
        | (go_at_call 101; (with_reducible refine (cP _).mono ?_); rintro e3 w3 ⟨rfl, hb3⟩))
      go_ret2
      exact ⟨.inl ⟨by rw [HRV.out]; decide, by rw [HRV.out]; rfl⟩, hbo.trans ((hb2.trans (hb3.mono hb2.size)).mono hbo.size)⟩

end Go.Proofs.Ytdkeobpmenaljaa

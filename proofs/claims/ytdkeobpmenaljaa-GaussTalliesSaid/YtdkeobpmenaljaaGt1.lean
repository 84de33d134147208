
/- gauss: tallies, by the program and by the document. -/
import Derived.Test.YtdkeobpmenaljaaGt0
import Derived.Test.YtdkeobpmenaljaaId8
import Derived.Deep.DeepCutAuto
set_option linter.unusedSimpArgs false
set_option linter.unusedVariables false
namespace Go.Proofs.Ytdkeobpmenaljaa
open Go.RowKit Go.Qc

/-- The tally of ids. -/
def talZ (l : List (List UInt8)) : Int × Int := gtalZ (l.map idZ)
theorem talZ_res (l : List (List UInt8)) : ResZ (talZ l) := gfold_res _ _ oneZ_res
theorem talZ_snoc (l : List (List UInt8)) (a : List UInt8) : talZ (l ++ [a]) = gmulZ (talZ l) (idZ a) := by
  unfold talZ gtalZ
  rw [List.map_append, List.foldl_append]
  rfl
theorem talZ_take {l : List (List UInt8)} {k : Nat} {a : List UInt8} (h : l[k]? = some a) : talZ (l.take (k + 1)) = gmulZ (talZ (l.take k)) (idZ a) := by
  rw [List.take_add_one, h]
  exact talZ_snoc _ _
theorem talZ_append (l m : List (List UInt8)) : talZ (l ++ m) = gmulZ (talZ l) (talZ m) := by
  unfold talZ
  rw [List.map_append, gtal_append]
theorem talZ_turn (l : List (List UInt8)) (k : Nat) : talZ (l.drop k ++ l.take k) = talZ l := by
  unfold talZ
  rw [List.map_append, List.map_drop, List.map_take, gtal_turn]
theorem wp_store_wholeZ {P : Program} {w : World} {o : Oper} {a : Act} {K : Act → World → Prop} {Q : Exit → Act → World → Prop} (ty : TypeId) (x y : Operand) (ho : o.op = .store ty x y)
    (g : Nat) (old cs : Array Value) (t : TypeId) (hg : Blk w g t old) (hx : a.eval x = .pointer (some ⟨g, 0, none⟩)) (hy : a.eval y = .agg cs) (hi : (P.info? ty).map (·.size) = some cs.size) (hs : old.size = cs.size) (h1 : cs.all (·.oneCell') = true)
    (h : ∀ w', Blk w' g t cs → w.grownBy w' (some g) → K (a.put o.dst undef) w') : o.wp P a w K Q := by
  have hr : (Instr.storeAt ty (.pointer (some ⟨g, 0, none⟩)) (.agg cs)).run P w = .ok () (w.setRow g cs) := by
    simp only [Instr.storeAt, Instr.sureAddr, Sem.run_bind, Sem.run_pure, Result.andThen]
    exact run_storeVar_row _ g t ty old cs hg hi hs h1
  obtain ⟨hb, hgr⟩ := blk_over hg cs
  unfold Oper.wp
  simp [execOp, ho, hx, hy, hr]
  exact h _ hb hgr
theorem range_ltZ {w : World} {g q : Nat} {x : List UInt8} (h : w.rangeAt g q (x.map u8v)) (hx : x.length = 32) : g < w.heap.size := by
  obtain ⟨b, hb⟩ : ∃ b, x[0]? = some b := ⟨_, List.getElem?_eq_getElem (by omega)⟩
  exact World.block_lt_of_cell? w _ (h 0 (u8v b) (by rw [List.getElem?_map, hb]; rfl))
set_option maxRecDepth 100000 in
set_option maxHeartbeats 8000000 in
theorem gtally_any (A : Option Addr) (n c : Nat) (l : List (List UInt8)) (w : World) (hA : RowR w A n l) :
    Calls Try.prog 55 #[.slice A n c] w fun e w' => e = .returned (cz (talZ l)) ∧ Below w.heap.size w w' := by
  obtain ⟨hn, bn, hr⟩ := hA
  have hu := Try.underlying23
  have cO : ∀ (a : List UInt8), a.length = 32 → ∀ W, Calls Try.prog 56 #[.agg (List.map u8v a).toArray] W fun e w' => e = .returned (cz (idZ a)) ∧ Below W.heap.size W w' := fun a ha W => gof_any a ha W
  have h1 := cz_one
  obtain ⟨Z, hZ⟩ : ∃ Z, cz (talZ l) = Z := ⟨_, rfl⟩
  rw [hZ]
  have HZ := hid hZ
  clear hZ
  go_enter Try.func55, Try.ntmps55
  go_wp2
  rw [h1]
  clear h1
  go_loopw [3, 8] (fun t i wr => ∃ k : Nat, k ≤ n ∧ i = .int .i64 k ∧ t = cz (talZ (l.take k)) ∧ Below w.heap.size w wr) (fun _ i _ => n - (intOf i).toNat)
  case atStart => exact ⟨0, by omega, rfl, rfl, Below.refl _ _⟩
  case round =>
    obtain ⟨k, hk, rfl, rfl, hb⟩ := hrel
    by_cases hlt : k < n
    · obtain ⟨x, hx⟩ : ∃ x, l[k]? = some x := ⟨_, List.getElem?_eq_getElem (by omega)⟩
      obtain ⟨g, q, hg, lx, hix⟩ := hr.pick c hn hx
      have b1 : (k : Int) < n := by omega
      have fx := hg.below hb
      have hzx : (Try.prog.info? 23).map (·.size) = some (x.map u8v).length := by rw [List.length_map, lx]; exact sizeId
      have HT := hid (talZ_take hx)
      have cX := cO x lx
      have cM := gmul_any (talZ (l.take k)) (idZ x) (talZ_res _) (idZ_res _)
      rw [← HT.out] at cM
      have HLT := hid hlt
      have HN := hid hn
      have HLX := hid lx
      clear hn hx hlt hg lx cO hr
      go_wp2_with (first
        | (with_reducible refine wpList_load_if (by with_unfolding_all rfl) 23 _ rfl _ _ rfl (x.map u8v) _ fx hu rfl hzx ?_)
        | ((with_reducible refine wpList_store_newid rfl _ _ rfl x HLX.out rfl rfl rfl ?_); intro w2 hr2 hb2)
        | (with_reducible refine wpList_load_if (by with_unfolding_all rfl) 23 _ rfl _ _ rfl (x.map u8v) _ hr2 hu rfl hzx ?_)
        | (go_at_call 56; (with_reducible refine (cX _).mono ?_); rintro e3 w3 ⟨rfl, hb3⟩)
        | (go_at_call 47; (with_reducible refine (cM _).mono ?_); rintro e4 w4 ⟨rfl, rfl⟩))
      go_roundw
      case rel => exact ⟨k + 1, HLT.out, by go_num, rfl, hb.trans ((hb2.trans (hb3.mono hb2.size)).mono hb.size)⟩
      case measure => exact meas_z HLT.out
    · obtain rfl : k = n := by omega
      have b1 : ¬ (k : Int) < k := by omega
      have HE := hid (show talZ (l.take k) = talZ l by rw [← hn, List.take_length])
      clear hn hr cO
      go_wp2
      go_ret
      exact ⟨by rw [← HZ.out, ← HE.out]; rfl, hb⟩
set_option maxRecDepth 100000 in
set_option maxHeartbeats 8000000 in
theorem rtally22_any (A : Option Addr) (n c : Nat) (l : List (List UInt8)) (w : World) (hA : RowR w A n l) :
    Calls Try.prog 58 #[.slice A n c] w fun e w' => e = .returned (pz (talZ l)) ∧ Below w.heap.size w w' := by
  obtain ⟨hn, bn, hr⟩ := hA
  have hu := Try.underlying23
  have hup := Try.underlying78
  have cO : ∀ (a : List UInt8), a.length = 32 → ∀ W, Calls Try.prog 57 #[.agg (List.map u8v a).toArray] W fun e w' => e = .returned (pz (idZ a)) ∧ Below W.heap.size W w' := fun a ha W => rof22_any a ha W
  have hk1 := (Blk.new w 78 #[.int .i64 0, .int .i64 0]).alloc (.cells #[.int .i64 1, .int .i64 0] 78)
  have hk2 := blk_p1 w (.cells #[.int .i64 0, .int .i64 0] 78) 78 #[.int .i64 1, .int .i64 0]
  have hb0 := ((Below.refl w.heap.size w).alloc (Nat.le_refl _) (.cells #[.int .i64 0, .int .i64 0] 78)).alloc (by rw [World.size_alloc]; omega) (.cells #[.int .i64 1, .int .i64 0] 78)
  obtain ⟨Z, hZ⟩ : ∃ Z, pz (talZ l) = Z := ⟨_, rfl⟩
  rw [hZ]
  have HZ := hid hZ
  clear hZ
  go_enter Try.func58, Try.ntmps58
  go_upto_region 2 with (fail)
  generalize (w.alloc (.cells #[.int .i64 0, .int .i64 0] 78)).alloc (.cells #[.int .i64 1, .int .i64 0] 78) = W0 at *
  go_wp2
  go_loopw [4] (fun i wr => ∃ (k : Nat) (p1 p2 : Int), k ≤ n ∧ i = .int .i64 k ∧ Hid (talZ (l.take k) = (p1, p2)) ∧ Blk wr w.heap.size 78 #[.int .i64 0, .int .i64 0] ∧ Blk wr (w.heap.size + 1) 78 #[.int .i64 p1, .int .i64 p2] ∧ Below w.heap.size w wr) (fun i _ => n - (intOf i).toNat)
  case atStart => exact ⟨0, 1, 0, by omega, rfl, hid rfl, hk1, hk2, hb0⟩
  case round =>
    clear hk1 hk2 hb0
    obtain ⟨k, p1, p2, hk, rfl, HT, h1, h2, hb⟩ := hrel
    by_cases hlt : k < n
    · obtain ⟨x, hx⟩ : ∃ x, l[k]? = some x := ⟨_, List.getElem?_eq_getElem (by omega)⟩
      obtain ⟨g, q, hg, lx, hix⟩ := hr.pick c hn hx
      have b1 : (k : Int) < n := by omega
      have fx := hg.below hb
      have hgl := range_ltZ hg lx
      have hzx : (Try.prog.info? 23).map (·.size) = some (x.map u8v).length := by rw [List.length_map, lx]; exact sizeId
      have HT2 := talZ_take hx
      rw [HT.out] at HT2
      obtain ⟨y1, y2, hy⟩ : ∃ y1 y2, idZ x = (y1, y2) := ⟨_, _, rfl⟩
      obtain ⟨z1, z2, hz⟩ : ∃ z1 z2, talZ (l.take (k + 1)) = (z1, z2) := ⟨_, _, rfl⟩
      have cX : ∀ W, Calls Try.prog 57 #[.agg (List.map u8v x).toArray] W fun e w' => e = .returned (.agg #[.int .i64 y1, .int .i64 y2]) ∧ Below W.heap.size W w' := fun W => by
        have := cO x lx W
        rw [hy] at this
        exact this
      have cM : ∀ W, Calls Try.prog 48 #[.agg #[.int .i64 p1, .int .i64 p2], .agg #[.int .i64 y1, .int .i64 y2]] W fun e w' => e = .returned (.agg #[.int .i64 z1, .int .i64 z2]) ∧ Below W.heap.size W w' := fun W => by
        have := rmul22_any (p1, p2) (y1, y2) (by rw [← HT.out]; exact talZ_res _) (by rw [← hy]; exact idZ_res _) W
        rw [hy, hz] at HT2
        rw [← HT2] at this
        exact this
      have HZ2 := hid hz
      have HLT := hid hlt
      have c0 := h2.cell_ (i := 0) rfl
      have c1 := h2.cell_ (i := 1) rfl
      have hbb := Below.refl wr.heap.size wr
      clear hn hx hlt hg lx cO hr HT HT2 hy hz HZ
      go_wp2_with (fail)
      have k2 : Blk wr.drew (w.heap.size + 1) 78 #[.int .i64 p1, .int .i64 p2] := blk_heap rfl h2
      refine wp_region_held_drew (S := fun W => W.rangeAt g q (x.map u8v) ∧ Blk W w.heap.size 78 #[.int .i64 0, .int .i64 0] ∧ Below w.heap.size w W) (by kernel_rfl) ?_ (fun hHeld => ?_)
      · exact ⟨fx, blk_heap rfl h1, below_drewZ hb⟩
      clear h1 h2 hb c0 c1 hbb fx
      refine' wpAnyH_take (i := 1) (v := .slice A n c) rfl (by kernel_rfl) (by kernel_rfl) (by kernel_rfl) (fun _ _ _ h => h) (Or.inl ⟨by rfl, fun w' hw' => by go_simp⟩) hHeld ?_
      try simp only [Act.put, List.getElem_toArray, List.getElem_cons_succ, List.getElem_cons_zero, List.setIfInBounds_toArray, List.set_cons_zero, List.set_cons_succ]
      refine' wpAnyH_take (i := 2) (v := .int .i64 k) rfl (by kernel_rfl) (by kernel_rfl) (by kernel_rfl) (fun _ _ _ h => h) (Or.inl ⟨by rfl, fun w' hw' => by go_simp⟩) hHeld ?_
      try simp only [Act.put, List.getElem_toArray, List.getElem_cons_succ, List.getElem_cons_zero, List.setIfInBounds_toArray, List.set_cons_zero, List.set_cons_succ]
      refine' wpAnyH_take (i := 3) (v := .pointer (some ⟨g, q, none⟩)) rfl (by kernel_rfl) (by kernel_rfl) (by kernel_rfl) (fun _ _ _ h => h) (Or.inl ⟨by rfl, fun w' hw' => by have hv := hix w'; go_simp⟩) hHeld ?_
      try simp only [Act.put, List.getElem_toArray, List.getElem_cons_succ, List.getElem_cons_zero, List.setIfInBounds_toArray, List.set_cons_zero, List.set_cons_succ]
      refine' wpAnyH_take (i := 4) (v := _) rfl (by kernel_rfl) (by kernel_rfl) (by kernel_rfl) (fun _ _ _ h => h) (yieldsIf_load_mid (by rfl) 23 _ rfl _ _ rfl (x.map u8v) _ (fun w' h => h.1) hu rfl hzx) hHeld ?_
      try simp only [Act.put, List.getElem_toArray, List.getElem_cons_succ, List.getElem_cons_zero, List.setIfInBounds_toArray, List.set_cons_zero, List.set_cons_succ]
      refine wpAnyH_ready (rs := [0, 5]) (by kernel_rfl) (by simp) ?_
      refine AllReadyH.cons rfl (fun K hK => ?_) (AllReadyH.cons rfl (fun K hK => ?_) AllReadyH.nil)
      · have d0 := k2.cell_ (i := 0) rfl
        have d1 := k2.cell_ (i := 1) rfl
        go_simp
        refine hK.out _ _ hHeld (fun hHeld => ?_)
        clear hK K d0 d1
        try simp only [Act.put, List.getElem_toArray, List.getElem_cons_succ, List.getElem_cons_zero, List.setIfInBounds_toArray, List.set_cons_zero, List.set_cons_succ]
        refine wpAnyH_ready (rs := [5]) (by kernel_rfl) (by simp) ?_
        refine AllReadyH.cons rfl (fun K hK => ?_) AllReadyH.nil
        go_simp
        (with_reducible refine (cX _).mono ?_)
        rintro e5 w5 ⟨rfl, hb5⟩
        replace k2 := k2.below hb5
        refine hK.out _ _ ⟨hHeld.1.below hb5, hHeld.2.1.below hb5, hHeld.2.2.trans (hb5.mono hHeld.2.2.size)⟩ (fun hHeld => ?_)
        clear hK K hb5
        try simp only [Act.put, List.getElem_toArray, List.getElem_cons_succ, List.getElem_cons_zero, List.setIfInBounds_toArray, List.set_cons_zero, List.set_cons_succ]
        refine wpAnyH_ready (rs := [6]) (by kernel_rfl) (by simp) ?_
        refine AllReadyH.cons rfl (fun K hK => ?_) AllReadyH.nil
        go_simp
        (with_reducible refine (cM _).mono ?_)
        rintro e5 w5 ⟨rfl, hb5⟩
        replace k2 := k2.below hb5
        refine hK.out _ _ ⟨hHeld.1.below hb5, hHeld.2.1.below hb5, hHeld.2.2.trans (hb5.mono hHeld.2.2.size)⟩ (fun hHeld => ?_)
        clear hK K hb5
        try simp only [Act.put, List.getElem_toArray, List.getElem_cons_succ, List.getElem_cons_zero, List.setIfInBounds_toArray, List.set_cons_zero, List.set_cons_succ]
        refine wpAnyH_ready (rs := [7]) (by kernel_rfl) (by simp) ?_
        refine AllReadyH.cons rfl (fun K hK => ?_) AllReadyH.nil
        refine wp_store_wholeZ 78 _ _ rfl (w.heap.size + 1) _ #[.int .i64 z1, .int .i64 z2] 78 k2 rfl rfl infoPairZ rfl (by simp [Value.oneCell']) ?_
        intro w8 k8 hg8
        replace k2 := k8
        refine hK.out _ _ ⟨range_gb hHeld.1 hg8 (by omega), blk_grownZ hHeld.2.1 hg8 (by omega), below_grownZ hHeld.2.2 hg8 (by omega)⟩ (fun hHeld => ?_)
        clear hK K hg8 k8
        try simp only [Act.put, List.getElem_toArray, List.getElem_cons_succ, List.getElem_cons_zero, List.setIfInBounds_toArray, List.set_cons_zero, List.set_cons_succ]
        refine wpAnyH_done (by kernel_rfl) ?_ _
        go_wp2
        go_roundw
        case rel => exact ⟨k + 1, z1, z2, HLT.out, by go_num, HZ2, hHeld.2.1, k2, hHeld.2.2⟩
        case measure => exact meas_z HLT.out
      · go_simp
        (with_reducible refine (cX _).mono ?_)
        rintro e5 w5 ⟨rfl, hb5⟩
        replace k2 := k2.below hb5
        refine hK.out _ _ ⟨hHeld.1.below hb5, hHeld.2.1.below hb5, hHeld.2.2.trans (hb5.mono hHeld.2.2.size)⟩ (fun hHeld => ?_)
        clear hK K hb5
        try simp only [Act.put, List.getElem_toArray, List.getElem_cons_succ, List.getElem_cons_zero, List.setIfInBounds_toArray, List.set_cons_zero, List.set_cons_succ]
        refine wpAnyH_ready (rs := [0]) (by kernel_rfl) (by simp) ?_
        refine AllReadyH.cons rfl (fun K hK => ?_) AllReadyH.nil
        have d0 := k2.cell_ (i := 0) rfl
        have d1 := k2.cell_ (i := 1) rfl
        go_simp
        refine hK.out _ _ hHeld (fun hHeld => ?_)
        clear hK K d0 d1
        try simp only [Act.put, List.getElem_toArray, List.getElem_cons_succ, List.getElem_cons_zero, List.setIfInBounds_toArray, List.set_cons_zero, List.set_cons_succ]
        refine wpAnyH_ready (rs := [6]) (by kernel_rfl) (by simp) ?_
        refine AllReadyH.cons rfl (fun K hK => ?_) AllReadyH.nil
        go_simp
        (with_reducible refine (cM _).mono ?_)
        rintro e5 w5 ⟨rfl, hb5⟩
        replace k2 := k2.below hb5
        refine hK.out _ _ ⟨hHeld.1.below hb5, hHeld.2.1.below hb5, hHeld.2.2.trans (hb5.mono hHeld.2.2.size)⟩ (fun hHeld => ?_)
        clear hK K hb5
        try simp only [Act.put, List.getElem_toArray, List.getElem_cons_succ, List.getElem_cons_zero, List.setIfInBounds_toArray, List.set_cons_zero, List.set_cons_succ]
        refine wpAnyH_ready (rs := [7]) (by kernel_rfl) (by simp) ?_
        refine AllReadyH.cons rfl (fun K hK => ?_) AllReadyH.nil
        refine wp_store_wholeZ 78 _ _ rfl (w.heap.size + 1) _ #[.int .i64 z1, .int .i64 z2] 78 k2 rfl rfl infoPairZ rfl (by simp [Value.oneCell']) ?_
        intro w8 k8 hg8
        replace k2 := k8
        refine hK.out _ _ ⟨range_gb hHeld.1 hg8 (by omega), blk_grownZ hHeld.2.1 hg8 (by omega), below_grownZ hHeld.2.2 hg8 (by omega)⟩ (fun hHeld => ?_)
        clear hK K hg8 k8
        try simp only [Act.put, List.getElem_toArray, List.getElem_cons_succ, List.getElem_cons_zero, List.setIfInBounds_toArray, List.set_cons_zero, List.set_cons_succ]
        refine wpAnyH_done (by kernel_rfl) ?_ _
        go_wp2
        go_roundw
        case rel => exact ⟨k + 1, z1, z2, HLT.out, by go_num, HZ2, hHeld.2.1, k2, hHeld.2.2⟩
        case measure => exact meas_z HLT.out
    · obtain rfl : k = n := by omega
      have b1 : ¬ (k : Int) < k := by omega
      have HE := hid (show talZ l = (p1, p2) by rw [← HT.out, ← hn, List.take_length])
      have c0 := h2.cell_ (i := 0) rfl
      have c1 := h2.cell_ (i := 1) rfl
      clear hn hr cO HT
      go_wp2_with (first
        | ((with_reducible refine wpList_store_blk rfl 78 _ _ rfl _ _ _ _ h1 rfl rfl (by with_unfolding_all exact infoPairZ) (by with_unfolding_all rfl) (by with_unfolding_all rfl) ?_); intro w2 k1' hg2; replace hb := below_grownZ hb hg2 (by omega); clear hg2))
      refine bodyPost_ret (ret_pair rfl _ _ _ _ _ rfl k1') rfl ⟨by rw [← HZ.out, HE.out]; rfl, hb⟩
end Go.Proofs.Ytdkeobpmenaljaa

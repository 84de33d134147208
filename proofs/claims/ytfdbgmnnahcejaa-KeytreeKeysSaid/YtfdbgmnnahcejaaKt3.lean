
/- keytree: a row that is made, and filled element by element; what stands above a row's pairs. -/
import Derived.Test.YtfdbgmnnahcejaaKt2
namespace Go.Proofs.Ytfdbgmnnahcejaa
open Go.RowKit Go.Qc
attribute [local go_sem] txt_size txt_append ib_fold

/-! ### a row that is made, then filled -/
theorem wp_store_at {P : Program} {w : World} {o : Oper} {a : Act} {K : Act → World → Prop} {Q : Exit → Act → World → Prop} (ty : TypeId) (x y : Operand) (ho : o.op = .store ty x y)
    (g off : Nat) (old cs : Array Value) (t : TypeId) (hg : Blk w g t old) (hx : a.eval x = .pointer (some ⟨g, off, none⟩)) (hy : a.eval y = .agg cs) (hi : (P.info? ty).map (·.size) = some cs.size) (hs : off + cs.size ≤ old.size) (h1 : cs.all (·.oneCell') = true)
    (h : ∀ w', Blk w' g t (over old off cs.toList) → w.grownBy w' (some g) → K (a.put o.dst undef) w') : o.wp P a w K Q := by
  have hone : ∀ v ∈ cs.toList, v.oneCell' = true := fun v hv => (Array.all_eq_true_iff_forall_mem.1 h1) v (by simpa using hv)
  have hcells : (Value.agg cs).cells = cs := rfl
  have hst := run_storeCells_at P g off t cs.toList 0 old w hg (by simpa using hs) hone
  simp only [Nat.add_zero] at hst
  have hr : (Instr.storeAt ty (.pointer (some ⟨g, off, none⟩)) (.agg cs)).run P w = .ok () (w.setRow g (over old off cs.toList)) := by
    cases hq : P.info? ty with
    | none => simp [hq] at hi
    | some i =>
      have hsz : i.size = cs.size := by simpa [hq] using hi
      simp [Instr.storeAt, Instr.sureAddr, storeVar, sizeOf, typeInfo, hq, hcells, hsz]
      rw [hst]; simp [over]
  obtain ⟨hb, hgr⟩ := blk_over hg (over old off cs.toList)
  unfold Oper.wp
  simp only [execOp, ho, hx, hy]
  simp only [Sem.run_bind, hr, Result.andThen, Sem.run_pure]
  exact h _ hb hgr
/-- A row of n at block g, the first k filled. -/
structure MadeP (w : World) (n g : Nat) (F : Nat → List UInt8) (k : Nat) (W : World) : Prop where
  base : w.heap.size ≤ g
  blk : ∃ cs : Array Value, Blk W g 24 cs ∧ cs.size = n * 32 ∧ cs.toList.take (k * 32) = idsV (upTo F k)
  bel : Below w.heap.size w W
theorem MadeP.below {w W W' : World} {n g : Nat} {F : Nat → List UInt8} {k : Nat} (h : MadeP w n g F k W) (hb : Below W.heap.size W W') : MadeP w n g F k W' :=
  ⟨h.base, h.blk.imp fun _ ⟨a, b⟩ => ⟨a.below hb, b⟩, h.bel.trans (hb.mono h.bel.size)⟩
theorem MadeP.put {w W W' : World} {n g : Nat} {F : Nat → List UInt8} {k : Nat} {cs : Array Value} {Z : List UInt8} (h : MadeP w n g F k W) (_ : Blk W g 24 cs) (hs : cs.size = n * 32) (ht : cs.toList.take (k * 32) = idsV (upTo F k))
    (hb : Blk W' g 24 (over cs (k * 32) (idVals Z).toList)) (hg : W.grownBy W' (some g)) (hk : k < n) (hz : Z.length = 32) (hZ : Z = F k) : MadeP w n g F (k + 1) W' := by
  have hl : (idVals Z).toList.length = 32 := by unfold idVals; simp [hz]
  refine ⟨h.base, ⟨_, hb, ?_, ?_⟩, h.bel.grown hg h.bel.size (by intro i e; cases e; exact h.base)⟩
  · rw [over_size _ _ _ (by rw [hl, hs]; omega), hs]
  · unfold over
    rw [List.toList_toArray, List.append_assoc, List.take_append, List.take_of_length_le (by rw [List.length_take]; omega), List.length_take, Array.length_toList, hs, Nat.min_eq_left (by omega), show (k + 1) * 32 - k * 32 = (idVals Z).toList.length by rw [hl]; omega, List.take_left, ht, upTo_succ, idsV_snoc, hZ]
    unfold idVals
    simp
theorem MadeP.pred {w W : World} {n g : Nat} {F : Nat → List UInt8} {k : Nat} (hF : ∀ b, (F b).length = 32) (h : MadeP w n g F (k + 1) W) : MadeP w n g F k W := by
  obtain ⟨cs, h1, h2, h3⟩ := h.blk
  refine ⟨h.base, ⟨cs, h1, h2, ?_⟩, h.bel⟩
  have := congrArg (List.take (k * 32)) h3
  rw [List.take_take, Nat.min_eq_left (by omega), upTo_succ, idsV_snoc] at this
  rw [this, List.take_left' (by rw [idsV_length _ (upTo_32 F hF k), upTo_length])]
theorem MadeP.own {w W : World} {n g : Nat} {F : Nat → List UInt8} (h : MadeP w n g F n W) (hm : n ≤ maxLen) (hF : ∀ b, (F b).length = 32) : W.ownsRow w.heap.size 24 32 (.slice (some ⟨g, 0, none⟩) n n) n (idsV (upTo F n)) := by
  obtain ⟨cs, h1, h2, h3⟩ := h.blk
  exact ⟨by rw [idsV_length _ (upTo_32 F hF n), upTo_length], .inr ⟨g, n, cs, rfl, h.base, h1, Nat.le_refl _, hm, h2, h3⟩⟩
theorem MadeP.start {w W : World} {n g : Nat} {F : Nat → List UInt8} {xs : List Value} (h : W.ownsRow w.heap.size 24 32 (.slice (some ⟨g, 0, none⟩) n n) n xs) (hb : Below w.heap.size w W) : MadeP w n g F 0 W := by
  rcases h.2 with ⟨h1, _⟩ | ⟨g', cap, cur, h1, h2, h3, _, _, h4, _⟩
  · cases h1
  · injection h1 with q1 q2 q3
    injection q1 with q1
    injection q1 with q1
    subst q1 q3
    exact ⟨h2, ⟨cur, h3, h4, by simp [upTo, idsV]⟩, hb⟩
theorem index_own (g m k : Nat) (hk : k < m) (W : World) : (Instr.indexAt 22 (.slice (some ⟨g, 0, none⟩) m m) (.int .i64 (k : Int))).run Try.prog W = .ok (.pointer (some ⟨g, k * 32, none⟩)) W := by
  obtain ⟨i0, hi, h32, _⟩ := infoId_parts
  have h1 : (0 : Int) ≤ (k : Int) ∧ (k : Int) < (m : Int) := by omega
  simp [Instr.indexAt, run_underlying Try.underlying22, asIntOf, h1, sizeOf, typeInfo, hi, h32, Addr.add_lit, Int.toNat_natCast]
  intro h2; omega

/-! ### what stands above a row's pairs -/
set_option maxRecDepth 100000 in
set_option maxHeartbeats 8000000 in
set_option linter.unusedSimpArgs false in
theorem above_any (A : Option Addr) (n c : Nat) (l : List (List UInt8)) (hN : n ≤ 100000) (w : World) (hA : RowR w A n l) :
    Calls Try.prog 128 #[.slice A n c] w fun e w' => ∃ v, e = .returned v ∧ w'.ownsRow w.heap.size 24 32 v (n / 2) (idsV (upTo (aboveB l) (n / 2))) ∧ Below w.heap.size w w' := by
  obtain ⟨hn, bn, hr⟩ := hA
  have hu := Try.underlying24
  obtain ⟨j0, hj, hjz, hjs, hjb⟩ := infoId2_parts
  have hq : ((n : Int)).tdiv 2 = ((n / 2 : Nat) : Int) := (half_facts n).1
  go_enter Try.func128, Try.ntmps128
  go_wp2_with (at_make; refine wpList_make_full _ rfl _ _ 22 rfl w.heap.size 24 j0 (.agg (idVals zeroB)) 32 Try.underlying22 hj hjz hjs _ _ _ _ (n / 2) rfl rfl ?c0 ?c1 ?c2 ?c3 (Nat.le_refl _) ?_)
  case c0 => first | exact hq | (rw [hq]) | omega
  case c1 => first | exact hq | (rw [hq]) | omega
  case c2 => rw [hjb]; omega
  case c3 => unfold maxLen; omega
  intro w1 hown1 hg1
  have hb1 : Below w.heap.size w w1 := (Below.refl _ w).grown hg1 (Nat.le_refl _) (by intro i e; cases e)
  have hm1 : MadeP w (n / 2) w.heap.size (aboveB l) 0 w1 := MadeP.start hown1 hb1
  clear hown1 hb1 hg1
  go_wp2
  go_loopw [12] (fun i wr => ∃ k : Nat, k ≤ n / 2 ∧ i = .int .i64 k ∧ MadeP w (n / 2) w.heap.size (aboveB l) k wr) (fun i _ => n / 2 - (intOf i).toNat)
  case atStart => exact ⟨0, by omega, rfl, hm1⟩
  case round =>
    obtain ⟨k, hk, rfl, hm⟩ := hrel
    by_cases hlt : k < n / 2
    · obtain ⟨x, hx⟩ : ∃ x, l[2 * k]? = some x := ⟨_, List.getElem?_eq_getElem (by omega)⟩
      obtain ⟨y, hy⟩ : ∃ y, l[2 * k + 1]? = some y := ⟨_, List.getElem?_eq_getElem (by omega)⟩
      obtain ⟨gx, qx, hgx, lx, hix⟩ := hr.pick c hn hx
      obtain ⟨gy, qy, hgy, ly, hiy⟩ := hr.pick c hn hy
      rw [show ((2 * k : Nat) : Int) = 2 * (k : Int) by omega] at hix
      rw [show ((2 * k + 1 : Nat) : Int) = 2 * (k : Int) + 1 by omega] at hiy
      have hio := index_own w.heap.size (n / 2) k hlt
      have hw1 : IntKind.i64.wrap (2 * (k : Int)) = 2 * (k : Int) := by rw [IntKind.wrap_i64]; omega
      have hw2 : IntKind.i64.wrap (2 * (k : Int) + 1) = 2 * (k : Int) + 1 := by rw [IntKind.wrap_i64]; omega
      have ngx := range_lt hgx lx
      have ngy := range_lt hgy ly
      have b1 : (k : Int) < (n / 2 : Nat) := by omega
      have hzx : (Try.prog.info? 24).map (·.size) = some (x.map u8v).length := by rw [List.length_map, lx]; exact sizeId
      have hzy : (Try.prog.info? 24).map (·.size) = some (y.map u8v).length := by rw [List.length_map, ly]; exact sizeId
      obtain ⟨Z, hZ⟩ : ∃ Z, Z = aboveB l k := ⟨_, rfl⟩
      have hZL : Z.length = 32 := by rw [hZ]; exact aboveB_length _ _
      have cN : ∀ W : World, Calls Try.prog 125 #[.agg (List.map u8v x).toArray, .agg (List.map u8v y).toArray] W fun e w' => e = .returned (.agg (idVals Z)) ∧ Below W.heap.size W w' := fun W => by
        have := node_any x y lx ly W
        rw [hZ, aboveB, getB_some hx, getB_some hy]
        exact this
      have HZL := hid hZL
      have HZ := hid hZ
      have HN := hid hn
      clear hZ hZL hn hx hy lx ly hm1
      go_wp2
      refine wp_region_held_drew (S := fun W => W.rangeAt gx qx (x.map u8v) ∧ W.rangeAt gy qy (y.map u8v) ∧ MadeP w (n / 2) w.heap.size (aboveB l) k W) (by kernel_rfl) ?_ (fun hHeld => ?_)
      · exact ⟨hgx.below (hm.bel.trans ((below_drew1 wr).mono hm.bel.size)), hgy.below (hm.bel.trans ((below_drew1 wr).mono hm.bel.size)), hm.below (below_drew1 wr)⟩
      refine' wpAnyH_take (i := 0) (v := .slice (some ⟨w.heap.size, 0, none⟩) (n / 2) (n / 2)) rfl (by kernel_rfl) (by kernel_rfl) (by kernel_rfl) (fun _ _ _ h => h) (Or.inl ⟨by rfl, fun w' hw' => by go_simp⟩) hHeld ?_
      try simp only [Act.put, List.getElem_toArray, List.getElem_cons_succ, List.getElem_cons_zero, List.setIfInBounds_toArray, List.set_cons_zero, List.set_cons_succ]
      refine' wpAnyH_take (i := 1) (v := .int .i64 k) rfl (by kernel_rfl) (by kernel_rfl) (by kernel_rfl) (fun _ _ _ h => h) (Or.inl ⟨by rfl, fun w' hw' => by go_simp⟩) hHeld ?_
      try simp only [Act.put, List.getElem_toArray, List.getElem_cons_succ, List.getElem_cons_zero, List.setIfInBounds_toArray, List.set_cons_zero, List.set_cons_succ]
      refine' wpAnyH_take (i := 2) (v := .slice A n c) rfl (by kernel_rfl) (by kernel_rfl) (by kernel_rfl) (fun _ _ _ h => h) (Or.inl ⟨by rfl, fun w' hw' => by go_simp⟩) hHeld ?_
      try simp only [Act.put, List.getElem_toArray, List.getElem_cons_succ, List.getElem_cons_zero, List.setIfInBounds_toArray, List.set_cons_zero, List.set_cons_succ]
      refine' wpAnyH_take (i := 3) (v := .int .i64 k) rfl (by kernel_rfl) (by kernel_rfl) (by kernel_rfl) (fun _ _ _ h => h) (Or.inl ⟨by rfl, fun w' hw' => by go_simp⟩) hHeld ?_
      try simp only [Act.put, List.getElem_toArray, List.getElem_cons_succ, List.getElem_cons_zero, List.setIfInBounds_toArray, List.set_cons_zero, List.set_cons_succ]
      refine' wpAnyH_take (i := 4) (v := .int .i64 (2 * (k : Int))) rfl (by kernel_rfl) (by kernel_rfl) (by kernel_rfl) (fun _ _ _ h => h) (Or.inl ⟨by rfl, fun w' hw' => by go_simp⟩) hHeld ?_
      try simp only [Act.put, List.getElem_toArray, List.getElem_cons_succ, List.getElem_cons_zero, List.setIfInBounds_toArray, List.set_cons_zero, List.set_cons_succ]
      refine' wpAnyH_take (i := 5) (v := .pointer (some ⟨gx, qx, none⟩)) rfl (by kernel_rfl) (by kernel_rfl) (by kernel_rfl) (fun _ _ _ h => h) (Or.inl ⟨by rfl, fun w' hw' => by have hv := hix w'; go_simp⟩) hHeld ?_
      try simp only [Act.put, List.getElem_toArray, List.getElem_cons_succ, List.getElem_cons_zero, List.setIfInBounds_toArray, List.set_cons_zero, List.set_cons_succ]
      refine' wpAnyH_take (i := 6) (v := _) rfl (by kernel_rfl) (by kernel_rfl) (by kernel_rfl) (fun _ _ _ h => h) (yieldsIf_load_mid (by rfl) 24 _ rfl _ _ rfl (x.map u8v) _ (fun w' h => h.1) hu rfl hzx) hHeld ?_
      try simp only [Act.put, List.getElem_toArray, List.getElem_cons_succ, List.getElem_cons_zero, List.setIfInBounds_toArray, List.set_cons_zero, List.set_cons_succ]
      refine' wpAnyH_take (i := 7) (v := .slice A n c) rfl (by kernel_rfl) (by kernel_rfl) (by kernel_rfl) (fun _ _ _ h => h) (Or.inl ⟨by rfl, fun w' hw' => by go_simp⟩) hHeld ?_
      try simp only [Act.put, List.getElem_toArray, List.getElem_cons_succ, List.getElem_cons_zero, List.setIfInBounds_toArray, List.set_cons_zero, List.set_cons_succ]
      refine' wpAnyH_take (i := 8) (v := .int .i64 k) rfl (by kernel_rfl) (by kernel_rfl) (by kernel_rfl) (fun _ _ _ h => h) (Or.inl ⟨by rfl, fun w' hw' => by go_simp⟩) hHeld ?_
      try simp only [Act.put, List.getElem_toArray, List.getElem_cons_succ, List.getElem_cons_zero, List.setIfInBounds_toArray, List.set_cons_zero, List.set_cons_succ]
      refine' wpAnyH_take (i := 9) (v := .int .i64 (2 * (k : Int))) rfl (by kernel_rfl) (by kernel_rfl) (by kernel_rfl) (fun _ _ _ h => h) (Or.inl ⟨by rfl, fun w' hw' => by go_simp⟩) hHeld ?_
      try simp only [Act.put, List.getElem_toArray, List.getElem_cons_succ, List.getElem_cons_zero, List.setIfInBounds_toArray, List.set_cons_zero, List.set_cons_succ]
      refine' wpAnyH_take (i := 10) (v := .int .i64 (2 * (k : Int) + 1)) rfl (by kernel_rfl) (by kernel_rfl) (by kernel_rfl) (fun _ _ _ h => h) (Or.inl ⟨by rfl, fun w' hw' => by go_simp⟩) hHeld ?_
      try simp only [Act.put, List.getElem_toArray, List.getElem_cons_succ, List.getElem_cons_zero, List.setIfInBounds_toArray, List.set_cons_zero, List.set_cons_succ]
      refine' wpAnyH_take (i := 11) (v := .pointer (some ⟨gy, qy, none⟩)) rfl (by kernel_rfl) (by kernel_rfl) (by kernel_rfl) (fun _ _ _ h => h) (Or.inl ⟨by rfl, fun w' hw' => by have hv := hiy w'; go_simp⟩) hHeld ?_
      try simp only [Act.put, List.getElem_toArray, List.getElem_cons_succ, List.getElem_cons_zero, List.setIfInBounds_toArray, List.set_cons_zero, List.set_cons_succ]
      refine' wpAnyH_take (i := 12) (v := _) rfl (by kernel_rfl) (by kernel_rfl) (by kernel_rfl) (fun _ _ _ h => h) (yieldsIf_load_mid (by rfl) 24 _ rfl _ _ rfl (y.map u8v) _ (fun w' h => h.2.1) hu rfl hzy) hHeld ?_
      try simp only [Act.put, List.getElem_toArray, List.getElem_cons_succ, List.getElem_cons_zero, List.setIfInBounds_toArray, List.set_cons_zero, List.set_cons_succ]
      refine wpAnyH_ready (rs := [13]) (by kernel_rfl) (by simp) ?_
      refine AllReadyH.cons rfl (fun K hK => ?_) AllReadyH.nil
      go_simp
      (with_reducible refine (cN _).mono ?_)
      rintro e5 w5 ⟨rfl, hb5⟩
      refine hK.out _ _ ⟨hHeld.1.below (hb5), hHeld.2.1.below hb5, hHeld.2.2.below hb5⟩ (fun hHeld => ?_)
      clear hK K
      try simp only [Act.put, List.getElem_toArray, List.getElem_cons_succ, List.getElem_cons_zero, List.setIfInBounds_toArray, List.set_cons_zero, List.set_cons_succ]
      refine' wpAnyH_take (i := 14) (v := .pointer (some ⟨w.heap.size, k * 32, none⟩)) rfl (by kernel_rfl) (by kernel_rfl) (by kernel_rfl) (fun _ _ _ h => h) (Or.inl ⟨by rfl, fun w' hw' => by have hv := hio w'; go_simp⟩) hHeld ?_
      try simp only [Act.put, List.getElem_toArray, List.getElem_cons_succ, List.getElem_cons_zero, List.setIfInBounds_toArray, List.set_cons_zero, List.set_cons_succ]
      refine wpAnyH_ready (rs := [15]) (by kernel_rfl) (by simp) ?_
      refine AllReadyH.cons rfl (fun K hK => ?_) AllReadyH.nil
      obtain ⟨cs, hC, hCs, hCt⟩ := hHeld.2.2.blk
      refine wp_store_at 24 _ _ rfl w.heap.size (k * 32) cs (idVals Z) 24 hC rfl rfl (by rw [idVals_size, HZL.out]; exact sizeId) (by rw [idVals_size, HZL.out, hCs]; omega) (idVals_one _) ?_
      intro w8 hb8 hg8
      have hm8 := hHeld.2.2.put hC hCs hCt hb8 hg8 (by omega) HZL.out HZ.out
      refine hK.out _ _ ⟨range_gb hHeld.1 hg8 (by have := hHeld.2.2.base; omega), range_gb hHeld.2.1 hg8 (by have := hHeld.2.2.base; omega), (hm8.pred (aboveB_length l))⟩ (fun hHeld => ?_)
      clear hK K
      try simp only [Act.put, List.getElem_toArray, List.getElem_cons_succ, List.getElem_cons_zero, List.setIfInBounds_toArray, List.set_cons_zero, List.set_cons_succ]
      refine wpAnyH_done (by kernel_rfl) ?_ _
      go_wp2
      go_roundw
      case rel => exact ⟨k + 1, by omega, by go_num, hm8⟩
      case measure => simp [intOf]; omega
    · obtain rfl : k = n / 2 := by omega
      have b1 : ¬ ((n / 2 : Nat) : Int) < (n / 2 : Nat) := by omega
      go_wp2
      go_ret
      exact ⟨_, rfl, hm.own (by unfold maxLen; omega) (aboveB_length l), hm.bel⟩
end Go.Proofs.Ytfdbgmnnahcejaa


/- keytree: Fold, of the document. -/
import Derived.Test.YtfdbgmnnahcejaaKt5
namespace Go.Proofs.Ytfdbgmnnahcejaa
open Go.RowKit Go.Qc
attribute [local go_sem] txt_size txt_append ib_fold

theorem run_slice_hi_ids (g o n c m : Nat) (hm : m ≤ c) (W : World) : (Instr.sliceAt 22 (.slice (some ⟨g, o, none⟩) n c) none (some (.int .i64 (m : Int))) none).run Try.prog W = .ok (.slice (some ⟨g, o, none⟩) m c) W := by
  obtain ⟨i0, hi, _, _⟩ := infoId_parts
  have h1 : (0 : Int) ≤ (m : Int) ∧ (m : Int) ≤ (c : Int) := by omega
  simp [Instr.sliceAt, Instr.slice, Instr.sliceBounds, run_underlying Try.underlying22, run_sliceBound, h1, sizeOf, typeInfo, hi, Addr.add_lit, Int.toNat_natCast]
theorem run_slice_lo_ids (g o n c m : Nat) (hm : m < n) (hc : n ≤ c) (W : World) : (Instr.sliceAt 22 (.slice (some ⟨g, o, none⟩) n c) (some (.int .i64 (m : Int))) none none).run Try.prog W = .ok (.slice (some ⟨g, o + m * 32, none⟩) (n - m) (c - m)) W := by
  obtain ⟨i0, hi, h32, _⟩ := infoId_parts
  have h1 : (0 : Int) ≤ (m : Int) ∧ (m : Int) ≤ (n : Int) := by omega
  have h2 : ¬ (m = c) := by omega
  simp [Instr.sliceAt, Instr.slice, Instr.sliceBounds, run_underlying Try.underlying22, run_sliceBound, h1, sizeOf, typeInfo, hi, h32, Addr.add_lit, Int.toNat_natCast]
  omega
theorem RowAt.cut {w : World} {A : Option Addr} {n c : Nat} {l : List (List UInt8)} (h : RowAt w A n c l) (m : Nat) (h0 : 0 < m) (hm : m < n) :
    ∃ g o, A = some ⟨g, o, none⟩ ∧ RowAt w (some ⟨g, o, none⟩) m c (l.take m) ∧ RowAt w (some ⟨g, o + m * 32, none⟩) (n - m) (c - m) (l.drop m) := by
  obtain ⟨hl, hc, hx, hn, h32, hr⟩ := h
  rcases hr with rfl | ⟨g, o, rfl, hr⟩
  · simp at hl; omega
  · have e : idsV l = idsV (l.take m) ++ idsV (l.drop m) := by rw [← idsV_append, List.take_append_drop]
    have h1 : ∀ a ∈ l.take m, a.length = 32 := fun a ha => h32 a (List.mem_of_mem_take ha)
    have h2 : ∀ a ∈ l.drop m, a.length = 32 := fun a ha => h32 a (List.mem_of_mem_drop ha)
    have l1 : (idsV (l.take m)).length = m * 32 := by rw [idsV_length _ h1, List.length_take, Nat.min_eq_left (by omega)]
    refine ⟨g, o, rfl, ⟨by rw [List.length_take]; omega, by omega, hx, by omega, h1, .inr ⟨g, o, rfl, fun j v hj => hr j v ?_⟩⟩, ⟨by rw [List.length_drop]; omega, by omega, by omega, by omega, h2, .inr ⟨g, o + m * 32, rfl, fun j v hj => ?_⟩⟩⟩
    · rw [e, List.getElem?_append_left (List.getElem?_eq_some_iff.1 hj).1]; exact hj
    · rw [Nat.add_assoc]
      refine hr _ v ?_
      rw [e, List.getElem?_append_right (by omega), l1, show m * 32 + j - m * 32 = j by omega]
      exact hj
structure FoldRS (w W : World) : Prop where
  res : ∃ zc : Array Value, Blk W w.heap.size 24 zc ∧ zc.size = 32
  bel : Below w.heap.size w W
theorem FoldRS.below {w W W' : World} (h : FoldRS w W) (hb : Below W.heap.size W W') : FoldRS w W' :=
  ⟨h.res.imp fun _ ⟨x, y⟩ => ⟨x.below hb, y⟩, h.bel.trans (hb.mono h.bel.size)⟩
theorem FoldRS.put {w W W' : World} {Z : List UInt8} (h : FoldRS w W) (hb : Blk W' w.heap.size 24 (idVals Z)) (hz : Z.length = 32) (hg : W.grownBy W' (some w.heap.size)) : FoldRS w W' :=
  ⟨⟨_, hb, by rw [idVals_size, hz]⟩, h.bel.grown hg h.bel.size (by intro i e; cases e; exact Nat.le_refl _)⟩
theorem FoldRS.new (w : World) (zc : Array Value) (hz : zc.size = 32) : FoldRS w (w.alloc (.cells zc 24)) :=
  ⟨⟨zc, Blk.new _ _ _, hz⟩, (Below.refl _ _).alloc (Nat.le_refl _) _⟩
theorem getB_take {l : List (List UInt8)} {m i : Nat} (h : i < m) : getB (l.take m) i = getB l i := by
  unfold getB; rw [List.getElem?_take, if_pos h]
theorem getB_drop (l : List (List UInt8)) (m i : Nat) : getB (l.drop m) i = getB l (m + i) := by
  unfold getB; rw [List.getElem?_drop]
theorem ndB_two (l : List (List UInt8)) (k : Nat) : ndB (getB l) (k + 1) 0 = nodeB (ndB (getB (l.take (2 ^ k))) k 0) (ndB (getB (l.drop (2 ^ k))) k 0) := by
  have e1 : ndB (getB (l.take (2 ^ k))) k 0 = ndB (getB l) k 0 := ndB_congr k 0 fun x _ h => getB_take (by omega)
  have e2 : ndB (getB (l.drop (2 ^ k))) k 0 = ndB (getB l) k 1 := by
    have := ndB_shift (getB l) k 1 0
    rw [Nat.one_mul, Nat.add_zero] at this
    rw [← this]
    exact ndB_congr k 0 fun x _ _ => getB_drop l _ _
  rw [e1, e2]; rfl
set_option maxRecDepth 100000 in
set_option maxHeartbeats 8000000 in
theorem rfold_zero (A : Option Addr) (c : Nat) (l : List (List UInt8)) (w : World) (hA : RowAt w A 1 c l) :
    Calls Try.prog 64 #[.slice A 1 c] w fun e w' => e = .returned (.agg (idVals (ndB (getB l) 0 0))) ∧ Below w.heap.size w w' := by
  have hu := Try.underlying24
  obtain ⟨X, hX⟩ : ∃ X, X = ndB (getB l) 0 0 := ⟨_, rfl⟩
  have hx0 : l[0]? = some X := by rw [hX]; exact getB_at (by rw [hA.1]; omega)
  obtain ⟨g, q, hg, lx, hix⟩ := hA.2.2.2.2.pick c hA.1 hx0
  rw [show ((0 : Nat) : Int) = 0 from rfl] at hix
  have hzx : (Try.prog.info? 24).map (·.size) = some (X.map u8v).length := by rw [List.length_map, lx]; exact sizeId
  rw [← hX]
  have h0 : ∀ zc, Blk (w.alloc (.cells zc 24)) w.heap.size 24 zc := fun zc => Blk.new _ _ _
  have hg0 : ∀ o, (w.alloc o).rangeAt g q (X.map u8v) := fun o => hg.below ((Below.refl _ _).alloc (Nat.le_refl _) o)
  have hB : ∀ o, Below w.heap.size w (w.alloc o) := fun o => (Below.refl _ _).alloc (Nat.le_refl _) o
  have HLX := hid lx
  clear hX hx0 lx hA hg
  go_enter Try.func64, Try.ntmps64
  go_wp2_with (first
    | (with_reducible refine wpList_load_if (by with_unfolding_all rfl) 24 _ rfl _ _ rfl (X.map u8v) _ (hg0 _) hu (by with_unfolding_all rfl) hzx ?_)
    | (with_reducible refine wpList_store_blk rfl 24 _ _ rfl w.heap.size _ (idVals X) 24 (h0 _) rfl rfl ?c2 ?c3 (idVals_one _) ?_))
  case c2 => rw [idVals_size, HLX.out]; try exact sizeId
  case c3 => rw [idVals_size, HLX.out]; rfl
  intro w9 hb9 hg9
  go_wp2
  refine bodyPost_ret (results_cell_row rfl _ _ _ _ _ _ _ rfl hb9 Try.underlying24 rfl (by rw [idVals_size, HLX.out]; exact sizeId)) rfl ⟨rfl, ?_⟩
  exact (hB _).grown hg9 (hB _).size (by intro i e; cases e; exact Nat.le_refl _)
set_option maxRecDepth 100000 in
set_option maxHeartbeats 8000000 in
set_option linter.unusedSimpArgs false in
theorem rfold_any : ∀ (k : Nat) (A : Option Addr) (n c : Nat) (l : List (List UInt8)) (w : World), n = 2 ^ k → RowAt w A n c l →
    Calls Try.prog 64 #[.slice A n c] w fun e w' => e = .returned (.agg (idVals (ndB (getB l) k 0))) ∧ Below w.heap.size w w'
  | 0, A, n, c, l, w, hn, hA => by subst hn; exact rfold_zero A c l w hA
  | k + 1, A, n, c, l, w, hn, hA => by
    have hm1 : 1 ≤ 2 ^ k := Nat.one_le_two_pow
    have hnm : n = 2 * 2 ^ k := by rw [hn, Nat.pow_succ, Nat.mul_comm]
    obtain ⟨g, o, rfl, ht, hd⟩ := hA.cut (2 ^ k) hm1 (by omega)
    have i1 := rfold_any k (some ⟨g, o, none⟩) (2 ^ k) c (l.take (2 ^ k))
    have i2 := rfold_any k (some ⟨g, o + 2 ^ k * 32, none⟩) (n - 2 ^ k) (c - 2 ^ k) (l.drop (2 ^ k))
    have l1 := ndB_length (getB (l.take (2 ^ k))) (getB_length ht.2.2.2.2.1) k 0
    have l2 := ndB_length (getB (l.drop (2 ^ k))) (getB_length hd.2.2.2.2.1) k 0
    rw [ndB_two]
    generalize ndB (getB (l.take (2 ^ k))) k 0 = X at *
    generalize ndB (getB (l.drop (2 ^ k))) k 0 = Y at *
    have cN : ∀ W : World, Calls Try.prog 65 #[.string ⟨#[110, 111, 100, 101]⟩, .agg (idVals X), .agg (idVals Y)] W fun e w' => e = .returned (.agg (idVals (nodeB X Y))) ∧ Below W.heap.size W w' := fun W => rpair_any nodeN (by decide) X Y l1 l2 W
    have hZL := nodeB_length X Y
    generalize nodeB X Y = Z at *
    have i3 := fun W h => i1 W rfl h
    have i4 := fun W h => i2 W (by omega) h
    clear i1 i2 hn
    generalize 2 ^ k = m at *
    have hhi := run_slice_hi_ids g o n c m (by have := hA.2.1; omega)
    have hlo := run_slice_lo_ids g o n c m (by omega) hA.2.1
    have hq : ((n : Int)).tdiv 2 = (m : Int) := by rw [(half_facts n).1]; omega
    have hw : wrap64 (m : Int) = m := by have := hA.2.2.2.1; unfold wrap64; omega
    have z1 : ((n : Int) == 1) = false := by simp; omega
    have c1 : ∀ W, FoldRS w W → Calls Try.prog 64 #[.slice (some ⟨g, o, none⟩) m c] W fun e w' => e = .returned (.agg (idVals X)) ∧ Below W.heap.size W w' := fun W h => i3 W (ht.below h.bel)
    have c2 : ∀ W, FoldRS w W → Calls Try.prog 64 #[.slice (some ⟨g, o + m * 32, none⟩) (n - m) (c - m)] W fun e w' => e = .returned (.agg (idVals Y)) ∧ Below W.heap.size W w' := fun W h => i4 W (hd.below h.bel)
    have HZL := hid hZL
    clear hZL i3 i4 ht hd hA l1 l2 hnm
    go_enter Try.func64, Try.ntmps64
    go_wp2
    have h0 := FoldRS.new w #[.int .u8 0, .int .u8 0, .int .u8 0, .int .u8 0, .int .u8 0, .int .u8 0, .int .u8 0, .int .u8 0, .int .u8 0, .int .u8 0, .int .u8 0, .int .u8 0, .int .u8 0, .int .u8 0, .int .u8 0, .int .u8 0, .int .u8 0, .int .u8 0, .int .u8 0, .int .u8 0, .int .u8 0, .int .u8 0, .int .u8 0, .int .u8 0, .int .u8 0, .int .u8 0, .int .u8 0, .int .u8 0, .int .u8 0, .int .u8 0, .int .u8 0, .int .u8 0] rfl
    generalize w.alloc (.cells _ 24) = w0 at *
    refine wp_region_held_drew (S := fun W => FoldRS w W) (by kernel_rfl) ?_ (fun hHeld => ?_)
    · exact h0.below (below_drew1 _)
    refine' wpAnyH_take (i := 0) (v := .slice (some ⟨g, o, none⟩) n c) rfl (by kernel_rfl) (by kernel_rfl) (by kernel_rfl) (fun _ _ _ h => h) (Or.inl ⟨by rfl, fun w' hw' => by go_simp⟩) hHeld ?_
    try simp only [Act.put, List.getElem_toArray, List.getElem_cons_succ, List.getElem_cons_zero, List.setIfInBounds_toArray, List.set_cons_zero, List.set_cons_succ]
    refine' wpAnyH_take (i := 1) (v := .int .i64 m) rfl (by kernel_rfl) (by kernel_rfl) (by kernel_rfl) (fun _ _ _ h => h) (Or.inl ⟨by rfl, fun w' hw' => by go_simp⟩) hHeld ?_
    try simp only [Act.put, List.getElem_toArray, List.getElem_cons_succ, List.getElem_cons_zero, List.setIfInBounds_toArray, List.set_cons_zero, List.set_cons_succ]
    refine' wpAnyH_take (i := 2) (v := .slice (some ⟨g, o, none⟩) m c) rfl (by kernel_rfl) (by kernel_rfl) (by kernel_rfl) (fun _ _ _ h => h) (Or.inl ⟨by rfl, fun w' hw' => by have hv := hhi w'; go_simp⟩) hHeld ?_
    try simp only [Act.put, List.getElem_toArray, List.getElem_cons_succ, List.getElem_cons_zero, List.setIfInBounds_toArray, List.set_cons_zero, List.set_cons_succ]
    refine' wpAnyH_take (i := 4) (v := .slice (some ⟨g, o, none⟩) n c) rfl (by kernel_rfl) (by kernel_rfl) (by kernel_rfl) (fun _ _ _ h => h) (Or.inl ⟨by rfl, fun w' hw' => by go_simp⟩) hHeld ?_
    try simp only [Act.put, List.getElem_toArray, List.getElem_cons_succ, List.getElem_cons_zero, List.setIfInBounds_toArray, List.set_cons_zero, List.set_cons_succ]
    refine' wpAnyH_take (i := 5) (v := .int .i64 m) rfl (by kernel_rfl) (by kernel_rfl) (by kernel_rfl) (fun _ _ _ h => h) (Or.inl ⟨by rfl, fun w' hw' => by go_simp⟩) hHeld ?_
    try simp only [Act.put, List.getElem_toArray, List.getElem_cons_succ, List.getElem_cons_zero, List.setIfInBounds_toArray, List.set_cons_zero, List.set_cons_succ]
    refine' wpAnyH_take (i := 6) (v := .slice (some ⟨g, o + m * 32, none⟩) (n - m) (c - m)) rfl (by kernel_rfl) (by kernel_rfl) (by kernel_rfl) (fun _ _ _ h => h) (Or.inl ⟨by rfl, fun w' hw' => by have hv := hlo w'; go_simp⟩) hHeld ?_
    try simp only [Act.put, List.getElem_toArray, List.getElem_cons_succ, List.getElem_cons_zero, List.setIfInBounds_toArray, List.set_cons_zero, List.set_cons_succ]
    refine wpAnyH_ready (rs := [3]) (by kernel_rfl) (by simp) ?_
    refine AllReadyH.cons rfl (fun K hK => ?_) AllReadyH.nil
    go_simp
    (with_reducible refine (c1 _ hHeld).mono ?_)
    rintro e3 w3 ⟨rfl, hb3⟩
    refine hK.out _ _ (hHeld.below hb3) (fun hHeld => ?_)
    clear hK K
    try simp only [Act.put, List.getElem_toArray, List.getElem_cons_succ, List.getElem_cons_zero, List.setIfInBounds_toArray, List.set_cons_zero, List.set_cons_succ]
    refine wpAnyH_ready (rs := [7]) (by kernel_rfl) (by simp) ?_
    refine AllReadyH.cons rfl (fun K hK => ?_) AllReadyH.nil
    go_simp
    (with_reducible refine (c2 _ hHeld).mono ?_)
    rintro e7 w7 ⟨rfl, hb7⟩
    refine hK.out _ _ (hHeld.below hb7) (fun hHeld => ?_)
    clear hK K
    try simp only [Act.put, List.getElem_toArray, List.getElem_cons_succ, List.getElem_cons_zero, List.setIfInBounds_toArray, List.set_cons_zero, List.set_cons_succ]
    refine wpAnyH_ready (rs := [8]) (by kernel_rfl) (by simp) ?_
    refine AllReadyH.cons rfl (fun K hK => ?_) AllReadyH.nil
    go_simp
    (with_reducible refine (cN _).mono ?_)
    rintro e8 w8 ⟨rfl, hb8⟩
    refine hK.out _ _ (hHeld.below hb8) (fun hHeld => ?_)
    clear hK K
    try simp only [Act.put, List.getElem_toArray, List.getElem_cons_succ, List.getElem_cons_zero, List.setIfInBounds_toArray, List.set_cons_zero, List.set_cons_succ]
    refine wpAnyH_ready (rs := [9]) (by kernel_rfl) (by simp) ?_
    refine AllReadyH.cons rfl (fun K hK => ?_) AllReadyH.nil
    rw [if_pos (by rfl)]
    obtain ⟨zc, hC, hCs⟩ := hHeld.res
    refine wp_store_blk 24 _ _ rfl w.heap.size zc (idVals Z) 24 hC rfl rfl (by rw [idVals_size, HZL.out]; exact sizeId) (by rw [idVals_size, HZL.out]; exact hCs) (idVals_one _) ?_
    intro w9 hb9 hg9
    refine hK.out _ _ (hHeld.put hb9 HZL.out hg9) (fun hHeld => ?_)
    clear hK K
    try simp only [Act.put, List.getElem_toArray, List.getElem_cons_succ, List.getElem_cons_zero, List.setIfInBounds_toArray, List.set_cons_zero, List.set_cons_succ]
    refine wpAnyH_done (by kernel_rfl) ?_ _
    go_wp2
    refine bodyPost_ret (results_cell_row rfl _ _ _ _ _ _ _ rfl hb9 Try.underlying24 rfl (by rw [idVals_size, HZL.out]; exact sizeId)) rfl ⟨rfl, ?_⟩
    exact hHeld.bel
end Go.Proofs.Ytfdbgmnnahcejaa

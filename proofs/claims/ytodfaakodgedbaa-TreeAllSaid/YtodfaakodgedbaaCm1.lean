
/- commute: operations' clones; whether two operations are apart. -/
import Derived.Test.YtodfaakodgedbaaCm0
import Derived.Test.YtodfaakodgedbaaOpE
set_option linter.unusedSimpArgs false
set_option linter.unusedVariables false
namespace Go.Proofs.Ytodfaakodgedbaa
open Go.RowKit Go.Qc Go.Shelf
attribute [local go_sem] txt_size txt_append ib_fold txt_toL

theorem yields_opx {ops : Array Oper} {S : World → Prop} {o : Oper} {a : Act} (hw : Region.wanted o (yielded ops a.tmps) = true) (x : Operand) (ho : o.op = .load 40 x) (g : Nat) (hx : a.eval x = .pointer (some ⟨g, 0, none⟩)) {D : OpD} {A : Option Addr} {n c : Nat} {B : Option Addr} {m d : Nat} (hX : ∀ w', S w' → OpX w' g D A n c B m d) (hK : D.K.length = 32) : YieldsIf Try.prog ops S o (.agg (opC D A n c B m d)) a := by
  have h := yieldsIf_load_mid (P := Try.prog) (S := S) hw 40 x ho g 0 hx (opC D A n c B m d).toList _ (fun w' h => (hX w' h).all) Try.underlying40 rfl (by rw [infoOp, Array.length_toList, opC_size _ _ _ _ _ _ _ hK])
  rw [Array.toArray_toList] at h
  exact h
theorem wp_store_whole {P : Program} {w : World} {o : Oper} {a : Act} {K : Act → World → Prop} {Q : Exit → Act → World → Prop} (ty : TypeId) (x y : Operand) (ho : o.op = .store ty x y)
    (g : Nat) (old cs : Array Value) (t : TypeId) (hg : Blk w g t old) (hx : a.eval x = .pointer (some ⟨g, 0, none⟩)) (hy : a.eval y = .agg cs) (hi : (P.info? ty).map (·.size) = some cs.size) (hs : old.size = cs.size) (h1 : cs.all (·.oneCell') = true)
    (h : ∀ w', Blk w' g t cs → w.grownBy w' (some g) → K (a.put o.dst undef) w') : o.wp P a w K Q := by
  have hr : (Instr.storeAt ty (.pointer (some ⟨g, 0, none⟩)) (.agg cs)).run P w = .ok () (w.setRow g cs) := by
    simp only [Instr.storeAt, Instr.sureAddr, Sem.run_bind, Sem.run_pure, Result.andThen]
    exact run_storeVar_row _ g t ty old cs hg hi hs h1
  obtain ⟨hb, hgr⟩ := blk_over hg cs
  unfold Oper.wp
  simp [execOp, ho, hx, hy, hr]
  exact h _ hb hgr

set_option maxRecDepth 100000 in
set_option maxHeartbeats 16000000 in
theorem oclone_any (D : OpD) (A : Option Addr) (n c : Nat) (B : Option Addr) (m d : Nat) (w : World) (hlo : D.o.length = n) (bn : n ≤ 1000000) (hln : D.n.length = m) (bm : m ≤ 1000000) (K1 : D.K.length = 32) (rA : Rd w A (D.o.map strV)) (rB : Rd w B (D.n.map strV)) :
    Calls Try.prog 46 #[.agg (opC D A n c B m d)] w fun e w' => ∃ A' c' B' d', e = .returned (.agg (opC D A' n c' B' m d')) ∧ w'.ownsRow w.heap.size 9 1 (.slice A' n c') n (D.o.map strV) ∧ w'.ownsRow w.heap.size 9 1 (.slice B' m d') m (D.n.map strV) ∧ Below w.heap.size w w' := by
  have cA : ∀ W, Below w.heap.size w W → Calls Try.prog 19 #[.slice A n c] W fun e w' => ∃ A' c', e = .returned (.slice A' n c') ∧ w'.ownsRow W.heap.size 9 1 (.slice A' n c') n (D.o.map strV) ∧ Below W.heap.size W w' := fun W h => (clones_any A n c D.o hlo bn W (rA.below h)).mono (by
    rintro e w' ⟨v, rfl, h1, h2⟩
    obtain ⟨A', c', rfl⟩ := own_str h1
    exact ⟨A', c', rfl, h1, h2⟩)
  have cB : ∀ W, Below w.heap.size w W → Calls Try.prog 19 #[.slice B m d] W fun e w' => ∃ A' c', e = .returned (.slice A' m c') ∧ w'.ownsRow W.heap.size 9 1 (.slice A' m c') m (D.n.map strV) ∧ Below W.heap.size W w' := fun W h => (clones_any B m d D.n hln bm W (rB.below h)).mono (by
    rintro e w' ⟨v, rfl, h1, h2⟩
    obtain ⟨A', c', rfl⟩ := own_str h1
    exact ⟨A', c', rfl, h1, h2⟩)
  have hB0 : Below w.heap.size w (w.alloc (.cells (opC D A n c B m d) 40)) := (Below.refl _ w).alloc (Nat.le_refl _) _
  have hX0 := OpX.new w D A n c B m d
  have hk1 : (w.alloc (.cells (opC D A n c B m d) 40)).heap.size = w.heap.size + 1 := by simp
  obtain ⟨zc, hzc, hz0⟩ : ∃ zc : Array Value, zc = #[.int .i64 0, .string ⟨#[]⟩, .string ⟨#[]⟩, .int .i64 0, .slice none 0 0, .slice none 0 0, .int .u8 0, .int .u8 0, .int .u8 0, .int .u8 0, .int .u8 0, .int .u8 0, .int .u8 0, .int .u8 0, .int .u8 0, .int .u8 0, .int .u8 0, .int .u8 0, .int .u8 0, .int .u8 0, .int .u8 0, .int .u8 0, .int .u8 0, .int .u8 0, .int .u8 0, .int .u8 0, .int .u8 0, .int .u8 0, .int .u8 0, .int .u8 0, .int .u8 0, .int .u8 0, .int .u8 0, .int .u8 0, .int .u8 0, .int .u8 0, .int .u8 0, .int .u8 0, .int .i64 0] ∧ zc.size = 39 := ⟨_, rfl, rfl⟩
  have hz := Blk.new (w.alloc (.cells (opC D A n c B m d) 40)) 40 zc
  rw [hk1] at hz
  have hX := hX0.alloc (.cells zc 40)
  have hB := hB0.alloc hB0.size (.cells zc 40)
  clear hX0 hB0 hk1 rA rB
  go_enter Try.func46, Try.ntmps46
  go_wp2_with (fail)
  rw [← hzc]
  generalize (w.alloc (.cells (opC D A n c B m d) 40)).alloc (.cells zc 40) = W0 at *
  refine Code.wp_mono (Q := fun x a' W => x = .normal ∧ ∃ A' c' B' d' zc, a' = { tmps := #[.agg (opC D A n c B m d), .pointer (some ⟨w.heap.size, 0, none⟩), .pointer (some ⟨w.heap.size + 1, 0, none⟩), .pointer (some ⟨w.heap.size, 4, none⟩), .slice A n c, .slice A' n c', .pointer (some ⟨w.heap.size, 5, none⟩), .slice B m d, .slice B' m d', .pointer (some ⟨w.heap.size, 4, none⟩), .pointer (some ⟨w.heap.size, 5, none⟩), undef], defers := [] } ∧ OpX W w.heap.size D A' n c' B' m d' ∧ Blk W (w.heap.size + 1) 40 zc ∧ zc.size = 39 ∧ W.ownsRow w.heap.size 9 1 (.slice A' n c') n (D.o.map strV) ∧ W.ownsRow w.heap.size 9 1 (.slice B' m d') m (D.n.map strV) ∧ Below w.heap.size w W) ?cont ?reg
  case reg =>
    refine wp_region_held_drew (S := fun _ => True) (by kernel_rfl) trivial (fun _ => ?_)
    replace hX := hX.below (below_drew10 W0)
    replace hz := hz.below (below_drew10 W0)
    replace hB := hB.trans ((below_drew10 W0).mono hB.size)
    generalize W0.drew = W1 at *
    have fin : ∀ (A' : Option Addr) (c' : Nat) (B' : Option Addr) (d' : Nat) (W : World), OpX W w.heap.size D A' n c' B' m d' → Blk W (w.heap.size + 1) 40 zc → W.ownsRow w.heap.size 9 1 (.slice A' n c') n (D.o.map strV) → W.ownsRow w.heap.size 9 1 (.slice B' m d') m (D.n.map strV) → Below w.heap.size w W → (fun x a' W => x = .normal ∧ ∃ A' c' B' d' zc, a' = { tmps := #[.agg (opC D A n c B m d), .pointer (some ⟨w.heap.size, 0, none⟩), .pointer (some ⟨w.heap.size + 1, 0, none⟩), .pointer (some ⟨w.heap.size, 4, none⟩), .slice A n c, .slice A' n c', .pointer (some ⟨w.heap.size, 5, none⟩), .slice B m d, .slice B' m d', .pointer (some ⟨w.heap.size, 4, none⟩), .pointer (some ⟨w.heap.size, 5, none⟩), undef], defers := [] } ∧ OpX W w.heap.size D A' n c' B' m d' ∧ Blk W (w.heap.size + 1) 40 zc ∧ zc.size = 39 ∧ W.ownsRow w.heap.size 9 1 (.slice A' n c') n (D.o.map strV) ∧ W.ownsRow w.heap.size 9 1 (.slice B' m d') m (D.n.map strV) ∧ Below w.heap.size w W : Exit → Act → World → Prop) Exit.normal ({ tmps := #[.agg (opC D A n c B m d), .pointer (some ⟨w.heap.size, 0, none⟩), .pointer (some ⟨w.heap.size + 1, 0, none⟩), .pointer (some ⟨w.heap.size, 4, none⟩), .slice A n c, .slice A' n c', .pointer (some ⟨w.heap.size, 5, none⟩), .slice B m d, .slice B' m d', .pointer (some ⟨w.heap.size, 4, none⟩), .pointer (some ⟨w.heap.size, 5, none⟩), undef], defers := [] } : Act) W := fun A' c' B' d' W h1 h2 h3 h4 h5 => ⟨rfl, A', c', B', d', zc, rfl, h1, h2, hz0, h3, h4, h5⟩
    refine' wpAnyH_take (i := 0) (v := .pointer (some ⟨w.heap.size, 4, none⟩)) rfl (by kernel_rfl) (by kernel_rfl) (by kernel_rfl) (fun _ _ _ h => nomatch h.1) (Or.inl ⟨by rfl, fun w' hw' => by go_simp⟩) trivial ?_
    try simp only [Act.put, List.getElem_toArray, List.getElem_cons_succ, List.getElem_cons_zero, List.setIfInBounds_toArray, List.set_cons_zero, List.set_cons_succ]
    refine' wpAnyH_take (i := 3) (v := .pointer (some ⟨w.heap.size, 5, none⟩)) rfl (by kernel_rfl) (by kernel_rfl) (by kernel_rfl) (fun _ _ _ h => nomatch h.1) (Or.inl ⟨by rfl, fun w' hw' => by go_simp⟩) trivial ?_
    try simp only [Act.put, List.getElem_toArray, List.getElem_cons_succ, List.getElem_cons_zero, List.setIfInBounds_toArray, List.set_cons_zero, List.set_cons_succ]
    refine wpAnyH_ready (rs := [1, 4]) (by kernel_rfl) (by simp) ?_
    refine AllReadyH.cons rfl (fun K hK => ?_) (AllReadyH.cons rfl (fun K hK => ?_) AllReadyH.nil)
    · as_aux_lemma =>
        have y := hX.c4
        go_simp
        refine hK.out _ _ trivial (fun _ => ?_)
        clear hK K y
        try simp only [Act.put, List.getElem_toArray, List.getElem_cons_succ, List.getElem_cons_zero, List.setIfInBounds_toArray, List.set_cons_zero, List.set_cons_succ]
        refine wpAnyH_ready (rs := [2, 4]) (by kernel_rfl) (by simp) ?_
        refine AllReadyH.cons rfl (fun K hK => ?_) (AllReadyH.cons rfl (fun K hK => ?_) AllReadyH.nil)
        · as_aux_lemma =>
            go_simp
            (with_reducible refine (cA _ hB).mono ?_)
            rintro e2 W11 ⟨A', c', rfl, own1, hb⟩
            replace hX := hX.below hb
            replace hz := hz.below hb
            replace own1 := own_le own1 hB.size
            replace hB := hB.trans (hb.mono hB.size)
            refine hK.out _ _ trivial (fun _ => ?_)
            clear hK K hb
            try simp only [Act.put, List.getElem_toArray, List.getElem_cons_succ, List.getElem_cons_zero, List.setIfInBounds_toArray, List.set_cons_zero, List.set_cons_succ]
            refine wpAnyH_ready (rs := [4]) (by kernel_rfl) (by simp) ?_
            refine AllReadyH.cons rfl (fun K hK => ?_) AllReadyH.nil
            have y := hX.c5
            go_simp
            refine hK.out _ _ trivial (fun _ => ?_)
            clear hK K y
            try simp only [Act.put, List.getElem_toArray, List.getElem_cons_succ, List.getElem_cons_zero, List.setIfInBounds_toArray, List.set_cons_zero, List.set_cons_succ]
            refine' wpAnyH_take (i := 6) (v := .pointer (some ⟨w.heap.size, 4, none⟩)) rfl (by kernel_rfl) (by kernel_rfl) (by kernel_rfl) (fun _ _ _ h => nomatch h.1) (Or.inl ⟨by rfl, fun w' hw' => by go_simp⟩) trivial ?_
            try simp only [Act.put, List.getElem_toArray, List.getElem_cons_succ, List.getElem_cons_zero, List.setIfInBounds_toArray, List.set_cons_zero, List.set_cons_succ]
            refine wpAnyH_ready (rs := [5]) (by kernel_rfl) (by simp) ?_
            refine AllReadyH.cons rfl (fun K hK => ?_) AllReadyH.nil
            go_simp
            (with_reducible refine (cB _ hB).mono ?_)
            rintro e5 W111 ⟨B', d', rfl, own2, hb⟩
            replace hX := hX.below hb
            replace hz := hz.below hb
            replace own1 := own_below own1 hb
            replace own2 := own_le own2 hB.size
            replace hB := hB.trans (hb.mono hB.size)
            refine hK.out _ _ trivial (fun _ => ?_)
            clear hK K hb
            try simp only [Act.put, List.getElem_toArray, List.getElem_cons_succ, List.getElem_cons_zero, List.setIfInBounds_toArray, List.set_cons_zero, List.set_cons_succ]
            refine wpAnyH_ready (rs := [7]) (by kernel_rfl) (by simp) ?_
            refine AllReadyH.cons rfl (fun K hK => ?_) AllReadyH.nil
            have y := hX.c4
            have f := hX.b.frozen 4
            go_simp
            have hg := gb_set (gb_refl W111 (some w.heap.size)) 4 (.slice A' n c')
            have hX2 : OpX (W111.setCell ⟨w.heap.size, 4, none⟩ (.slice A' n c')) w.heap.size D A' n c' B m d := ⟨by have z := hX.b.set 4 (.slice A' n c'); rwa [opC_set4 D K1 A n c B m d D.o] at z⟩
            replace own1 := own1.kept hg (.inr (Lib.ownBlock_ne own1 hX.b (by decide)))
            replace own2 := own2.kept hg (.inr (Lib.ownBlock_ne own2 hX.b (by decide)))
            replace hz := blk_gb hz hg (by omega)
            replace hB := hB.trans (below_of_gb hg (Nat.le_refl _) hB.size)
            refine hK.out _ _ trivial (fun _ => ?_)
            clear hK K hg y f
            replace hX := hX2
            clear hX2
            generalize W111.setCell ⟨w.heap.size, 4, none⟩ (.slice A' n c') = W1111 at *
            try simp only [Act.put, List.getElem_toArray, List.getElem_cons_succ, List.getElem_cons_zero, List.setIfInBounds_toArray, List.set_cons_zero, List.set_cons_succ]
            refine' wpAnyH_take (i := 8) (v := .pointer (some ⟨w.heap.size, 5, none⟩)) rfl (by kernel_rfl) (by kernel_rfl) (by kernel_rfl) (fun _ _ _ h => nomatch h.1) (Or.inl ⟨by rfl, fun w' hw' => by go_simp⟩) trivial ?_
            try simp only [Act.put, List.getElem_toArray, List.getElem_cons_succ, List.getElem_cons_zero, List.setIfInBounds_toArray, List.set_cons_zero, List.set_cons_succ]
            refine wpAnyH_ready (rs := [9]) (by kernel_rfl) (by simp) ?_
            refine AllReadyH.cons rfl (fun K hK => ?_) AllReadyH.nil
            have y := hX.c5
            have f := hX.b.frozen 5
            go_simp
            have hg := gb_set (gb_refl W1111 (some w.heap.size)) 5 (.slice B' m d')
            have hX2 : OpX (W1111.setCell ⟨w.heap.size, 5, none⟩ (.slice B' m d')) w.heap.size D A' n c' B' m d' := ⟨by have z := hX.b.set 5 (.slice B' m d'); rwa [opC_set5 D K1 A' n c' B m d D.n] at z⟩
            replace own1 := own1.kept hg (.inr (Lib.ownBlock_ne own1 hX.b (by decide)))
            replace own2 := own2.kept hg (.inr (Lib.ownBlock_ne own2 hX.b (by decide)))
            replace hz := blk_gb hz hg (by omega)
            replace hB := hB.trans (below_of_gb hg (Nat.le_refl _) hB.size)
            refine hK.out _ _ trivial (fun _ => ?_)
            clear hK K hg y f
            replace hX := hX2
            clear hX2
            generalize W1111.setCell ⟨w.heap.size, 5, none⟩ (.slice B' m d') = W11111 at *
            try simp only [Act.put, List.getElem_toArray, List.getElem_cons_succ, List.getElem_cons_zero, List.setIfInBounds_toArray, List.set_cons_zero, List.set_cons_succ]
            refine wpAnyH_done (by kernel_rfl) ?_ _
            exact fin _ _ _ _ _ hX hz own1 own2 hB
        · as_aux_lemma =>
            have y := hX.c5
            go_simp
            refine hK.out _ _ trivial (fun _ => ?_)
            clear hK K y
            try simp only [Act.put, List.getElem_toArray, List.getElem_cons_succ, List.getElem_cons_zero, List.setIfInBounds_toArray, List.set_cons_zero, List.set_cons_succ]
            refine wpAnyH_ready (rs := [2]) (by kernel_rfl) (by simp) ?_
            refine AllReadyH.cons rfl (fun K hK => ?_) AllReadyH.nil
            go_simp
            (with_reducible refine (cA _ hB).mono ?_)
            rintro e2 W11 ⟨A', c', rfl, own1, hb⟩
            replace hX := hX.below hb
            replace hz := hz.below hb
            replace own1 := own_le own1 hB.size
            replace hB := hB.trans (hb.mono hB.size)
            refine hK.out _ _ trivial (fun _ => ?_)
            clear hK K hb
            try simp only [Act.put, List.getElem_toArray, List.getElem_cons_succ, List.getElem_cons_zero, List.setIfInBounds_toArray, List.set_cons_zero, List.set_cons_succ]
            refine' wpAnyH_take (i := 6) (v := .pointer (some ⟨w.heap.size, 4, none⟩)) rfl (by kernel_rfl) (by kernel_rfl) (by kernel_rfl) (fun _ _ _ h => nomatch h.1) (Or.inl ⟨by rfl, fun w' hw' => by go_simp⟩) trivial ?_
            try simp only [Act.put, List.getElem_toArray, List.getElem_cons_succ, List.getElem_cons_zero, List.setIfInBounds_toArray, List.set_cons_zero, List.set_cons_succ]
            refine wpAnyH_ready (rs := [5]) (by kernel_rfl) (by simp) ?_
            refine AllReadyH.cons rfl (fun K hK => ?_) AllReadyH.nil
            go_simp
            (with_reducible refine (cB _ hB).mono ?_)
            rintro e5 W111 ⟨B', d', rfl, own2, hb⟩
            replace hX := hX.below hb
            replace hz := hz.below hb
            replace own1 := own_below own1 hb
            replace own2 := own_le own2 hB.size
            replace hB := hB.trans (hb.mono hB.size)
            refine hK.out _ _ trivial (fun _ => ?_)
            clear hK K hb
            try simp only [Act.put, List.getElem_toArray, List.getElem_cons_succ, List.getElem_cons_zero, List.setIfInBounds_toArray, List.set_cons_zero, List.set_cons_succ]
            refine wpAnyH_ready (rs := [7]) (by kernel_rfl) (by simp) ?_
            refine AllReadyH.cons rfl (fun K hK => ?_) AllReadyH.nil
            have y := hX.c4
            have f := hX.b.frozen 4
            go_simp
            have hg := gb_set (gb_refl W111 (some w.heap.size)) 4 (.slice A' n c')
            have hX2 : OpX (W111.setCell ⟨w.heap.size, 4, none⟩ (.slice A' n c')) w.heap.size D A' n c' B m d := ⟨by have z := hX.b.set 4 (.slice A' n c'); rwa [opC_set4 D K1 A n c B m d D.o] at z⟩
            replace own1 := own1.kept hg (.inr (Lib.ownBlock_ne own1 hX.b (by decide)))
            replace own2 := own2.kept hg (.inr (Lib.ownBlock_ne own2 hX.b (by decide)))
            replace hz := blk_gb hz hg (by omega)
            replace hB := hB.trans (below_of_gb hg (Nat.le_refl _) hB.size)
            refine hK.out _ _ trivial (fun _ => ?_)
            clear hK K hg y f
            replace hX := hX2
            clear hX2
            generalize W111.setCell ⟨w.heap.size, 4, none⟩ (.slice A' n c') = W1111 at *
            try simp only [Act.put, List.getElem_toArray, List.getElem_cons_succ, List.getElem_cons_zero, List.setIfInBounds_toArray, List.set_cons_zero, List.set_cons_succ]
            refine' wpAnyH_take (i := 8) (v := .pointer (some ⟨w.heap.size, 5, none⟩)) rfl (by kernel_rfl) (by kernel_rfl) (by kernel_rfl) (fun _ _ _ h => nomatch h.1) (Or.inl ⟨by rfl, fun w' hw' => by go_simp⟩) trivial ?_
            try simp only [Act.put, List.getElem_toArray, List.getElem_cons_succ, List.getElem_cons_zero, List.setIfInBounds_toArray, List.set_cons_zero, List.set_cons_succ]
            refine wpAnyH_ready (rs := [9]) (by kernel_rfl) (by simp) ?_
            refine AllReadyH.cons rfl (fun K hK => ?_) AllReadyH.nil
            have y := hX.c5
            have f := hX.b.frozen 5
            go_simp
            have hg := gb_set (gb_refl W1111 (some w.heap.size)) 5 (.slice B' m d')
            have hX2 : OpX (W1111.setCell ⟨w.heap.size, 5, none⟩ (.slice B' m d')) w.heap.size D A' n c' B' m d' := ⟨by have z := hX.b.set 5 (.slice B' m d'); rwa [opC_set5 D K1 A' n c' B m d D.n] at z⟩
            replace own1 := own1.kept hg (.inr (Lib.ownBlock_ne own1 hX.b (by decide)))
            replace own2 := own2.kept hg (.inr (Lib.ownBlock_ne own2 hX.b (by decide)))
            replace hz := blk_gb hz hg (by omega)
            replace hB := hB.trans (below_of_gb hg (Nat.le_refl _) hB.size)
            refine hK.out _ _ trivial (fun _ => ?_)
            clear hK K hg y f
            replace hX := hX2
            clear hX2
            generalize W1111.setCell ⟨w.heap.size, 5, none⟩ (.slice B' m d') = W11111 at *
            try simp only [Act.put, List.getElem_toArray, List.getElem_cons_succ, List.getElem_cons_zero, List.setIfInBounds_toArray, List.set_cons_zero, List.set_cons_succ]
            refine wpAnyH_done (by kernel_rfl) ?_ _
            exact fin _ _ _ _ _ hX hz own1 own2 hB
    · as_aux_lemma =>
        have y := hX.c5
        go_simp
        refine hK.out _ _ trivial (fun _ => ?_)
        clear hK K y
        try simp only [Act.put, List.getElem_toArray, List.getElem_cons_succ, List.getElem_cons_zero, List.setIfInBounds_toArray, List.set_cons_zero, List.set_cons_succ]
        refine wpAnyH_ready (rs := [1]) (by kernel_rfl) (by simp) ?_
        refine AllReadyH.cons rfl (fun K hK => ?_) AllReadyH.nil
        have y := hX.c4
        go_simp
        refine hK.out _ _ trivial (fun _ => ?_)
        clear hK K y
        try simp only [Act.put, List.getElem_toArray, List.getElem_cons_succ, List.getElem_cons_zero, List.setIfInBounds_toArray, List.set_cons_zero, List.set_cons_succ]
        refine wpAnyH_ready (rs := [2]) (by kernel_rfl) (by simp) ?_
        refine AllReadyH.cons rfl (fun K hK => ?_) AllReadyH.nil
        go_simp
        (with_reducible refine (cA _ hB).mono ?_)
        rintro e2 W11 ⟨A', c', rfl, own1, hb⟩
        replace hX := hX.below hb
        replace hz := hz.below hb
        replace own1 := own_le own1 hB.size
        replace hB := hB.trans (hb.mono hB.size)
        refine hK.out _ _ trivial (fun _ => ?_)
        clear hK K hb
        try simp only [Act.put, List.getElem_toArray, List.getElem_cons_succ, List.getElem_cons_zero, List.setIfInBounds_toArray, List.set_cons_zero, List.set_cons_succ]
        refine' wpAnyH_take (i := 6) (v := .pointer (some ⟨w.heap.size, 4, none⟩)) rfl (by kernel_rfl) (by kernel_rfl) (by kernel_rfl) (fun _ _ _ h => nomatch h.1) (Or.inl ⟨by rfl, fun w' hw' => by go_simp⟩) trivial ?_
        try simp only [Act.put, List.getElem_toArray, List.getElem_cons_succ, List.getElem_cons_zero, List.setIfInBounds_toArray, List.set_cons_zero, List.set_cons_succ]
        refine wpAnyH_ready (rs := [5]) (by kernel_rfl) (by simp) ?_
        refine AllReadyH.cons rfl (fun K hK => ?_) AllReadyH.nil
        go_simp
        (with_reducible refine (cB _ hB).mono ?_)
        rintro e5 W111 ⟨B', d', rfl, own2, hb⟩
        replace hX := hX.below hb
        replace hz := hz.below hb
        replace own1 := own_below own1 hb
        replace own2 := own_le own2 hB.size
        replace hB := hB.trans (hb.mono hB.size)
        refine hK.out _ _ trivial (fun _ => ?_)
        clear hK K hb
        try simp only [Act.put, List.getElem_toArray, List.getElem_cons_succ, List.getElem_cons_zero, List.setIfInBounds_toArray, List.set_cons_zero, List.set_cons_succ]
        refine wpAnyH_ready (rs := [7]) (by kernel_rfl) (by simp) ?_
        refine AllReadyH.cons rfl (fun K hK => ?_) AllReadyH.nil
        have y := hX.c4
        have f := hX.b.frozen 4
        go_simp
        have hg := gb_set (gb_refl W111 (some w.heap.size)) 4 (.slice A' n c')
        have hX2 : OpX (W111.setCell ⟨w.heap.size, 4, none⟩ (.slice A' n c')) w.heap.size D A' n c' B m d := ⟨by have z := hX.b.set 4 (.slice A' n c'); rwa [opC_set4 D K1 A n c B m d D.o] at z⟩
        replace own1 := own1.kept hg (.inr (Lib.ownBlock_ne own1 hX.b (by decide)))
        replace own2 := own2.kept hg (.inr (Lib.ownBlock_ne own2 hX.b (by decide)))
        replace hz := blk_gb hz hg (by omega)
        replace hB := hB.trans (below_of_gb hg (Nat.le_refl _) hB.size)
        refine hK.out _ _ trivial (fun _ => ?_)
        clear hK K hg y f
        replace hX := hX2
        clear hX2
        generalize W111.setCell ⟨w.heap.size, 4, none⟩ (.slice A' n c') = W1111 at *
        try simp only [Act.put, List.getElem_toArray, List.getElem_cons_succ, List.getElem_cons_zero, List.setIfInBounds_toArray, List.set_cons_zero, List.set_cons_succ]
        refine' wpAnyH_take (i := 8) (v := .pointer (some ⟨w.heap.size, 5, none⟩)) rfl (by kernel_rfl) (by kernel_rfl) (by kernel_rfl) (fun _ _ _ h => nomatch h.1) (Or.inl ⟨by rfl, fun w' hw' => by go_simp⟩) trivial ?_
        try simp only [Act.put, List.getElem_toArray, List.getElem_cons_succ, List.getElem_cons_zero, List.setIfInBounds_toArray, List.set_cons_zero, List.set_cons_succ]
        refine wpAnyH_ready (rs := [9]) (by kernel_rfl) (by simp) ?_
        refine AllReadyH.cons rfl (fun K hK => ?_) AllReadyH.nil
        have y := hX.c5
        have f := hX.b.frozen 5
        go_simp
        have hg := gb_set (gb_refl W1111 (some w.heap.size)) 5 (.slice B' m d')
        have hX2 : OpX (W1111.setCell ⟨w.heap.size, 5, none⟩ (.slice B' m d')) w.heap.size D A' n c' B' m d' := ⟨by have z := hX.b.set 5 (.slice B' m d'); rwa [opC_set5 D K1 A' n c' B m d D.n] at z⟩
        replace own1 := own1.kept hg (.inr (Lib.ownBlock_ne own1 hX.b (by decide)))
        replace own2 := own2.kept hg (.inr (Lib.ownBlock_ne own2 hX.b (by decide)))
        replace hz := blk_gb hz hg (by omega)
        replace hB := hB.trans (below_of_gb hg (Nat.le_refl _) hB.size)
        refine hK.out _ _ trivial (fun _ => ?_)
        clear hK K hg y f
        replace hX := hX2
        clear hX2
        generalize W1111.setCell ⟨w.heap.size, 5, none⟩ (.slice B' m d') = W11111 at *
        try simp only [Act.put, List.getElem_toArray, List.getElem_cons_succ, List.getElem_cons_zero, List.setIfInBounds_toArray, List.set_cons_zero, List.set_cons_succ]
        refine wpAnyH_done (by kernel_rfl) ?_ _
        exact fin _ _ _ _ _ hX hz own1 own2 hB
  case cont =>
    rintro x a' W ⟨rfl, A', c', B', d', zc2, rfl, hX2, hz2, hz3, o1, o2, hB2⟩
    have hi2 : (Try.prog.info? 40).map (·.size) = some (opC D A' n c' B' m d').size := by rw [opC_size _ _ _ _ _ _ _ K1]; exact infoOp
    have hs2 : zc2.size = (opC D A' n c' B' m d').size := by rw [opC_size _ _ _ _ _ _ _ K1, hz3]
    have ho2 := opC_one D A' n c' B' m d'
    go_wp2_with (first
      | (with_reducible refine wpList_load_opx (by with_unfolding_all rfl) _ rfl _ rfl hX2 K1 ?_)
      | (with_reducible refine wpList_store_blk rfl 40 _ _ rfl (w.heap.size + 1) zc2 (opC D A' n c' B' m d') 40 hz2 rfl rfl hi2 hs2 ho2 ?_))
    intro W9 hb9 hg9
    go_wp2
    refine bodyPost_ret (results_cell_row rfl _ _ _ _ _ _ _ rfl hb9 Try.underlying40 rfl (by rw [opC_size _ _ _ _ _ _ _ K1]; exact infoOp)) rfl ?_
    exact ⟨A', c', B', d', rfl, o1.kept hg9 (.inr (Lib.ownBlock_ne o1 hz2 (by decide))), o2.kept hg9 (.inr (Lib.ownBlock_ne o2 hz2 (by decide))), hB2.trans (below_of_gb hg9 (Nat.le_succ _) hB2.size)⟩

set_option maxRecDepth 100000 in
set_option maxHeartbeats 16000000 in
theorem ohunk_any (D : OpD) (A : Option Addr) (n c : Nat) (B : Option Addr) (m d : Nat) (w : World) (hlo : D.o.length = n) (bn : n ≤ 1000000) (hln : D.n.length = m) (bm : m ≤ 1000000) (hK : D.K.length = 32) (rA : Rd w A (D.o.map strV)) (rB : Rd w B (D.n.map strV)) :
    Calls Try.prog 25 #[.agg (opC D A n c B m d)] w fun e w' => ∃ A' c' B' d', e = .returned (.agg #[.int .i64 D.a, .slice A' n c', .slice B' m d']) ∧ w'.ownsRow w.heap.size 9 1 (.slice A' n c') n (D.o.map strV) ∧ w'.ownsRow w.heap.size 9 1 (.slice B' m d') m (D.n.map strV) ∧ Below w.heap.size w w' := by
  have hB0 : Below w.heap.size w (w.alloc (.cells (opC D A n c B m d) 40)) := (Below.refl _ w).alloc (Nat.le_refl _) _
  have hX := (OpX.new w D A n c B m d).alloc (.cells #[.int .i64 0, .slice none 0 0, .slice none 0 0] 64)
  have hk1 : (w.alloc (.cells (opC D A n c B m d) 40)).heap.size = w.heap.size + 1 := by simp
  have hz := Blk.new (w.alloc (.cells (opC D A n c B m d) 40)) 64 #[.int .i64 0, .slice none 0 0, .slice none 0 0]
  rw [hk1] at hz
  have hB := hB0.alloc hB0.size (.cells #[.int .i64 0, .slice none 0 0, .slice none 0 0] 64)
  have cC := oclone_any D A n c B m d _ hlo bn hln bm hK (rA.below hB) (rB.below hB)
  clear hB0 hk1
  go_enter Try.func25, Try.ntmps25
  go_wp2_with (first
    | (with_reducible refine wpList_load_opx (by with_unfolding_all rfl) _ rfl _ rfl hX hK ?_)
    | (go_at_call 46; (with_reducible refine cC.mono ?_); rintro e1 w1 ⟨A', c', B', d', rfl, o1, o2, hb⟩; replace hz := hz.below hb; have hB1 := hB.trans (hb.mono hB.size); replace o1 := own_le o1 hB.size; replace o2 := own_le o2 hB.size)
    | (go_at_call 45; (with_reducible refine (change_any D A' n c' B' m d' _).mono ?_); rintro e2 w2 ⟨rfl, hb2⟩; replace hz := hz.below hb2; replace o1 := own_below o1 hb2; replace o2 := own_below o2 hb2; have hB2 := hB1.trans (hb2.mono hB1.size))
    | (with_reducible refine wpList_store_blk rfl 64 _ _ rfl (w.heap.size + 1) _ #[.int .i64 D.a, .slice A' n c', .slice B' m d'] 64 hz rfl rfl ?c2 ?c3 ?c4 ?_))
  case c2 => kernel_rfl
  case c3 => rfl
  case c4 => simp [Value.oneCell']
  intro W9 hb9 hg9
  go_wp2
  refine bodyPost_ret (results_cell_row rfl _ _ _ _ _ _ _ rfl hb9 Try.underlying64 rfl (by kernel_rfl)) rfl ?_
  exact ⟨A', c', B', d', rfl, o1.kept hg9 (.inr (Lib.ownBlock_ne o1 hz (by decide))), o2.kept hg9 (.inr (Lib.ownBlock_ne o2 hz (by decide))), hB2.trans (below_of_gb hg9 (Nat.le_succ _) hB2.size)⟩

end Go.Proofs.Ytodfaakodgedbaa

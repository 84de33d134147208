
/- merkle: two texts of one sum: one step of the closure. -/
import Derived.Test.YtkbokffonnjjiaaMw6
import Derived.Test.YtkbokffonnjjiaaTagApart
import Derived.Deep.DeepCutAuto
set_option linter.unusedSimpArgs false
set_option linter.unusedVariables false
namespace Go.Proofs.Ytkbokffonnjjiaa
open Go.RowKit Go.Qc Go.Shelf
attribute [local go_sem] txt_size txt_append ib_fold
theorem infoStrM : (Try.prog.info? 9).map (·.size) = some 1 := by kernel_rfl
theorem wp_store_stM {w : World} {o : Oper} {a : Act} {K : Act → World → Prop} {Q : Exit → Act → World → Prop} (x y : Operand) (ho : o.op = .store 9 x y)
    (g : Nat) (v0 : Value) (hg : Blk w g 9 #[v0]) (s : ByteArray) (hx : a.eval x = .pointer (some ⟨g, 0, none⟩)) (hy : a.eval y = .string s)
    (h : ∀ w', Blk w' g 9 #[.string s] → w.grownBy w' (some g) → K (a.put o.dst undef) w') : o.wp Try.prog a w K Q :=
  wp_store_cellM 9 x y ho g 0 _ _ hg (.string s) hx hy infoStrM (by simp) rfl rfl fun w' hb hgr => h w' hb hgr
/-- Meeting under way: the two texts' boxes, the two rows', the place's. -/
structure MeS (w0 : World) (ga gb gl gm gt : Nat) (A : Option Addr) (n c : Nat) (B : Option Addr) (m d : Nat) (k : Int) (S T : List UInt8) (W : World) : Prop where
  a : Blk W ga 9 #[.string (txt S)]
  b : Blk W gb 9 #[.string (txt T)]
  l : Blk W gl 22 #[.slice A n c]
  m : Blk W gm 22 #[.slice B m d]
  t : Blk W gt 3 #[.int .i64 k]
  q : Below w0.heap.size w0 W
  n1 : w0.heap.size ≤ ga
  n2 : w0.heap.size ≤ gb
  n3 : ga ≠ gb
section
variable {w0 : World} {ga gb gl gm gt : Nat} {A : Option Addr} {n c : Nat} {B : Option Addr} {m d : Nat} {k : Int} {S T S' T' : List UInt8} {W W' : World}
theorem MeS.below (h : MeS w0 ga gb gl gm gt A n c B m d k S T W) (hb : Below W.heap.size W W') : MeS w0 ga gb gl gm gt A n c B m d k S T W' :=
  ⟨h.a.below hb, h.b.below hb, h.l.below hb, h.m.below hb, h.t.below hb, h.q.trans (hb.mono h.q.size), h.n1, h.n2, h.n3⟩
theorem MeS.putA (h : MeS w0 ga gb gl gm gt A n c B m d k S T W) (hx : Blk W' ga 9 #[.string (txt S')]) (hg : W.grownBy W' (some ga)) : MeS w0 ga gb gl gm gt A n c B m d k S' T W' :=
  ⟨hx, blk_gM h.b hg h.n3.symm, blk_gM h.l hg (blk_neM h.l h.a (by decide)), blk_gM h.m hg (blk_neM h.m h.a (by decide)), blk_gM h.t hg (blk_neM h.t h.a (by decide)), below_gM h.q hg h.n1, h.n1, h.n2, h.n3⟩
theorem MeS.putB (h : MeS w0 ga gb gl gm gt A n c B m d k S T W) (hx : Blk W' gb 9 #[.string (txt T')]) (hg : W.grownBy W' (some gb)) : MeS w0 ga gb gl gm gt A n c B m d k S T' W' :=
  ⟨blk_gM h.a hg h.n3, hx, blk_gM h.l hg (blk_neM h.l h.b (by decide)), blk_gM h.m hg (blk_neM h.m h.b (by decide)), blk_gM h.t hg (blk_neM h.t h.b (by decide)), below_gM h.q hg h.n2, h.n1, h.n2, h.n3⟩
end
/-- Two ids in two fresh boxes. -/
def CuI (w1 : World) (U V : List UInt8) (s t : Value) (W : World) : Prop :=
  ∃ g h, s = .pointer (some ⟨g, 0, none⟩) ∧ t = .pointer (some ⟨h, 0, none⟩) ∧ Blk W g 24 (idVals U) ∧ Blk W h 24 (idVals V) ∧ Below w1.heap.size w1 W
set_option maxRecDepth 100000 in
set_option maxHeartbeats 16000000 in
theorem meet1_same (w0 : World) (ga gb gl gm gt : Nat) (A : Option Addr) (n c : Nat) (B : Option Addr) (m d : Nat) (k : Nat) (S T : List UInt8) (hS : S.length ≤ 1000) (hT : T.length ≤ 1000) (x z : Nat) (hE : sumB S = sumB T) (W : World) (HS : MeS w0 ga gb gl gm gt A n c B m d (k : Int) S T W) :
    Calls Try.prog 107 (#[.int .i64 (x : Int), .int .i64 (z : Int)] ++ #[.pointer (some ⟨ga, 0, none⟩), .pointer (some ⟨gb, 0, none⟩), .pointer (some ⟨gl, 0, none⟩), .pointer (some ⟨gm, 0, none⟩), .pointer (some ⟨gt, 0, none⟩)]) W fun e w' => e = .returned (.tuple #[]) ∧ MeS w0 ga gb gl gm gt A n c B m d (k : Int) S T w' := by
  have hu := Try.underlying24
  have hU0 : (sumB S).length = 32 := sumB_length S
  have hV0 : (sumB T).length = 32 := sumB_length T
  have HSa : Hid (∀ W, Calls Try.prog 65 #[.string (txt S)] W fun e w' => e = .returned (.agg (idVals (sumB S))) ∧ Below W.heap.size W w') := hid (fun W => sum_any S (by omega) W)
  have HSb : Hid (∀ W, Calls Try.prog 65 #[.string (txt T)] W fun e w' => e = .returned (.agg (idVals (sumB T))) ∧ Below W.heap.size W w') := hid (fun W => sum_any T (by omega) W)
  have HM := hid HS
  clear HS
  have HU32 := hid hU0
  have HV32 := hid hV0
  obtain ⟨U, hUU⟩ : ∃ U, sumB S = U := ⟨_, rfl⟩
  obtain ⟨V, hVV⟩ : ∃ V, sumB T = V := ⟨_, rfl⟩
  rw [hUU] at HU32 HSa
  rw [hVV] at HV32 HSb
  have hE2 : U = V := by rw [← hUU, ← hVV]; exact hE
  clear hE hU0 hV0 hUU hVV
  subst hE2
  go_enter Try.func107, Try.ntmps107
  go_upto_region 0 with (fail)
  go_cut [9, 10] (fun s t wx => CuI W U U s t wx)
  case first =>
    have hU9 : U.length = 32 := HU32.out
    have hV9 : U.length = 32 := HV32.out
    have hzU : (Try.prog.info? 24).map (·.size) = some (idVals U).size := by rw [idVals_size, hU9]; exact sizeId
    have hzV : (Try.prog.info? 24).map (·.size) = some (idVals U).size := by rw [idVals_size, hV9]; exact sizeId
    have sU : (idVals U).size = 32 := by rw [idVals_size, hU9]
    have sV : (idVals U).size = 32 := by rw [idVals_size, hV9]
    have h1U := idVals_one U
    have h1V := idVals_one U
    have HM9 := hid (HM.out.below (below_drew1 W))
    have HDR := hid (below_drew1 W)
    refine wp_region_held_drew (S := fun V => Below W.drew.heap.size W.drew V) (by kernel_rfl) (Below.refl _ _) (fun hHeld => ?_)
    generalize W.drew = V0 at *
    have fa := HM9.out.a.cell_ (i := 0) rfl
    have fb := HM9.out.b.cell_ (i := 0) rfl
    refine' wpAnyH_take (i := 0) (v := .string (txt S)) rfl (by kernel_rfl) (by kernel_rfl) (by kernel_rfl) (fun _ _ _ h => h) (Or.inl ⟨by rfl, fun w' hw' => by have hv := cell_belM hw' fa; go_simp⟩) hHeld ?_
    try simp only [Act.put, List.getElem_toArray, List.getElem_cons_succ, List.getElem_cons_zero, List.setIfInBounds_toArray, List.set_cons_zero, List.set_cons_succ]
    refine' wpAnyH_take (i := 2) (v := .string (txt T)) rfl (by kernel_rfl) (by kernel_rfl) (by kernel_rfl) (fun _ _ _ h => h) (Or.inl ⟨by rfl, fun w' hw' => by have hv := cell_belM hw' fb; go_simp⟩) hHeld ?_
    try simp only [Act.put, List.getElem_toArray, List.getElem_cons_succ, List.getElem_cons_zero, List.setIfInBounds_toArray, List.set_cons_zero, List.set_cons_succ]
    refine wpAnyH_ready (rs := [1, 4, 5]) (by kernel_rfl) (by simp) ?_
    refine AllReadyH.cons rfl (fun K hK => ?_) (AllReadyH.cons rfl (fun K hK => ?_) (AllReadyH.cons rfl (fun K hK => ?_) AllReadyH.nil))
    · as_aux_lemma =>
        go_simp
        (with_reducible refine (HSa.out _).mono ?_)
        rintro e9 V9 ⟨rfl, hb9⟩
        refine hK.out _ _ (hHeld.trans (hb9.mono hHeld.size)) (fun hHeld => ?_)
        clear hK K hb9
        try simp only [Act.put, List.getElem_toArray, List.getElem_cons_succ, List.getElem_cons_zero, List.setIfInBounds_toArray, List.set_cons_zero, List.set_cons_succ]
        refine wpAnyH_ready (rs := [3, 4, 5]) (by kernel_rfl) (by simp) ?_
        refine AllReadyH.cons rfl (fun K hK => ?_) (AllReadyH.cons rfl (fun K hK => ?_) (AllReadyH.cons rfl (fun K hK => ?_) AllReadyH.nil))
        · as_aux_lemma =>
            go_simp
            (with_reducible refine (HSb.out _).mono ?_)
            rintro e9 V9 ⟨rfl, hb9⟩
            refine hK.out _ _ (hHeld.trans (hb9.mono hHeld.size)) (fun hHeld => ?_)
            clear hK K hb9
            try simp only [Act.put, List.getElem_toArray, List.getElem_cons_succ, List.getElem_cons_zero, List.setIfInBounds_toArray, List.set_cons_zero, List.set_cons_succ]
            refine wpAnyH_ready (rs := [4, 5]) (by kernel_rfl) (by simp) ?_
            refine AllReadyH.cons rfl (fun K hK => ?_) (AllReadyH.cons rfl (fun K hK => ?_) AllReadyH.nil)
            · as_aux_lemma =>
                refine wp_allocI rfl ?_
                intro gP csP VP hsP hnP hBP hb9
                have nP : V0.heap.size ≤ gP := by have := hnP.out; have := hHeld.size; omega
                refine hK.out _ _ (hHeld.trans (hb9.mono hHeld.size)) (fun hHeld => ?_)
                clear hK K hb9 hnP
                try simp only [Act.put, List.getElem_toArray, List.getElem_cons_succ, List.getElem_cons_zero, List.setIfInBounds_toArray, List.set_cons_zero, List.set_cons_succ]
                refine wpAnyH_ready (rs := [5]) (by kernel_rfl) (by simp) ?_
                refine AllReadyH.cons rfl (fun K hK => ?_) AllReadyH.nil
                refine wp_allocI rfl ?_
                intro gQ csQ VQ hsQ hnQ hBQ hb9
                have nQ : V0.heap.size ≤ gQ := by have := hnQ.out; have := hHeld.size; omega
                have ne : gP ≠ gQ := by have := hnQ.out; have := hBP.lt; omega
                replace hBP := hBP.below hb9
                refine hK.out _ _ (hHeld.trans (hb9.mono hHeld.size)) (fun hHeld => ?_)
                clear hK K hb9 hnQ
                try simp only [Act.put, List.getElem_toArray, List.getElem_cons_succ, List.getElem_cons_zero, List.setIfInBounds_toArray, List.set_cons_zero, List.set_cons_succ]
                refine wpAnyH_ready (rs := [6]) (by kernel_rfl) (by simp) ?_
                refine AllReadyH.cons rfl (fun K hK => ?_) AllReadyH.nil
                refine wp_store_blk 24 _ _ rfl gP _ (idVals U) 24 hBP rfl rfl hzU (by rw [hsP, sU]) h1U ?_
                clear hBP; intro VSP hBP hg9
                replace hBQ := blk_gM hBQ hg9 ne.symm
                refine hK.out _ _ (hHeld.grown hg9 hHeld.size (fun q hq => by have := Option.some.inj hq; omega)) (fun hHeld => ?_)
                clear hK K hg9
                try simp only [Act.put, List.getElem_toArray, List.getElem_cons_succ, List.getElem_cons_zero, List.setIfInBounds_toArray, List.set_cons_zero, List.set_cons_succ]
                refine wpAnyH_ready (rs := [7]) (by kernel_rfl) (by simp) ?_
                refine AllReadyH.cons rfl (fun K hK => ?_) AllReadyH.nil
                refine wp_store_blk 24 _ _ rfl gQ _ (idVals U) 24 hBQ rfl rfl hzV (by rw [hsQ, sV]) h1V ?_
                clear hBQ; intro VSQ hBQ hg9
                replace hBP := blk_gM hBP hg9 ne
                refine hK.out _ _ (hHeld.grown hg9 hHeld.size (fun q hq => by have := Option.some.inj hq; omega)) (fun hHeld => ?_)
                clear hK K hg9
                try simp only [Act.put, List.getElem_toArray, List.getElem_cons_succ, List.getElem_cons_zero, List.setIfInBounds_toArray, List.set_cons_zero, List.set_cons_succ]
                refine wpAnyH_done (by kernel_rfl) ?_ _
                go_wp2_with (fail)
                go_meet
                exact ⟨gP, gQ, rfl, rfl, hBP, hBQ, HDR.out.trans (hHeld.mono HDR.out.size)⟩
            · as_aux_lemma =>
                refine wp_allocI rfl ?_
                intro gQ csQ VQ hsQ hnQ hBQ hb9
                have nQ : V0.heap.size ≤ gQ := by have := hnQ.out; have := hHeld.size; omega
                refine hK.out _ _ (hHeld.trans (hb9.mono hHeld.size)) (fun hHeld => ?_)
                clear hK K hb9 hnQ
                try simp only [Act.put, List.getElem_toArray, List.getElem_cons_succ, List.getElem_cons_zero, List.setIfInBounds_toArray, List.set_cons_zero, List.set_cons_succ]
                refine wpAnyH_ready (rs := [4]) (by kernel_rfl) (by simp) ?_
                refine AllReadyH.cons rfl (fun K hK => ?_) AllReadyH.nil
                refine wp_allocI rfl ?_
                intro gP csP VP hsP hnP hBP hb9
                have nP : V0.heap.size ≤ gP := by have := hnP.out; have := hHeld.size; omega
                have ne : gP ≠ gQ := by have := hnP.out; have := hBQ.lt; omega
                replace hBQ := hBQ.below hb9
                refine hK.out _ _ (hHeld.trans (hb9.mono hHeld.size)) (fun hHeld => ?_)
                clear hK K hb9 hnP
                try simp only [Act.put, List.getElem_toArray, List.getElem_cons_succ, List.getElem_cons_zero, List.setIfInBounds_toArray, List.set_cons_zero, List.set_cons_succ]
                refine wpAnyH_ready (rs := [6]) (by kernel_rfl) (by simp) ?_
                refine AllReadyH.cons rfl (fun K hK => ?_) AllReadyH.nil
                refine wp_store_blk 24 _ _ rfl gP _ (idVals U) 24 hBP rfl rfl hzU (by rw [hsP, sU]) h1U ?_
                clear hBP; intro VSP hBP hg9
                replace hBQ := blk_gM hBQ hg9 ne.symm
                refine hK.out _ _ (hHeld.grown hg9 hHeld.size (fun q hq => by have := Option.some.inj hq; omega)) (fun hHeld => ?_)
                clear hK K hg9
                try simp only [Act.put, List.getElem_toArray, List.getElem_cons_succ, List.getElem_cons_zero, List.setIfInBounds_toArray, List.set_cons_zero, List.set_cons_succ]
                refine wpAnyH_ready (rs := [7]) (by kernel_rfl) (by simp) ?_
                refine AllReadyH.cons rfl (fun K hK => ?_) AllReadyH.nil
                refine wp_store_blk 24 _ _ rfl gQ _ (idVals U) 24 hBQ rfl rfl hzV (by rw [hsQ, sV]) h1V ?_
                clear hBQ; intro VSQ hBQ hg9
                replace hBP := blk_gM hBP hg9 ne
                refine hK.out _ _ (hHeld.grown hg9 hHeld.size (fun q hq => by have := Option.some.inj hq; omega)) (fun hHeld => ?_)
                clear hK K hg9
                try simp only [Act.put, List.getElem_toArray, List.getElem_cons_succ, List.getElem_cons_zero, List.setIfInBounds_toArray, List.set_cons_zero, List.set_cons_succ]
                refine wpAnyH_done (by kernel_rfl) ?_ _
                go_wp2_with (fail)
                go_meet
                exact ⟨gP, gQ, rfl, rfl, hBP, hBQ, HDR.out.trans (hHeld.mono HDR.out.size)⟩
        · as_aux_lemma =>
            refine wp_allocI rfl ?_
            intro gP csP VP hsP hnP hBP hb9
            have nP : V0.heap.size ≤ gP := by have := hnP.out; have := hHeld.size; omega
            refine hK.out _ _ (hHeld.trans (hb9.mono hHeld.size)) (fun hHeld => ?_)
            clear hK K hb9 hnP
            try simp only [Act.put, List.getElem_toArray, List.getElem_cons_succ, List.getElem_cons_zero, List.setIfInBounds_toArray, List.set_cons_zero, List.set_cons_succ]
            refine wpAnyH_ready (rs := [3, 5]) (by kernel_rfl) (by simp) ?_
            refine AllReadyH.cons rfl (fun K hK => ?_) (AllReadyH.cons rfl (fun K hK => ?_) AllReadyH.nil)
            · as_aux_lemma =>
                go_simp
                (with_reducible refine (HSb.out _).mono ?_)
                rintro e9 V9 ⟨rfl, hb9⟩
                replace hBP := hBP.below hb9
                refine hK.out _ _ (hHeld.trans (hb9.mono hHeld.size)) (fun hHeld => ?_)
                clear hK K hb9
                try simp only [Act.put, List.getElem_toArray, List.getElem_cons_succ, List.getElem_cons_zero, List.setIfInBounds_toArray, List.set_cons_zero, List.set_cons_succ]
                refine wpAnyH_ready (rs := [5]) (by kernel_rfl) (by simp) ?_
                refine AllReadyH.cons rfl (fun K hK => ?_) AllReadyH.nil
                refine wp_allocI rfl ?_
                intro gQ csQ VQ hsQ hnQ hBQ hb9
                have nQ : V0.heap.size ≤ gQ := by have := hnQ.out; have := hHeld.size; omega
                have ne : gP ≠ gQ := by have := hnQ.out; have := hBP.lt; omega
                replace hBP := hBP.below hb9
                refine hK.out _ _ (hHeld.trans (hb9.mono hHeld.size)) (fun hHeld => ?_)
                clear hK K hb9 hnQ
                try simp only [Act.put, List.getElem_toArray, List.getElem_cons_succ, List.getElem_cons_zero, List.setIfInBounds_toArray, List.set_cons_zero, List.set_cons_succ]
                refine wpAnyH_ready (rs := [6]) (by kernel_rfl) (by simp) ?_
                refine AllReadyH.cons rfl (fun K hK => ?_) AllReadyH.nil
                refine wp_store_blk 24 _ _ rfl gP _ (idVals U) 24 hBP rfl rfl hzU (by rw [hsP, sU]) h1U ?_
                clear hBP; intro VSP hBP hg9
                replace hBQ := blk_gM hBQ hg9 ne.symm
                refine hK.out _ _ (hHeld.grown hg9 hHeld.size (fun q hq => by have := Option.some.inj hq; omega)) (fun hHeld => ?_)
                clear hK K hg9
                try simp only [Act.put, List.getElem_toArray, List.getElem_cons_succ, List.getElem_cons_zero, List.setIfInBounds_toArray, List.set_cons_zero, List.set_cons_succ]
                refine wpAnyH_ready (rs := [7]) (by kernel_rfl) (by simp) ?_
                refine AllReadyH.cons rfl (fun K hK => ?_) AllReadyH.nil
                refine wp_store_blk 24 _ _ rfl gQ _ (idVals U) 24 hBQ rfl rfl hzV (by rw [hsQ, sV]) h1V ?_
                clear hBQ; intro VSQ hBQ hg9
                replace hBP := blk_gM hBP hg9 ne
                refine hK.out _ _ (hHeld.grown hg9 hHeld.size (fun q hq => by have := Option.some.inj hq; omega)) (fun hHeld => ?_)
                clear hK K hg9
                try simp only [Act.put, List.getElem_toArray, List.getElem_cons_succ, List.getElem_cons_zero, List.setIfInBounds_toArray, List.set_cons_zero, List.set_cons_succ]
                refine wpAnyH_done (by kernel_rfl) ?_ _
                go_wp2_with (fail)
                go_meet
                exact ⟨gP, gQ, rfl, rfl, hBP, hBQ, HDR.out.trans (hHeld.mono HDR.out.size)⟩
            · as_aux_lemma =>
                refine wp_allocI rfl ?_
                intro gQ csQ VQ hsQ hnQ hBQ hb9
                have nQ : V0.heap.size ≤ gQ := by have := hnQ.out; have := hHeld.size; omega
                have ne : gP ≠ gQ := by have := hnQ.out; have := hBP.lt; omega
                replace hBP := hBP.below hb9
                refine hK.out _ _ (hHeld.trans (hb9.mono hHeld.size)) (fun hHeld => ?_)
                clear hK K hb9 hnQ
                try simp only [Act.put, List.getElem_toArray, List.getElem_cons_succ, List.getElem_cons_zero, List.setIfInBounds_toArray, List.set_cons_zero, List.set_cons_succ]
                refine wpAnyH_ready (rs := [3]) (by kernel_rfl) (by simp) ?_
                refine AllReadyH.cons rfl (fun K hK => ?_) AllReadyH.nil
                go_simp
                (with_reducible refine (HSb.out _).mono ?_)
                rintro e9 V9 ⟨rfl, hb9⟩
                replace hBP := hBP.below hb9
                replace hBQ := hBQ.below hb9
                refine hK.out _ _ (hHeld.trans (hb9.mono hHeld.size)) (fun hHeld => ?_)
                clear hK K hb9
                try simp only [Act.put, List.getElem_toArray, List.getElem_cons_succ, List.getElem_cons_zero, List.setIfInBounds_toArray, List.set_cons_zero, List.set_cons_succ]
                refine wpAnyH_ready (rs := [6]) (by kernel_rfl) (by simp) ?_
                refine AllReadyH.cons rfl (fun K hK => ?_) AllReadyH.nil
                refine wp_store_blk 24 _ _ rfl gP _ (idVals U) 24 hBP rfl rfl hzU (by rw [hsP, sU]) h1U ?_
                clear hBP; intro VSP hBP hg9
                replace hBQ := blk_gM hBQ hg9 ne.symm
                refine hK.out _ _ (hHeld.grown hg9 hHeld.size (fun q hq => by have := Option.some.inj hq; omega)) (fun hHeld => ?_)
                clear hK K hg9
                try simp only [Act.put, List.getElem_toArray, List.getElem_cons_succ, List.getElem_cons_zero, List.setIfInBounds_toArray, List.set_cons_zero, List.set_cons_succ]
                refine wpAnyH_ready (rs := [7]) (by kernel_rfl) (by simp) ?_
                refine AllReadyH.cons rfl (fun K hK => ?_) AllReadyH.nil
                refine wp_store_blk 24 _ _ rfl gQ _ (idVals U) 24 hBQ rfl rfl hzV (by rw [hsQ, sV]) h1V ?_
                clear hBQ; intro VSQ hBQ hg9
                replace hBP := blk_gM hBP hg9 ne
                refine hK.out _ _ (hHeld.grown hg9 hHeld.size (fun q hq => by have := Option.some.inj hq; omega)) (fun hHeld => ?_)
                clear hK K hg9
                try simp only [Act.put, List.getElem_toArray, List.getElem_cons_succ, List.getElem_cons_zero, List.setIfInBounds_toArray, List.set_cons_zero, List.set_cons_succ]
                refine wpAnyH_done (by kernel_rfl) ?_ _
                go_wp2_with (fail)
                go_meet
                exact ⟨gP, gQ, rfl, rfl, hBP, hBQ, HDR.out.trans (hHeld.mono HDR.out.size)⟩
        · as_aux_lemma =>
            refine wp_allocI rfl ?_
            intro gQ csQ VQ hsQ hnQ hBQ hb9
            have nQ : V0.heap.size ≤ gQ := by have := hnQ.out; have := hHeld.size; omega
            refine hK.out _ _ (hHeld.trans (hb9.mono hHeld.size)) (fun hHeld => ?_)
            clear hK K hb9 hnQ
            try simp only [Act.put, List.getElem_toArray, List.getElem_cons_succ, List.getElem_cons_zero, List.setIfInBounds_toArray, List.set_cons_zero, List.set_cons_succ]
            refine wpAnyH_ready (rs := [3, 4]) (by kernel_rfl) (by simp) ?_
            refine AllReadyH.cons rfl (fun K hK => ?_) (AllReadyH.cons rfl (fun K hK => ?_) AllReadyH.nil)
            · as_aux_lemma =>
                go_simp
                (with_reducible refine (HSb.out _).mono ?_)
                rintro e9 V9 ⟨rfl, hb9⟩
                replace hBQ := hBQ.below hb9
                refine hK.out _ _ (hHeld.trans (hb9.mono hHeld.size)) (fun hHeld => ?_)
                clear hK K hb9
                try simp only [Act.put, List.getElem_toArray, List.getElem_cons_succ, List.getElem_cons_zero, List.setIfInBounds_toArray, List.set_cons_zero, List.set_cons_succ]
                refine wpAnyH_ready (rs := [4]) (by kernel_rfl) (by simp) ?_
                refine AllReadyH.cons rfl (fun K hK => ?_) AllReadyH.nil
                refine wp_allocI rfl ?_
                intro gP csP VP hsP hnP hBP hb9
                have nP : V0.heap.size ≤ gP := by have := hnP.out; have := hHeld.size; omega
                have ne : gP ≠ gQ := by have := hnP.out; have := hBQ.lt; omega
                replace hBQ := hBQ.below hb9
                refine hK.out _ _ (hHeld.trans (hb9.mono hHeld.size)) (fun hHeld => ?_)
                clear hK K hb9 hnP
                try simp only [Act.put, List.getElem_toArray, List.getElem_cons_succ, List.getElem_cons_zero, List.setIfInBounds_toArray, List.set_cons_zero, List.set_cons_succ]
                refine wpAnyH_ready (rs := [6]) (by kernel_rfl) (by simp) ?_
                refine AllReadyH.cons rfl (fun K hK => ?_) AllReadyH.nil
                refine wp_store_blk 24 _ _ rfl gP _ (idVals U) 24 hBP rfl rfl hzU (by rw [hsP, sU]) h1U ?_
                clear hBP; intro VSP hBP hg9
                replace hBQ := blk_gM hBQ hg9 ne.symm
                refine hK.out _ _ (hHeld.grown hg9 hHeld.size (fun q hq => by have := Option.some.inj hq; omega)) (fun hHeld => ?_)
                clear hK K hg9
                try simp only [Act.put, List.getElem_toArray, List.getElem_cons_succ, List.getElem_cons_zero, List.setIfInBounds_toArray, List.set_cons_zero, List.set_cons_succ]
                refine wpAnyH_ready (rs := [7]) (by kernel_rfl) (by simp) ?_
                refine AllReadyH.cons rfl (fun K hK => ?_) AllReadyH.nil
                refine wp_store_blk 24 _ _ rfl gQ _ (idVals U) 24 hBQ rfl rfl hzV (by rw [hsQ, sV]) h1V ?_
                clear hBQ; intro VSQ hBQ hg9
                replace hBP := blk_gM hBP hg9 ne
                refine hK.out _ _ (hHeld.grown hg9 hHeld.size (fun q hq => by have := Option.some.inj hq; omega)) (fun hHeld => ?_)
                clear hK K hg9
                try simp only [Act.put, List.getElem_toArray, List.getElem_cons_succ, List.getElem_cons_zero, List.setIfInBounds_toArray, List.set_cons_zero, List.set_cons_succ]
                refine wpAnyH_done (by kernel_rfl) ?_ _
                go_wp2_with (fail)
                go_meet
                exact ⟨gP, gQ, rfl, rfl, hBP, hBQ, HDR.out.trans (hHeld.mono HDR.out.size)⟩
            · as_aux_lemma =>
                refine wp_allocI rfl ?_
                intro gP csP VP hsP hnP hBP hb9
                have nP : V0.heap.size ≤ gP := by have := hnP.out; have := hHeld.size; omega
                have ne : gP ≠ gQ := by have := hnP.out; have := hBQ.lt; omega
                replace hBQ := hBQ.below hb9
                refine hK.out _ _ (hHeld.trans (hb9.mono hHeld.size)) (fun hHeld => ?_)
                clear hK K hb9 hnP
                try simp only [Act.put, List.getElem_toArray, List.getElem_cons_succ, List.getElem_cons_zero, List.setIfInBounds_toArray, List.set_cons_zero, List.set_cons_succ]
                refine wpAnyH_ready (rs := [3]) (by kernel_rfl) (by simp) ?_
                refine AllReadyH.cons rfl (fun K hK => ?_) AllReadyH.nil
                go_simp
                (with_reducible refine (HSb.out _).mono ?_)
                rintro e9 V9 ⟨rfl, hb9⟩
                replace hBQ := hBQ.below hb9
                replace hBP := hBP.below hb9
                refine hK.out _ _ (hHeld.trans (hb9.mono hHeld.size)) (fun hHeld => ?_)
                clear hK K hb9
                try simp only [Act.put, List.getElem_toArray, List.getElem_cons_succ, List.getElem_cons_zero, List.setIfInBounds_toArray, List.set_cons_zero, List.set_cons_succ]
                refine wpAnyH_ready (rs := [6]) (by kernel_rfl) (by simp) ?_
                refine AllReadyH.cons rfl (fun K hK => ?_) AllReadyH.nil
                refine wp_store_blk 24 _ _ rfl gP _ (idVals U) 24 hBP rfl rfl hzU (by rw [hsP, sU]) h1U ?_
                clear hBP; intro VSP hBP hg9
                replace hBQ := blk_gM hBQ hg9 ne.symm
                refine hK.out _ _ (hHeld.grown hg9 hHeld.size (fun q hq => by have := Option.some.inj hq; omega)) (fun hHeld => ?_)
                clear hK K hg9
                try simp only [Act.put, List.getElem_toArray, List.getElem_cons_succ, List.getElem_cons_zero, List.setIfInBounds_toArray, List.set_cons_zero, List.set_cons_succ]
                refine wpAnyH_ready (rs := [7]) (by kernel_rfl) (by simp) ?_
                refine AllReadyH.cons rfl (fun K hK => ?_) AllReadyH.nil
                refine wp_store_blk 24 _ _ rfl gQ _ (idVals U) 24 hBQ rfl rfl hzV (by rw [hsQ, sV]) h1V ?_
                clear hBQ; intro VSQ hBQ hg9
                replace hBP := blk_gM hBP hg9 ne
                refine hK.out _ _ (hHeld.grown hg9 hHeld.size (fun q hq => by have := Option.some.inj hq; omega)) (fun hHeld => ?_)
                clear hK K hg9
                try simp only [Act.put, List.getElem_toArray, List.getElem_cons_succ, List.getElem_cons_zero, List.setIfInBounds_toArray, List.set_cons_zero, List.set_cons_succ]
                refine wpAnyH_done (by kernel_rfl) ?_ _
                go_wp2_with (fail)
                go_meet
                exact ⟨gP, gQ, rfl, rfl, hBP, hBQ, HDR.out.trans (hHeld.mono HDR.out.size)⟩
    · as_aux_lemma =>
        refine wp_allocI rfl ?_
        intro gP csP VP hsP hnP hBP hb9
        have nP : V0.heap.size ≤ gP := by have := hnP.out; have := hHeld.size; omega
        refine hK.out _ _ (hHeld.trans (hb9.mono hHeld.size)) (fun hHeld => ?_)
        clear hK K hb9 hnP
        try simp only [Act.put, List.getElem_toArray, List.getElem_cons_succ, List.getElem_cons_zero, List.setIfInBounds_toArray, List.set_cons_zero, List.set_cons_succ]
        refine wpAnyH_ready (rs := [1, 5]) (by kernel_rfl) (by simp) ?_
        refine AllReadyH.cons rfl (fun K hK => ?_) (AllReadyH.cons rfl (fun K hK => ?_) AllReadyH.nil)
        · as_aux_lemma =>
            go_simp
            (with_reducible refine (HSa.out _).mono ?_)
            rintro e9 V9 ⟨rfl, hb9⟩
            replace hBP := hBP.below hb9
            refine hK.out _ _ (hHeld.trans (hb9.mono hHeld.size)) (fun hHeld => ?_)
            clear hK K hb9
            try simp only [Act.put, List.getElem_toArray, List.getElem_cons_succ, List.getElem_cons_zero, List.setIfInBounds_toArray, List.set_cons_zero, List.set_cons_succ]
            refine wpAnyH_ready (rs := [3, 5]) (by kernel_rfl) (by simp) ?_
            refine AllReadyH.cons rfl (fun K hK => ?_) (AllReadyH.cons rfl (fun K hK => ?_) AllReadyH.nil)
            · as_aux_lemma =>
                go_simp
                (with_reducible refine (HSb.out _).mono ?_)
                rintro e9 V9 ⟨rfl, hb9⟩
                replace hBP := hBP.below hb9
                refine hK.out _ _ (hHeld.trans (hb9.mono hHeld.size)) (fun hHeld => ?_)
                clear hK K hb9
                try simp only [Act.put, List.getElem_toArray, List.getElem_cons_succ, List.getElem_cons_zero, List.setIfInBounds_toArray, List.set_cons_zero, List.set_cons_succ]
                refine wpAnyH_ready (rs := [5]) (by kernel_rfl) (by simp) ?_
                refine AllReadyH.cons rfl (fun K hK => ?_) AllReadyH.nil
                refine wp_allocI rfl ?_
                intro gQ csQ VQ hsQ hnQ hBQ hb9
                have nQ : V0.heap.size ≤ gQ := by have := hnQ.out; have := hHeld.size; omega
                have ne : gP ≠ gQ := by have := hnQ.out; have := hBP.lt; omega
                replace hBP := hBP.below hb9
                refine hK.out _ _ (hHeld.trans (hb9.mono hHeld.size)) (fun hHeld => ?_)
                clear hK K hb9 hnQ
                try simp only [Act.put, List.getElem_toArray, List.getElem_cons_succ, List.getElem_cons_zero, List.setIfInBounds_toArray, List.set_cons_zero, List.set_cons_succ]
                refine wpAnyH_ready (rs := [6]) (by kernel_rfl) (by simp) ?_
                refine AllReadyH.cons rfl (fun K hK => ?_) AllReadyH.nil
                refine wp_store_blk 24 _ _ rfl gP _ (idVals U) 24 hBP rfl rfl hzU (by rw [hsP, sU]) h1U ?_
                clear hBP; intro VSP hBP hg9
                replace hBQ := blk_gM hBQ hg9 ne.symm
                refine hK.out _ _ (hHeld.grown hg9 hHeld.size (fun q hq => by have := Option.some.inj hq; omega)) (fun hHeld => ?_)
                clear hK K hg9
                try simp only [Act.put, List.getElem_toArray, List.getElem_cons_succ, List.getElem_cons_zero, List.setIfInBounds_toArray, List.set_cons_zero, List.set_cons_succ]
                refine wpAnyH_ready (rs := [7]) (by kernel_rfl) (by simp) ?_
                refine AllReadyH.cons rfl (fun K hK => ?_) AllReadyH.nil
                refine wp_store_blk 24 _ _ rfl gQ _ (idVals U) 24 hBQ rfl rfl hzV (by rw [hsQ, sV]) h1V ?_
                clear hBQ; intro VSQ hBQ hg9
                replace hBP := blk_gM hBP hg9 ne
                refine hK.out _ _ (hHeld.grown hg9 hHeld.size (fun q hq => by have := Option.some.inj hq; omega)) (fun hHeld => ?_)
                clear hK K hg9
                try simp only [Act.put, List.getElem_toArray, List.getElem_cons_succ, List.getElem_cons_zero, List.setIfInBounds_toArray, List.set_cons_zero, List.set_cons_succ]
                refine wpAnyH_done (by kernel_rfl) ?_ _
                go_wp2_with (fail)
                go_meet
                exact ⟨gP, gQ, rfl, rfl, hBP, hBQ, HDR.out.trans (hHeld.mono HDR.out.size)⟩
            · as_aux_lemma =>
                refine wp_allocI rfl ?_
                intro gQ csQ VQ hsQ hnQ hBQ hb9
                have nQ : V0.heap.size ≤ gQ := by have := hnQ.out; have := hHeld.size; omega
                have ne : gP ≠ gQ := by have := hnQ.out; have := hBP.lt; omega
                replace hBP := hBP.below hb9
                refine hK.out _ _ (hHeld.trans (hb9.mono hHeld.size)) (fun hHeld => ?_)
                clear hK K hb9 hnQ
                try simp only [Act.put, List.getElem_toArray, List.getElem_cons_succ, List.getElem_cons_zero, List.setIfInBounds_toArray, List.set_cons_zero, List.set_cons_succ]
                refine wpAnyH_ready (rs := [3]) (by kernel_rfl) (by simp) ?_
                refine AllReadyH.cons rfl (fun K hK => ?_) AllReadyH.nil
                go_simp
                (with_reducible refine (HSb.out _).mono ?_)
                rintro e9 V9 ⟨rfl, hb9⟩
                replace hBP := hBP.below hb9
                replace hBQ := hBQ.below hb9
                refine hK.out _ _ (hHeld.trans (hb9.mono hHeld.size)) (fun hHeld => ?_)
                clear hK K hb9
                try simp only [Act.put, List.getElem_toArray, List.getElem_cons_succ, List.getElem_cons_zero, List.setIfInBounds_toArray, List.set_cons_zero, List.set_cons_succ]
                refine wpAnyH_ready (rs := [6]) (by kernel_rfl) (by simp) ?_
                refine AllReadyH.cons rfl (fun K hK => ?_) AllReadyH.nil
                refine wp_store_blk 24 _ _ rfl gP _ (idVals U) 24 hBP rfl rfl hzU (by rw [hsP, sU]) h1U ?_
                clear hBP; intro VSP hBP hg9
                replace hBQ := blk_gM hBQ hg9 ne.symm
                refine hK.out _ _ (hHeld.grown hg9 hHeld.size (fun q hq => by have := Option.some.inj hq; omega)) (fun hHeld => ?_)
                clear hK K hg9
                try simp only [Act.put, List.getElem_toArray, List.getElem_cons_succ, List.getElem_cons_zero, List.setIfInBounds_toArray, List.set_cons_zero, List.set_cons_succ]
                refine wpAnyH_ready (rs := [7]) (by kernel_rfl) (by simp) ?_
                refine AllReadyH.cons rfl (fun K hK => ?_) AllReadyH.nil
                refine wp_store_blk 24 _ _ rfl gQ _ (idVals U) 24 hBQ rfl rfl hzV (by rw [hsQ, sV]) h1V ?_
                clear hBQ; intro VSQ hBQ hg9
                replace hBP := blk_gM hBP hg9 ne
                refine hK.out _ _ (hHeld.grown hg9 hHeld.size (fun q hq => by have := Option.some.inj hq; omega)) (fun hHeld => ?_)
                clear hK K hg9
                try simp only [Act.put, List.getElem_toArray, List.getElem_cons_succ, List.getElem_cons_zero, List.setIfInBounds_toArray, List.set_cons_zero, List.set_cons_succ]
                refine wpAnyH_done (by kernel_rfl) ?_ _
                go_wp2_with (fail)
                go_meet
                exact ⟨gP, gQ, rfl, rfl, hBP, hBQ, HDR.out.trans (hHeld.mono HDR.out.size)⟩
        · as_aux_lemma =>
            refine wp_allocI rfl ?_
            intro gQ csQ VQ hsQ hnQ hBQ hb9
            have nQ : V0.heap.size ≤ gQ := by have := hnQ.out; have := hHeld.size; omega
            have ne : gP ≠ gQ := by have := hnQ.out; have := hBP.lt; omega
            replace hBP := hBP.below hb9
            refine hK.out _ _ (hHeld.trans (hb9.mono hHeld.size)) (fun hHeld => ?_)
            clear hK K hb9 hnQ
            try simp only [Act.put, List.getElem_toArray, List.getElem_cons_succ, List.getElem_cons_zero, List.setIfInBounds_toArray, List.set_cons_zero, List.set_cons_succ]
            refine wpAnyH_ready (rs := [1]) (by kernel_rfl) (by simp) ?_
            refine AllReadyH.cons rfl (fun K hK => ?_) AllReadyH.nil
            go_simp
            (with_reducible refine (HSa.out _).mono ?_)
            rintro e9 V9 ⟨rfl, hb9⟩
            replace hBP := hBP.below hb9
            replace hBQ := hBQ.below hb9
            refine hK.out _ _ (hHeld.trans (hb9.mono hHeld.size)) (fun hHeld => ?_)
            clear hK K hb9
            try simp only [Act.put, List.getElem_toArray, List.getElem_cons_succ, List.getElem_cons_zero, List.setIfInBounds_toArray, List.set_cons_zero, List.set_cons_succ]
            refine wpAnyH_ready (rs := [3]) (by kernel_rfl) (by simp) ?_
            refine AllReadyH.cons rfl (fun K hK => ?_) AllReadyH.nil
            go_simp
            (with_reducible refine (HSb.out _).mono ?_)
            rintro e9 V9 ⟨rfl, hb9⟩
            replace hBP := hBP.below hb9
            replace hBQ := hBQ.below hb9
            refine hK.out _ _ (hHeld.trans (hb9.mono hHeld.size)) (fun hHeld => ?_)
            clear hK K hb9
            try simp only [Act.put, List.getElem_toArray, List.getElem_cons_succ, List.getElem_cons_zero, List.setIfInBounds_toArray, List.set_cons_zero, List.set_cons_succ]
            refine wpAnyH_ready (rs := [6]) (by kernel_rfl) (by simp) ?_
            refine AllReadyH.cons rfl (fun K hK => ?_) AllReadyH.nil
            refine wp_store_blk 24 _ _ rfl gP _ (idVals U) 24 hBP rfl rfl hzU (by rw [hsP, sU]) h1U ?_
            clear hBP; intro VSP hBP hg9
            replace hBQ := blk_gM hBQ hg9 ne.symm
            refine hK.out _ _ (hHeld.grown hg9 hHeld.size (fun q hq => by have := Option.some.inj hq; omega)) (fun hHeld => ?_)
            clear hK K hg9
            try simp only [Act.put, List.getElem_toArray, List.getElem_cons_succ, List.getElem_cons_zero, List.setIfInBounds_toArray, List.set_cons_zero, List.set_cons_succ]
            refine wpAnyH_ready (rs := [7]) (by kernel_rfl) (by simp) ?_
            refine AllReadyH.cons rfl (fun K hK => ?_) AllReadyH.nil
            refine wp_store_blk 24 _ _ rfl gQ _ (idVals U) 24 hBQ rfl rfl hzV (by rw [hsQ, sV]) h1V ?_
            clear hBQ; intro VSQ hBQ hg9
            replace hBP := blk_gM hBP hg9 ne
            refine hK.out _ _ (hHeld.grown hg9 hHeld.size (fun q hq => by have := Option.some.inj hq; omega)) (fun hHeld => ?_)
            clear hK K hg9
            try simp only [Act.put, List.getElem_toArray, List.getElem_cons_succ, List.getElem_cons_zero, List.setIfInBounds_toArray, List.set_cons_zero, List.set_cons_succ]
            refine wpAnyH_done (by kernel_rfl) ?_ _
            go_wp2_with (fail)
            go_meet
            exact ⟨gP, gQ, rfl, rfl, hBP, hBQ, HDR.out.trans (hHeld.mono HDR.out.size)⟩
    · as_aux_lemma =>
        refine wp_allocI rfl ?_
        intro gQ csQ VQ hsQ hnQ hBQ hb9
        have nQ : V0.heap.size ≤ gQ := by have := hnQ.out; have := hHeld.size; omega
        refine hK.out _ _ (hHeld.trans (hb9.mono hHeld.size)) (fun hHeld => ?_)
        clear hK K hb9 hnQ
        try simp only [Act.put, List.getElem_toArray, List.getElem_cons_succ, List.getElem_cons_zero, List.setIfInBounds_toArray, List.set_cons_zero, List.set_cons_succ]
        refine wpAnyH_ready (rs := [1, 4]) (by kernel_rfl) (by simp) ?_
        refine AllReadyH.cons rfl (fun K hK => ?_) (AllReadyH.cons rfl (fun K hK => ?_) AllReadyH.nil)
        · as_aux_lemma =>
            go_simp
            (with_reducible refine (HSa.out _).mono ?_)
            rintro e9 V9 ⟨rfl, hb9⟩
            replace hBQ := hBQ.below hb9
            refine hK.out _ _ (hHeld.trans (hb9.mono hHeld.size)) (fun hHeld => ?_)
            clear hK K hb9
            try simp only [Act.put, List.getElem_toArray, List.getElem_cons_succ, List.getElem_cons_zero, List.setIfInBounds_toArray, List.set_cons_zero, List.set_cons_succ]
            refine wpAnyH_ready (rs := [3, 4]) (by kernel_rfl) (by simp) ?_
            refine AllReadyH.cons rfl (fun K hK => ?_) (AllReadyH.cons rfl (fun K hK => ?_) AllReadyH.nil)
            · as_aux_lemma =>
                go_simp
                (with_reducible refine (HSb.out _).mono ?_)
                rintro e9 V9 ⟨rfl, hb9⟩
                replace hBQ := hBQ.below hb9
                refine hK.out _ _ (hHeld.trans (hb9.mono hHeld.size)) (fun hHeld => ?_)
                clear hK K hb9
                try simp only [Act.put, List.getElem_toArray, List.getElem_cons_succ, List.getElem_cons_zero, List.setIfInBounds_toArray, List.set_cons_zero, List.set_cons_succ]
                refine wpAnyH_ready (rs := [4]) (by kernel_rfl) (by simp) ?_
                refine AllReadyH.cons rfl (fun K hK => ?_) AllReadyH.nil
                refine wp_allocI rfl ?_
                intro gP csP VP hsP hnP hBP hb9
                have nP : V0.heap.size ≤ gP := by have := hnP.out; have := hHeld.size; omega
                have ne : gP ≠ gQ := by have := hnP.out; have := hBQ.lt; omega
                replace hBQ := hBQ.below hb9
                refine hK.out _ _ (hHeld.trans (hb9.mono hHeld.size)) (fun hHeld => ?_)
                clear hK K hb9 hnP
                try simp only [Act.put, List.getElem_toArray, List.getElem_cons_succ, List.getElem_cons_zero, List.setIfInBounds_toArray, List.set_cons_zero, List.set_cons_succ]
                refine wpAnyH_ready (rs := [6]) (by kernel_rfl) (by simp) ?_
                refine AllReadyH.cons rfl (fun K hK => ?_) AllReadyH.nil
                refine wp_store_blk 24 _ _ rfl gP _ (idVals U) 24 hBP rfl rfl hzU (by rw [hsP, sU]) h1U ?_
                clear hBP; intro VSP hBP hg9
                replace hBQ := blk_gM hBQ hg9 ne.symm
                refine hK.out _ _ (hHeld.grown hg9 hHeld.size (fun q hq => by have := Option.some.inj hq; omega)) (fun hHeld => ?_)
                clear hK K hg9
                try simp only [Act.put, List.getElem_toArray, List.getElem_cons_succ, List.getElem_cons_zero, List.setIfInBounds_toArray, List.set_cons_zero, List.set_cons_succ]
                refine wpAnyH_ready (rs := [7]) (by kernel_rfl) (by simp) ?_
                refine AllReadyH.cons rfl (fun K hK => ?_) AllReadyH.nil
                refine wp_store_blk 24 _ _ rfl gQ _ (idVals U) 24 hBQ rfl rfl hzV (by rw [hsQ, sV]) h1V ?_
                clear hBQ; intro VSQ hBQ hg9
                replace hBP := blk_gM hBP hg9 ne
                refine hK.out _ _ (hHeld.grown hg9 hHeld.size (fun q hq => by have := Option.some.inj hq; omega)) (fun hHeld => ?_)
                clear hK K hg9
                try simp only [Act.put, List.getElem_toArray, List.getElem_cons_succ, List.getElem_cons_zero, List.setIfInBounds_toArray, List.set_cons_zero, List.set_cons_succ]
                refine wpAnyH_done (by kernel_rfl) ?_ _
                go_wp2_with (fail)
                go_meet
                exact ⟨gP, gQ, rfl, rfl, hBP, hBQ, HDR.out.trans (hHeld.mono HDR.out.size)⟩
            · as_aux_lemma =>
                refine wp_allocI rfl ?_
                intro gP csP VP hsP hnP hBP hb9
                have nP : V0.heap.size ≤ gP := by have := hnP.out; have := hHeld.size; omega
                have ne : gP ≠ gQ := by have := hnP.out; have := hBQ.lt; omega
                replace hBQ := hBQ.below hb9
                refine hK.out _ _ (hHeld.trans (hb9.mono hHeld.size)) (fun hHeld => ?_)
                clear hK K hb9 hnP
                try simp only [Act.put, List.getElem_toArray, List.getElem_cons_succ, List.getElem_cons_zero, List.setIfInBounds_toArray, List.set_cons_zero, List.set_cons_succ]
                refine wpAnyH_ready (rs := [3]) (by kernel_rfl) (by simp) ?_
                refine AllReadyH.cons rfl (fun K hK => ?_) AllReadyH.nil
                go_simp
                (with_reducible refine (HSb.out _).mono ?_)
                rintro e9 V9 ⟨rfl, hb9⟩
                replace hBQ := hBQ.below hb9
                replace hBP := hBP.below hb9
                refine hK.out _ _ (hHeld.trans (hb9.mono hHeld.size)) (fun hHeld => ?_)
                clear hK K hb9
                try simp only [Act.put, List.getElem_toArray, List.getElem_cons_succ, List.getElem_cons_zero, List.setIfInBounds_toArray, List.set_cons_zero, List.set_cons_succ]
                refine wpAnyH_ready (rs := [6]) (by kernel_rfl) (by simp) ?_
                refine AllReadyH.cons rfl (fun K hK => ?_) AllReadyH.nil
                refine wp_store_blk 24 _ _ rfl gP _ (idVals U) 24 hBP rfl rfl hzU (by rw [hsP, sU]) h1U ?_
                clear hBP; intro VSP hBP hg9
                replace hBQ := blk_gM hBQ hg9 ne.symm
                refine hK.out _ _ (hHeld.grown hg9 hHeld.size (fun q hq => by have := Option.some.inj hq; omega)) (fun hHeld => ?_)
                clear hK K hg9
                try simp only [Act.put, List.getElem_toArray, List.getElem_cons_succ, List.getElem_cons_zero, List.setIfInBounds_toArray, List.set_cons_zero, List.set_cons_succ]
                refine wpAnyH_ready (rs := [7]) (by kernel_rfl) (by simp) ?_
                refine AllReadyH.cons rfl (fun K hK => ?_) AllReadyH.nil
                refine wp_store_blk 24 _ _ rfl gQ _ (idVals U) 24 hBQ rfl rfl hzV (by rw [hsQ, sV]) h1V ?_
                clear hBQ; intro VSQ hBQ hg9
                replace hBP := blk_gM hBP hg9 ne
                refine hK.out _ _ (hHeld.grown hg9 hHeld.size (fun q hq => by have := Option.some.inj hq; omega)) (fun hHeld => ?_)
                clear hK K hg9
                try simp only [Act.put, List.getElem_toArray, List.getElem_cons_succ, List.getElem_cons_zero, List.setIfInBounds_toArray, List.set_cons_zero, List.set_cons_succ]
                refine wpAnyH_done (by kernel_rfl) ?_ _
                go_wp2_with (fail)
                go_meet
                exact ⟨gP, gQ, rfl, rfl, hBP, hBQ, HDR.out.trans (hHeld.mono HDR.out.size)⟩
        · as_aux_lemma =>
            refine wp_allocI rfl ?_
            intro gP csP VP hsP hnP hBP hb9
            have nP : V0.heap.size ≤ gP := by have := hnP.out; have := hHeld.size; omega
            have ne : gP ≠ gQ := by have := hnP.out; have := hBQ.lt; omega
            replace hBQ := hBQ.below hb9
            refine hK.out _ _ (hHeld.trans (hb9.mono hHeld.size)) (fun hHeld => ?_)
            clear hK K hb9 hnP
            try simp only [Act.put, List.getElem_toArray, List.getElem_cons_succ, List.getElem_cons_zero, List.setIfInBounds_toArray, List.set_cons_zero, List.set_cons_succ]
            refine wpAnyH_ready (rs := [1]) (by kernel_rfl) (by simp) ?_
            refine AllReadyH.cons rfl (fun K hK => ?_) AllReadyH.nil
            go_simp
            (with_reducible refine (HSa.out _).mono ?_)
            rintro e9 V9 ⟨rfl, hb9⟩
            replace hBQ := hBQ.below hb9
            replace hBP := hBP.below hb9
            refine hK.out _ _ (hHeld.trans (hb9.mono hHeld.size)) (fun hHeld => ?_)
            clear hK K hb9
            try simp only [Act.put, List.getElem_toArray, List.getElem_cons_succ, List.getElem_cons_zero, List.setIfInBounds_toArray, List.set_cons_zero, List.set_cons_succ]
            refine wpAnyH_ready (rs := [3]) (by kernel_rfl) (by simp) ?_
            refine AllReadyH.cons rfl (fun K hK => ?_) AllReadyH.nil
            go_simp
            (with_reducible refine (HSb.out _).mono ?_)
            rintro e9 V9 ⟨rfl, hb9⟩
            replace hBQ := hBQ.below hb9
            replace hBP := hBP.below hb9
            refine hK.out _ _ (hHeld.trans (hb9.mono hHeld.size)) (fun hHeld => ?_)
            clear hK K hb9
            try simp only [Act.put, List.getElem_toArray, List.getElem_cons_succ, List.getElem_cons_zero, List.setIfInBounds_toArray, List.set_cons_zero, List.set_cons_succ]
            refine wpAnyH_ready (rs := [6]) (by kernel_rfl) (by simp) ?_
            refine AllReadyH.cons rfl (fun K hK => ?_) AllReadyH.nil
            refine wp_store_blk 24 _ _ rfl gP _ (idVals U) 24 hBP rfl rfl hzU (by rw [hsP, sU]) h1U ?_
            clear hBP; intro VSP hBP hg9
            replace hBQ := blk_gM hBQ hg9 ne.symm
            refine hK.out _ _ (hHeld.grown hg9 hHeld.size (fun q hq => by have := Option.some.inj hq; omega)) (fun hHeld => ?_)
            clear hK K hg9
            try simp only [Act.put, List.getElem_toArray, List.getElem_cons_succ, List.getElem_cons_zero, List.setIfInBounds_toArray, List.set_cons_zero, List.set_cons_succ]
            refine wpAnyH_ready (rs := [7]) (by kernel_rfl) (by simp) ?_
            refine AllReadyH.cons rfl (fun K hK => ?_) AllReadyH.nil
            refine wp_store_blk 24 _ _ rfl gQ _ (idVals U) 24 hBQ rfl rfl hzV (by rw [hsQ, sV]) h1V ?_
            clear hBQ; intro VSQ hBQ hg9
            replace hBP := blk_gM hBP hg9 ne
            refine hK.out _ _ (hHeld.grown hg9 hHeld.size (fun q hq => by have := Option.some.inj hq; omega)) (fun hHeld => ?_)
            clear hK K hg9
            try simp only [Act.put, List.getElem_toArray, List.getElem_cons_succ, List.getElem_cons_zero, List.setIfInBounds_toArray, List.set_cons_zero, List.set_cons_succ]
            refine wpAnyH_done (by kernel_rfl) ?_ _
            go_wp2_with (fail)
            go_meet
            exact ⟨gP, gQ, rfl, rfl, hBP, hBQ, HDR.out.trans (hHeld.mono HDR.out.size)⟩
  case rest =>
    obtain ⟨g9, g10, rfl, rfl, h9, h10, hb⟩ := hcut
    have hzU : (Try.prog.info? 24).map (·.size) = some (U.map u8v).length := by rw [List.length_map, HU32.out]; exact sizeId
    have r9 := range_blk h9
    have r10 := range_blk h10
    have heU : ∀ W, (Op.equalIn 10000 24 (.agg (List.map u8v U).toArray) (.agg (List.map u8v U).toArray)).run Try.prog W = .ok true W := fun W => (ids_eq W U U HU32.out HU32.out).trans (by rw [decide_eq_true rfl])
    go_wp2_with (first
      | (with_reducible refine wpList_load_if (by with_unfolding_all rfl) 24 _ rfl _ _ rfl (U.map u8v) _ r9 hu rfl hzU ?_)
      | (with_reducible refine wpList_load_if (by with_unfolding_all rfl) 24 _ rfl _ _ rfl (U.map u8v) _ r10 hu rfl hzU ?_))
    refine bodyPost_ret (results_none rfl _ _ _) rfl ?_
    exact ⟨rfl, HM.out.below hb⟩
set_option maxRecDepth 100000 in
set_option maxHeartbeats 16000000 in
theorem meet1_low (w0 : World) (ga gb gl gm gt : Nat) (A : Option Addr) (n c : Nat) (B : Option Addr) (m d : Nat) (k : Nat) (S T : List UInt8) (hS : S.length ≤ 1000) (hT : T.length ≤ 1000) (x z : Nat) (hxz : x < z) (hzn : z ≤ n) (hzm : z ≤ m) (hlow : ¬ x < k) (l r : List (List UInt8)) (hl : RowC w0 A n c l) (hr : RowC w0 B m d r) (hE : sumB S ≠ sumB T) (W : World) (HS : MeS w0 ga gb gl gm gt A n c B m d (k : Int) S T W) :
    Calls Try.prog 107 (#[.int .i64 (x : Int), .int .i64 (z : Int)] ++ #[.pointer (some ⟨ga, 0, none⟩), .pointer (some ⟨gb, 0, none⟩), .pointer (some ⟨gl, 0, none⟩), .pointer (some ⟨gm, 0, none⟩), .pointer (some ⟨gt, 0, none⟩)]) W fun e w' => e = .returned (.tuple #[]) ∧ MeS w0 ga gb gl gm gt A n c B m d (k : Int) (textB joinN [sumB S, partR l (x, z)]) (textB joinN [sumB T, partR r (x, z)]) w' := by
  have hu := Try.underlying24
  have hU0 : (sumB S).length = 32 := sumB_length S
  have hV0 : (sumB T).length = 32 := sumB_length T
  have HSa : Hid (∀ W, Calls Try.prog 65 #[.string (txt S)] W fun e w' => e = .returned (.agg (idVals (sumB S))) ∧ Below W.heap.size W w') := hid (fun W => sum_any S (by omega) W)
  have HSb : Hid (∀ W, Calls Try.prog 65 #[.string (txt T)] W fun e w' => e = .returned (.agg (idVals (sumB T))) ∧ Below W.heap.size W w') := hid (fun W => sum_any T (by omega) W)
  obtain ⟨A1, c1, e1, r1⟩ := hl.cut hxz hzn
  obtain ⟨B1, d1, e2, r2⟩ := hr.cut hxz hzm
  have HRa : Hid (∀ W', Below w0.heap.size w0 W' → Calls Try.prog 50 #[.slice A1 (z - x) c1] W' fun e w' => e = .returned (.agg (idVals (partR l (x, z)))) ∧ Below W'.heap.size W' w') := hid (fun W' hb => mroot_any _ _ (Nat.le_refl _) A1 (z - x) c1 W' (r1.below hb))
  have HRb : Hid (∀ W', Below w0.heap.size w0 W' → Calls Try.prog 50 #[.slice B1 (z - x) d1] W' fun e w' => e = .returned (.agg (idVals (partR r (x, z)))) ∧ Below W'.heap.size W' w') := hid (fun W' hb => mroot_any _ _ (Nat.le_refl _) B1 (z - x) d1 W' (r2.below hb))
  have hP32 : (partR l (x, z)).length = 32 := rootM_length _
  have hQ32 : (partR r (x, z)).length = 32 := rootM_length _
  generalize partR l (x, z) = P at *
  generalize partR r (x, z) = Q at *
  generalize z - x = y at *
  have HE1 := hid e1
  have HE2 := hid e2
  clear e1 e2 r1 r2 hl hr hxz hzn hzm
  have HM := hid HS
  clear HS
  have HU32 := hid hU0
  have HV32 := hid hV0
  obtain ⟨U, hUU⟩ : ∃ U, sumB S = U := ⟨_, rfl⟩
  obtain ⟨V, hVV⟩ : ∃ V, sumB T = V := ⟨_, rfl⟩
  rw [hUU] at HU32 HSa
  rw [hVV] at HV32 HSb
  have hE2 : U ≠ V := by rw [← hUU, ← hVV]; exact hE
  rw [hUU, hVV]
  clear hE hU0 hV0 hUU hVV
  have heU : ∀ W, (Op.equalIn 10000 24 (.agg (List.map u8v U).toArray) (.agg (List.map u8v V).toArray)).run Try.prog W = .ok false W := fun W => (ids_eq W U V HU32.out HV32.out).trans (by rw [decide_eq_false hE2])
  have HEU := hid heU
  have HLOW := hid hlow
  clear hE2 heU hlow
  have HJa : Hid (∀ W, Calls Try.prog 98 #[.agg (List.map u8v U).toArray, .agg (List.map u8v P).toArray] W fun e w' => e = .returned (.string (txt (textB joinN [U, P]))) ∧ Below W.heap.size W w') := hid (fun W => mjoin_any U P HU32.out hP32 W)
  have HJb : Hid (∀ W, Calls Try.prog 98 #[.agg (List.map u8v V).toArray, .agg (List.map u8v Q).toArray] W fun e w' => e = .returned (.string (txt (textB joinN [V, Q]))) ∧ Below W.heap.size W w') := hid (fun W => mjoin_any V Q HV32.out hQ32 W)
  generalize textB joinN [U, P] = S2 at *
  generalize textB joinN [V, Q] = T2 at *
  have HP32 := hid hP32
  have HQ32 := hid hQ32
  clear hP32 hQ32
  go_enter Try.func107, Try.ntmps107
  go_upto_region 0 with (fail)
  go_cut [9, 10] (fun s t wx => CuI W U V s t wx)
  case first =>
    have hU9 : U.length = 32 := HU32.out
    have hV9 : V.length = 32 := HV32.out
    have hzU : (Try.prog.info? 24).map (·.size) = some (idVals U).size := by rw [idVals_size, hU9]; exact sizeId
    have hzV : (Try.prog.info? 24).map (·.size) = some (idVals V).size := by rw [idVals_size, hV9]; exact sizeId
    have sU : (idVals U).size = 32 := by rw [idVals_size, hU9]
    have sV : (idVals V).size = 32 := by rw [idVals_size, hV9]
    have h1U := idVals_one U
    have h1V := idVals_one V
    have HM9 := hid (HM.out.below (below_drew1 W))
    have HDR := hid (below_drew1 W)
    refine wp_region_held_drew (S := fun V => Below W.drew.heap.size W.drew V) (by kernel_rfl) (Below.refl _ _) (fun hHeld => ?_)
    generalize W.drew = V0 at *
    have fa := HM9.out.a.cell_ (i := 0) rfl
    have fb := HM9.out.b.cell_ (i := 0) rfl
    refine' wpAnyH_take (i := 0) (v := .string (txt S)) rfl (by kernel_rfl) (by kernel_rfl) (by kernel_rfl) (fun _ _ _ h => h) (Or.inl ⟨by rfl, fun w' hw' => by have hv := cell_belM hw' fa; go_simp⟩) hHeld ?_
    try simp only [Act.put, List.getElem_toArray, List.getElem_cons_succ, List.getElem_cons_zero, List.setIfInBounds_toArray, List.set_cons_zero, List.set_cons_succ]
    refine' wpAnyH_take (i := 2) (v := .string (txt T)) rfl (by kernel_rfl) (by kernel_rfl) (by kernel_rfl) (fun _ _ _ h => h) (Or.inl ⟨by rfl, fun w' hw' => by have hv := cell_belM hw' fb; go_simp⟩) hHeld ?_
    try simp only [Act.put, List.getElem_toArray, List.getElem_cons_succ, List.getElem_cons_zero, List.setIfInBounds_toArray, List.set_cons_zero, List.set_cons_succ]
    refine wpAnyH_ready (rs := [1, 4, 5]) (by kernel_rfl) (by simp) ?_
    refine AllReadyH.cons rfl (fun K hK => ?_) (AllReadyH.cons rfl (fun K hK => ?_) (AllReadyH.cons rfl (fun K hK => ?_) AllReadyH.nil))
    · as_aux_lemma =>
        go_simp
        (with_reducible refine (HSa.out _).mono ?_)
        rintro e9 V9 ⟨rfl, hb9⟩
        refine hK.out _ _ (hHeld.trans (hb9.mono hHeld.size)) (fun hHeld => ?_)
        clear hK K hb9
        try simp only [Act.put, List.getElem_toArray, List.getElem_cons_succ, List.getElem_cons_zero, List.setIfInBounds_toArray, List.set_cons_zero, List.set_cons_succ]
        refine wpAnyH_ready (rs := [3, 4, 5]) (by kernel_rfl) (by simp) ?_
        refine AllReadyH.cons rfl (fun K hK => ?_) (AllReadyH.cons rfl (fun K hK => ?_) (AllReadyH.cons rfl (fun K hK => ?_) AllReadyH.nil))
        · as_aux_lemma =>
            go_simp
            (with_reducible refine (HSb.out _).mono ?_)
            rintro e9 V9 ⟨rfl, hb9⟩
            refine hK.out _ _ (hHeld.trans (hb9.mono hHeld.size)) (fun hHeld => ?_)
            clear hK K hb9
            try simp only [Act.put, List.getElem_toArray, List.getElem_cons_succ, List.getElem_cons_zero, List.setIfInBounds_toArray, List.set_cons_zero, List.set_cons_succ]
            refine wpAnyH_ready (rs := [4, 5]) (by kernel_rfl) (by simp) ?_
            refine AllReadyH.cons rfl (fun K hK => ?_) (AllReadyH.cons rfl (fun K hK => ?_) AllReadyH.nil)
            · as_aux_lemma =>
                refine wp_allocI rfl ?_
                intro gP csP VP hsP hnP hBP hb9
                have nP : V0.heap.size ≤ gP := by have := hnP.out; have := hHeld.size; omega
                refine hK.out _ _ (hHeld.trans (hb9.mono hHeld.size)) (fun hHeld => ?_)
                clear hK K hb9 hnP
                try simp only [Act.put, List.getElem_toArray, List.getElem_cons_succ, List.getElem_cons_zero, List.setIfInBounds_toArray, List.set_cons_zero, List.set_cons_succ]
                refine wpAnyH_ready (rs := [5]) (by kernel_rfl) (by simp) ?_
                refine AllReadyH.cons rfl (fun K hK => ?_) AllReadyH.nil
                refine wp_allocI rfl ?_
                intro gQ csQ VQ hsQ hnQ hBQ hb9
                have nQ : V0.heap.size ≤ gQ := by have := hnQ.out; have := hHeld.size; omega
                have ne : gP ≠ gQ := by have := hnQ.out; have := hBP.lt; omega
                replace hBP := hBP.below hb9
                refine hK.out _ _ (hHeld.trans (hb9.mono hHeld.size)) (fun hHeld => ?_)
                clear hK K hb9 hnQ
                try simp only [Act.put, List.getElem_toArray, List.getElem_cons_succ, List.getElem_cons_zero, List.setIfInBounds_toArray, List.set_cons_zero, List.set_cons_succ]
                refine wpAnyH_ready (rs := [6]) (by kernel_rfl) (by simp) ?_
                refine AllReadyH.cons rfl (fun K hK => ?_) AllReadyH.nil
                refine wp_store_blk 24 _ _ rfl gP _ (idVals U) 24 hBP rfl rfl hzU (by rw [hsP, sU]) h1U ?_
                clear hBP; intro VSP hBP hg9
                replace hBQ := blk_gM hBQ hg9 ne.symm
                refine hK.out _ _ (hHeld.grown hg9 hHeld.size (fun q hq => by have := Option.some.inj hq; omega)) (fun hHeld => ?_)
                clear hK K hg9
                try simp only [Act.put, List.getElem_toArray, List.getElem_cons_succ, List.getElem_cons_zero, List.setIfInBounds_toArray, List.set_cons_zero, List.set_cons_succ]
                refine wpAnyH_ready (rs := [7]) (by kernel_rfl) (by simp) ?_
                refine AllReadyH.cons rfl (fun K hK => ?_) AllReadyH.nil
                refine wp_store_blk 24 _ _ rfl gQ _ (idVals V) 24 hBQ rfl rfl hzV (by rw [hsQ, sV]) h1V ?_
                clear hBQ; intro VSQ hBQ hg9
                replace hBP := blk_gM hBP hg9 ne
                refine hK.out _ _ (hHeld.grown hg9 hHeld.size (fun q hq => by have := Option.some.inj hq; omega)) (fun hHeld => ?_)
                clear hK K hg9
                try simp only [Act.put, List.getElem_toArray, List.getElem_cons_succ, List.getElem_cons_zero, List.setIfInBounds_toArray, List.set_cons_zero, List.set_cons_succ]
                refine wpAnyH_done (by kernel_rfl) ?_ _
                go_wp2_with (fail)
                go_meet
                exact ⟨gP, gQ, rfl, rfl, hBP, hBQ, HDR.out.trans (hHeld.mono HDR.out.size)⟩
            · as_aux_lemma =>
                refine wp_allocI rfl ?_
                intro gQ csQ VQ hsQ hnQ hBQ hb9
                have nQ : V0.heap.size ≤ gQ := by have := hnQ.out; have := hHeld.size; omega
                refine hK.out _ _ (hHeld.trans (hb9.mono hHeld.size)) (fun hHeld => ?_)
                clear hK K hb9 hnQ
                try simp only [Act.put, List.getElem_toArray, List.getElem_cons_succ, List.getElem_cons_zero, List.setIfInBounds_toArray, List.set_cons_zero, List.set_cons_succ]
                refine wpAnyH_ready (rs := [4]) (by kernel_rfl) (by simp) ?_
                refine AllReadyH.cons rfl (fun K hK => ?_) AllReadyH.nil
                refine wp_allocI rfl ?_
                intro gP csP VP hsP hnP hBP hb9
                have nP : V0.heap.size ≤ gP := by have := hnP.out; have := hHeld.size; omega
                have ne : gP ≠ gQ := by have := hnP.out; have := hBQ.lt; omega
                replace hBQ := hBQ.below hb9
                refine hK.out _ _ (hHeld.trans (hb9.mono hHeld.size)) (fun hHeld => ?_)
                clear hK K hb9 hnP
                try simp only [Act.put, List.getElem_toArray, List.getElem_cons_succ, List.getElem_cons_zero, List.setIfInBounds_toArray, List.set_cons_zero, List.set_cons_succ]
                refine wpAnyH_ready (rs := [6]) (by kernel_rfl) (by simp) ?_
                refine AllReadyH.cons rfl (fun K hK => ?_) AllReadyH.nil
                refine wp_store_blk 24 _ _ rfl gP _ (idVals U) 24 hBP rfl rfl hzU (by rw [hsP, sU]) h1U ?_
                clear hBP; intro VSP hBP hg9
                replace hBQ := blk_gM hBQ hg9 ne.symm
                refine hK.out _ _ (hHeld.grown hg9 hHeld.size (fun q hq => by have := Option.some.inj hq; omega)) (fun hHeld => ?_)
                clear hK K hg9
                try simp only [Act.put, List.getElem_toArray, List.getElem_cons_succ, List.getElem_cons_zero, List.setIfInBounds_toArray, List.set_cons_zero, List.set_cons_succ]
                refine wpAnyH_ready (rs := [7]) (by kernel_rfl) (by simp) ?_
                refine AllReadyH.cons rfl (fun K hK => ?_) AllReadyH.nil
                refine wp_store_blk 24 _ _ rfl gQ _ (idVals V) 24 hBQ rfl rfl hzV (by rw [hsQ, sV]) h1V ?_
                clear hBQ; intro VSQ hBQ hg9
                replace hBP := blk_gM hBP hg9 ne
                refine hK.out _ _ (hHeld.grown hg9 hHeld.size (fun q hq => by have := Option.some.inj hq; omega)) (fun hHeld => ?_)
                clear hK K hg9
                try simp only [Act.put, List.getElem_toArray, List.getElem_cons_succ, List.getElem_cons_zero, List.setIfInBounds_toArray, List.set_cons_zero, List.set_cons_succ]
                refine wpAnyH_done (by kernel_rfl) ?_ _
                go_wp2_with (fail)
                go_meet
                exact ⟨gP, gQ, rfl, rfl, hBP, hBQ, HDR.out.trans (hHeld.mono HDR.out.size)⟩
        · as_aux_lemma =>
            refine wp_allocI rfl ?_
            intro gP csP VP hsP hnP hBP hb9
            have nP : V0.heap.size ≤ gP := by have := hnP.out; have := hHeld.size; omega
            refine hK.out _ _ (hHeld.trans (hb9.mono hHeld.size)) (fun hHeld => ?_)
            clear hK K hb9 hnP
            try simp only [Act.put, List.getElem_toArray, List.getElem_cons_succ, List.getElem_cons_zero, List.setIfInBounds_toArray, List.set_cons_zero, List.set_cons_succ]
            refine wpAnyH_ready (rs := [3, 5]) (by kernel_rfl) (by simp) ?_
            refine AllReadyH.cons rfl (fun K hK => ?_) (AllReadyH.cons rfl (fun K hK => ?_) AllReadyH.nil)
            · as_aux_lemma =>
                go_simp
                (with_reducible refine (HSb.out _).mono ?_)
                rintro e9 V9 ⟨rfl, hb9⟩
                replace hBP := hBP.below hb9
                refine hK.out _ _ (hHeld.trans (hb9.mono hHeld.size)) (fun hHeld => ?_)
                clear hK K hb9
                try simp only [Act.put, List.getElem_toArray, List.getElem_cons_succ, List.getElem_cons_zero, List.setIfInBounds_toArray, List.set_cons_zero, List.set_cons_succ]
                refine wpAnyH_ready (rs := [5]) (by kernel_rfl) (by simp) ?_
                refine AllReadyH.cons rfl (fun K hK => ?_) AllReadyH.nil
                refine wp_allocI rfl ?_
                intro gQ csQ VQ hsQ hnQ hBQ hb9
                have nQ : V0.heap.size ≤ gQ := by have := hnQ.out; have := hHeld.size; omega
                have ne : gP ≠ gQ := by have := hnQ.out; have := hBP.lt; omega
                replace hBP := hBP.below hb9
                refine hK.out _ _ (hHeld.trans (hb9.mono hHeld.size)) (fun hHeld => ?_)
                clear hK K hb9 hnQ
                try simp only [Act.put, List.getElem_toArray, List.getElem_cons_succ, List.getElem_cons_zero, List.setIfInBounds_toArray, List.set_cons_zero, List.set_cons_succ]
                refine wpAnyH_ready (rs := [6]) (by kernel_rfl) (by simp) ?_
                refine AllReadyH.cons rfl (fun K hK => ?_) AllReadyH.nil
                refine wp_store_blk 24 _ _ rfl gP _ (idVals U) 24 hBP rfl rfl hzU (by rw [hsP, sU]) h1U ?_
                clear hBP; intro VSP hBP hg9
                replace hBQ := blk_gM hBQ hg9 ne.symm
                refine hK.out _ _ (hHeld.grown hg9 hHeld.size (fun q hq => by have := Option.some.inj hq; omega)) (fun hHeld => ?_)
                clear hK K hg9
                try simp only [Act.put, List.getElem_toArray, List.getElem_cons_succ, List.getElem_cons_zero, List.setIfInBounds_toArray, List.set_cons_zero, List.set_cons_succ]
                refine wpAnyH_ready (rs := [7]) (by kernel_rfl) (by simp) ?_
                refine AllReadyH.cons rfl (fun K hK => ?_) AllReadyH.nil
                refine wp_store_blk 24 _ _ rfl gQ _ (idVals V) 24 hBQ rfl rfl hzV (by rw [hsQ, sV]) h1V ?_
                clear hBQ; intro VSQ hBQ hg9
                replace hBP := blk_gM hBP hg9 ne
                refine hK.out _ _ (hHeld.grown hg9 hHeld.size (fun q hq => by have := Option.some.inj hq; omega)) (fun hHeld => ?_)
                clear hK K hg9
                try simp only [Act.put, List.getElem_toArray, List.getElem_cons_succ, List.getElem_cons_zero, List.setIfInBounds_toArray, List.set_cons_zero, List.set_cons_succ]
                refine wpAnyH_done (by kernel_rfl) ?_ _
                go_wp2_with (fail)
                go_meet
                exact ⟨gP, gQ, rfl, rfl, hBP, hBQ, HDR.out.trans (hHeld.mono HDR.out.size)⟩
            · as_aux_lemma =>
                refine wp_allocI rfl ?_
                intro gQ csQ VQ hsQ hnQ hBQ hb9
                have nQ : V0.heap.size ≤ gQ := by have := hnQ.out; have := hHeld.size; omega
                have ne : gP ≠ gQ := by have := hnQ.out; have := hBP.lt; omega
                replace hBP := hBP.below hb9
                refine hK.out _ _ (hHeld.trans (hb9.mono hHeld.size)) (fun hHeld => ?_)
                clear hK K hb9 hnQ
                try simp only [Act.put, List.getElem_toArray, List.getElem_cons_succ, List.getElem_cons_zero, List.setIfInBounds_toArray, List.set_cons_zero, List.set_cons_succ]
                refine wpAnyH_ready (rs := [3]) (by kernel_rfl) (by simp) ?_
                refine AllReadyH.cons rfl (fun K hK => ?_) AllReadyH.nil
                go_simp
                (with_reducible refine (HSb.out _).mono ?_)
                rintro e9 V9 ⟨rfl, hb9⟩
                replace hBP := hBP.below hb9
                replace hBQ := hBQ.below hb9
                refine hK.out _ _ (hHeld.trans (hb9.mono hHeld.size)) (fun hHeld => ?_)
                clear hK K hb9
                try simp only [Act.put, List.getElem_toArray, List.getElem_cons_succ, List.getElem_cons_zero, List.setIfInBounds_toArray, List.set_cons_zero, List.set_cons_succ]
                refine wpAnyH_ready (rs := [6]) (by kernel_rfl) (by simp) ?_
                refine AllReadyH.cons rfl (fun K hK => ?_) AllReadyH.nil
                refine wp_store_blk 24 _ _ rfl gP _ (idVals U) 24 hBP rfl rfl hzU (by rw [hsP, sU]) h1U ?_
                clear hBP; intro VSP hBP hg9
                replace hBQ := blk_gM hBQ hg9 ne.symm
                refine hK.out _ _ (hHeld.grown hg9 hHeld.size (fun q hq => by have := Option.some.inj hq; omega)) (fun hHeld => ?_)
                clear hK K hg9
                try simp only [Act.put, List.getElem_toArray, List.getElem_cons_succ, List.getElem_cons_zero, List.setIfInBounds_toArray, List.set_cons_zero, List.set_cons_succ]
                refine wpAnyH_ready (rs := [7]) (by kernel_rfl) (by simp) ?_
                refine AllReadyH.cons rfl (fun K hK => ?_) AllReadyH.nil
                refine wp_store_blk 24 _ _ rfl gQ _ (idVals V) 24 hBQ rfl rfl hzV (by rw [hsQ, sV]) h1V ?_
                clear hBQ; intro VSQ hBQ hg9
                replace hBP := blk_gM hBP hg9 ne
                refine hK.out _ _ (hHeld.grown hg9 hHeld.size (fun q hq => by have := Option.some.inj hq; omega)) (fun hHeld => ?_)
                clear hK K hg9
                try simp only [Act.put, List.getElem_toArray, List.getElem_cons_succ, List.getElem_cons_zero, List.setIfInBounds_toArray, List.set_cons_zero, List.set_cons_succ]
                refine wpAnyH_done (by kernel_rfl) ?_ _
                go_wp2_with (fail)
                go_meet
                exact ⟨gP, gQ, rfl, rfl, hBP, hBQ, HDR.out.trans (hHeld.mono HDR.out.size)⟩
        · as_aux_lemma =>
            refine wp_allocI rfl ?_
            intro gQ csQ VQ hsQ hnQ hBQ hb9
            have nQ : V0.heap.size ≤ gQ := by have := hnQ.out; have := hHeld.size; omega
            refine hK.out _ _ (hHeld.trans (hb9.mono hHeld.size)) (fun hHeld => ?_)
            clear hK K hb9 hnQ
            try simp only [Act.put, List.getElem_toArray, List.getElem_cons_succ, List.getElem_cons_zero, List.setIfInBounds_toArray, List.set_cons_zero, List.set_cons_succ]
            refine wpAnyH_ready (rs := [3, 4]) (by kernel_rfl) (by simp) ?_
            refine AllReadyH.cons rfl (fun K hK => ?_) (AllReadyH.cons rfl (fun K hK => ?_) AllReadyH.nil)
            · as_aux_lemma =>
                go_simp
                (with_reducible refine (HSb.out _).mono ?_)
                rintro e9 V9 ⟨rfl, hb9⟩
                replace hBQ := hBQ.below hb9
                refine hK.out _ _ (hHeld.trans (hb9.mono hHeld.size)) (fun hHeld => ?_)
                clear hK K hb9
                try simp only [Act.put, List.getElem_toArray, List.getElem_cons_succ, List.getElem_cons_zero, List.setIfInBounds_toArray, List.set_cons_zero, List.set_cons_succ]
                refine wpAnyH_ready (rs := [4]) (by kernel_rfl) (by simp) ?_
                refine AllReadyH.cons rfl (fun K hK => ?_) AllReadyH.nil
                refine wp_allocI rfl ?_
                intro gP csP VP hsP hnP hBP hb9
                have nP : V0.heap.size ≤ gP := by have := hnP.out; have := hHeld.size; omega
                have ne : gP ≠ gQ := by have := hnP.out; have := hBQ.lt; omega
                replace hBQ := hBQ.below hb9
                refine hK.out _ _ (hHeld.trans (hb9.mono hHeld.size)) (fun hHeld => ?_)
                clear hK K hb9 hnP
                try simp only [Act.put, List.getElem_toArray, List.getElem_cons_succ, List.getElem_cons_zero, List.setIfInBounds_toArray, List.set_cons_zero, List.set_cons_succ]
                refine wpAnyH_ready (rs := [6]) (by kernel_rfl) (by simp) ?_
                refine AllReadyH.cons rfl (fun K hK => ?_) AllReadyH.nil
                refine wp_store_blk 24 _ _ rfl gP _ (idVals U) 24 hBP rfl rfl hzU (by rw [hsP, sU]) h1U ?_
                clear hBP; intro VSP hBP hg9
                replace hBQ := blk_gM hBQ hg9 ne.symm
                refine hK.out _ _ (hHeld.grown hg9 hHeld.size (fun q hq => by have := Option.some.inj hq; omega)) (fun hHeld => ?_)
                clear hK K hg9
                try simp only [Act.put, List.getElem_toArray, List.getElem_cons_succ, List.getElem_cons_zero, List.setIfInBounds_toArray, List.set_cons_zero, List.set_cons_succ]
                refine wpAnyH_ready (rs := [7]) (by kernel_rfl) (by simp) ?_
                refine AllReadyH.cons rfl (fun K hK => ?_) AllReadyH.nil
                refine wp_store_blk 24 _ _ rfl gQ _ (idVals V) 24 hBQ rfl rfl hzV (by rw [hsQ, sV]) h1V ?_
                clear hBQ; intro VSQ hBQ hg9
                replace hBP := blk_gM hBP hg9 ne
                refine hK.out _ _ (hHeld.grown hg9 hHeld.size (fun q hq => by have := Option.some.inj hq; omega)) (fun hHeld => ?_)
                clear hK K hg9
                try simp only [Act.put, List.getElem_toArray, List.getElem_cons_succ, List.getElem_cons_zero, List.setIfInBounds_toArray, List.set_cons_zero, List.set_cons_succ]
                refine wpAnyH_done (by kernel_rfl) ?_ _
                go_wp2_with (fail)
                go_meet
                exact ⟨gP, gQ, rfl, rfl, hBP, hBQ, HDR.out.trans (hHeld.mono HDR.out.size)⟩
            · as_aux_lemma =>
                refine wp_allocI rfl ?_
                intro gP csP VP hsP hnP hBP hb9
                have nP : V0.heap.size ≤ gP := by have := hnP.out; have := hHeld.size; omega
                have ne : gP ≠ gQ := by have := hnP.out; have := hBQ.lt; omega
                replace hBQ := hBQ.below hb9
                refine hK.out _ _ (hHeld.trans (hb9.mono hHeld.size)) (fun hHeld => ?_)
                clear hK K hb9 hnP
                try simp only [Act.put, List.getElem_toArray, List.getElem_cons_succ, List.getElem_cons_zero, List.setIfInBounds_toArray, List.set_cons_zero, List.set_cons_succ]
                refine wpAnyH_ready (rs := [3]) (by kernel_rfl) (by simp) ?_
                refine AllReadyH.cons rfl (fun K hK => ?_) AllReadyH.nil
                go_simp
                (with_reducible refine (HSb.out _).mono ?_)
                rintro e9 V9 ⟨rfl, hb9⟩
                replace hBQ := hBQ.below hb9
                replace hBP := hBP.below hb9
                refine hK.out _ _ (hHeld.trans (hb9.mono hHeld.size)) (fun hHeld => ?_)
                clear hK K hb9
                try simp only [Act.put, List.getElem_toArray, List.getElem_cons_succ, List.getElem_cons_zero, List.setIfInBounds_toArray, List.set_cons_zero, List.set_cons_succ]
                refine wpAnyH_ready (rs := [6]) (by kernel_rfl) (by simp) ?_
                refine AllReadyH.cons rfl (fun K hK => ?_) AllReadyH.nil
                refine wp_store_blk 24 _ _ rfl gP _ (idVals U) 24 hBP rfl rfl hzU (by rw [hsP, sU]) h1U ?_
                clear hBP; intro VSP hBP hg9
                replace hBQ := blk_gM hBQ hg9 ne.symm
                refine hK.out _ _ (hHeld.grown hg9 hHeld.size (fun q hq => by have := Option.some.inj hq; omega)) (fun hHeld => ?_)
                clear hK K hg9
                try simp only [Act.put, List.getElem_toArray, List.getElem_cons_succ, List.getElem_cons_zero, List.setIfInBounds_toArray, List.set_cons_zero, List.set_cons_succ]
                refine wpAnyH_ready (rs := [7]) (by kernel_rfl) (by simp) ?_
                refine AllReadyH.cons rfl (fun K hK => ?_) AllReadyH.nil
                refine wp_store_blk 24 _ _ rfl gQ _ (idVals V) 24 hBQ rfl rfl hzV (by rw [hsQ, sV]) h1V ?_
                clear hBQ; intro VSQ hBQ hg9
                replace hBP := blk_gM hBP hg9 ne
                refine hK.out _ _ (hHeld.grown hg9 hHeld.size (fun q hq => by have := Option.some.inj hq; omega)) (fun hHeld => ?_)
                clear hK K hg9
                try simp only [Act.put, List.getElem_toArray, List.getElem_cons_succ, List.getElem_cons_zero, List.setIfInBounds_toArray, List.set_cons_zero, List.set_cons_succ]
                refine wpAnyH_done (by kernel_rfl) ?_ _
                go_wp2_with (fail)
                go_meet
                exact ⟨gP, gQ, rfl, rfl, hBP, hBQ, HDR.out.trans (hHeld.mono HDR.out.size)⟩
    · as_aux_lemma =>
        refine wp_allocI rfl ?_
        intro gP csP VP hsP hnP hBP hb9
        have nP : V0.heap.size ≤ gP := by have := hnP.out; have := hHeld.size; omega
        refine hK.out _ _ (hHeld.trans (hb9.mono hHeld.size)) (fun hHeld => ?_)
        clear hK K hb9 hnP
        try simp only [Act.put, List.getElem_toArray, List.getElem_cons_succ, List.getElem_cons_zero, List.setIfInBounds_toArray, List.set_cons_zero, List.set_cons_succ]
        refine wpAnyH_ready (rs := [1, 5]) (by kernel_rfl) (by simp) ?_
        refine AllReadyH.cons rfl (fun K hK => ?_) (AllReadyH.cons rfl (fun K hK => ?_) AllReadyH.nil)
        · as_aux_lemma =>
            go_simp
            (with_reducible refine (HSa.out _).mono ?_)
            rintro e9 V9 ⟨rfl, hb9⟩
            replace hBP := hBP.below hb9
            refine hK.out _ _ (hHeld.trans (hb9.mono hHeld.size)) (fun hHeld => ?_)
            clear hK K hb9
            try simp only [Act.put, List.getElem_toArray, List.getElem_cons_succ, List.getElem_cons_zero, List.setIfInBounds_toArray, List.set_cons_zero, List.set_cons_succ]
            refine wpAnyH_ready (rs := [3, 5]) (by kernel_rfl) (by simp) ?_
            refine AllReadyH.cons rfl (fun K hK => ?_) (AllReadyH.cons rfl (fun K hK => ?_) AllReadyH.nil)
            · as_aux_lemma =>
                go_simp
                (with_reducible refine (HSb.out _).mono ?_)
                rintro e9 V9 ⟨rfl, hb9⟩
                replace hBP := hBP.below hb9
                refine hK.out _ _ (hHeld.trans (hb9.mono hHeld.size)) (fun hHeld => ?_)
                clear hK K hb9
                try simp only [Act.put, List.getElem_toArray, List.getElem_cons_succ, List.getElem_cons_zero, List.setIfInBounds_toArray, List.set_cons_zero, List.set_cons_succ]
                refine wpAnyH_ready (rs := [5]) (by kernel_rfl) (by simp) ?_
                refine AllReadyH.cons rfl (fun K hK => ?_) AllReadyH.nil
                refine wp_allocI rfl ?_
                intro gQ csQ VQ hsQ hnQ hBQ hb9
                have nQ : V0.heap.size ≤ gQ := by have := hnQ.out; have := hHeld.size; omega
                have ne : gP ≠ gQ := by have := hnQ.out; have := hBP.lt; omega
                replace hBP := hBP.below hb9
                refine hK.out _ _ (hHeld.trans (hb9.mono hHeld.size)) (fun hHeld => ?_)
                clear hK K hb9 hnQ
                try simp only [Act.put, List.getElem_toArray, List.getElem_cons_succ, List.getElem_cons_zero, List.setIfInBounds_toArray, List.set_cons_zero, List.set_cons_succ]
                refine wpAnyH_ready (rs := [6]) (by kernel_rfl) (by simp) ?_
                refine AllReadyH.cons rfl (fun K hK => ?_) AllReadyH.nil
                refine wp_store_blk 24 _ _ rfl gP _ (idVals U) 24 hBP rfl rfl hzU (by rw [hsP, sU]) h1U ?_
                clear hBP; intro VSP hBP hg9
                replace hBQ := blk_gM hBQ hg9 ne.symm
                refine hK.out _ _ (hHeld.grown hg9 hHeld.size (fun q hq => by have := Option.some.inj hq; omega)) (fun hHeld => ?_)
                clear hK K hg9
                try simp only [Act.put, List.getElem_toArray, List.getElem_cons_succ, List.getElem_cons_zero, List.setIfInBounds_toArray, List.set_cons_zero, List.set_cons_succ]
                refine wpAnyH_ready (rs := [7]) (by kernel_rfl) (by simp) ?_
                refine AllReadyH.cons rfl (fun K hK => ?_) AllReadyH.nil
                refine wp_store_blk 24 _ _ rfl gQ _ (idVals V) 24 hBQ rfl rfl hzV (by rw [hsQ, sV]) h1V ?_
                clear hBQ; intro VSQ hBQ hg9
                replace hBP := blk_gM hBP hg9 ne
                refine hK.out _ _ (hHeld.grown hg9 hHeld.size (fun q hq => by have := Option.some.inj hq; omega)) (fun hHeld => ?_)
                clear hK K hg9
                try simp only [Act.put, List.getElem_toArray, List.getElem_cons_succ, List.getElem_cons_zero, List.setIfInBounds_toArray, List.set_cons_zero, List.set_cons_succ]
                refine wpAnyH_done (by kernel_rfl) ?_ _
                go_wp2_with (fail)
                go_meet
                exact ⟨gP, gQ, rfl, rfl, hBP, hBQ, HDR.out.trans (hHeld.mono HDR.out.size)⟩
            · as_aux_lemma =>
                refine wp_allocI rfl ?_
                intro gQ csQ VQ hsQ hnQ hBQ hb9
                have nQ : V0.heap.size ≤ gQ := by have := hnQ.out; have := hHeld.size; omega
                have ne : gP ≠ gQ := by have := hnQ.out; have := hBP.lt; omega
                replace hBP := hBP.below hb9
                refine hK.out _ _ (hHeld.trans (hb9.mono hHeld.size)) (fun hHeld => ?_)
                clear hK K hb9 hnQ
                try simp only [Act.put, List.getElem_toArray, List.getElem_cons_succ, List.getElem_cons_zero, List.setIfInBounds_toArray, List.set_cons_zero, List.set_cons_succ]
                refine wpAnyH_ready (rs := [3]) (by kernel_rfl) (by simp) ?_
                refine AllReadyH.cons rfl (fun K hK => ?_) AllReadyH.nil
                go_simp
                (with_reducible refine (HSb.out _).mono ?_)
                rintro e9 V9 ⟨rfl, hb9⟩
                replace hBP := hBP.below hb9
                replace hBQ := hBQ.below hb9
                refine hK.out _ _ (hHeld.trans (hb9.mono hHeld.size)) (fun hHeld => ?_)
                clear hK K hb9
                try simp only [Act.put, List.getElem_toArray, List.getElem_cons_succ, List.getElem_cons_zero, List.setIfInBounds_toArray, List.set_cons_zero, List.set_cons_succ]
                refine wpAnyH_ready (rs := [6]) (by kernel_rfl) (by simp) ?_
                refine AllReadyH.cons rfl (fun K hK => ?_) AllReadyH.nil
                refine wp_store_blk 24 _ _ rfl gP _ (idVals U) 24 hBP rfl rfl hzU (by rw [hsP, sU]) h1U ?_
                clear hBP; intro VSP hBP hg9
                replace hBQ := blk_gM hBQ hg9 ne.symm
                refine hK.out _ _ (hHeld.grown hg9 hHeld.size (fun q hq => by have := Option.some.inj hq; omega)) (fun hHeld => ?_)
                clear hK K hg9
                try simp only [Act.put, List.getElem_toArray, List.getElem_cons_succ, List.getElem_cons_zero, List.setIfInBounds_toArray, List.set_cons_zero, List.set_cons_succ]
                refine wpAnyH_ready (rs := [7]) (by kernel_rfl) (by simp) ?_
                refine AllReadyH.cons rfl (fun K hK => ?_) AllReadyH.nil
                refine wp_store_blk 24 _ _ rfl gQ _ (idVals V) 24 hBQ rfl rfl hzV (by rw [hsQ, sV]) h1V ?_
                clear hBQ; intro VSQ hBQ hg9
                replace hBP := blk_gM hBP hg9 ne
                refine hK.out _ _ (hHeld.grown hg9 hHeld.size (fun q hq => by have := Option.some.inj hq; omega)) (fun hHeld => ?_)
                clear hK K hg9
                try simp only [Act.put, List.getElem_toArray, List.getElem_cons_succ, List.getElem_cons_zero, List.setIfInBounds_toArray, List.set_cons_zero, List.set_cons_succ]
                refine wpAnyH_done (by kernel_rfl) ?_ _
                go_wp2_with (fail)
                go_meet
                exact ⟨gP, gQ, rfl, rfl, hBP, hBQ, HDR.out.trans (hHeld.mono HDR.out.size)⟩
        · as_aux_lemma =>
            refine wp_allocI rfl ?_
            intro gQ csQ VQ hsQ hnQ hBQ hb9
            have nQ : V0.heap.size ≤ gQ := by have := hnQ.out; have := hHeld.size; omega
            have ne : gP ≠ gQ := by have := hnQ.out; have := hBP.lt; omega
            replace hBP := hBP.below hb9
            refine hK.out _ _ (hHeld.trans (hb9.mono hHeld.size)) (fun hHeld => ?_)
            clear hK K hb9 hnQ
            try simp only [Act.put, List.getElem_toArray, List.getElem_cons_succ, List.getElem_cons_zero, List.setIfInBounds_toArray, List.set_cons_zero, List.set_cons_succ]
            refine wpAnyH_ready (rs := [1]) (by kernel_rfl) (by simp) ?_
            refine AllReadyH.cons rfl (fun K hK => ?_) AllReadyH.nil
            go_simp
            (with_reducible refine (HSa.out _).mono ?_)
            rintro e9 V9 ⟨rfl, hb9⟩
            replace hBP := hBP.below hb9
            replace hBQ := hBQ.below hb9
            refine hK.out _ _ (hHeld.trans (hb9.mono hHeld.size)) (fun hHeld => ?_)
            clear hK K hb9
            try simp only [Act.put, List.getElem_toArray, List.getElem_cons_succ, List.getElem_cons_zero, List.setIfInBounds_toArray, List.set_cons_zero, List.set_cons_succ]
            refine wpAnyH_ready (rs := [3]) (by kernel_rfl) (by simp) ?_
            refine AllReadyH.cons rfl (fun K hK => ?_) AllReadyH.nil
            go_simp
            (with_reducible refine (HSb.out _).mono ?_)
            rintro e9 V9 ⟨rfl, hb9⟩
            replace hBP := hBP.below hb9
            replace hBQ := hBQ.below hb9
            refine hK.out _ _ (hHeld.trans (hb9.mono hHeld.size)) (fun hHeld => ?_)
            clear hK K hb9
            try simp only [Act.put, List.getElem_toArray, List.getElem_cons_succ, List.getElem_cons_zero, List.setIfInBounds_toArray, List.set_cons_zero, List.set_cons_succ]
            refine wpAnyH_ready (rs := [6]) (by kernel_rfl) (by simp) ?_
            refine AllReadyH.cons rfl (fun K hK => ?_) AllReadyH.nil
            refine wp_store_blk 24 _ _ rfl gP _ (idVals U) 24 hBP rfl rfl hzU (by rw [hsP, sU]) h1U ?_
            clear hBP; intro VSP hBP hg9
            replace hBQ := blk_gM hBQ hg9 ne.symm
            refine hK.out _ _ (hHeld.grown hg9 hHeld.size (fun q hq => by have := Option.some.inj hq; omega)) (fun hHeld => ?_)
            clear hK K hg9
            try simp only [Act.put, List.getElem_toArray, List.getElem_cons_succ, List.getElem_cons_zero, List.setIfInBounds_toArray, List.set_cons_zero, List.set_cons_succ]
            refine wpAnyH_ready (rs := [7]) (by kernel_rfl) (by simp) ?_
            refine AllReadyH.cons rfl (fun K hK => ?_) AllReadyH.nil
            refine wp_store_blk 24 _ _ rfl gQ _ (idVals V) 24 hBQ rfl rfl hzV (by rw [hsQ, sV]) h1V ?_
            clear hBQ; intro VSQ hBQ hg9
            replace hBP := blk_gM hBP hg9 ne
            refine hK.out _ _ (hHeld.grown hg9 hHeld.size (fun q hq => by have := Option.some.inj hq; omega)) (fun hHeld => ?_)
            clear hK K hg9
            try simp only [Act.put, List.getElem_toArray, List.getElem_cons_succ, List.getElem_cons_zero, List.setIfInBounds_toArray, List.set_cons_zero, List.set_cons_succ]
            refine wpAnyH_done (by kernel_rfl) ?_ _
            go_wp2_with (fail)
            go_meet
            exact ⟨gP, gQ, rfl, rfl, hBP, hBQ, HDR.out.trans (hHeld.mono HDR.out.size)⟩
    · as_aux_lemma =>
        refine wp_allocI rfl ?_
        intro gQ csQ VQ hsQ hnQ hBQ hb9
        have nQ : V0.heap.size ≤ gQ := by have := hnQ.out; have := hHeld.size; omega
        refine hK.out _ _ (hHeld.trans (hb9.mono hHeld.size)) (fun hHeld => ?_)
        clear hK K hb9 hnQ
        try simp only [Act.put, List.getElem_toArray, List.getElem_cons_succ, List.getElem_cons_zero, List.setIfInBounds_toArray, List.set_cons_zero, List.set_cons_succ]
        refine wpAnyH_ready (rs := [1, 4]) (by kernel_rfl) (by simp) ?_
        refine AllReadyH.cons rfl (fun K hK => ?_) (AllReadyH.cons rfl (fun K hK => ?_) AllReadyH.nil)
        · as_aux_lemma =>
            go_simp
            (with_reducible refine (HSa.out _).mono ?_)
            rintro e9 V9 ⟨rfl, hb9⟩
            replace hBQ := hBQ.below hb9
            refine hK.out _ _ (hHeld.trans (hb9.mono hHeld.size)) (fun hHeld => ?_)
            clear hK K hb9
            try simp only [Act.put, List.getElem_toArray, List.getElem_cons_succ, List.getElem_cons_zero, List.setIfInBounds_toArray, List.set_cons_zero, List.set_cons_succ]
            refine wpAnyH_ready (rs := [3, 4]) (by kernel_rfl) (by simp) ?_
            refine AllReadyH.cons rfl (fun K hK => ?_) (AllReadyH.cons rfl (fun K hK => ?_) AllReadyH.nil)
            · as_aux_lemma =>
                go_simp
                (with_reducible refine (HSb.out _).mono ?_)
                rintro e9 V9 ⟨rfl, hb9⟩
                replace hBQ := hBQ.below hb9
                refine hK.out _ _ (hHeld.trans (hb9.mono hHeld.size)) (fun hHeld => ?_)
                clear hK K hb9
                try simp only [Act.put, List.getElem_toArray, List.getElem_cons_succ, List.getElem_cons_zero, List.setIfInBounds_toArray, List.set_cons_zero, List.set_cons_succ]
                refine wpAnyH_ready (rs := [4]) (by kernel_rfl) (by simp) ?_
                refine AllReadyH.cons rfl (fun K hK => ?_) AllReadyH.nil
                refine wp_allocI rfl ?_
                intro gP csP VP hsP hnP hBP hb9
                have nP : V0.heap.size ≤ gP := by have := hnP.out; have := hHeld.size; omega
                have ne : gP ≠ gQ := by have := hnP.out; have := hBQ.lt; omega
                replace hBQ := hBQ.below hb9
                refine hK.out _ _ (hHeld.trans (hb9.mono hHeld.size)) (fun hHeld => ?_)
                clear hK K hb9 hnP
                try simp only [Act.put, List.getElem_toArray, List.getElem_cons_succ, List.getElem_cons_zero, List.setIfInBounds_toArray, List.set_cons_zero, List.set_cons_succ]
                refine wpAnyH_ready (rs := [6]) (by kernel_rfl) (by simp) ?_
                refine AllReadyH.cons rfl (fun K hK => ?_) AllReadyH.nil
                refine wp_store_blk 24 _ _ rfl gP _ (idVals U) 24 hBP rfl rfl hzU (by rw [hsP, sU]) h1U ?_
                clear hBP; intro VSP hBP hg9
                replace hBQ := blk_gM hBQ hg9 ne.symm
                refine hK.out _ _ (hHeld.grown hg9 hHeld.size (fun q hq => by have := Option.some.inj hq; omega)) (fun hHeld => ?_)
                clear hK K hg9
                try simp only [Act.put, List.getElem_toArray, List.getElem_cons_succ, List.getElem_cons_zero, List.setIfInBounds_toArray, List.set_cons_zero, List.set_cons_succ]
                refine wpAnyH_ready (rs := [7]) (by kernel_rfl) (by simp) ?_
                refine AllReadyH.cons rfl (fun K hK => ?_) AllReadyH.nil
                refine wp_store_blk 24 _ _ rfl gQ _ (idVals V) 24 hBQ rfl rfl hzV (by rw [hsQ, sV]) h1V ?_
                clear hBQ; intro VSQ hBQ hg9
                replace hBP := blk_gM hBP hg9 ne
                refine hK.out _ _ (hHeld.grown hg9 hHeld.size (fun q hq => by have := Option.some.inj hq; omega)) (fun hHeld => ?_)
                clear hK K hg9
                try simp only [Act.put, List.getElem_toArray, List.getElem_cons_succ, List.getElem_cons_zero, List.setIfInBounds_toArray, List.set_cons_zero, List.set_cons_succ]
                refine wpAnyH_done (by kernel_rfl) ?_ _
                go_wp2_with (fail)
                go_meet
                exact ⟨gP, gQ, rfl, rfl, hBP, hBQ, HDR.out.trans (hHeld.mono HDR.out.size)⟩
            · as_aux_lemma =>
                refine wp_allocI rfl ?_
                intro gP csP VP hsP hnP hBP hb9
                have nP : V0.heap.size ≤ gP := by have := hnP.out; have := hHeld.size; omega
                have ne : gP ≠ gQ := by have := hnP.out; have := hBQ.lt; omega
                replace hBQ := hBQ.below hb9
                refine hK.out _ _ (hHeld.trans (hb9.mono hHeld.size)) (fun hHeld => ?_)
                clear hK K hb9 hnP
                try simp only [Act.put, List.getElem_toArray, List.getElem_cons_succ, List.getElem_cons_zero, List.setIfInBounds_toArray, List.set_cons_zero, List.set_cons_succ]
                refine wpAnyH_ready (rs := [3]) (by kernel_rfl) (by simp) ?_
                refine AllReadyH.cons rfl (fun K hK => ?_) AllReadyH.nil
                go_simp
                (with_reducible refine (HSb.out _).mono ?_)
                rintro e9 V9 ⟨rfl, hb9⟩
                replace hBQ := hBQ.below hb9
                replace hBP := hBP.below hb9
                refine hK.out _ _ (hHeld.trans (hb9.mono hHeld.size)) (fun hHeld => ?_)
                clear hK K hb9
                try simp only [Act.put, List.getElem_toArray, List.getElem_cons_succ, List.getElem_cons_zero, List.setIfInBounds_toArray, List.set_cons_zero, List.set_cons_succ]
                refine wpAnyH_ready (rs := [6]) (by kernel_rfl) (by simp) ?_
                refine AllReadyH.cons rfl (fun K hK => ?_) AllReadyH.nil
                refine wp_store_blk 24 _ _ rfl gP _ (idVals U) 24 hBP rfl rfl hzU (by rw [hsP, sU]) h1U ?_
                clear hBP; intro VSP hBP hg9
                replace hBQ := blk_gM hBQ hg9 ne.symm
                refine hK.out _ _ (hHeld.grown hg9 hHeld.size (fun q hq => by have := Option.some.inj hq; omega)) (fun hHeld => ?_)
                clear hK K hg9
                try simp only [Act.put, List.getElem_toArray, List.getElem_cons_succ, List.getElem_cons_zero, List.setIfInBounds_toArray, List.set_cons_zero, List.set_cons_succ]
                refine wpAnyH_ready (rs := [7]) (by kernel_rfl) (by simp) ?_
                refine AllReadyH.cons rfl (fun K hK => ?_) AllReadyH.nil
                refine wp_store_blk 24 _ _ rfl gQ _ (idVals V) 24 hBQ rfl rfl hzV (by rw [hsQ, sV]) h1V ?_
                clear hBQ; intro VSQ hBQ hg9
                replace hBP := blk_gM hBP hg9 ne
                refine hK.out _ _ (hHeld.grown hg9 hHeld.size (fun q hq => by have := Option.some.inj hq; omega)) (fun hHeld => ?_)
                clear hK K hg9
                try simp only [Act.put, List.getElem_toArray, List.getElem_cons_succ, List.getElem_cons_zero, List.setIfInBounds_toArray, List.set_cons_zero, List.set_cons_succ]
                refine wpAnyH_done (by kernel_rfl) ?_ _
                go_wp2_with (fail)
                go_meet
                exact ⟨gP, gQ, rfl, rfl, hBP, hBQ, HDR.out.trans (hHeld.mono HDR.out.size)⟩
        · as_aux_lemma =>
            refine wp_allocI rfl ?_
            intro gP csP VP hsP hnP hBP hb9
            have nP : V0.heap.size ≤ gP := by have := hnP.out; have := hHeld.size; omega
            have ne : gP ≠ gQ := by have := hnP.out; have := hBQ.lt; omega
            replace hBQ := hBQ.below hb9
            refine hK.out _ _ (hHeld.trans (hb9.mono hHeld.size)) (fun hHeld => ?_)
            clear hK K hb9 hnP
            try simp only [Act.put, List.getElem_toArray, List.getElem_cons_succ, List.getElem_cons_zero, List.setIfInBounds_toArray, List.set_cons_zero, List.set_cons_succ]
            refine wpAnyH_ready (rs := [1]) (by kernel_rfl) (by simp) ?_
            refine AllReadyH.cons rfl (fun K hK => ?_) AllReadyH.nil
            go_simp
            (with_reducible refine (HSa.out _).mono ?_)
            rintro e9 V9 ⟨rfl, hb9⟩
            replace hBQ := hBQ.below hb9
            replace hBP := hBP.below hb9
            refine hK.out _ _ (hHeld.trans (hb9.mono hHeld.size)) (fun hHeld => ?_)
            clear hK K hb9
            try simp only [Act.put, List.getElem_toArray, List.getElem_cons_succ, List.getElem_cons_zero, List.setIfInBounds_toArray, List.set_cons_zero, List.set_cons_succ]
            refine wpAnyH_ready (rs := [3]) (by kernel_rfl) (by simp) ?_
            refine AllReadyH.cons rfl (fun K hK => ?_) AllReadyH.nil
            go_simp
            (with_reducible refine (HSb.out _).mono ?_)
            rintro e9 V9 ⟨rfl, hb9⟩
            replace hBQ := hBQ.below hb9
            replace hBP := hBP.below hb9
            refine hK.out _ _ (hHeld.trans (hb9.mono hHeld.size)) (fun hHeld => ?_)
            clear hK K hb9
            try simp only [Act.put, List.getElem_toArray, List.getElem_cons_succ, List.getElem_cons_zero, List.setIfInBounds_toArray, List.set_cons_zero, List.set_cons_succ]
            refine wpAnyH_ready (rs := [6]) (by kernel_rfl) (by simp) ?_
            refine AllReadyH.cons rfl (fun K hK => ?_) AllReadyH.nil
            refine wp_store_blk 24 _ _ rfl gP _ (idVals U) 24 hBP rfl rfl hzU (by rw [hsP, sU]) h1U ?_
            clear hBP; intro VSP hBP hg9
            replace hBQ := blk_gM hBQ hg9 ne.symm
            refine hK.out _ _ (hHeld.grown hg9 hHeld.size (fun q hq => by have := Option.some.inj hq; omega)) (fun hHeld => ?_)
            clear hK K hg9
            try simp only [Act.put, List.getElem_toArray, List.getElem_cons_succ, List.getElem_cons_zero, List.setIfInBounds_toArray, List.set_cons_zero, List.set_cons_succ]
            refine wpAnyH_ready (rs := [7]) (by kernel_rfl) (by simp) ?_
            refine AllReadyH.cons rfl (fun K hK => ?_) AllReadyH.nil
            refine wp_store_blk 24 _ _ rfl gQ _ (idVals V) 24 hBQ rfl rfl hzV (by rw [hsQ, sV]) h1V ?_
            clear hBQ; intro VSQ hBQ hg9
            replace hBP := blk_gM hBP hg9 ne
            refine hK.out _ _ (hHeld.grown hg9 hHeld.size (fun q hq => by have := Option.some.inj hq; omega)) (fun hHeld => ?_)
            clear hK K hg9
            try simp only [Act.put, List.getElem_toArray, List.getElem_cons_succ, List.getElem_cons_zero, List.setIfInBounds_toArray, List.set_cons_zero, List.set_cons_succ]
            refine wpAnyH_done (by kernel_rfl) ?_ _
            go_wp2_with (fail)
            go_meet
            exact ⟨gP, gQ, rfl, rfl, hBP, hBQ, HDR.out.trans (hHeld.mono HDR.out.size)⟩
  case rest =>
    obtain ⟨g9, g10, rfl, rfl, h9, h10, hb⟩ := hcut
    have hzU : (Try.prog.info? 24).map (·.size) = some (U.map u8v).length := by rw [List.length_map, HU32.out]; exact sizeId
    have hzV : (Try.prog.info? 24).map (·.size) = some (V.map u8v).length := by rw [List.length_map, HV32.out]; exact sizeId
    have r9 := range_blk h9
    have r10 := range_blk h10
    have heU := HEU.out
    go_upto_region 2 with (first
      | (with_reducible refine wpList_load_if (by with_unfolding_all rfl) 24 _ rfl _ _ rfl (U.map u8v) _ r9 hu rfl hzU ?_)
      | (with_reducible refine wpList_load_if (by with_unfolding_all rfl) 24 _ rfl _ _ rfl (V.map u8v) _ r10 hu rfl hzV ?_))
    clear r9 r10 heU
    replace HM := hid (HM.out.below hb)
    clear hb
    have HU9 := HU32
    have HV9 := HV32
    clear HU32 HV32
    have HU32 := HP32
    have HV32 := HQ32
    have H9 := hid h9
    have H10 := hid h10
    clear h9 h10 hzU hzV
    go_upto_region 2 with (fail)
    go_cut [11, 12] (fun s t wx => CuI wc P Q s t wx)
    case first =>
      have hU9 : P.length = 32 := HU32.out
      have hV9 : Q.length = 32 := HV32.out
      have hzU : (Try.prog.info? 24).map (·.size) = some (idVals P).size := by rw [idVals_size, hU9]; exact sizeId
      have hzV : (Try.prog.info? 24).map (·.size) = some (idVals Q).size := by rw [idVals_size, hV9]; exact sizeId
      have sU : (idVals P).size = 32 := by rw [idVals_size, hU9]
      have sV : (idVals Q).size = 32 := by rw [idVals_size, hV9]
      have h1U := idVals_one P
      have h1V := idVals_one Q
      have HM9 := hid (HM.out.below (below_drew1 wc))
      have HDR := hid (below_drew1 wc)
      refine wp_region_held_drew (S := fun V => Below wc.drew.heap.size wc.drew V) (by kernel_rfl) (Below.refl _ _) (fun hHeld => ?_)
      generalize wc.drew = V0 at *
      have fl := HM9.out.l.cell_ (i := 0) rfl
      have fm := HM9.out.m.cell_ (i := 0) rfl
      refine' wpAnyH_take (i := 0) (v := .slice A n c) rfl (by kernel_rfl) (by kernel_rfl) (by kernel_rfl) (fun _ _ _ h => h) (Or.inl ⟨by rfl, fun w' hw' => by have hv := cell_belM hw' fl; go_simp⟩) hHeld ?_
      try simp only [Act.put, List.getElem_toArray, List.getElem_cons_succ, List.getElem_cons_zero, List.setIfInBounds_toArray, List.set_cons_zero, List.set_cons_succ]
      refine' wpAnyH_take (i := 1) (v := .int .i64 (x : Int)) rfl (by kernel_rfl) (by kernel_rfl) (by kernel_rfl) (fun _ _ _ h => h) (Or.inl ⟨by rfl, fun w' hw' => by go_simp⟩) hHeld ?_
      try simp only [Act.put, List.getElem_toArray, List.getElem_cons_succ, List.getElem_cons_zero, List.setIfInBounds_toArray, List.set_cons_zero, List.set_cons_succ]
      refine' wpAnyH_take (i := 2) (v := .int .i64 (z : Int)) rfl (by kernel_rfl) (by kernel_rfl) (by kernel_rfl) (fun _ _ _ h => h) (Or.inl ⟨by rfl, fun w' hw' => by go_simp⟩) hHeld ?_
      try simp only [Act.put, List.getElem_toArray, List.getElem_cons_succ, List.getElem_cons_zero, List.setIfInBounds_toArray, List.set_cons_zero, List.set_cons_succ]
      refine' wpAnyH_take (i := 3) (v := .slice A1 y c1) rfl (by kernel_rfl) (by kernel_rfl) (by kernel_rfl) (fun _ _ _ h => h) (Or.inl ⟨by rfl, fun w' hw' => by have hv := HE1.out w'; go_simp⟩) hHeld ?_
      try simp only [Act.put, List.getElem_toArray, List.getElem_cons_succ, List.getElem_cons_zero, List.setIfInBounds_toArray, List.set_cons_zero, List.set_cons_succ]
      refine' wpAnyH_take (i := 5) (v := .slice B m d) rfl (by kernel_rfl) (by kernel_rfl) (by kernel_rfl) (fun _ _ _ h => h) (Or.inl ⟨by rfl, fun w' hw' => by have hv := cell_belM hw' fm; go_simp⟩) hHeld ?_
      try simp only [Act.put, List.getElem_toArray, List.getElem_cons_succ, List.getElem_cons_zero, List.setIfInBounds_toArray, List.set_cons_zero, List.set_cons_succ]
      refine' wpAnyH_take (i := 6) (v := .int .i64 (x : Int)) rfl (by kernel_rfl) (by kernel_rfl) (by kernel_rfl) (fun _ _ _ h => h) (Or.inl ⟨by rfl, fun w' hw' => by go_simp⟩) hHeld ?_
      try simp only [Act.put, List.getElem_toArray, List.getElem_cons_succ, List.getElem_cons_zero, List.setIfInBounds_toArray, List.set_cons_zero, List.set_cons_succ]
      refine' wpAnyH_take (i := 7) (v := .int .i64 (z : Int)) rfl (by kernel_rfl) (by kernel_rfl) (by kernel_rfl) (fun _ _ _ h => h) (Or.inl ⟨by rfl, fun w' hw' => by go_simp⟩) hHeld ?_
      try simp only [Act.put, List.getElem_toArray, List.getElem_cons_succ, List.getElem_cons_zero, List.setIfInBounds_toArray, List.set_cons_zero, List.set_cons_succ]
      refine' wpAnyH_take (i := 8) (v := .slice B1 y d1) rfl (by kernel_rfl) (by kernel_rfl) (by kernel_rfl) (fun _ _ _ h => h) (Or.inl ⟨by rfl, fun w' hw' => by have hv := HE2.out w'; go_simp⟩) hHeld ?_
      try simp only [Act.put, List.getElem_toArray, List.getElem_cons_succ, List.getElem_cons_zero, List.setIfInBounds_toArray, List.set_cons_zero, List.set_cons_succ]
      refine wpAnyH_ready (rs := [4, 10, 11]) (by kernel_rfl) (by simp) ?_
      refine AllReadyH.cons rfl (fun K hK => ?_) (AllReadyH.cons rfl (fun K hK => ?_) (AllReadyH.cons rfl (fun K hK => ?_) AllReadyH.nil))
      · as_aux_lemma =>
          go_simp
          (with_reducible refine (HRa.out _ (HM9.out.q.trans (hHeld.mono HM9.out.q.size))).mono ?_)
          rintro e9 V9 ⟨rfl, hb9⟩
          refine hK.out _ _ (hHeld.trans (hb9.mono hHeld.size)) (fun hHeld => ?_)
          clear hK K hb9
          try simp only [Act.put, List.getElem_toArray, List.getElem_cons_succ, List.getElem_cons_zero, List.setIfInBounds_toArray, List.set_cons_zero, List.set_cons_succ]
          refine wpAnyH_ready (rs := [9, 10, 11]) (by kernel_rfl) (by simp) ?_
          refine AllReadyH.cons rfl (fun K hK => ?_) (AllReadyH.cons rfl (fun K hK => ?_) (AllReadyH.cons rfl (fun K hK => ?_) AllReadyH.nil))
          · as_aux_lemma =>
              go_simp
              (with_reducible refine (HRb.out _ (HM9.out.q.trans (hHeld.mono HM9.out.q.size))).mono ?_)
              rintro e9 V9 ⟨rfl, hb9⟩
              refine hK.out _ _ (hHeld.trans (hb9.mono hHeld.size)) (fun hHeld => ?_)
              clear hK K hb9
              try simp only [Act.put, List.getElem_toArray, List.getElem_cons_succ, List.getElem_cons_zero, List.setIfInBounds_toArray, List.set_cons_zero, List.set_cons_succ]
              refine wpAnyH_ready (rs := [10, 11]) (by kernel_rfl) (by simp) ?_
              refine AllReadyH.cons rfl (fun K hK => ?_) (AllReadyH.cons rfl (fun K hK => ?_) AllReadyH.nil)
              · as_aux_lemma =>
                  refine wp_allocI rfl ?_
                  intro gP csP VP hsP hnP hBP hb9
                  have nP : V0.heap.size ≤ gP := by have := hnP.out; have := hHeld.size; omega
                  refine hK.out _ _ (hHeld.trans (hb9.mono hHeld.size)) (fun hHeld => ?_)
                  clear hK K hb9 hnP
                  try simp only [Act.put, List.getElem_toArray, List.getElem_cons_succ, List.getElem_cons_zero, List.setIfInBounds_toArray, List.set_cons_zero, List.set_cons_succ]
                  refine wpAnyH_ready (rs := [11]) (by kernel_rfl) (by simp) ?_
                  refine AllReadyH.cons rfl (fun K hK => ?_) AllReadyH.nil
                  refine wp_allocI rfl ?_
                  intro gQ csQ VQ hsQ hnQ hBQ hb9
                  have nQ : V0.heap.size ≤ gQ := by have := hnQ.out; have := hHeld.size; omega
                  have ne : gP ≠ gQ := by have := hnQ.out; have := hBP.lt; omega
                  replace hBP := hBP.below hb9
                  refine hK.out _ _ (hHeld.trans (hb9.mono hHeld.size)) (fun hHeld => ?_)
                  clear hK K hb9 hnQ
                  try simp only [Act.put, List.getElem_toArray, List.getElem_cons_succ, List.getElem_cons_zero, List.setIfInBounds_toArray, List.set_cons_zero, List.set_cons_succ]
                  refine wpAnyH_ready (rs := [12]) (by kernel_rfl) (by simp) ?_
                  refine AllReadyH.cons rfl (fun K hK => ?_) AllReadyH.nil
                  refine wp_store_blk 24 _ _ rfl gP _ (idVals P) 24 hBP rfl rfl hzU (by rw [hsP, sU]) h1U ?_
                  clear hBP; intro VSP hBP hg9
                  replace hBQ := blk_gM hBQ hg9 ne.symm
                  refine hK.out _ _ (hHeld.grown hg9 hHeld.size (fun q hq => by have := Option.some.inj hq; omega)) (fun hHeld => ?_)
                  clear hK K hg9
                  try simp only [Act.put, List.getElem_toArray, List.getElem_cons_succ, List.getElem_cons_zero, List.setIfInBounds_toArray, List.set_cons_zero, List.set_cons_succ]
                  refine wpAnyH_ready (rs := [13]) (by kernel_rfl) (by simp) ?_
                  refine AllReadyH.cons rfl (fun K hK => ?_) AllReadyH.nil
                  refine wp_store_blk 24 _ _ rfl gQ _ (idVals Q) 24 hBQ rfl rfl hzV (by rw [hsQ, sV]) h1V ?_
                  clear hBQ; intro VSQ hBQ hg9
                  replace hBP := blk_gM hBP hg9 ne
                  refine hK.out _ _ (hHeld.grown hg9 hHeld.size (fun q hq => by have := Option.some.inj hq; omega)) (fun hHeld => ?_)
                  clear hK K hg9
                  try simp only [Act.put, List.getElem_toArray, List.getElem_cons_succ, List.getElem_cons_zero, List.setIfInBounds_toArray, List.set_cons_zero, List.set_cons_succ]
                  refine wpAnyH_done (by kernel_rfl) ?_ _
                  go_wp2_with (fail)
                  go_meet
                  exact ⟨gP, gQ, rfl, rfl, hBP, hBQ, HDR.out.trans (hHeld.mono HDR.out.size)⟩
              · as_aux_lemma =>
                  refine wp_allocI rfl ?_
                  intro gQ csQ VQ hsQ hnQ hBQ hb9
                  have nQ : V0.heap.size ≤ gQ := by have := hnQ.out; have := hHeld.size; omega
                  refine hK.out _ _ (hHeld.trans (hb9.mono hHeld.size)) (fun hHeld => ?_)
                  clear hK K hb9 hnQ
                  try simp only [Act.put, List.getElem_toArray, List.getElem_cons_succ, List.getElem_cons_zero, List.setIfInBounds_toArray, List.set_cons_zero, List.set_cons_succ]
                  refine wpAnyH_ready (rs := [10]) (by kernel_rfl) (by simp) ?_
                  refine AllReadyH.cons rfl (fun K hK => ?_) AllReadyH.nil
                  refine wp_allocI rfl ?_
                  intro gP csP VP hsP hnP hBP hb9
                  have nP : V0.heap.size ≤ gP := by have := hnP.out; have := hHeld.size; omega
                  have ne : gP ≠ gQ := by have := hnP.out; have := hBQ.lt; omega
                  replace hBQ := hBQ.below hb9
                  refine hK.out _ _ (hHeld.trans (hb9.mono hHeld.size)) (fun hHeld => ?_)
                  clear hK K hb9 hnP
                  try simp only [Act.put, List.getElem_toArray, List.getElem_cons_succ, List.getElem_cons_zero, List.setIfInBounds_toArray, List.set_cons_zero, List.set_cons_succ]
                  refine wpAnyH_ready (rs := [12]) (by kernel_rfl) (by simp) ?_
                  refine AllReadyH.cons rfl (fun K hK => ?_) AllReadyH.nil
                  refine wp_store_blk 24 _ _ rfl gP _ (idVals P) 24 hBP rfl rfl hzU (by rw [hsP, sU]) h1U ?_
                  clear hBP; intro VSP hBP hg9
                  replace hBQ := blk_gM hBQ hg9 ne.symm
                  refine hK.out _ _ (hHeld.grown hg9 hHeld.size (fun q hq => by have := Option.some.inj hq; omega)) (fun hHeld => ?_)
                  clear hK K hg9
                  try simp only [Act.put, List.getElem_toArray, List.getElem_cons_succ, List.getElem_cons_zero, List.setIfInBounds_toArray, List.set_cons_zero, List.set_cons_succ]
                  refine wpAnyH_ready (rs := [13]) (by kernel_rfl) (by simp) ?_
                  refine AllReadyH.cons rfl (fun K hK => ?_) AllReadyH.nil
                  refine wp_store_blk 24 _ _ rfl gQ _ (idVals Q) 24 hBQ rfl rfl hzV (by rw [hsQ, sV]) h1V ?_
                  clear hBQ; intro VSQ hBQ hg9
                  replace hBP := blk_gM hBP hg9 ne
                  refine hK.out _ _ (hHeld.grown hg9 hHeld.size (fun q hq => by have := Option.some.inj hq; omega)) (fun hHeld => ?_)
                  clear hK K hg9
                  try simp only [Act.put, List.getElem_toArray, List.getElem_cons_succ, List.getElem_cons_zero, List.setIfInBounds_toArray, List.set_cons_zero, List.set_cons_succ]
                  refine wpAnyH_done (by kernel_rfl) ?_ _
                  go_wp2_with (fail)
                  go_meet
                  exact ⟨gP, gQ, rfl, rfl, hBP, hBQ, HDR.out.trans (hHeld.mono HDR.out.size)⟩
          · as_aux_lemma =>
              refine wp_allocI rfl ?_
              intro gP csP VP hsP hnP hBP hb9
              have nP : V0.heap.size ≤ gP := by have := hnP.out; have := hHeld.size; omega
              refine hK.out _ _ (hHeld.trans (hb9.mono hHeld.size)) (fun hHeld => ?_)
              clear hK K hb9 hnP
              try simp only [Act.put, List.getElem_toArray, List.getElem_cons_succ, List.getElem_cons_zero, List.setIfInBounds_toArray, List.set_cons_zero, List.set_cons_succ]
              refine wpAnyH_ready (rs := [9, 11]) (by kernel_rfl) (by simp) ?_
              refine AllReadyH.cons rfl (fun K hK => ?_) (AllReadyH.cons rfl (fun K hK => ?_) AllReadyH.nil)
              · as_aux_lemma =>
                  go_simp
                  (with_reducible refine (HRb.out _ (HM9.out.q.trans (hHeld.mono HM9.out.q.size))).mono ?_)
                  rintro e9 V9 ⟨rfl, hb9⟩
                  replace hBP := hBP.below hb9
                  refine hK.out _ _ (hHeld.trans (hb9.mono hHeld.size)) (fun hHeld => ?_)
                  clear hK K hb9
                  try simp only [Act.put, List.getElem_toArray, List.getElem_cons_succ, List.getElem_cons_zero, List.setIfInBounds_toArray, List.set_cons_zero, List.set_cons_succ]
                  refine wpAnyH_ready (rs := [11]) (by kernel_rfl) (by simp) ?_
                  refine AllReadyH.cons rfl (fun K hK => ?_) AllReadyH.nil
                  refine wp_allocI rfl ?_
                  intro gQ csQ VQ hsQ hnQ hBQ hb9
                  have nQ : V0.heap.size ≤ gQ := by have := hnQ.out; have := hHeld.size; omega
                  have ne : gP ≠ gQ := by have := hnQ.out; have := hBP.lt; omega
                  replace hBP := hBP.below hb9
                  refine hK.out _ _ (hHeld.trans (hb9.mono hHeld.size)) (fun hHeld => ?_)
                  clear hK K hb9 hnQ
                  try simp only [Act.put, List.getElem_toArray, List.getElem_cons_succ, List.getElem_cons_zero, List.setIfInBounds_toArray, List.set_cons_zero, List.set_cons_succ]
                  refine wpAnyH_ready (rs := [12]) (by kernel_rfl) (by simp) ?_
                  refine AllReadyH.cons rfl (fun K hK => ?_) AllReadyH.nil
                  refine wp_store_blk 24 _ _ rfl gP _ (idVals P) 24 hBP rfl rfl hzU (by rw [hsP, sU]) h1U ?_
                  clear hBP; intro VSP hBP hg9
                  replace hBQ := blk_gM hBQ hg9 ne.symm
                  refine hK.out _ _ (hHeld.grown hg9 hHeld.size (fun q hq => by have := Option.some.inj hq; omega)) (fun hHeld => ?_)
                  clear hK K hg9
                  try simp only [Act.put, List.getElem_toArray, List.getElem_cons_succ, List.getElem_cons_zero, List.setIfInBounds_toArray, List.set_cons_zero, List.set_cons_succ]
                  refine wpAnyH_ready (rs := [13]) (by kernel_rfl) (by simp) ?_
                  refine AllReadyH.cons rfl (fun K hK => ?_) AllReadyH.nil
                  refine wp_store_blk 24 _ _ rfl gQ _ (idVals Q) 24 hBQ rfl rfl hzV (by rw [hsQ, sV]) h1V ?_
                  clear hBQ; intro VSQ hBQ hg9
                  replace hBP := blk_gM hBP hg9 ne
                  refine hK.out _ _ (hHeld.grown hg9 hHeld.size (fun q hq => by have := Option.some.inj hq; omega)) (fun hHeld => ?_)
                  clear hK K hg9
                  try simp only [Act.put, List.getElem_toArray, List.getElem_cons_succ, List.getElem_cons_zero, List.setIfInBounds_toArray, List.set_cons_zero, List.set_cons_succ]
                  refine wpAnyH_done (by kernel_rfl) ?_ _
                  go_wp2_with (fail)
                  go_meet
                  exact ⟨gP, gQ, rfl, rfl, hBP, hBQ, HDR.out.trans (hHeld.mono HDR.out.size)⟩
              · as_aux_lemma =>
                  refine wp_allocI rfl ?_
                  intro gQ csQ VQ hsQ hnQ hBQ hb9
                  have nQ : V0.heap.size ≤ gQ := by have := hnQ.out; have := hHeld.size; omega
                  have ne : gP ≠ gQ := by have := hnQ.out; have := hBP.lt; omega
                  replace hBP := hBP.below hb9
                  refine hK.out _ _ (hHeld.trans (hb9.mono hHeld.size)) (fun hHeld => ?_)
                  clear hK K hb9 hnQ
                  try simp only [Act.put, List.getElem_toArray, List.getElem_cons_succ, List.getElem_cons_zero, List.setIfInBounds_toArray, List.set_cons_zero, List.set_cons_succ]
                  refine wpAnyH_ready (rs := [9]) (by kernel_rfl) (by simp) ?_
                  refine AllReadyH.cons rfl (fun K hK => ?_) AllReadyH.nil
                  go_simp
                  (with_reducible refine (HRb.out _ (HM9.out.q.trans (hHeld.mono HM9.out.q.size))).mono ?_)
                  rintro e9 V9 ⟨rfl, hb9⟩
                  replace hBP := hBP.below hb9
                  replace hBQ := hBQ.below hb9
                  refine hK.out _ _ (hHeld.trans (hb9.mono hHeld.size)) (fun hHeld => ?_)
                  clear hK K hb9
                  try simp only [Act.put, List.getElem_toArray, List.getElem_cons_succ, List.getElem_cons_zero, List.setIfInBounds_toArray, List.set_cons_zero, List.set_cons_succ]
                  refine wpAnyH_ready (rs := [12]) (by kernel_rfl) (by simp) ?_
                  refine AllReadyH.cons rfl (fun K hK => ?_) AllReadyH.nil
                  refine wp_store_blk 24 _ _ rfl gP _ (idVals P) 24 hBP rfl rfl hzU (by rw [hsP, sU]) h1U ?_
                  clear hBP; intro VSP hBP hg9
                  replace hBQ := blk_gM hBQ hg9 ne.symm
                  refine hK.out _ _ (hHeld.grown hg9 hHeld.size (fun q hq => by have := Option.some.inj hq; omega)) (fun hHeld => ?_)
                  clear hK K hg9
                  try simp only [Act.put, List.getElem_toArray, List.getElem_cons_succ, List.getElem_cons_zero, List.setIfInBounds_toArray, List.set_cons_zero, List.set_cons_succ]
                  refine wpAnyH_ready (rs := [13]) (by kernel_rfl) (by simp) ?_
                  refine AllReadyH.cons rfl (fun K hK => ?_) AllReadyH.nil
                  refine wp_store_blk 24 _ _ rfl gQ _ (idVals Q) 24 hBQ rfl rfl hzV (by rw [hsQ, sV]) h1V ?_
                  clear hBQ; intro VSQ hBQ hg9
                  replace hBP := blk_gM hBP hg9 ne
                  refine hK.out _ _ (hHeld.grown hg9 hHeld.size (fun q hq => by have := Option.some.inj hq; omega)) (fun hHeld => ?_)
                  clear hK K hg9
                  try simp only [Act.put, List.getElem_toArray, List.getElem_cons_succ, List.getElem_cons_zero, List.setIfInBounds_toArray, List.set_cons_zero, List.set_cons_succ]
                  refine wpAnyH_done (by kernel_rfl) ?_ _
                  go_wp2_with (fail)
                  go_meet
                  exact ⟨gP, gQ, rfl, rfl, hBP, hBQ, HDR.out.trans (hHeld.mono HDR.out.size)⟩
          · as_aux_lemma =>
              refine wp_allocI rfl ?_
              intro gQ csQ VQ hsQ hnQ hBQ hb9
              have nQ : V0.heap.size ≤ gQ := by have := hnQ.out; have := hHeld.size; omega
              refine hK.out _ _ (hHeld.trans (hb9.mono hHeld.size)) (fun hHeld => ?_)
              clear hK K hb9 hnQ
              try simp only [Act.put, List.getElem_toArray, List.getElem_cons_succ, List.getElem_cons_zero, List.setIfInBounds_toArray, List.set_cons_zero, List.set_cons_succ]
              refine wpAnyH_ready (rs := [9, 10]) (by kernel_rfl) (by simp) ?_
              refine AllReadyH.cons rfl (fun K hK => ?_) (AllReadyH.cons rfl (fun K hK => ?_) AllReadyH.nil)
              · as_aux_lemma =>
                  go_simp
                  (with_reducible refine (HRb.out _ (HM9.out.q.trans (hHeld.mono HM9.out.q.size))).mono ?_)
                  rintro e9 V9 ⟨rfl, hb9⟩
                  replace hBQ := hBQ.below hb9
                  refine hK.out _ _ (hHeld.trans (hb9.mono hHeld.size)) (fun hHeld => ?_)
                  clear hK K hb9
                  try simp only [Act.put, List.getElem_toArray, List.getElem_cons_succ, List.getElem_cons_zero, List.setIfInBounds_toArray, List.set_cons_zero, List.set_cons_succ]
                  refine wpAnyH_ready (rs := [10]) (by kernel_rfl) (by simp) ?_
                  refine AllReadyH.cons rfl (fun K hK => ?_) AllReadyH.nil
                  refine wp_allocI rfl ?_
                  intro gP csP VP hsP hnP hBP hb9
                  have nP : V0.heap.size ≤ gP := by have := hnP.out; have := hHeld.size; omega
                  have ne : gP ≠ gQ := by have := hnP.out; have := hBQ.lt; omega
                  replace hBQ := hBQ.below hb9
                  refine hK.out _ _ (hHeld.trans (hb9.mono hHeld.size)) (fun hHeld => ?_)
                  clear hK K hb9 hnP
                  try simp only [Act.put, List.getElem_toArray, List.getElem_cons_succ, List.getElem_cons_zero, List.setIfInBounds_toArray, List.set_cons_zero, List.set_cons_succ]
                  refine wpAnyH_ready (rs := [12]) (by kernel_rfl) (by simp) ?_
                  refine AllReadyH.cons rfl (fun K hK => ?_) AllReadyH.nil
                  refine wp_store_blk 24 _ _ rfl gP _ (idVals P) 24 hBP rfl rfl hzU (by rw [hsP, sU]) h1U ?_
                  clear hBP; intro VSP hBP hg9
                  replace hBQ := blk_gM hBQ hg9 ne.symm
                  refine hK.out _ _ (hHeld.grown hg9 hHeld.size (fun q hq => by have := Option.some.inj hq; omega)) (fun hHeld => ?_)
                  clear hK K hg9
                  try simp only [Act.put, List.getElem_toArray, List.getElem_cons_succ, List.getElem_cons_zero, List.setIfInBounds_toArray, List.set_cons_zero, List.set_cons_succ]
                  refine wpAnyH_ready (rs := [13]) (by kernel_rfl) (by simp) ?_
                  refine AllReadyH.cons rfl (fun K hK => ?_) AllReadyH.nil
                  refine wp_store_blk 24 _ _ rfl gQ _ (idVals Q) 24 hBQ rfl rfl hzV (by rw [hsQ, sV]) h1V ?_
                  clear hBQ; intro VSQ hBQ hg9
                  replace hBP := blk_gM hBP hg9 ne
                  refine hK.out _ _ (hHeld.grown hg9 hHeld.size (fun q hq => by have := Option.some.inj hq; omega)) (fun hHeld => ?_)
                  clear hK K hg9
                  try simp only [Act.put, List.getElem_toArray, List.getElem_cons_succ, List.getElem_cons_zero, List.setIfInBounds_toArray, List.set_cons_zero, List.set_cons_succ]
                  refine wpAnyH_done (by kernel_rfl) ?_ _
                  go_wp2_with (fail)
                  go_meet
                  exact ⟨gP, gQ, rfl, rfl, hBP, hBQ, HDR.out.trans (hHeld.mono HDR.out.size)⟩
              · as_aux_lemma =>
                  refine wp_allocI rfl ?_
                  intro gP csP VP hsP hnP hBP hb9
                  have nP : V0.heap.size ≤ gP := by have := hnP.out; have := hHeld.size; omega
                  have ne : gP ≠ gQ := by have := hnP.out; have := hBQ.lt; omega
                  replace hBQ := hBQ.below hb9
                  refine hK.out _ _ (hHeld.trans (hb9.mono hHeld.size)) (fun hHeld => ?_)
                  clear hK K hb9 hnP
                  try simp only [Act.put, List.getElem_toArray, List.getElem_cons_succ, List.getElem_cons_zero, List.setIfInBounds_toArray, List.set_cons_zero, List.set_cons_succ]
                  refine wpAnyH_ready (rs := [9]) (by kernel_rfl) (by simp) ?_
                  refine AllReadyH.cons rfl (fun K hK => ?_) AllReadyH.nil
                  go_simp
                  (with_reducible refine (HRb.out _ (HM9.out.q.trans (hHeld.mono HM9.out.q.size))).mono ?_)
                  rintro e9 V9 ⟨rfl, hb9⟩
                  replace hBQ := hBQ.below hb9
                  replace hBP := hBP.below hb9
                  refine hK.out _ _ (hHeld.trans (hb9.mono hHeld.size)) (fun hHeld => ?_)
                  clear hK K hb9
                  try simp only [Act.put, List.getElem_toArray, List.getElem_cons_succ, List.getElem_cons_zero, List.setIfInBounds_toArray, List.set_cons_zero, List.set_cons_succ]
                  refine wpAnyH_ready (rs := [12]) (by kernel_rfl) (by simp) ?_
                  refine AllReadyH.cons rfl (fun K hK => ?_) AllReadyH.nil
                  refine wp_store_blk 24 _ _ rfl gP _ (idVals P) 24 hBP rfl rfl hzU (by rw [hsP, sU]) h1U ?_
                  clear hBP; intro VSP hBP hg9
                  replace hBQ := blk_gM hBQ hg9 ne.symm
                  refine hK.out _ _ (hHeld.grown hg9 hHeld.size (fun q hq => by have := Option.some.inj hq; omega)) (fun hHeld => ?_)
                  clear hK K hg9
                  try simp only [Act.put, List.getElem_toArray, List.getElem_cons_succ, List.getElem_cons_zero, List.setIfInBounds_toArray, List.set_cons_zero, List.set_cons_succ]
                  refine wpAnyH_ready (rs := [13]) (by kernel_rfl) (by simp) ?_
                  refine AllReadyH.cons rfl (fun K hK => ?_) AllReadyH.nil
                  refine wp_store_blk 24 _ _ rfl gQ _ (idVals Q) 24 hBQ rfl rfl hzV (by rw [hsQ, sV]) h1V ?_
                  clear hBQ; intro VSQ hBQ hg9
                  replace hBP := blk_gM hBP hg9 ne
                  refine hK.out _ _ (hHeld.grown hg9 hHeld.size (fun q hq => by have := Option.some.inj hq; omega)) (fun hHeld => ?_)
                  clear hK K hg9
                  try simp only [Act.put, List.getElem_toArray, List.getElem_cons_succ, List.getElem_cons_zero, List.setIfInBounds_toArray, List.set_cons_zero, List.set_cons_succ]
                  refine wpAnyH_done (by kernel_rfl) ?_ _
                  go_wp2_with (fail)
                  go_meet
                  exact ⟨gP, gQ, rfl, rfl, hBP, hBQ, HDR.out.trans (hHeld.mono HDR.out.size)⟩
      · as_aux_lemma =>
          refine wp_allocI rfl ?_
          intro gP csP VP hsP hnP hBP hb9
          have nP : V0.heap.size ≤ gP := by have := hnP.out; have := hHeld.size; omega
          refine hK.out _ _ (hHeld.trans (hb9.mono hHeld.size)) (fun hHeld => ?_)
          clear hK K hb9 hnP
          try simp only [Act.put, List.getElem_toArray, List.getElem_cons_succ, List.getElem_cons_zero, List.setIfInBounds_toArray, List.set_cons_zero, List.set_cons_succ]
          refine wpAnyH_ready (rs := [4, 11]) (by kernel_rfl) (by simp) ?_
          refine AllReadyH.cons rfl (fun K hK => ?_) (AllReadyH.cons rfl (fun K hK => ?_) AllReadyH.nil)
          · as_aux_lemma =>
              go_simp
              (with_reducible refine (HRa.out _ (HM9.out.q.trans (hHeld.mono HM9.out.q.size))).mono ?_)
              rintro e9 V9 ⟨rfl, hb9⟩
              replace hBP := hBP.below hb9
              refine hK.out _ _ (hHeld.trans (hb9.mono hHeld.size)) (fun hHeld => ?_)
              clear hK K hb9
              try simp only [Act.put, List.getElem_toArray, List.getElem_cons_succ, List.getElem_cons_zero, List.setIfInBounds_toArray, List.set_cons_zero, List.set_cons_succ]
              refine wpAnyH_ready (rs := [9, 11]) (by kernel_rfl) (by simp) ?_
              refine AllReadyH.cons rfl (fun K hK => ?_) (AllReadyH.cons rfl (fun K hK => ?_) AllReadyH.nil)
              · as_aux_lemma =>
                  go_simp
                  (with_reducible refine (HRb.out _ (HM9.out.q.trans (hHeld.mono HM9.out.q.size))).mono ?_)
                  rintro e9 V9 ⟨rfl, hb9⟩
                  replace hBP := hBP.below hb9
                  refine hK.out _ _ (hHeld.trans (hb9.mono hHeld.size)) (fun hHeld => ?_)
                  clear hK K hb9
                  try simp only [Act.put, List.getElem_toArray, List.getElem_cons_succ, List.getElem_cons_zero, List.setIfInBounds_toArray, List.set_cons_zero, List.set_cons_succ]
                  refine wpAnyH_ready (rs := [11]) (by kernel_rfl) (by simp) ?_
                  refine AllReadyH.cons rfl (fun K hK => ?_) AllReadyH.nil
                  refine wp_allocI rfl ?_
                  intro gQ csQ VQ hsQ hnQ hBQ hb9
                  have nQ : V0.heap.size ≤ gQ := by have := hnQ.out; have := hHeld.size; omega
                  have ne : gP ≠ gQ := by have := hnQ.out; have := hBP.lt; omega
                  replace hBP := hBP.below hb9
                  refine hK.out _ _ (hHeld.trans (hb9.mono hHeld.size)) (fun hHeld => ?_)
                  clear hK K hb9 hnQ
                  try simp only [Act.put, List.getElem_toArray, List.getElem_cons_succ, List.getElem_cons_zero, List.setIfInBounds_toArray, List.set_cons_zero, List.set_cons_succ]
                  refine wpAnyH_ready (rs := [12]) (by kernel_rfl) (by simp) ?_
                  refine AllReadyH.cons rfl (fun K hK => ?_) AllReadyH.nil
                  refine wp_store_blk 24 _ _ rfl gP _ (idVals P) 24 hBP rfl rfl hzU (by rw [hsP, sU]) h1U ?_
                  clear hBP; intro VSP hBP hg9
                  replace hBQ := blk_gM hBQ hg9 ne.symm
                  refine hK.out _ _ (hHeld.grown hg9 hHeld.size (fun q hq => by have := Option.some.inj hq; omega)) (fun hHeld => ?_)
                  clear hK K hg9
                  try simp only [Act.put, List.getElem_toArray, List.getElem_cons_succ, List.getElem_cons_zero, List.setIfInBounds_toArray, List.set_cons_zero, List.set_cons_succ]
                  refine wpAnyH_ready (rs := [13]) (by kernel_rfl) (by simp) ?_
                  refine AllReadyH.cons rfl (fun K hK => ?_) AllReadyH.nil
                  refine wp_store_blk 24 _ _ rfl gQ _ (idVals Q) 24 hBQ rfl rfl hzV (by rw [hsQ, sV]) h1V ?_
                  clear hBQ; intro VSQ hBQ hg9
                  replace hBP := blk_gM hBP hg9 ne
                  refine hK.out _ _ (hHeld.grown hg9 hHeld.size (fun q hq => by have := Option.some.inj hq; omega)) (fun hHeld => ?_)
                  clear hK K hg9
                  try simp only [Act.put, List.getElem_toArray, List.getElem_cons_succ, List.getElem_cons_zero, List.setIfInBounds_toArray, List.set_cons_zero, List.set_cons_succ]
                  refine wpAnyH_done (by kernel_rfl) ?_ _
                  go_wp2_with (fail)
                  go_meet
                  exact ⟨gP, gQ, rfl, rfl, hBP, hBQ, HDR.out.trans (hHeld.mono HDR.out.size)⟩
              · as_aux_lemma =>
                  refine wp_allocI rfl ?_
                  intro gQ csQ VQ hsQ hnQ hBQ hb9
                  have nQ : V0.heap.size ≤ gQ := by have := hnQ.out; have := hHeld.size; omega
                  have ne : gP ≠ gQ := by have := hnQ.out; have := hBP.lt; omega
                  replace hBP := hBP.below hb9
                  refine hK.out _ _ (hHeld.trans (hb9.mono hHeld.size)) (fun hHeld => ?_)
                  clear hK K hb9 hnQ
                  try simp only [Act.put, List.getElem_toArray, List.getElem_cons_succ, List.getElem_cons_zero, List.setIfInBounds_toArray, List.set_cons_zero, List.set_cons_succ]
                  refine wpAnyH_ready (rs := [9]) (by kernel_rfl) (by simp) ?_
                  refine AllReadyH.cons rfl (fun K hK => ?_) AllReadyH.nil
                  go_simp
                  (with_reducible refine (HRb.out _ (HM9.out.q.trans (hHeld.mono HM9.out.q.size))).mono ?_)
                  rintro e9 V9 ⟨rfl, hb9⟩
                  replace hBP := hBP.below hb9
                  replace hBQ := hBQ.below hb9
                  refine hK.out _ _ (hHeld.trans (hb9.mono hHeld.size)) (fun hHeld => ?_)
                  clear hK K hb9
                  try simp only [Act.put, List.getElem_toArray, List.getElem_cons_succ, List.getElem_cons_zero, List.setIfInBounds_toArray, List.set_cons_zero, List.set_cons_succ]
                  refine wpAnyH_ready (rs := [12]) (by kernel_rfl) (by simp) ?_
                  refine AllReadyH.cons rfl (fun K hK => ?_) AllReadyH.nil
                  refine wp_store_blk 24 _ _ rfl gP _ (idVals P) 24 hBP rfl rfl hzU (by rw [hsP, sU]) h1U ?_
                  clear hBP; intro VSP hBP hg9
                  replace hBQ := blk_gM hBQ hg9 ne.symm
                  refine hK.out _ _ (hHeld.grown hg9 hHeld.size (fun q hq => by have := Option.some.inj hq; omega)) (fun hHeld => ?_)
                  clear hK K hg9
                  try simp only [Act.put, List.getElem_toArray, List.getElem_cons_succ, List.getElem_cons_zero, List.setIfInBounds_toArray, List.set_cons_zero, List.set_cons_succ]
                  refine wpAnyH_ready (rs := [13]) (by kernel_rfl) (by simp) ?_
                  refine AllReadyH.cons rfl (fun K hK => ?_) AllReadyH.nil
                  refine wp_store_blk 24 _ _ rfl gQ _ (idVals Q) 24 hBQ rfl rfl hzV (by rw [hsQ, sV]) h1V ?_
                  clear hBQ; intro VSQ hBQ hg9
                  replace hBP := blk_gM hBP hg9 ne
                  refine hK.out _ _ (hHeld.grown hg9 hHeld.size (fun q hq => by have := Option.some.inj hq; omega)) (fun hHeld => ?_)
                  clear hK K hg9
                  try simp only [Act.put, List.getElem_toArray, List.getElem_cons_succ, List.getElem_cons_zero, List.setIfInBounds_toArray, List.set_cons_zero, List.set_cons_succ]
                  refine wpAnyH_done (by kernel_rfl) ?_ _
                  go_wp2_with (fail)
                  go_meet
                  exact ⟨gP, gQ, rfl, rfl, hBP, hBQ, HDR.out.trans (hHeld.mono HDR.out.size)⟩
          · as_aux_lemma =>
              refine wp_allocI rfl ?_
              intro gQ csQ VQ hsQ hnQ hBQ hb9
              have nQ : V0.heap.size ≤ gQ := by have := hnQ.out; have := hHeld.size; omega
              have ne : gP ≠ gQ := by have := hnQ.out; have := hBP.lt; omega
              replace hBP := hBP.below hb9
              refine hK.out _ _ (hHeld.trans (hb9.mono hHeld.size)) (fun hHeld => ?_)
              clear hK K hb9 hnQ
              try simp only [Act.put, List.getElem_toArray, List.getElem_cons_succ, List.getElem_cons_zero, List.setIfInBounds_toArray, List.set_cons_zero, List.set_cons_succ]
              refine wpAnyH_ready (rs := [4]) (by kernel_rfl) (by simp) ?_
              refine AllReadyH.cons rfl (fun K hK => ?_) AllReadyH.nil
              go_simp
              (with_reducible refine (HRa.out _ (HM9.out.q.trans (hHeld.mono HM9.out.q.size))).mono ?_)
              rintro e9 V9 ⟨rfl, hb9⟩
              replace hBP := hBP.below hb9
              replace hBQ := hBQ.below hb9
              refine hK.out _ _ (hHeld.trans (hb9.mono hHeld.size)) (fun hHeld => ?_)
              clear hK K hb9
              try simp only [Act.put, List.getElem_toArray, List.getElem_cons_succ, List.getElem_cons_zero, List.setIfInBounds_toArray, List.set_cons_zero, List.set_cons_succ]
              refine wpAnyH_ready (rs := [9]) (by kernel_rfl) (by simp) ?_
              refine AllReadyH.cons rfl (fun K hK => ?_) AllReadyH.nil
              go_simp
              (with_reducible refine (HRb.out _ (HM9.out.q.trans (hHeld.mono HM9.out.q.size))).mono ?_)
              rintro e9 V9 ⟨rfl, hb9⟩
              replace hBP := hBP.below hb9
              replace hBQ := hBQ.below hb9
              refine hK.out _ _ (hHeld.trans (hb9.mono hHeld.size)) (fun hHeld => ?_)
              clear hK K hb9
              try simp only [Act.put, List.getElem_toArray, List.getElem_cons_succ, List.getElem_cons_zero, List.setIfInBounds_toArray, List.set_cons_zero, List.set_cons_succ]
              refine wpAnyH_ready (rs := [12]) (by kernel_rfl) (by simp) ?_
              refine AllReadyH.cons rfl (fun K hK => ?_) AllReadyH.nil
              refine wp_store_blk 24 _ _ rfl gP _ (idVals P) 24 hBP rfl rfl hzU (by rw [hsP, sU]) h1U ?_
              clear hBP; intro VSP hBP hg9
              replace hBQ := blk_gM hBQ hg9 ne.symm
              refine hK.out _ _ (hHeld.grown hg9 hHeld.size (fun q hq => by have := Option.some.inj hq; omega)) (fun hHeld => ?_)
              clear hK K hg9
              try simp only [Act.put, List.getElem_toArray, List.getElem_cons_succ, List.getElem_cons_zero, List.setIfInBounds_toArray, List.set_cons_zero, List.set_cons_succ]
              refine wpAnyH_ready (rs := [13]) (by kernel_rfl) (by simp) ?_
              refine AllReadyH.cons rfl (fun K hK => ?_) AllReadyH.nil
              refine wp_store_blk 24 _ _ rfl gQ _ (idVals Q) 24 hBQ rfl rfl hzV (by rw [hsQ, sV]) h1V ?_
              clear hBQ; intro VSQ hBQ hg9
              replace hBP := blk_gM hBP hg9 ne
              refine hK.out _ _ (hHeld.grown hg9 hHeld.size (fun q hq => by have := Option.some.inj hq; omega)) (fun hHeld => ?_)
              clear hK K hg9
              try simp only [Act.put, List.getElem_toArray, List.getElem_cons_succ, List.getElem_cons_zero, List.setIfInBounds_toArray, List.set_cons_zero, List.set_cons_succ]
              refine wpAnyH_done (by kernel_rfl) ?_ _
              go_wp2_with (fail)
              go_meet
              exact ⟨gP, gQ, rfl, rfl, hBP, hBQ, HDR.out.trans (hHeld.mono HDR.out.size)⟩
      · as_aux_lemma =>
          refine wp_allocI rfl ?_
          intro gQ csQ VQ hsQ hnQ hBQ hb9
          have nQ : V0.heap.size ≤ gQ := by have := hnQ.out; have := hHeld.size; omega
          refine hK.out _ _ (hHeld.trans (hb9.mono hHeld.size)) (fun hHeld => ?_)
          clear hK K hb9 hnQ
          try simp only [Act.put, List.getElem_toArray, List.getElem_cons_succ, List.getElem_cons_zero, List.setIfInBounds_toArray, List.set_cons_zero, List.set_cons_succ]
          refine wpAnyH_ready (rs := [4, 10]) (by kernel_rfl) (by simp) ?_
          refine AllReadyH.cons rfl (fun K hK => ?_) (AllReadyH.cons rfl (fun K hK => ?_) AllReadyH.nil)
          · as_aux_lemma =>
              go_simp
              (with_reducible refine (HRa.out _ (HM9.out.q.trans (hHeld.mono HM9.out.q.size))).mono ?_)
              rintro e9 V9 ⟨rfl, hb9⟩
              replace hBQ := hBQ.below hb9
              refine hK.out _ _ (hHeld.trans (hb9.mono hHeld.size)) (fun hHeld => ?_)
              clear hK K hb9
              try simp only [Act.put, List.getElem_toArray, List.getElem_cons_succ, List.getElem_cons_zero, List.setIfInBounds_toArray, List.set_cons_zero, List.set_cons_succ]
              refine wpAnyH_ready (rs := [9, 10]) (by kernel_rfl) (by simp) ?_
              refine AllReadyH.cons rfl (fun K hK => ?_) (AllReadyH.cons rfl (fun K hK => ?_) AllReadyH.nil)
              · as_aux_lemma =>
                  go_simp
                  (with_reducible refine (HRb.out _ (HM9.out.q.trans (hHeld.mono HM9.out.q.size))).mono ?_)
                  rintro e9 V9 ⟨rfl, hb9⟩
                  replace hBQ := hBQ.below hb9
                  refine hK.out _ _ (hHeld.trans (hb9.mono hHeld.size)) (fun hHeld => ?_)
                  clear hK K hb9
                  try simp only [Act.put, List.getElem_toArray, List.getElem_cons_succ, List.getElem_cons_zero, List.setIfInBounds_toArray, List.set_cons_zero, List.set_cons_succ]
                  refine wpAnyH_ready (rs := [10]) (by kernel_rfl) (by simp) ?_
                  refine AllReadyH.cons rfl (fun K hK => ?_) AllReadyH.nil
                  refine wp_allocI rfl ?_
                  intro gP csP VP hsP hnP hBP hb9
                  have nP : V0.heap.size ≤ gP := by have := hnP.out; have := hHeld.size; omega
                  have ne : gP ≠ gQ := by have := hnP.out; have := hBQ.lt; omega
                  replace hBQ := hBQ.below hb9
                  refine hK.out _ _ (hHeld.trans (hb9.mono hHeld.size)) (fun hHeld => ?_)
                  clear hK K hb9 hnP
                  try simp only [Act.put, List.getElem_toArray, List.getElem_cons_succ, List.getElem_cons_zero, List.setIfInBounds_toArray, List.set_cons_zero, List.set_cons_succ]
                  refine wpAnyH_ready (rs := [12]) (by kernel_rfl) (by simp) ?_
                  refine AllReadyH.cons rfl (fun K hK => ?_) AllReadyH.nil
                  refine wp_store_blk 24 _ _ rfl gP _ (idVals P) 24 hBP rfl rfl hzU (by rw [hsP, sU]) h1U ?_
                  clear hBP; intro VSP hBP hg9
                  replace hBQ := blk_gM hBQ hg9 ne.symm
                  refine hK.out _ _ (hHeld.grown hg9 hHeld.size (fun q hq => by have := Option.some.inj hq; omega)) (fun hHeld => ?_)
                  clear hK K hg9
                  try simp only [Act.put, List.getElem_toArray, List.getElem_cons_succ, List.getElem_cons_zero, List.setIfInBounds_toArray, List.set_cons_zero, List.set_cons_succ]
                  refine wpAnyH_ready (rs := [13]) (by kernel_rfl) (by simp) ?_
                  refine AllReadyH.cons rfl (fun K hK => ?_) AllReadyH.nil
                  refine wp_store_blk 24 _ _ rfl gQ _ (idVals Q) 24 hBQ rfl rfl hzV (by rw [hsQ, sV]) h1V ?_
                  clear hBQ; intro VSQ hBQ hg9
                  replace hBP := blk_gM hBP hg9 ne
                  refine hK.out _ _ (hHeld.grown hg9 hHeld.size (fun q hq => by have := Option.some.inj hq; omega)) (fun hHeld => ?_)
                  clear hK K hg9
                  try simp only [Act.put, List.getElem_toArray, List.getElem_cons_succ, List.getElem_cons_zero, List.setIfInBounds_toArray, List.set_cons_zero, List.set_cons_succ]
                  refine wpAnyH_done (by kernel_rfl) ?_ _
                  go_wp2_with (fail)
                  go_meet
                  exact ⟨gP, gQ, rfl, rfl, hBP, hBQ, HDR.out.trans (hHeld.mono HDR.out.size)⟩
              · as_aux_lemma =>
                  refine wp_allocI rfl ?_
                  intro gP csP VP hsP hnP hBP hb9
                  have nP : V0.heap.size ≤ gP := by have := hnP.out; have := hHeld.size; omega
                  have ne : gP ≠ gQ := by have := hnP.out; have := hBQ.lt; omega
                  replace hBQ := hBQ.below hb9
                  refine hK.out _ _ (hHeld.trans (hb9.mono hHeld.size)) (fun hHeld => ?_)
                  clear hK K hb9 hnP
                  try simp only [Act.put, List.getElem_toArray, List.getElem_cons_succ, List.getElem_cons_zero, List.setIfInBounds_toArray, List.set_cons_zero, List.set_cons_succ]
                  refine wpAnyH_ready (rs := [9]) (by kernel_rfl) (by simp) ?_
                  refine AllReadyH.cons rfl (fun K hK => ?_) AllReadyH.nil
                  go_simp
                  (with_reducible refine (HRb.out _ (HM9.out.q.trans (hHeld.mono HM9.out.q.size))).mono ?_)
                  rintro e9 V9 ⟨rfl, hb9⟩
                  replace hBQ := hBQ.below hb9
                  replace hBP := hBP.below hb9
                  refine hK.out _ _ (hHeld.trans (hb9.mono hHeld.size)) (fun hHeld => ?_)
                  clear hK K hb9
                  try simp only [Act.put, List.getElem_toArray, List.getElem_cons_succ, List.getElem_cons_zero, List.setIfInBounds_toArray, List.set_cons_zero, List.set_cons_succ]
                  refine wpAnyH_ready (rs := [12]) (by kernel_rfl) (by simp) ?_
                  refine AllReadyH.cons rfl (fun K hK => ?_) AllReadyH.nil
                  refine wp_store_blk 24 _ _ rfl gP _ (idVals P) 24 hBP rfl rfl hzU (by rw [hsP, sU]) h1U ?_
                  clear hBP; intro VSP hBP hg9
                  replace hBQ := blk_gM hBQ hg9 ne.symm
                  refine hK.out _ _ (hHeld.grown hg9 hHeld.size (fun q hq => by have := Option.some.inj hq; omega)) (fun hHeld => ?_)
                  clear hK K hg9
                  try simp only [Act.put, List.getElem_toArray, List.getElem_cons_succ, List.getElem_cons_zero, List.setIfInBounds_toArray, List.set_cons_zero, List.set_cons_succ]
                  refine wpAnyH_ready (rs := [13]) (by kernel_rfl) (by simp) ?_
                  refine AllReadyH.cons rfl (fun K hK => ?_) AllReadyH.nil
                  refine wp_store_blk 24 _ _ rfl gQ _ (idVals Q) 24 hBQ rfl rfl hzV (by rw [hsQ, sV]) h1V ?_
                  clear hBQ; intro VSQ hBQ hg9
                  replace hBP := blk_gM hBP hg9 ne
                  refine hK.out _ _ (hHeld.grown hg9 hHeld.size (fun q hq => by have := Option.some.inj hq; omega)) (fun hHeld => ?_)
                  clear hK K hg9
                  try simp only [Act.put, List.getElem_toArray, List.getElem_cons_succ, List.getElem_cons_zero, List.setIfInBounds_toArray, List.set_cons_zero, List.set_cons_succ]
                  refine wpAnyH_done (by kernel_rfl) ?_ _
                  go_wp2_with (fail)
                  go_meet
                  exact ⟨gP, gQ, rfl, rfl, hBP, hBQ, HDR.out.trans (hHeld.mono HDR.out.size)⟩
          · as_aux_lemma =>
              refine wp_allocI rfl ?_
              intro gP csP VP hsP hnP hBP hb9
              have nP : V0.heap.size ≤ gP := by have := hnP.out; have := hHeld.size; omega
              have ne : gP ≠ gQ := by have := hnP.out; have := hBQ.lt; omega
              replace hBQ := hBQ.below hb9
              refine hK.out _ _ (hHeld.trans (hb9.mono hHeld.size)) (fun hHeld => ?_)
              clear hK K hb9 hnP
              try simp only [Act.put, List.getElem_toArray, List.getElem_cons_succ, List.getElem_cons_zero, List.setIfInBounds_toArray, List.set_cons_zero, List.set_cons_succ]
              refine wpAnyH_ready (rs := [4]) (by kernel_rfl) (by simp) ?_
              refine AllReadyH.cons rfl (fun K hK => ?_) AllReadyH.nil
              go_simp
              (with_reducible refine (HRa.out _ (HM9.out.q.trans (hHeld.mono HM9.out.q.size))).mono ?_)
              rintro e9 V9 ⟨rfl, hb9⟩
              replace hBQ := hBQ.below hb9
              replace hBP := hBP.below hb9
              refine hK.out _ _ (hHeld.trans (hb9.mono hHeld.size)) (fun hHeld => ?_)
              clear hK K hb9
              try simp only [Act.put, List.getElem_toArray, List.getElem_cons_succ, List.getElem_cons_zero, List.setIfInBounds_toArray, List.set_cons_zero, List.set_cons_succ]
              refine wpAnyH_ready (rs := [9]) (by kernel_rfl) (by simp) ?_
              refine AllReadyH.cons rfl (fun K hK => ?_) AllReadyH.nil
              go_simp
              (with_reducible refine (HRb.out _ (HM9.out.q.trans (hHeld.mono HM9.out.q.size))).mono ?_)
              rintro e9 V9 ⟨rfl, hb9⟩
              replace hBQ := hBQ.below hb9
              replace hBP := hBP.below hb9
              refine hK.out _ _ (hHeld.trans (hb9.mono hHeld.size)) (fun hHeld => ?_)
              clear hK K hb9
              try simp only [Act.put, List.getElem_toArray, List.getElem_cons_succ, List.getElem_cons_zero, List.setIfInBounds_toArray, List.set_cons_zero, List.set_cons_succ]
              refine wpAnyH_ready (rs := [12]) (by kernel_rfl) (by simp) ?_
              refine AllReadyH.cons rfl (fun K hK => ?_) AllReadyH.nil
              refine wp_store_blk 24 _ _ rfl gP _ (idVals P) 24 hBP rfl rfl hzU (by rw [hsP, sU]) h1U ?_
              clear hBP; intro VSP hBP hg9
              replace hBQ := blk_gM hBQ hg9 ne.symm
              refine hK.out _ _ (hHeld.grown hg9 hHeld.size (fun q hq => by have := Option.some.inj hq; omega)) (fun hHeld => ?_)
              clear hK K hg9
              try simp only [Act.put, List.getElem_toArray, List.getElem_cons_succ, List.getElem_cons_zero, List.setIfInBounds_toArray, List.set_cons_zero, List.set_cons_succ]
              refine wpAnyH_ready (rs := [13]) (by kernel_rfl) (by simp) ?_
              refine AllReadyH.cons rfl (fun K hK => ?_) AllReadyH.nil
              refine wp_store_blk 24 _ _ rfl gQ _ (idVals Q) 24 hBQ rfl rfl hzV (by rw [hsQ, sV]) h1V ?_
              clear hBQ; intro VSQ hBQ hg9
              replace hBP := blk_gM hBP hg9 ne
              refine hK.out _ _ (hHeld.grown hg9 hHeld.size (fun q hq => by have := Option.some.inj hq; omega)) (fun hHeld => ?_)
              clear hK K hg9
              try simp only [Act.put, List.getElem_toArray, List.getElem_cons_succ, List.getElem_cons_zero, List.setIfInBounds_toArray, List.set_cons_zero, List.set_cons_succ]
              refine wpAnyH_done (by kernel_rfl) ?_ _
              go_wp2_with (fail)
              go_meet
              exact ⟨gP, gQ, rfl, rfl, hBP, hBQ, HDR.out.trans (hHeld.mono HDR.out.size)⟩
    case rest =>
      obtain ⟨g11, g12, rfl, rfl, h11, h12, hb⟩ := hcut
      have hzU : (Try.prog.info? 24).map (·.size) = some (U.map u8v).length := by rw [List.length_map, HU9.out]; exact sizeId
      have hzV : (Try.prog.info? 24).map (·.size) = some (V.map u8v).length := by rw [List.length_map, HV9.out]; exact sizeId
      have hzP : (Try.prog.info? 24).map (·.size) = some (P.map u8v).length := by rw [List.length_map, HP32.out]; exact sizeId
      have hzQ : (Try.prog.info? 24).map (·.size) = some (Q.map u8v).length := by rw [List.length_map, HQ32.out]; exact sizeId
      replace HM := hid (HM.out.below hb)
      have h9 := H9.out.below hb
      have h10 := H10.out.below hb
      clear hb H9 H10
      have ft := HM.out.t.cell_ (i := 0) rfl
      have z3 : ¬ (x : Int) < (k : Int) := by have := HLOW.out; omega
      have z3b : decide ((x : Int) < (k : Int)) = false := decide_eq_false z3
      have z4 : ¬ x < k := HLOW.out
      have z4b : decide (x < k) = false := decide_eq_false z4
      go_upto_region 5 with (fail)
      clear ft z3 z3b z4 z4b
      have hbd := below_drew1 wc
      replace HM := hid (HM.out.below hbd)
      replace h9 := h9.below hbd
      replace h10 := h10.below hbd
      replace h11 := h11.below hbd
      replace h12 := h12.below hbd
      clear hbd
      have n9 : ga ≠ g9 ∧ ga ≠ g10 ∧ ga ≠ g11 ∧ ga ≠ g12 := ⟨blk_neM HM.out.a h9 (by decide), blk_neM HM.out.a h10 (by decide), blk_neM HM.out.a h11 (by decide), blk_neM HM.out.a h12 (by decide)⟩
      have n8 : gb ≠ g9 ∧ gb ≠ g10 ∧ gb ≠ g11 ∧ gb ≠ g12 := ⟨blk_neM HM.out.b h9 (by decide), blk_neM HM.out.b h10 (by decide), blk_neM HM.out.b h11 (by decide), blk_neM HM.out.b h12 (by decide)⟩
      refine wp_region_held_drew (S := fun W => W.rangeAt g9 0 (U.map u8v) ∧ W.rangeAt g10 0 (V.map u8v) ∧ W.rangeAt g11 0 (P.map u8v) ∧ W.rangeAt g12 0 (Q.map u8v)) (by kernel_rfl) ⟨range_blk h9, range_blk h10, range_blk h11, range_blk h12⟩ (fun hHeld => ?_)
      generalize World.drew _ = V5 at *
      refine' wpAnyH_take (i := 0) (v := _) rfl (by kernel_rfl) (by kernel_rfl) (by kernel_rfl) (fun _ _ _ h => h) (yieldsIf_load_mid (by rfl) 24 _ rfl _ _ rfl (U.map u8v) _ (fun w' h => h.1) hu rfl hzU) hHeld ?_
      try simp only [Act.put, List.getElem_toArray, List.getElem_cons_succ, List.getElem_cons_zero, List.setIfInBounds_toArray, List.set_cons_zero, List.set_cons_succ]
      refine' wpAnyH_take (i := 1) (v := _) rfl (by kernel_rfl) (by kernel_rfl) (by kernel_rfl) (fun _ _ _ h => h) (yieldsIf_load_mid (by rfl) 24 _ rfl _ _ rfl (P.map u8v) _ (fun w' h => h.2.2.1) hu rfl hzP) hHeld ?_
      try simp only [Act.put, List.getElem_toArray, List.getElem_cons_succ, List.getElem_cons_zero, List.setIfInBounds_toArray, List.set_cons_zero, List.set_cons_succ]
      refine' wpAnyH_take (i := 3) (v := _) rfl (by kernel_rfl) (by kernel_rfl) (by kernel_rfl) (fun _ _ _ h => h) (yieldsIf_load_mid (by rfl) 24 _ rfl _ _ rfl (V.map u8v) _ (fun w' h => h.2.1) hu rfl hzV) hHeld ?_
      try simp only [Act.put, List.getElem_toArray, List.getElem_cons_succ, List.getElem_cons_zero, List.setIfInBounds_toArray, List.set_cons_zero, List.set_cons_succ]
      refine' wpAnyH_take (i := 4) (v := _) rfl (by kernel_rfl) (by kernel_rfl) (by kernel_rfl) (fun _ _ _ h => h) (yieldsIf_load_mid (by rfl) 24 _ rfl _ _ rfl (Q.map u8v) _ (fun w' h => h.2.2.2) hu rfl hzQ) hHeld ?_
      try simp only [Act.put, List.getElem_toArray, List.getElem_cons_succ, List.getElem_cons_zero, List.setIfInBounds_toArray, List.set_cons_zero, List.set_cons_succ]
      refine wpAnyH_ready (rs := [2]) (by kernel_rfl) (by simp) ?_
      refine AllReadyH.cons rfl (fun K hK => ?_) AllReadyH.nil
      go_simp
      (with_reducible refine (HJa.out _).mono ?_)
      rintro e9 V9 ⟨rfl, hb9⟩
      replace h9 := h9.below hb9; replace h10 := h10.below hb9; replace h11 := h11.below hb9; replace h12 := h12.below hb9
      replace HM := hid (HM.out.below hb9)
      refine hK.out _ _ ⟨range_blk h9, range_blk h10, range_blk h11, range_blk h12⟩ (fun hHeld => ?_)
      clear hK K hb9
      try simp only [Act.put, List.getElem_toArray, List.getElem_cons_succ, List.getElem_cons_zero, List.setIfInBounds_toArray, List.set_cons_zero, List.set_cons_succ]
      refine wpAnyH_ready (rs := [5]) (by kernel_rfl) (by simp) ?_
      refine AllReadyH.cons rfl (fun K hK => ?_) AllReadyH.nil
      go_simp
      (with_reducible refine (HJb.out _).mono ?_)
      rintro e9 V9 ⟨rfl, hb9⟩
      replace h9 := h9.below hb9; replace h10 := h10.below hb9; replace h11 := h11.below hb9; replace h12 := h12.below hb9
      replace HM := hid (HM.out.below hb9)
      refine hK.out _ _ ⟨range_blk h9, range_blk h10, range_blk h11, range_blk h12⟩ (fun hHeld => ?_)
      clear hK K hb9
      try simp only [Act.put, List.getElem_toArray, List.getElem_cons_succ, List.getElem_cons_zero, List.setIfInBounds_toArray, List.set_cons_zero, List.set_cons_succ]
      refine wpAnyH_ready (rs := [6]) (by kernel_rfl) (by simp) ?_
      refine AllReadyH.cons rfl (fun K hK => ?_) AllReadyH.nil
      refine wp_store_stM _ _ rfl ga _ HM.out.a (txt S2) rfl rfl ?_
      intro V10 hB10 hg10
      replace h9 := blk_gM h9 hg10 n9.1.symm
      replace h10 := blk_gM h10 hg10 n9.2.1.symm
      replace h11 := blk_gM h11 hg10 n9.2.2.1.symm
      replace h12 := blk_gM h12 hg10 n9.2.2.2.symm
      replace HM := hid (HM.out.putA hB10 hg10)
      refine hK.out _ _ ⟨range_blk h9, range_blk h10, range_blk h11, range_blk h12⟩ (fun hHeld => ?_)
      clear hK K hB10 hg10
      try simp only [Act.put, List.getElem_toArray, List.getElem_cons_succ, List.getElem_cons_zero, List.setIfInBounds_toArray, List.set_cons_zero, List.set_cons_succ]
      refine wpAnyH_ready (rs := [7]) (by kernel_rfl) (by simp) ?_
      refine AllReadyH.cons rfl (fun K hK => ?_) AllReadyH.nil
      refine wp_store_stM _ _ rfl gb _ HM.out.b (txt T2) rfl rfl ?_
      intro V10 hB10 hg10
      replace h9 := blk_gM h9 hg10 n8.1.symm
      replace h10 := blk_gM h10 hg10 n8.2.1.symm
      replace h11 := blk_gM h11 hg10 n8.2.2.1.symm
      replace h12 := blk_gM h12 hg10 n8.2.2.2.symm
      replace HM := hid (HM.out.putB hB10 hg10)
      refine hK.out _ _ ⟨range_blk h9, range_blk h10, range_blk h11, range_blk h12⟩ (fun hHeld => ?_)
      clear hK K hB10 hg10
      try simp only [Act.put, List.getElem_toArray, List.getElem_cons_succ, List.getElem_cons_zero, List.setIfInBounds_toArray, List.set_cons_zero, List.set_cons_succ]
      refine wpAnyH_done (by kernel_rfl) ?_ _
      clear hHeld h9 h10 h11 h12 n8 n9
      go_wp2_with (fail)
      go_end0
      exact ⟨rfl, HM.out⟩
set_option maxRecDepth 100000 in
set_option maxHeartbeats 16000000 in
theorem meet1_high (w0 : World) (ga gb gl gm gt : Nat) (A : Option Addr) (n c : Nat) (B : Option Addr) (m d : Nat) (k : Nat) (S T : List UInt8) (hS : S.length ≤ 1000) (hT : T.length ≤ 1000) (x z : Nat) (hxz : x < z) (hzn : z ≤ n) (hzm : z ≤ m) (hlow : x < k) (l r : List (List UInt8)) (hl : RowC w0 A n c l) (hr : RowC w0 B m d r) (hE : sumB S ≠ sumB T) (W : World) (HS : MeS w0 ga gb gl gm gt A n c B m d (k : Int) S T W) :
    Calls Try.prog 107 (#[.int .i64 (x : Int), .int .i64 (z : Int)] ++ #[.pointer (some ⟨ga, 0, none⟩), .pointer (some ⟨gb, 0, none⟩), .pointer (some ⟨gl, 0, none⟩), .pointer (some ⟨gm, 0, none⟩), .pointer (some ⟨gt, 0, none⟩)]) W fun e w' => e = .returned (.tuple #[]) ∧ MeS w0 ga gb gl gm gt A n c B m d (k : Int) (textB joinN [partR l (x, z), sumB S]) (textB joinN [partR r (x, z), sumB T]) w' := by
  have hu := Try.underlying24
  have hU0 : (sumB S).length = 32 := sumB_length S
  have hV0 : (sumB T).length = 32 := sumB_length T
  have HSa : Hid (∀ W, Calls Try.prog 65 #[.string (txt S)] W fun e w' => e = .returned (.agg (idVals (sumB S))) ∧ Below W.heap.size W w') := hid (fun W => sum_any S (by omega) W)
  have HSb : Hid (∀ W, Calls Try.prog 65 #[.string (txt T)] W fun e w' => e = .returned (.agg (idVals (sumB T))) ∧ Below W.heap.size W w') := hid (fun W => sum_any T (by omega) W)
  obtain ⟨A1, c1, e1, r1⟩ := hl.cut hxz hzn
  obtain ⟨B1, d1, e2, r2⟩ := hr.cut hxz hzm
  have HRa : Hid (∀ W', Below w0.heap.size w0 W' → Calls Try.prog 50 #[.slice A1 (z - x) c1] W' fun e w' => e = .returned (.agg (idVals (partR l (x, z)))) ∧ Below W'.heap.size W' w') := hid (fun W' hb => mroot_any _ _ (Nat.le_refl _) A1 (z - x) c1 W' (r1.below hb))
  have HRb : Hid (∀ W', Below w0.heap.size w0 W' → Calls Try.prog 50 #[.slice B1 (z - x) d1] W' fun e w' => e = .returned (.agg (idVals (partR r (x, z)))) ∧ Below W'.heap.size W' w') := hid (fun W' hb => mroot_any _ _ (Nat.le_refl _) B1 (z - x) d1 W' (r2.below hb))
  have hP32 : (partR l (x, z)).length = 32 := rootM_length _
  have hQ32 : (partR r (x, z)).length = 32 := rootM_length _
  generalize partR l (x, z) = P at *
  generalize partR r (x, z) = Q at *
  generalize z - x = y at *
  have HE1 := hid e1
  have HE2 := hid e2
  clear e1 e2 r1 r2 hl hr hxz hzn hzm
  have HM := hid HS
  clear HS
  have HU32 := hid hU0
  have HV32 := hid hV0
  obtain ⟨U, hUU⟩ : ∃ U, sumB S = U := ⟨_, rfl⟩
  obtain ⟨V, hVV⟩ : ∃ V, sumB T = V := ⟨_, rfl⟩
  rw [hUU] at HU32 HSa
  rw [hVV] at HV32 HSb
  have hE2 : U ≠ V := by rw [← hUU, ← hVV]; exact hE
  rw [hUU, hVV]
  clear hE hU0 hV0 hUU hVV
  have heU : ∀ W, (Op.equalIn 10000 24 (.agg (List.map u8v U).toArray) (.agg (List.map u8v V).toArray)).run Try.prog W = .ok false W := fun W => (ids_eq W U V HU32.out HV32.out).trans (by rw [decide_eq_false hE2])
  have HEU := hid heU
  have HLOW := hid hlow
  clear hE2 heU hlow
  have HJa : Hid (∀ W, Calls Try.prog 98 #[.agg (List.map u8v P).toArray, .agg (List.map u8v U).toArray] W fun e w' => e = .returned (.string (txt (textB joinN [P, U]))) ∧ Below W.heap.size W w') := hid (fun W => mjoin_any P U hP32 HU32.out W)
  have HJb : Hid (∀ W, Calls Try.prog 98 #[.agg (List.map u8v Q).toArray, .agg (List.map u8v V).toArray] W fun e w' => e = .returned (.string (txt (textB joinN [Q, V]))) ∧ Below W.heap.size W w') := hid (fun W => mjoin_any Q V hQ32 HV32.out W)
  generalize textB joinN [P, U] = S2 at *
  generalize textB joinN [Q, V] = T2 at *
  have HP32 := hid hP32
  have HQ32 := hid hQ32
  clear hP32 hQ32
  go_enter Try.func107, Try.ntmps107
  go_upto_region 0 with (fail)
  go_cut [9, 10] (fun s t wx => CuI W U V s t wx)
  case first =>
    have hU9 : U.length = 32 := HU32.out
    have hV9 : V.length = 32 := HV32.out
    have hzU : (Try.prog.info? 24).map (·.size) = some (idVals U).size := by rw [idVals_size, hU9]; exact sizeId
    have hzV : (Try.prog.info? 24).map (·.size) = some (idVals V).size := by rw [idVals_size, hV9]; exact sizeId
    have sU : (idVals U).size = 32 := by rw [idVals_size, hU9]
    have sV : (idVals V).size = 32 := by rw [idVals_size, hV9]
    have h1U := idVals_one U
    have h1V := idVals_one V
    have HM9 := hid (HM.out.below (below_drew1 W))
    have HDR := hid (below_drew1 W)
    refine wp_region_held_drew (S := fun V => Below W.drew.heap.size W.drew V) (by kernel_rfl) (Below.refl _ _) (fun hHeld => ?_)
    generalize W.drew = V0 at *
    have fa := HM9.out.a.cell_ (i := 0) rfl
    have fb := HM9.out.b.cell_ (i := 0) rfl
    refine' wpAnyH_take (i := 0) (v := .string (txt S)) rfl (by kernel_rfl) (by kernel_rfl) (by kernel_rfl) (fun _ _ _ h => h) (Or.inl ⟨by rfl, fun w' hw' => by have hv := cell_belM hw' fa; go_simp⟩) hHeld ?_
    try simp only [Act.put, List.getElem_toArray, List.getElem_cons_succ, List.getElem_cons_zero, List.setIfInBounds_toArray, List.set_cons_zero, List.set_cons_succ]
    refine' wpAnyH_take (i := 2) (v := .string (txt T)) rfl (by kernel_rfl) (by kernel_rfl) (by kernel_rfl) (fun _ _ _ h => h) (Or.inl ⟨by rfl, fun w' hw' => by have hv := cell_belM hw' fb; go_simp⟩) hHeld ?_
    try simp only [Act.put, List.getElem_toArray, List.getElem_cons_succ, List.getElem_cons_zero, List.setIfInBounds_toArray, List.set_cons_zero, List.set_cons_succ]
    refine wpAnyH_ready (rs := [1, 4, 5]) (by kernel_rfl) (by simp) ?_
    refine AllReadyH.cons rfl (fun K hK => ?_) (AllReadyH.cons rfl (fun K hK => ?_) (AllReadyH.cons rfl (fun K hK => ?_) AllReadyH.nil))
    · as_aux_lemma =>
        go_simp
        (with_reducible refine (HSa.out _).mono ?_)
        rintro e9 V9 ⟨rfl, hb9⟩
        refine hK.out _ _ (hHeld.trans (hb9.mono hHeld.size)) (fun hHeld => ?_)
        clear hK K hb9
        try simp only [Act.put, List.getElem_toArray, List.getElem_cons_succ, List.getElem_cons_zero, List.setIfInBounds_toArray, List.set_cons_zero, List.set_cons_succ]
        refine wpAnyH_ready (rs := [3, 4, 5]) (by kernel_rfl) (by simp) ?_
        refine AllReadyH.cons rfl (fun K hK => ?_) (AllReadyH.cons rfl (fun K hK => ?_) (AllReadyH.cons rfl (fun K hK => ?_) AllReadyH.nil))
        · as_aux_lemma =>
            go_simp
            (with_reducible refine (HSb.out _).mono ?_)
            rintro e9 V9 ⟨rfl, hb9⟩
            refine hK.out _ _ (hHeld.trans (hb9.mono hHeld.size)) (fun hHeld => ?_)
            clear hK K hb9
            try simp only [Act.put, List.getElem_toArray, List.getElem_cons_succ, List.getElem_cons_zero, List.setIfInBounds_toArray, List.set_cons_zero, List.set_cons_succ]
            refine wpAnyH_ready (rs := [4, 5]) (by kernel_rfl) (by simp) ?_
            refine AllReadyH.cons rfl (fun K hK => ?_) (AllReadyH.cons rfl (fun K hK => ?_) AllReadyH.nil)
            · as_aux_lemma =>
                refine wp_allocI rfl ?_
                intro gP csP VP hsP hnP hBP hb9
                have nP : V0.heap.size ≤ gP := by have := hnP.out; have := hHeld.size; omega
                refine hK.out _ _ (hHeld.trans (hb9.mono hHeld.size)) (fun hHeld => ?_)
                clear hK K hb9 hnP
                try simp only [Act.put, List.getElem_toArray, List.getElem_cons_succ, List.getElem_cons_zero, List.setIfInBounds_toArray, List.set_cons_zero, List.set_cons_succ]
                refine wpAnyH_ready (rs := [5]) (by kernel_rfl) (by simp) ?_
                refine AllReadyH.cons rfl (fun K hK => ?_) AllReadyH.nil
                refine wp_allocI rfl ?_
                intro gQ csQ VQ hsQ hnQ hBQ hb9
                have nQ : V0.heap.size ≤ gQ := by have := hnQ.out; have := hHeld.size; omega
                have ne : gP ≠ gQ := by have := hnQ.out; have := hBP.lt; omega
                replace hBP := hBP.below hb9
                refine hK.out _ _ (hHeld.trans (hb9.mono hHeld.size)) (fun hHeld => ?_)
                clear hK K hb9 hnQ
                try simp only [Act.put, List.getElem_toArray, List.getElem_cons_succ, List.getElem_cons_zero, List.setIfInBounds_toArray, List.set_cons_zero, List.set_cons_succ]
                refine wpAnyH_ready (rs := [6]) (by kernel_rfl) (by simp) ?_
                refine AllReadyH.cons rfl (fun K hK => ?_) AllReadyH.nil
                refine wp_store_blk 24 _ _ rfl gP _ (idVals U) 24 hBP rfl rfl hzU (by rw [hsP, sU]) h1U ?_
                clear hBP; intro VSP hBP hg9
                replace hBQ := blk_gM hBQ hg9 ne.symm
                refine hK.out _ _ (hHeld.grown hg9 hHeld.size (fun q hq => by have := Option.some.inj hq; omega)) (fun hHeld => ?_)
                clear hK K hg9
                try simp only [Act.put, List.getElem_toArray, List.getElem_cons_succ, List.getElem_cons_zero, List.setIfInBounds_toArray, List.set_cons_zero, List.set_cons_succ]
                refine wpAnyH_ready (rs := [7]) (by kernel_rfl) (by simp) ?_
                refine AllReadyH.cons rfl (fun K hK => ?_) AllReadyH.nil
                refine wp_store_blk 24 _ _ rfl gQ _ (idVals V) 24 hBQ rfl rfl hzV (by rw [hsQ, sV]) h1V ?_
                clear hBQ; intro VSQ hBQ hg9
                replace hBP := blk_gM hBP hg9 ne
                refine hK.out _ _ (hHeld.grown hg9 hHeld.size (fun q hq => by have := Option.some.inj hq; omega)) (fun hHeld => ?_)
                clear hK K hg9
                try simp only [Act.put, List.getElem_toArray, List.getElem_cons_succ, List.getElem_cons_zero, List.setIfInBounds_toArray, List.set_cons_zero, List.set_cons_succ]
                refine wpAnyH_done (by kernel_rfl) ?_ _
                go_wp2_with (fail)
                go_meet
                exact ⟨gP, gQ, rfl, rfl, hBP, hBQ, HDR.out.trans (hHeld.mono HDR.out.size)⟩
            · as_aux_lemma =>
                refine wp_allocI rfl ?_
                intro gQ csQ VQ hsQ hnQ hBQ hb9
                have nQ : V0.heap.size ≤ gQ := by have := hnQ.out; have := hHeld.size; omega
                refine hK.out _ _ (hHeld.trans (hb9.mono hHeld.size)) (fun hHeld => ?_)
                clear hK K hb9 hnQ
                try simp only [Act.put, List.getElem_toArray, List.getElem_cons_succ, List.getElem_cons_zero, List.setIfInBounds_toArray, List.set_cons_zero, List.set_cons_succ]
                refine wpAnyH_ready (rs := [4]) (by kernel_rfl) (by simp) ?_
                refine AllReadyH.cons rfl (fun K hK => ?_) AllReadyH.nil
                refine wp_allocI rfl ?_
                intro gP csP VP hsP hnP hBP hb9
                have nP : V0.heap.size ≤ gP := by have := hnP.out; have := hHeld.size; omega
                have ne : gP ≠ gQ := by have := hnP.out; have := hBQ.lt; omega
                replace hBQ := hBQ.below hb9
                refine hK.out _ _ (hHeld.trans (hb9.mono hHeld.size)) (fun hHeld => ?_)
                clear hK K hb9 hnP
                try simp only [Act.put, List.getElem_toArray, List.getElem_cons_succ, List.getElem_cons_zero, List.setIfInBounds_toArray, List.set_cons_zero, List.set_cons_succ]
                refine wpAnyH_ready (rs := [6]) (by kernel_rfl) (by simp) ?_
                refine AllReadyH.cons rfl (fun K hK => ?_) AllReadyH.nil
                refine wp_store_blk 24 _ _ rfl gP _ (idVals U) 24 hBP rfl rfl hzU (by rw [hsP, sU]) h1U ?_
                clear hBP; intro VSP hBP hg9
                replace hBQ := blk_gM hBQ hg9 ne.symm
                refine hK.out _ _ (hHeld.grown hg9 hHeld.size (fun q hq => by have := Option.some.inj hq; omega)) (fun hHeld => ?_)
                clear hK K hg9
                try simp only [Act.put, List.getElem_toArray, List.getElem_cons_succ, List.getElem_cons_zero, List.setIfInBounds_toArray, List.set_cons_zero, List.set_cons_succ]
                refine wpAnyH_ready (rs := [7]) (by kernel_rfl) (by simp) ?_
                refine AllReadyH.cons rfl (fun K hK => ?_) AllReadyH.nil
                refine wp_store_blk 24 _ _ rfl gQ _ (idVals V) 24 hBQ rfl rfl hzV (by rw [hsQ, sV]) h1V ?_
                clear hBQ; intro VSQ hBQ hg9
                replace hBP := blk_gM hBP hg9 ne
                refine hK.out _ _ (hHeld.grown hg9 hHeld.size (fun q hq => by have := Option.some.inj hq; omega)) (fun hHeld => ?_)
                clear hK K hg9
                try simp only [Act.put, List.getElem_toArray, List.getElem_cons_succ, List.getElem_cons_zero, List.setIfInBounds_toArray, List.set_cons_zero, List.set_cons_succ]
                refine wpAnyH_done (by kernel_rfl) ?_ _
                go_wp2_with (fail)
                go_meet
                exact ⟨gP, gQ, rfl, rfl, hBP, hBQ, HDR.out.trans (hHeld.mono HDR.out.size)⟩
        · as_aux_lemma =>
            refine wp_allocI rfl ?_
            intro gP csP VP hsP hnP hBP hb9
            have nP : V0.heap.size ≤ gP := by have := hnP.out; have := hHeld.size; omega
            refine hK.out _ _ (hHeld.trans (hb9.mono hHeld.size)) (fun hHeld => ?_)
            clear hK K hb9 hnP
            try simp only [Act.put, List.getElem_toArray, List.getElem_cons_succ, List.getElem_cons_zero, List.setIfInBounds_toArray, List.set_cons_zero, List.set_cons_succ]
            refine wpAnyH_ready (rs := [3, 5]) (by kernel_rfl) (by simp) ?_
            refine AllReadyH.cons rfl (fun K hK => ?_) (AllReadyH.cons rfl (fun K hK => ?_) AllReadyH.nil)
            · as_aux_lemma =>
                go_simp
                (with_reducible refine (HSb.out _).mono ?_)
                rintro e9 V9 ⟨rfl, hb9⟩
                replace hBP := hBP.below hb9
                refine hK.out _ _ (hHeld.trans (hb9.mono hHeld.size)) (fun hHeld => ?_)
                clear hK K hb9
                try simp only [Act.put, List.getElem_toArray, List.getElem_cons_succ, List.getElem_cons_zero, List.setIfInBounds_toArray, List.set_cons_zero, List.set_cons_succ]
                refine wpAnyH_ready (rs := [5]) (by kernel_rfl) (by simp) ?_
                refine AllReadyH.cons rfl (fun K hK => ?_) AllReadyH.nil
                refine wp_allocI rfl ?_
                intro gQ csQ VQ hsQ hnQ hBQ hb9
                have nQ : V0.heap.size ≤ gQ := by have := hnQ.out; have := hHeld.size; omega
                have ne : gP ≠ gQ := by have := hnQ.out; have := hBP.lt; omega
                replace hBP := hBP.below hb9
                refine hK.out _ _ (hHeld.trans (hb9.mono hHeld.size)) (fun hHeld => ?_)
                clear hK K hb9 hnQ
                try simp only [Act.put, List.getElem_toArray, List.getElem_cons_succ, List.getElem_cons_zero, List.setIfInBounds_toArray, List.set_cons_zero, List.set_cons_succ]
                refine wpAnyH_ready (rs := [6]) (by kernel_rfl) (by simp) ?_
                refine AllReadyH.cons rfl (fun K hK => ?_) AllReadyH.nil
                refine wp_store_blk 24 _ _ rfl gP _ (idVals U) 24 hBP rfl rfl hzU (by rw [hsP, sU]) h1U ?_
                clear hBP; intro VSP hBP hg9
                replace hBQ := blk_gM hBQ hg9 ne.symm
                refine hK.out _ _ (hHeld.grown hg9 hHeld.size (fun q hq => by have := Option.some.inj hq; omega)) (fun hHeld => ?_)
                clear hK K hg9
                try simp only [Act.put, List.getElem_toArray, List.getElem_cons_succ, List.getElem_cons_zero, List.setIfInBounds_toArray, List.set_cons_zero, List.set_cons_succ]
                refine wpAnyH_ready (rs := [7]) (by kernel_rfl) (by simp) ?_
                refine AllReadyH.cons rfl (fun K hK => ?_) AllReadyH.nil
                refine wp_store_blk 24 _ _ rfl gQ _ (idVals V) 24 hBQ rfl rfl hzV (by rw [hsQ, sV]) h1V ?_
                clear hBQ; intro VSQ hBQ hg9
                replace hBP := blk_gM hBP hg9 ne
                refine hK.out _ _ (hHeld.grown hg9 hHeld.size (fun q hq => by have := Option.some.inj hq; omega)) (fun hHeld => ?_)
                clear hK K hg9
                try simp only [Act.put, List.getElem_toArray, List.getElem_cons_succ, List.getElem_cons_zero, List.setIfInBounds_toArray, List.set_cons_zero, List.set_cons_succ]
                refine wpAnyH_done (by kernel_rfl) ?_ _
                go_wp2_with (fail)
                go_meet
                exact ⟨gP, gQ, rfl, rfl, hBP, hBQ, HDR.out.trans (hHeld.mono HDR.out.size)⟩
            · as_aux_lemma =>
                refine wp_allocI rfl ?_
                intro gQ csQ VQ hsQ hnQ hBQ hb9
                have nQ : V0.heap.size ≤ gQ := by have := hnQ.out; have := hHeld.size; omega
                have ne : gP ≠ gQ := by have := hnQ.out; have := hBP.lt; omega
                replace hBP := hBP.below hb9
                refine hK.out _ _ (hHeld.trans (hb9.mono hHeld.size)) (fun hHeld => ?_)
                clear hK K hb9 hnQ
                try simp only [Act.put, List.getElem_toArray, List.getElem_cons_succ, List.getElem_cons_zero, List.setIfInBounds_toArray, List.set_cons_zero, List.set_cons_succ]
                refine wpAnyH_ready (rs := [3]) (by kernel_rfl) (by simp) ?_
                refine AllReadyH.cons rfl (fun K hK => ?_) AllReadyH.nil
                go_simp
                (with_reducible refine (HSb.out _).mono ?_)
                rintro e9 V9 ⟨rfl, hb9⟩
                replace hBP := hBP.below hb9
                replace hBQ := hBQ.below hb9
                refine hK.out _ _ (hHeld.trans (hb9.mono hHeld.size)) (fun hHeld => ?_)
                clear hK K hb9
                try simp only [Act.put, List.getElem_toArray, List.getElem_cons_succ, List.getElem_cons_zero, List.setIfInBounds_toArray, List.set_cons_zero, List.set_cons_succ]
                refine wpAnyH_ready (rs := [6]) (by kernel_rfl) (by simp) ?_
                refine AllReadyH.cons rfl (fun K hK => ?_) AllReadyH.nil
                refine wp_store_blk 24 _ _ rfl gP _ (idVals U) 24 hBP rfl rfl hzU (by rw [hsP, sU]) h1U ?_
                clear hBP; intro VSP hBP hg9
                replace hBQ := blk_gM hBQ hg9 ne.symm
                refine hK.out _ _ (hHeld.grown hg9 hHeld.size (fun q hq => by have := Option.some.inj hq; omega)) (fun hHeld => ?_)
                clear hK K hg9
                try simp only [Act.put, List.getElem_toArray, List.getElem_cons_succ, List.getElem_cons_zero, List.setIfInBounds_toArray, List.set_cons_zero, List.set_cons_succ]
                refine wpAnyH_ready (rs := [7]) (by kernel_rfl) (by simp) ?_
                refine AllReadyH.cons rfl (fun K hK => ?_) AllReadyH.nil
                refine wp_store_blk 24 _ _ rfl gQ _ (idVals V) 24 hBQ rfl rfl hzV (by rw [hsQ, sV]) h1V ?_
                clear hBQ; intro VSQ hBQ hg9
                replace hBP := blk_gM hBP hg9 ne
                refine hK.out _ _ (hHeld.grown hg9 hHeld.size (fun q hq => by have := Option.some.inj hq; omega)) (fun hHeld => ?_)
                clear hK K hg9
                try simp only [Act.put, List.getElem_toArray, List.getElem_cons_succ, List.getElem_cons_zero, List.setIfInBounds_toArray, List.set_cons_zero, List.set_cons_succ]
                refine wpAnyH_done (by kernel_rfl) ?_ _
                go_wp2_with (fail)
                go_meet
                exact ⟨gP, gQ, rfl, rfl, hBP, hBQ, HDR.out.trans (hHeld.mono HDR.out.size)⟩
        · as_aux_lemma =>
            refine wp_allocI rfl ?_
            intro gQ csQ VQ hsQ hnQ hBQ hb9
            have nQ : V0.heap.size ≤ gQ := by have := hnQ.out; have := hHeld.size; omega
            refine hK.out _ _ (hHeld.trans (hb9.mono hHeld.size)) (fun hHeld => ?_)
            clear hK K hb9 hnQ
            try simp only [Act.put, List.getElem_toArray, List.getElem_cons_succ, List.getElem_cons_zero, List.setIfInBounds_toArray, List.set_cons_zero, List.set_cons_succ]
            refine wpAnyH_ready (rs := [3, 4]) (by kernel_rfl) (by simp) ?_
            refine AllReadyH.cons rfl (fun K hK => ?_) (AllReadyH.cons rfl (fun K hK => ?_) AllReadyH.nil)
            · as_aux_lemma =>
                go_simp
                (with_reducible refine (HSb.out _).mono ?_)
                rintro e9 V9 ⟨rfl, hb9⟩
                replace hBQ := hBQ.below hb9
                refine hK.out _ _ (hHeld.trans (hb9.mono hHeld.size)) (fun hHeld => ?_)
                clear hK K hb9
                try simp only [Act.put, List.getElem_toArray, List.getElem_cons_succ, List.getElem_cons_zero, List.setIfInBounds_toArray, List.set_cons_zero, List.set_cons_succ]
                refine wpAnyH_ready (rs := [4]) (by kernel_rfl) (by simp) ?_
                refine AllReadyH.cons rfl (fun K hK => ?_) AllReadyH.nil
                refine wp_allocI rfl ?_
                intro gP csP VP hsP hnP hBP hb9
                have nP : V0.heap.size ≤ gP := by have := hnP.out; have := hHeld.size; omega
                have ne : gP ≠ gQ := by have := hnP.out; have := hBQ.lt; omega
                replace hBQ := hBQ.below hb9
                refine hK.out _ _ (hHeld.trans (hb9.mono hHeld.size)) (fun hHeld => ?_)
                clear hK K hb9 hnP
                try simp only [Act.put, List.getElem_toArray, List.getElem_cons_succ, List.getElem_cons_zero, List.setIfInBounds_toArray, List.set_cons_zero, List.set_cons_succ]
                refine wpAnyH_ready (rs := [6]) (by kernel_rfl) (by simp) ?_
                refine AllReadyH.cons rfl (fun K hK => ?_) AllReadyH.nil
                refine wp_store_blk 24 _ _ rfl gP _ (idVals U) 24 hBP rfl rfl hzU (by rw [hsP, sU]) h1U ?_
                clear hBP; intro VSP hBP hg9
                replace hBQ := blk_gM hBQ hg9 ne.symm
                refine hK.out _ _ (hHeld.grown hg9 hHeld.size (fun q hq => by have := Option.some.inj hq; omega)) (fun hHeld => ?_)
                clear hK K hg9
                try simp only [Act.put, List.getElem_toArray, List.getElem_cons_succ, List.getElem_cons_zero, List.setIfInBounds_toArray, List.set_cons_zero, List.set_cons_succ]
                refine wpAnyH_ready (rs := [7]) (by kernel_rfl) (by simp) ?_
                refine AllReadyH.cons rfl (fun K hK => ?_) AllReadyH.nil
                refine wp_store_blk 24 _ _ rfl gQ _ (idVals V) 24 hBQ rfl rfl hzV (by rw [hsQ, sV]) h1V ?_
                clear hBQ; intro VSQ hBQ hg9
                replace hBP := blk_gM hBP hg9 ne
                refine hK.out _ _ (hHeld.grown hg9 hHeld.size (fun q hq => by have := Option.some.inj hq; omega)) (fun hHeld => ?_)
                clear hK K hg9
                try simp only [Act.put, List.getElem_toArray, List.getElem_cons_succ, List.getElem_cons_zero, List.setIfInBounds_toArray, List.set_cons_zero, List.set_cons_succ]
                refine wpAnyH_done (by kernel_rfl) ?_ _
                go_wp2_with (fail)
                go_meet
                exact ⟨gP, gQ, rfl, rfl, hBP, hBQ, HDR.out.trans (hHeld.mono HDR.out.size)⟩
            · as_aux_lemma =>
                refine wp_allocI rfl ?_
                intro gP csP VP hsP hnP hBP hb9
                have nP : V0.heap.size ≤ gP := by have := hnP.out; have := hHeld.size; omega
                have ne : gP ≠ gQ := by have := hnP.out; have := hBQ.lt; omega
                replace hBQ := hBQ.below hb9
                refine hK.out _ _ (hHeld.trans (hb9.mono hHeld.size)) (fun hHeld => ?_)
                clear hK K hb9 hnP
                try simp only [Act.put, List.getElem_toArray, List.getElem_cons_succ, List.getElem_cons_zero, List.setIfInBounds_toArray, List.set_cons_zero, List.set_cons_succ]
                refine wpAnyH_ready (rs := [3]) (by kernel_rfl) (by simp) ?_
                refine AllReadyH.cons rfl (fun K hK => ?_) AllReadyH.nil
                go_simp
                (with_reducible refine (HSb.out _).mono ?_)
                rintro e9 V9 ⟨rfl, hb9⟩
                replace hBQ := hBQ.below hb9
                replace hBP := hBP.below hb9
                refine hK.out _ _ (hHeld.trans (hb9.mono hHeld.size)) (fun hHeld => ?_)
                clear hK K hb9
                try simp only [Act.put, List.getElem_toArray, List.getElem_cons_succ, List.getElem_cons_zero, List.setIfInBounds_toArray, List.set_cons_zero, List.set_cons_succ]
                refine wpAnyH_ready (rs := [6]) (by kernel_rfl) (by simp) ?_
                refine AllReadyH.cons rfl (fun K hK => ?_) AllReadyH.nil
                refine wp_store_blk 24 _ _ rfl gP _ (idVals U) 24 hBP rfl rfl hzU (by rw [hsP, sU]) h1U ?_
                clear hBP; intro VSP hBP hg9
                replace hBQ := blk_gM hBQ hg9 ne.symm
                refine hK.out _ _ (hHeld.grown hg9 hHeld.size (fun q hq => by have := Option.some.inj hq; omega)) (fun hHeld => ?_)
                clear hK K hg9
                try simp only [Act.put, List.getElem_toArray, List.getElem_cons_succ, List.getElem_cons_zero, List.setIfInBounds_toArray, List.set_cons_zero, List.set_cons_succ]
                refine wpAnyH_ready (rs := [7]) (by kernel_rfl) (by simp) ?_
                refine AllReadyH.cons rfl (fun K hK => ?_) AllReadyH.nil
                refine wp_store_blk 24 _ _ rfl gQ _ (idVals V) 24 hBQ rfl rfl hzV (by rw [hsQ, sV]) h1V ?_
                clear hBQ; intro VSQ hBQ hg9
                replace hBP := blk_gM hBP hg9 ne
                refine hK.out _ _ (hHeld.grown hg9 hHeld.size (fun q hq => by have := Option.some.inj hq; omega)) (fun hHeld => ?_)
                clear hK K hg9
                try simp only [Act.put, List.getElem_toArray, List.getElem_cons_succ, List.getElem_cons_zero, List.setIfInBounds_toArray, List.set_cons_zero, List.set_cons_succ]
                refine wpAnyH_done (by kernel_rfl) ?_ _
                go_wp2_with (fail)
                go_meet
                exact ⟨gP, gQ, rfl, rfl, hBP, hBQ, HDR.out.trans (hHeld.mono HDR.out.size)⟩
    · as_aux_lemma =>
        refine wp_allocI rfl ?_
        intro gP csP VP hsP hnP hBP hb9
        have nP : V0.heap.size ≤ gP := by have := hnP.out; have := hHeld.size; omega
        refine hK.out _ _ (hHeld.trans (hb9.mono hHeld.size)) (fun hHeld => ?_)
        clear hK K hb9 hnP
        try simp only [Act.put, List.getElem_toArray, List.getElem_cons_succ, List.getElem_cons_zero, List.setIfInBounds_toArray, List.set_cons_zero, List.set_cons_succ]
        refine wpAnyH_ready (rs := [1, 5]) (by kernel_rfl) (by simp) ?_
        refine AllReadyH.cons rfl (fun K hK => ?_) (AllReadyH.cons rfl (fun K hK => ?_) AllReadyH.nil)
        · as_aux_lemma =>
            go_simp
            (with_reducible refine (HSa.out _).mono ?_)
            rintro e9 V9 ⟨rfl, hb9⟩
            replace hBP := hBP.below hb9
            refine hK.out _ _ (hHeld.trans (hb9.mono hHeld.size)) (fun hHeld => ?_)
            clear hK K hb9
            try simp only [Act.put, List.getElem_toArray, List.getElem_cons_succ, List.getElem_cons_zero, List.setIfInBounds_toArray, List.set_cons_zero, List.set_cons_succ]
            refine wpAnyH_ready (rs := [3, 5]) (by kernel_rfl) (by simp) ?_
            refine AllReadyH.cons rfl (fun K hK => ?_) (AllReadyH.cons rfl (fun K hK => ?_) AllReadyH.nil)
            · as_aux_lemma =>
                go_simp
                (with_reducible refine (HSb.out _).mono ?_)
                rintro e9 V9 ⟨rfl, hb9⟩
                replace hBP := hBP.below hb9
                refine hK.out _ _ (hHeld.trans (hb9.mono hHeld.size)) (fun hHeld => ?_)
                clear hK K hb9
                try simp only [Act.put, List.getElem_toArray, List.getElem_cons_succ, List.getElem_cons_zero, List.setIfInBounds_toArray, List.set_cons_zero, List.set_cons_succ]
                refine wpAnyH_ready (rs := [5]) (by kernel_rfl) (by simp) ?_
                refine AllReadyH.cons rfl (fun K hK => ?_) AllReadyH.nil
                refine wp_allocI rfl ?_
                intro gQ csQ VQ hsQ hnQ hBQ hb9
                have nQ : V0.heap.size ≤ gQ := by have := hnQ.out; have := hHeld.size; omega
                have ne : gP ≠ gQ := by have := hnQ.out; have := hBP.lt; omega
                replace hBP := hBP.below hb9
                refine hK.out _ _ (hHeld.trans (hb9.mono hHeld.size)) (fun hHeld => ?_)
                clear hK K hb9 hnQ
                try simp only [Act.put, List.getElem_toArray, List.getElem_cons_succ, List.getElem_cons_zero, List.setIfInBounds_toArray, List.set_cons_zero, List.set_cons_succ]
                refine wpAnyH_ready (rs := [6]) (by kernel_rfl) (by simp) ?_
                refine AllReadyH.cons rfl (fun K hK => ?_) AllReadyH.nil
                refine wp_store_blk 24 _ _ rfl gP _ (idVals U) 24 hBP rfl rfl hzU (by rw [hsP, sU]) h1U ?_
                clear hBP; intro VSP hBP hg9
                replace hBQ := blk_gM hBQ hg9 ne.symm
                refine hK.out _ _ (hHeld.grown hg9 hHeld.size (fun q hq => by have := Option.some.inj hq; omega)) (fun hHeld => ?_)
                clear hK K hg9
                try simp only [Act.put, List.getElem_toArray, List.getElem_cons_succ, List.getElem_cons_zero, List.setIfInBounds_toArray, List.set_cons_zero, List.set_cons_succ]
                refine wpAnyH_ready (rs := [7]) (by kernel_rfl) (by simp) ?_
                refine AllReadyH.cons rfl (fun K hK => ?_) AllReadyH.nil
                refine wp_store_blk 24 _ _ rfl gQ _ (idVals V) 24 hBQ rfl rfl hzV (by rw [hsQ, sV]) h1V ?_
                clear hBQ; intro VSQ hBQ hg9
                replace hBP := blk_gM hBP hg9 ne
                refine hK.out _ _ (hHeld.grown hg9 hHeld.size (fun q hq => by have := Option.some.inj hq; omega)) (fun hHeld => ?_)
                clear hK K hg9
                try simp only [Act.put, List.getElem_toArray, List.getElem_cons_succ, List.getElem_cons_zero, List.setIfInBounds_toArray, List.set_cons_zero, List.set_cons_succ]
                refine wpAnyH_done (by kernel_rfl) ?_ _
                go_wp2_with (fail)
                go_meet
                exact ⟨gP, gQ, rfl, rfl, hBP, hBQ, HDR.out.trans (hHeld.mono HDR.out.size)⟩
            · as_aux_lemma =>
                refine wp_allocI rfl ?_
                intro gQ csQ VQ hsQ hnQ hBQ hb9
                have nQ : V0.heap.size ≤ gQ := by have := hnQ.out; have := hHeld.size; omega
                have ne : gP ≠ gQ := by have := hnQ.out; have := hBP.lt; omega
                replace hBP := hBP.below hb9
                refine hK.out _ _ (hHeld.trans (hb9.mono hHeld.size)) (fun hHeld => ?_)
                clear hK K hb9 hnQ
                try simp only [Act.put, List.getElem_toArray, List.getElem_cons_succ, List.getElem_cons_zero, List.setIfInBounds_toArray, List.set_cons_zero, List.set_cons_succ]
                refine wpAnyH_ready (rs := [3]) (by kernel_rfl) (by simp) ?_
                refine AllReadyH.cons rfl (fun K hK => ?_) AllReadyH.nil
                go_simp
                (with_reducible refine (HSb.out _).mono ?_)
                rintro e9 V9 ⟨rfl, hb9⟩
                replace hBP := hBP.below hb9
                replace hBQ := hBQ.below hb9
                refine hK.out _ _ (hHeld.trans (hb9.mono hHeld.size)) (fun hHeld => ?_)
                clear hK K hb9
                try simp only [Act.put, List.getElem_toArray, List.getElem_cons_succ, List.getElem_cons_zero, List.setIfInBounds_toArray, List.set_cons_zero, List.set_cons_succ]
                refine wpAnyH_ready (rs := [6]) (by kernel_rfl) (by simp) ?_
                refine AllReadyH.cons rfl (fun K hK => ?_) AllReadyH.nil
                refine wp_store_blk 24 _ _ rfl gP _ (idVals U) 24 hBP rfl rfl hzU (by rw [hsP, sU]) h1U ?_
                clear hBP; intro VSP hBP hg9
                replace hBQ := blk_gM hBQ hg9 ne.symm
                refine hK.out _ _ (hHeld.grown hg9 hHeld.size (fun q hq => by have := Option.some.inj hq; omega)) (fun hHeld => ?_)
                clear hK K hg9
                try simp only [Act.put, List.getElem_toArray, List.getElem_cons_succ, List.getElem_cons_zero, List.setIfInBounds_toArray, List.set_cons_zero, List.set_cons_succ]
                refine wpAnyH_ready (rs := [7]) (by kernel_rfl) (by simp) ?_
                refine AllReadyH.cons rfl (fun K hK => ?_) AllReadyH.nil
                refine wp_store_blk 24 _ _ rfl gQ _ (idVals V) 24 hBQ rfl rfl hzV (by rw [hsQ, sV]) h1V ?_
                clear hBQ; intro VSQ hBQ hg9
                replace hBP := blk_gM hBP hg9 ne
                refine hK.out _ _ (hHeld.grown hg9 hHeld.size (fun q hq => by have := Option.some.inj hq; omega)) (fun hHeld => ?_)
                clear hK K hg9
                try simp only [Act.put, List.getElem_toArray, List.getElem_cons_succ, List.getElem_cons_zero, List.setIfInBounds_toArray, List.set_cons_zero, List.set_cons_succ]
                refine wpAnyH_done (by kernel_rfl) ?_ _
                go_wp2_with (fail)
                go_meet
                exact ⟨gP, gQ, rfl, rfl, hBP, hBQ, HDR.out.trans (hHeld.mono HDR.out.size)⟩
        · as_aux_lemma =>
            refine wp_allocI rfl ?_
            intro gQ csQ VQ hsQ hnQ hBQ hb9
            have nQ : V0.heap.size ≤ gQ := by have := hnQ.out; have := hHeld.size; omega
            have ne : gP ≠ gQ := by have := hnQ.out; have := hBP.lt; omega
            replace hBP := hBP.below hb9
            refine hK.out _ _ (hHeld.trans (hb9.mono hHeld.size)) (fun hHeld => ?_)
            clear hK K hb9 hnQ
            try simp only [Act.put, List.getElem_toArray, List.getElem_cons_succ, List.getElem_cons_zero, List.setIfInBounds_toArray, List.set_cons_zero, List.set_cons_succ]
            refine wpAnyH_ready (rs := [1]) (by kernel_rfl) (by simp) ?_
            refine AllReadyH.cons rfl (fun K hK => ?_) AllReadyH.nil
            go_simp
            (with_reducible refine (HSa.out _).mono ?_)
            rintro e9 V9 ⟨rfl, hb9⟩
            replace hBP := hBP.below hb9
            replace hBQ := hBQ.below hb9
            refine hK.out _ _ (hHeld.trans (hb9.mono hHeld.size)) (fun hHeld => ?_)
            clear hK K hb9
            try simp only [Act.put, List.getElem_toArray, List.getElem_cons_succ, List.getElem_cons_zero, List.setIfInBounds_toArray, List.set_cons_zero, List.set_cons_succ]
            refine wpAnyH_ready (rs := [3]) (by kernel_rfl) (by simp) ?_
            refine AllReadyH.cons rfl (fun K hK => ?_) AllReadyH.nil
            go_simp
            (with_reducible refine (HSb.out _).mono ?_)
            rintro e9 V9 ⟨rfl, hb9⟩
            replace hBP := hBP.below hb9
            replace hBQ := hBQ.below hb9
            refine hK.out _ _ (hHeld.trans (hb9.mono hHeld.size)) (fun hHeld => ?_)
            clear hK K hb9
            try simp only [Act.put, List.getElem_toArray, List.getElem_cons_succ, List.getElem_cons_zero, List.setIfInBounds_toArray, List.set_cons_zero, List.set_cons_succ]
            refine wpAnyH_ready (rs := [6]) (by kernel_rfl) (by simp) ?_
            refine AllReadyH.cons rfl (fun K hK => ?_) AllReadyH.nil
            refine wp_store_blk 24 _ _ rfl gP _ (idVals U) 24 hBP rfl rfl hzU (by rw [hsP, sU]) h1U ?_
            clear hBP; intro VSP hBP hg9
            replace hBQ := blk_gM hBQ hg9 ne.symm
            refine hK.out _ _ (hHeld.grown hg9 hHeld.size (fun q hq => by have := Option.some.inj hq; omega)) (fun hHeld => ?_)
            clear hK K hg9
            try simp only [Act.put, List.getElem_toArray, List.getElem_cons_succ, List.getElem_cons_zero, List.setIfInBounds_toArray, List.set_cons_zero, List.set_cons_succ]
            refine wpAnyH_ready (rs := [7]) (by kernel_rfl) (by simp) ?_
            refine AllReadyH.cons rfl (fun K hK => ?_) AllReadyH.nil
            refine wp_store_blk 24 _ _ rfl gQ _ (idVals V) 24 hBQ rfl rfl hzV (by rw [hsQ, sV]) h1V ?_
            clear hBQ; intro VSQ hBQ hg9
            replace hBP := blk_gM hBP hg9 ne
            refine hK.out _ _ (hHeld.grown hg9 hHeld.size (fun q hq => by have := Option.some.inj hq; omega)) (fun hHeld => ?_)
            clear hK K hg9
            try simp only [Act.put, List.getElem_toArray, List.getElem_cons_succ, List.getElem_cons_zero, List.setIfInBounds_toArray, List.set_cons_zero, List.set_cons_succ]
            refine wpAnyH_done (by kernel_rfl) ?_ _
            go_wp2_with (fail)
            go_meet
            exact ⟨gP, gQ, rfl, rfl, hBP, hBQ, HDR.out.trans (hHeld.mono HDR.out.size)⟩
    · as_aux_lemma =>
        refine wp_allocI rfl ?_
        intro gQ csQ VQ hsQ hnQ hBQ hb9
        have nQ : V0.heap.size ≤ gQ := by have := hnQ.out; have := hHeld.size; omega
        refine hK.out _ _ (hHeld.trans (hb9.mono hHeld.size)) (fun hHeld => ?_)
        clear hK K hb9 hnQ
        try simp only [Act.put, List.getElem_toArray, List.getElem_cons_succ, List.getElem_cons_zero, List.setIfInBounds_toArray, List.set_cons_zero, List.set_cons_succ]
        refine wpAnyH_ready (rs := [1, 4]) (by kernel_rfl) (by simp) ?_
        refine AllReadyH.cons rfl (fun K hK => ?_) (AllReadyH.cons rfl (fun K hK => ?_) AllReadyH.nil)
        · as_aux_lemma =>
            go_simp
            (with_reducible refine (HSa.out _).mono ?_)
            rintro e9 V9 ⟨rfl, hb9⟩
            replace hBQ := hBQ.below hb9
            refine hK.out _ _ (hHeld.trans (hb9.mono hHeld.size)) (fun hHeld => ?_)
            clear hK K hb9
            try simp only [Act.put, List.getElem_toArray, List.getElem_cons_succ, List.getElem_cons_zero, List.setIfInBounds_toArray, List.set_cons_zero, List.set_cons_succ]
            refine wpAnyH_ready (rs := [3, 4]) (by kernel_rfl) (by simp) ?_
            refine AllReadyH.cons rfl (fun K hK => ?_) (AllReadyH.cons rfl (fun K hK => ?_) AllReadyH.nil)
            · as_aux_lemma =>
                go_simp
                (with_reducible refine (HSb.out _).mono ?_)
                rintro e9 V9 ⟨rfl, hb9⟩
                replace hBQ := hBQ.below hb9
                refine hK.out _ _ (hHeld.trans (hb9.mono hHeld.size)) (fun hHeld => ?_)
                clear hK K hb9
                try simp only [Act.put, List.getElem_toArray, List.getElem_cons_succ, List.getElem_cons_zero, List.setIfInBounds_toArray, List.set_cons_zero, List.set_cons_succ]
                refine wpAnyH_ready (rs := [4]) (by kernel_rfl) (by simp) ?_
                refine AllReadyH.cons rfl (fun K hK => ?_) AllReadyH.nil
                refine wp_allocI rfl ?_
                intro gP csP VP hsP hnP hBP hb9
                have nP : V0.heap.size ≤ gP := by have := hnP.out; have := hHeld.size; omega
                have ne : gP ≠ gQ := by have := hnP.out; have := hBQ.lt; omega
                replace hBQ := hBQ.below hb9
                refine hK.out _ _ (hHeld.trans (hb9.mono hHeld.size)) (fun hHeld => ?_)
                clear hK K hb9 hnP
                try simp only [Act.put, List.getElem_toArray, List.getElem_cons_succ, List.getElem_cons_zero, List.setIfInBounds_toArray, List.set_cons_zero, List.set_cons_succ]
                refine wpAnyH_ready (rs := [6]) (by kernel_rfl) (by simp) ?_
                refine AllReadyH.cons rfl (fun K hK => ?_) AllReadyH.nil
                refine wp_store_blk 24 _ _ rfl gP _ (idVals U) 24 hBP rfl rfl hzU (by rw [hsP, sU]) h1U ?_
                clear hBP; intro VSP hBP hg9
                replace hBQ := blk_gM hBQ hg9 ne.symm
                refine hK.out _ _ (hHeld.grown hg9 hHeld.size (fun q hq => by have := Option.some.inj hq; omega)) (fun hHeld => ?_)
                clear hK K hg9
                try simp only [Act.put, List.getElem_toArray, List.getElem_cons_succ, List.getElem_cons_zero, List.setIfInBounds_toArray, List.set_cons_zero, List.set_cons_succ]
                refine wpAnyH_ready (rs := [7]) (by kernel_rfl) (by simp) ?_
                refine AllReadyH.cons rfl (fun K hK => ?_) AllReadyH.nil
                refine wp_store_blk 24 _ _ rfl gQ _ (idVals V) 24 hBQ rfl rfl hzV (by rw [hsQ, sV]) h1V ?_
                clear hBQ; intro VSQ hBQ hg9
                replace hBP := blk_gM hBP hg9 ne
                refine hK.out _ _ (hHeld.grown hg9 hHeld.size (fun q hq => by have := Option.some.inj hq; omega)) (fun hHeld => ?_)
                clear hK K hg9
                try simp only [Act.put, List.getElem_toArray, List.getElem_cons_succ, List.getElem_cons_zero, List.setIfInBounds_toArray, List.set_cons_zero, List.set_cons_succ]
                refine wpAnyH_done (by kernel_rfl) ?_ _
                go_wp2_with (fail)
                go_meet
                exact ⟨gP, gQ, rfl, rfl, hBP, hBQ, HDR.out.trans (hHeld.mono HDR.out.size)⟩
            · as_aux_lemma =>
                refine wp_allocI rfl ?_
                intro gP csP VP hsP hnP hBP hb9
                have nP : V0.heap.size ≤ gP := by have := hnP.out; have := hHeld.size; omega
                have ne : gP ≠ gQ := by have := hnP.out; have := hBQ.lt; omega
                replace hBQ := hBQ.below hb9
                refine hK.out _ _ (hHeld.trans (hb9.mono hHeld.size)) (fun hHeld => ?_)
                clear hK K hb9 hnP
                try simp only [Act.put, List.getElem_toArray, List.getElem_cons_succ, List.getElem_cons_zero, List.setIfInBounds_toArray, List.set_cons_zero, List.set_cons_succ]
                refine wpAnyH_ready (rs := [3]) (by kernel_rfl) (by simp) ?_
                refine AllReadyH.cons rfl (fun K hK => ?_) AllReadyH.nil
                go_simp
                (with_reducible refine (HSb.out _).mono ?_)
                rintro e9 V9 ⟨rfl, hb9⟩
                replace hBQ := hBQ.below hb9
                replace hBP := hBP.below hb9
                refine hK.out _ _ (hHeld.trans (hb9.mono hHeld.size)) (fun hHeld => ?_)
                clear hK K hb9
                try simp only [Act.put, List.getElem_toArray, List.getElem_cons_succ, List.getElem_cons_zero, List.setIfInBounds_toArray, List.set_cons_zero, List.set_cons_succ]
                refine wpAnyH_ready (rs := [6]) (by kernel_rfl) (by simp) ?_
                refine AllReadyH.cons rfl (fun K hK => ?_) AllReadyH.nil
                refine wp_store_blk 24 _ _ rfl gP _ (idVals U) 24 hBP rfl rfl hzU (by rw [hsP, sU]) h1U ?_
                clear hBP; intro VSP hBP hg9
                replace hBQ := blk_gM hBQ hg9 ne.symm
                refine hK.out _ _ (hHeld.grown hg9 hHeld.size (fun q hq => by have := Option.some.inj hq; omega)) (fun hHeld => ?_)
                clear hK K hg9
                try simp only [Act.put, List.getElem_toArray, List.getElem_cons_succ, List.getElem_cons_zero, List.setIfInBounds_toArray, List.set_cons_zero, List.set_cons_succ]
                refine wpAnyH_ready (rs := [7]) (by kernel_rfl) (by simp) ?_
                refine AllReadyH.cons rfl (fun K hK => ?_) AllReadyH.nil
                refine wp_store_blk 24 _ _ rfl gQ _ (idVals V) 24 hBQ rfl rfl hzV (by rw [hsQ, sV]) h1V ?_
                clear hBQ; intro VSQ hBQ hg9
                replace hBP := blk_gM hBP hg9 ne
                refine hK.out _ _ (hHeld.grown hg9 hHeld.size (fun q hq => by have := Option.some.inj hq; omega)) (fun hHeld => ?_)
                clear hK K hg9
                try simp only [Act.put, List.getElem_toArray, List.getElem_cons_succ, List.getElem_cons_zero, List.setIfInBounds_toArray, List.set_cons_zero, List.set_cons_succ]
                refine wpAnyH_done (by kernel_rfl) ?_ _
                go_wp2_with (fail)
                go_meet
                exact ⟨gP, gQ, rfl, rfl, hBP, hBQ, HDR.out.trans (hHeld.mono HDR.out.size)⟩
        · as_aux_lemma =>
            refine wp_allocI rfl ?_
            intro gP csP VP hsP hnP hBP hb9
            have nP : V0.heap.size ≤ gP := by have := hnP.out; have := hHeld.size; omega
            have ne : gP ≠ gQ := by have := hnP.out; have := hBQ.lt; omega
            replace hBQ := hBQ.below hb9
            refine hK.out _ _ (hHeld.trans (hb9.mono hHeld.size)) (fun hHeld => ?_)
            clear hK K hb9 hnP
            try simp only [Act.put, List.getElem_toArray, List.getElem_cons_succ, List.getElem_cons_zero, List.setIfInBounds_toArray, List.set_cons_zero, List.set_cons_succ]
            refine wpAnyH_ready (rs := [1]) (by kernel_rfl) (by simp) ?_
            refine AllReadyH.cons rfl (fun K hK => ?_) AllReadyH.nil
            go_simp
            (with_reducible refine (HSa.out _).mono ?_)
            rintro e9 V9 ⟨rfl, hb9⟩
            replace hBQ := hBQ.below hb9
            replace hBP := hBP.below hb9
            refine hK.out _ _ (hHeld.trans (hb9.mono hHeld.size)) (fun hHeld => ?_)
            clear hK K hb9
            try simp only [Act.put, List.getElem_toArray, List.getElem_cons_succ, List.getElem_cons_zero, List.setIfInBounds_toArray, List.set_cons_zero, List.set_cons_succ]
            refine wpAnyH_ready (rs := [3]) (by kernel_rfl) (by simp) ?_
            refine AllReadyH.cons rfl (fun K hK => ?_) AllReadyH.nil
            go_simp
            (with_reducible refine (HSb.out _).mono ?_)
            rintro e9 V9 ⟨rfl, hb9⟩
            replace hBQ := hBQ.below hb9
            replace hBP := hBP.below hb9
            refine hK.out _ _ (hHeld.trans (hb9.mono hHeld.size)) (fun hHeld => ?_)
            clear hK K hb9
            try simp only [Act.put, List.getElem_toArray, List.getElem_cons_succ, List.getElem_cons_zero, List.setIfInBounds_toArray, List.set_cons_zero, List.set_cons_succ]
            refine wpAnyH_ready (rs := [6]) (by kernel_rfl) (by simp) ?_
            refine AllReadyH.cons rfl (fun K hK => ?_) AllReadyH.nil
            refine wp_store_blk 24 _ _ rfl gP _ (idVals U) 24 hBP rfl rfl hzU (by rw [hsP, sU]) h1U ?_
            clear hBP; intro VSP hBP hg9
            replace hBQ := blk_gM hBQ hg9 ne.symm
            refine hK.out _ _ (hHeld.grown hg9 hHeld.size (fun q hq => by have := Option.some.inj hq; omega)) (fun hHeld => ?_)
            clear hK K hg9
            try simp only [Act.put, List.getElem_toArray, List.getElem_cons_succ, List.getElem_cons_zero, List.setIfInBounds_toArray, List.set_cons_zero, List.set_cons_succ]
            refine wpAnyH_ready (rs := [7]) (by kernel_rfl) (by simp) ?_
            refine AllReadyH.cons rfl (fun K hK => ?_) AllReadyH.nil
            refine wp_store_blk 24 _ _ rfl gQ _ (idVals V) 24 hBQ rfl rfl hzV (by rw [hsQ, sV]) h1V ?_
            clear hBQ; intro VSQ hBQ hg9
            replace hBP := blk_gM hBP hg9 ne
            refine hK.out _ _ (hHeld.grown hg9 hHeld.size (fun q hq => by have := Option.some.inj hq; omega)) (fun hHeld => ?_)
            clear hK K hg9
            try simp only [Act.put, List.getElem_toArray, List.getElem_cons_succ, List.getElem_cons_zero, List.setIfInBounds_toArray, List.set_cons_zero, List.set_cons_succ]
            refine wpAnyH_done (by kernel_rfl) ?_ _
            go_wp2_with (fail)
            go_meet
            exact ⟨gP, gQ, rfl, rfl, hBP, hBQ, HDR.out.trans (hHeld.mono HDR.out.size)⟩
  case rest =>
    obtain ⟨g9, g10, rfl, rfl, h9, h10, hb⟩ := hcut
    have hzU : (Try.prog.info? 24).map (·.size) = some (U.map u8v).length := by rw [List.length_map, HU32.out]; exact sizeId
    have hzV : (Try.prog.info? 24).map (·.size) = some (V.map u8v).length := by rw [List.length_map, HV32.out]; exact sizeId
    have r9 := range_blk h9
    have r10 := range_blk h10
    have heU := HEU.out
    go_upto_region 2 with (first
      | (with_reducible refine wpList_load_if (by with_unfolding_all rfl) 24 _ rfl _ _ rfl (U.map u8v) _ r9 hu rfl hzU ?_)
      | (with_reducible refine wpList_load_if (by with_unfolding_all rfl) 24 _ rfl _ _ rfl (V.map u8v) _ r10 hu rfl hzV ?_))
    clear r9 r10 heU
    replace HM := hid (HM.out.below hb)
    clear hb
    have HU9 := HU32
    have HV9 := HV32
    clear HU32 HV32
    have HU32 := HP32
    have HV32 := HQ32
    have H9 := hid h9
    have H10 := hid h10
    clear h9 h10 hzU hzV
    go_upto_region 2 with (fail)
    go_cut [11, 12] (fun s t wx => CuI wc P Q s t wx)
    case first =>
      have hU9 : P.length = 32 := HU32.out
      have hV9 : Q.length = 32 := HV32.out
      have hzU : (Try.prog.info? 24).map (·.size) = some (idVals P).size := by rw [idVals_size, hU9]; exact sizeId
      have hzV : (Try.prog.info? 24).map (·.size) = some (idVals Q).size := by rw [idVals_size, hV9]; exact sizeId
      have sU : (idVals P).size = 32 := by rw [idVals_size, hU9]
      have sV : (idVals Q).size = 32 := by rw [idVals_size, hV9]
      have h1U := idVals_one P
      have h1V := idVals_one Q
      have HM9 := hid (HM.out.below (below_drew1 wc))
      have HDR := hid (below_drew1 wc)
      refine wp_region_held_drew (S := fun V => Below wc.drew.heap.size wc.drew V) (by kernel_rfl) (Below.refl _ _) (fun hHeld => ?_)
      generalize wc.drew = V0 at *
      have fl := HM9.out.l.cell_ (i := 0) rfl
      have fm := HM9.out.m.cell_ (i := 0) rfl
      refine' wpAnyH_take (i := 0) (v := .slice A n c) rfl (by kernel_rfl) (by kernel_rfl) (by kernel_rfl) (fun _ _ _ h => h) (Or.inl ⟨by rfl, fun w' hw' => by have hv := cell_belM hw' fl; go_simp⟩) hHeld ?_
      try simp only [Act.put, List.getElem_toArray, List.getElem_cons_succ, List.getElem_cons_zero, List.setIfInBounds_toArray, List.set_cons_zero, List.set_cons_succ]
      refine' wpAnyH_take (i := 1) (v := .int .i64 (x : Int)) rfl (by kernel_rfl) (by kernel_rfl) (by kernel_rfl) (fun _ _ _ h => h) (Or.inl ⟨by rfl, fun w' hw' => by go_simp⟩) hHeld ?_
      try simp only [Act.put, List.getElem_toArray, List.getElem_cons_succ, List.getElem_cons_zero, List.setIfInBounds_toArray, List.set_cons_zero, List.set_cons_succ]
      refine' wpAnyH_take (i := 2) (v := .int .i64 (z : Int)) rfl (by kernel_rfl) (by kernel_rfl) (by kernel_rfl) (fun _ _ _ h => h) (Or.inl ⟨by rfl, fun w' hw' => by go_simp⟩) hHeld ?_
      try simp only [Act.put, List.getElem_toArray, List.getElem_cons_succ, List.getElem_cons_zero, List.setIfInBounds_toArray, List.set_cons_zero, List.set_cons_succ]
      refine' wpAnyH_take (i := 3) (v := .slice A1 y c1) rfl (by kernel_rfl) (by kernel_rfl) (by kernel_rfl) (fun _ _ _ h => h) (Or.inl ⟨by rfl, fun w' hw' => by have hv := HE1.out w'; go_simp⟩) hHeld ?_
      try simp only [Act.put, List.getElem_toArray, List.getElem_cons_succ, List.getElem_cons_zero, List.setIfInBounds_toArray, List.set_cons_zero, List.set_cons_succ]
      refine' wpAnyH_take (i := 5) (v := .slice B m d) rfl (by kernel_rfl) (by kernel_rfl) (by kernel_rfl) (fun _ _ _ h => h) (Or.inl ⟨by rfl, fun w' hw' => by have hv := cell_belM hw' fm; go_simp⟩) hHeld ?_
      try simp only [Act.put, List.getElem_toArray, List.getElem_cons_succ, List.getElem_cons_zero, List.setIfInBounds_toArray, List.set_cons_zero, List.set_cons_succ]
      refine' wpAnyH_take (i := 6) (v := .int .i64 (x : Int)) rfl (by kernel_rfl) (by kernel_rfl) (by kernel_rfl) (fun _ _ _ h => h) (Or.inl ⟨by rfl, fun w' hw' => by go_simp⟩) hHeld ?_
      try simp only [Act.put, List.getElem_toArray, List.getElem_cons_succ, List.getElem_cons_zero, List.setIfInBounds_toArray, List.set_cons_zero, List.set_cons_succ]
      refine' wpAnyH_take (i := 7) (v := .int .i64 (z : Int)) rfl (by kernel_rfl) (by kernel_rfl) (by kernel_rfl) (fun _ _ _ h => h) (Or.inl ⟨by rfl, fun w' hw' => by go_simp⟩) hHeld ?_
      try simp only [Act.put, List.getElem_toArray, List.getElem_cons_succ, List.getElem_cons_zero, List.setIfInBounds_toArray, List.set_cons_zero, List.set_cons_succ]
      refine' wpAnyH_take (i := 8) (v := .slice B1 y d1) rfl (by kernel_rfl) (by kernel_rfl) (by kernel_rfl) (fun _ _ _ h => h) (Or.inl ⟨by rfl, fun w' hw' => by have hv := HE2.out w'; go_simp⟩) hHeld ?_
      try simp only [Act.put, List.getElem_toArray, List.getElem_cons_succ, List.getElem_cons_zero, List.setIfInBounds_toArray, List.set_cons_zero, List.set_cons_succ]
      refine wpAnyH_ready (rs := [4, 10, 11]) (by kernel_rfl) (by simp) ?_
      refine AllReadyH.cons rfl (fun K hK => ?_) (AllReadyH.cons rfl (fun K hK => ?_) (AllReadyH.cons rfl (fun K hK => ?_) AllReadyH.nil))
      · as_aux_lemma =>
          go_simp
          (with_reducible refine (HRa.out _ (HM9.out.q.trans (hHeld.mono HM9.out.q.size))).mono ?_)
          rintro e9 V9 ⟨rfl, hb9⟩
          refine hK.out _ _ (hHeld.trans (hb9.mono hHeld.size)) (fun hHeld => ?_)
          clear hK K hb9
          try simp only [Act.put, List.getElem_toArray, List.getElem_cons_succ, List.getElem_cons_zero, List.setIfInBounds_toArray, List.set_cons_zero, List.set_cons_succ]
          refine wpAnyH_ready (rs := [9, 10, 11]) (by kernel_rfl) (by simp) ?_
          refine AllReadyH.cons rfl (fun K hK => ?_) (AllReadyH.cons rfl (fun K hK => ?_) (AllReadyH.cons rfl (fun K hK => ?_) AllReadyH.nil))
          · as_aux_lemma =>
              go_simp
              (with_reducible refine (HRb.out _ (HM9.out.q.trans (hHeld.mono HM9.out.q.size))).mono ?_)
              rintro e9 V9 ⟨rfl, hb9⟩
              refine hK.out _ _ (hHeld.trans (hb9.mono hHeld.size)) (fun hHeld => ?_)
              clear hK K hb9
              try simp only [Act.put, List.getElem_toArray, List.getElem_cons_succ, List.getElem_cons_zero, List.setIfInBounds_toArray, List.set_cons_zero, List.set_cons_succ]
              refine wpAnyH_ready (rs := [10, 11]) (by kernel_rfl) (by simp) ?_
              refine AllReadyH.cons rfl (fun K hK => ?_) (AllReadyH.cons rfl (fun K hK => ?_) AllReadyH.nil)
              · as_aux_lemma =>
                  refine wp_allocI rfl ?_
                  intro gP csP VP hsP hnP hBP hb9
                  have nP : V0.heap.size ≤ gP := by have := hnP.out; have := hHeld.size; omega
                  refine hK.out _ _ (hHeld.trans (hb9.mono hHeld.size)) (fun hHeld => ?_)
                  clear hK K hb9 hnP
                  try simp only [Act.put, List.getElem_toArray, List.getElem_cons_succ, List.getElem_cons_zero, List.setIfInBounds_toArray, List.set_cons_zero, List.set_cons_succ]
                  refine wpAnyH_ready (rs := [11]) (by kernel_rfl) (by simp) ?_
                  refine AllReadyH.cons rfl (fun K hK => ?_) AllReadyH.nil
                  refine wp_allocI rfl ?_
                  intro gQ csQ VQ hsQ hnQ hBQ hb9
                  have nQ : V0.heap.size ≤ gQ := by have := hnQ.out; have := hHeld.size; omega
                  have ne : gP ≠ gQ := by have := hnQ.out; have := hBP.lt; omega
                  replace hBP := hBP.below hb9
                  refine hK.out _ _ (hHeld.trans (hb9.mono hHeld.size)) (fun hHeld => ?_)
                  clear hK K hb9 hnQ
                  try simp only [Act.put, List.getElem_toArray, List.getElem_cons_succ, List.getElem_cons_zero, List.setIfInBounds_toArray, List.set_cons_zero, List.set_cons_succ]
                  refine wpAnyH_ready (rs := [12]) (by kernel_rfl) (by simp) ?_
                  refine AllReadyH.cons rfl (fun K hK => ?_) AllReadyH.nil
                  refine wp_store_blk 24 _ _ rfl gP _ (idVals P) 24 hBP rfl rfl hzU (by rw [hsP, sU]) h1U ?_
                  clear hBP; intro VSP hBP hg9
                  replace hBQ := blk_gM hBQ hg9 ne.symm
                  refine hK.out _ _ (hHeld.grown hg9 hHeld.size (fun q hq => by have := Option.some.inj hq; omega)) (fun hHeld => ?_)
                  clear hK K hg9
                  try simp only [Act.put, List.getElem_toArray, List.getElem_cons_succ, List.getElem_cons_zero, List.setIfInBounds_toArray, List.set_cons_zero, List.set_cons_succ]
                  refine wpAnyH_ready (rs := [13]) (by kernel_rfl) (by simp) ?_
                  refine AllReadyH.cons rfl (fun K hK => ?_) AllReadyH.nil
                  refine wp_store_blk 24 _ _ rfl gQ _ (idVals Q) 24 hBQ rfl rfl hzV (by rw [hsQ, sV]) h1V ?_
                  clear hBQ; intro VSQ hBQ hg9
                  replace hBP := blk_gM hBP hg9 ne
                  refine hK.out _ _ (hHeld.grown hg9 hHeld.size (fun q hq => by have := Option.some.inj hq; omega)) (fun hHeld => ?_)
                  clear hK K hg9
                  try simp only [Act.put, List.getElem_toArray, List.getElem_cons_succ, List.getElem_cons_zero, List.setIfInBounds_toArray, List.set_cons_zero, List.set_cons_succ]
                  refine wpAnyH_done (by kernel_rfl) ?_ _
                  go_wp2_with (fail)
                  go_meet
                  exact ⟨gP, gQ, rfl, rfl, hBP, hBQ, HDR.out.trans (hHeld.mono HDR.out.size)⟩
              · as_aux_lemma =>
                  refine wp_allocI rfl ?_
                  intro gQ csQ VQ hsQ hnQ hBQ hb9
                  have nQ : V0.heap.size ≤ gQ := by have := hnQ.out; have := hHeld.size; omega
                  refine hK.out _ _ (hHeld.trans (hb9.mono hHeld.size)) (fun hHeld => ?_)
                  clear hK K hb9 hnQ
                  try simp only [Act.put, List.getElem_toArray, List.getElem_cons_succ, List.getElem_cons_zero, List.setIfInBounds_toArray, List.set_cons_zero, List.set_cons_succ]
                  refine wpAnyH_ready (rs := [10]) (by kernel_rfl) (by simp) ?_
                  refine AllReadyH.cons rfl (fun K hK => ?_) AllReadyH.nil
                  refine wp_allocI rfl ?_
                  intro gP csP VP hsP hnP hBP hb9
                  have nP : V0.heap.size ≤ gP := by have := hnP.out; have := hHeld.size; omega
                  have ne : gP ≠ gQ := by have := hnP.out; have := hBQ.lt; omega
                  replace hBQ := hBQ.below hb9
                  refine hK.out _ _ (hHeld.trans (hb9.mono hHeld.size)) (fun hHeld => ?_)
                  clear hK K hb9 hnP
                  try simp only [Act.put, List.getElem_toArray, List.getElem_cons_succ, List.getElem_cons_zero, List.setIfInBounds_toArray, List.set_cons_zero, List.set_cons_succ]
                  refine wpAnyH_ready (rs := [12]) (by kernel_rfl) (by simp) ?_
                  refine AllReadyH.cons rfl (fun K hK => ?_) AllReadyH.nil
                  refine wp_store_blk 24 _ _ rfl gP _ (idVals P) 24 hBP rfl rfl hzU (by rw [hsP, sU]) h1U ?_
                  clear hBP; intro VSP hBP hg9
                  replace hBQ := blk_gM hBQ hg9 ne.symm
                  refine hK.out _ _ (hHeld.grown hg9 hHeld.size (fun q hq => by have := Option.some.inj hq; omega)) (fun hHeld => ?_)
                  clear hK K hg9
                  try simp only [Act.put, List.getElem_toArray, List.getElem_cons_succ, List.getElem_cons_zero, List.setIfInBounds_toArray, List.set_cons_zero, List.set_cons_succ]
                  refine wpAnyH_ready (rs := [13]) (by kernel_rfl) (by simp) ?_
                  refine AllReadyH.cons rfl (fun K hK => ?_) AllReadyH.nil
                  refine wp_store_blk 24 _ _ rfl gQ _ (idVals Q) 24 hBQ rfl rfl hzV (by rw [hsQ, sV]) h1V ?_
                  clear hBQ; intro VSQ hBQ hg9
                  replace hBP := blk_gM hBP hg9 ne
                  refine hK.out _ _ (hHeld.grown hg9 hHeld.size (fun q hq => by have := Option.some.inj hq; omega)) (fun hHeld => ?_)
                  clear hK K hg9
                  try simp only [Act.put, List.getElem_toArray, List.getElem_cons_succ, List.getElem_cons_zero, List.setIfInBounds_toArray, List.set_cons_zero, List.set_cons_succ]
                  refine wpAnyH_done (by kernel_rfl) ?_ _
                  go_wp2_with (fail)
                  go_meet
                  exact ⟨gP, gQ, rfl, rfl, hBP, hBQ, HDR.out.trans (hHeld.mono HDR.out.size)⟩
          · as_aux_lemma =>
              refine wp_allocI rfl ?_
              intro gP csP VP hsP hnP hBP hb9
              have nP : V0.heap.size ≤ gP := by have := hnP.out; have := hHeld.size; omega
              refine hK.out _ _ (hHeld.trans (hb9.mono hHeld.size)) (fun hHeld => ?_)
              clear hK K hb9 hnP
              try simp only [Act.put, List.getElem_toArray, List.getElem_cons_succ, List.getElem_cons_zero, List.setIfInBounds_toArray, List.set_cons_zero, List.set_cons_succ]
              refine wpAnyH_ready (rs := [9, 11]) (by kernel_rfl) (by simp) ?_
              refine AllReadyH.cons rfl (fun K hK => ?_) (AllReadyH.cons rfl (fun K hK => ?_) AllReadyH.nil)
              · as_aux_lemma =>
                  go_simp
                  (with_reducible refine (HRb.out _ (HM9.out.q.trans (hHeld.mono HM9.out.q.size))).mono ?_)
                  rintro e9 V9 ⟨rfl, hb9⟩
                  replace hBP := hBP.below hb9
                  refine hK.out _ _ (hHeld.trans (hb9.mono hHeld.size)) (fun hHeld => ?_)
                  clear hK K hb9
                  try simp only [Act.put, List.getElem_toArray, List.getElem_cons_succ, List.getElem_cons_zero, List.setIfInBounds_toArray, List.set_cons_zero, List.set_cons_succ]
                  refine wpAnyH_ready (rs := [11]) (by kernel_rfl) (by simp) ?_
                  refine AllReadyH.cons rfl (fun K hK => ?_) AllReadyH.nil
                  refine wp_allocI rfl ?_
                  intro gQ csQ VQ hsQ hnQ hBQ hb9
                  have nQ : V0.heap.size ≤ gQ := by have := hnQ.out; have := hHeld.size; omega
                  have ne : gP ≠ gQ := by have := hnQ.out; have := hBP.lt; omega
                  replace hBP := hBP.below hb9
                  refine hK.out _ _ (hHeld.trans (hb9.mono hHeld.size)) (fun hHeld => ?_)
                  clear hK K hb9 hnQ
                  try simp only [Act.put, List.getElem_toArray, List.getElem_cons_succ, List.getElem_cons_zero, List.setIfInBounds_toArray, List.set_cons_zero, List.set_cons_succ]
                  refine wpAnyH_ready (rs := [12]) (by kernel_rfl) (by simp) ?_
                  refine AllReadyH.cons rfl (fun K hK => ?_) AllReadyH.nil
                  refine wp_store_blk 24 _ _ rfl gP _ (idVals P) 24 hBP rfl rfl hzU (by rw [hsP, sU]) h1U ?_
                  clear hBP; intro VSP hBP hg9
                  replace hBQ := blk_gM hBQ hg9 ne.symm
                  refine hK.out _ _ (hHeld.grown hg9 hHeld.size (fun q hq => by have := Option.some.inj hq; omega)) (fun hHeld => ?_)
                  clear hK K hg9
                  try simp only [Act.put, List.getElem_toArray, List.getElem_cons_succ, List.getElem_cons_zero, List.setIfInBounds_toArray, List.set_cons_zero, List.set_cons_succ]
                  refine wpAnyH_ready (rs := [13]) (by kernel_rfl) (by simp) ?_
                  refine AllReadyH.cons rfl (fun K hK => ?_) AllReadyH.nil
                  refine wp_store_blk 24 _ _ rfl gQ _ (idVals Q) 24 hBQ rfl rfl hzV (by rw [hsQ, sV]) h1V ?_
                  clear hBQ; intro VSQ hBQ hg9
                  replace hBP := blk_gM hBP hg9 ne
                  refine hK.out _ _ (hHeld.grown hg9 hHeld.size (fun q hq => by have := Option.some.inj hq; omega)) (fun hHeld => ?_)
                  clear hK K hg9
                  try simp only [Act.put, List.getElem_toArray, List.getElem_cons_succ, List.getElem_cons_zero, List.setIfInBounds_toArray, List.set_cons_zero, List.set_cons_succ]
                  refine wpAnyH_done (by kernel_rfl) ?_ _
                  go_wp2_with (fail)
                  go_meet
                  exact ⟨gP, gQ, rfl, rfl, hBP, hBQ, HDR.out.trans (hHeld.mono HDR.out.size)⟩
              · as_aux_lemma =>
                  refine wp_allocI rfl ?_
                  intro gQ csQ VQ hsQ hnQ hBQ hb9
                  have nQ : V0.heap.size ≤ gQ := by have := hnQ.out; have := hHeld.size; omega
                  have ne : gP ≠ gQ := by have := hnQ.out; have := hBP.lt; omega
                  replace hBP := hBP.below hb9
                  refine hK.out _ _ (hHeld.trans (hb9.mono hHeld.size)) (fun hHeld => ?_)
                  clear hK K hb9 hnQ
                  try simp only [Act.put, List.getElem_toArray, List.getElem_cons_succ, List.getElem_cons_zero, List.setIfInBounds_toArray, List.set_cons_zero, List.set_cons_succ]
                  refine wpAnyH_ready (rs := [9]) (by kernel_rfl) (by simp) ?_
                  refine AllReadyH.cons rfl (fun K hK => ?_) AllReadyH.nil
                  go_simp
                  (with_reducible refine (HRb.out _ (HM9.out.q.trans (hHeld.mono HM9.out.q.size))).mono ?_)
                  rintro e9 V9 ⟨rfl, hb9⟩
                  replace hBP := hBP.below hb9
                  replace hBQ := hBQ.below hb9
                  refine hK.out _ _ (hHeld.trans (hb9.mono hHeld.size)) (fun hHeld => ?_)
                  clear hK K hb9
                  try simp only [Act.put, List.getElem_toArray, List.getElem_cons_succ, List.getElem_cons_zero, List.setIfInBounds_toArray, List.set_cons_zero, List.set_cons_succ]
                  refine wpAnyH_ready (rs := [12]) (by kernel_rfl) (by simp) ?_
                  refine AllReadyH.cons rfl (fun K hK => ?_) AllReadyH.nil
                  refine wp_store_blk 24 _ _ rfl gP _ (idVals P) 24 hBP rfl rfl hzU (by rw [hsP, sU]) h1U ?_
                  clear hBP; intro VSP hBP hg9
                  replace hBQ := blk_gM hBQ hg9 ne.symm
                  refine hK.out _ _ (hHeld.grown hg9 hHeld.size (fun q hq => by have := Option.some.inj hq; omega)) (fun hHeld => ?_)
                  clear hK K hg9
                  try simp only [Act.put, List.getElem_toArray, List.getElem_cons_succ, List.getElem_cons_zero, List.setIfInBounds_toArray, List.set_cons_zero, List.set_cons_succ]
                  refine wpAnyH_ready (rs := [13]) (by kernel_rfl) (by simp) ?_
                  refine AllReadyH.cons rfl (fun K hK => ?_) AllReadyH.nil
                  refine wp_store_blk 24 _ _ rfl gQ _ (idVals Q) 24 hBQ rfl rfl hzV (by rw [hsQ, sV]) h1V ?_
                  clear hBQ; intro VSQ hBQ hg9
                  replace hBP := blk_gM hBP hg9 ne
                  refine hK.out _ _ (hHeld.grown hg9 hHeld.size (fun q hq => by have := Option.some.inj hq; omega)) (fun hHeld => ?_)
                  clear hK K hg9
                  try simp only [Act.put, List.getElem_toArray, List.getElem_cons_succ, List.getElem_cons_zero, List.setIfInBounds_toArray, List.set_cons_zero, List.set_cons_succ]
                  refine wpAnyH_done (by kernel_rfl) ?_ _
                  go_wp2_with (fail)
                  go_meet
                  exact ⟨gP, gQ, rfl, rfl, hBP, hBQ, HDR.out.trans (hHeld.mono HDR.out.size)⟩
          · as_aux_lemma =>
              refine wp_allocI rfl ?_
              intro gQ csQ VQ hsQ hnQ hBQ hb9
              have nQ : V0.heap.size ≤ gQ := by have := hnQ.out; have := hHeld.size; omega
              refine hK.out _ _ (hHeld.trans (hb9.mono hHeld.size)) (fun hHeld => ?_)
              clear hK K hb9 hnQ
              try simp only [Act.put, List.getElem_toArray, List.getElem_cons_succ, List.getElem_cons_zero, List.setIfInBounds_toArray, List.set_cons_zero, List.set_cons_succ]
              refine wpAnyH_ready (rs := [9, 10]) (by kernel_rfl) (by simp) ?_
              refine AllReadyH.cons rfl (fun K hK => ?_) (AllReadyH.cons rfl (fun K hK => ?_) AllReadyH.nil)
              · as_aux_lemma =>
                  go_simp
                  (with_reducible refine (HRb.out _ (HM9.out.q.trans (hHeld.mono HM9.out.q.size))).mono ?_)
                  rintro e9 V9 ⟨rfl, hb9⟩
                  replace hBQ := hBQ.below hb9
                  refine hK.out _ _ (hHeld.trans (hb9.mono hHeld.size)) (fun hHeld => ?_)
                  clear hK K hb9
                  try simp only [Act.put, List.getElem_toArray, List.getElem_cons_succ, List.getElem_cons_zero, List.setIfInBounds_toArray, List.set_cons_zero, List.set_cons_succ]
                  refine wpAnyH_ready (rs := [10]) (by kernel_rfl) (by simp) ?_
                  refine AllReadyH.cons rfl (fun K hK => ?_) AllReadyH.nil
                  refine wp_allocI rfl ?_
                  intro gP csP VP hsP hnP hBP hb9
                  have nP : V0.heap.size ≤ gP := by have := hnP.out; have := hHeld.size; omega
                  have ne : gP ≠ gQ := by have := hnP.out; have := hBQ.lt; omega
                  replace hBQ := hBQ.below hb9
                  refine hK.out _ _ (hHeld.trans (hb9.mono hHeld.size)) (fun hHeld => ?_)
                  clear hK K hb9 hnP
                  try simp only [Act.put, List.getElem_toArray, List.getElem_cons_succ, List.getElem_cons_zero, List.setIfInBounds_toArray, List.set_cons_zero, List.set_cons_succ]
                  refine wpAnyH_ready (rs := [12]) (by kernel_rfl) (by simp) ?_
                  refine AllReadyH.cons rfl (fun K hK => ?_) AllReadyH.nil
                  refine wp_store_blk 24 _ _ rfl gP _ (idVals P) 24 hBP rfl rfl hzU (by rw [hsP, sU]) h1U ?_
                  clear hBP; intro VSP hBP hg9
                  replace hBQ := blk_gM hBQ hg9 ne.symm
                  refine hK.out _ _ (hHeld.grown hg9 hHeld.size (fun q hq => by have := Option.some.inj hq; omega)) (fun hHeld => ?_)
                  clear hK K hg9
                  try simp only [Act.put, List.getElem_toArray, List.getElem_cons_succ, List.getElem_cons_zero, List.setIfInBounds_toArray, List.set_cons_zero, List.set_cons_succ]
                  refine wpAnyH_ready (rs := [13]) (by kernel_rfl) (by simp) ?_
                  refine AllReadyH.cons rfl (fun K hK => ?_) AllReadyH.nil
                  refine wp_store_blk 24 _ _ rfl gQ _ (idVals Q) 24 hBQ rfl rfl hzV (by rw [hsQ, sV]) h1V ?_
                  clear hBQ; intro VSQ hBQ hg9
                  replace hBP := blk_gM hBP hg9 ne
                  refine hK.out _ _ (hHeld.grown hg9 hHeld.size (fun q hq => by have := Option.some.inj hq; omega)) (fun hHeld => ?_)
                  clear hK K hg9
                  try simp only [Act.put, List.getElem_toArray, List.getElem_cons_succ, List.getElem_cons_zero, List.setIfInBounds_toArray, List.set_cons_zero, List.set_cons_succ]
                  refine wpAnyH_done (by kernel_rfl) ?_ _
                  go_wp2_with (fail)
                  go_meet
                  exact ⟨gP, gQ, rfl, rfl, hBP, hBQ, HDR.out.trans (hHeld.mono HDR.out.size)⟩
              · as_aux_lemma =>
                  refine wp_allocI rfl ?_
                  intro gP csP VP hsP hnP hBP hb9
                  have nP : V0.heap.size ≤ gP := by have := hnP.out; have := hHeld.size; omega
                  have ne : gP ≠ gQ := by have := hnP.out; have := hBQ.lt; omega
                  replace hBQ := hBQ.below hb9
                  refine hK.out _ _ (hHeld.trans (hb9.mono hHeld.size)) (fun hHeld => ?_)
                  clear hK K hb9 hnP
                  try simp only [Act.put, List.getElem_toArray, List.getElem_cons_succ, List.getElem_cons_zero, List.setIfInBounds_toArray, List.set_cons_zero, List.set_cons_succ]
                  refine wpAnyH_ready (rs := [9]) (by kernel_rfl) (by simp) ?_
                  refine AllReadyH.cons rfl (fun K hK => ?_) AllReadyH.nil
                  go_simp
                  (with_reducible refine (HRb.out _ (HM9.out.q.trans (hHeld.mono HM9.out.q.size))).mono ?_)
                  rintro e9 V9 ⟨rfl, hb9⟩
                  replace hBQ := hBQ.below hb9
                  replace hBP := hBP.below hb9
                  refine hK.out _ _ (hHeld.trans (hb9.mono hHeld.size)) (fun hHeld => ?_)
                  clear hK K hb9
                  try simp only [Act.put, List.getElem_toArray, List.getElem_cons_succ, List.getElem_cons_zero, List.setIfInBounds_toArray, List.set_cons_zero, List.set_cons_succ]
                  refine wpAnyH_ready (rs := [12]) (by kernel_rfl) (by simp) ?_
                  refine AllReadyH.cons rfl (fun K hK => ?_) AllReadyH.nil
                  refine wp_store_blk 24 _ _ rfl gP _ (idVals P) 24 hBP rfl rfl hzU (by rw [hsP, sU]) h1U ?_
                  clear hBP; intro VSP hBP hg9
                  replace hBQ := blk_gM hBQ hg9 ne.symm
                  refine hK.out _ _ (hHeld.grown hg9 hHeld.size (fun q hq => by have := Option.some.inj hq; omega)) (fun hHeld => ?_)
                  clear hK K hg9
                  try simp only [Act.put, List.getElem_toArray, List.getElem_cons_succ, List.getElem_cons_zero, List.setIfInBounds_toArray, List.set_cons_zero, List.set_cons_succ]
                  refine wpAnyH_ready (rs := [13]) (by kernel_rfl) (by simp) ?_
                  refine AllReadyH.cons rfl (fun K hK => ?_) AllReadyH.nil
                  refine wp_store_blk 24 _ _ rfl gQ _ (idVals Q) 24 hBQ rfl rfl hzV (by rw [hsQ, sV]) h1V ?_
                  clear hBQ; intro VSQ hBQ hg9
                  replace hBP := blk_gM hBP hg9 ne
                  refine hK.out _ _ (hHeld.grown hg9 hHeld.size (fun q hq => by have := Option.some.inj hq; omega)) (fun hHeld => ?_)
                  clear hK K hg9
                  try simp only [Act.put, List.getElem_toArray, List.getElem_cons_succ, List.getElem_cons_zero, List.setIfInBounds_toArray, List.set_cons_zero, List.set_cons_succ]
                  refine wpAnyH_done (by kernel_rfl) ?_ _
                  go_wp2_with (fail)
                  go_meet
                  exact ⟨gP, gQ, rfl, rfl, hBP, hBQ, HDR.out.trans (hHeld.mono HDR.out.size)⟩
      · as_aux_lemma =>
          refine wp_allocI rfl ?_
          intro gP csP VP hsP hnP hBP hb9
          have nP : V0.heap.size ≤ gP := by have := hnP.out; have := hHeld.size; omega
          refine hK.out _ _ (hHeld.trans (hb9.mono hHeld.size)) (fun hHeld => ?_)
          clear hK K hb9 hnP
          try simp only [Act.put, List.getElem_toArray, List.getElem_cons_succ, List.getElem_cons_zero, List.setIfInBounds_toArray, List.set_cons_zero, List.set_cons_succ]
          refine wpAnyH_ready (rs := [4, 11]) (by kernel_rfl) (by simp) ?_
          refine AllReadyH.cons rfl (fun K hK => ?_) (AllReadyH.cons rfl (fun K hK => ?_) AllReadyH.nil)
          · as_aux_lemma =>
              go_simp
              (with_reducible refine (HRa.out _ (HM9.out.q.trans (hHeld.mono HM9.out.q.size))).mono ?_)
              rintro e9 V9 ⟨rfl, hb9⟩
              replace hBP := hBP.below hb9
              refine hK.out _ _ (hHeld.trans (hb9.mono hHeld.size)) (fun hHeld => ?_)
              clear hK K hb9
              try simp only [Act.put, List.getElem_toArray, List.getElem_cons_succ, List.getElem_cons_zero, List.setIfInBounds_toArray, List.set_cons_zero, List.set_cons_succ]
              refine wpAnyH_ready (rs := [9, 11]) (by kernel_rfl) (by simp) ?_
              refine AllReadyH.cons rfl (fun K hK => ?_) (AllReadyH.cons rfl (fun K hK => ?_) AllReadyH.nil)
              · as_aux_lemma =>
                  go_simp
                  (with_reducible refine (HRb.out _ (HM9.out.q.trans (hHeld.mono HM9.out.q.size))).mono ?_)
                  rintro e9 V9 ⟨rfl, hb9⟩
                  replace hBP := hBP.below hb9
                  refine hK.out _ _ (hHeld.trans (hb9.mono hHeld.size)) (fun hHeld => ?_)
                  clear hK K hb9
                  try simp only [Act.put, List.getElem_toArray, List.getElem_cons_succ, List.getElem_cons_zero, List.setIfInBounds_toArray, List.set_cons_zero, List.set_cons_succ]
                  refine wpAnyH_ready (rs := [11]) (by kernel_rfl) (by simp) ?_
                  refine AllReadyH.cons rfl (fun K hK => ?_) AllReadyH.nil
                  refine wp_allocI rfl ?_
                  intro gQ csQ VQ hsQ hnQ hBQ hb9
                  have nQ : V0.heap.size ≤ gQ := by have := hnQ.out; have := hHeld.size; omega
                  have ne : gP ≠ gQ := by have := hnQ.out; have := hBP.lt; omega
                  replace hBP := hBP.below hb9
                  refine hK.out _ _ (hHeld.trans (hb9.mono hHeld.size)) (fun hHeld => ?_)
                  clear hK K hb9 hnQ
                  try simp only [Act.put, List.getElem_toArray, List.getElem_cons_succ, List.getElem_cons_zero, List.setIfInBounds_toArray, List.set_cons_zero, List.set_cons_succ]
                  refine wpAnyH_ready (rs := [12]) (by kernel_rfl) (by simp) ?_
                  refine AllReadyH.cons rfl (fun K hK => ?_) AllReadyH.nil
                  refine wp_store_blk 24 _ _ rfl gP _ (idVals P) 24 hBP rfl rfl hzU (by rw [hsP, sU]) h1U ?_
                  clear hBP; intro VSP hBP hg9
                  replace hBQ := blk_gM hBQ hg9 ne.symm
                  refine hK.out _ _ (hHeld.grown hg9 hHeld.size (fun q hq => by have := Option.some.inj hq; omega)) (fun hHeld => ?_)
                  clear hK K hg9
                  try simp only [Act.put, List.getElem_toArray, List.getElem_cons_succ, List.getElem_cons_zero, List.setIfInBounds_toArray, List.set_cons_zero, List.set_cons_succ]
                  refine wpAnyH_ready (rs := [13]) (by kernel_rfl) (by simp) ?_
                  refine AllReadyH.cons rfl (fun K hK => ?_) AllReadyH.nil
                  refine wp_store_blk 24 _ _ rfl gQ _ (idVals Q) 24 hBQ rfl rfl hzV (by rw [hsQ, sV]) h1V ?_
                  clear hBQ; intro VSQ hBQ hg9
                  replace hBP := blk_gM hBP hg9 ne
                  refine hK.out _ _ (hHeld.grown hg9 hHeld.size (fun q hq => by have := Option.some.inj hq; omega)) (fun hHeld => ?_)
                  clear hK K hg9
                  try simp only [Act.put, List.getElem_toArray, List.getElem_cons_succ, List.getElem_cons_zero, List.setIfInBounds_toArray, List.set_cons_zero, List.set_cons_succ]
                  refine wpAnyH_done (by kernel_rfl) ?_ _
                  go_wp2_with (fail)
                  go_meet
                  exact ⟨gP, gQ, rfl, rfl, hBP, hBQ, HDR.out.trans (hHeld.mono HDR.out.size)⟩
              · as_aux_lemma =>
                  refine wp_allocI rfl ?_
                  intro gQ csQ VQ hsQ hnQ hBQ hb9
                  have nQ : V0.heap.size ≤ gQ := by have := hnQ.out; have := hHeld.size; omega
                  have ne : gP ≠ gQ := by have := hnQ.out; have := hBP.lt; omega
                  replace hBP := hBP.below hb9
                  refine hK.out _ _ (hHeld.trans (hb9.mono hHeld.size)) (fun hHeld => ?_)
                  clear hK K hb9 hnQ
                  try simp only [Act.put, List.getElem_toArray, List.getElem_cons_succ, List.getElem_cons_zero, List.setIfInBounds_toArray, List.set_cons_zero, List.set_cons_succ]
                  refine wpAnyH_ready (rs := [9]) (by kernel_rfl) (by simp) ?_
                  refine AllReadyH.cons rfl (fun K hK => ?_) AllReadyH.nil
                  go_simp
                  (with_reducible refine (HRb.out _ (HM9.out.q.trans (hHeld.mono HM9.out.q.size))).mono ?_)
                  rintro e9 V9 ⟨rfl, hb9⟩
                  replace hBP := hBP.below hb9
                  replace hBQ := hBQ.below hb9
                  refine hK.out _ _ (hHeld.trans (hb9.mono hHeld.size)) (fun hHeld => ?_)
                  clear hK K hb9
                  try simp only [Act.put, List.getElem_toArray, List.getElem_cons_succ, List.getElem_cons_zero, List.setIfInBounds_toArray, List.set_cons_zero, List.set_cons_succ]
                  refine wpAnyH_ready (rs := [12]) (by kernel_rfl) (by simp) ?_
                  refine AllReadyH.cons rfl (fun K hK => ?_) AllReadyH.nil
                  refine wp_store_blk 24 _ _ rfl gP _ (idVals P) 24 hBP rfl rfl hzU (by rw [hsP, sU]) h1U ?_
                  clear hBP; intro VSP hBP hg9
                  replace hBQ := blk_gM hBQ hg9 ne.symm
                  refine hK.out _ _ (hHeld.grown hg9 hHeld.size (fun q hq => by have := Option.some.inj hq; omega)) (fun hHeld => ?_)
                  clear hK K hg9
                  try simp only [Act.put, List.getElem_toArray, List.getElem_cons_succ, List.getElem_cons_zero, List.setIfInBounds_toArray, List.set_cons_zero, List.set_cons_succ]
                  refine wpAnyH_ready (rs := [13]) (by kernel_rfl) (by simp) ?_
                  refine AllReadyH.cons rfl (fun K hK => ?_) AllReadyH.nil
                  refine wp_store_blk 24 _ _ rfl gQ _ (idVals Q) 24 hBQ rfl rfl hzV (by rw [hsQ, sV]) h1V ?_
                  clear hBQ; intro VSQ hBQ hg9
                  replace hBP := blk_gM hBP hg9 ne
                  refine hK.out _ _ (hHeld.grown hg9 hHeld.size (fun q hq => by have := Option.some.inj hq; omega)) (fun hHeld => ?_)
                  clear hK K hg9
                  try simp only [Act.put, List.getElem_toArray, List.getElem_cons_succ, List.getElem_cons_zero, List.setIfInBounds_toArray, List.set_cons_zero, List.set_cons_succ]
                  refine wpAnyH_done (by kernel_rfl) ?_ _
                  go_wp2_with (fail)
                  go_meet
                  exact ⟨gP, gQ, rfl, rfl, hBP, hBQ, HDR.out.trans (hHeld.mono HDR.out.size)⟩
          · as_aux_lemma =>
              refine wp_allocI rfl ?_
              intro gQ csQ VQ hsQ hnQ hBQ hb9
              have nQ : V0.heap.size ≤ gQ := by have := hnQ.out; have := hHeld.size; omega
              have ne : gP ≠ gQ := by have := hnQ.out; have := hBP.lt; omega
              replace hBP := hBP.below hb9
              refine hK.out _ _ (hHeld.trans (hb9.mono hHeld.size)) (fun hHeld => ?_)
              clear hK K hb9 hnQ
              try simp only [Act.put, List.getElem_toArray, List.getElem_cons_succ, List.getElem_cons_zero, List.setIfInBounds_toArray, List.set_cons_zero, List.set_cons_succ]
              refine wpAnyH_ready (rs := [4]) (by kernel_rfl) (by simp) ?_
              refine AllReadyH.cons rfl (fun K hK => ?_) AllReadyH.nil
              go_simp
              (with_reducible refine (HRa.out _ (HM9.out.q.trans (hHeld.mono HM9.out.q.size))).mono ?_)
              rintro e9 V9 ⟨rfl, hb9⟩
              replace hBP := hBP.below hb9
              replace hBQ := hBQ.below hb9
              refine hK.out _ _ (hHeld.trans (hb9.mono hHeld.size)) (fun hHeld => ?_)
              clear hK K hb9
              try simp only [Act.put, List.getElem_toArray, List.getElem_cons_succ, List.getElem_cons_zero, List.setIfInBounds_toArray, List.set_cons_zero, List.set_cons_succ]
              refine wpAnyH_ready (rs := [9]) (by kernel_rfl) (by simp) ?_
              refine AllReadyH.cons rfl (fun K hK => ?_) AllReadyH.nil
              go_simp
              (with_reducible refine (HRb.out _ (HM9.out.q.trans (hHeld.mono HM9.out.q.size))).mono ?_)
              rintro e9 V9 ⟨rfl, hb9⟩
              replace hBP := hBP.below hb9
              replace hBQ := hBQ.below hb9
              refine hK.out _ _ (hHeld.trans (hb9.mono hHeld.size)) (fun hHeld => ?_)
              clear hK K hb9
              try simp only [Act.put, List.getElem_toArray, List.getElem_cons_succ, List.getElem_cons_zero, List.setIfInBounds_toArray, List.set_cons_zero, List.set_cons_succ]
              refine wpAnyH_ready (rs := [12]) (by kernel_rfl) (by simp) ?_
              refine AllReadyH.cons rfl (fun K hK => ?_) AllReadyH.nil
              refine wp_store_blk 24 _ _ rfl gP _ (idVals P) 24 hBP rfl rfl hzU (by rw [hsP, sU]) h1U ?_
              clear hBP; intro VSP hBP hg9
              replace hBQ := blk_gM hBQ hg9 ne.symm
              refine hK.out _ _ (hHeld.grown hg9 hHeld.size (fun q hq => by have := Option.some.inj hq; omega)) (fun hHeld => ?_)
              clear hK K hg9
              try simp only [Act.put, List.getElem_toArray, List.getElem_cons_succ, List.getElem_cons_zero, List.setIfInBounds_toArray, List.set_cons_zero, List.set_cons_succ]
              refine wpAnyH_ready (rs := [13]) (by kernel_rfl) (by simp) ?_
              refine AllReadyH.cons rfl (fun K hK => ?_) AllReadyH.nil
              refine wp_store_blk 24 _ _ rfl gQ _ (idVals Q) 24 hBQ rfl rfl hzV (by rw [hsQ, sV]) h1V ?_
              clear hBQ; intro VSQ hBQ hg9
              replace hBP := blk_gM hBP hg9 ne
              refine hK.out _ _ (hHeld.grown hg9 hHeld.size (fun q hq => by have := Option.some.inj hq; omega)) (fun hHeld => ?_)
              clear hK K hg9
              try simp only [Act.put, List.getElem_toArray, List.getElem_cons_succ, List.getElem_cons_zero, List.setIfInBounds_toArray, List.set_cons_zero, List.set_cons_succ]
              refine wpAnyH_done (by kernel_rfl) ?_ _
              go_wp2_with (fail)
              go_meet
              exact ⟨gP, gQ, rfl, rfl, hBP, hBQ, HDR.out.trans (hHeld.mono HDR.out.size)⟩
      · as_aux_lemma =>
          refine wp_allocI rfl ?_
          intro gQ csQ VQ hsQ hnQ hBQ hb9
          have nQ : V0.heap.size ≤ gQ := by have := hnQ.out; have := hHeld.size; omega
          refine hK.out _ _ (hHeld.trans (hb9.mono hHeld.size)) (fun hHeld => ?_)
          clear hK K hb9 hnQ
          try simp only [Act.put, List.getElem_toArray, List.getElem_cons_succ, List.getElem_cons_zero, List.setIfInBounds_toArray, List.set_cons_zero, List.set_cons_succ]
          refine wpAnyH_ready (rs := [4, 10]) (by kernel_rfl) (by simp) ?_
          refine AllReadyH.cons rfl (fun K hK => ?_) (AllReadyH.cons rfl (fun K hK => ?_) AllReadyH.nil)
          · as_aux_lemma =>
              go_simp
              (with_reducible refine (HRa.out _ (HM9.out.q.trans (hHeld.mono HM9.out.q.size))).mono ?_)
              rintro e9 V9 ⟨rfl, hb9⟩
              replace hBQ := hBQ.below hb9
              refine hK.out _ _ (hHeld.trans (hb9.mono hHeld.size)) (fun hHeld => ?_)
              clear hK K hb9
              try simp only [Act.put, List.getElem_toArray, List.getElem_cons_succ, List.getElem_cons_zero, List.setIfInBounds_toArray, List.set_cons_zero, List.set_cons_succ]
              refine wpAnyH_ready (rs := [9, 10]) (by kernel_rfl) (by simp) ?_
              refine AllReadyH.cons rfl (fun K hK => ?_) (AllReadyH.cons rfl (fun K hK => ?_) AllReadyH.nil)
              · as_aux_lemma =>
                  go_simp
                  (with_reducible refine (HRb.out _ (HM9.out.q.trans (hHeld.mono HM9.out.q.size))).mono ?_)
                  rintro e9 V9 ⟨rfl, hb9⟩
                  replace hBQ := hBQ.below hb9
                  refine hK.out _ _ (hHeld.trans (hb9.mono hHeld.size)) (fun hHeld => ?_)
                  clear hK K hb9
                  try simp only [Act.put, List.getElem_toArray, List.getElem_cons_succ, List.getElem_cons_zero, List.setIfInBounds_toArray, List.set_cons_zero, List.set_cons_succ]
                  refine wpAnyH_ready (rs := [10]) (by kernel_rfl) (by simp) ?_
                  refine AllReadyH.cons rfl (fun K hK => ?_) AllReadyH.nil
                  refine wp_allocI rfl ?_
                  intro gP csP VP hsP hnP hBP hb9
                  have nP : V0.heap.size ≤ gP := by have := hnP.out; have := hHeld.size; omega
                  have ne : gP ≠ gQ := by have := hnP.out; have := hBQ.lt; omega
                  replace hBQ := hBQ.below hb9
                  refine hK.out _ _ (hHeld.trans (hb9.mono hHeld.size)) (fun hHeld => ?_)
                  clear hK K hb9 hnP
                  try simp only [Act.put, List.getElem_toArray, List.getElem_cons_succ, List.getElem_cons_zero, List.setIfInBounds_toArray, List.set_cons_zero, List.set_cons_succ]
                  refine wpAnyH_ready (rs := [12]) (by kernel_rfl) (by simp) ?_
                  refine AllReadyH.cons rfl (fun K hK => ?_) AllReadyH.nil
                  refine wp_store_blk 24 _ _ rfl gP _ (idVals P) 24 hBP rfl rfl hzU (by rw [hsP, sU]) h1U ?_
                  clear hBP; intro VSP hBP hg9
                  replace hBQ := blk_gM hBQ hg9 ne.symm
                  refine hK.out _ _ (hHeld.grown hg9 hHeld.size (fun q hq => by have := Option.some.inj hq; omega)) (fun hHeld => ?_)
                  clear hK K hg9
                  try simp only [Act.put, List.getElem_toArray, List.getElem_cons_succ, List.getElem_cons_zero, List.setIfInBounds_toArray, List.set_cons_zero, List.set_cons_succ]
                  refine wpAnyH_ready (rs := [13]) (by kernel_rfl) (by simp) ?_
                  refine AllReadyH.cons rfl (fun K hK => ?_) AllReadyH.nil
                  refine wp_store_blk 24 _ _ rfl gQ _ (idVals Q) 24 hBQ rfl rfl hzV (by rw [hsQ, sV]) h1V ?_
                  clear hBQ; intro VSQ hBQ hg9
                  replace hBP := blk_gM hBP hg9 ne
                  refine hK.out _ _ (hHeld.grown hg9 hHeld.size (fun q hq => by have := Option.some.inj hq; omega)) (fun hHeld => ?_)
                  clear hK K hg9
                  try simp only [Act.put, List.getElem_toArray, List.getElem_cons_succ, List.getElem_cons_zero, List.setIfInBounds_toArray, List.set_cons_zero, List.set_cons_succ]
                  refine wpAnyH_done (by kernel_rfl) ?_ _
                  go_wp2_with (fail)
                  go_meet
                  exact ⟨gP, gQ, rfl, rfl, hBP, hBQ, HDR.out.trans (hHeld.mono HDR.out.size)⟩
              · as_aux_lemma =>
                  refine wp_allocI rfl ?_
                  intro gP csP VP hsP hnP hBP hb9
                  have nP : V0.heap.size ≤ gP := by have := hnP.out; have := hHeld.size; omega
                  have ne : gP ≠ gQ := by have := hnP.out; have := hBQ.lt; omega
                  replace hBQ := hBQ.below hb9
                  refine hK.out _ _ (hHeld.trans (hb9.mono hHeld.size)) (fun hHeld => ?_)
                  clear hK K hb9 hnP
                  try simp only [Act.put, List.getElem_toArray, List.getElem_cons_succ, List.getElem_cons_zero, List.setIfInBounds_toArray, List.set_cons_zero, List.set_cons_succ]
                  refine wpAnyH_ready (rs := [9]) (by kernel_rfl) (by simp) ?_
                  refine AllReadyH.cons rfl (fun K hK => ?_) AllReadyH.nil
                  go_simp
                  (with_reducible refine (HRb.out _ (HM9.out.q.trans (hHeld.mono HM9.out.q.size))).mono ?_)
                  rintro e9 V9 ⟨rfl, hb9⟩
                  replace hBQ := hBQ.below hb9
                  replace hBP := hBP.below hb9
                  refine hK.out _ _ (hHeld.trans (hb9.mono hHeld.size)) (fun hHeld => ?_)
                  clear hK K hb9
                  try simp only [Act.put, List.getElem_toArray, List.getElem_cons_succ, List.getElem_cons_zero, List.setIfInBounds_toArray, List.set_cons_zero, List.set_cons_succ]
                  refine wpAnyH_ready (rs := [12]) (by kernel_rfl) (by simp) ?_
                  refine AllReadyH.cons rfl (fun K hK => ?_) AllReadyH.nil
                  refine wp_store_blk 24 _ _ rfl gP _ (idVals P) 24 hBP rfl rfl hzU (by rw [hsP, sU]) h1U ?_
                  clear hBP; intro VSP hBP hg9
                  replace hBQ := blk_gM hBQ hg9 ne.symm
                  refine hK.out _ _ (hHeld.grown hg9 hHeld.size (fun q hq => by have := Option.some.inj hq; omega)) (fun hHeld => ?_)
                  clear hK K hg9
                  try simp only [Act.put, List.getElem_toArray, List.getElem_cons_succ, List.getElem_cons_zero, List.setIfInBounds_toArray, List.set_cons_zero, List.set_cons_succ]
                  refine wpAnyH_ready (rs := [13]) (by kernel_rfl) (by simp) ?_
                  refine AllReadyH.cons rfl (fun K hK => ?_) AllReadyH.nil
                  refine wp_store_blk 24 _ _ rfl gQ _ (idVals Q) 24 hBQ rfl rfl hzV (by rw [hsQ, sV]) h1V ?_
                  clear hBQ; intro VSQ hBQ hg9
                  replace hBP := blk_gM hBP hg9 ne
                  refine hK.out _ _ (hHeld.grown hg9 hHeld.size (fun q hq => by have := Option.some.inj hq; omega)) (fun hHeld => ?_)
                  clear hK K hg9
                  try simp only [Act.put, List.getElem_toArray, List.getElem_cons_succ, List.getElem_cons_zero, List.setIfInBounds_toArray, List.set_cons_zero, List.set_cons_succ]
                  refine wpAnyH_done (by kernel_rfl) ?_ _
                  go_wp2_with (fail)
                  go_meet
                  exact ⟨gP, gQ, rfl, rfl, hBP, hBQ, HDR.out.trans (hHeld.mono HDR.out.size)⟩
          · as_aux_lemma =>
              refine wp_allocI rfl ?_
              intro gP csP VP hsP hnP hBP hb9
              have nP : V0.heap.size ≤ gP := by have := hnP.out; have := hHeld.size; omega
              have ne : gP ≠ gQ := by have := hnP.out; have := hBQ.lt; omega
              replace hBQ := hBQ.below hb9
              refine hK.out _ _ (hHeld.trans (hb9.mono hHeld.size)) (fun hHeld => ?_)
              clear hK K hb9 hnP
              try simp only [Act.put, List.getElem_toArray, List.getElem_cons_succ, List.getElem_cons_zero, List.setIfInBounds_toArray, List.set_cons_zero, List.set_cons_succ]
              refine wpAnyH_ready (rs := [4]) (by kernel_rfl) (by simp) ?_
              refine AllReadyH.cons rfl (fun K hK => ?_) AllReadyH.nil
              go_simp
              (with_reducible refine (HRa.out _ (HM9.out.q.trans (hHeld.mono HM9.out.q.size))).mono ?_)
              rintro e9 V9 ⟨rfl, hb9⟩
              replace hBQ := hBQ.below hb9
              replace hBP := hBP.below hb9
              refine hK.out _ _ (hHeld.trans (hb9.mono hHeld.size)) (fun hHeld => ?_)
              clear hK K hb9
              try simp only [Act.put, List.getElem_toArray, List.getElem_cons_succ, List.getElem_cons_zero, List.setIfInBounds_toArray, List.set_cons_zero, List.set_cons_succ]
              refine wpAnyH_ready (rs := [9]) (by kernel_rfl) (by simp) ?_
              refine AllReadyH.cons rfl (fun K hK => ?_) AllReadyH.nil
              go_simp
              (with_reducible refine (HRb.out _ (HM9.out.q.trans (hHeld.mono HM9.out.q.size))).mono ?_)
              rintro e9 V9 ⟨rfl, hb9⟩
              replace hBQ := hBQ.below hb9
              replace hBP := hBP.below hb9
              refine hK.out _ _ (hHeld.trans (hb9.mono hHeld.size)) (fun hHeld => ?_)
              clear hK K hb9
              try simp only [Act.put, List.getElem_toArray, List.getElem_cons_succ, List.getElem_cons_zero, List.setIfInBounds_toArray, List.set_cons_zero, List.set_cons_succ]
              refine wpAnyH_ready (rs := [12]) (by kernel_rfl) (by simp) ?_
              refine AllReadyH.cons rfl (fun K hK => ?_) AllReadyH.nil
              refine wp_store_blk 24 _ _ rfl gP _ (idVals P) 24 hBP rfl rfl hzU (by rw [hsP, sU]) h1U ?_
              clear hBP; intro VSP hBP hg9
              replace hBQ := blk_gM hBQ hg9 ne.symm
              refine hK.out _ _ (hHeld.grown hg9 hHeld.size (fun q hq => by have := Option.some.inj hq; omega)) (fun hHeld => ?_)
              clear hK K hg9
              try simp only [Act.put, List.getElem_toArray, List.getElem_cons_succ, List.getElem_cons_zero, List.setIfInBounds_toArray, List.set_cons_zero, List.set_cons_succ]
              refine wpAnyH_ready (rs := [13]) (by kernel_rfl) (by simp) ?_
              refine AllReadyH.cons rfl (fun K hK => ?_) AllReadyH.nil
              refine wp_store_blk 24 _ _ rfl gQ _ (idVals Q) 24 hBQ rfl rfl hzV (by rw [hsQ, sV]) h1V ?_
              clear hBQ; intro VSQ hBQ hg9
              replace hBP := blk_gM hBP hg9 ne
              refine hK.out _ _ (hHeld.grown hg9 hHeld.size (fun q hq => by have := Option.some.inj hq; omega)) (fun hHeld => ?_)
              clear hK K hg9
              try simp only [Act.put, List.getElem_toArray, List.getElem_cons_succ, List.getElem_cons_zero, List.setIfInBounds_toArray, List.set_cons_zero, List.set_cons_succ]
              refine wpAnyH_done (by kernel_rfl) ?_ _
              go_wp2_with (fail)
              go_meet
              exact ⟨gP, gQ, rfl, rfl, hBP, hBQ, HDR.out.trans (hHeld.mono HDR.out.size)⟩
    case rest =>
      obtain ⟨g11, g12, rfl, rfl, h11, h12, hb⟩ := hcut
      have hzU : (Try.prog.info? 24).map (·.size) = some (U.map u8v).length := by rw [List.length_map, HU9.out]; exact sizeId
      have hzV : (Try.prog.info? 24).map (·.size) = some (V.map u8v).length := by rw [List.length_map, HV9.out]; exact sizeId
      have hzP : (Try.prog.info? 24).map (·.size) = some (P.map u8v).length := by rw [List.length_map, HP32.out]; exact sizeId
      have hzQ : (Try.prog.info? 24).map (·.size) = some (Q.map u8v).length := by rw [List.length_map, HQ32.out]; exact sizeId
      replace HM := hid (HM.out.below hb)
      have h9 := H9.out.below hb
      have h10 := H10.out.below hb
      clear hb H9 H10
      have ft := HM.out.t.cell_ (i := 0) rfl
      have z3 : (x : Int) < (k : Int) := by have := HLOW.out; omega
      have z3b : decide ((x : Int) < (k : Int)) = true := decide_eq_true z3
      have z4 : x < k := HLOW.out
      have z4b : decide (x < k) = true := decide_eq_true z4
      go_upto_region 4 with (fail)
      clear ft z3 z3b z4 z4b
      have hbd := below_drew1 wc
      replace HM := hid (HM.out.below hbd)
      replace h9 := h9.below hbd
      replace h10 := h10.below hbd
      replace h11 := h11.below hbd
      replace h12 := h12.below hbd
      clear hbd
      have n9 : ga ≠ g9 ∧ ga ≠ g10 ∧ ga ≠ g11 ∧ ga ≠ g12 := ⟨blk_neM HM.out.a h9 (by decide), blk_neM HM.out.a h10 (by decide), blk_neM HM.out.a h11 (by decide), blk_neM HM.out.a h12 (by decide)⟩
      have n8 : gb ≠ g9 ∧ gb ≠ g10 ∧ gb ≠ g11 ∧ gb ≠ g12 := ⟨blk_neM HM.out.b h9 (by decide), blk_neM HM.out.b h10 (by decide), blk_neM HM.out.b h11 (by decide), blk_neM HM.out.b h12 (by decide)⟩
      refine wp_region_held_drew (S := fun W => W.rangeAt g9 0 (U.map u8v) ∧ W.rangeAt g10 0 (V.map u8v) ∧ W.rangeAt g11 0 (P.map u8v) ∧ W.rangeAt g12 0 (Q.map u8v)) (by kernel_rfl) ⟨range_blk h9, range_blk h10, range_blk h11, range_blk h12⟩ (fun hHeld => ?_)
      generalize World.drew _ = V5 at *
      refine' wpAnyH_take (i := 0) (v := _) rfl (by kernel_rfl) (by kernel_rfl) (by kernel_rfl) (fun _ _ _ h => h) (yieldsIf_load_mid (by rfl) 24 _ rfl _ _ rfl (P.map u8v) _ (fun w' h => h.2.2.1) hu rfl hzP) hHeld ?_
      try simp only [Act.put, List.getElem_toArray, List.getElem_cons_succ, List.getElem_cons_zero, List.setIfInBounds_toArray, List.set_cons_zero, List.set_cons_succ]
      refine' wpAnyH_take (i := 1) (v := _) rfl (by kernel_rfl) (by kernel_rfl) (by kernel_rfl) (fun _ _ _ h => h) (yieldsIf_load_mid (by rfl) 24 _ rfl _ _ rfl (U.map u8v) _ (fun w' h => h.1) hu rfl hzU) hHeld ?_
      try simp only [Act.put, List.getElem_toArray, List.getElem_cons_succ, List.getElem_cons_zero, List.setIfInBounds_toArray, List.set_cons_zero, List.set_cons_succ]
      refine' wpAnyH_take (i := 3) (v := _) rfl (by kernel_rfl) (by kernel_rfl) (by kernel_rfl) (fun _ _ _ h => h) (yieldsIf_load_mid (by rfl) 24 _ rfl _ _ rfl (Q.map u8v) _ (fun w' h => h.2.2.2) hu rfl hzQ) hHeld ?_
      try simp only [Act.put, List.getElem_toArray, List.getElem_cons_succ, List.getElem_cons_zero, List.setIfInBounds_toArray, List.set_cons_zero, List.set_cons_succ]
      refine' wpAnyH_take (i := 4) (v := _) rfl (by kernel_rfl) (by kernel_rfl) (by kernel_rfl) (fun _ _ _ h => h) (yieldsIf_load_mid (by rfl) 24 _ rfl _ _ rfl (V.map u8v) _ (fun w' h => h.2.1) hu rfl hzV) hHeld ?_
      try simp only [Act.put, List.getElem_toArray, List.getElem_cons_succ, List.getElem_cons_zero, List.setIfInBounds_toArray, List.set_cons_zero, List.set_cons_succ]
      refine wpAnyH_ready (rs := [2]) (by kernel_rfl) (by simp) ?_
      refine AllReadyH.cons rfl (fun K hK => ?_) AllReadyH.nil
      go_simp
      (with_reducible refine (HJa.out _).mono ?_)
      rintro e9 V9 ⟨rfl, hb9⟩
      replace h9 := h9.below hb9; replace h10 := h10.below hb9; replace h11 := h11.below hb9; replace h12 := h12.below hb9
      replace HM := hid (HM.out.below hb9)
      refine hK.out _ _ ⟨range_blk h9, range_blk h10, range_blk h11, range_blk h12⟩ (fun hHeld => ?_)
      clear hK K hb9
      try simp only [Act.put, List.getElem_toArray, List.getElem_cons_succ, List.getElem_cons_zero, List.setIfInBounds_toArray, List.set_cons_zero, List.set_cons_succ]
      refine wpAnyH_ready (rs := [5]) (by kernel_rfl) (by simp) ?_
      refine AllReadyH.cons rfl (fun K hK => ?_) AllReadyH.nil
      go_simp
      (with_reducible refine (HJb.out _).mono ?_)
      rintro e9 V9 ⟨rfl, hb9⟩
      replace h9 := h9.below hb9; replace h10 := h10.below hb9; replace h11 := h11.below hb9; replace h12 := h12.below hb9
      replace HM := hid (HM.out.below hb9)
      refine hK.out _ _ ⟨range_blk h9, range_blk h10, range_blk h11, range_blk h12⟩ (fun hHeld => ?_)
      clear hK K hb9
      try simp only [Act.put, List.getElem_toArray, List.getElem_cons_succ, List.getElem_cons_zero, List.setIfInBounds_toArray, List.set_cons_zero, List.set_cons_succ]
      refine wpAnyH_ready (rs := [6]) (by kernel_rfl) (by simp) ?_
      refine AllReadyH.cons rfl (fun K hK => ?_) AllReadyH.nil
      refine wp_store_stM _ _ rfl ga _ HM.out.a (txt S2) rfl rfl ?_
      intro V10 hB10 hg10
      replace h9 := blk_gM h9 hg10 n9.1.symm
      replace h10 := blk_gM h10 hg10 n9.2.1.symm
      replace h11 := blk_gM h11 hg10 n9.2.2.1.symm
      replace h12 := blk_gM h12 hg10 n9.2.2.2.symm
      replace HM := hid (HM.out.putA hB10 hg10)
      refine hK.out _ _ ⟨range_blk h9, range_blk h10, range_blk h11, range_blk h12⟩ (fun hHeld => ?_)
      clear hK K hB10 hg10
      try simp only [Act.put, List.getElem_toArray, List.getElem_cons_succ, List.getElem_cons_zero, List.setIfInBounds_toArray, List.set_cons_zero, List.set_cons_succ]
      refine wpAnyH_ready (rs := [7]) (by kernel_rfl) (by simp) ?_
      refine AllReadyH.cons rfl (fun K hK => ?_) AllReadyH.nil
      refine wp_store_stM _ _ rfl gb _ HM.out.b (txt T2) rfl rfl ?_
      intro V10 hB10 hg10
      replace h9 := blk_gM h9 hg10 n8.1.symm
      replace h10 := blk_gM h10 hg10 n8.2.1.symm
      replace h11 := blk_gM h11 hg10 n8.2.2.1.symm
      replace h12 := blk_gM h12 hg10 n8.2.2.2.symm
      replace HM := hid (HM.out.putB hB10 hg10)
      refine hK.out _ _ ⟨range_blk h9, range_blk h10, range_blk h11, range_blk h12⟩ (fun hHeld => ?_)
      clear hK K hB10 hg10
      try simp only [Act.put, List.getElem_toArray, List.getElem_cons_succ, List.getElem_cons_zero, List.setIfInBounds_toArray, List.set_cons_zero, List.set_cons_succ]
      refine wpAnyH_done (by kernel_rfl) ?_ _
      clear hHeld h9 h10 h11 h12 n8 n9
      go_wp2_with (fail)
      go_end0
      exact ⟨rfl, HM.out⟩
end Go.Proofs.Ytkbokffonnjjiaa


/- journal: the document's bytes of frames. -/
import Derived.Test.YtemdmdgigmhlbaaGreatJn8
set_option linter.unusedSimpArgs false
set_option linter.unusedVariables false
namespace Go.Proofs.YtemdmdgigmhlbaaGreat
open Go.RowKit Go.Qc Go.Shelf
attribute [local go_sem] txt_size txt_append ib_fold
theorem rbytes25_yes (c : List UInt8) (hc : c.length = 32) (X : FmD) (h : X.okF) (hp : X.p.length ≤ 5000) (w : World) :
    Calls Tryz.prog 28 #[.agg (List.map u8v c).toArray, .agg X.cs] w fun e w' => e = .returned (.string (txt (frB c X))) ∧ Below w.heap.size w w' := by
  obtain ⟨n, h1, h2, h3⟩ := h.nat
  rw [h3]
  exact rbytes25_ok c hc n h1 h2 X.p hp w
theorem rnext_yes (c : List UInt8) (hc : c.length = 32) (X : FmD) (h : X.okF) (hp : X.p.length ≤ 5000) (w : World) :
    Calls Tryz.prog 29 #[.agg (List.map u8v c).toArray, .agg X.cs] w fun e w' => e = .returned (.agg (idVals (nxtB c X))) ∧ Below w.heap.size w w' := by
  obtain ⟨n, h1, h2, h3⟩ := h.nat
  rw [h3]
  exact rnext_ok c hc n h1 h2 X.p hp w
theorem wp_load_idJ {w : World} {o : Oper} {a : Act} {K : Act → World → Prop} {Q : Exit → Act → World → Prop} (x : Operand) (ho : o.op = .load 42 x)
    (b : Nat) (l : List UInt8) (hl : l.length = 32) (hx : a.eval x = .pointer (some ⟨b, 0, none⟩)) (hr : w.rangeAt b 0 (l.map u8v))
    (h : K (a.put o.dst (.agg (l.map u8v).toArray)) w) : o.wp Tryz.prog a w K Q := by
  unfold Oper.wp
  simp only [execOp, ho, hx]
  simp only [Instr.loadAt, Instr.sureAddr, Sem.run_bind, Sem.run_pure, Result.andThen_ok, run_loadVar_mid w b 0 42 (l.map u8v) _ hr Tryz.underlying42 rfl (by rw [List.length_map, hl]; exact sizeId)]
  exact h
/-- The document's chain under way. -/
structure RlS (w : World) (gc : Nat) (c : List UInt8) (W : World) : Prop where
  bc : Blk W gc 42 (idVals c)
  ge : w.heap.size ≤ gc
  hb : Below w.heap.size w W
theorem RlS.below {w : World} {gc : Nat} {c : List UInt8} {W W' : World} (h : RlS w gc c W) (g : Below W.heap.size W W') : RlS w gc c W' := ⟨h.bc.below g, h.ge, h.hb.trans (g.mono h.hb.size)⟩
theorem RlS.put {w : World} {gc : Nat} {c c' : List UInt8} {W W' : World} (h : RlS w gc c W) (g : W.grownBy W' (some gc)) (hc : Blk W' gc 42 (idVals c')) : RlS w gc c' W' :=
  ⟨hc, h.ge, h.hb.grown g h.hb.size (by intro i e; cases e; have := h.ge; omega)⟩
set_option maxRecDepth 100000 in
set_option maxHeartbeats 8000000 in
theorem rall25_any (A : Option Addr) (n c : Nat) (Xs : List FmD) (hn : Xs.length = n) (hN : n ≤ 1000) (hp : ∀ X ∈ Xs, X.p.length ≤ 5000) (hok : okJ Xs) (w : World) (hA : FrRd w A Xs) :
    Calls Tryz.prog 11 #[.slice A n c] w fun e w' => e = .returned (.string (txt (stJ Xs).1)) ∧ Below w.heap.size w w' := by
  have cB := rbegin_any
  have h0l := begB_length
  have e0 : stJ (Xs.take 0) = ([], begB) := rfl
  generalize begB = S0 at *
  have hI : (Tryz.prog.info? 42).map (·.size) = some (idVals S0).size := by rw [idVals_size, h0l]; exact sizeId
  have h1c := idVals_one S0
  have E0 := hid e0
  have HN := hid hn
  have HS0 := hid h0l
  have hN2 : ∀ (V : World) (cs : Array Value), Blk (V.alloc (.cells cs 42)) V.heap.size 42 cs := fun V cs => Blk.new _ _ _
  clear e0 hn h0l
  go_enter Tryz.func11, Tryz.ntmps11
  go_wp2_with (first
    | (go_at_call 24; (with_reducible refine (cB _).mono ?_); rintro e1 w1 ⟨rfl, hb1⟩)
    | (with_reducible refine wpList_store_blk rfl 42 _ _ rfl w1.heap.size _ (idVals S0) 42 (hN2 _ _) rfl rfl hI ?c4 h1c ?_))
  case c4 => rw [idVals_size, HS0.out]; rfl
  intro w2 hz2 hg2
  have hS : RlS w w1.heap.size S0 w2 := ⟨hz2, hb1.size, hb1.trans ((below_new hg2).mono hb1.size)⟩
  obtain ⟨gc, hgc⟩ : ∃ gc, gc = w1.heap.size := ⟨_, rfl⟩
  rw [← hgc] at hS ⊢
  clear hz2 hg2 hb1 hgc cB hI h1c hN2
  go_wp2_with (fail)
  go_loopw [3, 5] (fun s i W' => ∃ (k : Nat) (L : List UInt8), k ≤ n ∧ i = .int .i64 k ∧ s = .string (txt L) ∧ L = (stJ (Xs.take k)).1 ∧ RlS w gc (stJ (Xs.take k)).2 W') (fun _ i _ => n - (intOf i).toNat)
  case atStart => exact ⟨0, [], by omega, rfl, rfl, by rw [E0.out], by rw [E0.out]; exact hS⟩
  case round =>
    clear hS
    obtain ⟨k, L, hk, rfl, rfl, hLe, hS⟩ := hrel
    by_cases hlt : k < n
    · obtain ⟨X, hX⟩ : ∃ X, Xs[k]? = some X := ⟨_, List.getElem?_eq_getElem (by rw [HN.out]; exact hlt)⟩
      have hxp := hp X (List.mem_of_getElem? hX)
      have hxo := hok X (List.mem_of_getElem? hX)
      obtain ⟨g, q, hgx, hXo, hix⟩ := hA.pick c HN.out hX
      have hC := stJ_chain (Xs.take k)
      have hL : (stJ (Xs.take k)).1.length ≤ 1000 * 100000019 := by
        have h1 := stJ_len (Xs.take k).length (Xs.take k) rfl (fun X hX => hp X (List.mem_of_mem_take hX))
        have h2 : (Xs.take k).length ≤ 1000 := by rw [List.length_take]; omega
        exact Nat.le_trans h1 (Nat.mul_le_mul_right _ h2)
      have hT := stJ_take hX
      have hFl := frB_len (stJ (Xs.take k)).2 X hxp
      have b1 : (k : Int) < n := by omega
      rw [← hLe] at hT hL
      have HT := hid hT
      generalize (stJ (Xs.take k)).2 = C at *
      have cY := fun W => rbytes25_yes C hC X hxo hxp W
      have cX := fun W => rnext_yes C hC X hxo hxp W
      have hSl := nxtB_length C X
      generalize nxtB C X = C2 at *
      generalize frB C X = F at *
      have hu := Tryz.underlying42
      have hLc : (Tryz.prog.info? 42).map (·.size) = some (C.map u8v).length := by rw [List.length_map, hC]; exact sizeId
      have hI2 : (Tryz.prog.info? 42).map (·.size) = some (idVals C2).size := by rw [idVals_size, hSl]; exact sizeId
      have h1d := idVals_one C2
      have HSL := hid hSl
      have HC := hid hC
      clear hSl hC hT hxp hxo hLe hX
      go_upto_region 6 with (fail)
      refine wp_region_held_drew (S := RlS w gc C) (by kernel_rfl) ?_ (fun hHeld => ?_)
      · exact hS.below (below_drew1 wr)
      clear hS
      generalize wr.drew = V at *
      refine' wpAnyH_take (i := 0) (v := .string (txt L)) rfl (by kernel_rfl) (by kernel_rfl) (by kernel_rfl) (fun _ _ _ h => h) (Or.inl ⟨by rfl, fun w' hw' => by go_simp⟩) hHeld ?_
      try simp only [Act.put, List.getElem_toArray, List.getElem_cons_succ, List.getElem_cons_zero, List.setIfInBounds_toArray, List.set_cons_zero, List.set_cons_succ]
      refine' wpAnyH_take (i := 1) (v := .agg (List.map u8v C).toArray) rfl (by kernel_rfl) (by kernel_rfl) (by kernel_rfl) (fun _ _ _ h => h) (yieldsIf_load_mid (by rfl) 42 _ rfl _ 0 rfl (C.map u8v) _ (fun w' hw' => range_blk hw'.bc) hu rfl hLc) hHeld ?_
      try simp only [Act.put, List.getElem_toArray, List.getElem_cons_succ, List.getElem_cons_zero, List.setIfInBounds_toArray, List.set_cons_zero, List.set_cons_succ]
      refine' wpAnyH_take (i := 2) (v := .slice A n c) rfl (by kernel_rfl) (by kernel_rfl) (by kernel_rfl) (fun _ _ _ h => h) (Or.inl ⟨by rfl, fun w' hw' => by go_simp⟩) hHeld ?_
      try simp only [Act.put, List.getElem_toArray, List.getElem_cons_succ, List.getElem_cons_zero, List.setIfInBounds_toArray, List.set_cons_zero, List.set_cons_succ]
      refine' wpAnyH_take (i := 3) (v := .int .i64 (k : Int)) rfl (by kernel_rfl) (by kernel_rfl) (by kernel_rfl) (fun _ _ _ h => h) (Or.inl ⟨by rfl, fun w' hw' => by go_simp⟩) hHeld ?_
      try simp only [Act.put, List.getElem_toArray, List.getElem_cons_succ, List.getElem_cons_zero, List.setIfInBounds_toArray, List.set_cons_zero, List.set_cons_succ]
      refine' wpAnyH_take (i := 4) (v := .pointer (some ⟨g, q, none⟩)) rfl (by kernel_rfl) (by kernel_rfl) (by kernel_rfl) (fun _ _ _ h => h) (Or.inl ⟨by rfl, fun w' hw' => by have hv := hix w'; go_simp⟩) hHeld ?_
      try simp only [Act.put, List.getElem_toArray, List.getElem_cons_succ, List.getElem_cons_zero, List.setIfInBounds_toArray, List.set_cons_zero, List.set_cons_succ]
      refine' wpAnyH_take (i := 5) (v := .agg X.cs) rfl (by kernel_rfl) (by kernel_rfl) (by kernel_rfl) (fun _ _ _ h => h) (yields_fr (by rfl) _ rfl g q rfl X hXo (fun w' hw' => hgx.below hw'.hb)) hHeld ?_
      try simp only [Act.put, List.getElem_toArray, List.getElem_cons_succ, List.getElem_cons_zero, List.setIfInBounds_toArray, List.set_cons_zero, List.set_cons_succ]
      refine wpAnyH_ready (rs := [6]) (by kernel_rfl) (by simp) ?_
      refine AllReadyH.cons rfl (fun K hK => ?_) AllReadyH.nil
      go_simp
      (with_reducible refine (cY _).mono ?_)
      rintro e6 w6 ⟨rfl, hb6⟩
      refine hK.out _ _ (hHeld.below hb6) (fun hHeld => ?_)
      clear hK K
      try simp only [Act.put, List.getElem_toArray, List.getElem_cons_succ, List.getElem_cons_zero, List.setIfInBounds_toArray, List.set_cons_zero, List.set_cons_succ]
      refine' wpAnyH_take (i := 7) (v := .string (txt (L ++ F))) rfl (by kernel_rfl) (by kernel_rfl) (by kernel_rfl) (fun _ _ _ h => h) (Or.inl ⟨by rfl, fun w' hw' => by go_simp <;> omega⟩) hHeld ?_
      try simp only [Act.put, List.getElem_toArray, List.getElem_cons_succ, List.getElem_cons_zero, List.setIfInBounds_toArray, List.set_cons_zero, List.set_cons_succ]
      refine wpAnyH_ready (rs := [8]) (by kernel_rfl) (by simp) ?_
      refine AllReadyH.cons rfl (fun K hK => ?_) AllReadyH.nil
      go_simp
      refine hK.out _ _ hHeld (fun hHeld => ?_)
      clear hK K
      try simp only [Act.put, List.getElem_toArray, List.getElem_cons_succ, List.getElem_cons_zero, List.setIfInBounds_toArray, List.set_cons_zero, List.set_cons_succ]
      refine wpAnyH_done (by kernel_rfl) ?_ _
      go_upto_region 7 with (fail)
      have hS7 := hHeld.below (below_drew1 w6)
      clear hHeld
      refine wp_region_held_drew (S := fun W => Below w.heap.size w W) (by kernel_rfl) hS7.hb (fun hHeld => ?_)
      generalize w6.drew = V7 at *
      refine' wpAnyH_take (i := 1) (v := .slice A n c) rfl (by kernel_rfl) (by kernel_rfl) (by kernel_rfl) (fun _ _ _ h => h) (Or.inl ⟨by rfl, fun w' hw' => by go_simp⟩) hHeld ?_
      try simp only [Act.put, List.getElem_toArray, List.getElem_cons_succ, List.getElem_cons_zero, List.setIfInBounds_toArray, List.set_cons_zero, List.set_cons_succ]
      refine' wpAnyH_take (i := 2) (v := .int .i64 (k : Int)) rfl (by kernel_rfl) (by kernel_rfl) (by kernel_rfl) (fun _ _ _ h => h) (Or.inl ⟨by rfl, fun w' hw' => by go_simp⟩) hHeld ?_
      try simp only [Act.put, List.getElem_toArray, List.getElem_cons_succ, List.getElem_cons_zero, List.setIfInBounds_toArray, List.set_cons_zero, List.set_cons_succ]
      refine' wpAnyH_take (i := 3) (v := .pointer (some ⟨g, q, none⟩)) rfl (by kernel_rfl) (by kernel_rfl) (by kernel_rfl) (fun _ _ _ h => h) (Or.inl ⟨by rfl, fun w' hw' => by have hv := hix w'; go_simp⟩) hHeld ?_
      try simp only [Act.put, List.getElem_toArray, List.getElem_cons_succ, List.getElem_cons_zero, List.setIfInBounds_toArray, List.set_cons_zero, List.set_cons_succ]
      refine' wpAnyH_take (i := 4) (v := .agg X.cs) rfl (by kernel_rfl) (by kernel_rfl) (by kernel_rfl) (fun _ _ _ h => h) (yields_fr (by rfl) _ rfl g q rfl X hXo (fun w' hw' => hgx.below hw')) hHeld ?_
      try simp only [Act.put, List.getElem_toArray, List.getElem_cons_succ, List.getElem_cons_zero, List.setIfInBounds_toArray, List.set_cons_zero, List.set_cons_succ]
      refine wpAnyH_ready (rs := [0]) (by kernel_rfl) (by simp) ?_
      refine AllReadyH.cons rfl (fun K hK => ?_) AllReadyH.nil
      refine wp_load_idJ _ rfl gc C HC.out rfl (range_blk hS7.bc) ?_
      refine hK.out _ _ hHeld (fun hHeld => ?_)
      clear hK K
      try simp only [Act.put, List.getElem_toArray, List.getElem_cons_succ, List.getElem_cons_zero, List.setIfInBounds_toArray, List.set_cons_zero, List.set_cons_succ]
      refine wpAnyH_ready (rs := [5]) (by kernel_rfl) (by simp) ?_
      refine AllReadyH.cons rfl (fun K hK => ?_) AllReadyH.nil
      go_simp
      (with_reducible refine (cX _).mono ?_)
      rintro e7 w7 ⟨rfl, hb7⟩
      replace hS7 := hS7.below hb7
      refine hK.out _ _ hS7.hb (fun hHeld => ?_)
      clear hK K hb7
      try simp only [Act.put, List.getElem_toArray, List.getElem_cons_succ, List.getElem_cons_zero, List.setIfInBounds_toArray, List.set_cons_zero, List.set_cons_succ]
      refine wpAnyH_ready (rs := [6]) (by kernel_rfl) (by simp) ?_
      refine AllReadyH.cons rfl (fun K hK => ?_) AllReadyH.nil
      refine wp_store_blk 42 _ _ rfl gc _ (idVals C2) 42 hS7.bc rfl rfl hI2 ((idVals_size C).trans (HC.out.trans (HSL.out.symm.trans (idVals_size C2).symm))) h1d ?_
      intro w8 hb8 hg8
      replace hS7 := hS7.put hg8 hb8
      refine hK.out _ _ hS7.hb (fun hHeld => ?_)
      clear hK K
      try simp only [Act.put, List.getElem_toArray, List.getElem_cons_succ, List.getElem_cons_zero, List.setIfInBounds_toArray, List.set_cons_zero, List.set_cons_succ]
      refine wpAnyH_done (by kernel_rfl) ?_ _
      go_wp2
      go_roundw
      case rel => exact ⟨k + 1, L ++ F, hlt, by go_num, rfl, by rw [HT.out], by rw [HT.out]; exact hS7⟩
      case measure => simp [intOf]; omega
    · obtain rfl : k = n := by omega
      rw [List.take_of_length_le (by rw [HN.out]; exact Nat.le_refl _)] at hS hLe
      have b1 : ¬ (k : Int) < k := by omega
      have HLe := hid hLe
      clear hLe
      go_wp2
      go_ret
      exact ⟨by rw [HLe.out]; rfl, hS.hb⟩
end Go.Proofs.YtemdmdgigmhlbaaGreat

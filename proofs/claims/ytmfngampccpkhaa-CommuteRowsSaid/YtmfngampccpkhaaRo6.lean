
/- r13.All of rows that hold the same operations. -/
import Derived.Test.YtmfngampccpkhaaRo3
set_option linter.unusedSimpArgs false
set_option linter.unusedVariables false
namespace Go.Proofs.Ytmfngampccpkhaa
open Go.RowKit Go.Qc Go.Shelf
attribute [local go_sem] txt_size txt_append ib_fold txt_toL

set_option maxRecDepth 100000 in
set_option maxHeartbeats 40000000 in
theorem rall_same (A : Option Addr) (n c : Nat) (Xs : List OpV) (B : Option Addr) (d : Nat) (Ys : List OpV) (w : World) (hn : Xs.length = n) (bn : n ≤ 1000) (hr : OpRd w A Xs) (hX : ∀ X ∈ Xs, OpR w X.D X.A X.n X.B X.m) (hs : OpRd w B Ys) (hY : ∀ X ∈ Ys, OpR w X.D X.A X.n X.B X.m) (hD : Xs.map OpV.D = Ys.map OpV.D) :
    Calls Try.prog 10 #[.slice A n c, .slice B n d] w fun e w' => e = .returned (.bool true) ∧ Below w.heap.size w w' := by
  have bn9 : n ≤ 9223372036854775807 := by omega
  have hm : Ys.length = n := by
    have := congrArg List.length hD
    rw [List.length_map, List.length_map, hn] at this
    exact this.symm
  have HN := hid hn
  have HM := hid hm
  have HD := hid hD
  have HX := hid hX
  have HY := hid hY
  clear hn hm hD hX hY
  go_enter Try.func10, Try.ntmps10
  go_wp2
  go_loopw [5] (fun i wr => ∃ k : Nat, k ≤ n ∧ i = .int .i64 k ∧ Below w.heap.size w wr) (fun i _ => n - (intOf i).toNat)
  case atStart => exact ⟨0, by omega, rfl, Below.refl _ _⟩
  case round =>
    obtain ⟨k, hk, rfl, hb⟩ := hrel
    by_cases hlt : k < n
    · obtain ⟨X, hXk⟩ : ∃ X, Xs[k]? = some X := ⟨_, List.getElem?_eq_getElem (by rw [HN.out]; exact hlt)⟩
      obtain ⟨Y, hYk⟩ : ∃ Y, Ys[k]? = some Y := ⟨_, List.getElem?_eq_getElem (by rw [HM.out]; exact hlt)⟩
      have hXY : Y.D = X.D := by
        have := congrArg (fun l => l[k]?) HD.out
        simp only [List.getElem?_map, hXk, hYk, Option.map_some, Option.some.injEq] at this
        exact this.symm
      obtain ⟨g, q, hg, hK, hix⟩ := hr.pick c HN.out hXk
      obtain ⟨g2, q2, hg2, _, hix2⟩ := hs.pick d HM.out hYk
      have qX := HX.out X (List.mem_of_getElem? hXk)
      have qY := HY.out Y (List.mem_of_getElem? hYk)
      unfold OpV.cs at hg hg2
      rw [hXY] at hg2 qY
      have cL : ∀ W, Below w.heap.size w W → Calls Try.prog 18 #[.agg (opC X.D X.A X.n X.c X.B X.m X.d), .agg (opC X.D Y.A Y.n Y.c Y.B Y.m Y.d)] W fun o w' => o = .returned (.bool true) ∧ Below W.heap.size W w' := fun W h => rsame13_eq X.D X.A X.n X.c X.B X.m X.d Y.A Y.n Y.c Y.B Y.m Y.d W (qX.below h) (qY.below h)
      have b1 : (k : Int) < n := by omega
      clear hXk hYk hXY qX qY
      go_wp2_with (fail)
      refine wp_region_held_drew (S := fun W => W.rangeAt g q (opC X.D X.A X.n X.c X.B X.m X.d).toList ∧ W.rangeAt g2 q2 (opC X.D Y.A Y.n Y.c Y.B Y.m Y.d).toList) (by kernel_rfl) ⟨(hg.below hb).below (below_drew10 _), (hg2.below hb).below (below_drew10 _)⟩ (fun hHeld => ?_)
      replace hb := hb.trans ((below_drew10 _).mono hb.size)
      generalize World.drew _ = W1 at *
      refine' wpAnyH_take (i := 0) (v := .slice A n c) rfl (by kernel_rfl) (by kernel_rfl) (by kernel_rfl) (fun _ _ _ h => h) (Or.inl ⟨by rfl, fun w' hw' => by go_simp⟩) hHeld ?_
      try simp only [Act.put, List.getElem_toArray, List.getElem_cons_succ, List.getElem_cons_zero, List.setIfInBounds_toArray, List.set_cons_zero, List.set_cons_succ]
      refine' wpAnyH_take (i := 1) (v := .int .i64 k) rfl (by kernel_rfl) (by kernel_rfl) (by kernel_rfl) (fun _ _ _ h => h) (Or.inl ⟨by rfl, fun w' hw' => by go_simp⟩) hHeld ?_
      try simp only [Act.put, List.getElem_toArray, List.getElem_cons_succ, List.getElem_cons_zero, List.setIfInBounds_toArray, List.set_cons_zero, List.set_cons_succ]
      refine' wpAnyH_take (i := 2) (v := .pointer (some ⟨g, q, none⟩)) rfl (by kernel_rfl) (by kernel_rfl) (by kernel_rfl) (fun _ _ _ h => h) (Or.inl ⟨by rfl, fun w' hw' => by go_simp⟩) hHeld ?_
      try simp only [Act.put, List.getElem_toArray, List.getElem_cons_succ, List.getElem_cons_zero, List.setIfInBounds_toArray, List.set_cons_zero, List.set_cons_succ]
      refine' wpAnyH_take (i := 3) (v := .agg (opC X.D X.A X.n X.c X.B X.m X.d)) rfl (by kernel_rfl) (by kernel_rfl) (by kernel_rfl) (fun _ _ _ h => h) (yields_opr (by rfl) _ rfl _ _ rfl (fun w' h => h.1) hK) hHeld ?_
      try simp only [Act.put, List.getElem_toArray, List.getElem_cons_succ, List.getElem_cons_zero, List.setIfInBounds_toArray, List.set_cons_zero, List.set_cons_succ]
      refine' wpAnyH_take (i := 4) (v := .slice B n d) rfl (by kernel_rfl) (by kernel_rfl) (by kernel_rfl) (fun _ _ _ h => h) (Or.inl ⟨by rfl, fun w' hw' => by go_simp⟩) hHeld ?_
      try simp only [Act.put, List.getElem_toArray, List.getElem_cons_succ, List.getElem_cons_zero, List.setIfInBounds_toArray, List.set_cons_zero, List.set_cons_succ]
      refine' wpAnyH_take (i := 5) (v := .int .i64 k) rfl (by kernel_rfl) (by kernel_rfl) (by kernel_rfl) (fun _ _ _ h => h) (Or.inl ⟨by rfl, fun w' hw' => by go_simp⟩) hHeld ?_
      try simp only [Act.put, List.getElem_toArray, List.getElem_cons_succ, List.getElem_cons_zero, List.setIfInBounds_toArray, List.set_cons_zero, List.set_cons_succ]
      refine' wpAnyH_take (i := 6) (v := .pointer (some ⟨g2, q2, none⟩)) rfl (by kernel_rfl) (by kernel_rfl) (by kernel_rfl) (fun _ _ _ h => h) (Or.inl ⟨by rfl, fun w' hw' => by go_simp⟩) hHeld ?_
      try simp only [Act.put, List.getElem_toArray, List.getElem_cons_succ, List.getElem_cons_zero, List.setIfInBounds_toArray, List.set_cons_zero, List.set_cons_succ]
      refine' wpAnyH_take (i := 7) (v := .agg (opC X.D Y.A Y.n Y.c Y.B Y.m Y.d)) rfl (by kernel_rfl) (by kernel_rfl) (by kernel_rfl) (fun _ _ _ h => h) (yields_opr (by rfl) _ rfl _ _ rfl (fun w' h => h.2) hK) hHeld ?_
      try simp only [Act.put, List.getElem_toArray, List.getElem_cons_succ, List.getElem_cons_zero, List.setIfInBounds_toArray, List.set_cons_zero, List.set_cons_succ]
      refine wpAnyH_ready (rs := [8]) (by kernel_rfl) (by simp) ?_
      refine AllReadyH.cons rfl (fun K hK => ?_) AllReadyH.nil
      go_simp
      (with_reducible refine (cL _ hb).mono ?_)
      rintro e9 W2 ⟨rfl, hb2⟩
      replace hb := hb.trans (hb2.mono hb.size)
      refine hK.out _ _ ⟨hHeld.1.below hb2, hHeld.2.below hb2⟩ (fun hHeld => ?_)
      clear hK K hb2
      try simp only [Act.put, List.getElem_toArray, List.getElem_cons_succ, List.getElem_cons_zero, List.setIfInBounds_toArray, List.set_cons_zero, List.set_cons_succ]
      refine' wpAnyH_take (i := 9) (v := .bool false) rfl (by kernel_rfl) (by kernel_rfl) (by kernel_rfl) (fun _ _ _ h => h) (Or.inl ⟨by rfl, fun w' hw' => by go_simp⟩) hHeld ?_
      try simp only [Act.put, List.getElem_toArray, List.getElem_cons_succ, List.getElem_cons_zero, List.setIfInBounds_toArray, List.set_cons_zero, List.set_cons_succ]
      refine wpAnyH_done (by kernel_rfl) ?_ _
      go_wp2
      go_roundw
      case rel => exact ⟨k + 1, hlt, by go_num, hb⟩
      case measure => simp [intOf]; omega
    · obtain rfl : k = n := by omega
      have c1 : ¬ (k : Int) < k := by omega
      go_wp2
      go_ret
      exact ⟨rfl, hb⟩

end Go.Proofs.Ytmfngampccpkhaa

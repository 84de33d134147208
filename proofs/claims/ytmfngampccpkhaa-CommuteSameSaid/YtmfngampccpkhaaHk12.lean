
/- hunk: a hunk's copy, how many lines it adds, two hunks in the other order. -/
import Derived.Test.YtmfngampccpkhaaHk11
set_option linter.unusedSimpArgs false
set_option linter.unusedVariables false
namespace Go.Proofs.Ytmfngampccpkhaa
open Go.RowKit Go.Qc Go.Shelf
attribute [local go_sem] txt_size txt_append ib_fold txt_toL

set_option maxRecDepth 100000 in
set_option maxHeartbeats 8000000 in
theorem copied_gen (at' : Int) (A : Option Addr) (n c : Nat) (B : Option Addr) (m d : Nat) (xs ys : List Value) (w : World)
    (cA : ∀ W, Below w.heap.size w W → Calls Try.prog 62 #[.slice A n c] W fun e w' => ∃ A' c', e = .returned (.slice A' n c') ∧ w'.ownsRow w.heap.size 9 1 (.slice A' n c') n xs ∧ Below W.heap.size W w')
    (cB : ∀ W, Below w.heap.size w W → Calls Try.prog 62 #[.slice B m d] W fun e w' => ∃ B' d', e = .returned (.slice B' m d') ∧ w'.ownsRow w.heap.size 9 1 (.slice B' m d') m ys ∧ Below W.heap.size W w') :
    Calls Try.prog 65 #[.agg #[.int .i64 at', .slice A n c, .slice B m d]] w fun e w' => ∃ A' c' B' d', e = .returned (.agg #[.int .i64 at', .slice A' n c', .slice B' m d']) ∧ w'.ownsRow w.heap.size 9 1 (.slice A' n c') n xs ∧ w'.ownsRow w.heap.size 9 1 (.slice B' m d') m ys ∧ Below w.heap.size w w' := by
  have hh := Hk.new w 62 at' (.slice A n c) (.slice B m d)
  have hB0 : Below w.heap.size w (w.alloc (.cells #[.int .i64 at', .slice A n c, .slice B m d] 62)) := (Below.refl _ w).alloc (Nat.le_refl _) _
  have hB1 := hB0.alloc hB0.size (.cells #[.int .i64 0, .slice none 0 0, .slice none 0 0] 62)
  have hb1 : Below (w.alloc (.cells #[.int .i64 at', .slice A n c, .slice B m d] 62)).heap.size (w.alloc (.cells #[.int .i64 at', .slice A n c, .slice B m d] 62)) _ := (Below.refl _ _).alloc (Nat.le_refl _) (.cells #[.int .i64 0, .slice none 0 0, .slice none 0 0] 62)
  have hh1 := hh.below hb1
  have hz := Blk.new (w.alloc (.cells #[.int .i64 at', .slice A n c, .slice B m d] 62)) 62 #[.int .i64 0, .slice none 0 0, .slice none 0 0]
  have hk : (w.alloc (.cells #[.int .i64 at', .slice A n c, .slice B m d] 62)).heap.size = w.heap.size + 1 := by simp
  rw [hk] at hz
  clear hb1 hk hh hB0
  go_enter Try.func65, Try.ntmps65
  go_wp2_with (fail)
  generalize (w.alloc (.cells #[.int .i64 at', .slice A n c, .slice B m d] 62)).alloc (.cells #[.int .i64 0, .slice none 0 0, .slice none 0 0] 62) = W0 at *
  refine wp_region_held_drew (S := fun W => Hk W w.heap.size 62 at' (.slice A n c) (.slice B m d)) (by kernel_rfl) ?_ (fun hHeld => ?_)
  · exact hh1.below (below_drew10 W0)
  replace hz := hz.below (below_drew10 W0)
  replace hB1 := hB1.trans ((below_drew10 W0).mono hB1.size)
  generalize W0.drew = W1 at *
  clear hh1
  refine' wpAnyH_take (i := 0) (v := .pointer (some ⟨w.heap.size, 0, none⟩)) rfl (by kernel_rfl) (by kernel_rfl) (by kernel_rfl) (fun _ _ _ h => h) (Or.inl ⟨by rfl, fun w' hw' => by go_simp⟩) hHeld ?_
  try simp only [Act.put, List.setIfInBounds_toArray, List.set_cons_zero, List.set_cons_succ]
  refine' wpAnyH_take (i := 1) (v := .int .i64 at') rfl (by kernel_rfl) (by kernel_rfl) (by kernel_rfl) (fun _ _ _ h => h) (Or.inl ⟨by rfl, fun w' hw' => by have hv := hw'.c0; go_simp⟩) hHeld ?_
  try simp only [Act.put, List.setIfInBounds_toArray, List.set_cons_zero, List.set_cons_succ]
  refine' wpAnyH_take (i := 2) (v := .pointer (some ⟨w.heap.size, 1, none⟩)) rfl (by kernel_rfl) (by kernel_rfl) (by kernel_rfl) (fun _ _ _ h => h) (Or.inl ⟨by rfl, fun w' hw' => by go_simp⟩) hHeld ?_
  try simp only [Act.put, List.setIfInBounds_toArray, List.set_cons_zero, List.set_cons_succ]
  refine' wpAnyH_take (i := 3) (v := .slice A n c) rfl (by kernel_rfl) (by kernel_rfl) (by kernel_rfl) (fun _ _ _ h => h) (Or.inl ⟨by rfl, fun w' hw' => by have hv := hw'.c1; go_simp⟩) hHeld ?_
  try simp only [Act.put, List.setIfInBounds_toArray, List.set_cons_zero, List.set_cons_succ]
  refine' wpAnyH_take (i := 5) (v := .pointer (some ⟨w.heap.size, 2, none⟩)) rfl (by kernel_rfl) (by kernel_rfl) (by kernel_rfl) (fun _ _ _ h => h) (Or.inl ⟨by rfl, fun w' hw' => by go_simp⟩) hHeld ?_
  try simp only [Act.put, List.setIfInBounds_toArray, List.set_cons_zero, List.set_cons_succ]
  refine' wpAnyH_take (i := 6) (v := .slice B m d) rfl (by kernel_rfl) (by kernel_rfl) (by kernel_rfl) (fun _ _ _ h => h) (Or.inl ⟨by rfl, fun w' hw' => by have hv := hw'.c2; go_simp⟩) hHeld ?_
  try simp only [Act.put, List.setIfInBounds_toArray, List.set_cons_zero, List.set_cons_succ]
  refine wpAnyH_ready (rs := [4]) (by kernel_rfl) (by simp) ?_
  refine AllReadyH.cons rfl (fun K hK => ?_) AllReadyH.nil
  go_simp
  (with_reducible refine (cA _ hB1).mono ?_)
  rintro e1 W2 ⟨A', c', rfl, hownA, hb⟩
  replace hz := hz.below hb
  replace hB1 := hB1.trans (hb.mono hB1.size)
  refine hK.out _ _ (hHeld.below hb) (fun hHeld => ?_)
  clear hK K hb
  try simp only [Act.put, List.setIfInBounds_toArray, List.set_cons_zero, List.set_cons_succ]
  refine wpAnyH_ready (rs := [7]) (by kernel_rfl) (by simp) ?_
  refine AllReadyH.cons rfl (fun K hK => ?_) AllReadyH.nil
  go_simp
  (with_reducible refine (cB _ hB1).mono ?_)
  rintro e2 W3 ⟨B', d', rfl, hownB, hb⟩
  replace hz := hz.below hb
  replace hB1 := hB1.trans (hb.mono hB1.size)
  replace hownA := own_below hownA hb
  refine hK.out _ _ (hHeld.below hb) (fun hHeld => ?_)
  clear hK K hb
  try simp only [Act.put, List.setIfInBounds_toArray, List.set_cons_zero, List.set_cons_succ]
  refine' wpAnyH_take (i := 8) (v := .agg #[.int .i64 at', .slice A' n c', .slice B' m d']) rfl (by kernel_rfl) (by kernel_rfl) (by kernel_rfl) (fun _ _ _ h => h) (Or.inl ⟨by rfl, fun w' hw' => by go_simp⟩) hHeld ?_
  try simp only [Act.put, List.setIfInBounds_toArray, List.set_cons_zero, List.set_cons_succ]
  refine wpAnyH_ready (rs := [9]) (by kernel_rfl) (by simp) ?_
  refine AllReadyH.cons rfl (fun K hK => ?_) AllReadyH.nil
  have y0 := hz.cell_ (i := 0) rfl
  have y1 := hz.cell_ (i := 1) rfl
  have y2 := hz.cell_ (i := 2) rfl
  have g0 := hz.frozen 0
  have g1 := hz.frozen 1
  have g2 := hz.frozen 2
  go_simp
  have hne := hid (show w.heap.size ≠ (⟨w.heap.size + 1, 0, none⟩ : Addr).block by simp)
  have hH := (((hHeld.b.far (p := ⟨w.heap.size + 1, 0, none⟩) (by simp) (.int .i64 at')).far (p := ⟨w.heap.size + 1, 1, none⟩) (by simp) (.slice A' n c')).far (p := ⟨w.heap.size + 1, 2, none⟩) (by simp) (.slice B' m d'))
  have hz3 := ((hz.set 0 (.int .i64 at')).set 1 (.slice A' n c')).set 2 (.slice B' m d')
  have hg := gb_set (gb_set (gb_set (gb_refl W3 (some (w.heap.size + 1))) 0 (.int .i64 at')) 1 (.slice A' n c')) 2 (.slice B' m d')
  have hoA := hownA.kept hg (.inr (Lib.ownBlock_ne hownA hz (by decide)))
  have hoB := hownB.kept hg (.inr (Lib.ownBlock_ne hownB hz (by decide)))
  have hB4 := ((hB1.setCell (p := ⟨w.heap.size + 1, 0, none⟩) (Nat.le_succ _) (.int .i64 at')).setCell (p := ⟨w.heap.size + 1, 1, none⟩) (Nat.le_succ _) (.slice A' n c')).setCell (p := ⟨w.heap.size + 1, 2, none⟩) (Nat.le_succ _) (.slice B' m d')
  refine hK.out _ _ ⟨hH⟩ (fun hHeld => ?_)
  clear hK K
  generalize ((W3.setCell ⟨w.heap.size + 1, 0, none⟩ (.int .i64 at')).setCell ⟨w.heap.size + 1, 1, none⟩ (.slice A' n c')).setCell ⟨w.heap.size + 1, 2, none⟩ (.slice B' m d') = W4 at *
  have hz4 : Blk W4 (w.heap.size + 1) 62 #[.int .i64 at', .slice A' n c', .slice B' m d'] := hz3
  clear y0 y1 y2 g0 g1 g2 hz hz3 hH hg
  try simp only [Act.put, List.setIfInBounds_toArray, List.set_cons_zero, List.set_cons_succ]
  refine wpAnyH_done (by kernel_rfl) ?_ _
  have y0 := hz4.cell_ (i := 0) rfl
  have y1 := hz4.cell_ (i := 1) rfl
  have y2 := hz4.cell_ (i := 2) rfl
  go_wp2
  refine bodyPost_ret (v := .agg #[.int .i64 at', .slice A' n c', .slice B' m d']) (by simp [results, Try.f65, go_sem, y0, y1, y2]) rfl ?_
  exact ⟨A', c', B', d', rfl, hoA, hoB, hB4⟩
theorem added_any (at' : Int) (A : Option Addr) (n c : Nat) (B : Option Addr) (m d : Nat) (z : Int) (hz : wrap64 ((m : Int) - n) = z) (w : World) :
    Calls Try.prog 66 #[.agg #[.int .i64 at', .slice A n c, .slice B m d]] w fun e w' => e = .returned (.int .i64 z) ∧ Below w.heap.size w w' := by
  go_enter Try.func66, Try.ntmps66
  go_wp2
  go_ret
  exact ⟨by simp [hz], (Below.refl _ w).alloc (Nat.le_refl _) _⟩
theorem copied_any (at' : Int) (A : Option Addr) (n c : Nat) (old : List (List UInt8)) (hn : old.length = n) (bn : n ≤ 1000) (B : Option Addr) (m d : Nat) (new : List (List UInt8)) (hm : new.length = m) (bm : m ≤ 1000) (W : World)
    (hA : Rd W A (old.map strV)) (hB : Rd W B (new.map strV)) :
    Calls Try.prog 65 #[.agg #[.int .i64 at', .slice A n c, .slice B m d]] W fun e w' => ∃ A' c' B' d', e = .returned (.agg #[.int .i64 at', .slice A' n c', .slice B' m d']) ∧ w'.ownsRow W.heap.size 9 1 (.slice A' n c') n (old.map strV) ∧ w'.ownsRow W.heap.size 9 1 (.slice B' m d') m (new.map strV) ∧ Below W.heap.size W w' := by
  refine copied_gen at' A n c B m d (old.map strV) (new.map strV) W (fun W2 h2 => (clones_any A n c old hn (by omega) W2 (hA.below h2)).mono ?_) (fun W2 h2 => (clones_any B m d new hm (by omega) W2 (hB.below h2)).mono ?_)
  all_goals
    rintro e w' ⟨v, rfl, hown, hb⟩
    obtain ⟨_, A4, c4, rfl, _⟩ := rowRd hown
    exact ⟨A4, c4, rfl, own_le hown h2.size, hb⟩
end Go.Proofs.Ytmfngampccpkhaa

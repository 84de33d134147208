
/- hunk: a hunk the other way. -/
import Derived.Test.YtjaenffdbhgmeaaHk6
import Derived.Deep.RegionHeld3
set_option linter.unusedSimpArgs false
set_option linter.unusedVariables false
namespace Go.Proofs.Ytjaenffdbhgmeaa
open Go.RowKit Go.Qc Go.Shelf
attribute [local go_sem] txt_size txt_append ib_fold txt_toL

theorem rapply_any (L : Option Addr) (k e : Nat) (ls : List (List UInt8)) (hk : ls.length = k) (bk : k ≤ 1000) (at' : Int) (A : Option Addr) (n c : Nat) (old : List (List UInt8)) (hn : old.length = n) (bn : n ≤ 1000) (B : Option Addr) (m d : Nat) (new : List (List UInt8)) (hm : new.length = m) (bm : m ≤ 1000)
    (l8 : ∀ x ∈ ls, x.length ≤ 1000000000000) (o8 : ∀ x ∈ old, x.length ≤ 1000000000000) (n8 : ∀ x ∈ new, x.length ≤ 1000000000000) (w : World)
    (hL : Rd w L (ls.map strV)) (hA : Rd w A (old.map strV)) (hB : Rd w B (new.map strV)) :
    Calls Try.prog 14 #[.slice L k e, .agg #[.int .i64 at', .slice A n c, .slice B m d]] w fun e w' => ∃ v, e = .returned (.tuple #[v, .int .i64 (if linesR ls then (appR ls at' old new).2 else 3)]) ∧ w'.ownsRow w.heap.size 9 1 v (if linesR ls then (appR ls at' old new).1 else []).length ((if linesR ls then (appR ls at' old new).1 else []).map strV) ∧ Below w.heap.size w w' := by
  have cL : ∀ W, Below w.heap.size w W → Calls Try.prog 13 #[.slice L k e] W fun e w' => e = .returned (.bool (linesR ls)) ∧ W = w' := fun W hb => rlines_any L k e ls hk (by omega) l8 W (hL.below hb)
  have cR : ∀ W, Below w.heap.size w W → Calls Try.prog 43 #[.agg #[.int .i64 at', .slice A n c, .slice B m d]] W fun e w' => e = .returned (.bool (hunkR at' old new)) ∧ Below W.heap.size W w' := fun W hb => by
    have := rhright_gen at' A n c B m d (linesR old) (linesR new) W (fun W2 h2 => rlines_any A n c old hn (by omega) o8 W2 ((hA.below hb).below h2)) (fun W2 h2 => rlines_any B m d new hm (by omega) n8 W2 ((hB.below hb).below h2))
    unfold hunkR
    rw [hn, hm]
    exact this
  have nil : ∀ (z : Int) (e : Ending) (w' : World), e = .returned (.tuple #[.slice none 0 0, .int .i64 z]) ∧ Below w.heap.size w w' → ∃ v, e = .returned (.tuple #[v, .int .i64 z]) ∧ w'.ownsRow w.heap.size 9 1 v ([] : List (List UInt8)).length (([] : List (List UInt8)).map strV) ∧ Below w.heap.size w w' := fun z e w' h => ⟨_, h.1, World.ownsRow_nil _ _ _ _, h.2⟩
  cases hP : linesR ls with
  | false =>
    simp only [if_false, Bool.false_eq_true]
    exact (rapply_form L k e at' A n c B m d _ _ (.inl hP) w cL cR).mono (nil 3)
  | true =>
    simp only [if_true]
    unfold appR
    cases hQ : hunkR at' old new with
    | false =>
      rw [if_pos rfl]
      exact (rapply_form L k e at' A n c B m d _ _ (.inr hQ) w cL cR).mono (nil 3)
    | true =>
      rw [hP] at cL
      rw [hQ] at cR
      rw [if_neg (by simp)]
      obtain ⟨h0, h1⟩ := hunkR_at hQ
      obtain ⟨a, rfl⟩ : ∃ a : Nat, at' = a := ⟨at'.toNat, by omega⟩
      rw [Int.toNat_natCast, hk, hn, hm]
      have hif : ∀ (x y : List (List UInt8) × Int), (if (k : Int) < (a : Int) then x else y) = if k < a then x else y := fun x y => by
        by_cases h : k < a
        · rw [if_pos h, if_pos (by omega)]
        · rw [if_neg h, if_neg (by omega)]
      rw [hif]
      obtain ⟨R, z, hR⟩ : ∃ R z, (R, z) = if k < a then (([] : List (List UInt8)), (5 : Int)) else if fitR ls old a = false then ([], 12) else if 1000 < k - n + m then ([], 4) else (ls.take a ++ (new ++ ls.drop (a + n)), 0) := ⟨_, _, rfl⟩
      rw [← hR]
      exact rapply_ok L k e ls hk bk a (by omega) A n c old hn bn B m d new hm bm w hL hA hB cL cR R z hR
set_option maxRecDepth 100000 in
set_option maxHeartbeats 8000000 in
theorem invert_gen (at' : Int) (A : Option Addr) (n c : Nat) (B : Option Addr) (m d : Nat) (xs ys : List Value) (w : World)
    (cA : ∀ W, Below w.heap.size w W → Calls Try.prog 45 #[.slice A n c] W fun e w' => ∃ A' c', e = .returned (.slice A' n c') ∧ w'.ownsRow w.heap.size 9 1 (.slice A' n c') n xs ∧ Below W.heap.size W w')
    (cB : ∀ W, Below w.heap.size w W → Calls Try.prog 45 #[.slice B m d] W fun e w' => ∃ B' d', e = .returned (.slice B' m d') ∧ w'.ownsRow w.heap.size 9 1 (.slice B' m d') m ys ∧ Below W.heap.size W w') :
    Calls Try.prog 48 #[.agg #[.int .i64 at', .slice A n c, .slice B m d]] w fun e w' => ∃ A' c' B' d', e = .returned (.agg #[.int .i64 at', .slice B' m d', .slice A' n c']) ∧ w'.ownsRow w.heap.size 9 1 (.slice A' n c') n xs ∧ w'.ownsRow w.heap.size 9 1 (.slice B' m d') m ys ∧ Below w.heap.size w w' := by
  have hh := Hk.new w 42 at' (.slice A n c) (.slice B m d)
  have hB0 : Below w.heap.size w (w.alloc (.cells #[.int .i64 at', .slice A n c, .slice B m d] 42)) := (Below.refl _ w).alloc (Nat.le_refl _) _
  have hB1 := hB0.alloc hB0.size (.cells #[.int .i64 0, .slice none 0 0, .slice none 0 0] 42)
  have hb1 : Below (w.alloc (.cells #[.int .i64 at', .slice A n c, .slice B m d] 42)).heap.size (w.alloc (.cells #[.int .i64 at', .slice A n c, .slice B m d] 42)) _ := (Below.refl _ _).alloc (Nat.le_refl _) (.cells #[.int .i64 0, .slice none 0 0, .slice none 0 0] 42)
  have hh1 := hh.below hb1
  have hz := Blk.new (w.alloc (.cells #[.int .i64 at', .slice A n c, .slice B m d] 42)) 42 #[.int .i64 0, .slice none 0 0, .slice none 0 0]
  have hk : (w.alloc (.cells #[.int .i64 at', .slice A n c, .slice B m d] 42)).heap.size = w.heap.size + 1 := by simp
  rw [hk] at hz
  clear hb1 hk hh hB0
  go_enter Try.func48, Try.ntmps48
  go_wp2_with (fail)
  generalize (w.alloc (.cells #[.int .i64 at', .slice A n c, .slice B m d] 42)).alloc (.cells #[.int .i64 0, .slice none 0 0, .slice none 0 0] 42) = W0 at *
  refine wp_region_held_drew (S := fun W => Hk W w.heap.size 42 at' (.slice A n c) (.slice B m d)) (by kernel_rfl) ?_ (fun hHeld => ?_)
  · exact hh1.below (below_drew10 W0)
  replace hz := hz.below (below_drew10 W0)
  replace hB1 := hB1.trans ((below_drew10 W0).mono hB1.size)
  generalize W0.drew = W1 at *
  clear hh1
  refine' wpAnyH_take (i := 0) (v := .pointer (some ⟨w.heap.size, 0, none⟩)) rfl (by kernel_rfl) (by kernel_rfl) (by kernel_rfl) (fun _ _ _ h => h) (Or.inl ⟨by rfl, fun w' hw' => by go_simp⟩) hHeld ?_
  try simp only [Act.put, List.setIfInBounds_toArray, List.set_cons_zero, List.set_cons_succ]
  refine' wpAnyH_take (i := 1) (v := .int .i64 at') rfl (by kernel_rfl) (by kernel_rfl) (by kernel_rfl) (fun _ _ _ h => h) (Or.inl ⟨by rfl, fun w' hw' => by have hv := hw'.c0; go_simp⟩) hHeld ?_
  try simp only [Act.put, List.setIfInBounds_toArray, List.set_cons_zero, List.set_cons_succ]
  refine' wpAnyH_take (i := 2) (v := .pointer (some ⟨w.heap.size, 2, none⟩)) rfl (by kernel_rfl) (by kernel_rfl) (by kernel_rfl) (fun _ _ _ h => h) (Or.inl ⟨by rfl, fun w' hw' => by go_simp⟩) hHeld ?_
  try simp only [Act.put, List.setIfInBounds_toArray, List.set_cons_zero, List.set_cons_succ]
  refine' wpAnyH_take (i := 3) (v := .slice B m d) rfl (by kernel_rfl) (by kernel_rfl) (by kernel_rfl) (fun _ _ _ h => h) (Or.inl ⟨by rfl, fun w' hw' => by have hv := hw'.c2; go_simp⟩) hHeld ?_
  try simp only [Act.put, List.setIfInBounds_toArray, List.set_cons_zero, List.set_cons_succ]
  refine' wpAnyH_take (i := 5) (v := .pointer (some ⟨w.heap.size, 1, none⟩)) rfl (by kernel_rfl) (by kernel_rfl) (by kernel_rfl) (fun _ _ _ h => h) (Or.inl ⟨by rfl, fun w' hw' => by go_simp⟩) hHeld ?_
  try simp only [Act.put, List.setIfInBounds_toArray, List.set_cons_zero, List.set_cons_succ]
  refine' wpAnyH_take (i := 6) (v := .slice A n c) rfl (by kernel_rfl) (by kernel_rfl) (by kernel_rfl) (fun _ _ _ h => h) (Or.inl ⟨by rfl, fun w' hw' => by have hv := hw'.c1; go_simp⟩) hHeld ?_
  try simp only [Act.put, List.setIfInBounds_toArray, List.set_cons_zero, List.set_cons_succ]
  refine wpAnyH_ready (rs := [4]) (by kernel_rfl) (by simp) ?_
  refine AllReadyH.cons rfl (fun K hK => ?_) AllReadyH.nil
  go_simp
  (with_reducible refine (cB _ hB1).mono ?_)
  rintro e1 W2 ⟨B', d', rfl, hownB, hb⟩
  replace hz := hz.below hb
  replace hB1 := hB1.trans (hb.mono hB1.size)
  refine hK.out _ _ (hHeld.below hb) (fun hHeld => ?_)
  clear hK K hb
  try simp only [Act.put, List.setIfInBounds_toArray, List.set_cons_zero, List.set_cons_succ]
  refine wpAnyH_ready (rs := [7]) (by kernel_rfl) (by simp) ?_
  refine AllReadyH.cons rfl (fun K hK => ?_) AllReadyH.nil
  go_simp
  (with_reducible refine (cA _ hB1).mono ?_)
  rintro e2 W3 ⟨A', c', rfl, hownA, hb⟩
  replace hz := hz.below hb
  replace hB1 := hB1.trans (hb.mono hB1.size)
  replace hownB := own_below hownB hb
  refine hK.out _ _ (hHeld.below hb) (fun hHeld => ?_)
  clear hK K hb
  try simp only [Act.put, List.setIfInBounds_toArray, List.set_cons_zero, List.set_cons_succ]
  refine' wpAnyH_take (i := 8) (v := .agg #[.int .i64 at', .slice B' m d', .slice A' n c']) rfl (by kernel_rfl) (by kernel_rfl) (by kernel_rfl) (fun _ _ _ h => h) (Or.inl ⟨by rfl, fun w' hw' => by go_simp⟩) hHeld ?_
  try simp only [Act.put, List.setIfInBounds_toArray, List.set_cons_zero, List.set_cons_succ]
  refine wpAnyH_ready (rs := [9]) (by kernel_rfl) (by simp) ?_
  refine AllReadyH.cons rfl (fun K hK => ?_) AllReadyH.nil
  have y0 := hz.cell_ (i := 0) rfl
  have y1 := hz.cell_ (i := 1) rfl
  have y2 := hz.cell_ (i := 2) rfl
  have g0 := hz.frozen 0
  have g1 := hz.frozen 1
  have g2 := hz.frozen 2
  go_simp
  have hne := hid (show w.heap.size ≠ (⟨w.heap.size + 1, 0, none⟩ : Addr).block by simp)
  have hH := (((hHeld.b.far (p := ⟨w.heap.size + 1, 0, none⟩) (by simp) (.int .i64 at')).far (p := ⟨w.heap.size + 1, 1, none⟩) (by simp) (.slice B' m d')).far (p := ⟨w.heap.size + 1, 2, none⟩) (by simp) (.slice A' n c'))
  have hz3 := ((hz.set 0 (.int .i64 at')).set 1 (.slice B' m d')).set 2 (.slice A' n c')
  have hg := gb_set (gb_set (gb_set (gb_refl W3 (some (w.heap.size + 1))) 0 (.int .i64 at')) 1 (.slice B' m d')) 2 (.slice A' n c')
  have hoA := hownA.kept hg (.inr (Lib.ownBlock_ne hownA hz (by decide)))
  have hoB := hownB.kept hg (.inr (Lib.ownBlock_ne hownB hz (by decide)))
  have hB4 := ((hB1.setCell (p := ⟨w.heap.size + 1, 0, none⟩) (Nat.le_succ _) (.int .i64 at')).setCell (p := ⟨w.heap.size + 1, 1, none⟩) (Nat.le_succ _) (.slice B' m d')).setCell (p := ⟨w.heap.size + 1, 2, none⟩) (Nat.le_succ _) (.slice A' n c')
  refine hK.out _ _ ⟨hH⟩ (fun hHeld => ?_)
  clear hK K
  generalize ((W3.setCell ⟨w.heap.size + 1, 0, none⟩ (.int .i64 at')).setCell ⟨w.heap.size + 1, 1, none⟩ (.slice B' m d')).setCell ⟨w.heap.size + 1, 2, none⟩ (.slice A' n c') = W4 at *
  have hz4 : Blk W4 (w.heap.size + 1) 42 #[.int .i64 at', .slice B' m d', .slice A' n c'] := hz3
  clear y0 y1 y2 g0 g1 g2 hz hz3 hH hg
  try simp only [Act.put, List.setIfInBounds_toArray, List.set_cons_zero, List.set_cons_succ]
  refine wpAnyH_done (by kernel_rfl) ?_ _
  have y0 := hz4.cell_ (i := 0) rfl
  have y1 := hz4.cell_ (i := 1) rfl
  have y2 := hz4.cell_ (i := 2) rfl
  go_wp2
  refine bodyPost_ret (v := .agg #[.int .i64 at', .slice B' m d', .slice A' n c']) (by simp [results, Try.f48, go_sem, y0, y1, y2]) rfl ?_
  exact ⟨A', c', B', d', rfl, hoA, hoB, hB4⟩
end Go.Proofs.Ytjaenffdbhgmeaa

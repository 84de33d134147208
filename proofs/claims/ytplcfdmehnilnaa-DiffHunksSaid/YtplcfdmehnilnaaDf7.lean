
/- diff: Size, Common, Of. -/
import Derived.Test.YtplcfdmehnilnaaDf6
set_option linter.unusedSimpArgs false
set_option linter.unusedVariables false
namespace Go.Proofs.Ytplcfdmehnilnaa
open Go.RowKit Go.Qc Go.Shelf
attribute [local go_sem] txt_size txt_append ib_fold txt_toL

theorem below_cellD {w W : World} (hb : Below w.heap.size w W) {p : Addr} {u : Value} (h : w.cell? p = some u) : W.cell? p = some u := (hb.cell (cell_lt h)).trans h
theorem hcCells_at (ts : List Hc) : ∀ (j : Nat) (t : Hc), ts[j]? = some t → (ts.flatMap hcCells)[j * 3]? = some (.int .i64 t.1) ∧ (ts.flatMap hcCells)[j * 3 + 1]? = some t.2.1 ∧ (ts.flatMap hcCells)[j * 3 + 2]? = some t.2.2 := by
  induction ts with
  | nil => intro j t h; simp at h
  | cons a ts ih =>
    intro j t h
    cases j with
    | zero =>
      simp at h
      subst h
      simp [hcCells]
    | succ j =>
      rw [List.getElem?_cons_succ] at h
      obtain ⟨h1, h2, h3⟩ := ih j t h
      have e : ∀ k, ((a :: ts).flatMap hcCells)[(j + 1) * 3 + k]? = (ts.flatMap hcCells)[j * 3 + k]? := fun k => by
        rw [List.flatMap_cons, show (j + 1) * 3 + k = (j * 3 + k) + 3 by omega]
        rw [List.getElem?_append_right (by simp [hcCells])]
        simp [hcCells]
      exact ⟨(e 0).trans h1, (e 1).trans h2, (e 2).trans h3⟩
/-- Hunks of one's own, as they are read. -/
theorem hown_row {W : World} {base : Nat} {v : Value} {ds : List HD} (h : HOwn W base v ds) : ∃ A c, v = .slice A ds.length c ∧ ∀ (j : Nat) (t : HD), ds[j]? = some t → ∃ g o, A = some ⟨g, o, none⟩ ∧ ∃ A1 c1 A2 c2, W.cell? ⟨g, o + j * 3, none⟩ = some (.int .i64 t.1) ∧ W.cell? ⟨g, o + j * 3 + 1, none⟩ = some (.slice A1 t.2.1.length c1) ∧ W.cell? ⟨g, o + j * 3 + 2, none⟩ = some (.slice A2 t.2.2.length c2) ∧ Rd W A1 (t.2.1.map strV) ∧ Rd W A2 (t.2.2.map strV) ∧ t.2.1.length ≤ 1000 ∧ t.2.2.length ≤ 1000 ∧ t.2.1.length ≤ c1 ∧ t.2.2.length ≤ c2 ∧ (A1 = none → c1 = 0) ∧ (A2 = none → c2 = 0) := by
  obtain ⟨ts, hown, hl, hts⟩ := h
  obtain ⟨A, c, rfl⟩ := own_slice hown
  refine ⟨A, c, rfl, fun j t hj => ?_⟩
  rw [List.length_map] at hl
  have hjl := (List.getElem?_eq_some_iff.1 hj).1
  obtain ⟨hc, hh⟩ : ∃ hc, ts[j]? = some hc := ⟨_, List.getElem?_eq_getElem (by omega)⟩
  obtain ⟨e1, r1, r2, b1, b2⟩ := hts j hc (hdI t) hh (by rw [List.getElem?_map, hj]; rfl)
  obtain ⟨q0, q1, q2⟩ := hcCells_at ts j hc hh
  obtain ⟨_, A1, c1, v1, rd1⟩ := rowRd r1
  obtain ⟨_, A2, c2, v2, rd2⟩ := rowRd r2
  rw [v1] at r1 q1
  rw [v2] at r2 q2
  have o1 := own_cap r1
  have o2 := own_cap r2
  rcases hown.2 with ⟨e0, h0⟩ | ⟨g, cap, cur, e0, hg, hblk, _, _, _, hcs⟩
  · omega
  · cases e0
    have hcell : ∀ k u, (ts.flatMap hcCells)[k]? = some u → W.cell? ⟨g, 0 + k, none⟩ = some u := fun k u hu => by
      rw [← hcs, List.getElem?_take] at hu
      split at hu
      · rw [Nat.zero_add]
        exact (cell_of_row W g k cur _ (0, 0) hblk).trans (by simpa using hu)
      · cases hu
    rw [e1] at q0
    exact ⟨g, 0, rfl, A1, c1, A2, c2, hcell _ _ q0, hcell _ _ q1, hcell _ _ q2, rd1, rd2, b1, b2, o1.1, o2.1, o1.2, o2.2⟩
set_option maxRecDepth 100000 in
set_option maxHeartbeats 2000000 in
/-- Lines in common. -/
theorem common_any (A : Option Addr) (n c : Nat) (B : Option Addr) (m d : Nat) (x y : List (List UInt8)) (hn : x.length = n) (hm : y.length = m) (bn : n ≤ 1000) (bm : m ≤ 1000) (hx : linesR x = true) (hy : linesR y = true) (w : World) (hr : Rd w A (x.map strV)) (hs : Rd w B (y.map strV)) :
    Calls Try.prog 9 #[.slice A n c, .slice B m d] w fun e w' => e = .returned (.tuple #[.int .i64 (lcs x y : Nat), .int .i64 0]) ∧ Below w.heap.size w w' := by
  have cX := lines_any A n c x hn (by omega) w hr
  have cY := lines_any B m d y hm (by omega) w hs
  rw [hx] at cX
  rw [hy] at cY
  have cC := counts_any A B n c m d x y hn hm bn bm w hr hs
  obtain ⟨N, hN⟩ : ∃ N, (n + 1) * (m + 1) = N := ⟨_, rfl⟩
  rw [hN] at cC
  have HF := hid (fun (g : Nat) (w : World) (hC : CntAt w g x y) => counts_from g x y n m N hn hm hN bn bm w hC 0 0 (Nat.zero_le _) (Nat.zero_le _) w (Below.refl _ _) 0 0 rfl rfl)
  clear hx hy hn hm hr hs hN
  go_enter Try.func9, Try.ntmps9
  go_wp2_with (first
    | (go_at_call 28; (first | (with_reducible refine cX.mono ?_) | (with_reducible refine cY.mono ?_)); rintro e1 w1 ⟨rfl, rfl⟩)
    | (go_at_call 30; (with_reducible refine cC.mono ?_); rintro e2 w2 ⟨g, rfl, hC, hb2⟩; have cF := HF.out g w2 hC)
    | (go_at_call 31; (with_reducible refine cF.mono ?_); rintro e3 w3 ⟨rfl, hb3⟩))
  go_ret2
  exact ⟨rfl, hb2.trans (hb3.mono hb2.size)⟩
set_option maxRecDepth 100000 in
set_option maxHeartbeats 2000000 in
/-- The hunks from right lines to right lines. -/
theorem dof_any (A : Option Addr) (n c : Nat) (B : Option Addr) (m d : Nat) (x y : List (List UInt8)) (hn : x.length = n) (hm : y.length = m) (bn : n ≤ 1000) (bm : m ≤ 1000) (hnc : n ≤ c) (hmd : m ≤ d) (hx : linesR x = true) (hy : linesR y = true) (w : World) (hr : Rd w A (x.map strV)) (hs : Rd w B (y.map strV)) :
    Calls Try.prog 8 #[.slice A n c, .slice B m d] w fun e w' => ∃ v, e = .returned (.tuple #[v, .int .i64 0]) ∧ HOwn w' w.heap.size v (dfG x y 0 0 [] []) ∧ Below w.heap.size w w' := by
  have cX := lines_any A n c x hn (by omega) w hr
  have cY := lines_any B m d y hm (by omega) w hs
  rw [hx] at cX
  rw [hy] at cY
  have cC := counts_any A B n c m d x y hn hm bn bm w hr hs
  obtain ⟨N, hN⟩ : ∃ N, (n + 1) * (m + 1) = N := ⟨_, rfl⟩
  rw [hN] at cC
  have HH := hid (fun (g : Nat) (w2 : World) (hb : Below w.heap.size w w2) (hC : CntAt w2 g x y) => hunks_any A n c B m d x y hn hm bn bm hnc hmd g N hN w2 (hr.below hb) (hs.below hb) hC)
  clear hx hy hn hm hr hs hN
  go_enter Try.func8, Try.ntmps8
  go_wp2_with (first
    | (go_at_call 28; (first | (with_reducible refine cX.mono ?_) | (with_reducible refine cY.mono ?_)); rintro e1 w1 ⟨rfl, rfl⟩)
    | (go_at_call 30; (with_reducible refine cC.mono ?_); rintro e2 w2 ⟨g, rfl, hC, hb2⟩; have cF := HH.out g w2 hb2 hC)
    | (go_at_call 29; (with_reducible refine cF.mono ?_); rintro e3 w3 ⟨v, rfl, hO, hb3⟩))
  go_ret2
  exact ⟨v, rfl, hO.le hb2.size, hb2.trans (hb3.mono hb2.size)⟩
end Go.Proofs.Ytplcfdmehnilnaa

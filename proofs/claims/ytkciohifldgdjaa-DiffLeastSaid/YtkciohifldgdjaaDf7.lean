
/- diff: Size, Common, Of. -/
import Derived.Test.YtkciohifldgdjaaDf6
set_option linter.unusedSimpArgs false
set_option linter.unusedVariables false
namespace Go.Proofs.Ytkciohifldgdjaa
open Go.RowKit Go.Qc Go.Shelf
attribute [local go_sem] txt_size txt_append ib_fold txt_toL

/-- A hunk in memory, of which only the lengths are told. -/
def HkLen (w : World) (p : Addr) (h : Nat × Nat) : Prop := ∃ u A c B d, w.cell? ⟨p.block, p.off, none⟩ = some (.int .i64 u) ∧ w.cell? ⟨p.block, p.off + 1, none⟩ = some (.slice A h.1 c) ∧ w.cell? ⟨p.block, p.off + 2, none⟩ = some (.slice B h.2 d)
theorem below_cellD {w W : World} (hb : Below w.heap.size w W) {p : Addr} {u : Value} (h : w.cell? p = some u) : W.cell? p = some u := (hb.cell (cell_lt h)).trans h
def szL (l : List (Nat × Nat)) : Nat := (l.map fun h => h.1 + h.2).sum
theorem szL_le (l : List (Nat × Nat)) (h : ∀ x ∈ l, x.1 ≤ 1000000 ∧ x.2 ≤ 1000000) : szL l ≤ 2000000 * l.length := by
  induction l with
  | nil => exact Nat.le_refl _
  | cons a l ih =>
    have h1 := h a (by simp)
    have h2 := ih (fun x hx => h x (by simp [hx]))
    unfold szL at h2 ⊢
    rw [List.map_cons, List.sum_cons, List.length_cons]
    omega
theorem szL_snoc (l : List (Nat × Nat)) (a : Nat × Nat) : szL (l ++ [a]) = szL l + (a.1 + a.2) := by simp [szL]
set_option maxRecDepth 100000 in
set_option maxHeartbeats 2000000 in
theorem size_any (AH : Option Addr) (N cc : Nat) (ls : List (Nat × Nat)) (hN : ls.length = N) (bN : N ≤ 100000) (hls : ∀ x ∈ ls, x.1 ≤ 1000000 ∧ x.2 ≤ 1000000) (w : World) (hrow : ∀ (j : Nat) h, ls[j]? = some h → ∃ g o, AH = some ⟨g, o, none⟩ ∧ HkLen w ⟨g, o + j * 3, none⟩ h) :
    Calls Try.prog 16 #[.slice AH N cc] w fun e w' => e = .returned (.int .i64 (szL ls : Nat)) ∧ Below w.heap.size w w' := by
  have HR := hid hrow
  have HN := hid hN
  have HL := hid hls
  clear hrow hN hls
  go_enter Try.func16, Try.ntmps16
  go_wp2_with (fail)
  go_loopw [3, 8] (fun s i wr => ∃ k : Nat, k ≤ N ∧ i = .int .i64 k ∧ s = .int .i64 (szL (ls.take k) : Nat) ∧ Below w.heap.size w wr) (fun _ i _ => N - (intOf i).toNat)
  case atStart => exact ⟨0, by omega, rfl, rfl, Below.refl _ _⟩
  case round =>
    obtain ⟨k, hk, rfl, rfl, hB⟩ := hrel
    by_cases hlt : k < N
    · obtain ⟨h, hx⟩ : ∃ h, ls[k]? = some h := ⟨_, List.getElem?_eq_getElem (by rw [HN.out]; omega)⟩
      obtain ⟨g, o, rfl, u, A, c, B, d, q0, q1, q2⟩ := HR.out k h hx
      have p0 := below_cellD hB q0
      have p1 := below_cellD hB q1
      have p2 := below_cellD hB q2
      have hs1 := szL_le (ls.take k) (fun x hx => HL.out x (List.mem_of_mem_take hx))
      rw [List.length_take] at hs1
      have hh := HL.out h (List.mem_of_getElem? hx)
      have hsn : szL (ls.take (k + 1)) = szL (ls.take k) + (h.1 + h.2) := by rw [take_snoc hx, szL_snoc]
      have HSN := hid hsn
      obtain ⟨h1, h2⟩ := h
      simp only at p1 p2 hh HSN
      generalize hS : szL (ls.take k) = S at *
      have hw1 : wrap64 ((h1 : Int) + h2) = (h1 : Int) + h2 := w64_in _ (by omega)
      have hw2 : wrap64 ((S : Int) + ((h1 : Int) + h2)) = (S : Int) + ((h1 : Int) + h2) := w64_in _ (by omega)
      have ho : (o : Int) + k * 3 = ((o + k * 3 : Nat) : Int) := by omega
      have hkN : (k : Int) < N := by omega
      have hb1 : Below wr.heap.size wr (wr.alloc (.cells #[.int .i64 u, .slice A h1 c, .slice B h2 d] 38)) := (Below.refl _ _).alloc (Nat.le_refl _) _
      clear q0 q1 q2 hx hsn hS
      go_wp2_with (fail)
      go_roundw
      case rel => exact ⟨k + 1, hlt, by go_num, by rw [HSN.out]; go_num, hB.trans (hb1.mono hB.size)⟩
      case measure => simp [intOf]; omega
    · obtain rfl : k = N := by omega
      rw [List.take_of_length_le (by rw [HN.out]; exact Nat.le_refl _)]
      have b1 : ¬ (k : Int) < k := by omega
      go_wp2
      go_ret
      exact ⟨rfl, hB⟩
theorem hcCells_at (ts : List Hc) : ∀ (j : Nat) (t : Hc), ts[j]? = some t → (ts.flatMap hcCells)[j * 3]? = some (.int .i64 t.1) ∧ (ts.flatMap hcCells)[j * 3 + 1]? = some t.2.1 ∧ (ts.flatMap hcCells)[j * 3 + 2]? = some t.2.2 := by
  induction ts with
  | nil => intro j t h; simp at h
  | cons a ts ih =>
    intro j t h
    cases j with
    | zero =>
      simp at h
      subst h
      simp [hcCells]
    | succ j =>
      rw [List.getElem?_cons_succ] at h
      obtain ⟨h1, h2, h3⟩ := ih j t h
      have e : ∀ k, ((a :: ts).flatMap hcCells)[(j + 1) * 3 + k]? = (ts.flatMap hcCells)[j * 3 + k]? := fun k => by
        rw [List.flatMap_cons, show (j + 1) * 3 + k = (j * 3 + k) + 3 by omega]
        rw [List.getElem?_append_right (by simp [hcCells])]
        simp [hcCells]
      exact ⟨(e 0).trans h1, (e 1).trans h2, (e 2).trans h3⟩
/-- Hunks of one's own, as they are read. -/
theorem hown_row {W : World} {base : Nat} {v : Value} {ds : List HD} (h : HOwn W base v ds) : ∃ A c, v = .slice A ds.length c ∧ ∀ (j : Nat) (t : HD), ds[j]? = some t → ∃ g o, A = some ⟨g, o, none⟩ ∧ ∃ A1 c1 A2 c2, W.cell? ⟨g, o + j * 3, none⟩ = some (.int .i64 t.1) ∧ W.cell? ⟨g, o + j * 3 + 1, none⟩ = some (.slice A1 t.2.1.length c1) ∧ W.cell? ⟨g, o + j * 3 + 2, none⟩ = some (.slice A2 t.2.2.length c2) ∧ Rd W A1 (t.2.1.map strV) ∧ Rd W A2 (t.2.2.map strV) ∧ t.2.1.length ≤ 1000 ∧ t.2.2.length ≤ 1000 ∧ t.2.1.length ≤ c1 ∧ t.2.2.length ≤ c2 ∧ (A1 = none → c1 = 0) ∧ (A2 = none → c2 = 0) := by
  obtain ⟨ts, hown, hl, hts⟩ := h
  obtain ⟨A, c, rfl⟩ := own_slice hown
  refine ⟨A, c, rfl, fun j t hj => ?_⟩
  rw [List.length_map] at hl
  have hjl := (List.getElem?_eq_some_iff.1 hj).1
  obtain ⟨hc, hh⟩ : ∃ hc, ts[j]? = some hc := ⟨_, List.getElem?_eq_getElem (by omega)⟩
  obtain ⟨e1, r1, r2, b1, b2⟩ := hts j hc (hdI t) hh (by rw [List.getElem?_map, hj]; rfl)
  obtain ⟨q0, q1, q2⟩ := hcCells_at ts j hc hh
  obtain ⟨_, A1, c1, v1, rd1⟩ := rowRd r1
  obtain ⟨_, A2, c2, v2, rd2⟩ := rowRd r2
  rw [v1] at r1 q1
  rw [v2] at r2 q2
  have o1 := own_cap r1
  have o2 := own_cap r2
  rcases hown.2 with ⟨e0, h0⟩ | ⟨g, cap, cur, e0, hg, hblk, _, _, _, hcs⟩
  · omega
  · cases e0
    have hcell : ∀ k u, (ts.flatMap hcCells)[k]? = some u → W.cell? ⟨g, 0 + k, none⟩ = some u := fun k u hu => by
      rw [← hcs, List.getElem?_take] at hu
      split at hu
      · rw [Nat.zero_add]
        exact (cell_of_row W g k cur _ (0, 0) hblk).trans (by simpa using hu)
      · cases hu
    rw [e1] at q0
    exact ⟨g, 0, rfl, A1, c1, A2, c2, hcell _ _ q0, hcell _ _ q1, hcell _ _ q2, rd1, rd2, b1, b2, o1.1, o2.1, o1.2, o2.2⟩
theorem szH_lens (ds : List HD) : szL (ds.map fun t => (t.2.1.length, t.2.2.length)) = szH ds := by
  unfold szL szH
  rw [List.map_map]
  rfl
theorem sizeO_any {w : World} {base : Nat} {v : Value} {ds : List HD} (h : HOwn w base v ds) (bd : ds.length ≤ 100000) : Calls Try.prog 16 #[v] w fun e w' => e = .returned (.int .i64 (szH ds : Nat)) ∧ Below w.heap.size w w' := by
  obtain ⟨A, c, rfl, hr⟩ := hown_row h
  rw [← szH_lens]
  refine size_any A ds.length c _ (by simp) bd (fun x hx => ?_) w (fun j h hj => ?_)
  · obtain ⟨t, ht, rfl⟩ := List.mem_map.1 hx
    obtain ⟨j, hj⟩ := List.mem_iff_getElem?.1 ht
    obtain ⟨_, _, _, _, _, _, _, _, _, _, _, _, b1, b2, _⟩ := hr j t hj
    exact ⟨by simp only; omega, by simp only; omega⟩
  · rw [List.getElem?_map] at hj
    cases ht : ds[j]? with
    | none => rw [ht] at hj; cases hj
    | some t =>
      rw [ht] at hj
      cases hj
      obtain ⟨g, o, rfl, A1, c1, A2, c2, q0, q1, q2, _⟩ := hr j t ht
      exact ⟨g, o, rfl, _, A1, c1, A2, c2, q0, q1, q2⟩
set_option maxRecDepth 100000 in
set_option maxHeartbeats 2000000 in
/-- The hunks from right lines to right lines. -/
theorem of_any (A : Option Addr) (n c : Nat) (B : Option Addr) (m d : Nat) (x y : List (List UInt8)) (hn : x.length = n) (hm : y.length = m) (bn : n ≤ 1000) (bm : m ≤ 1000) (hnc : n ≤ c) (hmd : m ≤ d) (hx : linesR x = true) (hy : linesR y = true) (w : World) (hr : Rd w A (x.map strV)) (hs : Rd w B (y.map strV)) :
    Calls Try.prog 8 #[.slice A n c, .slice B m d] w fun e w' => ∃ v, e = .returned (.tuple #[v, .int .i64 0]) ∧ HOwn w' w.heap.size v (dfG x y 0 0 [] []) ∧ Below w.heap.size w w' := by
  have cX := lines_any A n c x hn (by omega) w hr
  have cY := lines_any B m d y hm (by omega) w hs
  rw [hx] at cX
  rw [hy] at cY
  have cC := counts_any A B n c m d x y hn hm bn bm w hr hs
  obtain ⟨N, hN⟩ : ∃ N, (n + 1) * (m + 1) = N := ⟨_, rfl⟩
  rw [hN] at cC
  have HH := hid (fun (g : Nat) (w2 : World) (hb : Below w.heap.size w w2) (hC : CntAt w2 g x y) => hunks_any A n c B m d x y hn hm bn bm hnc hmd g N hN w2 (hr.below hb) (hs.below hb) hC)
  clear hx hy hn hm hr hs hN
  go_enter Try.func8, Try.ntmps8
  go_wp2_with (first
    | (go_at_call 18; (first | (with_reducible refine cX.mono ?_) | (with_reducible refine cY.mono ?_)); rintro e1 w1 ⟨rfl, rfl⟩)
    | (go_at_call 20; (with_reducible refine cC.mono ?_); rintro e2 w2 ⟨g, rfl, hC, hb2⟩; have cF := HH.out g w2 hb2 hC)
    | (go_at_call 19; (with_reducible refine cF.mono ?_); rintro e3 w3 ⟨v, rfl, hO, hb3⟩))
  go_ret2
  exact ⟨v, rfl, hO.le hb2.size, hb2.trans (hb3.mono hb2.size)⟩
end Go.Proofs.Ytkciohifldgdjaa

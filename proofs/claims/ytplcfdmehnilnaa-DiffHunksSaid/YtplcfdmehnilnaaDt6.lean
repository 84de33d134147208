
/- diff: what is needed besides for the law of hunks. -/
import Derived.Test.YtplcfdmehnilnaaDt3
import Derived.Test.YtplcfdmehnilnaaDt5
import Derived.Test.YtplcfdmehnilnaaDf8
import Derived.Test.YtplcfdmehnilnaaHk11
set_option linter.unusedSimpArgs false
set_option linter.unusedVariables false
namespace Go.Proofs.Ytplcfdmehnilnaa
open Go.RowKit Go.Qc Go.Shelf
attribute [local go_sem] txt_size txt_append ib_fold txt_toL

/-- The lines of the hunks are lines of either row. -/
theorem dfG_lines (Q : List UInt8 → Prop) : ∀ (x y : List (List UInt8)) (at' j : Nat) (D A : List (List UInt8)), (∀ z ∈ x, Q z) → (∀ z ∈ y, Q z) → (∀ z ∈ D, Q z) → (∀ z ∈ A, Q z) → ∀ h ∈ dfG x y at' j D A, (∀ z ∈ h.2.1, Q z) ∧ ∀ z ∈ h.2.2, Q z
  | [], [], at', j, D, A, h1, h2, h3, h4, h, hm => by
    rw [dfG] at hm
    rw [mem_flu hm]
    exact ⟨h3, h4⟩
  | a :: x, [], at', j, D, A, h1, h2, h3, h4, h, hm => by
    rw [dfG] at hm
    exact dfG_lines Q x [] at' j _ _ (all_tail h1) h2 (all_snoc h3 (all_head h1)) h4 h hm
  | [], b :: y, at', j, D, A, h1, h2, h3, h4, h, hm => by
    rw [dfG] at hm
    exact dfG_lines Q [] y at' (j + 1) _ _ h1 (all_tail h2) h3 (all_snoc h4 (all_head h2)) h hm
  | a :: x, b :: y, at', j, D, A, h1, h2, h3, h4, h, hm => by
    rw [dfG] at hm
    split at hm
    · rcases List.mem_append.1 hm with hm | hm
      · rw [mem_flu hm]
        exact ⟨h3, h4⟩
      · exact dfG_lines Q x y (j + 1) (j + 1) [] [] (all_tail h1) (all_tail h2) (by simp) (by simp) h hm
    · split at hm
      · exact dfG_lines Q x (b :: y) at' j _ _ (all_tail h1) h2 (all_snoc h3 (all_head h1)) h4 h hm
      · exact dfG_lines Q (a :: x) y at' (j + 1) _ _ h1 (all_tail h2) h3 (all_snoc h4 (all_head h2)) h hm
termination_by x y => x.length + y.length
/-- No hunk lies behind the new lines' end. -/
theorem dfG_top : ∀ (x y : List (List UInt8)) (at' j : Nat) (D A : List (List UInt8)), at' ≤ j → ∀ h ∈ dfG x y at' j D A, h.1 ≤ j + y.length
  | [], [], at', j, D, A, hj, h, hm => by
    rw [dfG] at hm
    rw [mem_flu hm]
    simp only
    omega
  | a :: x, [], at', j, D, A, hj, h, hm => by
    rw [dfG] at hm
    exact dfG_top x [] at' j _ _ hj h hm
  | [], b :: y, at', j, D, A, hj, h, hm => by
    rw [dfG] at hm
    have := dfG_top [] y at' (j + 1) _ _ (by omega) h hm
    simp only [List.length_cons]
    omega
  | a :: x, b :: y, at', j, D, A, hj, h, hm => by
    rw [dfG] at hm
    split at hm
    · rcases List.mem_append.1 hm with hm | hm
      · rw [mem_flu hm]
        simp only
        omega
      · have := dfG_top x y (j + 1) (j + 1) [] [] (Nat.le_refl _) h hm
        simp only [List.length_cons]
        omega
    · split at hm
      · exact dfG_top x (b :: y) at' j _ _ hj h hm
      · have := dfG_top (a :: x) y at' (j + 1) _ _ (by omega) h hm
        simp only [List.length_cons]
        omega
termination_by x y => x.length + y.length

theorem flu_lenH (a : Nat) (D E : List (List UInt8)) : (flu a D E).length ≤ 1 := by unfold flu; split <;> simp
theorem dfG_lenH : ∀ (x y : List (List UInt8)) (at' j : Nat) (D A : List (List UInt8)), (dfG x y at' j D A).length ≤ x.length + y.length + 1
  | [], [], at', j, D, A => by rw [dfG]; have := flu_lenH at' D A; simp only [List.length_nil]; omega
  | a :: x, [], at', j, D, A => by
    rw [dfG]
    have := dfG_lenH x [] at' j (D ++ [a]) A
    simp only [List.length_cons, List.length_nil] at *
    omega
  | [], b :: y, at', j, D, A => by
    rw [dfG]
    have := dfG_lenH [] y at' (j + 1) D (A ++ [b])
    simp only [List.length_cons, List.length_nil] at *
    omega
  | a :: x, b :: y, at', j, D, A => by
    rw [dfG]
    split
    · have := dfG_lenH x y (j + 1) (j + 1) [] []
      have := flu_lenH at' D A
      rw [List.length_append]
      simp only [List.length_cons] at *
      omega
    · split
      · have := dfG_lenH x (b :: y) at' j (D ++ [a]) A
        simp only [List.length_cons] at *
        omega
      · have := dfG_lenH (a :: x) y at' (j + 1) D (A ++ [b])
        simp only [List.length_cons] at *
        omega
termination_by x y => x.length + y.length
theorem apR_lenH (ls : List (List UInt8)) (at' : Int) (old new : List (List UInt8)) : (apR ls at' old new).1.length ≤ 1000 := by
  by_cases h : (apR ls at' old new).2 = 0
  · exact (apR_back ls at' old new h).2
  · have : (apR ls at' old new).1 = [] := by
      revert h; unfold apR appR; repeat' split
      all_goals simp
    rw [this]; decide
theorem apR_shortH (ls : List (List UInt8)) (at' : Int) (old new : List (List UInt8)) (N : Nat) (h1 : ∀ x ∈ ls, x.length ≤ N) (h2 : ∀ x ∈ new, x.length ≤ N) : ∀ x ∈ (apR ls at' old new).1, x.length ≤ N := by
  by_cases h : (apR ls at' old new).2 = 0
  · obtain ⟨P, S, _, e2, e3, _, _⟩ := apR_get h
    rw [e3]
    intro x hx
    simp only [List.mem_append] at hx
    rcases hx with hx | hx | hx
    · exact h1 x (by rw [e2]; simp [hx])
    · exact h2 x hx
    · exact h1 x (by rw [e2]; simp [hx])
  · have : (apR ls at' old new).1 = [] := by
      revert h; unfold apR appR; repeat' split
      all_goals simp
    rw [this]
    intro x hx
    cases hx
set_option maxRecDepth 100000 in
set_option maxHeartbeats 2000000 in
/-- Lines that aren't right have no hunks. -/
theorem of_no (A : Option Addr) (n c : Nat) (B : Option Addr) (m d : Nat) (x y : List (List UInt8)) (hn : x.length = n) (hm : y.length = m) (bn : n ≤ 1000) (bm : m ≤ 1000) (hl : (linesR x && linesR y) = false) (w : World) (hr : Rd w A (x.map strV)) (hs : Rd w B (y.map strV)) :
    Calls Try.prog 8 #[.slice A n c, .slice B m d] w fun e w' => e = .returned (.tuple #[.slice none 0 0, .int .i64 3]) ∧ Below w.heap.size w w' := by
  have cX := lines_any A n c x hn (by omega) w hr
  have cY := lines_any B m d y hm (by omega) w hs
  cases hx : linesR x with
  | false =>
    rw [hx] at cX
    clear hl hn hm hr hs
    go_enter Try.func8, Try.ntmps8
    go_wp2_with (go_at_call 28; (with_reducible refine cX.mono ?_); rintro e1 w1 ⟨rfl, rfl⟩)
    go_ret2
    exact ⟨rfl, Below.refl _ _⟩
  | true =>
    rw [hx, Bool.true_and] at hl
    rw [hx] at cX
    rw [hl] at cY
    clear hl hn hm hr hs
    go_enter Try.func8, Try.ntmps8
    go_wp2_with (go_at_call 28; (first | (with_reducible refine cX.mono ?_) | (with_reducible refine cY.mono ?_)); rintro e1 w1 ⟨rfl, rfl⟩)
    go_ret2
    exact ⟨rfl, Below.refl _ _⟩
set_option maxRecDepth 100000 in
set_option maxHeartbeats 2000000 in
theorem common_no (A : Option Addr) (n c : Nat) (B : Option Addr) (m d : Nat) (x y : List (List UInt8)) (hn : x.length = n) (hm : y.length = m) (bn : n ≤ 1000) (bm : m ≤ 1000) (hl : (linesR x && linesR y) = false) (w : World) (hr : Rd w A (x.map strV)) (hs : Rd w B (y.map strV)) :
    Calls Try.prog 9 #[.slice A n c, .slice B m d] w fun e w' => e = .returned (.tuple #[.int .i64 0, .int .i64 3]) ∧ Below w.heap.size w w' := by
  have cX := lines_any A n c x hn (by omega) w hr
  have cY := lines_any B m d y hm (by omega) w hs
  cases hx : linesR x with
  | false =>
    rw [hx] at cX
    clear hl hn hm hr hs
    go_enter Try.func9, Try.ntmps9
    go_wp2_with (go_at_call 28; (with_reducible refine cX.mono ?_); rintro e1 w1 ⟨rfl, rfl⟩)
    go_ret2
    exact ⟨rfl, Below.refl _ _⟩
  | true =>
    rw [hx, Bool.true_and] at hl
    rw [hx] at cX
    rw [hl] at cY
    clear hl hn hm hr hs
    go_enter Try.func9, Try.ntmps9
    go_wp2_with (go_at_call 28; (first | (with_reducible refine cX.mono ?_) | (with_reducible refine cY.mono ?_)); rintro e1 w1 ⟨rfl, rfl⟩)
    go_ret2
    exact ⟨rfl, Below.refl _ _⟩
theorem HOwnR.below {W W' : World} {base : Nat} {v : Value} {ds : List HD} (h : HOwnR W base v ds) (hb : Below W.heap.size W W') : HOwnR W' base v ds := by
  obtain ⟨ts, h1, h2⟩ := h
  exact ⟨ts, own_below h1 hb, h2.step fun v n xs h => own_below h hb⟩
/-- The document's hunks, as they are read. -/
theorem hownR_row {W : World} {base : Nat} {v : Value} {ds : List HD} (h : HOwnR W base v ds) : ∃ A c, v = .slice A ds.length c ∧ ∀ (j : Nat) (t : HD), ds[j]? = some t → ∃ g o, A = some ⟨g, o, none⟩ ∧ ∃ A1 c1 A2 c2, W.cell? ⟨g, o + j * 3, none⟩ = some (.int .i64 t.1) ∧ W.cell? ⟨g, o + j * 3 + 1, none⟩ = some (.slice A1 t.2.1.length c1) ∧ W.cell? ⟨g, o + j * 3 + 2, none⟩ = some (.slice A2 t.2.2.length c2) ∧ Rd W A1 (t.2.1.map strV) ∧ Rd W A2 (t.2.2.map strV) ∧ t.2.1.length ≤ 1000 ∧ t.2.2.length ≤ 1000 ∧ t.2.1.length ≤ c1 ∧ t.2.2.length ≤ c2 ∧ (A1 = none → c1 = 0) ∧ (A2 = none → c2 = 0) := by
  obtain ⟨ts, hown, hl, hts⟩ := h
  obtain ⟨A, c, rfl⟩ := own_slice hown
  refine ⟨A, c, rfl, fun j t hj => ?_⟩
  rw [List.length_map] at hl
  have hjl := (List.getElem?_eq_some_iff.1 hj).1
  obtain ⟨hc, hh⟩ : ∃ hc, ts[j]? = some hc := ⟨_, List.getElem?_eq_getElem (by omega)⟩
  obtain ⟨e1, r1, r2, b1, b2⟩ := hts j hc (hdI t) hh (by rw [List.getElem?_map, hj]; rfl)
  obtain ⟨q0, q1, q2⟩ := hcCells_at ts j hc hh
  obtain ⟨_, A1, c1, v1, rd1⟩ := rowRd r1
  obtain ⟨_, A2, c2, v2, rd2⟩ := rowRd r2
  rw [v1] at r1 q1
  rw [v2] at r2 q2
  have o1 := own_cap r1
  have o2 := own_cap r2
  rcases hown.2 with ⟨e0, h0⟩ | ⟨g, cap, cur, e0, hg, hblk, _, _, _, hcs⟩
  · omega
  · cases e0
    have hcell : ∀ k u, (ts.flatMap hcCells)[k]? = some u → W.cell? ⟨g, 0 + k, none⟩ = some u := fun k u hu => by
      rw [← hcs, List.getElem?_take] at hu
      split at hu
      · rw [Nat.zero_add]
        exact (cell_of_row W g k cur _ (0, 0) hblk).trans (by simpa using hu)
      · cases hu
    rw [e1] at q0
    exact ⟨g, 0, rfl, A1, c1, A2, c2, hcell _ _ q0, hcell _ _ q1, hcell _ _ q2, rd1, rd2, b1, b2, o1.1, o2.1, o1.2, o2.2⟩
end Go.Proofs.Ytplcfdmehnilnaa

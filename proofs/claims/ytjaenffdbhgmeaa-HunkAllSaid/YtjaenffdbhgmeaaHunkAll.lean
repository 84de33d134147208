
/- Proved: for all lines and all rows of hunks quitclaimlaw11.HunkAll returns true and leaves its arguments as they were. No conditions. -/
import Derived.Test.YtjaenffdbhgmeaaHl1
import Derived.Deep.RegionHeld3
set_option linter.unusedSimpArgs false
set_option linter.unusedVariables false
namespace Go.Proofs.Ytjaenffdbhgmeaa
open Go.RowKit Go.Qc Go.Shelf
attribute [local go_sem] txt_size txt_append ib_fold txt_toL

theorem HkAt.below {w w' : World} {p : Addr} {h : HunkD} (k : HkAt w p h) (hb : Below w.heap.size w w') : HkAt w' p h := by
  obtain ⟨A, n, c, B, m, d, c0, c1, c2, k1, b1, k2, b2, hz, rA, rB⟩ := k
  exact ⟨A, n, c, B, m, d, below_cell hb c0, below_cell hb c1, below_cell hb c2, k1, b1, k2, b2, hz, rA.below hb, rB.below hb⟩
theorem long1_any (L : Option Addr) (k e : Nat) (ls : List (List UInt8)) (w : World) (hl : LnRow w L k e ls) :
    Calls Try.prog 11 #[.slice (some ⟨w.heap.size, 0, none⟩) 1 1] (w.alloc (.cells #[.slice L k e] 37)) fun e w' => e = .returned (.bool (longL ls)) ∧ Below w.heap.size w w' := by
  obtain ⟨l1, l2, l3, l4, l5, l6⟩ := hl
  have hB : Below w.heap.size w (w.alloc (.cells #[.slice L k e] 37)) := (Below.refl _ w).alloc (Nat.le_refl _) _
  have hk := Blk.new w 37 #[.slice L k e]
  have := long11_any ⟨w.heap.size, 0, none⟩ 1 1 [(.slice L k e, ls)] rfl (by decide) (by
    intro x hx
    simp only [List.mem_cons, List.not_mem_nil, or_false] at hx
    subst hx
    exact l1 ▸ l4) _ (by
    intro j x hx
    match j, hx with
    | 0, hx => cases hx; exact ⟨hk.cell_ (i := 0) rfl, L, k, e, rfl, l1, l3, l5.below hB⟩
    | j + 1, hx => simp at hx)
  refine this.mono ?_
  rintro e w' ⟨rfl, rfl⟩
  exact ⟨by simp, hB⟩
theorem long2_any (A : Option Addr) (n c : Nat) (old : List (List UInt8)) (B : Option Addr) (m d : Nat) (new : List (List UInt8)) (W : World) (ha : LnRow W A n c old) (hb : LnRow W B m d new) :
    Calls Try.prog 11 #[.slice (some ⟨W.heap.size, 0, none⟩) 2 2] (W.alloc (.cells #[.slice A n c, .slice B m d] 37)) fun e w' => e = .returned (.bool (longL old || longL new)) ∧ Below W.heap.size W w' := by
  obtain ⟨a1, a2, a3, a4, a5, a6⟩ := ha
  obtain ⟨b1, b2, b3, b4, b5, b6⟩ := hb
  have hB : Below W.heap.size W (W.alloc (.cells #[.slice A n c, .slice B m d] 37)) := (Below.refl _ W).alloc (Nat.le_refl _) _
  have hk := Blk.new W 37 #[.slice A n c, .slice B m d]
  have := long11_any ⟨W.heap.size, 0, none⟩ 2 2 [(.slice A n c, old), (.slice B m d, new)] rfl (by decide) (by
    intro x hx
    simp only [List.mem_cons, List.not_mem_nil, or_false] at hx
    rcases hx with rfl | rfl
    · exact a1 ▸ a4
    · exact b1 ▸ b4) _ (by
    intro j x hx
    match j, hx with
    | 0, hx => cases hx; exact ⟨hk.cell_ (i := 0) rfl, A, n, c, rfl, a1, a3, a5.below hB⟩
    | 1, hx => cases hx; exact ⟨hk.cell_ (i := 1) rfl, B, m, d, rfl, b1, b3, b5.below hB⟩
    | j + 2, hx => simp at hx)
  refine this.mono ?_
  rintro e w' ⟨rfl, rfl⟩
  exact ⟨by simp, hB⟩
theorem rap_one (L : Option Addr) (k e : Nat) (ls : List (List UInt8)) (hk : ls.length = k) (bk : k ≤ 1000) (at' : Int) (A : Option Addr) (n c : Nat) (old : List (List UInt8)) (hn : old.length = n) (bn : n ≤ 1000) (B : Option Addr) (m d : Nat) (new : List (List UInt8)) (hm : new.length = m) (bm : m ≤ 1000)
    (l8 : ∀ x ∈ ls, x.length ≤ 1000000000000) (o8 : ∀ x ∈ old, x.length ≤ 1000000000000) (n8 : ∀ x ∈ new, x.length ≤ 1000000000000) (R : List (List UInt8)) (z : Int) (hR : apR ls at' old new = (R, z)) (W : World)
    (hL : Rd W L (ls.map strV)) (hA : Rd W A (old.map strV)) (hB : Rd W B (new.map strV)) :
    Calls Try.prog 14 #[.slice L k e, .agg #[.int .i64 at', .slice A n c, .slice B m d]] W fun e w' => ∃ A1 r1, e = .returned (.tuple #[.slice A1 R.length r1, .int .i64 z]) ∧ Rd w' A1 (R.map strV) ∧ Below W.heap.size W w' := by
  have h := rapply_any L k e ls hk bk at' A n c old hn bn B m d new hm bm l8 o8 n8 W hL hA hB
  rw [← apR_fst, ← apR_snd, hR] at h
  refine h.mono ?_
  rintro e w' ⟨v, rfl, hown, hb'⟩
  obtain ⟨_, A1, c1, rfl, r1⟩ := rowRd hown
  exact ⟨A1, c1, rfl, r1, hb'⟩
theorem lnrow_below {w W : World} {A : Option Addr} {n c : Nat} {l : List (List UInt8)} (h : LnRow w A n c l) (hb : Below w.heap.size w W) : LnRow W A n c l := ⟨h.1, h.2.1, h.2.2.1, h.2.2.2.1, h.2.2.2.2.1.below hb, h.2.2.2.2.2⟩
theorem line_len {l : List (List UInt8)} (h : linesR l = true) : l.length ≤ 1000 ∧ ∀ x ∈ l, x.length ≤ 200 := by
  unfold linesR at h
  rw [Bool.and_eq_true, decide_eq_true_eq, List.all_eq_true] at h
  refine ⟨h.1, fun x hx => ?_⟩
  have := h.2 x hx
  unfold lineR at this
  simp at this
  omega
set_option maxRecDepth 100000 in
set_option maxHeartbeats 8000000 in
theorem hl_long (L : Option Addr) (k e : Nat) (ls : List (List UInt8)) (AH : Option Addr) (N cc : Nat) (w : World) (hl : LnRow w L k e ls) (hlong : longL ls = true) :
    Calls Try.prog 4 #[.slice L k e, .slice AH N cc] w fun e w' => e = .returned (.bool true) ∧ Below w.heap.size w w' := by
  have cG := long1_any L k e ls w hl
  rw [hlong] at cG
  go_enter Try.func4, Try.ntmps4
  go_wp2_with (first
    | (go_at_call 11; (with_reducible refine cG.mono ?_); rintro e1 w1 ⟨rfl, hX⟩)
    | (go_at_call 12; (with_reducible refine (awake11_any _).mono ?_); rintro e9 w9 ⟨rfl, hb⟩; replace hX := hX.trans (hb.mono hX.size); clear hb))
  go_ret
  exact ⟨rfl, hX⟩
set_option maxRecDepth 100000 in
set_option maxHeartbeats 8000000 in
theorem hl_many (L : Option Addr) (k e : Nat) (ls : List (List UInt8)) (AH : Option Addr) (N cc : Nat) (w : World) (hl : LnRow w L k e ls) (hlong : longL ls = false) (hN : 20 < N) :
    Calls Try.prog 4 #[.slice L k e, .slice AH N cc] w fun e w' => e = .returned (.bool true) ∧ Below w.heap.size w w' := by
  have cG := long1_any L k e ls w hl
  rw [hlong] at cG
  have b1 : (20 : Int) < N := by omega
  go_enter Try.func4, Try.ntmps4
  go_wp2_with (first
    | (go_at_call 11; (with_reducible refine cG.mono ?_); rintro e1 w1 ⟨rfl, hX⟩)
    | (go_at_call 12; (with_reducible refine (awake11_any _).mono ?_); rintro e9 w9 ⟨rfl, hb⟩; replace hX := hX.trans (hb.mono hX.size); clear hb))
  go_ret
  exact ⟨rfl, hX⟩
set_option maxRecDepth 100000 in
set_option maxHeartbeats 8000000 in
theorem hl_form (L : Option Addr) (k e : Nat) (ls : List (List UInt8)) (AH : Option Addr) (N cc : Nat) (w : World) (hl : LnRow w L k e ls) (hlong : longL ls = false) (hN : N ≤ 20) (hll : linesR ls = false) :
    Calls Try.prog 4 #[.slice L k e, .slice AH N cc] w fun e w' => e = .returned (.bool true) ∧ Below w.heap.size w w' := by
  have cG := long1_any L k e ls w hl
  rw [hlong] at cG
  obtain ⟨p1, q1⟩ := longL_no hlong
  obtain ⟨l1, l2, l3, l4, l5, l6⟩ := hl
  have b1 : ¬ (20 : Int) < N := by omega
  have cR := fun W (hb : Below w.heap.size w W) => rlines_any L k e ls l1 (by omega) (fun x hx => by have := q1 x hx; omega) W (l5.below hb)
  rw [hll] at cR
  have cA := fun W (hb : Below w.heap.size w W) => hall_no L k e ls l1 (by omega) hll AH N cc W (l5.below hb)
  clear hlong hll l1 l2 l3 l4 l5 l6 p1 q1
  go_enter Try.func4, Try.ntmps4
  go_wp2_with (first
    | (go_at_call 11; (with_reducible refine cG.mono ?_); rintro e1 w1 ⟨rfl, hX⟩)
    | (go_at_call 13; (with_reducible refine (cR _ hX).mono ?_); rintro e2 w2 ⟨rfl, rfl⟩))
  go_loopw [6, 7, 8] (fun a f i wr => a = .int .i64 0 ∧ f = .int .i64 3 ∧ i = .int .i64 0 ∧ Below w.heap.size w wr) (fun _ _ _ _ => 0)
  case atStart => exact ⟨rfl, rfl, rfl, hX⟩
  case round =>
    obtain ⟨rfl, rfl, rfl, hY⟩ := hrel
    clear hX
    go_wp2_with (first
      | (go_at_call 16; (with_reducible refine (cA _ hY).mono ?_); rintro e3 w3 ⟨rfl, hb⟩; replace hY := hY.trans (hb.mono hY.size); clear hb)
      | (go_at_call 12; (with_reducible refine (awake11_any _).mono ?_); rintro e9 w9 ⟨rfl, hb⟩; replace hY := hY.trans (hb.mono hY.size); clear hb))
    all_goals
      go_ret
      exact ⟨rfl, hY⟩
set_option maxRecDepth 100000 in
set_option maxHeartbeats 16000000 in
theorem hl_main (L : Option Addr) (k e : Nat) (ls : List (List UInt8)) (AH : Option Addr) (N cc : Nat) (hs : List HunkD) (w : World) (hl : LnRow w L k e ls) (hh : HkRow w AH N hs) (hlong : longL ls = false) (hN : N ≤ 20) (hll : linesR ls = true) :
    Calls Try.prog 4 #[.slice L k e, .slice AH N cc] w fun e w' => e = .returned (.bool true) ∧ Below w.heap.size w w' := by
  have cG := long1_any L k e ls w hl
  rw [hlong] at cG
  obtain ⟨p1, q1⟩ := longL_no hlong
  obtain ⟨l1, l2, l3, l4, l5, l6⟩ := hl
  obtain ⟨h1, h2, h3⟩ := hh
  have b1 : ¬ (20 : Int) < N := by omega
  have cR := fun W (hb : Below w.heap.size w W) => rlines_any L k e ls l1 (by omega) (fun x hx => by have := q1 x hx; omega) W (l5.below hb)
  rw [hll] at cR
  have cA : ∀ W (hb : Below w.heap.size w W) (vs : List HunkD) (R : List (List UInt8)) (K : Nat) (z : Int), stepsR ls vs 0 = (R, K, z) → ((z = 0 ∧ vs.length = N) ∨ (z ≠ 0 ∧ vs.length ≤ N)) → (∀ (j : Nat) (h : HunkD), vs[j]? = some h → hs[j]? = some h ∧ longL h.2.1 = false ∧ longL h.2.2 = false) → Calls Try.prog 16 #[.slice L k e, .slice AH N cc] W fun e w' => ∃ A1 n1 c1, e = .returned (.tuple #[.slice A1 n1 c1, .int .i64 K, .int .i64 z]) ∧ R.length = n1 ∧ n1 ≤ c1 ∧ (A1 = none → c1 = 0) ∧ Rd w' A1 (R.map strV) ∧ Below W.heap.size W w' := fun W hb vs R K z hst hv hw =>
    hall_any L k e ls l1 (by omega) hll AH N cc (by omega) vs R K z hst hv W (l5.below hb) (fun j h hj => by
      obtain ⟨hj2, g1, g2⟩ := hw j h hj
      obtain ⟨g, o, e1, hc⟩ := h3 j h hj2
      exact ⟨g, o, e1, (hc.at_ g1 g2).below hb⟩)
  have HL1 := hid l1
  have HL5 := hid l5
  have HLL := hid hll
  have H1 := hid h1
  have H3 := hid h3
  have HA := hid cA
  have P1 := hid p1
  clear hlong hll l1 l2 l3 l4 l5 l6 p1 q1 h1 h2 h3 cA
  go_enter Try.func4, Try.ntmps4
  go_wp2_with (first
    | (go_at_call 11; (with_reducible refine cG.mono ?_); rintro e1 w1 ⟨rfl, hX⟩)
    | (go_at_call 13; (with_reducible refine (cR _ hX).mono ?_); rintro e2 w2 ⟨rfl, rfl⟩))
  clear cG cR
  go_loopw [5, 6, 7, 8] (fun now a f i wr => ∃ (j : Nat) (A : Option Addr) (n' c' : Nat) (cur : List (List UInt8)), j ≤ N ∧ now = .slice A n' c' ∧ Hid (cur.length = n' ∧ n' ≤ 1000 ∧ Rd wr A (cur.map strV)) ∧ i = .int .i64 j ∧ Hid (∀ m h, m < j → hs[m]? = some h → longL h.2.1 = false ∧ longL h.2.2 = false) ∧ Below w.heap.size w wr ∧ ((f = .int .i64 0 ∧ a = .int .i64 N ∧ Hid (linesR cur = true) ∧ Hid (stepsR ls (hs.take j) 0 = (cur, j, 0))) ∨ (∃ (z : Int) (K : Nat), f = .int .i64 z ∧ z ≠ 0 ∧ a = .int .i64 K ∧ Hid (stepsR ls (hs.take j) 0 = ([], K, z)))))
    (fun _ _ _ i _ => N - (intOf i).toNat)
  case atStart => exact ⟨0, L, k, e, ls, by omega, rfl, hid ⟨HL1.out, by have := P1.out; have := HL1.out; omega, HL5.out.below hX⟩, rfl, hid (fun m h hm => by omega), hX, .inl ⟨rfl, rfl, HLL, hid rfl⟩⟩
  case round =>
    obtain ⟨j, A, n', c', cur, hj, rfl, HC, rfl, HM, hY, hcase⟩ := hrel
    clear hX
    rcases hcase with ⟨rfl, rfl, HQ, HS⟩ | ⟨z, K, rfl, hz, rfl, HS⟩
    · by_cases hlt : j < N
      · obtain ⟨h, hx⟩ : ∃ h, hs[j]? = some h := ⟨_, List.getElem?_eq_getElem (by rw [H1.out]; exact hlt)⟩
        obtain ⟨g, o, rfl, A0, n0, c0, B0, m0, d0, x0, x1, x2, xw, xa, xb⟩ := H3.out j h hx
        have hjN : (j : Int) < N := by omega
        have hj0 : (0 : Int) ≤ j := by omega
        have ho : (o : Int) + j * 3 = ((o + j * 3 : Nat) : Int) := by omega
        have y1 : ∀ W, Below wr.heap.size wr W → W.cell? ⟨g, o + j * 3 + 1, none⟩ = some (.slice A0 n0 c0) := fun W hb => below_cell hb (below_cell hY x1)
        have y2 : ∀ W, Below wr.heap.size wr W → W.cell? ⟨g, o + j * 3 + 2, none⟩ = some (.slice B0 m0 d0) := fun W hb => below_cell hb (below_cell hY x2)
        have y0 : ∀ W, Below wr.heap.size wr W → W.cell? ⟨g, o + j * 3, none⟩ = some (.int .i64 h.1) := fun W hb => below_cell hb (below_cell hY x0)
        have cL2 : ∀ W, Below wr.heap.size wr W → _ := fun W hb => long2_any A0 n0 c0 h.2.1 B0 m0 d0 h.2.2 W (lnrow_below xa (hY.trans (hb.mono hY.size))) (lnrow_below xb (hY.trans (hb.mono hY.size)))
        have Y0 := hid y0
        have Y1 := hid y1
        have Y2 := hid y2
        clear x0 x1 x2 xw y0
        go_wp2_with (fail)
        refine wp_region_held_drew (S := fun W => Below wr.heap.size wr W) (by kernel_rfl) (below_drew10 wr) (fun hHeld => ?_)
        generalize wr.drew = W0 at *
        refine' wpAnyH_take (i := 0) (v := .slice (some ⟨g, o, none⟩) N cc) rfl (by kernel_rfl) (by kernel_rfl) (by kernel_rfl) (fun _ _ _ h => h) (Or.inl ⟨by rfl, fun w' hw' => by go_simp⟩) hHeld ?_
        try simp only [Act.put, List.getElem_toArray, List.getElem_cons_succ, List.getElem_cons_zero, List.setIfInBounds_toArray, List.set_cons_zero, List.set_cons_succ]
        refine' wpAnyH_take (i := 1) (v := .int .i64 j) rfl (by kernel_rfl) (by kernel_rfl) (by kernel_rfl) (fun _ _ _ h => h) (Or.inl ⟨by rfl, fun w' hw' => by go_simp⟩) hHeld ?_
        try simp only [Act.put, List.getElem_toArray, List.getElem_cons_succ, List.getElem_cons_zero, List.setIfInBounds_toArray, List.set_cons_zero, List.set_cons_succ]
        refine' wpAnyH_take (i := 2) (v := .pointer (some ⟨g, o + j * 3, none⟩)) rfl (by kernel_rfl) (by kernel_rfl) (by kernel_rfl) (fun _ _ _ h => h) (Or.inl ⟨by rfl, fun w' hw' => by go_simp⟩) hHeld ?_
        try simp only [Act.put, List.getElem_toArray, List.getElem_cons_succ, List.getElem_cons_zero, List.setIfInBounds_toArray, List.set_cons_zero, List.set_cons_succ]
        refine' wpAnyH_take (i := 3) (v := .pointer (some ⟨g, o + j * 3 + 1, none⟩)) rfl (by kernel_rfl) (by kernel_rfl) (by kernel_rfl) (fun _ _ _ h => h) (Or.inl ⟨by rfl, fun w' hw' => by go_simp⟩) hHeld ?_
        try simp only [Act.put, List.getElem_toArray, List.getElem_cons_succ, List.getElem_cons_zero, List.setIfInBounds_toArray, List.set_cons_zero, List.set_cons_succ]
        refine' wpAnyH_take (i := 4) (v := .slice A0 n0 c0) rfl (by kernel_rfl) (by kernel_rfl) (by kernel_rfl) (fun _ _ _ h => h) (Or.inl ⟨by rfl, fun w' hw' => by have hv := y1 w' hw'; go_simp⟩) hHeld ?_
        try simp only [Act.put, List.getElem_toArray, List.getElem_cons_succ, List.getElem_cons_zero, List.setIfInBounds_toArray, List.set_cons_zero, List.set_cons_succ]
        refine' wpAnyH_take (i := 5) (v := .slice (some ⟨g, o, none⟩) N cc) rfl (by kernel_rfl) (by kernel_rfl) (by kernel_rfl) (fun _ _ _ h => h) (Or.inl ⟨by rfl, fun w' hw' => by go_simp⟩) hHeld ?_
        try simp only [Act.put, List.getElem_toArray, List.getElem_cons_succ, List.getElem_cons_zero, List.setIfInBounds_toArray, List.set_cons_zero, List.set_cons_succ]
        refine' wpAnyH_take (i := 6) (v := .int .i64 j) rfl (by kernel_rfl) (by kernel_rfl) (by kernel_rfl) (fun _ _ _ h => h) (Or.inl ⟨by rfl, fun w' hw' => by go_simp⟩) hHeld ?_
        try simp only [Act.put, List.getElem_toArray, List.getElem_cons_succ, List.getElem_cons_zero, List.setIfInBounds_toArray, List.set_cons_zero, List.set_cons_succ]
        refine' wpAnyH_take (i := 7) (v := .pointer (some ⟨g, o + j * 3, none⟩)) rfl (by kernel_rfl) (by kernel_rfl) (by kernel_rfl) (fun _ _ _ h => h) (Or.inl ⟨by rfl, fun w' hw' => by go_simp⟩) hHeld ?_
        try simp only [Act.put, List.getElem_toArray, List.getElem_cons_succ, List.getElem_cons_zero, List.setIfInBounds_toArray, List.set_cons_zero, List.set_cons_succ]
        refine' wpAnyH_take (i := 8) (v := .pointer (some ⟨g, o + j * 3 + 2, none⟩)) rfl (by kernel_rfl) (by kernel_rfl) (by kernel_rfl) (fun _ _ _ h => h) (Or.inl ⟨by rfl, fun w' hw' => by go_simp⟩) hHeld ?_
        try simp only [Act.put, List.getElem_toArray, List.getElem_cons_succ, List.getElem_cons_zero, List.setIfInBounds_toArray, List.set_cons_zero, List.set_cons_succ]
        refine' wpAnyH_take (i := 9) (v := .slice B0 m0 d0) rfl (by kernel_rfl) (by kernel_rfl) (by kernel_rfl) (fun _ _ _ h => h) (Or.inl ⟨by rfl, fun w' hw' => by have hv := y2 w' hw'; go_simp⟩) hHeld ?_
        try simp only [Act.put, List.getElem_toArray, List.getElem_cons_succ, List.getElem_cons_zero, List.setIfInBounds_toArray, List.set_cons_zero, List.set_cons_succ]
        refine wpAnyH_ready (rs := [10]) (by kernel_rfl) (by simp) ?_
        refine AllReadyH.cons rfl (fun K hK => ?_) AllReadyH.nil
        go_simp
        have hHeld2 : Below wr.heap.size wr (W0.alloc (.cells #[.slice A0 n0 c0, .slice B0 m0 d0] 37)) := hHeld.alloc hHeld.size _
        refine hK.out _ _ hHeld2 (fun _ => ?_)
        clear hK K
        try simp only [Act.put, List.getElem_toArray, List.getElem_cons_succ, List.getElem_cons_zero, List.setIfInBounds_toArray, List.set_cons_zero, List.set_cons_succ]
        refine wpAnyH_ready (rs := [11]) (by kernel_rfl) (by simp) ?_
        refine AllReadyH.cons rfl (fun K hK => ?_) AllReadyH.nil
        go_simp
        (with_reducible refine (cL2 W0 hHeld).mono ?_)
        rintro e5 w5 ⟨rfl, hb5⟩
        have hW5 : Below wr.heap.size wr w5 := hHeld.trans (hb5.mono hHeld.size)
        refine hK.out _ _ hW5 (fun _ => ?_)
        clear hK K hb5 hHeld hHeld2
        try simp only [Act.put, List.getElem_toArray, List.getElem_cons_succ, List.getElem_cons_zero, List.setIfInBounds_toArray, List.set_cons_zero, List.set_cons_succ]
        refine wpAnyH_done (by kernel_rfl) ?_ _
        clear y1 y2 cL2 
        cases hlg : (longL h.2.1 || longL h.2.2) with
        | true =>
          go_wp2_with (first
            | (go_at_call 12; (with_reducible refine (awake11_any _).mono ?_); rintro e9 w9 ⟨rfl, hb⟩; replace hW5 := hW5.trans (hb.mono hW5.size); clear hb))
          go_ret
          exact ⟨rfl, hY.trans (hW5.mono hY.size)⟩
        | false =>
          rw [Bool.or_eq_false_iff] at hlg
          obtain ⟨lg1, lg2⟩ := hlg
          obtain ⟨u1, v1⟩ := longL_no lg1
          obtain ⟨u2, v2⟩ := longL_no lg2
          obtain ⟨hcl, hcn, hcr⟩ := HC.out
          obtain ⟨R, z, hR⟩ : ∃ R z, apR cur h.1 h.2.1 h.2.2 = (R, z) := ⟨_, _, rfl⟩
          have hrl := apR_len cur h.1 h.2.1 h.2.2
          rw [hR] at hrl
          have hrr := apR_right cur h
          rw [hR] at hrr
          have hst : stepsR ls (hs.take (j + 1)) 0 = if z = 0 then (R, j + 1, 0) else ([], j, z) := by
            rw [take_snoc hx, stepsR_append _ _ _ _ _ _ HS.out]
            simp only [stepsR]
            rw [hR]
          have hM2 : ∀ m h', m < j + 1 → hs[m]? = some h' → longL h'.2.1 = false ∧ longL h'.2.2 = false := fun m h' hm hh => by
            by_cases hmj : m < j
            · exact HM.out m h' hmj hh
            · obtain rfl : m = j := by omega
              rw [hx] at hh; cases hh
              exact ⟨lg1, lg2⟩
          have cP := fun W => plain11_any h.1 A0 n0 c0 B0 m0 d0 W
          have cT := fun W (hb : Below wr.heap.size wr W) => rap_one A n' c' cur hcl hcn h.1 A0 n0 c0 h.2.1 xa.1 (by have := xa.1; omega) B0 m0 d0 h.2.2 xb.1 (by have := xb.1; omega) (fun x hx => by have := (line_len HQ.out).2 x hx; omega) (fun x hx => by have := v1 x hx; omega) (fun x hx => by have := v2 x hx; omega) R z hR W (hcr.below hb) (xa.2.2.2.2.1.below (hY.trans (hb.mono hY.size))) (xb.2.2.2.2.1.below (hY.trans (hb.mono hY.size)))
          have z0 := Y0.out w5 hW5
          have z1 := Y1.out w5 hW5
          have z2 := Y2.out w5 hW5
          have HRR := hid hrr
          have HRL := hid hrl
          have HST := hid hst
          have HMM := hid hM2
          clear hx hR hrl hrr hst hM2 lg1 lg2 u1 v1 u2 v2 hcl hcn hcr xa xb
          by_cases hz : z = 0
          · subst hz
            go_wp2_with (first
              | (go_at_call 15; (with_reducible refine (cP _).mono ?_); rintro e6 w6 ⟨rfl, hb⟩; replace hW5 := hW5.trans (hb.mono hW5.size); clear hb)
              | (go_at_call 14; (with_reducible refine (cT _ hW5).mono ?_); rintro e7 w7 ⟨A7, r7, rfl, R7, hb⟩; replace hW5 := hW5.trans (hb.mono hW5.size); clear hb))
            go_roundw
            case rel => exact ⟨j + 1, A7, R.length, r7, R, hlt, rfl, hid ⟨rfl, HRL.out, R7⟩, by go_num, HMM, hY.trans (hW5.mono hY.size), .inl ⟨rfl, rfl, hid (by first | exact HRR.out rfl | exact HRR.out trivial), hid (by have := HST.out; first | (rw [if_pos rfl] at this; exact this) | (rw [if_pos trivial] at this; exact this))⟩⟩
            case measure => simp [intOf]; omega
          · have hne : (z != 0) = true := by simpa using hz
            go_wp2_with (first
              | (go_at_call 15; (with_reducible refine (cP _).mono ?_); rintro e6 w6 ⟨rfl, hb⟩; replace hW5 := hW5.trans (hb.mono hW5.size); clear hb)
              | (go_at_call 14; (with_reducible refine (cT _ hW5).mono ?_); rintro e7 w7 ⟨A7, r7, rfl, R7, hb⟩; replace hW5 := hW5.trans (hb.mono hW5.size); clear hb))
            go_roundw
            case rel => exact ⟨j + 1, A7, R.length, r7, R, hlt, rfl, hid ⟨rfl, HRL.out, R7⟩, by go_num, HMM, hY.trans (hW5.mono hY.size), .inr ⟨z, j, rfl, hz, rfl, hid (by have := HST.out; rw [if_neg hz] at this; exact this)⟩⟩
            case measure => simp [intOf]; omega
      · obtain rfl : j = N := by omega
        have ht : hs.take j = hs := List.take_of_length_le (by rw [H1.out]; exact Nat.le_refl _)
        have hst := HS.out
        rw [ht] at hst
        have hsame : ∀ (m : Nat) (h : HunkD), hs[m]? = some h → hs[m]? = some h ∧ longL h.2.1 = false ∧ longL h.2.2 = false := fun m h hm => ⟨hm, HM.out m h (by have := (List.getElem?_eq_some_iff.1 hm).1; have := H1.out; omega) hm⟩
        have cA1 := HA.out wr hY hs cur j 0 hst (.inl ⟨rfl, H1.out⟩) hsame
        have hrowW : ∀ W, Below wr.heap.size wr W → ∀ (m : Nat) (h : HunkD), hs[m]? = some h → ∃ g o, AH = some ⟨g, o, none⟩ ∧ HkAt W ⟨g, o + m * 3, none⟩ h := fun W hb m h hm => by
          obtain ⟨_, g1, g2⟩ := hsame m h hm
          obtain ⟨g, o, e1, hc⟩ := H3.out m h hm
          exact ⟨g, o, e1, ((hc.at_ g1 g2).below hY).below hb⟩
        have cB := fun W (hb : Below wr.heap.size wr W) => hback_any AH j cc hs H1.out (by omega) W (hrowW W hb)
        have hback := stepsR_back hs ls cur 0 j 0 hst
        rw [H1.out, Nat.zero_add] at hback
        have cA2 : ∀ (A1 : Option Addr) (n1 c1 : Nat) (B : Option Addr) (c2 : Nat) W, cur.length = n1 → n1 ≤ c1 → (A1 = none → c1 = 0) → Rd W A1 (cur.map strV) → (∀ (m : Nat) (h : HunkD), (hs.reverse.map invD)[m]? = some h → ∃ g o, B = some ⟨g, o, none⟩ ∧ HkAt W ⟨g, o + m * 3, none⟩ h) → Calls Try.prog 16 #[.slice A1 n1 c1, .slice B j c2] W fun e w' => ∃ A3 n3 c3, e = .returned (.tuple #[.slice A3 n3 c3, .int .i64 j, .int .i64 0]) ∧ ls.length = n3 ∧ n3 ≤ c3 ∧ (A3 = none → c3 = 0) ∧ Rd w' A3 (ls.map strV) ∧ Below W.heap.size W w' := fun A1 n1 c1 B c2 W k1 k2 k3 k4 k5 =>
          hall_any A1 n1 c1 cur k1 (by have := (line_len HQ.out).1; omega) HQ.out B j c2 (by omega) (hs.reverse.map invD) ls j 0 hback (.inl ⟨rfl, by rw [List.length_map, List.length_reverse]; exact H1.out⟩) W k4 k5
        have cS1 := fun (A1 : Option Addr) (n1 c1 : Nat) W (k1 : cur.length = n1) (k4 : Rd W A1 (cur.map strV)) (hb : Below wr.heap.size wr W) => same_any A1 A n1 n' c1 c' cur cur k1 HC.out.1 (by have := (line_len HQ.out).1; omega) (by have := HC.out.2.1; omega) W k4 (HC.out.2.2.below hb)
        have cS2 := fun (A3 : Option Addr) (n3 c3 : Nat) W (k1 : ls.length = n3) (k4 : Rd W A3 (ls.map strV)) (hb : Below wr.heap.size wr W) => same_any A3 L n3 k c3 e ls ls k1 HL1.out (by have := P1.out; omega) (by have := P1.out; have := HL1.out; omega) W k4 (HL5.out.below (hY.trans (hb.mono hY.size)))
        simp only [decide_true] at cS1 cS2
        have b2 : ¬ (j : Int) < j := by omega
        have hZ : Below wr.heap.size wr wr := Below.refl _ _
        clear hst ht hsame hrowW hback hlt
        go_wp2_with (first
          | (go_at_call 17; (with_reducible refine (cB _ hZ).mono ?_); rintro e4 w4 ⟨B4, c4, rfl, K4, hb⟩; replace hZ := hZ.trans (hb.mono hZ.size); replace r1 := r1.below hb; clear hb; have cA3 := cA2 A1 n1 c1 B4 c4 w4 k1 k2 k3 r1 K4)
          | (go_at_call 16; (with_reducible refine cA3.mono ?_); rintro e5 w5 ⟨A5, n5, c5, rfl, y1, y2, y3, r5, hb⟩; replace hZ := hZ.trans (hb.mono hZ.size); replace r1 := r1.below hb; clear hb)
          | (go_at_call 16; (with_reducible refine cA1.mono ?_); rintro e3 w3 ⟨A1, n1, c1, rfl, k1, k2, k3, r1, hb⟩; replace hZ := hZ.trans (hb.mono hZ.size); clear hb)
          | (go_at_call 18; (with_reducible refine (cS1 A1 n1 c1 _ k1 r1 hZ).mono ?_); rintro e6 w6 ⟨rfl, hb⟩; replace hZ := hZ.trans (hb.mono hZ.size); replace r5 := r5.below hb; clear hb)
          | (go_at_call 18; (with_reducible refine (cS2 A5 n5 c5 _ y1 r5 hZ).mono ?_); rintro e7 w7 ⟨rfl, hb⟩; replace hZ := hZ.trans (hb.mono hZ.size); clear hb)
          | (go_at_call 12; (with_reducible refine (awake11_any _).mono ?_); rintro e9 w9 ⟨rfl, hb⟩; replace hZ := hZ.trans (hb.mono hZ.size); clear hb))
        all_goals
          go_ret
          exact ⟨rfl, hY.trans (hZ.mono hY.size)⟩
    · have hst := HS.out
      have hlen : (hs.take j).length ≤ N := by rw [List.length_take, H1.out]; omega
      have cA1 := HA.out wr hY (hs.take j) [] K z hst (.inr ⟨hz, hlen⟩) (fun m h hm => by
        have hmj : m < j := by
          have := (List.getElem?_eq_some_iff.1 hm).1
          rw [List.length_take] at this; omega
        rw [List.getElem?_take, if_pos hmj] at hm
        exact ⟨hm, HM.out m h hmj hm⟩)
      have z1 : (z == 0) = false := by simpa using hz
      have z2 : (z != 0) = true := by simpa using hz
      have hZ : Below wr.heap.size wr wr := Below.refl _ _
      clear hst hlen
      go_wp2_with (first
        | (go_at_call 16; (with_reducible refine cA1.mono ?_); rintro e3 w3 ⟨A1, n1, c1, rfl, k1, k2, k3, r1, hb⟩; replace hZ := hZ.trans (hb.mono hZ.size); clear hb; simp only [List.length_nil] at k1; subst k1)
        | (go_at_call 12; (with_reducible refine (awake11_any _).mono ?_); rintro e9 w9 ⟨rfl, hb⟩; replace hZ := hZ.trans (hb.mono hZ.size); clear hb))
      all_goals
        go_ret
        exact ⟨rfl, hY.trans (hZ.mono hY.size)⟩
theorem law_HunkAll (w : World) (L : Option Addr) (k e : Nat) (ls : List (List UInt8)) (AH : Option Addr) (N cc : Nat) (hs : List HunkD) (hl : LnRow w L k e ls) (hh : HkRow w AH N hs) :
    Calls Try.prog 4 #[.slice L k e, .slice AH N cc] w fun e w' => e = .returned (.bool true) ∧ Below w.heap.size w w' := by
  cases hlong : longL ls with
  | true => exact hl_long L k e ls AH N cc w hl hlong
  | false =>
    by_cases hN : N ≤ 20
    · cases hll : linesR ls with
      | false => exact hl_form L k e ls AH N cc w hl hlong hN hll
      | true => exact hl_main L k e ls AH N cc hs w hl hh hlong hN hll
    · exact hl_many L k e ls AH N cc w hl hlong (by omega)

open Go.ChangeShapes Go.WideShapes Go.ChangeAt
open Go.ChangeMaps (open_string shut_string)
theorem own_HunkAll : ownKnob Try.prog.godebug = none := by kernel_rfl
theorem laidOut_HunkAll : laidOutB Try.prog = true := by kernel_rfl
set_option linter.unusedVariables false in
set_option maxRecDepth 100000 in
theorem lifted_HunkAll (os : Os) (started : os.Started) (H : Type) (enc : TypeId × Value → H) :
    ReturnsInHanded {} Try.checked os 4 .any (Rows.hunkAllSpec.pre6 enc Try.prog Try.f4 Rows.hunkAllRow.domain false) (Rows.hunkAllSpec.post enc Try.prog Try.f4 false true false false) := by
  refine returnsInHanded_of_change (C := Try.checked) own_HunkAll started (by kernel_rfl) Try.func4
    (ChangeSpec.witness6 (enc := enc) (C := Try.checked) false ⟨#[], #[.slice none 0 0, .slice none 0 0], []⟩ 8 (by kernel_rfl) (by kernel_rfl) (by kernel_rfl) (by kernel_rfl)) ?_
  intro W base args ds gs before hval0 hW hcnd _
  have hval : ∀ (j : Nat) t v, Try.f4.params[j]? = some t → args[j]? = some v → Value.okWide Try.prog W .any base t v := hval0
  have hW' := hW
  obtain ⟨p, q, hA0, hV, rfl, hfz, hnd⟩ := hW
  have hA1 : DataW.TrodAll enc Try.prog W 0 (fun _ => true) true Try.f4.params.toList args.toList ds p := hA0
  have hA : DataW.TrodAll enc Try.prog W 0 (fun _ => true) true Try.f4.params.toList args.toList ds p := hA0
  rw [Try.params4] at hA hval
  obtain ⟨v0, vs0, d0, ds0, p0, q0, hargs, rfl, rfl, h0, r0⟩ := trodAll_cons hA
  obtain ⟨v1, vs1, d1, ds1, p1, q1, rfl, rfl, rfl, h1, r1⟩ := trodAll_cons r0
  obtain ⟨rfl, rfl, rfl⟩ := trodAll_nil r1
  obtain rfl : args = #[v0, v1] := by cases args; simp_all
  obtain ⟨rfl, rfl⟩ := trodVars_none hV
  obtain ⟨A0, n0, c0, ls, rfl, y0⟩ := open_ln (hval 0 37 v0 rfl rfl) h0
  obtain ⟨A1, n1, c1, hs, rfl, y1⟩ := open_hunks (hval 1 38 v1 rfl rfl) h1
  clear hA0 hval0
  refine (law_HunkAll W A0 n0 c0 ls A1 n1 c1 hs y0 y1).mono fun e W' ⟨he, bel⟩ => ?_
  subst he
  exact ⟨_, rfl, _, _, _, [], _, [], hW', trodAll_mk1 (shut_bool Try.underlying4 _), trodAll_stays laidOut_HunkAll bel (by kernel_rfl) hA1, rfl, bel.frame _, fun h => by cases h⟩

/-- The statement. -/
theorem HunkAll_holds : Rows.HunkAllSaid :=
  OpenClaim.holds_of_wide 4 Try.f4 rfl rfl rfl rfl rfl rfl rfl ⟨rfl, rfl, rfl, rfl, rfl⟩ rfl rfl rfl rfl rfl (by kernel_rfl) Try.func4 (by kernel_rfl)
    (of_decide_eq_true (by kernel_rfl)) (by unfold Func.isWrapper; first | (rw [if_pos (by decide +kernel)]; kernel_rfl) | (rw [if_neg (by decide +kernel)]; exact ⟨rfl, rfl⟩))
    (fun os started H enc _ => lifted_HunkAll os started H enc)
#print axioms HunkAll_holds

end Go.Proofs.Ytjaenffdbhgmeaa

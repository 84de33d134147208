
/- hunk: rows of hunks that come in; All of lines that may not be; all of them back. -/
import Derived.Test.YtjaenffdbhgmeaaHk17
import Derived.Test.YtjaenffdbhgmeaaBw3
set_option linter.unusedSimpArgs false
set_option linter.unusedVariables false
namespace Go.Proofs.Ytjaenffdbhgmeaa
open Go.RowKit Go.Qc Go.Shelf
attribute [local go_sem] txt_size txt_append ib_fold txt_toL

section
open Go.ChangeShapes Go.WideShapes Go.ChangeAt
variable {H : Type} {enc : TypeId × Value → H} {w : World} {r : Reach} {base b0 : Nat} {sp : Nat → Bool} {hd : Bool}
/-- A hunk that came in, in memory. -/
def HkCame (w : World) (p : Addr) (h : HunkD) : Prop := ∃ A n c B m d, w.cell? ⟨p.block, p.off, none⟩ = some (.int .i64 h.1) ∧ w.cell? ⟨p.block, p.off + 1, none⟩ = some (.slice A n c) ∧ w.cell? ⟨p.block, p.off + 2, none⟩ = some (.slice B m d) ∧ (Lit.int .i64 h.1).wf = true ∧ LnRow w A n c h.2.1 ∧ LnRow w B m d h.2.2
/-- Hunks that came in. -/
def HkRow (w : World) (A : Option Addr) (n : Nat) (hs : List HunkD) : Prop := hs.length = n ∧ n ≤ 9223372036854775807 ∧ ∀ j h, hs[j]? = some h → ∃ g o, A = some ⟨g, o, none⟩ ∧ HkCame w ⟨g, o + j * 3, none⟩ h
set_option maxRecDepth 100000 in
theorem trod_hunk {fuel : Nat} {cs : List Value} {x : DataW H × List MemPlace} (h : DataW.trod enc Try.prog w base sp hd fuel 42 cs = some x) :
    ∃ (L : Int) (A B : Option Addr) (n m c d : Nat) (old new : List (List UInt8)), cs = [.int .i64 L, .slice A n c, .slice B m d] ∧ (Lit.int .i64 L).wf = true ∧ LnRow w A n c old ∧ LnRow w B m d new := by
  obtain ⟨xs, k, _, _, hl, hxl, hx⟩ := DataW.trod_struct Try.underlying42 h
  have hc3 : Try.prog.cellsOf 42 = 3 := by kernel_rfl
  have hc1 : Try.prog.cellsOf 3 = 1 := by kernel_rfl
  have hcr : Try.prog.cellsOf 37 = 1 := by kernel_rfl
  rw [hc3] at hl
  obtain ⟨x, y, z, rfl⟩ : ∃ x y z, cs = [x, y, z] := by
    match cs, hl with
    | [x, y, z], _ => exact ⟨x, y, z, rfl⟩
  have h0 := hx 0 _ rfl
  have h1 := hx 1 _ rfl
  have h2 := hx 2 _ rfl
  have g : ∀ i : Nat, i < 3 → ∃ y, xs[i]? = some y := fun i hi => ⟨_, List.getElem?_eq_getElem (by rw [hxl]; exact hi)⟩
  obtain ⟨y0, e0⟩ := g 0 (by decide)
  obtain ⟨y1, e1⟩ := g 1 (by decide)
  obtain ⟨y2, e2⟩ := g 2 (by decide)
  rw [e0] at h0
  rw [e1] at h1
  rw [e2] at h2
  obtain ⟨L, q0, _, w0⟩ := DataW.trod_int Try.underlying3 h0
  obtain ⟨A, n, c, old, q1, w1⟩ := trod_ln h1
  obtain ⟨B, m, d, new, q2, w2⟩ := trod_ln h2
  simp [hc1] at q0
  simp [hcr] at q1 q2
  exact ⟨L, A, B, n, m, c, d, old, new, by rw [q0, q1, q2], w0, w1, w2⟩
set_option maxRecDepth 100000 in
theorem open_hunks {v : Value} {d : DataW H} {ps : List MemPlace} (hv : Value.okWide Try.prog w r b0 38 v) (h : DataW.Trod enc Try.prog w base sp hd 38 v d ps) :
    ∃ A n c hs, v = .slice A n c ∧ HkRow w A n hs := by
  obtain ⟨a0, len0, cap0, rfl⟩ := okWide_slice Try.underlying38 hv
  obtain ⟨fuel, hf⟩ := h
  have hc3 : Try.prog.cellsOf 42 = 3 := by kernel_rfl
  rcases DataW.trod_slice Try.underlying38 hf with ⟨hcs, _⟩ | ⟨a, len, cap, elems, rest, n, _, hcs, _, hb, hl, hm, hlen, hel, _, _⟩
  · simp [Value.cells] at hcs
    obtain ⟨rfl, rfl, rfl⟩ := hcs
    exact ⟨_, _, _, [], rfl, rfl, by decide, by simp⟩
  · simp [Value.cells] at hcs
    obtain ⟨rfl, rfl, rfl⟩ := hcs
    unfold maxLen at hm
    have each : ∀ i, i < len0 → ∃ h : HunkD, ∃ g o, a = ⟨g, o, none⟩ ∧ HkCame w ⟨g, o + i * 3, none⟩ h := by
      intro i hi
      have he := hel i hi
      rw [List.getElem?_eq_getElem (by omega), hc3, Option.bind_eq_some_iff] at he
      obtain ⟨cs, hcs, ht⟩ := he
      obtain ⟨L, A, B, n1, m1, c1, d1, old, new, rfl, w0, w1, w2⟩ := trod_hunk ht
      obtain ⟨_, _, hcell⟩ := World.cells?_some hcs
      have q0 := hcell 0 (by decide)
      have q1 := hcell 1 (by decide)
      have q2 := hcell 2 (by decide)
      have hsp : a.spot = none := by
        by_cases h0 : i = 0
        · subst h0
          have q : w.cell? a = some (.int .i64 L) := by simpa [Addr.add] using q0
          unfold World.cell? at q
          split at q
          · split at q
            · cases q
            · rename_i hs; simpa using hs
          · cases q
        · have he0 := hel 0 (by omega)
          rw [List.getElem?_eq_getElem (by omega), hc3, Option.bind_eq_some_iff] at he0
          obtain ⟨cs0, hcs0, ht0⟩ := he0
          obtain ⟨L0, _, _, _, _, _, _, _, _, rfl, _, _, _⟩ := trod_hunk ht0
          have q := (World.cells?_some hcs0).2.2 0 (by decide)
          have q : w.cell? a = some (.int .i64 L0) := by simpa [Addr.add] using q
          unfold World.cell? at q
          split at q
          · split at q
            · cases q
            · rename_i hs; simpa using hs
          · cases q
      obtain ⟨g, o, sp⟩ := a
      simp only at hsp
      subst hsp
      have ea : ∀ k, (((⟨g, o, none⟩ : Addr).add (i * 3)).add k) = ⟨g, o + i * 3 + k, none⟩ := by
        intro k
        unfold Addr.add
        by_cases h1 : i * 3 = 0 <;> by_cases h2 : k = 0 <;> simp [h1, h2, Nat.add_assoc]
      rw [ea] at q0 q1 q2
      refine ⟨(L, old, new), g, o, rfl, A, n1, c1, B, m1, d1, ?_, ?_, ?_, w0, w1, w2⟩
      · simpa using q0
      · simpa using q1
      · simpa using q2
    have hch : ∃ f : Nat → HunkD, ∀ i, i < len0 → ∃ g o, a = ⟨g, o, none⟩ ∧ HkCame w ⟨g, o + i * 3, none⟩ (f i) := by
      refine ⟨fun i => if h : i < len0 then (each i h).choose else (0, [], []), fun i hi => ?_⟩
      simp only [dif_pos hi]
      exact (each i hi).choose_spec
    obtain ⟨f, hf2⟩ := hch
    refine ⟨_, _, _, (List.range len0).map f, rfl, by simp, by omega, fun j h hj => ?_⟩
    have hjl : j < len0 := by
      have := (List.getElem?_eq_some_iff.1 hj).1
      simpa using this
    rw [List.getElem?_map, List.getElem?_range hjl] at hj
    simp at hj
    subst hj
    obtain ⟨g, o, rfl, h⟩ := hf2 j hjl
    exact ⟨g, o, rfl, h⟩
end
theorem hall_no (L : Option Addr) (k e : Nat) (ls : List (List UInt8)) (hk : ls.length = k) (bk : k ≤ 1000000) (hll : linesR ls = false) (AH : Option Addr) (N cc : Nat) (w : World) (hL : Rd w L (ls.map strV)) :
    Calls Try.prog 16 #[.slice L k e, .slice AH N cc] w fun e w' => e = .returned (.tuple #[.slice none 0 0, .int .i64 0, .int .i64 3]) ∧ Below w.heap.size w w' := by
  have cL := lines_any L k e ls hk (by omega) w hL
  rw [hll] at cL
  go_enter Try.func16, Try.ntmps16
  go_wp2_with (go_at_call 44; (with_reducible refine cL.mono ?_); rintro e1 w1 ⟨rfl, rfl⟩)
  refine bodyPost_ret (v := .tuple #[.slice none 0 0, .int .i64 0, .int .i64 3]) (by simp [results, Try.f16, go_sem]) rfl ?_
  exact ⟨rfl, by first | exact Below.refl _ _ | exact (Below.refl _ _).alloc (Nat.le_refl _) _⟩
/-- A hunk that came in, none of whose rows is long. -/
theorem HkCame.at_ {w : World} {p : Addr} {h : HunkD} (k : HkCame w p h) (h1 : longL h.2.1 = false) (h2 : longL h.2.2 = false) : HkAt w p h := by
  obtain ⟨A, n, c, B, m, d, c0, c1, c2, _, a, b⟩ := k
  have := (longL_no h1).1
  have := (longL_no h2).1
  exact ⟨A, n, c, B, m, d, c0, c1, c2, a.1, by have := a.1; omega, b.1, by have := b.1; omega, b.2.2.1, a.2.2.2.2.1, b.2.2.2.2.1⟩
set_option maxRecDepth 100000 in
set_option maxHeartbeats 2000000 in
/-- All hunks the other way. -/
theorem hback_any (AH : Option Addr) (N cc : Nat) (hs : List HunkD) (hN : hs.length = N) (bN : N ≤ 1000) (w : World) (hrow : ∀ j h, hs[j]? = some h → ∃ g o, AH = some ⟨g, o, none⟩ ∧ HkAt w ⟨g, o + j * 3, none⟩ h) :
    Calls Try.prog 17 #[.slice AH N cc] w fun e w' => ∃ B c2, e = .returned (.slice B N c2) ∧ (∀ j h, (hs.reverse.map invD)[j]? = some h → ∃ g o, B = some ⟨g, o, none⟩ ∧ HkAt w' ⟨g, o + j * 3, none⟩ h) ∧ Below w.heap.size w w' := by
  have hex : ∀ j : Nat, ∃ t : Hc, ∀ h, hs[j]? = some h → ∃ g o, AH = some ⟨g, o, none⟩ ∧ HcAt w ⟨g, o + j * 3, none⟩ t ∧ ∃ A n c B m d, t = (h.1, .slice A n c, .slice B m d) ∧ h.2.1.length = n ∧ n ≤ 1000 ∧ h.2.2.length = m ∧ m ≤ 1000 ∧ (B = none → d = 0) ∧ Rd w A (h.2.1.map strV) ∧ Rd w B (h.2.2.map strV) := by
    intro j
    cases hj : hs[j]? with
    | none => exact ⟨(0, undef, undef), fun h hh => by cases hh⟩
    | some h =>
      obtain ⟨g, o, rfl, A, n, c, B, m, d, c0, c1, c2, k1, b1, k2, b2, hz, rA, rB⟩ := hrow j h hj
      refine ⟨(h.1, .slice A n c, .slice B m d), fun h' hh => ?_⟩
      cases hh
      exact ⟨g, o, rfl, ⟨c0, c1, c2⟩, A, n, c, B, m, d, rfl, k1, b1, k2, b2, hz, rA, rB⟩
  have hch : ∃ f : Nat → Hc, ∀ j h, hs[j]? = some h → ∃ g o, AH = some ⟨g, o, none⟩ ∧ HcAt w ⟨g, o + j * 3, none⟩ (f j) ∧ ∃ A n c B m d, f j = (h.1, .slice A n c, .slice B m d) ∧ h.2.1.length = n ∧ n ≤ 1000 ∧ h.2.2.length = m ∧ m ≤ 1000 ∧ (B = none → d = 0) ∧ Rd w A (h.2.1.map strV) ∧ Rd w B (h.2.2.map strV) :=
    ⟨fun j => (hex j).choose, fun j => (hex j).choose_spec⟩
  obtain ⟨f, hf⟩ := hch
  have hget : ∀ x : Fin N, ∃ h, hs[x.val]? = some h ∧ rowOf ((List.range N).map f) x.val = f x.val ∧ hs.getD x.val (0, [], []) = h := by
    intro x
    have hx : x.val < hs.length := by rw [hN]; exact x.2
    refine ⟨_, List.getElem?_eq_getElem hx, ?_, ?_⟩
    · unfold rowOf
      rw [List.getD_eq_getElem?_getD, List.getElem?_map, List.getElem?_range x.2]; rfl
    · rw [List.getD_eq_getElem?_getD, List.getElem?_eq_getElem hx]; rfl
  refine (back_any AH N cc ((List.range N).map f) hs (by simp) (by omega) w ?_ ?_ ?_).mono ?_
  · intro j h hj
    have hjl : j < N := by
      have := (List.getElem?_eq_some_iff.1 hj).1
      simpa using this
    rw [List.getElem?_map, List.getElem?_range hjl] at hj
    simp at hj
    subst hj
    obtain ⟨g, o, e1, e2, _⟩ := hf j _ (List.getElem?_eq_getElem (by rw [hN]; exact hjl))
    exact ⟨g, o, e1, e2⟩
  · intro x r hr
    obtain ⟨h, h1, h2, h3⟩ := hget x
    obtain ⟨g, o, _, _, A, n, c, B, m, d, e1, _⟩ := hf _ h h1
    rw [h2, e1] at hr
    subst hr
    exact ⟨⟨A, n, c, rfl⟩, B, m, d, rfl⟩
  · intro W hb x
    obtain ⟨h, h1, h2, h3⟩ := hget x
    obtain ⟨g, o, _, _, A, n, c, B, m, d, e1, k1, b1, k2, b2, hz, rA, rB⟩ := hf _ h h1
    rw [h2, e1, h3]
    refine (invert_any h.1 A n c h.2.1 k1 b1 B m d h.2.2 k2 b2 W (rA.below hb) (rB.below hb)).mono ?_
    rintro e w' ⟨A', c', B', d', rfl, oA, oB, hb'⟩
    refine ⟨(h.1, .slice B' m d', .slice A' n c'), rfl, ⟨rfl, ?_, ?_, ?_, ?_⟩, hb'⟩
    · simp only [invD]; rw [k2]; exact oB
    · simp only [invD]; rw [k1]; exact oA
    · simp only [invD]; omega
    · simp only [invD]; omega
  · rintro e w' ⟨v, ts, rfl, hown, hts, hb⟩
    obtain ⟨B, c2, rfl⟩ := own_slice hown
    refine ⟨B, c2, rfl, ?_, hb⟩
    have hlist : ((List.range N).reverse.map fun x => invD (hs.getD x (0, [], []))) = hs.reverse.map invD := by
      have hh : hs = (List.range N).map fun x => hs.getD x (0, [], []) := by
        refine List.ext_getElem? fun i => ?_
        rw [List.getElem?_map]
        by_cases hi : i < N
        · rw [List.getElem?_range hi, Option.map_some, List.getD_eq_getElem?_getD, List.getElem?_eq_getElem (by rw [hN]; exact hi)]; rfl
        · rw [List.getElem?_eq_none (by rw [hN]; omega), List.getElem?_eq_none (by simp; omega)]; rfl
      conv => rhs; rw [hh]
      rw [← List.map_reverse, List.map_map]
      rfl
    rw [hlist] at hts
    intro j h hj
    obtain ⟨hl, hh⟩ := hts
    have hjl : j < ts.length := by rw [hl]; exact (List.getElem?_eq_some_iff.1 hj).1
    obtain ⟨t, ht⟩ : ∃ t, ts[j]? = some t := ⟨_, List.getElem?_eq_getElem hjl⟩
    obtain ⟨e1, oA, oB, bA, bB⟩ := hh j t h ht hj
    obtain ⟨A', c', eA⟩ := own_slice oA
    obtain ⟨B', d', eB⟩ := own_slice oB
    rw [eA] at oA
    rw [eB] at oB
    have hN0 : 0 < N := by
      have : ts.length = N := by rw [hl, List.length_map, List.length_reverse, hN]
      omega
    have hcell : ∀ i u, (ts.flatMap hcCells)[i]? = some u → ∃ g, B = some ⟨g, 0, none⟩ ∧ w'.cell? ⟨g, 0 + i, none⟩ = some u := by
      intro i u hu
      rcases hown.2 with ⟨_, h0⟩ | ⟨g, cap, cur, hv, _⟩
      · omega
      · cases hv
        have hil : i < N * 3 := by
          have := (List.getElem?_eq_some_iff.1 hu).1
          have h1 := hown.1
          omega
        have := hown.cells (g := g) rfl i u hu
        refine ⟨g, rfl, ?_⟩
        unfold Addr.add at this
        split at this
        · rename_i h0; subst h0; exact this
        · exact this
    have hflat : ∀ (ts : List Hc) (j : Nat) (t : Hc), ts[j]? = some t → ∀ i, i < 3 → (ts.flatMap hcCells)[j * 3 + i]? = (hcCells t)[i]? := by
      intro ts
      induction ts with
      | nil => intro j t ht; simp at ht
      | cons a ts ih =>
        intro j t ht i hi
        rw [List.flatMap_cons]
        cases j with
        | zero =>
          simp at ht; subst ht
          rw [List.getElem?_append_left (by simp [hcCells]; omega)]
          simp
        | succ j =>
          simp at ht
          rw [List.getElem?_append_right (by simp [hcCells]; omega)]
          have := ih j t ht i hi
          rw [show (j + 1) * 3 + i - (hcCells a).length = j * 3 + i by simp [hcCells]; omega]
          exact this
    have q0 := hflat ts j t ht 0 (by decide)
    have q1 := hflat ts j t ht 1 (by decide)
    have q2 := hflat ts j t ht 2 (by decide)
    simp only [hcCells, List.getElem?_cons_zero, List.getElem?_cons_succ] at q0 q1 q2
    obtain ⟨g, rfl, r0⟩ := hcell _ _ q0
    obtain ⟨_, eg, r1⟩ := hcell _ _ q1
    cases eg
    obtain ⟨_, eg, r2⟩ := hcell _ _ q2
    cases eg
    refine ⟨g, 0, rfl, A', h.2.1.length, c', B', h.2.2.length, d', ?_, ?_, ?_, rfl, bA, rfl, bB, (own_cap oB).2, ?_, ?_⟩
    · rw [← e1]; exact r0
    · rw [← eA]; exact r1
    · rw [← eB]; exact r2
    · obtain ⟨_, _, _, h, r⟩ := rowRd oA; cases h; exact r
    · obtain ⟨_, _, _, h, r⟩ := rowRd oB; cases h; exact r
end Go.Proofs.Ytjaenffdbhgmeaa


/- Proved: for all lines and every hunk quitclaimlaw11.HunkApplies returns true and leaves its arguments as they were. No conditions. -/
import Derived.Test.YtlbmikjgpaeddaaHk10
set_option linter.unusedSimpArgs false
set_option linter.unusedVariables false
namespace Go.Proofs.Ytlbmikjgpaeddaa
open Go.RowKit Go.Qc Go.Shelf
attribute [local go_sem] txt_size txt_append ib_fold txt_toL

theorem own_le {w : World} {base base' n : Nat} {e : TypeId} {v : Value} {xs : List Value} (h : w.ownsRow base e 1 v n xs) (hb : base' ≤ base) : w.ownsRow base' e 1 v n xs := ⟨h.1, h.2.imp id fun ⟨g, cap, cur, h1, h2, h3⟩ => ⟨g, cap, cur, h1, Nat.le_trans hb h2, h3⟩⟩
theorem apR_len (ls : List (List UInt8)) (at' : Int) (old new : List (List UInt8)) : (apR ls at' old new).1.length ≤ 1000 := by
  by_cases h : (apR ls at' old new).2 = 0
  · exact (apR_back ls at' old new h).2
  · have : (apR ls at' old new).1 = [] := by
      revert h; unfold apR appR; repeat' split
      all_goals simp
    rw [this]; decide
theorem long3_any (L : Option Addr) (k e : Nat) (ls : List (List UInt8)) (A : Option Addr) (n c : Nat) (old : List (List UInt8)) (B : Option Addr) (m d : Nat) (new : List (List UInt8)) (W : World)
    (hl : LnRow W L k e ls) (ha : LnRow W A n c old) (hb : LnRow W B m d new) :
    Calls Try.prog 24 #[.slice (some ⟨W.heap.size, 0, none⟩) 3 3] (W.alloc (.cells #[.slice L k e, .slice A n c, .slice B m d] 25)) fun e w' => e = .returned (.bool (longL ls || (longL old || longL new))) ∧ Below W.heap.size W w' := by
  obtain ⟨l1, l2, l3, l4, l5, l6⟩ := hl
  obtain ⟨a1, a2, a3, a4, a5, a6⟩ := ha
  obtain ⟨b1, b2, b3, b4, b5, b6⟩ := hb
  have hB : Below W.heap.size W (W.alloc (.cells #[.slice L k e, .slice A n c, .slice B m d] 25)) := (Below.refl _ W).alloc (Nat.le_refl _) _
  have hk := Blk.new W 25 #[.slice L k e, .slice A n c, .slice B m d]
  have := long11_any ⟨W.heap.size, 0, none⟩ 3 3 [(.slice L k e, ls), (.slice A n c, old), (.slice B m d, new)] rfl (by decide) (by
    intro x hx
    simp only [List.mem_cons, List.not_mem_nil, or_false] at hx
    rcases hx with rfl | rfl | rfl
    · exact l1 ▸ l4
    · exact a1 ▸ a4
    · exact b1 ▸ b4) _ (by
    intro j x hx
    match j, hx with
    | 0, hx => cases hx; exact ⟨hk.cell_ (i := 0) rfl, L, k, e, rfl, l1, l3, l5.below hB⟩
    | 1, hx => cases hx; exact ⟨hk.cell_ (i := 1) rfl, A, n, c, rfl, a1, a3, a5.below hB⟩
    | 2, hx => cases hx; exact ⟨hk.cell_ (i := 2) rfl, B, m, d, rfl, b1, b3, b5.below hB⟩
    | j + 3, hx => simp at hx)
  refine this.mono ?_
  rintro e w' ⟨rfl, rfl⟩
  exact ⟨by simp, hB⟩
theorem longL_no {l : List (List UInt8)} (h : longL l = false) : l.length ≤ 60 ∧ ∀ x ∈ l, x.length ≤ 300 := by
  unfold longL at h
  rw [Bool.or_eq_false_iff, decide_eq_false_iff_not, List.any_eq_false] at h
  refine ⟨by omega, fun x hx => ?_⟩
  have := h.2 x hx
  simp at this
  omega
theorem rhright_any (at' : Int) (A : Option Addr) (n c : Nat) (old : List (List UInt8)) (hn : old.length = n) (bn : n ≤ 1000) (B : Option Addr) (m d : Nat) (new : List (List UInt8)) (hm : new.length = m) (bm : m ≤ 1000) (o8 : ∀ x ∈ old, x.length ≤ 1000000000000) (n8 : ∀ x ∈ new, x.length ≤ 1000000000000) (W : World)
    (hA : Rd W A (old.map strV)) (hB : Rd W B (new.map strV)) :
    Calls Try.prog 32 #[.agg #[.int .i64 at', .slice A n c, .slice B m d]] W fun e w' => e = .returned (.bool (hunkR at' old new)) ∧ Below W.heap.size W w' := by
  have := rhright_gen at' A n c B m d (linesR old) (linesR new) W (fun W2 h2 => rlines_any A n c old hn (by omega) o8 W2 (hA.below h2)) (fun W2 h2 => rlines_any B m d new hm (by omega) n8 W2 (hB.below h2))
  unfold hunkR
  rw [hn, hm]
  exact this
theorem invert_any (at' : Int) (A : Option Addr) (n c : Nat) (old : List (List UInt8)) (hn : old.length = n) (bn : n ≤ 1000) (B : Option Addr) (m d : Nat) (new : List (List UInt8)) (hm : new.length = m) (bm : m ≤ 1000) (W : World)
    (hA : Rd W A (old.map strV)) (hB : Rd W B (new.map strV)) :
    Calls Try.prog 34 #[.agg #[.int .i64 at', .slice A n c, .slice B m d]] W fun e w' => ∃ A' c' B' d', e = .returned (.agg #[.int .i64 at', .slice B' m d', .slice A' n c']) ∧ w'.ownsRow W.heap.size 9 1 (.slice A' n c') n (old.map strV) ∧ w'.ownsRow W.heap.size 9 1 (.slice B' m d') m (new.map strV) ∧ Below W.heap.size W w' := by
  refine invert_gen at' A n c B m d (old.map strV) (new.map strV) W (fun W2 h2 => (clones_any A n c old hn (by omega) W2 (hA.below h2)).mono ?_) (fun W2 h2 => (clones_any B m d new hm (by omega) W2 (hB.below h2)).mono ?_)
  all_goals
    rintro e w' ⟨v, rfl, hown, hb⟩
    obtain ⟨_, A4, c4, rfl, _⟩ := rowRd hown
    exact ⟨A4, c4, rfl, own_le hown h2.size, hb⟩
set_option maxRecDepth 100000 in
set_option maxHeartbeats 8000000 in
theorem ha_long (L : Option Addr) (k e : Nat) (at' : Int) (A : Option Addr) (n c : Nat) (B : Option Addr) (m d : Nat) (w : World)
    (cG : ∀ W, Below w.heap.size w W → Calls Try.prog 24 #[.slice (some ⟨W.heap.size, 0, none⟩) 3 3] (W.alloc (.cells #[.slice L k e, .slice A n c, .slice B m d] 25)) fun e w' => e = .returned (.bool true) ∧ Below W.heap.size W w') :
    Calls Try.prog 6 #[.slice L k e, .agg #[.int .i64 at', .slice A n c, .slice B m d]] w fun e w' => e = .returned (.bool true) ∧ Below w.heap.size w w' := by
  have hX : Below w.heap.size w (w.alloc (.cells #[.int .i64 at', .slice A n c, .slice B m d] 38)) := (Below.refl _ w).alloc (Nat.le_refl _) _
  have hh := Hk.new w 38 at' (.slice A n c) (.slice B m d)
  have c0 := hh.c0
  have c1 := hh.c1
  have c2 := hh.c2
  have hG := cG _ hX
  have hs : (w.alloc (.cells #[.int .i64 at', .slice A n c, .slice B m d] 38)).heap.size = w.heap.size + 1 := by simp
  rw [hs] at hG
  clear cG
  go_enter Try.func6, Try.ntmps6
  go_wp2_with (first
    | (go_at_call 24; (with_reducible refine hG.mono ?_); rintro e1 w1 ⟨rfl, hb⟩; rw [← hs] at hb; clear hG hs; replace hX := hX.trans (hb.mono hX.size); clear hb)
    | (go_at_call 25; (with_reducible refine (awake11_any _).mono ?_); rintro e9 w9 ⟨rfl, hb⟩; replace hX := hX.trans (hb.mono hX.size); clear hb))
  go_ret
  exact ⟨rfl, hX⟩
theorem hunkApplies_any (L : Option Addr) (k e : Nat) (ls : List (List UInt8)) (at' : Int) (A : Option Addr) (n c : Nat) (old : List (List UInt8)) (B : Option Addr) (m d : Nat) (new : List (List UInt8)) (w : World)
    (hl : LnRow w L k e ls) (ha : LnRow w A n c old) (hb : LnRow w B m d new) :
    Calls Try.prog 6 #[.slice L k e, .agg #[.int .i64 at', .slice A n c, .slice B m d]] w fun e w' => e = .returned (.bool true) ∧ Below w.heap.size w w' := by
  have up : ∀ {W A n c l}, Below w.heap.size w W → LnRow w A n c l → LnRow W A n c l := fun hb h => ⟨h.1, h.2.1, h.2.2.1, h.2.2.2.1, h.2.2.2.2.1.below hb, h.2.2.2.2.2⟩
  have cG : ∀ W, Below w.heap.size w W → Calls Try.prog 24 #[.slice (some ⟨W.heap.size, 0, none⟩) 3 3] (W.alloc (.cells #[.slice L k e, .slice A n c, .slice B m d] 25)) fun e w' => e = .returned (.bool (longL ls || (longL old || longL new))) ∧ Below W.heap.size W w' := fun W h => long3_any L k e ls A n c old B m d new W (up h hl) (up h ha) (up h hb)
  cases hlong : (longL ls || (longL old || longL new)) with
  | true =>
    rw [hlong] at cG
    exact ha_long L k e at' A n c B m d w cG
  | false =>
    rw [hlong] at cG
    rw [Bool.or_eq_false_iff, Bool.or_eq_false_iff] at hlong
    obtain ⟨g1, g2, g3⟩ := hlong
    obtain ⟨p1, q1⟩ := longL_no g1
    obtain ⟨p2, q2⟩ := longL_no g2
    obtain ⟨p3, q3⟩ := longL_no g3
    obtain ⟨l1, l2, l3, _, l5, _⟩ := hl
    obtain ⟨a1, a2, a3, _, a5, _⟩ := ha
    obtain ⟨b1, b2, b3, _, b5, _⟩ := hb
    have l8 : ∀ x ∈ ls, x.length ≤ 1000000000000 := fun x hx => by have := q1 x hx; omega
    have o8 : ∀ x ∈ old, x.length ≤ 1000000000000 := fun x hx => by have := q2 x hx; omega
    have n8 : ∀ x ∈ new, x.length ≤ 1000000000000 := fun x hx => by have := q3 x hx; omega
    refine ha_gen L k e ls at' A n c old B m d new (apR ls at' old new).1 (apR ls at' old new).1.length rfl (apR_len ls at' old new) (apR ls at' old new).2 (linesR ls) (hunkR at' old new) (linesR ls && (hunkR at' old new && fitR ls old at'.toNat)) (apR_fits ls at' old new).symm w l1 a1 b1 (by omega) (by omega) (by omega) l5 a5 b5 cG ?_ ?_ ?_ ?_ ?_ ?_ ?_ ?_ ?_
    · intro W hb
      have h := apply_any L k e ls l1 l2 l3 (by omega) at' A n c old a1 (by omega) B m d new b1 (by omega) b3 W (l5.below hb) (a5.below hb) (b5.below hb)
      rw [← apR_fst, ← apR_snd] at h
      refine h.mono ?_
      rintro e w' ⟨v, rfl, hown, hb'⟩
      obtain ⟨_, A1, c1, rfl, r1⟩ := rowRd hown
      exact ⟨A1, c1, rfl, (own_cap hown).1, (own_cap hown).2, r1, hb'⟩
    · intro W hb
      have h := rapply_any L k e ls l1 (by omega) at' A n c old a1 (by omega) B m d new b1 (by omega) l8 o8 n8 W (l5.below hb) (a5.below hb) (b5.below hb)
      rw [← apR_fst, ← apR_snd] at h
      refine h.mono ?_
      rintro e w' ⟨v, rfl, hown, hb'⟩
      obtain ⟨_, A1, c1, rfl, r1⟩ := rowRd hown
      exact ⟨A1, c1, rfl, r1, hb'⟩
    · intro W hb
      exact (lines_any L k e ls l1 (by omega) W (l5.below hb)).mono (by rintro e w' ⟨h1, rfl⟩; exact ⟨h1, Below.refl _ _⟩)
    · intro W hb
      exact (rlines_any L k e ls l1 (by omega) l8 W (l5.below hb)).mono (by rintro e w' ⟨h1, rfl⟩; exact ⟨h1, Below.refl _ _⟩)
    · intro W hb
      exact hright_any at' A n c old a1 (by omega) B m d new b1 (by omega) W (a5.below hb) (b5.below hb)
    · intro W hb
      exact rhright_any at' A n c old a1 (by omega) B m d new b1 (by omega) o8 n8 W (a5.below hb) (b5.below hb)
    · intro W hb
      exact pfits_any L k e ls l1 l2 (by omega) at' A n c old a1 (by omega) B m d new b1 (by omega) W (l5.below hb) (a5.below hb) (b5.below hb)
    · intro W hb
      refine (invert_any at' A n c old a1 (by omega) B m d new b1 (by omega) W (a5.below hb) (b5.below hb)).mono ?_
      rintro e w' ⟨A', c', B', d', rfl, oA, oB, hb'⟩
      have rA : Rd w' A' (old.map strV) := by obtain ⟨_, _, _, h, r⟩ := rowRd oA; cases h; exact r
      have rB : Rd w' B' (new.map strV) := by obtain ⟨_, _, _, h, r⟩ := rowRd oB; cases h; exact r
      exact ⟨A', c', B', d', rfl, (own_cap oA).1, (own_cap oA).2, rA, rB, hb'⟩
    · intro hz W A1 d1 r1 hc1 hz1 B' A' d' c' rB rA hc' hz'
      obtain ⟨bk, blen⟩ := apR_back ls at' old new hz
      have h := apply_any A1 (apR ls at' old new).1.length d1 (apR ls at' old new).1 rfl hc1 hz1 blen at' B' m d' new b1 (by omega) A' n c' old a1 (by omega) hz' W r1 rB rA
      rw [← apR_fst, ← apR_snd, bk] at h
      refine h.mono ?_
      rintro e w' ⟨v, rfl, hown, hb'⟩
      obtain ⟨_, A3, c3, rfl, r3⟩ := rowRd hown
      refine ⟨A3, c3, ?_, r3, hb'⟩
      rw [← l1]

set_option linter.unusedVariables false in
theorem law_HunkApplies (w : World) (L : Option Addr) (k e : Nat) (ls : List (List UInt8)) (at' : Int) (A : Option Addr) (n c : Nat) (old : List (List UInt8)) (B : Option Addr) (m d : Nat) (new : List (List UInt8))
    (hl : LnRow w L k e ls) (ha : LnRow w A n c old) (hb : LnRow w B m d new) :
    Calls Try.prog 6 #[.slice L k e, .agg #[.int .i64 at', .slice A n c, .slice B m d]] w fun e w' => e = .returned (.bool true) ∧ Below w.heap.size w w' := hunkApplies_any L k e ls at' A n c old B m d new w hl ha hb


open Go.ChangeShapes Go.WideShapes Go.ChangeAt
open Go.ChangeMaps (open_string shut_string)
theorem own_HunkApplies : ownKnob Try.prog.godebug = none := by kernel_rfl
theorem laidOut_HunkApplies : laidOutB Try.prog = true := by kernel_rfl
set_option linter.unusedVariables false in
set_option maxRecDepth 100000 in
theorem lifted_HunkApplies (os : Os) (started : os.Started) (H : Type) (enc : TypeId × Value → H) :
    ReturnsInHanded {} Try.checked os 6 .any (Rows.hunkAppliesSpec.pre6 enc Try.prog Try.f6 Rows.hunkAppliesRow.domain false) (Rows.hunkAppliesSpec.post enc Try.prog Try.f6 false true false false) := by
  refine returnsInHanded_of_change (C := Try.checked) own_HunkApplies started (by kernel_rfl) Try.func6
    (ChangeSpec.witness6 (enc := enc) (C := Try.checked) false ⟨#[], #[.slice none 0 0, .agg #[.int .i64 0, .slice none 0 0, .slice none 0 0]], []⟩ 8 (by kernel_rfl) (by kernel_rfl) (by kernel_rfl) (by kernel_rfl)) ?_
  intro W base args ds gs before hval0 hW hcnd _
  have hval : ∀ (j : Nat) t v, Try.f6.params[j]? = some t → args[j]? = some v → Value.okWide Try.prog W .any base t v := hval0
  have hW' := hW
  obtain ⟨p, q, hA0, hV, rfl, hfz, hnd⟩ := hW
  have hA1 : DataW.TrodAll enc Try.prog W 0 (fun _ => true) true Try.f6.params.toList args.toList ds p := hA0
  have hA : DataW.TrodAll enc Try.prog W 0 (fun _ => true) true Try.f6.params.toList args.toList ds p := hA0
  rw [Try.params6] at hA hval
  obtain ⟨v0, vs0, d0, ds0, p0, q0, hargs, rfl, rfl, h0, r0⟩ := trodAll_cons hA
  obtain ⟨v1, vs1, d1, ds1, p1, q1, rfl, rfl, rfl, h1, r1⟩ := trodAll_cons r0
  obtain ⟨rfl, rfl, rfl⟩ := trodAll_nil r1
  obtain rfl : args = #[v0, v1] := by cases args; simp_all
  obtain ⟨rfl, rfl⟩ := trodVars_none hV
  obtain ⟨A0, n0, c0, ls, rfl, y0⟩ := open_ln (hval 0 25 v0 rfl rfl) h0
  obtain ⟨L1, A1, B1, n1, m1, c1, d1, old, new, rfl, _, y1, y2⟩ := open_hunk (hval 1 38 v1 rfl rfl) h1
  clear hA0 hval0
  refine (law_HunkApplies W A0 n0 c0 ls L1 A1 n1 c1 old B1 m1 d1 new y0 y1 y2).mono fun e W' ⟨he, bel⟩ => ?_
  subst he
  exact ⟨_, rfl, _, _, _, [], _, [], hW', trodAll_mk1 (shut_bool Try.underlying4 _), trodAll_stays laidOut_HunkApplies bel (by kernel_rfl) hA1, rfl, bel.frame _, fun h => by cases h⟩

/-- The statement. -/
theorem HunkApplies_holds : Rows.HunkAppliesSaid :=
  OpenClaim.holds_of_wide 6 Try.f6 rfl rfl rfl rfl rfl rfl rfl ⟨rfl, rfl, rfl, rfl, rfl⟩ rfl rfl rfl rfl rfl (by kernel_rfl) Try.func6 (by kernel_rfl)
    (of_decide_eq_true (by kernel_rfl)) (by unfold Func.isWrapper; first | (rw [if_pos (by decide +kernel)]; kernel_rfl) | (rw [if_neg (by decide +kernel)]; exact ⟨rfl, rfl⟩))
    (fun os started H enc _ => lifted_HunkApplies os started H enc)
#print axioms HunkApplies_holds

end Go.Proofs.Ytlbmikjgpaeddaa

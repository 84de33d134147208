
/- Proved: for all lines and every two hunks quitclaimlaw11.HunkSwaps returns true and leaves its arguments as they were. No conditions. -/
import Derived.Test.YtlbmikjgpaeddaaHk15
set_option linter.unusedSimpArgs false
set_option linter.unusedVariables false
namespace Go.Proofs.Ytlbmikjgpaeddaa
open Go.RowKit Go.Qc Go.Shelf
attribute [local go_sem] txt_size txt_append ib_fold txt_toL

theorem long5_any (L : Option Addr) (k e : Nat) (ls : List (List UInt8)) (s : Int) (A : Option Addr) (n c : Nat) (a1 : List (List UInt8)) (B : Option Addr) (m d : Nat) (a2 : List (List UInt8)) (t : Int) (C : Option Addr) (p f : Nat) (b1 : List (List UInt8)) (D : Option Addr) (q g : Nat) (b2 : List (List UInt8)) (W : World) (hl : LnRow W L k e ls) (h1 : LnRow W A n c a1) (h2 : LnRow W B m d a2) (h3 : LnRow W C p f b1) (h4 : LnRow W D q g b2) :
    Calls Try.prog 24 #[.slice (some ⟨W.heap.size, 0, none⟩) 5 5] (W.alloc (.cells #[.slice L k e, .slice A n c, .slice B m d, .slice C p f, .slice D q g] 25)) fun e w' => e = .returned (.bool (longL ls || (longL a1 || (longL a2 || (longL b1 || longL b2))))) ∧ Below W.heap.size W w' := by
  obtain ⟨l1, l2, l3, l4, l5, l6⟩ := hl
  obtain ⟨x1, x2, x3, x4, x5, x6⟩ := h1
  obtain ⟨y1, y2, y3, y4, y5, y6⟩ := h2
  obtain ⟨u1, u2, u3, u4, u5, u6⟩ := h3
  obtain ⟨v1, v2, v3, v4, v5, v6⟩ := h4
  have hB : Below W.heap.size W (W.alloc (.cells #[.slice L k e, .slice A n c, .slice B m d, .slice C p f, .slice D q g] 25)) := (Below.refl _ W).alloc (Nat.le_refl _) _
  have hk := Blk.new W 25 #[.slice L k e, .slice A n c, .slice B m d, .slice C p f, .slice D q g]
  have := long11_any ⟨W.heap.size, 0, none⟩ 5 5 [(.slice L k e, ls), (.slice A n c, a1), (.slice B m d, a2), (.slice C p f, b1), (.slice D q g, b2)] rfl (by decide) (by
    intro x hx
    simp only [List.mem_cons, List.not_mem_nil, or_false] at hx
    rcases hx with rfl | rfl | rfl | rfl | rfl
    · exact l1 ▸ l4
    · exact x1 ▸ x4
    · exact y1 ▸ y4
    · exact u1 ▸ u4
    · exact v1 ▸ v4) _ (by
    intro j x hx
    match j, hx with
    | 0, hx => cases hx; exact ⟨hk.cell_ (i := 0) rfl, L, k, e, rfl, l1, l3, l5.below hB⟩
    | 1, hx => cases hx; exact ⟨hk.cell_ (i := 1) rfl, A, n, c, rfl, x1, x3, x5.below hB⟩
    | 2, hx => cases hx; exact ⟨hk.cell_ (i := 2) rfl, B, m, d, rfl, y1, y3, y5.below hB⟩
    | 3, hx => cases hx; exact ⟨hk.cell_ (i := 3) rfl, C, p, f, rfl, u1, u3, u5.below hB⟩
    | 4, hx => cases hx; exact ⟨hk.cell_ (i := 4) rfl, D, q, g, rfl, v1, v3, v5.below hB⟩
    | j + 5, hx => simp at hx)
  refine this.mono ?_
  rintro e w' ⟨rfl, rfl⟩
  exact ⟨by simp, hB⟩
theorem rap_at (L : Option Addr) (k e : Nat) (ls : List (List UInt8)) (hk : ls.length = k) (bk : k ≤ 1000) (at' : Int) (A : Option Addr) (n c : Nat) (old : List (List UInt8)) (hn : old.length = n) (bn : n ≤ 1000) (B : Option Addr) (m d : Nat) (new : List (List UInt8)) (hm : new.length = m) (bm : m ≤ 1000)
    (l8 : ∀ x ∈ ls, x.length ≤ 1000000000000) (o8 : ∀ x ∈ old, x.length ≤ 1000000000000) (n8 : ∀ x ∈ new, x.length ≤ 1000000000000) (R : List (List UInt8)) (N : Nat) (z : Int) (hR : apR ls at' old new = (R, z)) (hN : R.length = N) (W : World)
    (hL : Rd W L (ls.map strV)) (hA : Rd W A (old.map strV)) (hB : Rd W B (new.map strV)) :
    Calls Try.prog 27 #[.slice L k e, .agg #[.int .i64 at', .slice A n c, .slice B m d]] W fun e w' => ∃ A1 r1, e = .returned (.tuple #[.slice A1 N r1, .int .i64 z]) ∧ Rd w' A1 (R.map strV) ∧ Below W.heap.size W w' := by
  have h := rapply_any L k e ls hk bk at' A n c old hn bn B m d new hm bm l8 o8 n8 W hL hA hB
  rw [← apR_fst, ← apR_snd, hR] at h
  refine h.mono ?_
  rintro e w' ⟨v, rfl, hown, hb'⟩
  obtain ⟨_, A1, c1, rfl, r1⟩ := rowRd hown
  exact ⟨A1, c1, by rw [← hN], r1, hb'⟩
theorem apR_short (ls : List (List UInt8)) (at' : Int) (old new : List (List UInt8)) (N : Nat) (h1 : ∀ x ∈ ls, x.length ≤ N) (h2 : ∀ x ∈ new, x.length ≤ N) : ∀ x ∈ (apR ls at' old new).1, x.length ≤ N := by
  by_cases h : (apR ls at' old new).2 = 0
  · obtain ⟨P, S, _, e2, e3, _, _⟩ := apR_get h
    rw [e3]
    intro x hx
    simp only [List.mem_append] at hx
    rcases hx with hx | hx | hx
    · exact h1 x (by rw [e2]; simp [hx])
    · exact h2 x hx
    · exact h1 x (by rw [e2]; simp [hx])
  · have : (apR ls at' old new).1 = [] := by
      revert h; unfold apR appR; repeat' split
      all_goals simp
    rw [this]; simp
theorem hunkSwaps_any (L : Option Addr) (k e : Nat) (ls : List (List UInt8)) (s : Int) (A : Option Addr) (n c : Nat) (a1 : List (List UInt8)) (B : Option Addr) (m d : Nat) (a2 : List (List UInt8)) (t : Int) (C : Option Addr) (p f : Nat) (b1 : List (List UInt8)) (D : Option Addr) (q g : Nat) (b2 : List (List UInt8)) (w : World) (hl : LnRow w L k e ls) (h1 : LnRow w A n c a1) (h2 : LnRow w B m d a2) (h3 : LnRow w C p f b1) (h4 : LnRow w D q g b2) :
    Calls Try.prog 8 #[.slice L k e, .agg #[.int .i64 s, .slice A n c, .slice B m d], .agg #[.int .i64 t, .slice C p f, .slice D q g]] w fun e w' => e = .returned (.bool true) ∧ Below w.heap.size w w' := by
  have up : ∀ {W A n c l}, Below w.heap.size w W → LnRow w A n c l → LnRow W A n c l := fun hb h => ⟨h.1, h.2.1, h.2.2.1, h.2.2.2.1, h.2.2.2.2.1.below hb, h.2.2.2.2.2⟩
  have cG : ∀ W, Below w.heap.size w W → Calls Try.prog 24 #[.slice (some ⟨W.heap.size, 0, none⟩) 5 5] (W.alloc (.cells #[.slice L k e, .slice A n c, .slice B m d, .slice C p f, .slice D q g] 25)) fun e w' => e = .returned (.bool (longL ls || (longL a1 || (longL a2 || (longL b1 || longL b2))))) ∧ Below W.heap.size W w' := fun W h => long5_any L k e ls s A n c a1 B m d a2 t C p f b1 D q g b2 W (up h hl) (up h h1) (up h h2) (up h h3) (up h h4)
  cases hlong : (longL ls || (longL a1 || (longL a2 || (longL b1 || longL b2)))) with
  | true =>
    rw [hlong] at cG
    exact hs_long L k e ls s A n c a1 B m d a2 t C p f b1 D q g b2 w cG
  | false =>
  rw [hlong] at cG
  rw [Bool.or_eq_false_iff, Bool.or_eq_false_iff, Bool.or_eq_false_iff, Bool.or_eq_false_iff] at hlong
  obtain ⟨g0, g1, g2, g3, g4⟩ := hlong
  obtain ⟨i0, q0⟩ := longL_no g0
  obtain ⟨i1, q1⟩ := longL_no g1
  obtain ⟨i2, q2⟩ := longL_no g2
  obtain ⟨i3, q3⟩ := longL_no g3
  obtain ⟨i4, q4⟩ := longL_no g4
  obtain ⟨l1, l2, l3, _, l5, _⟩ := hl
  obtain ⟨x1, x2, x3, _, x5, _⟩ := h1
  obtain ⟨y1, y2, y3, _, y5, _⟩ := h2
  obtain ⟨u1, u2, u3, _, u5, _⟩ := h3
  obtain ⟨v1, v2, v3, _, v5, _⟩ := h4
  have b8 : ∀ {l : List (List UInt8)}, (∀ x ∈ l, x.length ≤ 300) → ∀ x ∈ l, x.length ≤ 1000000000000 := fun h x hx => by have := h x hx; omega
  have e0 : (apartR s a1 a2 t b1 b2) = (hunkR s a1 a2 && (hunkR t b1 b2 && (decide (t + (p : Int) < s) || decide (s + (m : Int) < t)))) := by unfold apartR; rw [u1, y1]
  have zz : hunkR s a1 a2 = true → hunkR t b1 b2 = true → wrap64 (t + p) = t + (p : Int) := fun _ h => by have := hunkR_at h; unfold wrap64; omega
  have yy : hunkR s a1 a2 = true → hunkR t b1 b2 = true → wrap64 (s + m) = s + (m : Int) := fun h _ => by have := hunkR_at h; unfold wrap64; omega
  have cQ : ∀ W, Below w.heap.size w W → Calls Try.prog 39 #[.agg #[.int .i64 s, .slice A n c, .slice B m d], .agg #[.int .i64 t, .slice C p f, .slice D q g]] W fun e w' => e = .returned (.bool (apartR s a1 a2 t b1 b2)) ∧ Below W.heap.size W w' := fun W h => by
    rw [e0]
    exact apart_gen s A n c B m d t C p f D q g (hunkR s a1 a2) (hunkR t b1 b2) _ _ W zz yy
      (fun W2 h2 => hright_any s A n c a1 x1 (by omega) B m d a2 y1 (by omega) W2 ((x5.below h).below h2) ((y5.below h).below h2))
      (fun W2 h2 => hright_any t C p f b1 u1 (by omega) D q g b2 v1 (by omega) W2 ((u5.below h).below h2) ((v5.below h).below h2))
  have cP : ∀ W, Below w.heap.size w W → Calls Try.prog 37 #[.agg #[.int .i64 s, .slice A n c, .slice B m d], .agg #[.int .i64 t, .slice C p f, .slice D q g]] W fun e w' => e = .returned (.bool (apartR s a1 a2 t b1 b2)) ∧ Below W.heap.size W w' := fun W h => by
    rw [e0]
    exact rapart_gen s A n c B m d t C p f D q g (hunkR s a1 a2) (hunkR t b1 b2) _ _ W zz yy
      (fun W2 h2 => rhright_any s A n c a1 x1 (by omega) B m d a2 y1 (by omega) (b8 q1) (b8 q2) W2 ((x5.below h).below h2) ((y5.below h).below h2))
      (fun W2 h2 => rhright_any t C p f b1 u1 (by omega) D q g b2 v1 (by omega) (b8 q3) (b8 q4) W2 ((u5.below h).below h2) ((v5.below h).below h2))
  have cM : ∀ W, Below w.heap.size w W → Calls Try.prog 40 #[.agg #[.int .i64 s, .slice A n c, .slice B m d], .agg #[.int .i64 t, .slice C p f, .slice D q g]] W fun e w' => e = .returned (.bool (decide (s = t) && (decide (a1 = b1) && decide (a2 = b2)))) ∧ Below W.heap.size W w' := fun W h =>
    hsame_gen s A n c B m d t C p f D q g _ _ W
      (fun W2 h2 => equal_any A C n p c f a1 b1 x1 u1 (by omega) (by omega) W2 ((x5.below h).below h2) ((u5.below h).below h2))
      (fun W2 h2 => equal_any B D m q d g a2 b2 y1 v1 (by omega) (by omega) W2 ((y5.below h).below h2) ((v5.below h).below h2))
  have dM : ∀ W, Below w.heap.size w W → Calls Try.prog 41 #[.agg #[.int .i64 s, .slice A n c, .slice B m d], .agg #[.int .i64 t, .slice C p f, .slice D q g]] W fun e w' => e = .returned (.bool (decide (s = t) && (decide (a1 = b1) && decide (a2 = b2)))) ∧ Below W.heap.size W w' := fun W h =>
    rsame_gen s A n c B m d t C p f D q g _ _ W
      (fun W2 h2 => same_any A C n p c f a1 b1 x1 u1 (by omega) (by omega) W2 ((x5.below h).below h2) ((u5.below h).below h2))
      (fun W2 h2 => same_any B D m q d g a2 b2 y1 v1 (by omega) (by omega) W2 ((y5.below h).below h2) ((v5.below h).below h2))
  cases hap : apartR s a1 a2 t b1 b2 with
  | false =>
    rw [hap] at cP cQ
    refine hs_no L k e ls s A n c a1 B m d a2 t C p f b1 D q g b2 _ w cG cP cQ cM dM (fun W h => swap_no s A n c B m d t C p f D q g W (fun W2 h2 => cQ W2 (h.trans (h2.mono h.size)))) (fun W => ?_)
    have := rsame_gen 0 none 0 0 none 0 0 0 none 0 0 none 0 0 true true W (fun W2 _ => same_yes W2 none none 0 0 0 [] rfl (by omega) (.inl rfl) (.inl rfl)) (fun W2 _ => same_yes W2 none none 0 0 0 [] rfl (by omega) (.inl rfl) (.inl rfl))
    simpa using this
  | true =>
    rw [hap] at cP cQ
    have hR1 : hunkR s a1 a2 = true := by unfold apartR at hap; rw [Bool.and_eq_true] at hap; exact hap.1
    have hR2 : hunkR t b1 b2 = true := by unfold apartR at hap; rw [Bool.and_eq_true, Bool.and_eq_true] at hap; exact hap.2.1
    have s0 := hunkR_at hR1
    have t0 := hunkR_at hR2
    have sR : ∀ (tx sy : Int), tx = (if t < s then t else t - ((a2.length : Int) - a1.length)) → sy = (if t < s then s + ((b2.length : Int) - b1.length) else s) → (apR ls s a1 a2).2 = 0 → (apR (apR ls s a1 a2).1 t b1 b2).2 = 0 → (apR ls tx b1 b2).2 = 0 ∧ apR (apR ls tx b1 b2).1 sy a1 a2 = ((apR (apR ls s a1 a2).1 t b1 b2).1, 0) :=
      fun tx sy ht hs z1 z2 => swap_same hap z1 z2 (by omega) (by omega) (by omega) tx sy ht hs
    obtain ⟨tx, htx⟩ : ∃ tx, tx = (if t < s then t else t - ((a2.length : Int) - a1.length)) := ⟨_, rfl⟩
    obtain ⟨sy, hsy⟩ : ∃ sy, sy = (if t < s then s + ((b2.length : Int) - b1.length) else s) := ⟨_, rfl⟩
    replace sR := sR tx sy htx hsy
    have w1 : wrap64 (s + wrap64 ((q : Int) - p)) = s + ((b2.length : Int) - b1.length) := by unfold wrap64; omega
    have w2 : wrap64 (t - wrap64 ((m : Int) - n)) = t - ((a2.length : Int) - a1.length) := by unfold wrap64; omega
    have c0 : ∀ x ∈ (apR ls s a1 a2).1, x.length ≤ 300 := apR_short ls s a1 a2 300 q0 q2
    have c3 : ∀ x ∈ (apR ls tx b1 b2).1, x.length ≤ 300 := apR_short ls tx b1 b2 300 q0 q4
    refine hs_yes L k e ls s A n c a1 B m d a2 t C p f b1 D q g b2 _ w (apR ls s a1 a2).1 (apR (apR ls s a1 a2).1 t b1 b2).1 (apR ls tx b1 b2).1 (apR ls s a1 a2).1.length (apR (apR ls s a1 a2).1 t b1 b2).1.length (apR ls tx b1 b2).1.length (apR ls s a1 a2).2 (apR (apR ls s a1 a2).1 t b1 b2).2 tx sy (by omega) (by omega) rfl (apR_len _ _ _ _) x1 y1 u1 v1 (by omega) (by omega) (by omega) x5 y5 u5 v5 cG cP cQ cM dM ?_ ?_ ?_ ?_ ?_
    · intro W h
      refine (swap_gen s A n c B m d t C p f D q g (a1.map strV) (a2.map strV) (b1.map strV) (b2.map strV) _ _ W w1 w2 (fun W2 h2 => cQ W2 (h.trans (h2.mono h.size)))
        (fun W2 h2 => copied_any s A n c a1 x1 (by omega) B m d a2 y1 (by omega) W2 ((x5.below h).below h2) ((y5.below h).below h2))
        (fun W2 h2 => copied_any t C p f b1 u1 (by omega) D q g b2 v1 (by omega) W2 ((u5.below h).below h2) ((v5.below h).below h2))).mono ?_
      rintro e w' ⟨A3, c3, A4, c4, A6, c6, A7, c7, rfl, o1, o2, o3, o4, hb⟩
      have rd : ∀ {A n c l}, w'.ownsRow W.heap.size 9 1 (.slice A n c) n l → Rd w' A l := fun o => by obtain ⟨_, _, _, h, r⟩ := rowRd o; cases h; exact r
      exact ⟨A3, c3, A4, c4, A6, c6, A7, c7, by rw [htx, hsy], rd o1, rd o2, rd o3, rd o4, hb⟩
    · intro W h
      exact rap_at L k e ls l1 (by omega) s A n c a1 x1 (by omega) B m d a2 y1 (by omega) (b8 q0) (b8 q1) (b8 q2) _ _ _ rfl rfl W (l5.below h) (x5.below h) (y5.below h)
    · intro W A1 r1 h hr
      exact rap_at A1 _ r1 _ rfl (apR_len _ _ _ _) t C p f b1 u1 (by omega) D q g b2 v1 (by omega) (b8 c0) (b8 q3) (b8 q4) _ _ _ rfl rfl W hr (u5.below h) (v5.below h)
    · intro z1 z2 W A3 r3 A4 r4 h hr3 hr4
      have hz := (sR z1 z2).1
      exact rap_at L k e ls l1 (by omega) tx A3 p r3 b1 u1 (by omega) A4 q r4 b2 v1 (by omega) (b8 q0) (b8 q3) (b8 q4) _ _ 0 (by rw [← hz]) rfl W (l5.below h) hr3 hr4
    · intro z1 z2 W A5 r5 A6 r6 A7 r7 hr5 hr6 hr7
      have hz := (sR z1 z2).2
      exact rap_at A5 _ r5 _ rfl (apR_len _ _ _ _) sy A6 n r6 a1 x1 (by omega) A7 m r7 a2 y1 (by omega) (b8 c3) (b8 q1) (b8 q2) _ _ 0 hz rfl W hr5 hr6 hr7

set_option linter.unusedVariables false in
theorem law_HunkSwaps (L : Option Addr) (k e : Nat) (ls : List (List UInt8)) (s : Int) (A : Option Addr) (n c : Nat) (a1 : List (List UInt8)) (B : Option Addr) (m d : Nat) (a2 : List (List UInt8)) (t : Int) (C : Option Addr) (p f : Nat) (b1 : List (List UInt8)) (D : Option Addr) (q g : Nat) (b2 : List (List UInt8)) (w : World) (hl : LnRow w L k e ls) (h1 : LnRow w A n c a1) (h2 : LnRow w B m d a2) (h3 : LnRow w C p f b1) (h4 : LnRow w D q g b2) :
    Calls Try.prog 8 #[.slice L k e, .agg #[.int .i64 s, .slice A n c, .slice B m d], .agg #[.int .i64 t, .slice C p f, .slice D q g]] w fun e w' => e = .returned (.bool true) ∧ Below w.heap.size w w' := hunkSwaps_any L k e ls s A n c a1 B m d a2 t C p f b1 D q g b2 w hl h1 h2 h3 h4


open Go.ChangeShapes Go.WideShapes Go.ChangeAt
open Go.ChangeMaps (open_string shut_string)
theorem own_HunkSwaps : ownKnob Try.prog.godebug = none := by kernel_rfl
theorem laidOut_HunkSwaps : laidOutB Try.prog = true := by kernel_rfl
set_option linter.unusedVariables false in
set_option maxRecDepth 100000 in
theorem lifted_HunkSwaps (os : Os) (started : os.Started) (H : Type) (enc : TypeId × Value → H) :
    ReturnsInHanded {} Try.checked os 8 .any (Rows.hunkSwapsSpec.pre6 enc Try.prog Try.f8 Rows.hunkSwapsRow.domain false) (Rows.hunkSwapsSpec.post enc Try.prog Try.f8 false true false false) := by
  refine returnsInHanded_of_change (C := Try.checked) own_HunkSwaps started (by kernel_rfl) Try.func8
    (ChangeSpec.witness6 (enc := enc) (C := Try.checked) false ⟨#[], #[.slice none 0 0, .agg #[.int .i64 0, .slice none 0 0, .slice none 0 0], .agg #[.int .i64 0, .slice none 0 0, .slice none 0 0]], []⟩ 8 (by kernel_rfl) (by kernel_rfl) (by kernel_rfl) (by kernel_rfl)) ?_
  intro W base args ds gs before hval0 hW hcnd _
  have hval : ∀ (j : Nat) t v, Try.f8.params[j]? = some t → args[j]? = some v → Value.okWide Try.prog W .any base t v := hval0
  have hW' := hW
  obtain ⟨p, q, hA0, hV, rfl, hfz, hnd⟩ := hW
  have hA1 : DataW.TrodAll enc Try.prog W 0 (fun _ => true) true Try.f8.params.toList args.toList ds p := hA0
  have hA : DataW.TrodAll enc Try.prog W 0 (fun _ => true) true Try.f8.params.toList args.toList ds p := hA0
  rw [Try.params8] at hA hval
  obtain ⟨v0, vs0, d0, ds0, p0, q0, hargs, rfl, rfl, h0, r0⟩ := trodAll_cons hA
  obtain ⟨v1, vs1, d1, ds1, p1, q1, rfl, rfl, rfl, h1, r1⟩ := trodAll_cons r0
  obtain ⟨v2, vs2, d2, ds2, p2, q2, rfl, rfl, rfl, h2, r2⟩ := trodAll_cons r1
  obtain ⟨rfl, rfl, rfl⟩ := trodAll_nil r2
  obtain rfl : args = #[v0, v1, v2] := by cases args; simp_all
  obtain ⟨rfl, rfl⟩ := trodVars_none hV
  obtain ⟨A0, n0, c0, ls, rfl, y0⟩ := open_ln (hval 0 25 v0 rfl rfl) h0
  obtain ⟨L1, A1, B1, n1, m1, c1, d1, old1, new1, rfl, _, y1, y2⟩ := open_hunk (hval 1 38 v1 rfl rfl) h1
  obtain ⟨L2, A2, B2, n2, m2, c2, d2, old2, new2, rfl, _, y3, y4⟩ := open_hunk (hval 2 38 v2 rfl rfl) h2
  clear hA0 hval0
  refine (law_HunkSwaps A0 n0 c0 ls L1 A1 n1 c1 old1 B1 m1 d1 new1 L2 A2 n2 c2 old2 B2 m2 d2 new2 W y0 y1 y2 y3 y4).mono fun e W' ⟨he, bel⟩ => ?_
  subst he
  exact ⟨_, rfl, _, _, _, [], _, [], hW', trodAll_mk1 (shut_bool Try.underlying4 _), trodAll_stays laidOut_HunkSwaps bel (by kernel_rfl) hA1, rfl, bel.frame _, fun h => by cases h⟩

/-- The statement. -/
theorem HunkSwaps_holds : Rows.HunkSwapsSaid :=
  OpenClaim.holds_of_wide 8 Try.f8 rfl rfl rfl rfl rfl rfl rfl ⟨rfl, rfl, rfl, rfl, rfl⟩ rfl rfl rfl rfl rfl (by kernel_rfl) Try.func8 (by kernel_rfl)
    (of_decide_eq_true (by kernel_rfl)) (by unfold Func.isWrapper; first | (rw [if_pos (by decide +kernel)]; kernel_rfl) | (rw [if_neg (by decide +kernel)]; exact ⟨rfl, rfl⟩))
    (fun os started H enc _ => lifted_HunkSwaps os started H enc)
#print axioms HunkSwaps_holds

end Go.Proofs.Ytlbmikjgpaeddaa

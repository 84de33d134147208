
/- Proved: for every text, quitclaimlaw05.PackOnce returns true and leaves its argument as it was. No conditions. -/
import Derived.Test.YtjofobfflnnjhaaPk6
namespace Go.Proofs.Ytjofobfflnnjhaa
open Go.RowKit Go.Qc
attribute [local go_sem] txt_size

theorem scan_bad : scanN 0 0 [128, 0] = .error 3 := by rfl
theorem num300 : numE 300 = [172, 2] := by rw [numE_ge (by decide), numE_lt (by decide)]; rfl
set_option maxRecDepth 100000 in
set_option maxHeartbeats 4000000 in
theorem awake5_any (w : World) :
    Calls Try.prog 27 #[] w fun e w' => e = .returned (.bool true) ∧ Below w.heap.size w w' := by
  have hW := Wrt.new w
  have hB0 : Below w.heap.size w (w.alloc (.cells #[.slice none 0 0] 41)) := (Below.refl _ _).alloc (Nat.le_refl _) _
  have cN : ∀ W, Wrt w.heap.size [] W → Calls Try.prog 29 #[.pointer (some ⟨w.heap.size, 0, none⟩), .int .i64 300] W fun o w' => o = .returned (.bool true) ∧ Wrt w.heap.size [172, 2] w' ∧ Below w.heap.size W w' := fun W h => by
    have := pkWNum_any w.heap.size [] 300 (by decide) (by decide) W h
    rw [num300] at this
    exact this
  have cS : ∀ W, Wrt w.heap.size [172, 2] W → Calls Try.prog 41 #[.pointer (some ⟨w.heap.size, 0, none⟩)] W fun o w' => o = .returned (.string ⟨#[172, 2]⟩) ∧ W = w' := fun W h => pkWString_any _ _ W h
  have cR : ∀ W : World, Calls Try.prog 42 #[.string ⟨#[128, 0]⟩] W fun o w' => o = .returned (.pointer (some ⟨W.heap.size, 0, none⟩)) ∧ Rdr W.heap.size [128, 0] 0 0 w' ∧ Below W.heap.size W w' := fun W => pkNew_any [128, 0] W
  have cM : ∀ g W, Rdr g [128, 0] 0 0 W → Calls Try.prog 44 #[.pointer (some ⟨g, 0, none⟩)] W fun o w' => o = .returned (.int .i64 0) ∧ Step g [128, 0] 0 3 W w' := fun g W h => by
    have := pkNum_any g [128, 0] 0 (by decide) (by decide) W h
    rw [List.drop_zero, scan_bad] at this
    exact this.mono (by rintro o w' ⟨h1, _, h2⟩; exact ⟨h1, h2⟩)
  go_enter Try.func27, Try.ntmps27
  go_wp2_with (first
    | (go_at_call 29; (with_reducible refine (cN _ hW).mono ?_); rintro o1 w1 ⟨rfl, hW1, hB1⟩; have hB2 := hB0.trans hB1)
    | (go_at_call 42; (with_reducible refine (cR _).mono ?_); rintro o2 w2 ⟨rfl, hR2, hb2⟩; have hW2 := hW1.below hb2; have hB3 := hB2.trans (hb2.mono hB2.size); have hlw := hW1.lt)
    | (go_at_call 44; (with_reducible refine (cM _ _ hR2).mono ?_); rintro o3 w3 ⟨rfl, h3⟩; have hb3 := below_of_gb h3.gb (Nat.le_refl _) hb2.size; have hW3 := hW1.below (hb2.trans hb3); have hB4 := hB3.trans (hb3.mono hB2.size))
    | (go_at_call 41; (with_reducible refine (cS _ hW3).mono ?_); rintro o4 w4 ⟨rfl, rfl⟩)
    | (go_at_call 83; (with_reducible refine (pkErr_any _ _ _ _ _ h3.r).mono ?_); rintro o5 w5 ⟨rfl, rfl⟩))
  go_ret
  exact ⟨rfl, hB4⟩

theorem Wrt.gb {b g : Nat} {l : List UInt8} {w w' : World} (h : Wrt b l w) (hg : w.grownBy w' (some g)) (hlt : g < b) : Wrt b l w' := by
  obtain ⟨v, h1, h2, h3⟩ := h
  exact ⟨v, blk_gb h1 hg (by omega), h2.kept hg (by
    cases hv : v.ownBlock with
    | none => exact .inl rfl
    | some k => exact .inr (fun e => by have := (h2.lt k hv).1; have := Option.some.inj e; omega)), h3⟩
theorem endE_zero {s : List UInt8} {a : Nat} {e : Int} (h : endE s a e = 0) (ha : a ≤ s.length) : e = 0 ∧ a = s.length := by
  unfold endE at h
  by_cases he : e = 0
  · rw [if_pos he] at h
    by_cases h1 : a < s.length
    · rw [if_pos h1] at h; exact absurd h (by decide)
    · exact ⟨he, by omega⟩
  · rw [if_neg he] at h
    exact absurd h he
theorem num_read (s : List UInt8) (hs : s.length ≤ 300) : ∃ (v a : Nat) (e : Int),
    (∀ g W, Rdr g s 0 0 W → Calls Try.prog 44 #[.pointer (some ⟨g, 0, none⟩)] W fun o w' => o = .returned (.int .i64 v) ∧ Step g s a e W w') ∧ a ≤ s.length ∧ (endE s a e = 0 → numE v = s ∧ v ≤ 4611686018427387904) := by
  have h1 := fun g W (h : Rdr g s 0 0 W) => pkNum_any g s 0 (Nat.le_trans hs (by decide)) (Nat.zero_le _) W h
  simp only [List.drop_zero] at h1
  cases hsc : scanN 0 0 s with
  | ok p =>
    obtain ⟨v, n⟩ := p
    rw [hsc] at h1
    obtain ⟨k, X, hn, hk, hkl, hv, hX, _, hb⟩ := scanN_back _ _ _ _ _ hsc
    have hnk : n = k := by omega
    have hvX : v = X := by rw [hv]; simp
    subst hnk hvX
    refine ⟨v, n, 0, fun g W h => (h1 g W h).mono (by rintro o w' ⟨h2, h3⟩; rw [Nat.zero_add] at h3; exact ⟨h2, h3⟩), hkl, fun he => ?_⟩
    have := (endE_zero he hkl).2
    exact ⟨by rw [hX, this, List.take_length], hb⟩
  | error e =>
    rw [hsc] at h1
    by_cases he0 : e = 0
    · subst he0
      exact ⟨0, 0, 1, fun g W h => (h1 g W h).mono (by rintro o w' ⟨_, h3, _⟩; exact absurd rfl h3), Nat.zero_le _, fun he => absurd (endE_zero he (Nat.zero_le _)).1 (by decide)⟩
    · exact ⟨0, 0, e, fun g W h => (h1 g W h).mono (by rintro o w' ⟨h2, _, h4⟩; exact ⟨h2, h4⟩), Nat.zero_le _, fun he => absurd (endE_zero he (Nat.zero_le _)).1 he0⟩
theorem text_read (s : List UInt8) (hs : s.length ≤ 300) : ∃ (t : List UInt8) (a : Nat) (e : Int), t.length ≤ 300 ∧
    (∀ g W, Rdr g s 0 0 W → Calls Try.prog 45 #[.pointer (some ⟨g, 0, none⟩), .int .i64 1000] W fun o w' => o = .returned (.string (txt t)) ∧ Step g s a e W w') ∧ a ≤ s.length ∧ (endE s a e = 0 → numE t.length ++ t = s) := by
  have h1 := fun g W (h : Rdr g s 0 0 W) => pkText_any g s 0 1000 (Nat.le_trans hs (by decide)) (Nat.zero_le _) W h
  simp only [List.drop_zero] at h1
  cases htx : textR 1000 s with
  | ok p =>
    obtain ⟨t, n⟩ := p
    rw [htx] at h1
    unfold textR cntN at htx
    cases hsc : scanN 0 0 s with
    | error e => rw [hsc] at htx; cases htx
    | ok p =>
      obtain ⟨v, k0⟩ := p
      rw [hsc] at htx
      obtain ⟨k, X, hn, hk, hkl, hv, hX, _, hb⟩ := scanN_back _ _ _ _ _ hsc
      have hnk : k0 = k := by omega
      have hvX : v = X := by rw [hv]; simp
      subst hnk hvX
      simp only at htx
      split at htx
      · rename_i v2 n2 heq
        split at heq
        · cases heq
        · injection heq with heq
          injection heq with q1 q2
          subst q1 q2
          split at htx
          · rename_i hle
            injection htx with htx
            injection htx with q3 q4
            subst q3 q4
            have htl : ((s.drop k0).take v).length = v := by rw [List.length_take, List.length_drop]; omega
            refine ⟨_, k0 + v, 0, by rw [htl]; omega, fun g W h => (h1 g W h).mono (by rintro o w' ⟨h2, h3⟩; rw [Nat.zero_add] at h3; exact ⟨h2, h3⟩), hle, fun he => ?_⟩
            have h9 := (endE_zero he hle).2
            rw [htl, hX, List.take_of_length_le (l := s.drop k0) (by rw [List.length_drop]; omega), List.take_append_drop]
          · cases htx
      · rename_i heq
        split at heq
        · injection heq with heq; subst heq; cases htx
        · cases heq
  | error e =>
    rw [htx] at h1
    by_cases he0 : e = 0
    · subst he0
      exact ⟨[], 0, 1, by simp, fun g W h => (h1 g W h).mono (by rintro o w' ⟨_, h3, _⟩; exact absurd rfl h3), Nat.zero_le _, fun he => absurd (endE_zero he (Nat.zero_le _)).1 (by decide)⟩
    · exact ⟨[], 0, e, by simp, fun g W h => (h1 g W h).mono (by rintro o w' ⟨h2, _, h4⟩; exact ⟨h2, h4⟩), Nat.zero_le _, fun he => absurd (endE_zero he (Nat.zero_le _)).1 he0⟩
set_option maxRecDepth 100000 in
set_option maxHeartbeats 20000000 in
theorem packOnce_any (s : List UInt8) (hs9 : s.length ≤ 9223372036854775807) (w : World) :
    Calls Try.prog 6 #[.string (txt s)] w fun e w' => e = .returned (.bool true) ∧ Below w.heap.size w w' := by
  by_cases hs : s.length ≤ 300
  · have l1 : ¬ (300 : Int) < s.length := by omega
    obtain ⟨v, a1, e1, hN, ha1, hE1⟩ := num_read s hs
    obtain ⟨t, a2, e2, htl, hT, ha2, hE2⟩ := text_read s hs
    have hs12 : s.length ≤ 1000000000000 := Nat.le_trans hs (by decide)
    have cN := fun g W h => pkEnd_any g s a1 e1 ha1 hs12 W h
    have cT := fun g W h => pkEnd_any g s a2 e2 ha2 hs12 W h
    have cX := fun b W h => pkWText_any b [] t (Nat.le_trans htl (by decide)) (by decide) W h
    have HN := hid hN
    have HT := hid hT
    have HS := hid hs
    clear hN hT ha1 ha2 htl hs hs9 hs12
    rcases Int.decEq (endE s a1 e1) 0 with h1 | h1
    · have n1 : (endE s a1 e1 == 0) = false := beq_false_of_ne h1
      generalize endE s a1 e1 = E1 at *
      clear hE1 h1
      rcases Int.decEq (endE s a2 e2) 0 with h2 | h2
      · have n2 : (endE s a2 e2 != 0) = true := (by simpa using h2)
        generalize endE s a2 e2 = E2 at *
        clear hE2 h2
        go_enter Try.func6, Try.ntmps6
        go_wp2_with (first
          | (have hz := hR2; go_at_call 42; (with_reducible refine (pkNew_any s _).mono ?_); rintro o5 w5 ⟨rfl, hR5, hb5⟩; have hB5 := hB4.trans (hb5.mono hB4.size))
          | (go_at_call 42; (with_reducible refine (pkNew_any s _).mono ?_); rintro o2 w2 ⟨rfl, hR2, hb2⟩)
          | (go_at_call 44; (with_reducible refine (HN.out _ _ hR2).mono ?_); rintro o3 w3 ⟨rfl, h3⟩; have hlt3 := h3.r.lt; have hb3 := hb2.trans (below_of_gb h3.gb (Nat.le_refl _) hb2.size); have hW3 := Wrt.new w3; have hR3 : Rdr w.heap.size s a1 e1 (w3.alloc (.cells #[.slice none 0 0] 41)) := Blk.alloc h3.r _; have hB3 := hb3.alloc hb3.size (.cells #[.slice none 0 0] 41))
          | (have hz := hW7; go_at_call 51; (with_reducible refine (cT _ _ hR7).mono ?_); rintro o8 w8 ⟨rfl, h8⟩; have hW8 := hW7.gb h8.gb hlt6; have hB9 := hB8.trans (below_of_gb h8.gb hB4.size hB8.size))
          | (go_at_call 51; (with_reducible refine (cN _ _ hR3).mono ?_); rintro o4 w4 ⟨rfl, h4⟩; have hW4 := hW3.gb h4.gb hlt3; have hB4 := hB3.trans (below_of_gb h4.gb (Nat.le_refl _) hB3.size))
          | (go_at_call 29; (with_reducible refine (cW _ _ hW4).mono ?_); rintro o9 w9 ⟨rfl, hW9, hb9⟩; replace hB4 := hB4.trans (hb9.mono (Nat.le_of_lt hlt3)))
          | (have hz := hW8; go_at_call 41; (with_reducible refine (cU _ _ hW8).mono ?_); rintro o11 w11 ⟨rfl, rfl⟩)
          | (go_at_call 41; (with_reducible refine (cS _ _ hW9).mono ?_); rintro o10 w10 ⟨rfl, rfl⟩)
          | (go_at_call 45; (with_reducible refine (HT.out _ _ hR5).mono ?_); rintro o6 w6 ⟨rfl, h6⟩; have hlt6 := h6.r.lt; have hB6 := hB5.trans (below_of_gb h6.gb hB4.size hB5.size); have hW6 := Wrt.new w6; have hR6 : Rdr _ s a2 e2 (w6.alloc (.cells #[.slice none 0 0] 41)) := Blk.alloc h6.r _; have hB7 := hB6.alloc hB6.size (.cells #[.slice none 0 0] 41))
          | (go_at_call 30; (with_reducible refine (cX _ _ hW6).mono ?_); rintro o7 w7 ⟨rfl, hW7, hb7⟩; have hR7 : Rdr _ s a2 e2 w7 := (hb7.block _ hlt6).trans hR6; have hB8 := hB7.trans (hb7.mono hB6.size))
          | (go_at_call 27; (with_reducible refine (awake5_any _).mono ?_); rintro o12 w12 ⟨rfl, hb12⟩))
        go_ret
        exact ⟨rfl, hB9.trans (hb12.mono hB9.size)⟩
      · have ht := hE2 h2
        rw [h2] at cT
        rw [List.nil_append, ht] at cX
        have cU := fun b W h => pkWString_any b s W h
        clear hE2 h2 ht
        go_enter Try.func6, Try.ntmps6
        go_wp2_with (first
          | (have hz := hR2; go_at_call 42; (with_reducible refine (pkNew_any s _).mono ?_); rintro o5 w5 ⟨rfl, hR5, hb5⟩; have hB5 := hB4.trans (hb5.mono hB4.size))
          | (go_at_call 42; (with_reducible refine (pkNew_any s _).mono ?_); rintro o2 w2 ⟨rfl, hR2, hb2⟩)
          | (go_at_call 44; (with_reducible refine (HN.out _ _ hR2).mono ?_); rintro o3 w3 ⟨rfl, h3⟩; have hlt3 := h3.r.lt; have hb3 := hb2.trans (below_of_gb h3.gb (Nat.le_refl _) hb2.size); have hW3 := Wrt.new w3; have hR3 : Rdr w.heap.size s a1 e1 (w3.alloc (.cells #[.slice none 0 0] 41)) := Blk.alloc h3.r _; have hB3 := hb3.alloc hb3.size (.cells #[.slice none 0 0] 41))
          | (have hz := hW7; go_at_call 51; (with_reducible refine (cT _ _ hR7).mono ?_); rintro o8 w8 ⟨rfl, h8⟩; have hW8 := hW7.gb h8.gb hlt6; have hB9 := hB8.trans (below_of_gb h8.gb hB4.size hB8.size))
          | (go_at_call 51; (with_reducible refine (cN _ _ hR3).mono ?_); rintro o4 w4 ⟨rfl, h4⟩; have hW4 := hW3.gb h4.gb hlt3; have hB4 := hB3.trans (below_of_gb h4.gb (Nat.le_refl _) hB3.size))
          | (go_at_call 29; (with_reducible refine (cW _ _ hW4).mono ?_); rintro o9 w9 ⟨rfl, hW9, hb9⟩; replace hB4 := hB4.trans (hb9.mono (Nat.le_of_lt hlt3)))
          | (have hz := hW8; go_at_call 41; (with_reducible refine (cU _ _ hW8).mono ?_); rintro o11 w11 ⟨rfl, rfl⟩)
          | (go_at_call 41; (with_reducible refine (cS _ _ hW9).mono ?_); rintro o10 w10 ⟨rfl, rfl⟩)
          | (go_at_call 45; (with_reducible refine (HT.out _ _ hR5).mono ?_); rintro o6 w6 ⟨rfl, h6⟩; have hlt6 := h6.r.lt; have hB6 := hB5.trans (below_of_gb h6.gb hB4.size hB5.size); have hW6 := Wrt.new w6; have hR6 : Rdr _ s a2 e2 (w6.alloc (.cells #[.slice none 0 0] 41)) := Blk.alloc h6.r _; have hB7 := hB6.alloc hB6.size (.cells #[.slice none 0 0] 41))
          | (go_at_call 30; (with_reducible refine (cX _ _ hW6).mono ?_); rintro o7 w7 ⟨rfl, hW7, hb7⟩; have hR7 : Rdr _ s a2 e2 w7 := (hb7.block _ hlt6).trans hR6; have hB8 := hB7.trans (hb7.mono hB6.size))
          | (go_at_call 27; (with_reducible refine (awake5_any _).mono ?_); rintro o12 w12 ⟨rfl, hb12⟩))
        go_ret
        exact ⟨rfl, hB9.trans (hb12.mono hB9.size)⟩
    · obtain ⟨hv, hv62⟩ := hE1 h1
      have cW := fun b W h => pkWNum_any b [] v hv62 (by decide) W h
      rw [List.nil_append, hv] at cW
      have cS := fun b W h => pkWString_any b s W h
      rw [h1] at cN
      clear hE1 h1 hv
      rcases Int.decEq (endE s a2 e2) 0 with h2 | h2
      · have n2 : (endE s a2 e2 != 0) = true := (by simpa using h2)
        generalize endE s a2 e2 = E2 at *
        clear hE2 h2
        go_enter Try.func6, Try.ntmps6
        go_wp2_with (first
          | (have hz := hR2; go_at_call 42; (with_reducible refine (pkNew_any s _).mono ?_); rintro o5 w5 ⟨rfl, hR5, hb5⟩; have hB5 := hB4.trans (hb5.mono hB4.size))
          | (go_at_call 42; (with_reducible refine (pkNew_any s _).mono ?_); rintro o2 w2 ⟨rfl, hR2, hb2⟩)
          | (go_at_call 44; (with_reducible refine (HN.out _ _ hR2).mono ?_); rintro o3 w3 ⟨rfl, h3⟩; have hlt3 := h3.r.lt; have hb3 := hb2.trans (below_of_gb h3.gb (Nat.le_refl _) hb2.size); have hW3 := Wrt.new w3; have hR3 : Rdr w.heap.size s a1 e1 (w3.alloc (.cells #[.slice none 0 0] 41)) := Blk.alloc h3.r _; have hB3 := hb3.alloc hb3.size (.cells #[.slice none 0 0] 41))
          | (have hz := hW7; go_at_call 51; (with_reducible refine (cT _ _ hR7).mono ?_); rintro o8 w8 ⟨rfl, h8⟩; have hW8 := hW7.gb h8.gb hlt6; have hB9 := hB8.trans (below_of_gb h8.gb hB4.size hB8.size))
          | (go_at_call 51; (with_reducible refine (cN _ _ hR3).mono ?_); rintro o4 w4 ⟨rfl, h4⟩; have hW4 := hW3.gb h4.gb hlt3; have hB4 := hB3.trans (below_of_gb h4.gb (Nat.le_refl _) hB3.size))
          | (go_at_call 29; (with_reducible refine (cW _ _ hW4).mono ?_); rintro o9 w9 ⟨rfl, hW9, hb9⟩; replace hB4 := hB4.trans (hb9.mono (Nat.le_of_lt hlt3)))
          | (have hz := hW8; go_at_call 41; (with_reducible refine (cU _ _ hW8).mono ?_); rintro o11 w11 ⟨rfl, rfl⟩)
          | (go_at_call 41; (with_reducible refine (cS _ _ hW9).mono ?_); rintro o10 w10 ⟨rfl, rfl⟩)
          | (go_at_call 45; (with_reducible refine (HT.out _ _ hR5).mono ?_); rintro o6 w6 ⟨rfl, h6⟩; have hlt6 := h6.r.lt; have hB6 := hB5.trans (below_of_gb h6.gb hB4.size hB5.size); have hW6 := Wrt.new w6; have hR6 : Rdr _ s a2 e2 (w6.alloc (.cells #[.slice none 0 0] 41)) := Blk.alloc h6.r _; have hB7 := hB6.alloc hB6.size (.cells #[.slice none 0 0] 41))
          | (go_at_call 30; (with_reducible refine (cX _ _ hW6).mono ?_); rintro o7 w7 ⟨rfl, hW7, hb7⟩; have hR7 : Rdr _ s a2 e2 w7 := (hb7.block _ hlt6).trans hR6; have hB8 := hB7.trans (hb7.mono hB6.size))
          | (go_at_call 27; (with_reducible refine (awake5_any _).mono ?_); rintro o12 w12 ⟨rfl, hb12⟩))
        go_ret
        exact ⟨rfl, hB9.trans (hb12.mono hB9.size)⟩
      · have ht := hE2 h2
        rw [h2] at cT
        rw [List.nil_append, ht] at cX
        have cU := fun b W h => pkWString_any b s W h
        clear hE2 h2 ht
        go_enter Try.func6, Try.ntmps6
        go_wp2_with (first
          | (have hz := hR2; go_at_call 42; (with_reducible refine (pkNew_any s _).mono ?_); rintro o5 w5 ⟨rfl, hR5, hb5⟩; have hB5 := hB4.trans (hb5.mono hB4.size))
          | (go_at_call 42; (with_reducible refine (pkNew_any s _).mono ?_); rintro o2 w2 ⟨rfl, hR2, hb2⟩)
          | (go_at_call 44; (with_reducible refine (HN.out _ _ hR2).mono ?_); rintro o3 w3 ⟨rfl, h3⟩; have hlt3 := h3.r.lt; have hb3 := hb2.trans (below_of_gb h3.gb (Nat.le_refl _) hb2.size); have hW3 := Wrt.new w3; have hR3 : Rdr w.heap.size s a1 e1 (w3.alloc (.cells #[.slice none 0 0] 41)) := Blk.alloc h3.r _; have hB3 := hb3.alloc hb3.size (.cells #[.slice none 0 0] 41))
          | (have hz := hW7; go_at_call 51; (with_reducible refine (cT _ _ hR7).mono ?_); rintro o8 w8 ⟨rfl, h8⟩; have hW8 := hW7.gb h8.gb hlt6; have hB9 := hB8.trans (below_of_gb h8.gb hB4.size hB8.size))
          | (go_at_call 51; (with_reducible refine (cN _ _ hR3).mono ?_); rintro o4 w4 ⟨rfl, h4⟩; have hW4 := hW3.gb h4.gb hlt3; have hB4 := hB3.trans (below_of_gb h4.gb (Nat.le_refl _) hB3.size))
          | (go_at_call 29; (with_reducible refine (cW _ _ hW4).mono ?_); rintro o9 w9 ⟨rfl, hW9, hb9⟩; replace hB4 := hB4.trans (hb9.mono (Nat.le_of_lt hlt3)))
          | (have hz := hW8; go_at_call 41; (with_reducible refine (cU _ _ hW8).mono ?_); rintro o11 w11 ⟨rfl, rfl⟩)
          | (go_at_call 41; (with_reducible refine (cS _ _ hW9).mono ?_); rintro o10 w10 ⟨rfl, rfl⟩)
          | (go_at_call 45; (with_reducible refine (HT.out _ _ hR5).mono ?_); rintro o6 w6 ⟨rfl, h6⟩; have hlt6 := h6.r.lt; have hB6 := hB5.trans (below_of_gb h6.gb hB4.size hB5.size); have hW6 := Wrt.new w6; have hR6 : Rdr _ s a2 e2 (w6.alloc (.cells #[.slice none 0 0] 41)) := Blk.alloc h6.r _; have hB7 := hB6.alloc hB6.size (.cells #[.slice none 0 0] 41))
          | (go_at_call 30; (with_reducible refine (cX _ _ hW6).mono ?_); rintro o7 w7 ⟨rfl, hW7, hb7⟩; have hR7 : Rdr _ s a2 e2 w7 := (hb7.block _ hlt6).trans hR6; have hB8 := hB7.trans (hb7.mono hB6.size))
          | (go_at_call 27; (with_reducible refine (awake5_any _).mono ?_); rintro o12 w12 ⟨rfl, hb12⟩))
        go_ret
        exact ⟨rfl, hB9.trans (hb12.mono hB9.size)⟩
  · have l1 : (300 : Int) < s.length := by omega
    clear hs
    go_enter Try.func6, Try.ntmps6
    go_wp2_with (first
      | (go_at_call 27; (with_reducible refine (awake5_any _).mono ?_); rintro e3 w3 ⟨rfl, hb3⟩))
    go_ret
    exact ⟨rfl, hb3⟩
set_option linter.unusedVariables false in
theorem law_PackOnce (w : World) (a0 : ByteArray) (w0 : a0.size ≤ maxLen) :
    Calls Try.prog 6 #[.string a0] w fun e w' => e = .returned (.bool true) ∧ Below w.heap.size w w' := by
  refine packOnce_any a0.data.toList ?_ w
  unfold maxLen at w0
  have : a0.data.toList.length = a0.size := rfl
  omega

open Go.ChangeShapes Go.WideShapes Go.ChangeAt
open Go.ChangeMaps (open_string shut_string)
theorem own_PackOnce : ownKnob Try.prog.godebug = none := by kernel_rfl
theorem laidOut_PackOnce : laidOutB Try.prog = true := by kernel_rfl
set_option linter.unusedVariables false in
set_option maxRecDepth 100000 in
theorem lifted_PackOnce (os : Os) (started : os.Started) (H : Type) (enc : TypeId × Value → H) :
    ReturnsInHanded {} Try.checked os 6 .any (Rows.packOnceSpec.pre6 enc Try.prog Try.f6 Rows.packOnceRow.domain false) (Rows.packOnceSpec.post enc Try.prog Try.f6 false true false false) := by
  refine returnsInHanded_of_change (C := Try.checked) own_PackOnce started (by kernel_rfl) Try.func6
    (ChangeSpec.witness6 (enc := enc) (C := Try.checked) false ⟨#[], #[.string ByteArray.empty], []⟩ 8 (by kernel_rfl) (by kernel_rfl) (by kernel_rfl) (by kernel_rfl)) ?_
  intro W base args ds gs before hval0 hW hcnd _
  have hval : ∀ (j : Nat) t v, Try.f6.params[j]? = some t → args[j]? = some v → Value.okWide Try.prog W .any base t v := hval0
  have hW' := hW
  obtain ⟨p, q, hA0, hV, rfl, hfz, hnd⟩ := hW
  have hA1 : DataW.TrodAll enc Try.prog W 0 (fun _ => true) true Try.f6.params.toList args.toList ds p := hA0
  have hA : DataW.TrodAll enc Try.prog W 0 (fun _ => true) true Try.f6.params.toList args.toList ds p := hA0
  rw [Try.params6] at hA hval
  obtain ⟨v0, vs0, d0, ds0, p0, q0, hargs, rfl, rfl, h0, r0⟩ := trodAll_cons hA
  obtain ⟨rfl, rfl, rfl⟩ := trodAll_nil r0
  obtain rfl : args = #[v0] := by cases args; simp_all
  obtain ⟨rfl, rfl⟩ := trodVars_none hV
  obtain ⟨a0, rfl, rfl, rfl, w0⟩ := open_string Try.underlying9 (hval 0 9 v0 rfl rfl) h0
  clear hA0 hval0
  refine (law_PackOnce W a0 w0).mono fun e W' ⟨he, bel⟩ => ?_
  subst he
  exact ⟨_, rfl, _, _, _, [], _, [], hW', trodAll_mk1 (shut_bool Try.underlying4 _), trodAll_stays laidOut_PackOnce bel (by kernel_rfl) hA1, rfl, bel.frame _, fun h => by cases h⟩

/-- The statement. -/
theorem PackOnce_holds : Rows.PackOnceSaid :=
  OpenClaim.holds_of_wide 6 Try.f6 rfl rfl rfl rfl rfl rfl rfl ⟨rfl, rfl, rfl, rfl, rfl⟩ rfl rfl rfl rfl rfl (by kernel_rfl) Try.func6 (by kernel_rfl)
    (of_decide_eq_true (by kernel_rfl)) (by unfold Func.isWrapper; first | (rw [if_pos (by decide +kernel)]; kernel_rfl) | (rw [if_neg (by decide +kernel)]; exact ⟨rfl, rfl⟩))
    (fun os started H enc _ => lifted_PackOnce os started H enc)
#print axioms PackOnce_holds
end Go.Proofs.Ytjofobfflnnjhaa

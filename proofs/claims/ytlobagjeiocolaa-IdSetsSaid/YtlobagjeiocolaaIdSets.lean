
/- Proved: for every two rows of ids, quitclaimlaw04.IdSets returns true and leaves its arguments as they were. No conditions. -/
import Derived.Test.YtlobagjeiocolaaId10
namespace Go.Proofs.Ytlobagjeiocolaa
open Go.RowKit Go.Qc
attribute [local go_sem] txt_size

theorem union_row (A B : Option Addr) (n c m d : Nat) (l r : List (List UInt8)) (w : World) (hA : RowAt w A n c l) (hB : RowAt w B m d r) (hl : Rising l) (hr : Rising r) (hs : n + m ≤ 900000) :
    Calls Try.prog 38 #[.slice A n c, .slice B m d] w fun e w' => ∃ A' n' c', e = .returned (.slice A' n' c') ∧ RowAt w' A' n' c' (sortL (l ++ r)) ∧ Below w.heap.size w w' := by
  refine (union_any A B n c m d l r w hA hB).mono ?_
  rintro e w' ⟨v, rfl, ho, hb⟩
  rw [merge_or hl hr] at ho
  obtain ⟨A', c', rfl, hR⟩ := RowAt.own ho (fun x hx => (List.mem_append.1 (mem_sortL.1 hx)).elim (hA.2.2.2.2.1 x) (hB.2.2.2.2.1 x)) (by have h := sortL_le (l ++ r); rw [List.length_append, hA.1, hB.1] at h; omega)
  exact ⟨A', _, c', rfl, hR, hb⟩
theorem minus_row (A B : Option Addr) (n c m d : Nat) (l r : List (List UInt8)) (w : World) (hA : RowAt w A n c l) (hB : RowAt w B m d r) (hl : Rising l) (hr : Rising r) :
    Calls Try.prog 39 #[.slice A n c, .slice B m d] w fun e w' => ∃ A' n' c', e = .returned (.slice A' n' c') ∧ RowAt w' A' n' c' (l.filter (fun x => decide (x ∈ r) == false)) ∧ Below w.heap.size w w' := by
  refine (minus_any A B n c m d l r w hA hB).mono ?_
  rintro e w' ⟨v, rfl, ho, hb⟩
  rw [merge_minus hl hr] at ho
  obtain ⟨A', c', rfl, hR⟩ := RowAt.own ho (fun x hx => hA.2.2.2.2.1 x (List.mem_filter.1 hx).1) (by have h := List.length_filter_le (fun x => decide (x ∈ r) == false) l; have := hA.1; have := hA.2.2.2.1; omega)
  exact ⟨A', _, c', rfl, hR, hb⟩
theorem both_row (A B : Option Addr) (n c m d : Nat) (l r : List (List UInt8)) (w : World) (hA : RowAt w A n c l) (hB : RowAt w B m d r) (hl : Rising l) (hr : Rising r) :
    Calls Try.prog 41 #[.slice A n c, .slice B m d] w fun e w' => ∃ A' n' c', e = .returned (.slice A' n' c') ∧ RowAt w' A' n' c' (l.filter (fun x => decide (x ∈ r) == true)) ∧ Below w.heap.size w w' := by
  refine (both_any A B n c m d l r w hA hB).mono ?_
  rintro e w' ⟨v, rfl, ho, hb⟩
  rw [merge_and hl hr] at ho
  obtain ⟨A', c', rfl, hR⟩ := RowAt.own ho (fun x hx => hA.2.2.2.2.1 x (List.mem_filter.1 hx).1) (by have h := List.length_filter_le (fun x => decide (x ∈ r) == true) l; have := hA.1; have := hA.2.2.2.1; omega)
  exact ⟨A', _, c', rfl, hR, hb⟩
theorem IdRd.news {w : World} {ad : Addr} {ids : List (List UInt8)} (h : IdRd w (some ad) ids) : ∀ j u, (idsV ids)[j]? = some u → w.cell? (ad.add j) = some u := by
  intro j u hj
  rcases h.2 with rfl | ⟨g, o, e, hr⟩
  · simp [idsV] at hj
  · cases e
    rw [Addr.add_lit]
    exact hr j u hj
theorem idsV_one (ids : List (List UInt8)) : ∀ u ∈ idsV ids, u.oneCell' = true := by
  intro u hu
  obtain ⟨a, _, h⟩ := List.mem_flatMap.1 hu
  exact u8v_one a u h
theorem same_row (W : World) (A B : Option Addr) (n c m d : Nat) (L : List (List UInt8)) (hA : RowAt W A n c L) (hB : RowAt W B m d L) :
    Calls Try.prog 31 #[.slice A n c, .slice B m d] W fun e w' => e = .returned (.bool true) ∧ Below W.heap.size W w' := by
  have h := rsame_any A B n c m d L L W hA.r hB.r
  rw [decide_eq_true rfl] at h
  exact h
set_option maxRecDepth 100000 in
set_option maxHeartbeats 20000000 in
theorem idSets_any (w : World) (A B : Option Addr) (n c m d : Nat) (l r : List (List UInt8)) (hA0 : IdRow w A n l) (hB0 : IdRow w B m r) :
    Calls Try.prog 8 #[.slice A n c, .slice B m d] w fun e w' => e = .returned (.bool true) ∧ Below w.heap.size w w' := by
  obtain ⟨hn, hn2, hrl⟩ := hA0
  obtain ⟨hm, hm2, hrr⟩ := hB0
  unfold maxLen at hn2 hm2
  by_cases hl1 : n ≤ 40
  · have l1 : ¬ (40 : Int) < n := by omega
    by_cases hl2 : m ≤ 40
    · have l2 : ¬ (40 : Int) < m := by omega
      have hA : RowR w A n l := ⟨hn, by omega, hrl⟩
      have hB : RowR w B m r := ⟨hm, by omega, hrr⟩
      have hla := sortL_le l
      have hlb := sortL_le r
      rw [hn] at hla
      rw [hm] at hlb
      have ra := rising_sortL l
      have rb := rising_sortL r
      have cSl : ∀ W : World, Below w.heap.size w W → Calls Try.prog 32 #[.slice A n c] W fun e w' => ∃ ad' n' c', e = .returned (.slice (some ad') n' c') ∧ RowAt w' (some ad') n' c' (sortL l) ∧ Below W.heap.size W w' := fun W h => rsort_any A n c l W (hA.below h) (by omega)
      have cSr : ∀ W : World, Below w.heap.size w W → Calls Try.prog 32 #[.slice B m d] W fun e w' => ∃ ad' n' c', e = .returned (.slice (some ad') n' c') ∧ RowAt w' (some ad') n' c' (sortL r) ∧ Below W.heap.size W w' := fun W h => rsort_any B m d r W (hB.below h) (by omega)
      have hB00 := Below.refl w.heap.size w
      obtain ⟨la, hLa⟩ : ∃ x, x = sortL l := ⟨_, rfl⟩
      obtain ⟨lb, hLb⟩ : ∃ x, x = sortL r := ⟨_, rfl⟩
      rw [← hLa] at hla ra cSl
      rw [← hLb] at hlb rb cSr
      obtain ⟨j0, hj, hjz, hjs, hjb⟩ := infoId2_parts
      clear hn hm hrl hrr hLa hLb
      go_enter Try.func8, Try.ntmps8
      go_wp2_with (first
        | (go_at_call 32; (with_reducible refine (cSl _ hB00).mono ?_); rintro e1 w1 ⟨ad1, n1, c1, rfl, hR1, hb1⟩)
        | (go_at_call 32; (with_reducible refine (cSr _ hb1).mono ?_); rintro e2 w2 ⟨ad2, n2, c2, rfl, hR2, hb2⟩; replace hR1 := hR1.below hb2; have hbb := hb1.trans (hb2.mono hb1.size); have hR1x := hR1.below ((Below.refl w2.heap.size w2).alloc (Nat.le_refl _) (.cells #[] 29)); have own0 : (w2.alloc (.cells #[] 29)).ownsRow w2.heap.size 29 32 (.slice (some ⟨w2.heap.size, 0, none⟩) 0 0) 0 [] := World.ownsRow_made w2 #[] 0 (Nat.le_refl _) (by decide) rfl)
        | (at_builtin; refine wpList_append_own _ rfl _ _ 35 rfl w2.heap.size 29 j0 (.agg (idVals zeroB)) 32 32 Try.underlying35 hj hjz hjs hjb rfl (by decide) _ _ _ rfl own0 ad1 n1 c1 (idsV la) rfl ?l1 (IdRd.news hR1x.2.2.2.2) (idsV_one la) ?l2 ?l3 ?l4 ?_))
      case l1 => rw [idsV_length la hR1.2.2.2.2.1, hR1.1]
      case l2 => unfold maxLen; have := hR1.1; omega
      case l3 => have := hR1.1; omega
      case l4 => simp
      intro v8 w8 hown8 hg8 _
      have s1 : n1 ≤ 40 := by have := hR1.1; omega
      have s2 : n2 ≤ 40 := by have := hR2.1; omega
      have hr2 := Below.refl w2.heap.size w2
      have hB8 := (hr2.alloc hr2.size _).grown hg8 (hr2.alloc hr2.size _).size (fun k hk => (own0.lt k hk).1)
      have hR28 := hR2.below hB8
      clear hg8 own0 hR1x cSl cSr hB00 hla hlb
      go_wp2_with (first
        | (at_builtin; refine wpList_append_own _ rfl _ _ 35 rfl w2.heap.size 29 j0 (.agg (idVals zeroB)) 32 32 Try.underlying35 hj hjz hjs hjb rfl (by decide) _ _ _ rfl hown8 ad2 n2 c2 (idsV lb) rfl ?m1 (IdRd.news hR28.2.2.2.2) (idsV_one lb) ?m2 ?m3 ?m4 ?_))
      case m1 => rw [idsV_length lb hR2.2.2.2.2.1, hR2.1]
      case m2 => unfold maxLen; omega
      case m3 => omega
      case m4 => exact hB8.size
      intro v9 w9 hown9 hg9 _
      have hB9 := hB8.grown hg9 hB8.size (fun k hk => (hown8.lt k hk).1)
      have hRa := hR1.below hB9
      have hRb := hR2.below hB9
      have hlA := (hA.below hbb).below hB9
      have hlB := (hB.below hbb).below hB9
      obtain ⟨A9, c9, rfl, hR9⟩ := RowAt.own (ids := la ++ lb) (by rw [idsV_append]; exact hown9) (fun x hx => (List.mem_append.1 hx).elim (hRa.2.2.2.2.1 x) (hRb.2.2.2.2.1 x)) (by omega)
      have hBw := hbb.trans (hB9.mono hbb.size)
      have hW := Below.refl w9.heap.size w9
      clear hR1 hR2 hR28 hown8 hown9 hg9 hB8 hB9 hbb hb1 hb2 hA hB
      have cU : ∀ W, Below w9.heap.size w9 W → Calls Try.prog 38 #[.slice (some ad1) n1 c1, .slice (some ad2) n2 c2] W fun e w' => ∃ A' n' c', e = .returned (.slice A' n' c') ∧ RowAt w' A' n' c' (sortL (la ++ lb)) ∧ Below W.heap.size W w' := fun W h => union_row _ _ _ _ _ _ _ _ W (hRa.below h) (hRb.below h) ra rb (by omega)
      have cSa : ∀ W, Below w9.heap.size w9 W → Calls Try.prog 32 #[.slice A9 (n1 + n2) c9] W fun e w' => ∃ ad' n' c', e = .returned (.slice (some ad') n' c') ∧ RowAt w' (some ad') n' c' (sortL (la ++ lb)) ∧ Below W.heap.size W w' := fun W h => rsort_any A9 (n1 + n2) c9 (la ++ lb) W (hR9.below h).r (by omega)
      have cM : ∀ W, Below w9.heap.size w9 W → Calls Try.prog 39 #[.slice (some ad1) n1 c1, .slice (some ad2) n2 c2] W fun e w' => ∃ A' n' c', e = .returned (.slice A' n' c') ∧ RowAt w' A' n' c' (la.filter (fun x => decide (x ∈ lb) == false)) ∧ Below W.heap.size W w' := fun W h => minus_row _ _ _ _ _ _ _ _ W (hRa.below h) (hRb.below h) ra rb
      have cB : ∀ W, Below w9.heap.size w9 W → Calls Try.prog 41 #[.slice (some ad1) n1 c1, .slice (some ad2) n2 c2] W fun e w' => ∃ A' n' c', e = .returned (.slice A' n' c') ∧ RowAt w' A' n' c' (la.filter (fun x => decide (x ∈ lb) == true)) ∧ Below W.heap.size W w' := fun W h => both_row _ _ _ _ _ _ _ _ W (hRa.below h) (hRb.below h) ra rb
      have cOf : ∀ W, Below w9.heap.size w9 W → Calls Try.prog 40 #[.slice (some ad1) n1 c1, .slice (some ad2) n2 c2, .bool false] W fun e w' => ∃ A' n' c', e = .returned (.slice A' n' c') ∧ RowAt w' A' n' c' (la.filter (fun x => decide (x ∈ lb) == false)) ∧ Below W.heap.size W w' := fun W h => ronly_any _ _ _ _ _ _ _ _ false W (hRa.below h) (hRb.below h) (by omega)
      have cOt : ∀ W, Below w9.heap.size w9 W → Calls Try.prog 40 #[.slice (some ad1) n1 c1, .slice (some ad2) n2 c2, .bool true] W fun e w' => ∃ A' n' c', e = .returned (.slice A' n' c') ∧ RowAt w' A' n' c' (la.filter (fun x => decide (x ∈ lb) == true)) ∧ Below W.heap.size W w' := fun W h => ronly_any _ _ _ _ _ _ _ _ true W (hRa.below h) (hRb.below h) (by omega)
      have cI1 : ∀ W, Below w9.heap.size w9 W → Calls Try.prog 42 #[.slice (some ad1) n1 c1, .slice (some ad2) n2 c2] W fun e w' => e = .returned (.bool (decide (la = lb))) ∧ Below W.heap.size W w' := fun W h => isame_any _ _ _ _ _ _ _ _ W (hRa.below h).r (hRb.below h).r
      have cI2 : ∀ W, Below w9.heap.size w9 W → Calls Try.prog 31 #[.slice (some ad1) n1 c1, .slice (some ad2) n2 c2] W fun e w' => e = .returned (.bool (decide (la = lb))) ∧ Below W.heap.size W w' := fun W h => rsame_any _ _ _ _ _ _ _ _ W (hRa.below h).r (hRb.below h).r
      have cI3 : ∀ W, Below w9.heap.size w9 W → Calls Try.prog 42 #[.slice A n c, .slice B m d] W fun e w' => e = .returned (.bool (decide (l = r))) ∧ Below W.heap.size W w' := fun W h => isame_any _ _ _ _ _ _ _ _ W (hlA.below h) (hlB.below h)
      have cI4 : ∀ W, Below w9.heap.size w9 W → Calls Try.prog 31 #[.slice A n c, .slice B m d] W fun e w' => e = .returned (.bool (decide (l = r))) ∧ Below W.heap.size W w' := fun W h => rsame_any _ _ _ _ _ _ _ _ W (hlA.below h) (hlB.below h)
      clear hRa hRb hlA hlB hR9
      generalize sortL (la ++ lb) = LU at *
      generalize la.filter (fun x => decide (x ∈ lb) == false) = LM at *
      generalize la.filter (fun x => decide (x ∈ lb) == true) = LB at *
      generalize decide (la = lb) = T1 at *
      generalize decide (l = r) = T2 at *
      generalize n1 + n2 = n9 at *
      go_wp2_with (first
        | (go_at_call 38; (with_reducible refine (cU _ hW).mono ?_); rintro e10 w10 ⟨A10, n10, c10, rfl, hX, hb10⟩; replace hW := hW.trans (hb10.mono hW.size))
        | (go_at_call 39; (with_reducible refine (cM _ hW).mono ?_); rintro e10 w10 ⟨A10, n10, c10, rfl, hX, hb10⟩; replace hW := hW.trans (hb10.mono hW.size))
        | (go_at_call 41; (with_reducible refine (cB _ hW).mono ?_); rintro e10 w10 ⟨A10, n10, c10, rfl, hX, hb10⟩; replace hW := hW.trans (hb10.mono hW.size))
        | (go_at_call 32; (with_reducible refine (cSa _ hW).mono ?_); rintro e11 w11 ⟨A11, n11, c11, rfl, hY, hb11⟩; replace hX := hX.below hb11; replace hW := hW.trans (hb11.mono hW.size))
        | (go_at_call 40; (with_reducible refine (cOf _ hW).mono ?_); rintro e11 w11 ⟨A11, n11, c11, rfl, hY, hb11⟩; replace hX := hX.below hb11; replace hW := hW.trans (hb11.mono hW.size))
        | (go_at_call 40; (with_reducible refine (cOt _ hW).mono ?_); rintro e11 w11 ⟨A11, n11, c11, rfl, hY, hb11⟩; replace hX := hX.below hb11; replace hW := hW.trans (hb11.mono hW.size))
        | (go_at_call 31; (with_reducible refine (same_row _ _ _ _ _ _ _ _ hX hY).mono ?_); rintro e12 w12 ⟨rfl, hb12⟩; replace hW := hW.trans (hb12.mono hW.size); clear hX hY)
        | (go_at_call 42; (with_reducible refine (cI1 _ hW).mono ?_); rintro e13 w13 ⟨rfl, hb13⟩; replace hW := hW.trans (hb13.mono hW.size))
        | (go_at_call 31; (with_reducible refine (cI2 _ hW).mono ?_); rintro e13 w13 ⟨rfl, hb13⟩; replace hW := hW.trans (hb13.mono hW.size))
        | (go_at_call 42; (with_reducible refine (cI3 _ hW).mono ?_); rintro e13 w13 ⟨rfl, hb13⟩; replace hW := hW.trans (hb13.mono hW.size))
        | (go_at_call 31; (with_reducible refine (cI4 _ hW).mono ?_); rintro e13 w13 ⟨rfl, hb13⟩; replace hW := hW.trans (hb13.mono hW.size))
        | (go_at_call 19; (with_reducible refine (awake4_any _).mono ?_); rintro e14 w14 ⟨rfl, hb14⟩; replace hW := hW.trans (hb14.mono hW.size)))
      go_ret
      exact ⟨rfl, hBw.trans (hW.mono hBw.size)⟩
    · have l2 : (40 : Int) < m := by omega
      go_enter Try.func8, Try.ntmps8
      go_wp2_with (first
        | (go_at_call 19; (with_reducible refine (awake4_any _).mono ?_); rintro e1 w1 ⟨rfl, hb1⟩))
      go_ret
      exact ⟨rfl, hb1⟩
  · have l1 : (40 : Int) < n := by omega
    go_enter Try.func8, Try.ntmps8
    go_wp2_with (first
      | (go_at_call 19; (with_reducible refine (awake4_any _).mono ?_); rintro e1 w1 ⟨rfl, hb1⟩))
    go_ret
    exact ⟨rfl, hb1⟩
set_option linter.unusedVariables false in
theorem law_IdSets (w : World) (a0 : Option Addr) (l0 c0 : Nat) (z0 : List (List UInt8)) (w0 : IdRow w a0 l0 z0) (a1 : Option Addr) (l1 c1 : Nat) (z1 : List (List UInt8)) (w1 : IdRow w a1 l1 z1) :
    Calls Try.prog 8 #[.slice a0 l0 c0, .slice a1 l1 c1] w fun e w' => e = .returned (.bool true) ∧ Below w.heap.size w w' :=
  idSets_any w a0 a1 l0 c0 l1 c1 z0 z1 w0 w1

open Go.ChangeShapes Go.WideShapes Go.ChangeAt
open Go.ChangeMaps (open_string shut_string)
theorem own_IdSets : ownKnob Try.prog.godebug = none := by kernel_rfl
theorem laidOut_IdSets : laidOutB Try.prog = true := by kernel_rfl
set_option linter.unusedVariables false in
set_option maxRecDepth 100000 in
theorem lifted_IdSets (os : Os) (started : os.Started) (H : Type) (enc : TypeId × Value → H) :
    ReturnsInHanded {} Try.checked os 8 .any (Rows.idSetsSpec.pre6 enc Try.prog Try.f8 Rows.idSetsRow.domain false) (Rows.idSetsSpec.post enc Try.prog Try.f8 false true false false) := by
  refine returnsInHanded_of_change (C := Try.checked) own_IdSets started (by kernel_rfl) Try.func8
    (ChangeSpec.witness6 (enc := enc) (C := Try.checked) false ⟨#[], #[.slice none 0 0, .slice none 0 0], []⟩ 8 (by kernel_rfl) (by kernel_rfl) (by kernel_rfl) (by kernel_rfl)) ?_
  intro W base args ds gs before hval0 hW hcnd _
  have hval : ∀ (j : Nat) t v, Try.f8.params[j]? = some t → args[j]? = some v → Value.okWide Try.prog W .any base t v := hval0
  have hW' := hW
  obtain ⟨p, q, hA0, hV, rfl, hfz, hnd⟩ := hW
  have hA1 : DataW.TrodAll enc Try.prog W 0 (fun _ => true) true Try.f8.params.toList args.toList ds p := hA0
  have hA : DataW.TrodAll enc Try.prog W 0 (fun _ => true) true Try.f8.params.toList args.toList ds p := hA0
  rw [Try.params8] at hA hval
  obtain ⟨v0, vs0, d0, ds0, p0, q0, hargs, rfl, rfl, h0, r0⟩ := trodAll_cons hA
  obtain ⟨v1, vs1, d1, ds1, p1, q1, rfl, rfl, rfl, h1, r1⟩ := trodAll_cons r0
  obtain ⟨rfl, rfl, rfl⟩ := trodAll_nil r1
  obtain rfl : args = #[v0, v1] := by cases args; simp_all
  obtain ⟨rfl, rfl⟩ := trodVars_none hV
  obtain ⟨a0, l0, c0, z0, rfl, w0⟩ := open_idRow Try.underlying35 Try.underlying29 Try.underlying5 (by kernel_rfl) (by kernel_rfl) (hval 0 35 v0 rfl rfl) h0
  obtain ⟨a1, l1, c1, z1, rfl, w1⟩ := open_idRow Try.underlying35 Try.underlying29 Try.underlying5 (by kernel_rfl) (by kernel_rfl) (hval 1 35 v1 rfl rfl) h1
  clear hA0 hval0
  refine (law_IdSets W a0 l0 c0 z0 w0 a1 l1 c1 z1 w1).mono fun e W' ⟨he, bel⟩ => ?_
  subst he
  exact ⟨_, rfl, _, _, _, [], _, [], hW', trodAll_mk1 (shut_bool Try.underlying4 _), trodAll_stays laidOut_IdSets bel (by kernel_rfl) hA1, rfl, bel.frame _, fun h => by cases h⟩

/-- The statement. -/
theorem IdSets_holds : Rows.IdSetsSaid :=
  OpenClaim.holds_of_wide 8 Try.f8 rfl rfl rfl rfl rfl rfl rfl ⟨rfl, rfl, rfl, rfl, rfl⟩ rfl rfl rfl rfl rfl (by kernel_rfl) Try.func8 (by kernel_rfl)
    (of_decide_eq_true (by kernel_rfl)) (by unfold Func.isWrapper; first | (rw [if_pos (by decide +kernel)]; kernel_rfl) | (rw [if_neg (by decide +kernel)]; exact ⟨rfl, rfl⟩))
    (fun os started H enc _ => lifted_IdSets os started H enc)
#print axioms IdSets_holds

end Go.Proofs.Ytlobagjeiocolaa

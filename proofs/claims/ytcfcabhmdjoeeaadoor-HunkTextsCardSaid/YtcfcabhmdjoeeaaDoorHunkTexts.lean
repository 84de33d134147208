
/- For any lines l and any text s: hunk.Text(l) is the text that the document says, hunk.Split(s) the lines that it says, or ErrForm and none where it says none; and lines of a text are that text. The card ties the two listed tables of unicode/utf8 to their text; the call does not read them. No condition beyond the statement's own. -/
import Derived.Test.YtcfcabhmdjoeeaaDoorTx3
import Derived.Test.YtcfcabhmdjoeeaaDoorHk8
import Derived.Test.YtcfcabhmdjoeeaaDoorRows
import Derived.Test.YtcfcabhmdjoeeaaDoorCards
import Derived.Test.YtcfcabhmdjoeeaaDoorTie
import Derived.ProofKit
import Derived.OpenShut
import Derived.LaidMore
import Derived.Lay
import Derived.SevenTiedAt
import Derived.Stop.Joined
import Derived.ChangeShapes
set_option linter.unusedSimpArgs false
set_option linter.unusedVariables false
namespace Go.Proofs.YtcfcabhmdjoeeaaDoor
open Go.RowKit Go.Qc Go.Shelf
attribute [local go_sem] txt_size txt_append ib_fold txt_toL
/-- Lines that are read. -/
def LnD (W : World) (A : Option Addr) (n : Nat) (L : List (List UInt8)) : Prop := L.length = n ∧ Rd W A (L.map strV)
theorem LnD.below {W W' : World} {A : Option Addr} {n : Nat} {L : List (List UInt8)} (h : LnD W A n L) (hb : Below W.heap.size W W') : LnD W' A n L := ⟨h.1, h.2.below hb⟩
theorem same_lnD {W : World} {A B : Option Addr} {n m c d : Nat} {L : List (List UInt8)} (h : LnD W A n L) (h' : LnD W B m L) (hn : L.length ≤ 1000) : Calls Tryd.prog 10 #[.slice A n c, .slice B m d] W fun e w' => e = .returned (.bool true) ∧ Below W.heap.size W w' := by
  have := same_any A B n m c d L L h.1 h'.1 (by have := h.1; omega) (by have := h'.1; omega) W h.2 h'.2
  rwa [decide_eq_true rfl] at this
theorem textL_len (L : List (List UInt8)) (N : Nat) (h : ∀ x ∈ L, x.length ≤ N) : (textL L).length ≤ L.length * (N + 1) := by
  induction L with
  | nil => simp [textL]
  | cons a t ih =>
    have h1 := h a (by simp)
    have h2 := ih (fun x hx => h x (by simp [hx]))
    simp only [textL, List.flatMap_cons, List.length_append, List.length_singleton, List.length_cons, List.length_nil] at h2 ⊢
    rw [Nat.succ_mul]
    omega
theorem splD_text {s : List UInt8} (h : (splD s).2 = true) : textL (splD s).1 = s := by
  by_cases h0 : s = []
  · subst h0; rw [splD_nil]; rfl
  · by_cases hr : ∃ r, s = r ++ [10]
    · obtain ⟨r, rfl⟩ := hr
      rw [splD_end]; exact textL_pcs r
    · rw [splD_open h0 (fun r e => hr ⟨r, e⟩)] at h; cases h
theorem splD_lines {s : List UInt8} (h : (splD s).2 = true) : (splD s).1.length ≤ 1000 := by
  unfold splD at h ⊢
  simp only [Bool.and_eq_true] at h
  have := h.2
  unfold linesR at this
  rw [Bool.and_eq_true, decide_eq_true_eq] at this
  exact this.1

set_option maxRecDepth 100000 in
set_option maxHeartbeats 40000000 in
theorem ht_long (A : Option Addr) (n c : Nat) (s : List UInt8) (w : World) (cF : Calls Tryd.prog 4 #[.slice (some ⟨w.heap.size, 0, none⟩) 1 1] (w.alloc (.cells #[.slice A n c] 22)) fun e w' => e = .returned (.bool true) ∧ Below w.heap.size w w') : Calls Tryd.prog 3 #[.slice A n c, .string (txt s)] w fun e w' => e = .returned (.bool true) ∧ Below w.heap.size w w' := by
  go_enter Tryd.func3, Tryd.ntmps3
  go_wp2_with (first
    | (go_at_call 4; (with_reducible refine cF.mono ?_); rintro o1 w1 ⟨rfl, hx⟩)
    | (go_at_call 5; (with_reducible refine (awake11_any _).mono ?_); rintro o9 w9 ⟨rfl, hb9⟩; have hx9 := hx.trans (hb9.mono hx.size)))
  go_ret
  exact ⟨rfl, hx9⟩

set_option maxRecDepth 100000 in
set_option maxHeartbeats 40000000 in
theorem ht_far (A : Option Addr) (n c : Nat) (s : List UInt8) (w : World) (h6 : 600 < s.length) (cF : Calls Tryd.prog 4 #[.slice (some ⟨w.heap.size, 0, none⟩) 1 1] (w.alloc (.cells #[.slice A n c] 22)) fun e w' => e = .returned (.bool false) ∧ Below w.heap.size w w') : Calls Tryd.prog 3 #[.slice A n c, .string (txt s)] w fun e w' => e = .returned (.bool true) ∧ Below w.heap.size w w' := by
  have b1 : (600 : Int) < s.length := by omega
  go_enter Tryd.func3, Tryd.ntmps3
  go_wp2_with (first
    | (go_at_call 4; (with_reducible refine cF.mono ?_); rintro o1 w1 ⟨rfl, hx⟩)
    | (go_at_call 5; (with_reducible refine (awake11_any _).mono ?_); rintro o9 w9 ⟨rfl, hb9⟩; have hx9 := hx.trans (hb9.mono hx.size)))
  go_ret
  exact ⟨rfl, hx9⟩

set_option maxRecDepth 100000 in
set_option maxHeartbeats 40000000 in
theorem ht_no (A : Option Addr) (n c : Nat) (s : List UInt8) (w : World) (t : ByteArray) (h6 : ¬ 600 < s.length) (cF : Calls Tryd.prog 4 #[.slice (some ⟨w.heap.size, 0, none⟩) 1 1] (w.alloc (.cells #[.slice A n c] 22)) fun e w' => e = .returned (.bool false) ∧ Below w.heap.size w w') (cS : ∀ W, Below w.heap.size w W → Calls Tryd.prog 6 #[.string (txt s)] W fun e w' => ∃ A3 c3, e = .returned (.tuple #[.slice A3 0 c3, .int .i64 3]) ∧ Below W.heap.size W w') (cR : ∀ W, Below w.heap.size w W → Calls Tryd.prog 7 #[.string (txt s)] W fun e w' => ∃ A3 n3 c3, e = .returned (.tuple #[.slice A3 n3 c3, .bool false]) ∧ Below W.heap.size W w') (cT : ∀ W, Below w.heap.size w W → Calls Tryd.prog 8 #[.slice A n c] W fun e w' => e = .returned (.string t) ∧ Below W.heap.size W w') (cU : ∀ W, Below w.heap.size w W → Calls Tryd.prog 9 #[.slice A n c] W fun e w' => e = .returned (.string t) ∧ Below W.heap.size W w') : Calls Tryd.prog 3 #[.slice A n c, .string (txt s)] w fun e w' => e = .returned (.bool true) ∧ Below w.heap.size w w' := by
  have b1 : ¬ (600 : Int) < s.length := by omega
  go_enter Tryd.func3, Tryd.ntmps3
  go_wp2_with (first
    | (go_at_call 4; (with_reducible refine cF.mono ?_); rintro o1 w1 ⟨rfl, hx⟩)
    | (go_at_call 6; (with_reducible refine (cS _ hx).mono ?_); rintro o2 w2 ⟨A3, c3, rfl, hb⟩; replace hx := hx.trans (hb.mono hx.size); clear hb)
    | (go_at_call 7; (with_reducible refine (cR _ hx).mono ?_); rintro o3 w3 ⟨A4, n4, c4, rfl, hb⟩; replace hx := hx.trans (hb.mono hx.size); clear hb)
    | (go_at_call 8; (with_reducible refine (cT _ hx).mono ?_); rintro o4 w4 ⟨rfl, hb⟩; replace hx := hx.trans (hb.mono hx.size); clear hb)
    | (go_at_call 9; (with_reducible refine (cU _ hx).mono ?_); rintro o5 w5 ⟨rfl, hb⟩; replace hx := hx.trans (hb.mono hx.size); clear hb)
    | (go_at_call 5; (with_reducible refine (awake11_any _).mono ?_); rintro o9 w9 ⟨rfl, hb9⟩; have hx9 := hx.trans (hb9.mono hx.size)))
  go_ret
  exact ⟨rfl, hx9⟩

set_option maxRecDepth 100000 in
set_option maxHeartbeats 40000000 in
theorem ht_ok (A : Option Addr) (n c : Nat) (s : List UInt8) (w : World) (t : ByteArray) (L : List (List UInt8)) (hL : L.length ≤ 1000) (h6 : ¬ 600 < s.length) (cF : Calls Tryd.prog 4 #[.slice (some ⟨w.heap.size, 0, none⟩) 1 1] (w.alloc (.cells #[.slice A n c] 22)) fun e w' => e = .returned (.bool false) ∧ Below w.heap.size w w') (cS : ∀ W, Below w.heap.size w W → Calls Tryd.prog 6 #[.string (txt s)] W fun e w' => ∃ A3 n3 c3, e = .returned (.tuple #[.slice A3 n3 c3, .int .i64 0]) ∧ LnD w' A3 n3 L ∧ Below W.heap.size W w') (cR : ∀ W, Below w.heap.size w W → Calls Tryd.prog 7 #[.string (txt s)] W fun e w' => ∃ A3 n3 c3, e = .returned (.tuple #[.slice A3 n3 c3, .bool true]) ∧ LnD w' A3 n3 L ∧ Below W.heap.size W w') (cT : ∀ W, Below w.heap.size w W → Calls Tryd.prog 8 #[.slice A n c] W fun e w' => e = .returned (.string t) ∧ Below W.heap.size W w') (cU : ∀ W, Below w.heap.size w W → Calls Tryd.prog 9 #[.slice A n c] W fun e w' => e = .returned (.string t) ∧ Below W.heap.size W w') (cV : ∀ W A3 n3 c3, LnD W A3 n3 L → Calls Tryd.prog 8 #[.slice A3 n3 c3] W fun e w' => e = .returned (.string (txt s)) ∧ Below W.heap.size W w') : Calls Tryd.prog 3 #[.slice A n c, .string (txt s)] w fun e w' => e = .returned (.bool true) ∧ Below w.heap.size w w' := by
  have b1 : ¬ (600 : Int) < s.length := by omega
  go_enter Tryd.func3, Tryd.ntmps3
  go_wp2_with (first
    | (go_at_call 4; (with_reducible refine cF.mono ?_); rintro o1 w1 ⟨rfl, hx⟩)
    | (go_at_call 6; (with_reducible refine (cS _ hx).mono ?_); rintro o2 w2 ⟨A3, n3, c3, rfl, x1, hb⟩; replace hx := hx.trans (hb.mono hx.size); clear hb)
    | (go_at_call 7; (with_reducible refine (cR _ hx).mono ?_); rintro o3 w3 ⟨A4, n4, c4, rfl, x2, hb⟩; replace x1 := x1.below hb; replace hx := hx.trans (hb.mono hx.size); clear hb)
    | (go_at_call 8; (with_reducible refine (cT _ hx).mono ?_); rintro o4 w4 ⟨rfl, hb⟩; replace x1 := x1.below hb; replace x2 := x2.below hb; replace hx := hx.trans (hb.mono hx.size); clear hb)
    | (go_at_call 9; (with_reducible refine (cU _ hx).mono ?_); rintro o5 w5 ⟨rfl, hb⟩; replace x1 := x1.below hb; replace x2 := x2.below hb; replace hx := hx.trans (hb.mono hx.size); clear hb)
    | (go_at_call 10; (with_reducible refine (same_lnD x1 x2 hL).mono ?_); rintro o6 w6 ⟨rfl, hb⟩; replace x1 := x1.below hb; replace hx := hx.trans (hb.mono hx.size); clear hb)
    | (go_at_call 8; (with_reducible refine (cV _ _ _ _ x1).mono ?_); rintro o7 w7 ⟨rfl, hb⟩; replace hx := hx.trans (hb.mono hx.size); clear hb)
    | (go_at_call 5; (with_reducible refine (awake11_any _).mono ?_); rintro o9 w9 ⟨rfl, hb9⟩; have hx9 := hx.trans (hb9.mono hx.size)))
  go_ret
  exact ⟨rfl, hx9⟩

theorem hunkTexts_any (A : Option Addr) (n c : Nat) (L : List (List UInt8)) (s : List UInt8) (w : World) (hl : LnRow w A n c L) (hs : s.length ≤ 9223372036854775807) :
    Calls Tryd.prog 3 #[.slice A n c, .string (txt s)] w fun e w' => e = .returned (.bool true) ∧ Below w.heap.size w w' := by
  obtain ⟨l1, l2, l3, l4, l5, l6⟩ := hl
  have hB : Below w.heap.size w (w.alloc (.cells #[.slice A n c] 22)) := (Below.refl _ w).alloc (Nat.le_refl _) _
  have hk := Blk.new w 22 #[.slice A n c]
  have cF : Calls Tryd.prog 4 #[.slice (some ⟨w.heap.size, 0, none⟩) 1 1] (w.alloc (.cells #[.slice A n c] 22)) fun e w' => e = .returned (.bool (longL L)) ∧ Below w.heap.size w w' := by
    have := long11_any ⟨w.heap.size, 0, none⟩ 1 1 [(.slice A n c, L)] rfl (by decide) (by
      intro x hx
      simp only [List.mem_cons, List.not_mem_nil, or_false] at hx
      rw [hx]
      exact l1 ▸ l4) _ (by
      intro j x hx
      match j, hx with
      | 0, hx => cases hx; exact ⟨hk.cell_ (i := 0) rfl, A, n, c, rfl, l1, l3, l5.below hB⟩
      | j + 1, hx => simp at hx)
    refine this.mono ?_
    rintro e w' ⟨rfl, rfl⟩
    exact ⟨by simp, hB⟩
  cases hlo : longL L with
  | true => rw [hlo] at cF; exact ht_long A n c s w cF
  | false =>
    rw [hlo] at cF
    by_cases h6 : 600 < s.length
    · exact ht_far A n c s w h6 cF
    · have hsh : L.length ≤ 60 ∧ ∀ x ∈ L, x.length ≤ 300 := by
        unfold longL at hlo
        simp only [Bool.or_eq_false_iff, decide_eq_false_iff_not, List.any_eq_false, decide_eq_true_eq] at hlo
        exact ⟨by omega, fun x hx => by have := hlo.2 x hx; omega⟩
      have ht : (textL L).length ≤ 1000000000000 := by
        have := textL_len L 300 hsh.2
        have : L.length * 301 ≤ 60 * 301 := Nat.mul_le_mul_right _ hsh.1
        omega
      have cT : ∀ W, Below w.heap.size w W → Calls Tryd.prog 8 #[.slice A n c] W fun e w' => e = .returned (.string (txt (textL L))) ∧ Below W.heap.size W w' := fun W h => htext_any A n c L l1 l4 ht W (l5.below h)
      have cU : ∀ W, Below w.heap.size w W → Calls Tryd.prog 9 #[.slice A n c] W fun e w' => e = .returned (.string (txt (textL L))) ∧ Below W.heap.size W w' := fun W h => rtext11_any A n c L l1 l4 ht W (l5.below h)
      cases hok : (splD s).2 with
      | false =>
        refine ht_no A n c s w (txt (textL L)) h6 cF (fun W h => ?_) (fun W h => ?_) cT cU
        · refine (hsplit_any s (by omega) W).mono ?_
          rintro e w' ⟨A3, n3, c3, rfl, h1, h2, h3⟩
          rw [hok] at h1
          obtain rfl : n3 = 0 := h1.symm
          exact ⟨A3, c3, by rw [hok]; rfl, h3⟩
        · refine (rsplit11_any s (by omega) W).mono ?_
          rintro e w' ⟨A3, n3, c3, rfl, h1, h2, h3⟩
          exact ⟨A3, n3, c3, by rw [hok], h3⟩
      | true =>
        have hte := splD_text hok
        refine ht_ok A n c s w (txt (textL L)) (splD s).1 (splD_lines hok) h6 cF (fun W h => ?_) (fun W h => ?_) cT cU (fun W A3 n3 c3 h => ?_)
        · refine (hsplit_any s (by omega) W).mono ?_
          rintro e w' ⟨A3, n3, c3, rfl, h1, h2, h3⟩
          rw [hok, if_pos rfl] at h1 h2
          exact ⟨A3, n3, c3, by rw [hok]; rfl, ⟨h1, h2⟩, h3⟩
        · refine (rsplit11_any s (by omega) W).mono ?_
          rintro e w' ⟨A3, n3, c3, rfl, h1, h2, h3⟩
          exact ⟨A3, n3, c3, by rw [hok], ⟨h1, h2⟩, h3⟩
        · have := htext_any A3 n3 c3 (splD s).1 h.1 (by have := h.1; have := splD_lines hok; omega) (by rw [hte]; omega) W h.2
          rwa [hte] at this

section
open Go.ChangeShapes Go.WideShapes Go.ChangeAt
open Go.ChangeMaps (open_string shut_string)
theorem own_HunkTexts : ownKnob Tryd.prog.godebug = none := by kernel_rfl
theorem laidOut_HunkTexts : laidOutB Tryd.prog = true := by kernel_rfl
set_option linter.unusedVariables false in
set_option maxRecDepth 100000 in
theorem lifted_HunkTexts (os : Os) (started : os.Started) (H : Type) (enc : TypeId × Value → H) :
    ReturnsInHanded {} Tryd.checked os 3 .any (fun w args => (Rows.hunkTextsSpec.pre enc Tryd.prog Tryd.f3 Rows.hunkTextsRow.domain false w args ∧ laidMetH Tryd.prog Rows.hunkTextsRow.laid w) ∧ sizedMet enc Tryd.prog Tryd.f3 (OpenSpec.ofChange Rows.hunkTextsSpec) false w args)
      (Rows.hunkTextsSpec.post enc Tryd.prog Tryd.f3 false true false false) := by
  refine returnsInHanded_of_change_and (C := Tryd.checked) (X := fun w _ => laidMetH Tryd.prog Rows.hunkTextsRow.laid w) (fun _ _ _ hh h => h.of_heap hh) own_HunkTexts started (by kernel_rfl) Tryd.func3
    (ChangeSpec.witness_shaped (enc := enc) (C := Tryd.checked) (os := os) (X := fun w _ => laidMetH Tryd.prog Rows.hunkTextsRow.laid w) false (World.laidAll Tryd.prog os Rows.hunkTextsRow.laid) #[.slice none 0 0, .string ⟨#[]⟩] 8 (World.laidAll_os _ _ _)
      (World.shaped_of_ZipB (by kernel_rfl) (by kernel_rfl)) (by kernel_rfl) (by kernel_rfl) (by kernel_rfl)
      (by rw [MakeChecks.laidMetH_plain _ _ _ (by kernel_rfl)]; exact laidMet_laidAll _ (by kernel_rfl) (by kernel_rfl))) ?_
  intro W base args ds gs before hval0 hW hc _ hL _
  have hval : ∀ (j : Nat) t v, Tryd.f3.params[j]? = some t → args[j]? = some v → Value.okWide Tryd.prog W .any base t v := hval0
  have hW' := hW
  obtain ⟨p, q, hA0, hV, rfl, hfz, hnd⟩ := hW
  have hA1 : DataW.TrodAll enc Tryd.prog W 0 (fun _ => true) true Tryd.f3.params.toList args.toList ds p := hA0
  have hA : DataW.TrodAll enc Tryd.prog W 0 (fun _ => true) true Tryd.f3.params.toList args.toList ds p := hA0
  rw [Tryd.params3] at hA hval
  obtain ⟨v0, vs0, d0, ds0, p0, q0, hargs, rfl, rfl, h0, r0⟩ := trodAll_cons hA
  obtain ⟨v1, vs1, d1, ds1, p1, q1, rfl, rfl, rfl, h1, r1⟩ := trodAll_cons r0
  obtain ⟨rfl, rfl, rfl⟩ := trodAll_nil r1
  obtain rfl : args = #[v0, v1] := by cases args; simp_all
  obtain ⟨rfl, rfl⟩ := trodVars_none hV
  obtain ⟨A0, n0, c0, ls, rfl, y0⟩ := open_ln (hval 0 22 v0 rfl rfl) h0
  obtain ⟨a1, rfl, rfl, rfl, w1⟩ := open_string Tryd.underlying9 (hval 1 9 v1 rfl rfl) h1
  obtain ⟨s, rfl⟩ : ∃ s, a1 = txt s := ⟨a1.data.toList, by cases a1; simp [txt]⟩
  have y1 : s.length ≤ 9223372036854775807 := by rw [txt_size] at w1; unfold maxLen at w1; omega
  clear hA0 hval0
  refine (hunkTexts_any A0 n0 c0 ls s W y0 y1).mono fun e W' ⟨he, bel⟩ => ?_
  subst he
  exact ⟨_, rfl, _, _, _, [], _, [], hW', trodAll_mk1 (shut_bool Tryd.underlying4 _), trodAll_stays laidOut_HunkTexts bel (by kernel_rfl) hA1, rfl, bel.frame _, fun h => by cases h⟩
theorem HunkTexts_row : Rows.HunkTextsSaid :=
  OpenClaim.holds_of_wide 3 Tryd.f3 rfl rfl rfl rfl rfl rfl rfl ⟨rfl, rfl, rfl, rfl, rfl⟩ rfl rfl rfl rfl rfl (by kernel_rfl) Tryd.func3 (by kernel_rfl)
    (of_decide_eq_true (by kernel_rfl)) (by unfold Func.isWrapper; first | (rw [if_pos (by decide +kernel)]; kernel_rfl) | (rw [if_neg (by decide +kernel)]; exact ⟨rfl, rfl⟩))
    (fun os started H enc _ => lifted_HunkTexts os started H enc)
/-- The statement. -/
theorem HunkTexts_holds : Rows.HunkTextsCardSaid :=
  Claim7.holds_tied_plain_at .later [] [.data, .pinned] true _ false HunkTexts_row (fun _ h => by cases h) (by kernel_rfl) (fun _ h => by cases h) hunkTexts_row_tie rfl ⟨rfl, rfl⟩ (by kernel_rfl) rfl
    (fun f fn hf hfn => by
      obtain rfl : f = 3 := Option.some.inj ((show Tryd.prog.funcNamed "quitclaim/quitclaimlaw11.HunkTexts" = some 3 by kernel_rfl).symm.trans hf) |>.symm
      obtain rfl : fn = Tryd.f3 := (Option.some.inj (Tryd.func3.symm.trans hfn)).symm
      exact ⟨by kernel_rfl, fun j t ht => by
        rw [Tryd.params3] at ht
        have hm : t ∈ [22, 9] := by simpa using Array.mem_of_getElem? ht
        have hall : ([22, 9].all fun u => !Tryd.prog.wantsStandIn u) = true := by kernel_rfl
        exact (show Tryd.prog.wantsStandIn t = false by simpa using List.all_eq_true.1 hall t hm)⟩)
    (by kernel_rfl)
end
#print axioms HunkTexts_holds
end Go.Proofs.YtcfcabhmdjoeeaaDoor

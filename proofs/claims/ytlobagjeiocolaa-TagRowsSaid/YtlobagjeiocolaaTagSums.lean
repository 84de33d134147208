
/- Proved: for every name and row of parts, quitclaimlaw03.TagSums returns true and leaves its arguments as they were. No conditions. -/
import Derived.Test.YtlobagjeiocolaaTag2
import Derived.Test.YtlobagjeiocolaaKit4
namespace Go.Proofs.Ytlobagjeiocolaa
open Go.RowKit Go.Qc
attribute [local go_sem] txt_size

theorem textB_short (nm : List UInt8) (hnm : nm.length ≤ 600) : ∀ (ps : List (List UInt8)), isLong ps = false → (textB nm ps).length ≤ 1000000000000 := by
  intro ps h
  simp only [isLong, Bool.or_eq_false_iff, List.any_eq_false, decide_eq_true_eq, decide_eq_false_iff_not] at h
  have hb : ∀ (qs : List (List UInt8)), (∀ p ∈ qs, ¬ 300 < p.length) → (qs.flatMap partB).length ≤ 308 * qs.length := by
    intro qs hq
    induction qs with
    | nil => simp
    | cons q qs ih =>
      have h1 := hq q (by simp)
      have h2 := ih (fun p hp => hq p (by simp [hp]))
      rw [List.flatMap_cons, List.length_append, partB_length, List.length_cons]
      omega
  have := hb ps h.1
  simp only [textB, List.length_append, List.length_cons, List.length_nil]
  omega
set_option maxRecDepth 100000 in
set_option maxHeartbeats 1000000 in
theorem tagSums_any (nm : List UInt8) (A : Option Addr) (n c : Nat) (ps : List (List UInt8)) (hn : ps.length = n) (hm : n ≤ 9223372036854775807) (w : World) (hr : Rd w A (ps.map strV)) :
    Calls Try.prog 3 #[.string (txt nm), .slice A n c] w fun e w' => e = .returned (.bool true) ∧ Below w.heap.size w w' := by
  by_cases hl : nm.length ≤ 600
  · have l1 : ¬ (600 : Int) < nm.length := by omega
    cases hL : isLong ps with
    | true =>
      go_enter Try.func3, Try.ntmps3
      go_wp2_with (first
        | (go_at_call 9; (with_reducible refine (long_any A n c ps hn hm _ hr).mono ?_); rw [hL]; rintro e1 w1 ⟨rfl, rfl⟩)
        | (go_at_call 10; (with_reducible refine (awake3_any _).mono ?_); rintro e3 w3 ⟨rfl, hb3⟩))
      go_ret
      exact ⟨rfl, hb3⟩
    | false =>
      have hts := textB_short nm hl ps hL
      by_cases h5 : nm.length ≤ 255
      · obtain ⟨S, hS⟩ : ∃ S, S = tagB nm ps := ⟨_, rfl⟩
        have hSl : S.length = 32 := by rw [hS]; exact tagB_length _ _
        have heq := fun W => (ids_eq W S S hSl hSl).trans (by rw [decide_eq_true rfl])
        have HS := hid hS
        have HSL := hid hSl
        have HTS := hid hts
        have H5 := hid h5
        clear hS hSl hts h5
        have l2 : ¬ (255 : Int) < nm.length := by have := H5.out; omega
        go_enter Try.func3, Try.ntmps3
        go_wp2_with (first
          | (go_at_call 9; (with_reducible refine (long_any A n c ps hn hm _ hr).mono ?_); rw [hL]; rintro e1 w1 ⟨rfl, rfl⟩)
          | (go_at_call 11; (with_reducible refine (text_any nm H5.out A n c ps hn HTS.out _ hr).mono ?_); rintro e1 w1 ⟨rfl, hb1⟩)
          | (go_at_call 12; (with_reducible refine (of_any nm H5.out A n c ps hn HTS.out _ (hr.below hb1)).mono ?_); rw [← HS.out]; rintro e2 w2 ⟨rfl, hb2⟩)
          | (go_at_call 10; (with_reducible refine (awake3_any _).mono ?_); rintro e3 w3 ⟨rfl, hb3⟩)
          | (with_reducible refine wpList_store_blk rfl 29 _ _ rfl _ _ (idVals S) 29 (Blk.new _ _ _) rfl rfl ?c2 ?c3 (idVals_one _) ?_))
        case c2 => rw [idVals_size, HSL.out]; exact sizeId
        case c3 => rw [idVals_size, HSL.out]; rfl
        intro w4 hA4 hg4
        have hb4 := below_new hg4
        clear hg4
        have hB2 := hb1.trans (hb2.mono hb1.size)
        have hB4 := hB2.trans (hb4.mono hB2.size)
        clear hb1 hb2 hb4 hB2
        have hRg := range_blk hA4
        generalize w2.heap.size = k at *
        have hu := Try.underlying29
        have hsz : (Try.prog.info? 29).map (·.size) = some (S.map u8v).length := by rw [List.length_map, HSL.out]; exact sizeId
        have cT : ∀ W, (W.rangeAt k 0 (S.map u8v) ∧ Below w4.heap.size w4 W) → Calls Try.prog 13 #[.string (txt nm), .slice A n c] W fun e w' => e = .returned (.string (txt (textB nm ps))) ∧ (w'.rangeAt k 0 (S.map u8v) ∧ Below w4.heap.size w4 w') := fun W h =>
          (rtext_any nm H5.out A n c ps hn HTS.out _ ((hr.below hB4).below h.2)).mono (by rintro e w' ⟨h1, h2⟩; exact ⟨h1, h.1.below h2, h.2.trans (h2.mono h.2.size)⟩)
        have cO : ∀ W, (W.rangeAt k 0 (S.map u8v) ∧ Below w4.heap.size w4 W) → Calls Try.prog 14 #[.string (txt nm), .slice A n c] W fun e w' => e = .returned (.agg (idVals S)) ∧ (w'.rangeAt k 0 (S.map u8v) ∧ Below w4.heap.size w4 w') := fun W h =>
          (rof_any nm H5.out A n c ps hn HTS.out _ ((hr.below hB4).below h.2)).mono (by rw [← HS.out]; rintro e w' ⟨h1, h2⟩; exact ⟨h1, h.1.below h2, h.2.trans (h2.mono h.2.size)⟩)
        have cA : ∀ W, (W.rangeAt k 0 (S.map u8v) ∧ Below w4.heap.size w4 W) → Calls Try.prog 10 #[] W fun e w' => e = .returned (.bool true) ∧ (w'.rangeAt k 0 (S.map u8v) ∧ Below w4.heap.size w4 w') := fun W h =>
          (awake3_any _).mono (by rintro e w' ⟨h1, h2⟩; exact ⟨h1, h.1.below h2, h.2.trans (h2.mono h.2.size)⟩)
        have hS0 : w4.drew.rangeAt k 0 (S.map u8v) ∧ Below w4.heap.size w4 w4.drew := ⟨hRg, below_drew1 _⟩
        have heq2 : ∀ W, (Op.equalIn 10000 29 (.agg (List.map u8v S).toArray) (.agg (idVals S))).run Try.prog W = .ok true W := heq
        go_wp2
        go_region_held3 (fun w' => w'.rangeAt k 0 (S.map u8v) ∧ Below w4.heap.size w4 w') (assumption)
          (first
            | (go_at_call 13; refine (cT _ (by assumption)).mono ?_; rintro e5 w5 ⟨rfl, hS5⟩)
            | (go_at_call 14; refine (cO _ (by assumption)).mono ?_; rintro e6 w6 ⟨rfl, hS6⟩)
            | (go_at_call 10; refine (cA _ (by assumption)).mono ?_; rintro e7 w7 ⟨rfl, hS7⟩))
        go_wp2
        go_ret
        exact ⟨rfl, hB4.trans (hS7.2.mono hB4.size)⟩
      · have HL5 := hid (show 255 < nm.length by omega)
        have heq := fun W => (ids_eq W zeroB zeroB rfl rfl).trans (by rw [decide_eq_true rfl])
        have HZ := hid (show (idVals zeroB).size = 32 from rfl)
        have l2 : (255 : Int) < nm.length := by omega
        have heq2 : ∀ W, (Op.equalIn 10000 29 (.agg (List.map u8v zeroB).toArray) (.agg #[.int .u8 0, .int .u8 0, .int .u8 0, .int .u8 0, .int .u8 0, .int .u8 0, .int .u8 0, .int .u8 0, .int .u8 0, .int .u8 0, .int .u8 0, .int .u8 0, .int .u8 0, .int .u8 0, .int .u8 0, .int .u8 0, .int .u8 0, .int .u8 0, .int .u8 0, .int .u8 0, .int .u8 0, .int .u8 0, .int .u8 0, .int .u8 0, .int .u8 0, .int .u8 0, .int .u8 0, .int .u8 0, .int .u8 0, .int .u8 0, .int .u8 0, .int .u8 0])).run Try.prog W = .ok true W := heq
        clear h5
        go_enter Try.func3, Try.ntmps3
        go_wp2_with (first
          | (go_at_call 9; (with_reducible refine (long_any A n c ps hn hm _ hr).mono ?_); rw [hL]; rintro e1 w1 ⟨rfl, rfl⟩)
          | (go_at_call 11; (with_reducible refine (text_long nm HL5.out A n c _).mono ?_); rintro e1 w1 ⟨rfl, rfl⟩)
          | (go_at_call 12; (with_reducible refine (of_long nm HL5.out A n c _).mono ?_); rintro e2 w2 ⟨rfl, hb2⟩)
          | (with_reducible refine wpList_store_blk rfl 29 _ _ rfl _ _ (idVals zeroB) 29 (Blk.new _ _ _) rfl rfl ?c2 ?c3 (idVals_one _) ?_))
        case c2 => rw [HZ.out]; exact sizeId
        case c3 => rw [HZ.out]; rfl
        intro w4 hA4 hg4
        have hb4 := below_new hg4
        clear hg4
        have hB4 := hb2.trans (hb4.mono hb2.size)
        clear hb2 hb4
        have hR4 := range_blk hA4
        have hsz : (Try.prog.info? 29).map (·.size) = some (zeroB.map u8v).length := sizeId
        go_wp2_with (first
          | (with_reducible refine wpList_load_if (by with_unfolding_all rfl) 29 _ rfl _ 0 rfl (zeroB.map u8v) _ hR4 Try.underlying29 (by with_unfolding_all rfl) hsz ?_)
          | (go_at_call 10; (with_reducible refine (awake3_any _).mono ?_); rintro e3 w3 ⟨rfl, hb3⟩))
        go_ret
        exact ⟨rfl, hB4.trans (hb3.mono hB4.size)⟩
  · have l1 : (600 : Int) < nm.length := by omega
    have hlg : ∀ W : World, Rd W A (ps.map strV) → Calls Try.prog 9 #[.slice A n c] W fun e w' => (∃ b, e = .returned (.bool b)) ∧ W = w' := fun W h => (long_any A n c ps hn hm W h).mono (by rintro e w' ⟨h1, h2⟩; exact ⟨⟨_, h1⟩, h2⟩)
    go_enter Try.func3, Try.ntmps3
    go_wp2_with (first
      | (go_at_call 9; (with_reducible refine (hlg _ hr).mono ?_); rintro e1 w1 ⟨⟨b, rfl⟩, rfl⟩)
      | (go_at_call 10; (with_reducible refine (awake3_any _).mono ?_); rintro e3 w3 ⟨rfl, hb3⟩))
    go_ret
    exact ⟨rfl, hb3⟩
set_option linter.unusedVariables false in
theorem law_TagSums (w : World) (a0 : ByteArray) (w0 : a0.size ≤ maxLen) (a1 : Option Addr) (l1 c1 : Nat) (z1 : List ByteArray) (w1 : StrRow w a1 l1 z1) :
    Calls Try.prog 3 #[.string a0, .slice a1 l1 c1] w fun e w' => e = .returned (.bool true) ∧ Below w.heap.size w w' := by
  obtain ⟨hlen, hmx, hrd, hsz⟩ := w1
  refine tagSums_any a0.data.toList a1 l1 c1 (z1.map fun s => s.data.toList) (by rw [List.length_map]; exact hlen) ?_ w ?_
  · unfold maxLen at hmx; omega
  · rw [List.map_map]; exact hrd

open Go.ChangeShapes Go.WideShapes Go.ChangeAt
open Go.ChangeMaps (open_string shut_string)
theorem own_TagSums : ownKnob Try.prog.godebug = none := by kernel_rfl
theorem laidOut_TagSums : laidOutB Try.prog = true := by kernel_rfl
set_option linter.unusedVariables false in
set_option maxRecDepth 100000 in
theorem lifted_TagSums (os : Os) (started : os.Started) (H : Type) (enc : TypeId × Value → H) :
    ReturnsInHanded {} Try.checked os 3 .any (Rows.tagSumsSpec.pre6 enc Try.prog Try.f3 Rows.tagSumsRow.domain false) (Rows.tagSumsSpec.post enc Try.prog Try.f3 false true false false) := by
  refine returnsInHanded_of_change (C := Try.checked) own_TagSums started (by kernel_rfl) Try.func3
    (ChangeSpec.witness6 (enc := enc) (C := Try.checked) false ⟨#[], #[.string ByteArray.empty, .slice none 0 0], []⟩ 8 (by kernel_rfl) (by kernel_rfl) (by kernel_rfl) (by kernel_rfl)) ?_
  intro W base args ds gs before hval0 hW hcnd _
  have hval : ∀ (j : Nat) t v, Try.f3.params[j]? = some t → args[j]? = some v → Value.okWide Try.prog W .any base t v := hval0
  have hW' := hW
  obtain ⟨p, q, hA0, hV, rfl, hfz, hnd⟩ := hW
  have hA1 : DataW.TrodAll enc Try.prog W 0 (fun _ => true) true Try.f3.params.toList args.toList ds p := hA0
  have hA : DataW.TrodAll enc Try.prog W 0 (fun _ => true) true Try.f3.params.toList args.toList ds p := hA0
  rw [Try.params3] at hA hval
  obtain ⟨v0, vs0, d0, ds0, p0, q0, hargs, rfl, rfl, h0, r0⟩ := trodAll_cons hA
  obtain ⟨v1, vs1, d1, ds1, p1, q1, rfl, rfl, rfl, h1, r1⟩ := trodAll_cons r0
  obtain ⟨rfl, rfl, rfl⟩ := trodAll_nil r1
  obtain rfl : args = #[v0, v1] := by cases args; simp_all
  obtain ⟨rfl, rfl⟩ := trodVars_none hV
  obtain ⟨a0, rfl, rfl, rfl, w0⟩ := open_string Try.underlying9 (hval 0 9 v0 rfl rfl) h0
  obtain ⟨a1, l1, c1, z1, rfl, w1⟩ := open_strRow Try.underlying22 Try.underlying9 (by kernel_rfl) (hval 1 22 v1 rfl rfl) h1
  clear hA0 hval0
  refine (law_TagSums W a0 w0 a1 l1 c1 z1 w1).mono fun e W' ⟨he, bel⟩ => ?_
  subst he
  exact ⟨_, rfl, _, _, _, [], _, [], hW', trodAll_mk1 (shut_bool Try.underlying4 _), trodAll_stays laidOut_TagSums bel (by kernel_rfl) hA1, rfl, bel.frame _, fun h => by cases h⟩

/-- The statement. -/
theorem TagSums_holds : Rows.TagSumsSaid :=
  OpenClaim.holds_of_wide 3 Try.f3 rfl rfl rfl rfl rfl rfl rfl ⟨rfl, rfl, rfl, rfl, rfl⟩ rfl rfl rfl rfl rfl (by kernel_rfl) Try.func3 (by kernel_rfl)
    (of_decide_eq_true (by kernel_rfl)) (by unfold Func.isWrapper; first | (rw [if_pos (by decide +kernel)]; kernel_rfl) | (rw [if_neg (by decide +kernel)]; exact ⟨rfl, rfl⟩))
    (fun os started H enc _ => lifted_TagSums os started H enc)
#print axioms TagSums_holds
end Go.Proofs.Ytlobagjeiocolaa


/- Proved: for every two names and rows of parts, quitclaimlaw03.TagApart returns true and leaves its arguments as they were. No conditions. -/
import Derived.Test.YtlobagjeiocolaaTagSums
namespace Go.Proofs.Ytlobagjeiocolaa
open Go.RowKit Go.Qc
theorem txt_loop (l : List UInt8) : ∀ (k i : Nat) (r : List UInt8), l.length - i = k → ByteArray.toList.loop (txt l) i r = r.reverse ++ l.drop i := by
  intro k
  induction k with
  | zero =>
    intro i r h
    unfold ByteArray.toList.loop
    rw [if_neg (by rw [txt_size]; omega), List.drop_of_length_le (by omega), List.append_nil]
  | succ k ih =>
    intro i r h
    unfold ByteArray.toList.loop
    rw [if_pos (by rw [txt_size]; omega), ih (i + 1) _ (by omega), List.reverse_cons, List.append_assoc]
    have hi : i < l.length := by omega
    have hg : (txt l).get! i = l[i] := by
      show l.toArray[i]! = l[i]
      simp [hi]
    rw [hg, List.drop_eq_getElem_cons hi]
    rfl
theorem txt_toList (l : List UInt8) : (txt l).toList = l := by
  unfold ByteArray.toList
  rw [txt_loop l _ 0 [] rfl]
  rfl
attribute [local go_sem] txt_size txt_inj txt_toList

theorem numB8_inj (a b : Nat) (ha : a ≤ 1000000000000) (hb : b ≤ 1000000000000) (h : numB (BitVec.ofNat 64 a) 8 = numB (BitVec.ofNat 64 b) 8) : a = b := by
  have e := valB_num (BitVec.ofNat 64 a) 8
  have f := valB_num (BitVec.ofNat 64 b) 8
  have z : ∀ n : Nat, BitVec.ofNat 64 n >>> (8 * 8) = 0#64 := fun n => by rw [fits_iff]; exact (BitVec.ofNat 64 n).isLt
  rw [z] at e f
  rw [h, f] at e
  have := congrArg BitVec.toNat e
  rw [BitVec.toNat_ofNat, BitVec.toNat_ofNat] at this
  omega
theorem parts_inj : ∀ (ps qs : List (List UInt8)), (∀ p ∈ ps, p.length ≤ 1000000000000) → (∀ p ∈ qs, p.length ≤ 1000000000000) → ps.flatMap partB = qs.flatMap partB → ps = qs
  | [], [], _, _, _ => rfl
  | [], q :: qs, _, _, h => by have := congrArg List.length h; rw [List.flatMap_cons, List.length_append, partB_length] at this; simp only [List.flatMap_nil, List.length_nil] at this; omega
  | p :: ps, [], _, _, h => by have := congrArg List.length h; rw [List.flatMap_cons, List.length_append, partB_length] at this; simp only [List.flatMap_nil, List.length_nil] at this; omega
  | p :: ps, q :: qs, hp, hq, h => by
    rw [List.flatMap_cons, List.flatMap_cons, partB, partB, List.append_assoc, List.append_assoc] at h
    obtain ⟨h1, h2⟩ := List.append_inj h (by rw [numB_length, numB_length])
    have hl := numB8_inj _ _ (hp p (by simp)) (hq q (by simp)) h1
    obtain ⟨h3, h4⟩ := List.append_inj h2 hl
    rw [h3, parts_inj ps qs (fun x hx => hp x (by simp [hx])) (fun x hx => hq x (by simp [hx])) h4]
theorem textB_inj (nm om : List UInt8) (ps qs : List (List UInt8)) (h1 : nm.length ≤ 255) (h2 : om.length ≤ 255) (hp : ∀ p ∈ ps, p.length ≤ 1000000000000) (hq : ∀ p ∈ qs, p.length ≤ 1000000000000) :
    (textB nm ps = textB om qs) = (nm = om ∧ ps = qs) := by
  apply propext
  constructor
  · intro h
    rw [textB, textB, List.append_assoc, List.append_assoc] at h
    obtain ⟨ha, hb⟩ := List.append_inj h (by simp)
    have hl : nm.length = om.length := by
      have := List.head_eq_of_cons_eq ha
      have := congrArg UInt8.toNat this
      rw [UInt8.toNat_ofNat', UInt8.toNat_ofNat'] at this
      omega
    obtain ⟨hc, hd⟩ := List.append_inj hb hl
    exact ⟨hc, parts_inj ps qs hp hq hd⟩
  · rintro ⟨rfl, rfl⟩; rfl
theorem long_parts (ps : List (List UInt8)) (h : isLong ps = false) : ∀ p ∈ ps, p.length ≤ 1000000000000 := by
  simp only [isLong, Bool.or_eq_false_iff, List.any_eq_false, decide_eq_true_eq, decide_eq_false_iff_not] at h
  intro p hp
  have := h.1 p hp
  omega

set_option maxRecDepth 100000 in
set_option maxHeartbeats 1000000 in
theorem tagApart_any (nm om : List UInt8) (A B : Option Addr) (n m c d : Nat) (ps qs : List (List UInt8)) (hn : ps.length = n) (hm : qs.length = m) (bn : n ≤ 9223372036854775807) (bm : m ≤ 9223372036854775807) (w : World) (hr : Rd w A (ps.map strV)) (hs : Rd w B (qs.map strV)) :
    Calls Try.prog 5 #[.string (txt nm), .string (txt om), .slice A n c, .slice B m d] w fun e w' => e = .returned (.bool true) ∧ Below w.heap.size w w' := by
  have LA := long_any A n c ps hn bn w hr
  have LB := long_any B m d qs hm bm w hs
  by_cases hbad : isLong ps = false ∧ isLong qs = false ∧ nm.length ≤ 255 ∧ om.length ≤ 255
  · obtain ⟨g1, g2, g3, g4⟩ := hbad
    rw [g1] at LA
    rw [g2] at LB
    have hT := text_any nm g3 A n c ps hn (textB_short nm (by omega) ps g1)
    have hU := text_any om g4 B m d qs hm (textB_short om (by omega) qs g2)
    obtain ⟨T, hTT⟩ : ∃ T, T = textB nm ps := ⟨_, rfl⟩
    obtain ⟨U, hUU⟩ : ∃ U, U = textB om qs := ⟨_, rfl⟩
    have hTU : (T = U) = (nm = om ∧ ps = qs) := by rw [hTT, hUU]; exact textB_inj nm om ps qs g3 g4 (long_parts _ g1) (long_parts _ g2)
    rw [← hTT] at hT
    rw [← hUU] at hU
    clear hTT hUU
    have l1 : decide ((255 : Int) < nm.length) = false := decide_eq_false (by omega)
    have l2 : decide ((255 : Int) < om.length) = false := decide_eq_false (by omega)
    have HT := hid hT
    have HU := hid hU
    have HLA := hid LA
    have HLB := hid LB
    have HTU := hid hTU
    clear hT hU LA LB hTU g1 g2 g3 g4
    go_enter Try.func5, Try.ntmps5
    go_wp2_with (first
      | (go_at_call 9; (first | (with_reducible refine HLA.out.mono ?_) | (with_reducible refine HLB.out.mono ?_)); rintro e1 w1 ⟨rfl, rfl⟩)
      | (go_at_call 11; (first | ((with_reducible refine (HT.out _ hr).mono ?_); rintro e1 w1 ⟨rfl, hb1⟩) | ((with_reducible refine (HU.out _ (hs.below hb1)).mono ?_); rintro e2 w2 ⟨rfl, hb2⟩))))
    all_goals have hB2 := hb1.trans (hb2.mono hb1.size)
    all_goals
      generalize hbb : ((n : Int) == (m : Int)) = bb
      have HBB := hid hbb
      clear hbb
      go_loopw [13, 14] (fun v i wr => ∃ k : Nat, k ≤ n ∧ i = .int .i64 k ∧ v = .bool (decide (nm = om ∧ n = m ∧ ps.take k = qs.take k)) ∧ Below w.heap.size w wr) (fun _ i _ => n - (intOf i).toNat)
      case atStart =>
        refine ⟨0, by omega, rfl, ?_, hB2⟩
        congr 1
        have hbb := HBB.out
        try subst hbb
        rw [Bool.eq_iff_iff]
        simp
        first
          | (constructor
             · intro h; exact ⟨by assumption, by omega⟩
             · rintro ⟨_, h⟩; omega)
          | (intro h; exact absurd h (by assumption))
      case round =>
        obtain ⟨k, hk, rfl, rfl, hBr⟩ := hrel
        by_cases hsm : nm = om ∧ n = m ∧ ps.take k = qs.take k
        · (try exact absurd hsm.1 (by assumption)) <;> (
            rw [decide_eq_true hsm]
            obtain ⟨rfl, rfl, ht⟩ := hsm
            by_cases hlt : k < n
            · obtain ⟨p, hp⟩ : ∃ p, ps[k]? = some p := ⟨_, List.getElem?_eq_getElem (by omega)⟩
              obtain ⟨q, hq⟩ : ∃ q, qs[k]? = some q := ⟨_, List.getElem?_eq_getElem (by omega)⟩
              obtain ⟨ad, rfl, hcell⟩ := rd_in (hr.below hBr) k (strV p) (by rw [List.getElem?_map, hp]; rfl)
              obtain ⟨ad2, rfl, hcell2⟩ := rd_in (hs.below hBr) k (strV q) (by rw [List.getElem?_map, hq]; rfl)
              unfold strV at hcell hcell2
              have HP := hid (take_snoc hp)
              have HQ := hid (take_snoc hq)
              have HT2 := hid ht
              have b1 : (k : Int) < n := by omega
              clear hp hq ht
              go_wp2
              go_quiet (fail)
              go_wp2
              go_roundw
              case rel =>
                refine ⟨k + 1, hlt, by go_num, ?_, below_drewN hBr _⟩
                congr 1
                rw [Bool.eq_iff_iff, HP.out, HQ.out, HT2.out]
                simp
              case measure => simp [intOf]; omega
            · obtain rfl : k = n := by omega
              rw [List.take_of_length_le (by omega), List.take_of_length_le (by omega)] at ht
              have htu : T = U := by rw [HTU.out]; exact ⟨rfl, ht⟩
              subst htu
              have b1 : ¬ (k : Int) < k := by omega
              go_wp2_with (first
                | (go_at_call 10; (with_reducible refine (awake3_any _).mono ?_); rintro e3 w3 ⟨rfl, hb3⟩))
              go_ret
              exact ⟨rfl, hBr.trans (hb3.mono hBr.size)⟩)
        · rw [decide_eq_false hsm]
          have htu : ¬ T = U := by
            rw [HTU.out]
            rintro ⟨rfl, rfl⟩
            exact hsm ⟨rfl, by omega, rfl⟩
          clear hsm
          go_wp2_with (first
            | (go_at_call 10; (with_reducible refine (awake3_any _).mono ?_); rintro e3 w3 ⟨rfl, hb3⟩))
          go_ret
          refine ⟨?_, hBr.trans (hb3.mono hBr.size)⟩
          simp [htu]
  · have cA : ∀ W : World, Calls Try.prog 10 #[] W fun e w' => e = .returned (.bool true) ∧ Below W.heap.size W w' := awake3_any
    cases h1 : isLong ps with
    | true =>
      rw [h1] at LA
      have HLA := hid LA
      clear LA LB
      go_enter Try.func5, Try.ntmps5
      go_wp2_with (first
        | (go_at_call 9; with_reducible refine HLA.out.mono ?_; rintro e1 w1 ⟨rfl, rfl⟩)
        | (go_at_call 10; (with_reducible refine (cA _).mono ?_); rintro e3 w3 ⟨rfl, hb3⟩))
      go_ret
      exact ⟨rfl, hb3⟩
    | false =>
      rw [h1] at LA
      cases h2 : isLong qs with
      | true =>
        rw [h2] at LB
        have HLA := hid LA
        have HLB := hid LB
        clear LA LB
        go_enter Try.func5, Try.ntmps5
        go_wp2_with (first
          | (go_at_call 9; (first | (with_reducible refine HLA.out.mono ?_) | (with_reducible refine HLB.out.mono ?_)); rintro e1 w1 ⟨rfl, rfl⟩)
          | (go_at_call 10; (with_reducible refine (cA _).mono ?_); rintro e3 w3 ⟨rfl, hb3⟩))
        go_ret
        exact ⟨rfl, hb3⟩
      | false =>
        rw [h2] at LB
        have HLA := hid LA
        have HLB := hid LB
        clear LA LB
        by_cases h3 : nm.length ≤ 255
        · have l1 : ¬ (255 : Int) < nm.length := by omega
          have l2 : (255 : Int) < om.length := by
            have : ¬ om.length ≤ 255 := fun h => hbad ⟨h1, h2, h3, h⟩
            omega
          clear hbad
          go_enter Try.func5, Try.ntmps5
          go_wp2_with (first
            | (go_at_call 9; (first | (with_reducible refine HLA.out.mono ?_) | (with_reducible refine HLB.out.mono ?_)); rintro e1 w1 ⟨rfl, rfl⟩)
            | (go_at_call 10; (with_reducible refine (cA _).mono ?_); rintro e3 w3 ⟨rfl, hb3⟩))
          go_ret
          exact ⟨rfl, hb3⟩
        · have l1 : (255 : Int) < nm.length := by omega
          clear hbad
          go_enter Try.func5, Try.ntmps5
          go_wp2_with (first
            | (go_at_call 9; (first | (with_reducible refine HLA.out.mono ?_) | (with_reducible refine HLB.out.mono ?_)); rintro e1 w1 ⟨rfl, rfl⟩)
            | (go_at_call 10; (with_reducible refine (cA _).mono ?_); rintro e3 w3 ⟨rfl, hb3⟩))
          go_ret
          exact ⟨rfl, hb3⟩
set_option linter.unusedVariables false in
theorem law_TagApart (w : World) (a0 : ByteArray) (w0 : a0.size ≤ maxLen) (a1 : ByteArray) (w1 : a1.size ≤ maxLen) (a2 : Option Addr) (l2 c2 : Nat) (z2 : List ByteArray) (w2 : StrRow w a2 l2 z2) (a3 : Option Addr) (l3 c3 : Nat) (z3 : List ByteArray) (w3 : StrRow w a3 l3 z3) :
    Calls Try.prog 5 #[.string a0, .string a1, .slice a2 l2 c2, .slice a3 l3 c3] w fun e w' => e = .returned (.bool true) ∧ Below w.heap.size w w' := by
  obtain ⟨hlen, hmx, hrd, hsz⟩ := w2
  obtain ⟨hlen3, hmx3, hrd3, hsz3⟩ := w3
  unfold maxLen at hmx hmx3
  exact tagApart_any a0.data.toList a1.data.toList a2 a3 l2 l3 c2 c3 (z2.map fun s => s.data.toList) (z3.map fun s => s.data.toList) (by rw [List.length_map]; exact hlen) (by rw [List.length_map]; exact hlen3) (by omega) (by omega) w (by rw [List.map_map]; exact hrd) (by rw [List.map_map]; exact hrd3)

open Go.ChangeShapes Go.WideShapes Go.ChangeAt
open Go.ChangeMaps (open_string shut_string)
theorem own_TagApart : ownKnob Try.prog.godebug = none := by kernel_rfl
theorem laidOut_TagApart : laidOutB Try.prog = true := by kernel_rfl
set_option linter.unusedVariables false in
set_option maxRecDepth 100000 in
theorem lifted_TagApart (os : Os) (started : os.Started) (H : Type) (enc : TypeId × Value → H) :
    ReturnsInHanded {} Try.checked os 5 .any (Rows.tagApartSpec.pre6 enc Try.prog Try.f5 Rows.tagApartRow.domain false) (Rows.tagApartSpec.post enc Try.prog Try.f5 false true false false) := by
  refine returnsInHanded_of_change (C := Try.checked) own_TagApart started (by kernel_rfl) Try.func5
    (ChangeSpec.witness6 (enc := enc) (C := Try.checked) false ⟨#[], #[.string ByteArray.empty, .string ByteArray.empty, .slice none 0 0, .slice none 0 0], []⟩ 8 (by kernel_rfl) (by kernel_rfl) (by kernel_rfl) (by kernel_rfl)) ?_
  intro W base args ds gs before hval0 hW hcnd _
  have hval : ∀ (j : Nat) t v, Try.f5.params[j]? = some t → args[j]? = some v → Value.okWide Try.prog W .any base t v := hval0
  have hW' := hW
  obtain ⟨p, q, hA0, hV, rfl, hfz, hnd⟩ := hW
  have hA1 : DataW.TrodAll enc Try.prog W 0 (fun _ => true) true Try.f5.params.toList args.toList ds p := hA0
  have hA : DataW.TrodAll enc Try.prog W 0 (fun _ => true) true Try.f5.params.toList args.toList ds p := hA0
  rw [Try.params5] at hA hval
  obtain ⟨v0, vs0, d0, ds0, p0, q0, hargs, rfl, rfl, h0, r0⟩ := trodAll_cons hA
  obtain ⟨v1, vs1, d1, ds1, p1, q1, rfl, rfl, rfl, h1, r1⟩ := trodAll_cons r0
  obtain ⟨v2, vs2, d2, ds2, p2, q2, rfl, rfl, rfl, h2, r2⟩ := trodAll_cons r1
  obtain ⟨v3, vs3, d3, ds3, p3, q3, rfl, rfl, rfl, h3, r3⟩ := trodAll_cons r2
  obtain ⟨rfl, rfl, rfl⟩ := trodAll_nil r3
  obtain rfl : args = #[v0, v1, v2, v3] := by cases args; simp_all
  obtain ⟨rfl, rfl⟩ := trodVars_none hV
  obtain ⟨a0, rfl, rfl, rfl, w0⟩ := open_string Try.underlying9 (hval 0 9 v0 rfl rfl) h0
  obtain ⟨a1, rfl, rfl, rfl, w1⟩ := open_string Try.underlying9 (hval 1 9 v1 rfl rfl) h1
  obtain ⟨a2, l2, c2, z2, rfl, w2⟩ := open_strRow Try.underlying22 Try.underlying9 (by kernel_rfl) (hval 2 22 v2 rfl rfl) h2
  obtain ⟨a3, l3, c3, z3, rfl, w3⟩ := open_strRow Try.underlying22 Try.underlying9 (by kernel_rfl) (hval 3 22 v3 rfl rfl) h3
  clear hA0 hval0
  refine (law_TagApart W a0 w0 a1 w1 a2 l2 c2 z2 w2 a3 l3 c3 z3 w3).mono fun e W' ⟨he, bel⟩ => ?_
  subst he
  exact ⟨_, rfl, _, _, _, [], _, [], hW', trodAll_mk1 (shut_bool Try.underlying4 _), trodAll_stays laidOut_TagApart bel (by kernel_rfl) hA1, rfl, bel.frame _, fun h => by cases h⟩

/-- The statement. -/
theorem TagApart_holds : Rows.TagApartSaid :=
  OpenClaim.holds_of_wide 5 Try.f5 rfl rfl rfl rfl rfl rfl rfl ⟨rfl, rfl, rfl, rfl, rfl⟩ rfl rfl rfl rfl rfl (by kernel_rfl) Try.func5 (by kernel_rfl)
    (of_decide_eq_true (by kernel_rfl)) (by unfold Func.isWrapper; first | (rw [if_pos (by decide +kernel)]; kernel_rfl) | (rw [if_neg (by decide +kernel)]; exact ⟨rfl, rfl⟩))
    (fun os started H enc _ => lifted_TagApart os started H enc)
#print axioms TagApart_holds
end Go.Proofs.Ytlobagjeiocolaa

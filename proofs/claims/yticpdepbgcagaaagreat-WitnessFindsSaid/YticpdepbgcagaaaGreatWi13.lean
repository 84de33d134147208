
/- witness: the document's Keeps; what follows, where nothing is found. -/
import Derived.Test.YticpdepbgcagaaaGreatWi11
import Derived.ChangeShapes
import Derived.Deep.DeepCutAuto
set_option linter.unusedSimpArgs false
set_option linter.unusedVariables false
namespace Go.Proofs.YticpdepbgcagaaaGreat
open Go.RowKit Go.Qc Go.Shelf
attribute [local go_sem] txt_size txt_append ib_fold
/-- Has each leaf one row at most? -/
def lfO (Xs : List WiD) (i : Nat) : Int := ((Xs[i]?).map (·.l)).getD 0
def KpP (Xs : List WiD) : Prop := ∀ i, i < Xs.length → ∀ k, k < i → lfO Xs i ≠ lfO Xs k
theorem lfO_at {Xs : List WiD} {i : Nat} {X : WiD} (h : Xs[i]? = some X) : lfO Xs i = X.l := by unfold lfO; rw [h]; rfl
theorem KpP.one {Xs : List WiD} (h : KpP Xs) {X Y : WiD} (hX : X ∈ Xs) (hY : Y ∈ Xs) (e : X.l = Y.l) : X = Y := by
  obtain ⟨i, hi⟩ := List.getElem?_of_mem hX
  obtain ⟨k, hk⟩ := List.getElem?_of_mem hY
  have li := (List.getElem?_eq_some_iff.1 hi).1
  have lk := (List.getElem?_eq_some_iff.1 hk).1
  rcases Nat.lt_trichotomy i k with h1 | h1 | h1
  · exact absurd (by rw [lfO_at hi, lfO_at hk, e]) (h k lk i h1)
  · subst h1; exact Option.some.inj (hi.symm.trans hk)
  · exact absurd (by rw [lfO_at hi, lfO_at hk, e]) (h i li k h1)
/-- Where no row is honest, and all sides are shown, a leaf signed twice. -/
theorem keeps_not {Xs : List WiD} {a : List UInt8} {L : Int} (h1 : honB 8 Xs a L = false) (h2 : fstW 8 Xs L a = none) : ¬ KpP Xs := by
  intro hk
  have hs : ∀ b, b < 8 → ∃ X ∈ Xs, X.l = L ∧ bitZ X.a b = bitZ a b := by
    intro b hb
    unfold fstW at h2
    rw [List.find?_range_eq_none] at h2
    have h3 := h2 b hb
    have h4 : shwB Xs L b ((bitZ a b : Nat) : Int) = true := by simpa using h3
    unfold shwB at h4
    obtain ⟨X, hX, hg⟩ := List.any_eq_true.1 h4
    unfold shwG at hg
    rw [Bool.and_eq_true, decide_eq_true_eq, decide_eq_true_eq] at hg
    exact ⟨X, hX, hg.1, by omega⟩
  obtain ⟨X, hX, hl, _⟩ := hs 0 (by decide)
  have hal : alkB 8 X.a a = true := alkB_yes (fun i hi => by
    have hi8 : i < 8 := by unfold alkN at hi; omega
    obtain ⟨Y, hY, hyl, hb⟩ := hs i hi8
    have := hk.one hX hY (by rw [hl, hyl])
    rw [this]
    exact hb)
  have : honB 8 Xs a L = true := List.any_eq_true.2 ⟨X, hX, by unfold honG; rw [decide_eq_true hl, hal]; rfl⟩
  rw [this] at h1
  cases h1
theorem wiT_len (n H L : Nat) (hn : n ≤ 256) (a : List UInt8) (l r way : List (List UInt8)) (h32 : ∀ x ∈ r, x.length = 32) (hw : ∀ x ∈ way, x.length = 32) : ∀ p, (wiT n H L a l r way p).length ≤ 1000000
  | 0 => by
    rw [wiT_0]
    have hf : ((sideL (pubF a l r) n).flatten).length = 32 * (2 * n) := by rw [flatten_len _ (sideL_32 _ (pubF_length a l r h32) n), sideL_length]
    unfold textB leafN
    simp only [List.flatMap_cons, List.flatMap_nil, List.append_nil, List.length_append, partB_length, List.length_cons, List.length_nil, hf]
    omega
  | p + 1 => by
    rw [wiT_succ]
    split
    · unfold textB keyN
      simp only [List.flatMap_cons, List.flatMap_nil, List.append_nil, List.length_append, partB_length, List.length_cons, List.length_nil, nB_length, rootB_length]
      omega
    · have e1 := getB_length hw p
      have e2 : (climbB L (recB a l r n) (way.take p)).length = 32 := climbB_length _ _ _ (recB_length _ _ _ _)
      split <;>
      · unfold textB nodeN
        simp only [List.flatMap_cons, List.flatMap_nil, List.append_nil, List.length_append, partB_length, List.length_cons, List.length_nil, e1, e2]
        omega

set_option maxRecDepth 100000 in
set_option maxHeartbeats 20000000 in
theorem wrkeeps_any (A : Option Addr) (n c : Nat) (Xs : List WiD) (hn : Xs.length = n) (bn : n ≤ 1000) (w : World) (hr : WiRd w A Xs) (hk : ¬ KpP Xs) :
    Calls Tryz.prog 14 #[.slice A n c] w fun e w' => e = .returned (.bool false) ∧ Below w.heap.size w w' := by
  have HN := hid hn
  have HK := hid hk
  clear hn hk
  go_enter Tryz.func14, Tryz.ntmps14
  go_wp2_with (fail)
  go_loopw [3] (fun i wr => ∃ k : Nat, k ≤ n ∧ i = .int .i64 k ∧ Hid (∀ i', i' < k → ∀ j, j < i' → lfO Xs i' ≠ lfO Xs j) ∧ Below w.heap.size w wr) (fun i _ => n - (intOf i).toNat)
  case atStart => exact ⟨0, by omega, rfl, hid (fun i hi => by omega), Below.refl _ _⟩
  case round =>
    obtain ⟨k, hkn, rfl, HI, hb⟩ := hrel
    by_cases hlt : k < n
    · obtain ⟨X, hX⟩ : ∃ X, Xs[k]? = some X := ⟨_, List.getElem?_eq_getElem (by have := HN.out; omega)⟩
      obtain ⟨g, q, hg, hXo, hix⟩ := hr.pickV c HN.out hX
      have b1 : (k : Int) < n := by omega
      have HB := hid hb
      have HLX := hid (lfO_at hX)
      have HG := hid hg
      have HLT := hid (show k + 1 ≤ n from hlt)
      clear hX hg hb hlt hkn hXo
      obtain ⟨u1, hu1⟩ : ∃ u1, u1 = wr := ⟨_, rfl⟩
      subst hu1
      go_wp2_with (fail)
      go_loopw [4] (fun i wr => ∃ j : Nat, j ≤ k ∧ i = .int .i64 j ∧ Hid (∀ j', j' < j → lfO Xs k ≠ lfO Xs j') ∧ Below u1.heap.size u1 wr) (fun i _ => k - (intOf i).toNat)
      case atStart => exact ⟨0, by omega, rfl, hid (fun i hi => by omega), Below.refl _ _⟩
      case round =>
        obtain ⟨j, hjk, rfl, HJ, hb2⟩ := hrel
        by_cases hlj : j < k
        · obtain ⟨Y, hY⟩ : ∃ Y, Xs[j]? = some Y := ⟨_, List.getElem?_eq_getElem (by have := HN.out; have := HLT.out; omega)⟩
          obtain ⟨h, p, hh, hYo, hiy⟩ := hr.pickV c HN.out hY
          have b2 : (j : Int) < k := by omega
          have k0 : ∀ P : LaterW wr, P.w.cell? ⟨g, q, none⟩ = some (.int .i64 X.l) := fun P => by
            have := ((HG.out.below HB.out).below hb2).below P.h 0 (.int .i64 X.l) (by rw [Array.getElem?_toList]; exact X.c0)
            rwa [Nat.add_zero] at this
          have k1 : ∀ P : LaterW wr, P.w.cell? ⟨h, p, none⟩ = some (.int .i64 Y.l) := fun P => by
            have := ((hh.below HB.out).below hb2).below P.h 0 (.int .i64 Y.l) (by rw [Array.getElem?_toList]; exact Y.c0)
            rwa [Nat.add_zero] at this
          have HLY := hid (lfO_at hY)
          have HLJ := hid (show j + 1 ≤ k from hlj)
          obtain ⟨t, ht⟩ : ∃ t, decide (X.l = Y.l) = t := ⟨_, rfl⟩
          have e1 : (X.l == Y.l) = t := by rw [← ht]; rfl
          have HT := hid ht
          clear hY hh hYo ht hlj hjk
          go_upto_region 7 with (fail)
          cases t with
          | true =>
            refine wp_region_later mixedW (by kernel_rfl) ?_
            repeat (first
              | ((with_reducible refine wpQuiet_step (fun K hK => ?_)); go_simp; first | ((with_reducible refine hK _ ?_); clear hK K) | (with_reducible apply Exists.intro; (with_reducible refine ⟨fun P => ?_, hK _ ?_⟩); ((fail)); clear hK K))
              | ((with_reducible refine BigFrame.wpQuiet_skip (by first | kernel_rfl | with_unfolding_all rfl) ?_); simp only [Act.put, List.setIfInBounds_toArray, List.set_cons_zero, List.set_cons_succ]))
            with_reducible refine wpQuiet_nil ?_
            intro _ hw9
            obtain ⟨P9, rfl⟩ := hw9
            have hb9 := (HB.out.trans (hb2.mono HB.out.size)).trans (P9.h.mono (HB.out.trans (hb2.mono HB.out.size)).size)
            go_wp2_with (fail)
            go_ret
            exact ⟨rfl, hb9⟩
          | false =>
            refine wp_region_later mixedW (by kernel_rfl) ?_
            repeat (first
              | ((with_reducible refine wpQuiet_step (fun K hK => ?_)); go_simp; first | ((with_reducible refine hK _ ?_); clear hK K) | (with_reducible apply Exists.intro; (with_reducible refine ⟨fun P => ?_, hK _ ?_⟩); ((fail)); clear hK K))
              | ((with_reducible refine BigFrame.wpQuiet_skip (by first | kernel_rfl | with_unfolding_all rfl) ?_); simp only [Act.put, List.setIfInBounds_toArray, List.set_cons_zero, List.set_cons_succ]))
            with_reducible refine wpQuiet_nil ?_
            intro _ hw9
            obtain ⟨P9, rfl⟩ := hw9
            have hb9 := hb2.trans (P9.h.mono hb2.size)
            go_wp2_with (fail)
            go_roundw
            case rel => exact ⟨j + 1, HLJ.out, by go_num, hid (fun j' hj' => by
              by_cases e : j' = j
              · rw [e, HLX.out, HLY.out]; exact of_decide_eq_false HT.out
              · exact HJ.out j' (by omega)), hb9⟩
            case measure => exact meas_wi HLJ.out
        · obtain rfl : j = k := by omega
          have c2 : ¬ (j : Int) < j := by omega
          go_wp2_with (fail)
          go_roundw
          case rel => exact ⟨j + 1, HLT.out, by go_num, hid (fun i' hi' => by
            by_cases e : i' = j
            · rw [e]; exact HJ.out
            · exact HI.out i' (by omega)), HB.out.trans (hb2.mono HB.out.size)⟩
          case measure => exact meas_wi HLT.out
    · obtain rfl : k = n := by omega
      exact absurd (fun i hi => HI.out i (by have := HN.out; omega)) HK.out

end Go.Proofs.YticpdepbgcagaaaGreat

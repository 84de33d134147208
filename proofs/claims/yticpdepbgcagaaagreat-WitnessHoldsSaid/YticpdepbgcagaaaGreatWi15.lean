/- witness: the document's Keeps; what follows, where nothing is found. -/
import Derived.Test.YticpdepbgcagaaaGreatWi11
import Derived.ChangeShapes
import Derived.Deep.DeepCutAuto
import Derived.Maps.OwnSet
set_option linter.unusedSimpArgs false
set_option linter.unusedVariables false
namespace Go.Proofs.YticpdepbgcagaaaGreat
open Go.RowKit Go.Qc Go.Shelf
attribute [local go_sem] txt_size txt_append ib_fold
/-- Has each leaf one row at most? -/
def lfO (Xs : List WiD) (i : Nat) : Int := ((Xs[i]?).map (·.l)).getD 0
def KpP (Xs : List WiD) : Prop := ∀ i, i < Xs.length → ∀ k, k < i → lfO Xs i ≠ lfO Xs k
theorem lfO_at {Xs : List WiD} {i : Nat} {X : WiD} (h : Xs[i]? = some X) : lfO Xs i = X.l := by unfold lfO; rw [h]; rfl
theorem KpP.one {Xs : List WiD} (h : KpP Xs) {X Y : WiD} (hX : X ∈ Xs) (hY : Y ∈ Xs) (e : X.l = Y.l) : X = Y := by
  obtain ⟨i, hi⟩ := List.getElem?_of_mem hX
  obtain ⟨k, hk⟩ := List.getElem?_of_mem hY
  have li := (List.getElem?_eq_some_iff.1 hi).1
  have lk := (List.getElem?_eq_some_iff.1 hk).1
  rcases Nat.lt_trichotomy i k with h1 | h1 | h1
  · exact absurd (by rw [lfO_at hi, lfO_at hk, e]) (h k lk i h1)
  · subst h1; exact Option.some.inj (hi.symm.trans hk)
  · exact absurd (by rw [lfO_at hi, lfO_at hk, e]) (h i li k h1)
set_option maxRecDepth 100000 in
set_option maxHeartbeats 20000000 in
theorem wrkeeps_any (A : Option Addr) (n c : Nat) (Xs : List WiD) (hn : Xs.length = n) (bn : n ≤ 1000) (w : World) (hr : WiRd w A Xs) (hk : ¬ KpP Xs) :
    Calls Tryz.prog 14 #[.slice A n c] w fun e w' => e = .returned (.bool false) ∧ Below w.heap.size w w' := by
  have HN := hid hn
  have HK := hid hk
  clear hn hk
  go_enter Tryz.func14, Tryz.ntmps14
  go_wp2_with (fail)
  go_loopw [3] (fun i wr => ∃ k : Nat, k ≤ n ∧ i = .int .i64 k ∧ Hid (∀ i', i' < k → ∀ j, j < i' → lfO Xs i' ≠ lfO Xs j) ∧ Below w.heap.size w wr) (fun i _ => n - (intOf i).toNat)
  case atStart => exact ⟨0, by omega, rfl, hid (fun i hi => by omega), Below.refl _ _⟩
  case round =>
    obtain ⟨k, hkn, rfl, HI, hb⟩ := hrel
    by_cases hlt : k < n
    · obtain ⟨X, hX⟩ : ∃ X, Xs[k]? = some X := ⟨_, List.getElem?_eq_getElem (by have := HN.out; omega)⟩
      obtain ⟨g, q, hg, hXo, hix⟩ := hr.pickV c HN.out hX
      have b1 : (k : Int) < n := by omega
      have HB := hid hb
      have HLX := hid (lfO_at hX)
      have HG := hid hg
      have HLT := hid (show k + 1 ≤ n from hlt)
      clear hX hg hb hlt hkn hXo
      obtain ⟨u1, hu1⟩ : ∃ u1, u1 = wr := ⟨_, rfl⟩
      subst hu1
      go_wp2_with (fail)
      go_loopw [4] (fun i wr => ∃ j : Nat, j ≤ k ∧ i = .int .i64 j ∧ Hid (∀ j', j' < j → lfO Xs k ≠ lfO Xs j') ∧ Below u1.heap.size u1 wr) (fun i _ => k - (intOf i).toNat)
      case atStart => exact ⟨0, by omega, rfl, hid (fun i hi => by omega), Below.refl _ _⟩
      case round =>
        obtain ⟨j, hjk, rfl, HJ, hb2⟩ := hrel
        by_cases hlj : j < k
        · obtain ⟨Y, hY⟩ : ∃ Y, Xs[j]? = some Y := ⟨_, List.getElem?_eq_getElem (by have := HN.out; have := HLT.out; omega)⟩
          obtain ⟨h, p, hh, hYo, hiy⟩ := hr.pickV c HN.out hY
          have b2 : (j : Int) < k := by omega
          have k0 : ∀ P : LaterW wr, P.w.cell? ⟨g, q, none⟩ = some (.int .i64 X.l) := fun P => by
            have := ((HG.out.below HB.out).below hb2).below P.h 0 (.int .i64 X.l) (by rw [Array.getElem?_toList]; exact X.c0)
            rwa [Nat.add_zero] at this
          have k1 : ∀ P : LaterW wr, P.w.cell? ⟨h, p, none⟩ = some (.int .i64 Y.l) := fun P => by
            have := ((hh.below HB.out).below hb2).below P.h 0 (.int .i64 Y.l) (by rw [Array.getElem?_toList]; exact Y.c0)
            rwa [Nat.add_zero] at this
          have HLY := hid (lfO_at hY)
          have HLJ := hid (show j + 1 ≤ k from hlj)
          obtain ⟨t, ht⟩ : ∃ t, decide (X.l = Y.l) = t := ⟨_, rfl⟩
          have e1 : (X.l == Y.l) = t := by rw [← ht]; rfl
          have HT := hid ht
          clear hY hh hYo ht hlj hjk
          go_upto_region 7 with (fail)
          cases t with
          | true =>
            refine wp_region_later mixedW (by kernel_rfl) ?_
            repeat (first
              | ((with_reducible refine wpQuiet_step (fun K hK => ?_)); go_simp; first | ((with_reducible refine hK _ ?_); clear hK K) | (with_reducible apply Exists.intro; (with_reducible refine ⟨fun P => ?_, hK _ ?_⟩); ((fail)); clear hK K))
              | ((with_reducible refine BigFrame.wpQuiet_skip (by first | kernel_rfl | with_unfolding_all rfl) ?_); simp only [Act.put, List.setIfInBounds_toArray, List.set_cons_zero, List.set_cons_succ]))
            with_reducible refine wpQuiet_nil ?_
            intro _ hw9
            obtain ⟨P9, rfl⟩ := hw9
            have hb9 := (HB.out.trans (hb2.mono HB.out.size)).trans (P9.h.mono (HB.out.trans (hb2.mono HB.out.size)).size)
            go_wp2_with (fail)
            go_ret
            exact ⟨rfl, hb9⟩
          | false =>
            refine wp_region_later mixedW (by kernel_rfl) ?_
            repeat (first
              | ((with_reducible refine wpQuiet_step (fun K hK => ?_)); go_simp; first | ((with_reducible refine hK _ ?_); clear hK K) | (with_reducible apply Exists.intro; (with_reducible refine ⟨fun P => ?_, hK _ ?_⟩); ((fail)); clear hK K))
              | ((with_reducible refine BigFrame.wpQuiet_skip (by first | kernel_rfl | with_unfolding_all rfl) ?_); simp only [Act.put, List.setIfInBounds_toArray, List.set_cons_zero, List.set_cons_succ]))
            with_reducible refine wpQuiet_nil ?_
            intro _ hw9
            obtain ⟨P9, rfl⟩ := hw9
            have hb9 := hb2.trans (P9.h.mono hb2.size)
            go_wp2_with (fail)
            go_roundw
            case rel => exact ⟨j + 1, HLJ.out, by go_num, hid (fun j' hj' => by
              by_cases e : j' = j
              · rw [e, HLX.out, HLY.out]; exact of_decide_eq_false HT.out
              · exact HJ.out j' (by omega)), hb9⟩
            case measure => exact meas_wi HLJ.out
        · obtain rfl : j = k := by omega
          have c2 : ¬ (j : Int) < j := by omega
          go_wp2_with (fail)
          go_roundw
          case rel => exact ⟨j + 1, HLT.out, by go_num, hid (fun i' hi' => by
            by_cases e : i' = j
            · rw [e]; exact HJ.out
            · exact HI.out i' (by omega)), HB.out.trans (hb2.mono HB.out.size)⟩
          case measure => exact meas_wi HLT.out
    · obtain rfl : k = n := by omega
      exact absurd (fun i hi => HI.out i (by have := HN.out; omega)) HK.out

end Go.Proofs.YticpdepbgcagaaaGreat
/- witness: rows that come in, with leaves that are ints; Keeps: the document's and the program's (a map). -/
set_option linter.unusedSimpArgs false
set_option linter.unusedVariables false
namespace Go.Proofs.YticpdepbgcagaaaGreat
open Go.RowKit Go.Qc Go.Shelf
attribute [local go_sem] txt_size txt_append ib_fold
def WiIw (w : World) (X : WiD) : Prop := X.ok ∧ (Lit.int .i64 X.l).wf = true
theorem all_wisW {w : World} {g o : Nat} : ∀ (n : Nat), (∀ i, i < n → ∃ X : WiD, WiIw w X ∧ w.rangeAt g (o + i * 33) X.cs.toList) → ∃ Xs : List WiD, Xs.length = n ∧ (∀ X ∈ Xs, WiIw w X) ∧ w.rangeAt g o (wisV Xs)
  | 0, _ => ⟨[], rfl, by simp, fun j v h => by simp [wisV] at h⟩
  | n + 1, h => by
    obtain ⟨Xs, h1, h2, h3⟩ := all_wisW n (fun i hi => h i (by omega))
    obtain ⟨X, hX, hr⟩ := h n (by omega)
    refine ⟨Xs ++ [X], by simp [h1], fun Y hY => ?_, fun j v hj => ?_⟩
    · rcases List.mem_append.1 hY with hY | hY
      · exact h2 Y hY
      · simp at hY; rw [hY]; exact hX
    · rw [wisV_snoc] at hj
      by_cases hlt : j < (wisV Xs).length
      · rw [List.getElem?_append_left hlt] at hj
        exact h3 j v hj
      · rw [List.getElem?_append_right (by omega)] at hj
        rw [wisV_length Xs (fun X hX => (h2 X hX).1), h1] at hj hlt
        have := hr _ _ hj
        rwa [show o + n * 33 + (j - n * 33) = o + j by omega] at this
section
open Go.ChangeShapes Go.WideShapes Go.ChangeAt
variable {H : Type} {enc : TypeId × Value → H} {w : World} {r : Reach} {base b0 : Nat} {sp : Nat → Bool} {hd : Bool}
set_option maxRecDepth 100000 in
theorem trod_wiW {fuel : Nat} {cs : List Value} {x : DataW H × List MemPlace} (h : DataW.trod enc Tryz.prog w base sp hd fuel 67 cs = some x) : ∃ Z : WiD, cs = Z.cs.toList ∧ WiIw w Z := by
  obtain ⟨xs, k, _, _, hl, hxl, hx⟩ := DataW.trod_struct Tryz.underlying67 h
  have hc33 : Tryz.prog.cellsOf 67 = 33 := by kernel_rfl
  have hc1 : Tryz.prog.cellsOf 3 = 1 := by kernel_rfl
  have hci : Tryz.prog.cellsOf 24 = 32 := by kernel_rfl
  rw [hc33] at hl
  have h0 := hx 0 _ rfl
  have h1 := hx 1 _ rfl
  have g : ∀ i : Nat, i < 2 → ∃ y, xs[i]? = some y := fun i hi => ⟨_, List.getElem?_eq_getElem (by rw [hxl]; exact hi)⟩
  obtain ⟨y0, e0⟩ := g 0 (by decide)
  obtain ⟨y1, e1⟩ := g 1 (by decide)
  rw [e0] at h0
  rw [e1] at h1
  obtain ⟨L, q0, _, hLw⟩ := DataW.trod_int Tryz.underlying3 h0
  obtain ⟨K, lK, q1⟩ := trod_id Tryz.underlying24 Tryz.underlying5 (by kernel_rfl) hci h1
  have u0 : (cs.drop 0).take (Tryz.prog.cellsOf 3) = _ := q0
  have u1 : (cs.drop 1).take (Tryz.prog.cellsOf 24) = _ := q1
  rw [hc1] at u0
  rw [hci] at u1
  refine ⟨⟨L, K⟩, ?_, lK, hLw⟩
  have e : cs = (cs.drop 0).take 1 ++ (cs.drop 1).take 32 := by
    rw [List.drop_zero, List.take_of_length_le (by rw [List.length_drop]; omega : (cs.drop 1).length ≤ 32), List.take_append_drop]
  rw [u0, u1] at e
  rw [e]
  unfold WiD.cs idVals
  simp
set_option maxRecDepth 100000 in
theorem open_wiRowW {v : Value} {d : DataW H} {ps : List MemPlace} (hv : Value.okWide Tryz.prog w r b0 22 v) (h : DataW.Trod enc Tryz.prog w base sp hd 22 v d ps) : ∃ a len cap Xs, v = .slice a len cap ∧ WiRow w a len Xs ∧ ∀ X ∈ Xs, (Lit.int .i64 X.l).wf = true := by
  have ht := Tryz.underlying22
  have hn : Tryz.prog.cellsOf 67 = 33 := by kernel_rfl
  obtain ⟨a0, len0, cap0, rfl⟩ := okWide_slice ht hv
  obtain ⟨fuel, hf⟩ := h
  cases fuel with
  | zero => simp [DataW.trod] at hf
  | succ m =>
    rw [DataW.trod_step] at hf
    unfold DataW.trodStep at hf
    simp only [ht, Value.cells] at hf
    cases a0 with
    | none =>
      rcases len0 with _ | len0
      · exact ⟨none, 0, cap0, [], rfl, ⟨rfl, Nat.zero_le _, WiRd.nil_ _ _⟩, by simp⟩
      · simp at hf
    | some a =>
      simp only [hn] at hf
      split at hf
      · rename_i hcond
        simp only [Option.bind_eq_some_iff] at hf
        obtain ⟨ys, hy, _⟩ := hf
        have hy2 := mapM_each _ _ hy
        have hall : ∀ i, i < len0 → ∃ X : WiD, WiIw w X ∧ ∀ j v, X.cs.toList[j]? = some v → w.cell? ((a.add (i * 33)).add j) = some v := fun i hi => by
          obtain ⟨y, hy⟩ := hy2 i (List.mem_range.2 (by omega))
          simp only [Option.bind_eq_some_iff] at hy
          obtain ⟨cs, hcs, htr⟩ := hy
          obtain ⟨Z, rfl, hZ⟩ := trod_wiW htr
          refine ⟨Z, hZ, fun j v hj => ?_⟩
          have hj33 : j < 33 := by have := (List.getElem?_eq_some_iff.1 hj).1; rw [Array.length_toList, WiD.size hZ.1] at this; exact this
          exact ((World.cells?_some hcs).2.2 j hj33).trans hj
        by_cases h0 : len0 = 0
        · subst h0
          exact ⟨_, _, _, [], rfl, ⟨rfl, Nat.zero_le _, WiRd.nil_ _ _⟩, by simp⟩
        · have hsp : a.spot = none := by
            obtain ⟨X, hX, hr⟩ := hall 0 (by omega)
            obtain ⟨v, hv⟩ : ∃ v, X.cs.toList[0]? = some v := ⟨_, List.getElem?_eq_getElem (by rw [Array.length_toList, WiD.size hX.1]; omega)⟩
            have := hr 0 v hv
            cases hs : a.spot with
            | none => rfl
            | some s => simp [Addr.add, World.cell?, hs] at this; split at this <;> simp_all
          obtain ⟨g, o, sp⟩ := a
          obtain rfl : sp = none := hsp
          obtain ⟨Xs, h1, h2, h3⟩ := all_wisW (w := w) (g := g) (o := o) len0 (fun i hi => by
            obtain ⟨X, hX, hr⟩ := hall i hi
            refine ⟨X, hX, fun j v hj => ?_⟩
            have := hr j v hj
            rwa [Addr.add_lit, Addr.add_lit] at this)
          exact ⟨_, _, _, Xs, rfl, ⟨h1, by omega, ⟨fun X hX => (h2 X hX).1, .inr ⟨g, o, rfl, h3⟩⟩⟩, fun X hX => (h2 X hX).2⟩
      · cases hf
end

set_option maxRecDepth 100000 in
set_option maxHeartbeats 20000000 in
theorem wrkeeps_yes (A : Option Addr) (n c : Nat) (Xs : List WiD) (hn : Xs.length = n) (bn : n ≤ 1000) (w : World) (hr : WiRd w A Xs) (hk : KpP Xs) :
    Calls Tryz.prog 14 #[.slice A n c] w fun e w' => e = .returned (.bool true) ∧ Below w.heap.size w w' := by
  have HN := hid hn
  have HK := hid hk
  clear hn hk
  go_enter Tryz.func14, Tryz.ntmps14
  go_wp2_with (fail)
  go_loopw [3] (fun i wr => ∃ k : Nat, k ≤ n ∧ i = .int .i64 k ∧ Hid (∀ i', i' < k → ∀ j, j < i' → lfO Xs i' ≠ lfO Xs j) ∧ Below w.heap.size w wr) (fun i _ => n - (intOf i).toNat)
  case atStart => exact ⟨0, by omega, rfl, hid (fun i hi => by omega), Below.refl _ _⟩
  case round =>
    obtain ⟨k, hkn, rfl, HI, hb⟩ := hrel
    by_cases hlt : k < n
    · obtain ⟨X, hX⟩ : ∃ X, Xs[k]? = some X := ⟨_, List.getElem?_eq_getElem (by have := HN.out; omega)⟩
      obtain ⟨g, q, hg, hXo, hix⟩ := hr.pickV c HN.out hX
      have b1 : (k : Int) < n := by omega
      have HB := hid hb
      have HLX := hid (lfO_at hX)
      have HG := hid hg
      have HLT := hid (show k + 1 ≤ n from hlt)
      clear hX hg hb hlt hkn hXo
      obtain ⟨u1, hu1⟩ : ∃ u1, u1 = wr := ⟨_, rfl⟩
      subst hu1
      go_wp2_with (fail)
      go_loopw [4] (fun i wr => ∃ j : Nat, j ≤ k ∧ i = .int .i64 j ∧ Hid (∀ j', j' < j → lfO Xs k ≠ lfO Xs j') ∧ Below u1.heap.size u1 wr) (fun i _ => k - (intOf i).toNat)
      case atStart => exact ⟨0, by omega, rfl, hid (fun i hi => by omega), Below.refl _ _⟩
      case round =>
        obtain ⟨j, hjk, rfl, HJ, hb2⟩ := hrel
        by_cases hlj : j < k
        · obtain ⟨Y, hY⟩ : ∃ Y, Xs[j]? = some Y := ⟨_, List.getElem?_eq_getElem (by have := HN.out; have := HLT.out; omega)⟩
          obtain ⟨h, p, hh, hYo, hiy⟩ := hr.pickV c HN.out hY
          have b2 : (j : Int) < k := by omega
          have k0 : ∀ P : LaterW wr, P.w.cell? ⟨g, q, none⟩ = some (.int .i64 X.l) := fun P => by
            have := ((HG.out.below HB.out).below hb2).below P.h 0 (.int .i64 X.l) (by rw [Array.getElem?_toList]; exact X.c0)
            rwa [Nat.add_zero] at this
          have k1 : ∀ P : LaterW wr, P.w.cell? ⟨h, p, none⟩ = some (.int .i64 Y.l) := fun P => by
            have := ((hh.below HB.out).below hb2).below P.h 0 (.int .i64 Y.l) (by rw [Array.getElem?_toList]; exact Y.c0)
            rwa [Nat.add_zero] at this
          have HLY := hid (lfO_at hY)
          have HLJ := hid (show j + 1 ≤ k from hlj)
          obtain ⟨t, ht⟩ : ∃ t, decide (X.l = Y.l) = t := ⟨_, rfl⟩
          have e1 : (X.l == Y.l) = t := by rw [← ht]; rfl
          have HT := hid ht
          clear hY hh hYo ht hlj hjk
          go_upto_region 7 with (fail)
          cases t with
          | true => exact absurd (by rw [HLX.out, HLY.out]; exact of_decide_eq_true HT.out) (HK.out k (by have := HN.out; have := HLT.out; omega) j HLJ.out)
          | false =>
            refine wp_region_later mixedW (by kernel_rfl) ?_
            repeat (first
              | ((with_reducible refine wpQuiet_step (fun K hK => ?_)); go_simp; first | ((with_reducible refine hK _ ?_); clear hK K) | (with_reducible apply Exists.intro; (with_reducible refine ⟨fun P => ?_, hK _ ?_⟩); ((fail)); clear hK K))
              | ((with_reducible refine BigFrame.wpQuiet_skip (by first | kernel_rfl | with_unfolding_all rfl) ?_); simp only [Act.put, List.setIfInBounds_toArray, List.set_cons_zero, List.set_cons_succ]))
            with_reducible refine wpQuiet_nil ?_
            intro _ hw9
            obtain ⟨P9, rfl⟩ := hw9
            have hb9 := hb2.trans (P9.h.mono hb2.size)
            go_wp2_with (fail)
            go_roundw
            case rel => exact ⟨j + 1, HLJ.out, by go_num, hid (fun j' hj' => by
              by_cases e : j' = j
              · rw [e, HLX.out, HLY.out]; exact of_decide_eq_false HT.out
              · exact HJ.out j' (by omega)), hb9⟩
            case measure => exact meas_wi HLJ.out
        · obtain rfl : j = k := by omega
          have c2 : ¬ (j : Int) < j := by omega
          go_wp2_with (fail)
          go_roundw
          case rel => exact ⟨j + 1, HLT.out, by go_num, hid (fun i' hi' => by
            by_cases e : i' = j
            · rw [e]; exact HJ.out
            · exact HI.out i' (by omega)), HB.out.trans (hb2.mono HB.out.size)⟩
          case measure => exact meas_wi HLT.out
    · obtain rfl : k = n := by omega
      have c1 : ¬ (k : Int) < k := by omega
      go_wp2_with (fail)
      go_ret
      exact ⟨rfl, hb⟩


def lvF (m : DataW Unit) (X : WiD) : DataW Unit := m.put (.int .i64 X.l) (.lit (.bool true))
/-- The map behind k rows. -/
def lvD (Xs : List WiD) (k : Nat) : DataW Unit := (Xs.take k).foldl lvF (.map [])
theorem lvD_succ {Xs : List WiD} {k : Nat} {X : WiD} (h : Xs[k]? = some X) : lvD Xs (k + 1) = (lvD Xs k).put (.int .i64 X.l) (.lit (.bool true)) := by
  unfold lvD
  rw [take_snocW h, List.foldl_append]
  rfl
theorem lv_fold (l : Int) : ∀ (L : List WiD) (D : DataW Unit) (b : Bool), Maps.IsMap D → D.atKey (.int .i64 l) (.lit (.bool false)) = .lit (.bool b) → (L.foldl lvF D).atKey (.int .i64 l) (.lit (.bool false)) = .lit (.bool (b || L.any fun Y => decide (Y.l = l)))
  | [], D, b, _, h => by simpa using h
  | Y :: L, D, b, hD, h => by
    rw [List.foldl_cons]
    by_cases e : Y.l = l
    · rw [lv_fold l L (lvF D Y) true (hD.put _ _) (by unfold lvF; rw [e]; exact Maps.atKey_put_same hD (by trivial) _ _)]
      simp [e]
    · rw [lv_fold l L (lvF D Y) b (hD.put _ _) (by unfold lvF; rw [Maps.atKey_put_other (by intro h; cases h; exact e rfl)]; exact h)]
      simp [e]
theorem lvD_at (Xs : List WiD) (k : Nat) (l : Int) : (lvD Xs k).atKey (.int .i64 l) (.lit (.bool false)) = .lit (.bool ((Xs.take k).any fun Y => decide (Y.l = l))) := by
  unfold lvD
  rw [lv_fold l _ _ false Maps.isMap_empty rfl]
  simp
theorem lv_any {Xs : List WiD} {k : Nat} {l : Int} (hk : k ≤ Xs.length) : ((Xs.take k).any fun Y => decide (Y.l = l)) = true ↔ ∃ j, j < k ∧ lfO Xs j = l := by
  rw [List.any_eq_true]
  constructor
  · rintro ⟨Y, hY, e⟩
    obtain ⟨j, hj⟩ := List.getElem?_of_mem hY
    have lj := (List.getElem?_eq_some_iff.1 hj).1
    rw [List.length_take] at lj
    rw [List.getElem?_take_of_lt (by omega)] at hj
    exact ⟨j, by omega, by rw [lfO_at hj]; exact of_decide_eq_true e⟩
  · rintro ⟨j, hj, e⟩
    obtain ⟨Y, hY⟩ : ∃ Y, Xs[j]? = some Y := ⟨_, List.getElem?_eq_getElem (by omega)⟩
    exact ⟨Y, List.mem_of_getElem? (i := j) (by rw [List.getElem?_take_of_lt hj]; exact hY), by rw [← e, lfO_at hY]; exact decide_eq_true rfl⟩
theorem zeroBoolW (w : World) : (zeroValue 4).run Tryz.prog w = .ok (.bool false) w := by kernel_rfl
theorem plainElem_bool_invW {H : Type} {P : Program} {e : TypeId} (he : P.underlying e = some .bool) {v : Value} {z : DataW H × List MemPlace} (h : plainElem P e v = some z) : ∃ x, v = .bool x ∧ z = (.lit (.bool x), []) := by
  unfold plainElem at h
  rw [he] at h
  cases v <;> simp at h
  exact ⟨_, rfl, h.symm⟩
theorem wpList_lookup_boolW {w : World} {ops : Array Oper} {rest : List Oper} {o : Oper} {a : Act} {Q : Exit → Act → World → Prop} (hg : o.guard = none) (m x : Operand) (hop : o.op = Op.lookup 85 m x false)
    (b n : Nat) (D : DataW Unit) (hm : a.eval m = .map (some b)) (hown : w.ownsMap Tryz.prog 3 (plainElem Tryz.prog 4) b n D) (l : Int) (hx : a.eval x = .int .i64 l) (hw : (Lit.int .i64 l).wf = true)
    (r : Bool) (hr : D.atKey (.int .i64 l) (.lit (.bool false)) = .lit (.bool r)) (hK : wpList Tryz.prog ops Q rest (a.put o.dst (.bool r)) w) : wpList Tryz.prog ops Q (o :: rest) a w := by
  refine wpList_plain hg fun K' hK' => ?_
  obtain ⟨v, ps, hrun, hv⟩ := hown.lookup (Maps.int_keyed Tryz.underlying3) Tryz.underlying85 (zeroBoolW w) (plainElem_bool Tryz.underlying4 false) (Maps.keyOf_int_mk Tryz.underlying3 hw)
  rw [hr] at hv
  obtain ⟨y, rfl, e⟩ := plainElem_bool_invW Tryz.underlying4 hv
  simp only [Prod.mk.injEq, DataW.lit.injEq, Lit.bool.injEq] at e
  obtain ⟨rfl, _⟩ := e
  unfold Oper.wp
  simp [execOp, hop, hm, hx, hrun, Result.andThen]
  exact hK' _ _ hK
set_option maxRecDepth 100000 in
set_option maxHeartbeats 20000000 in
theorem wkeeps_any (A : Option Addr) (n c : Nat) (Xs : List WiD) (hn : Xs.length = n) (bn : n ≤ 1000) (w : World) (rA : WiRd w A Xs) (hwf : ∀ X ∈ Xs, (Lit.int .i64 X.l).wf = true) (t : Bool) (ht : t = true ↔ KpP Xs) :
    Calls Tryz.prog 21 #[.slice A n c] w fun e w' => e = .returned (.bool t) ∧ Below w.heap.size w w' := by
  have HN := hid hn
  have HT := hid ht
  have HW := hid hwf
  have hu := Tryz.underlying24
  have hmm := @run_makeMap Tryz.prog
  clear hn ht hwf
  go_enter Tryz.func21, Tryz.ntmps21
  go_wp2
  go_loopw [9] (fun i wr => ∃ k : Nat, k ≤ n ∧ i = .int .i64 k ∧ wr.ownsMap Tryz.prog 3 (plainElem Tryz.prog 4) w.heap.size k (lvD Xs k) ∧ Hid (∀ i', i' < k → ∀ j, j < i' → lfO Xs i' ≠ lfO Xs j) ∧ Below w.heap.size w wr) (fun i _ => n - (intOf i).toNat)
  case atStart => exact ⟨0, by omega, rfl, World.ownsMap_made _ _ _ _, hid (fun i hi => by omega), (Below.refl _ _).alloc (Nat.le_refl _) _⟩
  case round =>
    obtain ⟨k, hkn, rfl, hown, HI, hb⟩ := hrel
    by_cases hlt : k < n
    · obtain ⟨X, hX⟩ : ∃ X, Xs[k]? = some X := ⟨_, List.getElem?_eq_getElem (by have := HN.out; omega)⟩
      obtain ⟨g, q, hg, hXo, hix⟩ := rA.pick c HN.out hX
      have b1 : (k : Int) < n := by omega
      have fX := hg.below hb
      have hnw := WiX.new wr X
      have hba := (Below.refl wr.heap.size wr).alloc (Nat.le_refl _) (.cells X.cs 67)
      have c0 := hnw.c0
      have hkw : (Lit.int .i64 X.l).wf = true := HW.out X (List.mem_of_getElem? hX)
      have hown1 := hown.alloc (.cells X.cs 67)
      have hb1 := hb.trans (hba.mono hb.size)
      have hat := lvD_at Xs k X.l
      have hva := lv_any (Xs := Xs) (k := k) (l := X.l) (by have := HN.out; omega)
      have HLT := hid (show k + 1 ≤ n from hlt)
      have HS := hid (lvD_succ hX)
      have HLX := hid (lfO_at hX)
      have hkM : k < maxLen := by unfold maxLen; omega
      clear hX hg hown hba hb hlt hkn
      generalize ((Xs.take k).any fun Y => decide (Y.l = X.l)) = r at hat hva
      have HV := hid hva
      clear hva
      cases r with
      | true =>
        have e : t = false := by
          obtain ⟨j, hj, e⟩ := HV.out.1 rfl
          cases h : t with
          | false => rfl
          | true => exact absurd (by rw [HLX.out, e]) (HT.out.1 h k (by have := HN.out; have := HLT.out; omega) j hj)
        subst e
        go_wp2_with (first
          | (with_reducible refine wpList_load_wir (by with_unfolding_all rfl) _ rfl _ _ rfl fX hXo ?_)
          | (with_reducible refine wpList_store_win rfl _ _ rfl rfl rfl hXo (by with_unfolding_all rfl) ?_)
          | (at_lookup; refine wpList_lookup_boolW rfl _ _ rfl w.heap.size k _ rfl hown1 X.l rfl hkw true hat ?_))
        go_ret
        exact ⟨rfl, hb1⟩
      | false =>
        go_wp2_with (first
          | (with_reducible refine wpList_load_wir (by with_unfolding_all rfl) _ rfl _ _ rfl fX hXo ?_)
          | (with_reducible refine wpList_store_win rfl _ _ rfl rfl rfl hXo (by with_unfolding_all rfl) ?_)
          | (at_lookup; refine wpList_lookup_boolW rfl _ _ rfl w.heap.size k _ rfl hown1 X.l rfl hkw false hat ?_)
          | (at_mapUpdate; refine wpList_mapUpdate_own _ rfl _ _ _ 85 rfl 3 4 (Maps.int_keyed Tryz.underlying3) Tryz.underlying85 (plainElem (H := Unit) Tryz.prog 4) w.heap.size k _ rfl hown1 hkM _ _ _ rfl rfl (Maps.keyOf_int_mk Tryz.underlying3 hkw) _ [] (plainElem_bool Tryz.underlying4 true) ?_; intro w1 hown2 hgrow1))
        go_roundw
        case rel => exact ⟨k + 1, HLT.out, by go_num, by rw [HS.out]; exact hown2, hid (fun i' hi' j hj => by
          by_cases e : i' = k
          · subst e
            intro e2
            have := HV.out.2 ⟨j, hj, by rw [← e2, HLX.out]⟩
            cases this
          · exact HI.out i' (by omega) j hj), hb1.grown hgrow1 hb1.size (fun j hj => by cases hj; exact Nat.le_refl _)⟩
        case measure => exact meas_wi HLT.out
    · obtain rfl : k = n := by omega
      have c1 : ¬ (k : Int) < k := by omega
      have e : t = true := HT.out.2 (fun i hi => HI.out i (by have := HN.out; omega))
      subst e
      go_wp2
      go_ret
      exact ⟨rfl, hb⟩
end Go.Proofs.YticpdepbgcagaaaGreat

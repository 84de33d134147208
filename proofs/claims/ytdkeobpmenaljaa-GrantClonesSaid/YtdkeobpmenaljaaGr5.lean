
/- grant: where a grant stands among others: slices.BinarySearchFunc. -/
import Derived.Test.YtdkeobpmenaljaaGr4
set_option linter.unusedSimpArgs false
set_option linter.unusedVariables false
namespace Go.Proofs.Ytdkeobpmenaljaa
open Go.RowKit Go.Qc Go.Shelf
attribute [local go_sem] txt_size txt_append ib_fold txt_toL

theorem lo_at {Xs : List GrD} {Y X : GrD} {h : Nat} (hx : Xs[h]? = some X) (hz : cmpG X Y < 0) : ∀ k, h + 1 = k + 1 → ∃ X, Xs[k]? = some X ∧ cmpG X Y < 0 := fun k e => by
  obtain rfl : h = k := by omega
  exact ⟨X, hx, hz⟩
theorem wpQuiet_load_gr {ops : Array Oper} {C : World → Prop} {Q : Act → Prop} {rest : List Oper} {o : Oper} {a : Act} (hw : Region.wanted o (yielded ops a.tmps) = true) (x : Operand) (ho : o.op = .load 113 x)
    (b off : Nat) (hx : a.eval x = .pointer (some ⟨b, off, none⟩)) (X : GrD) (hc : ∀ w, C w → w.rangeAt b off X.cs.toList) (hK : X.ok)
    (h : wpQuiet Try.prog ops C Q rest (a.put o.dst (.agg X.cs))) : wpQuiet Try.prog ops C Q (o :: rest) a := by
  refine wpQuiet_load_if hw 113 x ho b off hx X.cs.toList _ hc Try.underlying113 rfl ?_ ?_
  · rw [Array.length_toList]; exact Gr_info X hK
  · rw [Array.toArray_toList]; exact h
theorem GrX.range {W : World} {g : Nat} {X : GrD} (h : GrX W g X) : W.rangeAt g 0 X.cs.toList := fun j v hj => by rw [Nat.zero_add]; exact h.b.cell_ (by rw [← Array.getElem?_toList]; exact hj)
/-- A place among grants: what stands ahead of it is less, what stands at it isn't. -/
structure PlG (Xs : List GrD) (Y : GrD) (p : Nat) : Prop where
  le : p ≤ Xs.length
  lo : ∀ k, p = k + 1 → ∃ X, Xs[k]? = some X ∧ cmpG X Y < 0
  hi : ∀ X, Xs[p]? = some X → ¬ cmpG X Y < 0
def cmpAt (Xs : List GrD) (Y : GrD) (h : Nat) : Int := match Xs[h]? with | some X => cmpG X Y | none => 0
def bsF (Xs : List GrD) (Y : GrD) : Nat → Nat → Nat → Nat
  | 0, p, _ => p
  | m + 1, p, q => if p < q then (if cmpAt Xs Y ((p + q) / 2) < 0 then bsF Xs Y m ((p + q) / 2 + 1) q else bsF Xs Y m p ((p + q) / 2)) else p
/-- The place that the search tells. -/
def plG (Xs : List GrD) (Y : GrD) : Nat := bsF Xs Y Xs.length 0 Xs.length
theorem bsF_same (Xs : List GrD) (Y : GrD) (p : Nat) : ∀ m, bsF Xs Y m p p = p
  | 0 => rfl
  | m + 1 => by rw [bsF, if_neg (Nat.lt_irrefl _)]
theorem bsF_ok (Xs : List GrD) (Y : GrD) : ∀ (m p q : Nat), q - p ≤ m → p ≤ q → q ≤ Xs.length → (∀ k, p = k + 1 → ∃ X, Xs[k]? = some X ∧ cmpG X Y < 0) → (∀ X, Xs[q]? = some X → ¬ cmpG X Y < 0) → PlG Xs Y (bsF Xs Y m p q)
  | 0, p, q, hm, hpq, hq, hlo, hhi => by
    obtain rfl : p = q := by omega
    exact ⟨hq, hlo, hhi⟩
  | m + 1, p, q, hm, hpq, hq, hlo, hhi => by
    rw [bsF]
    by_cases hlt : p < q
    · rw [if_pos hlt]
      obtain ⟨X, hx⟩ : ∃ X, Xs[(p + q) / 2]? = some X := ⟨_, List.getElem?_eq_getElem (by omega)⟩
      have hc : cmpAt Xs Y ((p + q) / 2) = cmpG X Y := by unfold cmpAt; rw [hx]
      rw [hc]
      by_cases hz : cmpG X Y < 0
      · rw [if_pos hz]
        exact bsF_ok Xs Y m _ q (by omega) (by omega) hq (lo_at hx hz) hhi
      · rw [if_neg hz]
        exact bsF_ok Xs Y m p _ (by omega) (by omega) (by omega) hlo (fun X' e => by rw [hx] at e; cases e; exact hz)
    · obtain rfl : p = q := by omega
      rw [if_neg hlt]
      exact ⟨hq, hlo, hhi⟩
theorem plG_ok (Xs : List GrD) (Y : GrD) : PlG Xs Y (plG Xs Y) := bsF_ok Xs Y _ _ _ (by omega) (by omega) (Nat.le_refl _) (fun k h => by omega) (fun X h => by have := (List.getElem?_eq_some_iff.1 h).1; omega)
theorem bsF_hi {Xs : List GrD} {Y X : GrD} {m p q h P : Nat} (hb : bsF Xs Y m p q = P) (hm : q - p ≤ m) (hlt : p < q) (hh : (p + q) / 2 = h) (hx : Xs[h]? = some X) (hz : cmpG X Y < 0) : ∃ m, q - (h + 1) ≤ m ∧ bsF Xs Y m (h + 1) q = P := by
  cases m with
  | zero => omega
  | succ m =>
    have hc : cmpAt Xs Y ((p + q) / 2) = cmpG X Y := by unfold cmpAt; rw [hh, hx]
    rw [bsF, if_pos hlt, hc, if_pos hz, hh] at hb
    exact ⟨m, by omega, hb⟩
theorem bsF_lo {Xs : List GrD} {Y X : GrD} {m p q h P : Nat} (hb : bsF Xs Y m p q = P) (hm : q - p ≤ m) (hlt : p < q) (hh : (p + q) / 2 = h) (hx : Xs[h]? = some X) (hz : ¬ cmpG X Y < 0) : ∃ m, h - p ≤ m ∧ bsF Xs Y m p h = P := by
  cases m with
  | zero => omega
  | succ m =>
    have hc : cmpAt Xs Y ((p + q) / 2) = cmpG X Y := by unfold cmpAt; rw [hh, hx]
    rw [bsF, if_pos hlt, hc, if_neg hz, hh] at hb
    exact ⟨m, by omega, hb⟩
def thereB (Xs : List GrD) (Y : GrD) (p : Nat) : Bool := match Xs[p]? with | some X => cmpG X Y == 0 | none => false

set_option maxRecDepth 100000 in
set_option maxHeartbeats 20000000 in
theorem gbs_any (A : Option Addr) (n c : Nat) (Xs : List GrD) (Y : GrD) (hY : Y.ok) (w : World) (hn : Xs.length = n) (bn : n ≤ 1000) (hr : GrRd w A Xs) :
    Calls Try.prog 139 #[.slice A n c, .agg Y.cs, .func (.func 140) #[] #[]] w fun e w' => e = .returned (.tuple #[.int .i64 (plG Xs Y : Nat), .bool (thereB Xs Y (plG Xs Y))]) ∧ Below w.heap.size w w' := by
  obtain ⟨PP, hPP⟩ : ∃ P, P = plG Xs Y := ⟨_, rfl⟩
  rw [← hPP]
  have HPP := hid (show bsF Xs Y n 0 n = PP by rw [hPP, ← hn]; rfl)
  clear hPP
  have hX : Below w.heap.size w (w.alloc (.cells Y.cs 113)) := (Below.refl _ w).alloc (Nat.le_refl _) _
  have hbx := (GrX.new w Y).range
  have hN := hid hn
  go_enter Try.func139, Try.ntmps139
  go_wp2_with (fail)
  generalize w.alloc (.cells Y.cs 113) = W0 at *
  go_loopw [9, 10] (fun i j wr => ∃ p q : Nat, i = .int .i64 p ∧ j = .int .i64 q ∧ p ≤ q ∧ q ≤ n ∧ Hid (∃ m, q - p ≤ m ∧ bsF Xs Y m p q = PP) ∧ Below W0.heap.size W0 wr) (fun i j _ => (intOf j).toNat - (intOf i).toNat)
  case atStart => exact ⟨0, n, rfl, rfl, by omega, by omega, hid ⟨n, by omega, HPP.out⟩, Below.refl _ _⟩
  case round =>
    obtain ⟨p, q, rfl, rfl, hpq, hq, HB, hb⟩ := hrel
    by_cases hlt : p < q
    · have b1 : (p : Int) < q := by omega
      obtain ⟨h, hh, h1, h2⟩ : ∃ h : Nat, ((p : Int) + (q : Int)) / 2 = (h : Int) ∧ p ≤ h ∧ h < q := ⟨(p + q) / 2, by omega, by omega, by omega⟩
      obtain ⟨X, hx⟩ : ∃ X, Xs[h]? = some X := ⟨_, List.getElem?_eq_getElem (by omega)⟩
      obtain ⟨g, oo, hg, hXo, hix⟩ := hr.pick c hN.out hx
      have fx := range_later ((hg.below hX).below hb)
      have fa := range_later (hbx.below hb)
      obtain ⟨z, hz⟩ : ∃ z, cmpG X Y = z := ⟨_, rfl⟩
      have HH := hid (show (p + q) / 2 = h by omega)
      have hord : ∀ W : World, Calls Try.prog 140 #[.agg X.cs, .agg Y.cs] W fun e w' => e = .returned (.int .i64 z) ∧ Below W.heap.size W w' := fun W => by rw [← hz]; exact gcmp_any X Y hXo hY W
      have HZ := hid hz
      have HX := hid hx
      clear hz hx hn hg
      go_wp2
      try simp only [hh]
      refine wp_region_later mixed10 (by kernel_rfl) ?_
      repeat (first
        | ((with_reducible refine wpQuiet_load_gr (by with_unfolding_all rfl) _ rfl _ _ rfl X fx hXo ?_); simp only [Act.put, List.setIfInBounds_toArray, List.set_cons_zero, List.set_cons_succ])
        | ((with_reducible refine wpQuiet_load_gr (by with_unfolding_all rfl) _ rfl _ _ rfl Y fa hY ?_); simp only [Act.put, List.setIfInBounds_toArray, List.set_cons_zero, List.set_cons_succ])
        | ((with_reducible refine wpQuiet_step (fun K hK => ?_)); go_simp; first | ((with_reducible refine hK _ ?_); clear hK K) | (with_reducible apply Exists.intro; (with_reducible refine ⟨fun P => ?_, hK _ ?_⟩); ((go_at_call 140; exact later_of (hord _))); clear hK K))
        | ((with_reducible refine BigFrame.wpQuiet_skip (by first | kernel_rfl | with_unfolding_all rfl) ?_); simp only [Act.put, List.setIfInBounds_toArray, List.set_cons_zero, List.set_cons_succ]))
      with_reducible refine wpQuiet_nil ?_
      intro _ hw9
      obtain ⟨P9, rfl⟩ := hw9
      have hp := P9.h
      generalize P9.w = wq at *
      replace hb := hb.trans (hp.mono hb.size)
      by_cases zz : z < 0
      · go_wp2
        go_roundw
        case rel => exact ⟨h + 1, q, by go_num, by first | rfl | trivial, by omega, hq, hid (by obtain ⟨m, hm, hbm⟩ := HB.out; exact bsF_hi hbm hm hlt HH.out HX.out (by rw [HZ.out]; exact zz)), hb⟩
        case measure => simp [intOf]; omega
      · go_wp2
        go_roundw
        case rel => exact ⟨p, h, by first | rfl | trivial, by first | rfl | trivial, h1, by omega, hid (by obtain ⟨m, hm, hbm⟩ := HB.out; exact bsF_lo hbm hm hlt HH.out HX.out (by rw [HZ.out]; exact Int.not_lt.2 (Int.not_lt.1 zz))), hb⟩
        case measure => simp [intOf]; omega
    · obtain rfl : p = q := by omega
      have b1 : ¬ (p : Int) < p := by omega
      have hPp : PP = p := by obtain ⟨m, _, hbm⟩ := HB.out; rw [bsF_same] at hbm; exact hbm.symm
      replace hPp := hPp.symm
      subst hPp
      by_cases hlt2 : p < n
      · have b2 : (p : Int) < n := by omega
        obtain ⟨X, hx⟩ : ∃ X, Xs[p]? = some X := ⟨_, List.getElem?_eq_getElem (by omega)⟩
        obtain ⟨g, oo, hg, hXo, hix⟩ := hr.pick c hN.out hx
        have fx := range_later ((hg.below hX).below hb)
        have fa := range_later (hbx.below hb)
        obtain ⟨z, hz⟩ : ∃ z, cmpG X Y = z := ⟨_, rfl⟩
        have hord : ∀ W : World, Calls Try.prog 140 #[.agg X.cs, .agg Y.cs] W fun e w' => e = .returned (.int .i64 z) ∧ Below W.heap.size W w' := fun W => by rw [← hz]; exact gcmp_any X Y hXo hY W
        have HT := hid (show thereB Xs Y p = (z == 0) by unfold thereB; rw [hx, ← hz])
        clear hz hx hn hg
        go_wp2
        refine wp_region_later mixed10 (by kernel_rfl) ?_
        repeat (first
          | ((with_reducible refine wpQuiet_load_gr (by with_unfolding_all rfl) _ rfl _ _ rfl X fx hXo ?_); simp only [Act.put, List.setIfInBounds_toArray, List.set_cons_zero, List.set_cons_succ])
          | ((with_reducible refine wpQuiet_load_gr (by with_unfolding_all rfl) _ rfl _ _ rfl Y fa hY ?_); simp only [Act.put, List.setIfInBounds_toArray, List.set_cons_zero, List.set_cons_succ])
          | ((with_reducible refine wpQuiet_step (fun K hK => ?_)); go_simp; first | ((with_reducible refine hK _ ?_); clear hK K) | (with_reducible apply Exists.intro; (with_reducible refine ⟨fun P => ?_, hK _ ?_⟩); ((go_at_call 140; exact later_of (hord _))); clear hK K))
          | ((with_reducible refine BigFrame.wpQuiet_skip (by first | kernel_rfl | with_unfolding_all rfl) ?_); simp only [Act.put, List.setIfInBounds_toArray, List.set_cons_zero, List.set_cons_succ]))
        with_reducible refine wpQuiet_nil ?_
        intro _ hw9
        obtain ⟨P9, rfl⟩ := hw9
        have hp := P9.h
        generalize P9.w = wq at *
        replace hb := hb.trans (hp.mono hb.size)
        go_wp2
        go_ret2
        exact ⟨by rw [HT.out]; rfl, hX.trans (hb.mono hX.size)⟩
      · obtain rfl : p = n := by omega
        have HT := hid (show thereB Xs Y p = false by unfold thereB; rw [List.getElem?_eq_none (by rw [hN.out]; exact Nat.le_refl _)])
        have b2 : ¬ (p : Int) < p := by omega
        clear hn
        go_wp2
        refine wp_region_later mixed10 (by kernel_rfl) ?_
        repeat (first
          | ((with_reducible refine wpQuiet_step (fun K hK => ?_)); go_simp; first | ((with_reducible refine hK _ ?_); clear hK K) | (with_reducible apply Exists.intro; (with_reducible refine ⟨fun P => ?_, hK _ ?_⟩); ((fail)); clear hK K))
          | ((with_reducible refine BigFrame.wpQuiet_skip (by first | kernel_rfl | with_unfolding_all rfl) ?_); simp only [Act.put, List.setIfInBounds_toArray, List.set_cons_zero, List.set_cons_succ]))
        with_reducible refine wpQuiet_nil ?_
        intro _ hw9
        obtain ⟨P9, rfl⟩ := hw9
        have hp := P9.h
        generalize P9.w = wq at *
        replace hb := hb.trans (hp.mono hb.size)
        go_wp2
        go_ret2
        exact ⟨by rw [HT.out]; rfl, hX.trans (hb.mono hX.size)⟩

end Go.Proofs.Ytdkeobpmenaljaa

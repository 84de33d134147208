
/- hunk: many hunks, one behind the other: All. -/
import Derived.Test.YtjaenffdbhgmeaaHunkApplies
import Derived.Test.YtjaenffdbhgmeaaHk16
set_option linter.unusedSimpArgs false
set_option linter.unusedVariables false
namespace Go.Proofs.Ytjaenffdbhgmeaa
open Go.RowKit Go.Qc Go.Shelf
attribute [local go_sem] txt_size txt_append ib_fold txt_toL

/-- A hunk in memory, three cells in a row. -/
def HkAt (w : World) (p : Addr) (h : HunkD) : Prop := ∃ A n c B m d, w.cell? ⟨p.block, p.off, none⟩ = some (.int .i64 h.1) ∧ w.cell? ⟨p.block, p.off + 1, none⟩ = some (.slice A n c) ∧ w.cell? ⟨p.block, p.off + 2, none⟩ = some (.slice B m d) ∧ h.2.1.length = n ∧ n ≤ 1000 ∧ h.2.2.length = m ∧ m ≤ 1000 ∧ (B = none → d = 0) ∧ Rd w A (h.2.1.map strV) ∧ Rd w B (h.2.2.map strV)
theorem below_cell {w W : World} (hb : Below w.heap.size w W) {p : Addr} {u : Value} (h : w.cell? p = some u) : W.cell? p = some u := by
  have := Rd.below (w := w) (w' := W) (A := some p) (xs := [u]) (.inr ⟨p, rfl, fun j v hv => by
    match j, hv with
    | 0, hv => cases hv; simpa [Addr.add] using h
    | j + 1, hv => simp at hv⟩) hb
  rcases this with h0 | ⟨ad, h1, h2⟩
  · simp at h0
  · cases h1; simpa [Addr.add] using h2 0 u rfl
set_option maxRecDepth 100000 in
set_option maxHeartbeats 8000000 in
theorem hall_any (L : Option Addr) (k e : Nat) (ls : List (List UInt8)) (hk : ls.length = k) (bk : k ≤ 1000) (hll : linesR ls = true) (AH : Option Addr) (N cc : Nat) (bN : N ≤ 1000000) (vs : List HunkD) (R : List (List UInt8)) (K : Nat) (z : Int) (hst : stepsR ls vs 0 = (R, K, z)) (hN : (z = 0 ∧ vs.length = N) ∨ (z ≠ 0 ∧ vs.length ≤ N)) (w : World)
    (hL : Rd w L (ls.map strV)) (hrow : ∀ j h, vs[j]? = some h → ∃ g o, AH = some ⟨g, o, none⟩ ∧ HkAt w ⟨g, o + j * 3, none⟩ h) :
    Calls Try.prog 16 #[.slice L k e, .slice AH N cc] w fun e w' => ∃ A1 n1 c1, e = .returned (.tuple #[.slice A1 n1 c1, .int .i64 K, .int .i64 z]) ∧ R.length = n1 ∧ n1 ≤ c1 ∧ (A1 = none → c1 = 0) ∧ Rd w' A1 (R.map strV) ∧ Below w.heap.size w w' := by
  have cL := lines_any L k e ls hk (by omega) w hL
  rw [hll] at cL
  have cC := clones_any L k e ls hk (by omega) w hL
  have HST := hid hst
  have HR := hid hrow
  have HN := hid hN
  have HK := hid hk
  have HLL := hid hll
  clear hst hrow hN hk hll hL
  go_enter Try.func16, Try.ntmps16
  go_wp2_with (first
    | (go_at_call 44; (with_reducible refine cL.mono ?_); rintro e1 w1 ⟨rfl, rfl⟩)
    | (go_at_call 45; (with_reducible refine cC.mono ?_); rintro e2 w2 ⟨v, rfl, hown, hX⟩; obtain ⟨_, A2, c2, rfl, r2⟩ := rowRd hown))
  have hcap := own_cap hown
  clear hown cL cC
  go_loopw [0, 18] (fun v i wr => ∃ (j : Nat) (A : Option Addr) (n' c' : Nat) (cur : List (List UInt8)), j ≤ vs.length ∧ i = .int .i64 j ∧ v = .slice A n' c' ∧ cur.length = n' ∧ n' ≤ c' ∧ (A = none → c' = 0) ∧ n' ≤ 1000 ∧ Hid (Rd wr A (cur.map strV)) ∧ Hid (stepsR cur (vs.drop j) j = (R, K, z)) ∧ Hid (linesR cur = true) ∧ Below w.heap.size w wr) (fun _ i _ => N - (intOf i).toNat)
  case atStart => exact ⟨0, A2, k, c2, ls, by omega, rfl, rfl, HK.out, hcap.1, hcap.2, bk, hid r2, hid (by rw [List.drop_zero]; exact HST.out), HLL, hX⟩
  case round =>
    obtain ⟨j, A, n', c', cur, hj, rfl, rfl, hcur, hcc, hA0, bn', HRD, HS, HLC, hB⟩ := hrel
    by_cases hlt : j < vs.length
    · obtain ⟨h, hx⟩ : ∃ h, vs[j]? = some h := ⟨_, List.getElem?_eq_getElem hlt⟩
      obtain ⟨gb, go, rfl, A0, n0, c0, B0, m0, d0, q0, q1, q2, k1, b1, k2, b2, hz0, rA, rB⟩ := HR.out j h hx
      have hdrop : vs.drop j = h :: vs.drop (j + 1) := by
        rw [List.drop_eq_getElem_cons hlt]
        rw [List.getElem?_eq_getElem hlt] at hx
        cases hx; rfl
      have hS := HS.out
      rw [hdrop] at hS
      simp only [stepsR] at hS
      have hjN : (j : Int) < N := by have := HN.out; omega
      have ho : (go : Int) + j * 3 = ((go + j * 3 : Nat) : Int) := by omega
      have cP := fun W (hb : Below w.heap.size w W) (hr : Rd W A (cur.map strV)) => applied_any A n' c' cur hcur hcc hA0 bn' h.1 A0 n0 c0 h.2.1 k1 b1 B0 m0 d0 h.2.2 k2 b2 hz0 W hr (rA.below hb) (rB.below hb)
      have hap : appR cur h.1 h.2.1 h.2.2 = apR cur h.1 h.2.1 h.2.2 := by unfold apR; rw [HLC.out, if_pos rfl]
      rw [hap] at cP
      have p0 := below_cell hB q0
      have p1 := below_cell hB q1
      have p2 := below_cell hB q2
      have HSS := hid hS
      have CP := hid cP
      clear q0 q1 q2 rA rB hS cP hx hdrop hap
      have hb1 : Below wr.heap.size wr (wr.alloc (.cells #[.int .i64 h.1, .slice A0 n0 c0, .slice B0 m0 d0] 42)) := (Below.refl _ _).alloc (Nat.le_refl _) _
      have hB1 := hB.trans (hb1.mono hB.size)
      have cQ := CP.out _ hB1 (HRD.out.below hb1)
      clear CP hb1
      obtain ⟨R1, hR1⟩ : ∃ R1, R1 = (apR cur h.1 h.2.1 h.2.2).1 := ⟨_, rfl⟩
      obtain ⟨z1, hz1⟩ : ∃ z1, z1 = (apR cur h.1 h.2.1 h.2.2).2 := ⟨_, rfl⟩
      have hlen := apR_len cur h.1 h.2.1 h.2.2
      have hrt := apR_right cur h
      have HS2 := HSS.out
      rw [← hR1, ← hz1] at cQ HS2
      rw [← hR1] at hlen
      rw [← hR1, ← hz1] at hrt
      have HRT := hid hrt
      clear HSS hR1 hz1 hrt
      by_cases h1 : z1 = 0
      · subst h1
        rw [if_pos rfl] at HS2
        have HS3 := hid HS2
        clear HS2
        go_wp2_with (go_at_call 46; (with_reducible refine cQ.mono ?_); rintro e3 w3 ⟨v3, rfl, hown, hb3⟩; obtain ⟨_, A3, c3, rfl, r3⟩ := rowRd hown; have R3 := hid r3; have OC := hid (own_cap hown); clear hown r3)
        go_roundw
        case rel => exact ⟨j + 1, A3, R1.length, c3, R1, hlt, by go_num, rfl, rfl, OC.out.1, OC.out.2, hlen, R3, HS3, hid (by first | exact HRT.out trivial | exact HRT.out rfl), hB1.trans (hb3.mono hB1.size)⟩
        case measure => simp [intOf]; omega
      · rw [if_neg h1] at HS2
        have hF : ((0 : Int) == z1) = false := by simp; omega
        have hF2 : (z1 == (0 : Int)) = false := by simp; omega
        go_wp2_with (go_at_call 46; (with_reducible refine cQ.mono ?_); rintro e3 w3 ⟨v3, rfl, hown, hb3⟩; obtain ⟨_, A3, c3, rfl, r3⟩ := rowRd hown; clear hown r3)
        refine bodyPost_ret (v := .tuple #[.slice none 0 0, .int .i64 j, .int .i64 z1]) (by simp [results, Try.f16, go_sem]) rfl ?_
        simp only [Prod.mk.injEq] at HS2
        obtain ⟨rfl, rfl, rfl⟩ := HS2
        exact ⟨none, 0, 0, rfl, rfl, Nat.le_refl _, fun _ => rfl, .inl rfl, hB1.trans (hb3.mono hB1.size)⟩
    · have hje : vs.length = j := by omega
      have hS := HS.out
      rw [List.drop_of_length_le (by omega)] at hS
      simp only [stepsR, Prod.mk.injEq] at hS
      obtain ⟨rfl, rfl, rfl⟩ := hS
      have hjN : N = j := by have := HN.out; omega
      subst hjN
      have b1 : ¬ (N : Int) < N := by omega
      go_wp2
      refine bodyPost_ret (v := .tuple #[.slice A n' c', .int .i64 N, .int .i64 0]) (by simp [results, Try.f16, go_sem]) rfl ?_
      exact ⟨A, n', c', rfl, (by first | exact hcur | rfl), hcc, hA0, HRD.out, hB⟩
end Go.Proofs.Ytjaenffdbhgmeaa

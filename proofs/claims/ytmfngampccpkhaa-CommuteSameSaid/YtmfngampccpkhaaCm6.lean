
/- commute.Swap and r16.Swap: what both tell. -/
import Derived.Test.YtmfngampccpkhaaCmT
import Derived.Test.YtmfngampccpkhaaCm3
import Derived.Test.YtmfngampccpkhaaCm5
set_option linter.unusedSimpArgs false
set_option linter.unusedVariables false
namespace Go.Proofs.Ytmfngampccpkhaa
open Go.RowKit Go.Qc Go.Shelf
attribute [local go_sem] txt_size txt_append ib_fold txt_toL

theorem tog_parts {D E : OpD} (h : togB D E = true) : D.k = 3 ∧ E.k = 3 ∧ D.p = E.p := by
  unfold togB at h
  simpa only [Bool.and_eq_true, decide_eq_true_eq] using h
theorem aE_far {D E : OpD} (h : togB D E = false) : ({ E with a := aE D E } : OpD) = E := by
  have : aE D E = E.a := by unfold aE; rw [if_neg (fun q => by rw [h] at q; exact absurd q.1 (by decide))]
  rw [this]
theorem aD_far {D E : OpD} (h : togB D E = false) : ({ D with a := aD D E } : OpD) = D := by
  have : aD D E = D.a := by unfold aD; rw [if_neg (fun q => by rw [h] at q; exact absurd q.1 (by decide))]
  rw [this]
theorem tog_pol {D E : OpD} (h : polB D = true ∨ polB E = true) : togB D E = false := by
  cases ht : togB D E with
  | false => rfl
  | true =>
    obtain ⟨h1, h2, _⟩ := tog_parts ht
    unfold polB at h
    simp only [decide_eq_true_eq] at h
    omega
set_option maxRecDepth 100000 in
set_option maxHeartbeats 40000000 in
theorem hsw_any (D : OpD) (A : Option Addr) (n c : Nat) (B : Option Addr) (m d : Nat) (E : OpD) (A2 : Option Addr) (n2 c2 : Nat) (B2 : Option Addr) (m2 d2 : Nat) (w : World) (hlo : D.o.length = n) (bn : n ≤ 1000) (hln : D.n.length = m) (bm : m ≤ 1000) (hlo2 : E.o.length = n2) (bn2 : n2 ≤ 1000) (hln2 : E.n.length = m2) (bm2 : m2 ≤ 1000) (rA : Rd w A (D.o.map strV)) (rB : Rd w B (D.n.map strV)) (rA2 : Rd w A2 (E.o.map strV)) (rB2 : Rd w B2 (E.n.map strV)) (hD : hunkR D.a D.o D.n = true) (hE : hunkR E.a E.o E.n = true) (hap : hapB D E = true) (ht : togB D E = true) :
    Calls Try.prog 49 #[.agg #[.int .i64 D.a, .slice A n c, .slice B m d], .agg #[.int .i64 E.a, .slice A2 n2 c2, .slice B2 m2 d2]] w fun e w' => ∃ u1 u2 u3 u4, e = .returned (.tuple #[.agg #[.int .i64 (aE D E), u1, u2], .agg #[.int .i64 (aD D E), u3, u4], .bool true]) ∧ u1.oneCell' = true ∧ u2.oneCell' = true ∧ u3.oneCell' = true ∧ u4.oneCell' = true ∧ Below w.heap.size w w' := by
  obtain ⟨p1, p2, p3, p4⟩ := hunkR_parts hD
  obtain ⟨q1, q2, q3, q4⟩ := hunkR_parts hE
  have := swap_gen D.a A n c B m d E.a A2 n2 c2 B2 m2 d2 (D.o.map strV) (D.n.map strV) (E.o.map strV) (E.n.map strV) (D.a + ((m2 : Int) - n2)) (E.a - ((m : Int) - n)) w (by unfold wrap64; omega) (by unfold wrap64; omega)
    (fun W h => by have z := hap_any D A n c B m d E A2 n2 c2 B2 m2 d2 hlo hln hlo2 hln2 W (rA.below h) (rB.below h) (rA2.below h) (rB2.below h) hD hE; rwa [hap] at z)
    (fun W h => copied_any D.a A n c D.o hlo bn B m d D.n hln bm W (rA.below h) (rB.below h))
    (fun W h => copied_any E.a A2 n2 c2 E.o hlo2 bn2 B2 m2 d2 E.n hln2 bm2 W (rA2.below h) (rB2.below h))
  refine this.mono ?_
  rintro e w' ⟨A1, e1, A3, e2, A4, e3, A5, e4, rfl, _, _, _, _, hb⟩
  refine ⟨.slice A1 n2 e1, .slice A3 m2 e2, .slice A4 n e3, .slice A5 m e4, ?_, rfl, rfl, rfl, rfl, hb⟩
  unfold aE aD
  rw [ht, hlo, hln, hlo2, hln2]
  by_cases hlt : E.a < D.a
  · rw [if_pos hlt, if_pos hlt, if_neg (fun q => q.2 hlt), if_pos ⟨rfl, hlt⟩]
  · rw [if_neg hlt, if_neg hlt, if_pos ⟨rfl, hlt⟩, if_neg (fun q => hlt q.2)]
theorem cswap_any (D : OpD) (A : Option Addr) (n c : Nat) (B : Option Addr) (m d : Nat) (E : OpD) (A2 : Option Addr) (n2 c2 : Nat) (B2 : Option Addr) (m2 d2 : Nat) (w : World) (hR : OpR w D A n B m) (hS : OpR w E A2 n2 B2 m2) :
    Calls Try.prog 29 #[.agg (opC D A n c B m d), .agg (opC E A2 n2 c2 B2 m2 d2)] w fun e w' => (apB D E = true ∧ ∃ A5 c5 B5 d5 A6 c6 B6 d6, e = .returned (.tuple #[.agg (opC { E with a := aE D E } A5 n2 c5 B5 m2 d5), .agg (opC { D with a := aD D E } A6 n c6 B6 m d6), .bool true]) ∧ w'.ownsRow w.heap.size 9 1 (.slice A5 n2 c5) n2 (E.o.map strV) ∧ w'.ownsRow w.heap.size 9 1 (.slice B5 m2 d5) m2 (E.n.map strV) ∧ w'.ownsRow w.heap.size 9 1 (.slice A6 n c6) n (D.o.map strV) ∧ w'.ownsRow w.heap.size 9 1 (.slice B6 m d6) m (D.n.map strV) ∧ Below w.heap.size w w') ∨ (apB D E = false ∧ e = .returned (.tuple #[.agg (opC opZ none 0 0 none 0 0), .agg (opC opZ none 0 0 none 0 0), .bool false]) ∧ Below w.heap.size w w') := by
  have K1 := hR.hK
  have K2 := hS.hK
  have bn := hR.bn
  have bm := hR.bm
  have bn2 := hS.bn
  have bm2 := hS.bm
  have cP : ∀ b, apB D E = b → ∀ W, Below w.heap.size w W → Calls Try.prog 15 #[.agg (opC D A n c B m d), .agg (opC E A2 n2 c2 B2 m2 d2)] W fun o w' => o = .returned (.bool b) ∧ Below W.heap.size W w' := fun b hb W h => by rw [← hb]; exact apart_any D A n c B m d E A2 n2 c2 B2 m2 d2 W (hR.below h) (hS.below h)
  have cT : ∀ b, togB D E = b → ∀ W, Below w.heap.size w W → Calls Try.prog 23 #[.agg (opC D A n c B m d), .agg (opC E A2 n2 c2 B2 m2 d2)] W fun o w' => o = .returned (.bool b) ∧ Below W.heap.size W w' := fun b hb W _ => by rw [← hb]; exact together_any D A n c B m d E A2 n2 c2 B2 m2 d2 W
  cases hap : apB D E with
  | false => exact (cswap_no D A n c B m d E A2 n2 c2 B2 m2 d2 w K1 K2 (cP false hap)).mono (fun _ _ h => .inr ⟨rfl, h⟩)
  | true =>
    have cA := fun (W : World) (h : Below w.heap.size w W) => oclone_any D A n c B m d W hR.lo (by omega) hR.ln (by omega) K1 (hR.rA.below h) (hR.rB.below h)
    have cC := fun (W : World) (h : Below w.heap.size w W) => oclone_any E A2 n2 c2 B2 m2 d2 W hS.lo (by omega) hS.ln (by omega) K2 (hS.rA.below h) (hS.rB.below h)
    cases ht : togB D E with
    | false =>
      rw [aE_far ht, aD_far ht]
      exact (cswap_far D A n c B m d E A2 n2 c2 B2 m2 d2 w K1 K2 (cP true hap) cA cC (cT false ht)).mono (fun _ _ h => .inl ⟨rfl, h⟩)
    | true =>
      obtain ⟨h3, h4, _⟩ := tog_parts ht
      have hap' := hap
      unfold apB at hap'
      rw [Bool.and_eq_true, Bool.and_eq_true] at hap'
      obtain ⟨e1, e2, e3⟩ := hap'
      have e1 := of_decide_eq_true e1
      have e2 := of_decide_eq_true e2
      have pd : polB D = false := by cases q : polB D with
        | false => rfl
        | true => rw [tog_pol (.inl q)] at ht; cases ht
      have pe : polB E = false := by cases q : polB E with
        | false => rfl
        | true => rw [tog_pol (.inr q)] at ht; cases ht
      rw [pd, pe, Bool.false_or, Bool.false_or, if_pos ht] at e3
      have hD := op_hunk e1 h3
      have hE := op_hunk e2 h4
      refine (cswap_tog D A n c B m d E A2 n2 c2 B2 m2 d2 w K1 K2 (cP true hap) cA cC (cT true ht) (aE D E) (aD D E) (fun W h => ohunk_any D A n c B m d W hR.lo (by omega) hR.ln (by omega) K1 (hR.rA.below h) (hR.rB.below h)) (fun W h => ohunk_any E A2 n2 c2 B2 m2 d2 W hS.lo (by omega) hS.ln (by omega) K2 (hS.rA.below h) (hS.rB.below h)) ?_).mono (fun _ _ h => .inl ⟨rfl, h⟩)
      intro W A7 c7 B7 d7 A8 c8 B8 d8 b3 b4 h o1 o2 o3 o4
      exact hsw_any D A7 n c7 B7 m d7 E A8 n2 c8 B8 m2 d8 W hR.lo bn hR.ln bm hS.lo bn2 hS.ln bm2 (own_rd o1).2 (own_rd o2).2 (own_rd o3).2 (own_rd o4).2 hD hE e3 ht
end Go.Proofs.Ytmfngampccpkhaa

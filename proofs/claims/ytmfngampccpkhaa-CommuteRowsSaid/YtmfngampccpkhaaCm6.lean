
/- commute.Swap and r16.Swap: what both tell. -/
import Derived.Test.YtmfngampccpkhaaCmT
import Derived.Test.YtmfngampccpkhaaCm4
import Derived.Test.YtmfngampccpkhaaCm5
set_option linter.unusedSimpArgs false
set_option linter.unusedVariables false
namespace Go.Proofs.Ytmfngampccpkhaa
open Go.RowKit Go.Qc Go.Shelf
attribute [local go_sem] txt_size txt_append ib_fold txt_toL

theorem tog_parts {D E : OpD} (h : togB D E = true) : D.k = 3 ∧ E.k = 3 ∧ D.p = E.p := by
  unfold togB at h
  simpa only [Bool.and_eq_true, decide_eq_true_eq] using h
theorem aE_far {D E : OpD} (h : togB D E = false) : ({ E with a := aE D E } : OpD) = E := by
  have : aE D E = E.a := by unfold aE; rw [if_neg (fun q => by rw [h] at q; exact absurd q.1 (by decide))]
  rw [this]
theorem aD_far {D E : OpD} (h : togB D E = false) : ({ D with a := aD D E } : OpD) = D := by
  have : aD D E = D.a := by unfold aD; rw [if_neg (fun q => by rw [h] at q; exact absurd q.1 (by decide))]
  rw [this]
theorem tog_pol {D E : OpD} (h : polB D = true ∨ polB E = true) : togB D E = false := by
  cases ht : togB D E with
  | false => rfl
  | true =>
    obtain ⟨h1, h2, _⟩ := tog_parts ht
    unfold polB at h
    simp only [decide_eq_true_eq] at h
    omega
set_option maxRecDepth 100000 in
set_option maxHeartbeats 40000000 in
theorem hsw_any (D : OpD) (A : Option Addr) (n c : Nat) (B : Option Addr) (m d : Nat) (E : OpD) (A2 : Option Addr) (n2 c2 : Nat) (B2 : Option Addr) (m2 d2 : Nat) (w : World) (hlo : D.o.length = n) (bn : n ≤ 1000) (hln : D.n.length = m) (bm : m ≤ 1000) (hlo2 : E.o.length = n2) (bn2 : n2 ≤ 1000) (hln2 : E.n.length = m2) (bm2 : m2 ≤ 1000) (rA : Rd w A (D.o.map strV)) (rB : Rd w B (D.n.map strV)) (rA2 : Rd w A2 (E.o.map strV)) (rB2 : Rd w B2 (E.n.map strV)) (hD : hunkR D.a D.o D.n = true) (hE : hunkR E.a E.o E.n = true) (hap : hapB D E = true) (ht : togB D E = true) :
    Calls Try.prog 49 #[.agg #[.int .i64 D.a, .slice A n c, .slice B m d], .agg #[.int .i64 E.a, .slice A2 n2 c2, .slice B2 m2 d2]] w fun e w' => ∃ u1 u2 u3 u4, e = .returned (.tuple #[.agg #[.int .i64 (aE D E), u1, u2], .agg #[.int .i64 (aD D E), u3, u4], .bool true]) ∧ u1.oneCell' = true ∧ u2.oneCell' = true ∧ u3.oneCell' = true ∧ u4.oneCell' = true ∧ Below w.heap.size w w' := by
  obtain ⟨p1, p2, p3, p4⟩ := hunkR_parts hD
  obtain ⟨q1, q2, q3, q4⟩ := hunkR_parts hE
  have := swap_gen D.a A n c B m d E.a A2 n2 c2 B2 m2 d2 (D.o.map strV) (D.n.map strV) (E.o.map strV) (E.n.map strV) (D.a + ((m2 : Int) - n2)) (E.a - ((m : Int) - n)) w (by unfold wrap64; omega) (by unfold wrap64; omega)
    (fun W h => by have z := hap_any D A n c B m d E A2 n2 c2 B2 m2 d2 hlo hln hlo2 hln2 W (rA.below h) (rB.below h) (rA2.below h) (rB2.below h) hD hE; rwa [hap] at z)
    (fun W h => copied_any D.a A n c D.o hlo bn B m d D.n hln bm W (rA.below h) (rB.below h))
    (fun W h => copied_any E.a A2 n2 c2 E.o hlo2 bn2 B2 m2 d2 E.n hln2 bm2 W (rA2.below h) (rB2.below h))
  refine this.mono ?_
  rintro e w' ⟨A1, e1, A3, e2, A4, e3, A5, e4, rfl, _, _, _, _, hb⟩
  refine ⟨.slice A1 n2 e1, .slice A3 m2 e2, .slice A4 n e3, .slice A5 m e4, ?_, rfl, rfl, rfl, rfl, hb⟩
  unfold aE aD
  rw [ht, hlo, hln, hlo2, hln2]
  by_cases hlt : E.a < D.a
  · rw [if_pos hlt, if_pos hlt, if_neg (fun q => q.2 hlt), if_pos ⟨rfl, hlt⟩]
  · rw [if_neg hlt, if_neg hlt, if_pos ⟨rfl, hlt⟩, if_neg (fun q => hlt q.2)]
theorem cswap_any (D : OpD) (A : Option Addr) (n c : Nat) (B : Option Addr) (m d : Nat) (E : OpD) (A2 : Option Addr) (n2 c2 : Nat) (B2 : Option Addr) (m2 d2 : Nat) (w : World) (hR : OpR w D A n B m) (hS : OpR w E A2 n2 B2 m2) :
    Calls Try.prog 29 #[.agg (opC D A n c B m d), .agg (opC E A2 n2 c2 B2 m2 d2)] w fun e w' => (apB D E = true ∧ ∃ A5 c5 B5 d5 A6 c6 B6 d6, e = .returned (.tuple #[.agg (opC { E with a := aE D E } A5 n2 c5 B5 m2 d5), .agg (opC { D with a := aD D E } A6 n c6 B6 m d6), .bool true]) ∧ w'.ownsRow w.heap.size 9 1 (.slice A5 n2 c5) n2 (E.o.map strV) ∧ w'.ownsRow w.heap.size 9 1 (.slice B5 m2 d5) m2 (E.n.map strV) ∧ w'.ownsRow w.heap.size 9 1 (.slice A6 n c6) n (D.o.map strV) ∧ w'.ownsRow w.heap.size 9 1 (.slice B6 m d6) m (D.n.map strV) ∧ Below w.heap.size w w') ∨ (apB D E = false ∧ e = .returned (.tuple #[.agg (opC opZ none 0 0 none 0 0), .agg (opC opZ none 0 0 none 0 0), .bool false]) ∧ Below w.heap.size w w') := by
  have K1 := hR.hK
  have K2 := hS.hK
  have bn := hR.bn
  have bm := hR.bm
  have bn2 := hS.bn
  have bm2 := hS.bm
  have cP : ∀ b, apB D E = b → ∀ W, Below w.heap.size w W → Calls Try.prog 15 #[.agg (opC D A n c B m d), .agg (opC E A2 n2 c2 B2 m2 d2)] W fun o w' => o = .returned (.bool b) ∧ Below W.heap.size W w' := fun b hb W h => by rw [← hb]; exact apart_any D A n c B m d E A2 n2 c2 B2 m2 d2 W (hR.below h) (hS.below h)
  have cT : ∀ b, togB D E = b → ∀ W, Below w.heap.size w W → Calls Try.prog 23 #[.agg (opC D A n c B m d), .agg (opC E A2 n2 c2 B2 m2 d2)] W fun o w' => o = .returned (.bool b) ∧ Below W.heap.size W w' := fun b hb W _ => by rw [← hb]; exact together_any D A n c B m d E A2 n2 c2 B2 m2 d2 W
  cases hap : apB D E with
  | false => exact (cswap_no D A n c B m d E A2 n2 c2 B2 m2 d2 w K1 K2 (cP false hap)).mono (fun _ _ h => .inr ⟨rfl, h⟩)
  | true =>
    have cA := fun (W : World) (h : Below w.heap.size w W) => oclone_any D A n c B m d W hR.lo (by omega) hR.ln (by omega) K1 (hR.rA.below h) (hR.rB.below h)
    have cC := fun (W : World) (h : Below w.heap.size w W) => oclone_any E A2 n2 c2 B2 m2 d2 W hS.lo (by omega) hS.ln (by omega) K2 (hS.rA.below h) (hS.rB.below h)
    cases ht : togB D E with
    | false =>
      rw [aE_far ht, aD_far ht]
      exact (cswap_far D A n c B m d E A2 n2 c2 B2 m2 d2 w K1 K2 (cP true hap) cA cC (cT false ht)).mono (fun _ _ h => .inl ⟨rfl, h⟩)
    | true =>
      obtain ⟨h3, h4, _⟩ := tog_parts ht
      have hap' := hap
      unfold apB at hap'
      rw [Bool.and_eq_true, Bool.and_eq_true] at hap'
      obtain ⟨e1, e2, e3⟩ := hap'
      have e1 := of_decide_eq_true e1
      have e2 := of_decide_eq_true e2
      have pd : polB D = false := by cases q : polB D with
        | false => rfl
        | true => rw [tog_pol (.inl q)] at ht; cases ht
      have pe : polB E = false := by cases q : polB E with
        | false => rfl
        | true => rw [tog_pol (.inr q)] at ht; cases ht
      rw [pd, pe, Bool.false_or, Bool.false_or, if_pos ht] at e3
      have hD := op_hunk e1 h3
      have hE := op_hunk e2 h4
      refine (cswap_tog D A n c B m d E A2 n2 c2 B2 m2 d2 w K1 K2 (cP true hap) cA cC (cT true ht) (aE D E) (aD D E) (fun W h => ohunk_any D A n c B m d W hR.lo (by omega) hR.ln (by omega) K1 (hR.rA.below h) (hR.rB.below h)) (fun W h => ohunk_any E A2 n2 c2 B2 m2 d2 W hS.lo (by omega) hS.ln (by omega) K2 (hS.rA.below h) (hS.rB.below h)) ?_).mono (fun _ _ h => .inl ⟨rfl, h⟩)
      intro W A7 c7 B7 d7 A8 c8 B8 d8 b3 b4 h o1 o2 o3 o4
      exact hsw_any D A7 n c7 B7 m d7 E A8 n2 c8 B8 m2 d8 W hR.lo bn hR.ln bm hS.lo bn2 hS.ln bm2 (own_rd o1).2 (own_rd o2).2 (own_rd o3).2 (own_rd o4).2 hD hE e3 ht
theorem rswap_any (D : OpD) (A : Option Addr) (n c : Nat) (B : Option Addr) (m d : Nat) (E : OpD) (A2 : Option Addr) (n2 c2 : Nat) (B2 : Option Addr) (m2 d2 : Nat) (w : World) (hR : OpR w D A n B m) (hS : OpR w E A2 n2 B2 m2) :
    Calls Try.prog 30 #[.agg (opC D A n c B m d), .agg (opC E A2 n2 c2 B2 m2 d2)] w fun e w' => (apB D E = true ∧ e = .returned (.tuple #[.agg (opC { E with a := aE D E } A2 n2 c2 B2 m2 d2), .agg (opC { D with a := aD D E } A n c B m d), .bool true]) ∧ Below w.heap.size w w') ∨ (apB D E = false ∧ e = .returned (.tuple #[.agg (opC opZ none 0 0 none 0 0), .agg (opC opZ none 0 0 none 0 0), .bool false]) ∧ Below w.heap.size w w') := by
  have K1 := hR.hK
  have K2 := hS.hK
  have bn := hR.bn
  have bm := hR.bm
  have bn2 := hS.bn
  have bm2 := hS.bm
  have big : (1000 : Nat) ≤ 1000000000000 := by decide
  have cR1 : ∀ x, opE D = x → ∀ W, Below w.heap.size w W → Calls Try.prog 31 #[.agg (opC D A n c B m d)] W fun o w' => o = .returned (.int .i64 x) ∧ Below W.heap.size W w' := fun x hx W h => by rw [← hx]; exact rr13_any D K1 A n c hR.lo (by omega) B m d hR.ln (by omega) (by have := hR.bp; omega) (by have := hR.bt; omega) (fun x hx => Nat.le_trans (hR.bo x hx) big) (fun x hx => Nat.le_trans (hR.bx x hx) big) W (hR.rA.below h) (hR.rB.below h)
  have cR2 : ∀ x, opE E = x → ∀ W, Below w.heap.size w W → Calls Try.prog 31 #[.agg (opC E A2 n2 c2 B2 m2 d2)] W fun o w' => o = .returned (.int .i64 x) ∧ Below W.heap.size W w' := fun x hx W h => by rw [← hx]; exact rr13_any E K2 A2 n2 c2 hS.lo (by omega) B2 m2 d2 hS.ln (by omega) (by have := hS.bp; omega) (by have := hS.bt; omega) (fun x hx => Nat.le_trans (hS.bo x hx) big) (fun x hx => Nat.le_trans (hS.bx x hx) big) W (hS.rA.below h) (hS.rB.below h)
  have cP1 : ∀ b, polB D = b → ∀ W, Below w.heap.size w W → Calls Try.prog 50 #[.agg (opC D A n c B m d)] W fun o w' => o = .returned (.bool b) ∧ Below W.heap.size W w' := fun b hb W _ => by rw [← hb]; exact rpolicy_any D A n c B m d W
  have cP2 : ∀ b, polB E = b → ∀ W, Below w.heap.size w W → Calls Try.prog 50 #[.agg (opC E A2 n2 c2 B2 m2 d2)] W fun o w' => o = .returned (.bool b) ∧ Below W.heap.size W w' := fun b hb W _ => by rw [← hb]; exact rpolicy_any E A2 n2 c2 B2 m2 d2 W
  by_cases h1 : opE D = 0
  · by_cases h2 : opE E = 0
    · have hap : apB D E = (polB D || (polB E || (if togB D E = true then hapB D E else (pthD D).all fun s => (pthD E).all (besR s)))) := by
        unfold apB
        rw [decide_eq_true h1, decide_eq_true h2, Bool.true_and, Bool.true_and]
      cases hp1 : polB D with
      | true =>
        have ht := tog_pol (E := E) (.inl hp1)
        rw [aE_far ht, aD_far ht]
        rw [hp1, Bool.true_or] at hap
        exact (rs_3a D A n c B m d E A2 n2 c2 B2 m2 d2 w K1 K2 (cR1 0 h1) (cR2 0 h2) (cP1 true hp1) _ (cP2 _ rfl)).mono (fun _ _ h => .inl ⟨hap, h⟩)
      | false =>
        cases hp2 : polB E with
        | true =>
          have ht := tog_pol (D := D) (.inr hp2)
          rw [aE_far ht, aD_far ht]
          rw [hp1, hp2, Bool.true_or, Bool.or_true] at hap
          exact (rs_3b D A n c B m d E A2 n2 c2 B2 m2 d2 w K1 K2 (cR1 0 h1) (cR2 0 h2) (cP1 false hp1) (cP2 true hp2)).mono (fun _ _ h => .inl ⟨hap, h⟩)
        | false =>
          rw [hp1, hp2, Bool.false_or, Bool.false_or] at hap
          cases ht : togB D E with
          | true =>
            rw [if_pos ht] at hap
            obtain ⟨h3, h4, hp⟩ := tog_parts ht
            have hD := op_hunk h1 h3
            have hE := op_hunk h2 h4
            obtain ⟨p1, p2, p3, p4⟩ := hunkR_parts hD
            obtain ⟨q1, q2, q3, q4⟩ := hunkR_parts hE
            have cA : ∀ b, hapB D E = b → ∀ W, Below w.heap.size w W → Calls Try.prog 51 #[.agg #[.int .i64 D.a, .slice A n c, .slice B m d], .agg #[.int .i64 E.a, .slice A2 n2 c2, .slice B2 m2 d2]] W fun o w' => o = .returned (.bool b) ∧ Below W.heap.size W w' := fun b hb W h => by rw [← hb]; exact rhap_any D A n c B m d E A2 n2 c2 B2 m2 d2 hR.lo hR.ln hS.lo hS.ln W (hR.rA.below h) (hR.rB.below h) (hS.rA.below h) (hS.rB.below h) hD hE
            cases hh : hapB D E with
            | false => exact (rs_4 D A n c B m d E A2 n2 c2 B2 m2 d2 w K1 K2 (cR1 0 h1) (cR2 0 h2) (cP1 false hp1) (cP2 false hp2) h3 h4 hp (cA false hh)).mono (fun _ _ h => .inr ⟨hap.trans hh, h⟩)
            | true =>
              by_cases hlt : E.a < D.a
              · have x1 : aE D E = E.a := by unfold aE; rw [if_neg (fun q => q.2 hlt)]
                have x2 : aD D E = D.a + ((m2 : Int) - n2) := by unfold aD; rw [if_pos ⟨ht, hlt⟩, hS.lo, hS.ln]
                have x3 : ({ E with a := aE D E } : OpD) = E := by rw [x1]
                rw [x3]
                exact (rs_5 D A n c B m d E A2 n2 c2 B2 m2 d2 w K1 K2 (cR1 0 h1) (cR2 0 h2) (cP1 false hp1) (cP2 false hp2) h3 h4 hp (cA true hh) hlt (aD D E) (by rw [x2]; unfold wrap64; omega)).mono (fun _ _ h => .inl ⟨hap.trans hh, h⟩)
              · have x1 : aE D E = E.a + ((n : Int) - m) := by unfold aE; rw [if_pos ⟨ht, hlt⟩, hR.lo, hR.ln]; omega
                have x2 : aD D E = D.a := by unfold aD; rw [if_neg (fun q => hlt q.2)]
                have x3 : ({ D with a := aD D E } : OpD) = D := by rw [x2]
                rw [x3]
                exact (rs_6 D A n c B m d E A2 n2 c2 B2 m2 d2 w K1 K2 (cR1 0 h1) (cR2 0 h2) (cP1 false hp1) (cP2 false hp2) h3 h4 hp (cA true hh) hlt (aE D E) (by rw [x1]; unfold wrap64; omega)).mono (fun _ _ h => .inl ⟨hap.trans hh, h⟩)
          | false =>
            rw [if_neg (by rw [ht]; decide)] at hap
            rw [aE_far ht, aD_far ht]
            have b1 := op_path h1 hp1
            have b2 := op_path h2 hp2
            have cQ1 := fun (W : World) (_ : Below w.heap.size w W) => rpaths_any D A n c B m d W K1
            have cQ2 := fun (W : World) (_ : Below w.heap.size w W) => rpaths_any E A2 n2 c2 B2 m2 d2 W K2
            by_cases h3 : D.k = 3
            · by_cases h4 : E.k = 3
              · have hp : ¬ D.p = E.p := fun q => by
                  unfold togB at ht
                  rw [decide_eq_true h3, decide_eq_true h4, decide_eq_true q] at ht
                  cases ht
                exact (rs_7c D A n c B m d E A2 n2 c2 B2 m2 d2 w K1 K2 (cR1 0 h1) (cR2 0 h2) (cP1 false hp1) (cP2 false hp2) h3 h4 hp _ _ cQ1 cQ2 b1 b2).mono (fun _ _ h => h.elim (fun q => .inl ⟨hap.trans q.1, q.2⟩) (fun q => .inr ⟨hap.trans q.1, q.2⟩))
              · exact (rs_7b D A n c B m d E A2 n2 c2 B2 m2 d2 w K1 K2 (cR1 0 h1) (cR2 0 h2) (cP1 false hp1) (cP2 false hp2) h3 h4 _ _ cQ1 cQ2 b1 b2).mono (fun _ _ h => h.elim (fun q => .inl ⟨hap.trans q.1, q.2⟩) (fun q => .inr ⟨hap.trans q.1, q.2⟩))
            · exact (rs_7a D A n c B m d E A2 n2 c2 B2 m2 d2 w K1 K2 (cR1 0 h1) (cR2 0 h2) (cP1 false hp1) (cP2 false hp2) h3 _ _ cQ1 cQ2 b1 b2).mono (fun _ _ h => h.elim (fun q => .inl ⟨hap.trans q.1, q.2⟩) (fun q => .inr ⟨hap.trans q.1, q.2⟩))
    · have hap : apB D E = false := by unfold apB; rw [decide_eq_false h2, Bool.false_and, Bool.and_false]
      exact (rs_2 D A n c B m d E A2 n2 c2 B2 m2 d2 w K1 K2 (cR1 0 h1) _ (by simpa using h2) (cR2 _ rfl)).mono (fun _ _ h => .inr ⟨hap, h⟩)
  · have hap : apB D E = false := by unfold apB; rw [decide_eq_false h1, Bool.false_and]
    exact (rs_1 D A n c B m d E A2 n2 c2 B2 m2 d2 w K1 K2 _ (by simpa using h1) (cR1 _ rfl) _ (cR2 _ rfl)).mono (fun _ _ h => .inr ⟨hap, h⟩)

end Go.Proofs.Ytmfngampccpkhaa

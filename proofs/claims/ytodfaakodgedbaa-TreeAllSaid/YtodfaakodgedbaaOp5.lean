
/- op: what is wrong with an operation, by the document. -/
import Derived.Test.YtodfaakodgedbaaOpA
import Derived.Test.YtodfaakodgedbaaPhA
set_option linter.unusedSimpArgs false
set_option linter.unusedVariables false
namespace Go.Proofs.Ytodfaakodgedbaa
open Go.RowKit Go.Qc Go.Shelf
attribute [local go_sem] txt_size txt_append ib_fold txt_toL

def onlyR (l : List UInt8) (D : OpD) : Bool := onlyL l (hasB (decide (D.t ≠ [])) (decide (D.a ≠ 0)) (decide (D.o ≠ [])) (decide (D.n ≠ [])) (decide (D.K ≠ zeroB)) (decide (D.d ≠ 0)))
theorem only_any (l : List UInt8) (hl : l.length ≤ 1000) (D : OpD) (hK : D.K.length = 32) (A : Option Addr) (n c : Nat) (hlo : D.o.length = n) (B : Option Addr) (m d : Nat) (hln : D.n.length = m) (w : World) :
    Calls Try.prog 48 #[.agg (opC D A n c B m d), .string (txt l)] w fun o w' => o = .returned (.bool (onlyR l D)) ∧ Below w.heap.size w w' := by
  refine only_gen l hl D hK A n c B m d _ _ _ _ _ _ (decide (D.K = zeroB)) w ?_ ?_ ?_ ?_ rfl ?_ ?_
  · cases D.t <;> rfl
  · by_cases h : D.a = 0 <;> simp [h]
  · rw [decide_eq_decide, ← hlo]; exact List.length_pos_iff
  · rw [decide_eq_decide, ← hln]; exact List.length_pos_iff
  · by_cases h : D.K = zeroB <;> simp [h]
  · by_cases h : D.d = 0 <;> simp [h]
theorem rprefix_any (p : List UInt8) (bp : p.length ≤ 1000000) (w : World) :
    Calls Try.prog 51 #[.string (txt p)] w fun e w' => e = .returned (.bool (preR p)) ∧ Below w.heap.size w w' := by
  unfold preR
  by_cases h : p = []
  · subst h
    have e : txt [] = ⟨#[]⟩ := rfl
    rw [e]
    go_enter Try.func51, Try.ntmps51
    go_wp2
    go_ret
    exact ⟨rfl, Below.refl _ _⟩
  · have h2 : p.isEmpty = false := by cases p <;> first | rfl | exact absurd rfl h
    rw [h2, Bool.false_or]
    have cR := rpath_any p bp
    go_enter Try.func51, Try.ntmps51
    go_wp2_with (go_at_call 47; (with_reducible refine (cR _).mono ?_); rintro e1 w1 ⟨rfl, hB1⟩)
    go_ret
    exact ⟨rfl, hB1⟩
theorem rhunk_any (at' : Int) (A : Option Addr) (n c : Nat) (old : List (List UInt8)) (hn : old.length = n) (bn : n ≤ 1000000) (B : Option Addr) (m d : Nat) (new : List (List UInt8)) (hm : new.length = m) (bm : m ≤ 1000000) (bo : ∀ x ∈ old, x.length ≤ 1000000000000) (bw : ∀ x ∈ new, x.length ≤ 1000000000000) (w : World) (hA : Rd w A (old.map strV)) (hB : Rd w B (new.map strV)) :
    Calls Try.prog 50 #[.agg #[.int .i64 at', .slice A n c, .slice B m d]] w fun e w' => e = .returned (.bool (hunkR at' old new)) ∧ Below w.heap.size w w' := by
  have := rhright_gen at' A n c B m d (linesR old) (linesR new) w
    (fun W hb => (rlines_any A n c old hn (by omega) bo W (hA.below hb)).mono (by rintro e w' ⟨h1, h2⟩; exact ⟨h1, h2⟩))
    (fun W hb => (rlines_any B m d new hm (by omega) bw W (hB.below hb)).mono (by rintro e w' ⟨h1, h2⟩; exact ⟨h1, h2⟩))
  unfold hunkR
  rw [hn, hm]
  exact this
theorem opE_b {D : OpD} (h1 : 1 ≤ D.k) (h2 : D.k ≤ 6) (b : Bool) (h : (bareR D && formedR D) = b) : opE D = if b = true then (if D.d < 0 ∨ 8 < D.d then 5 else 0) else 3 := by
  unfold opE; rw [if_pos ⟨h1, h2⟩, h]
theorem onlyR_eq (l : List UInt8) (D : OpD) : onlyR l D = ((decide (D.t = []) || l.contains 84) && ((decide (D.a = 0) || l.contains 65) && ((decide (D.o = []) || l.contains 79) && ((decide (D.n = []) || l.contains 78) && ((decide (D.K = zeroB) || l.contains 75) && (decide (D.d = 0) || l.contains 68)))))) := by
  unfold onlyR onlyL hasB
  simp only [List.all_cons, List.all_nil, Bool.and_true, okL, decide_not, Bool.not_and, Bool.not_not]
theorem bare_only {k : Int} {l : List UInt8} (D : OpD) (hk : D.k = k) (h84 : l.contains 84 = decide (k = 4)) (h65 : l.contains 65 = decide (k = 3)) (h79 : l.contains 79 = (decide (k = 2) || decide (k = 3))) (h78 : l.contains 78 = decide (k = 3)) (h75 : l.contains 75 = (decide (k = 5) || decide (k = 6))) (h68 : l.contains 68 = decide (k = 5)) : bareR D = onlyR l D := by
  rw [onlyR_eq, h84, h65, h79, h78, h75, h68]
  unfold bareR
  rw [hk]
  simp only [Bool.or_comm, Bool.or_assoc]
theorem linesR_nil : linesR [] = true := by decide
theorem opE_1 (D : OpD) (hk : D.k = 1) : opE D = if (pathR D.p && onlyR [] D) = true then (if D.d < 0 ∨ 8 < D.d then 5 else 0) else 3 := by
  refine opE_b (by omega) (by omega) _ ?_
  have hb := bare_only (k := 1) (l := []) D hk rfl rfl rfl rfl rfl rfl
  have hf : formedR D = (pathR D.p && linesR D.o) := by unfold formedR; rw [if_neg (by omega), if_neg (by omega), if_neg (by omega)]
  rw [hf]
  cases h : onlyR [] D with
  | false => rw [hb, h]; simp
  | true =>
    have : D.o = [] := by
      rw [onlyR_eq] at h
      simp only [Bool.and_eq_true, Bool.or_eq_true, decide_eq_true_eq] at h
      rcases h.2.2.1 with h | h
      · exact h
      · cases h
    rw [hb, h, this, linesR_nil]; simp
theorem opE_2 (D : OpD) (hk : D.k = 2) : opE D = if (pathR D.p && (linesR D.o && onlyR [79] D)) = true then (if D.d < 0 ∨ 8 < D.d then 5 else 0) else 3 := by
  refine opE_b (by omega) (by omega) _ ?_
  have hb := bare_only (k := 2) (l := [79]) D hk rfl rfl rfl rfl rfl rfl
  have hf : formedR D = (pathR D.p && linesR D.o) := by unfold formedR; rw [if_neg (by omega), if_neg (by omega), if_neg (by omega)]
  rw [hf, hb]
  cases onlyR [79] D <;> simp
theorem opE_3 (D : OpD) (hk : D.k = 3) : opE D = if (pathR D.p && (hunkR D.a D.o D.n && onlyR [65, 79, 78] D)) = true then (if D.d < 0 ∨ 8 < D.d then 5 else 0) else 3 := by
  refine opE_b (by omega) (by omega) _ ?_
  have hb := bare_only (k := 3) (l := [65, 79, 78]) D hk rfl rfl rfl rfl rfl rfl
  have hf : formedR D = (pathR D.p && hunkR D.a D.o D.n) := by unfold formedR; rw [if_neg (by omega), if_neg (by omega), if_pos hk]
  rw [hf, hb]
  cases onlyR [65, 79, 78] D <;> simp
theorem opE_4 (D : OpD) (hk : D.k = 4) : opE D = if (pathR D.p && (pathR D.t && (decide (¬ D.p = D.t) && onlyR [84] D))) = true then (if D.d < 0 ∨ 8 < D.d then 5 else 0) else 3 := by
  refine opE_b (by omega) (by omega) _ ?_
  have hb := bare_only (k := 4) (l := [84]) D hk rfl rfl rfl rfl rfl rfl
  have hf : formedR D = (pathR D.p && (pathR D.t && decide (D.t ≠ D.p))) := by unfold formedR; rw [if_neg (by omega), if_pos hk]
  have hc : decide (D.t ≠ D.p) = decide (¬ D.p = D.t) := by rw [decide_eq_decide]; exact ⟨fun h e => h e.symm, fun h e => h e.symm⟩
  rw [hf, hb, hc]
  cases onlyR [84] D <;> simp
theorem opE_5 (D : OpD) (hk : D.k = 5) : opE D = if (preR D.p && onlyR [75, 68] D) = true then (if D.d < 0 ∨ 8 < D.d then 5 else 0) else 3 := by
  refine opE_b (by omega) (by omega) _ ?_
  have hb := bare_only (k := 5) (l := [75, 68]) D hk rfl rfl rfl rfl rfl rfl
  have hf : formedR D = preR D.p := by unfold formedR; rw [if_pos (by omega)]
  rw [hf, hb, Bool.and_comm]
theorem opE_6 (D : OpD) (hk : D.k = 6) : opE D = if (preR D.p && onlyR [75] D) = true then (if D.d < 0 ∨ 8 < D.d then 5 else 0) else 3 := by
  refine opE_b (by omega) (by omega) _ ?_
  have hb := bare_only (k := 6) (l := [75]) D hk rfl rfl rfl rfl rfl rfl
  have hf : formedR D = preR D.p := by unfold formedR; rw [if_pos (by omega)]
  rw [hf, hb, Bool.and_comm]
set_option maxRecDepth 100000 in
set_option maxHeartbeats 4000000 in
theorem rr13_1_0 (D : OpD) (hK : D.K.length = 32) (A : Option Addr) (n c : Nat) (hlo : D.o.length = n) (bn : n ≤ 1000000) (B : Option Addr) (m d : Nat) (hln : D.n.length = m) (bm : m ≤ 1000000) (bp : D.p.length ≤ 1000000) (bt : D.t.length ≤ 1000000) (bo : ∀ x ∈ D.o, x.length ≤ 1000000000000) (bnn : ∀ x ∈ D.n, x.length ≤ 1000000000000) (w : World) (rA : Rd w A (D.o.map strV)) (rB : Rd w B (D.n.map strV)) (hk : D.k = 1) (hp : pathR D.p = false) :
    Calls Try.prog 27 #[.agg (opC D A n c B m d)] w fun o w' => o = .returned (.int .i64 3) ∧ Below w.heap.size w w' := by
  have hB : Below w.heap.size w (w.alloc (.cells (opC D A n c B m d) 40)) := (Below.refl _ w).alloc (Nat.le_refl _) _
  have hX := OpX.new w D A n c B m d
  have hIO : (Try.prog.info? 40).map (·.size) = some (opC D A n c B m d).size := by rw [opC_size _ _ _ _ _ _ _ hK]; exact infoOp
  have cp : ∀ W, Calls Try.prog 47 #[.string (txt D.p)] W fun o w' => o = .returned (.bool false) ∧ Below W.heap.size W w' := fun W => by have z := rpath_any D.p bp W; rwa [hp] at z
  have x0 := hX.c0
  rw [hk] at x0
  have x1 := hX.c1
  have x38 := hX.c38 hK
  go_enter Try.func27, Try.ntmps27
  go_wp2_with (first
    | (with_reducible refine wpList_load_opx (by with_unfolding_all rfl) _ rfl _ rfl hX hK ?_)
    | (go_at_call 47; (with_reducible refine (cp _).mono ?_); rintro o1 w1 ⟨rfl, hb⟩; replace hX := hX.below hb; replace hB := hB.trans (hb.mono hB.size); clear hb; clear x0 x1 x38; have x0 := hX.c0; rw [hk] at x0; have x1 := hX.c1; have x38 := hX.c38 hK))
  go_ret
  exact ⟨rfl, hB⟩

set_option maxRecDepth 100000 in
set_option maxHeartbeats 4000000 in
theorem rr13_1_1 (D : OpD) (hK : D.K.length = 32) (A : Option Addr) (n c : Nat) (hlo : D.o.length = n) (bn : n ≤ 1000000) (B : Option Addr) (m d : Nat) (hln : D.n.length = m) (bm : m ≤ 1000000) (bp : D.p.length ≤ 1000000) (bt : D.t.length ≤ 1000000) (bo : ∀ x ∈ D.o, x.length ≤ 1000000000000) (bnn : ∀ x ∈ D.n, x.length ≤ 1000000000000) (w : World) (rA : Rd w A (D.o.map strV)) (rB : Rd w B (D.n.map strV)) (hk : D.k = 1) (hp : pathR D.p = true) (honly : onlyR [] D = false) :
    Calls Try.prog 27 #[.agg (opC D A n c B m d)] w fun o w' => o = .returned (.int .i64 3) ∧ Below w.heap.size w w' := by
  have hB : Below w.heap.size w (w.alloc (.cells (opC D A n c B m d) 40)) := (Below.refl _ w).alloc (Nat.le_refl _) _
  have hX := OpX.new w D A n c B m d
  have hIO : (Try.prog.info? 40).map (·.size) = some (opC D A n c B m d).size := by rw [opC_size _ _ _ _ _ _ _ hK]; exact infoOp
  have cp : ∀ W, Calls Try.prog 47 #[.string (txt D.p)] W fun o w' => o = .returned (.bool true) ∧ Below W.heap.size W w' := fun W => by have z := rpath_any D.p bp W; rwa [hp] at z
  have conly : ∀ W, Calls Try.prog 48 #[.agg (opC D A n c B m d), .string ⟨#[]⟩] W fun o w' => o = .returned (.bool false) ∧ Below W.heap.size W w' := fun W => by have z := only_any [] (by decide) D hK A n c hlo B m d hln W; rwa [honly] at z
  have x0 := hX.c0
  rw [hk] at x0
  have x1 := hX.c1
  have x38 := hX.c38 hK
  go_enter Try.func27, Try.ntmps27
  go_wp2_with (first
    | (with_reducible refine wpList_load_opx (by with_unfolding_all rfl) _ rfl _ rfl hX hK ?_)
    | (go_at_call 47; (with_reducible refine (cp _).mono ?_); rintro o1 w1 ⟨rfl, hb⟩; replace hX := hX.below hb; replace hB := hB.trans (hb.mono hB.size); clear hb; clear x0 x1 x38; have x0 := hX.c0; rw [hk] at x0; have x1 := hX.c1; have x38 := hX.c38 hK)
    | (go_at_call 48; (with_reducible refine (conly _).mono ?_); rintro o1 w1 ⟨rfl, hb⟩; replace hX := hX.below hb; replace hB := hB.trans (hb.mono hB.size); clear hb; clear x0 x1 x38; have x0 := hX.c0; rw [hk] at x0; have x1 := hX.c1; have x38 := hX.c38 hK))
  go_ret
  exact ⟨rfl, hB⟩

set_option maxRecDepth 100000 in
set_option maxHeartbeats 4000000 in
theorem rr13_1_c (D : OpD) (hK : D.K.length = 32) (A : Option Addr) (n c : Nat) (hlo : D.o.length = n) (bn : n ≤ 1000000) (B : Option Addr) (m d : Nat) (hln : D.n.length = m) (bm : m ≤ 1000000) (bp : D.p.length ≤ 1000000) (bt : D.t.length ≤ 1000000) (bo : ∀ x ∈ D.o, x.length ≤ 1000000000000) (bnn : ∀ x ∈ D.n, x.length ≤ 1000000000000) (w : World) (rA : Rd w A (D.o.map strV)) (rB : Rd w B (D.n.map strV)) (hk : D.k = 1) (hp : pathR D.p = true) (honly : onlyR [] D = true) (hd0 : D.d = 0) :
    Calls Try.prog 27 #[.agg (opC D A n c B m d)] w fun o w' => o = .returned (.int .i64 0) ∧ Below w.heap.size w w' := by
  have hB : Below w.heap.size w (w.alloc (.cells (opC D A n c B m d) 40)) := (Below.refl _ w).alloc (Nat.le_refl _) _
  have hX := OpX.new w D A n c B m d
  have hIO : (Try.prog.info? 40).map (·.size) = some (opC D A n c B m d).size := by rw [opC_size _ _ _ _ _ _ _ hK]; exact infoOp
  have cp : ∀ W, Calls Try.prog 47 #[.string (txt D.p)] W fun o w' => o = .returned (.bool true) ∧ Below W.heap.size W w' := fun W => by have z := rpath_any D.p bp W; rwa [hp] at z
  have conly : ∀ W, Calls Try.prog 48 #[.agg (opC D A n c B m d), .string ⟨#[]⟩] W fun o w' => o = .returned (.bool true) ∧ Below W.heap.size W w' := fun W => by have z := only_any [] (by decide) D hK A n c hlo B m d hln W; rwa [honly] at z
  have x0 := hX.c0
  rw [hk] at x0
  have x1 := hX.c1
  have x38 := hX.c38 hK; rw [hd0] at x38
  go_enter Try.func27, Try.ntmps27
  go_wp2_with (first
    | (with_reducible refine wpList_load_opx (by with_unfolding_all rfl) _ rfl _ rfl hX hK ?_)
    | (go_at_call 47; (with_reducible refine (cp _).mono ?_); rintro o1 w1 ⟨rfl, hb⟩; replace hX := hX.below hb; replace hB := hB.trans (hb.mono hB.size); clear hb; clear x0 x1 x38; have x0 := hX.c0; rw [hk] at x0; have x1 := hX.c1; have x38 := hX.c38 hK; rw [hd0] at x38)
    | (go_at_call 48; (with_reducible refine (conly _).mono ?_); rintro o1 w1 ⟨rfl, hb⟩; replace hX := hX.below hb; replace hB := hB.trans (hb.mono hB.size); clear hb; clear x0 x1 x38; have x0 := hX.c0; rw [hk] at x0; have x1 := hX.c1; have x38 := hX.c38 hK; rw [hd0] at x38))
  go_ret
  exact ⟨rfl, hB⟩

set_option maxRecDepth 100000 in
set_option maxHeartbeats 4000000 in
theorem rr13_2_0 (D : OpD) (hK : D.K.length = 32) (A : Option Addr) (n c : Nat) (hlo : D.o.length = n) (bn : n ≤ 1000000) (B : Option Addr) (m d : Nat) (hln : D.n.length = m) (bm : m ≤ 1000000) (bp : D.p.length ≤ 1000000) (bt : D.t.length ≤ 1000000) (bo : ∀ x ∈ D.o, x.length ≤ 1000000000000) (bnn : ∀ x ∈ D.n, x.length ≤ 1000000000000) (w : World) (rA : Rd w A (D.o.map strV)) (rB : Rd w B (D.n.map strV)) (hk : D.k = 2) (hp : pathR D.p = false) :
    Calls Try.prog 27 #[.agg (opC D A n c B m d)] w fun o w' => o = .returned (.int .i64 3) ∧ Below w.heap.size w w' := by
  have hB : Below w.heap.size w (w.alloc (.cells (opC D A n c B m d) 40)) := (Below.refl _ w).alloc (Nat.le_refl _) _
  have hX := OpX.new w D A n c B m d
  have hIO : (Try.prog.info? 40).map (·.size) = some (opC D A n c B m d).size := by rw [opC_size _ _ _ _ _ _ _ hK]; exact infoOp
  have cp : ∀ W, Calls Try.prog 47 #[.string (txt D.p)] W fun o w' => o = .returned (.bool false) ∧ Below W.heap.size W w' := fun W => by have z := rpath_any D.p bp W; rwa [hp] at z
  have x0 := hX.c0
  rw [hk] at x0
  have x1 := hX.c1
  have x4 := hX.c4
  have x38 := hX.c38 hK
  go_enter Try.func27, Try.ntmps27
  go_wp2_with (first
    | (with_reducible refine wpList_load_opx (by with_unfolding_all rfl) _ rfl _ rfl hX hK ?_)
    | (go_at_call 47; (with_reducible refine (cp _).mono ?_); rintro o1 w1 ⟨rfl, hb⟩; replace hX := hX.below hb; replace hB := hB.trans (hb.mono hB.size); clear hb; clear x0 x1 x4 x38; have x0 := hX.c0; rw [hk] at x0; have x1 := hX.c1; have x4 := hX.c4; have x38 := hX.c38 hK))
  go_ret
  exact ⟨rfl, hB⟩

set_option maxRecDepth 100000 in
set_option maxHeartbeats 4000000 in
theorem rr13_2_1 (D : OpD) (hK : D.K.length = 32) (A : Option Addr) (n c : Nat) (hlo : D.o.length = n) (bn : n ≤ 1000000) (B : Option Addr) (m d : Nat) (hln : D.n.length = m) (bm : m ≤ 1000000) (bp : D.p.length ≤ 1000000) (bt : D.t.length ≤ 1000000) (bo : ∀ x ∈ D.o, x.length ≤ 1000000000000) (bnn : ∀ x ∈ D.n, x.length ≤ 1000000000000) (w : World) (rA : Rd w A (D.o.map strV)) (rB : Rd w B (D.n.map strV)) (hk : D.k = 2) (hp : pathR D.p = true) (hlines : linesR D.o = false) :
    Calls Try.prog 27 #[.agg (opC D A n c B m d)] w fun o w' => o = .returned (.int .i64 3) ∧ Below w.heap.size w w' := by
  have hB : Below w.heap.size w (w.alloc (.cells (opC D A n c B m d) 40)) := (Below.refl _ w).alloc (Nat.le_refl _) _
  have hX := OpX.new w D A n c B m d
  have hIO : (Try.prog.info? 40).map (·.size) = some (opC D A n c B m d).size := by rw [opC_size _ _ _ _ _ _ _ hK]; exact infoOp
  have cp : ∀ W, Calls Try.prog 47 #[.string (txt D.p)] W fun o w' => o = .returned (.bool true) ∧ Below W.heap.size W w' := fun W => by have z := rpath_any D.p bp W; rwa [hp] at z
  have clines : ∀ W, Below w.heap.size w W → Calls Try.prog 49 #[.slice A n c] W fun o w' => o = .returned (.bool false) ∧ Below W.heap.size W w' := fun W h => by have z := rlines_any A n c D.o hlo (by omega) bo W (rA.below h); rw [hlines] at z; exact z.mono (by rintro o w' ⟨h1, rfl⟩; exact ⟨h1, Below.refl _ _⟩)
  have x0 := hX.c0
  rw [hk] at x0
  have x1 := hX.c1
  have x4 := hX.c4
  have x38 := hX.c38 hK
  go_enter Try.func27, Try.ntmps27
  go_wp2_with (first
    | (with_reducible refine wpList_load_opx (by with_unfolding_all rfl) _ rfl _ rfl hX hK ?_)
    | (go_at_call 47; (with_reducible refine (cp _).mono ?_); rintro o1 w1 ⟨rfl, hb⟩; replace hX := hX.below hb; replace hB := hB.trans (hb.mono hB.size); clear hb; clear x0 x1 x4 x38; have x0 := hX.c0; rw [hk] at x0; have x1 := hX.c1; have x4 := hX.c4; have x38 := hX.c38 hK)
    | (go_at_call 49; (with_reducible refine (clines _ hB).mono ?_); rintro o1 w1 ⟨rfl, hb⟩; replace hX := hX.below hb; replace hB := hB.trans (hb.mono hB.size); clear hb; clear x0 x1 x4 x38; have x0 := hX.c0; rw [hk] at x0; have x1 := hX.c1; have x4 := hX.c4; have x38 := hX.c38 hK))
  go_ret
  exact ⟨rfl, hB⟩

set_option maxRecDepth 100000 in
set_option maxHeartbeats 4000000 in
theorem rr13_2_2 (D : OpD) (hK : D.K.length = 32) (A : Option Addr) (n c : Nat) (hlo : D.o.length = n) (bn : n ≤ 1000000) (B : Option Addr) (m d : Nat) (hln : D.n.length = m) (bm : m ≤ 1000000) (bp : D.p.length ≤ 1000000) (bt : D.t.length ≤ 1000000) (bo : ∀ x ∈ D.o, x.length ≤ 1000000000000) (bnn : ∀ x ∈ D.n, x.length ≤ 1000000000000) (w : World) (rA : Rd w A (D.o.map strV)) (rB : Rd w B (D.n.map strV)) (hk : D.k = 2) (hp : pathR D.p = true) (hlines : linesR D.o = true) (honly : onlyR [79] D = false) :
    Calls Try.prog 27 #[.agg (opC D A n c B m d)] w fun o w' => o = .returned (.int .i64 3) ∧ Below w.heap.size w w' := by
  have hB : Below w.heap.size w (w.alloc (.cells (opC D A n c B m d) 40)) := (Below.refl _ w).alloc (Nat.le_refl _) _
  have hX := OpX.new w D A n c B m d
  have hIO : (Try.prog.info? 40).map (·.size) = some (opC D A n c B m d).size := by rw [opC_size _ _ _ _ _ _ _ hK]; exact infoOp
  have cp : ∀ W, Calls Try.prog 47 #[.string (txt D.p)] W fun o w' => o = .returned (.bool true) ∧ Below W.heap.size W w' := fun W => by have z := rpath_any D.p bp W; rwa [hp] at z
  have clines : ∀ W, Below w.heap.size w W → Calls Try.prog 49 #[.slice A n c] W fun o w' => o = .returned (.bool true) ∧ Below W.heap.size W w' := fun W h => by have z := rlines_any A n c D.o hlo (by omega) bo W (rA.below h); rw [hlines] at z; exact z.mono (by rintro o w' ⟨h1, rfl⟩; exact ⟨h1, Below.refl _ _⟩)
  have conly : ∀ W, Calls Try.prog 48 #[.agg (opC D A n c B m d), .string ⟨#[79]⟩] W fun o w' => o = .returned (.bool false) ∧ Below W.heap.size W w' := fun W => by have z := only_any [79] (by decide) D hK A n c hlo B m d hln W; rwa [honly] at z
  have x0 := hX.c0
  rw [hk] at x0
  have x1 := hX.c1
  have x4 := hX.c4
  have x38 := hX.c38 hK
  go_enter Try.func27, Try.ntmps27
  go_wp2_with (first
    | (with_reducible refine wpList_load_opx (by with_unfolding_all rfl) _ rfl _ rfl hX hK ?_)
    | (go_at_call 47; (with_reducible refine (cp _).mono ?_); rintro o1 w1 ⟨rfl, hb⟩; replace hX := hX.below hb; replace hB := hB.trans (hb.mono hB.size); clear hb; clear x0 x1 x4 x38; have x0 := hX.c0; rw [hk] at x0; have x1 := hX.c1; have x4 := hX.c4; have x38 := hX.c38 hK)
    | (go_at_call 49; (with_reducible refine (clines _ hB).mono ?_); rintro o1 w1 ⟨rfl, hb⟩; replace hX := hX.below hb; replace hB := hB.trans (hb.mono hB.size); clear hb; clear x0 x1 x4 x38; have x0 := hX.c0; rw [hk] at x0; have x1 := hX.c1; have x4 := hX.c4; have x38 := hX.c38 hK)
    | (go_at_call 48; (with_reducible refine (conly _).mono ?_); rintro o1 w1 ⟨rfl, hb⟩; replace hX := hX.below hb; replace hB := hB.trans (hb.mono hB.size); clear hb; clear x0 x1 x4 x38; have x0 := hX.c0; rw [hk] at x0; have x1 := hX.c1; have x4 := hX.c4; have x38 := hX.c38 hK))
  go_ret
  exact ⟨rfl, hB⟩

set_option maxRecDepth 100000 in
set_option maxHeartbeats 4000000 in
theorem rr13_2_c (D : OpD) (hK : D.K.length = 32) (A : Option Addr) (n c : Nat) (hlo : D.o.length = n) (bn : n ≤ 1000000) (B : Option Addr) (m d : Nat) (hln : D.n.length = m) (bm : m ≤ 1000000) (bp : D.p.length ≤ 1000000) (bt : D.t.length ≤ 1000000) (bo : ∀ x ∈ D.o, x.length ≤ 1000000000000) (bnn : ∀ x ∈ D.n, x.length ≤ 1000000000000) (w : World) (rA : Rd w A (D.o.map strV)) (rB : Rd w B (D.n.map strV)) (hk : D.k = 2) (hp : pathR D.p = true) (hlines : linesR D.o = true) (honly : onlyR [79] D = true) (hd0 : D.d = 0) :
    Calls Try.prog 27 #[.agg (opC D A n c B m d)] w fun o w' => o = .returned (.int .i64 0) ∧ Below w.heap.size w w' := by
  have hB : Below w.heap.size w (w.alloc (.cells (opC D A n c B m d) 40)) := (Below.refl _ w).alloc (Nat.le_refl _) _
  have hX := OpX.new w D A n c B m d
  have hIO : (Try.prog.info? 40).map (·.size) = some (opC D A n c B m d).size := by rw [opC_size _ _ _ _ _ _ _ hK]; exact infoOp
  have cp : ∀ W, Calls Try.prog 47 #[.string (txt D.p)] W fun o w' => o = .returned (.bool true) ∧ Below W.heap.size W w' := fun W => by have z := rpath_any D.p bp W; rwa [hp] at z
  have clines : ∀ W, Below w.heap.size w W → Calls Try.prog 49 #[.slice A n c] W fun o w' => o = .returned (.bool true) ∧ Below W.heap.size W w' := fun W h => by have z := rlines_any A n c D.o hlo (by omega) bo W (rA.below h); rw [hlines] at z; exact z.mono (by rintro o w' ⟨h1, rfl⟩; exact ⟨h1, Below.refl _ _⟩)
  have conly : ∀ W, Calls Try.prog 48 #[.agg (opC D A n c B m d), .string ⟨#[79]⟩] W fun o w' => o = .returned (.bool true) ∧ Below W.heap.size W w' := fun W => by have z := only_any [79] (by decide) D hK A n c hlo B m d hln W; rwa [honly] at z
  have x0 := hX.c0
  rw [hk] at x0
  have x1 := hX.c1
  have x4 := hX.c4
  have x38 := hX.c38 hK; rw [hd0] at x38
  go_enter Try.func27, Try.ntmps27
  go_wp2_with (first
    | (with_reducible refine wpList_load_opx (by with_unfolding_all rfl) _ rfl _ rfl hX hK ?_)
    | (go_at_call 47; (with_reducible refine (cp _).mono ?_); rintro o1 w1 ⟨rfl, hb⟩; replace hX := hX.below hb; replace hB := hB.trans (hb.mono hB.size); clear hb; clear x0 x1 x4 x38; have x0 := hX.c0; rw [hk] at x0; have x1 := hX.c1; have x4 := hX.c4; have x38 := hX.c38 hK; rw [hd0] at x38)
    | (go_at_call 49; (with_reducible refine (clines _ hB).mono ?_); rintro o1 w1 ⟨rfl, hb⟩; replace hX := hX.below hb; replace hB := hB.trans (hb.mono hB.size); clear hb; clear x0 x1 x4 x38; have x0 := hX.c0; rw [hk] at x0; have x1 := hX.c1; have x4 := hX.c4; have x38 := hX.c38 hK; rw [hd0] at x38)
    | (go_at_call 48; (with_reducible refine (conly _).mono ?_); rintro o1 w1 ⟨rfl, hb⟩; replace hX := hX.below hb; replace hB := hB.trans (hb.mono hB.size); clear hb; clear x0 x1 x4 x38; have x0 := hX.c0; rw [hk] at x0; have x1 := hX.c1; have x4 := hX.c4; have x38 := hX.c38 hK; rw [hd0] at x38))
  go_ret
  exact ⟨rfl, hB⟩

set_option maxRecDepth 100000 in
set_option maxHeartbeats 4000000 in
theorem rr13_3_0 (D : OpD) (hK : D.K.length = 32) (A : Option Addr) (n c : Nat) (hlo : D.o.length = n) (bn : n ≤ 1000000) (B : Option Addr) (m d : Nat) (hln : D.n.length = m) (bm : m ≤ 1000000) (bp : D.p.length ≤ 1000000) (bt : D.t.length ≤ 1000000) (bo : ∀ x ∈ D.o, x.length ≤ 1000000000000) (bnn : ∀ x ∈ D.n, x.length ≤ 1000000000000) (w : World) (rA : Rd w A (D.o.map strV)) (rB : Rd w B (D.n.map strV)) (hk : D.k = 3) (hp : pathR D.p = false) :
    Calls Try.prog 27 #[.agg (opC D A n c B m d)] w fun o w' => o = .returned (.int .i64 3) ∧ Below w.heap.size w w' := by
  have hB : Below w.heap.size w (w.alloc (.cells (opC D A n c B m d) 40)) := (Below.refl _ w).alloc (Nat.le_refl _) _
  have hX := OpX.new w D A n c B m d
  have hIO : (Try.prog.info? 40).map (·.size) = some (opC D A n c B m d).size := by rw [opC_size _ _ _ _ _ _ _ hK]; exact infoOp
  have cp : ∀ W, Calls Try.prog 47 #[.string (txt D.p)] W fun o w' => o = .returned (.bool false) ∧ Below W.heap.size W w' := fun W => by have z := rpath_any D.p bp W; rwa [hp] at z
  have x0 := hX.c0
  rw [hk] at x0
  have x1 := hX.c1
  have x3 := hX.c3
  have x4 := hX.c4
  have x5 := hX.c5
  have x38 := hX.c38 hK
  go_enter Try.func27, Try.ntmps27
  go_wp2_with (first
    | (with_reducible refine wpList_load_opx (by with_unfolding_all rfl) _ rfl _ rfl hX hK ?_)
    | (go_at_call 47; (with_reducible refine (cp _).mono ?_); rintro o1 w1 ⟨rfl, hb⟩; replace hX := hX.below hb; replace hB := hB.trans (hb.mono hB.size); clear hb; clear x0 x1 x3 x4 x5 x38; have x0 := hX.c0; rw [hk] at x0; have x1 := hX.c1; have x3 := hX.c3; have x4 := hX.c4; have x5 := hX.c5; have x38 := hX.c38 hK))
  go_ret
  exact ⟨rfl, hB⟩

set_option maxRecDepth 100000 in
set_option maxHeartbeats 4000000 in
theorem rr13_3_1 (D : OpD) (hK : D.K.length = 32) (A : Option Addr) (n c : Nat) (hlo : D.o.length = n) (bn : n ≤ 1000000) (B : Option Addr) (m d : Nat) (hln : D.n.length = m) (bm : m ≤ 1000000) (bp : D.p.length ≤ 1000000) (bt : D.t.length ≤ 1000000) (bo : ∀ x ∈ D.o, x.length ≤ 1000000000000) (bnn : ∀ x ∈ D.n, x.length ≤ 1000000000000) (w : World) (rA : Rd w A (D.o.map strV)) (rB : Rd w B (D.n.map strV)) (hk : D.k = 3) (hp : pathR D.p = true) (hhunk : hunkR D.a D.o D.n = false) :
    Calls Try.prog 27 #[.agg (opC D A n c B m d)] w fun o w' => o = .returned (.int .i64 3) ∧ Below w.heap.size w w' := by
  have hB : Below w.heap.size w (w.alloc (.cells (opC D A n c B m d) 40)) := (Below.refl _ w).alloc (Nat.le_refl _) _
  have hX := OpX.new w D A n c B m d
  have hIO : (Try.prog.info? 40).map (·.size) = some (opC D A n c B m d).size := by rw [opC_size _ _ _ _ _ _ _ hK]; exact infoOp
  have cp : ∀ W, Calls Try.prog 47 #[.string (txt D.p)] W fun o w' => o = .returned (.bool true) ∧ Below W.heap.size W w' := fun W => by have z := rpath_any D.p bp W; rwa [hp] at z
  have chunk : ∀ W, Below w.heap.size w W → Calls Try.prog 50 #[.agg #[.int .i64 D.a, .slice A n c, .slice B m d]] W fun o w' => o = .returned (.bool false) ∧ Below W.heap.size W w' := fun W h => by have z := rhunk_any D.a A n c D.o hlo bn B m d D.n hln bm bo bnn W (rA.below h) (rB.below h); rwa [hhunk] at z
  have x0 := hX.c0
  rw [hk] at x0
  have x1 := hX.c1
  have x3 := hX.c3
  have x4 := hX.c4
  have x5 := hX.c5
  have x38 := hX.c38 hK
  go_enter Try.func27, Try.ntmps27
  go_wp2_with (first
    | (with_reducible refine wpList_load_opx (by with_unfolding_all rfl) _ rfl _ rfl hX hK ?_)
    | (go_at_call 47; (with_reducible refine (cp _).mono ?_); rintro o1 w1 ⟨rfl, hb⟩; replace hX := hX.below hb; replace hB := hB.trans (hb.mono hB.size); clear hb; clear x0 x1 x3 x4 x5 x38; have x0 := hX.c0; rw [hk] at x0; have x1 := hX.c1; have x3 := hX.c3; have x4 := hX.c4; have x5 := hX.c5; have x38 := hX.c38 hK)
    | (go_at_call 50; (with_reducible refine (chunk _ hB).mono ?_); rintro o1 w1 ⟨rfl, hb⟩; replace hX := hX.below hb; replace hB := hB.trans (hb.mono hB.size); clear hb; clear x0 x1 x3 x4 x5 x38; have x0 := hX.c0; rw [hk] at x0; have x1 := hX.c1; have x3 := hX.c3; have x4 := hX.c4; have x5 := hX.c5; have x38 := hX.c38 hK))
  go_ret
  exact ⟨rfl, hB⟩

set_option maxRecDepth 100000 in
set_option maxHeartbeats 4000000 in
theorem rr13_3_2 (D : OpD) (hK : D.K.length = 32) (A : Option Addr) (n c : Nat) (hlo : D.o.length = n) (bn : n ≤ 1000000) (B : Option Addr) (m d : Nat) (hln : D.n.length = m) (bm : m ≤ 1000000) (bp : D.p.length ≤ 1000000) (bt : D.t.length ≤ 1000000) (bo : ∀ x ∈ D.o, x.length ≤ 1000000000000) (bnn : ∀ x ∈ D.n, x.length ≤ 1000000000000) (w : World) (rA : Rd w A (D.o.map strV)) (rB : Rd w B (D.n.map strV)) (hk : D.k = 3) (hp : pathR D.p = true) (hhunk : hunkR D.a D.o D.n = true) (honly : onlyR [65, 79, 78] D = false) :
    Calls Try.prog 27 #[.agg (opC D A n c B m d)] w fun o w' => o = .returned (.int .i64 3) ∧ Below w.heap.size w w' := by
  have hB : Below w.heap.size w (w.alloc (.cells (opC D A n c B m d) 40)) := (Below.refl _ w).alloc (Nat.le_refl _) _
  have hX := OpX.new w D A n c B m d
  have hIO : (Try.prog.info? 40).map (·.size) = some (opC D A n c B m d).size := by rw [opC_size _ _ _ _ _ _ _ hK]; exact infoOp
  have cp : ∀ W, Calls Try.prog 47 #[.string (txt D.p)] W fun o w' => o = .returned (.bool true) ∧ Below W.heap.size W w' := fun W => by have z := rpath_any D.p bp W; rwa [hp] at z
  have chunk : ∀ W, Below w.heap.size w W → Calls Try.prog 50 #[.agg #[.int .i64 D.a, .slice A n c, .slice B m d]] W fun o w' => o = .returned (.bool true) ∧ Below W.heap.size W w' := fun W h => by have z := rhunk_any D.a A n c D.o hlo bn B m d D.n hln bm bo bnn W (rA.below h) (rB.below h); rwa [hhunk] at z
  have conly : ∀ W, Calls Try.prog 48 #[.agg (opC D A n c B m d), .string ⟨#[65, 79, 78]⟩] W fun o w' => o = .returned (.bool false) ∧ Below W.heap.size W w' := fun W => by have z := only_any [65, 79, 78] (by decide) D hK A n c hlo B m d hln W; rwa [honly] at z
  have x0 := hX.c0
  rw [hk] at x0
  have x1 := hX.c1
  have x3 := hX.c3
  have x4 := hX.c4
  have x5 := hX.c5
  have x38 := hX.c38 hK
  go_enter Try.func27, Try.ntmps27
  go_wp2_with (first
    | (with_reducible refine wpList_load_opx (by with_unfolding_all rfl) _ rfl _ rfl hX hK ?_)
    | (go_at_call 47; (with_reducible refine (cp _).mono ?_); rintro o1 w1 ⟨rfl, hb⟩; replace hX := hX.below hb; replace hB := hB.trans (hb.mono hB.size); clear hb; clear x0 x1 x3 x4 x5 x38; have x0 := hX.c0; rw [hk] at x0; have x1 := hX.c1; have x3 := hX.c3; have x4 := hX.c4; have x5 := hX.c5; have x38 := hX.c38 hK)
    | (go_at_call 50; (with_reducible refine (chunk _ hB).mono ?_); rintro o1 w1 ⟨rfl, hb⟩; replace hX := hX.below hb; replace hB := hB.trans (hb.mono hB.size); clear hb; clear x0 x1 x3 x4 x5 x38; have x0 := hX.c0; rw [hk] at x0; have x1 := hX.c1; have x3 := hX.c3; have x4 := hX.c4; have x5 := hX.c5; have x38 := hX.c38 hK)
    | (go_at_call 48; (with_reducible refine (conly _).mono ?_); rintro o1 w1 ⟨rfl, hb⟩; replace hX := hX.below hb; replace hB := hB.trans (hb.mono hB.size); clear hb; clear x0 x1 x3 x4 x5 x38; have x0 := hX.c0; rw [hk] at x0; have x1 := hX.c1; have x3 := hX.c3; have x4 := hX.c4; have x5 := hX.c5; have x38 := hX.c38 hK))
  go_ret
  exact ⟨rfl, hB⟩

set_option maxRecDepth 100000 in
set_option maxHeartbeats 4000000 in
theorem rr13_3_c (D : OpD) (hK : D.K.length = 32) (A : Option Addr) (n c : Nat) (hlo : D.o.length = n) (bn : n ≤ 1000000) (B : Option Addr) (m d : Nat) (hln : D.n.length = m) (bm : m ≤ 1000000) (bp : D.p.length ≤ 1000000) (bt : D.t.length ≤ 1000000) (bo : ∀ x ∈ D.o, x.length ≤ 1000000000000) (bnn : ∀ x ∈ D.n, x.length ≤ 1000000000000) (w : World) (rA : Rd w A (D.o.map strV)) (rB : Rd w B (D.n.map strV)) (hk : D.k = 3) (hp : pathR D.p = true) (hhunk : hunkR D.a D.o D.n = true) (honly : onlyR [65, 79, 78] D = true) (hd0 : D.d = 0) :
    Calls Try.prog 27 #[.agg (opC D A n c B m d)] w fun o w' => o = .returned (.int .i64 0) ∧ Below w.heap.size w w' := by
  have hB : Below w.heap.size w (w.alloc (.cells (opC D A n c B m d) 40)) := (Below.refl _ w).alloc (Nat.le_refl _) _
  have hX := OpX.new w D A n c B m d
  have hIO : (Try.prog.info? 40).map (·.size) = some (opC D A n c B m d).size := by rw [opC_size _ _ _ _ _ _ _ hK]; exact infoOp
  have cp : ∀ W, Calls Try.prog 47 #[.string (txt D.p)] W fun o w' => o = .returned (.bool true) ∧ Below W.heap.size W w' := fun W => by have z := rpath_any D.p bp W; rwa [hp] at z
  have chunk : ∀ W, Below w.heap.size w W → Calls Try.prog 50 #[.agg #[.int .i64 D.a, .slice A n c, .slice B m d]] W fun o w' => o = .returned (.bool true) ∧ Below W.heap.size W w' := fun W h => by have z := rhunk_any D.a A n c D.o hlo bn B m d D.n hln bm bo bnn W (rA.below h) (rB.below h); rwa [hhunk] at z
  have conly : ∀ W, Calls Try.prog 48 #[.agg (opC D A n c B m d), .string ⟨#[65, 79, 78]⟩] W fun o w' => o = .returned (.bool true) ∧ Below W.heap.size W w' := fun W => by have z := only_any [65, 79, 78] (by decide) D hK A n c hlo B m d hln W; rwa [honly] at z
  have x0 := hX.c0
  rw [hk] at x0
  have x1 := hX.c1
  have x3 := hX.c3
  have x4 := hX.c4
  have x5 := hX.c5
  have x38 := hX.c38 hK; rw [hd0] at x38
  go_enter Try.func27, Try.ntmps27
  go_wp2_with (first
    | (with_reducible refine wpList_load_opx (by with_unfolding_all rfl) _ rfl _ rfl hX hK ?_)
    | (go_at_call 47; (with_reducible refine (cp _).mono ?_); rintro o1 w1 ⟨rfl, hb⟩; replace hX := hX.below hb; replace hB := hB.trans (hb.mono hB.size); clear hb; clear x0 x1 x3 x4 x5 x38; have x0 := hX.c0; rw [hk] at x0; have x1 := hX.c1; have x3 := hX.c3; have x4 := hX.c4; have x5 := hX.c5; have x38 := hX.c38 hK; rw [hd0] at x38)
    | (go_at_call 50; (with_reducible refine (chunk _ hB).mono ?_); rintro o1 w1 ⟨rfl, hb⟩; replace hX := hX.below hb; replace hB := hB.trans (hb.mono hB.size); clear hb; clear x0 x1 x3 x4 x5 x38; have x0 := hX.c0; rw [hk] at x0; have x1 := hX.c1; have x3 := hX.c3; have x4 := hX.c4; have x5 := hX.c5; have x38 := hX.c38 hK; rw [hd0] at x38)
    | (go_at_call 48; (with_reducible refine (conly _).mono ?_); rintro o1 w1 ⟨rfl, hb⟩; replace hX := hX.below hb; replace hB := hB.trans (hb.mono hB.size); clear hb; clear x0 x1 x3 x4 x5 x38; have x0 := hX.c0; rw [hk] at x0; have x1 := hX.c1; have x3 := hX.c3; have x4 := hX.c4; have x5 := hX.c5; have x38 := hX.c38 hK; rw [hd0] at x38))
  go_ret
  exact ⟨rfl, hB⟩

set_option maxRecDepth 100000 in
set_option maxHeartbeats 4000000 in
theorem rr13_4_0 (D : OpD) (hK : D.K.length = 32) (A : Option Addr) (n c : Nat) (hlo : D.o.length = n) (bn : n ≤ 1000000) (B : Option Addr) (m d : Nat) (hln : D.n.length = m) (bm : m ≤ 1000000) (bp : D.p.length ≤ 1000000) (bt : D.t.length ≤ 1000000) (bo : ∀ x ∈ D.o, x.length ≤ 1000000000000) (bnn : ∀ x ∈ D.n, x.length ≤ 1000000000000) (w : World) (rA : Rd w A (D.o.map strV)) (rB : Rd w B (D.n.map strV)) (hk : D.k = 4) (hp : pathR D.p = false) :
    Calls Try.prog 27 #[.agg (opC D A n c B m d)] w fun o w' => o = .returned (.int .i64 3) ∧ Below w.heap.size w w' := by
  have hB : Below w.heap.size w (w.alloc (.cells (opC D A n c B m d) 40)) := (Below.refl _ w).alloc (Nat.le_refl _) _
  have hX := OpX.new w D A n c B m d
  have hIO : (Try.prog.info? 40).map (·.size) = some (opC D A n c B m d).size := by rw [opC_size _ _ _ _ _ _ _ hK]; exact infoOp
  have cp : ∀ W, Calls Try.prog 47 #[.string (txt D.p)] W fun o w' => o = .returned (.bool false) ∧ Below W.heap.size W w' := fun W => by have z := rpath_any D.p bp W; rwa [hp] at z
  have x0 := hX.c0
  rw [hk] at x0
  have x1 := hX.c1
  have x2 := hX.c2
  have x38 := hX.c38 hK
  go_enter Try.func27, Try.ntmps27
  go_wp2_with (first
    | (with_reducible refine wpList_load_opx (by with_unfolding_all rfl) _ rfl _ rfl hX hK ?_)
    | (go_at_call 47; (with_reducible refine (cp _).mono ?_); rintro o1 w1 ⟨rfl, hb⟩; replace hX := hX.below hb; replace hB := hB.trans (hb.mono hB.size); clear hb; clear x0 x1 x2 x38; have x0 := hX.c0; rw [hk] at x0; have x1 := hX.c1; have x2 := hX.c2; have x38 := hX.c38 hK))
  go_ret
  exact ⟨rfl, hB⟩

set_option maxRecDepth 100000 in
set_option maxHeartbeats 4000000 in
theorem rr13_4_1 (D : OpD) (hK : D.K.length = 32) (A : Option Addr) (n c : Nat) (hlo : D.o.length = n) (bn : n ≤ 1000000) (B : Option Addr) (m d : Nat) (hln : D.n.length = m) (bm : m ≤ 1000000) (bp : D.p.length ≤ 1000000) (bt : D.t.length ≤ 1000000) (bo : ∀ x ∈ D.o, x.length ≤ 1000000000000) (bnn : ∀ x ∈ D.n, x.length ≤ 1000000000000) (w : World) (rA : Rd w A (D.o.map strV)) (rB : Rd w B (D.n.map strV)) (hk : D.k = 4) (hp : pathR D.p = true) (ht : pathR D.t = false) :
    Calls Try.prog 27 #[.agg (opC D A n c B m d)] w fun o w' => o = .returned (.int .i64 3) ∧ Below w.heap.size w w' := by
  have hB : Below w.heap.size w (w.alloc (.cells (opC D A n c B m d) 40)) := (Below.refl _ w).alloc (Nat.le_refl _) _
  have hX := OpX.new w D A n c B m d
  have hIO : (Try.prog.info? 40).map (·.size) = some (opC D A n c B m d).size := by rw [opC_size _ _ _ _ _ _ _ hK]; exact infoOp
  have cp : ∀ W, Calls Try.prog 47 #[.string (txt D.p)] W fun o w' => o = .returned (.bool true) ∧ Below W.heap.size W w' := fun W => by have z := rpath_any D.p bp W; rwa [hp] at z
  have ct : ∀ W, Calls Try.prog 47 #[.string (txt D.t)] W fun o w' => o = .returned (.bool false) ∧ Below W.heap.size W w' := fun W => by have z := rpath_any D.t bt W; rwa [ht] at z
  have x0 := hX.c0
  rw [hk] at x0
  have x1 := hX.c1
  have x2 := hX.c2
  have x38 := hX.c38 hK
  go_enter Try.func27, Try.ntmps27
  go_wp2_with (first
    | (with_reducible refine wpList_load_opx (by with_unfolding_all rfl) _ rfl _ rfl hX hK ?_)
    | (go_at_call 47; (first | (with_reducible refine (cp _).mono ?_) | (with_reducible refine (ct _).mono ?_)); rintro o1 w1 ⟨rfl, hb⟩; replace hX := hX.below hb; replace hB := hB.trans (hb.mono hB.size); clear hb; clear x0 x1 x2 x38; have x0 := hX.c0; rw [hk] at x0; have x1 := hX.c1; have x2 := hX.c2; have x38 := hX.c38 hK))
  go_ret
  exact ⟨rfl, hB⟩

set_option maxRecDepth 100000 in
set_option maxHeartbeats 4000000 in
theorem rr13_4_2 (D : OpD) (hK : D.K.length = 32) (A : Option Addr) (n c : Nat) (hlo : D.o.length = n) (bn : n ≤ 1000000) (B : Option Addr) (m d : Nat) (hln : D.n.length = m) (bm : m ≤ 1000000) (bp : D.p.length ≤ 1000000) (bt : D.t.length ≤ 1000000) (bo : ∀ x ∈ D.o, x.length ≤ 1000000000000) (bnn : ∀ x ∈ D.n, x.length ≤ 1000000000000) (w : World) (rA : Rd w A (D.o.map strV)) (rB : Rd w B (D.n.map strV)) (hk : D.k = 4) (hp : pathR D.p = true) (ht : pathR D.t = true) (hne : D.p = D.t) :
    Calls Try.prog 27 #[.agg (opC D A n c B m d)] w fun o w' => o = .returned (.int .i64 3) ∧ Below w.heap.size w w' := by
  have hB : Below w.heap.size w (w.alloc (.cells (opC D A n c B m d) 40)) := (Below.refl _ w).alloc (Nat.le_refl _) _
  have hX := OpX.new w D A n c B m d
  have hIO : (Try.prog.info? 40).map (·.size) = some (opC D A n c B m d).size := by rw [opC_size _ _ _ _ _ _ _ hK]; exact infoOp
  have cp : ∀ W, Calls Try.prog 47 #[.string (txt D.p)] W fun o w' => o = .returned (.bool true) ∧ Below W.heap.size W w' := fun W => by have z := rpath_any D.p bp W; rwa [hp] at z
  have ct : ∀ W, Calls Try.prog 47 #[.string (txt D.t)] W fun o w' => o = .returned (.bool true) ∧ Below W.heap.size W w' := fun W => by have z := rpath_any D.t bt W; rwa [ht] at z
  have e1 : (D.p == D.t) = true := by simpa using hne
  have e2 : (D.p != D.t) = false := by simpa using hne
  have x0 := hX.c0
  rw [hk] at x0
  have x1 := hX.c1
  have x2 := hX.c2
  have x38 := hX.c38 hK
  go_enter Try.func27, Try.ntmps27
  go_wp2_with (first
    | (with_reducible refine wpList_load_opx (by with_unfolding_all rfl) _ rfl _ rfl hX hK ?_)
    | (go_at_call 47; (first | (with_reducible refine (cp _).mono ?_) | (with_reducible refine (ct _).mono ?_)); rintro o1 w1 ⟨rfl, hb⟩; replace hX := hX.below hb; replace hB := hB.trans (hb.mono hB.size); clear hb; clear x0 x1 x2 x38; have x0 := hX.c0; rw [hk] at x0; have x1 := hX.c1; have x2 := hX.c2; have x38 := hX.c38 hK))
  go_ret
  exact ⟨rfl, hB⟩

set_option maxRecDepth 100000 in
set_option maxHeartbeats 4000000 in
theorem rr13_4_3 (D : OpD) (hK : D.K.length = 32) (A : Option Addr) (n c : Nat) (hlo : D.o.length = n) (bn : n ≤ 1000000) (B : Option Addr) (m d : Nat) (hln : D.n.length = m) (bm : m ≤ 1000000) (bp : D.p.length ≤ 1000000) (bt : D.t.length ≤ 1000000) (bo : ∀ x ∈ D.o, x.length ≤ 1000000000000) (bnn : ∀ x ∈ D.n, x.length ≤ 1000000000000) (w : World) (rA : Rd w A (D.o.map strV)) (rB : Rd w B (D.n.map strV)) (hk : D.k = 4) (hp : pathR D.p = true) (ht : pathR D.t = true) (hne : ¬ D.p = D.t) (honly : onlyR [84] D = false) :
    Calls Try.prog 27 #[.agg (opC D A n c B m d)] w fun o w' => o = .returned (.int .i64 3) ∧ Below w.heap.size w w' := by
  have hB : Below w.heap.size w (w.alloc (.cells (opC D A n c B m d) 40)) := (Below.refl _ w).alloc (Nat.le_refl _) _
  have hX := OpX.new w D A n c B m d
  have hIO : (Try.prog.info? 40).map (·.size) = some (opC D A n c B m d).size := by rw [opC_size _ _ _ _ _ _ _ hK]; exact infoOp
  have cp : ∀ W, Calls Try.prog 47 #[.string (txt D.p)] W fun o w' => o = .returned (.bool true) ∧ Below W.heap.size W w' := fun W => by have z := rpath_any D.p bp W; rwa [hp] at z
  have ct : ∀ W, Calls Try.prog 47 #[.string (txt D.t)] W fun o w' => o = .returned (.bool true) ∧ Below W.heap.size W w' := fun W => by have z := rpath_any D.t bt W; rwa [ht] at z
  have e1 : (D.p == D.t) = false := by simpa using hne
  have e2 : (D.p != D.t) = true := by simpa using hne
  have conly : ∀ W, Calls Try.prog 48 #[.agg (opC D A n c B m d), .string ⟨#[84]⟩] W fun o w' => o = .returned (.bool false) ∧ Below W.heap.size W w' := fun W => by have z := only_any [84] (by decide) D hK A n c hlo B m d hln W; rwa [honly] at z
  have x0 := hX.c0
  rw [hk] at x0
  have x1 := hX.c1
  have x2 := hX.c2
  have x38 := hX.c38 hK
  go_enter Try.func27, Try.ntmps27
  go_wp2_with (first
    | (with_reducible refine wpList_load_opx (by with_unfolding_all rfl) _ rfl _ rfl hX hK ?_)
    | (go_at_call 47; (first | (with_reducible refine (cp _).mono ?_) | (with_reducible refine (ct _).mono ?_)); rintro o1 w1 ⟨rfl, hb⟩; replace hX := hX.below hb; replace hB := hB.trans (hb.mono hB.size); clear hb; clear x0 x1 x2 x38; have x0 := hX.c0; rw [hk] at x0; have x1 := hX.c1; have x2 := hX.c2; have x38 := hX.c38 hK)
    | (go_at_call 48; (with_reducible refine (conly _).mono ?_); rintro o1 w1 ⟨rfl, hb⟩; replace hX := hX.below hb; replace hB := hB.trans (hb.mono hB.size); clear hb; clear x0 x1 x2 x38; have x0 := hX.c0; rw [hk] at x0; have x1 := hX.c1; have x2 := hX.c2; have x38 := hX.c38 hK))
  go_ret
  exact ⟨rfl, hB⟩

set_option maxRecDepth 100000 in
set_option maxHeartbeats 4000000 in
theorem rr13_4_c (D : OpD) (hK : D.K.length = 32) (A : Option Addr) (n c : Nat) (hlo : D.o.length = n) (bn : n ≤ 1000000) (B : Option Addr) (m d : Nat) (hln : D.n.length = m) (bm : m ≤ 1000000) (bp : D.p.length ≤ 1000000) (bt : D.t.length ≤ 1000000) (bo : ∀ x ∈ D.o, x.length ≤ 1000000000000) (bnn : ∀ x ∈ D.n, x.length ≤ 1000000000000) (w : World) (rA : Rd w A (D.o.map strV)) (rB : Rd w B (D.n.map strV)) (hk : D.k = 4) (hp : pathR D.p = true) (ht : pathR D.t = true) (hne : ¬ D.p = D.t) (honly : onlyR [84] D = true) (hd0 : D.d = 0) :
    Calls Try.prog 27 #[.agg (opC D A n c B m d)] w fun o w' => o = .returned (.int .i64 0) ∧ Below w.heap.size w w' := by
  have hB : Below w.heap.size w (w.alloc (.cells (opC D A n c B m d) 40)) := (Below.refl _ w).alloc (Nat.le_refl _) _
  have hX := OpX.new w D A n c B m d
  have hIO : (Try.prog.info? 40).map (·.size) = some (opC D A n c B m d).size := by rw [opC_size _ _ _ _ _ _ _ hK]; exact infoOp
  have cp : ∀ W, Calls Try.prog 47 #[.string (txt D.p)] W fun o w' => o = .returned (.bool true) ∧ Below W.heap.size W w' := fun W => by have z := rpath_any D.p bp W; rwa [hp] at z
  have ct : ∀ W, Calls Try.prog 47 #[.string (txt D.t)] W fun o w' => o = .returned (.bool true) ∧ Below W.heap.size W w' := fun W => by have z := rpath_any D.t bt W; rwa [ht] at z
  have e1 : (D.p == D.t) = false := by simpa using hne
  have e2 : (D.p != D.t) = true := by simpa using hne
  have conly : ∀ W, Calls Try.prog 48 #[.agg (opC D A n c B m d), .string ⟨#[84]⟩] W fun o w' => o = .returned (.bool true) ∧ Below W.heap.size W w' := fun W => by have z := only_any [84] (by decide) D hK A n c hlo B m d hln W; rwa [honly] at z
  have x0 := hX.c0
  rw [hk] at x0
  have x1 := hX.c1
  have x2 := hX.c2
  have x38 := hX.c38 hK; rw [hd0] at x38
  go_enter Try.func27, Try.ntmps27
  go_wp2_with (first
    | (with_reducible refine wpList_load_opx (by with_unfolding_all rfl) _ rfl _ rfl hX hK ?_)
    | (go_at_call 47; (first | (with_reducible refine (cp _).mono ?_) | (with_reducible refine (ct _).mono ?_)); rintro o1 w1 ⟨rfl, hb⟩; replace hX := hX.below hb; replace hB := hB.trans (hb.mono hB.size); clear hb; clear x0 x1 x2 x38; have x0 := hX.c0; rw [hk] at x0; have x1 := hX.c1; have x2 := hX.c2; have x38 := hX.c38 hK; rw [hd0] at x38)
    | (go_at_call 48; (with_reducible refine (conly _).mono ?_); rintro o1 w1 ⟨rfl, hb⟩; replace hX := hX.below hb; replace hB := hB.trans (hb.mono hB.size); clear hb; clear x0 x1 x2 x38; have x0 := hX.c0; rw [hk] at x0; have x1 := hX.c1; have x2 := hX.c2; have x38 := hX.c38 hK; rw [hd0] at x38))
  go_ret
  exact ⟨rfl, hB⟩

set_option maxRecDepth 100000 in
set_option maxHeartbeats 4000000 in
theorem rr13_5_0 (D : OpD) (hK : D.K.length = 32) (A : Option Addr) (n c : Nat) (hlo : D.o.length = n) (bn : n ≤ 1000000) (B : Option Addr) (m d : Nat) (hln : D.n.length = m) (bm : m ≤ 1000000) (bp : D.p.length ≤ 1000000) (bt : D.t.length ≤ 1000000) (bo : ∀ x ∈ D.o, x.length ≤ 1000000000000) (bnn : ∀ x ∈ D.n, x.length ≤ 1000000000000) (w : World) (rA : Rd w A (D.o.map strV)) (rB : Rd w B (D.n.map strV)) (hk : D.k = 5) (hpre : preR D.p = false) :
    Calls Try.prog 27 #[.agg (opC D A n c B m d)] w fun o w' => o = .returned (.int .i64 3) ∧ Below w.heap.size w w' := by
  have hB : Below w.heap.size w (w.alloc (.cells (opC D A n c B m d) 40)) := (Below.refl _ w).alloc (Nat.le_refl _) _
  have hX := OpX.new w D A n c B m d
  have hIO : (Try.prog.info? 40).map (·.size) = some (opC D A n c B m d).size := by rw [opC_size _ _ _ _ _ _ _ hK]; exact infoOp
  have cpre : ∀ W, Calls Try.prog 51 #[.string (txt D.p)] W fun o w' => o = .returned (.bool false) ∧ Below W.heap.size W w' := fun W => by have z := rprefix_any D.p bp W; rwa [hpre] at z
  have x0 := hX.c0
  rw [hk] at x0
  have x1 := hX.c1
  have x38 := hX.c38 hK
  go_enter Try.func27, Try.ntmps27
  go_wp2_with (first
    | (with_reducible refine wpList_load_opx (by with_unfolding_all rfl) _ rfl _ rfl hX hK ?_)
    | (go_at_call 51; (with_reducible refine (cpre _).mono ?_); rintro o1 w1 ⟨rfl, hb⟩; replace hX := hX.below hb; replace hB := hB.trans (hb.mono hB.size); clear hb; clear x0 x1 x38; have x0 := hX.c0; rw [hk] at x0; have x1 := hX.c1; have x38 := hX.c38 hK))
  go_ret
  exact ⟨rfl, hB⟩

set_option maxRecDepth 100000 in
set_option maxHeartbeats 4000000 in
theorem rr13_5_1 (D : OpD) (hK : D.K.length = 32) (A : Option Addr) (n c : Nat) (hlo : D.o.length = n) (bn : n ≤ 1000000) (B : Option Addr) (m d : Nat) (hln : D.n.length = m) (bm : m ≤ 1000000) (bp : D.p.length ≤ 1000000) (bt : D.t.length ≤ 1000000) (bo : ∀ x ∈ D.o, x.length ≤ 1000000000000) (bnn : ∀ x ∈ D.n, x.length ≤ 1000000000000) (w : World) (rA : Rd w A (D.o.map strV)) (rB : Rd w B (D.n.map strV)) (hk : D.k = 5) (hpre : preR D.p = true) (honly : onlyR [75, 68] D = false) :
    Calls Try.prog 27 #[.agg (opC D A n c B m d)] w fun o w' => o = .returned (.int .i64 3) ∧ Below w.heap.size w w' := by
  have hB : Below w.heap.size w (w.alloc (.cells (opC D A n c B m d) 40)) := (Below.refl _ w).alloc (Nat.le_refl _) _
  have hX := OpX.new w D A n c B m d
  have hIO : (Try.prog.info? 40).map (·.size) = some (opC D A n c B m d).size := by rw [opC_size _ _ _ _ _ _ _ hK]; exact infoOp
  have cpre : ∀ W, Calls Try.prog 51 #[.string (txt D.p)] W fun o w' => o = .returned (.bool true) ∧ Below W.heap.size W w' := fun W => by have z := rprefix_any D.p bp W; rwa [hpre] at z
  have conly : ∀ W, Calls Try.prog 48 #[.agg (opC D A n c B m d), .string ⟨#[75, 68]⟩] W fun o w' => o = .returned (.bool false) ∧ Below W.heap.size W w' := fun W => by have z := only_any [75, 68] (by decide) D hK A n c hlo B m d hln W; rwa [honly] at z
  have x0 := hX.c0
  rw [hk] at x0
  have x1 := hX.c1
  have x38 := hX.c38 hK
  go_enter Try.func27, Try.ntmps27
  go_wp2_with (first
    | (with_reducible refine wpList_load_opx (by with_unfolding_all rfl) _ rfl _ rfl hX hK ?_)
    | (go_at_call 51; (with_reducible refine (cpre _).mono ?_); rintro o1 w1 ⟨rfl, hb⟩; replace hX := hX.below hb; replace hB := hB.trans (hb.mono hB.size); clear hb; clear x0 x1 x38; have x0 := hX.c0; rw [hk] at x0; have x1 := hX.c1; have x38 := hX.c38 hK)
    | (go_at_call 48; (with_reducible refine (conly _).mono ?_); rintro o1 w1 ⟨rfl, hb⟩; replace hX := hX.below hb; replace hB := hB.trans (hb.mono hB.size); clear hb; clear x0 x1 x38; have x0 := hX.c0; rw [hk] at x0; have x1 := hX.c1; have x38 := hX.c38 hK))
  go_ret
  exact ⟨rfl, hB⟩

set_option maxRecDepth 100000 in
set_option maxHeartbeats 4000000 in
theorem rr13_5_a (D : OpD) (hK : D.K.length = 32) (A : Option Addr) (n c : Nat) (hlo : D.o.length = n) (bn : n ≤ 1000000) (B : Option Addr) (m d : Nat) (hln : D.n.length = m) (bm : m ≤ 1000000) (bp : D.p.length ≤ 1000000) (bt : D.t.length ≤ 1000000) (bo : ∀ x ∈ D.o, x.length ≤ 1000000000000) (bnn : ∀ x ∈ D.n, x.length ≤ 1000000000000) (w : World) (rA : Rd w A (D.o.map strV)) (rB : Rd w B (D.n.map strV)) (hk : D.k = 5) (hpre : preR D.p = true) (honly : onlyR [75, 68] D = true) (hd : D.d < 0) :
    Calls Try.prog 27 #[.agg (opC D A n c B m d)] w fun o w' => o = .returned (.int .i64 5) ∧ Below w.heap.size w w' := by
  have hB : Below w.heap.size w (w.alloc (.cells (opC D A n c B m d) 40)) := (Below.refl _ w).alloc (Nat.le_refl _) _
  have hX := OpX.new w D A n c B m d
  have hIO : (Try.prog.info? 40).map (·.size) = some (opC D A n c B m d).size := by rw [opC_size _ _ _ _ _ _ _ hK]; exact infoOp
  have cpre : ∀ W, Calls Try.prog 51 #[.string (txt D.p)] W fun o w' => o = .returned (.bool true) ∧ Below W.heap.size W w' := fun W => by have z := rprefix_any D.p bp W; rwa [hpre] at z
  have conly : ∀ W, Calls Try.prog 48 #[.agg (opC D A n c B m d), .string ⟨#[75, 68]⟩] W fun o w' => o = .returned (.bool true) ∧ Below W.heap.size W w' := fun W => by have z := only_any [75, 68] (by decide) D hK A n c hlo B m d hln W; rwa [honly] at z
  have x0 := hX.c0
  rw [hk] at x0
  have x1 := hX.c1
  have x38 := hX.c38 hK
  go_enter Try.func27, Try.ntmps27
  go_wp2_with (first
    | (with_reducible refine wpList_load_opx (by with_unfolding_all rfl) _ rfl _ rfl hX hK ?_)
    | (go_at_call 51; (with_reducible refine (cpre _).mono ?_); rintro o1 w1 ⟨rfl, hb⟩; replace hX := hX.below hb; replace hB := hB.trans (hb.mono hB.size); clear hb; clear x0 x1 x38; have x0 := hX.c0; rw [hk] at x0; have x1 := hX.c1; have x38 := hX.c38 hK)
    | (go_at_call 48; (with_reducible refine (conly _).mono ?_); rintro o1 w1 ⟨rfl, hb⟩; replace hX := hX.below hb; replace hB := hB.trans (hb.mono hB.size); clear hb; clear x0 x1 x38; have x0 := hX.c0; rw [hk] at x0; have x1 := hX.c1; have x38 := hX.c38 hK))
  go_ret
  exact ⟨rfl, hB⟩

set_option maxRecDepth 100000 in
set_option maxHeartbeats 4000000 in
theorem rr13_5_b (D : OpD) (hK : D.K.length = 32) (A : Option Addr) (n c : Nat) (hlo : D.o.length = n) (bn : n ≤ 1000000) (B : Option Addr) (m d : Nat) (hln : D.n.length = m) (bm : m ≤ 1000000) (bp : D.p.length ≤ 1000000) (bt : D.t.length ≤ 1000000) (bo : ∀ x ∈ D.o, x.length ≤ 1000000000000) (bnn : ∀ x ∈ D.n, x.length ≤ 1000000000000) (w : World) (rA : Rd w A (D.o.map strV)) (rB : Rd w B (D.n.map strV)) (hk : D.k = 5) (hpre : preR D.p = true) (honly : onlyR [75, 68] D = true) (hd : ¬ D.d < 0) (he : 8 < D.d) :
    Calls Try.prog 27 #[.agg (opC D A n c B m d)] w fun o w' => o = .returned (.int .i64 5) ∧ Below w.heap.size w w' := by
  have hB : Below w.heap.size w (w.alloc (.cells (opC D A n c B m d) 40)) := (Below.refl _ w).alloc (Nat.le_refl _) _
  have hX := OpX.new w D A n c B m d
  have hIO : (Try.prog.info? 40).map (·.size) = some (opC D A n c B m d).size := by rw [opC_size _ _ _ _ _ _ _ hK]; exact infoOp
  have cpre : ∀ W, Calls Try.prog 51 #[.string (txt D.p)] W fun o w' => o = .returned (.bool true) ∧ Below W.heap.size W w' := fun W => by have z := rprefix_any D.p bp W; rwa [hpre] at z
  have conly : ∀ W, Calls Try.prog 48 #[.agg (opC D A n c B m d), .string ⟨#[75, 68]⟩] W fun o w' => o = .returned (.bool true) ∧ Below W.heap.size W w' := fun W => by have z := only_any [75, 68] (by decide) D hK A n c hlo B m d hln W; rwa [honly] at z
  have x0 := hX.c0
  rw [hk] at x0
  have x1 := hX.c1
  have x38 := hX.c38 hK
  go_enter Try.func27, Try.ntmps27
  go_wp2_with (first
    | (with_reducible refine wpList_load_opx (by with_unfolding_all rfl) _ rfl _ rfl hX hK ?_)
    | (go_at_call 51; (with_reducible refine (cpre _).mono ?_); rintro o1 w1 ⟨rfl, hb⟩; replace hX := hX.below hb; replace hB := hB.trans (hb.mono hB.size); clear hb; clear x0 x1 x38; have x0 := hX.c0; rw [hk] at x0; have x1 := hX.c1; have x38 := hX.c38 hK)
    | (go_at_call 48; (with_reducible refine (conly _).mono ?_); rintro o1 w1 ⟨rfl, hb⟩; replace hX := hX.below hb; replace hB := hB.trans (hb.mono hB.size); clear hb; clear x0 x1 x38; have x0 := hX.c0; rw [hk] at x0; have x1 := hX.c1; have x38 := hX.c38 hK))
  go_ret
  exact ⟨rfl, hB⟩

set_option maxRecDepth 100000 in
set_option maxHeartbeats 4000000 in
theorem rr13_5_c (D : OpD) (hK : D.K.length = 32) (A : Option Addr) (n c : Nat) (hlo : D.o.length = n) (bn : n ≤ 1000000) (B : Option Addr) (m d : Nat) (hln : D.n.length = m) (bm : m ≤ 1000000) (bp : D.p.length ≤ 1000000) (bt : D.t.length ≤ 1000000) (bo : ∀ x ∈ D.o, x.length ≤ 1000000000000) (bnn : ∀ x ∈ D.n, x.length ≤ 1000000000000) (w : World) (rA : Rd w A (D.o.map strV)) (rB : Rd w B (D.n.map strV)) (hk : D.k = 5) (hpre : preR D.p = true) (honly : onlyR [75, 68] D = true) (hd : ¬ D.d < 0) (he : ¬ 8 < D.d) :
    Calls Try.prog 27 #[.agg (opC D A n c B m d)] w fun o w' => o = .returned (.int .i64 0) ∧ Below w.heap.size w w' := by
  have hB : Below w.heap.size w (w.alloc (.cells (opC D A n c B m d) 40)) := (Below.refl _ w).alloc (Nat.le_refl _) _
  have hX := OpX.new w D A n c B m d
  have hIO : (Try.prog.info? 40).map (·.size) = some (opC D A n c B m d).size := by rw [opC_size _ _ _ _ _ _ _ hK]; exact infoOp
  have cpre : ∀ W, Calls Try.prog 51 #[.string (txt D.p)] W fun o w' => o = .returned (.bool true) ∧ Below W.heap.size W w' := fun W => by have z := rprefix_any D.p bp W; rwa [hpre] at z
  have conly : ∀ W, Calls Try.prog 48 #[.agg (opC D A n c B m d), .string ⟨#[75, 68]⟩] W fun o w' => o = .returned (.bool true) ∧ Below W.heap.size W w' := fun W => by have z := only_any [75, 68] (by decide) D hK A n c hlo B m d hln W; rwa [honly] at z
  have x0 := hX.c0
  rw [hk] at x0
  have x1 := hX.c1
  have x38 := hX.c38 hK
  go_enter Try.func27, Try.ntmps27
  go_wp2_with (first
    | (with_reducible refine wpList_load_opx (by with_unfolding_all rfl) _ rfl _ rfl hX hK ?_)
    | (go_at_call 51; (with_reducible refine (cpre _).mono ?_); rintro o1 w1 ⟨rfl, hb⟩; replace hX := hX.below hb; replace hB := hB.trans (hb.mono hB.size); clear hb; clear x0 x1 x38; have x0 := hX.c0; rw [hk] at x0; have x1 := hX.c1; have x38 := hX.c38 hK)
    | (go_at_call 48; (with_reducible refine (conly _).mono ?_); rintro o1 w1 ⟨rfl, hb⟩; replace hX := hX.below hb; replace hB := hB.trans (hb.mono hB.size); clear hb; clear x0 x1 x38; have x0 := hX.c0; rw [hk] at x0; have x1 := hX.c1; have x38 := hX.c38 hK))
  go_ret
  exact ⟨rfl, hB⟩

set_option maxRecDepth 100000 in
set_option maxHeartbeats 4000000 in
theorem rr13_6_0 (D : OpD) (hK : D.K.length = 32) (A : Option Addr) (n c : Nat) (hlo : D.o.length = n) (bn : n ≤ 1000000) (B : Option Addr) (m d : Nat) (hln : D.n.length = m) (bm : m ≤ 1000000) (bp : D.p.length ≤ 1000000) (bt : D.t.length ≤ 1000000) (bo : ∀ x ∈ D.o, x.length ≤ 1000000000000) (bnn : ∀ x ∈ D.n, x.length ≤ 1000000000000) (w : World) (rA : Rd w A (D.o.map strV)) (rB : Rd w B (D.n.map strV)) (hk : D.k = 6) (hpre : preR D.p = false) :
    Calls Try.prog 27 #[.agg (opC D A n c B m d)] w fun o w' => o = .returned (.int .i64 3) ∧ Below w.heap.size w w' := by
  have hB : Below w.heap.size w (w.alloc (.cells (opC D A n c B m d) 40)) := (Below.refl _ w).alloc (Nat.le_refl _) _
  have hX := OpX.new w D A n c B m d
  have hIO : (Try.prog.info? 40).map (·.size) = some (opC D A n c B m d).size := by rw [opC_size _ _ _ _ _ _ _ hK]; exact infoOp
  have cpre : ∀ W, Calls Try.prog 51 #[.string (txt D.p)] W fun o w' => o = .returned (.bool false) ∧ Below W.heap.size W w' := fun W => by have z := rprefix_any D.p bp W; rwa [hpre] at z
  have x0 := hX.c0
  rw [hk] at x0
  have x1 := hX.c1
  have x38 := hX.c38 hK
  go_enter Try.func27, Try.ntmps27
  go_wp2_with (first
    | (with_reducible refine wpList_load_opx (by with_unfolding_all rfl) _ rfl _ rfl hX hK ?_)
    | (go_at_call 51; (with_reducible refine (cpre _).mono ?_); rintro o1 w1 ⟨rfl, hb⟩; replace hX := hX.below hb; replace hB := hB.trans (hb.mono hB.size); clear hb; clear x0 x1 x38; have x0 := hX.c0; rw [hk] at x0; have x1 := hX.c1; have x38 := hX.c38 hK))
  go_ret
  exact ⟨rfl, hB⟩

set_option maxRecDepth 100000 in
set_option maxHeartbeats 4000000 in
theorem rr13_6_1 (D : OpD) (hK : D.K.length = 32) (A : Option Addr) (n c : Nat) (hlo : D.o.length = n) (bn : n ≤ 1000000) (B : Option Addr) (m d : Nat) (hln : D.n.length = m) (bm : m ≤ 1000000) (bp : D.p.length ≤ 1000000) (bt : D.t.length ≤ 1000000) (bo : ∀ x ∈ D.o, x.length ≤ 1000000000000) (bnn : ∀ x ∈ D.n, x.length ≤ 1000000000000) (w : World) (rA : Rd w A (D.o.map strV)) (rB : Rd w B (D.n.map strV)) (hk : D.k = 6) (hpre : preR D.p = true) (honly : onlyR [75] D = false) :
    Calls Try.prog 27 #[.agg (opC D A n c B m d)] w fun o w' => o = .returned (.int .i64 3) ∧ Below w.heap.size w w' := by
  have hB : Below w.heap.size w (w.alloc (.cells (opC D A n c B m d) 40)) := (Below.refl _ w).alloc (Nat.le_refl _) _
  have hX := OpX.new w D A n c B m d
  have hIO : (Try.prog.info? 40).map (·.size) = some (opC D A n c B m d).size := by rw [opC_size _ _ _ _ _ _ _ hK]; exact infoOp
  have cpre : ∀ W, Calls Try.prog 51 #[.string (txt D.p)] W fun o w' => o = .returned (.bool true) ∧ Below W.heap.size W w' := fun W => by have z := rprefix_any D.p bp W; rwa [hpre] at z
  have conly : ∀ W, Calls Try.prog 48 #[.agg (opC D A n c B m d), .string ⟨#[75]⟩] W fun o w' => o = .returned (.bool false) ∧ Below W.heap.size W w' := fun W => by have z := only_any [75] (by decide) D hK A n c hlo B m d hln W; rwa [honly] at z
  have x0 := hX.c0
  rw [hk] at x0
  have x1 := hX.c1
  have x38 := hX.c38 hK
  go_enter Try.func27, Try.ntmps27
  go_wp2_with (first
    | (with_reducible refine wpList_load_opx (by with_unfolding_all rfl) _ rfl _ rfl hX hK ?_)
    | (go_at_call 51; (with_reducible refine (cpre _).mono ?_); rintro o1 w1 ⟨rfl, hb⟩; replace hX := hX.below hb; replace hB := hB.trans (hb.mono hB.size); clear hb; clear x0 x1 x38; have x0 := hX.c0; rw [hk] at x0; have x1 := hX.c1; have x38 := hX.c38 hK)
    | (go_at_call 48; (with_reducible refine (conly _).mono ?_); rintro o1 w1 ⟨rfl, hb⟩; replace hX := hX.below hb; replace hB := hB.trans (hb.mono hB.size); clear hb; clear x0 x1 x38; have x0 := hX.c0; rw [hk] at x0; have x1 := hX.c1; have x38 := hX.c38 hK))
  go_ret
  exact ⟨rfl, hB⟩

set_option maxRecDepth 100000 in
set_option maxHeartbeats 4000000 in
theorem rr13_6_c (D : OpD) (hK : D.K.length = 32) (A : Option Addr) (n c : Nat) (hlo : D.o.length = n) (bn : n ≤ 1000000) (B : Option Addr) (m d : Nat) (hln : D.n.length = m) (bm : m ≤ 1000000) (bp : D.p.length ≤ 1000000) (bt : D.t.length ≤ 1000000) (bo : ∀ x ∈ D.o, x.length ≤ 1000000000000) (bnn : ∀ x ∈ D.n, x.length ≤ 1000000000000) (w : World) (rA : Rd w A (D.o.map strV)) (rB : Rd w B (D.n.map strV)) (hk : D.k = 6) (hpre : preR D.p = true) (honly : onlyR [75] D = true) (hd0 : D.d = 0) :
    Calls Try.prog 27 #[.agg (opC D A n c B m d)] w fun o w' => o = .returned (.int .i64 0) ∧ Below w.heap.size w w' := by
  have hB : Below w.heap.size w (w.alloc (.cells (opC D A n c B m d) 40)) := (Below.refl _ w).alloc (Nat.le_refl _) _
  have hX := OpX.new w D A n c B m d
  have hIO : (Try.prog.info? 40).map (·.size) = some (opC D A n c B m d).size := by rw [opC_size _ _ _ _ _ _ _ hK]; exact infoOp
  have cpre : ∀ W, Calls Try.prog 51 #[.string (txt D.p)] W fun o w' => o = .returned (.bool true) ∧ Below W.heap.size W w' := fun W => by have z := rprefix_any D.p bp W; rwa [hpre] at z
  have conly : ∀ W, Calls Try.prog 48 #[.agg (opC D A n c B m d), .string ⟨#[75]⟩] W fun o w' => o = .returned (.bool true) ∧ Below W.heap.size W w' := fun W => by have z := only_any [75] (by decide) D hK A n c hlo B m d hln W; rwa [honly] at z
  have x0 := hX.c0
  rw [hk] at x0
  have x1 := hX.c1
  have x38 := hX.c38 hK; rw [hd0] at x38
  go_enter Try.func27, Try.ntmps27
  go_wp2_with (first
    | (with_reducible refine wpList_load_opx (by with_unfolding_all rfl) _ rfl _ rfl hX hK ?_)
    | (go_at_call 51; (with_reducible refine (cpre _).mono ?_); rintro o1 w1 ⟨rfl, hb⟩; replace hX := hX.below hb; replace hB := hB.trans (hb.mono hB.size); clear hb; clear x0 x1 x38; have x0 := hX.c0; rw [hk] at x0; have x1 := hX.c1; have x38 := hX.c38 hK; rw [hd0] at x38)
    | (go_at_call 48; (with_reducible refine (conly _).mono ?_); rintro o1 w1 ⟨rfl, hb⟩; replace hX := hX.below hb; replace hB := hB.trans (hb.mono hB.size); clear hb; clear x0 x1 x38; have x0 := hX.c0; rw [hk] at x0; have x1 := hX.c1; have x38 := hX.c38 hK; rw [hd0] at x38))
  go_ret
  exact ⟨rfl, hB⟩

set_option maxRecDepth 100000 in
set_option maxHeartbeats 4000000 in
theorem rr13_0 (D : OpD) (hK : D.K.length = 32) (A : Option Addr) (n c : Nat) (hlo : D.o.length = n) (bn : n ≤ 1000000) (B : Option Addr) (m d : Nat) (hln : D.n.length = m) (bm : m ≤ 1000000) (bp : D.p.length ≤ 1000000) (bt : D.t.length ≤ 1000000) (bo : ∀ x ∈ D.o, x.length ≤ 1000000000000) (bnn : ∀ x ∈ D.n, x.length ≤ 1000000000000) (w : World) (rA : Rd w A (D.o.map strV)) (rB : Rd w B (D.n.map strV)) (h1 : ¬ (1 ≤ D.k ∧ D.k ≤ 6)) :
    Calls Try.prog 27 #[.agg (opC D A n c B m d)] w fun o w' => o = .returned (.int .i64 1) ∧ Below w.heap.size w w' := by
  have hB : Below w.heap.size w (w.alloc (.cells (opC D A n c B m d) 40)) := (Below.refl _ w).alloc (Nat.le_refl _) _
  have hX := OpX.new w D A n c B m d
  have hIO : (Try.prog.info? 40).map (·.size) = some (opC D A n c B m d).size := by rw [opC_size _ _ _ _ _ _ _ hK]; exact infoOp
  have x0 := hX.c0
  by_cases h0 : D.k < 1
  · have z1 : decide (D.k < 1) = true := decide_eq_true h0
    go_enter Try.func27, Try.ntmps27
    go_wp2_with (first
      | (with_reducible refine wpList_load_opx (by with_unfolding_all rfl) _ rfl _ rfl hX hK ?_))
    go_ret
    exact ⟨rfl, hB⟩
  
  · have z1 : decide (D.k < 1) = false := decide_eq_false h0
    have z2 : decide (6 < D.k) = true := decide_eq_true (by omega)
    have z3 : 6 < D.k := by omega
    go_enter Try.func27, Try.ntmps27
    go_wp2_with (first
      | (with_reducible refine wpList_load_opx (by with_unfolding_all rfl) _ rfl _ rfl hX hK ?_))
    go_ret
    exact ⟨rfl, hB⟩
  
theorem onlyR_d {l : List UInt8} {D : OpD} (h : onlyR l D = true) (h68 : l.contains 68 = false) : D.d = 0 := by
  unfold onlyR onlyL hasB at h
  simp only [List.all_cons, List.all_nil, Bool.and_true, Bool.and_eq_true, okL, h68] at h
  simpa using h.2.2.2.2.2
/-- What is wrong with an operation, by the document. -/
theorem rr13_any (D : OpD) (hK : D.K.length = 32) (A : Option Addr) (n c : Nat) (hlo : D.o.length = n) (bn : n ≤ 1000000) (B : Option Addr) (m d : Nat) (hln : D.n.length = m) (bm : m ≤ 1000000) (bp : D.p.length ≤ 1000000) (bt : D.t.length ≤ 1000000) (bo : ∀ x ∈ D.o, x.length ≤ 1000000000000) (bnn : ∀ x ∈ D.n, x.length ≤ 1000000000000) (w : World) (rA : Rd w A (D.o.map strV)) (rB : Rd w B (D.n.map strV)) :
    Calls Try.prog 27 #[.agg (opC D A n c B m d)] w fun o w' => o = .returned (.int .i64 (opE D)) ∧ Below w.heap.size w w' := by
  by_cases h : 1 ≤ D.k ∧ D.k ≤ 6
  · rcases kind_cases h.1 h.2 with hk | hk | hk | hk | hk | hk
    · have hE := opE_1 D hk
      cases hp : pathR D.p with
      | false => rw [hE, hp]; (try simp only [Bool.true_and, Bool.false_and, Bool.and_true, Bool.and_false, if_true, if_false, reduceIte, Bool.false_eq_true, reduceCtorEq]); exact rr13_1_0 D hK A n c hlo bn B m d hln bm bp bt bo bnn w rA rB hk hp
      | true =>
        cases honly : onlyR [] D with
        | false => rw [hE, hp, honly]; (try simp only [Bool.true_and, Bool.false_and, Bool.and_true, Bool.and_false, if_true, if_false, reduceIte, Bool.false_eq_true, reduceCtorEq]); exact rr13_1_1 D hK A n c hlo bn B m d hln bm bp bt bo bnn w rA rB hk hp honly
        | true =>
          have hd0 := onlyR_d honly (by decide); rw [hE, hp, honly]; (try simp only [Bool.true_and, Bool.and_true, if_true, reduceIte]); rw [if_neg (by omega)]; exact rr13_1_c D hK A n c hlo bn B m d hln bm bp bt bo bnn w rA rB hk hp honly hd0
    · have hE := opE_2 D hk
      cases hp : pathR D.p with
      | false => rw [hE, hp]; (try simp only [Bool.true_and, Bool.false_and, Bool.and_true, Bool.and_false, if_true, if_false, reduceIte, Bool.false_eq_true, reduceCtorEq]); exact rr13_2_0 D hK A n c hlo bn B m d hln bm bp bt bo bnn w rA rB hk hp
      | true =>
        cases hlines : linesR D.o with
        | false => rw [hE, hp, hlines]; (try simp only [Bool.true_and, Bool.false_and, Bool.and_true, Bool.and_false, if_true, if_false, reduceIte, Bool.false_eq_true, reduceCtorEq]); exact rr13_2_1 D hK A n c hlo bn B m d hln bm bp bt bo bnn w rA rB hk hp hlines
        | true =>
          cases honly : onlyR [79] D with
          | false => rw [hE, hp, hlines, honly]; (try simp only [Bool.true_and, Bool.false_and, Bool.and_true, Bool.and_false, if_true, if_false, reduceIte, Bool.false_eq_true, reduceCtorEq]); exact rr13_2_2 D hK A n c hlo bn B m d hln bm bp bt bo bnn w rA rB hk hp hlines honly
          | true =>
            have hd0 := onlyR_d honly (by decide); rw [hE, hp, hlines, honly]; (try simp only [Bool.true_and, Bool.and_true, if_true, reduceIte]); rw [if_neg (by omega)]; exact rr13_2_c D hK A n c hlo bn B m d hln bm bp bt bo bnn w rA rB hk hp hlines honly hd0
    · have hE := opE_3 D hk
      cases hp : pathR D.p with
      | false => rw [hE, hp]; (try simp only [Bool.true_and, Bool.false_and, Bool.and_true, Bool.and_false, if_true, if_false, reduceIte, Bool.false_eq_true, reduceCtorEq]); exact rr13_3_0 D hK A n c hlo bn B m d hln bm bp bt bo bnn w rA rB hk hp
      | true =>
        cases hhunk : hunkR D.a D.o D.n with
        | false => rw [hE, hp, hhunk]; (try simp only [Bool.true_and, Bool.false_and, Bool.and_true, Bool.and_false, if_true, if_false, reduceIte, Bool.false_eq_true, reduceCtorEq]); exact rr13_3_1 D hK A n c hlo bn B m d hln bm bp bt bo bnn w rA rB hk hp hhunk
        | true =>
          cases honly : onlyR [65, 79, 78] D with
          | false => rw [hE, hp, hhunk, honly]; (try simp only [Bool.true_and, Bool.false_and, Bool.and_true, Bool.and_false, if_true, if_false, reduceIte, Bool.false_eq_true, reduceCtorEq]); exact rr13_3_2 D hK A n c hlo bn B m d hln bm bp bt bo bnn w rA rB hk hp hhunk honly
          | true =>
            have hd0 := onlyR_d honly (by decide); rw [hE, hp, hhunk, honly]; (try simp only [Bool.true_and, Bool.and_true, if_true, reduceIte]); rw [if_neg (by omega)]; exact rr13_3_c D hK A n c hlo bn B m d hln bm bp bt bo bnn w rA rB hk hp hhunk honly hd0
    · have hE := opE_4 D hk
      cases hp : pathR D.p with
      | false => rw [hE, hp]; (try simp only [Bool.true_and, Bool.false_and, Bool.and_true, Bool.and_false, if_true, if_false, reduceIte, Bool.false_eq_true, reduceCtorEq]); exact rr13_4_0 D hK A n c hlo bn B m d hln bm bp bt bo bnn w rA rB hk hp
      | true =>
        cases ht : pathR D.t with
        | false => rw [hE, hp, ht]; (try simp only [Bool.true_and, Bool.false_and, Bool.and_true, Bool.and_false, if_true, if_false, reduceIte, Bool.false_eq_true, reduceCtorEq]); exact rr13_4_1 D hK A n c hlo bn B m d hln bm bp bt bo bnn w rA rB hk hp ht
        | true =>
          by_cases hne : D.p = D.t
          · rw [hE, decide_eq_false (by simpa using hne), hp, ht]; (try simp only [Bool.true_and, Bool.false_and, Bool.and_true, Bool.and_false, if_true, if_false, reduceIte, Bool.false_eq_true, reduceCtorEq]); exact rr13_4_2 D hK A n c hlo bn B m d hln bm bp bt bo bnn w rA rB hk hp ht hne
          cases honly : onlyR [84] D with
          | false => rw [hE, decide_eq_true hne, hp, ht, honly]; (try simp only [Bool.true_and, Bool.false_and, Bool.and_true, Bool.and_false, if_true, if_false, reduceIte, Bool.false_eq_true, reduceCtorEq]); exact rr13_4_3 D hK A n c hlo bn B m d hln bm bp bt bo bnn w rA rB hk hp ht hne honly
          | true =>
            have hd0 := onlyR_d honly (by decide); rw [hE, decide_eq_true hne, hp, ht, honly]; (try simp only [Bool.true_and, Bool.and_true, if_true, reduceIte]); rw [if_neg (by omega)]; exact rr13_4_c D hK A n c hlo bn B m d hln bm bp bt bo bnn w rA rB hk hp ht hne honly hd0
    · have hE := opE_5 D hk
      cases hpre : preR D.p with
      | false => rw [hE, hpre]; (try simp only [Bool.true_and, Bool.false_and, Bool.and_true, Bool.and_false, if_true, if_false, reduceIte, Bool.false_eq_true, reduceCtorEq]); exact rr13_5_0 D hK A n c hlo bn B m d hln bm bp bt bo bnn w rA rB hk hpre
      | true =>
        cases honly : onlyR [75, 68] D with
        | false => rw [hE, hpre, honly]; (try simp only [Bool.true_and, Bool.false_and, Bool.and_true, Bool.and_false, if_true, if_false, reduceIte, Bool.false_eq_true, reduceCtorEq]); exact rr13_5_1 D hK A n c hlo bn B m d hln bm bp bt bo bnn w rA rB hk hpre honly
        | true =>
          by_cases hd : D.d < 0
          · rw [hE, hpre, honly]; (try simp only [Bool.true_and, Bool.and_true, if_true, reduceIte]); rw [if_pos (Or.inl hd)]; (try simp only [Bool.true_and, Bool.false_and, Bool.and_true, Bool.and_false, if_true, if_false, reduceIte, Bool.false_eq_true, reduceCtorEq]); exact rr13_5_a D hK A n c hlo bn B m d hln bm bp bt bo bnn w rA rB hk hpre honly hd
          · by_cases he : 8 < D.d
            · rw [hE, hpre, honly]; (try simp only [Bool.true_and, Bool.and_true, if_true, reduceIte]); rw [if_pos (Or.inr he)]; (try simp only [Bool.true_and, Bool.false_and, Bool.and_true, Bool.and_false, if_true, if_false, reduceIte, Bool.false_eq_true, reduceCtorEq]); exact rr13_5_b D hK A n c hlo bn B m d hln bm bp bt bo bnn w rA rB hk hpre honly hd he
            · rw [hE, hpre, honly]; rw [if_pos (show (true && true) = true from rfl), if_neg (show ¬ (D.d < 0 ∨ 8 < D.d) by omega)]; exact rr13_5_c D hK A n c hlo bn B m d hln bm bp bt bo bnn w rA rB hk hpre honly hd he
    · have hE := opE_6 D hk
      cases hpre : preR D.p with
      | false => rw [hE, hpre]; (try simp only [Bool.true_and, Bool.false_and, Bool.and_true, Bool.and_false, if_true, if_false, reduceIte, Bool.false_eq_true, reduceCtorEq]); exact rr13_6_0 D hK A n c hlo bn B m d hln bm bp bt bo bnn w rA rB hk hpre
      | true =>
        cases honly : onlyR [75] D with
        | false => rw [hE, hpre, honly]; (try simp only [Bool.true_and, Bool.false_and, Bool.and_true, Bool.and_false, if_true, if_false, reduceIte, Bool.false_eq_true, reduceCtorEq]); exact rr13_6_1 D hK A n c hlo bn B m d hln bm bp bt bo bnn w rA rB hk hpre honly
        | true =>
          have hd0 := onlyR_d honly (by decide); rw [hE, hpre, honly]; (try simp only [Bool.true_and, Bool.and_true, if_true, reduceIte]); rw [if_neg (by omega)]; exact rr13_6_c D hK A n c hlo bn B m d hln bm bp bt bo bnn w rA rB hk hpre honly hd0
  · have hE : opE D = 1 := by unfold opE; rw [if_neg h]
    rw [hE]; (try simp only [Bool.true_and, Bool.false_and, Bool.and_true, Bool.and_false, if_true, if_false, reduceIte, Bool.false_eq_true, reduceCtorEq]); exact rr13_0 D hK A n c hlo bn B m d hln bm bp bt bo bnn w rA rB h
end Go.Proofs.Ytodfaakodgedbaa


/- keytree: right params, how many leaves, of the program and of the document. -/
import Derived.Test.YticpdepbgcagaaaGreatKtA
namespace Go.Proofs.YticpdepbgcagaaaGreat
open Go.RowKit Go.Qc
attribute [local go_sem] txt_size

/-- The rows that a fold tells. -/
def RowsF (W : World) (g : Nat) (f : Nat → List UInt8) (k : Nat) : Prop :=
  ∀ i, i ≤ k → ∃ A c, W.cell? ⟨g, i, none⟩ = some (.slice A (2 ^ (k - i)) c) ∧ RowR W A (2 ^ (k - i)) (upTo (ndB f i) (2 ^ (k - i)))
theorem RowsF.below {W W' : World} {g k : Nat} {f : Nat → List UInt8} (h : RowsF W g f k) (hb : Below W.heap.size W W') : RowsF W' g f k := fun i hi => by
  obtain ⟨A, c, h1, h2⟩ := h i hi
  exact ⟨A, c, Below.keep hb h1, h2.below hb⟩
theorem RowsF.of {W : World} {b1 b2 k : Nat} {f : Nat → List UInt8} {v : Value} {vs : List Value} (hk : k ≤ 5) (hf : ∀ i, (f i).length = 32) (hv : W.ownsRow b1 25 1 v (k + 1) vs) (h : FoldR W b2 f k (k + 1) vs) :
    ∃ g c, v = .slice (some ⟨g, 0, none⟩) (k + 1) c ∧ RowsF W g f k := by
  obtain ⟨g, c, rfl, _, hc⟩ := own_form hv (Nat.succ_pos _)
  refine ⟨g, c, rfl, fun i hi => ?_⟩
  obtain ⟨u, h1, h2⟩ := h.2 i (by omega)
  have hp : 2 ^ (k - i) ≤ 2 ^ 5 := Nat.pow_le_pow_right (by decide) (by omega)
  obtain ⟨A, c2, rfl, h3⟩ := RowAt.own h2 (upTo_32 _ (ndB_length f hf i) _) (by omega)
  exact ⟨A, c2, hc _ _ h1, h3.r⟩
def rgtP (b h : Int) : Bool := rgt b && (decide (0 ≤ h) && decide (h ≤ 10))
theorem rgtP_parts {b h : Int} (hr : rgtP b h = true) : rgt b = true ∧ 0 ≤ h ∧ h ≤ 10 := by
  simp only [rgtP, Bool.and_eq_true, decide_eq_true_eq] at hr
  exact ⟨hr.1, hr.2.1, hr.2.2⟩
set_option maxRecDepth 100000 in
set_option maxHeartbeats 4000000 in
theorem kright_any (b h : Int) (w : World) :
    Calls Tryz.prog 24 #[.agg #[.int .i64 b, .int .i64 h]] w fun e w' => e = .returned (.bool (rgtP b h)) ∧ Below w.heap.size w w' := by
  have c1 : ∀ W : World, Calls Tryz.prog 53 #[.int .i64 b] W fun e w' => e = .returned (.bool (rgt b)) ∧ W = w' := fun W => lright_any b W
  have hB : ∀ o, Below w.heap.size w (w.alloc o) := fun o => (Below.refl _ _).alloc (Nat.le_refl _) o
  obtain ⟨q, hq⟩ : ∃ q, q = rgt b := ⟨_, rfl⟩
  have hP : rgtP b h = (q && (decide (0 ≤ h) && decide (h ≤ 10))) := by rw [hq]; rfl
  rw [← hq] at c1
  rw [hP]
  clear hq hP
  cases q with
  | false =>
    go_enter Tryz.func24, Tryz.ntmps24
    go_wp2_with (first
      | (go_at_call 53; (with_reducible refine (c1 _).mono ?_); rintro e1 w1 ⟨rfl, rfl⟩))
    all_goals (go_ret; exact ⟨rfl, hB _⟩)
  | true =>
    by_cases h0 : 0 ≤ h
    · rw [decide_eq_true h0]
      go_enter Tryz.func24, Tryz.ntmps24
      go_wp2_with (first
        | (go_at_call 53; (with_reducible refine (c1 _).mono ?_); rintro e1 w1 ⟨rfl, rfl⟩))
      all_goals (go_ret; exact ⟨rfl, hB _⟩)
    · rw [decide_eq_false h0]
      go_enter Tryz.func24, Tryz.ntmps24
      go_wp2_with (first
        | (go_at_call 53; (with_reducible refine (c1 _).mono ?_); rintro e1 w1 ⟨rfl, rfl⟩))
      all_goals (go_ret; exact ⟨rfl, hB _⟩)
/-- How many leaves. -/
def lvs (b h : Int) : Nat := if rgtP b h then 2 ^ h.toNat else 0
set_option maxRecDepth 100000 in
set_option maxHeartbeats 4000000 in
theorem kleaves_any (b h : Int) (w : World) :
    Calls Tryz.prog 54 #[.agg #[.int .i64 b, .int .i64 h]] w fun e w' => e = .returned (.int .i64 (lvs b h : Nat)) ∧ Below w.heap.size w w' := by
  have cR : ∀ W : World, Calls Tryz.prog 24 #[.agg #[.int .i64 b, .int .i64 h]] W fun e w' => e = .returned (.bool (rgtP b h)) ∧ Below W.heap.size W w' := fun W => kright_any b h W
  have hB : ∀ o, Below w.heap.size w (w.alloc o) := fun o => (Below.refl _ _).alloc (Nat.le_refl _) o
  have hc1 : ∀ o, o = Obj.cells #[.int .i64 b, .int .i64 h] 29 → (w.alloc o).cell? ⟨w.heap.size, 1, none⟩ = some (.int .i64 h) := fun o e => by subst e; exact (Blk.new w _ _).cell_ rfl
  have hc2 := hc1 _ rfl
  unfold lvs
  cases hq : rgtP b h with
  | false =>
    rw [hq] at cR
    clear hq
    go_enter Tryz.func54, Tryz.ntmps54
    go_wp2_with (first
      | (go_at_call 24; (with_reducible refine (cR _).mono ?_); rintro e1 w1 ⟨rfl, hb1⟩))
    go_ret
    exact ⟨rfl, (hB _).trans (hb1.mono (hB _).size)⟩
  | true =>
    have hp := rgtP_parts hq
    rw [hq] at cR
    clear hq
    obtain ⟨_, h0, h1⟩ := hp
    obtain rfl | rfl | rfl | rfl | rfl | rfl | rfl | rfl | rfl | rfl | rfl : h = 0 ∨ h = 1 ∨ h = 2 ∨ h = 3 ∨ h = 4 ∨ h = 5 ∨ h = 6 ∨ h = 7 ∨ h = 8 ∨ h = 9 ∨ h = 10 := by omega
    all_goals
      go_enter Tryz.func54, Tryz.ntmps54
      go_wp2_with (first
        | (go_at_call 24; (with_reducible refine (cR _).mono ?_); rintro e1 w1 ⟨rfl, hb1⟩; have hc3 := Below.keep hb1 hc2))
      go_ret
      exact ⟨rfl, (hB _).trans (hb1.mono (hB _).size)⟩
end Go.Proofs.YticpdepbgcagaaaGreat

/- Rows of ids: what the document says of them. -/
import Derived.Test.YtemdmdgigmhlbaaGreatId7
namespace Go.Proofs.YtemdmdgigmhlbaaGreat
open Go.RowKit Go.Qc
attribute [local go_sem] txt_size

/-- A row of ids that is only read. -/
def RowR (w : World) (A : Option Addr) (n : Nat) (l : List (List UInt8)) : Prop := l.length = n ∧ n ≤ 1000000 ∧ IdRd w A l
theorem RowAt.r {w : World} {A : Option Addr} {n c : Nat} {l : List (List UInt8)} (h : RowAt w A n c l) : RowR w A n l := ⟨h.1, h.2.2.2.1, h.2.2.2.2⟩
theorem RowR.below {w w' : World} {A : Option Addr} {n : Nat} {l : List (List UInt8)} (h : RowR w A n l) (hb : Below w.heap.size w w') : RowR w' A n l := ⟨h.1, h.2.1, h.2.2.below hb⟩
end Go.Proofs.YtemdmdgigmhlbaaGreat
/- Rows of ids: the document's Put, Sort, Only; id.Same. -/
namespace Go.Proofs.YtemdmdgigmhlbaaGreat
open Go.RowKit Go.Qc
attribute [local go_sem] txt_size

theorem RowAt.below {w w' : World} {A : Option Addr} {n c : Nat} {l : List (List UInt8)} (h : RowAt w A n c l) (hb : Below w.heap.size w w') : RowAt w' A n c l := ⟨h.1, h.2.1, h.2.2.1, h.2.2.2.1, h.2.2.2.2.below hb⟩
theorem RowAt.own {w : World} {base n : Nat} {e : TypeId} {v : Value} {ids : List (List UInt8)} (h : w.ownsRow base e 32 v n (idsV ids)) (h32 : ∀ a ∈ ids, a.length = 32) (hm : n ≤ 1000000) : ∃ A c, v = .slice A n c ∧ RowAt w A n c ids := by
  obtain ⟨A, c, hv, hl, hr⟩ := IdRd.own h h32
  rcases h.2 with ⟨h1, h2⟩ | ⟨g, cap, cur, h1, _, _, h3, h4, _⟩
  · rw [hv] at h1
    injection h1 with _ h5 h6
    exact ⟨A, c, hv, hl, by omega, by unfold maxLen; omega, hm, hr⟩
  · rw [hv] at h1
    injection h1 with _ h5 h6
    exact ⟨A, c, hv, hl, by omega, by omega, hm, hr⟩
end Go.Proofs.YtemdmdgigmhlbaaGreat
/- Rising rows of ids: what merging, sorting and choosing make of them. No program here. -/
namespace Go.Proofs.YtemdmdgigmhlbaaGreat
open Go.RowKit Go.Qc

theorem cmp_trans : ∀ (a b c : List UInt8), Lib.compareBytes a b < 0 → Lib.compareBytes b c < 0 → Lib.compareBytes a c < 0
  | [], [], _, h, _ => by simp [Lib.compareBytes] at h
  | [], _ :: _, [], _, h => by simp [Lib.compareBytes] at h
  | [], _ :: _, _ :: _, _, _ => by simp [Lib.compareBytes]
  | _ :: _, [], _, h, _ => by simp [Lib.compareBytes] at h
  | _ :: _, _ :: _, [], _, h => by simp [Lib.compareBytes] at h
  | x :: a, y :: b, z :: c, h, g => by
    rw [Lib.compareBytes] at h g ⊢
    by_cases h1 : x < y
    · by_cases g1 : y < z
      · rw [if_pos (UInt8.lt_trans h1 g1)]; decide
      · rw [if_neg g1] at g
        by_cases g2 : z < y
        · rw [if_pos g2] at g; omega
        · have e : y = z := UInt8.le_antisymm (UInt8.not_lt.1 g2) (UInt8.not_lt.1 g1)
          rw [if_pos (e ▸ h1)]; decide
    · rw [if_neg h1] at h
      by_cases h2 : y < x
      · rw [if_pos h2] at h; omega
      · rw [if_neg h2] at h
        have e : x = y := UInt8.le_antisymm (UInt8.not_lt.1 h2) (UInt8.not_lt.1 h1)
        subst e
        by_cases g1 : x < z
        · rw [if_pos g1]; decide
        · rw [if_neg g1] at g ⊢
          by_cases g2 : z < x
          · rw [if_pos g2] at g; omega
          · rw [if_neg g2] at g ⊢
            exact cmp_trans a b c h g
def Lt (a b : List UInt8) : Prop := Lib.compareBytes a b < 0
theorem Lt.irr {a : List UInt8} (h : Lt a a) : False := by unfold Lt at h; rw [cmp_refl] at h; omega
theorem Lt.ne {a b : List UInt8} (h : Lt a b) : a ≠ b := fun e => Lt.irr (e ▸ h)
theorem Lt.tr {a b c : List UInt8} (h : Lt a b) (g : Lt b c) : Lt a c := cmp_trans a b c h g
end Go.Proofs.YtemdmdgigmhlbaaGreat

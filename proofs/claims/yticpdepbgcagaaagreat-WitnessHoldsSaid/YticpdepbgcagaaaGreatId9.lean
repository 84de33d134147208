/- Rows of ids: what the document says of them. -/
import Derived.Test.YticpdepbgcagaaaGreatId7
namespace Go.Proofs.YticpdepbgcagaaaGreat
open Go.RowKit Go.Qc
attribute [local go_sem] txt_size

/-- A row of ids that is only read. -/
def RowR (w : World) (A : Option Addr) (n : Nat) (l : List (List UInt8)) : Prop := l.length = n ∧ n ≤ 1000000 ∧ IdRd w A l
theorem RowAt.r {w : World} {A : Option Addr} {n c : Nat} {l : List (List UInt8)} (h : RowAt w A n c l) : RowR w A n l := ⟨h.1, h.2.2.2.1, h.2.2.2.2⟩
theorem RowR.below {w w' : World} {A : Option Addr} {n : Nat} {l : List (List UInt8)} (h : RowR w A n l) (hb : Below w.heap.size w w') : RowR w' A n l := ⟨h.1, h.2.1, h.2.2.below hb⟩
theorem IdRd.pick {w : World} {A : Option Addr} {l : List (List UInt8)} {n : Nat} (c : Nat) (h : IdRd w A l) (hn : l.length = n) {k : Nat} {a : List UInt8} (hk : l[k]? = some a) :
    ∃ g q, w.rangeAt g q (a.map u8v) ∧ a.length = 32 ∧ ∀ W : World, (Instr.indexAt 25 (.slice A n c) (.int .i64 (k : Int))).run Tryz.prog W = .ok (.pointer (some ⟨g, q, none⟩)) W := by
  obtain ⟨g, o, rfl, hr⟩ := h.at_ hk
  refine ⟨g, o + k * 32, hr, h.len hk, fun W => ?_⟩
  obtain ⟨i0, hi, h32, _⟩ := infoId_parts
  have hlt : k < n := by rw [← hn]; exact (List.getElem?_eq_some_iff.1 hk).1
  have h1 : (0 : Int) ≤ (k : Int) ∧ (k : Int) < (n : Int) := by omega
  simp [Instr.indexAt, run_underlying Tryz.underlying25, asIntOf, h1, sizeOf, typeInfo, hi, h32, Addr.add_lit, Int.toNat_natCast]
  intro h2; omega
end Go.Proofs.YticpdepbgcagaaaGreat
/- Rows of ids: the document's Put, Sort, Only; id.Same. -/
namespace Go.Proofs.YticpdepbgcagaaaGreat
open Go.RowKit Go.Qc
attribute [local go_sem] txt_size

theorem RowAt.below {w w' : World} {A : Option Addr} {n c : Nat} {l : List (List UInt8)} (h : RowAt w A n c l) (hb : Below w.heap.size w w') : RowAt w' A n c l := ⟨h.1, h.2.1, h.2.2.1, h.2.2.2.1, h.2.2.2.2.below hb⟩
theorem RowAt.own {w : World} {base n : Nat} {e : TypeId} {v : Value} {ids : List (List UInt8)} (h : w.ownsRow base e 32 v n (idsV ids)) (h32 : ∀ a ∈ ids, a.length = 32) (hm : n ≤ 1000000) : ∃ A c, v = .slice A n c ∧ RowAt w A n c ids := by
  obtain ⟨A, c, hv, hl, hr⟩ := IdRd.own h h32
  rcases h.2 with ⟨h1, h2⟩ | ⟨g, cap, cur, h1, _, _, h3, h4, _⟩
  · rw [hv] at h1
    injection h1 with _ h5 h6
    exact ⟨A, c, hv, hl, by omega, by unfold maxLen; omega, hm, hr⟩
  · rw [hv] at h1
    injection h1 with _ h5 h6
    exact ⟨A, c, hv, hl, by omega, by omega, hm, hr⟩
theorem RowAt.own1 {w : World} {base n : Nat} {e : TypeId} {v : Value} {ids : List (List UInt8)} (h : w.ownsRow base e 32 v n (idsV ids)) (h32 : ∀ a ∈ ids, a.length = 32) (hm : n ≤ 1000000) (h0 : 0 < n) : ∃ ad c, v = .slice (some ad) n c ∧ RowAt w (some ad) n c ids := by
  obtain ⟨A, c, hv, hr⟩ := RowAt.own h h32 hm
  rcases h.2 with ⟨h1, h2⟩ | ⟨g, cap, cur, h1, _, _, h3, h4, _⟩
  · omega
  · rw [hv] at h1
    injection h1 with h5 h6 h7
    subst h5
    exact ⟨_, c, hv, hr⟩
end Go.Proofs.YticpdepbgcagaaaGreat

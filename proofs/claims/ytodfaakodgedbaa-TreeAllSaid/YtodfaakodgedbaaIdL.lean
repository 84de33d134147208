/- Two rows merged. -/
import Derived.Test.YtodfaakodgedbaaIdA
import Derived.Shelf.SlSortCmp.QuietGrown
namespace Go.Proofs.Ytodfaakodgedbaa
open Go.RowKit Go.Qc
attribute [local go_sem] txt_size txt_append ib_fold ib_i64

theorem wpQuiet_skip {P : Program} {ops : Array Oper} {C : World → Prop} {Q : Act → Prop} {rest : List Oper} {o : Oper} {a : Act} (hw : Region.wanted o (yielded ops a.tmps) = false)
    (h : wpQuiet P ops C Q rest (a.put o.dst undef)) : wpQuiet P ops C Q (o :: rest) a :=
  wpQuiet_step fun K hK => by
    rw [if_neg (by rw [hw]; decide)]
    exact hK _ h
end Go.Proofs.Ytodfaakodgedbaa
/- Union, Minus, Both; the chapter's example. -/
namespace Go.Proofs.Ytodfaakodgedbaa
open Go.RowKit Go.Qc
attribute [local go_sem] txt_size txt_append ib_fold ib_i64

/-- A row of ids, in hand: not more than a million, read where it lies. -/
def RowAt (w : World) (A : Option Addr) (n c : Nat) (l : List (List UInt8)) : Prop := l.length = n ∧ n ≤ c ∧ c ≤ maxLen ∧ n ≤ 1000000 ∧ IdRd w A l
end Go.Proofs.Ytodfaakodgedbaa
/- Rows of ids: what the document says of them. -/
namespace Go.Proofs.Ytodfaakodgedbaa
open Go.RowKit Go.Qc
attribute [local go_sem] txt_size

/-- A row of ids that is only read. -/
def RowR (w : World) (A : Option Addr) (n : Nat) (l : List (List UInt8)) : Prop := l.length = n ∧ n ≤ 1000000 ∧ IdRd w A l
theorem RowAt.r {w : World} {A : Option Addr} {n c : Nat} {l : List (List UInt8)} (h : RowAt w A n c l) : RowR w A n l := ⟨h.1, h.2.2.2.1, h.2.2.2.2⟩
theorem RowR.below {w w' : World} {A : Option Addr} {n : Nat} {l : List (List UInt8)} (h : RowR w A n l) (hb : Below w.heap.size w w') : RowR w' A n l := ⟨h.1, h.2.1, h.2.2.below hb⟩
end Go.Proofs.Ytodfaakodgedbaa
/- Rows of ids: the document's Put, Sort, Only; id.Same. -/
namespace Go.Proofs.Ytodfaakodgedbaa
open Go.RowKit Go.Qc
attribute [local go_sem] txt_size

theorem RowAt.below {w w' : World} {A : Option Addr} {n c : Nat} {l : List (List UInt8)} (h : RowAt w A n c l) (hb : Below w.heap.size w w') : RowAt w' A n c l := ⟨h.1, h.2.1, h.2.2.1, h.2.2.2.1, h.2.2.2.2.below hb⟩
theorem RowAt.own {w : World} {base n : Nat} {e : TypeId} {v : Value} {ids : List (List UInt8)} (h : w.ownsRow base e 32 v n (idsV ids)) (h32 : ∀ a ∈ ids, a.length = 32) (hm : n ≤ 1000000) : ∃ A c, v = .slice A n c ∧ RowAt w A n c ids := by
  obtain ⟨A, c, hv, hl, hr⟩ := IdRd.own h h32
  rcases h.2 with ⟨h1, h2⟩ | ⟨g, cap, cur, h1, _, _, h3, h4, _⟩
  · rw [hv] at h1
    injection h1 with _ h5 h6
    exact ⟨A, c, hv, hl, by omega, by unfold maxLen; omega, hm, hr⟩
  · rw [hv] at h1
    injection h1 with _ h5 h6
    exact ⟨A, c, hv, hl, by omega, by omega, hm, hr⟩
theorem RowAt.own1 {w : World} {base n : Nat} {e : TypeId} {v : Value} {ids : List (List UInt8)} (h : w.ownsRow base e 32 v n (idsV ids)) (h32 : ∀ a ∈ ids, a.length = 32) (hm : n ≤ 1000000) (h0 : 0 < n) : ∃ ad c, v = .slice (some ad) n c ∧ RowAt w (some ad) n c ids := by
  obtain ⟨A, c, hv, hr⟩ := RowAt.own h h32 hm
  rcases h.2 with ⟨h1, h2⟩ | ⟨g, cap, cur, h1, _, _, h3, h4, _⟩
  · omega
  · rw [hv] at h1
    injection h1 with h5 h6 h7
    subst h5
    exact ⟨_, c, hv, hr⟩
end Go.Proofs.Ytodfaakodgedbaa
/- Rising rows of ids: what merging, sorting and choosing make of them. No program here. -/
namespace Go.Proofs.Ytodfaakodgedbaa
open Go.RowKit Go.Qc

def Lt (a b : List UInt8) : Prop := Lib.compareBytes a b < 0
theorem Lt.irr {a : List UInt8} (h : Lt a a) : False := by unfold Lt at h; rw [cmp_refl] at h; omega
theorem Lt.ne {a b : List UInt8} (h : Lt a b) : a ≠ b := fun e => Lt.irr (e ▸ h)
end Go.Proofs.Ytodfaakodgedbaa


/- Rows of ids: what the document says of them. -/
import Derived.Test.YtkajfpincbkfhaaId7
namespace Go.Proofs.Ytkajfpincbkfhaa
open Go.RowKit Go.Qc
attribute [local go_sem] txt_size

/-- A row of ids that is only read. -/
def RowR (w : World) (A : Option Addr) (n : Nat) (l : List (List UInt8)) : Prop := l.length = n ∧ n ≤ 1000000 ∧ IdRd w A l
theorem RowAt.r {w : World} {A : Option Addr} {n c : Nat} {l : List (List UInt8)} (h : RowAt w A n c l) : RowR w A n l := ⟨h.1, h.2.2.2.1, h.2.2.2.2⟩
theorem RowR.below {w w' : World} {A : Option Addr} {n : Nat} {l : List (List UInt8)} (h : RowR w A n l) (hb : Below w.heap.size w w') : RowR w' A n l := ⟨h.1, h.2.1, h.2.2.below hb⟩
theorem IdRd.pick {w : World} {A : Option Addr} {l : List (List UInt8)} {n : Nat} (c : Nat) (h : IdRd w A l) (hn : l.length = n) {k : Nat} {a : List UInt8} (hk : l[k]? = some a) :
    ∃ g q, w.rangeAt g q (a.map u8v) ∧ a.length = 32 ∧ ∀ W : World, (Instr.indexAt 22 (.slice A n c) (.int .i64 (k : Int))).run Try.prog W = .ok (.pointer (some ⟨g, q, none⟩)) W := by
  obtain ⟨g, o, rfl, hr⟩ := h.at_ hk
  refine ⟨g, o + k * 32, hr, h.len hk, fun W => ?_⟩
  obtain ⟨i0, hi, h32, _⟩ := infoId_parts
  have hlt : k < n := by rw [← hn]; exact (List.getElem?_eq_some_iff.1 hk).1
  have h1 : (0 : Int) ≤ (k : Int) ∧ (k : Int) < (n : Int) := by omega
  simp [Instr.indexAt, run_underlying Try.underlying22, asIntOf, h1, sizeOf, typeInfo, hi, h32, Addr.add_lit, Int.toNat_natCast]
  intro h2; omega
end Go.Proofs.Ytkajfpincbkfhaa


/- The contract of a Hash's Write. -/
import Derived.Test.YtkbokffonnjjiaaSha4
import Derived.Test.YtkbokffonnjjiaaKit
import Derived.Deep.RegionLaw
namespace Go.Proofs.Ytkbokffonnjjiaa
open Go.RowKit Go.Qc
attribute [local go_sem] txt_size txt_extract

theorem HPart.cells {w : World} {g : Nat} {t : TypeId} {cs : Array Value} {p : List UInt8} {n : Nat} (hb : Blk w g t cs) (h : HPart cs p n) {st : S8} (hs : feed h0 p = st) :
    w.cell? ⟨g, 0, none⟩ = some (.int .u32 (iv st.a)) ∧ w.cell? ⟨g, 1, none⟩ = some (.int .u32 (iv st.b)) ∧ w.cell? ⟨g, 2, none⟩ = some (.int .u32 (iv st.c)) ∧ w.cell? ⟨g, 3, none⟩ = some (.int .u32 (iv st.d)) ∧
    w.cell? ⟨g, 4, none⟩ = some (.int .u32 (iv st.e)) ∧ w.cell? ⟨g, 5, none⟩ = some (.int .u32 (iv st.f)) ∧ w.cell? ⟨g, 6, none⟩ = some (.int .u32 (iv st.g)) ∧ w.cell? ⟨g, 7, none⟩ = some (.int .u32 (iv st.h)) := by
  subst hs
  exact ⟨hb.cell_ (h.state 0 (by decide)), hb.cell_ (h.state 1 (by decide)), hb.cell_ (h.state 2 (by decide)), hb.cell_ (h.state 3 (by decide)), hb.cell_ (h.state 4 (by decide)), hb.cell_ (h.state 5 (by decide)), hb.cell_ (h.state 6 (by decide)), hb.cell_ (h.state 7 (by decide))⟩
theorem HPart.kept {w w2 : World} {g : Nat} {t : TypeId} {cs : Array Value} {p : List UInt8} {n : Nat} (hb : Blk w g t cs) (h : HPart cs p n) {st : S8} (hs : feed h0 p = st) (h2 : Below w.heap.size w w2) :
    w2.cell? ⟨g, 0, none⟩ = some (.int .u32 (iv st.a)) ∧ w2.cell? ⟨g, 1, none⟩ = some (.int .u32 (iv st.b)) ∧ w2.cell? ⟨g, 2, none⟩ = some (.int .u32 (iv st.c)) ∧ w2.cell? ⟨g, 3, none⟩ = some (.int .u32 (iv st.d)) ∧
    w2.cell? ⟨g, 4, none⟩ = some (.int .u32 (iv st.e)) ∧ w2.cell? ⟨g, 5, none⟩ = some (.int .u32 (iv st.f)) ∧ w2.cell? ⟨g, 6, none⟩ = some (.int .u32 (iv st.g)) ∧ w2.cell? ⟨g, 7, none⟩ = some (.int .u32 (iv st.h)) ∧
    w2.frozen? ⟨g, 0, none⟩ = false ∧ w2.frozen? ⟨g, 1, none⟩ = false ∧ w2.frozen? ⟨g, 2, none⟩ = false ∧ w2.frozen? ⟨g, 3, none⟩ = false ∧ w2.frozen? ⟨g, 4, none⟩ = false ∧ w2.frozen? ⟨g, 5, none⟩ = false ∧ w2.frozen? ⟨g, 6, none⟩ = false ∧ w2.frozen? ⟨g, 7, none⟩ = false := by
  have hb2 := hb.below h2
  obtain ⟨k0, k1, k2, k3, k4, k5, k6, k7⟩ := HPart.cells hb2 h hs
  exact ⟨k0, k1, k2, k3, k4, k5, k6, k7, hb2.frozen _, hb2.frozen _, hb2.frozen _, hb2.frozen _, hb2.frozen _, hb2.frozen _, hb2.frozen _, hb2.frozen _⟩
end Go.Proofs.Ytkbokffonnjjiaa


/- The contract of a Hash's Write. -/
import Derived.Test.YtdkeobpmenaljaaSha4
import Derived.Test.YtdkeobpmenaljaaKit
import Derived.Deep.RegionLaw
namespace Go.Proofs.Ytdkeobpmenaljaa
open Go.RowKit Go.Qc
attribute [local go_sem] txt_size txt_extract

theorem HPart.cells {w : World} {g : Nat} {t : TypeId} {cs : Array Value} {p : List UInt8} {n : Nat} (hb : Blk w g t cs) (h : HPart cs p n) {st : S8} (hs : feed h0 p = st) :
    w.cell? ⟨g, 0, none⟩ = some (.int .u32 (iv st.a)) ∧ w.cell? ⟨g, 1, none⟩ = some (.int .u32 (iv st.b)) ∧ w.cell? ⟨g, 2, none⟩ = some (.int .u32 (iv st.c)) ∧ w.cell? ⟨g, 3, none⟩ = some (.int .u32 (iv st.d)) ∧
    w.cell? ⟨g, 4, none⟩ = some (.int .u32 (iv st.e)) ∧ w.cell? ⟨g, 5, none⟩ = some (.int .u32 (iv st.f)) ∧ w.cell? ⟨g, 6, none⟩ = some (.int .u32 (iv st.g)) ∧ w.cell? ⟨g, 7, none⟩ = some (.int .u32 (iv st.h)) := by
  subst hs
  exact ⟨hb.cell_ (h.state 0 (by decide)), hb.cell_ (h.state 1 (by decide)), hb.cell_ (h.state 2 (by decide)), hb.cell_ (h.state 3 (by decide)), hb.cell_ (h.state 4 (by decide)), hb.cell_ (h.state 5 (by decide)), hb.cell_ (h.state 6 (by decide)), hb.cell_ (h.state 7 (by decide))⟩
end Go.Proofs.Ytdkeobpmenaljaa


/- path: whether a text is a path, by the program and by the document; a path's parts. -/
import Derived.Test.YtjaenffdbhgmeaaPa3
namespace Go.Proofs.Ytjaenffdbhgmeaa
open Go.RowKit Go.Qc Go.Shelf
attribute [local go_sem] txt_size txt_append ib_fold txt_toL
attribute [local go_sem] Oper.semAt_some

/-- A path. -/
def pathR (s : List UInt8) : Bool := decide (s.length ≤ 200) && (decide ((splitS s).length ≤ 16) && (splitS s).all partS)
theorem pathR_long {s : List UInt8} (h : 200 < s.length) : pathR s = false := by
  unfold pathR; rw [decide_eq_false (by omega)]; rfl
theorem pathR_bad {s : List UInt8} {pre : List (List UInt8)} (h : pre <+: splitS s) (hb : 16 < pre.length ∨ ∃ x ∈ pre, partS x = false) : pathR s = false := by
  unfold pathR
  rcases hb with hb | ⟨x, hx, hb⟩
  · have := h.length_le
    rw [decide_eq_false (show ¬ (splitS s).length ≤ 16 by omega)]; simp
  · have : (splitS s).all partS = false := by rw [List.all_eq_false]; exact ⟨x, h.subset hx, by simp [hb]⟩
    rw [this]; simp
theorem pathR_ok {s : List UInt8} (h1 : s.length ≤ 200) (h2 : (splitS s).length ≤ 16) (h3 : ∀ x ∈ splitS s, partS x = true) : pathR s = true := by
  unfold pathR
  rw [decide_eq_true h1, decide_eq_true h2, List.all_eq_true.2 h3]; rfl
theorem cell_new1 (W : World) (v : Value) (t : TypeId) : (W.alloc (.cells #[v] t)).cell? ⟨W.heap.size, 0, none⟩ = some v := (Blk.new W t #[v]).cell_ rfl

end Go.Proofs.Ytjaenffdbhgmeaa


/- recon: buckets, Unlike, the document's In -/
import Derived.Test.YtkajfpincbkfhaaRcA
import Derived.Test.YtkajfpincbkfhaaLamA
import Derived.Test.YtkajfpincbkfhaaKit6
set_option linter.unusedSimpArgs false
set_option linter.unusedVariables false
namespace Go.Proofs.Ytkajfpincbkfhaa
open Go.RowKit Go.Qc Go.Shelf
attribute [local go_sem] txt_size txt_append ib_fold
/-- A block of so many residues. -/
def CxAt (W : World) (g n : Nat) (T : Nat → Int × Int) : Prop := ∃ cs : Array Value, Blk W g 54 cs ∧ cs.size = n ∧ ∀ j, j < n → cs[j]? = some (cz (T j))
theorem CxAt.below {W W' : World} {g n : Nat} {T : Nat → Int × Int} (h : CxAt W g n T) (hb : Below W.heap.size W W') : CxAt W' g n T := by
  obtain ⟨cs, h1, h2⟩ := h
  exact ⟨cs, h1.below hb, h2⟩
theorem CxAt.lt {W : World} {g n : Nat} {T : Nat → Int × Int} (h : CxAt W g n T) : g < W.heap.size := by
  obtain ⟨cs, h1, _⟩ := h
  exact h1.lt
theorem CxAt.cell {W : World} {g n : Nat} {T : Nat → Int × Int} (h : CxAt W g n T) {j : Nat} (hj : j < n) : W.cell? ⟨g, j, none⟩ = some (cz (T j)) := by
  obtain ⟨cs, h1, _, h2⟩ := h
  exact h1.cell_ (h2 j hj)
theorem CxAt.ext {W : World} {g n : Nat} {T U : Nat → Int × Int} (h : CxAt W g n T) (he : ∀ j, j < n → T j = U j) : CxAt W g n U := by
  obtain ⟨cs, h1, h3, h2⟩ := h
  exact ⟨cs, h1, h3, fun j hj => by rw [← he j hj]; exact h2 j hj⟩
theorem infoCx : (Try.prog.info? 54).map (·.size) = some 1 := by kernel_rfl
theorem cx_index (g n c i : Nat) (hi : i < n) (W : World) : (Instr.indexAt 69 (.slice (some ⟨g, 0, none⟩) n c) (.int .i64 (i : Int))).run Try.prog W = .ok (.pointer (some ⟨g, i, none⟩)) W := by
  obtain ⟨i0, hi0, h1⟩ : ∃ i0, Try.prog.info? 54 = some i0 ∧ i0.size = 1 := by
    have h := infoCx
    cases hq : Try.prog.info? 54 with
    | none => rw [hq] at h; cases h
    | some i => rw [hq] at h; simp at h; exact ⟨i, rfl, h⟩
  have h2 : (0 : Int) ≤ (i : Int) ∧ (i : Int) < (n : Int) := by omega
  simp [Instr.indexAt, run_underlying Try.underlying69, asIntOf, h2, sizeOf, typeInfo, hi0, h1, Addr.add_lit, Int.toNat_natCast]
  intro h; omega
end Go.Proofs.Ytkajfpincbkfhaa

namespace Go.Proofs.Ytkajfpincbkfhaa
open Go.RowKit Go.Qc Go.Shelf
attribute [local go_sem] txt_size txt_append ib_fold
/-- The state of the second walk. -/
structure BkS (w0 : World) (g n : Nat) (T : Nat → Int × Int) (W : World) : Prop where
  t : CxAt W g n T
  b : Below w0.heap.size w0 W
  n1 : w0.heap.size ≤ g
theorem BkS.below {w0 : World} {g n : Nat} {T : Nat → Int × Int} {W W' : World} (h : BkS w0 g n T W) (hb : Below W.heap.size W W') : BkS w0 g n T W' := ⟨h.t.below hb, h.b.trans (hb.mono h.b.size), h.n1⟩
theorem BkS.ext {w0 : World} {g n : Nat} {T U : Nat → Int × Int} {W : World} (h : BkS w0 g n T W) (he : ∀ j, j < n → T j = U j) : BkS w0 g n U W := ⟨h.t.ext he, h.b, h.n1⟩
theorem BkS.put {w0 : World} {g n : Nat} {T U : Nat → Int × Int} {W W' : World} (h : BkS w0 g n T W) (ht : CxAt W' g n U) (hg : W.grownBy W' (some g)) : BkS w0 g n U W' := ⟨ht, below_gM h.b hg h.n1, h.n1⟩
end Go.Proofs.Ytkajfpincbkfhaa

namespace Go.Proofs.Ytkajfpincbkfhaa
open Go.RowKit Go.Qc Go.Shelf
attribute [local go_sem] txt_size txt_append ib_fold
theorem run_cz_neq (t : TypeId) (x y : Int × Int) (hx : ResZ x) (hy : ResZ y) (w : World) : (binOp .neq t (cz x) (cz y)).run Try.prog w = .ok (.bool (!decide (x = y))) w := by
  obtain ⟨x0, x1, x2, x3⟩ := hx
  obtain ⟨y0, y1, y2, y3⟩ := hy
  unfold cz
  rw [run_neq_complex, fl_eqb _ _ (by omega) (by omega), fl_eqb _ _ (by omega) (by omega)]
  congr 3
  obtain ⟨a, b⟩ := x
  obtain ⟨c, d⟩ := y
  by_cases h1 : a = c
  · by_cases h2 : b = d <;> simp [h1, h2]
  · simp [h1]
/-- A row of numbers of one's own. -/
def ntV (L : List Nat) : List Value := L.map fun (i : Nat) => Value.int .i64 (i : Int)
def NtOw (W : World) (base : Nat) (v : Value) (L : List Nat) : Prop := W.ownsRow base 3 1 v L.length (ntV L)
theorem NtOw.nil (W : World) (base : Nat) : NtOw W base (.slice none 0 0) [] := ⟨rfl, .inl ⟨rfl, rfl⟩⟩
theorem NtOw.first {W : World} {base : Nat} {v : Value} {i : Nat} (h : NtOw W base v [i]) : ∃ g c, v = .slice (some ⟨g, 0, none⟩) 1 c ∧ W.cell? ⟨g, 0, none⟩ = some (.int .i64 (i : Int)) := by
  rcases h.2 with ⟨rfl, h0⟩ | ⟨g, c, cur, rfl, _, hg, h3, _, _, ht⟩
  · cases h0
  · refine ⟨g, c, rfl, ?_⟩
    have h9 : (cur.toList.take 1)[0]? = some (.int .i64 (i : Int)) := by
      have : cur.toList.take (1 * 1) = ntV [i] := ht
      rw [show (1 * 1 : Nat) = 1 from rfl] at this
      rw [this]; rfl
    rw [List.getElem?_take, if_pos (by decide), Array.getElem?_toList] at h9
    rw [cell_of_row W g 0 cur _ _ hg]
    exact h9
theorem NtOw.grown {W W' : World} {base B : Nat} {v : Value} {L : List Nat} (h : NtOw W base v L) (hg : W.grownBy W' v.ownBlock) (hB : B ≤ base) {w : World} (hb : Below B w W) (hs : B ≤ W.heap.size) : Below B w W' :=
  hb.grown hg hs (by intro k hk; have := (World.ownsRow.lt h k hk).1; omega)
end Go.Proofs.Ytkajfpincbkfhaa

namespace Go.Proofs.Ytkajfpincbkfhaa
open Go.RowKit Go.Qc Go.Shelf
attribute [local go_sem] txt_size txt_append ib_fold
end Go.Proofs.Ytkajfpincbkfhaa

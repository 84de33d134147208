
/- id: order, digits, hexadecimal digits, parsing. -/
import Derived.Test.YthpdkdalfjahcaaTag3
import Derived.Lib.Bytealg
import Derived.Laws.Externs
import Derived.Laws.IdiomStrings
set_option linter.unusedSimpArgs false
set_option linter.unusedVariables false
namespace Go.Proofs.Ythpdkdalfjahcaa
open Go.RowKit Go.Qc
attribute [local go_sem] txt_size txt_append ib_fold

/-- The world behind two boxed ids. -/
def two (w : World) (a b : List UInt8) : World := (w.alloc (.cells (idVals a) 24)).alloc (.cells (idVals b) 24)
end Go.Proofs.Ythpdkdalfjahcaa

namespace Go.Proofs.Ythpdkdalfjahcaa
open Go.RowKit Go.Qc
attribute [local go_sem] txt_size txt_append ib_fold ib_inj

/-! ### digits -/
/-! ### an id's text -/
end Go.Proofs.Ythpdkdalfjahcaa

namespace Go.Proofs.Ythpdkdalfjahcaa
open Go.RowKit Go.Qc
attribute [local go_sem] txt_size txt_append ib_fold ib_i64

/-! ### a text's id -/
end Go.Proofs.Ythpdkdalfjahcaa

namespace Go.Proofs.Ythpdkdalfjahcaa
open Go.RowKit Go.Qc
attribute [local go_sem] txt_size txt_append ib_fold ib_i64 ib_shr ib_and1

/-! ### Parse of Hex is the id -/
/-! ### Bytes -/
theorem below_drew2 {B : Nat} {a w : World} (h : Below B a w) : Below B a w.drew := ⟨h.os, h.tape, h.output, h.size, h.block⟩
set_option maxRecDepth 100000 in
set_option maxHeartbeats 4000000 in
theorem idBytes_ok (s : List UInt8) (hs : s.length = 32) (w : World) :
    Calls Try.prog 114 #[.string (txt s)] w fun e w' => e = .returned (.tuple #[.agg (idVals s), .int .i64 0]) ∧ Below w.heap.size w w' := by
  have hl2 : (((s.length : Nat) : Int) != 32) = false := by rw [hs]; rfl
  have hza : (Try.prog.info? 24).map (·.size) = some (s.map u8v).length := by rw [List.length_map, hs]; exact sizeId
  have hu := Try.underlying24
  have hsz : (txt s).size = 32 := by rw [txt_size]; exact hs
  have hconv := fun W => run_bytes_of_string (P := Try.prog) W 9 34 5 (txt s) Try.underlying9 Try.underlying34 Try.underlying5
  have hR0 := Blk.new w 24 (idVals zeroB)
  have hB0 : Below w.heap.size w (w.alloc (.cells (idVals zeroB) 24)) := (Below.refl _ _).alloc (Nat.le_refl _) _
  have hk0 : (w.alloc (.cells (idVals zeroB) 24)).heap.size = w.heap.size + 1 := by simp
  rw [zeroB_vals] at hR0 hB0 hk0
  rw [hsz] at hconv
  have harr : ∀ W A c, (Instr.arrayAt 24 (.slice A 32 c)).run Try.prog W = .ok (.pointer A) W := fun W A c => by
    simp [Instr.arrayAt, run_underlying hu]
  have hRg : ∀ (W : World) (c : Nat) (f : Nat × Nat), (W.alloc (Obj.cells (bytesRow (txt s) c) 5 f)).rangeAt W.heap.size 0 (s.map u8v) := fun W c f j v hv => by
    rw [Nat.zero_add, cell_of_row _ _ j _ 5 f (heap_alloc_new W _)]
    have hj : j < s.length := by have := (List.getElem?_eq_some_iff.1 hv).1; rwa [List.length_map] at this
    rw [bytesRow_at (txt s) c j (by simpa [txt] using hj)]
    rw [List.getElem?_map, List.getElem?_eq_getElem hj] at hv
    rw [← hv]
    simp [txt, u8v, ib]
  have HS := hid hs
  have HR0 := hid hR0
  have HB0 := hid hB0
  have HK0 := hid hk0
  clear hs hsz hR0 hB0 hk0
  have HRG := hid hRg
  clear hRg
  go_enter Try.func114, Try.ntmps114
  go_wp2_with (first
    | (with_reducible refine wpList_load_if (by with_unfolding_all rfl) 24 _ rfl (w.heap.size + 1) 0 rfl (s.map u8v) _ (by with_unfolding_all (rw [← HK0.out]; exact HRG.out _ _ _)) hu (by with_unfolding_all rfl) hza ?_)
    | (with_reducible refine wpList_store_blk rfl 24 _ _ rfl w.heap.size _ _ 24 (by with_unfolding_all exact HR0.out.alloc _) rfl rfl ?c2 ?c3 ?c4 ?_))
  case c2 => rw [List.size_toArray]; exact hza
  case c3 => exact (show (List.map u8v s).toArray.size = 32 by simp [HS.out]).symm
  case c4 => exact idVals_one s
  intro w7 hb7 hg7
  have hB7 : Below w.heap.size w w7 := Below.grown (below_drew2 (HB0.out.alloc HB0.out.size _)) hg7 (below_drew2 (HB0.out.alloc HB0.out.size _)).size (by intro i e; cases e; exact Nat.le_refl _)
  go_wp2
  refine bodyPost_ret (results_cellt rfl _ _ _ _ _ _ rfl hb7 Try.underlying24 rfl (by rw [List.size_toArray]; exact hza)) rfl ⟨rfl, hB7⟩
set_option maxRecDepth 100000 in
theorem idBytes_no (s : List UInt8) (hl : ¬ s.length = 32) (w : World) :
    Calls Try.prog 114 #[.string (txt s)] w fun e w' => e = .returned (.tuple #[.agg (idVals zeroB), .int .i64 3]) ∧ Below w.heap.size w w' := by
  have hl2 : (((s.length : Nat) : Int) != 32) = true := by simp only [bne_iff_ne, ne_eq]; omega
  clear hl
  go_enter Try.func114, Try.ntmps114
  go_wp2_with (with_reducible refine wpList_store_blk rfl 24 _ _ rfl w.heap.size _ _ 24 (Blk.new _ _ _) rfl rfl ?c2 ?c3 ?c4 ?_)
  case c2 => exact sizeId
  case c3 => rfl
  case c4 => rw [← zeroB_vals]; exact idVals_one _
  intro w7 hb7 hg7
  have hB7 := below_new hg7
  go_wp2
  refine bodyPost_ret (results_cellt rfl _ _ _ _ _ _ rfl hb7 Try.underlying24 rfl sizeId) rfl ⟨?_, hB7⟩
  rw [zeroB_vals]; rfl

/-! ### Bit -/
end Go.Proofs.Ythpdkdalfjahcaa

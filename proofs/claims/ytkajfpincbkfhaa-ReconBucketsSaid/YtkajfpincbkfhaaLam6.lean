
/- lamport: bits of a sum; what is shown and hidden of it, of the program and of the document. -/
import Derived.Test.YtkajfpincbkfhaaLamA
import Derived.Test.YtkajfpincbkfhaaKit6
namespace Go.Proofs.Ytkajfpincbkfhaa
open Go.RowKit Go.Qc
attribute [local go_sem] txt_size txt_append ib_fold

/-! ### bits -/
def bitZ (a : List UInt8) (i : Nat) : Nat := if h : i / 8 < (txt a).size then (bitAt (txt a) i h).toNat else 0
theorem bitZ_ib (a : List UInt8) (i : Nat) (h : i / 8 < (txt a).size) : ib (bitAt (txt a) i h) = (bitZ a i : Nat) := by
  unfold bitZ ib; rw [dif_pos h]
theorem bitZ_le (a : List UInt8) (i : Nat) : bitZ a i ≤ 1 := by
  unfold bitZ
  split
  · unfold bitAt; rw [bit0_nat]; omega
  · omega
theorem ibit_any (a : List UInt8) (ha : a.length = 32) (i : Nat) (hi : i < 256) (w : World) :
    Calls Try.prog 122 #[.agg (idVals a), .int .i64 i] w fun e w' => e = .returned (.int .i64 (bitZ a i : Nat)) ∧ Below w.heap.size w w' := by
  have h8 : i / 8 < (txt a).size := by rw [txt_size, ha]; omega
  rw [← bitZ_ib a i h8]
  exact idBit_any a ha i h8 w
set_option maxRecDepth 100000 in
set_option maxHeartbeats 4000000 in
theorem rbit6_any (a : List UInt8) (ha : a.length = 32) (i : Nat) (hi : i < 256) (w : World) :
    Calls Try.prog 89 #[.agg (idVals a), .int .i64 i] w fun e w' => e = .returned (.int .i64 (bitZ a i : Nat)) ∧ Below w.heap.size w w' := by
  have h8 : i / 8 < (txt a).size := by rw [txt_size, ha]; omega
  rw [← bitZ_ib a i h8]
  have hu := Try.underlying24
  have hI : (w.alloc (.cells (idVals a) 24)).rangeAt w.heap.size 0 (a.map u8v) := range_blk (Blk.new w 24 (idVals a))
  have hB : Below w.heap.size w (w.alloc (.cells (idVals a) 24)) := (Below.refl _ _).alloc (Nat.le_refl _) _
  have hza : (Try.prog.info? 24).map (·.size) = some (a.map u8v).length := by rw [List.length_map, ha]; exact sizeId
  have cX : ∀ W : World, Calls Try.prog 56 #[.agg (List.map u8v a).toArray] W fun e w' => e = .returned (.string (txt a)) ∧ Below W.heap.size W w' := fun W => rid_any a ha W
  have cY := fun W => rbit_any (txt a) i (by omega) h8 W
  generalize ib (bitAt (txt a) i h8) = D at *
  clear h8 hi ha
  go_enter Try.func89, Try.ntmps89
  go_wp2_with (first
    | (with_reducible refine wpList_load_if (by with_unfolding_all rfl) 24 _ rfl _ 0 rfl (a.map u8v) _ hI hu (by with_unfolding_all rfl) hza ?_)
    | (go_at_call 56; (with_reducible refine (cX _).mono ?_); rintro e1 w1 ⟨rfl, hB1⟩; replace hB := hB.trans (hB1.mono hB.size))
    | (go_at_call 126; (with_reducible refine (cY _).mono ?_); rintro e2 w2 ⟨rfl, rfl⟩))
  go_ret
  exact ⟨rfl, hB⟩

/-! ### what is shown and hidden -/
end Go.Proofs.Ytkajfpincbkfhaa

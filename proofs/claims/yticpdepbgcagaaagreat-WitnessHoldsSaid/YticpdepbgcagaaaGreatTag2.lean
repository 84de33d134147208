
/- tag: tagged sums, of the program and of the document. -/
import Derived.Test.YticpdepbgcagaaaGreatTag1
import Derived.Test.YticpdepbgcagaaaGreatSha10
import Derived.Test.YticpdepbgcagaaaGreatKit5
namespace Go.Proofs.YticpdepbgcagaaaGreat
open Go.RowKit Go.Qc
attribute [local go_sem] txt_size txt_append ib_fold

def tagB (n : List UInt8) (ps : List (List UInt8)) : List UInt8 := sumB (textB n ps)
theorem tagB_length (n : List UInt8) (ps : List (List UInt8)) : (tagB n ps).length = 32 := sumB_length _
def zeroB : List UInt8 := List.replicate 32 0

set_option maxRecDepth 100000 in
set_option maxHeartbeats 1000000 in
theorem of_any (nm : List UInt8) (hnm : nm.length ≤ 255) (A : Option Addr) (n c : Nat) (ps : List (List UInt8)) (hn : ps.length = n) (hm : (textB nm ps).length ≤ 1000000000000) (w : World) (hr : Rd w A (ps.map strV)) :
    Calls Tryz.prog 60 #[.string (txt nm), .slice A n c] w fun e w' => e = .returned (.tuple #[.agg (idVals (tagB nm ps)), .int .i64 0]) ∧ Below w.heap.size w w' := by
  obtain ⟨S, hS⟩ : ∃ S, S = tagB nm ps := ⟨_, rfl⟩
  have hSl : S.length = 32 := by rw [hS]; exact tagB_length _ _
  have s1 : ∀ W : World, Calls Tryz.prog 43 #[.string (txt (textB nm ps))] W fun e w' => e = .returned (.agg (idVals S)) ∧ Below W.heap.size W w' := fun W => by rw [hS]; exact sum_any _ hm W
  rw [← hS]
  clear hS
  have HS := hid s1
  have HSL := hid hSl
  have HM := hid hm
  have HNM := hid hnm
  clear s1 hSl hm hnm
  go_enter Tryz.func60, Tryz.ntmps60
  go_wp2_with (fail)
  generalize hZ : (Obj.cells _ 24) = Z
  obtain ⟨zc, rfl, hzc⟩ : ∃ zc : Array Value, Z = Obj.cells zc 24 ∧ zc.size = 32 := ⟨_, hZ.symm, rfl⟩
  clear hZ
  have hR0 := Blk.new w 24 zc
  have hB0 : Below w.heap.size w (w.alloc (.cells zc 24)) := (Below.refl _ _).alloc (Nat.le_refl _) _
  refine (text_any nm HNM.out A n c ps hn HM.out _ (hr.below hB0)).mono ?_
  rintro e1 w1 ⟨rfl, hB1⟩
  have hR1 := hR0.below hB1
  have hB := hB0.trans (hB1.mono hB0.size)
  have HZC := hid hzc
  clear hzc hR0 hB0 hB1
  go_wp2_with (first
    | (go_at_call 43; (with_reducible refine (HS.out _).mono ?_); rintro e2 w2 ⟨rfl, hB2⟩; have hR2 := hR1.below hB2)
    | (with_reducible refine wpList_store_blk rfl 24 _ _ rfl w.heap.size zc (idVals S) 24 hR2 rfl rfl ?c2 ?c3 (idVals_one _) ?_))
  case c2 => rw [idVals_size, HSL.out]; exact sizeId
  case c3 => rw [idVals_size, HSL.out]; exact HZC.out
  intro w7 hb7 hg7
  go_wp2
  refine bodyPost_ret (results_cellt rfl _ _ _ _ _ _ rfl hb7 Tryz.underlying24 rfl (by rw [idVals_size, HSL.out]; exact sizeId)) rfl ⟨rfl, ?_⟩
  exact (hB.trans (hB2.mono hB.size)).grown hg7 (Nat.le_trans hB.size hB2.size) (by intro i e; cases e; exact Nat.le_refl _)

theorem zeroB_vals : idVals zeroB = #[.int .u8 0, .int .u8 0, .int .u8 0, .int .u8 0, .int .u8 0, .int .u8 0, .int .u8 0, .int .u8 0, .int .u8 0, .int .u8 0, .int .u8 0, .int .u8 0, .int .u8 0, .int .u8 0, .int .u8 0, .int .u8 0, .int .u8 0, .int .u8 0, .int .u8 0, .int .u8 0, .int .u8 0, .int .u8 0, .int .u8 0, .int .u8 0, .int .u8 0, .int .u8 0, .int .u8 0, .int .u8 0, .int .u8 0, .int .u8 0, .int .u8 0, .int .u8 0] := rfl
set_option maxRecDepth 100000 in
set_option maxHeartbeats 1000000 in
theorem rof_any (nm : List UInt8) (hnm : nm.length ≤ 255) (A : Option Addr) (n c : Nat) (ps : List (List UInt8)) (hn : ps.length = n) (hm : (textB nm ps).length ≤ 1000000000000) (w : World) (hr : Rd w A (ps.map strV)) :
    Calls Tryz.prog 50 #[.string (txt nm), .slice A n c] w fun e w' => e = .returned (.agg (idVals (tagB nm ps))) ∧ Below w.heap.size w w' := by
  obtain ⟨S, hS⟩ : ∃ S, S = tagB nm ps := ⟨_, rfl⟩
  have hSl : S.length = 32 := by rw [hS]; exact tagB_length _ _
  have s1 : ∀ W : World, Calls Tryz.prog 40 #[.string (txt (textB nm ps))] W fun e w' => e = .returned (.agg (idVals S)) ∧ Below W.heap.size W w' := fun W => by rw [hS]; exact rsum_any _ hm W
  rw [← hS]
  clear hS
  have HS := hid s1
  have HSL := hid hSl
  have HM := hid hm
  have HNM := hid hnm
  clear s1 hSl hm hnm
  go_enter Tryz.func50, Tryz.ntmps50
  go_wp2_with (fail)
  generalize hZ : (Obj.cells _ 24) = Z
  obtain ⟨zc, rfl, hzc⟩ : ∃ zc : Array Value, Z = Obj.cells zc 24 ∧ zc.size = 32 := ⟨_, hZ.symm, rfl⟩
  clear hZ
  have hR0 := Blk.new w 24 zc
  have hB0 : Below w.heap.size w (w.alloc (.cells zc 24)) := (Below.refl _ _).alloc (Nat.le_refl _) _
  refine (rtext_any nm HNM.out A n c ps hn HM.out _ (hr.below hB0)).mono ?_
  rintro e1 w1 ⟨rfl, hB1⟩
  have hR1 := hR0.below hB1
  have hB := hB0.trans (hB1.mono hB0.size)
  have HZC := hid hzc
  clear hzc hR0 hB0 hB1
  go_wp2_with (first
    | (go_at_call 40; (with_reducible refine (HS.out _).mono ?_); rintro e2 w2 ⟨rfl, hB2⟩; have hR2 := hR1.below hB2)
    | (with_reducible refine wpList_store_blk rfl 24 _ _ rfl w.heap.size zc (idVals S) 24 hR2 rfl rfl ?c2 ?c3 (idVals_one _) ?_))
  case c2 => rw [idVals_size, HSL.out]; exact sizeId
  case c3 => rw [idVals_size, HSL.out]; exact HZC.out
  intro w7 hb7 hg7
  go_wp2
  refine bodyPost_ret (results_cell_row rfl _ _ _ _ _ _ _ rfl hb7 Tryz.underlying24 rfl (by rw [idVals_size, HSL.out]; exact sizeId)) rfl ⟨rfl, ?_⟩
  exact (hB.trans (hB2.mono hB.size)).grown hg7 (Nat.le_trans hB.size hB2.size) (by intro i e; cases e; exact Nat.le_refl _)

/-! ### the chapter's example, and parts that are long -/
end Go.Proofs.YticpdepbgcagaaaGreat

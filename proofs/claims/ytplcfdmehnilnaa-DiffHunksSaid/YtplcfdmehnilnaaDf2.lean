
/- diff: counts that are read, row by row. -/
import Derived.Test.YtplcfdmehnilnaaRows
import Derived.Test.YtplcfdmehnilnaaKit6
import Derived.Test.YtplcfdmehnilnaaDf0
set_option linter.unusedSimpArgs false
set_option linter.unusedVariables false
namespace Go.Proofs.Ytplcfdmehnilnaa
open Go.RowKit Go.Qc
attribute [local go_sem] txt_size txt_append ib_fold

theorem w64_in (n : Int) (h : -9223372036854775808 ≤ n ∧ n ≤ 9223372036854775807) : wrap64 n = n := by unfold wrap64; omega
set_option maxRecDepth 100000 in
theorem from_any (wide g N C i j : Nat) (x : Int) (hlt : i * wide + j < N) (bN : N ≤ 10000000) (hx0 : 0 ≤ x) (hx1 : x ≤ 1000) (w : World) (hc : w.cell? ⟨g, i * wide + j, none⟩ = some (.int .i16 x)) :
    Calls Try.prog 31 #[.agg #[.int .i64 wide, .slice (some ⟨g, 0, none⟩) N C], .int .i64 i, .int .i64 j] w fun e w' => e = .returned (.int .i64 x) ∧ Below w.heap.size w w' := by
  have hk := Blk.new w 76 #[.int .i64 wide, .slice (some ⟨g, 0, none⟩) N C]
  have hal : Below w.heap.size w (w.alloc (.cells #[.int .i64 wide, .slice (some ⟨g, 0, none⟩) N C] 76)) := (Below.refl _ w).alloc (Nat.le_refl _) _
  have hcc := Below.keep hal hc
  have k0 := hk.cell_ (i := 0) rfl
  have k1 := hk.cell_ (i := 1) rfl
  clear hc
  generalize hP : i * wide = P at *
  have hPi : (i : Int) * (wide : Int) = (P : Int) := by rw [← hP]; exact (Int.natCast_mul i wide).symm
  have hPw : wrap64 ((i : Int) * (wide : Int)) = (P : Int) := by rw [hPi]; exact w64_in _ (by omega)
  have hPj : wrap64 ((P : Int) + (j : Int)) = ((P + j : Nat) : Int) := by rw [w64_in _ (by omega)]; omega
  have hxw : wrap64 x = x := w64_in _ (by omega)
  go_enter Try.func31, Try.ntmps31
  go_wp2
  go_ret
  exact ⟨rfl, hal⟩
set_option maxRecDepth 100000 in
theorem row_any (wide g N C i : Nat) (h1w : 1 ≤ wide) (hlt : (i + 1) * wide ≤ N) (hNC : N ≤ C) (bN : C ≤ 10000000) (w : World) :
    Calls Try.prog 50 #[.agg #[.int .i64 wide, .slice (some ⟨g, 0, none⟩) N C], .int .i64 i] w fun e w' => e = .returned (.slice (some ⟨g, i * wide, none⟩) wide (C - i * wide)) ∧ Below w.heap.size w w' := by
  have hk := Blk.new w 76 #[.int .i64 wide, .slice (some ⟨g, 0, none⟩) N C]
  have hal : Below w.heap.size w (w.alloc (.cells #[.int .i64 wide, .slice (some ⟨g, 0, none⟩) N C] 76)) := (Below.refl _ w).alloc (Nat.le_refl _) _
  have k0 := hk.cell_ (i := 0) rfl
  have k1 := hk.cell_ (i := 1) rfl
  have hi : i ≤ 10000000 := by
    have : i + 1 ≤ (i + 1) * wide := Nat.le_mul_of_pos_right _ (by omega)
    omega
  rw [Nat.add_mul, Nat.one_mul] at hlt
  generalize hP : i * wide = P at *
  have hPi : (i : Int) * (wide : Int) = (P : Int) := by rw [← hP]; exact (Int.natCast_mul i wide).symm
  have hPw : wrap64 ((i : Int) * (wide : Int)) = (P : Int) := by rw [hPi]; exact w64_in _ (by omega)
  have hP2 : ((i : Int) + 1) * (wide : Int) = ((P + wide : Nat) : Int) := by rw [Int.add_mul, hPi]; omega
  have hPw2 : wrap64 (((i : Int) + 1) * (wide : Int)) = ((P + wide : Nat) : Int) := by rw [hP2]; exact w64_in _ (by omega)
  have hi1 : wrap64 ((i : Int) + 1) = (i : Int) + 1 := w64_in _ (by omega)
  go_enter Try.func50, Try.ntmps50
  have hCP : ¬ C = P := by omega
  have hPl : (P : Int) ≤ ((P + wide : Nat) : Int) := by omega
  have hPC : ((P + wide : Nat) : Int) ≤ (C : Int) := by omega
  go_wp2
  go_ret
  exact ⟨by rw [Nat.add_sub_cancel_left]; rfl, hal⟩

end Go.Proofs.Ytplcfdmehnilnaa


/- Union, Minus, Both; the chapter's example. -/
import Derived.Test.YtkajfpincbkfhaaId5
namespace Go.Proofs.Ytkajfpincbkfhaa
open Go.RowKit Go.Qc
attribute [local go_sem] txt_size txt_append ib_fold ib_i64

theorem andnot_any (W : World) (x y : Bool) : Calls Try.prog 153 #[.bool x, .bool y] W fun e w' => e = .returned (.bool (x && !y)) ∧ W = w' := by
  cases x <;> cases y <;>
  · go_enter Try.func153, Try.ntmps153
    go_wp2
    go_ret
    exact ⟨rfl, rfl⟩
/-- A row of ids, in hand: not more than a million, read where it lies. -/
def RowAt (w : World) (A : Option Addr) (n c : Nat) (l : List (List UInt8)) : Prop := l.length = n ∧ n ≤ c ∧ c ≤ maxLen ∧ n ≤ 1000000 ∧ IdRd w A l
theorem minus_any (A B : Option Addr) (n c m d : Nat) (l r : List (List UInt8)) (w : World) (hA : RowAt w A n c l) (hB : RowAt w B m d r) :
    Calls Try.prog 141 #[.slice A n c, .slice B m d] w fun e w' => ∃ v, e = .returned v ∧ w'.ownsRow w.heap.size 24 32 v (mergeL (fun x y => x && !y) l r).length (idsV (mergeL (fun x y => x && !y) l r)) ∧ Below w.heap.size w w' := by
  have hm := merged_any 153 (fun x y => x && !y) (enters_of Try.func153 (by kernel_rfl) rfl) andnot_any A B n c m d l r hA.1 hB.1 hA.2.1 hB.2.1 hA.2.2.1 hB.2.2.1 hA.2.2.2.1 hB.2.2.2.1 w hA.2.2.2.2 hB.2.2.2.2
  go_enter Try.func141, Try.ntmps141
  go_wp2_with (first | (go_at_call 152; (with_reducible refine hm.mono ?_); rintro e1 w1 ⟨v, rfl, ho, hb⟩))
  go_ret
  exact ⟨_, rfl, ho, hb⟩
def idN (n : UInt8) : List UInt8 := n :: List.replicate 31 0
end Go.Proofs.Ytkajfpincbkfhaa

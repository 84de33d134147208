
/- lamport: bits of a sum; what is shown and hidden of it, of the program and of the document. -/
import Derived.Test.YtapgiagpjplpdaaGreatLamA
import Derived.Test.YtapgiagpjplpdaaGreatKit6
namespace Go.Proofs.YtapgiagpjplpdaaGreat
open Go.RowKit Go.Qc
attribute [local go_sem] txt_size txt_append ib_fold

/-! ### bits -/
/-! ### what is shown and hidden -/
def upTo (F : Nat → List UInt8) (n : Nat) : List (List UInt8) := (List.range n).map F
theorem upTo_succ (F : Nat → List UInt8) (n : Nat) : upTo F (n + 1) = upTo F n ++ [F n] := by simp [upTo, List.range_succ]
theorem upTo_length (F : Nat → List UInt8) (n : Nat) : (upTo F n).length = n := by simp [upTo]
theorem upTo_32 (F : Nat → List UInt8) (hF : ∀ b, (F b).length = 32) (n : Nat) : ∀ x ∈ upTo F n, x.length = 32 := by
  intro x hx
  simp only [upTo, List.mem_map] at hx
  obtain ⟨b, _, rfl⟩ := hx
  exact hF b
theorem own1 (w : World) {k : Nat} (hk : w.heap.size = k) : ((w.alloc (.cells #[] 23)).alloc (.cells #[] 23)).ownsRow k 23 32 (.slice (some ⟨k + 1, 0, none⟩) 0 0) 0 [] := by
  subst hk
  have := World.ownsRow_made (base := w.heap.size) (e := 23) (size := 32) (w.alloc (.cells #[] 23)) #[] 0 (by simp) (by decide) rfl
  rwa [show (w.alloc (.cells #[] 23)).heap.size = w.heap.size + 1 by simp] at this
end Go.Proofs.YtapgiagpjplpdaaGreat

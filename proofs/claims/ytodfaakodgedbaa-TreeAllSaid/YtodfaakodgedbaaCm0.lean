
/- commute: two Edits of one path; paths; paths beside one another. -/
import Derived.Test.YtodfaakodgedbaaOpA
import Derived.Test.YtodfaakodgedbaaHk13
set_option linter.unusedSimpArgs false
set_option linter.unusedVariables false
namespace Go.Proofs.Ytodfaakodgedbaa
open Go.RowKit Go.Qc Go.Shelf
attribute [local go_sem] txt_size txt_append ib_fold txt_toL

/-- Two Edits of one path. -/
def togB (D E : OpD) : Bool := decide (D.k = 3) && (decide (E.k = 3) && decide (D.p = E.p))
/-- Two operations' boxes. -/
structure Op2 (w W : World) (D : OpD) (A : Option Addr) (n c : Nat) (B : Option Addr) (m d : Nat) (E : OpD) (A2 : Option Addr) (n2 c2 : Nat) (B2 : Option Addr) (m2 d2 : Nat) : Prop where
  a : OpX W w.heap.size D A n c B m d
  b : OpX W (w.heap.size + 1) E A2 n2 c2 B2 m2 d2
  x : Below w.heap.size w W
section
variable {w W W' : World} {D : OpD} {A : Option Addr} {n c : Nat} {B : Option Addr} {m d : Nat} {E : OpD} {A2 : Option Addr} {n2 c2 : Nat} {B2 : Option Addr} {m2 d2 : Nat}
theorem Op2.below (h : Op2 w W D A n c B m d E A2 n2 c2 B2 m2 d2) (hb : Below W.heap.size W W') : Op2 w W' D A n c B m d E A2 n2 c2 B2 m2 d2 := ⟨h.a.below hb, h.b.below hb, h.x.trans (hb.mono h.x.size)⟩
theorem Op2.gb (h : Op2 w W D A n c B m d E A2 n2 c2 B2 m2 d2) {g : Nat} (hg : W.grownBy W' (some g)) (hn : w.heap.size + 2 ≤ g) : Op2 w W' D A n c B m d E A2 n2 c2 B2 m2 d2 :=
  ⟨⟨blk_gb h.a.b hg (by omega)⟩, ⟨blk_gb h.b.b hg (by omega)⟩, h.x.trans (below_of_gb hg (by omega) h.x.size)⟩
end
theorem Op2.new (w : World) (D : OpD) (A : Option Addr) (n c : Nat) (B : Option Addr) (m d : Nat) (E : OpD) (A2 : Option Addr) (n2 c2 : Nat) (B2 : Option Addr) (m2 d2 : Nat) : Op2 w ((w.alloc (.cells (opC D A n c B m d) 40)).alloc (.cells (opC E A2 n2 c2 B2 m2 d2) 40)) D A n c B m d E A2 n2 c2 B2 m2 d2 := by
  have h := OpX.new w D A n c B m d
  have k := OpX.new (w.alloc (.cells (opC D A n c B m d) 40)) E A2 n2 c2 B2 m2 d2
  have e : (w.alloc (.cells (opC D A n c B m d) 40)).heap.size = w.heap.size + 1 := by simp
  rw [e] at k
  exact ⟨h.alloc _, k, ((Below.refl _ w).alloc (Nat.le_refl _) _).alloc (by simp) _⟩

end Go.Proofs.Ytodfaakodgedbaa

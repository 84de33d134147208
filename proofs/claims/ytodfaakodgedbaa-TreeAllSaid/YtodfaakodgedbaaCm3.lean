
/- commute.Swap: two operations in the other order, by the program. -/
import Derived.Test.YtodfaakodgedbaaCm1
import Derived.Deep.DeepCutAuto
set_option linter.unusedSimpArgs false
set_option linter.unusedVariables false
namespace Go.Proofs.Ytodfaakodgedbaa
open Go.RowKit Go.Qc Go.Shelf
attribute [local go_sem] txt_size txt_append ib_fold txt_toL

/-- The place of the second one, swapped; of the first one, swapped. -/
def aE (D E : OpD) : Int := if togB D E = true ∧ ¬ E.a < D.a then E.a - ((D.n.length : Int) - D.o.length) else E.a
def aD (D E : OpD) : Int := if togB D E = true ∧ E.a < D.a then D.a + ((E.n.length : Int) - E.o.length) else D.a
theorem opC_info (D : OpD) (A : Option Addr) (n c : Nat) (B : Option Addr) (m d : Nat) (hK : D.K.length = 32) : (Try.prog.info? 40).map (·.size) = some (opC D A n c B m d).size := by rw [opC_size _ _ _ _ _ _ _ hK]; exact infoOp
/-- Two operations' boxes, and the two results. -/
structure SwO (w W : World) (D : OpD) (A : Option Addr) (n c : Nat) (B : Option Addr) (m d : Nat) (E : OpD) (A2 : Option Addr) (n2 c2 : Nat) (B2 : Option Addr) (m2 d2 : Nat) (zc : Array Value) : Prop where
  k : Op2 w W D A n c B m d E A2 n2 c2 B2 m2 d2
  r4 : Blk W (w.heap.size + 1 + 1) 40 zc
  r5 : Blk W (w.heap.size + 1 + 1 + 1) 40 zc
section
variable {w W W' : World} {D : OpD} {A : Option Addr} {n c : Nat} {B : Option Addr} {m d : Nat} {E : OpD} {A2 : Option Addr} {n2 c2 : Nat} {B2 : Option Addr} {m2 d2 : Nat} {zc : Array Value}
theorem SwO.below (h : SwO w W D A n c B m d E A2 n2 c2 B2 m2 d2 zc) (hb : Below W.heap.size W W') : SwO w W' D A n c B m d E A2 n2 c2 B2 m2 d2 zc := ⟨h.k.below hb, h.r4.below hb, h.r5.below hb⟩
theorem SwO.gb (h : SwO w W D A n c B m d E A2 n2 c2 B2 m2 d2 zc) {g : Nat} (hg : W.grownBy W' (some g)) (hn : w.heap.size + 4 ≤ g) : SwO w W' D A n c B m d E A2 n2 c2 B2 m2 d2 zc := ⟨h.k.gb hg (by omega), blk_gb h.r4 hg (by omega), blk_gb h.r5 hg (by omega)⟩
end
theorem SwO.new (w : World) (D : OpD) (A : Option Addr) (n c : Nat) (B : Option Addr) (m d : Nat) (E : OpD) (A2 : Option Addr) (n2 c2 : Nat) (B2 : Option Addr) (m2 d2 : Nat) (zc : Array Value) : SwO w ((((w.alloc (.cells (opC D A n c B m d) 40)).alloc (.cells (opC E A2 n2 c2 B2 m2 d2) 40)).alloc (.cells zc 40)).alloc (.cells zc 40)) D A n c B m d E A2 n2 c2 B2 m2 d2 zc := by
  have h := Op2.new w D A n c B m d E A2 n2 c2 B2 m2 d2
  have h4 := Blk.new ((w.alloc (.cells (opC D A n c B m d) 40)).alloc (.cells (opC E A2 n2 c2 B2 m2 d2) 40)) 40 zc
  have h5 := Blk.new (((w.alloc (.cells (opC D A n c B m d) 40)).alloc (.cells (opC E A2 n2 c2 B2 m2 d2) 40)).alloc (.cells zc 40)) 40 zc
  have e4 : ((w.alloc (.cells (opC D A n c B m d) 40)).alloc (.cells (opC E A2 n2 c2 B2 m2 d2) 40)).heap.size = w.heap.size + 1 + 1 := by simp
  have e5 : (((w.alloc (.cells (opC D A n c B m d) 40)).alloc (.cells (opC E A2 n2 c2 B2 m2 d2) 40)).alloc (.cells zc 40)).heap.size = w.heap.size + 1 + 1 + 1 := by simp
  rw [e4] at h4
  rw [e5] at h5
  exact ⟨(h.below ((Below.refl _ _).alloc (Nat.le_refl _) _)).below ((Below.refl _ _).alloc (Nat.le_refl _) _), h4.alloc _, h5⟩
end Go.Proofs.Ytodfaakodgedbaa

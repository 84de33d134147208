
/- op: an operation is read, by the program -/
import Derived.Test.YtapgiagpjplpdaaGreatOpA
import Derived.Test.YtapgiagpjplpdaaGreatOp1
set_option linter.unusedSimpArgs false
set_option linter.unusedVariables false
namespace Go.Proofs.YtapgiagpjplpdaaGreat
open Go.RowKit Go.Qc Go.Shelf
attribute [local go_sem] txt_size txt_append ib_fold txt_toL

section
variable {w W W' : World} {g : Nat} {s : List UInt8} {a : Nat} {e : Int} {ox : Nat} {D : OpD} {A : Option Addr} {n c : Nat} {B : Option Addr} {m d : Nat}
end
end Go.Proofs.YtapgiagpjplpdaaGreat

namespace Go.Proofs.YtapgiagpjplpdaaGreat
open Go.RowKit Go.Qc Go.Shelf
attribute [local go_sem] txt_size txt_append ib_fold txt_toL

/-- An operation's rows, read. -/
structure OpR (W : World) (D : OpD) (A : Option Addr) (n : Nat) (B : Option Addr) (m : Nat) : Prop where
  lo : D.o.length = n
  bn : n ≤ 1000
  bo : ∀ x ∈ D.o, x.length ≤ 1000
  ln : D.n.length = m
  bm : m ≤ 1000
  bx : ∀ x ∈ D.n, x.length ≤ 1000
  rA : Rd W A (D.o.map strV)
  rB : Rd W B (D.n.map strV)
  hK : D.K.length = 32
  bp : D.p.length ≤ 1000
  bt : D.t.length ≤ 1000
theorem OpR.below {W W' : World} {D : OpD} {A : Option Addr} {n : Nat} {B : Option Addr} {m : Nat} (h : OpR W D A n B m) (hb : Below W.heap.size W W') : OpR W' D A n B m :=
  ⟨h.lo, h.bn, h.bo, h.ln, h.bm, h.bx, h.rA.below hb, h.rB.below hb, h.hK, h.bp, h.bt⟩
theorem OpR.zero (W : World) : OpR W opZ none 0 none 0 := ⟨rfl, by decide, by simp [opZ], rfl, by decide, by simp [opZ], .inl rfl, .inl rfl, rfl, by simp [opZ], by simp [opZ]⟩
end Go.Proofs.YtapgiagpjplpdaaGreat

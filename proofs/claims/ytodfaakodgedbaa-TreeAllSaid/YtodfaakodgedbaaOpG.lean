
/- op: an operation is read, by the program -/
import Derived.Test.YtodfaakodgedbaaOpA
import Derived.Test.YtodfaakodgedbaaOp1
set_option linter.unusedSimpArgs false
set_option linter.unusedVariables false
namespace Go.Proofs.Ytodfaakodgedbaa
open Go.RowKit Go.Qc Go.Shelf
attribute [local go_sem] txt_size txt_append ib_fold txt_toL

theorem opC_set4 (D : OpD) (hK : D.K.length = 32) (A : Option Addr) (n c : Nat) (B : Option Addr) (m d : Nat) (q : List (List UInt8)) (A2 : Option Addr) (n2 c2 : Nat) : (opC D A n c B m d).setIfInBounds 4 (.slice A2 n2 c2) = opC { D with o := q } A2 n2 c2 B m d := by
  unfold opC idVals
  simp
theorem opC_set5 (D : OpD) (hK : D.K.length = 32) (A : Option Addr) (n c : Nat) (B : Option Addr) (m d : Nat) (q : List (List UInt8)) (B2 : Option Addr) (m2 d2 : Nat) : (opC D A n c B m d).setIfInBounds 5 (.slice B2 m2 d2) = opC { D with n := q } A n c B2 m2 d2 := by
  unfold opC idVals
  simp
section
variable {w W W' : World} {g : Nat} {s : List UInt8} {a : Nat} {e : Int} {ox : Nat} {D : OpD} {A : Option Addr} {n c : Nat} {B : Option Addr} {m d : Nat}
theorem own_str {base n' : Nat} {v : Value} {xs : List Value} (h : W.ownsRow base 9 1 v n' xs) : ∃ A' c', v = .slice A' n' c' := by
  rcases h.2 with ⟨rfl, h0⟩ | ⟨g', cap, cur, rfl, _⟩
  · subst h0; exact ⟨_, _, rfl⟩
  · exact ⟨_, _, rfl⟩
theorem own_rd {base n' c' : Nat} {A' : Option Addr} {L : List (List UInt8)} (h : W.ownsRow base 9 1 (.slice A' n' c') n' (L.map strV)) : L.length = n' ∧ Rd W A' (L.map strV) := by
  obtain ⟨h1, A2, c2, h2, h3⟩ := rowRd h
  injection h2 with q1 q2 q3
  subst q1
  exact ⟨by rw [← h1, List.length_map], h3⟩
end
end Go.Proofs.Ytodfaakodgedbaa

namespace Go.Proofs.Ytodfaakodgedbaa
open Go.RowKit Go.Qc Go.Shelf
attribute [local go_sem] txt_size txt_append ib_fold txt_toL

/-- An operation's rows, read. -/
structure OpR (W : World) (D : OpD) (A : Option Addr) (n : Nat) (B : Option Addr) (m : Nat) : Prop where
  lo : D.o.length = n
  bn : n ≤ 1000
  bo : ∀ x ∈ D.o, x.length ≤ 1000
  ln : D.n.length = m
  bm : m ≤ 1000
  bx : ∀ x ∈ D.n, x.length ≤ 1000
  rA : Rd W A (D.o.map strV)
  rB : Rd W B (D.n.map strV)
  hK : D.K.length = 32
  bp : D.p.length ≤ 1000
  bt : D.t.length ≤ 1000
theorem OpR.below {W W' : World} {D : OpD} {A : Option Addr} {n : Nat} {B : Option Addr} {m : Nat} (h : OpR W D A n B m) (hb : Below W.heap.size W W') : OpR W' D A n B m :=
  ⟨h.lo, h.bn, h.bo, h.ln, h.bm, h.bx, h.rA.below hb, h.rB.below hb, h.hK, h.bp, h.bt⟩
theorem OpR.zero (W : World) : OpR W opZ none 0 none 0 := ⟨rfl, by decide, by simp [opZ], rfl, by decide, by simp [opZ], .inl rfl, .inl rfl, rfl, by simp [opZ], by simp [opZ]⟩
end Go.Proofs.Ytodfaakodgedbaa

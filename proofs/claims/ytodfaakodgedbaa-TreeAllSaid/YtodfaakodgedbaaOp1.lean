
/- op, bytes: operations as data; what is wrong with them; what is written and read: lists alone. -/
import Derived.Test.YtodfaakodgedbaaRsA
import Derived.Test.YtodfaakodgedbaaOp0
set_option linter.unusedSimpArgs false
set_option linter.unusedVariables false
namespace Go.Proofs.Ytodfaakodgedbaa
open Go.RowKit Go.Qc Go.Shelf

def opZ : OpD := ⟨0, [], [], 0, [], [], zeroB, 0⟩
/-! ### what was read is what is written of it -/
/-- Where a reader is, what was read, and that this is what is written of it. -/
def Fore (s : List UInt8) (a : Nat) (e : Int) (q : Nat × Int) (T : List UInt8) : Prop := e = 0 ∧ a ≤ q.1 ∧ q.1 ≤ s.length ∧ s.take q.1 = s.take a ++ T
theorem Fore.trans {s : List UInt8} {a : Nat} {e : Int} {q r : Nat × Int} {T U : List UInt8} (h : Fore s a e q T) (k : Fore s q.1 q.2 r U) : Fore s a e r (T ++ U) :=
  ⟨h.1, Nat.le_trans h.2.1 k.2.1, k.2.2.1, by rw [k.2.2.2, h.2.2.2, List.append_assoc]⟩
theorem Fore.refl {s : List UInt8} {q : Nat × Int} (ha : q.1 ≤ s.length) (h : q.2 = 0) : Fore s q.1 q.2 q [] := ⟨h, Nat.le_refl _, ha, by rw [List.append_nil]⟩
/-! ### each reading stays within the bytes -/
/-! ### operations: what was read is what is written of it -/
/-! ### operations: what was written is read back -/
end Go.Proofs.Ytodfaakodgedbaa

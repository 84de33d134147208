
/- witness, as data: the texts by which a signature comes to its key; where two rows of texts are unlike; what follows. -/
import Derived.Test.YticpdepbgcagaaaGreatSvA
set_option linter.unusedSimpArgs false
set_option linter.unusedVariables false
namespace Go.Proofs.YticpdepbgcagaaaGreat
open Go.RowKit Go.Qc

/-- The text of which the sum at a place is. -/
def wiT (n H L : Nat) (a : List UInt8) (l r way : List (List UInt8)) : Nat → List UInt8
  | 0 => textB leafN [(sideL (pubF a l r) n).flatten]
  | p + 1 => if H ≤ p then textB keyN [nB n 2, nB H 1, rootB a l r way n L]
    else if (L / 2 ^ p) % 2 = 1 then textB nodeN [getB way p, climbB L (recB a l r n) (way.take p)] else textB nodeN [climbB L (recB a l r n) (way.take p), getB way p]
/-- The place of the first texts that are unlike, from the highest down. -/
def unlW (T U : Nat → List UInt8) : Nat → Option Nat
  | 0 => none
  | k + 1 => if T k = U k then unlW T U k else some k
theorem unlW_self (T : Nat → List UInt8) : ∀ m, unlW T T m = none
  | 0 => rfl
  | m + 1 => by unfold unlW; rw [if_pos rfl]; exact unlW_self T m
section
variable {n H L : Nat} {a : List UInt8} {l r way l' r' way' : List (List UInt8)}
end
end Go.Proofs.YticpdepbgcagaaaGreat

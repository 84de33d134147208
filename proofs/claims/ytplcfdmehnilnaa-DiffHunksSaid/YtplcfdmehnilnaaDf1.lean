
/- The least change from lines to lines: lists alone. -/
import Derived.Test.YtplcfdmehnilnaaHk14
import Derived.Test.YtplcfdmehnilnaaDf0
set_option linter.unusedSimpArgs false
set_option linter.unusedVariables false
namespace Go.Proofs.Ytplcfdmehnilnaa
open Go.RowKit Go.Qc Go.Shelf

/-- A hunk, as data. -/
abbrev HD := Nat × List (List UInt8) × List (List UInt8)
/-- What was dropped and put in, if anything was. -/
def flu (at' : Nat) (D A : List (List UInt8)) : List HD := if D.length + A.length = 0 then [] else [(at', D, A)]
/-- The hunks from old lines to new ones; at a place, behind so many new lines, with what was dropped and put in since. -/
def dfG : List (List UInt8) → List (List UInt8) → Nat → Nat → List (List UInt8) → List (List UInt8) → List HD
  | [], [], at', _, D, A => flu at' D A
  | a :: x, [], at', j, D, A => dfG x [] at' j (D ++ [a]) A
  | [], b :: y, at', j, D, A => dfG [] y at' (j + 1) D (A ++ [b])
  | a :: x, b :: y, at', j, D, A =>
    if a = b then flu at' D A ++ dfG x y (j + 1) (j + 1) [] []
    else if lcs (a :: x) y ≤ lcs x (b :: y) then dfG x (b :: y) at' j (D ++ [a]) A
    else dfG (a :: x) y at' (j + 1) D (A ++ [b])
termination_by x y => x.length + y.length
/-- Lines that hunks of so many lines made. -/
def FarL (x y : List (List UInt8)) (n : Nat) : Prop := x.length + y.length ≤ n + 2 * lcs x y
theorem lcs_self : ∀ x : List (List UInt8), lcs x x = x.length
  | [] => lcs_nil []
  | a :: x => by rw [lcs_eq, lcs_self x]; rfl
theorem FarL.start (x : List (List UInt8)) : FarL x x 0 := by unfold FarL; rw [lcs_self]; omega
theorem FarL.step {x P S o n : List (List UInt8)} {k : Nat} (h : FarL x (P ++ (o ++ S)) k) : FarL x (P ++ (n ++ S)) (k + (o.length + n.length)) := by
  unfold FarL at h ⊢
  have h1 := lcs_tri x (P ++ (o ++ S)) (P ++ (n ++ S))
  have h2 := lcs_put P S o n
  simp only [List.length_append] at h h1 ⊢
  omega
theorem FarL.apR {x ls : List (List UInt8)} {at' : Int} {o n : List (List UInt8)} {k : Nat} (h : FarL x ls k) (ha : (apR ls at' o n).2 = 0) : FarL x (Go.Proofs.Ytplcfdmehnilnaa.apR ls at' o n).1 (k + (o.length + n.length)) := by
  obtain ⟨P, S, _, e2, e3, _, _⟩ := apR_get ha
  rw [e3]
  rw [e2] at h
  exact h.step
end Go.Proofs.Ytplcfdmehnilnaa


/- ids: rows that are cut anywhere, and put behind one's own. -/
import Derived.Test.YtfckbonblfcmnaaGs2
import Derived.Laws.StructEq
import Derived.Test.YtfckbonblfcmnaaKit4
import Derived.Deep.RegionHeld3
import Derived.Test.YtfckbonblfcmnaaIdL
import Derived.Deep.DeepCutAuto
set_option linter.unusedSimpArgs false
set_option linter.unusedVariables false
namespace Go.Proofs.Ytfckbonblfcmnaa
open Go.RowKit Go.Qc

/-- A row that came in: it is read, and its cap is known. -/
def RowC (w : World) (A : Option Addr) (n c : Nat) (l : List (List UInt8)) : Prop := RowR w A n l ∧ ((A = none ∧ n = 0 ∧ c = 0) ∨ ((∃ a, A = some a) ∧ n ≤ c ∧ c ≤ maxLen))
theorem RowC.below {w w' : World} {A : Option Addr} {n c : Nat} {l : List (List UInt8)} (h : RowC w A n c l) (hb : Below w.heap.size w w') : RowC w' A n c l := ⟨h.1.below hb, h.2⟩
/-- A row of one's own. -/
def IdOw (W : World) (base : Nat) (v : Value) (n : Nat) (l : List (List UInt8)) : Prop := W.ownsRow base 23 32 v n (idsV l)
theorem IdOw.made (W : World) : IdOw (W.alloc (.cells #[] 23)) W.heap.size (.slice (some ⟨W.heap.size, 0, none⟩) 0 0) 0 [] :=
  World.ownsRow_made W #[] 0 (Nat.le_refl _) (by decide) rfl
theorem IdOw.grown {W W' : World} {base n B : Nat} {v : Value} {l : List (List UInt8)} (h : IdOw W base v n l) (hg : W.grownBy W' v.ownBlock) (hB : B ≤ base) {w : World} (hb : Below B w W) (hs : B ≤ W.heap.size) : Below B w W' :=
  hb.grown hg hs (by intro k hk; have := (h.lt k hk).1; omega)
theorem IdOw.row {w : World} {base n : Nat} {v : Value} {l : List (List UInt8)} (h : IdOw w base v n l) (h32 : ∀ a ∈ l, a.length = 32) (hm : n ≤ 1000000) : ∃ A c, v = .slice A n c ∧ RowR w A n l := by
  obtain ⟨A, c, rfl, hr⟩ := RowAt.own h h32 hm
  exact ⟨A, c, rfl, hr.r⟩
end Go.Proofs.Ytfckbonblfcmnaa


/- id: order, digits, hexadecimal digits, parsing. -/
import Derived.Test.YticpdepbgcagaaaGreatTag3
import Derived.Lib.Bytealg
import Derived.Laws.Externs
import Derived.Laws.IdiomStrings
set_option linter.unusedSimpArgs false
set_option linter.unusedVariables false
namespace Go.Proofs.YticpdepbgcagaaaGreat
open Go.RowKit Go.Qc
attribute [local go_sem] txt_size txt_append ib_fold

/-- The world behind two boxed ids. -/
def two (w : World) (a b : List UInt8) : World := (w.alloc (.cells (idVals a) 24)).alloc (.cells (idVals b) 24)
end Go.Proofs.YticpdepbgcagaaaGreat

namespace Go.Proofs.YticpdepbgcagaaaGreat
open Go.RowKit Go.Qc
attribute [local go_sem] txt_size txt_append ib_fold ib_inj

theorem cmp_refl : ∀ (a : List UInt8), Lib.compareBytes a a = 0
  | [] => rfl
  | x :: a => by rw [Lib.compareBytes, if_neg (UInt8.lt_irrefl x), if_neg (UInt8.lt_irrefl x)]; exact cmp_refl a
/-! ### digits -/
/-! ### an id's text -/
end Go.Proofs.YticpdepbgcagaaaGreat

namespace Go.Proofs.YticpdepbgcagaaaGreat
open Go.RowKit Go.Qc
attribute [local go_sem] txt_size txt_append ib_fold ib_i64

/-! ### a text's id -/
end Go.Proofs.YticpdepbgcagaaaGreat

namespace Go.Proofs.YticpdepbgcagaaaGreat
open Go.RowKit Go.Qc
attribute [local go_sem] txt_size txt_append ib_fold ib_i64 ib_shr ib_and1

/-! ### Parse of Hex is the id -/
/-! ### Bytes -/
/-! ### Bit -/
set_option maxRecDepth 100000 in
theorem idBit_any (a : List UInt8) (ha : a.length = 32) (i : Nat) (hi : i / 8 < (txt a).size) (w : World) :
    Calls Tryz.prog 33 #[.agg (idVals a), .int .i64 i] w fun e w' => e = .returned (.int .i64 (ib (bitAt (txt a) i hi))) ∧ Below w.heap.size w w' := by
  have hi2 : i / 8 < 32 := by rw [txt_size, ha] at hi; exact hi
  obtain ⟨x, hx⟩ : ∃ x, a[i / 8]? = some x := ⟨_, List.getElem?_eq_getElem (by rw [ha]; exact hi2)⟩
  have hb : bitAt (txt a) i hi = bit0 (shrB x (7 - i % 8)) := by unfold bitAt; rw [txt_get rfl hx hi]
  rw [hb]
  have hI := Blk.new w 24 (idVals a)
  have hB0 : Below w.heap.size w (w.alloc (.cells (idVals a) 24)) := (Below.refl _ _).alloc (Nat.le_refl _) _
  have hcell := hI.cell_ (i := i / 8) (u := .int .u8 (ib x)) (by unfold idVals; rw [List.getElem?_toArray, List.getElem?_map, hx]; rfl)
  have h0 : (0 : Int) ≤ i := by omega
  have h1 : (i : Int) < 256 := by omega
  have h2 : (0 : Int) ≤ (i : Int) / 8 := by omega
  have e1 : ((i : Int) / 8).toNat = i / 8 := by omega
  have e2 : (7 - (i : Int) % 8).toNat = 7 - i % 8 := by omega
  have h3 : (0 : Int) ≤ 7 - (i : Int) % 8 := by omega
  have h4 : 7 - (i : Int) % 8 ≤ 7 := by omega
  clear hi hb hx hI
  go_enter Tryz.func33, Tryz.ntmps33
  go_wp2_with (fail)
  generalize w.alloc (.cells (idVals a) 24) = w0 at *
  go_wp2
  all_goals (go_ret; exact ⟨rfl, hB0⟩)
end Go.Proofs.YticpdepbgcagaaaGreat

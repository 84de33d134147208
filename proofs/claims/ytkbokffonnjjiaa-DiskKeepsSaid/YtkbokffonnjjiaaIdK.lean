
/- Ids and rows of ids that come in. -/
import Derived.Test.YtkbokffonnjjiaaKit5
namespace Go.Proofs.Ytkbokffonnjjiaa
open Go.RowKit Go.Qc
open Go.ChangeShapes Go.WideShapes Go.ChangeAt

/-- The cells of a row of ids. -/
def idsV (ids : List (List UInt8)) : List Value := ids.flatMap (fun a => a.map u8v)
theorem idsV_cons (a : List UInt8) (ids : List (List UInt8)) : idsV (a :: ids) = a.map u8v ++ idsV ids := by simp [idsV]
theorem idsV_length : ∀ (ids : List (List UInt8)), (∀ a ∈ ids, a.length = 32) → (idsV ids).length = ids.length * 32
  | [], _ => rfl
  | a :: ids, h => by
    rw [idsV_cons, List.length_append, List.length_map, h a (by simp), idsV_length ids (fun x hx => h x (by simp [hx])), List.length_cons]
    omega
/-- A row of ids lies at A. -/
def IdRd (w : World) (A : Option Addr) (ids : List (List UInt8)) : Prop :=
  (∀ a ∈ ids, a.length = 32) ∧ (ids = [] ∨ ∃ g o, A = some ⟨g, o, none⟩ ∧ w.rangeAt g o (idsV ids))
theorem IdRd.len {w : World} {A : Option Addr} {ids : List (List UInt8)} (h : IdRd w A ids) {k : Nat} {a : List UInt8} (hk : ids[k]? = some a) : a.length = 32 := h.1 a (List.mem_of_getElem? hk)
theorem IdRd.below {w w' : World} {A : Option Addr} {ids : List (List UInt8)} (h : IdRd w A ids) (hb : Below w.heap.size w w') : IdRd w' A ids :=
  ⟨h.1, h.2.elim .inl fun ⟨g, o, e, hr⟩ => .inr ⟨g, o, e, hr.below hb⟩⟩
theorem IdRd.own {w : World} {base n : Nat} {e : TypeId} {v : Value} {ids : List (List UInt8)} (h : w.ownsRow base e 32 v n (idsV ids)) (h32 : ∀ a ∈ ids, a.length = 32) :
    ∃ A c, v = .slice A n c ∧ ids.length = n ∧ IdRd w A ids := by
  obtain ⟨hl, h⟩ := h
  rw [idsV_length ids h32] at hl
  have hn : ids.length = n := by omega
  rcases h with ⟨rfl, rfl⟩ | ⟨g, cap, cur, rfl, _, hb, hnc, _, hsz, htk⟩
  · exact ⟨none, 0, rfl, hn, h32, .inl (List.eq_nil_of_length_eq_zero hn)⟩
  · refine ⟨_, cap, rfl, hn, h32, .inr ⟨g, 0, rfl, fun j u hu => ?_⟩⟩
    rw [Nat.zero_add, cell_of_row w g j cur e (0, 0) hb]
    rw [← htk, List.getElem?_take] at hu
    split at hu
    · rwa [Array.getElem?_toList] at hu
    · cases hu

section
variable {H : Type} {enc : TypeId × Value → H} {P : Program} {w : World} {r : Reach} {base b0 : Nat} {sp : Nat → Bool} {hd : Bool}

end
end Go.Proofs.Ytkbokffonnjjiaa

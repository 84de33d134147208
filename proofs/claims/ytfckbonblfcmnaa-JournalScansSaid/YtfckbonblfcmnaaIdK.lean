
/- Ids and rows of ids that come in. -/
import Derived.Test.YtfckbonblfcmnaaKit5
namespace Go.Proofs.Ytfckbonblfcmnaa
open Go.RowKit Go.Qc
open Go.ChangeShapes Go.WideShapes Go.ChangeAt

/-- The cells of a row of ids. -/
def idsV (ids : List (List UInt8)) : List Value := ids.flatMap (fun a => a.map u8v)
theorem idsV_cons (a : List UInt8) (ids : List (List UInt8)) : idsV (a :: ids) = a.map u8v ++ idsV ids := by simp [idsV]
theorem idsV_length : ∀ (ids : List (List UInt8)), (∀ a ∈ ids, a.length = 32) → (idsV ids).length = ids.length * 32
  | [], _ => rfl
  | a :: ids, h => by
    rw [idsV_cons, List.length_append, List.length_map, h a (by simp), idsV_length ids (fun x hx => h x (by simp [hx])), List.length_cons]
    omega
theorem idsV_get : ∀ (ids : List (List UInt8)) (k : Nat) (a : List UInt8) (j : Nat) (v : Value), (∀ a ∈ ids, a.length = 32) → ids[k]? = some a → (a.map u8v)[j]? = some v → (idsV ids)[k * 32 + j]? = some v
  | [], k, a, j, v, _, hk, _ => by simp at hk
  | b :: ids, 0, a, j, v, h, hk, hj => by
    simp at hk
    subst hk
    have hlt := (List.getElem?_eq_some_iff.1 hj).1
    rw [idsV_cons, Nat.zero_mul, Nat.zero_add, List.getElem?_append_left hlt]
    exact hj
  | b :: ids, k + 1, a, j, v, h, hk, hj => by
    have hb := h b (by simp)
    rw [List.getElem?_cons_succ] at hk
    rw [idsV_cons, List.getElem?_append_right (by rw [List.length_map, hb]; omega), List.length_map, hb, show (k + 1) * 32 + j - 32 = k * 32 + j by omega]
    exact idsV_get ids k a j v (fun x hx => h x (by simp [hx])) hk hj
/-- A row of ids lies at A. -/
def IdRd (w : World) (A : Option Addr) (ids : List (List UInt8)) : Prop :=
  (∀ a ∈ ids, a.length = 32) ∧ (ids = [] ∨ ∃ g o, A = some ⟨g, o, none⟩ ∧ w.rangeAt g o (idsV ids))
theorem IdRd.nil_ (w : World) (A : Option Addr) : IdRd w A [] := ⟨by simp, .inl rfl⟩
theorem IdRd.len {w : World} {A : Option Addr} {ids : List (List UInt8)} (h : IdRd w A ids) {k : Nat} {a : List UInt8} (hk : ids[k]? = some a) : a.length = 32 := h.1 a (List.mem_of_getElem? hk)
theorem IdRd.at_ {w : World} {A : Option Addr} {ids : List (List UInt8)} (h : IdRd w A ids) {k : Nat} {a : List UInt8} (hk : ids[k]? = some a) :
    ∃ g o, A = some ⟨g, o, none⟩ ∧ w.rangeAt g (o + k * 32) (a.map u8v) := by
  obtain ⟨h1, rfl | ⟨g, o, rfl, h2⟩⟩ := h
  · simp at hk
  · refine ⟨g, o, rfl, fun j v hj => ?_⟩
    rw [Nat.add_assoc]
    exact h2 _ _ (idsV_get ids k a j v h1 hk hj)
theorem IdRd.below {w w' : World} {A : Option Addr} {ids : List (List UInt8)} (h : IdRd w A ids) (hb : Below w.heap.size w w') : IdRd w' A ids :=
  ⟨h.1, h.2.elim .inl fun ⟨g, o, e, hr⟩ => .inr ⟨g, o, e, hr.below hb⟩⟩
theorem IdRd.own {w : World} {base n : Nat} {e : TypeId} {v : Value} {ids : List (List UInt8)} (h : w.ownsRow base e 32 v n (idsV ids)) (h32 : ∀ a ∈ ids, a.length = 32) :
    ∃ A c, v = .slice A n c ∧ ids.length = n ∧ IdRd w A ids := by
  obtain ⟨hl, h⟩ := h
  rw [idsV_length ids h32] at hl
  have hn : ids.length = n := by omega
  rcases h with ⟨rfl, rfl⟩ | ⟨g, cap, cur, rfl, _, hb, hnc, _, hsz, htk⟩
  · exact ⟨none, 0, rfl, hn, h32, .inl (List.eq_nil_of_length_eq_zero hn)⟩
  · refine ⟨_, cap, rfl, hn, h32, .inr ⟨g, 0, rfl, fun j u hu => ?_⟩⟩
    rw [Nat.zero_add, cell_of_row w g j cur e (0, 0) hb]
    rw [← htk, List.getElem?_take] at hu
    split at hu
    · rwa [Array.getElem?_toList] at hu
    · cases hu

section
variable {H : Type} {enc : TypeId × Value → H} {P : Program} {w : World} {r : Reach} {base b0 : Nat} {sp : Nat → Bool} {hd : Bool}

end
end Go.Proofs.Ytfckbonblfcmnaa

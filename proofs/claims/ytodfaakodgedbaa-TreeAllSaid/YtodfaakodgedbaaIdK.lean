
/- Ids and rows of ids that come in. -/
import Derived.Test.YtodfaakodgedbaaKit5
namespace Go.Proofs.Ytodfaakodgedbaa
open Go.RowKit Go.Qc
open Go.ChangeShapes Go.WideShapes Go.ChangeAt

/-- The cells of a row of ids. -/
def idsV (ids : List (List UInt8)) : List Value := ids.flatMap (fun a => a.map u8v)
theorem idsV_cons (a : List UInt8) (ids : List (List UInt8)) : idsV (a :: ids) = a.map u8v ++ idsV ids := by simp [idsV]
theorem idsV_length : ∀ (ids : List (List UInt8)), (∀ a ∈ ids, a.length = 32) → (idsV ids).length = ids.length * 32
  | [], _ => rfl
  | a :: ids, h => by
    rw [idsV_cons, List.length_append, List.length_map, h a (by simp), idsV_length ids (fun x hx => h x (by simp [hx])), List.length_cons]
    omega
theorem idsV_get : ∀ (ids : List (List UInt8)) (k : Nat) (a : List UInt8) (j : Nat) (v : Value), (∀ a ∈ ids, a.length = 32) → ids[k]? = some a → (a.map u8v)[j]? = some v → (idsV ids)[k * 32 + j]? = some v
  | [], k, a, j, v, _, hk, _ => by simp at hk
  | b :: ids, 0, a, j, v, h, hk, hj => by
    simp at hk
    subst hk
    have hlt := (List.getElem?_eq_some_iff.1 hj).1
    rw [idsV_cons, Nat.zero_mul, Nat.zero_add, List.getElem?_append_left hlt]
    exact hj
  | b :: ids, k + 1, a, j, v, h, hk, hj => by
    have hb := h b (by simp)
    rw [List.getElem?_cons_succ] at hk
    rw [idsV_cons, List.getElem?_append_right (by rw [List.length_map, hb]; omega), List.length_map, hb, show (k + 1) * 32 + j - 32 = k * 32 + j by omega]
    exact idsV_get ids k a j v (fun x hx => h x (by simp [hx])) hk hj
/-- A row of ids lies at A. -/
def IdRd (w : World) (A : Option Addr) (ids : List (List UInt8)) : Prop :=
  (∀ a ∈ ids, a.length = 32) ∧ (ids = [] ∨ ∃ g o, A = some ⟨g, o, none⟩ ∧ w.rangeAt g o (idsV ids))
theorem IdRd.nil_ (w : World) (A : Option Addr) : IdRd w A [] := ⟨by simp, .inl rfl⟩
theorem IdRd.len {w : World} {A : Option Addr} {ids : List (List UInt8)} (h : IdRd w A ids) {k : Nat} {a : List UInt8} (hk : ids[k]? = some a) : a.length = 32 := h.1 a (List.mem_of_getElem? hk)
theorem IdRd.at_ {w : World} {A : Option Addr} {ids : List (List UInt8)} (h : IdRd w A ids) {k : Nat} {a : List UInt8} (hk : ids[k]? = some a) :
    ∃ g o, A = some ⟨g, o, none⟩ ∧ w.rangeAt g (o + k * 32) (a.map u8v) := by
  obtain ⟨h1, rfl | ⟨g, o, rfl, h2⟩⟩ := h
  · simp at hk
  · refine ⟨g, o, rfl, fun j v hj => ?_⟩
    rw [Nat.add_assoc]
    exact h2 _ _ (idsV_get ids k a j v h1 hk hj)
theorem IdRd.below {w w' : World} {A : Option Addr} {ids : List (List UInt8)} (h : IdRd w A ids) (hb : Below w.heap.size w w') : IdRd w' A ids :=
  ⟨h.1, h.2.elim .inl fun ⟨g, o, e, hr⟩ => .inr ⟨g, o, e, hr.below hb⟩⟩
theorem IdRd.own {w : World} {base n : Nat} {e : TypeId} {v : Value} {ids : List (List UInt8)} (h : w.ownsRow base e 32 v n (idsV ids)) (h32 : ∀ a ∈ ids, a.length = 32) :
    ∃ A c, v = .slice A n c ∧ ids.length = n ∧ IdRd w A ids := by
  obtain ⟨hl, h⟩ := h
  rw [idsV_length ids h32] at hl
  have hn : ids.length = n := by omega
  rcases h with ⟨rfl, rfl⟩ | ⟨g, cap, cur, rfl, _, hb, hnc, _, hsz, htk⟩
  · exact ⟨none, 0, rfl, hn, h32, .inl (List.eq_nil_of_length_eq_zero hn)⟩
  · refine ⟨_, cap, rfl, hn, h32, .inr ⟨g, 0, rfl, fun j u hu => ?_⟩⟩
    rw [Nat.zero_add, cell_of_row w g j cur e (0, 0) hb]
    rw [← htk, List.getElem?_take] at hu
    split at hu
    · rwa [Array.getElem?_toList] at hu
    · cases hu

section
variable {H : Type} {enc : TypeId × Value → H} {P : Program} {w : World} {r : Reach} {base b0 : Nat} {sp : Nat → Bool} {hd : Bool}

theorem mapM_each {α β : Type} {f : α → Option β} : ∀ (L : List α) (ys : List β), L.mapM f = some ys → ∀ i ∈ L, ∃ y, f i = some y
  | [], _, _, i, hi => by simp at hi
  | x :: L, ys, h, i, hi => by
    rw [List.mapM_cons] at h
    simp only [bind, Option.bind_eq_some_iff, pure, Option.some.injEq] at h
    obtain ⟨y, hy, zs, hz, _⟩ := h
    rcases List.mem_cons.1 hi with rfl | hi
    · exact ⟨y, hy⟩
    · exact mapM_each L zs hz i hi
theorem all_u8 : ∀ (cs : List Value), (∀ i, i < cs.length → ∃ b, cs[i]? = some (u8v b)) → ∃ l : List UInt8, cs = l.map u8v
  | [], _ => ⟨[], rfl⟩
  | c :: cs, h => by
    obtain ⟨b, hb⟩ := h 0 (by simp)
    obtain ⟨l, rfl⟩ := all_u8 cs (fun i hi => by
      obtain ⟨x, hx⟩ := h (i + 1) (by simp; omega)
      exact ⟨x, by simpa using hx⟩)
    refine ⟨b :: l, ?_⟩
    simp at hb
    rw [hb]; rfl

theorem trod_id {t e : TypeId} {n : Nat} (ht : P.underlying t = some (.array n e)) (he : P.underlying e = some (.int .u8)) (hc : P.cellsOf e = 1) (hn : P.cellsOf t = n)
    {fuel : Nat} {cs : List Value} {x : DataW H × List MemPlace} (h : DataW.trod enc P w base sp hd fuel t cs = some x) : ∃ l : List UInt8, l.length = n ∧ cs = l.map u8v := by
  cases fuel with
  | zero => simp [DataW.trod] at h
  | succ m =>
    rw [DataW.trod_step] at h
    unfold DataW.trodStep at h
    simp only [ht, hn, hc] at h
    by_cases hl : cs.length = n
    · rw [if_pos hl] at h
      simp only [Option.map_eq_some_iff] at h
      obtain ⟨ys, hy, _⟩ := h
      obtain ⟨l, rfl⟩ := all_u8 cs (fun i hi => by
        obtain ⟨y, hy⟩ := mapM_each _ _ hy i (List.mem_range.2 (by omega))
        obtain ⟨a, ea, _, wa⟩ := DataW.trod_int he hy
        obtain ⟨h0, h1⟩ := bounds_u8 wa
        obtain ⟨b, rfl⟩ := ib_ex a h0 (by omega)
        refine ⟨b, ?_⟩
        have := congrArg (·[0]?) ea
        simpa [u8v, List.getElem?_take, List.getElem?_drop] using this)
      exact ⟨l, by simpa using hl, rfl⟩
    · rw [if_neg hl] at h; cases h

end
end Go.Proofs.Ytodfaakodgedbaa

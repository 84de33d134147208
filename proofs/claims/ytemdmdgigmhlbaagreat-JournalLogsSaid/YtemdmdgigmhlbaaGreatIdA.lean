/- Ids and rows of ids that come in. -/
import Derived.Test.YtemdmdgigmhlbaaGreatTag2
import Derived.Lib.Bytealg
import Derived.Laws.Externs
import Derived.Laws.IdiomStrings
namespace Go.Proofs.YtemdmdgigmhlbaaGreat
open Go.RowKit Go.Qc
open Go.ChangeShapes Go.WideShapes Go.ChangeAt

/-- The cells of a row of ids. -/
def idsV (ids : List (List UInt8)) : List Value := ids.flatMap (fun a => a.map u8v)
theorem idsV_cons (a : List UInt8) (ids : List (List UInt8)) : idsV (a :: ids) = a.map u8v ++ idsV ids := by simp [idsV]
theorem idsV_length : ∀ (ids : List (List UInt8)), (∀ a ∈ ids, a.length = 32) → (idsV ids).length = ids.length * 32
  | [], _ => rfl
  | a :: ids, h => by
    rw [idsV_cons, List.length_append, List.length_map, h a (by simp), idsV_length ids (fun x hx => h x (by simp [hx])), List.length_cons]
    omega
theorem idsV_get : ∀ (ids : List (List UInt8)) (k : Nat) (a : List UInt8) (j : Nat) (v : Value), (∀ a ∈ ids, a.length = 32) → ids[k]? = some a → (a.map u8v)[j]? = some v → (idsV ids)[k * 32 + j]? = some v
  | [], k, a, j, v, _, hk, _ => by simp at hk
  | b :: ids, 0, a, j, v, h, hk, hj => by
    simp at hk
    subst hk
    have hlt := (List.getElem?_eq_some_iff.1 hj).1
    rw [idsV_cons, Nat.zero_mul, Nat.zero_add, List.getElem?_append_left hlt]
    exact hj
  | b :: ids, k + 1, a, j, v, h, hk, hj => by
    have hb := h b (by simp)
    rw [List.getElem?_cons_succ] at hk
    rw [idsV_cons, List.getElem?_append_right (by rw [List.length_map, hb]; omega), List.length_map, hb, show (k + 1) * 32 + j - 32 = k * 32 + j by omega]
    exact idsV_get ids k a j v (fun x hx => h x (by simp [hx])) hk hj
/-- A row of ids lies at A. -/
def IdRd (w : World) (A : Option Addr) (ids : List (List UInt8)) : Prop :=
  (∀ a ∈ ids, a.length = 32) ∧ (ids = [] ∨ ∃ g o, A = some ⟨g, o, none⟩ ∧ w.rangeAt g o (idsV ids))
theorem IdRd.nil_ (w : World) (A : Option Addr) : IdRd w A [] := ⟨by simp, .inl rfl⟩
theorem IdRd.len {w : World} {A : Option Addr} {ids : List (List UInt8)} (h : IdRd w A ids) {k : Nat} {a : List UInt8} (hk : ids[k]? = some a) : a.length = 32 := h.1 a (List.mem_of_getElem? hk)
theorem IdRd.at_ {w : World} {A : Option Addr} {ids : List (List UInt8)} (h : IdRd w A ids) {k : Nat} {a : List UInt8} (hk : ids[k]? = some a) :
    ∃ g o, A = some ⟨g, o, none⟩ ∧ w.rangeAt g (o + k * 32) (a.map u8v) := by
  obtain ⟨h1, rfl | ⟨g, o, rfl, h2⟩⟩ := h
  · simp at hk
  · refine ⟨g, o, rfl, fun j v hj => ?_⟩
    rw [Nat.add_assoc]
    exact h2 _ _ (idsV_get ids k a j v h1 hk hj)
theorem IdRd.below {w w' : World} {A : Option Addr} {ids : List (List UInt8)} (h : IdRd w A ids) (hb : Below w.heap.size w w') : IdRd w' A ids :=
  ⟨h.1, h.2.elim .inl fun ⟨g, o, e, hr⟩ => .inr ⟨g, o, e, hr.below hb⟩⟩
theorem IdRd.own {w : World} {base n : Nat} {e : TypeId} {v : Value} {ids : List (List UInt8)} (h : w.ownsRow base e 32 v n (idsV ids)) (h32 : ∀ a ∈ ids, a.length = 32) :
    ∃ A c, v = .slice A n c ∧ ids.length = n ∧ IdRd w A ids := by
  obtain ⟨hl, h⟩ := h
  rw [idsV_length ids h32] at hl
  have hn : ids.length = n := by omega
  rcases h with ⟨rfl, rfl⟩ | ⟨g, cap, cur, rfl, _, hb, hnc, _, hsz, htk⟩
  · exact ⟨none, 0, rfl, hn, h32, .inl (List.eq_nil_of_length_eq_zero hn)⟩
  · refine ⟨_, cap, rfl, hn, h32, .inr ⟨g, 0, rfl, fun j u hu => ?_⟩⟩
    rw [Nat.zero_add, cell_of_row w g j cur e (0, 0) hb]
    rw [← htk, List.getElem?_take] at hu
    split at hu
    · rwa [Array.getElem?_toList] at hu
    · cases hu

section
variable {H : Type} {enc : TypeId × Value → H} {P : Program} {w : World} {r : Reach} {base b0 : Nat} {sp : Nat → Bool} {hd : Bool}

theorem mapM_each {α β : Type} {f : α → Option β} : ∀ (L : List α) (ys : List β), L.mapM f = some ys → ∀ i ∈ L, ∃ y, f i = some y
  | [], _, _, i, hi => by simp at hi
  | x :: L, ys, h, i, hi => by
    rw [List.mapM_cons] at h
    simp only [bind, Option.bind_eq_some_iff, pure, Option.some.injEq] at h
    obtain ⟨y, hy, zs, hz, _⟩ := h
    rcases List.mem_cons.1 hi with rfl | hi
    · exact ⟨y, hy⟩
    · exact mapM_each L zs hz i hi
end
end Go.Proofs.YtemdmdgigmhlbaaGreat
/- tag: two ids, rows of ids; the bytes of ids. -/
namespace Go.Proofs.YtemdmdgigmhlbaaGreat
open Go.RowKit Go.Qc
attribute [local go_sem] txt_size txt_append ib_fold

set_option maxRecDepth 100000 in
set_option maxHeartbeats 1000000 in
theorem rid_any (a : List UInt8) (ha : a.length = 32) (w : World) :
    Calls Tryz.prog 48 #[.agg (idVals a)] w fun e w' => e = .returned (.string (txt a)) ∧ Below w.heap.size w w' := by
  obtain ⟨i0, hi, hz0, hz1, hz2⟩ := info_parts infoByte
  go_enter Tryz.func48, Tryz.ntmps48
  go_wp2
  have hI := Blk.new w 42 (idVals a)
  have hB0 : Below w.heap.size w (w.alloc (.cells (idVals a) 42)) := (Below.refl _ _).alloc (Nat.le_refl _) _
  have hk1 : (w.alloc (.cells (idVals a) 42)).heap.size = w.heap.size + 1 := by simp
  generalize w.alloc (.cells (idVals a) 42) = w1 at *
  have HA := hid ha
  clear ha
  go_loopw [3, 4] (fun v i wr => ∃ k : Nat, k ≤ 32 ∧ i = .int .i64 k ∧ wr.ownsRow (w.heap.size + 1) 5 1 v k ((a.map u8v).take k) ∧ Below w1.heap.size w1 wr) (fun _ i _ => 32 - (intOf i).toNat)
  case atStart => exact ⟨0, by omega, rfl, ⟨rfl, .inr ⟨_, 0, #[], rfl, Nat.le_refl _, by have := heap_alloc_new w1 (.cells #[] 5); rw [hk1] at this; exact this, Nat.le_refl _, by decide, rfl, rfl⟩⟩, (Below.refl _ _).alloc (Nat.le_refl _) _⟩
  case round =>
    obtain ⟨k, hk, rfl, hown, hb⟩ := hrel
    have hsz := hb.size
    rw [hk1] at hsz
    by_cases hlt : k < 32
    · obtain ⟨x, hx⟩ : ∃ x, a[k]? = some x := ⟨_, List.getElem?_eq_getElem (by rw [HA.out]; exact hlt)⟩
      have hI2 := hI.below hb
      have hcell := hI2.cell_ (i := k) (u := .int .u8 (ib x)) (by unfold idVals; rw [List.getElem?_toArray, List.getElem?_map, hx]; rfl)
      have HT := hid (take_snoc (show (a.map u8v)[k]? = some (u8v x) by rw [List.getElem?_map, hx]; rfl))
      clear hx
      have b0 : (0 : Int) ≤ k := by omega
      have b1 : (k : Int) < 32 := by omega
      go_wp2_with (at_builtin; refine wpList_append_new rfl _ _ 56 rfl (w.heap.size + 1) 5 i0 (.int .u8 0) 1 Tryz.underlying56 hi hz0 hz1 hz2 rfl _ _ _ rfl hown 1 _ rfl rfl ?c2 ?c3 ?c4 hsz ?_)
      case c2 => simp [Value.oneCell']
      case c3 => unfold maxLen; omega
      case c4 => omega
      intro v' w' hown' hb'
      go_wp2
      go_roundw
      case rel => exact ⟨k + 1, by omega, by go_num, by rw [HT.out]; exact hown', hb.trans (by rw [hk1]; exact hb')⟩
      case measure => simp [intOf]; omega
    · obtain rfl : k = 32 := by omega
      rw [List.take_of_length_le (by rw [List.length_map, HA.out]; exact Nat.le_refl _)] at hown
      obtain ⟨hl2, A2, c2, rfl, hrd2⟩ := Rd.own hown
      have hconv := run_txt (P := Tryz.prog) wr 56 9 5 A2 32 c2 _ Tryz.underlying56 Tryz.underlying5 Tryz.underlying9 (by simpa using hl2.symm) hrd2
      go_wp2
      go_ret
      exact ⟨rfl, hB0.trans (hb.mono hB0.size)⟩

/-! ### strings.Builder.Write of bytes that lie anywhere -/
theorem textB_ids (nm : List UInt8) (hnm : nm.length ≤ 255) (ps : List (List UInt8)) (h : (ps.map List.length).sum + 8 * ps.length ≤ 100000) : (textB nm ps).length ≤ 1000000000000 := by
  have hb : ∀ (qs : List (List UInt8)), (qs.flatMap partB).length = (qs.map List.length).sum + 8 * qs.length := by
    intro qs
    induction qs with
    | nil => rfl
    | cons q qs ih => rw [List.flatMap_cons, List.length_append, partB_length, ih, List.map_cons, List.sum_cons, List.length_cons]; omega
  simp only [textB, List.length_append, List.length_cons, List.length_nil, hb]
  omega
end Go.Proofs.YtemdmdgigmhlbaaGreat
/- id: order, digits, hexadecimal digits, parsing. -/
set_option linter.unusedSimpArgs false
set_option linter.unusedVariables false
namespace Go.Proofs.YtemdmdgigmhlbaaGreat
open Go.RowKit Go.Qc
attribute [local go_sem] txt_size txt_append ib_fold

/-- The world behind two boxed ids. -/
def two (w : World) (a b : List UInt8) : World := (w.alloc (.cells (idVals a) 42)).alloc (.cells (idVals b) 42)
end Go.Proofs.YtemdmdgigmhlbaaGreat

namespace Go.Proofs.YtemdmdgigmhlbaaGreat
open Go.RowKit Go.Qc
attribute [local go_sem] txt_size txt_append ib_fold ib_inj

theorem cmp_refl : ∀ (a : List UInt8), Lib.compareBytes a a = 0
  | [] => rfl
  | x :: a => by rw [Lib.compareBytes, if_neg (UInt8.lt_irrefl x), if_neg (UInt8.lt_irrefl x)]; exact cmp_refl a
/-! ### digits -/
/-! ### an id's text -/
end Go.Proofs.YtemdmdgigmhlbaaGreat

namespace Go.Proofs.YtemdmdgigmhlbaaGreat
open Go.RowKit Go.Qc
attribute [local go_sem] txt_size txt_append ib_fold ib_i64

/-! ### a text's id -/
theorem run_index_txt (l : List UInt8) (n : Nat) (x : UInt8) (hx : l[n]? = some x) (z : Int) (hz : z = n) (w : World) : (Instr.index 9 (.string (txt l)) (.int .i64 z)).run Tryz.prog w = .ok (.int .u8 (ib x)) w := by
  subst hz
  have hn : n < l.length := (List.getElem?_eq_some_iff.1 hx).1
  have h1 : (0 : Int) ≤ (n : Int) ∧ (n : Int) < ((txt l).size : Nat) := by rw [txt_size]; omega
  have hg : (txt l)[n]? = some x := by
    rw [getElem?_pos (txt l) n (by rw [txt_size]; exact hn)]
    congr 1
    exact txt_get rfl hx _
  simp [Instr.index, asIntOf, run_underlying Tryz.underlying9, h1, hg]
  rfl
end Go.Proofs.YtemdmdgigmhlbaaGreat

namespace Go.Proofs.YtemdmdgigmhlbaaGreat
open Go.RowKit Go.Qc
attribute [local go_sem] txt_size txt_append ib_fold ib_i64 ib_shr ib_and1

/-! ### Parse of Hex is the id -/
/-! ### Bytes -/
/-! ### Bit -/
end Go.Proofs.YtemdmdgigmhlbaaGreat

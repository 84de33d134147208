
/- The contract of the document's block. -/
import Derived.Test.YthpdkdalfjahcaaSha8
import Derived.Test.YthpdkdalfjahcaaKit3
namespace Go.Proofs.Ythpdkdalfjahcaa
open Go.RowKit Go.Qc
attribute [local go_sem] iv_add iv_and iv_or iv_xor iv_not iv_bnot iv_shl iv_shr iv_inj iv_div3 iv_div10

def up32 (x : BitVec 32) : BitVec 64 := BitVec.ofNat 64 x.toNat
theorem up32_lo (x : BitVec 32) : IntKind.u32.wrap (lv (up32 x)) = iv x := by
  have := x.isLt
  unfold lv iv up32; rw [IntKind.wrap_u32', BitVec.toNat_ofNat]; omega
theorem valB_word (x : BitVec 32) : valB (wordB x) 0#64 = up32 x := by
  have hx := x.isLt
  unfold valB wordB
  simp only [List.foldl_cons, List.foldl_nil, shl8_or]
  apply BitVec.eq_of_toNat_eq
  unfold up64 loB up32
  simp only [BitVec.toNat_add, BitVec.toNat_mul, BitVec.toNat_ofNat, UInt8.toNat_ofNat', BitVec.toNat_ushiftRight, Nat.shiftRight_eq_div_pow]
  omega
theorem word_cut (m : List (BitVec 32)) (k : Nat) (x : BitVec 32) (hx : m[k]? = some x) : (txt (wordsB m)).extract (4 * k) (4 * k + 4) = txt (wordB x) := by
  rw [txt_extract]
  congr 1
  apply List.ext_getElem?
  intro j
  rw [List.getElem?_take, List.getElem?_drop]
  by_cases hj : j < 4
  · rw [if_pos (by omega), wordsB_get m k j x hx hj, wordB_get x j hj]
  · rw [if_neg (by omega), List.getElem?_eq_none (show (wordB x).length ≤ j by simp [wordB]; omega)]

attribute [local go_sem] up32_lo

theorem list_add (s t : S8) (k : Nat) (hk : k < 8) : ∃ x y, (s.list.map u32v)[k]? = some (u32v x) ∧ (t.list.map u32v)[k]? = some (u32v y) ∧ (s.add t).list[k]? = some (x + y) := by
  match k, hk with
  | 0, _ => exact ⟨_, _, rfl, rfl, rfl⟩
  | 1, _ => exact ⟨_, _, rfl, rfl, rfl⟩
  | 2, _ => exact ⟨_, _, rfl, rfl, rfl⟩
  | 3, _ => exact ⟨_, _, rfl, rfl, rfl⟩
  | 4, _ => exact ⟨_, _, rfl, rfl, rfl⟩
  | 5, _ => exact ⟨_, _, rfl, rfl, rfl⟩
  | 6, _ => exact ⟨_, _, rfl, rfl, rfl⟩
  | 7, _ => exact ⟨_, _, rfl, rfl, rfl⟩
theorem quiet_more_d {P : Program} {f : FuncId} {args : Array Value} {w : World} {a n : Nat} {v : Value} (h : Calls P f args (w.drewN (a + n)) fun e w' => e = .returned v ∧ ∃ k, w' = (w.drewN (a + n)).drewN k) :
    Calls P f args (w.drewN (a + n)) fun e w'' => e = .returned v ∧ ∃ m, w'' = w.drewN (a + m) :=
  h.mono fun _ _ ⟨he, k, hw⟩ => ⟨he, n + k, by rw [hw, World.drewN_drewN, Nat.add_assoc]⟩
theorem rnds_or (s : S8) (w : List (BitVec 32)) (n : Nat) : rnds s w (n + 1) =
    ⟨(rnds s w n).h + (rotr (rnds s w n).e 6 ^^^ rotr (rnds s w n).e 11 ^^^ rotr (rnds s w n).e 25) + ((rnds s w n).e &&& (rnds s w n).f ||| ~~~(rnds s w n).e &&& (rnds s w n).g) + kList.getD n 0#32 + w.getD n 0#32 +
      ((rotr (rnds s w n).a 2 ^^^ rotr (rnds s w n).a 13 ^^^ rotr (rnds s w n).a 22) + ((rnds s w n).a &&& (rnds s w n).b ||| (rnds s w n).a &&& (rnds s w n).c ||| (rnds s w n).b &&& (rnds s w n).c)), (rnds s w n).a, (rnds s w n).b, (rnds s w n).c,
      (rnds s w n).d + ((rnds s w n).h + (rotr (rnds s w n).e 6 ^^^ rotr (rnds s w n).e 11 ^^^ rotr (rnds s w n).e 25) + ((rnds s w n).e &&& (rnds s w n).f ||| ~~~(rnds s w n).e &&& (rnds s w n).g) + kList.getD n 0#32 + w.getD n 0#32), (rnds s w n).e, (rnds s w n).f, (rnds s w n).g⟩ := by
  rw [ch_or, maj_or]; rfl
theorem rd_at0 {w : World} {g : Nat} {xs : List Value} (h : Rd w (some ⟨g, 0, none⟩) xs) (j : Nat) (u : Value) (hu : xs[j]? = some u) : w.cell? ⟨g, j, none⟩ = some u := by
  rcases h with rfl | ⟨ad, e, hc⟩
  · simp at hu
  · obtain rfl := Option.some.inj e
    have := hc j u hu
    rwa [add_lit0] at this
theorem rd_some {w : World} {A : Option Addr} {xs : List Value} (h : Rd w A xs) (j : Nat) (u : Value) (hu : xs[j]? = some u) : ∃ ad, A = some ad ∧ w.cell? (ad.add j) = some u := by
  rcases h with rfl | ⟨ad, e, hc⟩
  · simp at hu
  · exact ⟨ad, e, hc j u hu⟩
theorem grow_at (m : List (BitVec 32)) (hm : m.length = 16) (n : Nat) (h : n < 64) : ((grow m 48).map u32v)[n]? = some (u32v ((grow m 48).getD n 0#32)) := by
  have hl : n < (grow m 48).length := by rw [grow_length]; omega
  rw [List.getElem?_map, List.getD_eq_getElem?_getD, List.getElem?_eq_getElem hl]; rfl
theorem kList_at (n : Nat) (h : n < 64) : (kList.map u32v)[n]? = some (u32v (kList.getD n 0#32)) := by
  have hl : n < kList.length := h
  rw [List.getElem?_map, List.getD_eq_getElem?_getD, List.getElem?_eq_getElem hl]; rfl

end Go.Proofs.Ythpdkdalfjahcaa

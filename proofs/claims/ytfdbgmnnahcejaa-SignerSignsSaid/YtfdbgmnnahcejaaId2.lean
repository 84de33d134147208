
/- Which of two ids is ahead, by the program and by the document. -/
import Derived.Test.YtfdbgmnnahcejaaId1
namespace Go.Proofs.Ytfdbgmnnahcejaa
open Go.RowKit Go.Qc
attribute [local go_sem] txt_size txt_append ib_fold ib_inj

def ltB (a b : List UInt8) : Bool := decide (Lib.compareBytes a b < 0)
theorem cmp_refl : ∀ (a : List UInt8), Lib.compareBytes a a = 0
  | [] => rfl
  | x :: a => by rw [Lib.compareBytes, if_neg (UInt8.lt_irrefl x), if_neg (UInt8.lt_irrefl x)]; exact cmp_refl a
theorem cmp_at : ∀ (a b : List UInt8) (k : Nat) (x y : UInt8), a.take k = b.take k → a[k]? = some x → b[k]? = some y → x ≠ y → Lib.compareBytes a b = if x < y then -1 else 1
  | [], _, k, x, y, _, h, _, _ => by simp at h
  | _ :: _, [], k, x, y, _, _, h, _ => by simp at h
  | u :: a, v :: b, 0, x, y, _, hx, hy, hne => by
    simp at hx hy
    subst hx hy
    rw [Lib.compareBytes]
    by_cases h : u < v
    · rw [if_pos h, if_pos h]
    · have h2 : v < u := by
        rcases UInt8.lt_or_lt_of_ne hne with h3 | h3
        · exact absurd h3 h
        · exact h3
      rw [if_neg h, if_neg h, if_pos h2]
  | u :: a, v :: b, k + 1, x, y, ht, hx, hy, hne => by
    simp only [List.take_succ_cons, List.cons.injEq] at ht
    obtain ⟨rfl, ht⟩ := ht
    rw [Lib.compareBytes, if_neg (UInt8.lt_irrefl u), if_neg (UInt8.lt_irrefl u)]
    exact cmp_at a b k x y ht (by simpa using hx) (by simpa using hy) hne
theorem ltB_at (a b : List UInt8) (k : Nat) (x y : UInt8) (ht : a.take k = b.take k) (hx : a[k]? = some x) (hy : b[k]? = some y) (hne : x ≠ y) : ltB a b = decide (ib x < ib y) := by
  rw [ltB, cmp_at a b k x y ht hx hy hne]
  have e : (x < y) ↔ ib x < ib y := by unfold ib; rw [UInt8.lt_iff_toNat_lt]; omega
  by_cases h : x < y
  · rw [if_pos h, decide_eq_true (e.1 h)]; rfl
  · rw [if_neg h, decide_eq_false (fun h2 => h (e.2 h2))]; rfl
theorem ltB_refl (a : List UInt8) : ltB a a = false := by rw [ltB, cmp_refl]; rfl

set_option maxRecDepth 100000 in
theorem rless_any (a b : List UInt8) (ha : a.length = 32) (hb : b.length = 32) (w : World) :
    Calls Try.prog 20 #[.agg (idVals a), .agg (idVals b)] w fun e w' => e = .returned (.bool (ltB a b)) ∧ Below w.heap.size w w' := by
  have hA := (Blk.new w 24 (idVals a)).alloc (.cells (idVals b) 24)
  have hB := Blk.new (w.alloc (.cells (idVals a) 24)) 24 (idVals b)
  have hk : (w.alloc (.cells (idVals a) 24)).heap.size = w.heap.size + 1 := by simp
  rw [hk] at hB
  have hT : Below w.heap.size w ((w.alloc (.cells (idVals a) 24)).alloc (.cells (idVals b) 24)) := two_below w a b
  have HA := hid ha
  have HB := hid hb
  clear ha hb hk
  go_enter Try.func20, Try.ntmps20
  go_wp2
  generalize (w.alloc (.cells (idVals a) 24)).alloc (.cells (idVals b) 24) = W at *
  go_loopw [5] (fun i wr => ∃ k q : Nat, k ≤ 32 ∧ i = .int .i64 k ∧ a.take k = b.take k ∧ wr = W.drewN q) (fun i _ => 32 - (intOf i).toNat)
  case atStart => exact ⟨0, 0, by omega, rfl, rfl, rfl⟩
  case round =>
    obtain ⟨k, q, hk, rfl, ht, rfl⟩ := hrel
    by_cases hlt : k < 32
    · obtain ⟨x, hx⟩ : ∃ x, a[k]? = some x := ⟨_, List.getElem?_eq_getElem (by rw [HA.out]; exact hlt)⟩
      obtain ⟨y, hy⟩ : ∃ y, b[k]? = some y := ⟨_, List.getElem?_eq_getElem (by rw [HB.out]; exact hlt)⟩
      have hca : (W.drewN q).cell? ⟨w.heap.size, k, none⟩ = some (.int .u8 (ib x)) := hA.cell_ (i := k) (u := .int .u8 (ib x)) (by unfold idVals; rw [List.getElem?_toArray, List.getElem?_map, hx]; rfl)
      have hcb : (W.drewN q).cell? ⟨w.heap.size + 1, k, none⟩ = some (.int .u8 (ib y)) := hB.cell_ (i := k) (u := .int .u8 (ib y)) (by unfold idVals; rw [List.getElem?_toArray, List.getElem?_map, hy]; rfl)
      have b0 : (0 : Int) ≤ k := by omega
      have b1 : (k : Int) < 32 := by omega
      have HX := hid hx
      have HY := hid hy
      have HT := hid ht
      clear hx hy ht hA hB
      generalize hV : W.drewN q = V at *
      have HV := hid hV
      clear hV
      by_cases hne : x = y
      · subst hne
        go_wp2
        go_quiet (fail)
        go_wp2
        go_roundw
        case rel => exact ⟨k + 1, q + nq, hlt, by go_num, by rw [take_snoc HX.out, take_snoc HY.out, HT.out], by rw [← HV.out, World.drewN_drewN]⟩
        case measure => simp [intOf]; omega
      · have hbne : (ib x != ib y) = true := by simp only [bne_iff_ne, ne_eq, ib_inj]; exact hne
        go_wp2
        go_quiet (fail)
        go_wp2
        go_quiet (fail)
        go_wp2
        go_ret
        refine ⟨?_, ?_⟩
        · rw [ltB_at a b k x y HT.out HX.out HY.out hne]; rfl
        · rw [← HV.out]; exact below_drewN (below_drewN (below_drewN hT _) _) _
    · obtain rfl : k = 32 := by omega
      rw [List.take_of_length_le (by rw [HA.out]; exact Nat.le_refl _), List.take_of_length_le (by rw [HB.out]; exact Nat.le_refl _)] at ht
      subst ht
      clear hA hB
      generalize hV : W.drewN q = V at *
      have HV := hid hV
      clear hV
      go_wp2
      go_ret
      refine ⟨by rw [ltB_refl]; rfl, ?_⟩
      rw [← HV.out]; exact below_drewN hT _

/-! ### digits -/
def digV (c : UInt8) : Int := if 48 ≤ ib c ∧ ib c ≤ 57 then ib c - 48 else if 97 ≤ ib c ∧ ib c ≤ 102 then ib c - 87 else -1
/-! ### an id's text -/
def hexT : List UInt8 := [48, 49, 50, 51, 52, 53, 54, 55, 56, 57, 97, 98, 99, 100, 101, 102]
def hexD (n : Nat) : UInt8 := hexT.getD n 0
def hexB (a : List UInt8) : List UInt8 := a.flatMap fun x => [hexD (x.toNat / 16), hexD (x.toNat % 16)]
theorem hexB_snoc (a : List UInt8) (x : UInt8) : hexB (a ++ [x]) = hexB a ++ [hexD (x.toNat / 16), hexD (x.toNat % 16)] := by simp [hexB]
theorem hexB_length (a : List UInt8) : (hexB a).length = 2 * a.length := by
  induction a with
  | nil => rfl
  | cons x a ih => rw [hexB, List.flatMap_cons, List.length_append]; simp only [hexB] at ih; rw [ih]; simp; omega
theorem run_index_hex (n : Nat) (h : n < 16) (w : World) : (Instr.index 9 (.string ⟨#[48, 49, 50, 51, 52, 53, 54, 55, 56, 57, 97, 98, 99, 100, 101, 102]⟩) (.int .u8 (n : Int))).run Try.prog w = .ok (.int .u8 (ib (hexD n))) w := by
  have h1 : (0 : Int) ≤ (n : Int) ∧ (n : Int) < 16 := by omega
  have hg : (⟨#[48, 49, 50, 51, 52, 53, 54, 55, 56, 57, 97, 98, 99, 100, 101, 102]⟩ : ByteArray)[n]? = some (hexD n) := by
    match n, h with
    | 0, _ => rfl
    | 1, _ => rfl
    | 2, _ => rfl
    | 3, _ => rfl
    | 4, _ => rfl
    | 5, _ => rfl
    | 6, _ => rfl
    | 7, _ => rfl
    | 8, _ => rfl
    | 9, _ => rfl
    | 10, _ => rfl
    | 11, _ => rfl
    | 12, _ => rfl
    | 13, _ => rfl
    | 14, _ => rfl
    | 15, _ => rfl
  simp [Instr.index, asIntOf, run_underlying Try.underlying9, h1, hg]
  rfl
theorem shr4 (x : UInt8) : ib x / 16 = ((x.toNat / 16 : Nat) : Int) := by unfold ib; omega
theorem and15 (x : UInt8) : bits .and .u8 (ib x) 15 = ((x.toNat % 16 : Nat) : Int) := by
  have h := u8_and_nat x.toNat 15 x.toNat_lt (by decide)
  unfold ib
  rw [show (15 : Int) = ((15 : Nat) : Int) from rfl, h]
  congr 1
  exact Nat.and_two_pow_sub_one_eq_mod x.toNat 4
end Go.Proofs.Ytfdbgmnnahcejaa

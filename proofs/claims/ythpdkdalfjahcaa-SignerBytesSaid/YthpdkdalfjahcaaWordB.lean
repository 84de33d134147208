
/- The document's turning, bit by bit: its contracts, and that it is the turning of package word. -/
import Derived.Test.YthpdkdalfjahcaaWord
namespace Go.Proofs.Ythpdkdalfjahcaa
open Go.RowKit Go.Qc
attribute [local go_sem] iv_add iv_and iv_or iv_xor iv_shl iv_shr iv_inj iv_i64 iv_mod2

theorem infoInt : (Try.prog.info? 3).map (fun i => (i.zero, i.size, i.bytes)) = some (some (.int .i64 0), 1, 8) := by kernel_rfl

/-- The bits of a word, the highest first. -/
def bitW (x : BitVec 32) (j : Nat) : BitVec 32 := (x >>> j) &&& 1#32
theorem bitW_bit (x : BitVec 32) (j i : Nat) : (bitW x j).getLsbD i = (decide (i = 0) && x.getLsbD j) := by
  unfold bitW
  rw [BitVec.getLsbD_and, BitVec.getLsbD_ushiftRight]
  by_cases h : i = 0
  · subst h; simp
  · have : (1#32).getLsbD i = false := by simp [h]
    rw [this]; simp [h]

/-- Bits put together, the highest first. -/
def horner (f : Nat → BitVec 32) : Nat → BitVec 32
  | 0 => 0#32
  | k + 1 => 2#32 * horner f k + f k

theorem two_mul_add_bit (a b : BitVec 32) (hb : ∀ i, 0 < i → b.getLsbD i = false) (i : Nat) (hi : i < 32) :
    (2#32 * a + b).getLsbD i = if i = 0 then b.getLsbD 0 else a.getLsbD (i - 1) := by
  have h2 : 2#32 * a = a <<< 1 := by
    apply BitVec.eq_of_toNat_eq
    rw [BitVec.toNat_mul, BitVec.toNat_shiftLeft, Nat.shiftLeft_eq]
    show 2 * a.toNat % 2 ^ 32 = _
    omega
  have hz : (a <<< 1) &&& b = 0#32 := by
    apply BitVec.eq_of_getLsbD_eq
    intro j hj
    rw [BitVec.getLsbD_and, BitVec.getLsbD_shiftLeft]
    by_cases h : j = 0
    · subst h; simp
    · rw [hb j (by omega)]; simp
  rw [h2, BitVec.add_eq_or_of_and_eq_zero _ _ hz, BitVec.getLsbD_or, BitVec.getLsbD_shiftLeft]
  by_cases h : i = 0
  · subst h; simp
  · rw [hb i (by omega)]; simp [h, hi]

theorem horner_bit (f : Nat → BitVec 32) (hf : ∀ j i, 0 < i → (f j).getLsbD i = false) (k i : Nat) (hk : k ≤ 32) (hi : i < k) :
    (horner f k).getLsbD i = (f (k - 1 - i)).getLsbD 0 := by
  induction k generalizing i with
  | zero => omega
  | succ k ih =>
    rw [horner, two_mul_add_bit _ _ (hf k) i (by omega)]
    by_cases h : i = 0
    · subst h; simp
    · rw [if_neg h, ih (i - 1) (by omega) (by omega)]
      congr 2
      omega

theorem horner_rotl (x : BitVec 32) (n : Nat) (hn : n < 32) : horner (fun i => bitW x (31 - (i + n) % 32)) 32 = rotl x n := by
  apply BitVec.eq_of_getLsbD_eq
  intro i hi
  rw [horner_bit _ (fun j i h => by rw [bitW_bit]; simp; omega) 32 i (by omega) hi, bitW_bit, rotl_bit _ _ _ hn hi]
  simp only [decide_true, Bool.true_and]
  congr 1
  split <;> omega

def bitVs (x : BitVec 32) (k : Nat) : List Value := (List.range k).map fun j => .int .i64 (iv (bitW x (31 - j)))
theorem bitVs_succ (x : BitVec 32) (k : Nat) : bitVs x (k + 1) = bitVs x k ++ [.int .i64 (iv (bitW x (31 - k)))] := by
  unfold bitVs; rw [List.range_succ, List.map_append]; rfl

theorem bitVs_get (x : BitVec 32) (n k : Nat) (h : k < n) : (bitVs x n)[k]? = some (.int .i64 (iv (bitW x (31 - k)))) := by
  unfold bitVs; simp [h]

theorem toWord (x : BitVec 32) : IntKind.u32.wrap (iv x) = iv x := by
  have := iv_lo x; have := iv_hi x; rw [IntKind.wrap_u32']; omega
theorem two_iv (x : BitVec 32) : IntKind.u32.wrap (2 * iv x) = iv (2#32 * x) := by
  unfold iv; rw [IntKind.wrap_u32', BitVec.toNat_mul]
  show _ = (((2 * x.toNat) % 2 ^ 32 : Nat) : Int)
  omega
attribute [local go_sem] toWord two_iv

def turnVs (x : BitVec 32) (n k : Nat) : List Value := (List.range k).map fun j => .int .i64 (iv (bitW x (31 - (j + n) % 32)))
theorem turnVs_succ (x : BitVec 32) (n k : Nat) : turnVs x n (k + 1) = turnVs x n k ++ [.int .i64 (iv (bitW x (31 - (k + n) % 32)))] := by
  unfold turnVs; rw [List.range_succ, List.map_append]; rfl
theorem turnVs_get (x : BitVec 32) (m n k : Nat) (h : k < n) : (turnVs x m n)[k]? = some (.int .i64 (iv (bitW x (31 - (k + m) % 32)))) := by
  unfold turnVs; simp [h]

/-! ### the chapter's examples -/
end Go.Proofs.Ythpdkdalfjahcaa

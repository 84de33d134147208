
/- The plain mathematics of layer 1, and the contracts of the calls of package word and of the document's answers for it. -/
import Derived.Test.YthpdkdalfjahcaaRows
import Derived.Test.YthpdkdalfjahcaaKit
namespace Go.Proofs.Ythpdkdalfjahcaa
open Go.RowKit Go.Qc
attribute [local go_sem] iv_add iv_and iv_or iv_xor iv_shl iv_shr iv_inj iv_i64 iv_mod2

/-! ### turning -/
def rotl (x : BitVec 32) (s : Nat) : BitVec 32 := x <<< s ||| x >>> (32 - s)

theorem rotl_bit (x : BitVec 32) (s i : Nat) (hs : s < 32) (hi : i < 32) : (rotl x s).getLsbD i = x.getLsbD (if i < s then 32 - s + i else i - s) := by
  unfold rotl
  rw [BitVec.getLsbD_or, BitVec.getLsbD_shiftLeft, BitVec.getLsbD_ushiftRight]
  by_cases h : i < s
  · simp [h]
  · have : x.getLsbD (32 - s + i) = false := BitVec.getLsbD_of_ge _ _ (by omega)
    simp [h, hi, this]

theorem rotl_back (x : BitVec 32) (s t : Nat) (hs : s < 32) (ht : t < 32) (h : (s + t) % 32 = 0) : rotl (rotl x s) t = x := by
  apply BitVec.eq_of_getLsbD_eq
  intro i hi
  rw [rotl_bit _ _ _ ht hi, rotl_bit _ _ _ hs (by split <;> omega)]
  congr 1
  split <;> split <;> omega

theorem u64mask (k : Int) : bits .and .u64 (IntKind.u64.wrap k) 31 = k % 32 := by
  rw [IntKind.wrap_u64]
  have h := u64_and (k % 18446744073709551616) 31 (by omega) (by omega) (by omega) (by omega)
  rw [h]
  have : (31:Int).toNat = 31 := rfl
  rw [this, nat_mask5]
  omega

set_option maxHeartbeats 400000 in
theorem rot_any (x : BitVec 32) (k : Int) (w : World) :
    Calls Try.prog 208 #[.int .u32 (iv x), .int .i64 k] w fun e w' => e = .returned (.int .u32 (iv (rotl x (k % 32).toNat))) ∧ w = w' := by
  have hk := u64mask k
  have h1 : 0 ≤ k % 32 := by omega
  have h2 : k % 32 < 32 := by omega
  have h3 : 0 ≤ 32 - k % 32 := by omega
  have h4 : IntKind.u64.wrap (32 - k % 32) = 32 - k % 32 := by rw [IntKind.wrap_u64]; omega
  have e : (32 - k % 32).toNat = 32 - (k % 32).toNat := by omega
  have E : x <<< (k % 32).toNat ||| x >>> (32 - k % 32).toNat = rotl x (k % 32).toNat := by unfold rotl; rw [e]
  have HE := hid E
  clear E e
  go_enter Try.func208, Try.ntmps208
  go_wp2
  go_ret
  rw [← HE.out]
  exact ⟨rfl, rfl⟩

set_option maxHeartbeats 400000 in
theorem right_any (x : BitVec 32) (k : Int) (w : World) :
    Calls Try.prog 202 #[.int .u32 (iv x), .int .i64 k] w fun e w' => e = .returned (.int .u32 (iv (rotl x ((-k) % 32).toNat))) ∧ w = w' := by
  have E : (wrap64 (-k)) % 32 = (-k) % 32 := by unfold wrap64; omega
  have HE := hid E
  clear E
  go_enter Try.func202, Try.ntmps202
  go_wp2_with (go_at_call 208; refine (rot_any _ _ _).mono ?_; rintro e w' ⟨rfl, rfl⟩)
  go_ret
  rw [← HE.out]
  exact ⟨rfl, rfl⟩

end Go.Proofs.Ythpdkdalfjahcaa

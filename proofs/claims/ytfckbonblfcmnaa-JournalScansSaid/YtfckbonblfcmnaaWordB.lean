/- The plain mathematics of layer 1, and the contracts of the calls of package word and of the document's answers for it. -/
import Derived.Test.YtfckbonblfcmnaaRows
import Derived.Test.YtfckbonblfcmnaaKit
namespace Go.Proofs.Ytfckbonblfcmnaa
open Go.RowKit Go.Qc
attribute [local go_sem] iv_add iv_and iv_or iv_xor iv_shl iv_shr iv_inj iv_i64 iv_mod2

/-! ### turning -/
def rotl (x : BitVec 32) (s : Nat) : BitVec 32 := x <<< s ||| x >>> (32 - s)

theorem u64mask (k : Int) : bits .and .u64 (IntKind.u64.wrap k) 31 = k % 32 := by
  rw [IntKind.wrap_u64]
  have h := u64_and (k % 18446744073709551616) 31 (by omega) (by omega) (by omega) (by omega)
  rw [h]
  have : (31:Int).toNat = 31 := rfl
  rw [this, nat_mask5]
  omega

set_option maxHeartbeats 400000 in
theorem rot_any (x : BitVec 32) (k : Int) (w : World) :
    Calls Try.prog 83 #[.int .u32 (iv x), .int .i64 k] w fun e w' => e = .returned (.int .u32 (iv (rotl x (k % 32).toNat))) ∧ w = w' := by
  have hk := u64mask k
  have h1 : 0 ≤ k % 32 := by omega
  have h2 : k % 32 < 32 := by omega
  have h3 : 0 ≤ 32 - k % 32 := by omega
  have h4 : IntKind.u64.wrap (32 - k % 32) = 32 - k % 32 := by rw [IntKind.wrap_u64]; omega
  have e : (32 - k % 32).toNat = 32 - (k % 32).toNat := by omega
  have E : x <<< (k % 32).toNat ||| x >>> (32 - k % 32).toNat = rotl x (k % 32).toNat := by unfold rotl; rw [e]
  have HE := hid E
  clear E e
  go_enter Try.func83, Try.ntmps83
  go_wp2
  go_ret
  rw [← HE.out]
  exact ⟨rfl, rfl⟩

set_option maxHeartbeats 400000 in
theorem right_any (x : BitVec 32) (k : Int) (w : World) :
    Calls Try.prog 81 #[.int .u32 (iv x), .int .i64 k] w fun e w' => e = .returned (.int .u32 (iv (rotl x ((-k) % 32).toNat))) ∧ w = w' := by
  have E : (wrap64 (-k)) % 32 = (-k) % 32 := by unfold wrap64; omega
  have HE := hid E
  clear E
  go_enter Try.func81, Try.ntmps81
  go_wp2_with (go_at_call 83; refine (rot_any _ _ _).mono ?_; rintro e w' ⟨rfl, rfl⟩)
  go_ret
  rw [← HE.out]
  exact ⟨rfl, rfl⟩

end Go.Proofs.Ytfckbonblfcmnaa
/- The document's turning, bit by bit: its contracts, and that it is the turning of package word. -/
namespace Go.Proofs.Ytfckbonblfcmnaa
open Go.RowKit Go.Qc
attribute [local go_sem] iv_add iv_and iv_or iv_xor iv_shl iv_shr iv_inj iv_i64 iv_mod2

theorem toWord (x : BitVec 32) : IntKind.u32.wrap (iv x) = iv x := by
  have := iv_lo x; have := iv_hi x; rw [IntKind.wrap_u32']; omega
theorem two_iv (x : BitVec 32) : IntKind.u32.wrap (2 * iv x) = iv (2#32 * x) := by
  unfold iv; rw [IntKind.wrap_u32', BitVec.toNat_mul]
  show _ = (((2 * x.toNat) % 2 ^ 32 : Nat) : Int)
  omega
attribute [local go_sem] toWord two_iv

/-! ### the chapter's examples -/
end Go.Proofs.Ytfckbonblfcmnaa

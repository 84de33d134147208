
/- The contracts of package sha's inner calls: its table, its words, a block. -/
import Derived.Test.YtkbokffonnjjiaaShaM
namespace Go.Proofs.Ytkbokffonnjjiaa
open Go.RowKit Go.Qc
attribute [local go_sem] iv_add iv_and iv_or iv_xor iv_not iv_shl iv_shr iv_inj

theorem size64w : (Try.prog.info? 191).map (·.size) = some 64 := by kernel_rfl
theorem size8w : (Try.prog.info? 174).map (·.size) = some 8 := by kernel_rfl
theorem sizeW : (Try.prog.info? 151).map (·.size) = some 1 := by kernel_rfl
theorem u32v_one (l : List (BitVec 32)) : ∀ v ∈ l.map u32v, v.oneCell' = true := by
  intro v hv
  obtain ⟨x, _, rfl⟩ := List.mem_map.1 hv; rfl

set_option maxRecDepth 100000 in
set_option maxHeartbeats 400000 in
theorem constants_any (w : World) :
    Calls Try.prog 142 #[] w fun e w' => e = .returned (.agg (kList.map u32v).toArray) ∧ Below w.heap.size w w' := by
  go_enter Try.func142, Try.ntmps142
  go_wp2_with (with_reducible refine wpList_store_new rfl 191 _ _ rfl _ rfl rfl ?c1 ?c2 ?c3 ?_)
  case c1 => exact size64w
  case c2 => rfl
  case c3 => decide +kernel
  go_wp2
  refine bodyPost_ret (results_cell_row rfl _ _ _ _ _ _ _ rfl (heap_alloc_new w _) Try.underlying191 rfl size64w) rfl ⟨?_, (Below.refl _ _).alloc (Nat.le_refl _) _⟩
  rfl
theorem rotr_any (x : BitVec 32) (z : Int) (h0 : 0 < z) (h1 : z < 32) (w : World) :
    Calls Try.prog 144 #[.int .u32 (iv x), .int .i64 z] w fun e w' => e = .returned (.int .u32 (iv (rotr x z.toNat))) ∧ w = w' := by
  have h := right_any x z w
  rw [show ((-z) % 32).toNat = 32 - z.toNat by omega] at h
  exact h
set_option maxHeartbeats 400000 in
theorem turn2_any (x : BitVec 32) (z : Int) (h0 : 0 < z) (h1 : z < 32) (w : World) :
    Calls Try.prog 109 #[.int .u32 (iv x), .int .i64 z] w fun e w' => e = .returned (.int .u32 (iv (rotr x z.toNat))) ∧ ∃ n, w' = w.drewN n := by
  obtain ⟨k, rfl⟩ : ∃ k : Nat, z = k := ⟨z.toNat, by omega⟩
  rw [Int.toNat_natCast]
  have g0 : (0 : Int) ≤ k := by omega
  have g1 : (k : Int) ≤ 32 := by omega
  have g2 : (0 : Int) ≤ 32 - k := by omega
  have e1 : (32 - (k : Int)).toNat = 32 - k := by omega
  have e2 : x >>> k ||| x <<< (32 - k) = rotr x k := by
    unfold rotr rotl; rw [show 32 - (32 - k) = k by omega, BitVec.or_comm]
  have E2 := hid e2
  clear e2 h0 h1
  go_enter Try.func109, Try.ntmps109
  go_wp2
  go_quiet (fail)
  go_wp2
  go_ret
  rw [← E2.out]
  exact ⟨rfl, _, rfl⟩
end Go.Proofs.Ytkbokffonnjjiaa

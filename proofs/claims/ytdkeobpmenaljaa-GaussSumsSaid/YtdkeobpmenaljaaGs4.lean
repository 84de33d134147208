
/- gauss: Divide, Turn, the chapter's example; the law's pairs and numbers. -/
import Derived.Test.YtdkeobpmenaljaaGs3
set_option linter.unusedSimpArgs false
set_option linter.unusedVariables false
namespace Go.Proofs.Ytdkeobpmenaljaa
open Go.RowKit Go.Qc

theorem i64_and3 (n : Int) : bits .and .i64 n 3 = n % 4 := by
  have h3 : (BitVec.ofInt 64 3).toNat = 2 ^ 2 - 1 := by decide
  have key : (BitVec.ofInt 64 n &&& BitVec.ofInt 64 3).toNat = (n % ((2 ^ 64 : Nat) : Int)).toNat % 2 ^ 2 := by
    rw [BitVec.toNat_and, BitVec.toNat_ofInt, h3, Nat.and_two_pow_sub_one_eq_mod]
  show IntKind.i64.wrap ((BitVec.ofInt 64 n &&& BitVec.ofInt 64 3).toNat : Nat) = n % 4
  rw [key, IntKind.wrap_i64]
  omega
theorem iZ_res : ResZ (0, 1) := ⟨by decide, by decide, by decide, by decide⟩
theorem cz_i : Value.complex .f64 0 4607182418800017408 = cz (0, 1) := by
  show _ = Value.complex .f64 (fl 0) (fl 1)
  rw [fl_zero, fl_one]
theorem cz_mi : Value.complex .f64 0 4679237538936782848 = cz (0, 65518) := by
  show _ = Value.complex .f64 (fl 0) (fl 65518)
  rw [fl_zero, fl_last]
set_option maxRecDepth 100000 in
set_option maxHeartbeats 4000000 in
theorem gturn_any (x : Int × Int) (hx : ResZ x) (n : Int) (w : World) : Calls Try.prog 51 #[cz x, .int .i64 n] w fun e w' => e = .returned (cz (gmulZ x (gpowZ (0, 1) (n % 4).toNat))) ∧ w = w' := by
  obtain ⟨k, hk⟩ : ∃ k : Nat, n % 4 = k := ⟨(n % 4).toNat, by omega⟩
  have hk4 : k < 4 := by omega
  have ha := i64_and3 n
  rw [hk] at ha ⊢
  rw [Int.toNat_natCast]
  have hp := gpower_any (0, 1) iZ_res k (by omega)
  rw [← cz_i] at hp
  have hm := gmul_any x (gpowZ (0, 1) k) hx (gpowZ_res _ _)
  generalize gmulZ x (gpowZ (0, 1) k) = r at *
  generalize gpowZ (0, 1) k = t at *
  clear hk
  go_enter Try.func51, Try.ntmps51
  go_wp2_with (first
    | (go_at_call 49; (with_reducible refine (hp _).mono ?_); rintro e w' ⟨rfl, rfl⟩)
    | (go_at_call 47; (with_reducible refine (hm _).mono ?_); rintro e w' ⟨rfl, rfl⟩))
  go_ret
  exact ⟨rfl, rfl⟩
set_option maxRecDepth 100000 in
theorem awake22_any (w : World) : Calls Try.prog 52 #[] w fun e w' => e = .returned (.bool true) ∧ w = w' := by
  have hi := ginv_any (0, 1) iZ_res (by decide)
  rw [ginv_i, ← cz_i, ← cz_mi] at hi
  have hq : ∀ w, (binOp .eql 80 (.complex .f64 0 4679237538936782848) (.complex .f64 0 4679237538936782848)).run Try.prog w = .ok (.bool true) w := fun w => by
    have := run_cz_eq 80 (0, 65518) (0, 65518) ⟨by decide, by decide, by decide, by decide⟩ ⟨by decide, by decide, by decide, by decide⟩ w
    rw [← cz_mi, decide_eq_true rfl] at this
    exact this
  go_enter Try.func52, Try.ntmps52
  go_wp2_with (go_at_call 53; (with_reducible refine (hi _).mono ?_); rintro e w' ⟨rfl, rfl⟩)
  go_ret
  exact ⟨rfl, rfl⟩
theorem u16_tmod (a : Nat) : ((a : Int)).tmod 65519 = ((a % 65519 : Nat) : Int) := by rw [Int.tmod_eq_emod_of_nonneg (by omega)]; omega
/-- Of two numbers a residue. -/
def prZ (a b : Nat) : Int × Int := (((a % 65519 : Nat) : Int), ((b % 65519 : Nat) : Int))
theorem prZ_res (a b : Nat) : ResZ (prZ a b) := by
  refine ⟨?_, ?_, ?_, ?_⟩ <;> (unfold prZ; dsimp only; omega)
set_option maxRecDepth 100000 in
theorem pair22_any (a b : Nat) (ha : a < 65536) (hb : b < 65536) (w : World) : Calls Try.prog 40 #[.int .u16 a, .int .u16 b] w fun e w' => e = .returned (pz (prZ a b)) ∧ Below w.heap.size w w' := by
  have e1 := u16_tmod a
  have e2 := u16_tmod b
  unfold prZ pz
  dsimp only
  generalize a % 65519 = r at *
  generalize b % 65519 = s at *
  go_enter Try.func40, Try.ntmps40
  go_wp2
  refine bodyPost_ret (ret_pair rfl _ _ _ _ _ rfl (Blk.new _ _ _)) rfl ⟨rfl, ?_⟩
  exact (Below.refl w.heap.size w).alloc (Nat.le_refl _) _
set_option maxRecDepth 100000 in
theorem number22_any (x : Int × Int) (w : World) : Calls Try.prog 41 #[pz x] w fun e w' => e = .returned (cz x) ∧ Below w.heap.size w w' := by
  obtain ⟨a, b⟩ := x
  have hd : ∀ (w : World) (m : Int), (convert 3 97 (.int .i64 m)).run Try.prog w = .ok (.float .f64 (fl m)) w := fun w m => run_convert_int_float w _ _ .i64 .f64 m (by kernel_rfl) (by kernel_rfl)
  unfold pz cz
  dsimp only
  go_enter Try.func41, Try.ntmps41
  go_wp2
  go_ret
  exact ⟨rfl, (Below.refl w.heap.size w).alloc (Nat.le_refl _) _⟩
end Go.Proofs.Ytdkeobpmenaljaa

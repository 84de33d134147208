
/- gauss: floats that are looked at (Signbit, Trunc), whole, Right, remainder, reduced, reckoned. -/
import Derived.Test.YtdkeobpmenaljaaKit
import Derived.Test.YtdkeobpmenaljaaChecked
import Derived.Test.YtdkeobpmenaljaaFa0
import Derived.Test.YtdkeobpmenaljaaGa0
set_option linter.unusedSimpArgs false
set_option linter.unusedVariables false
namespace Go.Proofs.Ytdkeobpmenaljaa
open Go.RowKit Go.Qc
open Go.Qc

/-- Is the float that these bits are a residue's part? -/
def partF (b : Nat) : Bool := decide (b < 9223372036854775808) && (FloatKind.f64.format.order b 4679237676375736320 == some .lt && FloatKind.f64.format.order b (FloatKind.f64.encode ((FloatKind.f64.decode b).integral .zero)) == some .eq)
theorem sign_bit (b : Nat) (h : b < 2 ^ 64) : decide (wrap64 (b : Int) < 0) = !decide (b < 9223372036854775808) := by
  unfold wrap64
  by_cases h1 : b < 9223372036854775808
  · have : ¬ ((b : Int) + 9223372036854775808) % 18446744073709551616 - 9223372036854775808 < 0 := by omega
    simp [h1, this]
  · have : ((b : Int) + 9223372036854775808) % 18446744073709551616 - 9223372036854775808 < 0 := by omega
    simp [h1, this]
theorem run_bits (w : World) (b : Nat) : (Extern.MathFloatBits.float64bits #[.float .f64 b]).run Try.prog w = .ok (.int .u64 b) w := rfl
set_option maxRecDepth 100000 in
theorem signbit_any (b : Nat) (h : b < 2 ^ 64) (w : World) : Calls Try.prog 129 #[.float .f64 b] w fun e w' => e = .returned (.bool (!decide (b < 9223372036854775808))) ∧ w = w' := by
  have hs := sign_bit b h
  have hrun := run_bits w b
  clear h
  go_enter Try.func129, Try.ntmps129
  go_wp2
  rw [run_callFunc_extern Try.func156 (by kernel_rfl) (by kernel_rfl) (by kernel_rfl) (e := Extern.MathFloatBits.float64bits) (by kernel_rfl), hrun]
  simp only [Result.andThen]
  rw [Oper.upon_value]
  go_wp2
  go_ret
  refine ⟨?_, rfl⟩
  rw [← hs]
  rfl
theorem run_trunc (w : World) (b : Nat) (hn : (FloatKind.f64.decode b).isNaN = false) : (Extern.MathFloor.toIntegral "math.archTrunc" .zero #[.float .f64 b]).run Try.prog w = .ok (.float .f64 (FloatKind.f64.encode ((FloatKind.f64.decode b).integral .zero))) w := by
  change Sem.run _ (Extern.MathFloor.toIntegral.match_1 (fun _ => Sem Value) (FloatKind.f64.decode b) _ _) _ = _
  revert hn
  generalize FloatKind.f64.decode b = d
  cases d with
  | nan s t => intro h; exact nomatch h
  | infinity s => intro _; rfl
  | number s m e => intro _; rfl
set_option maxRecDepth 100000 in
theorem trunc_any (b : Nat) (hn : (FloatKind.f64.decode b).isNaN = false) (w : World) : Calls Try.prog 130 #[.float .f64 b] w fun e w' => e = .returned (.float .f64 (FloatKind.f64.encode ((FloatKind.f64.decode b).integral .zero))) ∧ w = w' := by
  have hrun := run_trunc w b hn
  generalize FloatKind.f64.encode ((FloatKind.f64.decode b).integral .zero) = c at *
  clear hn
  go_enter Try.func130, Try.ntmps130
  go_wp2
  rw [run_callFunc_extern Try.func157 (by kernel_rfl) (by kernel_rfl) (by kernel_rfl) (e := Extern.MathFloor.toIntegral "math.archTrunc" .zero) (by kernel_rfl), hrun]
  simp only [Result.andThen]
  rw [Oper.upon_value]
  go_wp2
  go_ret
  exact ⟨rfl, rfl⟩

theorem order_nan {b : Nat} {c : Nat} (h : (FloatKind.f64.format.order b c == some .lt) = true) : (FloatKind.f64.decode b).isNaN = false := by
  revert h
  show ((Ieee.Datum.order (FloatKind.f64.decode b) _) == some .lt) = true → _
  generalize FloatKind.f64.decode b = d
  cases d with
  | nan s t => intro h; revert h; unfold Ieee.Datum.order; simp
  | infinity s => intro _; rfl
  | number s m e => intro _; rfl
set_option maxRecDepth 100000 in
theorem gwhole_any (b : Nat) (h : b < 2 ^ 64) (w : World) : Calls Try.prog 95 #[.float .f64 b] w fun e w' => e = .returned (.bool (partF b)) ∧ w = w' := by
  have hs := signbit_any b h w
  have ht := trunc_any b
  unfold partF
  clear h
  cases h1 : decide (b < 9223372036854775808) with
  | false =>
    rw [h1] at hs
    clear h1
    go_enter Try.func95, Try.ntmps95
    go_wp2_with (go_at_call 129; (with_reducible refine hs.mono ?_); rintro e w' ⟨rfl, rfl⟩)
    go_ret
    exact ⟨rfl, rfl⟩
  | true =>
    rw [h1] at hs
    clear h1
    cases h2 : (FloatKind.f64.format.order b 4679237676375736320 == some .lt) with
    | false =>
      clear ht
      go_enter Try.func95, Try.ntmps95
      go_wp2_with (go_at_call 129; (with_reducible refine hs.mono ?_); rintro e w' ⟨rfl, rfl⟩)
      go_ret
      exact ⟨rfl, rfl⟩
    | true =>
      have ht2 := ht (order_nan h2) w
      clear ht
      generalize FloatKind.f64.encode ((FloatKind.f64.decode b).integral .zero) = c at *
      go_enter Try.func95, Try.ntmps95
      go_wp2_with (first
        | (go_at_call 129; (with_reducible refine hs.mono ?_); rintro e w' ⟨rfl, rfl⟩)
        | (go_at_call 130; (with_reducible refine ht2.mono ?_); rintro e w' ⟨rfl, rfl⟩))
      go_ret
      exact ⟨rfl, rfl⟩
set_option maxRecDepth 100000 in
theorem gright_any (a b : Nat) (ha : a < 2 ^ 64) (hb : b < 2 ^ 64) (w : World) : Calls Try.prog 42 #[.complex .f64 a b] w fun e w' => e = .returned (.bool (partF a && partF b)) ∧ w = w' := by
  have h1 := gwhole_any a ha w
  have h2 := gwhole_any b hb w
  clear ha hb
  generalize partF a = p at *
  generalize partF b = q at *
  cases p with
  | false =>
    go_enter Try.func42, Try.ntmps42
    go_wp2_with (go_at_call 95; (with_reducible refine h1.mono ?_); rintro e w' ⟨rfl, rfl⟩)
    go_ret
    exact ⟨rfl, rfl⟩
  | true =>
    go_enter Try.func42, Try.ntmps42
    go_wp2_with (first
      | (go_at_call 95; (with_reducible refine h1.mono ?_); rintro e w' ⟨rfl, rfl⟩)
      | (go_at_call 95; (with_reducible refine h2.mono ?_); rintro e w' ⟨rfl, rfl⟩))
    go_ret
    exact ⟨rfl, rfl⟩
end Go.Proofs.Ytdkeobpmenaljaa

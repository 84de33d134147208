
/- Words as bytes: the contracts of package word's calls and of the document's answers. -/
import Derived.Test.YtfckbonblfcmnaaWordB
namespace Go.Proofs.Ytfckbonblfcmnaa
open Go.RowKit Go.Qc
attribute [local go_sem] iv_add iv_and iv_or iv_xor iv_shl iv_shr iv_inj iv_i64 iv_mod2 ib_fold ib_lo_of ib_lo_mod iv_up_of iv_div8 iv_div16 iv_div24 iv_tmod256 ib_u8

theorem infoByte : (Try.prog.info? 5).map (fun i => (i.zero, i.size, i.bytes)) = some (some (.int .u8 0), 1, 1) := by kernel_rfl
theorem infoWord : (Try.prog.info? 114).map (fun i => (i.zero, i.size, i.bytes)) = some (some (.int .u32 0), 1, 4) := by kernel_rfl

set_option maxHeartbeats 400000 in
theorem bytes_any (A : Option Addr) (n c : Nat) (ws : List (BitVec 32)) (hn : ws.length = n) (hm : n ≤ 1099511627776) (w : World) (hr : Rd w A (ws.map u32v)) :
    Calls Try.prog 68 #[.slice A n c] w fun e w' => e = .returned (.string (txt (wordsB ws))) ∧ Below w.heap.size w w' := by
  obtain ⟨i0, hi, hz0, hz1, hz2⟩ := info_parts infoByte
  go_enter Try.func68, Try.ntmps68
  go_wp2_with (at_make; refine wpList_make_own _ rfl _ _ 51 rfl w.heap.size 5 i0 (.int .u8 0) 1 Try.underlying51 hi hz0 hz1 _ _ _ (4 * n) rfl rfl ?c1 ?c2 ?c3 (Nat.le_refl _) ?_)
  case c1 => omega
  case c2 => rw [hz2]; omega
  case c3 => unfold maxLen; omega
  intro w1 hown1 hg1
  have hb1 : Below w.heap.size w w1 := (Below.refl _ _).grown hg1 (Nat.le_refl _) (by simp)
  clear hg1
  go_wp2
  go_loopw [3, 12] (fun v i wr => ∃ k : Nat, k ≤ n ∧ i = .int .i64 k ∧ wr.ownsRow w.heap.size 5 1 v (4 * k) ((wordsB (ws.take k)).map u8v) ∧ Below w.heap.size w wr) (fun _ i _ => n - (intOf i).toNat)
  case atStart => exact ⟨0, by omega, rfl, hown1, hb1⟩
  case round =>
    obtain ⟨k, hk, rfl, hown, hb⟩ := hrel
    have hsz := hb.size
    clear hown1 hb1
    by_cases hlt : k < n
    · obtain ⟨ad, x, rfl, hx, hcell⟩ := (hr.below hb).atm (k := k) (by omega)
      rw [u32v] at hcell
      have HT := hid (take_snoc hx)
      clear hx hn
      go_wp2_with (at_builtin; refine wpList_append_new rfl _ _ 51 rfl w.heap.size 5 i0 (.int .u8 0) 1 Try.underlying51 hi hz0 hz1 hz2 rfl _ _ _ rfl hown 4 _ rfl rfl ?c2 ?c3 ?c4 hsz ?_)
      case c2 => simp [Value.oneCell']
      case c3 => unfold maxLen; omega
      case c4 => omega
      intro v' w' hown' hb'
      go_wp2
      go_roundw
      case rel => exact ⟨k + 1, by omega, by go_num, by rw [HT.out, wordsB_snoc, List.map_append]; exact hown', hb.trans hb'⟩
      case measure => simp [intOf]; omega
    · obtain rfl : k = n := by omega
      obtain ⟨hl2, A2, c2, rfl, hrd2⟩ := Rd.own hown
      have hconv := run_txt (P := Try.prog) wr 51 9 5 A2 (4 * k) c2 _ Try.underlying51 Try.underlying5 Try.underlying9 (by simpa using hl2.symm) hrd2
      go_wp2
      go_ret
      rw [List.take_of_length_le (by omega)]
      exact ⟨rfl, hb⟩

set_option maxHeartbeats 400000 in
theorem rbytes_any (A : Option Addr) (n c : Nat) (ws : List (BitVec 32)) (hn : ws.length = n) (hm : n ≤ 1099511627776) (w : World) (hr : Rd w A (ws.map u32v)) :
    Calls Try.prog 53 #[.slice A n c] w fun e w' => e = .returned (.string (txt (wordsB ws))) ∧ Below w.heap.size w w' := by
  obtain ⟨i0, hi, hz0, hz1, hz2⟩ := info_parts infoByte
  go_enter Try.func53, Try.ntmps53
  go_wp2
  go_loopw [3, 4] (fun v i wr => ∃ k : Nat, k ≤ n ∧ i = .int .i64 k ∧ wr.ownsRow w.heap.size 5 1 v (4 * k) ((wordsB (ws.take k)).map u8v) ∧ Below w.heap.size w wr) (fun _ i _ => n - (intOf i).toNat)
  case atStart => exact ⟨0, by omega, rfl, World.ownsRow_made _ _ _ (Nat.le_refl _) (by decide) rfl, (Below.refl _ _).alloc (Nat.le_refl _) _⟩
  case round =>
    obtain ⟨k, hk, rfl, hown, hb⟩ := hrel
    have hsz := hb.size
    by_cases hlt : k < n
    · obtain ⟨ad, x, rfl, hx, hcell⟩ := (hr.below hb).atm (k := k) (by omega)
      rw [u32v] at hcell
      have HT := hid (take_snoc hx)
      clear hx hn
      have l1 := iv_lo x
      have l2 := iv_hi x
      go_wp2_with (at_builtin; refine wpList_append_new rfl _ _ 51 rfl w.heap.size 5 i0 (.int .u8 0) 1 Try.underlying51 hi hz0 hz1 hz2 rfl _ _ _ rfl hown 4 _ rfl rfl ?c2 ?c3 ?c4 hsz ?_)
      case c2 => simp [Value.oneCell']
      case c3 => unfold maxLen; omega
      case c4 => omega
      intro v' w' hown' hb'
      go_wp2
      go_roundw
      case rel => exact ⟨k + 1, by omega, by go_num, by rw [HT.out, wordsB_snoc, List.map_append]; exact hown', hb.trans hb'⟩
      case measure => simp [intOf]; omega
    · obtain rfl : k = n := by omega
      obtain ⟨hl2, A2, c2, rfl, hrd2⟩ := Rd.own hown
      have hconv := run_txt (P := Try.prog) wr 51 9 5 A2 (4 * k) c2 _ Try.underlying51 Try.underlying5 Try.underlying9 (by simpa using hl2.symm) hrd2
      go_wp2
      go_ret
      rw [List.take_of_length_le (by omega)]
      exact ⟨rfl, hb⟩
end Go.Proofs.Ytfckbonblfcmnaa


/- Numbers as bytes, bits of texts: the contracts of package word's calls and of the document's answers. -/
import Derived.Test.YticpdepbgcagaaaGreatWords
namespace Go.Proofs.YticpdepbgcagaaaGreat
open Go.RowKit Go.Qc
attribute [local go_sem] ib_fold lv_add lv_mul256 lv_or lv_shr lv_div256 lv_shl8 lv_tdiv256 lv_mod256 lv_tmod256 lv_u8 lv_up lv_w64 lv_inj txt_append ib_u8 ib_shr ib_div2 ib_tdiv2 ib_mod2 ib_tmod2 ib_and1 ib_i64 ib_w64 ib_inj

theorem take_all (s : ByteArray) : s.data.toList.take s.size = s.data.toList := List.take_of_length_le (Nat.le_of_eq rfl)
theorem valB_take (s : ByteArray) (k : Nat) (h : k < s.size) : valB (s.data.toList.take (k + 1)) 0#64 = valB (s.data.toList.take k) 0#64 <<< 8 ||| up64 s[k] := by
  rw [take_snoc (x := s[k]) (by rw [List.getElem?_eq_getElem (by exact h)]; rfl), valB_snoc]

set_option maxHeartbeats 400000 in
theorem rvalue_any (s : ByteArray) (hs : s.size ≤ maxLen) (w : World) :
    Calls Tryz.prog 99 #[.string s] w fun e w' => e = .returned (.int .u64 (lv (valB s.data.toList 0#64))) ∧ w = w' := by
  unfold maxLen at hs
  go_enter Tryz.func99, Tryz.ntmps99
  go_wp2
  go_loop [3, 4] (fun v i => ∃ k : Nat, k ≤ s.size ∧ i = .int .i64 k ∧ v = .int .u64 (lv (valB (s.data.toList.take k) 0#64))) (fun _ i => s.size - (intOf i).toNat)
  case atStart => exact ⟨0, by omega, rfl, rfl⟩
  case round =>
    obtain ⟨k, hk, rfl, rfl⟩ := hrel
    by_cases hlt : k < s.size
    · have HT := hid (valB_take s k hlt)
      go_wp2
      go_round
      case rel => exact ⟨k + 1, by omega, by go_num, by rw [HT.out, shl8_or]⟩
      case measure => simp [intOf]; omega
    · obtain rfl : k = s.size := by omega
      go_wp2
      go_ret
      rw [take_all]
      exact ⟨rfl, rfl⟩

/-- Bit i of a text, the highest of a byte first. -/
def bitAt (s : ByteArray) (i : Nat) (h : i / 8 < s.size) : UInt8 := bit0 (shrB (s[i / 8]'h) (7 - i % 8))

set_option maxHeartbeats 400000 in
theorem rbit_any (s : ByteArray) (i : Nat) (hi : i ≤ 9223372036854775807) (h : i / 8 < s.size) (w : World) :
    Calls Tryz.prog 48 #[.string s, .int .i64 i] w fun e w' => e = .returned (.int .i64 (ib (bitAt s i h))) ∧ w = w' := by
  have h0 : (0 : Int) ≤ i := by omega
  have h1 : (i : Int) / 8 < s.size := by omega
  have h2 : (0 : Int) ≤ (i : Int) / 8 := by omega
  have e1 : ((i : Int) / 8).toNat = i / 8 := by omega
  go_enter Tryz.func48, Tryz.ntmps48
  go_wp2
  go_loop [5, 6] (fun v i' => ∃ j : Nat, i % 8 + j ≤ 7 ∧ i' = .int .i64 ((i % 8 + j : Nat) : Int) ∧ v = .int .i64 (ib (shrB s[i / 8] j))) (fun _ i' => 7 - (intOf i').toNat)
  case atStart => exact ⟨0, by omega, by simp, by simp [shrB]⟩
  case round =>
    obtain ⟨j, hj, rfl, rfl⟩ := hrel
    by_cases hlt : i % 8 + j < 7
    · generalize hm : i % 8 + j = m at *
      go_wp2
      go_round
      case rel => exact ⟨j + 1, by omega, by rw [show i % 8 + (j + 1) = m + 1 by omega]; go_num, by rw [shrB_shrB]⟩
      case measure => simp [intOf]; omega
    · go_wp2
      go_ret
      obtain rfl : j = 7 - i % 8 := by omega
      exact ⟨rfl, rfl⟩

/-! ### Number -/
theorem bytes_more {cs : Array Value} {v : BitVec 64} {k : Nat} (hcs : cs.size = 8) (hk : k < 8) (h : ∀ j : Nat, j < k → cs[j]? = some (u8v (lo64 (v >>> (8 * (7 - j)))))) :
    ∀ j : Nat, j < k + 1 → (cs.setIfInBounds k (.int .u8 (ib (lo64 (v >>> (8 * (7 - k)))))))[j]? = some (u8v (lo64 (v >>> (8 * (7 - j))))) := by
  intro j hj
  rw [Array.getElem?_setIfInBounds]
  by_cases e : k = j
  · subst e; rw [if_pos rfl, if_pos (by omega)]; rfl
  · rw [if_neg e]; exact h j (by omega)
theorem fits_iff (v : BitVec 64) (n : Nat) : v >>> (8 * n) = 0#64 ↔ v.toNat < 256 ^ n := by
  have h256 : (256 : Nat) ^ n = 2 ^ (8 * n) := by rw [Nat.pow_mul]
  rw [h256, ← BitVec.toNat_inj, BitVec.toNat_ushiftRight, Nat.shiftRight_eq_div_pow]
  show _ = 0 ↔ _
  rw [Nat.div_eq_zero_iff]
  have : 0 < 2 ^ (8 * n) := Nat.two_pow_pos _
  omega

set_option maxHeartbeats 400000 in
theorem number_any (v : BitVec 64) (n : Nat) (hn : n ≤ 8) (h : v >>> (8 * n) = 0#64) (w : World) :
    Calls Tryz.prog 59 #[.int .u64 (lv v), .int .i64 n] w fun e w' => e = .returned (.tuple #[.string (txt (numB v n)), .bool true]) ∧ Below w.heap.size w w' := by
  have h0 : ¬ (n : Int) < 0 := by omega
  have h1 : ¬ (8 : Int) < n := by omega
  have e1 : (8 * (n : Int)).toNat = 8 * n := by omega
  have h2 : (0 : Int) ≤ 8 * n := by omega
  have h3 : 8 * (n : Int) ≤ 64 := by omega
  have hb : (lv (v >>> (8 * n)) == 0) = true := by rw [h]; rfl
  clear h
  go_enter Tryz.func59, Tryz.ntmps59
  go_wp2
  go_loopw [21] (fun i wr => ∃ k : Nat, ∃ cs : Array Value, k ≤ 8 ∧ i = .int .i64 k ∧ Blk wr w.heap.size 126 cs ∧ cs.size = 8 ∧ (∀ j, j < k → cs[j]? = some (u8v (lo64 (v >>> (8 * (7 - j)))))) ∧ Below w.heap.size w wr) (fun i _ => 8 - (intOf i).toNat)
  case atStart => exact ⟨0, _, by omega, rfl, Blk.new _ _ _, rfl, fun j hj => by omega, (Below.refl _ _).alloc (Nat.le_refl _) _⟩
  case round =>
    obtain ⟨k, cs, hk, rfl, hblk, hcs, hj, hbl⟩ := hrel
    have HJ := hid hj
    have HC := hid hcs
    clear hj hcs
    by_cases hlt : k < 8
    · have hfz := hblk.frozen k
      have hcl := hblk.cell_ (i := k) (Array.getElem?_eq_getElem (by have := HC.out; omega))
      have g0 : (0 : Int) ≤ 8 * (7 - k) := by omega
      have g1 : 8 * (7 - (k : Int)) ≤ 56 := by omega
      have g2 : (8 * (7 - (k : Int))).toNat = 8 * (7 - k) := by omega
      go_wp2
      go_roundw
      case rel => exact ⟨k + 1, _, by omega, by go_num, hblk.set k _, by simpa using HC.out, bytes_more HC.out hlt HJ.out, hbl.setCell (Nat.le_refl _) _⟩
      case measure => simp [intOf]; omega
    · obtain rfl : k = 8 := by omega
      obtain ⟨i0, hi, hz0, hz1, hz2⟩ := info_parts infoByte
      have hsl := run_slice_arr (P := Tryz.prog) wr 126 5 w.heap.size 8 (8 - n) i0 Tryz.underlying126 hi hz1 (by omega) .i64
      rw [show (((8 - n : Nat)) : Int) = 8 - (n : Int) by omega, show 8 - (8 - n) = n by omega] at hsl
      have hrd : Rd wr (some ⟨w.heap.size, if 8 = 8 - n then 0 else 8 - n, none⟩) ((numB v n).map u8v) := by
        by_cases hz : n = 0
        · subst hz; exact .inl rfl
        · rw [if_neg (by omega)]
          refine .inr ⟨_, rfl, fun j u hu => ?_⟩
          rw [List.getElem?_map] at hu
          obtain ⟨b, hb1, rfl⟩ := Option.map_eq_some_iff.1 hu
          have hjn : j < n := by have := (List.getElem?_eq_some_iff.1 hb1).1; rwa [numB_length] at this
          rw [numB_get v n j hjn] at hb1
          obtain rfl := Option.some.inj hb1
          have e : (⟨w.heap.size, 8 - n, none⟩ : Addr).add j = ⟨w.heap.size, 8 - n + j, none⟩ := by unfold Addr.add; split <;> simp_all
          rw [e, hblk.cell, HJ.out (8 - n + j) (by omega), show 7 - (8 - n + j) = n - 1 - j by omega]
      obtain ⟨off, hoff⟩ : ∃ off, off = if 8 = 8 - n then 0 else 8 - n := ⟨_, rfl⟩
      rw [← hoff] at hsl hrd
      clear hoff
      have hconv := run_txt (P := Tryz.prog) wr 97 9 5 _ n n _ Tryz.underlying97 Tryz.underlying5 Tryz.underlying9 (numB_length v n).symm hrd
      clear hi hz0 hz1 hz2 hrd
      go_wp2
      go_ret2
      exact ⟨rfl, hbl⟩

/-! ### the document's Number -/
def pow256 (n : Nat) : BitVec 64 := BitVec.ofNat 64 (256 ^ n)
theorem pow256_succ (n : Nat) : 256#64 * pow256 n = pow256 (n + 1) := by
  unfold pow256
  apply BitVec.eq_of_toNat_eq
  rw [BitVec.toNat_mul, BitVec.toNat_ofNat, BitVec.toNat_ofNat, BitVec.toNat_ofNat, ← Nat.mul_mod, Nat.mul_comm]
  rfl
theorem pow256_nat (n : Nat) (h : n ≤ 7) : (pow256 n).toNat = 256 ^ n := by
  unfold pow256; rw [BitVec.toNat_ofNat]
  exact Nat.mod_eq_of_lt (Nat.lt_of_le_of_lt (Nat.pow_le_pow_right (by decide) h) (by decide))

set_option maxHeartbeats 400000 in
theorem power_any (n : Nat) (hn : n ≤ 8) (w : World) :
    Calls Tryz.prog 98 #[.int .i64 n] w fun e w' => e = .returned (.int .u64 (lv (pow256 n))) ∧ w = w' := by
  go_enter Tryz.func98, Tryz.ntmps98
  go_wp2
  go_loop [3, 4] (fun v i => ∃ k : Nat, k ≤ n ∧ i = .int .i64 k ∧ v = .int .u64 (lv (pow256 k))) (fun _ i => n - (intOf i).toNat)
  case atStart => exact ⟨0, by omega, rfl, rfl⟩
  case round =>
    obtain ⟨k, hk, rfl, rfl⟩ := hrel
    by_cases hlt : k < n
    · go_wp2
      go_round
      case rel => exact ⟨k + 1, by omega, by go_num, by rw [pow256_succ]⟩
      case measure => simp [intOf]; omega
    · obtain rfl : k = n := by omega
      go_wp2
      go_ret
      exact ⟨rfl, rfl⟩

set_option maxHeartbeats 400000 in
theorem rnumber_any (v : BitVec 64) (n : Nat) (hn : n ≤ 8) (h : v >>> (8 * n) = 0#64) (w : World) :
    Calls Tryz.prog 71 #[.int .u64 (lv v), .int .i64 n] w fun e w' => e = .returned (.tuple #[.string (txt (numB v n)), .bool true]) ∧ Below w.heap.size w w' := by
  have hv : n ≤ 7 → ¬ lv (pow256 n) ≤ lv v := by
    intro h8
    rw [fits_iff] at h
    unfold lv; rw [pow256_nat n h8]; omega
  have h0 : ¬ (n : Int) < 0 := by omega
  have h1 : ¬ (8 : Int) < n := by omega
  clear h
  go_enter Tryz.func71, Tryz.ntmps71
  by_cases h8 : n ≤ 7
  all_goals
    have h2 := h8
    first | (replace hv := hv h8; have h2 : (n : Int) < 8 := by omega) | (clear hv; have h2 : ¬ (n : Int) < 8 := by omega)
    go_wp2_with (go_at_call 98; (with_reducible refine (power_any n (by omega) _).mono ?_); rintro e w' ⟨rfl, rfl⟩)
    go_loopw [0, 6, 7] (fun x t i wr => ∃ k : Nat, k ≤ n ∧ i = .int .i64 k ∧ x = .int .u64 (lv (v >>> (8 * k))) ∧ t = .string (txt (numB v k)) ∧ Below w.heap.size w wr) (fun _ _ i _ => n - (intOf i).toNat)
    case atStart => exact ⟨0, by omega, rfl, by simp, rfl, Below.refl _ _⟩
    case round =>
      obtain ⟨k, hk, rfl, rfl, rfl, hb⟩ := hrel
      by_cases hlt : k < n
      · have hconv := run_txt (P := Tryz.prog) (wr.alloc (.cells #[.int .u8 (ib (lo64 (v >>> (8 * k))))] 5)) 97 9 5 (some ⟨wr.heap.size, 0, none⟩) 1 1 [lo64 (v >>> (8 * k))] Tryz.underlying97 Tryz.underlying5 Tryz.underlying9 rfl
          (Rd.blk (Blk.new _ _ _) (fun j u hu => by simpa [u8v] using hu))
        have hsz : ¬ 9223372036854775807 < (txt [lo64 (v >>> (8 * k))]).size + (txt (numB v k)).size := by rw [txt_size, txt_size, numB_length]; simp; omega
        go_wp2
        go_roundw
        case rel => exact ⟨k + 1, by omega, by go_num, by rw [← BitVec.shiftRight_add]; rfl, rfl, hb.alloc hb.size _⟩
        case measure => simp [intOf]; omega
      · obtain rfl : k = n := by omega
        go_wp2
        go_ret2
        exact ⟨rfl, hb⟩
end Go.Proofs.YticpdepbgcagaaaGreat

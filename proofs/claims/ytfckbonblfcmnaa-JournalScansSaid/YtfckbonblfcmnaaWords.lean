
/- Bytes as words: the contract of package word's Words. -/
import Derived.Test.YtfckbonblfcmnaaBytes
namespace Go.Proofs.Ytfckbonblfcmnaa
open Go.RowKit Go.Qc
attribute [local go_sem] iv_add iv_and iv_or iv_xor iv_shl iv_shr iv_inj iv_i64 iv_mod2 ib_fold ib_lo_of ib_lo_mod iv_up_of iv_div8 iv_div16 iv_div24 iv_tmod256 ib_u8

attribute [local go_sem] iv_shl8
theorem up_lo (y : BitVec 32) : (y >>> 8) <<< 8 ||| upW (loB y) = y := by
  apply BitVec.eq_of_getLsbD_eq
  intro i hi
  have hu : upW (loB y) = BitVec.ofNat 32 (y.toNat % 256) := by
    unfold upW loB; rw [UInt8.toNat_ofNat']
  rw [BitVec.getLsbD_or, BitVec.getLsbD_shiftLeft, BitVec.getLsbD_ushiftRight, hu, BitVec.getLsbD_ofNat]
  have h256 : (256 : Nat) = 2 ^ 8 := rfl
  rw [h256, Nat.testBit_mod_two_pow]
  by_cases h : i < 8
  · simp [h, hi, BitVec.getLsbD]
  · have : 8 + (i - 8) = i := by omega
    simp [h, hi, this]

theorem shr32 (x : BitVec 32) : x >>> (32 - 8 * 0) = 0#32 := by
  apply BitVec.eq_of_toNat_eq
  rw [BitVec.toNat_ushiftRight, Nat.shiftRight_eq_div_pow, Nat.div_eq_of_lt x.isLt]; rfl
theorem set_more {cs : Array Value} {ws : List (BitVec 32)} {n k : Nat} {x : BitVec 32} (hcs : cs.size = n) (hk : k < n) (hx : ws[k]? = some x) (h : ∀ j : Nat, j < k → cs[j]? = (ws[j]?).map u32v) :
    ∀ j : Nat, j < k + 1 → (cs.setIfInBounds k (.int .u32 (iv x)))[j]? = (ws[j]?).map u32v := by
  intro j hj
  rw [Array.getElem?_setIfInBounds]
  by_cases e : k = j
  · subst e; rw [if_pos rfl, if_pos (by omega), hx]; rfl
  · rw [if_neg e]; exact h j (by omega)
theorem step8 (x : BitVec 32) (j : Nat) (hj : j < 4) : x >>> (32 - 8 * j) <<< 8 ||| upW (loB (x >>> (24 - 8 * j))) = x >>> (32 - 8 * (j + 1)) := by
  have e : x >>> (32 - 8 * j) = (x >>> (24 - 8 * j)) >>> 8 := by rw [← BitVec.shiftRight_add]; congr 1; omega
  have e2 : 32 - 8 * (j + 1) = 24 - 8 * j := by omega
  rw [e, up_lo, e2]

set_option maxRecDepth 100000 in
set_option maxHeartbeats 400000 in
theorem words_any (s : ByteArray) (ws : List (BitVec 32)) (n : Nat) (hn : ws.length = n) (hm : n ≤ 1099511627776) (hs : s = txt (wordsB ws)) (w : World) :
    Calls Try.prog 82 #[.string s] w fun e w' => ∃ g, e = .returned (.tuple #[.slice (some ⟨g, 0, none⟩) n n, .int .i64 0]) ∧ Rd w' (some ⟨g, 0, none⟩) (ws.map u32v) ∧ Below w.heap.size w w' := by
  obtain ⟨i0, hi, hz0, hz1, hz2⟩ := info_parts infoWord
  have hsz : s.size = 4 * n := by rw [hs, txt_size, wordsB_length, hn]
  have HS := hid hs
  have HZ := hid hsz
  clear hs hsz
  have hq : ((s.size : Int)) / 4 = n := by rw [HZ.out]; omega
  have hr : ((s.size : Int)) % 4 = 0 := by rw [HZ.out]; omega
  have hmk := run_make_n (P := Try.prog) 101 114 i0 (.int .u32 0) Try.underlying101 hi hz0 hz1 .i64 .i64 n (by rw [hz2]; omega) (by omega) w
  go_enter Try.func82, Try.ntmps82
  go_wp2
  clear hmk hq hr
  go_loopw [18] (fun i wr => ∃ k : Nat, ∃ cs : Array Value, k ≤ n ∧ i = .int .i64 k ∧ Blk wr w.heap.size 114 cs ∧ cs.size = n ∧ (∀ j, j < k → cs[j]? = (ws[j]?).map u32v) ∧ Below w.heap.size w wr) (fun i _ => n - (intOf i).toNat)
  case atStart => exact ⟨0, _, by omega, rfl, Blk.new _ _ _, size_madeCells _ _, fun j hj => by omega, (Below.refl _ _).alloc (Nat.le_refl _) _⟩
  case round =>
    obtain ⟨k, cs, hk, rfl, hblk, hcs, hj, hb⟩ := hrel
    have HJ := hid hj
    have HN := hid hn
    have HC := hid hcs
    clear hj hn hcs
    by_cases hlt : k < n
    · go_wp2
      obtain ⟨x, hx⟩ : ∃ x, ws[k]? = some x := ⟨_, List.getElem?_eq_getElem (by have := HN.out; omega)⟩
      have HX := hid hx
      clear hx
      go_loop [6, 21] (fun v i => ∃ j : Nat, j ≤ 4 ∧ i = .int .i64 j ∧ v = .int .u32 (iv (x >>> (32 - 8 * j)))) (fun _ i => 4 - (intOf i).toNat)
      case atStart => exact ⟨0, by omega, rfl, by rw [shr32 x]; rfl⟩
      case round =>
        obtain ⟨j, hj, rfl, rfl⟩ := hrel
        by_cases hl : j < 4
        · have hin : 4 * k + j < s.size := by have := HZ.out; omega
          have HB := hid (txt_get HS.out (wordsB_get ws k j x HX.out hl) hin)
          go_wp2
          go_round
          case rel => exact ⟨j + 1, by omega, by go_num, by rw [HB.out, step8 x j hl]⟩
          case measure => simp [intOf]; omega
        · obtain rfl : j = 4 := by omega
          have hfz := hblk.frozen k
          have hcl := hblk.cell_ (i := k) (Array.getElem?_eq_getElem (by have := HC.out; omega))
          go_wp2
          go_roundw
          case rel => exact ⟨k + 1, _, by omega, by go_num, hblk.set k _, by simpa using HC.out, set_more HC.out hlt HX.out HJ.out, hb.setCell (Nat.le_refl _) _⟩
          case measure => simp [intOf]; omega
    · obtain rfl : k = n := by omega
      go_wp2
      go_ret2
      exact ⟨_, rfl, Rd.blk hblk fun j u hu => by rw [List.getElem?_map] at hu; rw [HJ.out j (by have := Option.map_eq_some_iff.1 hu; obtain ⟨a, ha, _⟩ := this; have := (List.getElem?_eq_some_iff.1 ha).1; have := HN.out; omega)]; exact hu, hb⟩

def mk4 (b0 b1 b2 b3 : UInt8) : BitVec 32 := BitVec.ofNat 32 (b0.toNat * 16777216 + b1.toNat * 65536 + b2.toNat * 256 + b3.toNat)
theorem wordB_mk4 (b0 b1 b2 b3 : UInt8) : wordB (mk4 b0 b1 b2 b3) = [b0, b1, b2, b3] := by
  have h0 := b0.toNat_lt
  have h1 := b1.toNat_lt
  have h2 := b2.toNat_lt
  have h3 := b3.toNat_lt
  unfold wordB loB mk4
  simp only [BitVec.toNat_ushiftRight, BitVec.toNat_ofNat, Nat.shiftRight_eq_div_pow, List.cons.injEq, and_true]
  refine ⟨?_, ?_, ?_, ?_⟩ <;> (rw [← UInt8.toNat_inj, UInt8.toNat_ofNat']; omega)
end Go.Proofs.Ytfckbonblfcmnaa

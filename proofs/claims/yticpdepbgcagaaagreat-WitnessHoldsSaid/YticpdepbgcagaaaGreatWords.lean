/- The plain mathematics of layer 1, and the contracts of the calls of package word and of the document's answers for it. -/
import Derived.Test.YticpdepbgcagaaaGreatRows
import Derived.Test.YticpdepbgcagaaaGreatKit
namespace Go.Proofs.YticpdepbgcagaaaGreat
open Go.RowKit Go.Qc
attribute [local go_sem] iv_add iv_and iv_or iv_xor iv_shl iv_shr iv_inj iv_i64 iv_mod2

/-! ### turning -/
def rotl (x : BitVec 32) (s : Nat) : BitVec 32 := x <<< s ||| x >>> (32 - s)

theorem u64mask (k : Int) : bits .and .u64 (IntKind.u64.wrap k) 31 = k % 32 := by
  rw [IntKind.wrap_u64]
  have h := u64_and (k % 18446744073709551616) 31 (by omega) (by omega) (by omega) (by omega)
  rw [h]
  have : (31:Int).toNat = 31 := rfl
  rw [this, nat_mask5]
  omega

set_option maxHeartbeats 400000 in
theorem rot_any (x : BitVec 32) (k : Int) (w : World) :
    Calls Tryz.prog 119 #[.int .u32 (iv x), .int .i64 k] w fun e w' => e = .returned (.int .u32 (iv (rotl x (k % 32).toNat))) ∧ w = w' := by
  have hk := u64mask k
  have h1 : 0 ≤ k % 32 := by omega
  have h2 : k % 32 < 32 := by omega
  have h3 : 0 ≤ 32 - k % 32 := by omega
  have h4 : IntKind.u64.wrap (32 - k % 32) = 32 - k % 32 := by rw [IntKind.wrap_u64]; omega
  have e : (32 - k % 32).toNat = 32 - (k % 32).toNat := by omega
  have E : x <<< (k % 32).toNat ||| x >>> (32 - k % 32).toNat = rotl x (k % 32).toNat := by unfold rotl; rw [e]
  have HE := hid E
  clear E e
  go_enter Tryz.func119, Tryz.ntmps119
  go_wp2
  go_ret
  rw [← HE.out]
  exact ⟨rfl, rfl⟩

set_option maxHeartbeats 400000 in
theorem right_any (x : BitVec 32) (k : Int) (w : World) :
    Calls Tryz.prog 114 #[.int .u32 (iv x), .int .i64 k] w fun e w' => e = .returned (.int .u32 (iv (rotl x ((-k) % 32).toNat))) ∧ w = w' := by
  have E : (wrap64 (-k)) % 32 = (-k) % 32 := by unfold wrap64; omega
  have HE := hid E
  clear E
  go_enter Tryz.func114, Tryz.ntmps114
  go_wp2_with (go_at_call 119; refine (rot_any _ _ _).mono ?_; rintro e w' ⟨rfl, rfl⟩)
  go_ret
  rw [← HE.out]
  exact ⟨rfl, rfl⟩

end Go.Proofs.YticpdepbgcagaaaGreat
/- The document's turning, bit by bit: its contracts, and that it is the turning of package word. -/
namespace Go.Proofs.YticpdepbgcagaaaGreat
open Go.RowKit Go.Qc
attribute [local go_sem] iv_add iv_and iv_or iv_xor iv_shl iv_shr iv_inj iv_i64 iv_mod2

theorem toWord (x : BitVec 32) : IntKind.u32.wrap (iv x) = iv x := by
  have := iv_lo x; have := iv_hi x; rw [IntKind.wrap_u32']; omega
theorem two_iv (x : BitVec 32) : IntKind.u32.wrap (2 * iv x) = iv (2#32 * x) := by
  unfold iv; rw [IntKind.wrap_u32', BitVec.toNat_mul]
  show _ = (((2 * x.toNat) % 2 ^ 32 : Nat) : Int)
  omega
attribute [local go_sem] toWord two_iv

/-! ### the chapter's examples -/
end Go.Proofs.YticpdepbgcagaaaGreat
/- Words as bytes: the contracts of package word's calls and of the document's answers. -/
namespace Go.Proofs.YticpdepbgcagaaaGreat
open Go.RowKit Go.Qc
attribute [local go_sem] iv_add iv_and iv_or iv_xor iv_shl iv_shr iv_inj iv_i64 iv_mod2 ib_fold ib_lo_of ib_lo_mod iv_up_of iv_div8 iv_div16 iv_div24 iv_tmod256 ib_u8

theorem infoByte : (Tryz.prog.info? 5).map (fun i => (i.zero, i.size, i.bytes)) = some (some (.int .u8 0), 1, 1) := by kernel_rfl
theorem infoWord : (Tryz.prog.info? 142).map (fun i => (i.zero, i.size, i.bytes)) = some (some (.int .u32 0), 1, 4) := by kernel_rfl

set_option maxHeartbeats 400000 in
theorem bytes_any (A : Option Addr) (n c : Nat) (ws : List (BitVec 32)) (hn : ws.length = n) (hm : n ≤ 1099511627776) (w : World) (hr : Rd w A (ws.map u32v)) :
    Calls Tryz.prog 103 #[.slice A n c] w fun e w' => e = .returned (.string (txt (wordsB ws))) ∧ Below w.heap.size w w' := by
  obtain ⟨i0, hi, hz0, hz1, hz2⟩ := info_parts infoByte
  go_enter Tryz.func103, Tryz.ntmps103
  go_wp2_with (at_make; refine wpList_make_own _ rfl _ _ 97 rfl w.heap.size 5 i0 (.int .u8 0) 1 Tryz.underlying97 hi hz0 hz1 _ _ _ (4 * n) rfl rfl ?c1 ?c2 ?c3 (Nat.le_refl _) ?_)
  case c1 => omega
  case c2 => rw [hz2]; omega
  case c3 => unfold maxLen; omega
  intro w1 hown1 hg1
  have hb1 : Below w.heap.size w w1 := (Below.refl _ _).grown hg1 (Nat.le_refl _) (by simp)
  clear hg1
  go_wp2
  go_loopw [3, 12] (fun v i wr => ∃ k : Nat, k ≤ n ∧ i = .int .i64 k ∧ wr.ownsRow w.heap.size 5 1 v (4 * k) ((wordsB (ws.take k)).map u8v) ∧ Below w.heap.size w wr) (fun _ i _ => n - (intOf i).toNat)
  case atStart => exact ⟨0, by omega, rfl, hown1, hb1⟩
  case round =>
    obtain ⟨k, hk, rfl, hown, hb⟩ := hrel
    have hsz := hb.size
    clear hown1 hb1
    by_cases hlt : k < n
    · obtain ⟨ad, x, rfl, hx, hcell⟩ := (hr.below hb).atm (k := k) (by omega)
      rw [u32v] at hcell
      have HT := hid (take_snoc hx)
      clear hx hn
      go_wp2_with (at_builtin; refine wpList_append_new rfl _ _ 97 rfl w.heap.size 5 i0 (.int .u8 0) 1 Tryz.underlying97 hi hz0 hz1 hz2 rfl _ _ _ rfl hown 4 _ rfl rfl ?c2 ?c3 ?c4 hsz ?_)
      case c2 => simp [Value.oneCell']
      case c3 => unfold maxLen; omega
      case c4 => omega
      intro v' w' hown' hb'
      go_wp2
      go_roundw
      case rel => exact ⟨k + 1, by omega, by go_num, by rw [HT.out, wordsB_snoc, List.map_append]; exact hown', hb.trans hb'⟩
      case measure => simp [intOf]; omega
    · obtain rfl : k = n := by omega
      obtain ⟨hl2, A2, c2, rfl, hrd2⟩ := Rd.own hown
      have hconv := run_txt (P := Tryz.prog) wr 97 9 5 A2 (4 * k) c2 _ Tryz.underlying97 Tryz.underlying5 Tryz.underlying9 (by simpa using hl2.symm) hrd2
      go_wp2
      go_ret
      rw [List.take_of_length_le (by omega)]
      exact ⟨rfl, hb⟩

set_option maxHeartbeats 400000 in
theorem rbytes_any (A : Option Addr) (n c : Nat) (ws : List (BitVec 32)) (hn : ws.length = n) (hm : n ≤ 1099511627776) (w : World) (hr : Rd w A (ws.map u32v)) :
    Calls Tryz.prog 79 #[.slice A n c] w fun e w' => e = .returned (.string (txt (wordsB ws))) ∧ Below w.heap.size w w' := by
  obtain ⟨i0, hi, hz0, hz1, hz2⟩ := info_parts infoByte
  go_enter Tryz.func79, Tryz.ntmps79
  go_wp2
  go_loopw [3, 4] (fun v i wr => ∃ k : Nat, k ≤ n ∧ i = .int .i64 k ∧ wr.ownsRow w.heap.size 5 1 v (4 * k) ((wordsB (ws.take k)).map u8v) ∧ Below w.heap.size w wr) (fun _ i _ => n - (intOf i).toNat)
  case atStart => exact ⟨0, by omega, rfl, World.ownsRow_made _ _ _ (Nat.le_refl _) (by decide) rfl, (Below.refl _ _).alloc (Nat.le_refl _) _⟩
  case round =>
    obtain ⟨k, hk, rfl, hown, hb⟩ := hrel
    have hsz := hb.size
    by_cases hlt : k < n
    · obtain ⟨ad, x, rfl, hx, hcell⟩ := (hr.below hb).atm (k := k) (by omega)
      rw [u32v] at hcell
      have HT := hid (take_snoc hx)
      clear hx hn
      have l1 := iv_lo x
      have l2 := iv_hi x
      go_wp2_with (at_builtin; refine wpList_append_new rfl _ _ 97 rfl w.heap.size 5 i0 (.int .u8 0) 1 Tryz.underlying97 hi hz0 hz1 hz2 rfl _ _ _ rfl hown 4 _ rfl rfl ?c2 ?c3 ?c4 hsz ?_)
      case c2 => simp [Value.oneCell']
      case c3 => unfold maxLen; omega
      case c4 => omega
      intro v' w' hown' hb'
      go_wp2
      go_roundw
      case rel => exact ⟨k + 1, by omega, by go_num, by rw [HT.out, wordsB_snoc, List.map_append]; exact hown', hb.trans hb'⟩
      case measure => simp [intOf]; omega
    · obtain rfl : k = n := by omega
      obtain ⟨hl2, A2, c2, rfl, hrd2⟩ := Rd.own hown
      have hconv := run_txt (P := Tryz.prog) wr 97 9 5 A2 (4 * k) c2 _ Tryz.underlying97 Tryz.underlying5 Tryz.underlying9 (by simpa using hl2.symm) hrd2
      go_wp2
      go_ret
      rw [List.take_of_length_le (by omega)]
      exact ⟨rfl, hb⟩
end Go.Proofs.YticpdepbgcagaaaGreat
/- Bytes as words: the contract of package word's Words. -/
namespace Go.Proofs.YticpdepbgcagaaaGreat
open Go.RowKit Go.Qc
attribute [local go_sem] iv_add iv_and iv_or iv_xor iv_shl iv_shr iv_inj iv_i64 iv_mod2 ib_fold ib_lo_of ib_lo_mod iv_up_of iv_div8 iv_div16 iv_div24 iv_tmod256 ib_u8

attribute [local go_sem] iv_shl8
theorem up_lo (y : BitVec 32) : (y >>> 8) <<< 8 ||| upW (loB y) = y := by
  apply BitVec.eq_of_getLsbD_eq
  intro i hi
  have hu : upW (loB y) = BitVec.ofNat 32 (y.toNat % 256) := by
    unfold upW loB; rw [UInt8.toNat_ofNat']
  rw [BitVec.getLsbD_or, BitVec.getLsbD_shiftLeft, BitVec.getLsbD_ushiftRight, hu, BitVec.getLsbD_ofNat]
  have h256 : (256 : Nat) = 2 ^ 8 := rfl
  rw [h256, Nat.testBit_mod_two_pow]
  by_cases h : i < 8
  · simp [h, hi, BitVec.getLsbD]
  · have : 8 + (i - 8) = i := by omega
    simp [h, hi, this]

theorem shr32 (x : BitVec 32) : x >>> (32 - 8 * 0) = 0#32 := by
  apply BitVec.eq_of_toNat_eq
  rw [BitVec.toNat_ushiftRight, Nat.shiftRight_eq_div_pow, Nat.div_eq_of_lt x.isLt]; rfl
theorem set_more {cs : Array Value} {ws : List (BitVec 32)} {n k : Nat} {x : BitVec 32} (hcs : cs.size = n) (hk : k < n) (hx : ws[k]? = some x) (h : ∀ j : Nat, j < k → cs[j]? = (ws[j]?).map u32v) :
    ∀ j : Nat, j < k + 1 → (cs.setIfInBounds k (.int .u32 (iv x)))[j]? = (ws[j]?).map u32v := by
  intro j hj
  rw [Array.getElem?_setIfInBounds]
  by_cases e : k = j
  · subst e; rw [if_pos rfl, if_pos (by omega), hx]; rfl
  · rw [if_neg e]; exact h j (by omega)
theorem step8 (x : BitVec 32) (j : Nat) (hj : j < 4) : x >>> (32 - 8 * j) <<< 8 ||| upW (loB (x >>> (24 - 8 * j))) = x >>> (32 - 8 * (j + 1)) := by
  have e : x >>> (32 - 8 * j) = (x >>> (24 - 8 * j)) >>> 8 := by rw [← BitVec.shiftRight_add]; congr 1; omega
  have e2 : 32 - 8 * (j + 1) = 24 - 8 * j := by omega
  rw [e, up_lo, e2]

set_option maxRecDepth 100000 in
set_option maxHeartbeats 400000 in
theorem words_any (s : ByteArray) (ws : List (BitVec 32)) (n : Nat) (hn : ws.length = n) (hm : n ≤ 1099511627776) (hs : s = txt (wordsB ws)) (w : World) :
    Calls Tryz.prog 118 #[.string s] w fun e w' => ∃ g, e = .returned (.tuple #[.slice (some ⟨g, 0, none⟩) n n, .int .i64 0]) ∧ Rd w' (some ⟨g, 0, none⟩) (ws.map u32v) ∧ Below w.heap.size w w' := by
  obtain ⟨i0, hi, hz0, hz1, hz2⟩ := info_parts infoWord
  have hsz : s.size = 4 * n := by rw [hs, txt_size, wordsB_length, hn]
  have HS := hid hs
  have HZ := hid hsz
  clear hs hsz
  have hq : ((s.size : Int)) / 4 = n := by rw [HZ.out]; omega
  have hr : ((s.size : Int)) % 4 = 0 := by rw [HZ.out]; omega
  have hmk := run_make_n (P := Tryz.prog) 108 142 i0 (.int .u32 0) Tryz.underlying108 hi hz0 hz1 .i64 .i64 n (by rw [hz2]; omega) (by omega) w
  go_enter Tryz.func118, Tryz.ntmps118
  go_wp2
  clear hmk hq hr
  go_loopw [18] (fun i wr => ∃ k : Nat, ∃ cs : Array Value, k ≤ n ∧ i = .int .i64 k ∧ Blk wr w.heap.size 142 cs ∧ cs.size = n ∧ (∀ j, j < k → cs[j]? = (ws[j]?).map u32v) ∧ Below w.heap.size w wr) (fun i _ => n - (intOf i).toNat)
  case atStart => exact ⟨0, _, by omega, rfl, Blk.new _ _ _, size_madeCells _ _, fun j hj => by omega, (Below.refl _ _).alloc (Nat.le_refl _) _⟩
  case round =>
    obtain ⟨k, cs, hk, rfl, hblk, hcs, hj, hb⟩ := hrel
    have HJ := hid hj
    have HN := hid hn
    have HC := hid hcs
    clear hj hn hcs
    by_cases hlt : k < n
    · go_wp2
      obtain ⟨x, hx⟩ : ∃ x, ws[k]? = some x := ⟨_, List.getElem?_eq_getElem (by have := HN.out; omega)⟩
      have HX := hid hx
      clear hx
      go_loop [6, 21] (fun v i => ∃ j : Nat, j ≤ 4 ∧ i = .int .i64 j ∧ v = .int .u32 (iv (x >>> (32 - 8 * j)))) (fun _ i => 4 - (intOf i).toNat)
      case atStart => exact ⟨0, by omega, rfl, by rw [shr32 x]; rfl⟩
      case round =>
        obtain ⟨j, hj, rfl, rfl⟩ := hrel
        by_cases hl : j < 4
        · have hin : 4 * k + j < s.size := by have := HZ.out; omega
          have HB := hid (txt_get HS.out (wordsB_get ws k j x HX.out hl) hin)
          go_wp2
          go_round
          case rel => exact ⟨j + 1, by omega, by go_num, by rw [HB.out, step8 x j hl]⟩
          case measure => simp [intOf]; omega
        · obtain rfl : j = 4 := by omega
          have hfz := hblk.frozen k
          have hcl := hblk.cell_ (i := k) (Array.getElem?_eq_getElem (by have := HC.out; omega))
          go_wp2
          go_roundw
          case rel => exact ⟨k + 1, _, by omega, by go_num, hblk.set k _, by simpa using HC.out, set_more HC.out hlt HX.out HJ.out, hb.setCell (Nat.le_refl _) _⟩
          case measure => simp [intOf]; omega
    · obtain rfl : k = n := by omega
      go_wp2
      go_ret2
      exact ⟨_, rfl, Rd.blk hblk fun j u hu => by rw [List.getElem?_map] at hu; rw [HJ.out j (by have := Option.map_eq_some_iff.1 hu; obtain ⟨a, ha, _⟩ := this; have := (List.getElem?_eq_some_iff.1 ha).1; have := HN.out; omega)]; exact hu, hb⟩

def mk4 (b0 b1 b2 b3 : UInt8) : BitVec 32 := BitVec.ofNat 32 (b0.toNat * 16777216 + b1.toNat * 65536 + b2.toNat * 256 + b3.toNat)
theorem wordB_mk4 (b0 b1 b2 b3 : UInt8) : wordB (mk4 b0 b1 b2 b3) = [b0, b1, b2, b3] := by
  have h0 := b0.toNat_lt
  have h1 := b1.toNat_lt
  have h2 := b2.toNat_lt
  have h3 := b3.toNat_lt
  unfold wordB loB mk4
  simp only [BitVec.toNat_ushiftRight, BitVec.toNat_ofNat, Nat.shiftRight_eq_div_pow, List.cons.injEq, and_true]
  refine ⟨?_, ?_, ?_, ?_⟩ <;> (rw [← UInt8.toNat_inj, UInt8.toNat_ofNat']; omega)
end Go.Proofs.YticpdepbgcagaaaGreat

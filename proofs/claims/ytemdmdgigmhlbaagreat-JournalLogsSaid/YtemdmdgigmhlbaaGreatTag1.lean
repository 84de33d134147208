/- strings.Builder: the contracts of the library, at this program; and a builder of bytes as the calls here use it. -/
import Derived.Test.YtemdmdgigmhlbaaGreatWords
import Derived.Shelf.Strings.Builder1
import Derived.Shelf.Strings.Builder2
import Derived.Lib.Builder
namespace Go.Proofs.YtemdmdgigmhlbaaGreat
open Go.RowKit Go.Qc Go.Shelf
def lays165_ren : Go.Shelf.Ren := ⟨fun | 165 => 73 | 240 => 91 | 241 => 92 | 276 => 99 | 277 => 100 | n => n, fun | 0 => 0 | 3 => 3 | 4 => 4 | 9 => 9 | 20 => 20 | 37 => 56 | 70 => 119 | 72 => 121 | 164 => 152 | 5 => 5 | n => n, fun | n => n⟩
theorem lays165 : Go.Proofs.Lays.n165 Tryz.prog lays165_ren := {
  mixed := by kernel_rfl
  f165 := Tryz.func73.trans (congrArg some (by kernel_rfl))
  f240 := Tryz.func91.trans (congrArg some (by kernel_rfl))
  f241 := Tryz.func92.trans (congrArg some (by kernel_rfl))
  f276 := Tryz.func99.trans (congrArg some (by kernel_rfl))
  f277 := Tryz.func100.trans (congrArg some (by kernel_rfl))
  t0 := Tryz.underlying0
  a0 := Tryz.isAgg0
  z0 := Tryz.sizeOf0
  v0 := Tryz.zeroValue0
  t3 := Tryz.underlying3
  a3 := Tryz.isAgg3
  z3 := Tryz.sizeOf3
  v3 := Tryz.zeroValue3
  t4 := Tryz.underlying4
  a4 := Tryz.isAgg4
  z4 := Tryz.sizeOf4
  v4 := Tryz.zeroValue4
  t9 := Tryz.underlying9
  a9 := Tryz.isAgg9
  z9 := Tryz.sizeOf9
  v9 := Tryz.zeroValue9
  t20 := Tryz.underlying20
  a20 := Tryz.isAgg20
  z20 := Tryz.sizeOf20
  v20 := Tryz.zeroValue20
  t37 := Tryz.underlying56
  a37 := Tryz.isAgg56
  z37 := Tryz.sizeOf56
  v37 := Tryz.zeroValue56
  t70 := Tryz.underlying119
  a70 := Tryz.isAgg119
  z70 := Tryz.sizeOf119
  v70 := Tryz.zeroValue119
  t72 := Tryz.underlying121
  a72 := Tryz.isAgg121
  z72 := Tryz.sizeOf121
  v72 := Tryz.zeroValue121
  t164 := Tryz.underlying152
  a164 := Tryz.isAgg152
  z164 := Tryz.sizeOf152
  v164 := Tryz.zeroValue152 }
theorem bX165 : Builder.Extra Tryz.prog lays165_ren := {
  sizeBuilder := by kernel_rfl
  liesBuilder := by kernel_rfl
  t5 := Tryz.underlying5
  a5 := Tryz.isAgg5
  z5 := Tryz.sizeOf5
  v5 := Tryz.zeroValue5
  infoByte := by kernel_rfl
  cellsByte := by kernel_rfl
  sizeByte := by kernel_rfl
  neB5 := by decide }
def lays166_ren : Go.Shelf.Ren := ⟨fun | 166 => 75 | 240 => 91 | 276 => 99 | n => n, fun | 0 => 0 | 3 => 3 | 4 => 4 | 9 => 9 | 20 => 20 | 37 => 56 | 70 => 119 | 72 => 121 | 75 => 124 | 164 => 152 | 5 => 5 | 80 => 40 | n => n, fun | n => n⟩
theorem lays166 : Go.Proofs.Lays.n166 Tryz.prog lays166_ren := {
  mixed := by kernel_rfl
  f166 := Tryz.func75.trans (congrArg some (by kernel_rfl))
  f240 := Tryz.func91.trans (congrArg some (by kernel_rfl))
  f276 := Tryz.func99.trans (congrArg some (by kernel_rfl))
  t0 := Tryz.underlying0
  a0 := Tryz.isAgg0
  z0 := Tryz.sizeOf0
  v0 := Tryz.zeroValue0
  t3 := Tryz.underlying3
  a3 := Tryz.isAgg3
  z3 := Tryz.sizeOf3
  v3 := Tryz.zeroValue3
  t4 := Tryz.underlying4
  a4 := Tryz.isAgg4
  z4 := Tryz.sizeOf4
  v4 := Tryz.zeroValue4
  t9 := Tryz.underlying9
  a9 := Tryz.isAgg9
  z9 := Tryz.sizeOf9
  v9 := Tryz.zeroValue9
  t20 := Tryz.underlying20
  a20 := Tryz.isAgg20
  z20 := Tryz.sizeOf20
  v20 := Tryz.zeroValue20
  t37 := Tryz.underlying56
  a37 := Tryz.isAgg56
  z37 := Tryz.sizeOf56
  v37 := Tryz.zeroValue56
  t70 := Tryz.underlying119
  a70 := Tryz.isAgg119
  z70 := Tryz.sizeOf119
  v70 := Tryz.zeroValue119
  t72 := Tryz.underlying121
  a72 := Tryz.isAgg121
  z72 := Tryz.sizeOf121
  v72 := Tryz.zeroValue121
  t75 := Tryz.underlying124
  a75 := Tryz.isAgg124
  z75 := Tryz.sizeOf124
  v75 := Tryz.zeroValue124
  t164 := Tryz.underlying152
  a164 := Tryz.isAgg152
  z164 := Tryz.sizeOf152
  v164 := Tryz.zeroValue152 }
theorem bX166 : Builder.Extra Tryz.prog lays166_ren := {
  sizeBuilder := by kernel_rfl
  liesBuilder := by kernel_rfl
  t5 := Tryz.underlying5
  a5 := Tryz.isAgg5
  z5 := Tryz.sizeOf5
  v5 := Tryz.zeroValue5
  infoByte := by kernel_rfl
  cellsByte := by kernel_rfl
  sizeByte := by kernel_rfl
  neB5 := by decide }
def lays167_ren : Go.Shelf.Ren := ⟨fun | 167 => 74 | 240 => 91 | 276 => 99 | n => n, fun | 0 => 0 | 4 => 4 | 5 => 5 | 9 => 9 | 20 => 20 | 37 => 56 | 70 => 119 | 72 => 121 | 75 => 124 | 164 => 152 | 80 => 40 | n => n, fun | n => n⟩
theorem lays167 : Go.Proofs.Lays.n167 Tryz.prog lays167_ren := {
  mixed := by kernel_rfl
  f167 := Tryz.func74.trans (congrArg some (by kernel_rfl))
  f240 := Tryz.func91.trans (congrArg some (by kernel_rfl))
  f276 := Tryz.func99.trans (congrArg some (by kernel_rfl))
  t0 := Tryz.underlying0
  a0 := Tryz.isAgg0
  z0 := Tryz.sizeOf0
  v0 := Tryz.zeroValue0
  t4 := Tryz.underlying4
  a4 := Tryz.isAgg4
  z4 := Tryz.sizeOf4
  v4 := Tryz.zeroValue4
  t5 := Tryz.underlying5
  a5 := Tryz.isAgg5
  z5 := Tryz.sizeOf5
  v5 := Tryz.zeroValue5
  t9 := Tryz.underlying9
  a9 := Tryz.isAgg9
  z9 := Tryz.sizeOf9
  v9 := Tryz.zeroValue9
  t20 := Tryz.underlying20
  a20 := Tryz.isAgg20
  z20 := Tryz.sizeOf20
  v20 := Tryz.zeroValue20
  t37 := Tryz.underlying56
  a37 := Tryz.isAgg56
  z37 := Tryz.sizeOf56
  v37 := Tryz.zeroValue56
  t70 := Tryz.underlying119
  a70 := Tryz.isAgg119
  z70 := Tryz.sizeOf119
  v70 := Tryz.zeroValue119
  t72 := Tryz.underlying121
  a72 := Tryz.isAgg121
  z72 := Tryz.sizeOf121
  v72 := Tryz.zeroValue121
  t75 := Tryz.underlying124
  a75 := Tryz.isAgg124
  z75 := Tryz.sizeOf124
  v75 := Tryz.zeroValue124
  t164 := Tryz.underlying152
  a164 := Tryz.isAgg152
  z164 := Tryz.sizeOf152
  v164 := Tryz.zeroValue152 }
theorem bX167 : Builder.Extra Tryz.prog lays167_ren := {
  sizeBuilder := by kernel_rfl
  liesBuilder := by kernel_rfl
  t5 := Tryz.underlying5
  a5 := Tryz.isAgg5
  z5 := Tryz.sizeOf5
  v5 := Tryz.zeroValue5
  infoByte := by kernel_rfl
  cellsByte := by kernel_rfl
  sizeByte := by kernel_rfl
  neB5 := by decide }
def lays169_ren : Go.Shelf.Ren := ⟨fun | 169 => 77 | n => n, fun | 0 => 0 | 3 => 3 | 9 => 9 | 37 => 56 | 70 => 119 | 72 => 121 | 127 => 141 | 5 => 5 | n => n, fun | n => n⟩
theorem lays169 : Go.Proofs.Lays.n169 Tryz.prog lays169_ren := {
  mixed := by kernel_rfl
  f169 := Tryz.func77.trans (congrArg some (by kernel_rfl))
  t0 := Tryz.underlying0
  a0 := Tryz.isAgg0
  z0 := Tryz.sizeOf0
  v0 := Tryz.zeroValue0
  t3 := Tryz.underlying3
  a3 := Tryz.isAgg3
  z3 := Tryz.sizeOf3
  v3 := Tryz.zeroValue3
  t9 := Tryz.underlying9
  a9 := Tryz.isAgg9
  z9 := Tryz.sizeOf9
  v9 := Tryz.zeroValue9
  t37 := Tryz.underlying56
  a37 := Tryz.isAgg56
  z37 := Tryz.sizeOf56
  v37 := Tryz.zeroValue56
  t70 := Tryz.underlying119
  a70 := Tryz.isAgg119
  z70 := Tryz.sizeOf119
  v70 := Tryz.zeroValue119
  t72 := Tryz.underlying121
  a72 := Tryz.isAgg121
  z72 := Tryz.sizeOf121
  v72 := Tryz.zeroValue121
  t127 := Tryz.underlying141
  a127 := Tryz.isAgg141
  z127 := Tryz.sizeOf141
  v127 := Tryz.zeroValue141 }
theorem bX169 : Builder.Extra Tryz.prog lays169_ren := {
  sizeBuilder := by kernel_rfl
  liesBuilder := by kernel_rfl
  t5 := Tryz.underlying5
  a5 := Tryz.isAgg5
  z5 := Tryz.sizeOf5
  v5 := Tryz.zeroValue5
  infoByte := by kernel_rfl
  cellsByte := by kernel_rfl
  sizeByte := by kernel_rfl
  neB5 := by decide }
theorem bld_grow (b n : Nat) (w : World) (hbk : w.heap[b]? = some (.cells #[.pointer none, .slice none 0 0] 121 (0, 0))) (hn : n ≤ 1000000000000) :
    Calls Tryz.prog 73 #[.pointer (some ⟨b, 0, none⟩), .int .i64 n] w fun e w' => e = .returned (.tuple #[]) ∧ (Lib.BuilderAt 121 5 b b (.pointer (some ⟨b, 0, none⟩)) [] w' ∧ Below b w w') :=
  Any.Builder_Grow_fresh lays165 bX165 b b n w (Nat.le_refl _) hbk (Nat.le_of_lt (Array.getElem?_eq_some_iff.1 hbk).1) (by omega)
theorem bld_byte (b : Nat) (l : List UInt8) (c : UInt8) (w : World) (h : Lib.BuilderAt 121 5 b b (.pointer (some ⟨b, 0, none⟩)) (l.map u8v) w) (hl : l.length ≤ 1000000000000) :
    Calls Tryz.prog 74 #[.pointer (some ⟨b, 0, none⟩), .int .u8 (ib c)] w fun e w' => e = .returned .nilIface ∧ (Lib.BuilderAt 121 5 b b (.pointer (some ⟨b, 0, none⟩)) ((l ++ [c]).map u8v) w' ∧ Below b w w') := by
  have := Any.Builder_WriteByte lays167 bX167 b b (l.map u8v) (ib c) w (.inr h) (by rw [List.length_map]; omega) (Nat.le_of_lt h.lt)
  rw [List.map_append]
  exact this
theorem bld_string (b : Nat) (l r : List UInt8) (w : World) (h : Lib.BuilderAt 121 5 b b (.pointer (some ⟨b, 0, none⟩)) (l.map u8v) w) (hl : l.length + r.length ≤ 1000000000000) :
    Calls Tryz.prog 75 #[.pointer (some ⟨b, 0, none⟩), .string (txt r)] w fun e w' => e = .returned (.tuple #[.int .i64 r.length, .nilIface]) ∧ (Lib.BuilderAt 121 5 b b (.pointer (some ⟨b, 0, none⟩)) ((l ++ r).map u8v) w' ∧ Below b w w') := by
  have := Any.Builder_WriteString lays166 bX166 b b (l.map u8v) (txt r) w (.inr h) (by rw [List.length_map, txt_size]; omega) (Nat.le_of_lt h.lt)
  rw [List.map_append]
  rw [txt_size] at this
  exact this
theorem bld_text (b : Nat) (l : List UInt8) (w : World) (h : Lib.BuilderAt 121 5 b b (.pointer (some ⟨b, 0, none⟩)) (l.map u8v) w) :
    Calls Tryz.prog 77 #[.pointer (some ⟨b, 0, none⟩)] w fun e w' => e = .returned (.string (txt l)) ∧ Below b w w' :=
  Any.Builder_String_any lays169 bX169 b b l w (.inr h) (Nat.le_of_lt h.lt)
/-- a builder stands over what leaves all blocks as they were. -/
theorem bld_below {T e : TypeId} {B b : Nat} {p : Value} {bs : List Value} {w w' : World} (h : Lib.BuilderAt T e B b p bs w) (hb : Below w.heap.size w w') : Lib.BuilderAt T e B b p bs w' := by
  obtain ⟨hB, v, hbk, hown, hne⟩ := h
  refine ⟨hB, v, ?_, own_below hown hb, hne⟩
  exact (hb.block b (Array.getElem?_eq_some_iff.1 hbk).1).trans hbk
theorem bld_byten (b : Nat) (l : List UInt8) (n : Nat) (hn : n ≤ 255) (w : World) (h : Lib.BuilderAt 121 5 b b (.pointer (some ⟨b, 0, none⟩)) (l.map u8v) w) (hl : l.length ≤ 1000000000000) :
    Calls Tryz.prog 74 #[.pointer (some ⟨b, 0, none⟩), .int .u8 n] w fun e w' => e = .returned .nilIface ∧ (Lib.BuilderAt 121 5 b b (.pointer (some ⟨b, 0, none⟩)) ((l ++ [UInt8.ofNat n]).map u8v) w' ∧ Below b w w') := by
  have := bld_byte b l (UInt8.ofNat n) w h hl
  rw [show ib (UInt8.ofNat n) = (n : Int) by unfold ib; rw [UInt8.toNat_ofNat']; omega] at this
  exact this

end Go.Proofs.YtemdmdgigmhlbaaGreat
/- Numbers as bytes, bits of texts: the contracts of package word's calls and of the document's answers. -/
namespace Go.Proofs.YtemdmdgigmhlbaaGreat
open Go.RowKit Go.Qc
attribute [local go_sem] ib_fold lv_add lv_mul256 lv_or lv_shr lv_div256 lv_shl8 lv_tdiv256 lv_mod256 lv_tmod256 lv_u8 lv_up lv_w64 lv_inj txt_append ib_u8 ib_shr ib_div2 ib_tdiv2 ib_mod2 ib_tmod2 ib_and1 ib_i64 ib_w64 ib_inj

theorem take_all (s : ByteArray) : s.data.toList.take s.size = s.data.toList := List.take_of_length_le (Nat.le_of_eq rfl)
theorem valB_take (s : ByteArray) (k : Nat) (h : k < s.size) : valB (s.data.toList.take (k + 1)) 0#64 = valB (s.data.toList.take k) 0#64 <<< 8 ||| up64 s[k] := by
  rw [take_snoc (x := s[k]) (by rw [List.getElem?_eq_getElem (by exact h)]; rfl), valB_snoc]

set_option maxHeartbeats 400000 in
theorem rvalue_any (s : ByteArray) (hs : s.size ≤ maxLen) (w : World) :
    Calls Tryz.prog 96 #[.string s] w fun e w' => e = .returned (.int .u64 (lv (valB s.data.toList 0#64))) ∧ w = w' := by
  unfold maxLen at hs
  go_enter Tryz.func96, Tryz.ntmps96
  go_wp2
  go_loop [3, 4] (fun v i => ∃ k : Nat, k ≤ s.size ∧ i = .int .i64 k ∧ v = .int .u64 (lv (valB (s.data.toList.take k) 0#64))) (fun _ i => s.size - (intOf i).toNat)
  case atStart => exact ⟨0, by omega, rfl, rfl⟩
  case round =>
    obtain ⟨k, hk, rfl, rfl⟩ := hrel
    by_cases hlt : k < s.size
    · have HT := hid (valB_take s k hlt)
      go_wp2
      go_round
      case rel => exact ⟨k + 1, by omega, by go_num, by rw [HT.out, shl8_or]⟩
      case measure => simp [intOf]; omega
    · obtain rfl : k = s.size := by omega
      go_wp2
      go_ret
      rw [take_all]
      exact ⟨rfl, rfl⟩

/-! ### Number -/
theorem bytes_more {cs : Array Value} {v : BitVec 64} {k : Nat} (hcs : cs.size = 8) (hk : k < 8) (h : ∀ j : Nat, j < k → cs[j]? = some (u8v (lo64 (v >>> (8 * (7 - j)))))) :
    ∀ j : Nat, j < k + 1 → (cs.setIfInBounds k (.int .u8 (ib (lo64 (v >>> (8 * (7 - k)))))))[j]? = some (u8v (lo64 (v >>> (8 * (7 - j))))) := by
  intro j hj
  rw [Array.getElem?_setIfInBounds]
  by_cases e : k = j
  · subst e; rw [if_pos rfl, if_pos (by omega)]; rfl
  · rw [if_neg e]; exact h j (by omega)
theorem fits_iff (v : BitVec 64) (n : Nat) : v >>> (8 * n) = 0#64 ↔ v.toNat < 256 ^ n := by
  have h256 : (256 : Nat) ^ n = 2 ^ (8 * n) := by rw [Nat.pow_mul]
  rw [h256, ← BitVec.toNat_inj, BitVec.toNat_ushiftRight, Nat.shiftRight_eq_div_pow]
  show _ = 0 ↔ _
  rw [Nat.div_eq_zero_iff]
  have : 0 < 2 ^ (8 * n) := Nat.two_pow_pos _
  omega

set_option maxHeartbeats 400000 in
theorem number_any (v : BitVec 64) (n : Nat) (hn : n ≤ 8) (h : v >>> (8 * n) = 0#64) (w : World) :
    Calls Tryz.prog 76 #[.int .u64 (lv v), .int .i64 n] w fun e w' => e = .returned (.tuple #[.string (txt (numB v n)), .bool true]) ∧ Below w.heap.size w w' := by
  have h0 : ¬ (n : Int) < 0 := by omega
  have h1 : ¬ (8 : Int) < n := by omega
  have e1 : (8 * (n : Int)).toNat = 8 * n := by omega
  have h2 : (0 : Int) ≤ 8 * n := by omega
  have h3 : 8 * (n : Int) ≤ 64 := by omega
  have hb : (lv (v >>> (8 * n)) == 0) = true := by rw [h]; rfl
  clear h
  go_enter Tryz.func76, Tryz.ntmps76
  go_wp2
  go_loopw [21] (fun i wr => ∃ k : Nat, ∃ cs : Array Value, k ≤ 8 ∧ i = .int .i64 k ∧ Blk wr w.heap.size 106 cs ∧ cs.size = 8 ∧ (∀ j, j < k → cs[j]? = some (u8v (lo64 (v >>> (8 * (7 - j)))))) ∧ Below w.heap.size w wr) (fun i _ => 8 - (intOf i).toNat)
  case atStart => exact ⟨0, _, by omega, rfl, Blk.new _ _ _, rfl, fun j hj => by omega, (Below.refl _ _).alloc (Nat.le_refl _) _⟩
  case round =>
    obtain ⟨k, cs, hk, rfl, hblk, hcs, hj, hbl⟩ := hrel
    have HJ := hid hj
    have HC := hid hcs
    clear hj hcs
    by_cases hlt : k < 8
    · have hfz := hblk.frozen k
      have hcl := hblk.cell_ (i := k) (Array.getElem?_eq_getElem (by have := HC.out; omega))
      have g0 : (0 : Int) ≤ 8 * (7 - k) := by omega
      have g1 : 8 * (7 - (k : Int)) ≤ 56 := by omega
      have g2 : (8 * (7 - (k : Int))).toNat = 8 * (7 - k) := by omega
      go_wp2
      go_roundw
      case rel => exact ⟨k + 1, _, by omega, by go_num, hblk.set k _, by simpa using HC.out, bytes_more HC.out hlt HJ.out, hbl.setCell (Nat.le_refl _) _⟩
      case measure => simp [intOf]; omega
    · obtain rfl : k = 8 := by omega
      obtain ⟨i0, hi, hz0, hz1, hz2⟩ := info_parts infoByte
      have hsl := run_slice_arr (P := Tryz.prog) wr 106 5 w.heap.size 8 (8 - n) i0 Tryz.underlying106 hi hz1 (by omega) .i64
      rw [show (((8 - n : Nat)) : Int) = 8 - (n : Int) by omega, show 8 - (8 - n) = n by omega] at hsl
      have hrd : Rd wr (some ⟨w.heap.size, if 8 = 8 - n then 0 else 8 - n, none⟩) ((numB v n).map u8v) := by
        by_cases hz : n = 0
        · subst hz; exact .inl rfl
        · rw [if_neg (by omega)]
          refine .inr ⟨_, rfl, fun j u hu => ?_⟩
          rw [List.getElem?_map] at hu
          obtain ⟨b, hb1, rfl⟩ := Option.map_eq_some_iff.1 hu
          have hjn : j < n := by have := (List.getElem?_eq_some_iff.1 hb1).1; rwa [numB_length] at this
          rw [numB_get v n j hjn] at hb1
          obtain rfl := Option.some.inj hb1
          have e : (⟨w.heap.size, 8 - n, none⟩ : Addr).add j = ⟨w.heap.size, 8 - n + j, none⟩ := by unfold Addr.add; split <;> simp_all
          rw [e, hblk.cell, HJ.out (8 - n + j) (by omega), show 7 - (8 - n + j) = n - 1 - j by omega]
      obtain ⟨off, hoff⟩ : ∃ off, off = if 8 = 8 - n then 0 else 8 - n := ⟨_, rfl⟩
      rw [← hoff] at hsl hrd
      clear hoff
      have hconv := run_txt (P := Tryz.prog) wr 56 9 5 _ n n _ Tryz.underlying56 Tryz.underlying5 Tryz.underlying9 (numB_length v n).symm hrd
      clear hi hz0 hz1 hz2 hrd
      go_wp2
      go_ret2
      exact ⟨rfl, hbl⟩

/-! ### the document's Number -/
def pow256 (n : Nat) : BitVec 64 := BitVec.ofNat 64 (256 ^ n)
theorem pow256_succ (n : Nat) : 256#64 * pow256 n = pow256 (n + 1) := by
  unfold pow256
  apply BitVec.eq_of_toNat_eq
  rw [BitVec.toNat_mul, BitVec.toNat_ofNat, BitVec.toNat_ofNat, BitVec.toNat_ofNat, ← Nat.mul_mod, Nat.mul_comm]
  rfl
theorem pow256_nat (n : Nat) (h : n ≤ 7) : (pow256 n).toNat = 256 ^ n := by
  unfold pow256; rw [BitVec.toNat_ofNat]
  exact Nat.mod_eq_of_lt (Nat.lt_of_le_of_lt (Nat.pow_le_pow_right (by decide) h) (by decide))

set_option maxHeartbeats 400000 in
theorem power_any (n : Nat) (hn : n ≤ 8) (w : World) :
    Calls Tryz.prog 98 #[.int .i64 n] w fun e w' => e = .returned (.int .u64 (lv (pow256 n))) ∧ w = w' := by
  go_enter Tryz.func98, Tryz.ntmps98
  go_wp2
  go_loop [3, 4] (fun v i => ∃ k : Nat, k ≤ n ∧ i = .int .i64 k ∧ v = .int .u64 (lv (pow256 k))) (fun _ i => n - (intOf i).toNat)
  case atStart => exact ⟨0, by omega, rfl, rfl⟩
  case round =>
    obtain ⟨k, hk, rfl, rfl⟩ := hrel
    by_cases hlt : k < n
    · go_wp2
      go_round
      case rel => exact ⟨k + 1, by omega, by go_num, by rw [pow256_succ]⟩
      case measure => simp [intOf]; omega
    · obtain rfl : k = n := by omega
      go_wp2
      go_ret
      exact ⟨rfl, rfl⟩

set_option maxHeartbeats 400000 in
theorem rnumber_any (v : BitVec 64) (n : Nat) (hn : n ≤ 8) (h : v >>> (8 * n) = 0#64) (w : World) :
    Calls Tryz.prog 85 #[.int .u64 (lv v), .int .i64 n] w fun e w' => e = .returned (.tuple #[.string (txt (numB v n)), .bool true]) ∧ Below w.heap.size w w' := by
  have hv : n ≤ 7 → ¬ lv (pow256 n) ≤ lv v := by
    intro h8
    rw [fits_iff] at h
    unfold lv; rw [pow256_nat n h8]; omega
  have h0 : ¬ (n : Int) < 0 := by omega
  have h1 : ¬ (8 : Int) < n := by omega
  clear h
  go_enter Tryz.func85, Tryz.ntmps85
  by_cases h8 : n ≤ 7
  all_goals
    have h2 := h8
    first | (replace hv := hv h8; have h2 : (n : Int) < 8 := by omega) | (clear hv; have h2 : ¬ (n : Int) < 8 := by omega)
    go_wp2_with (go_at_call 98; (with_reducible refine (power_any n (by omega) _).mono ?_); rintro e w' ⟨rfl, rfl⟩)
    go_loopw [0, 6, 7] (fun x t i wr => ∃ k : Nat, k ≤ n ∧ i = .int .i64 k ∧ x = .int .u64 (lv (v >>> (8 * k))) ∧ t = .string (txt (numB v k)) ∧ Below w.heap.size w wr) (fun _ _ i _ => n - (intOf i).toNat)
    case atStart => exact ⟨0, by omega, rfl, by simp, rfl, Below.refl _ _⟩
    case round =>
      obtain ⟨k, hk, rfl, rfl, rfl, hb⟩ := hrel
      by_cases hlt : k < n
      · have hconv := run_txt (P := Tryz.prog) (wr.alloc (.cells #[.int .u8 (ib (lo64 (v >>> (8 * k))))] 5)) 56 9 5 (some ⟨wr.heap.size, 0, none⟩) 1 1 [lo64 (v >>> (8 * k))] Tryz.underlying56 Tryz.underlying5 Tryz.underlying9 rfl
          (Rd.blk (Blk.new _ _ _) (fun j u hu => by simpa [u8v] using hu))
        have hsz : ¬ 9223372036854775807 < (txt [lo64 (v >>> (8 * k))]).size + (txt (numB v k)).size := by rw [txt_size, txt_size, numB_length]; simp; omega
        go_wp2
        go_roundw
        case rel => exact ⟨k + 1, by omega, by go_num, by rw [← BitVec.shiftRight_add]; rfl, rfl, hb.alloc hb.size _⟩
        case measure => simp [intOf]; omega
      · obtain rfl : k = n := by omega
        go_wp2
        go_ret2
        exact ⟨rfl, hb⟩
end Go.Proofs.YtemdmdgigmhlbaaGreat
/- tag: the text of a name and parts, of the program and of the document. -/
namespace Go.Proofs.YtemdmdgigmhlbaaGreat
open Go.RowKit Go.Qc
attribute [local go_sem] txt_size txt_append ib_fold

def partB (p : List UInt8) : List UInt8 := numB (BitVec.ofNat 64 p.length) 8 ++ p
def textB (n : List UInt8) (ps : List (List UInt8)) : List UInt8 := [UInt8.ofNat n.length] ++ n ++ ps.flatMap partB
theorem partB_length (p : List UInt8) : (partB p).length = 8 + p.length := by rw [partB, List.length_append, numB_length]
theorem textB_snoc (n : List UInt8) (ps : List (List UInt8)) (p : List UInt8) : textB n (ps ++ [p]) = textB n ps ++ (numB (BitVec.ofNat 64 p.length) 8 ++ p) := by simp [textB, partB, List.append_assoc]
theorem textB_nil (n : List UInt8) : textB n [] = [UInt8.ofNat n.length] ++ n := by simp [textB]
theorem textB_take_le (n : List UInt8) (ps : List (List UInt8)) (k : Nat) : (textB n (ps.take k)).length ≤ (textB n ps).length := by
  have h : ps.flatMap partB = (ps.take k).flatMap partB ++ (ps.drop k).flatMap partB := by rw [← List.flatMap_append, List.take_append_drop]
  simp only [textB, h, List.length_append]; omega
theorem textB_ge (n : List UInt8) (ps : List (List UInt8)) : ps.length ≤ (textB n ps).length := by
  induction ps with
  | nil => simp
  | cons p ps ih => simp only [textB, List.length_append, List.length_cons, List.flatMap_cons, partB_length] at *; omega
theorem lv_len (n : Nat) (h : n ≤ 1000000000000) : (n : Int) = lv (BitVec.ofNat 64 n) := by
  unfold lv; rw [BitVec.toNat_ofNat]; omega
theorem number_len (n : Nat) (h : n ≤ 1000000000000) (w : World) :
    Calls Tryz.prog 76 #[.int .u64 n, .int .i64 8] w fun e w' => e = .returned (.tuple #[.string (txt (numB (BitVec.ofNat 64 n) 8)), .bool true]) ∧ Below w.heap.size w w' := by
  have := number_any (BitVec.ofNat 64 n) 8 (by decide) (by rw [fits_iff]; exact (BitVec.ofNat 64 n).isLt) w
  rw [← lv_len n h] at this
  exact this
theorem rnumber_len (n : Nat) (h : n ≤ 1000000000000) (w : World) :
    Calls Tryz.prog 85 #[.int .u64 n, .int .i64 8] w fun e w' => e = .returned (.tuple #[.string (txt (numB (BitVec.ofNat 64 n) 8)), .bool true]) ∧ Below w.heap.size w w' := by
  have := rnumber_any (BitVec.ofNat 64 n) 8 (by decide) (by rw [fits_iff]; exact (BitVec.ofNat 64 n).isLt) w
  rw [← lv_len n h] at this
  exact this
set_option maxRecDepth 100000 in
set_option maxHeartbeats 1000000 in
theorem text_any (nm : List UInt8) (hnm : nm.length ≤ 255) (A : Option Addr) (n c : Nat) (ps : List (List UInt8)) (hn : ps.length = n) (hm : (textB nm ps).length ≤ 1000000000000) (w : World) (hr : Rd w A (ps.map strV)) :
    Calls Tryz.prog 58 #[.string (txt nm), .slice A n c] w fun e w' => e = .returned (.tuple #[.string (txt (textB nm ps)), .int .i64 0]) ∧ Below w.heap.size w w' := by
  have l0 : ¬ (255 : Int) < nm.length := by omega
  have hge := textB_ge nm ps
  rw [hn] at hge
  have hnb : n ≤ 1000000000000 := by omega
  clear hge
  go_enter Tryz.func58, Tryz.ntmps58
  go_wp2
  go_loop [6, 22] (fun v i => ∃ k : Nat, k ≤ n ∧ i = .int .i64 k ∧ v = .int .i64 ((textB nm (ps.take k)).length : Nat)) (fun _ i => n - (intOf i).toNat)
  case atStart => exact ⟨0, by omega, rfl, by rw [List.take_zero, textB_nil]; simp; omega⟩
  case round =>
    obtain ⟨k, hk, rfl, rfl⟩ := hrel
    have hle := textB_take_le nm ps k
    by_cases hlt : k < n
    · obtain ⟨p, hp⟩ : ∃ p, ps[k]? = some p := ⟨_, List.getElem?_eq_getElem (by omega)⟩
      obtain ⟨ad, rfl, hcell⟩ := rd_in hr k (strV p) (by rw [List.getElem?_map, hp]; rfl)
      unfold strV at hcell
      have HT := hid (take_snoc hp)
      have hle2 := textB_take_le nm ps (k + 1)
      rw [HT.out, textB_snoc, List.length_append, List.length_append, numB_length] at hle2
      generalize hL : (textB nm (ps.take k)).length = L at *
      have HL := hid hL
      clear hL
      have b1 : (k : Int) < n := by omega
      go_wp2
      go_round
      case rel => exact ⟨k + 1, hlt, by go_num, by rw [HT.out, textB_snoc, List.length_append, List.length_append, numB_length, HL.out]; go_num⟩
      case measure => simp [intOf]; omega
    · obtain rfl : k = n := by omega
      have HN := hid hn
      rw [List.take_of_length_le (by omega)] at hle ⊢
      clear hn hle
      generalize hL : (textB nm ps).length = L at *
      have HL := hid hL
      clear hL
      have b1 : ¬ (k : Int) < k := by omega
      go_wp2_with (first
        | (go_at_call 73; (with_reducible refine (bld_grow _ L _ (heap_alloc_new _ _) hm).mono ?_); rintro e1 w1 ⟨rfl, hb1, hB1⟩))
      go_wp2_with (first
        | (go_at_call 74; (with_reducible refine (bld_byten _ [] nm.length hnm _ hb1 (by simp)).mono ?_); rintro e2 w2 ⟨rfl, hb2, hB2⟩)
        | (go_at_call 75; (with_reducible refine (bld_string _ _ nm _ hb2 (by simp; omega)).mono ?_); rintro e3 w3 ⟨rfl, hb3, hB3⟩))
      have HL1 := HL.out
      clear HL
      subst HL1
      have hB3' : Below w.heap.size w w3 := ((((Below.refl _ w).alloc (Nat.le_refl _) _).trans hB1).trans hB2).trans hB3
      rw [List.nil_append, ← textB_nil] at hb3
      clear hb1 hb2 hB1 hB2 hB3
      obtain ⟨g, hg⟩ : ∃ g, g = w.heap.size := ⟨_, rfl⟩
      rw [← hg] at hb3 hB3' ⊢
      have hr := fun W (h : Below g w W) => hr.below (w' := W) (by rw [← hg]; exact h)
      have HG := hid hg
      clear hg
      go_loopw [42] (fun i wr => ∃ j : Nat, j ≤ k ∧ i = .int .i64 j ∧ Lib.BuilderAt 121 5 g g (.pointer (some ⟨g, 0, none⟩)) ((textB nm (ps.take j)).map u8v) wr ∧ Below g w wr) (fun i _ => k - (intOf i).toNat)
      case atStart => exact ⟨0, by omega, rfl, by rw [List.take_zero]; exact hb3, hB3'⟩
      case round =>
        obtain ⟨j, hj, rfl, hb, hB⟩ := hrel
        clear hb3 hB3'
        by_cases hlt : j < k
        · obtain ⟨p, hp⟩ : ∃ p, ps[j]? = some p := ⟨_, List.getElem?_eq_getElem (by have := HN.out; omega)⟩
          obtain ⟨ad, rfl, hcell⟩ := rd_in (hr _ hB) j (strV p) (by rw [List.getElem?_map, hp]; rfl)
          unfold strV at hcell
          have HT := hid (take_snoc hp)
          have hle := textB_take_le nm ps (j + 1)
          rw [HT.out, textB_snoc, List.length_append, List.length_append, numB_length] at hle
          generalize hQ : textB nm (ps.take j) = Q at *
          have HQ := hid hQ
          clear hQ hr hp
          have b2 : (j : Int) < k := by omega
          have hGw : g ≤ wr.heap.size := Nat.le_of_lt hb.lt
          have hpl : p.length ≤ 1000000000000 := by omega
          have HP := hid hpl
          have hq1 : Q.length + (numB (BitVec.ofNat 64 p.length) 8).length ≤ 1000000000000 := by rw [numB_length]; omega
          have hq2 : (Q ++ numB (BitVec.ofNat 64 p.length) 8).length + p.length ≤ 1000000000000 := by rw [List.length_append, numB_length]; omega
          have HQ1 := hid hq1
          have HQ2 := hid hq2
          clear hq1 hq2 hle
          go_wp2_with (first
            | (go_at_call 76; (with_reducible refine (number_len _ HP.out _).mono ?_); rintro e4 w4 ⟨rfl, hB4⟩)
            | (go_at_call 75; (with_reducible refine (bld_string g Q (numB (BitVec.ofNat 64 p.length) 8) _ (bld_below hb hB4) HQ1.out).mono ?_); rintro e5 w5 ⟨rfl, hb5, hB5⟩)
            | (go_at_call 75; (with_reducible refine (bld_string _ _ p _ hb5 HQ2.out).mono ?_); rintro e6 w6 ⟨rfl, hb6, hB6⟩))
          go_roundw
          case rel => exact ⟨j + 1, hlt, by go_num, by rw [HT.out, textB_snoc, HQ.out, ← List.append_assoc]; exact hb6, ((hB.trans (hB4.mono hGw)).trans hB5).trans hB6⟩
          case measure => simp [intOf]; omega
        · obtain rfl : j = k := by omega
          rw [List.take_of_length_le (by have := HN.out; omega)] at hb
          have b2 : ¬ (j : Int) < j := by omega
          go_wp2_with (first
            | (go_at_call 77; (with_reducible refine (bld_text _ _ _ hb).mono ?_); rintro e7 w7 ⟨rfl, hB7⟩))
          go_ret2
          exact ⟨rfl, by rw [← HG.out]; exact hB.trans hB7⟩

set_option maxRecDepth 100000 in
set_option maxHeartbeats 1000000 in
theorem rtext_any (nm : List UInt8) (hnm : nm.length ≤ 255) (A : Option Addr) (n c : Nat) (ps : List (List UInt8)) (hn : ps.length = n) (hm : (textB nm ps).length ≤ 1000000000000) (w : World) (hr : Rd w A (ps.map strV)) :
    Calls Tryz.prog 61 #[.string (txt nm), .slice A n c] w fun e w' => e = .returned (.string (txt (textB nm ps))) ∧ Below w.heap.size w w' := by
  have hge := textB_ge nm ps
  rw [hn] at hge
  have hnb : n ≤ 1000000000000 := by omega
  clear hge
  go_enter Tryz.func61, Tryz.ntmps61
  have hv : u8v (UInt8.ofNat nm.length) = .int .u8 nm.length := by
    unfold u8v ib; rw [UInt8.toNat_ofNat']; congr 1; omega
  have hconv := run_txt (P := Tryz.prog) (w.alloc (Obj.cells #[.int .u8 nm.length] 5)) 56 9 5 (some ⟨w.heap.size, 0, none⟩) 1 1 [UInt8.ofNat nm.length] Tryz.underlying56 Tryz.underlying5 Tryz.underlying9 rfl (Rd.blk (Blk.new _ _ _) (by
    intro j u hu
    rw [List.map_cons, hv, List.map_nil] at hu
    rw [List.getElem?_toArray]; exact hu))
  clear hv
  go_wp2
  go_loopw [5, 6] (fun v i wr => ∃ k : Nat, k ≤ n ∧ i = .int .i64 k ∧ v = .string (txt (textB nm (ps.take k))) ∧ Below w.heap.size w wr) (fun _ i _ => n - (intOf i).toNat)
  case atStart => exact ⟨0, by omega, rfl, by rw [List.take_zero, textB_nil]; rfl, (Below.refl _ _).alloc (Nat.le_refl _) _⟩
  case round =>
    obtain ⟨k, hk, rfl, rfl, hB⟩ := hrel
    clear hconv
    by_cases hlt : k < n
    · obtain ⟨p, hp⟩ : ∃ p, ps[k]? = some p := ⟨_, List.getElem?_eq_getElem (by omega)⟩
      obtain ⟨ad, rfl, hcell⟩ := rd_in (hr.below hB) k (strV p) (by rw [List.getElem?_map, hp]; rfl)
      unfold strV at hcell
      have HT := hid (take_snoc hp)
      have hle := textB_take_le nm ps (k + 1)
      rw [HT.out, textB_snoc, List.length_append, List.length_append, numB_length] at hle
      generalize hQ : textB nm (ps.take k) = Q at *
      have HQ := hid hQ
      have b1 : (k : Int) < n := by omega
      have b0 : (0 : Int) ≤ k := by omega
      have hpl : p.length ≤ 1000000000000 := by omega
      have HP := hid hpl
      have z2 : ¬ (9223372036854775807 : Int) < 8 + p.length := by omega
      have z3 : ¬ (9223372036854775807 : Int) < Q.length + (8 + p.length) := by omega
      have z4 : (numB (BitVec.ofNat 64 p.length) 8).length = 8 := numB_length _ _
      clear hQ hr hp hle
      go_wp2_with (first
        | (go_at_call 85; (with_reducible refine (rnumber_len _ HP.out _).mono ?_); rintro e4 w4 ⟨rfl, hB4⟩; have hcell4 := Below.keep hB4 hcell))
      go_roundw
      case rel => exact ⟨k + 1, hlt, by go_num, by rw [HT.out, textB_snoc, HQ.out], hB.trans (hB4.mono hB.size)⟩
      case measure => simp [intOf]; omega
    · obtain rfl : k = n := by omega
      rw [List.take_of_length_le (by omega)]
      have b1 : ¬ (k : Int) < k := by omega
      go_wp2
      go_ret
      exact ⟨rfl, hB⟩
end Go.Proofs.YtemdmdgigmhlbaaGreat

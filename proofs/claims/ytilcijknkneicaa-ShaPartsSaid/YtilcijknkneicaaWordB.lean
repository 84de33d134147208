/- The document's turning, bit by bit: its contracts, and that it is the turning of package word. -/
import Derived.Test.YtilcijknkneicaaWord
namespace Go.Proofs.Ytilcijknkneicaa
open Go.RowKit Go.Qc
attribute [local go_sem] iv_add iv_and iv_or iv_xor iv_shl iv_shr iv_inj iv_i64 iv_mod2

theorem infoInt : (Try.prog.info? 3).map (fun i => (i.zero, i.size, i.bytes)) = some (some (.int .i64 0), 1, 8) := by kernel_rfl

/-- The bits of a word, the highest first. -/
def bitW (x : BitVec 32) (j : Nat) : BitVec 32 := (x >>> j) &&& 1#32
theorem bitW_bit (x : BitVec 32) (j i : Nat) : (bitW x j).getLsbD i = (decide (i = 0) && x.getLsbD j) := by
  unfold bitW
  rw [BitVec.getLsbD_and, BitVec.getLsbD_ushiftRight]
  by_cases h : i = 0
  · subst h; simp
  · have : (1#32).getLsbD i = false := by simp [h]
    rw [this]; simp [h]

/-- Bits put together, the highest first. -/
def horner (f : Nat → BitVec 32) : Nat → BitVec 32
  | 0 => 0#32
  | k + 1 => 2#32 * horner f k + f k

theorem two_mul_add_bit (a b : BitVec 32) (hb : ∀ i, 0 < i → b.getLsbD i = false) (i : Nat) (hi : i < 32) :
    (2#32 * a + b).getLsbD i = if i = 0 then b.getLsbD 0 else a.getLsbD (i - 1) := by
  have h2 : 2#32 * a = a <<< 1 := by
    apply BitVec.eq_of_toNat_eq
    rw [BitVec.toNat_mul, BitVec.toNat_shiftLeft, Nat.shiftLeft_eq]
    show 2 * a.toNat % 2 ^ 32 = _
    omega
  have hz : (a <<< 1) &&& b = 0#32 := by
    apply BitVec.eq_of_getLsbD_eq
    intro j hj
    rw [BitVec.getLsbD_and, BitVec.getLsbD_shiftLeft]
    by_cases h : j = 0
    · subst h; simp
    · rw [hb j (by omega)]; simp
  rw [h2, BitVec.add_eq_or_of_and_eq_zero _ _ hz, BitVec.getLsbD_or, BitVec.getLsbD_shiftLeft]
  by_cases h : i = 0
  · subst h; simp
  · rw [hb i (by omega)]; simp [h, hi]

theorem horner_bit (f : Nat → BitVec 32) (hf : ∀ j i, 0 < i → (f j).getLsbD i = false) (k i : Nat) (hk : k ≤ 32) (hi : i < k) :
    (horner f k).getLsbD i = (f (k - 1 - i)).getLsbD 0 := by
  induction k generalizing i with
  | zero => omega
  | succ k ih =>
    rw [horner, two_mul_add_bit _ _ (hf k) i (by omega)]
    by_cases h : i = 0
    · subst h; simp
    · rw [if_neg h, ih (i - 1) (by omega) (by omega)]
      congr 2
      omega

theorem horner_rotl (x : BitVec 32) (n : Nat) (hn : n < 32) : horner (fun i => bitW x (31 - (i + n) % 32)) 32 = rotl x n := by
  apply BitVec.eq_of_getLsbD_eq
  intro i hi
  rw [horner_bit _ (fun j i h => by rw [bitW_bit]; simp; omega) 32 i (by omega) hi, bitW_bit, rotl_bit _ _ _ hn hi]
  simp only [decide_true, Bool.true_and]
  congr 1
  split <;> omega

def bitVs (x : BitVec 32) (k : Nat) : List Value := (List.range k).map fun j => .int .i64 (iv (bitW x (31 - j)))
theorem bitVs_succ (x : BitVec 32) (k : Nat) : bitVs x (k + 1) = bitVs x k ++ [.int .i64 (iv (bitW x (31 - k)))] := by
  unfold bitVs; rw [List.range_succ, List.map_append]; rfl

set_option maxHeartbeats 400000 in
theorem bits_any (x : BitVec 32) (w : World) :
    Calls Try.prog 31 #[.int .u32 (iv x)] w fun e w' => ∃ v, e = .returned v ∧ w'.ownsRow w.heap.size 3 1 v 32 (bitVs x 32) ∧ Below w.heap.size w w' := by
  obtain ⟨i0, hi, hz0, hz1, hz2⟩ := info_parts infoInt
  go_enter Try.func31, Try.ntmps31
  go_wp2
  go_loopw [3, 4] (fun v i wr => ∃ k : Nat, k ≤ 32 ∧ i = .int .i64 (31 - k) ∧ wr.ownsRow w.heap.size 3 1 v k (bitVs x k) ∧ Below w.heap.size w wr) (fun _ i _ => (intOf i + 1).toNat)
  case atStart => exact ⟨0, by omega, rfl, World.ownsRow_made _ _ _ (Nat.le_refl _) (by decide) rfl, (Below.refl _ _).alloc (Nat.le_refl _) _⟩
  case round =>
    obtain ⟨k, hk, rfl, hown, hb⟩ := hrel
    have hsz := hb.size
    by_cases hlt : k < 32
    · have h0 : (0:Int) ≤ 31 - k := by omega
      have h32 : (31 - (k:Int)) ≤ 31 := by omega
      go_wp2_with (at_builtin; refine wpList_append_new rfl _ _ 56 rfl w.heap.size 3 i0 (.int .i64 0) 8 Try.underlying56 hi hz0 hz1 hz2 rfl _ _ _ rfl hown 1 _ rfl rfl ?c2 ?c3 ?c4 hsz ?_)
      case c2 => simp [Value.oneCell']
      case c3 => unfold maxLen; omega
      case c4 => omega
      intro v' w' hown' hb'
      go_wp2
      go_roundw
      case rel => exact ⟨k + 1, by omega, by go_num, by rw [bitVs_succ]; exact hown', hb.trans hb'⟩
      case measure => simp [intOf]; omega
    · obtain rfl : k = 32 := by omega
      go_wp2
      go_ret
      exact ⟨_, rfl, hown, hb⟩

theorem bitVs_get (x : BitVec 32) (n k : Nat) (h : k < n) : (bitVs x n)[k]? = some (.int .i64 (iv (bitW x (31 - k)))) := by
  unfold bitVs; simp [h]

theorem toWord (x : BitVec 32) : IntKind.u32.wrap (iv x) = iv x := by
  have := iv_lo x; have := iv_hi x; rw [IntKind.wrap_u32']; omega
theorem two_iv (x : BitVec 32) : IntKind.u32.wrap (2 * iv x) = iv (2#32 * x) := by
  unfold iv; rw [IntKind.wrap_u32', BitVec.toNat_mul]
  show _ = (((2 * x.toNat) % 2 ^ 32 : Nat) : Int)
  omega
attribute [local go_sem] toWord two_iv

/-- The document's Word, of 32 cells that are words. -/
theorem word_any (A : Option Addr) (n c : Nat) (f : Nat → BitVec 32) (xs : List Value) (hx : ∀ k, k < 32 → xs[k]? = some (.int .i64 (iv (f k)))) (hn : 32 ≤ n) (hm : n ≤ maxLen) (w : World) (hr : Rd w A xs) :
    Calls Try.prog 32 #[.slice A n c] w fun e w' => e = .returned (.int .u32 (iv (horner f 32))) ∧ w = w' := by
  unfold maxLen at hm
  obtain ⟨ad, rfl, hc⟩ : ∃ ad, A = some ad ∧ ∀ k, k < 32 → w.cell? (ad.add k) = some (.int .i64 (iv (f k))) := by
    rcases hr with rfl | ⟨ad, rfl, hc⟩
    · have := hx 0 (by omega); simp at this
    · exact ⟨ad, rfl, fun k hk => hc k _ (hx k hk)⟩
  have HC := hid hc
  clear hc hx hr
  go_enter Try.func32, Try.ntmps32
  go_wp2
  go_loop [3, 4] (fun v i => ∃ k : Nat, k ≤ 32 ∧ i = .int .i64 k ∧ v = .int .u32 (iv (horner f k))) (fun _ i => 32 - (intOf i).toNat)
  case atStart => exact ⟨0, by omega, rfl, rfl⟩
  case round =>
    obtain ⟨k, hk, rfl, rfl⟩ := hrel
    by_cases hlt : k < 32
    · have hcell := HC.out k hlt
      have hkn : k < n := by omega
      go_wp2
      go_round
      case rel => exact ⟨k + 1, by omega, by go_num, rfl⟩
      case measure => simp [intOf]; omega
    · obtain rfl : k = 32 := by omega
      go_wp2
      go_ret
      exact ⟨rfl, rfl⟩

def turnVs (x : BitVec 32) (n k : Nat) : List Value := (List.range k).map fun j => .int .i64 (iv (bitW x (31 - (j + n) % 32)))
theorem turnVs_succ (x : BitVec 32) (n k : Nat) : turnVs x n (k + 1) = turnVs x n k ++ [.int .i64 (iv (bitW x (31 - (k + n) % 32)))] := by
  unfold turnVs; rw [List.range_succ, List.map_append]; rfl
theorem turnVs_get (x : BitVec 32) (m n k : Nat) (h : k < n) : (turnVs x m n)[k]? = some (.int .i64 (iv (bitW x (31 - (k + m) % 32)))) := by
  unfold turnVs; simp [h]

set_option maxHeartbeats 400000 in
theorem rleft_any (x : BitVec 32) (n : Nat) (hn : n < 32) (w : World) :
    Calls Try.prog 12 #[.int .u32 (iv x), .int .i64 n] w fun e w' => e = .returned (.int .u32 (iv (rotl x n))) ∧ Below w.heap.size w w' := by
  obtain ⟨i0, hi, hz0, hz1, hz2⟩ := info_parts infoInt
  go_enter Try.func12, Try.ntmps12
  go_wp2_with (go_at_call 31; refine (bits_any _ _).mono ?_; rintro e w1 ⟨v, rfl, hown, hb⟩)
  obtain ⟨hl, A, c, rfl, hrd⟩ := Rd.own hown
  have hsz := hb.size
  go_wp2
  go_loopw [6, 7] (fun v i wr => ∃ k : Nat, k ≤ 32 ∧ i = .int .i64 k ∧ wr.ownsRow w1.heap.size 3 1 v k (turnVs x n k) ∧ Below w1.heap.size w1 wr) (fun _ i _ => 32 - (intOf i).toNat)
  case atStart => exact ⟨0, by omega, rfl, World.ownsRow_made _ _ _ (Nat.le_refl _) (by decide) rfl, (Below.refl _ _).alloc (Nat.le_refl _) _⟩
  case round =>
    obtain ⟨k, hk, rfl, hown1, hb1⟩ := hrel
    have hsz1 := hb1.size
    by_cases hlt : k < 32
    · obtain ⟨ad, rfl, hcell⟩ := (hrd.below hb1).at_ (k := (k + n) % 32) (by rw [hl]; omega)
      have hg := bitVs_get x 32 ((k + n) % 32) (by omega)
      rw [List.getElem?_eq_getElem (by rw [hl]; omega)] at hg
      have hg' := Option.some.inj hg
      rw [hg'] at hcell
      clear hg hg'
      go_wp2_with (at_builtin; refine wpList_append_new rfl _ _ 56 rfl w1.heap.size 3 i0 (.int .i64 0) 8 Try.underlying56 hi hz0 hz1 hz2 rfl _ _ _ rfl hown1 1 _ rfl rfl ?c2 ?c3 ?c4 hsz1 ?_)
      case c2 => simp [Value.oneCell']
      case c3 => unfold maxLen; omega
      case c4 => omega
      intro v' w' hown' hb'
      go_wp2
      go_roundw
      case rel => exact ⟨k + 1, by omega, by go_num, by rw [turnVs_succ]; exact hown', hb1.trans hb'⟩
      case measure => simp [intOf]; omega
    · obtain rfl : k = 32 := by omega
      obtain ⟨hl2, A2, c2, rfl, hrd2⟩ := Rd.own hown1
      go_wp2_with (go_at_call 32; refine (word_any _ _ _ (fun j => bitW x (31 - (j + n) % 32)) _ (fun j hj => turnVs_get x n 32 j hj) (by omega) (by decide) _ hrd2).mono ?_; rintro e w2 ⟨rfl, rfl⟩)
      go_ret
      rw [horner_rotl x n hn]
      exact ⟨rfl, hb.trans (hb1.mono hsz)⟩
/-! ### the chapter's examples -/
theorem left_ex (w : World) : Calls Try.prog 10 #[.int .u32 2147483649, .int .i64 1] w fun e w' => e = .returned (.int .u32 3) ∧ w = w' := by
  have h := left_any 2147483649#32 1 w
  have e1 : iv 2147483649#32 = 2147483649 := by decide
  have e2 : iv (rotl 2147483649#32 ((1:Int) % 32).toNat) = 3 := by decide
  rw [e1, e2] at h
  exact h

set_option maxHeartbeats 400000 in
theorem awake1_any (w : World) :
    Calls Try.prog 13 #[] w fun e w' => e = .returned (.bool true) ∧ w = w' := by
  have hbit : wrap64 (bits .and .u8 (((⟨#[64]⟩ : ByteArray)[0]'(by decide)).toNat / 64) 1) = 1 := by kernel_rfl
  go_enter Try.func13, Try.ntmps13
  go_wp2_with (first | (go_at_call 10; refine (left_ex _).mono ?_; rintro e w' ⟨rfl, rfl⟩) | (go_at_call 21; go_in))
  go_ret
  exact ⟨rfl, rfl⟩

end Go.Proofs.Ytilcijknkneicaa

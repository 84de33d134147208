
/- Which of two ids is ahead, by the program and by the document. -/
import Derived.Test.YtlobagjeiocolaaId1
namespace Go.Proofs.Ytlobagjeiocolaa
open Go.RowKit Go.Qc
attribute [local go_sem] txt_size txt_append ib_fold ib_inj

def ltB (a b : List UInt8) : Bool := decide (Lib.compareBytes a b < 0)
theorem cmp_refl : ∀ (a : List UInt8), Lib.compareBytes a a = 0
  | [] => rfl
  | x :: a => by rw [Lib.compareBytes, if_neg (UInt8.lt_irrefl x), if_neg (UInt8.lt_irrefl x)]; exact cmp_refl a
theorem cmp_at : ∀ (a b : List UInt8) (k : Nat) (x y : UInt8), a.take k = b.take k → a[k]? = some x → b[k]? = some y → x ≠ y → Lib.compareBytes a b = if x < y then -1 else 1
  | [], _, k, x, y, _, h, _, _ => by simp at h
  | _ :: _, [], k, x, y, _, _, h, _ => by simp at h
  | u :: a, v :: b, 0, x, y, _, hx, hy, hne => by
    simp at hx hy
    subst hx hy
    rw [Lib.compareBytes]
    by_cases h : u < v
    · rw [if_pos h, if_pos h]
    · have h2 : v < u := by
        rcases UInt8.lt_or_lt_of_ne hne with h3 | h3
        · exact absurd h3 h
        · exact h3
      rw [if_neg h, if_neg h, if_pos h2]
  | u :: a, v :: b, k + 1, x, y, ht, hx, hy, hne => by
    simp only [List.take_succ_cons, List.cons.injEq] at ht
    obtain ⟨rfl, ht⟩ := ht
    rw [Lib.compareBytes, if_neg (UInt8.lt_irrefl u), if_neg (UInt8.lt_irrefl u)]
    exact cmp_at a b k x y ht (by simpa using hx) (by simpa using hy) hne
theorem ltB_at (a b : List UInt8) (k : Nat) (x y : UInt8) (ht : a.take k = b.take k) (hx : a[k]? = some x) (hy : b[k]? = some y) (hne : x ≠ y) : ltB a b = decide (ib x < ib y) := by
  rw [ltB, cmp_at a b k x y ht hx hy hne]
  have e : (x < y) ↔ ib x < ib y := by unfold ib; rw [UInt8.lt_iff_toNat_lt]; omega
  by_cases h : x < y
  · rw [if_pos h, decide_eq_true (e.1 h)]; rfl
  · rw [if_neg h, decide_eq_false (fun h2 => h (e.2 h2))]; rfl
theorem ltB_refl (a : List UInt8) : ltB a a = false := by rw [ltB, cmp_refl]; rfl

set_option maxRecDepth 100000 in
theorem less_any (a b : List UInt8) (ha : a.length = 32) (hb : b.length = 32) (w : World) :
    Calls Try.prog 23 #[.agg (idVals a), .agg (idVals b)] w fun e w' => e = .returned (.bool (ltB a b)) ∧ Below w.heap.size w w' := by
  have hA := (Blk.new w 29 (idVals a)).alloc (.cells (idVals b) 29)
  have hB := Blk.new (w.alloc (.cells (idVals a) 29)) 29 (idVals b)
  have hk : (w.alloc (.cells (idVals a) 29)).heap.size = w.heap.size + 1 := by simp
  rw [hk] at hB
  have hT : Below w.heap.size w ((w.alloc (.cells (idVals a) 29)).alloc (.cells (idVals b) 29)) := two_below w a b
  have HA := hid ha
  have HB := hid hb
  have hRA := range_blk hA
  have hRB := range_blk hB
  have hza : (Try.prog.info? 29).map (·.size) = some (a.map u8v).length := by rw [List.length_map, ha]; exact sizeId
  have hzb : (Try.prog.info? 29).map (·.size) = some (b.map u8v).length := by rw [List.length_map, hb]; exact sizeId
  have hu := Try.underlying29
  clear ha hb hA hB hk
  go_enter Try.func23, Try.ntmps23
  go_wp2_with (first
    | (with_reducible refine wpList_load_if (by with_unfolding_all rfl) 29 _ rfl _ 0 rfl (a.map u8v) _ hRA hu (by with_unfolding_all rfl) hza ?_)
    | (with_reducible refine wpList_load_if (by with_unfolding_all rfl) 29 _ rfl _ 0 rfl (b.map u8v) _ hRB hu (by with_unfolding_all rfl) hzb ?_)
    | (go_at_call 54; refine (order_any a b HA.out HB.out _).mono ?_; rintro e1 w1 ⟨rfl, q, rfl⟩))
  go_ret
  exact ⟨rfl, below_drewN (hT.trans ((two_below _ a b).mono hT.size)) q⟩

set_option maxRecDepth 100000 in
theorem rless_any (a b : List UInt8) (ha : a.length = 32) (hb : b.length = 32) (w : World) :
    Calls Try.prog 24 #[.agg (idVals a), .agg (idVals b)] w fun e w' => e = .returned (.bool (ltB a b)) ∧ Below w.heap.size w w' := by
  have hA := (Blk.new w 29 (idVals a)).alloc (.cells (idVals b) 29)
  have hB := Blk.new (w.alloc (.cells (idVals a) 29)) 29 (idVals b)
  have hk : (w.alloc (.cells (idVals a) 29)).heap.size = w.heap.size + 1 := by simp
  rw [hk] at hB
  have hT : Below w.heap.size w ((w.alloc (.cells (idVals a) 29)).alloc (.cells (idVals b) 29)) := two_below w a b
  have HA := hid ha
  have HB := hid hb
  clear ha hb hk
  go_enter Try.func24, Try.ntmps24
  go_wp2
  generalize (w.alloc (.cells (idVals a) 29)).alloc (.cells (idVals b) 29) = W at *
  go_loopw [5] (fun i wr => ∃ k q : Nat, k ≤ 32 ∧ i = .int .i64 k ∧ a.take k = b.take k ∧ wr = W.drewN q) (fun i _ => 32 - (intOf i).toNat)
  case atStart => exact ⟨0, 0, by omega, rfl, rfl, rfl⟩
  case round =>
    obtain ⟨k, q, hk, rfl, ht, rfl⟩ := hrel
    by_cases hlt : k < 32
    · obtain ⟨x, hx⟩ : ∃ x, a[k]? = some x := ⟨_, List.getElem?_eq_getElem (by rw [HA.out]; exact hlt)⟩
      obtain ⟨y, hy⟩ : ∃ y, b[k]? = some y := ⟨_, List.getElem?_eq_getElem (by rw [HB.out]; exact hlt)⟩
      have hca : (W.drewN q).cell? ⟨w.heap.size, k, none⟩ = some (.int .u8 (ib x)) := hA.cell_ (i := k) (u := .int .u8 (ib x)) (by unfold idVals; rw [List.getElem?_toArray, List.getElem?_map, hx]; rfl)
      have hcb : (W.drewN q).cell? ⟨w.heap.size + 1, k, none⟩ = some (.int .u8 (ib y)) := hB.cell_ (i := k) (u := .int .u8 (ib y)) (by unfold idVals; rw [List.getElem?_toArray, List.getElem?_map, hy]; rfl)
      have b0 : (0 : Int) ≤ k := by omega
      have b1 : (k : Int) < 32 := by omega
      have HX := hid hx
      have HY := hid hy
      have HT := hid ht
      clear hx hy ht hA hB
      generalize hV : W.drewN q = V at *
      have HV := hid hV
      clear hV
      by_cases hne : x = y
      · subst hne
        go_wp2
        go_quiet (fail)
        go_wp2
        go_roundw
        case rel => exact ⟨k + 1, q + nq, hlt, by go_num, by rw [take_snoc HX.out, take_snoc HY.out, HT.out], by rw [← HV.out, World.drewN_drewN]⟩
        case measure => simp [intOf]; omega
      · have hbne : (ib x != ib y) = true := by simp only [bne_iff_ne, ne_eq, ib_inj]; exact hne
        go_wp2
        go_quiet (fail)
        go_wp2
        go_quiet (fail)
        go_wp2
        go_ret
        refine ⟨?_, ?_⟩
        · rw [ltB_at a b k x y HT.out HX.out HY.out hne]; rfl
        · rw [← HV.out]; exact below_drewN (below_drewN (below_drewN hT _) _) _
    · obtain rfl : k = 32 := by omega
      rw [List.take_of_length_le (by rw [HA.out]; exact Nat.le_refl _), List.take_of_length_le (by rw [HB.out]; exact Nat.le_refl _)] at ht
      subst ht
      clear hA hB
      generalize hV : W.drewN q = V at *
      have HV := hid hV
      clear hV
      go_wp2
      go_ret
      refine ⟨by rw [ltB_refl]; rfl, ?_⟩
      rw [← HV.out]; exact below_drewN hT _

/-! ### digits -/
def digV (c : UInt8) : Int := if 48 ≤ ib c ∧ ib c ≤ 57 then ib c - 48 else if 97 ≤ ib c ∧ ib c ≤ 102 then ib c - 87 else -1
set_option maxRecDepth 100000 in
theorem digit_any (c : UInt8) (w : World) :
    Calls Try.prog 53 #[.int .u8 (ib c)] w fun e w' => e = .returned (.int .i64 (digV c)) ∧ w = w' := by
  have l1 := ib_lo c
  have l2 := ib_hi c
  by_cases h1 : 48 ≤ ib c ∧ ib c ≤ 57
  · obtain ⟨h2, h3⟩ := h1
    go_enter Try.func53, Try.ntmps53
    go_wp2
    go_ret
    refine ⟨?_, rfl⟩
    rw [digV, if_pos ⟨h2, h3⟩]; rfl
  · by_cases h4 : 97 ≤ ib c ∧ ib c ≤ 102
    · obtain ⟨h5, h6⟩ := h4
      have h7 : ¬ ib c ≤ 57 := by omega
      have h8 : (48 : Int) ≤ ib c := by omega
      go_enter Try.func53, Try.ntmps53
      go_wp2
      go_ret
      refine ⟨?_, rfl⟩
      rw [digV, if_neg h1, if_pos ⟨h5, h6⟩]
      show Ending.returned (Value.int .i64 _) = _
      congr 2
      omega
    · rw [digV, if_neg h1, if_neg h4]
      go_enter Try.func53, Try.ntmps53
      go_wp2
      all_goals (go_ret; first | exact ⟨rfl, rfl⟩ | (exfalso; omega))
set_option maxRecDepth 100000 in
theorem rdigit_any (c : UInt8) (w : World) :
    Calls Try.prog 55 #[.int .u8 (ib c)] w fun e w' => e = .returned (.int .i64 (digV c)) ∧ w = w' := by
  have l1 := ib_lo c
  have l2 := ib_hi c
  by_cases h1 : 48 ≤ ib c ∧ ib c ≤ 57
  · obtain ⟨h2, h3⟩ := h1
    rw [digV, if_pos ⟨h2, h3⟩]
    go_enter Try.func55, Try.ntmps55
    go_wp2
    go_ret
    exact ⟨rfl, rfl⟩
  · by_cases h4 : 97 ≤ ib c ∧ ib c ≤ 102
    · obtain ⟨h5, h6⟩ := h4
      rw [digV, if_neg h1, if_pos ⟨h5, h6⟩]
      have h7 : ¬ ib c ≤ 57 := by omega
      have h8 : (48 : Int) ≤ ib c := by omega
      go_enter Try.func55, Try.ntmps55
      go_wp2
      go_ret
      exact ⟨rfl, rfl⟩
    · rw [digV, if_neg h1, if_neg h4]
      go_enter Try.func55, Try.ntmps55
      go_wp2
      all_goals (go_ret; first | exact ⟨rfl, rfl⟩ | (exfalso; omega))

/-! ### an id's text -/
def hexT : List UInt8 := [48, 49, 50, 51, 52, 53, 54, 55, 56, 57, 97, 98, 99, 100, 101, 102]
def hexD (n : Nat) : UInt8 := hexT.getD n 0
def hexB (a : List UInt8) : List UInt8 := a.flatMap fun x => [hexD (x.toNat / 16), hexD (x.toNat % 16)]
theorem hexB_snoc (a : List UInt8) (x : UInt8) : hexB (a ++ [x]) = hexB a ++ [hexD (x.toNat / 16), hexD (x.toNat % 16)] := by simp [hexB]
theorem hexB_length (a : List UInt8) : (hexB a).length = 2 * a.length := by
  induction a with
  | nil => rfl
  | cons x a ih => rw [hexB, List.flatMap_cons, List.length_append]; simp only [hexB] at ih; rw [ih]; simp; omega
theorem run_index_hex (n : Nat) (h : n < 16) (w : World) : (Instr.index 9 (.string ⟨#[48, 49, 50, 51, 52, 53, 54, 55, 56, 57, 97, 98, 99, 100, 101, 102]⟩) (.int .u8 (n : Int))).run Try.prog w = .ok (.int .u8 (ib (hexD n))) w := by
  have h1 : (0 : Int) ≤ (n : Int) ∧ (n : Int) < 16 := by omega
  have hg : (⟨#[48, 49, 50, 51, 52, 53, 54, 55, 56, 57, 97, 98, 99, 100, 101, 102]⟩ : ByteArray)[n]? = some (hexD n) := by
    match n, h with
    | 0, _ => rfl
    | 1, _ => rfl
    | 2, _ => rfl
    | 3, _ => rfl
    | 4, _ => rfl
    | 5, _ => rfl
    | 6, _ => rfl
    | 7, _ => rfl
    | 8, _ => rfl
    | 9, _ => rfl
    | 10, _ => rfl
    | 11, _ => rfl
    | 12, _ => rfl
    | 13, _ => rfl
    | 14, _ => rfl
    | 15, _ => rfl
  simp [Instr.index, asIntOf, run_underlying Try.underlying9, h1, hg]
  rfl
theorem shr4 (x : UInt8) : ib x / 16 = ((x.toNat / 16 : Nat) : Int) := by unfold ib; omega
theorem and15 (x : UInt8) : bits .and .u8 (ib x) 15 = ((x.toNat % 16 : Nat) : Int) := by
  have h := u8_and_nat x.toNat 15 x.toNat_lt (by decide)
  unfold ib
  rw [show (15 : Int) = ((15 : Nat) : Int) from rfl, h]
  congr 1
  exact Nat.and_two_pow_sub_one_eq_mod x.toNat 4
set_option maxRecDepth 100000 in
theorem hex_any (a : List UInt8) (ha : a.length = 32) (w : World) :
    Calls Try.prog 20 #[.agg (idVals a)] w fun e w' => e = .returned (.string (txt (hexB a))) ∧ Below w.heap.size w w' := by
  obtain ⟨i0, hi, hz0, hz1, hz2⟩ := info_parts infoByte
  have hI := Blk.new w 29 (idVals a)
  have hB0 : Below w.heap.size w (w.alloc (.cells (idVals a) 29)) := (Below.refl _ _).alloc (Nat.le_refl _) _
  have hk1 : (w.alloc (.cells (idVals a) 29)).heap.size = w.heap.size + 1 := by simp
  have hza : (Try.prog.info? 29).map (·.size) = some (a.map u8v).length := by rw [List.length_map, ha]; exact sizeId
  have hu := Try.underlying29
  go_enter Try.func20, Try.ntmps20
  go_wp2_with (at_make; refine wpList_make_own _ rfl _ _ 57 rfl (w.heap.size + 1) 5 i0 (.int .u8 0) 1 Try.underlying57 hi hz0 hz1 _ _ _ 64 rfl rfl ?c1 ?c2 ?c3 (Nat.le_of_eq hk1.symm) ?_)
  case c1 => omega
  case c2 => rw [hz2]; omega
  case c3 => unfold maxLen; omega
  intro w1 hown1 hg1
  generalize w.alloc (.cells (idVals a) 29) = w0 at *
  have hb1 : Below w0.heap.size w0 w1 := (Below.refl _ _).grown hg1 (Nat.le_refl _) (by simp)
  have hI1 := hI.below hb1
  have hR1 := range_blk hI1
  go_wp2_with (with_reducible refine wpList_load_if (by with_unfolding_all rfl) 29 _ rfl _ 0 rfl (a.map u8v) _ hR1 hu (by with_unfolding_all rfl) hza ?_)
  clear hR1 hI hg1
  go_loopw [3, 8] (fun v i wr => ∃ k : Nat, k ≤ 32 ∧ i = .int .i64 k ∧ wr.ownsRow (w.heap.size + 1) 5 1 v (2 * k) ((hexB (a.take k)).map u8v) ∧ Below w0.heap.size w0 wr) (fun _ i _ => 32 - (intOf i).toNat)
  case atStart => exact ⟨0, by omega, rfl, hown1, hb1⟩
  case round =>
    obtain ⟨k, hk, rfl, hown, hb⟩ := hrel
    have hsz := hb.size
    rw [hk1] at hsz
    clear hown1 hb1 hI1
    by_cases hlt : k < 32
    · obtain ⟨x, hx⟩ : ∃ x, a[k]? = some x := ⟨_, List.getElem?_eq_getElem (by rw [ha]; exact hlt)⟩
      have hidx := fun W => run_index_agg (P := Try.prog) 29 5 32 (a.map u8v).toArray k (.int .u8 (ib x)) i0 .u8 Try.underlying29 hi hz1 Try.underlying5 hlt (by rw [List.getElem?_toArray, List.getElem?_map, hx]; rfl) W
      have HT := hid (take_snoc hx)
      obtain ⟨p, hp⟩ : ∃ p, p = x.toNat / 16 := ⟨_, rfl⟩
      obtain ⟨q, hq⟩ : ∃ q, q = x.toNat % 16 := ⟨_, rfl⟩
      have e1 : ib x / 16 = (p : Int) := by rw [hp]; exact shr4 x
      have e2 : bits .and .u8 (ib x) 15 = (q : Int) := by rw [hq]; exact and15 x
      have f1 := fun W => run_index_hex p (by have := x.toNat_lt; omega) W
      have f2 := fun W => run_index_hex q (by omega) W
      have HP := hid hp
      have HQ := hid hq
      have b0 : (0 : Int) ≤ k := by omega
      have b1 : (k : Int) < 32 := by omega
      have hsl := hown.1
      clear hx hp hq
      go_wp2
      go_region_law (first
        | (refine step_append_newd (by rfl) _ _ 57 (by rfl) (w.heap.size + 1) 5 i0 (.int .u8 0) 1 Try.underlying57 hi hz0 hz1 hz2 rfl _ (2 * k) _ (by rfl) (by exact hown) 2 _ (by rfl) _ (by rfl) (by rfl) (by simp [Value.oneCell']) (by unfold maxLen; omega) (by omega) (by exact hsz) ?_; intro v' w' hown' hb'))
      all_goals
        go_wp2
        go_roundw
        case rel =>
          refine ⟨k + 1, hlt, by go_num, ?_, hb.trans (by rw [hk1]; exact hb')⟩
          rw [HT.out, hexB_snoc, List.map_append, ← HP.out, ← HQ.out]
          exact hown'
        case measure => simp [intOf]; omega
    · obtain rfl : k = 32 := by omega
      rw [List.take_of_length_le (by omega)] at hown
      obtain ⟨hl2, A2, c2, rfl, hrd2⟩ := Rd.own hown
      have hconv := run_txt (P := Try.prog) wr 57 9 5 A2 64 c2 _ Try.underlying57 Try.underlying5 Try.underlying9 (by simpa using hl2.symm) hrd2
      go_wp2
      go_ret
      exact ⟨rfl, hB0.trans (hb.mono hB0.size)⟩
end Go.Proofs.Ytlobagjeiocolaa

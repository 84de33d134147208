
/- The contract of mix: a block taken in. -/
import Derived.Test.YtkbokffonnjjiaaSha2
namespace Go.Proofs.Ytkbokffonnjjiaa
open Go.RowKit Go.Qc
attribute [local go_sem] iv_add iv_and iv_or iv_xor iv_not iv_bnot iv_shl iv_shr iv_inj iv_div3 iv_div10

/-- The eight words as the machine has them. -/
def S8.vals (s : S8) : Array Value := #[.int .u32 (iv s.a), .int .u32 (iv s.b), .int .u32 (iv s.c), .int .u32 (iv s.d), .int .u32 (iv s.e), .int .u32 (iv s.f), .int .u32 (iv s.g), .int .u32 (iv s.h)]
theorem S8.vals_one (s : S8) : s.vals.all (·.oneCell') = true := by simp [S8.vals, Value.oneCell']
def kVals : Array Value := (kList.map u32v).toArray
theorem kVals_one : kVals.all (·.oneCell') = true := by decide +kernel
def gVals (m : List (BitVec 32)) : Array Value := ((grow m 48).map u32v).toArray
theorem gVals_size (m : List (BitVec 32)) (hm : m.length = 16) : (gVals m).size = 64 := by
  unfold gVals; simp [grow_length, hm]
theorem gVals_one (m : List (BitVec 32)) : (gVals m).all (·.oneCell') = true := by
  unfold gVals
  rw [← Array.all_toList]
  simp only [List.all_eq_true]
  exact u32v_one _

def HasS (s : S8) (xa xb xc xd xe xf xg xh : Value) : Prop :=
  xa = .int .u32 (iv s.a) ∧ xb = .int .u32 (iv s.b) ∧ xc = .int .u32 (iv s.c) ∧ xd = .int .u32 (iv s.d) ∧ xe = .int .u32 (iv s.e) ∧ xf = .int .u32 (iv s.f) ∧ xg = .int .u32 (iv s.g) ∧ xh = .int .u32 (iv s.h)
theorem rnds_succ (s : S8) (w : List (BitVec 32)) (n : Nat) : rnds s w (n + 1) = rnd (rnds s w n) (kList.getD n 0#32) (w.getD n 0#32) := rfl
theorem kVals_get (n : Nat) (h : n < 64) : kVals[n]? = some (u32v (kList.getD n 0#32)) := by
  have hl : n < kList.length := h
  unfold kVals
  rw [List.getElem?_toArray, List.getElem?_map, List.getD_eq_getElem?_getD, List.getElem?_eq_getElem hl]; rfl
theorem gVals_get (m : List (BitVec 32)) (hm : m.length = 16) (n : Nat) (h : n < 64) : (gVals m)[n]? = some (u32v ((grow m 48).getD n 0#32)) := by
  have hl : n < (grow m 48).length := by rw [grow_length]; omega
  unfold gVals
  rw [List.getElem?_toArray, List.getElem?_map, List.getD_eq_getElem?_getD, List.getElem?_eq_getElem hl]; rfl
/-- The first k words have grown. -/
def AddIn (cs : Array Value) (s t : S8) (k : Nat) : Prop := cs.size = 8 ∧ (∀ j, j < k → cs[j]? = (s.add t).vals[j]?) ∧ ∀ j, k ≤ j → cs[j]? = s.vals[j]?
theorem addIn_0 (s t : S8) : AddIn s.vals s t 0 := ⟨rfl, fun _ h => by omega, fun _ _ => rfl⟩
theorem vals_add (s t : S8) (k : Nat) (hk : k < 8) : ∃ x y, s.vals[k]? = some (u32v x) ∧ t.vals[k]? = some (u32v y) ∧ (s.add t).vals[k]? = some (u32v (x + y)) := by
  match k, hk with
  | 0, _ => exact ⟨_, _, rfl, rfl, rfl⟩
  | 1, _ => exact ⟨_, _, rfl, rfl, rfl⟩
  | 2, _ => exact ⟨_, _, rfl, rfl, rfl⟩
  | 3, _ => exact ⟨_, _, rfl, rfl, rfl⟩
  | 4, _ => exact ⟨_, _, rfl, rfl, rfl⟩
  | 5, _ => exact ⟨_, _, rfl, rfl, rfl⟩
  | 6, _ => exact ⟨_, _, rfl, rfl, rfl⟩
  | 7, _ => exact ⟨_, _, rfl, rfl, rfl⟩
theorem u32v_inj {x y : BitVec 32} (h : u32v x = u32v y) : x = y := by
  unfold u32v at h; injection h with _ h; rwa [iv_inj] at h
theorem AddIn.at_ {cs : Array Value} {s t : S8} {k : Nat} (h : AddIn cs s t k) (hk : k < 8) : ∃ x y, cs[k]? = some (u32v x) ∧ t.vals[k]? = some (u32v y) := by
  obtain ⟨x, y, hx, hy, _⟩ := vals_add s t k hk
  exact ⟨x, y, (h.2.2 k (Nat.le_refl _)).trans hx, hy⟩
theorem addIn_succ {cs : Array Value} {s t : S8} {k : Nat} (h : AddIn cs s t k) (hk : k < 8) {x y : BitVec 32} (hx : cs[k]? = some (u32v x)) (hy : t.vals[k]? = some (u32v y)) :
    AddIn (cs.setIfInBounds k (.int .u32 (iv (x + y)))) s t (k + 1) := by
  obtain ⟨x', y', hx', hy', hxy⟩ := vals_add s t k hk
  obtain rfl : x' = x := u32v_inj (Option.some.inj (hx'.symm.trans ((h.2.2 k (Nat.le_refl _)).symm.trans hx)))
  obtain rfl : y' = y := u32v_inj (Option.some.inj (hy'.symm.trans hy))
  refine ⟨by simpa using h.1, fun j hj => ?_, fun j hj => ?_⟩
  · rw [Array.getElem?_setIfInBounds]
    by_cases e : k = j
    · subst e; rw [if_pos rfl, if_pos (by rw [h.1]; omega), hxy]; rfl
    · rw [if_neg e]; exact h.2.1 j (by omega)
  · rw [Array.getElem?_setIfInBounds, if_neg (by omega)]; exact h.2.2 j (by omega)
theorem AddIn.eq {cs : Array Value} {s t : S8} (h : AddIn cs s t 8) : cs = (s.add t).vals := by
  apply Array.ext_getElem?
  intro i
  by_cases hi : i < 8
  · exact h.2.1 i hi
  · rw [Array.getElem?_eq_none (by rw [h.1]; omega), Array.getElem?_eq_none (by show 8 ≤ i; omega)]
theorem constants_v (w : World) : Calls Try.prog 142 #[] w fun e w' => e = .returned (.agg kVals) ∧ Below w.heap.size w w' := constants_any w
theorem grown_v (m : List (BitVec 32)) (hm : m.length = 16) (s : ByteArray) (hs : s = txt (wordsB m)) (w : World) :
    Calls Try.prog 143 #[.string s] w fun e w' => e = .returned (.agg (gVals m)) ∧ Below w.heap.size w w' := grown_any s m hm hs w

set_option maxRecDepth 100000 in
set_option maxHeartbeats 1000000 in
theorem mix_any (st : S8) (s : ByteArray) (m : List (BitVec 32)) (hm : m.length = 16) (hs : s = txt (wordsB m)) (w : World) :
    Calls Try.prog 125 #[.agg st.vals, .string s] w fun e w' => e = .returned (.agg (blk st m).vals) ∧ Below w.heap.size w w' := by
  obtain ⟨a, b, c, d, e, f, g, h⟩ := st
  rw [show S8.vals ⟨a, b, c, d, e, f, g, h⟩ = #[.int .u32 (iv a), .int .u32 (iv b), .int .u32 (iv c), .int .u32 (iv d), .int .u32 (iv e), .int .u32 (iv f), .int .u32 (iv g), .int .u32 (iv h)] from rfl]
  go_enter Try.func125, Try.ntmps125
  go_wp2_with (fail)
  refine (constants_v _).mono ?_
  rintro e1 w1 ⟨rfl, hb1⟩
  obtain ⟨Z, hZ⟩ : ∃ Z : Array Value, Z = #[.int .u32 0, .int .u32 0, .int .u32 0, .int .u32 0, .int .u32 0, .int .u32 0, .int .u32 0, .int .u32 0] := ⟨_, rfl⟩
  rw [← hZ] at hb1
  have hz8 : Z.size = 8 := by rw [hZ]; rfl
  clear hZ
  have hS := ((Blk.new w 174 #[.int .u32 (iv a), .int .u32 (iv b), .int .u32 (iv c), .int .u32 (iv d), .int .u32 (iv e), .int .u32 (iv f), .int .u32 (iv g), .int .u32 (iv h)]).alloc (.cells Z 174)).below hb1
  have hR : Blk w1 (w.heap.size + 1) 174 Z := by
    have := (Blk.new (w.alloc (.cells #[.int .u32 (iv a), .int .u32 (iv b), .int .u32 (iv c), .int .u32 (iv d), .int .u32 (iv e), .int .u32 (iv f), .int .u32 (iv g), .int .u32 (iv h)] 174)) 174 Z).below hb1
    simpa using this
  have hB1 : Below w.heap.size w w1 := (((Below.refl _ _).alloc (Nat.le_refl _) _).alloc (by simp) _).trans (hb1.mono (by simp; omega))
  have hz1 : w.heap.size + 1 < w1.heap.size := by have := hb1.size; simp at this; omega
  clear hb1
  go_wp2_with (with_reducible refine wpList_store_new rfl 191 _ _ rfl kVals rfl rfl ?c1 ?c2 kVals_one ?_)
  case c1 => exact size64w
  case c2 => rfl
  have hS2 := hS.alloc (.cells kVals 191)
  have hR2 := hR.alloc (.cells kVals 191)
  have hB2 := hB1.alloc (by omega) (.cells kVals 191)
  have hK2 := Blk.new w1 191 kVals
  clear hS hR hB1
  go_wp2_with (fail)
  refine (grown_v m hm _ rfl _).mono ?_
  rintro e2 w2 ⟨rfl, hb2⟩
  have hS3 := hS2.below hb2
  have hR3 := hR2.below hb2
  have hK3 := hK2.below hb2
  have hB3 := hB2.trans (hb2.mono hB2.size)
  have hz2 : w1.heap.size < w2.heap.size := by have := hb2.size; simp at this; omega
  clear hS2 hR2 hB2 hK2 hb2
  go_wp2_with (with_reducible refine wpList_store_new rfl 191 _ _ rfl (gVals m) rfl rfl ?c1 ?c2 (gVals_one m) ?_)
  case c1 => rw [gVals_size m hm]; exact size64w
  case c2 => rw [gVals_size m hm]; rfl
  have hS4 := hS3.alloc (.cells (gVals m) 191)
  have hR4 := hR3.alloc (.cells (gVals m) 191)
  have hK4 := hK3.alloc (.cells (gVals m) 191)
  have hB4 := hB3.alloc (by omega) (.cells (gVals m) 191)
  have hW4 := Blk.new w2 191 (gVals m)
  clear hS3 hR3 hK3 hB3
  generalize w2.alloc (.cells (gVals m) 191) = W3 at *
  generalize w2.heap.size = gW at *
  generalize w1.heap.size = gK at *
  have s0 := hS4.cell_ (i := 0) rfl
  have s1 := hS4.cell_ (i := 1) rfl
  have s2 := hS4.cell_ (i := 2) rfl
  have s3 := hS4.cell_ (i := 3) rfl
  have s4 := hS4.cell_ (i := 4) rfl
  have s5 := hS4.cell_ (i := 5) rfl
  have s6 := hS4.cell_ (i := 6) rfl
  have s7 := hS4.cell_ (i := 7) rfl
  go_wp2
  go_quiet (fail)
  go_wp2
  go_quiet (fail)
  go_wp2
  clear s0 s1 s2 s3 s4 s5 s6 s7
  go_loopw [7, 8, 9, 10, 11, 12, 13, 14, 39] (fun xa xb xc xd xe xf xg xh i wr => ∃ n q : Nat, n ≤ 64 ∧ i = .int .i64 n ∧ HasS (rnds ⟨a, b, c, d, e, f, g, h⟩ (grow m 48) n) xa xb xc xd xe xf xg xh ∧ wr = W3.drewN q) (fun _ _ _ _ _ _ _ _ i _ => 64 - (intOf i).toNat)
  case atStart => exact ⟨0, _, by omega, rfl, ⟨rfl, rfl, rfl, rfl, rfl, rfl, rfl, rfl⟩, by rw [World.drewN_drewN]⟩
  case round =>
    obtain ⟨n, q, hn, rfl, hx, rfl⟩ := hrel
    have HR := hid (rnds_succ (⟨a, b, c, d, e, f, g, h⟩ : S8) (grow m 48) n)
    generalize hSn : rnds ⟨a, b, c, d, e, f, g, h⟩ (grow m 48) n = S at *
    have HSn := hid hSn
    clear hSn
    obtain ⟨a1, b1, c1, d1, e1, f1, g1, h1⟩ := S
    obtain ⟨rfl, rfl, rfl, rfl, rfl, rfl, rfl, rfl⟩ := hx
    by_cases hlt : n < 64
    · have ck := hK4.cell_ (kVals_get n hlt)
      have cw := hW4.cell_ (gVals_get m hm n hlt)
      generalize kList.getD n 0#32 = kk at *
      generalize (grow m 48).getD n 0#32 = ww at *
      rw [u32v] at ck cw
      have n0 : (0 : Int) ≤ n := by omega
      have n1 : (n : Int) < 64 := by omega
      go_wp2
      go_quiet ((go_at_call 144; exact quiet_more_l (rotr_any _ _ (by decide) (by decide) _)))
      go_wp2_with (go_at_call 144; (with_reducible refine (rotr_any _ _ (by decide) (by decide) _).mono ?_); rintro e' w' ⟨rfl, rfl⟩)
      go_roundw
      case rel => exact ⟨n + 1, _, by omega, by go_num, by rw [HR.out]; exact ⟨rfl, rfl, rfl, rfl, rfl, rfl, rfl, rfl⟩, rfl⟩
      case measure => simp [intOf]; omega
    · obtain rfl : n = 64 := by omega
      go_wp2
      obtain ⟨wo, hwo⟩ : ∃ wo : World, wo = W3.drewN q := ⟨_, rfl⟩
      rw [← hwo]
      have hH : wo.heap = W3.heap := by rw [hwo]; rfl
      have hS5 := blk_heap hH hS4
      have hR5 := blk_heap hH hR4
      have hB5 : Below w.heap.size w wo := by rw [hwo]; exact below_drewN hB4 q
      clear hS4 hR4 hB4 hK4 hW4 hwo hH HR
      obtain ⟨i0, hi, hz0, hz1, hz2⟩ := info_parts infoWord
      go_loopw [111] (fun i wr => ∃ k : Nat, ∃ cs : Array Value, k ≤ 8 ∧ i = .int .i64 k ∧ Blk wr w.heap.size 174 cs ∧ AddIn cs ⟨a, b, c, d, e, f, g, h⟩ ⟨a1, b1, c1, d1, e1, f1, g1, h1⟩ k ∧ Blk wr (w.heap.size + 1) 174 Z ∧ Below w.heap.size w wr) (fun i _ => 8 - (intOf i).toNat)
      case atStart => exact ⟨0, _, by omega, rfl, hS5, addIn_0 ⟨a, b, c, d, e, f, g, h⟩ ⟨a1, b1, c1, d1, e1, f1, g1, h1⟩, hR5, hB5⟩
      case round =>
        obtain ⟨k, cs, hk, rfl, hC, hin, hR, hB⟩ := hrel
        clear hS5 hR5 hB5
        by_cases hlk : k < 8
        · obtain ⟨x, y, hx, hy⟩ := hin.at_ hlk
          have hidx := run_index_agg (P := Try.prog) 174 151 8 _ k _ i0 .u32 Try.underlying174 hi hz1 Try.underlying151 hlk hy
          unfold S8.vals u32v at hidx
          have ck := hC.cell_ hx
          have fk := hC.frozen k
          rw [u32v] at ck
          have k0 : (0 : Int) ≤ k := by omega
          have k1 : (k : Int) < 8 := by omega
          have HN := hid (addIn_succ hin hlk hx hy)
          clear hin hx hy
          go_wp2
          go_roundw
          case rel => exact ⟨k + 1, _, by omega, by go_num, hC.set k _, HN.out, hR.far (by simp) _, hB.setCell (Nat.le_refl _) _⟩
          case measure => simp [intOf]; omega
        · obtain rfl : k = 8 := by omega
          have hcs := hin.eq
          subst hcs
          clear hin
          have e8 : (S8.add ⟨a, b, c, d, e, f, g, h⟩ ⟨a1, b1, c1, d1, e1, f1, g1, h1⟩).vals = (blk ⟨a, b, c, d, e, f, g, h⟩ m).vals := by
            unfold blk; rw [HSn.out]
          go_wp2_with (first
            | (with_reducible refine wpList_load_blk rfl 174 _ rfl w.heap.size _ 174 hC rfl _ Try.underlying174 rfl ?c1 ?_)
            | (with_reducible refine wpList_store_blk rfl 174 _ _ rfl (w.heap.size + 1) Z _ 174 hR rfl rfl ?c2 ?c3 ?c4 ?_))
          case c1 => exact size8w
          case c2 => exact size8w
          case c3 => exact hz8
          case c4 => exact S8.vals_one _
          intro w5 hb5 hg5
          go_wp2
          refine bodyPost_ret (results_cell_row rfl _ _ _ _ _ _ _ rfl hb5 Try.underlying174 rfl size8w) rfl ⟨?_, ?_⟩
          · rfl
          · exact hB.grown hg5 hB.size (by intro k e; cases e; omega)
end Go.Proofs.Ytkbokffonnjjiaa

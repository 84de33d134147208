/- The contracts of package sha's inner calls: its table, its words, a block. -/
import Derived.Test.YticpdepbgcagaaaGreatShaM
import Derived.StillTailTactics
namespace Go.Proofs.YticpdepbgcagaaaGreat
open Go.RowKit Go.Qc
attribute [local go_sem] iv_add iv_and iv_or iv_xor iv_not iv_shl iv_shr iv_inj

theorem size64w : (Tryz.prog.info? 156).map (·.size) = some 64 := by kernel_rfl
theorem size8w : (Tryz.prog.info? 146).map (·.size) = some 8 := by kernel_rfl
theorem sizeW : (Tryz.prog.info? 142).map (·.size) = some 1 := by kernel_rfl
theorem u32v_one (l : List (BitVec 32)) : ∀ v ∈ l.map u32v, v.oneCell' = true := by
  intro v hv
  obtain ⟨x, _, rfl⟩ := List.mem_map.1 hv; rfl

set_option maxRecDepth 100000 in
set_option maxHeartbeats 400000 in
theorem constants_any (w : World) :
    Calls Tryz.prog 112 #[] w fun e w' => e = .returned (.agg (kList.map u32v).toArray) ∧ Below w.heap.size w w' := by
  go_enter Tryz.func112, Tryz.ntmps112
  go_wp2_with (with_reducible refine wpList_store_new rfl 156 _ _ rfl _ rfl rfl ?c1 ?c2 ?c3 ?_)
  case c1 => exact size64w
  case c2 => rfl
  case c3 => decide +kernel
  go_wp2
  refine bodyPost_ret (results_cell_row rfl _ _ _ _ _ _ _ rfl (heap_alloc_new w _) Tryz.underlying156 rfl size64w) rfl ⟨?_, (Below.refl _ _).alloc (Nat.le_refl _) _⟩
  rfl
theorem rotr_any (x : BitVec 32) (z : Int) (h0 : 0 < z) (h1 : z < 32) (w : World) :
    Calls Tryz.prog 114 #[.int .u32 (iv x), .int .i64 z] w fun e w' => e = .returned (.int .u32 (iv (rotr x z.toNat))) ∧ w = w' := by
  have h := right_any x z w
  rw [show ((-z) % 32).toNat = 32 - z.toNat by omega] at h
  exact h
set_option maxHeartbeats 400000 in
theorem turn2_any (x : BitVec 32) (z : Int) (h0 : 0 < z) (h1 : z < 32) (w : World) :
    Calls Tryz.prog 100 #[.int .u32 (iv x), .int .i64 z] w fun e w' => e = .returned (.int .u32 (iv (rotr x z.toNat))) ∧ ∃ n, w' = w.drewN n := by
  obtain ⟨k, rfl⟩ : ∃ k : Nat, z = k := ⟨z.toNat, by omega⟩
  rw [Int.toNat_natCast]
  have g0 : (0 : Int) ≤ k := by omega
  have g1 : (k : Int) ≤ 32 := by omega
  have g2 : (0 : Int) ≤ 32 - k := by omega
  have e1 : (32 - (k : Int)).toNat = 32 - k := by omega
  have e2 : x >>> k ||| x <<< (32 - k) = rotr x k := by
    unfold rotr rotl; rw [show 32 - (32 - k) = k by omega, BitVec.or_comm]
  have E2 := hid e2
  clear e2 h0 h1
  go_enter Tryz.func100, Tryz.ntmps100
  go_wp2
  go_quiet (fail)
  go_wp2
  go_ret
  rw [← E2.out]
  exact ⟨rfl, _, rfl⟩
end Go.Proofs.YticpdepbgcagaaaGreat
/- The contract of grown. -/
namespace Go.Proofs.YticpdepbgcagaaaGreat
open Go.RowKit Go.Qc
attribute [local go_sem] iv_add iv_and iv_or iv_xor iv_not iv_shl iv_shr iv_inj iv_div3 iv_div10

def GrownIn (cs : Array Value) (m : List (BitVec 32)) (n : Nat) : Prop := cs.size = 64 ∧ ∀ (j : Nat) (u : BitVec 32), (grow m n)[j]? = some u → cs[j]? = some (u32v u)
theorem grownIn_0 {cs : Array Value} {m : List (BitVec 32)} (hcs : cs.size = 64) (hm : m.length = 16) : GrownIn (over cs 0 (m.map u32v)) m 0 := by
  have hl : 0 + (m.map u32v).length ≤ cs.size := by rw [List.length_map]; omega
  refine ⟨by rw [over_size _ _ _ hl]; exact hcs, fun j u hu => ?_⟩
  have hj : j < m.length := (List.getElem?_eq_some_iff.1 hu).1
  rw [over_get _ _ _ hl, if_neg (by omega), if_pos (by rw [List.length_map]; omega), Nat.sub_zero, List.getElem?_map]
  rw [show m[j]? = some u from hu]; rfl
theorem GrownIn.at_ {cs : Array Value} {m : List (BitVec 32)} {n : Nat} (h : GrownIn cs m n) (hm : m.length = 16) (j : Nat) (hj : j < 16 + n) : ∃ x, (grow m n)[j]? = some x ∧ cs[j]? = some (u32v x) := by
  have hl : j < (grow m n).length := by rw [grow_length]; omega
  exact ⟨_, List.getElem?_eq_getElem hl, h.2 j _ (List.getElem?_eq_getElem hl)⟩
theorem GrownIn.eq {cs : Array Value} {m : List (BitVec 32)} (h : GrownIn cs m 48) (hm : m.length = 16) : cs = ((grow m 48).map u32v).toArray := by
  have hl : (grow m 48).length = 64 := by rw [grow_length]; omega
  apply Array.ext_getElem?
  intro i
  by_cases hi : i < 64
  · obtain ⟨x, h1, h2⟩ := h.at_ hm i (by omega)
    rw [h2, List.getElem?_toArray, List.getElem?_map, h1]; rfl
  · rw [Array.getElem?_eq_none (by rw [h.1]; omega), Array.getElem?_eq_none (by simp [hl]; omega)]
theorem grownIn_succ {cs : Array Value} {m : List (BitVec 32)} {n k : Nat} {x : BitVec 32} (hm : m.length = 16) (h : GrownIn cs m n) (hk : k = 16 + n) (hx : more (grow m n) = x) (hn : n < 48) :
    GrownIn (cs.setIfInBounds k (.int .u32 (iv x))) m (n + 1) := by
  refine ⟨by simpa using h.1, fun j u hu => ?_⟩
  have hl : (grow m n).length = k := by rw [grow_length]; omega
  rw [grow, hx] at hu
  rw [Array.getElem?_setIfInBounds]
  by_cases e : k = j
  · subst e
    rw [List.getElem?_append_right (by omega), hl, Nat.sub_self] at hu
    rw [if_pos rfl, if_pos (by rw [h.1]; omega)]
    obtain rfl : x = u := by simpa using hu
    rfl
  · rw [if_neg e]
    have hj : j < (grow m n ++ [x]).length := (List.getElem?_eq_some_iff.1 hu).1
    rw [List.length_append, hl] at hj
    rw [List.getElem?_append_left (by simp at hj; omega)] at hu
    exact h.2 j u hu
theorem more_eq {m : List (BitVec 32)} {n k : Nat} (hm : m.length = 16) (hk : k = 16 + n) {x16 x15 x7 x2 : BitVec 32} (h16 : (grow m n)[k - 16]? = some x16) (h15 : (grow m n)[k - 15]? = some x15) (h7 : (grow m n)[k - 7]? = some x7) (h2 : (grow m n)[k - 2]? = some x2) :
    more (grow m n) = x16 + (rotr x15 7 ^^^ rotr x15 18 ^^^ x15 >>> 3) + x7 + (rotr x2 17 ^^^ rotr x2 19 ^^^ x2 >>> 10) := by
  have hl : (grow m n).length = k := by rw [grow_length]; omega
  unfold more
  rw [hl]
  simp only [List.getD_eq_getElem?_getD, h16, h15, h7, h2, Option.getD_some]
  rfl

set_option maxRecDepth 100000 in
set_option maxHeartbeats 400000 in
theorem grown_any (s : ByteArray) (m : List (BitVec 32)) (hm : m.length = 16) (hs : s = txt (wordsB m)) (w : World) :
    Calls Tryz.prog 113 #[.string s] w fun e w' => e = .returned (.agg ((grow m 48).map u32v).toArray) ∧ Below w.heap.size w w' := by
  go_enter Tryz.func113, Tryz.ntmps113
  go_wp2_with (fail)
  generalize hz : (Obj.cells _ 156) = Z
  obtain ⟨cs, rfl, hcs⟩ : ∃ cs : Array Value, Z = Obj.cells cs 156 ∧ cs.size = 64 := ⟨_, hz.symm, rfl⟩
  clear hz
  refine (words_any _ m 16 hm (by omega) rfl _).mono ?_
  rintro e w1 ⟨g, rfl, hrd, hb⟩
  have hb0 : Below w.heap.size w ((w.alloc (Obj.cells cs 156)).alloc (Obj.cells cs 156)) := ((Below.refl _ _).alloc (Nat.le_refl _) _).alloc (by simp) _
  have hblk0 : Blk w1 w.heap.size 156 cs := ((Blk.new w _ cs).alloc _).below hb
  have hblk1 : Blk w1 (w.heap.size + 1) 156 cs := by
    have := (Blk.new (w.alloc (Obj.cells cs 156)) 156 cs).below hb
    simpa using this
  have hb1 : Below w.heap.size w w1 := hb0.trans (hb.mono hb0.size)
  clear hb hb0
  go_wp2_with (with_reducible refine wpList_copy_blk rfl _ _ 108 108 rfl 142 Tryz.underlying108 sizeW (w.heap.size + 1) 0 64 64 16 16 _ rfl rfl cs 156 hblk1 (m.map u32v) ?c1 hrd ?c2 (u32v_one _) ?_)
  case c1 => rw [List.length_map, hm]; rfl
  case c2 => rw [List.length_map]; omega
  intro w2 hblk2 hg2
  have hcs2 : (over cs 0 (m.map u32v)).size = 64 := by rw [over_size _ _ _ (by rw [List.length_map]; omega)]; exact hcs
  have hin2 : GrownIn (over cs 0 (m.map u32v)) m 0 := grownIn_0 hcs hm
  have hblk3 : Blk w2 w.heap.size 156 cs := (hg2.block _ hblk0.lt (by simp)).trans hblk0
  have hb2 : Below w.heap.size w w2 := hb1.trans ⟨hg2.os, hg2.tape, hg2.output, hg2.size, fun k hk => hg2.block k (by have := hb1.size; omega) (by simp; omega)⟩
  clear hg2 hcs2 hb1 hblk0 hblk1 hrd
  go_wp2
  go_loopw [6] (fun i wr => ∃ n : Nat, ∃ cs' : Array Value, n ≤ 48 ∧ i = .int .i64 ((16 + n : Nat) : Int) ∧ Blk wr (w.heap.size + 1) 156 cs' ∧ Blk wr w.heap.size 156 cs ∧ GrownIn cs' m n ∧ Below w.heap.size w wr) (fun i _ => 64 - (intOf i).toNat)
  case atStart => exact ⟨0, _, by omega, rfl, hblk2, hblk3, hin2, hb2⟩
  case round =>
    obtain ⟨n, cs', hn, rfl, hb, hr, hin, hbl⟩ := hrel
    clear hblk2 hblk3 hin2 hb2
    by_cases hlt : n < 48
    · obtain ⟨k, hk⟩ : ∃ k, k = 16 + n := ⟨_, rfl⟩
      obtain ⟨x16, y16, c16⟩ := hin.at_ hm (k - 16) (by omega)
      obtain ⟨x15, y15, c15⟩ := hin.at_ hm (k - 15) (by omega)
      obtain ⟨x7, y7, c7⟩ := hin.at_ hm (k - 7) (by omega)
      obtain ⟨x2, y2, c2⟩ := hin.at_ hm (k - 2) (by omega)
      have HM := hid (more_eq hm hk y16 y15 y7 y2)
      have d16 := hb.cell_ c16
      have d15 := hb.cell_ c15
      have d7 := hb.cell_ c7
      have d2 := hb.cell_ c2
      obtain ⟨vk, hvk⟩ : ∃ vk, cs'[k]? = some vk := ⟨_, Array.getElem?_eq_getElem (by have := hin.1; omega)⟩
      have dk := hb.cell_ hvk
      have fz := hb.frozen k
      rw [u32v] at d16 d15 d7 d2
      have g16 : (0 : Int) ≤ (k : Int) - 16 := by omega
      have g15 : (0 : Int) ≤ (k : Int) - 15 := by omega
      have g7 : (0 : Int) ≤ (k : Int) - 7 := by omega
      have g2 : (0 : Int) ≤ (k : Int) - 2 := by omega
      have t16 : ((k : Int) - 16).toNat = k - 16 := by omega
      have t15 : ((k : Int) - 15).toNat = k - 15 := by omega
      have t7 : ((k : Int) - 7).toNat = k - 7 := by omega
      have t2 : ((k : Int) - 2).toNat = k - 2 := by omega
      have gk : (k : Int) < 64 := by omega
      have a16 : (16 : Int) ≤ k := by omega
      have b16 : (k : Int) - 16 < 64 := by omega
      have a7 : (7 : Int) ≤ k := by omega
      have b7 : (k : Int) - 7 < 64 := by omega
      have ak : (0 : Int) ≤ k := by omega
      have q16 : IntKind.i64.wrap ((k : Int) - 16) = (k : Int) - 16 := by rw [IntKind.wrap_i64]; omega
      have q7 : IntKind.i64.wrap ((k : Int) - 7) = (k : Int) - 7 := by rw [IntKind.wrap_i64]; omega
      have HI := hid hin
      have HK := hid hk
      rw [← hk]
      clear y16 y15 y7 y2 c16 c15 c7 c2 hin hk hvk
      go_wp2
      go_quiet (fail)
      go_wp2_with (go_at_call 114; (with_reducible refine (rotr_any _ _ (by decide) (by decide) _).mono ?_); rintro e w' ⟨rfl, rfl⟩)
      refine wp_region_tail 15 (by kernel_rfl) (by kernel_rfl) ?_
      intro W HW
      simp only [List.take_succ_cons, List.take_zero, List.drop_succ_cons, List.drop_zero]
      have hW : W.heap = wr.heap := by rw [HW.out]; rfl
      have v16 := cell_heap hW d16
      have v7 := cell_heap hW d7
      have vk := cell_heap hW dk
      have vf := frozen_heap hW fz
      have hb' := blk_heap hW hb
      have hr' := blk_heap hW hr
      have hbl' : Below w.heap.size w W := by rw [HW.out]; exact below_drewN (below_drewN hbl nq) 1
      clear hW hb hr hbl
      clear d16 d15 d7 d2 dk fz
      repeat still_step
      refine wpStill_nil ?_
      go_wp2
      go_roundw
      case rel => exact ⟨n + 1, _, by omega, by rw [HK.out]; go_num, hb'.set k _, hr'.far (by simp) _, grownIn_succ hm HI.out HK.out HM.out hlt, hbl'.setCell (by simp) _⟩
      case measure => simp [intOf]; omega
    · obtain rfl : n = 48 := by omega
      have hsz' : (Tryz.prog.info? 156).map (·.size) = some cs'.size := by rw [hin.1]; exact size64w
      have hall : cs'.all (·.oneCell') = true := by
        rw [hin.eq hm, ← Array.all_toList]
        simp only [List.all_eq_true]
        exact u32v_one _
      have HI := hid hin
      have HZ := hid hsz'
      have HA := hid hall
      clear hin hsz' hall
      go_wp2_with (first
        | (with_reducible refine wpList_load_blk rfl 156 _ rfl (w.heap.size + 1) cs' 156 hb rfl _ Tryz.underlying156 rfl HZ.out ?_)
        | (with_reducible refine wpList_store_blk rfl 156 _ _ rfl w.heap.size cs cs' 156 hr rfl rfl HZ.out ?c3 HA.out ?_))
      case c3 => rw [hcs, HI.out.1]
      intro w3 hb3 hg3
      go_wp2
      refine bodyPost_ret (results_cell_row rfl _ _ _ _ _ _ _ rfl hb3 Tryz.underlying156 rfl HZ.out) rfl ⟨?_, ?_⟩
      · rw [HI.out.eq hm]
      · exact hbl.grown hg3 hbl.size (by intro k e; cases e; exact Nat.le_refl _)
end Go.Proofs.YticpdepbgcagaaaGreat
/- The contract of mix: a block taken in. -/
namespace Go.Proofs.YticpdepbgcagaaaGreat
open Go.RowKit Go.Qc
attribute [local go_sem] iv_add iv_and iv_or iv_xor iv_not iv_bnot iv_shl iv_shr iv_inj iv_div3 iv_div10

/-- The eight words as the machine has them. -/
def S8.vals (s : S8) : Array Value := #[.int .u32 (iv s.a), .int .u32 (iv s.b), .int .u32 (iv s.c), .int .u32 (iv s.d), .int .u32 (iv s.e), .int .u32 (iv s.f), .int .u32 (iv s.g), .int .u32 (iv s.h)]
theorem S8.vals_one (s : S8) : s.vals.all (·.oneCell') = true := by simp [S8.vals, Value.oneCell']
def kVals : Array Value := (kList.map u32v).toArray
theorem kVals_one : kVals.all (·.oneCell') = true := by decide +kernel
def gVals (m : List (BitVec 32)) : Array Value := ((grow m 48).map u32v).toArray
theorem gVals_size (m : List (BitVec 32)) (hm : m.length = 16) : (gVals m).size = 64 := by
  unfold gVals; simp [grow_length, hm]
theorem gVals_one (m : List (BitVec 32)) : (gVals m).all (·.oneCell') = true := by
  unfold gVals
  rw [← Array.all_toList]
  simp only [List.all_eq_true]
  exact u32v_one _

def HasS (s : S8) (xa xb xc xd xe xf xg xh : Value) : Prop :=
  xa = .int .u32 (iv s.a) ∧ xb = .int .u32 (iv s.b) ∧ xc = .int .u32 (iv s.c) ∧ xd = .int .u32 (iv s.d) ∧ xe = .int .u32 (iv s.e) ∧ xf = .int .u32 (iv s.f) ∧ xg = .int .u32 (iv s.g) ∧ xh = .int .u32 (iv s.h)
theorem rnds_succ (s : S8) (w : List (BitVec 32)) (n : Nat) : rnds s w (n + 1) = rnd (rnds s w n) (kList.getD n 0#32) (w.getD n 0#32) := rfl
theorem kVals_get (n : Nat) (h : n < 64) : kVals[n]? = some (u32v (kList.getD n 0#32)) := by
  have hl : n < kList.length := h
  unfold kVals
  rw [List.getElem?_toArray, List.getElem?_map, List.getD_eq_getElem?_getD, List.getElem?_eq_getElem hl]; rfl
theorem gVals_get (m : List (BitVec 32)) (hm : m.length = 16) (n : Nat) (h : n < 64) : (gVals m)[n]? = some (u32v ((grow m 48).getD n 0#32)) := by
  have hl : n < (grow m 48).length := by rw [grow_length]; omega
  unfold gVals
  rw [List.getElem?_toArray, List.getElem?_map, List.getD_eq_getElem?_getD, List.getElem?_eq_getElem hl]; rfl
/-- The first k words have grown. -/
def AddIn (cs : Array Value) (s t : S8) (k : Nat) : Prop := cs.size = 8 ∧ (∀ j, j < k → cs[j]? = (s.add t).vals[j]?) ∧ ∀ j, k ≤ j → cs[j]? = s.vals[j]?
theorem addIn_0 (s t : S8) : AddIn s.vals s t 0 := ⟨rfl, fun _ h => by omega, fun _ _ => rfl⟩
theorem vals_add (s t : S8) (k : Nat) (hk : k < 8) : ∃ x y, s.vals[k]? = some (u32v x) ∧ t.vals[k]? = some (u32v y) ∧ (s.add t).vals[k]? = some (u32v (x + y)) := by
  match k, hk with
  | 0, _ => exact ⟨_, _, rfl, rfl, rfl⟩
  | 1, _ => exact ⟨_, _, rfl, rfl, rfl⟩
  | 2, _ => exact ⟨_, _, rfl, rfl, rfl⟩
  | 3, _ => exact ⟨_, _, rfl, rfl, rfl⟩
  | 4, _ => exact ⟨_, _, rfl, rfl, rfl⟩
  | 5, _ => exact ⟨_, _, rfl, rfl, rfl⟩
  | 6, _ => exact ⟨_, _, rfl, rfl, rfl⟩
  | 7, _ => exact ⟨_, _, rfl, rfl, rfl⟩
theorem u32v_inj {x y : BitVec 32} (h : u32v x = u32v y) : x = y := by
  unfold u32v at h; injection h with _ h; rwa [iv_inj] at h
theorem AddIn.at_ {cs : Array Value} {s t : S8} {k : Nat} (h : AddIn cs s t k) (hk : k < 8) : ∃ x y, cs[k]? = some (u32v x) ∧ t.vals[k]? = some (u32v y) := by
  obtain ⟨x, y, hx, hy, _⟩ := vals_add s t k hk
  exact ⟨x, y, (h.2.2 k (Nat.le_refl _)).trans hx, hy⟩
theorem addIn_succ {cs : Array Value} {s t : S8} {k : Nat} (h : AddIn cs s t k) (hk : k < 8) {x y : BitVec 32} (hx : cs[k]? = some (u32v x)) (hy : t.vals[k]? = some (u32v y)) :
    AddIn (cs.setIfInBounds k (.int .u32 (iv (x + y)))) s t (k + 1) := by
  obtain ⟨x', y', hx', hy', hxy⟩ := vals_add s t k hk
  obtain rfl : x' = x := u32v_inj (Option.some.inj (hx'.symm.trans ((h.2.2 k (Nat.le_refl _)).symm.trans hx)))
  obtain rfl : y' = y := u32v_inj (Option.some.inj (hy'.symm.trans hy))
  refine ⟨by simpa using h.1, fun j hj => ?_, fun j hj => ?_⟩
  · rw [Array.getElem?_setIfInBounds]
    by_cases e : k = j
    · subst e; rw [if_pos rfl, if_pos (by rw [h.1]; omega), hxy]; rfl
    · rw [if_neg e]; exact h.2.1 j (by omega)
  · rw [Array.getElem?_setIfInBounds, if_neg (by omega)]; exact h.2.2 j (by omega)
theorem AddIn.eq {cs : Array Value} {s t : S8} (h : AddIn cs s t 8) : cs = (s.add t).vals := by
  apply Array.ext_getElem?
  intro i
  by_cases hi : i < 8
  · exact h.2.1 i hi
  · rw [Array.getElem?_eq_none (by rw [h.1]; omega), Array.getElem?_eq_none (by show 8 ≤ i; omega)]
theorem constants_v (w : World) : Calls Tryz.prog 112 #[] w fun e w' => e = .returned (.agg kVals) ∧ Below w.heap.size w w' := constants_any w
theorem grown_v (m : List (BitVec 32)) (hm : m.length = 16) (s : ByteArray) (hs : s = txt (wordsB m)) (w : World) :
    Calls Tryz.prog 113 #[.string s] w fun e w' => e = .returned (.agg (gVals m)) ∧ Below w.heap.size w w' := grown_any s m hm hs w

set_option maxRecDepth 100000 in
set_option maxHeartbeats 1000000 in
theorem mix_any (st : S8) (s : ByteArray) (m : List (BitVec 32)) (hm : m.length = 16) (hs : s = txt (wordsB m)) (w : World) :
    Calls Tryz.prog 101 #[.agg st.vals, .string s] w fun e w' => e = .returned (.agg (blk st m).vals) ∧ Below w.heap.size w w' := by
  obtain ⟨a, b, c, d, e, f, g, h⟩ := st
  rw [show S8.vals ⟨a, b, c, d, e, f, g, h⟩ = #[.int .u32 (iv a), .int .u32 (iv b), .int .u32 (iv c), .int .u32 (iv d), .int .u32 (iv e), .int .u32 (iv f), .int .u32 (iv g), .int .u32 (iv h)] from rfl]
  go_enter Tryz.func101, Tryz.ntmps101
  go_wp2_with (fail)
  refine (constants_v _).mono ?_
  rintro e1 w1 ⟨rfl, hb1⟩
  obtain ⟨Z, hZ⟩ : ∃ Z : Array Value, Z = #[.int .u32 0, .int .u32 0, .int .u32 0, .int .u32 0, .int .u32 0, .int .u32 0, .int .u32 0, .int .u32 0] := ⟨_, rfl⟩
  rw [← hZ] at hb1
  have hz8 : Z.size = 8 := by rw [hZ]; rfl
  clear hZ
  have hS := ((Blk.new w 146 #[.int .u32 (iv a), .int .u32 (iv b), .int .u32 (iv c), .int .u32 (iv d), .int .u32 (iv e), .int .u32 (iv f), .int .u32 (iv g), .int .u32 (iv h)]).alloc (.cells Z 146)).below hb1
  have hR : Blk w1 (w.heap.size + 1) 146 Z := by
    have := (Blk.new (w.alloc (.cells #[.int .u32 (iv a), .int .u32 (iv b), .int .u32 (iv c), .int .u32 (iv d), .int .u32 (iv e), .int .u32 (iv f), .int .u32 (iv g), .int .u32 (iv h)] 146)) 146 Z).below hb1
    simpa using this
  have hB1 : Below w.heap.size w w1 := (((Below.refl _ _).alloc (Nat.le_refl _) _).alloc (by simp) _).trans (hb1.mono (by simp; omega))
  have hz1 : w.heap.size + 1 < w1.heap.size := by have := hb1.size; simp at this; omega
  clear hb1
  go_wp2_with (with_reducible refine wpList_store_new rfl 156 _ _ rfl kVals rfl rfl ?c1 ?c2 kVals_one ?_)
  case c1 => exact size64w
  case c2 => rfl
  have hS2 := hS.alloc (.cells kVals 156)
  have hR2 := hR.alloc (.cells kVals 156)
  have hB2 := hB1.alloc (by omega) (.cells kVals 156)
  have hK2 := Blk.new w1 156 kVals
  clear hS hR hB1
  go_wp2_with (fail)
  refine (grown_v m hm _ rfl _).mono ?_
  rintro e2 w2 ⟨rfl, hb2⟩
  have hS3 := hS2.below hb2
  have hR3 := hR2.below hb2
  have hK3 := hK2.below hb2
  have hB3 := hB2.trans (hb2.mono hB2.size)
  have hz2 : w1.heap.size < w2.heap.size := by have := hb2.size; simp at this; omega
  clear hS2 hR2 hB2 hK2 hb2
  go_wp2_with (with_reducible refine wpList_store_new rfl 156 _ _ rfl (gVals m) rfl rfl ?c1 ?c2 (gVals_one m) ?_)
  case c1 => rw [gVals_size m hm]; exact size64w
  case c2 => rw [gVals_size m hm]; rfl
  have hS4 := hS3.alloc (.cells (gVals m) 156)
  have hR4 := hR3.alloc (.cells (gVals m) 156)
  have hK4 := hK3.alloc (.cells (gVals m) 156)
  have hB4 := hB3.alloc (by omega) (.cells (gVals m) 156)
  have hW4 := Blk.new w2 156 (gVals m)
  clear hS3 hR3 hK3 hB3
  generalize w2.alloc (.cells (gVals m) 156) = W3 at *
  generalize w2.heap.size = gW at *
  generalize w1.heap.size = gK at *
  have s0 := hS4.cell_ (i := 0) rfl
  have s1 := hS4.cell_ (i := 1) rfl
  have s2 := hS4.cell_ (i := 2) rfl
  have s3 := hS4.cell_ (i := 3) rfl
  have s4 := hS4.cell_ (i := 4) rfl
  have s5 := hS4.cell_ (i := 5) rfl
  have s6 := hS4.cell_ (i := 6) rfl
  have s7 := hS4.cell_ (i := 7) rfl
  go_wp2
  go_quiet (fail)
  go_wp2
  go_quiet (fail)
  go_wp2
  clear s0 s1 s2 s3 s4 s5 s6 s7
  go_loopw [7, 8, 9, 10, 11, 12, 13, 14, 39] (fun xa xb xc xd xe xf xg xh i wr => ∃ n q : Nat, n ≤ 64 ∧ i = .int .i64 n ∧ HasS (rnds ⟨a, b, c, d, e, f, g, h⟩ (grow m 48) n) xa xb xc xd xe xf xg xh ∧ wr = W3.drewN q) (fun _ _ _ _ _ _ _ _ i _ => 64 - (intOf i).toNat)
  case atStart => exact ⟨0, _, by omega, rfl, ⟨rfl, rfl, rfl, rfl, rfl, rfl, rfl, rfl⟩, by rw [World.drewN_drewN]⟩
  case round =>
    obtain ⟨n, q, hn, rfl, hx, rfl⟩ := hrel
    have HR := hid (rnds_succ (⟨a, b, c, d, e, f, g, h⟩ : S8) (grow m 48) n)
    generalize hSn : rnds ⟨a, b, c, d, e, f, g, h⟩ (grow m 48) n = S at *
    have HSn := hid hSn
    clear hSn
    obtain ⟨a1, b1, c1, d1, e1, f1, g1, h1⟩ := S
    obtain ⟨rfl, rfl, rfl, rfl, rfl, rfl, rfl, rfl⟩ := hx
    by_cases hlt : n < 64
    · have ck := hK4.cell_ (kVals_get n hlt)
      have cw := hW4.cell_ (gVals_get m hm n hlt)
      generalize kList.getD n 0#32 = kk at *
      generalize (grow m 48).getD n 0#32 = ww at *
      rw [u32v] at ck cw
      have n0 : (0 : Int) ≤ n := by omega
      have n1 : (n : Int) < 64 := by omega
      go_wp2
      go_quiet ((go_at_call 114; exact quiet_more_l (rotr_any _ _ (by decide) (by decide) _)))
      go_wp2_with (go_at_call 114; (with_reducible refine (rotr_any _ _ (by decide) (by decide) _).mono ?_); rintro e' w' ⟨rfl, rfl⟩)
      go_roundw
      case rel => exact ⟨n + 1, _, by omega, by go_num, by rw [HR.out]; exact ⟨rfl, rfl, rfl, rfl, rfl, rfl, rfl, rfl⟩, rfl⟩
      case measure => simp [intOf]; omega
    · obtain rfl : n = 64 := by omega
      go_wp2
      obtain ⟨wo, hwo⟩ : ∃ wo : World, wo = W3.drewN q := ⟨_, rfl⟩
      rw [← hwo]
      have hH : wo.heap = W3.heap := by rw [hwo]; rfl
      have hS5 := blk_heap hH hS4
      have hR5 := blk_heap hH hR4
      have hB5 : Below w.heap.size w wo := by rw [hwo]; exact below_drewN hB4 q
      clear hS4 hR4 hB4 hK4 hW4 hwo hH HR
      obtain ⟨i0, hi, hz0, hz1, hz2⟩ := info_parts infoWord
      go_loopw [111] (fun i wr => ∃ k : Nat, ∃ cs : Array Value, k ≤ 8 ∧ i = .int .i64 k ∧ Blk wr w.heap.size 146 cs ∧ AddIn cs ⟨a, b, c, d, e, f, g, h⟩ ⟨a1, b1, c1, d1, e1, f1, g1, h1⟩ k ∧ Blk wr (w.heap.size + 1) 146 Z ∧ Below w.heap.size w wr) (fun i _ => 8 - (intOf i).toNat)
      case atStart => exact ⟨0, _, by omega, rfl, hS5, addIn_0 ⟨a, b, c, d, e, f, g, h⟩ ⟨a1, b1, c1, d1, e1, f1, g1, h1⟩, hR5, hB5⟩
      case round =>
        obtain ⟨k, cs, hk, rfl, hC, hin, hR, hB⟩ := hrel
        clear hS5 hR5 hB5
        by_cases hlk : k < 8
        · obtain ⟨x, y, hx, hy⟩ := hin.at_ hlk
          have hidx := run_index_agg (P := Tryz.prog) 146 142 8 _ k _ i0 .u32 Tryz.underlying146 hi hz1 Tryz.underlying142 hlk hy
          unfold S8.vals u32v at hidx
          have ck := hC.cell_ hx
          have fk := hC.frozen k
          rw [u32v] at ck
          have k0 : (0 : Int) ≤ k := by omega
          have k1 : (k : Int) < 8 := by omega
          have HN := hid (addIn_succ hin hlk hx hy)
          clear hin hx hy
          go_wp2
          go_roundw
          case rel => exact ⟨k + 1, _, by omega, by go_num, hC.set k _, HN.out, hR.far (by simp) _, hB.setCell (Nat.le_refl _) _⟩
          case measure => simp [intOf]; omega
        · obtain rfl : k = 8 := by omega
          have hcs := hin.eq
          subst hcs
          clear hin
          have e8 : (S8.add ⟨a, b, c, d, e, f, g, h⟩ ⟨a1, b1, c1, d1, e1, f1, g1, h1⟩).vals = (blk ⟨a, b, c, d, e, f, g, h⟩ m).vals := by
            unfold blk; rw [HSn.out]
          go_wp2_with (first
            | (with_reducible refine wpList_load_blk rfl 146 _ rfl w.heap.size _ 146 hC rfl _ Tryz.underlying146 rfl ?c1 ?_)
            | (with_reducible refine wpList_store_blk rfl 146 _ _ rfl (w.heap.size + 1) Z _ 146 hR rfl rfl ?c2 ?c3 ?c4 ?_))
          case c1 => exact size8w
          case c2 => exact size8w
          case c3 => exact hz8
          case c4 => exact S8.vals_one _
          intro w5 hb5 hg5
          go_wp2
          refine bodyPost_ret (results_cell_row rfl _ _ _ _ _ _ _ rfl hb5 Tryz.underlying146 rfl size8w) rfl ⟨?_, ?_⟩
          · rfl
          · exact hB.grown hg5 hB.size (by intro k e; cases e; omega)
end Go.Proofs.YticpdepbgcagaaaGreat
/- The contracts of a Hash's calls. -/
namespace Go.Proofs.YticpdepbgcagaaaGreat
open Go.RowKit Go.Qc
attribute [local go_sem] txt_size txt_extract

/-- The cells of a Hash that has taken in p, and says that it has n bytes. -/
structure HPart (cs : Array Value) (p : List UInt8) (n : Nat) : Prop where
  size : cs.size = 73
  one : cs.all (·.oneCell') = true
  state : ∀ j, j < 8 → cs[j]? = (feed h0 p).vals[j]?
  tail : ∀ (j : Nat) (b : UInt8), (rest p)[j]? = some b → cs[8 + j]? = some (u8v b)
  count : cs[72]? = some (.int .i64 n)

def zeroH : Array Value := (List.replicate 8 (Value.int .u32 0) ++ List.replicate 64 (Value.int .u8 0) ++ [Value.int .i64 0]).toArray
theorem zeroH_info : (Tryz.prog.info? 149).map (fun i => (i.zero, i.size)) = some (some (.agg zeroH), 73) := by kernel_rfl
set_option maxRecDepth 100000 in
set_option maxHeartbeats 1000000 in
theorem new_any (w : World) :
    Calls Tryz.prog 80 #[] w fun e w' => ∃ cs, e = .returned (.pointer (some ⟨w.heap.size, 0, none⟩)) ∧ Blk w' w.heap.size 149 cs ∧ HPart cs [] 0 ∧ Below w.heap.size w w' := by
  go_enter Tryz.func80, Tryz.ntmps80
  have hz := (zero_of_info zeroH_info).1
  have hzs : zeroH.size = 73 := rfl
  go_wp2
  go_ret
  refine ⟨_, rfl, Blk.new _ _ _, ⟨rfl, by decide +kernel, ?_, ?_, rfl⟩, (Below.refl _ _).alloc (Nat.le_refl _) _⟩
  · intro j hj
    match j, hj with
    | 0, _ => rfl
    | 1, _ => rfl
    | 2, _ => rfl
    | 3, _ => rfl
    | 4, _ => rfl
    | 5, _ => rfl
    | 6, _ => rfl
    | 7, _ => rfl
  · intro j b h; simp [rest] at h

/-- Bytes laid behind the rest; they don't fill it. -/
theorem HPart.short {cs : Array Value} {p b : List UInt8} {n : Nat} (h : HPart cs p n) (hk : p.length % 64 + b.length < 64) : HPart (over cs (8 + p.length % 64) (b.map u8v)) (p ++ b) n := by
  have hfit : 8 + p.length % 64 + (b.map u8v).length ≤ cs.size := by rw [List.length_map, h.size]; omega
  refine ⟨by rw [over_size _ _ _ hfit]; exact h.size, over_one _ _ _ h.one (u8v_one b), fun j hj => ?_, fun j x hx => ?_, ?_⟩
  · rw [over_get _ _ _ hfit, if_pos (by omega), feed_short _ _ _ hk]; exact h.state j hj
  · rw [rest_short _ _ hk] at hx
    rw [over_get _ _ _ hfit]
    by_cases hj : j < p.length % 64
    · rw [if_pos (by omega)]
      rw [List.getElem?_append_left (by rw [rest_length]; exact hj)] at hx
      exact h.tail j x hx
    · rw [List.getElem?_append_right (by rw [rest_length]; omega), rest_length] at hx
      have hl : j - p.length % 64 < b.length := (List.getElem?_eq_some_iff.1 hx).1
      rw [if_neg (by omega), if_pos (by rw [List.length_map]; omega), List.getElem?_map, show 8 + j - (8 + p.length % 64) = j - p.length % 64 by omega, hx]; rfl
  · rw [over_get _ _ _ hfit, if_neg (by omega), if_neg (by rw [List.length_map]; omega)]; exact h.count

/-- A block taken in. -/
theorem HPart.block {cs : Array Value} {p b : List UInt8} {n : Nat} {s : S8} (hz : cs.size = 73) (h1 : cs.all (·.oneCell') = true) (hc : cs[72]? = some (.int .i64 n)) (hs : s = feed h0 (p ++ b)) (hr : (p.length + b.length) % 64 = 0) :
    HPart (over cs 0 s.vals.toList) (p ++ b) n := by
  have hl : s.vals.toList.length = 8 := rfl
  have hfit : 0 + s.vals.toList.length ≤ cs.size := by rw [hl, hz]; omega
  refine ⟨by rw [over_size _ _ _ hfit]; exact hz, over_one _ _ _ h1 (fun v hv => (Array.all_eq_true_iff_forall_mem.1 s.vals_one) v (by simpa using hv)), fun j hj => ?_, fun j x hx => ?_, ?_⟩
  · rw [over_get _ _ _ hfit, if_neg (by omega), if_pos (by rw [hl]; omega), hs]; simp
  · rw [rest_full _ _ hr] at hx; simp at hx
  · rw [over_get _ _ _ hfit, if_neg (by omega), if_neg (by rw [hl]; omega)]; exact hc
theorem HPart.counted {cs : Array Value} {p : List UInt8} {n : Nat} (h : HPart cs p n) (n' : Nat) : HPart (cs.setIfInBounds 72 (.int .i64 (n' : Int))) p n' := by
  refine ⟨by simpa using h.size, ?_, fun j hj => ?_, fun j b hb => ?_, ?_⟩
  · have := h.one
    rw [Array.all_eq_true_iff_forall_mem] at this ⊢
    intro v hv
    rcases Array.mem_or_eq_of_mem_setIfInBounds hv with hv | rfl
    · exact this v hv
    · rfl
  · rw [Array.getElem?_setIfInBounds, if_neg (by omega)]; exact h.state j hj
  · have hj : j < (rest p).length := (List.getElem?_eq_some_iff.1 hb).1
    rw [rest_length] at hj
    rw [Array.getElem?_setIfInBounds, if_neg (by omega)]; exact h.tail j b hb
  · rw [Array.getElem?_setIfInBounds, if_pos rfl, if_pos (by rw [h.size]; omega)]

/-- What a Write has taken in so far. -/
structure Mid (cs : Array Value) (l p r : List UInt8) (n : Nat) : Prop where
  part : HPart cs p n
  all : p ++ r = l
  whole : p.length % 64 = 0 ∨ r = []
theorem Mid.step {cs cs' : Array Value} {l p r : List UInt8} {n : Nat} (h : Mid cs l p r n) (hr : 64 ≤ r.length) (hc : cs' = over cs 0 (blk (feed h0 p) (unW 16 (r.take 64))).vals.toList) : Mid cs' l (p ++ r.take 64) (r.drop 64) n := by
  have hw : p.length % 64 = 0 := by
    rcases h.whole with hw | rfl
    · exact hw
    · simp at hr
  have ht : (r.take 64).length = 64 := by rw [List.length_take]; omega
  have hrest : rest p = [] := List.eq_nil_of_length_eq_zero (by rw [rest_length, hw])
  subst hc
  refine ⟨HPart.block h.part.size h.part.one h.part.count ?_ (by rw [ht]; omega), by rw [List.append_assoc, List.take_append_drop]; exact h.all, .inl (by rw [List.length_append, ht]; omega)⟩
  rw [feed_full _ _ _ (by rw [ht, hw]), hrest, List.nil_append]
theorem Mid.last {cs : Array Value} {l p r : List UInt8} {n : Nat} (h : Mid cs l p r n) (hr : r.length < 64) : HPart (over cs 8 (r.map u8v)) l n := by
  rcases h.whole with hw | rfl
  · have := h.part.short (b := r) (by omega)
    rw [hw, h.all] at this; exact this
  · rw [List.map_nil, over_nil _ _ (by rw [h.part.size]; omega)]
    have := h.all
    rw [List.append_nil] at this
    rw [← this]; exact h.part
end Go.Proofs.YticpdepbgcagaaaGreat

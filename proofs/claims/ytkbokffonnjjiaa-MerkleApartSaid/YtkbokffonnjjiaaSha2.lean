
/- The contract of grown. -/
import Derived.Test.YtkbokffonnjjiaaSha1
import Derived.StillTailTactics
namespace Go.Proofs.Ytkbokffonnjjiaa
open Go.RowKit Go.Qc
attribute [local go_sem] iv_add iv_and iv_or iv_xor iv_not iv_shl iv_shr iv_inj iv_div3 iv_div10

def GrownIn (cs : Array Value) (m : List (BitVec 32)) (n : Nat) : Prop := cs.size = 64 ∧ ∀ (j : Nat) (u : BitVec 32), (grow m n)[j]? = some u → cs[j]? = some (u32v u)
theorem grownIn_0 {cs : Array Value} {m : List (BitVec 32)} (hcs : cs.size = 64) (hm : m.length = 16) : GrownIn (over cs 0 (m.map u32v)) m 0 := by
  have hl : 0 + (m.map u32v).length ≤ cs.size := by rw [List.length_map]; omega
  refine ⟨by rw [over_size _ _ _ hl]; exact hcs, fun j u hu => ?_⟩
  have hj : j < m.length := (List.getElem?_eq_some_iff.1 hu).1
  rw [over_get _ _ _ hl, if_neg (by omega), if_pos (by rw [List.length_map]; omega), Nat.sub_zero, List.getElem?_map]
  rw [show m[j]? = some u from hu]; rfl
theorem GrownIn.at_ {cs : Array Value} {m : List (BitVec 32)} {n : Nat} (h : GrownIn cs m n) (hm : m.length = 16) (j : Nat) (hj : j < 16 + n) : ∃ x, (grow m n)[j]? = some x ∧ cs[j]? = some (u32v x) := by
  have hl : j < (grow m n).length := by rw [grow_length]; omega
  exact ⟨_, List.getElem?_eq_getElem hl, h.2 j _ (List.getElem?_eq_getElem hl)⟩
theorem GrownIn.eq {cs : Array Value} {m : List (BitVec 32)} (h : GrownIn cs m 48) (hm : m.length = 16) : cs = ((grow m 48).map u32v).toArray := by
  have hl : (grow m 48).length = 64 := by rw [grow_length]; omega
  apply Array.ext_getElem?
  intro i
  by_cases hi : i < 64
  · obtain ⟨x, h1, h2⟩ := h.at_ hm i (by omega)
    rw [h2, List.getElem?_toArray, List.getElem?_map, h1]; rfl
  · rw [Array.getElem?_eq_none (by rw [h.1]; omega), Array.getElem?_eq_none (by simp [hl]; omega)]
theorem grownIn_succ {cs : Array Value} {m : List (BitVec 32)} {n k : Nat} {x : BitVec 32} (hm : m.length = 16) (h : GrownIn cs m n) (hk : k = 16 + n) (hx : more (grow m n) = x) (hn : n < 48) :
    GrownIn (cs.setIfInBounds k (.int .u32 (iv x))) m (n + 1) := by
  refine ⟨by simpa using h.1, fun j u hu => ?_⟩
  have hl : (grow m n).length = k := by rw [grow_length]; omega
  rw [grow, hx] at hu
  rw [Array.getElem?_setIfInBounds]
  by_cases e : k = j
  · subst e
    rw [List.getElem?_append_right (by omega), hl, Nat.sub_self] at hu
    rw [if_pos rfl, if_pos (by rw [h.1]; omega)]
    obtain rfl : x = u := by simpa using hu
    rfl
  · rw [if_neg e]
    have hj : j < (grow m n ++ [x]).length := (List.getElem?_eq_some_iff.1 hu).1
    rw [List.length_append, hl] at hj
    rw [List.getElem?_append_left (by simp at hj; omega)] at hu
    exact h.2 j u hu
theorem more_eq {m : List (BitVec 32)} {n k : Nat} (hm : m.length = 16) (hk : k = 16 + n) {x16 x15 x7 x2 : BitVec 32} (h16 : (grow m n)[k - 16]? = some x16) (h15 : (grow m n)[k - 15]? = some x15) (h7 : (grow m n)[k - 7]? = some x7) (h2 : (grow m n)[k - 2]? = some x2) :
    more (grow m n) = x16 + (rotr x15 7 ^^^ rotr x15 18 ^^^ x15 >>> 3) + x7 + (rotr x2 17 ^^^ rotr x2 19 ^^^ x2 >>> 10) := by
  have hl : (grow m n).length = k := by rw [grow_length]; omega
  unfold more
  rw [hl]
  simp only [List.getD_eq_getElem?_getD, h16, h15, h7, h2, Option.getD_some]
  rfl

set_option maxRecDepth 100000 in
set_option maxHeartbeats 400000 in
theorem grown_any (s : ByteArray) (m : List (BitVec 32)) (hm : m.length = 16) (hs : s = txt (wordsB m)) (w : World) :
    Calls Try.prog 143 #[.string s] w fun e w' => e = .returned (.agg ((grow m 48).map u32v).toArray) ∧ Below w.heap.size w w' := by
  go_enter Try.func143, Try.ntmps143
  go_wp2_with (fail)
  generalize hz : (Obj.cells _ 191) = Z
  obtain ⟨cs, rfl, hcs⟩ : ∃ cs : Array Value, Z = Obj.cells cs 191 ∧ cs.size = 64 := ⟨_, hz.symm, rfl⟩
  clear hz
  refine (words_any _ m 16 hm (by omega) rfl _).mono ?_
  rintro e w1 ⟨g, rfl, hrd, hb⟩
  have hb0 : Below w.heap.size w ((w.alloc (Obj.cells cs 191)).alloc (Obj.cells cs 191)) := ((Below.refl _ _).alloc (Nat.le_refl _) _).alloc (by simp) _
  have hblk0 : Blk w1 w.heap.size 191 cs := ((Blk.new w _ cs).alloc _).below hb
  have hblk1 : Blk w1 (w.heap.size + 1) 191 cs := by
    have := (Blk.new (w.alloc (Obj.cells cs 191)) 191 cs).below hb
    simpa using this
  have hb1 : Below w.heap.size w w1 := hb0.trans (hb.mono hb0.size)
  clear hb hb0
  go_wp2_with (with_reducible refine wpList_copy_blk rfl _ _ 101 101 rfl 151 Try.underlying101 sizeW (w.heap.size + 1) 0 64 64 16 16 _ rfl rfl cs 191 hblk1 (m.map u32v) ?c1 hrd ?c2 (u32v_one _) ?_)
  case c1 => rw [List.length_map, hm]; rfl
  case c2 => rw [List.length_map]; omega
  intro w2 hblk2 hg2
  have hcs2 : (over cs 0 (m.map u32v)).size = 64 := by rw [over_size _ _ _ (by rw [List.length_map]; omega)]; exact hcs
  have hin2 : GrownIn (over cs 0 (m.map u32v)) m 0 := grownIn_0 hcs hm
  have hblk3 : Blk w2 w.heap.size 191 cs := (hg2.block _ hblk0.lt (by simp)).trans hblk0
  have hb2 : Below w.heap.size w w2 := hb1.trans ⟨hg2.os, hg2.tape, hg2.output, hg2.size, fun k hk => hg2.block k (by have := hb1.size; omega) (by simp; omega)⟩
  clear hg2 hcs2 hb1 hblk0 hblk1 hrd
  go_wp2
  go_loopw [6] (fun i wr => ∃ n : Nat, ∃ cs' : Array Value, n ≤ 48 ∧ i = .int .i64 ((16 + n : Nat) : Int) ∧ Blk wr (w.heap.size + 1) 191 cs' ∧ Blk wr w.heap.size 191 cs ∧ GrownIn cs' m n ∧ Below w.heap.size w wr) (fun i _ => 64 - (intOf i).toNat)
  case atStart => exact ⟨0, _, by omega, rfl, hblk2, hblk3, hin2, hb2⟩
  case round =>
    obtain ⟨n, cs', hn, rfl, hb, hr, hin, hbl⟩ := hrel
    clear hblk2 hblk3 hin2 hb2
    by_cases hlt : n < 48
    · obtain ⟨k, hk⟩ : ∃ k, k = 16 + n := ⟨_, rfl⟩
      obtain ⟨x16, y16, c16⟩ := hin.at_ hm (k - 16) (by omega)
      obtain ⟨x15, y15, c15⟩ := hin.at_ hm (k - 15) (by omega)
      obtain ⟨x7, y7, c7⟩ := hin.at_ hm (k - 7) (by omega)
      obtain ⟨x2, y2, c2⟩ := hin.at_ hm (k - 2) (by omega)
      have HM := hid (more_eq hm hk y16 y15 y7 y2)
      have d16 := hb.cell_ c16
      have d15 := hb.cell_ c15
      have d7 := hb.cell_ c7
      have d2 := hb.cell_ c2
      obtain ⟨vk, hvk⟩ : ∃ vk, cs'[k]? = some vk := ⟨_, Array.getElem?_eq_getElem (by have := hin.1; omega)⟩
      have dk := hb.cell_ hvk
      have fz := hb.frozen k
      rw [u32v] at d16 d15 d7 d2
      have g16 : (0 : Int) ≤ (k : Int) - 16 := by omega
      have g15 : (0 : Int) ≤ (k : Int) - 15 := by omega
      have g7 : (0 : Int) ≤ (k : Int) - 7 := by omega
      have g2 : (0 : Int) ≤ (k : Int) - 2 := by omega
      have t16 : ((k : Int) - 16).toNat = k - 16 := by omega
      have t15 : ((k : Int) - 15).toNat = k - 15 := by omega
      have t7 : ((k : Int) - 7).toNat = k - 7 := by omega
      have t2 : ((k : Int) - 2).toNat = k - 2 := by omega
      have gk : (k : Int) < 64 := by omega
      have a16 : (16 : Int) ≤ k := by omega
      have b16 : (k : Int) - 16 < 64 := by omega
      have a7 : (7 : Int) ≤ k := by omega
      have b7 : (k : Int) - 7 < 64 := by omega
      have ak : (0 : Int) ≤ k := by omega
      have q16 : IntKind.i64.wrap ((k : Int) - 16) = (k : Int) - 16 := by rw [IntKind.wrap_i64]; omega
      have q7 : IntKind.i64.wrap ((k : Int) - 7) = (k : Int) - 7 := by rw [IntKind.wrap_i64]; omega
      have HI := hid hin
      have HK := hid hk
      rw [← hk]
      clear y16 y15 y7 y2 c16 c15 c7 c2 hin hk hvk
      go_wp2
      go_quiet (fail)
      go_wp2_with (go_at_call 144; (with_reducible refine (rotr_any _ _ (by decide) (by decide) _).mono ?_); rintro e w' ⟨rfl, rfl⟩)
      refine wp_region_tail 15 (by kernel_rfl) (by kernel_rfl) ?_
      intro W HW
      simp only [List.take_succ_cons, List.take_zero, List.drop_succ_cons, List.drop_zero]
      have hW : W.heap = wr.heap := by rw [HW.out]; rfl
      have v16 := cell_heap hW d16
      have v7 := cell_heap hW d7
      have vk := cell_heap hW dk
      have vf := frozen_heap hW fz
      have hb' := blk_heap hW hb
      have hr' := blk_heap hW hr
      have hbl' : Below w.heap.size w W := by rw [HW.out]; exact below_drewN (below_drewN hbl nq) 1
      clear hW hb hr hbl
      clear d16 d15 d7 d2 dk fz
      repeat still_step
      refine wpStill_nil ?_
      go_wp2
      go_roundw
      case rel => exact ⟨n + 1, _, by omega, by rw [HK.out]; go_num, hb'.set k _, hr'.far (by simp) _, grownIn_succ hm HI.out HK.out HM.out hlt, hbl'.setCell (by simp) _⟩
      case measure => simp [intOf]; omega
    · obtain rfl : n = 48 := by omega
      have hsz' : (Try.prog.info? 191).map (·.size) = some cs'.size := by rw [hin.1]; exact size64w
      have hall : cs'.all (·.oneCell') = true := by
        rw [hin.eq hm, ← Array.all_toList]
        simp only [List.all_eq_true]
        exact u32v_one _
      have HI := hid hin
      have HZ := hid hsz'
      have HA := hid hall
      clear hin hsz' hall
      go_wp2_with (first
        | (with_reducible refine wpList_load_blk rfl 191 _ rfl (w.heap.size + 1) cs' 191 hb rfl _ Try.underlying191 rfl HZ.out ?_)
        | (with_reducible refine wpList_store_blk rfl 191 _ _ rfl w.heap.size cs cs' 191 hr rfl rfl HZ.out ?c3 HA.out ?_))
      case c3 => rw [hcs, HI.out.1]
      intro w3 hb3 hg3
      go_wp2
      refine bodyPost_ret (results_cell_row rfl _ _ _ _ _ _ _ rfl hb3 Try.underlying191 rfl HZ.out) rfl ⟨?_, ?_⟩
      · rw [HI.out.eq hm]
      · exact hbl.grown hg3 hbl.size (by intro k e; cases e; exact Nat.le_refl _)
end Go.Proofs.Ytkbokffonnjjiaa

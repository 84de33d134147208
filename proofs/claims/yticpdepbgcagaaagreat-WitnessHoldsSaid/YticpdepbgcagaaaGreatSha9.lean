
/- The contract of the document's block. -/
import Derived.Test.YticpdepbgcagaaaGreatSha8
import Derived.Test.YticpdepbgcagaaaGreatKit3
namespace Go.Proofs.YticpdepbgcagaaaGreat
open Go.RowKit Go.Qc
attribute [local go_sem] iv_add iv_and iv_or iv_xor iv_not iv_bnot iv_shl iv_shr iv_inj iv_div3 iv_div10

def up32 (x : BitVec 32) : BitVec 64 := BitVec.ofNat 64 x.toNat
theorem up32_lo (x : BitVec 32) : IntKind.u32.wrap (lv (up32 x)) = iv x := by
  have := x.isLt
  unfold lv iv up32; rw [IntKind.wrap_u32', BitVec.toNat_ofNat]; omega
theorem valB_word (x : BitVec 32) : valB (wordB x) 0#64 = up32 x := by
  have hx := x.isLt
  unfold valB wordB
  simp only [List.foldl_cons, List.foldl_nil, shl8_or]
  apply BitVec.eq_of_toNat_eq
  unfold up64 loB up32
  simp only [BitVec.toNat_add, BitVec.toNat_mul, BitVec.toNat_ofNat, UInt8.toNat_ofNat', BitVec.toNat_ushiftRight, Nat.shiftRight_eq_div_pow]
  omega
theorem rvalue_word (x : BitVec 32) (w : World) :
    Calls Tryz.prog 99 #[.string (txt (wordB x))] w fun e w' => e = .returned (.int .u64 (lv (up32 x))) ∧ w = w' := by
  have h := rvalue_any (txt (wordB x)) (by rw [txt_size]; show 4 ≤ maxLen; decide) w
  rw [show (txt (wordB x)).data.toList = wordB x by simp [txt], valB_word] at h
  exact h
theorem word_cut (m : List (BitVec 32)) (k : Nat) (x : BitVec 32) (hx : m[k]? = some x) : (txt (wordsB m)).extract (4 * k) (4 * k + 4) = txt (wordB x) := by
  rw [txt_extract]
  congr 1
  apply List.ext_getElem?
  intro j
  rw [List.getElem?_take, List.getElem?_drop]
  by_cases hj : j < 4
  · rw [if_pos (by omega), wordsB_get m k j x hx hj, wordB_get x j hj]
  · rw [if_neg (by omega), List.getElem?_eq_none (show (wordB x).length ≤ j by simp [wordB]; omega)]

attribute [local go_sem] up32_lo

theorem list_add (s t : S8) (k : Nat) (hk : k < 8) : ∃ x y, (s.list.map u32v)[k]? = some (u32v x) ∧ (t.list.map u32v)[k]? = some (u32v y) ∧ (s.add t).list[k]? = some (x + y) := by
  match k, hk with
  | 0, _ => exact ⟨_, _, rfl, rfl, rfl⟩
  | 1, _ => exact ⟨_, _, rfl, rfl, rfl⟩
  | 2, _ => exact ⟨_, _, rfl, rfl, rfl⟩
  | 3, _ => exact ⟨_, _, rfl, rfl, rfl⟩
  | 4, _ => exact ⟨_, _, rfl, rfl, rfl⟩
  | 5, _ => exact ⟨_, _, rfl, rfl, rfl⟩
  | 6, _ => exact ⟨_, _, rfl, rfl, rfl⟩
  | 7, _ => exact ⟨_, _, rfl, rfl, rfl⟩
theorem quiet_more_d {P : Program} {f : FuncId} {args : Array Value} {w : World} {a n : Nat} {v : Value} (h : Calls P f args (w.drewN (a + n)) fun e w' => e = .returned v ∧ ∃ k, w' = (w.drewN (a + n)).drewN k) :
    Calls P f args (w.drewN (a + n)) fun e w'' => e = .returned v ∧ ∃ m, w'' = w.drewN (a + m) :=
  h.mono fun _ _ ⟨he, k, hw⟩ => ⟨he, n + k, by rw [hw, World.drewN_drewN, Nat.add_assoc]⟩
theorem rnds_or (s : S8) (w : List (BitVec 32)) (n : Nat) : rnds s w (n + 1) =
    ⟨(rnds s w n).h + (rotr (rnds s w n).e 6 ^^^ rotr (rnds s w n).e 11 ^^^ rotr (rnds s w n).e 25) + ((rnds s w n).e &&& (rnds s w n).f ||| ~~~(rnds s w n).e &&& (rnds s w n).g) + kList.getD n 0#32 + w.getD n 0#32 +
      ((rotr (rnds s w n).a 2 ^^^ rotr (rnds s w n).a 13 ^^^ rotr (rnds s w n).a 22) + ((rnds s w n).a &&& (rnds s w n).b ||| (rnds s w n).a &&& (rnds s w n).c ||| (rnds s w n).b &&& (rnds s w n).c)), (rnds s w n).a, (rnds s w n).b, (rnds s w n).c,
      (rnds s w n).d + ((rnds s w n).h + (rotr (rnds s w n).e 6 ^^^ rotr (rnds s w n).e 11 ^^^ rotr (rnds s w n).e 25) + ((rnds s w n).e &&& (rnds s w n).f ||| ~~~(rnds s w n).e &&& (rnds s w n).g) + kList.getD n 0#32 + w.getD n 0#32), (rnds s w n).e, (rnds s w n).f, (rnds s w n).g⟩ := by
  rw [ch_or, maj_or]; rfl
theorem rd_at0 {w : World} {g : Nat} {xs : List Value} (h : Rd w (some ⟨g, 0, none⟩) xs) (j : Nat) (u : Value) (hu : xs[j]? = some u) : w.cell? ⟨g, j, none⟩ = some u := by
  rcases h with rfl | ⟨ad, e, hc⟩
  · simp at hu
  · obtain rfl := Option.some.inj e
    have := hc j u hu
    rwa [add_lit0] at this
theorem rd_some {w : World} {A : Option Addr} {xs : List Value} (h : Rd w A xs) (j : Nat) (u : Value) (hu : xs[j]? = some u) : ∃ ad, A = some ad ∧ w.cell? (ad.add j) = some u := by
  rcases h with rfl | ⟨ad, e, hc⟩
  · simp at hu
  · exact ⟨ad, e, hc j u hu⟩
theorem grow_at (m : List (BitVec 32)) (hm : m.length = 16) (n : Nat) (h : n < 64) : ((grow m 48).map u32v)[n]? = some (u32v ((grow m 48).getD n 0#32)) := by
  have hl : n < (grow m 48).length := by rw [grow_length]; omega
  rw [List.getElem?_map, List.getD_eq_getElem?_getD, List.getElem?_eq_getElem hl]; rfl
theorem kList_at (n : Nat) (h : n < 64) : (kList.map u32v)[n]? = some (u32v (kList.getD n 0#32)) := by
  have hl : n < kList.length := h
  rw [List.getElem?_map, List.getD_eq_getElem?_getD, List.getElem?_eq_getElem hl]; rfl

set_option maxRecDepth 100000 in
set_option maxHeartbeats 4000000 in
theorem one_any (st : S8) (m : List (BitVec 32)) (hm : m.length = 16) (A1 A2 : Option Addr) (c1 c2 : Nat) (w : World) (hr1 : Rd w A1 (st.list.map u32v)) (hr2 : Rd w A2 (kList.map u32v)) :
    Calls Tryz.prog 78 #[.slice A1 8 c1, .slice A2 64 c2, .string (txt (wordsB m))] w fun e w' => ∃ A c, e = .returned (.slice A 8 c) ∧ Rd w' A ((blk st m).list.map u32v) ∧ Below w.heap.size w w' := by
  obtain ⟨i0, hi, hz0, hz1, hz2⟩ := info_parts infoWord
  have hbz : (txt (wordsB m)).size = 64 := by rw [txt_size, wordsB_length, hm]
  go_enter Tryz.func78, Tryz.ntmps78
  go_wp2
  go_loopw [7, 8] (fun v i wr => ∃ k : Nat, k ≤ 16 ∧ i = .int .i64 k ∧ wr.ownsRow w.heap.size 142 1 v k ((m.take k).map u32v) ∧ Below w.heap.size w wr) (fun _ i _ => 16 - (intOf i).toNat)
  case atStart => exact ⟨0, by omega, rfl, World.ownsRow_made _ _ _ (Nat.le_refl _) (by decide) rfl, (Below.refl _ _).alloc (Nat.le_refl _) _⟩
  case round =>
    obtain ⟨k, hk, rfl, hown, hb⟩ := hrel
    have hsz := hb.size
    by_cases hlt : k < 16
    · obtain ⟨x, hx⟩ : ∃ x, m[k]? = some x := ⟨_, List.getElem?_eq_getElem (by omega)⟩
      have hcut := word_cut m k x hx
      have HX := hid (take_snoc hx)
      clear hx
      have c0 : (0 : Int) ≤ 4 * k := by omega
      have c1 : (4 * (k : Int)) ≤ 4 * k + 4 := by omega
      have c2 : 4 * (k : Int) + 4 ≤ 64 := by omega
      go_wp2_with (first
        | (go_at_call 99; (with_reducible refine (rvalue_word _ _).mono ?_); rintro e' w' ⟨rfl, rfl⟩)
        | (at_builtin; refine wpList_append_new rfl _ _ 108 rfl w.heap.size 142 i0 (.int .u32 0) 4 Tryz.underlying108 hi hz0 hz1 hz2 rfl _ _ _ rfl hown 1 _ rfl rfl ?c2 ?c3 ?c4 hsz ?_))
      case c2 => simp [Value.oneCell']
      case c3 => unfold maxLen; omega
      case c4 => omega
      intro v' w' hown' hb'
      go_wp2
      go_roundw
      case rel => exact ⟨k + 1, by omega, by go_num, by rw [HX.out, List.map_append, List.map_take]; exact hown', hb.trans hb'⟩
      case measure => simp [intOf]; omega
    · obtain rfl : k = 16 := by omega
      have hown1 : wr.ownsRow w.heap.size 142 1 u7 16 ((grow m 0).map u32v) := by
        have := hown
        rw [List.take_of_length_le (by omega)] at this
        exact this
      clear hown hlt hbz
      go_wp2
      obtain ⟨wa, hwa⟩ : ∃ wa : World, wa = wr := ⟨_, rfl⟩
      rw [← hwa] at hown1 hb
      rw [← hwa]
      clear hwa
      go_loopw [7, 9] (fun v i wr => ∃ n : Nat, n ≤ 48 ∧ i = .int .i64 ((16 + n : Nat) : Int) ∧ wr.ownsRow w.heap.size 142 1 v (16 + n) ((grow m n).map u32v) ∧ Below w.heap.size w wr) (fun _ i _ => 64 - (intOf i).toNat)
      case atStart => exact ⟨0, by omega, rfl, hown1, hb⟩
      case round =>
        obtain ⟨n, hn, rfl, hown, hbr⟩ := hrel
        clear hown1 hb
        have hsz := hbr.size
        by_cases hlt : n < 48
        · obtain ⟨k, hk⟩ : ∃ k, k = 16 + n := ⟨_, rfl⟩
          rw [← hk] at hown ⊢
          have hl : (grow m n).length = k := by rw [grow_length]; omega
          obtain ⟨gA, c, rfl, hgA, hcl⟩ := own_form hown (by omega)
          obtain ⟨x16, y16⟩ : ∃ x, (grow m n)[k - 16]? = some x := ⟨_, List.getElem?_eq_getElem (by omega)⟩
          obtain ⟨x15, y15⟩ : ∃ x, (grow m n)[k - 15]? = some x := ⟨_, List.getElem?_eq_getElem (by omega)⟩
          obtain ⟨x7, y7⟩ : ∃ x, (grow m n)[k - 7]? = some x := ⟨_, List.getElem?_eq_getElem (by omega)⟩
          obtain ⟨x2, y2⟩ : ∃ x, (grow m n)[k - 2]? = some x := ⟨_, List.getElem?_eq_getElem (by omega)⟩
          have z16 : ((grow m n).map u32v)[k - 16]? = some (.int .u32 (iv x16)) := by rw [List.getElem?_map, y16]; rfl
          have z7 : ((grow m n).map u32v)[k - 7]? = some (.int .u32 (iv x7)) := by rw [List.getElem?_map, y7]; rfl
          have d16 := hcl _ _ z16
          have d7 := hcl _ _ z7
          have d15 : wr.cell? ⟨gA, k - 15, none⟩ = some (.int .u32 (iv x15)) := hcl _ _ (by rw [List.getElem?_map, y15]; rfl)
          have d2 : wr.cell? ⟨gA, k - 2, none⟩ = some (.int .u32 (iv x2)) := hcl _ _ (by rw [List.getElem?_map, y2]; rfl)
          have HZ16 := hid z16
          have HZ7 := hid z7
          clear z16 z7 hcl
          have HM := hid (more_eq hm hk y16 y15 y7 y2)
          have g16 : (0 : Int) ≤ (k : Int) - 16 := by omega
          have g15 : (0 : Int) ≤ (k : Int) - 15 := by omega
          have g7 : (0 : Int) ≤ (k : Int) - 7 := by omega
          have g2 : (0 : Int) ≤ (k : Int) - 2 := by omega
          have t16 : ((k : Int) - 16).toNat = k - 16 := by omega
          have t15 : ((k : Int) - 15).toNat = k - 15 := by omega
          have t7 : ((k : Int) - 7).toNat = k - 7 := by omega
          have t2 : ((k : Int) - 2).toNat = k - 2 := by omega
          have gk : (k : Int) < 64 := by omega
          have b16 : (k : Int) - 16 < k := by omega
          have b15 : (k : Int) - 15 < k := by omega
          have b7 : (k : Int) - 7 < k := by omega
          have b2 : (k : Int) - 2 < k := by omega
          have a16 : (16 : Int) ≤ k := by omega
          have a15 : (15 : Int) ≤ k := by omega
          have a7 : (7 : Int) ≤ k := by omega
          have a2 : (2 : Int) ≤ k := by omega
          have q16 : IntKind.i64.wrap ((k : Int) - 16) = (k : Int) - 16 := by rw [IntKind.wrap_i64]; omega
          have q7 : IntKind.i64.wrap ((k : Int) - 7) = (k : Int) - 7 := by rw [IntKind.wrap_i64]; omega
          have q15 : IntKind.i64.wrap ((k : Int) - 15) = (k : Int) - 15 := by rw [IntKind.wrap_i64]; omega
          have q2 : IntKind.i64.wrap ((k : Int) - 2) = (k : Int) - 2 := by rw [IntKind.wrap_i64]; omega
          have HK := hid hk
          have HL := hid hl
          clear y16 y15 y7 y2 hk hl
          go_wp2
          go_quiet (fail)
          go_wp2
          go_region_held3 (fun w' => w'.cell? ⟨gA, k - 16, none⟩ = some (.int .u32 (iv x16)) ∧ w'.cell? ⟨gA, k - 7, none⟩ = some (.int .u32 (iv x7)))
            (first | go_keep | (exact ⟨hkeep _ _ HZ16.out, hkeep _ _ HZ7.out⟩))
            (first
              | (refine step_append_keep (by rfl) _ _ 108 (by rfl) w.heap.size 142 i0 (.int .u32 0) 4 Tryz.underlying108 hi hz0 hz1 hz2 rfl gA k c _ (by rfl) (by exact hown) 1 _ rfl _ (by rfl) (by rfl) (by simp [Value.oneCell']) (by unfold maxLen; omega) (by omega) (by exact hsz) ?_; intro v' w' hown' hb' hkeep)
              | (go_at_call 100; refine (turn2_any _ _ (by decide) (by decide) _).mono ?_; rintro e' w' ⟨rfl, nq, rfl⟩))
          have hbw : Below w.heap.size wr w' := ⟨hb'.os, hb'.tape, hb'.output, hb'.size, hb'.block⟩
          try go_wp2
          go_roundw
          case rel => exact ⟨n + 1, by omega, by rw [HK.out]; go_num, by rw [grow, HM.out, List.map_append, show 16 + (n + 1) = k + 1 by have := HK.out; omega]; exact hown', hbr.trans hbw⟩
          case measure => simp [intOf]; omega
        · obtain rfl : n = 48 := by omega
          obtain ⟨gw, cw, rfl, hgw, hclw⟩ := own_form hown (by omega)
          obtain ⟨ad1, rfl, hc1⟩ : ∃ ad1, A1 = some ad1 ∧ ∀ j u, (st.list.map u32v)[j]? = some u → w.cell? (ad1.add j) = some u := by
            rcases hr1 with h | ⟨ad1, rfl, hc1⟩
            · exact absurd (congrArg List.length h) (by simp [S8.list])
            · exact ⟨ad1, rfl, hc1⟩
          have hrw : Rd wr (some ⟨gw, 0, none⟩) ((grow m 48).map u32v) := .inr ⟨_, rfl, fun j u hu => by rw [add_lit0]; exact hclw j u hu⟩
          have hr1' : Rd wr (some ad1) (st.list.map u32v) := (Rd.below (w := w) (.inr ⟨_, rfl, hc1⟩) hbr)
          have hr2' := hr2.below hbr
          have hc1' : ∀ j u, (st.list.map u32v)[j]? = some u → (wr.alloc (.cells #[] 142)).cell? (ad1.add j) = some u := by
            intro j u hu
            refine Below.keep ((Below.refl _ _).alloc (Nat.le_refl _) _) ?_
            exact Below.keep hbr (hc1 j u hu)
          have hL0 : (wr.alloc (.cells #[] 142)).ownsRow wr.heap.size 142 1 (.slice (some ⟨wr.heap.size, 0, none⟩) 0 0) 0 [] := World.ownsRow_made _ _ _ (Nat.le_refl _) (by decide) rfl
          clear hown hclw hc1 hr1 hr2 hlt
          go_wp2_with (at_builtin; refine wpList_append_own _ rfl _ _ 108 rfl wr.heap.size 142 i0 (.int .u32 0) 1 4 Tryz.underlying108 hi hz0 hz1 hz2 rfl (by decide) _ 0 [] rfl hL0 ad1 8 c1 (st.list.map u32v) rfl rfl hc1' (u32v_one _) (by decide) (by decide) (by simp) ?_)
          intro v1 w3 hown3 hg3 _
          have hb3 : Below wr.heap.size wr w3 := ((Below.refl _ _).alloc (Nat.le_refl _) _).trans (below_grown hL0 (by simp) hg3)
          have hrw3 := hrw.below hb3
          have hr13 := hr1'.below hb3
          have hr23 := hr2'.below hb3
          have hB3 := hbr.trans (hb3.mono hsz)
          obtain ⟨gl, cl, rfl, hgl, hcll⟩ := own_form hown3 (by omega)
          clear hL0 hc1' hg3 hb3 hown3 hrw hr1' hr2'
          go_wp2
          have hrl : Rd w3 (some ⟨gl, 0, none⟩) ((rnds st (grow m 48) 0).list.map u32v) := .inr ⟨_, rfl, fun j u hu => by rw [add_lit0]; exact hcll j u hu⟩
          clear hcll hgl hgw hbr hsz
          go_loopw [12, 13] (fun v i wr => ∃ n g c : Nat, n ≤ 64 ∧ i = .int .i64 n ∧ v = .slice (some ⟨g, 0, none⟩) 8 c ∧ Rd wr (some ⟨g, 0, none⟩) ((rnds st (grow m 48) n).list.map u32v) ∧ Below w3.heap.size w3 wr) (fun _ i _ => 64 - (intOf i).toNat)
          case atStart => exact ⟨0, gl, cl, by omega, rfl, rfl, hrl, Below.refl _ _⟩
          case round =>
            obtain ⟨n, g, c, hn, rfl, rfl, hrd, hbn⟩ := hrel
            clear hrl
            have HR := hid (rnds_or st (grow m 48) n)
            generalize hSn : rnds st (grow m 48) n = S at *
            have HSn := hid hSn
            clear hSn
            obtain ⟨a, b, cc, d, e, f, gg, h⟩ := S
            by_cases hlt : n < 64
            · have k0 := rd_at0 hrd 0 (.int .u32 (iv a)) rfl
              have k1 := rd_at0 hrd 1 (.int .u32 (iv b)) rfl
              have k2 := rd_at0 hrd 2 (.int .u32 (iv cc)) rfl
              have k3 := rd_at0 hrd 3 (.int .u32 (iv d)) rfl
              have k4 := rd_at0 hrd 4 (.int .u32 (iv e)) rfl
              have k5 := rd_at0 hrd 5 (.int .u32 (iv f)) rfl
              have k6 := rd_at0 hrd 6 (.int .u32 (iv gg)) rfl
              have k7 := rd_at0 hrd 7 (.int .u32 (iv h)) rfl
              have kw := rd_at0 (hrw3.below hbn) n _ (grow_at m hm n hlt)
              obtain ⟨ad2, rfl, kk⟩ := rd_some (hr23.below hbn) n _ (kList_at n hlt)
              rw [u32v] at kw kk
              generalize kList.getD n 0#32 = qk at *
              generalize (grow m 48).getD n 0#32 = qw at *
              have n0 : (0 : Int) ≤ n := by omega
              have n1 : (n : Int) < 64 := by omega
              clear hrd hrw3 hr13 hr23
              go_wp2
              go_quiet (fail)
              go_wp2
              go_quiet ((go_at_call 100; exact quiet_more_d (turn2_any _ _ (by decide) (by decide) _)))
              go_wp2
              go_quiet ((go_at_call 100; exact quiet_more_d (turn2_any _ _ (by decide) (by decide) _)))
              go_wp2
              refine wp_region_tail 26 (by kernel_rfl) (by kernel_rfl) ?_
              intro W HW
              simp only [List.take_succ_cons, List.take_zero, List.drop_succ_cons, List.drop_zero]
              have hW : W.heap = wr.heap := by rw [HW.out]; rfl
              have v0 := cell_heap hW k0
              have v1 := cell_heap hW k1
              have v2 := cell_heap hW k2
              have v3 := cell_heap hW k3
              have v4 := cell_heap hW k4
              have v5 := cell_heap hW k5
              have v6 := cell_heap hW k6
              have hbW : Below w3.heap.size w3 W := by
                have e1 : W.os = wr.os := by rw [HW.out]; rfl
                have e2 : W.tape = wr.tape := by rw [HW.out]; rfl
                have e3 : W.output = wr.output := by rw [HW.out]; rfl
                exact ⟨e1.trans hbn.os, e2.trans hbn.tape, e3.trans hbn.output, by rw [hW]; exact hbn.size, fun i hi => by rw [hW]; exact hbn.block i hi⟩
              clear k0 k1 k2 k3 k4 k5 k6 k7 kw kk hW hbn
              repeat still_step
              refine wpStill_nil ?_
              go_wp2
              go_roundw
              case rel =>
                refine ⟨n + 1, _, _, by omega, by go_num, rfl, ?_, hbW.alloc hbW.size _⟩
                rw [HR.out]
                exact Rd.blk (Blk.new _ _ _) (fun j u hu => by rw [← List.getElem?_toArray] at hu; exact hu)
              case measure => simp [intOf]; omega
            · obtain rfl : n = 64 := by omega
              rw [show ((64 : Nat) : Int) = 64 from rfl]
              have hr14 := hr13.below hbn
              have hB4 := hB3.trans (hbn.mono hB3.size)
              have hbk : blk st m = S8.add st ⟨a, b, cc, d, e, f, gg, h⟩ := by unfold blk; rw [HSn.out]
              have HBK := hid hbk
              clear hrw3 hr13 hr23 hbn hB3 hbk
              generalize (⟨a, b, cc, d, e, f, gg, h⟩ : S8) = S at *
              obtain ⟨wb, hwb⟩ : ∃ wb : World, wb = wr := ⟨_, rfl⟩
              rw [← hwb] at hrd hr14 hB4 ⊢
              clear hwb
              have hlt4 : w.heap.size ≤ wb.heap.size := hB4.size
              go_wp2
              go_loopw [18, 19] (fun v i wr => ∃ k : Nat, k ≤ 8 ∧ i = .int .i64 k ∧ wr.ownsRow wb.heap.size 142 1 v k (((S8.add st S).list.take k).map u32v) ∧ Below wb.heap.size wb wr) (fun _ i _ => 8 - (intOf i).toNat)
              case atStart => exact ⟨0, by omega, rfl, World.ownsRow_made _ _ _ (Nat.le_refl _) (by decide) rfl, (Below.refl _ _).alloc (Nat.le_refl _) _⟩
              case round =>
                obtain ⟨k, hk4, rfl, hown4, hb4⟩ := hrel
                have hsz4 := hb4.size
                by_cases hlk : k < 8
                · obtain ⟨x, y, hx, hy, hxy⟩ := list_add st S k hlk
                  obtain ⟨ad, ea, ka⟩ := rd_some (hr14.below hb4) k _ hx
                  obtain rfl := Option.some.inj ea
                  have kb := rd_at0 (hrd.below hb4) k _ hy
                  rw [u32v] at ka kb
                  have n0 : (0 : Int) ≤ k := by omega
                  have n1 : (k : Int) < 8 := by omega
                  have HT := hid (take_snoc hxy)
                  have pa := World.block_lt_of_cell? wb _ (rd_some hr14 k _ hx).choose_spec.2
                  have pb := World.block_lt_of_cell? wb _ (rd_at0 hrd k _ hy)
                  rw [← Option.some.inj (rd_some hr14 k _ hx).choose_spec.1] at pa
                  have HPA := hid pa
                  have HPB := hid pb
                  clear hx hy hxy ea hrd hr14 pa pb
                  go_wp2
                  go_region_held3 (fun w' => w'.cell? (ad1.add k) = some (.int .u32 (iv x)) ∧ w'.cell? ⟨g, k, none⟩ = some (.int .u32 (iv y)))
                    (first | go_keep | (exact ⟨(hb'.cell HPA.out).trans (by exact ka), (hb'.cell HPB.out).trans (by exact kb)⟩))
                    (first
                      | (refine step_append_newd (by rfl) _ _ 108 (by rfl) wb.heap.size 142 i0 (.int .u32 0) 4 Tryz.underlying108 hi hz0 hz1 hz2 rfl _ k _ (by rfl) (by exact hown4) 1 _ (by rfl) _ (by rfl) (by rfl) (by simp [Value.oneCell']) (by unfold maxLen; omega) (by omega) (by exact hsz4) ?_; intro v' w' hown' hb'))
                  have hbw : Below wb.heap.size wr w' := ⟨hb'.os, hb'.tape, hb'.output, hb'.size, hb'.block⟩
                  try go_wp2
                  go_roundw
                  case rel => exact ⟨k + 1, by omega, by go_num, by rw [HT.out, List.map_append]; exact hown', hb4.trans hbw⟩
                  case measure => simp [intOf]; omega
                · obtain rfl : k = 8 := by omega
                  obtain ⟨gf, cf, rfl, hgf, hcf⟩ := own_form hown4 (by omega)
                  go_wp2
                  go_ret
                  refine ⟨_, _, rfl, .inr ⟨_, rfl, fun j u hu => ?_⟩, hB4.trans (hb4.mono hlt4)⟩
                  rw [add_lit0]
                  refine hcf j u ?_
                  rw [HBK.out] at hu
                  rw [List.take_of_length_le (show (S8.add st S).list.length ≤ 8 from Nat.le_refl _)]
                  exact hu
end Go.Proofs.YticpdepbgcagaaaGreat

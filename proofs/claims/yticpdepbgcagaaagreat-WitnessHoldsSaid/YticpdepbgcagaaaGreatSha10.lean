
/- The contract of the document's Sum. -/
import Derived.Test.YticpdepbgcagaaaGreatSha9
namespace Go.Proofs.YticpdepbgcagaaaGreat
open Go.RowKit Go.Qc
attribute [local go_sem] txt_size txt_append

theorem cut64 (P : List UInt8) (n q : Nat) (hq : q = 64 * n) (hn : 64 * (n + 1) ≤ P.length) : (txt P).extract q (q + 64) = txt (wordsB (unW 16 ((P.drop (64 * n)).take 64))) := by
  subst hq
  rw [wordsB_unW 16 _ (by rw [List.length_take, List.length_drop]; omega), txt_extract]
  congr 2
  omega

theorem feedN_succ (s : S8) (l : List UInt8) (n : Nat) : feedN s l (n + 1) = blk (feedN s l n) (unW 16 ((l.drop (64 * n)).take 64)) := rfl
theorem meas64 (N n q : Nat) (h : n < N) (hq : q = 64 * n) : 64 * N - (q + 64) < 64 * N - q := by omega
theorem intOf_i64 (n : Int) : intOf (.int .i64 n) = n := rfl
theorem list_length (s : S8) : s.list.length = 8 := rfl

set_option maxRecDepth 100000 in
set_option maxHeartbeats 1000000 in
theorem rsum_any (l : List UInt8) (hl : l.length ≤ 1000000000000) (w : World) :
    Calls Tryz.prog 40 #[.string (txt l)] w fun e w' => e = .returned (.agg (idVals (sumB l))) ∧ Below w.heap.size w w' := by
  obtain ⟨P, hP⟩ : ∃ P, P = l ++ padB l.length := ⟨_, rfl⟩
  have hPl : P.length ≤ 1000000000100 := by rw [hP, List.length_append, padB_length]; omega
  obtain ⟨N, hN⟩ : ∃ N, P.length = 64 * N := ⟨P.length / 64, by have := pad_whole l; rw [← hP] at this; omega⟩
  have HP := hid hP
  have HN := hid hN
  have HPL := hid hPl
  clear hP hN hPl
  go_enter Tryz.func40, Tryz.ntmps40
  go_wp2_with (fail)
  generalize hZ : (Obj.cells _ 24) = Z
  obtain ⟨zc, rfl, hzc⟩ : ∃ zc : Array Value, Z = Obj.cells zc 24 ∧ zc.size = 32 := ⟨_, hZ.symm, rfl⟩
  clear hZ
  refine (known_any _).mono ?_
  rintro e1 w1 ⟨g1, g2, rfl, hr1, hr2, hb1⟩
  have hI1 : Blk w1 w.heap.size 24 zc := (Blk.new w 24 zc).below hb1
  have hB1 : Below w.heap.size w w1 := ((Below.refl _ _).alloc (Nat.le_refl _) _).trans (hb1.mono (by simp))
  clear hb1
  go_wp2_with (fail)
  refine (padded_any l hl _).mono ?_
  rintro e2 w2 ⟨rfl, hb2⟩
  have hI2 := hI1.below hb2
  have hR1 := hr1.below hb2
  have hR2 := hr2.below hb2
  have hB2 := hB1.trans (hb2.mono hB1.size)
  clear hI1 hB1 hb2 hr1 hr2
  rw [← HP.out]
  have HZC := hid hzc
  clear hzc
  go_wp2
  go_loopw [3, 6] (fun v i wr => ∃ (n q : Nat) (A : Option Addr) (c : Nat), n ≤ N ∧ q = 64 * n ∧ v = .slice A 8 c ∧ i = .int .i64 (q : Int) ∧ Rd wr A ((feedN h0 P n).list.map u32v) ∧ Below w2.heap.size w2 wr) (fun _ i _ => 64 * N - (intOf i).toNat)
  case atStart => exact ⟨0, 0, _, _, by omega, rfl, rfl, rfl, hR1, Below.refl _ _⟩
  case round =>
    obtain ⟨n, q, A, c, hn, hq, rfl, rfl, hrd, hbn⟩ := hrel
    clear hR1
    by_cases hlt : n < N
    · have hk := hR2.below hbn
      have hcut := cut64 P n q hq (by have := HN.out; omega)
      obtain ⟨m, hm⟩ : ∃ m, m = unW 16 ((P.drop (64 * n)).take 64) := ⟨_, rfl⟩
      have hml : m.length = 16 := by rw [hm]; exact unW_length _ _
      rw [← hm] at hcut
      obtain ⟨st, hst⟩ : ∃ st, st = feedN h0 P n := ⟨_, rfl⟩
      rw [← hst] at hrd
      have HNXT : Hid (feedN h0 P (n + 1) = blk st m) := hid (by rw [feedN_succ, ← hm, ← hst])
      have HML := hid hml
      clear hm hml hst
      have l1 : (q : Int) < P.length := by have := HN.out; omega
      have l2 : (0 : Int) ≤ (q : Int) := by omega
      have l3 : (q : Int) + 64 ≤ P.length := by have := HN.out; omega
      have l4 : (q : Int) ≤ (q : Int) + 64 := by omega
      have l6 : ((q : Int) + 64).toNat = q + 64 := by omega
      have l8 : (0 : Int) ≤ (q : Int) + 64 := by omega
      have l7 : wrap64 ((q : Int) + 64) = (q : Int) + 64 := by
        have h1 := HN.out
        have h2 := HPL.out
        unfold wrap64; omega
      have HQ := hid hq
      clear hq
      go_wp2_with (go_at_call 78; (with_reducible refine (one_any st m HML.out A _ c _ _ hrd hk).mono ?_); rintro e3 w3 ⟨A3, c3, rfl, hr3, hb3⟩)
      go_roundw
      case rel =>
        have e1 : wrap64 ((q : Int) + 64) = ((q + 64 : Nat) : Int) := by rw [l7]; omega
        refine ⟨n + 1, q + 64, A3, c3, hlt, by have := HQ.out; omega, rfl, congrArg (Value.int .i64) e1, ?_, hbn.trans (hb3.mono hbn.size)⟩
        rw [HNXT.out]; exact hr3
      case measure =>
        have h2 := HQ.out
        rw [intOf_i64, intOf_i64, l7, l6, Int.toNat_natCast]
        exact meas64 N n q hlt h2
    · obtain rfl : n = N := by omega
      have l1 : ¬ (q : Int) < P.length := by have := HN.out; omega
      have hI3 := hI2.below hbn
      have hB3 := hB2.trans (hbn.mono hB2.size)
      have hst : feedN h0 P n = sumS l := by
        unfold sumS feed
        rw [← HP.out, show P.length / 64 = n by have := HN.out; omega]
      rw [hst] at hrd
      clear hst hI2 hB2 hbn hq
      obtain ⟨st, hst⟩ : ∃ st, st = sumS l := ⟨_, rfl⟩
      rw [← hst] at hrd
      obtain ⟨sb, hsb⟩ : ∃ sb, sb = wordsB st.list := ⟨_, rfl⟩
      have hsbl : sb.length = 32 := by rw [hsb, wordsB_length, list_length]
      have hsum : sb = sumB l := by rw [hsb, hst]; rfl
      have HSUM := hid hsum
      clear hst hsum
      have HSB := hid hsb
      clear hsb
      go_wp2_with (fail)
      generalize hZ : (Obj.cells _ 24) = Z
      obtain ⟨z4, rfl, hz4⟩ : ∃ z4 : Array Value, Z = Obj.cells z4 24 ∧ z4.size = 32 := ⟨_, hZ.symm, rfl⟩
      clear hZ
      have hO1 := Blk.new wr 24 z4
      have hI4 := hI3.alloc (.cells z4 24)
      have hB4 := hB3.alloc hB3.size (.cells z4 24)
      have hrd4 : Rd (wr.alloc (.cells z4 24)) A (st.list.map u32v) := hrd.below (w := wr) ((Below.refl _ _).alloc (Nat.le_refl _) _)
      refine (rbytes_any A 8 c st.list (list_length st) (by decide) _ hrd4).mono ?_
      rintro e4 w4 ⟨rfl, hb4⟩
      rw [← HSB.out]
      have hlt5 : w.heap.size < wr.heap.size := hI3.lt
      have hI5 := hI4.below hb4
      have hO5 := hO1.below hb4
      have hB5 := hB4.trans (hb4.mono hB4.size)
      have hkl : w.heap.size ≤ w4.heap.size := hB5.size
      have hz5 : z4.size = 32 := hz4
      generalize wr.heap.size = k at *
      clear hI3 hB3 hb4 hrd hR2 HPL HN hO1 hI4 hB4 hrd4
      have HSL := hid hsbl
      clear hsbl
      go_wp2
      go_loopw [9] (fun v wr => ∃ (j : Nat) (cs : Array Value), j ≤ 32 ∧ v = .int .i64 (j : Int) ∧ Blk wr k 24 cs ∧ cs.size = 32 ∧ (∀ i, i < j → cs[i]? = (idVals sb)[i]?) ∧ w4.grownBy wr (some k)) (fun v _ => 32 - (intOf v).toNat)
      case atStart => exact ⟨0, z4, by omega, rfl, hO5, hz5, fun _ h => by omega, gb_refl _ _⟩
      case round =>
        obtain ⟨j, cs, hj, rfl, hO6, hz6, hin, hg6⟩ := hrel
        clear hO5 hz5 hz4
        by_cases hjl : j < 32
        · obtain ⟨x, hx⟩ : ∃ x, sb[j]? = some x := ⟨_, List.getElem?_eq_getElem (by rw [HSL.out]; exact hjl)⟩
          have y1 : (0 : Int) ≤ (j : Int) := by omega
          have y2 : (j : Int) < 32 := by omega
          have y3 : (j : Int) < sb.length := by rw [HSL.out]; omega
          obtain ⟨old, hold⟩ : ∃ old, cs[j]? = some old := ⟨_, Array.getElem?_eq_getElem (by rw [hz6]; exact hjl)⟩
          have cell := hO6.cell_ hold
          have fz := hO6.frozen j
          go_wp2
          go_roundw
          case rel =>
            refine ⟨j + 1, _, hjl, by go_num, hO6.set j _, by simpa using hz6, ?_, gb_set hg6 _ _⟩
            intro i hi
            rw [Array.getElem?_setIfInBounds]
            by_cases e : j = i
            · subst e
              rw [if_pos rfl, if_pos (by rw [hz6]; exact hjl), txt_get rfl hx (by rw [txt_size, HSL.out]; exact hjl)]
              unfold idVals
              rw [List.getElem?_toArray, List.getElem?_map, hx]; rfl
            · rw [if_neg e]; exact hin i (by omega)
          case measure => simp [intOf]; omega
        · obtain rfl : j = 32 := by omega
          have hcs : cs = idVals sb := by
            apply Array.ext_getElem?
            intro i
            by_cases hi : i < 32
            · exact hin i hi
            · rw [Array.getElem?_eq_none (by rw [hz6]; omega), Array.getElem?_eq_none (by rw [idVals_size, HSL.out]; omega)]
          subst hcs
          rw [show ((32 : Nat) : Int) = 32 from rfl]
          have hI6 : Blk wr w.heap.size 24 zc := blk_gb hI5 hg6 (by omega)
          have hB6 : Below w.heap.size w wr := hB5.grown hg6 hkl (by intro i e; cases e; omega)
          clear hI5 hB5 hg6 hin hz6
          go_wp2_with (first
            | (with_reducible refine wpList_load_blk rfl 24 _ rfl k (idVals sb) 24 hO6 rfl _ Tryz.underlying24 rfl ?c1 ?_)
            | (with_reducible refine wpList_store_blk rfl 24 _ _ rfl w.heap.size zc (idVals sb) 24 hI6 rfl rfl ?c2 ?c3 (idVals_one _) ?_))
          case c1 => rw [idVals_size, HSL.out]; exact sizeId
          case c2 => rw [idVals_size, HSL.out]; exact sizeId
          case c3 => rw [idVals_size, HSL.out]; exact HZC.out
          intro w7 hb7 hg7
          go_wp2
          refine bodyPost_ret (results_cell_row rfl _ _ _ _ _ _ _ rfl hb7 Tryz.underlying24 rfl (by rw [idVals_size, HSL.out]; exact sizeId)) rfl ⟨?_, ?_⟩
          · rw [HSUM.out]
          · exact hB6.grown hg7 hB6.size (by intro i e; cases e; exact Nat.le_refl _)
end Go.Proofs.YticpdepbgcagaaaGreat

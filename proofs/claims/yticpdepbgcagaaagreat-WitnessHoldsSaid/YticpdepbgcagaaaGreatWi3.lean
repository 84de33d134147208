
/- witness: joined, text, number. -/
import Derived.Test.YticpdepbgcagaaaGreatWi2
import Derived.Test.YticpdepbgcagaaaGreatKtW
import Derived.RangeFuncBox
set_option linter.unusedSimpArgs false
set_option linter.unusedVariables false
namespace Go.Proofs.YticpdepbgcagaaaGreat
open Go.RowKit Go.Qc Go.Shelf
attribute [local go_sem] txt_size txt_append ib_fold
theorem wi_blk {w w' : World} {g k : Nat} {t : TypeId} {cs : Array Value} (h : Blk w g t cs) (hg : w.grownBy w' (some k)) (hne : g ≠ k) : Blk w' g t cs := (hg.block g h.lt (by simpa using hne)).trans h

set_option maxRecDepth 100000 in
set_option maxHeartbeats 1000000 in
theorem bldw_gen (b : Nat) (l r : List UInt8) (ad : Addr) (n c : Nat) (hn : r.length = n) (w0 w : World) (cC : Calls Tryz.prog 110 #[.pointer (some ⟨b, 0, none⟩)] w0 fun e w' => e = .returned (.tuple #[]) ∧ w' = w) (h : Lib.BuilderAt 133 5 b b (.pointer (some ⟨b, 0, none⟩)) (l.map u8v) w) (hl : l.length + r.length ≤ 1000000000000)
    (hr : ∀ j u, (r.map u8v)[j]? = some u → w.cell? (ad.add j) = some u) :
    Calls Tryz.prog 94 #[.pointer (some ⟨b, 0, none⟩), .slice (some ad) n c] w0 fun e w' => e = .returned (.tuple #[.int .i64 n, .nilIface]) ∧ (Lib.BuilderAt 133 5 b b (.pointer (some ⟨b, 0, none⟩)) ((l ++ r).map u8v) w' ∧ Below b w w') := by
  obtain ⟨i0, hi, hz0, hz1, hz2⟩ := info_parts infoByte
  have hc0 := h.cell0
  have hlt := h.lt
  obtain ⟨hB, v, hbk, hown, hne⟩ := h
  have c1 : w.cell? ⟨b, 1, none⟩ = some v := by rw [Lib.cell_of_heap hbk]; rfl
  rw [List.length_map] at hown
  go_enter Tryz.func94, Tryz.ntmps94
  go_wp2_with (first
    | (go_at_call 110; (with_reducible refine cC.mono ?_); rintro e1 w1 ⟨rfl, rfl⟩)
    | (at_builtin; refine wpList_append_own _ rfl _ _ 97 rfl b 5 i0 (.int .u8 0) 1 1 Tryz.underlying97 hi hz0 hz1 hz2 rfl (by decide) _ _ _ rfl hown ad n c (r.map u8v) rfl ?c2 hr (u8v_one r) ?c3 ?c4 (Nat.le_of_lt hlt) ?_))
  case c2 => rw [List.length_map]; omega
  case c3 => unfold maxLen; omega
  case c4 => omega
  intro v' w2 hown' hgrow _
  have hb2 : w2.heap[b]? = some (.cells #[.pointer (some ⟨b, 0, none⟩), v] 133 (0, 0)) := by
    rw [hgrow.block b hlt (fun e => hne e.symm)]
    exact hbk
  have d0 : w2.cell? ⟨b, 0, none⟩ = some (.pointer (some ⟨b, 0, none⟩)) := by rw [Lib.cell_of_heap hb2]; rfl
  have d1 : w2.cell? ⟨b, 1, none⟩ = some v := by rw [Lib.cell_of_heap hb2]; rfl
  have f1 : w2.frozen? ⟨b, 1, none⟩ = false := Lib.frozen_of_heap hb2 1
  obtain ⟨ao, n', cap, rfl⟩ : ∃ ao n' cap, v' = .slice ao n' cap := by
    rcases hown'.2 with ⟨hv, _⟩ | ⟨g, cap, cur, hv, _⟩
    · exact ⟨_, _, _, hv⟩
    · exact ⟨_, _, _, hv⟩
  have hBw : Below b w1 w2 := (Below.refl b w1).grown hgrow (Nat.le_of_lt hlt) (fun k hk => (hown.lt k hk).1)
  have hput := Lib.BuilderAt.put (T := 133) (e := 5) hB hb2 (bs' := (l ++ r).map u8v) (by rw [List.map_append, List.length_append, List.length_map, List.length_map, hn]; exact hown') (by decide)
  go_wp2
  go_ret2
  exact ⟨rfl, hput, hBw.setCell (p := ⟨b, 1, none⟩) hB _⟩
theorem bldw_lt {b : Nat} {bs : List Value} {w : World} (h : Lib.IsBuilder 133 5 b b bs w) : b < w.heap.size := h.elim (·.lt) (·.lt)
theorem bldw_below {b : Nat} {bs : List Value} {w w' : World} (h : Lib.IsBuilder 133 5 b b bs w) (hb : Below w.heap.size w w') : Lib.IsBuilder 133 5 b b bs w' := h.imp (bld_below · hb) (bld_below · hb)
theorem bldw_write (b : Nat) (l r : List UInt8) (g n c : Nat) (hn : r.length = n) (w : World) (h : Lib.IsBuilder 133 5 b b (l.map u8v) w) (hl : l.length + r.length ≤ 1000000000000) (hne : g ≠ b) (hr : Blk w g 24 (idVals r)) :
    Calls Tryz.prog 94 #[.pointer (some ⟨b, 0, none⟩), .slice (some ⟨g, 0, none⟩) n c] w fun e w' => e = .returned (.tuple #[.int .i64 n, .nilIface]) ∧ (Lib.IsBuilder 133 5 b b ((l ++ r).map u8v) w' ∧ Below b w w') := by
  rcases h with h | h
  · have hg := grownBy_setCell' w b (.pointer (some ⟨b, 0, none⟩))
    have hbw : Below b w (w.setCell ⟨b, 0, none⟩ (.pointer (some ⟨b, 0, none⟩))) := (Below.refl b w).setCell (p := ⟨b, 0, none⟩) h.1 _
    refine (bldw_gen b l r ⟨g, 0, none⟩ n c hn w _ (Any.Builder_copyCheck_fresh lays240 bX240 b w h.cell0 h.shape h.frozen0) (h.used _) hl (range_add (range_blk (wi_blk hr hg hne)))).mono ?_
    rintro e w' ⟨rfl, h1, h2⟩
    exact ⟨rfl, .inr h1, hbw.trans h2⟩
  · refine (bldw_gen b l r ⟨g, 0, none⟩ n c hn w w (bld_same b w h.cell0 |>.mono (fun e w' h => ⟨h.1, h.2.symm⟩)) h hl (range_add (range_blk hr))).mono ?_
    rintro e w' ⟨rfl, h1, h2⟩
    exact ⟨rfl, .inr h1, h2⟩
theorem bldw_new (w : World) : Lib.IsBuilder 133 5 w.heap.size w.heap.size ([].map u8v) (w.alloc (.cells #[.pointer none, .slice none 0 0] 133)) :=
  .inl ⟨Nat.le_refl _, .slice none 0 0, heap_alloc_new w _, ⟨rfl, .inl ⟨rfl, rfl⟩⟩, by simp [Value.ownBlock]⟩

set_option maxRecDepth 100000 in
set_option maxHeartbeats 4000000 in
theorem wjoined_any (A : Option Addr) (n c : Nat) (l : List (List UInt8)) (w : World) (hA : RowR w A n l) (hN : n ≤ 1000) :
    Calls Tryz.prog 65 #[.slice A n c] w fun e w' => e = .returned (.string (txt l.flatten)) ∧ Below w.heap.size w w' := by
  obtain ⟨hn, bn, hr⟩ := hA
  have hu := Tryz.underlying24
  have hfl : l.flatten.length = 32 * n := by rw [flatten_len l hr.1, hn]
  obtain ⟨i0, hi, hz0, hz1, hz2⟩ := info_parts infoByte
  have hs := fun W g => run_slice_whole (P := Tryz.prog) W 24 5 g 0 32 i0 Tryz.underlying24 hi hz1 (by decide)
  have hb0 := bldw_new w
  have hB0 := (Below.refl w.heap.size w).alloc (Nat.le_refl _) (.cells #[.pointer none, .slice none 0 0] 133)
  have HFL := hid hfl
  have HNN := hid hN
  clear hfl
  go_enter Tryz.func65, Tryz.ntmps65
  go_wp2_with (fail)
  generalize w.alloc (.cells #[.pointer none, .slice none 0 0] 133) = w1 at *
  go_loopw [8] (fun i wr => ∃ k : Nat, k ≤ n ∧ i = .int .i64 k ∧ Lib.IsBuilder 133 5 w.heap.size w.heap.size ((l.take k).flatten.map u8v) wr ∧ Below w.heap.size w wr) (fun i _ => n - (intOf i).toNat)
  case atStart => exact ⟨0, Nat.zero_le _, rfl, hb0, hB0⟩
  case round =>
    clear hb0 hB0
    obtain ⟨k, hk, rfl, hbl, hB⟩ := hrel
    have hgs := bldw_lt hbl
    by_cases hlt : k < n
    · obtain ⟨x, hx⟩ : ∃ x, l[k]? = some x := ⟨_, List.getElem?_eq_getElem (by omega)⟩
      obtain ⟨g, q, hg, lx, hix⟩ := hr.pick c hn hx
      have b1 : (k : Int) < n := by omega
      have r1 := hg.below hB
      have hzx : (Tryz.prog.info? 24).map (·.size) = some (x.map u8v).length := by rw [List.length_map, lx]; exact sizeId
      have hle : (l.take k).flatten.length + x.length ≤ 1000000000000 := by
        rw [flatten_len _ (fun a ha => hr.1 a (List.mem_of_mem_take ha)), List.length_take, lx]
        omega
      have HLE := hid hle
      have HLX := hid lx
      have HS := hid (flatten_snoc hx)
      have hB9 := Blk.new wr 24 ((List.map u8v x).toArray)
      have hba := (Below.refl wr.heap.size wr).alloc (Nat.le_refl _) (.cells (List.map u8v x).toArray 24)
      have hbl3 := bldw_below hbl hba
      have HNE := hid (show wr.heap.size ≠ w.heap.size by omega)
      have cW := bldw_write w.heap.size _ x wr.heap.size 32 32 HLX.out _ hbl3 HLE.out HNE.out hB9
      have HBL := hid hbl
      have HLT := hid (show k + 1 ≤ n from hlt)
      have hszx : (List.map u8v x).toArray.size = 32 := (idVals_size x).trans HLX.out
      have hinf : (Tryz.prog.info? 24).map (·.size) = some (List.map u8v x).toArray.size := by rw [hszx]; exact sizeId
      have h1x : ((List.map u8v x).toArray).all (·.oneCell') = true := idVals_one x
      clear hx hle lx hlt hbl hbl3 hB9
      go_wp2_with (first
        | (with_reducible refine wpList_load_if (by with_unfolding_all rfl) 24 _ rfl _ _ rfl (x.map u8v) _ r1 hu (by with_unfolding_all rfl) hzx ?_)
        | (with_reducible refine wpList_store_new rfl 24 _ _ rfl ((List.map u8v x).toArray) rfl rfl hinf (Eq.trans (b := 32) (by with_unfolding_all rfl) hszx.symm) h1x ?_)
        | (go_at_call 94; (with_reducible refine cW.mono ?_); rintro e4 w4 ⟨rfl, hbl4, hB4⟩))
      go_roundw
      case rel => exact ⟨k + 1, HLT.out, by go_num, by rw [HS.out]; exact hbl4, (hB.trans (hba.mono hB.size)).trans hB4⟩
      case measure => exact meas_wi HLT.out
    · obtain rfl : k = n := by omega
      rw [List.take_of_length_le (by omega)] at hbl
      have b1 : ¬ (k : Int) < k := by omega
      obtain ⟨F, hF⟩ : ∃ F, l.flatten = F := ⟨_, rfl⟩
      rw [hF] at hbl
      have HF := hid hF
      have cT : Calls Tryz.prog 96 #[.pointer (some ⟨w.heap.size, 0, none⟩)] wr fun e w' => e = .returned (.string (txt F)) ∧ Below w.heap.size wr w' := Any.Builder_String_any lays169 bX169 w.heap.size w.heap.size F wr hbl (Nat.le_of_lt hgs)
      clear hbl hr hF
      go_wp2_with (go_at_call 96; (with_reducible refine cT.mono ?_); rintro e5 w5 ⟨rfl, hb5⟩)
      go_ret
      exact ⟨by rw [HF.out]; rfl, hB.trans hb5⟩

set_option maxRecDepth 100000 in
set_option maxHeartbeats 20000000 in
theorem wtext_any (nm : List UInt8) (hnm : nm.length ≤ 255) (A : Option Addr) (n c : Nat) (ps : List (List UInt8)) (hn : ps.length = n) (hm : (textB nm ps).length ≤ 1000000000000) (w : World) (hr : Rd w A (ps.map strV)) :
    Calls Tryz.prog 64 #[.string (txt nm), .slice A n c] w fun e w' => e = .returned (.string (txt (textB nm ps))) ∧ Below w.heap.size w w' := by
  have cT := text_any nm hnm A n c ps hn hm w hr
  generalize textB nm ps = F at *
  clear hr hn
  go_enter Tryz.func64, Tryz.ntmps64
  go_wp2_with (go_at_call 90; (with_reducible refine cT.mono ?_); rintro e5 w5 ⟨rfl, hb5⟩)
  go_ret
  exact ⟨rfl, hb5⟩

set_option maxRecDepth 100000 in
set_option maxHeartbeats 20000000 in
theorem wnumber_any (m n : Nat) (hm : m ≤ 9223372036854775807) (hn : n ≤ 8) (hf : m < 256 ^ n) (w : World) :
    Calls Tryz.prog 66 #[.int .i64 m, .int .i64 n] w fun e w' => e = .returned (.string (txt (nB m n))) ∧ Below w.heap.size w w' := by
  have hN : ∀ W : World, Calls Tryz.prog 59 #[.int .u64 m, .int .i64 n] W fun e w' => e = .returned (.tuple #[.string (txt (nB m n)), .bool true]) ∧ Below W.heap.size W w' := fun W => by
    rw [lv_nat m hm]
    exact number_any _ n hn (nB_fits m n hm hf) W
  clear hn hf
  go_enter Tryz.func66, Tryz.ntmps66
  go_wp2_with (go_at_call 59; (with_reducible refine (hN _).mono ?_); rintro e1 w1 ⟨rfl, hB1⟩)
  go_ret
  exact ⟨rfl, hB1⟩

end Go.Proofs.YticpdepbgcagaaaGreat

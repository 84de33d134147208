
/- tag: two ids, rows of ids; the bytes of ids. -/
import Derived.Test.YticpdepbgcagaaaGreatTag2
import Derived.Test.YticpdepbgcagaaaGreatKit4
import Derived.Test.YticpdepbgcagaaaGreatIdK
namespace Go.Proofs.YticpdepbgcagaaaGreat
open Go.RowKit Go.Qc
attribute [local go_sem] txt_size txt_append ib_fold

set_option maxRecDepth 100000 in
set_option maxHeartbeats 1000000 in
theorem rid_any (a : List UInt8) (ha : a.length = 32) (w : World) :
    Calls Tryz.prog 49 #[.agg (idVals a)] w fun e w' => e = .returned (.string (txt a)) ∧ Below w.heap.size w w' := by
  obtain ⟨i0, hi, hz0, hz1, hz2⟩ := info_parts infoByte
  go_enter Tryz.func49, Tryz.ntmps49
  go_wp2
  have hI := Blk.new w 24 (idVals a)
  have hB0 : Below w.heap.size w (w.alloc (.cells (idVals a) 24)) := (Below.refl _ _).alloc (Nat.le_refl _) _
  have hk1 : (w.alloc (.cells (idVals a) 24)).heap.size = w.heap.size + 1 := by simp
  generalize w.alloc (.cells (idVals a) 24) = w1 at *
  have HA := hid ha
  clear ha
  go_loopw [3, 4] (fun v i wr => ∃ k : Nat, k ≤ 32 ∧ i = .int .i64 k ∧ wr.ownsRow (w.heap.size + 1) 5 1 v k ((a.map u8v).take k) ∧ Below w1.heap.size w1 wr) (fun _ i _ => 32 - (intOf i).toNat)
  case atStart => exact ⟨0, by omega, rfl, ⟨rfl, .inr ⟨_, 0, #[], rfl, Nat.le_refl _, by have := heap_alloc_new w1 (.cells #[] 5); rw [hk1] at this; exact this, Nat.le_refl _, by decide, rfl, rfl⟩⟩, (Below.refl _ _).alloc (Nat.le_refl _) _⟩
  case round =>
    obtain ⟨k, hk, rfl, hown, hb⟩ := hrel
    have hsz := hb.size
    rw [hk1] at hsz
    by_cases hlt : k < 32
    · obtain ⟨x, hx⟩ : ∃ x, a[k]? = some x := ⟨_, List.getElem?_eq_getElem (by rw [HA.out]; exact hlt)⟩
      have hI2 := hI.below hb
      have hcell := hI2.cell_ (i := k) (u := .int .u8 (ib x)) (by unfold idVals; rw [List.getElem?_toArray, List.getElem?_map, hx]; rfl)
      have HT := hid (take_snoc (show (a.map u8v)[k]? = some (u8v x) by rw [List.getElem?_map, hx]; rfl))
      clear hx
      have b0 : (0 : Int) ≤ k := by omega
      have b1 : (k : Int) < 32 := by omega
      go_wp2_with (at_builtin; refine wpList_append_new rfl _ _ 97 rfl (w.heap.size + 1) 5 i0 (.int .u8 0) 1 Tryz.underlying97 hi hz0 hz1 hz2 rfl _ _ _ rfl hown 1 _ rfl rfl ?c2 ?c3 ?c4 hsz ?_)
      case c2 => simp [Value.oneCell']
      case c3 => unfold maxLen; omega
      case c4 => omega
      intro v' w' hown' hb'
      go_wp2
      go_roundw
      case rel => exact ⟨k + 1, by omega, by go_num, by rw [HT.out]; exact hown', hb.trans (by rw [hk1]; exact hb')⟩
      case measure => simp [intOf]; omega
    · obtain rfl : k = 32 := by omega
      rw [List.take_of_length_le (by rw [List.length_map, HA.out]; exact Nat.le_refl _)] at hown
      obtain ⟨hl2, A2, c2, rfl, hrd2⟩ := Rd.own hown
      have hconv := run_txt (P := Tryz.prog) wr 97 9 5 A2 32 c2 _ Tryz.underlying97 Tryz.underlying5 Tryz.underlying9 (by simpa using hl2.symm) hrd2
      go_wp2
      go_ret
      exact ⟨rfl, hB0.trans (hb.mono hB0.size)⟩

theorem clipped_any (nm : List UInt8) (hm : nm.length ≤ 1000000000000) (w : World) :
    Calls Tryz.prog 95 #[.string (txt nm)] w fun e w' => e = .returned (.string (txt (nm.take 255))) ∧ w = w' := by
  go_enter Tryz.func95, Tryz.ntmps95
  go_wp2
  go_ret
  refine ⟨?_, rfl⟩
  show Ending.returned (Value.string ((txt nm).extract 0 (min (nm.length : Int) 255).toNat)) = _
  rw [txt_extract, List.drop_zero, Nat.sub_zero]
  congr 3
  rw [List.take_eq_take_iff]
  omega

/-! ### strings.Builder.Write of bytes that lie anywhere -/
theorem bld_same (b : Nat) (w : World) (hc : w.cell? ⟨b, 0, none⟩ = some (.pointer (some ⟨b, 0, none⟩))) :
    Calls Tryz.prog 110 #[.pointer (some ⟨b, 0, none⟩)] w fun e w' => e = .returned (.tuple #[]) ∧ w = w' := by
  obtain ⟨j, hj, _⟩ := Option.map_eq_some_iff.1 (show (Tryz.prog.info? 133).map (·.size) = some 2 by kernel_rfl)
  have hne := Lib.run_neq_ptr_same (P := Tryz.prog) w (tp := 131) (te := 133) (⟨b, 0, none⟩ : Addr) Tryz.underlying131 hj
  go_enter Tryz.func110, Tryz.ntmps110
  go_wp2
  go_end0
  exact ⟨rfl, rfl⟩
set_option maxRecDepth 100000 in
set_option maxHeartbeats 1000000 in
theorem bld_write (b : Nat) (l r : List UInt8) (ad : Addr) (n c : Nat) (hn : r.length = n) (w : World) (h : Lib.BuilderAt 133 5 b b (.pointer (some ⟨b, 0, none⟩)) (l.map u8v) w) (hl : l.length + r.length ≤ 1000000000000)
    (hr : ∀ j u, (r.map u8v)[j]? = some u → w.cell? (ad.add j) = some u) :
    Calls Tryz.prog 94 #[.pointer (some ⟨b, 0, none⟩), .slice (some ad) n c] w fun e w' => e = .returned (.tuple #[.int .i64 n, .nilIface]) ∧ (Lib.BuilderAt 133 5 b b (.pointer (some ⟨b, 0, none⟩)) ((l ++ r).map u8v) w' ∧ Below b w w') := by
  obtain ⟨i0, hi, hz0, hz1, hz2⟩ := info_parts infoByte
  have hc0 := h.cell0
  have hlt := h.lt
  obtain ⟨hB, v, hbk, hown, hne⟩ := h
  have c1 : w.cell? ⟨b, 1, none⟩ = some v := by rw [Lib.cell_of_heap hbk]; rfl
  rw [List.length_map] at hown
  go_enter Tryz.func94, Tryz.ntmps94
  go_wp2_with (first
    | (go_at_call 110; (with_reducible refine (bld_same b _ hc0).mono ?_); rintro e1 w1 ⟨rfl, rfl⟩)
    | (at_builtin; refine wpList_append_own _ rfl _ _ 97 rfl b 5 i0 (.int .u8 0) 1 1 Tryz.underlying97 hi hz0 hz1 hz2 rfl (by decide) _ _ _ rfl hown ad n c (r.map u8v) rfl ?c2 hr (u8v_one r) ?c3 ?c4 (Nat.le_of_lt hlt) ?_))
  case c2 => rw [List.length_map]; omega
  case c3 => unfold maxLen; omega
  case c4 => omega
  intro v' w2 hown' hgrow _
  have hb2 : w2.heap[b]? = some (.cells #[.pointer (some ⟨b, 0, none⟩), v] 133 (0, 0)) := by
    rw [hgrow.block b hlt (fun e => hne e.symm)]
    exact hbk
  have d0 : w2.cell? ⟨b, 0, none⟩ = some (.pointer (some ⟨b, 0, none⟩)) := by rw [Lib.cell_of_heap hb2]; rfl
  have d1 : w2.cell? ⟨b, 1, none⟩ = some v := by rw [Lib.cell_of_heap hb2]; rfl
  have f1 : w2.frozen? ⟨b, 1, none⟩ = false := Lib.frozen_of_heap hb2 1
  obtain ⟨ao, n', cap, rfl⟩ : ∃ ao n' cap, v' = .slice ao n' cap := by
    rcases hown'.2 with ⟨hv, _⟩ | ⟨g, cap, cur, hv, _⟩
    · exact ⟨_, _, _, hv⟩
    · exact ⟨_, _, _, hv⟩
  have hBw : Below b w w2 := (Below.refl b w).grown hgrow (Nat.le_of_lt hlt) (fun k hk => (hown.lt k hk).1)
  have hput := Lib.BuilderAt.put (T := 133) (e := 5) hB hb2 (bs' := (l ++ r).map u8v) (by rw [List.map_append, List.length_append, List.length_map, List.length_map, hn]; exact hown') (by decide)
  go_wp2
  go_ret2
  exact ⟨rfl, hput, hBw.setCell (p := ⟨b, 1, none⟩) hB _⟩

theorem rd_id {w : World} {g : Nat} {t : TypeId} {a : List UInt8} (h : Blk w g t (idVals a)) : Rd w (some ⟨g, 0, none⟩) (a.map u8v) :=
  Rd.blk h fun j u hu => by unfold idVals; rw [List.getElem?_toArray]; exact hu
theorem take_min (nm : List UInt8) : (nm.take 255).length ≤ 255 := by rw [List.length_take]; omega
theorem textB_ids (nm : List UInt8) (hnm : nm.length ≤ 255) (ps : List (List UInt8)) (h : (ps.map List.length).sum + 8 * ps.length ≤ 100000) : (textB nm ps).length ≤ 1000000000000 := by
  have hb : ∀ (qs : List (List UInt8)), (qs.flatMap partB).length = (qs.map List.length).sum + 8 * qs.length := by
    intro qs
    induction qs with
    | nil => rfl
    | cons q qs ih => rw [List.flatMap_cons, List.length_append, partB_length, ih, List.map_cons, List.sum_cons, List.length_cons]; omega
  simp only [textB, List.length_append, List.length_cons, List.length_nil, hb]
  omega
end Go.Proofs.YticpdepbgcagaaaGreat


/- tag: two ids, rows of ids; the bytes of ids. -/
import Derived.Test.YtfckbonblfcmnaaTag2
import Derived.Test.YtfckbonblfcmnaaKit4
import Derived.Test.YtfckbonblfcmnaaIdK
namespace Go.Proofs.Ytfckbonblfcmnaa
open Go.RowKit Go.Qc
attribute [local go_sem] txt_size txt_append ib_fold

set_option maxRecDepth 100000 in
set_option maxHeartbeats 1000000 in
theorem rid_any (a : List UInt8) (ha : a.length = 32) (w : World) :
    Calls Try.prog 22 #[.agg (idVals a)] w fun e w' => e = .returned (.string (txt a)) ∧ Below w.heap.size w w' := by
  obtain ⟨i0, hi, hz0, hz1, hz2⟩ := info_parts infoByte
  go_enter Try.func22, Try.ntmps22
  go_wp2
  have hI := Blk.new w 23 (idVals a)
  have hB0 : Below w.heap.size w (w.alloc (.cells (idVals a) 23)) := (Below.refl _ _).alloc (Nat.le_refl _) _
  have hk1 : (w.alloc (.cells (idVals a) 23)).heap.size = w.heap.size + 1 := by simp
  generalize w.alloc (.cells (idVals a) 23) = w1 at *
  have HA := hid ha
  clear ha
  go_loopw [3, 4] (fun v i wr => ∃ k : Nat, k ≤ 32 ∧ i = .int .i64 k ∧ wr.ownsRow (w.heap.size + 1) 5 1 v k ((a.map u8v).take k) ∧ Below w1.heap.size w1 wr) (fun _ i _ => 32 - (intOf i).toNat)
  case atStart => exact ⟨0, by omega, rfl, ⟨rfl, .inr ⟨_, 0, #[], rfl, Nat.le_refl _, by have := heap_alloc_new w1 (.cells #[] 5); rw [hk1] at this; exact this, Nat.le_refl _, by decide, rfl, rfl⟩⟩, (Below.refl _ _).alloc (Nat.le_refl _) _⟩
  case round =>
    obtain ⟨k, hk, rfl, hown, hb⟩ := hrel
    have hsz := hb.size
    rw [hk1] at hsz
    by_cases hlt : k < 32
    · obtain ⟨x, hx⟩ : ∃ x, a[k]? = some x := ⟨_, List.getElem?_eq_getElem (by rw [HA.out]; exact hlt)⟩
      have hI2 := hI.below hb
      have hcell := hI2.cell_ (i := k) (u := .int .u8 (ib x)) (by unfold idVals; rw [List.getElem?_toArray, List.getElem?_map, hx]; rfl)
      have HT := hid (take_snoc (show (a.map u8v)[k]? = some (u8v x) by rw [List.getElem?_map, hx]; rfl))
      clear hx
      have b0 : (0 : Int) ≤ k := by omega
      have b1 : (k : Int) < 32 := by omega
      go_wp2_with (at_builtin; refine wpList_append_new rfl _ _ 51 rfl (w.heap.size + 1) 5 i0 (.int .u8 0) 1 Try.underlying51 hi hz0 hz1 hz2 rfl _ _ _ rfl hown 1 _ rfl rfl ?c2 ?c3 ?c4 hsz ?_)
      case c2 => simp [Value.oneCell']
      case c3 => unfold maxLen; omega
      case c4 => omega
      intro v' w' hown' hb'
      go_wp2
      go_roundw
      case rel => exact ⟨k + 1, by omega, by go_num, by rw [HT.out]; exact hown', hb.trans (by rw [hk1]; exact hb')⟩
      case measure => simp [intOf]; omega
    · obtain rfl : k = 32 := by omega
      rw [List.take_of_length_le (by rw [List.length_map, HA.out]; exact Nat.le_refl _)] at hown
      obtain ⟨hl2, A2, c2, rfl, hrd2⟩ := Rd.own hown
      have hconv := run_txt (P := Try.prog) wr 51 9 5 A2 32 c2 _ Try.underlying51 Try.underlying5 Try.underlying9 (by simpa using hl2.symm) hrd2
      go_wp2
      go_ret
      exact ⟨rfl, hB0.trans (hb.mono hB0.size)⟩

/-! ### strings.Builder.Write of bytes that lie anywhere -/
theorem textB_ids (nm : List UInt8) (hnm : nm.length ≤ 255) (ps : List (List UInt8)) (h : (ps.map List.length).sum + 8 * ps.length ≤ 100000) : (textB nm ps).length ≤ 1000000000000 := by
  have hb : ∀ (qs : List (List UInt8)), (qs.flatMap partB).length = (qs.map List.length).sum + 8 * qs.length := by
    intro qs
    induction qs with
    | nil => rfl
    | cons q qs ih => rw [List.flatMap_cons, List.length_append, partB_length, ih, List.map_cons, List.sum_cons, List.length_cons]; omega
  simp only [textB, List.length_append, List.length_cons, List.length_nil, hb]
  omega
end Go.Proofs.Ytfckbonblfcmnaa

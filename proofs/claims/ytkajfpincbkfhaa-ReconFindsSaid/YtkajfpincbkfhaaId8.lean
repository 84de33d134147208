
/- Rows of ids: what the document says of them. -/
import Derived.Test.YtkajfpincbkfhaaId7
namespace Go.Proofs.Ytkajfpincbkfhaa
open Go.RowKit Go.Qc
attribute [local go_sem] txt_size

/-- A row of ids that is only read. -/
def RowR (w : World) (A : Option Addr) (n : Nat) (l : List (List UInt8)) : Prop := l.length = n ∧ n ≤ 1000000 ∧ IdRd w A l
theorem RowAt.r {w : World} {A : Option Addr} {n c : Nat} {l : List (List UInt8)} (h : RowAt w A n c l) : RowR w A n l := ⟨h.1, h.2.2.2.1, h.2.2.2.2⟩
theorem RowR.below {w w' : World} {A : Option Addr} {n : Nat} {l : List (List UInt8)} (h : RowR w A n l) (hb : Below w.heap.size w w') : RowR w' A n l := ⟨h.1, h.2.1, h.2.2.below hb⟩
theorem IdRd.pick {w : World} {A : Option Addr} {l : List (List UInt8)} {n : Nat} (c : Nat) (h : IdRd w A l) (hn : l.length = n) {k : Nat} {a : List UInt8} (hk : l[k]? = some a) :
    ∃ g q, w.rangeAt g q (a.map u8v) ∧ a.length = 32 ∧ ∀ W : World, (Instr.indexAt 22 (.slice A n c) (.int .i64 (k : Int))).run Try.prog W = .ok (.pointer (some ⟨g, q, none⟩)) W := by
  obtain ⟨g, o, rfl, hr⟩ := h.at_ hk
  refine ⟨g, o + k * 32, hr, h.len hk, fun W => ?_⟩
  obtain ⟨i0, hi, h32, _⟩ := infoId_parts
  have hlt : k < n := by rw [← hn]; exact (List.getElem?_eq_some_iff.1 hk).1
  have h1 : (0 : Int) ≤ (k : Int) ∧ (k : Int) < (n : Int) := by omega
  simp [Instr.indexAt, run_underlying Try.underlying22, asIntOf, h1, sizeOf, typeInfo, hi, h32, Addr.add_lit, Int.toNat_natCast]
  intro h2; omega
theorem not_take_succ {a x : List UInt8} {l : List (List UInt8)} {k : Nat} (h : a ∉ l.take k) (hx : l[k]? = some x) (hne : decide (x = a) = false) : a ∉ l.take (k + 1) := by
  rw [List.take_add_one, hx]
  simp only [Option.toList_some, List.mem_append, List.mem_singleton, not_or]
  exact ⟨h, fun e => of_decide_eq_false hne e.symm⟩
theorem mem_of_hit {a x : List UInt8} {l : List (List UInt8)} {k : Nat} (hx : l[k]? = some x) (he : decide (x = a) = true) : decide (a ∈ l) = true :=
  decide_eq_true (by rw [← of_decide_eq_true he]; exact List.mem_of_getElem? hx)
theorem not_all {a : List UInt8} {l : List (List UInt8)} {k : Nat} (h : a ∉ l.take k) (hk : l.length ≤ k) : decide (a ∈ l) = false :=
  decide_eq_false (by rw [List.take_of_length_le hk] at h; exact h)
set_option maxRecDepth 100000 in
set_option maxHeartbeats 20000000 in
theorem rhas_any (A : Option Addr) (n c : Nat) (l : List (List UInt8)) (a : List UInt8) (ha : a.length = 32) (w : World) (hA : RowR w A n l) :
    Calls Try.prog 21 #[.slice A n c, .agg (idVals a)] w fun e w' => e = .returned (.bool (decide (a ∈ l))) ∧ Below w.heap.size w w' := by
  obtain ⟨hn, bn, hr⟩ := hA
  have hI := Blk.new w 24 (idVals a)
  have hra0 := range_blk hI
  have hB0 : Below w.heap.size w (w.alloc (.cells (idVals a) 24)) := (Below.refl _ _).alloc (Nat.le_refl _) _
  have hu := Try.underlying24
  have hza : (Try.prog.info? 24).map (·.size) = some (a.map u8v).length := by rw [List.length_map, ha]; exact sizeId
  have mixed : Try.prog.follows .mixedOrders = true := by kernel_rfl
  clear hI
  go_enter Try.func21, Try.ntmps21
  go_wp2
  generalize w.alloc (.cells (idVals a) 24) = w0 at *
  go_loopw [5] (fun i wr => ∃ k : Nat, k ≤ n ∧ i = .int .i64 k ∧ a ∉ l.take k ∧ Below w0.heap.size w0 wr) (fun i _ => n - (intOf i).toNat)
  case atStart => exact ⟨0, by omega, rfl, by simp, Below.refl _ _⟩
  case round =>
    obtain ⟨k, hk, rfl, hnot, hb⟩ := hrel
    by_cases hlt : k < n
    · obtain ⟨x, hx⟩ : ∃ x, l[k]? = some x := ⟨_, List.getElem?_eq_getElem (by omega)⟩
      obtain ⟨g, q, hg, lx, hix⟩ := hr.pick c hn hx
      have b1 : (k : Int) < n := by omega
      have fx := range_later ((hg.below hB0).below hb)
      have fa := range_later (hra0.below hb)
      have hzx : (Try.prog.info? 24).map (·.size) = some (x.map u8v).length := by rw [List.length_map, lx]; exact sizeId
      obtain ⟨t, ht⟩ : ∃ t, decide (x = a) = t := ⟨_, rfl⟩
      have heq : ∀ W, (Op.equalIn 10000 24 (.agg (List.map u8v x).toArray) (.agg (List.map u8v a).toArray)).run Try.prog W = .ok t W := fun W => (ids_eq W x a lx ha).trans (by rw [ht])
      have HN := hid hn
      have HT := hid ht
      have HX := hid hx
      have HNT := hid hnot
      clear hn ht hx hnot lx hg
      go_wp2
      refine wp_region_later mixed (by kernel_rfl) ?_
      repeat (first
        | ((with_reducible refine wpQuiet_skip (by with_unfolding_all rfl) ?_); simp only [Act.put, List.setIfInBounds_toArray, List.set_cons_zero, List.set_cons_succ])
        | ((with_reducible refine wpQuiet_load_if (by with_unfolding_all rfl) 24 _ rfl _ _ rfl (x.map u8v) _ fx hu (by with_unfolding_all rfl) hzx ?_); simp only [Act.put, List.setIfInBounds_toArray, List.set_cons_zero, List.set_cons_succ])
        | ((with_reducible refine wpQuiet_load_if (by with_unfolding_all rfl) 24 _ rfl _ _ rfl (a.map u8v) _ fa hu (by with_unfolding_all rfl) hza ?_); simp only [Act.put, List.setIfInBounds_toArray, List.set_cons_zero, List.set_cons_succ])
        | ((with_reducible refine wpQuiet_step (fun K hK => ?_)); go_simp; first | ((with_reducible refine hK _ ?_); clear hK K) | (with_reducible apply Exists.intro; (with_reducible refine ⟨fun _ => ?_, hK _ ?_⟩); ((fail)); clear hK K)))
      with_reducible refine wpQuiet_nil ?_
      intro _ hw'
      obtain ⟨p, rfl⟩ := hw'
      have hp := p.h
      generalize p.w = wq at *
      replace hb := hb.trans (hp.mono hb.size)
      cases t with
      | true =>
        go_wp2
        go_ret
        exact ⟨congrArg (fun b => Ending.returned (Value.bool b)) (mem_of_hit HX.out HT.out).symm, hB0.trans (hb.mono hB0.size)⟩
      | false =>
        go_wp2
        go_roundw
        case rel => exact ⟨k + 1, by omega, by go_num, not_take_succ HNT.out HX.out HT.out, hb⟩
        case measure => simp [intOf]; omega
    · obtain rfl : k = n := by omega
      have HN := hid hn
      have HNT := hid hnot
      have b1 : ¬ (k : Int) < k := by omega
      clear hn hnot
      go_wp2
      go_ret
      exact ⟨congrArg (fun b => Ending.returned (Value.bool b)) (not_all HNT.out (by rw [HN.out]; exact Nat.le_refl _)).symm, hB0.trans (hb.mono hB0.size)⟩
end Go.Proofs.Ytkajfpincbkfhaa

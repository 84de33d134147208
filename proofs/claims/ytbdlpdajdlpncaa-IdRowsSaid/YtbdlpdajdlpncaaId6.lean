
/- Union, Minus, Both; the chapter's example. -/
import Derived.Test.YtbdlpdajdlpncaaId5
namespace Go.Proofs.Ytbdlpdajdlpncaa
open Go.RowKit Go.Qc
attribute [local go_sem] txt_size txt_append ib_fold ib_i64

theorem or_any (W : World) (x y : Bool) : Calls Try.prog 75 #[.bool x, .bool y] W fun e w' => e = .returned (.bool (x || y)) ∧ W = w' := by
  cases x <;> cases y <;>
  · go_enter Try.func75, Try.ntmps75
    go_wp2
    go_ret
    exact ⟨rfl, rfl⟩
/-- A row of ids, in hand: not more than a million, read where it lies. -/
def RowAt (w : World) (A : Option Addr) (n c : Nat) (l : List (List UInt8)) : Prop := l.length = n ∧ n ≤ c ∧ c ≤ maxLen ∧ n ≤ 1000000 ∧ IdRd w A l
theorem union_any (A B : Option Addr) (n c m d : Nat) (l r : List (List UInt8)) (w : World) (hA : RowAt w A n c l) (hB : RowAt w B m d r) :
    Calls Try.prog 33 #[.slice A n c, .slice B m d] w fun e w' => ∃ v, e = .returned v ∧ w'.ownsRow w.heap.size 24 32 v (mergeL (fun x y => x || y) l r).length (idsV (mergeL (fun x y => x || y) l r)) ∧ Below w.heap.size w w' := by
  have hm := merged_any 75 (fun x y => x || y) (enters_of Try.func75 (by kernel_rfl) rfl) or_any A B n c m d l r hA.1 hB.1 hA.2.1 hB.2.1 hA.2.2.1 hB.2.2.1 hA.2.2.2.1 hB.2.2.2.1 w hA.2.2.2.2 hB.2.2.2.2
  go_enter Try.func33, Try.ntmps33
  go_wp2_with (first | (go_at_call 74; (with_reducible refine hm.mono ?_); rintro e1 w1 ⟨v, rfl, ho, hb⟩))
  go_ret
  exact ⟨_, rfl, ho, hb⟩
theorem range_row {w : World} {g : Nat} {t : TypeId} {l : List Value} (h : Blk w g t l.toArray) : w.rangeAt g 0 l := fun j v hv => by
  rw [Nat.zero_add]; exact h.cell_ (by rw [List.getElem?_toArray]; exact hv)
def idN (n : UInt8) : List UInt8 := n :: List.replicate 31 0
theorem ex_union : mergeL (fun x y => x || y) [idN 1, idN 3] [idN 2, idN 3] = [idN 1, idN 2, idN 3] := by
  have h1 : Lib.compareBytes (idN 1) (idN 2) ≤ 0 := by decide
  have h2 : ¬ Lib.compareBytes (idN 2) (idN 1) ≤ 0 := by decide
  have h3 : ¬ Lib.compareBytes (idN 3) (idN 2) ≤ 0 := by decide
  have h4 : Lib.compareBytes (idN 3) (idN 3) ≤ 0 := by decide
  rw [mergeL, if_pos h1, if_neg h2, mergeL, if_neg h3, mergeL, if_pos h4, if_pos h4, mergeL]
  rfl
set_option maxRecDepth 100000 in
set_option maxHeartbeats 4000000 in
theorem awake4_any (w : World) :
    Calls Try.prog 8 #[] w fun e w' => e = .returned (.bool true) ∧ Below w.heap.size w w' := by
  go_enter Try.func8, Try.ntmps8
  go_wp2_with (fail)
  have h13 : ∀ a ∈ [idN 1, idN 3], a.length = 32 := by decide
  have h23 : ∀ a ∈ [idN 2, idN 3], a.length = 32 := by decide
  have hA := Blk.alloc (Blk.new w 24 (idsV [idN 1, idN 3]).toArray) (.cells (idsV [idN 2, idN 3]).toArray 24)
  have hB := Blk.new (w.alloc (.cells (idsV [idN 1, idN 3]).toArray 24)) 24 (idsV [idN 2, idN 3]).toArray
  have hk : (w.alloc (.cells (idsV [idN 1, idN 3]).toArray 24)).heap.size = w.heap.size + 1 := by simp
  rw [hk] at hB
  have hB0 : Below w.heap.size w ((w.alloc (.cells (idsV [idN 1, idN 3]).toArray 24)).alloc (.cells (idsV [idN 2, idN 3]).toArray 24)) := ((Below.refl _ w).alloc (Nat.le_refl _) _).alloc (by simp) _
  have hu := union_any (some ⟨w.heap.size, 0, none⟩) (some ⟨w.heap.size + 1, 0, none⟩) 2 2 2 2 [idN 1, idN 3] [idN 2, idN 3] ((w.alloc (.cells (idsV [idN 1, idN 3]).toArray 24)).alloc (.cells (idsV [idN 2, idN 3]).toArray 24)) ⟨rfl, Nat.le_refl _, by decide, by decide, h13, .inr ⟨_, _, rfl, range_row hA⟩⟩ ⟨rfl, Nat.le_refl _, by decide, by decide, h23, .inr ⟨_, _, rfl, range_row hB⟩⟩
  rw [ex_union, show [idN 1, idN 2, idN 3].length = 3 from rfl] at hu
  refine Calls.mono (R := _) hu ?_
  rintro e w1 ⟨v, rfl, ho, hb⟩
  have hB1 := hB0.trans (hb.mono hB0.size)
  obtain ⟨A, c, rfl, _, hrd⟩ := IdRd.own (ids := [idN 1, idN 2, idN 3]) ho (by decide)
  obtain ⟨g, o, rfl, r0⟩ := hrd.at_ (k := 0) (a := idN 1) rfl
  obtain ⟨g1, o1, e1, r1⟩ := hrd.at_ (k := 1) (a := idN 2) rfl
  obtain ⟨g2, o2, e2, r2⟩ := hrd.at_ (k := 2) (a := idN 3) rfl
  cases e1
  cases e2
  clear hu ho hb hrd hA hB hB0 hk h13 h23
  simp only [Nat.zero_mul, Nat.add_zero, Nat.one_mul] at r0 r1 r2
  have hq1 : ∀ W, (Op.equalIn 10000 24 (.agg (List.map u8v (idN 1)).toArray) (.agg #[.int .u8 1, .int .u8 0, .int .u8 0, .int .u8 0, .int .u8 0, .int .u8 0, .int .u8 0, .int .u8 0, .int .u8 0, .int .u8 0, .int .u8 0, .int .u8 0, .int .u8 0, .int .u8 0, .int .u8 0, .int .u8 0, .int .u8 0, .int .u8 0, .int .u8 0, .int .u8 0, .int .u8 0, .int .u8 0, .int .u8 0, .int .u8 0, .int .u8 0, .int .u8 0, .int .u8 0, .int .u8 0, .int .u8 0, .int .u8 0, .int .u8 0, .int .u8 0])).run Try.prog W = .ok true W := fun W => (ids_eq W (idN 1) (idN 1) rfl rfl).trans (by rw [decide_eq_true rfl])
  have hq2 : ∀ W, (Op.equalIn 10000 24 (.agg (List.map u8v (idN 2)).toArray) (.agg #[.int .u8 2, .int .u8 0, .int .u8 0, .int .u8 0, .int .u8 0, .int .u8 0, .int .u8 0, .int .u8 0, .int .u8 0, .int .u8 0, .int .u8 0, .int .u8 0, .int .u8 0, .int .u8 0, .int .u8 0, .int .u8 0, .int .u8 0, .int .u8 0, .int .u8 0, .int .u8 0, .int .u8 0, .int .u8 0, .int .u8 0, .int .u8 0, .int .u8 0, .int .u8 0, .int .u8 0, .int .u8 0, .int .u8 0, .int .u8 0, .int .u8 0, .int .u8 0])).run Try.prog W = .ok true W := fun W => (ids_eq W (idN 2) (idN 2) rfl rfl).trans (by rw [decide_eq_true rfl])
  have hq3 : ∀ W, (Op.equalIn 10000 24 (.agg (List.map u8v (idN 3)).toArray) (.agg #[.int .u8 3, .int .u8 0, .int .u8 0, .int .u8 0, .int .u8 0, .int .u8 0, .int .u8 0, .int .u8 0, .int .u8 0, .int .u8 0, .int .u8 0, .int .u8 0, .int .u8 0, .int .u8 0, .int .u8 0, .int .u8 0, .int .u8 0, .int .u8 0, .int .u8 0, .int .u8 0, .int .u8 0, .int .u8 0, .int .u8 0, .int .u8 0, .int .u8 0, .int .u8 0, .int .u8 0, .int .u8 0, .int .u8 0, .int .u8 0, .int .u8 0, .int .u8 0])).run Try.prog W = .ok true W := fun W => (ids_eq W (idN 3) (idN 3) rfl rfl).trans (by rw [decide_eq_true rfl])
  have hz1 : (Try.prog.info? 24).map (·.size) = some ((idN 1).map u8v).length := sizeId
  have hz2 : (Try.prog.info? 24).map (·.size) = some ((idN 2).map u8v).length := sizeId
  have hz3 : (Try.prog.info? 24).map (·.size) = some ((idN 3).map u8v).length := sizeId
  have hu := Try.underlying24
  go_wp2_with (first
    | (with_reducible refine wpList_load_if (by with_unfolding_all rfl) 24 _ rfl g o rfl ((idN 1).map u8v) _ r0 hu (by with_unfolding_all rfl) hz1 ?_)
    | (with_reducible refine wpList_load_if (by with_unfolding_all rfl) 24 _ rfl g (o + 32) rfl ((idN 2).map u8v) _ r1 hu (by with_unfolding_all rfl) hz2 ?_)
    | (with_reducible refine wpList_load_if (by with_unfolding_all rfl) 24 _ rfl g (o + 64) rfl ((idN 3).map u8v) _ r2 hu (by with_unfolding_all rfl) hz3 ?_))
  go_ret
  exact ⟨rfl, hB1⟩
end Go.Proofs.Ytbdlpdajdlpncaa

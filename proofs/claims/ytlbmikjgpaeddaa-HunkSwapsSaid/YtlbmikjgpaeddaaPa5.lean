
/- path: a path's parts, collected. -/
import Derived.Test.YtlbmikjgpaeddaaPa4
namespace Go.Proofs.Ytlbmikjgpaeddaa
open Go.RowKit Go.Qc Go.Shelf
attribute [local go_sem] txt_size txt_append ib_fold txt_toL
attribute [local go_sem] Oper.semAt_some

theorem infoString : (Try.prog.info? 9).map (fun i => (i.zero, i.size, i.bytes)) = some (some (.string ⟨#[]⟩), 1, 16) := by kernel_rfl
theorem splitS_count (l : List UInt8) : (splitS l).length ≤ l.length + 1 := by
  induction l with
  | nil => simp [splitS]
  | cons b l ih =>
    rw [splitS]
    split
    · simp; omega
    · split
      · simp
      · rename_i h; rw [h] at ih; simp at ih ⊢; omega
set_option maxRecDepth 100000 in
set_option maxHeartbeats 2000000 in
theorem appendSeq_any (s : List UInt8) (hs : s.length ≤ 1000000) (Bn : Nat) (w : World) (hBn : Bn < w.heap.size) (hc : w.cell? ⟨Bn, 0, none⟩ = some (.string (txt s))) :
    Calls Try.prog 68 #[.slice none 0 0, .func (.func 63) #[] #[.pointer (some ⟨Bn, 0, none⟩)]] w fun e w' => ∃ v, e = .returned v ∧ w'.ownsRow w.heap.size 9 1 v (splitS s).length ((splitS s).map strV) ∧ Below w.heap.size w w' := by
  refine (callsIn_wide (n := 3)).1 ?_
  have hcnt := splitS_count s
  obtain ⟨i0, hi, hz0, hz1, hz2⟩ := info_parts infoString
  refine callsIn_of_wp_marks Try.func68 rfl trivial ?_ rfl
  simp only [Try.ntmps68, List.size_toArray, List.length_cons, List.length_nil, Nat.reduceAdd, Nat.reduceSub, Array.replicate_succ, Array.replicate_zero, List.push_toArray, List.append_toArray, List.nil_append, List.cons_append]
  gi_wp2
  have x0 := Boxed.new w 25 (.slice none 0 0)
  have hB0 : Below w.heap.size w (w.alloc (.cells #[.slice none 0 0] 25)) := (Below.refl _ w).alloc (Nat.le_refl _) _
  refine wpIn_rangeFunc_ownG rfl (by omega) (gf := 63) (lb := #[.pointer (some ⟨Bn, 0, none⟩)]) rfl trivial (enters_of Try.func63 (by kernel_rfl) rfl)
    (pieces_stops (3 - 1) (by omega) Bn s (by omega) _ (by simp; omega) ((hB0.cell (p := ⟨Bn, 0, none⟩) hBn).trans hc)) (fun _ _ => trivial) (fun _ _ _ _ _ _ _ _ => trivial) (Below.refl _ _) (fun _ => rfl)
    (fun pre W => (∃ v, Boxed W w.heap.size 25 v ∧ W.ownsRow w.heap.size 9 1 v pre.length (pre.map fun x => strV x.1) ∧ True) ∧ Below w.heap.size w W)
    (fun _ _ _ => False)
    (OwnFrom.and (Own.from (holdsRow_own w.heap.size w.heap.size 25 9 1 (fun pre : List PS => pre.length) (fun pre => pre.map fun x => strV x.1) (fun _ _ => True)) _) (ownFrom_below (Nat.le_refl _) (by simp)))
    (fun _ _ _ _ _ hs _ _ => hs)
    ⟨⟨_, x0, World.ownsRow_nil _ _ _ _, trivial⟩, hB0⟩
    (fun x => { tmps := #[.slice none 0 0, .func (.func 63) #[] #[.pointer (some ⟨Bn, 0, none⟩)], .pointer (some ⟨w.heap.size, 0, none⟩), undef, .slice none 0 0, .string (txt x.1), .func (.func 63) #[] #[.pointer (some ⟨Bn, 0, none⟩)], .string (txt x.1), undef, undef, undef, undef, undef], defers := [] }) ?assign ?body ?done ?stop
  case assign =>
    intro l x W K hK
    unfold strV
    gi_wp2
    exact hK
  case body =>
    rintro l pre x W ⟨⟨v, hv, hrow, _⟩, hB⟩ hlt
    have hc := hv.cell
    gi_wp2_with (gi_at_builtin; refine wpListIn_append_own _ rfl _ _ 25 rfl w.heap.size 9 i0 (.string ⟨#[]⟩) 1 16 Try.underlying25 hi hz0 hz1 hz2 rfl (by decide) _ _ _ rfl (hrow.alloc _) ⟨W.heap.size, 0, none⟩ 1 1 [.string (txt x.1)] rfl rfl (cell_one_new _ _ _) (by simp [Value.oneCell']) (by unfold maxLen; omega) (by omega) (by have := hB.size; simp; omega) ?_; intro v' w1 hown' hgrow _; obtain ⟨g', cap', rfl⟩ := ownsRow_succ hown'; obtain ⟨hv1, hv2, hr2, hk2, hb2⟩ := hv.appended (by decide) hrow hB.size (Nat.le_refl _) hown' hgrow; have hc1 := hv1.cell; have hf1 := hv1.frozen)
    exact ⟨hk2.from _, trivial, ⟨_, hv2, by simpa [strV] using hr2, trivial⟩, hB.trans hb2⟩
  case done =>
    rintro D ys W hD hys ⟨⟨v, hv, hrow, _⟩, hB⟩ hK
    have hc := hv.cell
    gi_wp2
    refine ⟨by simp, .inl ⟨_, _, rfl, run_takeDeferred hK, ?_⟩⟩
    refine ⟨_, results_tmp rfl _ _ _, v, rfl, ?_, hB.trans (belowK_b (w := w) (Nat.le_refl _) W D _ _ (by simp at hD; omega) hK rfl rfl)⟩
    have h := ownsRow_putObj hrow (.deferred none) hK rfl
    rw [← hys, List.length_map, List.map_map]
    exact h
  case stop =>
    rintro D c pre W _ _ h _
    exact h.elim
theorem collect_any (s : List UInt8) (hs : s.length ≤ 1000000) (Bn : Nat) (w : World) (hBn : Bn < w.heap.size) (hc : w.cell? ⟨Bn, 0, none⟩ = some (.string (txt s))) :
    Calls Try.prog 47 #[.func (.func 63) #[] #[.pointer (some ⟨Bn, 0, none⟩)]] w fun e w' => ∃ v, e = .returned v ∧ w'.ownsRow w.heap.size 9 1 v (splitS s).length ((splitS s).map strV) ∧ Below w.heap.size w w' := by
  go_enter Try.func47, Try.ntmps47
  go_wp2_with (go_at_call 68; (with_reducible refine (appendSeq_any s hs Bn _ hBn hc).mono ?_); rintro e1 w1 ⟨v, rfl, hown, hB⟩)
  go_ret
  exact ⟨v, rfl, hown, hB⟩
theorem parts_ok (s : List UInt8) (h : pathR s = true) (w : World) :
    Calls Try.prog 16 #[.string (txt s)] w fun e w' => ∃ v, e = .returned v ∧ w'.ownsRow w.heap.size 9 1 v (splitS s).length ((splitS s).map strV) ∧ Below w.heap.size w w' := by
  have hs : s.length ≤ 200 := by
    by_cases h2 : s.length ≤ 200
    · exact h2
    · rw [pathR_long (by omega)] at h; cases h
  have cR := right_any s
  rw [h] at cR
  have cS : ∀ w1, Below w.heap.size w w1 → Calls Try.prog 47 #[.func (.func 63) #[] #[.pointer (some ⟨w1.heap.size, 0, none⟩)]] (w1.alloc (.cells #[.string (txt s)] 9)) fun e w' => ∃ v, e = .returned v ∧ w'.ownsRow w.heap.size 9 1 v (splitS s).length ((splitS s).map strV) ∧ Below w.heap.size w w' := fun w1 hB1 => by
    refine (collect_any s (by omega) w1.heap.size _ (by simp) (cell_new1 w1 (.string (txt s)) 9)).mono ?_
    rintro e w' ⟨v, rfl, hown, hB⟩
    have hz := hB1.size
    exact ⟨v, rfl, own_base hown (by simp; omega), hB1.trans (((Below.refl _ w1).alloc hz _).trans (hB.mono (by simp; omega)))⟩
  clear h
  go_enter Try.func16, Try.ntmps16
  go_wp2_with (first
    | (go_at_call 11; (with_reducible refine (cR _).mono ?_); rintro e1 w1 ⟨rfl, hB1⟩)
    | (go_at_call 43; (with_reducible refine (pieces_any s _).mono ?_); rintro e2 w2 ⟨rfl, rfl⟩)
    | (go_at_call 47; (with_reducible refine (cS _ hB1).mono ?_); rintro e3 w3 ⟨v, rfl, hown, hB⟩))
  go_ret
  exact ⟨v, rfl, hown, hB⟩
theorem parts_no (s : List UInt8) (h : pathR s = false) (w : World) :
    Calls Try.prog 16 #[.string (txt s)] w fun e w' => e = .returned (.slice none 0 0) ∧ Below w.heap.size w w' := by
  have cR := right_any s
  rw [h] at cR
  clear h
  go_enter Try.func16, Try.ntmps16
  go_wp2_with (go_at_call 11; (with_reducible refine (cR _).mono ?_); rintro e1 w1 ⟨rfl, hB1⟩)
  go_ret
  exact ⟨rfl, hB1⟩
end Go.Proofs.Ytlbmikjgpaeddaa

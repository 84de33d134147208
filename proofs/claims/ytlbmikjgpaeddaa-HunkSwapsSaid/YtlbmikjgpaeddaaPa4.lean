
/- path: whether a text is a path, by the program and by the document; a path's parts. -/
import Derived.Test.YtlbmikjgpaeddaaPa3
namespace Go.Proofs.Ytlbmikjgpaeddaa
open Go.RowKit Go.Qc Go.Shelf
attribute [local go_sem] txt_size txt_append ib_fold txt_toL
attribute [local go_sem] Oper.semAt_some

theorem pieces_any (s : List UInt8) (w : World) :
    Calls Try.prog 43 #[.string (txt s)] w fun e w' => e = .returned (.func (.func 63) #[] #[.pointer (some ⟨w.heap.size, 0, none⟩)]) ∧ w' = w.alloc (.cells #[.string (txt s)] 9) := by
  go_enter Try.func43, Try.ntmps43
  go_wp2
  go_ret
  exact ⟨rfl, rfl⟩
theorem pieces_stops (n : Nat) (hn : 1 ≤ n) (Bn : Nat) (s : List UInt8) (hs : s.length ≤ 1000000000000) (w : World) (hBn : Bn < w.heap.size) (hc : w.cell? ⟨Bn, 0, none⟩ = some (.string (txt s))) :
    SeqStopsK Fence.wide n Try.prog 63 #[.pointer (some ⟨Bn, 0, none⟩)] (fun x : PS => #[strV x.1]) (fun _ _ => True) (fun ys => ys.map (·.1) = splitS s) (fun pre => pre.map (·.1) <+: splitS s) (splitS s).length w :=
  fun l J Jx W hW hJ _ hY h0 => pieces1_in n hn l Bn s hs J Jx W hJ hY ((hW.cell (p := ⟨Bn, 0, none⟩) hBn).trans hc) h0

/-- A path. -/
def pathR (s : List UInt8) : Bool := decide (s.length ≤ 200) && (decide ((splitS s).length ≤ 16) && (splitS s).all partS)
theorem pathR_long {s : List UInt8} (h : 200 < s.length) : pathR s = false := by
  unfold pathR; rw [decide_eq_false (by omega)]; rfl
theorem pathR_bad {s : List UInt8} {pre : List (List UInt8)} (h : pre <+: splitS s) (hb : 16 < pre.length ∨ ∃ x ∈ pre, partS x = false) : pathR s = false := by
  unfold pathR
  rcases hb with hb | ⟨x, hx, hb⟩
  · have := h.length_le
    rw [decide_eq_false (show ¬ (splitS s).length ≤ 16 by omega)]; simp
  · have : (splitS s).all partS = false := by rw [List.all_eq_false]; exact ⟨x, h.subset hx, by simp [hb]⟩
    rw [this]; simp
theorem pathR_ok {s : List UInt8} (h1 : s.length ≤ 200) (h2 : (splitS s).length ≤ 16) (h3 : ∀ x ∈ splitS s, partS x = true) : pathR s = true := by
  unfold pathR
  rw [decide_eq_true h1, decide_eq_true h2, List.all_eq_true.2 h3]; rfl
theorem cell_new1 (W : World) (v : Value) (t : TypeId) : (W.alloc (.cells #[v] t)).cell? ⟨W.heap.size, 0, none⟩ = some v := (Blk.new W t #[v]).cell_ rfl

set_option maxRecDepth 100000 in
set_option maxHeartbeats 2000000 in
theorem right_short (s : List UInt8) (hs : s.length ≤ 200) (w : World) :
    Calls Try.prog 11 #[.string (txt s)] w fun e w' => e = .returned (.bool (pathR s)) ∧ Below w.heap.size w w' := by
  refine (callsIn_wide (n := 3)).1 ?_
  have b0 : ¬ (200 : Int) < s.length := by omega
  refine callsIn_of_wp_marks Try.func11 rfl trivial ?_ rfl
  simp only [Try.ntmps11, List.size_toArray, List.length_cons, List.length_nil, Nat.reduceAdd, Nat.reduceSub, Array.replicate_succ, Array.replicate_zero, List.push_toArray, List.append_toArray, List.nil_append, List.cons_append]
  gi_wp2_with (refine ⟨trivial, ?_⟩; gi_at_call 43; refine (callsIn_wide.2 (pieces_any s _)).mono ?_; rintro e1 w1 ⟨rfl, rfl⟩)
  have x0 := Boxed.new w 4 (.bool false)
  have x1 := Boxed.new (w.alloc (.cells #[.bool false] 4)) 3 (.int .i64 0)
  have x2 := Boxed.new ((w.alloc (.cells #[.bool false] 4)).alloc (.cells #[.int .i64 0] 3)) 9 (.string (txt s))
  simp only [World.size_alloc] at x1 x2
  have hB0 : Below w.heap.size w (((w.alloc (.cells #[.bool false] 4)).alloc (.cells #[.int .i64 0] 3)).alloc (.cells #[.string (txt s)] 9)) := (((Below.refl _ w).alloc (Nat.le_refl _) _).alloc (by simp) _).alloc (by simp; omega) _
  refine wpIn_rangeFunc_ownG rfl (by omega) (gf := 63) (lb := #[.pointer (some ⟨w.heap.size + 1 + 1, 0, none⟩)]) rfl trivial (enters_of Try.func63 (by kernel_rfl) rfl)
    (pieces_stops (3 - 1) (by omega) (w.heap.size + 1 + 1) s (by omega) _ x2.lt x2.cell) (fun _ _ => trivial) (fun _ _ _ _ _ _ _ _ => trivial) (Below.refl _ _) (fun _ => rfl)
    (fun pre W => (Boxed W w.heap.size 4 (.bool false) ∧ Boxed W (w.heap.size + 1) 3 (.int .i64 pre.length)) ∧ ((∀ x ∈ pre, partS x.1 = true) ∧ pre.length ≤ 16) ∧ Below w.heap.size w W)
    (fun c pre W => (Boxed W w.heap.size 4 (.bool false)) ∧ (c = .ret ∧ (16 < pre.length ∨ ∃ x ∈ pre, partS x.1 = false)) ∧ Below w.heap.size w W)
    ?own ?ownx
    ⟨⟨(x0.alloc _).alloc _, x1.alloc _⟩, ⟨by simp, by simp⟩, hB0⟩
    (fun x => { tmps := #[.string (txt s), undef, .pointer (some ⟨w.heap.size, 0, none⟩), .pointer (some ⟨w.heap.size + 1, 0, none⟩), .string (txt x.1), .string (txt s), .int .i64 s.length, .bool false, .string (txt s), .func (.func 63) #[] #[.pointer (some ⟨w.heap.size + 1 + 1, 0, none⟩)], .string (txt x.1), undef, undef, undef, undef, undef, undef, undef, undef, undef], defers := [] }) ?assign ?body ?done ?stop
  case own => exact OwnFrom.and (OwnFrom.and (Own.from (boxed_own _ _ _) _) (Own.from (boxed_own _ _ _) _)) (OwnFrom.and (ownFrom_pure _ _) (ownFrom_below (Nat.le_refl _) (by simp; omega)))
  case ownx => exact fun c => OwnFrom.and (Own.from (boxed_own _ _ _) _) (OwnFrom.and (ownFrom_pure _ _) (ownFrom_below (Nat.le_refl _) (by simp; omega)))
  case assign =>
    intro l x W K hK
    unfold strV
    gi_wp2
    exact hK
  case body =>
    rintro l pre x W ⟨⟨hb, hi⟩, ⟨hp, hl⟩, hB⟩ _
    have c0 := hb.cell
    have c1 := hi.cell
    have f0 := hb.frozen
    have f1 := hi.frozen
    have hB1 := hB.setCell (p := ⟨w.heap.size + 1, 0, none⟩) (Nat.le_succ _) (.int .i64 ((pre.length : Int) + 1))
    have hb1 := hb.other (B' := w.heap.size + 1) (by omega) (.int .i64 ((pre.length : Int) + 1))
    have hi1 := hi.set (.int .i64 ((pre.length : Int) + 1))
    gi_wp2_with (refine ⟨trivial, ?_⟩; gi_at_call 44; refine (CallsIn.inRound l (callsIn_wide.2 (part_any x.1 x.2 _))).mono ?_; rintro e w' ⟨rfl, rfl⟩)
    · have h : 16 < (pre.length : Int) + 1 ∨ (!partS x.val) = true := by assumption
      refine ⟨((KeepsOthers.setCell _ _ _).trans (KeepsOthers.setCell _ _ _)).from _, hb1.set _, ⟨rfl, ?_⟩, hB1.setCell (p := ⟨w.heap.size, 0, none⟩) (Nat.le_refl _) _⟩
      rcases h with h | h
      · exact .inl (by simp; omega)
      · exact .inr ⟨x, by simp, by simpa using h⟩
    · have h : (pre.length : Int) + 1 ≤ 16 ∧ (!partS x.val) = false := by assumption
      refine ⟨(KeepsOthers.setCell _ _ _).from _, trivial, ⟨hb1, by rw [List.length_append]; exact hi1⟩, ⟨fun y hy => ?_, by simp; omega⟩, hB1⟩
      rcases List.mem_append.1 hy with hy | hy
      · exact hp y hy
      · obtain rfl : y = x := by simpa using hy
        simpa using h.2
    · have h : 16 < (pre.length : Int) + 1 := by assumption
      refine ⟨trivial, ?_⟩
      gi_wp2
      refine ⟨((KeepsOthers.setCell _ _ _).trans (KeepsOthers.setCell _ _ _)).from _, hb1.set _, ⟨rfl, .inl (by simp; omega)⟩, hB1.setCell (p := ⟨w.heap.size, 0, none⟩) (Nat.le_refl _) _⟩
  case done =>
    rintro D ys W hD hys ⟨⟨hb, hi⟩, ⟨hp, hl⟩, hB⟩ hK
    have c0 := hb.cell
    have f0 := hb.frozen
    gi_wp2
    have hK' := (KeepsOthers.setCell W ⟨w.heap.size, 0, none⟩ (.bool true)).same D _ hK rfl
    refine ⟨by simp, .inl ⟨_, _, rfl, run_takeDeferred hK', ?_⟩⟩
    have hc5 := cell_kept (hb.set (.bool true)).cell (grownBy_putObj' _ D (.deferred none)) (fun r e => by cases e; exact ⟨_, hK', rfl⟩)
    have hok : pathR s = true := pathR_ok hs (by rw [← hys, List.length_map]; exact hl) (fun x hx => by
      rw [← hys] at hx
      obtain ⟨y, hy, rfl⟩ := List.mem_map.1 hx
      exact hp y hy)
    refine ⟨.bool true, ?_, by rw [hok], (hB.setCell (p := ⟨w.heap.size, 0, none⟩) (Nat.le_refl _) _).trans (belowK_b (w := w) (Nat.le_refl _) _ D _ _ (by simp at hD; omega) hK' rfl rfl)⟩
    simp [results, Try.f11, go_sem, hc5]
  case stop =>
    rintro D c pre W hD hpre ⟨hb, ⟨rfl, hbad⟩, hB⟩ hK
    gi_wp2
    refine ⟨by simp, .inl ⟨_, _, rfl, run_takeDeferred hK, ?_⟩⟩
    have hc5 := cell_kept hb.cell (grownBy_putObj' _ D (.deferred none)) (fun r e => by cases e; exact ⟨_, hK, rfl⟩)
    have hno : pathR s = false := pathR_bad hpre (by
      rcases hbad with h | ⟨x, hx, h⟩
      · exact .inl (by rw [List.length_map]; exact h)
      · exact .inr ⟨x.1, List.mem_map.2 ⟨x, hx, rfl⟩, h⟩)
    refine ⟨.bool false, ?_, by rw [hno], hB.trans (belowK_b (w := w) (Nat.le_refl _) W D _ _ (by simp at hD; omega) hK rfl rfl)⟩
    simp [results, Try.f11, go_sem, hc5]
theorem right_long (s : List UInt8) (hs : 200 < s.length) (w : World) :
    Calls Try.prog 11 #[.string (txt s)] w fun e w' => e = .returned (.bool (pathR s)) ∧ Below w.heap.size w w' := by
  rw [pathR_long hs]
  have b0 : (200 : Int) < s.length := by omega
  go_enter Try.func11, Try.ntmps11
  go_wp2
  refine bodyPost_ret (v := .bool false) (by simp [results, Try.f11, go_sem]) rfl ?_
  exact ⟨rfl, (Below.refl _ w).alloc (Nat.le_refl _) _⟩
theorem right_any (s : List UInt8) (w : World) :
    Calls Try.prog 11 #[.string (txt s)] w fun e w' => e = .returned (.bool (pathR s)) ∧ Below w.heap.size w w' := by
  by_cases h : s.length ≤ 200
  · exact right_short s h w
  · exact right_long s (by omega) w
end Go.Proofs.Ytlbmikjgpaeddaa

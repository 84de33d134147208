
/- gauss: the document's sums, differences, products, powers; the law's pairs; Divide, Turn. -/
import Derived.Test.YtdkeobpmenaljaaGs2
set_option linter.unusedSimpArgs false
set_option linter.unusedVariables false
namespace Go.Proofs.Ytdkeobpmenaljaa
open Go.RowKit Go.Qc

/-- A pair as the document has it. -/
def pz (x : Int × Int) : Value := .agg #[.int .i64 x.1, .int .i64 x.2]
theorem wp_tail_drewZ {P : Program} {id : Nat} {Q : Exit → Act → World → Prop} {a : Act} {w : World} {l : List Oper} (n : Nat) (hm : P.follows .mixedOrders = true) (hB : Region.lexTailB .any l.toArray n = true)
    (h : wpStill P l.toArray w.drew (fun a' => wpList P l.toArray Q (l.drop n) a' w.drew) (l.take n) a) : (Code.region id l.toArray true).wp P Q a w := wp_region_still_tail n hm hB h
theorem mixedZ : Try.prog.follows .mixedOrders = true := by kernel_rfl
set_option maxRecDepth 100000 in
theorem rmod22_any (v : Int) (h0 : -4611686018427387904 < v) (h1 : v < 4611686018427387904) (w : World) : Calls Try.prog 97 #[.int .i64 v] w fun e w' => e = .returned (.int .i64 (v % 65519)) ∧ w' = w := by
  have e1 : v.tmod 65519 = if 0 ≤ v then v % 65519 else -((-v) % 65519) := by
    by_cases h : 0 ≤ v
    · rw [if_pos h, Int.tmod_eq_emod_of_nonneg h]
    · rw [if_neg h]
      have : v.tmod 65519 = -((-v).tmod 65519) := by rw [Int.neg_tmod, Int.neg_neg]
      rw [this, Int.tmod_eq_emod_of_nonneg (by omega)]
  obtain ⟨m, hm⟩ : ∃ m, v.tmod 65519 = m := ⟨_, rfl⟩
  have hm1 : -65519 < m ∧ m < 65519 := by rw [← hm, e1]; split <;> omega
  have hm2 : m < 0 → m + 65519 = v % 65519 := by rw [← hm, e1]; split <;> omega
  have hm3 : ¬ m < 0 → m = v % 65519 := by rw [← hm, e1]; split <;> omega
  clear e1
  generalize v % 65519 = r at *
  obtain ⟨hm4, hm5⟩ := hm1
  by_cases hneg : m < 0
  · have hr := hm2 hneg
    clear hm2 hm3 h0 h1
    go_enter Try.func97, Try.ntmps97
    go_wp2
    go_ret
    exact ⟨by rw [← hr]; rfl, rfl⟩
  · have hr := hm3 hneg
    clear hm2 hm3 h0 h1
    go_enter Try.func97, Try.ntmps97
    go_wp2
    go_ret
    exact ⟨by rw [← hr]; rfl, rfl⟩
theorem below_drewZ {B : Nat} {a w : World} (h : Below B a w) : Below B a w.drew := ⟨h.os, h.tape, h.output, h.size, h.block⟩
/-- Pairs in new blocks. -/
theorem blk_p2 (w : World) (o1 o2 : Obj) (t : TypeId) (cs : Array Value) : Blk (((w.alloc o1).alloc o2).alloc (.cells cs t)) (w.heap.size + 1 + 1) t cs := by
  have h := Blk.new ((w.alloc o1).alloc o2) t cs
  rwa [World.size_alloc, World.size_alloc] at h
theorem blk_p1 (w : World) (o1 : Obj) (t : TypeId) (cs : Array Value) : Blk ((w.alloc o1).alloc (.cells cs t)) (w.heap.size + 1) t cs := by
  have h := Blk.new (w.alloc o1) t cs
  rwa [World.size_alloc] at h
theorem ret_pair {fn : Func} {p : Tmp} (h : fn.results = #[.cell p 78]) (tmps : Array Value) (w : World) (g : Nat) (x y : Value) (hp : tmps.getD p undef = .pointer (some ⟨g, 0, none⟩)) (hg : Blk w g 78 #[x, y]) :
    (results fn tmps).run Try.prog w = .ok (.agg #[x, y]) w := results_cell_row h tmps w g _ _ _ _ hp hg Try.underlying78 rfl (by kernel_rfl)
theorem below_p3 (w : World) (x y z : Array Value) (t u v : TypeId) : Below w.heap.size w (((w.alloc (.cells x t)).alloc (.cells y u)).alloc (.cells z v)) :=
  (((Below.refl w.heap.size w).alloc (Nat.le_refl _) _).alloc (by rw [World.size_alloc]; omega) _).alloc (by rw [World.size_alloc, World.size_alloc]; omega) _
set_option maxRecDepth 100000 in
set_option maxHeartbeats 4000000 in
theorem rmul22_any (x y : Int × Int) (hx : ResZ x) (hy : ResZ y) (w : World) : Calls Try.prog 48 #[pz x, pz y] w fun e w' => e = .returned (pz (gmulZ x y)) ∧ Below w.heap.size w w' := by
  obtain ⟨a, b⟩ := x
  obtain ⟨c, d⟩ := y
  obtain ⟨x0, x1, x2, x3⟩ := hx
  obtain ⟨y0, y1, y2, y3⟩ := hy
  dsimp only at *
  obtain ⟨b1, b2⟩ := zbound x0 x1 y0 y1
  obtain ⟨b3, b4⟩ := zbound x2 x3 y2 y3
  obtain ⟨b5, b6⟩ := zbound x0 x1 y2 y3
  obtain ⟨b7, b8⟩ := zbound x2 x3 y0 y1
  have q1 := fun W => rmod22_any (a * c - b * d) (by omega) (by omega) W
  have q2 := fun W => rmod22_any (a * d + b * c) (by omega) (by omega) W
  have e1 : IntKind.i64.wrap (IntKind.i64.wrap (a * c) - IntKind.i64.wrap (b * d)) = a * c - b * d := by simp only [IntKind.wrap_i64]; omega
  have e2 : IntKind.i64.wrap (IntKind.i64.wrap (a * d) + IntKind.i64.wrap (b * c)) = a * d + b * c := by simp only [IntKind.wrap_i64]; omega
  unfold pz gmulZ zred zmul
  dsimp only
  generalize (a * c - b * d) % 65519 = r1 at *
  generalize (a * d + b * c) % 65519 = r2 at *
  go_enter Try.func48, Try.ntmps48
  go_wp2_with (fail)
  refine wp_tail_drewZ 24 mixedZ (by kernel_rfl) ?_
  simp only [List.take_succ_cons, List.take_zero, List.drop_succ_cons, List.drop_zero]
  repeat (first
    | (refine wpStill_step (fun K hK => ?_); go_simp; (with_reducible refine hK _ ?_); clear hK K)
    | (refine wpStill_step (fun K hK => ?_); go_simp; (with_reducible refine ⟨_, q1 _, hK _ ?_⟩); clear hK K)
    | (refine wpStill_step (fun K hK => ?_); go_simp; (with_reducible refine ⟨_, q2 _, hK _ ?_⟩); clear hK K))
  refine wpStill_nil ?_
  go_wp2_with (fail)
  refine bodyPost_ret (ret_pair rfl _ _ _ _ _ rfl (blk_heap rfl (blk_p2 w _ _ _ _))) rfl ⟨rfl, ?_⟩
  exact below_drewZ (below_p3 w _ _ _ _ _ _)
theorem infoPairZ : (Try.prog.info? 78).map (·.size) = some 2 := by kernel_rfl
theorem blk_grownZ {w w' : World} {g k : Nat} {t : TypeId} {cs : Array Value} (h : Blk w g t cs) (hg : w.grownBy w' (some k)) (hne : g ≠ k) : Blk w' g t cs := (hg.block g h.lt (by simpa using hne)).trans h
theorem below_grownZ {w W W' : World} {k : Nat} (h : Below w.heap.size w W) (hg : W.grownBy W' (some k)) (hk : w.heap.size ≤ k) : Below w.heap.size w W' := h.grown hg h.size (fun i e => by have := Option.some.inj e; omega)
theorem meas_z {n k : Nat} (h : k < n) : n - ((k : Int) + 1).toNat < n - ((k : Int)).toNat := by omega
end Go.Proofs.Ytdkeobpmenaljaa

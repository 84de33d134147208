
/- Rows of operations: appended to, built, cut. -/
import Derived.Test.YtodfaakodgedbaaRo2
set_option linter.unusedSimpArgs false
set_option linter.unusedVariables false
namespace Go.Proofs.Ytodfaakodgedbaa
open Go.RowKit Go.Qc Go.Shelf
attribute [local go_sem] txt_size txt_append ib_fold txt_toL

theorem OpRd.upto {w : World} {A : Option Addr} {Xs Ys : List OpV} (h : OpRd w A (Xs ++ Ys)) : OpRd w A Xs := by
  refine ⟨fun X hX => h.1 X (by simp [hX]), ?_⟩
  rcases h.2 with h2 | ⟨g, o, rfl, h2⟩
  · exact .inl (List.append_eq_nil_iff.1 h2).1
  · exact .inr ⟨g, o, rfl, fun j v hj => h2 j v (by rw [opsV_append, List.getElem?_append_left (List.getElem?_eq_some_iff.1 hj).1]; exact hj)⟩
theorem run_slice_ops (g o n c m : Nat) (hm : m ≤ c) (W : World) : (Instr.sliceAt 22 (.slice (some ⟨g, o, none⟩) n c) none (some (.int .i64 (m : Int))) none).run Try.prog W = .ok (.slice (some ⟨g, o, none⟩) m c) W := by
  obtain ⟨i0, hi, h39⟩ := infoOp3
  have h1 : (0 : Int) ≤ m ∧ (m : Int) ≤ (c : Int) := by omega
  simp [Instr.sliceAt, Instr.slice, Instr.sliceBounds, run_underlying Try.underlying22, run_sliceBound, h1, sizeOf, typeInfo, hi, h39, Addr.add_lit, Int.toNat_natCast]
/-- A row of operations of one's own. -/
def OwnOps (W : World) (base : Nat) (v : Value) (n : Nat) (Xs : List OpV) : Prop := W.ownsRow base 40 39 v n (opsV Xs)
theorem OwnOps.rd {W : World} {base n : Nat} {v : Value} {Xs : List OpV} (h : OwnOps W base v n Xs) (hK : ∀ X ∈ Xs, X.D.K.length = 32) : ∃ A c, v = .slice A n c ∧ Xs.length = n ∧ n ≤ c ∧ (A = none → n = 0 ∧ c = 0) ∧ OpRd W A Xs := by
  have hl : Xs.length = n := by
    have h1 : (opsV Xs).length = n * 39 := h.1
    rw [opsV_length Xs hK] at h1
    omega
  rcases h.2 with ⟨rfl, h0⟩ | ⟨g, cap, cur, rfl, _, hg, h3, _, _, ht⟩
  · subst h0
    exact ⟨none, 0, rfl, hl, Nat.le_refl _, fun _ => ⟨rfl, rfl⟩, hK, .inl (List.eq_nil_of_length_eq_zero hl)⟩
  · refine ⟨_, cap, rfl, hl, h3, (fun e => by cases e), hK, .inr ⟨g, 0, rfl, fun j v hj => ?_⟩⟩
    rw [← ht, List.getElem?_take] at hj
    split at hj
    · rw [cell_of_row W g (0 + j) cur _ _ hg, Nat.zero_add, ← Array.getElem?_toList]; exact hj
    · cases hj
theorem OwnOps.below {W W' : World} {base n : Nat} {v : Value} {Xs : List OpV} (h : OwnOps W base v n Xs) (hb : Below W.heap.size W W') : OwnOps W' base v n Xs := own_below h hb
theorem OwnOps.block {W : World} {base n : Nat} {v : Value} {Xs : List OpV} (h : OwnOps W base v n Xs) {k : Nat} (hk : v.ownBlock = some k) : base ≤ k := by
  rcases h.2 with ⟨rfl, _⟩ | ⟨g, cap, cur, rfl, h1, _⟩
  · cases hk
  · simp [Value.ownBlock] at hk; omega
theorem OwnOps.made (W : World) : OwnOps (W.alloc (.cells #[] 40)) W.heap.size (.slice (some ⟨W.heap.size, 0, none⟩) 0 0) 0 [] :=
  World.ownsRow_made W #[] 0 (Nat.le_refl _) (by decide) rfl
theorem OwnOps.none_ (W : World) (base : Nat) : OwnOps W base (.slice none 0 0) 0 [] := ⟨rfl, .inl ⟨rfl, rfl⟩⟩
theorem OwnOps.grown {W W' : World} {base n B : Nat} {v : Value} {Xs : List OpV} (h : OwnOps W base v n Xs) (hg : W.grownBy W' v.ownBlock) (hB : B ≤ base) {w : World} (hb : Below B w W) (hs : B ≤ W.heap.size) : Below B w W' :=
  hb.grown hg hs (by intro k hk; have := h.block hk; omega)
theorem wp_build1o {w : World} {o : Oper} {a : Act} {K : Act → World → Prop} {Q : Exit → Act → World → Prop} (x : Operand) (ho : o.op = .buildSlice 22 1 #[(0, x)])
    (X : Array Value) (lx : X.size = 39) (hx : a.eval x = .agg X)
    (h : ∀ cs, (w.alloc (.cells cs 40)).rangeAt w.heap.size 0 X.toList → K (a.put o.dst (.slice (some ⟨w.heap.size, 0, none⟩) 1 1)) (w.alloc (.cells cs 40))) :
    o.wp Try.prog a w K Q := by
  obtain ⟨j0, Z, hj, hjz, hjs, hZ⟩ := infoOp2_parts
  obtain ⟨zs, hzs⟩ : ∃ zs : Array Value, zs = (Array.range (1 * j0.size)).map ((Value.agg Z).cells[· % (Value.agg Z).cells.size]!) := ⟨_, rfl⟩
  have hz : zs.size = 39 := by rw [hzs, hjs]; simp
  obtain ⟨s1, g1⟩ := put_get_A 0 X zs (by rw [hz, lx]; decide)
  generalize hc1 : X.zipIdx.foldl (fun cs (c, j) => cs.setIfInBounds (0 + j) c) zs = c1 at s1 g1
  refine wp_buildSlice 22 40 1 #[(0, x)] ho c1 j0 (.agg Z) Try.underlying22 hj hjz (by rw [hjs]; decide) (by rw [hjs]; decide) ?_ (h c1 ?_)
  · rw [← hzs, hjs]
    have e1 : (Value.agg X).cells = X := rfl
    simp only [List.map_toArray, List.map_cons, List.map_nil, hx, Instr.fill, e1, lx, hz]
    rw [if_neg (by decide)]
    simp only [Nat.zero_mul]
    rw [hc1]
  · intro j u hj'
    have hlt : j < 39 := by have := (List.getElem?_eq_some_iff.1 hj').1; rw [Array.length_toList, lx] at this; exact this
    rw [cell_of_row _ _ _ _ _ _ (heap_alloc_new w _), Nat.zero_add, g1, lx, if_pos (by omega), Nat.sub_zero]
    exact hj'
theorem wpList_build1o {w : World} {ops : Array Oper} {rest : List Oper} {o : Oper} {a : Act} {Q : Exit → Act → World → Prop} (hgd : o.guard = none) (x : Operand) (ho : o.op = .buildSlice 22 1 #[(0, x)])
    (X : Array Value) (lx : X.size = 39) (hx : a.eval x = .agg X)
    (h : ∀ cs, (w.alloc (.cells cs 40)).rangeAt w.heap.size 0 X.toList → wpList Try.prog ops Q rest (a.put o.dst (.slice (some ⟨w.heap.size, 0, none⟩) 1 1)) (w.alloc (.cells cs 40))) :
    wpList Try.prog ops Q (o :: rest) a w :=
  wpList_plain hgd fun _ hK => wp_build1o x ho X lx hx fun cs hc => hK _ _ (h cs hc)
theorem OpRd.one {W : World} {g : Nat} {X : OpV} (h : W.rangeAt g 0 (opC X.D X.A X.n X.c X.B X.m X.d).toList) (hK : X.D.K.length = 32) : OpRd W (some ⟨g, 0, none⟩) [X] :=
  ⟨by simpa using hK, .inr ⟨g, 0, rfl, by simpa [opsV, OpV.cs] using h⟩⟩

end Go.Proofs.Ytodfaakodgedbaa


/- journal: a log's box, and a disk of which what waits comes to what is seen. -/
import Derived.Test.YtemdmdgigmhlbaaGreatDl3
import Derived.Test.YtemdmdgigmhlbaaGreatJn19
set_option linter.unusedSimpArgs false
set_option linter.unusedVariables false
namespace Go.Proofs.YtemdmdgigmhlbaaGreat
open Go.RowKit Go.Qc Go.Shelf
attribute [local go_sem] txt_size txt_append ib_fold

/-- The cells of a log. -/
def lgC (D e : Nat) (C : List UInt8) : Array Value := (Value.pointer (some ⟨D, 0, none⟩) :: .int .i64 (e : Int) :: C.map u8v).toArray
theorem lgC_size (D e : Nat) {C : List UInt8} (h : C.length = 32) : (lgC D e C).size = 34 := by simp [lgC, h]
theorem lg_range {W : World} {g D e : Nat} {C : List UInt8} (h : Blk W g 63 (lgC D e C)) : W.rangeAt g 2 (C.map u8v) := fun j v hj => h.cell_ (i := 2 + j) (by
  unfold lgC
  rw [List.getElem?_toArray, Nat.add_comm, List.getElem?_cons_succ, List.getElem?_cons_succ]
  exact hj)
theorem blk_neLg {W : World} {a b : Nat} {s t : TypeId} {x y : Array Value} (h : Blk W a s x) (k : Blk W b t y) (hne : s ≠ t) : a ≠ b := by
  rintro rfl
  have e := Option.some.inj ((show W.heap[a]? = _ from h).symm.trans k)
  injection e with _ e2 _
  exact hne e2
theorem lg_c0 {W : World} {g D e : Nat} {C : List UInt8} (h : Blk W g 63 (lgC D e C)) : W.cell? ⟨g, 0, none⟩ = some (.pointer (some ⟨D, 0, none⟩)) := h.cell_ (i := 0) rfl
theorem lg_c1 {W : World} {g D e : Nat} {C : List UInt8} (h : Blk W g 63 (lgC D e C)) : W.cell? ⟨g, 1, none⟩ = some (.int .i64 (e : Int)) := h.cell_ (i := 1) rfl
theorem run_partL {P : Program} {w : World} {g i : Nat} {old vs : Array Value} {t ty : TypeId} (hg : Blk w g t old) (hi : (P.info? ty).map (·.size) = some vs.size) (hs : i + vs.size ≤ old.size) (h1 : vs.all (·.oneCell') = true) :
    (Instr.storeAt ty (.pointer (some ⟨g, i, none⟩)) (.agg vs)).run P w = .ok () (w.setRow g (over old i vs.toList)) := by
  have hst := run_storeCells_at P g i t vs.toList 0 old w hg (by simpa using hs) (fun v hv => (Array.all_eq_true_iff_forall_mem.1 h1) v (by simpa using hv))
  simp only [Nat.add_zero] at hst
  cases hq : P.info? ty with
  | none => simp [hq] at hi
  | some j =>
    have hsz : vs.size = j.size := by simp [hq] at hi; omega
    simp [Instr.storeAt, Instr.sureAddr, storeVar, sizeOf, typeInfo, hq, Value.cells, hsz]
    rw [hst]; simp [over]
theorem wp_store_partL {P : Program} {w : World} {o : Oper} {a : Act} {K : Act → World → Prop} {Q : Exit → Act → World → Prop} (ty : TypeId) (x y : Operand) (ho : o.op = .store ty x y)
    (g i : Nat) (old vs : Array Value) (t : TypeId) (hg : Blk w g t old) (hx : a.eval x = .pointer (some ⟨g, i, none⟩)) (hy : a.eval y = .agg vs) (hi : (P.info? ty).map (·.size) = some vs.size) (hs : i + vs.size ≤ old.size) (h1 : vs.all (·.oneCell') = true)
    (h : ∀ w', Blk w' g t (over old i vs.toList) → w.grownBy w' (some g) → K (a.put o.dst undef) w') : o.wp P a w K Q := by
  obtain ⟨hb, hgr⟩ := blk_over hg (over old i vs.toList)
  have hr := run_partL (P := P) (ty := ty) hg hi hs h1
  unfold Oper.wp
  simp only [execOp, ho, hx, hy]
  simp only [Sem.run_bind, hr, Result.andThen, Sem.run_pure]
  exact h _ hb hgr
theorem over_lgE (D e e' : Nat) (C : List UInt8) : over (lgC D e C) 1 [.int .i64 (e' : Int)] = lgC D e' C := by simp [over, lgC]
theorem over_lgC (D e : Nat) {C C' : List UInt8} (h : C.length = 32) (h' : C'.length = 32) : over (lgC D e C) 2 (C'.map u8v) = lgC D e C' := by
  simp [over, lgC, h, h']
theorem infoIntLg : (Tryz.prog.info? 3).map (·.size) = some 1 := by kernel_rfl
theorem wp_store_lgE {w : World} {o : Oper} {a : Act} {K : Act → World → Prop} {Q : Exit → Act → World → Prop} (x y : Operand) (ho : o.op = .store 3 x y)
    (g D e e' : Nat) (C : List UInt8) (hg : Blk w g 63 (lgC D e C)) (hx : a.eval x = .pointer (some ⟨g, 1, none⟩)) (hy : a.eval y = .int .i64 (e' : Int))
    (h : ∀ w', Blk w' g 63 (lgC D e' C) → w.grownBy w' (some g) → K (a.put o.dst undef) w') : o.wp Tryz.prog a w K Q :=
  wp_store_cellM' 3 x y ho g 1 _ _ hg (.int .i64 (e' : Int)) hx hy infoIntLg (by simp [lgC]) rfl rfl fun w' hb hgr => h w' (by rw [← over_lgE D e e' C]; exact hb) hgr
theorem wp_store_lgC {w : World} {o : Oper} {a : Act} {K : Act → World → Prop} {Q : Exit → Act → World → Prop} (x y : Operand) (ho : o.op = .store 42 x y)
    (g D e : Nat) (C C' : List UInt8) (hC : C.length = 32) (hC' : C'.length = 32) (hg : Blk w g 63 (lgC D e C)) (hx : a.eval x = .pointer (some ⟨g, 2, none⟩)) (hy : a.eval y = .agg (C'.map u8v).toArray)
    (h : ∀ w', Blk w' g 63 (lgC D e C') → w.grownBy w' (some g) → K (a.put o.dst undef) w') : o.wp Tryz.prog a w K Q :=
  wp_store_partL 42 x y ho g 2 _ _ _ hg hx hy (by rw [List.size_toArray, List.length_map, hC']; exact sizeId) (by rw [lgC_size D e hC]; simp [hC']) (idVals_one C') fun w' hb hgr => h w' (by rw [← over_lgC D e hC hC']; simpa using hb) hgr
/-- A disk with power, of which what waits comes to what is seen. -/
def DJ (base D : Nat) (s : List UInt8) (nw : Nat) (W : World) : Prop :=
  ∃ kv sv wv k ws, DkS base D kv sv wv k s ws false W ∧ applyW k ws = s ∧ ws.length ≤ nw ∧ k.length ≤ 100000 ∧ ∀ x ∈ ws, x.p + x.t.length ≤ 100000
theorem DJ.below {base D : Nat} {s : List UInt8} {nw : Nat} {W W' : World} (h : DJ base D s nw W) (hb : Below W.heap.size W W') : DJ base D s nw W' := by
  obtain ⟨kv, sv, wv, k, ws, h1, h2⟩ := h
  exact ⟨kv, sv, wv, k, ws, h1.below hb, h2⟩
theorem DJ.bs {base D : Nat} {s : List UInt8} {nw : Nat} {W : World} (h : DJ base D s nw W) : base ≤ W.heap.size := by
  obtain ⟨kv, sv, wv, k, ws, h1, _⟩ := h
  exact h1.r.bs
theorem DJ.le {base D : Nat} {s : List UInt8} {nw nw' : Nat} {W : World} (h : DJ base D s nw W) (hn : nw ≤ nw') : DJ base D s nw' W := by
  obtain ⟨kv, sv, wv, k, ws, h1, h2, h3, h4⟩ := h
  exact ⟨kv, sv, wv, k, ws, h1, h2, Nat.le_trans h3 hn, h4⟩
theorem applyW_add {k s : List UInt8} {ws : List WrD} (h : applyW k ws = s) (t : List UInt8) : applyW k (addW s t ws) = s ++ t := by
  unfold addW
  by_cases ht : t = []
  · rw [if_pos ht, h, ht, List.append_nil]
  · rw [if_neg ht]
    unfold applyW at h ⊢
    rw [List.foldl_append, h]
    exact putL_end s t
theorem jlen_any {base D : Nat} {s : List UInt8} {nw : Nat} (W : World) (h : DJ base D s nw W) :
    Calls Tryz.prog 17 #[.pointer (some ⟨D, 0, none⟩)] W fun e w' => e = .returned (.int .i64 (s.length : Int)) ∧ W = w' := by
  obtain ⟨kv, sv, wv, k, ws, h1, _⟩ := h
  exact dlen_any _ _ _ _ _ _ _ _ _ _ h1
theorem jdall_any {base D : Nat} {s : List UInt8} {nw : Nat} (W : World) (h : DJ base D s nw W) :
    Calls Tryz.prog 13 #[.pointer (some ⟨D, 0, none⟩)] W fun e w' => e = .returned (.string (txt s)) ∧ W = w' := by
  obtain ⟨kv, sv, wv, k, ws, h1, _⟩ := h
  exact dall_any _ _ _ _ _ _ _ _ _ _ h1
theorem jdown_any {base D : Nat} {s : List UInt8} {nw : Nat} (W : World) (h : DJ base D s nw W) :
    Calls Tryz.prog 25 #[.pointer (some ⟨D, 0, none⟩)] W fun e w' => e = .returned (.bool false) ∧ W = w' := by
  obtain ⟨kv, sv, wv, k, ws, h1, _⟩ := h
  exact ddown_any _ _ _ _ _ _ _ _ _ _ h1
theorem jwrite_any {base D : Nat} {s : List UInt8} {nw : Nat} (t : List UInt8) (hs : s.length ≤ 50000) (hn : nw + 1 ≤ 1000) (ht : t.length ≤ 1000) (W : World) (h : DJ base D s nw W) :
    Calls Tryz.prog 15 #[.pointer (some ⟨D, 0, none⟩), .int .i64 (s.length : Int), .string (txt t)] W fun e w' => e = .returned (.int .i64 0) ∧ DJ base D (s ++ t) (nw + 1) w' ∧ BlD base W w' := by
  obtain ⟨kv, sv, wv, k, ws, h1, h2, h3, h4, h5⟩ := h
  refine (eWrite_any base D kv sv wv k s ws (by omega) (by omega) t ht W h1).mono ?_
  rintro e w' ⟨g1, sv', wv', g2, g3⟩
  refine ⟨g1, ⟨kv, sv', wv', k, _, g2, applyW_add h2 t, ?_, h4, ?_⟩, g3⟩
  · unfold addW; split
    · omega
    · rw [List.length_append]; simp; omega
  · intro x hx
    unfold addW at hx
    split at hx
    · exact h5 x hx
    · rcases List.mem_append.1 hx with hx | hx
      · exact h5 x hx
      · rw [List.mem_singleton.1 hx]; simp only; omega
theorem jcut_any {base D : Nat} {s : List UInt8} {nw : Nat} (m : Nat) (hm : m ≤ s.length) (hs : s.length ≤ 50000) (hn : nw ≤ 1000) (W : World) (h : DJ base D s nw W) :
    Calls Tryz.prog 26 #[.pointer (some ⟨D, 0, none⟩), .int .i64 (m : Int)] W fun e w' => e = .returned (.int .i64 0) ∧ DJ base D (s.take m) nw w' ∧ BlD base W w' := by
  obtain ⟨kv, sv, wv, k, ws, h1, h2, h3, h4, h5⟩ := h
  refine (eCut_any m base D kv sv wv k s ws (by omega) (by omega) (fun x hx => Nat.le_trans (h5 x hx) (by decide)) (by omega) h2 hm W h1).mono ?_
  rintro e w' ⟨g1, kv', sv', g2, g3⟩
  exact ⟨g1, ⟨kv', sv', _, _, _, g2, rfl, Nat.zero_le _, by rw [List.length_take]; omega, by simp⟩, g3⟩
theorem jsync_any {base D : Nat} {s : List UInt8} {nw : Nat} (hs : s.length ≤ 50000) (hn : nw ≤ 1000) (W : World) (h : DJ base D s nw W) :
    Calls Tryz.prog 33 #[.pointer (some ⟨D, 0, none⟩)] W fun e w' => e = .returned (.int .i64 0) ∧ (∃ kv' sv', DkS base D kv' sv' (.slice none 0 0) s s [] false w') ∧ BlD base W w' := by
  obtain ⟨kv, sv, wv, k, ws, h1, h2, h3, h4, h5⟩ := h
  refine (eSync_any base D kv sv wv k s ws (by omega) (by omega) (fun x hx => Nat.le_trans (h5 x hx) (by decide)) (by omega) h2 W h1).mono ?_
  rintro e w' ⟨g1, kv', sv', g2, g3⟩
  rw [List.take_length] at g2
  exact ⟨g1, ⟨kv', sv', g2⟩, g3⟩
/-- What a call on a log leaves alone besides: logs' boxes may change. -/
def lts : List TypeId := [5, 72, 60, 63]
def BlL (base : Nat) (W w' : World) : Prop := Below base W w' ∧ KpT lts W w'
theorem BlL.refl (base : Nat) (W : World) : BlL base W W := ⟨Below.refl base W, KpT.refl _ W⟩
theorem BlL.ofD {base : Nat} {a b : World} (h : BlD base a b) : BlL base a b := ⟨h.1, h.2.more (by intro T hT; simp [dts] at hT; simp [lts]; rcases hT with h | h | h <;> simp [h])⟩
theorem BlL.ofB {base : Nat} {a b : World} (h : Below a.heap.size a b) (hb : base ≤ a.heap.size) : BlL base a b := ⟨h.mono hb, KpT.ofB h⟩
theorem BlL.tr {base : Nat} {a b c : World} (h : BlL base a b) (k : BlL base b c) : BlL base a c := ⟨h.1.trans k.1, h.2.trans k.2⟩
theorem BlL.box {base g : Nat} {a b : World} {cs : Array Value} (hg : a.grownBy b (some g)) (hx : Blk a g 63 cs) (hd : base ≤ g) (hb : base ≤ a.heap.size) : BlL base a b :=
  ⟨below_of_gbr hg (fun q e => by have := Option.some.inj e; omega) hb, KpT.gr hg (fun q e => by
    obtain rfl := Option.some.inj e
    exact ⟨cs, _, (0, 0), hx, by simp [lts]⟩)⟩
end Go.Proofs.YtemdmdgigmhlbaaGreat

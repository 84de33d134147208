
/- Two rows merged. -/
import Derived.Test.YtkbokffonnjjiaaIdA
import Derived.Shelf.SlSortCmp.QuietGrown
namespace Go.Proofs.Ytkbokffonnjjiaa
open Go.RowKit Go.Qc
attribute [local go_sem] txt_size txt_append ib_fold ib_i64

theorem infoId : (Try.prog.info? 24).map (fun i => (i.size, i.bytes)) = some (32, 32) := by kernel_rfl
theorem infoId2 : (Try.prog.info? 24).map (fun i => (i.zero, i.size, i.bytes)) = some (some (.agg (idVals zeroB)), 32, 32) := by kernel_rfl
theorem infoId2_parts : ∃ i, Try.prog.info? 24 = some i ∧ i.zero = some (.agg (idVals zeroB)) ∧ i.size = 32 ∧ i.bytes = 32 := by
  have h := infoId2
  cases hq : Try.prog.info? 24 with
  | none => rw [hq] at h; cases h
  | some i => rw [hq] at h; simp at h; exact ⟨i, rfl, h.1, h.2.1, h.2.2⟩
theorem infoId_parts : ∃ i, Try.prog.info? 24 = some i ∧ i.size = 32 ∧ i.bytes = 32 := by
  have h := infoId
  cases hq : Try.prog.info? 24 with
  | none => rw [hq] at h; cases h
  | some i => rw [hq] at h; simp at h; exact ⟨i, rfl, h.1, h.2⟩
theorem run_slice_next (g o n c : Nat) (hn : 1 ≤ n) (hc : n ≤ c) (_hm : c ≤ maxLen) : ∃ X : Addr, (1 < n → X = ⟨g, o + 32, none⟩) ∧ ∀ W : World, (Instr.sliceAt 22 (.slice (some ⟨g, o, none⟩) n c) (some (.int .i64 1)) none none).run Try.prog W = .ok (.slice (some X) (n - 1) (c - 1)) W := by
  refine ⟨if c = 1 then ⟨g, o, none⟩ else ⟨g, o + 32, none⟩, fun h => by rw [if_neg (by omega)], fun W => ?_⟩
  obtain ⟨i0, hi, h32, _⟩ := infoId_parts
  have h1 : (0 : Int) ≤ 1 ∧ (1 : Int) ≤ (n : Int) := by omega
  simp [Instr.sliceAt, Instr.slice, Instr.sliceBounds, run_underlying Try.underlying22, run_sliceBound, h1, sizeOf, typeInfo, hi, h32, Addr.add_lit]
  split <;> rfl
theorem IdRd.uncons {w : World} {A : Option Addr} {a : List UInt8} {t : List (List UInt8)} (h : IdRd w A (a :: t)) (n c : Nat) (hn : (a :: t).length = n) (hc : n ≤ c) (hm : c ≤ maxLen) :
    ∃ g o X, A = some ⟨g, o, none⟩ ∧ w.rangeAt g o (a.map u8v) ∧ a.length = 32 ∧ (∀ W : World, (Instr.sliceAt 22 (.slice (some ⟨g, o, none⟩) n c) (some (.int .i64 1)) none none).run Try.prog W = .ok (.slice (some X) (n - 1) (c - 1)) W) ∧ IdRd w (some X) t := by
  obtain ⟨h1, h2⟩ := h
  rcases h2 with h2 | ⟨g, o, rfl, hr⟩
  · cases h2
  · have ha := h1 a (by simp)
    obtain ⟨X, hX, hrun⟩ := run_slice_next g o n c (by rw [← hn]; simp) hc hm
    refine ⟨g, o, X, rfl, fun j v hj => hr j v ?_, ha, hrun, fun x hx => h1 x (by simp [hx]), ?_⟩
    · rw [idsV_cons, List.getElem?_append_left (List.getElem?_eq_some_iff.1 hj).1]; exact hj
    · cases t with
      | nil => exact .inl rfl
      | cons b t =>
        refine .inr ⟨g, o + 32, congrArg some (hX (by rw [← hn]; simp)), fun j v hj => ?_⟩
        rw [Nat.add_assoc]
        refine hr _ v ?_
        rw [idsV_cons, List.getElem?_append_right (by rw [List.length_map, ha]; omega), List.length_map, ha, show 32 + j - 32 = j by omega]
        exact hj
theorem two_grow (w : World) (a b : List UInt8) : two w a b = Go.Sort.grow w #[.cells (idVals a) 24, .cells (idVals b) 24] := by
  unfold two
  rw [Go.Sort.alloc_eq_grow, Go.Sort.alloc_eq_grow, Go.Sort.grow_grow]
  rfl
theorem order_grow (a b : List UInt8) (ha : a.length = 32) (hb : b.length = 32) (w : World) :
    Calls Try.prog 91 #[.agg (a.map u8v).toArray, .agg (b.map u8v).toArray] w fun e w' => e = .returned (.int .i64 (Lib.compareBytes a b)) ∧ ∃ q os, w' = Go.Sort.grow (w.drewN q) os :=
  (order_any a b ha hb w).mono (by
    rintro e w' ⟨h1, q, rfl⟩
    exact ⟨h1, q, _, by rw [two_grow]; rfl⟩)
theorem below_grown2 {w : World} (n : Nat) (os : Array Obj) : Below w.heap.size w (Go.Sort.grow (w.drewN n) os) :=
  ⟨(Below.refl w.heap.size w).os, (Below.refl w.heap.size w).tape, (Below.refl w.heap.size w).output, by simp [Go.Sort.grow], fun j hj => Go.Sort.heap_grow_old (w.drewN n) os hj⟩
theorem wpQuiet_skip {P : Program} {ops : Array Oper} {C : World → Prop} {Q : Act → Prop} {rest : List Oper} {o : Oper} {a : Act} (hw : Region.wanted o (yielded ops a.tmps) = false)
    (h : wpQuiet P ops C Q rest (a.put o.dst undef)) : wpQuiet P ops C Q (o :: rest) a :=
  wpQuiet_step fun K hK => by
    rw [if_neg (by rw [hw]; decide)]
    exact hK _ h
/-- A row of cells loaded in a region that only reads. -/
theorem wpQuiet_load_if {P : Program} {ops : Array Oper} {C : World → Prop} {Q : Act → Prop} {rest : List Oper} {o : Oper} {a : Act} (hw : Region.wanted o (yielded ops a.tmps) = true) (ty : TypeId) (x : Operand) (ho : o.op = .load ty x)
    (b off : Nat) (hx : a.eval x = .pointer (some ⟨b, off, none⟩)) (cs : List Value) (d : TypeDesc) (hc : ∀ w, C w → w.rangeAt b off cs)
    (hu : P.underlying ty = some d) (hd : d.isRow = true) (hi : (P.info? ty).map (·.size) = some cs.length)
    (h : wpQuiet P ops C Q rest (a.put o.dst (.agg cs.toArray))) : wpQuiet P ops C Q (o :: rest) a :=
  wpQuiet_step fun K hK => by
    rw [if_pos hw]
    refine ⟨_, fun w hw' => ?_, hK _ h⟩
    unfold Oper.quietAt execOp
    simp only [ho, hx, Instr.loadAt, Instr.sureAddr, Sem.run_bind, Sem.run_pure, Result.andThen_ok, run_loadVar_mid w b off ty cs d (hc w hw') hu hd hi]
    exact ⟨rfl, rfl⟩
theorem range_gb {w w' : World} {g o k : Nat} {cs : List Value} (h : w.rangeAt g o cs) (hg : w.grownBy w' (some k)) (hne : g ≠ k) : w'.rangeAt g o cs := fun j v hj => by
  have hc := h j v hj
  have hlt := World.block_lt_of_cell? w _ hc
  have := hg.block g hlt (by simpa using hne)
  unfold World.cell? at hc ⊢
  simp only [this]
  exact hc
end Go.Proofs.Ytkbokffonnjjiaa

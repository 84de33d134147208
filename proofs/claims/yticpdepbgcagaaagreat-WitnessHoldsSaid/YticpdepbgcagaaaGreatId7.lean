/- Two rows merged. -/
import Derived.Test.YticpdepbgcagaaaGreatIdA
import Derived.Shelf.SlSortCmp.QuietGrown
namespace Go.Proofs.YticpdepbgcagaaaGreat
open Go.RowKit Go.Qc
attribute [local go_sem] txt_size txt_append ib_fold ib_i64

theorem infoId : (Tryz.prog.info? 24).map (fun i => (i.size, i.bytes)) = some (32, 32) := by kernel_rfl
theorem infoId2 : (Tryz.prog.info? 24).map (fun i => (i.zero, i.size, i.bytes)) = some (some (.agg (idVals zeroB)), 32, 32) := by kernel_rfl
theorem infoId2_parts : ∃ i, Tryz.prog.info? 24 = some i ∧ i.zero = some (.agg (idVals zeroB)) ∧ i.size = 32 ∧ i.bytes = 32 := by
  have h := infoId2
  cases hq : Tryz.prog.info? 24 with
  | none => rw [hq] at h; cases h
  | some i => rw [hq] at h; simp at h; exact ⟨i, rfl, h.1, h.2.1, h.2.2⟩
theorem infoId_parts : ∃ i, Tryz.prog.info? 24 = some i ∧ i.size = 32 ∧ i.bytes = 32 := by
  have h := infoId
  cases hq : Tryz.prog.info? 24 with
  | none => rw [hq] at h; cases h
  | some i => rw [hq] at h; simp at h; exact ⟨i, rfl, h.1, h.2⟩
theorem wpQuiet_skip {P : Program} {ops : Array Oper} {C : World → Prop} {Q : Act → Prop} {rest : List Oper} {o : Oper} {a : Act} (hw : Region.wanted o (yielded ops a.tmps) = false)
    (h : wpQuiet P ops C Q rest (a.put o.dst undef)) : wpQuiet P ops C Q (o :: rest) a :=
  wpQuiet_step fun K hK => by
    rw [if_neg (by rw [hw]; decide)]
    exact hK _ h
/-- A row of cells loaded in a region that only reads. -/
theorem wpQuiet_load_if {P : Program} {ops : Array Oper} {C : World → Prop} {Q : Act → Prop} {rest : List Oper} {o : Oper} {a : Act} (hw : Region.wanted o (yielded ops a.tmps) = true) (ty : TypeId) (x : Operand) (ho : o.op = .load ty x)
    (b off : Nat) (hx : a.eval x = .pointer (some ⟨b, off, none⟩)) (cs : List Value) (d : TypeDesc) (hc : ∀ w, C w → w.rangeAt b off cs)
    (hu : P.underlying ty = some d) (hd : d.isRow = true) (hi : (P.info? ty).map (·.size) = some cs.length)
    (h : wpQuiet P ops C Q rest (a.put o.dst (.agg cs.toArray))) : wpQuiet P ops C Q (o :: rest) a :=
  wpQuiet_step fun K hK => by
    rw [if_pos hw]
    refine ⟨_, fun w hw' => ?_, hK _ h⟩
    unfold Oper.quietAt execOp
    simp only [ho, hx, Instr.loadAt, Instr.sureAddr, Sem.run_bind, Sem.run_pure, Result.andThen_ok, run_loadVar_mid w b off ty cs d (hc w hw') hu hd hi]
    exact ⟨rfl, rfl⟩
theorem range_lt {w : World} {g o : Nat} {a : List UInt8} (h : w.rangeAt g o (a.map u8v)) (ha : a.length = 32) : g < w.heap.size := by
  obtain ⟨x, hx⟩ : ∃ x, a[0]? = some x := ⟨_, List.getElem?_eq_getElem (by omega)⟩
  exact World.block_lt_of_cell? w _ (h 0 (u8v x) (by rw [List.getElem?_map, hx]; rfl))
theorem range_gb {w w' : World} {g o k : Nat} {cs : List Value} (h : w.rangeAt g o cs) (hg : w.grownBy w' (some k)) (hne : g ≠ k) : w'.rangeAt g o cs := fun j v hj => by
  have hc := h j v hj
  have hlt := World.block_lt_of_cell? w _ hc
  have := hg.block g hlt (by simpa using hne)
  unfold World.cell? at hc ⊢
  simp only [this]
  exact hc
end Go.Proofs.YticpdepbgcagaaaGreat
/- Union, Minus, Both; the chapter's example. -/
namespace Go.Proofs.YticpdepbgcagaaaGreat
open Go.RowKit Go.Qc
attribute [local go_sem] txt_size txt_append ib_fold ib_i64

/-- A row of ids, in hand: not more than a million, read where it lies. -/
def RowAt (w : World) (A : Option Addr) (n c : Nat) (l : List (List UInt8)) : Prop := l.length = n ∧ n ≤ c ∧ c ≤ maxLen ∧ n ≤ 1000000 ∧ IdRd w A l
end Go.Proofs.YticpdepbgcagaaaGreat
/- Regions that draw their order, read, and call what leaves old blocks alone; ids stored into new variables. -/
namespace Go.Proofs.YticpdepbgcagaaaGreat
open Go.RowKit Go.Qc

/-- A world behind W: what W held lies there still. -/
structure LaterW (W : World) where
  w : World
  h : Below W.heap.size W w
instance (W : World) : Inhabited (LaterW W) := ⟨⟨W, Below.refl _ _⟩⟩
theorem wp_region_later {P : Program} {id : Nat} {Q : Exit → Act → World → Prop} {a : Act} {w : World} {l : List Oper} (hm : P.follows .mixedOrders = true) (hB : Region.lexB .any l.toArray = true)
    (h : wpQuiet P l.toArray (fun w' => ∃ p : LaterW w, w' = p.w) (fun a' => ∀ w', (∃ p : LaterW w, w' = p.w) → Q .normal a' w') l a) : (Code.region id l.toArray true).wp P Q a w :=
  wp_region_quiet (C := fun w' => ∃ p : LaterW w, w' = p.w) hm hB ⟨⟨w.drew, below_drew1 w⟩, rfl⟩ (by simpa using h)
theorem later_of {P : Program} {f : FuncId} {args : Array Value} {W : World} {p : LaterW W} {v : Value} (h : Calls P f args p.w fun e w'' => e = .returned v ∧ Below p.w.heap.size p.w w'') :
    Calls P f args p.w fun e w'' => e = .returned v ∧ ∃ p' : LaterW W, w'' = p'.w :=
  h.mono fun _ w'' ⟨he, hb⟩ => ⟨he, ⟨w'', p.h.trans (hb.mono p.h.size)⟩, rfl⟩
theorem range_later {w : World} {g o : Nat} {cs : List Value} (h : w.rangeAt g o cs) : ∀ w', (∃ p : LaterW w, w' = p.w) → w'.rangeAt g o cs := by
  rintro w' ⟨p, rfl⟩
  exact h.below p.h
/-- An id stored into a variable that has just been made. -/
theorem wpList_store_newid {w : World} {ops : Array Oper} {rest : List Oper} {o : Oper} {a : Act} {Q : Exit → Act → World → Prop} {old : Array Value} (hgd : o.guard = none) (x y : Operand) (ho : o.op = .store 24 x y)
    (l : List UInt8) (hl : l.length = 32) (hx : a.eval x = .pointer (some ⟨w.heap.size, 0, none⟩)) (hy : a.eval y = .agg (idVals l)) (hs : old.size = 32)
    (h : ∀ w', w'.rangeAt w.heap.size 0 (l.map u8v) → Below w.heap.size w w' → wpList Tryz.prog ops Q rest (a.put o.dst undef) w') : wpList Tryz.prog ops Q (o :: rest) a (w.alloc (.cells old 24)) :=
  wpList_store_blk hgd 24 x y ho w.heap.size old (idVals l) 24 (Blk.new _ _ _) hx hy (by rw [idVals_size, hl]; exact sizeId) (by rw [hs, idVals_size, hl]) (idVals_one _) fun w' hb hg => h w' (range_blk hb) (below_new hg)
end Go.Proofs.YticpdepbgcagaaaGreat

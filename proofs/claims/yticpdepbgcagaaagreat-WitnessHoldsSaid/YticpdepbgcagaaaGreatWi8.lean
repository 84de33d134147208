
/- witness: a witness as data; Find, of params that may not be, and of what doesn't fit. -/
import Derived.Test.YticpdepbgcagaaaGreatWi7
set_option linter.unusedSimpArgs false
set_option linter.unusedVariables false
namespace Go.Proofs.YticpdepbgcagaaaGreat
open Go.RowKit Go.Qc Go.Shelf
attribute [local go_sem] txt_size txt_append ib_fold
theorem yieldsIf_build_byW {ops : Array Oper} {S : World → Prop} {op : Oper} {a : Act} (hw : Region.wanted op (yielded ops a.tmps) = true) (ty : TypeId) (parts : Array (Nat × Operand)) (ho : op.op = .build ty parts)
    (ps : Array (Nat × Value)) (v : Value) (hb : ∀ W, (Instr.build ty ps).run Tryz.prog W = .ok v W) (hp : (parts.map fun (i, x) => (i, a.eval x)) = ps) : YieldsIf Tryz.prog ops S op v a :=
  .inl ⟨hw, fun w _ => by
    have hr := hb w
    rw [← hp] at hr
    unfold execOp
    simp only [ho]
    simp only [Sem.run_bind, hr, Result.andThen, Sem.run_pure]⟩
theorem wpList_build_byW {w : World} {ops : Array Oper} {rest : List Oper} {o : Oper} {a : Act} {Q : Exit → Act → World → Prop} (hgd : o.guard = none) (ty : TypeId) (parts : Array (Nat × Operand)) (ho : o.op = .build ty parts)
    (ps : Array (Nat × Value)) (v : Value) (hb : ∀ W, (Instr.build ty ps).run Tryz.prog W = .ok v W) (hp : (parts.map fun (i, x) => (i, a.eval x)) = ps)
    (h : wpList Tryz.prog ops Q rest (a.put o.dst v) w) : wpList Tryz.prog ops Q (o :: rest) a w := by
  refine wpList_plain hgd fun K' hK' => ?_
  have hr := hb w
  rw [← hp] at hr
  unfold Oper.wp
  simp only [execOp, ho]
  simp only [Sem.run_bind, hr, Result.andThen, Sem.run_pure]
  exact hK' _ _ h
/-- A witness's cells. -/
def wtC (k : Int) (x y : ByteArray) (l b s : Int) (V : List UInt8) : Array Value := #[.int .i64 k, .string x, .string y, .int .i64 l, .int .i64 b, .int .i64 s] ++ idVals V
theorem wtC_size (k : Int) (x y : ByteArray) (l b s : Int) {V : List UInt8} (h : V.length = 32) : (wtC k x y l b s V).size = 38 := by unfold wtC; simp [idVals_size, h]
theorem wtC_one (k : Int) (x y : ByteArray) (l b s : Int) (V : List UInt8) : (wtC k x y l b s V).all (·.oneCell') = true := by
  unfold wtC
  rw [Array.all_append, idVals_one]
  simp [Value.oneCell']
theorem infoWt : (Tryz.prog.info? 32).map (·.size) = some 38 := by kernel_rfl
theorem wtC_info (k : Int) (x y : ByteArray) (l b s : Int) {V : List UInt8} (h : V.length = 32) : (Tryz.prog.info? 32).map (·.size) = some (wtC k x y l b s V).size := by rw [wtC_size k x y l b s h]; exact infoWt
def wt0 : Array Value := wtC 0 ⟨#[]⟩ ⟨#[]⟩ 0 0 0 zeroB
def wt1 : Array Value := wtC 1 ⟨#[]⟩ ⟨#[]⟩ 0 0 0 zeroB
def wt2 (x y : ByteArray) : Array Value := wtC 2 x y 0 0 0 zeroB
def wt3 (l b s : Int) (V : List UInt8) : Array Value := wtC 3 ⟨#[]⟩ ⟨#[]⟩ l b s V
theorem wt_build0 (W : World) : (Instr.build 32 #[]).run Tryz.prog W = .ok (.agg wt0) W := by kernel_rfl
theorem wt_build1 (W : World) : (Instr.build 32 #[(0, .int .i64 1)]).run Tryz.prog W = .ok (.agg wt1) W := by kernel_rfl
theorem wt_build2 (x y : ByteArray) (W : World) : (Instr.build 32 #[(0, .int .i64 2), (1, .string x), (2, .string y)]).run Tryz.prog W = .ok (.agg (wt2 x y)) W := by kernel_rfl
theorem wt_build3 (l b s : Int) (K : List UInt8) (hK : K.length = 32) (W : World) : (Instr.build 32 #[(0, .int .i64 3), (3, .int .i64 l), (4, .int .i64 b), (5, .int .i64 s), (6, .agg (List.map u8v K).toArray)]).run Tryz.prog W = .ok (.agg (wt3 l b s K)) W := by
  obtain ⟨x0, x1, x2, x3, x4, x5, x6, x7, x8, x9, x10, x11, x12, x13, x14, x15, x16, x17, x18, x19, x20, x21, x22, x23, x24, x25, x26, x27, x28, x29, x30, x31, rfl⟩ := list32 K hK
  kernel_rfl
/-- Find's boxes: the params, the sum, the signature, the answer. -/
structure FdS (w : World) (b h L : Int) (a : List UInt8) (v1 v2 v3 : Value) (zc : Array Value) (W : World) : Prop where
  par : Blk W w.heap.size 29 #[.int .i64 b, .int .i64 h]
  id_ : Blk W (w.heap.size + 1) 24 (idVals a)
  sig : Blk W (w.heap.size + 1 + 1) 27 #[.int .i64 L, v1, v2, v3]
  res : Blk W (w.heap.size + 1 + 1 + 1) 32 zc
  z38 : zc.size = 38
  b_ : Below w.heap.size w W
theorem FdS.below {w W W' : World} {b h L : Int} {a : List UInt8} {v1 v2 v3 : Value} {zc : Array Value} (k : FdS w b h L a v1 v2 v3 zc W) (hb : Below W.heap.size W W') : FdS w b h L a v1 v2 v3 zc W' :=
  ⟨k.par.below hb, k.id_.below hb, k.sig.below hb, k.res.below hb, k.z38, k.b_.trans (hb.mono k.b_.size)⟩
theorem FdS.new (w : World) (b h L : Int) (a : List UInt8) (v1 v2 v3 : Value) (zc : Array Value) (hz : zc.size = 38) : FdS w b h L a v1 v2 v3 zc ((((w.alloc (.cells #[.int .i64 b, .int .i64 h] 29)).alloc (.cells (idVals a) 24)).alloc (.cells #[.int .i64 L, v1, v2, v3] 27)).alloc (.cells zc 32)) := by
  have h1 := (Below.refl w.heap.size w).alloc (Nat.le_refl _) (.cells #[.int .i64 b, .int .i64 h] 29)
  have h2 := h1.alloc h1.size (.cells (idVals a) 24)
  have h3 := h2.alloc h2.size (.cells #[.int .i64 L, v1, v2, v3] 27)
  have h4 := h3.alloc h3.size (.cells zc 32)
  have B1 := (((Blk.new w 29 #[.int .i64 b, .int .i64 h]).alloc (.cells (idVals a) 24)).alloc (.cells #[.int .i64 L, v1, v2, v3] 27)).alloc (.cells zc 32)
  have B2 := ((Blk.new (w.alloc (.cells #[.int .i64 b, .int .i64 h] 29)) 24 (idVals a)).alloc (.cells #[.int .i64 L, v1, v2, v3] 27)).alloc (.cells zc 32)
  have B3 := (Blk.new ((w.alloc (.cells #[.int .i64 b, .int .i64 h] 29)).alloc (.cells (idVals a) 24)) 27 #[.int .i64 L, v1, v2, v3]).alloc (.cells zc 32)
  have B4 := Blk.new (((w.alloc (.cells #[.int .i64 b, .int .i64 h] 29)).alloc (.cells (idVals a) 24)).alloc (.cells #[.int .i64 L, v1, v2, v3] 27)) 32 zc
  rw [World.size_alloc] at B2
  rw [World.size_alloc, World.size_alloc] at B3
  rw [World.size_alloc, World.size_alloc, World.size_alloc] at B4
  exact ⟨B1, B2, B3, B4, hz, h4⟩

end Go.Proofs.YticpdepbgcagaaaGreat

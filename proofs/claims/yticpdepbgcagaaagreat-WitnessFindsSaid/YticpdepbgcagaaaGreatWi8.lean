
/- witness: a witness as data; Find, of params that may not be, and of what doesn't fit. -/
import Derived.Test.YticpdepbgcagaaaGreatWi7
set_option linter.unusedSimpArgs false
set_option linter.unusedVariables false
namespace Go.Proofs.YticpdepbgcagaaaGreat
open Go.RowKit Go.Qc Go.Shelf
attribute [local go_sem] txt_size txt_append ib_fold
theorem yieldsIf_build_byW {ops : Array Oper} {S : World → Prop} {op : Oper} {a : Act} (hw : Region.wanted op (yielded ops a.tmps) = true) (ty : TypeId) (parts : Array (Nat × Operand)) (ho : op.op = .build ty parts)
    (ps : Array (Nat × Value)) (v : Value) (hb : ∀ W, (Instr.build ty ps).run Tryz.prog W = .ok v W) (hp : (parts.map fun (i, x) => (i, a.eval x)) = ps) : YieldsIf Tryz.prog ops S op v a :=
  .inl ⟨hw, fun w _ => by
    have hr := hb w
    rw [← hp] at hr
    unfold execOp
    simp only [ho]
    simp only [Sem.run_bind, hr, Result.andThen, Sem.run_pure]⟩
theorem wpList_build_byW {w : World} {ops : Array Oper} {rest : List Oper} {o : Oper} {a : Act} {Q : Exit → Act → World → Prop} (hgd : o.guard = none) (ty : TypeId) (parts : Array (Nat × Operand)) (ho : o.op = .build ty parts)
    (ps : Array (Nat × Value)) (v : Value) (hb : ∀ W, (Instr.build ty ps).run Tryz.prog W = .ok v W) (hp : (parts.map fun (i, x) => (i, a.eval x)) = ps)
    (h : wpList Tryz.prog ops Q rest (a.put o.dst v) w) : wpList Tryz.prog ops Q (o :: rest) a w := by
  refine wpList_plain hgd fun K' hK' => ?_
  have hr := hb w
  rw [← hp] at hr
  unfold Oper.wp
  simp only [execOp, ho]
  simp only [Sem.run_bind, hr, Result.andThen, Sem.run_pure]
  exact hK' _ _ h
/-- A witness's cells. -/
def wtC (k : Int) (x y : ByteArray) (l b s : Int) (V : List UInt8) : Array Value := #[.int .i64 k, .string x, .string y, .int .i64 l, .int .i64 b, .int .i64 s] ++ idVals V
theorem wtC_size (k : Int) (x y : ByteArray) (l b s : Int) {V : List UInt8} (h : V.length = 32) : (wtC k x y l b s V).size = 38 := by unfold wtC; simp [idVals_size, h]
theorem wtC_one (k : Int) (x y : ByteArray) (l b s : Int) (V : List UInt8) : (wtC k x y l b s V).all (·.oneCell') = true := by
  unfold wtC
  rw [Array.all_append, idVals_one]
  simp [Value.oneCell']
theorem infoWt : (Tryz.prog.info? 32).map (·.size) = some 38 := by kernel_rfl
theorem wtC_info (k : Int) (x y : ByteArray) (l b s : Int) {V : List UInt8} (h : V.length = 32) : (Tryz.prog.info? 32).map (·.size) = some (wtC k x y l b s V).size := by rw [wtC_size k x y l b s h]; exact infoWt
def wt0 : Array Value := wtC 0 ⟨#[]⟩ ⟨#[]⟩ 0 0 0 zeroB
def wt1 : Array Value := wtC 1 ⟨#[]⟩ ⟨#[]⟩ 0 0 0 zeroB
def wt2 (x y : ByteArray) : Array Value := wtC 2 x y 0 0 0 zeroB
def wt3 (l b s : Int) (V : List UInt8) : Array Value := wtC 3 ⟨#[]⟩ ⟨#[]⟩ l b s V
theorem wt_build0 (W : World) : (Instr.build 32 #[]).run Tryz.prog W = .ok (.agg wt0) W := by kernel_rfl
theorem wt_build1 (W : World) : (Instr.build 32 #[(0, .int .i64 1)]).run Tryz.prog W = .ok (.agg wt1) W := by kernel_rfl
theorem wt_build2 (x y : ByteArray) (W : World) : (Instr.build 32 #[(0, .int .i64 2), (1, .string x), (2, .string y)]).run Tryz.prog W = .ok (.agg (wt2 x y)) W := by kernel_rfl
theorem wt_build3 (l b s : Int) (K : List UInt8) (hK : K.length = 32) (W : World) : (Instr.build 32 #[(0, .int .i64 3), (3, .int .i64 l), (4, .int .i64 b), (5, .int .i64 s), (6, .agg (List.map u8v K).toArray)]).run Tryz.prog W = .ok (.agg (wt3 l b s K)) W := by
  obtain ⟨x0, x1, x2, x3, x4, x5, x6, x7, x8, x9, x10, x11, x12, x13, x14, x15, x16, x17, x18, x19, x20, x21, x22, x23, x24, x25, x26, x27, x28, x29, x30, x31, rfl⟩ := list32 K hK
  kernel_rfl
/-- Find's boxes: the params, the sum, the signature, the answer. -/
structure FdS (w : World) (b h L : Int) (a : List UInt8) (v1 v2 v3 : Value) (zc : Array Value) (W : World) : Prop where
  par : Blk W w.heap.size 29 #[.int .i64 b, .int .i64 h]
  id_ : Blk W (w.heap.size + 1) 24 (idVals a)
  sig : Blk W (w.heap.size + 1 + 1) 27 #[.int .i64 L, v1, v2, v3]
  res : Blk W (w.heap.size + 1 + 1 + 1) 32 zc
  z38 : zc.size = 38
  b_ : Below w.heap.size w W
theorem FdS.below {w W W' : World} {b h L : Int} {a : List UInt8} {v1 v2 v3 : Value} {zc : Array Value} (k : FdS w b h L a v1 v2 v3 zc W) (hb : Below W.heap.size W W') : FdS w b h L a v1 v2 v3 zc W' :=
  ⟨k.par.below hb, k.id_.below hb, k.sig.below hb, k.res.below hb, k.z38, k.b_.trans (hb.mono k.b_.size)⟩
theorem FdS.new (w : World) (b h L : Int) (a : List UInt8) (v1 v2 v3 : Value) (zc : Array Value) (hz : zc.size = 38) : FdS w b h L a v1 v2 v3 zc ((((w.alloc (.cells #[.int .i64 b, .int .i64 h] 29)).alloc (.cells (idVals a) 24)).alloc (.cells #[.int .i64 L, v1, v2, v3] 27)).alloc (.cells zc 32)) := by
  have h1 := (Below.refl w.heap.size w).alloc (Nat.le_refl _) (.cells #[.int .i64 b, .int .i64 h] 29)
  have h2 := h1.alloc h1.size (.cells (idVals a) 24)
  have h3 := h2.alloc h2.size (.cells #[.int .i64 L, v1, v2, v3] 27)
  have h4 := h3.alloc h3.size (.cells zc 32)
  have B1 := (((Blk.new w 29 #[.int .i64 b, .int .i64 h]).alloc (.cells (idVals a) 24)).alloc (.cells #[.int .i64 L, v1, v2, v3] 27)).alloc (.cells zc 32)
  have B2 := ((Blk.new (w.alloc (.cells #[.int .i64 b, .int .i64 h] 29)) 24 (idVals a)).alloc (.cells #[.int .i64 L, v1, v2, v3] 27)).alloc (.cells zc 32)
  have B3 := (Blk.new ((w.alloc (.cells #[.int .i64 b, .int .i64 h] 29)).alloc (.cells (idVals a) 24)) 27 #[.int .i64 L, v1, v2, v3]).alloc (.cells zc 32)
  have B4 := Blk.new (((w.alloc (.cells #[.int .i64 b, .int .i64 h] 29)).alloc (.cells (idVals a) 24)).alloc (.cells #[.int .i64 L, v1, v2, v3] 27)) 32 zc
  rw [World.size_alloc] at B2
  rw [World.size_alloc, World.size_alloc] at B3
  rw [World.size_alloc, World.size_alloc, World.size_alloc] at B4
  exact ⟨B1, B2, B3, B4, hz, h4⟩

set_option maxRecDepth 100000 in
set_option maxHeartbeats 20000000 in
theorem wfind_form (b h L : Int) (s a : List UInt8) (X A B C : Option Addr) (x cx k1 k2 k3 c1 c2 c3 : Nat) (hr : rgtP b h = true) (hf : ¬ fitsP b h L k1 k2 k3) (w : World) :
    Calls Tryz.prog 7 #[.agg #[.int .i64 b, .int .i64 h], .string (txt s), .slice X x cx, .agg (idVals a), .agg #[.int .i64 L, .slice A k1 c1, .slice B k2 c2, .slice C k3 c3]] w fun e w' => e = .returned (.tuple #[.agg wt0, .int .i64 3]) ∧ Below w.heap.size w w' := by
  have z32 : zeroB.length = 32 := by decide
  have hi0 : (Tryz.prog.info? 32).map (·.size) = some wt0.size := wtC_info 0 ⟨#[]⟩ ⟨#[]⟩ 0 0 0 z32
  have hs0 : wt0.size = 38 := wtC_size 0 ⟨#[]⟩ ⟨#[]⟩ 0 0 0 z32
  have ho0 : wt0.all (·.oneCell') = true := wtC_one 0 ⟨#[]⟩ ⟨#[]⟩ 0 0 0 zeroB
  have cR := fun W => kright_any b h W
  rw [hr] at cR
  have cF := fun W => fits_no b h L A B C k1 k2 k3 c1 c2 c3 hf W
  go_enter Tryz.func7, Tryz.ntmps7
  go_upto_region 1 with (fail)
  generalize hZ : (Obj.cells _ 32) = Z
  obtain ⟨zc, rfl, hzc⟩ : ∃ zc : Array Value, Z = Obj.cells zc 32 ∧ zc.size = 38 := ⟨_, hZ.symm, rfl⟩
  clear hZ
  have hk := FdS.new w b h L a (.slice A k1 c1) (.slice B k2 c2) (.slice C k3 c3) zc hzc
  generalize (((w.alloc (.cells #[.int .i64 b, .int .i64 h] 29)).alloc (.cells (idVals a) 24)).alloc (.cells #[.int .i64 L, .slice A k1 c1, .slice B k2 c2, .slice C k3 c3] 27)).alloc (.cells zc 32) = w1 at *
  have p0 := hk.par.cell_ (i := 0) rfl
  have p1 := hk.par.cell_ (i := 1) rfl
  have s0 := hk.sig.cell_ (i := 0) rfl
  have s1 := hk.sig.cell_ (i := 1) rfl
  have s2 := hk.sig.cell_ (i := 2) rfl
  have s3 := hk.sig.cell_ (i := 3) rfl
  have hs1 : zc.size = wt0.size := hzc.trans hs0.symm
  go_wp2_with (first
    | (go_at_call 24; (with_reducible refine (cR _).mono ?_); rintro e1 w2 ⟨rfl, hb2⟩; replace hk := hk.below hb2; replace p0 := hk.par.cell_ (i := 0) rfl; replace p1 := hk.par.cell_ (i := 1) rfl; replace s0 := hk.sig.cell_ (i := 0) rfl; replace s1 := hk.sig.cell_ (i := 1) rfl; replace s2 := hk.sig.cell_ (i := 2) rfl; replace s3 := hk.sig.cell_ (i := 3) rfl)
    | (go_at_call 25; (with_reducible refine (cF _).mono ?_); rintro e3 w3 ⟨rfl, hb3⟩; replace hk := hk.below hb3; replace p0 := hk.par.cell_ (i := 0) rfl; replace p1 := hk.par.cell_ (i := 1) rfl; replace s0 := hk.sig.cell_ (i := 0) rfl; replace s1 := hk.sig.cell_ (i := 1) rfl; replace s2 := hk.sig.cell_ (i := 2) rfl; replace s3 := hk.sig.cell_ (i := 3) rfl)
    | (with_reducible refine wpList_build_byW rfl _ _ rfl _ _ wt_build0 (by with_unfolding_all rfl) ?_)
    | ((with_reducible refine wpList_store_blk rfl 32 _ _ rfl (w.heap.size + 1 + 1 + 1) zc wt0 32 hk.res rfl rfl hi0 hs1 ho0 ?_); intro w9 hb9 hg9))
  refine bodyPost_ret (results_cellt rfl _ _ _ _ _ _ rfl hb9 Tryz.underlying32 rfl hi0) rfl ⟨rfl, hk.b_.grown hg9 hk.b_.size (fun i e => by have := Option.some.inj e; omega)⟩

end Go.Proofs.YticpdepbgcagaaaGreat


/- grant: the chapter's example. -/
import Derived.Test.YtapgiagpjplpdaaGreatAc1
set_option linter.unusedSimpArgs false
set_option linter.unusedVariables false
namespace Go.Proofs.YtapgiagpjplpdaaGreat
open Go.RowKit Go.Qc Go.Shelf
attribute [local go_sem] txt_size txt_append ib_fold txt_toL
def idG (n : UInt8) : List UInt8 := n :: List.replicate 31 0
def dA (y : List UInt8) : OpD := ⟨5, [108, 105, 98], [], 0, [], [], y, 1⟩
def dB (y : List UInt8) : OpD := ⟨5, [108, 105, 98, 47, 120], [], 0, [], [], y, 0⟩
def dC (y : List UInt8) : OpD := ⟨6, [], [], 0, [], [], y, 0⟩
def gA : GrD := ⟨[108, 105, 98], idG 2, idG 1, 1⟩
def gB : GrD := ⟨[108, 105, 98, 47, 120], idG 3, idG 2, 0⟩
theorem aw_1 : appG (idG 1) [] (idG 1) (dA (idG 2)) = ([gA], 0) := by with_unfolding_all rfl
theorem aw_2 : appG (idG 1) [gA] (idG 2) (dB (idG 3)) = ([gA, gB], 0) := by with_unfolding_all rfl
theorem aw_3 : appG (idG 1) [gA, gB] (idG 1) (dC (idG 2)) = ([], 0) := by with_unfolding_all rfl
theorem blk_grown {w w' : World} {g k : Nat} {t : TypeId} {cs : Array Value} (h : Blk w g t cs) (hg : w.grownBy w' (some k)) (hne : g ≠ k) : Blk w' g t cs := (hg.block g h.lt (by simpa using hne)).trans h
theorem below_grownS {w W W' : World} {k : Nat} (h : Below w.heap.size w W) (hg : W.grownBy W' (some k)) (hk : w.heap.size ≤ k) : Below w.heap.size w W' := h.grown hg h.size (fun i e => by have := Option.some.inj e; omega)

set_option maxRecDepth 100000 in
set_option maxHeartbeats 20000000 in
theorem build_id1 (W : World) : (Instr.build 23 #[(0, .int .u8 1)]).run Tryz.prog W = .ok (.agg (idVals (idG 1))) W := by kernel_rfl

set_option maxRecDepth 100000 in
set_option maxHeartbeats 20000000 in
theorem build_id2 (W : World) : (Instr.build 23 #[(0, .int .u8 2)]).run Tryz.prog W = .ok (.agg (idVals (idG 2))) W := by kernel_rfl

set_option maxRecDepth 100000 in
set_option maxHeartbeats 20000000 in
theorem build_id3 (W : World) : (Instr.build 23 #[(0, .int .u8 3)]).run Tryz.prog W = .ok (.agg (idVals (idG 3))) W := by kernel_rfl

set_option maxRecDepth 100000 in
set_option maxHeartbeats 20000000 in
theorem build_opA (y : List UInt8) (hy : y.length = 32) (W : World) : (Instr.build 34 #[(0, .int .i64 5), (1, .string ⟨#[108, 105, 98]⟩), (6, .agg (List.map u8v y).toArray), (7, .int .i64 1)]).run Tryz.prog W = .ok (.agg (opC (dA y) none 0 0 none 0 0)) W := by
  obtain ⟨x0, x1, x2, x3, x4, x5, x6, x7, x8, x9, x10, x11, x12, x13, x14, x15, x16, x17, x18, x19, x20, x21, x22, x23, x24, x25, x26, x27, x28, x29, x30, x31, rfl⟩ := list32g y hy
  kernel_rfl

set_option maxRecDepth 100000 in
set_option maxHeartbeats 20000000 in
theorem build_opB (y : List UInt8) (hy : y.length = 32) (W : World) : (Instr.build 34 #[(0, .int .i64 5), (1, .string ⟨#[108, 105, 98, 47, 120]⟩), (6, .agg (List.map u8v y).toArray)]).run Tryz.prog W = .ok (.agg (opC (dB y) none 0 0 none 0 0)) W := by
  obtain ⟨x0, x1, x2, x3, x4, x5, x6, x7, x8, x9, x10, x11, x12, x13, x14, x15, x16, x17, x18, x19, x20, x21, x22, x23, x24, x25, x26, x27, x28, x29, x30, x31, rfl⟩ := list32g y hy
  kernel_rfl

set_option maxRecDepth 100000 in
set_option maxHeartbeats 20000000 in
theorem build_opC (y : List UInt8) (hy : y.length = 32) (W : World) : (Instr.build 34 #[(0, .int .i64 6), (6, .agg (List.map u8v y).toArray)]).run Tryz.prog W = .ok (.agg (opC (dC y) none 0 0 none 0 0)) W := by
  obtain ⟨x0, x1, x2, x3, x4, x5, x6, x7, x8, x9, x10, x11, x12, x13, x14, x15, x16, x17, x18, x19, x20, x21, x22, x23, x24, x25, x26, x27, x28, x29, x30, x31, rfl⟩ := list32g y hy
  kernel_rfl

theorem wpList_build_by {w : World} {ops : Array Oper} {rest : List Oper} {o : Oper} {a : Act} {Q : Exit → Act → World → Prop} (hgd : o.guard = none) (ty : TypeId) (parts : Array (Nat × Operand)) (ho : o.op = .build ty parts)
    (ps : Array (Nat × Value)) (v : Value) (hb : ∀ W, (Instr.build ty ps).run Tryz.prog W = .ok v W) (hp : (parts.map fun (i, x) => (i, a.eval x)) = ps)
    (h : wpList Tryz.prog ops Q rest (a.put o.dst v) w) : wpList Tryz.prog ops Q (o :: rest) a w := by
  refine wpList_plain hgd fun K' hK' => ?_
  have hr := hb w
  rw [← hp] at hr
  unfold Oper.wp
  simp only [execOp, ho]
  simp only [Sem.run_bind, hr, Result.andThen, Sem.run_pure]
  exact hK' _ _ h

set_option maxRecDepth 100000 in
set_option maxHeartbeats 20000000 in
theorem awake19_gen (x y z : List UInt8) (lx : x.length = 32) (ly : y.length = 32) (lz : z.length = 32) (GA GB : GrD)
    (bi1 : ∀ W, (Instr.build 23 #[(0, .int .u8 1)]).run Tryz.prog W = .ok (.agg (idVals x)) W) (bi2 : ∀ W, (Instr.build 23 #[(0, .int .u8 2)]).run Tryz.prog W = .ok (.agg (idVals y)) W) (bi3 : ∀ W, (Instr.build 23 #[(0, .int .u8 3)]).run Tryz.prog W = .ok (.agg (idVals z)) W)
    (e1 : appG x [] x (dA y) = ([GA], 0)) (e2 : appG x [GA] y (dB z) = ([GA, GB], 0)) (e3 : appG x [GA, GB] x (dC y) = ([], 0)) (w : World) :
    Calls Tryz.prog 4 #[] w fun e w' => e = .returned (.bool true) ∧ Below w.heap.size w w' := by
  have boA := build_opA y ly
  have boB := build_opB z lz
  have boC := build_opC y ly
  have cN : ∀ W : World, Calls Tryz.prog 5 #[.agg (List.map u8v x).toArray] W fun e w' => ∃ tb, e = .returned (.pointer (some ⟨tb, 0, none⟩)) ∧ W.heap.size ≤ tb ∧ TbS w' tb x [] ∧ Below W.heap.size W w' := fun W => gnew_any x lx W
  have n1 : nextG x [] x (dA y) = [GA] := by unfold nextG; rw [e1]; rfl
  have n2 : nextG x [GA] y (dB z) = [GA, GB] := by unfold nextG; rw [e2]; rfl
  have n3 : nextG x [GA, GB] x (dC y) = [] := by unfold nextG; rw [e3]; rfl
  have cA : ∀ (W : World) (tb : Nat), TbS W tb x [] → Calls Tryz.prog 11 #[.pointer (some ⟨tb, 0, none⟩), .agg (List.map u8v x).toArray, .agg (opC (dA y) none 0 0 none 0 0)] W fun e w' => e = .returned (.int .i64 0) ∧ TbS w' tb x [GA] ∧ W.grownBy w' (some tb) := fun W tb h => by
    have := gapply_any (dA y) ly none 0 0 none 0 0 rfl (by decide) rfl (by decide) x lx tb [] (by decide) x lx W h (.inl rfl) (.inl rfl)
    rw [e1, n1] at this
    exact this
  have cB : ∀ (W : World) (tb : Nat), TbS W tb x [GA] → Calls Tryz.prog 11 #[.pointer (some ⟨tb, 0, none⟩), .agg (List.map u8v y).toArray, .agg (opC (dB z) none 0 0 none 0 0)] W fun e w' => e = .returned (.int .i64 0) ∧ TbS w' tb x [GA, GB] ∧ W.grownBy w' (some tb) := fun W tb h => by
    have := gapply_any (dB z) lz none 0 0 none 0 0 rfl (by decide) rfl (by decide) x lx tb [GA] (by simp) y ly W h (.inl rfl) (.inl rfl)
    rw [e2, n2] at this
    exact this
  have cC : ∀ (W : World) (tb : Nat), TbS W tb x [GA, GB] → Calls Tryz.prog 11 #[.pointer (some ⟨tb, 0, none⟩), .agg (List.map u8v x).toArray, .agg (opC (dC y) none 0 0 none 0 0)] W fun e w' => e = .returned (.int .i64 0) ∧ TbS w' tb x [] ∧ W.grownBy w' (some tb) := fun W tb h => by
    have := gapply_any (dC y) ly none 0 0 none 0 0 rfl (by decide) rfl (by decide) x lx tb [GA, GB] (by simp) x lx W h (.inl rfl) (.inl rfl)
    rw [e3, n3] at this
    exact this
  have cG : ∀ (W : World) (tb : Nat) (Xs : List GrD) (n : Nat), TbS W tb x Xs → Xs.length = n → n ≤ 1000 → Calls Tryz.prog 14 #[.pointer (some ⟨tb, 0, none⟩)] W fun e w' => ∃ A c, e = .returned (.slice A n c) ∧ Below W.heap.size W w' := fun W tb Xs n h hn bn => by
    refine (ggrants_any tb x lx Xs (by omega) W h).mono ?_
    rintro e w' ⟨v, rfl, hown, hb⟩
    obtain ⟨A, c, rfl, _⟩ := hown.rd h.ok
    rw [hn]
    exact ⟨A, c, rfl, hb⟩
  clear e1 e2 e3 n1 n2 n3
  have hix : (Tryz.prog.info? 23).map (·.size) = some (idVals x).size := by rw [idVals_size, lx]; exact sizeId
  have hiy : (Tryz.prog.info? 23).map (·.size) = some (idVals y).size := by rw [idVals_size, ly]; exact sizeId
  have hiz : (Tryz.prog.info? 23).map (·.size) = some (idVals z).size := by rw [idVals_size, lz]; exact sizeId
  have hsx : (idVals x).size = 32 := by rw [idVals_size, lx]
  have hsy : (idVals y).size = 32 := by rw [idVals_size, ly]
  have hsz : (idVals z).size = 32 := by rw [idVals_size, lz]
  have hu := Tryz.underlying23
  have hzx : (Tryz.prog.info? 23).map (·.size) = some (x.map u8v).length := by rw [List.length_map, lx]; exact sizeId
  have hzy : (Tryz.prog.info? 23).map (·.size) = some (y.map u8v).length := by rw [List.length_map, ly]; exact sizeId
  have hzz : (Tryz.prog.info? 23).map (·.size) = some (z.map u8v).length := by rw [List.length_map, lz]; exact sizeId
  have hb : Below w.heap.size w (((w.alloc (.cells #[.int .u8 0, .int .u8 0, .int .u8 0, .int .u8 0, .int .u8 0, .int .u8 0, .int .u8 0, .int .u8 0, .int .u8 0, .int .u8 0, .int .u8 0, .int .u8 0, .int .u8 0, .int .u8 0, .int .u8 0, .int .u8 0, .int .u8 0, .int .u8 0, .int .u8 0, .int .u8 0, .int .u8 0, .int .u8 0, .int .u8 0, .int .u8 0, .int .u8 0, .int .u8 0, .int .u8 0, .int .u8 0, .int .u8 0, .int .u8 0, .int .u8 0, .int .u8 0] 23)).alloc (.cells #[.int .u8 0, .int .u8 0, .int .u8 0, .int .u8 0, .int .u8 0, .int .u8 0, .int .u8 0, .int .u8 0, .int .u8 0, .int .u8 0, .int .u8 0, .int .u8 0, .int .u8 0, .int .u8 0, .int .u8 0, .int .u8 0, .int .u8 0, .int .u8 0, .int .u8 0, .int .u8 0, .int .u8 0, .int .u8 0, .int .u8 0, .int .u8 0, .int .u8 0, .int .u8 0, .int .u8 0, .int .u8 0, .int .u8 0, .int .u8 0, .int .u8 0, .int .u8 0] 23)).alloc (.cells #[.int .u8 0, .int .u8 0, .int .u8 0, .int .u8 0, .int .u8 0, .int .u8 0, .int .u8 0, .int .u8 0, .int .u8 0, .int .u8 0, .int .u8 0, .int .u8 0, .int .u8 0, .int .u8 0, .int .u8 0, .int .u8 0, .int .u8 0, .int .u8 0, .int .u8 0, .int .u8 0, .int .u8 0, .int .u8 0, .int .u8 0, .int .u8 0, .int .u8 0, .int .u8 0, .int .u8 0, .int .u8 0, .int .u8 0, .int .u8 0, .int .u8 0, .int .u8 0] 23)) := (((Below.refl _ w).alloc (Nat.le_refl _) _).alloc (by simp) _).alloc (by simp; omega) _
  have hB1 : Blk (((w.alloc (.cells #[.int .u8 0, .int .u8 0, .int .u8 0, .int .u8 0, .int .u8 0, .int .u8 0, .int .u8 0, .int .u8 0, .int .u8 0, .int .u8 0, .int .u8 0, .int .u8 0, .int .u8 0, .int .u8 0, .int .u8 0, .int .u8 0, .int .u8 0, .int .u8 0, .int .u8 0, .int .u8 0, .int .u8 0, .int .u8 0, .int .u8 0, .int .u8 0, .int .u8 0, .int .u8 0, .int .u8 0, .int .u8 0, .int .u8 0, .int .u8 0, .int .u8 0, .int .u8 0] 23)).alloc (.cells #[.int .u8 0, .int .u8 0, .int .u8 0, .int .u8 0, .int .u8 0, .int .u8 0, .int .u8 0, .int .u8 0, .int .u8 0, .int .u8 0, .int .u8 0, .int .u8 0, .int .u8 0, .int .u8 0, .int .u8 0, .int .u8 0, .int .u8 0, .int .u8 0, .int .u8 0, .int .u8 0, .int .u8 0, .int .u8 0, .int .u8 0, .int .u8 0, .int .u8 0, .int .u8 0, .int .u8 0, .int .u8 0, .int .u8 0, .int .u8 0, .int .u8 0, .int .u8 0] 23)).alloc (.cells #[.int .u8 0, .int .u8 0, .int .u8 0, .int .u8 0, .int .u8 0, .int .u8 0, .int .u8 0, .int .u8 0, .int .u8 0, .int .u8 0, .int .u8 0, .int .u8 0, .int .u8 0, .int .u8 0, .int .u8 0, .int .u8 0, .int .u8 0, .int .u8 0, .int .u8 0, .int .u8 0, .int .u8 0, .int .u8 0, .int .u8 0, .int .u8 0, .int .u8 0, .int .u8 0, .int .u8 0, .int .u8 0, .int .u8 0, .int .u8 0, .int .u8 0, .int .u8 0] 23)) w.heap.size 23 #[.int .u8 0, .int .u8 0, .int .u8 0, .int .u8 0, .int .u8 0, .int .u8 0, .int .u8 0, .int .u8 0, .int .u8 0, .int .u8 0, .int .u8 0, .int .u8 0, .int .u8 0, .int .u8 0, .int .u8 0, .int .u8 0, .int .u8 0, .int .u8 0, .int .u8 0, .int .u8 0, .int .u8 0, .int .u8 0, .int .u8 0, .int .u8 0, .int .u8 0, .int .u8 0, .int .u8 0, .int .u8 0, .int .u8 0, .int .u8 0, .int .u8 0, .int .u8 0] := ((Blk.new w 23 #[.int .u8 0, .int .u8 0, .int .u8 0, .int .u8 0, .int .u8 0, .int .u8 0, .int .u8 0, .int .u8 0, .int .u8 0, .int .u8 0, .int .u8 0, .int .u8 0, .int .u8 0, .int .u8 0, .int .u8 0, .int .u8 0, .int .u8 0, .int .u8 0, .int .u8 0, .int .u8 0, .int .u8 0, .int .u8 0, .int .u8 0, .int .u8 0, .int .u8 0, .int .u8 0, .int .u8 0, .int .u8 0, .int .u8 0, .int .u8 0, .int .u8 0, .int .u8 0]).alloc _).alloc _
  have hB2 : Blk (((w.alloc (.cells #[.int .u8 0, .int .u8 0, .int .u8 0, .int .u8 0, .int .u8 0, .int .u8 0, .int .u8 0, .int .u8 0, .int .u8 0, .int .u8 0, .int .u8 0, .int .u8 0, .int .u8 0, .int .u8 0, .int .u8 0, .int .u8 0, .int .u8 0, .int .u8 0, .int .u8 0, .int .u8 0, .int .u8 0, .int .u8 0, .int .u8 0, .int .u8 0, .int .u8 0, .int .u8 0, .int .u8 0, .int .u8 0, .int .u8 0, .int .u8 0, .int .u8 0, .int .u8 0] 23)).alloc (.cells #[.int .u8 0, .int .u8 0, .int .u8 0, .int .u8 0, .int .u8 0, .int .u8 0, .int .u8 0, .int .u8 0, .int .u8 0, .int .u8 0, .int .u8 0, .int .u8 0, .int .u8 0, .int .u8 0, .int .u8 0, .int .u8 0, .int .u8 0, .int .u8 0, .int .u8 0, .int .u8 0, .int .u8 0, .int .u8 0, .int .u8 0, .int .u8 0, .int .u8 0, .int .u8 0, .int .u8 0, .int .u8 0, .int .u8 0, .int .u8 0, .int .u8 0, .int .u8 0] 23)).alloc (.cells #[.int .u8 0, .int .u8 0, .int .u8 0, .int .u8 0, .int .u8 0, .int .u8 0, .int .u8 0, .int .u8 0, .int .u8 0, .int .u8 0, .int .u8 0, .int .u8 0, .int .u8 0, .int .u8 0, .int .u8 0, .int .u8 0, .int .u8 0, .int .u8 0, .int .u8 0, .int .u8 0, .int .u8 0, .int .u8 0, .int .u8 0, .int .u8 0, .int .u8 0, .int .u8 0, .int .u8 0, .int .u8 0, .int .u8 0, .int .u8 0, .int .u8 0, .int .u8 0] 23)) (w.heap.size + 1) 23 #[.int .u8 0, .int .u8 0, .int .u8 0, .int .u8 0, .int .u8 0, .int .u8 0, .int .u8 0, .int .u8 0, .int .u8 0, .int .u8 0, .int .u8 0, .int .u8 0, .int .u8 0, .int .u8 0, .int .u8 0, .int .u8 0, .int .u8 0, .int .u8 0, .int .u8 0, .int .u8 0, .int .u8 0, .int .u8 0, .int .u8 0, .int .u8 0, .int .u8 0, .int .u8 0, .int .u8 0, .int .u8 0, .int .u8 0, .int .u8 0, .int .u8 0, .int .u8 0] := by
    have := (Blk.new (w.alloc (.cells #[.int .u8 0, .int .u8 0, .int .u8 0, .int .u8 0, .int .u8 0, .int .u8 0, .int .u8 0, .int .u8 0, .int .u8 0, .int .u8 0, .int .u8 0, .int .u8 0, .int .u8 0, .int .u8 0, .int .u8 0, .int .u8 0, .int .u8 0, .int .u8 0, .int .u8 0, .int .u8 0, .int .u8 0, .int .u8 0, .int .u8 0, .int .u8 0, .int .u8 0, .int .u8 0, .int .u8 0, .int .u8 0, .int .u8 0, .int .u8 0, .int .u8 0, .int .u8 0] 23)) 23 #[.int .u8 0, .int .u8 0, .int .u8 0, .int .u8 0, .int .u8 0, .int .u8 0, .int .u8 0, .int .u8 0, .int .u8 0, .int .u8 0, .int .u8 0, .int .u8 0, .int .u8 0, .int .u8 0, .int .u8 0, .int .u8 0, .int .u8 0, .int .u8 0, .int .u8 0, .int .u8 0, .int .u8 0, .int .u8 0, .int .u8 0, .int .u8 0, .int .u8 0, .int .u8 0, .int .u8 0, .int .u8 0, .int .u8 0, .int .u8 0, .int .u8 0, .int .u8 0]).alloc (.cells #[.int .u8 0, .int .u8 0, .int .u8 0, .int .u8 0, .int .u8 0, .int .u8 0, .int .u8 0, .int .u8 0, .int .u8 0, .int .u8 0, .int .u8 0, .int .u8 0, .int .u8 0, .int .u8 0, .int .u8 0, .int .u8 0, .int .u8 0, .int .u8 0, .int .u8 0, .int .u8 0, .int .u8 0, .int .u8 0, .int .u8 0, .int .u8 0, .int .u8 0, .int .u8 0, .int .u8 0, .int .u8 0, .int .u8 0, .int .u8 0, .int .u8 0, .int .u8 0] 23)
    rwa [World.size_alloc] at this
  have hB3 : Blk (((w.alloc (.cells #[.int .u8 0, .int .u8 0, .int .u8 0, .int .u8 0, .int .u8 0, .int .u8 0, .int .u8 0, .int .u8 0, .int .u8 0, .int .u8 0, .int .u8 0, .int .u8 0, .int .u8 0, .int .u8 0, .int .u8 0, .int .u8 0, .int .u8 0, .int .u8 0, .int .u8 0, .int .u8 0, .int .u8 0, .int .u8 0, .int .u8 0, .int .u8 0, .int .u8 0, .int .u8 0, .int .u8 0, .int .u8 0, .int .u8 0, .int .u8 0, .int .u8 0, .int .u8 0] 23)).alloc (.cells #[.int .u8 0, .int .u8 0, .int .u8 0, .int .u8 0, .int .u8 0, .int .u8 0, .int .u8 0, .int .u8 0, .int .u8 0, .int .u8 0, .int .u8 0, .int .u8 0, .int .u8 0, .int .u8 0, .int .u8 0, .int .u8 0, .int .u8 0, .int .u8 0, .int .u8 0, .int .u8 0, .int .u8 0, .int .u8 0, .int .u8 0, .int .u8 0, .int .u8 0, .int .u8 0, .int .u8 0, .int .u8 0, .int .u8 0, .int .u8 0, .int .u8 0, .int .u8 0] 23)).alloc (.cells #[.int .u8 0, .int .u8 0, .int .u8 0, .int .u8 0, .int .u8 0, .int .u8 0, .int .u8 0, .int .u8 0, .int .u8 0, .int .u8 0, .int .u8 0, .int .u8 0, .int .u8 0, .int .u8 0, .int .u8 0, .int .u8 0, .int .u8 0, .int .u8 0, .int .u8 0, .int .u8 0, .int .u8 0, .int .u8 0, .int .u8 0, .int .u8 0, .int .u8 0, .int .u8 0, .int .u8 0, .int .u8 0, .int .u8 0, .int .u8 0, .int .u8 0, .int .u8 0] 23)) (w.heap.size + 1 + 1) 23 #[.int .u8 0, .int .u8 0, .int .u8 0, .int .u8 0, .int .u8 0, .int .u8 0, .int .u8 0, .int .u8 0, .int .u8 0, .int .u8 0, .int .u8 0, .int .u8 0, .int .u8 0, .int .u8 0, .int .u8 0, .int .u8 0, .int .u8 0, .int .u8 0, .int .u8 0, .int .u8 0, .int .u8 0, .int .u8 0, .int .u8 0, .int .u8 0, .int .u8 0, .int .u8 0, .int .u8 0, .int .u8 0, .int .u8 0, .int .u8 0, .int .u8 0, .int .u8 0] := by
    have := Blk.new ((w.alloc (.cells #[.int .u8 0, .int .u8 0, .int .u8 0, .int .u8 0, .int .u8 0, .int .u8 0, .int .u8 0, .int .u8 0, .int .u8 0, .int .u8 0, .int .u8 0, .int .u8 0, .int .u8 0, .int .u8 0, .int .u8 0, .int .u8 0, .int .u8 0, .int .u8 0, .int .u8 0, .int .u8 0, .int .u8 0, .int .u8 0, .int .u8 0, .int .u8 0, .int .u8 0, .int .u8 0, .int .u8 0, .int .u8 0, .int .u8 0, .int .u8 0, .int .u8 0, .int .u8 0] 23)).alloc (.cells #[.int .u8 0, .int .u8 0, .int .u8 0, .int .u8 0, .int .u8 0, .int .u8 0, .int .u8 0, .int .u8 0, .int .u8 0, .int .u8 0, .int .u8 0, .int .u8 0, .int .u8 0, .int .u8 0, .int .u8 0, .int .u8 0, .int .u8 0, .int .u8 0, .int .u8 0, .int .u8 0, .int .u8 0, .int .u8 0, .int .u8 0, .int .u8 0, .int .u8 0, .int .u8 0, .int .u8 0, .int .u8 0, .int .u8 0, .int .u8 0, .int .u8 0, .int .u8 0] 23)) 23 #[.int .u8 0, .int .u8 0, .int .u8 0, .int .u8 0, .int .u8 0, .int .u8 0, .int .u8 0, .int .u8 0, .int .u8 0, .int .u8 0, .int .u8 0, .int .u8 0, .int .u8 0, .int .u8 0, .int .u8 0, .int .u8 0, .int .u8 0, .int .u8 0, .int .u8 0, .int .u8 0, .int .u8 0, .int .u8 0, .int .u8 0, .int .u8 0, .int .u8 0, .int .u8 0, .int .u8 0, .int .u8 0, .int .u8 0, .int .u8 0, .int .u8 0, .int .u8 0]
    rwa [World.size_alloc, World.size_alloc] at this
  go_enter Tryz.func4, Tryz.ntmps4
  go_wp2_with (first
    | (with_reducible refine wpList_build_by rfl _ _ rfl _ _ bi1 (by with_unfolding_all rfl) ?_)
    | (with_reducible refine wpList_build_by rfl _ _ rfl _ _ bi2 (by with_unfolding_all rfl) ?_)
    | (with_reducible refine wpList_build_by rfl _ _ rfl _ _ bi3 (by with_unfolding_all rfl) ?_)
    | ((with_reducible refine wpList_store_blk rfl 23 _ _ rfl _ _ (idVals x) 23 hB1 (by with_unfolding_all rfl) (by with_unfolding_all rfl) hix (by with_unfolding_all exact hsx.symm) (idVals_one x) ?_); intro w1 hB9 hg9; replace hB2 := blk_grown hB2 hg9 (by omega); replace hB3 := blk_grown hB3 hg9 (by omega); replace hb := below_grownS hb hg9 (by omega); replace hB1 := hB9; clear hB9 hg9)
    | ((with_reducible refine wpList_store_blk rfl 23 _ _ rfl _ _ (idVals y) 23 hB2 (by with_unfolding_all rfl) (by with_unfolding_all rfl) hiy (by with_unfolding_all exact hsy.symm) (idVals_one y) ?_); intro w2 hB9 hg9; replace hB1 := blk_grown hB1 hg9 (by omega); replace hB3 := blk_grown hB3 hg9 (by omega); replace hb := below_grownS hb hg9 (by omega); replace hB2 := hB9; clear hB9 hg9)
    | (((with_reducible refine wpList_store_blk rfl 23 _ _ rfl _ _ (idVals z) 23 hB3 (by with_unfolding_all rfl) (by with_unfolding_all rfl) hiz (by with_unfolding_all exact hsz.symm) (idVals_one z) ?_); intro w3 hB9 hg9; replace hB1 := blk_grown hB1 hg9 (by omega); replace hB2 := blk_grown hB2 hg9 (by omega); replace hb := below_grownS hb hg9 (by omega); replace hB3 := hB9; clear hB9 hg9); have hr1 := range_blk hB1; have hr2 := range_blk hB2; have hr3 := range_blk hB3)
    | (with_reducible refine wpList_load_if (by with_unfolding_all rfl) 23 _ rfl _ _ rfl (x.map u8v) _ hr1 hu rfl hzx ?_)
    | (with_reducible refine wpList_load_if (by with_unfolding_all rfl) 23 _ rfl _ _ rfl (y.map u8v) _ hr2 hu rfl hzy ?_)
    | (with_reducible refine wpList_load_if (by with_unfolding_all rfl) 23 _ rfl _ _ rfl (z.map u8v) _ hr3 hu rfl hzz ?_)
    | (with_reducible refine wpList_build_by rfl _ _ rfl _ _ boA (by with_unfolding_all rfl) ?_)
    | (with_reducible refine wpList_build_by rfl _ _ rfl _ _ boB (by with_unfolding_all rfl) ?_)
    | (with_reducible refine wpList_build_by rfl _ _ rfl _ _ boC (by with_unfolding_all rfl) ?_)
    | (go_at_call 5; (with_reducible refine (cN _).mono ?_); rintro e4 w4 ⟨tb, rfl, htb, hT, hb9⟩; have hl3 := hB3.lt; replace hB1 := hB1.below hb9; replace hB2 := hB2.below hb9; replace hB3 := hB3.below hb9; replace hb := hb.trans (hb9.mono hb.size); have hr1 := range_blk hB1; have hr2 := range_blk hB2; have hr3 := range_blk hB3; clear hb9)
    | (go_at_call 11; (with_reducible refine (cA _ _ hT).mono ?_); rintro e5 w5 ⟨rfl, hT9, hg9⟩; replace hT := hT9; replace hB1 := blk_grown hB1 hg9 (by omega); replace hB2 := blk_grown hB2 hg9 (by omega); replace hB3 := blk_grown hB3 hg9 (by omega); replace hb := below_grownS hb hg9 (by omega); have hr1 := range_blk hB1; have hr2 := range_blk hB2; have hr3 := range_blk hB3; clear hT9 hg9)
    | (go_at_call 11; (with_reducible refine (cB _ _ hT).mono ?_); rintro e5 w5 ⟨rfl, hT9, hg9⟩; replace hT := hT9; replace hB1 := blk_grown hB1 hg9 (by omega); replace hB2 := blk_grown hB2 hg9 (by omega); replace hB3 := blk_grown hB3 hg9 (by omega); replace hb := below_grownS hb hg9 (by omega); have hr1 := range_blk hB1; have hr2 := range_blk hB2; have hr3 := range_blk hB3; clear hT9 hg9)
    | (go_at_call 11; (with_reducible refine (cC _ _ hT).mono ?_); rintro e5 w5 ⟨rfl, hT9, hg9⟩; replace hT := hT9; replace hB1 := blk_grown hB1 hg9 (by omega); replace hB2 := blk_grown hB2 hg9 (by omega); replace hB3 := blk_grown hB3 hg9 (by omega); replace hb := below_grownS hb hg9 (by omega); have hr1 := range_blk hB1; have hr2 := range_blk hB2; have hr3 := range_blk hB3; clear hT9 hg9)
    | (go_at_call 14; (with_reducible refine (cG _ _ _ _ hT rfl (by simp)).mono ?_); rintro e6 w6 ⟨A6, c6, rfl, hb9⟩; replace hT := hT.below hb9; replace hB1 := hB1.below hb9; replace hB2 := hB2.below hb9; replace hB3 := hB3.below hb9; replace hb := hb.trans (hb9.mono hb.size); have hr1 := range_blk hB1; have hr2 := range_blk hB2; have hr3 := range_blk hB3; clear hb9))
  go_ret
  exact ⟨rfl, hb⟩
theorem awake19_any (w : World) : Calls Tryz.prog 4 #[] w fun e w' => e = .returned (.bool true) ∧ Below w.heap.size w w' :=
  awake19_gen (idG 1) (idG 2) (idG 3) rfl rfl rfl gA gB build_id1 build_id2 build_id3 aw_1 aw_2 aw_3 w

end Go.Proofs.YtapgiagpjplpdaaGreat

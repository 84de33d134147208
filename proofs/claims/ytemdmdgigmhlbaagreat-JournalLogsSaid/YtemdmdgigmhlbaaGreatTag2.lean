/- Two rows of bytes, compared. -/
import Derived.Test.YtemdmdgigmhlbaaGreatSha8
import Derived.ChangeKeysEq
import Derived.Laws.StructEq
import Derived.Laws.ResultCell
import Derived.Laws.Rows
import Derived.Deep.MidRow
import Derived.Deep.RegionHeld3
import Derived.Test.YtemdmdgigmhlbaaGreatTag1
import Derived.Test.YtemdmdgigmhlbaaGreatSha10
namespace Go.Proofs.YtemdmdgigmhlbaaGreat
open Go.RowKit Go.Qc

theorem run_items_bytes {P : Program} (w : World) (d : Nat) (e : TypeId) (hu : P.underlying e = some (.int .u8)) (A B : List UInt8) (hl : A.length = B.length) :
    ∀ is : List Nat, (∀ i ∈ is, i < A.length) → (Op.eqItems (d + 1) e 1 (idVals A) (idVals B) is).run P w = .ok (is.all fun i => A[i]? == B[i]?) w
  | [], _ => by simp [Op.eqItems]
  | i :: is, h => by
    have hiA : i < A.length := h i (by simp)
    have hiB : i < B.length := by omega
    have ih := run_items_bytes w d e hu A B hl is (fun j hj => h j (by simp [hj]))
    have hp : P.plainKey e = true := by simp [Program.plainKey, hu]
    have ga : (idVals A)[i * 1]? = some (.int .u8 (ib A[i])) := by
      unfold idVals; rw [Nat.mul_one, List.getElem?_toArray, List.getElem?_map, List.getElem?_eq_getElem hiA]; rfl
    have gb : (idVals B)[i * 1]? = some (.int .u8 (ib B[i])) := by
      unfold idVals; rw [Nat.mul_one, List.getElem?_toArray, List.getElem?_map, List.getElem?_eq_getElem hiB]; rfl
    simp only [Op.eqItems, Sem.run_bind, run_part_plain w hp ga, run_part_plain w hp gb, run_equalIn_int w d e .u8 .u8 _ _ hu, Result.andThen_ok, List.all_cons]
    rw [List.getElem?_eq_getElem hiA, List.getElem?_eq_getElem hiB]
    have hc : (ib A[i] == ib B[i]) = (some A[i] == some B[i]) := by
      rw [Bool.eq_iff_iff]
      simp [ib_inj]
    rw [hc]
    cases hq : (some A[i] == some B[i]) with
    | true => simpa using ih
    | false => simp

theorem run_ids {P : Program} (w : World) (t e : TypeId) (n : Nat) (i : TypeInfo) (hu : P.underlying t = some (.array n e)) (hi : P.info? e = some i) (h1 : P.cellsOf e = 1) (he : P.underlying e = some (.int .u8)) (A B : List UInt8) (hA : A.length = n) (hB : B.length = n) :
    (Op.equalIn 10000 t (.agg (idVals A)) (.agg (idVals B))).run P w = .ok (decide (A = B)) w := by
  rw [show (10000 : Nat) = 9999 + 1 from rfl, run_equalIn_array w 9999 _ _ hu hi, h1, show (9999 : Nat) = 9998 + 1 from rfl, run_items_bytes w 9998 e he A B (by omega) _ (fun j hj => by rw [hA]; exact List.mem_range.1 hj)]
  congr 1
  rw [Bool.eq_iff_iff]
  simp only [List.all_eq_true, List.mem_range, beq_iff_eq, decide_eq_true_eq]
  constructor
  · intro h
    apply List.ext_getElem?
    intro j
    by_cases hj : j < n
    · exact h j hj
    · rw [List.getElem?_eq_none (by omega), List.getElem?_eq_none (by omega)]
  · intro h j _
    rw [h]
theorem ids_eq (w : World) (A B : List UInt8) (hA : A.length = 32) (hB : B.length = 32) :
    (Op.equalIn 10000 42 (.agg (idVals A)) (.agg (idVals B))).run Tryz.prog w = .ok (decide (A = B)) w := by
  obtain ⟨i0, hi, hz0, hz1, hz2⟩ := info_parts infoByte
  exact run_ids w _ 5 32 i0 Tryz.underlying42 hi (by kernel_rfl) Tryz.underlying5 A B hA hB
end Go.Proofs.YtemdmdgigmhlbaaGreat
/- Laws on ids: an id that is loaded at a guard or at an offset, an id handed back beside another result, worlds behind a store. -/
namespace Go.Proofs.YtemdmdgigmhlbaaGreat
open Go.RowKit Go.Qc

theorem results_cellt {P : Program} {fn : Func} {p u : Tmp} {ty : TypeId} (h : fn.results = #[.cell p ty, .tmp u]) (tmps : Array Value) (w : World) (g : Nat) (t : TypeId) (cs : Array Value) (d : TypeDesc)
    (hp : tmps.getD p undef = .pointer (some ⟨g, 0, none⟩)) (hg : Blk w g t cs)
    (hu : P.underlying ty = some d) (hd : (match d with | .struct _ | .array _ _ => true | _ => false) = true) (hi : (P.info? ty).map (·.size) = some cs.size) :
    (results fn tmps).run P w = .ok (.tuple #[.agg cs, tmps.getD u undef]) w := by
  have hp' : tmps[p]?.getD undef = .pointer (some ⟨g, 0, none⟩) := by simpa using hp
  rw [results_cell_tmp h]
  simp [hp', asAddr, run_loadVar_row w g t ty cs (0, 0) d hg hu hd hi, Result.andThen]
theorem below_new {w w4 : World} {o : Obj} (hg : (w.alloc o).grownBy w4 (some w.heap.size)) : Below w.heap.size w w4 :=
  ((Below.refl _ w).alloc (Nat.le_refl _) o).grown hg (by simp) (fun i e => by have := Option.some.inj e; omega)
theorem _root_.Go.World.rangeAt.below {w w' : World} {b o : Nat} {cs : List Value} (h : w.rangeAt b o cs) (hb : Below w.heap.size w w') : w'.rangeAt b o cs := fun j v hv => Below.keep hb (h j v hv)
theorem below_drew1 (w : World) : Below w.heap.size w w.drew := ⟨(Below.refl w.heap.size w).os, (Below.refl w.heap.size w).tape, (Below.refl w.heap.size w).output, (Below.refl w.heap.size w).size, (Below.refl w.heap.size w).block⟩
/-- A row of cells loaded, at a guard that strikes or at none. -/
theorem wpList_load_if {P : Program} {ops : Array Oper} {rest : List Oper} {o : Oper} {a : Act} {w : World} {Q : Exit → Act → World → Prop} (hw : Region.wanted o (yielded ops a.tmps) = true) (ty : TypeId) (x : Operand) (ho : o.op = .load ty x)
    (b off : Nat) (hx : a.eval x = .pointer (some ⟨b, off, none⟩)) (cs : List Value) (d : TypeDesc) (hc : w.rangeAt b off cs)
    (hu : P.underlying ty = some d) (hd : d.isRow = true) (hi : (P.info? ty).map (·.size) = some cs.length)
    (h : wpList P ops Q rest (a.put o.dst (.agg cs.toArray)) w) : wpList P ops Q (o :: rest) a w :=
  wpList_step fun K hK => by
    rw [if_pos hw]
    exact wp_load_mid ty x ho b off hx cs d hc hu hd hi (hK _ _ h)
theorem range_blk {w : World} {g : Nat} {t : TypeId} {l : List UInt8} (h : Blk w g t (idVals l)) : w.rangeAt g 0 (l.map u8v) := fun j v hv => by
  rw [Nat.zero_add]; exact h.cell_ (by unfold idVals; rw [List.getElem?_toArray]; exact hv)
end Go.Proofs.YtemdmdgigmhlbaaGreat
/- tag: tagged sums, of the program and of the document. -/
namespace Go.Proofs.YtemdmdgigmhlbaaGreat
open Go.RowKit Go.Qc
attribute [local go_sem] txt_size txt_append ib_fold

def tagB (n : List UInt8) (ps : List (List UInt8)) : List UInt8 := sumB (textB n ps)
theorem tagB_length (n : List UInt8) (ps : List (List UInt8)) : (tagB n ps).length = 32 := sumB_length _
def zeroB : List UInt8 := List.replicate 32 0

set_option maxRecDepth 100000 in
set_option maxHeartbeats 1000000 in
theorem of_any (nm : List UInt8) (hnm : nm.length ≤ 255) (A : Option Addr) (n c : Nat) (ps : List (List UInt8)) (hn : ps.length = n) (hm : (textB nm ps).length ≤ 1000000000000) (w : World) (hr : Rd w A (ps.map strV)) :
    Calls Tryz.prog 39 #[.string (txt nm), .slice A n c] w fun e w' => e = .returned (.tuple #[.agg (idVals (tagB nm ps)), .int .i64 0]) ∧ Below w.heap.size w w' := by
  obtain ⟨S, hS⟩ : ∃ S, S = tagB nm ps := ⟨_, rfl⟩
  have hSl : S.length = 32 := by rw [hS]; exact tagB_length _ _
  have s1 : ∀ W : World, Calls Tryz.prog 59 #[.string (txt (textB nm ps))] W fun e w' => e = .returned (.agg (idVals S)) ∧ Below W.heap.size W w' := fun W => by rw [hS]; exact sum_any _ hm W
  rw [← hS]
  clear hS
  have HS := hid s1
  have HSL := hid hSl
  have HM := hid hm
  have HNM := hid hnm
  clear s1 hSl hm hnm
  go_enter Tryz.func39, Tryz.ntmps39
  go_wp2_with (fail)
  generalize hZ : (Obj.cells _ 42) = Z
  obtain ⟨zc, rfl, hzc⟩ : ∃ zc : Array Value, Z = Obj.cells zc 42 ∧ zc.size = 32 := ⟨_, hZ.symm, rfl⟩
  clear hZ
  have hR0 := Blk.new w 42 zc
  have hB0 : Below w.heap.size w (w.alloc (.cells zc 42)) := (Below.refl _ _).alloc (Nat.le_refl _) _
  refine (text_any nm HNM.out A n c ps hn HM.out _ (hr.below hB0)).mono ?_
  rintro e1 w1 ⟨rfl, hB1⟩
  have hR1 := hR0.below hB1
  have hB := hB0.trans (hB1.mono hB0.size)
  have HZC := hid hzc
  clear hzc hR0 hB0 hB1
  go_wp2_with (first
    | (go_at_call 59; (with_reducible refine (HS.out _).mono ?_); rintro e2 w2 ⟨rfl, hB2⟩; have hR2 := hR1.below hB2)
    | (with_reducible refine wpList_store_blk rfl 42 _ _ rfl w.heap.size zc (idVals S) 42 hR2 rfl rfl ?c2 ?c3 (idVals_one _) ?_))
  case c2 => rw [idVals_size, HSL.out]; exact sizeId
  case c3 => rw [idVals_size, HSL.out]; exact HZC.out
  intro w7 hb7 hg7
  go_wp2
  refine bodyPost_ret (results_cellt rfl _ _ _ _ _ _ rfl hb7 Tryz.underlying42 rfl (by rw [idVals_size, HSL.out]; exact sizeId)) rfl ⟨rfl, ?_⟩
  exact (hB.trans (hB2.mono hB.size)).grown hg7 (Nat.le_trans hB.size hB2.size) (by intro i e; cases e; exact Nat.le_refl _)

theorem zeroB_vals : idVals zeroB = #[.int .u8 0, .int .u8 0, .int .u8 0, .int .u8 0, .int .u8 0, .int .u8 0, .int .u8 0, .int .u8 0, .int .u8 0, .int .u8 0, .int .u8 0, .int .u8 0, .int .u8 0, .int .u8 0, .int .u8 0, .int .u8 0, .int .u8 0, .int .u8 0, .int .u8 0, .int .u8 0, .int .u8 0, .int .u8 0, .int .u8 0, .int .u8 0, .int .u8 0, .int .u8 0, .int .u8 0, .int .u8 0, .int .u8 0, .int .u8 0, .int .u8 0, .int .u8 0] := rfl
set_option maxRecDepth 100000 in
set_option maxHeartbeats 1000000 in
theorem rof_any (nm : List UInt8) (hnm : nm.length ≤ 255) (A : Option Addr) (n c : Nat) (ps : List (List UInt8)) (hn : ps.length = n) (hm : (textB nm ps).length ≤ 1000000000000) (w : World) (hr : Rd w A (ps.map strV)) :
    Calls Tryz.prog 40 #[.string (txt nm), .slice A n c] w fun e w' => e = .returned (.agg (idVals (tagB nm ps))) ∧ Below w.heap.size w w' := by
  obtain ⟨S, hS⟩ : ∃ S, S = tagB nm ps := ⟨_, rfl⟩
  have hSl : S.length = 32 := by rw [hS]; exact tagB_length _ _
  have s1 : ∀ W : World, Calls Tryz.prog 60 #[.string (txt (textB nm ps))] W fun e w' => e = .returned (.agg (idVals S)) ∧ Below W.heap.size W w' := fun W => by rw [hS]; exact rsum_any _ hm W
  rw [← hS]
  clear hS
  have HS := hid s1
  have HSL := hid hSl
  have HM := hid hm
  have HNM := hid hnm
  clear s1 hSl hm hnm
  go_enter Tryz.func40, Tryz.ntmps40
  go_wp2_with (fail)
  generalize hZ : (Obj.cells _ 42) = Z
  obtain ⟨zc, rfl, hzc⟩ : ∃ zc : Array Value, Z = Obj.cells zc 42 ∧ zc.size = 32 := ⟨_, hZ.symm, rfl⟩
  clear hZ
  have hR0 := Blk.new w 42 zc
  have hB0 : Below w.heap.size w (w.alloc (.cells zc 42)) := (Below.refl _ _).alloc (Nat.le_refl _) _
  refine (rtext_any nm HNM.out A n c ps hn HM.out _ (hr.below hB0)).mono ?_
  rintro e1 w1 ⟨rfl, hB1⟩
  have hR1 := hR0.below hB1
  have hB := hB0.trans (hB1.mono hB0.size)
  have HZC := hid hzc
  clear hzc hR0 hB0 hB1
  go_wp2_with (first
    | (go_at_call 60; (with_reducible refine (HS.out _).mono ?_); rintro e2 w2 ⟨rfl, hB2⟩; have hR2 := hR1.below hB2)
    | (with_reducible refine wpList_store_blk rfl 42 _ _ rfl w.heap.size zc (idVals S) 42 hR2 rfl rfl ?c2 ?c3 (idVals_one _) ?_))
  case c2 => rw [idVals_size, HSL.out]; exact sizeId
  case c3 => rw [idVals_size, HSL.out]; exact HZC.out
  intro w7 hb7 hg7
  go_wp2
  refine bodyPost_ret (results_cell_row rfl _ _ _ _ _ _ _ rfl hb7 Tryz.underlying42 rfl (by rw [idVals_size, HSL.out]; exact sizeId)) rfl ⟨rfl, ?_⟩
  exact (hB.trans (hB2.mono hB.size)).grown hg7 (Nat.le_trans hB.size hB2.size) (by intro i e; cases e; exact Nat.le_refl _)

/-! ### the chapter's example, and parts that are long -/
end Go.Proofs.YtemdmdgigmhlbaaGreat

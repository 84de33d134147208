
/- A row of two operations; few; the chapter's example. -/
import Derived.Test.YtmfngampccpkhaaCm3
import Derived.Test.YtmfngampccpkhaaLamA
set_option linter.unusedSimpArgs false
set_option linter.unusedVariables false
namespace Go.Proofs.Ytmfngampccpkhaa
open Go.RowKit Go.Qc Go.Shelf
attribute [local go_sem] txt_size txt_append ib_fold txt_toL

set_option maxRecDepth 100000 in
set_option maxHeartbeats 40000000 in
theorem infoOp2 : (Try.prog.info? 42).map (fun i => (i.zero, i.size)) = some (some (.agg #[.int .i64 0, .string ⟨#[]⟩, .string ⟨#[]⟩, .int .i64 0, .slice none 0 0, .slice none 0 0, .int .u8 0, .int .u8 0, .int .u8 0, .int .u8 0, .int .u8 0, .int .u8 0, .int .u8 0, .int .u8 0, .int .u8 0, .int .u8 0, .int .u8 0, .int .u8 0, .int .u8 0, .int .u8 0, .int .u8 0, .int .u8 0, .int .u8 0, .int .u8 0, .int .u8 0, .int .u8 0, .int .u8 0, .int .u8 0, .int .u8 0, .int .u8 0, .int .u8 0, .int .u8 0, .int .u8 0, .int .u8 0, .int .u8 0, .int .u8 0, .int .u8 0, .int .u8 0, .int .i64 0]), 39) := by kernel_rfl
theorem infoOp2_parts : ∃ i Z, Try.prog.info? 42 = some i ∧ i.zero = some (.agg Z) ∧ i.size = 39 ∧ Z.size = 39 := by
  have h := infoOp2
  cases hq : Try.prog.info? 42 with
  | none => rw [hq] at h; cases h
  | some i => rw [hq] at h; simp only [Option.map_some, Option.some.injEq, Prod.mk.injEq] at h; exact ⟨i, _, rfl, h.1, h.2, rfl⟩
theorem wpList_load_opr {ops : Array Oper} {rest : List Oper} {o : Oper} {a : Act} {w : World} {Q : Exit → Act → World → Prop} (hw : Region.wanted o (yielded ops a.tmps) = true) (x : Operand) (ho : o.op = .load 42 x)
    (g q : Nat) (hx : a.eval x = .pointer (some ⟨g, q, none⟩)) {D : OpD} {A : Option Addr} {n c : Nat} {B : Option Addr} {m d : Nat} (hX : w.rangeAt g q (opC D A n c B m d).toList) (hK : D.K.length = 32)
    (h : wpList Try.prog ops Q rest (a.put o.dst (.agg (opC D A n c B m d))) w) : wpList Try.prog ops Q (o :: rest) a w := by
  refine wpList_load_if hw 42 x ho g q hx (opC D A n c B m d).toList _ hX Try.underlying42 rfl ?_ ?_
  · rw [infoOp, Array.length_toList, opC_size _ _ _ _ _ _ _ hK]
  · rw [Array.toArray_toList]; exact h
theorem wpList_store_opn {w : World} {ops : Array Oper} {rest : List Oper} {o : Oper} {a : Act} {Q : Exit → Act → World → Prop} {old : Array Value} (hgd : o.guard = none) (x y : Operand) (ho : o.op = .store 42 x y)
    {D : OpD} {A : Option Addr} {n c : Nat} {B : Option Addr} {m d : Nat} (hx : a.eval x = .pointer (some ⟨w.heap.size, 0, none⟩)) (hy : a.eval y = .agg (opC D A n c B m d)) (hK : D.K.length = 32) (hs : old.size = 39)
    (h : wpList Try.prog ops Q rest (a.put o.dst undef) (w.alloc (.cells (opC D A n c B m d) 42))) : wpList Try.prog ops Q (o :: rest) a (w.alloc (.cells old 42)) :=
  wpList_store_new hgd 42 x y ho (opC D A n c B m d) hx hy (opC_info _ _ _ _ _ _ _ hK) (by rw [opC_size _ _ _ _ _ _ _ hK, hs]) (opC_one _ _ _ _ _ _ _) h
set_option maxRecDepth 100000 in
set_option maxHeartbeats 40000000 in
theorem opP_lit (p : List UInt8) : opC ⟨1, p, [], 0, [], [], zeroB, 0⟩ none 0 0 none 0 0 = #[.int .i64 1, .string (txt p), .string ⟨#[]⟩, .int .i64 0, .slice none 0 0, .slice none 0 0, .int .u8 0, .int .u8 0, .int .u8 0, .int .u8 0, .int .u8 0, .int .u8 0, .int .u8 0, .int .u8 0, .int .u8 0, .int .u8 0, .int .u8 0, .int .u8 0, .int .u8 0, .int .u8 0, .int .u8 0, .int .u8 0, .int .u8 0, .int .u8 0, .int .u8 0, .int .u8 0, .int .u8 0, .int .u8 0, .int .u8 0, .int .u8 0, .int .u8 0, .int .u8 0, .int .u8 0, .int .u8 0, .int .u8 0, .int .u8 0, .int .u8 0, .int .u8 0, .int .i64 0] := by
  unfold opC
  rw [zeroB_vals]
  simp
  try rfl
theorem build_opP (p : List UInt8) (W : World) : (Instr.build 42 #[(0, .int .i64 1), (1, .string (txt p))]).run Try.prog W = .ok (.agg (opC ⟨1, p, [], 0, [], [], zeroB, 0⟩ none 0 0 none 0 0)) W := by
  rw [opP_lit]
  generalize txt p = s
  kernel_rfl
theorem wpList_build_opP {w : World} {ops : Array Oper} {rest : List Oper} {o : Oper} {a : Act} {Q : Exit → Act → World → Prop} (hgd : o.guard = none) (x : Operand) (ho : o.op = .build 42 #[(0, .const (.int .i64 1)), (1, x)]) (p : List UInt8) (hx : a.eval x = .string (txt p))
    (h : wpList Try.prog ops Q rest (a.put o.dst (.agg (opC ⟨1, p, [], 0, [], [], zeroB, 0⟩ none 0 0 none 0 0))) w) : wpList Try.prog ops Q (o :: rest) a w := by
  refine wpList_plain hgd fun K' hK' => ?_
  have hr := build_opP p w
  unfold Oper.wp
  simp only [execOp, ho]
  simp only [Sem.run_bind, List.map_toArray, List.map_cons, List.map_nil, hx]
  simp only [Act.eval, hr, Result.andThen, Sem.run_pure]
  exact hK' _ _ h
set_option maxRecDepth 100000 in
set_option maxHeartbeats 40000000 in
theorem oneop_any (p : List UInt8) (w : World) :
    Calls Try.prog 14 #[.string (txt p)] w fun e w' => e = .returned (.agg (opC ⟨1, p, [], 0, [], [], zeroB, 0⟩ none 0 0 none 0 0)) ∧ Below w.heap.size w w' := by
  go_enter Try.func14, Try.ntmps14
  go_wp2_with (first
    | (with_reducible refine wpList_build_opP rfl _ rfl p rfl ?_)
    | (with_reducible refine wpList_store_opn rfl _ _ rfl rfl rfl rfl (by with_unfolding_all rfl) ?_))
  refine bodyPost_ret (results_cell_row rfl _ _ _ _ _ _ _ rfl (Blk.new _ _ _) Try.underlying42 rfl (opC_info _ _ _ _ _ _ _ rfl)) rfl ?_
  exact ⟨rfl, (Below.refl _ w).alloc (Nat.le_refl _) _⟩
set_option maxRecDepth 100000 in
set_option maxHeartbeats 40000000 in
theorem awake16_any (w : World) : Calls Try.prog 6 #[] w fun e w' => e = .returned (.bool true) ∧ Below w.heap.size w w' := by
  have hR : ∀ (p : List UInt8) (W : World), p.length ≤ 1000 → OpR W ⟨1, p, [], 0, [], [], zeroB, 0⟩ none 0 none 0 := fun p W h => ⟨rfl, by decide, by simp, rfl, by decide, by simp, .inl rfl, .inl rfl, rfl, h, by simp⟩
  have c1 : ∀ W, Calls Try.prog 14 #[.string ⟨#[97]⟩] W fun e w' => e = .returned (.agg (opC ⟨1, [97], [], 0, [], [], zeroB, 0⟩ none 0 0 none 0 0)) ∧ Below W.heap.size W w' := fun W => oneop_any [97] W
  have c2 : ∀ W, Calls Try.prog 14 #[.string ⟨#[98]⟩] W fun e w' => e = .returned (.agg (opC ⟨1, [98], [], 0, [], [], zeroB, 0⟩ none 0 0 none 0 0)) ∧ Below W.heap.size W w' := fun W => oneop_any [98] W
  have c3 : ∀ W, Calls Try.prog 14 #[.string ⟨#[97, 47, 98]⟩] W fun e w' => e = .returned (.agg (opC ⟨1, [97, 47, 98], [], 0, [], [], zeroB, 0⟩ none 0 0 none 0 0)) ∧ Below W.heap.size W w' := fun W => oneop_any [97, 47, 98] W
  have e1 : apB ⟨1, [97], [], 0, [], [], zeroB, 0⟩ ⟨1, [98], [], 0, [], [], zeroB, 0⟩ = true := by decide +kernel
  have e2 : apB ⟨1, [97], [], 0, [], [], zeroB, 0⟩ ⟨1, [97, 47, 98], [], 0, [], [], zeroB, 0⟩ = false := by decide +kernel
  have d1 : ∀ W, Calls Try.prog 15 #[.agg (opC ⟨1, [97], [], 0, [], [], zeroB, 0⟩ none 0 0 none 0 0), .agg (opC ⟨1, [98], [], 0, [], [], zeroB, 0⟩ none 0 0 none 0 0)] W fun e w' => e = .returned (.bool true) ∧ Below W.heap.size W w' := fun W => by
    have h := apart_any ⟨1, [97], [], 0, [], [], zeroB, 0⟩ none 0 0 none 0 0 ⟨1, [98], [], 0, [], [], zeroB, 0⟩ none 0 0 none 0 0 W (hR [97] W (by decide)) (hR [98] W (by decide))
    rwa [e1] at h
  have d2 : ∀ W, Calls Try.prog 15 #[.agg (opC ⟨1, [97], [], 0, [], [], zeroB, 0⟩ none 0 0 none 0 0), .agg (opC ⟨1, [97, 47, 98], [], 0, [], [], zeroB, 0⟩ none 0 0 none 0 0)] W fun e w' => e = .returned (.bool false) ∧ Below W.heap.size W w' := fun W => by
    have h := apart_any ⟨1, [97], [], 0, [], [], zeroB, 0⟩ none 0 0 none 0 0 ⟨1, [97, 47, 98], [], 0, [], [], zeroB, 0⟩ none 0 0 none 0 0 W (hR [97] W (by decide)) (hR [97, 47, 98] W (by decide))
    rwa [e2] at h
  have hg := enters_of Try.func14 (by kernel_rfl) rfl
  have hb := Below.refl w.heap.size w
  clear hR e1 e2
  go_enter Try.func6, Try.ntmps6
  go_wp2_with (first
    | ((with_reducible refine (c1 _).mono ?_); rintro o1 w1 ⟨rfl, h1⟩; replace hb := hb.trans (h1.mono hb.size); clear h1)
    | ((with_reducible refine (c2 _).mono ?_); rintro o1 w1 ⟨rfl, h1⟩; replace hb := hb.trans (h1.mono hb.size); clear h1)
    | ((with_reducible refine (c3 _).mono ?_); rintro o1 w1 ⟨rfl, h1⟩; replace hb := hb.trans (h1.mono hb.size); clear h1)
    | (go_at_call 15; (first | (with_reducible refine (d1 _).mono ?_) | (with_reducible refine (d2 _).mono ?_)); rintro o1 w1 ⟨rfl, h1⟩; replace hb := hb.trans (h1.mono hb.size); clear h1))
  go_ret
  exact ⟨rfl, hb⟩

end Go.Proofs.Ytmfngampccpkhaa


/- A row of two operations; few; the chapter's example. -/
import Derived.Test.YtbdlpdajdlpncaaCm3
import Derived.Test.YtbdlpdajdlpncaaLamA
set_option linter.unusedSimpArgs false
set_option linter.unusedVariables false
namespace Go.Proofs.Ytbdlpdajdlpncaa
open Go.RowKit Go.Qc Go.Shelf
attribute [local go_sem] txt_size txt_append ib_fold txt_toL

set_option maxRecDepth 100000 in
set_option maxHeartbeats 40000000 in
theorem infoOp2 : (Try.prog.info? 45).map (fun i => (i.zero, i.size)) = some (some (.agg #[.int .i64 0, .string ⟨#[]⟩, .string ⟨#[]⟩, .int .i64 0, .slice none 0 0, .slice none 0 0, .int .u8 0, .int .u8 0, .int .u8 0, .int .u8 0, .int .u8 0, .int .u8 0, .int .u8 0, .int .u8 0, .int .u8 0, .int .u8 0, .int .u8 0, .int .u8 0, .int .u8 0, .int .u8 0, .int .u8 0, .int .u8 0, .int .u8 0, .int .u8 0, .int .u8 0, .int .u8 0, .int .u8 0, .int .u8 0, .int .u8 0, .int .u8 0, .int .u8 0, .int .u8 0, .int .u8 0, .int .u8 0, .int .u8 0, .int .u8 0, .int .u8 0, .int .u8 0, .int .i64 0]), 39) := by kernel_rfl
theorem infoOp2_parts : ∃ i Z, Try.prog.info? 45 = some i ∧ i.zero = some (.agg Z) ∧ i.size = 39 ∧ Z.size = 39 := by
  have h := infoOp2
  cases hq : Try.prog.info? 45 with
  | none => rw [hq] at h; cases h
  | some i => rw [hq] at h; simp only [Option.map_some, Option.some.injEq, Prod.mk.injEq] at h; exact ⟨i, _, rfl, h.1, h.2, rfl⟩
theorem put_get_A (off : Nat) (X : Array Value) (cs : Array Value) (h : off + X.size ≤ cs.size) :
    (X.zipIdx.foldl (fun cs (c, j) => cs.setIfInBounds (off + j) c) cs).size = cs.size ∧ ∀ i, (X.zipIdx.foldl (fun cs (c, j) => cs.setIfInBounds (off + j) c) cs)[i]? = if off ≤ i ∧ i < off + X.size then X.toList[i - off]? else cs[i]? := by
  have := put_get off X.toList 0 cs (by rw [Array.length_toList]; omega)
  rw [Array.length_toList, Nat.add_zero, show ((X.toList).zipIdx 0).foldl (fun cs x => cs.setIfInBounds (off + x.2) x.1) cs = X.zipIdx.foldl (fun cs (c, j) => cs.setIfInBounds (off + j) c) cs by rw [← Array.foldl_toList, Array.toList_zipIdx]] at this
  exact this
theorem wpList_build2o {w : World} {ops : Array Oper} {rest : List Oper} {o : Oper} {a : Act} {Q : Exit → Act → World → Prop} (hgd : o.guard = none) (x y : Operand) (ho : o.op = .buildSlice 47 2 #[(0, x), (1, y)])
    (X Y : Array Value) (lx : X.size = 39) (ly : Y.size = 39) (hx : a.eval x = .agg X) (hy : a.eval y = .agg Y)
    (h : ∀ cs, (w.alloc (.cells cs 45)).rangeAt w.heap.size 0 X.toList → (w.alloc (.cells cs 45)).rangeAt w.heap.size 39 Y.toList → wpList Try.prog ops Q rest (a.put o.dst (.slice (some ⟨w.heap.size, 0, none⟩) 2 2)) (w.alloc (.cells cs 45))) :
    wpList Try.prog ops Q (o :: rest) a w := by
  obtain ⟨j0, Z, hj, hjz, hjs, hZ⟩ := infoOp2_parts
  obtain ⟨zs, hzs⟩ : ∃ zs : Array Value, zs = (Array.range (2 * j0.size)).map ((Value.agg Z).cells[· % (Value.agg Z).cells.size]!) := ⟨_, rfl⟩
  have hz : zs.size = 78 := by rw [hzs, hjs]; simp
  obtain ⟨s1, g1⟩ := put_get_A 0 X zs (by rw [hz, lx]; decide)
  generalize hc1 : X.zipIdx.foldl (fun cs (c, j) => cs.setIfInBounds (0 + j) c) zs = c1 at s1 g1
  obtain ⟨s2, g2⟩ := put_get_A 39 Y c1 (by rw [s1, hz, ly]; decide)
  generalize hc2 : Y.zipIdx.foldl (fun cs (c, j) => cs.setIfInBounds (39 + j) c) c1 = c2 at s2 g2
  refine wpList_buildSlice hgd 47 45 2 #[(0, x), (1, y)] ho c2 j0 (.agg Z) Try.underlying47 hj hjz (by rw [hjs]; decide) (by rw [hjs]; decide) ?_ (h c2 ?_ ?_)
  · rw [← hzs, hjs]
    have e1 : (Value.agg X).cells = X := rfl
    have e2 : (Value.agg Y).cells = Y := rfl
    simp only [List.map_toArray, List.map_cons, List.map_nil, hx, hy, Instr.fill, e1, e2, lx, ly, hz]
    rw [if_neg (by decide)]
    simp only [Nat.zero_mul, Nat.one_mul]
    rw [hc1, s1, hz, if_neg (by decide), hc2]
  · intro j u hj'
    have hlt : j < 39 := by have := (List.getElem?_eq_some_iff.1 hj').1; rw [Array.length_toList, lx] at this; exact this
    rw [cell_of_row _ _ _ _ _ _ (heap_alloc_new w _), Nat.zero_add, g2, if_neg (by omega), g1, lx, if_pos (by omega), Nat.sub_zero]
    exact hj'
  · intro j u hj'
    have hlt : j < 39 := by have := (List.getElem?_eq_some_iff.1 hj').1; rw [Array.length_toList, ly] at this; exact this
    rw [cell_of_row _ _ _ _ _ _ (heap_alloc_new w _), g2, ly, if_pos (by omega), show 39 + j - 39 = j by omega]
    exact hj'
theorem wpList_load_opr {ops : Array Oper} {rest : List Oper} {o : Oper} {a : Act} {w : World} {Q : Exit → Act → World → Prop} (hw : Region.wanted o (yielded ops a.tmps) = true) (x : Operand) (ho : o.op = .load 45 x)
    (g q : Nat) (hx : a.eval x = .pointer (some ⟨g, q, none⟩)) {D : OpD} {A : Option Addr} {n c : Nat} {B : Option Addr} {m d : Nat} (hX : w.rangeAt g q (opC D A n c B m d).toList) (hK : D.K.length = 32)
    (h : wpList Try.prog ops Q rest (a.put o.dst (.agg (opC D A n c B m d))) w) : wpList Try.prog ops Q (o :: rest) a w := by
  refine wpList_load_if hw 45 x ho g q hx (opC D A n c B m d).toList _ hX Try.underlying45 rfl ?_ ?_
  · rw [infoOp, Array.length_toList, opC_size _ _ _ _ _ _ _ hK]
  · rw [Array.toArray_toList]; exact h
theorem wpList_store_op {w : World} {ops : Array Oper} {rest : List Oper} {o : Oper} {a : Act} {Q : Exit → Act → World → Prop} (hgd : o.guard = none) (x y : Operand) (ho : o.op = .store 45 x y)
    (g : Nat) {old : Array Value} {D : OpD} {A : Option Addr} {n c : Nat} {B : Option Addr} {m d : Nat} (hg : Blk w g 45 old) (hx : a.eval x = .pointer (some ⟨g, 0, none⟩)) (hy : a.eval y = .agg (opC D A n c B m d)) (hK : D.K.length = 32) (hs : old.size = 39)
    (h : ∀ w', Blk w' g 45 (opC D A n c B m d) → w.grownBy w' (some g) → wpList Try.prog ops Q rest (a.put o.dst undef) w') : wpList Try.prog ops Q (o :: rest) a w :=
  wpList_store_blk hgd 45 x y ho g old (opC D A n c B m d) 45 hg hx hy (opC_info _ _ _ _ _ _ _ hK) (by rw [opC_size _ _ _ _ _ _ _ hK, hs]) (opC_one _ _ _ _ _ _ _) h
theorem wpList_store_opn {w : World} {ops : Array Oper} {rest : List Oper} {o : Oper} {a : Act} {Q : Exit → Act → World → Prop} {old : Array Value} (hgd : o.guard = none) (x y : Operand) (ho : o.op = .store 45 x y)
    {D : OpD} {A : Option Addr} {n c : Nat} {B : Option Addr} {m d : Nat} (hx : a.eval x = .pointer (some ⟨w.heap.size, 0, none⟩)) (hy : a.eval y = .agg (opC D A n c B m d)) (hK : D.K.length = 32) (hs : old.size = 39)
    (h : wpList Try.prog ops Q rest (a.put o.dst undef) (w.alloc (.cells (opC D A n c B m d) 45))) : wpList Try.prog ops Q (o :: rest) a (w.alloc (.cells old 45)) :=
  wpList_store_new hgd 45 x y ho (opC D A n c B m d) hx hy (opC_info _ _ _ _ _ _ _ hK) (by rw [opC_size _ _ _ _ _ _ _ hK, hs]) (opC_one _ _ _ _ _ _ _) h
theorem index_op (g k : Nat) (hk : k < 2) (W : World) : (Instr.indexAt 47 (.slice (some ⟨g, 0, none⟩) 2 2) (.int .i64 (k : Int))).run Try.prog W = .ok (.pointer (some ⟨g, k * 39, none⟩)) W := by
  obtain ⟨i0, Z, hi, _, h39, _⟩ := infoOp2_parts
  have h1 : (0 : Int) ≤ (k : Int) ∧ (k : Int) < 2 := by omega
  simp [Instr.indexAt, run_underlying Try.underlying47, asIntOf, h1, sizeOf, typeInfo, hi, h39, Addr.add_lit, Int.toNat_natCast]
  intro h2; omega
theorem index_one (g k : Nat) (hk : k < 1) (W : World) : (Instr.indexAt 85 (.slice (some ⟨g, 0, none⟩) 1 1) (.int .i64 (k : Int))).run Try.prog W = .ok (.pointer (some ⟨g, 0, none⟩)) W := by
  obtain ⟨i0, hi, _, h1', _⟩ : ∃ i, Try.prog.info? 47 = some i ∧ i.zero = some (.slice none 0 0) ∧ i.size = 1 ∧ i.bytes = 24 := info_parts (by kernel_rfl)
  have h1 : (0 : Int) ≤ (k : Int) ∧ (k : Int) < 1 := by omega
  have h0 : k = 0 := by omega
  subst h0
  simp [Instr.indexAt, run_underlying Try.underlying85, asIntOf, sizeOf, typeInfo, hi, h1', Addr.add_lit]

set_option maxRecDepth 100000 in
set_option maxHeartbeats 40000000 in
theorem few2_x (D : OpD) (A : Option Addr) (n c : Nat) (B : Option Addr) (m d : Nat) (E : OpD) (A2 : Option Addr) (n2 c2 : Nat) (B2 : Option Addr) (m2 d2 : Nat) (w : World) (K1 : D.K.length = 32) (K2 : E.K.length = 32) (gR gO : Nat) (hR : w.cell? ⟨gR, 0, none⟩ = some (.slice (some ⟨gO, 0, none⟩) 2 2)) (hA : w.rangeAt gO 0 (opC D A n c B m d).toList) (hE : w.rangeAt gO 39 (opC E A2 n2 c2 B2 m2 d2).toList) (cL1 : ∀ W, Below w.heap.size w W → Calls Try.prog 54 #[.agg (opC D A n c B m d)] W fun o w' => o = .returned (.bool true) ∧ Below W.heap.size W w') :
    Calls Try.prog 21 #[.slice (some ⟨gR, 0, none⟩) 1 1] w fun e w' => e = .returned (.bool false) ∧ Below w.heap.size w w' := by
  go_enter Try.func21, Try.ntmps21
  go_wp2
  go_loopw [9] (fun i wr => ∃ k : Nat, k ≤ 1 ∧ i = .int .i64 k ∧ (k = 1 → False) ∧ Below w.heap.size w wr) (fun i _ => 1 - (intOf i).toNat)
  case atStart => exact ⟨0, by omega, rfl, (fun h => by cases h), Below.refl _ _⟩
  case round =>
    obtain ⟨k, hk, rfl, hkk, hb⟩ := hrel
    by_cases hlt : k < 1
    · have b1 : (k : Int) < 1 := by omega
      have hix := index_one gR k hlt
      have hR2 := Below.keep hb hR
      have fA := hA.below hb
      have fE := hE.below hb
      clear hkk
      go_wp2_with (fail)
      go_loopw [18] (fun i wr => ∃ j : Nat, j ≤ 2 ∧ i = .int .i64 j ∧ (1 ≤ j → False) ∧ Below w.heap.size w wr) (fun i _ => 2 - (intOf i).toNat)
      case atStart => exact ⟨0, by omega, rfl, (fun h => by omega), hb⟩
      case round =>
        clear hb hR2 fA fE
        obtain ⟨j, hj, rfl, hjj, hb⟩ := hrel
        by_cases hlt2 : j < 2
        · have c1 : (j : Int) < 2 := by omega
          have hiy0 := index_op gO j hlt2
          have fA := hA.below hb
          have fE := hE.below hb
          by_cases hj0 : j = 0
          · have HJ := hid hj0
            have hiy : ∀ W, (Instr.indexAt 47 (.slice (some ⟨gO, 0, none⟩) 2 2) (.int .i64 (j : Int))).run Try.prog W = .ok (.pointer (some ⟨gO, 0, none⟩)) W := fun W => by
              have q := hiy0 W
              rwa [show j * 39 = 0 by omega] at q
            clear hj0 hjj hiy0
            have hz1 := fun (W : World) => OpX.new W D A n c B m d
            go_wp2_with (first
              | (with_reducible refine wpList_load_opr (by with_unfolding_all rfl) _ rfl _ _ rfl fA K1 ?_)
              | ((with_reducible refine wpList_store_opn rfl _ _ rfl rfl rfl K1 (by with_unfolding_all rfl) ?_); have hb3 := hb.alloc hb.size (.cells (opC D A n c B m d) 45))
              | (with_reducible refine wpList_load_opx (by with_unfolding_all rfl) _ rfl _ rfl (hz1 _) K1 ?_)
              | (go_at_call 54; (with_reducible refine (cL1 _ hb3).mono ?_); rintro o4 w4 ⟨rfl, hb4⟩; have hb5 := hb3.trans (hb4.mono hb3.size)))
            go_ret
            exact ⟨rfl, hb5⟩
          · exact (hjj (by omega)).elim
        · exact (hjj (by omega)).elim
    · exact (hkk (by omega)).elim

set_option maxRecDepth 100000 in
set_option maxHeartbeats 40000000 in
theorem few2_y (D : OpD) (A : Option Addr) (n c : Nat) (B : Option Addr) (m d : Nat) (E : OpD) (A2 : Option Addr) (n2 c2 : Nat) (B2 : Option Addr) (m2 d2 : Nat) (w : World) (K1 : D.K.length = 32) (K2 : E.K.length = 32) (gR gO : Nat) (hR : w.cell? ⟨gR, 0, none⟩ = some (.slice (some ⟨gO, 0, none⟩) 2 2)) (hA : w.rangeAt gO 0 (opC D A n c B m d).toList) (hE : w.rangeAt gO 39 (opC E A2 n2 c2 B2 m2 d2).toList) (cL1 : ∀ W, Below w.heap.size w W → Calls Try.prog 54 #[.agg (opC D A n c B m d)] W fun o w' => o = .returned (.bool false) ∧ Below W.heap.size W w') (cL2 : ∀ W, Below w.heap.size w W → Calls Try.prog 54 #[.agg (opC E A2 n2 c2 B2 m2 d2)] W fun o w' => o = .returned (.bool true) ∧ Below W.heap.size W w') :
    Calls Try.prog 21 #[.slice (some ⟨gR, 0, none⟩) 1 1] w fun e w' => e = .returned (.bool false) ∧ Below w.heap.size w w' := by
  go_enter Try.func21, Try.ntmps21
  go_wp2
  go_loopw [9] (fun i wr => ∃ k : Nat, k ≤ 1 ∧ i = .int .i64 k ∧ (k = 1 → False) ∧ Below w.heap.size w wr) (fun i _ => 1 - (intOf i).toNat)
  case atStart => exact ⟨0, by omega, rfl, (fun h => by cases h), Below.refl _ _⟩
  case round =>
    obtain ⟨k, hk, rfl, hkk, hb⟩ := hrel
    by_cases hlt : k < 1
    · have b1 : (k : Int) < 1 := by omega
      have hix := index_one gR k hlt
      have hR2 := Below.keep hb hR
      have fA := hA.below hb
      have fE := hE.below hb
      clear hkk
      go_wp2_with (fail)
      go_loopw [18] (fun i wr => ∃ j : Nat, j ≤ 2 ∧ i = .int .i64 j ∧ (2 ≤ j → False) ∧ Below w.heap.size w wr) (fun i _ => 2 - (intOf i).toNat)
      case atStart => exact ⟨0, by omega, rfl, (fun h => by omega), hb⟩
      case round =>
        clear hb hR2 fA fE
        obtain ⟨j, hj, rfl, hjj, hb⟩ := hrel
        by_cases hlt2 : j < 2
        · have c1 : (j : Int) < 2 := by omega
          have hiy0 := index_op gO j hlt2
          have fA := hA.below hb
          have fE := hE.below hb
          by_cases hj0 : j = 0
          · have HJ := hid hj0
            have hiy : ∀ W, (Instr.indexAt 47 (.slice (some ⟨gO, 0, none⟩) 2 2) (.int .i64 (j : Int))).run Try.prog W = .ok (.pointer (some ⟨gO, 0, none⟩)) W := fun W => by
              have q := hiy0 W
              rwa [show j * 39 = 0 by omega] at q
            clear hj0 hjj hiy0
            have hz1 := fun (W : World) => OpX.new W D A n c B m d
            go_wp2_with (first
              | (with_reducible refine wpList_load_opr (by with_unfolding_all rfl) _ rfl _ _ rfl fA K1 ?_)
              | ((with_reducible refine wpList_store_opn rfl _ _ rfl rfl rfl K1 (by with_unfolding_all rfl) ?_); have hb3 := hb.alloc hb.size (.cells (opC D A n c B m d) 45))
              | (with_reducible refine wpList_load_opx (by with_unfolding_all rfl) _ rfl _ rfl (hz1 _) K1 ?_)
              | (go_at_call 54; (with_reducible refine (cL1 _ hb3).mono ?_); rintro o4 w4 ⟨rfl, hb4⟩; have hb5 := hb3.trans (hb4.mono hb3.size)))
            go_roundw
            case rel => exact ⟨j + 1, hlt2, by go_num, (fun h => by have := HJ.out; omega), hb5⟩
            case measure => simp [intOf]; omega
          · have hj1 : j = 1 := by omega
            have HJ := hid hj1
            have hiy : ∀ W, (Instr.indexAt 47 (.slice (some ⟨gO, 0, none⟩) 2 2) (.int .i64 (j : Int))).run Try.prog W = .ok (.pointer (some ⟨gO, 39, none⟩)) W := fun W => by
              have q := hiy0 W
              rwa [show j * 39 = 39 by omega] at q
            clear hj0 hj1 hjj hiy0
            have hz2 := fun (W : World) => OpX.new W E A2 n2 c2 B2 m2 d2
            go_wp2_with (first
              | (with_reducible refine wpList_load_opr (by with_unfolding_all rfl) _ rfl _ _ rfl fE K2 ?_)
              | ((with_reducible refine wpList_store_opn rfl _ _ rfl rfl rfl K2 (by with_unfolding_all rfl) ?_); have hb3 := hb.alloc hb.size (.cells (opC E A2 n2 c2 B2 m2 d2) 45))
              | (with_reducible refine wpList_load_opx (by with_unfolding_all rfl) _ rfl _ rfl (hz2 _) K2 ?_)
              | (go_at_call 54; (with_reducible refine (cL2 _ hb3).mono ?_); rintro o4 w4 ⟨rfl, hb4⟩; have hb5 := hb3.trans (hb4.mono hb3.size)))
            go_ret
            exact ⟨rfl, hb5⟩
        · exact (hjj (by omega)).elim
    · exact (hkk (by omega)).elim

set_option maxRecDepth 100000 in
set_option maxHeartbeats 40000000 in
theorem few2_n (D : OpD) (A : Option Addr) (n c : Nat) (B : Option Addr) (m d : Nat) (E : OpD) (A2 : Option Addr) (n2 c2 : Nat) (B2 : Option Addr) (m2 d2 : Nat) (w : World) (K1 : D.K.length = 32) (K2 : E.K.length = 32) (gR gO : Nat) (hR : w.cell? ⟨gR, 0, none⟩ = some (.slice (some ⟨gO, 0, none⟩) 2 2)) (hA : w.rangeAt gO 0 (opC D A n c B m d).toList) (hE : w.rangeAt gO 39 (opC E A2 n2 c2 B2 m2 d2).toList) (cL1 : ∀ W, Below w.heap.size w W → Calls Try.prog 54 #[.agg (opC D A n c B m d)] W fun o w' => o = .returned (.bool false) ∧ Below W.heap.size W w') (cL2 : ∀ W, Below w.heap.size w W → Calls Try.prog 54 #[.agg (opC E A2 n2 c2 B2 m2 d2)] W fun o w' => o = .returned (.bool false) ∧ Below W.heap.size W w') :
    Calls Try.prog 21 #[.slice (some ⟨gR, 0, none⟩) 1 1] w fun e w' => e = .returned (.bool true) ∧ Below w.heap.size w w' := by
  go_enter Try.func21, Try.ntmps21
  go_wp2
  go_loopw [9] (fun i wr => ∃ k : Nat, k ≤ 1 ∧ i = .int .i64 k ∧ True ∧ Below w.heap.size w wr) (fun i _ => 1 - (intOf i).toNat)
  case atStart => exact ⟨0, by omega, rfl, trivial, Below.refl _ _⟩
  case round =>
    obtain ⟨k, hk, rfl, hkk, hb⟩ := hrel
    by_cases hlt : k < 1
    · have b1 : (k : Int) < 1 := by omega
      have hix := index_one gR k hlt
      have hR2 := Below.keep hb hR
      have fA := hA.below hb
      have fE := hE.below hb
      clear hkk
      go_wp2_with (fail)
      go_loopw [18] (fun i wr => ∃ j : Nat, j ≤ 2 ∧ i = .int .i64 j ∧ True ∧ Below w.heap.size w wr) (fun i _ => 2 - (intOf i).toNat)
      case atStart => exact ⟨0, by omega, rfl, trivial, hb⟩
      case round =>
        clear hb hR2 fA fE
        obtain ⟨j, hj, rfl, hjj, hb⟩ := hrel
        by_cases hlt2 : j < 2
        · have c1 : (j : Int) < 2 := by omega
          have hiy0 := index_op gO j hlt2
          have fA := hA.below hb
          have fE := hE.below hb
          by_cases hj0 : j = 0
          · have HJ := hid hj0
            have hiy : ∀ W, (Instr.indexAt 47 (.slice (some ⟨gO, 0, none⟩) 2 2) (.int .i64 (j : Int))).run Try.prog W = .ok (.pointer (some ⟨gO, 0, none⟩)) W := fun W => by
              have q := hiy0 W
              rwa [show j * 39 = 0 by omega] at q
            clear hj0 hjj hiy0
            have hz1 := fun (W : World) => OpX.new W D A n c B m d
            go_wp2_with (first
              | (with_reducible refine wpList_load_opr (by with_unfolding_all rfl) _ rfl _ _ rfl fA K1 ?_)
              | ((with_reducible refine wpList_store_opn rfl _ _ rfl rfl rfl K1 (by with_unfolding_all rfl) ?_); have hb3 := hb.alloc hb.size (.cells (opC D A n c B m d) 45))
              | (with_reducible refine wpList_load_opx (by with_unfolding_all rfl) _ rfl _ rfl (hz1 _) K1 ?_)
              | (go_at_call 54; (with_reducible refine (cL1 _ hb3).mono ?_); rintro o4 w4 ⟨rfl, hb4⟩; have hb5 := hb3.trans (hb4.mono hb3.size)))
            go_roundw
            case rel => exact ⟨j + 1, hlt2, by go_num, trivial, hb5⟩
            case measure => simp [intOf]; omega
          · have hj1 : j = 1 := by omega
            have HJ := hid hj1
            have hiy : ∀ W, (Instr.indexAt 47 (.slice (some ⟨gO, 0, none⟩) 2 2) (.int .i64 (j : Int))).run Try.prog W = .ok (.pointer (some ⟨gO, 39, none⟩)) W := fun W => by
              have q := hiy0 W
              rwa [show j * 39 = 39 by omega] at q
            clear hj0 hj1 hjj hiy0
            have hz2 := fun (W : World) => OpX.new W E A2 n2 c2 B2 m2 d2
            go_wp2_with (first
              | (with_reducible refine wpList_load_opr (by with_unfolding_all rfl) _ rfl _ _ rfl fE K2 ?_)
              | ((with_reducible refine wpList_store_opn rfl _ _ rfl rfl rfl K2 (by with_unfolding_all rfl) ?_); have hb3 := hb.alloc hb.size (.cells (opC E A2 n2 c2 B2 m2 d2) 45))
              | (with_reducible refine wpList_load_opx (by with_unfolding_all rfl) _ rfl _ rfl (hz2 _) K2 ?_)
              | (go_at_call 54; (with_reducible refine (cL2 _ hb3).mono ?_); rintro o4 w4 ⟨rfl, hb4⟩; have hb5 := hb3.trans (hb4.mono hb3.size)))
            go_roundw
            case rel => exact ⟨j + 1, hlt2, by go_num, trivial, hb5⟩
            case measure => simp [intOf]; omega
        · obtain rfl : j = 2 := by omega
          have c1 : ¬ ((2 : Nat) : Int) < 2 := by omega
          go_wp2
          go_roundw
          case rel => exact ⟨k + 1, hlt, by go_num, trivial, hb⟩
          case measure => simp [intOf]; omega
    · have b1 : ¬ (k : Int) < 1 := by omega
      go_wp2
      go_ret
      exact ⟨rfl, hb⟩

set_option maxRecDepth 100000 in
set_option maxHeartbeats 40000000 in
theorem opP_lit (p : List UInt8) : opC ⟨1, p, [], 0, [], [], zeroB, 0⟩ none 0 0 none 0 0 = #[.int .i64 1, .string (txt p), .string ⟨#[]⟩, .int .i64 0, .slice none 0 0, .slice none 0 0, .int .u8 0, .int .u8 0, .int .u8 0, .int .u8 0, .int .u8 0, .int .u8 0, .int .u8 0, .int .u8 0, .int .u8 0, .int .u8 0, .int .u8 0, .int .u8 0, .int .u8 0, .int .u8 0, .int .u8 0, .int .u8 0, .int .u8 0, .int .u8 0, .int .u8 0, .int .u8 0, .int .u8 0, .int .u8 0, .int .u8 0, .int .u8 0, .int .u8 0, .int .u8 0, .int .u8 0, .int .u8 0, .int .u8 0, .int .u8 0, .int .u8 0, .int .u8 0, .int .i64 0] := by
  unfold opC
  rw [zeroB_vals]
  simp
  try rfl
theorem build_opP (p : List UInt8) (W : World) : (Instr.build 45 #[(0, .int .i64 1), (1, .string (txt p))]).run Try.prog W = .ok (.agg (opC ⟨1, p, [], 0, [], [], zeroB, 0⟩ none 0 0 none 0 0)) W := by
  rw [opP_lit]
  generalize txt p = s
  kernel_rfl
theorem wpList_build_opP {w : World} {ops : Array Oper} {rest : List Oper} {o : Oper} {a : Act} {Q : Exit → Act → World → Prop} (hgd : o.guard = none) (x : Operand) (ho : o.op = .build 45 #[(0, .const (.int .i64 1)), (1, x)]) (p : List UInt8) (hx : a.eval x = .string (txt p))
    (h : wpList Try.prog ops Q rest (a.put o.dst (.agg (opC ⟨1, p, [], 0, [], [], zeroB, 0⟩ none 0 0 none 0 0))) w) : wpList Try.prog ops Q (o :: rest) a w := by
  refine wpList_plain hgd fun K' hK' => ?_
  have hr := build_opP p w
  unfold Oper.wp
  simp only [execOp, ho]
  simp only [Sem.run_bind, List.map_toArray, List.map_cons, List.map_nil, hx]
  simp only [Act.eval, hr, Result.andThen, Sem.run_pure]
  exact hK' _ _ h
set_option maxRecDepth 100000 in
set_option maxHeartbeats 40000000 in
theorem oneop_any (p : List UInt8) (w : World) :
    Calls Try.prog 55 #[.string (txt p)] w fun e w' => e = .returned (.agg (opC ⟨1, p, [], 0, [], [], zeroB, 0⟩ none 0 0 none 0 0)) ∧ Below w.heap.size w w' := by
  go_enter Try.func55, Try.ntmps55
  go_wp2_with (first
    | (with_reducible refine wpList_build_opP rfl _ rfl p rfl ?_)
    | (with_reducible refine wpList_store_opn rfl _ _ rfl rfl rfl rfl (by with_unfolding_all rfl) ?_))
  refine bodyPost_ret (results_cell_row rfl _ _ _ _ _ _ _ rfl (Blk.new _ _ _) Try.underlying45 rfl (opC_info _ _ _ _ _ _ _ rfl)) rfl ?_
  exact ⟨rfl, (Below.refl _ w).alloc (Nat.le_refl _) _⟩
set_option maxRecDepth 100000 in
set_option maxHeartbeats 40000000 in
theorem awake16_any (w : World) : Calls Try.prog 22 #[] w fun e w' => e = .returned (.bool true) ∧ Below w.heap.size w w' := by
  have hR : ∀ (p : List UInt8) (W : World), p.length ≤ 1000 → OpR W ⟨1, p, [], 0, [], [], zeroB, 0⟩ none 0 none 0 := fun p W h => ⟨rfl, by decide, by simp, rfl, by decide, by simp, .inl rfl, .inl rfl, rfl, h, by simp⟩
  have c1 : ∀ W, Calls Try.prog 55 #[.string ⟨#[97]⟩] W fun e w' => e = .returned (.agg (opC ⟨1, [97], [], 0, [], [], zeroB, 0⟩ none 0 0 none 0 0)) ∧ Below W.heap.size W w' := fun W => oneop_any [97] W
  have c2 : ∀ W, Calls Try.prog 55 #[.string ⟨#[98]⟩] W fun e w' => e = .returned (.agg (opC ⟨1, [98], [], 0, [], [], zeroB, 0⟩ none 0 0 none 0 0)) ∧ Below W.heap.size W w' := fun W => oneop_any [98] W
  have c3 : ∀ W, Calls Try.prog 55 #[.string ⟨#[97, 47, 98]⟩] W fun e w' => e = .returned (.agg (opC ⟨1, [97, 47, 98], [], 0, [], [], zeroB, 0⟩ none 0 0 none 0 0)) ∧ Below W.heap.size W w' := fun W => oneop_any [97, 47, 98] W
  have e1 : apB ⟨1, [97], [], 0, [], [], zeroB, 0⟩ ⟨1, [98], [], 0, [], [], zeroB, 0⟩ = true := by decide +kernel
  have e2 : apB ⟨1, [97], [], 0, [], [], zeroB, 0⟩ ⟨1, [97, 47, 98], [], 0, [], [], zeroB, 0⟩ = false := by decide +kernel
  have d1 : ∀ W, Calls Try.prog 25 #[.agg (opC ⟨1, [97], [], 0, [], [], zeroB, 0⟩ none 0 0 none 0 0), .agg (opC ⟨1, [98], [], 0, [], [], zeroB, 0⟩ none 0 0 none 0 0)] W fun e w' => e = .returned (.bool true) ∧ Below W.heap.size W w' := fun W => by
    have h := apart_any ⟨1, [97], [], 0, [], [], zeroB, 0⟩ none 0 0 none 0 0 ⟨1, [98], [], 0, [], [], zeroB, 0⟩ none 0 0 none 0 0 W (hR [97] W (by decide)) (hR [98] W (by decide))
    rwa [e1] at h
  have d2 : ∀ W, Calls Try.prog 25 #[.agg (opC ⟨1, [97], [], 0, [], [], zeroB, 0⟩ none 0 0 none 0 0), .agg (opC ⟨1, [97, 47, 98], [], 0, [], [], zeroB, 0⟩ none 0 0 none 0 0)] W fun e w' => e = .returned (.bool false) ∧ Below W.heap.size W w' := fun W => by
    have h := apart_any ⟨1, [97], [], 0, [], [], zeroB, 0⟩ none 0 0 none 0 0 ⟨1, [97, 47, 98], [], 0, [], [], zeroB, 0⟩ none 0 0 none 0 0 W (hR [97] W (by decide)) (hR [97, 47, 98] W (by decide))
    rwa [e2] at h
  have hg := enters_of Try.func55 (by kernel_rfl) rfl
  have hb := Below.refl w.heap.size w
  clear hR e1 e2
  go_enter Try.func22, Try.ntmps22
  go_wp2_with (first
    | ((with_reducible refine (c1 _).mono ?_); rintro o1 w1 ⟨rfl, h1⟩; replace hb := hb.trans (h1.mono hb.size); clear h1)
    | ((with_reducible refine (c2 _).mono ?_); rintro o1 w1 ⟨rfl, h1⟩; replace hb := hb.trans (h1.mono hb.size); clear h1)
    | ((with_reducible refine (c3 _).mono ?_); rintro o1 w1 ⟨rfl, h1⟩; replace hb := hb.trans (h1.mono hb.size); clear h1)
    | (go_at_call 25; (first | (with_reducible refine (d1 _).mono ?_) | (with_reducible refine (d2 _).mono ?_)); rintro o1 w1 ⟨rfl, h1⟩; replace hb := hb.trans (h1.mono hb.size); clear h1))
  go_ret
  exact ⟨rfl, hb⟩

end Go.Proofs.Ytbdlpdajdlpncaa

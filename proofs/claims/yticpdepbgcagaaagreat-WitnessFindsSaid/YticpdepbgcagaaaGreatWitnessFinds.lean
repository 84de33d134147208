
/- Proved: for all bytes, seeds, rows, sums and signatures, quitclaimlaw09.WitnessFinds returns true and leaves its arguments as they were. No conditions. -/
import Derived.Test.YticpdepbgcagaaaGreatWi14
import Derived.Test.YticpdepbgcagaaaGreatWo1
import Derived.Test.YticpdepbgcagaaaGreatRows
import Derived.ChangeShapes
import Derived.Deep.DeepCutAuto
set_option linter.unusedSimpArgs false
set_option linter.unusedVariables false
namespace Go.Proofs.YticpdepbgcagaaaGreat
open Go.RowKit Go.Qc Go.Shelf
attribute [local go_sem] txt_size txt_append ib_fold

theorem wpList_load_wt {w : World} {ops : Array Oper} {rest : List Oper} {o : Oper} {a : Act} {Q : Exit → Act → World → Prop} (hgd : Region.wanted o (yielded ops a.tmps) = true) (x : Operand) (ho : o.op = .load 32 x)
    (g : Nat) (cs : Array Value) (hx : a.eval x = .pointer (some ⟨g, 0, none⟩)) (hr : Blk w g 32 cs) (hc : (Tryz.prog.info? 32).map (·.size) = some cs.size)
    (h : wpList Tryz.prog ops Q rest (a.put o.dst (.agg cs)) w) : wpList Tryz.prog ops Q (o :: rest) a w := by
  refine wpList_load_if hgd 32 x ho g 0 hx cs.toList _ (fun j v hj => by rw [Nat.zero_add]; exact hr.cell_ (by rw [← Array.getElem?_toList]; exact hj)) Tryz.underlying32 rfl ?_ ?_
  · rw [Array.length_toList]; exact hc
  · rw [Array.toArray_toList]; exact h

theorem mod3_fact (N : Nat) : ((N : Int)).tmod 3 = ((N % 3 : Nat) : Int) := by rw [Int.tmod_eq_emod_of_nonneg (by omega)]; rfl
theorem rgt8 (H : Nat) (h : H ≤ 2) : rgtP (8 : Nat) H = true := by
  rcases (show H = 0 ∨ H = 1 ∨ H = 2 by omega) with rfl | rfl | rfl <;> decide
theorem fdW_form (n H L : Nat) (s a : List UInt8) (l r way : List (List UInt8)) (Xs : List WiD) (h32 : ∀ x ∈ l, x.length = 32) : ∃ k x y p b sd V, V.length = 32 ∧ fdW n H L s a l r way Xs = wtC k x y p b sd V := by
  unfold fdW
  cases unlW (wiT n H L a l r way) (wiT n H L a (upTo (shownX s L a) n) (upTo (hiddenX s L a) n) (upTo (wayF (lfF s n) L) H)) (H + 1 + 1) with
  | some k => exact ⟨_, _, _, _, _, _, zeroB, rfl, rfl⟩
  | none =>
    unfold fdR
    simp only
    split
    · exact ⟨_, _, _, _, _, _, zeroB, rfl, rfl⟩
    · split
      · exact ⟨_, _, _, _, _, _, _, getB_length h32 _, rfl⟩
      · exact ⟨_, _, _, _, _, _, zeroB, rfl, rfl⟩

set_option maxRecDepth 100000 in
set_option maxHeartbeats 20000000 in
theorem wfin_long0 (w : World) (N : Nat) (hN : N < 256) (s : List UInt8) (X : Option Addr) (x cx : Nat) (Xs : List WiD) (hX : WiRow w X x Xs) (a : List UInt8) (ha : a.length = 32) (L : Int) (A B C : Option Addr) (k1 k2 k3 c1 c2 c3 : Nat)  (g0 : 60 < s.length) :
    Calls Tryz.prog 3 #[.int .u8 N, .string (txt s), .slice X x cx, .agg (idVals a), .agg #[.int .i64 L, .slice A k1 c1, .slice B k2 c2, .slice C k3 c3]] w fun e w' => e = .returned (.bool true) ∧ Below w.heap.size w w' := by
  have m3 := mod3_fact N
  have h1 := (Below.refl w.heap.size w).alloc (Nat.le_refl _) (.cells (idVals a) 24)
  have h2 := h1.alloc h1.size (.cells #[.int .i64 L, .slice A k1 c1, .slice B k2 c2, .slice C k3 c3] 27)
  have h3 := h2.alloc h2.size (.cells #[.int .i64 8, .int .i64 ((N % 3 : Nat) : Int)] 29)
  have z0 : (60 : Int) < s.length := by omega
  generalize N % 3 = H at *
  clear hX g0
  go_enter Tryz.func3, Tryz.ntmps3
  go_wp2_with (go_at_call 6; (with_reducible refine (wawake_any _).mono ?_); rintro e9 w9 ⟨rfl, hb9⟩)
  go_ret
  exact ⟨rfl, h3.trans (hb9.mono h3.size)⟩

set_option maxRecDepth 100000 in
set_option maxHeartbeats 20000000 in
theorem wfin_long1 (w : World) (N : Nat) (hN : N < 256) (s : List UInt8) (X : Option Addr) (x cx : Nat) (Xs : List WiD) (hX : WiRow w X x Xs) (a : List UInt8) (ha : a.length = 32) (L : Int) (A B C : Option Addr) (k1 k2 k3 c1 c2 c3 : Nat) (g0 : ¬ 60 < s.length) (g1 : 20 < x) :
    Calls Tryz.prog 3 #[.int .u8 N, .string (txt s), .slice X x cx, .agg (idVals a), .agg #[.int .i64 L, .slice A k1 c1, .slice B k2 c2, .slice C k3 c3]] w fun e w' => e = .returned (.bool true) ∧ Below w.heap.size w w' := by
  have m3 := mod3_fact N
  have h1 := (Below.refl w.heap.size w).alloc (Nat.le_refl _) (.cells (idVals a) 24)
  have h2 := h1.alloc h1.size (.cells #[.int .i64 L, .slice A k1 c1, .slice B k2 c2, .slice C k3 c3] 27)
  have h3 := h2.alloc h2.size (.cells #[.int .i64 8, .int .i64 ((N % 3 : Nat) : Int)] 29)
  have z0 : ¬ (60 : Int) < s.length := by omega
  have z1 : (20 : Int) < x := by omega
  generalize N % 3 = H at *
  clear hX g0 g1
  go_enter Tryz.func3, Tryz.ntmps3
  go_wp2_with (go_at_call 6; (with_reducible refine (wawake_any _).mono ?_); rintro e9 w9 ⟨rfl, hb9⟩)
  go_ret
  exact ⟨rfl, h3.trans (hb9.mono h3.size)⟩

set_option maxRecDepth 100000 in
set_option maxHeartbeats 20000000 in
theorem wfin_long2 (w : World) (N : Nat) (hN : N < 256) (s : List UInt8) (X : Option Addr) (x cx : Nat) (Xs : List WiD) (hX : WiRow w X x Xs) (a : List UInt8) (ha : a.length = 32) (L : Int) (A B C : Option Addr) (k1 k2 k3 c1 c2 c3 : Nat) (g0 : ¬ 60 < s.length) (g1 : ¬ 20 < x) (g2 : 10 < k1) :
    Calls Tryz.prog 3 #[.int .u8 N, .string (txt s), .slice X x cx, .agg (idVals a), .agg #[.int .i64 L, .slice A k1 c1, .slice B k2 c2, .slice C k3 c3]] w fun e w' => e = .returned (.bool true) ∧ Below w.heap.size w w' := by
  have m3 := mod3_fact N
  have h1 := (Below.refl w.heap.size w).alloc (Nat.le_refl _) (.cells (idVals a) 24)
  have h2 := h1.alloc h1.size (.cells #[.int .i64 L, .slice A k1 c1, .slice B k2 c2, .slice C k3 c3] 27)
  have h3 := h2.alloc h2.size (.cells #[.int .i64 8, .int .i64 ((N % 3 : Nat) : Int)] 29)
  have z0 : ¬ (60 : Int) < s.length := by omega
  have z1 : ¬ (20 : Int) < x := by omega
  have z2 : (10 : Int) < k1 := by omega
  generalize N % 3 = H at *
  clear hX g0 g1 g2
  go_enter Tryz.func3, Tryz.ntmps3
  go_wp2_with (go_at_call 6; (with_reducible refine (wawake_any _).mono ?_); rintro e9 w9 ⟨rfl, hb9⟩)
  go_ret
  exact ⟨rfl, h3.trans (hb9.mono h3.size)⟩

set_option maxRecDepth 100000 in
set_option maxHeartbeats 20000000 in
theorem wfin_long3 (w : World) (N : Nat) (hN : N < 256) (s : List UInt8) (X : Option Addr) (x cx : Nat) (Xs : List WiD) (hX : WiRow w X x Xs) (a : List UInt8) (ha : a.length = 32) (L : Int) (A B C : Option Addr) (k1 k2 k3 c1 c2 c3 : Nat) (g0 : ¬ 60 < s.length) (g1 : ¬ 20 < x) (g2 : ¬ 10 < k1) (g3 : 10 < k2) :
    Calls Tryz.prog 3 #[.int .u8 N, .string (txt s), .slice X x cx, .agg (idVals a), .agg #[.int .i64 L, .slice A k1 c1, .slice B k2 c2, .slice C k3 c3]] w fun e w' => e = .returned (.bool true) ∧ Below w.heap.size w w' := by
  have m3 := mod3_fact N
  have h1 := (Below.refl w.heap.size w).alloc (Nat.le_refl _) (.cells (idVals a) 24)
  have h2 := h1.alloc h1.size (.cells #[.int .i64 L, .slice A k1 c1, .slice B k2 c2, .slice C k3 c3] 27)
  have h3 := h2.alloc h2.size (.cells #[.int .i64 8, .int .i64 ((N % 3 : Nat) : Int)] 29)
  have z0 : ¬ (60 : Int) < s.length := by omega
  have z1 : ¬ (20 : Int) < x := by omega
  have z2 : ¬ (10 : Int) < k1 := by omega
  have z3 : (10 : Int) < k2 := by omega
  generalize N % 3 = H at *
  clear hX g0 g1 g2 g3
  go_enter Tryz.func3, Tryz.ntmps3
  go_wp2_with (go_at_call 6; (with_reducible refine (wawake_any _).mono ?_); rintro e9 w9 ⟨rfl, hb9⟩)
  go_ret
  exact ⟨rfl, h3.trans (hb9.mono h3.size)⟩

set_option maxRecDepth 100000 in
set_option maxHeartbeats 20000000 in
theorem wfin_long4 (w : World) (N : Nat) (hN : N < 256) (s : List UInt8) (X : Option Addr) (x cx : Nat) (Xs : List WiD) (hX : WiRow w X x Xs) (a : List UInt8) (ha : a.length = 32) (L : Int) (A B C : Option Addr) (k1 k2 k3 c1 c2 c3 : Nat) (g0 : ¬ 60 < s.length) (g1 : ¬ 20 < x) (g2 : ¬ 10 < k1) (g3 : ¬ 10 < k2) (g4 : 4 < k3) :
    Calls Tryz.prog 3 #[.int .u8 N, .string (txt s), .slice X x cx, .agg (idVals a), .agg #[.int .i64 L, .slice A k1 c1, .slice B k2 c2, .slice C k3 c3]] w fun e w' => e = .returned (.bool true) ∧ Below w.heap.size w w' := by
  have m3 := mod3_fact N
  have h1 := (Below.refl w.heap.size w).alloc (Nat.le_refl _) (.cells (idVals a) 24)
  have h2 := h1.alloc h1.size (.cells #[.int .i64 L, .slice A k1 c1, .slice B k2 c2, .slice C k3 c3] 27)
  have h3 := h2.alloc h2.size (.cells #[.int .i64 8, .int .i64 ((N % 3 : Nat) : Int)] 29)
  have z0 : ¬ (60 : Int) < s.length := by omega
  have z1 : ¬ (20 : Int) < x := by omega
  have z2 : ¬ (10 : Int) < k1 := by omega
  have z3 : ¬ (10 : Int) < k2 := by omega
  have z4 : (4 : Int) < k3 := by omega
  generalize N % 3 = H at *
  clear hX g0 g1 g2 g3 g4
  go_enter Tryz.func3, Tryz.ntmps3
  go_wp2_with (go_at_call 6; (with_reducible refine (wawake_any _).mono ?_); rintro e9 w9 ⟨rfl, hb9⟩)
  go_ret
  exact ⟨rfl, h3.trans (hb9.mono h3.size)⟩

set_option maxRecDepth 100000 in
set_option maxHeartbeats 20000000 in
theorem wfin_unfit (w : World) (N : Nat) (hN : N < 256) (s : List UInt8) (X : Option Addr) (x cx : Nat) (Xs : List WiD) (hX : WiRow w X x Xs) (a : List UInt8) (ha : a.length = 32) (L : Int) (A B C : Option Addr) (k1 k2 k3 c1 c2 c3 : Nat) (g0 : ¬ 60 < s.length) (g1 : ¬ 20 < x) (g2 : ¬ 10 < k1) (g3 : ¬ 10 < k2) (g4 : ¬ 4 < k3) (hf : ¬ fitsP 8 (N % 3 : Nat) L k1 k2 k3) :
    Calls Tryz.prog 3 #[.int .u8 N, .string (txt s), .slice X x cx, .agg (idVals a), .agg #[.int .i64 L, .slice A k1 c1, .slice B k2 c2, .slice C k3 c3]] w fun e w' => e = .returned (.bool true) ∧ Below w.heap.size w w' := by
  have z0 : ¬ (60 : Int) < s.length := by omega
  have z1 : ¬ (20 : Int) < x := by omega
  have z2 : ¬ (10 : Int) < k1 := by omega
  have z3 : ¬ (10 : Int) < k2 := by omega
  have z4 : ¬ (4 : Int) < k3 := by omega
  have z32 : zeroB.length = 32 := by decide
  have hiO : (Tryz.prog.info? 32).map (·.size) = some wt0.size := wtC_info 0 ⟨#[]⟩ ⟨#[]⟩ 0 0 0 z32
  have hsO : wt0.size = 38 := wtC_size 0 ⟨#[]⟩ ⟨#[]⟩ 0 0 0 z32
  have hoO : wt0.all (·.oneCell') = true := wtC_one 0 ⟨#[]⟩ ⟨#[]⟩ 0 0 0 zeroB
  have hqO : ∀ W, (Op.equalIn 10000 32 (.agg wt0) (.agg wt0)).run Tryz.prog W = .ok true W := fun W => wt_eq 0 ⟨#[]⟩ ⟨#[]⟩ 0 0 0 zeroB z32 W
  have hr8 := rgt8 (N % 3) (by omega)
  have HF : Hid (∀ W, Below w.heap.size w W → Calls Tryz.prog 7 #[.agg #[.int .i64 8, .int .i64 (N % 3 : Nat)], .string (txt s), .slice X x cx, .agg (List.map u8v a).toArray, .agg #[.int .i64 L, .slice A k1 c1, .slice B k2 c2, .slice C k3 c3]] W fun e w' => e = .returned (.tuple #[.agg wt0, .int .i64 3]) ∧ Below W.heap.size W w') := hid (fun W _ => wfind_form 8 (N % 3 : Nat) L s a X A B C x cx k1 k2 k3 c1 c2 c3 hr8 hf W)
  have HRF : Hid (∀ W, Calls Tryz.prog 9 #[.agg #[.int .i64 8, .int .i64 (N % 3 : Nat)], .agg #[.int .i64 L, .slice A k1 c1, .slice B k2 c2, .slice C k3 c3]] W fun e w' => e = .returned (.bool false) ∧ Below W.heap.size W w') := hid (fun W => rfits_no 8 (N % 3 : Nat) L A B C k1 k2 k3 c1 c2 c3 hf W)
  clear hf hr8
  have hu := Tryz.underlying24
  have hza : (Tryz.prog.info? 24).map (·.size) = some (a.map u8v).length := by rw [List.length_map, ha]; exact sizeId
  have m3 := mod3_fact N
  have bx9 : x ≤ 900 := by omega
  have h1 := (Below.refl w.heap.size w).alloc (Nat.le_refl _) (.cells (idVals a) 24)
  have h2 := h1.alloc h1.size (.cells #[.int .i64 L, .slice A k1 c1, .slice B k2 c2, .slice C k3 c3] 27)
  have B2 := (Blk.new w 24 (idVals a)).alloc (.cells #[.int .i64 L, .slice A k1 c1, .slice B k2 c2, .slice C k3 c3] 27)
  have B3 := Blk.new (w.alloc (.cells (idVals a) 24)) 27 #[.int .i64 L, .slice A k1 c1, .slice B k2 c2, .slice C k3 c3]
  rw [World.size_alloc] at B3
  have HXR := hid hX
  have HXK := hid (fun (X' : WiD) (h : X' ∈ Xs) => hX.2.2.1 X' h)
  clear hX g0 g1 g2 g3 g4
  generalize N % 3 = H at *
  go_enter Tryz.func3, Tryz.ntmps3
  go_upto_region 1 with (fail)
  generalize (w.alloc (.cells (idVals a) 24)).alloc (.cells #[.int .i64 L, .slice A k1 c1, .slice B k2 c2, .slice C k3 c3] 27) = wA at *
  have h3 := h2.alloc h2.size (.cells #[.int .i64 8, .int .i64 H] 29)
  have hal := (Below.refl wA.heap.size wA).alloc (Nat.le_refl _) (.cells #[.int .i64 8, .int .i64 H] 29)
  have B5 := Blk.new wA 29 #[.int .i64 8, .int .i64 H]
  replace B2 := B2.below hal
  replace B3 := B3.below hal
  go_upto_region 2 with (fail)
  obtain ⟨g11, hg11⟩ : ∃ g11, wA.heap.size = g11 := ⟨_, rfl⟩
  rw [hg11] at B5 ⊢
  generalize wA.alloc (.cells #[.int .i64 8, .int .i64 H] 29) = wB at *
  clear hal h1 h2 hg11
  have p0 := B5.cell_ (i := 0) rfl
  have p1 := B5.cell_ (i := 1) rfl
  have s0 := B3.cell_ (i := 0) rfl
  have s1 := B3.cell_ (i := 1) rfl
  have s2 := B3.cell_ (i := 2) rfl
  have s3 := B3.cell_ (i := 3) rfl
  have fa := range_blk B2
  go_upto_region 5 with (first
    | (with_reducible refine wpList_load_if (by with_unfolding_all rfl) 24 _ rfl _ _ rfl (a.map u8v) _ fa hu rfl hza ?_)
    | (go_at_call 7; (with_reducible refine (HF.out _ h3).mono ?_); rintro e7 w7 ⟨rfl, hb7⟩)
    | (with_reducible refine wpList_store_new rfl 32 _ _ rfl wt0 rfl rfl hiO (Eq.trans (b := 38) (by with_unfolding_all rfl) hsO.symm) hoO ?_))
  have hal := hb7.trans (((Below.refl w7.heap.size w7).alloc (Nat.le_refl _) (.cells wt0 32)).mono hb7.size)
  have hO := Blk.new w7 32 wt0
  replace h3 := h3.trans (hal.mono h3.size); replace B2 := B2.below hal; replace B3 := B3.below hal; replace B5 := B5.below hal; replace p0 := B5.cell_ (i := 0) rfl; replace p1 := B5.cell_ (i := 1) rfl; replace s0 := B3.cell_ (i := 0) rfl; replace s1 := B3.cell_ (i := 1) rfl; replace s2 := B3.cell_ (i := 2) rfl; replace s3 := B3.cell_ (i := 3) rfl; replace fa := fa.below hal
  obtain ⟨g12, hg12⟩ : ∃ g12, w7.heap.size = g12 := ⟨_, rfl⟩
  rw [hg12] at hO ⊢
  generalize w7.alloc (.cells wt0 32) = w8 at *
  clear hal hg12 hb7 HF
  have cL := wplain_any X x cx Xs HXR.out.1 bx9 w8 (HXR.out.2.2.below h3)
  go_upto_region 6 with (go_at_call 8; (with_reducible refine cL.mono ?_); rintro e8 w9 ⟨v, rfl, hown, hb8⟩; obtain ⟨A6, c6, rfl, _, _, _, hrd⟩ := WvOw.rd hown HXK.out; replace h3 := h3.trans (hb8.mono h3.size); replace B2 := B2.below hb8; replace B3 := B3.below hb8; replace B5 := B5.below hb8; replace p0 := B5.cell_ (i := 0) rfl; replace p1 := B5.cell_ (i := 1) rfl; replace s0 := B3.cell_ (i := 0) rfl; replace s1 := B3.cell_ (i := 1) rfl; replace s2 := B3.cell_ (i := 2) rfl; replace s3 := B3.cell_ (i := 3) rfl; replace fa := fa.below hb8; replace hO := hO.below hb8; have HRD := hid hrd; clear hown hrd cL)
  clear hb8
  go_upto_region 7 with (go_at_call 9; (with_reducible refine (HRF.out _).mono ?_); rintro e10 w10 ⟨rfl, hb10⟩; replace hO := hO.below hb10; replace h3 := h3.trans (hb10.mono h3.size))
  go_wp2_with (first
    | (with_reducible refine wpList_load_wt (by with_unfolding_all rfl) _ rfl g12 wt0 rfl hO hiO ?_)
    | (with_reducible refine wpList_build_byW rfl _ _ rfl _ _ wt_build0 (by with_unfolding_all rfl) ?_)
    | (go_at_call 6; (with_reducible refine (wawake_any _).mono ?_); rintro e9 w11 ⟨rfl, hb9⟩))
  go_ret
  exact ⟨rfl, h3.trans (hb9.mono h3.size)⟩

set_option maxRecDepth 100000 in
set_option maxHeartbeats 20000000 in
theorem wfin_fit (w : World) (N : Nat) (hN : N < 256) (s : List UInt8) (X : Option Addr) (x cx : Nat) (Xs : List WiD) (hX : WiRow w X x Xs) (a : List UInt8) (ha : a.length = 32) (L : Nat) (A B C : Option Addr) (c1 c2 c3 : Nat) (l r way : List (List UInt8)) (g0 : ¬ 60 < s.length) (g1 : ¬ 20 < x) (hf : fitsP (8 : Nat) (N % 3 : Nat) L 8 8 (N % 3)) (hc3 : N % 3 ≤ c3) (hA : RowR w A 8 l) (hB : RowR w B 8 r) (hC : RowR w C (N % 3) way) :
    Calls Tryz.prog 3 #[.int .u8 N, .string (txt s), .slice X x cx, .agg (idVals a), .agg #[.int .i64 L, .slice A 8 c1, .slice B 8 c2, .slice C (N % 3) c3]] w fun e w' => e = .returned (.bool true) ∧ Below w.heap.size w w' := by
  have hH2 : N % 3 ≤ 2 := by omega
  have z0 : ¬ (60 : Int) < s.length := by omega
  have z1 : ¬ (20 : Int) < x := by omega
  have z4 : ¬ (4 : Int) < ((N % 3 : Nat) : Int) := by omega
  have hs1 : s.length ≤ 1000 := by omega
  have bx : x ≤ 1000 := by omega
  have hr8 := rgt8 (N % 3) hH2
  have hL : L < 2 ^ (N % 3) := by have h := hf.2.2.1; rw [lvs_ok hr8] at h; omega
  have hL5 : L < 32 := Nat.lt_of_lt_of_le hL (Nat.pow_le_pow_right (n := 2) (by decide) (by omega : N % 3 ≤ 5))
  have hXX := hX
  have HF0 : ∀ W, Below w.heap.size w W → Calls Tryz.prog 7 #[.agg #[.int .i64 8, .int .i64 (N % 3 : Nat)], .string (txt s), .slice X x cx, .agg (List.map u8v a).toArray, .agg #[.int .i64 L, .slice A 8 c1, .slice B 8 c2, .slice C (N % 3) c3]] W fun e w' => e = .returned (fdA 8 (N % 3) L s a l r way Xs) ∧ Below W.heap.size W w' := fun W hW => wfind_main 8 (N % 3) L s hs1 a ha X x cx Xs hXX.1 bx A B C c1 c2 c3 l r way hf (by omega) hc3 W (hA.below hW) (hB.below hW) (hC.below hW) (hXX.2.2.below hW)
  have HRF : Hid (∀ W, Calls Tryz.prog 9 #[.agg #[.int .i64 8, .int .i64 (N % 3 : Nat)], .agg #[.int .i64 L, .slice A 8 c1, .slice B 8 c2, .slice C (N % 3) c3]] W fun e w' => e = .returned (.bool true) ∧ Below W.heap.size W w') := hid (fun W => rfits_yes (8 : Nat) (N % 3 : Nat) L A B C 8 8 (N % 3) c1 c2 c3 hf W)
  have HK8 : Hid (∀ W, Below w.heap.size w W → Calls Tryz.prog 10 #[.agg #[.int .i64 8, .int .i64 (N % 3 : Nat)], .agg (List.map u8v a).toArray, .agg #[.int .i64 L, .slice A 8 c1, .slice B 8 c2, .slice C (N % 3) c3]] W fun e w' => e = .returned (.agg (List.map u8v (keyB 8 (N % 3) (rootB a l r way 8 L))).toArray) ∧ Below W.heap.size W w') := hid (fun W hW => rkey8_any 8 (N % 3) a ha L A B C c1 c2 c3 l r way hf W (hA.below hW) (hB.below hW) (hC.below hW))
  have HOF : Hid (∀ W, Calls Tryz.prog 11 #[.agg #[.int .i64 8, .int .i64 (N % 3 : Nat)], .string (txt s)] W fun e w' => e = .returned (.agg (List.map u8v (ofB s 8 (N % 3))).toArray) ∧ Below W.heap.size W w') := hid (fun W => rof7_any s hs1 8 (N % 3) hr8 W)
  have hrb := root_backW s a (N % 3) L hL
  have hfd : fdA 8 (N % 3) L s a l r way Xs = if keyB 8 (N % 3) (rootB a l r way 8 L) = keyB 8 (N % 3) (ownR 8 (N % 3) L s a) then .tuple #[.agg (fdW 8 (N % 3) L s a l r way Xs), .int .i64 0] else .tuple #[.agg wt0, .int .i64 9] := rfl
  have hcs := fd_case (N % 3) L s hs1 a ha X x cx Xs hXX.1 bx A B C c1 c2 c3 l r way hr8 (by omega) hA.1 hA.2.2.1 hB.2.2.1 hC.1 hC.2.2.1
  have hfm := fdW_form 8 (N % 3) L s a l r way Xs hA.2.2.1
  rw [hrb] at hfd hcs
  have hq1 : (keyB 8 (N % 3) (rootB a l r way 8 L)).length = 32 := keyB_length _ _ _
  have hq2 : (ofB s 8 (N % 3)).length = 32 := ofB_length _ _ _
  have HKP : Hid (∀ W A6 c6, WiRd W A6 Xs → ¬ KpP Xs → Calls Tryz.prog 14 #[.slice A6 x c6] W fun e w' => e = .returned (.bool false) ∧ Below W.heap.size W w') := hid (fun W A6 c6 h hk => wrkeeps_any A6 x c6 Xs hXX.1 bx W h hk)
  rw [hfd] at HF0
  generalize keyB 8 (N % 3) (rootB a l r way 8 L) = q1 at *
  generalize ofB s 8 (N % 3) = q2 at *
  generalize fdW 8 (N % 3) L s a l r way Xs = OW0 at *
  have g2 : True := trivial
  have g3 : True := trivial
  have g4 : True := trivial
  clear hfd hrb hA hB hC hf hr8 hL hXX hc3 hH2
  by_cases hke : q1 = q2
  · rw [if_pos hke] at HF0
    subst hke
    obtain ⟨ok, ox, oy, ol, ob, os, oV, hoV, hform⟩ := hfm
    have hiO : (Tryz.prog.info? 32).map (·.size) = some OW0.size := by rw [hform]; exact wtC_info _ _ _ _ _ _ hoV
    have hsO : OW0.size = 38 := by rw [hform]; exact wtC_size _ _ _ _ _ _ hoV
    have hoO : OW0.all (·.oneCell') = true := by rw [hform]; exact wtC_one _ _ _ _ _ _ oV
    have HF := hid HF0
    have HCS := hid (hcs rfl)
    have heq : ∀ W, (Op.equalIn 10000 24 (.agg (List.map u8v q1).toArray) (.agg (List.map u8v q1).toArray)).run Tryz.prog W = .ok true W := fun W => (ids_eq W q1 q1 hq1 hq1).trans (by rw [decide_eq_true rfl])
    clear hform HF0 hcs
    have hu := Tryz.underlying24
    have hza : (Tryz.prog.info? 24).map (·.size) = some (a.map u8v).length := by rw [List.length_map, ha]; exact sizeId
    have m3 := mod3_fact N
    have bx9 : x ≤ 900 := by omega
    have h1 := (Below.refl w.heap.size w).alloc (Nat.le_refl _) (.cells (idVals a) 24)
    have h2 := h1.alloc h1.size (.cells #[.int .i64 L, .slice A 8 c1, .slice B 8 c2, .slice C (N % 3) c3] 27)
    have B2 := (Blk.new w 24 (idVals a)).alloc (.cells #[.int .i64 L, .slice A 8 c1, .slice B 8 c2, .slice C (N % 3) c3] 27)
    have B3 := Blk.new (w.alloc (.cells (idVals a) 24)) 27 #[.int .i64 L, .slice A 8 c1, .slice B 8 c2, .slice C (N % 3) c3]
    rw [World.size_alloc] at B3
    have HXR := hid hX
    have HXK := hid (fun (X' : WiD) (h : X' ∈ Xs) => hX.2.2.1 X' h)
    clear hX g0 g1 g2 g3 g4
    generalize N % 3 = H at *
    go_enter Tryz.func3, Tryz.ntmps3
    go_upto_region 1 with (fail)
    generalize (w.alloc (.cells (idVals a) 24)).alloc (.cells #[.int .i64 L, .slice A 8 c1, .slice B 8 c2, .slice C H c3] 27) = wA at *
    have h3 := h2.alloc h2.size (.cells #[.int .i64 8, .int .i64 H] 29)
    have hal := (Below.refl wA.heap.size wA).alloc (Nat.le_refl _) (.cells #[.int .i64 8, .int .i64 H] 29)
    have B5 := Blk.new wA 29 #[.int .i64 8, .int .i64 H]
    replace B2 := B2.below hal
    replace B3 := B3.below hal
    go_upto_region 2 with (fail)
    obtain ⟨g11, hg11⟩ : ∃ g11, wA.heap.size = g11 := ⟨_, rfl⟩
    rw [hg11] at B5 ⊢
    generalize wA.alloc (.cells #[.int .i64 8, .int .i64 H] 29) = wB at *
    clear hal h1 h2 hg11
    have p0 := B5.cell_ (i := 0) rfl
    have p1 := B5.cell_ (i := 1) rfl
    have s0 := B3.cell_ (i := 0) rfl
    have s1 := B3.cell_ (i := 1) rfl
    have s2 := B3.cell_ (i := 2) rfl
    have s3 := B3.cell_ (i := 3) rfl
    have fa := range_blk B2
    go_upto_region 5 with (first
      | (with_reducible refine wpList_load_if (by with_unfolding_all rfl) 24 _ rfl _ _ rfl (a.map u8v) _ fa hu rfl hza ?_)
      | (go_at_call 7; (with_reducible refine (HF.out _ h3).mono ?_); rintro e7 w7 ⟨rfl, hb7⟩)
      | (with_reducible refine wpList_store_new rfl 32 _ _ rfl OW0 rfl rfl hiO (Eq.trans (b := 38) (by with_unfolding_all rfl) hsO.symm) hoO ?_))
    have hal := hb7.trans (((Below.refl w7.heap.size w7).alloc (Nat.le_refl _) (.cells OW0 32)).mono hb7.size)
    have hO := Blk.new w7 32 OW0
    replace h3 := h3.trans (hal.mono h3.size); replace B2 := B2.below hal; replace B3 := B3.below hal; replace B5 := B5.below hal; replace p0 := B5.cell_ (i := 0) rfl; replace p1 := B5.cell_ (i := 1) rfl; replace s0 := B3.cell_ (i := 0) rfl; replace s1 := B3.cell_ (i := 1) rfl; replace s2 := B3.cell_ (i := 2) rfl; replace s3 := B3.cell_ (i := 3) rfl; replace fa := fa.below hal
    obtain ⟨g12, hg12⟩ : ∃ g12, w7.heap.size = g12 := ⟨_, rfl⟩
    rw [hg12] at hO ⊢
    generalize w7.alloc (.cells OW0 32) = w8 at *
    clear hal hg12 hb7 HF
    have cL := wplain_any X x cx Xs HXR.out.1 bx9 w8 (HXR.out.2.2.below h3)
    go_upto_region 6 with (go_at_call 8; (with_reducible refine cL.mono ?_); rintro e8 w9 ⟨v, rfl, hown, hb8⟩; obtain ⟨A6, c6, rfl, _, _, _, hrd⟩ := WvOw.rd hown HXK.out; replace h3 := h3.trans (hb8.mono h3.size); replace B2 := B2.below hb8; replace B3 := B3.below hb8; replace B5 := B5.below hb8; replace p0 := B5.cell_ (i := 0) rfl; replace p1 := B5.cell_ (i := 1) rfl; replace s0 := B3.cell_ (i := 0) rfl; replace s1 := B3.cell_ (i := 1) rfl; replace s2 := B3.cell_ (i := 2) rfl; replace s3 := B3.cell_ (i := 3) rfl; replace fa := fa.below hb8; replace hO := hO.below hb8; have HRD := hid hrd; clear hown hrd cL)
    clear hb8
    go_upto_region 8 with (go_at_call 9; (with_reducible refine (HRF.out _).mono ?_); rintro e10 w10 ⟨rfl, hb10⟩; replace hO := hO.below hb10; replace h3 := h3.trans (hb10.mono h3.size); replace B2 := B2.below hb10; replace B3 := B3.below hb10; replace B5 := B5.below hb10; replace p0 := B5.cell_ (i := 0) rfl; replace p1 := B5.cell_ (i := 1) rfl; replace s0 := B3.cell_ (i := 0) rfl; replace s1 := B3.cell_ (i := 1) rfl; replace s2 := B3.cell_ (i := 2) rfl; replace s3 := B3.cell_ (i := 3) rfl; replace fa := fa.below hb10)
    have j0 : ∀ P : LaterW w10, P.w.cell? ⟨g11, 0, none⟩ = some (.int .i64 8) := fun P => wi_cell P.h p0
    have j1 : ∀ P : LaterW w10, P.w.cell? ⟨g11, 1, none⟩ = some (.int .i64 H) := fun P => wi_cell P.h p1
    have t0 : ∀ P : LaterW w10, P.w.cell? ⟨w.heap.size + 1, 0, none⟩ = some (.int .i64 L) := fun P => wi_cell P.h s0
    have t1 : ∀ P : LaterW w10, P.w.cell? ⟨w.heap.size + 1, 1, none⟩ = some (.slice A 8 c1) := fun P => wi_cell P.h s1
    have t2 : ∀ P : LaterW w10, P.w.cell? ⟨w.heap.size + 1, 2, none⟩ = some (.slice B 8 c2) := fun P => wi_cell P.h s2
    have t3 : ∀ P : LaterW w10, P.w.cell? ⟨w.heap.size + 1, 3, none⟩ = some (.slice C H c3) := fun P => wi_cell P.h s3
    have fq := range_later fa
    have cK := fun (P : LaterW w10) => HK8.out P.w (h3.trans (P.h.mono h3.size))
    replace HRD := hid (HRD.out.below hb10)
    refine wp_region_later mixedW (by kernel_rfl) ?_
    repeat (first
      | ((with_reducible refine wpQuiet_load_if (by with_unfolding_all rfl) 24 _ rfl _ _ rfl (a.map u8v) _ fq hu (by with_unfolding_all rfl) hza ?_); simp only [Act.put, List.setIfInBounds_toArray, List.set_cons_zero, List.set_cons_succ])
      | ((with_reducible refine wpQuiet_step (fun K hK => ?_)); go_simp; first | ((with_reducible refine hK _ ?_); clear hK K) | (with_reducible apply Exists.intro; (with_reducible refine ⟨fun P => ?_, hK _ ?_⟩); (first | (go_at_call 10; exact later_of (cK P)) | (go_at_call 11; exact later_of (HOF.out P.w))); clear hK K))
      | ((with_reducible refine BigFrame.wpQuiet_skip (by first | kernel_rfl | with_unfolding_all rfl) ?_); simp only [Act.put, List.setIfInBounds_toArray, List.set_cons_zero, List.set_cons_succ]))
    with_reducible refine wpQuiet_nil ?_
    intro _ hw9
    obtain ⟨P9, rfl⟩ := hw9
    replace h3 := h3.trans (P9.h.mono h3.size); replace B2 := B2.below P9.h; replace B3 := B3.below P9.h; replace B5 := B5.below P9.h; replace p0 := B5.cell_ (i := 0) rfl; replace p1 := B5.cell_ (i := 1) rfl; replace s0 := B3.cell_ (i := 0) rfl; replace s1 := B3.cell_ (i := 1) rfl; replace s2 := B3.cell_ (i := 2) rfl; replace s3 := B3.cell_ (i := 3) rfl; replace fa := fa.below P9.h
    replace hO := hO.below P9.h
    replace HRD := hid (HRD.out.below P9.h)
    generalize P9.w = w11 at *
    clear j0 j1 t0 t1 t2 t3 fq cK heq HK8 HOF HRF hb10
    rcases HCS.out with ⟨hw0, hkp⟩ | ⟨kd, hkd, hk0, hl1, hl2⟩
    · subst hw0
      have y0 := hO.cell_ (i := 0) (show wt0[0]? = some (.int .i64 0) by unfold wt0 wtC; rw [Array.getElem?_append_left (by simp)]; rfl)
      have cP := HKP.out w11 A6 c6 HRD.out hkp
      go_wp2_with (first
        | (go_at_call 14; (with_reducible refine cP.mono ?_); rintro e12 w12 ⟨rfl, hb12⟩; replace h3 := h3.trans (hb12.mono h3.size))
        | (go_at_call 6; (with_reducible refine (wawake_any _).mono ?_); rintro e9 w13 ⟨rfl, hb9⟩))
      go_ret
      exact ⟨rfl, h3.trans (hb9.mono h3.size)⟩
    · have y0 := hO.cell_ (i := 0) hk0
      have hkd2 : (kd == 0) = false := by simpa using hkd
      have hkd3 : (kd != 0) = true := by simpa using hkd
      have cD := hl1 w11 A6 c6 HRD.out
      have cE := fun W (hW : Below w11.heap.size w11 W) => hl2 W (HXR.out.2.2.below (h3.trans (hW.mono h3.size)))
      clear hl1 hl2 hk0 HCS HKP
      unfold idVals at cD cE
      go_upto_region 12 with (first
        | (with_reducible refine wpList_load_if (by with_unfolding_all rfl) 24 _ rfl _ _ rfl (a.map u8v) _ fa hu rfl hza ?_)
        | (with_reducible refine wpList_load_wt (by with_unfolding_all rfl) _ rfl g12 OW0 rfl hO hiO ?_)
        | (go_at_call 12; (with_reducible refine cD.mono ?_); rintro e12 w12 ⟨rfl, hb12⟩; replace h3 := h3.trans (hb12.mono h3.size); replace B2 := B2.below hb12; replace B3 := B3.below hb12; replace B5 := B5.below hb12; replace p0 := B5.cell_ (i := 0) rfl; replace p1 := B5.cell_ (i := 1) rfl; replace s0 := B3.cell_ (i := 0) rfl; replace s1 := B3.cell_ (i := 1) rfl; replace s2 := B3.cell_ (i := 2) rfl; replace s3 := B3.cell_ (i := 3) rfl; replace fa := fa.below hb12; replace hO := hO.below hb12; replace y0 := wi_cell hb12 y0)
        | (go_at_call 13; (with_reducible refine (cE _ hb12).mono ?_); rintro e13 w13 ⟨rfl, hb13⟩; replace h3 := h3.trans (hb13.mono h3.size); replace y0 := wi_cell hb13 y0))
      go_wp2_with (go_at_call 6; (with_reducible refine (wawake_any _).mono ?_); rintro e9 w14 ⟨rfl, hb9⟩)
      go_ret
      exact ⟨rfl, h3.trans (hb9.mono h3.size)⟩
  · rw [if_neg hke] at HF0
    have HF := hid HF0
    have z32 : zeroB.length = 32 := by decide
    have hiO : (Tryz.prog.info? 32).map (·.size) = some wt0.size := wtC_info 0 ⟨#[]⟩ ⟨#[]⟩ 0 0 0 z32
    have hsO : wt0.size = 38 := wtC_size 0 ⟨#[]⟩ ⟨#[]⟩ 0 0 0 z32
    have hoO : wt0.all (·.oneCell') = true := wtC_one 0 ⟨#[]⟩ ⟨#[]⟩ 0 0 0 zeroB
    have hqO : ∀ W, (Op.equalIn 10000 32 (.agg wt0) (.agg wt0)).run Tryz.prog W = .ok true W := fun W => wt_eq 0 ⟨#[]⟩ ⟨#[]⟩ 0 0 0 zeroB z32 W
    have heq : ∀ W, (Op.equalIn 10000 24 (.agg (List.map u8v q1).toArray) (.agg (List.map u8v q2).toArray)).run Tryz.prog W = .ok false W := fun W => (ids_eq W q1 q2 hq1 hq2).trans (by rw [decide_eq_false hke])
    clear HF0 hcs hfm hke
    have hu := Tryz.underlying24
    have hza : (Tryz.prog.info? 24).map (·.size) = some (a.map u8v).length := by rw [List.length_map, ha]; exact sizeId
    have m3 := mod3_fact N
    have bx9 : x ≤ 900 := by omega
    have h1 := (Below.refl w.heap.size w).alloc (Nat.le_refl _) (.cells (idVals a) 24)
    have h2 := h1.alloc h1.size (.cells #[.int .i64 L, .slice A 8 c1, .slice B 8 c2, .slice C (N % 3) c3] 27)
    have B2 := (Blk.new w 24 (idVals a)).alloc (.cells #[.int .i64 L, .slice A 8 c1, .slice B 8 c2, .slice C (N % 3) c3] 27)
    have B3 := Blk.new (w.alloc (.cells (idVals a) 24)) 27 #[.int .i64 L, .slice A 8 c1, .slice B 8 c2, .slice C (N % 3) c3]
    rw [World.size_alloc] at B3
    have HXR := hid hX
    have HXK := hid (fun (X' : WiD) (h : X' ∈ Xs) => hX.2.2.1 X' h)
    clear hX g0 g1 g2 g3 g4
    generalize N % 3 = H at *
    go_enter Tryz.func3, Tryz.ntmps3
    go_upto_region 1 with (fail)
    generalize (w.alloc (.cells (idVals a) 24)).alloc (.cells #[.int .i64 L, .slice A 8 c1, .slice B 8 c2, .slice C H c3] 27) = wA at *
    have h3 := h2.alloc h2.size (.cells #[.int .i64 8, .int .i64 H] 29)
    have hal := (Below.refl wA.heap.size wA).alloc (Nat.le_refl _) (.cells #[.int .i64 8, .int .i64 H] 29)
    have B5 := Blk.new wA 29 #[.int .i64 8, .int .i64 H]
    replace B2 := B2.below hal
    replace B3 := B3.below hal
    go_upto_region 2 with (fail)
    obtain ⟨g11, hg11⟩ : ∃ g11, wA.heap.size = g11 := ⟨_, rfl⟩
    rw [hg11] at B5 ⊢
    generalize wA.alloc (.cells #[.int .i64 8, .int .i64 H] 29) = wB at *
    clear hal h1 h2 hg11
    have p0 := B5.cell_ (i := 0) rfl
    have p1 := B5.cell_ (i := 1) rfl
    have s0 := B3.cell_ (i := 0) rfl
    have s1 := B3.cell_ (i := 1) rfl
    have s2 := B3.cell_ (i := 2) rfl
    have s3 := B3.cell_ (i := 3) rfl
    have fa := range_blk B2
    go_upto_region 5 with (first
      | (with_reducible refine wpList_load_if (by with_unfolding_all rfl) 24 _ rfl _ _ rfl (a.map u8v) _ fa hu rfl hza ?_)
      | (go_at_call 7; (with_reducible refine (HF.out _ h3).mono ?_); rintro e7 w7 ⟨rfl, hb7⟩)
      | (with_reducible refine wpList_store_new rfl 32 _ _ rfl wt0 rfl rfl hiO (Eq.trans (b := 38) (by with_unfolding_all rfl) hsO.symm) hoO ?_))
    have hal := hb7.trans (((Below.refl w7.heap.size w7).alloc (Nat.le_refl _) (.cells wt0 32)).mono hb7.size)
    have hO := Blk.new w7 32 wt0
    replace h3 := h3.trans (hal.mono h3.size); replace B2 := B2.below hal; replace B3 := B3.below hal; replace B5 := B5.below hal; replace p0 := B5.cell_ (i := 0) rfl; replace p1 := B5.cell_ (i := 1) rfl; replace s0 := B3.cell_ (i := 0) rfl; replace s1 := B3.cell_ (i := 1) rfl; replace s2 := B3.cell_ (i := 2) rfl; replace s3 := B3.cell_ (i := 3) rfl; replace fa := fa.below hal
    obtain ⟨g12, hg12⟩ : ∃ g12, w7.heap.size = g12 := ⟨_, rfl⟩
    rw [hg12] at hO ⊢
    generalize w7.alloc (.cells wt0 32) = w8 at *
    clear hal hg12 hb7 HF
    have cL := wplain_any X x cx Xs HXR.out.1 bx9 w8 (HXR.out.2.2.below h3)
    go_upto_region 6 with (go_at_call 8; (with_reducible refine cL.mono ?_); rintro e8 w9 ⟨v, rfl, hown, hb8⟩; obtain ⟨A6, c6, rfl, _, _, _, hrd⟩ := WvOw.rd hown HXK.out; replace h3 := h3.trans (hb8.mono h3.size); replace B2 := B2.below hb8; replace B3 := B3.below hb8; replace B5 := B5.below hb8; replace p0 := B5.cell_ (i := 0) rfl; replace p1 := B5.cell_ (i := 1) rfl; replace s0 := B3.cell_ (i := 0) rfl; replace s1 := B3.cell_ (i := 1) rfl; replace s2 := B3.cell_ (i := 2) rfl; replace s3 := B3.cell_ (i := 3) rfl; replace fa := fa.below hb8; replace hO := hO.below hb8; have HRD := hid hrd; clear hown hrd cL)
    clear hb8
    go_upto_region 8 with (go_at_call 9; (with_reducible refine (HRF.out _).mono ?_); rintro e10 w10 ⟨rfl, hb10⟩; replace hO := hO.below hb10; replace h3 := h3.trans (hb10.mono h3.size); replace B2 := B2.below hb10; replace B3 := B3.below hb10; replace B5 := B5.below hb10; replace p0 := B5.cell_ (i := 0) rfl; replace p1 := B5.cell_ (i := 1) rfl; replace s0 := B3.cell_ (i := 0) rfl; replace s1 := B3.cell_ (i := 1) rfl; replace s2 := B3.cell_ (i := 2) rfl; replace s3 := B3.cell_ (i := 3) rfl; replace fa := fa.below hb10)
    have j0 : ∀ P : LaterW w10, P.w.cell? ⟨g11, 0, none⟩ = some (.int .i64 8) := fun P => wi_cell P.h p0
    have j1 : ∀ P : LaterW w10, P.w.cell? ⟨g11, 1, none⟩ = some (.int .i64 H) := fun P => wi_cell P.h p1
    have t0 : ∀ P : LaterW w10, P.w.cell? ⟨w.heap.size + 1, 0, none⟩ = some (.int .i64 L) := fun P => wi_cell P.h s0
    have t1 : ∀ P : LaterW w10, P.w.cell? ⟨w.heap.size + 1, 1, none⟩ = some (.slice A 8 c1) := fun P => wi_cell P.h s1
    have t2 : ∀ P : LaterW w10, P.w.cell? ⟨w.heap.size + 1, 2, none⟩ = some (.slice B 8 c2) := fun P => wi_cell P.h s2
    have t3 : ∀ P : LaterW w10, P.w.cell? ⟨w.heap.size + 1, 3, none⟩ = some (.slice C H c3) := fun P => wi_cell P.h s3
    have fq := range_later fa
    have cK := fun (P : LaterW w10) => HK8.out P.w (h3.trans (P.h.mono h3.size))
    refine wp_region_later mixedW (by kernel_rfl) ?_
    repeat (first
      | ((with_reducible refine wpQuiet_load_if (by with_unfolding_all rfl) 24 _ rfl _ _ rfl (a.map u8v) _ fq hu (by with_unfolding_all rfl) hza ?_); simp only [Act.put, List.setIfInBounds_toArray, List.set_cons_zero, List.set_cons_succ])
      | ((with_reducible refine wpQuiet_step (fun K hK => ?_)); go_simp; first | ((with_reducible refine hK _ ?_); clear hK K) | (with_reducible apply Exists.intro; (with_reducible refine ⟨fun P => ?_, hK _ ?_⟩); (first | (go_at_call 10; exact later_of (cK P)) | (go_at_call 11; exact later_of (HOF.out P.w))); clear hK K))
      | ((with_reducible refine BigFrame.wpQuiet_skip (by first | kernel_rfl | with_unfolding_all rfl) ?_); simp only [Act.put, List.setIfInBounds_toArray, List.set_cons_zero, List.set_cons_succ]))
    with_reducible refine wpQuiet_nil ?_
    intro _ hw9
    obtain ⟨P9, rfl⟩ := hw9
    replace h3 := h3.trans (P9.h.mono h3.size)
    replace hO := hO.below P9.h
    generalize P9.w = w11 at *
    clear B2 B3 B5 p0 p1 s0 s1 s2 s3 fa j0 j1 t0 t1 t2 t3 fq cK heq HK8 HOF HRF hb10
    go_wp2_with (first
      | (with_reducible refine wpList_load_wt (by with_unfolding_all rfl) _ rfl g12 wt0 rfl hO hiO ?_)
      | (with_reducible refine wpList_build_byW rfl _ _ rfl _ _ wt_build0 (by with_unfolding_all rfl) ?_)
      | (go_at_call 6; (with_reducible refine (wawake_any _).mono ?_); rintro e9 w12 ⟨rfl, hb9⟩))
    go_ret
    exact ⟨rfl, h3.trans (hb9.mono h3.size)⟩

theorem law_WitnessFinds (w : World) (N : Nat) (hN : N < 256) (s : List UInt8) (X : Option Addr) (x cx : Nat) (Xs : List WiD) (hX : WiRow w X x Xs) (a : List UInt8) (ha : a.length = 32) (L : Int) (A B C : Option Addr) (k1 k2 k3 c1 c2 c3 : Nat) (l r way : List (List UInt8)) (hA : IdRow w A k1 l) (hB : IdRow w B k2 r) (hC : IdRow w C k3 way) (hc3 : k3 ≤ c3) :
    Calls Tryz.prog 3 #[.int .u8 N, .string (txt s), .slice X x cx, .agg (idVals a), .agg #[.int .i64 L, .slice A k1 c1, .slice B k2 c2, .slice C k3 c3]] w fun e w' => e = .returned (.bool true) ∧ Below w.heap.size w w' := by
  by_cases g0 : 60 < s.length
  · exact wfin_long0 w N hN s X x cx Xs hX a ha L A B C k1 k2 k3 c1 c2 c3 g0
  ·
      by_cases g1 : 20 < x
      · exact wfin_long1 w N hN s X x cx Xs hX a ha L A B C k1 k2 k3 c1 c2 c3 g0 g1
      ·
          by_cases g2 : 10 < k1
          · exact wfin_long2 w N hN s X x cx Xs hX a ha L A B C k1 k2 k3 c1 c2 c3 g0 g1 g2
          ·
              by_cases g3 : 10 < k2
              · exact wfin_long3 w N hN s X x cx Xs hX a ha L A B C k1 k2 k3 c1 c2 c3 g0 g1 g2 g3
              ·
                  by_cases g4 : 4 < k3
                  · exact wfin_long4 w N hN s X x cx Xs hX a ha L A B C k1 k2 k3 c1 c2 c3 g0 g1 g2 g3 g4
                  ·
                      by_cases hf : fitsP 8 (N % 3 : Nat) L k1 k2 k3
                      · obtain ⟨_, e2, _, e4, e5, e6⟩ := id hf
                        obtain rfl : k1 = 8 := by omega
                        obtain rfl : k2 = 8 := by omega
                        obtain rfl : k3 = N % 3 := by omega
                        obtain ⟨m, rfl⟩ : ∃ m : Nat, L = m := ⟨L.toNat, by omega⟩
                        exact wfin_fit w N hN s X x cx Xs hX a ha m A B C c1 c2 c3 l r way g0 g1 hf hc3 ⟨hA.1, by omega, hA.2.2⟩ ⟨hB.1, by omega, hB.2.2⟩ ⟨hC.1, by omega, hC.2.2⟩
                      · exact wfin_unfit w N hN s X x cx Xs hX a ha L A B C k1 k2 k3 c1 c2 c3 g0 g1 g2 g3 g4 hf

open Go.ChangeShapes Go.WideShapes Go.ChangeAt
open Go.ChangeMaps (open_string shut_string)
theorem own_WitnessFinds : ownKnob Tryz.prog.godebug = none := by kernel_rfl
theorem laidOut_WitnessFinds : laidOutB Tryz.prog = true := by kernel_rfl
set_option linter.unusedVariables false in
set_option maxRecDepth 100000 in
theorem lifted_WitnessFinds (os : Os) (started : os.Started) (H : Type) (enc : TypeId × Value → H) :
    ReturnsInHanded {} Tryz.checked os 3 .any (Rows.witnessFindsSpec.pre6 enc Tryz.prog Tryz.f3 Rows.witnessFindsRow.domain false) (Rows.witnessFindsSpec.post enc Tryz.prog Tryz.f3 false true false false) := by
  refine returnsInHanded_of_change (C := Tryz.checked) own_WitnessFinds started (by kernel_rfl) Tryz.func3
    (ChangeSpec.witness6 (enc := enc) (C := Tryz.checked) false ⟨#[], #[.int .u8 0, .string ByteArray.empty, .slice none 0 0, .agg #[.int .u8 0, .int .u8 0, .int .u8 0, .int .u8 0, .int .u8 0, .int .u8 0, .int .u8 0, .int .u8 0, .int .u8 0, .int .u8 0, .int .u8 0, .int .u8 0, .int .u8 0, .int .u8 0, .int .u8 0, .int .u8 0, .int .u8 0, .int .u8 0, .int .u8 0, .int .u8 0, .int .u8 0, .int .u8 0, .int .u8 0, .int .u8 0, .int .u8 0, .int .u8 0, .int .u8 0, .int .u8 0, .int .u8 0, .int .u8 0, .int .u8 0, .int .u8 0], .agg #[.int .i64 0, .slice none 0 0, .slice none 0 0, .slice none 0 0]], []⟩ 8 (by kernel_rfl) (by kernel_rfl) (by kernel_rfl) (by kernel_rfl)) ?_
  intro W base args ds gs before hval0 hW hcnd _
  have hval : ∀ (j : Nat) t v, Tryz.f3.params[j]? = some t → args[j]? = some v → Value.okWide Tryz.prog W .any base t v := hval0
  have hW' := hW
  obtain ⟨p, q, hA0, hV, rfl, hfz, hnd⟩ := hW
  have hA1 : DataW.TrodAll enc Tryz.prog W 0 (fun _ => true) true Tryz.f3.params.toList args.toList ds p := hA0
  have hA : DataW.TrodAll enc Tryz.prog W 0 (fun _ => true) true Tryz.f3.params.toList args.toList ds p := hA0
  rw [Tryz.params3] at hA hval
  obtain ⟨v0, vs0, d0, ds0, p0, q0, hargs, rfl, rfl, h0, r0⟩ := trodAll_cons hA
  obtain ⟨v1, vs1, d1, ds1, p1, q1, rfl, rfl, rfl, h1, r1⟩ := trodAll_cons r0
  obtain ⟨v2, vs2, d2, ds2, p2, q2, rfl, rfl, rfl, h2, r2⟩ := trodAll_cons r1
  obtain ⟨v3, vs3, d3, ds3, p3, q3, rfl, rfl, rfl, h3, r3⟩ := trodAll_cons r2
  obtain ⟨v4, vs4, d4, ds4, p4, q4, rfl, rfl, rfl, h4, r4⟩ := trodAll_cons r3
  obtain ⟨rfl, rfl, rfl⟩ := trodAll_nil r4
  obtain rfl : args = #[v0, v1, v2, v3, v4] := by cases args; simp_all
  obtain ⟨rfl, rfl⟩ := trodVars_none hV
  obtain ⟨a0, rfl, rfl, rfl, w0⟩ := open_int Tryz.underlying5 (hval 0 5 v0 rfl rfl) h0
  obtain ⟨m0, rfl⟩ : ∃ m0 : Nat, a0 = m0 := ⟨a0.toNat, by have := (bounds_u8 w0).1; omega⟩
  obtain ⟨a1, rfl, rfl, rfl, w1⟩ := open_string Tryz.underlying9 (hval 1 9 v1 rfl rfl) h1
  obtain ⟨s1, rfl⟩ : ∃ s1, a1 = txt s1 := ⟨a1.data.toList, by unfold txt; simp⟩
  obtain ⟨A2, n2, c2, Xs2, rfl, y2⟩ := open_wiRow (hval 2 22 v2 rfl rfl) h2
  obtain ⟨a3, w3, rfl⟩ := open_id Tryz.underlying24 Tryz.underlying5 (by kernel_rfl) (by kernel_rfl) (hval 3 24 v3 rfl rfl) h3
  obtain ⟨a4, A, B, C, k1, k2, k3, d1, d2, d3, l, r, way, rfl, w4, y3, y4, y5, y6⟩ := open_sigW (hval 4 27 v4 rfl rfl) h4
  clear hA0 hval0
  refine (law_WitnessFinds W m0 (by have := (bounds_u8 w0).2; omega) s1 A2 n2 c2 Xs2 y2 a3 w3 a4 A B C k1 k2 k3 d1 d2 d3 l r way y3 y4 y5 y6).mono fun e W' ⟨he, bel⟩ => ?_
  subst he
  exact ⟨_, rfl, _, _, _, [], _, [], hW', trodAll_mk1 (shut_bool Tryz.underlying4 _), trodAll_stays laidOut_WitnessFinds bel (by kernel_rfl) hA1, rfl, bel.frame _, fun h => by cases h⟩

/-- The statement. -/
theorem WitnessFinds_holds : Rows.WitnessFindsSaid :=
  OpenClaim.holds_of_wide 3 Tryz.f3 rfl rfl rfl rfl rfl rfl rfl ⟨rfl, rfl, rfl, rfl, rfl⟩ rfl rfl rfl rfl rfl (by kernel_rfl) Tryz.func3 (by kernel_rfl)
    (of_decide_eq_true (by kernel_rfl)) (by unfold Func.isWrapper; first | (rw [if_pos (by decide +kernel)]; kernel_rfl) | (rw [if_neg (by decide +kernel)]; exact ⟨rfl, rfl⟩))
    (fun os started H enc _ => lifted_WitnessFinds os started H enc)
#print axioms WitnessFinds_holds

end Go.Proofs.YticpdepbgcagaaaGreat


/- Proved: for all params, seeds, sums and signatures, quitclaimlaw09.WitnessParams returns true and leaves its arguments as they were. No conditions. -/
import Derived.Test.YticpdepbgcagaaaWo1
import Derived.Test.YticpdepbgcagaaaRows
import Derived.ChangeShapes
import Derived.Deep.DeepCutAuto
set_option linter.unusedSimpArgs false
set_option linter.unusedVariables false
namespace Go.Proofs.Yticpdepbgcagaaa
open Go.RowKit Go.Qc Go.Shelf
attribute [local go_sem] txt_size txt_append ib_fold
theorem wpList_load_wt {w : World} {ops : Array Oper} {rest : List Oper} {o : Oper} {a : Act} {Q : Exit → Act → World → Prop} (hgd : Region.wanted o (yielded ops a.tmps) = true) (x : Operand) (ho : o.op = .load 32 x)
    (g : Nat) (cs : Array Value) (hx : a.eval x = .pointer (some ⟨g, 0, none⟩)) (hr : Blk w g 32 cs) (hc : (Try.prog.info? 32).map (·.size) = some cs.size)
    (h : wpList Try.prog ops Q rest (a.put o.dst (.agg cs)) w) : wpList Try.prog ops Q (o :: rest) a w := by
  refine wpList_load_if hgd 32 x ho g 0 hx cs.toList _ (fun j v hj => by rw [Nat.zero_add]; exact hr.cell_ (by rw [← Array.getElem?_toList]; exact hj)) Try.underlying32 rfl ?_ ?_
  · rw [Array.length_toList]; exact hc
  · rw [Array.toArray_toList]; exact h

set_option maxRecDepth 100000 in
set_option maxHeartbeats 20000000 in
theorem wpar_right (b h : Int) (s a : List UInt8) (ha : a.length = 32) (L : Int) (A B C : Option Addr) (k1 k2 k3 c1 c2 c3 : Nat) (w : World) (hr : rgtP b h = true) :
    Calls Try.prog 3 #[.agg #[.int .i64 b, .int .i64 h], .string (txt s), .agg (idVals a), .agg #[.int .i64 L, .slice A k1 c1, .slice B k2 c2, .slice C k3 c3]] w fun e w' => e = .returned (.bool true) ∧ Below w.heap.size w w' := by
  have h1 := (Below.refl w.heap.size w).alloc (Nat.le_refl _) (.cells #[.int .i64 b, .int .i64 h] 23)
  have h2 := h1.alloc h1.size (.cells (idVals a) 25)
  have h3 := h2.alloc h2.size (.cells #[.int .i64 L, .slice A k1 c1, .slice B k2 c2, .slice C k3 c3] 28)
  have B1 := ((Blk.new w 23 #[.int .i64 b, .int .i64 h]).alloc (.cells (idVals a) 25)).alloc (.cells #[.int .i64 L, .slice A k1 c1, .slice B k2 c2, .slice C k3 c3] 28)
  have B2 := (Blk.new (w.alloc (.cells #[.int .i64 b, .int .i64 h] 23)) 25 (idVals a)).alloc (.cells #[.int .i64 L, .slice A k1 c1, .slice B k2 c2, .slice C k3 c3] 28)
  have B3 := Blk.new ((w.alloc (.cells #[.int .i64 b, .int .i64 h] 23)).alloc (.cells (idVals a) 25)) 28 #[.int .i64 L, .slice A k1 c1, .slice B k2 c2, .slice C k3 c3]
  rw [World.size_alloc] at B2
  rw [World.size_alloc, World.size_alloc] at B3
  have cR := fun W => rright7_any b h W
  rw [hr] at cR
  go_enter Try.func3, Try.ntmps3
  go_upto_region 1 with (fail)
  generalize ((w.alloc (.cells #[.int .i64 b, .int .i64 h] 23)).alloc (.cells (idVals a) 25)).alloc (.cells #[.int .i64 L, .slice A k1 c1, .slice B k2 c2, .slice C k3 c3] 28) = w1 at *
  have p0 := B1.cell_ (i := 0) rfl
  have p1 := B1.cell_ (i := 1) rfl
  have s0 := B3.cell_ (i := 0) rfl
  have s1 := B3.cell_ (i := 1) rfl
  have s2 := B3.cell_ (i := 2) rfl
  have s3 := B3.cell_ (i := 3) rfl
  clear h1 h2
  go_wp2_with (first
    | (go_at_call 4; (with_reducible refine (cR _).mono ?_); rintro e1 w2 ⟨rfl, hb2⟩; replace h3 := h3.trans (hb2.mono h3.size); replace B1 := B1.below hb2; replace B2 := B2.below hb2; replace B3 := B3.below hb2; replace p0 := B1.cell_ (i := 0) rfl; replace p1 := B1.cell_ (i := 1) rfl; replace s0 := B3.cell_ (i := 0) rfl; replace s1 := B3.cell_ (i := 1) rfl; replace s2 := B3.cell_ (i := 2) rfl; replace s3 := B3.cell_ (i := 3) rfl)
    | (go_at_call 5; (with_reducible refine (wawake_any _).mono ?_); rintro e9 w9 ⟨rfl, hb9⟩))
  go_ret
  exact ⟨rfl, h3.trans (hb9.mono h3.size)⟩

set_option maxRecDepth 100000 in
set_option maxHeartbeats 20000000 in
theorem wpar_long1 (b h : Int) (s a : List UInt8) (ha : a.length = 32) (L : Int) (A B C : Option Addr) (k1 k2 k3 c1 c2 c3 : Nat) (w : World) (hr : rgtP b h = false) (hs : 60 < s.length) :
    Calls Try.prog 3 #[.agg #[.int .i64 b, .int .i64 h], .string (txt s), .agg (idVals a), .agg #[.int .i64 L, .slice A k1 c1, .slice B k2 c2, .slice C k3 c3]] w fun e w' => e = .returned (.bool true) ∧ Below w.heap.size w w' := by
  have h1 := (Below.refl w.heap.size w).alloc (Nat.le_refl _) (.cells #[.int .i64 b, .int .i64 h] 23)
  have h2 := h1.alloc h1.size (.cells (idVals a) 25)
  have h3 := h2.alloc h2.size (.cells #[.int .i64 L, .slice A k1 c1, .slice B k2 c2, .slice C k3 c3] 28)
  have B1 := ((Blk.new w 23 #[.int .i64 b, .int .i64 h]).alloc (.cells (idVals a) 25)).alloc (.cells #[.int .i64 L, .slice A k1 c1, .slice B k2 c2, .slice C k3 c3] 28)
  have B2 := (Blk.new (w.alloc (.cells #[.int .i64 b, .int .i64 h] 23)) 25 (idVals a)).alloc (.cells #[.int .i64 L, .slice A k1 c1, .slice B k2 c2, .slice C k3 c3] 28)
  have B3 := Blk.new ((w.alloc (.cells #[.int .i64 b, .int .i64 h] 23)).alloc (.cells (idVals a) 25)) 28 #[.int .i64 L, .slice A k1 c1, .slice B k2 c2, .slice C k3 c3]
  rw [World.size_alloc] at B2
  rw [World.size_alloc, World.size_alloc] at B3
  have cR := fun W => rright7_any b h W
  rw [hr] at cR
  have z1 : (60 : Int) < s.length := by omega
  go_enter Try.func3, Try.ntmps3
  go_upto_region 1 with (fail)
  generalize ((w.alloc (.cells #[.int .i64 b, .int .i64 h] 23)).alloc (.cells (idVals a) 25)).alloc (.cells #[.int .i64 L, .slice A k1 c1, .slice B k2 c2, .slice C k3 c3] 28) = w1 at *
  have p0 := B1.cell_ (i := 0) rfl
  have p1 := B1.cell_ (i := 1) rfl
  have s0 := B3.cell_ (i := 0) rfl
  have s1 := B3.cell_ (i := 1) rfl
  have s2 := B3.cell_ (i := 2) rfl
  have s3 := B3.cell_ (i := 3) rfl
  clear h1 h2
  go_wp2_with (first
    | (go_at_call 4; (with_reducible refine (cR _).mono ?_); rintro e1 w2 ⟨rfl, hb2⟩; replace h3 := h3.trans (hb2.mono h3.size); replace B1 := B1.below hb2; replace B2 := B2.below hb2; replace B3 := B3.below hb2; replace p0 := B1.cell_ (i := 0) rfl; replace p1 := B1.cell_ (i := 1) rfl; replace s0 := B3.cell_ (i := 0) rfl; replace s1 := B3.cell_ (i := 1) rfl; replace s2 := B3.cell_ (i := 2) rfl; replace s3 := B3.cell_ (i := 3) rfl)
    | (go_at_call 5; (with_reducible refine (wawake_any _).mono ?_); rintro e9 w9 ⟨rfl, hb9⟩))
  go_ret
  exact ⟨rfl, h3.trans (hb9.mono h3.size)⟩

set_option maxRecDepth 100000 in
set_option maxHeartbeats 20000000 in
theorem wpar_long2 (b h : Int) (s a : List UInt8) (ha : a.length = 32) (L : Int) (A B C : Option Addr) (k1 k2 k3 c1 c2 c3 : Nat) (w : World) (hr : rgtP b h = false) (hs : ¬ 60 < s.length) (hk : 20 < k1) :
    Calls Try.prog 3 #[.agg #[.int .i64 b, .int .i64 h], .string (txt s), .agg (idVals a), .agg #[.int .i64 L, .slice A k1 c1, .slice B k2 c2, .slice C k3 c3]] w fun e w' => e = .returned (.bool true) ∧ Below w.heap.size w w' := by
  have h1 := (Below.refl w.heap.size w).alloc (Nat.le_refl _) (.cells #[.int .i64 b, .int .i64 h] 23)
  have h2 := h1.alloc h1.size (.cells (idVals a) 25)
  have h3 := h2.alloc h2.size (.cells #[.int .i64 L, .slice A k1 c1, .slice B k2 c2, .slice C k3 c3] 28)
  have B1 := ((Blk.new w 23 #[.int .i64 b, .int .i64 h]).alloc (.cells (idVals a) 25)).alloc (.cells #[.int .i64 L, .slice A k1 c1, .slice B k2 c2, .slice C k3 c3] 28)
  have B2 := (Blk.new (w.alloc (.cells #[.int .i64 b, .int .i64 h] 23)) 25 (idVals a)).alloc (.cells #[.int .i64 L, .slice A k1 c1, .slice B k2 c2, .slice C k3 c3] 28)
  have B3 := Blk.new ((w.alloc (.cells #[.int .i64 b, .int .i64 h] 23)).alloc (.cells (idVals a) 25)) 28 #[.int .i64 L, .slice A k1 c1, .slice B k2 c2, .slice C k3 c3]
  rw [World.size_alloc] at B2
  rw [World.size_alloc, World.size_alloc] at B3
  have cR := fun W => rright7_any b h W
  rw [hr] at cR
  have z1 : ¬ (60 : Int) < s.length := by omega
  have z2 : (20 : Int) < k1 := by omega
  go_enter Try.func3, Try.ntmps3
  go_upto_region 1 with (fail)
  generalize ((w.alloc (.cells #[.int .i64 b, .int .i64 h] 23)).alloc (.cells (idVals a) 25)).alloc (.cells #[.int .i64 L, .slice A k1 c1, .slice B k2 c2, .slice C k3 c3] 28) = w1 at *
  have p0 := B1.cell_ (i := 0) rfl
  have p1 := B1.cell_ (i := 1) rfl
  have s0 := B3.cell_ (i := 0) rfl
  have s1 := B3.cell_ (i := 1) rfl
  have s2 := B3.cell_ (i := 2) rfl
  have s3 := B3.cell_ (i := 3) rfl
  clear h1 h2
  go_wp2_with (first
    | (go_at_call 4; (with_reducible refine (cR _).mono ?_); rintro e1 w2 ⟨rfl, hb2⟩; replace h3 := h3.trans (hb2.mono h3.size); replace B1 := B1.below hb2; replace B2 := B2.below hb2; replace B3 := B3.below hb2; replace p0 := B1.cell_ (i := 0) rfl; replace p1 := B1.cell_ (i := 1) rfl; replace s0 := B3.cell_ (i := 0) rfl; replace s1 := B3.cell_ (i := 1) rfl; replace s2 := B3.cell_ (i := 2) rfl; replace s3 := B3.cell_ (i := 3) rfl)
    | (go_at_call 5; (with_reducible refine (wawake_any _).mono ?_); rintro e9 w9 ⟨rfl, hb9⟩))
  go_ret
  exact ⟨rfl, h3.trans (hb9.mono h3.size)⟩

set_option maxRecDepth 100000 in
set_option maxHeartbeats 20000000 in
theorem wpar_yes (b h : Int) (s a : List UInt8) (ha : a.length = 32) (L : Int) (A B C : Option Addr) (k1 k2 k3 c1 c2 c3 : Nat) (w : World) (hr : rgtP b h = false) (hs : ¬ 60 < s.length) (hk : ¬ 20 < k1) :
    Calls Try.prog 3 #[.agg #[.int .i64 b, .int .i64 h], .string (txt s), .agg (idVals a), .agg #[.int .i64 L, .slice A k1 c1, .slice B k2 c2, .slice C k3 c3]] w fun e w' => e = .returned (.bool true) ∧ Below w.heap.size w w' := by
  have hu := Try.underlying25
  have hza : (Try.prog.info? 25).map (·.size) = some (a.map u8v).length := by rw [List.length_map, ha]; exact sizeId
  have z32 : zeroB.length = 32 := by decide
  have hi0 : (Try.prog.info? 32).map (·.size) = some wt0.size := wtC_info 0 ⟨#[]⟩ ⟨#[]⟩ 0 0 0 z32
  have hs0 : wt0.size = 38 := wtC_size 0 ⟨#[]⟩ ⟨#[]⟩ 0 0 0 z32
  have ho0 : wt0.all (·.oneCell') = true := wtC_one 0 ⟨#[]⟩ ⟨#[]⟩ 0 0 0 zeroB
  have heq : ∀ W, (Op.equalIn 10000 32 (.agg wt0) (.agg wt0)).run Try.prog W = .ok true W := fun W => wt_eq 0 ⟨#[]⟩ ⟨#[]⟩ 0 0 0 zeroB z32 W
  have cF : ∀ W, Calls Try.prog 6 #[.agg #[.int .i64 b, .int .i64 h], .string (txt s), .slice none 0 0, .agg (List.map u8v a).toArray, .agg #[.int .i64 L, .slice A k1 c1, .slice B k2 c2, .slice C k3 c3]] W fun e w' => e = .returned (.tuple #[.agg wt0, .int .i64 1]) ∧ Below W.heap.size W w' := fun W => wfind_arg b h L s a none A B C 0 0 k1 k2 k3 c1 c2 c3 hr W
  have h1 := (Below.refl w.heap.size w).alloc (Nat.le_refl _) (.cells #[.int .i64 b, .int .i64 h] 23)
  have h2 := h1.alloc h1.size (.cells (idVals a) 25)
  have h3 := h2.alloc h2.size (.cells #[.int .i64 L, .slice A k1 c1, .slice B k2 c2, .slice C k3 c3] 28)
  have B1 := ((Blk.new w 23 #[.int .i64 b, .int .i64 h]).alloc (.cells (idVals a) 25)).alloc (.cells #[.int .i64 L, .slice A k1 c1, .slice B k2 c2, .slice C k3 c3] 28)
  have B2 := (Blk.new (w.alloc (.cells #[.int .i64 b, .int .i64 h] 23)) 25 (idVals a)).alloc (.cells #[.int .i64 L, .slice A k1 c1, .slice B k2 c2, .slice C k3 c3] 28)
  have B3 := Blk.new ((w.alloc (.cells #[.int .i64 b, .int .i64 h] 23)).alloc (.cells (idVals a) 25)) 28 #[.int .i64 L, .slice A k1 c1, .slice B k2 c2, .slice C k3 c3]
  rw [World.size_alloc] at B2
  rw [World.size_alloc, World.size_alloc] at B3
  have cR := fun W => rright7_any b h W
  rw [hr] at cR
  have z1 : ¬ (60 : Int) < s.length := by omega
  have z2 : ¬ (20 : Int) < k1 := by omega
  clear hs hk
  go_enter Try.func3, Try.ntmps3
  go_upto_region 1 with (fail)
  generalize ((w.alloc (.cells #[.int .i64 b, .int .i64 h] 23)).alloc (.cells (idVals a) 25)).alloc (.cells #[.int .i64 L, .slice A k1 c1, .slice B k2 c2, .slice C k3 c3] 28) = w1 at *
  have p0 := B1.cell_ (i := 0) rfl
  have p1 := B1.cell_ (i := 1) rfl
  have s0 := B3.cell_ (i := 0) rfl
  have s1 := B3.cell_ (i := 1) rfl
  have s2 := B3.cell_ (i := 2) rfl
  have s3 := B3.cell_ (i := 3) rfl
  clear h1 h2
  go_upto_region 3 with (go_at_call 4; (with_reducible refine (cR _).mono ?_); rintro e1 w2 ⟨rfl, hb2⟩; replace h3 := h3.trans (hb2.mono h3.size); replace B1 := B1.below hb2; replace B2 := B2.below hb2; replace B3 := B3.below hb2; replace p0 := B1.cell_ (i := 0) rfl; replace p1 := B1.cell_ (i := 1) rfl; replace s0 := B3.cell_ (i := 0) rfl; replace s1 := B3.cell_ (i := 1) rfl; replace s2 := B3.cell_ (i := 2) rfl; replace s3 := B3.cell_ (i := 3) rfl)
  have fa := range_blk B2
  go_upto_region 4 with (first
    | (with_reducible refine wpList_load_if (by with_unfolding_all rfl) 25 _ rfl _ _ rfl (a.map u8v) _ fa hu rfl hza ?_)
    | (go_at_call 6; (with_reducible refine (cF _).mono ?_); rintro e3 w3 ⟨rfl, hb3⟩; replace h3 := h3.trans (hb3.mono h3.size))
    | (with_reducible refine wpList_store_new rfl 32 _ _ rfl wt0 rfl rfl hi0 (Eq.trans (b := 38) (by with_unfolding_all rfl) hs0.symm) ho0 ?_))
  have hO := Blk.new w3 32 wt0
  have h4 := h3.alloc h3.size (.cells wt0 32)
  obtain ⟨g9, hg9⟩ : ∃ g9, w3.heap.size = g9 := ⟨_, rfl⟩
  rw [hg9] at hO ⊢
  generalize w3.alloc (.cells wt0 32) = w4 at *
  clear h3 B1 B2 B3 p0 p1 s0 s1 s2 s3 fa hb3 hb2 hg9
  go_wp2_with (first
    | (with_reducible refine wpList_load_wt (by with_unfolding_all rfl) _ rfl g9 wt0 rfl hO hi0 ?_)
    | (with_reducible refine wpList_build_byW rfl _ _ rfl _ _ wt_build0 (by with_unfolding_all rfl) ?_)
    | (go_at_call 5; (with_reducible refine (wawake_any _).mono ?_); rintro e9 w9 ⟨rfl, hb9⟩))
  go_ret
  exact ⟨rfl, h4.trans (hb9.mono h4.size)⟩

theorem law_WitnessParams (b h : Int) (s a : List UInt8) (ha : a.length = 32) (L : Int) (A B C : Option Addr) (k1 k2 k3 c1 c2 c3 : Nat) (w : World) :
    Calls Try.prog 3 #[.agg #[.int .i64 b, .int .i64 h], .string (txt s), .agg (idVals a), .agg #[.int .i64 L, .slice A k1 c1, .slice B k2 c2, .slice C k3 c3]] w fun e w' => e = .returned (.bool true) ∧ Below w.heap.size w w' := by
  cases hr : rgtP b h with
  | true => exact wpar_right b h s a ha L A B C k1 k2 k3 c1 c2 c3 w hr
  | false =>
    by_cases hs : 60 < s.length
    · exact wpar_long1 b h s a ha L A B C k1 k2 k3 c1 c2 c3 w hr hs
    · by_cases hk : 20 < k1
      · exact wpar_long2 b h s a ha L A B C k1 k2 k3 c1 c2 c3 w hr hs hk
      · exact wpar_yes b h s a ha L A B C k1 k2 k3 c1 c2 c3 w hr hs hk

open Go.ChangeShapes Go.WideShapes Go.ChangeAt
open Go.ChangeMaps (open_string shut_string)
theorem own_WitnessParams : ownKnob Try.prog.godebug = none := by kernel_rfl
theorem laidOut_WitnessParams : laidOutB Try.prog = true := by kernel_rfl
set_option linter.unusedVariables false in
set_option maxRecDepth 100000 in
theorem lifted_WitnessParams (os : Os) (started : os.Started) (H : Type) (enc : TypeId × Value → H) :
    ReturnsInHanded {} Try.checked os 3 .any (Rows.witnessParamsSpec.pre6 enc Try.prog Try.f3 Rows.witnessParamsRow.domain false) (Rows.witnessParamsSpec.post enc Try.prog Try.f3 false true false false) := by
  refine returnsInHanded_of_change (C := Try.checked) own_WitnessParams started (by kernel_rfl) Try.func3
    (ChangeSpec.witness6 (enc := enc) (C := Try.checked) false ⟨#[], #[.agg #[.int .i64 0, .int .i64 0], .string ByteArray.empty, .agg #[.int .u8 0, .int .u8 0, .int .u8 0, .int .u8 0, .int .u8 0, .int .u8 0, .int .u8 0, .int .u8 0, .int .u8 0, .int .u8 0, .int .u8 0, .int .u8 0, .int .u8 0, .int .u8 0, .int .u8 0, .int .u8 0, .int .u8 0, .int .u8 0, .int .u8 0, .int .u8 0, .int .u8 0, .int .u8 0, .int .u8 0, .int .u8 0, .int .u8 0, .int .u8 0, .int .u8 0, .int .u8 0, .int .u8 0, .int .u8 0, .int .u8 0, .int .u8 0], .agg #[.int .i64 0, .slice none 0 0, .slice none 0 0, .slice none 0 0]], []⟩ 8 (by kernel_rfl) (by kernel_rfl) (by kernel_rfl) (by kernel_rfl)) ?_
  intro W base args ds gs before hval0 hW hcnd _
  have hval : ∀ (j : Nat) t v, Try.f3.params[j]? = some t → args[j]? = some v → Value.okWide Try.prog W .any base t v := hval0
  have hW' := hW
  obtain ⟨p, q, hA0, hV, rfl, hfz, hnd⟩ := hW
  have hA1 : DataW.TrodAll enc Try.prog W 0 (fun _ => true) true Try.f3.params.toList args.toList ds p := hA0
  have hA : DataW.TrodAll enc Try.prog W 0 (fun _ => true) true Try.f3.params.toList args.toList ds p := hA0
  rw [Try.params3] at hA hval
  obtain ⟨v0, vs0, d0, ds0, p0, q0, hargs, rfl, rfl, h0, r0⟩ := trodAll_cons hA
  obtain ⟨v1, vs1, d1, ds1, p1, q1, rfl, rfl, rfl, h1, r1⟩ := trodAll_cons r0
  obtain ⟨v2, vs2, d2, ds2, p2, q2, rfl, rfl, rfl, h2, r2⟩ := trodAll_cons r1
  obtain ⟨v3, vs3, d3, ds3, p3, q3, rfl, rfl, rfl, h3, r3⟩ := trodAll_cons r2
  obtain ⟨rfl, rfl, rfl⟩ := trodAll_nil r3
  obtain rfl : args = #[v0, v1, v2, v3] := by cases args; simp_all
  obtain ⟨rfl, rfl⟩ := trodVars_none hV
  obtain ⟨a0, x0, rfl, w0, u0⟩ := open_paramsW (hval 0 23 v0 rfl rfl) h0
  obtain ⟨a1, rfl, rfl, rfl, w1⟩ := open_string Try.underlying9 (hval 1 9 v1 rfl rfl) h1
  obtain ⟨s1, rfl⟩ : ∃ s1, a1 = txt s1 := ⟨a1.data.toList, by unfold txt; simp⟩
  obtain ⟨a2, w2, rfl⟩ := open_id Try.underlying25 Try.underlying5 (by kernel_rfl) (by kernel_rfl) (hval 2 25 v2 rfl rfl) h2
  obtain ⟨a3, A, B, C, k1, k2, k3, c1, c2, c3, l, r, way, rfl, w3, y1, y2, y3, y4⟩ := open_sigW (hval 3 28 v3 rfl rfl) h3
  clear hA0 hval0
  refine (law_WitnessParams a0 x0 s1 a2 w2 a3 A B C k1 k2 k3 c1 c2 c3 W).mono fun e W' ⟨he, bel⟩ => ?_
  subst he
  exact ⟨_, rfl, _, _, _, [], _, [], hW', trodAll_mk1 (shut_bool Try.underlying4 _), trodAll_stays laidOut_WitnessParams bel (by kernel_rfl) hA1, rfl, bel.frame _, fun h => by cases h⟩

/-- The statement. -/
theorem WitnessParams_holds : Rows.WitnessParamsSaid :=
  OpenClaim.holds_of_wide 3 Try.f3 rfl rfl rfl rfl rfl rfl rfl ⟨rfl, rfl, rfl, rfl, rfl⟩ rfl rfl rfl rfl rfl (by kernel_rfl) Try.func3 (by kernel_rfl)
    (of_decide_eq_true (by kernel_rfl)) (by unfold Func.isWrapper; first | (rw [if_pos (by decide +kernel)]; kernel_rfl) | (rw [if_neg (by decide +kernel)]; exact ⟨rfl, rfl⟩))
    (fun os started H enc _ => lifted_WitnessParams os started H enc)
#print axioms WitnessParams_holds

end Go.Proofs.Yticpdepbgcagaaa

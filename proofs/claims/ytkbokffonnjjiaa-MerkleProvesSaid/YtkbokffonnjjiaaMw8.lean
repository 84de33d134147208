
/- merkle: Check, of an honest proof. -/
import Derived.Test.YtkbokffonnjjiaaMw7
set_option linter.unusedSimpArgs false
set_option linter.unusedVariables false
namespace Go.Proofs.Ytkbokffonnjjiaa
open Go.RowKit Go.Qc Go.Shelf
attribute [local go_sem] txt_size txt_append ib_fold
set_option maxRecDepth 100000 in
set_option maxHeartbeats 8000000 in
theorem check_in (n d : Nat) (B : Option Addr) (X : PlD) (S a : List UInt8) (hSl : S.length = 32) (ha : a.length = 32) (hn0 : 0 < n) (hn : n ≤ 1099511627776) (w : World) (hP : PlRd w B [X]) (hX : X.a = a)
    (hL : ∀ W, Below w.heap.size w W → Calls Try.prog 59 #[.agg (idVals S), .agg #[.int .i64 (n : Int), .slice B 1 d]] W fun e w' => e = .returned (.bool true) ∧ Below W.heap.size W w') :
    Calls Try.prog 18 #[.agg (idVals S), .agg (idVals a), .agg #[.int .i64 (n : Int), .slice B 1 d]] w fun e w' => e = .returned (.tuple #[.bool true, .bool true]) ∧ Below w.heap.size w w' := by
  obtain ⟨gy, qy, fx, hok, hix0⟩ := hP.pick (k := 0) (X := X) d rfl rfl
  have hix : ∀ W, (Instr.indexAt 26 (.slice B 1 d) (.int .i64 0)).run Try.prog W = .ok (.pointer (some ⟨gy, qy, none⟩)) W := hix0
  have hXl : X.a.length = 32 := hok
  have hzx : (Try.prog.info? 24).map (·.size) = some (X.a.map u8v).length := by rw [List.length_map, hXl]; exact sizeId
  have z1 : ((n : Int) == 0) = false := by simp; omega
  have z2 : ¬ (n : Int) = 0 := by omega
  have z3 : ¬ n = 0 := by omega
  have hie : ∀ W, (Op.equalIn 10000 24 (.agg (List.map u8v X.a).toArray) (.agg (List.map u8v a).toArray)).run Try.prog W = .ok (decide (X.a = a)) W := fun W => ids_eq W X.a a hXl ha
  rw [decide_eq_true hX] at hie
  clear hX
  have hu := Try.underlying24
  have hzS : (Try.prog.info? 24).map (·.size) = some (S.map u8v).length := by rw [List.length_map, hSl]; exact sizeId
  have hza : (Try.prog.info? 24).map (·.size) = some (a.map u8v).length := by rw [List.length_map, ha]; exact sizeId
  go_enter Try.func18, Try.ntmps18
  go_upto_region 1 with (fail)
  generalize hZ : ((w.alloc (.cells (idVals S) 24)).alloc (.cells (idVals a) 24)).alloc (.cells #[.int .i64 (n : Int), .slice B 1 d] 28) = w1
  have hb1 : Below w.heap.size w w1 := by rw [← hZ]; exact (((Below.refl w.heap.size w).alloc (Nat.le_refl _) _).alloc (by simp) _).alloc (by simp; omega) _
  have bS : w1.rangeAt w.heap.size 0 (S.map u8v) := by rw [← hZ]; exact range_blk (((Blk.new w 24 (idVals S)).alloc _).alloc _)
  have bA : w1.rangeAt (w.heap.size + 1) 0 (a.map u8v) := by rw [← hZ]; exact range_blk ((blk_p1 w _ 24 (idVals a)).alloc _)
  have hp1 : Blk w1 (w.heap.size + 1 + 1) 28 #[.int .i64 (n : Int), .slice B 1 d] := by rw [← hZ]; exact blk_p2 w _ _ _ _
  have f0 : w1.cell? ⟨w.heap.size + 1 + 1, 0, none⟩ = some (.int .i64 (n : Int)) := hp1.cell_ rfl
  have f1 : w1.cell? ⟨w.heap.size + 1 + 1, 1, none⟩ = some (.slice B 1 d) := hp1.cell_ rfl
  clear hZ
  replace fx := fx.below hb1
  have c2 : Calls Try.prog 59 #[.agg (List.map u8v S).toArray, .agg #[.int .i64 (n : Int), .slice B 1 d]] w1 fun e w' => e = .returned (.bool true) ∧ Below w1.heap.size w1 w' := hL w1 hb1
  go_upto_region 5 with (first
    | (with_reducible refine wpList_load_if (by with_unfolding_all rfl) 24 _ rfl _ _ rfl (S.map u8v) _ bS hu rfl hzS ?_)
    | (go_at_call 59; (with_reducible refine c2.mono ?_); rintro e2 w2 ⟨rfl, hb2⟩))
  clear bS c2 hp1
  replace f0 := cell_belM hb2 f0
  replace f1 := cell_belM hb2 f1
  replace bA := bA.below hb2
  replace fx := fx.below hb2
  replace hb1 := hb1.trans (hb2.mono hb1.size)
  clear hb2
  go_upto_region 6 with (first
    | (with_reducible refine wpList_load_plr (by with_unfolding_all rfl) _ rfl gy qy rfl fx hok ?_)
    | (with_reducible refine wpList_store_pln rfl _ _ rfl rfl rfl hok rfl ?_))
  have hx3 := PlX.new w2 X
  have hb3 := (Below.refl w2.heap.size w2).alloc (Nat.le_refl _) (.cells X.cs 37)
  replace f0 := cell_belM hb3 f0
  replace f1 := cell_belM hb3 f1
  replace bA := bA.below hb3
  replace hb1 := hb1.trans (hb3.mono hb1.size)
  clear hb3 fx hix hix0
  generalize w2.alloc (.cells X.cs 37) = w3 at *
  obtain ⟨g8, hg8⟩ : ∃ g, w2.heap.size = g := ⟨_, rfl⟩
  rw [hg8] at hx3
  simp only [hg8]
  clear hg8
  have bX : w3.rangeAt g8 0 (X.a.map u8v) := hx3.ida
  have f32 := hx3.c32 hok
  go_wp2_with (first
    | (with_reducible refine wpList_load_if (by with_unfolding_all rfl) 24 _ rfl _ _ rfl (X.a.map u8v) _ bX hu rfl hzx ?_)
    | (with_reducible refine wpList_load_if (by with_unfolding_all rfl) 24 _ rfl _ _ rfl (a.map u8v) _ bA hu rfl hza ?_))
  go_ret2
  exact ⟨rfl, hb1⟩
set_option maxRecDepth 100000 in
set_option maxHeartbeats 8000000 in
theorem check_first (n d : Nat) (B : Option Addr) (X : PlD) (S a : List UInt8) (hSl : S.length = 32) (ha : a.length = 32) (hn0 : 0 < n) (hn : n ≤ 1099511627776) (w : World) (hP : PlRd w B [X]) (hne : X.a ≠ a) (ht : X.t = 0) (hlt : ltB a X.a = true)
    (hL : ∀ W, Below w.heap.size w W → Calls Try.prog 59 #[.agg (idVals S), .agg #[.int .i64 (n : Int), .slice B 1 d]] W fun e w' => e = .returned (.bool true) ∧ Below W.heap.size W w') :
    Calls Try.prog 18 #[.agg (idVals S), .agg (idVals a), .agg #[.int .i64 (n : Int), .slice B 1 d]] w fun e w' => e = .returned (.tuple #[.bool false, .bool true]) ∧ Below w.heap.size w w' := by
  obtain ⟨gy, qy, fx, hok, hix0⟩ := hP.pick (k := 0) (X := X) d rfl rfl
  have hix : ∀ W, (Instr.indexAt 26 (.slice B 1 d) (.int .i64 0)).run Try.prog W = .ok (.pointer (some ⟨gy, qy, none⟩)) W := hix0
  have hXl : X.a.length = 32 := hok
  have hzx : (Try.prog.info? 24).map (·.size) = some (X.a.map u8v).length := by rw [List.length_map, hXl]; exact sizeId
  have z1 : ((n : Int) == 0) = false := by simp; omega
  have z2 : ¬ (n : Int) = 0 := by omega
  have z3 : ¬ n = 0 := by omega
  have hie : ∀ W, (Op.equalIn 10000 24 (.agg (List.map u8v X.a).toArray) (.agg (List.map u8v a).toArray)).run Try.prog W = .ok (decide (X.a = a)) W := fun W => ids_eq W X.a a hXl ha
  rw [decide_eq_false hne] at hie
  clear hne
  have cA : ∀ W, Calls Try.prog 60 #[.agg (List.map u8v a).toArray, .agg (List.map u8v X.a).toArray] W fun e w' => e = .returned (.bool true) ∧ Below W.heap.size W w' := fun W => by
    have := less_any a X.a ha hXl W
    rw [hlt] at this
    exact this
  obtain ⟨x0, hx0⟩ : ∃ x0, X.t = x0 := ⟨_, rfl⟩
  have hu := Try.underlying24
  have hzS : (Try.prog.info? 24).map (·.size) = some (S.map u8v).length := by rw [List.length_map, hSl]; exact sizeId
  have hza : (Try.prog.info? 24).map (·.size) = some (a.map u8v).length := by rw [List.length_map, ha]; exact sizeId
  go_enter Try.func18, Try.ntmps18
  go_upto_region 1 with (fail)
  generalize hZ : ((w.alloc (.cells (idVals S) 24)).alloc (.cells (idVals a) 24)).alloc (.cells #[.int .i64 (n : Int), .slice B 1 d] 28) = w1
  have hb1 : Below w.heap.size w w1 := by rw [← hZ]; exact (((Below.refl w.heap.size w).alloc (Nat.le_refl _) _).alloc (by simp) _).alloc (by simp; omega) _
  have bS : w1.rangeAt w.heap.size 0 (S.map u8v) := by rw [← hZ]; exact range_blk (((Blk.new w 24 (idVals S)).alloc _).alloc _)
  have bA : w1.rangeAt (w.heap.size + 1) 0 (a.map u8v) := by rw [← hZ]; exact range_blk ((blk_p1 w _ 24 (idVals a)).alloc _)
  have hp1 : Blk w1 (w.heap.size + 1 + 1) 28 #[.int .i64 (n : Int), .slice B 1 d] := by rw [← hZ]; exact blk_p2 w _ _ _ _
  have f0 : w1.cell? ⟨w.heap.size + 1 + 1, 0, none⟩ = some (.int .i64 (n : Int)) := hp1.cell_ rfl
  have f1 : w1.cell? ⟨w.heap.size + 1 + 1, 1, none⟩ = some (.slice B 1 d) := hp1.cell_ rfl
  clear hZ
  replace fx := fx.below hb1
  have c2 : Calls Try.prog 59 #[.agg (List.map u8v S).toArray, .agg #[.int .i64 (n : Int), .slice B 1 d]] w1 fun e w' => e = .returned (.bool true) ∧ Below w1.heap.size w1 w' := hL w1 hb1
  go_upto_region 5 with (first
    | (with_reducible refine wpList_load_if (by with_unfolding_all rfl) 24 _ rfl _ _ rfl (S.map u8v) _ bS hu rfl hzS ?_)
    | (go_at_call 59; (with_reducible refine c2.mono ?_); rintro e2 w2 ⟨rfl, hb2⟩))
  clear bS c2 hp1
  replace f0 := cell_belM hb2 f0
  replace f1 := cell_belM hb2 f1
  replace bA := bA.below hb2
  replace fx := fx.below hb2
  replace hb1 := hb1.trans (hb2.mono hb1.size)
  clear hb2
  go_upto_region 6 with (first
    | (with_reducible refine wpList_load_plr (by with_unfolding_all rfl) _ rfl gy qy rfl fx hok ?_)
    | (with_reducible refine wpList_store_pln rfl _ _ rfl rfl rfl hok rfl ?_))
  have hx3 := PlX.new w2 X
  have hb3 := (Below.refl w2.heap.size w2).alloc (Nat.le_refl _) (.cells X.cs 37)
  replace f0 := cell_belM hb3 f0
  replace f1 := cell_belM hb3 f1
  replace bA := bA.below hb3
  replace hb1 := hb1.trans (hb3.mono hb1.size)
  clear hb3 fx hix hix0
  generalize w2.alloc (.cells X.cs 37) = w3 at *
  obtain ⟨g8, hg8⟩ : ∃ g, w2.heap.size = g := ⟨_, rfl⟩
  rw [hg8] at hx3
  simp only [hg8]
  clear hg8
  have bX : w3.rangeAt g8 0 (X.a.map u8v) := hx3.ida
  have f32 := hx3.c32 hok
  rw [ht] at f32
  go_wp2_with (first
    | (with_reducible refine wpList_load_if (by with_unfolding_all rfl) 24 _ rfl _ _ rfl (X.a.map u8v) _ bX hu rfl hzx ?_)
    | (with_reducible refine wpList_load_if (by with_unfolding_all rfl) 24 _ rfl _ _ rfl (a.map u8v) _ bA hu rfl hza ?_)
    | (go_at_call 60; (with_reducible refine (cA _).mono ?_); rintro e4 w4 ⟨rfl, hb4⟩))
  go_ret2
  exact ⟨rfl, hb1.trans (hb4.mono hb1.size)⟩
set_option maxRecDepth 100000 in
set_option maxHeartbeats 8000000 in
theorem check_last (n d : Nat) (B : Option Addr) (X : PlD) (S a : List UInt8) (hSl : S.length = 32) (ha : a.length = 32) (hn0 : 0 < n) (hn : n ≤ 1099511627776) (w : World) (hP : PlRd w B [X]) (hne : X.a ≠ a) (ht : X.t = (n : Int) - 1) (hlt : ltB X.a a = true) (hgt : ltB a X.a = false)
    (hL : ∀ W, Below w.heap.size w W → Calls Try.prog 59 #[.agg (idVals S), .agg #[.int .i64 (n : Int), .slice B 1 d]] W fun e w' => e = .returned (.bool true) ∧ Below W.heap.size W w') :
    Calls Try.prog 18 #[.agg (idVals S), .agg (idVals a), .agg #[.int .i64 (n : Int), .slice B 1 d]] w fun e w' => e = .returned (.tuple #[.bool false, .bool true]) ∧ Below w.heap.size w w' := by
  obtain ⟨gy, qy, fx, hok, hix0⟩ := hP.pick (k := 0) (X := X) d rfl rfl
  have hix : ∀ W, (Instr.indexAt 26 (.slice B 1 d) (.int .i64 0)).run Try.prog W = .ok (.pointer (some ⟨gy, qy, none⟩)) W := hix0
  have hXl : X.a.length = 32 := hok
  have hzx : (Try.prog.info? 24).map (·.size) = some (X.a.map u8v).length := by rw [List.length_map, hXl]; exact sizeId
  have z1 : ((n : Int) == 0) = false := by simp; omega
  have z2 : ¬ (n : Int) = 0 := by omega
  have z3 : ¬ n = 0 := by omega
  have hie : ∀ W, (Op.equalIn 10000 24 (.agg (List.map u8v X.a).toArray) (.agg (List.map u8v a).toArray)).run Try.prog W = .ok (decide (X.a = a)) W := fun W => ids_eq W X.a a hXl ha
  rw [decide_eq_false hne] at hie
  clear hne
  have cA : ∀ W, Calls Try.prog 60 #[.agg (List.map u8v a).toArray, .agg (List.map u8v X.a).toArray] W fun e w' => e = .returned (.bool false) ∧ Below W.heap.size W w' := fun W => by
    have := less_any a X.a ha hXl W
    rw [hgt] at this
    exact this
  have cB : ∀ W, Calls Try.prog 60 #[.agg (List.map u8v X.a).toArray, .agg (List.map u8v a).toArray] W fun e w' => e = .returned (.bool true) ∧ Below W.heap.size W w' := fun W => by
    have := less_any X.a a hXl ha W
    rw [hlt] at this
    exact this
  have hv : wrap64 ((n : Int) - 1) = (n : Int) - 1 := by unfold wrap64; omega
  have hu := Try.underlying24
  have hzS : (Try.prog.info? 24).map (·.size) = some (S.map u8v).length := by rw [List.length_map, hSl]; exact sizeId
  have hza : (Try.prog.info? 24).map (·.size) = some (a.map u8v).length := by rw [List.length_map, ha]; exact sizeId
  go_enter Try.func18, Try.ntmps18
  go_upto_region 1 with (fail)
  generalize hZ : ((w.alloc (.cells (idVals S) 24)).alloc (.cells (idVals a) 24)).alloc (.cells #[.int .i64 (n : Int), .slice B 1 d] 28) = w1
  have hb1 : Below w.heap.size w w1 := by rw [← hZ]; exact (((Below.refl w.heap.size w).alloc (Nat.le_refl _) _).alloc (by simp) _).alloc (by simp; omega) _
  have bS : w1.rangeAt w.heap.size 0 (S.map u8v) := by rw [← hZ]; exact range_blk (((Blk.new w 24 (idVals S)).alloc _).alloc _)
  have bA : w1.rangeAt (w.heap.size + 1) 0 (a.map u8v) := by rw [← hZ]; exact range_blk ((blk_p1 w _ 24 (idVals a)).alloc _)
  have hp1 : Blk w1 (w.heap.size + 1 + 1) 28 #[.int .i64 (n : Int), .slice B 1 d] := by rw [← hZ]; exact blk_p2 w _ _ _ _
  have f0 : w1.cell? ⟨w.heap.size + 1 + 1, 0, none⟩ = some (.int .i64 (n : Int)) := hp1.cell_ rfl
  have f1 : w1.cell? ⟨w.heap.size + 1 + 1, 1, none⟩ = some (.slice B 1 d) := hp1.cell_ rfl
  clear hZ
  replace fx := fx.below hb1
  have c2 : Calls Try.prog 59 #[.agg (List.map u8v S).toArray, .agg #[.int .i64 (n : Int), .slice B 1 d]] w1 fun e w' => e = .returned (.bool true) ∧ Below w1.heap.size w1 w' := hL w1 hb1
  go_upto_region 5 with (first
    | (with_reducible refine wpList_load_if (by with_unfolding_all rfl) 24 _ rfl _ _ rfl (S.map u8v) _ bS hu rfl hzS ?_)
    | (go_at_call 59; (with_reducible refine c2.mono ?_); rintro e2 w2 ⟨rfl, hb2⟩))
  clear bS c2 hp1
  replace f0 := cell_belM hb2 f0
  replace f1 := cell_belM hb2 f1
  replace bA := bA.below hb2
  replace fx := fx.below hb2
  replace hb1 := hb1.trans (hb2.mono hb1.size)
  clear hb2
  go_upto_region 6 with (first
    | (with_reducible refine wpList_load_plr (by with_unfolding_all rfl) _ rfl gy qy rfl fx hok ?_)
    | (with_reducible refine wpList_store_pln rfl _ _ rfl rfl rfl hok rfl ?_))
  have hx3 := PlX.new w2 X
  have hb3 := (Below.refl w2.heap.size w2).alloc (Nat.le_refl _) (.cells X.cs 37)
  replace f0 := cell_belM hb3 f0
  replace f1 := cell_belM hb3 f1
  replace bA := bA.below hb3
  replace hb1 := hb1.trans (hb3.mono hb1.size)
  clear hb3 fx hix hix0
  generalize w2.alloc (.cells X.cs 37) = w3 at *
  obtain ⟨g8, hg8⟩ : ∃ g, w2.heap.size = g := ⟨_, rfl⟩
  rw [hg8] at hx3
  simp only [hg8]
  clear hg8
  have bX : w3.rangeAt g8 0 (X.a.map u8v) := hx3.ida
  have f32 := hx3.c32 hok
  rw [ht] at f32
  by_cases hq : n = 1
  · have q1 : ((n : Int) - 1 == 0) = true := by simp; omega
    have q2 : (n : Int) - 1 = 0 := by omega
    rw [q2] at f32
    rw [q2] at hv
    have q3 : ((0 : Int) == 0) = true := by decide
    clear hq q1
    go_wp2_with (first
      | (with_reducible refine wpList_load_if (by with_unfolding_all rfl) 24 _ rfl _ _ rfl (X.a.map u8v) _ bX hu rfl hzx ?_)
      | (with_reducible refine wpList_load_if (by with_unfolding_all rfl) 24 _ rfl _ _ rfl (a.map u8v) _ bA hu rfl hza ?_)
      | (go_at_call 60; (with_reducible refine (cA _).mono ?_); rintro e4 w4 ⟨rfl, hb4⟩; have k0 := cell_belM hb4 f0; have k32 := cell_belM hb4 f32; have bX4 := bX.below hb4; have bA4 := bA.below hb4; clear cA)
      | (with_reducible refine wpList_load_if (by with_unfolding_all rfl) 24 _ rfl _ _ rfl (X.a.map u8v) _ bX4 hu rfl hzx ?_)
      | (with_reducible refine wpList_load_if (by with_unfolding_all rfl) 24 _ rfl _ _ rfl (a.map u8v) _ bA4 hu rfl hza ?_)
      | (go_at_call 60; (with_reducible refine (cB _).mono ?_); rintro e5 w5 ⟨rfl, hb5⟩))
    go_ret2
    exact ⟨rfl, hb1.trans ((hb4.trans (hb5.mono hb4.size)).mono hb1.size)⟩
  · have q1 : ((n : Int) - 1 == 0) = false := by simp; omega
    have q2 : ¬ (n : Int) - 1 = 0 := by omega
    clear hq
    go_wp2_with (first
      | (with_reducible refine wpList_load_if (by with_unfolding_all rfl) 24 _ rfl _ _ rfl (X.a.map u8v) _ bX hu rfl hzx ?_)
      | (with_reducible refine wpList_load_if (by with_unfolding_all rfl) 24 _ rfl _ _ rfl (a.map u8v) _ bA hu rfl hza ?_)
      | (go_at_call 60; (with_reducible refine (cB _).mono ?_); rintro e5 w5 ⟨rfl, hb5⟩))
    go_ret2
    exact ⟨rfl, hb1.trans (hb5.mono hb1.size)⟩
set_option maxRecDepth 100000 in
set_option maxHeartbeats 8000000 in
theorem check_two (n d : Nat) (B : Option Addr) (X Y : PlD) (S a : List UInt8) (hSl : S.length = 32) (ha : a.length = 32) (hn0 : 0 < n) (hn : n ≤ 1099511627776) (w : World) (hP : PlRd w B [X, Y]) (k : Nat) (hk : k ≤ 1000000) (hXt : X.t = (k : Int)) (hYt : Y.t = (k : Int) + 1) (h1 : ltB X.a a = true) (h2 : ltB a Y.a = true)
    (hL : ∀ W, Below w.heap.size w W → Calls Try.prog 59 #[.agg (idVals S), .agg #[.int .i64 (n : Int), .slice B 2 d]] W fun e w' => e = .returned (.bool true) ∧ Below W.heap.size W w') :
    Calls Try.prog 18 #[.agg (idVals S), .agg (idVals a), .agg #[.int .i64 (n : Int), .slice B 2 d]] w fun e w' => e = .returned (.tuple #[.bool false, .bool true]) ∧ Below w.heap.size w w' := by
  obtain ⟨gy, qy, fx, hok, hix0⟩ := hP.pick (k := 0) (X := X) d rfl rfl
  have hix : ∀ W, (Instr.indexAt 26 (.slice B 2 d) (.int .i64 0)).run Try.prog W = .ok (.pointer (some ⟨gy, qy, none⟩)) W := hix0
  obtain ⟨gz, qz, fy, hoky, hiy0⟩ := hP.pick (k := 1) (X := Y) d rfl rfl
  have hiy : ∀ W, (Instr.indexAt 26 (.slice B 2 d) (.int .i64 1)).run Try.prog W = .ok (.pointer (some ⟨gz, qz, none⟩)) W := hiy0
  have hXl : X.a.length = 32 := hok
  have hYl : Y.a.length = 32 := hoky
  have hzx : (Try.prog.info? 24).map (·.size) = some (X.a.map u8v).length := by rw [List.length_map, hXl]; exact sizeId
  have hzy : (Try.prog.info? 24).map (·.size) = some (Y.a.map u8v).length := by rw [List.length_map, hYl]; exact sizeId
  have z1 : ((n : Int) == 0) = false := by simp; omega
  have z2 : ¬ (n : Int) = 0 := by omega
  have z3 : ¬ n = 0 := by omega
  have cA : ∀ W, Calls Try.prog 60 #[.agg (List.map u8v X.a).toArray, .agg (List.map u8v a).toArray] W fun e w' => e = .returned (.bool true) ∧ Below W.heap.size W w' := fun W => by
    have := less_any X.a a hXl ha W
    rw [h1] at this
    exact this
  have cB : ∀ W, Calls Try.prog 60 #[.agg (List.map u8v a).toArray, .agg (List.map u8v Y.a).toArray] W fun e w' => e = .returned (.bool true) ∧ Below W.heap.size W w' := fun W => by
    have := less_any a Y.a ha hYl W
    rw [h2] at this
    exact this
  have q9 := pv_q1 (p := k) hk
  have q8 : ((k : Int) + 1 == (k : Int) + 1) = true := by simp
  have hu := Try.underlying24
  have hzS : (Try.prog.info? 24).map (·.size) = some (S.map u8v).length := by rw [List.length_map, hSl]; exact sizeId
  have hza : (Try.prog.info? 24).map (·.size) = some (a.map u8v).length := by rw [List.length_map, ha]; exact sizeId
  go_enter Try.func18, Try.ntmps18
  go_upto_region 1 with (fail)
  generalize hZ : ((w.alloc (.cells (idVals S) 24)).alloc (.cells (idVals a) 24)).alloc (.cells #[.int .i64 (n : Int), .slice B 2 d] 28) = w1
  have hb1 : Below w.heap.size w w1 := by rw [← hZ]; exact (((Below.refl w.heap.size w).alloc (Nat.le_refl _) _).alloc (by simp) _).alloc (by simp; omega) _
  have bS : w1.rangeAt w.heap.size 0 (S.map u8v) := by rw [← hZ]; exact range_blk (((Blk.new w 24 (idVals S)).alloc _).alloc _)
  have bA : w1.rangeAt (w.heap.size + 1) 0 (a.map u8v) := by rw [← hZ]; exact range_blk ((blk_p1 w _ 24 (idVals a)).alloc _)
  have hp1 : Blk w1 (w.heap.size + 1 + 1) 28 #[.int .i64 (n : Int), .slice B 2 d] := by rw [← hZ]; exact blk_p2 w _ _ _ _
  have f0 : w1.cell? ⟨w.heap.size + 1 + 1, 0, none⟩ = some (.int .i64 (n : Int)) := hp1.cell_ rfl
  have f1 : w1.cell? ⟨w.heap.size + 1 + 1, 1, none⟩ = some (.slice B 2 d) := hp1.cell_ rfl
  clear hZ
  replace fx := fx.below hb1
  replace fy := fy.below hb1
  have c2 : Calls Try.prog 59 #[.agg (List.map u8v S).toArray, .agg #[.int .i64 (n : Int), .slice B 2 d]] w1 fun e w' => e = .returned (.bool true) ∧ Below w1.heap.size w1 w' := hL w1 hb1
  go_upto_region 5 with (first
    | (with_reducible refine wpList_load_if (by with_unfolding_all rfl) 24 _ rfl _ _ rfl (S.map u8v) _ bS hu rfl hzS ?_)
    | (go_at_call 59; (with_reducible refine c2.mono ?_); rintro e2 w2 ⟨rfl, hb2⟩))
  clear bS c2 hp1
  replace f0 := cell_belM hb2 f0
  replace f1 := cell_belM hb2 f1
  replace bA := bA.below hb2
  replace fx := fx.below hb2
  replace fy := fy.below hb2
  replace hb1 := hb1.trans (hb2.mono hb1.size)
  clear hb2
  go_upto_region 6 with (first
    | (with_reducible refine wpList_load_plr (by with_unfolding_all rfl) _ rfl gy qy rfl fx hok ?_)
    | (with_reducible refine wpList_store_pln rfl _ _ rfl rfl rfl hok rfl ?_))
  have hx3 := PlX.new w2 X
  have hb3 := (Below.refl w2.heap.size w2).alloc (Nat.le_refl _) (.cells X.cs 37)
  replace f0 := cell_belM hb3 f0
  replace f1 := cell_belM hb3 f1
  replace bA := bA.below hb3
  replace fy := fy.below hb3
  replace hb1 := hb1.trans (hb3.mono hb1.size)
  clear hb3 fx hix hix0
  generalize w2.alloc (.cells X.cs 37) = w3 at *
  obtain ⟨g8, hg8⟩ : ∃ g, w2.heap.size = g := ⟨_, rfl⟩
  rw [hg8] at hx3
  simp only [hg8]
  clear hg8
  go_upto_region 12 with (first
    | (with_reducible refine wpList_load_plr (by with_unfolding_all rfl) _ rfl gz qz rfl fy hoky ?_)
    | (with_reducible refine wpList_store_pln rfl _ _ rfl rfl rfl hoky rfl ?_))
  have hy4 := PlX.new w3 Y
  have hb4 := (Below.refl w3.heap.size w3).alloc (Nat.le_refl _) (.cells Y.cs 37)
  replace hx3 := hx3.below hb4
  replace bA := bA.below hb4
  replace hb1 := hb1.trans (hb4.mono hb1.size)
  clear hb4 fy hiy hiy0 f0 f1
  generalize w3.alloc (.cells Y.cs 37) = w4 at *
  obtain ⟨g9, hg9⟩ : ∃ g, w3.heap.size = g := ⟨_, rfl⟩
  rw [hg9] at hy4
  simp only [hg9]
  clear hg9
  have bX : w4.rangeAt g8 0 (X.a.map u8v) := hx3.ida
  have f32 := hx3.c32 hok
  have k32 := hy4.c32 hoky
  rw [hXt] at f32
  rw [hYt] at k32
  go_wp2_with (first
    | (with_reducible refine wpList_load_if (by with_unfolding_all rfl) 24 _ rfl _ _ rfl (X.a.map u8v) _ bX hu rfl hzx ?_)
    | (with_reducible refine wpList_load_if (by with_unfolding_all rfl) 24 _ rfl _ _ rfl (a.map u8v) _ bA hu rfl hza ?_)
    | (go_at_call 60; (with_reducible refine (cA _).mono ?_); rintro e5 w5 ⟨rfl, hb5⟩; have bA5 := bA.below hb5; have bY5 := (hy4.below hb5).ida; clear cA)
    | (with_reducible refine wpList_load_if (by with_unfolding_all rfl) 24 _ rfl _ _ rfl (Y.a.map u8v) _ bY5 hu rfl hzy ?_)
    | (with_reducible refine wpList_load_if (by with_unfolding_all rfl) 24 _ rfl _ _ rfl (a.map u8v) _ bA5 hu rfl hza ?_)
    | (go_at_call 60; (with_reducible refine (cB _).mono ?_); rintro e6 w6 ⟨rfl, hb6⟩))
  go_ret2
  exact ⟨rfl, hb1.trans ((hb5.trans (hb6.mono hb5.size)).mono hb1.size)⟩
set_option maxRecDepth 100000 in
set_option maxHeartbeats 8000000 in
theorem check_zero (d : Nat) (B : Option Addr) (S a : List UInt8) (hS : wholeM 0 (rootM []) = S) (ha : a.length = 32) (w : World) :
    Calls Try.prog 18 #[.agg (idVals S), .agg (idVals a), .agg #[.int .i64 0, .slice B 0 d]] w fun e w' => e = .returned (.tuple #[.bool false, .bool true]) ∧ Below w.heap.size w w' := by
  have mixed : Try.prog.follows .mixedOrders = true := by kernel_rfl
  have hRl := rootM_length []
  have hSl : S.length = 32 := by rw [← hS]; exact tagB_length _ _
  have cW : ∀ W, Calls Try.prog 58 #[.int .i64 0, .agg (idVals (rootM []))] W fun e w' => e = .returned (.agg (idVals S)) ∧ Below W.heap.size W w' := fun W => by
    have := mwhole_any 0 (by decide) (rootM []) hRl W
    rw [hS] at this
    exact this
  have cR : ∀ W, Calls Try.prog 50 #[.slice none 0 0] W fun e w' => e = .returned (.agg (idVals (rootM []))) ∧ Below W.heap.size W w' := fun W => by
    exact mroot_any 0 [] (Nat.le_refl _) none 0 0 W ⟨⟨rfl, by decide, IdRd.nil_ _ _⟩, .inl ⟨rfl, rfl, rfl⟩⟩
  have heS : ∀ W, (Op.equalIn 10000 24 (.agg (idVals S)) (.agg (List.map u8v S).toArray)).run Try.prog W = .ok true W := fun W => (ids_eq W S S hSl hSl).trans (by rw [decide_eq_true rfl])
  clear hS
  generalize rootM [] = R at *
  have hu := Try.underlying24
  have hzS : (Try.prog.info? 24).map (·.size) = some (S.map u8v).length := by rw [List.length_map, hSl]; exact sizeId
  go_enter Try.func18, Try.ntmps18
  go_upto_region 1 with (fail)
  generalize hZ : ((w.alloc (.cells (idVals S) 24)).alloc (.cells (idVals a) 24)).alloc (.cells #[.int .i64 0, .slice B 0 d] 28) = w1
  have hb1 : Below w.heap.size w w1 := by rw [← hZ]; exact (((Below.refl w.heap.size w).alloc (Nat.le_refl _) _).alloc (by simp) _).alloc (by simp; omega) _
  have bS : w1.rangeAt w.heap.size 0 (S.map u8v) := by rw [← hZ]; exact range_blk (((Blk.new w 24 (idVals S)).alloc _).alloc _)
  have hp1 : Blk w1 (w.heap.size + 1 + 1) 28 #[.int .i64 0, .slice B 0 d] := by rw [← hZ]; exact blk_p2 w _ _ _ _
  have f0 : w1.cell? ⟨w.heap.size + 1 + 1, 0, none⟩ = some (.int .i64 0) := hp1.cell_ rfl
  have f1 : w1.cell? ⟨w.heap.size + 1 + 1, 1, none⟩ = some (.slice B 0 d) := hp1.cell_ rfl
  clear hZ hp1
  go_upto_region 2 with (fail)
  have fS := range_later bS
  have f11 : ∀ p : LaterW w1, p.w.cell? ⟨w.heap.size + 1 + 1, 1, none⟩ = some (.slice B 0 d) := fun p => cell_belM p.h f1
  have dW : ∀ p : LaterW w1, Calls Try.prog 58 #[.int .i64 0, .agg (idVals R)] p.w fun e w' => e = .returned (.agg (idVals S)) ∧ Below p.w.heap.size p.w w' := fun p => cW p.w
  have dR : ∀ p : LaterW w1, Calls Try.prog 50 #[.slice none 0 0] p.w fun e w' => e = .returned (.agg (idVals R)) ∧ Below p.w.heap.size p.w w' := fun p => cR p.w
  clear f0 f1 bS cW cR
  refine wp_region_later mixed (by kernel_rfl) ?_
  repeat (first
    | ((with_reducible refine wpQuiet_skip (by with_unfolding_all rfl) ?_); simp only [Act.put, List.setIfInBounds_toArray, List.set_cons_zero, List.set_cons_succ])
    | ((with_reducible refine wpQuiet_load_if (by with_unfolding_all rfl) 24 _ rfl _ _ rfl (S.map u8v) _ fS hu (by with_unfolding_all rfl) hzS ?_); simp only [Act.put, List.setIfInBounds_toArray, List.set_cons_zero, List.set_cons_succ])
    | ((with_reducible refine wpQuiet_step (fun K hK => ?_)); go_simp; first | ((with_reducible refine hK _ ?_); clear hK K) | (with_reducible apply Exists.intro; (with_reducible refine ⟨fun _ => ?_, hK _ ?_⟩); ((first | (go_at_call 50; exact later_of (dR _)) | (go_at_call 58; exact later_of (dW _)))); clear hK K)))
  with_reducible refine wpQuiet_nil ?_
  intro _ hw'
  obtain ⟨p9, rfl⟩ := hw'
  have hp9 := p9.h
  generalize p9.w = w9 at *
  go_wp2_with (fail)
  go_ret2
  exact ⟨rfl, hb1.trans (hp9.mono hb1.size)⟩
end Go.Proofs.Ytkbokffonnjjiaa

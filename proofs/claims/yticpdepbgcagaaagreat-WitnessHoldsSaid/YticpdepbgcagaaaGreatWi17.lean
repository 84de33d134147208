
/- witness: whether any witness is what it says: of the program. -/
import Derived.Test.YticpdepbgcagaaaGreatWi16
import Derived.ChangeShapes
import Derived.Deep.DeepCutAuto
set_option linter.unusedSimpArgs false
set_option linter.unusedVariables false
namespace Go.Proofs.YticpdepbgcagaaaGreat
open Go.RowKit Go.Qc Go.Shelf
attribute [local go_sem] txt_size txt_append ib_fold

set_option maxRecDepth 100000 in
set_option maxHeartbeats 20000000 in
theorem wphg_1 (n H : Nat) (s : List UInt8) (hs : s.length ≤ 1000) (X : Option Addr) (x cx : Nat) (Xs : List WiD) (hxn : Xs.length = x) (bx : x ≤ 1000) (a : List UInt8) (ha : a.length = 32) (L : Int) (A B C : Option Addr) (k1 k2 k3 c1 c2 c3 : Nat) (t v : List UInt8) (l b u : Int) (V : List UInt8) (hV : V.length = 32) (r : Bool) (hh : honB n Xs a L = r) (hr : rgtP n H = true) (w : World) (hX : WiRd w X Xs) :
    Calls Tryz.prog 13 #[.agg #[.int .i64 n, .int .i64 H], .string (txt s), .slice X x cx, .agg (idVals a), .agg #[.int .i64 L, .slice A k1 c1, .slice B k2 c2, .slice C k3 c3], .agg (wtC 1 (txt t) (txt v) l b u V)] w fun e w' => e = .returned (.bool r) ∧ Below w.heap.size w w' := by
  have h1 := (Below.refl w.heap.size w).alloc (Nat.le_refl _) (.cells #[.int .i64 n, .int .i64 H] 29)
  have h2 := h1.alloc h1.size (.cells (idVals a) 24)
  have h3 := h2.alloc h2.size (.cells #[.int .i64 L, .slice A k1 c1, .slice B k2 c2, .slice C k3 c3] 27)
  have h4 := h3.alloc h3.size (.cells (wtC 1 (txt t) (txt v) l b u V) 32)
  have B1 := (((Blk.new w 29 #[.int .i64 n, .int .i64 H]).alloc (.cells (idVals a) 24)).alloc (.cells #[.int .i64 L, .slice A k1 c1, .slice B k2 c2, .slice C k3 c3] 27)).alloc (.cells (wtC 1 (txt t) (txt v) l b u V) 32)
  have B2 := ((Blk.new (w.alloc (.cells #[.int .i64 n, .int .i64 H] 29)) 24 (idVals a)).alloc (.cells #[.int .i64 L, .slice A k1 c1, .slice B k2 c2, .slice C k3 c3] 27)).alloc (.cells (wtC 1 (txt t) (txt v) l b u V) 32)
  have B3 := (Blk.new ((w.alloc (.cells #[.int .i64 n, .int .i64 H] 29)).alloc (.cells (idVals a) 24)) 27 #[.int .i64 L, .slice A k1 c1, .slice B k2 c2, .slice C k3 c3]).alloc (.cells (wtC 1 (txt t) (txt v) l b u V) 32)
  have B4 := Blk.new (((w.alloc (.cells #[.int .i64 n, .int .i64 H] 29)).alloc (.cells (idVals a) 24)).alloc (.cells #[.int .i64 L, .slice A k1 c1, .slice B k2 c2, .slice C k3 c3] 27)) 32 (wtC 1 (txt t) (txt v) l b u V)
  rw [World.size_alloc] at B2
  rw [World.size_alloc, World.size_alloc] at B3
  rw [World.size_alloc, World.size_alloc, World.size_alloc] at B4
  have hu := Tryz.underlying24
  have hza : (Tryz.prog.info? 24).map (·.size) = some (a.map u8v).length := by rw [List.length_map, ha]; exact sizeId
  have cR := fun W => kright_any n H W
  rw [hr] at cR
  have cH : ∀ W, Below w.heap.size w W → Calls Tryz.prog 32 #[.agg #[.int .i64 n, .int .i64 H], .slice X x cx, .agg (List.map u8v a).toArray, .int .i64 L] W fun e w' => e = .returned (.bool r) ∧ Below W.heap.size W w' := fun W hW => by
    have h := whonest_any n H a ha L X x cx Xs hxn bx W (hX.below hW)
    unfold honB at hh
    rw [hh] at h
    exact h
  have q0F := wtC_c0 1 (txt t) (txt v) l b u V
  clear h1 h2 h3 hh
  go_enter Tryz.func13, Tryz.ntmps13
  go_upto_region 1 with (fail)
  generalize ((((w.alloc (.cells #[.int .i64 n, .int .i64 H] 29)).alloc (.cells (idVals a) 24)).alloc (.cells #[.int .i64 L, .slice A k1 c1, .slice B k2 c2, .slice C k3 c3] 27)).alloc (.cells (wtC 1 (txt t) (txt v) l b u V) 32)) = w1 at *
  have p0 := B1.cell_ (i := 0) rfl
  have p1 := B1.cell_ (i := 1) rfl
  have s0 := B3.cell_ (i := 0) rfl
  have q0 := B4.cell_ q0F
  go_upto_region 5 with (first
    | (go_at_call 24; (with_reducible refine (cR _).mono ?_); rintro e1 w2 ⟨rfl, hb2⟩; replace h4 := h4.trans (hb2.mono h4.size); replace B1 := B1.below hb2; replace B2 := B2.below hb2; replace B3 := B3.below hb2; replace B4 := B4.below hb2; replace p0 := B1.cell_ (i := 0) rfl; replace p1 := B1.cell_ (i := 1) rfl; replace s0 := B3.cell_ (i := 0) rfl; replace q0 := B4.cell_ q0F)
)
  have fa := range_blk B2
  go_wp2_with (first
    | (with_reducible refine wpList_load_if (by with_unfolding_all rfl) 24 _ rfl _ _ rfl (a.map u8v) _ fa hu rfl hza ?_)
    | (go_at_call 32; (with_reducible refine (cH _ h4).mono ?_); rintro e3 w3 ⟨rfl, hb3⟩))
  go_ret
  exact ⟨rfl, h4.trans (hb3.mono h4.size)⟩

set_option maxRecDepth 100000 in
set_option maxHeartbeats 20000000 in
theorem wphg_2 (n H : Nat) (s : List UInt8) (hs : s.length ≤ 1000) (X : Option Addr) (x cx : Nat) (Xs : List WiD) (hxn : Xs.length = x) (bx : x ≤ 1000) (a : List UInt8) (ha : a.length = 32) (L : Int) (A B C : Option Addr) (k1 k2 k3 c1 c2 c3 : Nat) (t v : List UInt8) (l b u : Int) (V : List UInt8) (hV : V.length = 32) (htv : t ≠ v) (lt : t.length ≤ 1000000) (lv : v.length ≤ 1000000) (r : Bool) (hsum : decide (sumB t = sumB v) = r) (hr : rgtP n H = true) (w : World) (hX : WiRd w X Xs) :
    Calls Tryz.prog 13 #[.agg #[.int .i64 n, .int .i64 H], .string (txt s), .slice X x cx, .agg (idVals a), .agg #[.int .i64 L, .slice A k1 c1, .slice B k2 c2, .slice C k3 c3], .agg (wtC 2 (txt t) (txt v) l b u V)] w fun e w' => e = .returned (.bool r) ∧ Below w.heap.size w w' := by
  have h1 := (Below.refl w.heap.size w).alloc (Nat.le_refl _) (.cells #[.int .i64 n, .int .i64 H] 29)
  have h2 := h1.alloc h1.size (.cells (idVals a) 24)
  have h3 := h2.alloc h2.size (.cells #[.int .i64 L, .slice A k1 c1, .slice B k2 c2, .slice C k3 c3] 27)
  have h4 := h3.alloc h3.size (.cells (wtC 2 (txt t) (txt v) l b u V) 32)
  have B1 := (((Blk.new w 29 #[.int .i64 n, .int .i64 H]).alloc (.cells (idVals a) 24)).alloc (.cells #[.int .i64 L, .slice A k1 c1, .slice B k2 c2, .slice C k3 c3] 27)).alloc (.cells (wtC 2 (txt t) (txt v) l b u V) 32)
  have B2 := ((Blk.new (w.alloc (.cells #[.int .i64 n, .int .i64 H] 29)) 24 (idVals a)).alloc (.cells #[.int .i64 L, .slice A k1 c1, .slice B k2 c2, .slice C k3 c3] 27)).alloc (.cells (wtC 2 (txt t) (txt v) l b u V) 32)
  have B3 := (Blk.new ((w.alloc (.cells #[.int .i64 n, .int .i64 H] 29)).alloc (.cells (idVals a) 24)) 27 #[.int .i64 L, .slice A k1 c1, .slice B k2 c2, .slice C k3 c3]).alloc (.cells (wtC 2 (txt t) (txt v) l b u V) 32)
  have B4 := Blk.new (((w.alloc (.cells #[.int .i64 n, .int .i64 H] 29)).alloc (.cells (idVals a) 24)).alloc (.cells #[.int .i64 L, .slice A k1 c1, .slice B k2 c2, .slice C k3 c3] 27)) 32 (wtC 2 (txt t) (txt v) l b u V)
  rw [World.size_alloc] at B2
  rw [World.size_alloc, World.size_alloc] at B3
  rw [World.size_alloc, World.size_alloc, World.size_alloc] at B4
  have hu := Tryz.underlying24
  have hza : (Tryz.prog.info? 24).map (·.size) = some (a.map u8v).length := by rw [List.length_map, ha]; exact sizeId
  have cR := fun W => kright_any n H W
  rw [hr] at cR
  have hSt : (sumB t).length = 32 := sumB_length t
  have hSv : (sumB v).length = 32 := sumB_length v
  have cT1 : ∀ W : World, Calls Tryz.prog 43 #[.string (txt t)] W fun e w' => e = .returned (.agg (List.map u8v (sumB t)).toArray) ∧ Below W.heap.size W w' := fun W => sum_any t (by omega) W
  have cT2 : ∀ W : World, Calls Tryz.prog 43 #[.string (txt v)] W fun e w' => e = .returned (.agg (List.map u8v (sumB v)).toArray) ∧ Below W.heap.size W w' := fun W => sum_any v (by omega) W
  have heq : ∀ W, (Op.equalIn 10000 24 (.agg (List.map u8v (sumB t)).toArray) (.agg (List.map u8v (sumB v)).toArray)).run Tryz.prog W = .ok r W := fun W => (ids_eq W _ _ hSt hSv).trans (by rw [hsum])
  generalize sumB t = S1 at *
  generalize sumB v = S2 at *
  have hne2 : ((txt t).toList == (txt v).toList) = false := by rw [txt_toW, txt_toW]; simpa using htv
  have q0F := wtC_c0 2 (txt t) (txt v) l b u V
  have q1F := wtC_c1 2 (txt t) (txt v) l b u V
  have q2F := wtC_c2 2 (txt t) (txt v) l b u V
  generalize txt t = x0 at *
  generalize txt v = y0 at *
  clear h1 h2 h3 hX htv hsum
  go_enter Tryz.func13, Tryz.ntmps13
  go_upto_region 1 with (fail)
  generalize ((((w.alloc (.cells #[.int .i64 n, .int .i64 H] 29)).alloc (.cells (idVals a) 24)).alloc (.cells #[.int .i64 L, .slice A k1 c1, .slice B k2 c2, .slice C k3 c3] 27)).alloc (.cells (wtC 2 x0 y0 l b u V) 32)) = w1 at *
  have p0 := B1.cell_ (i := 0) rfl
  have p1 := B1.cell_ (i := 1) rfl
  have s0 := B3.cell_ (i := 0) rfl
  have q0 := B4.cell_ q0F
  go_upto_region 7 with (first
    | (go_at_call 24; (with_reducible refine (cR _).mono ?_); rintro e1 w2 ⟨rfl, hb2⟩; replace h4 := h4.trans (hb2.mono h4.size); replace B1 := B1.below hb2; replace B2 := B2.below hb2; replace B3 := B3.below hb2; replace B4 := B4.below hb2; replace p0 := B1.cell_ (i := 0) rfl; replace p1 := B1.cell_ (i := 1) rfl; replace s0 := B3.cell_ (i := 0) rfl; replace q0 := B4.cell_ q0F)
)
  have j1 : ∀ p : LaterW w2, p.w.cell? ⟨w.heap.size + 1 + 1 + 1, 1, none⟩ = some (.string x0) := fun p => wi_cell p.h (B4.cell_ q1F)
  have j2 : ∀ p : LaterW w2, p.w.cell? ⟨w.heap.size + 1 + 1 + 1, 2, none⟩ = some (.string y0) := fun p => wi_cell p.h (B4.cell_ q2F)
  clear B1 B2 B3 B4 p0 p1 s0 q0
  refine wp_region_later mixedW (by kernel_rfl) ?_
  repeat (first
    | ((with_reducible refine wpQuiet_step (fun K hK => ?_)); go_simp; first | ((with_reducible refine hK _ ?_); clear hK K) | (with_reducible apply Exists.intro; (with_reducible refine ⟨fun P => ?_, hK _ ?_⟩); (first | (go_at_call 43; exact later_of (cT1 P.w)) | (go_at_call 43; exact later_of (cT2 P.w))); clear hK K))
    | ((with_reducible refine BigFrame.wpQuiet_skip (by first | kernel_rfl | with_unfolding_all rfl) ?_); simp only [Act.put, List.setIfInBounds_toArray, List.set_cons_zero, List.set_cons_succ]))
  with_reducible refine wpQuiet_nil ?_
  intro _ hw9
  obtain ⟨P9, rfl⟩ := hw9
  go_wp2_with (fail)
  go_ret
  exact ⟨rfl, h4.trans (P9.h.mono h4.size)⟩

set_option maxRecDepth 100000 in
set_option maxHeartbeats 20000000 in
theorem wphg_2e (n H : Nat) (s : List UInt8) (hs : s.length ≤ 1000) (X : Option Addr) (x cx : Nat) (Xs : List WiD) (hxn : Xs.length = x) (bx : x ≤ 1000) (a : List UInt8) (ha : a.length = 32) (L : Int) (A B C : Option Addr) (k1 k2 k3 c1 c2 c3 : Nat) (t v : List UInt8) (l b u : Int) (V : List UInt8) (hV : V.length = 32) (htv : t = v) (hr : rgtP n H = true) (w : World) (hX : WiRd w X Xs) :
    Calls Tryz.prog 13 #[.agg #[.int .i64 n, .int .i64 H], .string (txt s), .slice X x cx, .agg (idVals a), .agg #[.int .i64 L, .slice A k1 c1, .slice B k2 c2, .slice C k3 c3], .agg (wtC 2 (txt t) (txt v) l b u V)] w fun e w' => e = .returned (.bool false) ∧ Below w.heap.size w w' := by
  have h1 := (Below.refl w.heap.size w).alloc (Nat.le_refl _) (.cells #[.int .i64 n, .int .i64 H] 29)
  have h2 := h1.alloc h1.size (.cells (idVals a) 24)
  have h3 := h2.alloc h2.size (.cells #[.int .i64 L, .slice A k1 c1, .slice B k2 c2, .slice C k3 c3] 27)
  have h4 := h3.alloc h3.size (.cells (wtC 2 (txt t) (txt v) l b u V) 32)
  have B1 := (((Blk.new w 29 #[.int .i64 n, .int .i64 H]).alloc (.cells (idVals a) 24)).alloc (.cells #[.int .i64 L, .slice A k1 c1, .slice B k2 c2, .slice C k3 c3] 27)).alloc (.cells (wtC 2 (txt t) (txt v) l b u V) 32)
  have B2 := ((Blk.new (w.alloc (.cells #[.int .i64 n, .int .i64 H] 29)) 24 (idVals a)).alloc (.cells #[.int .i64 L, .slice A k1 c1, .slice B k2 c2, .slice C k3 c3] 27)).alloc (.cells (wtC 2 (txt t) (txt v) l b u V) 32)
  have B3 := (Blk.new ((w.alloc (.cells #[.int .i64 n, .int .i64 H] 29)).alloc (.cells (idVals a) 24)) 27 #[.int .i64 L, .slice A k1 c1, .slice B k2 c2, .slice C k3 c3]).alloc (.cells (wtC 2 (txt t) (txt v) l b u V) 32)
  have B4 := Blk.new (((w.alloc (.cells #[.int .i64 n, .int .i64 H] 29)).alloc (.cells (idVals a) 24)).alloc (.cells #[.int .i64 L, .slice A k1 c1, .slice B k2 c2, .slice C k3 c3] 27)) 32 (wtC 2 (txt t) (txt v) l b u V)
  rw [World.size_alloc] at B2
  rw [World.size_alloc, World.size_alloc] at B3
  rw [World.size_alloc, World.size_alloc, World.size_alloc] at B4
  have hu := Tryz.underlying24
  have hza : (Tryz.prog.info? 24).map (·.size) = some (a.map u8v).length := by rw [List.length_map, ha]; exact sizeId
  have cR := fun W => kright_any n H W
  rw [hr] at cR
  have q0F := wtC_c0 2 (txt t) (txt v) l b u V
  have q1F := wtC_c1 2 (txt t) (txt v) l b u V
  have q2F := wtC_c2 2 (txt t) (txt v) l b u V
  subst htv
  generalize txt t = x0 at *
  clear h1 h2 h3 hX
  go_enter Tryz.func13, Tryz.ntmps13
  go_upto_region 1 with (fail)
  generalize ((((w.alloc (.cells #[.int .i64 n, .int .i64 H] 29)).alloc (.cells (idVals a) 24)).alloc (.cells #[.int .i64 L, .slice A k1 c1, .slice B k2 c2, .slice C k3 c3] 27)).alloc (.cells (wtC 2 x0 x0 l b u V) 32)) = w1 at *
  have p0 := B1.cell_ (i := 0) rfl
  have p1 := B1.cell_ (i := 1) rfl
  have s0 := B3.cell_ (i := 0) rfl
  have q0 := B4.cell_ q0F
  go_upto_region 7 with (first
    | (go_at_call 24; (with_reducible refine (cR _).mono ?_); rintro e1 w2 ⟨rfl, hb2⟩; replace h4 := h4.trans (hb2.mono h4.size); replace B1 := B1.below hb2; replace B2 := B2.below hb2; replace B3 := B3.below hb2; replace B4 := B4.below hb2; replace p0 := B1.cell_ (i := 0) rfl; replace p1 := B1.cell_ (i := 1) rfl; replace s0 := B3.cell_ (i := 0) rfl; replace q0 := B4.cell_ q0F)
)
  have j1 : ∀ p : LaterW w2, p.w.cell? ⟨w.heap.size + 1 + 1 + 1, 1, none⟩ = some (.string x0) := fun p => wi_cell p.h (B4.cell_ q1F)
  have j2 : ∀ p : LaterW w2, p.w.cell? ⟨w.heap.size + 1 + 1 + 1, 2, none⟩ = some (.string x0) := fun p => wi_cell p.h (B4.cell_ q2F)
  clear B1 B2 B3 B4 p0 p1 s0 q0
  refine wp_region_later mixedW (by kernel_rfl) ?_
  repeat (first
    | ((with_reducible refine wpQuiet_step (fun K hK => ?_)); go_simp; first | ((with_reducible refine hK _ ?_); clear hK K) | (with_reducible apply Exists.intro; (with_reducible refine ⟨fun P => ?_, hK _ ?_⟩); (fail); clear hK K))
    | ((with_reducible refine BigFrame.wpQuiet_skip (by first | kernel_rfl | with_unfolding_all rfl) ?_); simp only [Act.put, List.setIfInBounds_toArray, List.set_cons_zero, List.set_cons_succ]))
  with_reducible refine wpQuiet_nil ?_
  intro _ hw9
  obtain ⟨P9, rfl⟩ := hw9
  go_wp2_with (fail)
  go_ret
  exact ⟨rfl, h4.trans (P9.h.mono h4.size)⟩

set_option maxRecDepth 100000 in
set_option maxHeartbeats 20000000 in
theorem wphg_3A (n H : Nat) (s : List UInt8) (hs : s.length ≤ 1000) (X : Option Addr) (x cx : Nat) (Xs : List WiD) (hxn : Xs.length = x) (bx : x ≤ 1000) (a : List UInt8) (ha : a.length = 32) (L : Int) (A B C : Option Addr) (k1 k2 k3 c1 c2 c3 : Nat) (t v : List UInt8) (l b u : Int) (V : List UInt8) (hV : V.length = 32)  (hA : ¬ l = L) (hr : rgtP n H = true) (w : World) (hX : WiRd w X Xs) :
    Calls Tryz.prog 13 #[.agg #[.int .i64 n, .int .i64 H], .string (txt s), .slice X x cx, .agg (idVals a), .agg #[.int .i64 L, .slice A k1 c1, .slice B k2 c2, .slice C k3 c3], .agg (wtC 3 (txt t) (txt v) l b u V)] w fun e w' => e = .returned (.bool false) ∧ Below w.heap.size w w' := by
  have h1 := (Below.refl w.heap.size w).alloc (Nat.le_refl _) (.cells #[.int .i64 n, .int .i64 H] 29)
  have h2 := h1.alloc h1.size (.cells (idVals a) 24)
  have h3 := h2.alloc h2.size (.cells #[.int .i64 L, .slice A k1 c1, .slice B k2 c2, .slice C k3 c3] 27)
  have h4 := h3.alloc h3.size (.cells (wtC 3 (txt t) (txt v) l b u V) 32)
  have B1 := (((Blk.new w 29 #[.int .i64 n, .int .i64 H]).alloc (.cells (idVals a) 24)).alloc (.cells #[.int .i64 L, .slice A k1 c1, .slice B k2 c2, .slice C k3 c3] 27)).alloc (.cells (wtC 3 (txt t) (txt v) l b u V) 32)
  have B2 := ((Blk.new (w.alloc (.cells #[.int .i64 n, .int .i64 H] 29)) 24 (idVals a)).alloc (.cells #[.int .i64 L, .slice A k1 c1, .slice B k2 c2, .slice C k3 c3] 27)).alloc (.cells (wtC 3 (txt t) (txt v) l b u V) 32)
  have B3 := (Blk.new ((w.alloc (.cells #[.int .i64 n, .int .i64 H] 29)).alloc (.cells (idVals a) 24)) 27 #[.int .i64 L, .slice A k1 c1, .slice B k2 c2, .slice C k3 c3]).alloc (.cells (wtC 3 (txt t) (txt v) l b u V) 32)
  have B4 := Blk.new (((w.alloc (.cells #[.int .i64 n, .int .i64 H] 29)).alloc (.cells (idVals a) 24)).alloc (.cells #[.int .i64 L, .slice A k1 c1, .slice B k2 c2, .slice C k3 c3] 27)) 32 (wtC 3 (txt t) (txt v) l b u V)
  rw [World.size_alloc] at B2
  rw [World.size_alloc, World.size_alloc] at B3
  rw [World.size_alloc, World.size_alloc, World.size_alloc] at B4
  have hu := Tryz.underlying24
  have hza : (Tryz.prog.info? 24).map (·.size) = some (a.map u8v).length := by rw [List.length_map, ha]; exact sizeId
  have cR := fun W => kright_any n H W
  rw [hr] at cR
  have m0 : (l == L) = false := by simpa using hA
  have q0F := wtC_c0 3 (txt t) (txt v) l b u V
  have q3F := wtC_c3 3 (txt t) (txt v) l b u V
  have q4F := wtC_c4 3 (txt t) (txt v) l b u V
  have q5F := wtC_c5 3 (txt t) (txt v) l b u V
  have qkF := wtC_key 3 (txt t) (txt v) l b u V
  clear h1 h2 h3
  go_enter Tryz.func13, Tryz.ntmps13
  go_upto_region 1 with (fail)
  generalize ((((w.alloc (.cells #[.int .i64 n, .int .i64 H] 29)).alloc (.cells (idVals a) 24)).alloc (.cells #[.int .i64 L, .slice A k1 c1, .slice B k2 c2, .slice C k3 c3] 27)).alloc (.cells (wtC 3 (txt t) (txt v) l b u V) 32)) = w1 at *
  have p0 := B1.cell_ (i := 0) rfl
  have p1 := B1.cell_ (i := 1) rfl
  have s0 := B3.cell_ (i := 0) rfl
  have q0 := B4.cell_ q0F
  go_upto_region 9 with (first
    | (go_at_call 24; (with_reducible refine (cR _).mono ?_); rintro e1 w2 ⟨rfl, hb2⟩; replace h4 := h4.trans (hb2.mono h4.size); replace B1 := B1.below hb2; replace B2 := B2.below hb2; replace B3 := B3.below hb2; replace B4 := B4.below hb2; replace p0 := B1.cell_ (i := 0) rfl; replace p1 := B1.cell_ (i := 1) rfl; replace s0 := B3.cell_ (i := 0) rfl; replace q0 := B4.cell_ q0F)
)
  have j0 : ∀ p : LaterW w2, p.w.cell? ⟨w.heap.size, 0, none⟩ = some (.int .i64 n) := fun p => wi_cell p.h (B1.cell_ (i := 0) rfl)
  have jL : ∀ p : LaterW w2, p.w.cell? ⟨w.heap.size + 1 + 1, 0, none⟩ = some (.int .i64 L) := fun p => wi_cell p.h (B3.cell_ (i := 0) rfl)
  have j3 : ∀ p : LaterW w2, p.w.cell? ⟨w.heap.size + 1 + 1 + 1, 3, none⟩ = some (.int .i64 l) := fun p => wi_cell p.h (B4.cell_ q3F)
  have j4 : ∀ p : LaterW w2, p.w.cell? ⟨w.heap.size + 1 + 1 + 1, 4, none⟩ = some (.int .i64 b) := fun p => wi_cell p.h (B4.cell_ q4F)
  have j5 : ∀ p : LaterW w2, p.w.cell? ⟨w.heap.size + 1 + 1 + 1, 5, none⟩ = some (.int .i64 u) := fun p => wi_cell p.h (B4.cell_ q5F)
  have fk : w2.rangeAt (w.heap.size + 1 + 1 + 1) 6 (V.map u8v) := fun j v hj => B4.cell_ (qkF j v hj)
  have fq := range_later fk
  clear B1 B2 B3 B4 p0 p1 s0 q0 fk hX
  refine wp_region_later mixedW (by kernel_rfl) ?_
  repeat (first
    | ((with_reducible refine wpQuiet_step (fun K hK => ?_)); go_simp; first | ((with_reducible refine hK _ ?_); clear hK K) | (with_reducible apply Exists.intro; (with_reducible refine ⟨fun P => ?_, hK _ ?_⟩); (fail); clear hK K))
    | ((with_reducible refine BigFrame.wpQuiet_skip (by first | kernel_rfl | with_unfolding_all rfl) ?_); simp only [Act.put, List.setIfInBounds_toArray, List.set_cons_zero, List.set_cons_succ]))
  with_reducible refine wpQuiet_nil ?_
  intro _ hw9
  obtain ⟨P9, rfl⟩ := hw9
  go_wp2_with (fail)
  go_ret
  exact ⟨rfl, h4.trans (P9.h.mono h4.size)⟩

set_option maxRecDepth 100000 in
set_option maxHeartbeats 20000000 in
theorem wphg_3B (n H : Nat) (s : List UInt8) (hs : s.length ≤ 1000) (X : Option Addr) (x cx : Nat) (Xs : List WiD) (hxn : Xs.length = x) (bx : x ≤ 1000) (a : List UInt8) (ha : a.length = 32) (L : Int) (A B C : Option Addr) (k1 k2 k3 c1 c2 c3 : Nat) (t v : List UInt8) (l b u : Int) (V : List UInt8) (hV : V.length = 32) (hl : l = L) (hB : b < 0) (hr : rgtP n H = true) (w : World) (hX : WiRd w X Xs) :
    Calls Tryz.prog 13 #[.agg #[.int .i64 n, .int .i64 H], .string (txt s), .slice X x cx, .agg (idVals a), .agg #[.int .i64 L, .slice A k1 c1, .slice B k2 c2, .slice C k3 c3], .agg (wtC 3 (txt t) (txt v) l b u V)] w fun e w' => e = .returned (.bool false) ∧ Below w.heap.size w w' := by
  subst hl
  have h1 := (Below.refl w.heap.size w).alloc (Nat.le_refl _) (.cells #[.int .i64 n, .int .i64 H] 29)
  have h2 := h1.alloc h1.size (.cells (idVals a) 24)
  have h3 := h2.alloc h2.size (.cells #[.int .i64 l, .slice A k1 c1, .slice B k2 c2, .slice C k3 c3] 27)
  have h4 := h3.alloc h3.size (.cells (wtC 3 (txt t) (txt v) l b u V) 32)
  have B1 := (((Blk.new w 29 #[.int .i64 n, .int .i64 H]).alloc (.cells (idVals a) 24)).alloc (.cells #[.int .i64 l, .slice A k1 c1, .slice B k2 c2, .slice C k3 c3] 27)).alloc (.cells (wtC 3 (txt t) (txt v) l b u V) 32)
  have B2 := ((Blk.new (w.alloc (.cells #[.int .i64 n, .int .i64 H] 29)) 24 (idVals a)).alloc (.cells #[.int .i64 l, .slice A k1 c1, .slice B k2 c2, .slice C k3 c3] 27)).alloc (.cells (wtC 3 (txt t) (txt v) l b u V) 32)
  have B3 := (Blk.new ((w.alloc (.cells #[.int .i64 n, .int .i64 H] 29)).alloc (.cells (idVals a) 24)) 27 #[.int .i64 l, .slice A k1 c1, .slice B k2 c2, .slice C k3 c3]).alloc (.cells (wtC 3 (txt t) (txt v) l b u V) 32)
  have B4 := Blk.new (((w.alloc (.cells #[.int .i64 n, .int .i64 H] 29)).alloc (.cells (idVals a) 24)).alloc (.cells #[.int .i64 l, .slice A k1 c1, .slice B k2 c2, .slice C k3 c3] 27)) 32 (wtC 3 (txt t) (txt v) l b u V)
  rw [World.size_alloc] at B2
  rw [World.size_alloc, World.size_alloc] at B3
  rw [World.size_alloc, World.size_alloc, World.size_alloc] at B4
  have hu := Tryz.underlying24
  have hza : (Tryz.prog.info? 24).map (·.size) = some (a.map u8v).length := by rw [List.length_map, ha]; exact sizeId
  have cR := fun W => kright_any n H W
  rw [hr] at cR
  have HM := hid hB
  clear hB
  have q0F := wtC_c0 3 (txt t) (txt v) l b u V
  have q3F := wtC_c3 3 (txt t) (txt v) l b u V
  have q4F := wtC_c4 3 (txt t) (txt v) l b u V
  have q5F := wtC_c5 3 (txt t) (txt v) l b u V
  have qkF := wtC_key 3 (txt t) (txt v) l b u V
  clear h1 h2 h3
  go_enter Tryz.func13, Tryz.ntmps13
  go_upto_region 1 with (fail)
  generalize ((((w.alloc (.cells #[.int .i64 n, .int .i64 H] 29)).alloc (.cells (idVals a) 24)).alloc (.cells #[.int .i64 l, .slice A k1 c1, .slice B k2 c2, .slice C k3 c3] 27)).alloc (.cells (wtC 3 (txt t) (txt v) l b u V) 32)) = w1 at *
  have p0 := B1.cell_ (i := 0) rfl
  have p1 := B1.cell_ (i := 1) rfl
  have s0 := B3.cell_ (i := 0) rfl
  have q0 := B4.cell_ q0F
  go_upto_region 9 with (first
    | (go_at_call 24; (with_reducible refine (cR _).mono ?_); rintro e1 w2 ⟨rfl, hb2⟩; replace h4 := h4.trans (hb2.mono h4.size); replace B1 := B1.below hb2; replace B2 := B2.below hb2; replace B3 := B3.below hb2; replace B4 := B4.below hb2; replace p0 := B1.cell_ (i := 0) rfl; replace p1 := B1.cell_ (i := 1) rfl; replace s0 := B3.cell_ (i := 0) rfl; replace q0 := B4.cell_ q0F)
)
  have j0 : ∀ p : LaterW w2, p.w.cell? ⟨w.heap.size, 0, none⟩ = some (.int .i64 n) := fun p => wi_cell p.h (B1.cell_ (i := 0) rfl)
  have jL : ∀ p : LaterW w2, p.w.cell? ⟨w.heap.size + 1 + 1, 0, none⟩ = some (.int .i64 l) := fun p => wi_cell p.h (B3.cell_ (i := 0) rfl)
  have j3 : ∀ p : LaterW w2, p.w.cell? ⟨w.heap.size + 1 + 1 + 1, 3, none⟩ = some (.int .i64 l) := fun p => wi_cell p.h (B4.cell_ q3F)
  have j4 : ∀ p : LaterW w2, p.w.cell? ⟨w.heap.size + 1 + 1 + 1, 4, none⟩ = some (.int .i64 b) := fun p => wi_cell p.h (B4.cell_ q4F)
  have j5 : ∀ p : LaterW w2, p.w.cell? ⟨w.heap.size + 1 + 1 + 1, 5, none⟩ = some (.int .i64 u) := fun p => wi_cell p.h (B4.cell_ q5F)
  have fk : w2.rangeAt (w.heap.size + 1 + 1 + 1) 6 (V.map u8v) := fun j v hj => B4.cell_ (qkF j v hj)
  have fq := range_later fk
  clear B1 B2 B3 B4 p0 p1 s0 q0 fk hX
  have m1 : ¬ (0 : Int) ≤ b := by have := HM.out; omega
  refine wp_region_later mixedW (by kernel_rfl) ?_
  repeat (first
    | ((with_reducible refine wpQuiet_step (fun K hK => ?_)); go_simp; first | ((with_reducible refine hK _ ?_); clear hK K) | (with_reducible apply Exists.intro; (with_reducible refine ⟨fun P => ?_, hK _ ?_⟩); (fail); clear hK K))
    | ((with_reducible refine BigFrame.wpQuiet_skip (by first | kernel_rfl | with_unfolding_all rfl) ?_); simp only [Act.put, List.setIfInBounds_toArray, List.set_cons_zero, List.set_cons_succ]))
  with_reducible refine wpQuiet_nil ?_
  intro _ hw9
  obtain ⟨P9, rfl⟩ := hw9
  go_wp2_with (fail)
  go_ret
  exact ⟨rfl, h4.trans (P9.h.mono h4.size)⟩

set_option maxRecDepth 100000 in
set_option maxHeartbeats 20000000 in
theorem wphg_3C (n H : Nat) (s : List UInt8) (hs : s.length ≤ 1000) (X : Option Addr) (x cx : Nat) (Xs : List WiD) (hxn : Xs.length = x) (bx : x ≤ 1000) (a : List UInt8) (ha : a.length = 32) (L : Int) (A B C : Option Addr) (k1 k2 k3 c1 c2 c3 : Nat) (t v : List UInt8) (l b u : Int) (V : List UInt8) (hV : V.length = 32) (hl : l = L) (hb0 : 0 ≤ b) (hC : (n : Int) ≤ b) (hr : rgtP n H = true) (w : World) (hX : WiRd w X Xs) :
    Calls Tryz.prog 13 #[.agg #[.int .i64 n, .int .i64 H], .string (txt s), .slice X x cx, .agg (idVals a), .agg #[.int .i64 L, .slice A k1 c1, .slice B k2 c2, .slice C k3 c3], .agg (wtC 3 (txt t) (txt v) l b u V)] w fun e w' => e = .returned (.bool false) ∧ Below w.heap.size w w' := by
  subst hl
  have h1 := (Below.refl w.heap.size w).alloc (Nat.le_refl _) (.cells #[.int .i64 n, .int .i64 H] 29)
  have h2 := h1.alloc h1.size (.cells (idVals a) 24)
  have h3 := h2.alloc h2.size (.cells #[.int .i64 l, .slice A k1 c1, .slice B k2 c2, .slice C k3 c3] 27)
  have h4 := h3.alloc h3.size (.cells (wtC 3 (txt t) (txt v) l b u V) 32)
  have B1 := (((Blk.new w 29 #[.int .i64 n, .int .i64 H]).alloc (.cells (idVals a) 24)).alloc (.cells #[.int .i64 l, .slice A k1 c1, .slice B k2 c2, .slice C k3 c3] 27)).alloc (.cells (wtC 3 (txt t) (txt v) l b u V) 32)
  have B2 := ((Blk.new (w.alloc (.cells #[.int .i64 n, .int .i64 H] 29)) 24 (idVals a)).alloc (.cells #[.int .i64 l, .slice A k1 c1, .slice B k2 c2, .slice C k3 c3] 27)).alloc (.cells (wtC 3 (txt t) (txt v) l b u V) 32)
  have B3 := (Blk.new ((w.alloc (.cells #[.int .i64 n, .int .i64 H] 29)).alloc (.cells (idVals a) 24)) 27 #[.int .i64 l, .slice A k1 c1, .slice B k2 c2, .slice C k3 c3]).alloc (.cells (wtC 3 (txt t) (txt v) l b u V) 32)
  have B4 := Blk.new (((w.alloc (.cells #[.int .i64 n, .int .i64 H] 29)).alloc (.cells (idVals a) 24)).alloc (.cells #[.int .i64 l, .slice A k1 c1, .slice B k2 c2, .slice C k3 c3] 27)) 32 (wtC 3 (txt t) (txt v) l b u V)
  rw [World.size_alloc] at B2
  rw [World.size_alloc, World.size_alloc] at B3
  rw [World.size_alloc, World.size_alloc, World.size_alloc] at B4
  have hu := Tryz.underlying24
  have hza : (Tryz.prog.info? 24).map (·.size) = some (a.map u8v).length := by rw [List.length_map, ha]; exact sizeId
  have cR := fun W => kright_any n H W
  rw [hr] at cR
  have HM := hid hC
  clear hC
  have m1 : (0 : Int) ≤ b := hb0
  have m3 : b ≥ (0 : Int) := hb0
  have q0F := wtC_c0 3 (txt t) (txt v) l b u V
  have q3F := wtC_c3 3 (txt t) (txt v) l b u V
  have q4F := wtC_c4 3 (txt t) (txt v) l b u V
  have q5F := wtC_c5 3 (txt t) (txt v) l b u V
  have qkF := wtC_key 3 (txt t) (txt v) l b u V
  clear h1 h2 h3
  go_enter Tryz.func13, Tryz.ntmps13
  go_upto_region 1 with (fail)
  generalize ((((w.alloc (.cells #[.int .i64 n, .int .i64 H] 29)).alloc (.cells (idVals a) 24)).alloc (.cells #[.int .i64 l, .slice A k1 c1, .slice B k2 c2, .slice C k3 c3] 27)).alloc (.cells (wtC 3 (txt t) (txt v) l b u V) 32)) = w1 at *
  have p0 := B1.cell_ (i := 0) rfl
  have p1 := B1.cell_ (i := 1) rfl
  have s0 := B3.cell_ (i := 0) rfl
  have q0 := B4.cell_ q0F
  go_upto_region 9 with (first
    | (go_at_call 24; (with_reducible refine (cR _).mono ?_); rintro e1 w2 ⟨rfl, hb2⟩; replace h4 := h4.trans (hb2.mono h4.size); replace B1 := B1.below hb2; replace B2 := B2.below hb2; replace B3 := B3.below hb2; replace B4 := B4.below hb2; replace p0 := B1.cell_ (i := 0) rfl; replace p1 := B1.cell_ (i := 1) rfl; replace s0 := B3.cell_ (i := 0) rfl; replace q0 := B4.cell_ q0F)
)
  have j0 : ∀ p : LaterW w2, p.w.cell? ⟨w.heap.size, 0, none⟩ = some (.int .i64 n) := fun p => wi_cell p.h (B1.cell_ (i := 0) rfl)
  have jL : ∀ p : LaterW w2, p.w.cell? ⟨w.heap.size + 1 + 1, 0, none⟩ = some (.int .i64 l) := fun p => wi_cell p.h (B3.cell_ (i := 0) rfl)
  have j3 : ∀ p : LaterW w2, p.w.cell? ⟨w.heap.size + 1 + 1 + 1, 3, none⟩ = some (.int .i64 l) := fun p => wi_cell p.h (B4.cell_ q3F)
  have j4 : ∀ p : LaterW w2, p.w.cell? ⟨w.heap.size + 1 + 1 + 1, 4, none⟩ = some (.int .i64 b) := fun p => wi_cell p.h (B4.cell_ q4F)
  have j5 : ∀ p : LaterW w2, p.w.cell? ⟨w.heap.size + 1 + 1 + 1, 5, none⟩ = some (.int .i64 u) := fun p => wi_cell p.h (B4.cell_ q5F)
  have fk : w2.rangeAt (w.heap.size + 1 + 1 + 1) 6 (V.map u8v) := fun j v hj => B4.cell_ (qkF j v hj)
  have fq := range_later fk
  clear B1 B2 B3 B4 p0 p1 s0 q0 fk hX
  have m2 : ¬ b < (n : Int) := by have := HM.out; omega
  refine wp_region_later mixedW (by kernel_rfl) ?_
  repeat (first
    | ((with_reducible refine wpQuiet_step (fun K hK => ?_)); go_simp; first | ((with_reducible refine hK _ ?_); clear hK K) | (with_reducible apply Exists.intro; (with_reducible refine ⟨fun P => ?_, hK _ ?_⟩); (fail); clear hK K))
    | ((with_reducible refine BigFrame.wpQuiet_skip (by first | kernel_rfl | with_unfolding_all rfl) ?_); simp only [Act.put, List.setIfInBounds_toArray, List.set_cons_zero, List.set_cons_succ]))
  with_reducible refine wpQuiet_nil ?_
  intro _ hw9
  obtain ⟨P9, rfl⟩ := hw9
  go_wp2_with (fail)
  go_ret
  exact ⟨rfl, h4.trans (P9.h.mono h4.size)⟩

set_option maxRecDepth 100000 in
set_option maxHeartbeats 20000000 in
theorem wphg_3D (n H : Nat) (s : List UInt8) (hs : s.length ≤ 1000) (X : Option Addr) (x cx : Nat) (Xs : List WiD) (hxn : Xs.length = x) (bx : x ≤ 1000) (a : List UInt8) (ha : a.length = 32) (L : Int) (A B C : Option Addr) (k1 k2 k3 c1 c2 c3 : Nat) (t v : List UInt8) (l b u : Int) (V : List UInt8) (hV : V.length = 32) (hl : l = L) (hb0 : 0 ≤ b) (hbn : b < n) (h256 : n ≤ 256) (hD0 : ¬ u = 0) (hD1 : ¬ u = 1) (hr : rgtP n H = true) (w : World) (hX : WiRd w X Xs) :
    Calls Tryz.prog 13 #[.agg #[.int .i64 n, .int .i64 H], .string (txt s), .slice X x cx, .agg (idVals a), .agg #[.int .i64 L, .slice A k1 c1, .slice B k2 c2, .slice C k3 c3], .agg (wtC 3 (txt t) (txt v) l b u V)] w fun e w' => e = .returned (.bool false) ∧ Below w.heap.size w w' := by
  subst hl
  have h1 := (Below.refl w.heap.size w).alloc (Nat.le_refl _) (.cells #[.int .i64 n, .int .i64 H] 29)
  have h2 := h1.alloc h1.size (.cells (idVals a) 24)
  have h3 := h2.alloc h2.size (.cells #[.int .i64 l, .slice A k1 c1, .slice B k2 c2, .slice C k3 c3] 27)
  have h4 := h3.alloc h3.size (.cells (wtC 3 (txt t) (txt v) l b u V) 32)
  have B1 := (((Blk.new w 29 #[.int .i64 n, .int .i64 H]).alloc (.cells (idVals a) 24)).alloc (.cells #[.int .i64 l, .slice A k1 c1, .slice B k2 c2, .slice C k3 c3] 27)).alloc (.cells (wtC 3 (txt t) (txt v) l b u V) 32)
  have B2 := ((Blk.new (w.alloc (.cells #[.int .i64 n, .int .i64 H] 29)) 24 (idVals a)).alloc (.cells #[.int .i64 l, .slice A k1 c1, .slice B k2 c2, .slice C k3 c3] 27)).alloc (.cells (wtC 3 (txt t) (txt v) l b u V) 32)
  have B3 := (Blk.new ((w.alloc (.cells #[.int .i64 n, .int .i64 H] 29)).alloc (.cells (idVals a) 24)) 27 #[.int .i64 l, .slice A k1 c1, .slice B k2 c2, .slice C k3 c3]).alloc (.cells (wtC 3 (txt t) (txt v) l b u V) 32)
  have B4 := Blk.new (((w.alloc (.cells #[.int .i64 n, .int .i64 H] 29)).alloc (.cells (idVals a) 24)).alloc (.cells #[.int .i64 l, .slice A k1 c1, .slice B k2 c2, .slice C k3 c3] 27)) 32 (wtC 3 (txt t) (txt v) l b u V)
  rw [World.size_alloc] at B2
  rw [World.size_alloc, World.size_alloc] at B3
  rw [World.size_alloc, World.size_alloc, World.size_alloc] at B4
  have hu := Tryz.underlying24
  have hza : (Tryz.prog.info? 24).map (·.size) = some (a.map u8v).length := by rw [List.length_map, ha]; exact sizeId
  have cR := fun W => kright_any n H W
  rw [hr] at cR
  have m1 : (0 : Int) ≤ b := hb0
  have m3 : b ≥ (0 : Int) := hb0
  have m2 : b < (n : Int) := hbn
  have m5 : (u == 0) = false := by simpa using hD0
  have m6 : (u == 1) = false := by simpa using hD1
  have q0F := wtC_c0 3 (txt t) (txt v) l b u V
  have q3F := wtC_c3 3 (txt t) (txt v) l b u V
  have q4F := wtC_c4 3 (txt t) (txt v) l b u V
  have q5F := wtC_c5 3 (txt t) (txt v) l b u V
  have qkF := wtC_key 3 (txt t) (txt v) l b u V
  clear h1 h2 h3
  go_enter Tryz.func13, Tryz.ntmps13
  go_upto_region 1 with (fail)
  generalize ((((w.alloc (.cells #[.int .i64 n, .int .i64 H] 29)).alloc (.cells (idVals a) 24)).alloc (.cells #[.int .i64 l, .slice A k1 c1, .slice B k2 c2, .slice C k3 c3] 27)).alloc (.cells (wtC 3 (txt t) (txt v) l b u V) 32)) = w1 at *
  have p0 := B1.cell_ (i := 0) rfl
  have p1 := B1.cell_ (i := 1) rfl
  have s0 := B3.cell_ (i := 0) rfl
  have q0 := B4.cell_ q0F
  go_upto_region 9 with (first
    | (go_at_call 24; (with_reducible refine (cR _).mono ?_); rintro e1 w2 ⟨rfl, hb2⟩; replace h4 := h4.trans (hb2.mono h4.size); replace B1 := B1.below hb2; replace B2 := B2.below hb2; replace B3 := B3.below hb2; replace B4 := B4.below hb2; replace p0 := B1.cell_ (i := 0) rfl; replace p1 := B1.cell_ (i := 1) rfl; replace s0 := B3.cell_ (i := 0) rfl; replace q0 := B4.cell_ q0F)
)
  have j0 : ∀ p : LaterW w2, p.w.cell? ⟨w.heap.size, 0, none⟩ = some (.int .i64 n) := fun p => wi_cell p.h (B1.cell_ (i := 0) rfl)
  have jL : ∀ p : LaterW w2, p.w.cell? ⟨w.heap.size + 1 + 1, 0, none⟩ = some (.int .i64 l) := fun p => wi_cell p.h (B3.cell_ (i := 0) rfl)
  have j3 : ∀ p : LaterW w2, p.w.cell? ⟨w.heap.size + 1 + 1 + 1, 3, none⟩ = some (.int .i64 l) := fun p => wi_cell p.h (B4.cell_ q3F)
  have j4 : ∀ p : LaterW w2, p.w.cell? ⟨w.heap.size + 1 + 1 + 1, 4, none⟩ = some (.int .i64 b) := fun p => wi_cell p.h (B4.cell_ q4F)
  have j5 : ∀ p : LaterW w2, p.w.cell? ⟨w.heap.size + 1 + 1 + 1, 5, none⟩ = some (.int .i64 u) := fun p => wi_cell p.h (B4.cell_ q5F)
  have fk : w2.rangeAt (w.heap.size + 1 + 1 + 1) 6 (V.map u8v) := fun j v hj => B4.cell_ (qkF j v hj)
  have fq := range_later fk
  clear B1 B2 B3 B4 p0 p1 s0 q0 fk hX
  refine wp_region_later mixedW (by kernel_rfl) ?_
  repeat (first
    | ((with_reducible refine wpQuiet_step (fun K hK => ?_)); go_simp; first | ((with_reducible refine hK _ ?_); clear hK K) | (with_reducible apply Exists.intro; (with_reducible refine ⟨fun P => ?_, hK _ ?_⟩); (fail); clear hK K))
    | ((with_reducible refine BigFrame.wpQuiet_skip (by first | kernel_rfl | with_unfolding_all rfl) ?_); simp only [Act.put, List.setIfInBounds_toArray, List.set_cons_zero, List.set_cons_succ]))
  with_reducible refine wpQuiet_nil ?_
  intro _ hw9
  obtain ⟨P9, rfl⟩ := hw9
  go_wp2_with (fail)
  go_ret
  exact ⟨rfl, h4.trans (P9.h.mono h4.size)⟩

set_option maxRecDepth 100000 in
set_option maxHeartbeats 20000000 in
theorem wphg_3F (n H : Nat) (s : List UInt8) (hs : s.length ≤ 1000) (X : Option Addr) (x cx : Nat) (Xs : List WiD) (hxn : Xs.length = x) (bx : x ≤ 1000) (a : List UInt8) (ha : a.length = 32) (L : Int) (A B C : Option Addr) (k1 k2 k3 c1 c2 c3 : Nat) (t v : List UInt8) (l b u : Int) (V : List UInt8) (hV : V.length = 32) (hl : l = L) (hb0 : 0 ≤ b) (hbn : b < n) (h256 : n ≤ 256) (hu0 : u = 0 ∨ u = 1) (hL : l ≤ 9223372036854775807) (hf : ¬ pubB V = pubB (secB s l b u)) (hr : rgtP n H = true) (w : World) (hX : WiRd w X Xs) :
    Calls Tryz.prog 13 #[.agg #[.int .i64 n, .int .i64 H], .string (txt s), .slice X x cx, .agg (idVals a), .agg #[.int .i64 L, .slice A k1 c1, .slice B k2 c2, .slice C k3 c3], .agg (wtC 3 (txt t) (txt v) l b u V)] w fun e w' => e = .returned (.bool false) ∧ Below w.heap.size w w' := by
  subst hl
  have h1 := (Below.refl w.heap.size w).alloc (Nat.le_refl _) (.cells #[.int .i64 n, .int .i64 H] 29)
  have h2 := h1.alloc h1.size (.cells (idVals a) 24)
  have h3 := h2.alloc h2.size (.cells #[.int .i64 l, .slice A k1 c1, .slice B k2 c2, .slice C k3 c3] 27)
  have h4 := h3.alloc h3.size (.cells (wtC 3 (txt t) (txt v) l b u V) 32)
  have B1 := (((Blk.new w 29 #[.int .i64 n, .int .i64 H]).alloc (.cells (idVals a) 24)).alloc (.cells #[.int .i64 l, .slice A k1 c1, .slice B k2 c2, .slice C k3 c3] 27)).alloc (.cells (wtC 3 (txt t) (txt v) l b u V) 32)
  have B2 := ((Blk.new (w.alloc (.cells #[.int .i64 n, .int .i64 H] 29)) 24 (idVals a)).alloc (.cells #[.int .i64 l, .slice A k1 c1, .slice B k2 c2, .slice C k3 c3] 27)).alloc (.cells (wtC 3 (txt t) (txt v) l b u V) 32)
  have B3 := (Blk.new ((w.alloc (.cells #[.int .i64 n, .int .i64 H] 29)).alloc (.cells (idVals a) 24)) 27 #[.int .i64 l, .slice A k1 c1, .slice B k2 c2, .slice C k3 c3]).alloc (.cells (wtC 3 (txt t) (txt v) l b u V) 32)
  have B4 := Blk.new (((w.alloc (.cells #[.int .i64 n, .int .i64 H] 29)).alloc (.cells (idVals a) 24)).alloc (.cells #[.int .i64 l, .slice A k1 c1, .slice B k2 c2, .slice C k3 c3] 27)) 32 (wtC 3 (txt t) (txt v) l b u V)
  rw [World.size_alloc] at B2
  rw [World.size_alloc, World.size_alloc] at B3
  rw [World.size_alloc, World.size_alloc, World.size_alloc] at B4
  have hu := Tryz.underlying24
  have hza : (Tryz.prog.info? 24).map (·.size) = some (a.map u8v).length := by rw [List.length_map, ha]; exact sizeId
  have cR := fun W => kright_any n H W
  rw [hr] at cR
  have hzV : (Tryz.prog.info? 24).map (·.size) = some (V.map u8v).length := by rw [List.length_map, hV]; exact sizeId
  obtain ⟨K, hK0⟩ : ∃ K, secB s l b u = K := ⟨_, rfl⟩
  have hKl : K.length = 32 := by rw [← hK0]; exact secB_length _ _ _ _
  rw [hK0] at hf
  have hPV : (pubB V).length = 32 := pubB_length V
  have hPK : (pubB K).length = 32 := pubB_length K
  have cV : ∀ W : World, Calls Tryz.prog 44 #[.agg (List.map u8v V).toArray] W fun e w' => e = .returned (.agg (List.map u8v (pubB V)).toArray) ∧ Below W.heap.size W w' := fun W => public_any V hV W
  have cK : ∀ W : World, Calls Tryz.prog 44 #[.agg (List.map u8v K).toArray] W fun e w' => e = .returned (.agg (List.map u8v (pubB K)).toArray) ∧ Below W.heap.size W w' := fun W => public_any K hKl W
  have heq : ∀ W, (Op.equalIn 10000 24 (.agg (List.map u8v (pubB V)).toArray) (.agg (List.map u8v (pubB K)).toArray)).run Tryz.prog W = .ok false W := fun W => (ids_eq W _ _ hPV hPK).trans (by rw [decide_eq_false hf])
  have cS : ∀ W : World, Calls Tryz.prog 45 #[.string (txt s), .int .i64 l, .int .i64 b, .int .i64 u] W fun e w' => e = .returned (.agg (List.map u8v K).toArray) ∧ Below W.heap.size W w' := fun W => by
    have h := secret_any s hs l b u hL W
    rw [hK0] at h
    exact h
  clear hf
  generalize pubB V = PV at *
  generalize pubB K = PK at *
  have m1 : (0 : Int) ≤ b := hb0
  have m3 : b ≥ (0 : Int) := hb0
  have m2 : b < (n : Int) := hbn
  have mu : u = 0 ∨ u = 1 := hu0
  clear hu0
  have q0F := wtC_c0 3 (txt t) (txt v) l b u V
  have q3F := wtC_c3 3 (txt t) (txt v) l b u V
  have q4F := wtC_c4 3 (txt t) (txt v) l b u V
  have q5F := wtC_c5 3 (txt t) (txt v) l b u V
  have qkF := wtC_key 3 (txt t) (txt v) l b u V
  clear h1 h2 h3
  go_enter Tryz.func13, Tryz.ntmps13
  go_upto_region 1 with (fail)
  generalize ((((w.alloc (.cells #[.int .i64 n, .int .i64 H] 29)).alloc (.cells (idVals a) 24)).alloc (.cells #[.int .i64 l, .slice A k1 c1, .slice B k2 c2, .slice C k3 c3] 27)).alloc (.cells (wtC 3 (txt t) (txt v) l b u V) 32)) = w1 at *
  have p0 := B1.cell_ (i := 0) rfl
  have p1 := B1.cell_ (i := 1) rfl
  have s0 := B3.cell_ (i := 0) rfl
  have q0 := B4.cell_ q0F
  go_upto_region 9 with (first
    | (go_at_call 24; (with_reducible refine (cR _).mono ?_); rintro e1 w2 ⟨rfl, hb2⟩; replace h4 := h4.trans (hb2.mono h4.size); replace B1 := B1.below hb2; replace B2 := B2.below hb2; replace B3 := B3.below hb2; replace B4 := B4.below hb2; replace p0 := B1.cell_ (i := 0) rfl; replace p1 := B1.cell_ (i := 1) rfl; replace s0 := B3.cell_ (i := 0) rfl; replace q0 := B4.cell_ q0F)
)
  have j0 : ∀ p : LaterW w2, p.w.cell? ⟨w.heap.size, 0, none⟩ = some (.int .i64 n) := fun p => wi_cell p.h (B1.cell_ (i := 0) rfl)
  have jL : ∀ p : LaterW w2, p.w.cell? ⟨w.heap.size + 1 + 1, 0, none⟩ = some (.int .i64 l) := fun p => wi_cell p.h (B3.cell_ (i := 0) rfl)
  have j3 : ∀ p : LaterW w2, p.w.cell? ⟨w.heap.size + 1 + 1 + 1, 3, none⟩ = some (.int .i64 l) := fun p => wi_cell p.h (B4.cell_ q3F)
  have j4 : ∀ p : LaterW w2, p.w.cell? ⟨w.heap.size + 1 + 1 + 1, 4, none⟩ = some (.int .i64 b) := fun p => wi_cell p.h (B4.cell_ q4F)
  have j5 : ∀ p : LaterW w2, p.w.cell? ⟨w.heap.size + 1 + 1 + 1, 5, none⟩ = some (.int .i64 u) := fun p => wi_cell p.h (B4.cell_ q5F)
  have fk : w2.rangeAt (w.heap.size + 1 + 1 + 1) 6 (V.map u8v) := fun j v hj => B4.cell_ (qkF j v hj)
  have fq := range_later fk
  clear B1 B2 B3 B4 p0 p1 s0 q0 fk hX
  rcases mu with rfl | rfl
  ·
    refine wp_region_later mixedW (by kernel_rfl) ?_
    repeat (first
      | ((with_reducible refine wpQuiet_load_if (by with_unfolding_all rfl) 24 _ rfl _ _ rfl (V.map u8v) _ fq hu (by with_unfolding_all rfl) hzV ?_); simp only [Act.put, List.setIfInBounds_toArray, List.set_cons_zero, List.set_cons_succ])
      | ((with_reducible refine wpQuiet_step (fun K hK => ?_)); go_simp; first | ((with_reducible refine hK _ ?_); clear hK K) | (with_reducible apply Exists.intro; (with_reducible refine ⟨fun P => ?_, hK _ ?_⟩); (first | (go_at_call 44; exact later_of (cV P.w)) | (go_at_call 44; exact later_of (cK P.w)) | (go_at_call 45; exact later_of (cS P.w))); clear hK K))
      | ((with_reducible refine BigFrame.wpQuiet_skip (by first | kernel_rfl | with_unfolding_all rfl) ?_); simp only [Act.put, List.setIfInBounds_toArray, List.set_cons_zero, List.set_cons_succ]))
    with_reducible refine wpQuiet_nil ?_
    intro _ hw9
    obtain ⟨P9, rfl⟩ := hw9
    go_wp2_with (fail)
    go_ret
    exact ⟨rfl, h4.trans (P9.h.mono h4.size)⟩
  ·
    refine wp_region_later mixedW (by kernel_rfl) ?_
    repeat (first
      | ((with_reducible refine wpQuiet_load_if (by with_unfolding_all rfl) 24 _ rfl _ _ rfl (V.map u8v) _ fq hu (by with_unfolding_all rfl) hzV ?_); simp only [Act.put, List.setIfInBounds_toArray, List.set_cons_zero, List.set_cons_succ])
      | ((with_reducible refine wpQuiet_step (fun K hK => ?_)); go_simp; first | ((with_reducible refine hK _ ?_); clear hK K) | (with_reducible apply Exists.intro; (with_reducible refine ⟨fun P => ?_, hK _ ?_⟩); (first | (go_at_call 44; exact later_of (cV P.w)) | (go_at_call 44; exact later_of (cK P.w)) | (go_at_call 45; exact later_of (cS P.w))); clear hK K))
      | ((with_reducible refine BigFrame.wpQuiet_skip (by first | kernel_rfl | with_unfolding_all rfl) ?_); simp only [Act.put, List.setIfInBounds_toArray, List.set_cons_zero, List.set_cons_succ]))
    with_reducible refine wpQuiet_nil ?_
    intro _ hw9
    obtain ⟨P9, rfl⟩ := hw9
    go_wp2_with (fail)
    go_ret
    exact ⟨rfl, h4.trans (P9.h.mono h4.size)⟩

set_option maxRecDepth 100000 in
set_option maxHeartbeats 20000000 in
theorem wphg_3Z (n H : Nat) (s : List UInt8) (hs : s.length ≤ 1000) (X : Option Addr) (x cx : Nat) (Xs : List WiD) (hxn : Xs.length = x) (bx : x ≤ 1000) (a : List UInt8) (ha : a.length = 32) (L : Int) (A B C : Option Addr) (k1 k2 k3 c1 c2 c3 : Nat) (t v : List UInt8) (l b u : Int) (V : List UInt8) (hV : V.length = 32) (hl : l = L) (hb0 : 0 ≤ b) (hbn : b < n) (h256 : n ≤ 256) (hu0 : u = 0 ∨ u = 1) (hL : l ≤ 9223372036854775807) (hf : pubB V = pubB (secB s l b u)) (r : Bool) (hsw : shwB Xs l b.toNat u = r) (hr : rgtP n H = true) (w : World) (hX : WiRd w X Xs) :
    Calls Tryz.prog 13 #[.agg #[.int .i64 n, .int .i64 H], .string (txt s), .slice X x cx, .agg (idVals a), .agg #[.int .i64 L, .slice A k1 c1, .slice B k2 c2, .slice C k3 c3], .agg (wtC 3 (txt t) (txt v) l b u V)] w fun e w' => e = .returned (.bool (!r)) ∧ Below w.heap.size w w' := by
  subst hl
  have h1 := (Below.refl w.heap.size w).alloc (Nat.le_refl _) (.cells #[.int .i64 n, .int .i64 H] 29)
  have h2 := h1.alloc h1.size (.cells (idVals a) 24)
  have h3 := h2.alloc h2.size (.cells #[.int .i64 l, .slice A k1 c1, .slice B k2 c2, .slice C k3 c3] 27)
  have h4 := h3.alloc h3.size (.cells (wtC 3 (txt t) (txt v) l b u V) 32)
  have B1 := (((Blk.new w 29 #[.int .i64 n, .int .i64 H]).alloc (.cells (idVals a) 24)).alloc (.cells #[.int .i64 l, .slice A k1 c1, .slice B k2 c2, .slice C k3 c3] 27)).alloc (.cells (wtC 3 (txt t) (txt v) l b u V) 32)
  have B2 := ((Blk.new (w.alloc (.cells #[.int .i64 n, .int .i64 H] 29)) 24 (idVals a)).alloc (.cells #[.int .i64 l, .slice A k1 c1, .slice B k2 c2, .slice C k3 c3] 27)).alloc (.cells (wtC 3 (txt t) (txt v) l b u V) 32)
  have B3 := (Blk.new ((w.alloc (.cells #[.int .i64 n, .int .i64 H] 29)).alloc (.cells (idVals a) 24)) 27 #[.int .i64 l, .slice A k1 c1, .slice B k2 c2, .slice C k3 c3]).alloc (.cells (wtC 3 (txt t) (txt v) l b u V) 32)
  have B4 := Blk.new (((w.alloc (.cells #[.int .i64 n, .int .i64 H] 29)).alloc (.cells (idVals a) 24)).alloc (.cells #[.int .i64 l, .slice A k1 c1, .slice B k2 c2, .slice C k3 c3] 27)) 32 (wtC 3 (txt t) (txt v) l b u V)
  rw [World.size_alloc] at B2
  rw [World.size_alloc, World.size_alloc] at B3
  rw [World.size_alloc, World.size_alloc, World.size_alloc] at B4
  have hu := Tryz.underlying24
  have hza : (Tryz.prog.info? 24).map (·.size) = some (a.map u8v).length := by rw [List.length_map, ha]; exact sizeId
  have cR := fun W => kright_any n H W
  rw [hr] at cR
  have hzV : (Tryz.prog.info? 24).map (·.size) = some (V.map u8v).length := by rw [List.length_map, hV]; exact sizeId
  obtain ⟨K, hK0⟩ : ∃ K, secB s l b u = K := ⟨_, rfl⟩
  have hKl : K.length = 32 := by rw [← hK0]; exact secB_length _ _ _ _
  rw [hK0] at hf
  have hPV : (pubB V).length = 32 := pubB_length V
  have hPK : (pubB K).length = 32 := pubB_length K
  have cV : ∀ W : World, Calls Tryz.prog 44 #[.agg (List.map u8v V).toArray] W fun e w' => e = .returned (.agg (List.map u8v (pubB V)).toArray) ∧ Below W.heap.size W w' := fun W => public_any V hV W
  have cK : ∀ W : World, Calls Tryz.prog 44 #[.agg (List.map u8v K).toArray] W fun e w' => e = .returned (.agg (List.map u8v (pubB K)).toArray) ∧ Below W.heap.size W w' := fun W => public_any K hKl W
  have heq : ∀ W, (Op.equalIn 10000 24 (.agg (List.map u8v (pubB V)).toArray) (.agg (List.map u8v (pubB K)).toArray)).run Tryz.prog W = .ok true W := fun W => (ids_eq W _ _ hPV hPK).trans (by rw [decide_eq_true hf])
  have cS : ∀ W : World, Calls Tryz.prog 45 #[.string (txt s), .int .i64 l, .int .i64 b, .int .i64 u] W fun e w' => e = .returned (.agg (List.map u8v K).toArray) ∧ Below W.heap.size W w' := fun W => by
    have h := secret_any s hs l b u hL W
    rw [hK0] at h
    exact h
  clear hf
  generalize pubB V = PV at *
  generalize pubB K = PK at *
  have cH : ∀ W, Below w.heap.size w W → Calls Tryz.prog 34 #[.slice X x cx, .int .i64 l, .int .i64 b, .int .i64 u] W fun e w' => e = .returned (.bool r) ∧ Below W.heap.size W w' := fun W hW => by
    obtain ⟨m, rfl⟩ : ∃ m : Nat, b = m := ⟨b.toNat, by omega⟩
    rw [Int.toNat_natCast] at hsw
    have h := wshowed_any l m (by omega) u X x cx Xs hxn bx W (hX.below hW)
    unfold shwB at hsw
    rw [hsw] at h
    exact h
  clear hsw
  have m1 : (0 : Int) ≤ b := hb0
  have m3 : b ≥ (0 : Int) := hb0
  have m2 : b < (n : Int) := hbn
  have mu : u = 0 ∨ u = 1 := hu0
  clear hu0
  have q0F := wtC_c0 3 (txt t) (txt v) l b u V
  have q3F := wtC_c3 3 (txt t) (txt v) l b u V
  have q4F := wtC_c4 3 (txt t) (txt v) l b u V
  have q5F := wtC_c5 3 (txt t) (txt v) l b u V
  have qkF := wtC_key 3 (txt t) (txt v) l b u V
  clear h1 h2 h3
  go_enter Tryz.func13, Tryz.ntmps13
  go_upto_region 1 with (fail)
  generalize ((((w.alloc (.cells #[.int .i64 n, .int .i64 H] 29)).alloc (.cells (idVals a) 24)).alloc (.cells #[.int .i64 l, .slice A k1 c1, .slice B k2 c2, .slice C k3 c3] 27)).alloc (.cells (wtC 3 (txt t) (txt v) l b u V) 32)) = w1 at *
  have p0 := B1.cell_ (i := 0) rfl
  have p1 := B1.cell_ (i := 1) rfl
  have s0 := B3.cell_ (i := 0) rfl
  have q0 := B4.cell_ q0F
  go_upto_region 9 with (first
    | (go_at_call 24; (with_reducible refine (cR _).mono ?_); rintro e1 w2 ⟨rfl, hb2⟩; replace h4 := h4.trans (hb2.mono h4.size); replace B1 := B1.below hb2; replace B2 := B2.below hb2; replace B3 := B3.below hb2; replace B4 := B4.below hb2; replace p0 := B1.cell_ (i := 0) rfl; replace p1 := B1.cell_ (i := 1) rfl; replace s0 := B3.cell_ (i := 0) rfl; replace q0 := B4.cell_ q0F)
)
  have j0 : ∀ p : LaterW w2, p.w.cell? ⟨w.heap.size, 0, none⟩ = some (.int .i64 n) := fun p => wi_cell p.h (B1.cell_ (i := 0) rfl)
  have jL : ∀ p : LaterW w2, p.w.cell? ⟨w.heap.size + 1 + 1, 0, none⟩ = some (.int .i64 l) := fun p => wi_cell p.h (B3.cell_ (i := 0) rfl)
  have j3 : ∀ p : LaterW w2, p.w.cell? ⟨w.heap.size + 1 + 1 + 1, 3, none⟩ = some (.int .i64 l) := fun p => wi_cell p.h (B4.cell_ q3F)
  have j4 : ∀ p : LaterW w2, p.w.cell? ⟨w.heap.size + 1 + 1 + 1, 4, none⟩ = some (.int .i64 b) := fun p => wi_cell p.h (B4.cell_ q4F)
  have j5 : ∀ p : LaterW w2, p.w.cell? ⟨w.heap.size + 1 + 1 + 1, 5, none⟩ = some (.int .i64 u) := fun p => wi_cell p.h (B4.cell_ q5F)
  have fk : w2.rangeAt (w.heap.size + 1 + 1 + 1) 6 (V.map u8v) := fun j v hj => B4.cell_ (qkF j v hj)
  have fq := range_later fk
  have cH2 := fun (p : LaterW w2) => cH p.w (h4.trans (p.h.mono h4.size))
  clear cH
  clear B1 B2 B3 B4 p0 p1 s0 q0 fk hX
  rcases mu with rfl | rfl
  ·
    refine wp_region_later mixedW (by kernel_rfl) ?_
    repeat (first
      | ((with_reducible refine wpQuiet_load_if (by with_unfolding_all rfl) 24 _ rfl _ _ rfl (V.map u8v) _ fq hu (by with_unfolding_all rfl) hzV ?_); simp only [Act.put, List.setIfInBounds_toArray, List.set_cons_zero, List.set_cons_succ])
      | ((with_reducible refine wpQuiet_step (fun K hK => ?_)); go_simp; first | ((with_reducible refine hK _ ?_); clear hK K) | (with_reducible apply Exists.intro; (with_reducible refine ⟨fun P => ?_, hK _ ?_⟩); (first | (go_at_call 44; exact later_of (cV P.w)) | (go_at_call 44; exact later_of (cK P.w)) | (go_at_call 45; exact later_of (cS P.w)) | (go_at_call 34; exact later_of (cH2 P))); clear hK K))
      | ((with_reducible refine BigFrame.wpQuiet_skip (by first | kernel_rfl | with_unfolding_all rfl) ?_); simp only [Act.put, List.setIfInBounds_toArray, List.set_cons_zero, List.set_cons_succ]))
    with_reducible refine wpQuiet_nil ?_
    intro _ hw9
    obtain ⟨P9, rfl⟩ := hw9
    go_wp2_with (fail)
    go_ret
    exact ⟨rfl, h4.trans (P9.h.mono h4.size)⟩
  ·
    refine wp_region_later mixedW (by kernel_rfl) ?_
    repeat (first
      | ((with_reducible refine wpQuiet_load_if (by with_unfolding_all rfl) 24 _ rfl _ _ rfl (V.map u8v) _ fq hu (by with_unfolding_all rfl) hzV ?_); simp only [Act.put, List.setIfInBounds_toArray, List.set_cons_zero, List.set_cons_succ])
      | ((with_reducible refine wpQuiet_step (fun K hK => ?_)); go_simp; first | ((with_reducible refine hK _ ?_); clear hK K) | (with_reducible apply Exists.intro; (with_reducible refine ⟨fun P => ?_, hK _ ?_⟩); (first | (go_at_call 44; exact later_of (cV P.w)) | (go_at_call 44; exact later_of (cK P.w)) | (go_at_call 45; exact later_of (cS P.w)) | (go_at_call 34; exact later_of (cH2 P))); clear hK K))
      | ((with_reducible refine BigFrame.wpQuiet_skip (by first | kernel_rfl | with_unfolding_all rfl) ?_); simp only [Act.put, List.setIfInBounds_toArray, List.set_cons_zero, List.set_cons_succ]))
    with_reducible refine wpQuiet_nil ?_
    intro _ hw9
    obtain ⟨P9, rfl⟩ := hw9
    go_wp2_with (fail)
    go_ret
    exact ⟨rfl, h4.trans (P9.h.mono h4.size)⟩

set_option maxRecDepth 100000 in
set_option maxHeartbeats 20000000 in
theorem wphg_0 (n H : Nat) (s : List UInt8) (hs : s.length ≤ 1000) (X : Option Addr) (x cx : Nat) (Xs : List WiD) (hxn : Xs.length = x) (bx : x ≤ 1000) (a : List UInt8) (ha : a.length = 32) (L : Int) (A B C : Option Addr) (k1 k2 k3 c1 c2 c3 : Nat) (t v : List UInt8) (l b u : Int) (V : List UInt8) (hV : V.length = 32) (k : Int) (hk1 : ¬ k = 1) (hk2 : ¬ k = 2) (hk3 : ¬ k = 3) (hr : rgtP n H = true) (w : World) (hX : WiRd w X Xs) :
    Calls Tryz.prog 13 #[.agg #[.int .i64 n, .int .i64 H], .string (txt s), .slice X x cx, .agg (idVals a), .agg #[.int .i64 L, .slice A k1 c1, .slice B k2 c2, .slice C k3 c3], .agg (wtC k (txt t) (txt v) l b u V)] w fun e w' => e = .returned (.bool false) ∧ Below w.heap.size w w' := by
  have h1 := (Below.refl w.heap.size w).alloc (Nat.le_refl _) (.cells #[.int .i64 n, .int .i64 H] 29)
  have h2 := h1.alloc h1.size (.cells (idVals a) 24)
  have h3 := h2.alloc h2.size (.cells #[.int .i64 L, .slice A k1 c1, .slice B k2 c2, .slice C k3 c3] 27)
  have h4 := h3.alloc h3.size (.cells (wtC k (txt t) (txt v) l b u V) 32)
  have B1 := (((Blk.new w 29 #[.int .i64 n, .int .i64 H]).alloc (.cells (idVals a) 24)).alloc (.cells #[.int .i64 L, .slice A k1 c1, .slice B k2 c2, .slice C k3 c3] 27)).alloc (.cells (wtC k (txt t) (txt v) l b u V) 32)
  have B2 := ((Blk.new (w.alloc (.cells #[.int .i64 n, .int .i64 H] 29)) 24 (idVals a)).alloc (.cells #[.int .i64 L, .slice A k1 c1, .slice B k2 c2, .slice C k3 c3] 27)).alloc (.cells (wtC k (txt t) (txt v) l b u V) 32)
  have B3 := (Blk.new ((w.alloc (.cells #[.int .i64 n, .int .i64 H] 29)).alloc (.cells (idVals a) 24)) 27 #[.int .i64 L, .slice A k1 c1, .slice B k2 c2, .slice C k3 c3]).alloc (.cells (wtC k (txt t) (txt v) l b u V) 32)
  have B4 := Blk.new (((w.alloc (.cells #[.int .i64 n, .int .i64 H] 29)).alloc (.cells (idVals a) 24)).alloc (.cells #[.int .i64 L, .slice A k1 c1, .slice B k2 c2, .slice C k3 c3] 27)) 32 (wtC k (txt t) (txt v) l b u V)
  rw [World.size_alloc] at B2
  rw [World.size_alloc, World.size_alloc] at B3
  rw [World.size_alloc, World.size_alloc, World.size_alloc] at B4
  have hu := Tryz.underlying24
  have hza : (Tryz.prog.info? 24).map (·.size) = some (a.map u8v).length := by rw [List.length_map, ha]; exact sizeId
  have cR := fun W => kright_any n H W
  rw [hr] at cR
  have n1 : (k == 1) = false := by simpa using hk1
  have n2 : (k == 2) = false := by simpa using hk2
  have n3 : (k == 3) = false := by simpa using hk3
  have q0F := wtC_c0 k (txt t) (txt v) l b u V
  clear h1 h2 h3
  go_enter Tryz.func13, Tryz.ntmps13
  go_upto_region 1 with (fail)
  generalize ((((w.alloc (.cells #[.int .i64 n, .int .i64 H] 29)).alloc (.cells (idVals a) 24)).alloc (.cells #[.int .i64 L, .slice A k1 c1, .slice B k2 c2, .slice C k3 c3] 27)).alloc (.cells (wtC k (txt t) (txt v) l b u V) 32)) = w1 at *
  have p0 := B1.cell_ (i := 0) rfl
  have p1 := B1.cell_ (i := 1) rfl
  have s0 := B3.cell_ (i := 0) rfl
  have q0 := B4.cell_ q0F
  go_wp2_with (first
    | (go_at_call 24; (with_reducible refine (cR _).mono ?_); rintro e1 w2 ⟨rfl, hb2⟩; replace h4 := h4.trans (hb2.mono h4.size); replace B1 := B1.below hb2; replace B2 := B2.below hb2; replace B3 := B3.below hb2; replace B4 := B4.below hb2; replace p0 := B1.cell_ (i := 0) rfl; replace p1 := B1.cell_ (i := 1) rfl; replace s0 := B3.cell_ (i := 0) rfl; replace q0 := B4.cell_ q0F)
)
  go_ret
  exact ⟨rfl, h4⟩

set_option maxRecDepth 100000 in
set_option maxHeartbeats 20000000 in
theorem wphg_no (n H : Nat) (s : List UInt8) (hs : s.length ≤ 1000) (X : Option Addr) (x cx : Nat) (Xs : List WiD) (hxn : Xs.length = x) (bx : x ≤ 1000) (a : List UInt8) (ha : a.length = 32) (L : Int) (A B C : Option Addr) (k1 k2 k3 c1 c2 c3 : Nat) (t v : List UInt8) (l b u : Int) (V : List UInt8) (hV : V.length = 32) (k : Int) (hr : rgtP n H = false) (w : World) (hX : WiRd w X Xs) :
    Calls Tryz.prog 13 #[.agg #[.int .i64 n, .int .i64 H], .string (txt s), .slice X x cx, .agg (idVals a), .agg #[.int .i64 L, .slice A k1 c1, .slice B k2 c2, .slice C k3 c3], .agg (wtC k (txt t) (txt v) l b u V)] w fun e w' => e = .returned (.bool false) ∧ Below w.heap.size w w' := by
  have h1 := (Below.refl w.heap.size w).alloc (Nat.le_refl _) (.cells #[.int .i64 n, .int .i64 H] 29)
  have h2 := h1.alloc h1.size (.cells (idVals a) 24)
  have h3 := h2.alloc h2.size (.cells #[.int .i64 L, .slice A k1 c1, .slice B k2 c2, .slice C k3 c3] 27)
  have h4 := h3.alloc h3.size (.cells (wtC k (txt t) (txt v) l b u V) 32)
  have B1 := (((Blk.new w 29 #[.int .i64 n, .int .i64 H]).alloc (.cells (idVals a) 24)).alloc (.cells #[.int .i64 L, .slice A k1 c1, .slice B k2 c2, .slice C k3 c3] 27)).alloc (.cells (wtC k (txt t) (txt v) l b u V) 32)
  have B2 := ((Blk.new (w.alloc (.cells #[.int .i64 n, .int .i64 H] 29)) 24 (idVals a)).alloc (.cells #[.int .i64 L, .slice A k1 c1, .slice B k2 c2, .slice C k3 c3] 27)).alloc (.cells (wtC k (txt t) (txt v) l b u V) 32)
  have B3 := (Blk.new ((w.alloc (.cells #[.int .i64 n, .int .i64 H] 29)).alloc (.cells (idVals a) 24)) 27 #[.int .i64 L, .slice A k1 c1, .slice B k2 c2, .slice C k3 c3]).alloc (.cells (wtC k (txt t) (txt v) l b u V) 32)
  have B4 := Blk.new (((w.alloc (.cells #[.int .i64 n, .int .i64 H] 29)).alloc (.cells (idVals a) 24)).alloc (.cells #[.int .i64 L, .slice A k1 c1, .slice B k2 c2, .slice C k3 c3] 27)) 32 (wtC k (txt t) (txt v) l b u V)
  rw [World.size_alloc] at B2
  rw [World.size_alloc, World.size_alloc] at B3
  rw [World.size_alloc, World.size_alloc, World.size_alloc] at B4
  have hu := Tryz.underlying24
  have hza : (Tryz.prog.info? 24).map (·.size) = some (a.map u8v).length := by rw [List.length_map, ha]; exact sizeId
  have cR := fun W => kright_any n H W
  rw [hr] at cR
  have q0F := wtC_c0 k (txt t) (txt v) l b u V
  clear h1 h2 h3
  go_enter Tryz.func13, Tryz.ntmps13
  go_upto_region 1 with (fail)
  generalize ((((w.alloc (.cells #[.int .i64 n, .int .i64 H] 29)).alloc (.cells (idVals a) 24)).alloc (.cells #[.int .i64 L, .slice A k1 c1, .slice B k2 c2, .slice C k3 c3] 27)).alloc (.cells (wtC k (txt t) (txt v) l b u V) 32)) = w1 at *
  have p0 := B1.cell_ (i := 0) rfl
  have p1 := B1.cell_ (i := 1) rfl
  have s0 := B3.cell_ (i := 0) rfl
  have q0 := B4.cell_ q0F
  go_wp2_with (first
    | (go_at_call 24; (with_reducible refine (cR _).mono ?_); rintro e1 w2 ⟨rfl, hb2⟩; replace h4 := h4.trans (hb2.mono h4.size); replace B1 := B1.below hb2; replace B2 := B2.below hb2; replace B3 := B3.below hb2; replace B4 := B4.below hb2; replace p0 := B1.cell_ (i := 0) rfl; replace p1 := B1.cell_ (i := 1) rfl; replace s0 := B3.cell_ (i := 0) rfl; replace q0 := B4.cell_ q0F)
)
  go_ret
  exact ⟨rfl, h4⟩

end Go.Proofs.YticpdepbgcagaaaGreat

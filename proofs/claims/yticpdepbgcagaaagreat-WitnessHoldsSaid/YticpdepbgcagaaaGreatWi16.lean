
/- witness: whether any witness is what it says: of the law and of the program. -/
import Derived.Test.YticpdepbgcagaaaGreatWi11
import Derived.ChangeShapes
import Derived.Deep.DeepCutAuto
set_option linter.unusedSimpArgs false
set_option linter.unusedVariables false
namespace Go.Proofs.YticpdepbgcagaaaGreat
open Go.RowKit Go.Qc Go.Shelf
attribute [local go_sem] txt_size txt_append ib_fold
theorem wtC_c0 (k : Int) (x y : ByteArray) (l b s : Int) (K : List UInt8) : (wtC k x y l b s K)[0]? = some (.int .i64 k) := by unfold wtC; rw [Array.getElem?_append_left (by simp)]; rfl
theorem wtC_c1 (k : Int) (x y : ByteArray) (l b s : Int) (K : List UInt8) : (wtC k x y l b s K)[1]? = some (.string x) := by unfold wtC; rw [Array.getElem?_append_left (by simp)]; rfl
theorem wtC_c2 (k : Int) (x y : ByteArray) (l b s : Int) (K : List UInt8) : (wtC k x y l b s K)[2]? = some (.string y) := by unfold wtC; rw [Array.getElem?_append_left (by simp)]; rfl
theorem wtC_c3 (k : Int) (x y : ByteArray) (l b s : Int) (K : List UInt8) : (wtC k x y l b s K)[3]? = some (.int .i64 l) := by unfold wtC; rw [Array.getElem?_append_left (by simp)]; rfl
theorem wtC_c4 (k : Int) (x y : ByteArray) (l b s : Int) (K : List UInt8) : (wtC k x y l b s K)[4]? = some (.int .i64 b) := by unfold wtC; rw [Array.getElem?_append_left (by simp)]; rfl
theorem wtC_c5 (k : Int) (x y : ByteArray) (l b s : Int) (K : List UInt8) : (wtC k x y l b s K)[5]? = some (.int .i64 s) := by unfold wtC; rw [Array.getElem?_append_left (by simp)]; rfl
theorem wtC_key (k : Int) (x y : ByteArray) (l b s : Int) (K : List UInt8) (j : Nat) (u : Value) (h : (K.map u8v)[j]? = some u) : (wtC k x y l b s K)[6 + j]? = some u := by
  unfold wtC
  rw [Array.getElem?_append_right (by simp)]
  simp only [List.size_toArray, List.length_cons, List.length_nil]
  rw [show 6 + j - (0 + 1 + 1 + 1 + 1 + 1 + 1) = j by omega]
  unfold idVals
  rw [List.getElem?_toArray]
  exact h

set_option maxRecDepth 100000 in
set_option maxHeartbeats 20000000 in
theorem wlhg_1 (n H : Nat) (s : List UInt8) (hs : s.length ≤ 1000) (X : Option Addr) (x cx : Nat) (Xs : List WiD) (hxn : Xs.length = x) (bx : x ≤ 1000) (a : List UInt8) (ha : a.length = 32) (L : Int) (A B C : Option Addr) (k1 k2 k3 c1 c2 c3 : Nat) (t v : List UInt8) (l b u : Int) (V : List UInt8) (hV : V.length = 32) (r : Bool) (hh : honB n Xs a L = r) (w : World) (hX : WiRd w X Xs) :
    Calls Tryz.prog 12 #[.agg #[.int .i64 n, .int .i64 H], .string (txt s), .slice X x cx, .agg (idVals a), .agg #[.int .i64 L, .slice A k1 c1, .slice B k2 c2, .slice C k3 c3], .agg (wtC 1 (txt t) (txt v) l b u V)] w fun e w' => e = .returned (.bool r) ∧ Below w.heap.size w w' := by
  have h1 := (Below.refl w.heap.size w).alloc (Nat.le_refl _) (.cells #[.int .i64 n, .int .i64 H] 29)
  have h2 := h1.alloc h1.size (.cells (idVals a) 24)
  have h3 := h2.alloc h2.size (.cells #[.int .i64 L, .slice A k1 c1, .slice B k2 c2, .slice C k3 c3] 27)
  have h4 := h3.alloc h3.size (.cells (wtC 1 (txt t) (txt v) l b u V) 32)
  have B1 := (((Blk.new w 29 #[.int .i64 n, .int .i64 H]).alloc (.cells (idVals a) 24)).alloc (.cells #[.int .i64 L, .slice A k1 c1, .slice B k2 c2, .slice C k3 c3] 27)).alloc (.cells (wtC 1 (txt t) (txt v) l b u V) 32)
  have B2 := ((Blk.new (w.alloc (.cells #[.int .i64 n, .int .i64 H] 29)) 24 (idVals a)).alloc (.cells #[.int .i64 L, .slice A k1 c1, .slice B k2 c2, .slice C k3 c3] 27)).alloc (.cells (wtC 1 (txt t) (txt v) l b u V) 32)
  have B3 := (Blk.new ((w.alloc (.cells #[.int .i64 n, .int .i64 H] 29)).alloc (.cells (idVals a) 24)) 27 #[.int .i64 L, .slice A k1 c1, .slice B k2 c2, .slice C k3 c3]).alloc (.cells (wtC 1 (txt t) (txt v) l b u V) 32)
  have B4 := Blk.new (((w.alloc (.cells #[.int .i64 n, .int .i64 H] 29)).alloc (.cells (idVals a) 24)).alloc (.cells #[.int .i64 L, .slice A k1 c1, .slice B k2 c2, .slice C k3 c3] 27)) 32 (wtC 1 (txt t) (txt v) l b u V)
  rw [World.size_alloc] at B2
  rw [World.size_alloc, World.size_alloc] at B3
  rw [World.size_alloc, World.size_alloc, World.size_alloc] at B4
  have hu := Tryz.underlying24
  have hza : (Tryz.prog.info? 24).map (·.size) = some (a.map u8v).length := by rw [List.length_map, ha]; exact sizeId
  have cH : ∀ W, Below w.heap.size w W → Calls Tryz.prog 17 #[.int .i64 n, .slice X x cx, .agg (List.map u8v a).toArray, .int .i64 L] W fun e w' => e = .returned (.bool r) ∧ Below W.heap.size W w' := fun W hW => by
    have h := wrhonest_any n a ha L X x cx Xs hxn bx W (hX.below hW)
    rw [hh] at h
    exact h
  have q0F := wtC_c0 1 (txt t) (txt v) l b u V
  clear h1 h2 h3 hh
  go_enter Tryz.func12, Tryz.ntmps12
  go_upto_region 1 with (fail)
  generalize ((((w.alloc (.cells #[.int .i64 n, .int .i64 H] 29)).alloc (.cells (idVals a) 24)).alloc (.cells #[.int .i64 L, .slice A k1 c1, .slice B k2 c2, .slice C k3 c3] 27)).alloc (.cells (wtC 1 (txt t) (txt v) l b u V) 32)) = w1 at *
  have p0 := B1.cell_ (i := 0) rfl
  have p1 := B1.cell_ (i := 1) rfl
  have s0 := B3.cell_ (i := 0) rfl
  have q0 := B4.cell_ q0F
  go_upto_region 3 with (first
    | fail)
  have fa := range_blk B2
  go_wp2_with (first
    | (with_reducible refine wpList_load_if (by with_unfolding_all rfl) 24 _ rfl _ _ rfl (a.map u8v) _ fa hu rfl hza ?_)
    | (go_at_call 17; (with_reducible refine (cH _ h4).mono ?_); rintro e3 w3 ⟨rfl, hb3⟩))
  go_ret
  exact ⟨rfl, h4.trans (hb3.mono h4.size)⟩

set_option maxRecDepth 100000 in
set_option maxHeartbeats 20000000 in
theorem wlhg_2 (n H : Nat) (s : List UInt8) (hs : s.length ≤ 1000) (X : Option Addr) (x cx : Nat) (Xs : List WiD) (hxn : Xs.length = x) (bx : x ≤ 1000) (a : List UInt8) (ha : a.length = 32) (L : Int) (A B C : Option Addr) (k1 k2 k3 c1 c2 c3 : Nat) (t v : List UInt8) (l b u : Int) (V : List UInt8) (hV : V.length = 32) (htv : t ≠ v) (lt : t.length ≤ 1000000) (lv : v.length ≤ 1000000) (r : Bool) (hsum : decide (sumB t = sumB v) = r) (w : World) (hX : WiRd w X Xs) :
    Calls Tryz.prog 12 #[.agg #[.int .i64 n, .int .i64 H], .string (txt s), .slice X x cx, .agg (idVals a), .agg #[.int .i64 L, .slice A k1 c1, .slice B k2 c2, .slice C k3 c3], .agg (wtC 2 (txt t) (txt v) l b u V)] w fun e w' => e = .returned (.bool r) ∧ Below w.heap.size w w' := by
  have h1 := (Below.refl w.heap.size w).alloc (Nat.le_refl _) (.cells #[.int .i64 n, .int .i64 H] 29)
  have h2 := h1.alloc h1.size (.cells (idVals a) 24)
  have h3 := h2.alloc h2.size (.cells #[.int .i64 L, .slice A k1 c1, .slice B k2 c2, .slice C k3 c3] 27)
  have h4 := h3.alloc h3.size (.cells (wtC 2 (txt t) (txt v) l b u V) 32)
  have B1 := (((Blk.new w 29 #[.int .i64 n, .int .i64 H]).alloc (.cells (idVals a) 24)).alloc (.cells #[.int .i64 L, .slice A k1 c1, .slice B k2 c2, .slice C k3 c3] 27)).alloc (.cells (wtC 2 (txt t) (txt v) l b u V) 32)
  have B2 := ((Blk.new (w.alloc (.cells #[.int .i64 n, .int .i64 H] 29)) 24 (idVals a)).alloc (.cells #[.int .i64 L, .slice A k1 c1, .slice B k2 c2, .slice C k3 c3] 27)).alloc (.cells (wtC 2 (txt t) (txt v) l b u V) 32)
  have B3 := (Blk.new ((w.alloc (.cells #[.int .i64 n, .int .i64 H] 29)).alloc (.cells (idVals a) 24)) 27 #[.int .i64 L, .slice A k1 c1, .slice B k2 c2, .slice C k3 c3]).alloc (.cells (wtC 2 (txt t) (txt v) l b u V) 32)
  have B4 := Blk.new (((w.alloc (.cells #[.int .i64 n, .int .i64 H] 29)).alloc (.cells (idVals a) 24)).alloc (.cells #[.int .i64 L, .slice A k1 c1, .slice B k2 c2, .slice C k3 c3] 27)) 32 (wtC 2 (txt t) (txt v) l b u V)
  rw [World.size_alloc] at B2
  rw [World.size_alloc, World.size_alloc] at B3
  rw [World.size_alloc, World.size_alloc, World.size_alloc] at B4
  have hu := Tryz.underlying24
  have hza : (Tryz.prog.info? 24).map (·.size) = some (a.map u8v).length := by rw [List.length_map, ha]; exact sizeId
  have hSt : (sumB t).length = 32 := sumB_length t
  have hSv : (sumB v).length = 32 := sumB_length v
  have cT1 : ∀ W : World, Calls Tryz.prog 40 #[.string (txt t)] W fun e w' => e = .returned (.agg (List.map u8v (sumB t)).toArray) ∧ Below W.heap.size W w' := fun W => rsum_any t (by omega) W
  have cT2 : ∀ W : World, Calls Tryz.prog 40 #[.string (txt v)] W fun e w' => e = .returned (.agg (List.map u8v (sumB v)).toArray) ∧ Below W.heap.size W w' := fun W => rsum_any v (by omega) W
  have heq : ∀ W, (Op.equalIn 10000 24 (.agg (List.map u8v (sumB t)).toArray) (.agg (List.map u8v (sumB v)).toArray)).run Tryz.prog W = .ok r W := fun W => (ids_eq W _ _ hSt hSv).trans (by rw [hsum])
  generalize sumB t = S1 at *
  generalize sumB v = S2 at *
  have hne2 : ((txt t).toList == (txt v).toList) = false := by rw [txt_toW, txt_toW]; simpa using htv
  have q0F := wtC_c0 2 (txt t) (txt v) l b u V
  have q1F := wtC_c1 2 (txt t) (txt v) l b u V
  have q2F := wtC_c2 2 (txt t) (txt v) l b u V
  generalize txt t = x0 at *
  generalize txt v = y0 at *
  clear h1 h2 h3 hX htv hsum
  go_enter Tryz.func12, Tryz.ntmps12
  go_upto_region 1 with (fail)
  generalize ((((w.alloc (.cells #[.int .i64 n, .int .i64 H] 29)).alloc (.cells (idVals a) 24)).alloc (.cells #[.int .i64 L, .slice A k1 c1, .slice B k2 c2, .slice C k3 c3] 27)).alloc (.cells (wtC 2 x0 y0 l b u V) 32)) = w1 at *
  have p0 := B1.cell_ (i := 0) rfl
  have p1 := B1.cell_ (i := 1) rfl
  have s0 := B3.cell_ (i := 0) rfl
  have q0 := B4.cell_ q0F
  go_upto_region 5 with (first
    | fail)
  have j1 : ∀ p : LaterW w1, p.w.cell? ⟨w.heap.size + 1 + 1 + 1, 1, none⟩ = some (.string x0) := fun p => wi_cell p.h (B4.cell_ q1F)
  have j2 : ∀ p : LaterW w1, p.w.cell? ⟨w.heap.size + 1 + 1 + 1, 2, none⟩ = some (.string y0) := fun p => wi_cell p.h (B4.cell_ q2F)
  clear B1 B2 B3 B4 p0 p1 s0 q0
  refine wp_region_later mixedW (by kernel_rfl) ?_
  repeat (first
    | ((with_reducible refine wpQuiet_step (fun K hK => ?_)); go_simp; first | ((with_reducible refine hK _ ?_); clear hK K) | (with_reducible apply Exists.intro; (with_reducible refine ⟨fun P => ?_, hK _ ?_⟩); (first | (go_at_call 40; exact later_of (cT1 P.w)) | (go_at_call 40; exact later_of (cT2 P.w))); clear hK K))
    | ((with_reducible refine BigFrame.wpQuiet_skip (by first | kernel_rfl | with_unfolding_all rfl) ?_); simp only [Act.put, List.setIfInBounds_toArray, List.set_cons_zero, List.set_cons_succ]))
  with_reducible refine wpQuiet_nil ?_
  intro _ hw9
  obtain ⟨P9, rfl⟩ := hw9
  go_wp2_with (fail)
  go_ret
  exact ⟨rfl, h4.trans (P9.h.mono h4.size)⟩

set_option maxRecDepth 100000 in
set_option maxHeartbeats 20000000 in
theorem wlhg_2e (n H : Nat) (s : List UInt8) (hs : s.length ≤ 1000) (X : Option Addr) (x cx : Nat) (Xs : List WiD) (hxn : Xs.length = x) (bx : x ≤ 1000) (a : List UInt8) (ha : a.length = 32) (L : Int) (A B C : Option Addr) (k1 k2 k3 c1 c2 c3 : Nat) (t v : List UInt8) (l b u : Int) (V : List UInt8) (hV : V.length = 32) (htv : t = v) (w : World) (hX : WiRd w X Xs) :
    Calls Tryz.prog 12 #[.agg #[.int .i64 n, .int .i64 H], .string (txt s), .slice X x cx, .agg (idVals a), .agg #[.int .i64 L, .slice A k1 c1, .slice B k2 c2, .slice C k3 c3], .agg (wtC 2 (txt t) (txt v) l b u V)] w fun e w' => e = .returned (.bool false) ∧ Below w.heap.size w w' := by
  have h1 := (Below.refl w.heap.size w).alloc (Nat.le_refl _) (.cells #[.int .i64 n, .int .i64 H] 29)
  have h2 := h1.alloc h1.size (.cells (idVals a) 24)
  have h3 := h2.alloc h2.size (.cells #[.int .i64 L, .slice A k1 c1, .slice B k2 c2, .slice C k3 c3] 27)
  have h4 := h3.alloc h3.size (.cells (wtC 2 (txt t) (txt v) l b u V) 32)
  have B1 := (((Blk.new w 29 #[.int .i64 n, .int .i64 H]).alloc (.cells (idVals a) 24)).alloc (.cells #[.int .i64 L, .slice A k1 c1, .slice B k2 c2, .slice C k3 c3] 27)).alloc (.cells (wtC 2 (txt t) (txt v) l b u V) 32)
  have B2 := ((Blk.new (w.alloc (.cells #[.int .i64 n, .int .i64 H] 29)) 24 (idVals a)).alloc (.cells #[.int .i64 L, .slice A k1 c1, .slice B k2 c2, .slice C k3 c3] 27)).alloc (.cells (wtC 2 (txt t) (txt v) l b u V) 32)
  have B3 := (Blk.new ((w.alloc (.cells #[.int .i64 n, .int .i64 H] 29)).alloc (.cells (idVals a) 24)) 27 #[.int .i64 L, .slice A k1 c1, .slice B k2 c2, .slice C k3 c3]).alloc (.cells (wtC 2 (txt t) (txt v) l b u V) 32)
  have B4 := Blk.new (((w.alloc (.cells #[.int .i64 n, .int .i64 H] 29)).alloc (.cells (idVals a) 24)).alloc (.cells #[.int .i64 L, .slice A k1 c1, .slice B k2 c2, .slice C k3 c3] 27)) 32 (wtC 2 (txt t) (txt v) l b u V)
  rw [World.size_alloc] at B2
  rw [World.size_alloc, World.size_alloc] at B3
  rw [World.size_alloc, World.size_alloc, World.size_alloc] at B4
  have hu := Tryz.underlying24
  have hza : (Tryz.prog.info? 24).map (·.size) = some (a.map u8v).length := by rw [List.length_map, ha]; exact sizeId
  have q0F := wtC_c0 2 (txt t) (txt v) l b u V
  have q1F := wtC_c1 2 (txt t) (txt v) l b u V
  have q2F := wtC_c2 2 (txt t) (txt v) l b u V
  subst htv
  generalize txt t = x0 at *
  clear h1 h2 h3 hX
  go_enter Tryz.func12, Tryz.ntmps12
  go_upto_region 1 with (fail)
  generalize ((((w.alloc (.cells #[.int .i64 n, .int .i64 H] 29)).alloc (.cells (idVals a) 24)).alloc (.cells #[.int .i64 L, .slice A k1 c1, .slice B k2 c2, .slice C k3 c3] 27)).alloc (.cells (wtC 2 x0 x0 l b u V) 32)) = w1 at *
  have p0 := B1.cell_ (i := 0) rfl
  have p1 := B1.cell_ (i := 1) rfl
  have s0 := B3.cell_ (i := 0) rfl
  have q0 := B4.cell_ q0F
  go_upto_region 5 with (first
    | fail)
  have j1 : ∀ p : LaterW w1, p.w.cell? ⟨w.heap.size + 1 + 1 + 1, 1, none⟩ = some (.string x0) := fun p => wi_cell p.h (B4.cell_ q1F)
  have j2 : ∀ p : LaterW w1, p.w.cell? ⟨w.heap.size + 1 + 1 + 1, 2, none⟩ = some (.string x0) := fun p => wi_cell p.h (B4.cell_ q2F)
  clear B1 B2 B3 B4 p0 p1 s0 q0
  refine wp_region_later mixedW (by kernel_rfl) ?_
  repeat (first
    | ((with_reducible refine wpQuiet_step (fun K hK => ?_)); go_simp; first | ((with_reducible refine hK _ ?_); clear hK K) | (with_reducible apply Exists.intro; (with_reducible refine ⟨fun P => ?_, hK _ ?_⟩); (fail); clear hK K))
    | ((with_reducible refine BigFrame.wpQuiet_skip (by first | kernel_rfl | with_unfolding_all rfl) ?_); simp only [Act.put, List.setIfInBounds_toArray, List.set_cons_zero, List.set_cons_succ]))
  with_reducible refine wpQuiet_nil ?_
  intro _ hw9
  obtain ⟨P9, rfl⟩ := hw9
  go_wp2_with (fail)
  go_ret
  exact ⟨rfl, h4.trans (P9.h.mono h4.size)⟩

set_option maxRecDepth 100000 in
set_option maxHeartbeats 20000000 in
theorem wlhg_3A (n H : Nat) (s : List UInt8) (hs : s.length ≤ 1000) (X : Option Addr) (x cx : Nat) (Xs : List WiD) (hxn : Xs.length = x) (bx : x ≤ 1000) (a : List UInt8) (ha : a.length = 32) (L : Int) (A B C : Option Addr) (k1 k2 k3 c1 c2 c3 : Nat) (t v : List UInt8) (l b u : Int) (V : List UInt8) (hV : V.length = 32)  (hA : ¬ l = L) (w : World) (hX : WiRd w X Xs) :
    Calls Tryz.prog 12 #[.agg #[.int .i64 n, .int .i64 H], .string (txt s), .slice X x cx, .agg (idVals a), .agg #[.int .i64 L, .slice A k1 c1, .slice B k2 c2, .slice C k3 c3], .agg (wtC 3 (txt t) (txt v) l b u V)] w fun e w' => e = .returned (.bool false) ∧ Below w.heap.size w w' := by
  have h1 := (Below.refl w.heap.size w).alloc (Nat.le_refl _) (.cells #[.int .i64 n, .int .i64 H] 29)
  have h2 := h1.alloc h1.size (.cells (idVals a) 24)
  have h3 := h2.alloc h2.size (.cells #[.int .i64 L, .slice A k1 c1, .slice B k2 c2, .slice C k3 c3] 27)
  have h4 := h3.alloc h3.size (.cells (wtC 3 (txt t) (txt v) l b u V) 32)
  have B1 := (((Blk.new w 29 #[.int .i64 n, .int .i64 H]).alloc (.cells (idVals a) 24)).alloc (.cells #[.int .i64 L, .slice A k1 c1, .slice B k2 c2, .slice C k3 c3] 27)).alloc (.cells (wtC 3 (txt t) (txt v) l b u V) 32)
  have B2 := ((Blk.new (w.alloc (.cells #[.int .i64 n, .int .i64 H] 29)) 24 (idVals a)).alloc (.cells #[.int .i64 L, .slice A k1 c1, .slice B k2 c2, .slice C k3 c3] 27)).alloc (.cells (wtC 3 (txt t) (txt v) l b u V) 32)
  have B3 := (Blk.new ((w.alloc (.cells #[.int .i64 n, .int .i64 H] 29)).alloc (.cells (idVals a) 24)) 27 #[.int .i64 L, .slice A k1 c1, .slice B k2 c2, .slice C k3 c3]).alloc (.cells (wtC 3 (txt t) (txt v) l b u V) 32)
  have B4 := Blk.new (((w.alloc (.cells #[.int .i64 n, .int .i64 H] 29)).alloc (.cells (idVals a) 24)).alloc (.cells #[.int .i64 L, .slice A k1 c1, .slice B k2 c2, .slice C k3 c3] 27)) 32 (wtC 3 (txt t) (txt v) l b u V)
  rw [World.size_alloc] at B2
  rw [World.size_alloc, World.size_alloc] at B3
  rw [World.size_alloc, World.size_alloc, World.size_alloc] at B4
  have hu := Tryz.underlying24
  have hza : (Tryz.prog.info? 24).map (·.size) = some (a.map u8v).length := by rw [List.length_map, ha]; exact sizeId
  have m0 : (l == L) = false := by simpa using hA
  have q0F := wtC_c0 3 (txt t) (txt v) l b u V
  have q3F := wtC_c3 3 (txt t) (txt v) l b u V
  have q4F := wtC_c4 3 (txt t) (txt v) l b u V
  have q5F := wtC_c5 3 (txt t) (txt v) l b u V
  have qkF := wtC_key 3 (txt t) (txt v) l b u V
  clear h1 h2 h3
  go_enter Tryz.func12, Tryz.ntmps12
  go_upto_region 1 with (fail)
  generalize ((((w.alloc (.cells #[.int .i64 n, .int .i64 H] 29)).alloc (.cells (idVals a) 24)).alloc (.cells #[.int .i64 L, .slice A k1 c1, .slice B k2 c2, .slice C k3 c3] 27)).alloc (.cells (wtC 3 (txt t) (txt v) l b u V) 32)) = w1 at *
  have p0 := B1.cell_ (i := 0) rfl
  have p1 := B1.cell_ (i := 1) rfl
  have s0 := B3.cell_ (i := 0) rfl
  have q0 := B4.cell_ q0F
  go_upto_region 7 with (first
    | fail)
  have j0 : ∀ p : LaterW w1, p.w.cell? ⟨w.heap.size, 0, none⟩ = some (.int .i64 n) := fun p => wi_cell p.h (B1.cell_ (i := 0) rfl)
  have jL : ∀ p : LaterW w1, p.w.cell? ⟨w.heap.size + 1 + 1, 0, none⟩ = some (.int .i64 L) := fun p => wi_cell p.h (B3.cell_ (i := 0) rfl)
  have j3 : ∀ p : LaterW w1, p.w.cell? ⟨w.heap.size + 1 + 1 + 1, 3, none⟩ = some (.int .i64 l) := fun p => wi_cell p.h (B4.cell_ q3F)
  have j4 : ∀ p : LaterW w1, p.w.cell? ⟨w.heap.size + 1 + 1 + 1, 4, none⟩ = some (.int .i64 b) := fun p => wi_cell p.h (B4.cell_ q4F)
  have j5 : ∀ p : LaterW w1, p.w.cell? ⟨w.heap.size + 1 + 1 + 1, 5, none⟩ = some (.int .i64 u) := fun p => wi_cell p.h (B4.cell_ q5F)
  have fk : w1.rangeAt (w.heap.size + 1 + 1 + 1) 6 (V.map u8v) := fun j v hj => B4.cell_ (qkF j v hj)
  have fq := range_later fk
  clear B1 B2 B3 B4 p0 p1 s0 q0 fk hX
  refine wp_region_later mixedW (by kernel_rfl) ?_
  repeat (first
    | ((with_reducible refine wpQuiet_step (fun K hK => ?_)); go_simp; first | ((with_reducible refine hK _ ?_); clear hK K) | (with_reducible apply Exists.intro; (with_reducible refine ⟨fun P => ?_, hK _ ?_⟩); (fail); clear hK K))
    | ((with_reducible refine BigFrame.wpQuiet_skip (by first | kernel_rfl | with_unfolding_all rfl) ?_); simp only [Act.put, List.setIfInBounds_toArray, List.set_cons_zero, List.set_cons_succ]))
  with_reducible refine wpQuiet_nil ?_
  intro _ hw9
  obtain ⟨P9, rfl⟩ := hw9
  go_wp2_with (fail)
  go_ret
  exact ⟨rfl, h4.trans (P9.h.mono h4.size)⟩

set_option maxRecDepth 100000 in
set_option maxHeartbeats 20000000 in
theorem wlhg_3B (n H : Nat) (s : List UInt8) (hs : s.length ≤ 1000) (X : Option Addr) (x cx : Nat) (Xs : List WiD) (hxn : Xs.length = x) (bx : x ≤ 1000) (a : List UInt8) (ha : a.length = 32) (L : Int) (A B C : Option Addr) (k1 k2 k3 c1 c2 c3 : Nat) (t v : List UInt8) (l b u : Int) (V : List UInt8) (hV : V.length = 32) (hl : l = L) (hB : b < 0) (w : World) (hX : WiRd w X Xs) :
    Calls Tryz.prog 12 #[.agg #[.int .i64 n, .int .i64 H], .string (txt s), .slice X x cx, .agg (idVals a), .agg #[.int .i64 L, .slice A k1 c1, .slice B k2 c2, .slice C k3 c3], .agg (wtC 3 (txt t) (txt v) l b u V)] w fun e w' => e = .returned (.bool false) ∧ Below w.heap.size w w' := by
  subst hl
  have h1 := (Below.refl w.heap.size w).alloc (Nat.le_refl _) (.cells #[.int .i64 n, .int .i64 H] 29)
  have h2 := h1.alloc h1.size (.cells (idVals a) 24)
  have h3 := h2.alloc h2.size (.cells #[.int .i64 l, .slice A k1 c1, .slice B k2 c2, .slice C k3 c3] 27)
  have h4 := h3.alloc h3.size (.cells (wtC 3 (txt t) (txt v) l b u V) 32)
  have B1 := (((Blk.new w 29 #[.int .i64 n, .int .i64 H]).alloc (.cells (idVals a) 24)).alloc (.cells #[.int .i64 l, .slice A k1 c1, .slice B k2 c2, .slice C k3 c3] 27)).alloc (.cells (wtC 3 (txt t) (txt v) l b u V) 32)
  have B2 := ((Blk.new (w.alloc (.cells #[.int .i64 n, .int .i64 H] 29)) 24 (idVals a)).alloc (.cells #[.int .i64 l, .slice A k1 c1, .slice B k2 c2, .slice C k3 c3] 27)).alloc (.cells (wtC 3 (txt t) (txt v) l b u V) 32)
  have B3 := (Blk.new ((w.alloc (.cells #[.int .i64 n, .int .i64 H] 29)).alloc (.cells (idVals a) 24)) 27 #[.int .i64 l, .slice A k1 c1, .slice B k2 c2, .slice C k3 c3]).alloc (.cells (wtC 3 (txt t) (txt v) l b u V) 32)
  have B4 := Blk.new (((w.alloc (.cells #[.int .i64 n, .int .i64 H] 29)).alloc (.cells (idVals a) 24)).alloc (.cells #[.int .i64 l, .slice A k1 c1, .slice B k2 c2, .slice C k3 c3] 27)) 32 (wtC 3 (txt t) (txt v) l b u V)
  rw [World.size_alloc] at B2
  rw [World.size_alloc, World.size_alloc] at B3
  rw [World.size_alloc, World.size_alloc, World.size_alloc] at B4
  have hu := Tryz.underlying24
  have hza : (Tryz.prog.info? 24).map (·.size) = some (a.map u8v).length := by rw [List.length_map, ha]; exact sizeId
  have m1 : ¬ (0 : Int) ≤ b := by omega
  have m3 : ¬ b ≥ (0 : Int) := by omega
  have q0F := wtC_c0 3 (txt t) (txt v) l b u V
  have q3F := wtC_c3 3 (txt t) (txt v) l b u V
  have q4F := wtC_c4 3 (txt t) (txt v) l b u V
  have q5F := wtC_c5 3 (txt t) (txt v) l b u V
  have qkF := wtC_key 3 (txt t) (txt v) l b u V
  clear h1 h2 h3
  go_enter Tryz.func12, Tryz.ntmps12
  go_upto_region 1 with (fail)
  generalize ((((w.alloc (.cells #[.int .i64 n, .int .i64 H] 29)).alloc (.cells (idVals a) 24)).alloc (.cells #[.int .i64 l, .slice A k1 c1, .slice B k2 c2, .slice C k3 c3] 27)).alloc (.cells (wtC 3 (txt t) (txt v) l b u V) 32)) = w1 at *
  have p0 := B1.cell_ (i := 0) rfl
  have p1 := B1.cell_ (i := 1) rfl
  have s0 := B3.cell_ (i := 0) rfl
  have q0 := B4.cell_ q0F
  go_upto_region 7 with (first
    | fail)
  have j0 : ∀ p : LaterW w1, p.w.cell? ⟨w.heap.size, 0, none⟩ = some (.int .i64 n) := fun p => wi_cell p.h (B1.cell_ (i := 0) rfl)
  have jL : ∀ p : LaterW w1, p.w.cell? ⟨w.heap.size + 1 + 1, 0, none⟩ = some (.int .i64 l) := fun p => wi_cell p.h (B3.cell_ (i := 0) rfl)
  have j3 : ∀ p : LaterW w1, p.w.cell? ⟨w.heap.size + 1 + 1 + 1, 3, none⟩ = some (.int .i64 l) := fun p => wi_cell p.h (B4.cell_ q3F)
  have j4 : ∀ p : LaterW w1, p.w.cell? ⟨w.heap.size + 1 + 1 + 1, 4, none⟩ = some (.int .i64 b) := fun p => wi_cell p.h (B4.cell_ q4F)
  have j5 : ∀ p : LaterW w1, p.w.cell? ⟨w.heap.size + 1 + 1 + 1, 5, none⟩ = some (.int .i64 u) := fun p => wi_cell p.h (B4.cell_ q5F)
  have fk : w1.rangeAt (w.heap.size + 1 + 1 + 1) 6 (V.map u8v) := fun j v hj => B4.cell_ (qkF j v hj)
  have fq := range_later fk
  clear B1 B2 B3 B4 p0 p1 s0 q0 fk hX
  refine wp_region_later mixedW (by kernel_rfl) ?_
  repeat (first
    | ((with_reducible refine wpQuiet_step (fun K hK => ?_)); go_simp; first | ((with_reducible refine hK _ ?_); clear hK K) | (with_reducible apply Exists.intro; (with_reducible refine ⟨fun P => ?_, hK _ ?_⟩); (fail); clear hK K))
    | ((with_reducible refine BigFrame.wpQuiet_skip (by first | kernel_rfl | with_unfolding_all rfl) ?_); simp only [Act.put, List.setIfInBounds_toArray, List.set_cons_zero, List.set_cons_succ]))
  with_reducible refine wpQuiet_nil ?_
  intro _ hw9
  obtain ⟨P9, rfl⟩ := hw9
  go_wp2_with (fail)
  go_ret
  exact ⟨rfl, h4.trans (P9.h.mono h4.size)⟩

set_option maxRecDepth 100000 in
set_option maxHeartbeats 20000000 in
theorem wlhg_3C (n H : Nat) (s : List UInt8) (hs : s.length ≤ 1000) (X : Option Addr) (x cx : Nat) (Xs : List WiD) (hxn : Xs.length = x) (bx : x ≤ 1000) (a : List UInt8) (ha : a.length = 32) (L : Int) (A B C : Option Addr) (k1 k2 k3 c1 c2 c3 : Nat) (t v : List UInt8) (l b u : Int) (V : List UInt8) (hV : V.length = 32) (hl : l = L) (hb0 : 0 ≤ b) (hC : (n : Int) ≤ b) (w : World) (hX : WiRd w X Xs) :
    Calls Tryz.prog 12 #[.agg #[.int .i64 n, .int .i64 H], .string (txt s), .slice X x cx, .agg (idVals a), .agg #[.int .i64 L, .slice A k1 c1, .slice B k2 c2, .slice C k3 c3], .agg (wtC 3 (txt t) (txt v) l b u V)] w fun e w' => e = .returned (.bool false) ∧ Below w.heap.size w w' := by
  subst hl
  have h1 := (Below.refl w.heap.size w).alloc (Nat.le_refl _) (.cells #[.int .i64 n, .int .i64 H] 29)
  have h2 := h1.alloc h1.size (.cells (idVals a) 24)
  have h3 := h2.alloc h2.size (.cells #[.int .i64 l, .slice A k1 c1, .slice B k2 c2, .slice C k3 c3] 27)
  have h4 := h3.alloc h3.size (.cells (wtC 3 (txt t) (txt v) l b u V) 32)
  have B1 := (((Blk.new w 29 #[.int .i64 n, .int .i64 H]).alloc (.cells (idVals a) 24)).alloc (.cells #[.int .i64 l, .slice A k1 c1, .slice B k2 c2, .slice C k3 c3] 27)).alloc (.cells (wtC 3 (txt t) (txt v) l b u V) 32)
  have B2 := ((Blk.new (w.alloc (.cells #[.int .i64 n, .int .i64 H] 29)) 24 (idVals a)).alloc (.cells #[.int .i64 l, .slice A k1 c1, .slice B k2 c2, .slice C k3 c3] 27)).alloc (.cells (wtC 3 (txt t) (txt v) l b u V) 32)
  have B3 := (Blk.new ((w.alloc (.cells #[.int .i64 n, .int .i64 H] 29)).alloc (.cells (idVals a) 24)) 27 #[.int .i64 l, .slice A k1 c1, .slice B k2 c2, .slice C k3 c3]).alloc (.cells (wtC 3 (txt t) (txt v) l b u V) 32)
  have B4 := Blk.new (((w.alloc (.cells #[.int .i64 n, .int .i64 H] 29)).alloc (.cells (idVals a) 24)).alloc (.cells #[.int .i64 l, .slice A k1 c1, .slice B k2 c2, .slice C k3 c3] 27)) 32 (wtC 3 (txt t) (txt v) l b u V)
  rw [World.size_alloc] at B2
  rw [World.size_alloc, World.size_alloc] at B3
  rw [World.size_alloc, World.size_alloc, World.size_alloc] at B4
  have hu := Tryz.underlying24
  have hza : (Tryz.prog.info? 24).map (·.size) = some (a.map u8v).length := by rw [List.length_map, ha]; exact sizeId
  have m1 : (0 : Int) ≤ b := hb0
  have m3 : b ≥ (0 : Int) := hb0
  have m2 : ¬ b < (n : Int) := by omega
  have q0F := wtC_c0 3 (txt t) (txt v) l b u V
  have q3F := wtC_c3 3 (txt t) (txt v) l b u V
  have q4F := wtC_c4 3 (txt t) (txt v) l b u V
  have q5F := wtC_c5 3 (txt t) (txt v) l b u V
  have qkF := wtC_key 3 (txt t) (txt v) l b u V
  clear h1 h2 h3
  go_enter Tryz.func12, Tryz.ntmps12
  go_upto_region 1 with (fail)
  generalize ((((w.alloc (.cells #[.int .i64 n, .int .i64 H] 29)).alloc (.cells (idVals a) 24)).alloc (.cells #[.int .i64 l, .slice A k1 c1, .slice B k2 c2, .slice C k3 c3] 27)).alloc (.cells (wtC 3 (txt t) (txt v) l b u V) 32)) = w1 at *
  have p0 := B1.cell_ (i := 0) rfl
  have p1 := B1.cell_ (i := 1) rfl
  have s0 := B3.cell_ (i := 0) rfl
  have q0 := B4.cell_ q0F
  go_upto_region 7 with (first
    | fail)
  have j0 : ∀ p : LaterW w1, p.w.cell? ⟨w.heap.size, 0, none⟩ = some (.int .i64 n) := fun p => wi_cell p.h (B1.cell_ (i := 0) rfl)
  have jL : ∀ p : LaterW w1, p.w.cell? ⟨w.heap.size + 1 + 1, 0, none⟩ = some (.int .i64 l) := fun p => wi_cell p.h (B3.cell_ (i := 0) rfl)
  have j3 : ∀ p : LaterW w1, p.w.cell? ⟨w.heap.size + 1 + 1 + 1, 3, none⟩ = some (.int .i64 l) := fun p => wi_cell p.h (B4.cell_ q3F)
  have j4 : ∀ p : LaterW w1, p.w.cell? ⟨w.heap.size + 1 + 1 + 1, 4, none⟩ = some (.int .i64 b) := fun p => wi_cell p.h (B4.cell_ q4F)
  have j5 : ∀ p : LaterW w1, p.w.cell? ⟨w.heap.size + 1 + 1 + 1, 5, none⟩ = some (.int .i64 u) := fun p => wi_cell p.h (B4.cell_ q5F)
  have fk : w1.rangeAt (w.heap.size + 1 + 1 + 1) 6 (V.map u8v) := fun j v hj => B4.cell_ (qkF j v hj)
  have fq := range_later fk
  clear B1 B2 B3 B4 p0 p1 s0 q0 fk hX
  refine wp_region_later mixedW (by kernel_rfl) ?_
  repeat (first
    | ((with_reducible refine wpQuiet_step (fun K hK => ?_)); go_simp; first | ((with_reducible refine hK _ ?_); clear hK K) | (with_reducible apply Exists.intro; (with_reducible refine ⟨fun P => ?_, hK _ ?_⟩); (fail); clear hK K))
    | ((with_reducible refine BigFrame.wpQuiet_skip (by first | kernel_rfl | with_unfolding_all rfl) ?_); simp only [Act.put, List.setIfInBounds_toArray, List.set_cons_zero, List.set_cons_succ]))
  with_reducible refine wpQuiet_nil ?_
  intro _ hw9
  obtain ⟨P9, rfl⟩ := hw9
  go_wp2_with (fail)
  go_ret
  exact ⟨rfl, h4.trans (P9.h.mono h4.size)⟩

set_option maxRecDepth 100000 in
set_option maxHeartbeats 20000000 in
theorem wlhg_3D (n H : Nat) (s : List UInt8) (hs : s.length ≤ 1000) (X : Option Addr) (x cx : Nat) (Xs : List WiD) (hxn : Xs.length = x) (bx : x ≤ 1000) (a : List UInt8) (ha : a.length = 32) (L : Int) (A B C : Option Addr) (k1 k2 k3 c1 c2 c3 : Nat) (t v : List UInt8) (l b u : Int) (V : List UInt8) (hV : V.length = 32) (hl : l = L) (hb0 : 0 ≤ b) (hbn : b < n) (h256 : n ≤ 256) (hD : u < 0) (w : World) (hX : WiRd w X Xs) :
    Calls Tryz.prog 12 #[.agg #[.int .i64 n, .int .i64 H], .string (txt s), .slice X x cx, .agg (idVals a), .agg #[.int .i64 L, .slice A k1 c1, .slice B k2 c2, .slice C k3 c3], .agg (wtC 3 (txt t) (txt v) l b u V)] w fun e w' => e = .returned (.bool false) ∧ Below w.heap.size w w' := by
  subst hl
  have h1 := (Below.refl w.heap.size w).alloc (Nat.le_refl _) (.cells #[.int .i64 n, .int .i64 H] 29)
  have h2 := h1.alloc h1.size (.cells (idVals a) 24)
  have h3 := h2.alloc h2.size (.cells #[.int .i64 l, .slice A k1 c1, .slice B k2 c2, .slice C k3 c3] 27)
  have h4 := h3.alloc h3.size (.cells (wtC 3 (txt t) (txt v) l b u V) 32)
  have B1 := (((Blk.new w 29 #[.int .i64 n, .int .i64 H]).alloc (.cells (idVals a) 24)).alloc (.cells #[.int .i64 l, .slice A k1 c1, .slice B k2 c2, .slice C k3 c3] 27)).alloc (.cells (wtC 3 (txt t) (txt v) l b u V) 32)
  have B2 := ((Blk.new (w.alloc (.cells #[.int .i64 n, .int .i64 H] 29)) 24 (idVals a)).alloc (.cells #[.int .i64 l, .slice A k1 c1, .slice B k2 c2, .slice C k3 c3] 27)).alloc (.cells (wtC 3 (txt t) (txt v) l b u V) 32)
  have B3 := (Blk.new ((w.alloc (.cells #[.int .i64 n, .int .i64 H] 29)).alloc (.cells (idVals a) 24)) 27 #[.int .i64 l, .slice A k1 c1, .slice B k2 c2, .slice C k3 c3]).alloc (.cells (wtC 3 (txt t) (txt v) l b u V) 32)
  have B4 := Blk.new (((w.alloc (.cells #[.int .i64 n, .int .i64 H] 29)).alloc (.cells (idVals a) 24)).alloc (.cells #[.int .i64 l, .slice A k1 c1, .slice B k2 c2, .slice C k3 c3] 27)) 32 (wtC 3 (txt t) (txt v) l b u V)
  rw [World.size_alloc] at B2
  rw [World.size_alloc, World.size_alloc] at B3
  rw [World.size_alloc, World.size_alloc, World.size_alloc] at B4
  have hu := Tryz.underlying24
  have hza : (Tryz.prog.info? 24).map (·.size) = some (a.map u8v).length := by rw [List.length_map, ha]; exact sizeId
  have m1 : (0 : Int) ≤ b := hb0
  have m3 : b ≥ (0 : Int) := hb0
  have m2 : b < (n : Int) := hbn
  have m5 : ¬ (0 : Int) ≤ u := by omega
  have m6 : ¬ u ≥ (0 : Int) := by omega
  have q0F := wtC_c0 3 (txt t) (txt v) l b u V
  have q3F := wtC_c3 3 (txt t) (txt v) l b u V
  have q4F := wtC_c4 3 (txt t) (txt v) l b u V
  have q5F := wtC_c5 3 (txt t) (txt v) l b u V
  have qkF := wtC_key 3 (txt t) (txt v) l b u V
  clear h1 h2 h3
  go_enter Tryz.func12, Tryz.ntmps12
  go_upto_region 1 with (fail)
  generalize ((((w.alloc (.cells #[.int .i64 n, .int .i64 H] 29)).alloc (.cells (idVals a) 24)).alloc (.cells #[.int .i64 l, .slice A k1 c1, .slice B k2 c2, .slice C k3 c3] 27)).alloc (.cells (wtC 3 (txt t) (txt v) l b u V) 32)) = w1 at *
  have p0 := B1.cell_ (i := 0) rfl
  have p1 := B1.cell_ (i := 1) rfl
  have s0 := B3.cell_ (i := 0) rfl
  have q0 := B4.cell_ q0F
  go_upto_region 7 with (first
    | fail)
  have j0 : ∀ p : LaterW w1, p.w.cell? ⟨w.heap.size, 0, none⟩ = some (.int .i64 n) := fun p => wi_cell p.h (B1.cell_ (i := 0) rfl)
  have jL : ∀ p : LaterW w1, p.w.cell? ⟨w.heap.size + 1 + 1, 0, none⟩ = some (.int .i64 l) := fun p => wi_cell p.h (B3.cell_ (i := 0) rfl)
  have j3 : ∀ p : LaterW w1, p.w.cell? ⟨w.heap.size + 1 + 1 + 1, 3, none⟩ = some (.int .i64 l) := fun p => wi_cell p.h (B4.cell_ q3F)
  have j4 : ∀ p : LaterW w1, p.w.cell? ⟨w.heap.size + 1 + 1 + 1, 4, none⟩ = some (.int .i64 b) := fun p => wi_cell p.h (B4.cell_ q4F)
  have j5 : ∀ p : LaterW w1, p.w.cell? ⟨w.heap.size + 1 + 1 + 1, 5, none⟩ = some (.int .i64 u) := fun p => wi_cell p.h (B4.cell_ q5F)
  have fk : w1.rangeAt (w.heap.size + 1 + 1 + 1) 6 (V.map u8v) := fun j v hj => B4.cell_ (qkF j v hj)
  have fq := range_later fk
  clear B1 B2 B3 B4 p0 p1 s0 q0 fk hX
  refine wp_region_later mixedW (by kernel_rfl) ?_
  repeat (first
    | ((with_reducible refine wpQuiet_step (fun K hK => ?_)); go_simp; first | ((with_reducible refine hK _ ?_); clear hK K) | (with_reducible apply Exists.intro; (with_reducible refine ⟨fun P => ?_, hK _ ?_⟩); (fail); clear hK K))
    | ((with_reducible refine BigFrame.wpQuiet_skip (by first | kernel_rfl | with_unfolding_all rfl) ?_); simp only [Act.put, List.setIfInBounds_toArray, List.set_cons_zero, List.set_cons_succ]))
  with_reducible refine wpQuiet_nil ?_
  intro _ hw9
  obtain ⟨P9, rfl⟩ := hw9
  go_wp2_with (fail)
  go_ret
  exact ⟨rfl, h4.trans (P9.h.mono h4.size)⟩

set_option maxRecDepth 100000 in
set_option maxHeartbeats 20000000 in
theorem wlhg_3G (n H : Nat) (s : List UInt8) (hs : s.length ≤ 1000) (X : Option Addr) (x cx : Nat) (Xs : List WiD) (hxn : Xs.length = x) (bx : x ≤ 1000) (a : List UInt8) (ha : a.length = 32) (L : Int) (A B C : Option Addr) (k1 k2 k3 c1 c2 c3 : Nat) (t v : List UInt8) (l b u : Int) (V : List UInt8) (hV : V.length = 32) (hl : l = L) (hb0 : 0 ≤ b) (hbn : b < n) (h256 : n ≤ 256) (hu9 : 0 ≤ u) (hD : 1 < u) (w : World) (hX : WiRd w X Xs) :
    Calls Tryz.prog 12 #[.agg #[.int .i64 n, .int .i64 H], .string (txt s), .slice X x cx, .agg (idVals a), .agg #[.int .i64 L, .slice A k1 c1, .slice B k2 c2, .slice C k3 c3], .agg (wtC 3 (txt t) (txt v) l b u V)] w fun e w' => e = .returned (.bool false) ∧ Below w.heap.size w w' := by
  subst hl
  have h1 := (Below.refl w.heap.size w).alloc (Nat.le_refl _) (.cells #[.int .i64 n, .int .i64 H] 29)
  have h2 := h1.alloc h1.size (.cells (idVals a) 24)
  have h3 := h2.alloc h2.size (.cells #[.int .i64 l, .slice A k1 c1, .slice B k2 c2, .slice C k3 c3] 27)
  have h4 := h3.alloc h3.size (.cells (wtC 3 (txt t) (txt v) l b u V) 32)
  have B1 := (((Blk.new w 29 #[.int .i64 n, .int .i64 H]).alloc (.cells (idVals a) 24)).alloc (.cells #[.int .i64 l, .slice A k1 c1, .slice B k2 c2, .slice C k3 c3] 27)).alloc (.cells (wtC 3 (txt t) (txt v) l b u V) 32)
  have B2 := ((Blk.new (w.alloc (.cells #[.int .i64 n, .int .i64 H] 29)) 24 (idVals a)).alloc (.cells #[.int .i64 l, .slice A k1 c1, .slice B k2 c2, .slice C k3 c3] 27)).alloc (.cells (wtC 3 (txt t) (txt v) l b u V) 32)
  have B3 := (Blk.new ((w.alloc (.cells #[.int .i64 n, .int .i64 H] 29)).alloc (.cells (idVals a) 24)) 27 #[.int .i64 l, .slice A k1 c1, .slice B k2 c2, .slice C k3 c3]).alloc (.cells (wtC 3 (txt t) (txt v) l b u V) 32)
  have B4 := Blk.new (((w.alloc (.cells #[.int .i64 n, .int .i64 H] 29)).alloc (.cells (idVals a) 24)).alloc (.cells #[.int .i64 l, .slice A k1 c1, .slice B k2 c2, .slice C k3 c3] 27)) 32 (wtC 3 (txt t) (txt v) l b u V)
  rw [World.size_alloc] at B2
  rw [World.size_alloc, World.size_alloc] at B3
  rw [World.size_alloc, World.size_alloc, World.size_alloc] at B4
  have hu := Tryz.underlying24
  have hza : (Tryz.prog.info? 24).map (·.size) = some (a.map u8v).length := by rw [List.length_map, ha]; exact sizeId
  have m1 : (0 : Int) ≤ b := hb0
  have m3 : b ≥ (0 : Int) := hb0
  have m2 : b < (n : Int) := hbn
  have m5 : (0 : Int) ≤ u := hu9
  have m6 : u ≥ (0 : Int) := hu9
  have m7 : ¬ u ≤ (1 : Int) := by omega
  have q0F := wtC_c0 3 (txt t) (txt v) l b u V
  have q3F := wtC_c3 3 (txt t) (txt v) l b u V
  have q4F := wtC_c4 3 (txt t) (txt v) l b u V
  have q5F := wtC_c5 3 (txt t) (txt v) l b u V
  have qkF := wtC_key 3 (txt t) (txt v) l b u V
  clear h1 h2 h3
  go_enter Tryz.func12, Tryz.ntmps12
  go_upto_region 1 with (fail)
  generalize ((((w.alloc (.cells #[.int .i64 n, .int .i64 H] 29)).alloc (.cells (idVals a) 24)).alloc (.cells #[.int .i64 l, .slice A k1 c1, .slice B k2 c2, .slice C k3 c3] 27)).alloc (.cells (wtC 3 (txt t) (txt v) l b u V) 32)) = w1 at *
  have p0 := B1.cell_ (i := 0) rfl
  have p1 := B1.cell_ (i := 1) rfl
  have s0 := B3.cell_ (i := 0) rfl
  have q0 := B4.cell_ q0F
  go_upto_region 7 with (first
    | fail)
  have j0 : ∀ p : LaterW w1, p.w.cell? ⟨w.heap.size, 0, none⟩ = some (.int .i64 n) := fun p => wi_cell p.h (B1.cell_ (i := 0) rfl)
  have jL : ∀ p : LaterW w1, p.w.cell? ⟨w.heap.size + 1 + 1, 0, none⟩ = some (.int .i64 l) := fun p => wi_cell p.h (B3.cell_ (i := 0) rfl)
  have j3 : ∀ p : LaterW w1, p.w.cell? ⟨w.heap.size + 1 + 1 + 1, 3, none⟩ = some (.int .i64 l) := fun p => wi_cell p.h (B4.cell_ q3F)
  have j4 : ∀ p : LaterW w1, p.w.cell? ⟨w.heap.size + 1 + 1 + 1, 4, none⟩ = some (.int .i64 b) := fun p => wi_cell p.h (B4.cell_ q4F)
  have j5 : ∀ p : LaterW w1, p.w.cell? ⟨w.heap.size + 1 + 1 + 1, 5, none⟩ = some (.int .i64 u) := fun p => wi_cell p.h (B4.cell_ q5F)
  have fk : w1.rangeAt (w.heap.size + 1 + 1 + 1) 6 (V.map u8v) := fun j v hj => B4.cell_ (qkF j v hj)
  have fq := range_later fk
  clear B1 B2 B3 B4 p0 p1 s0 q0 fk hX
  refine wp_region_later mixedW (by kernel_rfl) ?_
  repeat (first
    | ((with_reducible refine wpQuiet_step (fun K hK => ?_)); go_simp; first | ((with_reducible refine hK _ ?_); clear hK K) | (with_reducible apply Exists.intro; (with_reducible refine ⟨fun P => ?_, hK _ ?_⟩); (fail); clear hK K))
    | ((with_reducible refine BigFrame.wpQuiet_skip (by first | kernel_rfl | with_unfolding_all rfl) ?_); simp only [Act.put, List.setIfInBounds_toArray, List.set_cons_zero, List.set_cons_succ]))
  with_reducible refine wpQuiet_nil ?_
  intro _ hw9
  obtain ⟨P9, rfl⟩ := hw9
  go_wp2_with (fail)
  go_ret
  exact ⟨rfl, h4.trans (P9.h.mono h4.size)⟩

set_option maxRecDepth 100000 in
set_option maxHeartbeats 20000000 in
theorem wlhg_3E (n H : Nat) (s : List UInt8) (hs : s.length ≤ 1000) (X : Option Addr) (x cx : Nat) (Xs : List WiD) (hxn : Xs.length = x) (bx : x ≤ 1000) (a : List UInt8) (ha : a.length = 32) (L : Int) (A B C : Option Addr) (k1 k2 k3 c1 c2 c3 : Nat) (t v : List UInt8) (l b u : Int) (V : List UInt8) (hV : V.length = 32) (hl : l = L) (hb0 : 0 ≤ b) (hbn : b < n) (h256 : n ≤ 256) (hu0 : u = 0 ∨ u = 1) (hL : l ≤ 9223372036854775807) (hsw : shwB Xs l b.toNat u = true) (w : World) (hX : WiRd w X Xs) :
    Calls Tryz.prog 12 #[.agg #[.int .i64 n, .int .i64 H], .string (txt s), .slice X x cx, .agg (idVals a), .agg #[.int .i64 L, .slice A k1 c1, .slice B k2 c2, .slice C k3 c3], .agg (wtC 3 (txt t) (txt v) l b u V)] w fun e w' => e = .returned (.bool false) ∧ Below w.heap.size w w' := by
  subst hl
  have h1 := (Below.refl w.heap.size w).alloc (Nat.le_refl _) (.cells #[.int .i64 n, .int .i64 H] 29)
  have h2 := h1.alloc h1.size (.cells (idVals a) 24)
  have h3 := h2.alloc h2.size (.cells #[.int .i64 l, .slice A k1 c1, .slice B k2 c2, .slice C k3 c3] 27)
  have h4 := h3.alloc h3.size (.cells (wtC 3 (txt t) (txt v) l b u V) 32)
  have B1 := (((Blk.new w 29 #[.int .i64 n, .int .i64 H]).alloc (.cells (idVals a) 24)).alloc (.cells #[.int .i64 l, .slice A k1 c1, .slice B k2 c2, .slice C k3 c3] 27)).alloc (.cells (wtC 3 (txt t) (txt v) l b u V) 32)
  have B2 := ((Blk.new (w.alloc (.cells #[.int .i64 n, .int .i64 H] 29)) 24 (idVals a)).alloc (.cells #[.int .i64 l, .slice A k1 c1, .slice B k2 c2, .slice C k3 c3] 27)).alloc (.cells (wtC 3 (txt t) (txt v) l b u V) 32)
  have B3 := (Blk.new ((w.alloc (.cells #[.int .i64 n, .int .i64 H] 29)).alloc (.cells (idVals a) 24)) 27 #[.int .i64 l, .slice A k1 c1, .slice B k2 c2, .slice C k3 c3]).alloc (.cells (wtC 3 (txt t) (txt v) l b u V) 32)
  have B4 := Blk.new (((w.alloc (.cells #[.int .i64 n, .int .i64 H] 29)).alloc (.cells (idVals a) 24)).alloc (.cells #[.int .i64 l, .slice A k1 c1, .slice B k2 c2, .slice C k3 c3] 27)) 32 (wtC 3 (txt t) (txt v) l b u V)
  rw [World.size_alloc] at B2
  rw [World.size_alloc, World.size_alloc] at B3
  rw [World.size_alloc, World.size_alloc, World.size_alloc] at B4
  have hu := Tryz.underlying24
  have hza : (Tryz.prog.info? 24).map (·.size) = some (a.map u8v).length := by rw [List.length_map, ha]; exact sizeId
  have hzV : (Tryz.prog.info? 24).map (·.size) = some (V.map u8v).length := by rw [List.length_map, hV]; exact sizeId
  obtain ⟨K, hK0⟩ : ∃ K, secB s l b u = K := ⟨_, rfl⟩
  have hKl : K.length = 32 := by rw [← hK0]; exact secB_length _ _ _ _
  have cH : ∀ W, Below w.heap.size w W → Calls Tryz.prog 41 #[.slice X x cx, .int .i64 l, .int .i64 b, .int .i64 u] W fun e w' => e = .returned (.bool false) ∧ Below W.heap.size W w' := fun W hW => by
    obtain ⟨m, rfl⟩ : ∃ m : Nat, b = m := ⟨b.toNat, by omega⟩
    rw [Int.toNat_natCast] at hsw
    have h := wrhidden_any l m (by omega) u X x cx Xs hxn bx W (hX.below hW)
    skip
    rw [hsw] at h
    exact h
  clear hsw
  have m1 : (0 : Int) ≤ b := hb0
  have m3 : b ≥ (0 : Int) := hb0
  have m2 : b < (n : Int) := hbn
  have mu : u = 0 ∨ u = 1 := hu0
  clear hu0
  have q0F := wtC_c0 3 (txt t) (txt v) l b u V
  have q3F := wtC_c3 3 (txt t) (txt v) l b u V
  have q4F := wtC_c4 3 (txt t) (txt v) l b u V
  have q5F := wtC_c5 3 (txt t) (txt v) l b u V
  have qkF := wtC_key 3 (txt t) (txt v) l b u V
  clear h1 h2 h3
  go_enter Tryz.func12, Tryz.ntmps12
  go_upto_region 1 with (fail)
  generalize ((((w.alloc (.cells #[.int .i64 n, .int .i64 H] 29)).alloc (.cells (idVals a) 24)).alloc (.cells #[.int .i64 l, .slice A k1 c1, .slice B k2 c2, .slice C k3 c3] 27)).alloc (.cells (wtC 3 (txt t) (txt v) l b u V) 32)) = w1 at *
  have p0 := B1.cell_ (i := 0) rfl
  have p1 := B1.cell_ (i := 1) rfl
  have s0 := B3.cell_ (i := 0) rfl
  have q0 := B4.cell_ q0F
  go_upto_region 7 with (first
    | fail)
  have j0 : ∀ p : LaterW w1, p.w.cell? ⟨w.heap.size, 0, none⟩ = some (.int .i64 n) := fun p => wi_cell p.h (B1.cell_ (i := 0) rfl)
  have jL : ∀ p : LaterW w1, p.w.cell? ⟨w.heap.size + 1 + 1, 0, none⟩ = some (.int .i64 l) := fun p => wi_cell p.h (B3.cell_ (i := 0) rfl)
  have j3 : ∀ p : LaterW w1, p.w.cell? ⟨w.heap.size + 1 + 1 + 1, 3, none⟩ = some (.int .i64 l) := fun p => wi_cell p.h (B4.cell_ q3F)
  have j4 : ∀ p : LaterW w1, p.w.cell? ⟨w.heap.size + 1 + 1 + 1, 4, none⟩ = some (.int .i64 b) := fun p => wi_cell p.h (B4.cell_ q4F)
  have j5 : ∀ p : LaterW w1, p.w.cell? ⟨w.heap.size + 1 + 1 + 1, 5, none⟩ = some (.int .i64 u) := fun p => wi_cell p.h (B4.cell_ q5F)
  have fk : w1.rangeAt (w.heap.size + 1 + 1 + 1) 6 (V.map u8v) := fun j v hj => B4.cell_ (qkF j v hj)
  have fq := range_later fk
  have cH2 := fun (p : LaterW w1) => cH p.w (h4.trans (p.h.mono h4.size))
  clear cH
  clear B1 B2 B3 B4 p0 p1 s0 q0 fk hX
  rcases mu with rfl | rfl
  ·
    refine wp_region_later mixedW (by kernel_rfl) ?_
    repeat (first
      | ((with_reducible refine wpQuiet_load_if (by with_unfolding_all rfl) 24 _ rfl _ _ rfl (V.map u8v) _ fq hu (by with_unfolding_all rfl) hzV ?_); simp only [Act.put, List.setIfInBounds_toArray, List.set_cons_zero, List.set_cons_succ])
      | ((with_reducible refine wpQuiet_step (fun K hK => ?_)); go_simp; first | ((with_reducible refine hK _ ?_); clear hK K) | (with_reducible apply Exists.intro; (with_reducible refine ⟨fun P => ?_, hK _ ?_⟩); (first | (go_at_call 41; exact later_of (cH2 P))); clear hK K))
      | ((with_reducible refine BigFrame.wpQuiet_skip (by first | kernel_rfl | with_unfolding_all rfl) ?_); simp only [Act.put, List.setIfInBounds_toArray, List.set_cons_zero, List.set_cons_succ]))
    with_reducible refine wpQuiet_nil ?_
    intro _ hw9
    obtain ⟨P9, rfl⟩ := hw9
    go_wp2_with (fail)
    go_ret
    exact ⟨rfl, h4.trans (P9.h.mono h4.size)⟩
  ·
    refine wp_region_later mixedW (by kernel_rfl) ?_
    repeat (first
      | ((with_reducible refine wpQuiet_load_if (by with_unfolding_all rfl) 24 _ rfl _ _ rfl (V.map u8v) _ fq hu (by with_unfolding_all rfl) hzV ?_); simp only [Act.put, List.setIfInBounds_toArray, List.set_cons_zero, List.set_cons_succ])
      | ((with_reducible refine wpQuiet_step (fun K hK => ?_)); go_simp; first | ((with_reducible refine hK _ ?_); clear hK K) | (with_reducible apply Exists.intro; (with_reducible refine ⟨fun P => ?_, hK _ ?_⟩); (first | (go_at_call 41; exact later_of (cH2 P))); clear hK K))
      | ((with_reducible refine BigFrame.wpQuiet_skip (by first | kernel_rfl | with_unfolding_all rfl) ?_); simp only [Act.put, List.setIfInBounds_toArray, List.set_cons_zero, List.set_cons_succ]))
    with_reducible refine wpQuiet_nil ?_
    intro _ hw9
    obtain ⟨P9, rfl⟩ := hw9
    go_wp2_with (fail)
    go_ret
    exact ⟨rfl, h4.trans (P9.h.mono h4.size)⟩

set_option maxRecDepth 100000 in
set_option maxHeartbeats 20000000 in
theorem wlhg_3Z (n H : Nat) (s : List UInt8) (hs : s.length ≤ 1000) (X : Option Addr) (x cx : Nat) (Xs : List WiD) (hxn : Xs.length = x) (bx : x ≤ 1000) (a : List UInt8) (ha : a.length = 32) (L : Int) (A B C : Option Addr) (k1 k2 k3 c1 c2 c3 : Nat) (t v : List UInt8) (l b u : Int) (V : List UInt8) (hV : V.length = 32) (hl : l = L) (hb0 : 0 ≤ b) (hbn : b < n) (h256 : n ≤ 256) (hu0 : u = 0 ∨ u = 1) (hL : l ≤ 9223372036854775807) (hsw : shwB Xs l b.toNat u = false) (r : Bool) (hf : decide (pubB V = pubB (secB s l b u)) = r) (w : World) (hX : WiRd w X Xs) :
    Calls Tryz.prog 12 #[.agg #[.int .i64 n, .int .i64 H], .string (txt s), .slice X x cx, .agg (idVals a), .agg #[.int .i64 L, .slice A k1 c1, .slice B k2 c2, .slice C k3 c3], .agg (wtC 3 (txt t) (txt v) l b u V)] w fun e w' => e = .returned (.bool r) ∧ Below w.heap.size w w' := by
  subst hl
  have h1 := (Below.refl w.heap.size w).alloc (Nat.le_refl _) (.cells #[.int .i64 n, .int .i64 H] 29)
  have h2 := h1.alloc h1.size (.cells (idVals a) 24)
  have h3 := h2.alloc h2.size (.cells #[.int .i64 l, .slice A k1 c1, .slice B k2 c2, .slice C k3 c3] 27)
  have h4 := h3.alloc h3.size (.cells (wtC 3 (txt t) (txt v) l b u V) 32)
  have B1 := (((Blk.new w 29 #[.int .i64 n, .int .i64 H]).alloc (.cells (idVals a) 24)).alloc (.cells #[.int .i64 l, .slice A k1 c1, .slice B k2 c2, .slice C k3 c3] 27)).alloc (.cells (wtC 3 (txt t) (txt v) l b u V) 32)
  have B2 := ((Blk.new (w.alloc (.cells #[.int .i64 n, .int .i64 H] 29)) 24 (idVals a)).alloc (.cells #[.int .i64 l, .slice A k1 c1, .slice B k2 c2, .slice C k3 c3] 27)).alloc (.cells (wtC 3 (txt t) (txt v) l b u V) 32)
  have B3 := (Blk.new ((w.alloc (.cells #[.int .i64 n, .int .i64 H] 29)).alloc (.cells (idVals a) 24)) 27 #[.int .i64 l, .slice A k1 c1, .slice B k2 c2, .slice C k3 c3]).alloc (.cells (wtC 3 (txt t) (txt v) l b u V) 32)
  have B4 := Blk.new (((w.alloc (.cells #[.int .i64 n, .int .i64 H] 29)).alloc (.cells (idVals a) 24)).alloc (.cells #[.int .i64 l, .slice A k1 c1, .slice B k2 c2, .slice C k3 c3] 27)) 32 (wtC 3 (txt t) (txt v) l b u V)
  rw [World.size_alloc] at B2
  rw [World.size_alloc, World.size_alloc] at B3
  rw [World.size_alloc, World.size_alloc, World.size_alloc] at B4
  have hu := Tryz.underlying24
  have hza : (Tryz.prog.info? 24).map (·.size) = some (a.map u8v).length := by rw [List.length_map, ha]; exact sizeId
  have hzV : (Tryz.prog.info? 24).map (·.size) = some (V.map u8v).length := by rw [List.length_map, hV]; exact sizeId
  obtain ⟨K, hK0⟩ : ∃ K, secB s l b u = K := ⟨_, rfl⟩
  have hKl : K.length = 32 := by rw [← hK0]; exact secB_length _ _ _ _
  rw [hK0] at hf
  have hPV : (pubB V).length = 32 := pubB_length V
  have hPK : (pubB K).length = 32 := pubB_length K
  have cV : ∀ W : World, Calls Tryz.prog 42 #[.agg (List.map u8v V).toArray] W fun e w' => e = .returned (.agg (List.map u8v (pubB V)).toArray) ∧ Below W.heap.size W w' := fun W => rpublic_any V hV W
  have cK : ∀ W : World, Calls Tryz.prog 42 #[.agg (List.map u8v K).toArray] W fun e w' => e = .returned (.agg (List.map u8v (pubB K)).toArray) ∧ Below W.heap.size W w' := fun W => rpublic_any K hKl W
  have heq : ∀ W, (Op.equalIn 10000 24 (.agg (List.map u8v (pubB V)).toArray) (.agg (List.map u8v (pubB K)).toArray)).run Tryz.prog W = .ok r W := fun W => (ids_eq W _ _ hPV hPK).trans (by rw [hf])
  have cS : ∀ W : World, Calls Tryz.prog 20 #[.string (txt s), .int .i64 l, .int .i64 b, .int .i64 u] W fun e w' => e = .returned (.agg (List.map u8v K).toArray) ∧ Below W.heap.size W w' := fun W => by
    have h := rsecret_any s hs l b u W
    rw [hK0] at h
    exact h
  clear hf
  generalize pubB V = PV at *
  generalize pubB K = PK at *
  have cH : ∀ W, Below w.heap.size w W → Calls Tryz.prog 41 #[.slice X x cx, .int .i64 l, .int .i64 b, .int .i64 u] W fun e w' => e = .returned (.bool true) ∧ Below W.heap.size W w' := fun W hW => by
    obtain ⟨m, rfl⟩ : ∃ m : Nat, b = m := ⟨b.toNat, by omega⟩
    rw [Int.toNat_natCast] at hsw
    have h := wrhidden_any l m (by omega) u X x cx Xs hxn bx W (hX.below hW)
    skip
    rw [hsw] at h
    exact h
  clear hsw
  have m1 : (0 : Int) ≤ b := hb0
  have m3 : b ≥ (0 : Int) := hb0
  have m2 : b < (n : Int) := hbn
  have mu : u = 0 ∨ u = 1 := hu0
  clear hu0
  have q0F := wtC_c0 3 (txt t) (txt v) l b u V
  have q3F := wtC_c3 3 (txt t) (txt v) l b u V
  have q4F := wtC_c4 3 (txt t) (txt v) l b u V
  have q5F := wtC_c5 3 (txt t) (txt v) l b u V
  have qkF := wtC_key 3 (txt t) (txt v) l b u V
  clear h1 h2 h3
  go_enter Tryz.func12, Tryz.ntmps12
  go_upto_region 1 with (fail)
  generalize ((((w.alloc (.cells #[.int .i64 n, .int .i64 H] 29)).alloc (.cells (idVals a) 24)).alloc (.cells #[.int .i64 l, .slice A k1 c1, .slice B k2 c2, .slice C k3 c3] 27)).alloc (.cells (wtC 3 (txt t) (txt v) l b u V) 32)) = w1 at *
  have p0 := B1.cell_ (i := 0) rfl
  have p1 := B1.cell_ (i := 1) rfl
  have s0 := B3.cell_ (i := 0) rfl
  have q0 := B4.cell_ q0F
  go_upto_region 7 with (first
    | fail)
  have j0 : ∀ p : LaterW w1, p.w.cell? ⟨w.heap.size, 0, none⟩ = some (.int .i64 n) := fun p => wi_cell p.h (B1.cell_ (i := 0) rfl)
  have jL : ∀ p : LaterW w1, p.w.cell? ⟨w.heap.size + 1 + 1, 0, none⟩ = some (.int .i64 l) := fun p => wi_cell p.h (B3.cell_ (i := 0) rfl)
  have j3 : ∀ p : LaterW w1, p.w.cell? ⟨w.heap.size + 1 + 1 + 1, 3, none⟩ = some (.int .i64 l) := fun p => wi_cell p.h (B4.cell_ q3F)
  have j4 : ∀ p : LaterW w1, p.w.cell? ⟨w.heap.size + 1 + 1 + 1, 4, none⟩ = some (.int .i64 b) := fun p => wi_cell p.h (B4.cell_ q4F)
  have j5 : ∀ p : LaterW w1, p.w.cell? ⟨w.heap.size + 1 + 1 + 1, 5, none⟩ = some (.int .i64 u) := fun p => wi_cell p.h (B4.cell_ q5F)
  have fk : w1.rangeAt (w.heap.size + 1 + 1 + 1) 6 (V.map u8v) := fun j v hj => B4.cell_ (qkF j v hj)
  have fq := range_later fk
  have cH2 := fun (p : LaterW w1) => cH p.w (h4.trans (p.h.mono h4.size))
  clear cH
  clear B1 B2 B3 B4 p0 p1 s0 q0 fk hX
  rcases mu with rfl | rfl
  ·
    refine wp_region_later mixedW (by kernel_rfl) ?_
    repeat (first
      | ((with_reducible refine wpQuiet_load_if (by with_unfolding_all rfl) 24 _ rfl _ _ rfl (V.map u8v) _ fq hu (by with_unfolding_all rfl) hzV ?_); simp only [Act.put, List.setIfInBounds_toArray, List.set_cons_zero, List.set_cons_succ])
      | ((with_reducible refine wpQuiet_step (fun K hK => ?_)); go_simp; first | ((with_reducible refine hK _ ?_); clear hK K) | (with_reducible apply Exists.intro; (with_reducible refine ⟨fun P => ?_, hK _ ?_⟩); (first | (go_at_call 42; exact later_of (cV P.w)) | (go_at_call 42; exact later_of (cK P.w)) | (go_at_call 20; exact later_of (cS P.w)) | (go_at_call 41; exact later_of (cH2 P))); clear hK K))
      | ((with_reducible refine BigFrame.wpQuiet_skip (by first | kernel_rfl | with_unfolding_all rfl) ?_); simp only [Act.put, List.setIfInBounds_toArray, List.set_cons_zero, List.set_cons_succ]))
    with_reducible refine wpQuiet_nil ?_
    intro _ hw9
    obtain ⟨P9, rfl⟩ := hw9
    go_wp2_with (fail)
    go_ret
    exact ⟨rfl, h4.trans (P9.h.mono h4.size)⟩
  ·
    refine wp_region_later mixedW (by kernel_rfl) ?_
    repeat (first
      | ((with_reducible refine wpQuiet_load_if (by with_unfolding_all rfl) 24 _ rfl _ _ rfl (V.map u8v) _ fq hu (by with_unfolding_all rfl) hzV ?_); simp only [Act.put, List.setIfInBounds_toArray, List.set_cons_zero, List.set_cons_succ])
      | ((with_reducible refine wpQuiet_step (fun K hK => ?_)); go_simp; first | ((with_reducible refine hK _ ?_); clear hK K) | (with_reducible apply Exists.intro; (with_reducible refine ⟨fun P => ?_, hK _ ?_⟩); (first | (go_at_call 42; exact later_of (cV P.w)) | (go_at_call 42; exact later_of (cK P.w)) | (go_at_call 20; exact later_of (cS P.w)) | (go_at_call 41; exact later_of (cH2 P))); clear hK K))
      | ((with_reducible refine BigFrame.wpQuiet_skip (by first | kernel_rfl | with_unfolding_all rfl) ?_); simp only [Act.put, List.setIfInBounds_toArray, List.set_cons_zero, List.set_cons_succ]))
    with_reducible refine wpQuiet_nil ?_
    intro _ hw9
    obtain ⟨P9, rfl⟩ := hw9
    go_wp2_with (fail)
    go_ret
    exact ⟨rfl, h4.trans (P9.h.mono h4.size)⟩

set_option maxRecDepth 100000 in
set_option maxHeartbeats 20000000 in
theorem wlhg_0 (n H : Nat) (s : List UInt8) (hs : s.length ≤ 1000) (X : Option Addr) (x cx : Nat) (Xs : List WiD) (hxn : Xs.length = x) (bx : x ≤ 1000) (a : List UInt8) (ha : a.length = 32) (L : Int) (A B C : Option Addr) (k1 k2 k3 c1 c2 c3 : Nat) (t v : List UInt8) (l b u : Int) (V : List UInt8) (hV : V.length = 32) (k : Int) (hk1 : ¬ k = 1) (hk2 : ¬ k = 2) (hk3 : ¬ k = 3) (w : World) (hX : WiRd w X Xs) :
    Calls Tryz.prog 12 #[.agg #[.int .i64 n, .int .i64 H], .string (txt s), .slice X x cx, .agg (idVals a), .agg #[.int .i64 L, .slice A k1 c1, .slice B k2 c2, .slice C k3 c3], .agg (wtC k (txt t) (txt v) l b u V)] w fun e w' => e = .returned (.bool false) ∧ Below w.heap.size w w' := by
  have h1 := (Below.refl w.heap.size w).alloc (Nat.le_refl _) (.cells #[.int .i64 n, .int .i64 H] 29)
  have h2 := h1.alloc h1.size (.cells (idVals a) 24)
  have h3 := h2.alloc h2.size (.cells #[.int .i64 L, .slice A k1 c1, .slice B k2 c2, .slice C k3 c3] 27)
  have h4 := h3.alloc h3.size (.cells (wtC k (txt t) (txt v) l b u V) 32)
  have B1 := (((Blk.new w 29 #[.int .i64 n, .int .i64 H]).alloc (.cells (idVals a) 24)).alloc (.cells #[.int .i64 L, .slice A k1 c1, .slice B k2 c2, .slice C k3 c3] 27)).alloc (.cells (wtC k (txt t) (txt v) l b u V) 32)
  have B2 := ((Blk.new (w.alloc (.cells #[.int .i64 n, .int .i64 H] 29)) 24 (idVals a)).alloc (.cells #[.int .i64 L, .slice A k1 c1, .slice B k2 c2, .slice C k3 c3] 27)).alloc (.cells (wtC k (txt t) (txt v) l b u V) 32)
  have B3 := (Blk.new ((w.alloc (.cells #[.int .i64 n, .int .i64 H] 29)).alloc (.cells (idVals a) 24)) 27 #[.int .i64 L, .slice A k1 c1, .slice B k2 c2, .slice C k3 c3]).alloc (.cells (wtC k (txt t) (txt v) l b u V) 32)
  have B4 := Blk.new (((w.alloc (.cells #[.int .i64 n, .int .i64 H] 29)).alloc (.cells (idVals a) 24)).alloc (.cells #[.int .i64 L, .slice A k1 c1, .slice B k2 c2, .slice C k3 c3] 27)) 32 (wtC k (txt t) (txt v) l b u V)
  rw [World.size_alloc] at B2
  rw [World.size_alloc, World.size_alloc] at B3
  rw [World.size_alloc, World.size_alloc, World.size_alloc] at B4
  have hu := Tryz.underlying24
  have hza : (Tryz.prog.info? 24).map (·.size) = some (a.map u8v).length := by rw [List.length_map, ha]; exact sizeId
  have n1 : (k == 1) = false := by simpa using hk1
  have n2 : (k == 2) = false := by simpa using hk2
  have n3 : (k == 3) = false := by simpa using hk3
  have q0F := wtC_c0 k (txt t) (txt v) l b u V
  clear h1 h2 h3
  go_enter Tryz.func12, Tryz.ntmps12
  go_upto_region 1 with (fail)
  generalize ((((w.alloc (.cells #[.int .i64 n, .int .i64 H] 29)).alloc (.cells (idVals a) 24)).alloc (.cells #[.int .i64 L, .slice A k1 c1, .slice B k2 c2, .slice C k3 c3] 27)).alloc (.cells (wtC k (txt t) (txt v) l b u V) 32)) = w1 at *
  have p0 := B1.cell_ (i := 0) rfl
  have p1 := B1.cell_ (i := 1) rfl
  have s0 := B3.cell_ (i := 0) rfl
  have q0 := B4.cell_ q0F
  go_wp2_with (first
    | fail)
  go_ret
  exact ⟨rfl, h4⟩

end Go.Proofs.YticpdepbgcagaaaGreat

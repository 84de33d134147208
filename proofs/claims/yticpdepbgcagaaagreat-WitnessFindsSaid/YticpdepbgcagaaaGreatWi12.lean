
/- witness: whether a witness is what it says, where it is: of the law and of the program. -/
import Derived.Test.YticpdepbgcagaaaGreatWi11
import Derived.ChangeShapes
import Derived.Deep.DeepCutAuto
set_option linter.unusedSimpArgs false
set_option linter.unusedVariables false
namespace Go.Proofs.YticpdepbgcagaaaGreat
open Go.RowKit Go.Qc Go.Shelf
attribute [local go_sem] txt_size txt_append ib_fold
theorem wt3_c3 (l b s : Int) (K : List UInt8) : (wt3 l b s K)[3]? = some (.int .i64 l) := by unfold wt3 wtC; rw [Array.getElem?_append_left (by simp)]; rfl
theorem wt2_c0 (x y : ByteArray) : (wt2 x y)[0]? = some (.int .i64 2) := by unfold wt2 wtC; rw [Array.getElem?_append_left (by simp)]; rfl
theorem wt2_c1 (x y : ByteArray) : (wt2 x y)[1]? = some (.string x) := by unfold wt2 wtC; rw [Array.getElem?_append_left (by simp)]; rfl
theorem wt2_c2 (x y : ByteArray) : (wt2 x y)[2]? = some (.string y) := by unfold wt2 wtC; rw [Array.getElem?_append_left (by simp)]; rfl
theorem wt1_c0 : wt1[0]? = some (.int .i64 1) := by unfold wt1 wtC; rw [Array.getElem?_append_left (by simp)]; rfl

set_option maxRecDepth 100000 in
set_option maxHeartbeats 20000000 in
theorem wlholds_1 (n H : Nat) (s : List UInt8) (hs : s.length ≤ 1000) (X : Option Addr) (x cx : Nat) (Xs : List WiD) (hxn : Xs.length = x) (bx : x ≤ 1000) (a : List UInt8) (ha : a.length = 32) (L : Nat) (A B C : Option Addr) (k1 k2 k3 c1 c2 c3 : Nat) (hh : honB n Xs a L = true) (w : World) (hX : WiRd w X Xs) :
    Calls Tryz.prog 12 #[.agg #[.int .i64 n, .int .i64 H], .string (txt s), .slice X x cx, .agg (idVals a), .agg #[.int .i64 L, .slice A k1 c1, .slice B k2 c2, .slice C k3 c3], .agg wt1] w fun e w' => e = .returned (.bool true) ∧ Below w.heap.size w w' := by
  have h1 := (Below.refl w.heap.size w).alloc (Nat.le_refl _) (.cells #[.int .i64 n, .int .i64 H] 29)
  have h2 := h1.alloc h1.size (.cells (idVals a) 24)
  have h3 := h2.alloc h2.size (.cells #[.int .i64 L, .slice A k1 c1, .slice B k2 c2, .slice C k3 c3] 27)
  have h4 := h3.alloc h3.size (.cells wt1 32)
  have B1 := (((Blk.new w 29 #[.int .i64 n, .int .i64 H]).alloc (.cells (idVals a) 24)).alloc (.cells #[.int .i64 L, .slice A k1 c1, .slice B k2 c2, .slice C k3 c3] 27)).alloc (.cells wt1 32)
  have B2 := ((Blk.new (w.alloc (.cells #[.int .i64 n, .int .i64 H] 29)) 24 (idVals a)).alloc (.cells #[.int .i64 L, .slice A k1 c1, .slice B k2 c2, .slice C k3 c3] 27)).alloc (.cells wt1 32)
  have B3 := (Blk.new ((w.alloc (.cells #[.int .i64 n, .int .i64 H] 29)).alloc (.cells (idVals a) 24)) 27 #[.int .i64 L, .slice A k1 c1, .slice B k2 c2, .slice C k3 c3]).alloc (.cells wt1 32)
  have B4 := Blk.new (((w.alloc (.cells #[.int .i64 n, .int .i64 H] 29)).alloc (.cells (idVals a) 24)).alloc (.cells #[.int .i64 L, .slice A k1 c1, .slice B k2 c2, .slice C k3 c3] 27)) 32 wt1
  rw [World.size_alloc] at B2
  rw [World.size_alloc, World.size_alloc] at B3
  rw [World.size_alloc, World.size_alloc, World.size_alloc] at B4
  have hu := Tryz.underlying24
  have hza : (Tryz.prog.info? 24).map (·.size) = some (a.map u8v).length := by rw [List.length_map, ha]; exact sizeId
  have cH : ∀ W, Below w.heap.size w W → Calls Tryz.prog 17 #[.int .i64 n, .slice X x cx, .agg (List.map u8v a).toArray, .int .i64 L] W fun e w' => e = .returned (.bool true) ∧ Below W.heap.size W w' := fun W hW => by
    have h := wrhonest_any n a ha L X x cx Xs hxn bx W (hX.below hW)
    rw [hh] at h
    exact h
  have q0F := wt1_c0
  clear h1 h2 h3 hh
  go_enter Tryz.func12, Tryz.ntmps12
  go_upto_region 1 with (fail)
  generalize ((((w.alloc (.cells #[.int .i64 n, .int .i64 H] 29)).alloc (.cells (idVals a) 24)).alloc (.cells #[.int .i64 L, .slice A k1 c1, .slice B k2 c2, .slice C k3 c3] 27)).alloc (.cells wt1 32)) = w1 at *
  have p0 := B1.cell_ (i := 0) rfl
  have p1 := B1.cell_ (i := 1) rfl
  have s0 := B3.cell_ (i := 0) rfl
  have q0 := B4.cell_ q0F
  go_upto_region 3 with (first
    | fail)
  have fa := range_blk B2
  go_wp2_with (first
    | (with_reducible refine wpList_load_if (by with_unfolding_all rfl) 24 _ rfl _ _ rfl (a.map u8v) _ fa hu rfl hza ?_)
    | (go_at_call 17; (with_reducible refine (cH _ h4).mono ?_); rintro e3 w3 ⟨rfl, hb3⟩))
  go_ret
  exact ⟨rfl, h4.trans (hb3.mono h4.size)⟩

set_option maxRecDepth 100000 in
set_option maxHeartbeats 20000000 in
theorem wlholds_2 (n H : Nat) (s : List UInt8) (hs : s.length ≤ 1000) (X : Option Addr) (x cx : Nat) (Xs : List WiD) (hxn : Xs.length = x) (bx : x ≤ 1000) (a : List UInt8) (ha : a.length = 32) (L : Nat) (A B C : Option Addr) (k1 k2 k3 c1 c2 c3 : Nat) (t u : List UInt8) (htu : t ≠ u) (lt : t.length ≤ 1000000) (lu : u.length ≤ 1000000) (hsum : sumB t = sumB u) (w : World) (hX : WiRd w X Xs) :
    Calls Tryz.prog 12 #[.agg #[.int .i64 n, .int .i64 H], .string (txt s), .slice X x cx, .agg (idVals a), .agg #[.int .i64 L, .slice A k1 c1, .slice B k2 c2, .slice C k3 c3], .agg (wt2 (txt t) (txt u))] w fun e w' => e = .returned (.bool true) ∧ Below w.heap.size w w' := by
  have h1 := (Below.refl w.heap.size w).alloc (Nat.le_refl _) (.cells #[.int .i64 n, .int .i64 H] 29)
  have h2 := h1.alloc h1.size (.cells (idVals a) 24)
  have h3 := h2.alloc h2.size (.cells #[.int .i64 L, .slice A k1 c1, .slice B k2 c2, .slice C k3 c3] 27)
  have h4 := h3.alloc h3.size (.cells (wt2 (txt t) (txt u)) 32)
  have B1 := (((Blk.new w 29 #[.int .i64 n, .int .i64 H]).alloc (.cells (idVals a) 24)).alloc (.cells #[.int .i64 L, .slice A k1 c1, .slice B k2 c2, .slice C k3 c3] 27)).alloc (.cells (wt2 (txt t) (txt u)) 32)
  have B2 := ((Blk.new (w.alloc (.cells #[.int .i64 n, .int .i64 H] 29)) 24 (idVals a)).alloc (.cells #[.int .i64 L, .slice A k1 c1, .slice B k2 c2, .slice C k3 c3] 27)).alloc (.cells (wt2 (txt t) (txt u)) 32)
  have B3 := (Blk.new ((w.alloc (.cells #[.int .i64 n, .int .i64 H] 29)).alloc (.cells (idVals a) 24)) 27 #[.int .i64 L, .slice A k1 c1, .slice B k2 c2, .slice C k3 c3]).alloc (.cells (wt2 (txt t) (txt u)) 32)
  have B4 := Blk.new (((w.alloc (.cells #[.int .i64 n, .int .i64 H] 29)).alloc (.cells (idVals a) 24)).alloc (.cells #[.int .i64 L, .slice A k1 c1, .slice B k2 c2, .slice C k3 c3] 27)) 32 (wt2 (txt t) (txt u))
  rw [World.size_alloc] at B2
  rw [World.size_alloc, World.size_alloc] at B3
  rw [World.size_alloc, World.size_alloc, World.size_alloc] at B4
  have hu := Tryz.underlying24
  have hza : (Tryz.prog.info? 24).map (·.size) = some (a.map u8v).length := by rw [List.length_map, ha]; exact sizeId
  have hSl : (sumB u).length = 32 := sumB_length u
  have cT1 : ∀ W : World, Calls Tryz.prog 40 #[.string (txt t)] W fun e w' => e = .returned (.agg (List.map u8v (sumB u)).toArray) ∧ Below W.heap.size W w' := fun W => by
    have h := rsum_any t (by omega) W
    rw [hsum] at h
    exact h
  have cT2 : ∀ W : World, Calls Tryz.prog 40 #[.string (txt u)] W fun e w' => e = .returned (.agg (List.map u8v (sumB u)).toArray) ∧ Below W.heap.size W w' := fun W => rsum_any u (by omega) W
  have heq : ∀ W, (Op.equalIn 10000 24 (.agg (List.map u8v (sumB u)).toArray) (.agg (List.map u8v (sumB u)).toArray)).run Tryz.prog W = .ok true W := fun W => (ids_eq W _ _ hSl hSl).trans (by rw [decide_eq_true rfl])
  generalize sumB u = SS at *
  have hne2 : ((txt t).toList == (txt u).toList) = false := by rw [txt_toW, txt_toW]; simpa using htu
  have q0F := wt2_c0 (txt t) (txt u)
  have q1F := wt2_c1 (txt t) (txt u)
  have q2F := wt2_c2 (txt t) (txt u)
  generalize txt t = x0 at *
  generalize txt u = y0 at *
  clear h1 h2 h3 hX htu hsum
  go_enter Tryz.func12, Tryz.ntmps12
  go_upto_region 1 with (fail)
  generalize ((((w.alloc (.cells #[.int .i64 n, .int .i64 H] 29)).alloc (.cells (idVals a) 24)).alloc (.cells #[.int .i64 L, .slice A k1 c1, .slice B k2 c2, .slice C k3 c3] 27)).alloc (.cells (wt2 x0 y0) 32)) = w1 at *
  have p0 := B1.cell_ (i := 0) rfl
  have p1 := B1.cell_ (i := 1) rfl
  have s0 := B3.cell_ (i := 0) rfl
  have q0 := B4.cell_ q0F
  go_upto_region 5 with (first
    | fail)
  have j1 : ∀ p : LaterW w1, p.w.cell? ⟨w.heap.size + 1 + 1 + 1, 1, none⟩ = some (.string x0) := fun p => wi_cell p.h (B4.cell_ q1F)
  have j2 : ∀ p : LaterW w1, p.w.cell? ⟨w.heap.size + 1 + 1 + 1, 2, none⟩ = some (.string y0) := fun p => wi_cell p.h (B4.cell_ q2F)
  clear B1 B2 B3 B4 p0 p1 s0 q0
  refine wp_region_later mixedW (by kernel_rfl) ?_
  repeat (first
    | ((with_reducible refine wpQuiet_step (fun K hK => ?_)); go_simp; first | ((with_reducible refine hK _ ?_); clear hK K) | (with_reducible apply Exists.intro; (with_reducible refine ⟨fun P => ?_, hK _ ?_⟩); (first | (go_at_call 40; exact later_of (cT1 P.w)) | (go_at_call 40; exact later_of (cT2 P.w))); clear hK K))
    | ((with_reducible refine BigFrame.wpQuiet_skip (by first | kernel_rfl | with_unfolding_all rfl) ?_); simp only [Act.put, List.setIfInBounds_toArray, List.set_cons_zero, List.set_cons_succ]))
  with_reducible refine wpQuiet_nil ?_
  intro _ hw9
  obtain ⟨P9, rfl⟩ := hw9
  go_wp2_with (fail)
  go_ret
  exact ⟨rfl, h4.trans (P9.h.mono h4.size)⟩

set_option maxRecDepth 100000 in
set_option maxHeartbeats 20000000 in
theorem wlholds_3 (n H : Nat) (s : List UInt8) (hs : s.length ≤ 1000) (X : Option Addr) (x cx : Nat) (Xs : List WiD) (hxn : Xs.length = x) (bx : x ≤ 1000) (a : List UInt8) (ha : a.length = 32) (L : Nat) (A B C : Option Addr) (k1 k2 k3 c1 c2 c3 : Nat) (b : Nat) (hbn : b < n) (h256 : n ≤ 256) (hL : L ≤ 9223372036854775807) (u : Int) (hu0 : u = 0 ∨ u = 1) (V : List UInt8) (hV : V.length = 32) (hsw : shwB Xs L b u = false) (hpub : pubB V = pubB (secB s L b u)) (w : World) (hX : WiRd w X Xs) :
    Calls Tryz.prog 12 #[.agg #[.int .i64 n, .int .i64 H], .string (txt s), .slice X x cx, .agg (idVals a), .agg #[.int .i64 L, .slice A k1 c1, .slice B k2 c2, .slice C k3 c3], .agg (wt3 L b u V)] w fun e w' => e = .returned (.bool true) ∧ Below w.heap.size w w' := by
  have h1 := (Below.refl w.heap.size w).alloc (Nat.le_refl _) (.cells #[.int .i64 n, .int .i64 H] 29)
  have h2 := h1.alloc h1.size (.cells (idVals a) 24)
  have h3 := h2.alloc h2.size (.cells #[.int .i64 L, .slice A k1 c1, .slice B k2 c2, .slice C k3 c3] 27)
  have h4 := h3.alloc h3.size (.cells (wt3 L b u V) 32)
  have B1 := (((Blk.new w 29 #[.int .i64 n, .int .i64 H]).alloc (.cells (idVals a) 24)).alloc (.cells #[.int .i64 L, .slice A k1 c1, .slice B k2 c2, .slice C k3 c3] 27)).alloc (.cells (wt3 L b u V) 32)
  have B2 := ((Blk.new (w.alloc (.cells #[.int .i64 n, .int .i64 H] 29)) 24 (idVals a)).alloc (.cells #[.int .i64 L, .slice A k1 c1, .slice B k2 c2, .slice C k3 c3] 27)).alloc (.cells (wt3 L b u V) 32)
  have B3 := (Blk.new ((w.alloc (.cells #[.int .i64 n, .int .i64 H] 29)).alloc (.cells (idVals a) 24)) 27 #[.int .i64 L, .slice A k1 c1, .slice B k2 c2, .slice C k3 c3]).alloc (.cells (wt3 L b u V) 32)
  have B4 := Blk.new (((w.alloc (.cells #[.int .i64 n, .int .i64 H] 29)).alloc (.cells (idVals a) 24)).alloc (.cells #[.int .i64 L, .slice A k1 c1, .slice B k2 c2, .slice C k3 c3] 27)) 32 (wt3 L b u V)
  rw [World.size_alloc] at B2
  rw [World.size_alloc, World.size_alloc] at B3
  rw [World.size_alloc, World.size_alloc, World.size_alloc] at B4
  have hu := Tryz.underlying24
  have hza : (Tryz.prog.info? 24).map (·.size) = some (a.map u8v).length := by rw [List.length_map, ha]; exact sizeId
  have hzV : (Tryz.prog.info? 24).map (·.size) = some (V.map u8v).length := by rw [List.length_map, hV]; exact sizeId
  obtain ⟨K, hK0⟩ : ∃ K, secB s L b u = K := ⟨_, rfl⟩
  have hKl : K.length = 32 := by rw [← hK0]; exact secB_length _ _ _ _
  rw [hK0] at hpub
  have hPl : (pubB K).length = 32 := pubB_length K
  have cV : ∀ W : World, Calls Tryz.prog 42 #[.agg (List.map u8v V).toArray] W fun e w' => e = .returned (.agg (List.map u8v (pubB K)).toArray) ∧ Below W.heap.size W w' := fun W => by
    have h := rpublic_any V hV W
    rw [hpub] at h
    exact h
  have cK : ∀ W : World, Calls Tryz.prog 42 #[.agg (List.map u8v K).toArray] W fun e w' => e = .returned (.agg (List.map u8v (pubB K)).toArray) ∧ Below W.heap.size W w' := fun W => rpublic_any K hKl W
  have heq : ∀ W, (Op.equalIn 10000 24 (.agg (List.map u8v (pubB K)).toArray) (.agg (List.map u8v (pubB K)).toArray)).run Tryz.prog W = .ok true W := fun W => (ids_eq W _ _ hPl hPl).trans (by rw [decide_eq_true rfl])
  have cS : ∀ W : World, Calls Tryz.prog 20 #[.string (txt s), .int .i64 L, .int .i64 b, .int .i64 u] W fun e w' => e = .returned (.agg (List.map u8v K).toArray) ∧ Below W.heap.size W w' := fun W => by
    have h := rsecret_any s hs L b u W
    rw [hK0] at h
    exact h
  generalize pubB K = PK at *
  have b256 : b < 256 := by omega
  have cH : ∀ W, Below w.heap.size w W → Calls Tryz.prog 41 #[.slice X x cx, .int .i64 L, .int .i64 b, .int .i64 u] W fun e w' => e = .returned (.bool true) ∧ Below W.heap.size W w' := fun W hW => by
    have h := wrhidden_any L b b256 u X x cx Xs hxn bx W (hX.below hW)
    skip
    rw [hsw] at h
    exact h
  have q0F := wt3_c0 L b u V
  have q3F := wt3_c3 L b u V
  have q4F := wt3_c4 L b u V
  have q5F := wt3_c5 L b u V
  have qkF := wt3_key L b u V
  have m1 : (0 : Int) ≤ b := by omega
  have m2 : (b : Int) < n := by omega
  have m3 : (b : Int) ≥ 0 := m1
  have mu : u = 0 ∨ u = 1 := hu0
  clear h1 h2 h3 hK0 hsw hpub hu0 hbn
  go_enter Tryz.func12, Tryz.ntmps12
  go_upto_region 1 with (fail)
  generalize ((((w.alloc (.cells #[.int .i64 n, .int .i64 H] 29)).alloc (.cells (idVals a) 24)).alloc (.cells #[.int .i64 L, .slice A k1 c1, .slice B k2 c2, .slice C k3 c3] 27)).alloc (.cells (wt3 L b u V) 32)) = w1 at *
  have p0 := B1.cell_ (i := 0) rfl
  have p1 := B1.cell_ (i := 1) rfl
  have s0 := B3.cell_ (i := 0) rfl
  have q0 := B4.cell_ q0F
  go_upto_region 7 with (first
    | fail)
  have j0 : ∀ p : LaterW w1, p.w.cell? ⟨w.heap.size, 0, none⟩ = some (.int .i64 n) := fun p => wi_cell p.h (B1.cell_ (i := 0) rfl)
  have jL : ∀ p : LaterW w1, p.w.cell? ⟨w.heap.size + 1 + 1, 0, none⟩ = some (.int .i64 L) := fun p => wi_cell p.h (B3.cell_ (i := 0) rfl)
  have j3 : ∀ p : LaterW w1, p.w.cell? ⟨w.heap.size + 1 + 1 + 1, 3, none⟩ = some (.int .i64 L) := fun p => wi_cell p.h (B4.cell_ q3F)
  have j4 : ∀ p : LaterW w1, p.w.cell? ⟨w.heap.size + 1 + 1 + 1, 4, none⟩ = some (.int .i64 b) := fun p => wi_cell p.h (B4.cell_ q4F)
  have j5 : ∀ p : LaterW w1, p.w.cell? ⟨w.heap.size + 1 + 1 + 1, 5, none⟩ = some (.int .i64 u) := fun p => wi_cell p.h (B4.cell_ q5F)
  have fk : w1.rangeAt (w.heap.size + 1 + 1 + 1) 6 (V.map u8v) := fun j v hj => B4.cell_ (qkF j v hj)
  have fq := range_later fk
  have cH2 := fun (p : LaterW w1) => cH p.w (h4.trans (p.h.mono h4.size))
  clear B1 B2 B3 B4 p0 p1 s0 q0 fk cH hX
  rcases mu with rfl | rfl
  ·
    refine wp_region_later mixedW (by kernel_rfl) ?_
    repeat (first
      | ((with_reducible refine wpQuiet_load_if (by with_unfolding_all rfl) 24 _ rfl _ _ rfl (V.map u8v) _ fq hu (by with_unfolding_all rfl) hzV ?_); simp only [Act.put, List.setIfInBounds_toArray, List.set_cons_zero, List.set_cons_succ])
      | ((with_reducible refine wpQuiet_step (fun K hK => ?_)); go_simp; first | ((with_reducible refine hK _ ?_); clear hK K) | (with_reducible apply Exists.intro; (with_reducible refine ⟨fun P => ?_, hK _ ?_⟩); (first | (go_at_call 42; exact later_of (cV P.w)) | (go_at_call 42; exact later_of (cK P.w)) | (go_at_call 20; exact later_of (cS P.w)) | (go_at_call 41; exact later_of (cH2 P))); clear hK K))
      | ((with_reducible refine BigFrame.wpQuiet_skip (by first | kernel_rfl | with_unfolding_all rfl) ?_); simp only [Act.put, List.setIfInBounds_toArray, List.set_cons_zero, List.set_cons_succ]))
    with_reducible refine wpQuiet_nil ?_
    intro _ hw9
    obtain ⟨P9, rfl⟩ := hw9
    go_wp2_with (fail)
    go_ret
    exact ⟨rfl, h4.trans (P9.h.mono h4.size)⟩
  ·
    refine wp_region_later mixedW (by kernel_rfl) ?_
    repeat (first
      | ((with_reducible refine wpQuiet_load_if (by with_unfolding_all rfl) 24 _ rfl _ _ rfl (V.map u8v) _ fq hu (by with_unfolding_all rfl) hzV ?_); simp only [Act.put, List.setIfInBounds_toArray, List.set_cons_zero, List.set_cons_succ])
      | ((with_reducible refine wpQuiet_step (fun K hK => ?_)); go_simp; first | ((with_reducible refine hK _ ?_); clear hK K) | (with_reducible apply Exists.intro; (with_reducible refine ⟨fun P => ?_, hK _ ?_⟩); (first | (go_at_call 42; exact later_of (cV P.w)) | (go_at_call 42; exact later_of (cK P.w)) | (go_at_call 20; exact later_of (cS P.w)) | (go_at_call 41; exact later_of (cH2 P))); clear hK K))
      | ((with_reducible refine BigFrame.wpQuiet_skip (by first | kernel_rfl | with_unfolding_all rfl) ?_); simp only [Act.put, List.setIfInBounds_toArray, List.set_cons_zero, List.set_cons_succ]))
    with_reducible refine wpQuiet_nil ?_
    intro _ hw9
    obtain ⟨P9, rfl⟩ := hw9
    go_wp2_with (fail)
    go_ret
    exact ⟨rfl, h4.trans (P9.h.mono h4.size)⟩

set_option maxRecDepth 100000 in
set_option maxHeartbeats 20000000 in
theorem wpholds_1 (n H : Nat) (s : List UInt8) (hs : s.length ≤ 1000) (X : Option Addr) (x cx : Nat) (Xs : List WiD) (hxn : Xs.length = x) (bx : x ≤ 1000) (a : List UInt8) (ha : a.length = 32) (L : Nat) (A B C : Option Addr) (k1 k2 k3 c1 c2 c3 : Nat) (hh : honB n Xs a L = true) (hr : rgtP n H = true) (w : World) (hX : WiRd w X Xs) :
    Calls Tryz.prog 13 #[.agg #[.int .i64 n, .int .i64 H], .string (txt s), .slice X x cx, .agg (idVals a), .agg #[.int .i64 L, .slice A k1 c1, .slice B k2 c2, .slice C k3 c3], .agg wt1] w fun e w' => e = .returned (.bool true) ∧ Below w.heap.size w w' := by
  have h1 := (Below.refl w.heap.size w).alloc (Nat.le_refl _) (.cells #[.int .i64 n, .int .i64 H] 29)
  have h2 := h1.alloc h1.size (.cells (idVals a) 24)
  have h3 := h2.alloc h2.size (.cells #[.int .i64 L, .slice A k1 c1, .slice B k2 c2, .slice C k3 c3] 27)
  have h4 := h3.alloc h3.size (.cells wt1 32)
  have B1 := (((Blk.new w 29 #[.int .i64 n, .int .i64 H]).alloc (.cells (idVals a) 24)).alloc (.cells #[.int .i64 L, .slice A k1 c1, .slice B k2 c2, .slice C k3 c3] 27)).alloc (.cells wt1 32)
  have B2 := ((Blk.new (w.alloc (.cells #[.int .i64 n, .int .i64 H] 29)) 24 (idVals a)).alloc (.cells #[.int .i64 L, .slice A k1 c1, .slice B k2 c2, .slice C k3 c3] 27)).alloc (.cells wt1 32)
  have B3 := (Blk.new ((w.alloc (.cells #[.int .i64 n, .int .i64 H] 29)).alloc (.cells (idVals a) 24)) 27 #[.int .i64 L, .slice A k1 c1, .slice B k2 c2, .slice C k3 c3]).alloc (.cells wt1 32)
  have B4 := Blk.new (((w.alloc (.cells #[.int .i64 n, .int .i64 H] 29)).alloc (.cells (idVals a) 24)).alloc (.cells #[.int .i64 L, .slice A k1 c1, .slice B k2 c2, .slice C k3 c3] 27)) 32 wt1
  rw [World.size_alloc] at B2
  rw [World.size_alloc, World.size_alloc] at B3
  rw [World.size_alloc, World.size_alloc, World.size_alloc] at B4
  have hu := Tryz.underlying24
  have hza : (Tryz.prog.info? 24).map (·.size) = some (a.map u8v).length := by rw [List.length_map, ha]; exact sizeId
  have cR := fun W => kright_any n H W
  rw [hr] at cR
  have cH : ∀ W, Below w.heap.size w W → Calls Tryz.prog 32 #[.agg #[.int .i64 n, .int .i64 H], .slice X x cx, .agg (List.map u8v a).toArray, .int .i64 L] W fun e w' => e = .returned (.bool true) ∧ Below W.heap.size W w' := fun W hW => by
    have h := whonest_any n H a ha L X x cx Xs hxn bx W (hX.below hW)
    unfold honB at hh
    rw [hh] at h
    exact h
  have q0F := wt1_c0
  clear h1 h2 h3 hh
  go_enter Tryz.func13, Tryz.ntmps13
  go_upto_region 1 with (fail)
  generalize ((((w.alloc (.cells #[.int .i64 n, .int .i64 H] 29)).alloc (.cells (idVals a) 24)).alloc (.cells #[.int .i64 L, .slice A k1 c1, .slice B k2 c2, .slice C k3 c3] 27)).alloc (.cells wt1 32)) = w1 at *
  have p0 := B1.cell_ (i := 0) rfl
  have p1 := B1.cell_ (i := 1) rfl
  have s0 := B3.cell_ (i := 0) rfl
  have q0 := B4.cell_ q0F
  go_upto_region 5 with (first
    | (go_at_call 24; (with_reducible refine (cR _).mono ?_); rintro e1 w2 ⟨rfl, hb2⟩; replace h4 := h4.trans (hb2.mono h4.size); replace B1 := B1.below hb2; replace B2 := B2.below hb2; replace B3 := B3.below hb2; replace B4 := B4.below hb2; replace p0 := B1.cell_ (i := 0) rfl; replace p1 := B1.cell_ (i := 1) rfl; replace s0 := B3.cell_ (i := 0) rfl; replace q0 := B4.cell_ q0F)
)
  have fa := range_blk B2
  go_wp2_with (first
    | (with_reducible refine wpList_load_if (by with_unfolding_all rfl) 24 _ rfl _ _ rfl (a.map u8v) _ fa hu rfl hza ?_)
    | (go_at_call 32; (with_reducible refine (cH _ h4).mono ?_); rintro e3 w3 ⟨rfl, hb3⟩))
  go_ret
  exact ⟨rfl, h4.trans (hb3.mono h4.size)⟩

set_option maxRecDepth 100000 in
set_option maxHeartbeats 20000000 in
theorem wpholds_2 (n H : Nat) (s : List UInt8) (hs : s.length ≤ 1000) (X : Option Addr) (x cx : Nat) (Xs : List WiD) (hxn : Xs.length = x) (bx : x ≤ 1000) (a : List UInt8) (ha : a.length = 32) (L : Nat) (A B C : Option Addr) (k1 k2 k3 c1 c2 c3 : Nat) (t u : List UInt8) (htu : t ≠ u) (lt : t.length ≤ 1000000) (lu : u.length ≤ 1000000) (hsum : sumB t = sumB u) (hr : rgtP n H = true) (w : World) (hX : WiRd w X Xs) :
    Calls Tryz.prog 13 #[.agg #[.int .i64 n, .int .i64 H], .string (txt s), .slice X x cx, .agg (idVals a), .agg #[.int .i64 L, .slice A k1 c1, .slice B k2 c2, .slice C k3 c3], .agg (wt2 (txt t) (txt u))] w fun e w' => e = .returned (.bool true) ∧ Below w.heap.size w w' := by
  have h1 := (Below.refl w.heap.size w).alloc (Nat.le_refl _) (.cells #[.int .i64 n, .int .i64 H] 29)
  have h2 := h1.alloc h1.size (.cells (idVals a) 24)
  have h3 := h2.alloc h2.size (.cells #[.int .i64 L, .slice A k1 c1, .slice B k2 c2, .slice C k3 c3] 27)
  have h4 := h3.alloc h3.size (.cells (wt2 (txt t) (txt u)) 32)
  have B1 := (((Blk.new w 29 #[.int .i64 n, .int .i64 H]).alloc (.cells (idVals a) 24)).alloc (.cells #[.int .i64 L, .slice A k1 c1, .slice B k2 c2, .slice C k3 c3] 27)).alloc (.cells (wt2 (txt t) (txt u)) 32)
  have B2 := ((Blk.new (w.alloc (.cells #[.int .i64 n, .int .i64 H] 29)) 24 (idVals a)).alloc (.cells #[.int .i64 L, .slice A k1 c1, .slice B k2 c2, .slice C k3 c3] 27)).alloc (.cells (wt2 (txt t) (txt u)) 32)
  have B3 := (Blk.new ((w.alloc (.cells #[.int .i64 n, .int .i64 H] 29)).alloc (.cells (idVals a) 24)) 27 #[.int .i64 L, .slice A k1 c1, .slice B k2 c2, .slice C k3 c3]).alloc (.cells (wt2 (txt t) (txt u)) 32)
  have B4 := Blk.new (((w.alloc (.cells #[.int .i64 n, .int .i64 H] 29)).alloc (.cells (idVals a) 24)).alloc (.cells #[.int .i64 L, .slice A k1 c1, .slice B k2 c2, .slice C k3 c3] 27)) 32 (wt2 (txt t) (txt u))
  rw [World.size_alloc] at B2
  rw [World.size_alloc, World.size_alloc] at B3
  rw [World.size_alloc, World.size_alloc, World.size_alloc] at B4
  have hu := Tryz.underlying24
  have hza : (Tryz.prog.info? 24).map (·.size) = some (a.map u8v).length := by rw [List.length_map, ha]; exact sizeId
  have cR := fun W => kright_any n H W
  rw [hr] at cR
  have hSl : (sumB u).length = 32 := sumB_length u
  have cT1 : ∀ W : World, Calls Tryz.prog 43 #[.string (txt t)] W fun e w' => e = .returned (.agg (List.map u8v (sumB u)).toArray) ∧ Below W.heap.size W w' := fun W => by
    have h := sum_any t (by omega) W
    rw [hsum] at h
    exact h
  have cT2 : ∀ W : World, Calls Tryz.prog 43 #[.string (txt u)] W fun e w' => e = .returned (.agg (List.map u8v (sumB u)).toArray) ∧ Below W.heap.size W w' := fun W => sum_any u (by omega) W
  have heq : ∀ W, (Op.equalIn 10000 24 (.agg (List.map u8v (sumB u)).toArray) (.agg (List.map u8v (sumB u)).toArray)).run Tryz.prog W = .ok true W := fun W => (ids_eq W _ _ hSl hSl).trans (by rw [decide_eq_true rfl])
  generalize sumB u = SS at *
  have hne2 : ((txt t).toList == (txt u).toList) = false := by rw [txt_toW, txt_toW]; simpa using htu
  have q0F := wt2_c0 (txt t) (txt u)
  have q1F := wt2_c1 (txt t) (txt u)
  have q2F := wt2_c2 (txt t) (txt u)
  generalize txt t = x0 at *
  generalize txt u = y0 at *
  clear h1 h2 h3 hX htu hsum
  go_enter Tryz.func13, Tryz.ntmps13
  go_upto_region 1 with (fail)
  generalize ((((w.alloc (.cells #[.int .i64 n, .int .i64 H] 29)).alloc (.cells (idVals a) 24)).alloc (.cells #[.int .i64 L, .slice A k1 c1, .slice B k2 c2, .slice C k3 c3] 27)).alloc (.cells (wt2 x0 y0) 32)) = w1 at *
  have p0 := B1.cell_ (i := 0) rfl
  have p1 := B1.cell_ (i := 1) rfl
  have s0 := B3.cell_ (i := 0) rfl
  have q0 := B4.cell_ q0F
  go_upto_region 7 with (first
    | (go_at_call 24; (with_reducible refine (cR _).mono ?_); rintro e1 w2 ⟨rfl, hb2⟩; replace h4 := h4.trans (hb2.mono h4.size); replace B1 := B1.below hb2; replace B2 := B2.below hb2; replace B3 := B3.below hb2; replace B4 := B4.below hb2; replace p0 := B1.cell_ (i := 0) rfl; replace p1 := B1.cell_ (i := 1) rfl; replace s0 := B3.cell_ (i := 0) rfl; replace q0 := B4.cell_ q0F)
)
  have j1 : ∀ p : LaterW w2, p.w.cell? ⟨w.heap.size + 1 + 1 + 1, 1, none⟩ = some (.string x0) := fun p => wi_cell p.h (B4.cell_ q1F)
  have j2 : ∀ p : LaterW w2, p.w.cell? ⟨w.heap.size + 1 + 1 + 1, 2, none⟩ = some (.string y0) := fun p => wi_cell p.h (B4.cell_ q2F)
  clear B1 B2 B3 B4 p0 p1 s0 q0
  refine wp_region_later mixedW (by kernel_rfl) ?_
  repeat (first
    | ((with_reducible refine wpQuiet_step (fun K hK => ?_)); go_simp; first | ((with_reducible refine hK _ ?_); clear hK K) | (with_reducible apply Exists.intro; (with_reducible refine ⟨fun P => ?_, hK _ ?_⟩); (first | (go_at_call 43; exact later_of (cT1 P.w)) | (go_at_call 43; exact later_of (cT2 P.w))); clear hK K))
    | ((with_reducible refine BigFrame.wpQuiet_skip (by first | kernel_rfl | with_unfolding_all rfl) ?_); simp only [Act.put, List.setIfInBounds_toArray, List.set_cons_zero, List.set_cons_succ]))
  with_reducible refine wpQuiet_nil ?_
  intro _ hw9
  obtain ⟨P9, rfl⟩ := hw9
  go_wp2_with (fail)
  go_ret
  exact ⟨rfl, h4.trans (P9.h.mono h4.size)⟩

set_option maxRecDepth 100000 in
set_option maxHeartbeats 20000000 in
theorem wpholds_3 (n H : Nat) (s : List UInt8) (hs : s.length ≤ 1000) (X : Option Addr) (x cx : Nat) (Xs : List WiD) (hxn : Xs.length = x) (bx : x ≤ 1000) (a : List UInt8) (ha : a.length = 32) (L : Nat) (A B C : Option Addr) (k1 k2 k3 c1 c2 c3 : Nat) (b : Nat) (hbn : b < n) (h256 : n ≤ 256) (hL : L ≤ 9223372036854775807) (u : Int) (hu0 : u = 0 ∨ u = 1) (V : List UInt8) (hV : V.length = 32) (hsw : shwB Xs L b u = false) (hpub : pubB V = pubB (secB s L b u)) (hr : rgtP n H = true) (w : World) (hX : WiRd w X Xs) :
    Calls Tryz.prog 13 #[.agg #[.int .i64 n, .int .i64 H], .string (txt s), .slice X x cx, .agg (idVals a), .agg #[.int .i64 L, .slice A k1 c1, .slice B k2 c2, .slice C k3 c3], .agg (wt3 L b u V)] w fun e w' => e = .returned (.bool true) ∧ Below w.heap.size w w' := by
  have h1 := (Below.refl w.heap.size w).alloc (Nat.le_refl _) (.cells #[.int .i64 n, .int .i64 H] 29)
  have h2 := h1.alloc h1.size (.cells (idVals a) 24)
  have h3 := h2.alloc h2.size (.cells #[.int .i64 L, .slice A k1 c1, .slice B k2 c2, .slice C k3 c3] 27)
  have h4 := h3.alloc h3.size (.cells (wt3 L b u V) 32)
  have B1 := (((Blk.new w 29 #[.int .i64 n, .int .i64 H]).alloc (.cells (idVals a) 24)).alloc (.cells #[.int .i64 L, .slice A k1 c1, .slice B k2 c2, .slice C k3 c3] 27)).alloc (.cells (wt3 L b u V) 32)
  have B2 := ((Blk.new (w.alloc (.cells #[.int .i64 n, .int .i64 H] 29)) 24 (idVals a)).alloc (.cells #[.int .i64 L, .slice A k1 c1, .slice B k2 c2, .slice C k3 c3] 27)).alloc (.cells (wt3 L b u V) 32)
  have B3 := (Blk.new ((w.alloc (.cells #[.int .i64 n, .int .i64 H] 29)).alloc (.cells (idVals a) 24)) 27 #[.int .i64 L, .slice A k1 c1, .slice B k2 c2, .slice C k3 c3]).alloc (.cells (wt3 L b u V) 32)
  have B4 := Blk.new (((w.alloc (.cells #[.int .i64 n, .int .i64 H] 29)).alloc (.cells (idVals a) 24)).alloc (.cells #[.int .i64 L, .slice A k1 c1, .slice B k2 c2, .slice C k3 c3] 27)) 32 (wt3 L b u V)
  rw [World.size_alloc] at B2
  rw [World.size_alloc, World.size_alloc] at B3
  rw [World.size_alloc, World.size_alloc, World.size_alloc] at B4
  have hu := Tryz.underlying24
  have hza : (Tryz.prog.info? 24).map (·.size) = some (a.map u8v).length := by rw [List.length_map, ha]; exact sizeId
  have cR := fun W => kright_any n H W
  rw [hr] at cR
  have hzV : (Tryz.prog.info? 24).map (·.size) = some (V.map u8v).length := by rw [List.length_map, hV]; exact sizeId
  obtain ⟨K, hK0⟩ : ∃ K, secB s L b u = K := ⟨_, rfl⟩
  have hKl : K.length = 32 := by rw [← hK0]; exact secB_length _ _ _ _
  rw [hK0] at hpub
  have hPl : (pubB K).length = 32 := pubB_length K
  have cV : ∀ W : World, Calls Tryz.prog 44 #[.agg (List.map u8v V).toArray] W fun e w' => e = .returned (.agg (List.map u8v (pubB K)).toArray) ∧ Below W.heap.size W w' := fun W => by
    have h := public_any V hV W
    rw [hpub] at h
    exact h
  have cK : ∀ W : World, Calls Tryz.prog 44 #[.agg (List.map u8v K).toArray] W fun e w' => e = .returned (.agg (List.map u8v (pubB K)).toArray) ∧ Below W.heap.size W w' := fun W => public_any K hKl W
  have heq : ∀ W, (Op.equalIn 10000 24 (.agg (List.map u8v (pubB K)).toArray) (.agg (List.map u8v (pubB K)).toArray)).run Tryz.prog W = .ok true W := fun W => (ids_eq W _ _ hPl hPl).trans (by rw [decide_eq_true rfl])
  have cS : ∀ W : World, Calls Tryz.prog 45 #[.string (txt s), .int .i64 L, .int .i64 b, .int .i64 u] W fun e w' => e = .returned (.agg (List.map u8v K).toArray) ∧ Below W.heap.size W w' := fun W => by
    have h := secret_any s hs L b u (by omega) W
    rw [hK0] at h
    exact h
  generalize pubB K = PK at *
  have b256 : b < 256 := by omega
  have cH : ∀ W, Below w.heap.size w W → Calls Tryz.prog 34 #[.slice X x cx, .int .i64 L, .int .i64 b, .int .i64 u] W fun e w' => e = .returned (.bool false) ∧ Below W.heap.size W w' := fun W hW => by
    have h := wshowed_any L b b256 u X x cx Xs hxn bx W (hX.below hW)
    unfold shwB at hsw
    rw [hsw] at h
    exact h
  have q0F := wt3_c0 L b u V
  have q3F := wt3_c3 L b u V
  have q4F := wt3_c4 L b u V
  have q5F := wt3_c5 L b u V
  have qkF := wt3_key L b u V
  have m1 : (0 : Int) ≤ b := by omega
  have m2 : (b : Int) < n := by omega
  have m3 : (b : Int) ≥ 0 := m1
  have mu : u = 0 ∨ u = 1 := hu0
  clear h1 h2 h3 hK0 hsw hpub hu0 hbn
  go_enter Tryz.func13, Tryz.ntmps13
  go_upto_region 1 with (fail)
  generalize ((((w.alloc (.cells #[.int .i64 n, .int .i64 H] 29)).alloc (.cells (idVals a) 24)).alloc (.cells #[.int .i64 L, .slice A k1 c1, .slice B k2 c2, .slice C k3 c3] 27)).alloc (.cells (wt3 L b u V) 32)) = w1 at *
  have p0 := B1.cell_ (i := 0) rfl
  have p1 := B1.cell_ (i := 1) rfl
  have s0 := B3.cell_ (i := 0) rfl
  have q0 := B4.cell_ q0F
  go_upto_region 9 with (first
    | (go_at_call 24; (with_reducible refine (cR _).mono ?_); rintro e1 w2 ⟨rfl, hb2⟩; replace h4 := h4.trans (hb2.mono h4.size); replace B1 := B1.below hb2; replace B2 := B2.below hb2; replace B3 := B3.below hb2; replace B4 := B4.below hb2; replace p0 := B1.cell_ (i := 0) rfl; replace p1 := B1.cell_ (i := 1) rfl; replace s0 := B3.cell_ (i := 0) rfl; replace q0 := B4.cell_ q0F)
)
  have j0 : ∀ p : LaterW w2, p.w.cell? ⟨w.heap.size, 0, none⟩ = some (.int .i64 n) := fun p => wi_cell p.h (B1.cell_ (i := 0) rfl)
  have jL : ∀ p : LaterW w2, p.w.cell? ⟨w.heap.size + 1 + 1, 0, none⟩ = some (.int .i64 L) := fun p => wi_cell p.h (B3.cell_ (i := 0) rfl)
  have j3 : ∀ p : LaterW w2, p.w.cell? ⟨w.heap.size + 1 + 1 + 1, 3, none⟩ = some (.int .i64 L) := fun p => wi_cell p.h (B4.cell_ q3F)
  have j4 : ∀ p : LaterW w2, p.w.cell? ⟨w.heap.size + 1 + 1 + 1, 4, none⟩ = some (.int .i64 b) := fun p => wi_cell p.h (B4.cell_ q4F)
  have j5 : ∀ p : LaterW w2, p.w.cell? ⟨w.heap.size + 1 + 1 + 1, 5, none⟩ = some (.int .i64 u) := fun p => wi_cell p.h (B4.cell_ q5F)
  have fk : w2.rangeAt (w.heap.size + 1 + 1 + 1) 6 (V.map u8v) := fun j v hj => B4.cell_ (qkF j v hj)
  have fq := range_later fk
  have cH2 := fun (p : LaterW w2) => cH p.w (h4.trans (p.h.mono h4.size))
  clear B1 B2 B3 B4 p0 p1 s0 q0 fk cH hX
  rcases mu with rfl | rfl
  ·
    refine wp_region_later mixedW (by kernel_rfl) ?_
    repeat (first
      | ((with_reducible refine wpQuiet_load_if (by with_unfolding_all rfl) 24 _ rfl _ _ rfl (V.map u8v) _ fq hu (by with_unfolding_all rfl) hzV ?_); simp only [Act.put, List.setIfInBounds_toArray, List.set_cons_zero, List.set_cons_succ])
      | ((with_reducible refine wpQuiet_step (fun K hK => ?_)); go_simp; first | ((with_reducible refine hK _ ?_); clear hK K) | (with_reducible apply Exists.intro; (with_reducible refine ⟨fun P => ?_, hK _ ?_⟩); (first | (go_at_call 44; exact later_of (cV P.w)) | (go_at_call 44; exact later_of (cK P.w)) | (go_at_call 45; exact later_of (cS P.w)) | (go_at_call 34; exact later_of (cH2 P))); clear hK K))
      | ((with_reducible refine BigFrame.wpQuiet_skip (by first | kernel_rfl | with_unfolding_all rfl) ?_); simp only [Act.put, List.setIfInBounds_toArray, List.set_cons_zero, List.set_cons_succ]))
    with_reducible refine wpQuiet_nil ?_
    intro _ hw9
    obtain ⟨P9, rfl⟩ := hw9
    go_wp2_with (fail)
    go_ret
    exact ⟨rfl, h4.trans (P9.h.mono h4.size)⟩
  ·
    refine wp_region_later mixedW (by kernel_rfl) ?_
    repeat (first
      | ((with_reducible refine wpQuiet_load_if (by with_unfolding_all rfl) 24 _ rfl _ _ rfl (V.map u8v) _ fq hu (by with_unfolding_all rfl) hzV ?_); simp only [Act.put, List.setIfInBounds_toArray, List.set_cons_zero, List.set_cons_succ])
      | ((with_reducible refine wpQuiet_step (fun K hK => ?_)); go_simp; first | ((with_reducible refine hK _ ?_); clear hK K) | (with_reducible apply Exists.intro; (with_reducible refine ⟨fun P => ?_, hK _ ?_⟩); (first | (go_at_call 44; exact later_of (cV P.w)) | (go_at_call 44; exact later_of (cK P.w)) | (go_at_call 45; exact later_of (cS P.w)) | (go_at_call 34; exact later_of (cH2 P))); clear hK K))
      | ((with_reducible refine BigFrame.wpQuiet_skip (by first | kernel_rfl | with_unfolding_all rfl) ?_); simp only [Act.put, List.setIfInBounds_toArray, List.set_cons_zero, List.set_cons_succ]))
    with_reducible refine wpQuiet_nil ?_
    intro _ hw9
    obtain ⟨P9, rfl⟩ := hw9
    go_wp2_with (fail)
    go_ret
    exact ⟨rfl, h4.trans (P9.h.mono h4.size)⟩

end Go.Proofs.YticpdepbgcagaaaGreat


/- journal: the chain behind a frame; of the program and of the document. -/
import Derived.Test.YtemdmdgigmhlbaaGreatJn1
import Derived.Test.YtemdmdgigmhlbaaGreatPkW
set_option linter.unusedSimpArgs false
set_option linter.unusedVariables false
namespace Go.Proofs.YtemdmdgigmhlbaaGreat
open Go.RowKit Go.Qc Go.Shelf
attribute [local go_sem] txt_size txt_append ib_fold
/-- A chain's box, a frame's box, and an id's place behind it. -/
structure NxS (w : World) (ft : TypeId) (a : List UInt8) (k : Int) (p : List UInt8) (zc : Array Value) (W : World) : Prop where
  ba : Blk W w.heap.size 42 (idVals a)
  bf : Blk W (w.heap.size + 1) ft #[.int .i64 k, .string (txt p)]
  bz : Blk W (w.heap.size + 1 + 1) 42 zc
  hb : Below w.heap.size w W
theorem nx_start (w : World) (ft : TypeId) (a : List UInt8) (k : Int) (p : List UInt8) (zc : Array Value) :
    NxS w ft a k p zc (((w.alloc (.cells (idVals a) 42)).alloc (.cells #[.int .i64 k, .string (txt p)] ft)).alloc (.cells zc 42)) := by
  have h1 : (w.alloc (.cells (idVals a) 42)).heap.size = w.heap.size + 1 := by simp
  have h2 : ((w.alloc (.cells (idVals a) 42)).alloc (.cells #[.int .i64 k, .string (txt p)] ft)).heap.size = w.heap.size + 1 + 1 := by simp
  have b1 := (Blk.new (w.alloc (.cells (idVals a) 42)) ft #[.int .i64 k, .string (txt p)]).alloc (.cells zc 42)
  have b2 := Blk.new ((w.alloc (.cells (idVals a) 42)).alloc (.cells #[.int .i64 k, .string (txt p)] ft)) 42 zc
  rw [h1] at b1
  rw [h2] at b2
  exact ⟨((Blk.new w 42 (idVals a)).alloc _).alloc _, b1, b2, (((Below.refl _ _).alloc (Nat.le_refl _) _).alloc (by simp) _).alloc (by simp; omega) _⟩
/-- The same, kept along: what stands behind it is any id's. -/
structure NxH (w : World) (ft : TypeId) (a : List UInt8) (k : Int) (p : List UInt8) (W : World) : Prop where
  ba : Blk W w.heap.size 42 (idVals a)
  bf : Blk W (w.heap.size + 1) ft #[.int .i64 k, .string (txt p)]
  bz : ∃ cs, cs.size = 32 ∧ Blk W (w.heap.size + 1 + 1) 42 cs
  hb : Below w.heap.size w W
theorem NxS.held {w : World} {ft : TypeId} {a : List UInt8} {k : Int} {p : List UInt8} {zc : Array Value} {W : World} (h : NxS w ft a k p zc W) (hz : zc.size = 32) : NxH w ft a k p W := ⟨h.ba, h.bf, ⟨zc, hz, h.bz⟩, h.hb⟩
theorem NxH.below {w : World} {ft : TypeId} {a : List UInt8} {k : Int} {p : List UInt8} {W W' : World} (h : NxH w ft a k p W) (g : Below W.heap.size W W') : NxH w ft a k p W' :=
  ⟨h.ba.below g, h.bf.below g, h.bz.elim fun cs hc => ⟨cs, hc.1, hc.2.below g⟩, h.hb.trans (g.mono h.hb.size)⟩
theorem NxH.put {w : World} {ft : TypeId} {a : List UInt8} {k : Int} {p : List UInt8} {W W' : World} (h : NxH w ft a k p W) (g : W.grownBy W' (some (w.heap.size + 1 + 1))) {cs : Array Value} (hs : cs.size = 32) (hc : Blk W' (w.heap.size + 1 + 1) 42 cs) : NxH w ft a k p W' :=
  ⟨(g.block _ h.ba.lt (by intro e; have := Option.some.inj e; omega)).trans h.ba, (g.block _ h.bf.lt (by intro e; have := Option.some.inj e; omega)).trans h.bf, ⟨cs, hs, hc⟩, h.hb.grown g h.hb.size (by intro i e; cases e; omega)⟩
set_option maxRecDepth 100000 in
set_option maxHeartbeats 4000000 in
theorem next_arg (a : List UInt8) (k : Int) (p : List UInt8) (hk : k < 1 ∨ 255 < k) (w : World) :
    Calls Tryz.prog 43 #[.agg (idVals a), .agg #[.int .i64 k, .string (txt p)]] w fun e w' => e = .returned (.tuple #[.agg (idVals zeroB), .int .i64 1]) ∧ Below w.heap.size w w' := by
  have k1 : k < 1 → decide (k < 1) = true := fun h => decide_eq_true h
  go_enter Tryz.func43, Tryz.ntmps43
  go_upto_region 1 with (fail)
  rw [← zeroB_vals]
  obtain ⟨zc, hzc, hZ⟩ : ∃ zc : Array Value, zc.size = 32 ∧ zc = idVals zeroB := ⟨_, by rw [idVals_size]; decide, rfl⟩
  rw [← hZ]
  clear hZ
  have hS := nx_start w 34 a k p zc
  generalize ((w.alloc (.cells (idVals a) 42)).alloc (.cells #[.int .i64 k, .string (txt p)] 34)).alloc (.cells zc 42) = W at *
  have HZC := hid hzc
  have bz := hS.bz
  have hb := hS.hb
  have c0 : W.cell? ⟨w.heap.size + 1, 0, none⟩ = some (.int .i64 k) := hS.bf.cell_ rfl
  clear hzc hS
  rcases (Classical.em (k < 1)) with h1 | h1
  · go_wp2_with (with_reducible refine wpList_store_blk rfl 42 _ _ rfl (w.heap.size + 1 + 1) zc _ 42 bz rfl rfl ?c2 ?c3 ?c4 ?_)
    case c2 => first | exact sizeId | simpa using sizeId
    case c3 => exact HZC.out
    case c4 => first | rfl | (rw [← zeroB_vals]; exact idVals_one _)
    intro w7 hb7 hg7
    go_wp2
    refine bodyPost_ret (results_cellt rfl _ _ _ _ _ _ rfl hb7 Tryz.underlying42 rfl sizeId) rfl ⟨?_, ?_⟩
    · rw [zeroB_vals]; rfl
    · exact hb.grown hg7 hb.size (by intro i e; cases e; omega)
  · have h2 : 255 < k := by omega
    go_wp2_with (with_reducible refine wpList_store_blk rfl 42 _ _ rfl (w.heap.size + 1 + 1) zc _ 42 bz rfl rfl ?c2 ?c3 ?c4 ?_)
    case c2 => first | exact sizeId | simpa using sizeId
    case c3 => exact HZC.out
    case c4 => first | rfl | (rw [← zeroB_vals]; exact idVals_one _)
    intro w7 hb7 hg7
    go_wp2
    refine bodyPost_ret (results_cellt rfl _ _ _ _ _ _ rfl hb7 Tryz.underlying42 rfl sizeId) rfl ⟨?_, ?_⟩
    · rw [zeroB_vals]; rfl
    · exact hb.grown hg7 hb.size (by intro i e; cases e; omega)
/-- A byte's text. -/
theorem byte_text (W : World) (x : UInt8) : (convert 56 9 (.slice (some ⟨W.heap.size, 0, none⟩) 1 1)).run Tryz.prog (W.alloc (.cells #[.int .u8 (ib x)] 5)) = .ok (.string (txt [x])) (W.alloc (.cells #[.int .u8 (ib x)] 5)) :=
  run_txt (P := Tryz.prog) _ 56 9 5 _ 1 1 [x] Tryz.underlying56 Tryz.underlying5 Tryz.underlying9 rfl (Rd.blk (Blk.new _ _ _) (by
    intro j u h
    rw [List.getElem?_toArray]; exact h))
set_option maxRecDepth 100000 in
set_option maxHeartbeats 8000000 in
theorem next_ok (a : List UInt8) (ha : a.length = 32) (n : Nat) (hn1 : 1 ≤ n) (hn2 : n ≤ 255) (p : List UInt8) (hp : p.length ≤ 5000) (w : World) :
    Calls Tryz.prog 43 #[.agg (idVals a), .agg #[.int .i64 (n : Int), .string (txt p)]] w fun e w' => e = .returned (.tuple #[.agg (idVals (nxtB a ⟨n, p⟩)), .int .i64 0]) ∧ Below w.heap.size w w' := by
  have hSl := nxtB_length a ⟨n, p⟩
  obtain ⟨x, hx⟩ : ∃ x, x = kB ⟨n, p⟩ := ⟨_, rfl⟩
  have hxn : (n : Int) = ib x := by rw [hx]; exact ib_of_nat n (by omega)
  have cT : ∀ W A c, Rd W A ([a, [x], p].map strV) → Calls Tryz.prog 39 #[.string ⟨#[102, 114, 97, 109, 101]⟩, .slice A 3 c] W fun e w' => e = .returned (.tuple #[.agg (idVals (nxtB a ⟨n, p⟩)), .int .i64 0]) ∧ Below W.heap.size W w' := fun W A c h => by
    unfold nxtB
    rw [← hx]
    exact of_any frmN (by decide) A 3 c [a, [x], p] rfl (textB_frm _ _ _ ha rfl hp) W h
  generalize nxtB a ⟨n, p⟩ = S at *
  have HSL := hid hSl
  have hwx : IntKind.u8.wrap (n : Int) = ib x := by rw [← hxn]; unfold IntKind.wrap; simp [IntKind.bits, IntKind.signed]; omega
  have hI : (Tryz.prog.info? 42).map (·.size) = some (idVals S).size := by rw [idVals_size, HSL.out]; exact sizeId
  have h1c := idVals_one S
  clear hSl hx hxn
  have z1 : ¬ ((n : Int) < 1) := by omega
  have z2 : ¬ ((255 : Int) < n) := by omega
  have z3 : ¬ ((4194304 : Int) < (p.length : Int)) := by omega
  have z4 : ¬ (4194304 < p.length) := by omega
  go_enter Tryz.func43, Tryz.ntmps43
  go_upto_region 1 with (fail)
  rw [← zeroB_vals]
  obtain ⟨zc, hzc, hZ⟩ : ∃ zc : Array Value, zc.size = 32 ∧ zc = idVals zeroB := ⟨_, by rw [idVals_size]; decide, rfl⟩
  rw [← hZ]
  clear hZ
  have hS := nx_start w 34 a n p zc
  generalize ((w.alloc (.cells (idVals a) 42)).alloc (.cells #[.int .i64 (n : Int), .string (txt p)] 34)).alloc (.cells zc 42) = W at *
  have HZC := hid hzc
  have c0 : W.cell? ⟨w.heap.size + 1, 0, none⟩ = some (.int .i64 (n : Int)) := hS.bf.cell_ rfl
  have c1 : W.cell? ⟨w.heap.size + 1, 1, none⟩ = some (.string (txt p)) := hS.bf.cell_ rfl
  clear hzc
  go_upto_region 5 with (fail)
  clear c0 c1 z1 z2 z3 z4
  refine wp_region_held_drew (S := NxH w 34 a (n : Int) p) (by kernel_rfl) ?_ (fun hHeld => ?_)
  · exact (hS.held HZC.out).below (below_drew1 W)
  clear hS
  generalize W.drew = V at *
  refine' wpAnyH_take (i := 0) (v := .slice (some ⟨w.heap.size, 0, none⟩) 32 32) rfl (by kernel_rfl) (by kernel_rfl) (by kernel_rfl) (fun _ _ _ h => h) (Or.inl ⟨by rfl, fun w' hw' => by go_simp⟩) hHeld ?_
  try simp only [Act.put, List.getElem_toArray, List.getElem_cons_succ, List.getElem_cons_zero, List.setIfInBounds_toArray, List.set_cons_zero, List.set_cons_succ]
  refine' wpAnyH_take (i := 1) (v := .string (txt a)) rfl (by kernel_rfl) (by kernel_rfl) (by kernel_rfl) (fun _ _ _ h => h) (Or.inl ⟨by rfl, fun w' hw' => by have hv := id_text w' w.heap.size a ha (range_blk hw'.ba); go_simp⟩) hHeld ?_
  try simp only [Act.put, List.getElem_toArray, List.getElem_cons_succ, List.getElem_cons_zero, List.setIfInBounds_toArray, List.set_cons_zero, List.set_cons_succ]
  refine' wpAnyH_take (i := 2) (v := .pointer (some ⟨w.heap.size + 1, 0, none⟩)) rfl (by kernel_rfl) (by kernel_rfl) (by kernel_rfl) (fun _ _ _ h => h) (Or.inl ⟨by rfl, fun w' hw' => by go_simp⟩) hHeld ?_
  try simp only [Act.put, List.getElem_toArray, List.getElem_cons_succ, List.getElem_cons_zero, List.setIfInBounds_toArray, List.set_cons_zero, List.set_cons_succ]
  refine' wpAnyH_take (i := 3) (v := .int .i64 (n : Int)) rfl (by kernel_rfl) (by kernel_rfl) (by kernel_rfl) (fun _ _ _ h => h) (Or.inl ⟨by rfl, fun w' hw' => by have q0 : w'.cell? ⟨w.heap.size + 1, 0, none⟩ = some (.int .i64 (n : Int)) := hw'.bf.cell_ rfl; have q1 : w'.cell? ⟨w.heap.size + 1, 1, none⟩ = some (.string (txt p)) := hw'.bf.cell_ rfl; go_simp⟩) hHeld ?_
  try simp only [Act.put, List.getElem_toArray, List.getElem_cons_succ, List.getElem_cons_zero, List.setIfInBounds_toArray, List.set_cons_zero, List.set_cons_succ]
  refine' wpAnyH_take (i := 4) (v := .int .u8 (ib x)) rfl (by kernel_rfl) (by kernel_rfl) (by kernel_rfl) (fun _ _ _ h => h) (Or.inl ⟨by rfl, fun w' hw' => by have q2 := hwx; go_simp⟩) hHeld ?_
  try simp only [Act.put, List.getElem_toArray, List.getElem_cons_succ, List.getElem_cons_zero, List.setIfInBounds_toArray, List.set_cons_zero, List.set_cons_succ]
  refine' wpAnyH_take (i := 7) (v := .pointer (some ⟨w.heap.size + 1, 1, none⟩)) rfl (by kernel_rfl) (by kernel_rfl) (by kernel_rfl) (fun _ _ _ h => h) (Or.inl ⟨by rfl, fun w' hw' => by go_simp⟩) hHeld ?_
  try simp only [Act.put, List.getElem_toArray, List.getElem_cons_succ, List.getElem_cons_zero, List.setIfInBounds_toArray, List.set_cons_zero, List.set_cons_succ]
  refine' wpAnyH_take (i := 8) (v := .string (txt p)) rfl (by kernel_rfl) (by kernel_rfl) (by kernel_rfl) (fun _ _ _ h => h) (Or.inl ⟨by rfl, fun w' hw' => by have q0 : w'.cell? ⟨w.heap.size + 1, 0, none⟩ = some (.int .i64 (n : Int)) := hw'.bf.cell_ rfl; have q1 : w'.cell? ⟨w.heap.size + 1, 1, none⟩ = some (.string (txt p)) := hw'.bf.cell_ rfl; go_simp⟩) hHeld ?_
  try simp only [Act.put, List.getElem_toArray, List.getElem_cons_succ, List.getElem_cons_zero, List.setIfInBounds_toArray, List.set_cons_zero, List.set_cons_succ]
  refine wpAnyH_ready (rs := [5]) (by kernel_rfl) (by simp) ?_
  refine AllReadyH.cons rfl (fun K hK => ?_) AllReadyH.nil
  have hal := (Below.refl V.heap.size V).alloc (Nat.le_refl _) (.cells #[.int .u8 (ib x)] 5)
  have hbt := byte_text V x
  go_simp
  refine hK.out _ _ (hHeld.below hal) (fun hHeld => ?_)
  clear hK K
  try simp only [Act.put, List.getElem_toArray, List.getElem_cons_succ, List.getElem_cons_zero, List.setIfInBounds_toArray, List.set_cons_zero, List.set_cons_succ]
  refine wpAnyH_ready (rs := [6]) (by kernel_rfl) (by simp) ?_
  refine AllReadyH.cons rfl (fun K hK => ?_) AllReadyH.nil
  go_simp
  refine hK.out _ _ hHeld (fun hHeld => ?_)
  clear hK K hbt
  try simp only [Act.put, List.getElem_toArray, List.getElem_cons_succ, List.getElem_cons_zero, List.setIfInBounds_toArray, List.set_cons_zero, List.set_cons_succ]
  generalize V.alloc (.cells #[.int .u8 (ib x)] 5) = V1 at *
  clear hal
  refine wpAnyH_ready (rs := [9]) (by kernel_rfl) (by simp) ?_
  refine AllReadyH.cons rfl (fun K hK => ?_) AllReadyH.nil
  have hal := (Below.refl V1.heap.size V1).alloc (Nat.le_refl _) (.cells #[.string (txt a), .string (txt [x]), .string (txt p)] 9)
  have hRd := rd_threeJ V1 a [x] p
  go_simp
  refine hK.out _ _ (hHeld.below hal) (fun hHeld => ?_)
  clear hK K
  try simp only [Act.put, List.getElem_toArray, List.getElem_cons_succ, List.getElem_cons_zero, List.setIfInBounds_toArray, List.set_cons_zero, List.set_cons_succ]
  refine wpAnyH_ready (rs := [10]) (by kernel_rfl) (by simp) ?_
  refine AllReadyH.cons rfl (fun K hK => ?_) AllReadyH.nil
  go_simp
  (with_reducible refine (cT _ _ _ hRd).mono ?_)
  rintro e5 w5 ⟨rfl, hb5⟩
  refine hK.out _ _ (hHeld.below hb5) (fun hHeld => ?_)
  clear hK K
  try simp only [Act.put, List.getElem_toArray, List.getElem_cons_succ, List.getElem_cons_zero, List.setIfInBounds_toArray, List.set_cons_zero, List.set_cons_succ]
  refine' wpAnyH_take (i := 11) (v := .agg (idVals S)) rfl (by kernel_rfl) (by kernel_rfl) (by kernel_rfl) (fun _ _ _ h => h) (Or.inl ⟨by rfl, fun w' hw' => by go_simp⟩) hHeld ?_
  try simp only [Act.put, List.getElem_toArray, List.getElem_cons_succ, List.getElem_cons_zero, List.setIfInBounds_toArray, List.set_cons_zero, List.set_cons_succ]
  refine' wpAnyH_take (i := 12) (v := .int .i64 0) rfl (by kernel_rfl) (by kernel_rfl) (by kernel_rfl) (fun _ _ _ h => h) (Or.inl ⟨by rfl, fun w' hw' => by go_simp⟩) hHeld ?_
  try simp only [Act.put, List.getElem_toArray, List.getElem_cons_succ, List.getElem_cons_zero, List.setIfInBounds_toArray, List.set_cons_zero, List.set_cons_succ]
  refine wpAnyH_ready (rs := [13]) (by kernel_rfl) (by simp) ?_
  refine AllReadyH.cons rfl (fun K hK => ?_) AllReadyH.nil
  obtain ⟨cs9, hc9, hz9⟩ := hHeld.bz
  refine wp_store_blk 42 _ _ rfl (w.heap.size + 1 + 1) _ (idVals S) 42 hz9 rfl rfl hI (hc9.trans (HSL.out.symm.trans (idVals_size S).symm)) h1c ?_
  intro w7 hb7 hg7
  refine hK.out _ _ (hHeld.put hg7 ((idVals_size S).trans HSL.out) hb7) (fun hHeld => ?_)
  clear hK K
  try simp only [Act.put, List.getElem_toArray, List.getElem_cons_succ, List.getElem_cons_zero, List.setIfInBounds_toArray, List.set_cons_zero, List.set_cons_succ]
  refine wpAnyH_ready (rs := [14]) (by kernel_rfl) (by simp) ?_
  refine AllReadyH.cons rfl (fun K hK => ?_) AllReadyH.nil
  go_simp
  refine hK.out _ _ hHeld (fun hHeld => ?_)
  clear hK K
  try simp only [Act.put, List.getElem_toArray, List.getElem_cons_succ, List.getElem_cons_zero, List.setIfInBounds_toArray, List.set_cons_zero, List.set_cons_succ]
  refine wpAnyH_done (by kernel_rfl) ?_ _
  go_wp2
  refine bodyPost_ret (results_cellt rfl _ _ _ _ _ _ rfl hb7 Tryz.underlying42 rfl hI) rfl ⟨rfl, hHeld.hb⟩
end Go.Proofs.YtemdmdgigmhlbaaGreat

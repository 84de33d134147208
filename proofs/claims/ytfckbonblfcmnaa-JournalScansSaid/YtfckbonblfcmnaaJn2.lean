/- journal: the chain at first, and the one behind a frame; of the program and of the document. -/
import Derived.Test.YtfckbonblfcmnaaJn0
import Derived.Test.YtfckbonblfcmnaaTag6
import Derived.Test.YtfckbonblfcmnaaMkA
import Derived.Test.YtfckbonblfcmnaaPkW
set_option linter.unusedSimpArgs false
set_option linter.unusedVariables false
namespace Go.Proofs.Ytfckbonblfcmnaa
open Go.RowKit Go.Qc Go.Shelf
attribute [local go_sem] txt_size txt_append ib_fold
def jouN : List UInt8 := [106, 111, 117, 114, 110, 97, 108]
def frmN : List UInt8 := [102, 114, 97, 109, 101]
def kB (X : FmD) : UInt8 := UInt8.ofNat X.k.toNat
/-- The chain at first, and behind a frame. -/
def begB : List UInt8 := tagB jouN []
def nxtB (c : List UInt8) (X : FmD) : List UInt8 := tagB frmN [c, [kB X], X.p]
theorem begB_length : begB.length = 32 := tagB_length _ _
theorem nxtB_length (c : List UInt8) (X : FmD) : (nxtB c X).length = 32 := tagB_length _ _
theorem rd_threeJ (w : World) (a b c : List UInt8) : Rd (w.alloc (.cells #[.string (txt a), .string (txt b), .string (txt c)] 9)) (some ⟨w.heap.size, 0, none⟩) ([a, b, c].map strV) := Rd.blk (Blk.new _ _ _) (by
  intro j u h
  rw [List.getElem?_toArray]; exact h)
theorem textB_frm (c q p : List UInt8) (hc : c.length = 32) (hq : q.length = 1) (hp : p.length ≤ 5000) : (textB frmN [c, q, p]).length ≤ 1000000000000 :=
  textB_ids frmN (by decide) _ (by simp only [List.map_cons, List.map_nil, List.sum_cons, List.sum_nil, List.length_cons, List.length_nil]; omega)
set_option maxRecDepth 100000 in
set_option maxHeartbeats 1000000 in
theorem begin_any (w : World) : Calls Try.prog 17 #[] w fun e w' => e = .returned (.agg (idVals begB)) ∧ Below w.heap.size w w' := by
  have hSl : begB.length = 32 := begB_length
  have c1 : ∀ W : World, Calls Try.prog 19 #[.string ⟨#[106, 111, 117, 114, 110, 97, 108]⟩, .slice none 0 0] W fun e w' => e = .returned (.tuple #[.agg (idVals begB), .int .i64 0]) ∧ Below W.heap.size W w' := fun W => of_any jouN (by decide) none 0 0 [] rfl (textB_ids _ (by decide) _ (by simp)) W (Rd.nil_ _ _)
  generalize begB = S at *
  have HSL := hid hSl
  have HC := hid c1
  clear hSl c1
  go_enter Try.func17, Try.ntmps17
  go_wp2_with (fail)
  generalize hZ : (Obj.cells _ 23) = Z
  obtain ⟨zc, rfl, hzc⟩ : ∃ zc : Array Value, Z = Obj.cells zc 23 ∧ zc.size = 32 := ⟨_, hZ.symm, rfl⟩
  clear hZ
  have hR0 := Blk.new w 23 zc
  have hB0 : Below w.heap.size w (w.alloc (.cells zc 23)) := (Below.refl _ _).alloc (Nat.le_refl _) _
  refine (HC.out _).mono ?_
  rintro e1 w1 ⟨rfl, hB1⟩
  replace hR0 := hR0.below hB1
  have hB := hB0.trans (hB1.mono hB0.size)
  have hlt := hR0.lt
  have HZC := hid hzc
  clear hzc hB0 hB1
  have hN : ∀ cs : Array Value, Blk (w1.alloc (.cells cs 23)) w1.heap.size 23 cs := fun cs => Blk.new _ _ _
  have hI : (Try.prog.info? 23).map (·.size) = some (idVals S).size := by rw [idVals_size, HSL.out]; exact sizeId
  have hL : (Try.prog.info? 23).map (·.size) = some (S.map u8v).length := by rw [List.length_map, HSL.out]; exact sizeId
  have hu := Try.underlying23
  have h1c := idVals_one S
  have hI2 : (Try.prog.info? 23).map (·.size) = some (List.map u8v S).toArray.size := hI
  have h1d : (List.map u8v S).toArray.all (·.oneCell') = true := h1c
  go_wp2_with (first
    | (with_reducible refine wpList_store_blk rfl 23 _ _ rfl w1.heap.size _ (idVals S) 23 (hN _) rfl rfl hI ?c3 h1c ?_))
  case c3 => rw [idVals_size, HSL.out]; rfl
  intro w7 hb7 hg7
  have hb3 : Blk w7 w.heap.size 23 zc := (hg7.block _ (by simp; omega) (by intro e; have := Option.some.inj e; omega)).trans (hR0.alloc _)
  have hr7 := range_blk hb7
  have hB7 : Below w.heap.size w w7 := (hB.alloc (Nat.le_of_lt hlt) _).grown hg7 (by simp; omega) (by intro i e; cases e; omega)
  go_wp2_with (first
    | (with_reducible refine wpList_load_if (by with_unfolding_all rfl) 23 _ rfl _ _ rfl (S.map u8v) _ hr7 hu rfl hL ?_)
    | (with_reducible refine wpList_store_blk rfl 23 _ _ rfl w.heap.size _ (List.map u8v S).toArray 23 hb3 rfl rfl hI2 ?c4 h1d ?_))
  case c4 => exact HZC.out.trans (HSL.out.symm.trans (idVals_size S).symm)
  intro w8 hb8 hg8
  go_wp2
  refine bodyPost_ret (results_cell_row rfl _ _ _ _ _ _ _ rfl hb8 Try.underlying23 rfl hI) rfl ⟨rfl, ?_⟩
  exact hB7.grown hg8 hB7.size (by intro i e; cases e; exact Nat.le_refl _)
set_option maxRecDepth 100000 in
set_option maxHeartbeats 1000000 in
theorem rbegin_any (w : World) : Calls Try.prog 18 #[] w fun e w' => e = .returned (.agg (idVals begB)) ∧ Below w.heap.size w w' := by
  have hSl : begB.length = 32 := begB_length
  have c1 : ∀ W : World, Calls Try.prog 21 #[.string ⟨#[106, 111, 117, 114, 110, 97, 108]⟩, .slice none 0 0] W fun e w' => e = .returned (.agg (idVals begB)) ∧ Below W.heap.size W w' := fun W => rof_any jouN (by decide) none 0 0 [] rfl (textB_ids _ (by decide) _ (by simp)) W (Rd.nil_ _ _)
  generalize begB = S at *
  have HSL := hid hSl
  have HC := hid c1
  clear hSl c1
  go_enter Try.func18, Try.ntmps18
  go_wp2_with (fail)
  generalize hZ : (Obj.cells _ 23) = Z
  obtain ⟨zc, rfl, hzc⟩ : ∃ zc : Array Value, Z = Obj.cells zc 23 ∧ zc.size = 32 := ⟨_, hZ.symm, rfl⟩
  clear hZ
  have hR0 := Blk.new w 23 zc
  have hB0 : Below w.heap.size w (w.alloc (.cells zc 23)) := (Below.refl _ _).alloc (Nat.le_refl _) _
  refine (HC.out _).mono ?_
  rintro e1 w1 ⟨rfl, hB1⟩
  replace hR0 := hR0.below hB1
  have hB := hB0.trans (hB1.mono hB0.size)
  have hI : (Try.prog.info? 23).map (·.size) = some (idVals S).size := by rw [idVals_size, HSL.out]; exact sizeId
  have HZC := hid hzc
  clear hzc hB0 hB1
  have h1c := idVals_one S
  go_wp2_with (first
    | (with_reducible refine wpList_store_blk rfl 23 _ _ rfl w.heap.size _ (idVals S) 23 hR0 rfl rfl hI ?c4 h1c ?_))
  case c4 => exact HZC.out.trans (HSL.out.symm.trans (idVals_size S).symm)
  intro w8 hb8 hg8
  go_wp2
  refine bodyPost_ret (results_cell_row rfl _ _ _ _ _ _ _ rfl hb8 Try.underlying23 rfl hI) rfl ⟨rfl, ?_⟩
  exact hB.grown hg8 hB.size (by intro i e; cases e; exact Nat.le_refl _)
end Go.Proofs.Ytfckbonblfcmnaa
/- journal: the chain behind a frame; of the program and of the document. -/
set_option linter.unusedSimpArgs false
set_option linter.unusedVariables false
namespace Go.Proofs.Ytfckbonblfcmnaa
open Go.RowKit Go.Qc Go.Shelf
attribute [local go_sem] txt_size txt_append ib_fold
/-- A chain's box, a frame's box, and an id's place behind it. -/
structure NxS (w : World) (ft : TypeId) (a : List UInt8) (k : Int) (p : List UInt8) (zc : Array Value) (W : World) : Prop where
  ba : Blk W w.heap.size 23 (idVals a)
  bf : Blk W (w.heap.size + 1) ft #[.int .i64 k, .string (txt p)]
  bz : Blk W (w.heap.size + 1 + 1) 23 zc
  hb : Below w.heap.size w W
theorem nx_start (w : World) (ft : TypeId) (a : List UInt8) (k : Int) (p : List UInt8) (zc : Array Value) :
    NxS w ft a k p zc (((w.alloc (.cells (idVals a) 23)).alloc (.cells #[.int .i64 k, .string (txt p)] ft)).alloc (.cells zc 23)) := by
  have h1 : (w.alloc (.cells (idVals a) 23)).heap.size = w.heap.size + 1 := by simp
  have h2 : ((w.alloc (.cells (idVals a) 23)).alloc (.cells #[.int .i64 k, .string (txt p)] ft)).heap.size = w.heap.size + 1 + 1 := by simp
  have b1 := (Blk.new (w.alloc (.cells (idVals a) 23)) ft #[.int .i64 k, .string (txt p)]).alloc (.cells zc 23)
  have b2 := Blk.new ((w.alloc (.cells (idVals a) 23)).alloc (.cells #[.int .i64 k, .string (txt p)] ft)) 23 zc
  rw [h1] at b1
  rw [h2] at b2
  exact ⟨((Blk.new w 23 (idVals a)).alloc _).alloc _, b1, b2, (((Below.refl _ _).alloc (Nat.le_refl _) _).alloc (by simp) _).alloc (by simp; omega) _⟩
/-- The same, kept along: what stands behind it is any id's. -/
structure NxH (w : World) (ft : TypeId) (a : List UInt8) (k : Int) (p : List UInt8) (W : World) : Prop where
  ba : Blk W w.heap.size 23 (idVals a)
  bf : Blk W (w.heap.size + 1) ft #[.int .i64 k, .string (txt p)]
  bz : ∃ cs, cs.size = 32 ∧ Blk W (w.heap.size + 1 + 1) 23 cs
  hb : Below w.heap.size w W
theorem NxS.held {w : World} {ft : TypeId} {a : List UInt8} {k : Int} {p : List UInt8} {zc : Array Value} {W : World} (h : NxS w ft a k p zc W) (hz : zc.size = 32) : NxH w ft a k p W := ⟨h.ba, h.bf, ⟨zc, hz, h.bz⟩, h.hb⟩
theorem NxH.below {w : World} {ft : TypeId} {a : List UInt8} {k : Int} {p : List UInt8} {W W' : World} (h : NxH w ft a k p W) (g : Below W.heap.size W W') : NxH w ft a k p W' :=
  ⟨h.ba.below g, h.bf.below g, h.bz.elim fun cs hc => ⟨cs, hc.1, hc.2.below g⟩, h.hb.trans (g.mono h.hb.size)⟩
theorem NxH.put {w : World} {ft : TypeId} {a : List UInt8} {k : Int} {p : List UInt8} {W W' : World} (h : NxH w ft a k p W) (g : W.grownBy W' (some (w.heap.size + 1 + 1))) {cs : Array Value} (hs : cs.size = 32) (hc : Blk W' (w.heap.size + 1 + 1) 23 cs) : NxH w ft a k p W' :=
  ⟨(g.block _ h.ba.lt (by intro e; have := Option.some.inj e; omega)).trans h.ba, (g.block _ h.bf.lt (by intro e; have := Option.some.inj e; omega)).trans h.bf, ⟨cs, hs, hc⟩, h.hb.grown g h.hb.size (by intro i e; cases e; omega)⟩
set_option maxRecDepth 100000 in
set_option maxHeartbeats 4000000 in
theorem next_arg (a : List UInt8) (k : Int) (p : List UInt8) (hk : k < 1 ∨ 255 < k) (w : World) :
    Calls Try.prog 7 #[.agg (idVals a), .agg #[.int .i64 k, .string (txt p)]] w fun e w' => e = .returned (.tuple #[.agg (idVals zeroB), .int .i64 1]) ∧ Below w.heap.size w w' := by
  have k1 : k < 1 → decide (k < 1) = true := fun h => decide_eq_true h
  go_enter Try.func7, Try.ntmps7
  go_upto_region 1 with (fail)
  rw [← zeroB_vals]
  obtain ⟨zc, hzc, hZ⟩ : ∃ zc : Array Value, zc.size = 32 ∧ zc = idVals zeroB := ⟨_, by rw [idVals_size]; decide, rfl⟩
  rw [← hZ]
  clear hZ
  have hS := nx_start w 30 a k p zc
  generalize ((w.alloc (.cells (idVals a) 23)).alloc (.cells #[.int .i64 k, .string (txt p)] 30)).alloc (.cells zc 23) = W at *
  have HZC := hid hzc
  have bz := hS.bz
  have hb := hS.hb
  have c0 : W.cell? ⟨w.heap.size + 1, 0, none⟩ = some (.int .i64 k) := hS.bf.cell_ rfl
  clear hzc hS
  rcases (Classical.em (k < 1)) with h1 | h1
  · go_wp2_with (with_reducible refine wpList_store_blk rfl 23 _ _ rfl (w.heap.size + 1 + 1) zc _ 23 bz rfl rfl ?c2 ?c3 ?c4 ?_)
    case c2 => first | exact sizeId | simpa using sizeId
    case c3 => exact HZC.out
    case c4 => first | rfl | (rw [← zeroB_vals]; exact idVals_one _)
    intro w7 hb7 hg7
    go_wp2
    refine bodyPost_ret (results_cellt rfl _ _ _ _ _ _ rfl hb7 Try.underlying23 rfl sizeId) rfl ⟨?_, ?_⟩
    · rw [zeroB_vals]; rfl
    · exact hb.grown hg7 hb.size (by intro i e; cases e; omega)
  · have h2 : 255 < k := by omega
    go_wp2_with (with_reducible refine wpList_store_blk rfl 23 _ _ rfl (w.heap.size + 1 + 1) zc _ 23 bz rfl rfl ?c2 ?c3 ?c4 ?_)
    case c2 => first | exact sizeId | simpa using sizeId
    case c3 => exact HZC.out
    case c4 => first | rfl | (rw [← zeroB_vals]; exact idVals_one _)
    intro w7 hb7 hg7
    go_wp2
    refine bodyPost_ret (results_cellt rfl _ _ _ _ _ _ rfl hb7 Try.underlying23 rfl sizeId) rfl ⟨?_, ?_⟩
    · rw [zeroB_vals]; rfl
    · exact hb.grown hg7 hb.size (by intro i e; cases e; omega)
/-- A byte's text. -/
theorem byte_text (W : World) (x : UInt8) : (convert 51 9 (.slice (some ⟨W.heap.size, 0, none⟩) 1 1)).run Try.prog (W.alloc (.cells #[.int .u8 (ib x)] 5)) = .ok (.string (txt [x])) (W.alloc (.cells #[.int .u8 (ib x)] 5)) :=
  run_txt (P := Try.prog) _ 51 9 5 _ 1 1 [x] Try.underlying51 Try.underlying5 Try.underlying9 rfl (Rd.blk (Blk.new _ _ _) (by
    intro j u h
    rw [List.getElem?_toArray]; exact h))
set_option maxRecDepth 100000 in
set_option maxHeartbeats 8000000 in
theorem next_ok (a : List UInt8) (ha : a.length = 32) (n : Nat) (hn1 : 1 ≤ n) (hn2 : n ≤ 255) (p : List UInt8) (hp : p.length ≤ 5000) (w : World) :
    Calls Try.prog 7 #[.agg (idVals a), .agg #[.int .i64 (n : Int), .string (txt p)]] w fun e w' => e = .returned (.tuple #[.agg (idVals (nxtB a ⟨n, p⟩)), .int .i64 0]) ∧ Below w.heap.size w w' := by
  have hSl := nxtB_length a ⟨n, p⟩
  obtain ⟨x, hx⟩ : ∃ x, x = kB ⟨n, p⟩ := ⟨_, rfl⟩
  have hxn : (n : Int) = ib x := by rw [hx]; exact ib_of_nat n (by omega)
  have cT : ∀ W A c, Rd W A ([a, [x], p].map strV) → Calls Try.prog 19 #[.string ⟨#[102, 114, 97, 109, 101]⟩, .slice A 3 c] W fun e w' => e = .returned (.tuple #[.agg (idVals (nxtB a ⟨n, p⟩)), .int .i64 0]) ∧ Below W.heap.size W w' := fun W A c h => by
    unfold nxtB
    rw [← hx]
    exact of_any frmN (by decide) A 3 c [a, [x], p] rfl (textB_frm _ _ _ ha rfl hp) W h
  generalize nxtB a ⟨n, p⟩ = S at *
  have HSL := hid hSl
  have hwx : IntKind.u8.wrap (n : Int) = ib x := by rw [← hxn]; unfold IntKind.wrap; simp [IntKind.bits, IntKind.signed]; omega
  have hI : (Try.prog.info? 23).map (·.size) = some (idVals S).size := by rw [idVals_size, HSL.out]; exact sizeId
  have h1c := idVals_one S
  clear hSl hx hxn
  have z1 : ¬ ((n : Int) < 1) := by omega
  have z2 : ¬ ((255 : Int) < n) := by omega
  have z3 : ¬ ((4194304 : Int) < (p.length : Int)) := by omega
  have z4 : ¬ (4194304 < p.length) := by omega
  go_enter Try.func7, Try.ntmps7
  go_upto_region 1 with (fail)
  rw [← zeroB_vals]
  obtain ⟨zc, hzc, hZ⟩ : ∃ zc : Array Value, zc.size = 32 ∧ zc = idVals zeroB := ⟨_, by rw [idVals_size]; decide, rfl⟩
  rw [← hZ]
  clear hZ
  have hS := nx_start w 30 a n p zc
  generalize ((w.alloc (.cells (idVals a) 23)).alloc (.cells #[.int .i64 (n : Int), .string (txt p)] 30)).alloc (.cells zc 23) = W at *
  have HZC := hid hzc
  have c0 : W.cell? ⟨w.heap.size + 1, 0, none⟩ = some (.int .i64 (n : Int)) := hS.bf.cell_ rfl
  have c1 : W.cell? ⟨w.heap.size + 1, 1, none⟩ = some (.string (txt p)) := hS.bf.cell_ rfl
  clear hzc
  go_upto_region 5 with (fail)
  clear c0 c1 z1 z2 z3 z4
  refine wp_region_held_drew (S := NxH w 30 a (n : Int) p) (by kernel_rfl) ?_ (fun hHeld => ?_)
  · exact (hS.held HZC.out).below (below_drew1 W)
  clear hS
  generalize W.drew = V at *
  refine' wpAnyH_take (i := 0) (v := .slice (some ⟨w.heap.size, 0, none⟩) 32 32) rfl (by kernel_rfl) (by kernel_rfl) (by kernel_rfl) (fun _ _ _ h => h) (Or.inl ⟨by rfl, fun w' hw' => by go_simp⟩) hHeld ?_
  try simp only [Act.put, List.getElem_toArray, List.getElem_cons_succ, List.getElem_cons_zero, List.setIfInBounds_toArray, List.set_cons_zero, List.set_cons_succ]
  refine' wpAnyH_take (i := 1) (v := .string (txt a)) rfl (by kernel_rfl) (by kernel_rfl) (by kernel_rfl) (fun _ _ _ h => h) (Or.inl ⟨by rfl, fun w' hw' => by have hv := id_text w' w.heap.size a ha (range_blk hw'.ba); go_simp⟩) hHeld ?_
  try simp only [Act.put, List.getElem_toArray, List.getElem_cons_succ, List.getElem_cons_zero, List.setIfInBounds_toArray, List.set_cons_zero, List.set_cons_succ]
  refine' wpAnyH_take (i := 2) (v := .pointer (some ⟨w.heap.size + 1, 0, none⟩)) rfl (by kernel_rfl) (by kernel_rfl) (by kernel_rfl) (fun _ _ _ h => h) (Or.inl ⟨by rfl, fun w' hw' => by go_simp⟩) hHeld ?_
  try simp only [Act.put, List.getElem_toArray, List.getElem_cons_succ, List.getElem_cons_zero, List.setIfInBounds_toArray, List.set_cons_zero, List.set_cons_succ]
  refine' wpAnyH_take (i := 3) (v := .int .i64 (n : Int)) rfl (by kernel_rfl) (by kernel_rfl) (by kernel_rfl) (fun _ _ _ h => h) (Or.inl ⟨by rfl, fun w' hw' => by have q0 : w'.cell? ⟨w.heap.size + 1, 0, none⟩ = some (.int .i64 (n : Int)) := hw'.bf.cell_ rfl; have q1 : w'.cell? ⟨w.heap.size + 1, 1, none⟩ = some (.string (txt p)) := hw'.bf.cell_ rfl; go_simp⟩) hHeld ?_
  try simp only [Act.put, List.getElem_toArray, List.getElem_cons_succ, List.getElem_cons_zero, List.setIfInBounds_toArray, List.set_cons_zero, List.set_cons_succ]
  refine' wpAnyH_take (i := 4) (v := .int .u8 (ib x)) rfl (by kernel_rfl) (by kernel_rfl) (by kernel_rfl) (fun _ _ _ h => h) (Or.inl ⟨by rfl, fun w' hw' => by have q2 := hwx; go_simp⟩) hHeld ?_
  try simp only [Act.put, List.getElem_toArray, List.getElem_cons_succ, List.getElem_cons_zero, List.setIfInBounds_toArray, List.set_cons_zero, List.set_cons_succ]
  refine' wpAnyH_take (i := 7) (v := .pointer (some ⟨w.heap.size + 1, 1, none⟩)) rfl (by kernel_rfl) (by kernel_rfl) (by kernel_rfl) (fun _ _ _ h => h) (Or.inl ⟨by rfl, fun w' hw' => by go_simp⟩) hHeld ?_
  try simp only [Act.put, List.getElem_toArray, List.getElem_cons_succ, List.getElem_cons_zero, List.setIfInBounds_toArray, List.set_cons_zero, List.set_cons_succ]
  refine' wpAnyH_take (i := 8) (v := .string (txt p)) rfl (by kernel_rfl) (by kernel_rfl) (by kernel_rfl) (fun _ _ _ h => h) (Or.inl ⟨by rfl, fun w' hw' => by have q0 : w'.cell? ⟨w.heap.size + 1, 0, none⟩ = some (.int .i64 (n : Int)) := hw'.bf.cell_ rfl; have q1 : w'.cell? ⟨w.heap.size + 1, 1, none⟩ = some (.string (txt p)) := hw'.bf.cell_ rfl; go_simp⟩) hHeld ?_
  try simp only [Act.put, List.getElem_toArray, List.getElem_cons_succ, List.getElem_cons_zero, List.setIfInBounds_toArray, List.set_cons_zero, List.set_cons_succ]
  refine wpAnyH_ready (rs := [5]) (by kernel_rfl) (by simp) ?_
  refine AllReadyH.cons rfl (fun K hK => ?_) AllReadyH.nil
  have hal := (Below.refl V.heap.size V).alloc (Nat.le_refl _) (.cells #[.int .u8 (ib x)] 5)
  have hbt := byte_text V x
  go_simp
  refine hK.out _ _ (hHeld.below hal) (fun hHeld => ?_)
  clear hK K
  try simp only [Act.put, List.getElem_toArray, List.getElem_cons_succ, List.getElem_cons_zero, List.setIfInBounds_toArray, List.set_cons_zero, List.set_cons_succ]
  refine wpAnyH_ready (rs := [6]) (by kernel_rfl) (by simp) ?_
  refine AllReadyH.cons rfl (fun K hK => ?_) AllReadyH.nil
  go_simp
  refine hK.out _ _ hHeld (fun hHeld => ?_)
  clear hK K hbt
  try simp only [Act.put, List.getElem_toArray, List.getElem_cons_succ, List.getElem_cons_zero, List.setIfInBounds_toArray, List.set_cons_zero, List.set_cons_succ]
  generalize V.alloc (.cells #[.int .u8 (ib x)] 5) = V1 at *
  clear hal
  refine wpAnyH_ready (rs := [9]) (by kernel_rfl) (by simp) ?_
  refine AllReadyH.cons rfl (fun K hK => ?_) AllReadyH.nil
  have hal := (Below.refl V1.heap.size V1).alloc (Nat.le_refl _) (.cells #[.string (txt a), .string (txt [x]), .string (txt p)] 9)
  have hRd := rd_threeJ V1 a [x] p
  go_simp
  refine hK.out _ _ (hHeld.below hal) (fun hHeld => ?_)
  clear hK K
  try simp only [Act.put, List.getElem_toArray, List.getElem_cons_succ, List.getElem_cons_zero, List.setIfInBounds_toArray, List.set_cons_zero, List.set_cons_succ]
  refine wpAnyH_ready (rs := [10]) (by kernel_rfl) (by simp) ?_
  refine AllReadyH.cons rfl (fun K hK => ?_) AllReadyH.nil
  go_simp
  (with_reducible refine (cT _ _ _ hRd).mono ?_)
  rintro e5 w5 ⟨rfl, hb5⟩
  refine hK.out _ _ (hHeld.below hb5) (fun hHeld => ?_)
  clear hK K
  try simp only [Act.put, List.getElem_toArray, List.getElem_cons_succ, List.getElem_cons_zero, List.setIfInBounds_toArray, List.set_cons_zero, List.set_cons_succ]
  refine' wpAnyH_take (i := 11) (v := .agg (idVals S)) rfl (by kernel_rfl) (by kernel_rfl) (by kernel_rfl) (fun _ _ _ h => h) (Or.inl ⟨by rfl, fun w' hw' => by go_simp⟩) hHeld ?_
  try simp only [Act.put, List.getElem_toArray, List.getElem_cons_succ, List.getElem_cons_zero, List.setIfInBounds_toArray, List.set_cons_zero, List.set_cons_succ]
  refine' wpAnyH_take (i := 12) (v := .int .i64 0) rfl (by kernel_rfl) (by kernel_rfl) (by kernel_rfl) (fun _ _ _ h => h) (Or.inl ⟨by rfl, fun w' hw' => by go_simp⟩) hHeld ?_
  try simp only [Act.put, List.getElem_toArray, List.getElem_cons_succ, List.getElem_cons_zero, List.setIfInBounds_toArray, List.set_cons_zero, List.set_cons_succ]
  refine wpAnyH_ready (rs := [13]) (by kernel_rfl) (by simp) ?_
  refine AllReadyH.cons rfl (fun K hK => ?_) AllReadyH.nil
  obtain ⟨cs9, hc9, hz9⟩ := hHeld.bz
  refine wp_store_blk 23 _ _ rfl (w.heap.size + 1 + 1) _ (idVals S) 23 hz9 rfl rfl hI (hc9.trans (HSL.out.symm.trans (idVals_size S).symm)) h1c ?_
  intro w7 hb7 hg7
  refine hK.out _ _ (hHeld.put hg7 ((idVals_size S).trans HSL.out) hb7) (fun hHeld => ?_)
  clear hK K
  try simp only [Act.put, List.getElem_toArray, List.getElem_cons_succ, List.getElem_cons_zero, List.setIfInBounds_toArray, List.set_cons_zero, List.set_cons_succ]
  refine wpAnyH_ready (rs := [14]) (by kernel_rfl) (by simp) ?_
  refine AllReadyH.cons rfl (fun K hK => ?_) AllReadyH.nil
  go_simp
  refine hK.out _ _ hHeld (fun hHeld => ?_)
  clear hK K
  try simp only [Act.put, List.getElem_toArray, List.getElem_cons_succ, List.getElem_cons_zero, List.setIfInBounds_toArray, List.set_cons_zero, List.set_cons_succ]
  refine wpAnyH_done (by kernel_rfl) ?_ _
  go_wp2
  refine bodyPost_ret (results_cellt rfl _ _ _ _ _ _ rfl hb7 Try.underlying23 rfl hI) rfl ⟨rfl, hHeld.hb⟩
end Go.Proofs.Ytfckbonblfcmnaa

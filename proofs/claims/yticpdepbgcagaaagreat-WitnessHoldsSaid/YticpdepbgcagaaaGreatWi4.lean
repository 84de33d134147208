
/- witness: the texts by which a signature comes to its key: the closure, at the leaf and at the key. -/
import Derived.Test.YticpdepbgcagaaaGreatWi3
import Derived.Test.YticpdepbgcagaaaGreatWd1
import Derived.Test.YticpdepbgcagaaaGreatKt7
import Derived.Great.BuildSlice
import Derived.ChangeShapes
import Derived.Deep.DeepCutAuto
set_option linter.unusedSimpArgs false
set_option linter.unusedVariables false
namespace Go.Proofs.YticpdepbgcagaaaGreat
open Go.RowKit Go.Qc Go.Shelf
attribute [local go_sem] txt_size txt_append ib_fold
theorem below_drewW (w : World) : Below w.heap.size w w.drew := ⟨(Below.refl w.heap.size w).os, (Below.refl w.heap.size w).tape, (Below.refl w.heap.size w).output, (Below.refl w.heap.size w).size, (Below.refl w.heap.size w).block⟩
theorem wp_build1v {w : World} {o : Oper} {a : Act} {K : Act → World → Prop} {Q : Exit → Act → World → Prop} (x : Operand) (ho : o.op = .buildSlice 25 1 #[(0, x)])
    (X : List UInt8) (lx : X.length = 32) (hx : a.eval x = .agg (idVals X))
    (h : ∀ g w', RowR w' (some ⟨g, 0, none⟩) 1 [X] → Below w.heap.size w w' → K (a.put o.dst (.slice (some ⟨g, 0, none⟩) 1 1)) w') :
    o.wp Tryz.prog a w K Q := by
  obtain ⟨j0, hj, hjz, hjs, hjb⟩ := infoId2_parts
  have sx : (idVals X).size = 32 := by rw [idVals_size, lx]
  obtain ⟨zs, hzs⟩ : ∃ zs : Array Value, zs = (Array.range (1 * j0.size)).map ((Value.agg (idVals zeroB)).cells[· % (Value.agg (idVals zeroB)).cells.size]!) := ⟨_, rfl⟩
  have hz : zs.size = 32 := by rw [hzs, hjs]; simp
  obtain ⟨s1, g1⟩ := put_get_arr 0 X zs (by rw [hz, lx]; decide)
  generalize hc1 : (idVals X).zipIdx.foldl (fun cs (c, j) => cs.setIfInBounds (0 + j) c) zs = c1 at s1 g1
  refine wp_buildSlice 25 24 1 #[(0, x)] ho c1 j0 (.agg (idVals zeroB)) Tryz.underlying25 hj hjz (by rw [hjs]; decide) (by rw [hjs]; decide) ?_ (h w.heap.size _ ⟨rfl, by decide, fun Y hY => by rw [List.mem_singleton.1 hY]; exact lx, .inr ⟨w.heap.size, 0, rfl, ?_⟩⟩ ((Below.refl _ _).alloc (Nat.le_refl _) (.cells c1 24)))
  · rw [← hzs, hjs]
    have e1 : (Value.agg (idVals X)).cells = idVals X := rfl
    simp only [List.map_toArray, List.map_cons, List.map_nil, hx, Instr.fill, e1, idVals_size, lx, hz]
    rw [if_neg (by decide)]
    simp only [Nat.zero_mul]
    rw [hc1]
  · intro j u hj'
    have hj2 : (X.map u8v)[j]? = some u := by simpa [idsV] using hj'
    have hlt : j < 32 := by have := (List.getElem?_eq_some_iff.1 hj2).1; simpa [lx] using this
    rw [cell_of_row _ _ _ _ _ _ (heap_alloc_new w _), Nat.zero_add, g1, lx, if_pos (by omega), Nat.sub_zero]
    exact hj2
theorem wp_allocW {w : World} {o : Oper} {a : Act} {K : Act → World → Prop} {Q : Exit → Act → World → Prop} (ho : o.op = .alloc 24)
    (h : ∀ g cs w', cs.size = 32 → Hid (g = w.heap.size) → Blk w' g 24 cs → Below w.heap.size w w' → K (a.put o.dst (.pointer (some ⟨g, 0, none⟩))) w') : o.wp Tryz.prog a w K Q := by
  obtain ⟨i0, hi, hz, hs, hb⟩ := infoId2_parts
  have h9 := h w.heap.size (idVals zeroB) (w.alloc (.cells (idVals zeroB) 24)) (by rw [idVals_size]; decide) (hid rfl) (Blk.new _ _ _) ((Below.refl _ _).alloc (Nat.le_refl _) _)
  unfold Oper.wp
  simp only [execOp, ho]
  simp [Instr.alloc, zeroValue, typeInfo, hi, hz, newVar, newRow, Value.cells, newObj]
  exact h9
theorem wslice_to (g o n c k : Nat) (hk : k ≤ n) (hc : n ≤ c) (W : World) : (Instr.sliceAt 25 (.slice (some ⟨g, o, none⟩) n c) none (some (.int .i64 (k : Int))) none).run Tryz.prog W = .ok (.slice (some ⟨g, o, none⟩) k c) W := by
  obtain ⟨i0, hi, h32, _⟩ := infoId_parts
  have h1 : (0 : Int) ≤ (k : Int) ∧ (k : Int) ≤ (c : Int) := by omega
  simp [Instr.sliceAt, Instr.slice, Instr.sliceBounds, run_underlying Tryz.underlying25, run_sliceBound, h1, sizeOf, typeInfo, hi, h32, Addr.add_lit, Int.toNat_natCast]
  all_goals first | omega | skip
theorem RowR.takeW {w : World} {A : Option Addr} {n : Nat} {l : List (List UInt8)} (h : RowR w A n l) (k : Nat) (hk : k ≤ n) : RowR w A k (l.take k) := by
  obtain ⟨h1, h2, h3, h4⟩ := h
  refine ⟨by rw [List.length_take]; omega, by omega, fun a ha => h3 a (List.mem_of_mem_take ha), ?_⟩
  rcases h4 with h4 | ⟨g, o, e, hr⟩
  · exact .inl (by rw [h4]; exact List.take_nil)
  · refine .inr ⟨g, o, e, fun j v hj => hr j v ?_⟩
    have e2 : idsV l = idsV (l.take k) ++ idsV (l.drop k) := by rw [← idsV_append, List.take_append_drop]
    rw [e2, List.getElem?_append_left (List.getElem?_eq_some_iff.1 hj).1]
    exact hj
theorem RowR.some_ {w : World} {A : Option Addr} {n : Nat} {l : List (List UInt8)} (h : RowR w A n l) (hn : 0 < n) : ∃ g o, A = some ⟨g, o, none⟩ := by
  obtain ⟨h1, h2, h3, h4⟩ := h
  rcases h4 with h4 | ⟨g, o, e, hr⟩
  · rw [h4] at h1; simp at h1; omega
  · exact ⟨g, o, e⟩
/-- What the closure holds: the public sums, the params, the signature, the leaf's sum. -/
structure TxS (W : World) (pb pp px pl : Nat) (Ap : Option Addr) (cp : Nat) (Aw : Option Addr) (cw n H L : Nat) (pubs : List (List UInt8)) (lf : List UInt8) (way : List (List UInt8)) : Prop where
  hp : W.cell? ⟨pb, 0, none⟩ = some (.slice Ap (2 * n) cp)
  rp : RowR W Ap (2 * n) pubs
  h0 : W.cell? ⟨pp, 0, none⟩ = some (.int .i64 n)
  h1 : W.cell? ⟨pp, 1, none⟩ = some (.int .i64 H)
  l0 : W.cell? ⟨px, 0, none⟩ = some (.int .i64 L)
  l3 : W.cell? ⟨px, 3, none⟩ = some (.slice Aw H cw)
  rw_ : RowR W Aw H way
  lf_ : W.rangeAt pl 0 (lf.map u8v)
theorem TxS.below {W W' : World} {pb pp px pl : Nat} {Ap : Option Addr} {cp : Nat} {Aw : Option Addr} {cw n H L : Nat} {pubs : List (List UInt8)} {lf : List UInt8} {way : List (List UInt8)} (h : TxS W pb pp px pl Ap cp Aw cw n H L pubs lf way) (hb : Below W.heap.size W W') : TxS W' pb pp px pl Ap cp Aw cw n H L pubs lf way :=
  ⟨wi_cell hb h.hp, h.rp.below hb, wi_cell hb h.h0, wi_cell hb h.h1, wi_cell hb h.l0, wi_cell hb h.l3, h.rw_.below hb, h.lf_.below hb⟩
/-- The text at a place. -/
def wtT (n H L : Nat) (pubs : List (List UInt8)) (lf : List UInt8) (way : List (List UInt8)) : Nat → List UInt8
  | 0 => textB leafN [pubs.flatten]
  | p + 1 => if H ≤ p then textB keyN [nB n 2, nB H 1, climbB L lf way]
    else if (L / 2 ^ p) % 2 = 1 then textB nodeN [getB way p, climbB L lf (way.take p)] else textB nodeN [climbB L lf (way.take p), getB way p]
theorem wtT_eq (n H L : Nat) (a : List UInt8) (l r way : List (List UInt8)) : ∀ p, wtT n H L (sideL (pubF a l r) n) (recB a l r n) way p = wiT n H L a l r way p
  | 0 => rfl
  | p + 1 => rfl
theorem wtT_succ (n H L : Nat) (pubs : List (List UInt8)) (lf : List UInt8) (way : List (List UInt8)) (p : Nat) : wtT n H L pubs lf way (p + 1) = if H ≤ p then textB keyN [nB n 2, nB H 1, climbB L lf way]
    else if (L / 2 ^ p) % 2 = 1 then textB nodeN [getB way p, climbB L lf (way.take p)] else textB nodeN [climbB L lf (way.take p), getB way p] := rfl

set_option maxRecDepth 100000 in
set_option maxHeartbeats 20000000 in
theorem texts1_leaf (pb pp px pl : Nat) (Ap : Option Addr) (cp : Nat) (Aw : Option Addr) (cw n H L : Nat) (pubs : List (List UInt8)) (lf : List UInt8) (way : List (List UInt8)) (hn : n ≤ 256) (w : World) (hS : TxS w pb pp px pl Ap cp Aw cw n H L pubs lf way) :
    Calls Tryz.prog 63 #[.int .i64 0, .pointer (some ⟨pb, 0, none⟩), .pointer (some ⟨pp, 0, none⟩), .pointer (some ⟨px, 0, none⟩), .pointer (some ⟨pl, 0, none⟩)] w fun e w' => e = .returned (.string (txt (textB leafN [pubs.flatten]))) ∧ Below w.heap.size w w' := by
  have cJ := wjoined_any Ap (2 * n) cp pubs w hS.rp (by omega)
  have f1 := hS.hp
  have hfl : pubs.flatten.length = 32 * (2 * n) := by rw [flatten_len pubs hS.rp.2.2.1, hS.rp.1]
  have hT1 : (textB leafN [pubs.flatten]).length ≤ 1000000000000 := textB_ids leafN (by decide) _ (by rw [List.map_cons, List.map_nil, List.sum_cons, List.sum_nil, List.length_cons, List.length_nil, hfl]; omega)
  have hT2 := fun W => wtext_any leafN (by decide) (some ⟨World.heap W |>.size, 0, none⟩) 1 1 [pubs.flatten] rfl hT1 _ (rd_one W pubs.flatten)
  have HT : Hid (∀ W : World, Calls Tryz.prog 64 #[.string ⟨#[108, 101, 97, 102]⟩, .slice (some ⟨W.heap.size, 0, none⟩) 1 1] (W.alloc (.cells #[.string (txt pubs.flatten)] 9)) fun e w' => e = .returned (.string (txt (textB leafN [pubs.flatten]))) ∧ Below (W.alloc (.cells #[.string (txt pubs.flatten)] 9)).heap.size (W.alloc (.cells #[.string (txt pubs.flatten)] 9)) w') := hid hT2
  clear hT1 hT2
  generalize textB leafN [pubs.flatten] = U at *
  generalize pubs.flatten = F at *
  generalize 2 * n = n2 at *
  clear hS hfl hn
  go_enter Tryz.func63, Tryz.ntmps63
  go_wp2_with (first
    | (go_at_call 65; (with_reducible refine cJ.mono ?_); rintro e1 w1 ⟨rfl, hb1⟩; have hal := hb1.alloc hb1.size (.cells #[.string (txt F)] 9); have cT := HT.out w1)
    | (go_at_call 64; (with_reducible refine cT.mono ?_); rintro e2 w2 ⟨rfl, hb2⟩))
  go_ret
  exact ⟨rfl, hal.trans (hb2.mono hal.size)⟩

set_option maxRecDepth 100000 in
set_option maxHeartbeats 20000000 in
theorem texts1_key (pb pp px pl : Nat) (Ap : Option Addr) (cp : Nat) (Aw : Option Addr) (cw n H L : Nat) (pubs : List (List UInt8)) (lf : List UInt8) (way : List (List UInt8)) (hn : n ≤ 256) (hH : H ≤ 10) (hL : L ≤ 9223372036854775807) (hl : lf.length = 32) (p : Nat) (hp : H < p) (w : World) (hS : TxS w pb pp px pl Ap cp Aw cw n H L pubs lf way) :
    Calls Tryz.prog 63 #[.int .i64 p, .pointer (some ⟨pb, 0, none⟩), .pointer (some ⟨pp, 0, none⟩), .pointer (some ⟨px, 0, none⟩), .pointer (some ⟨pl, 0, none⟩)] w fun e w' => e = .returned (.string (txt (textB keyN [nB n 2, nB H 1, climbB L lf way]))) ∧ Below w.heap.size w w' := by
  have hu := Tryz.underlying24
  have hzl : (Tryz.prog.info? 24).map (·.size) = some (lf.map u8v).length := by rw [List.length_map, hl]; exact sizeId
  have hb0 := below_drewW w
  have hS1 := hS.below hb0
  have f0 := hS1.h0
  have f1 := hS1.h1
  have f2 := hS1.l0
  have f3 := hS1.l3
  have fl := hS1.lf_
  have k1 := hS.h1
  have hR := climbB_length way L lf hl
  have cN1 : ∀ W, Calls Tryz.prog 66 #[.int .i64 n, .int .i64 2] W fun e w' => e = .returned (.string (txt (nB n 2))) ∧ Below W.heap.size W w' := fun W => wnumber_any n 2 (by omega) (by decide) (by omega) W
  have cN2 : ∀ W, Calls Tryz.prog 66 #[.int .i64 H, .int .i64 1] W fun e w' => e = .returned (.string (txt (nB H 1))) ∧ Below W.heap.size W w' := fun W => wnumber_any H 1 (by omega) (by decide) (by omega) W
  have cC : ∀ W, Below w.drew.heap.size w.drew W → Calls Tryz.prog 58 #[.int .i64 L, .agg (List.map u8v lf).toArray, .slice Aw H cw] W fun e w' => e = .returned (.agg (idVals (climbB L lf way))) ∧ Below W.heap.size W w' := fun W hW => by
    have h := climb_any L (by omega) lf hl Aw H cw way W (hS1.rw_.below hW)
    rw [Int.toNat_natCast] at h
    exact h
  have cJ : ∀ W g, RowR W (some ⟨g, 0, none⟩) 1 [climbB L lf way] → Calls Tryz.prog 65 #[.slice (some ⟨g, 0, none⟩) 1 1] W fun e w' => e = .returned (.string (txt (climbB L lf way))) ∧ Below W.heap.size W w' := fun W g h => by
    have h := wjoined_any (some ⟨g, 0, none⟩) 1 1 [climbB L lf way] W h (by decide)
    rw [List.flatten_cons, List.flatten_nil, List.append_nil] at h
    exact h
  have HT : Hid (∀ W : World, Calls Tryz.prog 64 #[.string ⟨#[107, 101, 121]⟩, .slice (some ⟨W.heap.size, 0, none⟩) 3 3] (W.alloc (.cells #[.string (txt (nB n 2)), .string (txt (nB H 1)), .string (txt (climbB L lf way))] 9)) fun e w' => e = .returned (.string (txt (textB keyN [nB n 2, nB H 1, climbB L lf way]))) ∧ Below (W.alloc (.cells #[.string (txt (nB n 2)), .string (txt (nB H 1)), .string (txt (climbB L lf way))] 9)).heap.size (W.alloc (.cells #[.string (txt (nB n 2)), .string (txt (nB H 1)), .string (txt (climbB L lf way))] 9)) w') := hid (fun W =>
    wtext_any keyN (by decide) (some ⟨W.heap.size, 0, none⟩) 3 3 _ rfl (textB_key _ _ _ (nB_length _ _) (nB_length _ _) hR) _ (rd_three W _ _ _))
  generalize textB keyN [nB n 2, nB H 1, climbB L lf way] = U at *
  generalize nB n 2 = N1 at *
  generalize nB H 1 = N2 at *
  generalize climbB L lf way = R at *
  have c1 : ¬ p = 0 := by omega
  have c2 : (H : Int) < p := by omega
  clear hS hS1 hn hH hL hp
  go_enter Tryz.func63, Tryz.ntmps63
  go_upto_region 4 with (fail)
  refine wp_region_held_drew (S := fun V => Below w.drew.heap.size w.drew V) (by kernel_rfl) (Below.refl _ _) (fun hHeld => ?_)
  generalize w.drew = V0 at *
  refine' wpAnyH_take (i := 0) (v := .pointer (some ⟨pp, 0, none⟩)) rfl (by kernel_rfl) (by kernel_rfl) (by kernel_rfl) (fun _ _ _ h => h) (Or.inl ⟨by rfl, fun w' hw' => by go_simp⟩) hHeld ?_
  try simp only [Act.put, List.getElem_toArray, List.getElem_cons_succ, List.getElem_cons_zero, List.setIfInBounds_toArray, List.set_cons_zero, List.set_cons_succ]
  refine' wpAnyH_take (i := 1) (v := .int .i64 n) rfl (by kernel_rfl) (by kernel_rfl) (by kernel_rfl) (fun _ _ _ h => h) (Or.inl ⟨by rfl, fun w' hw' => by have hv := wi_cell hw' f0; go_simp⟩) hHeld ?_
  try simp only [Act.put, List.getElem_toArray, List.getElem_cons_succ, List.getElem_cons_zero, List.setIfInBounds_toArray, List.set_cons_zero, List.set_cons_succ]
  refine' wpAnyH_take (i := 3) (v := .pointer (some ⟨pp, 1, none⟩)) rfl (by kernel_rfl) (by kernel_rfl) (by kernel_rfl) (fun _ _ _ h => h) (Or.inl ⟨by rfl, fun w' hw' => by go_simp⟩) hHeld ?_
  try simp only [Act.put, List.getElem_toArray, List.getElem_cons_succ, List.getElem_cons_zero, List.setIfInBounds_toArray, List.set_cons_zero, List.set_cons_succ]
  refine' wpAnyH_take (i := 4) (v := .int .i64 H) rfl (by kernel_rfl) (by kernel_rfl) (by kernel_rfl) (fun _ _ _ h => h) (Or.inl ⟨by rfl, fun w' hw' => by have hv := wi_cell hw' f1; go_simp⟩) hHeld ?_
  try simp only [Act.put, List.getElem_toArray, List.getElem_cons_succ, List.getElem_cons_zero, List.setIfInBounds_toArray, List.set_cons_zero, List.set_cons_succ]
  refine' wpAnyH_take (i := 6) (v := .pointer (some ⟨px, 0, none⟩)) rfl (by kernel_rfl) (by kernel_rfl) (by kernel_rfl) (fun _ _ _ h => h) (Or.inl ⟨by rfl, fun w' hw' => by go_simp⟩) hHeld ?_
  try simp only [Act.put, List.getElem_toArray, List.getElem_cons_succ, List.getElem_cons_zero, List.setIfInBounds_toArray, List.set_cons_zero, List.set_cons_succ]
  refine' wpAnyH_take (i := 7) (v := .int .i64 L) rfl (by kernel_rfl) (by kernel_rfl) (by kernel_rfl) (fun _ _ _ h => h) (Or.inl ⟨by rfl, fun w' hw' => by have hv := wi_cell hw' f2; go_simp⟩) hHeld ?_
  try simp only [Act.put, List.getElem_toArray, List.getElem_cons_succ, List.getElem_cons_zero, List.setIfInBounds_toArray, List.set_cons_zero, List.set_cons_succ]
  refine' wpAnyH_take (i := 8) (v := _) rfl (by kernel_rfl) (by kernel_rfl) (by kernel_rfl) (fun _ _ _ h => h) (yieldsIf_load_mid (by rfl) 24 _ rfl _ _ rfl (lf.map u8v) _ (fun w' h => fl.below h) hu rfl hzl) hHeld ?_
  try simp only [Act.put, List.getElem_toArray, List.getElem_cons_succ, List.getElem_cons_zero, List.setIfInBounds_toArray, List.set_cons_zero, List.set_cons_succ]
  refine' wpAnyH_take (i := 9) (v := .pointer (some ⟨px, 3, none⟩)) rfl (by kernel_rfl) (by kernel_rfl) (by kernel_rfl) (fun _ _ _ h => h) (Or.inl ⟨by rfl, fun w' hw' => by go_simp⟩) hHeld ?_
  try simp only [Act.put, List.getElem_toArray, List.getElem_cons_succ, List.getElem_cons_zero, List.setIfInBounds_toArray, List.set_cons_zero, List.set_cons_succ]
  refine' wpAnyH_take (i := 10) (v := .slice Aw H cw) rfl (by kernel_rfl) (by kernel_rfl) (by kernel_rfl) (fun _ _ _ h => h) (Or.inl ⟨by rfl, fun w' hw' => by have hv := wi_cell hw' f3; go_simp⟩) hHeld ?_
  try simp only [Act.put, List.getElem_toArray, List.getElem_cons_succ, List.getElem_cons_zero, List.setIfInBounds_toArray, List.set_cons_zero, List.set_cons_succ]
  refine wpAnyH_ready (rs := [2]) (by kernel_rfl) (by simp) ?_
  refine AllReadyH.cons rfl (fun K hK => ?_) AllReadyH.nil
  go_simp
  (with_reducible refine (cN1 _).mono ?_)
  rintro e2 V2 ⟨rfl, hb2⟩
  refine hK.out _ _ (hHeld.trans (hb2.mono hHeld.size)) (fun hHeld => ?_)
  clear hK K hb2
  try simp only [Act.put, List.getElem_toArray, List.getElem_cons_succ, List.getElem_cons_zero, List.setIfInBounds_toArray, List.set_cons_zero, List.set_cons_succ]
  refine wpAnyH_ready (rs := [5]) (by kernel_rfl) (by simp) ?_
  refine AllReadyH.cons rfl (fun K hK => ?_) AllReadyH.nil
  go_simp
  (with_reducible refine (cN2 _).mono ?_)
  rintro e5 V5 ⟨rfl, hb5⟩
  refine hK.out _ _ (hHeld.trans (hb5.mono hHeld.size)) (fun hHeld => ?_)
  clear hK K hb5
  try simp only [Act.put, List.getElem_toArray, List.getElem_cons_succ, List.getElem_cons_zero, List.setIfInBounds_toArray, List.set_cons_zero, List.set_cons_succ]
  refine wpAnyH_ready (rs := [11]) (by kernel_rfl) (by simp) ?_
  refine AllReadyH.cons rfl (fun K hK => ?_) AllReadyH.nil
  go_simp
  (with_reducible refine (cC _ hHeld).mono ?_)
  rintro e11 V11 ⟨rfl, hb11⟩
  refine hK.out _ _ (hHeld.trans (hb11.mono hHeld.size)) (fun hHeld => ?_)
  clear hK K hb11
  try simp only [Act.put, List.getElem_toArray, List.getElem_cons_succ, List.getElem_cons_zero, List.setIfInBounds_toArray, List.set_cons_zero, List.set_cons_succ]
  refine wpAnyH_ready (rs := [12]) (by kernel_rfl) (by simp) ?_
  refine AllReadyH.cons rfl (fun K hK => ?_) AllReadyH.nil
  refine wp_build1v _ rfl R hR rfl ?_
  intro g12 V12 hrow hb12
  refine hK.out _ _ (hHeld.trans (hb12.mono hHeld.size)) (fun hHeld => ?_)
  clear hK K hb12
  try simp only [Act.put, List.getElem_toArray, List.getElem_cons_succ, List.getElem_cons_zero, List.setIfInBounds_toArray, List.set_cons_zero, List.set_cons_succ]
  refine wpAnyH_ready (rs := [13]) (by kernel_rfl) (by simp) ?_
  refine AllReadyH.cons rfl (fun K hK => ?_) AllReadyH.nil
  go_simp
  (with_reducible refine (cJ _ _ hrow).mono ?_)
  rintro e13 V13 ⟨rfl, hb13⟩
  have cT := HT.out V13
  refine hK.out _ _ (hHeld.trans (hb13.mono hHeld.size)) (fun hHeld => ?_)
  clear hK K hb13 hrow
  try simp only [Act.put, List.getElem_toArray, List.getElem_cons_succ, List.getElem_cons_zero, List.setIfInBounds_toArray, List.set_cons_zero, List.set_cons_succ]
  refine wpAnyH_ready (rs := [14]) (by kernel_rfl) (by simp) ?_
  refine AllReadyH.cons rfl (fun K hK => ?_) AllReadyH.nil
  go_simp
  refine hK.out _ _ (hHeld.alloc hHeld.size _) (fun hHeld => ?_)
  clear hK K
  try simp only [Act.put, List.getElem_toArray, List.getElem_cons_succ, List.getElem_cons_zero, List.setIfInBounds_toArray, List.set_cons_zero, List.set_cons_succ]
  refine wpAnyH_ready (rs := [15]) (by kernel_rfl) (by simp) ?_
  refine AllReadyH.cons rfl (fun K hK => ?_) AllReadyH.nil
  go_simp
  (with_reducible refine cT.mono ?_)
  rintro e15 V15 ⟨rfl, hb15⟩
  refine hK.out _ _ (hHeld.trans (hb15.mono hHeld.size)) (fun hHeld => ?_)
  clear hK K hb15 cT
  try simp only [Act.put, List.getElem_toArray, List.getElem_cons_succ, List.getElem_cons_zero, List.setIfInBounds_toArray, List.set_cons_zero, List.set_cons_succ]
  refine' wpAnyH_take (i := 16) (v := .string (txt U)) rfl (by kernel_rfl) (by kernel_rfl) (by kernel_rfl) (fun _ _ _ h => h) (Or.inl ⟨by rfl, fun w' hw' => by go_simp⟩) hHeld ?_
  try simp only [Act.put, List.getElem_toArray, List.getElem_cons_succ, List.getElem_cons_zero, List.setIfInBounds_toArray, List.set_cons_zero, List.set_cons_succ]
  refine wpAnyH_done (by kernel_rfl) ?_ _
  have hb9 := hb0.trans (hHeld.mono hb0.size)
  go_wp2_with (fail)
  go_ret
  exact ⟨rfl, hb9⟩

end Go.Proofs.YticpdepbgcagaaaGreat

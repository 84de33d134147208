
/- witness: owned (the owner's signature). -/
import Derived.Test.YticpdepbgcagaaaGreatWi6
set_option linter.unusedSimpArgs false
set_option linter.unusedVariables false
namespace Go.Proofs.YticpdepbgcagaaaGreat
open Go.RowKit Go.Qc Go.Shelf
attribute [local go_sem] txt_size txt_append ib_fold
theorem sig_ok (k : Nat) (hk : k < 4) (a b c d : Value) : k + 1 ≤ #[a, b, c, d].size := by simp; omega
theorem sig_over1 (L a b c v : Value) : over #[L, a, b, c] 1 [v] = #[L, v, b, c] := by rw [over_set _ _ _ (by simp)]; rfl
theorem sig_over2 (L a b c v : Value) : over #[L, a, b, c] 2 [v] = #[L, a, v, c] := by rw [over_set _ _ _ (by simp)]; rfl
theorem sig_over3 (L a b c v : Value) : over #[L, a, b, c] 3 [v] = #[L, a, b, v] := by rw [over_set _ _ _ (by simp)]; rfl
theorem ret_sigW {fn : Func} {p : Tmp} (hf : fn.results = #[.cell p 27]) (tmps : Array Value) (w : World) (g : Nat) (L : Nat) (v1 v2 v3 : Value) (hp : tmps.getD p undef = .pointer (some ⟨g, 0, none⟩)) (hg : Blk w g 27 (sigC L v1 v2 v3)) :
    (results fn tmps).run Tryz.prog w = .ok (.agg (sigC L v1 v2 v3)) w := results_cell_row hf tmps w g _ _ _ _ hp hg Tryz.underlying27 rfl infoSig

set_option maxRecDepth 100000 in
set_option maxHeartbeats 20000000 in
theorem wowned_any (n H L : Nat) (hr : rgtP n H = true) (hH : H ≤ 5) (hL : L < 2 ^ H) (s : List UInt8) (hs : s.length ≤ 1000) (a : List UInt8) (ha : a.length = 32) (w : World) :
    Calls Tryz.prog 26 #[.agg #[.int .i64 n, .int .i64 H], .string (txt s), .int .i64 L, .agg (idVals a)] w fun e w' => ∃ A1 c1 A2 c2 A3 c3, e = .returned (.agg (sigC L (.slice A1 n c1) (.slice A2 n c2) (.slice A3 H c3))) ∧ RowR w' A1 n (upTo (shownX s L a) n) ∧ RowR w' A2 n (upTo (hiddenX s L a) n) ∧ RowR w' A3 H (upTo (wayF (lfF s n) L) H) ∧ H ≤ c3 ∧ Below w.heap.size w w' := by
  have hu := Tryz.underlying24
  have hza : (Tryz.prog.info? 24).map (·.size) = some (a.map u8v).length := by rw [List.length_map, ha]; exact sizeId
  have hn8 : n ≤ 256 := by have := rgt_le9 (rgtP_parts hr).1; omega
  have hn4 : n ≤ 1000000 := by omega
  have hH4 : H ≤ 1000000 := by omega
  have hL5 : L < 32 := Nat.lt_of_lt_of_le hL (Nat.pow_le_pow_right (n := 2) (by decide) hH)
  have cS : ∀ W : World, Calls Tryz.prog 55 #[.string (txt s), .int .i64 L, .int .i64 n, .agg (List.map u8v a).toArray] W fun e w' => ∃ v u, e = .returned (.tuple #[v, u, .int .i64 0]) ∧ w'.ownsRow W.heap.size 24 32 v n (idsV (upTo (shownX s L a) n)) ∧ w'.ownsRow W.heap.size 24 32 u n (idsV (upTo (hiddenX s L a) n)) ∧ Below W.heap.size W w' := fun W =>
    sign_any s hs L (by omega) (by omega) n hn8 (rgtP_parts hr).1 a ha W
  have cW := fun W => kway_any s hs n H hr hH L hL W
  have H3 := hid (upTo_32 (wayF (lfF s n) L) (fun b => ndB_length _ (lfF_length s n) _ _) H)
  have H1 := hid (upTo_32 (shownX s L a) (shownX_length s L a) n)
  have H2 := hid (upTo_32 (hiddenX s L a) (hiddenX_length s L a) n)
  have h1 := (Below.refl w.heap.size w).alloc (Nat.le_refl _) (.cells #[.int .i64 n, .int .i64 H] 29)
  have h2 := h1.alloc h1.size (.cells (idVals a) 24)
  have h3 := h2.alloc h2.size (.cells #[.int .i64 0, .slice none 0 0, .slice none 0 0, .slice none 0 0] 27)
  have h4 := h3.alloc h3.size (.cells #[.int .i64 L, .slice none 0 0, .slice none 0 0, .slice none 0 0] 27)
  have B1 := (((Blk.new w 29 #[.int .i64 n, .int .i64 H]).alloc (.cells (idVals a) 24)).alloc (.cells #[.int .i64 0, .slice none 0 0, .slice none 0 0, .slice none 0 0] 27)).alloc (.cells #[.int .i64 L, .slice none 0 0, .slice none 0 0, .slice none 0 0] 27)
  have B2 := ((Blk.new (w.alloc (.cells #[.int .i64 n, .int .i64 H] 29)) 24 (idVals a)).alloc (.cells #[.int .i64 0, .slice none 0 0, .slice none 0 0, .slice none 0 0] 27)).alloc (.cells #[.int .i64 L, .slice none 0 0, .slice none 0 0, .slice none 0 0] 27)
  have B3 := (Blk.new ((w.alloc (.cells #[.int .i64 n, .int .i64 H] 29)).alloc (.cells (idVals a) 24)) 27 #[.int .i64 0, .slice none 0 0, .slice none 0 0, .slice none 0 0]).alloc (.cells #[.int .i64 L, .slice none 0 0, .slice none 0 0, .slice none 0 0] 27)
  have B4 := Blk.new (((w.alloc (.cells #[.int .i64 n, .int .i64 H] 29)).alloc (.cells (idVals a) 24)).alloc (.cells #[.int .i64 0, .slice none 0 0, .slice none 0 0, .slice none 0 0] 27)) 27 #[.int .i64 L, .slice none 0 0, .slice none 0 0, .slice none 0 0]
  rw [World.size_alloc] at B2
  rw [World.size_alloc, World.size_alloc] at B3
  rw [World.size_alloc, World.size_alloc, World.size_alloc] at B4
  have fa := range_blk B2
  have p0 := B1.cell_ (i := 0) rfl
  have HB := hid h4
  have zi : ∀ a b c d : Value, (Tryz.prog.info? 27).map (·.size) = some (#[a, b, c, d] : Array Value).size := fun _ _ _ _ => infoSig
  have zs : ∀ a b c d e f g h : Value, (#[a, b, c, d] : Array Value).size = (#[e, f, g, h] : Array Value).size := fun _ _ _ _ _ _ _ _ => rfl
  have zo : ∀ (A1 A2 A3 : Option Addr) (n1 n2 n3 c1 c2 c3 : Nat), (#[.int .i64 L, .slice A1 n1 c1, .slice A2 n2 c2, .slice A3 n3 c3] : Array Value).all (·.oneCell') = true := sigC_one L
  have z1 := sig_ok 1 (by decide)
  have z2 := sig_ok 2 (by decide)
  have z3 := sig_ok 3 (by decide)
  clear h1 h2 h3 h4 B2 hr hs hL hL5
  generalize upTo (wayF (lfF s n) L) H = R3 at *
  generalize upTo (shownX s L a) n = R1 at *
  generalize upTo (hiddenX s L a) n = R2 at *
  go_enter Tryz.func26, Tryz.ntmps26
  go_upto_region 2 with (fail)
  generalize ((((w.alloc (.cells #[.int .i64 n, .int .i64 H] 29)).alloc (.cells (idVals a) 24)).alloc (.cells #[.int .i64 0, .slice none 0 0, .slice none 0 0, .slice none 0 0] 27)).alloc (.cells #[.int .i64 L, .slice none 0 0, .slice none 0 0, .slice none 0 0] 27)) = w1 at *
  go_upto_region 3 with (first
    | (with_reducible refine wpList_load_if (by with_unfolding_all rfl) 24 _ rfl _ _ rfl (a.map u8v) _ fa hu rfl hza ?_)
    | (go_at_call 55; (with_reducible refine (cS _).mono ?_); rintro e2 w2 ⟨v1, v2, rfl, hown1, hown2, hb2⟩; obtain ⟨A1, c1, rfl, hrow1⟩ := RowAt.own hown1 H1.out hn4; obtain ⟨A2, c2, rfl, hrow2⟩ := RowAt.own hown2 H2.out hn4; replace B1 := B1.below hb2; replace B3 := B3.below hb2; replace B4 := B4.below hb2; replace HB := hid (HB.out.trans (hb2.mono HB.out.size)); clear hrow1 hrow2)
    | ((with_reducible refine wpList_store_cell rfl 25 _ _ rfl (w.heap.size + 1 + 1 + 1) 1 _ 27 B4 (.slice A1 n c1) rfl rfl infoRow1 (z1 _ _ _ _) rfl rfl ?_); intro w3 hb3 hg3; rw [sig_over1] at hb3)
    | ((with_reducible refine wpList_store_cell rfl 25 _ _ rfl (w.heap.size + 1 + 1 + 1) 2 _ 27 hb3 (.slice A2 n c2) rfl rfl infoRow1 (z2 _ _ _ _) rfl rfl ?_); intro w4 hb4 hg4; rw [sig_over2] at hb4))
  replace hown1 := own_sig (own_sig hown1 B4 hg3) hb3 hg4
  replace hown2 := own_sig (own_sig hown2 B4 hg3) hb3 hg4
  replace B1 := wi_blk (wi_blk B1 hg3 (by omega)) hg4 (by omega)
  replace B3 := wi_blk (wi_blk B3 hg3 (by omega)) hg4 (by omega)
  have hz3 : w.heap.size ≤ w3.heap.size := Nat.le_trans HB.out.size hg3.size
  replace HB := hid ((HB.out.grown hg3 HB.out.size (fun i e => by have := Option.some.inj e; omega)).grown hg4 hz3 (fun i e => by have := Option.some.inj e; omega))
  have q0 := B1.cell_ (i := 0) rfl
  have q1 := B1.cell_ (i := 1) rfl
  have B5 := hb4
  clear p0 fa cS B4 hb3 hg3 hg4 hb4
  go_upto_region 4 with (first
    | (go_at_call 56; (with_reducible refine (cW _).mono ?_); rintro e6 w6 ⟨v3, rfl, hown3, hb6⟩; obtain ⟨A3, c3, rfl, hrow3⟩ := RowAt.own hown3 H3.out hH4; have HC := hid hrow3.2.1; replace B3 := B3.below hb6; replace B5 := B5.below hb6; replace hown1 := own_below hown1 hb6; replace hown2 := own_below hown2 hb6; replace HB := hid (HB.out.trans (hb6.mono HB.out.size)); clear hrow3)
    | ((with_reducible refine wpList_store_cell rfl 25 _ _ rfl (w.heap.size + 1 + 1 + 1) 3 _ 27 B5 (.slice A3 H c3) rfl rfl infoRow1 (z3 _ _ _ _) rfl rfl ?_); intro w7 hb7 hg7; rw [sig_over3] at hb7))
  replace hown1 := own_sig hown1 B5 hg7
  replace hown2 := own_sig hown2 B5 hg7
  replace hown3 := own_sig hown3 B5 hg7
  replace B3 := wi_blk B3 hg7 (by omega)
  replace HB := hid (HB.out.grown hg7 HB.out.size (fun i e => by have := Option.some.inj e; omega))
  have r0 := hb7.cell_ (i := 0) rfl
  have r1 := hb7.cell_ (i := 1) rfl
  have r2 := hb7.cell_ (i := 2) rfl
  have r3 := hb7.cell_ (i := 3) rfl
  clear q0 q1 B1 B5 hg7 hb7 cW
  go_wp2_with ((with_reducible refine wpList_store_blk rfl 27 _ _ rfl (w.heap.size + 1 + 1) _ #[.int .i64 L, .slice A1 n c1, .slice A2 n c2, .slice A3 H c3] 27 B3 rfl rfl (zi _ _ _ _) (zs _ _ _ _ _ _ _ _) (zo _ _ _ _ _ _ _ _ _) ?_); intro w9 hb9 hg9)
  replace hown1 := own_sig hown1 B3 hg9
  replace hown2 := own_sig hown2 B3 hg9
  replace hown3 := own_sig hown3 B3 hg9
  replace HB := hid (HB.out.grown hg9 HB.out.size (fun i e => by have := Option.some.inj e; omega))
  obtain ⟨_, _, e1, h1⟩ := RowAt.own hown1 H1.out hn4
  obtain ⟨_, _, e2, h2⟩ := RowAt.own hown2 H2.out hn4
  obtain ⟨_, _, e3, h3⟩ := RowAt.own hown3 H3.out hH4
  cases e1
  cases e2
  cases e3
  refine bodyPost_ret (ret_sigW rfl _ _ _ L _ _ _ rfl hb9) rfl ⟨_, _, _, _, _, _, rfl, RowAt.r h1, RowAt.r h2, RowAt.r h3, HC.out, HB.out⟩

end Go.Proofs.YticpdepbgcagaaaGreat

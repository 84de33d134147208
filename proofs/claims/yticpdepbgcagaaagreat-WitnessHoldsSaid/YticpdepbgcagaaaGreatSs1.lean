
/- signer: Key, Skip; the document's Sign and Same; small params. -/
import Derived.Test.YticpdepbgcagaaaGreatSvA
namespace Go.Proofs.YticpdepbgcagaaaGreat
open Go.RowKit Go.Qc
attribute [local go_sem] txt_size txt_append ib_fold

set_option maxRecDepth 100000 in
set_option maxHeartbeats 8000000 in
theorem rsign8_any (s : List UInt8) (hs : s.length ≤ 1000) (n m : Nat) (hr : rgtP n m = true) (hm5 : m ≤ 5) (L : Nat) (hL : L < 2 ^ m) (a : List UInt8) (ha : a.length = 32) (w : World) :
    Calls Tryz.prog 16 #[.agg #[.int .i64 n, .int .i64 m], .string (txt s), .int .i64 L, .agg (idVals a)] w fun e w' => ∃ A1 c1 A2 c2 A3 c3, e = .returned (.agg (sigC L (.slice A1 n c1) (.slice A2 n c2) (.slice A3 m c3))) ∧ w'.ownsRow w.heap.size 24 32 (.slice A1 n c1) n (idsV (upTo (shownX s L a) n)) ∧ w'.ownsRow w.heap.size 24 32 (.slice A2 n c2) n (idsV (upTo (hiddenX s L a) n)) ∧ w'.ownsRow w.heap.size 24 32 (.slice A3 m c3) m (idsV (upTo (wayF (lfF s n) L) m)) ∧ Below w.heap.size w w' := by
  have hu := Tryz.underlying24
  have hn8 : n ≤ 256 := by have := rgt_le9 (rgtP_parts hr).1; omega
  have cW := fun W => rway_any s hs n m hr hm5 L hL W
  have cS : ∀ W : World, Calls Tryz.prog 46 #[.string (txt s), .int .i64 L, .int .i64 n, .agg (List.map u8v a).toArray] W fun e w' => ∃ v u, e = .returned (.tuple #[v, u]) ∧ w'.ownsRow W.heap.size 24 32 v n (idsV (upTo (shownX s L a) n)) ∧ w'.ownsRow W.heap.size 24 32 u n (idsV (upTo (hiddenX s L a) n)) ∧ Below W.heap.size W w' := fun W => rsign_any s hs (L : Nat) n hn8 a ha W
  have H1 := hid (upTo_32 (shownX s L a) (shownX_length s L a) n)
  have H2 := hid (upTo_32 (hiddenX s L a) (hiddenX_length s L a) n)
  have H3 := hid (upTo_32 (wayF (lfF s n) L) (fun b => ndB_length _ (lfF_length s n) _ _) m)
  have hza : (Tryz.prog.info? 24).map (·.size) = some (a.map u8v).length := by rw [List.length_map, ha]; exact sizeId
  have hk1 : (w.alloc (.cells #[.int .i64 n, .int .i64 m] 29)).heap.size = w.heap.size + 1 := by simp
  have hk2 : ((w.alloc (.cells #[.int .i64 n, .int .i64 m] 29)).alloc (.cells (idVals a) 24)).heap.size = w.heap.size + 1 + 1 := by simp
  have hP := ((Blk.new w 29 #[.int .i64 n, .int .i64 m]).alloc (.cells (idVals a) 24)).alloc (.cells #[.int .i64 0, .slice none 0 0, .slice none 0 0, .slice none 0 0] 27)
  have hA := Blk.new (w.alloc (.cells #[.int .i64 (n : Int), .int .i64 (m : Int)] 29)) 24 (idVals a)
  rw [hk1] at hA
  replace hA := hA.alloc (.cells #[.int .i64 0, .slice none 0 0, .slice none 0 0, .slice none 0 0] 27)
  have hR := Blk.new ((w.alloc (.cells #[.int .i64 (n : Int), .int .i64 (m : Int)] 29)).alloc (.cells (idVals a) 24)) 27 #[.int .i64 0, .slice none 0 0, .slice none 0 0, .slice none 0 0]
  rw [hk2] at hR
  have hB : Below w.heap.size w (((w.alloc (.cells #[.int .i64 (n : Int), .int .i64 (m : Int)] 29)).alloc (.cells (idVals a) 24)).alloc (.cells #[.int .i64 0, .slice none 0 0, .slice none 0 0, .slice none 0 0] 27)) := (((Below.refl _ _).alloc (Nat.le_refl _) _).alloc (by simp) _).alloc (by simp; omega) _
  have hx := range_blk hA
  clear hs hr hL ha hk1 hk2
  go_enter Tryz.func16, Tryz.ntmps16
  go_wp2_with (first
    | (with_reducible refine wpList_load_if (by with_unfolding_all rfl) 24 _ rfl _ _ rfl (a.map u8v) _ hx hu (by with_unfolding_all rfl) hza ?_)
    | (go_at_call 46; (with_reducible refine (cS _).mono ?_); rintro e1 w1 ⟨v1, v2, rfl, ho1, ho2, hb1⟩; obtain ⟨A1, c1, rfl, _⟩ := RowAt.own ho1 H1.out (by omega); obtain ⟨A2, c2, rfl, _⟩ := RowAt.own ho2 H2.out (by omega); replace ho1 := own_mono ho1 hB.size; replace ho2 := own_mono ho2 hB.size; replace hP := hP.below hb1; replace hR := hR.below hb1; replace hB := hB.trans (hb1.mono hB.size); clear hb1; have p0 := hP.cell_ (i := 0) rfl; have p1 := hP.cell_ (i := 1) rfl)
    | (go_at_call 47; (with_reducible refine (cW _).mono ?_); rintro e2 w2 ⟨v3, rfl, ho3, hb2⟩; obtain ⟨A3, c3, rfl, _⟩ := RowAt.own ho3 H3.out (by omega); replace ho3 := own_mono ho3 hB.size; replace hR := hR.below hb2; replace hB := hB.trans (hb2.mono hB.size); replace ho1 := own_below ho1 hb2; replace ho2 := own_below ho2 hb2; clear hb2 p0 p1)
    | (with_reducible refine wpList_store_blk rfl 27 _ _ rfl (w.heap.size + 1 + 1) _ (sigC L (.slice A1 n c1) (.slice A2 n c2) (.slice A3 m c3)) 27 hR rfl (by with_unfolding_all rfl) (infoSigC _ _ _ _) (by with_unfolding_all rfl) (sigC_one _ _ _ _ _ _ _ _ _ _) ?_))
  intro w9 hb9 hg9
  have q1 := own_sig ho1 hR hg9
  have q2 := own_sig ho2 hR hg9
  have q3 := own_sig ho3 hR hg9
  go_wp2
  exact bodyPost_ret (results_cell_row rfl _ _ _ _ _ _ _ rfl hb9 Tryz.underlying27 rfl (infoSigC _ _ _ _)) rfl ⟨A1, c1, A2, c2, A3, c3, rfl, q1, q2, q3, hB.grown hg9 hB.size (by intro i e; cases e; omega)⟩
theorem own_row {W : World} {b n c : Nat} {A : Option Addr} {l : List (List UInt8)} (h : W.ownsRow b 24 32 (.slice A n c) n (idsV l)) (h32 : ∀ x ∈ l, x.length = 32) (hn : n ≤ 1000000) : RowR W A n l := by
  obtain ⟨A2, c2, e, hr⟩ := RowAt.own h h32 hn
  injection e with e1 _ _
  subst e1
  exact hr.r
end Go.Proofs.YticpdepbgcagaaaGreat

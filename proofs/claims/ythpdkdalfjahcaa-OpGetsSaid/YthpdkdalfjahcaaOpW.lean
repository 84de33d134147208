
/- op: an operation is written; its bytes, by the document -/
import Derived.Test.YthpdkdalfjahcaaOpA
import Derived.Test.YthpdkdalfjahcaaOp1
import Derived.Deep.RegionHeld3
set_option linter.unusedSimpArgs false
set_option linter.unusedVariables false
namespace Go.Proofs.Ythpdkdalfjahcaa
open Go.RowKit Go.Qc Go.Shelf
attribute [local go_sem] txt_size txt_append ib_fold txt_toL

theorem OpX.kp {W W' : World} {g : Nat} {D : OpD} {A : Option Addr} {n c : Nat} {B : Option Addr} {m d : Nat} (h : OpX W g D A n c B m d) (hk : KpW W W') : OpX W' g D A n c B m d := ⟨hk _ _ _ (by decide) (by decide) h.b⟩
set_option maxRecDepth 100000 in
set_option maxHeartbeats 4000000 in
theorem oput_no (b : Nat) (l : List UInt8) (D : OpD) (hK : D.K.length = 32) (A : Option Addr) (n c : Nat) (hlo : D.o.length = n) (bn : n ≤ 1000) (B : Option Addr) (m d : Nat) (hln : D.n.length = m) (bm : m ≤ 1000) (hl : l.length ≤ 5000000) (w0 w : World) (h0 : w0.heap.size ≤ b) (hw0 : Below w0.heap.size w0 w) (rA : Rd w0 A (D.o.map strV)) (rB : Rd w0 B (D.n.map strV)) (hW : Wrt b l w) (hE : opE D ≠ 0) :
    Calls Try.prog 53 #[.pointer (some ⟨b, 0, none⟩), .agg (opC D A n c B m d)] w fun o w' => o = .returned (.int .i64 (opE D)) ∧ Wrt b l w' ∧ Below b w w' ∧ KpW w w' := by
  have hX := OpX.new w D A n c B m d
  have hb0 : Below w.heap.size w (w.alloc (.cells (opC D A n c B m d) 74)) := (Below.refl _ w).alloc (Nat.le_refl _) _
  have hV := hw0.trans (hb0.mono hw0.size)
  have cR : ∀ W, Below w0.heap.size w0 W → Calls Try.prog 94 #[.agg (opC D A n c B m d)] W fun o w' => o = .returned (.int .i64 (opE D)) ∧ Below W.heap.size W w' := fun W h => oright_any D hK A n c hlo (by omega) B m d hln (by omega) W (rA.below h) (rB.below h)
  have hne : (opE D != 0) = true := by simpa using hE
  generalize opE D = E at *
  go_enter Try.func53, Try.ntmps53
  go_wp2_with (first
    | (with_reducible refine wpList_load_opx (by with_unfolding_all rfl) _ rfl _ rfl hX hK ?_)
    | (go_at_call 94; (with_reducible refine (cR _ hV).mono ?_); rintro o1 w1 ⟨rfl, hb⟩))
  go_ret
  have hb2 := hb0.trans (hb.mono hb0.size)
  exact ⟨rfl, hW.below hb2, hb2.mono (Nat.le_of_lt hW.lt), KpW.later hb2⟩

set_option maxRecDepth 100000 in
set_option maxHeartbeats 8000000 in
theorem oput_1 (b : Nat) (l : List UInt8) (D : OpD) (hK : D.K.length = 32) (A : Option Addr) (n c : Nat) (hlo : D.o.length = n) (bn : n ≤ 1000) (B : Option Addr) (m d : Nat) (hln : D.n.length = m) (bm : m ≤ 1000) (hl : l.length ≤ 5000000) (w0 w : World) (h0 : w0.heap.size ≤ b) (hw0 : Below w0.heap.size w0 w) (rA : Rd w0 A (D.o.map strV)) (rB : Rd w0 B (D.n.map strV)) (hW : Wrt b l w) (hk : D.k = 1) (hE : opE D = 0) :
    Calls Try.prog 53 #[.pointer (some ⟨b, 0, none⟩), .agg (opC D A n c B m d)] w fun o w' => o = .returned (.int .i64 0) ∧ Wrt b (l ++ opB D) w' ∧ Below b w w' ∧ KpW w w' := by
  have ok := opOk hE
  have hX := OpX.new w D A n c B m d
  have hb0 : Below w.heap.size w (w.alloc (.cells (opC D A n c B m d) 74)) := (Below.refl _ w).alloc (Nat.le_refl _) _
  have hKp : KpW w (w.alloc (.cells (opC D A n c B m d) 74)) := KpW.later hb0
  have hB := hb0.mono (Nat.le_of_lt hW.lt)
  have hV := hw0.trans (hb0.mono hw0.size)
  replace hW := hW.below hb0
  clear hb0
  have cR : ∀ W, Below w0.heap.size w0 W → Calls Try.prog 94 #[.agg (opC D A n c B m d)] W fun o w' => o = .returned (.int .i64 0) ∧ Below W.heap.size W w' := fun W h => by have z := oright_any D hK A n c hlo (by omega) B m d hln (by omega) W (rA.below h) (rB.below h); rwa [hE] at z
  have cH : ∀ W, Calls Try.prog 95 #[.int .i64 1] W fun o w' => o = .returned (.agg #[.bool false, .bool false, .bool false, .bool false, .bool false, .bool false]) ∧ Below W.heap.size W w' := fun W => has_any 1 W
  have hfin : l ++ opB D = l ++ [UInt8.ofNat 1] ++ textE D.p := by
    unfold opB
    rw [hk]
    simp [List.append_assoc]
  rw [hfin]
  have HFIN := hid hfin
  clear hfin
  obtain ⟨L0, hL0⟩ : ∃ L0, L0 = l := ⟨_, rfl⟩
  rw [← hL0] at hW ⊢
  have z0 : L0.length ≤ 5000000 := by rw [hL0]; exact hl
  clear hL0
  have y0 : ([UInt8.ofNat 1]).length ≤ 1 := by simp
  have k0 : ∀ W, Wrt b L0 W → Calls Try.prog 19 #[.pointer (some ⟨b, 0, none⟩), .int .u8 1] W fun o w' => o = .returned (.tuple #[]) ∧ Wrt b (L0 ++ [UInt8.ofNat 1]) w' ∧ Below b W w' ∧ KpW W w' := fun W h => wByte_any b L0 (UInt8.ofNat 1) (by omega) W h
  obtain ⟨L1, hL1⟩ : ∃ L1, L1 = L0 ++ [UInt8.ofNat 1] := ⟨_, rfl⟩
  have z1 : L1.length ≤ 5000001 := by rw [hL1, List.length_append]; omega
  rw [← hL1] at k0 ⊢
  clear hL1 y0
  have y1 : (textE D.p).length ≤ 210 := by unfold textE; rw [List.length_append]; have := numE_len9 D.p.length (by have := ok.p; omega); have := ok.p; omega
  have k1 : ∀ W, Wrt b L1 W → Calls Try.prog 21 #[.pointer (some ⟨b, 0, none⟩), .string (txt D.p)] W fun o w' => o = .returned (.tuple #[]) ∧ Wrt b (L1 ++ textE D.p) w' ∧ Below b W w' ∧ KpW W w' := fun W h => wText_any b L1 D.p (by have := ok.p; omega) (by omega) W h
  obtain ⟨L2, hL2⟩ : ∃ L2, L2 = L1 ++ textE D.p := ⟨_, rfl⟩
  have z2 : L2.length ≤ 5000211 := by rw [hL2, List.length_append]; omega
  rw [← hL2] at k1 ⊢
  clear hL2 y1
  clear z0 z1 z2
  have x0 := hX.c0
  rw [hk] at x0
  have x1 := hX.c1
  go_enter Try.func53, Try.ntmps53
  go_wp2_with (first
    | (with_reducible refine wpList_load_opx (by with_unfolding_all rfl) _ rfl _ rfl hX hK ?_)
    | (go_at_call 94; (with_reducible refine (cR _ hV).mono ?_); rintro o1 w1 ⟨rfl, hb⟩; replace hX := hX.below hb; replace hB := hB.trans (hb.mono (Nat.le_of_lt hW.lt)); replace hV := hV.trans (hb.mono hV.size); replace hKp := hKp.trans (KpW.later hb); replace hW := hW.below hb; clear hb; clear x0 x1; have x0 := hX.c0; rw [hk] at x0; have x1 := hX.c1)
    | (go_at_call 95; (with_reducible refine (cH _).mono ?_); rintro o1 w1 ⟨rfl, hb⟩; have hF := Blk.new w1 121 #[.bool false, .bool false, .bool false, .bool false, .bool false, .bool false]; replace hb := hb.alloc hb.size (.cells #[.bool false, .bool false, .bool false, .bool false, .bool false, .bool false] 121); replace hX := hX.below hb; replace hB := hB.trans (hb.mono (Nat.le_of_lt hW.lt)); replace hV := hV.trans (hb.mono hV.size); replace hKp := hKp.trans (KpW.later hb); replace hW := hW.below hb; clear hb; clear x0 x1; have x0 := hX.c0; rw [hk] at x0; have x1 := hX.c1; have f0 := hF.cell_ (i := 0) rfl; have f1 := hF.cell_ (i := 1) rfl; have f2 := hF.cell_ (i := 2) rfl; have f3 := hF.cell_ (i := 3) rfl; have f4 := hF.cell_ (i := 4) rfl; have f5 := hF.cell_ (i := 5) rfl)
    | (go_at_call 19; (with_reducible refine (k0 _ hW).mono ?_); rintro o1 w1 ⟨rfl, hW1, hb, hk1⟩; replace hX := hX.kp hk1; replace hB := hB.trans hb; replace hV := hV.trans (hb.mono h0); replace hKp := hKp.trans hk1; replace hW := hW1; clear x0 x1; have x0 := hX.c0; rw [hk] at x0; have x1 := hX.c1; clear hb hk1 hW1)
    | (go_at_call 21; (with_reducible refine (k1 _ hW).mono ?_); rintro o1 w1 ⟨rfl, hW1, hb, hk1⟩; replace hX := hX.kp hk1; replace hB := hB.trans hb; replace hV := hV.trans (hb.mono h0); replace hKp := hKp.trans hk1; replace hW := hW1; clear x0 x1; have x0 := hX.c0; rw [hk] at x0; have x1 := hX.c1; clear hb hk1 hW1))
  go_ret
  exact ⟨rfl, hW, hB, hKp⟩

set_option maxRecDepth 100000 in
set_option maxHeartbeats 8000000 in
theorem oput_2 (b : Nat) (l : List UInt8) (D : OpD) (hK : D.K.length = 32) (A : Option Addr) (n c : Nat) (hlo : D.o.length = n) (bn : n ≤ 1000) (B : Option Addr) (m d : Nat) (hln : D.n.length = m) (bm : m ≤ 1000) (hl : l.length ≤ 5000000) (w0 w : World) (h0 : w0.heap.size ≤ b) (hw0 : Below w0.heap.size w0 w) (rA : Rd w0 A (D.o.map strV)) (rB : Rd w0 B (D.n.map strV)) (hW : Wrt b l w) (hk : D.k = 2) (hE : opE D = 0) :
    Calls Try.prog 53 #[.pointer (some ⟨b, 0, none⟩), .agg (opC D A n c B m d)] w fun o w' => o = .returned (.int .i64 0) ∧ Wrt b (l ++ opB D) w' ∧ Below b w w' ∧ KpW w w' := by
  have ok := opOk hE
  have hX := OpX.new w D A n c B m d
  have hb0 : Below w.heap.size w (w.alloc (.cells (opC D A n c B m d) 74)) := (Below.refl _ w).alloc (Nat.le_refl _) _
  have hKp : KpW w (w.alloc (.cells (opC D A n c B m d) 74)) := KpW.later hb0
  have hB := hb0.mono (Nat.le_of_lt hW.lt)
  have hV := hw0.trans (hb0.mono hw0.size)
  replace hW := hW.below hb0
  clear hb0
  have cR : ∀ W, Below w0.heap.size w0 W → Calls Try.prog 94 #[.agg (opC D A n c B m d)] W fun o w' => o = .returned (.int .i64 0) ∧ Below W.heap.size W w' := fun W h => by have z := oright_any D hK A n c hlo (by omega) B m d hln (by omega) W (rA.below h) (rB.below h); rwa [hE] at z
  have cH : ∀ W, Calls Try.prog 95 #[.int .i64 2] W fun o w' => o = .returned (.agg #[.bool false, .bool false, .bool true, .bool false, .bool false, .bool false]) ∧ Below W.heap.size W w' := fun W => has_any 2 W
  have hfin : l ++ opB D = l ++ [UInt8.ofNat 2] ++ textE D.p ++ textsE D.o := by
    unfold opB
    rw [hk]
    simp [List.append_assoc]
  rw [hfin]
  have HFIN := hid hfin
  clear hfin
  obtain ⟨L0, hL0⟩ : ∃ L0, L0 = l := ⟨_, rfl⟩
  rw [← hL0] at hW ⊢
  have z0 : L0.length ≤ 5000000 := by rw [hL0]; exact hl
  clear hL0
  have y0 : ([UInt8.ofNat 2]).length ≤ 1 := by simp
  have k0 : ∀ W, Wrt b L0 W → Calls Try.prog 19 #[.pointer (some ⟨b, 0, none⟩), .int .u8 2] W fun o w' => o = .returned (.tuple #[]) ∧ Wrt b (L0 ++ [UInt8.ofNat 2]) w' ∧ Below b W w' ∧ KpW W w' := fun W h => wByte_any b L0 (UInt8.ofNat 2) (by omega) W h
  obtain ⟨L1, hL1⟩ : ∃ L1, L1 = L0 ++ [UInt8.ofNat 2] := ⟨_, rfl⟩
  have z1 : L1.length ≤ 5000001 := by rw [hL1, List.length_append]; omega
  rw [← hL1] at k0 ⊢
  clear hL1 y0
  have y1 : (textE D.p).length ≤ 210 := by unfold textE; rw [List.length_append]; have := numE_len9 D.p.length (by have := ok.p; omega); have := ok.p; omega
  have k1 : ∀ W, Wrt b L1 W → Calls Try.prog 21 #[.pointer (some ⟨b, 0, none⟩), .string (txt D.p)] W fun o w' => o = .returned (.tuple #[]) ∧ Wrt b (L1 ++ textE D.p) w' ∧ Below b W w' ∧ KpW W w' := fun W h => wText_any b L1 D.p (by have := ok.p; omega) (by omega) W h
  obtain ⟨L2, hL2⟩ : ∃ L2, L2 = L1 ++ textE D.p := ⟨_, rfl⟩
  have z2 : L2.length ≤ 5000211 := by rw [hL2, List.length_append]; omega
  rw [← hL2] at k1 ⊢
  clear hL2 y1
  have y2 : (textsE D.o).length ≤ 1009010 := by unfold textsE; rw [List.length_append]; have := numE_len9 D.o.length (by omega); have := flatE_len2 D.o (fun x hx => by have := ok.o.2 x hx; omega); omega
  have k2 : ∀ W, Below w0.heap.size w0 W → Wrt b L2 W → Calls Try.prog 25 #[.pointer (some ⟨b, 0, none⟩), .slice A n c] W fun o w' => o = .returned (.tuple #[]) ∧ Wrt b (L2 ++ textsE D.o) w' ∧ Below b W w' ∧ KpW W w' := fun W hv h => wTexts_any b L2 A n c D.o hlo bn (fun x hx => by have := ok.o.2 x hx; omega) (by omega) w0 W h0 hv rA h
  obtain ⟨L3, hL3⟩ : ∃ L3, L3 = L2 ++ textsE D.o := ⟨_, rfl⟩
  have z3 : L3.length ≤ 6009221 := by rw [hL3, List.length_append]; omega
  rw [← hL3] at k2 ⊢
  clear hL3 y2
  clear z0 z1 z2 z3
  have x0 := hX.c0
  rw [hk] at x0
  have x1 := hX.c1
  have x4 := hX.c4
  go_enter Try.func53, Try.ntmps53
  go_wp2_with (first
    | (with_reducible refine wpList_load_opx (by with_unfolding_all rfl) _ rfl _ rfl hX hK ?_)
    | (go_at_call 94; (with_reducible refine (cR _ hV).mono ?_); rintro o1 w1 ⟨rfl, hb⟩; replace hX := hX.below hb; replace hB := hB.trans (hb.mono (Nat.le_of_lt hW.lt)); replace hV := hV.trans (hb.mono hV.size); replace hKp := hKp.trans (KpW.later hb); replace hW := hW.below hb; clear hb; clear x0 x1 x4; have x0 := hX.c0; rw [hk] at x0; have x1 := hX.c1; have x4 := hX.c4)
    | (go_at_call 95; (with_reducible refine (cH _).mono ?_); rintro o1 w1 ⟨rfl, hb⟩; have hF := Blk.new w1 121 #[.bool false, .bool false, .bool true, .bool false, .bool false, .bool false]; replace hb := hb.alloc hb.size (.cells #[.bool false, .bool false, .bool true, .bool false, .bool false, .bool false] 121); replace hX := hX.below hb; replace hB := hB.trans (hb.mono (Nat.le_of_lt hW.lt)); replace hV := hV.trans (hb.mono hV.size); replace hKp := hKp.trans (KpW.later hb); replace hW := hW.below hb; clear hb; clear x0 x1 x4; have x0 := hX.c0; rw [hk] at x0; have x1 := hX.c1; have x4 := hX.c4; have f0 := hF.cell_ (i := 0) rfl; have f1 := hF.cell_ (i := 1) rfl; have f2 := hF.cell_ (i := 2) rfl; have f3 := hF.cell_ (i := 3) rfl; have f4 := hF.cell_ (i := 4) rfl; have f5 := hF.cell_ (i := 5) rfl)
    | (go_at_call 19; (with_reducible refine (k0 _ hW).mono ?_); rintro o1 w1 ⟨rfl, hW1, hb, hk1⟩; replace hX := hX.kp hk1; replace hB := hB.trans hb; replace hV := hV.trans (hb.mono h0); replace hKp := hKp.trans hk1; replace hW := hW1; clear x0 x1 x4; have x0 := hX.c0; rw [hk] at x0; have x1 := hX.c1; have x4 := hX.c4; clear hb hk1 hW1)
    | (go_at_call 21; (with_reducible refine (k1 _ hW).mono ?_); rintro o1 w1 ⟨rfl, hW1, hb, hk1⟩; replace hX := hX.kp hk1; replace hB := hB.trans hb; replace hV := hV.trans (hb.mono h0); replace hKp := hKp.trans hk1; replace hW := hW1; clear x0 x1 x4; have x0 := hX.c0; rw [hk] at x0; have x1 := hX.c1; have x4 := hX.c4; clear hb hk1 hW1)
    | (go_at_call 25; (with_reducible refine (k2 _ hV hW).mono ?_); rintro o1 w1 ⟨rfl, hW1, hb, hk1⟩; replace hX := hX.kp hk1; replace hB := hB.trans hb; replace hV := hV.trans (hb.mono h0); replace hKp := hKp.trans hk1; replace hW := hW1; clear x0 x1 x4; have x0 := hX.c0; rw [hk] at x0; have x1 := hX.c1; have x4 := hX.c4; replace hF := hk1 _ _ _ (by decide) (by decide) hF; clear f0 f1 f2 f3 f4 f5; have f0 := hF.cell_ (i := 0) rfl; have f1 := hF.cell_ (i := 1) rfl; have f2 := hF.cell_ (i := 2) rfl; have f3 := hF.cell_ (i := 3) rfl; have f4 := hF.cell_ (i := 4) rfl; have f5 := hF.cell_ (i := 5) rfl; clear hb hk1 hW1))
  go_ret
  exact ⟨rfl, hW, hB, hKp⟩

set_option maxRecDepth 100000 in
set_option maxHeartbeats 8000000 in
theorem oput_3 (b : Nat) (l : List UInt8) (D : OpD) (hK : D.K.length = 32) (A : Option Addr) (n c : Nat) (hlo : D.o.length = n) (bn : n ≤ 1000) (B : Option Addr) (m d : Nat) (hln : D.n.length = m) (bm : m ≤ 1000) (hl : l.length ≤ 5000000) (w0 w : World) (h0 : w0.heap.size ≤ b) (hw0 : Below w0.heap.size w0 w) (rA : Rd w0 A (D.o.map strV)) (rB : Rd w0 B (D.n.map strV)) (hW : Wrt b l w) (hk : D.k = 3) (hE : opE D = 0) :
    Calls Try.prog 53 #[.pointer (some ⟨b, 0, none⟩), .agg (opC D A n c B m d)] w fun o w' => o = .returned (.int .i64 0) ∧ Wrt b (l ++ opB D) w' ∧ Below b w w' ∧ KpW w w' := by
  have ok := opOk hE
  have hX := OpX.new w D A n c B m d
  have hb0 : Below w.heap.size w (w.alloc (.cells (opC D A n c B m d) 74)) := (Below.refl _ w).alloc (Nat.le_refl _) _
  have hKp : KpW w (w.alloc (.cells (opC D A n c B m d) 74)) := KpW.later hb0
  have hB := hb0.mono (Nat.le_of_lt hW.lt)
  have hV := hw0.trans (hb0.mono hw0.size)
  replace hW := hW.below hb0
  clear hb0
  have cR : ∀ W, Below w0.heap.size w0 W → Calls Try.prog 94 #[.agg (opC D A n c B m d)] W fun o w' => o = .returned (.int .i64 0) ∧ Below W.heap.size W w' := fun W h => by have z := oright_any D hK A n c hlo (by omega) B m d hln (by omega) W (rA.below h) (rB.below h); rwa [hE] at z
  have cH : ∀ W, Calls Try.prog 95 #[.int .i64 3] W fun o w' => o = .returned (.agg #[.bool false, .bool true, .bool true, .bool true, .bool false, .bool false]) ∧ Below W.heap.size W w' := fun W => has_any 3 W
  obtain ⟨N, hN⟩ : ∃ N : Nat, D.a = N := ⟨D.a.toNat, by have := ok.a; omega⟩
  have bN : N ≤ 1000 := by have := ok.a; omega
  have HN := hid hN
  have hfin : l ++ opB D = l ++ [UInt8.ofNat 3] ++ textE D.p ++ numE N ++ textsE D.o ++ textsE D.n := by
    unfold opB
    rw [hk, hN]
    simp [List.append_assoc]
  rw [hfin]
  have HFIN := hid hfin
  clear hfin hN
  obtain ⟨L0, hL0⟩ : ∃ L0, L0 = l := ⟨_, rfl⟩
  rw [← hL0] at hW ⊢
  have z0 : L0.length ≤ 5000000 := by rw [hL0]; exact hl
  clear hL0
  have y0 : ([UInt8.ofNat 3]).length ≤ 1 := by simp
  have k0 : ∀ W, Wrt b L0 W → Calls Try.prog 19 #[.pointer (some ⟨b, 0, none⟩), .int .u8 3] W fun o w' => o = .returned (.tuple #[]) ∧ Wrt b (L0 ++ [UInt8.ofNat 3]) w' ∧ Below b W w' ∧ KpW W w' := fun W h => wByte_any b L0 (UInt8.ofNat 3) (by omega) W h
  obtain ⟨L1, hL1⟩ : ∃ L1, L1 = L0 ++ [UInt8.ofNat 3] := ⟨_, rfl⟩
  have z1 : L1.length ≤ 5000001 := by rw [hL1, List.length_append]; omega
  rw [← hL1] at k0 ⊢
  clear hL1 y0
  have y1 : (textE D.p).length ≤ 210 := by unfold textE; rw [List.length_append]; have := numE_len9 D.p.length (by have := ok.p; omega); have := ok.p; omega
  have k1 : ∀ W, Wrt b L1 W → Calls Try.prog 21 #[.pointer (some ⟨b, 0, none⟩), .string (txt D.p)] W fun o w' => o = .returned (.tuple #[]) ∧ Wrt b (L1 ++ textE D.p) w' ∧ Below b W w' ∧ KpW W w' := fun W h => wText_any b L1 D.p (by have := ok.p; omega) (by omega) W h
  obtain ⟨L2, hL2⟩ : ∃ L2, L2 = L1 ++ textE D.p := ⟨_, rfl⟩
  have z2 : L2.length ≤ 5000211 := by rw [hL2, List.length_append]; omega
  rw [← hL2] at k1 ⊢
  clear hL2 y1
  have y2 : (numE N).length ≤ 9 := numE_len9 N (by omega)
  have k2 : ∀ W, Wrt b L2 W → Calls Try.prog 20 #[.pointer (some ⟨b, 0, none⟩), .int .i64 (N : Int)] W fun o w' => o = .returned (.bool true) ∧ Wrt b (L2 ++ numE N) w' ∧ Below b W w' ∧ KpW W w' := fun W h => wNum_any b L2 N (by omega) (by omega) W h
  obtain ⟨L3, hL3⟩ : ∃ L3, L3 = L2 ++ numE N := ⟨_, rfl⟩
  have z3 : L3.length ≤ 5000220 := by rw [hL3, List.length_append]; omega
  rw [← hL3] at k2 ⊢
  clear hL3 y2
  have y3 : (textsE D.o).length ≤ 1009010 := by unfold textsE; rw [List.length_append]; have := numE_len9 D.o.length (by omega); have := flatE_len2 D.o (fun x hx => by have := ok.o.2 x hx; omega); omega
  have k3 : ∀ W, Below w0.heap.size w0 W → Wrt b L3 W → Calls Try.prog 25 #[.pointer (some ⟨b, 0, none⟩), .slice A n c] W fun o w' => o = .returned (.tuple #[]) ∧ Wrt b (L3 ++ textsE D.o) w' ∧ Below b W w' ∧ KpW W w' := fun W hv h => wTexts_any b L3 A n c D.o hlo bn (fun x hx => by have := ok.o.2 x hx; omega) (by omega) w0 W h0 hv rA h
  obtain ⟨L4, hL4⟩ : ∃ L4, L4 = L3 ++ textsE D.o := ⟨_, rfl⟩
  have z4 : L4.length ≤ 6009230 := by rw [hL4, List.length_append]; omega
  rw [← hL4] at k3 ⊢
  clear hL4 y3
  have y4 : (textsE D.n).length ≤ 1009010 := by unfold textsE; rw [List.length_append]; have := numE_len9 D.n.length (by omega); have := flatE_len2 D.n (fun x hx => by have := ok.n.2 x hx; omega); omega
  have k4 : ∀ W, Below w0.heap.size w0 W → Wrt b L4 W → Calls Try.prog 25 #[.pointer (some ⟨b, 0, none⟩), .slice B m d] W fun o w' => o = .returned (.tuple #[]) ∧ Wrt b (L4 ++ textsE D.n) w' ∧ Below b W w' ∧ KpW W w' := fun W hv h => wTexts_any b L4 B m d D.n hln bm (fun x hx => by have := ok.n.2 x hx; omega) (by omega) w0 W h0 hv rB h
  obtain ⟨L5, hL5⟩ : ∃ L5, L5 = L4 ++ textsE D.n := ⟨_, rfl⟩
  have z5 : L5.length ≤ 7018240 := by rw [hL5, List.length_append]; omega
  rw [← hL5] at k4 ⊢
  clear hL5 y4
  clear z0 z1 z2 z3 z4 z5
  have x0 := hX.c0
  rw [hk] at x0
  have x1 := hX.c1
  have x3 := hX.c3
  rw [HN.out] at x3
  have x4 := hX.c4
  have x5 := hX.c5
  go_enter Try.func53, Try.ntmps53
  go_wp2_with (first
    | (with_reducible refine wpList_load_opx (by with_unfolding_all rfl) _ rfl _ rfl hX hK ?_)
    | (go_at_call 94; (with_reducible refine (cR _ hV).mono ?_); rintro o1 w1 ⟨rfl, hb⟩; replace hX := hX.below hb; replace hB := hB.trans (hb.mono (Nat.le_of_lt hW.lt)); replace hV := hV.trans (hb.mono hV.size); replace hKp := hKp.trans (KpW.later hb); replace hW := hW.below hb; clear hb; clear x0 x1 x3 x4 x5; have x0 := hX.c0; rw [hk] at x0; have x1 := hX.c1; have x3 := hX.c3; rw [HN.out] at x3; have x4 := hX.c4; have x5 := hX.c5)
    | (go_at_call 95; (with_reducible refine (cH _).mono ?_); rintro o1 w1 ⟨rfl, hb⟩; have hF := Blk.new w1 121 #[.bool false, .bool true, .bool true, .bool true, .bool false, .bool false]; replace hb := hb.alloc hb.size (.cells #[.bool false, .bool true, .bool true, .bool true, .bool false, .bool false] 121); replace hX := hX.below hb; replace hB := hB.trans (hb.mono (Nat.le_of_lt hW.lt)); replace hV := hV.trans (hb.mono hV.size); replace hKp := hKp.trans (KpW.later hb); replace hW := hW.below hb; clear hb; clear x0 x1 x3 x4 x5; have x0 := hX.c0; rw [hk] at x0; have x1 := hX.c1; have x3 := hX.c3; rw [HN.out] at x3; have x4 := hX.c4; have x5 := hX.c5; have f0 := hF.cell_ (i := 0) rfl; have f1 := hF.cell_ (i := 1) rfl; have f2 := hF.cell_ (i := 2) rfl; have f3 := hF.cell_ (i := 3) rfl; have f4 := hF.cell_ (i := 4) rfl; have f5 := hF.cell_ (i := 5) rfl)
    | (go_at_call 19; (with_reducible refine (k0 _ hW).mono ?_); rintro o1 w1 ⟨rfl, hW1, hb, hk1⟩; replace hX := hX.kp hk1; replace hB := hB.trans hb; replace hV := hV.trans (hb.mono h0); replace hKp := hKp.trans hk1; replace hW := hW1; clear x0 x1 x3 x4 x5; have x0 := hX.c0; rw [hk] at x0; have x1 := hX.c1; have x3 := hX.c3; rw [HN.out] at x3; have x4 := hX.c4; have x5 := hX.c5; clear hb hk1 hW1)
    | (go_at_call 21; (with_reducible refine (k1 _ hW).mono ?_); rintro o1 w1 ⟨rfl, hW1, hb, hk1⟩; replace hX := hX.kp hk1; replace hB := hB.trans hb; replace hV := hV.trans (hb.mono h0); replace hKp := hKp.trans hk1; replace hW := hW1; clear x0 x1 x3 x4 x5; have x0 := hX.c0; rw [hk] at x0; have x1 := hX.c1; have x3 := hX.c3; rw [HN.out] at x3; have x4 := hX.c4; have x5 := hX.c5; clear hb hk1 hW1)
    | (go_at_call 20; (with_reducible refine (k2 _ hW).mono ?_); rintro o1 w1 ⟨rfl, hW1, hb, hk1⟩; replace hX := hX.kp hk1; replace hB := hB.trans hb; replace hV := hV.trans (hb.mono h0); replace hKp := hKp.trans hk1; replace hW := hW1; clear x0 x1 x3 x4 x5; have x0 := hX.c0; rw [hk] at x0; have x1 := hX.c1; have x3 := hX.c3; rw [HN.out] at x3; have x4 := hX.c4; have x5 := hX.c5; replace hF := hk1 _ _ _ (by decide) (by decide) hF; clear f0 f1 f2 f3 f4 f5; have f0 := hF.cell_ (i := 0) rfl; have f1 := hF.cell_ (i := 1) rfl; have f2 := hF.cell_ (i := 2) rfl; have f3 := hF.cell_ (i := 3) rfl; have f4 := hF.cell_ (i := 4) rfl; have f5 := hF.cell_ (i := 5) rfl; clear hb hk1 hW1)
    | (go_at_call 25; (with_reducible refine (k3 _ hV hW).mono ?_); rintro o1 w1 ⟨rfl, hW1, hb, hk1⟩; replace hX := hX.kp hk1; replace hB := hB.trans hb; replace hV := hV.trans (hb.mono h0); replace hKp := hKp.trans hk1; replace hW := hW1; clear x0 x1 x3 x4 x5; have x0 := hX.c0; rw [hk] at x0; have x1 := hX.c1; have x3 := hX.c3; rw [HN.out] at x3; have x4 := hX.c4; have x5 := hX.c5; replace hF := hk1 _ _ _ (by decide) (by decide) hF; clear f0 f1 f2 f3 f4 f5; have f0 := hF.cell_ (i := 0) rfl; have f1 := hF.cell_ (i := 1) rfl; have f2 := hF.cell_ (i := 2) rfl; have f3 := hF.cell_ (i := 3) rfl; have f4 := hF.cell_ (i := 4) rfl; have f5 := hF.cell_ (i := 5) rfl; clear hb hk1 hW1)
    | (go_at_call 25; (with_reducible refine (k4 _ hV hW).mono ?_); rintro o1 w1 ⟨rfl, hW1, hb, hk1⟩; replace hX := hX.kp hk1; replace hB := hB.trans hb; replace hV := hV.trans (hb.mono h0); replace hKp := hKp.trans hk1; replace hW := hW1; clear x0 x1 x3 x4 x5; have x0 := hX.c0; rw [hk] at x0; have x1 := hX.c1; have x3 := hX.c3; rw [HN.out] at x3; have x4 := hX.c4; have x5 := hX.c5; replace hF := hk1 _ _ _ (by decide) (by decide) hF; clear f0 f1 f2 f3 f4 f5; have f0 := hF.cell_ (i := 0) rfl; have f1 := hF.cell_ (i := 1) rfl; have f2 := hF.cell_ (i := 2) rfl; have f3 := hF.cell_ (i := 3) rfl; have f4 := hF.cell_ (i := 4) rfl; have f5 := hF.cell_ (i := 5) rfl; clear hb hk1 hW1))
  go_ret
  exact ⟨rfl, hW, hB, hKp⟩

set_option maxRecDepth 100000 in
set_option maxHeartbeats 8000000 in
theorem oput_4 (b : Nat) (l : List UInt8) (D : OpD) (hK : D.K.length = 32) (A : Option Addr) (n c : Nat) (hlo : D.o.length = n) (bn : n ≤ 1000) (B : Option Addr) (m d : Nat) (hln : D.n.length = m) (bm : m ≤ 1000) (hl : l.length ≤ 5000000) (w0 w : World) (h0 : w0.heap.size ≤ b) (hw0 : Below w0.heap.size w0 w) (rA : Rd w0 A (D.o.map strV)) (rB : Rd w0 B (D.n.map strV)) (hW : Wrt b l w) (hk : D.k = 4) (hE : opE D = 0) :
    Calls Try.prog 53 #[.pointer (some ⟨b, 0, none⟩), .agg (opC D A n c B m d)] w fun o w' => o = .returned (.int .i64 0) ∧ Wrt b (l ++ opB D) w' ∧ Below b w w' ∧ KpW w w' := by
  have ok := opOk hE
  have hX := OpX.new w D A n c B m d
  have hb0 : Below w.heap.size w (w.alloc (.cells (opC D A n c B m d) 74)) := (Below.refl _ w).alloc (Nat.le_refl _) _
  have hKp : KpW w (w.alloc (.cells (opC D A n c B m d) 74)) := KpW.later hb0
  have hB := hb0.mono (Nat.le_of_lt hW.lt)
  have hV := hw0.trans (hb0.mono hw0.size)
  replace hW := hW.below hb0
  clear hb0
  have cR : ∀ W, Below w0.heap.size w0 W → Calls Try.prog 94 #[.agg (opC D A n c B m d)] W fun o w' => o = .returned (.int .i64 0) ∧ Below W.heap.size W w' := fun W h => by have z := oright_any D hK A n c hlo (by omega) B m d hln (by omega) W (rA.below h) (rB.below h); rwa [hE] at z
  have cH : ∀ W, Calls Try.prog 95 #[.int .i64 4] W fun o w' => o = .returned (.agg #[.bool true, .bool false, .bool false, .bool false, .bool false, .bool false]) ∧ Below W.heap.size W w' := fun W => has_any 4 W
  have hfin : l ++ opB D = l ++ [UInt8.ofNat 4] ++ textE D.p ++ textE D.t := by
    unfold opB
    rw [hk]
    simp [List.append_assoc]
  rw [hfin]
  have HFIN := hid hfin
  clear hfin
  obtain ⟨L0, hL0⟩ : ∃ L0, L0 = l := ⟨_, rfl⟩
  rw [← hL0] at hW ⊢
  have z0 : L0.length ≤ 5000000 := by rw [hL0]; exact hl
  clear hL0
  have y0 : ([UInt8.ofNat 4]).length ≤ 1 := by simp
  have k0 : ∀ W, Wrt b L0 W → Calls Try.prog 19 #[.pointer (some ⟨b, 0, none⟩), .int .u8 4] W fun o w' => o = .returned (.tuple #[]) ∧ Wrt b (L0 ++ [UInt8.ofNat 4]) w' ∧ Below b W w' ∧ KpW W w' := fun W h => wByte_any b L0 (UInt8.ofNat 4) (by omega) W h
  obtain ⟨L1, hL1⟩ : ∃ L1, L1 = L0 ++ [UInt8.ofNat 4] := ⟨_, rfl⟩
  have z1 : L1.length ≤ 5000001 := by rw [hL1, List.length_append]; omega
  rw [← hL1] at k0 ⊢
  clear hL1 y0
  have y1 : (textE D.p).length ≤ 210 := by unfold textE; rw [List.length_append]; have := numE_len9 D.p.length (by have := ok.p; omega); have := ok.p; omega
  have k1 : ∀ W, Wrt b L1 W → Calls Try.prog 21 #[.pointer (some ⟨b, 0, none⟩), .string (txt D.p)] W fun o w' => o = .returned (.tuple #[]) ∧ Wrt b (L1 ++ textE D.p) w' ∧ Below b W w' ∧ KpW W w' := fun W h => wText_any b L1 D.p (by have := ok.p; omega) (by omega) W h
  obtain ⟨L2, hL2⟩ : ∃ L2, L2 = L1 ++ textE D.p := ⟨_, rfl⟩
  have z2 : L2.length ≤ 5000211 := by rw [hL2, List.length_append]; omega
  rw [← hL2] at k1 ⊢
  clear hL2 y1
  have y2 : (textE D.t).length ≤ 210 := by unfold textE; rw [List.length_append]; have := numE_len9 D.t.length (by have := ok.t; omega); have := ok.t; omega
  have k2 : ∀ W, Wrt b L2 W → Calls Try.prog 21 #[.pointer (some ⟨b, 0, none⟩), .string (txt D.t)] W fun o w' => o = .returned (.tuple #[]) ∧ Wrt b (L2 ++ textE D.t) w' ∧ Below b W w' ∧ KpW W w' := fun W h => wText_any b L2 D.t (by have := ok.t; omega) (by omega) W h
  obtain ⟨L3, hL3⟩ : ∃ L3, L3 = L2 ++ textE D.t := ⟨_, rfl⟩
  have z3 : L3.length ≤ 5000421 := by rw [hL3, List.length_append]; omega
  rw [← hL3] at k2 ⊢
  clear hL3 y2
  clear z0 z1 z2 z3
  have x0 := hX.c0
  rw [hk] at x0
  have x1 := hX.c1
  have x2 := hX.c2
  go_enter Try.func53, Try.ntmps53
  go_wp2_with (first
    | (with_reducible refine wpList_load_opx (by with_unfolding_all rfl) _ rfl _ rfl hX hK ?_)
    | (go_at_call 94; (with_reducible refine (cR _ hV).mono ?_); rintro o1 w1 ⟨rfl, hb⟩; replace hX := hX.below hb; replace hB := hB.trans (hb.mono (Nat.le_of_lt hW.lt)); replace hV := hV.trans (hb.mono hV.size); replace hKp := hKp.trans (KpW.later hb); replace hW := hW.below hb; clear hb; clear x0 x1 x2; have x0 := hX.c0; rw [hk] at x0; have x1 := hX.c1; have x2 := hX.c2)
    | (go_at_call 95; (with_reducible refine (cH _).mono ?_); rintro o1 w1 ⟨rfl, hb⟩; have hF := Blk.new w1 121 #[.bool true, .bool false, .bool false, .bool false, .bool false, .bool false]; replace hb := hb.alloc hb.size (.cells #[.bool true, .bool false, .bool false, .bool false, .bool false, .bool false] 121); replace hX := hX.below hb; replace hB := hB.trans (hb.mono (Nat.le_of_lt hW.lt)); replace hV := hV.trans (hb.mono hV.size); replace hKp := hKp.trans (KpW.later hb); replace hW := hW.below hb; clear hb; clear x0 x1 x2; have x0 := hX.c0; rw [hk] at x0; have x1 := hX.c1; have x2 := hX.c2; have f0 := hF.cell_ (i := 0) rfl; have f1 := hF.cell_ (i := 1) rfl; have f2 := hF.cell_ (i := 2) rfl; have f3 := hF.cell_ (i := 3) rfl; have f4 := hF.cell_ (i := 4) rfl; have f5 := hF.cell_ (i := 5) rfl)
    | (go_at_call 19; (with_reducible refine (k0 _ hW).mono ?_); rintro o1 w1 ⟨rfl, hW1, hb, hk1⟩; replace hX := hX.kp hk1; replace hB := hB.trans hb; replace hV := hV.trans (hb.mono h0); replace hKp := hKp.trans hk1; replace hW := hW1; clear x0 x1 x2; have x0 := hX.c0; rw [hk] at x0; have x1 := hX.c1; have x2 := hX.c2; clear hb hk1 hW1)
    | (go_at_call 21; (with_reducible refine (k1 _ hW).mono ?_); rintro o1 w1 ⟨rfl, hW1, hb, hk1⟩; replace hX := hX.kp hk1; replace hB := hB.trans hb; replace hV := hV.trans (hb.mono h0); replace hKp := hKp.trans hk1; replace hW := hW1; clear x0 x1 x2; have x0 := hX.c0; rw [hk] at x0; have x1 := hX.c1; have x2 := hX.c2; clear hb hk1 hW1)
    | (go_at_call 21; (with_reducible refine (k2 _ hW).mono ?_); rintro o1 w1 ⟨rfl, hW1, hb, hk1⟩; replace hX := hX.kp hk1; replace hB := hB.trans hb; replace hV := hV.trans (hb.mono h0); replace hKp := hKp.trans hk1; replace hW := hW1; clear x0 x1 x2; have x0 := hX.c0; rw [hk] at x0; have x1 := hX.c1; have x2 := hX.c2; replace hF := hk1 _ _ _ (by decide) (by decide) hF; clear f0 f1 f2 f3 f4 f5; have f0 := hF.cell_ (i := 0) rfl; have f1 := hF.cell_ (i := 1) rfl; have f2 := hF.cell_ (i := 2) rfl; have f3 := hF.cell_ (i := 3) rfl; have f4 := hF.cell_ (i := 4) rfl; have f5 := hF.cell_ (i := 5) rfl; clear hb hk1 hW1))
  go_ret
  exact ⟨rfl, hW, hB, hKp⟩

set_option maxRecDepth 100000 in
set_option maxHeartbeats 8000000 in
theorem oput_5 (b : Nat) (l : List UInt8) (D : OpD) (hK : D.K.length = 32) (A : Option Addr) (n c : Nat) (hlo : D.o.length = n) (bn : n ≤ 1000) (B : Option Addr) (m d : Nat) (hln : D.n.length = m) (bm : m ≤ 1000) (hl : l.length ≤ 5000000) (w0 w : World) (h0 : w0.heap.size ≤ b) (hw0 : Below w0.heap.size w0 w) (rA : Rd w0 A (D.o.map strV)) (rB : Rd w0 B (D.n.map strV)) (hW : Wrt b l w) (hk : D.k = 5) (hE : opE D = 0) :
    Calls Try.prog 53 #[.pointer (some ⟨b, 0, none⟩), .agg (opC D A n c B m d)] w fun o w' => o = .returned (.int .i64 0) ∧ Wrt b (l ++ opB D) w' ∧ Below b w w' ∧ KpW w w' := by
  have ok := opOk hE
  have hX := OpX.new w D A n c B m d
  have hb0 : Below w.heap.size w (w.alloc (.cells (opC D A n c B m d) 74)) := (Below.refl _ w).alloc (Nat.le_refl _) _
  have hKp : KpW w (w.alloc (.cells (opC D A n c B m d) 74)) := KpW.later hb0
  have hB := hb0.mono (Nat.le_of_lt hW.lt)
  have hV := hw0.trans (hb0.mono hw0.size)
  replace hW := hW.below hb0
  clear hb0
  have cR : ∀ W, Below w0.heap.size w0 W → Calls Try.prog 94 #[.agg (opC D A n c B m d)] W fun o w' => o = .returned (.int .i64 0) ∧ Below W.heap.size W w' := fun W h => by have z := oright_any D hK A n c hlo (by omega) B m d hln (by omega) W (rA.below h) (rB.below h); rwa [hE] at z
  have cH : ∀ W, Calls Try.prog 95 #[.int .i64 5] W fun o w' => o = .returned (.agg #[.bool false, .bool false, .bool false, .bool false, .bool true, .bool true]) ∧ Below W.heap.size W w' := fun W => has_any 5 W
  obtain ⟨M, hM⟩ : ∃ M : Nat, D.d = M := ⟨D.d.toNat, by have := ok.d; omega⟩
  have bM : M ≤ 8 := by have := ok.d; omega
  have HM := hid hM
  have hfin : l ++ opB D = l ++ [UInt8.ofNat 5] ++ textE D.p ++ D.K ++ numE M := by
    unfold opB
    rw [hk, hM]
    simp [List.append_assoc]
  rw [hfin]
  have HFIN := hid hfin
  clear hfin hM
  obtain ⟨L0, hL0⟩ : ∃ L0, L0 = l := ⟨_, rfl⟩
  rw [← hL0] at hW ⊢
  have z0 : L0.length ≤ 5000000 := by rw [hL0]; exact hl
  clear hL0
  have y0 : ([UInt8.ofNat 5]).length ≤ 1 := by simp
  have k0 : ∀ W, Wrt b L0 W → Calls Try.prog 19 #[.pointer (some ⟨b, 0, none⟩), .int .u8 5] W fun o w' => o = .returned (.tuple #[]) ∧ Wrt b (L0 ++ [UInt8.ofNat 5]) w' ∧ Below b W w' ∧ KpW W w' := fun W h => wByte_any b L0 (UInt8.ofNat 5) (by omega) W h
  obtain ⟨L1, hL1⟩ : ∃ L1, L1 = L0 ++ [UInt8.ofNat 5] := ⟨_, rfl⟩
  have z1 : L1.length ≤ 5000001 := by rw [hL1, List.length_append]; omega
  rw [← hL1] at k0 ⊢
  clear hL1 y0
  have y1 : (textE D.p).length ≤ 210 := by unfold textE; rw [List.length_append]; have := numE_len9 D.p.length (by have := ok.p; omega); have := ok.p; omega
  have k1 : ∀ W, Wrt b L1 W → Calls Try.prog 21 #[.pointer (some ⟨b, 0, none⟩), .string (txt D.p)] W fun o w' => o = .returned (.tuple #[]) ∧ Wrt b (L1 ++ textE D.p) w' ∧ Below b W w' ∧ KpW W w' := fun W h => wText_any b L1 D.p (by have := ok.p; omega) (by omega) W h
  obtain ⟨L2, hL2⟩ : ∃ L2, L2 = L1 ++ textE D.p := ⟨_, rfl⟩
  have z2 : L2.length ≤ 5000211 := by rw [hL2, List.length_append]; omega
  rw [← hL2] at k1 ⊢
  clear hL2 y1
  have y2 : (D.K).length ≤ 32 := by omega
  have k2 : ∀ W, Wrt b L2 W → Calls Try.prog 22 #[.pointer (some ⟨b, 0, none⟩), .agg (D.K.map u8v).toArray] W fun o w' => o = .returned (.tuple #[]) ∧ Wrt b (L2 ++ D.K) w' ∧ Below b W w' ∧ KpW W w' := fun W h => wId_any b L2 D.K hK (by omega) W h
  obtain ⟨L3, hL3⟩ : ∃ L3, L3 = L2 ++ D.K := ⟨_, rfl⟩
  have z3 : L3.length ≤ 5000243 := by rw [hL3, List.length_append]; omega
  rw [← hL3] at k2 ⊢
  clear hL3 y2
  have y3 : (numE M).length ≤ 9 := numE_len9 M (by omega)
  have k3 : ∀ W, Wrt b L3 W → Calls Try.prog 20 #[.pointer (some ⟨b, 0, none⟩), .int .i64 (M : Int)] W fun o w' => o = .returned (.bool true) ∧ Wrt b (L3 ++ numE M) w' ∧ Below b W w' ∧ KpW W w' := fun W h => wNum_any b L3 M (by omega) (by omega) W h
  obtain ⟨L4, hL4⟩ : ∃ L4, L4 = L3 ++ numE M := ⟨_, rfl⟩
  have z4 : L4.length ≤ 5000252 := by rw [hL4, List.length_append]; omega
  rw [← hL4] at k3 ⊢
  clear hL4 y3
  clear z0 z1 z2 z3 z4
  have x0 := hX.c0
  rw [hk] at x0
  have x1 := hX.c1
  have x38 := hX.c38 hK
  rw [HM.out] at x38
  have xK := hX.key
  have hu := Try.underlying24
  have hHZ : (Try.prog.info? 24).map (·.size) = some (D.K.map u8v).length := by rw [List.length_map, hK]; exact sizeId
  go_enter Try.func53, Try.ntmps53
  go_wp2_with (first
    | (with_reducible refine wpList_load_opx (by with_unfolding_all rfl) _ rfl _ rfl hX hK ?_)
    | (with_reducible refine wpList_load_if (by with_unfolding_all rfl) 24 _ rfl _ _ rfl (D.K.map u8v) _ xK hu (by with_unfolding_all rfl) hHZ ?_)
    | (go_at_call 94; (with_reducible refine (cR _ hV).mono ?_); rintro o1 w1 ⟨rfl, hb⟩; replace hX := hX.below hb; replace hB := hB.trans (hb.mono (Nat.le_of_lt hW.lt)); replace hV := hV.trans (hb.mono hV.size); replace hKp := hKp.trans (KpW.later hb); replace hW := hW.below hb; clear hb; clear x0 x1 x38 xK; have x0 := hX.c0; rw [hk] at x0; have x1 := hX.c1; have x38 := hX.c38 hK; rw [HM.out] at x38; have xK := hX.key)
    | (go_at_call 95; (with_reducible refine (cH _).mono ?_); rintro o1 w1 ⟨rfl, hb⟩; have hF := Blk.new w1 121 #[.bool false, .bool false, .bool false, .bool false, .bool true, .bool true]; replace hb := hb.alloc hb.size (.cells #[.bool false, .bool false, .bool false, .bool false, .bool true, .bool true] 121); replace hX := hX.below hb; replace hB := hB.trans (hb.mono (Nat.le_of_lt hW.lt)); replace hV := hV.trans (hb.mono hV.size); replace hKp := hKp.trans (KpW.later hb); replace hW := hW.below hb; clear hb; clear x0 x1 x38 xK; have x0 := hX.c0; rw [hk] at x0; have x1 := hX.c1; have x38 := hX.c38 hK; rw [HM.out] at x38; have xK := hX.key; have f0 := hF.cell_ (i := 0) rfl; have f1 := hF.cell_ (i := 1) rfl; have f2 := hF.cell_ (i := 2) rfl; have f3 := hF.cell_ (i := 3) rfl; have f4 := hF.cell_ (i := 4) rfl; have f5 := hF.cell_ (i := 5) rfl)
    | (go_at_call 19; (with_reducible refine (k0 _ hW).mono ?_); rintro o1 w1 ⟨rfl, hW1, hb, hk1⟩; replace hX := hX.kp hk1; replace hB := hB.trans hb; replace hV := hV.trans (hb.mono h0); replace hKp := hKp.trans hk1; replace hW := hW1; clear x0 x1 x38 xK; have x0 := hX.c0; rw [hk] at x0; have x1 := hX.c1; have x38 := hX.c38 hK; rw [HM.out] at x38; have xK := hX.key; clear hb hk1 hW1)
    | (go_at_call 21; (with_reducible refine (k1 _ hW).mono ?_); rintro o1 w1 ⟨rfl, hW1, hb, hk1⟩; replace hX := hX.kp hk1; replace hB := hB.trans hb; replace hV := hV.trans (hb.mono h0); replace hKp := hKp.trans hk1; replace hW := hW1; clear x0 x1 x38 xK; have x0 := hX.c0; rw [hk] at x0; have x1 := hX.c1; have x38 := hX.c38 hK; rw [HM.out] at x38; have xK := hX.key; clear hb hk1 hW1)
    | (go_at_call 22; (with_reducible refine (k2 _ hW).mono ?_); rintro o1 w1 ⟨rfl, hW1, hb, hk1⟩; replace hX := hX.kp hk1; replace hB := hB.trans hb; replace hV := hV.trans (hb.mono h0); replace hKp := hKp.trans hk1; replace hW := hW1; clear x0 x1 x38 xK; have x0 := hX.c0; rw [hk] at x0; have x1 := hX.c1; have x38 := hX.c38 hK; rw [HM.out] at x38; have xK := hX.key; replace hF := hk1 _ _ _ (by decide) (by decide) hF; clear f0 f1 f2 f3 f4 f5; have f0 := hF.cell_ (i := 0) rfl; have f1 := hF.cell_ (i := 1) rfl; have f2 := hF.cell_ (i := 2) rfl; have f3 := hF.cell_ (i := 3) rfl; have f4 := hF.cell_ (i := 4) rfl; have f5 := hF.cell_ (i := 5) rfl; clear hb hk1 hW1)
    | (go_at_call 20; (with_reducible refine (k3 _ hW).mono ?_); rintro o1 w1 ⟨rfl, hW1, hb, hk1⟩; replace hX := hX.kp hk1; replace hB := hB.trans hb; replace hV := hV.trans (hb.mono h0); replace hKp := hKp.trans hk1; replace hW := hW1; clear x0 x1 x38 xK; have x0 := hX.c0; rw [hk] at x0; have x1 := hX.c1; have x38 := hX.c38 hK; rw [HM.out] at x38; have xK := hX.key; replace hF := hk1 _ _ _ (by decide) (by decide) hF; clear f0 f1 f2 f3 f4 f5; have f0 := hF.cell_ (i := 0) rfl; have f1 := hF.cell_ (i := 1) rfl; have f2 := hF.cell_ (i := 2) rfl; have f3 := hF.cell_ (i := 3) rfl; have f4 := hF.cell_ (i := 4) rfl; have f5 := hF.cell_ (i := 5) rfl; clear hb hk1 hW1))
  go_ret
  exact ⟨rfl, hW, hB, hKp⟩

set_option maxRecDepth 100000 in
set_option maxHeartbeats 8000000 in
theorem oput_6 (b : Nat) (l : List UInt8) (D : OpD) (hK : D.K.length = 32) (A : Option Addr) (n c : Nat) (hlo : D.o.length = n) (bn : n ≤ 1000) (B : Option Addr) (m d : Nat) (hln : D.n.length = m) (bm : m ≤ 1000) (hl : l.length ≤ 5000000) (w0 w : World) (h0 : w0.heap.size ≤ b) (hw0 : Below w0.heap.size w0 w) (rA : Rd w0 A (D.o.map strV)) (rB : Rd w0 B (D.n.map strV)) (hW : Wrt b l w) (hk : D.k = 6) (hE : opE D = 0) :
    Calls Try.prog 53 #[.pointer (some ⟨b, 0, none⟩), .agg (opC D A n c B m d)] w fun o w' => o = .returned (.int .i64 0) ∧ Wrt b (l ++ opB D) w' ∧ Below b w w' ∧ KpW w w' := by
  have ok := opOk hE
  have hX := OpX.new w D A n c B m d
  have hb0 : Below w.heap.size w (w.alloc (.cells (opC D A n c B m d) 74)) := (Below.refl _ w).alloc (Nat.le_refl _) _
  have hKp : KpW w (w.alloc (.cells (opC D A n c B m d) 74)) := KpW.later hb0
  have hB := hb0.mono (Nat.le_of_lt hW.lt)
  have hV := hw0.trans (hb0.mono hw0.size)
  replace hW := hW.below hb0
  clear hb0
  have cR : ∀ W, Below w0.heap.size w0 W → Calls Try.prog 94 #[.agg (opC D A n c B m d)] W fun o w' => o = .returned (.int .i64 0) ∧ Below W.heap.size W w' := fun W h => by have z := oright_any D hK A n c hlo (by omega) B m d hln (by omega) W (rA.below h) (rB.below h); rwa [hE] at z
  have cH : ∀ W, Calls Try.prog 95 #[.int .i64 6] W fun o w' => o = .returned (.agg #[.bool false, .bool false, .bool false, .bool false, .bool true, .bool false]) ∧ Below W.heap.size W w' := fun W => has_any 6 W
  have hfin : l ++ opB D = l ++ [UInt8.ofNat 6] ++ textE D.p ++ D.K := by
    unfold opB
    rw [hk]
    simp [List.append_assoc]
  rw [hfin]
  have HFIN := hid hfin
  clear hfin
  obtain ⟨L0, hL0⟩ : ∃ L0, L0 = l := ⟨_, rfl⟩
  rw [← hL0] at hW ⊢
  have z0 : L0.length ≤ 5000000 := by rw [hL0]; exact hl
  clear hL0
  have y0 : ([UInt8.ofNat 6]).length ≤ 1 := by simp
  have k0 : ∀ W, Wrt b L0 W → Calls Try.prog 19 #[.pointer (some ⟨b, 0, none⟩), .int .u8 6] W fun o w' => o = .returned (.tuple #[]) ∧ Wrt b (L0 ++ [UInt8.ofNat 6]) w' ∧ Below b W w' ∧ KpW W w' := fun W h => wByte_any b L0 (UInt8.ofNat 6) (by omega) W h
  obtain ⟨L1, hL1⟩ : ∃ L1, L1 = L0 ++ [UInt8.ofNat 6] := ⟨_, rfl⟩
  have z1 : L1.length ≤ 5000001 := by rw [hL1, List.length_append]; omega
  rw [← hL1] at k0 ⊢
  clear hL1 y0
  have y1 : (textE D.p).length ≤ 210 := by unfold textE; rw [List.length_append]; have := numE_len9 D.p.length (by have := ok.p; omega); have := ok.p; omega
  have k1 : ∀ W, Wrt b L1 W → Calls Try.prog 21 #[.pointer (some ⟨b, 0, none⟩), .string (txt D.p)] W fun o w' => o = .returned (.tuple #[]) ∧ Wrt b (L1 ++ textE D.p) w' ∧ Below b W w' ∧ KpW W w' := fun W h => wText_any b L1 D.p (by have := ok.p; omega) (by omega) W h
  obtain ⟨L2, hL2⟩ : ∃ L2, L2 = L1 ++ textE D.p := ⟨_, rfl⟩
  have z2 : L2.length ≤ 5000211 := by rw [hL2, List.length_append]; omega
  rw [← hL2] at k1 ⊢
  clear hL2 y1
  have y2 : (D.K).length ≤ 32 := by omega
  have k2 : ∀ W, Wrt b L2 W → Calls Try.prog 22 #[.pointer (some ⟨b, 0, none⟩), .agg (D.K.map u8v).toArray] W fun o w' => o = .returned (.tuple #[]) ∧ Wrt b (L2 ++ D.K) w' ∧ Below b W w' ∧ KpW W w' := fun W h => wId_any b L2 D.K hK (by omega) W h
  obtain ⟨L3, hL3⟩ : ∃ L3, L3 = L2 ++ D.K := ⟨_, rfl⟩
  have z3 : L3.length ≤ 5000243 := by rw [hL3, List.length_append]; omega
  rw [← hL3] at k2 ⊢
  clear hL3 y2
  clear z0 z1 z2 z3
  have x0 := hX.c0
  rw [hk] at x0
  have x1 := hX.c1
  have xK := hX.key
  have hu := Try.underlying24
  have hHZ : (Try.prog.info? 24).map (·.size) = some (D.K.map u8v).length := by rw [List.length_map, hK]; exact sizeId
  go_enter Try.func53, Try.ntmps53
  go_wp2_with (first
    | (with_reducible refine wpList_load_opx (by with_unfolding_all rfl) _ rfl _ rfl hX hK ?_)
    | (with_reducible refine wpList_load_if (by with_unfolding_all rfl) 24 _ rfl _ _ rfl (D.K.map u8v) _ xK hu (by with_unfolding_all rfl) hHZ ?_)
    | (go_at_call 94; (with_reducible refine (cR _ hV).mono ?_); rintro o1 w1 ⟨rfl, hb⟩; replace hX := hX.below hb; replace hB := hB.trans (hb.mono (Nat.le_of_lt hW.lt)); replace hV := hV.trans (hb.mono hV.size); replace hKp := hKp.trans (KpW.later hb); replace hW := hW.below hb; clear hb; clear x0 x1 xK; have x0 := hX.c0; rw [hk] at x0; have x1 := hX.c1; have xK := hX.key)
    | (go_at_call 95; (with_reducible refine (cH _).mono ?_); rintro o1 w1 ⟨rfl, hb⟩; have hF := Blk.new w1 121 #[.bool false, .bool false, .bool false, .bool false, .bool true, .bool false]; replace hb := hb.alloc hb.size (.cells #[.bool false, .bool false, .bool false, .bool false, .bool true, .bool false] 121); replace hX := hX.below hb; replace hB := hB.trans (hb.mono (Nat.le_of_lt hW.lt)); replace hV := hV.trans (hb.mono hV.size); replace hKp := hKp.trans (KpW.later hb); replace hW := hW.below hb; clear hb; clear x0 x1 xK; have x0 := hX.c0; rw [hk] at x0; have x1 := hX.c1; have xK := hX.key; have f0 := hF.cell_ (i := 0) rfl; have f1 := hF.cell_ (i := 1) rfl; have f2 := hF.cell_ (i := 2) rfl; have f3 := hF.cell_ (i := 3) rfl; have f4 := hF.cell_ (i := 4) rfl; have f5 := hF.cell_ (i := 5) rfl)
    | (go_at_call 19; (with_reducible refine (k0 _ hW).mono ?_); rintro o1 w1 ⟨rfl, hW1, hb, hk1⟩; replace hX := hX.kp hk1; replace hB := hB.trans hb; replace hV := hV.trans (hb.mono h0); replace hKp := hKp.trans hk1; replace hW := hW1; clear x0 x1 xK; have x0 := hX.c0; rw [hk] at x0; have x1 := hX.c1; have xK := hX.key; clear hb hk1 hW1)
    | (go_at_call 21; (with_reducible refine (k1 _ hW).mono ?_); rintro o1 w1 ⟨rfl, hW1, hb, hk1⟩; replace hX := hX.kp hk1; replace hB := hB.trans hb; replace hV := hV.trans (hb.mono h0); replace hKp := hKp.trans hk1; replace hW := hW1; clear x0 x1 xK; have x0 := hX.c0; rw [hk] at x0; have x1 := hX.c1; have xK := hX.key; clear hb hk1 hW1)
    | (go_at_call 22; (with_reducible refine (k2 _ hW).mono ?_); rintro o1 w1 ⟨rfl, hW1, hb, hk1⟩; replace hX := hX.kp hk1; replace hB := hB.trans hb; replace hV := hV.trans (hb.mono h0); replace hKp := hKp.trans hk1; replace hW := hW1; clear x0 x1 xK; have x0 := hX.c0; rw [hk] at x0; have x1 := hX.c1; have xK := hX.key; replace hF := hk1 _ _ _ (by decide) (by decide) hF; clear f0 f1 f2 f3 f4 f5; have f0 := hF.cell_ (i := 0) rfl; have f1 := hF.cell_ (i := 1) rfl; have f2 := hF.cell_ (i := 2) rfl; have f3 := hF.cell_ (i := 3) rfl; have f4 := hF.cell_ (i := 4) rfl; have f5 := hF.cell_ (i := 5) rfl; clear hb hk1 hW1))
  go_ret
  exact ⟨rfl, hW, hB, hKp⟩

/-- An operation is written. -/
theorem oput_any (b : Nat) (l : List UInt8) (D : OpD) (hK : D.K.length = 32) (A : Option Addr) (n c : Nat) (hlo : D.o.length = n) (bn : n ≤ 1000) (B : Option Addr) (m d : Nat) (hln : D.n.length = m) (bm : m ≤ 1000) (hl : l.length ≤ 5000000) (w0 w : World) (h0 : w0.heap.size ≤ b) (hw0 : Below w0.heap.size w0 w) (rA : Rd w0 A (D.o.map strV)) (rB : Rd w0 B (D.n.map strV)) (hW : Wrt b l w) :
    Calls Try.prog 53 #[.pointer (some ⟨b, 0, none⟩), .agg (opC D A n c B m d)] w fun o w' => o = .returned (.int .i64 (opE D)) ∧ Wrt b (l ++ (if opE D = 0 then opB D else [])) w' ∧ Below b w w' ∧ KpW w w' := by
  by_cases hE : opE D = 0
  · rw [if_pos hE, hE]
    have ok := opOk hE
    rcases kind_cases ok.lo ok.hi with hk | hk | hk | hk | hk | hk
    · exact oput_1 b l D hK A n c hlo bn B m d hln bm hl w0 w h0 hw0 rA rB hW hk hE
    · exact oput_2 b l D hK A n c hlo bn B m d hln bm hl w0 w h0 hw0 rA rB hW hk hE
    · exact oput_3 b l D hK A n c hlo bn B m d hln bm hl w0 w h0 hw0 rA rB hW hk hE
    · exact oput_4 b l D hK A n c hlo bn B m d hln bm hl w0 w h0 hw0 rA rB hW hk hE
    · exact oput_5 b l D hK A n c hlo bn B m d hln bm hl w0 w h0 hw0 rA rB hW hk hE
    · exact oput_6 b l D hK A n c hlo bn B m d hln bm hl w0 w h0 hw0 rA rB hW hk hE
  · rw [if_neg hE, List.append_nil]
    exact oput_no b l D hK A n c hlo bn B m d hln bm hl w0 w h0 hw0 rA rB hW hE
end Go.Proofs.Ythpdkdalfjahcaa

namespace Go.Proofs.Ythpdkdalfjahcaa
open Go.RowKit Go.Qc Go.Shelf
attribute [local go_sem] txt_size txt_append ib_fold txt_toL

set_option maxRecDepth 100000 in
set_option maxHeartbeats 40000000 in
theorem rb13_1 (D : OpD) (hK : D.K.length = 32) (A : Option Addr) (n c : Nat) (hlo : D.o.length = n) (bn : n ≤ 1000) (B : Option Addr) (m d : Nat) (hln : D.n.length = m) (bm : m ≤ 1000) (w : World) (rA : Rd w A (D.o.map strV)) (rB : Rd w B (D.n.map strV)) (hk : D.k = 1) (hE : opE D = 0) :
    Calls Try.prog 56 #[.agg (opC D A n c B m d)] w fun o w' => o = .returned (.string (txt (opB D))) ∧ Below w.heap.size w w' := by
  have ok := opOk hE
  have hX := OpX.new w D A n c B m d
  have hB : Below w.heap.size w (w.alloc (.cells (opC D A n c B m d) 74)) := (Below.refl _ w).alloc (Nat.le_refl _) _
  have hfin : opB D = [UInt8.ofNat 1] ++ textE D.p := by
    unfold opB
    rw [hk]
    simp [List.append_assoc]
  rw [hfin]
  clear hfin
  have y0 : ([UInt8.ofNat 1]).length ≤ 1 := by simp
  have y1 : (textE D.p).length ≤ 210 := by unfold textE; rw [List.length_append]; have := numE_len9 D.p.length (by have := ok.p; omega); have := ok.p; omega
  have c1 : ∀ W, Below w.heap.size w W → Calls Try.prog 27 #[.string (txt D.p)] W fun o w' => o = .returned (.string (txt (textE D.p))) ∧ Below W.heap.size W w' := fun W h => rPkText_any D.p (by have := ok.p; omega) W
  have hX0 : (∀ (W : World) (g : Nat), Blk W g 5 #[.int .u8 1] → Rd W (some ⟨g, 0, none⟩) (([UInt8.ofNat 1] : List UInt8).map u8v)) ∧ 1 = ([UInt8.ofNat 1] : List UInt8).length := ⟨fun W g h => Rd.blk h (fun j u hj => by rw [List.getElem?_toArray]; exact hj), rfl⟩
  generalize [UInt8.ofNat 1] = X0 at *
  generalize textE D.p = X1 at *
  have HX0 := hid hX0
  clear hX0
  have u10 : ¬ (9223372036854775807 : Int) < X0.length + X1.length := by omega
  have v10 : ¬ (9223372036854775807 : Nat) < X0.length + X1.length := by omega
  have u11 : ¬ (9223372036854775807 : Int) < X0.length + X1.length := by omega
  have v11 : ¬ (9223372036854775807 : Nat) < X0.length + X1.length := by omega
  have u12 : ¬ (9223372036854775807 : Int) < X0.length + X1.length := by omega
  have v12 : ¬ (9223372036854775807 : Nat) < X0.length + X1.length := by omega
  clear y0 y1
  go_enter Try.func56, Try.ntmps56
  go_wp2_with (fail)
  refine Code.wp_mono (Q := fun e a' W => e = .normal ∧ ∃ g : Nat, a' = { tmps := #[.agg (opC D A n c B m d), .pointer (some ⟨w.heap.size, 0, none⟩), .string ⟨#[]⟩, .string (txt (X0 ++ X1)), .pointer (some ⟨w.heap.size, 0, none⟩), .int .i64 1, .int .u8 1, .slice (some ⟨g, 0, none⟩) 1 1, .string (txt X0), .pointer (some ⟨w.heap.size, 1, none⟩), .string (txt D.p), .string (txt X1), .string (txt (X0 ++ X1)), undef, undef, undef, undef, undef, undef, undef, undef, undef, undef, undef, undef, undef, undef, undef, undef, undef, undef, undef, undef, undef, undef, undef, undef, undef, undef, undef, undef, undef, undef, undef, undef, undef, undef, undef, undef, undef, undef, undef, undef, undef, undef, undef, undef, undef, undef, undef, undef, undef, undef, undef, undef, undef, undef], defers := [] } ∧ OpX W w.heap.size D A n c B m d ∧ Below w.heap.size w W) ?himp ?hreg
  case hreg =>
    refine wp_region_held_drew (S := fun W => OpX W w.heap.size D A n c B m d) (by kernel_rfl) ?_ (fun hHeld => ?_)
    · exact hX.below (below_drew1 _)
    have hB1 := hB.trans ((below_drew1 _).mono hB.size)
    clear hX hB
    generalize (w.alloc (.cells (opC D A n c B m d) 74)).drew = W1 at *
    refine' wpAnyH_take (i := 0) (v := .pointer (some ⟨w.heap.size, 0, none⟩)) rfl (by kernel_rfl) (by kernel_rfl) (by kernel_rfl) (fun _ _ _ h => nomatch h.1) (Or.inl ⟨by rfl, fun w' hw' => by go_simp⟩) hHeld ?_
    try simp only [Act.put, List.getElem_toArray, List.getElem_cons_succ, List.getElem_cons_zero, List.setIfInBounds_toArray, List.set_cons_zero, List.set_cons_succ]
    refine' wpAnyH_take (i := 1) (v := .int .i64 1) rfl (by kernel_rfl) (by kernel_rfl) (by kernel_rfl) (fun _ _ _ h => nomatch h.1) (Or.inl ⟨by rfl, fun w' hw' => by have hv := hw'.c0; rw [hk] at hv; go_simp⟩) hHeld ?_
    try simp only [Act.put, List.getElem_toArray, List.getElem_cons_succ, List.getElem_cons_zero, List.setIfInBounds_toArray, List.set_cons_zero, List.set_cons_succ]
    refine' wpAnyH_take (i := 2) (v := .int .u8 1) rfl (by kernel_rfl) (by kernel_rfl) (by kernel_rfl) (fun _ _ _ h => nomatch h.1) (Or.inl ⟨by rfl, fun w' hw' => by go_simp; first | done | rfl | decide⟩) hHeld ?_
    try simp only [Act.put, List.getElem_toArray, List.getElem_cons_succ, List.getElem_cons_zero, List.setIfInBounds_toArray, List.set_cons_zero, List.set_cons_succ]
    refine' wpAnyH_take (i := 5) (v := .pointer (some ⟨w.heap.size, 1, none⟩)) rfl (by kernel_rfl) (by kernel_rfl) (by kernel_rfl) (fun _ _ _ h => nomatch h.1) (Or.inl ⟨by rfl, fun w' hw' => by go_simp⟩) hHeld ?_
    try simp only [Act.put, List.getElem_toArray, List.getElem_cons_succ, List.getElem_cons_zero, List.setIfInBounds_toArray, List.set_cons_zero, List.set_cons_succ]
    refine' wpAnyH_take (i := 6) (v := .string (txt D.p)) rfl (by kernel_rfl) (by kernel_rfl) (by kernel_rfl) (fun _ _ _ h => nomatch h.1) (Or.inl ⟨by rfl, fun w' hw' => by have hv := hw'.c1; go_simp⟩) hHeld ?_
    try simp only [Act.put, List.getElem_toArray, List.getElem_cons_succ, List.getElem_cons_zero, List.setIfInBounds_toArray, List.set_cons_zero, List.set_cons_succ]
    refine wpAnyH_ready (rs := [3, 7]) (by kernel_rfl) (by simp) ?_
    refine AllReadyH.cons rfl (fun K hK => ?_) (AllReadyH.cons rfl (fun K hK => ?_) AllReadyH.nil)
    · go_simp
      have hs := Blk.new W1 5 #[.int .u8 1]
      have hb := (Below.refl W1.heap.size W1).alloc (Nat.le_refl _) (.cells #[.int .u8 1] 5)
      refine hK.out _ _ (hHeld.below hb) (fun hHeld => ?_)
      clear hK K
      replace hB1 := hB1.trans (hb.mono hB1.size)
      clear hb
      generalize W1.heap.size = g at *
      generalize W1.alloc (.cells #[.int .u8 1] 5) = W2 at *
      try simp only [Act.put, List.getElem_toArray, List.getElem_cons_succ, List.getElem_cons_zero, List.setIfInBounds_toArray, List.set_cons_zero, List.set_cons_succ]
      refine wpAnyH_ready (rs := [4, 7]) (by kernel_rfl) (by simp) ?_
      refine AllReadyH.cons rfl (fun K hK => ?_) (AllReadyH.cons rfl (fun K hK => ?_) AllReadyH.nil)
      · have hcv := run_txt (P := Try.prog) W2 34 9 5 (some ⟨g, 0, none⟩) 1 1 X0 Try.underlying34 Try.underlying5 Try.underlying9 HX0.out.2 (HX0.out.1 _ _ hs)
        go_simp
        refine hK.out _ _ hHeld (fun hHeld => ?_)
        clear hK K hcv
        try simp only [Act.put, List.getElem_toArray, List.getElem_cons_succ, List.getElem_cons_zero, List.setIfInBounds_toArray, List.set_cons_zero, List.set_cons_succ]
        refine wpAnyH_ready (rs := [7]) (by kernel_rfl) (by simp) ?_
        refine AllReadyH.cons rfl (fun K hK => ?_) AllReadyH.nil
        go_simp
        (with_reducible refine (c1 W2 hB1).mono ?_)
        rintro o1 W3 ⟨rfl, hb⟩
        refine hK.out _ _ (hHeld.below hb) (fun hHeld => ?_)
        clear hK K
        replace hB1 := hB1.trans (hb.mono hB1.size)
        clear hb
        try simp only [Act.put, List.getElem_toArray, List.getElem_cons_succ, List.getElem_cons_zero, List.setIfInBounds_toArray, List.set_cons_zero, List.set_cons_succ]
        refine wpAnyH_ready (rs := [8]) (by kernel_rfl) (by simp) ?_
        refine AllReadyH.cons rfl (fun K hK => ?_) AllReadyH.nil
        go_simp
        refine hK.out _ _ hHeld (fun hHeld => ?_)
        clear hK K
        try simp only [Act.put, List.getElem_toArray, List.getElem_cons_succ, List.getElem_cons_zero, List.setIfInBounds_toArray, List.set_cons_zero, List.set_cons_succ]
        refine wpAnyH_ready (rs := [9]) (by kernel_rfl) (by simp) ?_
        refine AllReadyH.cons rfl (fun K hK => ?_) AllReadyH.nil
        go_simp
        refine hK.out _ _ hHeld (fun hHeld => ?_)
        clear hK K
        try simp only [Act.put, List.getElem_toArray, List.getElem_cons_succ, List.getElem_cons_zero, List.setIfInBounds_toArray, List.set_cons_zero, List.set_cons_succ]
        refine wpAnyH_done (by kernel_rfl) ?_ _
        exact ⟨rfl, g, rfl, hHeld, hB1⟩
      · go_simp
        (with_reducible refine (c1 W2 hB1).mono ?_)
        rintro o1 W3 ⟨rfl, hb⟩
        replace hs := hs.below hb
        refine hK.out _ _ (hHeld.below hb) (fun hHeld => ?_)
        clear hK K
        replace hB1 := hB1.trans (hb.mono hB1.size)
        clear hb
        try simp only [Act.put, List.getElem_toArray, List.getElem_cons_succ, List.getElem_cons_zero, List.setIfInBounds_toArray, List.set_cons_zero, List.set_cons_succ]
        refine wpAnyH_ready (rs := [4]) (by kernel_rfl) (by simp) ?_
        refine AllReadyH.cons rfl (fun K hK => ?_) AllReadyH.nil
        have hcv := run_txt (P := Try.prog) W3 34 9 5 (some ⟨g, 0, none⟩) 1 1 X0 Try.underlying34 Try.underlying5 Try.underlying9 HX0.out.2 (HX0.out.1 _ _ hs)
        go_simp
        refine hK.out _ _ hHeld (fun hHeld => ?_)
        clear hK K hcv
        try simp only [Act.put, List.getElem_toArray, List.getElem_cons_succ, List.getElem_cons_zero, List.setIfInBounds_toArray, List.set_cons_zero, List.set_cons_succ]
        refine wpAnyH_ready (rs := [8]) (by kernel_rfl) (by simp) ?_
        refine AllReadyH.cons rfl (fun K hK => ?_) AllReadyH.nil
        go_simp
        refine hK.out _ _ hHeld (fun hHeld => ?_)
        clear hK K
        try simp only [Act.put, List.getElem_toArray, List.getElem_cons_succ, List.getElem_cons_zero, List.setIfInBounds_toArray, List.set_cons_zero, List.set_cons_succ]
        refine wpAnyH_ready (rs := [9]) (by kernel_rfl) (by simp) ?_
        refine AllReadyH.cons rfl (fun K hK => ?_) AllReadyH.nil
        go_simp
        refine hK.out _ _ hHeld (fun hHeld => ?_)
        clear hK K
        try simp only [Act.put, List.getElem_toArray, List.getElem_cons_succ, List.getElem_cons_zero, List.setIfInBounds_toArray, List.set_cons_zero, List.set_cons_succ]
        refine wpAnyH_done (by kernel_rfl) ?_ _
        exact ⟨rfl, g, rfl, hHeld, hB1⟩
    · go_simp
      (with_reducible refine (c1 W1 hB1).mono ?_)
      rintro o1 W2 ⟨rfl, hb⟩
      refine hK.out _ _ (hHeld.below hb) (fun hHeld => ?_)
      clear hK K
      replace hB1 := hB1.trans (hb.mono hB1.size)
      clear hb
      try simp only [Act.put, List.getElem_toArray, List.getElem_cons_succ, List.getElem_cons_zero, List.setIfInBounds_toArray, List.set_cons_zero, List.set_cons_succ]
      refine wpAnyH_ready (rs := [3]) (by kernel_rfl) (by simp) ?_
      refine AllReadyH.cons rfl (fun K hK => ?_) AllReadyH.nil
      go_simp
      have hs := Blk.new W2 5 #[.int .u8 1]
      have hb := (Below.refl W2.heap.size W2).alloc (Nat.le_refl _) (.cells #[.int .u8 1] 5)
      refine hK.out _ _ (hHeld.below hb) (fun hHeld => ?_)
      clear hK K
      replace hB1 := hB1.trans (hb.mono hB1.size)
      clear hb
      generalize W2.heap.size = g at *
      generalize W2.alloc (.cells #[.int .u8 1] 5) = W3 at *
      try simp only [Act.put, List.getElem_toArray, List.getElem_cons_succ, List.getElem_cons_zero, List.setIfInBounds_toArray, List.set_cons_zero, List.set_cons_succ]
      refine wpAnyH_ready (rs := [4]) (by kernel_rfl) (by simp) ?_
      refine AllReadyH.cons rfl (fun K hK => ?_) AllReadyH.nil
      have hcv := run_txt (P := Try.prog) W3 34 9 5 (some ⟨g, 0, none⟩) 1 1 X0 Try.underlying34 Try.underlying5 Try.underlying9 HX0.out.2 (HX0.out.1 _ _ hs)
      go_simp
      refine hK.out _ _ hHeld (fun hHeld => ?_)
      clear hK K hcv
      try simp only [Act.put, List.getElem_toArray, List.getElem_cons_succ, List.getElem_cons_zero, List.setIfInBounds_toArray, List.set_cons_zero, List.set_cons_succ]
      refine wpAnyH_ready (rs := [8]) (by kernel_rfl) (by simp) ?_
      refine AllReadyH.cons rfl (fun K hK => ?_) AllReadyH.nil
      go_simp
      refine hK.out _ _ hHeld (fun hHeld => ?_)
      clear hK K
      try simp only [Act.put, List.getElem_toArray, List.getElem_cons_succ, List.getElem_cons_zero, List.setIfInBounds_toArray, List.set_cons_zero, List.set_cons_succ]
      refine wpAnyH_ready (rs := [9]) (by kernel_rfl) (by simp) ?_
      refine AllReadyH.cons rfl (fun K hK => ?_) AllReadyH.nil
      go_simp
      refine hK.out _ _ hHeld (fun hHeld => ?_)
      clear hK K
      try simp only [Act.put, List.getElem_toArray, List.getElem_cons_succ, List.getElem_cons_zero, List.setIfInBounds_toArray, List.set_cons_zero, List.set_cons_succ]
      refine wpAnyH_done (by kernel_rfl) ?_ _
      exact ⟨rfl, g, rfl, hHeld, hB1⟩
  case himp =>
    rintro e a' W ⟨rfl, g, rfl, hX, hB⟩
    clear HX0
    have x0 := hX.c0
    rw [hk] at x0
    have x1 := hX.c1
    go_wp2
    go_ret
    exact ⟨by first | rfl | simp only [List.append_assoc]; rfl, hB⟩

set_option maxRecDepth 100000 in
set_option maxHeartbeats 40000000 in
theorem rb13_2 (D : OpD) (hK : D.K.length = 32) (A : Option Addr) (n c : Nat) (hlo : D.o.length = n) (bn : n ≤ 1000) (B : Option Addr) (m d : Nat) (hln : D.n.length = m) (bm : m ≤ 1000) (w : World) (rA : Rd w A (D.o.map strV)) (rB : Rd w B (D.n.map strV)) (hk : D.k = 2) (hE : opE D = 0) :
    Calls Try.prog 56 #[.agg (opC D A n c B m d)] w fun o w' => o = .returned (.string (txt (opB D))) ∧ Below w.heap.size w w' := by
  have ok := opOk hE
  have hX := OpX.new w D A n c B m d
  have hB : Below w.heap.size w (w.alloc (.cells (opC D A n c B m d) 74)) := (Below.refl _ w).alloc (Nat.le_refl _) _
  have hfin : opB D = [UInt8.ofNat 2] ++ textE D.p ++ textsE D.o := by
    unfold opB
    rw [hk]
    simp [List.append_assoc]
  rw [hfin]
  clear hfin
  have y0 : ([UInt8.ofNat 2]).length ≤ 1 := by simp
  have y1 : (textE D.p).length ≤ 210 := by unfold textE; rw [List.length_append]; have := numE_len9 D.p.length (by have := ok.p; omega); have := ok.p; omega
  have c1 : ∀ W, Below w.heap.size w W → Calls Try.prog 27 #[.string (txt D.p)] W fun o w' => o = .returned (.string (txt (textE D.p))) ∧ Below W.heap.size W w' := fun W h => rPkText_any D.p (by have := ok.p; omega) W
  have y2 : (textsE D.o).length ≤ 1009010 := by unfold textsE; rw [List.length_append]; have := numE_len9 D.o.length (by omega); have := flatE_len2 D.o (fun x hx => by have := ok.o.2 x hx; omega); omega
  have c2 : ∀ W, Below w.heap.size w W → Calls Try.prog 31 #[.slice A n c] W fun o w' => o = .returned (.string (txt (textsE D.o))) ∧ Below W.heap.size W w' := fun W h => rPkTexts_any A n c D.o hlo bn (fun x hx => by have := ok.o.2 x hx; omega) W (rA.below h)
  have hX0 : (∀ (W : World) (g : Nat), Blk W g 5 #[.int .u8 2] → Rd W (some ⟨g, 0, none⟩) (([UInt8.ofNat 2] : List UInt8).map u8v)) ∧ 1 = ([UInt8.ofNat 2] : List UInt8).length := ⟨fun W g h => Rd.blk h (fun j u hj => by rw [List.getElem?_toArray]; exact hj), rfl⟩
  generalize [UInt8.ofNat 2] = X0 at *
  generalize textE D.p = X1 at *
  generalize textsE D.o = X2 at *
  have HX0 := hid hX0
  clear hX0
  have u10 : ¬ (9223372036854775807 : Int) < X0.length + X1.length := by omega
  have v10 : ¬ (9223372036854775807 : Nat) < X0.length + X1.length := by omega
  have u11 : ¬ (9223372036854775807 : Int) < X0.length + X1.length := by omega
  have v11 : ¬ (9223372036854775807 : Nat) < X0.length + X1.length := by omega
  have u12 : ¬ (9223372036854775807 : Int) < X0.length + X1.length := by omega
  have v12 : ¬ (9223372036854775807 : Nat) < X0.length + X1.length := by omega
  have u20 : ¬ (9223372036854775807 : Int) < X0.length + X1.length + X2.length := by omega
  have v20 : ¬ (9223372036854775807 : Nat) < X0.length + X1.length + X2.length := by omega
  have u21 : ¬ (9223372036854775807 : Int) < X0.length + X1.length + X2.length := by omega
  have v21 : ¬ (9223372036854775807 : Nat) < X0.length + X1.length + X2.length := by omega
  have u22 : ¬ (9223372036854775807 : Int) < X0.length + (X1.length + X2.length) := by omega
  have v22 : ¬ (9223372036854775807 : Nat) < X0.length + (X1.length + X2.length) := by omega
  clear y0 y1 y2
  go_enter Try.func56, Try.ntmps56
  go_wp2_with (fail)
  refine Code.wp_mono (Q := fun e a' W => e = .normal ∧ ∃ g : Nat, a' = { tmps := #[.agg (opC D A n c B m d), .pointer (some ⟨w.heap.size, 0, none⟩), .string ⟨#[]⟩, .string (txt (X0 ++ X1)), .pointer (some ⟨w.heap.size, 0, none⟩), .int .i64 2, .int .u8 2, .slice (some ⟨g, 0, none⟩) 1 1, .string (txt X0), .pointer (some ⟨w.heap.size, 1, none⟩), .string (txt D.p), .string (txt X1), .string (txt (X0 ++ X1)), undef, undef, undef, undef, undef, undef, undef, undef, undef, undef, undef, undef, undef, undef, undef, undef, undef, undef, undef, undef, undef, undef, undef, undef, undef, undef, undef, undef, undef, undef, undef, undef, undef, undef, undef, undef, undef, undef, undef, undef, undef, undef, undef, undef, undef, undef, undef, undef, undef, undef, undef, undef, undef, undef], defers := [] } ∧ OpX W w.heap.size D A n c B m d ∧ Below w.heap.size w W) ?himp ?hreg
  case hreg =>
    refine wp_region_held_drew (S := fun W => OpX W w.heap.size D A n c B m d) (by kernel_rfl) ?_ (fun hHeld => ?_)
    · exact hX.below (below_drew1 _)
    have hB1 := hB.trans ((below_drew1 _).mono hB.size)
    clear hX hB
    generalize (w.alloc (.cells (opC D A n c B m d) 74)).drew = W1 at *
    refine' wpAnyH_take (i := 0) (v := .pointer (some ⟨w.heap.size, 0, none⟩)) rfl (by kernel_rfl) (by kernel_rfl) (by kernel_rfl) (fun _ _ _ h => nomatch h.1) (Or.inl ⟨by rfl, fun w' hw' => by go_simp⟩) hHeld ?_
    try simp only [Act.put, List.getElem_toArray, List.getElem_cons_succ, List.getElem_cons_zero, List.setIfInBounds_toArray, List.set_cons_zero, List.set_cons_succ]
    refine' wpAnyH_take (i := 1) (v := .int .i64 2) rfl (by kernel_rfl) (by kernel_rfl) (by kernel_rfl) (fun _ _ _ h => nomatch h.1) (Or.inl ⟨by rfl, fun w' hw' => by have hv := hw'.c0; rw [hk] at hv; go_simp⟩) hHeld ?_
    try simp only [Act.put, List.getElem_toArray, List.getElem_cons_succ, List.getElem_cons_zero, List.setIfInBounds_toArray, List.set_cons_zero, List.set_cons_succ]
    refine' wpAnyH_take (i := 2) (v := .int .u8 2) rfl (by kernel_rfl) (by kernel_rfl) (by kernel_rfl) (fun _ _ _ h => nomatch h.1) (Or.inl ⟨by rfl, fun w' hw' => by go_simp; first | done | rfl | decide⟩) hHeld ?_
    try simp only [Act.put, List.getElem_toArray, List.getElem_cons_succ, List.getElem_cons_zero, List.setIfInBounds_toArray, List.set_cons_zero, List.set_cons_succ]
    refine' wpAnyH_take (i := 5) (v := .pointer (some ⟨w.heap.size, 1, none⟩)) rfl (by kernel_rfl) (by kernel_rfl) (by kernel_rfl) (fun _ _ _ h => nomatch h.1) (Or.inl ⟨by rfl, fun w' hw' => by go_simp⟩) hHeld ?_
    try simp only [Act.put, List.getElem_toArray, List.getElem_cons_succ, List.getElem_cons_zero, List.setIfInBounds_toArray, List.set_cons_zero, List.set_cons_succ]
    refine' wpAnyH_take (i := 6) (v := .string (txt D.p)) rfl (by kernel_rfl) (by kernel_rfl) (by kernel_rfl) (fun _ _ _ h => nomatch h.1) (Or.inl ⟨by rfl, fun w' hw' => by have hv := hw'.c1; go_simp⟩) hHeld ?_
    try simp only [Act.put, List.getElem_toArray, List.getElem_cons_succ, List.getElem_cons_zero, List.setIfInBounds_toArray, List.set_cons_zero, List.set_cons_succ]
    refine wpAnyH_ready (rs := [3, 7]) (by kernel_rfl) (by simp) ?_
    refine AllReadyH.cons rfl (fun K hK => ?_) (AllReadyH.cons rfl (fun K hK => ?_) AllReadyH.nil)
    · go_simp
      have hs := Blk.new W1 5 #[.int .u8 2]
      have hb := (Below.refl W1.heap.size W1).alloc (Nat.le_refl _) (.cells #[.int .u8 2] 5)
      refine hK.out _ _ (hHeld.below hb) (fun hHeld => ?_)
      clear hK K
      replace hB1 := hB1.trans (hb.mono hB1.size)
      clear hb
      generalize W1.heap.size = g at *
      generalize W1.alloc (.cells #[.int .u8 2] 5) = W2 at *
      try simp only [Act.put, List.getElem_toArray, List.getElem_cons_succ, List.getElem_cons_zero, List.setIfInBounds_toArray, List.set_cons_zero, List.set_cons_succ]
      refine wpAnyH_ready (rs := [4, 7]) (by kernel_rfl) (by simp) ?_
      refine AllReadyH.cons rfl (fun K hK => ?_) (AllReadyH.cons rfl (fun K hK => ?_) AllReadyH.nil)
      · have hcv := run_txt (P := Try.prog) W2 34 9 5 (some ⟨g, 0, none⟩) 1 1 X0 Try.underlying34 Try.underlying5 Try.underlying9 HX0.out.2 (HX0.out.1 _ _ hs)
        go_simp
        refine hK.out _ _ hHeld (fun hHeld => ?_)
        clear hK K hcv
        try simp only [Act.put, List.getElem_toArray, List.getElem_cons_succ, List.getElem_cons_zero, List.setIfInBounds_toArray, List.set_cons_zero, List.set_cons_succ]
        refine wpAnyH_ready (rs := [7]) (by kernel_rfl) (by simp) ?_
        refine AllReadyH.cons rfl (fun K hK => ?_) AllReadyH.nil
        go_simp
        (with_reducible refine (c1 W2 hB1).mono ?_)
        rintro o1 W3 ⟨rfl, hb⟩
        refine hK.out _ _ (hHeld.below hb) (fun hHeld => ?_)
        clear hK K
        replace hB1 := hB1.trans (hb.mono hB1.size)
        clear hb
        try simp only [Act.put, List.getElem_toArray, List.getElem_cons_succ, List.getElem_cons_zero, List.setIfInBounds_toArray, List.set_cons_zero, List.set_cons_succ]
        refine wpAnyH_ready (rs := [8]) (by kernel_rfl) (by simp) ?_
        refine AllReadyH.cons rfl (fun K hK => ?_) AllReadyH.nil
        go_simp
        refine hK.out _ _ hHeld (fun hHeld => ?_)
        clear hK K
        try simp only [Act.put, List.getElem_toArray, List.getElem_cons_succ, List.getElem_cons_zero, List.setIfInBounds_toArray, List.set_cons_zero, List.set_cons_succ]
        refine wpAnyH_ready (rs := [9]) (by kernel_rfl) (by simp) ?_
        refine AllReadyH.cons rfl (fun K hK => ?_) AllReadyH.nil
        go_simp
        refine hK.out _ _ hHeld (fun hHeld => ?_)
        clear hK K
        try simp only [Act.put, List.getElem_toArray, List.getElem_cons_succ, List.getElem_cons_zero, List.setIfInBounds_toArray, List.set_cons_zero, List.set_cons_succ]
        refine wpAnyH_done (by kernel_rfl) ?_ _
        exact ⟨rfl, g, rfl, hHeld, hB1⟩
      · go_simp
        (with_reducible refine (c1 W2 hB1).mono ?_)
        rintro o1 W3 ⟨rfl, hb⟩
        replace hs := hs.below hb
        refine hK.out _ _ (hHeld.below hb) (fun hHeld => ?_)
        clear hK K
        replace hB1 := hB1.trans (hb.mono hB1.size)
        clear hb
        try simp only [Act.put, List.getElem_toArray, List.getElem_cons_succ, List.getElem_cons_zero, List.setIfInBounds_toArray, List.set_cons_zero, List.set_cons_succ]
        refine wpAnyH_ready (rs := [4]) (by kernel_rfl) (by simp) ?_
        refine AllReadyH.cons rfl (fun K hK => ?_) AllReadyH.nil
        have hcv := run_txt (P := Try.prog) W3 34 9 5 (some ⟨g, 0, none⟩) 1 1 X0 Try.underlying34 Try.underlying5 Try.underlying9 HX0.out.2 (HX0.out.1 _ _ hs)
        go_simp
        refine hK.out _ _ hHeld (fun hHeld => ?_)
        clear hK K hcv
        try simp only [Act.put, List.getElem_toArray, List.getElem_cons_succ, List.getElem_cons_zero, List.setIfInBounds_toArray, List.set_cons_zero, List.set_cons_succ]
        refine wpAnyH_ready (rs := [8]) (by kernel_rfl) (by simp) ?_
        refine AllReadyH.cons rfl (fun K hK => ?_) AllReadyH.nil
        go_simp
        refine hK.out _ _ hHeld (fun hHeld => ?_)
        clear hK K
        try simp only [Act.put, List.getElem_toArray, List.getElem_cons_succ, List.getElem_cons_zero, List.setIfInBounds_toArray, List.set_cons_zero, List.set_cons_succ]
        refine wpAnyH_ready (rs := [9]) (by kernel_rfl) (by simp) ?_
        refine AllReadyH.cons rfl (fun K hK => ?_) AllReadyH.nil
        go_simp
        refine hK.out _ _ hHeld (fun hHeld => ?_)
        clear hK K
        try simp only [Act.put, List.getElem_toArray, List.getElem_cons_succ, List.getElem_cons_zero, List.setIfInBounds_toArray, List.set_cons_zero, List.set_cons_succ]
        refine wpAnyH_done (by kernel_rfl) ?_ _
        exact ⟨rfl, g, rfl, hHeld, hB1⟩
    · go_simp
      (with_reducible refine (c1 W1 hB1).mono ?_)
      rintro o1 W2 ⟨rfl, hb⟩
      refine hK.out _ _ (hHeld.below hb) (fun hHeld => ?_)
      clear hK K
      replace hB1 := hB1.trans (hb.mono hB1.size)
      clear hb
      try simp only [Act.put, List.getElem_toArray, List.getElem_cons_succ, List.getElem_cons_zero, List.setIfInBounds_toArray, List.set_cons_zero, List.set_cons_succ]
      refine wpAnyH_ready (rs := [3]) (by kernel_rfl) (by simp) ?_
      refine AllReadyH.cons rfl (fun K hK => ?_) AllReadyH.nil
      go_simp
      have hs := Blk.new W2 5 #[.int .u8 2]
      have hb := (Below.refl W2.heap.size W2).alloc (Nat.le_refl _) (.cells #[.int .u8 2] 5)
      refine hK.out _ _ (hHeld.below hb) (fun hHeld => ?_)
      clear hK K
      replace hB1 := hB1.trans (hb.mono hB1.size)
      clear hb
      generalize W2.heap.size = g at *
      generalize W2.alloc (.cells #[.int .u8 2] 5) = W3 at *
      try simp only [Act.put, List.getElem_toArray, List.getElem_cons_succ, List.getElem_cons_zero, List.setIfInBounds_toArray, List.set_cons_zero, List.set_cons_succ]
      refine wpAnyH_ready (rs := [4]) (by kernel_rfl) (by simp) ?_
      refine AllReadyH.cons rfl (fun K hK => ?_) AllReadyH.nil
      have hcv := run_txt (P := Try.prog) W3 34 9 5 (some ⟨g, 0, none⟩) 1 1 X0 Try.underlying34 Try.underlying5 Try.underlying9 HX0.out.2 (HX0.out.1 _ _ hs)
      go_simp
      refine hK.out _ _ hHeld (fun hHeld => ?_)
      clear hK K hcv
      try simp only [Act.put, List.getElem_toArray, List.getElem_cons_succ, List.getElem_cons_zero, List.setIfInBounds_toArray, List.set_cons_zero, List.set_cons_succ]
      refine wpAnyH_ready (rs := [8]) (by kernel_rfl) (by simp) ?_
      refine AllReadyH.cons rfl (fun K hK => ?_) AllReadyH.nil
      go_simp
      refine hK.out _ _ hHeld (fun hHeld => ?_)
      clear hK K
      try simp only [Act.put, List.getElem_toArray, List.getElem_cons_succ, List.getElem_cons_zero, List.setIfInBounds_toArray, List.set_cons_zero, List.set_cons_succ]
      refine wpAnyH_ready (rs := [9]) (by kernel_rfl) (by simp) ?_
      refine AllReadyH.cons rfl (fun K hK => ?_) AllReadyH.nil
      go_simp
      refine hK.out _ _ hHeld (fun hHeld => ?_)
      clear hK K
      try simp only [Act.put, List.getElem_toArray, List.getElem_cons_succ, List.getElem_cons_zero, List.setIfInBounds_toArray, List.set_cons_zero, List.set_cons_succ]
      refine wpAnyH_done (by kernel_rfl) ?_ _
      exact ⟨rfl, g, rfl, hHeld, hB1⟩
  case himp =>
    rintro e a' W ⟨rfl, g, rfl, hX, hB⟩
    clear HX0
    have x0 := hX.c0
    rw [hk] at x0
    have x1 := hX.c1
    have x4 := hX.c4
    go_wp2_with (first
      | (go_at_call 31; (with_reducible refine (c2 _ hB).mono ?_); rintro o1 w1 ⟨rfl, hb⟩; replace hX := hX.below hb; replace hB := hB.trans (hb.mono hB.size); clear hb; clear x0 x1 x4; have x0 := hX.c0; rw [hk] at x0; have x1 := hX.c1; have x4 := hX.c4))
    go_ret
    exact ⟨by first | rfl | simp only [List.append_assoc]; rfl, hB⟩

set_option maxRecDepth 100000 in
set_option maxHeartbeats 40000000 in
theorem rb13_3 (D : OpD) (hK : D.K.length = 32) (A : Option Addr) (n c : Nat) (hlo : D.o.length = n) (bn : n ≤ 1000) (B : Option Addr) (m d : Nat) (hln : D.n.length = m) (bm : m ≤ 1000) (w : World) (rA : Rd w A (D.o.map strV)) (rB : Rd w B (D.n.map strV)) (hk : D.k = 3) (hE : opE D = 0) :
    Calls Try.prog 56 #[.agg (opC D A n c B m d)] w fun o w' => o = .returned (.string (txt (opB D))) ∧ Below w.heap.size w w' := by
  have ok := opOk hE
  have hX := OpX.new w D A n c B m d
  have hB : Below w.heap.size w (w.alloc (.cells (opC D A n c B m d) 74)) := (Below.refl _ w).alloc (Nat.le_refl _) _
  obtain ⟨N, hN⟩ : ∃ N : Nat, D.a = N := ⟨D.a.toNat, by have := ok.a; omega⟩
  have bN : N ≤ 1000 := by have := ok.a; omega
  have HN := hid hN
  have hfin : opB D = [UInt8.ofNat 3] ++ textE D.p ++ numE N ++ textsE D.o ++ textsE D.n := by
    unfold opB
    rw [hk, hN]
    simp [List.append_assoc]
  rw [hfin]
  clear hfin hN
  have y0 : ([UInt8.ofNat 3]).length ≤ 1 := by simp
  have y1 : (textE D.p).length ≤ 210 := by unfold textE; rw [List.length_append]; have := numE_len9 D.p.length (by have := ok.p; omega); have := ok.p; omega
  have c1 : ∀ W, Below w.heap.size w W → Calls Try.prog 27 #[.string (txt D.p)] W fun o w' => o = .returned (.string (txt (textE D.p))) ∧ Below W.heap.size W w' := fun W h => rPkText_any D.p (by have := ok.p; omega) W
  have y2 : (numE N).length ≤ 9 := numE_len9 N (by omega)
  have c2 : ∀ W, Below w.heap.size w W → Calls Try.prog 26 #[.int .i64 (N : Int)] W fun o w' => o = .returned (.string (txt (numE N))) ∧ Below W.heap.size W w' := fun W h => rPkNum_any N (by omega) W
  have y3 : (textsE D.o).length ≤ 1009010 := by unfold textsE; rw [List.length_append]; have := numE_len9 D.o.length (by omega); have := flatE_len2 D.o (fun x hx => by have := ok.o.2 x hx; omega); omega
  have c3 : ∀ W, Below w.heap.size w W → Calls Try.prog 31 #[.slice A n c] W fun o w' => o = .returned (.string (txt (textsE D.o))) ∧ Below W.heap.size W w' := fun W h => rPkTexts_any A n c D.o hlo bn (fun x hx => by have := ok.o.2 x hx; omega) W (rA.below h)
  have y4 : (textsE D.n).length ≤ 1009010 := by unfold textsE; rw [List.length_append]; have := numE_len9 D.n.length (by omega); have := flatE_len2 D.n (fun x hx => by have := ok.n.2 x hx; omega); omega
  have c4 : ∀ W, Below w.heap.size w W → Calls Try.prog 31 #[.slice B m d] W fun o w' => o = .returned (.string (txt (textsE D.n))) ∧ Below W.heap.size W w' := fun W h => rPkTexts_any B m d D.n hln bm (fun x hx => by have := ok.n.2 x hx; omega) W (rB.below h)
  have hX0 : (∀ (W : World) (g : Nat), Blk W g 5 #[.int .u8 3] → Rd W (some ⟨g, 0, none⟩) (([UInt8.ofNat 3] : List UInt8).map u8v)) ∧ 1 = ([UInt8.ofNat 3] : List UInt8).length := ⟨fun W g h => Rd.blk h (fun j u hj => by rw [List.getElem?_toArray]; exact hj), rfl⟩
  generalize [UInt8.ofNat 3] = X0 at *
  generalize textE D.p = X1 at *
  generalize numE N = X2 at *
  generalize textsE D.o = X3 at *
  generalize textsE D.n = X4 at *
  have HX0 := hid hX0
  clear hX0
  have u10 : ¬ (9223372036854775807 : Int) < X0.length + X1.length := by omega
  have v10 : ¬ (9223372036854775807 : Nat) < X0.length + X1.length := by omega
  have u11 : ¬ (9223372036854775807 : Int) < X0.length + X1.length := by omega
  have v11 : ¬ (9223372036854775807 : Nat) < X0.length + X1.length := by omega
  have u12 : ¬ (9223372036854775807 : Int) < X0.length + X1.length := by omega
  have v12 : ¬ (9223372036854775807 : Nat) < X0.length + X1.length := by omega
  have u20 : ¬ (9223372036854775807 : Int) < X0.length + X1.length + X2.length := by omega
  have v20 : ¬ (9223372036854775807 : Nat) < X0.length + X1.length + X2.length := by omega
  have u21 : ¬ (9223372036854775807 : Int) < X0.length + X1.length + X2.length := by omega
  have v21 : ¬ (9223372036854775807 : Nat) < X0.length + X1.length + X2.length := by omega
  have u22 : ¬ (9223372036854775807 : Int) < X0.length + (X1.length + X2.length) := by omega
  have v22 : ¬ (9223372036854775807 : Nat) < X0.length + (X1.length + X2.length) := by omega
  have u30 : ¬ (9223372036854775807 : Int) < X0.length + X1.length + X2.length + X3.length := by omega
  have v30 : ¬ (9223372036854775807 : Nat) < X0.length + X1.length + X2.length + X3.length := by omega
  have u31 : ¬ (9223372036854775807 : Int) < X0.length + (X1.length + X2.length) + X3.length := by omega
  have v31 : ¬ (9223372036854775807 : Nat) < X0.length + (X1.length + X2.length) + X3.length := by omega
  have u32 : ¬ (9223372036854775807 : Int) < X0.length + (X1.length + (X2.length + X3.length)) := by omega
  have v32 : ¬ (9223372036854775807 : Nat) < X0.length + (X1.length + (X2.length + X3.length)) := by omega
  have u40 : ¬ (9223372036854775807 : Int) < X0.length + X1.length + X2.length + X3.length + X4.length := by omega
  have v40 : ¬ (9223372036854775807 : Nat) < X0.length + X1.length + X2.length + X3.length + X4.length := by omega
  have u41 : ¬ (9223372036854775807 : Int) < X0.length + (X1.length + (X2.length + X3.length)) + X4.length := by omega
  have v41 : ¬ (9223372036854775807 : Nat) < X0.length + (X1.length + (X2.length + X3.length)) + X4.length := by omega
  have u42 : ¬ (9223372036854775807 : Int) < X0.length + (X1.length + (X2.length + (X3.length + X4.length))) := by omega
  have v42 : ¬ (9223372036854775807 : Nat) < X0.length + (X1.length + (X2.length + (X3.length + X4.length))) := by omega
  clear y0 y1 y2 y3 y4
  go_enter Try.func56, Try.ntmps56
  go_wp2_with (fail)
  refine Code.wp_mono (Q := fun e a' W => e = .normal ∧ ∃ g : Nat, a' = { tmps := #[.agg (opC D A n c B m d), .pointer (some ⟨w.heap.size, 0, none⟩), .string ⟨#[]⟩, .string (txt (X0 ++ X1)), .pointer (some ⟨w.heap.size, 0, none⟩), .int .i64 3, .int .u8 3, .slice (some ⟨g, 0, none⟩) 1 1, .string (txt X0), .pointer (some ⟨w.heap.size, 1, none⟩), .string (txt D.p), .string (txt X1), .string (txt (X0 ++ X1)), undef, undef, undef, undef, undef, undef, undef, undef, undef, undef, undef, undef, undef, undef, undef, undef, undef, undef, undef, undef, undef, undef, undef, undef, undef, undef, undef, undef, undef, undef, undef, undef, undef, undef, undef, undef, undef, undef, undef, undef, undef, undef, undef, undef, undef, undef, undef, undef, undef, undef, undef, undef, undef, undef], defers := [] } ∧ OpX W w.heap.size D A n c B m d ∧ Below w.heap.size w W) ?himp ?hreg
  case hreg =>
    refine wp_region_held_drew (S := fun W => OpX W w.heap.size D A n c B m d) (by kernel_rfl) ?_ (fun hHeld => ?_)
    · exact hX.below (below_drew1 _)
    have hB1 := hB.trans ((below_drew1 _).mono hB.size)
    clear hX hB
    generalize (w.alloc (.cells (opC D A n c B m d) 74)).drew = W1 at *
    refine' wpAnyH_take (i := 0) (v := .pointer (some ⟨w.heap.size, 0, none⟩)) rfl (by kernel_rfl) (by kernel_rfl) (by kernel_rfl) (fun _ _ _ h => nomatch h.1) (Or.inl ⟨by rfl, fun w' hw' => by go_simp⟩) hHeld ?_
    try simp only [Act.put, List.getElem_toArray, List.getElem_cons_succ, List.getElem_cons_zero, List.setIfInBounds_toArray, List.set_cons_zero, List.set_cons_succ]
    refine' wpAnyH_take (i := 1) (v := .int .i64 3) rfl (by kernel_rfl) (by kernel_rfl) (by kernel_rfl) (fun _ _ _ h => nomatch h.1) (Or.inl ⟨by rfl, fun w' hw' => by have hv := hw'.c0; rw [hk] at hv; go_simp⟩) hHeld ?_
    try simp only [Act.put, List.getElem_toArray, List.getElem_cons_succ, List.getElem_cons_zero, List.setIfInBounds_toArray, List.set_cons_zero, List.set_cons_succ]
    refine' wpAnyH_take (i := 2) (v := .int .u8 3) rfl (by kernel_rfl) (by kernel_rfl) (by kernel_rfl) (fun _ _ _ h => nomatch h.1) (Or.inl ⟨by rfl, fun w' hw' => by go_simp; first | done | rfl | decide⟩) hHeld ?_
    try simp only [Act.put, List.getElem_toArray, List.getElem_cons_succ, List.getElem_cons_zero, List.setIfInBounds_toArray, List.set_cons_zero, List.set_cons_succ]
    refine' wpAnyH_take (i := 5) (v := .pointer (some ⟨w.heap.size, 1, none⟩)) rfl (by kernel_rfl) (by kernel_rfl) (by kernel_rfl) (fun _ _ _ h => nomatch h.1) (Or.inl ⟨by rfl, fun w' hw' => by go_simp⟩) hHeld ?_
    try simp only [Act.put, List.getElem_toArray, List.getElem_cons_succ, List.getElem_cons_zero, List.setIfInBounds_toArray, List.set_cons_zero, List.set_cons_succ]
    refine' wpAnyH_take (i := 6) (v := .string (txt D.p)) rfl (by kernel_rfl) (by kernel_rfl) (by kernel_rfl) (fun _ _ _ h => nomatch h.1) (Or.inl ⟨by rfl, fun w' hw' => by have hv := hw'.c1; go_simp⟩) hHeld ?_
    try simp only [Act.put, List.getElem_toArray, List.getElem_cons_succ, List.getElem_cons_zero, List.setIfInBounds_toArray, List.set_cons_zero, List.set_cons_succ]
    refine wpAnyH_ready (rs := [3, 7]) (by kernel_rfl) (by simp) ?_
    refine AllReadyH.cons rfl (fun K hK => ?_) (AllReadyH.cons rfl (fun K hK => ?_) AllReadyH.nil)
    · go_simp
      have hs := Blk.new W1 5 #[.int .u8 3]
      have hb := (Below.refl W1.heap.size W1).alloc (Nat.le_refl _) (.cells #[.int .u8 3] 5)
      refine hK.out _ _ (hHeld.below hb) (fun hHeld => ?_)
      clear hK K
      replace hB1 := hB1.trans (hb.mono hB1.size)
      clear hb
      generalize W1.heap.size = g at *
      generalize W1.alloc (.cells #[.int .u8 3] 5) = W2 at *
      try simp only [Act.put, List.getElem_toArray, List.getElem_cons_succ, List.getElem_cons_zero, List.setIfInBounds_toArray, List.set_cons_zero, List.set_cons_succ]
      refine wpAnyH_ready (rs := [4, 7]) (by kernel_rfl) (by simp) ?_
      refine AllReadyH.cons rfl (fun K hK => ?_) (AllReadyH.cons rfl (fun K hK => ?_) AllReadyH.nil)
      · have hcv := run_txt (P := Try.prog) W2 34 9 5 (some ⟨g, 0, none⟩) 1 1 X0 Try.underlying34 Try.underlying5 Try.underlying9 HX0.out.2 (HX0.out.1 _ _ hs)
        go_simp
        refine hK.out _ _ hHeld (fun hHeld => ?_)
        clear hK K hcv
        try simp only [Act.put, List.getElem_toArray, List.getElem_cons_succ, List.getElem_cons_zero, List.setIfInBounds_toArray, List.set_cons_zero, List.set_cons_succ]
        refine wpAnyH_ready (rs := [7]) (by kernel_rfl) (by simp) ?_
        refine AllReadyH.cons rfl (fun K hK => ?_) AllReadyH.nil
        go_simp
        (with_reducible refine (c1 W2 hB1).mono ?_)
        rintro o1 W3 ⟨rfl, hb⟩
        refine hK.out _ _ (hHeld.below hb) (fun hHeld => ?_)
        clear hK K
        replace hB1 := hB1.trans (hb.mono hB1.size)
        clear hb
        try simp only [Act.put, List.getElem_toArray, List.getElem_cons_succ, List.getElem_cons_zero, List.setIfInBounds_toArray, List.set_cons_zero, List.set_cons_succ]
        refine wpAnyH_ready (rs := [8]) (by kernel_rfl) (by simp) ?_
        refine AllReadyH.cons rfl (fun K hK => ?_) AllReadyH.nil
        go_simp
        refine hK.out _ _ hHeld (fun hHeld => ?_)
        clear hK K
        try simp only [Act.put, List.getElem_toArray, List.getElem_cons_succ, List.getElem_cons_zero, List.setIfInBounds_toArray, List.set_cons_zero, List.set_cons_succ]
        refine wpAnyH_ready (rs := [9]) (by kernel_rfl) (by simp) ?_
        refine AllReadyH.cons rfl (fun K hK => ?_) AllReadyH.nil
        go_simp
        refine hK.out _ _ hHeld (fun hHeld => ?_)
        clear hK K
        try simp only [Act.put, List.getElem_toArray, List.getElem_cons_succ, List.getElem_cons_zero, List.setIfInBounds_toArray, List.set_cons_zero, List.set_cons_succ]
        refine wpAnyH_done (by kernel_rfl) ?_ _
        exact ⟨rfl, g, rfl, hHeld, hB1⟩
      · go_simp
        (with_reducible refine (c1 W2 hB1).mono ?_)
        rintro o1 W3 ⟨rfl, hb⟩
        replace hs := hs.below hb
        refine hK.out _ _ (hHeld.below hb) (fun hHeld => ?_)
        clear hK K
        replace hB1 := hB1.trans (hb.mono hB1.size)
        clear hb
        try simp only [Act.put, List.getElem_toArray, List.getElem_cons_succ, List.getElem_cons_zero, List.setIfInBounds_toArray, List.set_cons_zero, List.set_cons_succ]
        refine wpAnyH_ready (rs := [4]) (by kernel_rfl) (by simp) ?_
        refine AllReadyH.cons rfl (fun K hK => ?_) AllReadyH.nil
        have hcv := run_txt (P := Try.prog) W3 34 9 5 (some ⟨g, 0, none⟩) 1 1 X0 Try.underlying34 Try.underlying5 Try.underlying9 HX0.out.2 (HX0.out.1 _ _ hs)
        go_simp
        refine hK.out _ _ hHeld (fun hHeld => ?_)
        clear hK K hcv
        try simp only [Act.put, List.getElem_toArray, List.getElem_cons_succ, List.getElem_cons_zero, List.setIfInBounds_toArray, List.set_cons_zero, List.set_cons_succ]
        refine wpAnyH_ready (rs := [8]) (by kernel_rfl) (by simp) ?_
        refine AllReadyH.cons rfl (fun K hK => ?_) AllReadyH.nil
        go_simp
        refine hK.out _ _ hHeld (fun hHeld => ?_)
        clear hK K
        try simp only [Act.put, List.getElem_toArray, List.getElem_cons_succ, List.getElem_cons_zero, List.setIfInBounds_toArray, List.set_cons_zero, List.set_cons_succ]
        refine wpAnyH_ready (rs := [9]) (by kernel_rfl) (by simp) ?_
        refine AllReadyH.cons rfl (fun K hK => ?_) AllReadyH.nil
        go_simp
        refine hK.out _ _ hHeld (fun hHeld => ?_)
        clear hK K
        try simp only [Act.put, List.getElem_toArray, List.getElem_cons_succ, List.getElem_cons_zero, List.setIfInBounds_toArray, List.set_cons_zero, List.set_cons_succ]
        refine wpAnyH_done (by kernel_rfl) ?_ _
        exact ⟨rfl, g, rfl, hHeld, hB1⟩
    · go_simp
      (with_reducible refine (c1 W1 hB1).mono ?_)
      rintro o1 W2 ⟨rfl, hb⟩
      refine hK.out _ _ (hHeld.below hb) (fun hHeld => ?_)
      clear hK K
      replace hB1 := hB1.trans (hb.mono hB1.size)
      clear hb
      try simp only [Act.put, List.getElem_toArray, List.getElem_cons_succ, List.getElem_cons_zero, List.setIfInBounds_toArray, List.set_cons_zero, List.set_cons_succ]
      refine wpAnyH_ready (rs := [3]) (by kernel_rfl) (by simp) ?_
      refine AllReadyH.cons rfl (fun K hK => ?_) AllReadyH.nil
      go_simp
      have hs := Blk.new W2 5 #[.int .u8 3]
      have hb := (Below.refl W2.heap.size W2).alloc (Nat.le_refl _) (.cells #[.int .u8 3] 5)
      refine hK.out _ _ (hHeld.below hb) (fun hHeld => ?_)
      clear hK K
      replace hB1 := hB1.trans (hb.mono hB1.size)
      clear hb
      generalize W2.heap.size = g at *
      generalize W2.alloc (.cells #[.int .u8 3] 5) = W3 at *
      try simp only [Act.put, List.getElem_toArray, List.getElem_cons_succ, List.getElem_cons_zero, List.setIfInBounds_toArray, List.set_cons_zero, List.set_cons_succ]
      refine wpAnyH_ready (rs := [4]) (by kernel_rfl) (by simp) ?_
      refine AllReadyH.cons rfl (fun K hK => ?_) AllReadyH.nil
      have hcv := run_txt (P := Try.prog) W3 34 9 5 (some ⟨g, 0, none⟩) 1 1 X0 Try.underlying34 Try.underlying5 Try.underlying9 HX0.out.2 (HX0.out.1 _ _ hs)
      go_simp
      refine hK.out _ _ hHeld (fun hHeld => ?_)
      clear hK K hcv
      try simp only [Act.put, List.getElem_toArray, List.getElem_cons_succ, List.getElem_cons_zero, List.setIfInBounds_toArray, List.set_cons_zero, List.set_cons_succ]
      refine wpAnyH_ready (rs := [8]) (by kernel_rfl) (by simp) ?_
      refine AllReadyH.cons rfl (fun K hK => ?_) AllReadyH.nil
      go_simp
      refine hK.out _ _ hHeld (fun hHeld => ?_)
      clear hK K
      try simp only [Act.put, List.getElem_toArray, List.getElem_cons_succ, List.getElem_cons_zero, List.setIfInBounds_toArray, List.set_cons_zero, List.set_cons_succ]
      refine wpAnyH_ready (rs := [9]) (by kernel_rfl) (by simp) ?_
      refine AllReadyH.cons rfl (fun K hK => ?_) AllReadyH.nil
      go_simp
      refine hK.out _ _ hHeld (fun hHeld => ?_)
      clear hK K
      try simp only [Act.put, List.getElem_toArray, List.getElem_cons_succ, List.getElem_cons_zero, List.setIfInBounds_toArray, List.set_cons_zero, List.set_cons_succ]
      refine wpAnyH_done (by kernel_rfl) ?_ _
      exact ⟨rfl, g, rfl, hHeld, hB1⟩
  case himp =>
    rintro e a' W ⟨rfl, g, rfl, hX, hB⟩
    clear HX0
    have x0 := hX.c0
    rw [hk] at x0
    have x1 := hX.c1
    have x3 := hX.c3
    rw [HN.out] at x3
    have x4 := hX.c4
    have x5 := hX.c5
    go_wp2_with (first
      | (go_at_call 26; (with_reducible refine (c2 _ hB).mono ?_); rintro o1 w1 ⟨rfl, hb⟩; replace hX := hX.below hb; replace hB := hB.trans (hb.mono hB.size); clear hb; clear x0 x1 x3 x4 x5; have x0 := hX.c0; rw [hk] at x0; have x1 := hX.c1; have x3 := hX.c3; rw [HN.out] at x3; have x4 := hX.c4; have x5 := hX.c5)
      | (go_at_call 31; (with_reducible refine (c3 _ hB).mono ?_); rintro o1 w1 ⟨rfl, hb⟩; replace hX := hX.below hb; replace hB := hB.trans (hb.mono hB.size); clear hb; clear x0 x1 x3 x4 x5; have x0 := hX.c0; rw [hk] at x0; have x1 := hX.c1; have x3 := hX.c3; rw [HN.out] at x3; have x4 := hX.c4; have x5 := hX.c5)
      | (go_at_call 31; (with_reducible refine (c4 _ hB).mono ?_); rintro o1 w1 ⟨rfl, hb⟩; replace hX := hX.below hb; replace hB := hB.trans (hb.mono hB.size); clear hb; clear x0 x1 x3 x4 x5; have x0 := hX.c0; rw [hk] at x0; have x1 := hX.c1; have x3 := hX.c3; rw [HN.out] at x3; have x4 := hX.c4; have x5 := hX.c5))
    go_ret
    exact ⟨by first | rfl | simp only [List.append_assoc]; rfl, hB⟩

set_option maxRecDepth 100000 in
set_option maxHeartbeats 40000000 in
theorem rb13_4 (D : OpD) (hK : D.K.length = 32) (A : Option Addr) (n c : Nat) (hlo : D.o.length = n) (bn : n ≤ 1000) (B : Option Addr) (m d : Nat) (hln : D.n.length = m) (bm : m ≤ 1000) (w : World) (rA : Rd w A (D.o.map strV)) (rB : Rd w B (D.n.map strV)) (hk : D.k = 4) (hE : opE D = 0) :
    Calls Try.prog 56 #[.agg (opC D A n c B m d)] w fun o w' => o = .returned (.string (txt (opB D))) ∧ Below w.heap.size w w' := by
  have ok := opOk hE
  have hX := OpX.new w D A n c B m d
  have hB : Below w.heap.size w (w.alloc (.cells (opC D A n c B m d) 74)) := (Below.refl _ w).alloc (Nat.le_refl _) _
  have hfin : opB D = [UInt8.ofNat 4] ++ textE D.p ++ textE D.t := by
    unfold opB
    rw [hk]
    simp [List.append_assoc]
  rw [hfin]
  clear hfin
  have y0 : ([UInt8.ofNat 4]).length ≤ 1 := by simp
  have y1 : (textE D.p).length ≤ 210 := by unfold textE; rw [List.length_append]; have := numE_len9 D.p.length (by have := ok.p; omega); have := ok.p; omega
  have c1 : ∀ W, Below w.heap.size w W → Calls Try.prog 27 #[.string (txt D.p)] W fun o w' => o = .returned (.string (txt (textE D.p))) ∧ Below W.heap.size W w' := fun W h => rPkText_any D.p (by have := ok.p; omega) W
  have y2 : (textE D.t).length ≤ 210 := by unfold textE; rw [List.length_append]; have := numE_len9 D.t.length (by have := ok.t; omega); have := ok.t; omega
  have c2 : ∀ W, Below w.heap.size w W → Calls Try.prog 27 #[.string (txt D.t)] W fun o w' => o = .returned (.string (txt (textE D.t))) ∧ Below W.heap.size W w' := fun W h => rPkText_any D.t (by have := ok.t; omega) W
  have hX0 : (∀ (W : World) (g : Nat), Blk W g 5 #[.int .u8 4] → Rd W (some ⟨g, 0, none⟩) (([UInt8.ofNat 4] : List UInt8).map u8v)) ∧ 1 = ([UInt8.ofNat 4] : List UInt8).length := ⟨fun W g h => Rd.blk h (fun j u hj => by rw [List.getElem?_toArray]; exact hj), rfl⟩
  generalize [UInt8.ofNat 4] = X0 at *
  generalize textE D.p = X1 at *
  generalize textE D.t = X2 at *
  have HX0 := hid hX0
  clear hX0
  have u10 : ¬ (9223372036854775807 : Int) < X0.length + X1.length := by omega
  have v10 : ¬ (9223372036854775807 : Nat) < X0.length + X1.length := by omega
  have u11 : ¬ (9223372036854775807 : Int) < X0.length + X1.length := by omega
  have v11 : ¬ (9223372036854775807 : Nat) < X0.length + X1.length := by omega
  have u12 : ¬ (9223372036854775807 : Int) < X0.length + X1.length := by omega
  have v12 : ¬ (9223372036854775807 : Nat) < X0.length + X1.length := by omega
  have u20 : ¬ (9223372036854775807 : Int) < X0.length + X1.length + X2.length := by omega
  have v20 : ¬ (9223372036854775807 : Nat) < X0.length + X1.length + X2.length := by omega
  have u21 : ¬ (9223372036854775807 : Int) < X0.length + X1.length + X2.length := by omega
  have v21 : ¬ (9223372036854775807 : Nat) < X0.length + X1.length + X2.length := by omega
  have u22 : ¬ (9223372036854775807 : Int) < X0.length + (X1.length + X2.length) := by omega
  have v22 : ¬ (9223372036854775807 : Nat) < X0.length + (X1.length + X2.length) := by omega
  clear y0 y1 y2
  go_enter Try.func56, Try.ntmps56
  go_wp2_with (fail)
  refine Code.wp_mono (Q := fun e a' W => e = .normal ∧ ∃ g : Nat, a' = { tmps := #[.agg (opC D A n c B m d), .pointer (some ⟨w.heap.size, 0, none⟩), .string ⟨#[]⟩, .string (txt (X0 ++ X1)), .pointer (some ⟨w.heap.size, 0, none⟩), .int .i64 4, .int .u8 4, .slice (some ⟨g, 0, none⟩) 1 1, .string (txt X0), .pointer (some ⟨w.heap.size, 1, none⟩), .string (txt D.p), .string (txt X1), .string (txt (X0 ++ X1)), undef, undef, undef, undef, undef, undef, undef, undef, undef, undef, undef, undef, undef, undef, undef, undef, undef, undef, undef, undef, undef, undef, undef, undef, undef, undef, undef, undef, undef, undef, undef, undef, undef, undef, undef, undef, undef, undef, undef, undef, undef, undef, undef, undef, undef, undef, undef, undef, undef, undef, undef, undef, undef, undef], defers := [] } ∧ OpX W w.heap.size D A n c B m d ∧ Below w.heap.size w W) ?himp ?hreg
  case hreg =>
    refine wp_region_held_drew (S := fun W => OpX W w.heap.size D A n c B m d) (by kernel_rfl) ?_ (fun hHeld => ?_)
    · exact hX.below (below_drew1 _)
    have hB1 := hB.trans ((below_drew1 _).mono hB.size)
    clear hX hB
    generalize (w.alloc (.cells (opC D A n c B m d) 74)).drew = W1 at *
    refine' wpAnyH_take (i := 0) (v := .pointer (some ⟨w.heap.size, 0, none⟩)) rfl (by kernel_rfl) (by kernel_rfl) (by kernel_rfl) (fun _ _ _ h => nomatch h.1) (Or.inl ⟨by rfl, fun w' hw' => by go_simp⟩) hHeld ?_
    try simp only [Act.put, List.getElem_toArray, List.getElem_cons_succ, List.getElem_cons_zero, List.setIfInBounds_toArray, List.set_cons_zero, List.set_cons_succ]
    refine' wpAnyH_take (i := 1) (v := .int .i64 4) rfl (by kernel_rfl) (by kernel_rfl) (by kernel_rfl) (fun _ _ _ h => nomatch h.1) (Or.inl ⟨by rfl, fun w' hw' => by have hv := hw'.c0; rw [hk] at hv; go_simp⟩) hHeld ?_
    try simp only [Act.put, List.getElem_toArray, List.getElem_cons_succ, List.getElem_cons_zero, List.setIfInBounds_toArray, List.set_cons_zero, List.set_cons_succ]
    refine' wpAnyH_take (i := 2) (v := .int .u8 4) rfl (by kernel_rfl) (by kernel_rfl) (by kernel_rfl) (fun _ _ _ h => nomatch h.1) (Or.inl ⟨by rfl, fun w' hw' => by go_simp; first | done | rfl | decide⟩) hHeld ?_
    try simp only [Act.put, List.getElem_toArray, List.getElem_cons_succ, List.getElem_cons_zero, List.setIfInBounds_toArray, List.set_cons_zero, List.set_cons_succ]
    refine' wpAnyH_take (i := 5) (v := .pointer (some ⟨w.heap.size, 1, none⟩)) rfl (by kernel_rfl) (by kernel_rfl) (by kernel_rfl) (fun _ _ _ h => nomatch h.1) (Or.inl ⟨by rfl, fun w' hw' => by go_simp⟩) hHeld ?_
    try simp only [Act.put, List.getElem_toArray, List.getElem_cons_succ, List.getElem_cons_zero, List.setIfInBounds_toArray, List.set_cons_zero, List.set_cons_succ]
    refine' wpAnyH_take (i := 6) (v := .string (txt D.p)) rfl (by kernel_rfl) (by kernel_rfl) (by kernel_rfl) (fun _ _ _ h => nomatch h.1) (Or.inl ⟨by rfl, fun w' hw' => by have hv := hw'.c1; go_simp⟩) hHeld ?_
    try simp only [Act.put, List.getElem_toArray, List.getElem_cons_succ, List.getElem_cons_zero, List.setIfInBounds_toArray, List.set_cons_zero, List.set_cons_succ]
    refine wpAnyH_ready (rs := [3, 7]) (by kernel_rfl) (by simp) ?_
    refine AllReadyH.cons rfl (fun K hK => ?_) (AllReadyH.cons rfl (fun K hK => ?_) AllReadyH.nil)
    · go_simp
      have hs := Blk.new W1 5 #[.int .u8 4]
      have hb := (Below.refl W1.heap.size W1).alloc (Nat.le_refl _) (.cells #[.int .u8 4] 5)
      refine hK.out _ _ (hHeld.below hb) (fun hHeld => ?_)
      clear hK K
      replace hB1 := hB1.trans (hb.mono hB1.size)
      clear hb
      generalize W1.heap.size = g at *
      generalize W1.alloc (.cells #[.int .u8 4] 5) = W2 at *
      try simp only [Act.put, List.getElem_toArray, List.getElem_cons_succ, List.getElem_cons_zero, List.setIfInBounds_toArray, List.set_cons_zero, List.set_cons_succ]
      refine wpAnyH_ready (rs := [4, 7]) (by kernel_rfl) (by simp) ?_
      refine AllReadyH.cons rfl (fun K hK => ?_) (AllReadyH.cons rfl (fun K hK => ?_) AllReadyH.nil)
      · have hcv := run_txt (P := Try.prog) W2 34 9 5 (some ⟨g, 0, none⟩) 1 1 X0 Try.underlying34 Try.underlying5 Try.underlying9 HX0.out.2 (HX0.out.1 _ _ hs)
        go_simp
        refine hK.out _ _ hHeld (fun hHeld => ?_)
        clear hK K hcv
        try simp only [Act.put, List.getElem_toArray, List.getElem_cons_succ, List.getElem_cons_zero, List.setIfInBounds_toArray, List.set_cons_zero, List.set_cons_succ]
        refine wpAnyH_ready (rs := [7]) (by kernel_rfl) (by simp) ?_
        refine AllReadyH.cons rfl (fun K hK => ?_) AllReadyH.nil
        go_simp
        (with_reducible refine (c1 W2 hB1).mono ?_)
        rintro o1 W3 ⟨rfl, hb⟩
        refine hK.out _ _ (hHeld.below hb) (fun hHeld => ?_)
        clear hK K
        replace hB1 := hB1.trans (hb.mono hB1.size)
        clear hb
        try simp only [Act.put, List.getElem_toArray, List.getElem_cons_succ, List.getElem_cons_zero, List.setIfInBounds_toArray, List.set_cons_zero, List.set_cons_succ]
        refine wpAnyH_ready (rs := [8]) (by kernel_rfl) (by simp) ?_
        refine AllReadyH.cons rfl (fun K hK => ?_) AllReadyH.nil
        go_simp
        refine hK.out _ _ hHeld (fun hHeld => ?_)
        clear hK K
        try simp only [Act.put, List.getElem_toArray, List.getElem_cons_succ, List.getElem_cons_zero, List.setIfInBounds_toArray, List.set_cons_zero, List.set_cons_succ]
        refine wpAnyH_ready (rs := [9]) (by kernel_rfl) (by simp) ?_
        refine AllReadyH.cons rfl (fun K hK => ?_) AllReadyH.nil
        go_simp
        refine hK.out _ _ hHeld (fun hHeld => ?_)
        clear hK K
        try simp only [Act.put, List.getElem_toArray, List.getElem_cons_succ, List.getElem_cons_zero, List.setIfInBounds_toArray, List.set_cons_zero, List.set_cons_succ]
        refine wpAnyH_done (by kernel_rfl) ?_ _
        exact ⟨rfl, g, rfl, hHeld, hB1⟩
      · go_simp
        (with_reducible refine (c1 W2 hB1).mono ?_)
        rintro o1 W3 ⟨rfl, hb⟩
        replace hs := hs.below hb
        refine hK.out _ _ (hHeld.below hb) (fun hHeld => ?_)
        clear hK K
        replace hB1 := hB1.trans (hb.mono hB1.size)
        clear hb
        try simp only [Act.put, List.getElem_toArray, List.getElem_cons_succ, List.getElem_cons_zero, List.setIfInBounds_toArray, List.set_cons_zero, List.set_cons_succ]
        refine wpAnyH_ready (rs := [4]) (by kernel_rfl) (by simp) ?_
        refine AllReadyH.cons rfl (fun K hK => ?_) AllReadyH.nil
        have hcv := run_txt (P := Try.prog) W3 34 9 5 (some ⟨g, 0, none⟩) 1 1 X0 Try.underlying34 Try.underlying5 Try.underlying9 HX0.out.2 (HX0.out.1 _ _ hs)
        go_simp
        refine hK.out _ _ hHeld (fun hHeld => ?_)
        clear hK K hcv
        try simp only [Act.put, List.getElem_toArray, List.getElem_cons_succ, List.getElem_cons_zero, List.setIfInBounds_toArray, List.set_cons_zero, List.set_cons_succ]
        refine wpAnyH_ready (rs := [8]) (by kernel_rfl) (by simp) ?_
        refine AllReadyH.cons rfl (fun K hK => ?_) AllReadyH.nil
        go_simp
        refine hK.out _ _ hHeld (fun hHeld => ?_)
        clear hK K
        try simp only [Act.put, List.getElem_toArray, List.getElem_cons_succ, List.getElem_cons_zero, List.setIfInBounds_toArray, List.set_cons_zero, List.set_cons_succ]
        refine wpAnyH_ready (rs := [9]) (by kernel_rfl) (by simp) ?_
        refine AllReadyH.cons rfl (fun K hK => ?_) AllReadyH.nil
        go_simp
        refine hK.out _ _ hHeld (fun hHeld => ?_)
        clear hK K
        try simp only [Act.put, List.getElem_toArray, List.getElem_cons_succ, List.getElem_cons_zero, List.setIfInBounds_toArray, List.set_cons_zero, List.set_cons_succ]
        refine wpAnyH_done (by kernel_rfl) ?_ _
        exact ⟨rfl, g, rfl, hHeld, hB1⟩
    · go_simp
      (with_reducible refine (c1 W1 hB1).mono ?_)
      rintro o1 W2 ⟨rfl, hb⟩
      refine hK.out _ _ (hHeld.below hb) (fun hHeld => ?_)
      clear hK K
      replace hB1 := hB1.trans (hb.mono hB1.size)
      clear hb
      try simp only [Act.put, List.getElem_toArray, List.getElem_cons_succ, List.getElem_cons_zero, List.setIfInBounds_toArray, List.set_cons_zero, List.set_cons_succ]
      refine wpAnyH_ready (rs := [3]) (by kernel_rfl) (by simp) ?_
      refine AllReadyH.cons rfl (fun K hK => ?_) AllReadyH.nil
      go_simp
      have hs := Blk.new W2 5 #[.int .u8 4]
      have hb := (Below.refl W2.heap.size W2).alloc (Nat.le_refl _) (.cells #[.int .u8 4] 5)
      refine hK.out _ _ (hHeld.below hb) (fun hHeld => ?_)
      clear hK K
      replace hB1 := hB1.trans (hb.mono hB1.size)
      clear hb
      generalize W2.heap.size = g at *
      generalize W2.alloc (.cells #[.int .u8 4] 5) = W3 at *
      try simp only [Act.put, List.getElem_toArray, List.getElem_cons_succ, List.getElem_cons_zero, List.setIfInBounds_toArray, List.set_cons_zero, List.set_cons_succ]
      refine wpAnyH_ready (rs := [4]) (by kernel_rfl) (by simp) ?_
      refine AllReadyH.cons rfl (fun K hK => ?_) AllReadyH.nil
      have hcv := run_txt (P := Try.prog) W3 34 9 5 (some ⟨g, 0, none⟩) 1 1 X0 Try.underlying34 Try.underlying5 Try.underlying9 HX0.out.2 (HX0.out.1 _ _ hs)
      go_simp
      refine hK.out _ _ hHeld (fun hHeld => ?_)
      clear hK K hcv
      try simp only [Act.put, List.getElem_toArray, List.getElem_cons_succ, List.getElem_cons_zero, List.setIfInBounds_toArray, List.set_cons_zero, List.set_cons_succ]
      refine wpAnyH_ready (rs := [8]) (by kernel_rfl) (by simp) ?_
      refine AllReadyH.cons rfl (fun K hK => ?_) AllReadyH.nil
      go_simp
      refine hK.out _ _ hHeld (fun hHeld => ?_)
      clear hK K
      try simp only [Act.put, List.getElem_toArray, List.getElem_cons_succ, List.getElem_cons_zero, List.setIfInBounds_toArray, List.set_cons_zero, List.set_cons_succ]
      refine wpAnyH_ready (rs := [9]) (by kernel_rfl) (by simp) ?_
      refine AllReadyH.cons rfl (fun K hK => ?_) AllReadyH.nil
      go_simp
      refine hK.out _ _ hHeld (fun hHeld => ?_)
      clear hK K
      try simp only [Act.put, List.getElem_toArray, List.getElem_cons_succ, List.getElem_cons_zero, List.setIfInBounds_toArray, List.set_cons_zero, List.set_cons_succ]
      refine wpAnyH_done (by kernel_rfl) ?_ _
      exact ⟨rfl, g, rfl, hHeld, hB1⟩
  case himp =>
    rintro e a' W ⟨rfl, g, rfl, hX, hB⟩
    clear HX0
    have x0 := hX.c0
    rw [hk] at x0
    have x1 := hX.c1
    have x2 := hX.c2
    go_wp2_with (first
      | (go_at_call 27; (with_reducible refine (c2 _ hB).mono ?_); rintro o1 w1 ⟨rfl, hb⟩; replace hX := hX.below hb; replace hB := hB.trans (hb.mono hB.size); clear hb; clear x0 x1 x2; have x0 := hX.c0; rw [hk] at x0; have x1 := hX.c1; have x2 := hX.c2))
    go_ret
    exact ⟨by first | rfl | simp only [List.append_assoc]; rfl, hB⟩

set_option maxRecDepth 100000 in
set_option maxHeartbeats 40000000 in
theorem rb13_5 (D : OpD) (hK : D.K.length = 32) (A : Option Addr) (n c : Nat) (hlo : D.o.length = n) (bn : n ≤ 1000) (B : Option Addr) (m d : Nat) (hln : D.n.length = m) (bm : m ≤ 1000) (w : World) (rA : Rd w A (D.o.map strV)) (rB : Rd w B (D.n.map strV)) (hk : D.k = 5) (hE : opE D = 0) :
    Calls Try.prog 56 #[.agg (opC D A n c B m d)] w fun o w' => o = .returned (.string (txt (opB D))) ∧ Below w.heap.size w w' := by
  have ok := opOk hE
  have hX := OpX.new w D A n c B m d
  have hB : Below w.heap.size w (w.alloc (.cells (opC D A n c B m d) 74)) := (Below.refl _ w).alloc (Nat.le_refl _) _
  obtain ⟨M, hM⟩ : ∃ M : Nat, D.d = M := ⟨D.d.toNat, by have := ok.d; omega⟩
  have bM : M ≤ 8 := by have := ok.d; omega
  have HM := hid hM
  have hfin : opB D = [UInt8.ofNat 5] ++ textE D.p ++ D.K ++ numE M := by
    unfold opB
    rw [hk, hM]
    simp [List.append_assoc]
  rw [hfin]
  clear hfin hM
  have y0 : ([UInt8.ofNat 5]).length ≤ 1 := by simp
  have y1 : (textE D.p).length ≤ 210 := by unfold textE; rw [List.length_append]; have := numE_len9 D.p.length (by have := ok.p; omega); have := ok.p; omega
  have c1 : ∀ W, Below w.heap.size w W → Calls Try.prog 27 #[.string (txt D.p)] W fun o w' => o = .returned (.string (txt (textE D.p))) ∧ Below W.heap.size W w' := fun W h => rPkText_any D.p (by have := ok.p; omega) W
  have y2 : (D.K).length ≤ 32 := by omega
  have c2 : ∀ W, Below w.heap.size w W → Calls Try.prog 28 #[.agg (D.K.map u8v).toArray] W fun o w' => o = .returned (.string (txt (D.K))) ∧ Below W.heap.size W w' := fun W h => rid_any D.K hK W
  have y3 : (numE M).length ≤ 9 := numE_len9 M (by omega)
  have c3 : ∀ W, Below w.heap.size w W → Calls Try.prog 26 #[.int .i64 (M : Int)] W fun o w' => o = .returned (.string (txt (numE M))) ∧ Below W.heap.size W w' := fun W h => rPkNum_any M (by omega) W
  have hX0 : (∀ (W : World) (g : Nat), Blk W g 5 #[.int .u8 5] → Rd W (some ⟨g, 0, none⟩) (([UInt8.ofNat 5] : List UInt8).map u8v)) ∧ 1 = ([UInt8.ofNat 5] : List UInt8).length := ⟨fun W g h => Rd.blk h (fun j u hj => by rw [List.getElem?_toArray]; exact hj), rfl⟩
  generalize [UInt8.ofNat 5] = X0 at *
  generalize textE D.p = X1 at *
  obtain ⟨X2, hX2⟩ : ∃ X2, X2 = D.K := ⟨_, rfl⟩
  rw [← hX2] at y2 ⊢
  have c2 : ∀ W, Below w.heap.size w W → Calls Try.prog 28 #[.agg (D.K.map u8v).toArray] W fun o w' => o = .returned (.string (txt X2)) ∧ Below W.heap.size W w' := fun W h => by rw [hX2]; exact c2 W h
  clear hX2
  generalize numE M = X3 at *
  have HX0 := hid hX0
  clear hX0
  have u10 : ¬ (9223372036854775807 : Int) < X0.length + X1.length := by omega
  have v10 : ¬ (9223372036854775807 : Nat) < X0.length + X1.length := by omega
  have u11 : ¬ (9223372036854775807 : Int) < X0.length + X1.length := by omega
  have v11 : ¬ (9223372036854775807 : Nat) < X0.length + X1.length := by omega
  have u12 : ¬ (9223372036854775807 : Int) < X0.length + X1.length := by omega
  have v12 : ¬ (9223372036854775807 : Nat) < X0.length + X1.length := by omega
  have u20 : ¬ (9223372036854775807 : Int) < X0.length + X1.length + X2.length := by omega
  have v20 : ¬ (9223372036854775807 : Nat) < X0.length + X1.length + X2.length := by omega
  have u21 : ¬ (9223372036854775807 : Int) < X0.length + X1.length + X2.length := by omega
  have v21 : ¬ (9223372036854775807 : Nat) < X0.length + X1.length + X2.length := by omega
  have u22 : ¬ (9223372036854775807 : Int) < X0.length + (X1.length + X2.length) := by omega
  have v22 : ¬ (9223372036854775807 : Nat) < X0.length + (X1.length + X2.length) := by omega
  have u30 : ¬ (9223372036854775807 : Int) < X0.length + X1.length + X2.length + X3.length := by omega
  have v30 : ¬ (9223372036854775807 : Nat) < X0.length + X1.length + X2.length + X3.length := by omega
  have u31 : ¬ (9223372036854775807 : Int) < X0.length + (X1.length + X2.length) + X3.length := by omega
  have v31 : ¬ (9223372036854775807 : Nat) < X0.length + (X1.length + X2.length) + X3.length := by omega
  have u32 : ¬ (9223372036854775807 : Int) < X0.length + (X1.length + (X2.length + X3.length)) := by omega
  have v32 : ¬ (9223372036854775807 : Nat) < X0.length + (X1.length + (X2.length + X3.length)) := by omega
  clear y0 y1 y2 y3
  have hu := Try.underlying24
  have hHZ : (Try.prog.info? 24).map (·.size) = some (D.K.map u8v).length := by rw [List.length_map, hK]; exact sizeId
  go_enter Try.func56, Try.ntmps56
  go_wp2_with (fail)
  refine Code.wp_mono (Q := fun e a' W => e = .normal ∧ ∃ g : Nat, a' = { tmps := #[.agg (opC D A n c B m d), .pointer (some ⟨w.heap.size, 0, none⟩), .string ⟨#[]⟩, .string (txt (X0 ++ X1)), .pointer (some ⟨w.heap.size, 0, none⟩), .int .i64 5, .int .u8 5, .slice (some ⟨g, 0, none⟩) 1 1, .string (txt X0), .pointer (some ⟨w.heap.size, 1, none⟩), .string (txt D.p), .string (txt X1), .string (txt (X0 ++ X1)), undef, undef, undef, undef, undef, undef, undef, undef, undef, undef, undef, undef, undef, undef, undef, undef, undef, undef, undef, undef, undef, undef, undef, undef, undef, undef, undef, undef, undef, undef, undef, undef, undef, undef, undef, undef, undef, undef, undef, undef, undef, undef, undef, undef, undef, undef, undef, undef, undef, undef, undef, undef, undef, undef], defers := [] } ∧ OpX W w.heap.size D A n c B m d ∧ Below w.heap.size w W) ?himp ?hreg
  case hreg =>
    refine wp_region_held_drew (S := fun W => OpX W w.heap.size D A n c B m d) (by kernel_rfl) ?_ (fun hHeld => ?_)
    · exact hX.below (below_drew1 _)
    have hB1 := hB.trans ((below_drew1 _).mono hB.size)
    clear hX hB
    generalize (w.alloc (.cells (opC D A n c B m d) 74)).drew = W1 at *
    refine' wpAnyH_take (i := 0) (v := .pointer (some ⟨w.heap.size, 0, none⟩)) rfl (by kernel_rfl) (by kernel_rfl) (by kernel_rfl) (fun _ _ _ h => nomatch h.1) (Or.inl ⟨by rfl, fun w' hw' => by go_simp⟩) hHeld ?_
    try simp only [Act.put, List.getElem_toArray, List.getElem_cons_succ, List.getElem_cons_zero, List.setIfInBounds_toArray, List.set_cons_zero, List.set_cons_succ]
    refine' wpAnyH_take (i := 1) (v := .int .i64 5) rfl (by kernel_rfl) (by kernel_rfl) (by kernel_rfl) (fun _ _ _ h => nomatch h.1) (Or.inl ⟨by rfl, fun w' hw' => by have hv := hw'.c0; rw [hk] at hv; go_simp⟩) hHeld ?_
    try simp only [Act.put, List.getElem_toArray, List.getElem_cons_succ, List.getElem_cons_zero, List.setIfInBounds_toArray, List.set_cons_zero, List.set_cons_succ]
    refine' wpAnyH_take (i := 2) (v := .int .u8 5) rfl (by kernel_rfl) (by kernel_rfl) (by kernel_rfl) (fun _ _ _ h => nomatch h.1) (Or.inl ⟨by rfl, fun w' hw' => by go_simp; first | done | rfl | decide⟩) hHeld ?_
    try simp only [Act.put, List.getElem_toArray, List.getElem_cons_succ, List.getElem_cons_zero, List.setIfInBounds_toArray, List.set_cons_zero, List.set_cons_succ]
    refine' wpAnyH_take (i := 5) (v := .pointer (some ⟨w.heap.size, 1, none⟩)) rfl (by kernel_rfl) (by kernel_rfl) (by kernel_rfl) (fun _ _ _ h => nomatch h.1) (Or.inl ⟨by rfl, fun w' hw' => by go_simp⟩) hHeld ?_
    try simp only [Act.put, List.getElem_toArray, List.getElem_cons_succ, List.getElem_cons_zero, List.setIfInBounds_toArray, List.set_cons_zero, List.set_cons_succ]
    refine' wpAnyH_take (i := 6) (v := .string (txt D.p)) rfl (by kernel_rfl) (by kernel_rfl) (by kernel_rfl) (fun _ _ _ h => nomatch h.1) (Or.inl ⟨by rfl, fun w' hw' => by have hv := hw'.c1; go_simp⟩) hHeld ?_
    try simp only [Act.put, List.getElem_toArray, List.getElem_cons_succ, List.getElem_cons_zero, List.setIfInBounds_toArray, List.set_cons_zero, List.set_cons_succ]
    refine wpAnyH_ready (rs := [3, 7]) (by kernel_rfl) (by simp) ?_
    refine AllReadyH.cons rfl (fun K hK => ?_) (AllReadyH.cons rfl (fun K hK => ?_) AllReadyH.nil)
    · go_simp
      have hs := Blk.new W1 5 #[.int .u8 5]
      have hb := (Below.refl W1.heap.size W1).alloc (Nat.le_refl _) (.cells #[.int .u8 5] 5)
      refine hK.out _ _ (hHeld.below hb) (fun hHeld => ?_)
      clear hK K
      replace hB1 := hB1.trans (hb.mono hB1.size)
      clear hb
      generalize W1.heap.size = g at *
      generalize W1.alloc (.cells #[.int .u8 5] 5) = W2 at *
      try simp only [Act.put, List.getElem_toArray, List.getElem_cons_succ, List.getElem_cons_zero, List.setIfInBounds_toArray, List.set_cons_zero, List.set_cons_succ]
      refine wpAnyH_ready (rs := [4, 7]) (by kernel_rfl) (by simp) ?_
      refine AllReadyH.cons rfl (fun K hK => ?_) (AllReadyH.cons rfl (fun K hK => ?_) AllReadyH.nil)
      · have hcv := run_txt (P := Try.prog) W2 34 9 5 (some ⟨g, 0, none⟩) 1 1 X0 Try.underlying34 Try.underlying5 Try.underlying9 HX0.out.2 (HX0.out.1 _ _ hs)
        go_simp
        refine hK.out _ _ hHeld (fun hHeld => ?_)
        clear hK K hcv
        try simp only [Act.put, List.getElem_toArray, List.getElem_cons_succ, List.getElem_cons_zero, List.setIfInBounds_toArray, List.set_cons_zero, List.set_cons_succ]
        refine wpAnyH_ready (rs := [7]) (by kernel_rfl) (by simp) ?_
        refine AllReadyH.cons rfl (fun K hK => ?_) AllReadyH.nil
        go_simp
        (with_reducible refine (c1 W2 hB1).mono ?_)
        rintro o1 W3 ⟨rfl, hb⟩
        refine hK.out _ _ (hHeld.below hb) (fun hHeld => ?_)
        clear hK K
        replace hB1 := hB1.trans (hb.mono hB1.size)
        clear hb
        try simp only [Act.put, List.getElem_toArray, List.getElem_cons_succ, List.getElem_cons_zero, List.setIfInBounds_toArray, List.set_cons_zero, List.set_cons_succ]
        refine wpAnyH_ready (rs := [8]) (by kernel_rfl) (by simp) ?_
        refine AllReadyH.cons rfl (fun K hK => ?_) AllReadyH.nil
        go_simp
        refine hK.out _ _ hHeld (fun hHeld => ?_)
        clear hK K
        try simp only [Act.put, List.getElem_toArray, List.getElem_cons_succ, List.getElem_cons_zero, List.setIfInBounds_toArray, List.set_cons_zero, List.set_cons_succ]
        refine wpAnyH_ready (rs := [9]) (by kernel_rfl) (by simp) ?_
        refine AllReadyH.cons rfl (fun K hK => ?_) AllReadyH.nil
        go_simp
        refine hK.out _ _ hHeld (fun hHeld => ?_)
        clear hK K
        try simp only [Act.put, List.getElem_toArray, List.getElem_cons_succ, List.getElem_cons_zero, List.setIfInBounds_toArray, List.set_cons_zero, List.set_cons_succ]
        refine wpAnyH_done (by kernel_rfl) ?_ _
        exact ⟨rfl, g, rfl, hHeld, hB1⟩
      · go_simp
        (with_reducible refine (c1 W2 hB1).mono ?_)
        rintro o1 W3 ⟨rfl, hb⟩
        replace hs := hs.below hb
        refine hK.out _ _ (hHeld.below hb) (fun hHeld => ?_)
        clear hK K
        replace hB1 := hB1.trans (hb.mono hB1.size)
        clear hb
        try simp only [Act.put, List.getElem_toArray, List.getElem_cons_succ, List.getElem_cons_zero, List.setIfInBounds_toArray, List.set_cons_zero, List.set_cons_succ]
        refine wpAnyH_ready (rs := [4]) (by kernel_rfl) (by simp) ?_
        refine AllReadyH.cons rfl (fun K hK => ?_) AllReadyH.nil
        have hcv := run_txt (P := Try.prog) W3 34 9 5 (some ⟨g, 0, none⟩) 1 1 X0 Try.underlying34 Try.underlying5 Try.underlying9 HX0.out.2 (HX0.out.1 _ _ hs)
        go_simp
        refine hK.out _ _ hHeld (fun hHeld => ?_)
        clear hK K hcv
        try simp only [Act.put, List.getElem_toArray, List.getElem_cons_succ, List.getElem_cons_zero, List.setIfInBounds_toArray, List.set_cons_zero, List.set_cons_succ]
        refine wpAnyH_ready (rs := [8]) (by kernel_rfl) (by simp) ?_
        refine AllReadyH.cons rfl (fun K hK => ?_) AllReadyH.nil
        go_simp
        refine hK.out _ _ hHeld (fun hHeld => ?_)
        clear hK K
        try simp only [Act.put, List.getElem_toArray, List.getElem_cons_succ, List.getElem_cons_zero, List.setIfInBounds_toArray, List.set_cons_zero, List.set_cons_succ]
        refine wpAnyH_ready (rs := [9]) (by kernel_rfl) (by simp) ?_
        refine AllReadyH.cons rfl (fun K hK => ?_) AllReadyH.nil
        go_simp
        refine hK.out _ _ hHeld (fun hHeld => ?_)
        clear hK K
        try simp only [Act.put, List.getElem_toArray, List.getElem_cons_succ, List.getElem_cons_zero, List.setIfInBounds_toArray, List.set_cons_zero, List.set_cons_succ]
        refine wpAnyH_done (by kernel_rfl) ?_ _
        exact ⟨rfl, g, rfl, hHeld, hB1⟩
    · go_simp
      (with_reducible refine (c1 W1 hB1).mono ?_)
      rintro o1 W2 ⟨rfl, hb⟩
      refine hK.out _ _ (hHeld.below hb) (fun hHeld => ?_)
      clear hK K
      replace hB1 := hB1.trans (hb.mono hB1.size)
      clear hb
      try simp only [Act.put, List.getElem_toArray, List.getElem_cons_succ, List.getElem_cons_zero, List.setIfInBounds_toArray, List.set_cons_zero, List.set_cons_succ]
      refine wpAnyH_ready (rs := [3]) (by kernel_rfl) (by simp) ?_
      refine AllReadyH.cons rfl (fun K hK => ?_) AllReadyH.nil
      go_simp
      have hs := Blk.new W2 5 #[.int .u8 5]
      have hb := (Below.refl W2.heap.size W2).alloc (Nat.le_refl _) (.cells #[.int .u8 5] 5)
      refine hK.out _ _ (hHeld.below hb) (fun hHeld => ?_)
      clear hK K
      replace hB1 := hB1.trans (hb.mono hB1.size)
      clear hb
      generalize W2.heap.size = g at *
      generalize W2.alloc (.cells #[.int .u8 5] 5) = W3 at *
      try simp only [Act.put, List.getElem_toArray, List.getElem_cons_succ, List.getElem_cons_zero, List.setIfInBounds_toArray, List.set_cons_zero, List.set_cons_succ]
      refine wpAnyH_ready (rs := [4]) (by kernel_rfl) (by simp) ?_
      refine AllReadyH.cons rfl (fun K hK => ?_) AllReadyH.nil
      have hcv := run_txt (P := Try.prog) W3 34 9 5 (some ⟨g, 0, none⟩) 1 1 X0 Try.underlying34 Try.underlying5 Try.underlying9 HX0.out.2 (HX0.out.1 _ _ hs)
      go_simp
      refine hK.out _ _ hHeld (fun hHeld => ?_)
      clear hK K hcv
      try simp only [Act.put, List.getElem_toArray, List.getElem_cons_succ, List.getElem_cons_zero, List.setIfInBounds_toArray, List.set_cons_zero, List.set_cons_succ]
      refine wpAnyH_ready (rs := [8]) (by kernel_rfl) (by simp) ?_
      refine AllReadyH.cons rfl (fun K hK => ?_) AllReadyH.nil
      go_simp
      refine hK.out _ _ hHeld (fun hHeld => ?_)
      clear hK K
      try simp only [Act.put, List.getElem_toArray, List.getElem_cons_succ, List.getElem_cons_zero, List.setIfInBounds_toArray, List.set_cons_zero, List.set_cons_succ]
      refine wpAnyH_ready (rs := [9]) (by kernel_rfl) (by simp) ?_
      refine AllReadyH.cons rfl (fun K hK => ?_) AllReadyH.nil
      go_simp
      refine hK.out _ _ hHeld (fun hHeld => ?_)
      clear hK K
      try simp only [Act.put, List.getElem_toArray, List.getElem_cons_succ, List.getElem_cons_zero, List.setIfInBounds_toArray, List.set_cons_zero, List.set_cons_succ]
      refine wpAnyH_done (by kernel_rfl) ?_ _
      exact ⟨rfl, g, rfl, hHeld, hB1⟩
  case himp =>
    rintro e a' W ⟨rfl, g, rfl, hX, hB⟩
    clear HX0
    have x0 := hX.c0
    rw [hk] at x0
    have x1 := hX.c1
    have x38 := hX.c38 hK
    rw [HM.out] at x38
    have xK := hX.key
    go_wp2_with (first
      | (with_reducible refine wpList_load_if (by with_unfolding_all rfl) 24 _ rfl _ _ rfl (D.K.map u8v) _ xK hu (by with_unfolding_all rfl) hHZ ?_)
      | (go_at_call 28; (with_reducible refine (c2 _ hB).mono ?_); rintro o1 w1 ⟨rfl, hb⟩; replace hX := hX.below hb; replace hB := hB.trans (hb.mono hB.size); clear hb; clear x0 x1 x38 xK; have x0 := hX.c0; rw [hk] at x0; have x1 := hX.c1; have x38 := hX.c38 hK; rw [HM.out] at x38; have xK := hX.key)
      | (go_at_call 26; (with_reducible refine (c3 _ hB).mono ?_); rintro o1 w1 ⟨rfl, hb⟩; replace hX := hX.below hb; replace hB := hB.trans (hb.mono hB.size); clear hb; clear x0 x1 x38 xK; have x0 := hX.c0; rw [hk] at x0; have x1 := hX.c1; have x38 := hX.c38 hK; rw [HM.out] at x38; have xK := hX.key))
    go_ret
    exact ⟨by first | rfl | simp only [List.append_assoc]; rfl, hB⟩

set_option maxRecDepth 100000 in
set_option maxHeartbeats 40000000 in
theorem rb13_6 (D : OpD) (hK : D.K.length = 32) (A : Option Addr) (n c : Nat) (hlo : D.o.length = n) (bn : n ≤ 1000) (B : Option Addr) (m d : Nat) (hln : D.n.length = m) (bm : m ≤ 1000) (w : World) (rA : Rd w A (D.o.map strV)) (rB : Rd w B (D.n.map strV)) (hk : D.k = 6) (hE : opE D = 0) :
    Calls Try.prog 56 #[.agg (opC D A n c B m d)] w fun o w' => o = .returned (.string (txt (opB D))) ∧ Below w.heap.size w w' := by
  have ok := opOk hE
  have hX := OpX.new w D A n c B m d
  have hB : Below w.heap.size w (w.alloc (.cells (opC D A n c B m d) 74)) := (Below.refl _ w).alloc (Nat.le_refl _) _
  have hfin : opB D = [UInt8.ofNat 6] ++ textE D.p ++ D.K := by
    unfold opB
    rw [hk]
    simp [List.append_assoc]
  rw [hfin]
  clear hfin
  have y0 : ([UInt8.ofNat 6]).length ≤ 1 := by simp
  have y1 : (textE D.p).length ≤ 210 := by unfold textE; rw [List.length_append]; have := numE_len9 D.p.length (by have := ok.p; omega); have := ok.p; omega
  have c1 : ∀ W, Below w.heap.size w W → Calls Try.prog 27 #[.string (txt D.p)] W fun o w' => o = .returned (.string (txt (textE D.p))) ∧ Below W.heap.size W w' := fun W h => rPkText_any D.p (by have := ok.p; omega) W
  have y2 : (D.K).length ≤ 32 := by omega
  have c2 : ∀ W, Below w.heap.size w W → Calls Try.prog 28 #[.agg (D.K.map u8v).toArray] W fun o w' => o = .returned (.string (txt (D.K))) ∧ Below W.heap.size W w' := fun W h => rid_any D.K hK W
  have hX0 : (∀ (W : World) (g : Nat), Blk W g 5 #[.int .u8 6] → Rd W (some ⟨g, 0, none⟩) (([UInt8.ofNat 6] : List UInt8).map u8v)) ∧ 1 = ([UInt8.ofNat 6] : List UInt8).length := ⟨fun W g h => Rd.blk h (fun j u hj => by rw [List.getElem?_toArray]; exact hj), rfl⟩
  generalize [UInt8.ofNat 6] = X0 at *
  generalize textE D.p = X1 at *
  obtain ⟨X2, hX2⟩ : ∃ X2, X2 = D.K := ⟨_, rfl⟩
  rw [← hX2] at y2 ⊢
  have c2 : ∀ W, Below w.heap.size w W → Calls Try.prog 28 #[.agg (D.K.map u8v).toArray] W fun o w' => o = .returned (.string (txt X2)) ∧ Below W.heap.size W w' := fun W h => by rw [hX2]; exact c2 W h
  clear hX2
  have HX0 := hid hX0
  clear hX0
  have u10 : ¬ (9223372036854775807 : Int) < X0.length + X1.length := by omega
  have v10 : ¬ (9223372036854775807 : Nat) < X0.length + X1.length := by omega
  have u11 : ¬ (9223372036854775807 : Int) < X0.length + X1.length := by omega
  have v11 : ¬ (9223372036854775807 : Nat) < X0.length + X1.length := by omega
  have u12 : ¬ (9223372036854775807 : Int) < X0.length + X1.length := by omega
  have v12 : ¬ (9223372036854775807 : Nat) < X0.length + X1.length := by omega
  have u20 : ¬ (9223372036854775807 : Int) < X0.length + X1.length + X2.length := by omega
  have v20 : ¬ (9223372036854775807 : Nat) < X0.length + X1.length + X2.length := by omega
  have u21 : ¬ (9223372036854775807 : Int) < X0.length + X1.length + X2.length := by omega
  have v21 : ¬ (9223372036854775807 : Nat) < X0.length + X1.length + X2.length := by omega
  have u22 : ¬ (9223372036854775807 : Int) < X0.length + (X1.length + X2.length) := by omega
  have v22 : ¬ (9223372036854775807 : Nat) < X0.length + (X1.length + X2.length) := by omega
  clear y0 y1 y2
  have hu := Try.underlying24
  have hHZ : (Try.prog.info? 24).map (·.size) = some (D.K.map u8v).length := by rw [List.length_map, hK]; exact sizeId
  go_enter Try.func56, Try.ntmps56
  go_wp2_with (fail)
  refine Code.wp_mono (Q := fun e a' W => e = .normal ∧ ∃ g : Nat, a' = { tmps := #[.agg (opC D A n c B m d), .pointer (some ⟨w.heap.size, 0, none⟩), .string ⟨#[]⟩, .string (txt (X0 ++ X1)), .pointer (some ⟨w.heap.size, 0, none⟩), .int .i64 6, .int .u8 6, .slice (some ⟨g, 0, none⟩) 1 1, .string (txt X0), .pointer (some ⟨w.heap.size, 1, none⟩), .string (txt D.p), .string (txt X1), .string (txt (X0 ++ X1)), undef, undef, undef, undef, undef, undef, undef, undef, undef, undef, undef, undef, undef, undef, undef, undef, undef, undef, undef, undef, undef, undef, undef, undef, undef, undef, undef, undef, undef, undef, undef, undef, undef, undef, undef, undef, undef, undef, undef, undef, undef, undef, undef, undef, undef, undef, undef, undef, undef, undef, undef, undef, undef, undef], defers := [] } ∧ OpX W w.heap.size D A n c B m d ∧ Below w.heap.size w W) ?himp ?hreg
  case hreg =>
    refine wp_region_held_drew (S := fun W => OpX W w.heap.size D A n c B m d) (by kernel_rfl) ?_ (fun hHeld => ?_)
    · exact hX.below (below_drew1 _)
    have hB1 := hB.trans ((below_drew1 _).mono hB.size)
    clear hX hB
    generalize (w.alloc (.cells (opC D A n c B m d) 74)).drew = W1 at *
    refine' wpAnyH_take (i := 0) (v := .pointer (some ⟨w.heap.size, 0, none⟩)) rfl (by kernel_rfl) (by kernel_rfl) (by kernel_rfl) (fun _ _ _ h => nomatch h.1) (Or.inl ⟨by rfl, fun w' hw' => by go_simp⟩) hHeld ?_
    try simp only [Act.put, List.getElem_toArray, List.getElem_cons_succ, List.getElem_cons_zero, List.setIfInBounds_toArray, List.set_cons_zero, List.set_cons_succ]
    refine' wpAnyH_take (i := 1) (v := .int .i64 6) rfl (by kernel_rfl) (by kernel_rfl) (by kernel_rfl) (fun _ _ _ h => nomatch h.1) (Or.inl ⟨by rfl, fun w' hw' => by have hv := hw'.c0; rw [hk] at hv; go_simp⟩) hHeld ?_
    try simp only [Act.put, List.getElem_toArray, List.getElem_cons_succ, List.getElem_cons_zero, List.setIfInBounds_toArray, List.set_cons_zero, List.set_cons_succ]
    refine' wpAnyH_take (i := 2) (v := .int .u8 6) rfl (by kernel_rfl) (by kernel_rfl) (by kernel_rfl) (fun _ _ _ h => nomatch h.1) (Or.inl ⟨by rfl, fun w' hw' => by go_simp; first | done | rfl | decide⟩) hHeld ?_
    try simp only [Act.put, List.getElem_toArray, List.getElem_cons_succ, List.getElem_cons_zero, List.setIfInBounds_toArray, List.set_cons_zero, List.set_cons_succ]
    refine' wpAnyH_take (i := 5) (v := .pointer (some ⟨w.heap.size, 1, none⟩)) rfl (by kernel_rfl) (by kernel_rfl) (by kernel_rfl) (fun _ _ _ h => nomatch h.1) (Or.inl ⟨by rfl, fun w' hw' => by go_simp⟩) hHeld ?_
    try simp only [Act.put, List.getElem_toArray, List.getElem_cons_succ, List.getElem_cons_zero, List.setIfInBounds_toArray, List.set_cons_zero, List.set_cons_succ]
    refine' wpAnyH_take (i := 6) (v := .string (txt D.p)) rfl (by kernel_rfl) (by kernel_rfl) (by kernel_rfl) (fun _ _ _ h => nomatch h.1) (Or.inl ⟨by rfl, fun w' hw' => by have hv := hw'.c1; go_simp⟩) hHeld ?_
    try simp only [Act.put, List.getElem_toArray, List.getElem_cons_succ, List.getElem_cons_zero, List.setIfInBounds_toArray, List.set_cons_zero, List.set_cons_succ]
    refine wpAnyH_ready (rs := [3, 7]) (by kernel_rfl) (by simp) ?_
    refine AllReadyH.cons rfl (fun K hK => ?_) (AllReadyH.cons rfl (fun K hK => ?_) AllReadyH.nil)
    · go_simp
      have hs := Blk.new W1 5 #[.int .u8 6]
      have hb := (Below.refl W1.heap.size W1).alloc (Nat.le_refl _) (.cells #[.int .u8 6] 5)
      refine hK.out _ _ (hHeld.below hb) (fun hHeld => ?_)
      clear hK K
      replace hB1 := hB1.trans (hb.mono hB1.size)
      clear hb
      generalize W1.heap.size = g at *
      generalize W1.alloc (.cells #[.int .u8 6] 5) = W2 at *
      try simp only [Act.put, List.getElem_toArray, List.getElem_cons_succ, List.getElem_cons_zero, List.setIfInBounds_toArray, List.set_cons_zero, List.set_cons_succ]
      refine wpAnyH_ready (rs := [4, 7]) (by kernel_rfl) (by simp) ?_
      refine AllReadyH.cons rfl (fun K hK => ?_) (AllReadyH.cons rfl (fun K hK => ?_) AllReadyH.nil)
      · have hcv := run_txt (P := Try.prog) W2 34 9 5 (some ⟨g, 0, none⟩) 1 1 X0 Try.underlying34 Try.underlying5 Try.underlying9 HX0.out.2 (HX0.out.1 _ _ hs)
        go_simp
        refine hK.out _ _ hHeld (fun hHeld => ?_)
        clear hK K hcv
        try simp only [Act.put, List.getElem_toArray, List.getElem_cons_succ, List.getElem_cons_zero, List.setIfInBounds_toArray, List.set_cons_zero, List.set_cons_succ]
        refine wpAnyH_ready (rs := [7]) (by kernel_rfl) (by simp) ?_
        refine AllReadyH.cons rfl (fun K hK => ?_) AllReadyH.nil
        go_simp
        (with_reducible refine (c1 W2 hB1).mono ?_)
        rintro o1 W3 ⟨rfl, hb⟩
        refine hK.out _ _ (hHeld.below hb) (fun hHeld => ?_)
        clear hK K
        replace hB1 := hB1.trans (hb.mono hB1.size)
        clear hb
        try simp only [Act.put, List.getElem_toArray, List.getElem_cons_succ, List.getElem_cons_zero, List.setIfInBounds_toArray, List.set_cons_zero, List.set_cons_succ]
        refine wpAnyH_ready (rs := [8]) (by kernel_rfl) (by simp) ?_
        refine AllReadyH.cons rfl (fun K hK => ?_) AllReadyH.nil
        go_simp
        refine hK.out _ _ hHeld (fun hHeld => ?_)
        clear hK K
        try simp only [Act.put, List.getElem_toArray, List.getElem_cons_succ, List.getElem_cons_zero, List.setIfInBounds_toArray, List.set_cons_zero, List.set_cons_succ]
        refine wpAnyH_ready (rs := [9]) (by kernel_rfl) (by simp) ?_
        refine AllReadyH.cons rfl (fun K hK => ?_) AllReadyH.nil
        go_simp
        refine hK.out _ _ hHeld (fun hHeld => ?_)
        clear hK K
        try simp only [Act.put, List.getElem_toArray, List.getElem_cons_succ, List.getElem_cons_zero, List.setIfInBounds_toArray, List.set_cons_zero, List.set_cons_succ]
        refine wpAnyH_done (by kernel_rfl) ?_ _
        exact ⟨rfl, g, rfl, hHeld, hB1⟩
      · go_simp
        (with_reducible refine (c1 W2 hB1).mono ?_)
        rintro o1 W3 ⟨rfl, hb⟩
        replace hs := hs.below hb
        refine hK.out _ _ (hHeld.below hb) (fun hHeld => ?_)
        clear hK K
        replace hB1 := hB1.trans (hb.mono hB1.size)
        clear hb
        try simp only [Act.put, List.getElem_toArray, List.getElem_cons_succ, List.getElem_cons_zero, List.setIfInBounds_toArray, List.set_cons_zero, List.set_cons_succ]
        refine wpAnyH_ready (rs := [4]) (by kernel_rfl) (by simp) ?_
        refine AllReadyH.cons rfl (fun K hK => ?_) AllReadyH.nil
        have hcv := run_txt (P := Try.prog) W3 34 9 5 (some ⟨g, 0, none⟩) 1 1 X0 Try.underlying34 Try.underlying5 Try.underlying9 HX0.out.2 (HX0.out.1 _ _ hs)
        go_simp
        refine hK.out _ _ hHeld (fun hHeld => ?_)
        clear hK K hcv
        try simp only [Act.put, List.getElem_toArray, List.getElem_cons_succ, List.getElem_cons_zero, List.setIfInBounds_toArray, List.set_cons_zero, List.set_cons_succ]
        refine wpAnyH_ready (rs := [8]) (by kernel_rfl) (by simp) ?_
        refine AllReadyH.cons rfl (fun K hK => ?_) AllReadyH.nil
        go_simp
        refine hK.out _ _ hHeld (fun hHeld => ?_)
        clear hK K
        try simp only [Act.put, List.getElem_toArray, List.getElem_cons_succ, List.getElem_cons_zero, List.setIfInBounds_toArray, List.set_cons_zero, List.set_cons_succ]
        refine wpAnyH_ready (rs := [9]) (by kernel_rfl) (by simp) ?_
        refine AllReadyH.cons rfl (fun K hK => ?_) AllReadyH.nil
        go_simp
        refine hK.out _ _ hHeld (fun hHeld => ?_)
        clear hK K
        try simp only [Act.put, List.getElem_toArray, List.getElem_cons_succ, List.getElem_cons_zero, List.setIfInBounds_toArray, List.set_cons_zero, List.set_cons_succ]
        refine wpAnyH_done (by kernel_rfl) ?_ _
        exact ⟨rfl, g, rfl, hHeld, hB1⟩
    · go_simp
      (with_reducible refine (c1 W1 hB1).mono ?_)
      rintro o1 W2 ⟨rfl, hb⟩
      refine hK.out _ _ (hHeld.below hb) (fun hHeld => ?_)
      clear hK K
      replace hB1 := hB1.trans (hb.mono hB1.size)
      clear hb
      try simp only [Act.put, List.getElem_toArray, List.getElem_cons_succ, List.getElem_cons_zero, List.setIfInBounds_toArray, List.set_cons_zero, List.set_cons_succ]
      refine wpAnyH_ready (rs := [3]) (by kernel_rfl) (by simp) ?_
      refine AllReadyH.cons rfl (fun K hK => ?_) AllReadyH.nil
      go_simp
      have hs := Blk.new W2 5 #[.int .u8 6]
      have hb := (Below.refl W2.heap.size W2).alloc (Nat.le_refl _) (.cells #[.int .u8 6] 5)
      refine hK.out _ _ (hHeld.below hb) (fun hHeld => ?_)
      clear hK K
      replace hB1 := hB1.trans (hb.mono hB1.size)
      clear hb
      generalize W2.heap.size = g at *
      generalize W2.alloc (.cells #[.int .u8 6] 5) = W3 at *
      try simp only [Act.put, List.getElem_toArray, List.getElem_cons_succ, List.getElem_cons_zero, List.setIfInBounds_toArray, List.set_cons_zero, List.set_cons_succ]
      refine wpAnyH_ready (rs := [4]) (by kernel_rfl) (by simp) ?_
      refine AllReadyH.cons rfl (fun K hK => ?_) AllReadyH.nil
      have hcv := run_txt (P := Try.prog) W3 34 9 5 (some ⟨g, 0, none⟩) 1 1 X0 Try.underlying34 Try.underlying5 Try.underlying9 HX0.out.2 (HX0.out.1 _ _ hs)
      go_simp
      refine hK.out _ _ hHeld (fun hHeld => ?_)
      clear hK K hcv
      try simp only [Act.put, List.getElem_toArray, List.getElem_cons_succ, List.getElem_cons_zero, List.setIfInBounds_toArray, List.set_cons_zero, List.set_cons_succ]
      refine wpAnyH_ready (rs := [8]) (by kernel_rfl) (by simp) ?_
      refine AllReadyH.cons rfl (fun K hK => ?_) AllReadyH.nil
      go_simp
      refine hK.out _ _ hHeld (fun hHeld => ?_)
      clear hK K
      try simp only [Act.put, List.getElem_toArray, List.getElem_cons_succ, List.getElem_cons_zero, List.setIfInBounds_toArray, List.set_cons_zero, List.set_cons_succ]
      refine wpAnyH_ready (rs := [9]) (by kernel_rfl) (by simp) ?_
      refine AllReadyH.cons rfl (fun K hK => ?_) AllReadyH.nil
      go_simp
      refine hK.out _ _ hHeld (fun hHeld => ?_)
      clear hK K
      try simp only [Act.put, List.getElem_toArray, List.getElem_cons_succ, List.getElem_cons_zero, List.setIfInBounds_toArray, List.set_cons_zero, List.set_cons_succ]
      refine wpAnyH_done (by kernel_rfl) ?_ _
      exact ⟨rfl, g, rfl, hHeld, hB1⟩
  case himp =>
    rintro e a' W ⟨rfl, g, rfl, hX, hB⟩
    clear HX0
    have x0 := hX.c0
    rw [hk] at x0
    have x1 := hX.c1
    have xK := hX.key
    go_wp2_with (first
      | (with_reducible refine wpList_load_if (by with_unfolding_all rfl) 24 _ rfl _ _ rfl (D.K.map u8v) _ xK hu (by with_unfolding_all rfl) hHZ ?_)
      | (go_at_call 28; (with_reducible refine (c2 _ hB).mono ?_); rintro o1 w1 ⟨rfl, hb⟩; replace hX := hX.below hb; replace hB := hB.trans (hb.mono hB.size); clear hb; clear x0 x1 xK; have x0 := hX.c0; rw [hk] at x0; have x1 := hX.c1; have xK := hX.key))
    go_ret
    exact ⟨by first | rfl | simp only [List.append_assoc]; rfl, hB⟩

/-- An operation's bytes, by the document. -/
theorem rb13_any (D : OpD) (hK : D.K.length = 32) (A : Option Addr) (n c : Nat) (hlo : D.o.length = n) (bn : n ≤ 1000) (B : Option Addr) (m d : Nat) (hln : D.n.length = m) (bm : m ≤ 1000) (w : World) (rA : Rd w A (D.o.map strV)) (rB : Rd w B (D.n.map strV)) (hE : opE D = 0) :
    Calls Try.prog 56 #[.agg (opC D A n c B m d)] w fun o w' => o = .returned (.string (txt (opB D))) ∧ Below w.heap.size w w' := by
  have ok := opOk hE
  rcases kind_cases ok.lo ok.hi with hk | hk | hk | hk | hk | hk
  · exact rb13_1 D hK A n c hlo bn B m d hln bm w rA rB hk hE
  · exact rb13_2 D hK A n c hlo bn B m d hln bm w rA rB hk hE
  · exact rb13_3 D hK A n c hlo bn B m d hln bm w rA rB hk hE
  · exact rb13_4 D hK A n c hlo bn B m d hln bm w rA rB hk hE
  · exact rb13_5 D hK A n c hlo bn B m d hln bm w rA rB hk hE
  · exact rb13_6 D hK A n c hlo bn B m d hln bm w rA rB hk hE
end Go.Proofs.Ythpdkdalfjahcaa

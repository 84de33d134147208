
/- The document's Ahead. -/
import Derived.Test.YtmfngampccpkhaaRo7
import Derived.Test.YtmfngampccpkhaaRo3
import Derived.Deep.DeepCutAuto
set_option linter.unusedSimpArgs false
set_option linter.unusedVariables false
namespace Go.Proofs.Ytmfngampccpkhaa
open Go.RowKit Go.Qc Go.Shelf
attribute [local go_sem] txt_size txt_append ib_fold txt_toL

/-- The two boxes of Ahead. -/
structure AhS (w W : World) (g3 g4 : Nat) (c3 c4 : Array Value) : Prop where
  bel : Below w.heap.size w W
  b3 : Blk W g3 42 c3
  b4 : Blk W g4 42 c4
theorem AhS.below {w W W' : World} {g3 g4 : Nat} {c3 c4 : Array Value} (h : AhS w W g3 g4 c3 c4) (hb : Below W.heap.size W W') : AhS w W' g3 g4 c3 c4 := ⟨h.bel.trans (hb.mono h.bel.size), h.b3.below hb, h.b4.below hb⟩
theorem AhS.box {w W W' : World} {g3 g4 g : Nat} {c3 c4 : Array Value} (h : AhS w W g3 g4 c3 c4) (hg : W.grownBy W' (some g)) (hw : w.heap.size ≤ g) (h1 : g3 ≠ g) (h2 : g4 ≠ g) : AhS w W' g3 g4 c3 c4 := ⟨h.bel.trans (below_of_gb hg hw h.bel.size), blk_gb h.b3 hg h1, blk_gb h.b4 hg h2⟩
theorem AhS.new (w : World) (c3 c4 : Array Value) : AhS w ((w.alloc (.cells c3 42)).alloc (.cells c4 42)) w.heap.size (w.heap.size + 1) c3 c4 := by
  have q := Blk.new (w.alloc (.cells c3 42)) 42 c4
  have e : (w.alloc (.cells c3 42)).heap.size = w.heap.size + 1 := by simp
  rw [e] at q
  exact ⟨((Below.refl _ w).alloc (Nat.le_refl _) _).alloc (by rw [e]; exact Nat.le_succ _) _, (Blk.new w 42 c3).alloc _, q⟩
/-- What Ahead tells of a row L and an operation O. -/
def AhQ (L : List OpD) (O : OpV) (n : Nat) (w0 : World) (base top : Nat) (W : World) (P : OpV) (v : Value) (i : Int) : Prop :=
  (∃ (Ys : List OpV) (A : Option Addr) (c g : Nat), ahF L O.D = .ok (P.D, Ys.map OpV.D) ∧ Ys.length = n ∧ n ≤ c ∧ (A = none → n = 0 ∧ c = 0) ∧ v = .slice A n c ∧ i = -1 ∧ OpR w0 P.D P.A P.n P.B P.m ∧ RowG W base g A Ys ∧ (Ys = [] ∨ (base ≤ g ∧ g < top)) ∧ ∀ Y ∈ Ys, OpR w0 Y.D Y.A Y.n Y.B Y.m) ∨
  (∃ j : Nat, ahF L O.D = .error j ∧ v = .slice none 0 0 ∧ i = j)
theorem AhQ.below {L : List OpD} {O : OpV} {n : Nat} {w0 : World} {base top : Nat} {W W' : World} {P : OpV} {v : Value} {i : Int} (h : AhQ L O n w0 base top W P v i) (hb : Below W.heap.size W W') : AhQ L O n w0 base top W' P v i :=
  h.imp (fun ⟨Ys, A, c, g, h1, h2, h3, h4, h5, h6, h7, h8, h9⟩ => ⟨Ys, A, c, g, h1, h2, h3, h4, h5, h6, h7, h8.below hb, h9⟩) id
theorem AhQ.kept {L : List OpD} {O : OpV} {n g' : Nat} {w0 : World} {base top : Nat} {W W' : World} {P : OpV} {v : Value} {i : Int} (h : AhQ L O n w0 base top W P v i) (hg : W.grownBy W' (some g')) (hs : g' < base ∨ top ≤ g') : AhQ L O n w0 base top W' P v i :=
  h.imp (fun ⟨Ys, A, c, g, h1, h2, h3, h4, h5, h6, h7, h8, h9, h10⟩ => ⟨Ys, A, c, g, h1, h2, h3, h4, h5, h6, h7, by
    rcases h9 with rfl | ⟨h9, h11⟩
    · exact .inl rfl
    · exact h8.far hg (by omega), h9, h10⟩) id
theorem RowG.rd {W : World} {base g : Nat} {A : Option Addr} {Xs : List OpV} (h : RowG W base g A Xs) (hK : ∀ X ∈ Xs, X.D.K.length = 32) : OpRd W A Xs := by
  refine ⟨hK, ?_⟩
  rcases h with h | ⟨rfl, _, cs, hc, hv⟩
  · exact .inl h
  · exact .inr ⟨g, 0, rfl, fun j v hj => by rw [Nat.zero_add]; exact hc.cell_ (hv j v hj)⟩
theorem OwnOps.row {W : World} {base n : Nat} {v : Value} {Xs : List OpV} (h : OwnOps W base v n Xs) (hn : 0 < n) (hK : ∀ X ∈ Xs, X.D.K.length = 32) :
    ∃ g c, v = .slice (some ⟨g, 0, none⟩) n c ∧ Xs.length = n ∧ n ≤ c ∧ base ≤ g ∧ g < W.heap.size ∧ RowG W base g (some ⟨g, 0, none⟩) Xs := by
  have hl : Xs.length = n := by
    have h1 : (opsV Xs).length = n * 39 := h.1
    rw [opsV_length Xs hK] at h1
    omega
  rcases h.2 with ⟨rfl, h0⟩ | ⟨g, cap, cur, rfl, hb, hg, h3, _, _, ht⟩
  · omega
  · have hc : Blk W g 42 cur := hg
    refine ⟨g, cap, rfl, hl, h3, hb, hc.lt, .inr ⟨rfl, hb, cur, hc, fun j u hj => ?_⟩⟩
    rw [← ht, List.getElem?_take] at hj
    split at hj
    · rwa [Array.getElem?_toList] at hj
    · cases hj
theorem results_ah {tmps : Array Value} {W : World} {a : Nat} {v i : Value} {cs : Array Value} (h4 : tmps.getD 4 undef = .pointer (some ⟨a, 0, none⟩)) (h5 : tmps.getD 5 undef = v) (h6 : tmps.getD 6 undef = i)
    (b4 : Blk W a 42 cs) (s4 : cs.size = 39) : (results Try.f17 tmps).run Try.prog W = .ok (.tuple #[.agg cs, v, i]) W := by
  have l4 := run_loadVar_mid (P := Try.prog) W a 0 42 cs.toList _ (fun j u hj => by rw [Nat.zero_add]; exact b4.cell_ (by rw [← Array.getElem?_toList]; exact hj)) Try.underlying42 rfl (by rw [infoOp, Array.length_toList, s4])
  rw [Array.toArray_toList] at l4
  have hf : Try.f17.results = #[.cell 4 42, .tmp 5, .tmp 6] := by rfl
  rw [Array.getD_eq_getD_getElem?] at h4 h5 h6
  unfold results
  rw [hf]
  simp [Sem.run_bind, h4, h5, h6, asAddr, l4, Result.andThen]
theorem rah_nil (A : Option Addr) (c : Nat) (O : OpV) (w0 w : World) (KO : O.D.K.length = 32) (hO : OpR w0 O.D O.A O.n O.B O.m) :
    Calls Try.prog 17 #[.slice A 0 c, .agg (opC O.D O.A O.n O.c O.B O.m O.d)] w fun e w' => ∃ (P : OpV) (v : Value) (i : Int), e = .returned (.tuple #[.agg (opC P.D P.A P.n P.c P.B P.m P.d), v, .int .i64 i]) ∧ P.D.K.length = 32 ∧ AhQ [] O 0 w0 w.heap.size w'.heap.size w' P v i ∧ Below w.heap.size w w' := by
  obtain ⟨zc, hzc, hz0⟩ : ∃ zc : Array Value, Hid (zc = #[.int .i64 0, .string ⟨#[]⟩, .string ⟨#[]⟩, .int .i64 0, .slice none 0 0, .slice none 0 0, .int .u8 0, .int .u8 0, .int .u8 0, .int .u8 0, .int .u8 0, .int .u8 0, .int .u8 0, .int .u8 0, .int .u8 0, .int .u8 0, .int .u8 0, .int .u8 0, .int .u8 0, .int .u8 0, .int .u8 0, .int .u8 0, .int .u8 0, .int .u8 0, .int .u8 0, .int .u8 0, .int .u8 0, .int .u8 0, .int .u8 0, .int .u8 0, .int .u8 0, .int .u8 0, .int .u8 0, .int .u8 0, .int .u8 0, .int .u8 0, .int .u8 0, .int .u8 0, .int .i64 0]) ∧ zc.size = 39 := ⟨_, hid rfl, rfl⟩
  have hh := AhS.new w (opC O.D O.A O.n O.c O.B O.m O.d) zc
  go_enter Try.func17, Try.ntmps17
  have hiO := opC_info O.D O.A O.n O.c O.B O.m O.d KO
  have hsO : zc.size = (opC O.D O.A O.n O.c O.B O.m O.d).size := by rw [opC_size _ _ _ _ _ _ _ KO, hz0]
  have hoO := opC_one O.D O.A O.n O.c O.B O.m O.d
  have HO := hid hO
  clear hO
  go_upto_region 1 with (fail)
  rw [← hzc.out]
  generalize (w.alloc (.cells (opC O.D O.A O.n O.c O.B O.m O.d) 42)).alloc (.cells zc 42) = W0 at *
  have hS := hh
  go_wp2_with (first
    | (with_reducible refine wpList_load_opx (by with_unfolding_all rfl) _ rfl _ rfl ⟨hS.b3⟩ KO ?_)
    | ((with_reducible refine wpList_store_blk rfl 42 _ _ rfl (w.heap.size + 1) zc (opC O.D O.A O.n O.c O.B O.m O.d) 42 hS.b4 rfl rfl hiO hsO hoO ?_); intro V4 b4 q4; have hx4 := hS.bel.trans (below_of_gb q4 (by omega) hS.bel.size)))
  refine bodyPost_ret (results_ah rfl rfl rfl b4 (opC_size _ _ _ _ _ _ _ KO)) rfl ?_
  exact ⟨O, _, _, rfl, KO, .inl ⟨[], none, 0, 0, by rw [ahF_nil]; rfl, rfl, Nat.le_refl _, fun _ => ⟨rfl, rfl⟩, rfl, rfl, HO.out, .inl rfl, .inl rfl, by simp⟩, hx4⟩

set_option maxRecDepth 100000 in
set_option maxHeartbeats 40000000 in
theorem rah_step (gA oA N c k : Nat) (L : List OpD) (xx O Z1 Z2 : OpV) (b : Bool) (g q : Nat) (w0 w : World) (hN : N = k + 1) (hN3 : N ≤ 1000) (KX : xx.D.K.length = 32) (KO : O.D.K.length = 32) (KZ1 : Z1.D.K.length = 32) (KZ2 : Z2.D.K.length = 32) (hix : ∀ W, (Instr.indexAt 22 (.slice (some ⟨gA, oA, none⟩) N c) (.int .i64 (k : Int))).run Try.prog W = .ok (.pointer (some ⟨g, q, none⟩)) W) (hsl : ∀ W, (Instr.sliceAt 22 (.slice (some ⟨gA, oA, none⟩) N c) none (some (.int .i64 (k : Int))) none).run Try.prog W = .ok (.slice (some ⟨gA, oA, none⟩) k c) W) (hX : ∀ W, Below w.heap.size w W → W.rangeAt g q (opC xx.D xx.A xx.n xx.c xx.B xx.m xx.d).toList) (cS : ∀ W, Below w.heap.size w W → Calls Try.prog 30 #[.agg (opC xx.D xx.A xx.n xx.c xx.B xx.m xx.d), .agg (opC O.D O.A O.n O.c O.B O.m O.d)] W fun e w' => e = .returned (.tuple #[.agg (opC Z1.D Z1.A Z1.n Z1.c Z1.B Z1.m Z1.d), .agg (opC Z2.D Z2.A Z2.n Z2.c Z2.B Z2.m Z2.d), .bool b]) ∧ Below W.heap.size W w') (cR : ∀ W, Below w.heap.size w W → Calls Try.prog 17 #[.slice (some ⟨gA, oA, none⟩) k c, .agg (opC Z1.D Z1.A Z1.n Z1.c Z1.B Z1.m Z1.d)] W fun e w' => ∃ (P : OpV) (v : Value) (i : Int), e = .returned (.tuple #[.agg (opC P.D P.A P.n P.c P.B P.m P.d), v, .int .i64 i]) ∧ P.D.K.length = 32 ∧ AhQ L Z1 k w0 W.heap.size w'.heap.size w' P v i ∧ Below W.heap.size W w') (HB : Hid (apB xx.D O.D = b)) (HZ : Hid (b = true → Z1.D = { O.D with a := aE xx.D O.D } ∧ Z2.D = { xx.D with a := aD xx.D O.D })) (HY : Hid (OpR w0 Z2.D Z2.A Z2.n Z2.B Z2.m)) (HL : Hid (L.length = k)) :
    Calls Try.prog 17 #[.slice (some ⟨gA, oA, none⟩) N c, .agg (opC O.D O.A O.n O.c O.B O.m O.d)] w fun e w' => ∃ (P : OpV) (v : Value) (i : Int), e = .returned (.tuple #[.agg (opC P.D P.A P.n P.c P.B P.m P.d), v, .int .i64 i]) ∧ P.D.K.length = 32 ∧ AhQ (L ++ [xx.D]) O N w0 w.heap.size w'.heap.size w' P v i ∧ Below w.heap.size w w' := by
  obtain ⟨zc, hzc, hz0⟩ : ∃ zc : Array Value, Hid (zc = #[.int .i64 0, .string ⟨#[]⟩, .string ⟨#[]⟩, .int .i64 0, .slice none 0 0, .slice none 0 0, .int .u8 0, .int .u8 0, .int .u8 0, .int .u8 0, .int .u8 0, .int .u8 0, .int .u8 0, .int .u8 0, .int .u8 0, .int .u8 0, .int .u8 0, .int .u8 0, .int .u8 0, .int .u8 0, .int .u8 0, .int .u8 0, .int .u8 0, .int .u8 0, .int .u8 0, .int .u8 0, .int .u8 0, .int .u8 0, .int .u8 0, .int .u8 0, .int .u8 0, .int .u8 0, .int .u8 0, .int .u8 0, .int .u8 0, .int .u8 0, .int .u8 0, .int .u8 0, .int .i64 0]) ∧ zc.size = 39 := ⟨_, hid rfl, rfl⟩
  have hh := AhS.new w (opC O.D O.A O.n O.c O.B O.m O.d) zc
  go_enter Try.func17, Try.ntmps17
  have hiO := opC_info O.D O.A O.n O.c O.B O.m O.d KO
  have hsO : zc.size = (opC O.D O.A O.n O.c O.B O.m O.d).size := by rw [opC_size _ _ _ _ _ _ _ KO, hz0]
  have hoO := opC_one O.D O.A O.n O.c O.B O.m O.d
  have c1 : ¬ (N : Int) = 0 := by omega
  have c2 : (N : Int) - 1 = (k : Int) := by omega
  have c3 : decide ((N : Int) = 0) = false := decide_eq_false c1
  have c4 : N ≤ 9223372036854775807 := by omega
  have c5 : k ≤ 9223372036854775807 := by omega
  have HN := hid hN
  clear hN
  go_upto_region 1 with (fail)
  rw [← hzc.out]
  generalize (w.alloc (.cells (opC O.D O.A O.n O.c O.B O.m O.d) 42)).alloc (.cells zc 42) = W0 at *
  go_wp2_with (fail)
  refine Code.wp_mono (Q := fun ex a' W => ex = .normal ∧ ∃ g8 g9 t22 t23 t24 t25 t26 t27 t28 t29 t30 t31, a' = { tmps := #[.slice (some ⟨gA, oA, none⟩) N c, .agg (opC O.D O.A O.n O.c O.B O.m O.d), undef, .pointer (some ⟨w.heap.size, 0, none⟩), .pointer (some ⟨w.heap.size + 1, 0, none⟩), .slice none 0 0, .int .i64 0, .int .i64 k, .pointer (some ⟨g8, 0, none⟩), .pointer (some ⟨g9, 0, none⟩), .bool b, undef, undef, undef, undef, .slice (some ⟨gA, oA, none⟩) N c, .int .i64 N, .bool false, undef, .slice (some ⟨gA, oA, none⟩) N c, .int .i64 N, .int .i64 k, t22, t23, t24, t25, t26, t27, t28, t29, t30, t31, undef, undef, undef, undef, undef, undef, undef, undef, undef, undef, undef, undef, undef, undef, undef, undef, undef, undef, undef, undef, undef, undef, undef, undef, undef, undef], defers := [] } ∧ AhS w W w.heap.size (w.heap.size + 1) (opC O.D O.A O.n O.c O.B O.m O.d) zc ∧ Blk W g8 42 (opC Z1.D Z1.A Z1.n Z1.c Z1.B Z1.m Z1.d) ∧ Blk W g9 42 (opC Z2.D Z2.A Z2.n Z2.c Z2.B Z2.m Z2.d) ∧ w.heap.size + 1 < g8 ∧ w.heap.size + 1 < g9 ∧ g8 ≠ g9) ?cont ?reg
  case reg =>
    refine wp_region_held_drew (S := fun W => AhS w W w.heap.size (w.heap.size + 1) (opC O.D O.A O.n O.c O.B O.m O.d) zc) (by kernel_rfl) (hh.below (below_drew10 _)) (fun hHeld => ?_)
    generalize World.drew _ = W1 at *
    clear hh cR HZ HY
    refine' wpAnyH_take (i := 0) (v := .slice (some ⟨gA, oA, none⟩) N c) rfl (by kernel_rfl) (by kernel_rfl) (by kernel_rfl) (fun _ _ _ h => nomatch h.1) (Or.inl ⟨by rfl, fun w' hw' => by go_simp⟩) hHeld ?_
    try simp only [Act.put, List.getElem_toArray, List.getElem_cons_succ, List.getElem_cons_zero, List.setIfInBounds_toArray, List.set_cons_zero, List.set_cons_succ]
    refine' wpAnyH_take (i := 1) (v := .int .i64 k) rfl (by kernel_rfl) (by kernel_rfl) (by kernel_rfl) (fun _ _ _ h => nomatch h.1) (Or.inl ⟨by rfl, fun w' hw' => by go_simp⟩) hHeld ?_
    try simp only [Act.put, List.getElem_toArray, List.getElem_cons_succ, List.getElem_cons_zero, List.setIfInBounds_toArray, List.set_cons_zero, List.set_cons_succ]
    refine' wpAnyH_take (i := 2) (v := .pointer (some ⟨g, q, none⟩)) rfl (by kernel_rfl) (by kernel_rfl) (by kernel_rfl) (fun _ _ _ h => nomatch h.1) (Or.inl ⟨by rfl, fun w' hw' => by go_simp⟩) hHeld ?_
    try simp only [Act.put, List.getElem_toArray, List.getElem_cons_succ, List.getElem_cons_zero, List.setIfInBounds_toArray, List.set_cons_zero, List.set_cons_succ]
    refine' wpAnyH_take (i := 3) (v := .agg (opC xx.D xx.A xx.n xx.c xx.B xx.m xx.d)) rfl (by kernel_rfl) (by kernel_rfl) (by kernel_rfl) (fun _ _ _ h => nomatch h.1) (yields_opr (by rfl) _ rfl _ _ rfl (fun w' h => hX w' h.bel) KX) hHeld ?_
    try simp only [Act.put, List.getElem_toArray, List.getElem_cons_succ, List.getElem_cons_zero, List.setIfInBounds_toArray, List.set_cons_zero, List.set_cons_succ]
    refine' wpAnyH_take (i := 4) (v := .agg (opC O.D O.A O.n O.c O.B O.m O.d)) rfl (by kernel_rfl) (by kernel_rfl) (by kernel_rfl) (fun _ _ _ h => nomatch h.1) (yields_opx (by rfl) _ rfl _ rfl (fun w' h => ⟨h.b3⟩) KO) hHeld ?_
    try simp only [Act.put, List.getElem_toArray, List.getElem_cons_succ, List.getElem_cons_zero, List.setIfInBounds_toArray, List.set_cons_zero, List.set_cons_succ]
    refine wpAnyH_ready (rs := [5, 10, 11]) (by kernel_rfl) (by simp) ?_
    refine AllReadyH.cons rfl (fun K hK => ?_) (AllReadyH.cons rfl (fun K hK => ?_) (AllReadyH.cons rfl (fun K hK => ?_) AllReadyH.nil))
    · as_aux_lemma =>
        go_simp
        (with_reducible refine (cS _ hHeld.bel).mono ?_)
        rintro e9 W1x ⟨rfl, hb⟩
        refine hK.out _ _ (hHeld.below hb) (fun hHeld => ?_)
        clear hK K hb
        try simp only [Act.put, List.getElem_toArray, List.getElem_cons_succ, List.getElem_cons_zero, List.setIfInBounds_toArray, List.set_cons_zero, List.set_cons_succ]
        refine' wpAnyH_take (i := 6) (v := .tuple #[.agg (opC Z1.D Z1.A Z1.n Z1.c Z1.B Z1.m Z1.d), .agg (opC Z2.D Z2.A Z2.n Z2.c Z2.B Z2.m Z2.d), .bool b]) rfl (by kernel_rfl) (by kernel_rfl) (by kernel_rfl) (fun _ _ _ h => nomatch h.1) (Or.inl ⟨by rfl, fun w' hw' => by go_simp⟩) hHeld ?_
        try simp only [Act.put, List.getElem_toArray, List.getElem_cons_succ, List.getElem_cons_zero, List.setIfInBounds_toArray, List.set_cons_zero, List.set_cons_succ]
        refine' wpAnyH_take (i := 7) (v := .agg (opC Z1.D Z1.A Z1.n Z1.c Z1.B Z1.m Z1.d)) rfl (by kernel_rfl) (by kernel_rfl) (by kernel_rfl) (fun _ _ _ h => nomatch h.1) (Or.inl ⟨by rfl, fun w' hw' => by go_simp⟩) hHeld ?_
        try simp only [Act.put, List.getElem_toArray, List.getElem_cons_succ, List.getElem_cons_zero, List.setIfInBounds_toArray, List.set_cons_zero, List.set_cons_succ]
        refine' wpAnyH_take (i := 8) (v := .agg (opC Z2.D Z2.A Z2.n Z2.c Z2.B Z2.m Z2.d)) rfl (by kernel_rfl) (by kernel_rfl) (by kernel_rfl) (fun _ _ _ h => nomatch h.1) (Or.inl ⟨by rfl, fun w' hw' => by go_simp⟩) hHeld ?_
        try simp only [Act.put, List.getElem_toArray, List.getElem_cons_succ, List.getElem_cons_zero, List.setIfInBounds_toArray, List.set_cons_zero, List.set_cons_succ]
        refine' wpAnyH_take (i := 9) (v := .bool b) rfl (by kernel_rfl) (by kernel_rfl) (by kernel_rfl) (fun _ _ _ h => nomatch h.1) (Or.inl ⟨by rfl, fun w' hw' => by go_simp⟩) hHeld ?_
        try simp only [Act.put, List.getElem_toArray, List.getElem_cons_succ, List.getElem_cons_zero, List.setIfInBounds_toArray, List.set_cons_zero, List.set_cons_succ]
        refine wpAnyH_ready (rs := [10, 11]) (by kernel_rfl) (by simp) ?_
        refine AllReadyH.cons rfl (fun K hK => ?_) (AllReadyH.cons rfl (fun K hK => ?_) AllReadyH.nil)
        · as_aux_lemma =>
            go_simp
            rw [← hzc.out]
            have hb : Below W1x.heap.size W1x (W1x.alloc (.cells zc 42)) := (Below.refl _ _).alloc (Nat.le_refl _) _
            have z8 := Blk.new W1x 42 zc
            have n8 : w.heap.size + 1 < W1x.heap.size := hHeld.b4.lt
            refine hK.out _ _ (hHeld.below hb) (fun hHeld => ?_)
            clear hK K hb
            generalize W1x.alloc (.cells zc 42) = W1xx at *
            generalize W1x.heap.size = g8 at *
            try simp only [Act.put, List.getElem_toArray, List.getElem_cons_succ, List.getElem_cons_zero, List.setIfInBounds_toArray, List.set_cons_zero, List.set_cons_succ]
            refine wpAnyH_ready (rs := [11]) (by kernel_rfl) (by simp) ?_
            refine AllReadyH.cons rfl (fun K hK => ?_) AllReadyH.nil
            go_simp
            rw [← hzc.out]
            have hb : Below W1xx.heap.size W1xx (W1xx.alloc (.cells zc 42)) := (Below.refl _ _).alloc (Nat.le_refl _) _
            have z9 := Blk.new W1xx 42 zc
            have n9 : w.heap.size + 1 < W1xx.heap.size := hHeld.b4.lt
            have ne : g8 ≠ W1xx.heap.size := by have := z8.lt; omega
            replace z8 := z8.below hb
            refine hK.out _ _ (hHeld.below hb) (fun hHeld => ?_)
            clear hK K hb
            generalize W1xx.alloc (.cells zc 42) = W1xxx at *
            generalize W1xx.heap.size = g9 at *
            try simp only [Act.put, List.getElem_toArray, List.getElem_cons_succ, List.getElem_cons_zero, List.setIfInBounds_toArray, List.set_cons_zero, List.set_cons_succ]
            refine wpAnyH_ready (rs := [12]) (by kernel_rfl) (by simp) ?_
            refine AllReadyH.cons rfl (fun K hK => ?_) AllReadyH.nil
            refine wp_store_whole 42 _ _ rfl g8 zc (opC Z1.D Z1.A Z1.n Z1.c Z1.B Z1.m Z1.d) 42 z8 rfl rfl (opC_info _ _ _ _ _ _ _ KZ1) (by rw [opC_size _ _ _ _ _ _ _ KZ1, hz0]) (opC_one _ _ _ _ _ _ _) ?_
            intro W1xxxx hb hg
            replace z9 := blk_gb z9 hg (by omega)
            refine hK.out _ _ (hHeld.box hg (by omega) (by omega) (by omega)) (fun hHeld => ?_)
            clear hK K hg
            replace z8 := hb
            clear hb
            try simp only [Act.put, List.getElem_toArray, List.getElem_cons_succ, List.getElem_cons_zero, List.setIfInBounds_toArray, List.set_cons_zero, List.set_cons_succ]
            refine wpAnyH_ready (rs := [13]) (by kernel_rfl) (by simp) ?_
            refine AllReadyH.cons rfl (fun K hK => ?_) AllReadyH.nil
            refine wp_store_whole 42 _ _ rfl g9 zc (opC Z2.D Z2.A Z2.n Z2.c Z2.B Z2.m Z2.d) 42 z9 rfl rfl (opC_info _ _ _ _ _ _ _ KZ2) (by rw [opC_size _ _ _ _ _ _ _ KZ2, hz0]) (opC_one _ _ _ _ _ _ _) ?_
            intro W1xxxxx hb hg
            replace z8 := blk_gb z8 hg (by omega)
            refine hK.out _ _ (hHeld.box hg (by omega) (by omega) (by omega)) (fun hHeld => ?_)
            clear hK K hg
            replace z9 := hb
            clear hb
            try simp only [Act.put, List.getElem_toArray, List.getElem_cons_succ, List.getElem_cons_zero, List.setIfInBounds_toArray, List.set_cons_zero, List.set_cons_succ]
            refine' wpAnyH_take (i := 14) (v := .bool b) rfl (by kernel_rfl) (by kernel_rfl) (by kernel_rfl) (fun _ _ _ h => nomatch h.1) (Or.inl ⟨by rfl, fun w' hw' => by go_simp⟩) hHeld ?_
            try simp only [Act.put, List.getElem_toArray, List.getElem_cons_succ, List.getElem_cons_zero, List.setIfInBounds_toArray, List.set_cons_zero, List.set_cons_succ]
            refine wpAnyH_done (by kernel_rfl) ?_ _
            exact ⟨rfl, _, _, _, _, _, _, _, _, _, _, _, _, rfl, hHeld, z8, z9, n8, n9, ne⟩
        · as_aux_lemma =>
            go_simp
            rw [← hzc.out]
            have hb : Below W1x.heap.size W1x (W1x.alloc (.cells zc 42)) := (Below.refl _ _).alloc (Nat.le_refl _) _
            have z9 := Blk.new W1x 42 zc
            have n9 : w.heap.size + 1 < W1x.heap.size := hHeld.b4.lt
            refine hK.out _ _ (hHeld.below hb) (fun hHeld => ?_)
            clear hK K hb
            generalize W1x.alloc (.cells zc 42) = W1xx at *
            generalize W1x.heap.size = g9 at *
            try simp only [Act.put, List.getElem_toArray, List.getElem_cons_succ, List.getElem_cons_zero, List.setIfInBounds_toArray, List.set_cons_zero, List.set_cons_succ]
            refine wpAnyH_ready (rs := [10]) (by kernel_rfl) (by simp) ?_
            refine AllReadyH.cons rfl (fun K hK => ?_) AllReadyH.nil
            go_simp
            rw [← hzc.out]
            have hb : Below W1xx.heap.size W1xx (W1xx.alloc (.cells zc 42)) := (Below.refl _ _).alloc (Nat.le_refl _) _
            have z8 := Blk.new W1xx 42 zc
            have n8 : w.heap.size + 1 < W1xx.heap.size := hHeld.b4.lt
            have ne : W1xx.heap.size ≠ g9 := by have := z9.lt; omega
            replace z9 := z9.below hb
            refine hK.out _ _ (hHeld.below hb) (fun hHeld => ?_)
            clear hK K hb
            generalize W1xx.alloc (.cells zc 42) = W1xxx at *
            generalize W1xx.heap.size = g8 at *
            try simp only [Act.put, List.getElem_toArray, List.getElem_cons_succ, List.getElem_cons_zero, List.setIfInBounds_toArray, List.set_cons_zero, List.set_cons_succ]
            refine wpAnyH_ready (rs := [12]) (by kernel_rfl) (by simp) ?_
            refine AllReadyH.cons rfl (fun K hK => ?_) AllReadyH.nil
            refine wp_store_whole 42 _ _ rfl g8 zc (opC Z1.D Z1.A Z1.n Z1.c Z1.B Z1.m Z1.d) 42 z8 rfl rfl (opC_info _ _ _ _ _ _ _ KZ1) (by rw [opC_size _ _ _ _ _ _ _ KZ1, hz0]) (opC_one _ _ _ _ _ _ _) ?_
            intro W1xxxx hb hg
            replace z9 := blk_gb z9 hg (by omega)
            refine hK.out _ _ (hHeld.box hg (by omega) (by omega) (by omega)) (fun hHeld => ?_)
            clear hK K hg
            replace z8 := hb
            clear hb
            try simp only [Act.put, List.getElem_toArray, List.getElem_cons_succ, List.getElem_cons_zero, List.setIfInBounds_toArray, List.set_cons_zero, List.set_cons_succ]
            refine wpAnyH_ready (rs := [13]) (by kernel_rfl) (by simp) ?_
            refine AllReadyH.cons rfl (fun K hK => ?_) AllReadyH.nil
            refine wp_store_whole 42 _ _ rfl g9 zc (opC Z2.D Z2.A Z2.n Z2.c Z2.B Z2.m Z2.d) 42 z9 rfl rfl (opC_info _ _ _ _ _ _ _ KZ2) (by rw [opC_size _ _ _ _ _ _ _ KZ2, hz0]) (opC_one _ _ _ _ _ _ _) ?_
            intro W1xxxxx hb hg
            replace z8 := blk_gb z8 hg (by omega)
            refine hK.out _ _ (hHeld.box hg (by omega) (by omega) (by omega)) (fun hHeld => ?_)
            clear hK K hg
            replace z9 := hb
            clear hb
            try simp only [Act.put, List.getElem_toArray, List.getElem_cons_succ, List.getElem_cons_zero, List.setIfInBounds_toArray, List.set_cons_zero, List.set_cons_succ]
            refine' wpAnyH_take (i := 14) (v := .bool b) rfl (by kernel_rfl) (by kernel_rfl) (by kernel_rfl) (fun _ _ _ h => nomatch h.1) (Or.inl ⟨by rfl, fun w' hw' => by go_simp⟩) hHeld ?_
            try simp only [Act.put, List.getElem_toArray, List.getElem_cons_succ, List.getElem_cons_zero, List.setIfInBounds_toArray, List.set_cons_zero, List.set_cons_succ]
            refine wpAnyH_done (by kernel_rfl) ?_ _
            exact ⟨rfl, _, _, _, _, _, _, _, _, _, _, _, _, rfl, hHeld, z8, z9, n8, n9, ne⟩
    · as_aux_lemma =>
        go_simp
        rw [← hzc.out]
        have hb : Below W1.heap.size W1 (W1.alloc (.cells zc 42)) := (Below.refl _ _).alloc (Nat.le_refl _) _
        have z8 := Blk.new W1 42 zc
        have n8 : w.heap.size + 1 < W1.heap.size := hHeld.b4.lt
        refine hK.out _ _ (hHeld.below hb) (fun hHeld => ?_)
        clear hK K hb
        generalize W1.alloc (.cells zc 42) = W1x at *
        generalize W1.heap.size = g8 at *
        try simp only [Act.put, List.getElem_toArray, List.getElem_cons_succ, List.getElem_cons_zero, List.setIfInBounds_toArray, List.set_cons_zero, List.set_cons_succ]
        refine wpAnyH_ready (rs := [5, 11]) (by kernel_rfl) (by simp) ?_
        refine AllReadyH.cons rfl (fun K hK => ?_) (AllReadyH.cons rfl (fun K hK => ?_) AllReadyH.nil)
        · as_aux_lemma =>
            go_simp
            (with_reducible refine (cS _ hHeld.bel).mono ?_)
            rintro e9 W1xx ⟨rfl, hb⟩
            replace z8 := z8.below hb
            refine hK.out _ _ (hHeld.below hb) (fun hHeld => ?_)
            clear hK K hb
            try simp only [Act.put, List.getElem_toArray, List.getElem_cons_succ, List.getElem_cons_zero, List.setIfInBounds_toArray, List.set_cons_zero, List.set_cons_succ]
            refine' wpAnyH_take (i := 6) (v := .tuple #[.agg (opC Z1.D Z1.A Z1.n Z1.c Z1.B Z1.m Z1.d), .agg (opC Z2.D Z2.A Z2.n Z2.c Z2.B Z2.m Z2.d), .bool b]) rfl (by kernel_rfl) (by kernel_rfl) (by kernel_rfl) (fun _ _ _ h => nomatch h.1) (Or.inl ⟨by rfl, fun w' hw' => by go_simp⟩) hHeld ?_
            try simp only [Act.put, List.getElem_toArray, List.getElem_cons_succ, List.getElem_cons_zero, List.setIfInBounds_toArray, List.set_cons_zero, List.set_cons_succ]
            refine' wpAnyH_take (i := 7) (v := .agg (opC Z1.D Z1.A Z1.n Z1.c Z1.B Z1.m Z1.d)) rfl (by kernel_rfl) (by kernel_rfl) (by kernel_rfl) (fun _ _ _ h => nomatch h.1) (Or.inl ⟨by rfl, fun w' hw' => by go_simp⟩) hHeld ?_
            try simp only [Act.put, List.getElem_toArray, List.getElem_cons_succ, List.getElem_cons_zero, List.setIfInBounds_toArray, List.set_cons_zero, List.set_cons_succ]
            refine' wpAnyH_take (i := 8) (v := .agg (opC Z2.D Z2.A Z2.n Z2.c Z2.B Z2.m Z2.d)) rfl (by kernel_rfl) (by kernel_rfl) (by kernel_rfl) (fun _ _ _ h => nomatch h.1) (Or.inl ⟨by rfl, fun w' hw' => by go_simp⟩) hHeld ?_
            try simp only [Act.put, List.getElem_toArray, List.getElem_cons_succ, List.getElem_cons_zero, List.setIfInBounds_toArray, List.set_cons_zero, List.set_cons_succ]
            refine' wpAnyH_take (i := 9) (v := .bool b) rfl (by kernel_rfl) (by kernel_rfl) (by kernel_rfl) (fun _ _ _ h => nomatch h.1) (Or.inl ⟨by rfl, fun w' hw' => by go_simp⟩) hHeld ?_
            try simp only [Act.put, List.getElem_toArray, List.getElem_cons_succ, List.getElem_cons_zero, List.setIfInBounds_toArray, List.set_cons_zero, List.set_cons_succ]
            refine wpAnyH_ready (rs := [11]) (by kernel_rfl) (by simp) ?_
            refine AllReadyH.cons rfl (fun K hK => ?_) AllReadyH.nil
            go_simp
            rw [← hzc.out]
            have hb : Below W1xx.heap.size W1xx (W1xx.alloc (.cells zc 42)) := (Below.refl _ _).alloc (Nat.le_refl _) _
            have z9 := Blk.new W1xx 42 zc
            have n9 : w.heap.size + 1 < W1xx.heap.size := hHeld.b4.lt
            have ne : g8 ≠ W1xx.heap.size := by have := z8.lt; omega
            replace z8 := z8.below hb
            refine hK.out _ _ (hHeld.below hb) (fun hHeld => ?_)
            clear hK K hb
            generalize W1xx.alloc (.cells zc 42) = W1xxx at *
            generalize W1xx.heap.size = g9 at *
            try simp only [Act.put, List.getElem_toArray, List.getElem_cons_succ, List.getElem_cons_zero, List.setIfInBounds_toArray, List.set_cons_zero, List.set_cons_succ]
            refine wpAnyH_ready (rs := [12]) (by kernel_rfl) (by simp) ?_
            refine AllReadyH.cons rfl (fun K hK => ?_) AllReadyH.nil
            refine wp_store_whole 42 _ _ rfl g8 zc (opC Z1.D Z1.A Z1.n Z1.c Z1.B Z1.m Z1.d) 42 z8 rfl rfl (opC_info _ _ _ _ _ _ _ KZ1) (by rw [opC_size _ _ _ _ _ _ _ KZ1, hz0]) (opC_one _ _ _ _ _ _ _) ?_
            intro W1xxxx hb hg
            replace z9 := blk_gb z9 hg (by omega)
            refine hK.out _ _ (hHeld.box hg (by omega) (by omega) (by omega)) (fun hHeld => ?_)
            clear hK K hg
            replace z8 := hb
            clear hb
            try simp only [Act.put, List.getElem_toArray, List.getElem_cons_succ, List.getElem_cons_zero, List.setIfInBounds_toArray, List.set_cons_zero, List.set_cons_succ]
            refine wpAnyH_ready (rs := [13]) (by kernel_rfl) (by simp) ?_
            refine AllReadyH.cons rfl (fun K hK => ?_) AllReadyH.nil
            refine wp_store_whole 42 _ _ rfl g9 zc (opC Z2.D Z2.A Z2.n Z2.c Z2.B Z2.m Z2.d) 42 z9 rfl rfl (opC_info _ _ _ _ _ _ _ KZ2) (by rw [opC_size _ _ _ _ _ _ _ KZ2, hz0]) (opC_one _ _ _ _ _ _ _) ?_
            intro W1xxxxx hb hg
            replace z8 := blk_gb z8 hg (by omega)
            refine hK.out _ _ (hHeld.box hg (by omega) (by omega) (by omega)) (fun hHeld => ?_)
            clear hK K hg
            replace z9 := hb
            clear hb
            try simp only [Act.put, List.getElem_toArray, List.getElem_cons_succ, List.getElem_cons_zero, List.setIfInBounds_toArray, List.set_cons_zero, List.set_cons_succ]
            refine' wpAnyH_take (i := 14) (v := .bool b) rfl (by kernel_rfl) (by kernel_rfl) (by kernel_rfl) (fun _ _ _ h => nomatch h.1) (Or.inl ⟨by rfl, fun w' hw' => by go_simp⟩) hHeld ?_
            try simp only [Act.put, List.getElem_toArray, List.getElem_cons_succ, List.getElem_cons_zero, List.setIfInBounds_toArray, List.set_cons_zero, List.set_cons_succ]
            refine wpAnyH_done (by kernel_rfl) ?_ _
            exact ⟨rfl, _, _, _, _, _, _, _, _, _, _, _, _, rfl, hHeld, z8, z9, n8, n9, ne⟩
        · as_aux_lemma =>
            go_simp
            rw [← hzc.out]
            have hb : Below W1x.heap.size W1x (W1x.alloc (.cells zc 42)) := (Below.refl _ _).alloc (Nat.le_refl _) _
            have z9 := Blk.new W1x 42 zc
            have n9 : w.heap.size + 1 < W1x.heap.size := hHeld.b4.lt
            have ne : g8 ≠ W1x.heap.size := by have := z8.lt; omega
            replace z8 := z8.below hb
            refine hK.out _ _ (hHeld.below hb) (fun hHeld => ?_)
            clear hK K hb
            generalize W1x.alloc (.cells zc 42) = W1xx at *
            generalize W1x.heap.size = g9 at *
            try simp only [Act.put, List.getElem_toArray, List.getElem_cons_succ, List.getElem_cons_zero, List.setIfInBounds_toArray, List.set_cons_zero, List.set_cons_succ]
            refine wpAnyH_ready (rs := [5]) (by kernel_rfl) (by simp) ?_
            refine AllReadyH.cons rfl (fun K hK => ?_) AllReadyH.nil
            go_simp
            (with_reducible refine (cS _ hHeld.bel).mono ?_)
            rintro e9 W1xxx ⟨rfl, hb⟩
            replace z8 := z8.below hb
            replace z9 := z9.below hb
            refine hK.out _ _ (hHeld.below hb) (fun hHeld => ?_)
            clear hK K hb
            try simp only [Act.put, List.getElem_toArray, List.getElem_cons_succ, List.getElem_cons_zero, List.setIfInBounds_toArray, List.set_cons_zero, List.set_cons_succ]
            refine' wpAnyH_take (i := 6) (v := .tuple #[.agg (opC Z1.D Z1.A Z1.n Z1.c Z1.B Z1.m Z1.d), .agg (opC Z2.D Z2.A Z2.n Z2.c Z2.B Z2.m Z2.d), .bool b]) rfl (by kernel_rfl) (by kernel_rfl) (by kernel_rfl) (fun _ _ _ h => nomatch h.1) (Or.inl ⟨by rfl, fun w' hw' => by go_simp⟩) hHeld ?_
            try simp only [Act.put, List.getElem_toArray, List.getElem_cons_succ, List.getElem_cons_zero, List.setIfInBounds_toArray, List.set_cons_zero, List.set_cons_succ]
            refine' wpAnyH_take (i := 7) (v := .agg (opC Z1.D Z1.A Z1.n Z1.c Z1.B Z1.m Z1.d)) rfl (by kernel_rfl) (by kernel_rfl) (by kernel_rfl) (fun _ _ _ h => nomatch h.1) (Or.inl ⟨by rfl, fun w' hw' => by go_simp⟩) hHeld ?_
            try simp only [Act.put, List.getElem_toArray, List.getElem_cons_succ, List.getElem_cons_zero, List.setIfInBounds_toArray, List.set_cons_zero, List.set_cons_succ]
            refine' wpAnyH_take (i := 8) (v := .agg (opC Z2.D Z2.A Z2.n Z2.c Z2.B Z2.m Z2.d)) rfl (by kernel_rfl) (by kernel_rfl) (by kernel_rfl) (fun _ _ _ h => nomatch h.1) (Or.inl ⟨by rfl, fun w' hw' => by go_simp⟩) hHeld ?_
            try simp only [Act.put, List.getElem_toArray, List.getElem_cons_succ, List.getElem_cons_zero, List.setIfInBounds_toArray, List.set_cons_zero, List.set_cons_succ]
            refine' wpAnyH_take (i := 9) (v := .bool b) rfl (by kernel_rfl) (by kernel_rfl) (by kernel_rfl) (fun _ _ _ h => nomatch h.1) (Or.inl ⟨by rfl, fun w' hw' => by go_simp⟩) hHeld ?_
            try simp only [Act.put, List.getElem_toArray, List.getElem_cons_succ, List.getElem_cons_zero, List.setIfInBounds_toArray, List.set_cons_zero, List.set_cons_succ]
            refine wpAnyH_ready (rs := [12]) (by kernel_rfl) (by simp) ?_
            refine AllReadyH.cons rfl (fun K hK => ?_) AllReadyH.nil
            refine wp_store_whole 42 _ _ rfl g8 zc (opC Z1.D Z1.A Z1.n Z1.c Z1.B Z1.m Z1.d) 42 z8 rfl rfl (opC_info _ _ _ _ _ _ _ KZ1) (by rw [opC_size _ _ _ _ _ _ _ KZ1, hz0]) (opC_one _ _ _ _ _ _ _) ?_
            intro W1xxxx hb hg
            replace z9 := blk_gb z9 hg (by omega)
            refine hK.out _ _ (hHeld.box hg (by omega) (by omega) (by omega)) (fun hHeld => ?_)
            clear hK K hg
            replace z8 := hb
            clear hb
            try simp only [Act.put, List.getElem_toArray, List.getElem_cons_succ, List.getElem_cons_zero, List.setIfInBounds_toArray, List.set_cons_zero, List.set_cons_succ]
            refine wpAnyH_ready (rs := [13]) (by kernel_rfl) (by simp) ?_
            refine AllReadyH.cons rfl (fun K hK => ?_) AllReadyH.nil
            refine wp_store_whole 42 _ _ rfl g9 zc (opC Z2.D Z2.A Z2.n Z2.c Z2.B Z2.m Z2.d) 42 z9 rfl rfl (opC_info _ _ _ _ _ _ _ KZ2) (by rw [opC_size _ _ _ _ _ _ _ KZ2, hz0]) (opC_one _ _ _ _ _ _ _) ?_
            intro W1xxxxx hb hg
            replace z8 := blk_gb z8 hg (by omega)
            refine hK.out _ _ (hHeld.box hg (by omega) (by omega) (by omega)) (fun hHeld => ?_)
            clear hK K hg
            replace z9 := hb
            clear hb
            try simp only [Act.put, List.getElem_toArray, List.getElem_cons_succ, List.getElem_cons_zero, List.setIfInBounds_toArray, List.set_cons_zero, List.set_cons_succ]
            refine' wpAnyH_take (i := 14) (v := .bool b) rfl (by kernel_rfl) (by kernel_rfl) (by kernel_rfl) (fun _ _ _ h => nomatch h.1) (Or.inl ⟨by rfl, fun w' hw' => by go_simp⟩) hHeld ?_
            try simp only [Act.put, List.getElem_toArray, List.getElem_cons_succ, List.getElem_cons_zero, List.setIfInBounds_toArray, List.set_cons_zero, List.set_cons_succ]
            refine wpAnyH_done (by kernel_rfl) ?_ _
            exact ⟨rfl, _, _, _, _, _, _, _, _, _, _, _, _, rfl, hHeld, z8, z9, n8, n9, ne⟩
    · as_aux_lemma =>
        go_simp
        rw [← hzc.out]
        have hb : Below W1.heap.size W1 (W1.alloc (.cells zc 42)) := (Below.refl _ _).alloc (Nat.le_refl _) _
        have z9 := Blk.new W1 42 zc
        have n9 : w.heap.size + 1 < W1.heap.size := hHeld.b4.lt
        refine hK.out _ _ (hHeld.below hb) (fun hHeld => ?_)
        clear hK K hb
        generalize W1.alloc (.cells zc 42) = W1x at *
        generalize W1.heap.size = g9 at *
        try simp only [Act.put, List.getElem_toArray, List.getElem_cons_succ, List.getElem_cons_zero, List.setIfInBounds_toArray, List.set_cons_zero, List.set_cons_succ]
        refine wpAnyH_ready (rs := [5, 10]) (by kernel_rfl) (by simp) ?_
        refine AllReadyH.cons rfl (fun K hK => ?_) (AllReadyH.cons rfl (fun K hK => ?_) AllReadyH.nil)
        · as_aux_lemma =>
            go_simp
            (with_reducible refine (cS _ hHeld.bel).mono ?_)
            rintro e9 W1xx ⟨rfl, hb⟩
            replace z9 := z9.below hb
            refine hK.out _ _ (hHeld.below hb) (fun hHeld => ?_)
            clear hK K hb
            try simp only [Act.put, List.getElem_toArray, List.getElem_cons_succ, List.getElem_cons_zero, List.setIfInBounds_toArray, List.set_cons_zero, List.set_cons_succ]
            refine' wpAnyH_take (i := 6) (v := .tuple #[.agg (opC Z1.D Z1.A Z1.n Z1.c Z1.B Z1.m Z1.d), .agg (opC Z2.D Z2.A Z2.n Z2.c Z2.B Z2.m Z2.d), .bool b]) rfl (by kernel_rfl) (by kernel_rfl) (by kernel_rfl) (fun _ _ _ h => nomatch h.1) (Or.inl ⟨by rfl, fun w' hw' => by go_simp⟩) hHeld ?_
            try simp only [Act.put, List.getElem_toArray, List.getElem_cons_succ, List.getElem_cons_zero, List.setIfInBounds_toArray, List.set_cons_zero, List.set_cons_succ]
            refine' wpAnyH_take (i := 7) (v := .agg (opC Z1.D Z1.A Z1.n Z1.c Z1.B Z1.m Z1.d)) rfl (by kernel_rfl) (by kernel_rfl) (by kernel_rfl) (fun _ _ _ h => nomatch h.1) (Or.inl ⟨by rfl, fun w' hw' => by go_simp⟩) hHeld ?_
            try simp only [Act.put, List.getElem_toArray, List.getElem_cons_succ, List.getElem_cons_zero, List.setIfInBounds_toArray, List.set_cons_zero, List.set_cons_succ]
            refine' wpAnyH_take (i := 8) (v := .agg (opC Z2.D Z2.A Z2.n Z2.c Z2.B Z2.m Z2.d)) rfl (by kernel_rfl) (by kernel_rfl) (by kernel_rfl) (fun _ _ _ h => nomatch h.1) (Or.inl ⟨by rfl, fun w' hw' => by go_simp⟩) hHeld ?_
            try simp only [Act.put, List.getElem_toArray, List.getElem_cons_succ, List.getElem_cons_zero, List.setIfInBounds_toArray, List.set_cons_zero, List.set_cons_succ]
            refine' wpAnyH_take (i := 9) (v := .bool b) rfl (by kernel_rfl) (by kernel_rfl) (by kernel_rfl) (fun _ _ _ h => nomatch h.1) (Or.inl ⟨by rfl, fun w' hw' => by go_simp⟩) hHeld ?_
            try simp only [Act.put, List.getElem_toArray, List.getElem_cons_succ, List.getElem_cons_zero, List.setIfInBounds_toArray, List.set_cons_zero, List.set_cons_succ]
            refine wpAnyH_ready (rs := [10]) (by kernel_rfl) (by simp) ?_
            refine AllReadyH.cons rfl (fun K hK => ?_) AllReadyH.nil
            go_simp
            rw [← hzc.out]
            have hb : Below W1xx.heap.size W1xx (W1xx.alloc (.cells zc 42)) := (Below.refl _ _).alloc (Nat.le_refl _) _
            have z8 := Blk.new W1xx 42 zc
            have n8 : w.heap.size + 1 < W1xx.heap.size := hHeld.b4.lt
            have ne : W1xx.heap.size ≠ g9 := by have := z9.lt; omega
            replace z9 := z9.below hb
            refine hK.out _ _ (hHeld.below hb) (fun hHeld => ?_)
            clear hK K hb
            generalize W1xx.alloc (.cells zc 42) = W1xxx at *
            generalize W1xx.heap.size = g8 at *
            try simp only [Act.put, List.getElem_toArray, List.getElem_cons_succ, List.getElem_cons_zero, List.setIfInBounds_toArray, List.set_cons_zero, List.set_cons_succ]
            refine wpAnyH_ready (rs := [12]) (by kernel_rfl) (by simp) ?_
            refine AllReadyH.cons rfl (fun K hK => ?_) AllReadyH.nil
            refine wp_store_whole 42 _ _ rfl g8 zc (opC Z1.D Z1.A Z1.n Z1.c Z1.B Z1.m Z1.d) 42 z8 rfl rfl (opC_info _ _ _ _ _ _ _ KZ1) (by rw [opC_size _ _ _ _ _ _ _ KZ1, hz0]) (opC_one _ _ _ _ _ _ _) ?_
            intro W1xxxx hb hg
            replace z9 := blk_gb z9 hg (by omega)
            refine hK.out _ _ (hHeld.box hg (by omega) (by omega) (by omega)) (fun hHeld => ?_)
            clear hK K hg
            replace z8 := hb
            clear hb
            try simp only [Act.put, List.getElem_toArray, List.getElem_cons_succ, List.getElem_cons_zero, List.setIfInBounds_toArray, List.set_cons_zero, List.set_cons_succ]
            refine wpAnyH_ready (rs := [13]) (by kernel_rfl) (by simp) ?_
            refine AllReadyH.cons rfl (fun K hK => ?_) AllReadyH.nil
            refine wp_store_whole 42 _ _ rfl g9 zc (opC Z2.D Z2.A Z2.n Z2.c Z2.B Z2.m Z2.d) 42 z9 rfl rfl (opC_info _ _ _ _ _ _ _ KZ2) (by rw [opC_size _ _ _ _ _ _ _ KZ2, hz0]) (opC_one _ _ _ _ _ _ _) ?_
            intro W1xxxxx hb hg
            replace z8 := blk_gb z8 hg (by omega)
            refine hK.out _ _ (hHeld.box hg (by omega) (by omega) (by omega)) (fun hHeld => ?_)
            clear hK K hg
            replace z9 := hb
            clear hb
            try simp only [Act.put, List.getElem_toArray, List.getElem_cons_succ, List.getElem_cons_zero, List.setIfInBounds_toArray, List.set_cons_zero, List.set_cons_succ]
            refine' wpAnyH_take (i := 14) (v := .bool b) rfl (by kernel_rfl) (by kernel_rfl) (by kernel_rfl) (fun _ _ _ h => nomatch h.1) (Or.inl ⟨by rfl, fun w' hw' => by go_simp⟩) hHeld ?_
            try simp only [Act.put, List.getElem_toArray, List.getElem_cons_succ, List.getElem_cons_zero, List.setIfInBounds_toArray, List.set_cons_zero, List.set_cons_succ]
            refine wpAnyH_done (by kernel_rfl) ?_ _
            exact ⟨rfl, _, _, _, _, _, _, _, _, _, _, _, _, rfl, hHeld, z8, z9, n8, n9, ne⟩
        · as_aux_lemma =>
            go_simp
            rw [← hzc.out]
            have hb : Below W1x.heap.size W1x (W1x.alloc (.cells zc 42)) := (Below.refl _ _).alloc (Nat.le_refl _) _
            have z8 := Blk.new W1x 42 zc
            have n8 : w.heap.size + 1 < W1x.heap.size := hHeld.b4.lt
            have ne : W1x.heap.size ≠ g9 := by have := z9.lt; omega
            replace z9 := z9.below hb
            refine hK.out _ _ (hHeld.below hb) (fun hHeld => ?_)
            clear hK K hb
            generalize W1x.alloc (.cells zc 42) = W1xx at *
            generalize W1x.heap.size = g8 at *
            try simp only [Act.put, List.getElem_toArray, List.getElem_cons_succ, List.getElem_cons_zero, List.setIfInBounds_toArray, List.set_cons_zero, List.set_cons_succ]
            refine wpAnyH_ready (rs := [5]) (by kernel_rfl) (by simp) ?_
            refine AllReadyH.cons rfl (fun K hK => ?_) AllReadyH.nil
            go_simp
            (with_reducible refine (cS _ hHeld.bel).mono ?_)
            rintro e9 W1xxx ⟨rfl, hb⟩
            replace z9 := z9.below hb
            replace z8 := z8.below hb
            refine hK.out _ _ (hHeld.below hb) (fun hHeld => ?_)
            clear hK K hb
            try simp only [Act.put, List.getElem_toArray, List.getElem_cons_succ, List.getElem_cons_zero, List.setIfInBounds_toArray, List.set_cons_zero, List.set_cons_succ]
            refine' wpAnyH_take (i := 6) (v := .tuple #[.agg (opC Z1.D Z1.A Z1.n Z1.c Z1.B Z1.m Z1.d), .agg (opC Z2.D Z2.A Z2.n Z2.c Z2.B Z2.m Z2.d), .bool b]) rfl (by kernel_rfl) (by kernel_rfl) (by kernel_rfl) (fun _ _ _ h => nomatch h.1) (Or.inl ⟨by rfl, fun w' hw' => by go_simp⟩) hHeld ?_
            try simp only [Act.put, List.getElem_toArray, List.getElem_cons_succ, List.getElem_cons_zero, List.setIfInBounds_toArray, List.set_cons_zero, List.set_cons_succ]
            refine' wpAnyH_take (i := 7) (v := .agg (opC Z1.D Z1.A Z1.n Z1.c Z1.B Z1.m Z1.d)) rfl (by kernel_rfl) (by kernel_rfl) (by kernel_rfl) (fun _ _ _ h => nomatch h.1) (Or.inl ⟨by rfl, fun w' hw' => by go_simp⟩) hHeld ?_
            try simp only [Act.put, List.getElem_toArray, List.getElem_cons_succ, List.getElem_cons_zero, List.setIfInBounds_toArray, List.set_cons_zero, List.set_cons_succ]
            refine' wpAnyH_take (i := 8) (v := .agg (opC Z2.D Z2.A Z2.n Z2.c Z2.B Z2.m Z2.d)) rfl (by kernel_rfl) (by kernel_rfl) (by kernel_rfl) (fun _ _ _ h => nomatch h.1) (Or.inl ⟨by rfl, fun w' hw' => by go_simp⟩) hHeld ?_
            try simp only [Act.put, List.getElem_toArray, List.getElem_cons_succ, List.getElem_cons_zero, List.setIfInBounds_toArray, List.set_cons_zero, List.set_cons_succ]
            refine' wpAnyH_take (i := 9) (v := .bool b) rfl (by kernel_rfl) (by kernel_rfl) (by kernel_rfl) (fun _ _ _ h => nomatch h.1) (Or.inl ⟨by rfl, fun w' hw' => by go_simp⟩) hHeld ?_
            try simp only [Act.put, List.getElem_toArray, List.getElem_cons_succ, List.getElem_cons_zero, List.setIfInBounds_toArray, List.set_cons_zero, List.set_cons_succ]
            refine wpAnyH_ready (rs := [12]) (by kernel_rfl) (by simp) ?_
            refine AllReadyH.cons rfl (fun K hK => ?_) AllReadyH.nil
            refine wp_store_whole 42 _ _ rfl g8 zc (opC Z1.D Z1.A Z1.n Z1.c Z1.B Z1.m Z1.d) 42 z8 rfl rfl (opC_info _ _ _ _ _ _ _ KZ1) (by rw [opC_size _ _ _ _ _ _ _ KZ1, hz0]) (opC_one _ _ _ _ _ _ _) ?_
            intro W1xxxx hb hg
            replace z9 := blk_gb z9 hg (by omega)
            refine hK.out _ _ (hHeld.box hg (by omega) (by omega) (by omega)) (fun hHeld => ?_)
            clear hK K hg
            replace z8 := hb
            clear hb
            try simp only [Act.put, List.getElem_toArray, List.getElem_cons_succ, List.getElem_cons_zero, List.setIfInBounds_toArray, List.set_cons_zero, List.set_cons_succ]
            refine wpAnyH_ready (rs := [13]) (by kernel_rfl) (by simp) ?_
            refine AllReadyH.cons rfl (fun K hK => ?_) AllReadyH.nil
            refine wp_store_whole 42 _ _ rfl g9 zc (opC Z2.D Z2.A Z2.n Z2.c Z2.B Z2.m Z2.d) 42 z9 rfl rfl (opC_info _ _ _ _ _ _ _ KZ2) (by rw [opC_size _ _ _ _ _ _ _ KZ2, hz0]) (opC_one _ _ _ _ _ _ _) ?_
            intro W1xxxxx hb hg
            replace z8 := blk_gb z8 hg (by omega)
            refine hK.out _ _ (hHeld.box hg (by omega) (by omega) (by omega)) (fun hHeld => ?_)
            clear hK K hg
            replace z9 := hb
            clear hb
            try simp only [Act.put, List.getElem_toArray, List.getElem_cons_succ, List.getElem_cons_zero, List.setIfInBounds_toArray, List.set_cons_zero, List.set_cons_succ]
            refine' wpAnyH_take (i := 14) (v := .bool b) rfl (by kernel_rfl) (by kernel_rfl) (by kernel_rfl) (fun _ _ _ h => nomatch h.1) (Or.inl ⟨by rfl, fun w' hw' => by go_simp⟩) hHeld ?_
            try simp only [Act.put, List.getElem_toArray, List.getElem_cons_succ, List.getElem_cons_zero, List.setIfInBounds_toArray, List.set_cons_zero, List.set_cons_succ]
            refine wpAnyH_done (by kernel_rfl) ?_ _
            exact ⟨rfl, _, _, _, _, _, _, _, _, _, _, _, _, rfl, hHeld, z8, z9, n8, n9, ne⟩
  case cont =>
    clear hh
    rintro ex a' W ⟨rfl, g8, g9, t22, t23, t24, t25, t26, t27, t28, t29, t30, t31, rfl, hS, z8, z9, n8, n9, ne⟩
    clear cS
    cases b with
    | false =>
      clear cR
      go_wp2_with (first
        | (with_reducible refine wpList_load_opx (by with_unfolding_all rfl) _ rfl _ rfl ⟨hS.b3⟩ KO ?_)
        | ((with_reducible refine wpList_store_blk rfl 42 _ _ rfl (w.heap.size + 1) zc (opC O.D O.A O.n O.c O.B O.m O.d) 42 hS.b4 rfl rfl hiO hsO hoO ?_); intro V4 b4 q4; have hx4 := hS.bel.trans (below_of_gb q4 (by omega) hS.bel.size)))
      refine bodyPost_ret (results_ah rfl rfl rfl b4 (opC_size _ _ _ _ _ _ _ KO)) rfl ?_
      exact ⟨O, _, _, rfl, KO, .inr ⟨k, by rw [ahF_snoc, if_neg (by rw [HB.out]; decide), HL.out], rfl, rfl⟩, hx4⟩
    | true =>
      go_wp2_with (fail)
      refine Code.wp_mono (Q := fun ex a' W => ex = .normal ∧ ∃ (g11 : Nat) (P : OpV) (v : Value) (i : Int) (t36 t37 t38 t39 t40 t41 t42 t43 t44 : Value), a' = { tmps := #[.slice (some ⟨gA, oA, none⟩) N c, .agg (opC O.D O.A O.n O.c O.B O.m O.d), undef, .pointer (some ⟨w.heap.size, 0, none⟩), .pointer (some ⟨w.heap.size + 1, 0, none⟩), .slice none 0 0, .int .i64 0, .int .i64 k, .pointer (some ⟨g8, 0, none⟩), .pointer (some ⟨g9, 0, none⟩), .bool true, .pointer (some ⟨g11, 0, none⟩), v, .int .i64 i, undef, .slice (some ⟨gA, oA, none⟩) N c, .int .i64 N, .bool false, undef, .slice (some ⟨gA, oA, none⟩) N c, .int .i64 N, .int .i64 k, t22, t23, t24, t25, t26, t27, t28, t29, t30, t31, .bool true, .bool false, undef, undef, t36, t37, t38, t39, t40, t41, t42, t43, t44, undef, undef, undef, undef, undef, undef, undef, undef, undef, undef, undef, undef, undef], defers := [] } ∧ (AhS w W w.heap.size (w.heap.size + 1) (opC O.D O.A O.n O.c O.B O.m O.d) zc ∧ OpX W g8 Z1.D Z1.A Z1.n Z1.c Z1.B Z1.m Z1.d ∧ OpX W g9 Z2.D Z2.A Z2.n Z2.c Z2.B Z2.m Z2.d) ∧ Blk W g11 42 (opC P.D P.A P.n P.c P.B P.m P.d) ∧ P.D.K.length = 32 ∧ Hid (∃ base top : Nat, AhQ L Z1 k w0 base top W P v i) ∧ w.heap.size + 1 < g11 ∧ g8 ≠ g11 ∧ g9 ≠ g11) ?cont7 ?reg7
      case reg7 =>
        refine wp_region_held_drew (S := fun W => AhS w W w.heap.size (w.heap.size + 1) (opC O.D O.A O.n O.c O.B O.m O.d) zc ∧ OpX W g8 Z1.D Z1.A Z1.n Z1.c Z1.B Z1.m Z1.d ∧ OpX W g9 Z2.D Z2.A Z2.n Z2.c Z2.B Z2.m Z2.d) (by kernel_rfl) ⟨hS.below (below_drew10 _), ⟨z8.below (below_drew10 _)⟩, ⟨z9.below (below_drew10 _)⟩⟩ (fun hHeld => ?_)
        generalize World.drew _ = W1 at *
        clear hS z8 z9
        refine' wpAnyH_take (i := 0) (v := .slice (some ⟨gA, oA, none⟩) N c) rfl (by kernel_rfl) (by kernel_rfl) (by kernel_rfl) (fun _ _ _ h => nomatch h.1) (Or.inl ⟨by rfl, fun w' hw' => by go_simp⟩) hHeld ?_
        try simp only [Act.put, List.getElem_toArray, List.getElem_cons_succ, List.getElem_cons_zero, List.setIfInBounds_toArray, List.set_cons_zero, List.set_cons_succ]
        refine' wpAnyH_take (i := 1) (v := .int .i64 k) rfl (by kernel_rfl) (by kernel_rfl) (by kernel_rfl) (fun _ _ _ h => nomatch h.1) (Or.inl ⟨by rfl, fun w' hw' => by go_simp⟩) hHeld ?_
        try simp only [Act.put, List.getElem_toArray, List.getElem_cons_succ, List.getElem_cons_zero, List.setIfInBounds_toArray, List.set_cons_zero, List.set_cons_succ]
        refine' wpAnyH_take (i := 2) (v := .slice (some ⟨gA, oA, none⟩) k c) rfl (by kernel_rfl) (by kernel_rfl) (by kernel_rfl) (fun _ _ _ h => nomatch h.1) (Or.inl ⟨by rfl, fun w' hw' => by go_simp⟩) hHeld ?_
        try simp only [Act.put, List.getElem_toArray, List.getElem_cons_succ, List.getElem_cons_zero, List.setIfInBounds_toArray, List.set_cons_zero, List.set_cons_succ]
        refine' wpAnyH_take (i := 3) (v := .agg (opC Z1.D Z1.A Z1.n Z1.c Z1.B Z1.m Z1.d)) rfl (by kernel_rfl) (by kernel_rfl) (by kernel_rfl) (fun _ _ _ h => nomatch h.1) (yields_opx (by rfl) _ rfl _ rfl (fun w' h => h.2.1) KZ1) hHeld ?_
        try simp only [Act.put, List.getElem_toArray, List.getElem_cons_succ, List.getElem_cons_zero, List.setIfInBounds_toArray, List.set_cons_zero, List.set_cons_succ]
        refine wpAnyH_ready (rs := [4, 9]) (by kernel_rfl) (by simp) ?_
        refine AllReadyH.cons rfl (fun K hK => ?_) (AllReadyH.cons rfl (fun K hK => ?_) AllReadyH.nil)
        · as_aux_lemma =>
            go_simp
            (with_reducible refine (cR _ hHeld.1.bel).mono ?_)
            rintro e9 W1x ⟨P, v, i, rfl, KP, HQ0, hb⟩
            obtain ⟨base, top, HQ, htop⟩ : ∃ base top : Nat, Hid (AhQ L Z1 k w0 base top W1x P v i) ∧ top ≤ W1x.heap.size := ⟨_, _, hid HQ0, Nat.le_refl _⟩
            clear HQ0
            refine hK.out _ _ ⟨hHeld.1.below hb, hHeld.2.1.below hb, hHeld.2.2.below hb⟩ (fun hHeld => ?_)
            clear hK K hb
            try simp only [Act.put, List.getElem_toArray, List.getElem_cons_succ, List.getElem_cons_zero, List.setIfInBounds_toArray, List.set_cons_zero, List.set_cons_succ]
            refine' wpAnyH_take (i := 5) (v := .tuple #[.agg (opC P.D P.A P.n P.c P.B P.m P.d), v, .int .i64 i]) rfl (by kernel_rfl) (by kernel_rfl) (by kernel_rfl) (fun _ _ _ h => nomatch h.1) (Or.inl ⟨by rfl, fun w' hw' => by go_simp⟩) hHeld ?_
            try simp only [Act.put, List.getElem_toArray, List.getElem_cons_succ, List.getElem_cons_zero, List.setIfInBounds_toArray, List.set_cons_zero, List.set_cons_succ]
            refine' wpAnyH_take (i := 6) (v := .agg (opC P.D P.A P.n P.c P.B P.m P.d)) rfl (by kernel_rfl) (by kernel_rfl) (by kernel_rfl) (fun _ _ _ h => nomatch h.1) (Or.inl ⟨by rfl, fun w' hw' => by go_simp⟩) hHeld ?_
            try simp only [Act.put, List.getElem_toArray, List.getElem_cons_succ, List.getElem_cons_zero, List.setIfInBounds_toArray, List.set_cons_zero, List.set_cons_succ]
            refine' wpAnyH_take (i := 7) (v := v) rfl (by kernel_rfl) (by kernel_rfl) (by kernel_rfl) (fun _ _ _ h => nomatch h.1) (Or.inl ⟨by rfl, fun w' hw' => by go_simp⟩) hHeld ?_
            try simp only [Act.put, List.getElem_toArray, List.getElem_cons_succ, List.getElem_cons_zero, List.setIfInBounds_toArray, List.set_cons_zero, List.set_cons_succ]
            refine' wpAnyH_take (i := 8) (v := .int .i64 i) rfl (by kernel_rfl) (by kernel_rfl) (by kernel_rfl) (fun _ _ _ h => nomatch h.1) (Or.inl ⟨by rfl, fun w' hw' => by go_simp⟩) hHeld ?_
            try simp only [Act.put, List.getElem_toArray, List.getElem_cons_succ, List.getElem_cons_zero, List.setIfInBounds_toArray, List.set_cons_zero, List.set_cons_succ]
            refine wpAnyH_ready (rs := [9]) (by kernel_rfl) (by simp) ?_
            refine AllReadyH.cons rfl (fun K hK => ?_) AllReadyH.nil
            go_simp
            rw [← hzc.out]
            have hb : Below W1x.heap.size W1x (W1x.alloc (.cells zc 42)) := (Below.refl _ _).alloc (Nat.le_refl _) _
            have z11 := Blk.new W1x 42 zc
            have n11 : w.heap.size + 1 < W1x.heap.size := hHeld.1.b4.lt
            have ne8 : g8 ≠ W1x.heap.size := by have := hHeld.2.1.b.lt; omega
            have ne9 : g9 ≠ W1x.heap.size := by have := hHeld.2.2.b.lt; omega
            replace HQ := hid (HQ.out.below hb)
            have hsd : W1x.heap.size < base ∨ top ≤ W1x.heap.size := .inr htop
            clear htop
            refine hK.out _ _ ⟨hHeld.1.below hb, hHeld.2.1.below hb, hHeld.2.2.below hb⟩ (fun hHeld => ?_)
            clear hK K hb
            generalize W1x.alloc (.cells zc 42) = W1xx at *
            generalize W1x.heap.size = g11 at *
            try simp only [Act.put, List.getElem_toArray, List.getElem_cons_succ, List.getElem_cons_zero, List.setIfInBounds_toArray, List.set_cons_zero, List.set_cons_succ]
            refine wpAnyH_ready (rs := [10]) (by kernel_rfl) (by simp) ?_
            refine AllReadyH.cons rfl (fun K hK => ?_) AllReadyH.nil
            refine wp_store_whole 42 _ _ rfl g11 zc (opC P.D P.A P.n P.c P.B P.m P.d) 42 z11 rfl rfl (opC_info _ _ _ _ _ _ _ KP) (by rw [opC_size _ _ _ _ _ _ _ KP, hz0]) (opC_one _ _ _ _ _ _ _) ?_
            intro W1xxx hb hg
            replace HQ := hid (HQ.out.kept hg hsd)
            refine hK.out _ _ ⟨hHeld.1.box hg (by omega) (by omega) (by omega), ⟨blk_gb hHeld.2.1.b hg ne8⟩, ⟨blk_gb hHeld.2.2.b hg ne9⟩⟩ (fun hHeld => ?_)
            clear hK K hg
            replace z11 := hb
            clear hb
            try simp only [Act.put, List.getElem_toArray, List.getElem_cons_succ, List.getElem_cons_zero, List.setIfInBounds_toArray, List.set_cons_zero, List.set_cons_succ]
            refine' wpAnyH_take (i := 11) (v := v) rfl (by kernel_rfl) (by kernel_rfl) (by kernel_rfl) (fun _ _ _ h => nomatch h.1) (Or.inl ⟨by rfl, fun w' hw' => by go_simp⟩) hHeld ?_
            try simp only [Act.put, List.getElem_toArray, List.getElem_cons_succ, List.getElem_cons_zero, List.setIfInBounds_toArray, List.set_cons_zero, List.set_cons_succ]
            refine' wpAnyH_take (i := 12) (v := .int .i64 i) rfl (by kernel_rfl) (by kernel_rfl) (by kernel_rfl) (fun _ _ _ h => nomatch h.1) (Or.inl ⟨by rfl, fun w' hw' => by go_simp⟩) hHeld ?_
            try simp only [Act.put, List.getElem_toArray, List.getElem_cons_succ, List.getElem_cons_zero, List.setIfInBounds_toArray, List.set_cons_zero, List.set_cons_succ]
            refine wpAnyH_done (by kernel_rfl) ?_ _
            exact ⟨rfl, _, P, v, i, _, _, _, _, _, _, _, _, _, rfl, hHeld, z11, KP, hid ⟨_, _, HQ.out⟩, n11, ne8, ne9⟩
        · as_aux_lemma =>
            go_simp
            rw [← hzc.out]
            have hb : Below W1.heap.size W1 (W1.alloc (.cells zc 42)) := (Below.refl _ _).alloc (Nat.le_refl _) _
            have z11 := Blk.new W1 42 zc
            have n11 : w.heap.size + 1 < W1.heap.size := hHeld.1.b4.lt
            have ne8 : g8 ≠ W1.heap.size := by have := hHeld.2.1.b.lt; omega
            have ne9 : g9 ≠ W1.heap.size := by have := hHeld.2.2.b.lt; omega
            refine hK.out _ _ ⟨hHeld.1.below hb, hHeld.2.1.below hb, hHeld.2.2.below hb⟩ (fun hHeld => ?_)
            clear hK K hb
            generalize W1.alloc (.cells zc 42) = W1x at *
            generalize W1.heap.size = g11 at *
            try simp only [Act.put, List.getElem_toArray, List.getElem_cons_succ, List.getElem_cons_zero, List.setIfInBounds_toArray, List.set_cons_zero, List.set_cons_succ]
            refine wpAnyH_ready (rs := [4]) (by kernel_rfl) (by simp) ?_
            refine AllReadyH.cons rfl (fun K hK => ?_) AllReadyH.nil
            go_simp
            (with_reducible refine (cR _ hHeld.1.bel).mono ?_)
            rintro e9 W1xx ⟨P, v, i, rfl, KP, HQ0, hb⟩
            obtain ⟨base, top, HQ, hsd⟩ : ∃ base top : Nat, Hid (AhQ L Z1 k w0 base top W1xx P v i) ∧ (g11 < base ∨ top ≤ g11) := ⟨_, _, hid HQ0, .inl z11.lt⟩
            clear HQ0
            replace z11 := z11.below hb
            refine hK.out _ _ ⟨hHeld.1.below hb, hHeld.2.1.below hb, hHeld.2.2.below hb⟩ (fun hHeld => ?_)
            clear hK K hb
            try simp only [Act.put, List.getElem_toArray, List.getElem_cons_succ, List.getElem_cons_zero, List.setIfInBounds_toArray, List.set_cons_zero, List.set_cons_succ]
            refine' wpAnyH_take (i := 5) (v := .tuple #[.agg (opC P.D P.A P.n P.c P.B P.m P.d), v, .int .i64 i]) rfl (by kernel_rfl) (by kernel_rfl) (by kernel_rfl) (fun _ _ _ h => nomatch h.1) (Or.inl ⟨by rfl, fun w' hw' => by go_simp⟩) hHeld ?_
            try simp only [Act.put, List.getElem_toArray, List.getElem_cons_succ, List.getElem_cons_zero, List.setIfInBounds_toArray, List.set_cons_zero, List.set_cons_succ]
            refine' wpAnyH_take (i := 6) (v := .agg (opC P.D P.A P.n P.c P.B P.m P.d)) rfl (by kernel_rfl) (by kernel_rfl) (by kernel_rfl) (fun _ _ _ h => nomatch h.1) (Or.inl ⟨by rfl, fun w' hw' => by go_simp⟩) hHeld ?_
            try simp only [Act.put, List.getElem_toArray, List.getElem_cons_succ, List.getElem_cons_zero, List.setIfInBounds_toArray, List.set_cons_zero, List.set_cons_succ]
            refine' wpAnyH_take (i := 7) (v := v) rfl (by kernel_rfl) (by kernel_rfl) (by kernel_rfl) (fun _ _ _ h => nomatch h.1) (Or.inl ⟨by rfl, fun w' hw' => by go_simp⟩) hHeld ?_
            try simp only [Act.put, List.getElem_toArray, List.getElem_cons_succ, List.getElem_cons_zero, List.setIfInBounds_toArray, List.set_cons_zero, List.set_cons_succ]
            refine' wpAnyH_take (i := 8) (v := .int .i64 i) rfl (by kernel_rfl) (by kernel_rfl) (by kernel_rfl) (fun _ _ _ h => nomatch h.1) (Or.inl ⟨by rfl, fun w' hw' => by go_simp⟩) hHeld ?_
            try simp only [Act.put, List.getElem_toArray, List.getElem_cons_succ, List.getElem_cons_zero, List.setIfInBounds_toArray, List.set_cons_zero, List.set_cons_succ]
            refine wpAnyH_ready (rs := [10]) (by kernel_rfl) (by simp) ?_
            refine AllReadyH.cons rfl (fun K hK => ?_) AllReadyH.nil
            refine wp_store_whole 42 _ _ rfl g11 zc (opC P.D P.A P.n P.c P.B P.m P.d) 42 z11 rfl rfl (opC_info _ _ _ _ _ _ _ KP) (by rw [opC_size _ _ _ _ _ _ _ KP, hz0]) (opC_one _ _ _ _ _ _ _) ?_
            intro W1xxx hb hg
            replace HQ := hid (HQ.out.kept hg hsd)
            refine hK.out _ _ ⟨hHeld.1.box hg (by omega) (by omega) (by omega), ⟨blk_gb hHeld.2.1.b hg ne8⟩, ⟨blk_gb hHeld.2.2.b hg ne9⟩⟩ (fun hHeld => ?_)
            clear hK K hg
            replace z11 := hb
            clear hb
            try simp only [Act.put, List.getElem_toArray, List.getElem_cons_succ, List.getElem_cons_zero, List.setIfInBounds_toArray, List.set_cons_zero, List.set_cons_succ]
            refine' wpAnyH_take (i := 11) (v := v) rfl (by kernel_rfl) (by kernel_rfl) (by kernel_rfl) (fun _ _ _ h => nomatch h.1) (Or.inl ⟨by rfl, fun w' hw' => by go_simp⟩) hHeld ?_
            try simp only [Act.put, List.getElem_toArray, List.getElem_cons_succ, List.getElem_cons_zero, List.setIfInBounds_toArray, List.set_cons_zero, List.set_cons_succ]
            refine' wpAnyH_take (i := 12) (v := .int .i64 i) rfl (by kernel_rfl) (by kernel_rfl) (by kernel_rfl) (fun _ _ _ h => nomatch h.1) (Or.inl ⟨by rfl, fun w' hw' => by go_simp⟩) hHeld ?_
            try simp only [Act.put, List.getElem_toArray, List.getElem_cons_succ, List.getElem_cons_zero, List.setIfInBounds_toArray, List.set_cons_zero, List.set_cons_succ]
            refine wpAnyH_done (by kernel_rfl) ?_ _
            exact ⟨rfl, _, P, v, i, _, _, _, _, _, _, _, _, _, rfl, hHeld, z11, KP, hid ⟨_, _, HQ.out⟩, n11, ne8, ne9⟩
      case cont7 =>
        clear hS z8 z9 cR
        rintro ex a' W1 ⟨rfl, g11, P, v, i, t36, t37, t38, t39, t40, t41, t42, t43, t44, rfl, hS, z11, KP, HQ, n11, ne8, ne9⟩
        obtain ⟨base, top, HQ⟩ := HQ.out
        rcases HQ with ⟨Ys, A8, c8, gR, e1, e2, e3, e4, rfl, rfl, e7, e8, -, e9⟩ | ⟨j, e1, rfl, rfl⟩
        · have hbA := (Below.refl W1.heap.size W1).alloc (Nat.le_refl _) (.cells #[] 42)
          have hown := OwnOps.made W1
          have e8' := (e8.rd (fun Y hY => (e9 Y hY).hK)).below hbA
          have HE : Hid (ahF (L ++ [xx.D]) O.D = .ok (P.D, (Ys ++ [Z2]).map OpV.D)) := hid (by
            rw [ahF_snoc, if_pos HB.out, ← (HZ.out (by trivial)).1, e1]
            simp [(HZ.out (by trivial)).2])
          have HK9 : Hid (∀ X ∈ [] ++ Ys ++ [Z2], X.D.K.length = 32) := hid (by
            intro X hX
            simp at hX
            rcases hX with hX | rfl
            · exact (e9 X hX).hK
            · exact KZ2)
          have HPR := hid e7
          have HYs : Hid (∀ Y ∈ Ys ++ [Z2], OpR w0 Y.D Y.A Y.n Y.B Y.m) := hid (by
            intro Y hY
            rcases List.mem_append.1 hY with hY | hY
            · exact e9 Y hY
            · rw [List.mem_singleton.1 hY]; exact HY.out)
          clear e1 e7 e8 e9 HZ HY HB
          go_wp2_with (first
            | (at_builtin; refine wpList_append_ops rfl _ _ rfl W1.heap.size _ 0 [] rfl hown A8 k c8 Ys rfl e2 e4 e8' (by omega) (Nat.le_trans (Nat.le_succ _) (Nat.le_of_eq (by simp))) ?_; intro v' V0 hown' hgr; replace hbA := hown.grown hgr (Nat.le_refl _) hbA hbA.size))
          clear e8' hown hgr
          replace hown := hown'
          clear hown'
          refine wp_region_held_drew (S := fun W => OpX W g11 P.D P.A P.n P.c P.B P.m P.d ∧ OpX W g9 Z2.D Z2.A Z2.n Z2.c Z2.B Z2.m Z2.d) (by kernel_rfl) ⟨⟨(z11.below hbA).below (below_drew10 _)⟩, ⟨(hS.2.2.b.below hbA).below (below_drew10 _)⟩⟩ (fun hHeld => ?_)
          replace hbA := hbA.trans ((below_drew10 _).mono hbA.size)
          replace hown := hown.below (below_drew10 _)
          generalize World.drew _ = V1 at *
          refine' wpAnyH_take (i := 0) (v := .agg (opC P.D P.A P.n P.c P.B P.m P.d)) rfl (by kernel_rfl) (by kernel_rfl) (by kernel_rfl) (fun _ _ _ h => h) (yields_opx (by rfl) _ rfl _ rfl (fun w' h => h.1) KP) hHeld ?_
          try simp only [Act.put, List.getElem_toArray, List.getElem_cons_succ, List.getElem_cons_zero, List.setIfInBounds_toArray, List.set_cons_zero, List.set_cons_succ]
          refine' wpAnyH_take (i := 1) (v := v') rfl (by kernel_rfl) (by kernel_rfl) (by kernel_rfl) (fun _ _ _ h => h) (Or.inl ⟨by rfl, fun w' hw' => by go_simp⟩) hHeld ?_
          try simp only [Act.put, List.getElem_toArray, List.getElem_cons_succ, List.getElem_cons_zero, List.setIfInBounds_toArray, List.set_cons_zero, List.set_cons_succ]
          refine' wpAnyH_take (i := 2) (v := .agg (opC Z2.D Z2.A Z2.n Z2.c Z2.B Z2.m Z2.d)) rfl (by kernel_rfl) (by kernel_rfl) (by kernel_rfl) (fun _ _ _ h => h) (yields_opx (by rfl) _ rfl _ rfl (fun w' h => h.2) KZ2) hHeld ?_
          try simp only [Act.put, List.getElem_toArray, List.getElem_cons_succ, List.getElem_cons_zero, List.setIfInBounds_toArray, List.set_cons_zero, List.set_cons_succ]
          refine wpAnyH_ready (rs := [3]) (by kernel_rfl) (by simp) ?_
          refine AllReadyH.cons rfl (fun K hK => ?_) AllReadyH.nil
          refine wp_build1o _ rfl (opC Z2.D Z2.A Z2.n Z2.c Z2.B Z2.m Z2.d) (opC_size _ _ _ _ _ _ _ KZ2) rfl ?_
          intro cs hcs
          have hb : Below V1.heap.size V1 (V1.alloc (.cells cs 42)) := (Below.refl _ _).alloc (Nat.le_refl _) _
          refine hK.out _ _ ⟨hHeld.1.below hb, hHeld.2.below hb⟩ (fun hHeld => ?_)
          clear hK K
          replace hown := hown.below hb
          replace hbA := hbA.trans (hb.mono hbA.size)
          clear hb
          generalize V1.alloc (.cells cs 42) = V2 at *
          generalize V1.heap.size = gL at *
          try simp only [Act.put, List.getElem_toArray, List.getElem_cons_succ, List.getElem_cons_zero, List.setIfInBounds_toArray, List.set_cons_zero, List.set_cons_succ]
          refine wpAnyH_ready (rs := [4]) (by kernel_rfl) (by simp) ?_
          refine AllReadyH.cons rfl (fun K hK => ?_) AllReadyH.nil
          refine wp_append_ops _ _ rfl W1.heap.size v' (0 + k) ([] ++ Ys) rfl hown (some ⟨gL, 0, none⟩) 1 1 [Z2] rfl rfl (fun e => by cases e) (OpRd.one hcs KZ2) (by omega) hbA.size ?_
          intro v2 V3 hown2 hgr2
          have hbB := hown.grown hgr2 (Nat.le_refl _) hbA hbA.size
          refine hK.out _ _ ⟨⟨z11.below hbB⟩, ⟨hS.2.2.b.below hbB⟩⟩ (fun hHeld => ?_)
          clear hK K hown hgr2 hbA
          try simp only [Act.put, List.getElem_toArray, List.getElem_cons_succ, List.getElem_cons_zero, List.setIfInBounds_toArray, List.set_cons_zero, List.set_cons_succ]
          obtain ⟨g9x, c9, rfl, l9, m9, p9, q9, r9⟩ := hown2.row (by omega) HK9.out
          refine wpAnyH_ready (rs := [5]) (by kernel_rfl) (by simp) ?_
          refine AllReadyH.cons rfl (fun K hK => ?_) AllReadyH.nil
          refine wp_store_whole 42 _ _ rfl (w.heap.size + 1) zc (opC P.D P.A P.n P.c P.B P.m P.d) 42 (hS.1.b4.below hbB) rfl rfl (opC_info _ _ _ _ _ _ _ KP) (by rw [opC_size _ _ _ _ _ _ _ KP, hz0]) (opC_one _ _ _ _ _ _ _) ?_
          intro V4 b4 q4
          refine hK.out _ _ ⟨⟨blk_gb hHeld.1.b q4 (by omega)⟩, ⟨blk_gb hHeld.2.b q4 (by omega)⟩⟩ (fun hHeld => ?_)
          clear hK K
          try simp only [Act.put, List.getElem_toArray, List.getElem_cons_succ, List.getElem_cons_zero, List.setIfInBounds_toArray, List.set_cons_zero, List.set_cons_succ]
          refine' wpAnyH_take (i := 6) (v := .slice (some ⟨g9x, 0, none⟩) (0 + k + 1) c9) rfl (by kernel_rfl) (by kernel_rfl) (by kernel_rfl) (fun _ _ _ h => h) (Or.inl ⟨by rfl, fun w' hw' => by go_simp⟩) hHeld ?_
          try simp only [Act.put, List.getElem_toArray, List.getElem_cons_succ, List.getElem_cons_zero, List.setIfInBounds_toArray, List.set_cons_zero, List.set_cons_succ]
          refine' wpAnyH_take (i := 7) (v := .int .i64 (-1)) rfl (by kernel_rfl) (by kernel_rfl) (by kernel_rfl) (fun _ _ _ h => h) (Or.inl ⟨by rfl, fun w' hw' => by go_simp⟩) hHeld ?_
          try simp only [Act.put, List.getElem_toArray, List.getElem_cons_succ, List.getElem_cons_zero, List.setIfInBounds_toArray, List.set_cons_zero, List.set_cons_succ]
          refine wpAnyH_done (by kernel_rfl) ?_ _
          go_wp2_with (fail)
          refine bodyPost_ret (results_ah rfl rfl rfl b4 (opC_size _ _ _ _ _ _ _ KP)) rfl ?_
          have hx3 := hS.1.bel.trans (hbB.mono hS.1.bel.size)
          have hx4 := hx3.trans (below_of_gb q4 (by omega) hx3.size)
          have hsz := q4.size
          have hNk := HN.out
          have hlt4 := hS.1.b4.lt
          exact ⟨P, .slice (some ⟨g9x, 0, none⟩) (0 + k + 1) c9, -1, rfl, KP, .inl ⟨Ys ++ [Z2], _, c9, g9x, HE.out, by rw [List.length_append, e2, hNk]; rfl, by omega, (fun h => by cases h), by rw [show 0 + k + 1 = N by omega], rfl, HPR.out, (r9.far q4 (by omega)).le (by omega), .inr ⟨by omega, by omega⟩, HYs.out⟩, hx4⟩
        · have d1 : (0 : Int) ≤ j := by omega
          have d2 : decide ((0 : Int) ≤ j) = true := decide_eq_true d1
          replace hS := hS.1
          go_wp2_with (first
            | (with_reducible refine wpList_load_opx (by with_unfolding_all rfl) _ rfl _ rfl ⟨hS.b3⟩ KO ?_)
            | ((with_reducible refine wpList_store_blk rfl 42 _ _ rfl (w.heap.size + 1) zc (opC O.D O.A O.n O.c O.B O.m O.d) 42 hS.b4 rfl rfl hiO hsO hoO ?_); intro V4 b4 q4; have hx4 := hS.bel.trans (below_of_gb q4 (by omega) hS.bel.size)))
          refine bodyPost_ret (results_ah rfl rfl rfl b4 (opC_size _ _ _ _ _ _ _ KO)) rfl ?_
          exact ⟨O, _, _, rfl, KO, .inr ⟨j, by rw [ahF_snoc, if_pos HB.out, ← (HZ.out (by trivial)).1, e1], rfl, rfl⟩, hx4⟩


end Go.Proofs.Ytmfngampccpkhaa


/- The document's Inverse of an operation. -/
import Derived.Test.YtodfaakodgedbaaTr12
set_option linter.unusedSimpArgs false
set_option linter.unusedVariables false
namespace Go.Proofs.Ytodfaakodgedbaa
open Go.RowKit Go.Qc Go.Shelf
attribute [local go_sem] txt_size txt_append ib_fold txt_toL


set_option maxRecDepth 100000 in
set_option maxHeartbeats 40000000 in
theorem bldR_lit (p : List UInt8) : opC ⟨2, p, [], 0, [], [], zeroB, 0⟩ none 0 0 none 0 0 = #[.int .i64 2, .string (txt p), .string ⟨#[]⟩, .int .i64 0, .slice none 0 0, .slice none 0 0, .int .u8 0, .int .u8 0, .int .u8 0, .int .u8 0, .int .u8 0, .int .u8 0, .int .u8 0, .int .u8 0, .int .u8 0, .int .u8 0, .int .u8 0, .int .u8 0, .int .u8 0, .int .u8 0, .int .u8 0, .int .u8 0, .int .u8 0, .int .u8 0, .int .u8 0, .int .u8 0, .int .u8 0, .int .u8 0, .int .u8 0, .int .u8 0, .int .u8 0, .int .u8 0, .int .u8 0, .int .u8 0, .int .u8 0, .int .u8 0, .int .u8 0, .int .u8 0, .int .i64 0] := by
  unfold opC
  rw [zeroB_vals]
  simp
  try rfl
theorem bldR_run (p : List UInt8) (W : World) : (Instr.build 40 #[(0, .int .i64 2), (1, .string (txt p))]).run Try.prog W = .ok (.agg (opC ⟨2, p, [], 0, [], [], zeroB, 0⟩ none 0 0 none 0 0)) W := by
  rw [bldR_lit]
  generalize txt p = s
  kernel_rfl
theorem wpList_bldR {w : World} {ops : Array Oper} {rest : List Oper} {o : Oper} {a : Act} {Q : Exit → Act → World → Prop} (hgd : o.guard = none) (x : Operand) (ho : o.op = .build 40 #[(0, .const (.int .i64 2)), (1, x)]) (p : List UInt8) (hx : a.eval x = .string (txt p))
    (h : wpList Try.prog ops Q rest (a.put o.dst (.agg (opC ⟨2, p, [], 0, [], [], zeroB, 0⟩ none 0 0 none 0 0))) w) : wpList Try.prog ops Q (o :: rest) a w := by
  refine wpList_plain hgd fun K' hK' => ?_
  have hr := bldR_run p w
  unfold Oper.wp
  simp only [execOp, ho]
  simp only [Sem.run_bind, List.map_toArray, List.map_cons, List.map_nil, hx]
  simp only [Act.eval, hr, Result.andThen, Sem.run_pure]
  exact hK' _ _ h


set_option maxRecDepth 100000 in
set_option maxHeartbeats 40000000 in
theorem bldE_lit (p : List UInt8) (nw : List (List UInt8)) (A : Option Addr) (n c : Nat) : opC ⟨3, p, [], 0, [], nw, zeroB, 0⟩ none 0 0 A n c = #[.int .i64 3, .string (txt p), .string ⟨#[]⟩, .int .i64 0, .slice none 0 0, .slice A n c, .int .u8 0, .int .u8 0, .int .u8 0, .int .u8 0, .int .u8 0, .int .u8 0, .int .u8 0, .int .u8 0, .int .u8 0, .int .u8 0, .int .u8 0, .int .u8 0, .int .u8 0, .int .u8 0, .int .u8 0, .int .u8 0, .int .u8 0, .int .u8 0, .int .u8 0, .int .u8 0, .int .u8 0, .int .u8 0, .int .u8 0, .int .u8 0, .int .u8 0, .int .u8 0, .int .u8 0, .int .u8 0, .int .u8 0, .int .u8 0, .int .u8 0, .int .u8 0, .int .i64 0] := by
  unfold opC
  rw [zeroB_vals]
  simp
  try rfl
theorem bldE_run (p : List UInt8) (nw : List (List UInt8)) (A : Option Addr) (n c : Nat) (W : World) : (Instr.build 40 #[(0, .int .i64 3), (1, .string (txt p)), (5, .slice A n c)]).run Try.prog W = .ok (.agg (opC ⟨3, p, [], 0, [], nw, zeroB, 0⟩ none 0 0 A n c)) W := by
  rw [bldE_lit]
  generalize txt p = s
  kernel_rfl
theorem wpList_bldE {w : World} {ops : Array Oper} {rest : List Oper} {o : Oper} {a : Act} {Q : Exit → Act → World → Prop} (hgd : o.guard = none) (x y : Operand) (ho : o.op = .build 40 #[(0, .const (.int .i64 3)), (1, x), (5, y)]) (p : List UInt8) (nw : List (List UInt8)) (A : Option Addr) (n c : Nat) (hx : a.eval x = .string (txt p)) (hy : a.eval y = .slice A n c)
    (h : wpList Try.prog ops Q rest (a.put o.dst (.agg (opC ⟨3, p, [], 0, [], nw, zeroB, 0⟩ none 0 0 A n c))) w) : wpList Try.prog ops Q (o :: rest) a w := by
  refine wpList_plain hgd fun K' hK' => ?_
  have hr := bldE_run p nw A n c w
  unfold Oper.wp
  simp only [execOp, ho]
  simp only [Sem.run_bind, List.map_toArray, List.map_cons, List.map_nil, hx, hy]
  simp only [Act.eval, hr, Result.andThen, Sem.run_pure]
  exact hK' _ _ h


set_option maxRecDepth 100000 in
set_option maxHeartbeats 40000000 in
theorem bldF_lit (p : List UInt8) (at' : Int) (old nw : List (List UInt8)) (A : Option Addr) (n c : Nat) (B : Option Addr) (m d : Nat) : opC ⟨3, p, [], at', old, nw, zeroB, 0⟩ A n c B m d = #[.int .i64 3, .string (txt p), .string ⟨#[]⟩, .int .i64 at', .slice A n c, .slice B m d, .int .u8 0, .int .u8 0, .int .u8 0, .int .u8 0, .int .u8 0, .int .u8 0, .int .u8 0, .int .u8 0, .int .u8 0, .int .u8 0, .int .u8 0, .int .u8 0, .int .u8 0, .int .u8 0, .int .u8 0, .int .u8 0, .int .u8 0, .int .u8 0, .int .u8 0, .int .u8 0, .int .u8 0, .int .u8 0, .int .u8 0, .int .u8 0, .int .u8 0, .int .u8 0, .int .u8 0, .int .u8 0, .int .u8 0, .int .u8 0, .int .u8 0, .int .u8 0, .int .i64 0] := by
  unfold opC
  rw [zeroB_vals]
  simp
  try rfl
theorem bldF_run (p : List UInt8) (at' : Int) (old nw : List (List UInt8)) (A : Option Addr) (n c : Nat) (B : Option Addr) (m d : Nat) (W : World) : (Instr.build 40 #[(0, .int .i64 3), (1, .string (txt p)), (3, .int .i64 at'), (4, .slice A n c), (5, .slice B m d)]).run Try.prog W = .ok (.agg (opC ⟨3, p, [], at', old, nw, zeroB, 0⟩ A n c B m d)) W := by
  rw [bldF_lit]
  generalize txt p = s
  kernel_rfl
theorem wpList_bldF {w : World} {ops : Array Oper} {rest : List Oper} {o : Oper} {a : Act} {Q : Exit → Act → World → Prop} (hgd : o.guard = none) (x u v y : Operand) (ho : o.op = .build 40 #[(0, .const (.int .i64 3)), (1, x), (3, u), (4, v), (5, y)]) (p : List UInt8) (at' : Int) (old nw : List (List UInt8)) (A : Option Addr) (n c : Nat) (B : Option Addr) (m d : Nat) (hx : a.eval x = .string (txt p)) (hu : a.eval u = .int .i64 at') (hv : a.eval v = .slice A n c) (hy : a.eval y = .slice B m d)
    (h : wpList Try.prog ops Q rest (a.put o.dst (.agg (opC ⟨3, p, [], at', old, nw, zeroB, 0⟩ A n c B m d))) w) : wpList Try.prog ops Q (o :: rest) a w := by
  refine wpList_plain hgd fun K' hK' => ?_
  have hr := bldF_run p at' old nw A n c B m d w
  unfold Oper.wp
  simp only [execOp, ho]
  simp only [Sem.run_bind, List.map_toArray, List.map_cons, List.map_nil, hx, hu, hv, hy]
  simp only [Act.eval, hr, Result.andThen, Sem.run_pure]
  exact hK' _ _ h


set_option maxRecDepth 100000 in
set_option maxHeartbeats 40000000 in
theorem bldM_lit (p t : List UInt8) : opC ⟨4, p, t, 0, [], [], zeroB, 0⟩ none 0 0 none 0 0 = #[.int .i64 4, .string (txt p), .string (txt t), .int .i64 0, .slice none 0 0, .slice none 0 0, .int .u8 0, .int .u8 0, .int .u8 0, .int .u8 0, .int .u8 0, .int .u8 0, .int .u8 0, .int .u8 0, .int .u8 0, .int .u8 0, .int .u8 0, .int .u8 0, .int .u8 0, .int .u8 0, .int .u8 0, .int .u8 0, .int .u8 0, .int .u8 0, .int .u8 0, .int .u8 0, .int .u8 0, .int .u8 0, .int .u8 0, .int .u8 0, .int .u8 0, .int .u8 0, .int .u8 0, .int .u8 0, .int .u8 0, .int .u8 0, .int .u8 0, .int .u8 0, .int .i64 0] := by
  unfold opC
  rw [zeroB_vals]
  simp
  try rfl
theorem bldM_run (p t : List UInt8) (W : World) : (Instr.build 40 #[(0, .int .i64 4), (1, .string (txt p)), (2, .string (txt t))]).run Try.prog W = .ok (.agg (opC ⟨4, p, t, 0, [], [], zeroB, 0⟩ none 0 0 none 0 0)) W := by
  rw [bldM_lit]
  generalize txt p = s
  generalize txt t = s2
  kernel_rfl
theorem wpList_bldM {w : World} {ops : Array Oper} {rest : List Oper} {o : Oper} {a : Act} {Q : Exit → Act → World → Prop} (hgd : o.guard = none) (x y : Operand) (ho : o.op = .build 40 #[(0, .const (.int .i64 4)), (1, x), (2, y)]) (p t : List UInt8) (hx : a.eval x = .string (txt p)) (hy : a.eval y = .string (txt t))
    (h : wpList Try.prog ops Q rest (a.put o.dst (.agg (opC ⟨4, p, t, 0, [], [], zeroB, 0⟩ none 0 0 none 0 0))) w) : wpList Try.prog ops Q (o :: rest) a w := by
  refine wpList_plain hgd fun K' hK' => ?_
  have hr := bldM_run p t w
  unfold Oper.wp
  simp only [execOp, ho]
  simp only [Sem.run_bind, List.map_toArray, List.map_cons, List.map_nil, hx, hy]
  simp only [Act.eval, hr, Result.andThen, Sem.run_pure]
  exact hK' _ _ h


theorem OpRd.two {W : World} {g : Nat} {X Y : OpV} (h : W.rangeAt g 0 (opC X.D X.A X.n X.c X.B X.m X.d).toList) (h2 : W.rangeAt g 39 (opC Y.D Y.A Y.n Y.c Y.B Y.m Y.d).toList) (hK : X.D.K.length = 32) (hK2 : Y.D.K.length = 32) : OpRd W (some ⟨g, 0, none⟩) [X, Y] := by
  refine ⟨fun Z hZ => ?_, .inr ⟨g, 0, rfl, fun j v hj => ?_⟩⟩
  · simp at hZ
    rcases hZ with rfl | rfl
    · exact hK
    · exact hK2
  · have hl : (opC X.D X.A X.n X.c X.B X.m X.d).toList.length = 39 := by rw [Array.length_toList]; exact opC_size _ _ _ _ _ _ _ hK
    have e : opsV [X, Y] = (opC X.D X.A X.n X.c X.B X.m X.d).toList ++ (opC Y.D Y.A Y.n Y.c Y.B Y.m Y.d).toList := by simp [opsV, OpV.cs]
    rw [e] at hj
    by_cases h3 : j < 39
    · rw [List.getElem?_append_left (by omega)] at hj
      exact h j v hj
    · rw [List.getElem?_append_right (by omega), hl] at hj
      have := h2 (j - 39) v hj
      rw [Nat.zero_add, show j = 39 + (j - 39) by omega]
      exact this
/-- What Inverse tells. -/
def InvQ (w w' : World) (D : OpD) (e : Ending) : Prop := ∃ g Is, e = .returned (.slice (some ⟨g, 0, none⟩) (invD D).length (invD D).length) ∧ Is.map OpV.D = invD D ∧ OpRd w' (some ⟨g, 0, none⟩) Is ∧ (∀ X ∈ Is, OpR w' X.D X.A X.n X.B X.m) ∧ Below w.heap.size w w'
theorem OpR.path {W : World} {k : Int} {p t : List UInt8} (hp : p.length ≤ 1000) (ht : t.length ≤ 1000) : OpR W ⟨k, p, t, 0, [], [], zeroB, 0⟩ none 0 none 0 := ⟨rfl, by decide, by simp, rfl, by decide, by simp, .inl rfl, .inl rfl, rfl, hp, ht⟩


set_option maxRecDepth 100000 in
set_option maxHeartbeats 40000000 in
theorem inv_1 (D : OpD) (A : Option Addr) (n c : Nat) (B : Option Addr) (m d : Nat) (w : World) (hR : OpR w D A n B m) (hk : D.k = 1) :
    Calls Try.prog 10 #[.agg (opC D A n c B m d)] w fun e w' => InvQ w w' D e := by
  have hba := (Below.refl w.heap.size w).alloc (Nat.le_refl _) (.cells (opC D A n c B m d) 40)
  have hx := OpX.new w D A n c B m d
  have q0 := hx.c0
  have q1 := hx.c1
  have q2 := hx.c2
  have q3 := hx.c3
  have q4 := hx.c4
  have q5 := hx.c5
  have HR := hid hR
  have bp := hR.bp
  have bt := hR.bt
  rw [hk] at q0
  have HK := hid hk
  clear hk
  clear hR
  go_enter Try.func10, Try.ntmps10
  go_upto_region 1 with (fail)
  generalize w.alloc (.cells (opC D A n c B m d) 40) = W0 at *
  go_wp2_with (first
    | (with_reducible refine wpList_bldR rfl _ rfl D.p rfl ?_)
    | (with_reducible refine wpList_build1o rfl _ rfl _ (opC_size _ _ _ _ _ _ _ rfl) rfl ?_; intro cs hrg))
  go_ret
  refine ⟨W0.heap.size, [⟨⟨2, D.p, [], 0, [], [], zeroB, 0⟩, none, 0, 0, none, 0, 0⟩], ?_, ?_, OpRd.one (X := ⟨⟨2, D.p, [], 0, [], [], zeroB, 0⟩, none, 0, 0, none, 0, 0⟩) hrg rfl, fun Y hY => ?_, hba.alloc hba.size _⟩
  · unfold invD; rw [if_pos HK.out]; rfl
  · unfold invD; rw [if_pos HK.out]; rfl
  · rw [List.mem_singleton.1 hY]; exact OpR.path bp (by simp)


set_option maxRecDepth 100000 in
set_option maxHeartbeats 40000000 in
theorem inv_2a (D : OpD) (A : Option Addr) (n c : Nat) (B : Option Addr) (m d : Nat) (w : World) (hR : OpR w D A n B m) (hk : D.k = 2) (h0 : D.o = []) :
    Calls Try.prog 10 #[.agg (opC D A n c B m d)] w fun e w' => InvQ w w' D e := by
  have hba := (Below.refl w.heap.size w).alloc (Nat.le_refl _) (.cells (opC D A n c B m d) 40)
  have hx := OpX.new w D A n c B m d
  have q0 := hx.c0
  have q1 := hx.c1
  have q2 := hx.c2
  have q3 := hx.c3
  have q4 := hx.c4
  have q5 := hx.c5
  have HR := hid hR
  have bp := hR.bp
  have bt := hR.bt
  have hn0 : (n : Int) = 0 := by have := hR.lo; rw [h0] at this; simp at this; omega
  have H0 := hid h0
  clear h0
  rw [hk] at q0
  have HK := hid hk
  clear hk
  clear hR
  go_enter Try.func10, Try.ntmps10
  go_upto_region 1 with (fail)
  generalize w.alloc (.cells (opC D A n c B m d) 40) = W0 at *
  go_wp2_with (first
    | (with_reducible refine wpList_build_opP rfl _ rfl D.p rfl ?_)
    | (with_reducible refine wpList_build1o rfl _ rfl _ (opC_size _ _ _ _ _ _ _ rfl) rfl ?_; intro cs hrg))
  go_ret
  refine ⟨W0.heap.size, [⟨⟨1, D.p, [], 0, [], [], zeroB, 0⟩, none, 0, 0, none, 0, 0⟩], ?_, ?_, OpRd.one (X := ⟨⟨1, D.p, [], 0, [], [], zeroB, 0⟩, none, 0, 0, none, 0, 0⟩) hrg rfl, fun Y hY => ?_, hba.alloc hba.size _⟩
  · unfold invD; rw [if_neg (by rw [HK.out]; decide), if_pos HK.out, if_pos H0.out]; rfl
  · unfold invD; rw [if_neg (by rw [HK.out]; decide), if_pos HK.out, if_pos H0.out]; rfl
  · rw [List.mem_singleton.1 hY]; exact OpR.path bp (by simp)


set_option maxRecDepth 100000 in
set_option maxHeartbeats 40000000 in
theorem inv_2b (D : OpD) (A : Option Addr) (n c : Nat) (B : Option Addr) (m d : Nat) (w : World) (hR : OpR w D A n B m) (hk : D.k = 2) (h0 : D.o ≠ []) :
    Calls Try.prog 10 #[.agg (opC D A n c B m d)] w fun e w' => InvQ w w' D e := by
  have hba := (Below.refl w.heap.size w).alloc (Nat.le_refl _) (.cells (opC D A n c B m d) 40)
  have hx := OpX.new w D A n c B m d
  have q0 := hx.c0
  have q1 := hx.c1
  have q2 := hx.c2
  have q3 := hx.c3
  have q4 := hx.c4
  have q5 := hx.c5
  have HR := hid hR
  have bp := hR.bp
  have bt := hR.bt
  have hn0 : ¬ (n : Int) = 0 := by have := hR.lo; have := List.length_pos_iff.2 h0; omega
  have H0 := hid h0
  clear h0
  rw [hk] at q0
  have HK := hid hk
  clear hk
  clear hR
  go_enter Try.func10, Try.ntmps10
  go_upto_region 1 with (fail)
  generalize w.alloc (.cells (opC D A n c B m d) 40) = W0 at *
  go_wp2_with (first
    | (with_reducible refine wpList_build_opP rfl _ rfl D.p rfl ?_)
    | (with_reducible refine wpList_bldE rfl _ _ rfl D.p D.o A n c rfl rfl ?_)
    | (with_reducible refine wpList_build2o rfl _ _ rfl _ _ (opC_size _ _ _ _ _ _ _ rfl) (opC_size _ _ _ _ _ _ _ rfl) rfl rfl ?_; intro cs hrg hrg2))
  go_ret
  refine ⟨W0.heap.size, [⟨⟨1, D.p, [], 0, [], [], zeroB, 0⟩, none, 0, 0, none, 0, 0⟩, ⟨⟨3, D.p, [], 0, [], D.o, zeroB, 0⟩, none, 0, 0, A, n, c⟩], ?_, ?_, OpRd.two (X := ⟨⟨1, D.p, [], 0, [], [], zeroB, 0⟩, none, 0, 0, none, 0, 0⟩) (Y := ⟨⟨3, D.p, [], 0, [], D.o, zeroB, 0⟩, none, 0, 0, A, n, c⟩) hrg hrg2 rfl rfl, fun Y hY => ?_, hba.alloc hba.size _⟩
  · unfold invD; rw [if_neg (by rw [HK.out]; decide), if_pos HK.out, if_neg H0.out]; rfl
  · unfold invD; rw [if_neg (by rw [HK.out]; decide), if_pos HK.out, if_neg H0.out]; rfl
  · have hbz := hba.alloc hba.size (.cells cs 40)
    simp at hY
    rcases hY with rfl | rfl
    · exact OpR.path bp (by simp)
    · exact ⟨rfl, (show (0 : Nat) ≤ 1000 by decide), by simp, HR.out.lo, HR.out.bn, HR.out.bo, .inl rfl, HR.out.rA.below hbz, rfl, bp, by simp⟩


set_option maxRecDepth 100000 in
set_option maxHeartbeats 40000000 in
theorem inv_3 (D : OpD) (A : Option Addr) (n c : Nat) (B : Option Addr) (m d : Nat) (w : World) (hR : OpR w D A n B m) (hk : D.k = 3) :
    Calls Try.prog 10 #[.agg (opC D A n c B m d)] w fun e w' => InvQ w w' D e := by
  have hba := (Below.refl w.heap.size w).alloc (Nat.le_refl _) (.cells (opC D A n c B m d) 40)
  have hx := OpX.new w D A n c B m d
  have q0 := hx.c0
  have q1 := hx.c1
  have q2 := hx.c2
  have q3 := hx.c3
  have q4 := hx.c4
  have q5 := hx.c5
  have HR := hid hR
  have bp := hR.bp
  have bt := hR.bt
  rw [hk] at q0
  have HK := hid hk
  clear hk
  clear hR
  go_enter Try.func10, Try.ntmps10
  go_upto_region 1 with (fail)
  generalize w.alloc (.cells (opC D A n c B m d) 40) = W0 at *
  go_wp2_with (first
    | (with_reducible refine wpList_bldF rfl _ _ _ _ rfl D.p D.a D.n D.o B m d A n c rfl rfl rfl rfl ?_)
    | (with_reducible refine wpList_build1o rfl _ rfl _ (opC_size _ _ _ _ _ _ _ rfl) rfl ?_; intro cs hrg))
  go_ret
  refine ⟨W0.heap.size, [⟨⟨3, D.p, [], D.a, D.n, D.o, zeroB, 0⟩, B, m, d, A, n, c⟩], ?_, ?_, OpRd.one (X := ⟨⟨3, D.p, [], D.a, D.n, D.o, zeroB, 0⟩, B, m, d, A, n, c⟩) hrg rfl, fun Y hY => ?_, hba.alloc hba.size _⟩
  · unfold invD; rw [if_neg (by rw [HK.out]; decide), if_neg (by rw [HK.out]; decide), if_pos HK.out]; rfl
  · unfold invD; rw [if_neg (by rw [HK.out]; decide), if_neg (by rw [HK.out]; decide), if_pos HK.out]; rfl
  · rw [List.mem_singleton.1 hY]; exact (have hbz := hba.alloc hba.size (.cells cs 40); ⟨HR.out.ln, HR.out.bm, HR.out.bx, HR.out.lo, HR.out.bn, HR.out.bo, HR.out.rB.below hbz, HR.out.rA.below hbz, rfl, bp, by simp⟩)


set_option maxRecDepth 100000 in
set_option maxHeartbeats 40000000 in
theorem inv_4 (D : OpD) (A : Option Addr) (n c : Nat) (B : Option Addr) (m d : Nat) (w : World) (hR : OpR w D A n B m) (hk : D.k = 4) :
    Calls Try.prog 10 #[.agg (opC D A n c B m d)] w fun e w' => InvQ w w' D e := by
  have hba := (Below.refl w.heap.size w).alloc (Nat.le_refl _) (.cells (opC D A n c B m d) 40)
  have hx := OpX.new w D A n c B m d
  have q0 := hx.c0
  have q1 := hx.c1
  have q2 := hx.c2
  have q3 := hx.c3
  have q4 := hx.c4
  have q5 := hx.c5
  have HR := hid hR
  have bp := hR.bp
  have bt := hR.bt
  rw [hk] at q0
  have HK := hid hk
  clear hk
  clear hR
  go_enter Try.func10, Try.ntmps10
  go_upto_region 1 with (fail)
  generalize w.alloc (.cells (opC D A n c B m d) 40) = W0 at *
  go_wp2_with (first
    | (with_reducible refine wpList_bldM rfl _ _ rfl D.t D.p rfl rfl ?_)
    | (with_reducible refine wpList_build1o rfl _ rfl _ (opC_size _ _ _ _ _ _ _ rfl) rfl ?_; intro cs hrg))
  go_ret
  refine ⟨W0.heap.size, [⟨⟨4, D.t, D.p, 0, [], [], zeroB, 0⟩, none, 0, 0, none, 0, 0⟩], ?_, ?_, OpRd.one (X := ⟨⟨4, D.t, D.p, 0, [], [], zeroB, 0⟩, none, 0, 0, none, 0, 0⟩) hrg rfl, fun Y hY => ?_, hba.alloc hba.size _⟩
  · unfold invD; rw [if_neg (by rw [HK.out]; decide), if_neg (by rw [HK.out]; decide), if_neg (by rw [HK.out]; decide)]; rfl
  · unfold invD; rw [if_neg (by rw [HK.out]; decide), if_neg (by rw [HK.out]; decide), if_neg (by rw [HK.out]; decide)]; rfl
  · rw [List.mem_singleton.1 hY]; exact OpR.path bt bp


theorem rinv_any (D : OpD) (A : Option Addr) (n c : Nat) (B : Option Addr) (m d : Nat) (w : World) (hR : OpR w D A n B m) (hk : 1 ≤ D.k ∧ D.k ≤ 4) :
    Calls Try.prog 10 #[.agg (opC D A n c B m d)] w fun e w' => InvQ w w' D e := by
  by_cases e1 : D.k = 1
  · exact inv_1 D A n c B m d w hR e1
  · by_cases e2 : D.k = 2
    · by_cases h0 : D.o = []
      · exact inv_2a D A n c B m d w hR e2 h0
      · exact inv_2b D A n c B m d w hR e2 h0
    · by_cases e3 : D.k = 3
      · exact inv_3 D A n c B m d w hR e3
      · exact inv_4 D A n c B m d w hR (by omega)

end Go.Proofs.Ytodfaakodgedbaa

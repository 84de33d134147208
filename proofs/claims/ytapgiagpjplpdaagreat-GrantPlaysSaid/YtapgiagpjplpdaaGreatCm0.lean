
/- commute: two Edits of one path; paths; paths beside one another. -/
import Derived.Test.YtapgiagpjplpdaaGreatOpA
import Derived.Test.YtapgiagpjplpdaaGreatHk13
set_option linter.unusedSimpArgs false
set_option linter.unusedVariables false
namespace Go.Proofs.YtapgiagpjplpdaaGreat
open Go.RowKit Go.Qc Go.Shelf
attribute [local go_sem] txt_size txt_append ib_fold txt_toL

/-- Where an operation needs a right. -/
def pthD (D : OpD) : List (List UInt8) := if D.k = 4 then [D.p, D.t] else [D.p]
/-- Two operations' boxes. -/
structure Op2 (w W : World) (D : OpD) (A : Option Addr) (n c : Nat) (B : Option Addr) (m d : Nat) (E : OpD) (A2 : Option Addr) (n2 c2 : Nat) (B2 : Option Addr) (m2 d2 : Nat) : Prop where
  a : OpX W w.heap.size D A n c B m d
  b : OpX W (w.heap.size + 1) E A2 n2 c2 B2 m2 d2
  x : Below w.heap.size w W
section
variable {w W W' : World} {D : OpD} {A : Option Addr} {n c : Nat} {B : Option Addr} {m d : Nat} {E : OpD} {A2 : Option Addr} {n2 c2 : Nat} {B2 : Option Addr} {m2 d2 : Nat}
theorem Op2.below (h : Op2 w W D A n c B m d E A2 n2 c2 B2 m2 d2) (hb : Below W.heap.size W W') : Op2 w W' D A n c B m d E A2 n2 c2 B2 m2 d2 := ⟨h.a.below hb, h.b.below hb, h.x.trans (hb.mono h.x.size)⟩
theorem Op2.gb (h : Op2 w W D A n c B m d E A2 n2 c2 B2 m2 d2) {g : Nat} (hg : W.grownBy W' (some g)) (hn : w.heap.size + 2 ≤ g) : Op2 w W' D A n c B m d E A2 n2 c2 B2 m2 d2 :=
  ⟨⟨blk_gb h.a.b hg (by omega)⟩, ⟨blk_gb h.b.b hg (by omega)⟩, h.x.trans (below_of_gb hg (by omega) h.x.size)⟩
end
theorem Op2.new (w : World) (D : OpD) (A : Option Addr) (n c : Nat) (B : Option Addr) (m d : Nat) (E : OpD) (A2 : Option Addr) (n2 c2 : Nat) (B2 : Option Addr) (m2 d2 : Nat) : Op2 w ((w.alloc (.cells (opC D A n c B m d) 34)).alloc (.cells (opC E A2 n2 c2 B2 m2 d2) 34)) D A n c B m d E A2 n2 c2 B2 m2 d2 := by
  have h := OpX.new w D A n c B m d
  have k := OpX.new (w.alloc (.cells (opC D A n c B m d) 34)) E A2 n2 c2 B2 m2 d2
  have e : (w.alloc (.cells (opC D A n c B m d) 34)).heap.size = w.heap.size + 1 := by simp
  rw [e] at k
  exact ⟨h.alloc _, k, ((Below.refl _ w).alloc (Nat.le_refl _) _).alloc (by simp) _⟩

theorem field_to (a b c d e f : Bool) (W : World) : (Instr.field 80 (.agg #[.bool a, .bool b, .bool c, .bool d, .bool e, .bool f]) 0).run Tryz.prog W = .ok (.bool a) W := by kernel_rfl

set_option maxRecDepth 100000 in
set_option maxHeartbeats 8000000 in
theorem opaths_4 (D : OpD) (A : Option Addr) (n c : Nat) (B : Option Addr) (m d : Nat) (w : World) (hK : D.K.length = 32) (cR : ∀ W, Below w.heap.size w W → Calls Tryz.prog 24 #[.agg (opC D A n c B m d)] W fun o w' => o = .returned (.int .i64 0) ∧ Below W.heap.size W w') (hk : D.k = 4) :
    Calls Tryz.prog 26 #[.agg (opC D A n c B m d)] w fun o w' => ∃ A1 n1, o = .returned (.slice A1 n1 n1) ∧ (pthD D).length = n1 ∧ n1 ≤ 2 ∧ Rd w' A1 ((pthD D).map strV) ∧ Below w.heap.size w w' := by
  have hB : Below w.heap.size w (w.alloc (.cells (opC D A n c B m d) 34)) := (Below.refl _ w).alloc (Nat.le_refl _) _
  have hX := OpX.new w D A n c B m d
  have hl : (pthD D).length = 2 := by unfold pthD; rw [if_pos hk]; rfl
  have hv : (pthD D).map strV = [.string (txt D.p), .string (txt D.t)] := by unfold pthD; rw [if_pos hk]; rfl
  rw [hv]
  have HL := hid hl
  have x0 := hX.c0
  have x1 := hX.c1
  have x2 := hX.c2
  have cH : ∀ W, Calls Tryz.prog 47 #[.int .i64 D.k] W fun o w' => o = .returned (.agg (hasV D.k)) ∧ Below W.heap.size W w' := fun W => has_any D.k W
  unfold hasV at cH
  have hf := field_to
  rw [decide_eq_true hk] at cH
  clear hl hv hk
  go_enter Tryz.func26, Tryz.ntmps26
  go_wp2_with (first
    | (with_reducible refine wpList_load_opx (by with_unfolding_all rfl) _ rfl _ rfl hX hK ?_)
    | (go_at_call 24; (with_reducible refine (cR _ hB).mono ?_); rintro o1 w1 ⟨rfl, hb⟩; replace hX := hX.below hb; replace hB := hB.trans (hb.mono hB.size); clear hb; clear x0 x1 x2; have x0 := hX.c0; have x1 := hX.c1; have x2 := hX.c2)
    | (go_at_call 47; (with_reducible refine (cH _).mono ?_); rintro o1 w1 ⟨rfl, hb⟩; replace hX := hX.below hb; replace hB := hB.trans (hb.mono hB.size); clear hb; clear x0 x1 x2; have x0 := hX.c0; have x1 := hX.c1; have x2 := hX.c2))
  have hz := fun W => Blk.new W 9 #[.string (txt D.p), .string (txt D.t)]
  go_ret
  exact ⟨_, _, rfl, HL.out, by decide, Rd.blk (hz _) (fun j u hu => by simpa using hu), hB.alloc hB.size _⟩

set_option maxRecDepth 100000 in
set_option maxHeartbeats 8000000 in
theorem opaths_o (D : OpD) (A : Option Addr) (n c : Nat) (B : Option Addr) (m d : Nat) (w : World) (hK : D.K.length = 32) (cR : ∀ W, Below w.heap.size w W → Calls Tryz.prog 24 #[.agg (opC D A n c B m d)] W fun o w' => o = .returned (.int .i64 0) ∧ Below W.heap.size W w') (hk : ¬ D.k = 4) :
    Calls Tryz.prog 26 #[.agg (opC D A n c B m d)] w fun o w' => ∃ A1 n1, o = .returned (.slice A1 n1 n1) ∧ (pthD D).length = n1 ∧ n1 ≤ 2 ∧ Rd w' A1 ((pthD D).map strV) ∧ Below w.heap.size w w' := by
  have hB : Below w.heap.size w (w.alloc (.cells (opC D A n c B m d) 34)) := (Below.refl _ w).alloc (Nat.le_refl _) _
  have hX := OpX.new w D A n c B m d
  have hl : (pthD D).length = 1 := by unfold pthD; rw [if_neg hk]; rfl
  have hv : (pthD D).map strV = [.string (txt D.p)] := by unfold pthD; rw [if_neg hk]; rfl
  rw [hv]
  have HL := hid hl
  have x0 := hX.c0
  have x1 := hX.c1
  have cH : ∀ W, Calls Tryz.prog 47 #[.int .i64 D.k] W fun o w' => o = .returned (.agg (hasV D.k)) ∧ Below W.heap.size W w' := fun W => has_any D.k W
  unfold hasV at cH
  have hf := field_to
  rw [decide_eq_false hk] at cH
  clear hl hv hk
  go_enter Tryz.func26, Tryz.ntmps26
  go_wp2_with (first
    | (with_reducible refine wpList_load_opx (by with_unfolding_all rfl) _ rfl _ rfl hX hK ?_)
    | (go_at_call 24; (with_reducible refine (cR _ hB).mono ?_); rintro o1 w1 ⟨rfl, hb⟩; replace hX := hX.below hb; replace hB := hB.trans (hb.mono hB.size); clear hb; clear x0 x1; have x0 := hX.c0; have x1 := hX.c1)
    | (go_at_call 47; (with_reducible refine (cH _).mono ?_); rintro o1 w1 ⟨rfl, hb⟩; replace hX := hX.below hb; replace hB := hB.trans (hb.mono hB.size); clear hb; clear x0 x1; have x0 := hX.c0; have x1 := hX.c1))
  have hz := fun W => Blk.new W 9 #[.string (txt D.p)]
  go_ret
  exact ⟨_, _, rfl, HL.out, by decide, Rd.blk (hz _) (fun j u hu => by simpa using hu), hB.alloc hB.size _⟩

theorem opaths_any (D : OpD) (A : Option Addr) (n c : Nat) (B : Option Addr) (m d : Nat) (w : World) (hK : D.K.length = 32) (cR : ∀ W, Below w.heap.size w W → Calls Tryz.prog 24 #[.agg (opC D A n c B m d)] W fun o w' => o = .returned (.int .i64 0) ∧ Below W.heap.size W w') :
    Calls Tryz.prog 26 #[.agg (opC D A n c B m d)] w fun o w' => ∃ A1 n1, o = .returned (.slice A1 n1 n1) ∧ (pthD D).length = n1 ∧ n1 ≤ 2 ∧ Rd w' A1 ((pthD D).map strV) ∧ Below w.heap.size w w' := by
  by_cases hk : D.k = 4
  · exact opaths_4 D A n c B m d w hK cR hk
  · exact opaths_o D A n c B m d w hK cR hk

set_option maxRecDepth 100000 in
set_option maxHeartbeats 8000000 in
theorem rpaths_4 (D : OpD) (A : Option Addr) (n c : Nat) (B : Option Addr) (m d : Nat) (w : World) (hK : D.K.length = 32) (hk : D.k = 4) :
    Calls Tryz.prog 29 #[.agg (opC D A n c B m d)] w fun o w' => ∃ A1 n1, o = .returned (.slice A1 n1 n1) ∧ (pthD D).length = n1 ∧ n1 ≤ 2 ∧ Rd w' A1 ((pthD D).map strV) ∧ Below w.heap.size w w' := by
  have hB : Below w.heap.size w (w.alloc (.cells (opC D A n c B m d) 34)) := (Below.refl _ w).alloc (Nat.le_refl _) _
  have hX := OpX.new w D A n c B m d
  have hl : (pthD D).length = 2 := by unfold pthD; rw [if_pos hk]; rfl
  have hv : (pthD D).map strV = [.string (txt D.p), .string (txt D.t)] := by unfold pthD; rw [if_pos hk]; rfl
  rw [hv]
  have HL := hid hl
  have x0 := hX.c0
  have x1 := hX.c1
  have x2 := hX.c2
  have z4 : (D.k == 4) = true := by simpa using hk
  clear hl hv
  go_enter Tryz.func29, Tryz.ntmps29
  go_wp2_with (first
    | (with_reducible refine wpList_load_opx (by with_unfolding_all rfl) _ rfl _ rfl hX hK ?_)
    | (fail))
  have hz := Blk.new (w.alloc (.cells (opC D A n c B m d) 34)) 9 #[.string (txt D.p), .string (txt D.t)]
  have ez : (w.alloc (.cells (opC D A n c B m d) 34)).heap.size = w.heap.size + 1 := by simp
  rw [ez] at hz
  go_ret
  exact ⟨_, _, rfl, HL.out, by decide, Rd.blk hz (fun j u hu => by simpa using hu), hB.alloc hB.size _⟩

set_option maxRecDepth 100000 in
set_option maxHeartbeats 8000000 in
theorem rpaths_o (D : OpD) (A : Option Addr) (n c : Nat) (B : Option Addr) (m d : Nat) (w : World) (hK : D.K.length = 32) (hk : ¬ D.k = 4) :
    Calls Tryz.prog 29 #[.agg (opC D A n c B m d)] w fun o w' => ∃ A1 n1, o = .returned (.slice A1 n1 n1) ∧ (pthD D).length = n1 ∧ n1 ≤ 2 ∧ Rd w' A1 ((pthD D).map strV) ∧ Below w.heap.size w w' := by
  have hB : Below w.heap.size w (w.alloc (.cells (opC D A n c B m d) 34)) := (Below.refl _ w).alloc (Nat.le_refl _) _
  have hX := OpX.new w D A n c B m d
  have hl : (pthD D).length = 1 := by unfold pthD; rw [if_neg hk]; rfl
  have hv : (pthD D).map strV = [.string (txt D.p)] := by unfold pthD; rw [if_neg hk]; rfl
  rw [hv]
  have HL := hid hl
  have x0 := hX.c0
  have x1 := hX.c1
  have z4 : (D.k == 4) = false := by simpa using hk
  clear hl hv
  go_enter Tryz.func29, Tryz.ntmps29
  go_wp2_with (first
    | (with_reducible refine wpList_load_opx (by with_unfolding_all rfl) _ rfl _ rfl hX hK ?_)
    | (fail))
  have hz := Blk.new (w.alloc (.cells (opC D A n c B m d) 34)) 9 #[.string (txt D.p)]
  have ez : (w.alloc (.cells (opC D A n c B m d) 34)).heap.size = w.heap.size + 1 := by simp
  rw [ez] at hz
  go_ret
  exact ⟨_, _, rfl, HL.out, by decide, Rd.blk hz (fun j u hu => by simpa using hu), hB.alloc hB.size _⟩

theorem rpaths_any (D : OpD) (A : Option Addr) (n c : Nat) (B : Option Addr) (m d : Nat) (w : World) (hK : D.K.length = 32) :
    Calls Tryz.prog 29 #[.agg (opC D A n c B m d)] w fun o w' => ∃ A1 n1, o = .returned (.slice A1 n1 n1) ∧ (pthD D).length = n1 ∧ n1 ≤ 2 ∧ Rd w' A1 ((pthD D).map strV) ∧ Below w.heap.size w w' := by
  by_cases hk : D.k = 4
  · exact rpaths_4 D A n c B m d w hK hk
  · exact rpaths_o D A n c B m d w hK hk

end Go.Proofs.YtapgiagpjplpdaaGreat

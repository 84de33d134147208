
/- commute: two Edits of one path; paths; paths beside one another. -/
import Derived.Test.YtmfngampccpkhaaOpA
import Derived.Test.YtmfngampccpkhaaHk13
set_option linter.unusedSimpArgs false
set_option linter.unusedVariables false
namespace Go.Proofs.Ytmfngampccpkhaa
open Go.RowKit Go.Qc Go.Shelf
attribute [local go_sem] txt_size txt_append ib_fold txt_toL

/-- Two Edits of one path. -/
def togB (D E : OpD) : Bool := decide (D.k = 3) && (decide (E.k = 3) && decide (D.p = E.p))
/-- About rights. -/
def polB (D : OpD) : Bool := decide (D.k = 5 ∨ D.k = 6)
/-- Where an operation needs a right. -/
def pthD (D : OpD) : List (List UInt8) := if D.k = 4 then [D.p, D.t] else [D.p]
/-- Two operations' boxes. -/
structure Op2 (w W : World) (D : OpD) (A : Option Addr) (n c : Nat) (B : Option Addr) (m d : Nat) (E : OpD) (A2 : Option Addr) (n2 c2 : Nat) (B2 : Option Addr) (m2 d2 : Nat) : Prop where
  a : OpX W w.heap.size D A n c B m d
  b : OpX W (w.heap.size + 1) E A2 n2 c2 B2 m2 d2
  x : Below w.heap.size w W
section
variable {w W W' : World} {D : OpD} {A : Option Addr} {n c : Nat} {B : Option Addr} {m d : Nat} {E : OpD} {A2 : Option Addr} {n2 c2 : Nat} {B2 : Option Addr} {m2 d2 : Nat}
theorem Op2.below (h : Op2 w W D A n c B m d E A2 n2 c2 B2 m2 d2) (hb : Below W.heap.size W W') : Op2 w W' D A n c B m d E A2 n2 c2 B2 m2 d2 := ⟨h.a.below hb, h.b.below hb, h.x.trans (hb.mono h.x.size)⟩
theorem Op2.gb (h : Op2 w W D A n c B m d E A2 n2 c2 B2 m2 d2) {g : Nat} (hg : W.grownBy W' (some g)) (hn : w.heap.size + 2 ≤ g) : Op2 w W' D A n c B m d E A2 n2 c2 B2 m2 d2 :=
  ⟨⟨blk_gb h.a.b hg (by omega)⟩, ⟨blk_gb h.b.b hg (by omega)⟩, h.x.trans (below_of_gb hg (by omega) h.x.size)⟩
end
theorem Op2.new (w : World) (D : OpD) (A : Option Addr) (n c : Nat) (B : Option Addr) (m d : Nat) (E : OpD) (A2 : Option Addr) (n2 c2 : Nat) (B2 : Option Addr) (m2 d2 : Nat) : Op2 w ((w.alloc (.cells (opC D A n c B m d) 42)).alloc (.cells (opC E A2 n2 c2 B2 m2 d2) 42)) D A n c B m d E A2 n2 c2 B2 m2 d2 := by
  have h := OpX.new w D A n c B m d
  have k := OpX.new (w.alloc (.cells (opC D A n c B m d) 42)) E A2 n2 c2 B2 m2 d2
  have e : (w.alloc (.cells (opC D A n c B m d) 42)).heap.size = w.heap.size + 1 := by simp
  rw [e] at k
  exact ⟨h.alloc _, k, ((Below.refl _ w).alloc (Nat.le_refl _) _).alloc (by simp) _⟩

set_option maxRecDepth 100000 in
set_option maxHeartbeats 8000000 in
theorem tog_a (D : OpD) (A : Option Addr) (n c : Nat) (B : Option Addr) (m d : Nat) (E : OpD) (A2 : Option Addr) (n2 c2 : Nat) (B2 : Option Addr) (m2 d2 : Nat) (w : World) (h3 : ¬ D.k = 3) :
    Calls Try.prog 23 #[.agg (opC D A n c B m d), .agg (opC E A2 n2 c2 B2 m2 d2)] w fun o w' => o = .returned (.bool false) ∧ Below w.heap.size w w' := by
  have hh := Op2.new w D A n c B m d E A2 n2 c2 B2 m2 d2
  have hB := hh.x
  have x0 := hh.a.c0
  have y0 := hh.b.c0
  have x1 := hh.a.c1
  have y1 := hh.b.c1
  have z3 : (D.k == 3) = false := by simpa using h3
  clear hh
  go_enter Try.func23, Try.ntmps23
  go_wp2
  go_ret
  exact ⟨rfl, hB⟩

set_option maxRecDepth 100000 in
set_option maxHeartbeats 8000000 in
theorem tog_b (D : OpD) (A : Option Addr) (n c : Nat) (B : Option Addr) (m d : Nat) (E : OpD) (A2 : Option Addr) (n2 c2 : Nat) (B2 : Option Addr) (m2 d2 : Nat) (w : World) (h3 : D.k = 3) (h4 : ¬ E.k = 3) :
    Calls Try.prog 23 #[.agg (opC D A n c B m d), .agg (opC E A2 n2 c2 B2 m2 d2)] w fun o w' => o = .returned (.bool false) ∧ Below w.heap.size w w' := by
  have hh := Op2.new w D A n c B m d E A2 n2 c2 B2 m2 d2
  have hB := hh.x
  have x0 := hh.a.c0
  have y0 := hh.b.c0
  have x1 := hh.a.c1
  have y1 := hh.b.c1
  have z3 : (D.k == 3) = true := by simpa using h3
  have z4 : (E.k == 3) = false := by simpa using h4
  clear hh
  go_enter Try.func23, Try.ntmps23
  go_wp2
  go_ret
  exact ⟨rfl, hB⟩

set_option maxRecDepth 100000 in
set_option maxHeartbeats 8000000 in
theorem tog_c (D : OpD) (A : Option Addr) (n c : Nat) (B : Option Addr) (m d : Nat) (E : OpD) (A2 : Option Addr) (n2 c2 : Nat) (B2 : Option Addr) (m2 d2 : Nat) (w : World) (h3 : D.k = 3) (h4 : E.k = 3) (hp : ¬ D.p = E.p) :
    Calls Try.prog 23 #[.agg (opC D A n c B m d), .agg (opC E A2 n2 c2 B2 m2 d2)] w fun o w' => o = .returned (.bool false) ∧ Below w.heap.size w w' := by
  have hh := Op2.new w D A n c B m d E A2 n2 c2 B2 m2 d2
  have hB := hh.x
  have x0 := hh.a.c0
  have y0 := hh.b.c0
  have x1 := hh.a.c1
  have y1 := hh.b.c1
  have z3 : (D.k == 3) = true := by simpa using h3
  have z4 : (E.k == 3) = true := by simpa using h4
  have z5 : (D.p == E.p) = false := by simpa using hp
  clear hh
  go_enter Try.func23, Try.ntmps23
  go_wp2
  go_ret
  exact ⟨rfl, hB⟩

set_option maxRecDepth 100000 in
set_option maxHeartbeats 8000000 in
theorem tog_d (D : OpD) (A : Option Addr) (n c : Nat) (B : Option Addr) (m d : Nat) (E : OpD) (A2 : Option Addr) (n2 c2 : Nat) (B2 : Option Addr) (m2 d2 : Nat) (w : World) (h3 : D.k = 3) (h4 : E.k = 3) (hp : D.p = E.p) :
    Calls Try.prog 23 #[.agg (opC D A n c B m d), .agg (opC E A2 n2 c2 B2 m2 d2)] w fun o w' => o = .returned (.bool true) ∧ Below w.heap.size w w' := by
  have hh := Op2.new w D A n c B m d E A2 n2 c2 B2 m2 d2
  have hB := hh.x
  have x0 := hh.a.c0
  have y0 := hh.b.c0
  have x1 := hh.a.c1
  have y1 := hh.b.c1
  have z3 : (D.k == 3) = true := by simpa using h3
  have z4 : (E.k == 3) = true := by simpa using h4
  have z5 : (D.p == E.p) = true := by simpa using hp
  clear hh
  go_enter Try.func23, Try.ntmps23
  go_wp2
  go_ret
  exact ⟨rfl, hB⟩

theorem together_any (D : OpD) (A : Option Addr) (n c : Nat) (B : Option Addr) (m d : Nat) (E : OpD) (A2 : Option Addr) (n2 c2 : Nat) (B2 : Option Addr) (m2 d2 : Nat) (w : World) :
    Calls Try.prog 23 #[.agg (opC D A n c B m d), .agg (opC E A2 n2 c2 B2 m2 d2)] w fun o w' => o = .returned (.bool (togB D E)) ∧ Below w.heap.size w w' := by
  unfold togB
  by_cases h3 : D.k = 3
  · by_cases h4 : E.k = 3
    · by_cases hp : D.p = E.p
      · rw [decide_eq_true h3, decide_eq_true h4, decide_eq_true hp]
        exact tog_d D A n c B m d E A2 n2 c2 B2 m2 d2 w h3 h4 hp
      · rw [decide_eq_true h3, decide_eq_true h4, decide_eq_false hp]
        exact tog_c D A n c B m d E A2 n2 c2 B2 m2 d2 w h3 h4 hp
    · rw [decide_eq_true h3, decide_eq_false h4]
      exact tog_b D A n c B m d E A2 n2 c2 B2 m2 d2 w h3 h4
  · rw [decide_eq_false h3]
    exact tog_a D A n c B m d E A2 n2 c2 B2 m2 d2 w h3

theorem field_to (a b c d e f : Bool) (W : World) : (Instr.field 83 (.agg #[.bool a, .bool b, .bool c, .bool d, .bool e, .bool f]) 0).run Try.prog W = .ok (.bool a) W := by kernel_rfl

set_option maxRecDepth 100000 in
set_option maxHeartbeats 8000000 in
theorem opaths_4 (D : OpD) (A : Option Addr) (n c : Nat) (B : Option Addr) (m d : Nat) (w : World) (hK : D.K.length = 32) (cR : ∀ W, Below w.heap.size w W → Calls Try.prog 21 #[.agg (opC D A n c B m d)] W fun o w' => o = .returned (.int .i64 0) ∧ Below W.heap.size W w') (hk : D.k = 4) :
    Calls Try.prog 27 #[.agg (opC D A n c B m d)] w fun o w' => ∃ A1 n1, o = .returned (.slice A1 n1 n1) ∧ (pthD D).length = n1 ∧ n1 ≤ 2 ∧ Rd w' A1 ((pthD D).map strV) ∧ Below w.heap.size w w' := by
  have hB : Below w.heap.size w (w.alloc (.cells (opC D A n c B m d) 42)) := (Below.refl _ w).alloc (Nat.le_refl _) _
  have hX := OpX.new w D A n c B m d
  have hl : (pthD D).length = 2 := by unfold pthD; rw [if_pos hk]; rfl
  have hv : (pthD D).map strV = [.string (txt D.p), .string (txt D.t)] := by unfold pthD; rw [if_pos hk]; rfl
  rw [hv]
  have HL := hid hl
  have x0 := hX.c0
  have x1 := hX.c1
  have x2 := hX.c2
  have cH : ∀ W, Calls Try.prog 47 #[.int .i64 D.k] W fun o w' => o = .returned (.agg (hasV D.k)) ∧ Below W.heap.size W w' := fun W => has_any D.k W
  unfold hasV at cH
  have hf := field_to
  rw [decide_eq_true hk] at cH
  clear hl hv hk
  go_enter Try.func27, Try.ntmps27
  go_wp2_with (first
    | (with_reducible refine wpList_load_opx (by with_unfolding_all rfl) _ rfl _ rfl hX hK ?_)
    | (go_at_call 21; (with_reducible refine (cR _ hB).mono ?_); rintro o1 w1 ⟨rfl, hb⟩; replace hX := hX.below hb; replace hB := hB.trans (hb.mono hB.size); clear hb; clear x0 x1 x2; have x0 := hX.c0; have x1 := hX.c1; have x2 := hX.c2)
    | (go_at_call 47; (with_reducible refine (cH _).mono ?_); rintro o1 w1 ⟨rfl, hb⟩; replace hX := hX.below hb; replace hB := hB.trans (hb.mono hB.size); clear hb; clear x0 x1 x2; have x0 := hX.c0; have x1 := hX.c1; have x2 := hX.c2))
  have hz := fun W => Blk.new W 9 #[.string (txt D.p), .string (txt D.t)]
  go_ret
  exact ⟨_, _, rfl, HL.out, by decide, Rd.blk (hz _) (fun j u hu => by simpa using hu), hB.alloc hB.size _⟩

set_option maxRecDepth 100000 in
set_option maxHeartbeats 8000000 in
theorem opaths_o (D : OpD) (A : Option Addr) (n c : Nat) (B : Option Addr) (m d : Nat) (w : World) (hK : D.K.length = 32) (cR : ∀ W, Below w.heap.size w W → Calls Try.prog 21 #[.agg (opC D A n c B m d)] W fun o w' => o = .returned (.int .i64 0) ∧ Below W.heap.size W w') (hk : ¬ D.k = 4) :
    Calls Try.prog 27 #[.agg (opC D A n c B m d)] w fun o w' => ∃ A1 n1, o = .returned (.slice A1 n1 n1) ∧ (pthD D).length = n1 ∧ n1 ≤ 2 ∧ Rd w' A1 ((pthD D).map strV) ∧ Below w.heap.size w w' := by
  have hB : Below w.heap.size w (w.alloc (.cells (opC D A n c B m d) 42)) := (Below.refl _ w).alloc (Nat.le_refl _) _
  have hX := OpX.new w D A n c B m d
  have hl : (pthD D).length = 1 := by unfold pthD; rw [if_neg hk]; rfl
  have hv : (pthD D).map strV = [.string (txt D.p)] := by unfold pthD; rw [if_neg hk]; rfl
  rw [hv]
  have HL := hid hl
  have x0 := hX.c0
  have x1 := hX.c1
  have cH : ∀ W, Calls Try.prog 47 #[.int .i64 D.k] W fun o w' => o = .returned (.agg (hasV D.k)) ∧ Below W.heap.size W w' := fun W => has_any D.k W
  unfold hasV at cH
  have hf := field_to
  rw [decide_eq_false hk] at cH
  clear hl hv hk
  go_enter Try.func27, Try.ntmps27
  go_wp2_with (first
    | (with_reducible refine wpList_load_opx (by with_unfolding_all rfl) _ rfl _ rfl hX hK ?_)
    | (go_at_call 21; (with_reducible refine (cR _ hB).mono ?_); rintro o1 w1 ⟨rfl, hb⟩; replace hX := hX.below hb; replace hB := hB.trans (hb.mono hB.size); clear hb; clear x0 x1; have x0 := hX.c0; have x1 := hX.c1)
    | (go_at_call 47; (with_reducible refine (cH _).mono ?_); rintro o1 w1 ⟨rfl, hb⟩; replace hX := hX.below hb; replace hB := hB.trans (hb.mono hB.size); clear hb; clear x0 x1; have x0 := hX.c0; have x1 := hX.c1))
  have hz := fun W => Blk.new W 9 #[.string (txt D.p)]
  go_ret
  exact ⟨_, _, rfl, HL.out, by decide, Rd.blk (hz _) (fun j u hu => by simpa using hu), hB.alloc hB.size _⟩

theorem opaths_any (D : OpD) (A : Option Addr) (n c : Nat) (B : Option Addr) (m d : Nat) (w : World) (hK : D.K.length = 32) (cR : ∀ W, Below w.heap.size w W → Calls Try.prog 21 #[.agg (opC D A n c B m d)] W fun o w' => o = .returned (.int .i64 0) ∧ Below W.heap.size W w') :
    Calls Try.prog 27 #[.agg (opC D A n c B m d)] w fun o w' => ∃ A1 n1, o = .returned (.slice A1 n1 n1) ∧ (pthD D).length = n1 ∧ n1 ≤ 2 ∧ Rd w' A1 ((pthD D).map strV) ∧ Below w.heap.size w w' := by
  by_cases hk : D.k = 4
  · exact opaths_4 D A n c B m d w hK cR hk
  · exact opaths_o D A n c B m d w hK cR hk

theorem bes1_any (s t : List UInt8) (g : Nat) (w : World) (hc : w.cell? ⟨g, 0, none⟩ = some (.string (txt s))) :
    Calls Try.prog 45 #[.string (txt t), .pointer (some ⟨g, 0, none⟩)] w fun e w' => e = .returned (.bool (!besR s t)) ∧ Below w.heap.size w w' := by
  go_enter Try.func45, Try.ntmps45
  go_wp2_with (go_at_call 46; (with_reducible refine (beside_any s t _).mono ?_); rintro e1 w1 ⟨rfl, hb⟩)
  go_ret
  exact ⟨rfl, hb⟩
set_option maxRecDepth 100000 in
set_option maxHeartbeats 8000000 in
theorem besIdx_any (A : Option Addr) (n c : Nat) (ps : List (List UInt8)) (hn : ps.length = n) (bn : n ≤ 1000000) (s : List UInt8) (g : Nat) (w : World) (hr : Rd w A (ps.map strV)) (hc : w.cell? ⟨g, 0, none⟩ = some (.string (txt s))) :
    Calls Try.prog 63 #[.slice A n c, .func (.func 45) #[] #[.pointer (some ⟨g, 0, none⟩)]] w fun e w' => (∃ z : Int, e = .returned (.int .i64 z) ∧ (ps.all (besR s) = true ∧ z = -1 ∨ ps.all (besR s) = false ∧ 0 ≤ z)) ∧ Below w.heap.size w w' := by
  have hg := enters_of Try.func45 (by kernel_rfl) rfl
  go_enter Try.func63, Try.ntmps63
  go_wp2
  go_loopw [8] (fun i wr => ∃ k : Nat, k ≤ n ∧ i = .int .i64 k ∧ (ps.take k).all (besR s) = true ∧ Below w.heap.size w wr) (fun i _ => n - (intOf i).toNat)
  case atStart => exact ⟨0, by omega, rfl, by simp, Below.refl _ _⟩
  case round =>
    obtain ⟨k, hk, rfl, ht, hb⟩ := hrel
    have HT := hid ht
    clear ht
    by_cases hlt : k < n
    · obtain ⟨p, hpk⟩ : ∃ p, ps[k]? = some p := ⟨_, List.getElem?_eq_getElem (by omega)⟩
      obtain ⟨ad, rfl, hcell⟩ := rd_in (hr.below hb) k (strV p) (by rw [List.getElem?_map, hpk]; rfl)
      unfold strV at hcell
      have HP := hid hpk
      have b1 : (k : Int) < n := by omega
      have cB := fun W hW => bes1_any s p g W hW
      have hc2 := Below.keep hb hc
      clear hpk
      cases hbs : besR s p with
      | true =>
        rw [hbs] at cB
        have HB := hid hbs
        clear hbs
        go_wp2_with ((with_reducible refine (cB _ hc2).mono ?_); rintro e1 w1 ⟨rfl, hb1⟩)
        go_roundw
        case rel => exact ⟨k + 1, hlt, by go_num, by rw [take_snoc HP.out, List.all_append, HT.out]; simp [HB.out], hb.trans (hb1.mono hb.size)⟩
        case measure => simp [intOf]; omega
      | false =>
        rw [hbs] at cB
        have HB := hid hbs
        clear hbs
        go_wp2_with ((with_reducible refine (cB _ hc2).mono ?_); rintro e1 w1 ⟨rfl, hb1⟩)
        go_ret
        refine ⟨⟨_, rfl, .inr ⟨?_, by omega⟩⟩, hb.trans (hb1.mono hb.size)⟩
        rw [List.all_eq_false]
        exact ⟨p, List.mem_of_getElem? HP.out, by simp [HB.out]⟩
    · obtain rfl : k = n := by omega
      have b1 : ¬ (k : Int) < k := by omega
      have ht := HT.out
      rw [List.take_of_length_le (by omega)] at ht
      have HU := hid ht
      clear ht HT
      go_wp2
      go_ret
      exact ⟨⟨_, rfl, .inl ⟨by simpa using HU.out, rfl⟩⟩, hb⟩
theorem besCont_any (A : Option Addr) (n c : Nat) (ps : List (List UInt8)) (hn : ps.length = n) (bn : n ≤ 1000000) (s : List UInt8) (g : Nat) (w : World) (hr : Rd w A (ps.map strV)) (hc : w.cell? ⟨g, 0, none⟩ = some (.string (txt s))) :
    Calls Try.prog 44 #[.slice A n c, .func (.func 45) #[] #[.pointer (some ⟨g, 0, none⟩)]] w fun e w' => e = .returned (.bool (!ps.all (besR s))) ∧ Below w.heap.size w w' := by
  have cI := besIdx_any A n c ps hn bn s g w hr hc
  go_enter Try.func44, Try.ntmps44
  go_wp2_with (go_at_call 63; (with_reducible refine cI.mono ?_); rintro e1 w1 ⟨⟨z, rfl, hz⟩, hb⟩)
  go_ret
  refine ⟨?_, hb⟩
  rcases hz with ⟨h1, rfl⟩ | ⟨h1, h2⟩
  · rw [h1]; rfl
  · rw [h1]; simp [h2]
set_option maxRecDepth 100000 in
set_option maxHeartbeats 8000000 in
theorem besides_any (A : Option Addr) (n c : Nat) (ps : List (List UInt8)) (hn : ps.length = n) (bn : n ≤ 1000000) (B : Option Addr) (m d : Nat) (qs : List (List UInt8)) (hm : qs.length = m) (bm : m ≤ 1000000) (w : World) (hr : Rd w A (ps.map strV)) (hq : Rd w B (qs.map strV)) :
    Calls Try.prog 26 #[.slice A n c, .slice B m d] w fun e w' => e = .returned (.bool (ps.all fun s => qs.all (besR s))) ∧ Below w.heap.size w w' := by
  go_enter Try.func26, Try.ntmps26
  go_wp2
  go_loopw [9] (fun i wr => ∃ k : Nat, k ≤ n ∧ i = .int .i64 k ∧ ((ps.take k).all fun s => qs.all (besR s)) = true ∧ Below w.heap.size w wr) (fun i _ => n - (intOf i).toNat)
  case atStart => exact ⟨0, by omega, rfl, by simp, Below.refl _ _⟩
  case round =>
    obtain ⟨k, hk, rfl, ht, hb⟩ := hrel
    have HT := hid ht
    clear ht
    by_cases hlt : k < n
    · obtain ⟨p, hpk⟩ : ∃ p, ps[k]? = some p := ⟨_, List.getElem?_eq_getElem (by omega)⟩
      obtain ⟨ad, rfl, hcell⟩ := rd_in (hr.below hb) k (strV p) (by rw [List.getElem?_map, hpk]; rfl)
      unfold strV at hcell
      have HP := hid hpk
      have b1 : (k : Int) < n := by omega
      have hba : Below wr.heap.size wr (wr.alloc (.cells #[.string (txt p)] 9)) := (Below.refl _ _).alloc (Nat.le_refl _) _
      have hcc : (wr.alloc (.cells #[.string (txt p)] 9)).cell? ⟨wr.heap.size, 0, none⟩ = some (.string (txt p)) := (Blk.new wr 9 #[.string (txt p)]).cell_ rfl
      have cB := besCont_any B m d qs hm bm p wr.heap.size _ (hq.below (hb.trans (hba.mono hb.size))) hcc
      have hb2 := hb.trans (hba.mono hb.size)
      clear hpk hcc hba
      cases hbs : qs.all (besR p) with
      | true =>
        rw [hbs] at cB
        have HB := hid hbs
        clear hbs
        go_wp2_with (go_at_call 44; (with_reducible refine cB.mono ?_); rintro e1 w1 ⟨rfl, hb1⟩)
        go_roundw
        case rel => exact ⟨k + 1, hlt, by go_num, by rw [take_snoc HP.out, List.all_append, HT.out]; simp [HB.out], hb2.trans (hb1.mono hb2.size)⟩
        case measure => simp [intOf]; omega
      | false =>
        rw [hbs] at cB
        have HB := hid hbs
        clear hbs
        go_wp2_with (go_at_call 44; (with_reducible refine cB.mono ?_); rintro e1 w1 ⟨rfl, hb1⟩)
        go_ret
        have hf : (ps.all fun s => qs.all (besR s)) = false := by
          rw [List.all_eq_false]
          exact ⟨p, List.mem_of_getElem? HP.out, by simp [HB.out]⟩
        exact ⟨congrArg (fun b => Ending.returned (Value.bool b)) hf.symm, hb2.trans (hb1.mono hb2.size)⟩
    · obtain rfl : k = n := by omega
      have b1 : ¬ (k : Int) < k := by omega
      have ht := HT.out
      rw [List.take_of_length_le (by omega)] at ht
      have HU := hid ht
      clear ht HT
      go_wp2
      go_ret
      exact ⟨congrArg (fun b => Ending.returned (Value.bool b)) HU.out.symm, hb⟩
end Go.Proofs.Ytmfngampccpkhaa

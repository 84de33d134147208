
/- diff, of the document: the whole table of counts. -/
import Derived.Test.YtplcfdmehnilnaaDt1
import Derived.Test.YtplcfdmehnilnaaDf6
set_option linter.unusedSimpArgs false
set_option linter.unusedVariables false
namespace Go.Proofs.Ytplcfdmehnilnaa
open Go.RowKit Go.Qc Go.Shelf
attribute [local go_sem] txt_size txt_append ib_fold txt_toL

/-- The table: a row of rows. -/
def TbR (W : World) (base : Nat) (v : Value) (x y : List (List UInt8)) : Prop := ∃ vs : List Value, W.ownsRow base 34 1 v (x.length + 1) vs ∧ ∀ r, r ≤ x.length → ∃ R c', vs[r]? = some (.slice R (y.length + 1) c') ∧ Rd W R (cntL (x.drop r) y)
theorem infoRowD : (Try.prog.info? 34).map (fun i => (i.zero, i.size, i.bytes)) = some (some (.slice none 0 0), 1, 24) := by kernel_rfl
theorem wp_tail_drew {P : Program} {id : Nat} {Q : Exit → Act → World → Prop} {a : Act} {w : World} {l : List Oper} (n : Nat) (hm : P.follows .mixedOrders = true) (hB : Region.lexTailB .any l.toArray n = true)
    (h : wpStill P l.toArray w.drew (fun a' => wpList P l.toArray Q (l.drop n) a' w.drew) (l.take n) a) : (Code.region id l.toArray true).wp P Q a w := wp_region_still_tail n hm hB h
theorem own_one (W : World) (g base : Nat) (v : Value) (hb : base ≤ g) (hk : Blk W g 34 #[v]) : W.ownsRow base 34 1 (.slice (some ⟨g, 0, none⟩) 1 1) 1 [v] :=
  ⟨by simp, .inr ⟨g, 1, #[v], rfl, hb, hk, Nat.le_refl _, by unfold maxLen; decide, rfl, rfl⟩⟩
set_option maxRecDepth 100000 in
set_option maxHeartbeats 4000000 in
theorem rtable_nil (A : Option Addr) (c : Nat) (y : List (List UInt8)) (B : Option Addr) (m d : Nat) (hm : y.length = m) (bm : m ≤ 1000) (w : World) :
    Calls Try.prog 12 #[.slice A 0 c, .slice B m d] w fun e w' => ∃ v, e = .returned v ∧ TbR w' w.heap.size v [] y ∧ Below w.heap.size w w' := by
  obtain ⟨i0, hi, hz0, hz1, hz2⟩ := info_parts infoIntD
  obtain ⟨p, hp⟩ : ∃ p, m + 1 = p := ⟨_, rfl⟩
  have hv1 : IntKind.i64.wrap ((m : Int) + 1) = (p : Int) := by rw [IntKind.wrap_i64]; omega
  have hv2 : wrap64 ((m : Int) + 1) = (p : Int) := by rw [w64_in _ (by omega)]; omega
  have hmk := run_make_n (P := Try.prog) 34 3 i0 (.int .i64 0) Try.underlying34 hi hz0 hz1 .i64 .i64 p (by rw [hz2]; omega) (by omega) w
  simp only [Value.cells] at hmk
  have hnew := rw_new w m p hp
  have hX := (Below.refl w.heap.size w).alloc (Nat.le_refl _) (.cells (madeCells #[.int .i64 0] p) 3)
  have HM := hid hm
  have HP := hid hp
  clear hm hp
  go_enter Try.func12, Try.ntmps12
  go_wp2_with (fail)
  go_ret
  have hX2 := hX.alloc hX.size (.cells #[.slice (some ⟨w.heap.size, 0, none⟩) p p] 34)
  have hk2 := Blk.new (w.alloc (.cells (madeCells #[.int .i64 0] p) 3)) 34 #[.slice (some ⟨w.heap.size, 0, none⟩) p p]
  rw [World.size_alloc] at hk2
  have hno := (HM.out ▸ hnew : RwAt _ _ y.length _).own (base := w.heap.size) (x := []) (y := y) (fun c _ => by rw [lcs_nil]; rfl) (Nat.le_refl _) (by unfold maxLen; have := HM.out; omega)
  obtain ⟨_, R9, c9, e9, rd9⟩ := rowRd hno
  cases e9
  have hpe : y.length + 1 = p := by rw [HM.out, HP.out]
  refine ⟨_, rfl, ⟨_, own_one _ _ _ _ (by simp) hk2, fun r hr => ?_⟩, hX2⟩
  have hr0 : r = 0 := by simpa using hr
  subst hr0
  refine ⟨_, p, by rw [hpe]; rfl, ?_⟩
  exact rd9.below ((Below.refl _ _).alloc (Nat.le_refl _) _)
set_option maxRecDepth 100000 in
set_option maxHeartbeats 4000000 in
theorem rtable_cons (a : List UInt8) (x y : List (List UInt8)) (A : Option Addr) (n c : Nat) (hn : (a :: x).length = n) (bn : n ≤ 1000) (hnc : n ≤ c) (B : Option Addr) (m d : Nat) (hm : y.length = m) (bm : m ≤ 1000) (w : World) (hr : Rd w A ((a :: x).map strV)) (hs : Rd w B (y.map strV))
    (ih : ∀ (A' : Option Addr) (c' : Nat), x.length ≤ c' → Rd w A' (x.map strV) → Calls Try.prog 12 #[.slice A' x.length c', .slice B m d] w fun e w' => ∃ v, e = .returned v ∧ TbR w' w.heap.size v x y ∧ Below w.heap.size w w') :
    Calls Try.prog 12 #[.slice A n c, .slice B m d] w fun e w' => ∃ v, e = .returned v ∧ TbR w' w.heap.size v (a :: x) y ∧ Below w.heap.size w w' := by
  obtain ⟨j0, hj, hjz, hjs, hjb⟩ := info_parts infoRowD
  rw [List.length_cons] at hn
  obtain ⟨ad, rfl, p0⟩ := rd_in hr 0 (strV a) rfl
  have hpc := rd_piece hr 1 x.length c (by omega)
  have hxs : (((a :: x).map strV).drop 1).take x.length = x.map strV := by
    rw [List.map_cons, List.drop_one, List.tail_cons]
    exact List.take_of_length_le (by rw [List.length_map]; exact Nat.le_refl _)
  rw [hxs] at hpc
  have s1 := sl_l (some ad) n c 1 (by omega) hnc
  rw [show ((1 : Nat) : Int) = 1 from rfl] at s1
  have hn1 : n - 1 = x.length := by omega
  rw [hn1] at s1
  have cI := ih (pcA (some ad) 1 c) (c - 1) (by omega) hpc
  have h0 : ¬ n = 0 := by omega
  have h0i : ¬ (n : Int) = 0 := by omega
  have hpos : (0 : Int) < n := by omega
  have hposN : 0 < n := by omega
  have e0 : ad.add 0 = ad := by simp [Addr.add]
  rw [e0] at p0
  unfold strV at p0
  have HS := hid hs
  have HN := hid hn
  have HM := hid hm
  clear hr hpc hxs hs hn1 ih e0 hm hn
  go_enter Try.func12, Try.ntmps12
  go_wp2_with (fail)
  refine cI.mono ?_
  rintro e1 w1 ⟨v, rfl, ⟨vs, hown, hvs⟩, hb1⟩
  obtain ⟨A1, c1, rfl⟩ := own_slice hown
  obtain ⟨R0, f0, hv0, rd0⟩ := hvs 0 (Nat.zero_le _)
  obtain ⟨hvl, A9, c9, e9, rdv⟩ := rowRd hown
  cases e9
  obtain ⟨ad1, rfl, q0⟩ := rd_in rdv 0 _ hv0
  have e1 : ad1.add 0 = ad1 := by simp [Addr.add]
  rw [e1] at q0
  rw [List.drop_zero] at rd0
  have hx0 : 0 < x.length + 1 := by omega
  have hxi : (0 : Int) < (x.length : Int) + 1 := by omega
  have cR := hid (fun W (hb : Below w1.heap.size w1 W) => rrow_any a x y R0 (y.length + 1) f0 rfl B m d HM.out bm (by have := HN.out; omega) W (rd0.below hb) ((HS.out.below hb1).below hb))
  have p1 := Below.keep hb1 p0
  have HVS := hid hvs
  have HOWN := hid hown
  have HRD := hid rdv
  clear hvs hown rdv hv0 rd0 e1 cI
  go_wp2_with (fail)
  refine wp_tail_drew 7 mixed10 (by kernel_rfl) ?_
  simp only [List.take_succ_cons, List.take_zero, List.drop_succ_cons, List.drop_zero]
  repeat still_step
  refine wpStill_nil ?_
  go_wp2_with (fail)
  refine (cR.out w1.drew (below_drew10 w1)).mono ?_
  rintro e2 w2 ⟨g, rfl, hrow, hb2⟩
  have hB2 : Below w1.heap.size w1 w2 := (below_drew10 w1).trans (hb2.mono (below_drew10 w1).size)
  have hXB := hb1.trans (hB2.mono hb1.size)
  obtain ⟨_, R2, f2, e2, rdr⟩ := rowRd hrow
  cases e2
  have hk3 := Blk.new w2 34 #[.slice (some ⟨g, 0, none⟩) (y.length + 1) (y.length + 1)]
  have hown3 := own_one _ w2.heap.size w.heap.size _ hXB.size hk3
  have hA3 : Below w2.heap.size w2 (w2.alloc (.cells #[.slice (some ⟨g, 0, none⟩) (y.length + 1) (y.length + 1)] 34)) := (Below.refl _ w2).alloc (Nat.le_refl _) _
  have HV3 := hid ((HRD.out.below hB2).below hA3)
  have hvl := HOWN.out.1
  rw [Nat.mul_one] at hvl
  have h1c : ∀ u ∈ vs, u.oneCell' = true := by
    intro u hu
    obtain ⟨r, hr⟩ := List.mem_iff_getElem?.1 hu
    have hrl := (List.getElem?_eq_some_iff.1 hr).1
    obtain ⟨R, c', h, _⟩ := HVS.out r (by omega)
    rw [hr] at h
    cases h
    rfl
  have bx : x.length ≤ 1000 := by have := HN.out; omega
  go_wp2_with (at_builtin; refine wpList_append_own _ rfl _ _ 35 rfl w.heap.size 34 j0 (.slice none 0 0) 1 24 Try.underlying35 hj hjz hjs hjb rfl (by decide) _ _ _ rfl hown3 _ (x.length + 1) _ vs rfl (by rw [hvl, Nat.mul_one]) ?l6 h1c ?l2 ?l3 ?l4 ?_)
  case l6 =>
    intro j u hju
    obtain ⟨ad9, e9, h9⟩ := rd_in HV3.out j u hju
    cases e9
    exact h9
  case l2 => unfold maxLen; omega
  case l3 => omega
  case l4 => simp only [World.size_alloc]; have := hXB.size; omega
  intro v' w4 hown4 hgrow _
  go_wp2_with (fail)
  go_ret
  have hB4 : Below w2.heap.size w2 w4 := hA3.grown hgrow (by simp) (fun k e => by simp only [Value.ownBlock, Option.some.injEq] at e; omega)
  have hX4 := hXB.trans (hB4.mono hXB.size)
  refine ⟨v', rfl, ⟨_, by rw [List.length_cons, Nat.add_comm]; exact hown4, fun r hr => ?_⟩, hX4⟩
  cases r with
  | zero => exact ⟨some ⟨g, 0, none⟩, y.length + 1, rfl, rdr.below hB4⟩
  | succ r =>
    rw [List.length_cons] at hr
    obtain ⟨R, c', h1, h2⟩ := HVS.out r (by omega)
    exact ⟨R, c', h1, (h2.below hB2).below hB4⟩
theorem rtable_any (y : List (List UInt8)) (B : Option Addr) (m d : Nat) (hm : y.length = m) (bm : m ≤ 1000) : ∀ (x : List (List UInt8)) (A : Option Addr) (n c : Nat), x.length = n → n ≤ 1000 → n ≤ c → ∀ w : World, Rd w A (x.map strV) → Rd w B (y.map strV) →
    Calls Try.prog 12 #[.slice A n c, .slice B m d] w fun e w' => ∃ v, e = .returned v ∧ TbR w' w.heap.size v x y ∧ Below w.heap.size w w'
  | [], A, n, c, hn, bn, hnc, w, hr, hs => by
    obtain rfl : n = 0 := hn.symm
    exact rtable_nil A c y B m d hm bm w
  | a :: x, A, n, c, hn, bn, hnc, w, hr, hs => rtable_cons a x y A n c hn bn hnc B m d hm bm w hr hs (fun A' c' hc' hr' => rtable_any y B m d hm bm x A' x.length c' rfl (by rw [List.length_cons] at hn; omega) hc' w hr' hs)
end Go.Proofs.Ytplcfdmehnilnaa

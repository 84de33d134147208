
/- diff, of the document: Of. -/
import Derived.Test.YtplcfdmehnilnaaDt4
import Derived.StillTailTactics
import Derived.WalkMore
import Derived.Deep.DeepCutAuto
set_option linter.unusedSimpArgs false
set_option linter.unusedVariables false
namespace Go.Proofs.Ytplcfdmehnilnaa
open Go.RowKit Go.Qc Go.Shelf
attribute [local go_sem] txt_size txt_append ib_fold txt_toL

theorem infoHunkR : (Try.prog.info? 40).map (fun i => (i.zero, i.size, i.bytes)) = some (some (.agg #[.int .i64 0, .slice none 0 0, .slice none 0 0]), 3, 56) := by kernel_rfl
theorem NowS.drewN {W : World} {b0 p at' : Nat} {D E : List (List UInt8)} {u v : Value} (h : NowS W b0 p at' D E u v) (k : Nat) : NowS (W.drewN k) b0 p at' D E u v := ⟨h.k, h.o, h.n, h.ap⟩
theorem OfI.drewN {w1 : World} {p : Nat} {x y : List (List UInt8)} {V : Value} {i j at' : Nat} {ds : List HD} {D E : List (List UInt8)} {u v : Value} {Wb wr : World} (h : OfI w1 p x y V i j at' ds D E u v Wb wr) (k : Nat) : OfI w1 p x y V i j at' ds D E u v Wb (wr.drewN k) :=
  ⟨h.own, h.far, h.box, ⟨h.grow.os, h.grow.tape, h.grow.output, h.grow.size, h.grow.block⟩, h.now.drewN k, h.eq, h.lo, h.b1, h.b2, h.b3, below_drewN h.low k⟩
/-- A place of the table. -/
theorem tab_at {w1 W : World} {base gT ct : Nat} {vs : List Value} {x y : List (List UInt8)} (ho : w1.ownsRow base 34 1 (.slice (some ⟨gT, 0, none⟩) (x.length + 1) ct) (x.length + 1) vs) (hv : ∀ r, r ≤ x.length → ∃ R c', vs[r]? = some (.slice R (y.length + 1) c') ∧ Rd w1 R (cntL (x.drop r) y)) (hb : Below w1.heap.size w1 W) (r : Nat) (hr : r ≤ x.length) :
    ∃ a f, W.cell? ⟨gT, r, none⟩ = some (.slice (some a) (y.length + 1) f) ∧ ∀ c, c ≤ y.length → W.cell? (a.add c) = some (.int .i64 (lcs (x.drop r) (y.drop c) : Int)) := by
  obtain ⟨R, c', h1, h2⟩ := hv r hr
  obtain ⟨_, A, c, e, hrd⟩ := rowRd ho
  cases e
  obtain ⟨ad, e, hc⟩ := rd_in (hrd.below hb) r _ h1
  cases e
  rw [add_lit0] at hc
  obtain ⟨a, rfl, _⟩ := rd_in (h2.below hb) 0 _ (cntL_at _ y 0 (Nat.zero_le _))
  refine ⟨a, c', hc, fun c hc => ?_⟩
  obtain ⟨a', e', h⟩ := rd_in (h2.below hb) c _ (cntL_at _ y c hc)
  cases e'
  exact h
theorem nn_at {i N : Nat} (h : i < N) (hN : N ≤ 1000) : (i : Int) < N ∧ (i : Int) < (N : Int) + 1 ∧ i < N + 1 ∧ wrap64 ((i : Int) + 1) = (i : Int) + 1 ∧ IntKind.i64.wrap ((i : Int) + 1) = (i : Int) + 1 ∧ ((i : Int) + 1).toNat = i + 1 ∧ (0 : Int) ≤ (i : Int) + 1 :=
  ⟨by omega, by omega, by omega, w64_in _ (by omega), by rw [IntKind.wrap_i64]; omega, by omega, by omega⟩
theorem wrapL {L N : Nat} (h : L ≤ N) (hN : N ≤ 1000) : IntKind.i64.wrap ((L : Int) + 1) = (L : Int) + 1 := by rw [IntKind.wrap_i64]; omega
theorem sum_pos {a b : Nat} (h : ¬ a + b = 0) : (0 : Int) < (a : Int) + b ∧ 0 < a + b := ⟨by omega, by omega⟩
theorem sum_zero {a b : Nat} (h : a + b = 0) : ¬ (0 : Int) < (a : Int) + b ∧ ¬ 0 < a + b := ⟨by omega, by omega⟩
theorem sum_wrap {a b : Nat} (ha : a ≤ 1000) (hb : b ≤ 1000) : wrap64 ((a : Int) + b) = (a : Int) + b := w64_in _ (by omega)
theorem row63 {a : Nat} (h : a ≤ 1000) : a + 1 ≤ maxLen ∧ (a + 1) * 56 ≤ 140737488355328 := ⟨by unfold maxLen; omega, by omega⟩
theorem meas_two {i j n m : Nat} (hi : i < n) (hj : j < m) : (n - (intOf (Value.int .i64 ((i : Int) + 1))).toNat) + (m - (intOf (Value.int .i64 ((j : Int) + 1))).toNat) < (n - (intOf (Value.int .i64 (i : Int))).toNat) + (m - (intOf (Value.int .i64 (j : Int))).toNat) := by
  simp only [intOf]
  omega
theorem far_low {W : World} {b n s p : Nat} {e : TypeId} {v : Value} {xs : List Value} (h : W.ownsRow b e s v n xs) (hp : p < b) : v.ownBlock ≠ some p := fun e => by have := (h.lt p e).1; omega
theorem far_next {V V' : Value} {p s : Nat} (h : V.ownBlock ≠ some p) (hv : V'.ownBlock = V.ownBlock ∨ V'.ownBlock = some s) (hp : p < s) : V'.ownBlock ≠ some p := by
  rcases hv with e | e
  · rw [e]; exact h
  · rw [e]; intro e; have := Option.some.inj e; omega
theorem blk_next {W W3 : World} {p : Nat} {t : TypeId} {cs : Array Value} {V : Value} (h : Blk W p t cs) (hg : W.grownBy W3 V.ownBlock) (hf : V.ownBlock ≠ some p) : Blk W3 p t cs := (hg.block p h.lt (fun e => hf e.symm)).trans h
theorem cell_one_new (W : World) (a : Value) (t : TypeId) : ∀ (j : Nat) (u : Value), [a][j]? = some u → (W.alloc (.cells #[a] t)).cell? ((⟨W.heap.size, 0, none⟩ : Addr).add j) = some u := by
  intro j u hu
  have hk := Blk.new W t #[a]
  match j, hu with
  | 0, hu => cases hu; exact hk.cell_ (i := 0) rfl
  | j + 1, hu => simp at hu
theorem row64 {a : Nat} (h : a ≤ 1000) : a + 1 ≤ maxLen ∧ (a + 1) * 16 ≤ 140737488355328 := ⟨by unfold maxLen; omega, by omega⟩
theorem meas_one {i n k : Nat} (hi : i < n) : (n - (intOf (Value.int .i64 ((i : Int) + 1))).toNat) + k < (n - (intOf (Value.int .i64 (i : Int))).toNat) + k := by
  simp only [intOf]
  omega
theorem meas_one2 {j m k : Nat} (hj : j < m) : k + (m - (intOf (Value.int .i64 ((j : Int) + 1))).toNat) < k + (m - (intOf (Value.int .i64 (j : Int))).toNat) := by
  simp only [intOf]
  omega
theorem nn_ne {i N : Nat} (h : i < N) : ¬ (i : Int) = N ∧ ((i : Int) == (N : Int)) = false := ⟨by omega, by rw [beq_eq_false_iff_ne]; omega⟩
theorem nn_eq {i N : Nat} (h : i ≤ N) (h2 : ¬ i < N) : (i : Int) = N ∧ ((i : Int) == (N : Int)) = true := ⟨by omega, by rw [beq_iff_eq]; omega⟩
theorem add_succ (a : Addr) (j : Nat) : a.add (j + 1) = ⟨a.block, a.off + (j + 1), none⟩ := by simp [Addr.add]
theorem wp_append_own2 {P : Program} (w : World) {o : Oper} {a : Act} {K : Act → World → Prop} {Q : Exit → Act → World → Prop} (s x : Operand) (t : TypeId)
    (ho : o.op = .call { callee := .builtin .append, args := #[s, x], argTypes := #[t, t] })
    (base : Nat) (e : TypeId) (i : TypeInfo) (z : Value) (size bytes : Nat) (ht : P.underlying t = some (.slice e)) (hi : P.info? e = some i) (hz : i.zero = some z)
    (hsize : i.size = size) (hby : i.bytes = bytes) (hzs : z.cells.size = size) (hsz : 0 < size)
    (v : Value) (n : Nat) (xs : List Value) (hs : a.eval s = v) (hown : w.ownsRow base e size v n xs)
    (ad : Addr) (m c : Nat) (h0 : 0 < m) (news : List Value) (hx : a.eval x = .slice (some ad) m c) (hl : news.length = m * size) (hnews : ∀ j u, news[j]? = some u → w.cell? (ad.add j) = some u) (h1 : ∀ u ∈ news, u.oneCell' = true)
    (h63 : n + m ≤ maxLen) (hbytes : (n + m) * bytes ≤ 140737488355328) (hbase : base ≤ w.heap.size)
    (h : ∀ v' w', w'.ownsRow base e size v' (n + m) (xs ++ news) → w.grownBy w' v.ownBlock → (v'.ownBlock = v.ownBlock ∨ v'.ownBlock = some w.heap.size) → K (a.put o.dst v') w') : o.wp P a w K Q := by
  obtain ⟨v', w', hr, h2, h3, _⟩ := run_append_own (P := P) w base t o.type e i z size bytes ht hi hz hsize hby hzs hsz v n xs hown ad m c news hl hnews h1 h63 hbytes hbase
  have h5 := run_append_block (P := P) base t o.type e i z size bytes ht hi hz hsize hby v n xs hown ad m c news h0 hl hnews h1 h63 hbytes v' w' hr
  unfold Oper.wp execOp
  simp only [ho, resolve, invoke, builtin, Sem.run_bind, Sem.run_pure, Result.andThen_ok, List.map_toArray, List.map_cons, List.map_nil, hs, hx, hr]
  exact h v' w' h2 h3 h5
set_option maxRecDepth 100000 in
set_option maxHeartbeats 8000000 in
theorem rof12_any (A : Option Addr) (c : Nat) (B : Option Addr) (d : Nat) (x y : List (List UInt8)) (bn : x.length ≤ 1000) (bm : y.length ≤ 1000) (hnc : x.length ≤ c) (hmd : y.length ≤ d) (w : World) (hr : Rd w A (x.map strV)) (hs : Rd w B (y.map strV)) :
    Calls Try.prog 11 #[.slice A x.length c, .slice B y.length d] w fun e w' => ∃ v b, e = .returned v ∧ w.heap.size ≤ b ∧ HOwnR w' b v (dfG x y 0 0 [] []) ∧ Below w.heap.size w w' := by
  obtain ⟨i0, hi, hz0, hz1, hz2⟩ := info_parts infoHunkR
  have cT := rtable_any y B y.length d rfl bm x A x.length c rfl bn hnc w hr hs
  have HR := hid hr
  have HS := hid hs
  clear hr hs
  go_enter Try.func11, Try.ntmps11
  go_wp2_with (fail)
  refine cT.mono ?_
  rintro e1 w1 ⟨vt, rfl, ⟨vs, hown, hvs⟩, hb1⟩
  obtain ⟨gT, ct, rfl⟩ : ∃ gT ct, vt = .slice (some ⟨gT, 0, none⟩) (x.length + 1) ct := by
    rcases hown.2 with ⟨_, h⟩ | ⟨g, cap, _, e, _⟩
    · omega
    · exact ⟨g, cap, e⟩
  have HT := hid (fun (W : World) (hb : Below w1.heap.size w1 W) (r : Nat) (hr : r ≤ x.length) => tab_at hown hvs hb r hr)
  clear hvs hown cT
  go_wp2_with (fail)
  have hk1 := (Blk.new w1 40 #[]).alloc (.cells #[.int .i64 0, .slice none 0 0, .slice none 0 0] 40)
  have hk2 := Blk.new (w1.alloc (.cells #[] 40)) 40 #[.int .i64 0, .slice none 0 0, .slice none 0 0]
  have hB0 : Below w1.heap.size w1 ((w1.alloc (.cells #[] 40)).alloc (.cells #[.int .i64 0, .slice none 0 0, .slice none 0 0] 40)) := ((Below.refl _ w1).alloc (Nat.le_refl _) _).alloc (by simp) _
  rw [World.size_alloc] at hk2
  have hsz : ((w1.alloc (.cells #[] 40)).alloc (.cells #[.int .i64 0, .slice none 0 0, .slice none 0 0] 40)).heap.size = w1.heap.size + 1 + 1 := by simp
  generalize (w1.alloc (.cells #[] 40)).alloc (.cells #[.int .i64 0, .slice none 0 0, .slice none 0 0] 40) = W0 at *
  go_loopw [6, 8, 9] (fun out zi zj wr => ∃ (V : Value) (i j at' : Nat) (ds : List HD) (D E : List (List UInt8)) (u v : Value) (Wb : World), V = out ∧ i ≤ x.length ∧ j ≤ y.length ∧ zi = .int .i64 i ∧ zj = .int .i64 j ∧ Hid (OfI w1 (w1.heap.size + 1) x y V i j at' ds D E u v Wb wr)) (fun _ zi zj _ => (x.length - (intOf zi).toNat) + (y.length - (intOf zj).toNat))
  case atStart =>
    refine ⟨_, 0, 0, 0, [], [], [], .slice none 0 0, .slice none 0 0, W0, rfl, Nat.zero_le _, Nat.zero_le _, rfl, rfl, hid ⟨⟨[], ⟨rfl, .inr ⟨w1.heap.size, 0, #[], rfl, Nat.le_refl _, hk1, Nat.le_refl _, by unfold maxLen; decide, rfl, rfl⟩⟩, rfl, fun j t d h => by simp at h⟩, by simp [Value.ownBlock], ⟨_, hk2⟩, World.grownBy.refl _ _, ⟨hk2, World.ownsRow_nil _ _ _ _, World.ownsRow_nil _ _ _ _, .inl rfl⟩, rfl, by omega, Nat.le_refl _, Nat.le_refl _, Nat.le_refl _, hB0⟩⟩
  case round =>
    clear hk1 hk2 hB0 hsz
    obtain ⟨V, i, j, at', ds, D, E, u, v, Wb, hV, hin, hjm, rfl, rfl, HI⟩ := hrel
    subst hV
    obtain ⟨A1, c1, rfl⟩ := own_slice HI.out.now.o
    obtain ⟨A2, c2, rfl⟩ := own_slice HI.out.now.n
    go_upto_region 5 with (fail)
    go_cut [25] (fun s25 wx => wx = wr ∧ s25 = .bool (decide (i < x.length ∨ j < y.length)))
    case first =>
      rename_i J9 K9 hJ9 hM9
      as_aux_lemma =>
        clear HR HS HT
        by_cases hi9 : i < x.length
        · obtain ⟨z1, z3, z5, hw1, hv1, h3i, h4i⟩ := nn_at hi9 bn
          go_wp2_with (fail)
          refine Met.intro (hJ9 _ _ ?_)
          (repeat apply Exists.intro)
          exact ⟨⟨rfl, by rw [decide_eq_true (Or.inl hi9)]⟩, rfl⟩
        · by_cases hj9 : j < y.length
          · have z1 : ¬ (i : Int) < x.length := fun e => hi9 (Int.ofNat_lt.1 e)
            obtain ⟨z2, z4, z6, hw2, hv2, h3j, h4j⟩ := nn_at hj9 bm
            go_wp2_with (fail)
            refine Met.intro (hJ9 _ _ ?_)
            (repeat apply Exists.intro)
            exact ⟨⟨rfl, by rw [decide_eq_true (Or.inr hj9)]⟩, rfl⟩
          · have z1 : ¬ (i : Int) < x.length := fun e => hi9 (Int.ofNat_lt.1 e)
            have z2 : ¬ (j : Int) < y.length := fun e => hj9 (Int.ofNat_lt.1 e)
            go_wp2_with (fail)
            refine Met.intro (hJ9 _ _ ?_)
            (repeat apply Exists.intro)
            exact ⟨⟨rfl, by rw [decide_eq_false (fun h => h.elim hi9 hj9)]⟩, rfl⟩
    case rest =>
      obtain ⟨hwq, hfl⟩ := hcut
      replace hwq := hwq.symm
      subst hwq
      subst hfl
      by_cases hend : i < x.length ∨ j < y.length
      · rw [decide_eq_true hend]
        go_upto_region 6 with (fail)
        go_cut [10] (fun s10 wx => wx = wr ∧ ∃ both : Bool, s10 = .bool both ∧ Hid (both = decide (i < x.length ∧ j < y.length)))
        case first =>
          rename_i J9 K9 hJ9 hM9
          as_aux_lemma =>
            clear HR HS HT
            by_cases hi9 : i < x.length
            · by_cases hj9 : j < y.length
              · obtain ⟨z1, z3, z5, hw1, hv1, h3i, h4i⟩ := nn_at hi9 bn
                obtain ⟨z2, z4, z6, hw2, hv2, h3j, h4j⟩ := nn_at hj9 bm
                go_wp2_with (fail)
                refine Met.intro (hJ9 _ _ ?_)
                (repeat apply Exists.intro)
                exact ⟨⟨rfl, true, rfl, hid (by rw [decide_eq_true (And.intro hi9 hj9)])⟩, rfl⟩
              · obtain ⟨z1, z3, z5, hw1, hv1, h3i, h4i⟩ := nn_at hi9 bn
                have z2 : ¬ (j : Int) < y.length := fun e => hj9 (Int.ofNat_lt.1 e)
                go_wp2_with (fail)
                refine Met.intro (hJ9 _ _ ?_)
                (repeat apply Exists.intro)
                exact ⟨⟨rfl, false, rfl, hid (by rw [decide_eq_false (fun h => hj9 h.2)])⟩, rfl⟩
            · have z1 : ¬ (i : Int) < x.length := fun e => hi9 (Int.ofNat_lt.1 e)
              go_wp2_with (fail)
              refine Met.intro (hJ9 _ _ ?_)
              (repeat apply Exists.intro)
              exact ⟨⟨rfl, false, rfl, hid (by rw [decide_eq_false (fun h => hi9 h.1)])⟩, rfl⟩
        case rest =>
          obtain ⟨hwq, both, hfl, HB9⟩ := hcut
          replace hwq := hwq.symm
          subst hwq
          subst hfl
          go_upto_region 7 with (fail)
          go_cut [67] (fun s67 wx => (∃ nq, wx = wr.drewN nq) ∧ ∃ fl : Bool, s67 = .bool fl ∧ Hid (fl = true → ∃ a, x[i]? = some a ∧ y[j]? = some a) ∧ Hid (fl = false → ∀ a, x[i]? = some a → y[j]? ≠ some a))
          case first =>
            rename_i J9 K9 hJ9 hM9
            as_aux_lemma =>
              by_cases hi9 : i < x.length
              · by_cases hj9 : j < y.length
                · have hX := hb1.trans (HI.out.low.mono hb1.size)
                  obtain ⟨a, ha⟩ : ∃ a, x[i]? = some a := ⟨_, List.getElem?_eq_getElem hi9⟩
                  obtain ⟨b, hb⟩ : ∃ b, y[j]? = some b := ⟨_, List.getElem?_eq_getElem hj9⟩
                  obtain ⟨ad, rfl, p0⟩ := rd_in (HR.out.below hX) i (strV a) (by rw [List.getElem?_map, ha]; rfl)
                  unfold strV at p0
                  obtain ⟨ad2, rfl, p1⟩ := rd_in (HS.out.below hX) j (strV b) (by rw [List.getElem?_map, hb]; rfl)
                  unfold strV at p1
                  obtain ⟨z1, z3, z5, hw1, hv1, h3i, h4i⟩ := nn_at hi9 bn
                  obtain ⟨z2, z4, z6, hw2, hv2, h3j, h4j⟩ := nn_at hj9 bm
                  obtain ⟨a0, f0, t0, T0⟩ := HT.out wr HI.out.low i hin
                  obtain ⟨a1, f1, t1, T1⟩ := HT.out wr HI.out.low (i + 1) hi9
                  have t00 := T0 j hjm
                  have t11 := T1 (j + 1) hj9
                  rw [add_succ] at t11
                  clear T0 T1
                  by_cases hab : a = b
                  · as_aux_lemma =>
                      subst hab
                      have hl : lcs (x.drop i) (y.drop j) = lcs (x.drop (i + 1)) (y.drop (j + 1)) + 1 := by rw [drop_at ha, drop_at hb, lcs_eq]
                      have hll := lcs_left (x.drop (i + 1)) (y.drop (j + 1))
                      have hll := Nat.le_trans hll (List.length_drop ▸ Nat.sub_le _ _ : (x.drop (i + 1)).length ≤ x.length)
                      rw [hl] at t00
                      generalize lcs (x.drop (i + 1)) (y.drop (j + 1)) = L at t00 t11 hll
                      rw [show ((L + 1 : Nat) : Int) = (L : Int) + 1 from rfl] at t00
                      have hv3 := wrapL hll bn
                      have HM := hid (show (true : Bool) = true → ∃ a, x[i]? = some a ∧ y[j]? = some a from fun _ => ⟨a, ha, hb⟩)
                      have HM2 := hid (show (true : Bool) = false → ∀ a, x[i]? = some a → y[j]? ≠ some a from fun h => by cases h)
                      obtain rfl : both = true := HB9.out.trans (decide_eq_true (And.intro hi9 hj9))
                      clear ha hb hl
                      refine wp_region_quiet_lit mixed10 (by kernel_rfl) ?_
                      repeat (first
                        | ((with_reducible refine wpQuiet_step (fun K hK => ?_)); go_simp; first | ((with_reducible refine hK _ ?_); clear hK K))
                        | ((with_reducible refine BigFrame.wpQuiet_skip (by first | kernel_rfl | with_unfolding_all rfl) ?_); simp only [Act.put, List.setIfInBounds_toArray, List.set_cons_zero, List.set_cons_succ]))
                      with_reducible refine wpQuiet_nil ?_
                      intro _ hw9
                      obtain ⟨nq, rfl⟩ := hw9
                      refine hM9 _ _ (Met.intro (hJ9 _ _ ?_))
                      (repeat apply Exists.intro)
                      exact ⟨⟨⟨nq, rfl⟩, true, rfl, HM, HM2⟩, rfl⟩
                  · as_aux_lemma =>
                      have hne : ¬ txt a = txt b := fun e => hab ((txt_inj a b).mp e)
                      have HM := hid (show (false : Bool) = true → ∃ a, x[i]? = some a ∧ y[j]? = some a from fun h => by cases h)
                      have HM2 := hid (show (false : Bool) = false → ∀ a, x[i]? = some a → y[j]? ≠ some a from fun _ a' h1 h2 => hab (Option.some.inj (ha.symm.trans (h1.trans (h2.symm.trans hb)))))
                      obtain rfl : both = true := HB9.out.trans (decide_eq_true (And.intro hi9 hj9))
                      clear ha hb t00 t11 t0 t1
                      refine wp_region_quiet_lit mixed10 (by kernel_rfl) ?_
                      repeat (first
                        | ((with_reducible refine wpQuiet_step (fun K hK => ?_)); go_simp; first | ((with_reducible refine hK _ ?_); clear hK K))
                        | ((with_reducible refine BigFrame.wpQuiet_skip (by first | kernel_rfl | with_unfolding_all rfl) ?_); simp only [Act.put, List.setIfInBounds_toArray, List.set_cons_zero, List.set_cons_succ]))
                      with_reducible refine wpQuiet_nil ?_
                      intro _ hw9
                      obtain ⟨nq, rfl⟩ := hw9
                      refine hM9 _ _ (Met.intro (hJ9 _ _ ?_))
                      (repeat apply Exists.intro)
                      exact ⟨⟨⟨nq, rfl⟩, false, rfl, HM, HM2⟩, rfl⟩
                · have HM := hid (show (false : Bool) = true → ∃ a, x[i]? = some a ∧ y[j]? = some a from fun h => by cases h)
                  have HM2 := hid (show (false : Bool) = false → ∀ a, x[i]? = some a → y[j]? ≠ some a from fun _ a' h1 h2 => hj9 (List.getElem?_eq_some_iff.1 h2).1)
                  obtain rfl : both = false := HB9.out.trans (decide_eq_false (fun h => hj9 h.2))
                  refine wp_region_quiet_lit mixed10 (by kernel_rfl) ?_
                  repeat (first
                    | ((with_reducible refine wpQuiet_step (fun K hK => ?_)); go_simp; first | ((with_reducible refine hK _ ?_); clear hK K))
                    | ((with_reducible refine BigFrame.wpQuiet_skip (by first | kernel_rfl | with_unfolding_all rfl) ?_); simp only [Act.put, List.setIfInBounds_toArray, List.set_cons_zero, List.set_cons_succ]))
                  with_reducible refine wpQuiet_nil ?_
                  intro _ hw9
                  obtain ⟨nq, rfl⟩ := hw9
                  refine hM9 _ _ (Met.intro (hJ9 _ _ ?_))
                  (repeat apply Exists.intro)
                  exact ⟨⟨⟨nq, rfl⟩, false, rfl, HM, HM2⟩, rfl⟩
              · have HM := hid (show (false : Bool) = true → ∃ a, x[i]? = some a ∧ y[j]? = some a from fun h => by cases h)
                have HM2 := hid (show (false : Bool) = false → ∀ a, x[i]? = some a → y[j]? ≠ some a from fun _ a' h1 h2 => hi9 (List.getElem?_eq_some_iff.1 h1).1)
                obtain rfl : both = false := HB9.out.trans (decide_eq_false (fun h => hi9 h.1))
                refine wp_region_quiet_lit mixed10 (by kernel_rfl) ?_
                repeat (first
                  | ((with_reducible refine wpQuiet_step (fun K hK => ?_)); go_simp; first | ((with_reducible refine hK _ ?_); clear hK K))
                  | ((with_reducible refine BigFrame.wpQuiet_skip (by first | kernel_rfl | with_unfolding_all rfl) ?_); simp only [Act.put, List.setIfInBounds_toArray, List.set_cons_zero, List.set_cons_succ]))
                with_reducible refine wpQuiet_nil ?_
                intro _ hw9
                obtain ⟨nq, rfl⟩ := hw9
                refine hM9 _ _ (Met.intro (hJ9 _ _ ?_))
                (repeat apply Exists.intro)
                exact ⟨⟨⟨nq, rfl⟩, false, rfl, HM, HM2⟩, rfl⟩
          case rest =>
            obtain ⟨⟨nq, hwq⟩, fl, hfl, HM, HM2⟩ := hcut
            subst hwq
            subst hfl
            replace HI := hid (HI.out.drewN nq)
            generalize wr.drewN nq = wr at *
            cases fl with
            | true =>
              as_aux_lemma =>
                obtain ⟨a, ha, hb⟩ := HM.out rfl
                have hi9 := (List.getElem?_eq_some_iff.1 ha).1
                have hj9 := (List.getElem?_eq_some_iff.1 hb).1
                have HEQ := hid (dg_eq (at' := at') (D := D) (E := E) ha hb)
                obtain ⟨z1, z3, z5, hw1, hv1, h3i, h4i⟩ := nn_at hi9 bn
                obtain ⟨z2, z4, z6, hw2, hv2, h3j, h4j⟩ := nn_at hj9 bm
                clear ha hb HR HS HT HM HM2
                have HNOW := hid HI.out.now
                have k0 := HNOW.out.k.cell_ (i := 0) rfl
                have k1 := HNOW.out.k.cell_ (i := 1) rfl
                have k2 := HNOW.out.k.cell_ (i := 2) rfl
                have g0 := HNOW.out.k.frozen 0
                have g1 := HNOW.out.k.frozen 1
                have g2 := HNOW.out.k.frozen 2
                obtain ⟨ts, hrow, hts⟩ := HI.out.row
                have HTS := hid hts
                have bD := Nat.le_trans HI.out.b2 (Nat.le_trans hin bn)
                have bE := Nat.le_trans HI.out.b3 (Nat.le_trans hjm bm)
                have r63 := row63 (Nat.le_trans HI.out.b1 (Nat.le_trans hin bn))
                have hsw := HI.out.low.size
                have hw4 := sum_wrap bD bE
                clear hts
                by_cases hz : D.length + E.length = 0
                · obtain ⟨s1, s2⟩ := sum_zero hz
                  have HFL := hid (show flu at' D E = [] by unfold flu; rw [if_pos hz])
                  clear hz
                  have HBD := hid bD
                  have HBE := hid bE
                  have HR63 := hid r63
                  have HSW := hid hsw
                  have HI9 := hid hi9
                  have HJ9 := hid hj9
                  have HIN := hid hin
                  have HJM := hid hjm
                  have HBN := hid bn
                  have HBM := hid bm
                  clear bD bE r63 hsw hi9 hj9 hin hjm bn bm hnc hmd z1 z2 z3 z4 z5 z6 h3i h3j h4i h4j hv1 hv2 hend
                  go_wp2_with (fail)
                  go_roundw
                  case rel => exact ⟨V, i + 1, j + 1, j + 1, ds, [], [], .slice none 0 0, .slice none 0 0, _, rfl, HI9.out, HJ9.out, by go_num, by go_num, hid (OfI.begin rfl ⟨ts, hrow, HTS.out⟩ HI.out.far HNOW.out.k rfl HI.out.low (by rw [HI.out.eq, HEQ.out, HFL.out, List.nil_append]) (Nat.le_succ_of_le HI.out.b1) rfl)⟩
                  case measure => first | exact meas_two HI9.out HJ9.out | (rw [hw1, hw2]; exact meas_two HI9.out HJ9.out)
                · obtain ⟨s1, s2⟩ := sum_pos hz
                  have HFL := hid (show flu at' D E = [(at', D, E)] by unfold flu; rw [if_neg hz])
                  clear hz
                  have HROW := hid hrow
                  have r1 := hrow.alloc (.cells #[.int .i64 at', .slice A1 D.length c1, .slice A2 E.length c2] 40)
                  have h63 := r63.1
                  have h64 := r63.2
                  have h65 : w1.heap.size ≤ (wr.alloc (.cells #[.int .i64 at', .slice A1 D.length c1, .slice A2 E.length c2] 40)).heap.size := Nat.le_trans hsw (by rw [World.size_alloc]; exact Nat.le_succ _)
                  have hWA := (Below.refl wr.heap.size wr).alloc (Nat.le_refl _) (.cells #[.int .i64 at', .slice A1 D.length c1, .slice A2 E.length c2] 40)
                  have H63 := hid (And.intro h63 (And.intro h64 h65))
                  clear h63 h64 h65 hrow
                  have HBD := hid bD
                  have HBE := hid bE
                  have HR63 := hid r63
                  have HSW := hid hsw
                  have HI9 := hid hi9
                  have HJ9 := hid hj9
                  have HIN := hid hin
                  have HJM := hid hjm
                  have HBN := hid bn
                  have HBM := hid bm
                  clear bD bE r63 hsw hi9 hj9 hin hjm bn bm hnc hmd z1 z2 z3 z4 z5 z6 h3i h3j h4i h4j hv1 hv2 hend
                  go_wp2_with (at_builtin; refine wpList_append_own2 _ rfl _ _ 32 rfl w1.heap.size 40 i0 (.agg #[.int .i64 0, .slice none 0 0, .slice none 0 0]) 3 56 Try.underlying32 hi hz0 hz1 hz2 rfl (by decide) _ _ _ rfl r1 ⟨_, 0, none⟩ 1 1 (by decide) [.int .i64 at', .slice A1 D.length c1, .slice A2 E.length c2] rfl rfl (cell_three_new _ _ _ _ _) (by simp [Value.oneCell']) H63.out.1 H63.out.2.1 H63.out.2.2 ?_; intro V' W3 hown3 hg3 hv3; have hfar3 := far_next HI.out.far hv3 (Nat.lt_of_lt_of_le HNOW.out.k.lt hWA.size); have hk3 := blk_next (HNOW.out.k.alloc (.cells #[.int .i64 at', .slice A1 D.length c1, .slice A2 E.length c2] 40)) hg3 HI.out.far; have q0 := hk3.cell_ (i := 0) rfl; have q1 := hk3.cell_ (i := 1) rfl; have q2 := hk3.cell_ (i := 2) rfl; have f0 := hk3.frozen 0; have f1 := hk3.frozen 1; have f2 := hk3.frozen 2; clear k0 k1 k2 g0 g1 g2)
                  have hOW := HOwnR.more HTS.out HNOW.out (Nat.le_trans (Nat.le_add_right _ _) HI.out.lo) HBD.out HBE.out hWA r1 hown3 hg3
                  have hlow3 : Below w1.heap.size w1 W3 := (HI.out.low.trans (hWA.mono HSW.out)).grown hg3 (Nat.le_trans HSW.out hWA.size) (fun k hk => (r1.lt k hk).1)
                  go_roundw
                  case rel => exact ⟨V', i + 1, j + 1, j + 1, ds ++ [(at', D, E)], [], [], .slice none 0 0, .slice none 0 0, _, rfl, HI9.out, HJ9.out, by go_num, by go_num, hid (OfI.begin rfl hOW hfar3 hk3 rfl hlow3 (by rw [HI.out.eq, HEQ.out, HFL.out, List.append_assoc]) (by rw [List.length_append]; exact Nat.succ_le_succ HI.out.b1) rfl)⟩
                  case measure => first | exact meas_two HI9.out HJ9.out | (rw [hw1, hw2]; exact meas_two HI9.out HJ9.out)
            | false =>
              as_aux_lemma =>
                have HNE := HM2
                clear HM HM2
                go_upto_region 13 with (fail)
                go_cut [111] (fun s111 wx => (∃ nq, wx = wr.drewN nq) ∧ ∃ fl : Bool, s111 = .bool fl ∧ Hid (fl = true → ∃ a, x[i]? = some a ∧ dfG (x.drop i) (y.drop j) at' j D E = dfG (x.drop (i + 1)) (y.drop j) at' j (D ++ [a]) E) ∧ Hid (fl = false → ∃ b, y[j]? = some b ∧ dfG (x.drop i) (y.drop j) at' j D E = dfG (x.drop i) (y.drop (j + 1)) at' (j + 1) D (E ++ [b])))
                case first =>
                  rename_i J9 K9 hJ9 hM9
                  as_aux_lemma =>
                    by_cases hi9 : i < x.length
                    · by_cases hj9 : j < y.length
                      · have hX := hb1.trans (HI.out.low.mono hb1.size)
                        obtain ⟨a, ha⟩ : ∃ a, x[i]? = some a := ⟨_, List.getElem?_eq_getElem hi9⟩
                        obtain ⟨b, hb⟩ : ∃ b, y[j]? = some b := ⟨_, List.getElem?_eq_getElem hj9⟩
                        obtain ⟨ad, rfl, p0⟩ := rd_in (HR.out.below hX) i (strV a) (by rw [List.getElem?_map, ha]; rfl)
                        unfold strV at p0
                        obtain ⟨ad2, rfl, p1⟩ := rd_in (HS.out.below hX) j (strV b) (by rw [List.getElem?_map, hb]; rfl)
                        unfold strV at p1
                        obtain ⟨z1, z3, z5, hw1, hv1, h3i, h4i⟩ := nn_at hi9 bn
                        obtain ⟨z2, z4, z6, hw2, hv2, h3j, h4j⟩ := nn_at hj9 bm
                        obtain ⟨a0, f0, t0, T0⟩ := HT.out wr HI.out.low i hin
                        obtain ⟨a1, f1, t1, T1⟩ := HT.out wr HI.out.low (i + 1) hi9
                        have t01 := T0 (j + 1) hj9
                        have t10 := T1 j hjm
                        rw [add_succ] at t01
                        clear T0 T1
                        have hab : a ≠ b := fun e => HNE.out rfl a ha (e ▸ hb)
                        obtain ⟨z8, z9⟩ := nn_ne hj9
                        by_cases hle : lcs (x.drop i) (y.drop (j + 1)) ≤ lcs (x.drop (i + 1)) (y.drop j)
                        · as_aux_lemma =>
                            have hge : (lcs (x.drop i) (y.drop (j + 1)) : Int) ≤ lcs (x.drop (i + 1)) (y.drop j) := Int.ofNat_le.2 hle
                            have HM := hid (show (true : Bool) = true → ∃ a, x[i]? = some a ∧ dfG (x.drop i) (y.drop j) at' j D E = dfG (x.drop (i + 1)) (y.drop j) at' j (D ++ [a]) E from fun _ => ⟨a, ha, dg_le ha hb hab hle⟩)
                            have HM2 := hid (show (true : Bool) = false → ∃ b, y[j]? = some b ∧ dfG (x.drop i) (y.drop j) at' j D E = dfG (x.drop i) (y.drop (j + 1)) at' (j + 1) D (E ++ [b]) from fun h => by cases h)
                            obtain rfl : both = true := HB9.out.trans (decide_eq_true (And.intro hi9 hj9))
                            generalize lcs (x.drop i) (y.drop (j + 1)) = L01 at t01 hle hge
                            generalize lcs (x.drop (i + 1)) (y.drop j) = L10 at t10 hle hge
                            clear ha hb p0 p1
                            refine wp_region_quiet_lit mixed10 (by kernel_rfl) ?_
                            repeat (first
                              | ((with_reducible refine wpQuiet_step (fun K hK => ?_)); go_simp; first | ((with_reducible refine hK _ ?_); clear hK K))
                              | ((with_reducible refine BigFrame.wpQuiet_skip (by first | kernel_rfl | with_unfolding_all rfl) ?_); simp only [Act.put, List.setIfInBounds_toArray, List.set_cons_zero, List.set_cons_succ]))
                            with_reducible refine wpQuiet_nil ?_
                            intro _ hw9
                            obtain ⟨nq, rfl⟩ := hw9
                            refine hM9 _ _ (Met.intro (hJ9 _ _ ?_))
                            (repeat apply Exists.intro)
                            exact ⟨⟨⟨nq, rfl⟩, true, rfl, HM, HM2⟩, rfl⟩
                        · as_aux_lemma =>
                            have hge : ¬ (lcs (x.drop i) (y.drop (j + 1)) : Int) ≤ lcs (x.drop (i + 1)) (y.drop j) := fun e => hle (Int.ofNat_le.1 e)
                            have HM := hid (show (false : Bool) = true → ∃ a, x[i]? = some a ∧ dfG (x.drop i) (y.drop j) at' j D E = dfG (x.drop (i + 1)) (y.drop j) at' j (D ++ [a]) E from fun h => by cases h)
                            have HM2 := hid (show (false : Bool) = false → ∃ b, y[j]? = some b ∧ dfG (x.drop i) (y.drop j) at' j D E = dfG (x.drop i) (y.drop (j + 1)) at' (j + 1) D (E ++ [b]) from fun _ => ⟨b, hb, dg_gt ha hb hab hle⟩)
                            obtain rfl : both = true := HB9.out.trans (decide_eq_true (And.intro hi9 hj9))
                            generalize lcs (x.drop i) (y.drop (j + 1)) = L01 at t01 hle hge
                            generalize lcs (x.drop (i + 1)) (y.drop j) = L10 at t10 hle hge
                            clear ha hb p0 p1
                            refine wp_region_quiet_lit mixed10 (by kernel_rfl) ?_
                            repeat (first
                              | ((with_reducible refine wpQuiet_step (fun K hK => ?_)); go_simp; first | ((with_reducible refine hK _ ?_); clear hK K))
                              | ((with_reducible refine BigFrame.wpQuiet_skip (by first | kernel_rfl | with_unfolding_all rfl) ?_); simp only [Act.put, List.setIfInBounds_toArray, List.set_cons_zero, List.set_cons_succ]))
                            with_reducible refine wpQuiet_nil ?_
                            intro _ hw9
                            obtain ⟨nq, rfl⟩ := hw9
                            refine hM9 _ _ (Met.intro (hJ9 _ _ ?_))
                            (repeat apply Exists.intro)
                            exact ⟨⟨⟨nq, rfl⟩, false, rfl, HM, HM2⟩, rfl⟩
                      · obtain ⟨a, ha⟩ : ∃ a, x[i]? = some a := ⟨_, List.getElem?_eq_getElem hi9⟩
                        obtain ⟨z1, z3, z5, hw1, hv1, h3i, h4i⟩ := nn_at hi9 bn
                        have z9 := (nn_eq hjm hj9).2
                        have HM := hid (show (true : Bool) = true → ∃ a, x[i]? = some a ∧ dfG (x.drop i) (y.drop j) at' j D E = dfG (x.drop (i + 1)) (y.drop j) at' j (D ++ [a]) E from fun _ => ⟨a, ha, dg_x ha (Nat.le_of_not_lt hj9)⟩)
                        have HM2 := hid (show (true : Bool) = false → ∃ b, y[j]? = some b ∧ dfG (x.drop i) (y.drop j) at' j D E = dfG (x.drop i) (y.drop (j + 1)) at' (j + 1) D (E ++ [b]) from fun h => by cases h)
                        obtain rfl : both = false := HB9.out.trans (decide_eq_false (fun h => hj9 h.2))
                        clear ha
                        refine wp_region_quiet_lit mixed10 (by kernel_rfl) ?_
                        repeat (first
                          | ((with_reducible refine wpQuiet_step (fun K hK => ?_)); go_simp; first | ((with_reducible refine hK _ ?_); clear hK K))
                          | ((with_reducible refine BigFrame.wpQuiet_skip (by first | kernel_rfl | with_unfolding_all rfl) ?_); simp only [Act.put, List.setIfInBounds_toArray, List.set_cons_zero, List.set_cons_succ]))
                        with_reducible refine wpQuiet_nil ?_
                        intro _ hw9
                        obtain ⟨nq, rfl⟩ := hw9
                        refine hM9 _ _ (Met.intro (hJ9 _ _ ?_))
                        (repeat apply Exists.intro)
                        exact ⟨⟨⟨nq, rfl⟩, true, rfl, HM, HM2⟩, rfl⟩
                    · have hj9 : j < y.length := hend.resolve_left hi9
                      obtain ⟨b, hb⟩ : ∃ b, y[j]? = some b := ⟨_, List.getElem?_eq_getElem hj9⟩
                      obtain ⟨z2, z4, z6, hw2, hv2, h3j, h4j⟩ := nn_at hj9 bm
                      obtain ⟨z8, z9⟩ := nn_ne hj9
                      have HM := hid (show (false : Bool) = true → ∃ a, x[i]? = some a ∧ dfG (x.drop i) (y.drop j) at' j D E = dfG (x.drop (i + 1)) (y.drop j) at' j (D ++ [a]) E from fun h => by cases h)
                      have HM2 := hid (show (false : Bool) = false → ∃ b, y[j]? = some b ∧ dfG (x.drop i) (y.drop j) at' j D E = dfG (x.drop i) (y.drop (j + 1)) at' (j + 1) D (E ++ [b]) from fun _ => ⟨b, hb, dg_y hb (Nat.le_of_not_lt hi9)⟩)
                      obtain rfl : both = false := HB9.out.trans (decide_eq_false (fun h => hi9 h.1))
                      clear hb
                      refine wp_region_quiet_lit mixed10 (by kernel_rfl) ?_
                      repeat (first
                        | ((with_reducible refine wpQuiet_step (fun K hK => ?_)); go_simp; first | ((with_reducible refine hK _ ?_); clear hK K))
                        | ((with_reducible refine BigFrame.wpQuiet_skip (by first | kernel_rfl | with_unfolding_all rfl) ?_); simp only [Act.put, List.setIfInBounds_toArray, List.set_cons_zero, List.set_cons_succ]))
                      with_reducible refine wpQuiet_nil ?_
                      intro _ hw9
                      obtain ⟨nq, rfl⟩ := hw9
                      refine hM9 _ _ (Met.intro (hJ9 _ _ ?_))
                      (repeat apply Exists.intro)
                      exact ⟨⟨⟨nq, rfl⟩, false, rfl, HM, HM2⟩, rfl⟩
                case rest =>
                  clear HNE
                  obtain ⟨⟨nq, hwq⟩, fl, hfl, HM, HM2⟩ := hcut
                  subst hwq
                  subst hfl
                  replace HI := hid (HI.out.drewN nq)
                  generalize wr.drewN nq = wr at *
                  cases fl with
                  | true =>
                    as_aux_lemma =>
                      obtain ⟨a, ha, hdg⟩ := HM.out rfl
                      have hi9 := (List.getElem?_eq_some_iff.1 ha).1
                      have HEQ := hid hdg
                      obtain ⟨j0, hj, hjz, hjs, hjb⟩ := info_parts infoString
                      have hX := hb1.trans (HI.out.low.mono hb1.size)
                      obtain ⟨ad, rfl, p0⟩ := rd_in (HR.out.below hX) i (strV a) (by rw [List.getElem?_map, ha]; rfl)
                      unfold strV at p0
                      obtain ⟨z1, z3, z5, hw1, hv1, h3i, h4i⟩ := nn_at hi9 bn
                      clear ha hdg hX HM HM2
                      have HNOW := hid HI.out.now
                      have k0 := HNOW.out.k.cell_ (i := 0) rfl
                      have k1 := HNOW.out.k.cell_ (i := 1) rfl
                      have k2 := HNOW.out.k.cell_ (i := 2) rfl
                      have g0 := HNOW.out.k.frozen 0
                      have g1 := HNOW.out.k.frozen 1
                      have g2 := HNOW.out.k.frozen 2
                      obtain ⟨ts, hrow, hts⟩ := HI.out.row
                      have HTS := hid hts
                      have bD := Nat.le_trans HI.out.b2 (Nat.le_trans hin bn)
                      have bE := Nat.le_trans HI.out.b3 (Nat.le_trans hjm bm)
                      have r63 := row63 (Nat.le_trans HI.out.b1 (Nat.le_trans hin bn))
                      have hsw := HI.out.low.size
                      have hw4 := sum_wrap bD bE
                      clear hts
                      go_wp2_with (fail)
                      have hdr := below_drew10 wr
                      have hKd : Blk wr.drew (w1.heap.size + 1) 40 #[.int .i64 at', .slice A1 D.length c1, .slice A2 E.length c2] := HNOW.out.k
                      have rO : wr.drew.ownsRow Wb.heap.size 9 1 (.slice A1 D.length c1) D.length (D.map strV) := HNOW.out.o
                      have rO2 := rO.alloc (.cells #[.string (txt a)] 9)
                      have h64 := row64 bD
                      have h65 : Wb.heap.size ≤ (wr.drew.alloc (.cells #[.string (txt a)] 9)).heap.size := Nat.le_trans HI.out.grow.size (by rw [World.size_alloc]; exact Nat.le_succ _)
                      have H64 := hid (And.intro h64 h65)
                      have hpu : (Value.slice A1 D.length c1).ownBlock ≠ some (w1.heap.size + 1) := far_low rO (Nat.lt_of_lt_of_le (Nat.lt_succ_self _) HI.out.lo)
                      have hKA := hKd.alloc (.cells #[.string (txt a)] 9)
                      clear h64 h65 r63 hrow
                      go_cut [] (fun wx => ∃ u' W3, wx = W3.setCell ⟨w1.heap.size + 1, 1, none⟩ u' ∧ W3.ownsRow Wb.heap.size 9 1 u' (D.length + 1) (D.map strV ++ [strV a]) ∧ (wr.drew.alloc (.cells #[.string (txt a)] 9)).grownBy W3 (Value.slice A1 D.length c1).ownBlock ∧ (u'.ownBlock = (Value.slice A1 D.length c1).ownBlock ∨ u'.ownBlock = some (wr.drew.alloc (.cells #[.string (txt a)] 9)).heap.size))
                      case first =>
                        rename_i J9 K9 hJ9 hM9
                        as_aux_lemma =>
                          clear HR HS HT HEQ HTS bD bE hsw hw4
                          have k1A : (wr.alloc (.cells #[.string (txt a)] 9)).cell? ⟨w1.heap.size + 1, 1, none⟩ = some (.slice A1 D.length c1) := hKA.cell_ (i := 1) rfl
                          refine wp_region_held_drew (S := fun _ => True) (by kernel_rfl) trivial (fun hHeld => ?_)
                          refine' wpAnyH_take (i := 0) (v := .pointer (some ⟨w1.heap.size + 1, 1, none⟩)) rfl (by kernel_rfl) (by kernel_rfl) (by kernel_rfl) (fun _ _ _ h => h) (Or.inl ⟨by rfl, fun w' hw' => by go_simp⟩) hHeld ?_
                          try simp only [Act.put, List.getElem_toArray, List.getElem_cons_succ, List.getElem_cons_zero, List.setIfInBounds_toArray, List.set_cons_zero, List.set_cons_succ]
                          refine' wpAnyH_take (i := 2) (v := .slice (some ad) x.length c) rfl (by kernel_rfl) (by kernel_rfl) (by kernel_rfl) (fun _ _ _ h => h) (Or.inl ⟨by rfl, fun w' hw' => by go_simp⟩) hHeld ?_
                          try simp only [Act.put, List.getElem_toArray, List.getElem_cons_succ, List.getElem_cons_zero, List.setIfInBounds_toArray, List.set_cons_zero, List.set_cons_succ]
                          refine' wpAnyH_take (i := 3) (v := .int .i64 i) rfl (by kernel_rfl) (by kernel_rfl) (by kernel_rfl) (fun _ _ _ h => h) (Or.inl ⟨by rfl, fun w' hw' => by go_simp⟩) hHeld ?_
                          try simp only [Act.put, List.getElem_toArray, List.getElem_cons_succ, List.getElem_cons_zero, List.setIfInBounds_toArray, List.set_cons_zero, List.set_cons_succ]
                          refine' wpAnyH_take (i := 4) (v := .pointer (some (ad.add i))) rfl (by kernel_rfl) (by kernel_rfl) (by kernel_rfl) (fun _ _ _ h => h) (Or.inl ⟨by rfl, fun w' hw' => by go_simp⟩) hHeld ?_
                          try simp only [Act.put, List.getElem_toArray, List.getElem_cons_succ, List.getElem_cons_zero, List.setIfInBounds_toArray, List.set_cons_zero, List.set_cons_succ]
                          refine wpAnyH_ready (rs := [1, 5]) (by kernel_rfl) (by simp) ?_
                          refine AllReadyH.cons rfl (fun K hK => ?_) (AllReadyH.cons rfl (fun K hK => ?_) AllReadyH.nil)
                          · as_aux_lemma =>
                              go_simp
                              refine hK.out _ _ trivial (fun hHeld => ?_)
                              clear hK K
                              try simp only [Act.put, List.getElem_toArray, List.getElem_cons_succ, List.getElem_cons_zero, List.setIfInBounds_toArray, List.set_cons_zero, List.set_cons_succ]
                              refine wpAnyH_ready (rs := [5]) (by kernel_rfl) (by simp) ?_
                              refine AllReadyH.cons rfl (fun K hK => ?_) AllReadyH.nil
                              go_simp
                              refine hK.out _ _ trivial (fun hHeld => ?_)
                              clear hK K
                              try simp only [Act.put, List.getElem_toArray, List.getElem_cons_succ, List.getElem_cons_zero, List.setIfInBounds_toArray, List.set_cons_zero, List.set_cons_succ]
                              refine wpAnyH_ready (rs := [6]) (by kernel_rfl) (by simp) ?_
                              refine AllReadyH.cons rfl (fun K hK => ?_) AllReadyH.nil
                              go_simp
                              refine hK.out _ _ trivial (fun hHeld => ?_)
                              clear hK K
                              try simp only [Act.put, List.getElem_toArray, List.getElem_cons_succ, List.getElem_cons_zero, List.setIfInBounds_toArray, List.set_cons_zero, List.set_cons_succ]
                              refine wpAnyH_ready (rs := [7]) (by kernel_rfl) (by simp) ?_
                              refine AllReadyH.cons rfl (fun K hK => ?_) AllReadyH.nil
                              refine (if_pos (by kernel_rfl)).mpr ?_
                              refine wp_append_own2 (wr.drew.alloc (.cells #[.string (txt a)] 9)) _ _ 22 rfl Wb.heap.size 9 j0 (.string ⟨#[]⟩) 1 16 Try.underlying22 hj hjz hjs hjb rfl (by decide) _ _ _ rfl rO2 ⟨_, 0, none⟩ 1 1 (by decide) [.string (txt a)] rfl rfl (cell_one_new _ _ _) (by simp [Value.oneCell']) H64.out.1.1 H64.out.1.2 H64.out.2 ?_
                              intro u' W3 hown3 hg3 hv3
                              refine hK.out _ _ trivial (fun hHeld => ?_)
                              clear hK K
                              try simp only [Act.put, List.getElem_toArray, List.getElem_cons_succ, List.getElem_cons_zero, List.setIfInBounds_toArray, List.set_cons_zero, List.set_cons_succ]
                              refine' wpAnyH_take (i := 8) (v := .pointer (some ⟨w1.heap.size + 1, 1, none⟩)) rfl (by kernel_rfl) (by kernel_rfl) (by kernel_rfl) (fun _ _ _ h => h) (Or.inl ⟨by rfl, fun w' hw' => by go_simp⟩) hHeld ?_
                              try simp only [Act.put, List.getElem_toArray, List.getElem_cons_succ, List.getElem_cons_zero, List.setIfInBounds_toArray, List.set_cons_zero, List.set_cons_succ]
                              refine wpAnyH_ready (rs := [9]) (by kernel_rfl) (by simp) ?_
                              refine AllReadyH.cons rfl (fun K hK => ?_) AllReadyH.nil
                              obtain ⟨A9, c9, rfl⟩ := own_slice hown3
                              have hk3 := blk_next hKA hg3 hpu
                              have q1 := hk3.cell_ (i := 1) rfl
                              have f1 := hk3.frozen 1
                              go_simp
                              refine hK.out _ _ trivial (fun hHeld => ?_)
                              clear hK K
                              try simp only [Act.put, List.getElem_toArray, List.getElem_cons_succ, List.getElem_cons_zero, List.setIfInBounds_toArray, List.set_cons_zero, List.set_cons_succ]
                              refine wpAnyH_done (by kernel_rfl) ?_ _
                              refine hM9 _ _ (Met.intro (hJ9 _ _ ?_))
                              (repeat apply Exists.intro)
                              exact ⟨⟨_, W3, rfl, hown3, hg3, hv3⟩, rfl⟩
                          · as_aux_lemma =>
                              go_simp
                              refine hK.out _ _ trivial (fun hHeld => ?_)
                              clear hK K
                              try simp only [Act.put, List.getElem_toArray, List.getElem_cons_succ, List.getElem_cons_zero, List.setIfInBounds_toArray, List.set_cons_zero, List.set_cons_succ]
                              refine wpAnyH_ready (rs := [1, 6]) (by kernel_rfl) (by simp) ?_
                              refine AllReadyH.cons rfl (fun K hK => ?_) (AllReadyH.cons rfl (fun K hK => ?_) AllReadyH.nil)
                              · as_aux_lemma =>
                                  go_simp
                                  refine hK.out _ _ trivial (fun hHeld => ?_)
                                  clear hK K
                                  try simp only [Act.put, List.getElem_toArray, List.getElem_cons_succ, List.getElem_cons_zero, List.setIfInBounds_toArray, List.set_cons_zero, List.set_cons_succ]
                                  refine wpAnyH_ready (rs := [6]) (by kernel_rfl) (by simp) ?_
                                  refine AllReadyH.cons rfl (fun K hK => ?_) AllReadyH.nil
                                  go_simp
                                  refine hK.out _ _ trivial (fun hHeld => ?_)
                                  clear hK K
                                  try simp only [Act.put, List.getElem_toArray, List.getElem_cons_succ, List.getElem_cons_zero, List.setIfInBounds_toArray, List.set_cons_zero, List.set_cons_succ]
                                  refine wpAnyH_ready (rs := [7]) (by kernel_rfl) (by simp) ?_
                                  refine AllReadyH.cons rfl (fun K hK => ?_) AllReadyH.nil
                                  refine (if_pos (by kernel_rfl)).mpr ?_
                                  refine wp_append_own2 (wr.drew.alloc (.cells #[.string (txt a)] 9)) _ _ 22 rfl Wb.heap.size 9 j0 (.string ⟨#[]⟩) 1 16 Try.underlying22 hj hjz hjs hjb rfl (by decide) _ _ _ rfl rO2 ⟨_, 0, none⟩ 1 1 (by decide) [.string (txt a)] rfl rfl (cell_one_new _ _ _) (by simp [Value.oneCell']) H64.out.1.1 H64.out.1.2 H64.out.2 ?_
                                  intro u' W3 hown3 hg3 hv3
                                  refine hK.out _ _ trivial (fun hHeld => ?_)
                                  clear hK K
                                  try simp only [Act.put, List.getElem_toArray, List.getElem_cons_succ, List.getElem_cons_zero, List.setIfInBounds_toArray, List.set_cons_zero, List.set_cons_succ]
                                  refine' wpAnyH_take (i := 8) (v := .pointer (some ⟨w1.heap.size + 1, 1, none⟩)) rfl (by kernel_rfl) (by kernel_rfl) (by kernel_rfl) (fun _ _ _ h => h) (Or.inl ⟨by rfl, fun w' hw' => by go_simp⟩) hHeld ?_
                                  try simp only [Act.put, List.getElem_toArray, List.getElem_cons_succ, List.getElem_cons_zero, List.setIfInBounds_toArray, List.set_cons_zero, List.set_cons_succ]
                                  refine wpAnyH_ready (rs := [9]) (by kernel_rfl) (by simp) ?_
                                  refine AllReadyH.cons rfl (fun K hK => ?_) AllReadyH.nil
                                  obtain ⟨A9, c9, rfl⟩ := own_slice hown3
                                  have hk3 := blk_next hKA hg3 hpu
                                  have q1 := hk3.cell_ (i := 1) rfl
                                  have f1 := hk3.frozen 1
                                  go_simp
                                  refine hK.out _ _ trivial (fun hHeld => ?_)
                                  clear hK K
                                  try simp only [Act.put, List.getElem_toArray, List.getElem_cons_succ, List.getElem_cons_zero, List.setIfInBounds_toArray, List.set_cons_zero, List.set_cons_succ]
                                  refine wpAnyH_done (by kernel_rfl) ?_ _
                                  refine hM9 _ _ (Met.intro (hJ9 _ _ ?_))
                                  (repeat apply Exists.intro)
                                  exact ⟨⟨_, W3, rfl, hown3, hg3, hv3⟩, rfl⟩
                              · as_aux_lemma =>
                                  go_simp
                                  refine hK.out _ _ trivial (fun hHeld => ?_)
                                  clear hK K
                                  try simp only [Act.put, List.getElem_toArray, List.getElem_cons_succ, List.getElem_cons_zero, List.setIfInBounds_toArray, List.set_cons_zero, List.set_cons_succ]
                                  refine wpAnyH_ready (rs := [1]) (by kernel_rfl) (by simp) ?_
                                  refine AllReadyH.cons rfl (fun K hK => ?_) AllReadyH.nil
                                  go_simp
                                  refine hK.out _ _ trivial (fun hHeld => ?_)
                                  clear hK K
                                  try simp only [Act.put, List.getElem_toArray, List.getElem_cons_succ, List.getElem_cons_zero, List.setIfInBounds_toArray, List.set_cons_zero, List.set_cons_succ]
                                  refine wpAnyH_ready (rs := [7]) (by kernel_rfl) (by simp) ?_
                                  refine AllReadyH.cons rfl (fun K hK => ?_) AllReadyH.nil
                                  refine (if_pos (by kernel_rfl)).mpr ?_
                                  refine wp_append_own2 (wr.drew.alloc (.cells #[.string (txt a)] 9)) _ _ 22 rfl Wb.heap.size 9 j0 (.string ⟨#[]⟩) 1 16 Try.underlying22 hj hjz hjs hjb rfl (by decide) _ _ _ rfl rO2 ⟨_, 0, none⟩ 1 1 (by decide) [.string (txt a)] rfl rfl (cell_one_new _ _ _) (by simp [Value.oneCell']) H64.out.1.1 H64.out.1.2 H64.out.2 ?_
                                  intro u' W3 hown3 hg3 hv3
                                  refine hK.out _ _ trivial (fun hHeld => ?_)
                                  clear hK K
                                  try simp only [Act.put, List.getElem_toArray, List.getElem_cons_succ, List.getElem_cons_zero, List.setIfInBounds_toArray, List.set_cons_zero, List.set_cons_succ]
                                  refine' wpAnyH_take (i := 8) (v := .pointer (some ⟨w1.heap.size + 1, 1, none⟩)) rfl (by kernel_rfl) (by kernel_rfl) (by kernel_rfl) (fun _ _ _ h => h) (Or.inl ⟨by rfl, fun w' hw' => by go_simp⟩) hHeld ?_
                                  try simp only [Act.put, List.getElem_toArray, List.getElem_cons_succ, List.getElem_cons_zero, List.setIfInBounds_toArray, List.set_cons_zero, List.set_cons_succ]
                                  refine wpAnyH_ready (rs := [9]) (by kernel_rfl) (by simp) ?_
                                  refine AllReadyH.cons rfl (fun K hK => ?_) AllReadyH.nil
                                  obtain ⟨A9, c9, rfl⟩ := own_slice hown3
                                  have hk3 := blk_next hKA hg3 hpu
                                  have q1 := hk3.cell_ (i := 1) rfl
                                  have f1 := hk3.frozen 1
                                  go_simp
                                  refine hK.out _ _ trivial (fun hHeld => ?_)
                                  clear hK K
                                  try simp only [Act.put, List.getElem_toArray, List.getElem_cons_succ, List.getElem_cons_zero, List.setIfInBounds_toArray, List.set_cons_zero, List.set_cons_succ]
                                  refine wpAnyH_done (by kernel_rfl) ?_ _
                                  refine hM9 _ _ (Met.intro (hJ9 _ _ ?_))
                                  (repeat apply Exists.intro)
                                  exact ⟨⟨_, W3, rfl, hown3, hg3, hv3⟩, rfl⟩
                      case rest =>
                        obtain ⟨u', W3, hwx, hown3, hg3, hv3⟩ := hcut
                        have HNEW := hid (OfI.left HI.out rfl HEQ.out ((below_drew10 wr).trans (((Below.refl _ wr.drew).alloc (Nat.le_refl _) _).mono (below_drew10 wr).size)) hown3 hg3 hv3 hwx)
                        generalize wc = wr9 at *
                        clear rO rO2 hKA hKd hdr H64 hown3 hg3 hv3 hwx hpu k0 k1 k2 g0 g1 g2 HNOW HTS
                        have HI9 := hid hi9
                        have HIN := hid hin
                        have HJM := hid hjm
                        clear hi9 hin bD bE hsw bn bm hnc hmd hjm
                        go_wp2_with (fail)
                        go_roundw
                        case rel => exact ⟨V, i + 1, _, at', ds, D ++ [a], E, u', .slice A2 E.length c2, Wb, rfl, HI9.out, HJM.out, by go_num, rfl, HNEW⟩
                        case measure => first | exact meas_one HI9.out | (rw [hw1]; exact meas_one HI9.out)
                  | false =>
                    as_aux_lemma =>
                      obtain ⟨b, hb, hdg⟩ := HM2.out rfl
                      have hj9 := (List.getElem?_eq_some_iff.1 hb).1
                      have HEQ := hid hdg
                      obtain ⟨j0, hj, hjz, hjs, hjb⟩ := info_parts infoString
                      have hX := hb1.trans (HI.out.low.mono hb1.size)
                      obtain ⟨ad2, rfl, p1⟩ := rd_in (HS.out.below hX) j (strV b) (by rw [List.getElem?_map, hb]; rfl)
                      unfold strV at p1
                      obtain ⟨z2, z4, z6, hw2, hv2, h3j, h4j⟩ := nn_at hj9 bm
                      clear hb hdg hX HM HM2
                      have HNOW := hid HI.out.now
                      have k0 := HNOW.out.k.cell_ (i := 0) rfl
                      have k1 := HNOW.out.k.cell_ (i := 1) rfl
                      have k2 := HNOW.out.k.cell_ (i := 2) rfl
                      have g0 := HNOW.out.k.frozen 0
                      have g1 := HNOW.out.k.frozen 1
                      have g2 := HNOW.out.k.frozen 2
                      obtain ⟨ts, hrow, hts⟩ := HI.out.row
                      have HTS := hid hts
                      have bD := Nat.le_trans HI.out.b2 (Nat.le_trans hin bn)
                      have bE := Nat.le_trans HI.out.b3 (Nat.le_trans hjm bm)
                      have r63 := row63 (Nat.le_trans HI.out.b1 (Nat.le_trans hin bn))
                      have hsw := HI.out.low.size
                      have hw4 := sum_wrap bD bE
                      clear hts
                      go_wp2_with (fail)
                      have hdr := below_drew10 wr
                      have hKd : Blk wr.drew (w1.heap.size + 1) 40 #[.int .i64 at', .slice A1 D.length c1, .slice A2 E.length c2] := HNOW.out.k
                      have rO : wr.drew.ownsRow Wb.heap.size 9 1 (.slice A2 E.length c2) E.length (E.map strV) := HNOW.out.n
                      have rO2 := rO.alloc (.cells #[.string (txt b)] 9)
                      have h64 := row64 bE
                      have h65 : Wb.heap.size ≤ (wr.drew.alloc (.cells #[.string (txt b)] 9)).heap.size := Nat.le_trans HI.out.grow.size (by rw [World.size_alloc]; exact Nat.le_succ _)
                      have H64 := hid (And.intro h64 h65)
                      have hpu : (Value.slice A2 E.length c2).ownBlock ≠ some (w1.heap.size + 1) := far_low rO (Nat.lt_of_lt_of_le (Nat.lt_succ_self _) HI.out.lo)
                      have hKA := hKd.alloc (.cells #[.string (txt b)] 9)
                      clear h64 h65 r63 hrow
                      go_cut [] (fun wx => ∃ u' W3, wx = W3.setCell ⟨w1.heap.size + 1, 2, none⟩ u' ∧ W3.ownsRow Wb.heap.size 9 1 u' (E.length + 1) (E.map strV ++ [strV b]) ∧ (wr.drew.alloc (.cells #[.string (txt b)] 9)).grownBy W3 (Value.slice A2 E.length c2).ownBlock ∧ (u'.ownBlock = (Value.slice A2 E.length c2).ownBlock ∨ u'.ownBlock = some (wr.drew.alloc (.cells #[.string (txt b)] 9)).heap.size))
                      case first =>
                        rename_i J9 K9 hJ9 hM9
                        as_aux_lemma =>
                          clear HR HS HT HEQ HTS bD bE hsw hw4
                          have k1A : (wr.alloc (.cells #[.string (txt b)] 9)).cell? ⟨w1.heap.size + 1, 2, none⟩ = some (.slice A2 E.length c2) := hKA.cell_ (i := 2) rfl
                          refine wp_region_held_drew (S := fun _ => True) (by kernel_rfl) trivial (fun hHeld => ?_)
                          refine' wpAnyH_take (i := 0) (v := .pointer (some ⟨w1.heap.size + 1, 2, none⟩)) rfl (by kernel_rfl) (by kernel_rfl) (by kernel_rfl) (fun _ _ _ h => h) (Or.inl ⟨by rfl, fun w' hw' => by go_simp⟩) hHeld ?_
                          try simp only [Act.put, List.getElem_toArray, List.getElem_cons_succ, List.getElem_cons_zero, List.setIfInBounds_toArray, List.set_cons_zero, List.set_cons_succ]
                          refine' wpAnyH_take (i := 2) (v := .slice (some ad2) y.length d) rfl (by kernel_rfl) (by kernel_rfl) (by kernel_rfl) (fun _ _ _ h => h) (Or.inl ⟨by rfl, fun w' hw' => by go_simp⟩) hHeld ?_
                          try simp only [Act.put, List.getElem_toArray, List.getElem_cons_succ, List.getElem_cons_zero, List.setIfInBounds_toArray, List.set_cons_zero, List.set_cons_succ]
                          refine' wpAnyH_take (i := 3) (v := .int .i64 j) rfl (by kernel_rfl) (by kernel_rfl) (by kernel_rfl) (fun _ _ _ h => h) (Or.inl ⟨by rfl, fun w' hw' => by go_simp⟩) hHeld ?_
                          try simp only [Act.put, List.getElem_toArray, List.getElem_cons_succ, List.getElem_cons_zero, List.setIfInBounds_toArray, List.set_cons_zero, List.set_cons_succ]
                          refine' wpAnyH_take (i := 4) (v := .pointer (some (ad2.add j))) rfl (by kernel_rfl) (by kernel_rfl) (by kernel_rfl) (fun _ _ _ h => h) (Or.inl ⟨by rfl, fun w' hw' => by go_simp⟩) hHeld ?_
                          try simp only [Act.put, List.getElem_toArray, List.getElem_cons_succ, List.getElem_cons_zero, List.setIfInBounds_toArray, List.set_cons_zero, List.set_cons_succ]
                          refine wpAnyH_ready (rs := [1, 5]) (by kernel_rfl) (by simp) ?_
                          refine AllReadyH.cons rfl (fun K hK => ?_) (AllReadyH.cons rfl (fun K hK => ?_) AllReadyH.nil)
                          · as_aux_lemma =>
                              go_simp
                              refine hK.out _ _ trivial (fun hHeld => ?_)
                              clear hK K
                              try simp only [Act.put, List.getElem_toArray, List.getElem_cons_succ, List.getElem_cons_zero, List.setIfInBounds_toArray, List.set_cons_zero, List.set_cons_succ]
                              refine wpAnyH_ready (rs := [5]) (by kernel_rfl) (by simp) ?_
                              refine AllReadyH.cons rfl (fun K hK => ?_) AllReadyH.nil
                              go_simp
                              refine hK.out _ _ trivial (fun hHeld => ?_)
                              clear hK K
                              try simp only [Act.put, List.getElem_toArray, List.getElem_cons_succ, List.getElem_cons_zero, List.setIfInBounds_toArray, List.set_cons_zero, List.set_cons_succ]
                              refine wpAnyH_ready (rs := [6]) (by kernel_rfl) (by simp) ?_
                              refine AllReadyH.cons rfl (fun K hK => ?_) AllReadyH.nil
                              go_simp
                              refine hK.out _ _ trivial (fun hHeld => ?_)
                              clear hK K
                              try simp only [Act.put, List.getElem_toArray, List.getElem_cons_succ, List.getElem_cons_zero, List.setIfInBounds_toArray, List.set_cons_zero, List.set_cons_succ]
                              refine wpAnyH_ready (rs := [7]) (by kernel_rfl) (by simp) ?_
                              refine AllReadyH.cons rfl (fun K hK => ?_) AllReadyH.nil
                              refine (if_pos (by kernel_rfl)).mpr ?_
                              refine wp_append_own2 (wr.drew.alloc (.cells #[.string (txt b)] 9)) _ _ 22 rfl Wb.heap.size 9 j0 (.string ⟨#[]⟩) 1 16 Try.underlying22 hj hjz hjs hjb rfl (by decide) _ _ _ rfl rO2 ⟨_, 0, none⟩ 1 1 (by decide) [.string (txt b)] rfl rfl (cell_one_new _ _ _) (by simp [Value.oneCell']) H64.out.1.1 H64.out.1.2 H64.out.2 ?_
                              intro u' W3 hown3 hg3 hv3
                              refine hK.out _ _ trivial (fun hHeld => ?_)
                              clear hK K
                              try simp only [Act.put, List.getElem_toArray, List.getElem_cons_succ, List.getElem_cons_zero, List.setIfInBounds_toArray, List.set_cons_zero, List.set_cons_succ]
                              refine' wpAnyH_take (i := 8) (v := .pointer (some ⟨w1.heap.size + 1, 2, none⟩)) rfl (by kernel_rfl) (by kernel_rfl) (by kernel_rfl) (fun _ _ _ h => h) (Or.inl ⟨by rfl, fun w' hw' => by go_simp⟩) hHeld ?_
                              try simp only [Act.put, List.getElem_toArray, List.getElem_cons_succ, List.getElem_cons_zero, List.setIfInBounds_toArray, List.set_cons_zero, List.set_cons_succ]
                              refine wpAnyH_ready (rs := [9]) (by kernel_rfl) (by simp) ?_
                              refine AllReadyH.cons rfl (fun K hK => ?_) AllReadyH.nil
                              obtain ⟨A9, c9, rfl⟩ := own_slice hown3
                              have hk3 := blk_next hKA hg3 hpu
                              have q1 := hk3.cell_ (i := 2) rfl
                              have f1 := hk3.frozen 2
                              go_simp
                              refine hK.out _ _ trivial (fun hHeld => ?_)
                              clear hK K
                              try simp only [Act.put, List.getElem_toArray, List.getElem_cons_succ, List.getElem_cons_zero, List.setIfInBounds_toArray, List.set_cons_zero, List.set_cons_succ]
                              refine wpAnyH_done (by kernel_rfl) ?_ _
                              refine hM9 _ _ (Met.intro (hJ9 _ _ ?_))
                              (repeat apply Exists.intro)
                              exact ⟨⟨_, W3, rfl, hown3, hg3, hv3⟩, rfl⟩
                          · as_aux_lemma =>
                              go_simp
                              refine hK.out _ _ trivial (fun hHeld => ?_)
                              clear hK K
                              try simp only [Act.put, List.getElem_toArray, List.getElem_cons_succ, List.getElem_cons_zero, List.setIfInBounds_toArray, List.set_cons_zero, List.set_cons_succ]
                              refine wpAnyH_ready (rs := [1, 6]) (by kernel_rfl) (by simp) ?_
                              refine AllReadyH.cons rfl (fun K hK => ?_) (AllReadyH.cons rfl (fun K hK => ?_) AllReadyH.nil)
                              · as_aux_lemma =>
                                  go_simp
                                  refine hK.out _ _ trivial (fun hHeld => ?_)
                                  clear hK K
                                  try simp only [Act.put, List.getElem_toArray, List.getElem_cons_succ, List.getElem_cons_zero, List.setIfInBounds_toArray, List.set_cons_zero, List.set_cons_succ]
                                  refine wpAnyH_ready (rs := [6]) (by kernel_rfl) (by simp) ?_
                                  refine AllReadyH.cons rfl (fun K hK => ?_) AllReadyH.nil
                                  go_simp
                                  refine hK.out _ _ trivial (fun hHeld => ?_)
                                  clear hK K
                                  try simp only [Act.put, List.getElem_toArray, List.getElem_cons_succ, List.getElem_cons_zero, List.setIfInBounds_toArray, List.set_cons_zero, List.set_cons_succ]
                                  refine wpAnyH_ready (rs := [7]) (by kernel_rfl) (by simp) ?_
                                  refine AllReadyH.cons rfl (fun K hK => ?_) AllReadyH.nil
                                  refine (if_pos (by kernel_rfl)).mpr ?_
                                  refine wp_append_own2 (wr.drew.alloc (.cells #[.string (txt b)] 9)) _ _ 22 rfl Wb.heap.size 9 j0 (.string ⟨#[]⟩) 1 16 Try.underlying22 hj hjz hjs hjb rfl (by decide) _ _ _ rfl rO2 ⟨_, 0, none⟩ 1 1 (by decide) [.string (txt b)] rfl rfl (cell_one_new _ _ _) (by simp [Value.oneCell']) H64.out.1.1 H64.out.1.2 H64.out.2 ?_
                                  intro u' W3 hown3 hg3 hv3
                                  refine hK.out _ _ trivial (fun hHeld => ?_)
                                  clear hK K
                                  try simp only [Act.put, List.getElem_toArray, List.getElem_cons_succ, List.getElem_cons_zero, List.setIfInBounds_toArray, List.set_cons_zero, List.set_cons_succ]
                                  refine' wpAnyH_take (i := 8) (v := .pointer (some ⟨w1.heap.size + 1, 2, none⟩)) rfl (by kernel_rfl) (by kernel_rfl) (by kernel_rfl) (fun _ _ _ h => h) (Or.inl ⟨by rfl, fun w' hw' => by go_simp⟩) hHeld ?_
                                  try simp only [Act.put, List.getElem_toArray, List.getElem_cons_succ, List.getElem_cons_zero, List.setIfInBounds_toArray, List.set_cons_zero, List.set_cons_succ]
                                  refine wpAnyH_ready (rs := [9]) (by kernel_rfl) (by simp) ?_
                                  refine AllReadyH.cons rfl (fun K hK => ?_) AllReadyH.nil
                                  obtain ⟨A9, c9, rfl⟩ := own_slice hown3
                                  have hk3 := blk_next hKA hg3 hpu
                                  have q1 := hk3.cell_ (i := 2) rfl
                                  have f1 := hk3.frozen 2
                                  go_simp
                                  refine hK.out _ _ trivial (fun hHeld => ?_)
                                  clear hK K
                                  try simp only [Act.put, List.getElem_toArray, List.getElem_cons_succ, List.getElem_cons_zero, List.setIfInBounds_toArray, List.set_cons_zero, List.set_cons_succ]
                                  refine wpAnyH_done (by kernel_rfl) ?_ _
                                  refine hM9 _ _ (Met.intro (hJ9 _ _ ?_))
                                  (repeat apply Exists.intro)
                                  exact ⟨⟨_, W3, rfl, hown3, hg3, hv3⟩, rfl⟩
                              · as_aux_lemma =>
                                  go_simp
                                  refine hK.out _ _ trivial (fun hHeld => ?_)
                                  clear hK K
                                  try simp only [Act.put, List.getElem_toArray, List.getElem_cons_succ, List.getElem_cons_zero, List.setIfInBounds_toArray, List.set_cons_zero, List.set_cons_succ]
                                  refine wpAnyH_ready (rs := [1]) (by kernel_rfl) (by simp) ?_
                                  refine AllReadyH.cons rfl (fun K hK => ?_) AllReadyH.nil
                                  go_simp
                                  refine hK.out _ _ trivial (fun hHeld => ?_)
                                  clear hK K
                                  try simp only [Act.put, List.getElem_toArray, List.getElem_cons_succ, List.getElem_cons_zero, List.setIfInBounds_toArray, List.set_cons_zero, List.set_cons_succ]
                                  refine wpAnyH_ready (rs := [7]) (by kernel_rfl) (by simp) ?_
                                  refine AllReadyH.cons rfl (fun K hK => ?_) AllReadyH.nil
                                  refine (if_pos (by kernel_rfl)).mpr ?_
                                  refine wp_append_own2 (wr.drew.alloc (.cells #[.string (txt b)] 9)) _ _ 22 rfl Wb.heap.size 9 j0 (.string ⟨#[]⟩) 1 16 Try.underlying22 hj hjz hjs hjb rfl (by decide) _ _ _ rfl rO2 ⟨_, 0, none⟩ 1 1 (by decide) [.string (txt b)] rfl rfl (cell_one_new _ _ _) (by simp [Value.oneCell']) H64.out.1.1 H64.out.1.2 H64.out.2 ?_
                                  intro u' W3 hown3 hg3 hv3
                                  refine hK.out _ _ trivial (fun hHeld => ?_)
                                  clear hK K
                                  try simp only [Act.put, List.getElem_toArray, List.getElem_cons_succ, List.getElem_cons_zero, List.setIfInBounds_toArray, List.set_cons_zero, List.set_cons_succ]
                                  refine' wpAnyH_take (i := 8) (v := .pointer (some ⟨w1.heap.size + 1, 2, none⟩)) rfl (by kernel_rfl) (by kernel_rfl) (by kernel_rfl) (fun _ _ _ h => h) (Or.inl ⟨by rfl, fun w' hw' => by go_simp⟩) hHeld ?_
                                  try simp only [Act.put, List.getElem_toArray, List.getElem_cons_succ, List.getElem_cons_zero, List.setIfInBounds_toArray, List.set_cons_zero, List.set_cons_succ]
                                  refine wpAnyH_ready (rs := [9]) (by kernel_rfl) (by simp) ?_
                                  refine AllReadyH.cons rfl (fun K hK => ?_) AllReadyH.nil
                                  obtain ⟨A9, c9, rfl⟩ := own_slice hown3
                                  have hk3 := blk_next hKA hg3 hpu
                                  have q1 := hk3.cell_ (i := 2) rfl
                                  have f1 := hk3.frozen 2
                                  go_simp
                                  refine hK.out _ _ trivial (fun hHeld => ?_)
                                  clear hK K
                                  try simp only [Act.put, List.getElem_toArray, List.getElem_cons_succ, List.getElem_cons_zero, List.setIfInBounds_toArray, List.set_cons_zero, List.set_cons_succ]
                                  refine wpAnyH_done (by kernel_rfl) ?_ _
                                  refine hM9 _ _ (Met.intro (hJ9 _ _ ?_))
                                  (repeat apply Exists.intro)
                                  exact ⟨⟨_, W3, rfl, hown3, hg3, hv3⟩, rfl⟩
                      case rest =>
                        obtain ⟨u', W3, hwx, hown3, hg3, hv3⟩ := hcut
                        have HNEW := hid (OfI.right HI.out rfl HEQ.out ((below_drew10 wr).trans (((Below.refl _ wr.drew).alloc (Nat.le_refl _) _).mono (below_drew10 wr).size)) hown3 hg3 hv3 hwx)
                        generalize wc = wr9 at *
                        clear rO rO2 hKA hKd hdr H64 hown3 hg3 hv3 hwx hpu k0 k1 k2 g0 g1 g2 HNOW HTS
                        have HJ9 := hid hj9
                        have HIN := hid hin
                        have HJM := hid hjm
                        clear hj9 hin bD bE hsw bn bm hnc hmd hjm
                        go_wp2_with (fail)
                        go_roundw
                        case rel => exact ⟨V, _, j + 1, at', ds, D, E ++ [b], .slice A1 D.length c1, u', Wb, rfl, HIN.out, HJ9.out, rfl, by go_num, HNEW⟩
                        case measure => first | exact meas_one2 HJ9.out | (rw [hw2]; exact meas_one2 HJ9.out)
      · rw [decide_eq_false hend]
        as_aux_lemma =>
          have hi9 : ¬ i < x.length := fun e => hend (Or.inl e)
          have hj9 : ¬ j < y.length := fun e => hend (Or.inr e)
          obtain rfl : i = x.length := Nat.le_antisymm hin (Nat.le_of_not_lt hi9)
          obtain rfl : j = y.length := Nat.le_antisymm hjm (Nat.le_of_not_lt hj9)
          have hX := hb1.trans (HI.out.low.mono hb1.size)
          obtain ⟨i0, hi, hz0, hz1, hz2⟩ := info_parts infoHunkR
          have HEQ := hid (dg_e (x := x) (y := y) (at' := at') (D := D) (E := E) (Nat.le_refl x.length) (Nat.le_refl y.length))
          have z1 : ¬ (x.length : Int) < x.length := Int.lt_irrefl _
          have z2 : ¬ (y.length : Int) < y.length := Int.lt_irrefl _
          have z3 : ¬ x.length < x.length := Nat.lt_irrefl _
          have z4 : ¬ y.length < y.length := Nat.lt_irrefl _
          clear hi9 hj9 hend
          have HNOW := hid HI.out.now
          have k0 := HNOW.out.k.cell_ (i := 0) rfl
          have k1 := HNOW.out.k.cell_ (i := 1) rfl
          have k2 := HNOW.out.k.cell_ (i := 2) rfl
          have g0 := HNOW.out.k.frozen 0
          have g1 := HNOW.out.k.frozen 1
          have g2 := HNOW.out.k.frozen 2
          obtain ⟨ts, hrow, hts⟩ := HI.out.row
          have HTS := hid hts
          have bD := Nat.le_trans HI.out.b2 (Nat.le_trans hin bn)
          have bE := Nat.le_trans HI.out.b3 (Nat.le_trans hjm bm)
          have r63 := row63 (Nat.le_trans HI.out.b1 (Nat.le_trans hin bn))
          have hsw := HI.out.low.size
          have hw4 := sum_wrap bD bE
          clear hts
          have HBN := hid bn
          have HBM := hid bm
          have HBD := hid bD
          have HBE := hid bE
          have HR63 := hid r63
          have HSW := hid hsw
          clear bn bm hnc hmd hin hjm bD bE
          by_cases hz : D.length + E.length = 0
          · obtain ⟨s1, s2⟩ := sum_zero hz
            have HFL := hid (show flu at' D E = [] by unfold flu; rw [if_pos hz])
            clear hz r63 hsw
            go_wp2_with (fail)
            go_ret
            exact ⟨V, rfl, _, hb1.size, by rw [HI.out.eq, HEQ.out, HFL.out, List.append_nil]; exact ⟨ts, hrow, HTS.out⟩, hX⟩
          · obtain ⟨s1, s2⟩ := sum_pos hz
            have HFL := hid (show flu at' D E = [(at', D, E)] by unfold flu; rw [if_neg hz])
            clear hz
            have HROW := hid hrow
            have r1 := hrow.alloc (.cells #[.int .i64 at', .slice A1 D.length c1, .slice A2 E.length c2] 40)
            have h63 := r63.1
            have h64 := r63.2
            have h65 : w1.heap.size ≤ (wr.alloc (.cells #[.int .i64 at', .slice A1 D.length c1, .slice A2 E.length c2] 40)).heap.size := Nat.le_trans hsw (by rw [World.size_alloc]; exact Nat.le_succ _)
            have hWA := (Below.refl wr.heap.size wr).alloc (Nat.le_refl _) (.cells #[.int .i64 at', .slice A1 D.length c1, .slice A2 E.length c2] 40)
            have H63 := hid (And.intro h63 (And.intro h64 h65))
            have HBB := hid hb1
            clear h63 h64 h65 hrow hsw r63 hX hb1
            go_wp2_with (at_builtin; refine wpList_append_own2 _ rfl _ _ 32 rfl w1.heap.size 40 i0 (.agg #[.int .i64 0, .slice none 0 0, .slice none 0 0]) 3 56 Try.underlying32 hi hz0 hz1 hz2 rfl (by decide) _ _ _ rfl r1 ⟨_, 0, none⟩ 1 1 (by decide) [.int .i64 at', .slice A1 D.length c1, .slice A2 E.length c2] rfl rfl (cell_three_new _ _ _ _ _) (by simp [Value.oneCell']) H63.out.1 H63.out.2.1 H63.out.2.2 ?_; intro V' W3 hown3 hg3 hv3; have hfar3 := far_next HI.out.far hv3 (Nat.lt_of_lt_of_le HNOW.out.k.lt hWA.size); have hk3 := blk_next (HNOW.out.k.alloc (.cells #[.int .i64 at', .slice A1 D.length c1, .slice A2 E.length c2] 40)) hg3 HI.out.far; have q0 := hk3.cell_ (i := 0) rfl; have q1 := hk3.cell_ (i := 1) rfl; have q2 := hk3.cell_ (i := 2) rfl; have f0 := hk3.frozen 0; have f1 := hk3.frozen 1; have f2 := hk3.frozen 2; clear k0 k1 k2 g0 g1 g2)
            have hOW := HOwnR.more HTS.out HNOW.out (Nat.le_trans (Nat.le_add_right _ _) HI.out.lo) HBD.out HBE.out hWA r1 hown3 hg3
            have hlow3 : Below w1.heap.size w1 W3 := (HI.out.low.trans (hWA.mono HSW.out)).grown hg3 (Nat.le_trans HSW.out hWA.size) (fun k hk => (r1.lt k hk).1)
            go_ret
            exact ⟨V', rfl, _, HBB.out.size, by rw [HI.out.eq, HEQ.out, HFL.out]; exact hOW, HBB.out.trans (hlow3.mono HBB.out.size)⟩
end Go.Proofs.Ytplcfdmehnilnaa

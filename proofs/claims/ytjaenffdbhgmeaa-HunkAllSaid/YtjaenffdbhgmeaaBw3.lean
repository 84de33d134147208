
/- hunk: all hunks the other way, from the last one on: Back. -/
import Derived.Test.YtjaenffdbhgmeaaBw1
import Derived.Test.YtjaenffdbhgmeaaHunkApplies
import Derived.Test.YtjaenffdbhgmeaaOrd
set_option linter.unusedSimpArgs false
set_option linter.unusedVariables false
namespace Go.Proofs.Ytjaenffdbhgmeaa
open Go.RowKit Go.Qc Go.Shelf
attribute [local go_sem] txt_size txt_append ib_fold txt_toL
attribute [local go_sem] Oper.semAt_some

theorem hbackward_any (A : Option Addr) (N c : Nat) (w : World) :
    Calls Try.prog 47 #[.slice A N c] w fun e w' => e = .returned (.func (.func 84) #[] #[.pointer (some ⟨w.heap.size, 0, none⟩)]) ∧ w' = w.alloc (.cells #[.slice A N c] 38) := by
  go_enter Try.func47, Try.ntmps47
  go_wp2
  go_ret
  exact ⟨rfl, rfl⟩
theorem hb_stops (n : Nat) (hn : 1 ≤ n) (Bn M : Nat) (A : Option Addr) (N c : Nat) (hs : List Hc) (hN : hs.length = N) (bN : N ≤ 1000000) (w0 w : World) (hM : w0.heap.size = M) (hMw : M ≤ w.heap.size) (hw : OldK M w0 w) (hBn : Bn < w.heap.size) (hc : w.cell? ⟨Bn, 0, none⟩ = some (.slice A N c)) (hA : hbIn w0 A hs) :
    SeqStopsK Fence.wide n Try.prog 84 #[.pointer (some ⟨Bn, 0, none⟩)] (fun x : Fin N => hbEnc hs x.val) (KpB M Bn) (fun ys => ys.map (·.val) = (List.range N).reverse) (fun pre => pre.length ≤ N) N w :=
  fun l J Jx W hW _ _ hY h0 => hb1_in n hn l Bn A N c hs hN bN M w0 (Nat.le_of_eq hM) hA J Jx W (hw.trans (OldK.below (hW.mono hMw))) ((hW.cell (p := ⟨Bn, 0, none⟩) hBn).trans hc) hY h0
/-- A row's cells stay where something else than cells is changed. -/
theorem own_grown {W W' : World} {base n size : Nat} {e : TypeId} {v : Value} {xs : List Value} {row : Option Nat} (hr : W.ownsRow base e size v n xs) (hg : W.grownBy W' row) (hrow : ∀ r, row = some r → ∃ o : Obj, W.heap[r]? = some o ∧ o.isCells = false) : W'.ownsRow base e size v n xs := by
  refine hr.kept hg ?_
  rcases hr.2 with ⟨rfl, _⟩ | ⟨g, cap, cur, rfl, _, hgb, _⟩
  · exact .inl rfl
  · refine .inr fun e' => ?_
    obtain ⟨o, ho, hc⟩ := hrow g (by simpa [Value.ownBlock] using e'.symm)
    rw [hgb] at ho; cases ho; cases hc
/-- Two owned rows of different types lie apart. -/
theorem own_apart {W W' : World} {b1 b2 n m s1 s2 : Nat} {e1 e2 : TypeId} {v u : Value} {xs ys : List Value} (hne : e1 ≠ e2) (h : W.ownsRow b1 e1 s1 v n xs) (hw : W.ownsRow b2 e2 s2 u m ys) (hg : W.grownBy W' u.ownBlock) : W'.ownsRow b1 e1 s1 v n xs := by
  refine h.kept hg ?_
  rcases h.2 with ⟨rfl, _⟩ | ⟨g, cap, cur, rfl, _, hb, _⟩
  · exact .inl rfl
  · right
    rcases hw.2 with ⟨rfl, _⟩ | ⟨g2, cap2, cur2, rfl, _, hb2, _⟩
    · simp [Value.ownBlock]
    · simp only [Value.ownBlock]
      intro e
      have e := Option.some.inj e
      subst e
      rw [hb] at hb2
      injection hb2 with hb2
      injection hb2 with _ h3 _
      exact hne h3
theorem KpB.later {M Bn : Nat} {W W' : World} (h : Below W.heap.size W W') : KpB M Bn W W' := ⟨fun p u _ hu => (h.cell (cell_lt hu)).trans hu, fun u hu => (h.cell (cell_lt hu)).trans hu⟩
theorem own_slice {W : World} {base n : Nat} {e : TypeId} {v : Value} {xs : List Value} {size : Nat} (h : W.ownsRow base e size v n xs) : ∃ A c, v = .slice A n c := by
  rcases h.2 with ⟨rfl, h0⟩ | ⟨g, cap, cur, rfl, _⟩
  · subst h0; exact ⟨_, _, rfl⟩
  · exact ⟨_, _, rfl⟩
theorem cell_three_new (W : World) (a b c : Value) (t : TypeId) : ∀ (j : Nat) (u : Value), [a, b, c][j]? = some u → (W.alloc (.cells #[a, b, c] t)).cell? ((⟨W.heap.size, 0, none⟩ : Addr).add j) = some u := by
  intro j u hu
  have hk := Blk.new W t #[a, b, c]
  match j, hu with
  | 0, hu => cases hu; exact hk.cell_ (i := 0) rfl
  | 1, hu => cases hu; exact hk.cell_ (i := 1) rfl
  | 2, hu => cases hu; exact hk.cell_ (i := 2) rfl
  | j + 3, hu => simp at hu
/-- A hunk's cells, whose rows are owned. -/
def HcOwn (W : World) (base : Nat) (t : Hc) (d : HunkD) : Prop := t.1 = d.1 ∧ W.ownsRow base 9 1 t.2.1 d.2.1.length (d.2.1.map strV) ∧ W.ownsRow base 9 1 t.2.2 d.2.2.length (d.2.2.map strV) ∧ d.2.1.length ≤ 1000 ∧ d.2.2.length ≤ 1000
def hcCells (t : Hc) : List Value := [.int .i64 t.1, t.2.1, t.2.2]
/-- Hunks whose rows are owned. -/
def HcsOwn (W : World) (base : Nat) (ts : List Hc) (ds : List HunkD) : Prop := ts.length = ds.length ∧ ∀ (j : Nat) (t : Hc) (d : HunkD), ts[j]? = some t → ds[j]? = some d → HcOwn W base t d
theorem HcsOwn.step {W W' : World} {base : Nat} {ts : List Hc} {ds : List HunkD} (h : HcsOwn W base ts ds) (k : ∀ v n xs, W.ownsRow base 9 1 v n xs → W'.ownsRow base 9 1 v n xs) : HcsOwn W' base ts ds :=
  ⟨h.1, fun j t d h1 h2 => by obtain ⟨a, b, c, e, f⟩ := h.2 j t d h1 h2; exact ⟨a, k _ _ _ b, k _ _ _ c, e, f⟩⟩
theorem HcsOwn.snoc {W : World} {base : Nat} {ts : List Hc} {ds : List HunkD} {t : Hc} {d : HunkD} (h : HcsOwn W base ts ds) (k : HcOwn W base t d) : HcsOwn W base (ts ++ [t]) (ds ++ [d]) := by
  refine ⟨by rw [List.length_append, List.length_append, h.1]; rfl, fun j a b h1 h2 => ?_⟩
  by_cases hj : j < ts.length
  · rw [List.getElem?_append_left hj] at h1
    rw [List.getElem?_append_left (by rw [← h.1]; exact hj)] at h2
    exact h.2 j a b h1 h2
  · rw [List.getElem?_append_right (by omega)] at h1
    rw [List.getElem?_append_right (by rw [← h.1]; omega), ← h.1] at h2
    cases hk : j - ts.length with
    | zero => rw [hk] at h1 h2; simp at h1 h2; subst h1 h2; exact k
    | succ i => rw [hk] at h1; simp at h1
theorem infoHunk3 : (Try.prog.info? 42).map (fun i => (i.zero, i.size, i.bytes)) = some (some (.agg #[.int .i64 0, .slice none 0 0, .slice none 0 0]), 3, 56) := by kernel_rfl
/-- What comes in, as the iterator hands it on. -/
def rowOf (hs : List Hc) (x : Nat) : Hc := hs.getD x (0, undef, undef)
set_option maxRecDepth 100000 in
set_option maxHeartbeats 4000000 in
theorem back_any (A : Option Addr) (N c : Nat) (hs : List Hc) (ds : List HunkD) (hN : hs.length = N) (bN : N ≤ 100000) (w : World) (hA : hbIn w A hs)
    (hsl : ∀ (x : Fin N) r, rowOf hs x.val = r → (∃ A n c, r.2.1 = .slice A n c) ∧ ∃ A n c, r.2.2 = .slice A n c)
    (cI : ∀ W, Below w.heap.size w W → ∀ x : Fin N, Calls Try.prog 48 #[hcV (rowOf hs x.val)] W fun e w' => ∃ t : Hc, e = .returned (hcV t) ∧ HcOwn w' W.heap.size t (invD (ds.getD x.val (0, [], []))) ∧ Below W.heap.size W w') :
    Calls Try.prog 17 #[.slice A N c] w fun e w' => ∃ v ts, e = .returned v ∧ w'.ownsRow w.heap.size 42 3 v N (ts.flatMap hcCells) ∧ HcsOwn w' w.heap.size ts ((List.range N).reverse.map fun x => invD (ds.getD x (0, [], []))) ∧ Below w.heap.size w w' := by
  refine (callsIn_wide (n := 3)).1 ?_
  obtain ⟨i0, hi, hz0, hz1, hz2⟩ := info_parts infoHunk3
  have HA := hid hA
  have HC := hid cI
  have HSL := hid hsl
  clear hA cI hsl
  refine callsIn_of_wp_marks Try.func17 rfl trivial ?_ rfl
  simp only [Try.ntmps17, List.size_toArray, List.length_cons, List.length_nil, Nat.reduceAdd, Nat.reduceSub, Array.replicate_succ, Array.replicate_zero, List.push_toArray, List.append_toArray, List.nil_append, List.cons_append]
  gi_wp2_with (first
    | (gi_at_make; refine wpListIn_make_own _ rfl _ _ 38 rfl w.heap.size 42 i0 (.agg #[.int .i64 0, .slice none 0 0, .slice none 0 0]) 3 Try.underlying38 hi hz0 hz1 _ _ _ N rfl rfl rfl ?m1 ?m2 ?m3 ?_)
    | (refine ⟨trivial, ?_⟩; gi_at_call 47; refine (callsIn_wide.2 (hbackward_any _ _ _ _)).mono ?_; rintro e1 w1 ⟨rfl, rfl⟩))
  case m1 => rw [hz2]; omega
  case m2 => unfold maxLen; omega
  case m3 => exact Nat.le_refl _
  intro w1 hown1 hg1
  have hw1 : Below w.heap.size w w1 := (Below.refl _ w).grown hg1 (Nat.le_refl _) (fun k e => by cases e)
  have hlt1 : w.heap.size < w1.heap.size := (hown1.lt w.heap.size rfl).2
  gi_wp2_with (first
    | (refine ⟨trivial, ?_⟩; gi_at_call 47; refine (callsIn_wide.2 (hbackward_any _ _ _ _)).mono ?_; rintro e1 w1 ⟨rfl, rfl⟩))
  have x1 := (Boxed.new w1 38 (.slice (some ⟨w.heap.size, 0, none⟩) 0 N)).alloc (.cells #[.slice A N c] 38)
  have x2 := Boxed.new (w1.alloc (.cells #[.slice (some ⟨w.heap.size, 0, none⟩) 0 N] 38)) 38 (.slice A N c)
  simp only [World.size_alloc] at x2
  have hown2 := (hown1.alloc (.cells #[.slice (some ⟨w.heap.size, 0, none⟩) 0 N] 38)).alloc (.cells #[.slice A N c] 38)
  have hw2 : Below w.heap.size w ((w1.alloc (.cells #[.slice (some ⟨w.heap.size, 0, none⟩) 0 N] 38)).alloc (.cells #[.slice A N c] 38)) := (hw1.alloc (Nat.le_of_lt hlt1) _).alloc (by simp; omega) _
  have hsz : ((w1.alloc (.cells #[.slice (some ⟨w.heap.size, 0, none⟩) 0 N] 38)).alloc (.cells #[.slice A N c] 38)).heap.size = w1.heap.size + 1 + 1 := by simp
  obtain ⟨b, hb⟩ : ∃ b, b = w1.heap.size := ⟨_, rfl⟩
  rw [← hb] at hsz hlt1 x1 x2 ⊢
  generalize hW2 : (w1.alloc (.cells #[.slice (some ⟨w.heap.size, 0, none⟩) 0 N] 38)).alloc (.cells #[.slice A N c] 38) = w2 at *
  clear hown1 hg1 hw1 hW2 hb
  refine wpIn_rangeFunc_ownH rfl (by omega) (gf := 84) (lb := #[.pointer (some ⟨b + 1, 0, none⟩)]) rfl trivial (enters_of Try.func84 (by kernel_rfl) rfl)
    (hb_stops (3 - 1) (by omega) (b + 1) w.heap.size A N c hs hN (by omega) w w2 rfl (by omega) (OldK.below hw2) (by omega) x2.cell HA.out) (fun h k => KpB.trans h k) (fun W l o o' hl _ _ _ => KpB.put W l o' (by omega) (by omega)) (Below.refl _ _) (fun _ => rfl)
    (fun pre W => (∃ v ts, Boxed W b 38 v ∧ W.ownsRow w.heap.size 42 3 v pre.length (ts.flatMap hcCells) ∧ HcsOwn W w.heap.size ts (pre.map fun x => invD (ds.getD x.val (0, [], [])))) ∧ Boxed W (b + 1) 38 (.slice A N c) ∧ Below w.heap.size w W)
    (fun _ _ _ => False)
    ?own (fun _ _ _ _ _ hs _ _ => hs)
    ⟨⟨_, [], x1, hown2, rfl, by simp⟩, x2, hw2⟩
    (fun x a' W => ∃ p, a' = { tmps := #[.slice A N c, undef, .slice none 0 0, .pointer (some ⟨b, 0, none⟩), undef, .pointer (some ⟨p, 0, none⟩), .slice A N c, .int .i64 N, .slice (some ⟨w.heap.size, 0, none⟩) 0 N, .slice A N c, .func (.func 84) #[] #[.pointer (some ⟨b + 1, 0, none⟩)], .int .i64 x.val, hcV (rowOf hs x.val), undef, undef, undef, undef, undef, undef], defers := [] } ∧ b < p ∧ p ≠ b + 1 ∧ Blk W p 42 #[.int .i64 (rowOf hs x.val).1, (rowOf hs x.val).2.1, (rowOf hs x.val).2.2]) ?ax ?assign ?body ?done ?stop
  case own =>
    refine OwnFrom.and ?_ (OwnFrom.and (Own.from (boxed_own _ _ (fun _ => _)) _) (ownFrom_below (Nat.le_refl _) (by omega)))
    rintro s X Y row ⟨v, ts, hv, hr, hG⟩ hg hrow
    have hr2 : ∀ r, row = some r → ∃ o : Obj, X.heap[r]? = some o ∧ o.isCells = false := fun r e => (hrow r e).2
    refine ⟨v, ts, ?_, own_grown hr hg hr2, hG.step fun v n xs h => own_grown h hg hr2⟩
    exact boxed_own b 38 (fun _ : Unit => v) () X Y row hv hg (fun r e => hr2 r e)
  case ax =>
    rintro x a' _ X Y row ⟨p, ha, hp, hp2, hb⟩ hg hrow
    refine ⟨p, ha, hp, hp2, (hg.block p hb.lt (fun e => ?_)).trans hb⟩
    obtain ⟨o, ho, hc⟩ := (hrow p e.symm).2
    rw [show X.heap[p]? = _ from hb] at ho; cases ho; cases hc
  case assign =>
    rintro l pre x W K ⟨⟨v, ts, hv, hrow, hown⟩, hx2, hB⟩ hK
    unfold hcV at hK
    have hbl := hx2.lt
    have HK := hid hK
    clear hK
    unfold hbEnc hcV
    generalize hR : rowOf hs x.val = r at *
    have hR2 : hs.getD x.val (0, undef, undef) = r := hR
    rw [hR2]
    obtain ⟨ra, ru, rv⟩ := r
    obtain ⟨⟨A1, n1, c1, rfl⟩, ⟨A2, n2, c2, rfl⟩⟩ := HSL.out x _ hR
    have hn := Blk.new W 42 #[.int .i64 ra, .slice A1 n1 c1, .slice A2 n2 c2]
    have hBW : Below W.heap.size W (W.alloc (.cells #[.int .i64 ra, .slice A1 n1 c1, .slice A2 n2 c2] 42)) := (Below.refl _ W).alloc (Nat.le_refl _) _
    gi_wp2
    exact HK.out _ _ ((KeepsOthers.alloc W _).from _) (KpB.later hBW) ⟨⟨v, ts, hv.alloc _, hrow.alloc _, hown.step fun v n xs h => h.alloc _⟩, hx2.alloc _, hB.trans (hBW.mono hB.size)⟩ ⟨W.heap.size, rfl, by omega, by omega, hn⟩
  case body =>
    rintro l pre x a' W hl hrec ⟨⟨v, ts, hv0, hrow0, hown0⟩, hx0, hB0⟩ ⟨p, rfl, hp, hp2, hbk0⟩ hlt
    have hd : KeepsOthers W W.drew := ⟨Nat.le_refl _, fun _ _ h _ => h⟩
    have kd : KpB w.heap.size (b + 1) W W.drew := ⟨fun _ _ _ h => h, fun _ h => h⟩
    have hv : Boxed W.drew b 38 v := hv0
    have hrow : W.drew.ownsRow w.heap.size 42 3 v pre.length (ts.flatMap hcCells) := hrow0.drew
    have hown : HcsOwn W.drew w.heap.size ts (pre.map fun x => invD (ds.getD x.val (0, [], []))) := hown0.step fun v n xs h => h.drew
    have hx2 : Boxed W.drew (b + 1) 38 (.slice A N c) := hx0
    have hbk : Blk W.drew p 42 #[.int .i64 (rowOf hs x.val).1, (rowOf hs x.val).2.1, (rowOf hs x.val).2.2] := hbk0
    have hB : Below w.heap.size w W.drew := hB0.trans ((below_drew10 W).mono hB0.size)
    clear hv0 hrow0 hown0 hx0 hbk0 hB0
    gi_wp2_with (fail)
    refine wpIn_region_orders mixed10 [[0, 1, 2, 3, 4, 5], [1, 0, 2, 3, 4, 5], [1, 2, 0, 3, 4, 5], [1, 2, 3, 0, 4, 5]] (by kernel_rfl) (by kernel_rfl) ?_
    generalize W.drew = W0 at *
    have cV : Calls Try.prog 48 #[hcV (rowOf hs x.val)] W0 fun e w' => ∃ ta A1 n1 c1 A2 n2 c2, e = .returned (.agg #[.int .i64 ta, .slice A1 n1 c1, .slice A2 n2 c2]) ∧ HcOwn w' W0.heap.size (ta, .slice A1 n1 c1, .slice A2 n2 c2) (invD (ds.getD x.val (0, [], []))) ∧ Below W0.heap.size W0 w' := by
      refine (HC.out W0 hB x).mono ?_
      rintro e w' ⟨⟨ta, tu, tv⟩, rfl, ho, hb⟩
      obtain ⟨A1, c1, e1⟩ := own_slice ho.2.1
      obtain ⟨A2, c2, e2⟩ := own_slice ho.2.2.1
      simp only at e1 e2
      subst e1 e2
      exact ⟨ta, A1, _, c1, A2, _, c2, rfl, ho, hb⟩
    generalize hR : rowOf hs x.val = r at *
    obtain ⟨ra, ru, rv⟩ := r
    obtain ⟨⟨A1, n1, c1, rfl⟩, ⟨A2, n2, c2, rfl⟩⟩ := HSL.out x _ hR
    unfold hcV at *
    have c0 := hbk.cell_ (i := 0) rfl
    have c1' := hbk.cell_ (i := 1) rfl
    have c2' := hbk.cell_ (i := 2) rfl
    have hvc := hv.cell
    have hlen : pre.length ≤ 100000 := by omega
    have hbl := hv.lt
    have hpl := hbk.lt
    simp only at c0 c1' c2'
    intro os hos
    simp [listsOf] at hos
    rcases hos with rfl | rfl | rfl | rfl
    all_goals
      gi_wp2_with (first
        | (refine ⟨trivial, ?_⟩; gi_at_call 48; refine (CallsIn.inRound l (callsIn_wide.2 cV)).mono ?_; rintro e w' ⟨ta, A3, n3, c3, A4, n4, c4, rfl, hto, hbt⟩; have hv1 : Boxed w' b 38 v := (hbt.block b hbl).trans hv; have hx21 : Boxed w' (b + 1) 38 (.slice A N c) := (hbt.block (b + 1) hx2.lt).trans hx2; have hvc1 := hv1.cell; have hvc2 : ∀ o, (w'.alloc o).cell? ⟨b, 0, none⟩ = some v := (fun o => (hv1.alloc o).cell); have hrow1 := own_below hrow hbt; have hown1 := hown.step fun v n xs h => own_below h hbt)
        | (gi_at_builtin; refine wpListIn_append_own _ rfl _ _ 38 rfl w.heap.size 42 i0 (.agg #[.int .i64 0, .slice none 0 0, .slice none 0 0]) 3 56 Try.underlying38 hi hz0 hz1 hz2 rfl (by decide) _ _ _ rfl (hrow1.alloc _) ⟨_, 0, none⟩ 1 1 [.int .i64 ta, .slice A3 n3 c3, .slice A4 n4 c4] rfl rfl (cell_three_new _ _ _ _ _) (by simp [Value.oneCell']) (by unfold maxLen; omega) (by omega) (by have := hB.size; have := hbt.size; simp; omega) ?_; intro v' w1 hown' hgrow _; obtain ⟨g', cap', rfl⟩ := ownsRow_succ hown'; obtain ⟨hva, hvb, hr2, hk2, hb2⟩ := hv1.appended (by decide) hrow1 (Nat.le_trans hB.size hbt.size) (Nat.le_of_lt hlt1) hown' hgrow; have hc1 := hva.cell; have hf1 := hva.frozen))
      have hkb : KeepsOthers W0 w' := ⟨hbt.size, fun k o hk _ => (hbt.block k (Array.getElem?_eq_some_iff.1 hk).1).trans hk⟩
      have hxa : Boxed w1 (b + 1) 38 (.slice A N c) := (hx21.alloc _).kept hgrow (hx21.not_row (by decide) hrow1)
      have hxb := hxa.other (B' := b) (by omega) (.slice (some ⟨g', 0, none⟩) (pre.length + 1) cap')
      have hkp : KpB w.heap.size (b + 1) W (w1.setCell ⟨b, 0, none⟩ (.slice (some ⟨g', 0, none⟩) (pre.length + 1) cap')) := by
        refine kd.trans ((KpB.later hbt).trans ⟨OldK.below hb2, fun u hu => ?_⟩)
        rw [hx21.cell] at hu
        cases hu
        exact hxb.cell
      have kst : ∀ v n xs, w'.ownsRow w.heap.size 9 1 v n xs → (w1.setCell ⟨b, 0, none⟩ (.slice (some ⟨g', 0, none⟩) (pre.length + 1) cap')).ownsRow w.heap.size 9 1 v n xs := fun v n xs h => by
        have h2 := own_apart (by decide) (h.alloc _) (hrow1.alloc _) hgrow
        exact h2.kept (grownBy_setCell' w1 b _) (.inr (hva.not_row (by decide) h2).symm)
      have htn : HcOwn (w1.setCell ⟨b, 0, none⟩ (.slice (some ⟨g', 0, none⟩) (pre.length + 1) cap')) w.heap.size (ta, .slice A3 n3 c3, .slice A4 n4 c4) (invD (ds.getD x.val (0, [], []))) :=
        ⟨hto.1, kst _ _ _ (own_le hto.2.1 hB.size), kst _ _ _ (own_le hto.2.2.1 hB.size), hto.2.2.2⟩
      have hon := (hown1.step kst).snoc htn
      exact ⟨((hd.trans hkb).trans hk2).from _, hkp, ⟨_, ts ++ [(ta, .slice A3 n3 c3, .slice A4 n4 c4)], hvb, (by rw [List.flatMap_append, List.length_append]; simpa [hcCells] using hr2), (by rw [List.map_append]; exact hon)⟩, hxb, (hB.trans (hbt.mono hB.size)).trans hb2⟩
  case done =>
    rintro D ys W hD hys ⟨⟨v, ts, hv, hrow, hown⟩, hx2, hB⟩ hK
    have hc := hv.cell
    gi_wp2
    refine ⟨by simp, .inl ⟨_, _, rfl, run_takeDeferred hK, ?_⟩⟩
    refine ⟨_, results_tmp rfl _ _ _, v, ts, rfl, ?_, ?_, hB.trans (belowK_b (w := w) (Nat.le_refl _) W D _ _ (by omega) hK rfl rfl)⟩
    · have h := ownsRow_putObj hrow (.deferred none) hK rfl
      have hl : ys.length = N := by
        have := congrArg List.length hys
        simpa using this
      rw [hl] at h
      exact h
    · have h := hown.step fun v n xs h => ownsRow_putObj h (.deferred none) hK rfl
      rw [← hys, List.map_map]
      exact h
  case stop =>
    rintro D c pre W _ _ h _
    exact h.elim
end Go.Proofs.Ytjaenffdbhgmeaa


/- Proved: for all small params, seeds, leaves, sums and skips, quitclaimlaw08.SignerSigns returns true and leaves its arguments as they were. No conditions. -/
import Derived.Test.YtfdbgmnnahcejaaSvA
namespace Go.Proofs.Ytfdbgmnnahcejaa
open Go.RowKit Go.Qc
open Go.ChangeShapes Go.WideShapes Go.ChangeAt
attribute [local go_sem] txt_size txt_append ib_fold

theorem SgS.key {W : World} {g gr cr n m : Nat} {s : List UInt8} {nx : Nat} (h : SgS W g gr cr n m s nx) : W.rangeAt g 3 ((ofB s n m).map u8v) := fun _ _ hj => h.blk.cell_ (sgC_key _ _ _ _ _ _ _ _ hj)
set_option maxRecDepth 100000 in
set_option maxHeartbeats 8000000 in
theorem skey_any (g gr cr : Nat) (s : List UInt8) (n m nx : Nat) (w : World) (hS : SgS w g gr cr n m s nx) :
    Calls Try.prog 69 #[.pointer (some ⟨g, 0, none⟩)] w fun e w' => e = .returned (.agg (idVals (ofB s n m))) ∧ Below w.heap.size w w' := by
  have hu := Try.underlying24
  have lT := ofB_length s n m
  have hx := hS.key
  generalize ofB s n m = T at *
  have hx0 : ∀ o, (w.alloc o).rangeAt g 3 (T.map u8v) := fun o => hx.below ((Below.refl _ _).alloc (Nat.le_refl _) o)
  have hB : ∀ o, Below w.heap.size w (w.alloc o) := fun o => (Below.refl _ _).alloc (Nat.le_refl _) o
  have h0 : ∀ zc, Blk (w.alloc (.cells zc 24)) w.heap.size 24 zc := fun zc => Blk.new _ _ _
  have hzT : (Try.prog.info? 24).map (·.size) = some (T.map u8v).length := by rw [List.length_map, lT]; exact sizeId
  have HT := hid lT
  clear hS hx lT
  go_enter Try.func69, Try.ntmps69
  go_wp2_with (first
    | (with_reducible refine wpList_load_if (by with_unfolding_all rfl) 24 _ rfl _ _ rfl (T.map u8v) _ (hx0 _) hu (by with_unfolding_all rfl) hzT ?_)
    | (with_reducible refine wpList_store_blk rfl 24 _ _ rfl w.heap.size _ (idVals T) 24 (h0 _) rfl rfl ?c2 ?c3 (idVals_one _) ?_))
  case c2 => rw [idVals_size, HT.out]; try exact sizeId
  case c3 => rw [idVals_size, HT.out]; rfl
  intro w9 hb9 hg9
  go_wp2
  refine bodyPost_ret (results_cell_row rfl _ _ _ _ _ _ _ rfl hb9 Try.underlying24 rfl (by rw [idVals_size, HT.out]; exact sizeId)) rfl ⟨rfl, ?_⟩
  exact (hB _).grown hg9 (hB _).size (by intro i e; cases e; exact Nat.le_refl _)
set_option maxRecDepth 100000 in
set_option maxHeartbeats 8000000 in
theorem sskip_yes (g gr cr : Nat) (s : List UInt8) (n m : Nat) (hr : rgtP n m = true) (nx to : Nat) (h1 : nx ≤ to) (h2 : to ≤ 2 ^ m) (w : World) (hS : SgS w g gr cr n m s nx) :
    Calls Try.prog 70 #[.pointer (some ⟨g, 0, none⟩), .int .i64 to] w fun e w' => e = .returned (.bool true) ∧ SgS w' g gr cr n m s to ∧ w.grownBy w' (some g) := by
  have cL := fun W => kleaves_any n m W
  rw [lvs_ok hr] at cL
  generalize 2 ^ m = P at *
  have b1 : ¬ ((to : Int) < (nx : Int)) := by omega
  have z1 : decide ((to : Int) < (nx : Int)) = false := decide_eq_false b1
  have b2 : ¬ ((P : Int) < (to : Int)) := by omega
  have c0 := hS.c0
  have c1 := hS.c1
  have c35 := hS.c35
  clear hr h1 h2
  go_enter Try.func70, Try.ntmps70
  go_wp2_with (first
    | (go_at_call 52; (with_reducible refine (cL _).mono ?_); rintro e1 w1 ⟨rfl, hb1⟩)
    | (with_reducible refine wpList_store_cell rfl 3 _ _ rfl g 35 _ 142 (hS.below hb1).blk (.int .i64 (to : Int)) rfl rfl infoInt1 ?s1 rfl rfl ?_))
  case s1 => rw [sgC_size _ _ _ _ _ _ (ofB_length _ _ _)]; decide
  intro w2 hb2 hg2
  go_wp2
  go_ret
  refine ⟨rfl, ⟨?_, ?_⟩, gb_after hb1 hg2⟩
  · rw [over_set _ _ _ (by rw [sgC_size _ _ _ _ _ _ (ofB_length _ _ _)]; decide), sgC_next _ _ _ _ _ _ _ (ofB_length _ _ _)] at hb2
    exact hb2
  · obtain ⟨V, x, y, z⟩ := (hS.below hb1).old
    exact ⟨V, x, y.grown hg2 y.size (by intro i e; cases e; exact z), z⟩
set_option maxRecDepth 100000 in
set_option maxHeartbeats 8000000 in
theorem sskip_no (g gr cr : Nat) (s : List UInt8) (n m : Nat) (hr : rgtP n m = true) (nx : Nat) (to : Int) (h : to < nx ∨ ((2 ^ m : Nat) : Int) < to) (w : World) (hS : SgS w g gr cr n m s nx) :
    Calls Try.prog 70 #[.pointer (some ⟨g, 0, none⟩), .int .i64 to] w fun e w' => e = .returned (.bool false) ∧ Below w.heap.size w w' := by
  have cL := fun W => kleaves_any n m W
  rw [lvs_ok hr] at cL
  generalize 2 ^ m = P at *
  have c0 := hS.c0
  have c1 := hS.c1
  have c35 := hS.c35
  clear hr hS
  by_cases h1 : to < (nx : Int)
  · have z1 : decide (to < (nx : Int)) = true := decide_eq_true h1
    clear h
    go_enter Try.func70, Try.ntmps70
    go_wp2
    go_ret
    exact ⟨rfl, Below.refl _ _⟩
  · have h2 : (P : Int) < to := by omega
    have z1 : decide (to < (nx : Int)) = false := decide_eq_false h1
    clear h
    go_enter Try.func70, Try.ntmps70
    go_wp2_with (first
      | (go_at_call 52; (with_reducible refine (cL _).mono ?_); rintro e1 w1 ⟨rfl, hb1⟩))
    go_ret
    exact ⟨rfl, hb1⟩
set_option maxRecDepth 100000 in
set_option maxHeartbeats 8000000 in
theorem small_any (x : Nat) (hx : x ≤ 255) (w : World) :
    Calls Try.prog 67 #[.int .u8 x] w fun e w' => e = .returned (.agg #[.int .i64 8, .int .i64 (x % 3 : Nat)]) ∧ Below w.heap.size w w' := by
  have hm : ((x : Int)).tmod 3 = ((x % 3 : Nat) : Int) := by rw [Int.tmod_eq_emod_of_nonneg (by omega)]; rfl
  have h3 : x % 3 < 3 := Nat.mod_lt _ (by decide)
  have hw : IntKind.i64.wrap (x : Int) = x := by rw [IntKind.wrap_i64]; omega
  have hB : ∀ o, Below w.heap.size w (w.alloc o) := fun o => (Below.refl _ _).alloc (Nat.le_refl _) o
  generalize x % 3 = y at *
  go_enter Try.func67, Try.ntmps67
  go_wp2_with (with_reducible refine wpList_store_new rfl 63 _ _ rfl #[.int .i64 8, .int .i64 (y : Int)] rfl rfl (by with_unfolding_all rfl) (by with_unfolding_all rfl) (by with_unfolding_all rfl) ?_)
  go_wp2
  refine bodyPost_ret (results_cell_row rfl _ _ _ _ _ _ _ rfl (Blk.new w 63 #[.int .i64 8, .int .i64 (y : Int)]) Try.underlying63 rfl (by kernel_rfl)) rfl ⟨rfl, hB _⟩
set_option maxRecDepth 100000 in
set_option maxHeartbeats 8000000 in
theorem same8_yes (L : Int) (A1 A2 A3 B1 B2 B3 : Option Addr) (n1 n2 n3 c1 c2 c3 d1 d2 d3 : Nat) (l r t : List (List UInt8)) (w : World)
    (hA1 : RowR w A1 n1 l) (hA2 : RowR w A2 n2 r) (hA3 : RowR w A3 n3 t) (hB1 : RowR w B1 n1 l) (hB2 : RowR w B2 n2 r) (hB3 : RowR w B3 n3 t) :
    Calls Try.prog 74 #[.agg #[.int .i64 L, .slice A1 n1 c1, .slice A2 n2 c2, .slice A3 n3 c3], .agg #[.int .i64 L, .slice B1 n1 d1, .slice B2 n2 d2, .slice B3 n3 d3]] w fun e w' => e = .returned (.bool true) ∧ Below w.heap.size w w' := by
  have hk1 : (w.alloc (.cells #[.int .i64 L, .slice A1 n1 c1, .slice A2 n2 c2, .slice A3 n3 c3] 90)).heap.size = w.heap.size + 1 := by simp
  have hX := (Blk.new w 90 #[.int .i64 L, .slice A1 n1 c1, .slice A2 n2 c2, .slice A3 n3 c3]).alloc (.cells #[.int .i64 L, .slice B1 n1 d1, .slice B2 n2 d2, .slice B3 n3 d3] 90)
  have hY := Blk.new (w.alloc (.cells #[.int .i64 L, .slice A1 n1 c1, .slice A2 n2 c2, .slice A3 n3 c3] 90)) 90 #[.int .i64 L, .slice B1 n1 d1, .slice B2 n2 d2, .slice B3 n3 d3]
  rw [hk1] at hY
  have hB : Below w.heap.size w ((w.alloc (.cells #[.int .i64 L, .slice A1 n1 c1, .slice A2 n2 c2, .slice A3 n3 c3] 90)).alloc (.cells #[.int .i64 L, .slice B1 n1 d1, .slice B2 n2 d2, .slice B3 n3 d3] 90)) := ((Below.refl _ _).alloc (Nat.le_refl _) _).alloc (by simp) _
  have cS1 : ∀ W, Below w.heap.size w W → Calls Try.prog 14 #[.slice A1 n1 c1, .slice B1 n1 d1] W fun e w' => e = .returned (.bool true) ∧ Below W.heap.size W w' := fun W h => by
    have := rsame_any A1 B1 n1 c1 n1 d1 l l W (hA1.below h) (hB1.below h); rw [decide_eq_true rfl] at this; exact this
  have cS2 : ∀ W, Below w.heap.size w W → Calls Try.prog 14 #[.slice A2 n2 c2, .slice B2 n2 d2] W fun e w' => e = .returned (.bool true) ∧ Below W.heap.size W w' := fun W h => by
    have := rsame_any A2 B2 n2 c2 n2 d2 r r W (hA2.below h) (hB2.below h); rw [decide_eq_true rfl] at this; exact this
  have cS3 : ∀ W, Below w.heap.size w W → Calls Try.prog 14 #[.slice A3 n3 c3, .slice B3 n3 d3] W fun e w' => e = .returned (.bool true) ∧ Below W.heap.size W w' := fun W h => by
    have := rsame_any A3 B3 n3 c3 n3 d3 t t W (hA3.below h) (hB3.below h); rw [decide_eq_true rfl] at this; exact this
  have zL : (L == L) = true := by simp
  clear hA1 hA2 hA3 hB1 hB2 hB3 hk1
  go_enter Try.func74, Try.ntmps74
  go_wp2_with (fail)
  generalize (w.alloc (.cells #[.int .i64 L, .slice A1 n1 c1, .slice A2 n2 c2, .slice A3 n3 c3] 90)).alloc (.cells #[.int .i64 L, .slice B1 n1 d1, .slice B2 n2 d2, .slice B3 n3 d3] 90) = w0 at *
  refine (cS1 _ hB).mono ?_
  rintro e1 w1 ⟨rfl, hb1⟩
  replace hX := hX.below hb1
  replace hY := hY.below hb1
  replace hB := hB.trans (hb1.mono hB.size)
  have x2 := hX.cell_ (i := 2) rfl
  have y2 := hY.cell_ (i := 2) rfl
  clear hb1
  go_wp2_with (go_at_call 14; first
    | ((with_reducible refine (cS2 _ hB).mono ?_); rintro e2 w2 ⟨rfl, hb2⟩; replace hX := hX.below hb2; replace hY := hY.below hb2; replace hB := hB.trans (hb2.mono hB.size); clear hb2 x2 y2; have x3 := hX.cell_ (i := 3) rfl; have y3 := hY.cell_ (i := 3) rfl)
    | ((with_reducible refine (cS3 _ hB).mono ?_); rintro e3 w3 ⟨rfl, hb3⟩; replace hB := hB.trans (hb3.mono hB.size)))
  go_ret
  exact ⟨rfl, hB⟩
set_option maxRecDepth 100000 in
set_option maxHeartbeats 8000000 in
theorem rsign8_any (s : List UInt8) (hs : s.length ≤ 1000) (n m : Nat) (hr : rgtP n m = true) (hm5 : m ≤ 5) (L : Nat) (hL : L < 2 ^ m) (a : List UInt8) (ha : a.length = 32) (w : World) :
    Calls Try.prog 75 #[.agg #[.int .i64 n, .int .i64 m], .string (txt s), .int .i64 L, .agg (idVals a)] w fun e w' => ∃ A1 c1 A2 c2 A3 c3, e = .returned (.agg (sigC L (.slice A1 n c1) (.slice A2 n c2) (.slice A3 m c3))) ∧ w'.ownsRow w.heap.size 24 32 (.slice A1 n c1) n (idsV (upTo (shownX s L a) n)) ∧ w'.ownsRow w.heap.size 24 32 (.slice A2 n c2) n (idsV (upTo (hiddenX s L a) n)) ∧ w'.ownsRow w.heap.size 24 32 (.slice A3 m c3) m (idsV (upTo (wayF (lfF s n) L) m)) ∧ Below w.heap.size w w' := by
  have hu := Try.underlying24
  have hn8 : n ≤ 256 := by have := rgt_le9 (rgtP_parts hr).1; omega
  have cW := fun W => rway_any s hs n m hr hm5 L hL W
  have cS : ∀ W : World, Calls Try.prog 132 #[.string (txt s), .int .i64 L, .int .i64 n, .agg (List.map u8v a).toArray] W fun e w' => ∃ v u, e = .returned (.tuple #[v, u]) ∧ w'.ownsRow W.heap.size 24 32 v n (idsV (upTo (shownX s L a) n)) ∧ w'.ownsRow W.heap.size 24 32 u n (idsV (upTo (hiddenX s L a) n)) ∧ Below W.heap.size W w' := fun W => rsign_any s hs (L : Nat) n hn8 a ha W
  have H1 := hid (upTo_32 (shownX s L a) (shownX_length s L a) n)
  have H2 := hid (upTo_32 (hiddenX s L a) (hiddenX_length s L a) n)
  have H3 := hid (upTo_32 (wayF (lfF s n) L) (fun b => ndB_length _ (lfF_length s n) _ _) m)
  have hza : (Try.prog.info? 24).map (·.size) = some (a.map u8v).length := by rw [List.length_map, ha]; exact sizeId
  have hk1 : (w.alloc (.cells #[.int .i64 n, .int .i64 m] 63)).heap.size = w.heap.size + 1 := by simp
  have hk2 : ((w.alloc (.cells #[.int .i64 n, .int .i64 m] 63)).alloc (.cells (idVals a) 24)).heap.size = w.heap.size + 1 + 1 := by simp
  have hP := ((Blk.new w 63 #[.int .i64 n, .int .i64 m]).alloc (.cells (idVals a) 24)).alloc (.cells #[.int .i64 0, .slice none 0 0, .slice none 0 0, .slice none 0 0] 90)
  have hA := Blk.new (w.alloc (.cells #[.int .i64 (n : Int), .int .i64 (m : Int)] 63)) 24 (idVals a)
  rw [hk1] at hA
  replace hA := hA.alloc (.cells #[.int .i64 0, .slice none 0 0, .slice none 0 0, .slice none 0 0] 90)
  have hR := Blk.new ((w.alloc (.cells #[.int .i64 (n : Int), .int .i64 (m : Int)] 63)).alloc (.cells (idVals a) 24)) 90 #[.int .i64 0, .slice none 0 0, .slice none 0 0, .slice none 0 0]
  rw [hk2] at hR
  have hB : Below w.heap.size w (((w.alloc (.cells #[.int .i64 (n : Int), .int .i64 (m : Int)] 63)).alloc (.cells (idVals a) 24)).alloc (.cells #[.int .i64 0, .slice none 0 0, .slice none 0 0, .slice none 0 0] 90)) := (((Below.refl _ _).alloc (Nat.le_refl _) _).alloc (by simp) _).alloc (by simp; omega) _
  have hx := range_blk hA
  clear hs hr hL ha hk1 hk2
  go_enter Try.func75, Try.ntmps75
  go_wp2_with (first
    | (with_reducible refine wpList_load_if (by with_unfolding_all rfl) 24 _ rfl _ _ rfl (a.map u8v) _ hx hu (by with_unfolding_all rfl) hza ?_)
    | (go_at_call 132; (with_reducible refine (cS _).mono ?_); rintro e1 w1 ⟨v1, v2, rfl, ho1, ho2, hb1⟩; obtain ⟨A1, c1, rfl, _⟩ := RowAt.own ho1 H1.out (by omega); obtain ⟨A2, c2, rfl, _⟩ := RowAt.own ho2 H2.out (by omega); replace ho1 := own_mono ho1 hB.size; replace ho2 := own_mono ho2 hB.size; replace hP := hP.below hb1; replace hR := hR.below hb1; replace hB := hB.trans (hb1.mono hB.size); clear hb1; have p0 := hP.cell_ (i := 0) rfl; have p1 := hP.cell_ (i := 1) rfl)
    | (go_at_call 61; (with_reducible refine (cW _).mono ?_); rintro e2 w2 ⟨v3, rfl, ho3, hb2⟩; obtain ⟨A3, c3, rfl, _⟩ := RowAt.own ho3 H3.out (by omega); replace ho3 := own_mono ho3 hB.size; replace hR := hR.below hb2; replace hB := hB.trans (hb2.mono hB.size); replace ho1 := own_below ho1 hb2; replace ho2 := own_below ho2 hb2; clear hb2 p0 p1)
    | (with_reducible refine wpList_store_blk rfl 90 _ _ rfl (w.heap.size + 1 + 1) _ (sigC L (.slice A1 n c1) (.slice A2 n c2) (.slice A3 m c3)) 90 hR rfl (by with_unfolding_all rfl) (infoSigC _ _ _ _) (by with_unfolding_all rfl) (sigC_one _ _ _ _ _ _ _ _ _ _) ?_))
  intro w9 hb9 hg9
  have q1 := own_sig ho1 hR hg9
  have q2 := own_sig ho2 hR hg9
  have q3 := own_sig ho3 hR hg9
  go_wp2
  exact bodyPost_ret (results_cell_row rfl _ _ _ _ _ _ _ rfl hb9 Try.underlying90 rfl (infoSigC _ _ _ _)) rfl ⟨A1, c1, A2, c2, A3, c3, rfl, q1, q2, q3, hB.grown hg9 hB.size (by intro i e; cases e; omega)⟩
theorem own_row {W : World} {b n c : Nat} {A : Option Addr} {l : List (List UInt8)} (h : W.ownsRow b 24 32 (.slice A n c) n (idsV l)) (h32 : ∀ x ∈ l, x.length = 32) (hn : n ≤ 1000000) : RowR W A n l := by
  obtain ⟨A2, c2, e, hr⟩ := RowAt.own h h32 hn
  injection e with e1 _ _
  subst e1
  exact hr.r
/-- Where the law stands: params at gp, a signer at g. -/
structure LpS (w W : World) (gp g gr cr y : Nat) (s : List UInt8) (nx : Nat) : Prop where
  bel : Below w.heap.size w W
  par : Blk W gp 63 #[.int .i64 8, .int .i64 y]
  sg : SgS W g gr cr 8 y s nx
  gpg : gp < g
  gw : w.heap.size ≤ gp
theorem LpS.below {w W W' : World} {gp g gr cr y nx : Nat} {s : List UInt8} (h : LpS w W gp g gr cr y s nx) (hb : Below W.heap.size W W') : LpS w W' gp g gr cr y s nx :=
  ⟨h.bel.trans (hb.mono h.bel.size), h.par.below hb, h.sg.below hb, h.gpg, h.gw⟩
theorem LpS.gb {w W W' : World} {gp g gr cr y nx ny : Nat} {s : List UInt8} (h : LpS w W gp g gr cr y s nx) (hg : W.grownBy W' (some g)) (hs : SgS W' g gr cr 8 y s ny) : LpS w W' gp g gr cr y s ny :=
  ⟨h.bel.grown hg h.bel.size (by intro i e; cases e; have := h.gpg; have := h.gw; omega), blk_gb h.par hg (by have := h.gpg; omega), hs, h.gpg, h.gw⟩
theorem rgt8 {y : Nat} (h : y ≤ 2) : rgtP ((8 : Nat) : Int) (y : Int) = true := by
  obtain rfl | rfl | rfl : y = 0 ∨ y = 1 ∨ y = 2 := by omega
  all_goals decide
theorem fits8 {y z : Nat} (h : y ≤ 2) (hz : z < 2 ^ y) : fitsP ((8 : Nat) : Int) (y : Int) (z : Int) 8 8 y :=
  ⟨rgt8 h, by omega, by rw [lvs_ok (rgt8 h)]; omega, rfl, rfl, rfl⟩
theorem root_back (s a : List UInt8) (y z : Nat) (hz : z < 2 ^ y) : keyB 8 y (rootB a (upTo (shownX s z a) 8) (upTo (hiddenX s z a) 8) (upTo (wayF (lfF s 8) z) y) 8 z) = ofB s 8 y := by
  unfold rootB recB ofB
  rw [signed_back]
  have := climb_way (lfF s 8) z y
  rw [Nat.div_eq_of_lt hz] at this
  rw [← this]
  rfl
set_option maxRecDepth 100000 in
set_option maxHeartbeats 8000000 in
theorem signs_long (x : Int) (s : List UInt8) (L : Int) (A : Option Addr) (k c : Nat) (sk : Int) (h1 : 100 < s.length) (w : World) :
    Calls Try.prog 8 #[.int .u8 x, .string (txt s), .int .i64 L, .slice A k c, .int .i64 sk] w fun e w' => e = .returned (.bool true) ∧ Below w.heap.size w w' := by
  have z1 : (100 : Int) < s.length := by omega
  go_enter Try.func8, Try.ntmps8
  go_wp2_with (first
    | (go_at_call 66; (with_reducible refine (awake8_any _).mono ?_); rintro e9 w9 ⟨rfl, hb9⟩))
  go_ret
  exact ⟨rfl, hb9⟩
set_option maxRecDepth 100000 in
set_option maxHeartbeats 8000000 in
theorem signs_many (x : Int) (s : List UInt8) (L : Int) (A : Option Addr) (k c : Nat) (sk : Int) (h1 : ¬ 100 < s.length) (h2 : 6 < k) (w : World) :
    Calls Try.prog 8 #[.int .u8 x, .string (txt s), .int .i64 L, .slice A k c, .int .i64 sk] w fun e w' => e = .returned (.bool true) ∧ Below w.heap.size w w' := by
  have z1 : ¬ (100 : Int) < s.length := by omega
  have z2 : (6 : Int) < k := by omega
  go_enter Try.func8, Try.ntmps8
  go_wp2_with (first
    | (go_at_call 66; (with_reducible refine (awake8_any _).mono ?_); rintro e9 w9 ⟨rfl, hb9⟩))
  go_ret
  exact ⟨rfl, hb9⟩
set_option maxRecDepth 100000 in
set_option maxHeartbeats 8000000 in
theorem signs_neg (x : Nat) (hx : x ≤ 255) (s : List UInt8) (h1 : ¬ 100 < s.length) (L : Int) (A : Option Addr) (k c : Nat) (h2 : ¬ 6 < k) (sk : Int) (h3 : L < 0) (w : World) :
    Calls Try.prog 8 #[.int .u8 x, .string (txt s), .int .i64 L, .slice A k c, .int .i64 sk] w fun e w' => e = .returned (.bool true) ∧ Below w.heap.size w w' := by
  have z1 : ¬ (100 : Int) < s.length := by omega
  have z2 : ¬ (6 : Int) < k := by omega
  have cSm := fun W => small_any x hx W
  have hy2 : x % 3 ≤ 2 := by omega
  generalize x % 3 = y at *
  have hr := rgt8 hy2
  have cPw := fun W => rpower_any y (by omega) W
  have cN : ∀ W : World, Calls Try.prog 68 #[.agg #[.int .i64 8, .int .i64 y], .string (txt s), .int .i64 L] W fun e w' => e = .returned (.tuple #[.pointer none, .int .i64 5]) ∧ Below W.heap.size W w' := fun W => snew_range s 8 y hr L (.inl h3) W
  have zd : decide (L < 0) = true := decide_eq_true h3
  generalize 2 ^ y = P at *
  clear hr hy2 hx h1 h2
  go_enter Try.func8, Try.ntmps8
  go_wp2_with (first
    | (go_at_call 67; (with_reducible refine (cSm _).mono ?_); rintro e1 w1 ⟨rfl, hb1⟩)
    | (with_reducible refine wpList_store_new rfl 63 _ _ rfl #[.int .i64 8, .int .i64 (y : Int)] rfl rfl (by with_unfolding_all rfl) (by with_unfolding_all rfl) (by with_unfolding_all rfl) ?_)
    | (go_at_call 49; (with_reducible refine (cPw _).mono ?_); rintro e2 w2 ⟨rfl, rfl⟩)
    | (go_at_call 68; (with_reducible refine (cN _).mono ?_); rintro e3 w3 ⟨rfl, hb3⟩)
    | (go_at_call 66; (with_reducible refine (awake8_any _).mono ?_); rintro e9 w9 ⟨rfl, hb9⟩))
  go_ret
  have b2 := (hb1.alloc hb1.size _).trans (hb3.mono (hb1.alloc hb1.size _).size)
  exact ⟨rfl, b2.trans (hb9.mono b2.size)⟩
set_option maxRecDepth 100000 in
set_option maxHeartbeats 8000000 in
theorem signs_high (x : Nat) (hx : x ≤ 255) (s : List UInt8) (h1 : ¬ 100 < s.length) (L : Int) (A : Option Addr) (k c : Nat) (h2 : ¬ 6 < k) (sk : Int) (h3 : ¬ L < 0) (h4 : ((2 ^ (x % 3) : Nat) : Int) < L) (w : World) :
    Calls Try.prog 8 #[.int .u8 x, .string (txt s), .int .i64 L, .slice A k c, .int .i64 sk] w fun e w' => e = .returned (.bool true) ∧ Below w.heap.size w w' := by
  have z1 : ¬ (100 : Int) < s.length := by omega
  have z2 : ¬ (6 : Int) < k := by omega
  have cSm := fun W => small_any x hx W
  have hy2 : x % 3 ≤ 2 := by omega
  generalize x % 3 = y at *
  have hr := rgt8 hy2
  have cPw := fun W => rpower_any y (by omega) W
  have cN : ∀ W : World, Calls Try.prog 68 #[.agg #[.int .i64 8, .int .i64 y], .string (txt s), .int .i64 L] W fun e w' => e = .returned (.tuple #[.pointer none, .int .i64 5]) ∧ Below W.heap.size W w' := fun W => snew_range s 8 y hr L (.inr h4) W
  have zd : decide (L < 0) = false := decide_eq_false h3
  generalize 2 ^ y = P at *
  clear hr hy2 hx h1 h2
  go_enter Try.func8, Try.ntmps8
  go_wp2_with (first
    | (go_at_call 67; (with_reducible refine (cSm _).mono ?_); rintro e1 w1 ⟨rfl, hb1⟩)
    | (with_reducible refine wpList_store_new rfl 63 _ _ rfl #[.int .i64 8, .int .i64 (y : Int)] rfl rfl (by with_unfolding_all rfl) (by with_unfolding_all rfl) (by with_unfolding_all rfl) ?_)
    | (go_at_call 49; (with_reducible refine (cPw _).mono ?_); rintro e2 w2 ⟨rfl, rfl⟩)
    | (go_at_call 68; (with_reducible refine (cN _).mono ?_); rintro e3 w3 ⟨rfl, hb3⟩)
    | (go_at_call 66; (with_reducible refine (awake8_any _).mono ?_); rintro e9 w9 ⟨rfl, hb9⟩))
  go_ret
  have b2 := (hb1.alloc hb1.size _).trans (hb3.mono (hb1.alloc hb1.size _).size)
  exact ⟨rfl, b2.trans (hb9.mono b2.size)⟩
set_option maxRecDepth 100000 in
set_option maxHeartbeats 80000000 in
set_option linter.unusedSimpArgs false in
theorem signs_good (x : Nat) (hx : x ≤ 255) (s : List UInt8) (h1 : ¬ 100 < s.length) (L : Nat) (A : Option Addr) (k c : Nat) (h2 : ¬ 6 < k) (l : List (List UInt8)) (sk : Int) (w : World) (hA : RowR w A k l) (hLP : ∀ y : Nat, y = x % 3 → L ≤ 2 ^ y) :
    Calls Try.prog 8 #[.int .u8 x, .string (txt s), .int .i64 L, .slice A k c, .int .i64 sk] w fun e w' => e = .returned (.bool true) ∧ Below w.heap.size w w' := by
  have hu := Try.underlying24
  have mixed : Try.prog.follows .mixedOrders = true := by kernel_rfl
  obtain ⟨hn, _, hrow⟩ := hA
  have z1 : ¬ (100 : Int) < s.length := by omega
  have z2 : ¬ (6 : Int) < k := by omega
  have cSm := fun W => small_any x hx W
  obtain ⟨y, hy⟩ : ∃ y, y = x % 3 := ⟨_, rfl⟩
  have hy2 : y ≤ 2 := by omega
  have hLy := hLP y hy
  rw [← hy] at cSm
  have hr := rgt8 hy2
  have cPw := fun W => rpower_any y (by omega) W
  have hs1 : s.length ≤ 1000 := by omega
  have cN : ∀ W : World, Calls Try.prog 68 #[.agg #[.int .i64 8, .int .i64 y], .string (txt s), .int .i64 L] W fun e w' => ∃ g gr cr, e = .returned (.tuple #[.pointer (some ⟨g, 0, none⟩), .int .i64 0]) ∧ SgS w' g gr cr 8 y s L ∧ W.heap.size ≤ g ∧ Below W.heap.size W w' := fun W => snew_any s hs1 8 y hr (by omega) L hLy W
  have cO : ∀ W : World, Calls Try.prog 57 #[.agg #[.int .i64 8, .int .i64 y], .string (txt s)] W fun e w' => e = .returned (.agg (idVals (ofB s 8 y))) ∧ Below W.heap.size W w' := fun W => rof7_any s hs1 8 y hr W
  have heqK : ∀ W, (Op.equalIn 10000 24 (.agg (idVals (ofB s 8 y))) (.agg (idVals (ofB s 8 y)))).run Try.prog W = .ok true W := fun W => (ids_eq W _ _ (ofB_length s 8 y) (ofB_length s 8 y)).trans (by rw [decide_eq_true rfl])
  have cLf1 := fun g gr cr nx W (hz : nx ≤ 2 ^ y) h => left_any9 g gr cr s 8 y hr nx hz W h
  have cSp1 : ∀ g gr cr (z : Nat) (a : List UInt8) W, z = 2 ^ y → SgS W g gr cr 8 y s z → Calls Try.prog 73 #[.pointer (some ⟨g, 0, none⟩), .agg (List.map u8v a).toArray] W fun e w' => e = .returned (.tuple #[.agg #[.int .i64 0, .slice none 0 0, .slice none 0 0, .slice none 0 0], .int .i64 8]) ∧ Below W.heap.size W w' := fun g gr cr z a W hz h => by subst hz; exact ssign_spent g gr cr s 8 y hr a W h
  have cSo1 : ∀ g gr cr (z : Nat) (a : List UInt8) (_ : a.length = 32) W, z < 2 ^ y → SgS W g gr cr 8 y s z → Calls Try.prog 73 #[.pointer (some ⟨g, 0, none⟩), .agg (List.map u8v a).toArray] W fun e w' => ∃ A1 c1 A2 c2 A3 c3, e = .returned (.tuple #[.agg (sigC z (.slice A1 8 c1) (.slice A2 8 c2) (.slice A3 y c3)), .int .i64 0]) ∧ w'.ownsRow W.heap.size 24 32 (.slice A1 8 c1) 8 (idsV (upTo (shownX s z a) 8)) ∧ w'.ownsRow W.heap.size 24 32 (.slice A2 8 c2) 8 (idsV (upTo (hiddenX s z a) 8)) ∧ w'.ownsRow W.heap.size 24 32 (.slice A3 y c3) y (idsV (upTo (wayF (lfF s 8) z) y)) ∧ SgS w' g gr cr 8 y s (z + 1) ∧ W.grownBy w' (some g) := fun g gr cr z a ha W hz h => ssign_any g gr cr s hs1 8 y hr (by omega) z hz a ha W h
  have cRs : ∀ (z : Nat) (a : List UInt8) (_ : a.length = 32) (W : World), z < 2 ^ y → Calls Try.prog 75 #[.agg #[.int .i64 8, .int .i64 y], .string (txt s), .int .i64 z, .agg (List.map u8v a).toArray] W fun e w' => ∃ B1 d1 B2 d2 B3 d3, e = .returned (.agg #[.int .i64 z, .slice B1 8 d1, .slice B2 8 d2, .slice B3 y d3]) ∧ RowR w' B1 8 (upTo (shownX s z a) 8) ∧ RowR w' B2 8 (upTo (hiddenX s z a) 8) ∧ RowR w' B3 y (upTo (wayF (lfF s 8) z) y) ∧ Below W.heap.size W w' := fun z a ha W hz => by
    refine (rsign8_any s hs1 8 y hr (by omega) z hz a ha W).mono ?_
    rintro e w' ⟨B1, d1, B2, d2, B3, d3, h1, h2, h3, h4, h5⟩
    exact ⟨B1, d1, B2, d2, B3, d3, h1, own_row h2 (upTo_32 _ (shownX_length s z a) 8) (by omega), own_row h3 (upTo_32 _ (hiddenX_length s z a) 8) (by omega), own_row h4 (upTo_32 _ (fun b => ndB_length _ (lfF_length s 8) _ _) y) (by omega), h5⟩
  have cVe : ∀ (z : Nat) (a : List UInt8) (_ : a.length = 32) (A1 : Option Addr) (c1 : Nat) (A2 : Option Addr) (c2 : Nat) (A3 : Option Addr) (c3 : Nat) (W : World), z < 2 ^ y → RowR W A1 8 (upTo (shownX s z a) 8) → RowR W A2 8 (upTo (hiddenX s z a) 8) → RowR W A3 y (upTo (wayF (lfF s 8) z) y) → Calls Try.prog 76 #[.agg #[.int .i64 8, .int .i64 y], .agg (idVals (ofB s 8 y)), .agg (List.map u8v a).toArray, .agg #[.int .i64 z, .slice A1 8 c1, .slice A2 8 c2, .slice A3 y c3]] W fun e w' => e = .returned (.int .i64 0) ∧ Below W.heap.size W w' := fun z a ha A1 c1 A2 c2 A3 c3 W hz g1 g2 g3 => by
    have := verify_yes (ofB s 8 y) (ofB_length s 8 y) 8 y a ha z A1 A2 A3 c1 c2 c3 _ _ _ (fits8 hy2 hz) W g1 g2 g3
    rw [if_pos (root_back s a y z hz)] at this
    exact this
  have cYe1 := fun g gr cr (nx to : Nat) (g1 : nx ≤ to) (g2 : to ≤ 2 ^ y) W h => sskip_yes g gr cr s 8 y hr nx to g1 g2 W h
  have cNo1 := fun g gr cr (nx : Nat) (to : Int) (g1 : to < nx ∨ ((2 ^ y : Nat) : Int) < to) W h => sskip_no g gr cr s 8 y hr nx to g1 W h
  have cSa : ∀ W : World, Calls Try.prog 74 #[.agg #[.int .i64 0, .slice none 0 0, .slice none 0 0, .slice none 0 0], .agg #[.int .i64 0, .slice none 0 0, .slice none 0 0, .slice none 0 0]] W fun e w' => e = .returned (.bool true) ∧ Below W.heap.size W w' := fun W => same8_yes 0 none none none none none none 0 0 0 0 0 0 0 0 0 [] [] [] W ⟨rfl, by omega, IdRd.nil_ _ _⟩ ⟨rfl, by omega, IdRd.nil_ _ _⟩ ⟨rfl, by omega, IdRd.nil_ _ _⟩ ⟨rfl, by omega, IdRd.nil_ _ _⟩ ⟨rfl, by omega, IdRd.nil_ _ _⟩ ⟨rfl, by omega, IdRd.nil_ _ _⟩
  have hP4 : 2 ^ y ≤ 4 := Nat.pow_le_pow_right (n := 2) (by decide) hy2
  generalize 2 ^ y = P at *
  have zd : ¬ ((L : Int) < 0) := by omega
  have zdd : decide ((L : Int) < 0) = false := decide_eq_false zd
  have zh : ¬ ((P : Int) < (L : Int)) := by omega
  have HN := hid hn
  clear hLP hx hy hr hn
  go_enter Try.func8, Try.ntmps8
  go_wp2_with (first
    | (go_at_call 67; (with_reducible refine (cSm _).mono ?_); rintro e1 w1 ⟨rfl, hb1⟩)
    | (with_reducible refine wpList_store_new rfl 63 _ _ rfl #[.int .i64 8, .int .i64 (y : Int)] rfl rfl (by with_unfolding_all rfl) (by with_unfolding_all rfl) (by with_unfolding_all rfl) ?_)
    | (go_at_call 49; (with_reducible refine (cPw _).mono ?_); rintro e2 w2 ⟨rfl, rfl⟩)
    | (go_at_call 68; (with_reducible refine (cN _).mono ?_); rintro e3 w3 ⟨g, gr, cr, rfl, hS3, hg3, hb3⟩))
  have hL0 : LpS w w3 w1.heap.size g gr cr y s L := by
    have b2 := hb1.alloc hb1.size (.cells #[.int .i64 8, .int .i64 (y : Int)] 63)
    exact ⟨b2.trans (hb3.mono b2.size), (Blk.new w1 63 _).below hb3, hS3, Nat.lt_of_lt_of_le (by simp) hg3, hb1.size⟩
  generalize w1.heap.size = gp at *
  have lp0 : ∀ p : LaterW w3, p.w.cell? ⟨gp, 0, none⟩ = some (.int .i64 8) := fun p => (hL0.below p.h).par.cell_ (i := 0) rfl
  have lp1 : ∀ p : LaterW w3, p.w.cell? ⟨gp, 1, none⟩ = some (.int .i64 y) := fun p => (hL0.below p.h).par.cell_ (i := 1) rfl
  have lK : ∀ p : LaterW w3, Calls Try.prog 69 #[.pointer (some ⟨g, 0, none⟩)] p.w fun e w' => e = .returned (.agg (idVals (ofB s 8 y))) ∧ Below p.w.heap.size p.w w' := fun p => skey_any g gr cr s 8 y L p.w (hL0.below p.h).sg
  refine wp_region_later mixed (by kernel_rfl) ?_
  repeat (first
    | ((with_reducible refine wpQuiet_skip (by with_unfolding_all rfl) ?_); simp only [Act.put, List.setIfInBounds_toArray, List.set_cons_zero, List.set_cons_succ])
    | ((with_reducible refine wpQuiet_step (fun K hK => ?_)); go_simp; first | ((with_reducible refine hK _ ?_); clear hK K) | (with_reducible apply Exists.intro; (with_reducible refine ⟨fun _ => ?_, hK _ ?_⟩); ((first | (go_at_call 69; exact later_of (lK _)) | (go_at_call 57; exact later_of (cO _)))); clear hK K)))
  with_reducible refine wpQuiet_nil ?_
  intro _ hw'
  obtain ⟨p, rfl⟩ := hw'
  have hp := p.h
  generalize p.w = w4 at *
  replace hL0 := hL0.below hp
  clear lp0 lp1 lK cO heqK hp cSm cPw cN hb1 hb3 hg3 hS3
  have cLf0 := cLf1 g gr cr
  have cSp := cSp1 g gr cr
  have cSo := cSo1 g gr cr
  have cYe := cYe1 g gr cr
  have cNo := cNo1 g gr cr
  clear cLf1 cSp1 cSo1 cYe1 cNo1
  go_wp2
  go_loopw [2, 73] (fun nv iv wr => ∃ i nx : Nat, i ≤ k ∧ nx ≤ P ∧ iv = .int .i64 i ∧ nv = .int .i64 nx ∧ LpS w wr gp g gr cr y s nx) (fun _ iv _ => k - (intOf iv).toNat)
  case atStart => exact ⟨0, L, by omega, by omega, rfl, rfl, hL0⟩
  case round =>
    obtain ⟨i, nx, hi, hz, rfl, rfl, hL⟩ := hrel
    clear hL0
    by_cases hlt : i < k
    · obtain ⟨a, ha⟩ : ∃ a, l[i]? = some a := ⟨_, List.getElem?_eq_getElem (by have := HN.out; omega)⟩
      obtain ⟨gx, qx, hgx, lx, hix⟩ := hrow.pick c HN.out ha
      have b1 : (i : Int) < k := by omega
      have r1 := hgx.below hL.bel
      have hza : (Try.prog.info? 24).map (·.size) = some (a.map u8v).length := by rw [List.length_map, lx]; exact sizeId
      have HA := hid lx
      clear ha lx hgx
      by_cases hi1 : i = 1
      · have zi : ((i : Int) == 1) = true := by simp; omega
        by_cases hA1 : (nx : Int) ≤ sk
        · have zA : decide ((nx : Int) ≤ sk) = true := decide_eq_true hA1
          by_cases hB1 : sk ≤ (P : Int)
          · have zB : decide (sk ≤ (P : Int)) = true := decide_eq_true hB1
            obtain ⟨to, rfl⟩ : ∃ to : Nat, sk = to := ⟨sk.toNat, by omega⟩
            have cSk := cYe nx to (by omega) (by omega)
            have hz : to ≤ P := by omega
            clear hi1 cNo cYe
            by_cases hzP : to = P
            · have zs : ((to : Int) == (P : Int)) = true := by simp; omega
              have zn : (((to : Nat) : Int) != ((to : Nat) : Int)) = false := by simp
              have zl : (((P : Int) - (to : Int)) != ((P : Int) - (to : Int))) = false := by simp
              have hw1 : IntKind.i64.wrap ((P : Int) - (to : Int)) = (P : Int) - (to : Int) := by rw [IntKind.wrap_i64]; omega
              have cLf := fun W h => cLf0 to W hz h
              have cSi := fun W h => cSp to a W hzP h
              have HZP := hid hzP
              clear cLf0 cSp cSo hzP
              go_wp2_with (first
                | (with_reducible refine wpList_load_if (by with_unfolding_all rfl) 24 _ rfl _ _ rfl (a.map u8v) _ r1 hu (by with_unfolding_all rfl) hza ?_)
                | ((with_reducible refine wpList_store_newid rfl _ _ rfl a HA.out rfl rfl (by with_unfolding_all rfl) ?_); intro w1 hx1 hb1; have hlt1 := hL.sg.blk.lt; replace hL := hL.below hb1; clear hb1)
                | (go_at_call 70; (with_reducible refine (cSk _ hL.sg).mono ?_); rintro e2 w2 ⟨rfl, hs2, hg2⟩; replace hx1 := range_gb hx1 hg2 (by omega); replace hL := hL.gb hg2 hs2; clear hg2)
                | (go_at_call 71; (with_reducible refine (snext_any _ _ _ _ _ _ _ _ hL.sg).mono ?_); rintro e3 w3 ⟨rfl, rfl⟩)
                | (go_at_call 72; (with_reducible refine (cLf _ hL.sg).mono ?_); rintro e4 w4 ⟨rfl, hb4⟩; replace hx1 := hx1.below hb4; replace hL := hL.below hb4; clear hb4)
                | (with_reducible refine wpList_load_if (by with_unfolding_all rfl) 24 _ rfl _ _ rfl (a.map u8v) _ hx1 hu (by with_unfolding_all rfl) hza ?_)
                | (go_at_call 73; (with_reducible refine (cSi _ hL.sg).mono ?_); rintro e5 w5 ⟨rfl, hb5⟩; replace hL := hL.below hb5; clear hb5)
                | (go_at_call 74; (with_reducible refine (cSa _).mono ?_); rintro e6 w6 ⟨rfl, hb6⟩))
              go_roundw
              case rel => exact ⟨i + 1, to, by omega, hz, by go_num, rfl, (hL.below ((Below.refl _ _).alloc (Nat.le_refl _) _)).below hb6⟩
              case measure => simp [intOf]; omega
            · have zs : ((to : Int) == (P : Int)) = false := by simp; omega
              have zn : (((to : Nat) : Int) != ((to : Nat) : Int)) = false := by simp
              have zl : (((P : Int) - (to : Int)) != ((P : Int) - (to : Int))) = false := by simp
              have hw1 : IntKind.i64.wrap ((P : Int) - (to : Int)) = (P : Int) - (to : Int) := by rw [IntKind.wrap_i64]; omega
              have hw2 : IntKind.i64.wrap ((to : Int) + 1) = (to : Int) + 1 := by rw [IntKind.wrap_i64]; omega
              have cLf := fun W h => cLf0 to W hz h
              have cSi := fun W h => cSo to a HA.out W (by omega) h
              have cR8 := fun W => cRs to a HA.out W (by omega)
              have cV := fun A1 c1 A2 c2 A3 c3 W => cVe to a HA.out A1 c1 A2 c2 A3 c3 W (by omega)
              have hzL : to < P := by omega
              clear cLf0 cSp cSo cRs cVe hzP
              go_wp2_with (first
                | (with_reducible refine wpList_load_if (by with_unfolding_all rfl) 24 _ rfl _ _ rfl (a.map u8v) _ r1 hu (by with_unfolding_all rfl) hza ?_)
                | ((with_reducible refine wpList_store_newid rfl _ _ rfl a HA.out rfl rfl (by with_unfolding_all rfl) ?_); intro w1 hx1 hb1; have hlt1 := hL.sg.blk.lt; replace hL := hL.below hb1; clear hb1)
                | (go_at_call 70; (with_reducible refine (cSk _ hL.sg).mono ?_); rintro e2 w2 ⟨rfl, hs2, hg2⟩; replace hx1 := range_gb hx1 hg2 (by omega); replace hL := hL.gb hg2 hs2; clear hg2)
                | (go_at_call 71; (with_reducible refine (snext_any _ _ _ _ _ _ _ _ hL.sg).mono ?_); rintro e3 w3 ⟨rfl, rfl⟩)
                | (go_at_call 72; (with_reducible refine (cLf _ hL.sg).mono ?_); rintro e4 w4 ⟨rfl, hb4⟩; replace hx1 := hx1.below hb4; replace hL := hL.below hb4; clear hb4)
                | (with_reducible refine wpList_load_if (by with_unfolding_all rfl) 24 _ rfl _ _ rfl (a.map u8v) _ hx1 hu (by with_unfolding_all rfl) hza ?_)
                | (go_at_call 73; (with_reducible refine (cSi _ hL.sg).mono ?_); rintro e5 w5 ⟨A1, c1, A2, c2, A3, c3, rfl, o1, o2, o3, hs5, hg5⟩; replace hx1 := range_gb hx1 hg5 (by omega); replace hL := hL.gb hg5 hs5; clear hg5)
                | (with_reducible refine wpList_store_new rfl 90 _ _ rfl (sigC _ _ _ _) rfl rfl (infoSigC _ _ _ _) (by with_unfolding_all rfl) (sigC_one _ _ _ _ _ _ _ _ _ _) ?_))
              have hsig : Blk (w5.alloc (.cells (sigC to (.slice A1 8 c1) (.slice A2 8 c2) (.slice A3 y c3)) 90)) w5.heap.size 90 #[.int .i64 to, .slice A1 8 c1, .slice A2 8 c2, .slice A3 y c3] := Blk.new w5 90 (sigC to (.slice A1 8 c1) (.slice A2 8 c2) (.slice A3 y c3))
              have ha0 := hx1.below ((Below.refl w5.heap.size w5).alloc (Nat.le_refl _) (.cells (sigC to (.slice A1 8 c1) (.slice A2 8 c2) (.slice A3 y c3)) 90))
              replace hL := hL.below ((Below.refl w5.heap.size w5).alloc (Nat.le_refl _) (.cells (sigC to (.slice A1 8 c1) (.slice A2 8 c2) (.slice A3 y c3)) 90))
              have q1 := own_row (o1.alloc (.cells (sigC to (.slice A1 8 c1) (.slice A2 8 c2) (.slice A3 y c3)) 90)) (upTo_32 _ (shownX_length s to a) 8) (by omega)
              have q2 := own_row (o2.alloc (.cells (sigC to (.slice A1 8 c1) (.slice A2 8 c2) (.slice A3 y c3)) 90)) (upTo_32 _ (hiddenX_length s to a) 8) (by omega)
              have q3 := own_row (o3.alloc (.cells (sigC to (.slice A1 8 c1) (.slice A2 8 c2) (.slice A3 y c3)) 90)) (upTo_32 _ (fun b => ndB_length _ (lfF_length s 8) _ _) y) (by omega)
              generalize hW0 : w5.alloc (.cells (sigC to (.slice A1 8 c1) (.slice A2 8 c2) (.slice A3 y c3)) 90) = W0 at *
              clear o1 o2 o3 hx1 hW0
              generalize w5.heap.size = gs at *
              refine wp_region_held_drew (S := fun W => Below W0.heap.size W0 W) (by kernel_rfl) ?_ (fun hHeld => ?_)
              · exact below_drew1 W0
              refine' wpAnyH_take (i := 0) (v := .int .i64 0) rfl (by kernel_rfl) (by kernel_rfl) (by kernel_rfl) (fun _ _ _ h => h) (Or.inl ⟨by rfl, fun w' hw' => by go_simp⟩) hHeld ?_
              try simp only [Act.put, List.getElem_toArray, List.getElem_cons_succ, List.getElem_cons_zero, List.setIfInBounds_toArray, List.set_cons_zero, List.set_cons_succ]
              refine' wpAnyH_take (i := 1) (v := .bool false) rfl (by kernel_rfl) (by kernel_rfl) (by kernel_rfl) (fun _ _ _ h => h) (Or.inl ⟨by rfl, fun w' hw' => by go_simp⟩) hHeld ?_
              try simp only [Act.put, List.getElem_toArray, List.getElem_cons_succ, List.getElem_cons_zero, List.setIfInBounds_toArray, List.set_cons_zero, List.set_cons_succ]
              refine' wpAnyH_take (i := 2) (v := .bool false) rfl (by kernel_rfl) (by kernel_rfl) (by kernel_rfl) (fun _ _ _ h => h) (Or.inl ⟨by rfl, fun w' hw' => by go_simp⟩) hHeld ?_
              try simp only [Act.put, List.getElem_toArray, List.getElem_cons_succ, List.getElem_cons_zero, List.setIfInBounds_toArray, List.set_cons_zero, List.set_cons_succ]
              refine' wpAnyH_take (i := 3) (v := .agg #[.int .i64 to, .slice A1 8 c1, .slice A2 8 c2, .slice A3 y c3]) rfl (by kernel_rfl) (by kernel_rfl) (by kernel_rfl) (fun _ _ _ h => h) (Or.inl ⟨by rfl, fun w' hw' => by have q0 := (hsig.below hw').cell_ (i := 0) rfl; have q1 := (hsig.below hw').cell_ (i := 1) rfl; have q2 := (hsig.below hw').cell_ (i := 2) rfl; have q3 := (hsig.below hw').cell_ (i := 3) rfl; go_simp⟩) hHeld ?_
              try simp only [Act.put, List.getElem_toArray, List.getElem_cons_succ, List.getElem_cons_zero, List.setIfInBounds_toArray, List.set_cons_zero, List.set_cons_succ]
              refine' wpAnyH_take (i := 4) (v := .agg #[.int .i64 8, .int .i64 y]) rfl (by kernel_rfl) (by kernel_rfl) (by kernel_rfl) (fun _ _ _ h => h) (Or.inl ⟨by rfl, fun w' hw' => by have q0 := (hL.par.below hw').cell_ (i := 0) rfl; have q1 := (hL.par.below hw').cell_ (i := 1) rfl; go_simp⟩) hHeld ?_
              try simp only [Act.put, List.getElem_toArray, List.getElem_cons_succ, List.getElem_cons_zero, List.setIfInBounds_toArray, List.set_cons_zero, List.set_cons_succ]
              refine' wpAnyH_take (i := 5) (v := .string (txt s)) rfl (by kernel_rfl) (by kernel_rfl) (by kernel_rfl) (fun _ _ _ h => h) (Or.inl ⟨by rfl, fun w' hw' => by go_simp⟩) hHeld ?_
              try simp only [Act.put, List.getElem_toArray, List.getElem_cons_succ, List.getElem_cons_zero, List.setIfInBounds_toArray, List.set_cons_zero, List.set_cons_succ]
              refine' wpAnyH_take (i := 6) (v := .int .i64 to) rfl (by kernel_rfl) (by kernel_rfl) (by kernel_rfl) (fun _ _ _ h => h) (Or.inl ⟨by rfl, fun w' hw' => by go_simp⟩) hHeld ?_
              try simp only [Act.put, List.getElem_toArray, List.getElem_cons_succ, List.getElem_cons_zero, List.setIfInBounds_toArray, List.set_cons_zero, List.set_cons_succ]
              refine' wpAnyH_take (i := 7) (v := _) rfl (by kernel_rfl) (by kernel_rfl) (by kernel_rfl) (fun _ _ _ h => h) (yieldsIf_load_mid (by rfl) 24 _ rfl _ _ rfl (a.map u8v) _ (fun w' h => ha0.below h) hu rfl hza) hHeld ?_
              try simp only [Act.put, List.getElem_toArray, List.getElem_cons_succ, List.getElem_cons_zero, List.setIfInBounds_toArray, List.set_cons_zero, List.set_cons_succ]
              refine wpAnyH_ready (rs := [8]) (by kernel_rfl) (by simp) ?_
              refine AllReadyH.cons rfl (fun K hK => ?_) AllReadyH.nil
              go_simp
              (with_reducible refine (cR8 _).mono ?_)
              rintro e8 w8 ⟨B1, d1, B2, d2, B3, d3, rfl, p1, p2, p3, hb8⟩
              refine hK.out _ _ (hHeld.trans (hb8.mono hHeld.size)) (fun hHeld => ?_)
              clear hK K
              try simp only [Act.put, List.getElem_toArray, List.getElem_cons_succ, List.getElem_cons_zero, List.setIfInBounds_toArray, List.set_cons_zero, List.set_cons_succ]
              refine wpAnyH_ready (rs := [9]) (by kernel_rfl) (by simp) ?_
              refine AllReadyH.cons rfl (fun K hK => ?_) AllReadyH.nil
              go_simp
              (with_reducible refine (same8_yes _ _ _ _ _ _ _ _ _ _ _ _ _ _ _ _ _ _ _ _ (q1.below hHeld) (q2.below hHeld) (q3.below hHeld) p1 p2 p3).mono ?_)
              rintro e9 w9 ⟨rfl, hb9⟩
              refine hK.out _ _ (hHeld.trans (hb9.mono hHeld.size)) (fun hHeld => ?_)
              clear hK K
              try simp only [Act.put, List.getElem_toArray, List.getElem_cons_succ, List.getElem_cons_zero, List.setIfInBounds_toArray, List.set_cons_zero, List.set_cons_succ]
              refine' wpAnyH_take (i := 10) (v := .bool false) rfl (by kernel_rfl) (by kernel_rfl) (by kernel_rfl) (fun _ _ _ h => h) (Or.inl ⟨by rfl, fun w' hw' => by go_simp⟩) hHeld ?_
              try simp only [Act.put, List.getElem_toArray, List.getElem_cons_succ, List.getElem_cons_zero, List.setIfInBounds_toArray, List.set_cons_zero, List.set_cons_succ]
              refine' wpAnyH_take (i := 11) (v := .bool false) rfl (by kernel_rfl) (by kernel_rfl) (by kernel_rfl) (fun _ _ _ h => h) (Or.inl ⟨by rfl, fun w' hw' => by go_simp⟩) hHeld ?_
              try simp only [Act.put, List.getElem_toArray, List.getElem_cons_succ, List.getElem_cons_zero, List.setIfInBounds_toArray, List.set_cons_zero, List.set_cons_succ]
              refine' wpAnyH_take (i := 12) (v := .bool false) rfl (by kernel_rfl) (by kernel_rfl) (by kernel_rfl) (fun _ _ _ h => h) (Or.inl ⟨by rfl, fun w' hw' => by go_simp⟩) hHeld ?_
              try simp only [Act.put, List.getElem_toArray, List.getElem_cons_succ, List.getElem_cons_zero, List.setIfInBounds_toArray, List.set_cons_zero, List.set_cons_succ]
              refine' wpAnyH_take (i := 13) (v := .agg #[.int .i64 8, .int .i64 y]) rfl (by kernel_rfl) (by kernel_rfl) (by kernel_rfl) (fun _ _ _ h => h) (Or.inl ⟨by rfl, fun w' hw' => by have q0 := (hL.par.below hw').cell_ (i := 0) rfl; have q1 := (hL.par.below hw').cell_ (i := 1) rfl; go_simp⟩) hHeld ?_
              try simp only [Act.put, List.getElem_toArray, List.getElem_cons_succ, List.getElem_cons_zero, List.setIfInBounds_toArray, List.set_cons_zero, List.set_cons_succ]
              refine' wpAnyH_take (i := 14) (v := .pointer (some ⟨g, 0, none⟩)) rfl (by kernel_rfl) (by kernel_rfl) (by kernel_rfl) (fun _ _ _ h => h) (Or.inl ⟨by rfl, fun w' hw' => by go_simp⟩) hHeld ?_
              try simp only [Act.put, List.getElem_toArray, List.getElem_cons_succ, List.getElem_cons_zero, List.setIfInBounds_toArray, List.set_cons_zero, List.set_cons_succ]
              refine' wpAnyH_take (i := 16) (v := _) rfl (by kernel_rfl) (by kernel_rfl) (by kernel_rfl) (fun _ _ _ h => h) (yieldsIf_load_mid (by rfl) 24 _ rfl _ _ rfl (a.map u8v) _ (fun w' h => ha0.below h) hu rfl hza) hHeld ?_
              try simp only [Act.put, List.getElem_toArray, List.getElem_cons_succ, List.getElem_cons_zero, List.setIfInBounds_toArray, List.set_cons_zero, List.set_cons_succ]
              refine' wpAnyH_take (i := 17) (v := .agg #[.int .i64 to, .slice A1 8 c1, .slice A2 8 c2, .slice A3 y c3]) rfl (by kernel_rfl) (by kernel_rfl) (by kernel_rfl) (fun _ _ _ h => h) (Or.inl ⟨by rfl, fun w' hw' => by have q0 := (hsig.below hw').cell_ (i := 0) rfl; have q1 := (hsig.below hw').cell_ (i := 1) rfl; have q2 := (hsig.below hw').cell_ (i := 2) rfl; have q3 := (hsig.below hw').cell_ (i := 3) rfl; go_simp⟩) hHeld ?_
              try simp only [Act.put, List.getElem_toArray, List.getElem_cons_succ, List.getElem_cons_zero, List.setIfInBounds_toArray, List.set_cons_zero, List.set_cons_succ]
              refine wpAnyH_ready (rs := [15]) (by kernel_rfl) (by simp) ?_
              refine AllReadyH.cons rfl (fun K hK => ?_) AllReadyH.nil
              go_simp
              (with_reducible refine (skey_any g gr cr s 8 y _ _ (hL.sg.below hHeld)).mono ?_)
              rintro e15 w15 ⟨rfl, hb15⟩
              refine hK.out _ _ (hHeld.trans (hb15.mono hHeld.size)) (fun hHeld => ?_)
              clear hK K
              try simp only [Act.put, List.getElem_toArray, List.getElem_cons_succ, List.getElem_cons_zero, List.setIfInBounds_toArray, List.set_cons_zero, List.set_cons_succ]
              refine wpAnyH_ready (rs := [18]) (by kernel_rfl) (by simp) ?_
              refine AllReadyH.cons rfl (fun K hK => ?_) AllReadyH.nil
              go_simp
              (with_reducible refine (cV _ _ _ _ _ _ _ (q1.below hHeld) (q2.below hHeld) (q3.below hHeld)).mono ?_)
              rintro e18 w18 ⟨rfl, hb18⟩
              refine hK.out _ _ (hHeld.trans (hb18.mono hHeld.size)) (fun hHeld => ?_)
              clear hK K
              try simp only [Act.put, List.getElem_toArray, List.getElem_cons_succ, List.getElem_cons_zero, List.setIfInBounds_toArray, List.set_cons_zero, List.set_cons_succ]
              refine' wpAnyH_take (i := 19) (v := .bool false) rfl (by kernel_rfl) (by kernel_rfl) (by kernel_rfl) (fun _ _ _ h => h) (Or.inl ⟨by rfl, fun w' hw' => by go_simp⟩) hHeld ?_
              try simp only [Act.put, List.getElem_toArray, List.getElem_cons_succ, List.getElem_cons_zero, List.setIfInBounds_toArray, List.set_cons_zero, List.set_cons_succ]
              refine' wpAnyH_take (i := 20) (v := .bool false) rfl (by kernel_rfl) (by kernel_rfl) (by kernel_rfl) (fun _ _ _ h => h) (Or.inl ⟨by rfl, fun w' hw' => by go_simp⟩) hHeld ?_
              try simp only [Act.put, List.getElem_toArray, List.getElem_cons_succ, List.getElem_cons_zero, List.setIfInBounds_toArray, List.set_cons_zero, List.set_cons_succ]
              refine wpAnyH_done (by kernel_rfl) ?_ _
              go_wp2
              go_roundw
              case rel => exact ⟨i + 1, to + 1, by omega, by omega, by go_num, (by go_num), hL.below hHeld⟩
              case measure => simp [intOf]; omega
          · have zB : decide (sk ≤ (P : Int)) = false := decide_eq_false hB1
            have cSk := cNo nx sk (.inr (by omega))
            clear hi1 cNo cYe
            by_cases hzP : nx = P
            · have zs : ((nx : Int) == (P : Int)) = true := by simp; omega
              have zn : (((nx : Nat) : Int) != ((nx : Nat) : Int)) = false := by simp
              have zl : (((P : Int) - (nx : Int)) != ((P : Int) - (nx : Int))) = false := by simp
              have hw1 : IntKind.i64.wrap ((P : Int) - (nx : Int)) = (P : Int) - (nx : Int) := by rw [IntKind.wrap_i64]; omega
              have cLf := fun W h => cLf0 nx W hz h
              have cSi := fun W h => cSp nx a W hzP h
              have HZP := hid hzP
              clear cLf0 cSp cSo hzP
              go_wp2_with (first
                | (with_reducible refine wpList_load_if (by with_unfolding_all rfl) 24 _ rfl _ _ rfl (a.map u8v) _ r1 hu (by with_unfolding_all rfl) hza ?_)
                | ((with_reducible refine wpList_store_newid rfl _ _ rfl a HA.out rfl rfl (by with_unfolding_all rfl) ?_); intro w1 hx1 hb1; have hlt1 := hL.sg.blk.lt; replace hL := hL.below hb1; clear hb1)
                | (go_at_call 70; (with_reducible refine (cSk _ hL.sg).mono ?_); rintro e2 w2 ⟨rfl, hb2⟩; replace hx1 := hx1.below hb2; replace hL := hL.below hb2; clear hb2)
                | (go_at_call 71; (with_reducible refine (snext_any _ _ _ _ _ _ _ _ hL.sg).mono ?_); rintro e3 w3 ⟨rfl, rfl⟩)
                | (go_at_call 72; (with_reducible refine (cLf _ hL.sg).mono ?_); rintro e4 w4 ⟨rfl, hb4⟩; replace hx1 := hx1.below hb4; replace hL := hL.below hb4; clear hb4)
                | (with_reducible refine wpList_load_if (by with_unfolding_all rfl) 24 _ rfl _ _ rfl (a.map u8v) _ hx1 hu (by with_unfolding_all rfl) hza ?_)
                | (go_at_call 73; (with_reducible refine (cSi _ hL.sg).mono ?_); rintro e5 w5 ⟨rfl, hb5⟩; replace hL := hL.below hb5; clear hb5)
                | (go_at_call 74; (with_reducible refine (cSa _).mono ?_); rintro e6 w6 ⟨rfl, hb6⟩))
              go_roundw
              case rel => exact ⟨i + 1, nx, by omega, hz, by go_num, rfl, (hL.below ((Below.refl _ _).alloc (Nat.le_refl _) _)).below hb6⟩
              case measure => simp [intOf]; omega
            · have zs : ((nx : Int) == (P : Int)) = false := by simp; omega
              have zn : (((nx : Nat) : Int) != ((nx : Nat) : Int)) = false := by simp
              have zl : (((P : Int) - (nx : Int)) != ((P : Int) - (nx : Int))) = false := by simp
              have hw1 : IntKind.i64.wrap ((P : Int) - (nx : Int)) = (P : Int) - (nx : Int) := by rw [IntKind.wrap_i64]; omega
              have hw2 : IntKind.i64.wrap ((nx : Int) + 1) = (nx : Int) + 1 := by rw [IntKind.wrap_i64]; omega
              have cLf := fun W h => cLf0 nx W hz h
              have cSi := fun W h => cSo nx a HA.out W (by omega) h
              have cR8 := fun W => cRs nx a HA.out W (by omega)
              have cV := fun A1 c1 A2 c2 A3 c3 W => cVe nx a HA.out A1 c1 A2 c2 A3 c3 W (by omega)
              have hzL : nx < P := by omega
              clear cLf0 cSp cSo cRs cVe hzP
              go_wp2_with (first
                | (with_reducible refine wpList_load_if (by with_unfolding_all rfl) 24 _ rfl _ _ rfl (a.map u8v) _ r1 hu (by with_unfolding_all rfl) hza ?_)
                | ((with_reducible refine wpList_store_newid rfl _ _ rfl a HA.out rfl rfl (by with_unfolding_all rfl) ?_); intro w1 hx1 hb1; have hlt1 := hL.sg.blk.lt; replace hL := hL.below hb1; clear hb1)
                | (go_at_call 70; (with_reducible refine (cSk _ hL.sg).mono ?_); rintro e2 w2 ⟨rfl, hb2⟩; replace hx1 := hx1.below hb2; replace hL := hL.below hb2; clear hb2)
                | (go_at_call 71; (with_reducible refine (snext_any _ _ _ _ _ _ _ _ hL.sg).mono ?_); rintro e3 w3 ⟨rfl, rfl⟩)
                | (go_at_call 72; (with_reducible refine (cLf _ hL.sg).mono ?_); rintro e4 w4 ⟨rfl, hb4⟩; replace hx1 := hx1.below hb4; replace hL := hL.below hb4; clear hb4)
                | (with_reducible refine wpList_load_if (by with_unfolding_all rfl) 24 _ rfl _ _ rfl (a.map u8v) _ hx1 hu (by with_unfolding_all rfl) hza ?_)
                | (go_at_call 73; (with_reducible refine (cSi _ hL.sg).mono ?_); rintro e5 w5 ⟨A1, c1, A2, c2, A3, c3, rfl, o1, o2, o3, hs5, hg5⟩; replace hx1 := range_gb hx1 hg5 (by omega); replace hL := hL.gb hg5 hs5; clear hg5)
                | (with_reducible refine wpList_store_new rfl 90 _ _ rfl (sigC _ _ _ _) rfl rfl (infoSigC _ _ _ _) (by with_unfolding_all rfl) (sigC_one _ _ _ _ _ _ _ _ _ _) ?_))
              have hsig : Blk (w5.alloc (.cells (sigC nx (.slice A1 8 c1) (.slice A2 8 c2) (.slice A3 y c3)) 90)) w5.heap.size 90 #[.int .i64 nx, .slice A1 8 c1, .slice A2 8 c2, .slice A3 y c3] := Blk.new w5 90 (sigC nx (.slice A1 8 c1) (.slice A2 8 c2) (.slice A3 y c3))
              have ha0 := hx1.below ((Below.refl w5.heap.size w5).alloc (Nat.le_refl _) (.cells (sigC nx (.slice A1 8 c1) (.slice A2 8 c2) (.slice A3 y c3)) 90))
              replace hL := hL.below ((Below.refl w5.heap.size w5).alloc (Nat.le_refl _) (.cells (sigC nx (.slice A1 8 c1) (.slice A2 8 c2) (.slice A3 y c3)) 90))
              have q1 := own_row (o1.alloc (.cells (sigC nx (.slice A1 8 c1) (.slice A2 8 c2) (.slice A3 y c3)) 90)) (upTo_32 _ (shownX_length s nx a) 8) (by omega)
              have q2 := own_row (o2.alloc (.cells (sigC nx (.slice A1 8 c1) (.slice A2 8 c2) (.slice A3 y c3)) 90)) (upTo_32 _ (hiddenX_length s nx a) 8) (by omega)
              have q3 := own_row (o3.alloc (.cells (sigC nx (.slice A1 8 c1) (.slice A2 8 c2) (.slice A3 y c3)) 90)) (upTo_32 _ (fun b => ndB_length _ (lfF_length s 8) _ _) y) (by omega)
              generalize hW0 : w5.alloc (.cells (sigC nx (.slice A1 8 c1) (.slice A2 8 c2) (.slice A3 y c3)) 90) = W0 at *
              clear o1 o2 o3 hx1 hW0
              generalize w5.heap.size = gs at *
              refine wp_region_held_drew (S := fun W => Below W0.heap.size W0 W) (by kernel_rfl) ?_ (fun hHeld => ?_)
              · exact below_drew1 W0
              refine' wpAnyH_take (i := 0) (v := .int .i64 0) rfl (by kernel_rfl) (by kernel_rfl) (by kernel_rfl) (fun _ _ _ h => h) (Or.inl ⟨by rfl, fun w' hw' => by go_simp⟩) hHeld ?_
              try simp only [Act.put, List.getElem_toArray, List.getElem_cons_succ, List.getElem_cons_zero, List.setIfInBounds_toArray, List.set_cons_zero, List.set_cons_succ]
              refine' wpAnyH_take (i := 1) (v := .bool false) rfl (by kernel_rfl) (by kernel_rfl) (by kernel_rfl) (fun _ _ _ h => h) (Or.inl ⟨by rfl, fun w' hw' => by go_simp⟩) hHeld ?_
              try simp only [Act.put, List.getElem_toArray, List.getElem_cons_succ, List.getElem_cons_zero, List.setIfInBounds_toArray, List.set_cons_zero, List.set_cons_succ]
              refine' wpAnyH_take (i := 2) (v := .bool false) rfl (by kernel_rfl) (by kernel_rfl) (by kernel_rfl) (fun _ _ _ h => h) (Or.inl ⟨by rfl, fun w' hw' => by go_simp⟩) hHeld ?_
              try simp only [Act.put, List.getElem_toArray, List.getElem_cons_succ, List.getElem_cons_zero, List.setIfInBounds_toArray, List.set_cons_zero, List.set_cons_succ]
              refine' wpAnyH_take (i := 3) (v := .agg #[.int .i64 nx, .slice A1 8 c1, .slice A2 8 c2, .slice A3 y c3]) rfl (by kernel_rfl) (by kernel_rfl) (by kernel_rfl) (fun _ _ _ h => h) (Or.inl ⟨by rfl, fun w' hw' => by have q0 := (hsig.below hw').cell_ (i := 0) rfl; have q1 := (hsig.below hw').cell_ (i := 1) rfl; have q2 := (hsig.below hw').cell_ (i := 2) rfl; have q3 := (hsig.below hw').cell_ (i := 3) rfl; go_simp⟩) hHeld ?_
              try simp only [Act.put, List.getElem_toArray, List.getElem_cons_succ, List.getElem_cons_zero, List.setIfInBounds_toArray, List.set_cons_zero, List.set_cons_succ]
              refine' wpAnyH_take (i := 4) (v := .agg #[.int .i64 8, .int .i64 y]) rfl (by kernel_rfl) (by kernel_rfl) (by kernel_rfl) (fun _ _ _ h => h) (Or.inl ⟨by rfl, fun w' hw' => by have q0 := (hL.par.below hw').cell_ (i := 0) rfl; have q1 := (hL.par.below hw').cell_ (i := 1) rfl; go_simp⟩) hHeld ?_
              try simp only [Act.put, List.getElem_toArray, List.getElem_cons_succ, List.getElem_cons_zero, List.setIfInBounds_toArray, List.set_cons_zero, List.set_cons_succ]
              refine' wpAnyH_take (i := 5) (v := .string (txt s)) rfl (by kernel_rfl) (by kernel_rfl) (by kernel_rfl) (fun _ _ _ h => h) (Or.inl ⟨by rfl, fun w' hw' => by go_simp⟩) hHeld ?_
              try simp only [Act.put, List.getElem_toArray, List.getElem_cons_succ, List.getElem_cons_zero, List.setIfInBounds_toArray, List.set_cons_zero, List.set_cons_succ]
              refine' wpAnyH_take (i := 6) (v := .int .i64 nx) rfl (by kernel_rfl) (by kernel_rfl) (by kernel_rfl) (fun _ _ _ h => h) (Or.inl ⟨by rfl, fun w' hw' => by go_simp⟩) hHeld ?_
              try simp only [Act.put, List.getElem_toArray, List.getElem_cons_succ, List.getElem_cons_zero, List.setIfInBounds_toArray, List.set_cons_zero, List.set_cons_succ]
              refine' wpAnyH_take (i := 7) (v := _) rfl (by kernel_rfl) (by kernel_rfl) (by kernel_rfl) (fun _ _ _ h => h) (yieldsIf_load_mid (by rfl) 24 _ rfl _ _ rfl (a.map u8v) _ (fun w' h => ha0.below h) hu rfl hza) hHeld ?_
              try simp only [Act.put, List.getElem_toArray, List.getElem_cons_succ, List.getElem_cons_zero, List.setIfInBounds_toArray, List.set_cons_zero, List.set_cons_succ]
              refine wpAnyH_ready (rs := [8]) (by kernel_rfl) (by simp) ?_
              refine AllReadyH.cons rfl (fun K hK => ?_) AllReadyH.nil
              go_simp
              (with_reducible refine (cR8 _).mono ?_)
              rintro e8 w8 ⟨B1, d1, B2, d2, B3, d3, rfl, p1, p2, p3, hb8⟩
              refine hK.out _ _ (hHeld.trans (hb8.mono hHeld.size)) (fun hHeld => ?_)
              clear hK K
              try simp only [Act.put, List.getElem_toArray, List.getElem_cons_succ, List.getElem_cons_zero, List.setIfInBounds_toArray, List.set_cons_zero, List.set_cons_succ]
              refine wpAnyH_ready (rs := [9]) (by kernel_rfl) (by simp) ?_
              refine AllReadyH.cons rfl (fun K hK => ?_) AllReadyH.nil
              go_simp
              (with_reducible refine (same8_yes _ _ _ _ _ _ _ _ _ _ _ _ _ _ _ _ _ _ _ _ (q1.below hHeld) (q2.below hHeld) (q3.below hHeld) p1 p2 p3).mono ?_)
              rintro e9 w9 ⟨rfl, hb9⟩
              refine hK.out _ _ (hHeld.trans (hb9.mono hHeld.size)) (fun hHeld => ?_)
              clear hK K
              try simp only [Act.put, List.getElem_toArray, List.getElem_cons_succ, List.getElem_cons_zero, List.setIfInBounds_toArray, List.set_cons_zero, List.set_cons_succ]
              refine' wpAnyH_take (i := 10) (v := .bool false) rfl (by kernel_rfl) (by kernel_rfl) (by kernel_rfl) (fun _ _ _ h => h) (Or.inl ⟨by rfl, fun w' hw' => by go_simp⟩) hHeld ?_
              try simp only [Act.put, List.getElem_toArray, List.getElem_cons_succ, List.getElem_cons_zero, List.setIfInBounds_toArray, List.set_cons_zero, List.set_cons_succ]
              refine' wpAnyH_take (i := 11) (v := .bool false) rfl (by kernel_rfl) (by kernel_rfl) (by kernel_rfl) (fun _ _ _ h => h) (Or.inl ⟨by rfl, fun w' hw' => by go_simp⟩) hHeld ?_
              try simp only [Act.put, List.getElem_toArray, List.getElem_cons_succ, List.getElem_cons_zero, List.setIfInBounds_toArray, List.set_cons_zero, List.set_cons_succ]
              refine' wpAnyH_take (i := 12) (v := .bool false) rfl (by kernel_rfl) (by kernel_rfl) (by kernel_rfl) (fun _ _ _ h => h) (Or.inl ⟨by rfl, fun w' hw' => by go_simp⟩) hHeld ?_
              try simp only [Act.put, List.getElem_toArray, List.getElem_cons_succ, List.getElem_cons_zero, List.setIfInBounds_toArray, List.set_cons_zero, List.set_cons_succ]
              refine' wpAnyH_take (i := 13) (v := .agg #[.int .i64 8, .int .i64 y]) rfl (by kernel_rfl) (by kernel_rfl) (by kernel_rfl) (fun _ _ _ h => h) (Or.inl ⟨by rfl, fun w' hw' => by have q0 := (hL.par.below hw').cell_ (i := 0) rfl; have q1 := (hL.par.below hw').cell_ (i := 1) rfl; go_simp⟩) hHeld ?_
              try simp only [Act.put, List.getElem_toArray, List.getElem_cons_succ, List.getElem_cons_zero, List.setIfInBounds_toArray, List.set_cons_zero, List.set_cons_succ]
              refine' wpAnyH_take (i := 14) (v := .pointer (some ⟨g, 0, none⟩)) rfl (by kernel_rfl) (by kernel_rfl) (by kernel_rfl) (fun _ _ _ h => h) (Or.inl ⟨by rfl, fun w' hw' => by go_simp⟩) hHeld ?_
              try simp only [Act.put, List.getElem_toArray, List.getElem_cons_succ, List.getElem_cons_zero, List.setIfInBounds_toArray, List.set_cons_zero, List.set_cons_succ]
              refine' wpAnyH_take (i := 16) (v := _) rfl (by kernel_rfl) (by kernel_rfl) (by kernel_rfl) (fun _ _ _ h => h) (yieldsIf_load_mid (by rfl) 24 _ rfl _ _ rfl (a.map u8v) _ (fun w' h => ha0.below h) hu rfl hza) hHeld ?_
              try simp only [Act.put, List.getElem_toArray, List.getElem_cons_succ, List.getElem_cons_zero, List.setIfInBounds_toArray, List.set_cons_zero, List.set_cons_succ]
              refine' wpAnyH_take (i := 17) (v := .agg #[.int .i64 nx, .slice A1 8 c1, .slice A2 8 c2, .slice A3 y c3]) rfl (by kernel_rfl) (by kernel_rfl) (by kernel_rfl) (fun _ _ _ h => h) (Or.inl ⟨by rfl, fun w' hw' => by have q0 := (hsig.below hw').cell_ (i := 0) rfl; have q1 := (hsig.below hw').cell_ (i := 1) rfl; have q2 := (hsig.below hw').cell_ (i := 2) rfl; have q3 := (hsig.below hw').cell_ (i := 3) rfl; go_simp⟩) hHeld ?_
              try simp only [Act.put, List.getElem_toArray, List.getElem_cons_succ, List.getElem_cons_zero, List.setIfInBounds_toArray, List.set_cons_zero, List.set_cons_succ]
              refine wpAnyH_ready (rs := [15]) (by kernel_rfl) (by simp) ?_
              refine AllReadyH.cons rfl (fun K hK => ?_) AllReadyH.nil
              go_simp
              (with_reducible refine (skey_any g gr cr s 8 y _ _ (hL.sg.below hHeld)).mono ?_)
              rintro e15 w15 ⟨rfl, hb15⟩
              refine hK.out _ _ (hHeld.trans (hb15.mono hHeld.size)) (fun hHeld => ?_)
              clear hK K
              try simp only [Act.put, List.getElem_toArray, List.getElem_cons_succ, List.getElem_cons_zero, List.setIfInBounds_toArray, List.set_cons_zero, List.set_cons_succ]
              refine wpAnyH_ready (rs := [18]) (by kernel_rfl) (by simp) ?_
              refine AllReadyH.cons rfl (fun K hK => ?_) AllReadyH.nil
              go_simp
              (with_reducible refine (cV _ _ _ _ _ _ _ (q1.below hHeld) (q2.below hHeld) (q3.below hHeld)).mono ?_)
              rintro e18 w18 ⟨rfl, hb18⟩
              refine hK.out _ _ (hHeld.trans (hb18.mono hHeld.size)) (fun hHeld => ?_)
              clear hK K
              try simp only [Act.put, List.getElem_toArray, List.getElem_cons_succ, List.getElem_cons_zero, List.setIfInBounds_toArray, List.set_cons_zero, List.set_cons_succ]
              refine' wpAnyH_take (i := 19) (v := .bool false) rfl (by kernel_rfl) (by kernel_rfl) (by kernel_rfl) (fun _ _ _ h => h) (Or.inl ⟨by rfl, fun w' hw' => by go_simp⟩) hHeld ?_
              try simp only [Act.put, List.getElem_toArray, List.getElem_cons_succ, List.getElem_cons_zero, List.setIfInBounds_toArray, List.set_cons_zero, List.set_cons_succ]
              refine' wpAnyH_take (i := 20) (v := .bool false) rfl (by kernel_rfl) (by kernel_rfl) (by kernel_rfl) (fun _ _ _ h => h) (Or.inl ⟨by rfl, fun w' hw' => by go_simp⟩) hHeld ?_
              try simp only [Act.put, List.getElem_toArray, List.getElem_cons_succ, List.getElem_cons_zero, List.setIfInBounds_toArray, List.set_cons_zero, List.set_cons_succ]
              refine wpAnyH_done (by kernel_rfl) ?_ _
              go_wp2
              go_roundw
              case rel => exact ⟨i + 1, nx + 1, by omega, by omega, by go_num, (by go_num), hL.below hHeld⟩
              case measure => simp [intOf]; omega
        · have zA : decide ((nx : Int) ≤ sk) = false := decide_eq_false hA1
          have cSk := cNo nx sk (.inl (by omega))
          clear hi1 cNo cYe
          by_cases hzP : nx = P
          · have zs : ((nx : Int) == (P : Int)) = true := by simp; omega
            have zn : (((nx : Nat) : Int) != ((nx : Nat) : Int)) = false := by simp
            have zl : (((P : Int) - (nx : Int)) != ((P : Int) - (nx : Int))) = false := by simp
            have hw1 : IntKind.i64.wrap ((P : Int) - (nx : Int)) = (P : Int) - (nx : Int) := by rw [IntKind.wrap_i64]; omega
            have cLf := fun W h => cLf0 nx W hz h
            have cSi := fun W h => cSp nx a W hzP h
            have HZP := hid hzP
            clear cLf0 cSp cSo hzP
            go_wp2_with (first
              | (with_reducible refine wpList_load_if (by with_unfolding_all rfl) 24 _ rfl _ _ rfl (a.map u8v) _ r1 hu (by with_unfolding_all rfl) hza ?_)
              | ((with_reducible refine wpList_store_newid rfl _ _ rfl a HA.out rfl rfl (by with_unfolding_all rfl) ?_); intro w1 hx1 hb1; have hlt1 := hL.sg.blk.lt; replace hL := hL.below hb1; clear hb1)
              | (go_at_call 70; (with_reducible refine (cSk _ hL.sg).mono ?_); rintro e2 w2 ⟨rfl, hb2⟩; replace hx1 := hx1.below hb2; replace hL := hL.below hb2; clear hb2)
              | (go_at_call 71; (with_reducible refine (snext_any _ _ _ _ _ _ _ _ hL.sg).mono ?_); rintro e3 w3 ⟨rfl, rfl⟩)
              | (go_at_call 72; (with_reducible refine (cLf _ hL.sg).mono ?_); rintro e4 w4 ⟨rfl, hb4⟩; replace hx1 := hx1.below hb4; replace hL := hL.below hb4; clear hb4)
              | (with_reducible refine wpList_load_if (by with_unfolding_all rfl) 24 _ rfl _ _ rfl (a.map u8v) _ hx1 hu (by with_unfolding_all rfl) hza ?_)
              | (go_at_call 73; (with_reducible refine (cSi _ hL.sg).mono ?_); rintro e5 w5 ⟨rfl, hb5⟩; replace hL := hL.below hb5; clear hb5)
              | (go_at_call 74; (with_reducible refine (cSa _).mono ?_); rintro e6 w6 ⟨rfl, hb6⟩))
            go_roundw
            case rel => exact ⟨i + 1, nx, by omega, hz, by go_num, rfl, (hL.below ((Below.refl _ _).alloc (Nat.le_refl _) _)).below hb6⟩
            case measure => simp [intOf]; omega
          · have zs : ((nx : Int) == (P : Int)) = false := by simp; omega
            have zn : (((nx : Nat) : Int) != ((nx : Nat) : Int)) = false := by simp
            have zl : (((P : Int) - (nx : Int)) != ((P : Int) - (nx : Int))) = false := by simp
            have hw1 : IntKind.i64.wrap ((P : Int) - (nx : Int)) = (P : Int) - (nx : Int) := by rw [IntKind.wrap_i64]; omega
            have hw2 : IntKind.i64.wrap ((nx : Int) + 1) = (nx : Int) + 1 := by rw [IntKind.wrap_i64]; omega
            have cLf := fun W h => cLf0 nx W hz h
            have cSi := fun W h => cSo nx a HA.out W (by omega) h
            have cR8 := fun W => cRs nx a HA.out W (by omega)
            have cV := fun A1 c1 A2 c2 A3 c3 W => cVe nx a HA.out A1 c1 A2 c2 A3 c3 W (by omega)
            have hzL : nx < P := by omega
            clear cLf0 cSp cSo cRs cVe hzP
            go_wp2_with (first
              | (with_reducible refine wpList_load_if (by with_unfolding_all rfl) 24 _ rfl _ _ rfl (a.map u8v) _ r1 hu (by with_unfolding_all rfl) hza ?_)
              | ((with_reducible refine wpList_store_newid rfl _ _ rfl a HA.out rfl rfl (by with_unfolding_all rfl) ?_); intro w1 hx1 hb1; have hlt1 := hL.sg.blk.lt; replace hL := hL.below hb1; clear hb1)
              | (go_at_call 70; (with_reducible refine (cSk _ hL.sg).mono ?_); rintro e2 w2 ⟨rfl, hb2⟩; replace hx1 := hx1.below hb2; replace hL := hL.below hb2; clear hb2)
              | (go_at_call 71; (with_reducible refine (snext_any _ _ _ _ _ _ _ _ hL.sg).mono ?_); rintro e3 w3 ⟨rfl, rfl⟩)
              | (go_at_call 72; (with_reducible refine (cLf _ hL.sg).mono ?_); rintro e4 w4 ⟨rfl, hb4⟩; replace hx1 := hx1.below hb4; replace hL := hL.below hb4; clear hb4)
              | (with_reducible refine wpList_load_if (by with_unfolding_all rfl) 24 _ rfl _ _ rfl (a.map u8v) _ hx1 hu (by with_unfolding_all rfl) hza ?_)
              | (go_at_call 73; (with_reducible refine (cSi _ hL.sg).mono ?_); rintro e5 w5 ⟨A1, c1, A2, c2, A3, c3, rfl, o1, o2, o3, hs5, hg5⟩; replace hx1 := range_gb hx1 hg5 (by omega); replace hL := hL.gb hg5 hs5; clear hg5)
              | (with_reducible refine wpList_store_new rfl 90 _ _ rfl (sigC _ _ _ _) rfl rfl (infoSigC _ _ _ _) (by with_unfolding_all rfl) (sigC_one _ _ _ _ _ _ _ _ _ _) ?_))
            have hsig : Blk (w5.alloc (.cells (sigC nx (.slice A1 8 c1) (.slice A2 8 c2) (.slice A3 y c3)) 90)) w5.heap.size 90 #[.int .i64 nx, .slice A1 8 c1, .slice A2 8 c2, .slice A3 y c3] := Blk.new w5 90 (sigC nx (.slice A1 8 c1) (.slice A2 8 c2) (.slice A3 y c3))
            have ha0 := hx1.below ((Below.refl w5.heap.size w5).alloc (Nat.le_refl _) (.cells (sigC nx (.slice A1 8 c1) (.slice A2 8 c2) (.slice A3 y c3)) 90))
            replace hL := hL.below ((Below.refl w5.heap.size w5).alloc (Nat.le_refl _) (.cells (sigC nx (.slice A1 8 c1) (.slice A2 8 c2) (.slice A3 y c3)) 90))
            have q1 := own_row (o1.alloc (.cells (sigC nx (.slice A1 8 c1) (.slice A2 8 c2) (.slice A3 y c3)) 90)) (upTo_32 _ (shownX_length s nx a) 8) (by omega)
            have q2 := own_row (o2.alloc (.cells (sigC nx (.slice A1 8 c1) (.slice A2 8 c2) (.slice A3 y c3)) 90)) (upTo_32 _ (hiddenX_length s nx a) 8) (by omega)
            have q3 := own_row (o3.alloc (.cells (sigC nx (.slice A1 8 c1) (.slice A2 8 c2) (.slice A3 y c3)) 90)) (upTo_32 _ (fun b => ndB_length _ (lfF_length s 8) _ _) y) (by omega)
            generalize hW0 : w5.alloc (.cells (sigC nx (.slice A1 8 c1) (.slice A2 8 c2) (.slice A3 y c3)) 90) = W0 at *
            clear o1 o2 o3 hx1 hW0
            generalize w5.heap.size = gs at *
            refine wp_region_held_drew (S := fun W => Below W0.heap.size W0 W) (by kernel_rfl) ?_ (fun hHeld => ?_)
            · exact below_drew1 W0
            refine' wpAnyH_take (i := 0) (v := .int .i64 0) rfl (by kernel_rfl) (by kernel_rfl) (by kernel_rfl) (fun _ _ _ h => h) (Or.inl ⟨by rfl, fun w' hw' => by go_simp⟩) hHeld ?_
            try simp only [Act.put, List.getElem_toArray, List.getElem_cons_succ, List.getElem_cons_zero, List.setIfInBounds_toArray, List.set_cons_zero, List.set_cons_succ]
            refine' wpAnyH_take (i := 1) (v := .bool false) rfl (by kernel_rfl) (by kernel_rfl) (by kernel_rfl) (fun _ _ _ h => h) (Or.inl ⟨by rfl, fun w' hw' => by go_simp⟩) hHeld ?_
            try simp only [Act.put, List.getElem_toArray, List.getElem_cons_succ, List.getElem_cons_zero, List.setIfInBounds_toArray, List.set_cons_zero, List.set_cons_succ]
            refine' wpAnyH_take (i := 2) (v := .bool false) rfl (by kernel_rfl) (by kernel_rfl) (by kernel_rfl) (fun _ _ _ h => h) (Or.inl ⟨by rfl, fun w' hw' => by go_simp⟩) hHeld ?_
            try simp only [Act.put, List.getElem_toArray, List.getElem_cons_succ, List.getElem_cons_zero, List.setIfInBounds_toArray, List.set_cons_zero, List.set_cons_succ]
            refine' wpAnyH_take (i := 3) (v := .agg #[.int .i64 nx, .slice A1 8 c1, .slice A2 8 c2, .slice A3 y c3]) rfl (by kernel_rfl) (by kernel_rfl) (by kernel_rfl) (fun _ _ _ h => h) (Or.inl ⟨by rfl, fun w' hw' => by have q0 := (hsig.below hw').cell_ (i := 0) rfl; have q1 := (hsig.below hw').cell_ (i := 1) rfl; have q2 := (hsig.below hw').cell_ (i := 2) rfl; have q3 := (hsig.below hw').cell_ (i := 3) rfl; go_simp⟩) hHeld ?_
            try simp only [Act.put, List.getElem_toArray, List.getElem_cons_succ, List.getElem_cons_zero, List.setIfInBounds_toArray, List.set_cons_zero, List.set_cons_succ]
            refine' wpAnyH_take (i := 4) (v := .agg #[.int .i64 8, .int .i64 y]) rfl (by kernel_rfl) (by kernel_rfl) (by kernel_rfl) (fun _ _ _ h => h) (Or.inl ⟨by rfl, fun w' hw' => by have q0 := (hL.par.below hw').cell_ (i := 0) rfl; have q1 := (hL.par.below hw').cell_ (i := 1) rfl; go_simp⟩) hHeld ?_
            try simp only [Act.put, List.getElem_toArray, List.getElem_cons_succ, List.getElem_cons_zero, List.setIfInBounds_toArray, List.set_cons_zero, List.set_cons_succ]
            refine' wpAnyH_take (i := 5) (v := .string (txt s)) rfl (by kernel_rfl) (by kernel_rfl) (by kernel_rfl) (fun _ _ _ h => h) (Or.inl ⟨by rfl, fun w' hw' => by go_simp⟩) hHeld ?_
            try simp only [Act.put, List.getElem_toArray, List.getElem_cons_succ, List.getElem_cons_zero, List.setIfInBounds_toArray, List.set_cons_zero, List.set_cons_succ]
            refine' wpAnyH_take (i := 6) (v := .int .i64 nx) rfl (by kernel_rfl) (by kernel_rfl) (by kernel_rfl) (fun _ _ _ h => h) (Or.inl ⟨by rfl, fun w' hw' => by go_simp⟩) hHeld ?_
            try simp only [Act.put, List.getElem_toArray, List.getElem_cons_succ, List.getElem_cons_zero, List.setIfInBounds_toArray, List.set_cons_zero, List.set_cons_succ]
            refine' wpAnyH_take (i := 7) (v := _) rfl (by kernel_rfl) (by kernel_rfl) (by kernel_rfl) (fun _ _ _ h => h) (yieldsIf_load_mid (by rfl) 24 _ rfl _ _ rfl (a.map u8v) _ (fun w' h => ha0.below h) hu rfl hza) hHeld ?_
            try simp only [Act.put, List.getElem_toArray, List.getElem_cons_succ, List.getElem_cons_zero, List.setIfInBounds_toArray, List.set_cons_zero, List.set_cons_succ]
            refine wpAnyH_ready (rs := [8]) (by kernel_rfl) (by simp) ?_
            refine AllReadyH.cons rfl (fun K hK => ?_) AllReadyH.nil
            go_simp
            (with_reducible refine (cR8 _).mono ?_)
            rintro e8 w8 ⟨B1, d1, B2, d2, B3, d3, rfl, p1, p2, p3, hb8⟩
            refine hK.out _ _ (hHeld.trans (hb8.mono hHeld.size)) (fun hHeld => ?_)
            clear hK K
            try simp only [Act.put, List.getElem_toArray, List.getElem_cons_succ, List.getElem_cons_zero, List.setIfInBounds_toArray, List.set_cons_zero, List.set_cons_succ]
            refine wpAnyH_ready (rs := [9]) (by kernel_rfl) (by simp) ?_
            refine AllReadyH.cons rfl (fun K hK => ?_) AllReadyH.nil
            go_simp
            (with_reducible refine (same8_yes _ _ _ _ _ _ _ _ _ _ _ _ _ _ _ _ _ _ _ _ (q1.below hHeld) (q2.below hHeld) (q3.below hHeld) p1 p2 p3).mono ?_)
            rintro e9 w9 ⟨rfl, hb9⟩
            refine hK.out _ _ (hHeld.trans (hb9.mono hHeld.size)) (fun hHeld => ?_)
            clear hK K
            try simp only [Act.put, List.getElem_toArray, List.getElem_cons_succ, List.getElem_cons_zero, List.setIfInBounds_toArray, List.set_cons_zero, List.set_cons_succ]
            refine' wpAnyH_take (i := 10) (v := .bool false) rfl (by kernel_rfl) (by kernel_rfl) (by kernel_rfl) (fun _ _ _ h => h) (Or.inl ⟨by rfl, fun w' hw' => by go_simp⟩) hHeld ?_
            try simp only [Act.put, List.getElem_toArray, List.getElem_cons_succ, List.getElem_cons_zero, List.setIfInBounds_toArray, List.set_cons_zero, List.set_cons_succ]
            refine' wpAnyH_take (i := 11) (v := .bool false) rfl (by kernel_rfl) (by kernel_rfl) (by kernel_rfl) (fun _ _ _ h => h) (Or.inl ⟨by rfl, fun w' hw' => by go_simp⟩) hHeld ?_
            try simp only [Act.put, List.getElem_toArray, List.getElem_cons_succ, List.getElem_cons_zero, List.setIfInBounds_toArray, List.set_cons_zero, List.set_cons_succ]
            refine' wpAnyH_take (i := 12) (v := .bool false) rfl (by kernel_rfl) (by kernel_rfl) (by kernel_rfl) (fun _ _ _ h => h) (Or.inl ⟨by rfl, fun w' hw' => by go_simp⟩) hHeld ?_
            try simp only [Act.put, List.getElem_toArray, List.getElem_cons_succ, List.getElem_cons_zero, List.setIfInBounds_toArray, List.set_cons_zero, List.set_cons_succ]
            refine' wpAnyH_take (i := 13) (v := .agg #[.int .i64 8, .int .i64 y]) rfl (by kernel_rfl) (by kernel_rfl) (by kernel_rfl) (fun _ _ _ h => h) (Or.inl ⟨by rfl, fun w' hw' => by have q0 := (hL.par.below hw').cell_ (i := 0) rfl; have q1 := (hL.par.below hw').cell_ (i := 1) rfl; go_simp⟩) hHeld ?_
            try simp only [Act.put, List.getElem_toArray, List.getElem_cons_succ, List.getElem_cons_zero, List.setIfInBounds_toArray, List.set_cons_zero, List.set_cons_succ]
            refine' wpAnyH_take (i := 14) (v := .pointer (some ⟨g, 0, none⟩)) rfl (by kernel_rfl) (by kernel_rfl) (by kernel_rfl) (fun _ _ _ h => h) (Or.inl ⟨by rfl, fun w' hw' => by go_simp⟩) hHeld ?_
            try simp only [Act.put, List.getElem_toArray, List.getElem_cons_succ, List.getElem_cons_zero, List.setIfInBounds_toArray, List.set_cons_zero, List.set_cons_succ]
            refine' wpAnyH_take (i := 16) (v := _) rfl (by kernel_rfl) (by kernel_rfl) (by kernel_rfl) (fun _ _ _ h => h) (yieldsIf_load_mid (by rfl) 24 _ rfl _ _ rfl (a.map u8v) _ (fun w' h => ha0.below h) hu rfl hza) hHeld ?_
            try simp only [Act.put, List.getElem_toArray, List.getElem_cons_succ, List.getElem_cons_zero, List.setIfInBounds_toArray, List.set_cons_zero, List.set_cons_succ]
            refine' wpAnyH_take (i := 17) (v := .agg #[.int .i64 nx, .slice A1 8 c1, .slice A2 8 c2, .slice A3 y c3]) rfl (by kernel_rfl) (by kernel_rfl) (by kernel_rfl) (fun _ _ _ h => h) (Or.inl ⟨by rfl, fun w' hw' => by have q0 := (hsig.below hw').cell_ (i := 0) rfl; have q1 := (hsig.below hw').cell_ (i := 1) rfl; have q2 := (hsig.below hw').cell_ (i := 2) rfl; have q3 := (hsig.below hw').cell_ (i := 3) rfl; go_simp⟩) hHeld ?_
            try simp only [Act.put, List.getElem_toArray, List.getElem_cons_succ, List.getElem_cons_zero, List.setIfInBounds_toArray, List.set_cons_zero, List.set_cons_succ]
            refine wpAnyH_ready (rs := [15]) (by kernel_rfl) (by simp) ?_
            refine AllReadyH.cons rfl (fun K hK => ?_) AllReadyH.nil
            go_simp
            (with_reducible refine (skey_any g gr cr s 8 y _ _ (hL.sg.below hHeld)).mono ?_)
            rintro e15 w15 ⟨rfl, hb15⟩
            refine hK.out _ _ (hHeld.trans (hb15.mono hHeld.size)) (fun hHeld => ?_)
            clear hK K
            try simp only [Act.put, List.getElem_toArray, List.getElem_cons_succ, List.getElem_cons_zero, List.setIfInBounds_toArray, List.set_cons_zero, List.set_cons_succ]
            refine wpAnyH_ready (rs := [18]) (by kernel_rfl) (by simp) ?_
            refine AllReadyH.cons rfl (fun K hK => ?_) AllReadyH.nil
            go_simp
            (with_reducible refine (cV _ _ _ _ _ _ _ (q1.below hHeld) (q2.below hHeld) (q3.below hHeld)).mono ?_)
            rintro e18 w18 ⟨rfl, hb18⟩
            refine hK.out _ _ (hHeld.trans (hb18.mono hHeld.size)) (fun hHeld => ?_)
            clear hK K
            try simp only [Act.put, List.getElem_toArray, List.getElem_cons_succ, List.getElem_cons_zero, List.setIfInBounds_toArray, List.set_cons_zero, List.set_cons_succ]
            refine' wpAnyH_take (i := 19) (v := .bool false) rfl (by kernel_rfl) (by kernel_rfl) (by kernel_rfl) (fun _ _ _ h => h) (Or.inl ⟨by rfl, fun w' hw' => by go_simp⟩) hHeld ?_
            try simp only [Act.put, List.getElem_toArray, List.getElem_cons_succ, List.getElem_cons_zero, List.setIfInBounds_toArray, List.set_cons_zero, List.set_cons_succ]
            refine' wpAnyH_take (i := 20) (v := .bool false) rfl (by kernel_rfl) (by kernel_rfl) (by kernel_rfl) (fun _ _ _ h => h) (Or.inl ⟨by rfl, fun w' hw' => by go_simp⟩) hHeld ?_
            try simp only [Act.put, List.getElem_toArray, List.getElem_cons_succ, List.getElem_cons_zero, List.setIfInBounds_toArray, List.set_cons_zero, List.set_cons_succ]
            refine wpAnyH_done (by kernel_rfl) ?_ _
            go_wp2
            go_roundw
            case rel => exact ⟨i + 1, nx + 1, by omega, by omega, by go_num, (by go_num), hL.below hHeld⟩
            case measure => simp [intOf]; omega
      · have zi : ((i : Int) == 1) = false := by simp; omega
        clear hi1 cNo cYe
        by_cases hzP : nx = P
        · have zs : ((nx : Int) == (P : Int)) = true := by simp; omega
          have zn : (((nx : Nat) : Int) != ((nx : Nat) : Int)) = false := by simp
          have zl : (((P : Int) - (nx : Int)) != ((P : Int) - (nx : Int))) = false := by simp
          have hw1 : IntKind.i64.wrap ((P : Int) - (nx : Int)) = (P : Int) - (nx : Int) := by rw [IntKind.wrap_i64]; omega
          have cLf := fun W h => cLf0 nx W hz h
          have cSi := fun W h => cSp nx a W hzP h
          have HZP := hid hzP
          clear cLf0 cSp cSo hzP
          go_wp2_with (first
            | (with_reducible refine wpList_load_if (by with_unfolding_all rfl) 24 _ rfl _ _ rfl (a.map u8v) _ r1 hu (by with_unfolding_all rfl) hza ?_)
            | ((with_reducible refine wpList_store_newid rfl _ _ rfl a HA.out rfl rfl (by with_unfolding_all rfl) ?_); intro w1 hx1 hb1; have hlt1 := hL.sg.blk.lt; replace hL := hL.below hb1; clear hb1)
            | (go_at_call 71; (with_reducible refine (snext_any _ _ _ _ _ _ _ _ hL.sg).mono ?_); rintro e3 w3 ⟨rfl, rfl⟩)
            | (go_at_call 72; (with_reducible refine (cLf _ hL.sg).mono ?_); rintro e4 w4 ⟨rfl, hb4⟩; replace hx1 := hx1.below hb4; replace hL := hL.below hb4; clear hb4)
            | (with_reducible refine wpList_load_if (by with_unfolding_all rfl) 24 _ rfl _ _ rfl (a.map u8v) _ hx1 hu (by with_unfolding_all rfl) hza ?_)
            | (go_at_call 73; (with_reducible refine (cSi _ hL.sg).mono ?_); rintro e5 w5 ⟨rfl, hb5⟩; replace hL := hL.below hb5; clear hb5)
            | (go_at_call 74; (with_reducible refine (cSa _).mono ?_); rintro e6 w6 ⟨rfl, hb6⟩))
          go_roundw
          case rel => exact ⟨i + 1, nx, by omega, hz, by go_num, rfl, (hL.below ((Below.refl _ _).alloc (Nat.le_refl _) _)).below hb6⟩
          case measure => simp [intOf]; omega
        · have zs : ((nx : Int) == (P : Int)) = false := by simp; omega
          have zn : (((nx : Nat) : Int) != ((nx : Nat) : Int)) = false := by simp
          have zl : (((P : Int) - (nx : Int)) != ((P : Int) - (nx : Int))) = false := by simp
          have hw1 : IntKind.i64.wrap ((P : Int) - (nx : Int)) = (P : Int) - (nx : Int) := by rw [IntKind.wrap_i64]; omega
          have hw2 : IntKind.i64.wrap ((nx : Int) + 1) = (nx : Int) + 1 := by rw [IntKind.wrap_i64]; omega
          have cLf := fun W h => cLf0 nx W hz h
          have cSi := fun W h => cSo nx a HA.out W (by omega) h
          have cR8 := fun W => cRs nx a HA.out W (by omega)
          have cV := fun A1 c1 A2 c2 A3 c3 W => cVe nx a HA.out A1 c1 A2 c2 A3 c3 W (by omega)
          have hzL : nx < P := by omega
          clear cLf0 cSp cSo cRs cVe hzP
          go_wp2_with (first
            | (with_reducible refine wpList_load_if (by with_unfolding_all rfl) 24 _ rfl _ _ rfl (a.map u8v) _ r1 hu (by with_unfolding_all rfl) hza ?_)
            | ((with_reducible refine wpList_store_newid rfl _ _ rfl a HA.out rfl rfl (by with_unfolding_all rfl) ?_); intro w1 hx1 hb1; have hlt1 := hL.sg.blk.lt; replace hL := hL.below hb1; clear hb1)
            | (go_at_call 71; (with_reducible refine (snext_any _ _ _ _ _ _ _ _ hL.sg).mono ?_); rintro e3 w3 ⟨rfl, rfl⟩)
            | (go_at_call 72; (with_reducible refine (cLf _ hL.sg).mono ?_); rintro e4 w4 ⟨rfl, hb4⟩; replace hx1 := hx1.below hb4; replace hL := hL.below hb4; clear hb4)
            | (with_reducible refine wpList_load_if (by with_unfolding_all rfl) 24 _ rfl _ _ rfl (a.map u8v) _ hx1 hu (by with_unfolding_all rfl) hza ?_)
            | (go_at_call 73; (with_reducible refine (cSi _ hL.sg).mono ?_); rintro e5 w5 ⟨A1, c1, A2, c2, A3, c3, rfl, o1, o2, o3, hs5, hg5⟩; replace hx1 := range_gb hx1 hg5 (by omega); replace hL := hL.gb hg5 hs5; clear hg5)
            | (with_reducible refine wpList_store_new rfl 90 _ _ rfl (sigC _ _ _ _) rfl rfl (infoSigC _ _ _ _) (by with_unfolding_all rfl) (sigC_one _ _ _ _ _ _ _ _ _ _) ?_))
          have hsig : Blk (w5.alloc (.cells (sigC nx (.slice A1 8 c1) (.slice A2 8 c2) (.slice A3 y c3)) 90)) w5.heap.size 90 #[.int .i64 nx, .slice A1 8 c1, .slice A2 8 c2, .slice A3 y c3] := Blk.new w5 90 (sigC nx (.slice A1 8 c1) (.slice A2 8 c2) (.slice A3 y c3))
          have ha0 := hx1.below ((Below.refl w5.heap.size w5).alloc (Nat.le_refl _) (.cells (sigC nx (.slice A1 8 c1) (.slice A2 8 c2) (.slice A3 y c3)) 90))
          replace hL := hL.below ((Below.refl w5.heap.size w5).alloc (Nat.le_refl _) (.cells (sigC nx (.slice A1 8 c1) (.slice A2 8 c2) (.slice A3 y c3)) 90))
          have q1 := own_row (o1.alloc (.cells (sigC nx (.slice A1 8 c1) (.slice A2 8 c2) (.slice A3 y c3)) 90)) (upTo_32 _ (shownX_length s nx a) 8) (by omega)
          have q2 := own_row (o2.alloc (.cells (sigC nx (.slice A1 8 c1) (.slice A2 8 c2) (.slice A3 y c3)) 90)) (upTo_32 _ (hiddenX_length s nx a) 8) (by omega)
          have q3 := own_row (o3.alloc (.cells (sigC nx (.slice A1 8 c1) (.slice A2 8 c2) (.slice A3 y c3)) 90)) (upTo_32 _ (fun b => ndB_length _ (lfF_length s 8) _ _) y) (by omega)
          generalize hW0 : w5.alloc (.cells (sigC nx (.slice A1 8 c1) (.slice A2 8 c2) (.slice A3 y c3)) 90) = W0 at *
          clear o1 o2 o3 hx1 hW0
          generalize w5.heap.size = gs at *
          refine wp_region_held_drew (S := fun W => Below W0.heap.size W0 W) (by kernel_rfl) ?_ (fun hHeld => ?_)
          · exact below_drew1 W0
          refine' wpAnyH_take (i := 0) (v := .int .i64 0) rfl (by kernel_rfl) (by kernel_rfl) (by kernel_rfl) (fun _ _ _ h => h) (Or.inl ⟨by rfl, fun w' hw' => by go_simp⟩) hHeld ?_
          try simp only [Act.put, List.getElem_toArray, List.getElem_cons_succ, List.getElem_cons_zero, List.setIfInBounds_toArray, List.set_cons_zero, List.set_cons_succ]
          refine' wpAnyH_take (i := 1) (v := .bool false) rfl (by kernel_rfl) (by kernel_rfl) (by kernel_rfl) (fun _ _ _ h => h) (Or.inl ⟨by rfl, fun w' hw' => by go_simp⟩) hHeld ?_
          try simp only [Act.put, List.getElem_toArray, List.getElem_cons_succ, List.getElem_cons_zero, List.setIfInBounds_toArray, List.set_cons_zero, List.set_cons_succ]
          refine' wpAnyH_take (i := 2) (v := .bool false) rfl (by kernel_rfl) (by kernel_rfl) (by kernel_rfl) (fun _ _ _ h => h) (Or.inl ⟨by rfl, fun w' hw' => by go_simp⟩) hHeld ?_
          try simp only [Act.put, List.getElem_toArray, List.getElem_cons_succ, List.getElem_cons_zero, List.setIfInBounds_toArray, List.set_cons_zero, List.set_cons_succ]
          refine' wpAnyH_take (i := 3) (v := .agg #[.int .i64 nx, .slice A1 8 c1, .slice A2 8 c2, .slice A3 y c3]) rfl (by kernel_rfl) (by kernel_rfl) (by kernel_rfl) (fun _ _ _ h => h) (Or.inl ⟨by rfl, fun w' hw' => by have q0 := (hsig.below hw').cell_ (i := 0) rfl; have q1 := (hsig.below hw').cell_ (i := 1) rfl; have q2 := (hsig.below hw').cell_ (i := 2) rfl; have q3 := (hsig.below hw').cell_ (i := 3) rfl; go_simp⟩) hHeld ?_
          try simp only [Act.put, List.getElem_toArray, List.getElem_cons_succ, List.getElem_cons_zero, List.setIfInBounds_toArray, List.set_cons_zero, List.set_cons_succ]
          refine' wpAnyH_take (i := 4) (v := .agg #[.int .i64 8, .int .i64 y]) rfl (by kernel_rfl) (by kernel_rfl) (by kernel_rfl) (fun _ _ _ h => h) (Or.inl ⟨by rfl, fun w' hw' => by have q0 := (hL.par.below hw').cell_ (i := 0) rfl; have q1 := (hL.par.below hw').cell_ (i := 1) rfl; go_simp⟩) hHeld ?_
          try simp only [Act.put, List.getElem_toArray, List.getElem_cons_succ, List.getElem_cons_zero, List.setIfInBounds_toArray, List.set_cons_zero, List.set_cons_succ]
          refine' wpAnyH_take (i := 5) (v := .string (txt s)) rfl (by kernel_rfl) (by kernel_rfl) (by kernel_rfl) (fun _ _ _ h => h) (Or.inl ⟨by rfl, fun w' hw' => by go_simp⟩) hHeld ?_
          try simp only [Act.put, List.getElem_toArray, List.getElem_cons_succ, List.getElem_cons_zero, List.setIfInBounds_toArray, List.set_cons_zero, List.set_cons_succ]
          refine' wpAnyH_take (i := 6) (v := .int .i64 nx) rfl (by kernel_rfl) (by kernel_rfl) (by kernel_rfl) (fun _ _ _ h => h) (Or.inl ⟨by rfl, fun w' hw' => by go_simp⟩) hHeld ?_
          try simp only [Act.put, List.getElem_toArray, List.getElem_cons_succ, List.getElem_cons_zero, List.setIfInBounds_toArray, List.set_cons_zero, List.set_cons_succ]
          refine' wpAnyH_take (i := 7) (v := _) rfl (by kernel_rfl) (by kernel_rfl) (by kernel_rfl) (fun _ _ _ h => h) (yieldsIf_load_mid (by rfl) 24 _ rfl _ _ rfl (a.map u8v) _ (fun w' h => ha0.below h) hu rfl hza) hHeld ?_
          try simp only [Act.put, List.getElem_toArray, List.getElem_cons_succ, List.getElem_cons_zero, List.setIfInBounds_toArray, List.set_cons_zero, List.set_cons_succ]
          refine wpAnyH_ready (rs := [8]) (by kernel_rfl) (by simp) ?_
          refine AllReadyH.cons rfl (fun K hK => ?_) AllReadyH.nil
          go_simp
          (with_reducible refine (cR8 _).mono ?_)
          rintro e8 w8 ⟨B1, d1, B2, d2, B3, d3, rfl, p1, p2, p3, hb8⟩
          refine hK.out _ _ (hHeld.trans (hb8.mono hHeld.size)) (fun hHeld => ?_)
          clear hK K
          try simp only [Act.put, List.getElem_toArray, List.getElem_cons_succ, List.getElem_cons_zero, List.setIfInBounds_toArray, List.set_cons_zero, List.set_cons_succ]
          refine wpAnyH_ready (rs := [9]) (by kernel_rfl) (by simp) ?_
          refine AllReadyH.cons rfl (fun K hK => ?_) AllReadyH.nil
          go_simp
          (with_reducible refine (same8_yes _ _ _ _ _ _ _ _ _ _ _ _ _ _ _ _ _ _ _ _ (q1.below hHeld) (q2.below hHeld) (q3.below hHeld) p1 p2 p3).mono ?_)
          rintro e9 w9 ⟨rfl, hb9⟩
          refine hK.out _ _ (hHeld.trans (hb9.mono hHeld.size)) (fun hHeld => ?_)
          clear hK K
          try simp only [Act.put, List.getElem_toArray, List.getElem_cons_succ, List.getElem_cons_zero, List.setIfInBounds_toArray, List.set_cons_zero, List.set_cons_succ]
          refine' wpAnyH_take (i := 10) (v := .bool false) rfl (by kernel_rfl) (by kernel_rfl) (by kernel_rfl) (fun _ _ _ h => h) (Or.inl ⟨by rfl, fun w' hw' => by go_simp⟩) hHeld ?_
          try simp only [Act.put, List.getElem_toArray, List.getElem_cons_succ, List.getElem_cons_zero, List.setIfInBounds_toArray, List.set_cons_zero, List.set_cons_succ]
          refine' wpAnyH_take (i := 11) (v := .bool false) rfl (by kernel_rfl) (by kernel_rfl) (by kernel_rfl) (fun _ _ _ h => h) (Or.inl ⟨by rfl, fun w' hw' => by go_simp⟩) hHeld ?_
          try simp only [Act.put, List.getElem_toArray, List.getElem_cons_succ, List.getElem_cons_zero, List.setIfInBounds_toArray, List.set_cons_zero, List.set_cons_succ]
          refine' wpAnyH_take (i := 12) (v := .bool false) rfl (by kernel_rfl) (by kernel_rfl) (by kernel_rfl) (fun _ _ _ h => h) (Or.inl ⟨by rfl, fun w' hw' => by go_simp⟩) hHeld ?_
          try simp only [Act.put, List.getElem_toArray, List.getElem_cons_succ, List.getElem_cons_zero, List.setIfInBounds_toArray, List.set_cons_zero, List.set_cons_succ]
          refine' wpAnyH_take (i := 13) (v := .agg #[.int .i64 8, .int .i64 y]) rfl (by kernel_rfl) (by kernel_rfl) (by kernel_rfl) (fun _ _ _ h => h) (Or.inl ⟨by rfl, fun w' hw' => by have q0 := (hL.par.below hw').cell_ (i := 0) rfl; have q1 := (hL.par.below hw').cell_ (i := 1) rfl; go_simp⟩) hHeld ?_
          try simp only [Act.put, List.getElem_toArray, List.getElem_cons_succ, List.getElem_cons_zero, List.setIfInBounds_toArray, List.set_cons_zero, List.set_cons_succ]
          refine' wpAnyH_take (i := 14) (v := .pointer (some ⟨g, 0, none⟩)) rfl (by kernel_rfl) (by kernel_rfl) (by kernel_rfl) (fun _ _ _ h => h) (Or.inl ⟨by rfl, fun w' hw' => by go_simp⟩) hHeld ?_
          try simp only [Act.put, List.getElem_toArray, List.getElem_cons_succ, List.getElem_cons_zero, List.setIfInBounds_toArray, List.set_cons_zero, List.set_cons_succ]
          refine' wpAnyH_take (i := 16) (v := _) rfl (by kernel_rfl) (by kernel_rfl) (by kernel_rfl) (fun _ _ _ h => h) (yieldsIf_load_mid (by rfl) 24 _ rfl _ _ rfl (a.map u8v) _ (fun w' h => ha0.below h) hu rfl hza) hHeld ?_
          try simp only [Act.put, List.getElem_toArray, List.getElem_cons_succ, List.getElem_cons_zero, List.setIfInBounds_toArray, List.set_cons_zero, List.set_cons_succ]
          refine' wpAnyH_take (i := 17) (v := .agg #[.int .i64 nx, .slice A1 8 c1, .slice A2 8 c2, .slice A3 y c3]) rfl (by kernel_rfl) (by kernel_rfl) (by kernel_rfl) (fun _ _ _ h => h) (Or.inl ⟨by rfl, fun w' hw' => by have q0 := (hsig.below hw').cell_ (i := 0) rfl; have q1 := (hsig.below hw').cell_ (i := 1) rfl; have q2 := (hsig.below hw').cell_ (i := 2) rfl; have q3 := (hsig.below hw').cell_ (i := 3) rfl; go_simp⟩) hHeld ?_
          try simp only [Act.put, List.getElem_toArray, List.getElem_cons_succ, List.getElem_cons_zero, List.setIfInBounds_toArray, List.set_cons_zero, List.set_cons_succ]
          refine wpAnyH_ready (rs := [15]) (by kernel_rfl) (by simp) ?_
          refine AllReadyH.cons rfl (fun K hK => ?_) AllReadyH.nil
          go_simp
          (with_reducible refine (skey_any g gr cr s 8 y _ _ (hL.sg.below hHeld)).mono ?_)
          rintro e15 w15 ⟨rfl, hb15⟩
          refine hK.out _ _ (hHeld.trans (hb15.mono hHeld.size)) (fun hHeld => ?_)
          clear hK K
          try simp only [Act.put, List.getElem_toArray, List.getElem_cons_succ, List.getElem_cons_zero, List.setIfInBounds_toArray, List.set_cons_zero, List.set_cons_succ]
          refine wpAnyH_ready (rs := [18]) (by kernel_rfl) (by simp) ?_
          refine AllReadyH.cons rfl (fun K hK => ?_) AllReadyH.nil
          go_simp
          (with_reducible refine (cV _ _ _ _ _ _ _ (q1.below hHeld) (q2.below hHeld) (q3.below hHeld)).mono ?_)
          rintro e18 w18 ⟨rfl, hb18⟩
          refine hK.out _ _ (hHeld.trans (hb18.mono hHeld.size)) (fun hHeld => ?_)
          clear hK K
          try simp only [Act.put, List.getElem_toArray, List.getElem_cons_succ, List.getElem_cons_zero, List.setIfInBounds_toArray, List.set_cons_zero, List.set_cons_succ]
          refine' wpAnyH_take (i := 19) (v := .bool false) rfl (by kernel_rfl) (by kernel_rfl) (by kernel_rfl) (fun _ _ _ h => h) (Or.inl ⟨by rfl, fun w' hw' => by go_simp⟩) hHeld ?_
          try simp only [Act.put, List.getElem_toArray, List.getElem_cons_succ, List.getElem_cons_zero, List.setIfInBounds_toArray, List.set_cons_zero, List.set_cons_succ]
          refine' wpAnyH_take (i := 20) (v := .bool false) rfl (by kernel_rfl) (by kernel_rfl) (by kernel_rfl) (fun _ _ _ h => h) (Or.inl ⟨by rfl, fun w' hw' => by go_simp⟩) hHeld ?_
          try simp only [Act.put, List.getElem_toArray, List.getElem_cons_succ, List.getElem_cons_zero, List.setIfInBounds_toArray, List.set_cons_zero, List.set_cons_succ]
          refine wpAnyH_done (by kernel_rfl) ?_ _
          go_wp2
          go_roundw
          case rel => exact ⟨i + 1, nx + 1, by omega, by omega, by go_num, (by go_num), hL.below hHeld⟩
          case measure => simp [intOf]; omega
    · obtain rfl : i = k := by omega
      have b1 : ¬ ((i : Int) < i) := by omega
      go_wp2_with (first
        | (go_at_call 66; (with_reducible refine (awake8_any _).mono ?_); rintro e9 w9 ⟨rfl, hb9⟩))
      go_ret
      exact ⟨rfl, hL.bel.trans (hb9.mono hL.bel.size)⟩
theorem signerSigns_any (x : Nat) (hx : x ≤ 255) (s : List UInt8) (L : Int) (A : Option Addr) (k c : Nat) (l : List (List UInt8)) (sk : Int) (w : World) (hA : IdRow w A k l) :
    Calls Try.prog 8 #[.int .u8 x, .string (txt s), .int .i64 L, .slice A k c, .int .i64 sk] w fun e w' => e = .returned (.bool true) ∧ Below w.heap.size w w' := by
  by_cases h1 : 100 < s.length
  · exact signs_long x s L A k c sk h1 w
  · by_cases h2 : 6 < k
    · exact signs_many x s L A k c sk h1 h2 w
    · by_cases h3 : L < 0
      · exact signs_neg x hx s h1 L A k c h2 sk h3 w
      · by_cases h4 : ((2 ^ (x % 3) : Nat) : Int) < L
        · exact signs_high x hx s h1 L A k c h2 sk h3 h4 w
        · obtain ⟨n, rfl⟩ : ∃ n : Nat, L = n := ⟨L.toNat, by omega⟩
          exact signs_good x hx s h1 n A k c h2 l sk w ⟨hA.1, by omega, hA.2.2⟩ (fun y hy => by rw [hy]; omega)
set_option linter.unusedVariables false in
theorem law_SignerSigns (w : World) (a0 : Int) (w0 : (Lit.int .u8 a0).wf = true) (a1 : ByteArray) (w1 : a1.size ≤ maxLen) (a2 : Int) (w2 : (Lit.int .i64 a2).wf = true) (a3 : Option Addr) (l3 c3 : Nat) (z3 : List (List UInt8)) (w3 : IdRow w a3 l3 z3) (a4 : Int) (w4 : (Lit.int .i64 a4).wf = true) :
    Calls Try.prog 8 #[.int .u8 a0, .string a1, .int .i64 a2, .slice a3 l3 c3, .int .i64 a4] w fun e w' => e = .returned (.bool true) ∧ Below w.heap.size w w' := by
  obtain ⟨g0, g1⟩ := bounds_u8 w0
  obtain ⟨x, rfl⟩ : ∃ x : Nat, a0 = x := ⟨a0.toNat, by omega⟩
  exact signerSigns_any x (by omega) a1.data.toList a2 a3 l3 c3 z3 a4 w w3

open Go.ChangeShapes Go.WideShapes Go.ChangeAt
open Go.ChangeMaps (open_string shut_string)
theorem own_SignerSigns : ownKnob Try.prog.godebug = none := by kernel_rfl
theorem laidOut_SignerSigns : laidOutB Try.prog = true := by kernel_rfl
set_option linter.unusedVariables false in
set_option maxRecDepth 100000 in
theorem lifted_SignerSigns (os : Os) (started : os.Started) (H : Type) (enc : TypeId × Value → H) :
    ReturnsInHanded {} Try.checked os 8 .any (Rows.signerSignsSpec.pre6 enc Try.prog Try.f8 Rows.signerSignsRow.domain false) (Rows.signerSignsSpec.post enc Try.prog Try.f8 false true false false) := by
  refine returnsInHanded_of_change (C := Try.checked) own_SignerSigns started (by kernel_rfl) Try.func8
    (ChangeSpec.witness6 (enc := enc) (C := Try.checked) false ⟨#[], #[.int .u8 0, .string ByteArray.empty, .int .i64 0, .slice none 0 0, .int .i64 0], []⟩ 8 (by kernel_rfl) (by kernel_rfl) (by kernel_rfl) (by kernel_rfl)) ?_
  intro W base args ds gs before hval0 hW hcnd _
  have hval : ∀ (j : Nat) t v, Try.f8.params[j]? = some t → args[j]? = some v → Value.okWide Try.prog W .any base t v := hval0
  have hW' := hW
  obtain ⟨p, q, hA0, hV, rfl, hfz, hnd⟩ := hW
  have hA1 : DataW.TrodAll enc Try.prog W 0 (fun _ => true) true Try.f8.params.toList args.toList ds p := hA0
  have hA : DataW.TrodAll enc Try.prog W 0 (fun _ => true) true Try.f8.params.toList args.toList ds p := hA0
  rw [Try.params8] at hA hval
  obtain ⟨v0, vs0, d0, ds0, p0, q0, hargs, rfl, rfl, h0, r0⟩ := trodAll_cons hA
  obtain ⟨v1, vs1, d1, ds1, p1, q1, rfl, rfl, rfl, h1, r1⟩ := trodAll_cons r0
  obtain ⟨v2, vs2, d2, ds2, p2, q2, rfl, rfl, rfl, h2, r2⟩ := trodAll_cons r1
  obtain ⟨v3, vs3, d3, ds3, p3, q3, rfl, rfl, rfl, h3, r3⟩ := trodAll_cons r2
  obtain ⟨v4, vs4, d4, ds4, p4, q4, rfl, rfl, rfl, h4, r4⟩ := trodAll_cons r3
  obtain ⟨rfl, rfl, rfl⟩ := trodAll_nil r4
  obtain rfl : args = #[v0, v1, v2, v3, v4] := by cases args; simp_all
  obtain ⟨rfl, rfl⟩ := trodVars_none hV
  obtain ⟨a0, rfl, rfl, rfl, w0⟩ := open_int Try.underlying5 (hval 0 5 v0 rfl rfl) h0
  obtain ⟨a1, rfl, rfl, rfl, w1⟩ := open_string Try.underlying9 (hval 1 9 v1 rfl rfl) h1
  obtain ⟨a2, rfl, rfl, rfl, w2⟩ := open_int Try.underlying3 (hval 2 3 v2 rfl rfl) h2
  obtain ⟨a3, l3, c3, z3, rfl, w3⟩ := open_idRow Try.underlying22 Try.underlying24 Try.underlying5 (by kernel_rfl) (by kernel_rfl) (hval 3 22 v3 rfl rfl) h3
  obtain ⟨a4, rfl, rfl, rfl, w4⟩ := open_int Try.underlying3 (hval 4 3 v4 rfl rfl) h4
  clear hA0 hval0
  refine (law_SignerSigns W a0 w0 a1 w1 a2 w2 a3 l3 c3 z3 w3 a4 w4).mono fun e W' ⟨he, bel⟩ => ?_
  subst he
  exact ⟨_, rfl, _, _, _, [], _, [], hW', trodAll_mk1 (shut_bool Try.underlying4 _), trodAll_stays laidOut_SignerSigns bel (by kernel_rfl) hA1, rfl, bel.frame _, fun h => by cases h⟩

/-- The statement. -/
theorem SignerSigns_holds : Rows.SignerSignsSaid :=
  OpenClaim.holds_of_wide 8 Try.f8 rfl rfl rfl rfl rfl rfl rfl ⟨rfl, rfl, rfl, rfl, rfl⟩ rfl rfl rfl rfl rfl (by kernel_rfl) Try.func8 (by kernel_rfl)
    (of_decide_eq_true (by kernel_rfl)) (by unfold Func.isWrapper; first | (rw [if_pos (by decide +kernel)]; kernel_rfl) | (rw [if_neg (by decide +kernel)]; exact ⟨rfl, rfl⟩))
    (fun os started H enc _ => lifted_SignerSigns os started H enc)
#print axioms SignerSigns_holds
end Go.Proofs.Ytfdbgmnnahcejaa


/- hunk: two hunks in the other order. -/
import Derived.Test.YtmfngampccpkhaaHk12
set_option linter.unusedSimpArgs false
set_option linter.unusedVariables false
namespace Go.Proofs.Ytmfngampccpkhaa
open Go.RowKit Go.Qc Go.Shelf
attribute [local go_sem] txt_size txt_append ib_fold txt_toL

theorem Hk2.gb {w W W' : World} {T : TypeId} {s : Int} {u1 u2 : Value} {t : Int} {u3 u4 : Value} (h : Hk2 w W T s u1 u2 t u3 u4) {g : Nat} (hg : W.grownBy W' (some g)) (hn : w.heap.size + 2 ≤ g) : Hk2 w W' T s u1 u2 t u3 u4 :=
  ⟨⟨blk_gb h.a.b hg (by omega)⟩, ⟨blk_gb h.b.b hg (by omega)⟩, h.x.trans (below_of_gb hg (by omega) h.x.size)⟩
/-- The two hunks that came in, and the two results. -/
structure Sw (w W : World) (T : TypeId) (s : Int) (u1 u2 : Value) (t : Int) (u3 u4 : Value) (x4 x5 : Array Value) : Prop where
  k : Hk2 w W T s u1 u2 t u3 u4
  r4 : Blk W (w.heap.size + 1 + 1) T x4
  r5 : Blk W (w.heap.size + 1 + 1 + 1) T x5
theorem Sw.below {w W W' : World} {T : TypeId} {s : Int} {u1 u2 : Value} {t : Int} {u3 u4 : Value} {x4 x5 : Array Value} (h : Sw w W T s u1 u2 t u3 u4 x4 x5) (hb : Below W.heap.size W W') : Sw w W' T s u1 u2 t u3 u4 x4 x5 := ⟨h.k.below hb, h.r4.below hb, h.r5.below hb⟩
theorem Sw.gb {w W W' : World} {T : TypeId} {s : Int} {u1 u2 : Value} {t : Int} {u3 u4 : Value} {x4 x5 : Array Value} (h : Sw w W T s u1 u2 t u3 u4 x4 x5) {g : Nat} (hg : W.grownBy W' (some g)) (hn : w.heap.size + 4 ≤ g) : Sw w W' T s u1 u2 t u3 u4 x4 x5 := ⟨h.k.gb hg (by omega), blk_gb h.r4 hg (by omega), blk_gb h.r5 hg (by omega)⟩
theorem Sw.new (w : World) (T : TypeId) (s : Int) (u1 u2 : Value) (t : Int) (u3 u4 : Value) (x4 x5 : Array Value) : Sw w ((((w.alloc (.cells #[.int .i64 s, u1, u2] T)).alloc (.cells #[.int .i64 t, u3, u4] T)).alloc (.cells x4 T)).alloc (.cells x5 T)) T s u1 u2 t u3 u4 x4 x5 := by
  have h := Hk2.new w T s u1 u2 t u3 u4
  have h4 := Blk.new ((w.alloc (.cells #[.int .i64 s, u1, u2] T)).alloc (.cells #[.int .i64 t, u3, u4] T)) T x4
  have h5 := Blk.new (((w.alloc (.cells #[.int .i64 s, u1, u2] T)).alloc (.cells #[.int .i64 t, u3, u4] T)).alloc (.cells x4 T)) T x5
  have e4 : ((w.alloc (.cells #[.int .i64 s, u1, u2] T)).alloc (.cells #[.int .i64 t, u3, u4] T)).heap.size = w.heap.size + 1 + 1 := by simp
  have e5 : (((w.alloc (.cells #[.int .i64 s, u1, u2] T)).alloc (.cells #[.int .i64 t, u3, u4] T)).alloc (.cells x4 T)).heap.size = w.heap.size + 1 + 1 + 1 := by simp
  rw [e4] at h4
  rw [e5] at h5
  exact ⟨(h.below ((Below.refl _ _).alloc (Nat.le_refl _) _)).below ((Below.refl _ _).alloc (Nat.le_refl _) _), h4.alloc _, h5⟩
/-- The two copies, each in a block of its own. -/
structure SwR (w W : World) (T : TypeId) (s : Int) (u1 u2 : Value) (t : Int) (u3 u4 : Value) (x4 x5 : Array Value) (g7 g8 : Nat) (x7 x8 : Array Value) : Prop where
  sw : Sw w W T s u1 u2 t u3 u4 x4 x5
  z7 : Blk W g7 T x7
  z8 : Blk W g8 T x8
  n7 : w.heap.size + 4 ≤ g7
  n8 : w.heap.size + 4 ≤ g8
  ne : g8 ≠ g7
theorem SwR.below {w W W' : World} {T : TypeId} {s : Int} {u1 u2 : Value} {t : Int} {u3 u4 : Value} {x4 x5 : Array Value} {g7 g8 : Nat} {x7 x8 : Array Value} (h : SwR w W T s u1 u2 t u3 u4 x4 x5 g7 g8 x7 x8) (hb : Below W.heap.size W W') : SwR w W' T s u1 u2 t u3 u4 x4 x5 g7 g8 x7 x8 := ⟨h.sw.below hb, h.z7.below hb, h.z8.below hb, h.n7, h.n8, h.ne⟩

theorem two_set {W : World} {a b : Nat} (hab : a ≠ b) {T : TypeId} {o0 o1 o2 p0 p1 p2 : Value} (x y z u v t : Value) (h4 : Blk W a T #[o0, o1, o2]) (h5 : Blk W b T #[p0, p1, p2]) :
    Blk ((((((W.setCell ⟨a, 0, none⟩ x).setCell ⟨a, 1, none⟩ y).setCell ⟨a, 2, none⟩ z).setCell ⟨b, 0, none⟩ u).setCell ⟨b, 1, none⟩ v).setCell ⟨b, 2, none⟩ t) a T #[x, y, z] ∧ Blk ((((((W.setCell ⟨a, 0, none⟩ x).setCell ⟨a, 1, none⟩ y).setCell ⟨a, 2, none⟩ z).setCell ⟨b, 0, none⟩ u).setCell ⟨b, 1, none⟩ v).setCell ⟨b, 2, none⟩ t) b T #[u, v, t] ∧ ∀ N w, Below N w W → N ≤ a → N ≤ b → Below N w ((((((W.setCell ⟨a, 0, none⟩ x).setCell ⟨a, 1, none⟩ y).setCell ⟨a, 2, none⟩ z).setCell ⟨b, 0, none⟩ u).setCell ⟨b, 1, none⟩ v).setCell ⟨b, 2, none⟩ t) := by
  have z4 : Blk (((W.setCell ⟨a, 0, none⟩ x).setCell ⟨a, 1, none⟩ y).setCell ⟨a, 2, none⟩ z) a T #[x, y, z] := ((h4.set 0 x).set 1 y).set 2 z
  have z5 := ((h5.far (p := ⟨a, 0, none⟩) hab.symm x).far (p := ⟨a, 1, none⟩) hab.symm y).far (p := ⟨a, 2, none⟩) hab.symm z
  exact ⟨((z4.far (p := ⟨b, 0, none⟩) hab u).far (p := ⟨b, 1, none⟩) hab v).far (p := ⟨b, 2, none⟩) hab t, ((z5.set 0 u).set 1 v).set 2 t, fun N w h h1 h2 =>
    (((((h.setCell (p := ⟨a, 0, none⟩) h1 x).setCell (p := ⟨a, 1, none⟩) h1 y).setCell (p := ⟨a, 2, none⟩) h1 z).setCell (p := ⟨b, 0, none⟩) h2 u).setCell (p := ⟨b, 1, none⟩) h2 v).setCell (p := ⟨b, 2, none⟩) h2 t⟩

set_option maxRecDepth 100000 in
set_option maxHeartbeats 40000000 in
theorem swap_gen (s : Int) (A : Option Addr) (n c : Nat) (B : Option Addr) (m d : Nat) (t : Int) (C : Option Addr) (p f : Nat) (D : Option Addr) (q g : Nat) (xs ys us vs : List Value) (y z : Int) (w : World) (hy : wrap64 (s + wrap64 ((q : Int) - p)) = y) (hz : wrap64 (t - wrap64 ((m : Int) - n)) = z)
    (cP : ∀ W, Below w.heap.size w W → Calls Try.prog 24 #[.agg #[.int .i64 s, .slice A n c, .slice B m d], .agg #[.int .i64 t, .slice C p f, .slice D q g]] W fun e w' => e = .returned (.bool true) ∧ Below W.heap.size W w')
    (cA : ∀ W, Below w.heap.size w W → Calls Try.prog 65 #[.agg #[.int .i64 s, .slice A n c, .slice B m d]] W fun e w' => ∃ A' c' B' d', e = .returned (.agg #[.int .i64 s, .slice A' n c', .slice B' m d']) ∧ w'.ownsRow W.heap.size 9 1 (.slice A' n c') n xs ∧ w'.ownsRow W.heap.size 9 1 (.slice B' m d') m ys ∧ Below W.heap.size W w')
    (cC : ∀ W, Below w.heap.size w W → Calls Try.prog 65 #[.agg #[.int .i64 t, .slice C p f, .slice D q g]] W fun e w' => ∃ A' c' B' d', e = .returned (.agg #[.int .i64 t, .slice A' p c', .slice B' q d']) ∧ w'.ownsRow W.heap.size 9 1 (.slice A' p c') p us ∧ w'.ownsRow W.heap.size 9 1 (.slice B' q d') q vs ∧ Below W.heap.size W w') :
    Calls Try.prog 49 #[.agg #[.int .i64 s, .slice A n c, .slice B m d], .agg #[.int .i64 t, .slice C p f, .slice D q g]] w fun e w' => ∃ A1 c1 A2 c2 A3 c3 A4 c4, e = .returned (.tuple #[.agg #[.int .i64 (if t < s then t else z), .slice A1 p c1, .slice A2 q c2], .agg #[.int .i64 (if t < s then y else s), .slice A3 n c3, .slice A4 m c4], .bool true]) ∧ w'.ownsRow w.heap.size 9 1 (.slice A1 p c1) p us ∧ w'.ownsRow w.heap.size 9 1 (.slice A2 q c2) q vs ∧ w'.ownsRow w.heap.size 9 1 (.slice A3 n c3) n xs ∧ w'.ownsRow w.heap.size 9 1 (.slice A4 m c4) m ys ∧ Below w.heap.size w w' := by
  have hh := Sw.new w 62 s (.slice A n c) (.slice B m d) t (.slice C p f) (.slice D q g) #[.int .i64 0, .slice none 0 0, .slice none 0 0] #[.int .i64 0, .slice none 0 0, .slice none 0 0]
  have c0 := hh.k.a.c0
  have c1 := hh.k.a.c1
  have c2 := hh.k.a.c2
  have d0 := hh.k.b.c0
  have d1 := hh.k.b.c1
  have d2 := hh.k.b.c2
  go_enter Try.func49, Try.ntmps49
  go_wp2_with (go_at_call 24; (with_reducible refine (cP _ hh.k.x).mono ?_); rintro e1 w1 ⟨rfl, hb⟩; replace hh := hh.below hb; clear c0 c1 c2 d0 d1 d2; have c0 := hh.k.a.c0; have c1 := hh.k.a.c1; have c2 := hh.k.a.c2; have d0 := hh.k.b.c0; have d1 := hh.k.b.c1; have d2 := hh.k.b.c2; clear hb)
  refine Code.wp_mono (Q := fun x a' W => x = .normal ∧ ∃ g7 g8 A1 e1 A2 e2 A3 e3 A4 e4, a' = { tmps := #[.agg #[.int .i64 s, .slice A n c, .slice B m d], .agg #[.int .i64 t, .slice C p f, .slice D q g], .pointer (some ⟨w.heap.size, 0, none⟩), .pointer (some ⟨w.heap.size + 1, 0, none⟩), .pointer (some ⟨w.heap.size + 1 + 1, 0, none⟩), .pointer (some ⟨w.heap.size + 1 + 1 + 1, 0, none⟩), .bool false, .pointer (some ⟨g7, 0, none⟩), .pointer (some ⟨g8, 0, none⟩), .agg #[.int .i64 s, .slice A n c, .slice B m d], .agg #[.int .i64 t, .slice C p f, .slice D q g], .bool true, .bool false, undef, undef, .agg #[.int .i64 t, .slice C p f, .slice D q g], .agg #[.int .i64 t, .slice A1 p e1, .slice A2 q e2], .agg #[.int .i64 s, .slice A n c, .slice B m d], .agg #[.int .i64 s, .slice A3 n e3, .slice A4 m e4], undef, undef, undef, undef, undef, undef, undef, undef, undef, undef, undef, undef, undef, undef, undef, undef, undef, undef, undef], defers := [] } ∧ SwR w W 62 s (.slice A n c) (.slice B m d) t (.slice C p f) (.slice D q g) #[.int .i64 0, .slice none 0 0, .slice none 0 0] #[.int .i64 0, .slice none 0 0, .slice none 0 0] g7 g8 #[.int .i64 t, .slice A1 p e1, .slice A2 q e2] #[.int .i64 s, .slice A3 n e3, .slice A4 m e4] ∧ W.ownsRow w.heap.size 9 1 (.slice A1 p e1) p us ∧ W.ownsRow w.heap.size 9 1 (.slice A2 q e2) q vs ∧ W.ownsRow w.heap.size 9 1 (.slice A3 n e3) n xs ∧ W.ownsRow w.heap.size 9 1 (.slice A4 m e4) m ys) ?cont ?reg
  case reg =>
    clear c0 c1 c2 d0 d1 d2 hy hz cP
    refine wp_region_held_drew (S := fun W => Sw w W 62 s (.slice A n c) (.slice B m d) t (.slice C p f) (.slice D q g) #[.int .i64 0, .slice none 0 0, .slice none 0 0] #[.int .i64 0, .slice none 0 0, .slice none 0 0]) (by kernel_rfl) ?_ (fun hHeld => ?_)
    · exact hh.below (below_drew10 w1)
    clear hh
    generalize w1.drew = W1 at *
    refine' wpAnyH_take (i := 0) (v := .agg #[.int .i64 t, .slice C p f, .slice D q g]) rfl (by kernel_rfl) (by kernel_rfl) (by kernel_rfl) (fun _ _ _ h => nomatch h.1) (Or.inl ⟨by rfl, fun w' hw' => by have h0 := hw'.k.b.c0; have h1 := hw'.k.b.c1; have h2 := hw'.k.b.c2; go_simp⟩) hHeld ?_
    try simp only [Act.put, List.setIfInBounds_toArray, List.set_cons_zero, List.set_cons_succ]
    refine' wpAnyH_take (i := 2) (v := .agg #[.int .i64 s, .slice A n c, .slice B m d]) rfl (by kernel_rfl) (by kernel_rfl) (by kernel_rfl) (fun _ _ _ h => nomatch h.1) (Or.inl ⟨by rfl, fun w' hw' => by have h0 := hw'.k.a.c0; have h1 := hw'.k.a.c1; have h2 := hw'.k.a.c2; go_simp⟩) hHeld ?_
    try simp only [Act.put, List.setIfInBounds_toArray, List.set_cons_zero, List.set_cons_succ]
    refine wpAnyH_ready (rs := [1, 4, 5]) (by kernel_rfl) (by simp) ?_
    refine (AllReadyH.cons rfl (fun K hK => ?_) (AllReadyH.cons rfl (fun K hK => ?_) (AllReadyH.cons rfl (fun K hK => ?_) AllReadyH.nil)))
    · go_simp
      (with_reducible refine (cC _ hHeld.k.x).mono ?_)
      rintro e9 W2 ⟨A1, e1, A2, e2, rfl, o1, o2, hb⟩
      replace o1 := own_le o1 hHeld.k.x.size
      replace o2 := own_le o2 hHeld.k.x.size
      refine hK.out _ _ (hHeld.below hb) (fun hHeld => ?_)
      clear hK K hb
      try simp only [Act.put, List.setIfInBounds_toArray, List.set_cons_zero, List.set_cons_succ]
      refine wpAnyH_ready (rs := [3, 4, 5]) (by kernel_rfl) (by simp) ?_
      refine (AllReadyH.cons rfl (fun K hK => ?_) (AllReadyH.cons rfl (fun K hK => ?_) (AllReadyH.cons rfl (fun K hK => ?_) AllReadyH.nil)))
      · go_simp
        (with_reducible refine (cA _ hHeld.k.x).mono ?_)
        rintro e9 W3 ⟨A3, e3, A4, e4, rfl, o3, o4, hb⟩
        replace o3 := own_le o3 hHeld.k.x.size
        replace o4 := own_le o4 hHeld.k.x.size
        replace o1 := own_below o1 hb
        replace o2 := own_below o2 hb
        refine hK.out _ _ (hHeld.below hb) (fun hHeld => ?_)
        clear hK K hb
        try simp only [Act.put, List.setIfInBounds_toArray, List.set_cons_zero, List.set_cons_succ]
        refine wpAnyH_ready (rs := [4, 5]) (by kernel_rfl) (by simp) ?_
        refine (AllReadyH.cons rfl (fun K hK => ?_) (AllReadyH.cons rfl (fun K hK => ?_) AllReadyH.nil))
        · go_simp
          have hb : Below W3.heap.size W3 (W3.alloc (.cells #[.int .i64 0, .slice none 0 0, .slice none 0 0] 62)) := (Below.refl _ _).alloc (Nat.le_refl _) _
          have z7 := Blk.new W3 62 #[.int .i64 0, .slice none 0 0, .slice none 0 0]
          have n7 : w.heap.size + 4 ≤ W3.heap.size := by have := hHeld.r5.lt; omega
          replace o1 := own_below o1 hb
          replace o2 := own_below o2 hb
          replace o3 := own_below o3 hb
          replace o4 := own_below o4 hb
          refine hK.out _ _ (hHeld.below hb) (fun hHeld => ?_)
          clear hK K hb
          generalize W3.alloc (.cells #[.int .i64 0, .slice none 0 0, .slice none 0 0] 62) = W4 at *
          generalize W3.heap.size = g7 at *
          try simp only [Act.put, List.setIfInBounds_toArray, List.set_cons_zero, List.set_cons_succ]
          refine wpAnyH_ready (rs := [5]) (by kernel_rfl) (by simp) ?_
          refine (AllReadyH.cons rfl (fun K hK => ?_) AllReadyH.nil)
          go_simp
          have hb : Below W4.heap.size W4 (W4.alloc (.cells #[.int .i64 0, .slice none 0 0, .slice none 0 0] 62)) := (Below.refl _ _).alloc (Nat.le_refl _) _
          have z8 := Blk.new W4 62 #[.int .i64 0, .slice none 0 0, .slice none 0 0]
          have n8 : w.heap.size + 4 ≤ W4.heap.size := by have := hHeld.r5.lt; omega
          have ne : W4.heap.size ≠ g7 := by have := z7.lt; omega
          replace o1 := own_below o1 hb
          replace o2 := own_below o2 hb
          replace o3 := own_below o3 hb
          replace o4 := own_below o4 hb
          replace z7 := z7.below hb
          refine hK.out _ _ (hHeld.below hb) (fun hHeld => ?_)
          clear hK K hb
          generalize W4.alloc (.cells #[.int .i64 0, .slice none 0 0, .slice none 0 0] 62) = W5 at *
          generalize W4.heap.size = g8 at *
          try simp only [Act.put, List.setIfInBounds_toArray, List.set_cons_zero, List.set_cons_succ]
          refine wpAnyH_ready (rs := [6]) (by kernel_rfl) (by simp) ?_
          refine AllReadyH.cons rfl (fun K hK => ?_) AllReadyH.nil
          have y0 := z7.cell_ (i := 0) rfl
          have f0 := z7.frozen 0
          have y1 := z7.cell_ (i := 1) rfl
          have f1 := z7.frozen 1
          have y2 := z7.cell_ (i := 2) rfl
          have f2 := z7.frozen 2
          go_simp
          have hg := gb_set (gb_set (gb_set (gb_refl W5 (some g7)) 0 (.int .i64 t)) 1 (.slice A1 p e1)) 2 (.slice A2 q e2)
          have hz3 := (((z7.set 0 (.int .i64 t)).set 1 (.slice A1 p e1)).set 2 (.slice A2 q e2))
          replace o1 := o1.kept hg (.inr (Lib.ownBlock_ne o1 z7 (by decide)))
          replace o2 := o2.kept hg (.inr (Lib.ownBlock_ne o2 z7 (by decide)))
          replace o3 := o3.kept hg (.inr (Lib.ownBlock_ne o3 z7 (by decide)))
          replace o4 := o4.kept hg (.inr (Lib.ownBlock_ne o4 z7 (by decide)))
          replace z8 := blk_gb z8 hg (by omega)
          refine hK.out _ _ (hHeld.gb hg (by omega)) (fun hHeld => ?_)
          clear hK K hg y0 y1 y2 f0 f1 f2 z7
          generalize (((W5.setCell ⟨g7, 0, none⟩ (.int .i64 t)).setCell ⟨g7, 1, none⟩ (.slice A1 p e1)).setCell ⟨g7, 2, none⟩ (.slice A2 q e2)) = W6 at *
          have z7 : Blk W6 g7 62 #[.int .i64 t, .slice A1 p e1, .slice A2 q e2] := hz3
          clear hz3
          try simp only [Act.put, List.setIfInBounds_toArray, List.set_cons_zero, List.set_cons_succ]
          refine wpAnyH_ready (rs := [7]) (by kernel_rfl) (by simp) ?_
          refine AllReadyH.cons rfl (fun K hK => ?_) AllReadyH.nil
          have y0 := z8.cell_ (i := 0) rfl
          have f0 := z8.frozen 0
          have y1 := z8.cell_ (i := 1) rfl
          have f1 := z8.frozen 1
          have y2 := z8.cell_ (i := 2) rfl
          have f2 := z8.frozen 2
          go_simp
          have hg := gb_set (gb_set (gb_set (gb_refl W6 (some g8)) 0 (.int .i64 s)) 1 (.slice A3 n e3)) 2 (.slice A4 m e4)
          have hz3 := (((z8.set 0 (.int .i64 s)).set 1 (.slice A3 n e3)).set 2 (.slice A4 m e4))
          replace o1 := o1.kept hg (.inr (Lib.ownBlock_ne o1 z8 (by decide)))
          replace o2 := o2.kept hg (.inr (Lib.ownBlock_ne o2 z8 (by decide)))
          replace o3 := o3.kept hg (.inr (Lib.ownBlock_ne o3 z8 (by decide)))
          replace o4 := o4.kept hg (.inr (Lib.ownBlock_ne o4 z8 (by decide)))
          replace z7 := blk_gb z7 hg (by omega)
          refine hK.out _ _ (hHeld.gb hg (by omega)) (fun hHeld => ?_)
          clear hK K hg y0 y1 y2 f0 f1 f2 z8
          generalize (((W6.setCell ⟨g8, 0, none⟩ (.int .i64 s)).setCell ⟨g8, 1, none⟩ (.slice A3 n e3)).setCell ⟨g8, 2, none⟩ (.slice A4 m e4)) = W7 at *
          have z8 : Blk W7 g8 62 #[.int .i64 s, .slice A3 n e3, .slice A4 m e4] := hz3
          clear hz3
          try simp only [Act.put, List.setIfInBounds_toArray, List.set_cons_zero, List.set_cons_succ]
          refine wpAnyH_done (by kernel_rfl) ?_ _
          exact ⟨rfl, g7, g8, A1, e1, A2, e2, A3, e3, A4, e4, rfl, ⟨hHeld, z7, z8, n7, n8, ne⟩, o1, o2, o3, o4⟩
        · go_simp
          have hb : Below W3.heap.size W3 (W3.alloc (.cells #[.int .i64 0, .slice none 0 0, .slice none 0 0] 62)) := (Below.refl _ _).alloc (Nat.le_refl _) _
          have z8 := Blk.new W3 62 #[.int .i64 0, .slice none 0 0, .slice none 0 0]
          have n8 : w.heap.size + 4 ≤ W3.heap.size := by have := hHeld.r5.lt; omega
          replace o1 := own_below o1 hb
          replace o2 := own_below o2 hb
          replace o3 := own_below o3 hb
          replace o4 := own_below o4 hb
          refine hK.out _ _ (hHeld.below hb) (fun hHeld => ?_)
          clear hK K hb
          generalize W3.alloc (.cells #[.int .i64 0, .slice none 0 0, .slice none 0 0] 62) = W8 at *
          generalize W3.heap.size = g8 at *
          try simp only [Act.put, List.setIfInBounds_toArray, List.set_cons_zero, List.set_cons_succ]
          refine wpAnyH_ready (rs := [4]) (by kernel_rfl) (by simp) ?_
          refine (AllReadyH.cons rfl (fun K hK => ?_) AllReadyH.nil)
          go_simp
          have hb : Below W8.heap.size W8 (W8.alloc (.cells #[.int .i64 0, .slice none 0 0, .slice none 0 0] 62)) := (Below.refl _ _).alloc (Nat.le_refl _) _
          have z7 := Blk.new W8 62 #[.int .i64 0, .slice none 0 0, .slice none 0 0]
          have n7 : w.heap.size + 4 ≤ W8.heap.size := by have := hHeld.r5.lt; omega
          have ne : g8 ≠ W8.heap.size := by have := z8.lt; omega
          replace o1 := own_below o1 hb
          replace o2 := own_below o2 hb
          replace o3 := own_below o3 hb
          replace o4 := own_below o4 hb
          replace z8 := z8.below hb
          refine hK.out _ _ (hHeld.below hb) (fun hHeld => ?_)
          clear hK K hb
          generalize W8.alloc (.cells #[.int .i64 0, .slice none 0 0, .slice none 0 0] 62) = W9 at *
          generalize W8.heap.size = g7 at *
          try simp only [Act.put, List.setIfInBounds_toArray, List.set_cons_zero, List.set_cons_succ]
          refine wpAnyH_ready (rs := [6]) (by kernel_rfl) (by simp) ?_
          refine AllReadyH.cons rfl (fun K hK => ?_) AllReadyH.nil
          have y0 := z7.cell_ (i := 0) rfl
          have f0 := z7.frozen 0
          have y1 := z7.cell_ (i := 1) rfl
          have f1 := z7.frozen 1
          have y2 := z7.cell_ (i := 2) rfl
          have f2 := z7.frozen 2
          go_simp
          have hg := gb_set (gb_set (gb_set (gb_refl W9 (some g7)) 0 (.int .i64 t)) 1 (.slice A1 p e1)) 2 (.slice A2 q e2)
          have hz3 := (((z7.set 0 (.int .i64 t)).set 1 (.slice A1 p e1)).set 2 (.slice A2 q e2))
          replace o1 := o1.kept hg (.inr (Lib.ownBlock_ne o1 z7 (by decide)))
          replace o2 := o2.kept hg (.inr (Lib.ownBlock_ne o2 z7 (by decide)))
          replace o3 := o3.kept hg (.inr (Lib.ownBlock_ne o3 z7 (by decide)))
          replace o4 := o4.kept hg (.inr (Lib.ownBlock_ne o4 z7 (by decide)))
          replace z8 := blk_gb z8 hg (by omega)
          refine hK.out _ _ (hHeld.gb hg (by omega)) (fun hHeld => ?_)
          clear hK K hg y0 y1 y2 f0 f1 f2 z7
          generalize (((W9.setCell ⟨g7, 0, none⟩ (.int .i64 t)).setCell ⟨g7, 1, none⟩ (.slice A1 p e1)).setCell ⟨g7, 2, none⟩ (.slice A2 q e2)) = W10 at *
          have z7 : Blk W10 g7 62 #[.int .i64 t, .slice A1 p e1, .slice A2 q e2] := hz3
          clear hz3
          try simp only [Act.put, List.setIfInBounds_toArray, List.set_cons_zero, List.set_cons_succ]
          refine wpAnyH_ready (rs := [7]) (by kernel_rfl) (by simp) ?_
          refine AllReadyH.cons rfl (fun K hK => ?_) AllReadyH.nil
          have y0 := z8.cell_ (i := 0) rfl
          have f0 := z8.frozen 0
          have y1 := z8.cell_ (i := 1) rfl
          have f1 := z8.frozen 1
          have y2 := z8.cell_ (i := 2) rfl
          have f2 := z8.frozen 2
          go_simp
          have hg := gb_set (gb_set (gb_set (gb_refl W10 (some g8)) 0 (.int .i64 s)) 1 (.slice A3 n e3)) 2 (.slice A4 m e4)
          have hz3 := (((z8.set 0 (.int .i64 s)).set 1 (.slice A3 n e3)).set 2 (.slice A4 m e4))
          replace o1 := o1.kept hg (.inr (Lib.ownBlock_ne o1 z8 (by decide)))
          replace o2 := o2.kept hg (.inr (Lib.ownBlock_ne o2 z8 (by decide)))
          replace o3 := o3.kept hg (.inr (Lib.ownBlock_ne o3 z8 (by decide)))
          replace o4 := o4.kept hg (.inr (Lib.ownBlock_ne o4 z8 (by decide)))
          replace z7 := blk_gb z7 hg (by omega)
          refine hK.out _ _ (hHeld.gb hg (by omega)) (fun hHeld => ?_)
          clear hK K hg y0 y1 y2 f0 f1 f2 z8
          generalize (((W10.setCell ⟨g8, 0, none⟩ (.int .i64 s)).setCell ⟨g8, 1, none⟩ (.slice A3 n e3)).setCell ⟨g8, 2, none⟩ (.slice A4 m e4)) = W11 at *
          have z8 : Blk W11 g8 62 #[.int .i64 s, .slice A3 n e3, .slice A4 m e4] := hz3
          clear hz3
          try simp only [Act.put, List.setIfInBounds_toArray, List.set_cons_zero, List.set_cons_succ]
          refine wpAnyH_done (by kernel_rfl) ?_ _
          exact ⟨rfl, g7, g8, A1, e1, A2, e2, A3, e3, A4, e4, rfl, ⟨hHeld, z7, z8, n7, n8, ne⟩, o1, o2, o3, o4⟩
      · go_simp
        have hb : Below W2.heap.size W2 (W2.alloc (.cells #[.int .i64 0, .slice none 0 0, .slice none 0 0] 62)) := (Below.refl _ _).alloc (Nat.le_refl _) _
        have z7 := Blk.new W2 62 #[.int .i64 0, .slice none 0 0, .slice none 0 0]
        have n7 : w.heap.size + 4 ≤ W2.heap.size := by have := hHeld.r5.lt; omega
        replace o1 := own_below o1 hb
        replace o2 := own_below o2 hb
        refine hK.out _ _ (hHeld.below hb) (fun hHeld => ?_)
        clear hK K hb
        generalize W2.alloc (.cells #[.int .i64 0, .slice none 0 0, .slice none 0 0] 62) = W12 at *
        generalize W2.heap.size = g7 at *
        try simp only [Act.put, List.setIfInBounds_toArray, List.set_cons_zero, List.set_cons_succ]
        refine wpAnyH_ready (rs := [3, 5]) (by kernel_rfl) (by simp) ?_
        refine (AllReadyH.cons rfl (fun K hK => ?_) (AllReadyH.cons rfl (fun K hK => ?_) AllReadyH.nil))
        · go_simp
          (with_reducible refine (cA _ hHeld.k.x).mono ?_)
          rintro e9 W13 ⟨A3, e3, A4, e4, rfl, o3, o4, hb⟩
          replace o3 := own_le o3 hHeld.k.x.size
          replace o4 := own_le o4 hHeld.k.x.size
          replace o1 := own_below o1 hb
          replace o2 := own_below o2 hb
          replace z7 := z7.below hb
          refine hK.out _ _ (hHeld.below hb) (fun hHeld => ?_)
          clear hK K hb
          try simp only [Act.put, List.setIfInBounds_toArray, List.set_cons_zero, List.set_cons_succ]
          refine wpAnyH_ready (rs := [5]) (by kernel_rfl) (by simp) ?_
          refine (AllReadyH.cons rfl (fun K hK => ?_) AllReadyH.nil)
          go_simp
          have hb : Below W13.heap.size W13 (W13.alloc (.cells #[.int .i64 0, .slice none 0 0, .slice none 0 0] 62)) := (Below.refl _ _).alloc (Nat.le_refl _) _
          have z8 := Blk.new W13 62 #[.int .i64 0, .slice none 0 0, .slice none 0 0]
          have n8 : w.heap.size + 4 ≤ W13.heap.size := by have := hHeld.r5.lt; omega
          have ne : W13.heap.size ≠ g7 := by have := z7.lt; omega
          replace o1 := own_below o1 hb
          replace o2 := own_below o2 hb
          replace o3 := own_below o3 hb
          replace o4 := own_below o4 hb
          replace z7 := z7.below hb
          refine hK.out _ _ (hHeld.below hb) (fun hHeld => ?_)
          clear hK K hb
          generalize W13.alloc (.cells #[.int .i64 0, .slice none 0 0, .slice none 0 0] 62) = W14 at *
          generalize W13.heap.size = g8 at *
          try simp only [Act.put, List.setIfInBounds_toArray, List.set_cons_zero, List.set_cons_succ]
          refine wpAnyH_ready (rs := [6]) (by kernel_rfl) (by simp) ?_
          refine AllReadyH.cons rfl (fun K hK => ?_) AllReadyH.nil
          have y0 := z7.cell_ (i := 0) rfl
          have f0 := z7.frozen 0
          have y1 := z7.cell_ (i := 1) rfl
          have f1 := z7.frozen 1
          have y2 := z7.cell_ (i := 2) rfl
          have f2 := z7.frozen 2
          go_simp
          have hg := gb_set (gb_set (gb_set (gb_refl W14 (some g7)) 0 (.int .i64 t)) 1 (.slice A1 p e1)) 2 (.slice A2 q e2)
          have hz3 := (((z7.set 0 (.int .i64 t)).set 1 (.slice A1 p e1)).set 2 (.slice A2 q e2))
          replace o1 := o1.kept hg (.inr (Lib.ownBlock_ne o1 z7 (by decide)))
          replace o2 := o2.kept hg (.inr (Lib.ownBlock_ne o2 z7 (by decide)))
          replace o3 := o3.kept hg (.inr (Lib.ownBlock_ne o3 z7 (by decide)))
          replace o4 := o4.kept hg (.inr (Lib.ownBlock_ne o4 z7 (by decide)))
          replace z8 := blk_gb z8 hg (by omega)
          refine hK.out _ _ (hHeld.gb hg (by omega)) (fun hHeld => ?_)
          clear hK K hg y0 y1 y2 f0 f1 f2 z7
          generalize (((W14.setCell ⟨g7, 0, none⟩ (.int .i64 t)).setCell ⟨g7, 1, none⟩ (.slice A1 p e1)).setCell ⟨g7, 2, none⟩ (.slice A2 q e2)) = W15 at *
          have z7 : Blk W15 g7 62 #[.int .i64 t, .slice A1 p e1, .slice A2 q e2] := hz3
          clear hz3
          try simp only [Act.put, List.setIfInBounds_toArray, List.set_cons_zero, List.set_cons_succ]
          refine wpAnyH_ready (rs := [7]) (by kernel_rfl) (by simp) ?_
          refine AllReadyH.cons rfl (fun K hK => ?_) AllReadyH.nil
          have y0 := z8.cell_ (i := 0) rfl
          have f0 := z8.frozen 0
          have y1 := z8.cell_ (i := 1) rfl
          have f1 := z8.frozen 1
          have y2 := z8.cell_ (i := 2) rfl
          have f2 := z8.frozen 2
          go_simp
          have hg := gb_set (gb_set (gb_set (gb_refl W15 (some g8)) 0 (.int .i64 s)) 1 (.slice A3 n e3)) 2 (.slice A4 m e4)
          have hz3 := (((z8.set 0 (.int .i64 s)).set 1 (.slice A3 n e3)).set 2 (.slice A4 m e4))
          replace o1 := o1.kept hg (.inr (Lib.ownBlock_ne o1 z8 (by decide)))
          replace o2 := o2.kept hg (.inr (Lib.ownBlock_ne o2 z8 (by decide)))
          replace o3 := o3.kept hg (.inr (Lib.ownBlock_ne o3 z8 (by decide)))
          replace o4 := o4.kept hg (.inr (Lib.ownBlock_ne o4 z8 (by decide)))
          replace z7 := blk_gb z7 hg (by omega)
          refine hK.out _ _ (hHeld.gb hg (by omega)) (fun hHeld => ?_)
          clear hK K hg y0 y1 y2 f0 f1 f2 z8
          generalize (((W15.setCell ⟨g8, 0, none⟩ (.int .i64 s)).setCell ⟨g8, 1, none⟩ (.slice A3 n e3)).setCell ⟨g8, 2, none⟩ (.slice A4 m e4)) = W16 at *
          have z8 : Blk W16 g8 62 #[.int .i64 s, .slice A3 n e3, .slice A4 m e4] := hz3
          clear hz3
          try simp only [Act.put, List.setIfInBounds_toArray, List.set_cons_zero, List.set_cons_succ]
          refine wpAnyH_done (by kernel_rfl) ?_ _
          exact ⟨rfl, g7, g8, A1, e1, A2, e2, A3, e3, A4, e4, rfl, ⟨hHeld, z7, z8, n7, n8, ne⟩, o1, o2, o3, o4⟩
        · go_simp
          have hb : Below W12.heap.size W12 (W12.alloc (.cells #[.int .i64 0, .slice none 0 0, .slice none 0 0] 62)) := (Below.refl _ _).alloc (Nat.le_refl _) _
          have z8 := Blk.new W12 62 #[.int .i64 0, .slice none 0 0, .slice none 0 0]
          have n8 : w.heap.size + 4 ≤ W12.heap.size := by have := hHeld.r5.lt; omega
          have ne : W12.heap.size ≠ g7 := by have := z7.lt; omega
          replace o1 := own_below o1 hb
          replace o2 := own_below o2 hb
          replace z7 := z7.below hb
          refine hK.out _ _ (hHeld.below hb) (fun hHeld => ?_)
          clear hK K hb
          generalize W12.alloc (.cells #[.int .i64 0, .slice none 0 0, .slice none 0 0] 62) = W17 at *
          generalize W12.heap.size = g8 at *
          try simp only [Act.put, List.setIfInBounds_toArray, List.set_cons_zero, List.set_cons_succ]
          refine wpAnyH_ready (rs := [3]) (by kernel_rfl) (by simp) ?_
          refine (AllReadyH.cons rfl (fun K hK => ?_) AllReadyH.nil)
          go_simp
          (with_reducible refine (cA _ hHeld.k.x).mono ?_)
          rintro e9 W18 ⟨A3, e3, A4, e4, rfl, o3, o4, hb⟩
          replace o3 := own_le o3 hHeld.k.x.size
          replace o4 := own_le o4 hHeld.k.x.size
          replace o1 := own_below o1 hb
          replace o2 := own_below o2 hb
          replace z7 := z7.below hb
          replace z8 := z8.below hb
          refine hK.out _ _ (hHeld.below hb) (fun hHeld => ?_)
          clear hK K hb
          try simp only [Act.put, List.setIfInBounds_toArray, List.set_cons_zero, List.set_cons_succ]
          refine wpAnyH_ready (rs := [6]) (by kernel_rfl) (by simp) ?_
          refine AllReadyH.cons rfl (fun K hK => ?_) AllReadyH.nil
          have y0 := z7.cell_ (i := 0) rfl
          have f0 := z7.frozen 0
          have y1 := z7.cell_ (i := 1) rfl
          have f1 := z7.frozen 1
          have y2 := z7.cell_ (i := 2) rfl
          have f2 := z7.frozen 2
          go_simp
          have hg := gb_set (gb_set (gb_set (gb_refl W18 (some g7)) 0 (.int .i64 t)) 1 (.slice A1 p e1)) 2 (.slice A2 q e2)
          have hz3 := (((z7.set 0 (.int .i64 t)).set 1 (.slice A1 p e1)).set 2 (.slice A2 q e2))
          replace o1 := o1.kept hg (.inr (Lib.ownBlock_ne o1 z7 (by decide)))
          replace o2 := o2.kept hg (.inr (Lib.ownBlock_ne o2 z7 (by decide)))
          replace o3 := o3.kept hg (.inr (Lib.ownBlock_ne o3 z7 (by decide)))
          replace o4 := o4.kept hg (.inr (Lib.ownBlock_ne o4 z7 (by decide)))
          replace z8 := blk_gb z8 hg (by omega)
          refine hK.out _ _ (hHeld.gb hg (by omega)) (fun hHeld => ?_)
          clear hK K hg y0 y1 y2 f0 f1 f2 z7
          generalize (((W18.setCell ⟨g7, 0, none⟩ (.int .i64 t)).setCell ⟨g7, 1, none⟩ (.slice A1 p e1)).setCell ⟨g7, 2, none⟩ (.slice A2 q e2)) = W19 at *
          have z7 : Blk W19 g7 62 #[.int .i64 t, .slice A1 p e1, .slice A2 q e2] := hz3
          clear hz3
          try simp only [Act.put, List.setIfInBounds_toArray, List.set_cons_zero, List.set_cons_succ]
          refine wpAnyH_ready (rs := [7]) (by kernel_rfl) (by simp) ?_
          refine AllReadyH.cons rfl (fun K hK => ?_) AllReadyH.nil
          have y0 := z8.cell_ (i := 0) rfl
          have f0 := z8.frozen 0
          have y1 := z8.cell_ (i := 1) rfl
          have f1 := z8.frozen 1
          have y2 := z8.cell_ (i := 2) rfl
          have f2 := z8.frozen 2
          go_simp
          have hg := gb_set (gb_set (gb_set (gb_refl W19 (some g8)) 0 (.int .i64 s)) 1 (.slice A3 n e3)) 2 (.slice A4 m e4)
          have hz3 := (((z8.set 0 (.int .i64 s)).set 1 (.slice A3 n e3)).set 2 (.slice A4 m e4))
          replace o1 := o1.kept hg (.inr (Lib.ownBlock_ne o1 z8 (by decide)))
          replace o2 := o2.kept hg (.inr (Lib.ownBlock_ne o2 z8 (by decide)))
          replace o3 := o3.kept hg (.inr (Lib.ownBlock_ne o3 z8 (by decide)))
          replace o4 := o4.kept hg (.inr (Lib.ownBlock_ne o4 z8 (by decide)))
          replace z7 := blk_gb z7 hg (by omega)
          refine hK.out _ _ (hHeld.gb hg (by omega)) (fun hHeld => ?_)
          clear hK K hg y0 y1 y2 f0 f1 f2 z8
          generalize (((W19.setCell ⟨g8, 0, none⟩ (.int .i64 s)).setCell ⟨g8, 1, none⟩ (.slice A3 n e3)).setCell ⟨g8, 2, none⟩ (.slice A4 m e4)) = W20 at *
          have z8 : Blk W20 g8 62 #[.int .i64 s, .slice A3 n e3, .slice A4 m e4] := hz3
          clear hz3
          try simp only [Act.put, List.setIfInBounds_toArray, List.set_cons_zero, List.set_cons_succ]
          refine wpAnyH_done (by kernel_rfl) ?_ _
          exact ⟨rfl, g7, g8, A1, e1, A2, e2, A3, e3, A4, e4, rfl, ⟨hHeld, z7, z8, n7, n8, ne⟩, o1, o2, o3, o4⟩
      · go_simp
        have hb : Below W2.heap.size W2 (W2.alloc (.cells #[.int .i64 0, .slice none 0 0, .slice none 0 0] 62)) := (Below.refl _ _).alloc (Nat.le_refl _) _
        have z8 := Blk.new W2 62 #[.int .i64 0, .slice none 0 0, .slice none 0 0]
        have n8 : w.heap.size + 4 ≤ W2.heap.size := by have := hHeld.r5.lt; omega
        replace o1 := own_below o1 hb
        replace o2 := own_below o2 hb
        refine hK.out _ _ (hHeld.below hb) (fun hHeld => ?_)
        clear hK K hb
        generalize W2.alloc (.cells #[.int .i64 0, .slice none 0 0, .slice none 0 0] 62) = W21 at *
        generalize W2.heap.size = g8 at *
        try simp only [Act.put, List.setIfInBounds_toArray, List.set_cons_zero, List.set_cons_succ]
        refine wpAnyH_ready (rs := [3, 4]) (by kernel_rfl) (by simp) ?_
        refine (AllReadyH.cons rfl (fun K hK => ?_) (AllReadyH.cons rfl (fun K hK => ?_) AllReadyH.nil))
        · go_simp
          (with_reducible refine (cA _ hHeld.k.x).mono ?_)
          rintro e9 W22 ⟨A3, e3, A4, e4, rfl, o3, o4, hb⟩
          replace o3 := own_le o3 hHeld.k.x.size
          replace o4 := own_le o4 hHeld.k.x.size
          replace o1 := own_below o1 hb
          replace o2 := own_below o2 hb
          replace z8 := z8.below hb
          refine hK.out _ _ (hHeld.below hb) (fun hHeld => ?_)
          clear hK K hb
          try simp only [Act.put, List.setIfInBounds_toArray, List.set_cons_zero, List.set_cons_succ]
          refine wpAnyH_ready (rs := [4]) (by kernel_rfl) (by simp) ?_
          refine (AllReadyH.cons rfl (fun K hK => ?_) AllReadyH.nil)
          go_simp
          have hb : Below W22.heap.size W22 (W22.alloc (.cells #[.int .i64 0, .slice none 0 0, .slice none 0 0] 62)) := (Below.refl _ _).alloc (Nat.le_refl _) _
          have z7 := Blk.new W22 62 #[.int .i64 0, .slice none 0 0, .slice none 0 0]
          have n7 : w.heap.size + 4 ≤ W22.heap.size := by have := hHeld.r5.lt; omega
          have ne : g8 ≠ W22.heap.size := by have := z8.lt; omega
          replace o1 := own_below o1 hb
          replace o2 := own_below o2 hb
          replace o3 := own_below o3 hb
          replace o4 := own_below o4 hb
          replace z8 := z8.below hb
          refine hK.out _ _ (hHeld.below hb) (fun hHeld => ?_)
          clear hK K hb
          generalize W22.alloc (.cells #[.int .i64 0, .slice none 0 0, .slice none 0 0] 62) = W23 at *
          generalize W22.heap.size = g7 at *
          try simp only [Act.put, List.setIfInBounds_toArray, List.set_cons_zero, List.set_cons_succ]
          refine wpAnyH_ready (rs := [6]) (by kernel_rfl) (by simp) ?_
          refine AllReadyH.cons rfl (fun K hK => ?_) AllReadyH.nil
          have y0 := z7.cell_ (i := 0) rfl
          have f0 := z7.frozen 0
          have y1 := z7.cell_ (i := 1) rfl
          have f1 := z7.frozen 1
          have y2 := z7.cell_ (i := 2) rfl
          have f2 := z7.frozen 2
          go_simp
          have hg := gb_set (gb_set (gb_set (gb_refl W23 (some g7)) 0 (.int .i64 t)) 1 (.slice A1 p e1)) 2 (.slice A2 q e2)
          have hz3 := (((z7.set 0 (.int .i64 t)).set 1 (.slice A1 p e1)).set 2 (.slice A2 q e2))
          replace o1 := o1.kept hg (.inr (Lib.ownBlock_ne o1 z7 (by decide)))
          replace o2 := o2.kept hg (.inr (Lib.ownBlock_ne o2 z7 (by decide)))
          replace o3 := o3.kept hg (.inr (Lib.ownBlock_ne o3 z7 (by decide)))
          replace o4 := o4.kept hg (.inr (Lib.ownBlock_ne o4 z7 (by decide)))
          replace z8 := blk_gb z8 hg (by omega)
          refine hK.out _ _ (hHeld.gb hg (by omega)) (fun hHeld => ?_)
          clear hK K hg y0 y1 y2 f0 f1 f2 z7
          generalize (((W23.setCell ⟨g7, 0, none⟩ (.int .i64 t)).setCell ⟨g7, 1, none⟩ (.slice A1 p e1)).setCell ⟨g7, 2, none⟩ (.slice A2 q e2)) = W24 at *
          have z7 : Blk W24 g7 62 #[.int .i64 t, .slice A1 p e1, .slice A2 q e2] := hz3
          clear hz3
          try simp only [Act.put, List.setIfInBounds_toArray, List.set_cons_zero, List.set_cons_succ]
          refine wpAnyH_ready (rs := [7]) (by kernel_rfl) (by simp) ?_
          refine AllReadyH.cons rfl (fun K hK => ?_) AllReadyH.nil
          have y0 := z8.cell_ (i := 0) rfl
          have f0 := z8.frozen 0
          have y1 := z8.cell_ (i := 1) rfl
          have f1 := z8.frozen 1
          have y2 := z8.cell_ (i := 2) rfl
          have f2 := z8.frozen 2
          go_simp
          have hg := gb_set (gb_set (gb_set (gb_refl W24 (some g8)) 0 (.int .i64 s)) 1 (.slice A3 n e3)) 2 (.slice A4 m e4)
          have hz3 := (((z8.set 0 (.int .i64 s)).set 1 (.slice A3 n e3)).set 2 (.slice A4 m e4))
          replace o1 := o1.kept hg (.inr (Lib.ownBlock_ne o1 z8 (by decide)))
          replace o2 := o2.kept hg (.inr (Lib.ownBlock_ne o2 z8 (by decide)))
          replace o3 := o3.kept hg (.inr (Lib.ownBlock_ne o3 z8 (by decide)))
          replace o4 := o4.kept hg (.inr (Lib.ownBlock_ne o4 z8 (by decide)))
          replace z7 := blk_gb z7 hg (by omega)
          refine hK.out _ _ (hHeld.gb hg (by omega)) (fun hHeld => ?_)
          clear hK K hg y0 y1 y2 f0 f1 f2 z8
          generalize (((W24.setCell ⟨g8, 0, none⟩ (.int .i64 s)).setCell ⟨g8, 1, none⟩ (.slice A3 n e3)).setCell ⟨g8, 2, none⟩ (.slice A4 m e4)) = W25 at *
          have z8 : Blk W25 g8 62 #[.int .i64 s, .slice A3 n e3, .slice A4 m e4] := hz3
          clear hz3
          try simp only [Act.put, List.setIfInBounds_toArray, List.set_cons_zero, List.set_cons_succ]
          refine wpAnyH_done (by kernel_rfl) ?_ _
          exact ⟨rfl, g7, g8, A1, e1, A2, e2, A3, e3, A4, e4, rfl, ⟨hHeld, z7, z8, n7, n8, ne⟩, o1, o2, o3, o4⟩
        · go_simp
          have hb : Below W21.heap.size W21 (W21.alloc (.cells #[.int .i64 0, .slice none 0 0, .slice none 0 0] 62)) := (Below.refl _ _).alloc (Nat.le_refl _) _
          have z7 := Blk.new W21 62 #[.int .i64 0, .slice none 0 0, .slice none 0 0]
          have n7 : w.heap.size + 4 ≤ W21.heap.size := by have := hHeld.r5.lt; omega
          have ne : g8 ≠ W21.heap.size := by have := z8.lt; omega
          replace o1 := own_below o1 hb
          replace o2 := own_below o2 hb
          replace z8 := z8.below hb
          refine hK.out _ _ (hHeld.below hb) (fun hHeld => ?_)
          clear hK K hb
          generalize W21.alloc (.cells #[.int .i64 0, .slice none 0 0, .slice none 0 0] 62) = W26 at *
          generalize W21.heap.size = g7 at *
          try simp only [Act.put, List.setIfInBounds_toArray, List.set_cons_zero, List.set_cons_succ]
          refine wpAnyH_ready (rs := [3]) (by kernel_rfl) (by simp) ?_
          refine (AllReadyH.cons rfl (fun K hK => ?_) AllReadyH.nil)
          go_simp
          (with_reducible refine (cA _ hHeld.k.x).mono ?_)
          rintro e9 W27 ⟨A3, e3, A4, e4, rfl, o3, o4, hb⟩
          replace o3 := own_le o3 hHeld.k.x.size
          replace o4 := own_le o4 hHeld.k.x.size
          replace o1 := own_below o1 hb
          replace o2 := own_below o2 hb
          replace z7 := z7.below hb
          replace z8 := z8.below hb
          refine hK.out _ _ (hHeld.below hb) (fun hHeld => ?_)
          clear hK K hb
          try simp only [Act.put, List.setIfInBounds_toArray, List.set_cons_zero, List.set_cons_succ]
          refine wpAnyH_ready (rs := [6]) (by kernel_rfl) (by simp) ?_
          refine AllReadyH.cons rfl (fun K hK => ?_) AllReadyH.nil
          have y0 := z7.cell_ (i := 0) rfl
          have f0 := z7.frozen 0
          have y1 := z7.cell_ (i := 1) rfl
          have f1 := z7.frozen 1
          have y2 := z7.cell_ (i := 2) rfl
          have f2 := z7.frozen 2
          go_simp
          have hg := gb_set (gb_set (gb_set (gb_refl W27 (some g7)) 0 (.int .i64 t)) 1 (.slice A1 p e1)) 2 (.slice A2 q e2)
          have hz3 := (((z7.set 0 (.int .i64 t)).set 1 (.slice A1 p e1)).set 2 (.slice A2 q e2))
          replace o1 := o1.kept hg (.inr (Lib.ownBlock_ne o1 z7 (by decide)))
          replace o2 := o2.kept hg (.inr (Lib.ownBlock_ne o2 z7 (by decide)))
          replace o3 := o3.kept hg (.inr (Lib.ownBlock_ne o3 z7 (by decide)))
          replace o4 := o4.kept hg (.inr (Lib.ownBlock_ne o4 z7 (by decide)))
          replace z8 := blk_gb z8 hg (by omega)
          refine hK.out _ _ (hHeld.gb hg (by omega)) (fun hHeld => ?_)
          clear hK K hg y0 y1 y2 f0 f1 f2 z7
          generalize (((W27.setCell ⟨g7, 0, none⟩ (.int .i64 t)).setCell ⟨g7, 1, none⟩ (.slice A1 p e1)).setCell ⟨g7, 2, none⟩ (.slice A2 q e2)) = W28 at *
          have z7 : Blk W28 g7 62 #[.int .i64 t, .slice A1 p e1, .slice A2 q e2] := hz3
          clear hz3
          try simp only [Act.put, List.setIfInBounds_toArray, List.set_cons_zero, List.set_cons_succ]
          refine wpAnyH_ready (rs := [7]) (by kernel_rfl) (by simp) ?_
          refine AllReadyH.cons rfl (fun K hK => ?_) AllReadyH.nil
          have y0 := z8.cell_ (i := 0) rfl
          have f0 := z8.frozen 0
          have y1 := z8.cell_ (i := 1) rfl
          have f1 := z8.frozen 1
          have y2 := z8.cell_ (i := 2) rfl
          have f2 := z8.frozen 2
          go_simp
          have hg := gb_set (gb_set (gb_set (gb_refl W28 (some g8)) 0 (.int .i64 s)) 1 (.slice A3 n e3)) 2 (.slice A4 m e4)
          have hz3 := (((z8.set 0 (.int .i64 s)).set 1 (.slice A3 n e3)).set 2 (.slice A4 m e4))
          replace o1 := o1.kept hg (.inr (Lib.ownBlock_ne o1 z8 (by decide)))
          replace o2 := o2.kept hg (.inr (Lib.ownBlock_ne o2 z8 (by decide)))
          replace o3 := o3.kept hg (.inr (Lib.ownBlock_ne o3 z8 (by decide)))
          replace o4 := o4.kept hg (.inr (Lib.ownBlock_ne o4 z8 (by decide)))
          replace z7 := blk_gb z7 hg (by omega)
          refine hK.out _ _ (hHeld.gb hg (by omega)) (fun hHeld => ?_)
          clear hK K hg y0 y1 y2 f0 f1 f2 z8
          generalize (((W28.setCell ⟨g8, 0, none⟩ (.int .i64 s)).setCell ⟨g8, 1, none⟩ (.slice A3 n e3)).setCell ⟨g8, 2, none⟩ (.slice A4 m e4)) = W29 at *
          have z8 : Blk W29 g8 62 #[.int .i64 s, .slice A3 n e3, .slice A4 m e4] := hz3
          clear hz3
          try simp only [Act.put, List.setIfInBounds_toArray, List.set_cons_zero, List.set_cons_succ]
          refine wpAnyH_done (by kernel_rfl) ?_ _
          exact ⟨rfl, g7, g8, A1, e1, A2, e2, A3, e3, A4, e4, rfl, ⟨hHeld, z7, z8, n7, n8, ne⟩, o1, o2, o3, o4⟩
    · go_simp
      have hb : Below W1.heap.size W1 (W1.alloc (.cells #[.int .i64 0, .slice none 0 0, .slice none 0 0] 62)) := (Below.refl _ _).alloc (Nat.le_refl _) _
      have z7 := Blk.new W1 62 #[.int .i64 0, .slice none 0 0, .slice none 0 0]
      have n7 : w.heap.size + 4 ≤ W1.heap.size := by have := hHeld.r5.lt; omega
      refine hK.out _ _ (hHeld.below hb) (fun hHeld => ?_)
      clear hK K hb
      generalize W1.alloc (.cells #[.int .i64 0, .slice none 0 0, .slice none 0 0] 62) = W30 at *
      generalize W1.heap.size = g7 at *
      try simp only [Act.put, List.setIfInBounds_toArray, List.set_cons_zero, List.set_cons_succ]
      refine wpAnyH_ready (rs := [1, 5]) (by kernel_rfl) (by simp) ?_
      refine (AllReadyH.cons rfl (fun K hK => ?_) (AllReadyH.cons rfl (fun K hK => ?_) AllReadyH.nil))
      · go_simp
        (with_reducible refine (cC _ hHeld.k.x).mono ?_)
        rintro e9 W31 ⟨A1, e1, A2, e2, rfl, o1, o2, hb⟩
        replace o1 := own_le o1 hHeld.k.x.size
        replace o2 := own_le o2 hHeld.k.x.size
        replace z7 := z7.below hb
        refine hK.out _ _ (hHeld.below hb) (fun hHeld => ?_)
        clear hK K hb
        try simp only [Act.put, List.setIfInBounds_toArray, List.set_cons_zero, List.set_cons_succ]
        refine wpAnyH_ready (rs := [3, 5]) (by kernel_rfl) (by simp) ?_
        refine (AllReadyH.cons rfl (fun K hK => ?_) (AllReadyH.cons rfl (fun K hK => ?_) AllReadyH.nil))
        · go_simp
          (with_reducible refine (cA _ hHeld.k.x).mono ?_)
          rintro e9 W32 ⟨A3, e3, A4, e4, rfl, o3, o4, hb⟩
          replace o3 := own_le o3 hHeld.k.x.size
          replace o4 := own_le o4 hHeld.k.x.size
          replace o1 := own_below o1 hb
          replace o2 := own_below o2 hb
          replace z7 := z7.below hb
          refine hK.out _ _ (hHeld.below hb) (fun hHeld => ?_)
          clear hK K hb
          try simp only [Act.put, List.setIfInBounds_toArray, List.set_cons_zero, List.set_cons_succ]
          refine wpAnyH_ready (rs := [5]) (by kernel_rfl) (by simp) ?_
          refine (AllReadyH.cons rfl (fun K hK => ?_) AllReadyH.nil)
          go_simp
          have hb : Below W32.heap.size W32 (W32.alloc (.cells #[.int .i64 0, .slice none 0 0, .slice none 0 0] 62)) := (Below.refl _ _).alloc (Nat.le_refl _) _
          have z8 := Blk.new W32 62 #[.int .i64 0, .slice none 0 0, .slice none 0 0]
          have n8 : w.heap.size + 4 ≤ W32.heap.size := by have := hHeld.r5.lt; omega
          have ne : W32.heap.size ≠ g7 := by have := z7.lt; omega
          replace o1 := own_below o1 hb
          replace o2 := own_below o2 hb
          replace o3 := own_below o3 hb
          replace o4 := own_below o4 hb
          replace z7 := z7.below hb
          refine hK.out _ _ (hHeld.below hb) (fun hHeld => ?_)
          clear hK K hb
          generalize W32.alloc (.cells #[.int .i64 0, .slice none 0 0, .slice none 0 0] 62) = W33 at *
          generalize W32.heap.size = g8 at *
          try simp only [Act.put, List.setIfInBounds_toArray, List.set_cons_zero, List.set_cons_succ]
          refine wpAnyH_ready (rs := [6]) (by kernel_rfl) (by simp) ?_
          refine AllReadyH.cons rfl (fun K hK => ?_) AllReadyH.nil
          have y0 := z7.cell_ (i := 0) rfl
          have f0 := z7.frozen 0
          have y1 := z7.cell_ (i := 1) rfl
          have f1 := z7.frozen 1
          have y2 := z7.cell_ (i := 2) rfl
          have f2 := z7.frozen 2
          go_simp
          have hg := gb_set (gb_set (gb_set (gb_refl W33 (some g7)) 0 (.int .i64 t)) 1 (.slice A1 p e1)) 2 (.slice A2 q e2)
          have hz3 := (((z7.set 0 (.int .i64 t)).set 1 (.slice A1 p e1)).set 2 (.slice A2 q e2))
          replace o1 := o1.kept hg (.inr (Lib.ownBlock_ne o1 z7 (by decide)))
          replace o2 := o2.kept hg (.inr (Lib.ownBlock_ne o2 z7 (by decide)))
          replace o3 := o3.kept hg (.inr (Lib.ownBlock_ne o3 z7 (by decide)))
          replace o4 := o4.kept hg (.inr (Lib.ownBlock_ne o4 z7 (by decide)))
          replace z8 := blk_gb z8 hg (by omega)
          refine hK.out _ _ (hHeld.gb hg (by omega)) (fun hHeld => ?_)
          clear hK K hg y0 y1 y2 f0 f1 f2 z7
          generalize (((W33.setCell ⟨g7, 0, none⟩ (.int .i64 t)).setCell ⟨g7, 1, none⟩ (.slice A1 p e1)).setCell ⟨g7, 2, none⟩ (.slice A2 q e2)) = W34 at *
          have z7 : Blk W34 g7 62 #[.int .i64 t, .slice A1 p e1, .slice A2 q e2] := hz3
          clear hz3
          try simp only [Act.put, List.setIfInBounds_toArray, List.set_cons_zero, List.set_cons_succ]
          refine wpAnyH_ready (rs := [7]) (by kernel_rfl) (by simp) ?_
          refine AllReadyH.cons rfl (fun K hK => ?_) AllReadyH.nil
          have y0 := z8.cell_ (i := 0) rfl
          have f0 := z8.frozen 0
          have y1 := z8.cell_ (i := 1) rfl
          have f1 := z8.frozen 1
          have y2 := z8.cell_ (i := 2) rfl
          have f2 := z8.frozen 2
          go_simp
          have hg := gb_set (gb_set (gb_set (gb_refl W34 (some g8)) 0 (.int .i64 s)) 1 (.slice A3 n e3)) 2 (.slice A4 m e4)
          have hz3 := (((z8.set 0 (.int .i64 s)).set 1 (.slice A3 n e3)).set 2 (.slice A4 m e4))
          replace o1 := o1.kept hg (.inr (Lib.ownBlock_ne o1 z8 (by decide)))
          replace o2 := o2.kept hg (.inr (Lib.ownBlock_ne o2 z8 (by decide)))
          replace o3 := o3.kept hg (.inr (Lib.ownBlock_ne o3 z8 (by decide)))
          replace o4 := o4.kept hg (.inr (Lib.ownBlock_ne o4 z8 (by decide)))
          replace z7 := blk_gb z7 hg (by omega)
          refine hK.out _ _ (hHeld.gb hg (by omega)) (fun hHeld => ?_)
          clear hK K hg y0 y1 y2 f0 f1 f2 z8
          generalize (((W34.setCell ⟨g8, 0, none⟩ (.int .i64 s)).setCell ⟨g8, 1, none⟩ (.slice A3 n e3)).setCell ⟨g8, 2, none⟩ (.slice A4 m e4)) = W35 at *
          have z8 : Blk W35 g8 62 #[.int .i64 s, .slice A3 n e3, .slice A4 m e4] := hz3
          clear hz3
          try simp only [Act.put, List.setIfInBounds_toArray, List.set_cons_zero, List.set_cons_succ]
          refine wpAnyH_done (by kernel_rfl) ?_ _
          exact ⟨rfl, g7, g8, A1, e1, A2, e2, A3, e3, A4, e4, rfl, ⟨hHeld, z7, z8, n7, n8, ne⟩, o1, o2, o3, o4⟩
        · go_simp
          have hb : Below W31.heap.size W31 (W31.alloc (.cells #[.int .i64 0, .slice none 0 0, .slice none 0 0] 62)) := (Below.refl _ _).alloc (Nat.le_refl _) _
          have z8 := Blk.new W31 62 #[.int .i64 0, .slice none 0 0, .slice none 0 0]
          have n8 : w.heap.size + 4 ≤ W31.heap.size := by have := hHeld.r5.lt; omega
          have ne : W31.heap.size ≠ g7 := by have := z7.lt; omega
          replace o1 := own_below o1 hb
          replace o2 := own_below o2 hb
          replace z7 := z7.below hb
          refine hK.out _ _ (hHeld.below hb) (fun hHeld => ?_)
          clear hK K hb
          generalize W31.alloc (.cells #[.int .i64 0, .slice none 0 0, .slice none 0 0] 62) = W36 at *
          generalize W31.heap.size = g8 at *
          try simp only [Act.put, List.setIfInBounds_toArray, List.set_cons_zero, List.set_cons_succ]
          refine wpAnyH_ready (rs := [3]) (by kernel_rfl) (by simp) ?_
          refine (AllReadyH.cons rfl (fun K hK => ?_) AllReadyH.nil)
          go_simp
          (with_reducible refine (cA _ hHeld.k.x).mono ?_)
          rintro e9 W37 ⟨A3, e3, A4, e4, rfl, o3, o4, hb⟩
          replace o3 := own_le o3 hHeld.k.x.size
          replace o4 := own_le o4 hHeld.k.x.size
          replace o1 := own_below o1 hb
          replace o2 := own_below o2 hb
          replace z7 := z7.below hb
          replace z8 := z8.below hb
          refine hK.out _ _ (hHeld.below hb) (fun hHeld => ?_)
          clear hK K hb
          try simp only [Act.put, List.setIfInBounds_toArray, List.set_cons_zero, List.set_cons_succ]
          refine wpAnyH_ready (rs := [6]) (by kernel_rfl) (by simp) ?_
          refine AllReadyH.cons rfl (fun K hK => ?_) AllReadyH.nil
          have y0 := z7.cell_ (i := 0) rfl
          have f0 := z7.frozen 0
          have y1 := z7.cell_ (i := 1) rfl
          have f1 := z7.frozen 1
          have y2 := z7.cell_ (i := 2) rfl
          have f2 := z7.frozen 2
          go_simp
          have hg := gb_set (gb_set (gb_set (gb_refl W37 (some g7)) 0 (.int .i64 t)) 1 (.slice A1 p e1)) 2 (.slice A2 q e2)
          have hz3 := (((z7.set 0 (.int .i64 t)).set 1 (.slice A1 p e1)).set 2 (.slice A2 q e2))
          replace o1 := o1.kept hg (.inr (Lib.ownBlock_ne o1 z7 (by decide)))
          replace o2 := o2.kept hg (.inr (Lib.ownBlock_ne o2 z7 (by decide)))
          replace o3 := o3.kept hg (.inr (Lib.ownBlock_ne o3 z7 (by decide)))
          replace o4 := o4.kept hg (.inr (Lib.ownBlock_ne o4 z7 (by decide)))
          replace z8 := blk_gb z8 hg (by omega)
          refine hK.out _ _ (hHeld.gb hg (by omega)) (fun hHeld => ?_)
          clear hK K hg y0 y1 y2 f0 f1 f2 z7
          generalize (((W37.setCell ⟨g7, 0, none⟩ (.int .i64 t)).setCell ⟨g7, 1, none⟩ (.slice A1 p e1)).setCell ⟨g7, 2, none⟩ (.slice A2 q e2)) = W38 at *
          have z7 : Blk W38 g7 62 #[.int .i64 t, .slice A1 p e1, .slice A2 q e2] := hz3
          clear hz3
          try simp only [Act.put, List.setIfInBounds_toArray, List.set_cons_zero, List.set_cons_succ]
          refine wpAnyH_ready (rs := [7]) (by kernel_rfl) (by simp) ?_
          refine AllReadyH.cons rfl (fun K hK => ?_) AllReadyH.nil
          have y0 := z8.cell_ (i := 0) rfl
          have f0 := z8.frozen 0
          have y1 := z8.cell_ (i := 1) rfl
          have f1 := z8.frozen 1
          have y2 := z8.cell_ (i := 2) rfl
          have f2 := z8.frozen 2
          go_simp
          have hg := gb_set (gb_set (gb_set (gb_refl W38 (some g8)) 0 (.int .i64 s)) 1 (.slice A3 n e3)) 2 (.slice A4 m e4)
          have hz3 := (((z8.set 0 (.int .i64 s)).set 1 (.slice A3 n e3)).set 2 (.slice A4 m e4))
          replace o1 := o1.kept hg (.inr (Lib.ownBlock_ne o1 z8 (by decide)))
          replace o2 := o2.kept hg (.inr (Lib.ownBlock_ne o2 z8 (by decide)))
          replace o3 := o3.kept hg (.inr (Lib.ownBlock_ne o3 z8 (by decide)))
          replace o4 := o4.kept hg (.inr (Lib.ownBlock_ne o4 z8 (by decide)))
          replace z7 := blk_gb z7 hg (by omega)
          refine hK.out _ _ (hHeld.gb hg (by omega)) (fun hHeld => ?_)
          clear hK K hg y0 y1 y2 f0 f1 f2 z8
          generalize (((W38.setCell ⟨g8, 0, none⟩ (.int .i64 s)).setCell ⟨g8, 1, none⟩ (.slice A3 n e3)).setCell ⟨g8, 2, none⟩ (.slice A4 m e4)) = W39 at *
          have z8 : Blk W39 g8 62 #[.int .i64 s, .slice A3 n e3, .slice A4 m e4] := hz3
          clear hz3
          try simp only [Act.put, List.setIfInBounds_toArray, List.set_cons_zero, List.set_cons_succ]
          refine wpAnyH_done (by kernel_rfl) ?_ _
          exact ⟨rfl, g7, g8, A1, e1, A2, e2, A3, e3, A4, e4, rfl, ⟨hHeld, z7, z8, n7, n8, ne⟩, o1, o2, o3, o4⟩
      · go_simp
        have hb : Below W30.heap.size W30 (W30.alloc (.cells #[.int .i64 0, .slice none 0 0, .slice none 0 0] 62)) := (Below.refl _ _).alloc (Nat.le_refl _) _
        have z8 := Blk.new W30 62 #[.int .i64 0, .slice none 0 0, .slice none 0 0]
        have n8 : w.heap.size + 4 ≤ W30.heap.size := by have := hHeld.r5.lt; omega
        have ne : W30.heap.size ≠ g7 := by have := z7.lt; omega
        replace z7 := z7.below hb
        refine hK.out _ _ (hHeld.below hb) (fun hHeld => ?_)
        clear hK K hb
        generalize W30.alloc (.cells #[.int .i64 0, .slice none 0 0, .slice none 0 0] 62) = W40 at *
        generalize W30.heap.size = g8 at *
        try simp only [Act.put, List.setIfInBounds_toArray, List.set_cons_zero, List.set_cons_succ]
        refine wpAnyH_ready (rs := [1]) (by kernel_rfl) (by simp) ?_
        refine (AllReadyH.cons rfl (fun K hK => ?_) AllReadyH.nil)
        go_simp
        (with_reducible refine (cC _ hHeld.k.x).mono ?_)
        rintro e9 W41 ⟨A1, e1, A2, e2, rfl, o1, o2, hb⟩
        replace o1 := own_le o1 hHeld.k.x.size
        replace o2 := own_le o2 hHeld.k.x.size
        replace z7 := z7.below hb
        replace z8 := z8.below hb
        refine hK.out _ _ (hHeld.below hb) (fun hHeld => ?_)
        clear hK K hb
        try simp only [Act.put, List.setIfInBounds_toArray, List.set_cons_zero, List.set_cons_succ]
        refine wpAnyH_ready (rs := [3]) (by kernel_rfl) (by simp) ?_
        refine (AllReadyH.cons rfl (fun K hK => ?_) AllReadyH.nil)
        go_simp
        (with_reducible refine (cA _ hHeld.k.x).mono ?_)
        rintro e9 W42 ⟨A3, e3, A4, e4, rfl, o3, o4, hb⟩
        replace o3 := own_le o3 hHeld.k.x.size
        replace o4 := own_le o4 hHeld.k.x.size
        replace o1 := own_below o1 hb
        replace o2 := own_below o2 hb
        replace z7 := z7.below hb
        replace z8 := z8.below hb
        refine hK.out _ _ (hHeld.below hb) (fun hHeld => ?_)
        clear hK K hb
        try simp only [Act.put, List.setIfInBounds_toArray, List.set_cons_zero, List.set_cons_succ]
        refine wpAnyH_ready (rs := [6]) (by kernel_rfl) (by simp) ?_
        refine AllReadyH.cons rfl (fun K hK => ?_) AllReadyH.nil
        have y0 := z7.cell_ (i := 0) rfl
        have f0 := z7.frozen 0
        have y1 := z7.cell_ (i := 1) rfl
        have f1 := z7.frozen 1
        have y2 := z7.cell_ (i := 2) rfl
        have f2 := z7.frozen 2
        go_simp
        have hg := gb_set (gb_set (gb_set (gb_refl W42 (some g7)) 0 (.int .i64 t)) 1 (.slice A1 p e1)) 2 (.slice A2 q e2)
        have hz3 := (((z7.set 0 (.int .i64 t)).set 1 (.slice A1 p e1)).set 2 (.slice A2 q e2))
        replace o1 := o1.kept hg (.inr (Lib.ownBlock_ne o1 z7 (by decide)))
        replace o2 := o2.kept hg (.inr (Lib.ownBlock_ne o2 z7 (by decide)))
        replace o3 := o3.kept hg (.inr (Lib.ownBlock_ne o3 z7 (by decide)))
        replace o4 := o4.kept hg (.inr (Lib.ownBlock_ne o4 z7 (by decide)))
        replace z8 := blk_gb z8 hg (by omega)
        refine hK.out _ _ (hHeld.gb hg (by omega)) (fun hHeld => ?_)
        clear hK K hg y0 y1 y2 f0 f1 f2 z7
        generalize (((W42.setCell ⟨g7, 0, none⟩ (.int .i64 t)).setCell ⟨g7, 1, none⟩ (.slice A1 p e1)).setCell ⟨g7, 2, none⟩ (.slice A2 q e2)) = W43 at *
        have z7 : Blk W43 g7 62 #[.int .i64 t, .slice A1 p e1, .slice A2 q e2] := hz3
        clear hz3
        try simp only [Act.put, List.setIfInBounds_toArray, List.set_cons_zero, List.set_cons_succ]
        refine wpAnyH_ready (rs := [7]) (by kernel_rfl) (by simp) ?_
        refine AllReadyH.cons rfl (fun K hK => ?_) AllReadyH.nil
        have y0 := z8.cell_ (i := 0) rfl
        have f0 := z8.frozen 0
        have y1 := z8.cell_ (i := 1) rfl
        have f1 := z8.frozen 1
        have y2 := z8.cell_ (i := 2) rfl
        have f2 := z8.frozen 2
        go_simp
        have hg := gb_set (gb_set (gb_set (gb_refl W43 (some g8)) 0 (.int .i64 s)) 1 (.slice A3 n e3)) 2 (.slice A4 m e4)
        have hz3 := (((z8.set 0 (.int .i64 s)).set 1 (.slice A3 n e3)).set 2 (.slice A4 m e4))
        replace o1 := o1.kept hg (.inr (Lib.ownBlock_ne o1 z8 (by decide)))
        replace o2 := o2.kept hg (.inr (Lib.ownBlock_ne o2 z8 (by decide)))
        replace o3 := o3.kept hg (.inr (Lib.ownBlock_ne o3 z8 (by decide)))
        replace o4 := o4.kept hg (.inr (Lib.ownBlock_ne o4 z8 (by decide)))
        replace z7 := blk_gb z7 hg (by omega)
        refine hK.out _ _ (hHeld.gb hg (by omega)) (fun hHeld => ?_)
        clear hK K hg y0 y1 y2 f0 f1 f2 z8
        generalize (((W43.setCell ⟨g8, 0, none⟩ (.int .i64 s)).setCell ⟨g8, 1, none⟩ (.slice A3 n e3)).setCell ⟨g8, 2, none⟩ (.slice A4 m e4)) = W44 at *
        have z8 : Blk W44 g8 62 #[.int .i64 s, .slice A3 n e3, .slice A4 m e4] := hz3
        clear hz3
        try simp only [Act.put, List.setIfInBounds_toArray, List.set_cons_zero, List.set_cons_succ]
        refine wpAnyH_done (by kernel_rfl) ?_ _
        exact ⟨rfl, g7, g8, A1, e1, A2, e2, A3, e3, A4, e4, rfl, ⟨hHeld, z7, z8, n7, n8, ne⟩, o1, o2, o3, o4⟩
    · go_simp
      have hb : Below W1.heap.size W1 (W1.alloc (.cells #[.int .i64 0, .slice none 0 0, .slice none 0 0] 62)) := (Below.refl _ _).alloc (Nat.le_refl _) _
      have z8 := Blk.new W1 62 #[.int .i64 0, .slice none 0 0, .slice none 0 0]
      have n8 : w.heap.size + 4 ≤ W1.heap.size := by have := hHeld.r5.lt; omega
      refine hK.out _ _ (hHeld.below hb) (fun hHeld => ?_)
      clear hK K hb
      generalize W1.alloc (.cells #[.int .i64 0, .slice none 0 0, .slice none 0 0] 62) = W45 at *
      generalize W1.heap.size = g8 at *
      try simp only [Act.put, List.setIfInBounds_toArray, List.set_cons_zero, List.set_cons_succ]
      refine wpAnyH_ready (rs := [1, 4]) (by kernel_rfl) (by simp) ?_
      refine (AllReadyH.cons rfl (fun K hK => ?_) (AllReadyH.cons rfl (fun K hK => ?_) AllReadyH.nil))
      · go_simp
        (with_reducible refine (cC _ hHeld.k.x).mono ?_)
        rintro e9 W46 ⟨A1, e1, A2, e2, rfl, o1, o2, hb⟩
        replace o1 := own_le o1 hHeld.k.x.size
        replace o2 := own_le o2 hHeld.k.x.size
        replace z8 := z8.below hb
        refine hK.out _ _ (hHeld.below hb) (fun hHeld => ?_)
        clear hK K hb
        try simp only [Act.put, List.setIfInBounds_toArray, List.set_cons_zero, List.set_cons_succ]
        refine wpAnyH_ready (rs := [3, 4]) (by kernel_rfl) (by simp) ?_
        refine (AllReadyH.cons rfl (fun K hK => ?_) (AllReadyH.cons rfl (fun K hK => ?_) AllReadyH.nil))
        · go_simp
          (with_reducible refine (cA _ hHeld.k.x).mono ?_)
          rintro e9 W47 ⟨A3, e3, A4, e4, rfl, o3, o4, hb⟩
          replace o3 := own_le o3 hHeld.k.x.size
          replace o4 := own_le o4 hHeld.k.x.size
          replace o1 := own_below o1 hb
          replace o2 := own_below o2 hb
          replace z8 := z8.below hb
          refine hK.out _ _ (hHeld.below hb) (fun hHeld => ?_)
          clear hK K hb
          try simp only [Act.put, List.setIfInBounds_toArray, List.set_cons_zero, List.set_cons_succ]
          refine wpAnyH_ready (rs := [4]) (by kernel_rfl) (by simp) ?_
          refine (AllReadyH.cons rfl (fun K hK => ?_) AllReadyH.nil)
          go_simp
          have hb : Below W47.heap.size W47 (W47.alloc (.cells #[.int .i64 0, .slice none 0 0, .slice none 0 0] 62)) := (Below.refl _ _).alloc (Nat.le_refl _) _
          have z7 := Blk.new W47 62 #[.int .i64 0, .slice none 0 0, .slice none 0 0]
          have n7 : w.heap.size + 4 ≤ W47.heap.size := by have := hHeld.r5.lt; omega
          have ne : g8 ≠ W47.heap.size := by have := z8.lt; omega
          replace o1 := own_below o1 hb
          replace o2 := own_below o2 hb
          replace o3 := own_below o3 hb
          replace o4 := own_below o4 hb
          replace z8 := z8.below hb
          refine hK.out _ _ (hHeld.below hb) (fun hHeld => ?_)
          clear hK K hb
          generalize W47.alloc (.cells #[.int .i64 0, .slice none 0 0, .slice none 0 0] 62) = W48 at *
          generalize W47.heap.size = g7 at *
          try simp only [Act.put, List.setIfInBounds_toArray, List.set_cons_zero, List.set_cons_succ]
          refine wpAnyH_ready (rs := [6]) (by kernel_rfl) (by simp) ?_
          refine AllReadyH.cons rfl (fun K hK => ?_) AllReadyH.nil
          have y0 := z7.cell_ (i := 0) rfl
          have f0 := z7.frozen 0
          have y1 := z7.cell_ (i := 1) rfl
          have f1 := z7.frozen 1
          have y2 := z7.cell_ (i := 2) rfl
          have f2 := z7.frozen 2
          go_simp
          have hg := gb_set (gb_set (gb_set (gb_refl W48 (some g7)) 0 (.int .i64 t)) 1 (.slice A1 p e1)) 2 (.slice A2 q e2)
          have hz3 := (((z7.set 0 (.int .i64 t)).set 1 (.slice A1 p e1)).set 2 (.slice A2 q e2))
          replace o1 := o1.kept hg (.inr (Lib.ownBlock_ne o1 z7 (by decide)))
          replace o2 := o2.kept hg (.inr (Lib.ownBlock_ne o2 z7 (by decide)))
          replace o3 := o3.kept hg (.inr (Lib.ownBlock_ne o3 z7 (by decide)))
          replace o4 := o4.kept hg (.inr (Lib.ownBlock_ne o4 z7 (by decide)))
          replace z8 := blk_gb z8 hg (by omega)
          refine hK.out _ _ (hHeld.gb hg (by omega)) (fun hHeld => ?_)
          clear hK K hg y0 y1 y2 f0 f1 f2 z7
          generalize (((W48.setCell ⟨g7, 0, none⟩ (.int .i64 t)).setCell ⟨g7, 1, none⟩ (.slice A1 p e1)).setCell ⟨g7, 2, none⟩ (.slice A2 q e2)) = W49 at *
          have z7 : Blk W49 g7 62 #[.int .i64 t, .slice A1 p e1, .slice A2 q e2] := hz3
          clear hz3
          try simp only [Act.put, List.setIfInBounds_toArray, List.set_cons_zero, List.set_cons_succ]
          refine wpAnyH_ready (rs := [7]) (by kernel_rfl) (by simp) ?_
          refine AllReadyH.cons rfl (fun K hK => ?_) AllReadyH.nil
          have y0 := z8.cell_ (i := 0) rfl
          have f0 := z8.frozen 0
          have y1 := z8.cell_ (i := 1) rfl
          have f1 := z8.frozen 1
          have y2 := z8.cell_ (i := 2) rfl
          have f2 := z8.frozen 2
          go_simp
          have hg := gb_set (gb_set (gb_set (gb_refl W49 (some g8)) 0 (.int .i64 s)) 1 (.slice A3 n e3)) 2 (.slice A4 m e4)
          have hz3 := (((z8.set 0 (.int .i64 s)).set 1 (.slice A3 n e3)).set 2 (.slice A4 m e4))
          replace o1 := o1.kept hg (.inr (Lib.ownBlock_ne o1 z8 (by decide)))
          replace o2 := o2.kept hg (.inr (Lib.ownBlock_ne o2 z8 (by decide)))
          replace o3 := o3.kept hg (.inr (Lib.ownBlock_ne o3 z8 (by decide)))
          replace o4 := o4.kept hg (.inr (Lib.ownBlock_ne o4 z8 (by decide)))
          replace z7 := blk_gb z7 hg (by omega)
          refine hK.out _ _ (hHeld.gb hg (by omega)) (fun hHeld => ?_)
          clear hK K hg y0 y1 y2 f0 f1 f2 z8
          generalize (((W49.setCell ⟨g8, 0, none⟩ (.int .i64 s)).setCell ⟨g8, 1, none⟩ (.slice A3 n e3)).setCell ⟨g8, 2, none⟩ (.slice A4 m e4)) = W50 at *
          have z8 : Blk W50 g8 62 #[.int .i64 s, .slice A3 n e3, .slice A4 m e4] := hz3
          clear hz3
          try simp only [Act.put, List.setIfInBounds_toArray, List.set_cons_zero, List.set_cons_succ]
          refine wpAnyH_done (by kernel_rfl) ?_ _
          exact ⟨rfl, g7, g8, A1, e1, A2, e2, A3, e3, A4, e4, rfl, ⟨hHeld, z7, z8, n7, n8, ne⟩, o1, o2, o3, o4⟩
        · go_simp
          have hb : Below W46.heap.size W46 (W46.alloc (.cells #[.int .i64 0, .slice none 0 0, .slice none 0 0] 62)) := (Below.refl _ _).alloc (Nat.le_refl _) _
          have z7 := Blk.new W46 62 #[.int .i64 0, .slice none 0 0, .slice none 0 0]
          have n7 : w.heap.size + 4 ≤ W46.heap.size := by have := hHeld.r5.lt; omega
          have ne : g8 ≠ W46.heap.size := by have := z8.lt; omega
          replace o1 := own_below o1 hb
          replace o2 := own_below o2 hb
          replace z8 := z8.below hb
          refine hK.out _ _ (hHeld.below hb) (fun hHeld => ?_)
          clear hK K hb
          generalize W46.alloc (.cells #[.int .i64 0, .slice none 0 0, .slice none 0 0] 62) = W51 at *
          generalize W46.heap.size = g7 at *
          try simp only [Act.put, List.setIfInBounds_toArray, List.set_cons_zero, List.set_cons_succ]
          refine wpAnyH_ready (rs := [3]) (by kernel_rfl) (by simp) ?_
          refine (AllReadyH.cons rfl (fun K hK => ?_) AllReadyH.nil)
          go_simp
          (with_reducible refine (cA _ hHeld.k.x).mono ?_)
          rintro e9 W52 ⟨A3, e3, A4, e4, rfl, o3, o4, hb⟩
          replace o3 := own_le o3 hHeld.k.x.size
          replace o4 := own_le o4 hHeld.k.x.size
          replace o1 := own_below o1 hb
          replace o2 := own_below o2 hb
          replace z7 := z7.below hb
          replace z8 := z8.below hb
          refine hK.out _ _ (hHeld.below hb) (fun hHeld => ?_)
          clear hK K hb
          try simp only [Act.put, List.setIfInBounds_toArray, List.set_cons_zero, List.set_cons_succ]
          refine wpAnyH_ready (rs := [6]) (by kernel_rfl) (by simp) ?_
          refine AllReadyH.cons rfl (fun K hK => ?_) AllReadyH.nil
          have y0 := z7.cell_ (i := 0) rfl
          have f0 := z7.frozen 0
          have y1 := z7.cell_ (i := 1) rfl
          have f1 := z7.frozen 1
          have y2 := z7.cell_ (i := 2) rfl
          have f2 := z7.frozen 2
          go_simp
          have hg := gb_set (gb_set (gb_set (gb_refl W52 (some g7)) 0 (.int .i64 t)) 1 (.slice A1 p e1)) 2 (.slice A2 q e2)
          have hz3 := (((z7.set 0 (.int .i64 t)).set 1 (.slice A1 p e1)).set 2 (.slice A2 q e2))
          replace o1 := o1.kept hg (.inr (Lib.ownBlock_ne o1 z7 (by decide)))
          replace o2 := o2.kept hg (.inr (Lib.ownBlock_ne o2 z7 (by decide)))
          replace o3 := o3.kept hg (.inr (Lib.ownBlock_ne o3 z7 (by decide)))
          replace o4 := o4.kept hg (.inr (Lib.ownBlock_ne o4 z7 (by decide)))
          replace z8 := blk_gb z8 hg (by omega)
          refine hK.out _ _ (hHeld.gb hg (by omega)) (fun hHeld => ?_)
          clear hK K hg y0 y1 y2 f0 f1 f2 z7
          generalize (((W52.setCell ⟨g7, 0, none⟩ (.int .i64 t)).setCell ⟨g7, 1, none⟩ (.slice A1 p e1)).setCell ⟨g7, 2, none⟩ (.slice A2 q e2)) = W53 at *
          have z7 : Blk W53 g7 62 #[.int .i64 t, .slice A1 p e1, .slice A2 q e2] := hz3
          clear hz3
          try simp only [Act.put, List.setIfInBounds_toArray, List.set_cons_zero, List.set_cons_succ]
          refine wpAnyH_ready (rs := [7]) (by kernel_rfl) (by simp) ?_
          refine AllReadyH.cons rfl (fun K hK => ?_) AllReadyH.nil
          have y0 := z8.cell_ (i := 0) rfl
          have f0 := z8.frozen 0
          have y1 := z8.cell_ (i := 1) rfl
          have f1 := z8.frozen 1
          have y2 := z8.cell_ (i := 2) rfl
          have f2 := z8.frozen 2
          go_simp
          have hg := gb_set (gb_set (gb_set (gb_refl W53 (some g8)) 0 (.int .i64 s)) 1 (.slice A3 n e3)) 2 (.slice A4 m e4)
          have hz3 := (((z8.set 0 (.int .i64 s)).set 1 (.slice A3 n e3)).set 2 (.slice A4 m e4))
          replace o1 := o1.kept hg (.inr (Lib.ownBlock_ne o1 z8 (by decide)))
          replace o2 := o2.kept hg (.inr (Lib.ownBlock_ne o2 z8 (by decide)))
          replace o3 := o3.kept hg (.inr (Lib.ownBlock_ne o3 z8 (by decide)))
          replace o4 := o4.kept hg (.inr (Lib.ownBlock_ne o4 z8 (by decide)))
          replace z7 := blk_gb z7 hg (by omega)
          refine hK.out _ _ (hHeld.gb hg (by omega)) (fun hHeld => ?_)
          clear hK K hg y0 y1 y2 f0 f1 f2 z8
          generalize (((W53.setCell ⟨g8, 0, none⟩ (.int .i64 s)).setCell ⟨g8, 1, none⟩ (.slice A3 n e3)).setCell ⟨g8, 2, none⟩ (.slice A4 m e4)) = W54 at *
          have z8 : Blk W54 g8 62 #[.int .i64 s, .slice A3 n e3, .slice A4 m e4] := hz3
          clear hz3
          try simp only [Act.put, List.setIfInBounds_toArray, List.set_cons_zero, List.set_cons_succ]
          refine wpAnyH_done (by kernel_rfl) ?_ _
          exact ⟨rfl, g7, g8, A1, e1, A2, e2, A3, e3, A4, e4, rfl, ⟨hHeld, z7, z8, n7, n8, ne⟩, o1, o2, o3, o4⟩
      · go_simp
        have hb : Below W45.heap.size W45 (W45.alloc (.cells #[.int .i64 0, .slice none 0 0, .slice none 0 0] 62)) := (Below.refl _ _).alloc (Nat.le_refl _) _
        have z7 := Blk.new W45 62 #[.int .i64 0, .slice none 0 0, .slice none 0 0]
        have n7 : w.heap.size + 4 ≤ W45.heap.size := by have := hHeld.r5.lt; omega
        have ne : g8 ≠ W45.heap.size := by have := z8.lt; omega
        replace z8 := z8.below hb
        refine hK.out _ _ (hHeld.below hb) (fun hHeld => ?_)
        clear hK K hb
        generalize W45.alloc (.cells #[.int .i64 0, .slice none 0 0, .slice none 0 0] 62) = W55 at *
        generalize W45.heap.size = g7 at *
        try simp only [Act.put, List.setIfInBounds_toArray, List.set_cons_zero, List.set_cons_succ]
        refine wpAnyH_ready (rs := [1]) (by kernel_rfl) (by simp) ?_
        refine (AllReadyH.cons rfl (fun K hK => ?_) AllReadyH.nil)
        go_simp
        (with_reducible refine (cC _ hHeld.k.x).mono ?_)
        rintro e9 W56 ⟨A1, e1, A2, e2, rfl, o1, o2, hb⟩
        replace o1 := own_le o1 hHeld.k.x.size
        replace o2 := own_le o2 hHeld.k.x.size
        replace z7 := z7.below hb
        replace z8 := z8.below hb
        refine hK.out _ _ (hHeld.below hb) (fun hHeld => ?_)
        clear hK K hb
        try simp only [Act.put, List.setIfInBounds_toArray, List.set_cons_zero, List.set_cons_succ]
        refine wpAnyH_ready (rs := [3]) (by kernel_rfl) (by simp) ?_
        refine (AllReadyH.cons rfl (fun K hK => ?_) AllReadyH.nil)
        go_simp
        (with_reducible refine (cA _ hHeld.k.x).mono ?_)
        rintro e9 W57 ⟨A3, e3, A4, e4, rfl, o3, o4, hb⟩
        replace o3 := own_le o3 hHeld.k.x.size
        replace o4 := own_le o4 hHeld.k.x.size
        replace o1 := own_below o1 hb
        replace o2 := own_below o2 hb
        replace z7 := z7.below hb
        replace z8 := z8.below hb
        refine hK.out _ _ (hHeld.below hb) (fun hHeld => ?_)
        clear hK K hb
        try simp only [Act.put, List.setIfInBounds_toArray, List.set_cons_zero, List.set_cons_succ]
        refine wpAnyH_ready (rs := [6]) (by kernel_rfl) (by simp) ?_
        refine AllReadyH.cons rfl (fun K hK => ?_) AllReadyH.nil
        have y0 := z7.cell_ (i := 0) rfl
        have f0 := z7.frozen 0
        have y1 := z7.cell_ (i := 1) rfl
        have f1 := z7.frozen 1
        have y2 := z7.cell_ (i := 2) rfl
        have f2 := z7.frozen 2
        go_simp
        have hg := gb_set (gb_set (gb_set (gb_refl W57 (some g7)) 0 (.int .i64 t)) 1 (.slice A1 p e1)) 2 (.slice A2 q e2)
        have hz3 := (((z7.set 0 (.int .i64 t)).set 1 (.slice A1 p e1)).set 2 (.slice A2 q e2))
        replace o1 := o1.kept hg (.inr (Lib.ownBlock_ne o1 z7 (by decide)))
        replace o2 := o2.kept hg (.inr (Lib.ownBlock_ne o2 z7 (by decide)))
        replace o3 := o3.kept hg (.inr (Lib.ownBlock_ne o3 z7 (by decide)))
        replace o4 := o4.kept hg (.inr (Lib.ownBlock_ne o4 z7 (by decide)))
        replace z8 := blk_gb z8 hg (by omega)
        refine hK.out _ _ (hHeld.gb hg (by omega)) (fun hHeld => ?_)
        clear hK K hg y0 y1 y2 f0 f1 f2 z7
        generalize (((W57.setCell ⟨g7, 0, none⟩ (.int .i64 t)).setCell ⟨g7, 1, none⟩ (.slice A1 p e1)).setCell ⟨g7, 2, none⟩ (.slice A2 q e2)) = W58 at *
        have z7 : Blk W58 g7 62 #[.int .i64 t, .slice A1 p e1, .slice A2 q e2] := hz3
        clear hz3
        try simp only [Act.put, List.setIfInBounds_toArray, List.set_cons_zero, List.set_cons_succ]
        refine wpAnyH_ready (rs := [7]) (by kernel_rfl) (by simp) ?_
        refine AllReadyH.cons rfl (fun K hK => ?_) AllReadyH.nil
        have y0 := z8.cell_ (i := 0) rfl
        have f0 := z8.frozen 0
        have y1 := z8.cell_ (i := 1) rfl
        have f1 := z8.frozen 1
        have y2 := z8.cell_ (i := 2) rfl
        have f2 := z8.frozen 2
        go_simp
        have hg := gb_set (gb_set (gb_set (gb_refl W58 (some g8)) 0 (.int .i64 s)) 1 (.slice A3 n e3)) 2 (.slice A4 m e4)
        have hz3 := (((z8.set 0 (.int .i64 s)).set 1 (.slice A3 n e3)).set 2 (.slice A4 m e4))
        replace o1 := o1.kept hg (.inr (Lib.ownBlock_ne o1 z8 (by decide)))
        replace o2 := o2.kept hg (.inr (Lib.ownBlock_ne o2 z8 (by decide)))
        replace o3 := o3.kept hg (.inr (Lib.ownBlock_ne o3 z8 (by decide)))
        replace o4 := o4.kept hg (.inr (Lib.ownBlock_ne o4 z8 (by decide)))
        replace z7 := blk_gb z7 hg (by omega)
        refine hK.out _ _ (hHeld.gb hg (by omega)) (fun hHeld => ?_)
        clear hK K hg y0 y1 y2 f0 f1 f2 z8
        generalize (((W58.setCell ⟨g8, 0, none⟩ (.int .i64 s)).setCell ⟨g8, 1, none⟩ (.slice A3 n e3)).setCell ⟨g8, 2, none⟩ (.slice A4 m e4)) = W59 at *
        have z8 : Blk W59 g8 62 #[.int .i64 s, .slice A3 n e3, .slice A4 m e4] := hz3
        clear hz3
        try simp only [Act.put, List.setIfInBounds_toArray, List.set_cons_zero, List.set_cons_succ]
        refine wpAnyH_done (by kernel_rfl) ?_ _
        exact ⟨rfl, g7, g8, A1, e1, A2, e2, A3, e3, A4, e4, rfl, ⟨hHeld, z7, z8, n7, n8, ne⟩, o1, o2, o3, o4⟩
  case cont =>
    rintro x a' W ⟨rfl, g7, g8, A1, e1, A2, e2, A3, e3, A4, e4, rfl, hR, o1, o2, o3, o4⟩
    obtain ⟨hS, z7, z8, n7, n8, ne⟩ := hR
    clear cP cA cC hh c0 c1 c2 d0 d1 d2
    have c0 := hS.k.a.c0
    have d0 := hS.k.b.c0
    by_cases h1 : t < s
    · have h1 := h1
      obtain ⟨x1, hx1⟩ : ∃ x1, wrap64 ((q : Int) - p) = x1 := ⟨_, rfl⟩
      rw [hx1] at hy
      have hy2 : IntKind.i64.wrap (s + x1) = y := by rw [IntKind.wrap_i64]; unfold wrap64 at hy; exact hy
      go_wp2
      clear c0 d0
      refine wp_region_held_drew (S := fun W => Sw w W 62 s (.slice A n c) (.slice B m d) t (.slice C p f) (.slice D q g) #[.int .i64 0, .slice none 0 0, .slice none 0 0] #[.int .i64 0, .slice none 0 0, .slice none 0 0]) (by kernel_rfl) ?_ (fun hHeld => ?_)
      · exact hS.below (below_drew10 W)
      replace hS := hS.below (below_drew10 W)
      replace z7 := z7.below (below_drew10 W)
      replace z8 := z8.below (below_drew10 W)
      replace o1 := own_below o1 (below_drew10 W)
      replace o2 := own_below o2 (below_drew10 W)
      replace o3 := own_below o3 (below_drew10 W)
      replace o4 := own_below o4 (below_drew10 W)
      generalize W.drew = V1 at *
      refine' wpAnyH_take (i := 0) (v := .pointer (some ⟨g8, 0, none⟩)) rfl (by kernel_rfl) (by kernel_rfl) (by kernel_rfl) (fun _ _ _ h => h) (Or.inl ⟨by rfl, fun w' hw' => by go_simp⟩) hHeld ?_
      try simp only [Act.put, List.setIfInBounds_toArray, List.set_cons_zero, List.set_cons_succ]
      refine' wpAnyH_take (i := 2) (v := .agg #[.int .i64 t, .slice C p f, .slice D q g]) rfl (by kernel_rfl) (by kernel_rfl) (by kernel_rfl) (fun _ _ _ h => h) (Or.inl ⟨by rfl, fun w' hw' => by have h0 := hw'.k.b.c0; have h1 := hw'.k.b.c1; have h2 := hw'.k.b.c2; go_simp⟩) hHeld ?_
      try simp only [Act.put, List.setIfInBounds_toArray, List.set_cons_zero, List.set_cons_succ]
      refine wpAnyH_ready (rs := [1, 3]) (by kernel_rfl) (by simp) ?_
      refine (AllReadyH.cons rfl (fun K hK => ?_) (AllReadyH.cons rfl (fun K hK => ?_) AllReadyH.nil))
      · have y0 := z8.cell_ (i := 0) rfl
        go_simp
        refine hK.out _ _ hHeld (fun hHeld => ?_)
        clear hK K y0
        try simp only [Act.put, List.setIfInBounds_toArray, List.set_cons_zero, List.set_cons_succ]
        refine wpAnyH_ready (rs := [3]) (by kernel_rfl) (by simp) ?_
        refine (AllReadyH.cons rfl (fun K hK => ?_) AllReadyH.nil)
        go_simp
        (with_reducible refine (added_any t C p f D q g x1 hx1 _).mono ?_)
        rintro e9 V2 ⟨rfl, hb⟩
        replace z7 := z7.below hb
        replace z8 := z8.below hb
        replace hS := hS.below hb
        replace o1 := own_below o1 hb
        replace o2 := own_below o2 hb
        replace o3 := own_below o3 hb
        replace o4 := own_below o4 hb
        refine hK.out _ _ (hHeld.below hb) (fun hHeld => ?_)
        clear hK K hb
        try simp only [Act.put, List.setIfInBounds_toArray, List.set_cons_zero, List.set_cons_succ]
        refine' wpAnyH_take (i := 4) (v := .int .i64 y) rfl (by kernel_rfl) (by kernel_rfl) (by kernel_rfl) (fun _ _ _ h => h) (Or.inl ⟨by rfl, fun w' hw' => by go_simp⟩) hHeld ?_
        try simp only [Act.put, List.setIfInBounds_toArray, List.set_cons_zero, List.set_cons_succ]
        refine' wpAnyH_take (i := 5) (v := .pointer (some ⟨g8, 0, none⟩)) rfl (by kernel_rfl) (by kernel_rfl) (by kernel_rfl) (fun _ _ _ h => h) (Or.inl ⟨by rfl, fun w' hw' => by go_simp⟩) hHeld ?_
        try simp only [Act.put, List.setIfInBounds_toArray, List.set_cons_zero, List.set_cons_succ]
        refine wpAnyH_ready (rs := [6]) (by kernel_rfl) (by simp) ?_
        refine AllReadyH.cons rfl (fun K hK => ?_) AllReadyH.nil
        have y0 := z8.cell_ (i := 0) rfl
        have f0 := z8.frozen 0
        go_simp
        have hg := gb_set (gb_refl V2 (some g8)) 0 (.int .i64 y)
        replace o1 := o1.kept hg (.inr (Lib.ownBlock_ne o1 z8 (by decide)))
        replace o2 := o2.kept hg (.inr (Lib.ownBlock_ne o2 z8 (by decide)))
        replace o3 := o3.kept hg (.inr (Lib.ownBlock_ne o3 z8 (by decide)))
        replace o4 := o4.kept hg (.inr (Lib.ownBlock_ne o4 z8 (by decide)))
        replace hS := hS.gb hg (by omega)
        replace z7 := blk_gb z7 hg (by omega)
        have hz3 := z8.set 0 (.int .i64 y)
        refine hK.out _ _ (hHeld.gb hg (by omega)) (fun hHeld => ?_)
        clear hK K y0 f0 hg z8
        generalize V2.setCell ⟨g8, 0, none⟩ (.int .i64 y) = V3 at *
        have z8 : Blk V3 g8 62 #[.int .i64 y, .slice A3 n e3, .slice A4 m e4] := hz3
        clear hz3 hHeld
        try simp only [Act.put, List.setIfInBounds_toArray, List.set_cons_zero, List.set_cons_succ]
        refine wpAnyH_done (by kernel_rfl) ?_ _
        go_wp2
        refine wp_region_held_drew (S := fun W => Blk W g7 62 #[.int .i64 t, .slice A1 p e1, .slice A2 q e2] ∧ Blk W g8 62 #[.int .i64 y, .slice A3 n e3, .slice A4 m e4]) (by kernel_rfl) ?_ (fun hHeld => ?_)
        · exact ⟨z7.below (below_drew10 V3), z8.below (below_drew10 V3)⟩
        replace hS := hS.below (below_drew10 V3)
        replace o1 := own_below o1 (below_drew10 V3)
        replace o2 := own_below o2 (below_drew10 V3)
        replace o3 := own_below o3 (below_drew10 V3)
        replace o4 := own_below o4 (below_drew10 V3)
        generalize V3.drew = V4 at *
        clear z7 z8
        refine' wpAnyH_take (i := 0) (v := .agg #[.int .i64 t, .slice A1 p e1, .slice A2 q e2]) rfl (by kernel_rfl) (by kernel_rfl) (by kernel_rfl) (fun _ _ _ h => h) (Or.inl ⟨by rfl, fun w' hw' => by have h0 := hw'.1.cell_ (i := 0) rfl; have h1 := hw'.1.cell_ (i := 1) rfl; have h2 := hw'.1.cell_ (i := 2) rfl; go_simp⟩) hHeld ?_
        try simp only [Act.put, List.setIfInBounds_toArray, List.set_cons_zero, List.set_cons_succ]
        refine' wpAnyH_take (i := 1) (v := .agg #[.int .i64 y, .slice A3 n e3, .slice A4 m e4]) rfl (by kernel_rfl) (by kernel_rfl) (by kernel_rfl) (fun _ _ _ h => h) (Or.inl ⟨by rfl, fun w' hw' => by have h0 := hw'.2.cell_ (i := 0) rfl; have h1 := hw'.2.cell_ (i := 1) rfl; have h2 := hw'.2.cell_ (i := 2) rfl; go_simp⟩) hHeld ?_
        try simp only [Act.put, List.setIfInBounds_toArray, List.set_cons_zero, List.set_cons_succ]
        obtain ⟨m4, m5, mB⟩ := two_set (by omega) (.int .i64 t) (.slice A1 p e1) (.slice A2 q e2) (.int .i64 y) (.slice A3 n e3) (.slice A4 m e4) hS.r4 hS.r5
        have hab : w.heap.size + 1 + 1 + 1 ≠ w.heap.size + 1 + 1 := by omega
        have mb := mB _ _ hS.k.x (by omega) (by omega)
        clear mB
        refine wpAnyH_ready (rs := [2]) (by kernel_rfl) (by simp) ?_
        refine AllReadyH.cons rfl (fun K hK => ?_) AllReadyH.nil
        have y0 := hS.r4.cell_ (i := 0) rfl
        have f0 := hS.r4.frozen 0
        have y1 := hS.r4.cell_ (i := 1) rfl
        have f1 := hS.r4.frozen 1
        have y2 := hS.r4.cell_ (i := 2) rfl
        have f2 := hS.r4.frozen 2
        go_simp
        have hg := gb_set (gb_set (gb_set (gb_refl V4 (some (w.heap.size + 1 + 1))) 0 (.int .i64 t)) 1 (.slice A1 p e1)) 2 (.slice A2 q e2)
        have q5 := blk_gb hS.r5 hg hab
        replace o1 := o1.kept hg (.inr (Lib.ownBlock_ne o1 hS.r4 (by decide)))
        replace o2 := o2.kept hg (.inr (Lib.ownBlock_ne o2 hS.r4 (by decide)))
        replace o3 := o3.kept hg (.inr (Lib.ownBlock_ne o3 hS.r4 (by decide)))
        replace o4 := o4.kept hg (.inr (Lib.ownBlock_ne o4 hS.r4 (by decide)))
        refine hK.out _ _ ⟨blk_gb hHeld.1 hg (by omega), blk_gb hHeld.2 hg (by omega)⟩ (fun hHeld => ?_)
        clear hK K hg y0 y1 y2 f0 f1 f2
        try simp only [Act.put, List.setIfInBounds_toArray, List.set_cons_zero, List.set_cons_succ]
        refine wpAnyH_ready (rs := [3]) (by kernel_rfl) (by simp) ?_
        refine AllReadyH.cons rfl (fun K hK => ?_) AllReadyH.nil
        have y0 := q5.cell_ (i := 0) rfl
        have f0 := q5.frozen 0
        have y1 := q5.cell_ (i := 1) rfl
        have f1 := q5.frozen 1
        have y2 := q5.cell_ (i := 2) rfl
        have f2 := q5.frozen 2
        go_simp
        have hg := gb_set (gb_set (gb_set (gb_refl (((V4.setCell ⟨w.heap.size + 1 + 1, 0, none⟩ (.int .i64 t)).setCell ⟨w.heap.size + 1 + 1, 1, none⟩ (.slice A1 p e1)).setCell ⟨w.heap.size + 1 + 1, 2, none⟩ (.slice A2 q e2)) (some (w.heap.size + 1 + 1 + 1))) 0 (.int .i64 y)) 1 (.slice A3 n e3)) 2 (.slice A4 m e4)
        replace o1 := o1.kept hg (.inr (Lib.ownBlock_ne o1 q5 (by decide)))
        replace o2 := o2.kept hg (.inr (Lib.ownBlock_ne o2 q5 (by decide)))
        replace o3 := o3.kept hg (.inr (Lib.ownBlock_ne o3 q5 (by decide)))
        replace o4 := o4.kept hg (.inr (Lib.ownBlock_ne o4 q5 (by decide)))
        refine hK.out _ _ ⟨blk_gb hHeld.1 hg (by omega), blk_gb hHeld.2 hg (by omega)⟩ (fun hHeld => ?_)
        clear hK K hg y0 y1 y2 f0 f1 f2
        try simp only [Act.put, List.setIfInBounds_toArray, List.set_cons_zero, List.set_cons_succ]
        generalize ((((((V4.setCell ⟨w.heap.size + 1 + 1, 0, none⟩ (.int .i64 t)).setCell ⟨w.heap.size + 1 + 1, 1, none⟩ (.slice A1 p e1)).setCell ⟨w.heap.size + 1 + 1, 2, none⟩ (.slice A2 q e2)).setCell ⟨w.heap.size + 1 + 1 + 1, 0, none⟩ (.int .i64 y)).setCell ⟨w.heap.size + 1 + 1 + 1, 1, none⟩ (.slice A3 n e3)).setCell ⟨w.heap.size + 1 + 1 + 1, 2, none⟩ (.slice A4 m e4)) = V99 at *
        clear q5
        refine' wpAnyH_take (i := 4) (v := .bool true) rfl (by kernel_rfl) (by kernel_rfl) (by kernel_rfl) (fun _ _ _ h => h) (Or.inl ⟨by rfl, fun w' hw' => by go_simp⟩) hHeld ?_
        try simp only [Act.put, List.setIfInBounds_toArray, List.set_cons_zero, List.set_cons_succ]
        refine wpAnyH_done (by kernel_rfl) ?_ _
        have y0 := m4.cell_ (i := 0) rfl
        have k0 := m5.cell_ (i := 0) rfl
        have y1 := m4.cell_ (i := 1) rfl
        have k1 := m5.cell_ (i := 1) rfl
        have y2 := m4.cell_ (i := 2) rfl
        have k2 := m5.cell_ (i := 2) rfl
        go_wp2
        refine bodyPost_ret (v := .tuple #[.agg #[.int .i64 t, .slice A1 p e1, .slice A2 q e2], .agg #[.int .i64 y, .slice A3 n e3, .slice A4 m e4], .bool true]) (by simp [results, Try.f49, go_sem, y0, y1, y2, k0, k1, k2]) rfl ?_
        exact ⟨A1, e1, A2, e2, A3, e3, A4, e4, by first | rfl | rw [if_pos (by omega), if_pos (by omega)], o1, o2, o3, o4, mb⟩
      · go_simp
        (with_reducible refine (added_any t C p f D q g x1 hx1 _).mono ?_)
        rintro e9 V5 ⟨rfl, hb⟩
        replace z7 := z7.below hb
        replace z8 := z8.below hb
        replace hS := hS.below hb
        replace o1 := own_below o1 hb
        replace o2 := own_below o2 hb
        replace o3 := own_below o3 hb
        replace o4 := own_below o4 hb
        refine hK.out _ _ (hHeld.below hb) (fun hHeld => ?_)
        clear hK K hb
        try simp only [Act.put, List.setIfInBounds_toArray, List.set_cons_zero, List.set_cons_succ]
        refine wpAnyH_ready (rs := [1]) (by kernel_rfl) (by simp) ?_
        refine (AllReadyH.cons rfl (fun K hK => ?_) AllReadyH.nil)
        have y0 := z8.cell_ (i := 0) rfl
        go_simp
        refine hK.out _ _ hHeld (fun hHeld => ?_)
        clear hK K y0
        try simp only [Act.put, List.setIfInBounds_toArray, List.set_cons_zero, List.set_cons_succ]
        refine' wpAnyH_take (i := 4) (v := .int .i64 y) rfl (by kernel_rfl) (by kernel_rfl) (by kernel_rfl) (fun _ _ _ h => h) (Or.inl ⟨by rfl, fun w' hw' => by go_simp⟩) hHeld ?_
        try simp only [Act.put, List.setIfInBounds_toArray, List.set_cons_zero, List.set_cons_succ]
        refine' wpAnyH_take (i := 5) (v := .pointer (some ⟨g8, 0, none⟩)) rfl (by kernel_rfl) (by kernel_rfl) (by kernel_rfl) (fun _ _ _ h => h) (Or.inl ⟨by rfl, fun w' hw' => by go_simp⟩) hHeld ?_
        try simp only [Act.put, List.setIfInBounds_toArray, List.set_cons_zero, List.set_cons_succ]
        refine wpAnyH_ready (rs := [6]) (by kernel_rfl) (by simp) ?_
        refine AllReadyH.cons rfl (fun K hK => ?_) AllReadyH.nil
        have y0 := z8.cell_ (i := 0) rfl
        have f0 := z8.frozen 0
        go_simp
        have hg := gb_set (gb_refl V5 (some g8)) 0 (.int .i64 y)
        replace o1 := o1.kept hg (.inr (Lib.ownBlock_ne o1 z8 (by decide)))
        replace o2 := o2.kept hg (.inr (Lib.ownBlock_ne o2 z8 (by decide)))
        replace o3 := o3.kept hg (.inr (Lib.ownBlock_ne o3 z8 (by decide)))
        replace o4 := o4.kept hg (.inr (Lib.ownBlock_ne o4 z8 (by decide)))
        replace hS := hS.gb hg (by omega)
        replace z7 := blk_gb z7 hg (by omega)
        have hz3 := z8.set 0 (.int .i64 y)
        refine hK.out _ _ (hHeld.gb hg (by omega)) (fun hHeld => ?_)
        clear hK K y0 f0 hg z8
        generalize V5.setCell ⟨g8, 0, none⟩ (.int .i64 y) = V6 at *
        have z8 : Blk V6 g8 62 #[.int .i64 y, .slice A3 n e3, .slice A4 m e4] := hz3
        clear hz3 hHeld
        try simp only [Act.put, List.setIfInBounds_toArray, List.set_cons_zero, List.set_cons_succ]
        refine wpAnyH_done (by kernel_rfl) ?_ _
        go_wp2
        refine wp_region_held_drew (S := fun W => Blk W g7 62 #[.int .i64 t, .slice A1 p e1, .slice A2 q e2] ∧ Blk W g8 62 #[.int .i64 y, .slice A3 n e3, .slice A4 m e4]) (by kernel_rfl) ?_ (fun hHeld => ?_)
        · exact ⟨z7.below (below_drew10 V6), z8.below (below_drew10 V6)⟩
        replace hS := hS.below (below_drew10 V6)
        replace o1 := own_below o1 (below_drew10 V6)
        replace o2 := own_below o2 (below_drew10 V6)
        replace o3 := own_below o3 (below_drew10 V6)
        replace o4 := own_below o4 (below_drew10 V6)
        generalize V6.drew = V7 at *
        clear z7 z8
        refine' wpAnyH_take (i := 0) (v := .agg #[.int .i64 t, .slice A1 p e1, .slice A2 q e2]) rfl (by kernel_rfl) (by kernel_rfl) (by kernel_rfl) (fun _ _ _ h => h) (Or.inl ⟨by rfl, fun w' hw' => by have h0 := hw'.1.cell_ (i := 0) rfl; have h1 := hw'.1.cell_ (i := 1) rfl; have h2 := hw'.1.cell_ (i := 2) rfl; go_simp⟩) hHeld ?_
        try simp only [Act.put, List.setIfInBounds_toArray, List.set_cons_zero, List.set_cons_succ]
        refine' wpAnyH_take (i := 1) (v := .agg #[.int .i64 y, .slice A3 n e3, .slice A4 m e4]) rfl (by kernel_rfl) (by kernel_rfl) (by kernel_rfl) (fun _ _ _ h => h) (Or.inl ⟨by rfl, fun w' hw' => by have h0 := hw'.2.cell_ (i := 0) rfl; have h1 := hw'.2.cell_ (i := 1) rfl; have h2 := hw'.2.cell_ (i := 2) rfl; go_simp⟩) hHeld ?_
        try simp only [Act.put, List.setIfInBounds_toArray, List.set_cons_zero, List.set_cons_succ]
        obtain ⟨m4, m5, mB⟩ := two_set (by omega) (.int .i64 t) (.slice A1 p e1) (.slice A2 q e2) (.int .i64 y) (.slice A3 n e3) (.slice A4 m e4) hS.r4 hS.r5
        have hab : w.heap.size + 1 + 1 + 1 ≠ w.heap.size + 1 + 1 := by omega
        have mb := mB _ _ hS.k.x (by omega) (by omega)
        clear mB
        refine wpAnyH_ready (rs := [2]) (by kernel_rfl) (by simp) ?_
        refine AllReadyH.cons rfl (fun K hK => ?_) AllReadyH.nil
        have y0 := hS.r4.cell_ (i := 0) rfl
        have f0 := hS.r4.frozen 0
        have y1 := hS.r4.cell_ (i := 1) rfl
        have f1 := hS.r4.frozen 1
        have y2 := hS.r4.cell_ (i := 2) rfl
        have f2 := hS.r4.frozen 2
        go_simp
        have hg := gb_set (gb_set (gb_set (gb_refl V7 (some (w.heap.size + 1 + 1))) 0 (.int .i64 t)) 1 (.slice A1 p e1)) 2 (.slice A2 q e2)
        have q5 := blk_gb hS.r5 hg hab
        replace o1 := o1.kept hg (.inr (Lib.ownBlock_ne o1 hS.r4 (by decide)))
        replace o2 := o2.kept hg (.inr (Lib.ownBlock_ne o2 hS.r4 (by decide)))
        replace o3 := o3.kept hg (.inr (Lib.ownBlock_ne o3 hS.r4 (by decide)))
        replace o4 := o4.kept hg (.inr (Lib.ownBlock_ne o4 hS.r4 (by decide)))
        refine hK.out _ _ ⟨blk_gb hHeld.1 hg (by omega), blk_gb hHeld.2 hg (by omega)⟩ (fun hHeld => ?_)
        clear hK K hg y0 y1 y2 f0 f1 f2
        try simp only [Act.put, List.setIfInBounds_toArray, List.set_cons_zero, List.set_cons_succ]
        refine wpAnyH_ready (rs := [3]) (by kernel_rfl) (by simp) ?_
        refine AllReadyH.cons rfl (fun K hK => ?_) AllReadyH.nil
        have y0 := q5.cell_ (i := 0) rfl
        have f0 := q5.frozen 0
        have y1 := q5.cell_ (i := 1) rfl
        have f1 := q5.frozen 1
        have y2 := q5.cell_ (i := 2) rfl
        have f2 := q5.frozen 2
        go_simp
        have hg := gb_set (gb_set (gb_set (gb_refl (((V7.setCell ⟨w.heap.size + 1 + 1, 0, none⟩ (.int .i64 t)).setCell ⟨w.heap.size + 1 + 1, 1, none⟩ (.slice A1 p e1)).setCell ⟨w.heap.size + 1 + 1, 2, none⟩ (.slice A2 q e2)) (some (w.heap.size + 1 + 1 + 1))) 0 (.int .i64 y)) 1 (.slice A3 n e3)) 2 (.slice A4 m e4)
        replace o1 := o1.kept hg (.inr (Lib.ownBlock_ne o1 q5 (by decide)))
        replace o2 := o2.kept hg (.inr (Lib.ownBlock_ne o2 q5 (by decide)))
        replace o3 := o3.kept hg (.inr (Lib.ownBlock_ne o3 q5 (by decide)))
        replace o4 := o4.kept hg (.inr (Lib.ownBlock_ne o4 q5 (by decide)))
        refine hK.out _ _ ⟨blk_gb hHeld.1 hg (by omega), blk_gb hHeld.2 hg (by omega)⟩ (fun hHeld => ?_)
        clear hK K hg y0 y1 y2 f0 f1 f2
        try simp only [Act.put, List.setIfInBounds_toArray, List.set_cons_zero, List.set_cons_succ]
        generalize ((((((V7.setCell ⟨w.heap.size + 1 + 1, 0, none⟩ (.int .i64 t)).setCell ⟨w.heap.size + 1 + 1, 1, none⟩ (.slice A1 p e1)).setCell ⟨w.heap.size + 1 + 1, 2, none⟩ (.slice A2 q e2)).setCell ⟨w.heap.size + 1 + 1 + 1, 0, none⟩ (.int .i64 y)).setCell ⟨w.heap.size + 1 + 1 + 1, 1, none⟩ (.slice A3 n e3)).setCell ⟨w.heap.size + 1 + 1 + 1, 2, none⟩ (.slice A4 m e4)) = V99 at *
        clear q5
        refine' wpAnyH_take (i := 4) (v := .bool true) rfl (by kernel_rfl) (by kernel_rfl) (by kernel_rfl) (fun _ _ _ h => h) (Or.inl ⟨by rfl, fun w' hw' => by go_simp⟩) hHeld ?_
        try simp only [Act.put, List.setIfInBounds_toArray, List.set_cons_zero, List.set_cons_succ]
        refine wpAnyH_done (by kernel_rfl) ?_ _
        have y0 := m4.cell_ (i := 0) rfl
        have k0 := m5.cell_ (i := 0) rfl
        have y1 := m4.cell_ (i := 1) rfl
        have k1 := m5.cell_ (i := 1) rfl
        have y2 := m4.cell_ (i := 2) rfl
        have k2 := m5.cell_ (i := 2) rfl
        go_wp2
        refine bodyPost_ret (v := .tuple #[.agg #[.int .i64 t, .slice A1 p e1, .slice A2 q e2], .agg #[.int .i64 y, .slice A3 n e3, .slice A4 m e4], .bool true]) (by simp [results, Try.f49, go_sem, y0, y1, y2, k0, k1, k2]) rfl ?_
        exact ⟨A1, e1, A2, e2, A3, e3, A4, e4, by first | rfl | rw [if_pos (by omega), if_pos (by omega)], o1, o2, o3, o4, mb⟩
    · have h1 := h1
      obtain ⟨x1, hx1⟩ : ∃ x1, wrap64 ((m : Int) - n) = x1 := ⟨_, rfl⟩
      rw [hx1] at hz
      have hy2 : IntKind.i64.wrap (t - x1) = z := by rw [IntKind.wrap_i64]; unfold wrap64 at hz; exact hz
      go_wp2
      clear c0 d0
      refine wp_region_held_drew (S := fun W => Sw w W 62 s (.slice A n c) (.slice B m d) t (.slice C p f) (.slice D q g) #[.int .i64 0, .slice none 0 0, .slice none 0 0] #[.int .i64 0, .slice none 0 0, .slice none 0 0]) (by kernel_rfl) ?_ (fun hHeld => ?_)
      · exact hS.below (below_drew10 W)
      replace hS := hS.below (below_drew10 W)
      replace z7 := z7.below (below_drew10 W)
      replace z8 := z8.below (below_drew10 W)
      replace o1 := own_below o1 (below_drew10 W)
      replace o2 := own_below o2 (below_drew10 W)
      replace o3 := own_below o3 (below_drew10 W)
      replace o4 := own_below o4 (below_drew10 W)
      generalize W.drew = V500 at *
      refine' wpAnyH_take (i := 0) (v := .pointer (some ⟨g7, 0, none⟩)) rfl (by kernel_rfl) (by kernel_rfl) (by kernel_rfl) (fun _ _ _ h => h) (Or.inl ⟨by rfl, fun w' hw' => by go_simp⟩) hHeld ?_
      try simp only [Act.put, List.setIfInBounds_toArray, List.set_cons_zero, List.set_cons_succ]
      refine' wpAnyH_take (i := 2) (v := .agg #[.int .i64 s, .slice A n c, .slice B m d]) rfl (by kernel_rfl) (by kernel_rfl) (by kernel_rfl) (fun _ _ _ h => h) (Or.inl ⟨by rfl, fun w' hw' => by have h0 := hw'.k.a.c0; have h1 := hw'.k.a.c1; have h2 := hw'.k.a.c2; go_simp⟩) hHeld ?_
      try simp only [Act.put, List.setIfInBounds_toArray, List.set_cons_zero, List.set_cons_succ]
      refine wpAnyH_ready (rs := [1, 3]) (by kernel_rfl) (by simp) ?_
      refine (AllReadyH.cons rfl (fun K hK => ?_) (AllReadyH.cons rfl (fun K hK => ?_) AllReadyH.nil))
      · have y0 := z7.cell_ (i := 0) rfl
        go_simp
        refine hK.out _ _ hHeld (fun hHeld => ?_)
        clear hK K y0
        try simp only [Act.put, List.setIfInBounds_toArray, List.set_cons_zero, List.set_cons_succ]
        refine wpAnyH_ready (rs := [3]) (by kernel_rfl) (by simp) ?_
        refine (AllReadyH.cons rfl (fun K hK => ?_) AllReadyH.nil)
        go_simp
        (with_reducible refine (added_any s A n c B m d x1 hx1 _).mono ?_)
        rintro e9 V8 ⟨rfl, hb⟩
        replace z7 := z7.below hb
        replace z8 := z8.below hb
        replace hS := hS.below hb
        replace o1 := own_below o1 hb
        replace o2 := own_below o2 hb
        replace o3 := own_below o3 hb
        replace o4 := own_below o4 hb
        refine hK.out _ _ (hHeld.below hb) (fun hHeld => ?_)
        clear hK K hb
        try simp only [Act.put, List.setIfInBounds_toArray, List.set_cons_zero, List.set_cons_succ]
        refine' wpAnyH_take (i := 4) (v := .int .i64 z) rfl (by kernel_rfl) (by kernel_rfl) (by kernel_rfl) (fun _ _ _ h => h) (Or.inl ⟨by rfl, fun w' hw' => by go_simp⟩) hHeld ?_
        try simp only [Act.put, List.setIfInBounds_toArray, List.set_cons_zero, List.set_cons_succ]
        refine' wpAnyH_take (i := 5) (v := .pointer (some ⟨g7, 0, none⟩)) rfl (by kernel_rfl) (by kernel_rfl) (by kernel_rfl) (fun _ _ _ h => h) (Or.inl ⟨by rfl, fun w' hw' => by go_simp⟩) hHeld ?_
        try simp only [Act.put, List.setIfInBounds_toArray, List.set_cons_zero, List.set_cons_succ]
        refine wpAnyH_ready (rs := [6]) (by kernel_rfl) (by simp) ?_
        refine AllReadyH.cons rfl (fun K hK => ?_) AllReadyH.nil
        have y0 := z7.cell_ (i := 0) rfl
        have f0 := z7.frozen 0
        go_simp
        have hg := gb_set (gb_refl V8 (some g7)) 0 (.int .i64 z)
        replace o1 := o1.kept hg (.inr (Lib.ownBlock_ne o1 z7 (by decide)))
        replace o2 := o2.kept hg (.inr (Lib.ownBlock_ne o2 z7 (by decide)))
        replace o3 := o3.kept hg (.inr (Lib.ownBlock_ne o3 z7 (by decide)))
        replace o4 := o4.kept hg (.inr (Lib.ownBlock_ne o4 z7 (by decide)))
        replace hS := hS.gb hg (by omega)
        replace z8 := blk_gb z8 hg (by omega)
        have hz3 := z7.set 0 (.int .i64 z)
        refine hK.out _ _ (hHeld.gb hg (by omega)) (fun hHeld => ?_)
        clear hK K y0 f0 hg z7
        generalize V8.setCell ⟨g7, 0, none⟩ (.int .i64 z) = V9 at *
        have z7 : Blk V9 g7 62 #[.int .i64 z, .slice A1 p e1, .slice A2 q e2] := hz3
        clear hz3 hHeld
        try simp only [Act.put, List.setIfInBounds_toArray, List.set_cons_zero, List.set_cons_succ]
        refine wpAnyH_done (by kernel_rfl) ?_ _
        go_wp2
        refine wp_region_held_drew (S := fun W => Blk W g7 62 #[.int .i64 z, .slice A1 p e1, .slice A2 q e2] ∧ Blk W g8 62 #[.int .i64 s, .slice A3 n e3, .slice A4 m e4]) (by kernel_rfl) ?_ (fun hHeld => ?_)
        · exact ⟨z7.below (below_drew10 V9), z8.below (below_drew10 V9)⟩
        replace hS := hS.below (below_drew10 V9)
        replace o1 := own_below o1 (below_drew10 V9)
        replace o2 := own_below o2 (below_drew10 V9)
        replace o3 := own_below o3 (below_drew10 V9)
        replace o4 := own_below o4 (below_drew10 V9)
        generalize V9.drew = V10 at *
        clear z7 z8
        refine' wpAnyH_take (i := 0) (v := .agg #[.int .i64 z, .slice A1 p e1, .slice A2 q e2]) rfl (by kernel_rfl) (by kernel_rfl) (by kernel_rfl) (fun _ _ _ h => h) (Or.inl ⟨by rfl, fun w' hw' => by have h0 := hw'.1.cell_ (i := 0) rfl; have h1 := hw'.1.cell_ (i := 1) rfl; have h2 := hw'.1.cell_ (i := 2) rfl; go_simp⟩) hHeld ?_
        try simp only [Act.put, List.setIfInBounds_toArray, List.set_cons_zero, List.set_cons_succ]
        refine' wpAnyH_take (i := 1) (v := .agg #[.int .i64 s, .slice A3 n e3, .slice A4 m e4]) rfl (by kernel_rfl) (by kernel_rfl) (by kernel_rfl) (fun _ _ _ h => h) (Or.inl ⟨by rfl, fun w' hw' => by have h0 := hw'.2.cell_ (i := 0) rfl; have h1 := hw'.2.cell_ (i := 1) rfl; have h2 := hw'.2.cell_ (i := 2) rfl; go_simp⟩) hHeld ?_
        try simp only [Act.put, List.setIfInBounds_toArray, List.set_cons_zero, List.set_cons_succ]
        obtain ⟨m4, m5, mB⟩ := two_set (by omega) (.int .i64 z) (.slice A1 p e1) (.slice A2 q e2) (.int .i64 s) (.slice A3 n e3) (.slice A4 m e4) hS.r4 hS.r5
        have hab : w.heap.size + 1 + 1 + 1 ≠ w.heap.size + 1 + 1 := by omega
        have mb := mB _ _ hS.k.x (by omega) (by omega)
        clear mB
        refine wpAnyH_ready (rs := [2]) (by kernel_rfl) (by simp) ?_
        refine AllReadyH.cons rfl (fun K hK => ?_) AllReadyH.nil
        have y0 := hS.r4.cell_ (i := 0) rfl
        have f0 := hS.r4.frozen 0
        have y1 := hS.r4.cell_ (i := 1) rfl
        have f1 := hS.r4.frozen 1
        have y2 := hS.r4.cell_ (i := 2) rfl
        have f2 := hS.r4.frozen 2
        go_simp
        have hg := gb_set (gb_set (gb_set (gb_refl V10 (some (w.heap.size + 1 + 1))) 0 (.int .i64 z)) 1 (.slice A1 p e1)) 2 (.slice A2 q e2)
        have q5 := blk_gb hS.r5 hg hab
        replace o1 := o1.kept hg (.inr (Lib.ownBlock_ne o1 hS.r4 (by decide)))
        replace o2 := o2.kept hg (.inr (Lib.ownBlock_ne o2 hS.r4 (by decide)))
        replace o3 := o3.kept hg (.inr (Lib.ownBlock_ne o3 hS.r4 (by decide)))
        replace o4 := o4.kept hg (.inr (Lib.ownBlock_ne o4 hS.r4 (by decide)))
        refine hK.out _ _ ⟨blk_gb hHeld.1 hg (by omega), blk_gb hHeld.2 hg (by omega)⟩ (fun hHeld => ?_)
        clear hK K hg y0 y1 y2 f0 f1 f2
        try simp only [Act.put, List.setIfInBounds_toArray, List.set_cons_zero, List.set_cons_succ]
        refine wpAnyH_ready (rs := [3]) (by kernel_rfl) (by simp) ?_
        refine AllReadyH.cons rfl (fun K hK => ?_) AllReadyH.nil
        have y0 := q5.cell_ (i := 0) rfl
        have f0 := q5.frozen 0
        have y1 := q5.cell_ (i := 1) rfl
        have f1 := q5.frozen 1
        have y2 := q5.cell_ (i := 2) rfl
        have f2 := q5.frozen 2
        go_simp
        have hg := gb_set (gb_set (gb_set (gb_refl (((V10.setCell ⟨w.heap.size + 1 + 1, 0, none⟩ (.int .i64 z)).setCell ⟨w.heap.size + 1 + 1, 1, none⟩ (.slice A1 p e1)).setCell ⟨w.heap.size + 1 + 1, 2, none⟩ (.slice A2 q e2)) (some (w.heap.size + 1 + 1 + 1))) 0 (.int .i64 s)) 1 (.slice A3 n e3)) 2 (.slice A4 m e4)
        replace o1 := o1.kept hg (.inr (Lib.ownBlock_ne o1 q5 (by decide)))
        replace o2 := o2.kept hg (.inr (Lib.ownBlock_ne o2 q5 (by decide)))
        replace o3 := o3.kept hg (.inr (Lib.ownBlock_ne o3 q5 (by decide)))
        replace o4 := o4.kept hg (.inr (Lib.ownBlock_ne o4 q5 (by decide)))
        refine hK.out _ _ ⟨blk_gb hHeld.1 hg (by omega), blk_gb hHeld.2 hg (by omega)⟩ (fun hHeld => ?_)
        clear hK K hg y0 y1 y2 f0 f1 f2
        try simp only [Act.put, List.setIfInBounds_toArray, List.set_cons_zero, List.set_cons_succ]
        generalize ((((((V10.setCell ⟨w.heap.size + 1 + 1, 0, none⟩ (.int .i64 z)).setCell ⟨w.heap.size + 1 + 1, 1, none⟩ (.slice A1 p e1)).setCell ⟨w.heap.size + 1 + 1, 2, none⟩ (.slice A2 q e2)).setCell ⟨w.heap.size + 1 + 1 + 1, 0, none⟩ (.int .i64 s)).setCell ⟨w.heap.size + 1 + 1 + 1, 1, none⟩ (.slice A3 n e3)).setCell ⟨w.heap.size + 1 + 1 + 1, 2, none⟩ (.slice A4 m e4)) = V99 at *
        clear q5
        refine' wpAnyH_take (i := 4) (v := .bool true) rfl (by kernel_rfl) (by kernel_rfl) (by kernel_rfl) (fun _ _ _ h => h) (Or.inl ⟨by rfl, fun w' hw' => by go_simp⟩) hHeld ?_
        try simp only [Act.put, List.setIfInBounds_toArray, List.set_cons_zero, List.set_cons_succ]
        refine wpAnyH_done (by kernel_rfl) ?_ _
        have y0 := m4.cell_ (i := 0) rfl
        have k0 := m5.cell_ (i := 0) rfl
        have y1 := m4.cell_ (i := 1) rfl
        have k1 := m5.cell_ (i := 1) rfl
        have y2 := m4.cell_ (i := 2) rfl
        have k2 := m5.cell_ (i := 2) rfl
        go_wp2
        refine bodyPost_ret (v := .tuple #[.agg #[.int .i64 z, .slice A1 p e1, .slice A2 q e2], .agg #[.int .i64 s, .slice A3 n e3, .slice A4 m e4], .bool true]) (by simp [results, Try.f49, go_sem, y0, y1, y2, k0, k1, k2]) rfl ?_
        exact ⟨A1, e1, A2, e2, A3, e3, A4, e4, by first | rfl | rw [if_neg (by omega), if_neg (by omega)], o1, o2, o3, o4, mb⟩
      · go_simp
        (with_reducible refine (added_any s A n c B m d x1 hx1 _).mono ?_)
        rintro e9 V11 ⟨rfl, hb⟩
        replace z7 := z7.below hb
        replace z8 := z8.below hb
        replace hS := hS.below hb
        replace o1 := own_below o1 hb
        replace o2 := own_below o2 hb
        replace o3 := own_below o3 hb
        replace o4 := own_below o4 hb
        refine hK.out _ _ (hHeld.below hb) (fun hHeld => ?_)
        clear hK K hb
        try simp only [Act.put, List.setIfInBounds_toArray, List.set_cons_zero, List.set_cons_succ]
        refine wpAnyH_ready (rs := [1]) (by kernel_rfl) (by simp) ?_
        refine (AllReadyH.cons rfl (fun K hK => ?_) AllReadyH.nil)
        have y0 := z7.cell_ (i := 0) rfl
        go_simp
        refine hK.out _ _ hHeld (fun hHeld => ?_)
        clear hK K y0
        try simp only [Act.put, List.setIfInBounds_toArray, List.set_cons_zero, List.set_cons_succ]
        refine' wpAnyH_take (i := 4) (v := .int .i64 z) rfl (by kernel_rfl) (by kernel_rfl) (by kernel_rfl) (fun _ _ _ h => h) (Or.inl ⟨by rfl, fun w' hw' => by go_simp⟩) hHeld ?_
        try simp only [Act.put, List.setIfInBounds_toArray, List.set_cons_zero, List.set_cons_succ]
        refine' wpAnyH_take (i := 5) (v := .pointer (some ⟨g7, 0, none⟩)) rfl (by kernel_rfl) (by kernel_rfl) (by kernel_rfl) (fun _ _ _ h => h) (Or.inl ⟨by rfl, fun w' hw' => by go_simp⟩) hHeld ?_
        try simp only [Act.put, List.setIfInBounds_toArray, List.set_cons_zero, List.set_cons_succ]
        refine wpAnyH_ready (rs := [6]) (by kernel_rfl) (by simp) ?_
        refine AllReadyH.cons rfl (fun K hK => ?_) AllReadyH.nil
        have y0 := z7.cell_ (i := 0) rfl
        have f0 := z7.frozen 0
        go_simp
        have hg := gb_set (gb_refl V11 (some g7)) 0 (.int .i64 z)
        replace o1 := o1.kept hg (.inr (Lib.ownBlock_ne o1 z7 (by decide)))
        replace o2 := o2.kept hg (.inr (Lib.ownBlock_ne o2 z7 (by decide)))
        replace o3 := o3.kept hg (.inr (Lib.ownBlock_ne o3 z7 (by decide)))
        replace o4 := o4.kept hg (.inr (Lib.ownBlock_ne o4 z7 (by decide)))
        replace hS := hS.gb hg (by omega)
        replace z8 := blk_gb z8 hg (by omega)
        have hz3 := z7.set 0 (.int .i64 z)
        refine hK.out _ _ (hHeld.gb hg (by omega)) (fun hHeld => ?_)
        clear hK K y0 f0 hg z7
        generalize V11.setCell ⟨g7, 0, none⟩ (.int .i64 z) = V12 at *
        have z7 : Blk V12 g7 62 #[.int .i64 z, .slice A1 p e1, .slice A2 q e2] := hz3
        clear hz3 hHeld
        try simp only [Act.put, List.setIfInBounds_toArray, List.set_cons_zero, List.set_cons_succ]
        refine wpAnyH_done (by kernel_rfl) ?_ _
        go_wp2
        refine wp_region_held_drew (S := fun W => Blk W g7 62 #[.int .i64 z, .slice A1 p e1, .slice A2 q e2] ∧ Blk W g8 62 #[.int .i64 s, .slice A3 n e3, .slice A4 m e4]) (by kernel_rfl) ?_ (fun hHeld => ?_)
        · exact ⟨z7.below (below_drew10 V12), z8.below (below_drew10 V12)⟩
        replace hS := hS.below (below_drew10 V12)
        replace o1 := own_below o1 (below_drew10 V12)
        replace o2 := own_below o2 (below_drew10 V12)
        replace o3 := own_below o3 (below_drew10 V12)
        replace o4 := own_below o4 (below_drew10 V12)
        generalize V12.drew = V13 at *
        clear z7 z8
        refine' wpAnyH_take (i := 0) (v := .agg #[.int .i64 z, .slice A1 p e1, .slice A2 q e2]) rfl (by kernel_rfl) (by kernel_rfl) (by kernel_rfl) (fun _ _ _ h => h) (Or.inl ⟨by rfl, fun w' hw' => by have h0 := hw'.1.cell_ (i := 0) rfl; have h1 := hw'.1.cell_ (i := 1) rfl; have h2 := hw'.1.cell_ (i := 2) rfl; go_simp⟩) hHeld ?_
        try simp only [Act.put, List.setIfInBounds_toArray, List.set_cons_zero, List.set_cons_succ]
        refine' wpAnyH_take (i := 1) (v := .agg #[.int .i64 s, .slice A3 n e3, .slice A4 m e4]) rfl (by kernel_rfl) (by kernel_rfl) (by kernel_rfl) (fun _ _ _ h => h) (Or.inl ⟨by rfl, fun w' hw' => by have h0 := hw'.2.cell_ (i := 0) rfl; have h1 := hw'.2.cell_ (i := 1) rfl; have h2 := hw'.2.cell_ (i := 2) rfl; go_simp⟩) hHeld ?_
        try simp only [Act.put, List.setIfInBounds_toArray, List.set_cons_zero, List.set_cons_succ]
        obtain ⟨m4, m5, mB⟩ := two_set (by omega) (.int .i64 z) (.slice A1 p e1) (.slice A2 q e2) (.int .i64 s) (.slice A3 n e3) (.slice A4 m e4) hS.r4 hS.r5
        have hab : w.heap.size + 1 + 1 + 1 ≠ w.heap.size + 1 + 1 := by omega
        have mb := mB _ _ hS.k.x (by omega) (by omega)
        clear mB
        refine wpAnyH_ready (rs := [2]) (by kernel_rfl) (by simp) ?_
        refine AllReadyH.cons rfl (fun K hK => ?_) AllReadyH.nil
        have y0 := hS.r4.cell_ (i := 0) rfl
        have f0 := hS.r4.frozen 0
        have y1 := hS.r4.cell_ (i := 1) rfl
        have f1 := hS.r4.frozen 1
        have y2 := hS.r4.cell_ (i := 2) rfl
        have f2 := hS.r4.frozen 2
        go_simp
        have hg := gb_set (gb_set (gb_set (gb_refl V13 (some (w.heap.size + 1 + 1))) 0 (.int .i64 z)) 1 (.slice A1 p e1)) 2 (.slice A2 q e2)
        have q5 := blk_gb hS.r5 hg hab
        replace o1 := o1.kept hg (.inr (Lib.ownBlock_ne o1 hS.r4 (by decide)))
        replace o2 := o2.kept hg (.inr (Lib.ownBlock_ne o2 hS.r4 (by decide)))
        replace o3 := o3.kept hg (.inr (Lib.ownBlock_ne o3 hS.r4 (by decide)))
        replace o4 := o4.kept hg (.inr (Lib.ownBlock_ne o4 hS.r4 (by decide)))
        refine hK.out _ _ ⟨blk_gb hHeld.1 hg (by omega), blk_gb hHeld.2 hg (by omega)⟩ (fun hHeld => ?_)
        clear hK K hg y0 y1 y2 f0 f1 f2
        try simp only [Act.put, List.setIfInBounds_toArray, List.set_cons_zero, List.set_cons_succ]
        refine wpAnyH_ready (rs := [3]) (by kernel_rfl) (by simp) ?_
        refine AllReadyH.cons rfl (fun K hK => ?_) AllReadyH.nil
        have y0 := q5.cell_ (i := 0) rfl
        have f0 := q5.frozen 0
        have y1 := q5.cell_ (i := 1) rfl
        have f1 := q5.frozen 1
        have y2 := q5.cell_ (i := 2) rfl
        have f2 := q5.frozen 2
        go_simp
        have hg := gb_set (gb_set (gb_set (gb_refl (((V13.setCell ⟨w.heap.size + 1 + 1, 0, none⟩ (.int .i64 z)).setCell ⟨w.heap.size + 1 + 1, 1, none⟩ (.slice A1 p e1)).setCell ⟨w.heap.size + 1 + 1, 2, none⟩ (.slice A2 q e2)) (some (w.heap.size + 1 + 1 + 1))) 0 (.int .i64 s)) 1 (.slice A3 n e3)) 2 (.slice A4 m e4)
        replace o1 := o1.kept hg (.inr (Lib.ownBlock_ne o1 q5 (by decide)))
        replace o2 := o2.kept hg (.inr (Lib.ownBlock_ne o2 q5 (by decide)))
        replace o3 := o3.kept hg (.inr (Lib.ownBlock_ne o3 q5 (by decide)))
        replace o4 := o4.kept hg (.inr (Lib.ownBlock_ne o4 q5 (by decide)))
        refine hK.out _ _ ⟨blk_gb hHeld.1 hg (by omega), blk_gb hHeld.2 hg (by omega)⟩ (fun hHeld => ?_)
        clear hK K hg y0 y1 y2 f0 f1 f2
        try simp only [Act.put, List.setIfInBounds_toArray, List.set_cons_zero, List.set_cons_succ]
        generalize ((((((V13.setCell ⟨w.heap.size + 1 + 1, 0, none⟩ (.int .i64 z)).setCell ⟨w.heap.size + 1 + 1, 1, none⟩ (.slice A1 p e1)).setCell ⟨w.heap.size + 1 + 1, 2, none⟩ (.slice A2 q e2)).setCell ⟨w.heap.size + 1 + 1 + 1, 0, none⟩ (.int .i64 s)).setCell ⟨w.heap.size + 1 + 1 + 1, 1, none⟩ (.slice A3 n e3)).setCell ⟨w.heap.size + 1 + 1 + 1, 2, none⟩ (.slice A4 m e4)) = V99 at *
        clear q5
        refine' wpAnyH_take (i := 4) (v := .bool true) rfl (by kernel_rfl) (by kernel_rfl) (by kernel_rfl) (fun _ _ _ h => h) (Or.inl ⟨by rfl, fun w' hw' => by go_simp⟩) hHeld ?_
        try simp only [Act.put, List.setIfInBounds_toArray, List.set_cons_zero, List.set_cons_succ]
        refine wpAnyH_done (by kernel_rfl) ?_ _
        have y0 := m4.cell_ (i := 0) rfl
        have k0 := m5.cell_ (i := 0) rfl
        have y1 := m4.cell_ (i := 1) rfl
        have k1 := m5.cell_ (i := 1) rfl
        have y2 := m4.cell_ (i := 2) rfl
        have k2 := m5.cell_ (i := 2) rfl
        go_wp2
        refine bodyPost_ret (v := .tuple #[.agg #[.int .i64 z, .slice A1 p e1, .slice A2 q e2], .agg #[.int .i64 s, .slice A3 n e3, .slice A4 m e4], .bool true]) (by simp [results, Try.f49, go_sem, y0, y1, y2, k0, k1, k2]) rfl ?_
        exact ⟨A1, e1, A2, e2, A3, e3, A4, e4, by first | rfl | rw [if_neg (by omega), if_neg (by omega)], o1, o2, o3, o4, mb⟩

end Go.Proofs.Ytmfngampccpkhaa

/- merkle: the document's Way. -/
import Derived.Test.YtkbokffonnjjiaaMkB
set_option linter.unusedSimpArgs false
set_option linter.unusedVariables false
namespace Go.Proofs.Ytkbokffonnjjiaa
open Go.RowKit Go.Qc Go.Shelf
attribute [local go_sem] txt_size txt_append ib_fold
theorem wp_build1w {w : World} {o : Oper} {a : Act} {K : Act → World → Prop} {Q : Exit → Act → World → Prop} (x : Operand) (ho : o.op = .buildSlice 22 1 #[(0, x)])
    (X : List UInt8) (lx : X.length = 32) (hx : a.eval x = .agg (idVals X))
    (h : ∀ cs, IdOw (w.alloc (.cells cs 24)) w.heap.size (.slice (some ⟨w.heap.size, 0, none⟩) 1 1) 1 [X] → K (a.put o.dst (.slice (some ⟨w.heap.size, 0, none⟩) 1 1)) (w.alloc (.cells cs 24))) :
    o.wp Try.prog a w K Q := by
  obtain ⟨j0, hj, hjz, hjs, hjb⟩ := infoId2_parts
  have sx : (idVals X).size = 32 := by rw [idVals_size, lx]
  obtain ⟨zs, hzs⟩ : ∃ zs : Array Value, zs = (Array.range (1 * j0.size)).map ((Value.agg (idVals zeroB)).cells[· % (Value.agg (idVals zeroB)).cells.size]!) := ⟨_, rfl⟩
  have hz : zs.size = 32 := by rw [hzs, hjs]; simp
  obtain ⟨s1, g1⟩ := put_get_arr 0 X zs (by rw [hz, lx]; decide)
  generalize hc1 : (idVals X).zipIdx.foldl (fun cs (c, j) => cs.setIfInBounds (0 + j) c) zs = c1 at s1 g1
  refine wp_buildSlice 22 24 1 #[(0, x)] ho c1 j0 (.agg (idVals zeroB)) Try.underlying22 hj hjz (by rw [hjs]; decide) (by rw [hjs]; decide) ?_ (h c1 ⟨by simp [idsV, lx], .inr ⟨w.heap.size, 1, c1, rfl, Nat.le_refl _, heap_alloc_new w _, Nat.le_refl _, by decide, by rw [s1, hz], ?_⟩⟩)
  · rw [← hzs, hjs]
    have e1 : (Value.agg (idVals X)).cells = idVals X := rfl
    simp only [List.map_toArray, List.map_cons, List.map_nil, hx, Instr.fill, e1, idVals_size, lx, hz]
    rw [if_neg (by decide)]
    simp only [Nat.zero_mul]
    rw [hc1]
  · have e2 : idsV [X] = X.map u8v := by simp [idsV]
    rw [e2]
    apply List.ext_getElem?
    intro j
    by_cases c : j < 32
    · rw [List.getElem?_take, if_pos (by omega), Array.getElem?_toList, g1, lx, if_pos (by omega), Nat.sub_zero]
    · rw [List.getElem?_take, if_neg (by omega), List.getElem?_eq_none (by rw [List.length_map, lx]; omega)]
theorem wpList_build1w {w : World} {ops : Array Oper} {rest : List Oper} {o : Oper} {a : Act} {Q : Exit → Act → World → Prop} (hgd : o.guard = none) (x : Operand) (ho : o.op = .buildSlice 22 1 #[(0, x)])
    (X : List UInt8) (lx : X.length = 32) (hx : a.eval x = .agg (idVals X))
    (h : ∀ cs, IdOw (w.alloc (.cells cs 24)) w.heap.size (.slice (some ⟨w.heap.size, 0, none⟩) 1 1) 1 [X] → wpList Try.prog ops Q rest (a.put o.dst (.slice (some ⟨w.heap.size, 0, none⟩) 1 1)) (w.alloc (.cells cs 24))) : wpList Try.prog ops Q (o :: rest) a w :=
  wpList_plain hgd fun _ hK => wp_build1w x ho X lx hx fun cs h1 => hK _ _ (h cs h1)
theorem wpList_store_idw {w : World} {ops : Array Oper} {rest : List Oper} {o : Oper} {a : Act} {Q : Exit → Act → World → Prop} (hgd : o.guard = none) (x y : Operand) (ho : o.op = .store 24 x y) (g : Nat) (old : Array Value) (b : List UInt8) (hb : b.length = 32)
    (hg : Blk w g 24 old) (hold : old.size = 32) (hx : a.eval x = .pointer (some ⟨g, 0, none⟩)) (hy : a.eval y = .agg (List.map u8v b).toArray)
    (h : ∀ w', Blk w' g 24 (idVals b) → w.grownBy w' (some g) → wpList Try.prog ops Q rest (a.put o.dst undef) w') : wpList Try.prog ops Q (o :: rest) a w :=
  wpList_store_blk hgd 24 x y ho g old (idVals b) 24 hg hx hy (by rw [idVals_size, hb]; exact sizeId) (by rw [hold, idVals_size, hb]) (idVals_one b) h
theorem own_rowW {w : World} {base n : Nat} {v : Value} {l : List (List UInt8)} (h : IdOw w base v n l) (h32 : ∀ a ∈ l, a.length = 32) (hn : n ≤ 1000000) : ∃ A c, v = .slice A n c ∧ RowC w A n c l := by
  have hl : l.length = n := by
    have e := h.1
    rw [idsV_length l h32] at e
    omega
  rcases h.2 with ⟨rfl, h0⟩ | ⟨g, c, cur, rfl, _, hg, h3, h4, h5, ht⟩
  · subst h0
    have : l = [] := List.length_eq_zero_iff.1 hl
    subst this
    exact ⟨none, 0, rfl, ⟨⟨rfl, by omega, IdRd.nil_ _ _⟩, .inl ⟨rfl, rfl, rfl⟩⟩⟩
  · refine ⟨_, c, rfl, ⟨hl, hn, h32, .inr ⟨g, 0, rfl, fun j u hj => ?_⟩⟩, .inr ⟨⟨_, rfl⟩, h3, h4⟩⟩
    rw [cell_of_row w g _ cur _ _ hg, Nat.zero_add, ← Array.getElem?_toList, ← hj, ← ht, List.getElem?_take, if_pos]
    have := (List.getElem?_eq_some_iff.1 hj).1
    rw [idsV_length l h32] at this
    omega
def slN : Value → Nat
  | .slice _ n _ => n
  | _ => 0
def partR (l : List (List UInt8)) (x : Nat × Nat) : List UInt8 := rootM ((l.drop x.1).take (x.2 - x.1))
theorem cut_drop (l : List (List UInt8)) (a b H : Nat) : ((l.drop a).take (b - a)).drop H = (l.drop (a + H)).take (b - (a + H)) := by
  rw [List.drop_take, List.drop_drop, Nat.sub_sub]
theorem cut_take (l : List (List UInt8)) (a b H : Nat) (h : H ≤ b - a) : ((l.drop a).take (b - a)).take H = (l.drop a).take (a + H - a) := by
  rw [List.take_take, Nat.min_eq_left h, Nat.add_sub_cancel_left]
theorem way_low {l : List (List UInt8)} {a b k : Nat} {W xs : List (List UInt8)} (h : W = (partsL a b k).map (partR l) ++ xs) (h1 : ¬ b - a ≤ 1) (hp : k < a + halfM (b - a)) :
    W = (partsL a (a + halfM (b - a)) k).map (partR l) ++ (rootM (((l.drop a).take (b - a)).drop (halfM (b - a))) :: xs) := by
  rw [h, partsL_low h1 hp, List.map_append, List.append_assoc, cut_drop]; rfl
theorem way_high {l : List (List UInt8)} {a b k : Nat} {W xs : List (List UInt8)} (h : W = (partsL a b k).map (partR l) ++ xs) (h1 : ¬ b - a ≤ 1) (hp : ¬ k < a + halfM (b - a)) :
    W = (partsL (a + halfM (b - a)) b k).map (partR l) ++ (rootM (((l.drop a).take (b - a)).take (halfM (b - a))) :: xs) := by
  have := halfM_ok (n := b - a) (by omega)
  rw [h, partsL_high h1 hp, List.map_append, List.append_assoc, cut_take l a b _ (by omega)]; rfl
set_option maxRecDepth 100000 in
set_option maxHeartbeats 8000000 in
theorem rway21_any (A : Option Addr) (n c : Nat) (l : List (List UInt8)) (k : Nat) (hk : k < n) (w : World) (h : RowC w A n c l) :
    Calls Try.prog 16 #[.slice A n c, .int .i64 (k : Int)] w fun e w' => ∃ A9 c9, e = .returned (.slice A9 (wayL l n k).length c9) ∧ RowC w' A9 (wayL l n k).length c9 (wayL l n k) ∧ Below w.heap.size w w' := by
  have hu := Try.underlying24
  have hn6 := h.1.2.1
  have hln := h.1.1
  have H0 := hid h
  have H32 := hid (wayL_32 l n k)
  have HN6 : Hid ((wayL l n k).length ≤ 1000000) := hid (by have := partsL_len 0 n k; rw [wayL_length]; omega)
  obtain ⟨WL, hWL⟩ : ∃ x, wayL l n k = x := ⟨_, rfl⟩
  have HW0 : Hid (WL = (partsL 0 n k).map (partR l) ++ []) := hid (by rw [List.append_nil, ← hWL]; rfl)
  rw [hWL] at H32 HN6 ⊢
  clear hWL h
  go_enter Try.func16, Try.ntmps16
  go_upto_region 2 with (fail)
  have hO0 : Hid (IdOw (w.alloc (.cells #[] 24)) w.heap.size (.slice (some ⟨w.heap.size, 0, none⟩) 0 0) 0 []) := hid (IdOw.made w)
  have hb0 : Hid (Below w.heap.size w (w.alloc (.cells #[] 24))) := hid ((Below.refl _ _).alloc (Nat.le_refl _) _)
  have hr0 : Hid (RowC (w.alloc (.cells #[] 24)) A n c l) := hid (H0.out.below hb0.out)
  generalize w.alloc (.cells #[] 24) = w1 at *
  go_loopw [0, 1, 5] (fun v0 v1 v5 wr => ∃ (a b : Nat) (A' : Option Addr) (c' : Nat) (xs : List (List UInt8)) (u : Value), u = v5 ∧ a ≤ k ∧ k < b ∧ b ≤ n ∧ v0 = .slice A' (b - a) c' ∧ v1 = .int .i64 ((k - a : Nat) : Int) ∧ Hid (RowC wr A' (b - a) c' ((l.drop a).take (b - a))) ∧ Hid (IdOw wr w.heap.size u xs.length xs) ∧ Hid (WL = (partsL a b k).map (partR l) ++ xs) ∧ Hid (Below w.heap.size w wr)) (fun v0 _ _ _ => slN v0)
  case atStart => exact ⟨0, n, A, c, [], _, rfl, Nat.zero_le _, hk, Nat.le_refl _, rfl, rfl, by rw [List.drop_zero, Nat.sub_zero, ← hln, List.take_length, hln]; exact hr0, hO0, HW0, hb0⟩
  case round =>
    clear hO0 hb0 hr0 HW0
    obtain ⟨a, b, A', c', xs, u, rfl, hak, hkb, hbn, rfl, rfl, HR, HO, HW, HB⟩ := hrel
    obtain ⟨wo, hwo⟩ : ∃ u, u = wr := ⟨_, rfl⟩
    subst hwo
    by_cases h1 : b - a ≤ 1
    · have z1 : ¬ (1 : Int) < ((b - a : Nat) : Int) := by omega
      have hxs : WL = xs := by have := HW.out; rw [partsL_end k h1] at this; simpa using this
      subst hxs
      obtain ⟨A9, c9, e9, r9⟩ := own_rowW HO.out H32.out HN6.out
      subst e9
      have HR9 := hid r9
      clear HO r9 hak hkb hbn h1 HR HW
      go_wp2_with (fail)
      go_ret
      exact ⟨A9, c9, rfl, HR9.out, HB.out⟩
    · have z1 : (1 : Int) < ((b - a : Nat) : Int) := by omega
      have hok := halfM_ok (n := b - a) (by omega)
      have cH : ∀ W, Calls Try.prog 54 #[.int .i64 ((b - a : Nat) : Int)] W fun e w' => e = .returned (.int .i64 (halfM (b - a))) ∧ W = w' := fun W => rhalf_any (b - a) (by omega) (by omega) W
      obtain ⟨H, hH⟩ : ∃ H, halfM (b - a) = H := ⟨_, rfl⟩
      obtain ⟨A1, c1, A2, c2, e1, e2, r1, r2⟩ := HR.out.split (k := H) (by omega) (by omega)
      rw [hH] at cH hok
      by_cases hp : k < a + halfM (b - a)
      · skip
        have HW2 := hid (way_low HW.out h1 hp)
        rw [hH] at HW2
        have hR := rootM_length (((l.drop a).take (b - a)).drop H)
        have cR : ∀ W, Below wo.heap.size wo W → Calls Try.prog 17 #[.slice A1 (b - a - H) c1] W fun e w' => e = .returned (.agg (idVals (rootM (((l.drop a).take (b - a)).drop H)))) ∧ Below W.heap.size W w' := fun W hW => rroot_any _ _ (Nat.le_refl _) A1 _ c1 W (r1.below hW)
        generalize rootM (((l.drop a).take (b - a)).drop H) = R at *
        have hz : ((k - a : Nat) : Int) < (H : Int) := by omega
        clear hp
        go_upto_region 7 with (first
          | (go_at_call 54; (with_reducible refine (cH _).mono ?_); rintro e3 w3 ⟨rfl, rfl⟩)
          | (go_at_call 17; (with_reducible refine (cR _ ((Below.refl wo.heap.size wo).alloc (Nat.le_refl _) _)).mono ?_); rintro e4 w4 ⟨rfl, hb4⟩)
          | (with_reducible refine wpList_store_idw rfl _ _ rfl wo.heap.size _ R hR ((Blk.new wo 24 _).below hb4) (by with_unfolding_all rfl) rfl rfl ?_; intro w5 hB5 hg5))
        have hal := (Below.refl wo.heap.size wo).alloc (Nat.le_refl _) (.cells (idVals zeroB) 24)
        have h54 : Below wo.heap.size wo w4 := hal.trans (hb4.mono hal.size)
        have h55 := h54.grown hg5 h54.size (fun q hq => Nat.le_of_eq (Option.some.inj hq))
        have rT := r2.below h55
        have HB5 := hid (HB.out.trans (h55.mono HB.out.size))
        have hx32 : ∀ x ∈ xs, x.length = 32 := fun x hx => H32.out x (by rw [HW.out]; exact List.mem_append_right _ hx)
        have hxn : 1 + xs.length ≤ 1000000 := by have e := congrArg List.length HW2.out; simp only [List.length_append, List.length_map, List.length_cons] at e; have := HN6.out; omega
        obtain ⟨A5, c5, e5, r5⟩ := own_rowW (own_below HO.out h55) hx32 (by omega)
        subst e5
        have hbx5 := range_blk hB5
        have hzR : (Try.prog.info? 24).map (·.size) = some (R.map u8v).length := by rw [List.length_map, hR]; exact sizeId
        have hA5 : A5 = none → xs.length = 0 ∧ c5 = 0 := fun h0 => by
          rcases r5.2 with ⟨_, g1, g2⟩ | ⟨⟨x, hx⟩, _⟩
          · exact ⟨g1, g2⟩
          · rw [h0] at hx; cases hx
        obtain ⟨gb, hgb⟩ : ∃ g, wo.heap.size = g := ⟨_, rfl⟩
        rw [hgb] at hbx5
        simp only [hgb]
        have HXN := hid hxn
        have HA5 := hid hA5
        have R5 := hid r5
        have RT := hid rT
        clear hal h54 h55 hb4 hg5 hB5 cH cR r1 r2 HR HO HB hx32 hxn hA5 r5 rT hgb
        go_wp2_with (first
          | (with_reducible refine wpList_load_if (by with_unfolding_all rfl) 24 _ rfl _ _ rfl (R.map u8v) _ hbx5 hu rfl hzR ?_)
          | ((with_reducible refine wpList_build1w rfl _ rfl R hR rfl ?_); intro cs hown; have HAL := hid ((Below.refl w5.heap.size w5).alloc (Nat.le_refl _) (.cells cs 24)); have HOW := hid hown; clear hown)
          | (at_builtin; refine wpList_append_idw rfl _ _ rfl w5.heap.size _ 1 [R] rfl HOW.out A5 xs.length c5 xs rfl rfl HA5.out (R5.out.below HAL.out).1.2.2 HXN.out HAL.out.size ?_; intro v8 w8 hown8 hg8; have HB8 := hid (IdOw.grown HOW.out hg8 (Nat.le_refl _) HAL.out HAL.out.size); have HO8 := hid (own_base hown8 HB5.out.size); clear hown8 hg8))
        go_roundw
        case rel => exact ⟨a, (a + H), A2, c2, R :: xs, _, rfl, by omega, by omega, by omega, by rw [Nat.add_sub_cancel_left], by first | rfl | go_num, hid (by rw [← cut_take l a b H (by omega), Nat.add_sub_cancel_left]; exact RT.out.below HB8.out), hid (by have := HO8.out; rw [Nat.add_comm] at this; exact this), HW2, hid (HB5.out.trans (HB8.out.mono HB5.out.size))⟩
        case measure => simp only [slN]; omega
      · skip
        have HW2 := hid (way_high HW.out h1 hp)
        rw [hH] at HW2
        have hR := rootM_length (((l.drop a).take (b - a)).take H)
        have cR : ∀ W, Below wo.heap.size wo W → Calls Try.prog 17 #[.slice A2 H c2] W fun e w' => e = .returned (.agg (idVals (rootM (((l.drop a).take (b - a)).take H)))) ∧ Below W.heap.size W w' := fun W hW => rroot_any _ _ (Nat.le_refl _) A2 _ c2 W (r2.below hW)
        generalize rootM (((l.drop a).take (b - a)).take H) = R at *
        have hz : ¬ ((k - a : Nat) : Int) < (H : Int) := by omega
        have hz2 : wrap64 (((k - a : Nat) : Int) - (H : Int)) = ((k - (a + H) : Nat) : Int) := by unfold wrap64; omega
        clear hp
        go_upto_region 9 with (first
          | (go_at_call 54; (with_reducible refine (cH _).mono ?_); rintro e3 w3 ⟨rfl, rfl⟩)
          | (go_at_call 17; (with_reducible refine (cR _ ((Below.refl wo.heap.size wo).alloc (Nat.le_refl _) _)).mono ?_); rintro e4 w4 ⟨rfl, hb4⟩)
          | (with_reducible refine wpList_store_idw rfl _ _ rfl wo.heap.size _ R hR ((Blk.new wo 24 _).below hb4) (by with_unfolding_all rfl) rfl rfl ?_; intro w5 hB5 hg5))
        have hal := (Below.refl wo.heap.size wo).alloc (Nat.le_refl _) (.cells (idVals zeroB) 24)
        have h54 : Below wo.heap.size wo w4 := hal.trans (hb4.mono hal.size)
        have h55 := h54.grown hg5 h54.size (fun q hq => Nat.le_of_eq (Option.some.inj hq))
        have rT := r1.below h55
        have HB5 := hid (HB.out.trans (h55.mono HB.out.size))
        have hx32 : ∀ x ∈ xs, x.length = 32 := fun x hx => H32.out x (by rw [HW.out]; exact List.mem_append_right _ hx)
        have hxn : 1 + xs.length ≤ 1000000 := by have e := congrArg List.length HW2.out; simp only [List.length_append, List.length_map, List.length_cons] at e; have := HN6.out; omega
        obtain ⟨A5, c5, e5, r5⟩ := own_rowW (own_below HO.out h55) hx32 (by omega)
        subst e5
        have hbx5 := range_blk hB5
        have hzR : (Try.prog.info? 24).map (·.size) = some (R.map u8v).length := by rw [List.length_map, hR]; exact sizeId
        have hA5 : A5 = none → xs.length = 0 ∧ c5 = 0 := fun h0 => by
          rcases r5.2 with ⟨_, g1, g2⟩ | ⟨⟨x, hx⟩, _⟩
          · exact ⟨g1, g2⟩
          · rw [h0] at hx; cases hx
        obtain ⟨gb, hgb⟩ : ∃ g, wo.heap.size = g := ⟨_, rfl⟩
        rw [hgb] at hbx5
        simp only [hgb]
        have HXN := hid hxn
        have HA5 := hid hA5
        have R5 := hid r5
        have RT := hid rT
        clear hal h54 h55 hb4 hg5 hB5 cH cR r1 r2 HR HO HB hx32 hxn hA5 r5 rT hgb
        go_wp2_with (first
          | (with_reducible refine wpList_load_if (by with_unfolding_all rfl) 24 _ rfl _ _ rfl (R.map u8v) _ hbx5 hu rfl hzR ?_)
          | ((with_reducible refine wpList_build1w rfl _ rfl R hR rfl ?_); intro cs hown; have HAL := hid ((Below.refl w5.heap.size w5).alloc (Nat.le_refl _) (.cells cs 24)); have HOW := hid hown; clear hown)
          | (at_builtin; refine wpList_append_idw rfl _ _ rfl w5.heap.size _ 1 [R] rfl HOW.out A5 xs.length c5 xs rfl rfl HA5.out (R5.out.below HAL.out).1.2.2 HXN.out HAL.out.size ?_; intro v8 w8 hown8 hg8; have HB8 := hid (IdOw.grown HOW.out hg8 (Nat.le_refl _) HAL.out HAL.out.size); have HO8 := hid (own_base hown8 HB5.out.size); clear hown8 hg8))
        go_roundw
        case rel => exact ⟨(a + H), b, A1, c1, R :: xs, _, rfl, by omega, by omega, by omega, by rw [← Nat.sub_sub], by first | rfl | go_num, hid (by rw [← cut_drop l a b H, ← Nat.sub_sub]; exact RT.out.below HB8.out), hid (by have := HO8.out; rw [Nat.add_comm] at this; exact this), HW2, hid (HB5.out.trans (HB8.out.mono HB5.out.size))⟩
        case measure => simp only [slN]; omega
end Go.Proofs.Ytkbokffonnjjiaa
/- merkle: the document's Sides. -/
set_option linter.unusedSimpArgs false
set_option linter.unusedVariables false
namespace Go.Proofs.Ytkbokffonnjjiaa
open Go.RowKit Go.Qc Go.Shelf
attribute [local go_sem] txt_size txt_append ib_fold
/-- A row of truth values of one's own. -/
def blV (L : List Bool) : List Value := L.map Value.bool
def BlOw (W : World) (base : Nat) (v : Value) (L : List Bool) : Prop := W.ownsRow base 4 1 v L.length (blV L)
theorem BlOw.grown {W W' : World} {base B : Nat} {v : Value} {L : List Bool} (h : BlOw W base v L) (hg : W.grownBy W' v.ownBlock) (hB : B ≤ base) {w : World} (hb : Below B w W) (hs : B ≤ W.heap.size) : Below B w W' :=
  hb.grown hg hs (by intro k hk; have := (World.ownsRow.lt h k hk).1; omega)
end Go.Proofs.Ytkbokffonnjjiaa
/- merkle: the document's Climb. -/
set_option linter.unusedSimpArgs false
set_option linter.unusedVariables false
namespace Go.Proofs.Ytkbokffonnjjiaa
open Go.RowKit Go.Qc Go.Shelf
attribute [local go_sem] txt_size txt_append ib_fold
def stepC (sd : Bool) (x y : List UInt8) : List UInt8 := if sd then tagB joinN [x, y] else tagB joinN [y, x]
def climbL : List Bool → List (List UInt8) → List UInt8 → List UInt8
  | s :: ss, y :: ys, x => climbL ss ys (stepC s x y)
  | _, _, x => x
theorem climbL_snoc : ∀ (ss : List Bool) (ys : List (List UInt8)) (s : Bool) (y x : List UInt8), ss.length = ys.length → climbL (ss ++ [s]) (ys ++ [y]) x = stepC s (climbL ss ys x) y
  | [], [], s, y, x, _ => rfl
  | [], _ :: _, _, _, _, h => by simp at h
  | _ :: _, [], _, _, _, h => by simp at h
  | t :: ss, z :: ys, s, y, x, h => by
    have h2 : ss.length = ys.length := by simpa using h
    show climbL (ss ++ [s]) (ys ++ [y]) (stepC t x z) = _
    rw [climbL_snoc ss ys s y _ h2]; rfl
theorem stepC_length (s : Bool) (x y : List UInt8) : (stepC s x y).length = 32 := by unfold stepC; cases s <;> exact tagB_length _ _
theorem climbL_length : ∀ (ss : List Bool) (ys : List (List UInt8)) (x : List UInt8), x.length = 32 → (climbL ss ys x).length = 32
  | [], _, x, h => h
  | _ :: _, [], x, h => h
  | s :: ss, y :: ys, x, h => climbL_length ss ys _ (stepC_length s x y)
/-- Which sides, from the lowest parting up. -/
def lowsL (n p : Nat) : List Bool := (partsL 0 n p).map fun x => decide (p < x.1)
theorem lowsL_length (n p : Nat) : (lowsL n p).length = (partsL 0 n p).length := by unfold lowsL; simp
def upL (n p : Nat) (way : List (List UInt8)) (a : List UInt8) (i : Nat) : List UInt8 := climbL ((lowsL n p).take i) (way.take i) (tagB itemN [a])
theorem upL_step {n p : Nat} {way : List (List UInt8)} {a y : List UInt8} {i : Nat} {s : Bool} (hl : (lowsL n p).length = way.length) (hs : (lowsL n p)[i]? = some s) (hy : way[i]? = some y) : upL n p way a (i + 1) = stepC s (upL n p way a i) y := by
  unfold upL
  rw [List.take_add_one, hs, List.take_add_one, hy]
  exact climbL_snoc _ _ s y _ (by rw [List.length_take, List.length_take, hl])
theorem upL_length (n p : Nat) (way : List (List UInt8)) (a : List UInt8) (i : Nat) : (upL n p way a i).length = 32 := climbL_length _ _ _ (tagB_length _ _)
end Go.Proofs.Ytkbokffonnjjiaa
/- merkle: a place's way leads to the root. -/
set_option linter.unusedSimpArgs false
set_option linter.unusedVariables false
namespace Go.Proofs.Ytkbokffonnjjiaa
open Go.RowKit Go.Qc Go.Shelf
theorem rootM_join {l : List (List UInt8)} (h : 2 ≤ l.length) : rootM l = tagB joinN [rootM (l.take (halfM l.length)), rootM (l.drop (halfM l.length))] := by
  rw [rootM, dif_neg (by omega)]
theorem climb_parts (l : List (List UInt8)) (k : Nat) (x : List UInt8) (hx : l[k]? = some x) : ∀ (f a b : Nat), b - a ≤ f → a ≤ k → k < b → b ≤ l.length →
    climbL ((partsL a b k).map fun y => decide (k < y.1)) ((partsL a b k).map (partR l)) (tagB itemN [x]) = rootM ((l.drop a).take (b - a))
  | 0, a, b, h, h1, h2, h3 => by omega
  | f + 1, a, b, h, h1, h2, h3 => by
    by_cases he : b - a ≤ 1
    · have e : a = k := by omega
      subst e
      have e2 : (l.drop a).take (b - a) = [x] := by
        rw [show b - a = 1 by omega, List.take_one, List.head?_drop, hx]; rfl
      rw [partsL_end a he, e2, rootM_one]
      rfl
    · have hlen : ((l.drop a).take (b - a)).length = b - a := by rw [List.length_take, List.length_drop]; omega
      have hok := halfM_ok (n := b - a) (by omega)
      rw [rootM_join (by rw [hlen]; omega), hlen, cut_drop, cut_take l a b _ (by omega)]
      by_cases hp : k < a + halfM (b - a)
      · rw [partsL_low he hp, List.map_append, List.map_append]
        show climbL (_ ++ [decide (k < a + halfM (b - a))]) (_ ++ [partR l (a + halfM (b - a), b)]) _ = _
        rw [climbL_snoc _ _ _ _ _ (by rw [List.length_map, List.length_map]), climb_parts l k x hx f a (a + halfM (b - a)) (by omega) h1 hp (by omega), decide_eq_true hp]
        rfl
      · rw [partsL_high he hp, List.map_append, List.map_append]
        show climbL (_ ++ [decide (k < a)]) (_ ++ [partR l (a, a + halfM (b - a))]) _ = _
        rw [climbL_snoc _ _ _ _ _ (by rw [List.length_map, List.length_map]), climb_parts l k x hx f (a + halfM (b - a)) b (by omega) (by omega) h2 h3, decide_eq_false (by omega)]
        rfl
/-- The way of a place of a row leads to the row's root. -/
theorem up_root {l : List (List UInt8)} {k : Nat} {x : List UInt8} (hx : l[k]? = some x) : upL l.length k (wayL l l.length k) x (partsL 0 l.length k).length = rootM l := by
  have hk := (List.getElem?_eq_some_iff.1 hx).1
  have h := climb_parts l k x hx l.length 0 l.length (by omega) (Nat.zero_le _) hk (Nat.le_refl _)
  rw [List.drop_zero, Nat.sub_zero, List.take_length] at h
  unfold upL
  rw [List.take_of_length_le (by rw [lowsL_length]; exact Nat.le_refl _), List.take_of_length_le (by rw [wayL_length]; exact Nat.le_refl _)]
  exact h
end Go.Proofs.Ytkbokffonnjjiaa

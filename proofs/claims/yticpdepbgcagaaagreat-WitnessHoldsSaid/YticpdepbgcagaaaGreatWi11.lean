
/- witness: the document's rows: plain, Honest, Hidden, First. -/
import Derived.Test.YticpdepbgcagaaaGreatWi10
set_option linter.unusedSimpArgs false
set_option linter.unusedVariables false
namespace Go.Proofs.YticpdepbgcagaaaGreat
open Go.RowKit Go.Qc Go.Shelf
attribute [local go_sem] txt_size txt_append ib_fold

theorem put_getW0 (off : Nat) : ∀ (l : List Value) (k : Nat) (cs : Array Value), off + k + l.length ≤ cs.size →
    ((l.zipIdx k).foldl (fun cs x => cs.setIfInBounds (off + x.2) x.1) cs).size = cs.size ∧ ∀ i, ((l.zipIdx k).foldl (fun cs x => cs.setIfInBounds (off + x.2) x.1) cs)[i]? = if off + k ≤ i ∧ i < off + k + l.length then l[i - off - k]? else cs[i]?
  | [], k, cs, _ => ⟨rfl, fun i => by simp; omega⟩
  | v :: l, k, cs, h => by
    simp only [List.length_cons] at h
    obtain ⟨h1, h2⟩ := put_getW0 off l (k + 1) (cs.setIfInBounds (off + k) v) (by simp; omega)
    rw [List.zipIdx_cons, List.foldl_cons]
    refine ⟨by rw [h1]; simp, fun i => ?_⟩
    rw [h2]
    simp only [List.length_cons]
    by_cases c1 : off + (k + 1) ≤ i ∧ i < off + (k + 1) + l.length
    · rw [if_pos c1, if_pos (by omega), show i - off - k = (i - off - (k + 1)) + 1 by omega, List.getElem?_cons_succ]
    · rw [if_neg c1, Array.getElem?_setIfInBounds]
      by_cases c2 : off + k = i
      · subst c2
        rw [if_pos rfl, if_pos (by omega), if_pos (by omega), show off + k - off - k = 0 by omega]; rfl
      · rw [if_neg c2, if_neg (by omega)]
theorem put_get_Wv (off : Nat) (X : Array Value) (cs : Array Value) (h : off + X.size ≤ cs.size) :
    (X.zipIdx.foldl (fun cs (c, j) => cs.setIfInBounds (off + j) c) cs).size = cs.size ∧ ∀ i, (X.zipIdx.foldl (fun cs (c, j) => cs.setIfInBounds (off + j) c) cs)[i]? = if off ≤ i ∧ i < off + X.size then X.toList[i - off]? else cs[i]? := by
  have := put_getW0 off X.toList 0 cs (by rw [Array.length_toList]; omega)
  rw [Array.length_toList, Nat.add_zero, show ((X.toList).zipIdx 0).foldl (fun cs x => cs.setIfInBounds (off + x.2) x.1) cs = X.zipIdx.foldl (fun cs (c, j) => cs.setIfInBounds (off + j) c) cs by rw [← Array.foldl_toList, Array.toList_zipIdx]] at this
  exact this

theorem wp_build1wv {w : World} {o : Oper} {a : Act} {K : Act → World → Prop} {Q : Exit → Act → World → Prop} (x : Operand) (ho : o.op = .buildSlice 36 1 #[(0, x)])
    (X : WiD) (hX : X.ok) (hx : a.eval x = .agg X.cs)
    (h : ∀ cs, WiRd (w.alloc (.cells cs 68)) (some ⟨w.heap.size, 0, none⟩) [X] → K (a.put o.dst (.slice (some ⟨w.heap.size, 0, none⟩) 1 1)) (w.alloc (.cells cs 68))) :
    o.wp Tryz.prog a w K Q := by
  obtain ⟨j0, Z, hj, hjz, hjs, hZ, _⟩ := Wv_info4
  have lx : X.cs.size = 33 := WiD.size hX
  obtain ⟨zs, hzs⟩ : ∃ zs : Array Value, zs = (Array.range (1 * j0.size)).map ((Value.agg Z).cells[· % (Value.agg Z).cells.size]!) := ⟨_, rfl⟩
  have hz : zs.size = 33 := by rw [hzs, hjs]; simp
  obtain ⟨s1, g1⟩ := put_get_Wv 0 X.cs zs (by rw [hz, lx]; decide)
  generalize hc1 : X.cs.zipIdx.foldl (fun cs (c, j) => cs.setIfInBounds (0 + j) c) zs = c1 at s1 g1
  refine wp_buildSlice 36 68 1 #[(0, x)] ho c1 j0 (.agg Z) Tryz.underlying36 hj hjz (by rw [hjs]; decide) (by rw [hjs]; decide) ?_ (h c1 ⟨fun Y hY => by rw [List.mem_singleton.1 hY]; exact hX, .inr ⟨w.heap.size, 0, rfl, ?_⟩⟩)
  · rw [← hzs, hjs]
    have e1 : (Value.agg X.cs).cells = X.cs := rfl
    simp only [List.map_toArray, List.map_cons, List.map_nil, hx, Instr.fill, e1, lx, hz]
    rw [if_neg (by decide)]
    simp only [Nat.zero_mul]
    rw [hc1]
  · intro j u hj'
    have hj2 : X.cs.toList[j]? = some u := by simpa [wisV] using hj'
    have hlt : j < 33 := by have := (List.getElem?_eq_some_iff.1 hj2).1; rw [Array.length_toList, lx] at this; exact this
    rw [cell_of_row _ _ _ _ _ _ (heap_alloc_new w _), Nat.zero_add, g1, lx, if_pos (by omega), Nat.sub_zero]
    exact hj2


theorem wpList_build1wv {w : World} {ops : Array Oper} {rest : List Oper} {o : Oper} {a : Act} {Q : Exit → Act → World → Prop} (hgd : o.guard = none) (x : Operand) (ho : o.op = .buildSlice 36 1 #[(0, x)])
    (X : WiD) (hX : X.ok) (hx : a.eval x = .agg X.cs)
    (h : ∀ cs, WiRd (w.alloc (.cells cs 68)) (some ⟨w.heap.size, 0, none⟩) [X] → wpList Tryz.prog ops Q rest (a.put o.dst (.slice (some ⟨w.heap.size, 0, none⟩) 1 1)) (w.alloc (.cells cs 68))) :
    wpList Tryz.prog ops Q (o :: rest) a w := wpList_plain hgd fun K' hK' => wp_build1wv x ho X hX hx (fun cs hr => hK' _ _ (h cs hr))


theorem build_wv (X : WiD) (h : X.ok) (W : World) : (Instr.build 68 #[(0, .int .i64 X.l), (1, .agg (List.map u8v X.a).toArray)]).run Tryz.prog W = .ok (.agg X.cs) W := by
  obtain ⟨l, a⟩ := X
  obtain ⟨x0, x1, x2, x3, x4, x5, x6, x7, x8, x9, x10, x11, x12, x13, x14, x15, x16, x17, x18, x19, x20, x21, x22, x23, x24, x25, x26, x27, x28, x29, x30, x31, rfl⟩ := list32 a h
  kernel_rfl
theorem take_snocW {α : Type} {l : List α} {k : Nat} {x : α} (h : l[k]? = some x) : l.take (k + 1) = l.take k ++ [x] := by rw [List.take_add_one, h]; rfl

set_option maxRecDepth 100000 in
set_option maxHeartbeats 20000000 in
theorem wplain_any (A : Option Addr) (n c : Nat) (Xs : List WiD) (hn : Xs.length = n) (bn : n ≤ 900) (w : World) (rA : WiRd w A Xs) :
    Calls Tryz.prog 8 #[.slice A n c] w fun e w' => ∃ v, e = .returned v ∧ WvOw w' w.heap.size v n Xs ∧ Below w.heap.size w w' := by
  have HN := hid hn
  have hu := Tryz.underlying24
  clear hn
  go_enter Tryz.func8, Tryz.ntmps8
  go_wp2
  go_loopw [3, 8] (fun v i wr => ∃ k : Nat, k ≤ n ∧ i = .int .i64 k ∧ WvOw wr w.heap.size v k (Xs.take k) ∧ Below w.heap.size w wr) (fun _ i _ => n - (intOf i).toNat)
  case atStart => exact ⟨0, by omega, rfl, WvOw.none_ _ _, Below.refl _ _⟩
  case round =>
    obtain ⟨k, hkn, rfl, hown, hb⟩ := hrel
    by_cases hlt : k < n
    · obtain ⟨X, hX⟩ : ∃ X, Xs[k]? = some X := ⟨_, List.getElem?_eq_getElem (by have := HN.out; omega)⟩
      obtain ⟨g, q, hg, hXo, hix⟩ := rA.pick c HN.out hX
      have b1 : (k : Int) < n := by omega
      have fX := hg.below hb
      have hnw := WiX.new wr X
      have hba := (Below.refl wr.heap.size wr).alloc (Nat.le_refl _) (.cells X.cs 67)
      have c0 := hnw.c0
      have fk := hnw.key
      have hzk : (Tryz.prog.info? 24).map (·.size) = some (X.a.map u8v).length := by rw [List.length_map, (show X.a.length = 32 from hXo)]; exact sizeId
      have bg := build_wv X hXo
      have hown1 := hown.below hba
      have hb1 := hb.trans (hba.mono hb.size)
      have hw8 : wrap64 ((k : Int) + 1) = (k : Int) + 1 := by unfold wrap64; omega
      have HLT := hid (show k + 1 ≤ n from hlt)
      have HS := hid (take_snocW hX)
      clear hX hg hown hba hb
      go_wp2_with (first
        | (with_reducible refine wpList_load_wir (by with_unfolding_all rfl) _ rfl _ _ rfl fX hXo ?_)
        | (with_reducible refine wpList_store_win rfl _ _ rfl rfl rfl hXo (by with_unfolding_all rfl) ?_)
        | (with_reducible refine wpList_load_if (by with_unfolding_all rfl) 24 _ rfl _ _ rfl (X.a.map u8v) _ fk hu rfl hzk ?_)
        | (with_reducible refine wpList_build_byW rfl _ _ rfl _ _ bg (by with_unfolding_all rfl) ?_)
        | ((with_reducible refine wpList_build1wv rfl _ rfl X hXo rfl ?_); intro cs hrow; have hal2 := (Below.refl (wr.alloc (.cells X.cs 67)).heap.size (wr.alloc (.cells X.cs 67))).alloc (Nat.le_refl _) (.cells cs 68); have hown2 := hown1.below hal2; have hb2 := hb1.trans (hal2.mono hb1.size))
        | (at_builtin; refine wpList_append_wv rfl _ _ rfl w.heap.size _ k (Xs.take k) rfl hown2 _ 1 1 [X] rfl rfl (fun h => by cases h) hrow (by omega) hb2.size ?_; intro v' w' hown' hg'; have hb3 := hown2.grown hg' (Nat.le_refl _) hb2 hb2.size))
      go_roundw
      case rel => exact ⟨k + 1, HLT.out, by go_num, by rw [HS.out]; exact hown', hb3⟩
      case measure => exact meas_wi HLT.out
    · obtain rfl : k = n := by omega
      have c1 : ¬ (k : Int) < k := by omega
      rw [List.take_of_length_le (by rw [HN.out]; exact Nat.le_refl _)] at hown
      go_wp2
      go_ret
      exact ⟨_, rfl, hown, hb⟩

set_option maxRecDepth 100000 in
set_option maxHeartbeats 20000000 in
theorem wrhonest_any (b : Int) (s : List UInt8) (hs : s.length = 32) (L : Int) (A : Option Addr) (n c : Nat) (Xs : List WiD) (hn : Xs.length = n) (bn : n ≤ 1000) (w : World) (hr : WiRd w A Xs) :
    Calls Tryz.prog 17 #[.int .i64 b, .slice A n c, .agg (idVals s), .int .i64 L] w fun e w' => e = .returned (.bool (honB b Xs s L)) ∧ Below w.heap.size w w' := by
  have HN := hid hn
  have hu := Tryz.underlying24
  have hzs : (Tryz.prog.info? 24).map (·.size) = some (s.map u8v).length := by rw [List.length_map, hs]; exact sizeId
  have h1 := (Below.refl w.heap.size w).alloc (Nat.le_refl _) (.cells (idVals s) 24)
  have f1 := range_blk (Blk.new w 24 (idVals s))
  replace hr := hr.below h1
  clear hn
  go_enter Tryz.func17, Tryz.ntmps17
  go_wp2_with (fail)
  generalize w.alloc (.cells (idVals s) 24) = w1 at *
  go_loopw [9] (fun i wr => ∃ k : Nat, k ≤ n ∧ i = .int .i64 k ∧ Hid (∀ X ∈ Xs.take k, honG b s L X = false) ∧ Below w1.heap.size w1 wr) (fun i _ => n - (intOf i).toNat)
  case atStart => exact ⟨0, by omega, rfl, hid (by simp), Below.refl _ _⟩
  case round =>
    obtain ⟨k, hkn, rfl, HALL, hb⟩ := hrel
    by_cases hlt : k < n
    · obtain ⟨X, hX⟩ : ∃ X, Xs[k]? = some X := ⟨_, List.getElem?_eq_getElem (by have := HN.out; omega)⟩
      obtain ⟨g, q, hg, hXo, hix⟩ := hr.pickV c HN.out hX
      have b1 : (k : Int) < n := by omega
      have fX := hg.below hb
      have k0 : wr.cell? ⟨g, q, none⟩ = some (.int .i64 X.l) := by
        have := fX 0 (.int .i64 X.l) (by rw [Array.getElem?_toList]; exact X.c0)
        rwa [Nat.add_zero] at this
      have k1 : wr.rangeAt g (q + 1) (X.a.map u8v) := fun j u hj => by rw [Nat.add_assoc]; exact fX (1 + j) u (by rw [Array.getElem?_toList]; exact X.ckey j u hj)
      have hzX : (Tryz.prog.info? 24).map (·.size) = some (X.a.map u8v).length := by rw [List.length_map, (show X.a.length = 32 from hXo)]; exact sizeId
      obtain ⟨cv, hcv⟩ : ∃ cv, alkB b X.a s = cv := ⟨_, rfl⟩
      have cA : ∀ W : World, Calls Tryz.prog 23 #[.int .i64 b, .agg (List.map u8v X.a).toArray, .agg (List.map u8v s).toArray] W fun e w' => e = .returned (.bool cv) ∧ Below W.heap.size W w' := fun W => by
        have h := wralk_any b X.a s hXo hs W
        rw [hcv] at h
        exact h
      obtain ⟨t, ht⟩ : ∃ t, decide (X.l = L) = t := ⟨_, rfl⟩
      have e1 : (X.l == L) = t := by rw [← ht]; rfl
      have HG0 := hid (show honG b s L X = (t && cv) by unfold honG; rw [ht, hcv])
      have HX := hid hX
      have HLT := hid (show k + 1 ≤ n from hlt)
      have j0 : ∀ p : LaterW wr, p.w.cell? ⟨g, q, none⟩ = some (.int .i64 X.l) := fun p => wi_cell p.h k0
      have fq := range_later k1
      have fs := range_later (f1.below hb)
      clear hX hg hcv ht fX k0 k1 hlt hkn
      go_upto_region 4 with (fail)
      cases t with
      | true =>
        cases cv with
        | true =>
          have HT := hid (show honB b Xs s L = true from List.any_eq_true.2 ⟨X, List.mem_of_getElem? HX.out, HG0.out⟩)
          refine wp_region_later mixedW (by kernel_rfl) ?_
          repeat (first
            | ((with_reducible refine wpQuiet_load_if (by with_unfolding_all rfl) 24 _ rfl _ _ rfl (X.a.map u8v) _ fq hu (by with_unfolding_all rfl) hzX ?_); simp only [Act.put, List.setIfInBounds_toArray, List.set_cons_zero, List.set_cons_succ])
            | ((with_reducible refine wpQuiet_load_if (by with_unfolding_all rfl) 24 _ rfl _ _ rfl (s.map u8v) _ fs hu (by with_unfolding_all rfl) hzs ?_); simp only [Act.put, List.setIfInBounds_toArray, List.set_cons_zero, List.set_cons_succ])
            | ((with_reducible refine wpQuiet_step (fun K hK => ?_)); go_simp; first | ((with_reducible refine hK _ ?_); clear hK K) | (with_reducible apply Exists.intro; (with_reducible refine ⟨fun P => ?_, hK _ ?_⟩); ((go_at_call 23; exact later_of (cA P.w))); clear hK K))
            | ((with_reducible refine BigFrame.wpQuiet_skip (by first | kernel_rfl | with_unfolding_all rfl) ?_); simp only [Act.put, List.setIfInBounds_toArray, List.set_cons_zero, List.set_cons_succ]))
          with_reducible refine wpQuiet_nil ?_
          intro _ hw9
          obtain ⟨P9, rfl⟩ := hw9
          have hb9 := hb.trans (P9.h.mono hb.size)
          go_wp2_with (fail)
          go_ret
          exact ⟨by rw [HT.out]; rfl, h1.trans (hb9.mono h1.size)⟩
        | false =>
          have HG := hid (show honG b s L X = false from HG0.out)
          refine wp_region_later mixedW (by kernel_rfl) ?_
          repeat (first
            | ((with_reducible refine wpQuiet_load_if (by with_unfolding_all rfl) 24 _ rfl _ _ rfl (X.a.map u8v) _ fq hu (by with_unfolding_all rfl) hzX ?_); simp only [Act.put, List.setIfInBounds_toArray, List.set_cons_zero, List.set_cons_succ])
            | ((with_reducible refine wpQuiet_load_if (by with_unfolding_all rfl) 24 _ rfl _ _ rfl (s.map u8v) _ fs hu (by with_unfolding_all rfl) hzs ?_); simp only [Act.put, List.setIfInBounds_toArray, List.set_cons_zero, List.set_cons_succ])
            | ((with_reducible refine wpQuiet_step (fun K hK => ?_)); go_simp; first | ((with_reducible refine hK _ ?_); clear hK K) | (with_reducible apply Exists.intro; (with_reducible refine ⟨fun P => ?_, hK _ ?_⟩); ((go_at_call 23; exact later_of (cA P.w))); clear hK K))
            | ((with_reducible refine BigFrame.wpQuiet_skip (by first | kernel_rfl | with_unfolding_all rfl) ?_); simp only [Act.put, List.setIfInBounds_toArray, List.set_cons_zero, List.set_cons_succ]))
          with_reducible refine wpQuiet_nil ?_
          intro _ hw9
          obtain ⟨P9, rfl⟩ := hw9
          have hb9 := hb.trans (P9.h.mono hb.size)
          go_wp2_with (fail)
          go_roundw
          case rel => exact ⟨k + 1, HLT.out, by go_num, hid (fun Y hY => by
            rw [take_snocW HX.out] at hY
            rcases List.mem_append.1 hY with hY | hY
            · exact HALL.out Y hY
            · rw [List.mem_singleton.1 hY]; exact HG.out), hb9⟩
          case measure => exact meas_wi HLT.out
      | false =>
        have HG := hid (show honG b s L X = false from HG0.out)
        refine wp_region_later mixedW (by kernel_rfl) ?_
        repeat (first
          | ((with_reducible refine wpQuiet_load_if (by with_unfolding_all rfl) 24 _ rfl _ _ rfl (X.a.map u8v) _ fq hu (by with_unfolding_all rfl) hzX ?_); simp only [Act.put, List.setIfInBounds_toArray, List.set_cons_zero, List.set_cons_succ])
          | ((with_reducible refine wpQuiet_load_if (by with_unfolding_all rfl) 24 _ rfl _ _ rfl (s.map u8v) _ fs hu (by with_unfolding_all rfl) hzs ?_); simp only [Act.put, List.setIfInBounds_toArray, List.set_cons_zero, List.set_cons_succ])
          | ((with_reducible refine wpQuiet_step (fun K hK => ?_)); go_simp; first | ((with_reducible refine hK _ ?_); clear hK K) | (with_reducible apply Exists.intro; (with_reducible refine ⟨fun P => ?_, hK _ ?_⟩); ((go_at_call 23; exact later_of (cA P.w))); clear hK K))
          | ((with_reducible refine BigFrame.wpQuiet_skip (by first | kernel_rfl | with_unfolding_all rfl) ?_); simp only [Act.put, List.setIfInBounds_toArray, List.set_cons_zero, List.set_cons_succ]))
        with_reducible refine wpQuiet_nil ?_
        intro _ hw9
        obtain ⟨P9, rfl⟩ := hw9
        have hb9 := hb.trans (P9.h.mono hb.size)
        go_wp2_with (fail)
        go_roundw
        case rel => exact ⟨k + 1, HLT.out, by go_num, hid (fun Y hY => by
          rw [take_snocW HX.out] at hY
          rcases List.mem_append.1 hY with hY | hY
          · exact HALL.out Y hY
          · rw [List.mem_singleton.1 hY]; exact HG.out), hb9⟩
        case measure => exact meas_wi HLT.out
    · obtain rfl : k = n := by omega
      have c1 : ¬ (k : Int) < k := by omega
      have HF := hid (show honB b Xs s L = false by
        have hall := HALL.out
        rw [List.take_of_length_le (by rw [HN.out]; exact Nat.le_refl _)] at hall
        unfold honB
        rw [List.any_eq_false]
        exact fun X hX => by rw [hall X hX]; simp)
      go_wp2_with (fail)
      go_ret
      exact ⟨by rw [HF.out]; rfl, h1.trans (hb.mono h1.size)⟩

set_option maxRecDepth 100000 in
set_option maxHeartbeats 20000000 in
theorem wrhidden_any (L : Int) (bt : Nat) (hbt : bt < 256) (sd : Int) (A : Option Addr) (n c : Nat) (Xs : List WiD) (hn : Xs.length = n) (bn : n ≤ 1000) (w : World) (hr : WiRd w A Xs) :
    Calls Tryz.prog 41 #[.slice A n c, .int .i64 L, .int .i64 bt, .int .i64 sd] w fun e w' => e = .returned (.bool (!shwB Xs L bt sd)) ∧ Below w.heap.size w w' := by
  have HN := hid hn
  have hu := Tryz.underlying24
  clear hn
  go_enter Tryz.func41, Tryz.ntmps41
  go_wp2_with (fail)
  go_loopw [9] (fun i wr => ∃ k : Nat, k ≤ n ∧ i = .int .i64 k ∧ Hid (∀ X ∈ Xs.take k, shwG L bt sd X = false) ∧ Below w.heap.size w wr) (fun i _ => n - (intOf i).toNat)
  case atStart => exact ⟨0, by omega, rfl, hid (by simp), Below.refl _ _⟩
  case round =>
    obtain ⟨k, hkn, rfl, HALL, hb⟩ := hrel
    by_cases hlt : k < n
    · obtain ⟨X, hX⟩ : ∃ X, Xs[k]? = some X := ⟨_, List.getElem?_eq_getElem (by have := HN.out; omega)⟩
      obtain ⟨g, q, hg, hXo, hix⟩ := hr.pickV c HN.out hX
      have b1 : (k : Int) < n := by omega
      have fX := hg.below hb
      have k0 : wr.cell? ⟨g, q, none⟩ = some (.int .i64 X.l) := by
        have := fX 0 (.int .i64 X.l) (by rw [Array.getElem?_toList]; exact X.c0)
        rwa [Nat.add_zero] at this
      have k1 : wr.rangeAt g (q + 1) (X.a.map u8v) := fun j u hj => by rw [Nat.add_assoc]; exact fX (1 + j) u (by rw [Array.getElem?_toList]; exact X.ckey j u hj)
      have hzX : (Tryz.prog.info? 24).map (·.size) = some (X.a.map u8v).length := by rw [List.length_map, (show X.a.length = 32 from hXo)]; exact sizeId
      obtain ⟨u, hu1⟩ : ∃ u : Int, ((bitZ X.a bt : Nat) : Int) = u := ⟨_, rfl⟩
      have cB : ∀ W : World, Calls Tryz.prog 19 #[.agg (List.map u8v X.a).toArray, .int .i64 bt] W fun e w' => e = .returned (.int .i64 u) ∧ Below W.heap.size W w' := fun W => by
        have h := rbit6_any X.a hXo bt hbt W
        rw [hu1] at h
        exact h
      obtain ⟨t, ht⟩ : ∃ t, decide (X.l = L) = t := ⟨_, rfl⟩
      obtain ⟨cv, hcv⟩ : ∃ cv, decide (u = sd) = cv := ⟨_, rfl⟩
      have e1 : (X.l == L) = t := by rw [← ht]; rfl
      have e2 : (u == sd) = cv := by rw [← hcv]; rfl
      have HG0 := hid (show shwG L bt sd X = (t && cv) by unfold shwG; rw [ht, hu1, hcv])
      have HX := hid hX
      have HLT := hid (show k + 1 ≤ n from hlt)
      clear hX hg hcv ht fX hlt hkn hu1
      cases t with
      | true =>
        cases cv with
        | true =>
          have HT := hid (show shwB Xs L bt sd = true from List.any_eq_true.2 ⟨X, List.mem_of_getElem? HX.out, HG0.out⟩)
          go_wp2_with (first
            | (with_reducible refine wpList_load_if (by with_unfolding_all rfl) 24 _ rfl _ _ rfl (X.a.map u8v) _ k1 hu rfl hzX ?_)
            | (go_at_call 19; (with_reducible refine (cB _).mono ?_); rintro e3 w3 ⟨rfl, hb3⟩))
          go_ret
          exact ⟨by rw [HT.out]; rfl, hb.trans (hb3.mono hb.size)⟩
        | false =>
          have HG := hid (show shwG L bt sd X = false from HG0.out)
          go_wp2_with (first
            | (with_reducible refine wpList_load_if (by with_unfolding_all rfl) 24 _ rfl _ _ rfl (X.a.map u8v) _ k1 hu rfl hzX ?_)
            | (go_at_call 19; (with_reducible refine (cB _).mono ?_); rintro e3 w3 ⟨rfl, hb3⟩))
          go_roundw
          case rel => exact ⟨k + 1, HLT.out, by go_num, hid (fun Y hY => by
            rw [take_snocW HX.out] at hY
            rcases List.mem_append.1 hY with hY | hY
            · exact HALL.out Y hY
            · rw [List.mem_singleton.1 hY]; exact HG.out), hb.trans (hb3.mono hb.size)⟩
          case measure => exact meas_wi HLT.out
      | false =>
        have HG := hid (show shwG L bt sd X = false from HG0.out)
        go_wp2_with (fail)
        go_roundw
        case rel => exact ⟨k + 1, HLT.out, by go_num, hid (fun Y hY => by
          rw [take_snocW HX.out] at hY
          rcases List.mem_append.1 hY with hY | hY
          · exact HALL.out Y hY
          · rw [List.mem_singleton.1 hY]; exact HG.out), hb⟩
        case measure => exact meas_wi HLT.out
    · obtain rfl : k = n := by omega
      have c1 : ¬ (k : Int) < k := by omega
      have HF := hid (show shwB Xs L bt sd = false by
        have hall := HALL.out
        rw [List.take_of_length_le (by rw [HN.out]; exact Nat.le_refl _)] at hall
        unfold shwB
        rw [List.any_eq_false]
        exact fun X hX => by rw [hall X hX]; simp)
      go_wp2_with (fail)
      go_ret
      exact ⟨by rw [HF.out]; rfl, hb⟩

end Go.Proofs.YticpdepbgcagaaaGreat

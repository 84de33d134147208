/- grant: granted. -/
import Derived.Test.YtapgiagpjplpdaaGreatGr6
import Derived.Great.BuildSlice
set_option linter.unusedSimpArgs false
set_option linter.unusedVariables false
namespace Go.Proofs.YtapgiagpjplpdaaGreat
open Go.RowKit Go.Qc Go.Shelf
attribute [local go_sem] txt_size txt_append ib_fold txt_toL

theorem put_getG0 (off : Nat) : ∀ (l : List Value) (k : Nat) (cs : Array Value), off + k + l.length ≤ cs.size →
    ((l.zipIdx k).foldl (fun cs x => cs.setIfInBounds (off + x.2) x.1) cs).size = cs.size ∧ ∀ i, ((l.zipIdx k).foldl (fun cs x => cs.setIfInBounds (off + x.2) x.1) cs)[i]? = if off + k ≤ i ∧ i < off + k + l.length then l[i - off - k]? else cs[i]?
  | [], k, cs, _ => ⟨rfl, fun i => by simp; omega⟩
  | v :: l, k, cs, h => by
    simp only [List.length_cons] at h
    obtain ⟨h1, h2⟩ := put_getG0 off l (k + 1) (cs.setIfInBounds (off + k) v) (by simp; omega)
    rw [List.zipIdx_cons, List.foldl_cons]
    refine ⟨by rw [h1]; simp, fun i => ?_⟩
    rw [h2]
    simp only [List.length_cons]
    by_cases c1 : off + (k + 1) ≤ i ∧ i < off + (k + 1) + l.length
    · rw [if_pos c1, if_pos (by omega), show i - off - k = (i - off - (k + 1)) + 1 by omega, List.getElem?_cons_succ]
    · rw [if_neg c1, Array.getElem?_setIfInBounds]
      by_cases c2 : off + k = i
      · subst c2
        rw [if_pos rfl, if_pos (by omega), if_pos (by omega), show off + k - off - k = 0 by omega]; rfl
      · rw [if_neg c2, if_neg (by omega)]
theorem put_get_G (off : Nat) (X : Array Value) (cs : Array Value) (h : off + X.size ≤ cs.size) :
    (X.zipIdx.foldl (fun cs (c, j) => cs.setIfInBounds (off + j) c) cs).size = cs.size ∧ ∀ i, (X.zipIdx.foldl (fun cs (c, j) => cs.setIfInBounds (off + j) c) cs)[i]? = if off ≤ i ∧ i < off + X.size then X.toList[i - off]? else cs[i]? := by
  have := put_getG0 off X.toList 0 cs (by rw [Array.length_toList]; omega)
  rw [Array.length_toList, Nat.add_zero, show ((X.toList).zipIdx 0).foldl (fun cs x => cs.setIfInBounds (off + x.2) x.1) cs = X.zipIdx.foldl (fun cs (c, j) => cs.setIfInBounds (off + j) c) cs by rw [← Array.foldl_toList, Array.toList_zipIdx]] at this
  exact this

theorem gr_sl_to (A : Option Addr) (n c k : Nat) (hA : A = none → n = 0 ∧ c = 0) (hk : k ≤ n) (hc : n ≤ c) (Xs : List GrD) (hn : Xs.length = n) : (∀ W, (Instr.sliceAt 46 (.slice A n c) none (some (.int .i64 (k : Int))) none).run Tryz.prog W = .ok (.slice A k c) W) ∧ (A = none → k = 0 ∧ c = 0) ∧ ∀ w, GrRd w A Xs → GrRd w A (Xs.take k) := by
  obtain ⟨i0, hi, h66⟩ := Gr_info3
  have h1 : (0 : Int) ≤ (k : Int) ∧ (k : Int) ≤ (c : Int) := by omega
  refine ⟨fun W => ?_, fun e => ⟨by have := (hA e).1; omega, (hA e).2⟩, fun w h => GrRd.upto (Ys := Xs.drop k) (by rw [List.take_append_drop]; exact h)⟩
  cases A with
  | none =>
    obtain ⟨rfl, rfl⟩ := hA rfl
    obtain rfl : k = 0 := by omega
    simp [Instr.sliceAt, Instr.slice, Instr.sliceBounds, run_underlying Tryz.underlying46, run_sliceBound, sizeOf, typeInfo, hi, h66, Addr.add_lit, Int.toNat_natCast]
  | some ad =>
    simp [Instr.sliceAt, Instr.slice, Instr.sliceBounds, run_underlying Tryz.underlying46, run_sliceBound, h1, sizeOf, typeInfo, hi, h66, Addr.add_lit, Int.toNat_natCast]
    all_goals first | omega | (intro _; simp [Addr.add]) | skip
theorem gr_sl_from (A : Option Addr) (n c k : Nat) (hA : A = none → n = 0 ∧ c = 0) (hk : k ≤ n) (hc : n ≤ c) (Xs : List GrD) (hn : Xs.length = n) (w0 : World) (h0 : GrRd w0 A Xs) : ∃ A', (∀ W, (Instr.sliceAt 46 (.slice A n c) (some (.int .i64 (k : Int))) none none).run Tryz.prog W = .ok (.slice A' (n - k) (c - k)) W) ∧ (A' = none → n - k = 0 ∧ c - k = 0) ∧ ∀ w, Below w0.heap.size w0 w → GrRd w A' (Xs.drop k) := by
  obtain ⟨i0, hi, h66⟩ := Gr_info3
  have hK : ∀ X ∈ Xs.drop k, X.ok := fun X hX => h0.1 X (List.mem_of_mem_drop hX)
  have h1 : (0 : Int) ≤ (k : Int) ∧ (k : Int) ≤ (n : Int) := by omega
  cases A with
  | none =>
    obtain ⟨rfl, rfl⟩ := hA rfl
    obtain rfl : k = 0 := by omega
    refine ⟨none, fun W => ?_, fun _ => ⟨rfl, rfl⟩, fun w hw => ?_⟩
    · simp [Instr.sliceAt, Instr.slice, Instr.sliceBounds, run_underlying Tryz.underlying46, run_sliceBound, sizeOf, typeInfo, hi, h66, Addr.add_lit, Int.toNat_natCast]
    · rw [List.eq_nil_of_length_eq_zero hn]; exact GrRd.nil_ _ _
  | some ad =>
    by_cases hkc : c = k
    · subst hkc
      have hd : Xs.drop c = [] := List.drop_of_length_le (by omega)
      refine ⟨some ad, fun W => ?_, fun e => (by cases e), fun w hw => by rw [hd]; exact GrRd.nil_ _ _⟩
      simp [Instr.sliceAt, Instr.slice, Instr.sliceBounds, run_underlying Tryz.underlying46, run_sliceBound, h1, sizeOf, typeInfo, hi, h66, Addr.add_lit, Int.toNat_natCast]
      all_goals first | omega | skip
    · rcases h0.2 with h | ⟨g, q, e, hr⟩
      · subst h
        obtain rfl : n = 0 := hn.symm
        obtain rfl : k = 0 := by omega
        refine ⟨some ad, fun W => ?_, fun e => (by cases e), fun w hw => GrRd.nil_ _ _⟩
        simp [Instr.sliceAt, Instr.slice, Instr.sliceBounds, run_underlying Tryz.underlying46, run_sliceBound, h1, sizeOf, typeInfo, hi, h66, Addr.add_lit, Int.toNat_natCast, hkc, Addr.add]
      · cases e
        refine ⟨some ⟨g, q + k * 66, none⟩, fun W => ?_, fun e => (by cases e), fun w hw => ⟨hK, .inr ⟨g, q + k * 66, rfl, fun j v hj => ?_⟩⟩⟩
        · simp [Instr.sliceAt, Instr.slice, Instr.sliceBounds, run_underlying Tryz.underlying46, run_sliceBound, h1, sizeOf, typeInfo, hi, h66, Addr.add_lit, Int.toNat_natCast, hkc]
          all_goals first | omega | skip
        · have e1 : (grsV Xs)[k * 66 + j]? = some v := by
            have e2 : grsV Xs = grsV (Xs.take k) ++ grsV (Xs.drop k) := by rw [← grsV_append, List.take_append_drop]
            have e3 := grsV_length (Xs.take k) (fun X hX => h0.1 X (List.mem_of_mem_take hX))
            rw [List.length_take, Nat.min_eq_left (by omega)] at e3
            rw [e2, List.getElem?_append_right (by omega), e3, show k * 66 + j - k * 66 = j by omega]
            exact hj
          rw [Nat.add_assoc]
          exact (hr.below hw) _ _ e1
theorem wp_build1g {w : World} {o : Oper} {a : Act} {K : Act → World → Prop} {Q : Exit → Act → World → Prop} (x : Operand) (ho : o.op = .buildSlice 46 1 #[(0, x)])
    (X : GrD) (hX : X.ok) (hx : a.eval x = .agg X.cs)
    (h : ∀ cs, GrRd (w.alloc (.cells cs 70)) (some ⟨w.heap.size, 0, none⟩) [X] → K (a.put o.dst (.slice (some ⟨w.heap.size, 0, none⟩) 1 1)) (w.alloc (.cells cs 70))) :
    o.wp Tryz.prog a w K Q := by
  obtain ⟨j0, Z, hj, hjz, hjs, hZ, _⟩ := Gr_info4
  have lx : X.cs.size = 66 := GrD.size hX
  obtain ⟨zs, hzs⟩ : ∃ zs : Array Value, zs = (Array.range (1 * j0.size)).map ((Value.agg Z).cells[· % (Value.agg Z).cells.size]!) := ⟨_, rfl⟩
  have hz : zs.size = 66 := by rw [hzs, hjs]; simp
  obtain ⟨s1, g1⟩ := put_get_G 0 X.cs zs (by rw [hz, lx]; decide)
  generalize hc1 : X.cs.zipIdx.foldl (fun cs (c, j) => cs.setIfInBounds (0 + j) c) zs = c1 at s1 g1
  refine wp_buildSlice 46 70 1 #[(0, x)] ho c1 j0 (.agg Z) Tryz.underlying46 hj hjz (by rw [hjs]; decide) (by rw [hjs]; decide) ?_ (h c1 ⟨fun Y hY => by rw [List.mem_singleton.1 hY]; exact hX, .inr ⟨w.heap.size, 0, rfl, ?_⟩⟩)
  · rw [← hzs, hjs]
    have e1 : (Value.agg X.cs).cells = X.cs := rfl
    simp only [List.map_toArray, List.map_cons, List.map_nil, hx, Instr.fill, e1, lx, hz]
    rw [if_neg (by decide)]
    simp only [Nat.zero_mul]
    rw [hc1]
  · intro j u hj'
    have hj2 : X.cs.toList[j]? = some u := by simpa [grsV] using hj'
    have hlt : j < 66 := by have := (List.getElem?_eq_some_iff.1 hj2).1; rw [Array.length_toList, lx] at this; exact this
    rw [cell_of_row _ _ _ _ _ _ (heap_alloc_new w _), Nat.zero_add, g1, lx, if_pos (by omega), Nat.sub_zero]
    exact hj2

theorem yields_gr {ops : Array Oper} {S : World → Prop} {op : Oper} {a : Act} (hw : Region.wanted op (yielded ops a.tmps) = true) (x : Operand) (ho : op.op = .load 70 x) (b o : Nat) (hx : a.eval x = .pointer (some ⟨b, o, none⟩)) (X : GrD) (hK : X.ok) (hS : ∀ w, S w → w.rangeAt b o X.cs.toList) : YieldsIf Tryz.prog ops S op (.agg X.cs) a := by
  have := yieldsIf_load_mid (P := Tryz.prog) (ops := ops) (S := S) hw 70 x ho b o hx X.cs.toList _ hS Tryz.underlying70 rfl (by rw [Array.length_toList]; exact Gr_info X hK)
  rwa [Array.toArray_toList] at this
/-- With one more, at its place. -/
def putG (Xs : List GrD) (Y : GrD) : List GrD := Xs.take (plG Xs Y) ++ Y :: Xs.drop (plG Xs Y)
/-- What granted answers. -/
def GdQ (N : Nat) (root : List UInt8) (Xs : List GrD) (Y : GrD) (base : Nat) (e : Ending) (w' : World) : Prop :=
  ((thereB Xs Y (plG Xs Y) = true ∨ Y.k = root) ∧ e = .returned (.tuple #[.slice none 0 0, .int .i64 7])) ∨
  (¬ (thereB Xs Y (plG Xs Y) = true ∨ Y.k = root) ∧ 500 ≤ N ∧ e = .returned (.tuple #[.slice none 0 0, .int .i64 14])) ∨
  (¬ (thereB Xs Y (plG Xs Y) = true ∨ Y.k = root) ∧ N < 500 ∧ ∃ v, e = .returned (.tuple #[v, .int .i64 0]) ∧ GrOw w' base v (putG Xs Y).length (putG Xs Y))
theorem gr_three (W : World) (a b c : Value) : ∀ j u, ([a, b, c] : List Value)[j]? = some u → (W.alloc (.cells #[a, b, c] 46)).cell? ((⟨W.heap.size, 0, none⟩ : Addr).add j) = some u := by
  intro j u hj
  have hk := Blk.new W 46 #[a, b, c]
  rw [Addr.add_lit, Nat.zero_add]
  refine hk.cell_ ?_
  simpa using hj

theorem gr_flat (Xs : List GrD) (Y : GrD) (P : Nat) (hP : plG Xs Y = P) (a b c : Value) : ([(a, Xs.take P), (b, [Y]), (c, Xs.drop P)] : List (Value × List GrD)).flatMap (·.2) = putG Xs Y := by
  unfold putG
  rw [hP]
  simp

theorem gr_cells3 {W : World} {ad : Addr} {a b c : Value} {r s t : List GrD} (h0 : W.cell? (ad.add 0) = some a) (h1 : W.cell? (ad.add 1) = some b) (h2 : W.cell? (ad.add 2) = some c) (g0 : GSl W a r) (g1 : GSl W b s) (g2 : GSl W c t) : ∀ (j : Nat) (x : Value × List GrD), [(a, r), (b, s), (c, t)][j]? = some x → W.cell? (ad.add j) = some x.1 ∧ GSl W x.1 x.2
  | 0, x, h => by cases h; exact ⟨h0, g0⟩
  | 1, x, h => by cases h; exact ⟨h1, g1⟩
  | 2, x, h => by cases h; exact ⟨h2, g2⟩
  | j + 3, x, h => by simp at h

set_option maxRecDepth 100000 in
set_option maxHeartbeats 20000000 in
theorem ggranted_any (root : List UInt8) (hR : root.length = 32) (tb : Nat) (AG : Option Addr) (N C : Nat) (Xs : List GrD) (hn : Xs.length = N) (bn : N ≤ 900) (hNC : N ≤ C) (hA : AG = none → N = 0 ∧ C = 0) (Y : GrD) (hY : Y.ok) (w : World) (ht : TbX w tb root (.slice AG N C)) (hr : GrRd w AG Xs) :
    Calls Tryz.prog 42 #[.pointer (some ⟨tb, 0, none⟩), .agg Y.cs] w fun e w' => GdQ N root Xs Y w.heap.size e w' ∧ Below w.heap.size w w' := by
  have hba := (Below.refl w.heap.size w).alloc (Nat.le_refl _) (.cells Y.cs 70)
  have hnw := GrX.new w Y
  have ht2 := ht.below hba
  have hr2 := hr.below hba
  have hu := Tryz.underlying23
  have hzy : (Tryz.prog.info? 23).map (·.size) = some (Y.k.map u8v).length := by rw [List.length_map, hY.1]; exact sizeId
  have hzr : (Tryz.prog.info? 23).map (·.size) = some (root.map u8v).length := by rw [List.length_map, hR]; exact sizeId
  obtain ⟨t, hte⟩ : ∃ t, decide (Y.k = root) = t := ⟨_, rfl⟩
  have heq : ∀ W, (Op.equalIn 10000 23 (.agg (List.map u8v Y.k).toArray) (.agg (List.map u8v root).toArray)).run Tryz.prog W = .ok t W := fun W => (ids_eq W Y.k root hY.1 hR).trans (by rw [hte])
  have HT := hid hte
  have HPL := hid (plG_ok Xs Y)
  have hGQ := hid (fun e w' => (Iff.rfl : GdQ N root Xs Y w.heap.size e w' ↔ GdQ N root Xs Y w.heap.size e w'))
  obtain ⟨P, hP⟩ : ∃ P, plG Xs Y = P := ⟨_, rfl⟩
  obtain ⟨fb, hfb⟩ : ∃ fb, thereB Xs Y P = fb := ⟨_, rfl⟩
  have HP := hid hP
  have HFB := hid hfb
  have hPN : P ≤ N := by have := HPL.out.le; rw [hP, hn] at this; exact this
  have cB : ∀ W : World, Below (w.alloc (.cells Y.cs 70)).heap.size (w.alloc (.cells Y.cs 70)) W → Calls Tryz.prog 66 #[.slice AG N C, .agg Y.cs, .func (.func 67) #[] #[]] W fun e w' => e = .returned (.tuple #[.int .i64 (P : Nat), .bool fb]) ∧ Below W.heap.size W w' := fun W hW => by
    have := gbs_any AG N C Xs Y hY W hn (by omega) (hr2.below hW)
    rw [hP, hfb] at this
    exact this
  clear hte ht hr hP hfb hGQ
  go_enter Tryz.func42, Tryz.ntmps42
  go_wp2
  generalize w.alloc (.cells Y.cs 70) = w0 at *
  have f1 : ∀ Q : LaterW w0, Q.w.cell? ⟨tb, 32, none⟩ = some (.slice AG N C) := fun Q => gr_cell Q.h (ht2.row hR)
  have fa := range_later hnw.range
  have cBP := fun Q : LaterW w0 => cB Q.w Q.h
  refine wp_region_later mixed10 (by kernel_rfl) ?_
  repeat (first
    | ((with_reducible refine wpQuiet_load_gr (by with_unfolding_all rfl) _ rfl _ _ rfl Y fa hY ?_); simp only [Act.put, List.setIfInBounds_toArray, List.set_cons_zero, List.set_cons_succ])
    | ((with_reducible refine wpQuiet_step (fun K hK => ?_)); go_simp; first | ((with_reducible refine hK _ ?_); clear hK K) | (with_reducible apply Exists.intro; (with_reducible refine ⟨fun P => ?_, hK _ ?_⟩); ((go_at_call 66; exact later_of (cBP P))); clear hK K))
    | ((with_reducible refine BigFrame.wpQuiet_skip (by first | kernel_rfl | with_unfolding_all rfl) ?_); simp only [Act.put, List.setIfInBounds_toArray, List.set_cons_zero, List.set_cons_succ]))
  with_reducible refine wpQuiet_nil ?_
  intro _ hw9
  obtain ⟨P9, rfl⟩ := hw9
  have hp := P9.h
  generalize P9.w = w1 at *
  have hb1 := hba.trans (hp.mono hba.size)
  have hnw1 := hnw.below hp
  have ht1 := ht2.below hp
  have hr1 := hr2.below hp
  clear f1 fa cBP cB hnw ht2 hr2 hp
  go_wp2
  have fy := range_later hnw1.key
  have fr := range_later ht1.key
  cases fb with
  | true =>
    refine wp_region_later mixed10 (by kernel_rfl) ?_
    repeat (first
      | ((with_reducible refine wpQuiet_step (fun K hK => ?_)); go_simp; first | ((with_reducible refine hK _ ?_); clear hK K) | (with_reducible apply Exists.intro; (with_reducible refine ⟨fun P => ?_, hK _ ?_⟩); ((fail)); clear hK K))
      | ((with_reducible refine BigFrame.wpQuiet_skip (by first | kernel_rfl | with_unfolding_all rfl) ?_); simp only [Act.put, List.setIfInBounds_toArray, List.set_cons_zero, List.set_cons_succ]))
    with_reducible refine wpQuiet_nil ?_
    intro _ hw9
    obtain ⟨P9, rfl⟩ := hw9
    have hb2 := hb1.trans (P9.h.mono hb1.size)
    generalize P9.w = w2 at *
    go_wp2
    go_ret2
    exact ⟨.inl ⟨.inl (by rw [HP.out]; exact HFB.out), rfl⟩, hb2⟩
  | false =>
    refine wp_region_later mixed10 (by kernel_rfl) ?_
    repeat (first
      | ((with_reducible refine wpQuiet_load_if (by with_unfolding_all rfl) 23 _ rfl _ _ rfl (Y.k.map u8v) _ fy hu (by with_unfolding_all rfl) hzy ?_); simp only [Act.put, List.setIfInBounds_toArray, List.set_cons_zero, List.set_cons_succ])
      | ((with_reducible refine wpQuiet_load_if (by with_unfolding_all rfl) 23 _ rfl _ _ rfl (root.map u8v) _ fr hu (by with_unfolding_all rfl) hzr ?_); simp only [Act.put, List.setIfInBounds_toArray, List.set_cons_zero, List.set_cons_succ])
      | ((with_reducible refine wpQuiet_step (fun K hK => ?_)); go_simp; first | ((with_reducible refine hK _ ?_); clear hK K) | (with_reducible apply Exists.intro; (with_reducible refine ⟨fun P => ?_, hK _ ?_⟩); ((fail)); clear hK K))
      | ((with_reducible refine BigFrame.wpQuiet_skip (by first | kernel_rfl | with_unfolding_all rfl) ?_); simp only [Act.put, List.setIfInBounds_toArray, List.set_cons_zero, List.set_cons_succ]))
    with_reducible refine wpQuiet_nil ?_
    intro _ hw9
    obtain ⟨P9, rfl⟩ := hw9
    have hp := P9.h
    generalize P9.w = w2 at *
    have hb2 := hb1.trans (hp.mono hb1.size)
    have hnw2 := hnw1.below hp
    have ht2 := ht1.below hp
    have hr2 := hr1.below hp
    have x32 := ht2.row hR
    clear fy fr hp hnw1 ht1 hr1
    cases t with
    | true =>
      go_wp2
      go_ret2
      exact ⟨.inl ⟨.inr (of_decide_eq_true HT.out), rfl⟩, hb2⟩
    | false =>
      have hno : ¬ (thereB Xs Y (plG Xs Y) = true ∨ Y.k = root) := fun h => h.elim (fun h => by rw [HP.out, HFB.out] at h; cases h) (of_decide_eq_false HT.out)
      have HNO := hid hno
      clear hno
      by_cases h5 : 500 ≤ N
      · have z1 : (500 : Int) ≤ N := by omega
        go_wp2
        go_ret2
        exact ⟨.inr (.inl ⟨HNO.out, h5, rfl⟩), hb2⟩
      · have z1 : ¬ (500 : Int) ≤ N := by omega
        obtain ⟨hto1, hAP, hto3⟩ := gr_sl_to AG N C P hA hPN hNC Xs hn
        obtain ⟨A2, hfr1, hA2, hfr3⟩ := gr_sl_from AG N C P hA hPN hNC Xs hn w2 hr2
        have hdr := below_drew10 w2
        have hb0 := hb2.trans (hdr.mono hb2.size)
        have hnw := hnw2.below hdr
        have hr0 := hr2.below hdr
        have x33 := gr_cell hdr x32
        have hf3 : ∀ W, Below w2.drew.heap.size w2.drew W → GrRd W A2 (Xs.drop P) := fun W hW => hfr3 W (hdr.trans (hW.mono hdr.size))
        have hlP : (Xs.take P).length = P := by rw [List.length_take, hn]; omega
        have hlD : (Xs.drop P).length = N - P := by rw [List.length_drop, hn]
        have hfl := fun a b c => gr_flat Xs Y P HP.out a b c
        have hlen : (putG Xs Y).length ≤ 1000 := by unfold putG; rw [HP.out, List.length_append, List.length_cons, hlP, hlD]; omega
        have hbs := hb0.size
        have HX := hid (show N < 500 by omega)
        obtain ⟨M1, hM1⟩ : ∃ M, M = N - P := ⟨_, rfl⟩
        obtain ⟨M2, hM2⟩ : ∃ M, M = C - P := ⟨_, rfl⟩
        rw [← hM1, ← hM2] at hfr1
        rw [← hM1] at hlD
        rw [← hM1, ← hM2] at hA2
        clear hfr3 hr2 hnw2 ht2 hdr hb1 hb2 hM1 hM2 hn
        go_wp2
        refine wp_region_held_drew (S := fun W => Below w2.drew.heap.size w2.drew W) (by kernel_rfl) (Below.refl _ _) (fun hHeld => ?_)
        generalize w2.drew = W0 at *
        refine' wpAnyH_take (i := 0) (v := .pointer (some ⟨tb, 0, none⟩)) rfl (by kernel_rfl) (by kernel_rfl) (by kernel_rfl) (fun _ _ _ h => h) (Or.inl ⟨by rfl, fun w' hw' => by go_simp⟩) hHeld ?_
        try simp only [Act.put, List.getElem_toArray, List.getElem_cons_succ, List.getElem_cons_zero, List.setIfInBounds_toArray, List.set_cons_zero, List.set_cons_succ]
        refine' wpAnyH_take (i := 1) (v := .pointer (some ⟨tb, 0, none⟩)) rfl (by kernel_rfl) (by kernel_rfl) (by kernel_rfl) (fun _ _ _ h => h) (Or.inl ⟨by rfl, fun w' hw' => by go_simp⟩) hHeld ?_
        try simp only [Act.put, List.getElem_toArray, List.getElem_cons_succ, List.getElem_cons_zero, List.setIfInBounds_toArray, List.set_cons_zero, List.set_cons_succ]
        refine' wpAnyH_take (i := 2) (v := .pointer (some ⟨tb, 32, none⟩)) rfl (by kernel_rfl) (by kernel_rfl) (by kernel_rfl) (fun _ _ _ h => h) (Or.inl ⟨by rfl, fun w' hw' => by go_simp⟩) hHeld ?_
        try simp only [Act.put, List.getElem_toArray, List.getElem_cons_succ, List.getElem_cons_zero, List.setIfInBounds_toArray, List.set_cons_zero, List.set_cons_succ]
        refine' wpAnyH_take (i := 3) (v := .slice AG N C) rfl (by kernel_rfl) (by kernel_rfl) (by kernel_rfl) (fun _ _ _ h => h) (Or.inl ⟨by rfl, fun w' hw' => by (have q := gr_cell hw' x33; go_simp)⟩) hHeld ?_
        try simp only [Act.put, List.getElem_toArray, List.getElem_cons_succ, List.getElem_cons_zero, List.setIfInBounds_toArray, List.set_cons_zero, List.set_cons_succ]
        refine' wpAnyH_take (i := 4) (v := .int .i64 (P : Nat)) rfl (by kernel_rfl) (by kernel_rfl) (by kernel_rfl) (fun _ _ _ h => h) (Or.inl ⟨by rfl, fun w' hw' => by go_simp⟩) hHeld ?_
        try simp only [Act.put, List.getElem_toArray, List.getElem_cons_succ, List.getElem_cons_zero, List.setIfInBounds_toArray, List.set_cons_zero, List.set_cons_succ]
        refine' wpAnyH_take (i := 5) (v := .slice AG P C) rfl (by kernel_rfl) (by kernel_rfl) (by kernel_rfl) (fun _ _ _ h => h) (Or.inl ⟨by rfl, fun w' hw' => by go_simp⟩) hHeld ?_
        try simp only [Act.put, List.getElem_toArray, List.getElem_cons_succ, List.getElem_cons_zero, List.setIfInBounds_toArray, List.set_cons_zero, List.set_cons_succ]
        refine' wpAnyH_take (i := 6) (v := .agg Y.cs) rfl (by kernel_rfl) (by kernel_rfl) (by kernel_rfl) (fun _ _ _ h => h) (yields_gr (by rfl) _ rfl _ _ rfl Y hY (fun w' hw' => (hnw.below hw').range)) hHeld ?_
        try simp only [Act.put, List.getElem_toArray, List.getElem_cons_succ, List.getElem_cons_zero, List.setIfInBounds_toArray, List.set_cons_zero, List.set_cons_succ]
        refine' wpAnyH_take (i := 8) (v := .pointer (some ⟨tb, 0, none⟩)) rfl (by kernel_rfl) (by kernel_rfl) (by kernel_rfl) (fun _ _ _ h => h) (Or.inl ⟨by rfl, fun w' hw' => by go_simp⟩) hHeld ?_
        try simp only [Act.put, List.getElem_toArray, List.getElem_cons_succ, List.getElem_cons_zero, List.setIfInBounds_toArray, List.set_cons_zero, List.set_cons_succ]
        refine' wpAnyH_take (i := 9) (v := .pointer (some ⟨tb, 0, none⟩)) rfl (by kernel_rfl) (by kernel_rfl) (by kernel_rfl) (fun _ _ _ h => h) (Or.inl ⟨by rfl, fun w' hw' => by go_simp⟩) hHeld ?_
        try simp only [Act.put, List.getElem_toArray, List.getElem_cons_succ, List.getElem_cons_zero, List.setIfInBounds_toArray, List.set_cons_zero, List.set_cons_succ]
        refine' wpAnyH_take (i := 10) (v := .pointer (some ⟨tb, 32, none⟩)) rfl (by kernel_rfl) (by kernel_rfl) (by kernel_rfl) (fun _ _ _ h => h) (Or.inl ⟨by rfl, fun w' hw' => by go_simp⟩) hHeld ?_
        try simp only [Act.put, List.getElem_toArray, List.getElem_cons_succ, List.getElem_cons_zero, List.setIfInBounds_toArray, List.set_cons_zero, List.set_cons_succ]
        refine' wpAnyH_take (i := 11) (v := .slice AG N C) rfl (by kernel_rfl) (by kernel_rfl) (by kernel_rfl) (fun _ _ _ h => h) (Or.inl ⟨by rfl, fun w' hw' => by (have q := gr_cell hw' x33; go_simp)⟩) hHeld ?_
        try simp only [Act.put, List.getElem_toArray, List.getElem_cons_succ, List.getElem_cons_zero, List.setIfInBounds_toArray, List.set_cons_zero, List.set_cons_succ]
        refine' wpAnyH_take (i := 12) (v := .int .i64 (P : Nat)) rfl (by kernel_rfl) (by kernel_rfl) (by kernel_rfl) (fun _ _ _ h => h) (Or.inl ⟨by rfl, fun w' hw' => by go_simp⟩) hHeld ?_
        try simp only [Act.put, List.getElem_toArray, List.getElem_cons_succ, List.getElem_cons_zero, List.setIfInBounds_toArray, List.set_cons_zero, List.set_cons_succ]
        refine' wpAnyH_take (i := 13) (v := .slice A2 M1 M2) rfl (by kernel_rfl) (by kernel_rfl) (by kernel_rfl) (fun _ _ _ h => h) (Or.inl ⟨by rfl, fun w' hw' => by go_simp⟩) hHeld ?_
        try simp only [Act.put, List.getElem_toArray, List.getElem_cons_succ, List.getElem_cons_zero, List.setIfInBounds_toArray, List.set_cons_zero, List.set_cons_succ]
        refine wpAnyH_ready (rs := [7]) (by kernel_rfl) (by simp) ?_
        refine AllReadyH.cons rfl (fun K hK => ?_) AllReadyH.nil
        refine (if_pos (by kernel_rfl)).mpr ?_
        refine wp_build1g _ rfl Y hY rfl ?_
        intro cs hrd1
        have hb7 := (Below.refl W0.heap.size W0).alloc (Nat.le_refl _) (.cells cs 70)
        refine hK.out _ _ hb7 (fun hHeld => ?_)
        clear hK K
        try simp only [Act.put, List.getElem_toArray, List.getElem_cons_succ, List.getElem_cons_zero, List.setIfInBounds_toArray, List.set_cons_zero, List.set_cons_succ]
        refine wpAnyH_ready (rs := [14]) (by kernel_rfl) (by simp) ?_
        refine AllReadyH.cons rfl (fun K hK => ?_) AllReadyH.nil
        have hb8 := hb7.alloc hb7.size (.cells #[.slice AG P C, .slice (some ⟨W0.heap.size, 0, none⟩) 1 1, .slice A2 M1 M2] 46)
        have h3 := gr_three (W0.alloc (.cells cs 70)) (.slice AG P C) (.slice (some ⟨W0.heap.size, 0, none⟩) 1 1) (.slice A2 M1 M2)
        rw [World.size_alloc] at h3
        go_simp
        refine hK.out _ _ hb8 (fun hHeld => ?_)
        clear hK K
        try simp only [Act.put, List.getElem_toArray, List.getElem_cons_succ, List.getElem_cons_zero, List.setIfInBounds_toArray, List.set_cons_zero, List.set_cons_succ]
        refine wpAnyH_ready (rs := [15]) (by kernel_rfl) (by simp) ?_
        refine AllReadyH.cons rfl (fun K hK => ?_) AllReadyH.nil
        generalize hW8 : (W0.alloc (.cells cs 70)).alloc (.cells #[.slice AG P C, .slice (some ⟨W0.heap.size, 0, none⟩) 1 1, .slice A2 M1 M2] 46) = W8 at *
        have hrd8 := hrd1.below (show Below (W0.alloc (.cells cs 70)).heap.size (W0.alloc (.cells cs 70)) W8 from hW8 ▸ (Below.refl _ _).alloc (Nat.le_refl _) _)
        have cC := gconcat_any ⟨W0.heap.size + 1, 0, none⟩ 3 3 [(.slice AG P C, Xs.take P), (.slice (some ⟨W0.heap.size, 0, none⟩) 1 1, [Y]), (.slice A2 M1 M2, Xs.drop P)] rfl (by decide) (by rw [hfl]; exact hlen) W8 (fun W hW j x hx => gr_cells3 (gr_cell hW (h3 0 _ rfl)) (gr_cell hW (h3 1 _ rfl)) (gr_cell hW (h3 2 _ rfl)) ⟨AG, P, C, rfl, hlP, hAP, hto3 W (hr0.below (hb8.trans (hW.mono hb8.size)))⟩ ⟨_, 1, 1, rfl, rfl, (fun h => by cases h), hrd8.below hW⟩ ⟨A2, M1, M2, rfl, hlD, hA2, hf3 W (hb8.trans (hW.mono hb8.size))⟩ j x hx)
        rw [hfl] at cC
        go_simp
        (with_reducible refine cC.mono ?_)
        rintro e9 w9 ⟨v9, rfl, hown9, hb9⟩
        refine hK.out _ _ (hb8.trans (hb9.mono hb8.size)) (fun hHeld => ?_)
        clear hK K
        try simp only [Act.put, List.getElem_toArray, List.getElem_cons_succ, List.getElem_cons_zero, List.setIfInBounds_toArray, List.set_cons_zero, List.set_cons_succ]
        refine wpAnyH_ready (rs := [16]) (by kernel_rfl) (by simp) ?_
        refine AllReadyH.cons rfl (fun K hK => ?_) AllReadyH.nil
        go_simp
        refine hK.out _ _ hHeld (fun hHeld => ?_)
        clear hK K
        try simp only [Act.put, List.getElem_toArray, List.getElem_cons_succ, List.getElem_cons_zero, List.setIfInBounds_toArray, List.set_cons_zero, List.set_cons_succ]
        refine wpAnyH_ready (rs := [17]) (by kernel_rfl) (by simp) ?_
        refine AllReadyH.cons rfl (fun K hK => ?_) AllReadyH.nil
        go_simp
        refine hK.out _ _ hHeld (fun hHeld => ?_)
        clear hK K
        try simp only [Act.put, List.getElem_toArray, List.getElem_cons_succ, List.getElem_cons_zero, List.setIfInBounds_toArray, List.set_cons_zero, List.set_cons_succ]
        refine wpAnyH_done (by kernel_rfl) ?_ _
        go_wp2
        go_ret2
        exact ⟨.inr (.inr ⟨HNO.out, HX.out, v9, rfl, hown9.le (Nat.le_trans hbs hb8.size)⟩), hb0.trans ((hb8.trans (hb9.mono hb8.size)).mono hbs)⟩

end Go.Proofs.YtapgiagpjplpdaaGreat
/- grant: applied, Apply. -/
set_option linter.unusedSimpArgs false
set_option linter.unusedVariables false
namespace Go.Proofs.YtapgiagpjplpdaaGreat
open Go.RowKit Go.Qc Go.Shelf
attribute [local go_sem] txt_size txt_append ib_fold txt_toL

theorem list32g (K : List UInt8) (h : K.length = 32) : ∃ x0 x1 x2 x3 x4 x5 x6 x7 x8 x9 x10 x11 x12 x13 x14 x15 x16 x17 x18 x19 x20 x21 x22 x23 x24 x25 x26 x27 x28 x29 x30 x31, K = [x0, x1, x2, x3, x4, x5, x6, x7, x8, x9, x10, x11, x12, x13, x14, x15, x16, x17, x18, x19, x20, x21, x22, x23, x24, x25, x26, x27, x28, x29, x30, x31] := by
  match K, h with
  | [x0, x1, x2, x3, x4, x5, x6, x7, x8, x9, x10, x11, x12, x13, x14, x15, x16, x17, x18, x19, x20, x21, x22, x23, x24, x25, x26, x27, x28, x29, x30, x31], _ => exact ⟨_, _, _, _, _, _, _, _, _, _, _, _, _, _, _, _, _, _, _, _, _, _, _, _, _, _, _, _, _, _, _, _, rfl⟩

set_option maxRecDepth 100000 in
set_option maxHeartbeats 20000000 in
theorem build_gr (p K b : List UInt8) (d : Int) (hK : K.length = 32) (hb : b.length = 32) (W : World) :
    (Instr.build 70 #[(0, .string (txt p)), (1, .agg (List.map u8v K).toArray), (2, .agg (List.map u8v b).toArray), (3, .int .i64 d)]).run Tryz.prog W = .ok (.agg (GrD.cs ⟨p, K, b, d⟩)) W := by
  obtain ⟨x0, x1, x2, x3, x4, x5, x6, x7, x8, x9, x10, x11, x12, x13, x14, x15, x16, x17, x18, x19, x20, x21, x22, x23, x24, x25, x26, x27, x28, x29, x30, x31, rfl⟩ := list32g K hK
  obtain ⟨y0, y1, y2, y3, y4, y5, y6, y7, y8, y9, y10, y11, y12, y13, y14, y15, y16, y17, y18, y19, y20, y21, y22, y23, y24, y25, y26, y27, y28, y29, y30, y31, rfl⟩ := list32g b hb
  kernel_rfl
theorem wpList_build_gr {w : World} {ops : Array Oper} {rest : List Oper} {o : Oper} {a : Act} {Q : Exit → Act → World → Prop} (hgd : o.guard = none) (parts : Array (Nat × Operand)) (ho : o.op = .build 70 parts)
    (X : GrD) (hX : X.ok) (hp : (parts.map fun (i, x) => (i, a.eval x)) = #[(0, .string (txt X.p)), (1, .agg (List.map u8v X.k).toArray), (2, .agg (List.map u8v X.b).toArray), (3, .int .i64 X.d)])
    (h : wpList Tryz.prog ops Q rest (a.put o.dst (.agg X.cs)) w) : wpList Tryz.prog ops Q (o :: rest) a w := by
  refine wpList_plain hgd fun K' hK' => ?_
  have hr := build_gr X.p X.k X.b X.d hX.1 hX.2 w
  rw [← hp] at hr
  unfold Oper.wp
  simp only [execOp, ho]
  simp only [Sem.run_bind, hr, Result.andThen, Sem.run_pure]
  exact hK' _ _ h
/-- What an operation makes of the grants, and the error. -/
abbrev newG (key : List UInt8) (D : OpD) : GrD := ⟨D.p, D.K, key, D.d⟩
def appG (root : List UInt8) (Xs : List GrD) (key : List UInt8) (D : OpD) : List GrD × Int :=
  if opE D ≠ 0 then ([], opE D)
  else if ¬ (D.k = 5 ∨ D.k = 6) then ([], 1)
  else if D.k = 6 then
    (if depV root Xs key D.p < 1 then ([], 10)
     else if (leftG D.K D.p Xs).length = Xs.length then ([], 6)
     else (iterH root Xs.length (leftG D.K D.p Xs), 0))
  else if depV root Xs key D.p ≤ D.d then ([], 10)
  else if thereB Xs (newG key D) (plG Xs (newG key D)) = true ∨ D.K = root then ([], 7)
  else if 500 ≤ Xs.length then ([], 14)
  else (putG Xs (newG key D), 0)
/-- What applied answers. -/
def ApQ2 (R : List GrD × Int) (base : Nat) (e : Ending) (w' : World) : Prop :=
  (R.2 ≠ 0 ∧ e = .returned (.tuple #[.slice none 0 0, .int .i64 R.2])) ∨ (R.2 = 0 ∧ ∃ v, e = .returned (.tuple #[v, .int .i64 0]) ∧ GrOw w' base v R.1.length R.1)
theorem iterH_ok {root : List UInt8} : ∀ (m : Nat) (l : List GrD), (∀ X ∈ l, X.ok) → ∀ X ∈ iterH root m l, X.ok
  | 0, l, h => h
  | m + 1, l, h => iterH_ok m (holdG root l) (fun X hX => h X (List.mem_filter.1 hX).1)

set_option maxRecDepth 100000 in
set_option maxHeartbeats 20000000 in
theorem gapplied_any (D : OpD) (hK : D.K.length = 32) (A : Option Addr) (n c : Nat) (B : Option Addr) (m d : Nat) (hlo : D.o.length = n) (bno : n ≤ 1000000) (hln : D.n.length = m) (bmo : m ≤ 1000000) (root : List UInt8) (hR : root.length = 32) (tb : Nat) (AG : Option Addr) (N C : Nat) (Xs : List GrD) (hn : Xs.length = N) (bn : N ≤ 900) (hNC : N ≤ C) (hA : AG = none → N = 0 ∧ C = 0) (key : List UInt8) (hk : key.length = 32) (w : World) (ht : TbX w tb root (.slice AG N C)) (hr : GrRd w AG Xs) (rA : Rd w A (D.o.map strV)) (rB : Rd w B (D.n.map strV)) :
    Calls Tryz.prog 23 #[.pointer (some ⟨tb, 0, none⟩), .agg (idVals key), .agg (opC D A n c B m d)] w fun e w' => ApQ2 (appG root Xs key D) w.heap.size e w' ∧ Below w.heap.size w w' := by
  have hka := range_blk (Blk.new w 23 (idVals key))
  have hba := (Below.refl w.heap.size w).alloc (Nat.le_refl _) (.cells (idVals key) 23)
  have hBA := (Below.refl (w.alloc (.cells (idVals key) 23)).heap.size (w.alloc (.cells (idVals key) 23))).alloc (Nat.le_refl _) (.cells (opC D A n c B m d) 34)
  have hbo := hba.alloc hba.size (.cells (opC D A n c B m d) 34)
  have hox := OpX.new (w.alloc (.cells (idVals key) 23)) D A n c B m d
  rw [World.size_alloc] at hox
  have hkk := hka.below hBA
  have ht2 := ht.below hbo
  have hr2 := hr.below hbo
  have rA2 := rA.below hbo
  have rB2 := rB.below hbo
  have hu := Tryz.underlying23
  have hzk : (Tryz.prog.info? 23).map (·.size) = some (key.map u8v).length := by rw [List.length_map, hk]; exact sizeId
  have hzd : (Tryz.prog.info? 23).map (·.size) = some (D.K.map u8v).length := by rw [List.length_map, hK]; exact sizeId
  obtain ⟨R, hRR⟩ : ∃ R, appG root Xs key D = R := ⟨_, rfl⟩
  have HRR := hid hRR
  rw [hRR]
  have cR := oright_any D hK A n c hlo bno B m d hln bmo _ rA2 rB2
  clear hRR hka hba hBA ht hr rA rB rA2 rB2
  by_cases he : opE D ≠ 0
  · have z1 : (opE D == 0) = false := by rw [beq_eq_false_iff_ne]; exact he
    have hRv : R = ([], opE D) := by rw [← HRR.out]; unfold appG; rw [if_pos he]
    have HRV := hid hRv
    clear hRv
    go_enter Tryz.func23, Tryz.ntmps23
    go_wp2_with (first
      | (with_reducible refine wpList_load_opx (by with_unfolding_all rfl) _ rfl _ rfl hox hK ?_)
      | (go_at_call 24; (with_reducible refine cR.mono ?_); rintro e2 w2 ⟨rfl, hb2⟩; replace hox := hox.below hb2))
    all_goals first
      | (go_ret2; exact ⟨.inl ⟨by rw [HRV.out]; exact he, by rw [HRV.out]; rfl⟩, hbo.trans (hb2.mono hbo.size)⟩)
      | (exfalso; simp_all)
  · have he0 : opE D = 0 := by simpa using he
    have hR1 : R = (if ¬ (D.k = 5 ∨ D.k = 6) then (([], 1) : List GrD × Int) else if D.k = 6 then (if depV root Xs key D.p < 1 then ([], 10) else if (leftG D.K D.p Xs).length = Xs.length then ([], 6) else (iterH root Xs.length (leftG D.K D.p Xs), 0)) else if depV root Xs key D.p ≤ D.d then ([], 10) else if thereB Xs (newG key D) (plG Xs (newG key D)) = true ∨ D.K = root then ([], 7) else if 500 ≤ Xs.length then ([], 14) else (putG Xs (newG key D), 0)) := by rw [← HRR.out]; unfold appG; rw [if_neg he]
    have HR1 := hid hR1
    rw [he0] at cR
    clear hR1 HRR he he0
    by_cases hp : D.k = 5 ∨ D.k = 6
    · have cP := fun W => policy_any D A n c B m d W
      rw [decide_eq_true hp] at cP
      go_enter Tryz.func23, Tryz.ntmps23
      go_wp2_with (first
        | (with_reducible refine wpList_load_opx (by with_unfolding_all rfl) _ rfl _ rfl hox hK ?_)
        | (go_at_call 24; (with_reducible refine cR.mono ?_); rintro e2 w2 ⟨rfl, hb2⟩; replace hox := hox.below hb2)
        | (go_at_call 22; (with_reducible refine (cP _).mono ?_); rintro e3 w3 ⟨rfl, hb3⟩))
      have hb23 := hb2.trans (hb3.mono hb2.size)
      have hb := hbo.trans (hb23.mono hbo.size)
      replace hox := hox.below hb3
      replace hkk := hkk.below hb23
      replace ht2 := ht2.below hb23
      replace hr2 := hr2.below hb23
      clear cP hb2 hb3 hb23 hbo cR
      obtain ⟨z, hz⟩ : ∃ z, depV root Xs key D.p = z := ⟨_, rfl⟩
      have hR2 : R = (if D.k = 6 then (if z < 1 then (([], 10) : List GrD × Int) else if (leftG D.K D.p Xs).length = Xs.length then ([], 6) else (iterH root Xs.length (leftG D.K D.p Xs), 0)) else if z ≤ D.d then ([], 10) else if thereB Xs (newG key D) (plG Xs (newG key D)) = true ∨ D.K = root then ([], 7) else if 500 ≤ Xs.length then ([], 14) else (putG Xs (newG key D), 0)) := by rw [HR1.out, if_neg (fun h => h hp), hz]
      have HR2 := hid hR2
      have f1 : ∀ Q : LaterW w3, Q.w.cell? ⟨tb, 32, none⟩ = some (.slice AG N C) := fun Q => gr_cell Q.h (ht2.row hR)
      have f2 : ∀ Q : LaterW w3, Q.w.cell? ⟨w.heap.size + 1, 1, none⟩ = some (.string (txt D.p)) := fun Q => (hox.below Q.h).c1
      have fk := range_later hkk
      have cD := fun Q : LaterW w3 => gdepth_any tb root hR (.slice AG N C) AG N C Xs hn (by omega) key hk D.p Q.w (ht2.below Q.h) (hr2.below Q.h)
      rw [hz] at cD
      unfold idVals at cD
      have HZ := hid hz
      clear hR2 HR1 hz
      go_wp2
      refine wp_region_later mixed10 (by kernel_rfl) ?_
      repeat (first
        | ((with_reducible refine wpQuiet_load_if (by with_unfolding_all rfl) 23 _ rfl _ _ rfl (key.map u8v) _ fk hu (by with_unfolding_all rfl) hzk ?_); simp only [Act.put, List.setIfInBounds_toArray, List.set_cons_zero, List.set_cons_succ])
        | ((with_reducible refine wpQuiet_step (fun K hK => ?_)); go_simp; first | ((with_reducible refine hK _ ?_); clear hK K) | (with_reducible apply Exists.intro; (with_reducible refine ⟨fun P => ?_, hK _ ?_⟩); ((go_at_call 37; exact later_of (cD P))); clear hK K))
        | ((with_reducible refine BigFrame.wpQuiet_skip (by first | kernel_rfl | with_unfolding_all rfl) ?_); simp only [Act.put, List.setIfInBounds_toArray, List.set_cons_zero, List.set_cons_succ]))
      with_reducible refine wpQuiet_nil ?_
      intro _ hw9
      obtain ⟨P9, rfl⟩ := hw9
      have hp9 := P9.h
      generalize P9.w = w4 at *
      replace hb := hb.trans (hp9.mono hb.size)
      replace hox := hox.below hp9
      replace hkk := hkk.below hp9
      replace ht2 := ht2.below hp9
      replace hr2 := hr2.below hp9
      clear f1 f2 fk cD hp9
      have o0 := hox.c0
      have o38 := hox.c38 hK
      have o1 := hox.c1
      have oK := hox.key
      by_cases h6 : D.k = 6
      · rw [if_pos h6] at HR2
        rw [h6] at o0
        by_cases hz1 : z < 1
        · rw [if_pos hz1] at HR2
          go_wp2
          go_ret2
          exact ⟨.inl ⟨by rw [HR2.out]; decide, by rw [HR2.out]; rfl⟩, hb⟩
        · rw [if_neg hz1] at HR2
          have cV := grevoked_any D hK A n c B m d root hR tb AG N C Xs hn (by omega) hA w4 ht2 hr2
          go_wp2_with (first
            | (with_reducible refine wpList_load_opx (by with_unfolding_all rfl) _ rfl _ rfl hox hK ?_)
            | (go_at_call 41; (with_reducible refine cV.mono ?_); rintro e5 w5 ⟨hQ, hb5⟩; rcases hQ with ⟨hl, rfl⟩ | ⟨hl, v5, rfl, hown5⟩))
          · go_ret2
            have hR9 : R = ([], 6) := by rw [HR2.out, if_pos (by rw [hl, hn])]
            exact ⟨.inl ⟨by rw [hR9]; decide, by rw [hR9]; rfl⟩, hb.trans (hb5.mono hb.size)⟩
          · go_ret2
            have hR9 : R = (iterH root N (leftG D.K D.p Xs), 0) := by rw [HR2.out, if_neg (by rw [hn]; exact hl), hn]
            exact ⟨.inr ⟨by rw [hR9], _, rfl, by rw [hR9]; exact hown5.le hb.size⟩, hb.trans (hb5.mono hb.size)⟩
      · rw [if_neg h6] at HR2
        have z6 : (D.k == 6) = false := by rw [beq_eq_false_iff_ne]; exact h6
        by_cases hz1 : z ≤ D.d
        · rw [if_pos hz1] at HR2
          go_wp2
          go_ret2
          exact ⟨.inl ⟨by rw [HR2.out]; decide, by rw [HR2.out]; rfl⟩, hb⟩
        · rw [if_neg hz1] at HR2
          have hok : (newG key D).ok := ⟨hK, hk⟩
          have cG := ggranted_any root hR tb AG N C Xs hn bn hNC hA (newG key D) hok w4 ht2 hr2
          go_wp2_with (first
            | (with_reducible refine wpList_load_if (by with_unfolding_all rfl) 23 _ rfl _ _ rfl (D.K.map u8v) _ oK hu rfl hzd ?_)
            | (with_reducible refine wpList_load_if (by with_unfolding_all rfl) 23 _ rfl _ _ rfl (key.map u8v) _ hkk hu rfl hzk ?_)
            | (with_reducible refine wpList_build_gr rfl _ rfl (newG key D) hok (by with_unfolding_all rfl) ?_)
            | (go_at_call 42; (with_reducible refine cG.mono ?_); rintro e5 w5 ⟨hQ, hb5⟩; rcases hQ with ⟨hl, rfl⟩ | ⟨hl, h500, rfl⟩ | ⟨hl, h500, v5, rfl, hown5⟩))
          · go_ret2
            have hR9 : R = ([], 7) := by rw [HR2.out, if_pos hl]
            exact ⟨.inl ⟨by rw [hR9]; decide, by rw [hR9]; rfl⟩, hb.trans (hb5.mono hb.size)⟩
          · go_ret2
            have hR9 : R = ([], 14) := by rw [HR2.out, if_neg hl, if_pos (by rw [hn]; exact h500)]
            exact ⟨.inl ⟨by rw [hR9]; decide, by rw [hR9]; rfl⟩, hb.trans (hb5.mono hb.size)⟩
          · go_ret2
            have hR9 : R = (putG Xs (newG key D), 0) := by rw [HR2.out, if_neg hl, if_neg (by rw [hn]; omega)]
            exact ⟨.inr ⟨by rw [hR9], _, rfl, by rw [hR9]; exact hown5.le hb.size⟩, hb.trans (hb5.mono hb.size)⟩
    · have cP := fun W => policy_any D A n c B m d W
      rw [decide_eq_false hp] at cP
      have hRv : R = ([], 1) := by rw [HR1.out, if_pos hp]
      have HRV := hid hRv
      clear hRv HR1
      go_enter Tryz.func23, Tryz.ntmps23
      go_wp2_with (first
        | (with_reducible refine wpList_load_opx (by with_unfolding_all rfl) _ rfl _ rfl hox hK ?_)
        | (go_at_call 24; (with_reducible refine cR.mono ?_); rintro e2 w2 ⟨rfl, hb2⟩; replace hox := hox.below hb2)
        | (go_at_call 22; (with_reducible refine (cP _).mono ?_); rintro e3 w3 ⟨rfl, hb3⟩))
      go_ret2
      exact ⟨.inl ⟨by rw [HRV.out]; decide, by rw [HRV.out]; rfl⟩, hbo.trans ((hb2.trans (hb3.mono hb2.size)).mono hbo.size)⟩

end Go.Proofs.YtapgiagpjplpdaaGreat
/- grant: New, Apply, Grants, Depth: a table as data. -/
set_option linter.unusedSimpArgs false
set_option linter.unusedVariables false
namespace Go.Proofs.YtapgiagpjplpdaaGreat
open Go.RowKit Go.Qc Go.Shelf
attribute [local go_sem] txt_size txt_append ib_fold txt_toL
/-- A table, with its grants. -/
structure TbS (W : World) (tb : Nat) (root : List UInt8) (Xs : List GrD) : Prop where
  rows : ∃ (V : Value) (base : Nat), GrOw W base V Xs.length Xs ∧ TbX W tb root V ∧ V.ownBlock ≠ some tb
  ok : ∀ X ∈ Xs, X.ok
theorem TbS.below {W W' : World} {tb : Nat} {root : List UInt8} {Xs : List GrD} (h : TbS W tb root Xs) (hb : Below W.heap.size W W') : TbS W' tb root Xs := by
  obtain ⟨⟨V, base, h1, h2, h3⟩, h4⟩ := h
  exact ⟨⟨V, base, h1.below hb, h2.below hb, h3⟩, h4⟩
theorem TbS.open_ {W : World} {tb : Nat} {root : List UInt8} {Xs : List GrD} (h : TbS W tb root Xs) : ∃ A C, TbX W tb root (.slice A Xs.length C) ∧ Xs.length ≤ C ∧ (A = none → Xs.length = 0 ∧ C = 0) ∧ GrRd W A Xs := by
  obtain ⟨⟨V, base, h1, h2, h3⟩, h4⟩ := h
  obtain ⟨A, C, rfl, _, hc, hA, hr⟩ := h1.rd h4
  exact ⟨A, C, h2, hc, hA, hr⟩
/-- The grants behind an operation. -/
def nextG (root : List UInt8) (Xs : List GrD) (key : List UInt8) (D : OpD) : List GrD := if (appG root Xs key D).2 = 0 then (appG root Xs key D).1 else Xs
theorem own_base {W : World} {base n : Nat} {v : Value} {Xs : List GrD} {k : Nat} (h : GrOw W base v n Xs) (hk : v.ownBlock = some k) : base ≤ k := (World.ownsRow.lt h k hk).1

set_option maxRecDepth 100000 in
set_option maxHeartbeats 20000000 in
theorem build_tb (root : List UInt8) (hR : root.length = 32) (W : World) : (Instr.build 60 #[(0, .agg (List.map u8v root).toArray)]).run Tryz.prog W = .ok (.agg (idVals root ++ #[.slice none 0 0])) W := by
  obtain ⟨x0, x1, x2, x3, x4, x5, x6, x7, x8, x9, x10, x11, x12, x13, x14, x15, x16, x17, x18, x19, x20, x21, x22, x23, x24, x25, x26, x27, x28, x29, x30, x31, rfl⟩ := list32g root hR
  kernel_rfl
theorem wpList_build_tb {w : World} {ops : Array Oper} {rest : List Oper} {o : Oper} {a : Act} {Q : Exit → Act → World → Prop} (hgd : o.guard = none) (parts : Array (Nat × Operand)) (ho : o.op = .build 60 parts)
    (root : List UInt8) (hR : root.length = 32) (hp : (parts.map fun (i, x) => (i, a.eval x)) = #[(0, .agg (List.map u8v root).toArray)])
    (h : wpList Tryz.prog ops Q rest (a.put o.dst (.agg (idVals root ++ #[.slice none 0 0]))) w) : wpList Tryz.prog ops Q (o :: rest) a w := by
  refine wpList_plain hgd fun K' hK' => ?_
  have hr := build_tb root hR w
  rw [← hp] at hr
  unfold Oper.wp
  simp only [execOp, ho]
  simp only [Sem.run_bind, hr, Result.andThen, Sem.run_pure]
  exact hK' _ _ h

set_option maxRecDepth 100000 in
set_option maxHeartbeats 20000000 in
theorem gnew_any (root : List UInt8) (hR : root.length = 32) (w : World) :
    Calls Tryz.prog 5 #[.agg (idVals root)] w fun e w' => ∃ tb, e = .returned (.pointer (some ⟨tb, 0, none⟩)) ∧ w.heap.size ≤ tb ∧ TbS w' tb root [] ∧ Below w.heap.size w w' := by
  have hka := range_blk (Blk.new w 23 (idVals root))
  have hba := (Below.refl w.heap.size w).alloc (Nat.le_refl _) (.cells (idVals root) 23)
  have hu := Tryz.underlying23
  have hzk : (Tryz.prog.info? 23).map (·.size) = some (root.map u8v).length := by rw [List.length_map, hR]; exact sizeId
  have hal := hba.alloc hba.size (.cells (idVals root ++ #[.slice none 0 0]) 60)
  have hbk := Blk.new (w.alloc (.cells (idVals root) 23)) 60 (idVals root ++ #[.slice none 0 0])
  rw [World.size_alloc] at hbk
  go_enter Tryz.func5, Tryz.ntmps5
  go_wp2_with (first
    | (with_reducible refine wpList_load_if (by with_unfolding_all rfl) 23 _ rfl _ _ rfl (root.map u8v) _ hka hu rfl hzk ?_)
    | (with_reducible refine wpList_build_tb rfl _ rfl root hR (by with_unfolding_all rfl) ?_))
  go_ret
  exact ⟨w.heap.size + 1, rfl, Nat.le_succ _, ⟨⟨.slice none 0 0, 0, GrOw.none_ _ _, ⟨hbk⟩, by simp [Value.ownBlock]⟩, by simp⟩, hal⟩

set_option maxRecDepth 100000 in
set_option maxHeartbeats 20000000 in
theorem ggrants_any (tb : Nat) (root : List UInt8) (hR : root.length = 32) (Xs : List GrD) (bn : Xs.length ≤ 1000) (w : World) (hs : TbS w tb root Xs) :
    Calls Tryz.prog 14 #[.pointer (some ⟨tb, 0, none⟩)] w fun e w' => ∃ v, e = .returned v ∧ GrOw w' w.heap.size v Xs.length Xs ∧ Below w.heap.size w w' := by
  obtain ⟨A, C, ht, hc, hA, hr⟩ := hs.open_
  have x32 := ht.row hR
  have cC := gclone_any A Xs.length C Xs w rfl bn hA hr
  go_enter Tryz.func14, Tryz.ntmps14
  go_wp2_with (fail)
  refine cC.mono ?_
  rintro e1 w1 ⟨v, rfl, hown, hb⟩
  go_wp2_with (fail)
  go_ret
  exact ⟨_, rfl, hown, hb⟩

set_option maxRecDepth 100000 in
set_option maxHeartbeats 20000000 in
theorem gdepthX_any (tb : Nat) (root : List UInt8) (hR : root.length = 32) (Xs : List GrD) (bn : Xs.length ≤ 1000) (key : List UInt8) (hk : key.length = 32) (s : List UInt8) (hp : preR s = true) (w : World) (hs : TbS w tb root Xs) :
    Calls Tryz.prog 18 #[.pointer (some ⟨tb, 0, none⟩), .agg (idVals key), .string (txt s)] w fun e w' => e = .returned (.int .i64 (depV root Xs key s)) ∧ Below w.heap.size w w' := by
  have hka := range_blk (Blk.new w 23 (idVals key))
  have hba := (Below.refl w.heap.size w).alloc (Nat.le_refl _) (.cells (idVals key) 23)
  have hs2 := hs.below hba
  have hu := Tryz.underlying23
  have hzk : (Tryz.prog.info? 23).map (·.size) = some (key.map u8v).length := by rw [List.length_map, hk]; exact sizeId
  have cP := prefix_any s (w.alloc (.cells (idVals key) 23))
  rw [hp] at cP
  obtain ⟨z, hz⟩ : ∃ z, depV root Xs key s = z := ⟨_, rfl⟩
  rw [hz]
  go_enter Tryz.func18, Tryz.ntmps18
  go_wp2_with (fail)
  refine cP.mono ?_
  rintro e1 w1 ⟨rfl, hb1⟩
  have hs3 := hs2.below hb1
  have hk3 := hka.below hb1
  have hb := hba.trans (hb1.mono hba.size)
  obtain ⟨A, C, ht, hc, hA, hr⟩ := hs3.open_
  have f1 : ∀ Q : LaterW w1, Q.w.cell? ⟨tb, 32, none⟩ = some (.slice A Xs.length C) := fun Q => gr_cell Q.h (ht.row hR)
  have fk := range_later hk3
  have cD := fun Q : LaterW w1 => gdepth_any tb root hR _ A Xs.length C Xs rfl bn key hk s Q.w (ht.below Q.h) (hr.below Q.h)
  rw [hz] at cD
  unfold idVals at cD
  clear cP hba hs hs2 hs3 hka hb1
  go_wp2_with (fail)
  refine wp_region_later mixed10 (by kernel_rfl) ?_
  repeat (first
    | ((with_reducible refine wpQuiet_load_if (by with_unfolding_all rfl) 23 _ rfl _ _ rfl (key.map u8v) _ fk hu (by with_unfolding_all rfl) hzk ?_); simp only [Act.put, List.setIfInBounds_toArray, List.set_cons_zero, List.set_cons_succ])
    | ((with_reducible refine wpQuiet_step (fun K hK => ?_)); go_simp; first | ((with_reducible refine hK _ ?_); clear hK K) | (with_reducible apply Exists.intro; (with_reducible refine ⟨fun P => ?_, hK _ ?_⟩); ((go_at_call 37; exact later_of (cD P))); clear hK K))
    | ((with_reducible refine BigFrame.wpQuiet_skip (by first | kernel_rfl | with_unfolding_all rfl) ?_); simp only [Act.put, List.setIfInBounds_toArray, List.set_cons_zero, List.set_cons_succ]))
  with_reducible refine wpQuiet_nil ?_
  intro _ hw9
  obtain ⟨P9, rfl⟩ := hw9
  have hp9 := P9.h
  generalize P9.w = w4 at *
  go_wp2
  go_ret
  exact ⟨rfl, hb.trans (hp9.mono hb.size)⟩

set_option maxRecDepth 100000 in
set_option maxHeartbeats 20000000 in
theorem putG_ok {Xs : List GrD} {Y : GrD} (h : ∀ X ∈ Xs, X.ok) (hY : Y.ok) : ∀ X ∈ putG Xs Y, X.ok := fun X hX => by
  unfold putG at hX
  rcases List.mem_append.1 hX with hX | hX
  · exact h X (List.mem_of_mem_take hX)
  · rcases List.mem_cons.1 hX with rfl | hX
    · exact hY
    · exact h X (List.mem_of_mem_drop hX)
theorem appG_ok {root : List UInt8} {Xs : List GrD} {key : List UInt8} {D : OpD} (h : ∀ X ∈ Xs, X.ok) (hk : key.length = 32) (hK : D.K.length = 32) : ∀ X ∈ (appG root Xs key D).1, X.ok := by
  unfold appG
  split
  · simp
  · split
    · simp
    · split
      · split
        · simp
        · split
          · simp
          · exact iterH_ok _ _ (fun X hX => h X (List.mem_filter.1 hX).1)
      · split
        · simp
        · split
          · simp
          · split
            · simp
            · exact putG_ok h ⟨hK, hk⟩
theorem tb_set (root : List UInt8) (hR : root.length = 32) (u v : Value) : (idVals root ++ #[u]).setIfInBounds 32 v = idVals root ++ #[v] := by
  have hs : (idVals root).size = 32 := by rw [idVals_size, hR]
  apply Array.ext_getElem?
  intro i
  rw [Array.getElem?_setIfInBounds]
  by_cases h : 32 = i
  · subst h
    rw [if_pos rfl, if_pos (by simp [hs]), Array.getElem?_append_right (by omega), hs]
    rfl
  · rw [if_neg h]
    by_cases h1 : i < 32
    · rw [Array.getElem?_append_left (by omega), Array.getElem?_append_left (by omega)]
    · rw [Array.getElem?_eq_none (by simp [hs]; omega), Array.getElem?_eq_none (by simp [hs]; omega)]
theorem gb_of {w W : World} {r : Option Nat} (h : Below w.heap.size w W) : w.grownBy W r := ⟨h.os, h.tape, h.output, h.size, fun k hk _ => h.block k hk⟩
theorem gb_then {w W W' : World} {r : Option Nat} (h : Below w.heap.size w W) (hg : W.grownBy W' r) : w.grownBy W' r :=
  ⟨hg.os.trans h.os, hg.tape.trans h.tape, hg.output.trans h.output, Nat.le_trans h.size hg.size, fun k hk hne => (hg.block k (Nat.lt_of_lt_of_le hk h.size) hne).trans (h.block k hk)⟩

set_option maxRecDepth 100000 in
set_option maxHeartbeats 20000000 in
theorem gapply_any (D : OpD) (hK : D.K.length = 32) (A : Option Addr) (n c : Nat) (B : Option Addr) (m d : Nat) (hlo : D.o.length = n) (bno : n ≤ 1000000) (hln : D.n.length = m) (bmo : m ≤ 1000000) (root : List UInt8) (hR : root.length = 32) (tb : Nat) (Xs : List GrD) (bn : Xs.length ≤ 900) (key : List UInt8) (hk : key.length = 32) (w : World) (hs : TbS w tb root Xs) (rA : Rd w A (D.o.map strV)) (rB : Rd w B (D.n.map strV)) :
    Calls Tryz.prog 11 #[.pointer (some ⟨tb, 0, none⟩), .agg (idVals key), .agg (opC D A n c B m d)] w fun e w' => e = .returned (.int .i64 (appG root Xs key D).2) ∧ TbS w' tb root (nextG root Xs key D) ∧ w.grownBy w' (some tb) := by
  have hka := range_blk (Blk.new w 23 (idVals key))
  have hba := (Below.refl w.heap.size w).alloc (Nat.le_refl _) (.cells (idVals key) 23)
  have hBA := (Below.refl (w.alloc (.cells (idVals key) 23)).heap.size (w.alloc (.cells (idVals key) 23))).alloc (Nat.le_refl _) (.cells (opC D A n c B m d) 34)
  have hbo := hba.alloc hba.size (.cells (opC D A n c B m d) 34)
  have hox := OpX.new (w.alloc (.cells (idVals key) 23)) D A n c B m d
  rw [World.size_alloc] at hox
  have hkk := hka.below hBA
  have hs2 := hs.below hbo
  have hu := Tryz.underlying23
  have hzk : (Tryz.prog.info? 23).map (·.size) = some (key.map u8v).length := by rw [List.length_map, hk]; exact sizeId
  obtain ⟨AG, C, ht, hNC, hA, hr⟩ := hs2.open_
  have htl : tb < w.heap.size := by obtain ⟨⟨V, base, _, h2, _⟩, _⟩ := hs; exact h2.b.lt
  have cA := gapplied_any D hK A n c B m d hlo bno hln bmo root hR tb AG Xs.length C Xs rfl bn hNC hA key hk _ ht hr (rA.below hbo) (rB.below hbo)
  have hok := appG_ok (root := root) hs.ok hk hK (key := key)
  obtain ⟨R, hRR⟩ : ∃ R, appG root Xs key D = R := ⟨_, rfl⟩
  have hNX : nextG root Xs key D = if R.2 = 0 then R.1 else Xs := by unfold nextG; rw [hRR]
  rw [hRR] at cA hok
  rw [hRR]
  have HNX := hid hNX
  have HRR := hid hRR
  have hss : w.heap.size ≤ ((w.alloc (.cells (idVals key) 23)).alloc (.cells (opC D A n c B m d) 34)).heap.size := hbo.size
  clear hNX hRR hka hba hBA rA rB ht hr
  have cA : Calls Tryz.prog 23 #[.pointer (some ⟨tb, 0, none⟩), .agg (List.map u8v key).toArray, .agg (opC D A n c B m d)] ((w.alloc (.cells (idVals key) 23)).alloc (.cells (opC D A n c B m d) 34)) (fun e w' => ApQ2 R ((w.alloc (.cells (idVals key) 23)).alloc (.cells (opC D A n c B m d) 34)).heap.size e w' ∧ Below ((w.alloc (.cells (idVals key) 23)).alloc (.cells (opC D A n c B m d) 34)).heap.size ((w.alloc (.cells (idVals key) 23)).alloc (.cells (opC D A n c B m d) 34)) w') := cA
  by_cases h0 : R.2 = 0
  · have cB := cA.mono (R' := fun e w' => ∃ A5 c5, e = .returned (.tuple #[.slice A5 R.1.length c5, .int .i64 0]) ∧ GrOw w' ((w.alloc (.cells (idVals key) 23)).alloc (.cells (opC D A n c B m d) 34)).heap.size (.slice A5 R.1.length c5) R.1.length R.1 ∧ Below ((w.alloc (.cells (idVals key) 23)).alloc (.cells (opC D A n c B m d) 34)).heap.size ((w.alloc (.cells (idVals key) 23)).alloc (.cells (opC D A n c B m d) 34)) w') (by
      rintro e5 w5 ⟨hQ, hb5⟩
      rcases hQ with ⟨hl, rfl⟩ | ⟨hl, v5, rfl, hown5⟩
      · exact (hl h0).elim
      · obtain ⟨A5, c5, rfl, _⟩ := hown5.rd hok
        exact ⟨A5, c5, rfl, hown5, hb5⟩)
    rw [h0]
    have HN2 := hid (show nextG root Xs key D = R.1 by rw [HNX.out, if_pos h0])
    clear cA HNX
    go_enter Tryz.func11, Tryz.ntmps11
    go_wp2_with (first
      | (with_reducible refine wpList_load_opx (by with_unfolding_all rfl) _ rfl _ rfl hox hK ?_)
      | (with_reducible refine wpList_load_if (by with_unfolding_all rfl) 23 _ rfl _ _ rfl (key.map u8v) _ hkk hu rfl hzk ?_)
      | (go_at_call 23; (with_reducible refine cB.mono ?_); rintro e5 w5 ⟨A5, c5, rfl, hown5, hb5⟩; have hs5 := hs2.below hb5; obtain ⟨⟨V0, base0, _, hT5, _⟩, _⟩ := hs5; have q32 := hT5.row hR; have f32 := hT5.b.frozen 32))
    go_ret
    have hbb := hbo.trans (hb5.mono hbo.size)
    have hg6 := gb_setG w5 ⟨tb, 32, none⟩ (.slice A5 R.1.length c5)
    refine ⟨rfl, ?_, gb_then hbb hg6⟩
    rw [HN2.out]
    refine ⟨⟨.slice A5 R.1.length c5, _, gr_own_blk hown5 hT5.b (by decide) hg6, ⟨?_⟩, fun e => ?_⟩, hok⟩
    · have h9 := hT5.b.set 32 (.slice A5 R.1.length c5)
      rwa [tb_set root hR] at h9
    · have := own_base hown5 e
      omega
  · have cB := cA.mono (R' := fun e w' => e = .returned (.tuple #[.slice none 0 0, .int .i64 R.2]) ∧ Below ((w.alloc (.cells (idVals key) 23)).alloc (.cells (opC D A n c B m d) 34)).heap.size ((w.alloc (.cells (idVals key) 23)).alloc (.cells (opC D A n c B m d) 34)) w') (by
      rintro e5 w5 ⟨hQ, hb5⟩
      rcases hQ with ⟨hl, rfl⟩ | ⟨hl, v5, rfl, hown5⟩
      · exact ⟨rfl, hb5⟩
      · exact (h0 hl).elim)
    have HN2 := hid (show nextG root Xs key D = Xs by rw [HNX.out, if_neg h0])
    have z0 : (R.2 == 0) = false := by rw [beq_eq_false_iff_ne]; exact h0
    generalize R.2 = z at *
    clear cA HNX HRR
    go_enter Tryz.func11, Tryz.ntmps11
    go_wp2_with (first
      | (with_reducible refine wpList_load_opx (by with_unfolding_all rfl) _ rfl _ rfl hox hK ?_)
      | (with_reducible refine wpList_load_if (by with_unfolding_all rfl) 23 _ rfl _ _ rfl (key.map u8v) _ hkk hu rfl hzk ?_)
      | (go_at_call 23; (with_reducible refine cB.mono ?_); rintro e5 w5 ⟨rfl, hb5⟩))
    all_goals first
      | (go_ret; exact ⟨rfl, by rw [HN2.out]; exact hs2.below hb5, gb_of (hbo.trans (hb5.mono hbo.size))⟩)
      | (exfalso; simp_all)

end Go.Proofs.YtapgiagpjplpdaaGreat

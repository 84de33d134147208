
/- grant: granted. -/
import Derived.Test.YtdkeobpmenaljaaGr6
import Derived.Great.BuildSlice
set_option linter.unusedSimpArgs false
set_option linter.unusedVariables false
namespace Go.Proofs.Ytdkeobpmenaljaa
open Go.RowKit Go.Qc Go.Shelf
attribute [local go_sem] txt_size txt_append ib_fold txt_toL

theorem put_getG0 (off : Nat) : ∀ (l : List Value) (k : Nat) (cs : Array Value), off + k + l.length ≤ cs.size →
    ((l.zipIdx k).foldl (fun cs x => cs.setIfInBounds (off + x.2) x.1) cs).size = cs.size ∧ ∀ i, ((l.zipIdx k).foldl (fun cs x => cs.setIfInBounds (off + x.2) x.1) cs)[i]? = if off + k ≤ i ∧ i < off + k + l.length then l[i - off - k]? else cs[i]?
  | [], k, cs, _ => ⟨rfl, fun i => by simp; omega⟩
  | v :: l, k, cs, h => by
    simp only [List.length_cons] at h
    obtain ⟨h1, h2⟩ := put_getG0 off l (k + 1) (cs.setIfInBounds (off + k) v) (by simp; omega)
    rw [List.zipIdx_cons, List.foldl_cons]
    refine ⟨by rw [h1]; simp, fun i => ?_⟩
    rw [h2]
    simp only [List.length_cons]
    by_cases c1 : off + (k + 1) ≤ i ∧ i < off + (k + 1) + l.length
    · rw [if_pos c1, if_pos (by omega), show i - off - k = (i - off - (k + 1)) + 1 by omega, List.getElem?_cons_succ]
    · rw [if_neg c1, Array.getElem?_setIfInBounds]
      by_cases c2 : off + k = i
      · subst c2
        rw [if_pos rfl, if_pos (by omega), if_pos (by omega), show off + k - off - k = 0 by omega]; rfl
      · rw [if_neg c2, if_neg (by omega)]
theorem put_get_G (off : Nat) (X : Array Value) (cs : Array Value) (h : off + X.size ≤ cs.size) :
    (X.zipIdx.foldl (fun cs (c, j) => cs.setIfInBounds (off + j) c) cs).size = cs.size ∧ ∀ i, (X.zipIdx.foldl (fun cs (c, j) => cs.setIfInBounds (off + j) c) cs)[i]? = if off ≤ i ∧ i < off + X.size then X.toList[i - off]? else cs[i]? := by
  have := put_getG0 off X.toList 0 cs (by rw [Array.length_toList]; omega)
  rw [Array.length_toList, Nat.add_zero, show ((X.toList).zipIdx 0).foldl (fun cs x => cs.setIfInBounds (off + x.2) x.1) cs = X.zipIdx.foldl (fun cs (c, j) => cs.setIfInBounds (off + j) c) cs by rw [← Array.foldl_toList, Array.toList_zipIdx]] at this
  exact this

theorem gr_sl_to (A : Option Addr) (n c k : Nat) (hA : A = none → n = 0 ∧ c = 0) (hk : k ≤ n) (hc : n ≤ c) (Xs : List GrD) (hn : Xs.length = n) : (∀ W, (Instr.sliceAt 44 (.slice A n c) none (some (.int .i64 (k : Int))) none).run Try.prog W = .ok (.slice A k c) W) ∧ (A = none → k = 0 ∧ c = 0) ∧ ∀ w, GrRd w A Xs → GrRd w A (Xs.take k) := by
  obtain ⟨i0, hi, h66⟩ := Gr_info3
  have h1 : (0 : Int) ≤ (k : Int) ∧ (k : Int) ≤ (c : Int) := by omega
  refine ⟨fun W => ?_, fun e => ⟨by have := (hA e).1; omega, (hA e).2⟩, fun w h => GrRd.upto (Ys := Xs.drop k) (by rw [List.take_append_drop]; exact h)⟩
  cases A with
  | none =>
    obtain ⟨rfl, rfl⟩ := hA rfl
    obtain rfl : k = 0 := by omega
    simp [Instr.sliceAt, Instr.slice, Instr.sliceBounds, run_underlying Try.underlying44, run_sliceBound, sizeOf, typeInfo, hi, h66, Addr.add_lit, Int.toNat_natCast]
  | some ad =>
    simp [Instr.sliceAt, Instr.slice, Instr.sliceBounds, run_underlying Try.underlying44, run_sliceBound, h1, sizeOf, typeInfo, hi, h66, Addr.add_lit, Int.toNat_natCast]
    all_goals first | omega | (intro _; simp [Addr.add]) | skip
theorem gr_sl_from (A : Option Addr) (n c k : Nat) (hA : A = none → n = 0 ∧ c = 0) (hk : k ≤ n) (hc : n ≤ c) (Xs : List GrD) (hn : Xs.length = n) (w0 : World) (h0 : GrRd w0 A Xs) : ∃ A', (∀ W, (Instr.sliceAt 44 (.slice A n c) (some (.int .i64 (k : Int))) none none).run Try.prog W = .ok (.slice A' (n - k) (c - k)) W) ∧ (A' = none → n - k = 0 ∧ c - k = 0) ∧ ∀ w, Below w0.heap.size w0 w → GrRd w A' (Xs.drop k) := by
  obtain ⟨i0, hi, h66⟩ := Gr_info3
  have hK : ∀ X ∈ Xs.drop k, X.ok := fun X hX => h0.1 X (List.mem_of_mem_drop hX)
  have h1 : (0 : Int) ≤ (k : Int) ∧ (k : Int) ≤ (n : Int) := by omega
  cases A with
  | none =>
    obtain ⟨rfl, rfl⟩ := hA rfl
    obtain rfl : k = 0 := by omega
    refine ⟨none, fun W => ?_, fun _ => ⟨rfl, rfl⟩, fun w hw => ?_⟩
    · simp [Instr.sliceAt, Instr.slice, Instr.sliceBounds, run_underlying Try.underlying44, run_sliceBound, sizeOf, typeInfo, hi, h66, Addr.add_lit, Int.toNat_natCast]
    · rw [List.eq_nil_of_length_eq_zero hn]; exact GrRd.nil_ _ _
  | some ad =>
    by_cases hkc : c = k
    · subst hkc
      have hd : Xs.drop c = [] := List.drop_of_length_le (by omega)
      refine ⟨some ad, fun W => ?_, fun e => (by cases e), fun w hw => by rw [hd]; exact GrRd.nil_ _ _⟩
      simp [Instr.sliceAt, Instr.slice, Instr.sliceBounds, run_underlying Try.underlying44, run_sliceBound, h1, sizeOf, typeInfo, hi, h66, Addr.add_lit, Int.toNat_natCast]
      all_goals first | omega | skip
    · rcases h0.2 with h | ⟨g, q, e, hr⟩
      · subst h
        obtain rfl : n = 0 := hn.symm
        obtain rfl : k = 0 := by omega
        refine ⟨some ad, fun W => ?_, fun e => (by cases e), fun w hw => GrRd.nil_ _ _⟩
        simp [Instr.sliceAt, Instr.slice, Instr.sliceBounds, run_underlying Try.underlying44, run_sliceBound, h1, sizeOf, typeInfo, hi, h66, Addr.add_lit, Int.toNat_natCast, hkc, Addr.add]
      · cases e
        refine ⟨some ⟨g, q + k * 66, none⟩, fun W => ?_, fun e => (by cases e), fun w hw => ⟨hK, .inr ⟨g, q + k * 66, rfl, fun j v hj => ?_⟩⟩⟩
        · simp [Instr.sliceAt, Instr.slice, Instr.sliceBounds, run_underlying Try.underlying44, run_sliceBound, h1, sizeOf, typeInfo, hi, h66, Addr.add_lit, Int.toNat_natCast, hkc]
          all_goals first | omega | skip
        · have e1 : (grsV Xs)[k * 66 + j]? = some v := by
            have e2 : grsV Xs = grsV (Xs.take k) ++ grsV (Xs.drop k) := by rw [← grsV_append, List.take_append_drop]
            have e3 := grsV_length (Xs.take k) (fun X hX => h0.1 X (List.mem_of_mem_take hX))
            rw [List.length_take, Nat.min_eq_left (by omega)] at e3
            rw [e2, List.getElem?_append_right (by omega), e3, show k * 66 + j - k * 66 = j by omega]
            exact hj
          rw [Nat.add_assoc]
          exact (hr.below hw) _ _ e1
theorem wp_build1g {w : World} {o : Oper} {a : Act} {K : Act → World → Prop} {Q : Exit → Act → World → Prop} (x : Operand) (ho : o.op = .buildSlice 44 1 #[(0, x)])
    (X : GrD) (hX : X.ok) (hx : a.eval x = .agg X.cs)
    (h : ∀ cs, GrRd (w.alloc (.cells cs 113)) (some ⟨w.heap.size, 0, none⟩) [X] → K (a.put o.dst (.slice (some ⟨w.heap.size, 0, none⟩) 1 1)) (w.alloc (.cells cs 113))) :
    o.wp Try.prog a w K Q := by
  obtain ⟨j0, Z, hj, hjz, hjs, hZ, _⟩ := Gr_info4
  have lx : X.cs.size = 66 := GrD.size hX
  obtain ⟨zs, hzs⟩ : ∃ zs : Array Value, zs = (Array.range (1 * j0.size)).map ((Value.agg Z).cells[· % (Value.agg Z).cells.size]!) := ⟨_, rfl⟩
  have hz : zs.size = 66 := by rw [hzs, hjs]; simp
  obtain ⟨s1, g1⟩ := put_get_G 0 X.cs zs (by rw [hz, lx]; decide)
  generalize hc1 : X.cs.zipIdx.foldl (fun cs (c, j) => cs.setIfInBounds (0 + j) c) zs = c1 at s1 g1
  refine wp_buildSlice 44 113 1 #[(0, x)] ho c1 j0 (.agg Z) Try.underlying44 hj hjz (by rw [hjs]; decide) (by rw [hjs]; decide) ?_ (h c1 ⟨fun Y hY => by rw [List.mem_singleton.1 hY]; exact hX, .inr ⟨w.heap.size, 0, rfl, ?_⟩⟩)
  · rw [← hzs, hjs]
    have e1 : (Value.agg X.cs).cells = X.cs := rfl
    simp only [List.map_toArray, List.map_cons, List.map_nil, hx, Instr.fill, e1, lx, hz]
    rw [if_neg (by decide)]
    simp only [Nat.zero_mul]
    rw [hc1]
  · intro j u hj'
    have hj2 : X.cs.toList[j]? = some u := by simpa [grsV] using hj'
    have hlt : j < 66 := by have := (List.getElem?_eq_some_iff.1 hj2).1; rw [Array.length_toList, lx] at this; exact this
    rw [cell_of_row _ _ _ _ _ _ (heap_alloc_new w _), Nat.zero_add, g1, lx, if_pos (by omega), Nat.sub_zero]
    exact hj2

theorem yields_gr {ops : Array Oper} {S : World → Prop} {op : Oper} {a : Act} (hw : Region.wanted op (yielded ops a.tmps) = true) (x : Operand) (ho : op.op = .load 113 x) (b o : Nat) (hx : a.eval x = .pointer (some ⟨b, o, none⟩)) (X : GrD) (hK : X.ok) (hS : ∀ w, S w → w.rangeAt b o X.cs.toList) : YieldsIf Try.prog ops S op (.agg X.cs) a := by
  have := yieldsIf_load_mid (P := Try.prog) (ops := ops) (S := S) hw 113 x ho b o hx X.cs.toList _ hS Try.underlying113 rfl (by rw [Array.length_toList]; exact Gr_info X hK)
  rwa [Array.toArray_toList] at this
/-- With one more, at its place. -/
def putG (Xs : List GrD) (Y : GrD) : List GrD := Xs.take (plG Xs Y) ++ Y :: Xs.drop (plG Xs Y)
/-- What granted answers. -/
def GdQ (N : Nat) (root : List UInt8) (Xs : List GrD) (Y : GrD) (base : Nat) (e : Ending) (w' : World) : Prop :=
  ((thereB Xs Y (plG Xs Y) = true ∨ Y.k = root) ∧ e = .returned (.tuple #[.slice none 0 0, .int .i64 7])) ∨
  (¬ (thereB Xs Y (plG Xs Y) = true ∨ Y.k = root) ∧ 500 ≤ N ∧ e = .returned (.tuple #[.slice none 0 0, .int .i64 14])) ∨
  (¬ (thereB Xs Y (plG Xs Y) = true ∨ Y.k = root) ∧ N < 500 ∧ ∃ v, e = .returned (.tuple #[v, .int .i64 0]) ∧ GrOw w' base v (putG Xs Y).length (putG Xs Y))
theorem gr_three (W : World) (a b c : Value) : ∀ j u, ([a, b, c] : List Value)[j]? = some u → (W.alloc (.cells #[a, b, c] 44)).cell? ((⟨W.heap.size, 0, none⟩ : Addr).add j) = some u := by
  intro j u hj
  have hk := Blk.new W 44 #[a, b, c]
  rw [Addr.add_lit, Nat.zero_add]
  refine hk.cell_ ?_
  simpa using hj

theorem gr_flat (Xs : List GrD) (Y : GrD) (P : Nat) (hP : plG Xs Y = P) (a b c : Value) : ([(a, Xs.take P), (b, [Y]), (c, Xs.drop P)] : List (Value × List GrD)).flatMap (·.2) = putG Xs Y := by
  unfold putG
  rw [hP]
  simp

theorem gr_cells3 {W : World} {ad : Addr} {a b c : Value} {r s t : List GrD} (h0 : W.cell? (ad.add 0) = some a) (h1 : W.cell? (ad.add 1) = some b) (h2 : W.cell? (ad.add 2) = some c) (g0 : GSl W a r) (g1 : GSl W b s) (g2 : GSl W c t) : ∀ (j : Nat) (x : Value × List GrD), [(a, r), (b, s), (c, t)][j]? = some x → W.cell? (ad.add j) = some x.1 ∧ GSl W x.1 x.2
  | 0, x, h => by cases h; exact ⟨h0, g0⟩
  | 1, x, h => by cases h; exact ⟨h1, g1⟩
  | 2, x, h => by cases h; exact ⟨h2, g2⟩
  | j + 3, x, h => by simp at h

set_option maxRecDepth 100000 in
set_option maxHeartbeats 20000000 in
theorem ggranted_any (root : List UInt8) (hR : root.length = 32) (tb : Nat) (AG : Option Addr) (N C : Nat) (Xs : List GrD) (hn : Xs.length = N) (bn : N ≤ 900) (hNC : N ≤ C) (hA : AG = none → N = 0 ∧ C = 0) (Y : GrD) (hY : Y.ok) (w : World) (ht : TbX w tb root (.slice AG N C)) (hr : GrRd w AG Xs) :
    Calls Try.prog 104 #[.pointer (some ⟨tb, 0, none⟩), .agg Y.cs] w fun e w' => GdQ N root Xs Y w.heap.size e w' ∧ Below w.heap.size w w' := by
  have hba := (Below.refl w.heap.size w).alloc (Nat.le_refl _) (.cells Y.cs 113)
  have hnw := GrX.new w Y
  have ht2 := ht.below hba
  have hr2 := hr.below hba
  have hu := Try.underlying23
  have hzy : (Try.prog.info? 23).map (·.size) = some (Y.k.map u8v).length := by rw [List.length_map, hY.1]; exact sizeId
  have hzr : (Try.prog.info? 23).map (·.size) = some (root.map u8v).length := by rw [List.length_map, hR]; exact sizeId
  obtain ⟨t, hte⟩ : ∃ t, decide (Y.k = root) = t := ⟨_, rfl⟩
  have heq : ∀ W, (Op.equalIn 10000 23 (.agg (List.map u8v Y.k).toArray) (.agg (List.map u8v root).toArray)).run Try.prog W = .ok t W := fun W => (ids_eq W Y.k root hY.1 hR).trans (by rw [hte])
  have HT := hid hte
  have HPL := hid (plG_ok Xs Y)
  have hGQ := hid (fun e w' => (Iff.rfl : GdQ N root Xs Y w.heap.size e w' ↔ GdQ N root Xs Y w.heap.size e w'))
  obtain ⟨P, hP⟩ : ∃ P, plG Xs Y = P := ⟨_, rfl⟩
  obtain ⟨fb, hfb⟩ : ∃ fb, thereB Xs Y P = fb := ⟨_, rfl⟩
  have HP := hid hP
  have HFB := hid hfb
  have hPN : P ≤ N := by have := HPL.out.le; rw [hP, hn] at this; exact this
  have cB : ∀ W : World, Below (w.alloc (.cells Y.cs 113)).heap.size (w.alloc (.cells Y.cs 113)) W → Calls Try.prog 139 #[.slice AG N C, .agg Y.cs, .func (.func 140) #[] #[]] W fun e w' => e = .returned (.tuple #[.int .i64 (P : Nat), .bool fb]) ∧ Below W.heap.size W w' := fun W hW => by
    have := gbs_any AG N C Xs Y hY W hn (by omega) (hr2.below hW)
    rw [hP, hfb] at this
    exact this
  clear hte ht hr hP hfb hGQ
  go_enter Try.func104, Try.ntmps104
  go_wp2
  generalize w.alloc (.cells Y.cs 113) = w0 at *
  have f1 : ∀ Q : LaterW w0, Q.w.cell? ⟨tb, 32, none⟩ = some (.slice AG N C) := fun Q => gr_cell Q.h (ht2.row hR)
  have fa := range_later hnw.range
  have cBP := fun Q : LaterW w0 => cB Q.w Q.h
  refine wp_region_later mixed10 (by kernel_rfl) ?_
  repeat (first
    | ((with_reducible refine wpQuiet_load_gr (by with_unfolding_all rfl) _ rfl _ _ rfl Y fa hY ?_); simp only [Act.put, List.setIfInBounds_toArray, List.set_cons_zero, List.set_cons_succ])
    | ((with_reducible refine wpQuiet_step (fun K hK => ?_)); go_simp; first | ((with_reducible refine hK _ ?_); clear hK K) | (with_reducible apply Exists.intro; (with_reducible refine ⟨fun P => ?_, hK _ ?_⟩); ((go_at_call 139; exact later_of (cBP P))); clear hK K))
    | ((with_reducible refine BigFrame.wpQuiet_skip (by first | kernel_rfl | with_unfolding_all rfl) ?_); simp only [Act.put, List.setIfInBounds_toArray, List.set_cons_zero, List.set_cons_succ]))
  with_reducible refine wpQuiet_nil ?_
  intro _ hw9
  obtain ⟨P9, rfl⟩ := hw9
  have hp := P9.h
  generalize P9.w = w1 at *
  have hb1 := hba.trans (hp.mono hba.size)
  have hnw1 := hnw.below hp
  have ht1 := ht2.below hp
  have hr1 := hr2.below hp
  clear f1 fa cBP cB hnw ht2 hr2 hp
  go_wp2
  have fy := range_later hnw1.key
  have fr := range_later ht1.key
  cases fb with
  | true =>
    refine wp_region_later mixed10 (by kernel_rfl) ?_
    repeat (first
      | ((with_reducible refine wpQuiet_step (fun K hK => ?_)); go_simp; first | ((with_reducible refine hK _ ?_); clear hK K) | (with_reducible apply Exists.intro; (with_reducible refine ⟨fun P => ?_, hK _ ?_⟩); ((fail)); clear hK K))
      | ((with_reducible refine BigFrame.wpQuiet_skip (by first | kernel_rfl | with_unfolding_all rfl) ?_); simp only [Act.put, List.setIfInBounds_toArray, List.set_cons_zero, List.set_cons_succ]))
    with_reducible refine wpQuiet_nil ?_
    intro _ hw9
    obtain ⟨P9, rfl⟩ := hw9
    have hb2 := hb1.trans (P9.h.mono hb1.size)
    generalize P9.w = w2 at *
    go_wp2
    go_ret2
    exact ⟨.inl ⟨.inl (by rw [HP.out]; exact HFB.out), rfl⟩, hb2⟩
  | false =>
    refine wp_region_later mixed10 (by kernel_rfl) ?_
    repeat (first
      | ((with_reducible refine wpQuiet_load_if (by with_unfolding_all rfl) 23 _ rfl _ _ rfl (Y.k.map u8v) _ fy hu (by with_unfolding_all rfl) hzy ?_); simp only [Act.put, List.setIfInBounds_toArray, List.set_cons_zero, List.set_cons_succ])
      | ((with_reducible refine wpQuiet_load_if (by with_unfolding_all rfl) 23 _ rfl _ _ rfl (root.map u8v) _ fr hu (by with_unfolding_all rfl) hzr ?_); simp only [Act.put, List.setIfInBounds_toArray, List.set_cons_zero, List.set_cons_succ])
      | ((with_reducible refine wpQuiet_step (fun K hK => ?_)); go_simp; first | ((with_reducible refine hK _ ?_); clear hK K) | (with_reducible apply Exists.intro; (with_reducible refine ⟨fun P => ?_, hK _ ?_⟩); ((fail)); clear hK K))
      | ((with_reducible refine BigFrame.wpQuiet_skip (by first | kernel_rfl | with_unfolding_all rfl) ?_); simp only [Act.put, List.setIfInBounds_toArray, List.set_cons_zero, List.set_cons_succ]))
    with_reducible refine wpQuiet_nil ?_
    intro _ hw9
    obtain ⟨P9, rfl⟩ := hw9
    have hp := P9.h
    generalize P9.w = w2 at *
    have hb2 := hb1.trans (hp.mono hb1.size)
    have hnw2 := hnw1.below hp
    have ht2 := ht1.below hp
    have hr2 := hr1.below hp
    have x32 := ht2.row hR
    clear fy fr hp hnw1 ht1 hr1
    cases t with
    | true =>
      go_wp2
      go_ret2
      exact ⟨.inl ⟨.inr (of_decide_eq_true HT.out), rfl⟩, hb2⟩
    | false =>
      have hno : ¬ (thereB Xs Y (plG Xs Y) = true ∨ Y.k = root) := fun h => h.elim (fun h => by rw [HP.out, HFB.out] at h; cases h) (of_decide_eq_false HT.out)
      have HNO := hid hno
      clear hno
      by_cases h5 : 500 ≤ N
      · have z1 : (500 : Int) ≤ N := by omega
        go_wp2
        go_ret2
        exact ⟨.inr (.inl ⟨HNO.out, h5, rfl⟩), hb2⟩
      · have z1 : ¬ (500 : Int) ≤ N := by omega
        obtain ⟨hto1, hAP, hto3⟩ := gr_sl_to AG N C P hA hPN hNC Xs hn
        obtain ⟨A2, hfr1, hA2, hfr3⟩ := gr_sl_from AG N C P hA hPN hNC Xs hn w2 hr2
        have hdr := below_drew10 w2
        have hb0 := hb2.trans (hdr.mono hb2.size)
        have hnw := hnw2.below hdr
        have hr0 := hr2.below hdr
        have x33 := gr_cell hdr x32
        have hf3 : ∀ W, Below w2.drew.heap.size w2.drew W → GrRd W A2 (Xs.drop P) := fun W hW => hfr3 W (hdr.trans (hW.mono hdr.size))
        have hlP : (Xs.take P).length = P := by rw [List.length_take, hn]; omega
        have hlD : (Xs.drop P).length = N - P := by rw [List.length_drop, hn]
        have hfl := fun a b c => gr_flat Xs Y P HP.out a b c
        have hlen : (putG Xs Y).length ≤ 1000 := by unfold putG; rw [HP.out, List.length_append, List.length_cons, hlP, hlD]; omega
        have hbs := hb0.size
        have HX := hid (show N < 500 by omega)
        obtain ⟨M1, hM1⟩ : ∃ M, M = N - P := ⟨_, rfl⟩
        obtain ⟨M2, hM2⟩ : ∃ M, M = C - P := ⟨_, rfl⟩
        rw [← hM1, ← hM2] at hfr1
        rw [← hM1] at hlD
        rw [← hM1, ← hM2] at hA2
        clear hfr3 hr2 hnw2 ht2 hdr hb1 hb2 hM1 hM2 hn
        go_wp2
        refine wp_region_held_drew (S := fun W => Below w2.drew.heap.size w2.drew W) (by kernel_rfl) (Below.refl _ _) (fun hHeld => ?_)
        generalize w2.drew = W0 at *
        refine' wpAnyH_take (i := 0) (v := .pointer (some ⟨tb, 0, none⟩)) rfl (by kernel_rfl) (by kernel_rfl) (by kernel_rfl) (fun _ _ _ h => h) (Or.inl ⟨by rfl, fun w' hw' => by go_simp⟩) hHeld ?_
        try simp only [Act.put, List.getElem_toArray, List.getElem_cons_succ, List.getElem_cons_zero, List.setIfInBounds_toArray, List.set_cons_zero, List.set_cons_succ]
        refine' wpAnyH_take (i := 1) (v := .pointer (some ⟨tb, 0, none⟩)) rfl (by kernel_rfl) (by kernel_rfl) (by kernel_rfl) (fun _ _ _ h => h) (Or.inl ⟨by rfl, fun w' hw' => by go_simp⟩) hHeld ?_
        try simp only [Act.put, List.getElem_toArray, List.getElem_cons_succ, List.getElem_cons_zero, List.setIfInBounds_toArray, List.set_cons_zero, List.set_cons_succ]
        refine' wpAnyH_take (i := 2) (v := .pointer (some ⟨tb, 32, none⟩)) rfl (by kernel_rfl) (by kernel_rfl) (by kernel_rfl) (fun _ _ _ h => h) (Or.inl ⟨by rfl, fun w' hw' => by go_simp⟩) hHeld ?_
        try simp only [Act.put, List.getElem_toArray, List.getElem_cons_succ, List.getElem_cons_zero, List.setIfInBounds_toArray, List.set_cons_zero, List.set_cons_succ]
        refine' wpAnyH_take (i := 3) (v := .slice AG N C) rfl (by kernel_rfl) (by kernel_rfl) (by kernel_rfl) (fun _ _ _ h => h) (Or.inl ⟨by rfl, fun w' hw' => by (have q := gr_cell hw' x33; go_simp)⟩) hHeld ?_
        try simp only [Act.put, List.getElem_toArray, List.getElem_cons_succ, List.getElem_cons_zero, List.setIfInBounds_toArray, List.set_cons_zero, List.set_cons_succ]
        refine' wpAnyH_take (i := 4) (v := .int .i64 (P : Nat)) rfl (by kernel_rfl) (by kernel_rfl) (by kernel_rfl) (fun _ _ _ h => h) (Or.inl ⟨by rfl, fun w' hw' => by go_simp⟩) hHeld ?_
        try simp only [Act.put, List.getElem_toArray, List.getElem_cons_succ, List.getElem_cons_zero, List.setIfInBounds_toArray, List.set_cons_zero, List.set_cons_succ]
        refine' wpAnyH_take (i := 5) (v := .slice AG P C) rfl (by kernel_rfl) (by kernel_rfl) (by kernel_rfl) (fun _ _ _ h => h) (Or.inl ⟨by rfl, fun w' hw' => by go_simp⟩) hHeld ?_
        try simp only [Act.put, List.getElem_toArray, List.getElem_cons_succ, List.getElem_cons_zero, List.setIfInBounds_toArray, List.set_cons_zero, List.set_cons_succ]
        refine' wpAnyH_take (i := 6) (v := .agg Y.cs) rfl (by kernel_rfl) (by kernel_rfl) (by kernel_rfl) (fun _ _ _ h => h) (yields_gr (by rfl) _ rfl _ _ rfl Y hY (fun w' hw' => (hnw.below hw').range)) hHeld ?_
        try simp only [Act.put, List.getElem_toArray, List.getElem_cons_succ, List.getElem_cons_zero, List.setIfInBounds_toArray, List.set_cons_zero, List.set_cons_succ]
        refine' wpAnyH_take (i := 8) (v := .pointer (some ⟨tb, 0, none⟩)) rfl (by kernel_rfl) (by kernel_rfl) (by kernel_rfl) (fun _ _ _ h => h) (Or.inl ⟨by rfl, fun w' hw' => by go_simp⟩) hHeld ?_
        try simp only [Act.put, List.getElem_toArray, List.getElem_cons_succ, List.getElem_cons_zero, List.setIfInBounds_toArray, List.set_cons_zero, List.set_cons_succ]
        refine' wpAnyH_take (i := 9) (v := .pointer (some ⟨tb, 0, none⟩)) rfl (by kernel_rfl) (by kernel_rfl) (by kernel_rfl) (fun _ _ _ h => h) (Or.inl ⟨by rfl, fun w' hw' => by go_simp⟩) hHeld ?_
        try simp only [Act.put, List.getElem_toArray, List.getElem_cons_succ, List.getElem_cons_zero, List.setIfInBounds_toArray, List.set_cons_zero, List.set_cons_succ]
        refine' wpAnyH_take (i := 10) (v := .pointer (some ⟨tb, 32, none⟩)) rfl (by kernel_rfl) (by kernel_rfl) (by kernel_rfl) (fun _ _ _ h => h) (Or.inl ⟨by rfl, fun w' hw' => by go_simp⟩) hHeld ?_
        try simp only [Act.put, List.getElem_toArray, List.getElem_cons_succ, List.getElem_cons_zero, List.setIfInBounds_toArray, List.set_cons_zero, List.set_cons_succ]
        refine' wpAnyH_take (i := 11) (v := .slice AG N C) rfl (by kernel_rfl) (by kernel_rfl) (by kernel_rfl) (fun _ _ _ h => h) (Or.inl ⟨by rfl, fun w' hw' => by (have q := gr_cell hw' x33; go_simp)⟩) hHeld ?_
        try simp only [Act.put, List.getElem_toArray, List.getElem_cons_succ, List.getElem_cons_zero, List.setIfInBounds_toArray, List.set_cons_zero, List.set_cons_succ]
        refine' wpAnyH_take (i := 12) (v := .int .i64 (P : Nat)) rfl (by kernel_rfl) (by kernel_rfl) (by kernel_rfl) (fun _ _ _ h => h) (Or.inl ⟨by rfl, fun w' hw' => by go_simp⟩) hHeld ?_
        try simp only [Act.put, List.getElem_toArray, List.getElem_cons_succ, List.getElem_cons_zero, List.setIfInBounds_toArray, List.set_cons_zero, List.set_cons_succ]
        refine' wpAnyH_take (i := 13) (v := .slice A2 M1 M2) rfl (by kernel_rfl) (by kernel_rfl) (by kernel_rfl) (fun _ _ _ h => h) (Or.inl ⟨by rfl, fun w' hw' => by go_simp⟩) hHeld ?_
        try simp only [Act.put, List.getElem_toArray, List.getElem_cons_succ, List.getElem_cons_zero, List.setIfInBounds_toArray, List.set_cons_zero, List.set_cons_succ]
        refine wpAnyH_ready (rs := [7]) (by kernel_rfl) (by simp) ?_
        refine AllReadyH.cons rfl (fun K hK => ?_) AllReadyH.nil
        refine (if_pos (by kernel_rfl)).mpr ?_
        refine wp_build1g _ rfl Y hY rfl ?_
        intro cs hrd1
        have hb7 := (Below.refl W0.heap.size W0).alloc (Nat.le_refl _) (.cells cs 113)
        refine hK.out _ _ hb7 (fun hHeld => ?_)
        clear hK K
        try simp only [Act.put, List.getElem_toArray, List.getElem_cons_succ, List.getElem_cons_zero, List.setIfInBounds_toArray, List.set_cons_zero, List.set_cons_succ]
        refine wpAnyH_ready (rs := [14]) (by kernel_rfl) (by simp) ?_
        refine AllReadyH.cons rfl (fun K hK => ?_) AllReadyH.nil
        have hb8 := hb7.alloc hb7.size (.cells #[.slice AG P C, .slice (some ⟨W0.heap.size, 0, none⟩) 1 1, .slice A2 M1 M2] 44)
        have h3 := gr_three (W0.alloc (.cells cs 113)) (.slice AG P C) (.slice (some ⟨W0.heap.size, 0, none⟩) 1 1) (.slice A2 M1 M2)
        rw [World.size_alloc] at h3
        go_simp
        refine hK.out _ _ hb8 (fun hHeld => ?_)
        clear hK K
        try simp only [Act.put, List.getElem_toArray, List.getElem_cons_succ, List.getElem_cons_zero, List.setIfInBounds_toArray, List.set_cons_zero, List.set_cons_succ]
        refine wpAnyH_ready (rs := [15]) (by kernel_rfl) (by simp) ?_
        refine AllReadyH.cons rfl (fun K hK => ?_) AllReadyH.nil
        generalize hW8 : (W0.alloc (.cells cs 113)).alloc (.cells #[.slice AG P C, .slice (some ⟨W0.heap.size, 0, none⟩) 1 1, .slice A2 M1 M2] 44) = W8 at *
        have hrd8 := hrd1.below (show Below (W0.alloc (.cells cs 113)).heap.size (W0.alloc (.cells cs 113)) W8 from hW8 ▸ (Below.refl _ _).alloc (Nat.le_refl _) _)
        have cC := gconcat_any ⟨W0.heap.size + 1, 0, none⟩ 3 3 [(.slice AG P C, Xs.take P), (.slice (some ⟨W0.heap.size, 0, none⟩) 1 1, [Y]), (.slice A2 M1 M2, Xs.drop P)] rfl (by decide) (by rw [hfl]; exact hlen) W8 (fun W hW j x hx => gr_cells3 (gr_cell hW (h3 0 _ rfl)) (gr_cell hW (h3 1 _ rfl)) (gr_cell hW (h3 2 _ rfl)) ⟨AG, P, C, rfl, hlP, hAP, hto3 W (hr0.below (hb8.trans (hW.mono hb8.size)))⟩ ⟨_, 1, 1, rfl, rfl, (fun h => by cases h), hrd8.below hW⟩ ⟨A2, M1, M2, rfl, hlD, hA2, hf3 W (hb8.trans (hW.mono hb8.size))⟩ j x hx)
        rw [hfl] at cC
        go_simp
        (with_reducible refine cC.mono ?_)
        rintro e9 w9 ⟨v9, rfl, hown9, hb9⟩
        refine hK.out _ _ (hb8.trans (hb9.mono hb8.size)) (fun hHeld => ?_)
        clear hK K
        try simp only [Act.put, List.getElem_toArray, List.getElem_cons_succ, List.getElem_cons_zero, List.setIfInBounds_toArray, List.set_cons_zero, List.set_cons_succ]
        refine wpAnyH_ready (rs := [16]) (by kernel_rfl) (by simp) ?_
        refine AllReadyH.cons rfl (fun K hK => ?_) AllReadyH.nil
        go_simp
        refine hK.out _ _ hHeld (fun hHeld => ?_)
        clear hK K
        try simp only [Act.put, List.getElem_toArray, List.getElem_cons_succ, List.getElem_cons_zero, List.setIfInBounds_toArray, List.set_cons_zero, List.set_cons_succ]
        refine wpAnyH_ready (rs := [17]) (by kernel_rfl) (by simp) ?_
        refine AllReadyH.cons rfl (fun K hK => ?_) AllReadyH.nil
        go_simp
        refine hK.out _ _ hHeld (fun hHeld => ?_)
        clear hK K
        try simp only [Act.put, List.getElem_toArray, List.getElem_cons_succ, List.getElem_cons_zero, List.setIfInBounds_toArray, List.set_cons_zero, List.set_cons_succ]
        refine wpAnyH_done (by kernel_rfl) ?_ _
        go_wp2
        go_ret2
        exact ⟨.inr (.inr ⟨HNO.out, HX.out, v9, rfl, hown9.le (Nat.le_trans hbs hb8.size)⟩), hb0.trans ((hb8.trans (hb9.mono hb8.size)).mono hbs)⟩

end Go.Proofs.Ytdkeobpmenaljaa

/- disk: writes as data, their cells, their box, rows of them. -/
import Derived.Test.YtemdmdgigmhlbaaGreatDk2
import Derived.Great.BuildSlice
set_option linter.unusedSimpArgs false
set_option linter.unusedVariables false
namespace Go.Proofs.YtemdmdgigmhlbaaGreat
open Go.RowKit Go.Qc Go.Shelf
attribute [local go_sem] txt_size txt_append ib_fold
/-- A write as data. -/
structure WrD where
  p : Nat
  t : List UInt8
def WrD.ok (X : WrD) : Prop := X.p = X.p
def WrD.cs (X : WrD) : Array Value := #[.int .i64 (X.p : Int), .string (txt X.t)]
theorem WrD.size {X : WrD} (h : X.ok) : X.cs.size = 2 := rfl
theorem WrD.one (X : WrD) : X.cs.all (·.oneCell') = true := by
  unfold WrD.cs
  simp [Value.oneCell']
theorem WrD.all_ok (Xs : List WrD) : ∀ X ∈ Xs, X.ok := fun X _ => rfl
def wrsV (Xs : List WrD) : List Value := Xs.flatMap (fun X => X.cs.toList)
theorem wrsV_cons (X : WrD) (Xs : List WrD) : wrsV (X :: Xs) = X.cs.toList ++ wrsV Xs := by simp [wrsV]
theorem wrsV_append (Xs Ys : List WrD) : wrsV (Xs ++ Ys) = wrsV Xs ++ wrsV Ys := by simp [wrsV]
theorem wrsV_length : ∀ (Xs : List WrD), (∀ X ∈ Xs, X.ok) → (wrsV Xs).length = Xs.length * 2
  | [], _ => rfl
  | X :: Xs, h => by
    rw [wrsV_cons, List.length_append, Array.length_toList, WrD.size (h X (by simp)), wrsV_length Xs (fun x hx => h x (by simp [hx])), List.length_cons]
    omega
theorem wrsV_get : ∀ (Xs : List WrD) (k : Nat) (X : WrD) (j : Nat) (v : Value), (∀ X ∈ Xs, X.ok) → Xs[k]? = some X → X.cs.toList[j]? = some v → (wrsV Xs)[k * 2 + j]? = some v
  | [], k, X, j, v, _, hk, _ => by simp at hk
  | Y :: Xs, 0, X, j, v, h, hk, hj => by
    simp at hk
    subst hk
    have hlt := (List.getElem?_eq_some_iff.1 hj).1
    rw [wrsV_cons, Nat.zero_mul, Nat.zero_add, List.getElem?_append_left hlt]
    exact hj
  | Y :: Xs, k + 1, X, j, v, h, hk, hj => by
    have hb := WrD.size (h Y (by simp))
    rw [List.getElem?_cons_succ] at hk
    rw [wrsV_cons, List.getElem?_append_right (by rw [Array.length_toList, hb]; omega), Array.length_toList, hb, show (k + 1) * 2 + j - 2 = k * 2 + j by omega]
    exact wrsV_get Xs k X j v (fun x hx => h x (by simp [hx])) hk hj
theorem wrsV_one (Xs : List WrD) : ∀ u ∈ wrsV Xs, u.oneCell' = true := by
  intro u hu
  simp only [wrsV, List.mem_flatMap] at hu
  obtain ⟨X, _, hu⟩ := hu
  exact (Array.all_eq_true_iff_forall_mem.1 X.one) u (by simpa using hu)

theorem Wr_infoN : (Tryz.prog.info? 72).map (·.size) = some 2 := by kernel_rfl
theorem Wr_info (X : WrD) (h : X.ok) : (Tryz.prog.info? 72).map (·.size) = some X.cs.size := by rw [WrD.size h]; exact Wr_infoN
theorem Wr_info3 : ∃ i, Tryz.prog.info? 72 = some i ∧ i.size = 2 := by
  have h := Wr_infoN
  cases hq : Tryz.prog.info? 72 with
  | none => rw [hq] at h; cases h
  | some i => rw [hq] at h; simp at h; exact ⟨i, rfl, h⟩
theorem Wr_info4 : ∃ i Z, Tryz.prog.info? 72 = some i ∧ i.zero = some (.agg Z) ∧ i.size = 2 ∧ Z.size = 2 ∧ i.bytes ≤ 1000 := by
  obtain ⟨i, hi, h2s⟩ := Wr_info3
  have h : (Tryz.prog.info? 72).map (fun i => decide (i.bytes ≤ 1000) && (match i.zero with | some (.agg Z) => Z.size == 2 | _ => false)) = some true := by kernel_rfl
  rw [hi, Option.map_some] at h
  simp only [Option.some.injEq, Bool.and_eq_true, decide_eq_true_eq] at h
  obtain ⟨h1, h2⟩ := h
  split at h2
  · rename_i Z hz
    exact ⟨i, Z, hi, hz, h2s, by simpa using h2, h1⟩
  · cases h2
/-- A grant's box. -/
structure WrX (W : World) (g : Nat) (X : WrD) : Prop where
  b : Blk W g 72 X.cs
theorem WrX.new (w : World) (X : WrD) : WrX (w.alloc (.cells X.cs 72)) w.heap.size X := ⟨Blk.new _ _ _⟩
section
variable {W : World} {g : Nat} {X : WrD}
theorem WrX.alloc (h : WrX W g X) (o : Obj) : WrX (W.alloc o) g X := ⟨h.b.alloc o⟩
theorem WrX.below {W' : World} (h : WrX W g X) (hb : Below W.heap.size W W') : WrX W' g X := ⟨h.b.below hb⟩
end
/-- A row of grants lies at A. -/
def WrRd (w : World) (A : Option Addr) (Xs : List WrD) : Prop := (∀ X ∈ Xs, X.ok) ∧ (Xs = [] ∨ ∃ g o, A = some ⟨g, o, none⟩ ∧ w.rangeAt g o (wrsV Xs))
theorem WrRd.nil_ (w : World) (A : Option Addr) : WrRd w A [] := ⟨by simp, .inl rfl⟩
theorem WrRd.below {w w' : World} {A : Option Addr} {Xs : List WrD} (h : WrRd w A Xs) (hb : Below w.heap.size w w') : WrRd w' A Xs :=
  ⟨h.1, h.2.elim .inl fun ⟨g, o, e, hr⟩ => .inr ⟨g, o, e, hr.below hb⟩⟩
theorem WrRd.pick {w : World} {A : Option Addr} {Xs : List WrD} {n : Nat} (c : Nat) (h : WrRd w A Xs) (hn : Xs.length = n) {k : Nat} {X : WrD} (hk : Xs[k]? = some X) :
    ∃ g q, w.rangeAt g q X.cs.toList ∧ X.ok ∧ ∀ W : World, (Instr.indexAt 57 (.slice A n c) (.int .i64 (k : Int))).run Tryz.prog W = .ok (.pointer (some ⟨g, q, none⟩)) W := by
  obtain ⟨h1, rfl | ⟨g, o, rfl, h2⟩⟩ := h
  · simp at hk
  · refine ⟨g, o + k * 2, fun j v hj => by rw [Nat.add_assoc]; exact h2 _ _ (wrsV_get Xs k X j v h1 hk hj), h1 X (List.mem_of_getElem? hk), fun W => ?_⟩
    obtain ⟨i0, hi, h2s⟩ := Wr_info3
    have hlt : k < n := by rw [← hn]; exact (List.getElem?_eq_some_iff.1 hk).1
    have h1 : (0 : Int) ≤ (k : Int) ∧ (k : Int) < (n : Int) := by omega
    simp [Instr.indexAt, run_underlying Tryz.underlying57, asIntOf, h1, sizeOf, typeInfo, hi, h2s, Addr.add_lit, Int.toNat_natCast]
    intro h2; omega
/-- A row of grants of one's own. -/
def WrOw (W : World) (base : Nat) (v : Value) (n : Nat) (Xs : List WrD) : Prop := W.ownsRow base 72 2 v n (wrsV Xs)
theorem WrOw.rd {W : World} {base n : Nat} {v : Value} {Xs : List WrD} (h : WrOw W base v n Xs) (hK : ∀ X ∈ Xs, X.ok) : ∃ A c, v = .slice A n c ∧ Xs.length = n ∧ n ≤ c ∧ (A = none → n = 0 ∧ c = 0) ∧ WrRd W A Xs := by
  have hl : Xs.length = n := by
    have h1 : (wrsV Xs).length = n * 2 := h.1
    rw [wrsV_length Xs hK] at h1
    omega
  rcases h.2 with ⟨rfl, h0⟩ | ⟨g, cap, cur, rfl, _, hg, h3, _, _, ht⟩
  · subst h0
    exact ⟨none, 0, rfl, hl, Nat.le_refl _, fun _ => ⟨rfl, rfl⟩, hK, .inl (List.eq_nil_of_length_eq_zero hl)⟩
  · refine ⟨_, cap, rfl, hl, h3, (fun e => by cases e), hK, .inr ⟨g, 0, rfl, fun j v hj => ?_⟩⟩
    rw [← ht, List.getElem?_take] at hj
    split at hj
    · rw [cell_of_row W g (0 + j) cur _ _ hg, Nat.zero_add, ← Array.getElem?_toList]; exact hj
    · cases hj
theorem WrOw.below {W W' : World} {base n : Nat} {v : Value} {Xs : List WrD} (h : WrOw W base v n Xs) (hb : Below W.heap.size W W') : WrOw W' base v n Xs := own_below h hb
theorem WrOw.le {W : World} {base base' n : Nat} {v : Value} {Xs : List WrD} (h : WrOw W base v n Xs) (hb : base' ≤ base) : WrOw W base' v n Xs :=
  ⟨h.1, h.2.imp id fun ⟨g, c, cur, a, b, d⟩ => ⟨g, c, cur, a, Nat.le_trans hb b, d⟩⟩
theorem WrOw.made (W : World) : WrOw (W.alloc (.cells #[] 72)) W.heap.size (.slice (some ⟨W.heap.size, 0, none⟩) 0 0) 0 [] :=
  World.ownsRow_made W #[] 0 (Nat.le_refl _) (by decide) rfl
theorem WrOw.none_ (W : World) (base : Nat) : WrOw W base (.slice none 0 0) 0 [] := ⟨rfl, .inl ⟨rfl, rfl⟩⟩
/-- A whole grant is loaded out of a row; out of its box; stored into its box. -/
theorem wpList_load_wrr {w : World} {ops : Array Oper} {rest : List Oper} {o : Oper} {a : Act} {Q : Exit → Act → World → Prop} (hgd : Region.wanted o (yielded ops a.tmps) = true) (x : Operand) (ho : o.op = .load 72 x)
    (g q : Nat) {X : WrD} (hx : a.eval x = .pointer (some ⟨g, q, none⟩)) (hr : w.rangeAt g q X.cs.toList) (hK : X.ok)
    (h : wpList Tryz.prog ops Q rest (a.put o.dst (.agg X.cs)) w) : wpList Tryz.prog ops Q (o :: rest) a w := by
  refine wpList_load_if hgd 72 x ho g q hx X.cs.toList _ hr Tryz.underlying72 rfl ?_ ?_
  · rw [Array.length_toList]; exact Wr_info X hK
  · rw [Array.toArray_toList]; exact h
theorem wpList_store_wrn {w : World} {ops : Array Oper} {rest : List Oper} {o : Oper} {a : Act} {Q : Exit → Act → World → Prop} {old : Array Value} (hgd : o.guard = none) (x y : Operand) (ho : o.op = .store 72 x y)
    {X : WrD} (hx : a.eval x = .pointer (some ⟨w.heap.size, 0, none⟩)) (hy : a.eval y = .agg X.cs) (hK : X.ok) (hs : old.size = 2)
    (h : wpList Tryz.prog ops Q rest (a.put o.dst undef) (w.alloc (.cells X.cs 72))) : wpList Tryz.prog ops Q (o :: rest) a (w.alloc (.cells old 72)) :=
  wpList_store_new hgd 72 x y ho X.cs hx hy (Wr_info X hK) (by rw [WrD.size hK, hs]) X.one h
theorem wp_append_wr {w : World} {o : Oper} {a : Act} {K : Act → World → Prop} {Q : Exit → Act → World → Prop} (s x : Operand)
    (ho : o.op = .call { callee := .builtin .append, args := #[s, x], argTypes := #[57, 57] })
    (base : Nat) (v : Value) (n : Nat) (Os : List WrD) (hs : a.eval s = v) (hown : WrOw w base v n Os)
    (A : Option Addr) (m c : Nat) (Xs : List WrD) (hx : a.eval x = .slice A m c) (hm : Xs.length = m) (hA : A = none → m = 0 ∧ c = 0) (hr : WrRd w A Xs) (hn : n + m ≤ 1000) (hbase : base ≤ w.heap.size)
    (h : ∀ v' w', WrOw w' base v' (n + m) (Os ++ Xs) → w.grownBy w' v.ownBlock → K (a.put o.dst v') w') : o.wp Tryz.prog a w K Q := by
  obtain ⟨j0, Z, hj, hjz, hjs, hZ, hjb⟩ := Wr_info4
  cases A with
  | none =>
    obtain ⟨rfl, rfl⟩ := hA rfl
    obtain rfl : Xs = [] := List.eq_nil_of_length_eq_zero hm
    have hrun := run_append_owned_none (P := Tryz.prog) w base 57 o.type 72 j0 2 Tryz.underlying57 hj v n (wrsV Os) hown
    unfold Oper.wp execOp
    simp only [ho, resolve, invoke, builtin, Sem.run_bind, Sem.run_pure, Result.andThen_ok, List.map_toArray, List.map_cons, List.map_nil, hs, hx, hrun]
    exact h v w (by rw [List.append_nil]; exact hown) ⟨rfl, rfl, rfl, Nat.le_refl _, fun _ _ _ => rfl⟩
  | some ad =>
    have hlen := wrsV_length Xs hr.1
    rw [hm] at hlen
    refine wp_append_own w s x 57 ho base 72 j0 (.agg Z) 2 j0.bytes Tryz.underlying57 hj hjz hjs rfl hZ (by decide) v n (wrsV Os) hs hown ad m c (wrsV Xs) hx hlen ?_ (wrsV_one Xs) (by unfold maxLen; omega) (Nat.le_trans (Nat.mul_le_mul hn hjb) (by decide)) hbase (fun v' w' h1 h2 _ => h v' w' (by unfold WrOw; rw [wrsV_append]; exact h1) h2)
    rcases hr.2 with rfl | ⟨g, o, h, hr2⟩
    · intro j u h; simp [wrsV] at h
    · cases h
      intro j u hju
      rw [Addr.add_lit]
      exact hr2 j u hju
theorem WrOw.grown {W W' : World} {base n B : Nat} {v : Value} {Xs : List WrD} (h : WrOw W base v n Xs) (hg : W.grownBy W' v.ownBlock) (hB : B ≤ base) {w : World} (hb : Below B w W) (hs : B ≤ W.heap.size) : Below B w W' :=
  hb.grown hg hs (by intro k hk; have := (h.lt k hk).1; omega)
theorem put_getW0 (off : Nat) : ∀ (l : List Value) (k : Nat) (cs : Array Value), off + k + l.length ≤ cs.size →
    ((l.zipIdx k).foldl (fun cs x => cs.setIfInBounds (off + x.2) x.1) cs).size = cs.size ∧ ∀ i, ((l.zipIdx k).foldl (fun cs x => cs.setIfInBounds (off + x.2) x.1) cs)[i]? = if off + k ≤ i ∧ i < off + k + l.length then l[i - off - k]? else cs[i]?
  | [], k, cs, _ => ⟨rfl, fun i => by simp; omega⟩
  | v :: l, k, cs, h => by
    simp only [List.length_cons] at h
    obtain ⟨h1, h2⟩ := put_getW0 off l (k + 1) (cs.setIfInBounds (off + k) v) (by simp; omega)
    rw [List.zipIdx_cons, List.foldl_cons]
    refine ⟨by rw [h1]; simp, fun i => ?_⟩
    rw [h2]
    simp only [List.length_cons]
    by_cases c1 : off + (k + 1) ≤ i ∧ i < off + (k + 1) + l.length
    · rw [if_pos c1, if_pos (by omega), show i - off - k = (i - off - (k + 1)) + 1 by omega, List.getElem?_cons_succ]
    · rw [if_neg c1, Array.getElem?_setIfInBounds]
      by_cases c2 : off + k = i
      · subst c2
        rw [if_pos rfl, if_pos (by omega), if_pos (by omega), show off + k - off - k = 0 by omega]; rfl
      · rw [if_neg c2, if_neg (by omega)]
theorem put_get_W (off : Nat) (X : Array Value) (cs : Array Value) (h : off + X.size ≤ cs.size) :
    (X.zipIdx.foldl (fun cs (c, j) => cs.setIfInBounds (off + j) c) cs).size = cs.size ∧ ∀ i, (X.zipIdx.foldl (fun cs (c, j) => cs.setIfInBounds (off + j) c) cs)[i]? = if off ≤ i ∧ i < off + X.size then X.toList[i - off]? else cs[i]? := by
  have := put_getW0 off X.toList 0 cs (by rw [Array.length_toList]; omega)
  rw [Array.length_toList, Nat.add_zero, show ((X.toList).zipIdx 0).foldl (fun cs x => cs.setIfInBounds (off + x.2) x.1) cs = X.zipIdx.foldl (fun cs (c, j) => cs.setIfInBounds (off + j) c) cs by rw [← Array.foldl_toList, Array.toList_zipIdx]] at this
  exact this

theorem wp_build1wr {w : World} {o : Oper} {a : Act} {K : Act → World → Prop} {Q : Exit → Act → World → Prop} (x : Operand) (ho : o.op = .buildSlice 57 1 #[(0, x)])
    (X : WrD) (hX : X.ok) (hx : a.eval x = .agg X.cs)
    (h : ∀ cs, WrRd (w.alloc (.cells cs 72)) (some ⟨w.heap.size, 0, none⟩) [X] → K (a.put o.dst (.slice (some ⟨w.heap.size, 0, none⟩) 1 1)) (w.alloc (.cells cs 72))) :
    o.wp Tryz.prog a w K Q := by
  obtain ⟨j0, Z, hj, hjz, hjs, hZ, _⟩ := Wr_info4
  have lx : X.cs.size = 2 := WrD.size hX
  obtain ⟨zs, hzs⟩ : ∃ zs : Array Value, zs = (Array.range (1 * j0.size)).map ((Value.agg Z).cells[· % (Value.agg Z).cells.size]!) := ⟨_, rfl⟩
  have hz : zs.size = 2 := by rw [hzs, hjs]; simp
  obtain ⟨s1, g1⟩ := put_get_W 0 X.cs zs (by rw [hz, lx]; decide)
  generalize hc1 : X.cs.zipIdx.foldl (fun cs (c, j) => cs.setIfInBounds (0 + j) c) zs = c1 at s1 g1
  refine wp_buildSlice 57 72 1 #[(0, x)] ho c1 j0 (.agg Z) Tryz.underlying57 hj hjz (by rw [hjs]; decide) (by rw [hjs]; decide) ?_ (h c1 ⟨fun Y hY => by rw [List.mem_singleton.1 hY]; exact hX, .inr ⟨w.heap.size, 0, rfl, ?_⟩⟩)
  · rw [← hzs, hjs]
    have e1 : (Value.agg X.cs).cells = X.cs := rfl
    simp only [List.map_toArray, List.map_cons, List.map_nil, hx, Instr.fill, e1, lx, hz]
    rw [if_neg (by decide)]
    simp only [Nat.zero_mul]
    rw [hc1]
  · intro j u hj'
    have hj2 : X.cs.toList[j]? = some u := by simpa [wrsV] using hj'
    have hlt : j < 2 := by have := (List.getElem?_eq_some_iff.1 hj2).1; rw [Array.length_toList, lx] at this; exact this
    rw [cell_of_row _ _ _ _ _ _ (heap_alloc_new w _), Nat.zero_add, g1, lx, if_pos (by omega), Nat.sub_zero]
    exact hj2

theorem yields_wr {ops : Array Oper} {S : World → Prop} {op : Oper} {a : Act} (hw : Region.wanted op (yielded ops a.tmps) = true) (x : Operand) (ho : op.op = .load 72 x) (b o : Nat) (hx : a.eval x = .pointer (some ⟨b, o, none⟩)) (X : WrD) (hK : X.ok) (hS : ∀ w, S w → w.rangeAt b o X.cs.toList) : YieldsIf Tryz.prog ops S op (.agg X.cs) a := by
  have := yieldsIf_load_mid (P := Tryz.prog) (ops := ops) (S := S) hw 72 x ho b o hx X.cs.toList _ hS Tryz.underlying72 rfl (by rw [Array.length_toList]; exact Wr_info X hK)
  rwa [Array.toArray_toList] at this
theorem WrOw.nil (W : World) (base : Nat) : WrOw W base (.slice none 0 0) 0 [] := ⟨rfl, .inl ⟨rfl, rfl⟩⟩
end Go.Proofs.YtemdmdgigmhlbaaGreat
/- disk: slices.Clone at bytes and at writes. -/
set_option linter.unusedSimpArgs false
set_option linter.unusedVariables false
namespace Go.Proofs.YtemdmdgigmhlbaaGreat
open Go.RowKit Go.Qc Go.Shelf
attribute [local go_sem] txt_size txt_append ib_fold
theorem map_one (l : List UInt8) : ∀ u ∈ l.map u8v, u.oneCell' = true := fun u hu => by
  obtain ⟨b, _, rfl⟩ := List.mem_map.1 hu
  rfl
set_option maxRecDepth 100000 in
set_option maxHeartbeats 4000000 in
theorem cloneB_any (base : Nat) (v : Value) (l : List UInt8) (hl : l.length ≤ 1000000000) (W : World) (h : ByOw W base v l) :
    Calls Tryz.prog 54 #[v] W fun e w' => ∃ v', e = .returned v' ∧ ByOw w' W.heap.size v' l ∧ Below W.heap.size W w' := by
  obtain ⟨j0, hj, hjz, hjs, hjb⟩ := info_parts infoByte
  have qN : ∀ (W : World) (a : Option Addr) (n c n' c' : Nat), (binOp .eql 56 (.slice a n c) (.slice none n' c')).run Tryz.prog W = .ok (.bool a.isNone) W := fun W a n c n' c' => Lib.run_eql_slice_nil W _ _ a n c n' c' Tryz.underlying56
  have hlen : (l.map u8v).length = l.length * 1 := h.1
  have hcell := fun g (hg : v.ownBlock = some g) => World.ownsRow.cells h hg
  rcases h.2 with ⟨rfl, h0⟩ | ⟨g, c, cur, rfl, _⟩
  · obtain rfl : l = [] := List.eq_nil_of_length_eq_zero h0
    go_enter Tryz.func54, Tryz.ntmps54
    go_wp2
    go_ret
    exact ⟨_, rfl, ⟨rfl, .inl ⟨rfl, rfl⟩⟩, Below.refl _ _⟩
  · have hc := hcell g rfl
    have h1 : ∀ u ∈ l.map u8v, u.oneCell' = true := map_one l
    clear h hcell
    go_enter Tryz.func54, Tryz.ntmps54
    go_wp2_with (at_builtin; refine wpList_append_own _ rfl _ _ 56 rfl W.heap.size 5 j0 (.int .u8 0) 1 1 Tryz.underlying56 hj hjz hjs hjb rfl (by decide) _ _ _ rfl (World.ownsRow_made W #[] 0 (Nat.le_refl _) (by decide) rfl) ⟨g, 0, none⟩ l.length c (l.map u8v) rfl ?l1 ?l6 h1 ?l2 ?l3 ?l4 ?_)
    case l1 => exact hlen
    case l6 => intro j u hju; exact Lib.cell?_alloc_some _ (hc j u hju)
    case l2 => unfold maxLen; omega
    case l3 => omega
    case l4 => simp
    intro v' w1 hown hgrow _
    go_wp2
    go_ret
    exact ⟨v', rfl, by (first | unfold ByOw | unfold WrOw); simpa using hown, ((Below.refl _ W).alloc (Nat.le_refl _) _).grown hgrow (by simp) (by intro k hk; simp [Value.ownBlock] at hk; omega)⟩
end Go.Proofs.YtemdmdgigmhlbaaGreat
/- disk: a disk as data; what reads it; a step of no fuse; what is kept of a write. -/
set_option linter.unusedSimpArgs false
set_option linter.unusedVariables false
namespace Go.Proofs.YtemdmdgigmhlbaaGreat
open Go.RowKit Go.Qc Go.Shelf
attribute [local go_sem] txt_size txt_append ib_fold
theorem own_apart2 {W : World} {b1 b2 n m s1 s2 : Nat} {e1 e2 : TypeId} {v u : Value} {xs ys : List Value} (h : W.ownsRow b1 e1 s1 v n xs) (k : W.ownsRow b2 e2 s2 u m ys) (he : e1 ≠ e2) : v.ownBlock = none ∨ v.ownBlock ≠ u.ownBlock := by
  rcases h.2 with ⟨rfl, _⟩ | ⟨g, c, cur, rfl, _, hg, _⟩
  · exact .inl rfl
  · right
    rcases k.2 with ⟨rfl, _⟩ | ⟨g', c', cur', rfl, _, hg', _⟩
    · intro e; cases e
    · intro e
      have e2 : g = g' := Option.some.inj e
      subst e2
      have e3 := Option.some.inj (hg.symm.trans hg')
      injection e3 with _ e4 _
      exact he e4
theorem blk_off {W : World} {D b n s : Nat} {T e : TypeId} {cs : Array Value} {v : Value} {xs : List Value} (h : Blk W D T cs) (k : W.ownsRow b e s v n xs) (he : T ≠ e) : some D ≠ v.ownBlock := by
  rcases k.2 with ⟨rfl, _⟩ | ⟨g', c', cur', rfl, _, hg', _⟩
  · intro e; cases e
  · intro e
    have e2 : D = g' := Option.some.inj e
    subst e2
    have e3 := Option.some.inj (h.symm.trans hg')
    injection e3 with _ e4 _
    exact he e4
/-- The rows of a disk. -/
structure DkR (base : Nat) (kv sv wv : Value) (k s : List UInt8) (ws : List WrD) (W : World) : Prop where
  k : ByOw W base kv k
  s : ByOw W base sv s
  q : WrOw W base wv ws.length ws
  ap : kv.ownBlock = none ∨ kv.ownBlock ≠ sv.ownBlock
  bs : base ≤ W.heap.size
/-- A disk without a fuse. -/
structure DkS (base D : Nat) (kv sv wv : Value) (k s : List UInt8) (ws : List WrD) (dn : Bool) (W : World) : Prop where
  x : Blk W D 60 #[kv, sv, wv, .pointer none, .bool dn]
  r : DkR base kv sv wv k s ws W
  bd : base ≤ D
section
variable {base D : Nat} {kv sv wv kv' sv' wv' : Value} {k s k' s' : List UInt8} {ws ws' : List WrD} {dn dn' : Bool} {W W' : World}
theorem DkR.below (h : DkR base kv sv wv k s ws W) (hb : Below W.heap.size W W') : DkR base kv sv wv k s ws W' := ⟨h.k.below hb, h.s.below hb, h.q.below hb, h.ap, Nat.le_trans h.bs hb.size⟩
theorem DkS.below (h : DkS base D kv sv wv k s ws dn W) (hb : Below W.heap.size W W') : DkS base D kv sv wv k s ws dn W' := ⟨h.x.below hb, h.r.below hb, h.bd⟩
/-- Another row of what is seen. -/
theorem DkR.seen (h : DkR base kv sv wv k s ws W) (hg : W.grownBy W' sv.ownBlock) (hs : ByOw W' base sv' s') (hv : sv'.ownBlock = sv.ownBlock ∨ ∃ g, sv'.ownBlock = some g ∧ W.heap.size ≤ g) : DkR base kv sv' wv k s' ws W' :=
  ⟨World.ownsRow.kept h.k hg h.ap, hs, World.ownsRow.kept h.q hg (own_apart2 h.q h.s (by decide)), by
    rcases h.ap with e | e
    · exact .inl e
    · rcases hv with hv | ⟨g, hv, hgg⟩
      · right; rw [hv]; exact e
      · right
        rw [hv]
        intro e2
        have := (World.ownsRow.lt h.k g e2).2
        omega, Nat.le_trans h.bs hg.size⟩
/-- Another row of what is kept. -/
theorem DkR.kept (h : DkR base kv sv wv k s ws W) (hg : W.grownBy W' kv.ownBlock) (hk : ByOw W' base kv' k') (hv : kv'.ownBlock = kv.ownBlock ∨ ∃ g, kv'.ownBlock = some g ∧ W.heap.size ≤ g) : DkR base kv' sv wv k' s ws W' := by
  have hap : sv.ownBlock = none ∨ sv.ownBlock ≠ kv.ownBlock := by
    rcases h.ap with e | e
    · by_cases h0 : sv.ownBlock = none
      · exact .inl h0
      · right; rw [e]; exact h0
    · exact .inr e.symm
  refine ⟨hk, World.ownsRow.kept h.s hg hap, World.ownsRow.kept h.q hg (own_apart2 h.q h.k (by decide)), ?_, Nat.le_trans h.bs hg.size⟩
  rcases hv with hv | ⟨g, hv, hgg⟩
  · rw [hv]; exact h.ap
  · right
    rw [hv]
    intro e2
    have := (World.ownsRow.lt h.s g e2.symm).2
    omega
/-- Another row of what waits. -/
theorem DkR.waits (h : DkR base kv sv wv k s ws W) (hg : W.grownBy W' wv.ownBlock) (hq : WrOw W' base wv' ws'.length ws') : DkR base kv sv wv' k s ws' W' :=
  ⟨World.ownsRow.kept h.k hg (own_apart2 h.k h.q (by decide)), World.ownsRow.kept h.s hg (own_apart2 h.s h.q (by decide)), hq, h.ap, Nat.le_trans h.bs hg.size⟩
/-- The disk's own cells are stored. -/
theorem DkR.box (h : DkR base kv sv wv k s ws W) {cs : Array Value} (hx : Blk W D 60 cs) (hg : W.grownBy W' (some D)) : DkR base kv sv wv k s ws W' := by
  have a1 := blk_off hx h.k (by decide)
  have a2 := blk_off hx h.s (by decide)
  have a3 := blk_off hx h.q (by decide)
  exact ⟨World.ownsRow.kept h.k hg (.inr a1.symm), World.ownsRow.kept h.s hg (.inr a2.symm), World.ownsRow.kept h.q hg (.inr a3.symm), h.ap, Nat.le_trans h.bs hg.size⟩
theorem DkS.boxed (h : DkS base D kv sv wv k s ws dn W) {r : Option Nat} (hr : some D ≠ r) (hg : W.grownBy W' r) : Blk W' D 60 #[kv, sv, wv, .pointer none, .bool dn] := (hg.block D h.x.lt hr).trans h.x
end
/-- Only what is from a block on may have changed. -/
theorem below_of_gbr {base : Nat} {W W' : World} {r : Option Nat} (hg : W.grownBy W' r) (hr : ∀ g, r = some g → base ≤ g) (hb : base ≤ W.heap.size) : Below base W W' :=
  ⟨hg.os, hg.tape, hg.output, hg.size, fun i hi => hg.block i (by omega) (fun e => by have := hr i e.symm; omega)⟩
set_option maxRecDepth 100000 in
set_option maxHeartbeats 8000000 in
theorem dlen_any (base D : Nat) (kv sv wv : Value) (k s : List UInt8) (ws : List WrD) (dn : Bool) (W : World) (h : DkS base D kv sv wv k s ws dn W) :
    Calls Tryz.prog 17 #[.pointer (some ⟨D, 0, none⟩)] W fun e w' => e = .returned (.int .i64 (s.length : Int)) ∧ W = w' := by
  have f1 := h.x.cell_ (i := 1) rfl
  obtain ⟨A, c, rfl⟩ := h.r.s.sl
  clear h
  go_enter Tryz.func17, Tryz.ntmps17
  go_wp2_with (fail)
  go_ret
  exact ⟨rfl, rfl⟩
theorem by_text {W : World} {base : Nat} {v : Value} {l : List UInt8} (h : ByOw W base v l) : (convert 56 9 v).run Tryz.prog W = .ok (.string (txt l)) W := by
  rcases h.2 with ⟨rfl, h0⟩ | ⟨g, c, cur, rfl, _⟩
  · obtain rfl : l = [] := List.eq_nil_of_length_eq_zero h0
    exact run_txt (P := Tryz.prog) W 56 9 5 _ 0 0 [] Tryz.underlying56 Tryz.underlying5 Tryz.underlying9 rfl (.inl rfl)
  · exact run_txt (P := Tryz.prog) W 56 9 5 _ l.length c l Tryz.underlying56 Tryz.underlying5 Tryz.underlying9 rfl (.inr ⟨⟨g, 0, none⟩, rfl, fun j u hj => World.ownsRow.cells h rfl j u hj⟩)
set_option maxRecDepth 100000 in
set_option maxHeartbeats 8000000 in
theorem dall_any (base D : Nat) (kv sv wv : Value) (k s : List UInt8) (ws : List WrD) (dn : Bool) (W : World) (h : DkS base D kv sv wv k s ws dn W) :
    Calls Tryz.prog 13 #[.pointer (some ⟨D, 0, none⟩)] W fun e w' => e = .returned (.string (txt s)) ∧ W = w' := by
  have f1 := h.x.cell_ (i := 1) rfl
  have hc := by_text h.r.s
  clear h
  generalize txt s = S at *
  go_enter Tryz.func13, Tryz.ntmps13
  go_wp2_with (fail)
  go_ret
  exact ⟨rfl, rfl⟩
set_option maxRecDepth 100000 in
set_option maxHeartbeats 8000000 in
theorem ddown_any (base D : Nat) (kv sv wv : Value) (k s : List UInt8) (ws : List WrD) (dn : Bool) (W : World) (h : DkS base D kv sv wv k s ws dn W) :
    Calls Tryz.prog 25 #[.pointer (some ⟨D, 0, none⟩)] W fun e w' => e = .returned (.bool dn) ∧ W = w' := by
  have f1 := h.x.cell_ (i := 4) rfl
  clear h
  go_enter Tryz.func25, Tryz.ntmps25
  go_wp2_with (fail)
  go_ret
  exact ⟨rfl, rfl⟩
set_option maxRecDepth 100000 in
set_option maxHeartbeats 8000000 in
theorem dburn_any (base D : Nat) (kv sv wv : Value) (k s : List UInt8) (ws : List WrD) (dn : Bool) (W : World) (h : DkS base D kv sv wv k s ws dn W) :
    Calls Tryz.prog 52 #[.pointer (some ⟨D, 0, none⟩)] W fun e w' => e = .returned (.int .i64 0) ∧ W = w' := by
  have f1 := h.x.cell_ (i := 3) rfl
  clear h
  go_enter Tryz.func52, Tryz.ntmps52
  go_wp2_with (fail)
  go_ret
  exact ⟨rfl, rfl⟩
set_option maxRecDepth 100000 in
set_option maxHeartbeats 8000000 in
theorem dnew_any (W : World) :
    Calls Tryz.prog 6 #[] W fun e w' => ∃ D, e = .returned (.pointer (some ⟨D, 0, none⟩)) ∧ DkS W.heap.size D (.slice none 0 0) (.slice none 0 0) (.slice none 0 0) [] [] [] false w' ∧ Below W.heap.size W w' := by
  go_enter Tryz.func6, Tryz.ntmps6
  go_wp2_with (fail)
  go_ret
  exact ⟨_, rfl, ⟨Blk.new _ _ _, ⟨ByOw.nil _ _, ByOw.nil _ _, WrOw.nil _ _, .inl rfl, by simp⟩, Nat.le_refl _⟩, (Below.refl _ _).alloc (Nat.le_refl _) _⟩
/-- How many bytes are left of a write. -/
def keepN (cnt : Int) (size : Nat) (torn : Bool) : Nat := if torn then 0 else min (max cnt 0).toNat size
set_option maxRecDepth 100000 in
set_option maxHeartbeats 8000000 in
theorem keeps_any (m : Value) (cnt : Int) (size : Nat) (torn : Bool) (W : World) (h1 : m.oneCell' = true) (hm : m.cells = #[m]) :
    Calls Tryz.prog 53 #[.agg #[m, .int .i64 cnt], .int .i64 (size : Int), .bool torn] W fun e w' => e = .returned (.int .i64 (keepN cnt size torn : Int)) ∧ Below W.heap.size W w' := by
  have hb := (Below.refl W.heap.size W).alloc (Nat.le_refl _) (.cells #[m, .int .i64 cnt] 76)
  have e1 : min (max cnt 0) (size : Int) = (keepN cnt size false : Int) := by unfold keepN; simp only [Bool.false_eq_true, if_false]; omega
  cases torn
  · go_enter Tryz.func53, Tryz.ntmps53
    go_wp2_with (fail)
    go_ret
    exact ⟨rfl, hb⟩
  · go_enter Tryz.func53, Tryz.ntmps53
    go_wp2_with (fail)
    go_ret
    exact ⟨rfl, hb⟩
end Go.Proofs.YtemdmdgigmhlbaaGreat

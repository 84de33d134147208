
/- journal: frames as data, their cells, their box, rows of them; rows that come in. -/
import Derived.Test.YtemdmdgigmhlbaaGreatId7
import Derived.Great.BuildSlice
set_option linter.unusedSimpArgs false
set_option linter.unusedVariables false
namespace Go.Proofs.YtemdmdgigmhlbaaGreat
open Go.RowKit Go.Qc Go.Shelf
attribute [local go_sem] txt_size txt_append ib_fold
/-- A frame as data. -/
structure FmD where
  k : Int
  p : List UInt8
def FmD.ok (X : FmD) : Prop := X.k = X.k
def FmD.cs (X : FmD) : Array Value := #[.int .i64 X.k, .string (txt X.p)]
theorem FmD.size {X : FmD} (h : X.ok) : X.cs.size = 2 := rfl
theorem FmD.one (X : FmD) : X.cs.all (·.oneCell') = true := by
  unfold FmD.cs
  simp [Value.oneCell']
theorem FmD.all_ok (Xs : List FmD) : ∀ X ∈ Xs, X.ok := fun X _ => rfl
def fmsV (Xs : List FmD) : List Value := Xs.flatMap (fun X => X.cs.toList)
theorem fmsV_cons (X : FmD) (Xs : List FmD) : fmsV (X :: Xs) = X.cs.toList ++ fmsV Xs := by simp [fmsV]
theorem fmsV_append (Xs Ys : List FmD) : fmsV (Xs ++ Ys) = fmsV Xs ++ fmsV Ys := by simp [fmsV]
theorem fmsV_length : ∀ (Xs : List FmD), (∀ X ∈ Xs, X.ok) → (fmsV Xs).length = Xs.length * 2
  | [], _ => rfl
  | X :: Xs, h => by
    rw [fmsV_cons, List.length_append, Array.length_toList, FmD.size (h X (by simp)), fmsV_length Xs (fun x hx => h x (by simp [hx])), List.length_cons]
    omega
theorem fmsV_get : ∀ (Xs : List FmD) (k : Nat) (X : FmD) (j : Nat) (v : Value), (∀ X ∈ Xs, X.ok) → Xs[k]? = some X → X.cs.toList[j]? = some v → (fmsV Xs)[k * 2 + j]? = some v
  | [], k, X, j, v, _, hk, _ => by simp at hk
  | Y :: Xs, 0, X, j, v, h, hk, hj => by
    simp at hk
    subst hk
    have hlt := (List.getElem?_eq_some_iff.1 hj).1
    rw [fmsV_cons, Nat.zero_mul, Nat.zero_add, List.getElem?_append_left hlt]
    exact hj
  | Y :: Xs, k + 1, X, j, v, h, hk, hj => by
    have hb := FmD.size (h Y (by simp))
    rw [List.getElem?_cons_succ] at hk
    rw [fmsV_cons, List.getElem?_append_right (by rw [Array.length_toList, hb]; omega), Array.length_toList, hb, show (k + 1) * 2 + j - 2 = k * 2 + j by omega]
    exact fmsV_get Xs k X j v (fun x hx => h x (by simp [hx])) hk hj
theorem fmsV_one (Xs : List FmD) : ∀ u ∈ fmsV Xs, u.oneCell' = true := by
  intro u hu
  simp only [fmsV, List.mem_flatMap] at hu
  obtain ⟨X, _, hu⟩ := hu
  exact (Array.all_eq_true_iff_forall_mem.1 X.one) u (by simpa using hu)

theorem put_getM0 (off : Nat) : ∀ (l : List Value) (k : Nat) (cs : Array Value), off + k + l.length ≤ cs.size →
    ((l.zipIdx k).foldl (fun cs x => cs.setIfInBounds (off + x.2) x.1) cs).size = cs.size ∧ ∀ i, ((l.zipIdx k).foldl (fun cs x => cs.setIfInBounds (off + x.2) x.1) cs)[i]? = if off + k ≤ i ∧ i < off + k + l.length then l[i - off - k]? else cs[i]?
  | [], k, cs, _ => ⟨rfl, fun i => by simp; omega⟩
  | v :: l, k, cs, h => by
    simp only [List.length_cons] at h
    obtain ⟨h1, h2⟩ := put_getM0 off l (k + 1) (cs.setIfInBounds (off + k) v) (by simp; omega)
    rw [List.zipIdx_cons, List.foldl_cons]
    refine ⟨by rw [h1]; simp, fun i => ?_⟩
    rw [h2]
    simp only [List.length_cons]
    by_cases c1 : off + (k + 1) ≤ i ∧ i < off + (k + 1) + l.length
    · rw [if_pos c1, if_pos (by omega), show i - off - k = (i - off - (k + 1)) + 1 by omega, List.getElem?_cons_succ]
    · rw [if_neg c1, Array.getElem?_setIfInBounds]
      by_cases c2 : off + k = i
      · subst c2
        rw [if_pos rfl, if_pos (by omega), if_pos (by omega), show off + k - off - k = 0 by omega]; rfl
      · rw [if_neg c2, if_neg (by omega)]
theorem put_get_M (off : Nat) (X : Array Value) (cs : Array Value) (h : off + X.size ≤ cs.size) :
    (X.zipIdx.foldl (fun cs (c, j) => cs.setIfInBounds (off + j) c) cs).size = cs.size ∧ ∀ i, (X.zipIdx.foldl (fun cs (c, j) => cs.setIfInBounds (off + j) c) cs)[i]? = if off ≤ i ∧ i < off + X.size then X.toList[i - off]? else cs[i]? := by
  have := put_getM0 off X.toList 0 cs (by rw [Array.length_toList]; omega)
  rw [Array.length_toList, Nat.add_zero, show ((X.toList).zipIdx 0).foldl (fun cs x => cs.setIfInBounds (off + x.2) x.1) cs = X.zipIdx.foldl (fun cs (c, j) => cs.setIfInBounds (off + j) c) cs by rw [← Array.foldl_toList, Array.toList_zipIdx]] at this
  exact this

theorem Fj_infoN : (Tryz.prog.info? 34).map (·.size) = some 2 := by kernel_rfl
theorem Fj_info (X : FmD) (h : X.ok) : (Tryz.prog.info? 34).map (·.size) = some X.cs.size := by rw [FmD.size h]; exact Fj_infoN
theorem Fj_info3 : ∃ i, Tryz.prog.info? 34 = some i ∧ i.size = 2 := by
  have h := Fj_infoN
  cases hq : Tryz.prog.info? 34 with
  | none => rw [hq] at h; cases h
  | some i => rw [hq] at h; simp at h; exact ⟨i, rfl, h⟩
theorem Fj_info4 : ∃ i Z, Tryz.prog.info? 34 = some i ∧ i.zero = some (.agg Z) ∧ i.size = 2 ∧ Z.size = 2 ∧ i.bytes ≤ 24 := by
  obtain ⟨i, hi, h2s⟩ := Fj_info3
  have h : (Tryz.prog.info? 34).map (fun i => decide (i.bytes ≤ 24) && (match i.zero with | some (.agg Z) => Z.size == 2 | _ => false)) = some true := by kernel_rfl
  rw [hi, Option.map_some] at h
  simp only [Option.some.injEq, Bool.and_eq_true, decide_eq_true_eq] at h
  obtain ⟨h1, h2⟩ := h
  split at h2
  · rename_i Z hz
    exact ⟨i, Z, hi, hz, h2s, by simpa using h2, h1⟩
  · cases h2
/-- A grant's box. -/
structure FjX (W : World) (g : Nat) (X : FmD) : Prop where
  b : Blk W g 34 X.cs
theorem FjX.new (w : World) (X : FmD) : FjX (w.alloc (.cells X.cs 34)) w.heap.size X := ⟨Blk.new _ _ _⟩
section
variable {W : World} {g : Nat} {X : FmD}
theorem FjX.alloc (h : FjX W g X) (o : Obj) : FjX (W.alloc o) g X := ⟨h.b.alloc o⟩
theorem FjX.below {W' : World} (h : FjX W g X) (hb : Below W.heap.size W W') : FjX W' g X := ⟨h.b.below hb⟩
end
/-- A row of grants lies at A. -/
def FjRd (w : World) (A : Option Addr) (Xs : List FmD) : Prop := (∀ X ∈ Xs, X.ok) ∧ (Xs = [] ∨ ∃ g o, A = some ⟨g, o, none⟩ ∧ w.rangeAt g o (fmsV Xs))
theorem FjRd.nil_ (w : World) (A : Option Addr) : FjRd w A [] := ⟨by simp, .inl rfl⟩
theorem FjRd.below {w w' : World} {A : Option Addr} {Xs : List FmD} (h : FjRd w A Xs) (hb : Below w.heap.size w w') : FjRd w' A Xs :=
  ⟨h.1, h.2.elim .inl fun ⟨g, o, e, hr⟩ => .inr ⟨g, o, e, hr.below hb⟩⟩
theorem FjRd.pick {w : World} {A : Option Addr} {Xs : List FmD} {n : Nat} (c : Nat) (h : FjRd w A Xs) (hn : Xs.length = n) {k : Nat} {X : FmD} (hk : Xs[k]? = some X) :
    ∃ g q, w.rangeAt g q X.cs.toList ∧ X.ok ∧ ∀ W : World, (Instr.indexAt 22 (.slice A n c) (.int .i64 (k : Int))).run Tryz.prog W = .ok (.pointer (some ⟨g, q, none⟩)) W := by
  obtain ⟨h1, rfl | ⟨g, o, rfl, h2⟩⟩ := h
  · simp at hk
  · refine ⟨g, o + k * 2, fun j v hj => by rw [Nat.add_assoc]; exact h2 _ _ (fmsV_get Xs k X j v h1 hk hj), h1 X (List.mem_of_getElem? hk), fun W => ?_⟩
    obtain ⟨i0, hi, h2s⟩ := Fj_info3
    have hlt : k < n := by rw [← hn]; exact (List.getElem?_eq_some_iff.1 hk).1
    have h1 : (0 : Int) ≤ (k : Int) ∧ (k : Int) < (n : Int) := by omega
    simp [Instr.indexAt, run_underlying Tryz.underlying22, asIntOf, h1, sizeOf, typeInfo, hi, h2s, Addr.add_lit, Int.toNat_natCast]
    intro h2; omega
/-- A row of grants of one's own. -/
def FjOw (W : World) (base : Nat) (v : Value) (n : Nat) (Xs : List FmD) : Prop := W.ownsRow base 34 2 v n (fmsV Xs)
theorem FjOw.rd {W : World} {base n : Nat} {v : Value} {Xs : List FmD} (h : FjOw W base v n Xs) (hK : ∀ X ∈ Xs, X.ok) : ∃ A c, v = .slice A n c ∧ Xs.length = n ∧ n ≤ c ∧ (A = none → n = 0 ∧ c = 0) ∧ FjRd W A Xs := by
  have hl : Xs.length = n := by
    have h1 : (fmsV Xs).length = n * 2 := h.1
    rw [fmsV_length Xs hK] at h1
    omega
  rcases h.2 with ⟨rfl, h0⟩ | ⟨g, cap, cur, rfl, _, hg, h3, _, _, ht⟩
  · subst h0
    exact ⟨none, 0, rfl, hl, Nat.le_refl _, fun _ => ⟨rfl, rfl⟩, hK, .inl (List.eq_nil_of_length_eq_zero hl)⟩
  · refine ⟨_, cap, rfl, hl, h3, (fun e => by cases e), hK, .inr ⟨g, 0, rfl, fun j v hj => ?_⟩⟩
    rw [← ht, List.getElem?_take] at hj
    split at hj
    · rw [cell_of_row W g (0 + j) cur _ _ hg, Nat.zero_add, ← Array.getElem?_toList]; exact hj
    · cases hj
theorem FjOw.below {W W' : World} {base n : Nat} {v : Value} {Xs : List FmD} (h : FjOw W base v n Xs) (hb : Below W.heap.size W W') : FjOw W' base v n Xs := own_below h hb
theorem FjOw.le {W : World} {base base' n : Nat} {v : Value} {Xs : List FmD} (h : FjOw W base v n Xs) (hb : base' ≤ base) : FjOw W base' v n Xs :=
  ⟨h.1, h.2.imp id fun ⟨g, c, cur, a, b, d⟩ => ⟨g, c, cur, a, Nat.le_trans hb b, d⟩⟩
theorem FjOw.made (W : World) : FjOw (W.alloc (.cells #[] 34)) W.heap.size (.slice (some ⟨W.heap.size, 0, none⟩) 0 0) 0 [] :=
  World.ownsRow_made W #[] 0 (Nat.le_refl _) (by decide) rfl
theorem FjOw.none_ (W : World) (base : Nat) : FjOw W base (.slice none 0 0) 0 [] := ⟨rfl, .inl ⟨rfl, rfl⟩⟩
/-- A whole grant is loaded out of a row; out of its box; stored into its box. -/
theorem wpList_load_fjr {w : World} {ops : Array Oper} {rest : List Oper} {o : Oper} {a : Act} {Q : Exit → Act → World → Prop} (hgd : Region.wanted o (yielded ops a.tmps) = true) (x : Operand) (ho : o.op = .load 34 x)
    (g q : Nat) {X : FmD} (hx : a.eval x = .pointer (some ⟨g, q, none⟩)) (hr : w.rangeAt g q X.cs.toList) (hK : X.ok)
    (h : wpList Tryz.prog ops Q rest (a.put o.dst (.agg X.cs)) w) : wpList Tryz.prog ops Q (o :: rest) a w := by
  refine wpList_load_if hgd 34 x ho g q hx X.cs.toList _ hr Tryz.underlying34 rfl ?_ ?_
  · rw [Array.length_toList]; exact Fj_info X hK
  · rw [Array.toArray_toList]; exact h
theorem wpList_load_fjx {w : World} {ops : Array Oper} {rest : List Oper} {o : Oper} {a : Act} {Q : Exit → Act → World → Prop} (hgd : Region.wanted o (yielded ops a.tmps) = true) (x : Operand) (ho : o.op = .load 34 x)
    (g : Nat) {X : FmD} (hx : a.eval x = .pointer (some ⟨g, 0, none⟩)) (hr : FjX w g X) (hK : X.ok)
    (h : wpList Tryz.prog ops Q rest (a.put o.dst (.agg X.cs)) w) : wpList Tryz.prog ops Q (o :: rest) a w :=
  wpList_load_fjr hgd x ho g 0 hx (fun j v hj => by rw [Nat.zero_add]; exact hr.b.cell_ (by rw [← Array.getElem?_toList]; exact hj)) hK h
theorem wpList_store_fjn {w : World} {ops : Array Oper} {rest : List Oper} {o : Oper} {a : Act} {Q : Exit → Act → World → Prop} {old : Array Value} (hgd : o.guard = none) (x y : Operand) (ho : o.op = .store 34 x y)
    {X : FmD} (hx : a.eval x = .pointer (some ⟨w.heap.size, 0, none⟩)) (hy : a.eval y = .agg X.cs) (hK : X.ok) (hs : old.size = 2)
    (h : wpList Tryz.prog ops Q rest (a.put o.dst undef) (w.alloc (.cells X.cs 34))) : wpList Tryz.prog ops Q (o :: rest) a (w.alloc (.cells old 34)) :=
  wpList_store_new hgd 34 x y ho X.cs hx hy (Fj_info X hK) (by rw [FmD.size hK, hs]) X.one h
theorem wp_append_fj {w : World} {o : Oper} {a : Act} {K : Act → World → Prop} {Q : Exit → Act → World → Prop} (s x : Operand)
    (ho : o.op = .call { callee := .builtin .append, args := #[s, x], argTypes := #[22, 22] })
    (base : Nat) (v : Value) (n : Nat) (Os : List FmD) (hs : a.eval s = v) (hown : FjOw w base v n Os)
    (A : Option Addr) (m c : Nat) (Xs : List FmD) (hx : a.eval x = .slice A m c) (hm : Xs.length = m) (hA : A = none → m = 0 ∧ c = 0) (hr : FjRd w A Xs) (hn : (n + m) * 24 ≤ 140737488355328) (hbase : base ≤ w.heap.size)
    (h : ∀ v' w', FjOw w' base v' (n + m) (Os ++ Xs) → w.grownBy w' v.ownBlock → K (a.put o.dst v') w') : o.wp Tryz.prog a w K Q := by
  obtain ⟨j0, Z, hj, hjz, hjs, hZ, hjb⟩ := Fj_info4
  cases A with
  | none =>
    obtain ⟨rfl, rfl⟩ := hA rfl
    obtain rfl : Xs = [] := List.eq_nil_of_length_eq_zero hm
    have hrun := run_append_owned_none (P := Tryz.prog) w base 22 o.type 34 j0 2 Tryz.underlying22 hj v n (fmsV Os) hown
    unfold Oper.wp execOp
    simp only [ho, resolve, invoke, builtin, Sem.run_bind, Sem.run_pure, Result.andThen_ok, List.map_toArray, List.map_cons, List.map_nil, hs, hx, hrun]
    exact h v w (by rw [List.append_nil]; exact hown) ⟨rfl, rfl, rfl, Nat.le_refl _, fun _ _ _ => rfl⟩
  | some ad =>
    have hlen := fmsV_length Xs hr.1
    rw [hm] at hlen
    refine wp_append_own w s x 22 ho base 34 j0 (.agg Z) 2 j0.bytes Tryz.underlying22 hj hjz hjs rfl hZ (by decide) v n (fmsV Os) hs hown ad m c (fmsV Xs) hx hlen ?_ (fmsV_one Xs) (by unfold maxLen; omega) (Nat.le_trans (Nat.mul_le_mul (Nat.le_refl _) hjb) hn) hbase (fun v' w' h1 h2 _ => h v' w' (by unfold FjOw; rw [fmsV_append]; exact h1) h2)
    rcases hr.2 with rfl | ⟨g, o, h, hr2⟩
    · intro j u h; simp [fmsV] at h
    · cases h
      intro j u hju
      rw [Addr.add_lit]
      exact hr2 j u hju
theorem FjOw.grown {W W' : World} {base n B : Nat} {v : Value} {Xs : List FmD} (h : FjOw W base v n Xs) (hg : W.grownBy W' v.ownBlock) (hB : B ≤ base) {w : World} (hb : Below B w W) (hs : B ≤ W.heap.size) : Below B w W' :=
  hb.grown hg hs (by intro k hk; have := (h.lt k hk).1; omega)
theorem wp_build1fj {w : World} {o : Oper} {a : Act} {K : Act → World → Prop} {Q : Exit → Act → World → Prop} (x : Operand) (ho : o.op = .buildSlice 22 1 #[(0, x)])
    (X : FmD) (hX : X.ok) (hx : a.eval x = .agg X.cs)
    (h : ∀ cs, FjRd (w.alloc (.cells cs 34)) (some ⟨w.heap.size, 0, none⟩) [X] → K (a.put o.dst (.slice (some ⟨w.heap.size, 0, none⟩) 1 1)) (w.alloc (.cells cs 34))) :
    o.wp Tryz.prog a w K Q := by
  obtain ⟨j0, Z, hj, hjz, hjs, hZ, _⟩ := Fj_info4
  have lx : X.cs.size = 2 := FmD.size hX
  obtain ⟨zs, hzs⟩ : ∃ zs : Array Value, zs = (Array.range (1 * j0.size)).map ((Value.agg Z).cells[· % (Value.agg Z).cells.size]!) := ⟨_, rfl⟩
  have hz : zs.size = 2 := by rw [hzs, hjs]; simp
  obtain ⟨s1, g1⟩ := put_get_M 0 X.cs zs (by rw [hz, lx]; decide)
  generalize hc1 : X.cs.zipIdx.foldl (fun cs (c, j) => cs.setIfInBounds (0 + j) c) zs = c1 at s1 g1
  refine wp_buildSlice 22 34 1 #[(0, x)] ho c1 j0 (.agg Z) Tryz.underlying22 hj hjz (by rw [hjs]; decide) (by rw [hjs]; decide) ?_ (h c1 ⟨fun Y hY => by rw [List.mem_singleton.1 hY]; exact hX, .inr ⟨w.heap.size, 0, rfl, ?_⟩⟩)
  · rw [← hzs, hjs]
    have e1 : (Value.agg X.cs).cells = X.cs := rfl
    simp only [List.map_toArray, List.map_cons, List.map_nil, hx, Instr.fill, e1, lx, hz]
    rw [if_neg (by decide)]
    simp only [Nat.zero_mul]
    rw [hc1]
  · intro j u hj'
    have hj2 : X.cs.toList[j]? = some u := by simpa [fmsV] using hj'
    have hlt : j < 2 := by have := (List.getElem?_eq_some_iff.1 hj2).1; rw [Array.length_toList, lx] at this; exact this
    rw [cell_of_row _ _ _ _ _ _ (heap_alloc_new w _), Nat.zero_add, g1, lx, if_pos (by omega), Nat.sub_zero]
    exact hj2

theorem yields_fj {ops : Array Oper} {S : World → Prop} {op : Oper} {a : Act} (hw : Region.wanted op (yielded ops a.tmps) = true) (x : Operand) (ho : op.op = .load 34 x) (b o : Nat) (hx : a.eval x = .pointer (some ⟨b, o, none⟩)) (X : FmD) (hK : X.ok) (hS : ∀ w, S w → w.rangeAt b o X.cs.toList) : YieldsIf Tryz.prog ops S op (.agg X.cs) a := by
  have := yieldsIf_load_mid (P := Tryz.prog) (ops := ops) (S := S) hw 34 x ho b o hx X.cs.toList _ hS Tryz.underlying34 rfl (by rw [Array.length_toList]; exact Fj_info X hK)
  rwa [Array.toArray_toList] at this
theorem FjOw.nil (W : World) (base : Nat) : FjOw W base (.slice none 0 0) 0 [] := ⟨rfl, .inl ⟨rfl, rfl⟩⟩
theorem Fr_infoN : (Tryz.prog.info? 36).map (·.size) = some 2 := by kernel_rfl
theorem Fr_info (X : FmD) (h : X.ok) : (Tryz.prog.info? 36).map (·.size) = some X.cs.size := by rw [FmD.size h]; exact Fr_infoN
theorem Fr_info3 : ∃ i, Tryz.prog.info? 36 = some i ∧ i.size = 2 := by
  have h := Fr_infoN
  cases hq : Tryz.prog.info? 36 with
  | none => rw [hq] at h; cases h
  | some i => rw [hq] at h; simp at h; exact ⟨i, rfl, h⟩
theorem Fr_info4 : ∃ i Z, Tryz.prog.info? 36 = some i ∧ i.zero = some (.agg Z) ∧ i.size = 2 ∧ Z.size = 2 ∧ i.bytes ≤ 24 := by
  obtain ⟨i, hi, h2s⟩ := Fr_info3
  have h : (Tryz.prog.info? 36).map (fun i => decide (i.bytes ≤ 24) && (match i.zero with | some (.agg Z) => Z.size == 2 | _ => false)) = some true := by kernel_rfl
  rw [hi, Option.map_some] at h
  simp only [Option.some.injEq, Bool.and_eq_true, decide_eq_true_eq] at h
  obtain ⟨h1, h2⟩ := h
  split at h2
  · rename_i Z hz
    exact ⟨i, Z, hi, hz, h2s, by simpa using h2, h1⟩
  · cases h2
/-- A grant's box. -/
structure FrX (W : World) (g : Nat) (X : FmD) : Prop where
  b : Blk W g 36 X.cs
theorem FrX.new (w : World) (X : FmD) : FrX (w.alloc (.cells X.cs 36)) w.heap.size X := ⟨Blk.new _ _ _⟩
section
variable {W : World} {g : Nat} {X : FmD}
theorem FrX.alloc (h : FrX W g X) (o : Obj) : FrX (W.alloc o) g X := ⟨h.b.alloc o⟩
theorem FrX.below {W' : World} (h : FrX W g X) (hb : Below W.heap.size W W') : FrX W' g X := ⟨h.b.below hb⟩
end
/-- A row of grants lies at A. -/
def FrRd (w : World) (A : Option Addr) (Xs : List FmD) : Prop := (∀ X ∈ Xs, X.ok) ∧ (Xs = [] ∨ ∃ g o, A = some ⟨g, o, none⟩ ∧ w.rangeAt g o (fmsV Xs))
theorem FrRd.nil_ (w : World) (A : Option Addr) : FrRd w A [] := ⟨by simp, .inl rfl⟩
theorem FrRd.below {w w' : World} {A : Option Addr} {Xs : List FmD} (h : FrRd w A Xs) (hb : Below w.heap.size w w') : FrRd w' A Xs :=
  ⟨h.1, h.2.elim .inl fun ⟨g, o, e, hr⟩ => .inr ⟨g, o, e, hr.below hb⟩⟩
theorem FrRd.pick {w : World} {A : Option Addr} {Xs : List FmD} {n : Nat} (c : Nat) (h : FrRd w A Xs) (hn : Xs.length = n) {k : Nat} {X : FmD} (hk : Xs[k]? = some X) :
    ∃ g q, w.rangeAt g q X.cs.toList ∧ X.ok ∧ ∀ W : World, (Instr.indexAt 23 (.slice A n c) (.int .i64 (k : Int))).run Tryz.prog W = .ok (.pointer (some ⟨g, q, none⟩)) W := by
  obtain ⟨h1, rfl | ⟨g, o, rfl, h2⟩⟩ := h
  · simp at hk
  · refine ⟨g, o + k * 2, fun j v hj => by rw [Nat.add_assoc]; exact h2 _ _ (fmsV_get Xs k X j v h1 hk hj), h1 X (List.mem_of_getElem? hk), fun W => ?_⟩
    obtain ⟨i0, hi, h2s⟩ := Fr_info3
    have hlt : k < n := by rw [← hn]; exact (List.getElem?_eq_some_iff.1 hk).1
    have h1 : (0 : Int) ≤ (k : Int) ∧ (k : Int) < (n : Int) := by omega
    simp [Instr.indexAt, run_underlying Tryz.underlying23, asIntOf, h1, sizeOf, typeInfo, hi, h2s, Addr.add_lit, Int.toNat_natCast]
    intro h2; omega
/-- A row of grants of one's own. -/
def FrOw (W : World) (base : Nat) (v : Value) (n : Nat) (Xs : List FmD) : Prop := W.ownsRow base 36 2 v n (fmsV Xs)
theorem FrOw.rd {W : World} {base n : Nat} {v : Value} {Xs : List FmD} (h : FrOw W base v n Xs) (hK : ∀ X ∈ Xs, X.ok) : ∃ A c, v = .slice A n c ∧ Xs.length = n ∧ n ≤ c ∧ (A = none → n = 0 ∧ c = 0) ∧ FrRd W A Xs := by
  have hl : Xs.length = n := by
    have h1 : (fmsV Xs).length = n * 2 := h.1
    rw [fmsV_length Xs hK] at h1
    omega
  rcases h.2 with ⟨rfl, h0⟩ | ⟨g, cap, cur, rfl, _, hg, h3, _, _, ht⟩
  · subst h0
    exact ⟨none, 0, rfl, hl, Nat.le_refl _, fun _ => ⟨rfl, rfl⟩, hK, .inl (List.eq_nil_of_length_eq_zero hl)⟩
  · refine ⟨_, cap, rfl, hl, h3, (fun e => by cases e), hK, .inr ⟨g, 0, rfl, fun j v hj => ?_⟩⟩
    rw [← ht, List.getElem?_take] at hj
    split at hj
    · rw [cell_of_row W g (0 + j) cur _ _ hg, Nat.zero_add, ← Array.getElem?_toList]; exact hj
    · cases hj
theorem FrOw.below {W W' : World} {base n : Nat} {v : Value} {Xs : List FmD} (h : FrOw W base v n Xs) (hb : Below W.heap.size W W') : FrOw W' base v n Xs := own_below h hb
theorem FrOw.le {W : World} {base base' n : Nat} {v : Value} {Xs : List FmD} (h : FrOw W base v n Xs) (hb : base' ≤ base) : FrOw W base' v n Xs :=
  ⟨h.1, h.2.imp id fun ⟨g, c, cur, a, b, d⟩ => ⟨g, c, cur, a, Nat.le_trans hb b, d⟩⟩
theorem FrOw.made (W : World) : FrOw (W.alloc (.cells #[] 36)) W.heap.size (.slice (some ⟨W.heap.size, 0, none⟩) 0 0) 0 [] :=
  World.ownsRow_made W #[] 0 (Nat.le_refl _) (by decide) rfl
theorem FrOw.none_ (W : World) (base : Nat) : FrOw W base (.slice none 0 0) 0 [] := ⟨rfl, .inl ⟨rfl, rfl⟩⟩
/-- A whole grant is loaded out of a row; out of its box; stored into its box. -/
theorem wpList_load_frr {w : World} {ops : Array Oper} {rest : List Oper} {o : Oper} {a : Act} {Q : Exit → Act → World → Prop} (hgd : Region.wanted o (yielded ops a.tmps) = true) (x : Operand) (ho : o.op = .load 36 x)
    (g q : Nat) {X : FmD} (hx : a.eval x = .pointer (some ⟨g, q, none⟩)) (hr : w.rangeAt g q X.cs.toList) (hK : X.ok)
    (h : wpList Tryz.prog ops Q rest (a.put o.dst (.agg X.cs)) w) : wpList Tryz.prog ops Q (o :: rest) a w := by
  refine wpList_load_if hgd 36 x ho g q hx X.cs.toList _ hr Tryz.underlying36 rfl ?_ ?_
  · rw [Array.length_toList]; exact Fr_info X hK
  · rw [Array.toArray_toList]; exact h
theorem wpList_store_frn {w : World} {ops : Array Oper} {rest : List Oper} {o : Oper} {a : Act} {Q : Exit → Act → World → Prop} {old : Array Value} (hgd : o.guard = none) (x y : Operand) (ho : o.op = .store 36 x y)
    {X : FmD} (hx : a.eval x = .pointer (some ⟨w.heap.size, 0, none⟩)) (hy : a.eval y = .agg X.cs) (hK : X.ok) (hs : old.size = 2)
    (h : wpList Tryz.prog ops Q rest (a.put o.dst undef) (w.alloc (.cells X.cs 36))) : wpList Tryz.prog ops Q (o :: rest) a (w.alloc (.cells old 36)) :=
  wpList_store_new hgd 36 x y ho X.cs hx hy (Fr_info X hK) (by rw [FmD.size hK, hs]) X.one h
theorem wp_append_fr {w : World} {o : Oper} {a : Act} {K : Act → World → Prop} {Q : Exit → Act → World → Prop} (s x : Operand)
    (ho : o.op = .call { callee := .builtin .append, args := #[s, x], argTypes := #[23, 23] })
    (base : Nat) (v : Value) (n : Nat) (Os : List FmD) (hs : a.eval s = v) (hown : FrOw w base v n Os)
    (A : Option Addr) (m c : Nat) (Xs : List FmD) (hx : a.eval x = .slice A m c) (hm : Xs.length = m) (hA : A = none → m = 0 ∧ c = 0) (hr : FrRd w A Xs) (hn : (n + m) * 24 ≤ 140737488355328) (hbase : base ≤ w.heap.size)
    (h : ∀ v' w', FrOw w' base v' (n + m) (Os ++ Xs) → w.grownBy w' v.ownBlock → K (a.put o.dst v') w') : o.wp Tryz.prog a w K Q := by
  obtain ⟨j0, Z, hj, hjz, hjs, hZ, hjb⟩ := Fr_info4
  cases A with
  | none =>
    obtain ⟨rfl, rfl⟩ := hA rfl
    obtain rfl : Xs = [] := List.eq_nil_of_length_eq_zero hm
    have hrun := run_append_owned_none (P := Tryz.prog) w base 23 o.type 36 j0 2 Tryz.underlying23 hj v n (fmsV Os) hown
    unfold Oper.wp execOp
    simp only [ho, resolve, invoke, builtin, Sem.run_bind, Sem.run_pure, Result.andThen_ok, List.map_toArray, List.map_cons, List.map_nil, hs, hx, hrun]
    exact h v w (by rw [List.append_nil]; exact hown) ⟨rfl, rfl, rfl, Nat.le_refl _, fun _ _ _ => rfl⟩
  | some ad =>
    have hlen := fmsV_length Xs hr.1
    rw [hm] at hlen
    refine wp_append_own w s x 23 ho base 36 j0 (.agg Z) 2 j0.bytes Tryz.underlying23 hj hjz hjs rfl hZ (by decide) v n (fmsV Os) hs hown ad m c (fmsV Xs) hx hlen ?_ (fmsV_one Xs) (by unfold maxLen; omega) (Nat.le_trans (Nat.mul_le_mul (Nat.le_refl _) hjb) hn) hbase (fun v' w' h1 h2 _ => h v' w' (by unfold FrOw; rw [fmsV_append]; exact h1) h2)
    rcases hr.2 with rfl | ⟨g, o, h, hr2⟩
    · intro j u h; simp [fmsV] at h
    · cases h
      intro j u hju
      rw [Addr.add_lit]
      exact hr2 j u hju
theorem wpList_append_fr {w : World} {ops : Array Oper} {rest : List Oper} {o : Oper} {a : Act} {Q : Exit → Act → World → Prop} (hgd : o.guard = none) (s x : Operand)
    (ho : o.op = .call { callee := .builtin .append, args := #[s, x], argTypes := #[23, 23] })
    (base : Nat) (v : Value) (n : Nat) (Os : List FmD) (hs : a.eval s = v) (hown : FrOw w base v n Os)
    (A : Option Addr) (m c : Nat) (Xs : List FmD) (hx : a.eval x = .slice A m c) (hm : Xs.length = m) (hA : A = none → m = 0 ∧ c = 0) (hr : FrRd w A Xs) (hn : (n + m) * 24 ≤ 140737488355328) (hbase : base ≤ w.heap.size)
    (h : ∀ v' w', FrOw w' base v' (n + m) (Os ++ Xs) → w.grownBy w' v.ownBlock → wpList Tryz.prog ops Q rest (a.put o.dst v') w') : wpList Tryz.prog ops Q (o :: rest) a w :=
  wpList_plain hgd fun _ hK => wp_append_fr s x ho base v n Os hs hown A m c Xs hx hm hA hr hn hbase fun v' w' h1 h2 => hK _ _ (h v' w' h1 h2)
theorem FrOw.grown {W W' : World} {base n B : Nat} {v : Value} {Xs : List FmD} (h : FrOw W base v n Xs) (hg : W.grownBy W' v.ownBlock) (hB : B ≤ base) {w : World} (hb : Below B w W) (hs : B ≤ W.heap.size) : Below B w W' :=
  hb.grown hg hs (by intro k hk; have := (h.lt k hk).1; omega)
theorem yields_fr {ops : Array Oper} {S : World → Prop} {op : Oper} {a : Act} (hw : Region.wanted op (yielded ops a.tmps) = true) (x : Operand) (ho : op.op = .load 36 x) (b o : Nat) (hx : a.eval x = .pointer (some ⟨b, o, none⟩)) (X : FmD) (hK : X.ok) (hS : ∀ w, S w → w.rangeAt b o X.cs.toList) : YieldsIf Tryz.prog ops S op (.agg X.cs) a := by
  have := yieldsIf_load_mid (P := Tryz.prog) (ops := ops) (S := S) hw 36 x ho b o hx X.cs.toList _ hS Tryz.underlying36 rfl (by rw [Array.length_toList]; exact Fr_info X hK)
  rwa [Array.toArray_toList] at this
theorem FrOw.nil (W : World) (base : Nat) : FrOw W base (.slice none 0 0) 0 [] := ⟨rfl, .inl ⟨rfl, rfl⟩⟩
/-- A frame that came in. -/
def FmD.inR (X : FmD) : Prop := X.p.length ≤ 9223372036854775807
def FmRow (w : World) (A : Option Addr) (len : Nat) (Xs : List FmD) : Prop := Xs.length = len ∧ len ≤ maxLen ∧ FjRd w A Xs ∧ ∀ X ∈ Xs, X.inR
theorem fmsV_snoc (Xs : List FmD) (X : FmD) : fmsV (Xs ++ [X]) = fmsV Xs ++ X.cs.toList := by simp [fmsV]
theorem all_frames {w : World} {g o : Nat} : ∀ (n : Nat), (∀ i, i < n → ∃ X : FmD, X.inR ∧ w.rangeAt g (o + i * 2) X.cs.toList) → ∃ Xs : List FmD, Xs.length = n ∧ (∀ X ∈ Xs, X.inR) ∧ w.rangeAt g o (fmsV Xs)
  | 0, _ => ⟨[], rfl, by simp, fun j v h => by simp [fmsV] at h⟩
  | n + 1, h => by
    obtain ⟨Xs, h1, h2, h3⟩ := all_frames n (fun i hi => h i (by omega))
    obtain ⟨X, hX, hr⟩ := h n (by omega)
    refine ⟨Xs ++ [X], by simp [h1], fun Y hY => ?_, fun j v hj => ?_⟩
    · rcases List.mem_append.1 hY with hY | hY
      · exact h2 Y hY
      · simp at hY; rw [hY]; exact hX
    · rw [fmsV_snoc] at hj
      by_cases hlt : j < (fmsV Xs).length
      · rw [List.getElem?_append_left hlt] at hj
        exact h3 j v hj
      · rw [List.getElem?_append_right (by omega)] at hj
        rw [fmsV_length Xs (FmD.all_ok Xs), h1] at hj hlt
        have := hr _ _ hj
        rwa [show o + n * 2 + (j - n * 2) = o + j by omega] at this
section
open Go.ChangeShapes Go.WideShapes Go.ChangeAt
variable {H : Type} {enc : TypeId × Value → H} {w : World} {r : Reach} {base b0 : Nat} {sp : Nat → Bool} {hd : Bool}
set_option maxRecDepth 100000 in
theorem trod_frame {fuel : Nat} {cs : List Value} {x : DataW H × List MemPlace} (h : DataW.trod enc Tryz.prog w base sp hd fuel 34 cs = some x) : ∃ Z : FmD, cs = Z.cs.toList ∧ Z.inR := by
  obtain ⟨xs, k, _, _, hl, hxl, hx⟩ := DataW.trod_struct Tryz.underlying34 h
  have hc2 : Tryz.prog.cellsOf 34 = 2 := by kernel_rfl
  have hc1 : Tryz.prog.cellsOf 3 = 1 := by kernel_rfl
  have hcs : Tryz.prog.cellsOf 9 = 1 := by kernel_rfl
  rw [hc2] at hl
  have h0 := hx 0 _ rfl
  have h1 := hx 1 _ rfl
  have g : ∀ i : Nat, i < 2 → ∃ y, xs[i]? = some y := fun i hi => ⟨_, List.getElem?_eq_getElem (by rw [hxl]; exact hi)⟩
  obtain ⟨y0, e0⟩ := g 0 (by decide)
  obtain ⟨y1, e1⟩ := g 1 (by decide)
  rw [e0] at h0
  rw [e1] at h1
  obtain ⟨k0, q0, _, _⟩ := DataW.trod_int Tryz.underlying3 h0
  obtain ⟨p, q1, _, w1⟩ := DataW.trod_string Tryz.underlying9 h1
  have u0 : (cs.drop 0).take (Tryz.prog.cellsOf 3) = _ := q0
  have u1 : (cs.drop 1).take (Tryz.prog.cellsOf 9) = _ := q1
  rw [hc1] at u0
  rw [hcs] at u1
  unfold maxLen at w1
  refine ⟨⟨k0, p.data.toList⟩, ?_, by simpa [FmD.inR] using w1⟩
  have e : cs = (cs.drop 0).take 1 ++ (cs.drop 1).take 1 := by
    rw [List.drop_zero, List.take_of_length_le (by rw [List.length_drop]; omega : (cs.drop 1).length ≤ 1), List.take_append_drop]
  rw [u0, u1] at e
  rw [e]
  unfold FmD.cs txt
  simp
set_option maxRecDepth 100000 in
theorem open_fmRow {v : Value} {d : DataW H} {ps : List MemPlace} (hv : Value.okWide Tryz.prog w r b0 22 v) (h : DataW.Trod enc Tryz.prog w base sp hd 22 v d ps) : ∃ a len cap Xs, v = .slice a len cap ∧ FmRow w a len Xs := by
  have ht := Tryz.underlying22
  have hn : Tryz.prog.cellsOf 34 = 2 := by kernel_rfl
  obtain ⟨a0, len0, cap0, rfl⟩ := okWide_slice ht hv
  obtain ⟨fuel, hf⟩ := h
  cases fuel with
  | zero => simp [DataW.trod] at hf
  | succ m =>
    rw [DataW.trod_step] at hf
    unfold DataW.trodStep at hf
    simp only [ht, Value.cells] at hf
    cases a0 with
    | none =>
      rcases len0 with _ | len0
      · exact ⟨none, 0, cap0, [], rfl, rfl, Nat.zero_le _, FjRd.nil_ _ _, by simp⟩
      · simp at hf
    | some a =>
      simp only [hn] at hf
      split at hf
      · rename_i hcond
        simp only [Option.bind_eq_some_iff] at hf
        obtain ⟨ys, hy, _⟩ := hf
        have hy2 := mapM_each _ _ hy
        have hall : ∀ i, i < len0 → ∃ X : FmD, X.inR ∧ ∀ j v, X.cs.toList[j]? = some v → w.cell? ((a.add (i * 2)).add j) = some v := fun i hi => by
          obtain ⟨y, hy⟩ := hy2 i (List.mem_range.2 (by omega))
          simp only [Option.bind_eq_some_iff] at hy
          obtain ⟨cs, hcs, htr⟩ := hy
          obtain ⟨Z, rfl, hZ⟩ := trod_frame htr
          refine ⟨Z, hZ, fun j v hj => ?_⟩
          have hj2 : j < 2 := by have := (List.getElem?_eq_some_iff.1 hj).1; rw [Array.length_toList, FmD.size (X := Z) rfl] at this; exact this
          exact ((World.cells?_some hcs).2.2 j hj2).trans hj
        by_cases h0 : len0 = 0
        · subst h0
          exact ⟨_, _, _, [], rfl, rfl, Nat.zero_le _, FjRd.nil_ _ _, by simp⟩
        · have hsp : a.spot = none := by
            obtain ⟨X, hX, hr⟩ := hall 0 (by omega)
            obtain ⟨v, hv⟩ : ∃ v, X.cs.toList[0]? = some v := ⟨_, List.getElem?_eq_getElem (by rw [Array.length_toList, FmD.size (X := X) rfl]; omega)⟩
            have := hr 0 v hv
            cases hs : a.spot with
            | none => rfl
            | some s => simp [Addr.add, World.cell?, hs] at this; split at this <;> simp_all
          obtain ⟨g, o, sp⟩ := a
          obtain rfl : sp = none := hsp
          obtain ⟨Xs, h1, h2, h3⟩ := all_frames (w := w) (g := g) (o := o) len0 (fun i hi => by
            obtain ⟨X, hX, hr⟩ := hall i hi
            refine ⟨X, hX, fun j v hj => ?_⟩
            have := hr j v hj
            rwa [Addr.add_lit, Addr.add_lit] at this)
          exact ⟨_, _, _, Xs, rfl, h1, by omega, ⟨FmD.all_ok _, .inr ⟨g, o, rfl, h3⟩⟩, h2⟩
      · cases hf
end
end Go.Proofs.YtemdmdgigmhlbaaGreat

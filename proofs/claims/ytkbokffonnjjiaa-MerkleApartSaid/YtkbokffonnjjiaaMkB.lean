
/- merkle: places, placed, Prove, the chapter's example -/
import Derived.Test.YtkbokffonnjjiaaMkA
import Derived.Great.BuildSlice
import Derived.Test.YtkbokffonnjjiaaLamA
import Derived.Test.YtkbokffonnjjiaaId12
import Derived.Test.YtkbokffonnjjiaaId6
set_option linter.unusedSimpArgs false
set_option linter.unusedVariables false
namespace Go.Proofs.Ytkbokffonnjjiaa
open Go.RowKit Go.Qc Go.Shelf
attribute [local go_sem] txt_size txt_append ib_fold
/-- A place as data: its id, its number, where its way lies. -/
structure PlD where
  a : List UInt8
  t : Int
  A : Option Addr
  n : Nat
  c : Nat
def PlD.ok (X : PlD) : Prop := X.a.length = 32
def PlD.cs (X : PlD) : Array Value := idVals X.a ++ #[.int .i64 X.t, .slice X.A X.n X.c]
theorem PlD.size {X : PlD} (h : X.ok) : X.cs.size = 34 := by unfold PlD.cs; simp [idVals_size]; exact h
theorem PlD.one (X : PlD) : X.cs.all (·.oneCell') = true := by
  unfold PlD.cs
  rw [Array.all_append, idVals_one]
  simp [Value.oneCell']
theorem PlD.c33 (X : PlD) (hk : X.ok) : X.cs[33]? = some (.slice X.A X.n X.c) := by
  have h : X.a.length = 32 := hk
  unfold PlD.cs
  rw [Array.getElem?_append_right (by simp [idVals_size, h])]
  simp [idVals_size, h]
def plsV (Xs : List PlD) : List Value := Xs.flatMap (fun X => X.cs.toList)
theorem plsV_cons (X : PlD) (Xs : List PlD) : plsV (X :: Xs) = X.cs.toList ++ plsV Xs := by simp [plsV]
theorem plsV_append (Xs Ys : List PlD) : plsV (Xs ++ Ys) = plsV Xs ++ plsV Ys := by simp [plsV]
theorem plsV_length : ∀ (Xs : List PlD), (∀ X ∈ Xs, X.ok) → (plsV Xs).length = Xs.length * 34
  | [], _ => rfl
  | X :: Xs, h => by
    rw [plsV_cons, List.length_append, Array.length_toList, PlD.size (h X (by simp)), plsV_length Xs (fun x hx => h x (by simp [hx])), List.length_cons]
    omega
theorem plsV_get : ∀ (Xs : List PlD) (k : Nat) (X : PlD) (j : Nat) (v : Value), (∀ X ∈ Xs, X.ok) → Xs[k]? = some X → X.cs.toList[j]? = some v → (plsV Xs)[k * 34 + j]? = some v
  | [], k, X, j, v, _, hk, _ => by simp at hk
  | Y :: Xs, 0, X, j, v, h, hk, hj => by
    simp at hk
    subst hk
    have hlt := (List.getElem?_eq_some_iff.1 hj).1
    rw [plsV_cons, Nat.zero_mul, Nat.zero_add, List.getElem?_append_left hlt]
    exact hj
  | Y :: Xs, k + 1, X, j, v, h, hk, hj => by
    have hb := PlD.size (h Y (by simp))
    rw [List.getElem?_cons_succ] at hk
    rw [plsV_cons, List.getElem?_append_right (by rw [Array.length_toList, hb]; omega), Array.length_toList, hb, show (k + 1) * 34 + j - 34 = k * 34 + j by omega]
    exact plsV_get Xs k X j v (fun x hx => h x (by simp [hx])) hk hj
theorem plsV_one (Xs : List PlD) : ∀ u ∈ plsV Xs, u.oneCell' = true := by
  intro u hu
  simp only [plsV, List.mem_flatMap] at hu
  obtain ⟨X, _, hu⟩ := hu
  exact (Array.all_eq_true_iff_forall_mem.1 X.one) u (by simpa using hu)

theorem Pl_infoN : (Try.prog.info? 37).map (·.size) = some 34 := by kernel_rfl
theorem Pl_info (X : PlD) (h : X.ok) : (Try.prog.info? 37).map (·.size) = some X.cs.size := by rw [PlD.size h]; exact Pl_infoN
theorem Pl_info3 : ∃ i, Try.prog.info? 37 = some i ∧ i.size = 34 := by
  have h := Pl_infoN
  cases hq : Try.prog.info? 37 with
  | none => rw [hq] at h; cases h
  | some i => rw [hq] at h; simp at h; exact ⟨i, rfl, h⟩
theorem Pl_info4 : ∃ i Z, Try.prog.info? 37 = some i ∧ i.zero = some (.agg Z) ∧ i.size = 34 ∧ Z.size = 34 ∧ i.bytes ≤ 1000 := by
  obtain ⟨i, hi, h34⟩ := Pl_info3
  have h : (Try.prog.info? 37).map (fun i => decide (i.bytes ≤ 1000) && (match i.zero with | some (.agg Z) => Z.size == 34 | _ => false)) = some true := by kernel_rfl
  rw [hi, Option.map_some] at h
  simp only [Option.some.injEq, Bool.and_eq_true, decide_eq_true_eq] at h
  obtain ⟨h1, h2⟩ := h
  split at h2
  · rename_i Z hz
    exact ⟨i, Z, hi, hz, h34, by simpa using h2, h1⟩
  · cases h2
/-- A grant's box. -/
structure PlX (W : World) (g : Nat) (X : PlD) : Prop where
  b : Blk W g 37 X.cs
theorem PlX.new (w : World) (X : PlD) : PlX (w.alloc (.cells X.cs 37)) w.heap.size X := ⟨Blk.new _ _ _⟩
section
variable {W : World} {g : Nat} {X : PlD}
theorem PlX.alloc (h : PlX W g X) (o : Obj) : PlX (W.alloc o) g X := ⟨h.b.alloc o⟩
theorem PlX.below {W' : World} (h : PlX W g X) (hb : Below W.heap.size W W') : PlX W' g X := ⟨h.b.below hb⟩
theorem PlX.c33 (h : PlX W g X) (hk : X.ok) : W.cell? ⟨g, 33, none⟩ = some (.slice X.A X.n X.c) := h.b.cell_ (X.c33 hk)
end
/-- A row of grants lies at A. -/
def PlRd (w : World) (A : Option Addr) (Xs : List PlD) : Prop := (∀ X ∈ Xs, X.ok) ∧ (Xs = [] ∨ ∃ g o, A = some ⟨g, o, none⟩ ∧ w.rangeAt g o (plsV Xs))
theorem PlRd.nil_ (w : World) (A : Option Addr) : PlRd w A [] := ⟨by simp, .inl rfl⟩
theorem PlRd.below {w w' : World} {A : Option Addr} {Xs : List PlD} (h : PlRd w A Xs) (hb : Below w.heap.size w w') : PlRd w' A Xs :=
  ⟨h.1, h.2.elim .inl fun ⟨g, o, e, hr⟩ => .inr ⟨g, o, e, hr.below hb⟩⟩
theorem PlRd.pick {w : World} {A : Option Addr} {Xs : List PlD} {n : Nat} (c : Nat) (h : PlRd w A Xs) (hn : Xs.length = n) {k : Nat} {X : PlD} (hk : Xs[k]? = some X) :
    ∃ g q, w.rangeAt g q X.cs.toList ∧ X.ok ∧ ∀ W : World, (Instr.indexAt 26 (.slice A n c) (.int .i64 (k : Int))).run Try.prog W = .ok (.pointer (some ⟨g, q, none⟩)) W := by
  obtain ⟨h1, rfl | ⟨g, o, rfl, h2⟩⟩ := h
  · simp at hk
  · refine ⟨g, o + k * 34, fun j v hj => by rw [Nat.add_assoc]; exact h2 _ _ (plsV_get Xs k X j v h1 hk hj), h1 X (List.mem_of_getElem? hk), fun W => ?_⟩
    obtain ⟨i0, hi, h34⟩ := Pl_info3
    have hlt : k < n := by rw [← hn]; exact (List.getElem?_eq_some_iff.1 hk).1
    have h1 : (0 : Int) ≤ (k : Int) ∧ (k : Int) < (n : Int) := by omega
    simp [Instr.indexAt, run_underlying Try.underlying26, asIntOf, h1, sizeOf, typeInfo, hi, h34, Addr.add_lit, Int.toNat_natCast]
    intro h2; omega
/-- A row of grants of one's own. -/
def PlOw (W : World) (base : Nat) (v : Value) (n : Nat) (Xs : List PlD) : Prop := W.ownsRow base 37 34 v n (plsV Xs)
theorem PlOw.rd {W : World} {base n : Nat} {v : Value} {Xs : List PlD} (h : PlOw W base v n Xs) (hK : ∀ X ∈ Xs, X.ok) : ∃ A c, v = .slice A n c ∧ Xs.length = n ∧ n ≤ c ∧ (A = none → n = 0 ∧ c = 0) ∧ PlRd W A Xs := by
  have hl : Xs.length = n := by
    have h1 : (plsV Xs).length = n * 34 := h.1
    rw [plsV_length Xs hK] at h1
    omega
  rcases h.2 with ⟨rfl, h0⟩ | ⟨g, cap, cur, rfl, _, hg, h3, _, _, ht⟩
  · subst h0
    exact ⟨none, 0, rfl, hl, Nat.le_refl _, fun _ => ⟨rfl, rfl⟩, hK, .inl (List.eq_nil_of_length_eq_zero hl)⟩
  · refine ⟨_, cap, rfl, hl, h3, (fun e => by cases e), hK, .inr ⟨g, 0, rfl, fun j v hj => ?_⟩⟩
    rw [← ht, List.getElem?_take] at hj
    split at hj
    · rw [cell_of_row W g (0 + j) cur _ _ hg, Nat.zero_add, ← Array.getElem?_toList]; exact hj
    · cases hj
theorem PlOw.below {W W' : World} {base n : Nat} {v : Value} {Xs : List PlD} (h : PlOw W base v n Xs) (hb : Below W.heap.size W W') : PlOw W' base v n Xs := own_below h hb
theorem PlOw.le {W : World} {base base' n : Nat} {v : Value} {Xs : List PlD} (h : PlOw W base v n Xs) (hb : base' ≤ base) : PlOw W base' v n Xs :=
  ⟨h.1, h.2.imp id fun ⟨g, c, cur, a, b, d⟩ => ⟨g, c, cur, a, Nat.le_trans hb b, d⟩⟩
/-- A whole grant is loaded out of a row; out of its box; stored into its box. -/
theorem wpList_load_plr {w : World} {ops : Array Oper} {rest : List Oper} {o : Oper} {a : Act} {Q : Exit → Act → World → Prop} (hgd : Region.wanted o (yielded ops a.tmps) = true) (x : Operand) (ho : o.op = .load 37 x)
    (g q : Nat) {X : PlD} (hx : a.eval x = .pointer (some ⟨g, q, none⟩)) (hr : w.rangeAt g q X.cs.toList) (hK : X.ok)
    (h : wpList Try.prog ops Q rest (a.put o.dst (.agg X.cs)) w) : wpList Try.prog ops Q (o :: rest) a w := by
  refine wpList_load_if hgd 37 x ho g q hx X.cs.toList _ hr Try.underlying37 rfl ?_ ?_
  · rw [Array.length_toList]; exact Pl_info X hK
  · rw [Array.toArray_toList]; exact h
theorem wpList_load_plx {w : World} {ops : Array Oper} {rest : List Oper} {o : Oper} {a : Act} {Q : Exit → Act → World → Prop} (hgd : Region.wanted o (yielded ops a.tmps) = true) (x : Operand) (ho : o.op = .load 37 x)
    (g : Nat) {X : PlD} (hx : a.eval x = .pointer (some ⟨g, 0, none⟩)) (hr : PlX w g X) (hK : X.ok)
    (h : wpList Try.prog ops Q rest (a.put o.dst (.agg X.cs)) w) : wpList Try.prog ops Q (o :: rest) a w :=
  wpList_load_plr hgd x ho g 0 hx (fun j v hj => by rw [Nat.zero_add]; exact hr.b.cell_ (by rw [← Array.getElem?_toList]; exact hj)) hK h
theorem wpList_store_pln {w : World} {ops : Array Oper} {rest : List Oper} {o : Oper} {a : Act} {Q : Exit → Act → World → Prop} {old : Array Value} (hgd : o.guard = none) (x y : Operand) (ho : o.op = .store 37 x y)
    {X : PlD} (hx : a.eval x = .pointer (some ⟨w.heap.size, 0, none⟩)) (hy : a.eval y = .agg X.cs) (hK : X.ok) (hs : old.size = 34)
    (h : wpList Try.prog ops Q rest (a.put o.dst undef) (w.alloc (.cells X.cs 37))) : wpList Try.prog ops Q (o :: rest) a (w.alloc (.cells old 37)) :=
  wpList_store_new hgd 37 x y ho X.cs hx hy (Pl_info X hK) (by rw [PlD.size hK, hs]) X.one h
theorem wp_append_pl {w : World} {o : Oper} {a : Act} {K : Act → World → Prop} {Q : Exit → Act → World → Prop} (s x : Operand)
    (ho : o.op = .call { callee := .builtin .append, args := #[s, x], argTypes := #[26, 26] })
    (base : Nat) (v : Value) (n : Nat) (Os : List PlD) (hs : a.eval s = v) (hown : PlOw w base v n Os)
    (A : Option Addr) (m c : Nat) (Xs : List PlD) (hx : a.eval x = .slice A m c) (hm : Xs.length = m) (hA : A = none → m = 0 ∧ c = 0) (hr : PlRd w A Xs) (hn : n + m ≤ 1000) (hbase : base ≤ w.heap.size)
    (h : ∀ v' w', PlOw w' base v' (n + m) (Os ++ Xs) → w.grownBy w' v.ownBlock → K (a.put o.dst v') w') : o.wp Try.prog a w K Q := by
  obtain ⟨j0, Z, hj, hjz, hjs, hZ, hjb⟩ := Pl_info4
  cases A with
  | none =>
    obtain ⟨rfl, rfl⟩ := hA rfl
    obtain rfl : Xs = [] := List.eq_nil_of_length_eq_zero hm
    have hrun := run_append_owned_none (P := Try.prog) w base 26 o.type 37 j0 34 Try.underlying26 hj v n (plsV Os) hown
    unfold Oper.wp execOp
    simp only [ho, resolve, invoke, builtin, Sem.run_bind, Sem.run_pure, Result.andThen_ok, List.map_toArray, List.map_cons, List.map_nil, hs, hx, hrun]
    exact h v w (by rw [List.append_nil]; exact hown) ⟨rfl, rfl, rfl, Nat.le_refl _, fun _ _ _ => rfl⟩
  | some ad =>
    have hlen := plsV_length Xs hr.1
    rw [hm] at hlen
    refine wp_append_own w s x 26 ho base 37 j0 (.agg Z) 34 j0.bytes Try.underlying26 hj hjz hjs rfl hZ (by decide) v n (plsV Os) hs hown ad m c (plsV Xs) hx hlen ?_ (plsV_one Xs) (by unfold maxLen; omega) (Nat.le_trans (Nat.mul_le_mul hn hjb) (by decide)) hbase (fun v' w' h1 h2 _ => h v' w' (by unfold PlOw; rw [plsV_append]; exact h1) h2)
    rcases hr.2 with rfl | ⟨g, o, h, hr2⟩
    · intro j u h; simp [plsV] at h
    · cases h
      intro j u hju
      rw [Addr.add_lit]
      exact hr2 j u hju
theorem PlOw.grown {W W' : World} {base n B : Nat} {v : Value} {Xs : List PlD} (h : PlOw W base v n Xs) (hg : W.grownBy W' v.ownBlock) (hB : B ≤ base) {w : World} (hb : Below B w W) (hs : B ≤ W.heap.size) : Below B w W' :=
  hb.grown hg hs (by intro k hk; have := (h.lt k hk).1; omega)
theorem put_getP0 (off : Nat) : ∀ (l : List Value) (k : Nat) (cs : Array Value), off + k + l.length ≤ cs.size →
    ((l.zipIdx k).foldl (fun cs x => cs.setIfInBounds (off + x.2) x.1) cs).size = cs.size ∧ ∀ i, ((l.zipIdx k).foldl (fun cs x => cs.setIfInBounds (off + x.2) x.1) cs)[i]? = if off + k ≤ i ∧ i < off + k + l.length then l[i - off - k]? else cs[i]?
  | [], k, cs, _ => ⟨rfl, fun i => by simp; omega⟩
  | v :: l, k, cs, h => by
    simp only [List.length_cons] at h
    obtain ⟨h1, h2⟩ := put_getP0 off l (k + 1) (cs.setIfInBounds (off + k) v) (by simp; omega)
    rw [List.zipIdx_cons, List.foldl_cons]
    refine ⟨by rw [h1]; simp, fun i => ?_⟩
    rw [h2]
    simp only [List.length_cons]
    by_cases c1 : off + (k + 1) ≤ i ∧ i < off + (k + 1) + l.length
    · rw [if_pos c1, if_pos (by omega), show i - off - k = (i - off - (k + 1)) + 1 by omega, List.getElem?_cons_succ]
    · rw [if_neg c1, Array.getElem?_setIfInBounds]
      by_cases c2 : off + k = i
      · subst c2
        rw [if_pos rfl, if_pos (by omega), if_pos (by omega), show off + k - off - k = 0 by omega]; rfl
      · rw [if_neg c2, if_neg (by omega)]
theorem put_get_P (off : Nat) (X : Array Value) (cs : Array Value) (h : off + X.size ≤ cs.size) :
    (X.zipIdx.foldl (fun cs (c, j) => cs.setIfInBounds (off + j) c) cs).size = cs.size ∧ ∀ i, (X.zipIdx.foldl (fun cs (c, j) => cs.setIfInBounds (off + j) c) cs)[i]? = if off ≤ i ∧ i < off + X.size then X.toList[i - off]? else cs[i]? := by
  have := put_getP0 off X.toList 0 cs (by rw [Array.length_toList]; omega)
  rw [Array.length_toList, Nat.add_zero, show ((X.toList).zipIdx 0).foldl (fun cs x => cs.setIfInBounds (off + x.2) x.1) cs = X.zipIdx.foldl (fun cs (c, j) => cs.setIfInBounds (off + j) c) cs by rw [← Array.foldl_toList, Array.toList_zipIdx]] at this
  exact this

theorem wp_build1p {w : World} {o : Oper} {a : Act} {K : Act → World → Prop} {Q : Exit → Act → World → Prop} (x : Operand) (ho : o.op = .buildSlice 26 1 #[(0, x)])
    (X : PlD) (hX : X.ok) (hx : a.eval x = .agg X.cs)
    (h : ∀ cs, PlRd (w.alloc (.cells cs 37)) (some ⟨w.heap.size, 0, none⟩) [X] → K (a.put o.dst (.slice (some ⟨w.heap.size, 0, none⟩) 1 1)) (w.alloc (.cells cs 37))) :
    o.wp Try.prog a w K Q := by
  obtain ⟨j0, Z, hj, hjz, hjs, hZ, _⟩ := Pl_info4
  have lx : X.cs.size = 34 := PlD.size hX
  obtain ⟨zs, hzs⟩ : ∃ zs : Array Value, zs = (Array.range (1 * j0.size)).map ((Value.agg Z).cells[· % (Value.agg Z).cells.size]!) := ⟨_, rfl⟩
  have hz : zs.size = 34 := by rw [hzs, hjs]; simp
  obtain ⟨s1, g1⟩ := put_get_P 0 X.cs zs (by rw [hz, lx]; decide)
  generalize hc1 : X.cs.zipIdx.foldl (fun cs (c, j) => cs.setIfInBounds (0 + j) c) zs = c1 at s1 g1
  refine wp_buildSlice 26 37 1 #[(0, x)] ho c1 j0 (.agg Z) Try.underlying26 hj hjz (by rw [hjs]; decide) (by rw [hjs]; decide) ?_ (h c1 ⟨fun Y hY => by rw [List.mem_singleton.1 hY]; exact hX, .inr ⟨w.heap.size, 0, rfl, ?_⟩⟩)
  · rw [← hzs, hjs]
    have e1 : (Value.agg X.cs).cells = X.cs := rfl
    simp only [List.map_toArray, List.map_cons, List.map_nil, hx, Instr.fill, e1, lx, hz]
    rw [if_neg (by decide)]
    simp only [Nat.zero_mul]
    rw [hc1]
  · intro j u hj'
    have hj2 : X.cs.toList[j]? = some u := by simpa [plsV] using hj'
    have hlt : j < 34 := by have := (List.getElem?_eq_some_iff.1 hj2).1; rw [Array.length_toList, lx] at this; exact this
    rw [cell_of_row _ _ _ _ _ _ (heap_alloc_new w _), Nat.zero_add, g1, lx, if_pos (by omega), Nat.sub_zero]
    exact hj2

end Go.Proofs.Ytkbokffonnjjiaa

namespace Go.Proofs.Ytkbokffonnjjiaa
open Go.RowKit Go.Qc Go.Shelf
attribute [local go_sem] txt_size txt_append ib_fold
theorem blk_gM {w w' : World} {g k : Nat} {t : TypeId} {cs : Array Value} (h : Blk w g t cs) (hg : w.grownBy w' (some k)) (hne : g ≠ k) : Blk w' g t cs := (hg.block g h.lt (by simpa using hne)).trans h
theorem below_gM {w W W' : World} {k : Nat} (h : Below w.heap.size w W) (hg : W.grownBy W' (some k)) (hk : w.heap.size ≤ k) : Below w.heap.size w W' := h.grown hg h.size (fun i e => by have := Option.some.inj e; omega)
theorem blk_ow {w w' : World} {base n g : Nat} {v : Value} {l : List (List UInt8)} {t : TypeId} {cs : Array Value} (h : Blk w g t cs) (hown : IdOw w base v n l) (hg : w.grownBy w' v.ownBlock) (hlt : g < base) : Blk w' g t cs :=
  (hg.block g h.lt (fun hk => by have := (hown.lt g hk.symm).1; omega)).trans h
theorem IdOw.kept_ {w w' : World} {base n k : Nat} {v : Value} {l : List (List UInt8)} (hown : IdOw w base v n l) (hg : w.grownBy w' (some k)) (hlt : k < base) : IdOw w' base v n l :=
  World.ownsRow.kept hown hg (by
    by_cases h : v.ownBlock = none
    · exact .inl h
    · right
      intro e
      have := (hown.lt k e).1
      omega)
theorem slice_mid_ids (g o n c x y : Nat) (hx : x < y) (hy : y ≤ n) (hc : n ≤ c) (W : World) : (Instr.sliceAt 22 (.slice (some ⟨g, o, none⟩) n c) (some (.int .i64 (x : Int))) (some (.int .i64 (y : Int))) none).run Try.prog W = .ok (.slice (some ⟨g, o + x * 32, none⟩) (y - x) (c - x)) W := by
  obtain ⟨i0, hi, h32, _⟩ := infoId_parts
  have h1 : (0 : Int) ≤ (x : Int) ∧ (x : Int) ≤ (y : Int) := by omega
  have h2 : (0 : Int) ≤ (y : Int) ∧ (y : Int) ≤ (c : Int) := by omega
  have h3 : ¬ (x = c) := by omega
  simp [Instr.sliceAt, Instr.slice, Instr.sliceBounds, run_underlying Try.underlying22, run_sliceBound, h1, h2, sizeOf, typeInfo, hi, h32, Addr.add_lit, Int.toNat_natCast]
  omega
/-- A row's middle. -/
theorem RowC.cut {w : World} {A : Option Addr} {n c : Nat} {l : List (List UInt8)} (h : RowC w A n c l) {x y : Nat} (hx : x < y) (hy : y ≤ n) :
    ∃ A1 c1, (∀ W, (Instr.sliceAt 22 (.slice A n c) (some (.int .i64 (x : Int))) (some (.int .i64 (y : Int))) none).run Try.prog W = .ok (.slice A1 (y - x) c1) W) ∧ RowC w A1 (y - x) c1 ((l.drop x).take (y - x)) := by
  obtain ⟨⟨hl, hn, h32, hr⟩, hc⟩ := h
  have d32 : ∀ a ∈ (l.drop x).take (y - x), a.length = 32 := fun a ha => h32 a (List.mem_of_mem_drop (List.mem_of_mem_take ha))
  rcases hr with rfl | ⟨g, o, rfl, hr⟩
  · simp at hl; omega
  · rcases hc with ⟨hA, _⟩ | ⟨_, hnc, hcm⟩
    · cases hA
    · refine ⟨_, _, fun W => slice_mid_ids g o n c x y hx hy hnc W, ⟨by rw [List.length_take, List.length_drop]; omega, by omega, d32, .inr ⟨g, o + x * 32, rfl, fun j v hj => ?_⟩⟩, .inr ⟨⟨_, rfl⟩, by omega, by omega⟩⟩
      have e : idsV l = idsV (l.take x) ++ idsV ((l.drop x).take (y - x)) ++ idsV ((l.drop x).drop (y - x)) := by rw [List.append_assoc, ← idsV_append, ← idsV_append, List.take_append_drop, List.take_append_drop]
      have l1 : (idsV (l.take x)).length = x * 32 := by rw [idsV_length _ (fun a ha => h32 a (List.mem_of_mem_take ha)), List.length_take, Nat.min_eq_left (by omega)]
      rw [Nat.add_assoc]
      refine hr _ v ?_
      have hlt := (List.getElem?_eq_some_iff.1 hj).1
      rw [e, List.getElem?_append_left (by rw [List.length_append, l1]; omega), List.getElem?_append_right (by omega), l1, show x * 32 + j - x * 32 = j by omega]
      exact hj
theorem wp_build1i {w : World} {o : Oper} {a : Act} {K : Act → World → Prop} {Q : Exit → Act → World → Prop} (x : Operand) (ho : o.op = .buildSlice 22 1 #[(0, x)])
    (X : List UInt8) (lx : X.length = 32) (hx : a.eval x = .agg (idVals X))
    (h : ∀ cs, IdRd (w.alloc (.cells cs 24)) (some ⟨w.heap.size, 0, none⟩) [X] → K (a.put o.dst (.slice (some ⟨w.heap.size, 0, none⟩) 1 1)) (w.alloc (.cells cs 24))) :
    o.wp Try.prog a w K Q := by
  obtain ⟨j0, hj, hjz, hjs, hjb⟩ := infoId2_parts
  have sx : (idVals X).size = 32 := by rw [idVals_size, lx]
  obtain ⟨zs, hzs⟩ : ∃ zs : Array Value, zs = (Array.range (1 * j0.size)).map ((Value.agg (idVals zeroB)).cells[· % (Value.agg (idVals zeroB)).cells.size]!) := ⟨_, rfl⟩
  have hz : zs.size = 32 := by rw [hzs, hjs]; simp
  obtain ⟨s1, g1⟩ := put_get_arr 0 X zs (by rw [hz, lx]; decide)
  generalize hc1 : (idVals X).zipIdx.foldl (fun cs (c, j) => cs.setIfInBounds (0 + j) c) zs = c1 at s1 g1
  refine wp_buildSlice 22 24 1 #[(0, x)] ho c1 j0 (.agg (idVals zeroB)) Try.underlying22 hj hjz (by rw [hjs]; decide) (by rw [hjs]; decide) ?_ (h c1 ⟨fun Y hY => by rw [List.mem_singleton.1 hY]; exact lx, .inr ⟨w.heap.size, 0, rfl, ?_⟩⟩)
  · rw [← hzs, hjs]
    have e1 : (Value.agg (idVals X)).cells = idVals X := rfl
    simp only [List.map_toArray, List.map_cons, List.map_nil, hx, Instr.fill, e1, idVals_size, lx, hz]
    rw [if_neg (by decide)]
    simp only [Nat.zero_mul]
    rw [hc1]
  · intro j u hj'
    have hj2 : (X.map u8v)[j]? = some u := by simpa [idsV] using hj'
    have hlt : j < 32 := by have := (List.getElem?_eq_some_iff.1 hj2).1; simpa [lx] using this
    rw [cell_of_row _ _ _ _ _ _ (heap_alloc_new w _), Nat.zero_add, g1, lx, if_pos (by omega), Nat.sub_zero]
    exact hj2
theorem infoIdsS : (Try.prog.info? 22).map (·.size) = some 1 := by kernel_rfl
theorem plC_over (X : PlD) (hX : X.ok) (A : Option Addr) (n c : Nat) : over X.cs 33 [.slice A n c] = PlD.cs ⟨X.a, X.t, A, n, c⟩ := by
  have ha : X.a.length = 32 := hX
  apply Array.ext_getElem?
  intro j
  have h1 := PlD.size hX
  have h2 : (PlD.cs ⟨X.a, X.t, A, n, c⟩).size = 34 := PlD.size (X := ⟨X.a, X.t, A, n, c⟩) hX
  rw [over_get X.cs 33 [.slice A n c] (by simp [h1])]
  by_cases h : j < 33
  · rw [if_pos h]
    unfold PlD.cs
    by_cases h3 : j < 32
    · rw [Array.getElem?_append_left (by rw [idVals_size, ha]; exact h3), Array.getElem?_append_left (by rw [idVals_size, ha]; exact h3)]
    · obtain rfl : j = 32 := by omega
      rw [Array.getElem?_append_right (by rw [idVals_size, ha]; omega), Array.getElem?_append_right (by rw [idVals_size, ha]; omega), idVals_size, ha]
      rfl
  · rw [if_neg h]
    by_cases h2' : j = 33
    · subst h2'
      rw [if_pos (by simp)]
      exact (PlD.c33 ⟨X.a, X.t, A, n, c⟩ hX).symm
    · rw [if_neg (by simp; omega), Array.getElem?_eq_none (by omega), Array.getElem?_eq_none (by omega)]
theorem wp_store_way {w : World} {o : Oper} {a : Act} {K : Act → World → Prop} {Q : Exit → Act → World → Prop} (x y : Operand) (ho : o.op = .store 22 x y)
    (g : Nat) (X : PlD) (hX : X.ok) (hg : PlX w g X) (A : Option Addr) (n c : Nat) (hx : a.eval x = .pointer (some ⟨g, 33, none⟩)) (hy : a.eval y = .slice A n c)
    (h : ∀ w', PlX w' g ⟨X.a, X.t, A, n, c⟩ → w.grownBy w' (some g) → K (a.put o.dst undef) w') : o.wp Try.prog a w K Q :=
  wp_store_cellM 22 x y ho g 33 _ _ hg.b (.slice A n c) hx hy infoIdsS (by rw [PlD.size hX]; omega) rfl rfl fun w' hb hgr => h w' ⟨by rw [plC_over X hX] at hb; exact hb⟩ hgr
/-- A place under way: its box, the row's box, its way's own row. -/
structure PwS (w0 : World) (gp gl base : Nat) (A : Option Addr) (n c : Nat) (X : PlD) (u : Value) (k : Nat) (Way : List (List UInt8)) (W : World) : Prop where
  x : PlX W gp X
  l : Blk W gl 22 #[.slice A n c]
  o : IdOw W base u k Way
  b : Below w0.heap.size w0 W
  n2 : w0.heap.size ≤ gp
  n3 : gl < base
  n4 : gp < base
  n5 : gl ≠ gp
  n6 : base ≤ W.heap.size
section
variable {w0 : World} {gp gl base : Nat} {A : Option Addr} {n c : Nat} {X X' : PlD} {u u' : Value} {k k' : Nat} {Way Way' : List (List UInt8)} {W W' : World}
theorem PwS.below (h : PwS w0 gp gl base A n c X u k Way W) (hb : Below W.heap.size W W') : PwS w0 gp gl base A n c X u k Way W' :=
  ⟨h.x.below hb, h.l.below hb, own_below h.o hb, h.b.trans (hb.mono h.b.size), h.n2, h.n3, h.n4, h.n5, Nat.le_trans h.n6 hb.size⟩
theorem PwS.app (h : PwS w0 gp gl base A n c X u k Way W) (ho : IdOw W' base u' k' Way') (hg : W.grownBy W' u.ownBlock) : PwS w0 gp gl base A n c X u' k' Way' W' := by
  have h1 := h.n2
  have h3 := h.n4
  exact ⟨⟨blk_ow h.x.b h.o hg h.n4⟩, blk_ow h.l h.o hg h.n3, ho, h.o.grown hg (by omega) h.b h.b.size, h.n2, h.n3, h.n4, h.n5, Nat.le_trans h.n6 hg.size⟩
theorem PwS.put (h : PwS w0 gp gl base A n c X u k Way W) (hx : PlX W' gp X') (hg : W.grownBy W' (some gp)) : PwS w0 gp gl base A n c X' u k Way W' :=
  ⟨hx, blk_gM h.l hg h.n5, h.o.kept_ hg h.n4, below_gM h.b hg h.n2, h.n2, h.n3, h.n4, h.n5, Nat.le_trans h.n6 hg.size⟩
theorem PwS.row (h : PwS w0 gp gl base A n c X u k Way W) : W.cell? ⟨gl, 0, none⟩ = some (.slice A n c) := h.l.cell_ rfl
end
theorem hfnM2 : ∀ args W, (callFunc 93 args).run Try.prog W = .ok (.enter 93 args) W := fun args W => by
  have h1 : decide (Try.f93.name = "runtime.NumGoroutine") = false := by kernel_rfl
  have h2 : Try.f93.body.isNone = false := by kernel_rfl
  have h1' := of_decide_eq_false h1
  have h2' : ¬ Try.f93.body = none := fun e => by rw [e] at h2; cases h2
  simp [callFunc, Try.func93, h1', h2']
set_option maxRecDepth 100000 in
set_option maxHeartbeats 8000000 in
theorem placed1_any (w0 : World) (gp gl base : Nat) (A : Option Addr) (n c : Nat) (l : List (List UInt8)) (h0 : RowC w0 A n c l) (X : PlD) (hX : X.ok) (x y : Nat) (hxy : x < y) (hy : y ≤ n) (m : Nat) (hXn : X.n = m) (Way : List (List UInt8)) (hm : m + 1 ≤ 1000000) (W : World)
    (HS : PwS w0 gp gl base A n c X (.slice X.A X.n X.c) m Way W) :
    Calls Try.prog 93 (#[.int .i64 (x : Int), .int .i64 (y : Int)] ++ #[.pointer (some ⟨gp, 0, none⟩), .pointer (some ⟨gl, 0, none⟩)]) W fun e w' => e = .returned (.tuple #[]) ∧ ∃ B' d', PwS w0 gp gl base A n c ⟨X.a, X.t, B', m + 1, d'⟩ (.slice B' (m + 1) d') (m + 1) (Way ++ [rootM ((l.drop x).take (y - x))]) w' := by
  obtain ⟨A1, c1, e1, r1⟩ := h0.cut hxy hy
  have cR : ∀ W', Below w0.heap.size w0 W' → Calls Try.prog 50 #[.slice A1 (y - x) c1] W' fun e w' => e = .returned (.agg (idVals (rootM ((l.drop x).take (y - x))))) ∧ Below W'.heap.size W' w' := fun W' hb => mroot_any _ _ (Nat.le_refl _) A1 (y - x) c1 W' (r1.below hb)
  have hR32 := rootM_length ((l.drop x).take (y - x))
  generalize rootM ((l.drop x).take (y - x)) = R at *
  generalize y - x = s at *
  rw [hXn] at HS
  have HSd := hid (HS.below (below_drew1 W))
  clear HS h0 r1 hxy hy
  have fX := fun (W : World) (h : PlX W gp X) => hXn ▸ h.c33 hX
  clear hXn
  go_enter Try.func93, Try.ntmps93
  refine wp_region_held_drew (S := fun W => W.cell? ⟨gl, 0, none⟩ = some (.slice A n c)) (by kernel_rfl) ?_ (fun hHeld => ?_)
  · exact HSd.out.row
  refine' wpAnyH_take (i := 0) (v := .pointer (some ⟨gp, 33, none⟩)) rfl (by kernel_rfl) (by kernel_rfl) (by kernel_rfl) (fun _ _ _ h => h) (Or.inl ⟨by rfl, fun w' hw' => by go_simp⟩) hHeld ?_
  try simp only [Act.put, List.getElem_toArray, List.getElem_cons_succ, List.getElem_cons_zero, List.setIfInBounds_toArray, List.set_cons_zero, List.set_cons_succ]
  refine' wpAnyH_take (i := 2) (v := .slice A n c) rfl (by kernel_rfl) (by kernel_rfl) (by kernel_rfl) (fun _ _ _ h => h) (Or.inl ⟨by rfl, fun w' hw' => by have hv := hw'; go_simp⟩) hHeld ?_
  try simp only [Act.put, List.getElem_toArray, List.getElem_cons_succ, List.getElem_cons_zero, List.setIfInBounds_toArray, List.set_cons_zero, List.set_cons_succ]
  refine' wpAnyH_take (i := 3) (v := .int .i64 x) rfl (by kernel_rfl) (by kernel_rfl) (by kernel_rfl) (fun _ _ _ h => h) (Or.inl ⟨by rfl, fun w' hw' => by go_simp⟩) hHeld ?_
  try simp only [Act.put, List.getElem_toArray, List.getElem_cons_succ, List.getElem_cons_zero, List.setIfInBounds_toArray, List.set_cons_zero, List.set_cons_succ]
  refine' wpAnyH_take (i := 4) (v := .int .i64 y) rfl (by kernel_rfl) (by kernel_rfl) (by kernel_rfl) (fun _ _ _ h => h) (Or.inl ⟨by rfl, fun w' hw' => by go_simp⟩) hHeld ?_
  try simp only [Act.put, List.getElem_toArray, List.getElem_cons_succ, List.getElem_cons_zero, List.setIfInBounds_toArray, List.set_cons_zero, List.set_cons_succ]
  refine' wpAnyH_take (i := 5) (v := .slice A1 s c1) rfl (by kernel_rfl) (by kernel_rfl) (by kernel_rfl) (fun _ _ _ h => h) (Or.inl ⟨by rfl, fun w' hw' => by have hv := e1 w'; go_simp⟩) hHeld ?_
  try simp only [Act.put, List.getElem_toArray, List.getElem_cons_succ, List.getElem_cons_zero, List.setIfInBounds_toArray, List.set_cons_zero, List.set_cons_succ]
  refine wpAnyH_ready (rs := [1, 6]) (by kernel_rfl) (by simp) ?_
  refine AllReadyH.cons rfl (fun K hK => ?_) (AllReadyH.cons rfl (fun K hK => ?_) AllReadyH.nil)
  · have fA := fX _ HSd.out.x
    go_simp
    refine hK.out _ _ hHeld (fun hHeld => ?_)
    clear hK K fA
    try simp only [Act.put, List.getElem_toArray, List.getElem_cons_succ, List.getElem_cons_zero, List.setIfInBounds_toArray, List.set_cons_zero, List.set_cons_succ]
    refine wpAnyH_ready (rs := [6]) (by kernel_rfl) (by simp) ?_
    refine AllReadyH.cons rfl (fun K hK => ?_) AllReadyH.nil
    go_simp
    (with_reducible refine (cR _ HSd.out.b).mono ?_)
    rintro e6 w6 ⟨rfl, hb6⟩
    replace HSd := hid (HSd.out.below hb6)
    refine hK.out _ _ HSd.out.row (fun hHeld => ?_)
    clear hK K hb6
    try simp only [Act.put, List.getElem_toArray, List.getElem_cons_succ, List.getElem_cons_zero, List.setIfInBounds_toArray, List.set_cons_zero, List.set_cons_succ]
    refine wpAnyH_ready (rs := [7]) (by kernel_rfl) (by simp) ?_
    refine AllReadyH.cons rfl (fun K hK => ?_) AllReadyH.nil
    refine wp_build1i _ rfl R hR32 rfl ?_
    intro cs hrow
    replace HSd := hid (HSd.out.below ((Below.refl w6.heap.size w6).alloc (Nat.le_refl _) (.cells cs 24)))
    refine hK.out _ _ HSd.out.row (fun hHeld => ?_)
    clear hK K
    try simp only [Act.put, List.getElem_toArray, List.getElem_cons_succ, List.getElem_cons_zero, List.setIfInBounds_toArray, List.set_cons_zero, List.set_cons_succ]
    refine wpAnyH_ready (rs := [8]) (by kernel_rfl) (by simp) ?_
    refine AllReadyH.cons rfl (fun K hK => ?_) AllReadyH.nil
    have hb9 := HSd.out.n6
    refine wp_append_idw _ _ rfl base _ m Way rfl HSd.out.o _ 1 1 [R] rfl rfl (fun h => by cases h) hrow hm hb9 ?_
    intro v' w' hown' hg'
    replace HSd := hid (HSd.out.app hown' hg')
    rcases hown'.2 with ⟨rfl, h0⟩ | ⟨g9, c9, cur9, rfl, _⟩
    · omega
    clear hown' hg' hrow
    refine hK.out _ _ HSd.out.row (fun hHeld => ?_)
    clear hK K hb9
    try simp only [Act.put, List.getElem_toArray, List.getElem_cons_succ, List.getElem_cons_zero, List.setIfInBounds_toArray, List.set_cons_zero, List.set_cons_succ]
    refine' wpAnyH_take (i := 9) (v := .pointer (some ⟨gp, 33, none⟩)) rfl (by kernel_rfl) (by kernel_rfl) (by kernel_rfl) (fun _ _ _ h => h) (Or.inl ⟨by rfl, fun w' hw' => by go_simp⟩) hHeld ?_
    try simp only [Act.put, List.getElem_toArray, List.getElem_cons_succ, List.getElem_cons_zero, List.setIfInBounds_toArray, List.set_cons_zero, List.set_cons_succ]
    refine wpAnyH_ready (rs := [10]) (by kernel_rfl) (by simp) ?_
    refine AllReadyH.cons rfl (fun K hK => ?_) AllReadyH.nil
    refine wp_store_way _ _ rfl gp _ hX HSd.out.x (some ⟨g9, 0, none⟩) (m + 1) c9 rfl rfl ?_
    intro w10 ho10 hg10
    replace HSd := hid (HSd.out.put ho10 hg10)
    refine hK.out _ _ HSd.out.row (fun hHeld => ?_)
    clear hK K ho10 hg10
    try simp only [Act.put, List.getElem_toArray, List.getElem_cons_succ, List.getElem_cons_zero, List.setIfInBounds_toArray, List.set_cons_zero, List.set_cons_succ]
    refine wpAnyH_done (by kernel_rfl) ?_ _
    go_wp2_with (fail)
    go_end0
    exact ⟨rfl, _, _, HSd.out⟩
  · go_simp
    (with_reducible refine (cR _ HSd.out.b).mono ?_)
    rintro e6 w6 ⟨rfl, hb6⟩
    replace HSd := hid (HSd.out.below hb6)
    refine hK.out _ _ HSd.out.row (fun hHeld => ?_)
    clear hK K hb6
    try simp only [Act.put, List.getElem_toArray, List.getElem_cons_succ, List.getElem_cons_zero, List.setIfInBounds_toArray, List.set_cons_zero, List.set_cons_succ]
    refine wpAnyH_ready (rs := [1, 7]) (by kernel_rfl) (by simp) ?_
    refine AllReadyH.cons rfl (fun K hK => ?_) (AllReadyH.cons rfl (fun K hK => ?_) AllReadyH.nil)
    · have fA := fX _ HSd.out.x
      go_simp
      refine hK.out _ _ hHeld (fun hHeld => ?_)
      clear hK K fA
      try simp only [Act.put, List.getElem_toArray, List.getElem_cons_succ, List.getElem_cons_zero, List.setIfInBounds_toArray, List.set_cons_zero, List.set_cons_succ]
      refine wpAnyH_ready (rs := [7]) (by kernel_rfl) (by simp) ?_
      refine AllReadyH.cons rfl (fun K hK => ?_) AllReadyH.nil
      refine wp_build1i _ rfl R hR32 rfl ?_
      intro cs hrow
      replace HSd := hid (HSd.out.below ((Below.refl w6.heap.size w6).alloc (Nat.le_refl _) (.cells cs 24)))
      refine hK.out _ _ HSd.out.row (fun hHeld => ?_)
      clear hK K
      try simp only [Act.put, List.getElem_toArray, List.getElem_cons_succ, List.getElem_cons_zero, List.setIfInBounds_toArray, List.set_cons_zero, List.set_cons_succ]
      refine wpAnyH_ready (rs := [8]) (by kernel_rfl) (by simp) ?_
      refine AllReadyH.cons rfl (fun K hK => ?_) AllReadyH.nil
      have hb9 := HSd.out.n6
      refine wp_append_idw _ _ rfl base _ m Way rfl HSd.out.o _ 1 1 [R] rfl rfl (fun h => by cases h) hrow hm hb9 ?_
      intro v' w' hown' hg'
      replace HSd := hid (HSd.out.app hown' hg')
      rcases hown'.2 with ⟨rfl, h0⟩ | ⟨g9, c9, cur9, rfl, _⟩
      · omega
      clear hown' hg' hrow
      refine hK.out _ _ HSd.out.row (fun hHeld => ?_)
      clear hK K hb9
      try simp only [Act.put, List.getElem_toArray, List.getElem_cons_succ, List.getElem_cons_zero, List.setIfInBounds_toArray, List.set_cons_zero, List.set_cons_succ]
      refine' wpAnyH_take (i := 9) (v := .pointer (some ⟨gp, 33, none⟩)) rfl (by kernel_rfl) (by kernel_rfl) (by kernel_rfl) (fun _ _ _ h => h) (Or.inl ⟨by rfl, fun w' hw' => by go_simp⟩) hHeld ?_
      try simp only [Act.put, List.getElem_toArray, List.getElem_cons_succ, List.getElem_cons_zero, List.setIfInBounds_toArray, List.set_cons_zero, List.set_cons_succ]
      refine wpAnyH_ready (rs := [10]) (by kernel_rfl) (by simp) ?_
      refine AllReadyH.cons rfl (fun K hK => ?_) AllReadyH.nil
      refine wp_store_way _ _ rfl gp _ hX HSd.out.x (some ⟨g9, 0, none⟩) (m + 1) c9 rfl rfl ?_
      intro w10 ho10 hg10
      replace HSd := hid (HSd.out.put ho10 hg10)
      refine hK.out _ _ HSd.out.row (fun hHeld => ?_)
      clear hK K ho10 hg10
      try simp only [Act.put, List.getElem_toArray, List.getElem_cons_succ, List.getElem_cons_zero, List.setIfInBounds_toArray, List.set_cons_zero, List.set_cons_succ]
      refine wpAnyH_done (by kernel_rfl) ?_ _
      go_wp2_with (fail)
      go_end0
      exact ⟨rfl, _, _, HSd.out⟩
    · refine wp_build1i _ rfl R hR32 rfl ?_
      intro cs hrow
      replace HSd := hid (HSd.out.below ((Below.refl w6.heap.size w6).alloc (Nat.le_refl _) (.cells cs 24)))
      refine hK.out _ _ HSd.out.row (fun hHeld => ?_)
      clear hK K
      try simp only [Act.put, List.getElem_toArray, List.getElem_cons_succ, List.getElem_cons_zero, List.setIfInBounds_toArray, List.set_cons_zero, List.set_cons_succ]
      generalize w6.alloc (.cells cs 24) = w9 at *
      refine wpAnyH_ready (rs := [1]) (by kernel_rfl) (by simp) ?_
      refine AllReadyH.cons rfl (fun K hK => ?_) AllReadyH.nil
      have fA := fX _ HSd.out.x
      go_simp
      refine hK.out _ _ hHeld (fun hHeld => ?_)
      clear hK K fA
      try simp only [Act.put, List.getElem_toArray, List.getElem_cons_succ, List.getElem_cons_zero, List.setIfInBounds_toArray, List.set_cons_zero, List.set_cons_succ]
      refine wpAnyH_ready (rs := [8]) (by kernel_rfl) (by simp) ?_
      refine AllReadyH.cons rfl (fun K hK => ?_) AllReadyH.nil
      have hb9 := HSd.out.n6
      refine wp_append_idw _ _ rfl base _ m Way rfl HSd.out.o _ 1 1 [R] rfl rfl (fun h => by cases h) hrow hm hb9 ?_
      intro v' w' hown' hg'
      replace HSd := hid (HSd.out.app hown' hg')
      rcases hown'.2 with ⟨rfl, h0⟩ | ⟨g9, c9, cur9, rfl, _⟩
      · omega
      clear hown' hg' hrow
      refine hK.out _ _ HSd.out.row (fun hHeld => ?_)
      clear hK K hb9
      try simp only [Act.put, List.getElem_toArray, List.getElem_cons_succ, List.getElem_cons_zero, List.setIfInBounds_toArray, List.set_cons_zero, List.set_cons_succ]
      refine' wpAnyH_take (i := 9) (v := .pointer (some ⟨gp, 33, none⟩)) rfl (by kernel_rfl) (by kernel_rfl) (by kernel_rfl) (fun _ _ _ h => h) (Or.inl ⟨by rfl, fun w' hw' => by go_simp⟩) hHeld ?_
      try simp only [Act.put, List.getElem_toArray, List.getElem_cons_succ, List.getElem_cons_zero, List.setIfInBounds_toArray, List.set_cons_zero, List.set_cons_succ]
      refine wpAnyH_ready (rs := [10]) (by kernel_rfl) (by simp) ?_
      refine AllReadyH.cons rfl (fun K hK => ?_) AllReadyH.nil
      refine wp_store_way _ _ rfl gp _ hX HSd.out.x (some ⟨g9, 0, none⟩) (m + 1) c9 rfl rfl ?_
      intro w10 ho10 hg10
      replace HSd := hid (HSd.out.put ho10 hg10)
      refine hK.out _ _ HSd.out.row (fun hHeld => ?_)
      clear hK K ho10 hg10
      try simp only [Act.put, List.getElem_toArray, List.getElem_cons_succ, List.getElem_cons_zero, List.setIfInBounds_toArray, List.set_cons_zero, List.set_cons_succ]
      refine wpAnyH_done (by kernel_rfl) ?_ _
      go_wp2_with (fail)
      go_end0
      exact ⟨rfl, _, _, HSd.out⟩
end Go.Proofs.Ytkbokffonnjjiaa

namespace Go.Proofs.Ytkbokffonnjjiaa
open Go.RowKit Go.Qc Go.Shelf
attribute [local go_sem] txt_size txt_append ib_fold
/-- The parts beside a place lie in the row, and are not empty. -/
theorem partsL_in (a b p : Nat) : ∀ x ∈ partsL a b p, a ≤ x.1 ∧ x.1 < x.2 ∧ x.2 ≤ b := by
  intro x hx
  by_cases h : b - a ≤ 1
  · rw [partsL_end p h] at hx; cases hx
  · have hk := halfM_ok (n := b - a) (by omega)
    by_cases hp : p < a + halfM (b - a)
    · rw [partsL_low h hp] at hx
      rcases List.mem_append.1 hx with h1 | h1
      · have := partsL_in a (a + halfM (b - a)) p x h1
        omega
      · rw [List.mem_singleton.1 h1]
        show a ≤ a + halfM (b - a) ∧ a + halfM (b - a) < b ∧ b ≤ b
        omega
    · rw [partsL_high h hp] at hx
      rcases List.mem_append.1 hx with h1 | h1
      · have := partsL_in (a + halfM (b - a)) b p x h1
        omega
      · rw [List.mem_singleton.1 h1]
        show a ≤ a ∧ a < a + halfM (b - a) ∧ a + halfM (b - a) ≤ b
        omega
termination_by b - a
decreasing_by all_goals omega
/-- The roots beside a place, from its own up. -/
def wayL (l : List (List UInt8)) (n k : Nat) : List (List UInt8) := (partsL 0 n k).map fun x => rootM ((l.drop x.1).take (x.2 - x.1))
theorem wayL_length (l : List (List UInt8)) (n k : Nat) : (wayL l n k).length = (partsL 0 n k).length := by unfold wayL; rw [List.length_map]
theorem wayL_step {l : List (List UInt8)} {n k i : Nat} {x : Nat × Nat} (h : (partsL 0 n k)[i]? = some x) : (wayL l n k).take (i + 1) = (wayL l n k).take i ++ [rootM ((l.drop x.1).take (x.2 - x.1))] := by
  rw [List.take_add_one]
  congr 1
  unfold wayL
  rw [List.getElem?_map, h]
  rfl
theorem list32m (K : List UInt8) (h : K.length = 32) : ∃ x0 x1 x2 x3 x4 x5 x6 x7 x8 x9 x10 x11 x12 x13 x14 x15 x16 x17 x18 x19 x20 x21 x22 x23 x24 x25 x26 x27 x28 x29 x30 x31, K = [x0, x1, x2, x3, x4, x5, x6, x7, x8, x9, x10, x11, x12, x13, x14, x15, x16, x17, x18, x19, x20, x21, x22, x23, x24, x25, x26, x27, x28, x29, x30, x31] := by
  match K, h with
  | [x0, x1, x2, x3, x4, x5, x6, x7, x8, x9, x10, x11, x12, x13, x14, x15, x16, x17, x18, x19, x20, x21, x22, x23, x24, x25, x26, x27, x28, x29, x30, x31], _ => exact ⟨_, _, _, _, _, _, _, _, _, _, _, _, _, _, _, _, _, _, _, _, _, _, _, _, _, _, _, _, _, _, _, _, rfl⟩

set_option maxRecDepth 100000 in
set_option maxHeartbeats 20000000 in
theorem build_pl (a : List UInt8) (ha : a.length = 32) (t : Int) (W : World) : (Instr.build 37 #[(0, .agg (List.map u8v a).toArray), (1, .int .i64 t)]).run Try.prog W = .ok (.agg (PlD.cs ⟨a, t, none, 0, 0⟩)) W := by
  obtain ⟨x0, x1, x2, x3, x4, x5, x6, x7, x8, x9, x10, x11, x12, x13, x14, x15, x16, x17, x18, x19, x20, x21, x22, x23, x24, x25, x26, x27, x28, x29, x30, x31, rfl⟩ := list32m a ha
  kernel_rfl
theorem ret_plM {fn : Func} {p : Tmp} (hf : fn.results = #[.cell p 37]) (tmps : Array Value) (w : World) (g : Nat) (X : PlD) (hX : X.ok) (hp : tmps.getD p undef = .pointer (some ⟨g, 0, none⟩)) (hg : Blk w g 37 X.cs) :
    (results fn tmps).run Try.prog w = .ok (.agg X.cs) w := results_cell_row hf tmps w g _ _ _ _ hp hg Try.underlying37 rfl (Pl_info X hX)
set_option maxRecDepth 100000 in
set_option maxHeartbeats 8000000 in
theorem placed_gen (A : Option Addr) (n c : Nat) (l : List (List UInt8)) (k : Nat) (a : List UInt8) (hk : l[k]? = some a) (L : Nat) (hL : (partsL 0 n k).length = L) (Way : List (List UInt8)) (hW : wayL l n k = Way) (w : World) (h : RowC w A n c l) :
    Calls Try.prog 48 #[.slice A n c, .int .i64 k] w fun e w' => ∃ B d, e = .returned (.agg (PlD.cs ⟨a, k, B, L, d⟩)) ∧ IdOw w' w.heap.size (.slice B L d) L Way ∧ Below w.heap.size w w' := by
  have hln := h.1.1
  have hn6 := h.1.2.1
  have hkn : k < n := by rw [← hln]; exact (List.getElem?_eq_some_iff.1 hk).1
  obtain ⟨g, q, hg, ha, hix⟩ := h.1.2.2.pick (k := k) (a := a) c h.1.1 hk
  have hu := Try.underlying24
  have hza : (Try.prog.info? 24).map (·.size) = some (a.map u8v).length := by rw [List.length_map, ha]; exact sizeId
  have hX0 : PlD.ok ⟨a, (k : Int), none, 0, 0⟩ := ha
  have bP := build_pl a ha (k : Int)
  go_enter Try.func48, Try.ntmps48
  go_upto_region 1 with (fail)
  generalize hZ : (Obj.cells _ 37) = Z
  obtain ⟨zc, rfl, hzc⟩ : ∃ zc : Array Value, Z = Obj.cells zc 37 ∧ zc.size = 34 := ⟨_, hZ.symm, rfl⟩
  clear hZ
  have hl := (Blk.new w 22 #[.slice A n c]).alloc (.cells zc 37)
  have hz := Blk.new (w.alloc (.cells #[.slice A n c] 22)) 37 zc
  have hk1 : (w.alloc (.cells #[.slice A n c] 22)).heap.size = w.heap.size + 1 := by simp
  have hb := ((Below.refl w.heap.size w).alloc (Nat.le_refl _) (.cells #[.slice A n c] 22)).alloc (by simp) (.cells zc 37)
  rw [hk1] at hz
  have h2 := h.below hb
  have fa := hg.below hb
  have hsz : ((w.alloc (.cells #[.slice A n c] 22)).alloc (.cells zc 37)).heap.size = w.heap.size + 2 := by simp
  generalize (w.alloc (.cells #[.slice A n c] 22)).alloc (.cells zc 37) = w2 at *
  have fl := hl.cell_ (i := 0) rfl
  have HSZ := hid hsz
  clear hk1 hsz
  go_upto_region 2 with (first
    | (with_reducible refine wpList_load_if (by with_unfolding_all rfl) 24 _ rfl _ _ rfl (a.map u8v) _ fa hu rfl hza ?_)
    | (with_reducible refine wpList_build_byM rfl _ _ rfl _ _ bP (by with_unfolding_all rfl) ?_)
    | (with_reducible refine wpList_store_pln rfl _ _ rfl rfl rfl hX0 rfl ?_))
  have HP : PwS w2 w2.heap.size w.heap.size (w2.heap.size + 1) A n c ⟨a, k, none, 0, 0⟩ (.slice none 0 0) 0 [] (w2.alloc (.cells (PlD.cs ⟨a, k, none, 0, 0⟩) 37)) :=
    ⟨PlX.new w2 _, hl.alloc _, ⟨rfl, .inl ⟨rfl, rfl⟩⟩, (Below.refl _ _).alloc (Nat.le_refl _) _, Nat.le_refl _, by have := HSZ.out; omega, by omega, by have := HSZ.out; omega, by simp⟩
  have fl3 := HP.row
  have cP := parted_any 93 hfnM2 #[.pointer (some ⟨w2.heap.size, 0, none⟩), .pointer (some ⟨w.heap.size, 0, none⟩)]
    (fun i W => ∃ B d, PwS w2 w2.heap.size w.heap.size (w2.heap.size + 1) A n c ⟨a, k, B, i, d⟩ (.slice B i d) i ((wayL l n k).take i) W) n 0 n k (by omega) (by omega) (by omega) (by omega) (fun i x W hx hJ => by
      obtain ⟨B, d, HS⟩ := hJ
      have hi := (List.getElem?_eq_some_iff.1 hx).1
      have hle := partsL_len 0 n k
      obtain ⟨_, p2, p3⟩ := partsL_in 0 n k x (List.mem_of_getElem? hx)
      refine (placed1_any w2 w2.heap.size w.heap.size (w2.heap.size + 1) A n c l h2 ⟨a, k, B, i, d⟩ ha x.1 x.2 p2 p3 i rfl _ (by omega) W HS).mono ?_
      rintro e w' ⟨rfl, B', d', hq⟩
      exact ⟨rfl, B', d', by rw [wayL_step hx]; exact hq⟩) _ ⟨none, 0, by rw [List.take_zero]; exact HP⟩
  have hlen := wayL_length l n k
  rw [← hlen, List.take_length, hlen, show ((0 : Nat) : Int) = 0 from rfl] at cP
  rw [hL, hW] at cP
  clear hL hW hlen bP hix fa fl hk hg HP
  generalize w2.alloc (.cells (PlD.cs ⟨a, k, none, 0, 0⟩) 37) = w3 at *
  go_upto_region 3 with ((go_at_call 51; (with_reducible refine cP.mono ?_); rintro e4 w4 ⟨rfl, B, d, HS⟩))
  have hX : PlD.ok ⟨a, (k : Int), B, L, d⟩ := ha
  have hx4 := HS.x
  have hz4 := hz.below HS.b
  have hzs : zc.size = (PlD.cs ⟨a, (k : Int), B, L, d⟩).size := by rw [hzc, PlD.size hX]
  have hsz := HSZ.out
  have hI := HS.o
  have hlt1 : w.heap.size + 1 < w2.heap.size + 1 := by omega
  have hb4 := hb.trans (HS.b.mono (by omega))
  clear HSZ HS cP hl fl3 h2 hsz
  go_wp2_with (first
    | (with_reducible refine wpList_load_plx (by with_unfolding_all rfl) _ rfl _ rfl hx4 hX ?_)
    | ((with_reducible refine wpList_store_blk rfl 37 _ _ rfl (w.heap.size + 1) zc (PlD.cs ⟨a, (k : Int), B, L, d⟩) 37 hz4 rfl rfl (Pl_info _ hX) hzs (PlD.one _) ?_); intro w9 hB9 hg9))
  refine bodyPost_ret (ret_plM rfl _ _ _ _ hX rfl hB9) rfl ⟨B, d, rfl, own_base (hI.kept_ hg9 hlt1) (by omega), below_gM hb4 hg9 (by omega)⟩
theorem placed_any (A : Option Addr) (n c : Nat) (l : List (List UInt8)) (k : Nat) (a : List UInt8) (hk : l[k]? = some a) (w : World) (h : RowC w A n c l) :
    Calls Try.prog 48 #[.slice A n c, .int .i64 k] w fun e w' => ∃ B d, e = .returned (.agg (PlD.cs ⟨a, k, B, (partsL 0 n k).length, d⟩)) ∧ IdOw w' w.heap.size (.slice B (partsL 0 n k).length d) (partsL 0 n k).length (wayL l n k) ∧ Below w.heap.size w w' :=
  placed_gen A n c l k a hk _ rfl _ rfl w h
end Go.Proofs.Ytkbokffonnjjiaa

namespace Go.Proofs.Ytkbokffonnjjiaa
open Go.RowKit Go.Qc Go.Shelf
attribute [local go_sem] txt_size txt_append ib_fold
theorem steps_rising : ∀ (l : List (List UInt8)), Steps l l.length → Rising l
  | [], _ => List.Pairwise.nil
  | [x], _ => List.Pairwise.cons (fun _ h => by cases h) List.Pairwise.nil
  | x :: y :: l, h => by
    have h1 : Lt x y := by
      have := h 0 x y (by simp) rfl rfl
      unfold ltB at this
      have h9 := of_decide_eq_true this
      exact h9
    have h2 := steps_rising (y :: l) (fun i a b hi ha hb => h (i + 1) a b (by simp only [List.length_cons] at hi ⊢; omega) (by simpa using ha) (by simpa using hb))
    refine List.Pairwise.cons (fun z hz => ?_) h2
    rcases List.mem_cons.1 hz with rfl | hz
    · exact h1
    · exact h1.tr (List.rel_of_pairwise_cons h2 hz)
theorem own_idpl {W W' : World} {b1 b2 n m : Nat} {v u : Value} {xs : List (List UInt8)} {ys : List PlD} (h : IdOw W b1 v n xs) (hw : PlOw W b2 u m ys) (hg : W.grownBy W' u.ownBlock) : IdOw W' b1 v n xs := by
  refine World.ownsRow.kept h hg ?_
  rcases h.2 with ⟨rfl, _⟩ | ⟨g, cap, cur, rfl, _, hb, _⟩
  · exact .inl rfl
  · right
    rcases hw.2 with ⟨rfl, _⟩ | ⟨g2, cap2, cur2, rfl, _, hb2, _⟩
    · simp [Value.ownBlock]
    · intro e
      simp only [Value.ownBlock, Option.some.injEq] at e
      subst e
      rw [hb] at hb2
      injection hb2 with e
      injection e with _ e
      exact absurd e (by decide)
theorem own_idbx {W W' : World} {b1 n g : Nat} {t : TypeId} {cs : Array Value} {v : Value} {xs : List (List UInt8)} (h : IdOw W b1 v n xs) (hw : Blk W g t cs) (ht : t ≠ 24) (hg : W.grownBy W' (some g)) : IdOw W' b1 v n xs := by
  refine World.ownsRow.kept h hg ?_
  rcases h.2 with ⟨rfl, _⟩ | ⟨g1, cap, cur, rfl, _, hb, _⟩
  · exact .inl rfl
  · right
    intro e
    simp only [Value.ownBlock, Option.some.injEq] at e
    subst e
    have hb2 : W.heap[g1]? = some (.cells cs t (0, 0)) := hw
    rw [hb] at hb2
    injection hb2 with e
    injection e with _ e
    exact absurd e.symm ht
/-- A place is told: its id, its number, its way. -/
structure PlOk (W : World) (b : Nat) (l : List (List UInt8)) (n k : Nat) (X : PlD) : Prop where
  fi : l[k]? = some X.a
  ft : X.t = (k : Int)
  fn : X.n = (partsL 0 n k).length
  fw : IdOw W b (.slice X.A X.n X.c) X.n (wayL l n k)
  fo : X.ok
theorem PlOk.below {W W' : World} {b : Nat} {l : List (List UInt8)} {n k : Nat} {X : PlD} (h : PlOk W b l n k X) (hb : Below W.heap.size W W') : PlOk W' b l n k X := ⟨h.fi, h.ft, h.fn, own_below h.fw hb, h.fo⟩
/-- Places under way: their box, their own row. -/
structure PvS (w0 : World) (gp base : Nat) (l : List (List UInt8)) (n f : Nat) (B : Option Addr) (i d : Nat) (u : Value) (Xs : List PlD) (W : World) : Prop where
  x : Blk W gp 28 #[.int .i64 (n : Int), .slice B i d]
  o : PlOw W base u Xs.length Xs
  r : ∀ j X, Xs[j]? = some X → PlOk W w0.heap.size l n (f + j) X
  b : Below w0.heap.size w0 W
  n2 : w0.heap.size ≤ gp
  n4 : gp < base
  n6 : base ≤ W.heap.size
section
variable {w0 : World} {gp base : Nat} {l : List (List UInt8)} {n f : Nat} {B B' : Option Addr} {i i' d d' : Nat} {u u' : Value} {Xs : List PlD} {X : PlD} {W W' : World}
theorem PvS.below (h : PvS w0 gp base l n f B i d u Xs W) (hb : Below W.heap.size W W') : PvS w0 gp base l n f B i d u Xs W' :=
  ⟨h.x.below hb, own_below h.o hb, fun j X hj => (h.r j X hj).below hb, h.b.trans (hb.mono h.b.size), h.n2, h.n4, Nat.le_trans h.n6 hb.size⟩
theorem PvS.app (h : PvS w0 gp base l n f B i d u Xs W) (hX : PlOk W w0.heap.size l n (f + Xs.length) X) (ho : PlOw W' base u' (Xs.length + 1) (Xs ++ [X])) (hg : W.grownBy W' u.ownBlock) : PvS w0 gp base l n f B i d u' (Xs ++ [X]) W' := by
  have h1 := h.n2
  have h3 := h.n4
  have keep : ∀ k Y, PlOk W w0.heap.size l n k Y → PlOk W' w0.heap.size l n k Y := fun k Y hY => ⟨hY.fi, hY.ft, hY.fn, own_idpl hY.fw h.o hg, hY.fo⟩
  refine ⟨(hg.block gp h.x.lt (fun hk => by have := (World.ownsRow.lt h.o gp hk.symm).1; omega)).trans h.x, by rw [List.length_append]; exact ho, fun j Y hj => ?_, h.o.grown hg (by omega) h.b h.b.size, h.n2, h.n4, Nat.le_trans h.n6 hg.size⟩
  rcases Nat.lt_or_ge j Xs.length with e | e
  · rw [List.getElem?_append_left e] at hj
    exact keep _ _ (h.r j Y hj)
  · rw [List.getElem?_append_right e] at hj
    have hj0 : j - Xs.length = 0 := by have := (List.getElem?_eq_some_iff.1 hj).1; simp at this; omega
    rw [hj0] at hj
    obtain rfl : X = Y := by simpa using hj
    obtain rfl : j = Xs.length := by omega
    exact keep _ _ hX
theorem PvS.put (h : PvS w0 gp base l n f B i d u Xs W) (hx : Blk W' gp 28 #[.int .i64 (n : Int), .slice B' i' d']) (hg : W.grownBy W' (some gp)) : PvS w0 gp base l n f B' i' d' u Xs W' :=
  ⟨hx, World.ownsRow.kept h.o hg (by
    by_cases hu : u.ownBlock = none
    · exact .inl hu
    · right
      intro e
      have := (World.ownsRow.lt h.o gp e).1
      have := h.n4
      omega), fun j Y hj => ⟨(h.r j Y hj).fi, (h.r j Y hj).ft, (h.r j Y hj).fn, own_idbx (h.r j Y hj).fw h.x (by decide) hg, (h.r j Y hj).fo⟩, below_gM h.b hg h.n2, h.n2, h.n4, Nat.le_trans h.n6 hg.size⟩
theorem PvS.c1 (h : PvS w0 gp base l n f B i d u Xs W) : W.cell? ⟨gp, 1, none⟩ = some (.slice B i d) := h.x.cell_ rfl
theorem PvS.ok (h : PvS w0 gp base l n f B i d u Xs W) : ∀ X ∈ Xs, X.ok := fun X hX => by
  obtain ⟨j, hj⟩ := List.getElem?_of_mem hX
  exact (h.r j X hj).fo
end
theorem PvS.fin {w0 : World} {gp base : Nat} {l : List (List UInt8)} {n f : Nat} {B : Option Addr} {i d : Nat} {u : Value} {Xs : List PlD} {W W' : World} (h : PvS w0 gp base l n f B i d u Xs W) {gr : Nat} {cs : Array Value} (hz : Blk W gr 28 cs) (hg : W.grownBy W' (some gr)) (hlt : gr < base) {b : Nat} (hb : b ≤ w0.heap.size) :
    PlOw W' b u Xs.length Xs ∧ ∀ j X, Xs[j]? = some X → PlOk W' b l n (f + j) X :=
  ⟨PlOw.le (World.ownsRow.kept h.o hg (by
    by_cases hu : u.ownBlock = none
    · exact .inl hu
    · right
      intro e
      have := (World.ownsRow.lt h.o gr e).1
      omega)) (by have := h.n2; have := h.n4; omega), fun j Y hj => ⟨(h.r j Y hj).fi, (h.r j Y hj).ft, (h.r j Y hj).fn, own_base (own_idbx (h.r j Y hj).fw hz (by decide) hg) hb, (h.r j Y hj).fo⟩⟩
theorem infoPlS : (Try.prog.info? 26).map (·.size) = some 1 := by kernel_rfl
theorem wp_store_pls {w : World} {o : Oper} {a : Act} {K : Act → World → Prop} {Q : Exit → Act → World → Prop} (x y : Operand) (ho : o.op = .store 26 x y)
    (g : Nat) (n : Int) (v0 : Value) (hg : Blk w g 28 #[.int .i64 n, v0]) (A : Option Addr) (m c : Nat) (hx : a.eval x = .pointer (some ⟨g, 1, none⟩)) (hy : a.eval y = .slice A m c)
    (h : ∀ w', Blk w' g 28 #[.int .i64 n, .slice A m c] → w.grownBy w' (some g) → K (a.put o.dst undef) w') : o.wp Try.prog a w K Q :=
  wp_store_cellM 26 x y ho g 1 _ _ hg (.slice A m c) hx hy infoPlS (by simp) rfl rfl fun w' hb hgr => h w' hb hgr
/-- What Prove answers of a row that rises. -/
def PvQ (l : List (List UInt8)) (n f m : Nat) (w : World) (e : Ending) (w' : World) : Prop :=
  ∃ B d, ∃ Xs : List PlD, e = .returned (.tuple #[.agg #[.int .i64 (n : Int), .slice B m d], .int .i64 0]) ∧ Xs.length = m ∧ PlOw w' w.heap.size (.slice B m d) m Xs ∧ (∀ j X, Xs[j]? = some X → PlOk w' w.heap.size l n (f + j) X) ∧ Below w.heap.size w w'
theorem infoPfS : (Try.prog.info? 28).map (·.size) = some 2 := by kernel_rfl
theorem ret_pfM {fn : Func} {p u : Tmp} (hf : fn.results = #[.cell p 28, .tmp u]) (tmps : Array Value) (w : World) (g : Nat) (x y : Value) (hp : tmps.getD p undef = .pointer (some ⟨g, 0, none⟩)) (hg : Blk w g 28 #[x, y]) :
    (results fn tmps).run Try.prog w = .ok (.tuple #[.agg #[x, y], tmps.getD u undef]) w := by
  have hl := run_loadVar_row (P := Try.prog) w g 28 28 #[x, y] (0, 0) _ hg Try.underlying28 rfl infoPfS
  rw [results_cell_tmp hf, hp]
  simp only [asAddr, Sem.run_pure, Result.andThen_ok, hl]
theorem pv_e1 {p n t : Nat} (h : t = min (p + 1) n) : min ((p : Int) + 1) (n : Int) = (t : Int) := by omega
theorem pv_q1 {p : Nat} (h : p ≤ 1000000) : wrap64 ((p : Int) + 1) = (p : Int) + 1 := by unfold wrap64; omega
theorem pv_q3 {p : Nat} (h : p ≤ 1000000) : wrap64 ((p : Int) - 1) = (p : Int) - 1 := by unfold wrap64; omega
theorem wpList_store_pf {w : World} {ops : Array Oper} {rest : List Oper} {o : Oper} {a : Act} {Q : Exit → Act → World → Prop} (hgd : o.guard = none) (x y : Operand) (ho : o.op = .store 28 x y)
    (g : Nat) (p q p' q' : Value) (hg : Blk w g 28 #[p', q']) (hx : a.eval x = .pointer (some ⟨g, 0, none⟩)) (hy : a.eval y = .agg #[p, q]) (h1 : (#[p, q] : Array Value).all (·.oneCell') = true)
    (h : ∀ w', Blk w' g 28 #[p, q] → w.grownBy w' (some g) → wpList Try.prog ops Q rest (a.put o.dst undef) w') : wpList Try.prog ops Q (o :: rest) a w :=
  wpList_store_blk hgd 28 x y ho g #[p', q'] #[p, q] 28 hg hx hy infoPfS rfl h1 h
theorem pv_meas2 {t k : Nat} (h : k < t) : t - ((k : Int) + 1).toNat < t - ((k : Int)).toNat := by omega
set_option maxRecDepth 100000 in
set_option maxHeartbeats 8000000 in
theorem prove_in (A : Option Addr) (n c : Nat) (l : List (List UInt8)) (a : List UInt8) (ha : a.length = 32) (w : World) (h : RowC w A n c l) (hs : Steps l n) (hm : a ∈ l) (f t m : Nat) (hp : Cuts l a f) (ht : t = f + 1) (hfm : f + m = t) :
    Calls Try.prog 10 #[.slice A n c, .agg (idVals a)] w (PvQ l n f m w) := by
  have hln := h.1.1
  have hn6 := h.1.2.1
  have hri : Rising l := steps_rising l (by rw [hln]; exact hs)
  have hpn : f ≤ n := by rw [← hln]; exact hp.1
  have htn : t ≤ n ∧ t = min (f + 1) n ∧ f ≤ t ∧ t ≤ f + 2 := by
    have : f < n := by
      rcases Nat.lt_or_ge f n with e | e
      · exact e
      · obtain rfl : f = l.length := by omega
        exact absurd hm (cut_end hp)
    omega
  have cI : ∀ W, RowC W A n c l → Calls Try.prog 45 #[.slice A n c] W fun e w' => e = .returned (.bool true) ∧ Below W.heap.size W w' := fun W hW => (rises_any A n c l W hW.1).mono (by
    rintro e w' ⟨v, rfl, ⟨t, rfl, ht⟩, hb⟩
    cases t
    · exact ⟨absurd (ht.2 hs) (by decide), hb⟩
    · exact ⟨rfl, hb⟩)
  have cC : ∀ W, RowC W A n c l → Calls Try.prog 46 #[.slice A n c, .agg (List.map u8v a).toArray] W fun e w' => e = .returned (.int .i64 (f : Int)) ∧ Below W.heap.size W w' := fun W hW => (id_place A n c l a ha hri W hW.1).mono (by
    rintro e w' ⟨q, rfl, hq, hb⟩
    obtain rfl : f = q := by
      rcases Nat.lt_trichotomy f q with e | e | e
      · obtain ⟨x, hx⟩ : ∃ x, l[f]? = some x := ⟨_, List.getElem?_eq_getElem (by have := hq.1; omega)⟩
        exact absurd (hq.2.1 f x e hx) (hp.2.2 f x (Nat.le_refl _) hx)
      · exact e
      · obtain ⟨x, hx⟩ : ∃ x, l[q]? = some x := ⟨_, List.getElem?_eq_getElem (by have := hp.1; omega)⟩
        exact absurd (hp.2.1 q x e hx) (hq.2.2 q x (Nat.le_refl _) hx)
    exact ⟨rfl, hb⟩)
  have cH : ∀ W, RowC W A n c l → Calls Try.prog 47 #[.slice A n c, .agg (List.map u8v a).toArray] W fun e w' => e = .returned (.bool true) ∧ Below W.heap.size W w' := fun W hW => by
    have := id_has A n c l a ha hri W hW.1
    rw [decide_eq_true hm] at this
    exact this
  have cP : ∀ (k : Nat) (a : List UInt8), l[k]? = some a → ∀ W, RowC W A n c l → Calls Try.prog 48 #[.slice A n c, .int .i64 (k : Int)] W fun e w' => ∃ B d, e = .returned (.agg (PlD.cs ⟨a, k, B, (partsL 0 n k).length, d⟩)) ∧ IdOw w' W.heap.size (.slice B (partsL 0 n k).length d) (partsL 0 n k).length (wayL l n k) ∧ Below W.heap.size W w' := fun k a hk W hW => placed_any A n c l k a hk W hW
  have hu := Try.underlying24
  have hza : (Try.prog.info? 24).map (·.size) = some (a.map u8v).length := by rw [List.length_map, ha]; exact sizeId
  have bP : ∀ W, (Instr.build 28 #[(0, .int .i64 (n : Int))]).run Try.prog W = .ok (.agg #[.int .i64 (n : Int), .slice none 0 0]) W := fun W => by kernel_rfl
  have e1 : min ((f : Int) + 1) (n : Int) = (t : Int) := pv_e1 htn.2.1
  have q1 := pv_q1 (Nat.le_trans hpn hn6)
  have q3 := pv_q3 (Nat.le_trans hpn hn6)
  have HTN := hid htn
  have HM := hid hfm
  have HLN := hid hln
  clear htn hfm hs hri hp hln hm ht hpn
  go_enter Try.func10, Try.ntmps10
  go_upto_region 1 with (fail)
  have hb := ((Below.refl w.heap.size w).alloc (Nat.le_refl _) (.cells (idVals a) 24)).alloc (by simp) (.cells #[.int .i64 0, .slice none 0 0] 28)
  have hz := Blk.new (w.alloc (.cells (idVals a) 24)) 28 #[.int .i64 0, .slice none 0 0]
  have hk1 : (w.alloc (.cells (idVals a) 24)).heap.size = w.heap.size + 1 := by simp
  have hbx := range_blk ((Blk.new w 24 (idVals a)).alloc (.cells #[.int .i64 0, .slice none 0 0] 28))
  rw [hk1] at hz
  have hrow := h.below hb
  generalize (w.alloc (.cells (idVals a) 24)).alloc (.cells #[.int .i64 0, .slice none 0 0] 28) = w1 at *
  go_upto_region 3 with (first
    | (go_at_call 45; (with_reducible refine (cI _ hrow).mono ?_); rintro e2 w2 ⟨rfl, hb2⟩; replace hz := hz.below hb2; replace hb := hb.trans (hb2.mono hb.size); replace hrow := hrow.below hb2; replace hbx := hbx.below hb2))
  go_upto_region 4 with (first
    | (with_reducible refine wpList_build_byM rfl _ _ rfl _ _ bP (by with_unfolding_all rfl) ?_))
  have hlt2 : w.heap.size + 1 < w2.heap.size := hz.lt
  have HS0 : Hid (PvS w2 w2.heap.size (w2.heap.size + 1) l n f none 0 0 (.slice none 0 0) [] (w2.alloc (.cells #[.int .i64 (n : Int), .slice none 0 0] 28))) := hid
    ⟨Blk.new _ _ _, ⟨rfl, .inl ⟨rfl, rfl⟩⟩, fun j X hj => by simp at hj, (Below.refl _ _).alloc (Nat.le_refl _) _, Nat.le_refl _, by omega, by simp⟩
  have HR := hid hrow
  have HZ := hid hz
  have HB := hid hb
  replace hbx := hbx.below ((Below.refl w2.heap.size w2).alloc (Nat.le_refl _) (.cells #[.int .i64 (n : Int), .slice none 0 0] 28))
  replace hrow := hrow.below ((Below.refl w2.heap.size w2).alloc (Nat.le_refl _) (.cells #[.int .i64 (n : Int), .slice none 0 0] 28))
  generalize w2.alloc (.cells #[.int .i64 (n : Int), .slice none 0 0] 28) = w3 at *
  go_upto_region 8 with (first
    | (with_reducible refine wpList_load_if (by with_unfolding_all rfl) 24 _ rfl _ _ rfl (a.map u8v) _ hbx hu rfl hza ?_)
    | (go_at_call 46; (with_reducible refine (cC _ hrow).mono ?_); rintro e4 w4 ⟨rfl, hb4⟩; replace HS0 := hid (HS0.out.below hb4); replace hrow := hrow.below hb4; replace hbx := hbx.below hb4)
    | (go_at_call 47; (with_reducible refine (cH _ hrow).mono ?_); rintro e5 w5 ⟨rfl, hb5⟩; replace HS0 := hid (HS0.out.below hb5)))
  clear cI cC cH hbx hrow hza hu bP hz hb e1 q1 q3
  have HPL := hid cP
  clear cP
  go_wp2_with (fail)
  go_loopw [9] (fun v wr => ∃ (k : Nat) (B : Option Addr) (d : Nat) (Xs : List PlD), k ≤ t ∧ v = .int .i64 (k : Int) ∧ Hid (k = f + Xs.length) ∧ Hid (PvS w2 w2.heap.size (w2.heap.size + 1) l n f B Xs.length d (.slice B Xs.length d) Xs wr)) (fun v _ => t - (intOf v).toNat)
  case atStart => exact ⟨f, none, 0, [], HTN.out.2.2.1, rfl, hid rfl, HS0⟩
  case round =>
    clear HS0
    obtain ⟨k, B, d, Xs, hk, rfl, HK, HS⟩ := hrel
    by_cases hlt : k < t
    · obtain ⟨a9, ha9⟩ : ∃ x, l[k]? = some x := ⟨_, List.getElem?_eq_getElem (by have := HTN.out.1; have := HLN.out; omega)⟩
      have hl9 : a9.length = 32 := HR.out.1.2.2.1 a9 (List.mem_of_getElem? ha9)
      have HG := hid ha9
      have hkn : k < 1000000 := by have := HTN.out.1; omega
      have cP := HPL.out k a9 ha9
      have z1 : (k : Int) < (t : Int) := by omega
      have q9 := pv_q1 (Nat.le_of_lt hkn)
      have HLIM := hid (show Xs.length + 1 ≤ 1000 by have := HK.out; have := HTN.out; omega)
      have HLT := hid hlt
      obtain ⟨Lk, hLk⟩ : ∃ L, (partsL 0 n k).length = L := ⟨_, rfl⟩
      obtain ⟨Wk, hWk⟩ : ∃ L, wayL l n k = L := ⟨_, rfl⟩
      rw [hLk, hWk] at cP
      have HLk := hid hLk
      have HWk := hid hWk
      replace ha9 := hl9
      clear hLk hWk hl9 hlt hkn hk
      go_wp2_with (fail)
      have HSd := hid (HS.out.below (below_drew1 wr))
      clear HS
      refine wp_region_held_drew (S := fun _ => True) (by kernel_rfl) ?_ (fun hHeld => ?_)
      · trivial
      refine' wpAnyH_take (i := 0) (v := .pointer (some ⟨w2.heap.size, 1, none⟩)) rfl (by kernel_rfl) (by kernel_rfl) (by kernel_rfl) (fun _ _ _ h => h) (Or.inl ⟨by rfl, fun w' hw' => by go_simp⟩) hHeld ?_
      try simp only [Act.put, List.getElem_toArray, List.getElem_cons_succ, List.getElem_cons_zero, List.setIfInBounds_toArray, List.set_cons_zero, List.set_cons_succ]
      refine' wpAnyH_take (i := 2) (v := .slice A n c) rfl (by kernel_rfl) (by kernel_rfl) (by kernel_rfl) (fun _ _ _ h => h) (Or.inl ⟨by rfl, fun w' hw' => by go_simp⟩) hHeld ?_
      try simp only [Act.put, List.getElem_toArray, List.getElem_cons_succ, List.getElem_cons_zero, List.setIfInBounds_toArray, List.set_cons_zero, List.set_cons_succ]
      refine' wpAnyH_take (i := 3) (v := .int .i64 (k : Int)) rfl (by kernel_rfl) (by kernel_rfl) (by kernel_rfl) (fun _ _ _ h => h) (Or.inl ⟨by rfl, fun w' hw' => by go_simp⟩) hHeld ?_
      try simp only [Act.put, List.getElem_toArray, List.getElem_cons_succ, List.getElem_cons_zero, List.setIfInBounds_toArray, List.set_cons_zero, List.set_cons_succ]
      refine wpAnyH_ready (rs := [1, 4]) (by kernel_rfl) (by simp) ?_
      refine AllReadyH.cons rfl (fun K hK => ?_) (AllReadyH.cons rfl (fun K hK => ?_) AllReadyH.nil)
      · have fA := HSd.out.c1
        go_simp
        refine hK.out _ _ trivial (fun hHeld => ?_)
        clear hK K fA
        try simp only [Act.put, List.getElem_toArray, List.getElem_cons_succ, List.getElem_cons_zero, List.setIfInBounds_toArray, List.set_cons_zero, List.set_cons_succ]
        refine wpAnyH_ready (rs := [4]) (by kernel_rfl) (by simp) ?_
        refine AllReadyH.cons rfl (fun K hK => ?_) AllReadyH.nil
        go_simp
        have WB := HSd.out.b.size
        (with_reducible refine (cP _ (HR.out.below HSd.out.b)).mono ?_)
        rintro e6 w6 ⟨B6, d6, rfl, hI6, hb6⟩
        replace HSd := hid (HSd.out.below hb6)
        have HX := hid (show PlOk w6 w2.heap.size l n (f + Xs.length) ⟨a9, (k : Int), B6, Lk, d6⟩ from by rw [← HK.out]; exact ⟨HG.out, rfl, HLk.out.symm, own_base (by rw [← HWk.out] at hI6; exact hI6) WB, ha9⟩)
        clear hI6 hb6 WB
        refine hK.out _ _ trivial (fun hHeld => ?_)
        clear hK K
        try simp only [Act.put, List.getElem_toArray, List.getElem_cons_succ, List.getElem_cons_zero, List.setIfInBounds_toArray, List.set_cons_zero, List.set_cons_succ]
        refine wpAnyH_ready (rs := [5]) (by kernel_rfl) (by simp) ?_
        refine AllReadyH.cons rfl (fun K hK => ?_) AllReadyH.nil
        refine wp_build1p _ rfl _ HX.out.fo rfl ?_
        intro cs hrow
        replace HSd := hid (HSd.out.below ((Below.refl w6.heap.size w6).alloc (Nat.le_refl _) (.cells cs 37)))
        replace HX := hid (HX.out.below ((Below.refl w6.heap.size w6).alloc (Nat.le_refl _) (.cells cs 37)))
        refine hK.out _ _ trivial (fun hHeld => ?_)
        clear hK K
        try simp only [Act.put, List.getElem_toArray, List.getElem_cons_succ, List.getElem_cons_zero, List.setIfInBounds_toArray, List.set_cons_zero, List.set_cons_succ]
        refine wpAnyH_ready (rs := [6]) (by kernel_rfl) (by simp) ?_
        refine AllReadyH.cons rfl (fun K hK => ?_) AllReadyH.nil
        have hb9 := HSd.out.n6
        refine wp_append_pl _ _ rfl (w2.heap.size + 1) _ _ Xs rfl HSd.out.o _ 1 1 [_] rfl rfl (fun h => by cases h) hrow (HLIM.out) hb9 ?_
        intro v' w' hown' hg'
        replace HSd := hid (HSd.out.app HX.out hown' hg')
        rcases hown'.2 with ⟨rfl, h0⟩ | ⟨g9, c9, cur9, rfl, _⟩
        · omega
        clear hown' hg' hrow HX
        refine hK.out _ _ trivial (fun hHeld => ?_)
        clear hK K hb9
        try simp only [Act.put, List.getElem_toArray, List.getElem_cons_succ, List.getElem_cons_zero, List.setIfInBounds_toArray, List.set_cons_zero, List.set_cons_succ]
        refine' wpAnyH_take (i := 7) (v := .pointer (some ⟨w2.heap.size, 1, none⟩)) rfl (by kernel_rfl) (by kernel_rfl) (by kernel_rfl) (fun _ _ _ h => h) (Or.inl ⟨by rfl, fun w' hw' => by go_simp⟩) hHeld ?_
        try simp only [Act.put, List.getElem_toArray, List.getElem_cons_succ, List.getElem_cons_zero, List.setIfInBounds_toArray, List.set_cons_zero, List.set_cons_succ]
        refine wpAnyH_ready (rs := [8]) (by kernel_rfl) (by simp) ?_
        refine AllReadyH.cons rfl (fun K hK => ?_) AllReadyH.nil
        refine wp_store_pls _ _ rfl w2.heap.size _ _ HSd.out.x (some ⟨g9, 0, none⟩) (Xs.length + 1) c9 rfl rfl ?_
        intro w10 ho10 hg10
        replace HSd := hid (HSd.out.put ho10 hg10)
        refine hK.out _ _ trivial (fun hHeld => ?_)
        clear hK K ho10 hg10
        try simp only [Act.put, List.getElem_toArray, List.getElem_cons_succ, List.getElem_cons_zero, List.setIfInBounds_toArray, List.set_cons_zero, List.set_cons_succ]
        refine wpAnyH_done (by kernel_rfl) ?_ _
        go_wp2_with (fail)
        have e9 : (Xs ++ [(⟨a9, (k : Int), B6, Lk, d6⟩ : PlD)]).length = Xs.length + 1 := by rw [List.length_append]; rfl
        go_roundw
        case rel => exact ⟨k + 1, some ⟨g9, 0, none⟩, c9, Xs ++ [⟨a9, (k : Int), B6, Lk, d6⟩], HLT.out, by go_num, hid (by rw [e9, HK.out]; rfl), hid (by rw [e9]; exact HSd.out)⟩
        case measure => rw [q9]; exact pv_meas2 HLT.out
      · go_simp
        have WB := HSd.out.b.size
        (with_reducible refine (cP _ (HR.out.below HSd.out.b)).mono ?_)
        rintro e6 w6 ⟨B6, d6, rfl, hI6, hb6⟩
        replace HSd := hid (HSd.out.below hb6)
        have HX := hid (show PlOk w6 w2.heap.size l n (f + Xs.length) ⟨a9, (k : Int), B6, Lk, d6⟩ from by rw [← HK.out]; exact ⟨HG.out, rfl, HLk.out.symm, own_base (by rw [← HWk.out] at hI6; exact hI6) WB, ha9⟩)
        clear hI6 hb6 WB
        refine hK.out _ _ trivial (fun hHeld => ?_)
        clear hK K
        try simp only [Act.put, List.getElem_toArray, List.getElem_cons_succ, List.getElem_cons_zero, List.setIfInBounds_toArray, List.set_cons_zero, List.set_cons_succ]
        refine wpAnyH_ready (rs := [1, 5]) (by kernel_rfl) (by simp) ?_
        refine AllReadyH.cons rfl (fun K hK => ?_) (AllReadyH.cons rfl (fun K hK => ?_) AllReadyH.nil)
        · have fA := HSd.out.c1
          go_simp
          refine hK.out _ _ trivial (fun hHeld => ?_)
          clear hK K fA
          try simp only [Act.put, List.getElem_toArray, List.getElem_cons_succ, List.getElem_cons_zero, List.setIfInBounds_toArray, List.set_cons_zero, List.set_cons_succ]
          refine wpAnyH_ready (rs := [5]) (by kernel_rfl) (by simp) ?_
          refine AllReadyH.cons rfl (fun K hK => ?_) AllReadyH.nil
          refine wp_build1p _ rfl _ HX.out.fo rfl ?_
          intro cs hrow
          replace HSd := hid (HSd.out.below ((Below.refl w6.heap.size w6).alloc (Nat.le_refl _) (.cells cs 37)))
          replace HX := hid (HX.out.below ((Below.refl w6.heap.size w6).alloc (Nat.le_refl _) (.cells cs 37)))
          refine hK.out _ _ trivial (fun hHeld => ?_)
          clear hK K
          try simp only [Act.put, List.getElem_toArray, List.getElem_cons_succ, List.getElem_cons_zero, List.setIfInBounds_toArray, List.set_cons_zero, List.set_cons_succ]
          refine wpAnyH_ready (rs := [6]) (by kernel_rfl) (by simp) ?_
          refine AllReadyH.cons rfl (fun K hK => ?_) AllReadyH.nil
          have hb9 := HSd.out.n6
          refine wp_append_pl _ _ rfl (w2.heap.size + 1) _ _ Xs rfl HSd.out.o _ 1 1 [_] rfl rfl (fun h => by cases h) hrow (HLIM.out) hb9 ?_
          intro v' w' hown' hg'
          replace HSd := hid (HSd.out.app HX.out hown' hg')
          rcases hown'.2 with ⟨rfl, h0⟩ | ⟨g9, c9, cur9, rfl, _⟩
          · omega
          clear hown' hg' hrow HX
          refine hK.out _ _ trivial (fun hHeld => ?_)
          clear hK K hb9
          try simp only [Act.put, List.getElem_toArray, List.getElem_cons_succ, List.getElem_cons_zero, List.setIfInBounds_toArray, List.set_cons_zero, List.set_cons_succ]
          refine' wpAnyH_take (i := 7) (v := .pointer (some ⟨w2.heap.size, 1, none⟩)) rfl (by kernel_rfl) (by kernel_rfl) (by kernel_rfl) (fun _ _ _ h => h) (Or.inl ⟨by rfl, fun w' hw' => by go_simp⟩) hHeld ?_
          try simp only [Act.put, List.getElem_toArray, List.getElem_cons_succ, List.getElem_cons_zero, List.setIfInBounds_toArray, List.set_cons_zero, List.set_cons_succ]
          refine wpAnyH_ready (rs := [8]) (by kernel_rfl) (by simp) ?_
          refine AllReadyH.cons rfl (fun K hK => ?_) AllReadyH.nil
          refine wp_store_pls _ _ rfl w2.heap.size _ _ HSd.out.x (some ⟨g9, 0, none⟩) (Xs.length + 1) c9 rfl rfl ?_
          intro w10 ho10 hg10
          replace HSd := hid (HSd.out.put ho10 hg10)
          refine hK.out _ _ trivial (fun hHeld => ?_)
          clear hK K ho10 hg10
          try simp only [Act.put, List.getElem_toArray, List.getElem_cons_succ, List.getElem_cons_zero, List.setIfInBounds_toArray, List.set_cons_zero, List.set_cons_succ]
          refine wpAnyH_done (by kernel_rfl) ?_ _
          go_wp2_with (fail)
          have e9 : (Xs ++ [(⟨a9, (k : Int), B6, Lk, d6⟩ : PlD)]).length = Xs.length + 1 := by rw [List.length_append]; rfl
          go_roundw
          case rel => exact ⟨k + 1, some ⟨g9, 0, none⟩, c9, Xs ++ [⟨a9, (k : Int), B6, Lk, d6⟩], HLT.out, by go_num, hid (by rw [e9, HK.out]; rfl), hid (by rw [e9]; exact HSd.out)⟩
          case measure => rw [q9]; exact pv_meas2 HLT.out
        · refine wp_build1p _ rfl _ HX.out.fo rfl ?_
          intro cs hrow
          replace HSd := hid (HSd.out.below ((Below.refl w6.heap.size w6).alloc (Nat.le_refl _) (.cells cs 37)))
          replace HX := hid (HX.out.below ((Below.refl w6.heap.size w6).alloc (Nat.le_refl _) (.cells cs 37)))
          refine hK.out _ _ trivial (fun hHeld => ?_)
          clear hK K
          try simp only [Act.put, List.getElem_toArray, List.getElem_cons_succ, List.getElem_cons_zero, List.setIfInBounds_toArray, List.set_cons_zero, List.set_cons_succ]
          generalize w6.alloc (.cells cs 37) = w9 at *
          refine wpAnyH_ready (rs := [1]) (by kernel_rfl) (by simp) ?_
          refine AllReadyH.cons rfl (fun K hK => ?_) AllReadyH.nil
          have fA := HSd.out.c1
          go_simp
          refine hK.out _ _ trivial (fun hHeld => ?_)
          clear hK K fA
          try simp only [Act.put, List.getElem_toArray, List.getElem_cons_succ, List.getElem_cons_zero, List.setIfInBounds_toArray, List.set_cons_zero, List.set_cons_succ]
          refine wpAnyH_ready (rs := [6]) (by kernel_rfl) (by simp) ?_
          refine AllReadyH.cons rfl (fun K hK => ?_) AllReadyH.nil
          have hb9 := HSd.out.n6
          refine wp_append_pl _ _ rfl (w2.heap.size + 1) _ _ Xs rfl HSd.out.o _ 1 1 [_] rfl rfl (fun h => by cases h) hrow (HLIM.out) hb9 ?_
          intro v' w' hown' hg'
          replace HSd := hid (HSd.out.app HX.out hown' hg')
          rcases hown'.2 with ⟨rfl, h0⟩ | ⟨g9, c9, cur9, rfl, _⟩
          · omega
          clear hown' hg' hrow HX
          refine hK.out _ _ trivial (fun hHeld => ?_)
          clear hK K hb9
          try simp only [Act.put, List.getElem_toArray, List.getElem_cons_succ, List.getElem_cons_zero, List.setIfInBounds_toArray, List.set_cons_zero, List.set_cons_succ]
          refine' wpAnyH_take (i := 7) (v := .pointer (some ⟨w2.heap.size, 1, none⟩)) rfl (by kernel_rfl) (by kernel_rfl) (by kernel_rfl) (fun _ _ _ h => h) (Or.inl ⟨by rfl, fun w' hw' => by go_simp⟩) hHeld ?_
          try simp only [Act.put, List.getElem_toArray, List.getElem_cons_succ, List.getElem_cons_zero, List.setIfInBounds_toArray, List.set_cons_zero, List.set_cons_succ]
          refine wpAnyH_ready (rs := [8]) (by kernel_rfl) (by simp) ?_
          refine AllReadyH.cons rfl (fun K hK => ?_) AllReadyH.nil
          refine wp_store_pls _ _ rfl w2.heap.size _ _ HSd.out.x (some ⟨g9, 0, none⟩) (Xs.length + 1) c9 rfl rfl ?_
          intro w10 ho10 hg10
          replace HSd := hid (HSd.out.put ho10 hg10)
          refine hK.out _ _ trivial (fun hHeld => ?_)
          clear hK K ho10 hg10
          try simp only [Act.put, List.getElem_toArray, List.getElem_cons_succ, List.getElem_cons_zero, List.setIfInBounds_toArray, List.set_cons_zero, List.set_cons_succ]
          refine wpAnyH_done (by kernel_rfl) ?_ _
          go_wp2_with (fail)
          have e9 : (Xs ++ [(⟨a9, (k : Int), B6, Lk, d6⟩ : PlD)]).length = Xs.length + 1 := by rw [List.length_append]; rfl
          go_roundw
          case rel => exact ⟨k + 1, some ⟨g9, 0, none⟩, c9, Xs ++ [⟨a9, (k : Int), B6, Lk, d6⟩], HLT.out, by go_num, hid (by rw [e9, HK.out]; rfl), hid (by rw [e9]; exact HSd.out)⟩
          case measure => rw [q9]; exact pv_meas2 HLT.out
    · obtain rfl : k = t := by omega
      have z1 : ¬ (k : Int) < (k : Int) := by omega
      have f0 : wr.cell? ⟨w2.heap.size, 0, none⟩ = some (.int .i64 (n : Int)) := HS.out.x.cell_ rfl
      have f1 := HS.out.c1
      have hz9 := HZ.out.below HS.out.b
      have h1P : (#[Value.int .i64 (n : Int), .slice B Xs.length d] : Array Value).all (·.oneCell') = true := by simp [Value.oneCell']
      have hLx : Xs.length = m := by have := HM.out; have := HK.out; omega
      have HLx := hid hLx
      have hb9 := HB.out.trans (HS.out.b.mono HB.out.size)
      have hls := HB.out.size
      have hlw := hlt2
      have HQ := HS
      rw [hLx] at f1 h1P
      clear HS HTN HM HK hLx
      go_wp2_with (first
        | ((with_reducible refine wpList_store_pf rfl _ _ rfl (w.heap.size + 1) _ _ _ _ hz9 rfl rfl h1P ?_); intro w9 hB9 hg9))
      have hq := HQ.out.fin hz9 hg9 (by omega) (b := w.heap.size) (by omega)
      rw [HLx.out] at hq
      refine bodyPost_ret (ret_pfM rfl _ _ _ _ _ rfl hB9) rfl ⟨B, d, Xs, rfl, HLx.out, hq.1, hq.2, below_gM hb9 hg9 (by omega)⟩
end Go.Proofs.Ytkbokffonnjjiaa

namespace Go.Proofs.Ytkbokffonnjjiaa
open Go.RowKit Go.Qc Go.Shelf
attribute [local go_sem] txt_size txt_append ib_fold
theorem wpList_build3 {w : World} {ops : Array Oper} {rest : List Oper} {o : Oper} {a : Act} {Q : Exit → Act → World → Prop} (hgd : o.guard = none) (x y z : Operand) (ho : o.op = .buildSlice 22 3 #[(0, x), (1, y), (2, z)])
    (X Y Z : List UInt8) (lx : X.length = 32) (ly : Y.length = 32) (lz : Z.length = 32) (hx : a.eval x = .agg (idVals X)) (hy : a.eval y = .agg (idVals Y)) (hz9 : a.eval z = .agg (idVals Z))
    (h : ∀ cs, RowC (w.alloc (.cells cs 24)) (some ⟨w.heap.size, 0, none⟩) 3 3 [X, Y, Z] → wpList Try.prog ops Q rest (a.put o.dst (.slice (some ⟨w.heap.size, 0, none⟩) 3 3)) (w.alloc (.cells cs 24))) :
    wpList Try.prog ops Q (o :: rest) a w := by
  obtain ⟨j0, hj, hjz, hjs, hjb⟩ := infoId2_parts
  obtain ⟨zs, hzs⟩ : ∃ zs : Array Value, zs = (Array.range (3 * j0.size)).map ((Value.agg (idVals zeroB)).cells[· % (Value.agg (idVals zeroB)).cells.size]!) := ⟨_, rfl⟩
  have hz : zs.size = 96 := by rw [hzs, hjs]; simp
  obtain ⟨s1, g1⟩ := put_get_arr 0 X zs (by rw [hz, lx]; decide)
  generalize hc1 : (idVals X).zipIdx.foldl (fun cs (c, j) => cs.setIfInBounds (0 + j) c) zs = c1 at s1 g1
  obtain ⟨s2, g2⟩ := put_get_arr 32 Y c1 (by rw [s1, hz, ly]; decide)
  generalize hc2 : (idVals Y).zipIdx.foldl (fun cs (c, j) => cs.setIfInBounds (32 + j) c) c1 = c2 at s2 g2
  obtain ⟨s3, g3⟩ := put_get_arr 64 Z c2 (by rw [s2, s1, hz, lz]; decide)
  generalize hc3 : (idVals Z).zipIdx.foldl (fun cs (c, j) => cs.setIfInBounds (64 + j) c) c2 = c3 at s3 g3
  refine wpList_buildSlice hgd 22 24 3 #[(0, x), (1, y), (2, z)] ho c3 j0 (.agg (idVals zeroB)) Try.underlying22 hj hjz (by rw [hjs]; decide) (by rw [hjs]; decide) ?_
    (h c3 ⟨⟨rfl, by decide, fun u hu => by simp only [List.mem_cons, List.not_mem_nil, or_false] at hu; rcases hu with rfl | rfl | rfl <;> assumption, .inr ⟨w.heap.size, 0, rfl, ?_⟩⟩, .inr ⟨⟨_, rfl⟩, by decide, by decide⟩⟩)
  · rw [← hzs, hjs]
    have e1 : (Value.agg (idVals X)).cells = idVals X := rfl
    have e2 : (Value.agg (idVals Y)).cells = idVals Y := rfl
    have e3 : (Value.agg (idVals Z)).cells = idVals Z := rfl
    simp only [List.map_toArray, List.map_cons, List.map_nil, hx, hy, hz9, Instr.fill, e1, e2, e3, idVals_size, lx, ly, lz, hz]
    rw [if_neg (by decide)]
    simp only [Nat.zero_mul, Nat.one_mul, Nat.reduceMul]
    rw [hc1, s1, hz, if_neg (by decide), hc2, s2, s1, hz, if_neg (by decide), hc3]
  · intro j u hj'
    have hj2 : (X.map u8v ++ (Y.map u8v ++ Z.map u8v))[j]? = some u := by simpa [idsV] using hj'
    have hlt : j < 96 := by have := (List.getElem?_eq_some_iff.1 hj2).1; simp [lx, ly, lz] at this; omega
    rw [cell_of_row _ _ _ _ _ _ (heap_alloc_new w _), Nat.zero_add, g3, lz]
    by_cases c : 64 ≤ j
    · rw [if_pos (by omega), ← hj2, List.getElem?_append_right (by rw [List.length_map, lx]; omega), List.length_map, lx, List.getElem?_append_right (by rw [List.length_map, ly]; omega), List.length_map, ly, Nat.sub_sub]
    · rw [if_neg (by omega), g2, ly]
      by_cases c5 : 32 ≤ j
      · rw [if_pos (by omega), ← hj2, List.getElem?_append_right (by rw [List.length_map, lx]; omega), List.length_map, lx, List.getElem?_append_left (by rw [List.length_map, ly]; omega)]
      · rw [if_neg (by omega), g1, lx, if_pos (by omega), ← hj2, List.getElem?_append_left (by rw [List.length_map, lx]; omega), Nat.sub_zero]
theorem half_3 : halfM 3 = 2 := by unfold halfM; rw [halfW_step (by decide) (by decide), halfW_stop (by decide)]
theorem half_2 : halfM 2 = 1 := by unfold halfM; rw [halfW_stop (by decide)]
theorem parts_32 : (partsL 0 3 2).length = 1 := by
  rw [partsL_high (by decide) (by rw [half_3]; decide), half_3, partsL_end _ (by decide)]
  rfl
theorem parts_30 : (partsL 0 3 0).length = 2 := by
  rw [partsL_low (by decide) (by rw [half_3]; decide), half_3, partsL_low (by decide) (by rw [half_2]; decide), half_2, partsL_end _ (by decide)]
  rfl
def L123 : List (List UInt8) := [idN 1, idN 2, idN 3]
theorem steps_123 : Steps L123 3 := fun i x y hi hx hy => by
  rcases (show i = 0 ∨ i = 1 by omega) with rfl | rfl
  · cases hx; cases hy; decide
  · cases hx; cases hy; decide
theorem cuts_123_3 : Cuts L123 (idN 3) 2 := ⟨by decide, fun k x hk hx => by
  rcases (show k = 0 ∨ k = 1 by omega) with rfl | rfl
  · cases hx; show Lib.compareBytes _ _ < 0; decide
  · cases hx; show Lib.compareBytes _ _ < 0; decide, fun k x hk hx => by
  have h3 : k < 3 := (List.getElem?_eq_some_iff.1 hx).1
  obtain rfl : k = 2 := by omega
  cases hx; show ¬ Lib.compareBytes _ _ < 0; decide⟩
theorem cuts_123_1 : Cuts L123 (idN 1) 0 := ⟨by decide, fun k x hk hx => by omega, fun k x hk hx => by
  have h3 : k < 3 := (List.getElem?_eq_some_iff.1 hx).1
  rcases (show k = 0 ∨ k = 1 ∨ k = 2 by omega) with rfl | rfl | rfl
  · cases hx; show ¬ Lib.compareBytes _ _ < 0; decide
  · cases hx; show ¬ Lib.compareBytes _ _ < 0; decide
  · cases hx; show ¬ Lib.compareBytes _ _ < 0; decide⟩
theorem cell_belM {w w' : World} {a : Addr} {v : Value} (hb : Below w.heap.size w w') (h : w.cell? a = some v) : w'.cell? a = some v := (hb.cell (World.block_lt_of_cell? w a h)).trans h
/-- One place, with a way so long, is told. -/
theorem pv_one {W : World} {b : Nat} {B : Option Addr} {d : Nat} {Xs : List PlD} {l : List (List UInt8)} {n f m : Nat} (hX : Xs.length = 1) (hO : PlOw W b (.slice B 1 d) 1 Xs) (hP : ∀ j X, Xs[j]? = some X → PlOk W b l n (f + j) X) (hm : (partsL 0 n f).length = m) :
    ∃ g q A c, (∀ W : World, (Instr.indexAt 26 (.slice B 1 d) (.int .i64 0)).run Try.prog W = .ok (.pointer (some ⟨g, q, none⟩)) W) ∧ W.cell? ⟨g, q + 33, none⟩ = some (.slice A m c) := by
  obtain ⟨X, rfl⟩ := List.length_eq_one_iff.1 hX
  have h0 : PlOk W b l n f X := hP 0 X rfl
  obtain ⟨A, c, e, _, _, _, hr⟩ := PlOw.rd hO (fun Y hY => by rw [List.mem_singleton.1 hY]; exact h0.fo)
  cases e
  obtain ⟨g, q, hg, hok, hix⟩ := hr.pick d (n := 1) rfl (k := 0) (X := X) rfl
  refine ⟨g, q, X.A, X.c, hix, ?_⟩
  have h3 := hg 33 (.slice X.A X.n X.c) (by rw [Array.getElem?_toList]; exact X.c33 hok)
  rw [h0.fn, hm] at h3
  exact h3
set_option maxRecDepth 100000 in
set_option maxHeartbeats 8000000 in
theorem awake21_any (w : World) : Calls Try.prog 9 #[] w fun e w' => e = .returned (.bool true) ∧ Below w.heap.size w w' := by
  have b1 : ∀ W, (Instr.build 24 #[(0, .int .u8 1)]).run Try.prog W = .ok (.agg (idVals (idN 1))) W := fun W => by kernel_rfl
  have b2 : ∀ W, (Instr.build 24 #[(0, .int .u8 2)]).run Try.prog W = .ok (.agg (idVals (idN 2))) W := fun W => by kernel_rfl
  have b3 : ∀ W, (Instr.build 24 #[(0, .int .u8 3)]).run Try.prog W = .ok (.agg (idVals (idN 3))) W := fun W => by kernel_rfl
  have l1 : (idN 1).length = 32 := by decide
  have l2 : (idN 2).length = 32 := by decide
  have l3 : (idN 3).length = 32 := by decide
  have c3 : ∀ W A c, RowC W A 3 c L123 → Calls Try.prog 10 #[.slice A 3 c, .agg (idVals (idN 3))] W (PvQ L123 3 2 1 W) := fun W A c hW => prove_in A 3 c L123 (idN 3) l3 W hW steps_123 (by decide) 2 3 1 cuts_123_3 rfl rfl
  have c1 : ∀ W A c, RowC W A 3 c L123 → Calls Try.prog 10 #[.slice A 3 c, .agg (idVals (idN 1))] W (PvQ L123 3 0 1 W) := fun W A c hW => prove_in A 3 c L123 (idN 1) l1 W hW steps_123 (by decide) 0 1 1 cuts_123_1 rfl rfl
  have hL : L123 = [idN 1, idN 2, idN 3] := rfl
  generalize L123 = L at *
  generalize idN 1 = i1 at *
  generalize idN 2 = i2 at *
  generalize idN 3 = i3 at *
  go_enter Try.func9, Try.ntmps9
  go_upto_region 2 with (first
    | (with_reducible refine wpList_build_byM rfl _ _ rfl _ _ b1 (by with_unfolding_all rfl) ?_)
    | (with_reducible refine wpList_build_byM rfl _ _ rfl _ _ b2 (by with_unfolding_all rfl) ?_)
    | (with_reducible refine wpList_build_byM rfl _ _ rfl _ _ b3 (by with_unfolding_all rfl) ?_)
    | (with_reducible refine wpList_build3 rfl _ _ _ rfl i1 i2 i3 l1 l2 l3 rfl rfl rfl ?_; intro cs hr))
  rw [← hL] at hr
  have hb := (Below.refl w.heap.size w).alloc (Nat.le_refl _) (.cells cs 24)
  generalize w.alloc (.cells cs 24) = w1 at *
  go_upto_region 3 with (first
    | (with_reducible refine wpList_build_byM rfl _ _ rfl _ _ b3 (by with_unfolding_all rfl) ?_)
    | (go_at_call 10; (with_reducible refine (c3 _ _ _ hr).mono ?_); rintro e2 w2 ⟨B2, d2, Xs, rfl, hX2, hO2, hP2, hb2⟩))
  obtain ⟨g2, q2, A2, e2, hi2, f2⟩ := pv_one hX2 hO2 hP2 parts_32
  replace hr := hr.below hb2
  replace hb := hb.trans (hb2.mono hb.size)
  have al2 := (Below.refl w2.heap.size w2).alloc (Nat.le_refl _) (.cells #[.int .i64 3, .slice B2 1 d2] 28)
  have hz2 := Blk.new w2 28 #[.int .i64 3, .slice B2 1 d2]
  replace hr := hr.below al2
  replace f2 := cell_belM al2 f2
  have fz2 : (w2.alloc (.cells #[.int .i64 3, .slice B2 1 d2] 28)).cell? ⟨w2.heap.size, 1, none⟩ = some (.slice B2 1 d2) := hz2.cell_ rfl
  have hb3 := hb.trans (al2.mono hb.size)
  obtain ⟨gz, hgz⟩ : ∃ gz, w2.heap.size = gz := ⟨_, rfl⟩
  rw [hgz] at fz2
  clear hO2 hP2 hX2 hb2 al2 hb hz2
  generalize w2.alloc (.cells #[.int .i64 3, .slice B2 1 d2] 28) = w3 at *
  rw [hgz]
  go_upto_region 4 with (first
    | (with_reducible refine wpList_build_byM rfl _ _ rfl _ _ b1 (by with_unfolding_all rfl) ?_)
    | (go_at_call 10; (with_reducible refine (c1 _ _ _ hr).mono ?_); rintro e4 w4 ⟨B4, d4, Ys, rfl, hX4, hO4, hP4, hb4⟩))
  obtain ⟨g4, q4, A4, e4, hi4, f4⟩ := pv_one hX4 hO4 hP4 parts_30
  have al4 := (Below.refl w4.heap.size w4).alloc (Nat.le_refl _) (.cells #[.int .i64 3, .slice B4 1 d4] 28)
  have hz4 := Blk.new w4 28 #[.int .i64 3, .slice B4 1 d4]
  have fz4 : (w4.alloc (.cells #[.int .i64 3, .slice B4 1 d4] 28)).cell? ⟨w4.heap.size, 1, none⟩ = some (.slice B4 1 d4) := hz4.cell_ rfl
  replace f2 := cell_belM al4 (cell_belM hb4 f2)
  replace fz2 := cell_belM al4 (cell_belM hb4 fz2)
  replace f4 := cell_belM al4 f4
  have hb5 := (hb3.trans (hb4.mono hb3.size)).trans (al4.mono (Nat.le_trans hb3.size hb4.size))
  obtain ⟨gy, hgy⟩ : ∃ gy, w4.heap.size = gy := ⟨_, rfl⟩
  rw [hgy] at fz4
  clear hO4 hP4 hX4 hb4 al4 hz4 hr
  generalize w4.alloc (.cells #[.int .i64 3, .slice B4 1 d4] 28) = w5 at *
  rw [hgy]
  clear hgy hgz
  go_wp2_with (fail)
  go_ret
  exact ⟨rfl, hb5⟩
end Go.Proofs.Ytkbokffonnjjiaa


/- grant: a grant as data, its cells, its box, rows of them. -/
import Derived.Test.YtplcfdmehnilnaaOpA
import Derived.Test.YtplcfdmehnilnaaPhA
import Derived.Deep.RegionHeld3
import Derived.Test.YtplcfdmehnilnaaBw3
import Derived.Test.YtplcfdmehnilnaaId7
set_option linter.unusedSimpArgs false
set_option linter.unusedVariables false
namespace Go.Proofs.Ytplcfdmehnilnaa
open Go.RowKit Go.Qc Go.Shelf
attribute [local go_sem] txt_size txt_append ib_fold txt_toL
/-- A grant as data. -/
structure GrD where
  p : List UInt8
  k : List UInt8
  b : List UInt8
  d : Int
def GrD.ok (X : GrD) : Prop := X.k.length = 32 ∧ X.b.length = 32
def GrD.cs (X : GrD) : Array Value := #[.string (txt X.p)] ++ idVals X.k ++ idVals X.b ++ #[.int .i64 X.d]
theorem GrD.size {X : GrD} (h : X.ok) : X.cs.size = 66 := by unfold GrD.cs; simp [idVals_size, h.1, h.2]
theorem GrD.one (X : GrD) : X.cs.all (·.oneCell') = true := by
  unfold GrD.cs
  rw [Array.all_append, Array.all_append, Array.all_append, idVals_one, idVals_one]
  simp [Value.oneCell']
theorem GrD.c0 (X : GrD) : X.cs[0]? = some (.string (txt X.p)) := by
  unfold GrD.cs
  rw [Array.append_assoc, Array.append_assoc, Array.getElem?_append_left (by simp)]
  rfl
theorem GrD.ckey (X : GrD) (j : Nat) (u : Value) (h : (X.k.map u8v)[j]? = some u) : X.cs[1 + j]? = some u := by
  have hj := (List.getElem?_eq_some_iff.1 h).1
  rw [List.length_map] at hj
  unfold GrD.cs
  rw [Array.append_assoc, Array.append_assoc, Array.getElem?_append_right (by simp), Array.getElem?_append_left (by simp [idVals_size]; omega)]
  simp only [List.size_toArray, List.length_singleton, Nat.add_sub_cancel_left]
  unfold idVals
  rw [List.getElem?_toArray]
  exact h
theorem GrD.cby {X : GrD} (hk : X.ok) (j : Nat) (u : Value) (h : (X.b.map u8v)[j]? = some u) : X.cs[33 + j]? = some u := by
  have hj := (List.getElem?_eq_some_iff.1 h).1
  rw [List.length_map] at hj
  unfold GrD.cs
  rw [Array.append_assoc, Array.getElem?_append_right (by simp [idVals_size, hk.1] <;> omega), Array.getElem?_append_left (by simp [idVals_size, hk.1] <;> omega)]
  simp only [Array.size_append, List.size_toArray, List.length_singleton, idVals_size, hk.1]
  rw [show 33 + j - (1 + 32) = j by omega]
  unfold idVals
  rw [List.getElem?_toArray]
  exact h
theorem GrD.c65 (X : GrD) (hk : X.ok) : X.cs[65]? = some (.int .i64 X.d) := by
  unfold GrD.cs
  rw [Array.getElem?_append_right (by simp [idVals_size, hk.1, hk.2])]
  simp [idVals_size, hk.1, hk.2]
def grsV (Xs : List GrD) : List Value := Xs.flatMap (fun X => X.cs.toList)
theorem grsV_cons (X : GrD) (Xs : List GrD) : grsV (X :: Xs) = X.cs.toList ++ grsV Xs := by simp [grsV]
theorem grsV_append (Xs Ys : List GrD) : grsV (Xs ++ Ys) = grsV Xs ++ grsV Ys := by simp [grsV]
theorem grsV_length : ∀ (Xs : List GrD), (∀ X ∈ Xs, X.ok) → (grsV Xs).length = Xs.length * 66
  | [], _ => rfl
  | X :: Xs, h => by
    rw [grsV_cons, List.length_append, Array.length_toList, GrD.size (h X (by simp)), grsV_length Xs (fun x hx => h x (by simp [hx])), List.length_cons]
    omega
theorem grsV_get : ∀ (Xs : List GrD) (k : Nat) (X : GrD) (j : Nat) (v : Value), (∀ X ∈ Xs, X.ok) → Xs[k]? = some X → X.cs.toList[j]? = some v → (grsV Xs)[k * 66 + j]? = some v
  | [], k, X, j, v, _, hk, _ => by simp at hk
  | Y :: Xs, 0, X, j, v, h, hk, hj => by
    simp at hk
    subst hk
    have hlt := (List.getElem?_eq_some_iff.1 hj).1
    rw [grsV_cons, Nat.zero_mul, Nat.zero_add, List.getElem?_append_left hlt]
    exact hj
  | Y :: Xs, k + 1, X, j, v, h, hk, hj => by
    have hb := GrD.size (h Y (by simp))
    rw [List.getElem?_cons_succ] at hk
    rw [grsV_cons, List.getElem?_append_right (by rw [Array.length_toList, hb]; omega), Array.length_toList, hb, show (k + 1) * 66 + j - 66 = k * 66 + j by omega]
    exact grsV_get Xs k X j v (fun x hx => h x (by simp [hx])) hk hj
theorem grsV_one (Xs : List GrD) : ∀ u ∈ grsV Xs, u.oneCell' = true := by
  intro u hu
  simp only [grsV, List.mem_flatMap] at hu
  obtain ⟨X, _, hu⟩ := hu
  exact (Array.all_eq_true_iff_forall_mem.1 X.one) u (by simpa using hu)

theorem Gr_infoN : (Try.prog.info? 58).map (·.size) = some 66 := by kernel_rfl
theorem Gr_info (X : GrD) (h : X.ok) : (Try.prog.info? 58).map (·.size) = some X.cs.size := by rw [GrD.size h]; exact Gr_infoN
theorem Gr_info3 : ∃ i, Try.prog.info? 58 = some i ∧ i.size = 66 := by
  have h := Gr_infoN
  cases hq : Try.prog.info? 58 with
  | none => rw [hq] at h; cases h
  | some i => rw [hq] at h; simp at h; exact ⟨i, rfl, h⟩
theorem Gr_info4 : ∃ i Z, Try.prog.info? 58 = some i ∧ i.zero = some (.agg Z) ∧ i.size = 66 ∧ Z.size = 66 ∧ i.bytes ≤ 1000 := by
  obtain ⟨i, hi, h66⟩ := Gr_info3
  have h : (Try.prog.info? 58).map (fun i => decide (i.bytes ≤ 1000) && (match i.zero with | some (.agg Z) => Z.size == 66 | _ => false)) = some true := by kernel_rfl
  rw [hi, Option.map_some] at h
  simp only [Option.some.injEq, Bool.and_eq_true, decide_eq_true_eq] at h
  obtain ⟨h1, h2⟩ := h
  split at h2
  · rename_i Z hz
    exact ⟨i, Z, hi, hz, h66, by simpa using h2, h1⟩
  · cases h2
/-- A grant's box. -/
structure GrX (W : World) (g : Nat) (X : GrD) : Prop where
  b : Blk W g 58 X.cs
theorem GrX.new (w : World) (X : GrD) : GrX (w.alloc (.cells X.cs 58)) w.heap.size X := ⟨Blk.new _ _ _⟩
section
variable {W : World} {g : Nat} {X : GrD}
theorem GrX.alloc (h : GrX W g X) (o : Obj) : GrX (W.alloc o) g X := ⟨h.b.alloc o⟩
theorem GrX.below {W' : World} (h : GrX W g X) (hb : Below W.heap.size W W') : GrX W' g X := ⟨h.b.below hb⟩
theorem GrX.c0 (h : GrX W g X) : W.cell? ⟨g, 0, none⟩ = some (.string (txt X.p)) := h.b.cell_ X.c0
theorem GrX.c65 (h : GrX W g X) (hk : X.ok) : W.cell? ⟨g, 65, none⟩ = some (.int .i64 X.d) := h.b.cell_ (X.c65 hk)
theorem GrX.key (h : GrX W g X) : W.rangeAt g 1 (X.k.map u8v) := fun j u hj => h.b.cell_ (X.ckey j u hj)
theorem GrX.by_ (h : GrX W g X) (hk : X.ok) : W.rangeAt g 33 (X.b.map u8v) := fun j u hj => h.b.cell_ (X.cby hk j u hj)
end
/-- A row of grants lies at A. -/
def GrRd (w : World) (A : Option Addr) (Xs : List GrD) : Prop := (∀ X ∈ Xs, X.ok) ∧ (Xs = [] ∨ ∃ g o, A = some ⟨g, o, none⟩ ∧ w.rangeAt g o (grsV Xs))
theorem GrRd.nil_ (w : World) (A : Option Addr) : GrRd w A [] := ⟨by simp, .inl rfl⟩
theorem GrRd.below {w w' : World} {A : Option Addr} {Xs : List GrD} (h : GrRd w A Xs) (hb : Below w.heap.size w w') : GrRd w' A Xs :=
  ⟨h.1, h.2.elim .inl fun ⟨g, o, e, hr⟩ => .inr ⟨g, o, e, hr.below hb⟩⟩
theorem GrRd.pick {w : World} {A : Option Addr} {Xs : List GrD} {n : Nat} (c : Nat) (h : GrRd w A Xs) (hn : Xs.length = n) {k : Nat} {X : GrD} (hk : Xs[k]? = some X) :
    ∃ g q, w.rangeAt g q X.cs.toList ∧ X.ok ∧ ∀ W : World, (Instr.indexAt 55 (.slice A n c) (.int .i64 (k : Int))).run Try.prog W = .ok (.pointer (some ⟨g, q, none⟩)) W := by
  obtain ⟨h1, rfl | ⟨g, o, rfl, h2⟩⟩ := h
  · simp at hk
  · refine ⟨g, o + k * 66, fun j v hj => by rw [Nat.add_assoc]; exact h2 _ _ (grsV_get Xs k X j v h1 hk hj), h1 X (List.mem_of_getElem? hk), fun W => ?_⟩
    obtain ⟨i0, hi, h66⟩ := Gr_info3
    have hlt : k < n := by rw [← hn]; exact (List.getElem?_eq_some_iff.1 hk).1
    have h1 : (0 : Int) ≤ (k : Int) ∧ (k : Int) < (n : Int) := by omega
    simp [Instr.indexAt, run_underlying Try.underlying55, asIntOf, h1, sizeOf, typeInfo, hi, h66, Addr.add_lit, Int.toNat_natCast]
    intro h2; omega
theorem GrRd.upto {w : World} {A : Option Addr} {Xs Ys : List GrD} (h : GrRd w A (Xs ++ Ys)) : GrRd w A Xs := by
  refine ⟨fun X hX => h.1 X (by simp [hX]), ?_⟩
  rcases h.2 with h2 | ⟨g, o, rfl, h2⟩
  · exact .inl (List.append_eq_nil_iff.1 h2).1
  · exact .inr ⟨g, o, rfl, fun j v hj => h2 j v (by rw [grsV_append, List.getElem?_append_left (List.getElem?_eq_some_iff.1 hj).1]; exact hj)⟩
/-- A row of grants of one's own. -/
def GrOw (W : World) (base : Nat) (v : Value) (n : Nat) (Xs : List GrD) : Prop := W.ownsRow base 58 66 v n (grsV Xs)
theorem GrOw.rd {W : World} {base n : Nat} {v : Value} {Xs : List GrD} (h : GrOw W base v n Xs) (hK : ∀ X ∈ Xs, X.ok) : ∃ A c, v = .slice A n c ∧ Xs.length = n ∧ n ≤ c ∧ (A = none → n = 0 ∧ c = 0) ∧ GrRd W A Xs := by
  have hl : Xs.length = n := by
    have h1 : (grsV Xs).length = n * 66 := h.1
    rw [grsV_length Xs hK] at h1
    omega
  rcases h.2 with ⟨rfl, h0⟩ | ⟨g, cap, cur, rfl, _, hg, h3, _, _, ht⟩
  · subst h0
    exact ⟨none, 0, rfl, hl, Nat.le_refl _, fun _ => ⟨rfl, rfl⟩, hK, .inl (List.eq_nil_of_length_eq_zero hl)⟩
  · refine ⟨_, cap, rfl, hl, h3, (fun e => by cases e), hK, .inr ⟨g, 0, rfl, fun j v hj => ?_⟩⟩
    rw [← ht, List.getElem?_take] at hj
    split at hj
    · rw [cell_of_row W g (0 + j) cur _ _ hg, Nat.zero_add, ← Array.getElem?_toList]; exact hj
    · cases hj
theorem GrOw.below {W W' : World} {base n : Nat} {v : Value} {Xs : List GrD} (h : GrOw W base v n Xs) (hb : Below W.heap.size W W') : GrOw W' base v n Xs := own_below h hb
theorem GrOw.le {W : World} {base base' n : Nat} {v : Value} {Xs : List GrD} (h : GrOw W base v n Xs) (hb : base' ≤ base) : GrOw W base' v n Xs :=
  ⟨h.1, h.2.imp id fun ⟨g, c, cur, a, b, d⟩ => ⟨g, c, cur, a, Nat.le_trans hb b, d⟩⟩
theorem GrOw.made (W : World) : GrOw (W.alloc (.cells #[] 58)) W.heap.size (.slice (some ⟨W.heap.size, 0, none⟩) 0 0) 0 [] :=
  World.ownsRow_made W #[] 0 (Nat.le_refl _) (by decide) rfl
theorem GrOw.none_ (W : World) (base : Nat) : GrOw W base (.slice none 0 0) 0 [] := ⟨rfl, .inl ⟨rfl, rfl⟩⟩
/-- A whole grant is loaded out of a row; out of its box; stored into its box. -/
theorem wpList_load_grr {w : World} {ops : Array Oper} {rest : List Oper} {o : Oper} {a : Act} {Q : Exit → Act → World → Prop} (hgd : Region.wanted o (yielded ops a.tmps) = true) (x : Operand) (ho : o.op = .load 58 x)
    (g q : Nat) {X : GrD} (hx : a.eval x = .pointer (some ⟨g, q, none⟩)) (hr : w.rangeAt g q X.cs.toList) (hK : X.ok)
    (h : wpList Try.prog ops Q rest (a.put o.dst (.agg X.cs)) w) : wpList Try.prog ops Q (o :: rest) a w := by
  refine wpList_load_if hgd 58 x ho g q hx X.cs.toList _ hr Try.underlying58 rfl ?_ ?_
  · rw [Array.length_toList]; exact Gr_info X hK
  · rw [Array.toArray_toList]; exact h
theorem wpList_load_grx {w : World} {ops : Array Oper} {rest : List Oper} {o : Oper} {a : Act} {Q : Exit → Act → World → Prop} (hgd : Region.wanted o (yielded ops a.tmps) = true) (x : Operand) (ho : o.op = .load 58 x)
    (g : Nat) {X : GrD} (hx : a.eval x = .pointer (some ⟨g, 0, none⟩)) (hr : GrX w g X) (hK : X.ok)
    (h : wpList Try.prog ops Q rest (a.put o.dst (.agg X.cs)) w) : wpList Try.prog ops Q (o :: rest) a w :=
  wpList_load_grr hgd x ho g 0 hx (fun j v hj => by rw [Nat.zero_add]; exact hr.b.cell_ (by rw [← Array.getElem?_toList]; exact hj)) hK h
theorem wpList_store_grn {w : World} {ops : Array Oper} {rest : List Oper} {o : Oper} {a : Act} {Q : Exit → Act → World → Prop} {old : Array Value} (hgd : o.guard = none) (x y : Operand) (ho : o.op = .store 58 x y)
    {X : GrD} (hx : a.eval x = .pointer (some ⟨w.heap.size, 0, none⟩)) (hy : a.eval y = .agg X.cs) (hK : X.ok) (hs : old.size = 66)
    (h : wpList Try.prog ops Q rest (a.put o.dst undef) (w.alloc (.cells X.cs 58))) : wpList Try.prog ops Q (o :: rest) a (w.alloc (.cells old 58)) :=
  wpList_store_new hgd 58 x y ho X.cs hx hy (Gr_info X hK) (by rw [GrD.size hK, hs]) X.one h
theorem wp_append_gr {w : World} {o : Oper} {a : Act} {K : Act → World → Prop} {Q : Exit → Act → World → Prop} (s x : Operand)
    (ho : o.op = .call { callee := .builtin .append, args := #[s, x], argTypes := #[55, 55] })
    (base : Nat) (v : Value) (n : Nat) (Os : List GrD) (hs : a.eval s = v) (hown : GrOw w base v n Os)
    (A : Option Addr) (m c : Nat) (Xs : List GrD) (hx : a.eval x = .slice A m c) (hm : Xs.length = m) (hA : A = none → m = 0 ∧ c = 0) (hr : GrRd w A Xs) (hn : n + m ≤ 1000) (hbase : base ≤ w.heap.size)
    (h : ∀ v' w', GrOw w' base v' (n + m) (Os ++ Xs) → w.grownBy w' v.ownBlock → K (a.put o.dst v') w') : o.wp Try.prog a w K Q := by
  obtain ⟨j0, Z, hj, hjz, hjs, hZ, hjb⟩ := Gr_info4
  cases A with
  | none =>
    obtain ⟨rfl, rfl⟩ := hA rfl
    obtain rfl : Xs = [] := List.eq_nil_of_length_eq_zero hm
    have hrun := run_append_owned_none (P := Try.prog) w base 55 o.type 58 j0 66 Try.underlying55 hj v n (grsV Os) hown
    unfold Oper.wp execOp
    simp only [ho, resolve, invoke, builtin, Sem.run_bind, Sem.run_pure, Result.andThen_ok, List.map_toArray, List.map_cons, List.map_nil, hs, hx, hrun]
    exact h v w (by rw [List.append_nil]; exact hown) ⟨rfl, rfl, rfl, Nat.le_refl _, fun _ _ _ => rfl⟩
  | some ad =>
    have hlen := grsV_length Xs hr.1
    rw [hm] at hlen
    refine wp_append_own w s x 55 ho base 58 j0 (.agg Z) 66 j0.bytes Try.underlying55 hj hjz hjs rfl hZ (by decide) v n (grsV Os) hs hown ad m c (grsV Xs) hx hlen ?_ (grsV_one Xs) (by unfold maxLen; omega) (Nat.le_trans (Nat.mul_le_mul hn hjb) (by decide)) hbase (fun v' w' h1 h2 _ => h v' w' (by unfold GrOw; rw [grsV_append]; exact h1) h2)
    rcases hr.2 with rfl | ⟨g, o, h, hr2⟩
    · intro j u h; simp [grsV] at h
    · cases h
      intro j u hju
      rw [Addr.add_lit]
      exact hr2 j u hju
theorem wpList_append_gr {w : World} {ops : Array Oper} {rest : List Oper} {o : Oper} {a : Act} {Q : Exit → Act → World → Prop} (hgd : o.guard = none) (s x : Operand)
    (ho : o.op = .call { callee := .builtin .append, args := #[s, x], argTypes := #[55, 55] })
    (base : Nat) (v : Value) (n : Nat) (Os : List GrD) (hs : a.eval s = v) (hown : GrOw w base v n Os)
    (A : Option Addr) (m c : Nat) (Xs : List GrD) (hx : a.eval x = .slice A m c) (hm : Xs.length = m) (hA : A = none → m = 0 ∧ c = 0) (hr : GrRd w A Xs) (hn : n + m ≤ 1000) (hbase : base ≤ w.heap.size)
    (h : ∀ v' w', GrOw w' base v' (n + m) (Os ++ Xs) → w.grownBy w' v.ownBlock → wpList Try.prog ops Q rest (a.put o.dst v') w') : wpList Try.prog ops Q (o :: rest) a w :=
  wpList_plain hgd fun _ hK => wp_append_gr s x ho base v n Os hs hown A m c Xs hx hm hA hr hn hbase fun v' w' h1 h2 => hK _ _ (h v' w' h1 h2)
theorem GrOw.grown {W W' : World} {base n B : Nat} {v : Value} {Xs : List GrD} (h : GrOw W base v n Xs) (hg : W.grownBy W' v.ownBlock) (hB : B ≤ base) {w : World} (hb : Below B w W) (hs : B ≤ W.heap.size) : Below B w W' :=
  hb.grown hg hs (by intro k hk; have := (h.lt k hk).1; omega)
end Go.Proofs.Ytplcfdmehnilnaa

/- grant: a grant as data, its cells, its box, rows of them. -/
import Derived.Test.YtapgiagpjplpdaaGreatOpA
import Derived.Test.YtapgiagpjplpdaaGreatPhA
import Derived.Deep.RegionHeld3
import Derived.Test.YtapgiagpjplpdaaGreatBw3
import Derived.Test.YtapgiagpjplpdaaGreatId9
set_option linter.unusedSimpArgs false
set_option linter.unusedVariables false
namespace Go.Proofs.YtapgiagpjplpdaaGreat
open Go.RowKit Go.Qc Go.Shelf
attribute [local go_sem] txt_size txt_append ib_fold txt_toL
/-- A grant as data. -/
structure GrD where
  p : List UInt8
  k : List UInt8
  b : List UInt8
  d : Int
def GrD.ok (X : GrD) : Prop := X.k.length = 32 ∧ X.b.length = 32
def GrD.cs (X : GrD) : Array Value := #[.string (txt X.p)] ++ idVals X.k ++ idVals X.b ++ #[.int .i64 X.d]
theorem GrD.size {X : GrD} (h : X.ok) : X.cs.size = 66 := by unfold GrD.cs; simp [idVals_size, h.1, h.2]
theorem GrD.one (X : GrD) : X.cs.all (·.oneCell') = true := by
  unfold GrD.cs
  rw [Array.all_append, Array.all_append, Array.all_append, idVals_one, idVals_one]
  simp [Value.oneCell']
theorem GrD.c0 (X : GrD) : X.cs[0]? = some (.string (txt X.p)) := by
  unfold GrD.cs
  rw [Array.append_assoc, Array.append_assoc, Array.getElem?_append_left (by simp)]
  rfl
theorem GrD.ckey (X : GrD) (j : Nat) (u : Value) (h : (X.k.map u8v)[j]? = some u) : X.cs[1 + j]? = some u := by
  have hj := (List.getElem?_eq_some_iff.1 h).1
  rw [List.length_map] at hj
  unfold GrD.cs
  rw [Array.append_assoc, Array.append_assoc, Array.getElem?_append_right (by simp), Array.getElem?_append_left (by simp [idVals_size]; omega)]
  simp only [List.size_toArray, List.length_singleton, Nat.add_sub_cancel_left]
  unfold idVals
  rw [List.getElem?_toArray]
  exact h
theorem GrD.cby {X : GrD} (hk : X.ok) (j : Nat) (u : Value) (h : (X.b.map u8v)[j]? = some u) : X.cs[33 + j]? = some u := by
  have hj := (List.getElem?_eq_some_iff.1 h).1
  rw [List.length_map] at hj
  unfold GrD.cs
  rw [Array.append_assoc, Array.getElem?_append_right (by simp [idVals_size, hk.1] <;> omega), Array.getElem?_append_left (by simp [idVals_size, hk.1] <;> omega)]
  simp only [Array.size_append, List.size_toArray, List.length_singleton, idVals_size, hk.1]
  rw [show 33 + j - (1 + 32) = j by omega]
  unfold idVals
  rw [List.getElem?_toArray]
  exact h
theorem GrD.c65 (X : GrD) (hk : X.ok) : X.cs[65]? = some (.int .i64 X.d) := by
  unfold GrD.cs
  rw [Array.getElem?_append_right (by simp [idVals_size, hk.1, hk.2])]
  simp [idVals_size, hk.1, hk.2]
def grsV (Xs : List GrD) : List Value := Xs.flatMap (fun X => X.cs.toList)
theorem grsV_cons (X : GrD) (Xs : List GrD) : grsV (X :: Xs) = X.cs.toList ++ grsV Xs := by simp [grsV]
theorem grsV_append (Xs Ys : List GrD) : grsV (Xs ++ Ys) = grsV Xs ++ grsV Ys := by simp [grsV]
theorem grsV_length : ∀ (Xs : List GrD), (∀ X ∈ Xs, X.ok) → (grsV Xs).length = Xs.length * 66
  | [], _ => rfl
  | X :: Xs, h => by
    rw [grsV_cons, List.length_append, Array.length_toList, GrD.size (h X (by simp)), grsV_length Xs (fun x hx => h x (by simp [hx])), List.length_cons]
    omega
theorem grsV_get : ∀ (Xs : List GrD) (k : Nat) (X : GrD) (j : Nat) (v : Value), (∀ X ∈ Xs, X.ok) → Xs[k]? = some X → X.cs.toList[j]? = some v → (grsV Xs)[k * 66 + j]? = some v
  | [], k, X, j, v, _, hk, _ => by simp at hk
  | Y :: Xs, 0, X, j, v, h, hk, hj => by
    simp at hk
    subst hk
    have hlt := (List.getElem?_eq_some_iff.1 hj).1
    rw [grsV_cons, Nat.zero_mul, Nat.zero_add, List.getElem?_append_left hlt]
    exact hj
  | Y :: Xs, k + 1, X, j, v, h, hk, hj => by
    have hb := GrD.size (h Y (by simp))
    rw [List.getElem?_cons_succ] at hk
    rw [grsV_cons, List.getElem?_append_right (by rw [Array.length_toList, hb]; omega), Array.length_toList, hb, show (k + 1) * 66 + j - 66 = k * 66 + j by omega]
    exact grsV_get Xs k X j v (fun x hx => h x (by simp [hx])) hk hj
theorem grsV_one (Xs : List GrD) : ∀ u ∈ grsV Xs, u.oneCell' = true := by
  intro u hu
  simp only [grsV, List.mem_flatMap] at hu
  obtain ⟨X, _, hu⟩ := hu
  exact (Array.all_eq_true_iff_forall_mem.1 X.one) u (by simpa using hu)

theorem Gr_infoN : (Tryz.prog.info? 70).map (·.size) = some 66 := by kernel_rfl
theorem Gr_info (X : GrD) (h : X.ok) : (Tryz.prog.info? 70).map (·.size) = some X.cs.size := by rw [GrD.size h]; exact Gr_infoN
theorem Gr_info3 : ∃ i, Tryz.prog.info? 70 = some i ∧ i.size = 66 := by
  have h := Gr_infoN
  cases hq : Tryz.prog.info? 70 with
  | none => rw [hq] at h; cases h
  | some i => rw [hq] at h; simp at h; exact ⟨i, rfl, h⟩
theorem Gr_info4 : ∃ i Z, Tryz.prog.info? 70 = some i ∧ i.zero = some (.agg Z) ∧ i.size = 66 ∧ Z.size = 66 ∧ i.bytes ≤ 1000 := by
  obtain ⟨i, hi, h66⟩ := Gr_info3
  have h : (Tryz.prog.info? 70).map (fun i => decide (i.bytes ≤ 1000) && (match i.zero with | some (.agg Z) => Z.size == 66 | _ => false)) = some true := by kernel_rfl
  rw [hi, Option.map_some] at h
  simp only [Option.some.injEq, Bool.and_eq_true, decide_eq_true_eq] at h
  obtain ⟨h1, h2⟩ := h
  split at h2
  · rename_i Z hz
    exact ⟨i, Z, hi, hz, h66, by simpa using h2, h1⟩
  · cases h2
/-- A grant's box. -/
structure GrX (W : World) (g : Nat) (X : GrD) : Prop where
  b : Blk W g 70 X.cs
theorem GrX.new (w : World) (X : GrD) : GrX (w.alloc (.cells X.cs 70)) w.heap.size X := ⟨Blk.new _ _ _⟩
section
variable {W : World} {g : Nat} {X : GrD}
theorem GrX.alloc (h : GrX W g X) (o : Obj) : GrX (W.alloc o) g X := ⟨h.b.alloc o⟩
theorem GrX.below {W' : World} (h : GrX W g X) (hb : Below W.heap.size W W') : GrX W' g X := ⟨h.b.below hb⟩
theorem GrX.c0 (h : GrX W g X) : W.cell? ⟨g, 0, none⟩ = some (.string (txt X.p)) := h.b.cell_ X.c0
theorem GrX.c65 (h : GrX W g X) (hk : X.ok) : W.cell? ⟨g, 65, none⟩ = some (.int .i64 X.d) := h.b.cell_ (X.c65 hk)
theorem GrX.key (h : GrX W g X) : W.rangeAt g 1 (X.k.map u8v) := fun j u hj => h.b.cell_ (X.ckey j u hj)
theorem GrX.by_ (h : GrX W g X) (hk : X.ok) : W.rangeAt g 33 (X.b.map u8v) := fun j u hj => h.b.cell_ (X.cby hk j u hj)
end
/-- A row of grants lies at A. -/
def GrRd (w : World) (A : Option Addr) (Xs : List GrD) : Prop := (∀ X ∈ Xs, X.ok) ∧ (Xs = [] ∨ ∃ g o, A = some ⟨g, o, none⟩ ∧ w.rangeAt g o (grsV Xs))
theorem GrRd.nil_ (w : World) (A : Option Addr) : GrRd w A [] := ⟨by simp, .inl rfl⟩
theorem GrRd.below {w w' : World} {A : Option Addr} {Xs : List GrD} (h : GrRd w A Xs) (hb : Below w.heap.size w w') : GrRd w' A Xs :=
  ⟨h.1, h.2.elim .inl fun ⟨g, o, e, hr⟩ => .inr ⟨g, o, e, hr.below hb⟩⟩
theorem GrRd.pick {w : World} {A : Option Addr} {Xs : List GrD} {n : Nat} (c : Nat) (h : GrRd w A Xs) (hn : Xs.length = n) {k : Nat} {X : GrD} (hk : Xs[k]? = some X) :
    ∃ g q, w.rangeAt g q X.cs.toList ∧ X.ok ∧ ∀ W : World, (Instr.indexAt 46 (.slice A n c) (.int .i64 (k : Int))).run Tryz.prog W = .ok (.pointer (some ⟨g, q, none⟩)) W := by
  obtain ⟨h1, rfl | ⟨g, o, rfl, h2⟩⟩ := h
  · simp at hk
  · refine ⟨g, o + k * 66, fun j v hj => by rw [Nat.add_assoc]; exact h2 _ _ (grsV_get Xs k X j v h1 hk hj), h1 X (List.mem_of_getElem? hk), fun W => ?_⟩
    obtain ⟨i0, hi, h66⟩ := Gr_info3
    have hlt : k < n := by rw [← hn]; exact (List.getElem?_eq_some_iff.1 hk).1
    have h1 : (0 : Int) ≤ (k : Int) ∧ (k : Int) < (n : Int) := by omega
    simp [Instr.indexAt, run_underlying Tryz.underlying46, asIntOf, h1, sizeOf, typeInfo, hi, h66, Addr.add_lit, Int.toNat_natCast]
    intro h2; omega
theorem GrRd.upto {w : World} {A : Option Addr} {Xs Ys : List GrD} (h : GrRd w A (Xs ++ Ys)) : GrRd w A Xs := by
  refine ⟨fun X hX => h.1 X (by simp [hX]), ?_⟩
  rcases h.2 with h2 | ⟨g, o, rfl, h2⟩
  · exact .inl (List.append_eq_nil_iff.1 h2).1
  · exact .inr ⟨g, o, rfl, fun j v hj => h2 j v (by rw [grsV_append, List.getElem?_append_left (List.getElem?_eq_some_iff.1 hj).1]; exact hj)⟩
/-- A row of grants of one's own. -/
def GrOw (W : World) (base : Nat) (v : Value) (n : Nat) (Xs : List GrD) : Prop := W.ownsRow base 70 66 v n (grsV Xs)
theorem GrOw.rd {W : World} {base n : Nat} {v : Value} {Xs : List GrD} (h : GrOw W base v n Xs) (hK : ∀ X ∈ Xs, X.ok) : ∃ A c, v = .slice A n c ∧ Xs.length = n ∧ n ≤ c ∧ (A = none → n = 0 ∧ c = 0) ∧ GrRd W A Xs := by
  have hl : Xs.length = n := by
    have h1 : (grsV Xs).length = n * 66 := h.1
    rw [grsV_length Xs hK] at h1
    omega
  rcases h.2 with ⟨rfl, h0⟩ | ⟨g, cap, cur, rfl, _, hg, h3, _, _, ht⟩
  · subst h0
    exact ⟨none, 0, rfl, hl, Nat.le_refl _, fun _ => ⟨rfl, rfl⟩, hK, .inl (List.eq_nil_of_length_eq_zero hl)⟩
  · refine ⟨_, cap, rfl, hl, h3, (fun e => by cases e), hK, .inr ⟨g, 0, rfl, fun j v hj => ?_⟩⟩
    rw [← ht, List.getElem?_take] at hj
    split at hj
    · rw [cell_of_row W g (0 + j) cur _ _ hg, Nat.zero_add, ← Array.getElem?_toList]; exact hj
    · cases hj
theorem GrOw.below {W W' : World} {base n : Nat} {v : Value} {Xs : List GrD} (h : GrOw W base v n Xs) (hb : Below W.heap.size W W') : GrOw W' base v n Xs := own_below h hb
theorem GrOw.le {W : World} {base base' n : Nat} {v : Value} {Xs : List GrD} (h : GrOw W base v n Xs) (hb : base' ≤ base) : GrOw W base' v n Xs :=
  ⟨h.1, h.2.imp id fun ⟨g, c, cur, a, b, d⟩ => ⟨g, c, cur, a, Nat.le_trans hb b, d⟩⟩
theorem GrOw.made (W : World) : GrOw (W.alloc (.cells #[] 70)) W.heap.size (.slice (some ⟨W.heap.size, 0, none⟩) 0 0) 0 [] :=
  World.ownsRow_made W #[] 0 (Nat.le_refl _) (by decide) rfl
theorem GrOw.none_ (W : World) (base : Nat) : GrOw W base (.slice none 0 0) 0 [] := ⟨rfl, .inl ⟨rfl, rfl⟩⟩
/-- A whole grant is loaded out of a row; out of its box; stored into its box. -/
theorem wpList_load_grr {w : World} {ops : Array Oper} {rest : List Oper} {o : Oper} {a : Act} {Q : Exit → Act → World → Prop} (hgd : Region.wanted o (yielded ops a.tmps) = true) (x : Operand) (ho : o.op = .load 70 x)
    (g q : Nat) {X : GrD} (hx : a.eval x = .pointer (some ⟨g, q, none⟩)) (hr : w.rangeAt g q X.cs.toList) (hK : X.ok)
    (h : wpList Tryz.prog ops Q rest (a.put o.dst (.agg X.cs)) w) : wpList Tryz.prog ops Q (o :: rest) a w := by
  refine wpList_load_if hgd 70 x ho g q hx X.cs.toList _ hr Tryz.underlying70 rfl ?_ ?_
  · rw [Array.length_toList]; exact Gr_info X hK
  · rw [Array.toArray_toList]; exact h
theorem wpList_load_grx {w : World} {ops : Array Oper} {rest : List Oper} {o : Oper} {a : Act} {Q : Exit → Act → World → Prop} (hgd : Region.wanted o (yielded ops a.tmps) = true) (x : Operand) (ho : o.op = .load 70 x)
    (g : Nat) {X : GrD} (hx : a.eval x = .pointer (some ⟨g, 0, none⟩)) (hr : GrX w g X) (hK : X.ok)
    (h : wpList Tryz.prog ops Q rest (a.put o.dst (.agg X.cs)) w) : wpList Tryz.prog ops Q (o :: rest) a w :=
  wpList_load_grr hgd x ho g 0 hx (fun j v hj => by rw [Nat.zero_add]; exact hr.b.cell_ (by rw [← Array.getElem?_toList]; exact hj)) hK h
theorem wpList_store_grn {w : World} {ops : Array Oper} {rest : List Oper} {o : Oper} {a : Act} {Q : Exit → Act → World → Prop} {old : Array Value} (hgd : o.guard = none) (x y : Operand) (ho : o.op = .store 70 x y)
    {X : GrD} (hx : a.eval x = .pointer (some ⟨w.heap.size, 0, none⟩)) (hy : a.eval y = .agg X.cs) (hK : X.ok) (hs : old.size = 66)
    (h : wpList Tryz.prog ops Q rest (a.put o.dst undef) (w.alloc (.cells X.cs 70))) : wpList Tryz.prog ops Q (o :: rest) a (w.alloc (.cells old 70)) :=
  wpList_store_new hgd 70 x y ho X.cs hx hy (Gr_info X hK) (by rw [GrD.size hK, hs]) X.one h
theorem wp_append_gr {w : World} {o : Oper} {a : Act} {K : Act → World → Prop} {Q : Exit → Act → World → Prop} (s x : Operand)
    (ho : o.op = .call { callee := .builtin .append, args := #[s, x], argTypes := #[46, 46] })
    (base : Nat) (v : Value) (n : Nat) (Os : List GrD) (hs : a.eval s = v) (hown : GrOw w base v n Os)
    (A : Option Addr) (m c : Nat) (Xs : List GrD) (hx : a.eval x = .slice A m c) (hm : Xs.length = m) (hA : A = none → m = 0 ∧ c = 0) (hr : GrRd w A Xs) (hn : n + m ≤ 1000) (hbase : base ≤ w.heap.size)
    (h : ∀ v' w', GrOw w' base v' (n + m) (Os ++ Xs) → w.grownBy w' v.ownBlock → K (a.put o.dst v') w') : o.wp Tryz.prog a w K Q := by
  obtain ⟨j0, Z, hj, hjz, hjs, hZ, hjb⟩ := Gr_info4
  cases A with
  | none =>
    obtain ⟨rfl, rfl⟩ := hA rfl
    obtain rfl : Xs = [] := List.eq_nil_of_length_eq_zero hm
    have hrun := run_append_owned_none (P := Tryz.prog) w base 46 o.type 70 j0 66 Tryz.underlying46 hj v n (grsV Os) hown
    unfold Oper.wp execOp
    simp only [ho, resolve, invoke, builtin, Sem.run_bind, Sem.run_pure, Result.andThen_ok, List.map_toArray, List.map_cons, List.map_nil, hs, hx, hrun]
    exact h v w (by rw [List.append_nil]; exact hown) ⟨rfl, rfl, rfl, Nat.le_refl _, fun _ _ _ => rfl⟩
  | some ad =>
    have hlen := grsV_length Xs hr.1
    rw [hm] at hlen
    refine wp_append_own w s x 46 ho base 70 j0 (.agg Z) 66 j0.bytes Tryz.underlying46 hj hjz hjs rfl hZ (by decide) v n (grsV Os) hs hown ad m c (grsV Xs) hx hlen ?_ (grsV_one Xs) (by unfold maxLen; omega) (Nat.le_trans (Nat.mul_le_mul hn hjb) (by decide)) hbase (fun v' w' h1 h2 _ => h v' w' (by unfold GrOw; rw [grsV_append]; exact h1) h2)
    rcases hr.2 with rfl | ⟨g, o, h, hr2⟩
    · intro j u h; simp [grsV] at h
    · cases h
      intro j u hju
      rw [Addr.add_lit]
      exact hr2 j u hju
theorem wpList_append_gr {w : World} {ops : Array Oper} {rest : List Oper} {o : Oper} {a : Act} {Q : Exit → Act → World → Prop} (hgd : o.guard = none) (s x : Operand)
    (ho : o.op = .call { callee := .builtin .append, args := #[s, x], argTypes := #[46, 46] })
    (base : Nat) (v : Value) (n : Nat) (Os : List GrD) (hs : a.eval s = v) (hown : GrOw w base v n Os)
    (A : Option Addr) (m c : Nat) (Xs : List GrD) (hx : a.eval x = .slice A m c) (hm : Xs.length = m) (hA : A = none → m = 0 ∧ c = 0) (hr : GrRd w A Xs) (hn : n + m ≤ 1000) (hbase : base ≤ w.heap.size)
    (h : ∀ v' w', GrOw w' base v' (n + m) (Os ++ Xs) → w.grownBy w' v.ownBlock → wpList Tryz.prog ops Q rest (a.put o.dst v') w') : wpList Tryz.prog ops Q (o :: rest) a w :=
  wpList_plain hgd fun _ hK => wp_append_gr s x ho base v n Os hs hown A m c Xs hx hm hA hr hn hbase fun v' w' h1 h2 => hK _ _ (h v' w' h1 h2)
theorem GrOw.grown {W W' : World} {base n B : Nat} {v : Value} {Xs : List GrD} (h : GrOw W base v n Xs) (hg : W.grownBy W' v.ownBlock) (hB : B ≤ base) {w : World} (hb : Below B w W) (hs : B ≤ W.heap.size) : Below B w W' :=
  hb.grown hg hs (by intro k hk; have := (h.lt k hk).1; omega)
end Go.Proofs.YtapgiagpjplpdaaGreat
/- grant: covers, depth, Depth. -/
set_option linter.unusedSimpArgs false
set_option linter.unusedVariables false
namespace Go.Proofs.YtapgiagpjplpdaaGreat
open Go.RowKit Go.Qc Go.Shelf
attribute [local go_sem] txt_size txt_append ib_fold txt_toL

set_option maxRecDepth 100000 in
set_option maxHeartbeats 20000000 in
theorem gcov_gen (p s T : List UInt8) (H K : Bool)
    (cC : ∀ W, Calls Tryz.prog 55 #[.string (txt s), .string (txt p)] W fun e w' => e = .returned (.tuple #[.string (txt T), .bool H]) ∧ W = w')
    (cH : ∀ W, Calls Tryz.prog 56 #[.string (txt T), .string ⟨#[47]⟩] W fun e w' => e = .returned (.bool K) ∧ W = w') (w : World) :
    Calls Tryz.prog 38 #[.string (txt p), .string (txt s)] w fun e w' => e = .returned (.bool (H && (p.isEmpty || (T.isEmpty || K)))) ∧ w = w' := by
  obtain ⟨E1, h1⟩ : ∃ E1, E1 = p.isEmpty := ⟨_, rfl⟩
  obtain ⟨E2, h2⟩ : ∃ E2, E2 = T.isEmpty := ⟨_, rfl⟩
  have f1 : (p = []) = (E1 = true) := by rw [h1, List.isEmpty_iff]
  have f2 : (T = []) = (E2 = true) := by rw [h2, List.isEmpty_iff]
  rw [← h1, ← h2]
  replace h1 := h1.symm
  replace h2 := h2.symm
  go_enter Tryz.func38, Tryz.ntmps38
  cases H <;> cases E1 <;> cases E2 <;> cases K
  all_goals go_wp2_with (first
    | (go_at_call 55; (with_reducible refine (cC _).mono ?_); rintro e3 w3 ⟨rfl, rfl⟩)
    | (go_at_call 56; (with_reducible refine (cH _).mono ?_); rintro e4 w4 ⟨rfl, rfl⟩))
  all_goals go_ret
  all_goals exact ⟨rfl, rfl⟩
theorem gcov_any (p s : List UInt8) (w : World) :
    Calls Tryz.prog 38 #[.string (txt p), .string (txt s)] w fun e w' => e = .returned (.bool (covB p s)) ∧ w = w' := by
  have := gcov_gen p s (Lib.trimPrefix s p) (Lib.hasPrefix s p) (Lib.hasPrefix (Lib.trimPrefix s p) [47]) (fun W => cutPrefix_any s p W) (fun W => hasPrefix_any _ W) w
  rwa [covB_of] at this

/-- A key's depth by grants. -/
def depG (d : Int) (key s : List UInt8) (X : GrD) : Int := if X.k = key ∧ covB X.p s = true then max d X.d else d
def depS (Xs : List GrD) (key s : List UInt8) : Int := Xs.foldl (fun d X => depG d key s X) (-1)
def depV (root : List UInt8) (Xs : List GrD) (key s : List UInt8) : Int := if key = root then 9 else depS Xs key s
theorem depS_snoc {Xs : List GrD} {k : Nat} {X : GrD} (key s : List UInt8) (h : Xs[k]? = some X) : depS (Xs.take (k + 1)) key s = depG (depS (Xs.take k) key s) key s X := by
  unfold depS
  rw [List.take_add_one, h]
  simp
/-- A table's box. -/
structure TbX (W : World) (g : Nat) (root : List UInt8) (v : Value) : Prop where
  b : Blk W g 60 (idVals root ++ #[v])
theorem TbX.below {W W' : World} {g : Nat} {root : List UInt8} {v : Value} (h : TbX W g root v) (hb : Below W.heap.size W W') : TbX W' g root v := ⟨h.b.below hb⟩
theorem TbX.key {W : World} {g : Nat} {root : List UInt8} {v : Value} (h : TbX W g root v) : W.rangeAt g 0 (root.map u8v) := fun j u hj => h.b.cell_ (by
  rw [Nat.zero_add, Array.getElem?_append_left (by have := (List.getElem?_eq_some_iff.1 hj).1; rw [List.length_map] at this; rw [idVals_size]; exact this)]
  unfold idVals
  rw [List.getElem?_toArray]
  exact hj)
theorem TbX.row {W : World} {g : Nat} {root : List UInt8} {v : Value} (h : TbX W g root v) (hR : root.length = 32) : W.cell? ⟨g, 32, none⟩ = some v := h.b.cell_ (by
  rw [Array.getElem?_append_right (by rw [idVals_size, hR]; exact Nat.le_refl _), idVals_size, hR]
  rfl)

theorem meas_k1 {k n : Nat} (h : k + 1 ≤ n) : n - (intOf (Value.int .i64 ((k : Int) + 1))).toNat < n - (intOf (Value.int .i64 (k : Int))).toNat := by
  simp only [intOf]
  omega

set_option maxRecDepth 100000 in
set_option maxHeartbeats 20000000 in
theorem gdepth_any (tb : Nat) (root : List UInt8) (hR : root.length = 32) (V : Value) (A : Option Addr) (n c : Nat) (Xs : List GrD) (hn : Xs.length = n) (bn : n ≤ 1000) (key : List UInt8) (hk : key.length = 32) (s : List UInt8) (w : World) (ht : TbX w tb root V) (hr : GrRd w A Xs) :
    Calls Tryz.prog 37 #[.pointer (some ⟨tb, 0, none⟩), .slice A n c, .agg (idVals key), .string (txt s)] w fun e w' => e = .returned (.int .i64 (depV root Xs key s)) ∧ Below w.heap.size w w' := by
  have hK0 := range_blk (Blk.new w 23 (idVals key))
  have hB0 : Below w.heap.size w (w.alloc (.cells (idVals key) 23)) := (Below.refl _ _).alloc (Nat.le_refl _) _
  have hu := Tryz.underlying23
  have hzk : (Tryz.prog.info? 23).map (·.size) = some (key.map u8v).length := by rw [List.length_map, hk]; exact sizeId
  have hzr : (Tryz.prog.info? 23).map (·.size) = some (root.map u8v).length := by rw [List.length_map, hR]; exact sizeId
  have fr0 := (ht.below hB0).key
  have fr := range_later fr0
  have fk := range_later hK0
  obtain ⟨t, hte⟩ : ∃ t, decide (key = root) = t := ⟨_, rfl⟩
  have heq : ∀ W, (Op.equalIn 10000 23 (.agg (List.map u8v key).toArray) (.agg (List.map u8v root).toArray)).run Tryz.prog W = .ok t W := fun W => (ids_eq W key root hk hR).trans (by rw [hte])
  have HT := hid hte
  have HN := hid hn
  have bn9 : n ≤ 9223372036854775807 := by omega
  have hsz := hB0.size
  clear hte hn ht fr0
  go_enter Tryz.func37, Tryz.ntmps37
  go_wp2
  generalize w.alloc (.cells (idVals key) 23) = w0 at *
  refine wp_region_later mixed10 (by kernel_rfl) ?_
  repeat (first
    | ((with_reducible refine wpQuiet_load_if (by with_unfolding_all rfl) 23 _ rfl _ _ rfl (key.map u8v) _ fk hu (by with_unfolding_all rfl) hzk ?_); simp only [Act.put, List.setIfInBounds_toArray, List.set_cons_zero, List.set_cons_succ])
    | ((with_reducible refine wpQuiet_load_if (by with_unfolding_all rfl) 23 _ rfl _ _ rfl (root.map u8v) _ fr hu (by with_unfolding_all rfl) hzr ?_); simp only [Act.put, List.setIfInBounds_toArray, List.set_cons_zero, List.set_cons_succ])
    | ((with_reducible refine wpQuiet_step (fun K hK => ?_)); go_simp; first | ((with_reducible refine hK _ ?_); clear hK K) | (with_reducible apply Exists.intro; (with_reducible refine ⟨fun P => ?_, hK _ ?_⟩); ((fail)); clear hK K))
    | ((with_reducible refine BigFrame.wpQuiet_skip (by first | kernel_rfl | with_unfolding_all rfl) ?_); simp only [Act.put, List.setIfInBounds_toArray, List.set_cons_zero, List.set_cons_succ]))
  with_reducible refine wpQuiet_nil ?_
  intro _ hw9
  obtain ⟨P9, rfl⟩ := hw9
  have hp := P9.h
  generalize P9.w = w1 at *
  have hb1 := hB0.trans (hp.mono hsz)
  have hK1 := hK0.below hp
  clear fr fk heq hp
  cases t with
  | true =>
    go_wp2
    go_ret
    exact ⟨by unfold depV; rw [if_pos (of_decide_eq_true HT.out)]; rfl, hb1⟩
  | false =>
    go_wp2
    go_loopw [9, 20] (fun d i wr => ∃ k : Nat, k ≤ n ∧ i = .int .i64 k ∧ d = .int .i64 (depS (Xs.take k) key s) ∧ Below w1.heap.size w1 wr) (fun _ i _ => n - (intOf i).toNat)
    case atStart => exact ⟨0, by omega, rfl, rfl, Below.refl _ _⟩
    case round =>
      obtain ⟨k, hkn, rfl, rfl, hb⟩ := hrel
      by_cases hlt : k < n
      · obtain ⟨X, hX⟩ : ∃ X, Xs[k]? = some X := ⟨_, List.getElem?_eq_getElem (by have := HN.out; omega)⟩
        obtain ⟨g, q, hg, hXo, hix⟩ := hr.pick c HN.out hX
        have b1 : (k : Int) < n := by omega
        have fX := (hg.below hb1).below hb
        have fk1 := hK1.below hb
        have hnw := GrX.new wr X
        have hba := (Below.refl wr.heap.size wr).alloc (Nat.le_refl _) (.cells X.cs 70)
        have fk2 := fk1.below hba
        have c0 := hnw.c0
        have c65 := hnw.c65 hXo
        have fy := hnw.key
        have hzx : (Tryz.prog.info? 23).map (·.size) = some (X.k.map u8v).length := by rw [List.length_map, hXo.1]; exact sizeId
        obtain ⟨t, hte⟩ : ∃ t, decide (X.k = key) = t := ⟨_, rfl⟩
        obtain ⟨cv, hcv⟩ : ∃ cv, covB X.p s = cv := ⟨_, rfl⟩
        have heq : ∀ W, (Op.equalIn 10000 23 (.agg (List.map u8v X.k).toArray) (.agg (List.map u8v key).toArray)).run Tryz.prog W = .ok t W := fun W => (ids_eq W X.k key hXo.1 hk).trans (by rw [hte])
        have cC := fun W => gcov_any X.p s W
        rw [hcv] at cC
        have HD := hid (depS_snoc key s hX)
        have HTE := hid hte
        have HCV := hid hcv
        have HB := hid (hb.trans (hba.mono hb.size))
        clear hX hg hte hcv hb hba
        generalize depS (Xs.take k) key s = d0 at *
        have hs1 : depG d0 key s X = (if t = true ∧ cv = true then max d0 X.d else d0) := by unfold depG; rw [← HTE.out, ← HCV.out]; simp
        rw [hs1] at HD
        have HLT := hid (show k + 1 ≤ n from hlt)
        clear hs1
        cases t with
        | false =>
          go_wp2_with (first
            | (with_reducible refine wpList_load_grr (by with_unfolding_all rfl) _ rfl _ _ rfl fX hXo ?_)
            | (with_reducible refine wpList_store_grn rfl _ _ rfl rfl rfl hXo (by with_unfolding_all rfl) ?_)
            | (with_reducible refine wpList_load_if (by with_unfolding_all rfl) 23 _ rfl _ _ rfl (X.k.map u8v) _ fy hu rfl hzx ?_)
            | (with_reducible refine wpList_load_if (by with_unfolding_all rfl) 23 _ rfl _ _ rfl (key.map u8v) _ fk2 hu rfl hzk ?_)
            | (go_at_call 38; (with_reducible refine (cC _).mono ?_); rintro e3 w3 ⟨rfl, rfl⟩))
          go_roundw
          case rel => exact ⟨k + 1, HLT.out, by go_num, by rw [HD.out]; rfl, HB.out⟩
          case measure => exact meas_k1 HLT.out
        | true =>
          cases cv with
          | false =>
            go_wp2_with (first
              | (with_reducible refine wpList_load_grr (by with_unfolding_all rfl) _ rfl _ _ rfl fX hXo ?_)
              | (with_reducible refine wpList_store_grn rfl _ _ rfl rfl rfl hXo (by with_unfolding_all rfl) ?_)
              | (with_reducible refine wpList_load_if (by with_unfolding_all rfl) 23 _ rfl _ _ rfl (X.k.map u8v) _ fy hu rfl hzx ?_)
              | (with_reducible refine wpList_load_if (by with_unfolding_all rfl) 23 _ rfl _ _ rfl (key.map u8v) _ fk2 hu rfl hzk ?_)
              | (go_at_call 38; (with_reducible refine (cC _).mono ?_); rintro e3 w3 ⟨rfl, rfl⟩))
            go_roundw
            case rel => exact ⟨k + 1, HLT.out, by go_num, by rw [HD.out]; rfl, HB.out⟩
            case measure => exact meas_k1 HLT.out
          | true =>
            go_wp2_with (first
              | (with_reducible refine wpList_load_grr (by with_unfolding_all rfl) _ rfl _ _ rfl fX hXo ?_)
              | (with_reducible refine wpList_store_grn rfl _ _ rfl rfl rfl hXo (by with_unfolding_all rfl) ?_)
              | (with_reducible refine wpList_load_if (by with_unfolding_all rfl) 23 _ rfl _ _ rfl (X.k.map u8v) _ fy hu rfl hzx ?_)
              | (with_reducible refine wpList_load_if (by with_unfolding_all rfl) 23 _ rfl _ _ rfl (key.map u8v) _ fk2 hu rfl hzk ?_)
              | (go_at_call 38; (with_reducible refine (cC _).mono ?_); rintro e3 w3 ⟨rfl, rfl⟩))
            go_roundw
            case rel => exact ⟨k + 1, HLT.out, by go_num, by rw [HD.out]; rfl, HB.out⟩
            case measure => exact meas_k1 HLT.out
      · obtain rfl : k = n := by omega
        have c1 : ¬ (k : Int) < k := by omega
        have hd : depS (Xs.take k) key s = depV root Xs key s := by unfold depV; rw [if_neg (of_decide_eq_false HT.out), List.take_of_length_le (by rw [HN.out]; exact Nat.le_refl _)]
        rw [hd]
        clear hd
        go_wp2
        go_ret
        exact ⟨rfl, hb1.trans (hb.mono hb1.size)⟩

end Go.Proofs.YtapgiagpjplpdaaGreat
/- Rows of grants in place: set, cut, clear; slices.Clone, IndexFunc, DeleteFunc; without. -/
set_option linter.unusedSimpArgs false
set_option linter.unusedVariables false
namespace Go.Proofs.YtapgiagpjplpdaaGreat
open Go.RowKit Go.Qc Go.Shelf
attribute [local go_sem] txt_size txt_append ib_fold txt_toL

theorem grsV_at : ∀ (Xs : List GrD) (t : Nat), (∀ X ∈ Xs, X.ok) → (grsV Xs)[t]? = (Xs[t / 66]?).bind (fun X => X.cs.toList[t % 66]?)
  | [], t, _ => by simp [grsV]
  | X :: Xs, t, h => by
    have hX : X.cs.toList.length = 66 := by rw [Array.length_toList]; exact GrD.size (h X (by simp))
    rw [grsV_cons]
    by_cases ht : t < 66
    · rw [List.getElem?_append_left (by omega), Nat.div_eq_of_lt ht, Nat.mod_eq_of_lt ht]
      rfl
    · obtain ⟨s, rfl⟩ : ∃ s, t = s + 66 := ⟨t - 66, by omega⟩
      rw [List.getElem?_append_right (by omega), hX, Nat.add_sub_cancel, grsV_at Xs s (fun x hx => h x (by simp [hx])), Nat.add_div_right _ (by decide), Nat.add_mod_right]
      rfl
theorem GrOw.open_ {W : World} {base g n c : Nat} {o : Nat} {Ds : List GrD} (h : GrOw W base (.slice (some ⟨g, o, none⟩) n c) n Ds) : o = 0 ∧ ∃ cur : Array Value, base ≤ g ∧ Blk W g 70 cur ∧ n ≤ c ∧ c ≤ maxLen ∧ cur.size = c * 66 ∧ cur.toList.take (n * 66) = grsV Ds := by
  rcases h.2 with ⟨e, _⟩ | ⟨g', cap, cur, e, a1, a2, a3, a4, a5, a6⟩
  · cases e
  · cases e
    exact ⟨rfl, cur, a1, a2, a3, a4, a5, a6⟩
theorem GrOw.of {W : World} {base g n c : Nat} {Ds : List GrD} {cur : Array Value} (hK : ∀ X ∈ Ds, X.ok) (hn : Ds.length = n) (a1 : base ≤ g) (a2 : Blk W g 70 cur) (a3 : n ≤ c) (a4 : c ≤ maxLen) (a5 : cur.size = c * 66) (a6 : cur.toList.take (n * 66) = grsV Ds) : GrOw W base (.slice (some ⟨g, 0, none⟩) n c) n Ds :=
  ⟨by rw [grsV_length Ds hK, hn], .inr ⟨g, c, cur, rfl, a1, a2, a3, a4, a5, a6⟩⟩
/-- One grant of a row is written over. -/
theorem GrOw.set {W : World} {base g n c i : Nat} {Ds : List GrD} {Y : GrD} (h : GrOw W base (.slice (some ⟨g, 0, none⟩) n c) n Ds) (hK : ∀ X ∈ Ds, X.ok) (hn : Ds.length = n) (hi : i < n) (hY : Y.ok) :
    ∃ cs, Blk W g 70 cs ∧ i * 66 + 66 ≤ cs.size ∧ ∀ W', Blk W' g 70 (over cs (i * 66) Y.cs.toList) → GrOw W' base (.slice (some ⟨g, 0, none⟩) n c) n (Ds.set i Y) := by
  obtain ⟨_, cur, a1, a2, a3, a4, a5, a6⟩ := h.open_
  have hl : Y.cs.toList.length = 66 := by rw [Array.length_toList]; exact GrD.size hY
  have hs : i * 66 + 66 ≤ cur.size := by rw [a5]; have := Nat.mul_le_mul_right 66 (show i + 1 ≤ c by omega); omega
  have hK2 : ∀ X ∈ Ds.set i Y, X.ok := fun X hX => by
    rcases List.mem_or_eq_of_mem_set hX with h | h
    · exact hK X h
    · rw [h]; exact hY
  refine ⟨cur, a2, hs, fun W' hW => GrOw.of hK2 (by rw [List.length_set]; exact hn) a1 hW a3 a4 (by rw [over_size _ _ _ (by rw [hl]; exact hs)]; exact a5) ?_⟩
  apply List.ext_getElem?
  intro t
  rw [List.getElem?_take, grsV_at _ t hK2, List.getElem?_set]
  by_cases ht : t < n * 66
  · rw [if_pos ht, Array.getElem?_toList, over_get _ _ _ (by rw [hl]; exact hs)]
    have hq : cur[t]? = (Ds[t / 66]?).bind (fun X => X.cs.toList[t % 66]?) := by
      rw [← grsV_at Ds t hK, ← a6, List.getElem?_take, if_pos ht, Array.getElem?_toList]
    by_cases h1 : t < i * 66
    · rw [if_pos h1, if_neg (by omega), hq]
    · rw [if_neg h1, hl]
      by_cases h2 : t < i * 66 + 66
      · rw [if_pos h2, if_pos (by omega), if_pos (by omega)]
        show _ = Y.cs.toList[t % 66]?
        rw [show t - i * 66 = t % 66 by omega]
      · rw [if_neg h2, if_neg (by omega), hq]
  · rw [if_neg ht]
    have : ¬ t / 66 < n := by omega
    rw [if_neg (by omega), List.getElem?_eq_none (by omega)]
    rfl
theorem GrOw.cut {W : World} {base g n c m : Nat} {Ds : List GrD} (h : GrOw W base (.slice (some ⟨g, 0, none⟩) n c) n Ds) (hK : ∀ X ∈ Ds, X.ok) (hn : Ds.length = n) (hm : m ≤ n) : GrOw W base (.slice (some ⟨g, 0, none⟩) m c) m (Ds.take m) := by
  obtain ⟨_, cur, a1, a2, a3, a4, a5, a6⟩ := h.open_
  have hK2 : ∀ X ∈ Ds.take m, X.ok := fun X hX => hK X (List.mem_of_mem_take hX)
  refine GrOw.of hK2 (by rw [List.length_take, hn]; omega) a1 a2 (by omega) a4 a5 ?_
  have e := grsV_length (Ds.take m) hK2
  rw [List.length_take, hn, Nat.min_eq_left hm] at e
  have h2 : grsV Ds = grsV (Ds.take m) ++ grsV (Ds.drop m) := by rw [← grsV_append, List.take_append_drop]
  rw [h2] at a6
  have h3 := congrArg (List.take (m * 66)) a6
  rw [List.take_take, Nat.min_eq_left (Nat.mul_le_mul_right 66 hm), ← e, List.take_left, e] at h3
  exact h3
theorem gr_zero (W : World) : ∃ Z : Array Value, Z.size = 66 ∧ (∀ v ∈ Z.toList, v.oneCell' = true) ∧ ∀ W, (zeroValue 70).run Tryz.prog W = .ok (.agg Z) W := by
  obtain ⟨i, Z, h1, h2, _, h4, _⟩ := Gr_info4
  have hone : (match i.zero with | some (.agg Z) => Z.all (·.oneCell') | _ => false) = true := by
    have h : (Tryz.prog.info? 70).map (fun i => (match i.zero with | some (.agg Z) => Z.all (·.oneCell') | _ => false)) = some true := by kernel_rfl
    rw [h1, Option.map_some] at h
    exact Option.some.inj h
  rw [h2] at hone
  refine ⟨Z, h4, fun v hv => (Array.all_eq_true_iff_forall_mem.1 hone) v (by simpa using hv), fun W => ?_⟩
  simp [zeroValue, typeInfo, h1, h2]
theorem gr_clear {W : World} {base g n c k : Nat} {Ds : List GrD} (h : GrOw W base (.slice (some ⟨g, 0, none⟩) n c) n Ds) (hK : ∀ X ∈ Ds, X.ok) (hn : Ds.length = n) (hk : k < n) :
    ∃ W', (∀ ty, (Builtin.clear_ #[46] ty #[.slice (some ⟨g, k * 66, none⟩) (n - k) (c - k)]).run Tryz.prog W = .ok (.tuple #[]) W') ∧ GrOw W' base (.slice (some ⟨g, 0, none⟩) k c) k (Ds.take k) ∧ W.grownBy W' (some g) := by
  obtain ⟨_, cs, a1, h1, hle, a4, h2, h3⟩ := h.open_
  have hm : n * 66 ≤ c * 66 := Nat.mul_le_mul_right 66 hle
  obtain ⟨Z, hz66, hzo, hz0⟩ := gr_zero W
  obtain ⟨zv, hzv, hz⟩ : ∃ zv : Value, (∀ W, (zeroValue 70).run Tryz.prog W = .ok zv W) ∧ zv.cells = Z := ⟨_, hz0, rfl⟩
  have hlen : (Builtin.zeroCells Z (n - k)).toList.length = (n - k) * 66 := by
    unfold Builtin.zeroCells
    simp [hz66]
  have hone : ∀ v ∈ (Builtin.zeroCells Z (n - k)).toList, v.oneCell' = true := by
    intro v hv
    unfold Builtin.zeroCells at hv
    simp only [Array.toList_map, List.mem_map] at hv
    obtain ⟨i, _, rfl⟩ := hv
    have hlt : i % Z.size < Z.size := Nat.mod_lt _ (by rw [hz66]; decide)
    rw [getElem!_pos Z _ hlt]
    exact hzo _ (by rw [← Array.mem_def]; exact Array.getElem_mem hlt)
  have hst := run_storeCells_at Tryz.prog g (k * 66) 70 (Builtin.zeroCells Z (n - k)).toList 0 cs W h1 (by rw [hlen, h2]; omega) hone
  simp only [Nat.add_zero] at hst
  obtain ⟨hb, hgr⟩ := blk_over h1 (over cs (k * 66) (Builtin.zeroCells Z (n - k)).toList)
  obtain ⟨m, hm2⟩ : ∃ m, n - k = m + 1 := ⟨n - k - 1, by omega⟩
  have hK2 : ∀ X ∈ Ds.take k, X.ok := fun X hX => hK X (List.mem_of_mem_take hX)
  refine ⟨_, fun ty => ?_, GrOw.of hK2 (by rw [List.length_take, hn]; omega) a1 hb (by omega) a4 (by rw [over_size _ _ _ (by rw [hlen, h2]; omega)]; exact h2) ?_, hgr⟩
  · rw [hm2] at hst ⊢
    simp [Builtin.clear_, run_underlying Tryz.underlying46, hzv, hz, hst]
    simp [over]
  · have h9 := (h.cut hK hn (Nat.le_of_lt hk)).open_
    obtain ⟨_, cur, _, b2, _, _, _, b6⟩ := h9
    unfold Blk at b2 h1
    rw [h1] at b2
    cases b2
    rw [← b6]
    apply List.ext_getElem?
    intro t
    rw [List.getElem?_take, List.getElem?_take]
    by_cases ht : t < k * 66
    · rw [if_pos ht, if_pos ht, Array.getElem?_toList, Array.getElem?_toList, over_get _ _ _ (by rw [hlen, h2]; omega), if_pos ht]
    · rw [if_neg ht, if_neg ht]

set_option maxRecDepth 100000 in
set_option maxHeartbeats 20000000 in
theorem gclone_any (A : Option Addr) (n c : Nat) (Xs : List GrD) (w : World) (hn : Xs.length = n) (bn : n ≤ 1000) (hA : A = none → n = 0 ∧ c = 0) (hr : GrRd w A Xs) :
    Calls Tryz.prog 32 #[.slice A n c] w fun e w' => ∃ v, e = .returned v ∧ GrOw w' w.heap.size v n Xs ∧ Below w.heap.size w w' := by
  have qN : ∀ (W : World) (a : Option Addr) (n c n' c' : Nat), (binOp .eql 46 (.slice a n c) (.slice none n' c')).run Tryz.prog W = .ok (.bool a.isNone) W := fun W a n c n' c' => Lib.run_eql_slice_nil W _ _ a n c n' c' Tryz.underlying46
  cases A with
  | none =>
    obtain ⟨rfl, rfl⟩ := hA rfl
    obtain rfl : Xs = [] := List.eq_nil_of_length_eq_zero hn
    go_enter Tryz.func32, Tryz.ntmps32
    go_wp2
    go_ret
    exact ⟨_, rfl, GrOw.none_ _ _, Below.refl _ _⟩
  | some ad =>
    have hmd := GrOw.made w
    have hba := (Below.refl w.heap.size w).alloc (Nat.le_refl _) (.cells #[] 70)
    have hr2 := hr.below hba
    go_enter Tryz.func32, Tryz.ntmps32
    go_wp2_with (at_builtin; refine wpList_append_gr rfl _ _ rfl w.heap.size _ 0 [] rfl hmd (some ad) n c Xs rfl hn (by intro h; cases h) hr2 (by omega) (by simp) ?_; intro v' w1 hown hgrow)
    go_ret
    rw [Nat.zero_add, List.nil_append] at hown
    exact ⟨_, rfl, hown, hmd.grown hgrow (Nat.le_refl _) hba (by simp)⟩

set_option maxRecDepth 100000 in
set_option maxHeartbeats 20000000 in
theorem gindex_any (fn : FuncId) (hfn : ∀ args W, (callFunc fn args).run Tryz.prog W = .ok (.enter fn args) W) (cap : Array Value) (goes : GrD → Bool) (base : Nat) (w0 : World) (A : Option Addr) (n c : Nat) (Xs : List GrD) (w : World) (hn : Xs.length = n) (bn : n ≤ 1000) (hr : GrRd w A Xs) (h0 : Below base w0 w) (hbs : base ≤ w.heap.size)
    (cF : ∀ X ∈ Xs, ∀ W, Below base w0 W → Calls Tryz.prog fn (#[.agg X.cs] ++ cap) W fun e w' => e = .returned (.bool (goes X)) ∧ Below W.heap.size W w') :
    Calls Tryz.prog 103 #[.slice A n c, .func (.func fn) #[] cap] w fun e w' => ∃ i : Int, e = .returned (.int .i64 i) ∧ (i = -1 ∧ (∀ X ∈ Xs, goes X = false) ∨ ∃ k : Nat, i = k ∧ k < n ∧ (∀ X ∈ Xs.take k, goes X = false) ∧ ∃ X, Xs[k]? = some X ∧ goes X = true) ∧ Below w.heap.size w w' := by
  have HN := hid hn
  have bn9 : n ≤ 9223372036854775807 := by omega
  clear hn
  go_enter Tryz.func103, Tryz.ntmps103
  go_wp2
  go_loopw [8] (fun i wr => ∃ k : Nat, k ≤ n ∧ i = .int .i64 k ∧ (∀ X ∈ Xs.take k, goes X = false) ∧ Below w.heap.size w wr) (fun i _ => n - (intOf i).toNat)
  case atStart => exact ⟨0, by omega, rfl, by simp, Below.refl _ _⟩
  case round =>
    obtain ⟨k, hkn, rfl, hall, hb⟩ := hrel
    by_cases hlt : k < n
    · obtain ⟨X, hX⟩ : ∃ X, Xs[k]? = some X := ⟨_, List.getElem?_eq_getElem (by have := HN.out; omega)⟩
      obtain ⟨g, q, hg, hXo, hix⟩ := hr.pick c HN.out hX
      have b1 : (k : Int) < n := by omega
      have fX := hg.below hb
      have cX := cF X (List.mem_of_getElem? hX) wr (h0.trans (hb.mono hbs))
      obtain ⟨t, ht⟩ : ∃ t, goes X = t := ⟨_, rfl⟩
      rw [ht] at cX
      have HT := hid ht
      have HX := hid hX
      have HALL := hid hall
      clear ht hX hall hg
      have HLT := hid (show k + 1 ≤ n from hlt)
      cases t with
      | true =>
        go_wp2_with (first
          | (with_reducible refine wpList_load_grr (by with_unfolding_all rfl) _ rfl _ _ rfl fX hXo ?_)
          | ((with_reducible refine cX.mono ?_); rintro e3 w3 ⟨rfl, hb3⟩))
        go_ret
        exact ⟨_, rfl, .inr ⟨k, rfl, HLT.out, HALL.out, X, HX.out, HT.out⟩, hb.trans (hb3.mono hb.size)⟩
      | false =>
        go_wp2_with (first
          | (with_reducible refine wpList_load_grr (by with_unfolding_all rfl) _ rfl _ _ rfl fX hXo ?_)
          | ((with_reducible refine cX.mono ?_); rintro e3 w3 ⟨rfl, hb3⟩))
        go_roundw
        case rel => exact ⟨k + 1, HLT.out, by go_num, fun Y hY => by
          rw [List.take_add_one, HX.out] at hY
          rcases List.mem_append.1 hY with hY | hY
          · exact HALL.out Y hY
          · rw [List.mem_singleton.1 hY]; exact HT.out, hb.trans (hb3.mono hb.size)⟩
        case measure => exact meas_k1 HLT.out
    · obtain rfl : k = n := by omega
      have c1 : ¬ (k : Int) < k := by omega
      go_wp2
      go_ret
      exact ⟨_, rfl, .inl ⟨rfl, by rw [List.take_of_length_le (by rw [HN.out]; exact Nat.le_refl _)] at hall; exact hall⟩, hb⟩

theorem gr_index (g n c k : Nat) (hk : k < n) (W : World) : (Instr.indexAt 46 (.slice (some ⟨g, 0, none⟩) n c) (.int .i64 (k : Int))).run Tryz.prog W = .ok (.pointer (some ⟨g, k * 66, none⟩)) W := by
  obtain ⟨i0, hi, h66⟩ := Gr_info3
  have h1 : (0 : Int) ≤ (k : Int) ∧ (k : Int) < (n : Int) := by omega
  simp [Instr.indexAt, run_underlying Tryz.underlying46, asIntOf, h1, sizeOf, typeInfo, hi, h66, Addr.add_lit, Int.toNat_natCast]
  intro h2; omega
theorem gr_from (g n c k : Nat) (hk : k < n) (hc : n ≤ c) (W : World) : (Instr.sliceAt 46 (.slice (some ⟨g, 0, none⟩) n c) (some (.int .i64 (k : Int))) none none).run Tryz.prog W = .ok (.slice (some ⟨g, k * 66, none⟩) (n - k) (c - k)) W := by
  obtain ⟨i0, hi, h66⟩ := Gr_info3
  have h1 : (0 : Int) ≤ (k : Int) ∧ (k : Int) ≤ (n : Int) := by omega
  have h2 : c ≠ k := by omega
  simp [Instr.sliceAt, Instr.slice, Instr.sliceBounds, run_underlying Tryz.underlying46, run_sliceBound, h1, sizeOf, typeInfo, hi, h66, Addr.add_lit, Int.toNat_natCast, h2]
  all_goals first | omega | skip
theorem gr_to (g n c k : Nat) (hk : k ≤ n) (hc : n ≤ c) (W : World) : (Instr.sliceAt 46 (.slice (some ⟨g, 0, none⟩) n c) none (some (.int .i64 (k : Int))) none).run Tryz.prog W = .ok (.slice (some ⟨g, 0, none⟩) k c) W := by
  obtain ⟨i0, hi, h66⟩ := Gr_info3
  have h1 : (0 : Int) ≤ (k : Int) ∧ (k : Int) ≤ (c : Int) := by omega
  simp [Instr.sliceAt, Instr.slice, Instr.sliceBounds, run_underlying Tryz.underlying46, run_sliceBound, h1, sizeOf, typeInfo, hi, h66, Addr.add_lit, Int.toNat_natCast]
  all_goals first | omega | skip
/-- What stands in the row when so many are looked at: the kept ones ahead, the others as they were behind. -/
structure DelI (goes : GrD → Bool) (Xs : List GrD) (i j : Nat) (Ds : List GrD) : Prop where
  len : Ds.length = Xs.length
  ok : ∀ X ∈ Ds, X.ok
  keep : Ds.take i = (Xs.take j).filter (fun X => !goes X)
  tail : Ds.drop j = Xs.drop j
  ij : i < j
  jn : j ≤ Xs.length
theorem w64_gr (n : Int) (h : -9223372036854775808 ≤ n ∧ n ≤ 9223372036854775807) : wrap64 n = n := by unfold wrap64; omega
theorem del_nums {i j n : Nat} (hi : i < n) (hj : j < n) (bn : n ≤ 1000) : wrap64 ((i : Int) + 1) = (i : Int) + 1 ∧ IntKind.i64.wrap ((i : Int) + 1) = (i : Int) + 1 ∧ wrap64 ((j : Int) + 1) = (j : Int) + 1 ∧ IntKind.i64.wrap ((j : Int) + 1) = (j : Int) + 1 :=
  ⟨w64_gr _ (by omega), by rw [IntKind.wrap_i64]; omega, w64_gr _ (by omega), by rw [IntKind.wrap_i64]; omega⟩
theorem gr_store_at {w : World} {o : Oper} {a : Act} {K : Act → World → Prop} {Q : Exit → Act → World → Prop} (x y : Operand) (ho : o.op = .store 70 x y)
    (g off : Nat) (old cs : Array Value) (hg : Blk w g 70 old) (hx : a.eval x = .pointer (some ⟨g, off, none⟩)) (hy : a.eval y = .agg cs) (hi : (Tryz.prog.info? 70).map (·.size) = some cs.size) (hs : off + cs.size ≤ old.size) (h1 : cs.all (·.oneCell') = true)
    (h : ∀ w', Blk w' g 70 (over old off cs.toList) → w.grownBy w' (some g) → K (a.put o.dst undef) w') : o.wp Tryz.prog a w K Q := by
  have hone : ∀ v ∈ cs.toList, v.oneCell' = true := fun v hv => (Array.all_eq_true_iff_forall_mem.1 h1) v (by simpa using hv)
  have hcells : (Value.agg cs).cells = cs := rfl
  have hst := run_storeCells_at Tryz.prog g off 70 cs.toList 0 old w hg (by simpa using hs) hone
  simp only [Nat.add_zero] at hst
  have hr : (Instr.storeAt 70 (.pointer (some ⟨g, off, none⟩)) (.agg cs)).run Tryz.prog w = .ok () (w.setRow g (over old off cs.toList)) := by
    cases hq : Tryz.prog.info? 70 with
    | none => simp [hq] at hi
    | some i =>
      have hsz : i.size = cs.size := by simpa [hq] using hi
      simp [Instr.storeAt, Instr.sureAddr, storeVar, sizeOf, typeInfo, hq, hcells, hsz]
      rw [hst]; simp [over]
  obtain ⟨hb, hgr⟩ := blk_over hg (over old off cs.toList)
  unfold Oper.wp
  simp only [execOp, ho, hx, hy]
  simp only [Sem.run_bind, hr, Result.andThen, Sem.run_pure]
  exact h _ hb hgr
theorem wpList_store_grr {w : World} {ops : Array Oper} {rest : List Oper} {o : Oper} {a : Act} {Q : Exit → Act → World → Prop} (hgd : o.guard = none) (x y : Operand) (ho : o.op = .store 70 x y)
    (g q : Nat) {old : Array Value} {X : GrD} (hg : Blk w g 70 old) (hx : a.eval x = .pointer (some ⟨g, q, none⟩)) (hy : a.eval y = .agg X.cs) (hK : X.ok) (hs : q + 66 ≤ old.size)
    (h : ∀ w', Blk w' g 70 (over old q X.cs.toList) → w.grownBy w' (some g) → wpList Tryz.prog ops Q rest (a.put o.dst undef) w') : wpList Tryz.prog ops Q (o :: rest) a w :=
  wpList_plain hgd fun K' hK' => gr_store_at x y ho g q old _ hg hx hy (Gr_info X hK) (by rw [GrD.size hK]; exact hs) X.one (fun w' hb hgr => hK' _ _ (h w' hb hgr))
theorem DelI.skip {goes : GrD → Bool} {Xs Ds : List GrD} {i j : Nat} {X : GrD} (h : DelI goes Xs i j Ds) (hX : Xs[j]? = some X) (hg : goes X = true) : DelI goes Xs i (j + 1) Ds := by
  have hj := (List.getElem?_eq_some_iff.1 hX).1
  refine ⟨h.len, h.ok, ?_, ?_, by have := h.ij; omega, hj⟩
  · rw [h.keep, List.take_add_one, hX]
    simp [hg]
  · have e := congrArg (List.drop 1) h.tail
    rwa [List.drop_drop, List.drop_drop] at e
theorem DelI.put {goes : GrD → Bool} {Xs Ds : List GrD} {i j : Nat} {X : GrD} (h : DelI goes Xs i j Ds) (hX : Xs[j]? = some X) (hg : goes X = false) (ho : X.ok) : DelI goes Xs (i + 1) (j + 1) (Ds.set i X) := by
  have hj := (List.getElem?_eq_some_iff.1 hX).1
  have hij := h.ij
  have hl := h.len
  refine ⟨by rw [List.length_set]; exact hl, fun Y hY => ?_, ?_, ?_, by omega, hj⟩
  · rcases List.mem_or_eq_of_mem_set hY with hY | hY
    · exact h.ok Y hY
    · rw [hY]; exact ho
  · rw [List.take_add_one, List.take_set_of_le (Nat.le_refl _), h.keep, List.getElem?_set_self (by omega), List.take_add_one, hX]
    simp [hg]
  · rw [List.drop_set_of_lt (by omega)]
    have e := congrArg (List.drop 1) h.tail
    rwa [List.drop_drop, List.drop_drop] at e
theorem DelI.at_ {goes : GrD → Bool} {Xs Ds : List GrD} {i j : Nat} (h : DelI goes Xs i j Ds) : Ds[j]? = Xs[j]? := by
  have e : (Ds.drop j)[0]? = (Xs.drop j)[0]? := by rw [h.tail]
  simpa using e
theorem DelI.start {goes : GrD → Bool} {Xs : List GrD} {k : Nat} {X : GrD} (hK : ∀ X ∈ Xs, X.ok) (hX : Xs[k]? = some X) (hg : goes X = true) (hall : ∀ Y ∈ Xs.take k, goes Y = false) : DelI goes Xs k (k + 1) Xs := by
  have hj := (List.getElem?_eq_some_iff.1 hX).1
  refine ⟨rfl, hK, ?_, rfl, Nat.lt_succ_self _, hj⟩
  rw [List.take_add_one, hX, List.filter_append, List.filter_eq_self.2 (fun Y hY => by rw [hall Y hY]; rfl)]
  simp [hg]

set_option maxRecDepth 100000 in
set_option maxHeartbeats 20000000 in
theorem gdel_any (fn : FuncId) (hfn : ∀ args W, (callFunc fn args).run Tryz.prog W = .ok (.enter fn args) W) (cap : Array Value) (goes : GrD → Bool) (base : Nat) (w0 : World) (V : Value) (n : Nat) (Xs : List GrD) (w : World) (hK : ∀ X ∈ Xs, X.ok) (bn : n ≤ 1000) (hown : GrOw w base V n Xs) (h0 : Below base w0 w) (hbs : base ≤ w.heap.size)
    (cF : ∀ X ∈ Xs, ∀ W, Below base w0 W → Calls Tryz.prog fn (#[.agg X.cs] ++ cap) W fun e w' => e = .returned (.bool (goes X)) ∧ Below W.heap.size W w') :
    Calls Tryz.prog 83 #[V, .func (.func fn) #[] cap] w fun e w' => ∃ v, e = .returned v ∧ GrOw w' base v (Xs.filter (fun X => !goes X)).length (Xs.filter (fun X => !goes X)) ∧ Below base w0 w' := by
  obtain ⟨A, c, rfl, hn, hnc, hA, hr⟩ := hown.rd hK
  have cI := gindex_any fn hfn cap goes base w0 A n c Xs w hn bn hr h0 hbs cF
  have HN := hid hn
  have HOW := hid hown
  have HKK := hid hK
  clear hn hown hK
  go_enter Tryz.func83, Tryz.ntmps83
  go_wp2_with (fail)
  refine cI.mono ?_
  rintro e1 w1 ⟨i, rfl, hi, hb1⟩
  rcases hi with ⟨rfl, hall⟩ | ⟨k, rfl, hk, hall, hX0⟩
  · go_wp2_with (fail)
    go_ret
    rw [List.filter_eq_self.2 (fun Y hY => by rw [hall Y hY]; rfl), HN.out]
    exact ⟨_, rfl, HOW.out.below hb1, h0.trans (hb1.mono hbs)⟩
  · obtain ⟨X0, hX0, hg0⟩ := hX0
    have hneg : ¬ (k : Int) = -1 := by omega
    have hneg2 : ((k : Int) == -1) = false := by rw [beq_eq_false_iff_ne]; exact hneg
    have hw0 : wrap64 ((k : Int) + 1) = (k : Int) + 1 := w64_gr _ (by omega)
    have hv0 : IntKind.i64.wrap ((k : Int) + 1) = (k : Int) + 1 := by rw [IntKind.wrap_i64]; omega
    have HI0 := hid (DelI.start HKK.out hX0 hg0 hall)
    obtain ⟨g, rfl, hbg⟩ : ∃ g, A = some ⟨g, 0, none⟩ ∧ base ≤ g := by
      rcases HOW.out.2 with ⟨e, h0⟩ | ⟨g, cap', cur, e, hb, _⟩
      · omega
      · cases e; exact ⟨g, rfl, hb⟩
    have hOW1 := HOW.out.below hb1
    have hB1 := h0.trans (hb1.mono hbs)
    have hs1 : base ≤ w1.heap.size := Nat.le_trans hbs hb1.size
    clear hall hX0 hg0 cI hr hb1
    go_wp2_with (fail)
    go_loopw [5, 6] (fun zi zj wr => ∃ (i j : Nat) (Ds : List GrD), zi = .int .i64 i ∧ zj = .int .i64 j ∧ Hid (DelI goes Xs i j Ds) ∧ GrOw wr base (.slice (some ⟨g, 0, none⟩) n c) n Ds ∧ Below base w0 wr ∧ base ≤ wr.heap.size) (fun _ zj _ => n - (intOf zj).toNat)
    case atStart => exact ⟨k, k + 1, Xs, rfl, by go_num, HI0, hOW1, hB1, hs1⟩
    case round =>
      clear HI0 hOW1 hB1 hs1 hneg hneg2 hw0 hv0
      obtain ⟨i, j, Ds, rfl, rfl, HI, hOW, hB, hs⟩ := hrel
      have hDn : Ds.length = n := HI.out.len.trans HN.out
      have hjn : j ≤ n := by have := HI.out.jn; rw [HN.out] at this; exact this
      have hij := HI.out.ij
      by_cases hlt : j < n
      · obtain ⟨X, hX⟩ : ∃ X, Xs[j]? = some X := ⟨_, List.getElem?_eq_getElem (by have := HN.out; omega)⟩
        have hDX : Ds[j]? = some X := HI.out.at_.trans hX
        obtain ⟨_, _, e9, _, _, _, hrd⟩ := hOW.rd HI.out.ok
        cases e9
        obtain ⟨g2, q, hg, hXo, hix⟩ := hrd.pick c hDn hDX
        obtain ⟨cs, hbk, hsz, hput⟩ := hOW.set HI.out.ok hDn (show i < n by omega) hXo
        have hii := gr_index g n c i (show i < n by omega)
        have b1 : (j : Int) < n := by omega
        have hnw := GrX.new wr X
        have hba := (Below.refl wr.heap.size wr).alloc (Nat.le_refl _) (.cells X.cs 70)
        have hB2 := hB.trans (hba.mono hs)
        have cX := cF X (List.mem_of_getElem? hX) _ hB2
        obtain ⟨t, ht⟩ : ∃ t, goes X = t := ⟨_, rfl⟩
        rw [ht] at cX
        obtain ⟨hwi, hvi, hwj, hvj⟩ := del_nums (show i < n by omega) hlt bn
        have HT := hid ht
        have HX := hid hX
        have HPUT := hid hput
        have HLT := hid (show j + 1 ≤ n from hlt)
        have HBA := hid hba
        have HB2 := hid hB2
        have HS := hid hs
        have HOW2 := hid hOW
        have HIJ := hid hij
        clear ht hX hDX hrd hput hba hB2 hs hOW hij hjn hDn
        cases t with
        | true =>
          go_wp2_with (first
            | (with_reducible refine wpList_load_grr (by with_unfolding_all rfl) _ rfl _ _ rfl hg hXo ?_)
            | (with_reducible refine wpList_store_grn rfl _ _ rfl rfl rfl hXo (by with_unfolding_all rfl) ?_)
            | (with_reducible refine wpList_load_grx (by with_unfolding_all rfl) _ rfl _ rfl hnw hXo ?_)
            | ((with_reducible refine cX.mono ?_); rintro e3 w3 ⟨rfl, hb3⟩))
          have hb3' := HBA.out.trans (hb3.mono HBA.out.size)
          go_roundw
          case rel => exact ⟨i, j + 1, Ds, rfl, by go_num, hid (HI.out.skip HX.out HT.out), HOW2.out.below hb3', hB.trans (hb3'.mono HS.out), Nat.le_trans HS.out hb3'.size⟩
          case measure => exact meas_k1 HLT.out
        | false =>
          go_wp2_with (first
            | (with_reducible refine wpList_load_grr (by with_unfolding_all rfl) _ rfl _ _ rfl hg hXo ?_)
            | (with_reducible refine wpList_store_grn rfl _ _ rfl rfl rfl hXo (by with_unfolding_all rfl) ?_)
            | (with_reducible refine wpList_load_grx (by with_unfolding_all rfl) _ rfl _ rfl hnw hXo ?_)
            | ((with_reducible refine cX.mono ?_); rintro e3 w3 ⟨rfl, hb3⟩; have hb3' := HBA.out.trans (hb3.mono HBA.out.size); replace hnw := hnw.below hb3; replace hbk := hbk.below hb3')
            | ((with_reducible refine wpList_store_grr rfl _ _ rfl _ _ hbk rfl rfl hXo hsz ?_); intro w5 hC5 hg5))
          have hB3 := hB.trans (hb3'.mono HS.out)
          have hS3 := Nat.le_trans HS.out hb3'.size
          go_roundw
          case rel => exact ⟨i + 1, j + 1, Ds.set i X, by go_num, by go_num, hid (HI.out.put HX.out HT.out hXo), HPUT.out w5 hC5, hB3.grown hg5 hS3 (by intro k e; cases e; exact hbg), Nat.le_trans hS3 hg5.size⟩
          case measure => exact meas_k1 HLT.out
      · obtain rfl : j = n := by omega
        have b1 : ¬ (j : Int) < j := by omega
        obtain ⟨w5, hcl, hrd, hg5⟩ := gr_clear hOW HI.out.ok hDn hij
        have hle : j ≤ c := hnc
        have hsl := gr_from g j c i hij hle
        have hst := gr_to g j c i (Nat.le_of_lt hij) hle
        have hkp : Ds.take i = Xs.filter (fun X => !goes X) := by rw [HI.out.keep, List.take_of_length_le (by rw [HN.out]; exact Nat.le_refl _)]
        have hli : (Xs.filter (fun X => !goes X)).length = i := by rw [← hkp, List.length_take, hDn]; omega
        obtain ⟨m1, hm1⟩ : ∃ m1, m1 = j - i := ⟨_, rfl⟩
        obtain ⟨m2, hm2⟩ : ∃ m2, m2 = c - i := ⟨_, rfl⟩
        obtain ⟨m3, hm3⟩ : ∃ m3, m3 = i * 66 := ⟨_, rfl⟩
        rw [← hm1, ← hm2, ← hm3] at hcl hsl
        rw [hkp] at hrd
        have HLI := hid hli
        have HRD := hid hrd
        have hB5 := hB.grown hg5 hs (by intro k e; cases e; exact hbg)
        clear hm1 hm2 hm3 hkp hli hrd hDn hij hjn hg5 hOW
        go_wp2_with (fail)
        go_ret
        rw [HLI.out]
        exact ⟨_, rfl, HRD.out, hB5⟩

end Go.Proofs.YtapgiagpjplpdaaGreat

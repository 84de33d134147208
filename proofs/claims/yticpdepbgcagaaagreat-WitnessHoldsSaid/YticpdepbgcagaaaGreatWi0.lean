
/- witness: a row as data, its cells, its box, rows of them; the document's; rows that come in. -/
import Derived.Test.YticpdepbgcagaaaGreatKtA
import Derived.Test.YticpdepbgcagaaaGreatLam6
import Derived.Test.YticpdepbgcagaaaGreatId7
set_option linter.unusedSimpArgs false
set_option linter.unusedVariables false
namespace Go.Proofs.YticpdepbgcagaaaGreat
open Go.RowKit Go.Qc Go.Shelf
attribute [local go_sem] txt_size txt_append ib_fold
/-- A leaf, and the sum that it signed, as data. -/
structure WiD where
  l : Int
  a : List UInt8
def WiD.ok (X : WiD) : Prop := X.a.length = 32
def WiD.cs (X : WiD) : Array Value := #[.int .i64 X.l] ++ idVals X.a
theorem WiD.size {X : WiD} (h : X.ok) : X.cs.size = 33 := by unfold WiD.cs; simp [idVals_size, (show X.a.length = 32 from h)]
theorem WiD.one (X : WiD) : X.cs.all (·.oneCell') = true := by
  unfold WiD.cs
  rw [Array.all_append, idVals_one]
  simp [Value.oneCell']
theorem WiD.c0 (X : WiD) : X.cs[0]? = some (.int .i64 X.l) := by
  unfold WiD.cs
  rw [Array.getElem?_append_left (by simp)]
  rfl
theorem WiD.ckey (X : WiD) (j : Nat) (u : Value) (h : (X.a.map u8v)[j]? = some u) : X.cs[1 + j]? = some u := by
  have hj := (List.getElem?_eq_some_iff.1 h).1
  rw [List.length_map] at hj
  unfold WiD.cs
  rw [Array.getElem?_append_right (by simp)]
  simp only [List.size_toArray, List.length_singleton, Nat.add_sub_cancel_left]
  unfold idVals
  rw [List.getElem?_toArray]
  exact h
def wisV (Xs : List WiD) : List Value := Xs.flatMap (fun X => X.cs.toList)
theorem wisV_cons (X : WiD) (Xs : List WiD) : wisV (X :: Xs) = X.cs.toList ++ wisV Xs := by simp [wisV]
theorem wisV_append (Xs Ys : List WiD) : wisV (Xs ++ Ys) = wisV Xs ++ wisV Ys := by simp [wisV]
theorem wisV_length : ∀ (Xs : List WiD), (∀ X ∈ Xs, X.ok) → (wisV Xs).length = Xs.length * 33
  | [], _ => rfl
  | X :: Xs, h => by
    rw [wisV_cons, List.length_append, Array.length_toList, WiD.size (h X (by simp)), wisV_length Xs (fun x hx => h x (by simp [hx])), List.length_cons]
    omega
theorem wisV_get : ∀ (Xs : List WiD) (k : Nat) (X : WiD) (j : Nat) (v : Value), (∀ X ∈ Xs, X.ok) → Xs[k]? = some X → X.cs.toList[j]? = some v → (wisV Xs)[k * 33 + j]? = some v
  | [], k, X, j, v, _, hk, _ => by simp at hk
  | Y :: Xs, 0, X, j, v, h, hk, hj => by
    simp at hk
    subst hk
    have hlt := (List.getElem?_eq_some_iff.1 hj).1
    rw [wisV_cons, Nat.zero_mul, Nat.zero_add, List.getElem?_append_left hlt]
    exact hj
  | Y :: Xs, k + 1, X, j, v, h, hk, hj => by
    have hb := WiD.size (h Y (by simp))
    rw [List.getElem?_cons_succ] at hk
    rw [wisV_cons, List.getElem?_append_right (by rw [Array.length_toList, hb]; omega), Array.length_toList, hb, show (k + 1) * 33 + j - 33 = k * 33 + j by omega]
    exact wisV_get Xs k X j v (fun x hx => h x (by simp [hx])) hk hj
theorem wisV_one (Xs : List WiD) : ∀ u ∈ wisV Xs, u.oneCell' = true := by
  intro u hu
  simp only [wisV, List.mem_flatMap] at hu
  obtain ⟨X, _, hu⟩ := hu
  exact (Array.all_eq_true_iff_forall_mem.1 X.one) u (by simpa using hu)

theorem Wi_infoN : (Tryz.prog.info? 67).map (·.size) = some 33 := by kernel_rfl
theorem Wi_info (X : WiD) (h : X.ok) : (Tryz.prog.info? 67).map (·.size) = some X.cs.size := by rw [WiD.size h]; exact Wi_infoN
theorem Wi_info3 : ∃ i, Tryz.prog.info? 67 = some i ∧ i.size = 33 := by
  have h := Wi_infoN
  cases hq : Tryz.prog.info? 67 with
  | none => rw [hq] at h; cases h
  | some i => rw [hq] at h; simp at h; exact ⟨i, rfl, h⟩
/-- A row's box. -/
structure WiX (W : World) (g : Nat) (X : WiD) : Prop where
  b : Blk W g 67 X.cs
theorem WiX.new (w : World) (X : WiD) : WiX (w.alloc (.cells X.cs 67)) w.heap.size X := ⟨Blk.new _ _ _⟩
section
variable {W : World} {g : Nat} {X : WiD}
theorem WiX.alloc (h : WiX W g X) (o : Obj) : WiX (W.alloc o) g X := ⟨h.b.alloc o⟩
theorem WiX.below {W' : World} (h : WiX W g X) (hb : Below W.heap.size W W') : WiX W' g X := ⟨h.b.below hb⟩
theorem WiX.c0 (h : WiX W g X) : W.cell? ⟨g, 0, none⟩ = some (.int .i64 X.l) := h.b.cell_ X.c0
theorem WiX.key (h : WiX W g X) : W.rangeAt g 1 (X.a.map u8v) := fun j u hj => h.b.cell_ (X.ckey j u hj)
end
/-- A row of rows lies at A. -/
def WiRd (w : World) (A : Option Addr) (Xs : List WiD) : Prop := (∀ X ∈ Xs, X.ok) ∧ (Xs = [] ∨ ∃ g o, A = some ⟨g, o, none⟩ ∧ w.rangeAt g o (wisV Xs))
theorem WiRd.nil_ (w : World) (A : Option Addr) : WiRd w A [] := ⟨by simp, .inl rfl⟩
theorem WiRd.below {w w' : World} {A : Option Addr} {Xs : List WiD} (h : WiRd w A Xs) (hb : Below w.heap.size w w') : WiRd w' A Xs :=
  ⟨h.1, h.2.elim .inl fun ⟨g, o, e, hr⟩ => .inr ⟨g, o, e, hr.below hb⟩⟩
theorem WiRd.pick {w : World} {A : Option Addr} {Xs : List WiD} {n : Nat} (c : Nat) (h : WiRd w A Xs) (hn : Xs.length = n) {k : Nat} {X : WiD} (hk : Xs[k]? = some X) :
    ∃ g q, w.rangeAt g q X.cs.toList ∧ X.ok ∧ ∀ W : World, (Instr.indexAt 22 (.slice A n c) (.int .i64 (k : Int))).run Tryz.prog W = .ok (.pointer (some ⟨g, q, none⟩)) W := by
  obtain ⟨h1, rfl | ⟨g, o, rfl, h2⟩⟩ := h
  · simp at hk
  · refine ⟨g, o + k * 33, fun j v hj => by rw [Nat.add_assoc]; exact h2 _ _ (wisV_get Xs k X j v h1 hk hj), h1 X (List.mem_of_getElem? hk), fun W => ?_⟩
    obtain ⟨i0, hi, h33⟩ := Wi_info3
    have hlt : k < n := by rw [← hn]; exact (List.getElem?_eq_some_iff.1 hk).1
    have h1 : (0 : Int) ≤ (k : Int) ∧ (k : Int) < (n : Int) := by omega
    simp [Instr.indexAt, run_underlying Tryz.underlying22, asIntOf, h1, sizeOf, typeInfo, hi, h33, Addr.add_lit, Int.toNat_natCast]
    intro h2; omega
/-- A row of rows of one's own. -/
def WiOw (W : World) (base : Nat) (v : Value) (n : Nat) (Xs : List WiD) : Prop := W.ownsRow base 67 33 v n (wisV Xs)
theorem WiOw.rd {W : World} {base n : Nat} {v : Value} {Xs : List WiD} (h : WiOw W base v n Xs) (hK : ∀ X ∈ Xs, X.ok) : ∃ A c, v = .slice A n c ∧ Xs.length = n ∧ n ≤ c ∧ (A = none → n = 0 ∧ c = 0) ∧ WiRd W A Xs := by
  have hl : Xs.length = n := by
    have h1 : (wisV Xs).length = n * 33 := h.1
    rw [wisV_length Xs hK] at h1
    omega
  rcases h.2 with ⟨rfl, h0⟩ | ⟨g, cap, cur, rfl, _, hg, h3, _, _, ht⟩
  · subst h0
    exact ⟨none, 0, rfl, hl, Nat.le_refl _, fun _ => ⟨rfl, rfl⟩, hK, .inl (List.eq_nil_of_length_eq_zero hl)⟩
  · refine ⟨_, cap, rfl, hl, h3, (fun e => by cases e), hK, .inr ⟨g, 0, rfl, fun j v hj => ?_⟩⟩
    rw [← ht, List.getElem?_take] at hj
    split at hj
    · rw [cell_of_row W g (0 + j) cur _ _ hg, Nat.zero_add, ← Array.getElem?_toList]; exact hj
    · cases hj
theorem WiOw.below {W W' : World} {base n : Nat} {v : Value} {Xs : List WiD} (h : WiOw W base v n Xs) (hb : Below W.heap.size W W') : WiOw W' base v n Xs := own_below h hb
theorem WiOw.made (W : World) : WiOw (W.alloc (.cells #[] 67)) W.heap.size (.slice (some ⟨W.heap.size, 0, none⟩) 0 0) 0 [] :=
  World.ownsRow_made W #[] 0 (Nat.le_refl _) (by decide) rfl
theorem WiOw.none_ (W : World) (base : Nat) : WiOw W base (.slice none 0 0) 0 [] := ⟨rfl, .inl ⟨rfl, rfl⟩⟩
/-- A whole grant is loaded out of a row; out of its box; stored into its box. -/
theorem wpList_load_wir {w : World} {ops : Array Oper} {rest : List Oper} {o : Oper} {a : Act} {Q : Exit → Act → World → Prop} (hgd : Region.wanted o (yielded ops a.tmps) = true) (x : Operand) (ho : o.op = .load 67 x)
    (g q : Nat) {X : WiD} (hx : a.eval x = .pointer (some ⟨g, q, none⟩)) (hr : w.rangeAt g q X.cs.toList) (hK : X.ok)
    (h : wpList Tryz.prog ops Q rest (a.put o.dst (.agg X.cs)) w) : wpList Tryz.prog ops Q (o :: rest) a w := by
  refine wpList_load_if hgd 67 x ho g q hx X.cs.toList _ hr Tryz.underlying67 rfl ?_ ?_
  · rw [Array.length_toList]; exact Wi_info X hK
  · rw [Array.toArray_toList]; exact h
theorem wpList_store_win {w : World} {ops : Array Oper} {rest : List Oper} {o : Oper} {a : Act} {Q : Exit → Act → World → Prop} {old : Array Value} (hgd : o.guard = none) (x y : Operand) (ho : o.op = .store 67 x y)
    {X : WiD} (hx : a.eval x = .pointer (some ⟨w.heap.size, 0, none⟩)) (hy : a.eval y = .agg X.cs) (hK : X.ok) (hs : old.size = 33)
    (h : wpList Tryz.prog ops Q rest (a.put o.dst undef) (w.alloc (.cells X.cs 67))) : wpList Tryz.prog ops Q (o :: rest) a (w.alloc (.cells old 67)) :=
  wpList_store_new hgd 67 x y ho X.cs hx hy (Wi_info X hK) (by rw [WiD.size hK, hs]) X.one h
theorem WiOw.grown {W W' : World} {base n B : Nat} {v : Value} {Xs : List WiD} (h : WiOw W base v n Xs) (hg : W.grownBy W' v.ownBlock) (hB : B ≤ base) {w : World} (hb : Below B w W) (hs : B ≤ W.heap.size) : Below B w W' :=
  hb.grown hg hs (by intro k hk; have := (h.lt k hk).1; omega)
theorem Wv_infoN : (Tryz.prog.info? 68).map (·.size) = some 33 := by kernel_rfl
theorem Wv_info3 : ∃ i, Tryz.prog.info? 68 = some i ∧ i.size = 33 := by
  have h := Wv_infoN
  cases hq : Tryz.prog.info? 68 with
  | none => rw [hq] at h; cases h
  | some i => rw [hq] at h; simp at h; exact ⟨i, rfl, h⟩
theorem Wv_info4 : ∃ i Z, Tryz.prog.info? 68 = some i ∧ i.zero = some (.agg Z) ∧ i.size = 33 ∧ Z.size = 33 ∧ i.bytes ≤ 1000 := by
  obtain ⟨i, hi, h33⟩ := Wv_info3
  have h : (Tryz.prog.info? 68).map (fun i => decide (i.bytes ≤ 1000) && (match i.zero with | some (.agg Z) => Z.size == 33 | _ => false)) = some true := by kernel_rfl
  rw [hi, Option.map_some] at h
  simp only [Option.some.injEq, Bool.and_eq_true, decide_eq_true_eq] at h
  obtain ⟨h1, h2⟩ := h
  split at h2
  · rename_i Z hz
    exact ⟨i, Z, hi, hz, h33, by simpa using h2, h1⟩
  · cases h2
/-- A row's box. -/
structure WvX (W : World) (g : Nat) (X : WiD) : Prop where
  b : Blk W g 68 X.cs
theorem WvX.new (w : World) (X : WiD) : WvX (w.alloc (.cells X.cs 68)) w.heap.size X := ⟨Blk.new _ _ _⟩
section
variable {W : World} {g : Nat} {X : WiD}
theorem WvX.alloc (h : WvX W g X) (o : Obj) : WvX (W.alloc o) g X := ⟨h.b.alloc o⟩
theorem WvX.below {W' : World} (h : WvX W g X) (hb : Below W.heap.size W W') : WvX W' g X := ⟨h.b.below hb⟩
theorem WvX.c0 (h : WvX W g X) : W.cell? ⟨g, 0, none⟩ = some (.int .i64 X.l) := h.b.cell_ X.c0
theorem WvX.key (h : WvX W g X) : W.rangeAt g 1 (X.a.map u8v) := fun j u hj => h.b.cell_ (X.ckey j u hj)
end
theorem WiRd.pickV {w : World} {A : Option Addr} {Xs : List WiD} {n : Nat} (c : Nat) (h : WiRd w A Xs) (hn : Xs.length = n) {k : Nat} {X : WiD} (hk : Xs[k]? = some X) :
    ∃ g q, w.rangeAt g q X.cs.toList ∧ X.ok ∧ ∀ W : World, (Instr.indexAt 36 (.slice A n c) (.int .i64 (k : Int))).run Tryz.prog W = .ok (.pointer (some ⟨g, q, none⟩)) W := by
  obtain ⟨h1, rfl | ⟨g, o, rfl, h2⟩⟩ := h
  · simp at hk
  · refine ⟨g, o + k * 33, fun j v hj => by rw [Nat.add_assoc]; exact h2 _ _ (wisV_get Xs k X j v h1 hk hj), h1 X (List.mem_of_getElem? hk), fun W => ?_⟩
    obtain ⟨i0, hi, h33⟩ := Wv_info3
    have hlt : k < n := by rw [← hn]; exact (List.getElem?_eq_some_iff.1 hk).1
    have h1 : (0 : Int) ≤ (k : Int) ∧ (k : Int) < (n : Int) := by omega
    simp [Instr.indexAt, run_underlying Tryz.underlying36, asIntOf, h1, sizeOf, typeInfo, hi, h33, Addr.add_lit, Int.toNat_natCast]
    intro h2; omega
/-- A row of rows of one's own. -/
def WvOw (W : World) (base : Nat) (v : Value) (n : Nat) (Xs : List WiD) : Prop := W.ownsRow base 68 33 v n (wisV Xs)
theorem WvOw.rd {W : World} {base n : Nat} {v : Value} {Xs : List WiD} (h : WvOw W base v n Xs) (hK : ∀ X ∈ Xs, X.ok) : ∃ A c, v = .slice A n c ∧ Xs.length = n ∧ n ≤ c ∧ (A = none → n = 0 ∧ c = 0) ∧ WiRd W A Xs := by
  have hl : Xs.length = n := by
    have h1 : (wisV Xs).length = n * 33 := h.1
    rw [wisV_length Xs hK] at h1
    omega
  rcases h.2 with ⟨rfl, h0⟩ | ⟨g, cap, cur, rfl, _, hg, h3, _, _, ht⟩
  · subst h0
    exact ⟨none, 0, rfl, hl, Nat.le_refl _, fun _ => ⟨rfl, rfl⟩, hK, .inl (List.eq_nil_of_length_eq_zero hl)⟩
  · refine ⟨_, cap, rfl, hl, h3, (fun e => by cases e), hK, .inr ⟨g, 0, rfl, fun j v hj => ?_⟩⟩
    rw [← ht, List.getElem?_take] at hj
    split at hj
    · rw [cell_of_row W g (0 + j) cur _ _ hg, Nat.zero_add, ← Array.getElem?_toList]; exact hj
    · cases hj
theorem WvOw.below {W W' : World} {base n : Nat} {v : Value} {Xs : List WiD} (h : WvOw W base v n Xs) (hb : Below W.heap.size W W') : WvOw W' base v n Xs := own_below h hb
theorem WvOw.made (W : World) : WvOw (W.alloc (.cells #[] 68)) W.heap.size (.slice (some ⟨W.heap.size, 0, none⟩) 0 0) 0 [] :=
  World.ownsRow_made W #[] 0 (Nat.le_refl _) (by decide) rfl
theorem WvOw.none_ (W : World) (base : Nat) : WvOw W base (.slice none 0 0) 0 [] := ⟨rfl, .inl ⟨rfl, rfl⟩⟩
theorem wp_append_wv {w : World} {o : Oper} {a : Act} {K : Act → World → Prop} {Q : Exit → Act → World → Prop} (s x : Operand)
    (ho : o.op = .call { callee := .builtin .append, args := #[s, x], argTypes := #[36, 36] })
    (base : Nat) (v : Value) (n : Nat) (Os : List WiD) (hs : a.eval s = v) (hown : WvOw w base v n Os)
    (A : Option Addr) (m c : Nat) (Xs : List WiD) (hx : a.eval x = .slice A m c) (hm : Xs.length = m) (hA : A = none → m = 0 ∧ c = 0) (hr : WiRd w A Xs) (hn : n + m ≤ 1000) (hbase : base ≤ w.heap.size)
    (h : ∀ v' w', WvOw w' base v' (n + m) (Os ++ Xs) → w.grownBy w' v.ownBlock → K (a.put o.dst v') w') : o.wp Tryz.prog a w K Q := by
  obtain ⟨j0, Z, hj, hjz, hjs, hZ, hjb⟩ := Wv_info4
  cases A with
  | none =>
    obtain ⟨rfl, rfl⟩ := hA rfl
    obtain rfl : Xs = [] := List.eq_nil_of_length_eq_zero hm
    have hrun := run_append_owned_none (P := Tryz.prog) w base 36 o.type 68 j0 33 Tryz.underlying36 hj v n (wisV Os) hown
    unfold Oper.wp execOp
    simp only [ho, resolve, invoke, builtin, Sem.run_bind, Sem.run_pure, Result.andThen_ok, List.map_toArray, List.map_cons, List.map_nil, hs, hx, hrun]
    exact h v w (by rw [List.append_nil]; exact hown) ⟨rfl, rfl, rfl, Nat.le_refl _, fun _ _ _ => rfl⟩
  | some ad =>
    have hlen := wisV_length Xs hr.1
    rw [hm] at hlen
    refine wp_append_own w s x 36 ho base 68 j0 (.agg Z) 33 j0.bytes Tryz.underlying36 hj hjz hjs rfl hZ (by decide) v n (wisV Os) hs hown ad m c (wisV Xs) hx hlen ?_ (wisV_one Xs) (by unfold maxLen; omega) (Nat.le_trans (Nat.mul_le_mul hn hjb) (by decide)) hbase (fun v' w' h1 h2 _ => h v' w' (by unfold WvOw; rw [wisV_append]; exact h1) h2)
    rcases hr.2 with rfl | ⟨g, o, h, hr2⟩
    · intro j u h; simp [wisV] at h
    · cases h
      intro j u hju
      rw [Addr.add_lit]
      exact hr2 j u hju
theorem wpList_append_wv {w : World} {ops : Array Oper} {rest : List Oper} {o : Oper} {a : Act} {Q : Exit → Act → World → Prop} (hgd : o.guard = none) (s x : Operand)
    (ho : o.op = .call { callee := .builtin .append, args := #[s, x], argTypes := #[36, 36] })
    (base : Nat) (v : Value) (n : Nat) (Os : List WiD) (hs : a.eval s = v) (hown : WvOw w base v n Os)
    (A : Option Addr) (m c : Nat) (Xs : List WiD) (hx : a.eval x = .slice A m c) (hm : Xs.length = m) (hA : A = none → m = 0 ∧ c = 0) (hr : WiRd w A Xs) (hn : n + m ≤ 1000) (hbase : base ≤ w.heap.size)
    (h : ∀ v' w', WvOw w' base v' (n + m) (Os ++ Xs) → w.grownBy w' v.ownBlock → wpList Tryz.prog ops Q rest (a.put o.dst v') w') : wpList Tryz.prog ops Q (o :: rest) a w :=
  wpList_plain hgd fun _ hK => wp_append_wv s x ho base v n Os hs hown A m c Xs hx hm hA hr hn hbase fun v' w' h1 h2 => hK _ _ (h v' w' h1 h2)
theorem WvOw.grown {W W' : World} {base n B : Nat} {v : Value} {Xs : List WiD} (h : WvOw W base v n Xs) (hg : W.grownBy W' v.ownBlock) (hB : B ≤ base) {w : World} (hb : Below B w W) (hs : B ≤ W.heap.size) : Below B w W' :=
  hb.grown hg hs (by intro k hk; have := (h.lt k hk).1; omega)
def WiRow (w : World) (A : Option Addr) (len : Nat) (Xs : List WiD) : Prop := Xs.length = len ∧ len ≤ maxLen ∧ WiRd w A Xs
theorem wisV_snoc (Xs : List WiD) (X : WiD) : wisV (Xs ++ [X]) = wisV Xs ++ X.cs.toList := by simp [wisV]
section
open Go.ChangeShapes Go.WideShapes Go.ChangeAt
variable {H : Type} {enc : TypeId × Value → H} {w : World} {r : Reach} {base b0 : Nat} {sp : Nat → Bool} {hd : Bool}
end
end Go.Proofs.YticpdepbgcagaaaGreat

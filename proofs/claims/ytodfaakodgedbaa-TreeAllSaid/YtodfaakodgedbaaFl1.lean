
/- Rows of files: read, built, appended to. -/
import Derived.Test.YtodfaakodgedbaaRo7
set_option linter.unusedSimpArgs false
set_option linter.unusedVariables false
namespace Go.Proofs.Ytodfaakodgedbaa
open Go.RowKit Go.Qc Go.Shelf
attribute [local go_sem] txt_size txt_append ib_fold txt_toL

/-- A file, as data. -/
abbrev FD := List UInt8 × List (List UInt8)
/-- A file with its lines' place. -/
structure FlV where
  p : List UInt8
  l : List (List UInt8)
  A : Option Addr
  n : Nat
  c : Nat
def FlV.D (X : FlV) : FD := (X.p, X.l)
def FlV.cs (X : FlV) : List Value := [.string (txt X.p), .slice X.A X.n X.c]
def flsV (Xs : List FlV) : List Value := Xs.flatMap FlV.cs
theorem flsV_cons (X : FlV) (Xs : List FlV) : flsV (X :: Xs) = X.cs ++ flsV Xs := by simp [flsV]
theorem flsV_append (Xs Ys : List FlV) : flsV (Xs ++ Ys) = flsV Xs ++ flsV Ys := by simp [flsV]
theorem flsV_length : ∀ (Xs : List FlV), (flsV Xs).length = Xs.length * 2
  | [] => rfl
  | X :: Xs => by
    rw [flsV_cons, List.length_append, flsV_length Xs, List.length_cons]
    have : X.cs.length = 2 := rfl
    omega
theorem flsV_get : ∀ (Xs : List FlV) (k : Nat) (X : FlV) (j : Nat) (v : Value), Xs[k]? = some X → X.cs[j]? = some v → (flsV Xs)[k * 2 + j]? = some v
  | [], k, X, j, v, hk, _ => by simp at hk
  | Y :: Xs, 0, X, j, v, hk, hj => by
    simp at hk
    subst hk
    rw [flsV_cons, Nat.zero_mul, Nat.zero_add, List.getElem?_append_left (List.getElem?_eq_some_iff.1 hj).1]
    exact hj
  | Y :: Xs, k + 1, X, j, v, hk, hj => by
    have hb : Y.cs.length = 2 := rfl
    rw [List.getElem?_cons_succ] at hk
    rw [flsV_cons, List.getElem?_append_right (by omega), hb, show (k + 1) * 2 + j - 2 = k * 2 + j by omega]
    exact flsV_get Xs k X j v hk hj
theorem flsV_one (Xs : List FlV) : ∀ u ∈ flsV Xs, u.oneCell' = true := by
  intro u hu
  simp only [flsV, List.mem_flatMap] at hu
  obtain ⟨X, _, hu⟩ := hu
  simp only [FlV.cs, List.mem_cons, List.not_mem_nil, or_false] at hu
  rcases hu with rfl | rfl <;> rfl
/-- A row of files lies at A. -/
def FlRd (w : World) (A : Option Addr) (Xs : List FlV) : Prop := Xs = [] ∨ ∃ g o, A = some ⟨g, o, none⟩ ∧ w.rangeAt g o (flsV Xs)
theorem FlRd.below {w w' : World} {A : Option Addr} {Xs : List FlV} (h : FlRd w A Xs) (hb : Below w.heap.size w w') : FlRd w' A Xs :=
  h.imp id fun ⟨g, o, e, hr⟩ => ⟨g, o, e, hr.below hb⟩
/-- A file whose lines are read. -/
structure FlOk (w : World) (X : FlV) : Prop where
  ln : X.l.length = X.n
  bn : X.n ≤ 1000
  bx : ∀ x ∈ X.l, x.length ≤ 1000
  bp : X.p.length ≤ 1000
  rA : Rd w X.A (X.l.map strV)
theorem FlOk.below {w w' : World} {X : FlV} (h : FlOk w X) (hb : Below w.heap.size w w') : FlOk w' X := ⟨h.ln, h.bn, h.bx, h.bp, h.rA.below hb⟩
theorem infoFlz : (Try.prog.info? 51).map (fun i => (i.zero, i.size)) = some (some (.agg #[.string ⟨#[]⟩, .slice none 0 0]), 2) := by kernel_rfl
theorem infoFl4 : ∃ i Z, Try.prog.info? 51 = some i ∧ i.zero = some (.agg Z) ∧ i.size = 2 ∧ Z.size = 2 ∧ i.bytes ≤ 1000 := by
  have h := infoFlz
  cases hq : Try.prog.info? 51 with
  | none => rw [hq] at h; cases h
  | some i =>
    rw [hq] at h
    simp only [Option.map_some, Option.some.injEq, Prod.mk.injEq] at h
    have h2 : (Try.prog.info? 51).map (fun i => decide (i.bytes ≤ 1000)) = some true := by kernel_rfl
    rw [hq, Option.map_some] at h2
    exact ⟨i, _, rfl, h.1, h.2, rfl, by simpa using h2⟩
theorem infoFl : (Try.prog.info? 51).map (·.size) = some 2 := by kernel_rfl
theorem FlRd.pick {w : World} {A : Option Addr} {Xs : List FlV} {n : Nat} (c : Nat) (h : FlRd w A Xs) (hn : Xs.length = n) {k : Nat} {X : FlV} (hk : Xs[k]? = some X) :
    ∃ g q, w.rangeAt g q X.cs ∧ w.cell? ⟨g, q, none⟩ = some (.string (txt X.p)) ∧ w.cell? ⟨g, q + 1, none⟩ = some (.slice X.A X.n X.c) ∧ ∀ W : World, (Instr.indexAt 31 (.slice A n c) (.int .i64 (k : Int))).run Try.prog W = .ok (.pointer (some ⟨g, q, none⟩)) W := by
  rcases h with rfl | ⟨g, o, rfl, h2⟩
  · simp at hk
  · have hR : w.rangeAt g (o + k * 2) X.cs := fun j v hj => by rw [Nat.add_assoc]; exact h2 _ _ (flsV_get Xs k X j v hk hj)
    refine ⟨g, o + k * 2, hR, hR 0 _ rfl, hR 1 _ rfl, fun W => ?_⟩
    obtain ⟨i0, Z, hi, _, h39, _⟩ := infoFl4
    have hlt : k < n := by rw [← hn]; exact (List.getElem?_eq_some_iff.1 hk).1
    have h1 : (0 : Int) ≤ (k : Int) ∧ (k : Int) < (n : Int) := by omega
    simp [Instr.indexAt, run_underlying Try.underlying31, asIntOf, h1, sizeOf, typeInfo, hi, h39, Addr.add_lit, Int.toNat_natCast]
    intro h2; omega
theorem wpList_load_fl {ops : Array Oper} {rest : List Oper} {o : Oper} {a : Act} {w : World} {Q : Exit → Act → World → Prop} (hw : Region.wanted o (yielded ops a.tmps) = true) (x : Operand) (ho : o.op = .load 51 x)
    (g q : Nat) (hx : a.eval x = .pointer (some ⟨g, q, none⟩)) (X : FlV) (hX : w.rangeAt g q X.cs)
    (h : wpList Try.prog ops Q rest (a.put o.dst (.agg #[.string (txt X.p), .slice X.A X.n X.c])) w) : wpList Try.prog ops Q (o :: rest) a w :=
  wpList_load_if hw 51 x ho g q hx X.cs _ hX Try.underlying51 rfl infoFl h
/-- A row of files of one's own. -/
def OwnF (W : World) (base : Nat) (v : Value) (n : Nat) (Xs : List FlV) : Prop := W.ownsRow base 51 2 v n (flsV Xs)
theorem OwnF.made (W : World) : OwnF (W.alloc (.cells #[] 51)) W.heap.size (.slice (some ⟨W.heap.size, 0, none⟩) 0 0) 0 [] :=
  World.ownsRow_made W #[] 0 (Nat.le_refl _) (by decide) rfl
theorem OwnF.below {W W' : World} {base n : Nat} {v : Value} {Xs : List FlV} (h : OwnF W base v n Xs) (hb : Below W.heap.size W W') : OwnF W' base v n Xs := own_below h hb
theorem OwnF.block {W : World} {base n : Nat} {v : Value} {Xs : List FlV} (h : OwnF W base v n Xs) {k : Nat} (hk : v.ownBlock = some k) : base ≤ k := by
  rcases h.2 with ⟨rfl, _⟩ | ⟨g, cap, cur, rfl, h1, _⟩
  · cases hk
  · simp [Value.ownBlock] at hk; omega
theorem OwnF.grown {W W' : World} {base n B : Nat} {v : Value} {Xs : List FlV} (h : OwnF W base v n Xs) (hg : W.grownBy W' v.ownBlock) (hB : B ≤ base) {w : World} (hb : Below B w W) (hs : B ≤ W.heap.size) : Below B w W' :=
  hb.grown hg hs (by intro k hk; have := h.block hk; omega)
theorem OwnF.rd {W : World} {base n : Nat} {v : Value} {Xs : List FlV} (h : OwnF W base v n Xs) : ∃ A c, v = .slice A n c ∧ Xs.length = n ∧ FlRd W A Xs := by
  have hl : Xs.length = n := by
    have h1 : (flsV Xs).length = n * 2 := h.1
    rw [flsV_length Xs] at h1
    omega
  rcases h.2 with ⟨rfl, h0⟩ | ⟨g, cap, cur, rfl, _, hg, _, _, _, ht⟩
  · subst h0
    exact ⟨none, 0, rfl, hl, .inl (List.eq_nil_of_length_eq_zero hl)⟩
  · refine ⟨_, cap, rfl, hl, .inr ⟨g, 0, rfl, fun j v hj => ?_⟩⟩
    rw [← ht, List.getElem?_take] at hj
    split at hj
    · rw [cell_of_row W g (0 + j) cur _ _ hg, Nat.zero_add, ← Array.getElem?_toList]; exact hj
    · cases hj
theorem wpList_append_fl {w : World} {ops : Array Oper} {rest : List Oper} {o : Oper} {a : Act} {Q : Exit → Act → World → Prop} (hgd : o.guard = none) (s x : Operand)
    (ho : o.op = .call { callee := .builtin .append, args := #[s, x], argTypes := #[31, 31] })
    (base : Nat) (v : Value) (n : Nat) (Os : List FlV) (hs : a.eval s = v) (hown : OwnF w base v n Os)
    (g : Nat) (X : FlV) (hx : a.eval x = .slice (some ⟨g, 0, none⟩) 1 1) (hr : w.rangeAt g 0 X.cs) (hn : n + 1 ≤ 1000) (hbase : base ≤ w.heap.size)
    (h : ∀ v' w', OwnF w' base v' (n + 1) (Os ++ [X]) → w.grownBy w' v.ownBlock → wpList Try.prog ops Q rest (a.put o.dst v') w') : wpList Try.prog ops Q (o :: rest) a w := by
  obtain ⟨j0, Z, hj, hjz, hjs, hZ, hjb⟩ := infoFl4
  refine wpList_append_own w hgd s x 31 ho base 51 j0 (.agg Z) 2 j0.bytes Try.underlying31 hj hjz hjs rfl hZ (by decide) v n (flsV Os) hs hown ⟨g, 0, none⟩ 1 1 (flsV [X]) hx (flsV_length [X]) (fun j u hju => ?_) (flsV_one [X]) (by unfold maxLen; omega) (Nat.le_trans (Nat.mul_le_mul hn hjb) (by decide)) hbase (fun v' w' h1 h2 _ => h v' w' (by unfold OwnF; rw [flsV_append]; exact h1) h2)
  rw [Addr.add_lit]
  exact hr j u (by simpa [flsV] using hju)
theorem wpList_append_fl1 {W : World} {ops : Array Oper} {rest : List Oper} {o : Oper} {a : Act} {Q : Exit → Act → World → Prop} (hgd : o.guard = none) (s x : Operand)
    (ho : o.op = .call { callee := .builtin .append, args := #[s, x], argTypes := #[31, 31] })
    (base : Nat) (v : Value) (n : Nat) (Os : List FlV) (hs : a.eval s = v) (hown : OwnF W base v n Os)
    (X : FlV) (hx : a.eval x = .slice (some ⟨W.heap.size, 0, none⟩) 1 1) (hn : n + 1 ≤ 1000) (hbase : base ≤ W.heap.size)
    (h : ∀ v' w', OwnF w' base v' (n + 1) (Os ++ [X]) → (∀ (B : Nat) (w0 : World), B ≤ base → Below B w0 W → Below B w0 w') → wpList Try.prog ops Q rest (a.put o.dst v') w') : wpList Try.prog ops Q (o :: rest) a (W.alloc (.cells #[.string (txt X.p), .slice X.A X.n X.c] 51)) := by
  have hal := (Below.refl W.heap.size W).alloc (Nat.le_refl _) (.cells #[.string (txt X.p), .slice X.A X.n X.c] 51)
  have hown2 := hown.below hal
  refine wpList_append_fl hgd s x ho base v n Os hs hown2 W.heap.size X hx (fun j u hj => ?_) hn (Nat.le_trans hbase hal.size) (fun v' w' h1 h2 => h v' w' h1 (fun B w0 hB hb => ?_))
  · rw [Nat.zero_add]
    exact (Blk.new W 51 _).cell_ (by rw [← Array.getElem?_toList]; exact hj)
  · exact hown2.grown h2 hB (hb.alloc (Nat.le_trans hB hbase) _) (Nat.le_trans (Nat.le_trans hB hbase) hal.size)

end Go.Proofs.Ytodfaakodgedbaa

/- tree: files of the program, rows of them. -/
import Derived.Test.YtodfaakodgedbaaFl5
import Derived.Shelf.Small.Strs
import Derived.Shelf.Small.Wraps
import Derived.StillTailTactics
import Derived.Shelf.Spec.SlicesGrow
set_option linter.unusedSimpArgs false
set_option linter.unusedVariables false
namespace Go.Proofs.Ytodfaakodgedbaa
open Go.RowKit Go.Qc Go.Shelf
attribute [local go_sem] txt_size txt_append ib_fold txt_toL

theorem infoTfz : (Try.prog.info? 54).map (fun i => (i.zero, i.size)) = some (some (.agg #[.string ⟨#[]⟩, .slice none 0 0]), 2) := by kernel_rfl
theorem infoTf4 : ∃ i Z, Try.prog.info? 54 = some i ∧ i.zero = some (.agg Z) ∧ i.size = 2 ∧ Z.size = 2 ∧ i.bytes ≤ 1000 := by
  have h := infoTfz
  cases hq : Try.prog.info? 54 with
  | none => rw [hq] at h; cases h
  | some i =>
    rw [hq] at h
    simp only [Option.map_some, Option.some.injEq, Prod.mk.injEq] at h
    have h2 : (Try.prog.info? 54).map (fun i => decide (i.bytes ≤ 1000)) = some true := by kernel_rfl
    rw [hq, Option.map_some] at h2
    exact ⟨i, _, rfl, h.1, h.2, rfl, by simpa using h2⟩
theorem infoTf : (Try.prog.info? 54).map (·.size) = some 2 := by kernel_rfl
theorem FlRd.nil_ (w : World) (A : Option Addr) : FlRd w A [] := .inl rfl
theorem FlRd.pickT {w : World} {A : Option Addr} {Xs : List FlV} {n : Nat} (c : Nat) (h : FlRd w A Xs) (hn : Xs.length = n) {k : Nat} {X : FlV} (hk : Xs[k]? = some X) :
    ∃ g q, w.rangeAt g q X.cs ∧ w.cell? ⟨g, q, none⟩ = some (.string (txt X.p)) ∧ w.cell? ⟨g, q + 1, none⟩ = some (.slice X.A X.n X.c) ∧ ∀ W : World, (Instr.indexAt 25 (.slice A n c) (.int .i64 (k : Int))).run Try.prog W = .ok (.pointer (some ⟨g, q, none⟩)) W := by
  rcases h with rfl | ⟨g, o, rfl, h2⟩
  · simp at hk
  · have hR : w.rangeAt g (o + k * 2) X.cs := fun j v hj => by rw [Nat.add_assoc]; exact h2 _ _ (flsV_get Xs k X j v hk hj)
    refine ⟨g, o + k * 2, hR, hR 0 _ rfl, hR 1 _ rfl, fun W => ?_⟩
    obtain ⟨i0, Z, hi, _, h39, _⟩ := infoTf4
    have hlt : k < n := by rw [← hn]; exact (List.getElem?_eq_some_iff.1 hk).1
    have h1 : (0 : Int) ≤ (k : Int) ∧ (k : Int) < (n : Int) := by omega
    simp [Instr.indexAt, run_underlying Try.underlying25, asIntOf, h1, sizeOf, typeInfo, hi, h39, Addr.add_lit, Int.toNat_natCast]
    intro h2; omega
theorem FlRd.uptoT {w : World} {A : Option Addr} {Xs Ys : List FlV} (h : FlRd w A (Xs ++ Ys)) : FlRd w A Xs := by
  rcases h with h2 | ⟨g, o, rfl, h2⟩
  · exact .inl (List.append_eq_nil_iff.1 h2).1
  · exact .inr ⟨g, o, rfl, fun j v hj => h2 j v (by rw [flsV_append, List.getElem?_append_left (List.getElem?_eq_some_iff.1 hj).1]; exact hj)⟩
theorem wpList_load_tf {ops : Array Oper} {rest : List Oper} {o : Oper} {a : Act} {w : World} {Q : Exit → Act → World → Prop} (hw : Region.wanted o (yielded ops a.tmps) = true) (x : Operand) (ho : o.op = .load 54 x)
    (g q : Nat) (hx : a.eval x = .pointer (some ⟨g, q, none⟩)) (X : FlV) (hX : w.rangeAt g q X.cs)
    (h : wpList Try.prog ops Q rest (a.put o.dst (.agg #[.string (txt X.p), .slice X.A X.n X.c])) w) : wpList Try.prog ops Q (o :: rest) a w :=
  wpList_load_if hw 54 x ho g q hx X.cs _ hX Try.underlying54 rfl infoTf h
/-- A row of the program's files of one's own. -/
def OwnT (W : World) (base : Nat) (v : Value) (n : Nat) (Xs : List FlV) : Prop := W.ownsRow base 54 2 v n (flsV Xs)
theorem OwnT.made (W : World) : OwnT (W.alloc (.cells #[] 54)) W.heap.size (.slice (some ⟨W.heap.size, 0, none⟩) 0 0) 0 [] :=
  World.ownsRow_made W #[] 0 (Nat.le_refl _) (by decide) rfl
theorem OwnT.none_ (W : World) (base : Nat) : OwnT W base (.slice none 0 0) 0 [] := ⟨rfl, .inl ⟨rfl, rfl⟩⟩
theorem OwnT.below {W W' : World} {base n : Nat} {v : Value} {Xs : List FlV} (h : OwnT W base v n Xs) (hb : Below W.heap.size W W') : OwnT W' base v n Xs := own_below h hb
theorem OwnT.grown {W W' : World} {base n B : Nat} {v : Value} {Xs : List FlV} (h : OwnT W base v n Xs) (hg : W.grownBy W' v.ownBlock) (hB : B ≤ base) {w : World} (hb : Below B w W) (hs : B ≤ W.heap.size) : Below B w W' :=
  hb.grown hg hs (by intro k hk; have := (h.lt k hk).1; omega)
theorem OwnT.rd {W : World} {base n : Nat} {v : Value} {Xs : List FlV} (h : OwnT W base v n Xs) : ∃ A c, v = .slice A n c ∧ Xs.length = n ∧ n ≤ c ∧ (A = none → n = 0 ∧ c = 0) ∧ FlRd W A Xs := by
  have hl : Xs.length = n := by
    have h1 : (flsV Xs).length = n * 2 := h.1
    rw [flsV_length Xs] at h1
    omega
  rcases h.2 with ⟨rfl, h0⟩ | ⟨g, cap, cur, rfl, _, hg, h3, _, _, ht⟩
  · subst h0
    exact ⟨none, 0, rfl, hl, Nat.le_refl _, fun _ => ⟨rfl, rfl⟩, .inl (List.eq_nil_of_length_eq_zero hl)⟩
  · refine ⟨_, cap, rfl, hl, h3, (fun e => by cases e), .inr ⟨g, 0, rfl, fun j v hj => ?_⟩⟩
    rw [← ht, List.getElem?_take] at hj
    split at hj
    · rw [cell_of_row W g (0 + j) cur _ _ hg, Nat.zero_add, ← Array.getElem?_toList]; exact hj
    · cases hj
theorem wp_append_tf {w : World} {o : Oper} {a : Act} {K : Act → World → Prop} {Q : Exit → Act → World → Prop} (s x : Operand)
    (ho : o.op = .call { callee := .builtin .append, args := #[s, x], argTypes := #[25, 25] })
    (base : Nat) (v : Value) (n : Nat) (Os : List FlV) (hs : a.eval s = v) (hown : OwnT w base v n Os)
    (A : Option Addr) (m c : Nat) (Xs : List FlV) (hx : a.eval x = .slice A m c) (hm : Xs.length = m) (hA : A = none → m = 0 ∧ c = 0) (hr : FlRd w A Xs) (hn : n + m ≤ 1000) (hbase : base ≤ w.heap.size)
    (h : ∀ v' w', OwnT w' base v' (n + m) (Os ++ Xs) → w.grownBy w' v.ownBlock → K (a.put o.dst v') w') : o.wp Try.prog a w K Q := by
  obtain ⟨j0, Z, hj, hjz, hjs, hZ, hjb⟩ := infoTf4
  cases A with
  | none =>
    obtain ⟨rfl, rfl⟩ := hA rfl
    obtain rfl : Xs = [] := List.eq_nil_of_length_eq_zero hm
    have hrun := run_append_owned_none (P := Try.prog) w base 25 o.type 54 j0 2 Try.underlying25 hj v n (flsV Os) hown
    unfold Oper.wp execOp
    simp only [ho, resolve, invoke, builtin, Sem.run_bind, Sem.run_pure, Result.andThen_ok, List.map_toArray, List.map_cons, List.map_nil, hs, hx, hrun]
    exact h v w (by rw [List.append_nil]; exact hown) ⟨rfl, rfl, rfl, Nat.le_refl _, fun _ _ _ => rfl⟩
  | some ad =>
    have hlen := flsV_length Xs
    rw [hm] at hlen
    refine wp_append_own w s x 25 ho base 54 j0 (.agg Z) 2 j0.bytes Try.underlying25 hj hjz hjs rfl hZ (by decide) v n (flsV Os) hs hown ad m c (flsV Xs) hx hlen ?_ (flsV_one Xs) (by unfold maxLen; omega) (Nat.le_trans (Nat.mul_le_mul hn hjb) (by decide)) hbase (fun v' w' h1 h2 _ => h v' w' (by unfold OwnT; rw [flsV_append]; exact h1) h2)
    rcases hr with rfl | ⟨g, o, h, hr2⟩
    · intro j u h; simp [flsV] at h
    · cases h
      intro j u hju
      rw [Addr.add_lit]
      exact hr2 j u hju
theorem wpList_append_tf {w : World} {ops : Array Oper} {rest : List Oper} {o : Oper} {a : Act} {Q : Exit → Act → World → Prop} (hgd : o.guard = none) (s x : Operand)
    (ho : o.op = .call { callee := .builtin .append, args := #[s, x], argTypes := #[25, 25] })
    (base : Nat) (v : Value) (n : Nat) (Os : List FlV) (hs : a.eval s = v) (hown : OwnT w base v n Os)
    (A : Option Addr) (m c : Nat) (Xs : List FlV) (hx : a.eval x = .slice A m c) (hm : Xs.length = m) (hA : A = none → m = 0 ∧ c = 0) (hr : FlRd w A Xs) (hn : n + m ≤ 1000) (hbase : base ≤ w.heap.size)
    (h : ∀ v' w', OwnT w' base v' (n + m) (Os ++ Xs) → w.grownBy w' v.ownBlock → wpList Try.prog ops Q rest (a.put o.dst v') w') : wpList Try.prog ops Q (o :: rest) a w :=
  wpList_plain hgd fun _ hK => wp_append_tf s x ho base v n Os hs hown A m c Xs hx hm hA hr hn hbase fun v' w' h1 h2 => hK _ _ (h v' w' h1 h2)
theorem tf_sl_to (A : Option Addr) (n c k : Nat) (hA : A = none → n = 0 ∧ c = 0) (hk : k ≤ n) (hc : n ≤ c) (Xs : List FlV) (hn : Xs.length = n) : (∀ W, (Instr.sliceAt 25 (.slice A n c) none (some (.int .i64 (k : Int))) none).run Try.prog W = .ok (.slice A k c) W) ∧ (A = none → k = 0 ∧ c = 0) ∧ ∀ w, FlRd w A Xs → FlRd w A (Xs.take k) := by
  obtain ⟨i0, Z, hi, _, h66, _⟩ := infoTf4
  have h1 : (0 : Int) ≤ (k : Int) ∧ (k : Int) ≤ (c : Int) := by omega
  refine ⟨fun W => ?_, fun e => ⟨by have := (hA e).1; omega, (hA e).2⟩, fun w h => FlRd.uptoT (Ys := Xs.drop k) (by rw [List.take_append_drop]; exact h)⟩
  cases A with
  | none =>
    obtain ⟨rfl, rfl⟩ := hA rfl
    obtain rfl : k = 0 := by omega
    simp [Instr.sliceAt, Instr.slice, Instr.sliceBounds, run_underlying Try.underlying25, run_sliceBound, sizeOf, typeInfo, hi, h66, Addr.add_lit, Int.toNat_natCast]
  | some ad =>
    simp [Instr.sliceAt, Instr.slice, Instr.sliceBounds, run_underlying Try.underlying25, run_sliceBound, h1, sizeOf, typeInfo, hi, h66, Addr.add_lit, Int.toNat_natCast]
    all_goals first | omega | (intro _; simp [Addr.add]) | skip
theorem tf_sl_from (A : Option Addr) (n c k : Nat) (hA : A = none → n = 0 ∧ c = 0) (hk : k ≤ n) (hc : n ≤ c) (Xs : List FlV) (hn : Xs.length = n) (w0 : World) (h0 : FlRd w0 A Xs) : ∃ A', (∀ W, (Instr.sliceAt 25 (.slice A n c) (some (.int .i64 (k : Int))) none none).run Try.prog W = .ok (.slice A' (n - k) (c - k)) W) ∧ (A' = none → n - k = 0 ∧ c - k = 0) ∧ ∀ w, Below w0.heap.size w0 w → FlRd w A' (Xs.drop k) := by
  obtain ⟨i0, Z, hi, _, h66, _⟩ := infoTf4
  have h1 : (0 : Int) ≤ (k : Int) ∧ (k : Int) ≤ (n : Int) := by omega
  cases A with
  | none =>
    obtain ⟨rfl, rfl⟩ := hA rfl
    obtain rfl : k = 0 := by omega
    refine ⟨none, fun W => ?_, fun _ => ⟨rfl, rfl⟩, fun w hw => ?_⟩
    · simp [Instr.sliceAt, Instr.slice, Instr.sliceBounds, run_underlying Try.underlying25, run_sliceBound, sizeOf, typeInfo, hi, h66, Addr.add_lit, Int.toNat_natCast]
    · rw [List.eq_nil_of_length_eq_zero hn]; exact FlRd.nil_ _ _
  | some ad =>
    by_cases hkc : c = k
    · subst hkc
      have hd : Xs.drop c = [] := List.drop_of_length_le (by omega)
      refine ⟨some ad, fun W => ?_, fun e => (by cases e), fun w hw => by rw [hd]; exact FlRd.nil_ _ _⟩
      simp [Instr.sliceAt, Instr.slice, Instr.sliceBounds, run_underlying Try.underlying25, run_sliceBound, h1, sizeOf, typeInfo, hi, h66, Addr.add_lit, Int.toNat_natCast]
      all_goals first | omega | skip
    · rcases h0 with h | ⟨g, q, e, hr⟩
      · subst h
        obtain rfl : n = 0 := hn.symm
        obtain rfl : k = 0 := by omega
        refine ⟨some ad, fun W => ?_, fun e => (by cases e), fun w hw => FlRd.nil_ _ _⟩
        simp [Instr.sliceAt, Instr.slice, Instr.sliceBounds, run_underlying Try.underlying25, run_sliceBound, h1, sizeOf, typeInfo, hi, h66, Addr.add_lit, Int.toNat_natCast, hkc, Addr.add]
      · cases e
        refine ⟨some ⟨g, q + k * 2, none⟩, fun W => ?_, fun e => (by cases e), fun w hw => .inr ⟨g, q + k * 2, rfl, fun j v hj => ?_⟩⟩
        · simp [Instr.sliceAt, Instr.slice, Instr.sliceBounds, run_underlying Try.underlying25, run_sliceBound, h1, sizeOf, typeInfo, hi, h66, Addr.add_lit, Int.toNat_natCast, hkc]
          all_goals first | omega | skip
        · have e1 : (flsV Xs)[k * 2 + j]? = some v := by
            have e2 : flsV Xs = flsV (Xs.take k) ++ flsV (Xs.drop k) := by rw [← flsV_append, List.take_append_drop]
            have e3 := flsV_length (Xs.take k)
            rw [List.length_take, Nat.min_eq_left (by omega)] at e3
            rw [e2, List.getElem?_append_right (by omega), e3, show k * 2 + j - k * 2 = j by omega]
            exact hj
          rw [Nat.add_assoc]
          exact (hr.below hw) _ _ e1
/-- A file's box. -/
theorem FlV.range {W : World} {g : Nat} {X : FlV} (h : Blk W g 54 #[.string (txt X.p), .slice X.A X.n X.c]) : W.rangeAt g 0 X.cs := fun j v hj => by
  rw [Nat.zero_add]
  exact h.cell_ (by rw [← Array.getElem?_toList]; exact hj)
end Go.Proofs.Ytodfaakodgedbaa
/- tree: where a path stands among files: slices.BinarySearchFunc, find. -/
set_option linter.unusedSimpArgs false
set_option linter.unusedVariables false
namespace Go.Proofs.Ytodfaakodgedbaa
open Go.RowKit Go.Qc Go.Shelf
attribute [local go_sem] txt_size txt_append ib_fold txt_toL

def lays106t_ren : Go.Shelf.Ren := ⟨fun | 106 => 36 | 213 => 54 | 265 => 67 | n => n, fun | 9 => 9 | 3 => 3 | n => n, fun | n => n⟩
theorem lays106t : Go.Proofs.Lays.n106 Try.prog lays106t_ren := {
  mixed := by kernel_rfl
  f106 := Try.func36.trans (congrArg some (by kernel_rfl))
  f213 := Try.func54.trans (congrArg some (by kernel_rfl))
  f265 := Try.func67.trans (congrArg some (by kernel_rfl))
  t3 := Try.underlying3
  a3 := Try.isAgg3
  z3 := Try.sizeOf3
  v3 := Try.zeroValue3
  t9 := Try.underlying9
  a9 := Try.isAgg9
  z9 := Try.sizeOf9
  v9 := Try.zeroValue9 }
theorem tscmp_any (s t : List UInt8) (w : World) : Calls Try.prog 36 #[.string (txt s), .string (txt t)] w fun e w' => e = .returned (.int .i64 (Lib.compareBytes s t)) ∧ w' = w := by
  have := Any.strings_Compare lays106t (txt s) (txt t) w
  rw [txt_data, txt_data] at this
  exact this
theorem blT_cmp : ∀ (a b : List UInt8), Go.Op.bytesLess a b = decide (Lib.compareBytes a b < 0)
  | [], [] => rfl
  | [], _ :: _ => rfl
  | _ :: _, [] => rfl
  | a :: x, b :: y => by
    rw [Go.Op.bytesLess, Lib.compareBytes, blT_cmp x y]
    by_cases h : a < b
    · rw [if_pos h]
      simp [h]
    · rw [if_neg h]
      by_cases h2 : b < a
      · rw [if_pos h2]
        have : a ≠ b := fun e => by subst e; exact h h2
        simp [h, this]
      · rw [if_neg h2]
        have : a = b := UInt8.le_antisymm (UInt8.not_lt.1 h2) (UInt8.not_lt.1 h)
        simp [h, this]
theorem cmpT_zero : ∀ (a b : List UInt8), (Lib.compareBytes a b == 0) = decide (a = b)
  | [], [] => by simp [Lib.compareBytes]
  | [], _ :: _ => by simp [Lib.compareBytes]
  | _ :: _, [] => by simp [Lib.compareBytes]
  | a :: x, b :: y => by
    rw [Lib.compareBytes]
    by_cases h : a < b
    · rw [if_pos h]
      have : a ≠ b := fun e => by subst e; exact absurd h (UInt8.lt_irrefl _)
      simp [this]
    · rw [if_neg h]
      by_cases h2 : b < a
      · rw [if_pos h2]
        have : a ≠ b := fun e => by subst e; exact h h2
        simp [this]
      · rw [if_neg h2, cmpT_zero x y]
        have : a = b := UInt8.le_antisymm (UInt8.not_lt.1 h2) (UInt8.not_lt.1 h)
        simp [this]
/-- A place among files: what stands ahead of it is less, what stands at it or behind it isn't. -/
structure FindP (Xs : List FlV) (s : List UInt8) (p : Nat) : Prop where
  le : p ≤ Xs.length
  lo : ∀ k X, k < p → Xs[k]? = some X → Go.Op.bytesLess X.p s = true
  hi : ∀ k X, p ≤ k → Xs[k]? = some X → Go.Op.bytesLess X.p s = false
def hitB (Xs : List FlV) (s : List UInt8) (p : Nat) : Bool := match Xs[p]? with | some X => decide (X.p = s) | none => false
theorem sort_get {Xs : List FlV} (h : SortF (Xs.map FlV.D)) {i j : Nat} {X Y : FlV} (hij : i < j) (hi : Xs[i]? = some X) (hj : Xs[j]? = some Y) : Go.Op.bytesLess X.p Y.p = true := by
  obtain ⟨l1, e1⟩ := List.getElem?_eq_some_iff.1 hi
  obtain ⟨l2, e2⟩ := List.getElem?_eq_some_iff.1 hj
  have := List.pairwise_iff_getElem.1 h i j (by rw [List.length_map]; exact l1) (by rw [List.length_map]; exact l2) hij
  rw [List.getElem_map, List.getElem_map, e1, e2] at this
  exact this
theorem lo_up {Xs : List FlV} {s : List UInt8} {h : Nat} {X : FlV} (hs : SortF (Xs.map FlV.D)) (hx : Xs[h]? = some X) (hl : Go.Op.bytesLess X.p s = true) : ∀ k Y, k < h + 1 → Xs[k]? = some Y → Go.Op.bytesLess Y.p s = true := by
  intro k Y hk hy
  by_cases e : k = h
  · subst e; rw [hx] at hy; cases hy; exact hl
  · exact bl_trans _ _ _ (sort_get hs (by omega) hy hx) hl
theorem hi_up {Xs : List FlV} {s : List UInt8} {h : Nat} {X : FlV} (hs : SortF (Xs.map FlV.D)) (hx : Xs[h]? = some X) (hl : Go.Op.bytesLess X.p s = false) : ∀ k Y, h ≤ k → Xs[k]? = some Y → Go.Op.bytesLess Y.p s = false := by
  intro k Y hk hy
  by_cases e : k = h
  · subst e; rw [hx] at hy; cases hy; exact hl
  · cases hq : Go.Op.bytesLess Y.p s with
    | false => rfl
    | true =>
      have := bl_trans _ _ _ (sort_get hs (by omega) hx hy) hq
      rw [hl] at this
      cases this


set_option maxRecDepth 100000 in
set_option maxHeartbeats 20000000 in
theorem tfcmp_any (X : FlV) (s : List UInt8) (w : World) : Calls Try.prog 35 #[.agg #[.string (txt X.p), .slice X.A X.n X.c], .string (txt s)] w fun e w' => e = .returned (.int .i64 (Lib.compareBytes X.p s)) ∧ Below w.heap.size w w' := by
  have hba := (Below.refl w.heap.size w).alloc (Nat.le_refl _) (.cells #[.string (txt X.p), .slice X.A X.n X.c] 54)
  go_enter Try.func35, Try.ntmps35
  go_wp2_with (go_at_call 36; (with_reducible refine (tscmp_any X.p s _).mono ?_); rintro e1 w1 ⟨rfl, rfl⟩)
  go_ret
  exact ⟨rfl, hba⟩


set_option maxRecDepth 100000 in
set_option maxHeartbeats 20000000 in
theorem tbs_any (A : Option Addr) (n c : Nat) (Xs : List FlV) (s : List UInt8) (w : World) (hn : Xs.length = n) (bn : n ≤ 1000) (hr : FlRd w A Xs) (hs : SortF (Xs.map FlV.D)) :
    Calls Try.prog 34 #[.slice A n c, .string (txt s), .func (.func 35) #[] #[]] w fun e w' => ∃ p : Nat, e = .returned (.tuple #[.int .i64 (p : Int), .bool (hitB Xs s p)]) ∧ FindP Xs s p ∧ Below w.heap.size w w' := by
  have hN := hid hn
  have HS := hid hs
  clear hs
  go_enter Try.func34, Try.ntmps34
  go_wp2_with (fail)
  go_loopw [9, 10] (fun i j wr => ∃ p q : Nat, i = .int .i64 p ∧ j = .int .i64 q ∧ p ≤ q ∧ q ≤ n ∧ Hid ((∀ k X, k < p → Xs[k]? = some X → Go.Op.bytesLess X.p s = true) ∧ ∀ k X, q ≤ k → Xs[k]? = some X → Go.Op.bytesLess X.p s = false) ∧ Below w.heap.size w wr) (fun i j _ => (intOf j).toNat - (intOf i).toNat)
  case atStart => exact ⟨0, n, rfl, rfl, by omega, by omega, hid ⟨fun k X h => by omega, fun k X h e => by have := (List.getElem?_eq_some_iff.1 e).1; omega⟩, Below.refl _ _⟩
  case round =>
    obtain ⟨p, q, rfl, rfl, hpq, hq, HB, hb⟩ := hrel
    by_cases hlt : p < q
    · have b1 : (p : Int) < q := by omega
      obtain ⟨h, hh, h1, h2⟩ : ∃ h : Nat, ((p : Int) + (q : Int)) / 2 = (h : Int) ∧ p ≤ h ∧ h < q := ⟨(p + q) / 2, by omega, by omega, by omega⟩
      obtain ⟨X, hx⟩ : ∃ X, Xs[h]? = some X := ⟨_, List.getElem?_eq_getElem (by omega)⟩
      obtain ⟨g, oo, hg, -, -, hix⟩ := hr.pickT c hN.out hx
      obtain ⟨z, hz⟩ : ∃ z, Lib.compareBytes X.p s = z := ⟨_, rfl⟩
      have hord : ∀ W : World, Calls Try.prog 35 #[.agg #[.string (txt X.p), .slice X.A X.n X.c], .string (txt s)] W fun e w' => e = .returned (.int .i64 z) ∧ Below W.heap.size W w' := fun W => by rw [← hz]; exact tfcmp_any X s W
      have HZ : Hid (Go.Op.bytesLess X.p s = decide (z < 0)) := hid (by rw [blT_cmp, hz])
      have HX := hid hx
      clear hz hx hn
      by_cases zz : z < 0
      · go_upto_region 5 with (fail)
        try simp only [hh]
        go_wp2_with (first
          | (with_reducible refine wpList_load_tf (by with_unfolding_all rfl) _ rfl _ _ rfl X (hg.below hb) ?_)
          | (go_at_call 35; (with_reducible refine (hord _).mono ?_); rintro e1 w1 ⟨rfl, hb1⟩; replace hb := hb.trans (hb1.mono hb.size); clear hb1))
        go_roundw
        case rel => exact ⟨h + 1, q, by go_num, by first | rfl | trivial, by omega, hq, hid ⟨lo_up HS.out HX.out (by rw [HZ.out]; exact decide_eq_true zz), HB.out.2⟩, hb⟩
        case measure => simp [intOf]; omega
      · go_upto_region 5 with (fail)
        try simp only [hh]
        go_wp2_with (first
          | (with_reducible refine wpList_load_tf (by with_unfolding_all rfl) _ rfl _ _ rfl X (hg.below hb) ?_)
          | (go_at_call 35; (with_reducible refine (hord _).mono ?_); rintro e1 w1 ⟨rfl, hb1⟩; replace hb := hb.trans (hb1.mono hb.size); clear hb1))
        go_roundw
        case rel => exact ⟨p, h, by first | rfl | trivial, by first | rfl | trivial, h1, by omega, hid ⟨HB.out.1, hi_up HS.out HX.out (by rw [HZ.out]; exact decide_eq_false (by omega))⟩, hb⟩
        case measure => simp [intOf]; omega
    · obtain rfl : p = q := by omega
      have b1 : ¬ (p : Int) < p := by omega
      have HF := hid (FindP.mk (by rw [hn]; exact hq) HB.out.1 HB.out.2)
      by_cases hlt2 : p < n
      · have b2 : (p : Int) < n := by omega
        obtain ⟨X, hx⟩ : ∃ X, Xs[p]? = some X := ⟨_, List.getElem?_eq_getElem (by omega)⟩
        obtain ⟨g, oo, hg, -, -, hix⟩ := hr.pickT c hN.out hx
        obtain ⟨z, hz⟩ : ∃ z, Lib.compareBytes X.p s = z := ⟨_, rfl⟩
        have hord : ∀ W : World, Calls Try.prog 35 #[.agg #[.string (txt X.p), .slice X.A X.n X.c], .string (txt s)] W fun e w' => e = .returned (.int .i64 z) ∧ Below W.heap.size W w' := fun W => by rw [← hz]; exact tfcmp_any X s W
        have HT := hid (show hitB Xs s p = (z == 0) by unfold hitB; rw [hx, ← hz, cmpT_zero])
        clear hz hx hn
        go_wp2_with (first
          | (with_reducible refine wpList_load_tf (by with_unfolding_all rfl) _ rfl _ _ rfl X (hg.below hb) ?_)
          | (go_at_call 35; (with_reducible refine (hord _).mono ?_); rintro e1 w1 ⟨rfl, hb1⟩; replace hb := hb.trans (hb1.mono hb.size); clear hb1))
        go_ret2
        exact ⟨p, by rw [HT.out]; rfl, HF.out, hb⟩
      · obtain rfl : p = n := by omega
        have HT := hid (show hitB Xs s p = false by unfold hitB; rw [List.getElem?_eq_none (by rw [hN.out]; exact Nat.le_refl _)])
        have b2 : ¬ (p : Int) < p := by omega
        clear hn
        go_wp2_with (fail)
        go_ret2
        exact ⟨p, by rw [HT.out]; rfl, HF.out, hb⟩


theorem infoTree : (Try.prog.info? 27).map (·.size) = some 1 := by kernel_rfl
theorem wpList_load_tree {ops : Array Oper} {rest : List Oper} {o : Oper} {a : Act} {w : World} {Q : Exit → Act → World → Prop} (hw : Region.wanted o (yielded ops a.tmps) = true) (x : Operand) (ho : o.op = .load 27 x)
    (g : Nat) (hx : a.eval x = .pointer (some ⟨g, 0, none⟩)) {A : Option Addr} {n c : Nat} (hX : Blk w g 27 #[.slice A n c])
    (h : wpList Try.prog ops Q rest (a.put o.dst (.agg #[.slice A n c])) w) : wpList Try.prog ops Q (o :: rest) a w :=
  wpList_load_if hw 27 x ho g 0 hx [.slice A n c] _ (fun j v hj => by rw [Nat.zero_add]; exact hX.cell_ (by rw [← Array.getElem?_toList]; exact hj)) Try.underlying27 rfl infoTree h

set_option maxRecDepth 100000 in
set_option maxHeartbeats 20000000 in
theorem tfind_any (A : Option Addr) (n c : Nat) (Xs : List FlV) (s : List UInt8) (w : World) (hn : Xs.length = n) (bn : n ≤ 1000) (hr : FlRd w A Xs) (hs : SortF (Xs.map FlV.D)) :
    Calls Try.prog 18 #[.agg #[.slice A n c], .string (txt s)] w fun e w' => ∃ p : Nat, e = .returned (.tuple #[.int .i64 (p : Int), .bool (hitB Xs s p)]) ∧ FindP Xs s p ∧ Below w.heap.size w w' := by
  have hba := (Below.refl w.heap.size w).alloc (Nat.le_refl _) (.cells #[.slice A n c] 27)
  have cB := fun W (h : Below w.heap.size w W) => tbs_any A n c Xs s W hn bn (hr.below h) hs
  have HN := hid hn
  have HS := hid hs
  clear hn hs hr
  go_enter Try.func18, Try.ntmps18
  go_wp2_with (go_at_call 34; (with_reducible refine (cB _ hba).mono ?_); rintro e1 w1 ⟨p, rfl, hp, hb1⟩; replace hp := hid hp)
  go_ret2
  exact ⟨p, rfl, hp.out, hba.trans (hb1.mono hba.size)⟩
end Go.Proofs.Ytodfaakodgedbaa
/- tree: slices.Clone, slices.Grow, slices.Concat at files. -/
set_option linter.unusedSimpArgs false
set_option linter.unusedVariables false
namespace Go.Proofs.Ytodfaakodgedbaa
open Go.RowKit Go.Qc Go.Shelf
attribute [local go_sem] txt_size txt_append ib_fold txt_toL

def laysTf84_ren : Go.Shelf.Ren := ⟨fun | 4 => 76 | n => n, fun | 22 => 25 | 25 => 54 | 3 => 3 | 4 => 4 | 9 => 9 | 20 => 20 | 0 => 0 | n => n, fun | n => n⟩
theorem laysTf84 : Go.Proofs.Lays8.n4 Try.prog laysTf84_ren := {
  mixed := by kernel_rfl
  f4 := ⟨Try.f76.name, by decide, Try.func76.trans (congrArg some (by kernel_rfl))⟩
  t0 := Try.underlying0
  a0 := Try.isAgg0
  z0 := Try.sizeOf0
  v0 := Try.zeroValue0
  t3 := Try.underlying3
  a3 := Try.isAgg3
  z3 := Try.sizeOf3
  v3 := Try.zeroValue3
  t4 := Try.underlying4
  a4 := Try.isAgg4
  z4 := Try.sizeOf4
  v4 := Try.zeroValue4
  t9 := Try.underlying9
  a9 := Try.isAgg9
  z9 := Try.sizeOf9
  v9 := Try.zeroValue9
  t20 := Try.underlying20
  a20 := Try.isAgg20
  z20 := Try.sizeOf20
  v20 := Try.zeroValue20
  t22 := Try.underlying25
  a22 := Try.isAgg25
  z22 := Try.sizeOf25
  v22 := Try.zeroValue25 }

theorem tgrow_any (k : Nat) (hk : k ≤ 1000) (w : World) :
    Calls Try.prog 76 #[.slice none 0 0, .int .i64 k] w fun e w' => ∃ v, e = .returned v ∧ OwnT w' w.heap.size v 0 [] ∧ Below w.heap.size w w' := by
  by_cases h0 : k = 0
  · subst h0
    exact (Any8.slices_Grow_room laysTf84 none 0 0 0 w (Nat.le_refl _) (by decide) (by decide) (Nat.le_refl _)).mono (by rintro e w' ⟨rfl, rfl⟩; exact ⟨_, rfl, OwnT.none_ _ _, Below.refl _ _⟩)
  · obtain ⟨i0, Z, hi, hz, hs, hZ, hb⟩ := infoTf4
    refine (Any8.slices_Grow_grow laysTf84 i0 (.agg Z) hi hz (by omega) none 0 0 k [] w (Nat.le_refl _) (by omega) (Nat.le_trans (Nat.mul_le_mul (show 0 + k ≤ 1000 by omega) hb) (by decide)) (by omega) (by simp) (fun _ => rfl) (fun a h => by cases h)).mono ?_
    rintro e w' ⟨rfl, rfl⟩
    refine ⟨_, rfl, ?_, (below_drew10 w).trans ((Below.refl w.heap.size w.drew).alloc (Nat.le_refl _) _)⟩
    have h1 := grownCap_ge w (0 + k) 0 (laysTf84_ren.t 25)
    have h2 := grownCap_le_maxLen w (0 + k) 0 (laysTf84_ren.t 25) (by unfold maxLen; omega)
    generalize grownCap w (0 + k) 0 (laysTf84_ren.t 25) = G at *
    refine World.ownsRow_made w.drew _ _ (Nat.le_refl _) h2 ?_
    simp only [Array.size_append, size_zeroCells, Value.cells, List.size_toArray, List.length_nil]
    rw [hZ]
    simp
    omega
/-- A slice that reads as a row of files. -/
def TSl (w : World) (v : Value) (r : List FlV) : Prop := ∃ A n c, v = .slice A n c ∧ r.length = n ∧ (A = none → n = 0 ∧ c = 0) ∧ FlRd w A r
theorem TSl.below {w w' : World} {v : Value} {r : List FlV} (h : TSl w v r) (hb : Below w.heap.size w w') : TSl w' v r := by
  obtain ⟨A, n, c, rfl, h1, h0, h2⟩ := h
  exact ⟨A, n, c, rfl, h1, h0, h2.below hb⟩
theorem tsnoc {α : Type} {l : List α} {k : Nat} {x : α} (h : l[k]? = some x) : l.take (k + 1) = l.take k ++ [x] := by rw [List.take_add_one, h]; rfl

set_option maxRecDepth 100000 in
set_option maxHeartbeats 20000000 in
theorem tclone_any (A : Option Addr) (n c : Nat) (Xs : List FlV) (w : World) (hn : Xs.length = n) (bn : n ≤ 1000) (hA : A = none → n = 0 ∧ c = 0) (hr : FlRd w A Xs) :
    Calls Try.prog 53 #[.slice A n c] w fun e w' => ∃ v, e = .returned v ∧ OwnT w' w.heap.size v n Xs ∧ Below w.heap.size w w' := by
  have qN : ∀ (W : World) (a : Option Addr) (n c n' c' : Nat), (binOp .eql 25 (.slice a n c) (.slice none n' c')).run Try.prog W = .ok (.bool a.isNone) W := fun W a n c n' c' => Lib.run_eql_slice_nil W _ _ a n c n' c' Try.underlying25
  cases A with
  | none =>
    obtain ⟨rfl, rfl⟩ := hA rfl
    obtain rfl : Xs = [] := List.eq_nil_of_length_eq_zero hn
    go_enter Try.func53, Try.ntmps53
    go_wp2
    go_ret
    exact ⟨_, rfl, OwnT.none_ _ _, Below.refl _ _⟩
  | some ad =>
    have hmd := OwnT.made w
    have hba := (Below.refl w.heap.size w).alloc (Nat.le_refl _) (.cells #[] 54)
    have hr2 := hr.below hba
    go_enter Try.func53, Try.ntmps53
    go_wp2_with (at_builtin; refine wpList_append_tf rfl _ _ rfl w.heap.size _ 0 [] rfl hmd (some ad) n c Xs rfl hn (by intro h; cases h) hr2 (by omega) (by simp) ?_; intro v' w1 hown hgrow)
    go_ret
    rw [Nat.zero_add, List.nil_append] at hown
    exact ⟨_, rfl, hown, hmd.grown hgrow (Nat.le_refl _) hba (by simp)⟩


set_option maxRecDepth 100000 in
set_option maxHeartbeats 20000000 in
theorem tconcat_any (ad : Addr) (N cc : Nat) (ss : List (Value × List FlV)) (hN : ss.length = N) (bN : N ≤ 10) (hall : (ss.flatMap (·.2)).length ≤ 1000) (w : World)
    (hc : ∀ W, Below w.heap.size w W → ∀ j x, ss[j]? = some x → W.cell? (ad.add j) = some x.1 ∧ TSl W x.1 x.2) :
    Calls Try.prog 62 #[.slice (some ad) N cc] w fun e w' => ∃ v, e = .returned v ∧ OwnT w' w.heap.size v (ss.flatMap (·.2)).length (ss.flatMap (·.2)) ∧ Below w.heap.size w w' := by
  have hsum : ∀ k, ((ss.take k).flatMap (·.2)).length ≤ 1000 := fun k => by
    have e : ss.flatMap (·.2) = (ss.take k).flatMap (·.2) ++ (ss.drop k).flatMap (·.2) := by rw [← List.flatMap_append, List.take_append_drop]
    rw [e, List.length_append] at hall
    omega
  have hB0 := Below.refl w.heap.size w
  obtain ⟨R, hR⟩ : ∃ R, R = ss.flatMap (·.2) := ⟨_, rfl⟩
  rw [← hR]
  have HR := hid hR
  clear hR hall
  have HC := hid hc
  have HSUM := hid hsum
  clear hc hsum
  go_enter Try.func62, Try.ntmps62
  go_wp2
  go_loopw [3, 11] (fun z i wr => ∃ (k S : Nat), k ≤ N ∧ i = .int .i64 k ∧ z = .int .i64 S ∧ S = ((ss.take k).flatMap (·.2)).length ∧ w = wr) (fun _ i _ => N - (intOf i).toNat)
  case atStart => exact ⟨0, 0, by omega, rfl, rfl, by simp, by first | rfl | trivial⟩
  case round =>
    obtain ⟨k, S, hk, rfl, rfl, hT, rfl⟩ := hrel
    have hTb : S ≤ 1000 := by have := HSUM.out k; omega
    have HT := hid hT
    clear hT
    by_cases hlt : k < N
    · obtain ⟨x, hx⟩ : ∃ x, ss[k]? = some x := ⟨_, List.getElem?_eq_getElem (by omega)⟩
      obtain ⟨hcell, A, n, c, hv, hn, _, _⟩ := HC.out w hB0 k x hx
      have hxl : n ≤ 1000 := by
        have := HSUM.out (k + 1)
        rw [tsnoc hx, List.flatMap_append, List.length_append] at this
        have e : (([x] : List (Value × List FlV)).flatMap (·.2)).length = n := by simp [hn]
        rw [e] at this
        omega
      rw [hv] at hcell
      have HX := hid hx
      have b1 : (k : Int) < N := by omega
      have b2 : ¬ ((S : Int) + n) < 0 := by omega
      have hw : wrap64 ((S : Int) + n) = (S : Int) + n := by unfold wrap64; omega
      clear hx
      go_wp2
      go_roundw
      case rel =>
        refine ⟨k + 1, S + n, hlt, by go_num, by go_num, ?_, by first | rfl | trivial⟩
        rw [tsnoc HX.out, List.flatMap_append, List.length_append, HT.out, ← hn]
        simp
      case measure => simp [intOf]; omega
    · obtain rfl : N = k := by omega
      have b1 : ¬ (N : Int) < N := by omega
      clear HT
      go_wp2_with (go_at_call 76; (with_reducible refine (tgrow_any S (by omega) _).mono ?_); rintro e1 w1 ⟨v, rfl, hown, hB⟩)
      go_loopw [6, 27] (fun v i wr => ∃ (k : Nat), k ≤ N ∧ i = .int .i64 k ∧ OwnT wr w.heap.size v ((ss.take k).flatMap (·.2)).length ((ss.take k).flatMap (·.2)) ∧ Below w.heap.size w wr) (fun _ i _ => N - (intOf i).toNat)
      case atStart => exact ⟨0, by omega, rfl, by simpa using hown, hB⟩
      case round =>
        clear hown hB
        obtain ⟨k, hk, rfl, hown, hB⟩ := hrel
        have hwz := hB.size
        have hlen := HSUM.out k
        have hlen2 := HSUM.out (k + 1)
        obtain ⟨Q, hQ⟩ : ∃ Q, Q = (ss.take k).flatMap (·.2) := ⟨_, rfl⟩
        rw [← hQ] at hown hlen
        have HQ := hid hQ
        clear hQ
        by_cases hlt : k < N
        · obtain ⟨x, hx⟩ : ∃ x, ss[k]? = some x := ⟨_, List.getElem?_eq_getElem (by omega)⟩
          obtain ⟨hcell, A, n, c, hv, hn, hz, hrd⟩ := HC.out wr hB k x hx
          rw [hv] at hcell
          have HX := hid hx
          have b1 : (k : Int) < N := by omega
          have hstep : (ss.take (k + 1)).flatMap (·.2) = Q ++ x.2 := by
            rw [tsnoc hx, List.flatMap_append, HQ.out]; simp
          rw [hstep, List.length_append, hn] at hlen2
          have HS := hid hstep
          clear hstep hx
          go_wp2_with (at_builtin; refine wpList_append_tf rfl _ _ rfl w.heap.size _ _ Q rfl hown A n c x.2 rfl hn hz hrd hlen2 hwz ?_; intro v8 w8 hown8 hg8)
          have hB8 : Below w.heap.size w w8 := hB.grown hg8 hwz (fun q hq => (hown.lt q hq).1)
          go_roundw
          case rel =>
            refine ⟨k + 1, hlt, by go_num, ?_, hB8⟩
            rw [HS.out, List.length_append, hn]
            exact hown8
          case measure => simp [intOf]; omega
        · obtain rfl : k = N := by omega
          have b1 : ¬ (k : Int) < k := by omega
          have hQR : Q = R := by rw [HQ.out, HR.out, List.take_of_length_le (by omega)]
          subst hQR
          clear hlen
          go_wp2
          go_ret
          exact ⟨_, rfl, hown, hB⟩

end Go.Proofs.Ytodfaakodgedbaa
/- tree: files in the place of others; how many there are. -/
set_option linter.unusedSimpArgs false
set_option linter.unusedVariables false
namespace Go.Proofs.Ytodfaakodgedbaa
open Go.RowKit Go.Qc Go.Shelf
attribute [local go_sem] txt_size txt_append ib_fold txt_toL

/-- A row of files, as a slice. -/
structure RwT (w : World) (A : Option Addr) (n c : Nat) (Ys : List FlV) : Prop where
  ln : Ys.length = n
  nc : n ≤ c
  nn : A = none → n = 0 ∧ c = 0
  rd : FlRd w A Ys
theorem RwT.below {w w' : World} {A : Option Addr} {n c : Nat} {Ys : List FlV} (h : RwT w A n c Ys) (hb : Below w.heap.size w w') : RwT w' A n c Ys := ⟨h.ln, h.nc, h.nn, h.rd.below hb⟩
theorem RwT.nil_ (w : World) : RwT w none 0 0 [] := ⟨rfl, Nat.le_refl _, fun _ => ⟨rfl, rfl⟩, .inl rfl⟩
theorem RwT.of {w : World} {base n : Nat} {v : Value} {Ys : List FlV} (h : OwnT w base v n Ys) : ∃ A c, v = .slice A n c ∧ RwT w A n c Ys := by
  obtain ⟨A, c, rfl, h1, h2, h3, h4⟩ := h.rd
  exact ⟨A, c, rfl, h1, h2, h3, h4⟩
theorem RwT.sl {w : World} {A : Option Addr} {n c : Nat} {Ys : List FlV} (h : RwT w A n c Ys) : TSl w (.slice A n c) Ys := ⟨A, n, c, rfl, h.ln, h.nn, h.rd⟩
theorem tf_cell {w W : World} (hb : Below w.heap.size w W) {p : Addr} {u : Value} (h : w.cell? p = some u) : W.cell? p = some u := (hb.cell (World.block_lt_of_cell? w p h)).trans h
theorem tf_three {W : World} {g : Nat} {a b c : Value} (h : Blk W g 25 #[a, b, c]) {r s t : List FlV} (g0 : TSl W a r) (g1 : TSl W b s) (g2 : TSl W c t) : ∀ (j : Nat) (x : Value × List FlV), [(a, r), (b, s), (c, t)][j]? = some x → W.cell? ((⟨g, 0, none⟩ : Addr).add j) = some x.1 ∧ TSl W x.1 x.2
  | 0, x, e => by cases e; exact ⟨h.cell_ rfl, g0⟩
  | 1, x, e => by cases e; exact ⟨h.cell_ rfl, g1⟩
  | 2, x, e => by cases e; exact ⟨h.cell_ rfl, g2⟩
  | j + 3, x, e => by simp at e

/-- A block of another type is written: rows of files stay. -/
theorem OwnT.keptT {W W' : World} {base n g : Nat} {v : Value} {Xs : List FlV} {cs : Array Value} (h : OwnT W base v n Xs) (hg : W.grownBy W' (some g)) (hk : Blk W g 27 cs) : OwnT W' base v n Xs :=
  (show W.ownsRow base 54 2 v n (flsV Xs) from h).kept hg (by
    rcases h.2 with ⟨rfl, _⟩ | ⟨q, cap, cur, rfl, _, hq, _⟩
    · exact .inl rfl
    · refine .inr (fun e => ?_)
      simp [Value.ownBlock] at e
      subst e
      unfold Blk at hk
      rw [hk] at hq
      cases hq)

set_option maxRecDepth 100000 in
set_option maxHeartbeats 20000000 in
theorem tlen_any (A : Option Addr) (n c : Nat) (w : World) : Calls Try.prog 11 #[.agg #[.slice A n c]] w fun e w' => e = .returned (.int .i64 (n : Int)) ∧ Below w.heap.size w w' := by
  have hba := (Below.refl w.heap.size w).alloc (Nat.le_refl _) (.cells #[.slice A n c] 27)
  go_enter Try.func11, Try.ntmps11
  go_wp2
  go_ret
  exact ⟨rfl, hba⟩

set_option maxRecDepth 100000 in
set_option maxHeartbeats 20000000 in
theorem tput_any (A : Option Addr) (n c : Nat) (Xs : List FlV) (at' out : Nat) (ov : Int) (ho : ov = (out : Int)) (B : Option Addr) (m d : Nat) (Ys : List FlV) (w : World) (hX : RwT w A n c Xs) (hY : RwT w B m d Ys) (ha : at' + out ≤ n) (hlen : n + m ≤ 1000) :
    Calls Try.prog 43 #[.agg #[.slice A n c], .int .i64 (at' : Int), .int .i64 ov, .slice B m d] w fun e w' => ∃ A' n' c', e = .returned (.agg #[.slice A' n' c']) ∧ RwT w' A' n' c' (Xs.take at' ++ (Ys ++ Xs.drop (at' + out))) ∧ Below w.heap.size w w' := by
  subst ho
  obtain ⟨hto1, hAP, hto3⟩ := tf_sl_to A n c at' hX.nn (by omega) hX.nc Xs hX.ln
  obtain ⟨A2, hfr1, hA2, hfr3⟩ := tf_sl_from A n c (at' + out) hX.nn ha hX.nc Xs hX.ln w hX.rd
  have hw : wrap64 ((at' : Int) + (out : Int)) = ((at' + out : Nat) : Int) := by unfold wrap64; omega
  have hw2 : IntKind.i64.wrap ((at' : Int) + (out : Int)) = ((at' + out : Nat) : Int) := by rw [IntKind.wrap_i64]; omega
  have hba0 := (Below.refl w.heap.size w).alloc (Nat.le_refl _) (.cells #[.slice A n c] 27)
  have hb0 := hba0.alloc hba0.size (.cells #[.slice none 0 0] 27)
  clear hba0
  have h4 := (Blk.new w 27 #[.slice A n c]).alloc (.cells #[.slice none 0 0] 27)
  have hz := Blk.new (w.alloc (.cells #[.slice A n c] 27)) 27 #[.slice none 0 0]
  rw [World.size_alloc] at hz
  obtain ⟨l1, hl1⟩ : ∃ l, (Xs.take at').length = l := ⟨_, rfl⟩
  have hq1 : (Xs.take at').length = at' := by rw [List.length_take, hX.ln]; omega
  have hq2 : (Xs.drop (at' + out)).length = n - (at' + out) := by rw [List.length_drop, hX.ln]
  have hall : (Xs.take at' ++ (Ys ++ Xs.drop (at' + out))).length ≤ 1000 := by
    rw [List.length_append, List.length_append, hq1, hq2, hY.ln]; omega
  have s1 : ∀ W, Below w.heap.size w W → TSl W (.slice A at' c) (Xs.take at') := fun W h => ⟨A, at', c, rfl, hq1, hAP, hto3 W (hX.rd.below h)⟩
  have s2 : ∀ W, Below w.heap.size w W → TSl W (.slice B m d) Ys := fun W h => (hY.below h).sl
  have s3 : ∀ W, Below w.heap.size w W → TSl W (.slice A2 (n - (at' + out)) (c - (at' + out))) (Xs.drop (at' + out)) := fun W h => ⟨A2, _, _, rfl, hq2, hA2, hfr3 W h⟩
  generalize hp1 : Xs.take at' = P1 at *
  generalize hp2 : Xs.drop (at' + out) = P2 at *
  generalize hn2 : n - (at' + out) = N2 at *
  generalize hc2 : c - (at' + out) = C2 at *
  generalize hao : at' + out = AO at *
  clear hto3 hfr3 hX hY hp1 hp2 hn2 hc2 hao hq1 hq2 hl1 hA2 hAP
  go_enter Try.func43, Try.ntmps43
  go_upto_region 1 with (fail)
  generalize (w.alloc (.cells #[.slice A n c] 27)).alloc (.cells #[.slice none 0 0] 27) = W00 at *
  have hb00 := below_drew10 W00
  replace hb0 := hb0.trans (hb00.mono hb0.size)
  replace h4 := h4.below hb00
  replace hz := hz.below hb00
  refine wp_region_held_drew (S := fun W => W.cell? ⟨w.heap.size, 0, none⟩ = some (.slice A n c)) (by kernel_rfl) (h4.cell_ rfl) (fun hHeld => ?_)
  clear hb00
  generalize W00.drew = W0 at *
  have x4 : W0.cell? ⟨w.heap.size, 0, none⟩ = some (.slice A n c) := h4.cell_ rfl
  refine' wpAnyH_take (i := 0) (v := .pointer (some ⟨w.heap.size, 0, none⟩)) rfl (by kernel_rfl) (by kernel_rfl) (by kernel_rfl) (fun _ _ _ h => h) (Or.inl ⟨by rfl, fun w' hw' => by go_simp⟩) hHeld ?_
  try simp only [Act.put, List.getElem_toArray, List.getElem_cons_succ, List.getElem_cons_zero, List.setIfInBounds_toArray, List.set_cons_zero, List.set_cons_succ]
  refine' wpAnyH_take (i := 1) (v := .slice A n c) rfl (by kernel_rfl) (by kernel_rfl) (by kernel_rfl) (fun _ _ _ h => h) (Or.inl ⟨by rfl, fun w' hw' => by (have q : w'.cell? ⟨w.heap.size, 0, none⟩ = some (.slice A n c) := hw'; go_simp)⟩) hHeld ?_
  try simp only [Act.put, List.getElem_toArray, List.getElem_cons_succ, List.getElem_cons_zero, List.setIfInBounds_toArray, List.set_cons_zero, List.set_cons_succ]
  refine' wpAnyH_take (i := 2) (v := .int .i64 (at' : Int)) rfl (by kernel_rfl) (by kernel_rfl) (by kernel_rfl) (fun _ _ _ h => h) (Or.inl ⟨by rfl, fun w' hw' => by go_simp⟩) hHeld ?_
  try simp only [Act.put, List.getElem_toArray, List.getElem_cons_succ, List.getElem_cons_zero, List.setIfInBounds_toArray, List.set_cons_zero, List.set_cons_succ]
  refine' wpAnyH_take (i := 3) (v := .slice A at' c) rfl (by kernel_rfl) (by kernel_rfl) (by kernel_rfl) (fun _ _ _ h => h) (Or.inl ⟨by rfl, fun w' hw' => by go_simp⟩) hHeld ?_
  try simp only [Act.put, List.getElem_toArray, List.getElem_cons_succ, List.getElem_cons_zero, List.setIfInBounds_toArray, List.set_cons_zero, List.set_cons_succ]
  refine' wpAnyH_take (i := 4) (v := .slice B m d) rfl (by kernel_rfl) (by kernel_rfl) (by kernel_rfl) (fun _ _ _ h => h) (Or.inl ⟨by rfl, fun w' hw' => by go_simp⟩) hHeld ?_
  try simp only [Act.put, List.getElem_toArray, List.getElem_cons_succ, List.getElem_cons_zero, List.setIfInBounds_toArray, List.set_cons_zero, List.set_cons_succ]
  refine' wpAnyH_take (i := 5) (v := .pointer (some ⟨w.heap.size, 0, none⟩)) rfl (by kernel_rfl) (by kernel_rfl) (by kernel_rfl) (fun _ _ _ h => h) (Or.inl ⟨by rfl, fun w' hw' => by go_simp⟩) hHeld ?_
  try simp only [Act.put, List.getElem_toArray, List.getElem_cons_succ, List.getElem_cons_zero, List.setIfInBounds_toArray, List.set_cons_zero, List.set_cons_succ]
  refine' wpAnyH_take (i := 6) (v := .slice A n c) rfl (by kernel_rfl) (by kernel_rfl) (by kernel_rfl) (fun _ _ _ h => h) (Or.inl ⟨by rfl, fun w' hw' => by (have q : w'.cell? ⟨w.heap.size, 0, none⟩ = some (.slice A n c) := hw'; go_simp)⟩) hHeld ?_
  try simp only [Act.put, List.getElem_toArray, List.getElem_cons_succ, List.getElem_cons_zero, List.setIfInBounds_toArray, List.set_cons_zero, List.set_cons_succ]
  refine' wpAnyH_take (i := 7) (v := .int .i64 (at' : Int)) rfl (by kernel_rfl) (by kernel_rfl) (by kernel_rfl) (fun _ _ _ h => h) (Or.inl ⟨by rfl, fun w' hw' => by go_simp⟩) hHeld ?_
  try simp only [Act.put, List.getElem_toArray, List.getElem_cons_succ, List.getElem_cons_zero, List.setIfInBounds_toArray, List.set_cons_zero, List.set_cons_succ]
  refine' wpAnyH_take (i := 8) (v := .int .i64 (out : Int)) rfl (by kernel_rfl) (by kernel_rfl) (by kernel_rfl) (fun _ _ _ h => h) (Or.inl ⟨by rfl, fun w' hw' => by go_simp⟩) hHeld ?_
  try simp only [Act.put, List.getElem_toArray, List.getElem_cons_succ, List.getElem_cons_zero, List.setIfInBounds_toArray, List.set_cons_zero, List.set_cons_succ]
  refine' wpAnyH_take (i := 9) (v := .int .i64 (AO : Int)) rfl (by kernel_rfl) (by kernel_rfl) (by kernel_rfl) (fun _ _ _ h => h) (Or.inl ⟨by rfl, fun w' hw' => by go_simp⟩) hHeld ?_
  try simp only [Act.put, List.getElem_toArray, List.getElem_cons_succ, List.getElem_cons_zero, List.setIfInBounds_toArray, List.set_cons_zero, List.set_cons_succ]
  refine' wpAnyH_take (i := 10) (v := .slice A2 N2 C2) rfl (by kernel_rfl) (by kernel_rfl) (by kernel_rfl) (fun _ _ _ h => h) (Or.inl ⟨by rfl, fun w' hw' => by go_simp⟩) hHeld ?_
  try simp only [Act.put, List.getElem_toArray, List.getElem_cons_succ, List.getElem_cons_zero, List.setIfInBounds_toArray, List.set_cons_zero, List.set_cons_succ]
  refine wpAnyH_ready (rs := [11]) (by kernel_rfl) (by simp) ?_
  refine AllReadyH.cons rfl (fun K hK => ?_) AllReadyH.nil
  have hk := Blk.new W0 25 #[.slice A at' c, .slice B m d, .slice A2 N2 C2]
  have hn1 := (Below.refl W0.heap.size W0).alloc (Nat.le_refl _) (.cells #[.slice A at' c, .slice B m d, .slice A2 N2 C2] 25)
  have hz1 := hz.alloc (.cells #[.slice A at' c, .slice B m d, .slice A2 N2 C2] 25)
  go_simp
  replace h4 := h4.alloc (.cells #[.slice A at' c, .slice B m d, .slice A2 N2 C2] 25)
  refine hK.out _ _ (h4.cell_ rfl) (fun hHeld => ?_)
  clear hK K
  try simp only [Act.put, List.getElem_toArray, List.getElem_cons_succ, List.getElem_cons_zero, List.setIfInBounds_toArray, List.set_cons_zero, List.set_cons_succ]
  refine wpAnyH_ready (rs := [12]) (by kernel_rfl) (by simp) ?_
  refine AllReadyH.cons rfl (fun K hK => ?_) AllReadyH.nil
  generalize hW8 : W0.alloc (.cells #[.slice A at' c, .slice B m d, .slice A2 N2 C2] 25) = W8 at *
  have hb1 := hb0.trans (hn1.mono hb0.size)
  have cC := tconcat_any ⟨W0.heap.size, 0, none⟩ 3 3 [(.slice A at' c, P1), (.slice B m d, Ys), (.slice A2 N2 C2, P2)] rfl (by decide) (by simpa using hall) W8 (fun W hW j x hj => tf_three (hk.below hW) (s1 W (hb1.trans (hW.mono hb1.size))) (s2 W (hb1.trans (hW.mono hb1.size))) (s3 W (hb1.trans (hW.mono hb1.size))) j x hj)
  generalize hR : ([((.slice A at' c : Value), P1), (.slice B m d, Ys), (.slice A2 N2 C2, P2)] : List (Value × List FlV)).flatMap (·.2) = R at cC
  have HR : Hid (P1 ++ (Ys ++ P2) = R) := hid (by rw [← hR]; simp)
  clear s1 s2 s3 hk hall hR hW8
  go_simp
  (with_reducible refine cC.mono ?_)
  rintro e1 w1 ⟨v1, rfl, hown, hb⟩
  obtain ⟨A9, c9, rfl, hrw⟩ := RwT.of hown
  replace hz1 := hz1.below hb
  replace hb1 := hb1.trans (hb.mono hb1.size)
  replace h4 := h4.below hb
  refine hK.out _ _ (h4.cell_ rfl) (fun hHeld => ?_)
  clear hK K
  try simp only [Act.put, List.getElem_toArray, List.getElem_cons_succ, List.getElem_cons_zero, List.setIfInBounds_toArray, List.set_cons_zero, List.set_cons_succ]
  refine' wpAnyH_take (i := 13) (v := .agg #[.slice A9 R.length c9]) rfl (by kernel_rfl) (by kernel_rfl) (by kernel_rfl) (fun _ _ _ h => h) (Or.inl ⟨by rfl, fun w' hw' => by go_simp⟩) hHeld ?_
  try simp only [Act.put, List.getElem_toArray, List.getElem_cons_succ, List.getElem_cons_zero, List.setIfInBounds_toArray, List.set_cons_zero, List.set_cons_succ]
  refine wpAnyH_ready (rs := [14]) (by kernel_rfl) (by simp) ?_
  refine AllReadyH.cons rfl (fun K hK => ?_) AllReadyH.nil
  refine (if_pos (by kernel_rfl)).mpr ?_
  refine wp_store_whole 27 _ _ rfl (w.heap.size + 1) _ #[.slice A9 R.length c9] 27 hz1 rfl rfl ?c2 ?c3 ?c4 ?_
  case c2 => kernel_rfl
  case c3 => rfl
  case c4 => simp [Value.oneCell']
  intro W9 hb9 hg9
  replace h4 := blk_gb h4 hg9 (by omega)
  refine hK.out _ _ (h4.cell_ rfl) (fun hHeld => ?_)
  clear hK K
  try simp only [Act.put, List.getElem_toArray, List.getElem_cons_succ, List.getElem_cons_zero, List.setIfInBounds_toArray, List.set_cons_zero, List.set_cons_succ]
  refine wpAnyH_done (by kernel_rfl) ?_ _
  go_wp2
  refine bodyPost_ret (results_cell_row rfl _ _ _ _ _ _ _ rfl hb9 Try.underlying27 rfl (by kernel_rfl)) rfl ?_
  have hb7 := below_of_gb hg9 (Nat.le_succ _) hb1.size
  refine ⟨A9, _, c9, rfl, ?_, hb1.trans hb7⟩
  rw [HR.out]
  obtain ⟨A8, c8, e8, h8⟩ := RwT.of (hown.keptT hg9 hz1)
  cases e8
  exact h8
end Go.Proofs.Ytodfaakodgedbaa

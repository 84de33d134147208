/- Rows of files: read, built, appended to. -/
import Derived.Test.YtmfngampccpkhaaRo7
import Derived.Test.YtmfngampccpkhaaHk9
import Derived.Test.YtmfngampccpkhaaHk14
import Derived.Test.YtmfngampccpkhaaRo3
set_option linter.unusedSimpArgs false
set_option linter.unusedVariables false
namespace Go.Proofs.Ytmfngampccpkhaa
open Go.RowKit Go.Qc Go.Shelf
attribute [local go_sem] txt_size txt_append ib_fold txt_toL

/-- A file, as data. -/
abbrev FD := List UInt8 × List (List UInt8)
/-- A file with its lines' place. -/
structure FlV where
  p : List UInt8
  l : List (List UInt8)
  A : Option Addr
  n : Nat
  c : Nat
def FlV.D (X : FlV) : FD := (X.p, X.l)
def FlV.cs (X : FlV) : List Value := [.string (txt X.p), .slice X.A X.n X.c]
def flsV (Xs : List FlV) : List Value := Xs.flatMap FlV.cs
theorem flsV_cons (X : FlV) (Xs : List FlV) : flsV (X :: Xs) = X.cs ++ flsV Xs := by simp [flsV]
theorem flsV_append (Xs Ys : List FlV) : flsV (Xs ++ Ys) = flsV Xs ++ flsV Ys := by simp [flsV]
theorem flsV_length : ∀ (Xs : List FlV), (flsV Xs).length = Xs.length * 2
  | [] => rfl
  | X :: Xs => by
    rw [flsV_cons, List.length_append, flsV_length Xs, List.length_cons]
    have : X.cs.length = 2 := rfl
    omega
theorem flsV_get : ∀ (Xs : List FlV) (k : Nat) (X : FlV) (j : Nat) (v : Value), Xs[k]? = some X → X.cs[j]? = some v → (flsV Xs)[k * 2 + j]? = some v
  | [], k, X, j, v, hk, _ => by simp at hk
  | Y :: Xs, 0, X, j, v, hk, hj => by
    simp at hk
    subst hk
    rw [flsV_cons, Nat.zero_mul, Nat.zero_add, List.getElem?_append_left (List.getElem?_eq_some_iff.1 hj).1]
    exact hj
  | Y :: Xs, k + 1, X, j, v, hk, hj => by
    have hb : Y.cs.length = 2 := rfl
    rw [List.getElem?_cons_succ] at hk
    rw [flsV_cons, List.getElem?_append_right (by omega), hb, show (k + 1) * 2 + j - 2 = k * 2 + j by omega]
    exact flsV_get Xs k X j v hk hj
theorem flsV_one (Xs : List FlV) : ∀ u ∈ flsV Xs, u.oneCell' = true := by
  intro u hu
  simp only [flsV, List.mem_flatMap] at hu
  obtain ⟨X, _, hu⟩ := hu
  simp only [FlV.cs, List.mem_cons, List.not_mem_nil, or_false] at hu
  rcases hu with rfl | rfl <;> rfl
/-- A row of files lies at A. -/
def FlRd (w : World) (A : Option Addr) (Xs : List FlV) : Prop := Xs = [] ∨ ∃ g o, A = some ⟨g, o, none⟩ ∧ w.rangeAt g o (flsV Xs)
theorem FlRd.below {w w' : World} {A : Option Addr} {Xs : List FlV} (h : FlRd w A Xs) (hb : Below w.heap.size w w') : FlRd w' A Xs :=
  h.imp id fun ⟨g, o, e, hr⟩ => ⟨g, o, e, hr.below hb⟩
/-- A file whose lines are read. -/
structure FlOk (w : World) (X : FlV) : Prop where
  ln : X.l.length = X.n
  bn : X.n ≤ 1000
  bx : ∀ x ∈ X.l, x.length ≤ 1000
  bp : X.p.length ≤ 1000
  rA : Rd w X.A (X.l.map strV)
theorem FlOk.below {w w' : World} {X : FlV} (h : FlOk w X) (hb : Below w.heap.size w w') : FlOk w' X := ⟨h.ln, h.bn, h.bx, h.bp, h.rA.below hb⟩
theorem infoFlz : (Try.prog.info? 55).map (fun i => (i.zero, i.size)) = some (some (.agg #[.string ⟨#[]⟩, .slice none 0 0]), 2) := by kernel_rfl
theorem infoFl4 : ∃ i Z, Try.prog.info? 55 = some i ∧ i.zero = some (.agg Z) ∧ i.size = 2 ∧ Z.size = 2 ∧ i.bytes ≤ 1000 := by
  have h := infoFlz
  cases hq : Try.prog.info? 55 with
  | none => rw [hq] at h; cases h
  | some i =>
    rw [hq] at h
    simp only [Option.map_some, Option.some.injEq, Prod.mk.injEq] at h
    have h2 : (Try.prog.info? 55).map (fun i => decide (i.bytes ≤ 1000)) = some true := by kernel_rfl
    rw [hq, Option.map_some] at h2
    exact ⟨i, _, rfl, h.1, h.2, rfl, by simpa using h2⟩
theorem infoFl : (Try.prog.info? 55).map (·.size) = some 2 := by kernel_rfl
theorem FlRd.pick {w : World} {A : Option Addr} {Xs : List FlV} {n : Nat} (c : Nat) (h : FlRd w A Xs) (hn : Xs.length = n) {k : Nat} {X : FlV} (hk : Xs[k]? = some X) :
    ∃ g q, w.rangeAt g q X.cs ∧ w.cell? ⟨g, q, none⟩ = some (.string (txt X.p)) ∧ w.cell? ⟨g, q + 1, none⟩ = some (.slice X.A X.n X.c) ∧ ∀ W : World, (Instr.indexAt 32 (.slice A n c) (.int .i64 (k : Int))).run Try.prog W = .ok (.pointer (some ⟨g, q, none⟩)) W := by
  rcases h with rfl | ⟨g, o, rfl, h2⟩
  · simp at hk
  · have hR : w.rangeAt g (o + k * 2) X.cs := fun j v hj => by rw [Nat.add_assoc]; exact h2 _ _ (flsV_get Xs k X j v hk hj)
    refine ⟨g, o + k * 2, hR, hR 0 _ rfl, hR 1 _ rfl, fun W => ?_⟩
    obtain ⟨i0, Z, hi, _, h39, _⟩ := infoFl4
    have hlt : k < n := by rw [← hn]; exact (List.getElem?_eq_some_iff.1 hk).1
    have h1 : (0 : Int) ≤ (k : Int) ∧ (k : Int) < (n : Int) := by omega
    simp [Instr.indexAt, run_underlying Try.underlying32, asIntOf, h1, sizeOf, typeInfo, hi, h39, Addr.add_lit, Int.toNat_natCast]
    intro h2; omega
theorem wpList_load_fl {ops : Array Oper} {rest : List Oper} {o : Oper} {a : Act} {w : World} {Q : Exit → Act → World → Prop} (hw : Region.wanted o (yielded ops a.tmps) = true) (x : Operand) (ho : o.op = .load 55 x)
    (g q : Nat) (hx : a.eval x = .pointer (some ⟨g, q, none⟩)) (X : FlV) (hX : w.rangeAt g q X.cs)
    (h : wpList Try.prog ops Q rest (a.put o.dst (.agg #[.string (txt X.p), .slice X.A X.n X.c])) w) : wpList Try.prog ops Q (o :: rest) a w :=
  wpList_load_if hw 55 x ho g q hx X.cs _ hX Try.underlying55 rfl infoFl h
/-- A row of files of one's own. -/
def OwnF (W : World) (base : Nat) (v : Value) (n : Nat) (Xs : List FlV) : Prop := W.ownsRow base 55 2 v n (flsV Xs)
theorem OwnF.made (W : World) : OwnF (W.alloc (.cells #[] 55)) W.heap.size (.slice (some ⟨W.heap.size, 0, none⟩) 0 0) 0 [] :=
  World.ownsRow_made W #[] 0 (Nat.le_refl _) (by decide) rfl
theorem OwnF.below {W W' : World} {base n : Nat} {v : Value} {Xs : List FlV} (h : OwnF W base v n Xs) (hb : Below W.heap.size W W') : OwnF W' base v n Xs := own_below h hb
theorem OwnF.block {W : World} {base n : Nat} {v : Value} {Xs : List FlV} (h : OwnF W base v n Xs) {k : Nat} (hk : v.ownBlock = some k) : base ≤ k := by
  rcases h.2 with ⟨rfl, _⟩ | ⟨g, cap, cur, rfl, h1, _⟩
  · cases hk
  · simp [Value.ownBlock] at hk; omega
theorem OwnF.grown {W W' : World} {base n B : Nat} {v : Value} {Xs : List FlV} (h : OwnF W base v n Xs) (hg : W.grownBy W' v.ownBlock) (hB : B ≤ base) {w : World} (hb : Below B w W) (hs : B ≤ W.heap.size) : Below B w W' :=
  hb.grown hg hs (by intro k hk; have := h.block hk; omega)
theorem OwnF.rd {W : World} {base n : Nat} {v : Value} {Xs : List FlV} (h : OwnF W base v n Xs) : ∃ A c, v = .slice A n c ∧ Xs.length = n ∧ FlRd W A Xs := by
  have hl : Xs.length = n := by
    have h1 : (flsV Xs).length = n * 2 := h.1
    rw [flsV_length Xs] at h1
    omega
  rcases h.2 with ⟨rfl, h0⟩ | ⟨g, cap, cur, rfl, _, hg, _, _, _, ht⟩
  · subst h0
    exact ⟨none, 0, rfl, hl, .inl (List.eq_nil_of_length_eq_zero hl)⟩
  · refine ⟨_, cap, rfl, hl, .inr ⟨g, 0, rfl, fun j v hj => ?_⟩⟩
    rw [← ht, List.getElem?_take] at hj
    split at hj
    · rw [cell_of_row W g (0 + j) cur _ _ hg, Nat.zero_add, ← Array.getElem?_toList]; exact hj
    · cases hj
theorem wpList_append_fl {w : World} {ops : Array Oper} {rest : List Oper} {o : Oper} {a : Act} {Q : Exit → Act → World → Prop} (hgd : o.guard = none) (s x : Operand)
    (ho : o.op = .call { callee := .builtin .append, args := #[s, x], argTypes := #[32, 32] })
    (base : Nat) (v : Value) (n : Nat) (Os : List FlV) (hs : a.eval s = v) (hown : OwnF w base v n Os)
    (g : Nat) (X : FlV) (hx : a.eval x = .slice (some ⟨g, 0, none⟩) 1 1) (hr : w.rangeAt g 0 X.cs) (hn : n + 1 ≤ 1000) (hbase : base ≤ w.heap.size)
    (h : ∀ v' w', OwnF w' base v' (n + 1) (Os ++ [X]) → w.grownBy w' v.ownBlock → wpList Try.prog ops Q rest (a.put o.dst v') w') : wpList Try.prog ops Q (o :: rest) a w := by
  obtain ⟨j0, Z, hj, hjz, hjs, hZ, hjb⟩ := infoFl4
  refine wpList_append_own w hgd s x 32 ho base 55 j0 (.agg Z) 2 j0.bytes Try.underlying32 hj hjz hjs rfl hZ (by decide) v n (flsV Os) hs hown ⟨g, 0, none⟩ 1 1 (flsV [X]) hx (flsV_length [X]) (fun j u hju => ?_) (flsV_one [X]) (by unfold maxLen; omega) (Nat.le_trans (Nat.mul_le_mul hn hjb) (by decide)) hbase (fun v' w' h1 h2 _ => h v' w' (by unfold OwnF; rw [flsV_append]; exact h1) h2)
  rw [Addr.add_lit]
  exact hr j u (by simpa [flsV] using hju)
theorem wpList_append_fl1 {W : World} {ops : Array Oper} {rest : List Oper} {o : Oper} {a : Act} {Q : Exit → Act → World → Prop} (hgd : o.guard = none) (s x : Operand)
    (ho : o.op = .call { callee := .builtin .append, args := #[s, x], argTypes := #[32, 32] })
    (base : Nat) (v : Value) (n : Nat) (Os : List FlV) (hs : a.eval s = v) (hown : OwnF W base v n Os)
    (X : FlV) (hx : a.eval x = .slice (some ⟨W.heap.size, 0, none⟩) 1 1) (hn : n + 1 ≤ 1000) (hbase : base ≤ W.heap.size)
    (h : ∀ v' w', OwnF w' base v' (n + 1) (Os ++ [X]) → (∀ (B : Nat) (w0 : World), B ≤ base → Below B w0 W → Below B w0 w') → wpList Try.prog ops Q rest (a.put o.dst v') w') : wpList Try.prog ops Q (o :: rest) a (W.alloc (.cells #[.string (txt X.p), .slice X.A X.n X.c] 55)) := by
  have hal := (Below.refl W.heap.size W).alloc (Nat.le_refl _) (.cells #[.string (txt X.p), .slice X.A X.n X.c] 55)
  have hown2 := hown.below hal
  refine wpList_append_fl hgd s x ho base v n Os hs hown2 W.heap.size X hx (fun j u hj => ?_) hn (Nat.le_trans hbase hal.size) (fun v' w' h1 h2 => h v' w' h1 (fun B w0 hB hb => ?_))
  · rw [Nat.zero_add]
    exact (Blk.new W 55 _).cell_ (by rw [← Array.getElem?_toList]; exact hj)
  · exact hown2.grown h2 hB (hb.alloc (Nat.le_trans hB hbase) _) (Nat.le_trans (Nat.le_trans hB hbase) hal.size)

end Go.Proofs.Ytmfngampccpkhaa
/- The document's trees: where a path is, whether there is room, a file less, a file more. -/
set_option linter.unusedSimpArgs false
set_option linter.unusedVariables false
namespace Go.Proofs.Ytmfngampccpkhaa
open Go.RowKit Go.Qc Go.Shelf
attribute [local go_sem] txt_size txt_append ib_fold txt_toL

/-- The place of a path. -/
def atV : List FD → List UInt8 → Int
  | [], _ => -1
  | x :: xs, s => if x.1 = s then 0 else if atV xs s < 0 then -1 else atV xs s + 1
theorem atV_none : ∀ (L : List FD) (s : List UInt8), (∀ x ∈ L, x.1 ≠ s) → atV L s = -1
  | [], _, _ => rfl
  | x :: xs, s, h => by
    rw [atV, if_neg (h x (by simp)), atV_none xs s (fun y hy => h y (by simp [hy]))]
    rfl
theorem atV_some : ∀ (L : List FD) (s : List UInt8) (k : Nat) (x : FD), L[k]? = some x → x.1 = s → (∀ y ∈ L.take k, y.1 ≠ s) → atV L s = k
  | [], s, k, x, hk, _, _ => by simp at hk
  | y :: ys, s, 0, x, hk, hx, _ => by
    simp at hk
    subst hk
    rw [atV, if_pos hx]
    rfl
  | y :: ys, s, k + 1, x, hk, hx, h => by
    rw [List.getElem?_cons_succ] at hk
    rw [atV, if_neg (h y (by simp)), atV_some ys s k x hk hx (fun z hz => h z (by simp [hz])), if_neg (by omega)]
    omega
/-- Is there room at a path? -/
def roomV (L : List FD) (s : List UInt8) : Int := if 0 ≤ atV L s then 7 else if L.any (fun f => covB f.1 s || covB s f.1) then 12 else 0

set_option maxRecDepth 100000 in
set_option maxHeartbeats 40000000 in
theorem rat_any (A : Option Addr) (n c : Nat) (Xs : List FlV) (s : List UInt8) (w : World) (hn : Xs.length = n) (bn : n ≤ 1000) (hr : FlRd w A Xs) :
    Calls Try.prog 32 #[.slice A n c, .string (txt s)] w fun e w' => e = .returned (.int .i64 (atV (Xs.map FlV.D) s)) ∧ Below w.heap.size w w' := by
  have bn9 : n ≤ 9223372036854775807 := by omega
  have HN := hid hn
  clear hn
  go_enter Try.func32, Try.ntmps32
  go_wp2
  go_loopw [5] (fun i wr => ∃ k : Nat, k ≤ n ∧ i = .int .i64 k ∧ Hid (∀ y ∈ (Xs.map FlV.D).take k, y.1 ≠ s) ∧ Below w.heap.size w wr) (fun i _ => n - (intOf i).toNat)
  case atStart => exact ⟨0, by omega, rfl, hid (by simp), Below.refl _ _⟩
  case round =>
    obtain ⟨k, hk, rfl, HT, hb⟩ := hrel
    by_cases hlt : k < n
    · obtain ⟨X, hXk⟩ : ∃ X, Xs[k]? = some X := ⟨_, List.getElem?_eq_getElem (by rw [HN.out]; exact hlt)⟩
      obtain ⟨g, q, -, h0, -, hix⟩ := (hr.below hb).pick c HN.out hXk
      have HX := hid hXk
      have b1 : (k : Int) < n := by omega
      clear hXk
      by_cases hps : X.p = s
      · have hb2 : (X.p == s) = true := beq_iff_eq.2 hps
        have HP := hid hps
        clear hps
        go_wp2
        go_ret
        exact ⟨by rw [atV_some _ _ k X.D (by rw [List.getElem?_map, HX.out]; rfl) HP.out HT.out]; rfl, hb⟩
      · have hb2 : (X.p == s) = false := beq_eq_false_iff_ne.2 hps
        have HP := hid hps
        clear hps
        go_wp2
        go_roundw
        case rel => exact ⟨k + 1, hlt, by go_num, hid (by
          intro y hy
          rw [take_snoc (x := X.D) (by rw [List.getElem?_map, HX.out]; rfl)] at hy
          rcases List.mem_append.1 hy with hy | hy
          · exact HT.out y hy
          · rw [List.mem_singleton.1 hy]; exact HP.out), hb⟩
        case measure => simp [intOf]; omega
    · obtain rfl : k = n := by omega
      have c1 : ¬ (k : Int) < k := by omega
      go_wp2
      go_ret
      refine ⟨?_, hb⟩
      rw [atV_none _ _ (fun y hy => HT.out y (by rwa [List.take_of_length_le (by rw [List.length_map, HN.out]; exact Nat.le_refl _)]))]
      rfl

set_option maxRecDepth 100000 in
set_option maxHeartbeats 40000000 in
theorem rroom_any (A : Option Addr) (n c : Nat) (Xs : List FlV) (s : List UInt8) (w : World) (hn : Xs.length = n) (bn : n ≤ 1000) (hr : FlRd w A Xs) (hp : ∀ X ∈ Xs, X.p.length ≤ 1000) (hs : s.length ≤ 1000) :
    Calls Try.prog 33 #[.slice A n c, .string (txt s)] w fun e w' => e = .returned (.int .i64 (roomV (Xs.map FlV.D) s)) ∧ Below w.heap.size w w' := by
  have bn9 : n ≤ 9223372036854775807 := by omega
  have cA := rat_any A n c Xs s w hn bn hr
  have HN := hid hn
  have HPP := hid hp
  clear hn hp
  by_cases hat : 0 ≤ atV (Xs.map FlV.D) s
  · have hR : roomV (Xs.map FlV.D) s = 7 := by unfold roomV; rw [if_pos hat]
    rw [hR]
    have HR := hid hR
    clear hR
    generalize atV (Xs.map FlV.D) s = a at *
    have d1 : decide (0 ≤ a) = true := decide_eq_true hat
    go_enter Try.func33, Try.ntmps33
    go_wp2_with (go_at_call 32; (with_reducible refine cA.mono ?_); rintro o1 w1 ⟨rfl, hb⟩)
    go_ret
    exact ⟨rfl, hb⟩
  · have hR : roomV (Xs.map FlV.D) s = if (Xs.map FlV.D).any (fun f => covB f.1 s || covB s f.1) then 12 else 0 := by unfold roomV; rw [if_neg hat]
    rw [hR]
    have HR := hid hR
    clear hR
    generalize atV (Xs.map FlV.D) s = a at *
    have d1 : decide (0 ≤ a) = false := decide_eq_false hat
    generalize hB : (if (Xs.map FlV.D).any (fun f => covB f.1 s || covB s f.1) then (12 : Int) else 0) = B at *
    have HB := hid hB
    clear hB
    go_enter Try.func33, Try.ntmps33
    go_wp2_with (go_at_call 32; (with_reducible refine cA.mono ?_); rintro o1 w1 ⟨rfl, hb⟩)
    clear cA
    go_loopw [5] (fun i wr => ∃ k : Nat, k ≤ n ∧ i = .int .i64 k ∧ Hid (∀ y ∈ (Xs.map FlV.D).take k, (covB y.1 s || covB s y.1) = false) ∧ Below w.heap.size w wr) (fun i _ => n - (intOf i).toNat)
    case atStart => exact ⟨0, by omega, rfl, hid (by simp), hb⟩
    case round =>
      clear hb
      obtain ⟨k, hk, rfl, HT, hb⟩ := hrel
      by_cases hlt : k < n
      · obtain ⟨X, hXk⟩ : ∃ X, Xs[k]? = some X := ⟨_, List.getElem?_eq_getElem (by rw [HN.out]; exact hlt)⟩
        obtain ⟨g, q, -, h0, -, hix⟩ := (hr.below hb).pick c HN.out hXk
        have HX := hid hXk
        have b1 : (k : Int) < n := by omega
        have lp := HPP.out X (List.mem_of_getElem? hXk)
        clear hXk
        have hD : (Xs.map FlV.D)[k]? = some X.D := by rw [List.getElem?_map, HX.out]; rfl
        have HD := hid hD
        clear hD
        cases h1 : covB X.p s with
        | true =>
          have c1 := rcovers_any X.p s (by omega) (by omega) wr
          rw [h1] at c1
          have H1 := hid h1
          clear h1
          go_wp2_with (go_at_call 53; (with_reducible refine c1.mono ?_); rintro o2 w2 ⟨rfl, rfl⟩)
          go_ret
          refine ⟨?_, hb⟩
          rw [← HB.out, if_pos (List.any_eq_true.2 ⟨_, List.mem_of_getElem? HD.out, by show (covB X.p s || covB s X.p) = true; rw [H1.out]; rfl⟩)]
          rfl
        | false =>
          have c1 := rcovers_any X.p s (by omega) (by omega) wr
          rw [h1] at c1
          have H1 := hid h1
          clear h1
          have hu : X.p = X.p := rfl
          cases h2 : covB s X.p with
          | true =>
            have c2 := rcovers_any s X.p (by omega) (by omega) wr
            rw [h2] at c2
            have H2 := hid h2
            clear h2
            go_wp2_with (first
              | (go_at_call 53; (with_reducible refine c1.mono ?_); rintro o2 w2 ⟨rfl, rfl⟩)
              | (go_at_call 53; (with_reducible refine c2.mono ?_); rintro o2 w2 ⟨rfl, rfl⟩))
            go_ret
            refine ⟨?_, hb⟩
            rw [← HB.out, if_pos (List.any_eq_true.2 ⟨_, List.mem_of_getElem? HD.out, by show (covB X.p s || covB s X.p) = true; rw [H2.out, Bool.or_true]⟩)]
            rfl
          | false =>
            have c2 := rcovers_any s X.p (by omega) (by omega) wr
            rw [h2] at c2
            have H2 := hid h2
            clear h2
            go_wp2_with (first
              | (go_at_call 53; (with_reducible refine c1.mono ?_); rintro o2 w2 ⟨rfl, rfl⟩)
              | (go_at_call 53; (with_reducible refine c2.mono ?_); rintro o2 w2 ⟨rfl, rfl⟩))
            go_roundw
            case rel => exact ⟨k + 1, hlt, by go_num, hid (by
              intro y hy
              rw [take_snoc HD.out] at hy
              rcases List.mem_append.1 hy with hy | hy
              · exact HT.out y hy
              · rw [List.mem_singleton.1 hy]; show (covB X.p s || covB s X.p) = false; rw [H1.out, H2.out]; rfl), hb⟩
            case measure => simp [intOf]; omega
      · obtain rfl : k = n := by omega
        have c1 : ¬ (k : Int) < k := by omega
        go_wp2
        go_ret
        refine ⟨?_, hb⟩
        rw [← HB.out, if_neg]
        · rfl
        intro h
        rw [List.any_eq_true] at h
        obtain ⟨y, hy, hy2⟩ := h
        have := HT.out y (by rwa [List.take_of_length_le (by rw [List.length_map, HN.out]; exact Nat.le_refl _)])
        rw [this] at hy2
        cases hy2

/-- A row of files of one's own is told. -/
def FlQ (w w' : World) (L : List FlV) (e : Ending) : Prop := ∃ v m, e = .returned v ∧ OwnF w' w.heap.size v m L ∧ Below w.heap.size w w'
theorem drop_same {α : Type} {L : List α} {k : Nat} {x : α} (hk : L[k]? = some x) : (L.take (k + 1)).eraseIdx k = (L.take k).eraseIdx k := by
  have hlt := (List.getElem?_eq_some_iff.1 hk).1
  have hl : (L.take k).length = k := by rw [List.length_take]; omega
  have h1 : (L.take k).eraseIdx k = L.take k := List.eraseIdx_of_length_le (by omega)
  rw [take_snoc hk, List.eraseIdx_append_of_length_le (by omega), hl, Nat.sub_self, h1]
  simp
theorem drop_more {α : Type} {L : List α} {k i : Nat} {x : α} (hk : L[k]? = some x) (hi : k ≠ i) : (L.take (k + 1)).eraseIdx i = (L.take k).eraseIdx i ++ [x] := by
  have hlt := (List.getElem?_eq_some_iff.1 hk).1
  have hl : (L.take k).length = k := by rw [List.length_take]; omega
  rw [take_snoc hk]
  by_cases h : i < k
  · rw [List.eraseIdx_append_of_lt_length (by omega)]
  · rw [List.eraseIdx_of_length_le (by rw [List.length_append, List.length_singleton]; omega), List.eraseIdx_of_length_le (by omega)]

set_option maxRecDepth 100000 in
set_option maxHeartbeats 40000000 in
theorem rdrop_any (A : Option Addr) (n c : Nat) (Xs : List FlV) (i : Nat) (w : World) (hn : Xs.length = n) (bn : n ≤ 900) (hr : FlRd w A Xs) :
    Calls Try.prog 35 #[.slice A n c, .int .i64 (i : Int)] w fun e w' => FlQ w w' (Xs.eraseIdx i) e := by
  have bn9 : n ≤ 9223372036854775807 := by omega
  have hb0 := (Below.refl w.heap.size w).alloc (Nat.le_refl _) (.cells #[] 55)
  have ho0 := OwnF.made w
  have HN := hid hn
  clear hn
  go_enter Try.func35, Try.ntmps35
  go_wp2
  go_loopw [5, 6] (fun v j wr => ∃ (k m : Nat), k ≤ n ∧ m ≤ k ∧ j = .int .i64 k ∧ OwnF wr w.heap.size v m ((Xs.take k).eraseIdx i) ∧ Below w.heap.size w wr) (fun _ j _ => n - (intOf j).toNat)
  case atStart => exact ⟨0, 0, by omega, by omega, rfl, by simpa using ho0, hb0⟩
  case round =>
    clear hb0 ho0
    obtain ⟨k, m, hk, hm, rfl, hown, hb⟩ := hrel
    by_cases hlt : k < n
    · obtain ⟨X, hXk⟩ : ∃ X, Xs[k]? = some X := ⟨_, List.getElem?_eq_getElem (by rw [HN.out]; exact hlt)⟩
      obtain ⟨g, q, hg, -, -, hix⟩ := hr.pick c HN.out hXk
      have fX : ∀ W, Below w.heap.size w W → W.rangeAt g q X.cs := fun W h => hg.below h
      have HX := hid hXk
      have b1 : (k : Int) < n := by omega
      clear hXk hg
      by_cases hki : k = i
      · subst hki
        have HO := hid hown
        clear hown
        go_wp2
        go_roundw
        case rel => exact ⟨k + 1, m, hlt, by omega, by go_num, by rw [drop_same HX.out]; exact HO.out, hb⟩
        case measure => simp [intOf]; omega
      · have e1 : ¬ (k : Int) = i := by omega
        have HK := hid hki
        clear hki
        generalize hL : (Xs.take k).eraseIdx i = L at hown
        have HL := hid hL
        clear hL
        have hb' := hb
        go_wp2_with (first
          | (with_reducible refine wpList_load_fl (by with_unfolding_all rfl) _ rfl _ _ rfl X (fX _ hb) ?_)
          | (at_builtin; refine wpList_append_fl1 rfl _ _ rfl w.heap.size _ _ _ rfl hown X rfl (by omega) hb.size ?_; intro v' W' hown' hbt; replace hb := hbt _ _ (Nat.le_refl _) hb; replace hown := hown'; clear hown' hbt))
        go_roundw
        case rel => exact ⟨k + 1, m + 1, hlt, by omega, by go_num, by rw [drop_more HX.out HK.out, HL.out]; exact hown, hb⟩
        case measure => simp [intOf]; omega
    · obtain rfl : k = n := by omega
      have c1 : ¬ (k : Int) < k := by omega
      rw [List.take_of_length_le (by rw [HN.out]; exact Nat.le_refl _)] at hown
      have HO := hid hown
      clear hown
      go_wp2
      go_ret
      exact ⟨_, m, rfl, HO.out, hb⟩

/-- A row by paths with a file more. -/
def putF : List FlV → FlV → List FlV
  | [], f => [f]
  | x :: xs, f => if Go.Op.bytesLess f.p x.p = true then f :: x :: xs else x :: putF xs f
/-- What is still to come. -/
def putR (d : Bool) (R : List FlV) (f : FlV) : List FlV := if d = true then R else putF R f

set_option maxRecDepth 100000 in
set_option maxHeartbeats 40000000 in
theorem rput14_any (A : Option Addr) (n c : Nat) (Xs : List FlV) (f : FlV) (w : World) (hn : Xs.length = n) (bn : n ≤ 900) (hr : FlRd w A Xs) :
    Calls Try.prog 34 #[.slice A n c, .agg #[.string (txt f.p), .slice f.A f.n f.c]] w fun e w' => FlQ w w' (putF Xs f) e := by
  have bn9 : n ≤ 9223372036854775807 := by omega
  have HN := hid hn
  clear hn
  have hw0 := (Below.refl w.heap.size w).alloc (Nat.le_refl _) (.cells #[.string (txt f.p), .slice f.A f.n f.c] 55)
  have hbx := Blk.new w 55 #[.string (txt f.p), .slice f.A f.n f.c]
  go_enter Try.func34, Try.ntmps34
  go_upto_region 1 with (fail)
  generalize w.alloc (.cells #[.string (txt f.p), .slice f.A f.n f.c] 55) = W0 at *
  have hb0 := (Below.refl W0.heap.size W0).alloc (Nat.le_refl _) (.cells #[] 55)
  have ho0 := OwnF.made W0
  have fF : ∀ W, Below W0.heap.size W0 W → W.rangeAt w.heap.size 0 f.cs := fun W h j u hj => by
    rw [Nat.zero_add]
    exact (hbx.below h).cell_ (by rw [← Array.getElem?_toList]; exact hj)
  have fR : FlRd W0 A Xs := hr.below hw0
  clear hr hbx
  go_wp2
  go_loopw [5, 6, 7] (fun v dv j wr => ∃ (k m : Nat) (Os : List FlV) (d : Bool), k ≤ n ∧ m ≤ k + 1 ∧ dv = .bool d ∧ j = .int .i64 k ∧ OwnF wr W0.heap.size v m Os ∧ Below W0.heap.size W0 wr ∧ Hid (putF Xs f = Os ++ putR d (Xs.drop k) f ∧ (d = false → m ≤ k))) (fun _ _ j _ => n - (intOf j).toNat)
  case atStart => exact ⟨0, 0, [], false, by omega, by omega, rfl, rfl, ho0, hb0, hid ⟨by rw [List.drop_zero]; rfl, fun _ => Nat.le_refl _⟩⟩
  case round =>
    clear hb0 ho0
    obtain ⟨k, m, Os, d, hk, hm, rfl, rfl, hown, hb, HI⟩ := hrel
    by_cases hlt : k < n
    · obtain ⟨X, hXk⟩ : ∃ X, Xs[k]? = some X := ⟨_, List.getElem?_eq_getElem (by rw [HN.out]; exact hlt)⟩
      obtain ⟨g, q, hg, -, -, hix⟩ := fR.pick c HN.out hXk
      have fX : ∀ W, Below W0.heap.size W0 W → W.rangeAt g q X.cs := fun W h => hg.below h
      have hdr : Xs.drop k = X :: Xs.drop (k + 1) := by
        obtain ⟨h1, h2⟩ := List.getElem?_eq_some_iff.1 hXk
        rw [List.drop_eq_getElem_cons h1, h2]
      have HDR := hid hdr
      have b1 : (k : Int) < n := by omega
      clear hXk hg hdr
      have p0 : wr.cell? ⟨g, q, none⟩ = some (.string (txt X.p)) := fX wr hb 0 _ rfl
      have f0 : wr.cell? ⟨w.heap.size, 0, none⟩ = some (.string (txt f.p)) := fF wr hb 0 _ rfl
      cases d with
      | true =>
        go_wp2
        go_quiet (fail)
        replace hb := below_drewN hb nq
        replace hown := hown.below (below_drewN (Below.refl _ _) nq)
        generalize wr.drewN nq = wd at *
        go_wp2_with (first
          | (with_reducible refine wpList_load_fl (by with_unfolding_all rfl) _ rfl _ _ rfl X (fX _ hb) ?_)
          | (at_builtin; refine wpList_append_fl1 rfl _ _ rfl W0.heap.size _ _ _ rfl hown X rfl (by omega) hb.size ?_; intro v' W' hown' hbt; replace hb := hbt _ _ (Nat.le_refl _) hb; replace hown := hown'; clear hown' hbt))
        go_roundw
        case rel => exact ⟨k + 1, m + 1, Os ++ [X], true, hlt, by omega, rfl, by go_num, hown, hb, hid ⟨by rw [HI.out.1, HDR.out, List.append_assoc]; rfl, fun h => by cases h⟩⟩
        case measure => simp [intOf]; omega
      | false =>
        have hm2 : m ≤ k := HI.out.2 (by trivial)
        cases hl : Go.Op.bytesLess f.p X.p with
        | true =>
          go_wp2
          go_quiet (fail)
          have HL := hid hl
          clear hl
          replace hb := below_drewN hb nq
          replace hown := hown.below (below_drewN (Below.refl _ _) nq)
          generalize wr.drewN nq = wd at *
          have f1 : f.p = f.p := rfl
          go_wp2_with (first
            | (with_reducible refine wpList_load_fl (by with_unfolding_all rfl) _ rfl _ _ rfl f (fF _ hb) ?_)
            | (with_reducible refine wpList_load_fl (by with_unfolding_all rfl) _ rfl _ _ rfl X (fX _ hb) ?_)
            | (at_builtin; refine wpList_append_fl1 rfl _ _ rfl W0.heap.size _ _ _ rfl hown f rfl (by omega) hb.size ?_; intro v' W' hown' hbt; replace hb := hbt _ _ (Nat.le_refl _) hb; replace hown := hown'; clear hown' hbt)
            | (at_builtin; refine wpList_append_fl1 rfl _ _ rfl W0.heap.size _ _ _ rfl hown X rfl (by omega) hb.size ?_; intro v' W' hown' hbt; replace hb := hbt _ _ (Nat.le_refl _) hb; replace hown := hown'; clear hown' hbt))
          go_roundw
          case rel => exact ⟨k + 1, m + 1 + 1, (Os ++ [f]) ++ [X], true, hlt, by omega, rfl, by go_num, hown, hb, hid ⟨by rw [HI.out.1, HDR.out, putR, if_neg (by decide), putF, if_pos HL.out, List.append_assoc, List.append_assoc]; rfl, fun h => by cases h⟩⟩
          case measure => simp [intOf]; omega
        | false =>
          go_wp2
          go_quiet (fail)
          have HL := hid hl
          clear hl
          replace hb := below_drewN hb nq
          replace hown := hown.below (below_drewN (Below.refl _ _) nq)
          generalize wr.drewN nq = wd at *
          go_wp2_with (first
            | (with_reducible refine wpList_load_fl (by with_unfolding_all rfl) _ rfl _ _ rfl X (fX _ hb) ?_)
            | (at_builtin; refine wpList_append_fl1 rfl _ _ rfl W0.heap.size _ _ _ rfl hown X rfl (by omega) hb.size ?_; intro v' W' hown' hbt; replace hb := hbt _ _ (Nat.le_refl _) hb; replace hown := hown'; clear hown' hbt))
          go_roundw
          case rel => exact ⟨k + 1, m + 1, Os ++ [X], false, hlt, by omega, rfl, by go_num, hown, hb, hid ⟨by rw [HI.out.1, HDR.out, putR, if_neg (by decide), putF, if_neg (by rw [HL.out]; decide), List.append_assoc]; rfl, fun _ => by omega⟩⟩
          case measure => simp [intOf]; omega
    · obtain rfl : k = n := by omega
      have c1 : ¬ (k : Int) < k := by omega
      have hnil : Xs.drop k = [] := List.drop_of_length_le (by rw [HN.out]; exact Nat.le_refl _)
      have HE := hid hnil
      clear hnil
      cases d with
      | true =>
        go_wp2
        go_ret
        exact ⟨_, m, rfl, by rw [HI.out.1, HE.out, putR, if_pos rfl, List.append_nil]; exact own_base hown hw0.size, hw0.trans (hb.mono hw0.size)⟩
      | false =>
        go_wp2_with (first
          | (with_reducible refine wpList_load_fl (by with_unfolding_all rfl) _ rfl _ _ rfl f (fF _ hb) ?_)
          | (at_builtin; refine wpList_append_fl1 rfl _ _ rfl W0.heap.size _ _ _ rfl hown f rfl (by omega) hb.size ?_; intro v' W' hown' hbt; replace hb := hbt _ _ (Nat.le_refl _) hb; replace hown := hown'; clear hown' hbt))
        go_ret
        exact ⟨_, m + 1, rfl, by rw [HI.out.1, HE.out, putR, if_neg (by decide), putF]; exact own_base hown hw0.size, hw0.trans (hb.mono hw0.size)⟩


end Go.Proofs.Ytmfngampccpkhaa
/- The document's trees: an operation applied. -/
set_option linter.unusedSimpArgs false
set_option linter.unusedVariables false
namespace Go.Proofs.Ytmfngampccpkhaa
open Go.RowKit Go.Qc Go.Shelf
attribute [local go_sem] txt_size txt_append ib_fold txt_toL

def putD : List FD → FD → List FD
  | [], f => [f]
  | x :: xs, f => if Go.Op.bytesLess f.1 x.1 = true then f :: x :: xs else x :: putD xs f
theorem putF_map : ∀ (Xs : List FlV) (f : FlV), (putF Xs f).map FlV.D = putD (Xs.map FlV.D) f.D
  | [], f => rfl
  | x :: xs, f => by
    rw [putF, List.map_cons, putD]
    by_cases h : Go.Op.bytesLess f.p x.p = true
    · rw [if_pos h, if_pos (by exact h)]; rfl
    · rw [if_neg h, if_neg (by exact h), List.map_cons, putF_map xs f]
theorem putF_len : ∀ (Xs : List FlV) (f : FlV), (putF Xs f).length = Xs.length + 1
  | [], f => rfl
  | x :: xs, f => by
    rw [putF]
    split
    · rfl
    · rw [List.length_cons, putF_len xs f]; rfl
theorem putF_mem : ∀ (Xs : List FlV) (f : FlV) (Y : FlV), Y ∈ putF Xs f → Y = f ∨ Y ∈ Xs
  | [], f, Y, h => by simp [putF] at h; exact .inl h
  | x :: xs, f, Y, h => by
    rw [putF] at h
    split at h
    · rcases List.mem_cons.1 h with h | h
      · exact .inl h
      · exact .inr h
    · rcases List.mem_cons.1 h with h | h
      · exact .inr (by rw [h]; simp)
      · exact (putF_mem xs f Y h).imp id (fun h => by simp [h])
/-- An operation applied to files. -/
def applyF (L : List FD) (o : OpD) : Except Int (List FD) :=
  if opE o = 0 then
    if 4 < o.k then .ok L
    else if o.k = 1 then (if roomV L o.p = 0 then (if 200 ≤ L.length then .error 14 else .ok (putD L (o.p, []))) else .error (roomV L o.p))
    else if atV L o.p < 0 then .error 6
    else match L[(atV L o.p).toNat]? with
      | none => .error 6
      | some f =>
        if o.k = 2 then (if f.2 = o.o then .ok (L.eraseIdx (atV L o.p).toNat) else .error 12)
        else if o.k = 3 then (if (apR f.2 o.a o.o o.n).2 = 0 then .ok (putD (L.eraseIdx (atV L o.p).toNat) (o.p, (apR f.2 o.a o.o o.n).1)) else .error (apR f.2 o.a o.o o.n).2)
        else if roomV (L.eraseIdx (atV L o.p).toNat) o.t = 0 then .ok (putD (L.eraseIdx (atV L o.p).toNat) (o.t, f.2)) else .error (roomV (L.eraseIdx (atV L o.p).toNat) o.t)
  else .error (opE o)
/-- What Apply tells. -/
def ApQ (w w' : World) (L : List FD) (o : OpD) (e : Ending) : Prop :=
  (∃ Ys A n c, e = .returned (.tuple #[.slice A n c, .int .i64 0]) ∧ applyF L o = .ok (Ys.map FlV.D) ∧ Ys.length = n ∧ n ≤ 300 ∧ FlRd w' A Ys ∧ (∀ Y ∈ Ys, FlOk w' Y) ∧ Below w.heap.size w w') ∨
  (∃ r : Int, e = .returned (.tuple #[.slice none 0 0, .int .i64 r]) ∧ applyF L o = .error r ∧ ¬ r = 0 ∧ Below w.heap.size w w')
theorem rput_s (A : Option Addr) (n c : Nat) (Xs : List FlV) (f : FlV) (w : World) (hn : Xs.length = n) (bn : n ≤ 900) (hr : FlRd w A Xs) :
    Calls Try.prog 34 #[.slice A n c, .agg #[.string (txt f.p), .slice f.A f.n f.c]] w fun e w' => ∃ A4 c4, e = .returned (.slice A4 (n + 1) c4) ∧ FlRd w' A4 (putF Xs f) ∧ Below w.heap.size w w' := by
  refine (rput14_any A n c Xs f w hn bn hr).mono ?_
  rintro e w' ⟨v, m, rfl, hown, hb⟩
  obtain ⟨A4, c4, rfl, l4, r4⟩ := hown.rd
  rw [putF_len, hn] at l4
  subst l4
  exact ⟨A4, c4, rfl, r4, hb⟩
theorem rdrop_s (A : Option Addr) (n c : Nat) (Xs : List FlV) (i : Nat) (w : World) (hn : Xs.length = n) (bn : n ≤ 900) (hi : i < n) (hr : FlRd w A Xs) :
    Calls Try.prog 35 #[.slice A n c, .int .i64 (i : Int)] w fun e w' => ∃ A4 c4, e = .returned (.slice A4 (n - 1) c4) ∧ FlRd w' A4 (Xs.eraseIdx i) ∧ Below w.heap.size w w' := by
  refine (rdrop_any A n c Xs i w hn bn hr).mono ?_
  rintro e w' ⟨v, m, rfl, hown, hb⟩
  obtain ⟨A4, c4, rfl, l4, r4⟩ := hown.rd
  rw [List.length_eraseIdx, if_pos (by omega), hn] at l4
  subst l4
  exact ⟨A4, c4, rfl, r4, hb⟩
theorem erase_map (Xs : List FlV) (i : Nat) : (Xs.eraseIdx i).map FlV.D = (Xs.map FlV.D).eraseIdx i := by
  rw [List.eraseIdx_eq_take_drop_succ, List.eraseIdx_eq_take_drop_succ, List.map_append, List.map_take, List.map_drop]
theorem erase_mem {Xs : List FlV} {i : Nat} {Y : FlV} (h : Y ∈ Xs.eraseIdx i) : Y ∈ Xs := List.mem_of_mem_eraseIdx h
theorem atV_nat : ∀ (L : List FD) (s : List UInt8), atV L s = -1 ∨ ∃ i x, atV L s = (i : Nat) ∧ L[i]? = some x
  | [], _ => .inl rfl
  | x :: xs, s => by
    rw [atV]
    split
    · exact .inr ⟨0, x, rfl, rfl⟩
    · rcases atV_nat xs s with h | ⟨i, y, h, hy⟩
      · rw [h]; exact .inl rfl
      · rw [h, if_neg (by omega)]
        exact .inr ⟨i + 1, y, by omega, hy⟩

set_option maxRecDepth 100000 in
set_option maxHeartbeats 40000000 in
theorem ap_wrong (FA : Option Addr) (fn fc : Nat) (Xs : List FlV) (D : OpD) (A : Option Addr) (n c : Nat) (B : Option Addr) (m d : Nat) (w : World) (hn : Xs.length = fn) (bn : fn ≤ 300) (hr : FlRd w FA Xs) (hX : ∀ X ∈ Xs, FlOk w X) (hR : OpR w D A n B m) (r : Int) (hE : opE D = r) (h0 : ¬ r = 0) :
    Calls Try.prog 19 #[.slice FA fn fc, .agg (opC D A n c B m d)] w fun e w' => ApQ w w' (Xs.map FlV.D) D e := by
  have HA : Hid (applyF (Xs.map FlV.D) D = .error r) := hid (by unfold applyF; rw [if_neg (by rw [hE]; exact h0), hE])
  have cE : ∀ W, Below w.heap.size w W → Calls Try.prog 31 #[.agg (opC D A n c B m d)] W fun e w' => e = .returned (.int .i64 r) ∧ Below W.heap.size W w' := fun W h => by
    rw [← hE]
    exact rr13_any D hR.hK A n c hR.lo (by have := hR.bn; omega) B m d hR.ln (by have := hR.bm; omega) (by have := hR.bp; omega) (by have := hR.bt; omega) (fun x hx => Nat.le_trans (hR.bo x hx) (by decide)) (fun x hx => Nat.le_trans (hR.bx x hx) (by decide)) W (hR.rA.below h) (hR.rB.below h)
  have KK := hR.hK
  have bn9 : fn ≤ 9223372036854775807 := by omega
  have hx := OpX.new w D A n c B m d
  have hz := (Below.refl w.heap.size w).alloc (Nat.le_refl _) (.cells (opC D A n c B m d) 42)
  have HE := hid hE
  have HN := hid hn
  have HX := hid hX
  have HR := hid hR
  have q0 := hx.c0
  have q1 := hx.c1
  have q2 := hx.c2
  clear hE hn hX hR
  go_enter Try.func19, Try.ntmps19
  go_upto_region 1 with (fail)
  generalize w.alloc (.cells (opC D A n c B m d) 42) = W0 at *
  have hb := Below.refl W0.heap.size W0
  go_wp2_with (first
    | (with_reducible refine wpList_load_opx (by with_unfolding_all rfl) _ rfl _ rfl (hx.below hb) KK ?_)
    | (go_at_call 31; (with_reducible refine (cE _ hz).mono ?_); rintro o1 w1 ⟨rfl, hb1⟩; replace hb := hb.trans (hb1.mono hb.size); replace hz := hz.trans (hb1.mono hz.size); clear hb1; replace q0 := (hx.below hb).c0; replace q1 := (hx.below hb).c1; replace q2 := (hx.below hb).c2))
  go_ret2
  exact .inr ⟨r, rfl, HA.out, h0, hz⟩

set_option maxRecDepth 100000 in
set_option maxHeartbeats 40000000 in
theorem ap_policy (FA : Option Addr) (fn fc : Nat) (Xs : List FlV) (D : OpD) (A : Option Addr) (n c : Nat) (B : Option Addr) (m d : Nat) (w : World) (hn : Xs.length = fn) (bn : fn ≤ 300) (hr : FlRd w FA Xs) (hX : ∀ X ∈ Xs, FlOk w X) (hR : OpR w D A n B m) (hE : opE D = 0) (hk4 : 4 < D.k) :
    Calls Try.prog 19 #[.slice FA fn fc, .agg (opC D A n c B m d)] w fun e w' => ApQ w w' (Xs.map FlV.D) D e := by
  have HA : Hid (applyF (Xs.map FlV.D) D = .ok (Xs.map FlV.D)) := hid (by unfold applyF; rw [if_pos hE, if_pos hk4])
  have cE : ∀ W, Below w.heap.size w W → Calls Try.prog 31 #[.agg (opC D A n c B m d)] W fun e w' => e = .returned (.int .i64 0) ∧ Below W.heap.size W w' := fun W h => by
    rw [← hE]
    exact rr13_any D hR.hK A n c hR.lo (by have := hR.bn; omega) B m d hR.ln (by have := hR.bm; omega) (by have := hR.bp; omega) (by have := hR.bt; omega) (fun x hx => Nat.le_trans (hR.bo x hx) (by decide)) (fun x hx => Nat.le_trans (hR.bx x hx) (by decide)) W (hR.rA.below h) (hR.rB.below h)
  have KK := hR.hK
  have bn9 : fn ≤ 9223372036854775807 := by omega
  have hx := OpX.new w D A n c B m d
  have hz := (Below.refl w.heap.size w).alloc (Nat.le_refl _) (.cells (opC D A n c B m d) 42)
  have HE := hid hE
  have HN := hid hn
  have HX := hid hX
  have HR := hid hR
  have q0 := hx.c0
  have q1 := hx.c1
  have q2 := hx.c2
  clear hE hn hX hR
  go_enter Try.func19, Try.ntmps19
  go_upto_region 1 with (fail)
  generalize w.alloc (.cells (opC D A n c B m d) 42) = W0 at *
  have hb := Below.refl W0.heap.size W0
  go_wp2_with (first
    | (with_reducible refine wpList_load_opx (by with_unfolding_all rfl) _ rfl _ rfl (hx.below hb) KK ?_)
    | (go_at_call 31; (with_reducible refine (cE _ hz).mono ?_); rintro o1 w1 ⟨rfl, hb1⟩; replace hb := hb.trans (hb1.mono hb.size); replace hz := hz.trans (hb1.mono hz.size); clear hb1; replace q0 := (hx.below hb).c0; replace q1 := (hx.below hb).c1; replace q2 := (hx.below hb).c2))
  go_ret2
  exact .inl ⟨Xs, FA, fn, fc, rfl, HA.out, HN.out, bn, hr.below hz, fun Y hY => (HX.out Y hY).below hz, hz⟩

set_option maxRecDepth 100000 in
set_option maxHeartbeats 40000000 in
theorem ap_create_no (FA : Option Addr) (fn fc : Nat) (Xs : List FlV) (D : OpD) (A : Option Addr) (n c : Nat) (B : Option Addr) (m d : Nat) (w : World) (hn : Xs.length = fn) (bn : fn ≤ 300) (hr : FlRd w FA Xs) (hX : ∀ X ∈ Xs, FlOk w X) (hR : OpR w D A n B m) (hE : opE D = 0) (hk : D.k = 1) (a : Int) (hat : atV (Xs.map FlV.D) D.p = a) (r : Int) (hroom : roomV (Xs.map FlV.D) D.p = r) (h0 : ¬ r = 0) :
    Calls Try.prog 19 #[.slice FA fn fc, .agg (opC D A n c B m d)] w fun e w' => ApQ w w' (Xs.map FlV.D) D e := by
  have HA : Hid (applyF (Xs.map FlV.D) D = .error r) := hid (by unfold applyF; rw [if_pos hE, if_neg (by omega), if_pos hk, if_neg (by rw [hroom]; exact h0), hroom])
  have cA : ∀ W, Below w.heap.size w W → Calls Try.prog 32 #[.slice FA fn fc, .string (txt D.p)] W fun e w' => e = .returned (.int .i64 a) ∧ Below W.heap.size W w' := fun W h => by
    rw [← hat]
    exact rat_any FA fn fc Xs D.p W hn (by omega) (hr.below h)
  have cM : ∀ W, Below w.heap.size w W → Calls Try.prog 33 #[.slice FA fn fc, .string (txt D.p)] W fun e w' => e = .returned (.int .i64 r) ∧ Below W.heap.size W w' := fun W h => by
    rw [← hroom]
    exact rroom_any FA fn fc Xs D.p W hn (by omega) (hr.below h) (fun X hx => (hX X hx).bp) hR.bp
  clear hat hroom
  have cE : ∀ W, Below w.heap.size w W → Calls Try.prog 31 #[.agg (opC D A n c B m d)] W fun e w' => e = .returned (.int .i64 0) ∧ Below W.heap.size W w' := fun W h => by
    rw [← hE]
    exact rr13_any D hR.hK A n c hR.lo (by have := hR.bn; omega) B m d hR.ln (by have := hR.bm; omega) (by have := hR.bp; omega) (by have := hR.bt; omega) (fun x hx => Nat.le_trans (hR.bo x hx) (by decide)) (fun x hx => Nat.le_trans (hR.bx x hx) (by decide)) W (hR.rA.below h) (hR.rB.below h)
  have KK := hR.hK
  have bn9 : fn ≤ 9223372036854775807 := by omega
  have hx := OpX.new w D A n c B m d
  have hz := (Below.refl w.heap.size w).alloc (Nat.le_refl _) (.cells (opC D A n c B m d) 42)
  have HE := hid hE
  have HN := hid hn
  have HX := hid hX
  have HR := hid hR
  have q0 := hx.c0; rw [hk] at q0
  have q1 := hx.c1
  have q2 := hx.c2
  have HK := hid hk
  clear hk
  clear hE hn hX hR
  go_enter Try.func19, Try.ntmps19
  go_upto_region 1 with (fail)
  generalize w.alloc (.cells (opC D A n c B m d) 42) = W0 at *
  have hb := Below.refl W0.heap.size W0
  go_wp2_with (first
    | (with_reducible refine wpList_load_opx (by with_unfolding_all rfl) _ rfl _ rfl (hx.below hb) KK ?_)
    | (go_at_call 31; (with_reducible refine (cE _ hz).mono ?_); rintro o1 w1 ⟨rfl, hb1⟩; replace hb := hb.trans (hb1.mono hb.size); replace hz := hz.trans (hb1.mono hz.size); clear hb1; replace q0 := (hx.below hb).c0; rw [HK.out] at q0; replace q1 := (hx.below hb).c1; replace q2 := (hx.below hb).c2)
    | (go_at_call 32; (with_reducible refine (cA _ hz).mono ?_); rintro o2 w2 ⟨rfl, hb1⟩; replace hb := hb.trans (hb1.mono hb.size); replace hz := hz.trans (hb1.mono hz.size); clear hb1; replace q0 := (hx.below hb).c0; rw [HK.out] at q0; replace q1 := (hx.below hb).c1; replace q2 := (hx.below hb).c2)
    | (go_at_call 33; (with_reducible refine (cM _ hz).mono ?_); rintro o3 w3 ⟨rfl, hb1⟩; replace hb := hb.trans (hb1.mono hb.size); replace hz := hz.trans (hb1.mono hz.size); clear hb1; replace q0 := (hx.below hb).c0; rw [HK.out] at q0; replace q1 := (hx.below hb).c1; replace q2 := (hx.below hb).c2))
  go_ret2
  exact .inr ⟨r, rfl, HA.out, h0, hz⟩

set_option maxRecDepth 100000 in
set_option maxHeartbeats 40000000 in
theorem ap_create_full (FA : Option Addr) (fn fc : Nat) (Xs : List FlV) (D : OpD) (A : Option Addr) (n c : Nat) (B : Option Addr) (m d : Nat) (w : World) (hn : Xs.length = fn) (bn : fn ≤ 300) (hr : FlRd w FA Xs) (hX : ∀ X ∈ Xs, FlOk w X) (hR : OpR w D A n B m) (hE : opE D = 0) (hk : D.k = 1) (a : Int) (hat : atV (Xs.map FlV.D) D.p = a) (hroom : roomV (Xs.map FlV.D) D.p = 0) (h2 : 200 ≤ fn) :
    Calls Try.prog 19 #[.slice FA fn fc, .agg (opC D A n c B m d)] w fun e w' => ApQ w w' (Xs.map FlV.D) D e := by
  have HA : Hid (applyF (Xs.map FlV.D) D = .error 14) := hid (by unfold applyF; rw [if_pos hE, if_neg (by omega), if_pos hk, if_pos hroom, if_pos (by rw [List.length_map, hn]; exact h2)])
  have cA : ∀ W, Below w.heap.size w W → Calls Try.prog 32 #[.slice FA fn fc, .string (txt D.p)] W fun e w' => e = .returned (.int .i64 a) ∧ Below W.heap.size W w' := fun W h => by
    rw [← hat]
    exact rat_any FA fn fc Xs D.p W hn (by omega) (hr.below h)
  have cM : ∀ W, Below w.heap.size w W → Calls Try.prog 33 #[.slice FA fn fc, .string (txt D.p)] W fun e w' => e = .returned (.int .i64 0) ∧ Below W.heap.size W w' := fun W h => by
    rw [← hroom]
    exact rroom_any FA fn fc Xs D.p W hn (by omega) (hr.below h) (fun X hx => (hX X hx).bp) hR.bp
  clear hat hroom
  have h2' : (200 : Int) ≤ fn := by omega
  have cE : ∀ W, Below w.heap.size w W → Calls Try.prog 31 #[.agg (opC D A n c B m d)] W fun e w' => e = .returned (.int .i64 0) ∧ Below W.heap.size W w' := fun W h => by
    rw [← hE]
    exact rr13_any D hR.hK A n c hR.lo (by have := hR.bn; omega) B m d hR.ln (by have := hR.bm; omega) (by have := hR.bp; omega) (by have := hR.bt; omega) (fun x hx => Nat.le_trans (hR.bo x hx) (by decide)) (fun x hx => Nat.le_trans (hR.bx x hx) (by decide)) W (hR.rA.below h) (hR.rB.below h)
  have KK := hR.hK
  have bn9 : fn ≤ 9223372036854775807 := by omega
  have hx := OpX.new w D A n c B m d
  have hz := (Below.refl w.heap.size w).alloc (Nat.le_refl _) (.cells (opC D A n c B m d) 42)
  have HE := hid hE
  have HN := hid hn
  have HX := hid hX
  have HR := hid hR
  have q0 := hx.c0; rw [hk] at q0
  have q1 := hx.c1
  have q2 := hx.c2
  have HK := hid hk
  clear hk
  clear hE hn hX hR
  go_enter Try.func19, Try.ntmps19
  go_upto_region 1 with (fail)
  generalize w.alloc (.cells (opC D A n c B m d) 42) = W0 at *
  have hb := Below.refl W0.heap.size W0
  go_wp2_with (first
    | (with_reducible refine wpList_load_opx (by with_unfolding_all rfl) _ rfl _ rfl (hx.below hb) KK ?_)
    | (go_at_call 31; (with_reducible refine (cE _ hz).mono ?_); rintro o1 w1 ⟨rfl, hb1⟩; replace hb := hb.trans (hb1.mono hb.size); replace hz := hz.trans (hb1.mono hz.size); clear hb1; replace q0 := (hx.below hb).c0; rw [HK.out] at q0; replace q1 := (hx.below hb).c1; replace q2 := (hx.below hb).c2)
    | (go_at_call 32; (with_reducible refine (cA _ hz).mono ?_); rintro o2 w2 ⟨rfl, hb1⟩; replace hb := hb.trans (hb1.mono hb.size); replace hz := hz.trans (hb1.mono hz.size); clear hb1; replace q0 := (hx.below hb).c0; rw [HK.out] at q0; replace q1 := (hx.below hb).c1; replace q2 := (hx.below hb).c2)
    | (go_at_call 33; (with_reducible refine (cM _ hz).mono ?_); rintro o3 w3 ⟨rfl, hb1⟩; replace hb := hb.trans (hb1.mono hb.size); replace hz := hz.trans (hb1.mono hz.size); clear hb1; replace q0 := (hx.below hb).c0; rw [HK.out] at q0; replace q1 := (hx.below hb).c1; replace q2 := (hx.below hb).c2))
  go_ret2
  exact .inr ⟨14, rfl, HA.out, by decide, hz⟩

set_option maxRecDepth 100000 in
set_option maxHeartbeats 40000000 in
theorem ap_create_ok (FA : Option Addr) (fn fc : Nat) (Xs : List FlV) (D : OpD) (A : Option Addr) (n c : Nat) (B : Option Addr) (m d : Nat) (w : World) (hn : Xs.length = fn) (bn : fn ≤ 300) (hr : FlRd w FA Xs) (hX : ∀ X ∈ Xs, FlOk w X) (hR : OpR w D A n B m) (hE : opE D = 0) (hk : D.k = 1) (a : Int) (hat : atV (Xs.map FlV.D) D.p = a) (hroom : roomV (Xs.map FlV.D) D.p = 0) (h2 : ¬ 200 ≤ fn) :
    Calls Try.prog 19 #[.slice FA fn fc, .agg (opC D A n c B m d)] w fun e w' => ApQ w w' (Xs.map FlV.D) D e := by
  have HA : Hid (applyF (Xs.map FlV.D) D = .ok ((putF Xs ⟨D.p, [], none, 0, 0⟩).map FlV.D)) := hid (by unfold applyF; rw [if_pos hE, if_neg (by omega), if_pos hk, if_pos hroom, if_neg (by rw [List.length_map, hn]; exact h2), putF_map]; rfl)
  have cA : ∀ W, Below w.heap.size w W → Calls Try.prog 32 #[.slice FA fn fc, .string (txt D.p)] W fun e w' => e = .returned (.int .i64 a) ∧ Below W.heap.size W w' := fun W h => by
    rw [← hat]
    exact rat_any FA fn fc Xs D.p W hn (by omega) (hr.below h)
  have cM : ∀ W, Below w.heap.size w W → Calls Try.prog 33 #[.slice FA fn fc, .string (txt D.p)] W fun e w' => e = .returned (.int .i64 0) ∧ Below W.heap.size W w' := fun W h => by
    rw [← hroom]
    exact rroom_any FA fn fc Xs D.p W hn (by omega) (hr.below h) (fun X hx => (hX X hx).bp) hR.bp
  clear hat hroom
  have h2' : ¬ (200 : Int) ≤ fn := by omega
  have b9 : fn ≤ 900 := by omega
  have H2 := hid h2
  clear h2
  have cE : ∀ W, Below w.heap.size w W → Calls Try.prog 31 #[.agg (opC D A n c B m d)] W fun e w' => e = .returned (.int .i64 0) ∧ Below W.heap.size W w' := fun W h => by
    rw [← hE]
    exact rr13_any D hR.hK A n c hR.lo (by have := hR.bn; omega) B m d hR.ln (by have := hR.bm; omega) (by have := hR.bp; omega) (by have := hR.bt; omega) (fun x hx => Nat.le_trans (hR.bo x hx) (by decide)) (fun x hx => Nat.le_trans (hR.bx x hx) (by decide)) W (hR.rA.below h) (hR.rB.below h)
  have KK := hR.hK
  have bn9 : fn ≤ 9223372036854775807 := by omega
  have hx := OpX.new w D A n c B m d
  have hz := (Below.refl w.heap.size w).alloc (Nat.le_refl _) (.cells (opC D A n c B m d) 42)
  have HE := hid hE
  have HN := hid hn
  have HX := hid hX
  have HR := hid hR
  have q0 := hx.c0; rw [hk] at q0
  have q1 := hx.c1
  have q2 := hx.c2
  have HK := hid hk
  clear hk
  clear hE hn hX hR
  go_enter Try.func19, Try.ntmps19
  go_upto_region 1 with (fail)
  generalize w.alloc (.cells (opC D A n c B m d) 42) = W0 at *
  have hb := Below.refl W0.heap.size W0
  go_wp2_with (first
    | (with_reducible refine wpList_load_opx (by with_unfolding_all rfl) _ rfl _ rfl (hx.below hb) KK ?_)
    | (go_at_call 31; (with_reducible refine (cE _ hz).mono ?_); rintro o1 w1 ⟨rfl, hb1⟩; replace hb := hb.trans (hb1.mono hb.size); replace hz := hz.trans (hb1.mono hz.size); clear hb1; replace q0 := (hx.below hb).c0; rw [HK.out] at q0; replace q1 := (hx.below hb).c1; replace q2 := (hx.below hb).c2)
    | (go_at_call 32; (with_reducible refine (cA _ hz).mono ?_); rintro o2 w2 ⟨rfl, hb1⟩; replace hb := hb.trans (hb1.mono hb.size); replace hz := hz.trans (hb1.mono hz.size); clear hb1; replace q0 := (hx.below hb).c0; rw [HK.out] at q0; replace q1 := (hx.below hb).c1; replace q2 := (hx.below hb).c2)
    | (go_at_call 33; (with_reducible refine (cM _ hz).mono ?_); rintro o3 w3 ⟨rfl, hb1⟩; replace hb := hb.trans (hb1.mono hb.size); replace hz := hz.trans (hb1.mono hz.size); clear hb1; replace q0 := (hx.below hb).c0; rw [HK.out] at q0; replace q1 := (hx.below hb).c1; replace q2 := (hx.below hb).c2)
    | (go_at_call 34; (with_reducible refine (rput_s FA fn fc Xs ⟨D.p, [], none, 0, 0⟩ _ HN.out b9 (hr.below hz)).mono ?_); rintro o4 w4 ⟨A4, c4, rfl, r4, hb1⟩; replace hb := hb.trans (hb1.mono hb.size); replace hz := hz.trans (hb1.mono hz.size); clear hb1; replace q0 := (hx.below hb).c0; rw [HK.out] at q0; replace q1 := (hx.below hb).c1; replace q2 := (hx.below hb).c2; have r4' := r4))
  go_ret2
  refine .inl ⟨putF Xs ⟨D.p, [], none, 0, 0⟩, A4, fn + 1, c4, rfl, HA.out, by rw [putF_len, HN.out], by have := H2.out; omega, r4, fun Y hY => ?_, hz⟩
  rcases putF_mem _ _ _ hY with rfl | hY
  · exact ⟨rfl, Nat.zero_le _, by simp, HR.out.bp, .inl rfl⟩
  · exact (HX.out Y hY).below hz

set_option maxRecDepth 100000 in
set_option maxHeartbeats 40000000 in
theorem ap_gone (FA : Option Addr) (fn fc : Nat) (Xs : List FlV) (D : OpD) (A : Option Addr) (n c : Nat) (B : Option Addr) (m d : Nat) (w : World) (hn : Xs.length = fn) (bn : fn ≤ 300) (hr : FlRd w FA Xs) (hX : ∀ X ∈ Xs, FlOk w X) (hR : OpR w D A n B m) (hE : opE D = 0) (hk : D.k = 2 ∨ D.k = 3 ∨ D.k = 4) (hat : atV (Xs.map FlV.D) D.p = -1) :
    Calls Try.prog 19 #[.slice FA fn fc, .agg (opC D A n c B m d)] w fun e w' => ApQ w w' (Xs.map FlV.D) D e := by
  have HA : Hid (applyF (Xs.map FlV.D) D = .error 6) := hid (by unfold applyF; rw [if_pos hE, if_neg (by omega), if_neg (by omega), if_pos (by rw [hat]; decide)])
  have k1 : ¬ 4 < D.k := by omega
  have k2 : ¬ D.k = 1 := by omega
  clear hk
  have cA : ∀ W, Below w.heap.size w W → Calls Try.prog 32 #[.slice FA fn fc, .string (txt D.p)] W fun e w' => e = .returned (.int .i64 (-1)) ∧ Below W.heap.size W w' := fun W h => by
    rw [← hat]
    exact rat_any FA fn fc Xs D.p W hn (by omega) (hr.below h)
  clear hat
  have cE : ∀ W, Below w.heap.size w W → Calls Try.prog 31 #[.agg (opC D A n c B m d)] W fun e w' => e = .returned (.int .i64 0) ∧ Below W.heap.size W w' := fun W h => by
    rw [← hE]
    exact rr13_any D hR.hK A n c hR.lo (by have := hR.bn; omega) B m d hR.ln (by have := hR.bm; omega) (by have := hR.bp; omega) (by have := hR.bt; omega) (fun x hx => Nat.le_trans (hR.bo x hx) (by decide)) (fun x hx => Nat.le_trans (hR.bx x hx) (by decide)) W (hR.rA.below h) (hR.rB.below h)
  have KK := hR.hK
  have bn9 : fn ≤ 9223372036854775807 := by omega
  have hx := OpX.new w D A n c B m d
  have hz := (Below.refl w.heap.size w).alloc (Nat.le_refl _) (.cells (opC D A n c B m d) 42)
  have HE := hid hE
  have HN := hid hn
  have HX := hid hX
  have HR := hid hR
  have q0 := hx.c0
  have q1 := hx.c1
  have q2 := hx.c2
  clear hE hn hX hR
  go_enter Try.func19, Try.ntmps19
  go_upto_region 1 with (fail)
  generalize w.alloc (.cells (opC D A n c B m d) 42) = W0 at *
  have hb := Below.refl W0.heap.size W0
  go_wp2_with (first
    | (with_reducible refine wpList_load_opx (by with_unfolding_all rfl) _ rfl _ rfl (hx.below hb) KK ?_)
    | (go_at_call 31; (with_reducible refine (cE _ hz).mono ?_); rintro o1 w1 ⟨rfl, hb1⟩; replace hb := hb.trans (hb1.mono hb.size); replace hz := hz.trans (hb1.mono hz.size); clear hb1; replace q0 := (hx.below hb).c0; replace q1 := (hx.below hb).c1; replace q2 := (hx.below hb).c2)
    | (go_at_call 32; (with_reducible refine (cA _ hz).mono ?_); rintro o2 w2 ⟨rfl, hb1⟩; replace hb := hb.trans (hb1.mono hb.size); replace hz := hz.trans (hb1.mono hz.size); clear hb1; replace q0 := (hx.below hb).c0; replace q1 := (hx.below hb).c1; replace q2 := (hx.below hb).c2))
  go_ret2
  exact .inr ⟨6, rfl, HA.out, by decide, hz⟩

set_option maxRecDepth 100000 in
set_option maxHeartbeats 40000000 in
theorem ap_delete_no (FA : Option Addr) (fn fc : Nat) (Xs : List FlV) (D : OpD) (A : Option Addr) (n c : Nat) (B : Option Addr) (m d : Nat) (w : World) (hn : Xs.length = fn) (bn : fn ≤ 300) (hr : FlRd w FA Xs) (hX : ∀ X ∈ Xs, FlOk w X) (hR : OpR w D A n B m) (hE : opE D = 0) (hk : D.k = 2) (i : Nat) (X : FlV) (hat : atV (Xs.map FlV.D) D.p = (i : Nat)) (hXi : Xs[i]? = some X) (hs : decide (X.l = D.o) = false) :
    Calls Try.prog 19 #[.slice FA fn fc, .agg (opC D A n c B m d)] w fun e w' => ApQ w w' (Xs.map FlV.D) D e := by
  have hi : i < fn := by rw [← hn]; exact (List.getElem?_eq_some_iff.1 hXi).1
  have hi2 : ¬ (i : Int) < 0 := by omega
  have hi3 : ¬ atV (Xs.map FlV.D) D.p < 0 := by rw [hat]; exact hi2
  have hi4 : (Xs.map FlV.D)[(atV (Xs.map FlV.D) D.p).toNat]? = some X.D := by rw [hat, Int.toNat_natCast, List.getElem?_map, hXi]; rfl
  have hi5 : (Xs.map FlV.D).eraseIdx (atV (Xs.map FlV.D) D.p).toNat = (Xs.eraseIdx i).map FlV.D := by rw [hat, Int.toNat_natCast, erase_map]
  have HA : Hid (applyF (Xs.map FlV.D) D = .error 12) := hid (by unfold applyF; rw [if_pos hE, if_neg (by omega), if_neg (by omega), if_neg hi3, hi4, hi5]; simp only; rw [if_pos hk, if_neg (by exact of_decide_eq_false hs)])
  have cA : ∀ W, Below w.heap.size w W → Calls Try.prog 32 #[.slice FA fn fc, .string (txt D.p)] W fun e w' => e = .returned (.int .i64 (i : Int)) ∧ Below W.heap.size W w' := fun W h => by
    rw [← hat]
    exact rat_any FA fn fc Xs D.p W hn (by omega) (hr.below h)
  obtain ⟨g, q, hg, -, -, hix⟩ := hr.pick fc hn hXi
  have hXo := hX X (List.mem_of_getElem? hXi)
  have b9 : fn ≤ 900 := by omega
  have cW : ∀ W, Below w.heap.size w W → Calls Try.prog 20 #[.slice X.A X.n X.c, .slice A n c] W fun e w' => e = .returned (.bool false) ∧ Below W.heap.size W w' := fun W h => by
    rw [← hs]
    exact same_any X.A A X.n n X.c c X.l D.o hXo.ln hR.lo (by have := hXo.bn; omega) (by have := hR.bn; omega) W (hXo.rA.below h) (hR.rA.below h)
  have HXI := hid hXi
  have HXO := hid hXo

  clear hat hXi hi3 hi4 hi5 hXo
  clear hs
  have cE : ∀ W, Below w.heap.size w W → Calls Try.prog 31 #[.agg (opC D A n c B m d)] W fun e w' => e = .returned (.int .i64 0) ∧ Below W.heap.size W w' := fun W h => by
    rw [← hE]
    exact rr13_any D hR.hK A n c hR.lo (by have := hR.bn; omega) B m d hR.ln (by have := hR.bm; omega) (by have := hR.bp; omega) (by have := hR.bt; omega) (fun x hx => Nat.le_trans (hR.bo x hx) (by decide)) (fun x hx => Nat.le_trans (hR.bx x hx) (by decide)) W (hR.rA.below h) (hR.rB.below h)
  have KK := hR.hK
  have bn9 : fn ≤ 9223372036854775807 := by omega
  have hx := OpX.new w D A n c B m d
  have hz := (Below.refl w.heap.size w).alloc (Nat.le_refl _) (.cells (opC D A n c B m d) 42)
  have HE := hid hE
  have HN := hid hn
  have HX := hid hX
  have HR := hid hR
  have q0 := hx.c0; rw [hk] at q0
  have q1 := hx.c1
  have q2 := hx.c2
  have HK := hid hk
  clear hk
  clear hE hn hX hR
  go_enter Try.func19, Try.ntmps19
  go_upto_region 1 with (fail)
  generalize w.alloc (.cells (opC D A n c B m d) 42) = W0 at *
  have hb := Below.refl W0.heap.size W0
  go_wp2_with (first
    | (with_reducible refine wpList_load_opx (by with_unfolding_all rfl) _ rfl _ rfl (hx.below hb) KK ?_)
    | (go_at_call 31; (with_reducible refine (cE _ hz).mono ?_); rintro o1 w1 ⟨rfl, hb1⟩; replace hb := hb.trans (hb1.mono hb.size); replace hz := hz.trans (hb1.mono hz.size); clear hb1; replace q0 := (hx.below hb).c0; rw [HK.out] at q0; replace q1 := (hx.below hb).c1; replace q2 := (hx.below hb).c2)
    | (go_at_call 32; (with_reducible refine (cA _ hz).mono ?_); rintro o2 w2 ⟨rfl, hb1⟩; replace hb := hb.trans (hb1.mono hb.size); replace hz := hz.trans (hb1.mono hz.size); clear hb1; replace q0 := (hx.below hb).c0; rw [HK.out] at q0; replace q1 := (hx.below hb).c1; replace q2 := (hx.below hb).c2)
    | (go_at_call 35; (with_reducible refine (rdrop_s FA fn fc Xs i _ HN.out b9 hi (hr.below hz)).mono ?_); rintro o5 w5 ⟨A3, c3, rfl, r3, hb1⟩; replace hb := hb.trans (hb1.mono hb.size); replace hz := hz.trans (hb1.mono hz.size); clear hb1; replace q0 := (hx.below hb).c0; rw [HK.out] at q0; replace q1 := (hx.below hb).c1; replace q2 := (hx.below hb).c2))
  refine wp_region_held_drew (S := fun W => Below w.heap.size w W ∧ OpX W w.heap.size D A n c B m d) (by kernel_rfl) ⟨hz.trans ((below_drew10 _).mono hz.size), (hx.below hb).below (below_drew10 _)⟩ (fun hHeld => ?_)
  replace hz := hz.trans ((below_drew10 _).mono hz.size)
  replace r3 := r3.below (below_drew10 _)
  clear hb q0 q1 q2
  generalize World.drew _ = V1 at *
  refine' wpAnyH_take (i := 0) (v := .slice FA fn fc) rfl (by kernel_rfl) (by kernel_rfl) (by kernel_rfl) (fun _ _ _ h => h) (Or.inl ⟨by rfl, fun w' hw' => by go_simp⟩) hHeld ?_
  try simp only [Act.put, List.getElem_toArray, List.getElem_cons_succ, List.getElem_cons_zero, List.setIfInBounds_toArray, List.set_cons_zero, List.set_cons_succ]
  refine' wpAnyH_take (i := 1) (v := .int .i64 (i : Int)) rfl (by kernel_rfl) (by kernel_rfl) (by kernel_rfl) (fun _ _ _ h => h) (Or.inl ⟨by rfl, fun w' hw' => by go_simp⟩) hHeld ?_
  try simp only [Act.put, List.getElem_toArray, List.getElem_cons_succ, List.getElem_cons_zero, List.setIfInBounds_toArray, List.set_cons_zero, List.set_cons_succ]
  refine' wpAnyH_take (i := 2) (v := .pointer (some ⟨g, q, none⟩)) rfl (by kernel_rfl) (by kernel_rfl) (by kernel_rfl) (fun _ _ _ h => h) (Or.inl ⟨by rfl, fun w' hw' => by go_simp⟩) hHeld ?_
  try simp only [Act.put, List.getElem_toArray, List.getElem_cons_succ, List.getElem_cons_zero, List.setIfInBounds_toArray, List.set_cons_zero, List.set_cons_succ]
  refine' wpAnyH_take (i := 3) (v := .pointer (some ⟨g, q + 1, none⟩)) rfl (by kernel_rfl) (by kernel_rfl) (by kernel_rfl) (fun _ _ _ h => h) (Or.inl ⟨by rfl, fun w' hw' => by go_simp⟩) hHeld ?_
  try simp only [Act.put, List.getElem_toArray, List.getElem_cons_succ, List.getElem_cons_zero, List.setIfInBounds_toArray, List.set_cons_zero, List.set_cons_succ]
  refine' wpAnyH_take (i := 4) (v := .slice X.A X.n X.c) rfl (by kernel_rfl) (by kernel_rfl) (by kernel_rfl) (fun _ _ _ h => h) (Or.inl ⟨by rfl, fun w' hw' => by have y := (hg.below hw'.1) 1 _ rfl; go_simp⟩) hHeld ?_
  try simp only [Act.put, List.getElem_toArray, List.getElem_cons_succ, List.getElem_cons_zero, List.setIfInBounds_toArray, List.set_cons_zero, List.set_cons_succ]
  refine' wpAnyH_take (i := 5) (v := .pointer (some ⟨w.heap.size, 4, none⟩)) rfl (by kernel_rfl) (by kernel_rfl) (by kernel_rfl) (fun _ _ _ h => h) (Or.inl ⟨by rfl, fun w' hw' => by go_simp⟩) hHeld ?_
  try simp only [Act.put, List.getElem_toArray, List.getElem_cons_succ, List.getElem_cons_zero, List.setIfInBounds_toArray, List.set_cons_zero, List.set_cons_succ]
  refine' wpAnyH_take (i := 6) (v := .slice A n c) rfl (by kernel_rfl) (by kernel_rfl) (by kernel_rfl) (fun _ _ _ h => h) (Or.inl ⟨by rfl, fun w' hw' => by have y := hw'.2.c4; go_simp⟩) hHeld ?_
  try simp only [Act.put, List.getElem_toArray, List.getElem_cons_succ, List.getElem_cons_zero, List.setIfInBounds_toArray, List.set_cons_zero, List.set_cons_succ]
  refine wpAnyH_ready (rs := [7]) (by kernel_rfl) (by simp) ?_
  refine AllReadyH.cons rfl (fun K hK => ?_) AllReadyH.nil
  go_simp
  (with_reducible refine (cW _ hHeld.1).mono ?_)
  rintro e9 V2 ⟨rfl, hb9⟩
  replace hz := hz.trans (hb9.mono hz.size)
  replace r3 := r3.below hb9
  refine hK.out _ _ ⟨hz, hHeld.2.below hb9⟩ (fun hHeld => ?_)
  clear hK K hb9
  try simp only [Act.put, List.getElem_toArray, List.getElem_cons_succ, List.getElem_cons_zero, List.setIfInBounds_toArray, List.set_cons_zero, List.set_cons_succ]
  refine' wpAnyH_take (i := 8) (v := .bool true) rfl (by kernel_rfl) (by kernel_rfl) (by kernel_rfl) (fun _ _ _ h => h) (Or.inl ⟨by rfl, fun w' hw' => by go_simp⟩) hHeld ?_
  try simp only [Act.put, List.getElem_toArray, List.getElem_cons_succ, List.getElem_cons_zero, List.setIfInBounds_toArray, List.set_cons_zero, List.set_cons_succ]
  refine wpAnyH_done (by kernel_rfl) ?_ _
  go_wp2
  go_ret2
  exact .inr ⟨12, rfl, HA.out, by decide, hz⟩

set_option maxRecDepth 100000 in
set_option maxHeartbeats 40000000 in
theorem ap_delete_ok (FA : Option Addr) (fn fc : Nat) (Xs : List FlV) (D : OpD) (A : Option Addr) (n c : Nat) (B : Option Addr) (m d : Nat) (w : World) (hn : Xs.length = fn) (bn : fn ≤ 300) (hr : FlRd w FA Xs) (hX : ∀ X ∈ Xs, FlOk w X) (hR : OpR w D A n B m) (hE : opE D = 0) (hk : D.k = 2) (i : Nat) (X : FlV) (hat : atV (Xs.map FlV.D) D.p = (i : Nat)) (hXi : Xs[i]? = some X) (hs : decide (X.l = D.o) = true) :
    Calls Try.prog 19 #[.slice FA fn fc, .agg (opC D A n c B m d)] w fun e w' => ApQ w w' (Xs.map FlV.D) D e := by
  have hi : i < fn := by rw [← hn]; exact (List.getElem?_eq_some_iff.1 hXi).1
  have hi2 : ¬ (i : Int) < 0 := by omega
  have hi3 : ¬ atV (Xs.map FlV.D) D.p < 0 := by rw [hat]; exact hi2
  have hi4 : (Xs.map FlV.D)[(atV (Xs.map FlV.D) D.p).toNat]? = some X.D := by rw [hat, Int.toNat_natCast, List.getElem?_map, hXi]; rfl
  have hi5 : (Xs.map FlV.D).eraseIdx (atV (Xs.map FlV.D) D.p).toNat = (Xs.eraseIdx i).map FlV.D := by rw [hat, Int.toNat_natCast, erase_map]
  have HA : Hid (applyF (Xs.map FlV.D) D = .ok ((Xs.eraseIdx i).map FlV.D)) := hid (by unfold applyF; rw [if_pos hE, if_neg (by omega), if_neg (by omega), if_neg hi3, hi4, hi5]; simp only; rw [if_pos hk, if_pos (by exact of_decide_eq_true hs)])
  have cA : ∀ W, Below w.heap.size w W → Calls Try.prog 32 #[.slice FA fn fc, .string (txt D.p)] W fun e w' => e = .returned (.int .i64 (i : Int)) ∧ Below W.heap.size W w' := fun W h => by
    rw [← hat]
    exact rat_any FA fn fc Xs D.p W hn (by omega) (hr.below h)
  obtain ⟨g, q, hg, -, -, hix⟩ := hr.pick fc hn hXi
  have hXo := hX X (List.mem_of_getElem? hXi)
  have b9 : fn ≤ 900 := by omega
  have cW : ∀ W, Below w.heap.size w W → Calls Try.prog 20 #[.slice X.A X.n X.c, .slice A n c] W fun e w' => e = .returned (.bool true) ∧ Below W.heap.size W w' := fun W h => by
    rw [← hs]
    exact same_any X.A A X.n n X.c c X.l D.o hXo.ln hR.lo (by have := hXo.bn; omega) (by have := hR.bn; omega) W (hXo.rA.below h) (hR.rA.below h)
  have HXI := hid hXi
  have HXO := hid hXo

  clear hat hXi hi3 hi4 hi5 hXo
  clear hs
  have cE : ∀ W, Below w.heap.size w W → Calls Try.prog 31 #[.agg (opC D A n c B m d)] W fun e w' => e = .returned (.int .i64 0) ∧ Below W.heap.size W w' := fun W h => by
    rw [← hE]
    exact rr13_any D hR.hK A n c hR.lo (by have := hR.bn; omega) B m d hR.ln (by have := hR.bm; omega) (by have := hR.bp; omega) (by have := hR.bt; omega) (fun x hx => Nat.le_trans (hR.bo x hx) (by decide)) (fun x hx => Nat.le_trans (hR.bx x hx) (by decide)) W (hR.rA.below h) (hR.rB.below h)
  have KK := hR.hK
  have bn9 : fn ≤ 9223372036854775807 := by omega
  have hx := OpX.new w D A n c B m d
  have hz := (Below.refl w.heap.size w).alloc (Nat.le_refl _) (.cells (opC D A n c B m d) 42)
  have HE := hid hE
  have HN := hid hn
  have HX := hid hX
  have HR := hid hR
  have q0 := hx.c0; rw [hk] at q0
  have q1 := hx.c1
  have q2 := hx.c2
  have HK := hid hk
  clear hk
  clear hE hn hX hR
  go_enter Try.func19, Try.ntmps19
  go_upto_region 1 with (fail)
  generalize w.alloc (.cells (opC D A n c B m d) 42) = W0 at *
  have hb := Below.refl W0.heap.size W0
  go_wp2_with (first
    | (with_reducible refine wpList_load_opx (by with_unfolding_all rfl) _ rfl _ rfl (hx.below hb) KK ?_)
    | (go_at_call 31; (with_reducible refine (cE _ hz).mono ?_); rintro o1 w1 ⟨rfl, hb1⟩; replace hb := hb.trans (hb1.mono hb.size); replace hz := hz.trans (hb1.mono hz.size); clear hb1; replace q0 := (hx.below hb).c0; rw [HK.out] at q0; replace q1 := (hx.below hb).c1; replace q2 := (hx.below hb).c2)
    | (go_at_call 32; (with_reducible refine (cA _ hz).mono ?_); rintro o2 w2 ⟨rfl, hb1⟩; replace hb := hb.trans (hb1.mono hb.size); replace hz := hz.trans (hb1.mono hz.size); clear hb1; replace q0 := (hx.below hb).c0; rw [HK.out] at q0; replace q1 := (hx.below hb).c1; replace q2 := (hx.below hb).c2)
    | (go_at_call 35; (with_reducible refine (rdrop_s FA fn fc Xs i _ HN.out b9 hi (hr.below hz)).mono ?_); rintro o5 w5 ⟨A3, c3, rfl, r3, hb1⟩; replace hb := hb.trans (hb1.mono hb.size); replace hz := hz.trans (hb1.mono hz.size); clear hb1; replace q0 := (hx.below hb).c0; rw [HK.out] at q0; replace q1 := (hx.below hb).c1; replace q2 := (hx.below hb).c2))
  refine wp_region_held_drew (S := fun W => Below w.heap.size w W ∧ OpX W w.heap.size D A n c B m d) (by kernel_rfl) ⟨hz.trans ((below_drew10 _).mono hz.size), (hx.below hb).below (below_drew10 _)⟩ (fun hHeld => ?_)
  replace hz := hz.trans ((below_drew10 _).mono hz.size)
  replace r3 := r3.below (below_drew10 _)
  clear hb q0 q1 q2
  generalize World.drew _ = V1 at *
  refine' wpAnyH_take (i := 0) (v := .slice FA fn fc) rfl (by kernel_rfl) (by kernel_rfl) (by kernel_rfl) (fun _ _ _ h => h) (Or.inl ⟨by rfl, fun w' hw' => by go_simp⟩) hHeld ?_
  try simp only [Act.put, List.getElem_toArray, List.getElem_cons_succ, List.getElem_cons_zero, List.setIfInBounds_toArray, List.set_cons_zero, List.set_cons_succ]
  refine' wpAnyH_take (i := 1) (v := .int .i64 (i : Int)) rfl (by kernel_rfl) (by kernel_rfl) (by kernel_rfl) (fun _ _ _ h => h) (Or.inl ⟨by rfl, fun w' hw' => by go_simp⟩) hHeld ?_
  try simp only [Act.put, List.getElem_toArray, List.getElem_cons_succ, List.getElem_cons_zero, List.setIfInBounds_toArray, List.set_cons_zero, List.set_cons_succ]
  refine' wpAnyH_take (i := 2) (v := .pointer (some ⟨g, q, none⟩)) rfl (by kernel_rfl) (by kernel_rfl) (by kernel_rfl) (fun _ _ _ h => h) (Or.inl ⟨by rfl, fun w' hw' => by go_simp⟩) hHeld ?_
  try simp only [Act.put, List.getElem_toArray, List.getElem_cons_succ, List.getElem_cons_zero, List.setIfInBounds_toArray, List.set_cons_zero, List.set_cons_succ]
  refine' wpAnyH_take (i := 3) (v := .pointer (some ⟨g, q + 1, none⟩)) rfl (by kernel_rfl) (by kernel_rfl) (by kernel_rfl) (fun _ _ _ h => h) (Or.inl ⟨by rfl, fun w' hw' => by go_simp⟩) hHeld ?_
  try simp only [Act.put, List.getElem_toArray, List.getElem_cons_succ, List.getElem_cons_zero, List.setIfInBounds_toArray, List.set_cons_zero, List.set_cons_succ]
  refine' wpAnyH_take (i := 4) (v := .slice X.A X.n X.c) rfl (by kernel_rfl) (by kernel_rfl) (by kernel_rfl) (fun _ _ _ h => h) (Or.inl ⟨by rfl, fun w' hw' => by have y := (hg.below hw'.1) 1 _ rfl; go_simp⟩) hHeld ?_
  try simp only [Act.put, List.getElem_toArray, List.getElem_cons_succ, List.getElem_cons_zero, List.setIfInBounds_toArray, List.set_cons_zero, List.set_cons_succ]
  refine' wpAnyH_take (i := 5) (v := .pointer (some ⟨w.heap.size, 4, none⟩)) rfl (by kernel_rfl) (by kernel_rfl) (by kernel_rfl) (fun _ _ _ h => h) (Or.inl ⟨by rfl, fun w' hw' => by go_simp⟩) hHeld ?_
  try simp only [Act.put, List.getElem_toArray, List.getElem_cons_succ, List.getElem_cons_zero, List.setIfInBounds_toArray, List.set_cons_zero, List.set_cons_succ]
  refine' wpAnyH_take (i := 6) (v := .slice A n c) rfl (by kernel_rfl) (by kernel_rfl) (by kernel_rfl) (fun _ _ _ h => h) (Or.inl ⟨by rfl, fun w' hw' => by have y := hw'.2.c4; go_simp⟩) hHeld ?_
  try simp only [Act.put, List.getElem_toArray, List.getElem_cons_succ, List.getElem_cons_zero, List.setIfInBounds_toArray, List.set_cons_zero, List.set_cons_succ]
  refine wpAnyH_ready (rs := [7]) (by kernel_rfl) (by simp) ?_
  refine AllReadyH.cons rfl (fun K hK => ?_) AllReadyH.nil
  go_simp
  (with_reducible refine (cW _ hHeld.1).mono ?_)
  rintro e9 V2 ⟨rfl, hb9⟩
  replace hz := hz.trans (hb9.mono hz.size)
  replace r3 := r3.below hb9
  refine hK.out _ _ ⟨hz, hHeld.2.below hb9⟩ (fun hHeld => ?_)
  clear hK K hb9
  try simp only [Act.put, List.getElem_toArray, List.getElem_cons_succ, List.getElem_cons_zero, List.setIfInBounds_toArray, List.set_cons_zero, List.set_cons_succ]
  refine' wpAnyH_take (i := 8) (v := .bool false) rfl (by kernel_rfl) (by kernel_rfl) (by kernel_rfl) (fun _ _ _ h => h) (Or.inl ⟨by rfl, fun w' hw' => by go_simp⟩) hHeld ?_
  try simp only [Act.put, List.getElem_toArray, List.getElem_cons_succ, List.getElem_cons_zero, List.setIfInBounds_toArray, List.set_cons_zero, List.set_cons_succ]
  refine wpAnyH_done (by kernel_rfl) ?_ _
  go_wp2
  go_ret2
  exact .inl ⟨Xs.eraseIdx i, A3, fn - 1, c3, rfl, HA.out, by rw [List.length_eraseIdx, if_pos (by rw [HN.out]; exact hi), HN.out], by omega, r3, fun Y hY => (HX.out Y (erase_mem hY)).below hz, hz⟩

/-- Lines that are read. -/
def NwL (W : World) (A : Option Addr) (n : Nat) (l : List (List UInt8)) : Prop := l.length = n ∧ n ≤ 1000 ∧ (∀ x ∈ l, x.length ≤ 1000) ∧ Rd W A (l.map strV)
theorem apR_len9 (ls : List (List UInt8)) (at' : Int) (old new : List (List UInt8)) : (apR ls at' old new).1.length ≤ 1000 := by
  by_cases h : (apR ls at' old new).2 = 0
  · exact (apR_back ls at' old new h).2
  · have : (apR ls at' old new).1 = [] := by
      revert h; unfold apR appR; repeat' split
      all_goals simp
    rw [this]; decide
theorem apR_short9 (ls : List (List UInt8)) (at' : Int) (old new : List (List UInt8)) (N : Nat) (h1 : ∀ x ∈ ls, x.length ≤ N) (h2 : ∀ x ∈ new, x.length ≤ N) : ∀ x ∈ (apR ls at' old new).1, x.length ≤ N := by
  by_cases h : (apR ls at' old new).2 = 0
  · obtain ⟨P, S, _, e2, e3, _, _⟩ := apR_get h
    rw [e3]
    intro x hx
    simp only [List.mem_append] at hx
    rcases hx with hx | hx | hx
    · exact h1 x (by rw [e2]; simp [hx])
    · exact h2 x hx
    · exact h1 x (by rw [e2]; simp [hx])
  · have : (apR ls at' old new).1 = [] := by
      revert h; unfold apR appR; repeat' split
      all_goals simp
    rw [this]
    intro x hx
    cases hx
theorem redit_any (L : Option Addr) (k e : Nat) (ls : List (List UInt8)) (hk : ls.length = k) (bk : k ≤ 1000) (l8 : ∀ x ∈ ls, x.length ≤ 1000) (at' : Int) (A : Option Addr) (n c : Nat) (old : List (List UInt8)) (hn : old.length = n) (bn : n ≤ 1000) (o8 : ∀ x ∈ old, x.length ≤ 1000) (B : Option Addr) (m d : Nat) (new : List (List UInt8)) (hm : new.length = m) (bm : m ≤ 1000) (n8 : ∀ x ∈ new, x.length ≤ 1000) (w : World)
    (hL : Rd w L (ls.map strV)) (hA : Rd w A (old.map strV)) (hB : Rd w B (new.map strV)) :
    Calls Try.prog 36 #[.slice L k e, .agg #[.int .i64 at', .slice A n c, .slice B m d]] w fun e w' => ∃ A5 n5 c5, e = .returned (.tuple #[.slice A5 n5 c5, .int .i64 (apR ls at' old new).2]) ∧ NwL w' A5 n5 (apR ls at' old new).1 ∧ Below w.heap.size w w' := by
  refine (rapply_any L k e ls hk bk at' A n c old hn bn B m d new hm bm (fun x hx => Nat.le_trans (l8 x hx) (by decide)) (fun x hx => Nat.le_trans (o8 x hx) (by decide)) (fun x hx => Nat.le_trans (n8 x hx) (by decide)) w hL hA hB).mono ?_
  rintro e w' ⟨v, rfl, ho, hb⟩
  rw [← apR_snd]
  rw [← apR_fst] at ho
  obtain ⟨h1, A5, c5, rfl, h2⟩ := rowRd ho
  exact ⟨A5, _, c5, rfl, ⟨rfl, apR_len9 _ _ _ _, apR_short9 _ _ _ _ 1000 l8 n8, h2⟩, hb⟩

set_option maxRecDepth 100000 in
set_option maxHeartbeats 40000000 in
theorem ap_edit_no (FA : Option Addr) (fn fc : Nat) (Xs : List FlV) (D : OpD) (A : Option Addr) (n c : Nat) (B : Option Addr) (m d : Nat) (w : World) (hn : Xs.length = fn) (bn : fn ≤ 300) (hr : FlRd w FA Xs) (hX : ∀ X ∈ Xs, FlOk w X) (hR : OpR w D A n B m) (hE : opE D = 0) (hk : D.k = 3) (i : Nat) (X : FlV) (hat : atV (Xs.map FlV.D) D.p = (i : Nat)) (hXi : Xs[i]? = some X) (r : Int) (hs : (apR X.l D.a D.o D.n).2 = r) (h0 : ¬ r = 0) :
    Calls Try.prog 19 #[.slice FA fn fc, .agg (opC D A n c B m d)] w fun e w' => ApQ w w' (Xs.map FlV.D) D e := by
  have hi : i < fn := by rw [← hn]; exact (List.getElem?_eq_some_iff.1 hXi).1
  have hi2 : ¬ (i : Int) < 0 := by omega
  have hi3 : ¬ atV (Xs.map FlV.D) D.p < 0 := by rw [hat]; exact hi2
  have hi4 : (Xs.map FlV.D)[(atV (Xs.map FlV.D) D.p).toNat]? = some X.D := by rw [hat, Int.toNat_natCast, List.getElem?_map, hXi]; rfl
  have hi5 : (Xs.map FlV.D).eraseIdx (atV (Xs.map FlV.D) D.p).toNat = (Xs.eraseIdx i).map FlV.D := by rw [hat, Int.toNat_natCast, erase_map]
  have HA : Hid (applyF (Xs.map FlV.D) D = .error r) := hid (by unfold applyF; rw [if_pos hE, if_neg (by omega), if_neg (by omega), if_neg hi3, hi4, hi5]; simp only; rw [if_neg (by omega), if_pos hk, if_neg (by rw [show X.D.2 = X.l from rfl, hs]; exact h0), show X.D.2 = X.l from rfl, hs])
  have cA : ∀ W, Below w.heap.size w W → Calls Try.prog 32 #[.slice FA fn fc, .string (txt D.p)] W fun e w' => e = .returned (.int .i64 (i : Int)) ∧ Below W.heap.size W w' := fun W h => by
    rw [← hat]
    exact rat_any FA fn fc Xs D.p W hn (by omega) (hr.below h)
  obtain ⟨g, q, hg, -, -, hix⟩ := hr.pick fc hn hXi
  have hXo := hX X (List.mem_of_getElem? hXi)
  have b9 : fn ≤ 900 := by omega
  have cV : ∀ W, Below w.heap.size w W → Calls Try.prog 36 #[.slice X.A X.n X.c, .agg #[.int .i64 D.a, .slice A n c, .slice B m d]] W fun e w' => ∃ A5 n5 c5, e = .returned (.tuple #[.slice A5 n5 c5, .int .i64 r]) ∧ NwL w' A5 n5 (apR X.l D.a D.o D.n).1 ∧ Below W.heap.size W w' := fun W h => by
    rw [← hs]
    exact redit_any X.A X.n X.c X.l hXo.ln hXo.bn hXo.bx D.a A n c D.o hR.lo hR.bn hR.bo B m d D.n hR.ln hR.bm hR.bx W (hXo.rA.below h) (hR.rA.below h) (hR.rB.below h)
  have HXI := hid hXi
  have HXO := hid hXo

  clear hat hXi hi3 hi4 hi5 hXo
  clear hs
  have cE : ∀ W, Below w.heap.size w W → Calls Try.prog 31 #[.agg (opC D A n c B m d)] W fun e w' => e = .returned (.int .i64 0) ∧ Below W.heap.size W w' := fun W h => by
    rw [← hE]
    exact rr13_any D hR.hK A n c hR.lo (by have := hR.bn; omega) B m d hR.ln (by have := hR.bm; omega) (by have := hR.bp; omega) (by have := hR.bt; omega) (fun x hx => Nat.le_trans (hR.bo x hx) (by decide)) (fun x hx => Nat.le_trans (hR.bx x hx) (by decide)) W (hR.rA.below h) (hR.rB.below h)
  have KK := hR.hK
  have bn9 : fn ≤ 9223372036854775807 := by omega
  have hx := OpX.new w D A n c B m d
  have hz := (Below.refl w.heap.size w).alloc (Nat.le_refl _) (.cells (opC D A n c B m d) 42)
  have HE := hid hE
  have HN := hid hn
  have HX := hid hX
  have HR := hid hR
  have q0 := hx.c0; rw [hk] at q0
  have q1 := hx.c1
  have q2 := hx.c2
  have HK := hid hk
  clear hk
  clear hE hn hX hR
  go_enter Try.func19, Try.ntmps19
  go_upto_region 1 with (fail)
  generalize w.alloc (.cells (opC D A n c B m d) 42) = W0 at *
  have hb := Below.refl W0.heap.size W0
  go_wp2_with (first
    | (with_reducible refine wpList_load_opx (by with_unfolding_all rfl) _ rfl _ rfl (hx.below hb) KK ?_)
    | (go_at_call 31; (with_reducible refine (cE _ hz).mono ?_); rintro o1 w1 ⟨rfl, hb1⟩; replace hb := hb.trans (hb1.mono hb.size); replace hz := hz.trans (hb1.mono hz.size); clear hb1; replace q0 := (hx.below hb).c0; rw [HK.out] at q0; replace q1 := (hx.below hb).c1; replace q2 := (hx.below hb).c2)
    | (go_at_call 32; (with_reducible refine (cA _ hz).mono ?_); rintro o2 w2 ⟨rfl, hb1⟩; replace hb := hb.trans (hb1.mono hb.size); replace hz := hz.trans (hb1.mono hz.size); clear hb1; replace q0 := (hx.below hb).c0; rw [HK.out] at q0; replace q1 := (hx.below hb).c1; replace q2 := (hx.below hb).c2)
    | (go_at_call 35; (with_reducible refine (rdrop_s FA fn fc Xs i _ HN.out b9 hi (hr.below hz)).mono ?_); rintro o5 w5 ⟨A3, c3, rfl, r3, hb1⟩; replace hb := hb.trans (hb1.mono hb.size); replace hz := hz.trans (hb1.mono hz.size); clear hb1; replace q0 := (hx.below hb).c0; rw [HK.out] at q0; replace q1 := (hx.below hb).c1; replace q2 := (hx.below hb).c2))
  refine wp_region_held_drew (S := fun W => Below w.heap.size w W ∧ OpX W w.heap.size D A n c B m d) (by kernel_rfl) ⟨hz.trans ((below_drew10 _).mono hz.size), (hx.below hb).below (below_drew10 _)⟩ (fun hHeld => ?_)
  replace hz := hz.trans ((below_drew10 _).mono hz.size)
  replace r3 := r3.below (below_drew10 _)
  clear hb q0 q1 q2
  generalize World.drew _ = V1 at *
  refine' wpAnyH_take (i := 0) (v := .slice FA fn fc) rfl (by kernel_rfl) (by kernel_rfl) (by kernel_rfl) (fun _ _ _ h => h) (Or.inl ⟨by rfl, fun w' hw' => by go_simp⟩) hHeld ?_
  try simp only [Act.put, List.getElem_toArray, List.getElem_cons_succ, List.getElem_cons_zero, List.setIfInBounds_toArray, List.set_cons_zero, List.set_cons_succ]
  refine' wpAnyH_take (i := 1) (v := .int .i64 (i : Int)) rfl (by kernel_rfl) (by kernel_rfl) (by kernel_rfl) (fun _ _ _ h => h) (Or.inl ⟨by rfl, fun w' hw' => by go_simp⟩) hHeld ?_
  try simp only [Act.put, List.getElem_toArray, List.getElem_cons_succ, List.getElem_cons_zero, List.setIfInBounds_toArray, List.set_cons_zero, List.set_cons_succ]
  refine' wpAnyH_take (i := 2) (v := .pointer (some ⟨g, q, none⟩)) rfl (by kernel_rfl) (by kernel_rfl) (by kernel_rfl) (fun _ _ _ h => h) (Or.inl ⟨by rfl, fun w' hw' => by go_simp⟩) hHeld ?_
  try simp only [Act.put, List.getElem_toArray, List.getElem_cons_succ, List.getElem_cons_zero, List.setIfInBounds_toArray, List.set_cons_zero, List.set_cons_succ]
  refine' wpAnyH_take (i := 3) (v := .pointer (some ⟨g, q + 1, none⟩)) rfl (by kernel_rfl) (by kernel_rfl) (by kernel_rfl) (fun _ _ _ h => h) (Or.inl ⟨by rfl, fun w' hw' => by go_simp⟩) hHeld ?_
  try simp only [Act.put, List.getElem_toArray, List.getElem_cons_succ, List.getElem_cons_zero, List.setIfInBounds_toArray, List.set_cons_zero, List.set_cons_succ]
  refine' wpAnyH_take (i := 4) (v := .slice X.A X.n X.c) rfl (by kernel_rfl) (by kernel_rfl) (by kernel_rfl) (fun _ _ _ h => h) (Or.inl ⟨by rfl, fun w' hw' => by have y := (hg.below hw'.1) 1 _ rfl; go_simp⟩) hHeld ?_
  try simp only [Act.put, List.getElem_toArray, List.getElem_cons_succ, List.getElem_cons_zero, List.setIfInBounds_toArray, List.set_cons_zero, List.set_cons_succ]
  refine' wpAnyH_take (i := 5) (v := .pointer (some ⟨w.heap.size, 3, none⟩)) rfl (by kernel_rfl) (by kernel_rfl) (by kernel_rfl) (fun _ _ _ h => h) (Or.inl ⟨by rfl, fun w' hw' => by go_simp⟩) hHeld ?_
  try simp only [Act.put, List.getElem_toArray, List.getElem_cons_succ, List.getElem_cons_zero, List.setIfInBounds_toArray, List.set_cons_zero, List.set_cons_succ]
  refine' wpAnyH_take (i := 6) (v := .int .i64 D.a) rfl (by kernel_rfl) (by kernel_rfl) (by kernel_rfl) (fun _ _ _ h => h) (Or.inl ⟨by rfl, fun w' hw' => by have y := hw'.2.c3; go_simp⟩) hHeld ?_
  try simp only [Act.put, List.getElem_toArray, List.getElem_cons_succ, List.getElem_cons_zero, List.setIfInBounds_toArray, List.set_cons_zero, List.set_cons_succ]
  refine' wpAnyH_take (i := 7) (v := .pointer (some ⟨w.heap.size, 4, none⟩)) rfl (by kernel_rfl) (by kernel_rfl) (by kernel_rfl) (fun _ _ _ h => h) (Or.inl ⟨by rfl, fun w' hw' => by go_simp⟩) hHeld ?_
  try simp only [Act.put, List.getElem_toArray, List.getElem_cons_succ, List.getElem_cons_zero, List.setIfInBounds_toArray, List.set_cons_zero, List.set_cons_succ]
  refine' wpAnyH_take (i := 8) (v := .slice A n c) rfl (by kernel_rfl) (by kernel_rfl) (by kernel_rfl) (fun _ _ _ h => h) (Or.inl ⟨by rfl, fun w' hw' => by have y := hw'.2.c4; go_simp⟩) hHeld ?_
  try simp only [Act.put, List.getElem_toArray, List.getElem_cons_succ, List.getElem_cons_zero, List.setIfInBounds_toArray, List.set_cons_zero, List.set_cons_succ]
  refine' wpAnyH_take (i := 9) (v := .pointer (some ⟨w.heap.size, 5, none⟩)) rfl (by kernel_rfl) (by kernel_rfl) (by kernel_rfl) (fun _ _ _ h => h) (Or.inl ⟨by rfl, fun w' hw' => by go_simp⟩) hHeld ?_
  try simp only [Act.put, List.getElem_toArray, List.getElem_cons_succ, List.getElem_cons_zero, List.setIfInBounds_toArray, List.set_cons_zero, List.set_cons_succ]
  refine' wpAnyH_take (i := 10) (v := .slice B m d) rfl (by kernel_rfl) (by kernel_rfl) (by kernel_rfl) (fun _ _ _ h => h) (Or.inl ⟨by rfl, fun w' hw' => by have y := hw'.2.c5; go_simp⟩) hHeld ?_
  try simp only [Act.put, List.getElem_toArray, List.getElem_cons_succ, List.getElem_cons_zero, List.setIfInBounds_toArray, List.set_cons_zero, List.set_cons_succ]
  refine' wpAnyH_take (i := 11) (v := .agg #[.int .i64 D.a, .slice A n c, .slice B m d]) rfl (by kernel_rfl) (by kernel_rfl) (by kernel_rfl) (fun _ _ _ h => h) (Or.inl ⟨by rfl, fun w' hw' => by go_simp⟩) hHeld ?_
  try simp only [Act.put, List.getElem_toArray, List.getElem_cons_succ, List.getElem_cons_zero, List.setIfInBounds_toArray, List.set_cons_zero, List.set_cons_succ]
  refine wpAnyH_ready (rs := [12]) (by kernel_rfl) (by simp) ?_
  refine AllReadyH.cons rfl (fun K hK => ?_) AllReadyH.nil
  go_simp
  (with_reducible refine (cV _ hHeld.1).mono ?_)
  rintro e9 V2 ⟨A5, n5, c5, rfl, hN5, hb9⟩
  replace hz := hz.trans (hb9.mono hz.size)
  replace r3 := r3.below hb9
  refine hK.out _ _ ⟨hz, hHeld.2.below hb9⟩ (fun hHeld => ?_)
  clear hK K hb9
  try simp only [Act.put, List.getElem_toArray, List.getElem_cons_succ, List.getElem_cons_zero, List.setIfInBounds_toArray, List.set_cons_zero, List.set_cons_succ]
  refine' wpAnyH_take (i := 13) (v := .tuple #[.slice A5 n5 c5, .int .i64 r]) rfl (by kernel_rfl) (by kernel_rfl) (by kernel_rfl) (fun _ _ _ h => h) (Or.inl ⟨by rfl, fun w' hw' => by go_simp⟩) hHeld ?_
  try simp only [Act.put, List.getElem_toArray, List.getElem_cons_succ, List.getElem_cons_zero, List.setIfInBounds_toArray, List.set_cons_zero, List.set_cons_succ]
  refine' wpAnyH_take (i := 14) (v := .slice A5 n5 c5) rfl (by kernel_rfl) (by kernel_rfl) (by kernel_rfl) (fun _ _ _ h => h) (Or.inl ⟨by rfl, fun w' hw' => by go_simp⟩) hHeld ?_
  try simp only [Act.put, List.getElem_toArray, List.getElem_cons_succ, List.getElem_cons_zero, List.setIfInBounds_toArray, List.set_cons_zero, List.set_cons_succ]
  refine' wpAnyH_take (i := 15) (v := .int .i64 r) rfl (by kernel_rfl) (by kernel_rfl) (by kernel_rfl) (fun _ _ _ h => h) (Or.inl ⟨by rfl, fun w' hw' => by go_simp⟩) hHeld ?_
  try simp only [Act.put, List.getElem_toArray, List.getElem_cons_succ, List.getElem_cons_zero, List.setIfInBounds_toArray, List.set_cons_zero, List.set_cons_succ]
  refine' wpAnyH_take (i := 16) (v := .slice A5 n5 c5) rfl (by kernel_rfl) (by kernel_rfl) (by kernel_rfl) (fun _ _ _ h => h) (Or.inl ⟨by rfl, fun w' hw' => by go_simp⟩) hHeld ?_
  try simp only [Act.put, List.getElem_toArray, List.getElem_cons_succ, List.getElem_cons_zero, List.setIfInBounds_toArray, List.set_cons_zero, List.set_cons_succ]
  refine' wpAnyH_take (i := 17) (v := .int .i64 r) rfl (by kernel_rfl) (by kernel_rfl) (by kernel_rfl) (fun _ _ _ h => h) (Or.inl ⟨by rfl, fun w' hw' => by go_simp⟩) hHeld ?_
  try simp only [Act.put, List.getElem_toArray, List.getElem_cons_succ, List.getElem_cons_zero, List.setIfInBounds_toArray, List.set_cons_zero, List.set_cons_succ]
  refine wpAnyH_done (by kernel_rfl) ?_ _
  clear hN5 r3
  go_wp2
  go_ret2
  exact .inr ⟨r, rfl, HA.out, h0, hz⟩

set_option maxRecDepth 100000 in
set_option maxHeartbeats 40000000 in
theorem ap_edit_ok (FA : Option Addr) (fn fc : Nat) (Xs : List FlV) (D : OpD) (A : Option Addr) (n c : Nat) (B : Option Addr) (m d : Nat) (w : World) (hn : Xs.length = fn) (bn : fn ≤ 300) (hr : FlRd w FA Xs) (hX : ∀ X ∈ Xs, FlOk w X) (hR : OpR w D A n B m) (hE : opE D = 0) (hk : D.k = 3) (i : Nat) (X : FlV) (hat : atV (Xs.map FlV.D) D.p = (i : Nat)) (hXi : Xs[i]? = some X) (hs : (apR X.l D.a D.o D.n).2 = 0) :
    Calls Try.prog 19 #[.slice FA fn fc, .agg (opC D A n c B m d)] w fun e w' => ApQ w w' (Xs.map FlV.D) D e := by
  have hi : i < fn := by rw [← hn]; exact (List.getElem?_eq_some_iff.1 hXi).1
  have hi2 : ¬ (i : Int) < 0 := by omega
  have hi3 : ¬ atV (Xs.map FlV.D) D.p < 0 := by rw [hat]; exact hi2
  have hi4 : (Xs.map FlV.D)[(atV (Xs.map FlV.D) D.p).toNat]? = some X.D := by rw [hat, Int.toNat_natCast, List.getElem?_map, hXi]; rfl
  have hi5 : (Xs.map FlV.D).eraseIdx (atV (Xs.map FlV.D) D.p).toNat = (Xs.eraseIdx i).map FlV.D := by rw [hat, Int.toNat_natCast, erase_map]
  have HA : Hid (∀ f : FlV, f.D = (D.p, (apR X.l D.a D.o D.n).1) → applyF (Xs.map FlV.D) D = .ok ((putF (Xs.eraseIdx i) f).map FlV.D)) := hid (fun f hf => by unfold applyF; rw [if_pos hE, if_neg (by omega), if_neg (by omega), if_neg hi3, hi4, hi5]; simp only; rw [if_neg (by omega), if_pos hk, if_pos (by exact hs), putF_map, hf]; rfl)
  have cA : ∀ W, Below w.heap.size w W → Calls Try.prog 32 #[.slice FA fn fc, .string (txt D.p)] W fun e w' => e = .returned (.int .i64 (i : Int)) ∧ Below W.heap.size W w' := fun W h => by
    rw [← hat]
    exact rat_any FA fn fc Xs D.p W hn (by omega) (hr.below h)
  obtain ⟨g, q, hg, -, -, hix⟩ := hr.pick fc hn hXi
  have hXo := hX X (List.mem_of_getElem? hXi)
  have b9 : fn ≤ 900 := by omega
  have cV : ∀ W, Below w.heap.size w W → Calls Try.prog 36 #[.slice X.A X.n X.c, .agg #[.int .i64 D.a, .slice A n c, .slice B m d]] W fun e w' => ∃ A5 n5 c5, e = .returned (.tuple #[.slice A5 n5 c5, .int .i64 0]) ∧ NwL w' A5 n5 (apR X.l D.a D.o D.n).1 ∧ Below W.heap.size W w' := fun W h => by
    rw [← hs]
    exact redit_any X.A X.n X.c X.l hXo.ln hXo.bn hXo.bx D.a A n c D.o hR.lo hR.bn hR.bo B m d D.n hR.ln hR.bm hR.bx W (hXo.rA.below h) (hR.rA.below h) (hR.rB.below h)
  have HXI := hid hXi
  have HXO := hid hXo

  clear hat hXi hi3 hi4 hi5 hXo
  clear hs
  have cE : ∀ W, Below w.heap.size w W → Calls Try.prog 31 #[.agg (opC D A n c B m d)] W fun e w' => e = .returned (.int .i64 0) ∧ Below W.heap.size W w' := fun W h => by
    rw [← hE]
    exact rr13_any D hR.hK A n c hR.lo (by have := hR.bn; omega) B m d hR.ln (by have := hR.bm; omega) (by have := hR.bp; omega) (by have := hR.bt; omega) (fun x hx => Nat.le_trans (hR.bo x hx) (by decide)) (fun x hx => Nat.le_trans (hR.bx x hx) (by decide)) W (hR.rA.below h) (hR.rB.below h)
  have KK := hR.hK
  have bn9 : fn ≤ 9223372036854775807 := by omega
  have hx := OpX.new w D A n c B m d
  have hz := (Below.refl w.heap.size w).alloc (Nat.le_refl _) (.cells (opC D A n c B m d) 42)
  have HE := hid hE
  have HN := hid hn
  have HX := hid hX
  have HR := hid hR
  have q0 := hx.c0; rw [hk] at q0
  have q1 := hx.c1
  have q2 := hx.c2
  have HK := hid hk
  clear hk
  clear hE hn hX hR
  go_enter Try.func19, Try.ntmps19
  go_upto_region 1 with (fail)
  generalize w.alloc (.cells (opC D A n c B m d) 42) = W0 at *
  have hb := Below.refl W0.heap.size W0
  go_wp2_with (first
    | (with_reducible refine wpList_load_opx (by with_unfolding_all rfl) _ rfl _ rfl (hx.below hb) KK ?_)
    | (go_at_call 31; (with_reducible refine (cE _ hz).mono ?_); rintro o1 w1 ⟨rfl, hb1⟩; replace hb := hb.trans (hb1.mono hb.size); replace hz := hz.trans (hb1.mono hz.size); clear hb1; replace q0 := (hx.below hb).c0; rw [HK.out] at q0; replace q1 := (hx.below hb).c1; replace q2 := (hx.below hb).c2)
    | (go_at_call 32; (with_reducible refine (cA _ hz).mono ?_); rintro o2 w2 ⟨rfl, hb1⟩; replace hb := hb.trans (hb1.mono hb.size); replace hz := hz.trans (hb1.mono hz.size); clear hb1; replace q0 := (hx.below hb).c0; rw [HK.out] at q0; replace q1 := (hx.below hb).c1; replace q2 := (hx.below hb).c2)
    | (go_at_call 35; (with_reducible refine (rdrop_s FA fn fc Xs i _ HN.out b9 hi (hr.below hz)).mono ?_); rintro o5 w5 ⟨A3, c3, rfl, r3, hb1⟩; replace hb := hb.trans (hb1.mono hb.size); replace hz := hz.trans (hb1.mono hz.size); clear hb1; replace q0 := (hx.below hb).c0; rw [HK.out] at q0; replace q1 := (hx.below hb).c1; replace q2 := (hx.below hb).c2))
  refine wp_region_held_drew (S := fun W => Below w.heap.size w W ∧ OpX W w.heap.size D A n c B m d) (by kernel_rfl) ⟨hz.trans ((below_drew10 _).mono hz.size), (hx.below hb).below (below_drew10 _)⟩ (fun hHeld => ?_)
  replace hz := hz.trans ((below_drew10 _).mono hz.size)
  replace r3 := r3.below (below_drew10 _)
  clear hb q0 q1 q2
  generalize World.drew _ = V1 at *
  refine' wpAnyH_take (i := 0) (v := .slice FA fn fc) rfl (by kernel_rfl) (by kernel_rfl) (by kernel_rfl) (fun _ _ _ h => h) (Or.inl ⟨by rfl, fun w' hw' => by go_simp⟩) hHeld ?_
  try simp only [Act.put, List.getElem_toArray, List.getElem_cons_succ, List.getElem_cons_zero, List.setIfInBounds_toArray, List.set_cons_zero, List.set_cons_succ]
  refine' wpAnyH_take (i := 1) (v := .int .i64 (i : Int)) rfl (by kernel_rfl) (by kernel_rfl) (by kernel_rfl) (fun _ _ _ h => h) (Or.inl ⟨by rfl, fun w' hw' => by go_simp⟩) hHeld ?_
  try simp only [Act.put, List.getElem_toArray, List.getElem_cons_succ, List.getElem_cons_zero, List.setIfInBounds_toArray, List.set_cons_zero, List.set_cons_succ]
  refine' wpAnyH_take (i := 2) (v := .pointer (some ⟨g, q, none⟩)) rfl (by kernel_rfl) (by kernel_rfl) (by kernel_rfl) (fun _ _ _ h => h) (Or.inl ⟨by rfl, fun w' hw' => by go_simp⟩) hHeld ?_
  try simp only [Act.put, List.getElem_toArray, List.getElem_cons_succ, List.getElem_cons_zero, List.setIfInBounds_toArray, List.set_cons_zero, List.set_cons_succ]
  refine' wpAnyH_take (i := 3) (v := .pointer (some ⟨g, q + 1, none⟩)) rfl (by kernel_rfl) (by kernel_rfl) (by kernel_rfl) (fun _ _ _ h => h) (Or.inl ⟨by rfl, fun w' hw' => by go_simp⟩) hHeld ?_
  try simp only [Act.put, List.getElem_toArray, List.getElem_cons_succ, List.getElem_cons_zero, List.setIfInBounds_toArray, List.set_cons_zero, List.set_cons_succ]
  refine' wpAnyH_take (i := 4) (v := .slice X.A X.n X.c) rfl (by kernel_rfl) (by kernel_rfl) (by kernel_rfl) (fun _ _ _ h => h) (Or.inl ⟨by rfl, fun w' hw' => by have y := (hg.below hw'.1) 1 _ rfl; go_simp⟩) hHeld ?_
  try simp only [Act.put, List.getElem_toArray, List.getElem_cons_succ, List.getElem_cons_zero, List.setIfInBounds_toArray, List.set_cons_zero, List.set_cons_succ]
  refine' wpAnyH_take (i := 5) (v := .pointer (some ⟨w.heap.size, 3, none⟩)) rfl (by kernel_rfl) (by kernel_rfl) (by kernel_rfl) (fun _ _ _ h => h) (Or.inl ⟨by rfl, fun w' hw' => by go_simp⟩) hHeld ?_
  try simp only [Act.put, List.getElem_toArray, List.getElem_cons_succ, List.getElem_cons_zero, List.setIfInBounds_toArray, List.set_cons_zero, List.set_cons_succ]
  refine' wpAnyH_take (i := 6) (v := .int .i64 D.a) rfl (by kernel_rfl) (by kernel_rfl) (by kernel_rfl) (fun _ _ _ h => h) (Or.inl ⟨by rfl, fun w' hw' => by have y := hw'.2.c3; go_simp⟩) hHeld ?_
  try simp only [Act.put, List.getElem_toArray, List.getElem_cons_succ, List.getElem_cons_zero, List.setIfInBounds_toArray, List.set_cons_zero, List.set_cons_succ]
  refine' wpAnyH_take (i := 7) (v := .pointer (some ⟨w.heap.size, 4, none⟩)) rfl (by kernel_rfl) (by kernel_rfl) (by kernel_rfl) (fun _ _ _ h => h) (Or.inl ⟨by rfl, fun w' hw' => by go_simp⟩) hHeld ?_
  try simp only [Act.put, List.getElem_toArray, List.getElem_cons_succ, List.getElem_cons_zero, List.setIfInBounds_toArray, List.set_cons_zero, List.set_cons_succ]
  refine' wpAnyH_take (i := 8) (v := .slice A n c) rfl (by kernel_rfl) (by kernel_rfl) (by kernel_rfl) (fun _ _ _ h => h) (Or.inl ⟨by rfl, fun w' hw' => by have y := hw'.2.c4; go_simp⟩) hHeld ?_
  try simp only [Act.put, List.getElem_toArray, List.getElem_cons_succ, List.getElem_cons_zero, List.setIfInBounds_toArray, List.set_cons_zero, List.set_cons_succ]
  refine' wpAnyH_take (i := 9) (v := .pointer (some ⟨w.heap.size, 5, none⟩)) rfl (by kernel_rfl) (by kernel_rfl) (by kernel_rfl) (fun _ _ _ h => h) (Or.inl ⟨by rfl, fun w' hw' => by go_simp⟩) hHeld ?_
  try simp only [Act.put, List.getElem_toArray, List.getElem_cons_succ, List.getElem_cons_zero, List.setIfInBounds_toArray, List.set_cons_zero, List.set_cons_succ]
  refine' wpAnyH_take (i := 10) (v := .slice B m d) rfl (by kernel_rfl) (by kernel_rfl) (by kernel_rfl) (fun _ _ _ h => h) (Or.inl ⟨by rfl, fun w' hw' => by have y := hw'.2.c5; go_simp⟩) hHeld ?_
  try simp only [Act.put, List.getElem_toArray, List.getElem_cons_succ, List.getElem_cons_zero, List.setIfInBounds_toArray, List.set_cons_zero, List.set_cons_succ]
  refine' wpAnyH_take (i := 11) (v := .agg #[.int .i64 D.a, .slice A n c, .slice B m d]) rfl (by kernel_rfl) (by kernel_rfl) (by kernel_rfl) (fun _ _ _ h => h) (Or.inl ⟨by rfl, fun w' hw' => by go_simp⟩) hHeld ?_
  try simp only [Act.put, List.getElem_toArray, List.getElem_cons_succ, List.getElem_cons_zero, List.setIfInBounds_toArray, List.set_cons_zero, List.set_cons_succ]
  refine wpAnyH_ready (rs := [12]) (by kernel_rfl) (by simp) ?_
  refine AllReadyH.cons rfl (fun K hK => ?_) AllReadyH.nil
  go_simp
  (with_reducible refine (cV _ hHeld.1).mono ?_)
  rintro e9 V2 ⟨A5, n5, c5, rfl, hN5, hb9⟩
  have HN5 := hid hN5
  clear hN5
  replace hz := hz.trans (hb9.mono hz.size)
  replace r3 := r3.below hb9
  refine hK.out _ _ ⟨hz, hHeld.2.below hb9⟩ (fun hHeld => ?_)
  clear hK K hb9
  try simp only [Act.put, List.getElem_toArray, List.getElem_cons_succ, List.getElem_cons_zero, List.setIfInBounds_toArray, List.set_cons_zero, List.set_cons_succ]
  refine' wpAnyH_take (i := 13) (v := .tuple #[.slice A5 n5 c5, .int .i64 0]) rfl (by kernel_rfl) (by kernel_rfl) (by kernel_rfl) (fun _ _ _ h => h) (Or.inl ⟨by rfl, fun w' hw' => by go_simp⟩) hHeld ?_
  try simp only [Act.put, List.getElem_toArray, List.getElem_cons_succ, List.getElem_cons_zero, List.setIfInBounds_toArray, List.set_cons_zero, List.set_cons_succ]
  refine' wpAnyH_take (i := 14) (v := .slice A5 n5 c5) rfl (by kernel_rfl) (by kernel_rfl) (by kernel_rfl) (fun _ _ _ h => h) (Or.inl ⟨by rfl, fun w' hw' => by go_simp⟩) hHeld ?_
  try simp only [Act.put, List.getElem_toArray, List.getElem_cons_succ, List.getElem_cons_zero, List.setIfInBounds_toArray, List.set_cons_zero, List.set_cons_succ]
  refine' wpAnyH_take (i := 15) (v := .int .i64 0) rfl (by kernel_rfl) (by kernel_rfl) (by kernel_rfl) (fun _ _ _ h => h) (Or.inl ⟨by rfl, fun w' hw' => by go_simp⟩) hHeld ?_
  try simp only [Act.put, List.getElem_toArray, List.getElem_cons_succ, List.getElem_cons_zero, List.setIfInBounds_toArray, List.set_cons_zero, List.set_cons_succ]
  refine' wpAnyH_take (i := 16) (v := .slice A5 n5 c5) rfl (by kernel_rfl) (by kernel_rfl) (by kernel_rfl) (fun _ _ _ h => h) (Or.inl ⟨by rfl, fun w' hw' => by go_simp⟩) hHeld ?_
  try simp only [Act.put, List.getElem_toArray, List.getElem_cons_succ, List.getElem_cons_zero, List.setIfInBounds_toArray, List.set_cons_zero, List.set_cons_succ]
  refine' wpAnyH_take (i := 17) (v := .int .i64 0) rfl (by kernel_rfl) (by kernel_rfl) (by kernel_rfl) (fun _ _ _ h => h) (Or.inl ⟨by rfl, fun w' hw' => by go_simp⟩) hHeld ?_
  try simp only [Act.put, List.getElem_toArray, List.getElem_cons_succ, List.getElem_cons_zero, List.setIfInBounds_toArray, List.set_cons_zero, List.set_cons_succ]
  refine wpAnyH_done (by kernel_rfl) ?_ _
  have q1 := hHeld.2.c1
  have l3 : (Xs.eraseIdx i).length = fn - 1 := by rw [List.length_eraseIdx, if_pos (by rw [HN.out]; exact hi), HN.out]
  have LL := hid l3
  clear l3
  obtain ⟨f, Hf, hf1, hf2⟩ : ∃ f : FlV, Hid (f.D = (D.p, (apR X.l D.a D.o D.n).1) ∧ f.n = n5 ∧ f.A = A5 ∧ f.c = c5) ∧ f.p = D.p ∧ Value.slice f.A f.n f.c = .slice A5 n5 c5 := ⟨⟨D.p, _, A5, n5, c5⟩, hid ⟨rfl, rfl, rfl, rfl⟩, rfl, rfl⟩
  have cP := rput_s A3 (fn - 1) c3 (Xs.eraseIdx i) f V2 LL.out (by omega) r3
  rw [hf1, hf2] at cP
  clear hf1 hf2
  go_wp2_with (go_at_call 34; (with_reducible refine cP.mono ?_); rintro o4 w4 ⟨A4, c4, rfl, r4, hb1⟩)
  go_ret2
  have hz4 := hz.trans (hb1.mono hz.size)
  obtain ⟨e1, e2, e3, e4⟩ := Hf.out
  obtain ⟨z1, z2, z3, z4⟩ := HN5.out
  refine .inl ⟨putF (Xs.eraseIdx i) f, A4, fn - 1 + 1, c4, rfl, HA.out f e1, by rw [putF_len, LL.out], by omega, r4, fun Y hY => ?_, hz4⟩
  rcases putF_mem _ _ _ hY with rfl | hY
  · have ep : Y.p = D.p := congrArg Prod.fst e1
    have el : Y.l = (apR X.l D.a D.o D.n).1 := congrArg Prod.snd e1
    exact ⟨by rw [el, e2]; exact z1, by rw [e2]; exact z2, by rw [el]; exact z3, by rw [ep]; exact HR.out.bp, by rw [el, e3]; exact z4.below hb1⟩
  · exact (HX.out Y (erase_mem hY)).below hz4

set_option maxRecDepth 100000 in
set_option maxHeartbeats 40000000 in
theorem ap_move_no (FA : Option Addr) (fn fc : Nat) (Xs : List FlV) (D : OpD) (A : Option Addr) (n c : Nat) (B : Option Addr) (m d : Nat) (w : World) (hn : Xs.length = fn) (bn : fn ≤ 300) (hr : FlRd w FA Xs) (hX : ∀ X ∈ Xs, FlOk w X) (hR : OpR w D A n B m) (hE : opE D = 0) (hk : D.k = 4) (i : Nat) (X : FlV) (hat : atV (Xs.map FlV.D) D.p = (i : Nat)) (hXi : Xs[i]? = some X) (r : Int) (hroom : roomV ((Xs.eraseIdx i).map FlV.D) D.t = r) (h0 : ¬ r = 0) :
    Calls Try.prog 19 #[.slice FA fn fc, .agg (opC D A n c B m d)] w fun e w' => ApQ w w' (Xs.map FlV.D) D e := by
  have hi : i < fn := by rw [← hn]; exact (List.getElem?_eq_some_iff.1 hXi).1
  have hi2 : ¬ (i : Int) < 0 := by omega
  have hi3 : ¬ atV (Xs.map FlV.D) D.p < 0 := by rw [hat]; exact hi2
  have hi4 : (Xs.map FlV.D)[(atV (Xs.map FlV.D) D.p).toNat]? = some X.D := by rw [hat, Int.toNat_natCast, List.getElem?_map, hXi]; rfl
  have hi5 : (Xs.map FlV.D).eraseIdx (atV (Xs.map FlV.D) D.p).toNat = (Xs.eraseIdx i).map FlV.D := by rw [hat, Int.toNat_natCast, erase_map]
  have HA : Hid (applyF (Xs.map FlV.D) D = .error r) := hid (by unfold applyF; rw [if_pos hE, if_neg (by omega), if_neg (by omega), if_neg hi3, hi4, hi5]; simp only; rw [if_neg (by omega), if_neg (by omega), hroom, if_neg h0])
  have cA : ∀ W, Below w.heap.size w W → Calls Try.prog 32 #[.slice FA fn fc, .string (txt D.p)] W fun e w' => e = .returned (.int .i64 (i : Int)) ∧ Below W.heap.size W w' := fun W h => by
    rw [← hat]
    exact rat_any FA fn fc Xs D.p W hn (by omega) (hr.below h)
  obtain ⟨g, q, hg, -, -, hix⟩ := hr.pick fc hn hXi
  have hXo := hX X (List.mem_of_getElem? hXi)
  have b9 : fn ≤ 900 := by omega
  have l3 : (Xs.eraseIdx i).length = fn - 1 := by rw [List.length_eraseIdx, if_pos (by rw [hn]; exact hi), hn]
  have cM : ∀ W A3 c3, Below w.heap.size w W → FlRd W A3 (Xs.eraseIdx i) → Calls Try.prog 33 #[.slice A3 (fn - 1) c3, .string (txt D.t)] W fun e w' => e = .returned (.int .i64 r) ∧ Below W.heap.size W w' := fun W A3 c3 h h3 => by
    rw [← hroom]
    exact rroom_any A3 (fn - 1) c3 (Xs.eraseIdx i) D.t W l3 (by omega) h3 (fun X hx => (hX X (erase_mem hx)).bp) hR.bt
  have HXI := hid hXi
  have HXO := hid hXo

  clear hat hXi hi3 hi4 hi5 hXo
  clear hroom l3
  have cE : ∀ W, Below w.heap.size w W → Calls Try.prog 31 #[.agg (opC D A n c B m d)] W fun e w' => e = .returned (.int .i64 0) ∧ Below W.heap.size W w' := fun W h => by
    rw [← hE]
    exact rr13_any D hR.hK A n c hR.lo (by have := hR.bn; omega) B m d hR.ln (by have := hR.bm; omega) (by have := hR.bp; omega) (by have := hR.bt; omega) (fun x hx => Nat.le_trans (hR.bo x hx) (by decide)) (fun x hx => Nat.le_trans (hR.bx x hx) (by decide)) W (hR.rA.below h) (hR.rB.below h)
  have KK := hR.hK
  have bn9 : fn ≤ 9223372036854775807 := by omega
  have hx := OpX.new w D A n c B m d
  have hz := (Below.refl w.heap.size w).alloc (Nat.le_refl _) (.cells (opC D A n c B m d) 42)
  have HE := hid hE
  have HN := hid hn
  have HX := hid hX
  have HR := hid hR
  have q0 := hx.c0; rw [hk] at q0
  have q1 := hx.c1
  have q2 := hx.c2
  have HK := hid hk
  clear hk
  clear hE hn hX hR
  go_enter Try.func19, Try.ntmps19
  go_upto_region 1 with (fail)
  generalize w.alloc (.cells (opC D A n c B m d) 42) = W0 at *
  have hb := Below.refl W0.heap.size W0
  go_wp2_with (first
    | (with_reducible refine wpList_load_opx (by with_unfolding_all rfl) _ rfl _ rfl (hx.below hb) KK ?_)
    | (go_at_call 31; (with_reducible refine (cE _ hz).mono ?_); rintro o1 w1 ⟨rfl, hb1⟩; replace hb := hb.trans (hb1.mono hb.size); replace hz := hz.trans (hb1.mono hz.size); clear hb1; replace q0 := (hx.below hb).c0; rw [HK.out] at q0; replace q1 := (hx.below hb).c1; replace q2 := (hx.below hb).c2)
    | (go_at_call 32; (with_reducible refine (cA _ hz).mono ?_); rintro o2 w2 ⟨rfl, hb1⟩; replace hb := hb.trans (hb1.mono hb.size); replace hz := hz.trans (hb1.mono hz.size); clear hb1; replace q0 := (hx.below hb).c0; rw [HK.out] at q0; replace q1 := (hx.below hb).c1; replace q2 := (hx.below hb).c2)
    | (go_at_call 35; (with_reducible refine (rdrop_s FA fn fc Xs i _ HN.out b9 hi (hr.below hz)).mono ?_); rintro o5 w5 ⟨A3, c3, rfl, r3, hb1⟩; replace hb := hb.trans (hb1.mono hb.size); replace hz := hz.trans (hb1.mono hz.size); clear hb1; replace q0 := (hx.below hb).c0; rw [HK.out] at q0; replace q1 := (hx.below hb).c1; replace q2 := (hx.below hb).c2)
    | (go_at_call 33; (with_reducible refine (cM _ _ _ hz r3).mono ?_); rintro o3 w3 ⟨rfl, hb1⟩; replace r3 := r3.below hb1; replace hb := hb.trans (hb1.mono hb.size); replace hz := hz.trans (hb1.mono hz.size); clear hb1; replace q0 := (hx.below hb).c0; rw [HK.out] at q0; replace q1 := (hx.below hb).c1; replace q2 := (hx.below hb).c2))
  go_ret2
  exact .inr ⟨r, rfl, HA.out, h0, hz⟩

set_option maxRecDepth 100000 in
set_option maxHeartbeats 40000000 in
theorem ap_move_ok (FA : Option Addr) (fn fc : Nat) (Xs : List FlV) (D : OpD) (A : Option Addr) (n c : Nat) (B : Option Addr) (m d : Nat) (w : World) (hn : Xs.length = fn) (bn : fn ≤ 300) (hr : FlRd w FA Xs) (hX : ∀ X ∈ Xs, FlOk w X) (hR : OpR w D A n B m) (hE : opE D = 0) (hk : D.k = 4) (i : Nat) (X : FlV) (hat : atV (Xs.map FlV.D) D.p = (i : Nat)) (hXi : Xs[i]? = some X) (hroom : roomV ((Xs.eraseIdx i).map FlV.D) D.t = 0) :
    Calls Try.prog 19 #[.slice FA fn fc, .agg (opC D A n c B m d)] w fun e w' => ApQ w w' (Xs.map FlV.D) D e := by
  have hi : i < fn := by rw [← hn]; exact (List.getElem?_eq_some_iff.1 hXi).1
  have hi2 : ¬ (i : Int) < 0 := by omega
  have hi3 : ¬ atV (Xs.map FlV.D) D.p < 0 := by rw [hat]; exact hi2
  have hi4 : (Xs.map FlV.D)[(atV (Xs.map FlV.D) D.p).toNat]? = some X.D := by rw [hat, Int.toNat_natCast, List.getElem?_map, hXi]; rfl
  have hi5 : (Xs.map FlV.D).eraseIdx (atV (Xs.map FlV.D) D.p).toNat = (Xs.eraseIdx i).map FlV.D := by rw [hat, Int.toNat_natCast, erase_map]
  have HA : Hid (applyF (Xs.map FlV.D) D = .ok ((putF (Xs.eraseIdx i) ⟨D.t, X.l, X.A, X.n, X.c⟩).map FlV.D)) := hid (by unfold applyF; rw [if_pos hE, if_neg (by omega), if_neg (by omega), if_neg hi3, hi4, hi5]; simp only; rw [if_neg (by omega), if_neg (by omega), if_pos hroom, putF_map]; rfl)
  have cA : ∀ W, Below w.heap.size w W → Calls Try.prog 32 #[.slice FA fn fc, .string (txt D.p)] W fun e w' => e = .returned (.int .i64 (i : Int)) ∧ Below W.heap.size W w' := fun W h => by
    rw [← hat]
    exact rat_any FA fn fc Xs D.p W hn (by omega) (hr.below h)
  obtain ⟨g, q, hg, -, -, hix⟩ := hr.pick fc hn hXi
  have hXo := hX X (List.mem_of_getElem? hXi)
  have b9 : fn ≤ 900 := by omega
  have l3 : (Xs.eraseIdx i).length = fn - 1 := by rw [List.length_eraseIdx, if_pos (by rw [hn]; exact hi), hn]
  have cM : ∀ W A3 c3, Below w.heap.size w W → FlRd W A3 (Xs.eraseIdx i) → Calls Try.prog 33 #[.slice A3 (fn - 1) c3, .string (txt D.t)] W fun e w' => e = .returned (.int .i64 0) ∧ Below W.heap.size W w' := fun W A3 c3 h h3 => by
    rw [← hroom]
    exact rroom_any A3 (fn - 1) c3 (Xs.eraseIdx i) D.t W l3 (by omega) h3 (fun X hx => (hX X (erase_mem hx)).bp) hR.bt
  have HXI := hid hXi
  have HXO := hid hXo

  clear hat hXi hi3 hi4 hi5 hXo
  have LL := hid l3
  clear hroom l3
  have cE : ∀ W, Below w.heap.size w W → Calls Try.prog 31 #[.agg (opC D A n c B m d)] W fun e w' => e = .returned (.int .i64 0) ∧ Below W.heap.size W w' := fun W h => by
    rw [← hE]
    exact rr13_any D hR.hK A n c hR.lo (by have := hR.bn; omega) B m d hR.ln (by have := hR.bm; omega) (by have := hR.bp; omega) (by have := hR.bt; omega) (fun x hx => Nat.le_trans (hR.bo x hx) (by decide)) (fun x hx => Nat.le_trans (hR.bx x hx) (by decide)) W (hR.rA.below h) (hR.rB.below h)
  have KK := hR.hK
  have bn9 : fn ≤ 9223372036854775807 := by omega
  have hx := OpX.new w D A n c B m d
  have hz := (Below.refl w.heap.size w).alloc (Nat.le_refl _) (.cells (opC D A n c B m d) 42)
  have HE := hid hE
  have HN := hid hn
  have HX := hid hX
  have HR := hid hR
  have q0 := hx.c0; rw [hk] at q0
  have q1 := hx.c1
  have q2 := hx.c2
  have HK := hid hk
  clear hk
  clear hE hn hX hR
  go_enter Try.func19, Try.ntmps19
  go_upto_region 1 with (fail)
  generalize w.alloc (.cells (opC D A n c B m d) 42) = W0 at *
  have hb := Below.refl W0.heap.size W0
  go_wp2_with (first
    | (with_reducible refine wpList_load_opx (by with_unfolding_all rfl) _ rfl _ rfl (hx.below hb) KK ?_)
    | (go_at_call 31; (with_reducible refine (cE _ hz).mono ?_); rintro o1 w1 ⟨rfl, hb1⟩; replace hb := hb.trans (hb1.mono hb.size); replace hz := hz.trans (hb1.mono hz.size); clear hb1; replace q0 := (hx.below hb).c0; rw [HK.out] at q0; replace q1 := (hx.below hb).c1; replace q2 := (hx.below hb).c2)
    | (go_at_call 32; (with_reducible refine (cA _ hz).mono ?_); rintro o2 w2 ⟨rfl, hb1⟩; replace hb := hb.trans (hb1.mono hb.size); replace hz := hz.trans (hb1.mono hz.size); clear hb1; replace q0 := (hx.below hb).c0; rw [HK.out] at q0; replace q1 := (hx.below hb).c1; replace q2 := (hx.below hb).c2)
    | (go_at_call 35; (with_reducible refine (rdrop_s FA fn fc Xs i _ HN.out b9 hi (hr.below hz)).mono ?_); rintro o5 w5 ⟨A3, c3, rfl, r3, hb1⟩; replace hb := hb.trans (hb1.mono hb.size); replace hz := hz.trans (hb1.mono hz.size); clear hb1; replace q0 := (hx.below hb).c0; rw [HK.out] at q0; replace q1 := (hx.below hb).c1; replace q2 := (hx.below hb).c2)
    | (go_at_call 33; (with_reducible refine (cM _ _ _ hz r3).mono ?_); rintro o3 w3 ⟨rfl, hb1⟩; replace r3 := r3.below hb1; replace hb := hb.trans (hb1.mono hb.size); replace hz := hz.trans (hb1.mono hz.size); clear hb1; replace q0 := (hx.below hb).c0; rw [HK.out] at q0; replace q1 := (hx.below hb).c1; replace q2 := (hx.below hb).c2))
  refine wp_region_held_drew (S := fun W => Below w.heap.size w W ∧ OpX W w.heap.size D A n c B m d) (by kernel_rfl) ⟨hz.trans ((below_drew10 _).mono hz.size), (hx.below hb).below (below_drew10 _)⟩ (fun hHeld => ?_)
  replace hz := hz.trans ((below_drew10 _).mono hz.size)
  replace r3 := r3.below (below_drew10 _)
  clear hb q0 q1 q2
  generalize World.drew _ = V1 at *
  refine' wpAnyH_take (i := 0) (v := .slice A3 (fn - 1) c3) rfl (by kernel_rfl) (by kernel_rfl) (by kernel_rfl) (fun _ _ _ h => h) (Or.inl ⟨by rfl, fun w' hw' => by go_simp⟩) hHeld ?_
  try simp only [Act.put, List.getElem_toArray, List.getElem_cons_succ, List.getElem_cons_zero, List.setIfInBounds_toArray, List.set_cons_zero, List.set_cons_succ]
  refine' wpAnyH_take (i := 1) (v := .pointer (some ⟨w.heap.size, 2, none⟩)) rfl (by kernel_rfl) (by kernel_rfl) (by kernel_rfl) (fun _ _ _ h => h) (Or.inl ⟨by rfl, fun w' hw' => by go_simp⟩) hHeld ?_
  try simp only [Act.put, List.getElem_toArray, List.getElem_cons_succ, List.getElem_cons_zero, List.setIfInBounds_toArray, List.set_cons_zero, List.set_cons_succ]
  refine' wpAnyH_take (i := 2) (v := .string (txt D.t)) rfl (by kernel_rfl) (by kernel_rfl) (by kernel_rfl) (fun _ _ _ h => h) (Or.inl ⟨by rfl, fun w' hw' => by have y := hw'.2.c2; go_simp⟩) hHeld ?_
  try simp only [Act.put, List.getElem_toArray, List.getElem_cons_succ, List.getElem_cons_zero, List.setIfInBounds_toArray, List.set_cons_zero, List.set_cons_succ]
  refine' wpAnyH_take (i := 3) (v := .slice FA fn fc) rfl (by kernel_rfl) (by kernel_rfl) (by kernel_rfl) (fun _ _ _ h => h) (Or.inl ⟨by rfl, fun w' hw' => by go_simp⟩) hHeld ?_
  try simp only [Act.put, List.getElem_toArray, List.getElem_cons_succ, List.getElem_cons_zero, List.setIfInBounds_toArray, List.set_cons_zero, List.set_cons_succ]
  refine' wpAnyH_take (i := 4) (v := .int .i64 (i : Int)) rfl (by kernel_rfl) (by kernel_rfl) (by kernel_rfl) (fun _ _ _ h => h) (Or.inl ⟨by rfl, fun w' hw' => by go_simp⟩) hHeld ?_
  try simp only [Act.put, List.getElem_toArray, List.getElem_cons_succ, List.getElem_cons_zero, List.setIfInBounds_toArray, List.set_cons_zero, List.set_cons_succ]
  refine' wpAnyH_take (i := 5) (v := .pointer (some ⟨g, q, none⟩)) rfl (by kernel_rfl) (by kernel_rfl) (by kernel_rfl) (fun _ _ _ h => h) (Or.inl ⟨by rfl, fun w' hw' => by go_simp⟩) hHeld ?_
  try simp only [Act.put, List.getElem_toArray, List.getElem_cons_succ, List.getElem_cons_zero, List.setIfInBounds_toArray, List.set_cons_zero, List.set_cons_succ]
  refine' wpAnyH_take (i := 6) (v := .pointer (some ⟨g, q + 1, none⟩)) rfl (by kernel_rfl) (by kernel_rfl) (by kernel_rfl) (fun _ _ _ h => h) (Or.inl ⟨by rfl, fun w' hw' => by go_simp⟩) hHeld ?_
  try simp only [Act.put, List.getElem_toArray, List.getElem_cons_succ, List.getElem_cons_zero, List.setIfInBounds_toArray, List.set_cons_zero, List.set_cons_succ]
  refine' wpAnyH_take (i := 7) (v := .slice X.A X.n X.c) rfl (by kernel_rfl) (by kernel_rfl) (by kernel_rfl) (fun _ _ _ h => h) (Or.inl ⟨by rfl, fun w' hw' => by have y := (hg.below hw'.1) 1 _ rfl; go_simp⟩) hHeld ?_
  try simp only [Act.put, List.getElem_toArray, List.getElem_cons_succ, List.getElem_cons_zero, List.setIfInBounds_toArray, List.set_cons_zero, List.set_cons_succ]
  refine' wpAnyH_take (i := 8) (v := .agg #[.string (txt D.t), .slice X.A X.n X.c]) rfl (by kernel_rfl) (by kernel_rfl) (by kernel_rfl) (fun _ _ _ h => h) (Or.inl ⟨by rfl, fun w' hw' => by go_simp⟩) hHeld ?_
  try simp only [Act.put, List.getElem_toArray, List.getElem_cons_succ, List.getElem_cons_zero, List.setIfInBounds_toArray, List.set_cons_zero, List.set_cons_succ]
  refine wpAnyH_ready (rs := [9]) (by kernel_rfl) (by simp) ?_
  refine AllReadyH.cons rfl (fun K hK => ?_) AllReadyH.nil
  go_simp
  (with_reducible refine (rput_s A3 (fn - 1) c3 (Xs.eraseIdx i) ⟨D.t, X.l, X.A, X.n, X.c⟩ _ LL.out (by omega) r3).mono ?_)
  rintro e9 V2 ⟨A4, c4, rfl, r4, hb9⟩
  replace hz := hz.trans (hb9.mono hz.size)
  refine hK.out _ _ ⟨hz, hHeld.2.below hb9⟩ (fun hHeld => ?_)
  clear hK K hb9
  try simp only [Act.put, List.getElem_toArray, List.getElem_cons_succ, List.getElem_cons_zero, List.setIfInBounds_toArray, List.set_cons_zero, List.set_cons_succ]
  refine' wpAnyH_take (i := 10) (v := .slice A4 (fn - 1 + 1) c4) rfl (by kernel_rfl) (by kernel_rfl) (by kernel_rfl) (fun _ _ _ h => h) (Or.inl ⟨by rfl, fun w' hw' => by go_simp⟩) hHeld ?_
  try simp only [Act.put, List.getElem_toArray, List.getElem_cons_succ, List.getElem_cons_zero, List.setIfInBounds_toArray, List.set_cons_zero, List.set_cons_succ]
  refine' wpAnyH_take (i := 11) (v := .int .i64 0) rfl (by kernel_rfl) (by kernel_rfl) (by kernel_rfl) (fun _ _ _ h => h) (Or.inl ⟨by rfl, fun w' hw' => by go_simp⟩) hHeld ?_
  try simp only [Act.put, List.getElem_toArray, List.getElem_cons_succ, List.getElem_cons_zero, List.setIfInBounds_toArray, List.set_cons_zero, List.set_cons_succ]
  refine wpAnyH_done (by kernel_rfl) ?_ _
  go_wp2
  go_ret2
  refine .inl ⟨putF (Xs.eraseIdx i) ⟨D.t, X.l, X.A, X.n, X.c⟩, A4, fn - 1 + 1, c4, rfl, HA.out, by rw [putF_len, LL.out], by omega, r4, fun Y hY => ?_, hz⟩
  rcases putF_mem _ _ _ hY with rfl | hY
  · exact ⟨HXO.out.ln, HXO.out.bn, HXO.out.bx, HR.out.bt, HXO.out.rA.below hz⟩
  · exact (HX.out Y (erase_mem hY)).below hz


end Go.Proofs.Ytmfngampccpkhaa
/- The document's trees: Apply, All, Same. -/
set_option linter.unusedSimpArgs false
set_option linter.unusedVariables false
namespace Go.Proofs.Ytmfngampccpkhaa
open Go.RowKit Go.Qc Go.Shelf
attribute [local go_sem] txt_size txt_append ib_fold txt_toL

theorem rapply14_q (FA : Option Addr) (fn fc : Nat) (Xs : List FlV) (D : OpD) (A : Option Addr) (n c : Nat) (B : Option Addr) (m d : Nat) (w : World) (hn : Xs.length = fn) (bn : fn ≤ 300) (hr : FlRd w FA Xs) (hX : ∀ X ∈ Xs, FlOk w X) (hR : OpR w D A n B m) :
    Calls Try.prog 19 #[.slice FA fn fc, .agg (opC D A n c B m d)] w fun e w' => ApQ w w' (Xs.map FlV.D) D e := by
  by_cases hE : opE D = 0
  · have hk6 : 1 ≤ D.k ∧ D.k ≤ 6 := by
      by_cases h : 1 ≤ D.k ∧ D.k ≤ 6
      · exact h
      · unfold opE at hE; rw [if_neg h] at hE; cases hE
    by_cases h4 : 4 < D.k
    · exact ap_policy FA fn fc Xs D A n c B m d w hn bn hr hX hR hE h4
    · by_cases h1 : D.k = 1
      · by_cases hroom : roomV (Xs.map FlV.D) D.p = 0
        · by_cases h2 : 200 ≤ fn
          · exact ap_create_full FA fn fc Xs D A n c B m d w hn bn hr hX hR hE h1 _ rfl hroom h2
          · exact ap_create_ok FA fn fc Xs D A n c B m d w hn bn hr hX hR hE h1 _ rfl hroom h2
        · exact ap_create_no FA fn fc Xs D A n c B m d w hn bn hr hX hR hE h1 _ rfl _ rfl hroom
      · rcases atV_nat (Xs.map FlV.D) D.p with hat | ⟨i, x, hat, hx⟩
        · exact ap_gone FA fn fc Xs D A n c B m d w hn bn hr hX hR hE (by omega) hat
        · obtain ⟨X, hXi⟩ : ∃ X, Xs[i]? = some X := by
            rw [List.getElem?_map] at hx
            cases hq : Xs[i]? with
            | none => rw [hq] at hx; cases hx
            | some X => exact ⟨X, rfl⟩
          by_cases h2 : D.k = 2
          · cases hs : decide (X.l = D.o) with
            | true => exact ap_delete_ok FA fn fc Xs D A n c B m d w hn bn hr hX hR hE h2 i X hat hXi hs
            | false => exact ap_delete_no FA fn fc Xs D A n c B m d w hn bn hr hX hR hE h2 i X hat hXi hs
          · by_cases h3 : D.k = 3
            · by_cases hs : (apR X.l D.a D.o D.n).2 = 0
              · exact ap_edit_ok FA fn fc Xs D A n c B m d w hn bn hr hX hR hE h3 i X hat hXi hs
              · exact ap_edit_no FA fn fc Xs D A n c B m d w hn bn hr hX hR hE h3 i X hat hXi _ rfl hs
            · have h4' : D.k = 4 := by omega
              by_cases hroom : roomV ((Xs.eraseIdx i).map FlV.D) D.t = 0
              · exact ap_move_ok FA fn fc Xs D A n c B m d w hn bn hr hX hR hE h4' i X hat hXi hroom
              · exact ap_move_no FA fn fc Xs D A n c B m d w hn bn hr hX hR hE h4' i X hat hXi _ rfl hroom
  · exact ap_wrong FA fn fc Xs D A n c B m d w hn bn hr hX hR _ rfl hE
/-- What Apply tells, as two values. -/
def ApR (w w' : World) (L : List FD) (o : OpD) (v : Value) (r : Int) : Prop :=
  (∃ Ys A n c, v = .slice A n c ∧ r = 0 ∧ applyF L o = .ok (Ys.map FlV.D) ∧ Ys.length = n ∧ n ≤ 300 ∧ FlRd w' A Ys ∧ ∀ Y ∈ Ys, FlOk w' Y) ∨ (v = .slice none 0 0 ∧ applyF L o = .error r ∧ ¬ r = 0)
theorem rapply14_any (FA : Option Addr) (fn fc : Nat) (Xs : List FlV) (D : OpD) (A : Option Addr) (n c : Nat) (B : Option Addr) (m d : Nat) (w : World) (hn : Xs.length = fn) (bn : fn ≤ 300) (hr : FlRd w FA Xs) (hX : ∀ X ∈ Xs, FlOk w X) (hR : OpR w D A n B m) :
    Calls Try.prog 19 #[.slice FA fn fc, .agg (opC D A n c B m d)] w fun e w' => ∃ (v : Value) (r : Int), e = .returned (.tuple #[v, .int .i64 r]) ∧ ApR w w' (Xs.map FlV.D) D v r ∧ Below w.heap.size w w' := by
  refine (rapply14_q FA fn fc Xs D A n c B m d w hn bn hr hX hR).mono ?_
  rintro e w' (⟨Ys, A4, n4, c4, rfl, h1, h2, h3, h4, h5, hb⟩ | ⟨r, rfl, h1, h2, hb⟩)
  · exact ⟨_, _, rfl, .inl ⟨Ys, A4, n4, c4, rfl, rfl, h1, h2, h3, h4, h5⟩, hb⟩
  · exact ⟨_, _, rfl, .inr ⟨rfl, h1, h2⟩, hb⟩
/-- All operations applied. -/
def allF : Nat → List FD → List OpD → Except (Nat × Int) (List FD)
  | _, L, [] => .ok L
  | k, L, x :: xs => match applyF L x with
    | .ok L' => allF (k + 1) L' xs
    | .error e => .error (k, e)
/-- What All tells. -/
def AlR (w w' : World) (FA : Option Addr) (fn fc m : Nat) (L : List FD) (os : List OpD) (v i r : Value) : Prop :=
  (∃ Ys A n c, v = .slice A n c ∧ i = .int .i64 (m : Int) ∧ r = .int .i64 0 ∧ allF 0 L os = .ok (Ys.map FlV.D) ∧ Ys.length = n ∧ n ≤ 300 ∧ FlRd w' A Ys ∧ ∀ Y ∈ Ys, FlOk w' Y) ∨ (∃ (k : Nat) (e : Int), v = .slice FA fn fc ∧ i = .int .i64 (k : Int) ∧ r = .int .i64 e ∧ allF 0 L os = .error (k, e) ∧ ¬ e = 0)

set_option maxRecDepth 100000 in
set_option maxHeartbeats 40000000 in
theorem rall14_any (FA : Option Addr) (fn fc : Nat) (Xs : List FlV) (B : Option Addr) (m d : Nat) (Os : List OpV) (w : World) (hn : Xs.length = fn) (bn : fn ≤ 300) (hr : FlRd w FA Xs) (hX : ∀ X ∈ Xs, FlOk w X) (hm : Os.length = m) (bm : m ≤ 1000) (hs : OpRd w B Os) (hO : ∀ X ∈ Os, OpR w X.D X.A X.n X.B X.m) :
    Calls Try.prog 11 #[.slice FA fn fc, .slice B m d] w fun e w' => ∃ v i r, e = .returned (.tuple #[v, i, r]) ∧ AlR w w' FA fn fc m (Xs.map FlV.D) (Os.map OpV.D) v i r ∧ Below w.heap.size w w' := by
  have bm9 : m ≤ 9223372036854775807 := by omega
  have HM := hid hm
  have HO := hid hO
  have H0 := hid (And.intro hn (And.intro bn (And.intro hr hX)))
  clear hn bn hr hX hm hO
  go_enter Try.func11, Try.ntmps11
  go_wp2
  go_loopw [7, 8] (fun u i wr => ∃ (k : Nat) (Ys : List FlV) (A' : Option Addr) (n' c' : Nat), k ≤ m ∧ i = .int .i64 k ∧ u = .slice A' n' c' ∧ Hid (Ys.length = n' ∧ n' ≤ 300 ∧ FlRd wr A' Ys ∧ (∀ Y ∈ Ys, FlOk wr Y) ∧ allF 0 (Xs.map FlV.D) (Os.map OpV.D) = allF k (Ys.map FlV.D) ((Os.drop k).map OpV.D)) ∧ Below w.heap.size w wr) (fun _ i _ => m - (intOf i).toNat)
  case atStart => exact ⟨0, Xs, FA, fn, fc, by omega, rfl, rfl, hid ⟨H0.out.1, H0.out.2.1, H0.out.2.2.1, H0.out.2.2.2, by rw [List.drop_zero]⟩, Below.refl _ _⟩
  case round =>
    obtain ⟨k, Ys, A', n', c', hk, rfl, rfl, HI, hb⟩ := hrel
    by_cases hlt : k < m
    · obtain ⟨X, hXk⟩ : ∃ X, Os[k]? = some X := ⟨_, List.getElem?_eq_getElem (by rw [HM.out]; exact hlt)⟩
      obtain ⟨g, q, hg, hK, hix⟩ := hs.pick d HM.out hXk
      unfold OpV.cs at hg
      replace hg := hg.below hb
      have cP := rapply14_any A' n' c' Ys X.D X.A X.n X.c X.B X.m X.d wr HI.out.1 HI.out.2.1 HI.out.2.2.1 HI.out.2.2.2.1 ((HO.out X (List.mem_of_getElem? hXk)).below hb)
      have hdr : Os.drop k = X :: Os.drop (k + 1) := by
        obtain ⟨h1, h2⟩ := List.getElem?_eq_some_iff.1 hXk
        rw [List.drop_eq_getElem_cons h1, h2]
      have HD := hid hdr
      have b1 : (k : Int) < m := by omega
      clear hXk hdr
      go_upto_region 6 with (first
        | (with_reducible refine wpList_load_opr (by with_unfolding_all rfl) _ rfl _ _ rfl hg hK ?_)
        | (go_at_call 19; (with_reducible refine cP.mono ?_); rintro e1 w1 ⟨v1, r1, rfl, HQ, hb1⟩; replace HQ := hid HQ))
      have hb2 := hb.trans (hb1.mono hb.size)
      clear cP hg hix hb1
      rcases HQ.out with ⟨Zs, A1, n1, c1, rfl, rfl, e1, e2⟩ | ⟨rfl, e1, e2⟩
      · clear HQ
        have HZ := hid (And.intro e1 e2)
        clear e1 e2
        go_wp2
        go_roundw
        case rel => exact ⟨k + 1, Zs, A1, n1, c1, hlt, by go_num, rfl, hid ⟨HZ.out.2.1, HZ.out.2.2.1, HZ.out.2.2.2.1, HZ.out.2.2.2.2, by rw [HI.out.2.2.2.2, HD.out, List.map_cons, allF, HZ.out.1]⟩, hb2⟩
        case measure => simp [intOf]; omega
      · clear HQ
        have HZ := hid e1
        clear e1
        go_wp2
        go_ret3
        exact ⟨_, _, _, rfl, .inr ⟨k, r1, rfl, rfl, rfl, by rw [HI.out.2.2.2.2, HD.out, List.map_cons, allF, HZ.out], e2⟩, hb2⟩
    · obtain rfl : k = m := by omega
      have c1 : ¬ (k : Int) < k := by omega
      go_wp2
      go_ret3
      refine ⟨_, _, _, rfl, .inl ⟨Ys, A', n', c', rfl, rfl, rfl, ?_, HI.out.1, HI.out.2.1, HI.out.2.2.1, HI.out.2.2.2.1⟩, hb⟩
      rw [HI.out.2.2.2.2, List.drop_of_length_le (by rw [HM.out]; exact Nat.le_refl _), List.map_nil, allF]

set_option maxRecDepth 100000 in
set_option maxHeartbeats 40000000 in
theorem rsame14_eq (A : Option Addr) (n c : Nat) (Xs : List FlV) (B : Option Addr) (d : Nat) (Ys : List FlV) (w : World) (hn : Xs.length = n) (bn : n ≤ 1000) (hr : FlRd w A Xs) (hX : ∀ X ∈ Xs, FlOk w X) (hs : FlRd w B Ys) (hY : ∀ X ∈ Ys, FlOk w X) (hD : Xs.map FlV.D = Ys.map FlV.D) :
    Calls Try.prog 12 #[.slice A n c, .slice B n d] w fun e w' => e = .returned (.bool true) ∧ Below w.heap.size w w' := by
  have bn9 : n ≤ 9223372036854775807 := by omega
  have hm : Ys.length = n := by
    have := congrArg List.length hD
    rw [List.length_map, List.length_map, hn] at this
    exact this.symm
  have HN := hid hn
  have HM := hid hm
  have HD := hid hD
  have HX := hid hX
  have HY := hid hY
  clear hn hm hD hX hY
  go_enter Try.func12, Try.ntmps12
  go_wp2
  go_loopw [5] (fun i wr => ∃ k : Nat, k ≤ n ∧ i = .int .i64 k ∧ Below w.heap.size w wr) (fun i _ => n - (intOf i).toNat)
  case atStart => exact ⟨0, by omega, rfl, Below.refl _ _⟩
  case round =>
    obtain ⟨k, hk, rfl, hb⟩ := hrel
    by_cases hlt : k < n
    · obtain ⟨X, hXk⟩ : ∃ X, Xs[k]? = some X := ⟨_, List.getElem?_eq_getElem (by rw [HN.out]; exact hlt)⟩
      obtain ⟨Y, hYk⟩ : ∃ Y, Ys[k]? = some Y := ⟨_, List.getElem?_eq_getElem (by rw [HM.out]; exact hlt)⟩
      have hXY : Y.D = X.D := by
        have := congrArg (fun l => l[k]?) HD.out
        simp only [List.getElem?_map, hXk, hYk, Option.map_some, Option.some.injEq] at this
        exact this.symm
      obtain ⟨g, q, hg, -, -, hix⟩ := hr.pick c HN.out hXk
      obtain ⟨g2, q2, hg2, -, -, hix2⟩ := hs.pick d HM.out hYk
      have qX := HX.out X (List.mem_of_getElem? hXk)
      have qY := HY.out Y (List.mem_of_getElem? hYk)
      have HP : Hid (Y.p = X.p) := hid (congrArg Prod.fst hXY)
      have hl : X.l = Y.l := (congrArg Prod.snd hXY).symm
      have cS : ∀ W, Below w.heap.size w W → Calls Try.prog 20 #[.slice X.A X.n X.c, .slice Y.A Y.n Y.c] W fun e w' => e = .returned (.bool true) ∧ Below W.heap.size W w' := fun W h => by
        have := same_any X.A Y.A X.n Y.n X.c Y.c X.l Y.l qX.ln qY.ln (by have := qX.bn; omega) (by have := qY.bn; omega) W (qX.rA.below h) (qY.rA.below h)
        rwa [decide_eq_true hl] at this
      have b1 : (k : Int) < n := by omega
      clear hXk hYk hXY qX qY hl
      go_wp2_with (fail)
      refine wp_region_held_drew (S := fun W => Below w.heap.size w W) (by kernel_rfl) (hb.trans ((below_drew10 _).mono hb.size)) (fun hHeld => ?_)
      replace hb := hb.trans ((below_drew10 _).mono hb.size)
      generalize World.drew _ = V1 at *
      refine' wpAnyH_take (i := 0) (v := .slice A n c) rfl (by kernel_rfl) (by kernel_rfl) (by kernel_rfl) (fun _ _ _ h => h) (Or.inl ⟨by rfl, fun w' hw' => by go_simp⟩) hHeld ?_
      try simp only [Act.put, List.getElem_toArray, List.getElem_cons_succ, List.getElem_cons_zero, List.setIfInBounds_toArray, List.set_cons_zero, List.set_cons_succ]
      refine' wpAnyH_take (i := 1) (v := .int .i64 k) rfl (by kernel_rfl) (by kernel_rfl) (by kernel_rfl) (fun _ _ _ h => h) (Or.inl ⟨by rfl, fun w' hw' => by go_simp⟩) hHeld ?_
      try simp only [Act.put, List.getElem_toArray, List.getElem_cons_succ, List.getElem_cons_zero, List.setIfInBounds_toArray, List.set_cons_zero, List.set_cons_succ]
      refine' wpAnyH_take (i := 2) (v := .pointer (some ⟨g, q, none⟩)) rfl (by kernel_rfl) (by kernel_rfl) (by kernel_rfl) (fun _ _ _ h => h) (Or.inl ⟨by rfl, fun w' hw' => by go_simp⟩) hHeld ?_
      try simp only [Act.put, List.getElem_toArray, List.getElem_cons_succ, List.getElem_cons_zero, List.setIfInBounds_toArray, List.set_cons_zero, List.set_cons_succ]
      refine' wpAnyH_take (i := 3) (v := .pointer (some ⟨g, q, none⟩)) rfl (by kernel_rfl) (by kernel_rfl) (by kernel_rfl) (fun _ _ _ h => h) (Or.inl ⟨by rfl, fun w' hw' => by go_simp⟩) hHeld ?_
      try simp only [Act.put, List.getElem_toArray, List.getElem_cons_succ, List.getElem_cons_zero, List.setIfInBounds_toArray, List.set_cons_zero, List.set_cons_succ]
      refine' wpAnyH_take (i := 4) (v := .string (txt X.p)) rfl (by kernel_rfl) (by kernel_rfl) (by kernel_rfl) (fun _ _ _ h => h) (Or.inl ⟨by rfl, fun w' hw' => by have y := (hg.below hw') 0 _ rfl; rw [Nat.add_zero] at y; go_simp⟩) hHeld ?_
      try simp only [Act.put, List.getElem_toArray, List.getElem_cons_succ, List.getElem_cons_zero, List.setIfInBounds_toArray, List.set_cons_zero, List.set_cons_succ]
      refine' wpAnyH_take (i := 5) (v := .slice B n d) rfl (by kernel_rfl) (by kernel_rfl) (by kernel_rfl) (fun _ _ _ h => h) (Or.inl ⟨by rfl, fun w' hw' => by go_simp⟩) hHeld ?_
      try simp only [Act.put, List.getElem_toArray, List.getElem_cons_succ, List.getElem_cons_zero, List.setIfInBounds_toArray, List.set_cons_zero, List.set_cons_succ]
      refine' wpAnyH_take (i := 6) (v := .int .i64 k) rfl (by kernel_rfl) (by kernel_rfl) (by kernel_rfl) (fun _ _ _ h => h) (Or.inl ⟨by rfl, fun w' hw' => by go_simp⟩) hHeld ?_
      try simp only [Act.put, List.getElem_toArray, List.getElem_cons_succ, List.getElem_cons_zero, List.setIfInBounds_toArray, List.set_cons_zero, List.set_cons_succ]
      refine' wpAnyH_take (i := 7) (v := .pointer (some ⟨g2, q2, none⟩)) rfl (by kernel_rfl) (by kernel_rfl) (by kernel_rfl) (fun _ _ _ h => h) (Or.inl ⟨by rfl, fun w' hw' => by go_simp⟩) hHeld ?_
      try simp only [Act.put, List.getElem_toArray, List.getElem_cons_succ, List.getElem_cons_zero, List.setIfInBounds_toArray, List.set_cons_zero, List.set_cons_succ]
      refine' wpAnyH_take (i := 8) (v := .pointer (some ⟨g2, q2, none⟩)) rfl (by kernel_rfl) (by kernel_rfl) (by kernel_rfl) (fun _ _ _ h => h) (Or.inl ⟨by rfl, fun w' hw' => by go_simp⟩) hHeld ?_
      try simp only [Act.put, List.getElem_toArray, List.getElem_cons_succ, List.getElem_cons_zero, List.setIfInBounds_toArray, List.set_cons_zero, List.set_cons_succ]
      refine' wpAnyH_take (i := 9) (v := .string (txt X.p)) rfl (by kernel_rfl) (by kernel_rfl) (by kernel_rfl) (fun _ _ _ h => h) (Or.inl ⟨by rfl, fun w' hw' => by have y := (hg2.below hw') 0 _ rfl; rw [Nat.add_zero, HP.out] at y; go_simp⟩) hHeld ?_
      try simp only [Act.put, List.getElem_toArray, List.getElem_cons_succ, List.getElem_cons_zero, List.setIfInBounds_toArray, List.set_cons_zero, List.set_cons_succ]
      refine' wpAnyH_take (i := 10) (v := .bool false) rfl (by kernel_rfl) (by kernel_rfl) (by kernel_rfl) (fun _ _ _ h => h) (Or.inl ⟨by rfl, fun w' hw' => by go_simp⟩) hHeld ?_
      try simp only [Act.put, List.getElem_toArray, List.getElem_cons_succ, List.getElem_cons_zero, List.setIfInBounds_toArray, List.set_cons_zero, List.set_cons_succ]
      refine' wpAnyH_take (i := 11) (v := .bool false) rfl (by kernel_rfl) (by kernel_rfl) (by kernel_rfl) (fun _ _ _ h => h) (Or.inl ⟨by rfl, fun w' hw' => by go_simp⟩) hHeld ?_
      try simp only [Act.put, List.getElem_toArray, List.getElem_cons_succ, List.getElem_cons_zero, List.setIfInBounds_toArray, List.set_cons_zero, List.set_cons_succ]
      refine' wpAnyH_take (i := 12) (v := .slice A n c) rfl (by kernel_rfl) (by kernel_rfl) (by kernel_rfl) (fun _ _ _ h => h) (Or.inl ⟨by rfl, fun w' hw' => by go_simp⟩) hHeld ?_
      try simp only [Act.put, List.getElem_toArray, List.getElem_cons_succ, List.getElem_cons_zero, List.setIfInBounds_toArray, List.set_cons_zero, List.set_cons_succ]
      refine' wpAnyH_take (i := 13) (v := .int .i64 k) rfl (by kernel_rfl) (by kernel_rfl) (by kernel_rfl) (fun _ _ _ h => h) (Or.inl ⟨by rfl, fun w' hw' => by go_simp⟩) hHeld ?_
      try simp only [Act.put, List.getElem_toArray, List.getElem_cons_succ, List.getElem_cons_zero, List.setIfInBounds_toArray, List.set_cons_zero, List.set_cons_succ]
      refine' wpAnyH_take (i := 14) (v := .pointer (some ⟨g, q, none⟩)) rfl (by kernel_rfl) (by kernel_rfl) (by kernel_rfl) (fun _ _ _ h => h) (Or.inl ⟨by rfl, fun w' hw' => by go_simp⟩) hHeld ?_
      try simp only [Act.put, List.getElem_toArray, List.getElem_cons_succ, List.getElem_cons_zero, List.setIfInBounds_toArray, List.set_cons_zero, List.set_cons_succ]
      refine' wpAnyH_take (i := 15) (v := .pointer (some ⟨g, q + 1, none⟩)) rfl (by kernel_rfl) (by kernel_rfl) (by kernel_rfl) (fun _ _ _ h => h) (Or.inl ⟨by rfl, fun w' hw' => by go_simp⟩) hHeld ?_
      try simp only [Act.put, List.getElem_toArray, List.getElem_cons_succ, List.getElem_cons_zero, List.setIfInBounds_toArray, List.set_cons_zero, List.set_cons_succ]
      refine' wpAnyH_take (i := 16) (v := .slice X.A X.n X.c) rfl (by kernel_rfl) (by kernel_rfl) (by kernel_rfl) (fun _ _ _ h => h) (Or.inl ⟨by rfl, fun w' hw' => by have y := (hg.below hw') 1 _ rfl; go_simp⟩) hHeld ?_
      try simp only [Act.put, List.getElem_toArray, List.getElem_cons_succ, List.getElem_cons_zero, List.setIfInBounds_toArray, List.set_cons_zero, List.set_cons_succ]
      refine' wpAnyH_take (i := 17) (v := .slice B n d) rfl (by kernel_rfl) (by kernel_rfl) (by kernel_rfl) (fun _ _ _ h => h) (Or.inl ⟨by rfl, fun w' hw' => by go_simp⟩) hHeld ?_
      try simp only [Act.put, List.getElem_toArray, List.getElem_cons_succ, List.getElem_cons_zero, List.setIfInBounds_toArray, List.set_cons_zero, List.set_cons_succ]
      refine' wpAnyH_take (i := 18) (v := .int .i64 k) rfl (by kernel_rfl) (by kernel_rfl) (by kernel_rfl) (fun _ _ _ h => h) (Or.inl ⟨by rfl, fun w' hw' => by go_simp⟩) hHeld ?_
      try simp only [Act.put, List.getElem_toArray, List.getElem_cons_succ, List.getElem_cons_zero, List.setIfInBounds_toArray, List.set_cons_zero, List.set_cons_succ]
      refine' wpAnyH_take (i := 19) (v := .pointer (some ⟨g2, q2, none⟩)) rfl (by kernel_rfl) (by kernel_rfl) (by kernel_rfl) (fun _ _ _ h => h) (Or.inl ⟨by rfl, fun w' hw' => by go_simp⟩) hHeld ?_
      try simp only [Act.put, List.getElem_toArray, List.getElem_cons_succ, List.getElem_cons_zero, List.setIfInBounds_toArray, List.set_cons_zero, List.set_cons_succ]
      refine' wpAnyH_take (i := 20) (v := .pointer (some ⟨g2, q2 + 1, none⟩)) rfl (by kernel_rfl) (by kernel_rfl) (by kernel_rfl) (fun _ _ _ h => h) (Or.inl ⟨by rfl, fun w' hw' => by go_simp⟩) hHeld ?_
      try simp only [Act.put, List.getElem_toArray, List.getElem_cons_succ, List.getElem_cons_zero, List.setIfInBounds_toArray, List.set_cons_zero, List.set_cons_succ]
      refine' wpAnyH_take (i := 21) (v := .slice Y.A Y.n Y.c) rfl (by kernel_rfl) (by kernel_rfl) (by kernel_rfl) (fun _ _ _ h => h) (Or.inl ⟨by rfl, fun w' hw' => by have y := (hg2.below hw') 1 _ rfl; go_simp⟩) hHeld ?_
      try simp only [Act.put, List.getElem_toArray, List.getElem_cons_succ, List.getElem_cons_zero, List.setIfInBounds_toArray, List.set_cons_zero, List.set_cons_succ]
      refine wpAnyH_ready (rs := [22]) (by kernel_rfl) (by simp) ?_
      refine AllReadyH.cons rfl (fun K hK => ?_) AllReadyH.nil
      go_simp
      (with_reducible refine (cS _ hHeld).mono ?_)
      rintro e9 V2 ⟨rfl, hb9⟩
      replace hb := hb.trans (hb9.mono hb.size)
      refine hK.out _ _ hb (fun hHeld => ?_)
      clear hK K hb9
      try simp only [Act.put, List.getElem_toArray, List.getElem_cons_succ, List.getElem_cons_zero, List.setIfInBounds_toArray, List.set_cons_zero, List.set_cons_succ]
      refine' wpAnyH_take (i := 23) (v := .bool false) rfl (by kernel_rfl) (by kernel_rfl) (by kernel_rfl) (fun _ _ _ h => h) (Or.inl ⟨by rfl, fun w' hw' => by go_simp⟩) hHeld ?_
      try simp only [Act.put, List.getElem_toArray, List.getElem_cons_succ, List.getElem_cons_zero, List.setIfInBounds_toArray, List.set_cons_zero, List.set_cons_succ]
      refine' wpAnyH_take (i := 24) (v := .bool false) rfl (by kernel_rfl) (by kernel_rfl) (by kernel_rfl) (fun _ _ _ h => h) (Or.inl ⟨by rfl, fun w' hw' => by go_simp⟩) hHeld ?_
      try simp only [Act.put, List.getElem_toArray, List.getElem_cons_succ, List.getElem_cons_zero, List.setIfInBounds_toArray, List.set_cons_zero, List.set_cons_succ]
      refine wpAnyH_done (by kernel_rfl) ?_ _
      go_wp2
      go_roundw
      case rel => exact ⟨k + 1, hlt, by go_num, hb⟩
      case measure => simp [intOf]; omega
    · obtain rfl : k = n := by omega
      have c1 : ¬ (k : Int) < k := by omega
      go_wp2
      go_ret
      exact ⟨rfl, hb⟩


end Go.Proofs.Ytmfngampccpkhaa
/- What operations that are apart do to a tree, in either order: lists and maps alone. -/
set_option linter.unusedSimpArgs false
set_option linter.unusedVariables false
namespace Go.Proofs.Ytmfngampccpkhaa
open Go.RowKit Go.Qc Go.Shelf

theorem bl_irr : ∀ a : List UInt8, Go.Op.bytesLess a a = false
  | [] => rfl
  | x :: a => by
    rw [Go.Op.bytesLess, bl_irr a]
    simp
theorem bl_trans : ∀ a b c : List UInt8, Go.Op.bytesLess a b = true → Go.Op.bytesLess b c = true → Go.Op.bytesLess a c = true
  | _, [], _, h, _ => by cases ‹List UInt8› <;> simp [Go.Op.bytesLess] at h
  | _, _ :: _, [], _, h => by simp [Go.Op.bytesLess] at h
  | [], _ :: _, _ :: _, _, _ => rfl
  | x :: a, y :: b, z :: c, h, g => by
    simp only [Go.Op.bytesLess, Bool.or_eq_true, Bool.and_eq_true, decide_eq_true_eq, beq_iff_eq, UInt8.lt_iff_toNat_lt] at h g ⊢
    rcases h with h | ⟨rfl, h⟩
    · rcases g with g | ⟨rfl, g⟩
      · exact .inl (by omega)
      · exact .inl h
    · rcases g with g | ⟨rfl, g⟩
      · exact .inl g
      · exact .inr ⟨rfl, bl_trans a b c h g⟩
theorem bl_tot : ∀ a b : List UInt8, Go.Op.bytesLess a b = false → a ≠ b → Go.Op.bytesLess b a = true
  | [], [], _, h => absurd rfl h
  | x :: a, [], _, _ => rfl
  | [], y :: b, h, _ => by simp [Go.Op.bytesLess] at h
  | x :: a, y :: b, h, hne => by
    simp only [Go.Op.bytesLess, Bool.or_eq_false_iff, Bool.and_eq_false_iff, decide_eq_false_iff_not, UInt8.lt_iff_toNat_lt] at h
    simp only [Go.Op.bytesLess, Bool.or_eq_true, Bool.and_eq_true, decide_eq_true_eq, beq_iff_eq, UInt8.lt_iff_toNat_lt]
    by_cases hxy : x = y
    · subst hxy
      right
      refine ⟨rfl, bl_tot a b ?_ (fun e => hne (by rw [e]))⟩
      rcases h.2 with h2 | h2
      · simp at h2
      · exact h2
    · left
      have : x.toNat ≠ y.toNat := fun e => hxy (UInt8.toNat_inj.1 e)
      omega
/-- Files by paths. -/
def SortF (L : List FD) : Prop := L.Pairwise fun x y => Go.Op.bytesLess x.1 y.1 = true
/-- What is at a path: nothing, what is spoilt, lines. -/
abbrev MP := List UInt8 → Option (Option (List (List UInt8)))
def look : List FD → MP
  | [], _ => none
  | x :: xs, s => if x.1 = s then some (some x.2) else look xs s
theorem look_none : ∀ (L : List FD) (s : List UInt8), look L s = none ↔ ∀ x ∈ L, x.1 ≠ s
  | [], s => by simp [look]
  | x :: xs, s => by
    rw [look]
    by_cases h : x.1 = s
    · rw [if_pos h]
      simp [h]
    · rw [if_neg h, look_none xs s]
      simp [h]
theorem look_at : ∀ (L : List FD) (s : List UInt8), (atV L s = -1 ∧ look L s = none) ∨ ∃ i x, atV L s = (i : Nat) ∧ L[i]? = some x ∧ x.1 = s ∧ look L s = some (some x.2)
  | [], _ => .inl ⟨rfl, rfl⟩
  | x :: xs, s => by
    rw [atV, look]
    by_cases h : x.1 = s
    · rw [if_pos h, if_pos h]
      exact .inr ⟨0, x, rfl, rfl, h, rfl⟩
    · rw [if_neg h, if_neg h]
      rcases look_at xs s with ⟨h1, h2⟩ | ⟨i, y, h1, h2, h3, h4⟩
      · rw [h1]; exact .inl ⟨rfl, h2⟩
      · rw [h1, if_neg (by omega)]
        exact .inr ⟨i + 1, y, by omega, h2, h3, h4⟩
theorem look_ext : ∀ (L M : List FD), SortF L → SortF M → (∀ s, look L s = look M s) → L = M
  | [], [], _, _, _ => rfl
  | [], y :: M, _, _, h => by have := h y.1; simp [look] at this
  | x :: L, [], _, _, h => by have := h x.1; simp [look] at this
  | x :: L, y :: M, hL, hM, h => by
    obtain ⟨hx, hL2⟩ := List.pairwise_cons.1 hL
    obtain ⟨hy, hM2⟩ := List.pairwise_cons.1 hM
    have e1 : x.1 = y.1 := by
      apply Classical.byContradiction
      intro hne
      have h1 := h x.1
      have h2 := h y.1
      simp only [look, if_true] at h1 h2
      rw [if_neg (fun e => hne e.symm)] at h1
      rw [if_neg hne] at h2
      have m1 : ∃ z ∈ M, z.1 = x.1 := by
        apply Classical.byContradiction
        intro hn
        rw [(look_none M x.1).2 (fun z hz e => hn ⟨z, hz, e⟩)] at h1
        cases h1
      have m2 : ∃ z ∈ L, z.1 = y.1 := by
        apply Classical.byContradiction
        intro hn
        rw [(look_none L y.1).2 (fun z hz e => hn ⟨z, hz, e⟩)] at h2
        cases h2
      obtain ⟨z1, hz1, q1⟩ := m1
      obtain ⟨z2, hz2, q2⟩ := m2
      have r1 := hy z1 hz1
      have r2 := hx z2 hz2
      rw [q1] at r1
      rw [q2] at r2
      have := bl_trans _ _ _ r1 r2
      rw [bl_irr] at this
      cases this
    have e2 : x.2 = y.2 := by
      have h1 := h x.1
      simp only [look, if_true, e1.symm] at h1
      injection h1 with h1
      injection h1
    have exy : x = y := Prod.ext e1 e2
    subst exy
    refine congrArg (x :: ·) (look_ext L M hL2 hM2 (fun s => ?_))
    by_cases hs : x.1 = s
    · subst hs
      rw [(look_none L x.1).2 (fun z hz e => by have := hx z hz; rw [e, bl_irr] at this; cases this), (look_none M x.1).2 (fun z hz e => by have := hy z hz; rw [e, bl_irr] at this; cases this)]
    · have := h s
      simpa only [look, if_neg hs] using this
theorem putD_mem : ∀ (L : List FD) (f z : FD), z ∈ putD L f → z = f ∨ z ∈ L
  | [], f, z, h => by simp [putD] at h; exact .inl h
  | x :: xs, f, z, h => by
    rw [putD] at h
    split at h
    · rcases List.mem_cons.1 h with h | h
      · exact .inl h
      · exact .inr h
    · rcases List.mem_cons.1 h with h | h
      · exact .inr (by rw [h]; simp)
      · exact (putD_mem xs f z h).imp id (fun h => by simp [h])
theorem putD_sort : ∀ (L : List FD) (f : FD), SortF L → look L f.1 = none → SortF (putD L f)
  | [], f, _, _ => by unfold SortF; simp [putD]
  | x :: xs, f, h, hn => by
    obtain ⟨hx, hs⟩ := List.pairwise_cons.1 h
    rw [look_none] at hn
    rw [putD]
    by_cases hl : Go.Op.bytesLess f.1 x.1 = true
    · rw [if_pos hl]
      refine List.pairwise_cons.2 ⟨fun z hz => ?_, h⟩
      rcases List.mem_cons.1 hz with rfl | hz
      · exact hl
      · exact bl_trans _ _ _ hl (hx z hz)
    · rw [if_neg hl]
      refine List.pairwise_cons.2 ⟨fun z hz => ?_, putD_sort xs f hs ((look_none _ _).2 (fun z hz => hn z (by simp [hz])))⟩
      rcases putD_mem xs f z hz with rfl | hz
      · exact bl_tot _ _ (by simpa using hl) (fun e => hn x (by simp) e.symm)
      · exact hx z hz
theorem putD_look : ∀ (L : List FD) (f : FD) (s : List UInt8), look L f.1 = none → look (putD L f) s = if s = f.1 then some (some f.2) else look L s
  | [], f, s, _ => by
    simp only [putD, look]
    by_cases h : f.1 = s
    · rw [if_pos h, if_pos h.symm]
    · rw [if_neg h, if_neg (fun e => h e.symm)]
  | x :: xs, f, s, hn => by
    have hn' := (look_none _ _).1 hn
    rw [putD]
    split
    · rw [look]
      by_cases h : f.1 = s
      · rw [if_pos h, if_pos h.symm]
      · rw [if_neg h, if_neg (fun e => h e.symm)]
    · rw [look, putD_look xs f s ((look_none _ _).2 (fun z hz => hn' z (by simp [hz]))), look]
      by_cases h : x.1 = s
      · rw [if_pos h, if_pos h, if_neg (fun e => hn' x (by simp) (h.trans e))]
      · rw [if_neg h, if_neg h]
theorem erase_sort {L : List FD} {i : Nat} (h : SortF L) : SortF (L.eraseIdx i) := h.sublist (List.eraseIdx_sublist L i)
theorem erase_look : ∀ (L : List FD) (i : Nat) (x : FD) (s : List UInt8), SortF L → L[i]? = some x → look (L.eraseIdx i) s = if s = x.1 then none else look L s
  | [], i, x, s, _, h => by simp at h
  | y :: L, 0, x, s, h, hx => by
    simp at hx
    subst hx
    obtain ⟨hy, hs⟩ := List.pairwise_cons.1 h
    rw [List.eraseIdx_zero, List.tail_cons, look]
    by_cases e : s = y.1
    · rw [if_pos e, (look_none _ _).2 (fun z hz q => by have := hy z hz; rw [q, e, bl_irr] at this; cases this)]
    · rw [if_neg e, if_neg (fun q => e q.symm)]
  | y :: L, i + 1, x, s, h, hx => by
    rw [List.getElem?_cons_succ] at hx
    obtain ⟨hy, hs⟩ := List.pairwise_cons.1 h
    rw [List.eraseIdx_cons_succ, look, erase_look L i x s hs hx, look]
    by_cases e : y.1 = s
    · rw [if_pos e, if_pos e, if_neg (fun q => by have := hy x (List.mem_of_getElem? hx); rw [e, q, bl_irr] at this; cases this)]
    · rw [if_neg e, if_neg e]

/-- A stretch of lines in the place of another. -/
def spl (L : List (List UInt8)) (a : Int) (old new : List (List UInt8)) : Option (List (List UInt8)) :=
  if 0 ≤ a ∧ a.toNat + old.length ≤ L.length ∧ (L.drop a.toNat).take old.length = old then some (L.take a.toNat ++ (new ++ L.drop (a.toNat + old.length))) else none
def Spl (L : List (List UInt8)) (a : Int) (old new M : List (List UInt8)) : Prop := ∃ P S, a = (P.length : Int) ∧ L = P ++ (old ++ S) ∧ M = P ++ (new ++ S)
theorem spl_iff {L : List (List UInt8)} {a : Int} {old new M : List (List UInt8)} : spl L a old new = some M ↔ Spl L a old new M := by
  unfold spl Spl
  constructor
  · intro h
    split at h
    · rename_i hc
      obtain ⟨h0, h1, h2⟩ := hc
      injection h with h
      refine ⟨L.take a.toNat, L.drop (a.toNat + old.length), ?_, ?_, h.symm⟩
      · rw [List.length_take, Nat.min_eq_left (by omega)]; omega
      · conv => lhs; rw [← List.take_append_drop a.toNat L, ← List.take_append_drop old.length (L.drop a.toNat), h2, List.drop_drop]
    · cases h
  · rintro ⟨P, S, rfl, rfl, rfl⟩
    rw [Int.toNat_natCast]
    have d1 : (P ++ (old ++ S)).drop P.length = old ++ S := List.drop_left
    rw [if_pos ⟨by omega, by simp only [List.length_append]; omega, by rw [d1, List.take_left]⟩]
    rw [List.take_left, ← List.drop_drop, d1, List.drop_left]
theorem split_app {A B C D : List (List UInt8)} (h : A ++ B = C ++ D) (hl : A.length ≤ C.length) : ∃ T, C = A ++ T ∧ B = T ++ D := by
  rcases List.append_eq_append_iff.1 h with ⟨T, h1, h2⟩ | ⟨T, h1, h2⟩
  · exact ⟨T, h1, h2⟩
  · have : T = [] := by
      have := congrArg List.length h1
      rw [List.length_append] at this
      exact List.eq_nil_of_length_eq_zero (by omega)
    subst this
    rw [List.append_nil] at h1
    exact ⟨[], by rw [List.append_nil, h1], by rw [List.nil_append] at h2 ⊢; exact h2.symm⟩
theorem opt_ext {α : Type} {a b : Option α} (h : ∀ x, a = some x ↔ b = some x) : a = b := by
  cases a with
  | some x => exact ((h x).1 rfl).symm
  | none =>
    cases b with
    | none => rfl
    | some y => exact (h y).2 rfl
/-- A stretch ahead of another one, and this one, in either order. -/
theorem spl_swap {L : List (List UInt8)} {a b : Int} {xo xn oo on : List (List UInt8)} (h : b + oo.length < a) :
    ((spl L b oo on).bind fun N => spl N (a + ((on.length : Int) - oo.length)) xo xn) = (spl L a xo xn).bind fun N => spl N b oo on := by
  apply opt_ext
  intro M
  simp only [Option.bind_eq_some_iff, spl_iff]
  constructor
  · rintro ⟨N, ⟨Q, R, rfl, rfl, rfl⟩, P', S, h1, h2, rfl⟩
    obtain ⟨T, rfl, rfl⟩ := split_app (A := Q ++ on) (B := R) (C := P') (D := xo ++ S) (by rw [List.append_assoc]; exact h2) (by rw [List.length_append]; omega)
    refine ⟨Q ++ oo ++ T ++ (xn ++ S), ⟨Q ++ oo ++ T, S, ?_, by simp, rfl⟩, Q, T ++ (xn ++ S), rfl, by simp, by simp⟩
    simp only [List.length_append] at h1 ⊢
    omega
  · rintro ⟨N, ⟨P, S, rfl, rfl, rfl⟩, Q, R, rfl, h2, rfl⟩
    obtain ⟨T, rfl, rfl⟩ := split_app (A := Q ++ oo) (B := R) (C := P) (D := xn ++ S) (by rw [List.append_assoc]; exact h2.symm) (by rw [List.length_append]; omega)
    refine ⟨Q ++ (on ++ (T ++ (xo ++ S))), ⟨Q, T ++ (xo ++ S), rfl, by simp, rfl⟩, Q ++ on ++ T, S, ?_, by simp, by simp⟩
    simp only [List.length_append]
    omega
/-- What an operation does to what is at the paths. -/
def eff (o : OpD) (f : MP) : MP := fun s =>
  if o.k = 1 then (if s = o.p then some (some []) else f s)
  else if o.k = 2 then (if s = o.p then none else f s)
  else if o.k = 3 then (if s = o.p then (f s).map (fun l => l.bind fun L => spl L o.a o.o o.n) else f s)
  else if o.k = 4 then (if s = o.t then f o.p else if s = o.p then none else f s)
  else f s
theorem room_look {L : List FD} {s : List UInt8} (h : roomV L s = 0) : look L s = none := by
  rcases look_at L s with ⟨_, h2⟩ | ⟨i, x, h1, _⟩
  · exact h2
  · unfold roomV at h
    rw [h1, if_pos (by omega)] at h
    cases h
theorem apply_eff {L L' : List FD} {o : OpD} (hs : SortF L) (h : applyF L o = .ok L') : SortF L' ∧ ∀ s, look L' s = eff o (look L) s := by
  unfold applyF at h
  by_cases hE : opE o = 0
  · rw [if_pos hE] at h
    have hk6 : 1 ≤ o.k ∧ o.k ≤ 6 := by
      by_cases h : 1 ≤ o.k ∧ o.k ≤ 6
      · exact h
      · unfold opE at hE; rw [if_neg h] at hE; cases hE
    by_cases h4 : 4 < o.k
    · rw [if_pos h4] at h
      injection h with h
      subst h
      refine ⟨hs, fun s => ?_⟩
      unfold eff
      rw [if_neg (by omega), if_neg (by omega), if_neg (by omega), if_neg (by omega)]
    · rw [if_neg h4] at h
      by_cases h1 : o.k = 1
      · rw [if_pos h1] at h
        by_cases hr : roomV L o.p = 0
        · rw [if_pos hr] at h
          by_cases h2 : 200 ≤ L.length
          · rw [if_pos h2] at h; cases h
          · rw [if_neg h2] at h
            injection h with h
            subst h
            have hn := room_look hr
            refine ⟨putD_sort _ _ hs hn, fun s => ?_⟩
            rw [putD_look _ _ _ hn]
            unfold eff
            rw [if_pos h1]
        · rw [if_neg hr] at h; cases h
      · rw [if_neg h1] at h
        rcases look_at L o.p with ⟨a1, _⟩ | ⟨i, x, a1, a2, a3, a4⟩
        · rw [a1, if_pos (by decide)] at h; cases h
        · rw [a1, if_neg (by omega), Int.toNat_natCast, a2] at h
          simp only at h
          have hl := fun s => erase_look L i x s hs a2
          rw [a3] at hl
          by_cases h2 : o.k = 2
          · rw [if_pos h2] at h
            split at h
            · injection h with h
              subst h
              refine ⟨erase_sort hs, fun s => ?_⟩
              rw [hl]
              unfold eff
              rw [if_neg h1, if_pos h2]
            · cases h
          · rw [if_neg h2] at h
            by_cases h3 : o.k = 3
            · rw [if_pos h3] at h
              split at h
              · rename_i hap
                injection h with h
                subst h
                have hn : look (L.eraseIdx i) o.p = none := by rw [hl, if_pos rfl]
                refine ⟨putD_sort _ _ (erase_sort hs) hn, fun s => ?_⟩
                rw [putD_look _ _ _ hn, hl]
                unfold eff
                rw [if_neg h1, if_neg h2, if_pos h3]
                by_cases e : s = o.p
                · rw [if_pos e, if_pos e, e, a4]
                  obtain ⟨P, S, e1, e2, e3, _, _⟩ := apR_get hap
                  have : spl x.2 o.a o.o o.n = some (apR x.2 o.a o.o o.n).1 := spl_iff.2 ⟨P, S, e1, e2, e3⟩
                  simp only [Option.map_some, Option.bind_some, this]
                · rw [if_neg e, if_neg e, if_neg e]
              · cases h
            · rw [if_neg h3] at h
              split at h
              · rename_i hr
                injection h with h
                subst h
                have hn := room_look hr
                refine ⟨putD_sort _ _ (erase_sort hs) hn, fun s => ?_⟩
                rw [putD_look _ _ _ hn, hl]
                unfold eff
                rw [if_neg h1, if_neg h2, if_neg h3, if_pos (show o.k = 4 by omega)]
                by_cases e : s = o.t
                · rw [if_pos e, if_pos e, a4]
                · rw [if_neg e, if_neg e]
              · cases h
  · rw [if_neg hE] at h; cases h
def chain (os : List OpD) (f : MP) : MP := os.foldl (fun f o => eff o f) f
theorem chain_append (a b : List OpD) (f : MP) : chain (a ++ b) f = chain b (chain a f) := List.foldl_append
theorem chain_cons (o : OpD) (b : List OpD) (f : MP) : chain (o :: b) f = chain b (eff o f) := rfl
theorem all_eff : ∀ (os : List OpD) (k : Nat) (L L' : List FD), SortF L → allF k L os = .ok L' → SortF L' ∧ look L' = chain os (look L)
  | [], k, L, L', hs, h => by
    rw [allF] at h
    injection h with h
    subst h
    exact ⟨hs, rfl⟩
  | o :: os, k, L, L', hs, h => by
    rw [allF] at h
    cases hq : applyF L o with
    | error e => rw [hq] at h; cases h
    | ok M =>
      rw [hq] at h
      obtain ⟨h1, h2⟩ := apply_eff hs hq
      obtain ⟨h3, h4⟩ := all_eff os (k + 1) M L' h1 h
      refine ⟨h3, ?_⟩
      rw [h4, chain_cons, show look M = eff o (look L) from funext h2]

theorem eff_far {o : OpD} {f : MP} {s : List UInt8} (h : s ∉ pthD o) : eff o f s = f s := by
  unfold pthD at h
  unfold eff
  by_cases h1 : o.k = 1
  · rw [if_neg (by omega)] at h
    rw [if_pos h1, if_neg (by simpa using h)]
  · rw [if_neg h1]
    by_cases h2 : o.k = 2
    · rw [if_neg (by omega)] at h
      rw [if_pos h2, if_neg (by simpa using h)]
    · rw [if_neg h2]
      by_cases h3 : o.k = 3
      · rw [if_neg (by omega)] at h
        rw [if_pos h3, if_neg (by simpa using h)]
      · rw [if_neg h3]
        by_cases h4 : o.k = 4
        · rw [if_pos h4] at h
          simp at h
          rw [if_pos h4, if_neg h.2, if_neg h.1]
        · rw [if_neg h4]
theorem eff_near {o : OpD} {f g : MP} {s : List UInt8} (hs : s ∈ pthD o) (h : ∀ t ∈ pthD o, f t = g t) : eff o f s = eff o g s := by
  have hp : o.p ∈ pthD o := by unfold pthD; split <;> simp
  unfold eff
  rw [h s hs, h o.p hp]
theorem eff_apart {x o : OpD} (h : ∀ s ∈ pthD x, s ∉ pthD o) (f : MP) : eff x (eff o f) = eff o (eff x f) := by
  funext s
  by_cases h1 : s ∈ pthD x
  · have h2 := h s h1
    rw [eff_far h2]
    exact eff_near h1 (fun t ht => eff_far (h t ht))
  · rw [eff_far h1]
    by_cases h2 : s ∈ pthD o
    · exact (eff_near h2 (fun t ht => eff_far (fun hx => h t hx ht))).symm
    · rw [eff_far h2, eff_far h2, eff_far h1]
theorem eff_pol {x : OpD} (h : polB x = true) (f : MP) : eff x f = f := by
  unfold polB at h
  rw [decide_eq_true_eq] at h
  funext s
  unfold eff
  rw [if_neg (by omega), if_neg (by omega), if_neg (by omega), if_neg (by omega)]
theorem covR_self {s : List UInt8} (h : pathR s = true) : covR s s = true := by
  unfold covR covB preR
  rw [h]
  simp
theorem bes_ne {s t : List UInt8} (h : besR s t = true) : s ≠ t := by
  rintro rfl
  unfold besR at h
  simp only [Bool.and_eq_true, Bool.not_eq_true'] at h
  obtain ⟨h1, _, h2, _⟩ := h
  rw [covR_self h1] at h2
  cases h2
theorem eff_edit {o : OpD} (h : o.k = 3) (f : MP) (s : List UInt8) : eff o f s = if s = o.p then (f s).map (fun l => l.bind fun L => spl L o.a o.o o.n) else f s := by
  unfold eff
  rw [if_neg (by omega), if_neg (by omega), if_pos h]
theorem eff_edita {o : OpD} (h : o.k = 3) (a : Int) (f : MP) (s : List UInt8) : eff { o with a := a } f s = if s = o.p then (f s).map (fun l => l.bind fun L => spl L a o.o o.n) else f s := eff_edit (o := { o with a := a }) h f s
/-- Two operations that are apart, in either order. -/
theorem eff_swap {x o : OpD} (h : apB x o = true) (f : MP) : eff { x with a := aD x o } (eff { o with a := aE x o } f) = eff o (eff x f) := by
  unfold apB at h
  simp only [Bool.and_eq_true, decide_eq_true_eq] at h
  obtain ⟨hx, ho, h⟩ := h
  by_cases ht : togB x o = true
  · have htb := ht
    unfold togB at ht
    simp only [Bool.and_eq_true, decide_eq_true_eq] at ht
    obtain ⟨k1, k2, hp⟩ := ht
    have p1 : polB x = false := by unfold polB; rw [decide_eq_false_iff_not]; omega
    have p2 : polB o = false := by unfold polB; rw [decide_eq_false_iff_not]; omega
    rw [p1, p2, Bool.false_or, Bool.false_or, if_pos htb] at h
    have hA : aE x o = if o.a < x.a then o.a else o.a - ((x.n.length : Int) - x.o.length) := by
      unfold aE
      by_cases hlt : o.a < x.a
      · rw [if_neg (fun h => h.2 hlt), if_pos hlt]
      · rw [if_pos ⟨htb, hlt⟩, if_neg hlt]
    have hB : aD x o = if o.a < x.a then x.a + ((o.n.length : Int) - o.o.length) else x.a := by
      unfold aD
      by_cases hlt : o.a < x.a
      · rw [if_pos ⟨htb, hlt⟩, if_pos hlt]
      · rw [if_neg (fun h => hlt h.2), if_neg hlt]
    rw [hA, hB]
    funext s
    rw [eff_edita k1, eff_edita k2, eff_edit k2, eff_edit k1]
    simp only [hp]
    by_cases e : s = o.p
    · simp only [if_pos e, Option.map_map]
      congr 1
      funext l
      simp only [Function.comp]
      cases l with
      | none => rfl
      | some L =>
        simp only [Option.bind_some]
        unfold hapB at h
        rw [Bool.or_eq_true, decide_eq_true_eq, decide_eq_true_eq] at h
        rcases h with h | h
        · rw [if_pos (by omega), if_pos (by omega)]
          exact spl_swap h
        · rw [if_neg (by omega), if_neg (by omega)]
          have := spl_swap (L := L) (a := o.a - ((x.n.length : Int) - x.o.length)) (b := x.a) (xo := o.o) (xn := o.n) (oo := x.o) (on := x.n) (by omega)
          rw [show o.a - ((x.n.length : Int) - x.o.length) + ((x.n.length : Int) - x.o.length) = o.a by omega] at this
          exact this.symm
    · simp only [if_neg e]
  · have hA : aE x o = o.a := by unfold aE; rw [if_neg (fun h => ht h.1)]
    have hB : aD x o = x.a := by unfold aD; rw [if_neg (fun h => ht h.1)]
    rw [hA, hB]
    show eff x (eff o f) = eff o (eff x f)
    cases p1 : polB x with
    | true => rw [eff_pol p1, eff_pol p1]
    | false =>
      cases p2 : polB o with
      | true => rw [eff_pol p2, eff_pol p2]
      | false =>
        rw [p1, p2, Bool.false_or, Bool.false_or, if_neg ht, List.all_eq_true] at h
        refine eff_apart (fun s hs ho => ?_) f
        have h2 := h s hs
        rw [List.all_eq_true] at h2
        exact bes_ne (h2 s ho) rfl
theorem ahF_eff : ∀ (n : Nat) (L : List OpD) (o p : OpD) (L' : List OpD), L.length = n → ahF L o = .ok (p, L') → ∀ f, chain (p :: L') f = chain (L ++ [o]) f
  | 0, L, o, p, L', hn, h, f => by
    obtain rfl : L = [] := List.eq_nil_of_length_eq_zero hn
    rw [ahF_nil] at h
    injection h with h
    injection h with h1 h2
    subst h1 h2
    rfl
  | n + 1, L, o, p, L', hn, h, f => by
    obtain ⟨M, x, rfl⟩ : ∃ M x, L = M ++ [x] := by
      have hne : L ≠ [] := by intro h; rw [h] at hn; simp at hn
      exact ⟨L.dropLast, L.getLast hne, (List.dropLast_concat_getLast hne).symm⟩
    have hM : M.length = n := by simp at hn; exact hn
    rw [ahF_snoc] at h
    by_cases hb : apB x o = true
    · rw [if_pos hb] at h
      cases hq : ahF M { o with a := aE x o } with
      | error e => rw [hq] at h; cases h
      | ok r =>
        obtain ⟨q, ys⟩ := r
        rw [hq] at h
        simp only at h
        injection h with h
        injection h with h1 h2
        subst h1 h2
        have ih := ahF_eff n M { o with a := aE x o } q ys hM hq f
        rw [← List.cons_append, chain_append, ih, chain_append, chain_append, chain_append]
        exact eff_swap hb (chain M f)
    · rw [if_neg hb] at h; cases h
theorem rowsF_eff : ∀ (os : List OpD) (k : Nat) (T P T2 : List OpD), rowsF k os T = .ok (P, T2) → ∀ f, chain (P ++ T2) f = chain (T ++ os) f
  | [], k, T, P, T2, h, f => by
    rw [rowsF] at h
    injection h with h
    injection h with h1 h2
    subst h1 h2
    rw [List.nil_append, List.append_nil]
  | o :: os, k, T, P, T2, h, f => by
    rw [rowsF] at h
    cases hq : ahF T o with
    | error e => rw [hq] at h; cases h
    | ok r =>
      obtain ⟨p, T'⟩ := r
      rw [hq] at h
      simp only at h
      cases hr : rowsF (k + 1) os T' with
      | error e => rw [hr] at h; cases h
      | ok r =>
        obtain ⟨P', T3⟩ := r
        rw [hr] at h
        simp only at h
        injection h with h
        injection h with h1 h2
        subst h1 h2
        rw [List.cons_append, chain_cons, rowsF_eff os (k + 1) T' P' T3 hr, chain_append, ← chain_cons, ahF_eff _ T o p T' rfl hq, ← chain_append, List.append_assoc]
        rfl
/-- Where both orders can be applied, they make the same files. -/
theorem rows_same {L M N : List FD} {a b P T : List OpD} (hs : SortF L) (h : rowsF 0 b a = .ok (P, T)) (h1 : allF 0 L (a ++ b) = .ok M) (h2 : allF 0 L (P ++ T) = .ok N) : M = N := by
  obtain ⟨s1, e1⟩ := all_eff _ _ _ _ hs h1
  obtain ⟨s2, e2⟩ := all_eff _ _ _ _ hs h2
  exact look_ext M N s1 s2 (fun s => by rw [e1, e2, rowsF_eff b 0 a P T h])

end Go.Proofs.Ytmfngampccpkhaa

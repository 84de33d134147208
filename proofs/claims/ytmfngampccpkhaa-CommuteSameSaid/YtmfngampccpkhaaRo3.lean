
/- Two rows in the other order, as data, and the two rows' state. -/
import Derived.Test.YtmfngampccpkhaaRo7
import Derived.Test.YtmfngampccpkhaaCm6
set_option linter.unusedSimpArgs false
set_option linter.unusedVariables false
namespace Go.Proofs.Ytmfngampccpkhaa
open Go.RowKit Go.Qc Go.Shelf
attribute [local go_sem] txt_size txt_append ib_fold txt_toL

/-- One operation led ahead of a row, whose last one stands first. -/
def ahR : List OpD → OpD → Except Nat (OpD × List OpD)
  | [], o => .ok (o, [])
  | x :: xs, o => if apB x o = true then
      match ahR xs { o with a := aE x o } with
      | .ok (p, ys) => .ok (p, { x with a := aD x o } :: ys)
      | .error i => .error i
    else .error xs.length
/-- One operation led ahead of a row. -/
def ahF (L : List OpD) (o : OpD) : Except Nat (OpD × List OpD) :=
  match ahR L.reverse o with
  | .ok (p, ys) => .ok (p, ys.reverse)
  | .error i => .error i
theorem ahF_nil (o : OpD) : ahF [] o = .ok (o, []) := rfl
theorem ahF_snoc (L : List OpD) (x o : OpD) : ahF (L ++ [x]) o = if apB x o = true then (match ahF L { o with a := aE x o } with
    | .ok (p, ys) => .ok (p, ys ++ [{ x with a := aD x o }])
    | .error i => .error i) else .error L.length := by
  unfold ahF
  rw [List.reverse_append, List.reverse_singleton, List.singleton_append, ahR]
  by_cases h : apB x o = true
  · rw [if_pos h, if_pos h]
    cases ahR L.reverse { o with a := aE x o } with
    | error i => rfl
    | ok r => simp
  · rw [if_neg h, if_neg h, List.length_reverse]
/-- What is known of a row when its last ones are through. -/
def thenF (r : Except Nat (OpD × List OpD)) (Y : List OpD) : Except Nat (OpD × List OpD) :=
  match r with
  | .ok (p, ys) => .ok (p, ys ++ Y)
  | .error i => .error i
theorem thenF_nil (r : Except Nat (OpD × List OpD)) : thenF r [] = r := by
  unfold thenF
  cases r with
  | error i => rfl
  | ok r => simp
theorem ahF_yes {L Y : List OpD} {x o : OpD} (h : apB x o = true) : thenF (ahF (L ++ [x]) o) Y = thenF (ahF L { o with a := aE x o }) ({ x with a := aD x o } :: Y) := by
  rw [ahF_snoc, if_pos h]
  unfold thenF
  cases ahF L { o with a := aE x o } with
  | error i => rfl
  | ok r => simp
theorem ahF_no {L Y : List OpD} {x o : OpD} (h : apB x o = false) : thenF (ahF (L ++ [x]) o) Y = .error L.length := by
  rw [ahF_snoc, if_neg (by rw [h]; decide)]
  rfl
/-- A row led ahead of a row. -/
def rowsF : Nat → List OpD → List OpD → Except (Nat × Nat) (List OpD × List OpD)
  | _, [], T => .ok ([], T)
  | k, o :: os, T => match ahF T o with
    | .error i => .error (i, k)
    | .ok (p, T') => match rowsF (k + 1) os T' with
      | .ok (P, T2) => .ok (p :: P, T2)
      | .error e => .error e
def thenR (P : List OpD) (r : Except (Nat × Nat) (List OpD × List OpD)) : Except (Nat × Nat) (List OpD × List OpD) :=
  match r with
  | .ok (Q, T) => .ok (P ++ Q, T)
  | .error e => .error e
theorem thenR_nil (r : Except (Nat × Nat) (List OpD × List OpD)) : thenR [] r = r := by
  unfold thenR
  cases r <;> rfl
theorem rowsF_yes {k : Nat} {o p : OpD} {P os T T' : List OpD} (h : ahF T o = .ok (p, T')) : thenR P (rowsF k (o :: os) T) = thenR (P ++ [p]) (rowsF (k + 1) os T') := by
  rw [rowsF, h]
  unfold thenR
  simp only
  cases rowsF (k + 1) os T' with
  | error i => rfl
  | ok r => simp
theorem rowsF_no {k i : Nat} {o : OpD} {P os T : List OpD} (h : ahF T o = .error i) : thenR P (rowsF k (o :: os) T) = .error (i, k) := by
  rw [rowsF, h]
  rfl

theorem yields_opr {ops : Array Oper} {S : World → Prop} {o : Oper} {a : Act} (hw : Region.wanted o (yielded ops a.tmps) = true) (x : Operand) (ho : o.op = .load 42 x) (g q : Nat) (hx : a.eval x = .pointer (some ⟨g, q, none⟩)) {D : OpD} {A : Option Addr} {n c : Nat} {B : Option Addr} {m d : Nat} (hX : ∀ w', S w' → w'.rangeAt g q (opC D A n c B m d).toList) (hK : D.K.length = 32) : YieldsIf Try.prog ops S o (.agg (opC D A n c B m d)) a := by
  have h := yieldsIf_load_mid (P := Try.prog) (S := S) hw 42 x ho g q hx (opC D A n c B m d).toList _ hX Try.underlying42 rfl (by rw [infoOp, Array.length_toList, opC_size _ _ _ _ _ _ _ hK])
  rw [Array.toArray_toList] at h
  exact h
/-- The two rows while they are led past one another; the pair's box. -/
structure SwS (w W : World) (gF gT : Nat) (AF AT : Option Addr) (Fs Ts : List OpV) (pr : Array Value) : Prop where
  f : RowG W (w.heap.size + 1) gF AF Fs
  t : RowG W (w.heap.size + 1) gT AT Ts
  fo : ∀ X ∈ Fs, OpOw W w.heap.size X
  tO : ∀ X ∈ Ts, OpOw W w.heap.size X
  ne : Fs = [] ∨ Ts = [] ∨ gF ≠ gT
  pr : Blk W w.heap.size 47 pr
  bel : Below w.heap.size w W
theorem SwS.below {w W W' : World} {gF gT : Nat} {AF AT : Option Addr} {Fs Ts : List OpV} {pr : Array Value} (h : SwS w W gF gT AF AT Fs Ts pr) (hb : Below W.heap.size W W') : SwS w W' gF gT AF AT Fs Ts pr :=
  ⟨h.f.below hb, h.t.below hb, fun X hX => (h.fo X hX).below hb, fun X hX => (h.tO X hX).below hb, h.ne, h.pr.below hb, h.bel.trans (hb.mono h.bel.size)⟩
/-- A box of an operation is written: the rows stay. -/
theorem SwS.box {w W W' : World} {gF gT g : Nat} {AF AT : Option Addr} {Fs Ts : List OpV} {pr cs : Array Value} (h : SwS w W gF gT AF AT Fs Ts pr) (hc : Blk W g 42 cs) (hg : W.grownBy W' (some g)) (hw : w.heap.size < g) (h1 : gF ≠ g) (h2 : gT ≠ g) : SwS w W' gF gT AF AT Fs Ts pr :=
  ⟨h.f.far hg h1, h.t.far hg h2, fun X hX => (h.fo X hX).kept hc hg, fun X hX => (h.tO X hX).kept hc hg, h.ne, blk_gb h.pr hg (by omega), h.bel.trans (below_of_gb hg (by omega) h.bel.size)⟩
/-- An element of the first row is written. -/
theorem SwS.putF {w W W' : World} {gF gT : Nat} {AF AT : Option Addr} {L1 L2 Ts : List OpV} {X Y : OpV} {pr cs : Array Value} (h : SwS w W gF gT AF AT (L1 ++ X :: L2) Ts pr) (hne : gF ≠ gT) (hc : Blk W gF 42 cs) (hg : W.grownBy W' (some gF)) (hw : w.heap.size < gF)
    (hY : OpOw W w.heap.size Y) (hf : RowG W' (w.heap.size + 1) gF AF (L1 ++ Y :: L2)) : SwS w W' gF gT AF AT (L1 ++ Y :: L2) Ts pr :=
  ⟨hf, h.t.far hg (Ne.symm hne), fun Z hZ => by
    rcases List.mem_append.1 hZ with hZ | hZ
    · exact (h.fo Z (by simp [hZ])).kept hc hg
    · rcases List.mem_cons.1 hZ with rfl | hZ
      · exact hY.kept hc hg
      · exact (h.fo Z (by simp [hZ])).kept hc hg, fun X hX => (h.tO X hX).kept hc hg, .inr (.inr hne), blk_gb h.pr hg (by omega), h.bel.trans (below_of_gb hg (by omega) h.bel.size)⟩
theorem SwS.putT {w W W' : World} {gF gT : Nat} {AF AT : Option Addr} {L1 L2 Fs : List OpV} {X Y : OpV} {pr cs : Array Value} (h : SwS w W gF gT AF AT Fs (L1 ++ X :: L2) pr) (hne : gF ≠ gT) (hc : Blk W gT 42 cs) (hg : W.grownBy W' (some gT)) (hw : w.heap.size < gT)
    (hY : OpOw W w.heap.size Y) (hf : RowG W' (w.heap.size + 1) gT AT (L1 ++ Y :: L2)) : SwS w W' gF gT AF AT Fs (L1 ++ Y :: L2) pr :=
  ⟨h.f.far hg hne, hf, fun X hX => (h.fo X hX).kept hc hg, fun Z hZ => by
    rcases List.mem_append.1 hZ with hZ | hZ
    · exact (h.tO Z (by simp [hZ])).kept hc hg
    · rcases List.mem_cons.1 hZ with rfl | hZ
      · exact hY.kept hc hg
      · exact (h.tO Z (by simp [hZ])).kept hc hg, .inr (.inr hne), blk_gb h.pr hg (by omega), h.bel.trans (below_of_gb hg (by omega) h.bel.size)⟩
/-- What a Swap leaves: two operations with rows of their own, if they are apart. -/
def SwP (W : World) (base : Nat) (X Y Y1 Y2 : OpV) (b : Bool) : Prop :=
  Y1.D.K.length = 32 ∧ Y2.D.K.length = 32 ∧ (b = true → Y1.D = { Y.D with a := aE X.D Y.D } ∧ Y2.D = { X.D with a := aD X.D Y.D } ∧ OpOw W base Y1 ∧ OpOw W base Y2)
theorem SwP.below {W W' : World} {base : Nat} {X Y Y1 Y2 : OpV} {b : Bool} (h : SwP W base X Y Y1 Y2 b) (hb : Below W.heap.size W W') : SwP W' base X Y Y1 Y2 b :=
  ⟨h.1, h.2.1, fun e => ⟨(h.2.2 e).1, (h.2.2 e).2.1, (h.2.2 e).2.2.1.below hb, (h.2.2 e).2.2.2.below hb⟩⟩
theorem SwP.kept {W W' : World} {base g : Nat} {cs : Array Value} {X Y Y1 Y2 : OpV} {b : Bool} (h : SwP W base X Y Y1 Y2 b) (hc : Blk W g 42 cs) (hg : W.grownBy W' (some g)) : SwP W' base X Y Y1 Y2 b :=
  ⟨h.1, h.2.1, fun e => ⟨(h.2.2 e).1, (h.2.2 e).2.1, (h.2.2 e).2.2.1.kept hc hg, (h.2.2 e).2.2.2.kept hc hg⟩⟩
theorem cswap_row (X Y : OpV) (base : Nat) (w : World) (hX : OpR w X.D X.A X.n X.B X.m) (hY : OpR w Y.D Y.A Y.n Y.B Y.m) (hb : base ≤ w.heap.size) :
    Calls Try.prog 29 #[.agg (opC X.D X.A X.n X.c X.B X.m X.d), .agg (opC Y.D Y.A Y.n Y.c Y.B Y.m Y.d)] w fun e w' => ∃ Y1 Y2 : OpV, e = .returned (.tuple #[.agg (opC Y1.D Y1.A Y1.n Y1.c Y1.B Y1.m Y1.d), .agg (opC Y2.D Y2.A Y2.n Y2.c Y2.B Y2.m Y2.d), .bool (apB X.D Y.D)]) ∧ SwP w' base X Y Y1 Y2 (apB X.D Y.D) ∧ Below w.heap.size w w' := by
  refine (cswap_any X.D X.A X.n X.c X.B X.m X.d Y.D Y.A Y.n Y.c Y.B Y.m Y.d w hX hY).mono (fun e w' h => ?_)
  rcases h with ⟨h, A5, c5, B5, d5, A6, c6, B6, d6, rfl, o1, o2, o3, o4, hw⟩ | ⟨h, rfl, hw⟩
  · rw [h]
    refine ⟨⟨{ Y.D with a := aE X.D Y.D }, A5, Y.n, c5, B5, Y.m, d5⟩, ⟨{ X.D with a := aD X.D Y.D }, A6, X.n, c6, B6, X.m, d6⟩, rfl, ⟨hY.hK, hX.hK, fun _ => ⟨rfl, rfl, ?_, ?_⟩⟩, hw⟩
    · exact ⟨hY.bn, hY.bo, hY.bm, hY.bx, own_le o1 hb, own_le o2 hb, hY.hK, hY.bp, hY.bt⟩
    · exact ⟨hX.bn, hX.bo, hX.bm, hX.bx, own_le o3 hb, own_le o4 hb, hX.hK, hX.bp, hX.bt⟩
  · rw [h]
    exact ⟨⟨opZ, none, 0, 0, none, 0, 0⟩, ⟨opZ, none, 0, 0, none, 0, 0⟩, rfl, ⟨rfl, rfl, fun e => by cases e⟩, hw⟩
theorem SwS.rT {w W : World} {gF gT k : Nat} {AF AT : Option Addr} {Fs L1 L2 : List OpV} {X : OpV} {pr : Array Value} (h : SwS w W gF gT AF AT Fs (L1 ++ X :: L2) pr) (hk : L1.length = k) :
    AT = some ⟨gT, 0, none⟩ ∧ w.heap.size < gT ∧ gT < W.heap.size ∧ W.rangeAt gT (k * 39) (opC X.D X.A X.n X.c X.B X.m X.d).toList ∧ ∃ cs, Blk W gT 42 cs ∧ k * 39 + 39 ≤ cs.size ∧
      ∀ (Y : OpV) (W' : World), Y.D.K.length = 32 → Blk W' gT 42 (over cs (k * 39) (opC Y.D Y.A Y.n Y.c Y.B Y.m Y.d).toList) → RowG W' (w.heap.size + 1) gT AT (L1 ++ Y :: L2) := by
  obtain ⟨h1, h2, h3, cs, h4, h5, h6⟩ := h.t.mid (fun Y hY => (h.tO Y (by simp [hY])).hK) (h.tO X (by simp)).hK
  rw [hk] at h3 h5 h6
  exact ⟨h1, h2, h4.lt, h3, cs, h4, h5, h6⟩
theorem SwS.rF {w W : World} {gF gT k : Nat} {AF AT : Option Addr} {Ts L1 L2 : List OpV} {X : OpV} {pr : Array Value} (h : SwS w W gF gT AF AT (L1 ++ X :: L2) Ts pr) (hk : L1.length = k) :
    AF = some ⟨gF, 0, none⟩ ∧ w.heap.size < gF ∧ gF < W.heap.size ∧ W.rangeAt gF (k * 39) (opC X.D X.A X.n X.c X.B X.m X.d).toList ∧ ∃ cs, Blk W gF 42 cs ∧ k * 39 + 39 ≤ cs.size ∧
      ∀ (Y : OpV) (W' : World), Y.D.K.length = 32 → Blk W' gF 42 (over cs (k * 39) (opC Y.D Y.A Y.n Y.c Y.B Y.m Y.d).toList) → RowG W' (w.heap.size + 1) gF AF (L1 ++ Y :: L2) := by
  obtain ⟨h1, h2, h3, cs, h4, h5, h6⟩ := h.f.mid (fun Y hY => (h.fo Y (by simp [hY])).hK) (h.fo X (by simp)).hK
  rw [hk] at h3 h5 h6
  exact ⟨h1, h2, h4.lt, h3, cs, h4, h5, h6⟩
theorem SwS.neq {w W : World} {gF gT : Nat} {AF AT : Option Addr} {L1 L2 L3 L4 : List OpV} {X Y : OpV} {pr : Array Value} (h : SwS w W gF gT AF AT (L1 ++ X :: L2) (L3 ++ Y :: L4) pr) : gF ≠ gT := by
  rcases h.ne with h | h | h
  · simp at h
  · simp at h
  · exact h
/-- The pair's box is written. -/
theorem SwS.pair {w W W' : World} {gF gT : Nat} {AF AT : Option Addr} {Fs Ts : List OpV} {pr pr' : Array Value} (h : SwS w W gF gT AF AT Fs Ts pr) (hc : Blk W' w.heap.size 47 pr') (hg : W.grownBy W' (some w.heap.size)) : Below w.heap.size w W' :=
  h.bel.trans (below_of_gb hg (Nat.le_refl _) h.bel.size)
theorem pair_ne_str : (47 : TypeId) ≠ 9 := by decide
theorem OpOw.keptP {W W' : World} {base g : Nat} {cs : Array Value} {X : OpV} (h : OpOw W base X) (hb : Blk W g 47 cs) (hg : W.grownBy W' (some g)) : OpOw W' base X :=
  ⟨h.bn, h.bo, h.bm, h.bx, h.rA.kept hg (.inr (Lib.ownBlock_ne h.rA hb pair_ne_str)), h.rB.kept hg (.inr (Lib.ownBlock_ne h.rB hb pair_ne_str)), h.hK, h.bp, h.bt⟩
theorem SwS.fin {w W W' : World} {gF gT : Nat} {AF AT : Option Addr} {Fs Ts : List OpV} {pr : Array Value} (h : SwS w W gF gT AF AT Fs Ts pr) (hg : W.grownBy W' (some w.heap.size)) :
    RowG W' w.heap.size gF AF Fs ∧ RowG W' w.heap.size gT AT Ts ∧ (∀ X ∈ Fs, OpOw W' w.heap.size X) ∧ (∀ X ∈ Ts, OpOw W' w.heap.size X) ∧ Below w.heap.size w W' :=
  ⟨h.f.imp id fun ⟨a, b, cs, c, d⟩ => ⟨a, by omega, cs, blk_gb c hg (by omega), d⟩, h.t.imp id fun ⟨a, b, cs, c, d⟩ => ⟨a, by omega, cs, blk_gb c hg (by omega), d⟩, fun X hX => (h.fo X hX).keptP h.pr hg, fun X hX => (h.tO X hX).keptP h.pr hg, h.bel.trans (below_of_gb hg (Nat.le_refl _) h.bel.size)⟩
theorem infoPair : (Try.prog.info? 47).map (·.size) = some 2 := by kernel_rfl
theorem results_swd {tmps : Array Value} {W : World} {a : Nat} {u v : Value} {b : Bool} {cs : Array Value} (h4 : tmps.getD 4 undef = u) (h5 : tmps.getD 5 undef = v) (h6 : tmps.getD 6 undef = .pointer (some ⟨a, 0, none⟩)) (h7 : tmps.getD 7 undef = .bool b)
    (b4 : Blk W a 47 cs) (s4 : cs.size = 2) : (results Try.f16 tmps).run Try.prog W = .ok (.tuple #[u, v, .agg cs, .bool b]) W := by
  have l4 := run_loadVar_mid (P := Try.prog) W a 0 47 cs.toList _ (fun j u hj => by rw [Nat.zero_add]; exact b4.cell_ (by rw [← Array.getElem?_toList]; exact hj)) Try.underlying47 rfl (by rw [infoPair, Array.length_toList, s4])
  rw [Array.toArray_toList] at l4
  have hf : Try.f16.results = #[.tmp 4, .tmp 5, .cell 6 47, .tmp 7] := by rfl
  rw [Array.getD_eq_getD_getElem?] at h4 h5 h6 h7
  unfold results
  rw [hf]
  simp [Sem.run_bind, h4, h5, h6, h7, asAddr, l4, Result.andThen]

end Go.Proofs.Ytmfngampccpkhaa

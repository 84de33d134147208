/- Rows of operations: read, come in; few. -/
import Derived.Test.YtmfngampccpkhaaCm5
set_option linter.unusedSimpArgs false
set_option linter.unusedVariables false
namespace Go.Proofs.Ytmfngampccpkhaa
open Go.RowKit Go.Qc Go.Shelf
attribute [local go_sem] txt_size txt_append ib_fold txt_toL

/-- An operation with its rows' places. -/
structure OpV where
  D : OpD
  A : Option Addr
  n : Nat
  c : Nat
  B : Option Addr
  m : Nat
  d : Nat
def OpV.cs (X : OpV) : Array Value := opC X.D X.A X.n X.c X.B X.m X.d
theorem OpV.size {X : OpV} (h : X.D.K.length = 32) : X.cs.size = 39 := opC_size _ _ _ _ _ _ _ h
def opsV (Xs : List OpV) : List Value := Xs.flatMap (fun X => X.cs.toList)
theorem opsV_cons (X : OpV) (Xs : List OpV) : opsV (X :: Xs) = X.cs.toList ++ opsV Xs := by simp [opsV]
theorem opsV_append (Xs Ys : List OpV) : opsV (Xs ++ Ys) = opsV Xs ++ opsV Ys := by simp [opsV]
theorem opsV_snoc (Xs : List OpV) (X : OpV) : opsV (Xs ++ [X]) = opsV Xs ++ X.cs.toList := by simp [opsV]
theorem opsV_length : ∀ (Xs : List OpV), (∀ X ∈ Xs, X.D.K.length = 32) → (opsV Xs).length = Xs.length * 39
  | [], _ => rfl
  | X :: Xs, h => by
    rw [opsV_cons, List.length_append, Array.length_toList, OpV.size (h X (by simp)), opsV_length Xs (fun x hx => h x (by simp [hx])), List.length_cons]
    omega
theorem opsV_get : ∀ (Xs : List OpV) (k : Nat) (X : OpV) (j : Nat) (v : Value), (∀ X ∈ Xs, X.D.K.length = 32) → Xs[k]? = some X → X.cs.toList[j]? = some v → (opsV Xs)[k * 39 + j]? = some v
  | [], k, X, j, v, _, hk, _ => by simp at hk
  | Y :: Xs, 0, X, j, v, h, hk, hj => by
    simp at hk
    subst hk
    have hlt := (List.getElem?_eq_some_iff.1 hj).1
    rw [opsV_cons, Nat.zero_mul, Nat.zero_add, List.getElem?_append_left hlt]
    exact hj
  | Y :: Xs, k + 1, X, j, v, h, hk, hj => by
    have hb := OpV.size (h Y (by simp))
    rw [List.getElem?_cons_succ] at hk
    rw [opsV_cons, List.getElem?_append_right (by rw [Array.length_toList, hb]; omega), Array.length_toList, hb, show (k + 1) * 39 + j - 39 = k * 39 + j by omega]
    exact opsV_get Xs k X j v (fun x hx => h x (by simp [hx])) hk hj
/-- A row of operations lies at A. -/
def OpRd (w : World) (A : Option Addr) (Xs : List OpV) : Prop := (∀ X ∈ Xs, X.D.K.length = 32) ∧ (Xs = [] ∨ ∃ g o, A = some ⟨g, o, none⟩ ∧ w.rangeAt g o (opsV Xs))
theorem OpRd.nil_ (w : World) (A : Option Addr) : OpRd w A [] := ⟨by simp, .inl rfl⟩
theorem OpRd.below {w w' : World} {A : Option Addr} {Xs : List OpV} (h : OpRd w A Xs) (hb : Below w.heap.size w w') : OpRd w' A Xs :=
  ⟨h.1, h.2.elim .inl fun ⟨g, o, e, hr⟩ => .inr ⟨g, o, e, hr.below hb⟩⟩
theorem infoOp3 : ∃ i, Try.prog.info? 42 = some i ∧ i.size = 39 := by
  have h := infoOp
  cases hq : Try.prog.info? 42 with
  | none => rw [hq] at h; cases h
  | some i => rw [hq] at h; simp at h; exact ⟨i, rfl, h⟩
theorem OpRd.pick {w : World} {A : Option Addr} {Xs : List OpV} {n : Nat} (c : Nat) (h : OpRd w A Xs) (hn : Xs.length = n) {k : Nat} {X : OpV} (hk : Xs[k]? = some X) :
    ∃ g q, w.rangeAt g q X.cs.toList ∧ X.D.K.length = 32 ∧ ∀ W : World, (Instr.indexAt 22 (.slice A n c) (.int .i64 (k : Int))).run Try.prog W = .ok (.pointer (some ⟨g, q, none⟩)) W := by
  obtain ⟨h1, rfl | ⟨g, o, rfl, h2⟩⟩ := h
  · simp at hk
  · refine ⟨g, o + k * 39, fun j v hj => by rw [Nat.add_assoc]; exact h2 _ _ (opsV_get Xs k X j v h1 hk hj), h1 X (List.mem_of_getElem? hk), fun W => ?_⟩
    obtain ⟨i0, hi, h39⟩ := infoOp3
    have hlt : k < n := by rw [← hn]; exact (List.getElem?_eq_some_iff.1 hk).1
    have h1 : (0 : Int) ≤ (k : Int) ∧ (k : Int) < (n : Int) := by omega
    simp [Instr.indexAt, run_underlying Try.underlying22, asIntOf, h1, sizeOf, typeInfo, hi, h39, Addr.add_lit, Int.toNat_natCast]
    intro h2; omega
/-- An operation's rows, where they lie. -/
def OpIn (w : World) (X : OpV) : Prop := X.D.K.length = 32 ∧ LnO w X.A X.n X.D.o ∧ LnO w X.B X.m X.D.n ∧ X.D.p.length ≤ 9223372036854775807 ∧ X.D.t.length ≤ 9223372036854775807
theorem LnO.below {w w' : World} {A : Option Addr} {n : Nat} {l : List (List UInt8)} (h : LnO w A n l) (hb : Below w.heap.size w w') : LnO w' A n l := ⟨h.1, h.2.1, h.2.2.below hb⟩
theorem OpIn.below {w w' : World} {X : OpV} (h : OpIn w X) (hb : Below w.heap.size w w') : OpIn w' X := ⟨h.1, h.2.1.below hb, h.2.2.1.below hb, h.2.2.2.1, h.2.2.2.2⟩
/-- A row of operations that came in. -/
def OpRow (w : World) (A : Option Addr) (len : Nat) (Xs : List OpV) : Prop := Xs.length = len ∧ len ≤ maxLen ∧ OpRd w A Xs ∧ ∀ X ∈ Xs, OpIn w X
theorem all_ops {w : World} {g o : Nat} : ∀ (n : Nat), (∀ i, i < n → ∃ X : OpV, OpIn w X ∧ w.rangeAt g (o + i * 39) X.cs.toList) → ∃ Xs : List OpV, Xs.length = n ∧ (∀ X ∈ Xs, OpIn w X) ∧ w.rangeAt g o (opsV Xs)
  | 0, _ => ⟨[], rfl, by simp, fun j v h => by simp [opsV] at h⟩
  | n + 1, h => by
    obtain ⟨Xs, h1, h2, h3⟩ := all_ops n (fun i hi => h i (by omega))
    obtain ⟨X, hX, hr⟩ := h n (by omega)
    refine ⟨Xs ++ [X], by simp [h1], fun Y hY => ?_, fun j v hj => ?_⟩
    · rcases List.mem_append.1 hY with hY | hY
      · exact h2 Y hY
      · simp at hY; rw [hY]; exact hX
    · rw [opsV_snoc] at hj
      by_cases hlt : j < (opsV Xs).length
      · rw [List.getElem?_append_left hlt] at hj
        exact h3 j v hj
      · rw [List.getElem?_append_right (by omega)] at hj
        rw [opsV_length Xs (fun X hX => (h2 X hX).1), h1] at hj hlt
        have := hr _ _ hj
        rwa [show o + n * 39 + (j - n * 39) = o + j by omega] at this
section
open Go.ChangeShapes Go.WideShapes Go.ChangeAt
variable {H : Type} {enc : TypeId × Value → H} {w : World} {r : Reach} {base b0 : Nat} {sp : Nat → Bool} {hd : Bool}
set_option maxRecDepth 100000 in
theorem open_opRow {v : Value} {d : DataW H} {ps : List MemPlace} (hv : Value.okWide Try.prog w r b0 22 v) (h : DataW.Trod enc Try.prog w base sp hd 22 v d ps) : ∃ a len cap Xs, v = .slice a len cap ∧ OpRow w a len Xs := by
  have ht := Try.underlying22
  have hn : Try.prog.cellsOf 42 = 39 := by kernel_rfl
  obtain ⟨a0, len0, cap0, rfl⟩ := okWide_slice ht hv
  obtain ⟨fuel, hf⟩ := h
  cases fuel with
  | zero => simp [DataW.trod] at hf
  | succ m =>
    rw [DataW.trod_step] at hf
    unfold DataW.trodStep at hf
    simp only [ht, Value.cells] at hf
    cases a0 with
    | none =>
      rcases len0 with _ | len0
      · exact ⟨none, 0, cap0, [], rfl, rfl, Nat.zero_le _, OpRd.nil_ _ _, by simp⟩
      · simp at hf
    | some a =>
      simp only [hn] at hf
      split at hf
      · rename_i hcond
        simp only [Option.bind_eq_some_iff] at hf
        obtain ⟨ys, hy, _⟩ := hf
        have hy2 := mapM_each _ _ hy
        have hall : ∀ i, i < len0 → ∃ X : OpV, OpIn w X ∧ ∀ j v, X.cs.toList[j]? = some v → w.cell? ((a.add (i * 39)).add j) = some v := fun i hi => by
          obtain ⟨y, hy⟩ := hy2 i (List.mem_range.2 (by omega))
          simp only [Option.bind_eq_some_iff] at hy
          obtain ⟨cs, hcs, htr⟩ := hy
          obtain ⟨D, A, n, c, B, m, d, rfl, q1, q2, q3, q4, q5⟩ := trod_op htr
          refine ⟨⟨D, A, n, c, B, m, d⟩, ⟨q1, q2, q3, q4, q5⟩, fun j v hj => ?_⟩
          have hj39 : j < 39 := by have := (List.getElem?_eq_some_iff.1 hj).1; rw [Array.length_toList, OpV.size q1] at this; exact this
          exact ((World.cells?_some hcs).2.2 j hj39).trans hj
        by_cases h0 : len0 = 0
        · subst h0
          exact ⟨_, _, _, [], rfl, rfl, Nat.zero_le _, OpRd.nil_ _ _, by simp⟩
        · have hsp : a.spot = none := by
            obtain ⟨X, hX, hr⟩ := hall 0 (by omega)
            obtain ⟨v, hv⟩ : ∃ v, X.cs.toList[0]? = some v := ⟨_, List.getElem?_eq_getElem (by rw [Array.length_toList, OpV.size hX.1]; omega)⟩
            have := hr 0 v hv
            cases hs : a.spot with
            | none => rfl
            | some s => simp [Addr.add, World.cell?, hs] at this; split at this <;> simp_all
          obtain ⟨g, o, sp⟩ := a
          obtain rfl : sp = none := hsp
          obtain ⟨Xs, h1, h2, h3⟩ := all_ops (w := w) (g := g) (o := o) len0 (fun i hi => by
            obtain ⟨X, hX, hr⟩ := hall i hi
            refine ⟨X, hX, fun j v hj => ?_⟩
            have := hr j v hj
            rwa [Addr.add_lit, Addr.add_lit] at this)
          exact ⟨_, _, _, Xs, rfl, h1, by omega, ⟨fun X hX => (h2 X hX).1, .inr ⟨g, o, rfl, h3⟩⟩, h2⟩
      · cases hf
end
/-- A row's value. -/
structure RowV where
  A : Option Addr
  n : Nat
  c : Nat
  Xs : List OpV
def RowV.val (R : RowV) : Value := .slice R.A R.n R.c
/-- Rows that may be asked about. -/
def fewB (Rs : List RowV) : Bool := Rs.all fun R => decide (R.n ≤ 12) && R.Xs.all fun X => !lngO X.D
set_option maxRecDepth 100000 in
set_option maxHeartbeats 16000000 in
theorem fewr_any (ad : Addr) (N : Nat) (Rs : List RowV) (hN : Rs.length = N) (bN : N ≤ 1000) (w : World) (hr : Rd w (some ad) (Rs.map RowV.val)) (hR : ∀ R ∈ Rs, OpRow w R.A R.n R.Xs) :
    Calls Try.prog 5 #[.slice (some ad) N N] w fun e w' => e = .returned (.bool (fewB Rs)) ∧ Below w.heap.size w w' := by
  go_enter Try.func5, Try.ntmps5
  go_wp2
  go_loopw [9] (fun i wr => ∃ k : Nat, k ≤ N ∧ i = .int .i64 k ∧ fewB (Rs.take k) = true ∧ Below w.heap.size w wr) (fun i _ => N - (intOf i).toNat)
  case atStart => exact ⟨0, by omega, rfl, by simp [fewB], Below.refl _ _⟩
  case round =>
    obtain ⟨k, hk, rfl, ht, hb⟩ := hrel
    have HT := hid ht
    clear ht
    by_cases hlt : k < N
    · obtain ⟨R, hRk⟩ : ∃ R, Rs[k]? = some R := ⟨_, List.getElem?_eq_getElem (by omega)⟩
      obtain ⟨ad', e', hcell⟩ := rd_in (hr.below hb) k R.val (by rw [List.getElem?_map, hRk]; rfl)
      cases e'
      unfold RowV.val at hcell
      have hrow := hR R (List.mem_of_getElem? hRk)
      have HP := hid hRk
      have b1 : (k : Int) < N := by omega
      obtain ⟨A, n, c, Xs⟩ := R
      obtain ⟨hn, bn, hrd, hin⟩ := hrow
      have HN := hid hn
      have HIN := hid hin
      have bn9 : n ≤ 9223372036854775807 := Nat.le_trans bn (by decide)
      clear hRk bn hn hin
      by_cases h12 : n ≤ 12
      · have b2 : ¬ (12 : Int) < n := by omega
        go_wp2_with (fail)
        go_loopw [18] (fun i wr => ∃ j : Nat, j ≤ n ∧ i = .int .i64 j ∧ ((Xs.take j).all fun X => !lngO X.D) = true ∧ Below w.heap.size w wr) (fun i _ => n - (intOf i).toNat)
        case atStart => exact ⟨0, by omega, rfl, by simp, hb⟩
        case round =>
          clear hb hcell
          obtain ⟨j, hj, rfl, ht, hb⟩ := hrel
          have HT2 := hid ht
          clear ht
          by_cases hlt2 : j < n
          · obtain ⟨X, hXk⟩ : ∃ X, Xs[j]? = some X := ⟨_, List.getElem?_eq_getElem (by have := HN.out; omega)⟩
            obtain ⟨g, q, hg, hK, hix⟩ := hrd.pick c HN.out hXk
            obtain ⟨_, q1, q2, q3, q4⟩ := HIN.out X (List.mem_of_getElem? hXk)
            have fX := hg.below hb
            unfold OpV.cs at fX
            have HX := hid hXk
            have c1 : (j : Int) < n := by omega
            have cL := fun (W : World) (h : Below w.heap.size w W) => rlong13_any X.D hK X.A X.n X.c q1.1 q1.2.1 X.B X.m X.d q2.1 q2.2.1 q3 q4 W (q1.2.2.below h) (q2.2.2.below h)
            have hz1 := fun (W : World) => OpX.new W X.D X.A X.n X.c X.B X.m X.d
            clear hXk hg q1 q2 q3 q4
            cases hl : lngO X.D with
            | true =>
              rw [hl] at cL
              have HL := hid hl
              clear hl
              go_wp2_with (first
                | (with_reducible refine wpList_load_opr (by with_unfolding_all rfl) _ rfl _ _ rfl fX hK ?_)
                | ((with_reducible refine wpList_store_opn rfl _ _ rfl rfl rfl hK (by with_unfolding_all rfl) ?_); have hb3 := hb.alloc hb.size (.cells (opC X.D X.A X.n X.c X.B X.m X.d) 42))
                | (with_reducible refine wpList_load_opx (by with_unfolding_all rfl) _ rfl _ rfl (hz1 _) hK ?_)
                | (go_at_call 13; (with_reducible refine (cL _ hb3).mono ?_); rintro o4 w4 ⟨rfl, hb4⟩; have hb5 := hb3.trans (hb4.mono hb3.size)))
              go_ret
              refine ⟨congrArg (fun b => Ending.returned (Value.bool b)) (Eq.symm ?_), hb5⟩
              unfold fewB
              rw [List.all_eq_false]
              refine ⟨_, List.mem_of_getElem? HP.out, ?_⟩
              rw [Bool.not_eq_true, Bool.and_eq_false_iff]
              right
              rw [List.all_eq_false]
              exact ⟨X, List.mem_of_getElem? HX.out, by rw [HL.out]; decide⟩
            | false =>
              rw [hl] at cL
              have HL := hid hl
              clear hl
              go_wp2_with (first
                | (with_reducible refine wpList_load_opr (by with_unfolding_all rfl) _ rfl _ _ rfl fX hK ?_)
                | ((with_reducible refine wpList_store_opn rfl _ _ rfl rfl rfl hK (by with_unfolding_all rfl) ?_); have hb3 := hb.alloc hb.size (.cells (opC X.D X.A X.n X.c X.B X.m X.d) 42))
                | (with_reducible refine wpList_load_opx (by with_unfolding_all rfl) _ rfl _ rfl (hz1 _) hK ?_)
                | (go_at_call 13; (with_reducible refine (cL _ hb3).mono ?_); rintro o4 w4 ⟨rfl, hb4⟩; have hb5 := hb3.trans (hb4.mono hb3.size)))
              go_roundw
              case rel => exact ⟨j + 1, hlt2, by go_num, by rw [take_snoc HX.out, List.all_append, HT2.out]; simp [HL.out], hb5⟩
              case measure => simp [intOf]; omega
          · obtain rfl : j = n := by omega
            have c1 : ¬ (j : Int) < j := by omega
            have ht := HT2.out
            rw [List.take_of_length_le (by have := HN.out; omega)] at ht
            have HU := hid ht
            clear ht HT2
            go_wp2
            go_roundw
            case rel =>
              refine ⟨k + 1, hlt, by go_num, ?_, hb⟩
              have h1 := HT.out
              unfold fewB at h1 ⊢
              rw [take_snoc HP.out, List.all_append, h1]
              simp only [List.all_cons, List.all_nil, HU.out, decide_eq_true h12, Bool.and_self]
            case measure => simp [intOf]; omega
      · have b2 : (12 : Int) < n := by omega
        go_wp2
        go_ret
        refine ⟨congrArg (fun b => Ending.returned (Value.bool b)) (Eq.symm ?_), hb⟩
        unfold fewB
        rw [List.all_eq_false]
        refine ⟨_, List.mem_of_getElem? HP.out, ?_⟩
        rw [Bool.not_eq_true, Bool.and_eq_false_iff]
        left
        exact decide_eq_false h12
    · obtain rfl : k = N := by omega
      have b1 : ¬ (k : Int) < k := by omega
      have ht := HT.out
      rw [List.take_of_length_le (by omega)] at ht
      have HU := hid ht
      clear ht HT
      go_wp2
      go_ret
      exact ⟨congrArg (fun b => Ending.returned (Value.bool b)) HU.out.symm, hb⟩

end Go.Proofs.Ytmfngampccpkhaa
/- Rows of operations with rows of their own: slices.Clone, commute.cloned. -/
set_option linter.unusedSimpArgs false
set_option linter.unusedVariables false
namespace Go.Proofs.Ytmfngampccpkhaa
open Go.RowKit Go.Qc Go.Shelf
attribute [local go_sem] txt_size txt_append ib_fold txt_toL

theorem ro_store_at {w : World} {o : Oper} {a : Act} {K : Act → World → Prop} {Q : Exit → Act → World → Prop} (x y : Operand) (ho : o.op = .store 42 x y)
    (g off : Nat) (old cs : Array Value) (hg : Blk w g 42 old) (hx : a.eval x = .pointer (some ⟨g, off, none⟩)) (hy : a.eval y = .agg cs) (hi : (Try.prog.info? 42).map (·.size) = some cs.size) (hs : off + cs.size ≤ old.size) (h1 : cs.all (·.oneCell') = true)
    (h : ∀ w', Blk w' g 42 (over old off cs.toList) → w.grownBy w' (some g) → K (a.put o.dst undef) w') : o.wp Try.prog a w K Q := by
  have hone : ∀ v ∈ cs.toList, v.oneCell' = true := fun v hv => (Array.all_eq_true_iff_forall_mem.1 h1) v (by simpa using hv)
  have hcells : (Value.agg cs).cells = cs := rfl
  have hst := run_storeCells_at Try.prog g off 42 cs.toList 0 old w hg (by simpa using hs) hone
  simp only [Nat.add_zero] at hst
  have hr : (Instr.storeAt 42 (.pointer (some ⟨g, off, none⟩)) (.agg cs)).run Try.prog w = .ok () (w.setRow g (over old off cs.toList)) := by
    cases hq : Try.prog.info? 42 with
    | none => simp [hq] at hi
    | some i =>
      have hsz : i.size = cs.size := by simpa [hq] using hi
      simp [Instr.storeAt, Instr.sureAddr, storeVar, sizeOf, typeInfo, hq, hcells, hsz]
      rw [hst]; simp [over]
  obtain ⟨hb, hgr⟩ := blk_over hg (over old off cs.toList)
  unfold Oper.wp
  simp only [execOp, ho, hx, hy]
  simp only [Sem.run_bind, hr, Result.andThen, Sem.run_pure]
  exact h _ hb hgr
theorem wpList_store_opr {w : World} {ops : Array Oper} {rest : List Oper} {o : Oper} {a : Act} {Q : Exit → Act → World → Prop} (hgd : o.guard = none) (x y : Operand) (ho : o.op = .store 42 x y)
    (g q : Nat) {old : Array Value} {D : OpD} {A : Option Addr} {n c : Nat} {B : Option Addr} {m d : Nat} (hg : Blk w g 42 old) (hx : a.eval x = .pointer (some ⟨g, q, none⟩)) (hy : a.eval y = .agg (opC D A n c B m d)) (hK : D.K.length = 32) (hs : q + 39 ≤ old.size)
    (h : ∀ w', Blk w' g 42 (over old q (opC D A n c B m d).toList) → w.grownBy w' (some g) → wpList Try.prog ops Q rest (a.put o.dst undef) w') : wpList Try.prog ops Q (o :: rest) a w :=
  wpList_plain hgd fun K' hK' => ro_store_at x y ho g q old _ hg hx hy (opC_info _ _ _ _ _ _ _ hK) (by rw [opC_size _ _ _ _ _ _ _ hK]; exact hs) (opC_one _ _ _ _ _ _ _) (fun w' hb hgr => hK' _ _ (h w' hb hgr))
theorem index_ops (g n c k : Nat) (hk : k < n) (W : World) : (Instr.indexAt 22 (.slice (some ⟨g, 0, none⟩) n c) (.int .i64 (k : Int))).run Try.prog W = .ok (.pointer (some ⟨g, k * 39, none⟩)) W := by
  obtain ⟨i0, hi, h39⟩ := infoOp3
  have h1 : (0 : Int) ≤ (k : Int) ∧ (k : Int) < (n : Int) := by omega
  simp [Instr.indexAt, run_underlying Try.underlying22, asIntOf, h1, sizeOf, typeInfo, hi, h39, Addr.add_lit, Int.toNat_natCast]
  intro h2; omega
theorem infoOp4 : ∃ i Z, Try.prog.info? 42 = some i ∧ i.zero = some (.agg Z) ∧ i.size = 39 ∧ Z.size = 39 ∧ i.bytes ≤ 1000 := by
  obtain ⟨i, Z, h1, h2, h3, h4⟩ := infoOp2_parts
  have h : (Try.prog.info? 42).map (fun i => decide (i.bytes ≤ 1000)) = some true := by kernel_rfl
  rw [h1, Option.map_some] at h
  exact ⟨i, Z, h1, h2, h3, h4, by simpa using h⟩

/-- An operation whose rows are its own. -/
structure OpOw (W : World) (base : Nat) (X : OpV) : Prop where
  bn : X.n ≤ 1000
  bo : ∀ x ∈ X.D.o, x.length ≤ 1000
  bm : X.m ≤ 1000
  bx : ∀ x ∈ X.D.n, x.length ≤ 1000
  rA : W.ownsRow base 9 1 (.slice X.A X.n X.c) X.n (X.D.o.map strV)
  rB : W.ownsRow base 9 1 (.slice X.B X.m X.d) X.m (X.D.n.map strV)
  hK : X.D.K.length = 32
  bp : X.D.p.length ≤ 1000
  bt : X.D.t.length ≤ 1000
theorem OpOw.rd {W : World} {base : Nat} {X : OpV} (h : OpOw W base X) : OpR W X.D X.A X.n X.B X.m :=
  ⟨(own_rd h.rA).1, h.bn, h.bo, (own_rd h.rB).1, h.bm, h.bx, (own_rd h.rA).2, (own_rd h.rB).2, h.hK, h.bp, h.bt⟩
theorem OpOw.below {W W' : World} {base : Nat} {X : OpV} (h : OpOw W base X) (hb : Below W.heap.size W W') : OpOw W' base X :=
  ⟨h.bn, h.bo, h.bm, h.bx, own_below h.rA hb, own_below h.rB hb, h.hK, h.bp, h.bt⟩
theorem OpOw.le {W : World} {base base' : Nat} {X : OpV} (h : OpOw W base X) (hb : base' ≤ base) : OpOw W base' X :=
  ⟨h.bn, h.bo, h.bm, h.bx, own_le h.rA hb, own_le h.rB hb, h.hK, h.bp, h.bt⟩
theorem op_ne_str : (42 : TypeId) ≠ 9 := by decide
theorem OpOw.kept {W W' : World} {base g : Nat} {cs : Array Value} {X : OpV} (h : OpOw W base X) (hb : Blk W g 42 cs) (hg : W.grownBy W' (some g)) : OpOw W' base X :=
  ⟨h.bn, h.bo, h.bm, h.bx, h.rA.kept hg (.inr (Lib.ownBlock_ne h.rA hb op_ne_str)), h.rB.kept hg (.inr (Lib.ownBlock_ne h.rB hb op_ne_str)), h.hK, h.bp, h.bt⟩
/-- A row of operations at a block's head. -/
def RowG (W : World) (base g : Nat) (A : Option Addr) (Xs : List OpV) : Prop :=
  Xs = [] ∨ (A = some ⟨g, 0, none⟩ ∧ base ≤ g ∧ ∃ cs, Blk W g 42 cs ∧ ∀ (j : Nat) (u : Value), (opsV Xs)[j]? = some u → cs[j]? = some u)
theorem RowG.below {W W' : World} {base g : Nat} {A : Option Addr} {Xs : List OpV} (h : RowG W base g A Xs) (hb : Below W.heap.size W W') : RowG W' base g A Xs :=
  h.imp id fun ⟨a, b, cs, c, d⟩ => ⟨a, b, cs, c.below hb, d⟩
theorem RowG.far {W W' : World} {base g g' : Nat} {A : Option Addr} {Xs : List OpV} (h : RowG W base g A Xs) (hg : W.grownBy W' (some g')) (hne : g ≠ g') : RowG W' base g A Xs :=
  h.imp id fun ⟨a, b, cs, c, d⟩ => ⟨a, b, cs, (hg.block g c.lt (by simpa using hne)).trans c, d⟩
theorem RowG.le {W : World} {base base' g : Nat} {A : Option Addr} {Xs : List OpV} (h : RowG W base g A Xs) (hb : base' ≤ base) : RowG W base' g A Xs :=
  h.imp id fun ⟨a, b, c⟩ => ⟨a, Nat.le_trans hb b, c⟩
theorem opsV_mid (L1 L2 : List OpV) (X : OpV) : opsV (L1 ++ X :: L2) = opsV L1 ++ (X.cs.toList ++ opsV L2) := by rw [opsV_append, opsV_cons]
/-- In the midst of a row: the block, the element's range, and what a store there makes. -/
theorem RowG.mid {W : World} {base g : Nat} {A : Option Addr} {L1 L2 : List OpV} {X : OpV} (h : RowG W base g A (L1 ++ X :: L2)) (h1 : ∀ Y ∈ L1, Y.D.K.length = 32) (hX : X.D.K.length = 32) :
    A = some ⟨g, 0, none⟩ ∧ base ≤ g ∧ W.rangeAt g (L1.length * 39) X.cs.toList ∧ ∃ cs, Blk W g 42 cs ∧ L1.length * 39 + 39 ≤ cs.size ∧
      ∀ (Y : OpV) (W' : World), Y.D.K.length = 32 → Blk W' g 42 (over cs (L1.length * 39) Y.cs.toList) → RowG W' base g A (L1 ++ Y :: L2) := by
  rcases h with h | ⟨rfl, hb, cs, hc, hv⟩
  · simp at h
  have l1 := opsV_length L1 h1
  have lX := OpV.size hX
  rw [← Array.length_toList] at lX
  have hx : ∀ (j : Nat) (u : Value), X.cs.toList[j]? = some u → cs[L1.length * 39 + j]? = some u := fun j u hj => hv _ _ (by
    rw [opsV_mid, List.getElem?_append_right (by omega), l1, show L1.length * 39 + j - L1.length * 39 = j by omega, List.getElem?_append_left (List.getElem?_eq_some_iff.1 hj).1]
    exact hj)
  have hsz : L1.length * 39 + 39 ≤ cs.size := by
    obtain ⟨u, hu⟩ : ∃ u, X.cs.toList[38]? = some u := ⟨_, List.getElem?_eq_getElem (by omega)⟩
    have := (Array.getElem?_eq_some_iff.1 (hx _ _ hu)).1
    omega
  refine ⟨rfl, hb, fun j u hj => hc.cell_ (hx j u hj), cs, hc, hsz, fun Y W' hY hc' => .inr ⟨rfl, hb, _, hc', fun j u hj => ?_⟩⟩
  have lY := OpV.size hY
  rw [← Array.length_toList] at lY
  rw [over_get _ _ _ (by rw [lY]; exact hsz)]
  by_cases q1 : j < L1.length * 39
  · rw [if_pos q1]
    refine hv _ _ ?_
    rw [opsV_mid, List.getElem?_append_left (by omega)] at hj ⊢
    exact hj
  · rw [if_neg q1]
    rw [opsV_mid, List.getElem?_append_right (by omega), l1] at hj
    by_cases q2 : j < L1.length * 39 + Y.cs.toList.length
    · rw [if_pos q2]
      rw [List.getElem?_append_left (by omega)] at hj
      exact hj
    · rw [if_neg q2]
      rw [List.getElem?_append_right (by omega)] at hj
      refine hv _ _ ?_
      rw [opsV_mid, List.getElem?_append_right (by omega), l1, List.getElem?_append_right (by omega), lX]
      rw [lY] at hj
      exact hj
theorem opsV_one (Xs : List OpV) : ∀ u ∈ opsV Xs, u.oneCell' = true := by
  intro u hu
  simp only [opsV, List.mem_flatMap] at hu
  obtain ⟨X, _, hu⟩ := hu
  exact (Array.all_eq_true_iff_forall_mem.1 (opC_one X.D X.A X.n X.c X.B X.m X.d)) u (by simpa [OpV.cs] using hu)
set_option maxRecDepth 100000 in
set_option maxHeartbeats 16000000 in
theorem cloneo_any (A : Option Addr) (n c : Nat) (Xs : List OpV) (w : World) (hn : Xs.length = n) (bn : n ≤ 1000) (hr : OpRd w A Xs) :
    Calls Try.prog 48 #[.slice A n c] w fun e w' => ∃ A' c' g, e = .returned (.slice A' n c') ∧ RowG w' w.heap.size g A' Xs ∧ Below w.heap.size w w' := by
  obtain ⟨j0, Z, hj, hjz, hjs, hZ, hjb⟩ := infoOp4
  have hlen := opsV_length Xs hr.1
  rw [hn] at hlen
  have qN : ∀ (W : World) (a : Option Addr) (n c n' c' : Nat), (binOp .eql 22 (.slice a n c) (.slice none n' c')).run Try.prog W = .ok (.bool a.isNone) W := fun W a n c n' c' => Lib.run_eql_slice_nil W _ _ a n c n' c' Try.underlying22
  cases A with
  | none =>
    obtain rfl : Xs = [] := by rcases hr.2 with h | ⟨g, o, h, _⟩; exact h; cases h
    obtain rfl : n = 0 := hn.symm
    go_enter Try.func48, Try.ntmps48
    go_wp2
    go_ret
    exact ⟨_, _, 0, rfl, .inl rfl, Below.refl _ _⟩
  | some ad =>
    have hc : ∀ j u, (opsV Xs)[j]? = some u → w.cell? (ad.add j) = some u := by
      rcases hr.2 with rfl | ⟨g, o, h, hr2⟩
      · intro j u h; simp [opsV] at h
      · cases h
        intro j u hju
        rw [Addr.add_lit]
        exact hr2 j u hju
    have h1 := opsV_one Xs
    have h32 := hr.1
    clear hr hn
    go_enter Try.func48, Try.ntmps48
    go_wp2_with (at_builtin; refine wpList_append_own _ rfl _ _ 22 rfl w.heap.size 42 j0 (.agg Z) 39 j0.bytes Try.underlying22 hj hjz hjs rfl hZ (by decide) _ _ _ rfl (World.ownsRow_made w #[] 0 (Nat.le_refl _) (by decide) rfl) ad n c (opsV Xs) rfl ?l1 ?l6 h1 ?l2 ?l3 ?l4 ?_)
    case l1 => exact hlen
    case l6 => intro j u hju; exact Lib.cell?_alloc_some _ (hc j u hju)
    case l2 => unfold maxLen; omega
    case l3 =>
      rw [Nat.zero_add]
      exact Nat.le_trans (Nat.mul_le_mul bn hjb) (by decide)
    case l4 => simp
    intro v' w1 hown hgrow _
    go_wp2
    go_ret
    have hbel : Below w.heap.size w w1 := ((Below.refl _ w).alloc (Nat.le_refl _) _).grown hgrow (by simp) (by intro k hk; simp [Value.ownBlock] at hk; omega)
    have hown2 : w1.ownsRow w.heap.size 42 39 v' n (opsV Xs) := by simpa using hown
    rcases hown2.2 with ⟨rfl, h0⟩ | ⟨g, cap, cur, rfl, hb, hc1, _, _, hs, ht⟩
    · subst h0
      have : Xs = [] := by
        cases Xs with
        | nil => rfl
        | cons X Xs =>
          have := OpV.size (h32 X (by simp))
          rw [← Array.length_toList] at this
          rw [opsV_cons, List.length_append] at hlen
          omega
      exact ⟨_, _, 0, rfl, .inl this, hbel⟩
    · refine ⟨_, _, g, rfl, .inr ⟨rfl, hb, cur, hc1, fun j u hj => ?_⟩, hbel⟩
      rw [← ht, List.getElem?_take] at hj
      split at hj
      · rwa [Array.getElem?_toList] at hj
      · cases hj
set_option maxRecDepth 100000 in
set_option maxHeartbeats 16000000 in
theorem cloned_any (A : Option Addr) (n c : Nat) (Xs : List OpV) (w : World) (hn : Xs.length = n) (bn : n ≤ 1000) (hr : OpRd w A Xs) (hX : ∀ X ∈ Xs, OpR w X.D X.A X.n X.B X.m) :
    Calls Try.prog 28 #[.slice A n c] w fun e w' => ∃ A' c' g Ys, e = .returned (.slice A' n c') ∧ Ys.map OpV.D = Xs.map OpV.D ∧ RowG w' w.heap.size g A' Ys ∧ (∀ Y ∈ Ys, OpOw w' w.heap.size Y) ∧ Below w.heap.size w w' := by
  have cC := cloneo_any A n c Xs w hn bn hr
  have bn9 : n ≤ 9223372036854775807 := by omega
  have HX := hid hX
  have HN := hid hn
  clear hX hn hr
  go_enter Try.func28, Try.ntmps28
  go_wp2_with (go_at_call 48; (with_reducible refine cC.mono ?_); rintro o1 w1 ⟨A', c', g, rfl, hG, hb⟩)
  clear cC
  go_loopw [9] (fun i wr => ∃ (k : Nat) (Ys : List OpV), k ≤ n ∧ i = .int .i64 k ∧ Ys.map OpV.D = (Xs.take k).map OpV.D ∧ RowG wr w.heap.size g A' (Ys ++ Xs.drop k) ∧ (∀ Y ∈ Ys, OpOw wr w.heap.size Y) ∧ Below w.heap.size w wr) (fun i _ => n - (intOf i).toNat)
  case atStart => exact ⟨0, [], by omega, rfl, rfl, by simpa using hG, by simp, hb⟩
  case round =>
    clear hG hb
    obtain ⟨k, Ys, hk, rfl, hD, hG, hO, hb⟩ := hrel
    have hYl : Ys.length = k := by
      have := congrArg List.length hD
      rw [List.length_map, List.length_map, List.length_take, HN.out] at this
      omega
    by_cases hlt : k < n
    · obtain ⟨X, hXk⟩ : ∃ X, Xs[k]? = some X := ⟨_, List.getElem?_eq_getElem (by rw [HN.out]; exact hlt)⟩
      have hR := HX.out X (List.mem_of_getElem? hXk)
      have hdr : Xs.drop k = X :: Xs.drop (k + 1) := by
        obtain ⟨h1, h2⟩ := List.getElem?_eq_some_iff.1 hXk
        rw [List.drop_eq_getElem_cons h1, h2]
      rw [hdr] at hG
      have hK := hR.hK
      obtain ⟨rfl, hbg, hrg, cs, hC0, hsz, hput⟩ := hG.mid (fun Y hY => (hO Y hY).hK) hK
      rw [hYl] at hrg hsz hput
      unfold OpV.cs at hrg
      have hix := index_ops g n c' k hlt
      have cL := fun (W : World) (h : Below w.heap.size w W) => oclone_any X.D X.A X.n X.c X.B X.m X.d W hR.lo (by have := hR.bn; omega) hR.ln (by have := hR.bm; omega) hK (hR.rA.below h) (hR.rB.below h)
      have hz1 := fun (W : World) => OpX.new W X.D X.A X.n X.c X.B X.m X.d
      have hb3 := hb.alloc hb.size (.cells (opC X.D X.A X.n X.c X.B X.m X.d) 42)
      have hB3 := (Below.refl wr.heap.size wr).alloc (Nat.le_refl _) (.cells (opC X.D X.A X.n X.c X.B X.m X.d) 42)
      have HP := hid hput
      clear hput
      have b1 : (k : Int) < n := by omega
      have HR := hid hR
      have HXK := hid hXk
      have HD := hid hD
      have HYL := hid hYl
      have HG := hid hG
      have HO := hid hO
      clear hR hXk hD hYl hG hO hdr
      go_wp2_with (first
        | (with_reducible refine wpList_load_opr (by with_unfolding_all rfl) _ rfl _ _ rfl hrg hK ?_)
        | (with_reducible refine wpList_store_opn rfl _ _ rfl rfl rfl hK (by with_unfolding_all rfl) ?_)
        | (with_reducible refine wpList_load_opx (by with_unfolding_all rfl) _ rfl _ rfl (hz1 _) hK ?_)
        | (go_at_call 43; (with_reducible refine (cL _ hb3).mono ?_); rintro o4 w4 ⟨A2, c2, B2, d2, rfl, oA, oB, hb4⟩; have hbX := hB3.trans (hb4.mono hB3.size); have hC4 := hC0.below hbX)
        | ((with_reducible refine wpList_store_opr rfl _ _ rfl _ _ hC4 rfl rfl hK hsz ?_); intro w5 hC5 hg5))
      go_roundw
      case rel =>
        have hR := HR.out
        have hb5 := hb3.trans (hb4.mono hb3.size)
        have hOn : OpOw w4 w.heap.size ⟨X.D, A2, X.n, c2, B2, X.m, d2⟩ := ⟨hR.bn, hR.bo, hR.bm, hR.bx, own_le oA hb3.size, own_le oB hb3.size, hK, hR.bp, hR.bt⟩
        refine ⟨k + 1, Ys ++ [⟨X.D, A2, X.n, c2, B2, X.m, d2⟩], hlt, by go_num, ?_, ?_, fun Y hY => ?_, hb5.grown hg5 hb5.size (by intro i e; cases e; exact hbg)⟩
        · rw [List.map_append, HD.out, take_snoc HXK.out, List.map_append]; rfl
        · rw [List.append_assoc]
          exact HP.out ⟨X.D, A2, X.n, c2, B2, X.m, d2⟩ w5 hK hC5
        · rcases List.mem_append.1 hY with hY | hY
          · exact ((HO.out Y hY).below hbX).kept hC4 hg5
          · rw [List.mem_singleton.1 hY]; exact hOn.kept hC4 hg5
      case measure => simp [intOf]; omega
    · obtain rfl : k = n := by omega
      have c1 : ¬ (k : Int) < k := by omega
      rw [List.drop_of_length_le (by rw [HN.out]; exact Nat.le_refl _), List.append_nil] at hG
      rw [List.take_of_length_le (by rw [HN.out]; exact Nat.le_refl _)] at hD
      have HD := hid hD
      clear hD
      go_wp2
      go_ret
      exact ⟨_, ⟨_, rfl⟩, g, Ys, HD.out, hG, hO, hb⟩

end Go.Proofs.Ytmfngampccpkhaa
/- Rows of operations: appended to, built, cut. -/
set_option linter.unusedSimpArgs false
set_option linter.unusedVariables false
namespace Go.Proofs.Ytmfngampccpkhaa
open Go.RowKit Go.Qc Go.Shelf
attribute [local go_sem] txt_size txt_append ib_fold txt_toL

/-- A row of operations of one's own. -/
def OwnOps (W : World) (base : Nat) (v : Value) (n : Nat) (Xs : List OpV) : Prop := W.ownsRow base 42 39 v n (opsV Xs)
theorem OwnOps.rd {W : World} {base n : Nat} {v : Value} {Xs : List OpV} (h : OwnOps W base v n Xs) (hK : ∀ X ∈ Xs, X.D.K.length = 32) : ∃ A c, v = .slice A n c ∧ Xs.length = n ∧ n ≤ c ∧ (A = none → n = 0 ∧ c = 0) ∧ OpRd W A Xs := by
  have hl : Xs.length = n := by
    have h1 : (opsV Xs).length = n * 39 := h.1
    rw [opsV_length Xs hK] at h1
    omega
  rcases h.2 with ⟨rfl, h0⟩ | ⟨g, cap, cur, rfl, _, hg, h3, _, _, ht⟩
  · subst h0
    exact ⟨none, 0, rfl, hl, Nat.le_refl _, fun _ => ⟨rfl, rfl⟩, hK, .inl (List.eq_nil_of_length_eq_zero hl)⟩
  · refine ⟨_, cap, rfl, hl, h3, (fun e => by cases e), hK, .inr ⟨g, 0, rfl, fun j v hj => ?_⟩⟩
    rw [← ht, List.getElem?_take] at hj
    split at hj
    · rw [cell_of_row W g (0 + j) cur _ _ hg, Nat.zero_add, ← Array.getElem?_toList]; exact hj
    · cases hj
theorem OwnOps.below {W W' : World} {base n : Nat} {v : Value} {Xs : List OpV} (h : OwnOps W base v n Xs) (hb : Below W.heap.size W W') : OwnOps W' base v n Xs := own_below h hb
theorem OwnOps.block {W : World} {base n : Nat} {v : Value} {Xs : List OpV} (h : OwnOps W base v n Xs) {k : Nat} (hk : v.ownBlock = some k) : base ≤ k := by
  rcases h.2 with ⟨rfl, _⟩ | ⟨g, cap, cur, rfl, h1, _⟩
  · cases hk
  · simp [Value.ownBlock] at hk; omega
theorem OwnOps.made (W : World) : OwnOps (W.alloc (.cells #[] 42)) W.heap.size (.slice (some ⟨W.heap.size, 0, none⟩) 0 0) 0 [] :=
  World.ownsRow_made W #[] 0 (Nat.le_refl _) (by decide) rfl
theorem OwnOps.none_ (W : World) (base : Nat) : OwnOps W base (.slice none 0 0) 0 [] := ⟨rfl, .inl ⟨rfl, rfl⟩⟩
theorem OwnOps.grown {W W' : World} {base n B : Nat} {v : Value} {Xs : List OpV} (h : OwnOps W base v n Xs) (hg : W.grownBy W' v.ownBlock) (hB : B ≤ base) {w : World} (hb : Below B w W) (hs : B ≤ W.heap.size) : Below B w W' :=
  hb.grown hg hs (by intro k hk; have := h.block hk; omega)
theorem wp_append_ops {w : World} {o : Oper} {a : Act} {K : Act → World → Prop} {Q : Exit → Act → World → Prop} (s x : Operand)
    (ho : o.op = .call { callee := .builtin .append, args := #[s, x], argTypes := #[22, 22] })
    (base : Nat) (v : Value) (n : Nat) (Os : List OpV) (hs : a.eval s = v) (hown : OwnOps w base v n Os)
    (A : Option Addr) (m c : Nat) (Xs : List OpV) (hx : a.eval x = .slice A m c) (hm : Xs.length = m) (hA : A = none → m = 0 ∧ c = 0) (hr : OpRd w A Xs) (hn : n + m ≤ 1000) (hbase : base ≤ w.heap.size)
    (h : ∀ v' w', OwnOps w' base v' (n + m) (Os ++ Xs) → w.grownBy w' v.ownBlock → K (a.put o.dst v') w') : o.wp Try.prog a w K Q := by
  obtain ⟨j0, Z, hj, hjz, hjs, hZ, hjb⟩ := infoOp4
  cases A with
  | none =>
    obtain ⟨rfl, rfl⟩ := hA rfl
    obtain rfl : Xs = [] := List.eq_nil_of_length_eq_zero hm
    have hrun := run_append_owned_none (P := Try.prog) w base 22 o.type 42 j0 39 Try.underlying22 hj v n (opsV Os) hown
    unfold Oper.wp execOp
    simp only [ho, resolve, invoke, builtin, Sem.run_bind, Sem.run_pure, Result.andThen_ok, List.map_toArray, List.map_cons, List.map_nil, hs, hx, hrun]
    exact h v w (by rw [List.append_nil]; exact hown) ⟨rfl, rfl, rfl, Nat.le_refl _, fun _ _ _ => rfl⟩
  | some ad =>
    have hlen := opsV_length Xs hr.1
    rw [hm] at hlen
    refine wp_append_own w s x 22 ho base 42 j0 (.agg Z) 39 j0.bytes Try.underlying22 hj hjz hjs rfl hZ (by decide) v n (opsV Os) hs hown ad m c (opsV Xs) hx hlen ?_ (opsV_one Xs) (by unfold maxLen; omega) (Nat.le_trans (Nat.mul_le_mul hn hjb) (by decide)) hbase (fun v' w' h1 h2 _ => h v' w' (by unfold OwnOps; rw [opsV_append]; exact h1) h2)
    rcases hr.2 with rfl | ⟨g, o, h, hr2⟩
    · intro j u h; simp [opsV] at h
    · cases h
      intro j u hju
      rw [Addr.add_lit]
      exact hr2 j u hju
theorem wpList_append_ops {w : World} {ops : Array Oper} {rest : List Oper} {o : Oper} {a : Act} {Q : Exit → Act → World → Prop} (hgd : o.guard = none) (s x : Operand)
    (ho : o.op = .call { callee := .builtin .append, args := #[s, x], argTypes := #[22, 22] })
    (base : Nat) (v : Value) (n : Nat) (Os : List OpV) (hs : a.eval s = v) (hown : OwnOps w base v n Os)
    (A : Option Addr) (m c : Nat) (Xs : List OpV) (hx : a.eval x = .slice A m c) (hm : Xs.length = m) (hA : A = none → m = 0 ∧ c = 0) (hr : OpRd w A Xs) (hn : n + m ≤ 1000) (hbase : base ≤ w.heap.size)
    (h : ∀ v' w', OwnOps w' base v' (n + m) (Os ++ Xs) → w.grownBy w' v.ownBlock → wpList Try.prog ops Q rest (a.put o.dst v') w') : wpList Try.prog ops Q (o :: rest) a w :=
  wpList_plain hgd fun _ hK => wp_append_ops s x ho base v n Os hs hown A m c Xs hx hm hA hr hn hbase fun v' w' h1 h2 => hK _ _ (h v' w' h1 h2)
theorem OpRd.one {W : World} {g : Nat} {X : OpV} (h : W.rangeAt g 0 (opC X.D X.A X.n X.c X.B X.m X.d).toList) (hK : X.D.K.length = 32) : OpRd W (some ⟨g, 0, none⟩) [X] :=
  ⟨by simpa using hK, .inr ⟨g, 0, rfl, by simpa [opsV, OpV.cs] using h⟩⟩

end Go.Proofs.Ytmfngampccpkhaa

/- Two rows merged. -/
import Derived.Test.YtapgiagpjplpdaaGreatIdA
import Derived.Shelf.SlSortCmp.QuietGrown
namespace Go.Proofs.YtapgiagpjplpdaaGreat
open Go.RowKit Go.Qc
attribute [local go_sem] txt_size txt_append ib_fold ib_i64

theorem infoId : (Tryz.prog.info? 23).map (fun i => (i.size, i.bytes)) = some (32, 32) := by kernel_rfl
theorem infoId2 : (Tryz.prog.info? 23).map (fun i => (i.zero, i.size, i.bytes)) = some (some (.agg (idVals zeroB)), 32, 32) := by kernel_rfl
theorem infoId2_parts : ∃ i, Tryz.prog.info? 23 = some i ∧ i.zero = some (.agg (idVals zeroB)) ∧ i.size = 32 ∧ i.bytes = 32 := by
  have h := infoId2
  cases hq : Tryz.prog.info? 23 with
  | none => rw [hq] at h; cases h
  | some i => rw [hq] at h; simp at h; exact ⟨i, rfl, h.1, h.2.1, h.2.2⟩
theorem infoId_parts : ∃ i, Tryz.prog.info? 23 = some i ∧ i.size = 32 ∧ i.bytes = 32 := by
  have h := infoId
  cases hq : Tryz.prog.info? 23 with
  | none => rw [hq] at h; cases h
  | some i => rw [hq] at h; simp at h; exact ⟨i, rfl, h.1, h.2⟩
theorem two_grow (w : World) (a b : List UInt8) : two w a b = Go.Sort.grow w #[.cells (idVals a) 23, .cells (idVals b) 23] := by
  unfold two
  rw [Go.Sort.alloc_eq_grow, Go.Sort.alloc_eq_grow, Go.Sort.grow_grow]
  rfl
theorem order_grow (a b : List UInt8) (ha : a.length = 32) (hb : b.length = 32) (w : World) :
    Calls Tryz.prog 59 #[.agg (a.map u8v).toArray, .agg (b.map u8v).toArray] w fun e w' => e = .returned (.int .i64 (Lib.compareBytes a b)) ∧ ∃ q os, w' = Go.Sort.grow (w.drewN q) os :=
  (order_any a b ha hb w).mono (by
    rintro e w' ⟨h1, q, rfl⟩
    exact ⟨h1, q, _, by rw [two_grow]; rfl⟩)
theorem wpQuiet_skip {P : Program} {ops : Array Oper} {C : World → Prop} {Q : Act → Prop} {rest : List Oper} {o : Oper} {a : Act} (hw : Region.wanted o (yielded ops a.tmps) = false)
    (h : wpQuiet P ops C Q rest (a.put o.dst undef)) : wpQuiet P ops C Q (o :: rest) a :=
  wpQuiet_step fun K hK => by
    rw [if_neg (by rw [hw]; decide)]
    exact hK _ h
/-- A row of cells loaded in a region that only reads. -/
theorem wpQuiet_load_if {P : Program} {ops : Array Oper} {C : World → Prop} {Q : Act → Prop} {rest : List Oper} {o : Oper} {a : Act} (hw : Region.wanted o (yielded ops a.tmps) = true) (ty : TypeId) (x : Operand) (ho : o.op = .load ty x)
    (b off : Nat) (hx : a.eval x = .pointer (some ⟨b, off, none⟩)) (cs : List Value) (d : TypeDesc) (hc : ∀ w, C w → w.rangeAt b off cs)
    (hu : P.underlying ty = some d) (hd : d.isRow = true) (hi : (P.info? ty).map (·.size) = some cs.length)
    (h : wpQuiet P ops C Q rest (a.put o.dst (.agg cs.toArray))) : wpQuiet P ops C Q (o :: rest) a :=
  wpQuiet_step fun K hK => by
    rw [if_pos hw]
    refine ⟨_, fun w hw' => ?_, hK _ h⟩
    unfold Oper.quietAt execOp
    simp only [ho, hx, Instr.loadAt, Instr.sureAddr, Sem.run_bind, Sem.run_pure, Result.andThen_ok, run_loadVar_mid w b off ty cs d (hc w hw') hu hd hi]
    exact ⟨rfl, rfl⟩
theorem range_gb {w w' : World} {g o k : Nat} {cs : List Value} (h : w.rangeAt g o cs) (hg : w.grownBy w' (some k)) (hne : g ≠ k) : w'.rangeAt g o cs := fun j v hj => by
  have hc := h j v hj
  have hlt := World.block_lt_of_cell? w _ hc
  have := hg.block g hlt (by simpa using hne)
  unfold World.cell? at hc ⊢
  simp only [this]
  exact hc
theorem fold_get : ∀ (l : List Value) (k : Nat) (Z : Array Value) (i : Nat), k + l.length ≤ Z.size → (List.foldl (fun cs x => cs.setIfInBounds x.snd x.fst) Z (l.zipIdx k))[i]? = if k ≤ i ∧ i < k + l.length then l[i - k]? else Z[i]?
  | [], k, Z, i, _ => by rw [if_neg (by simp)]; rfl
  | v :: l, k, Z, i, h => by
    rw [List.zipIdx_cons, List.foldl_cons, fold_get l (k + 1) _ i (by simp at h ⊢; omega)]
    simp only [List.length_cons] at h ⊢
    by_cases h1 : k + 1 ≤ i ∧ i < k + 1 + l.length
    · rw [if_pos h1, if_pos (by omega), show i - k = (i - (k + 1)) + 1 by omega, List.getElem?_cons_succ]
    · rw [if_neg h1, Array.getElem?_setIfInBounds]
      by_cases h2 : k = i
      · subst h2
        rw [if_pos rfl, if_pos (by omega), if_pos (by omega), Nat.sub_self]; rfl
      · rw [if_neg h2, if_neg (by omega)]
theorem news_fold (W : World) (b : List UInt8) (hb : b.length = 32) : ∀ j u, (b.map u8v)[j]? = some u → (W.alloc (.cells (List.foldl (fun cs x => cs.setIfInBounds x.snd x.fst) #[.int .u8 0, .int .u8 0, .int .u8 0, .int .u8 0, .int .u8 0, .int .u8 0, .int .u8 0, .int .u8 0, .int .u8 0, .int .u8 0, .int .u8 0, .int .u8 0, .int .u8 0, .int .u8 0, .int .u8 0, .int .u8 0, .int .u8 0, .int .u8 0, .int .u8 0, .int .u8 0, .int .u8 0, .int .u8 0, .int .u8 0, .int .u8 0, .int .u8 0, .int .u8 0, .int .u8 0, .int .u8 0, .int .u8 0, .int .u8 0, .int .u8 0, .int .u8 0] (b.map u8v).zipIdx) 23)).cell? ((⟨W.heap.size, 0, none⟩ : Addr).add j) = some u := by
  intro j u hj
  have hlt : j < 32 := by have := (List.getElem?_eq_some_iff.1 hj).1; rwa [List.length_map, hb] at this
  rw [Addr.add_lit, Nat.zero_add, cell_of_row _ _ j _ _ _ (heap_alloc_new W _), fold_get _ 0 _ j (by rw [List.length_map, hb]; decide), if_pos (by rw [List.length_map, hb]; omega), Nat.sub_zero]
  exact hj
theorem snoc32 {out : List (List UInt8)} {b : List UInt8} (h : ∀ x ∈ out, x.length = 32) (hb : b.length = 32) : ∀ x ∈ out ++ [b], x.length = 32 := by
  intro x hx
  rcases List.mem_append.1 hx with hx | hx
  · exact h x hx
  · simp at hx; rw [hx]; exact hb
end Go.Proofs.YtapgiagpjplpdaaGreat
/- Union, Minus, Both; the chapter's example. -/
namespace Go.Proofs.YtapgiagpjplpdaaGreat
open Go.RowKit Go.Qc
attribute [local go_sem] txt_size txt_append ib_fold ib_i64

/-- A row of ids, in hand: not more than a million, read where it lies. -/
def RowAt (w : World) (A : Option Addr) (n c : Nat) (l : List (List UInt8)) : Prop := l.length = n ∧ n ≤ c ∧ c ≤ maxLen ∧ n ≤ 1000000 ∧ IdRd w A l
end Go.Proofs.YtapgiagpjplpdaaGreat
/- Regions that draw their order, read, and call what leaves old blocks alone; ids stored into new variables. -/
namespace Go.Proofs.YtapgiagpjplpdaaGreat
open Go.RowKit Go.Qc

/-- A world behind W: what W held lies there still. -/
structure LaterW (W : World) where
  w : World
  h : Below W.heap.size W w
instance (W : World) : Inhabited (LaterW W) := ⟨⟨W, Below.refl _ _⟩⟩
theorem wp_region_later {P : Program} {id : Nat} {Q : Exit → Act → World → Prop} {a : Act} {w : World} {l : List Oper} (hm : P.follows .mixedOrders = true) (hB : Region.lexB .any l.toArray = true)
    (h : wpQuiet P l.toArray (fun w' => ∃ p : LaterW w, w' = p.w) (fun a' => ∀ w', (∃ p : LaterW w, w' = p.w) → Q .normal a' w') l a) : (Code.region id l.toArray true).wp P Q a w :=
  wp_region_quiet (C := fun w' => ∃ p : LaterW w, w' = p.w) hm hB ⟨⟨w.drew, below_drew1 w⟩, rfl⟩ (by simpa using h)
theorem later_of {P : Program} {f : FuncId} {args : Array Value} {W : World} {p : LaterW W} {v : Value} (h : Calls P f args p.w fun e w'' => e = .returned v ∧ Below p.w.heap.size p.w w'') :
    Calls P f args p.w fun e w'' => e = .returned v ∧ ∃ p' : LaterW W, w'' = p'.w :=
  h.mono fun _ w'' ⟨he, hb⟩ => ⟨he, ⟨w'', p.h.trans (hb.mono p.h.size)⟩, rfl⟩
theorem range_later {w : World} {g o : Nat} {cs : List Value} (h : w.rangeAt g o cs) : ∀ w', (∃ p : LaterW w, w' = p.w) → w'.rangeAt g o cs := by
  rintro w' ⟨p, rfl⟩
  exact h.below p.h
end Go.Proofs.YtapgiagpjplpdaaGreat
/- Rows of ids: what the document says of them. -/
namespace Go.Proofs.YtapgiagpjplpdaaGreat
open Go.RowKit Go.Qc
attribute [local go_sem] txt_size

/-- A row of ids that is only read. -/
def RowR (w : World) (A : Option Addr) (n : Nat) (l : List (List UInt8)) : Prop := l.length = n ∧ n ≤ 1000000 ∧ IdRd w A l
theorem RowAt.r {w : World} {A : Option Addr} {n c : Nat} {l : List (List UInt8)} (h : RowAt w A n c l) : RowR w A n l := ⟨h.1, h.2.2.2.1, h.2.2.2.2⟩
theorem RowR.below {w w' : World} {A : Option Addr} {n : Nat} {l : List (List UInt8)} (h : RowR w A n l) (hb : Below w.heap.size w w') : RowR w' A n l := ⟨h.1, h.2.1, h.2.2.below hb⟩
theorem IdRd.pick {w : World} {A : Option Addr} {l : List (List UInt8)} {n : Nat} (c : Nat) (h : IdRd w A l) (hn : l.length = n) {k : Nat} {a : List UInt8} (hk : l[k]? = some a) :
    ∃ g q, w.rangeAt g q (a.map u8v) ∧ a.length = 32 ∧ ∀ W : World, (Instr.indexAt 48 (.slice A n c) (.int .i64 (k : Int))).run Tryz.prog W = .ok (.pointer (some ⟨g, q, none⟩)) W := by
  obtain ⟨g, o, rfl, hr⟩ := h.at_ hk
  refine ⟨g, o + k * 32, hr, h.len hk, fun W => ?_⟩
  obtain ⟨i0, hi, h32, _⟩ := infoId_parts
  have hlt : k < n := by rw [← hn]; exact (List.getElem?_eq_some_iff.1 hk).1
  have h1 : (0 : Int) ≤ (k : Int) ∧ (k : Int) < (n : Int) := by omega
  simp [Instr.indexAt, run_underlying Tryz.underlying48, asIntOf, h1, sizeOf, typeInfo, hi, h32, Addr.add_lit, Int.toNat_natCast]
  intro h2; omega
theorem not_take_succ {a x : List UInt8} {l : List (List UInt8)} {k : Nat} (h : a ∉ l.take k) (hx : l[k]? = some x) (hne : decide (x = a) = false) : a ∉ l.take (k + 1) := by
  rw [List.take_add_one, hx]
  simp only [Option.toList_some, List.mem_append, List.mem_singleton, not_or]
  exact ⟨h, fun e => of_decide_eq_false hne e.symm⟩
theorem mem_of_hit {a x : List UInt8} {l : List (List UInt8)} {k : Nat} (hx : l[k]? = some x) (he : decide (x = a) = true) : decide (a ∈ l) = true :=
  decide_eq_true (by rw [← of_decide_eq_true he]; exact List.mem_of_getElem? hx)
theorem not_all {a : List UInt8} {l : List (List UInt8)} {k : Nat} (h : a ∉ l.take k) (hk : l.length ≤ k) : decide (a ∈ l) = false :=
  decide_eq_false (by rw [List.take_of_length_le hk] at h; exact h)
set_option maxRecDepth 100000 in
set_option maxHeartbeats 20000000 in
theorem rhas_any (A : Option Addr) (n c : Nat) (l : List (List UInt8)) (a : List UInt8) (ha : a.length = 32) (w : World) (hA : RowR w A n l) :
    Calls Tryz.prog 61 #[.slice A n c, .agg (idVals a)] w fun e w' => e = .returned (.bool (decide (a ∈ l))) ∧ Below w.heap.size w w' := by
  obtain ⟨hn, bn, hr⟩ := hA
  have hI := Blk.new w 23 (idVals a)
  have hra0 := range_blk hI
  have hB0 : Below w.heap.size w (w.alloc (.cells (idVals a) 23)) := (Below.refl _ _).alloc (Nat.le_refl _) _
  have hu := Tryz.underlying23
  have hza : (Tryz.prog.info? 23).map (·.size) = some (a.map u8v).length := by rw [List.length_map, ha]; exact sizeId
  have mixed : Tryz.prog.follows .mixedOrders = true := by kernel_rfl
  clear hI
  go_enter Tryz.func61, Tryz.ntmps61
  go_wp2
  generalize w.alloc (.cells (idVals a) 23) = w0 at *
  go_loopw [5] (fun i wr => ∃ k : Nat, k ≤ n ∧ i = .int .i64 k ∧ a ∉ l.take k ∧ Below w0.heap.size w0 wr) (fun i _ => n - (intOf i).toNat)
  case atStart => exact ⟨0, by omega, rfl, by simp, Below.refl _ _⟩
  case round =>
    obtain ⟨k, hk, rfl, hnot, hb⟩ := hrel
    by_cases hlt : k < n
    · obtain ⟨x, hx⟩ : ∃ x, l[k]? = some x := ⟨_, List.getElem?_eq_getElem (by omega)⟩
      obtain ⟨g, q, hg, lx, hix⟩ := hr.pick c hn hx
      have b1 : (k : Int) < n := by omega
      have fx := range_later ((hg.below hB0).below hb)
      have fa := range_later (hra0.below hb)
      have hzx : (Tryz.prog.info? 23).map (·.size) = some (x.map u8v).length := by rw [List.length_map, lx]; exact sizeId
      obtain ⟨t, ht⟩ : ∃ t, decide (x = a) = t := ⟨_, rfl⟩
      have heq : ∀ W, (Op.equalIn 10000 23 (.agg (List.map u8v x).toArray) (.agg (List.map u8v a).toArray)).run Tryz.prog W = .ok t W := fun W => (ids_eq W x a lx ha).trans (by rw [ht])
      have HN := hid hn
      have HT := hid ht
      have HX := hid hx
      have HNT := hid hnot
      clear hn ht hx hnot lx hg
      go_wp2
      refine wp_region_later mixed (by kernel_rfl) ?_
      repeat (first
        | ((with_reducible refine wpQuiet_skip (by with_unfolding_all rfl) ?_); simp only [Act.put, List.setIfInBounds_toArray, List.set_cons_zero, List.set_cons_succ])
        | ((with_reducible refine wpQuiet_load_if (by with_unfolding_all rfl) 23 _ rfl _ _ rfl (x.map u8v) _ fx hu (by with_unfolding_all rfl) hzx ?_); simp only [Act.put, List.setIfInBounds_toArray, List.set_cons_zero, List.set_cons_succ])
        | ((with_reducible refine wpQuiet_load_if (by with_unfolding_all rfl) 23 _ rfl _ _ rfl (a.map u8v) _ fa hu (by with_unfolding_all rfl) hza ?_); simp only [Act.put, List.setIfInBounds_toArray, List.set_cons_zero, List.set_cons_succ])
        | ((with_reducible refine wpQuiet_step (fun K hK => ?_)); go_simp; first | ((with_reducible refine hK _ ?_); clear hK K) | (with_reducible apply Exists.intro; (with_reducible refine ⟨fun _ => ?_, hK _ ?_⟩); ((fail)); clear hK K)))
      with_reducible refine wpQuiet_nil ?_
      intro _ hw'
      obtain ⟨p, rfl⟩ := hw'
      have hp := p.h
      generalize p.w = wq at *
      replace hb := hb.trans (hp.mono hb.size)
      cases t with
      | true =>
        go_wp2
        go_ret
        exact ⟨congrArg (fun b => Ending.returned (Value.bool b)) (mem_of_hit HX.out HT.out).symm, hB0.trans (hb.mono hB0.size)⟩
      | false =>
        go_wp2
        go_roundw
        case rel => exact ⟨k + 1, by omega, by go_num, not_take_succ HNT.out HX.out HT.out, hb⟩
        case measure => simp [intOf]; omega
    · obtain rfl : k = n := by omega
      have HN := hid hn
      have HNT := hid hnot
      have b1 : ¬ (k : Int) < k := by omega
      clear hn hnot
      go_wp2
      go_ret
      exact ⟨congrArg (fun b => Ending.returned (Value.bool b)) (not_all HNT.out (by rw [HN.out]; exact Nat.le_refl _)).symm, hB0.trans (hb.mono hB0.size)⟩
/-- The answer of the document's Same. -/
theorem take_snoc_eq {l m : List (List UInt8)} {k : Nat} {x y : List UInt8} (h : l.take k = m.take k) (hx : l[k]? = some x) (hy : m[k]? = some y) (he : decide (x = y) = true) : l.take (k + 1) = m.take (k + 1) := by
  rw [List.take_add_one, List.take_add_one, hx, hy, h, of_decide_eq_true he]
theorem ne_of_at {l m : List (List UInt8)} {k : Nat} {x y : List UInt8} (hx : l[k]? = some x) (hy : m[k]? = some y) (he : decide (x = y) = false) : decide (l = m) = false :=
  decide_eq_false fun e => of_decide_eq_false he (by rw [e, hy] at hx; exact (Option.some.inj hx).symm)
set_option maxRecDepth 100000 in
set_option maxHeartbeats 20000000 in
theorem rsame_any (A B : Option Addr) (n c m d : Nat) (l r : List (List UInt8)) (w : World) (hA : RowR w A n l) (hB : RowR w B m r) :
    Calls Tryz.prog 19 #[.slice A n c, .slice B m d] w fun e w' => e = .returned (.bool (decide (l = r))) ∧ Below w.heap.size w w' := by
  obtain ⟨hn, bn, hr⟩ := hA
  obtain ⟨hm, bm, hs⟩ := hB
  have hu := Tryz.underlying23
  have mixed : Tryz.prog.follows .mixedOrders = true := by kernel_rfl
  by_cases hnm : n = m
  · subst hnm
    have z1 : ((n : Int) != n) = false := by simp
    go_enter Tryz.func19, Tryz.ntmps19
    go_wp2
    go_loopw [5] (fun i wr => ∃ k : Nat, k ≤ n ∧ i = .int .i64 k ∧ l.take k = r.take k ∧ Below w.heap.size w wr) (fun i _ => n - (intOf i).toNat)
    case atStart => exact ⟨0, by omega, rfl, by simp, Below.refl _ _⟩
    case round =>
      obtain ⟨k, hk, rfl, hpre, hb⟩ := hrel
      by_cases hlt : k < n
      · obtain ⟨x, hx⟩ : ∃ x, l[k]? = some x := ⟨_, List.getElem?_eq_getElem (by omega)⟩
        obtain ⟨y, hy⟩ : ∃ y, r[k]? = some y := ⟨_, List.getElem?_eq_getElem (by omega)⟩
        obtain ⟨g, q, hg, lx, hix⟩ := hr.pick c hn hx
        obtain ⟨g2, q2, hg2, ly, hiy⟩ := hs.pick d hm hy
        have b1 : (k : Int) < n := by omega
        have fx := range_later (hg.below hb)
        have fy := range_later (hg2.below hb)
        have hzx : (Tryz.prog.info? 23).map (·.size) = some (x.map u8v).length := by rw [List.length_map, lx]; exact sizeId
        have hzy : (Tryz.prog.info? 23).map (·.size) = some (y.map u8v).length := by rw [List.length_map, ly]; exact sizeId
        obtain ⟨t, ht⟩ : ∃ t, decide (x = y) = t := ⟨_, rfl⟩
        have heq : ∀ W, (Op.equalIn 10000 23 (.agg (List.map u8v x).toArray) (.agg (List.map u8v y).toArray)).run Tryz.prog W = .ok t W := fun W => (ids_eq W x y lx ly).trans (by rw [ht])
        have HN := hid hn
        have HM := hid hm
        have HT := hid ht
        have HX := hid hx
        have HY := hid hy
        have HP := hid hpre
        clear hn hm ht hx hy hpre lx ly hg hg2
        go_wp2
        refine wp_region_later mixed (by kernel_rfl) ?_
        repeat (first
          | ((with_reducible refine wpQuiet_skip (by with_unfolding_all rfl) ?_); simp only [Act.put, List.setIfInBounds_toArray, List.set_cons_zero, List.set_cons_succ])
          | ((with_reducible refine wpQuiet_load_if (by with_unfolding_all rfl) 23 _ rfl _ _ rfl (x.map u8v) _ fx hu (by with_unfolding_all rfl) hzx ?_); simp only [Act.put, List.setIfInBounds_toArray, List.set_cons_zero, List.set_cons_succ])
          | ((with_reducible refine wpQuiet_load_if (by with_unfolding_all rfl) 23 _ rfl _ _ rfl (y.map u8v) _ fy hu (by with_unfolding_all rfl) hzy ?_); simp only [Act.put, List.setIfInBounds_toArray, List.set_cons_zero, List.set_cons_succ])
          | ((with_reducible refine wpQuiet_step (fun K hK => ?_)); go_simp; first | ((with_reducible refine hK _ ?_); clear hK K) | (with_reducible apply Exists.intro; (with_reducible refine ⟨fun _ => ?_, hK _ ?_⟩); ((fail)); clear hK K)))
        with_reducible refine wpQuiet_nil ?_
        intro _ hw'
        obtain ⟨p, rfl⟩ := hw'
        have hp := p.h
        generalize p.w = wq at *
        replace hb := hb.trans (hp.mono hb.size)
        cases t with
        | false =>
          go_wp2
          go_ret
          exact ⟨congrArg (fun b => Ending.returned (Value.bool b)) (ne_of_at HX.out HY.out HT.out).symm, hb⟩
        | true =>
          go_wp2
          go_roundw
          case rel => exact ⟨k + 1, by omega, by go_num, take_snoc_eq HP.out HX.out HY.out HT.out, hb⟩
          case measure => simp [intOf]; omega
      · obtain rfl : k = n := by omega
        rw [List.take_of_length_le (by omega), List.take_of_length_le (by omega)] at hpre
        have HP := hid hpre
        have b1 : ¬ (k : Int) < k := by omega
        clear hpre
        go_wp2
        go_ret
        exact ⟨congrArg (fun b => Ending.returned (Value.bool b)) (decide_eq_true HP.out).symm, hb⟩
  · have z1 : ((n : Int) != m) = true := by simp only [bne_iff_ne, ne_eq]; omega
    have HNE := hid (show decide (l = r) = false from decide_eq_false fun e => hnm (by rw [← hn, ← hm, e]))
    clear hnm
    go_enter Tryz.func19, Tryz.ntmps19
    go_wp2
    go_ret
    exact ⟨congrArg (fun b => Ending.returned (Value.bool b)) HNE.out.symm, Below.refl _ _⟩
end Go.Proofs.YtapgiagpjplpdaaGreat
/- Rows of ids: the document's Put, Sort, Only; id.Same. -/
namespace Go.Proofs.YtapgiagpjplpdaaGreat
open Go.RowKit Go.Qc
attribute [local go_sem] txt_size

theorem RowAt.below {w w' : World} {A : Option Addr} {n c : Nat} {l : List (List UInt8)} (h : RowAt w A n c l) (hb : Below w.heap.size w w') : RowAt w' A n c l := ⟨h.1, h.2.1, h.2.2.1, h.2.2.2.1, h.2.2.2.2.below hb⟩
theorem RowAt.own {w : World} {base n : Nat} {e : TypeId} {v : Value} {ids : List (List UInt8)} (h : w.ownsRow base e 32 v n (idsV ids)) (h32 : ∀ a ∈ ids, a.length = 32) (hm : n ≤ 1000000) : ∃ A c, v = .slice A n c ∧ RowAt w A n c ids := by
  obtain ⟨A, c, hv, hl, hr⟩ := IdRd.own h h32
  rcases h.2 with ⟨h1, h2⟩ | ⟨g, cap, cur, h1, _, _, h3, h4, _⟩
  · rw [hv] at h1
    injection h1 with _ h5 h6
    exact ⟨A, c, hv, hl, by omega, by unfold maxLen; omega, hm, hr⟩
  · rw [hv] at h1
    injection h1 with _ h5 h6
    exact ⟨A, c, hv, hl, by omega, by omega, hm, hr⟩
theorem RowAt.own1 {w : World} {base n : Nat} {e : TypeId} {v : Value} {ids : List (List UInt8)} (h : w.ownsRow base e 32 v n (idsV ids)) (h32 : ∀ a ∈ ids, a.length = 32) (hm : n ≤ 1000000) (h0 : 0 < n) : ∃ ad c, v = .slice (some ad) n c ∧ RowAt w (some ad) n c ids := by
  obtain ⟨A, c, hv, hr⟩ := RowAt.own h h32 hm
  rcases h.2 with ⟨h1, h2⟩ | ⟨g, cap, cur, h1, _, _, h3, h4, _⟩
  · omega
  · rw [hv] at h1
    injection h1 with h5 h6 h7
    subst h5
    exact ⟨_, c, hv, hr⟩
def insL (a : List UInt8) : List (List UInt8) → List (List UInt8)
  | [] => [a]
  | x :: t => if ltB a x = true then a :: x :: t else x :: insL a t
def putL (l : List (List UInt8)) (a : List UInt8) : List (List UInt8) := if a ∈ l then l else insL a l
def sortL (l : List (List UInt8)) : List (List UInt8) := l.foldl putL []
theorem insL_length (a : List UInt8) : ∀ l : List (List UInt8), (insL a l).length = l.length + 1
  | [] => rfl
  | x :: t => by
    rw [insL]
    split
    · rfl
    · simp [insL_length a t]
theorem putL_le (l : List (List UInt8)) (a : List UInt8) : (putL l a).length ≤ l.length + 1 := by
  unfold putL
  split
  · omega
  · rw [insL_length]; exact Nat.le_refl _
theorem foldl_put_le : ∀ (l o : List (List UInt8)), (l.foldl putL o).length ≤ o.length + l.length
  | [], o => by simp
  | x :: t, o => by
    have h1 := foldl_put_le t (putL o x)
    have h2 := putL_le o x
    simp only [List.foldl_cons, List.length_cons]
    omega
theorem sortL_le (l : List (List UInt8)) : (sortL l).length ≤ l.length := by have := foldl_put_le l []; simpa [sortL] using this
theorem sortL_snoc {l : List (List UInt8)} {k : Nat} {x : List UInt8} (hx : l[k]? = some x) : sortL (l.take (k + 1)) = putL (sortL (l.take k)) x := by
  rw [List.take_add_one, hx]
  simp [sortL]
theorem drop_cons {l : List (List UInt8)} {k : Nat} {x : List UInt8} (hx : l[k]? = some x) : l.drop k = x :: l.drop (k + 1) := by
  obtain ⟨h, rfl⟩ := List.getElem?_eq_some_iff.1 hx
  exact List.drop_eq_getElem_cons h
theorem put_t {a x : List UInt8} {l o : List (List UInt8)} {k : Nat} (hx : l[k]? = some x) (h : o ++ (if true = true then l.drop k else insL a (l.drop k)) = insL a l) : o ++ [x] ++ (if true = true then l.drop (k + 1) else insL a (l.drop (k + 1))) = insL a l := by
  rw [if_pos rfl, drop_cons hx] at h
  rw [if_pos rfl, ← h, List.append_assoc]; rfl
theorem put_lt {a x : List UInt8} {l o : List (List UInt8)} {k : Nat} (hx : l[k]? = some x) (hl : ltB a x = true) (h : o ++ (if false = true then l.drop k else insL a (l.drop k)) = insL a l) : o ++ [a] ++ [x] ++ (if true = true then l.drop (k + 1) else insL a (l.drop (k + 1))) = insL a l := by
  rw [if_neg (by decide), drop_cons hx, insL, if_pos hl] at h
  rw [if_pos rfl, ← h, List.append_assoc, List.append_assoc]; rfl
theorem put_ge {a x : List UInt8} {l o : List (List UInt8)} {k : Nat} (hx : l[k]? = some x) (hl : ltB a x = false) (h : o ++ (if false = true then l.drop k else insL a (l.drop k)) = insL a l) : o ++ [x] ++ (if false = true then l.drop (k + 1) else insL a (l.drop (k + 1))) = insL a l := by
  rw [if_neg (by decide), drop_cons hx, insL, if_neg (by rw [hl]; decide)] at h
  rw [if_neg (by decide), ← h, List.append_assoc]; rfl
set_option maxRecDepth 100000 in
set_option maxHeartbeats 20000000 in
theorem rput_any (ad : Addr) (n c : Nat) (l : List (List UInt8)) (a : List UInt8) (ha : a.length = 32) (w : World) (hA : RowAt w (some ad) n c l) (hN : n + 1 ≤ 1000000) :
    Calls Tryz.prog 40 #[.slice (some ad) n c, .agg (idVals a)] w fun e w' => ∃ ad' n' c', e = .returned (.slice (some ad') n' c') ∧ RowAt w' (some ad') n' c' (putL l a) ∧ Below w.heap.size w w' := by
  have hI := Blk.new w 23 (idVals a)
  have hra0 := range_blk hI
  have hB0 : Below w.heap.size w (w.alloc (.cells (idVals a) 23)) := (Below.refl _ _).alloc (Nat.le_refl _) _
  have hu := Tryz.underlying23
  obtain ⟨j0, hj, hjz, hjs, hjb⟩ := infoId2_parts
  have hza : (Tryz.prog.info? 23).map (·.size) = some (a.map u8v).length := by rw [List.length_map, ha]; exact sizeId
  have hoa := u8v_one a
  have mixed : Tryz.prog.follows .mixedOrders = true := by kernel_rfl
  have cH : Calls Tryz.prog 61 #[.slice (some ad) n c, .agg (a.map u8v).toArray] (w.alloc (.cells (idVals a) 23)) fun e w' => e = .returned (.bool (decide (a ∈ l))) ∧ Below (w.alloc (.cells (idVals a) 23)).heap.size (w.alloc (.cells (idVals a) 23)) w' := rhas_any (some ad) n c l a ha _ (hA.below hB0).r
  clear hI
  obtain ⟨t, ht⟩ : ∃ t, decide (a ∈ l) = t := ⟨_, rfl⟩
  rw [ht] at cH
  cases t with
  | true =>
    have HT := hid (show putL l a = l by unfold putL; rw [if_pos (of_decide_eq_true ht)])
    clear ht
    go_enter Tryz.func40, Tryz.ntmps40
    go_wp2_with (first
      | (with_reducible refine wpList_load_if (by with_unfolding_all rfl) 23 _ rfl _ _ rfl (a.map u8v) _ hra0 hu (by with_unfolding_all rfl) hza ?_)
      | (go_at_call 61; (with_reducible refine cH.mono ?_); rintro e1 w1 ⟨rfl, hb1⟩))
    go_ret
    have hB1 := hB0.trans (hb1.mono hB0.size)
    exact ⟨ad, n, c, rfl, by rw [HT.out]; exact hA.below hB1, hB1⟩
  | false =>
    have HT := hid (show putL l a = insL a l by unfold putL; rw [if_neg (of_decide_eq_false ht)])
    clear ht
    go_enter Tryz.func40, Tryz.ntmps40
    go_wp2_with (first
      | (with_reducible refine wpList_load_if (by with_unfolding_all rfl) 23 _ rfl _ _ rfl (a.map u8v) _ hra0 hu (by with_unfolding_all rfl) hza ?_)
      | (go_at_call 61; (with_reducible refine cH.mono ?_); rintro e1 w1 ⟨rfl, hb1⟩))
    have hB1 := hB0.trans (hb1.mono hB0.size)
    have hra1 := hra0.below hb1
    have hA1 := hA.below hB1
    clear hra0 hB0 cH hb1 hA
    obtain ⟨hn, hc, bc, bn, hr⟩ := hA1
    go_loopw [5, 6, 7] (fun v d i wr => ∃ (k : Nat) (b : Bool) (o : List (List UInt8)), k ≤ n ∧ d = .bool b ∧ i = .int .i64 k ∧ (∀ x ∈ o, x.length = 32) ∧ o.length ≤ k + 1 ∧ (b = false → o.length ≤ k) ∧ o ++ (if b = true then l.drop k else insL a (l.drop k)) = insL a l ∧ wr.ownsRow w1.heap.size 23 32 v o.length (idsV o) ∧ Below w1.heap.size w1 wr) (fun _ _ i _ => n - (intOf i).toNat)
    case atStart => exact ⟨0, false, [], by omega, rfl, rfl, by simp, by simp, by simp, rfl, World.ownsRow_made _ _ _ (Nat.le_refl _) (by decide) rfl, (Below.refl _ _).alloc (Nat.le_refl _) _⟩
    case round =>
      obtain ⟨k, b, o, hk, rfl, rfl, ho, hol, hob, heq, hown, hb⟩ := hrel
      have HO := hid ho
      have HE := hid heq
      clear ho heq
      by_cases hlt : k < n
      · obtain ⟨x, hx⟩ : ∃ x, l[k]? = some x := ⟨_, List.getElem?_eq_getElem (by omega)⟩
        obtain ⟨g, q, hg, lx, hix⟩ := hr.pick c hn hx
        have b1 : (k : Int) < n := by omega
        have fx := range_later (hg.below hb)
        have fa := range_later (hra1.below hb)
        have hzx : (Tryz.prog.info? 23).map (·.size) = some (x.map u8v).length := by rw [List.length_map, lx]; exact sizeId
        have hox := u8v_one x
        have HN := hid hn
        have HX := hid hx
        obtain ⟨L, hL⟩ : ∃ L, ltB a x = L := ⟨_, rfl⟩
        have hless : ∀ W : World, Calls Tryz.prog 62 #[.agg (List.map u8v a).toArray, .agg (List.map u8v x).toArray] W fun e w' => e = .returned (.bool L) ∧ Below W.heap.size W w' := fun W => by rw [← hL]; exact rless_any a x ha lx W
        have HL := hid hL
        clear hn hx hL
        cases b with
        | true =>
          clear hob
          go_wp2
          refine wp_region_later mixed (by kernel_rfl) ?_
          repeat (first
            | ((with_reducible refine wpQuiet_skip (by with_unfolding_all rfl) ?_); simp only [Act.put, List.setIfInBounds_toArray, List.set_cons_zero, List.set_cons_succ])
            | ((with_reducible refine wpQuiet_load_if (by with_unfolding_all rfl) 23 _ rfl _ _ rfl (x.map u8v) _ fx hu (by with_unfolding_all rfl) hzx ?_); simp only [Act.put, List.setIfInBounds_toArray, List.set_cons_zero, List.set_cons_succ])
            | ((with_reducible refine wpQuiet_load_if (by with_unfolding_all rfl) 23 _ rfl _ _ rfl (a.map u8v) _ fa hu (by with_unfolding_all rfl) hza ?_); simp only [Act.put, List.setIfInBounds_toArray, List.set_cons_zero, List.set_cons_succ])
            | ((with_reducible refine wpQuiet_step (fun K hK => ?_)); go_simp; first | ((with_reducible refine hK _ ?_); clear hK K) | (with_reducible apply Exists.intro; (with_reducible refine ⟨fun _ => ?_, hK _ ?_⟩); ((first | (go_at_call 62; exact later_of (hless _)))); clear hK K)))
          with_reducible refine wpQuiet_nil ?_
          intro _ hw'
          obtain ⟨p, rfl⟩ := hw'
          have hp := p.h
          generalize p.w = wq at *
          replace hb := hb.trans (hp.mono hb.size)
          replace hown := own_below hown hp
          have r1 := hg.below hb
          clear fx fa hp
          go_wp2_with (first
            | (with_reducible refine wpList_load_if (by with_unfolding_all rfl) 23 _ rfl _ _ rfl (x.map u8v) _ r1 hu (by with_unfolding_all rfl) hzx ?_)
            | (at_builtin; refine wpList_append_own _ rfl _ _ 48 rfl w1.heap.size 23 j0 (.agg (idVals zeroB)) 32 32 Tryz.underlying48 hj hjz hjs hjb rfl (by decide) _ _ _ rfl (hown.alloc _) ⟨wq.heap.size, 0, none⟩ 1 1 (x.map u8v) rfl ?l1 (news_fold wq x lx) hox ?l2 ?l3 ?l4 ?_))
          try case l1 => rw [List.length_map, lx]
          case l2 => unfold maxLen; omega
          case l3 => omega
          case l4 => (try simp); have := hb.size; omega
          intro v8 w8 hown8 hg8 _
          have hB8 := (hb.alloc hb.size _).grown hg8 (hb.alloc hb.size _).size (fun k hk => (hown.lt k hk).1)
          clear hg8
          go_wp2
          go_roundw
          case rel => exact ⟨k + 1, true, o ++ [x], by omega, rfl, by go_num, snoc32 HO.out lx, by simp; omega, by simp, put_t HX.out HE.out, (by rw [List.length_append, idsV_snoc]; exact hown8), hB8⟩
          case measure => simp [intOf]; omega
        | false =>
          have hol2 := hob rfl
          clear hob
          cases L with
          | true =>
            go_wp2
            refine wp_region_later mixed (by kernel_rfl) ?_
            repeat (first
              | ((with_reducible refine wpQuiet_skip (by with_unfolding_all rfl) ?_); simp only [Act.put, List.setIfInBounds_toArray, List.set_cons_zero, List.set_cons_succ])
              | ((with_reducible refine wpQuiet_load_if (by with_unfolding_all rfl) 23 _ rfl _ _ rfl (x.map u8v) _ fx hu (by with_unfolding_all rfl) hzx ?_); simp only [Act.put, List.setIfInBounds_toArray, List.set_cons_zero, List.set_cons_succ])
              | ((with_reducible refine wpQuiet_load_if (by with_unfolding_all rfl) 23 _ rfl _ _ rfl (a.map u8v) _ fa hu (by with_unfolding_all rfl) hza ?_); simp only [Act.put, List.setIfInBounds_toArray, List.set_cons_zero, List.set_cons_succ])
              | ((with_reducible refine wpQuiet_step (fun K hK => ?_)); go_simp; first | ((with_reducible refine hK _ ?_); clear hK K) | (with_reducible apply Exists.intro; (with_reducible refine ⟨fun _ => ?_, hK _ ?_⟩); ((first | (go_at_call 62; exact later_of (hless _)))); clear hK K)))
            with_reducible refine wpQuiet_nil ?_
            intro _ hw'
            obtain ⟨p, rfl⟩ := hw'
            have hp := p.h
            generalize p.w = wq at *
            replace hb := hb.trans (hp.mono hb.size)
            replace hown := own_below hown hp
            have r1 := hg.below hb
            have ra := hra1.below hb
            clear fx fa hp
            go_wp2_with (first
              | (with_reducible refine wpList_load_if (by with_unfolding_all rfl) 23 _ rfl _ _ rfl (a.map u8v) _ ra hu (by with_unfolding_all rfl) hza ?_)
              | (at_builtin; refine wpList_append_own _ rfl _ _ 48 rfl w1.heap.size 23 j0 (.agg (idVals zeroB)) 32 32 Tryz.underlying48 hj hjz hjs hjb rfl (by decide) _ _ _ rfl (hown.alloc _) ⟨wq.heap.size, 0, none⟩ 1 1 (a.map u8v) rfl ?l1 (news_fold wq a ha) hoa ?l2 ?l3 ?l4 ?_))
            try case l1 => rw [List.length_map, ha]
            case l2 => unfold maxLen; omega
            case l3 => omega
            case l4 => (try simp); have := hb.size; omega
            intro v8 w8 hown8 hg8 _
            have hB8 := (hb.alloc hb.size _).grown hg8 (hb.alloc hb.size _).size (fun k hk => (hown.lt k hk).1)
            clear hg8
            have r2 := hg.below hB8
            go_wp2_with (first
              | (with_reducible refine wpList_load_if (by with_unfolding_all rfl) 23 _ rfl _ _ rfl (x.map u8v) _ r2 hu (by with_unfolding_all rfl) hzx ?_)
              | (at_builtin; refine wpList_append_own _ rfl _ _ 48 rfl w1.heap.size 23 j0 (.agg (idVals zeroB)) 32 32 Tryz.underlying48 hj hjz hjs hjb rfl (by decide) _ _ _ rfl (hown8.alloc _) ⟨w8.heap.size, 0, none⟩ 1 1 (x.map u8v) rfl ?l1 (news_fold w8 x lx) hox ?l2 ?l3 ?l4 ?_))
            try case l1 => rw [List.length_map, lx]
            case l2 => unfold maxLen; omega
            case l3 => omega
            case l4 => (try simp); have := hB8.size; omega
            intro v9 w9 hown9 hg9 _
            have hB9 := (hB8.alloc hB8.size _).grown hg9 (hB8.alloc hB8.size _).size (fun k hk => (hown8.lt k hk).1)
            clear hg9
            go_wp2
            go_roundw
            case rel => exact ⟨k + 1, true, o ++ [a] ++ [x], by omega, rfl, by go_num, snoc32 (snoc32 HO.out ha) lx, by simp; omega, by simp, put_lt HX.out HL.out HE.out, (by rw [List.length_append, List.length_append, idsV_snoc, idsV_snoc, List.append_assoc]; exact hown9), hB9⟩
            case measure => simp [intOf]; omega
          | false =>
            go_wp2
            refine wp_region_later mixed (by kernel_rfl) ?_
            repeat (first
              | ((with_reducible refine wpQuiet_skip (by with_unfolding_all rfl) ?_); simp only [Act.put, List.setIfInBounds_toArray, List.set_cons_zero, List.set_cons_succ])
              | ((with_reducible refine wpQuiet_load_if (by with_unfolding_all rfl) 23 _ rfl _ _ rfl (x.map u8v) _ fx hu (by with_unfolding_all rfl) hzx ?_); simp only [Act.put, List.setIfInBounds_toArray, List.set_cons_zero, List.set_cons_succ])
              | ((with_reducible refine wpQuiet_load_if (by with_unfolding_all rfl) 23 _ rfl _ _ rfl (a.map u8v) _ fa hu (by with_unfolding_all rfl) hza ?_); simp only [Act.put, List.setIfInBounds_toArray, List.set_cons_zero, List.set_cons_succ])
              | ((with_reducible refine wpQuiet_step (fun K hK => ?_)); go_simp; first | ((with_reducible refine hK _ ?_); clear hK K) | (with_reducible apply Exists.intro; (with_reducible refine ⟨fun _ => ?_, hK _ ?_⟩); ((first | (go_at_call 62; exact later_of (hless _)))); clear hK K)))
            with_reducible refine wpQuiet_nil ?_
            intro _ hw'
            obtain ⟨p, rfl⟩ := hw'
            have hp := p.h
            generalize p.w = wq at *
            replace hb := hb.trans (hp.mono hb.size)
            replace hown := own_below hown hp
            have r1 := hg.below hb
            clear fx fa hp
            go_wp2_with (first
              | (with_reducible refine wpList_load_if (by with_unfolding_all rfl) 23 _ rfl _ _ rfl (x.map u8v) _ r1 hu (by with_unfolding_all rfl) hzx ?_)
              | (at_builtin; refine wpList_append_own _ rfl _ _ 48 rfl w1.heap.size 23 j0 (.agg (idVals zeroB)) 32 32 Tryz.underlying48 hj hjz hjs hjb rfl (by decide) _ _ _ rfl (hown.alloc _) ⟨wq.heap.size, 0, none⟩ 1 1 (x.map u8v) rfl ?l1 (news_fold wq x lx) hox ?l2 ?l3 ?l4 ?_))
            try case l1 => rw [List.length_map, lx]
            case l2 => unfold maxLen; omega
            case l3 => omega
            case l4 => (try simp); have := hb.size; omega
            intro v8 w8 hown8 hg8 _
            have hB8 := (hb.alloc hb.size _).grown hg8 (hb.alloc hb.size _).size (fun k hk => (hown.lt k hk).1)
            clear hg8
            go_wp2
            go_roundw
            case rel => exact ⟨k + 1, false, o ++ [x], by omega, rfl, by go_num, snoc32 HO.out lx, by simp; omega, by simp; omega, put_ge HX.out HL.out HE.out, (by rw [List.length_append, idsV_snoc]; exact hown8), hB8⟩
            case measure => simp [intOf]; omega
      · obtain rfl : k = n := by omega
        have HD := hid (show l.drop k = [] from List.drop_eq_nil_of_le (by omega))
        have HN := hid hn
        have b1 : ¬ (k : Int) < k := by omega
        clear hn
        cases b with
        | true =>
          have HF := hid (show o = insL a l by have h := HE.out; rw [if_pos rfl, HD.out, List.append_nil] at h; exact h)
          have h0 : 0 < o.length := by rw [HF.out, insL_length]; omega
          obtain ⟨ad2, c2, rfl, hR⟩ := RowAt.own1 hown HO.out (by omega) h0
          go_wp2
          go_ret
          exact ⟨ad2, _, c2, rfl, by rw [HT.out, ← HF.out]; exact hR, hB1.trans (hb.mono hB1.size)⟩
        | false =>
          have hol2 := hob rfl
          have HF := hid (show o ++ [a] = insL a l by have h := HE.out; rw [if_neg (by decide), HD.out, insL] at h; exact h)
          have ra := hra1.below hb
          go_wp2_with (first
            | (with_reducible refine wpList_load_if (by with_unfolding_all rfl) 23 _ rfl _ _ rfl (a.map u8v) _ ra hu (by with_unfolding_all rfl) hza ?_)
            | (at_builtin; refine wpList_append_own _ rfl _ _ 48 rfl w1.heap.size 23 j0 (.agg (idVals zeroB)) 32 32 Tryz.underlying48 hj hjz hjs hjb rfl (by decide) _ _ _ rfl (hown.alloc _) ⟨wr.heap.size, 0, none⟩ 1 1 (a.map u8v) rfl ?l1 (news_fold wr a ha) hoa ?l2 ?l3 ?l4 ?_))
          try case l1 => rw [List.length_map, ha]
          case l2 => unfold maxLen; omega
          case l3 => omega
          case l4 => (try simp); have := hb.size; omega
          intro v8 w8 hown8 hg8 _
          have hB8 := (hb.alloc hb.size _).grown hg8 (hb.alloc hb.size _).size (fun k hk => (hown.lt k hk).1)
          clear hg8
          obtain ⟨ad2, c2, rfl, hR⟩ := RowAt.own1 (ids := o ++ [a]) (by rw [idsV_snoc]; exact hown8) (snoc32 HO.out ha) (by omega) (by omega)
          go_wp2
          go_ret
          exact ⟨ad2, _, c2, rfl, by rw [HT.out, ← HF.out]; exact hR, hB1.trans (hB8.mono hB1.size)⟩
end Go.Proofs.YtapgiagpjplpdaaGreat

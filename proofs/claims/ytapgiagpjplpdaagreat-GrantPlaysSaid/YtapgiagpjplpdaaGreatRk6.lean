/- grant: rows of the document's grants. -/
import Derived.Test.YtapgiagpjplpdaaGreatAw19
import Derived.Test.YtapgiagpjplpdaaGreatGr11
import Derived.Test.YtapgiagpjplpdaaGreatPhA
import Derived.Test.YtapgiagpjplpdaaGreatIdA
import Derived.Test.YtapgiagpjplpdaaGreatKit4
import Derived.Laws.StructEq
import Derived.Deep.DeepCutAuto
set_option linter.unusedSimpArgs false
set_option linter.unusedVariables false
namespace Go.Proofs.YtapgiagpjplpdaaGreat
open Go.RowKit Go.Qc Go.Shelf
attribute [local go_sem] txt_size txt_append ib_fold txt_toL
theorem Rk_infoN : (Tryz.prog.info? 52).map (·.size) = some 66 := by kernel_rfl
theorem Rk_info (X : GrD) (h : X.ok) : (Tryz.prog.info? 52).map (·.size) = some X.cs.size := by rw [GrD.size h]; exact Rk_infoN
theorem Rk_info3 : ∃ i, Tryz.prog.info? 52 = some i ∧ i.size = 66 := by
  have h := Rk_infoN
  cases hq : Tryz.prog.info? 52 with
  | none => rw [hq] at h; cases h
  | some i => rw [hq] at h; simp at h; exact ⟨i, rfl, h⟩
theorem Rk_info4 : ∃ i Z, Tryz.prog.info? 52 = some i ∧ i.zero = some (.agg Z) ∧ i.size = 66 ∧ Z.size = 66 ∧ i.bytes ≤ 1000 := by
  obtain ⟨i, hi, h66⟩ := Rk_info3
  have h : (Tryz.prog.info? 52).map (fun i => decide (i.bytes ≤ 1000) && (match i.zero with | some (.agg Z) => Z.size == 66 | _ => false)) = some true := by kernel_rfl
  rw [hi, Option.map_some] at h
  simp only [Option.some.injEq, Bool.and_eq_true, decide_eq_true_eq] at h
  obtain ⟨h1, h2⟩ := h
  split at h2
  · rename_i Z hz
    exact ⟨i, Z, hi, hz, h66, by simpa using h2, h1⟩
  · cases h2
/-- A grant's box. -/
structure RkX (W : World) (g : Nat) (X : GrD) : Prop where
  b : Blk W g 52 X.cs
theorem RkX.new (w : World) (X : GrD) : RkX (w.alloc (.cells X.cs 52)) w.heap.size X := ⟨Blk.new _ _ _⟩
section
variable {W : World} {g : Nat} {X : GrD}
theorem RkX.alloc (h : RkX W g X) (o : Obj) : RkX (W.alloc o) g X := ⟨h.b.alloc o⟩
theorem RkX.below {W' : World} (h : RkX W g X) (hb : Below W.heap.size W W') : RkX W' g X := ⟨h.b.below hb⟩
theorem RkX.c0 (h : RkX W g X) : W.cell? ⟨g, 0, none⟩ = some (.string (txt X.p)) := h.b.cell_ X.c0
theorem RkX.c65 (h : RkX W g X) (hk : X.ok) : W.cell? ⟨g, 65, none⟩ = some (.int .i64 X.d) := h.b.cell_ (X.c65 hk)
theorem RkX.key (h : RkX W g X) : W.rangeAt g 1 (X.k.map u8v) := fun j u hj => h.b.cell_ (X.ckey j u hj)
theorem RkX.by_ (h : RkX W g X) (hk : X.ok) : W.rangeAt g 33 (X.b.map u8v) := fun j u hj => h.b.cell_ (X.cby hk j u hj)
end
theorem GrRd.pickR {w : World} {A : Option Addr} {Xs : List GrD} {n : Nat} (c : Nat) (h : GrRd w A Xs) (hn : Xs.length = n) {k : Nat} {X : GrD} (hk : Xs[k]? = some X) :
    ∃ g q, w.rangeAt g q X.cs.toList ∧ X.ok ∧ ∀ W : World, (Instr.indexAt 29 (.slice A n c) (.int .i64 (k : Int))).run Tryz.prog W = .ok (.pointer (some ⟨g, q, none⟩)) W := by
  obtain ⟨h1, rfl | ⟨g, o, rfl, h2⟩⟩ := h
  · simp at hk
  · refine ⟨g, o + k * 66, fun j v hj => by rw [Nat.add_assoc]; exact h2 _ _ (grsV_get Xs k X j v h1 hk hj), h1 X (List.mem_of_getElem? hk), fun W => ?_⟩
    obtain ⟨i0, hi, h66⟩ := Rk_info3
    have hlt : k < n := by rw [← hn]; exact (List.getElem?_eq_some_iff.1 hk).1
    have h1 : (0 : Int) ≤ (k : Int) ∧ (k : Int) < (n : Int) := by omega
    simp [Instr.indexAt, run_underlying Tryz.underlying29, asIntOf, h1, sizeOf, typeInfo, hi, h66, Addr.add_lit, Int.toNat_natCast]
    intro h2; omega
def RkOw (W : World) (base : Nat) (v : Value) (n : Nat) (Xs : List GrD) : Prop := W.ownsRow base 52 66 v n (grsV Xs)
theorem RkOw.rd {W : World} {base n : Nat} {v : Value} {Xs : List GrD} (h : RkOw W base v n Xs) (hK : ∀ X ∈ Xs, X.ok) : ∃ A c, v = .slice A n c ∧ Xs.length = n ∧ n ≤ c ∧ (A = none → n = 0 ∧ c = 0) ∧ GrRd W A Xs := by
  have hl : Xs.length = n := by
    have h1 : (grsV Xs).length = n * 66 := h.1
    rw [grsV_length Xs hK] at h1
    omega
  rcases h.2 with ⟨rfl, h0⟩ | ⟨g, cap, cur, rfl, _, hg, h3, _, _, ht⟩
  · subst h0
    exact ⟨none, 0, rfl, hl, Nat.le_refl _, fun _ => ⟨rfl, rfl⟩, hK, .inl (List.eq_nil_of_length_eq_zero hl)⟩
  · refine ⟨_, cap, rfl, hl, h3, (fun e => by cases e), hK, .inr ⟨g, 0, rfl, fun j v hj => ?_⟩⟩
    rw [← ht, List.getElem?_take] at hj
    split at hj
    · rw [cell_of_row W g (0 + j) cur _ _ hg, Nat.zero_add, ← Array.getElem?_toList]; exact hj
    · cases hj
theorem RkOw.below {W W' : World} {base n : Nat} {v : Value} {Xs : List GrD} (h : RkOw W base v n Xs) (hb : Below W.heap.size W W') : RkOw W' base v n Xs := own_below h hb
theorem RkOw.le {W : World} {base base' n : Nat} {v : Value} {Xs : List GrD} (h : RkOw W base v n Xs) (hb : base' ≤ base) : RkOw W base' v n Xs :=
  ⟨h.1, h.2.imp id fun ⟨g, c, cur, a, b, d⟩ => ⟨g, c, cur, a, Nat.le_trans hb b, d⟩⟩
theorem RkOw.made (W : World) : RkOw (W.alloc (.cells #[] 52)) W.heap.size (.slice (some ⟨W.heap.size, 0, none⟩) 0 0) 0 [] :=
  World.ownsRow_made W #[] 0 (Nat.le_refl _) (by decide) rfl
theorem RkOw.none_ (W : World) (base : Nat) : RkOw W base (.slice none 0 0) 0 [] := ⟨rfl, .inl ⟨rfl, rfl⟩⟩
/-- A whole grant is loaded out of a row; out of its box; stored into its box. -/
theorem wpList_load_rkr {w : World} {ops : Array Oper} {rest : List Oper} {o : Oper} {a : Act} {Q : Exit → Act → World → Prop} (hgd : Region.wanted o (yielded ops a.tmps) = true) (x : Operand) (ho : o.op = .load 52 x)
    (g q : Nat) {X : GrD} (hx : a.eval x = .pointer (some ⟨g, q, none⟩)) (hr : w.rangeAt g q X.cs.toList) (hK : X.ok)
    (h : wpList Tryz.prog ops Q rest (a.put o.dst (.agg X.cs)) w) : wpList Tryz.prog ops Q (o :: rest) a w := by
  refine wpList_load_if hgd 52 x ho g q hx X.cs.toList _ hr Tryz.underlying52 rfl ?_ ?_
  · rw [Array.length_toList]; exact Rk_info X hK
  · rw [Array.toArray_toList]; exact h
theorem wpList_store_rkn {w : World} {ops : Array Oper} {rest : List Oper} {o : Oper} {a : Act} {Q : Exit → Act → World → Prop} {old : Array Value} (hgd : o.guard = none) (x y : Operand) (ho : o.op = .store 52 x y)
    {X : GrD} (hx : a.eval x = .pointer (some ⟨w.heap.size, 0, none⟩)) (hy : a.eval y = .agg X.cs) (hK : X.ok) (hs : old.size = 66)
    (h : wpList Tryz.prog ops Q rest (a.put o.dst undef) (w.alloc (.cells X.cs 52))) : wpList Tryz.prog ops Q (o :: rest) a (w.alloc (.cells old 52)) :=
  wpList_store_new hgd 52 x y ho X.cs hx hy (Rk_info X hK) (by rw [GrD.size hK, hs]) X.one h
theorem wp_append_rk {w : World} {o : Oper} {a : Act} {K : Act → World → Prop} {Q : Exit → Act → World → Prop} (s x : Operand)
    (ho : o.op = .call { callee := .builtin .append, args := #[s, x], argTypes := #[29, 29] })
    (base : Nat) (v : Value) (n : Nat) (Os : List GrD) (hs : a.eval s = v) (hown : RkOw w base v n Os)
    (A : Option Addr) (m c : Nat) (Xs : List GrD) (hx : a.eval x = .slice A m c) (hm : Xs.length = m) (hA : A = none → m = 0 ∧ c = 0) (hr : GrRd w A Xs) (hn : n + m ≤ 1000) (hbase : base ≤ w.heap.size)
    (h : ∀ v' w', RkOw w' base v' (n + m) (Os ++ Xs) → w.grownBy w' v.ownBlock → K (a.put o.dst v') w') : o.wp Tryz.prog a w K Q := by
  obtain ⟨j0, Z, hj, hjz, hjs, hZ, hjb⟩ := Rk_info4
  cases A with
  | none =>
    obtain ⟨rfl, rfl⟩ := hA rfl
    obtain rfl : Xs = [] := List.eq_nil_of_length_eq_zero hm
    have hrun := run_append_owned_none (P := Tryz.prog) w base 29 o.type 52 j0 66 Tryz.underlying29 hj v n (grsV Os) hown
    unfold Oper.wp execOp
    simp only [ho, resolve, invoke, builtin, Sem.run_bind, Sem.run_pure, Result.andThen_ok, List.map_toArray, List.map_cons, List.map_nil, hs, hx, hrun]
    exact h v w (by rw [List.append_nil]; exact hown) ⟨rfl, rfl, rfl, Nat.le_refl _, fun _ _ _ => rfl⟩
  | some ad =>
    have hlen := grsV_length Xs hr.1
    rw [hm] at hlen
    refine wp_append_own w s x 29 ho base 52 j0 (.agg Z) 66 j0.bytes Tryz.underlying29 hj hjz hjs rfl hZ (by decide) v n (grsV Os) hs hown ad m c (grsV Xs) hx hlen ?_ (grsV_one Xs) (by unfold maxLen; omega) (Nat.le_trans (Nat.mul_le_mul hn hjb) (by decide)) hbase (fun v' w' h1 h2 _ => h v' w' (by unfold RkOw; rw [grsV_append]; exact h1) h2)
    rcases hr.2 with rfl | ⟨g, o, h, hr2⟩
    · intro j u h; simp [grsV] at h
    · cases h
      intro j u hju
      rw [Addr.add_lit]
      exact hr2 j u hju
theorem wpList_append_rk {w : World} {ops : Array Oper} {rest : List Oper} {o : Oper} {a : Act} {Q : Exit → Act → World → Prop} (hgd : o.guard = none) (s x : Operand)
    (ho : o.op = .call { callee := .builtin .append, args := #[s, x], argTypes := #[29, 29] })
    (base : Nat) (v : Value) (n : Nat) (Os : List GrD) (hs : a.eval s = v) (hown : RkOw w base v n Os)
    (A : Option Addr) (m c : Nat) (Xs : List GrD) (hx : a.eval x = .slice A m c) (hm : Xs.length = m) (hA : A = none → m = 0 ∧ c = 0) (hr : GrRd w A Xs) (hn : n + m ≤ 1000) (hbase : base ≤ w.heap.size)
    (h : ∀ v' w', RkOw w' base v' (n + m) (Os ++ Xs) → w.grownBy w' v.ownBlock → wpList Tryz.prog ops Q rest (a.put o.dst v') w') : wpList Tryz.prog ops Q (o :: rest) a w :=
  wpList_plain hgd fun _ hK => wp_append_rk s x ho base v n Os hs hown A m c Xs hx hm hA hr hn hbase fun v' w' h1 h2 => hK _ _ (h v' w' h1 h2)
theorem RkOw.grown {W W' : World} {base n B : Nat} {v : Value} {Xs : List GrD} (h : RkOw W base v n Xs) (hg : W.grownBy W' v.ownBlock) (hB : B ≤ base) {w : World} (hb : Below B w W) (hs : B ≤ W.heap.size) : Below B w W' :=
  hb.grown hg hs (by intro k hk; have := (h.lt k hk).1; omega)
end Go.Proofs.YtapgiagpjplpdaaGreat
/- grant's document: Covers, Depth, less. -/
set_option linter.unusedSimpArgs false
set_option linter.unusedVariables false
namespace Go.Proofs.YtapgiagpjplpdaaGreat
open Go.RowKit Go.Qc Go.Shelf
attribute [local go_sem] txt_size txt_append ib_fold txt_toL
/-- A document's table's cells. -/
def tbC (root : List UInt8) (v : Value) : Array Value := idVals root ++ #[v]
/-- A document's table's box. -/

structure TbK (W : World) (g : Nat) (root : List UInt8) (v : Value) : Prop where
  b : Blk W g 31 (tbC root v)
theorem TbK.below {W W' : World} {g : Nat} {root : List UInt8} {v : Value} (h : TbK W g root v) (hb : Below W.heap.size W W') : TbK W' g root v := ⟨h.b.below hb⟩
theorem TbK.key {W : World} {g : Nat} {root : List UInt8} {v : Value} (h : TbK W g root v) : W.rangeAt g 0 (root.map u8v) := fun j u hj => h.b.cell_ (by
  unfold tbC
  rw [Nat.zero_add, Array.getElem?_append_left (by have := (List.getElem?_eq_some_iff.1 hj).1; rw [List.length_map] at this; rw [idVals_size]; exact this)]
  unfold idVals
  rw [List.getElem?_toArray]
  exact hj)
theorem TbK.row {W : World} {g : Nat} {root : List UInt8} {v : Value} (h : TbK W g root v) (hR : root.length = 32) : W.cell? ⟨g, 32, none⟩ = some v := h.b.cell_ (by
  unfold tbC
  rw [Array.getElem?_append_right (by rw [idVals_size, hR]; exact Nat.le_refl _), idVals_size, hR]
  rfl)


set_option maxRecDepth 100000 in
set_option maxHeartbeats 20000000 in
theorem rcov19_any (p s : List UInt8) (hp : p.length ≤ 1000000) (hs : s.length ≤ 1000000) (w : World) : Calls Tryz.prog 17 #[.string (txt p), .string (txt s)] w fun e w' => e = .returned (.bool (covB p s)) ∧ w = w' := by
  have cC := rcovers_any p s hp hs w
  generalize covB p s = cv at *
  go_enter Tryz.func17, Tryz.ntmps17
  go_wp2_with (go_at_call 35; (with_reducible refine cC.mono ?_); rintro e3 w3 ⟨rfl, rfl⟩)
  go_ret
  exact ⟨rfl, rfl⟩
theorem depG_no {d : Int} {key s : List UInt8} {X : GrD} (h : ¬ (X.k = key ∧ covB X.p s = true)) : depG d key s X = d := by unfold depG; rw [if_neg h]
theorem depG_yes {d : Int} {key s : List UInt8} {X : GrD} (h1 : X.k = key) (h2 : covB X.p s = true) (h3 : d < X.d) : depG d key s X = X.d := by unfold depG; rw [if_pos ⟨h1, h2⟩]; omega
theorem depG_low {d : Int} {key s : List UInt8} {X : GrD} (h3 : ¬ d < X.d) : depG d key s X = d := by
  unfold depG
  split
  · omega
  · rfl

set_option maxRecDepth 100000 in
set_option maxHeartbeats 20000000 in
theorem rdepth19_any (root : List UInt8) (hR : root.length = 32) (A : Option Addr) (n c : Nat) (Xs : List GrD) (hn : Xs.length = n) (bn : n ≤ 1000) (hP : ∀ X ∈ Xs, X.p.length ≤ 1000000) (key : List UInt8) (hk : key.length = 32) (s : List UInt8) (hs : s.length ≤ 1000000) (w : World) (hr : GrRd w A Xs) :
    Calls Tryz.prog 16 #[.agg (tbC root (.slice A n c)), .agg (idVals key), .string (txt s)] w fun e w' => e = .returned (.int .i64 (depV root Xs key s)) ∧ Below w.heap.size w w' := by
  have hT : TbK (w.alloc (.cells (tbC root (.slice A n c)) 31)) w.heap.size root (.slice A n c) := ⟨Blk.new _ _ _⟩
  have hB0 := (Below.refl w.heap.size w).alloc (Nat.le_refl _) (.cells (tbC root (.slice A n c)) 31)
  have hK0 := Blk.new (w.alloc (.cells (tbC root (.slice A n c)) 31)) 23 (idVals key)
  rw [World.size_alloc] at hK0
  have hBk := (Below.refl (w.alloc (.cells (tbC root (.slice A n c)) 31)).heap.size (w.alloc (.cells (tbC root (.slice A n c)) 31))).alloc (Nat.le_refl _) (.cells (idVals key) 23)
  have hB1 := hB0.trans (hBk.mono hB0.size)
  have hT1 := hT.below hBk
  have hr1 := hr.below hB1
  have fr := hT1.key
  have f32 := hT1.row hR
  have fk := range_blk hK0
  have hu := Tryz.underlying23
  have hzk : (Tryz.prog.info? 23).map (·.size) = some (key.map u8v).length := by rw [List.length_map, hk]; exact sizeId
  have hzr : (Tryz.prog.info? 23).map (·.size) = some (root.map u8v).length := by rw [List.length_map, hR]; exact sizeId
  obtain ⟨t, hte⟩ : ∃ t, decide (key = root) = t := ⟨_, rfl⟩
  have heq : ∀ W, (Op.equalIn 10000 23 (.agg (List.map u8v key).toArray) (.agg (List.map u8v root).toArray)).run Tryz.prog W = .ok t W := fun W => (ids_eq W key root hk hR).trans (by rw [hte])
  have HT := hid hte
  have HN := hid hn
  have HP := hid hP
  clear hT hBk hB0 hr hte hn hP
  go_enter Tryz.func16, Tryz.ntmps16
  cases t with
  | true =>
    go_wp2_with (first | (with_reducible refine wpList_load_if (by with_unfolding_all rfl) 23 _ rfl _ _ rfl (key.map u8v) _ fk hu rfl hzk ?_) | (with_reducible refine wpList_load_if (by with_unfolding_all rfl) 23 _ rfl _ _ rfl (root.map u8v) _ fr hu rfl hzr ?_))
    go_ret
    exact ⟨by unfold depV; rw [if_pos (of_decide_eq_true HT.out)]; rfl, hB1⟩
  | false =>
    go_wp2_with (first | (with_reducible refine wpList_load_if (by with_unfolding_all rfl) 23 _ rfl _ _ rfl (key.map u8v) _ fk hu rfl hzk ?_) | (with_reducible refine wpList_load_if (by with_unfolding_all rfl) 23 _ rfl _ _ rfl (root.map u8v) _ fr hu rfl hzr ?_))
    generalize (w.alloc (.cells (tbC root (.slice A n c)) 31)).alloc (.cells (idVals key) 23) = w1 at *
    go_loopw [7, 8] (fun d i wr => ∃ k : Nat, k ≤ n ∧ i = .int .i64 k ∧ d = .int .i64 (depS (Xs.take k) key s) ∧ Below w1.heap.size w1 wr) (fun _ i _ => n - (intOf i).toNat)
    case atStart => exact ⟨0, by omega, rfl, rfl, Below.refl _ _⟩
    case round =>
      obtain ⟨k, hkn, rfl, rfl, hb⟩ := hrel
      by_cases hlt : k < n
      · obtain ⟨X, hX⟩ : ∃ X, Xs[k]? = some X := ⟨_, List.getElem?_eq_getElem (by have := HN.out; omega)⟩
        obtain ⟨g, q, hg, hXo, hix⟩ := hr1.pickR c HN.out hX
        have b1 : (k : Int) < n := by omega
        have fX := hg.below hb
        have hcell := gr_cell hb f32
        have hnw := RkX.new wr X
        have hba := (Below.refl wr.heap.size wr).alloc (Nat.le_refl _) (.cells X.cs 52)
        have fk2 := (fk.below hb).below hba
        have c0 := hnw.c0
        have c65 := hnw.c65 hXo
        have fy := hnw.key
        have hzx : (Tryz.prog.info? 23).map (·.size) = some (X.k.map u8v).length := by rw [List.length_map, hXo.1]; exact sizeId
        obtain ⟨t, hte⟩ : ∃ t, decide (X.k = key) = t := ⟨_, rfl⟩
        obtain ⟨cv, hcv⟩ : ∃ cv, covB X.p s = cv := ⟨_, rfl⟩
        have heq2 : ∀ W, (Op.equalIn 10000 23 (.agg (List.map u8v X.k).toArray) (.agg (List.map u8v key).toArray)).run Tryz.prog W = .ok t W := fun W => (ids_eq W X.k key hXo.1 hk).trans (by rw [hte])
        have cC := fun W => rcov19_any X.p s (HP.out X (List.mem_of_getElem? hX)) hs W
        rw [hcv] at cC
        have HD := hid (depS_snoc key s hX)
        have HTE := hid hte
        have HCV := hid hcv
        have HB := hid (hb.trans (hba.mono hb.size))
        have HLT := hid (show k + 1 ≤ n from hlt)
        clear hX hg hte hcv hb hba hr1 heq f32 fr
        generalize depS (Xs.take k) key s = d0 at *
        cases t with
        | false =>
          go_wp2_with (first
                      | (with_reducible refine wpList_load_rkr (by with_unfolding_all rfl) _ rfl _ _ rfl fX hXo ?_)
                      | (with_reducible refine wpList_store_rkn rfl _ _ rfl rfl rfl hXo (by with_unfolding_all rfl) ?_)
                      | (with_reducible refine wpList_load_if (by with_unfolding_all rfl) 23 _ rfl _ _ rfl (X.k.map u8v) _ fy hu rfl hzx ?_)
                      | (with_reducible refine wpList_load_if (by with_unfolding_all rfl) 23 _ rfl _ _ rfl (key.map u8v) _ fk2 hu rfl hzk ?_)
                      | (go_at_call 17; (with_reducible refine (cC _).mono ?_); rintro e3 w3 ⟨rfl, rfl⟩))
          go_roundw
          case rel => exact ⟨k + 1, HLT.out, by go_num, by rw [HD.out, depG_no (fun e => of_decide_eq_false HTE.out e.1)], HB.out⟩
          case measure => exact meas_k1 HLT.out
        | true =>
          cases cv with
          | false =>
            go_wp2_with (first
                        | (with_reducible refine wpList_load_rkr (by with_unfolding_all rfl) _ rfl _ _ rfl fX hXo ?_)
                        | (with_reducible refine wpList_store_rkn rfl _ _ rfl rfl rfl hXo (by with_unfolding_all rfl) ?_)
                        | (with_reducible refine wpList_load_if (by with_unfolding_all rfl) 23 _ rfl _ _ rfl (X.k.map u8v) _ fy hu rfl hzx ?_)
                        | (with_reducible refine wpList_load_if (by with_unfolding_all rfl) 23 _ rfl _ _ rfl (key.map u8v) _ fk2 hu rfl hzk ?_)
                        | (go_at_call 17; (with_reducible refine (cC _).mono ?_); rintro e3 w3 ⟨rfl, rfl⟩))
            go_roundw
            case rel => exact ⟨k + 1, HLT.out, by go_num, by rw [HD.out, depG_no (fun e => by rw [HCV.out] at e; exact Bool.noConfusion e.2)], HB.out⟩
            case measure => exact meas_k1 HLT.out
          | true =>
            by_cases hgt : d0 < X.d
            · have z1 : X.d > d0 := hgt
              go_wp2_with (first
                          | (with_reducible refine wpList_load_rkr (by with_unfolding_all rfl) _ rfl _ _ rfl fX hXo ?_)
                          | (with_reducible refine wpList_store_rkn rfl _ _ rfl rfl rfl hXo (by with_unfolding_all rfl) ?_)
                          | (with_reducible refine wpList_load_if (by with_unfolding_all rfl) 23 _ rfl _ _ rfl (X.k.map u8v) _ fy hu rfl hzx ?_)
                          | (with_reducible refine wpList_load_if (by with_unfolding_all rfl) 23 _ rfl _ _ rfl (key.map u8v) _ fk2 hu rfl hzk ?_)
                          | (go_at_call 17; (with_reducible refine (cC _).mono ?_); rintro e3 w3 ⟨rfl, rfl⟩))
              go_roundw
              case rel => exact ⟨k + 1, HLT.out, by go_num, by rw [HD.out, depG_yes (of_decide_eq_true HTE.out) HCV.out hgt], HB.out⟩
              case measure => exact meas_k1 HLT.out
            · have z1 : ¬ X.d > d0 := hgt
              have z2 : decide (d0 < X.d) = false := decide_eq_false hgt
              go_wp2_with (first
                          | (with_reducible refine wpList_load_rkr (by with_unfolding_all rfl) _ rfl _ _ rfl fX hXo ?_)
                          | (with_reducible refine wpList_store_rkn rfl _ _ rfl rfl rfl hXo (by with_unfolding_all rfl) ?_)
                          | (with_reducible refine wpList_load_if (by with_unfolding_all rfl) 23 _ rfl _ _ rfl (X.k.map u8v) _ fy hu rfl hzx ?_)
                          | (with_reducible refine wpList_load_if (by with_unfolding_all rfl) 23 _ rfl _ _ rfl (key.map u8v) _ fk2 hu rfl hzk ?_)
                          | (go_at_call 17; (with_reducible refine (cC _).mono ?_); rintro e3 w3 ⟨rfl, rfl⟩))
              go_roundw
              case rel => exact ⟨k + 1, HLT.out, by go_num, by rw [HD.out, depG_low (by omega)], HB.out⟩
              case measure => exact meas_k1 HLT.out
      · obtain rfl : k = n := by omega
        have c1 : ¬ (k : Int) < k := by omega
        have hcell := gr_cell hb f32
        have hd : depS (Xs.take k) key s = depV root Xs key s := by unfold depV; rw [if_neg (of_decide_eq_false HT.out), List.take_of_length_le (by rw [HN.out]; exact Nat.le_refl _)]
        rw [hd]
        clear hd
        go_wp2
        go_ret
        exact ⟨rfl, hB1.trans (hb.mono hB1.size)⟩

end Go.Proofs.YtapgiagpjplpdaaGreat
/- grant's document: less. -/
set_option linter.unusedSimpArgs false
set_option linter.unusedVariables false
namespace Go.Proofs.YtapgiagpjplpdaaGreat
open Go.RowKit Go.Qc Go.Shelf
attribute [local go_sem] txt_size txt_append ib_fold txt_toL
theorem bl_cmp : ∀ (a b : List UInt8), Go.Op.bytesLess a b = decide (Lib.compareBytes a b < 0)
  | [], [] => rfl
  | [], _ :: _ => rfl
  | _ :: _, [] => rfl
  | a :: x, b :: y => by
    rw [Go.Op.bytesLess, Lib.compareBytes, bl_cmp x y]
    by_cases h : a < b
    · rw [if_pos h]
      simp [h]
    · rw [if_neg h]
      by_cases h2 : b < a
      · rw [if_pos h2]
        have : a ≠ b := fun e => by subst e; exact h h2
        simp [h, this]
      · rw [if_neg h2]
        have : a = b := UInt8.le_antisymm (UInt8.not_lt.1 h2) (UInt8.not_lt.1 h)
        simp [h, this]
theorem cg_p {X Y : GrD} (h : X.p ≠ Y.p) : cmpG X Y = Lib.compareBytes X.p Y.p := by
  unfold cmpG; rw [or_four, if_neg (fun e => h (cmp_zero _ _ e))]
theorem cg_k {X Y : GrD} (h : X.p = Y.p) (h2 : X.k ≠ Y.k) : cmpG X Y = Lib.compareBytes X.k Y.k := by
  unfold cmpG; rw [or_four, h, if_pos (cmp_refl _), if_neg (fun e => h2 (cmp_zero _ _ e))]
theorem cg_b {X Y : GrD} (h : X.p = Y.p) (h2 : X.k = Y.k) (h3 : X.b ≠ Y.b) : cmpG X Y = Lib.compareBytes X.b Y.b := by
  unfold cmpG; rw [or_four, h, if_pos (cmp_refl _), h2, if_pos (cmp_refl _), if_neg (fun e => h3 (cmp_zero _ _ e))]
theorem cg_d {X Y : GrD} (h : X.p = Y.p) (h2 : X.k = Y.k) (h3 : X.b = Y.b) : cmpG X Y < 0 ↔ X.d < Y.d := by
  unfold cmpG
  rw [or_four, h, if_pos (cmp_refl _), h2, if_pos (cmp_refl _), h3, if_pos (cmp_refl _)]
  have hc := @cmpi_neg X.d Y.d
  by_cases e : Lib.compareInt X.d Y.d = 0
  · rw [if_pos e, ← hc, e]
  · rw [if_neg e, hc]

set_option maxRecDepth 100000 in
set_option maxHeartbeats 20000000 in
theorem less19_any (X Y : GrD) (hX : X.ok) (hY : Y.ok) (w : World) :
    Calls Tryz.prog 52 #[.agg X.cs, .agg Y.cs] w fun e w' => e = .returned (.bool (decide (cmpG X Y < 0))) ∧ Below w.heap.size w w' := by
  have hnx := RkX.new w X
  have hb1 := (Below.refl w.heap.size w).alloc (Nat.le_refl _) (.cells X.cs 52)
  have hny := RkX.new (w.alloc (.cells X.cs 52)) Y
  rw [World.size_alloc] at hny
  have hb2 := (Below.refl (w.alloc (.cells X.cs 52)).heap.size (w.alloc (.cells X.cs 52))).alloc (Nat.le_refl _) (.cells Y.cs 52)
  have hB := hb1.trans (hb2.mono hb1.size)
  have hnx2 := hnx.below hb2
  have hu := Tryz.underlying23
  have hzxk : (Tryz.prog.info? 23).map (·.size) = some (X.k.map u8v).length := by rw [List.length_map, hX.1]; exact sizeId
  have hzxb : (Tryz.prog.info? 23).map (·.size) = some (X.b.map u8v).length := by rw [List.length_map, hX.2]; exact sizeId
  have hzyk : (Tryz.prog.info? 23).map (·.size) = some (Y.k.map u8v).length := by rw [List.length_map, hY.1]; exact sizeId
  have hzyb : (Tryz.prog.info? 23).map (·.size) = some (Y.b.map u8v).length := by rw [List.length_map, hY.2]; exact sizeId
  have fxk := hnx2.key
  have fxb := hnx2.by_ hX
  have fyk := hny.key
  have fyb := hny.by_ hY
  have x0 := hnx2.c0
  have y0 := hny.c0
  have x65 := hnx2.c65 hX
  have y65 := hny.c65 hY
  have cK := fun W => rless_any X.k Y.k hX.1 hY.1 W
  have cB := fun W => rless_any X.b Y.b hX.2 hY.2 W
  unfold idVals at cK cB
  have hek : ∀ W, (Op.equalIn 10000 23 (.agg (List.map u8v X.k).toArray) (.agg (List.map u8v Y.k).toArray)).run Tryz.prog W = .ok (decide (X.k = Y.k)) W := fun W => ids_eq W X.k Y.k hX.1 hY.1
  have heb : ∀ W, (Op.equalIn 10000 23 (.agg (List.map u8v X.b).toArray) (.agg (List.map u8v Y.b).toArray)).run Tryz.prog W = .ok (decide (X.b = Y.b)) W := fun W => ids_eq W X.b Y.b hX.2 hY.2
  obtain ⟨r, hr⟩ : ∃ r, decide (cmpG X Y < 0) = r := ⟨_, rfl⟩
  rw [hr]
  have HR := hid hr
  clear hr hnx hny hnx2 hb1 hb2
  by_cases h1 : X.p = Y.p
  · have z1 : (X.p == Y.p) = true := by rw [h1]; exact beq_self_eq_true _
    by_cases h2 : X.k = Y.k
    · rw [decide_eq_true h2] at hek
      by_cases h3 : X.b = Y.b
      · rw [decide_eq_true h3] at heb
        have hc : decide (X.d < Y.d) = r := by rw [← HR.out]; exact (decide_eq_decide.2 (cg_d h1 h2 h3)).symm
        have HC := hid hc
        have HP := hid h1
        clear h1 h2 h3 hc HR
        go_enter Tryz.func52, Tryz.ntmps52
        go_wp2_with (first | (with_reducible refine wpList_load_if (by with_unfolding_all rfl) 23 _ rfl _ _ rfl (X.k.map u8v) _ fxk hu rfl hzxk ?_) | (with_reducible refine wpList_load_if (by with_unfolding_all rfl) 23 _ rfl _ _ rfl (Y.k.map u8v) _ fyk hu rfl hzyk ?_) | (with_reducible refine wpList_load_if (by with_unfolding_all rfl) 23 _ rfl _ _ rfl (X.b.map u8v) _ fxb hu rfl hzxb ?_) | (with_reducible refine wpList_load_if (by with_unfolding_all rfl) 23 _ rfl _ _ rfl (Y.b.map u8v) _ fyb hu rfl hzyb ?_))
        go_ret
        exact ⟨by rw [← HC.out]; rfl, hB⟩
      · rw [decide_eq_false h3] at heb
        have hc : ltB X.b Y.b = r := by rw [← HR.out, cg_b h1 h2 h3]; rfl
        rw [hc] at cB
        clear h1 h2 h3 hc HR
        go_enter Tryz.func52, Tryz.ntmps52
        go_wp2_with (first | (with_reducible refine wpList_load_if (by with_unfolding_all rfl) 23 _ rfl _ _ rfl (X.k.map u8v) _ fxk hu rfl hzxk ?_) | (with_reducible refine wpList_load_if (by with_unfolding_all rfl) 23 _ rfl _ _ rfl (Y.k.map u8v) _ fyk hu rfl hzyk ?_) | (with_reducible refine wpList_load_if (by with_unfolding_all rfl) 23 _ rfl _ _ rfl (X.b.map u8v) _ fxb hu rfl hzxb ?_) | (with_reducible refine wpList_load_if (by with_unfolding_all rfl) 23 _ rfl _ _ rfl (Y.b.map u8v) _ fyb hu rfl hzyb ?_) | (go_at_call 62; (with_reducible refine (cB _).mono ?_); rintro e3 w3 ⟨rfl, hb3⟩))
        go_ret
        exact ⟨rfl, hB.trans (hb3.mono hB.size)⟩
    · rw [decide_eq_false h2] at hek
      have hc : ltB X.k Y.k = r := by rw [← HR.out, cg_k h1 h2]; rfl
      rw [hc] at cK
      clear h1 h2 hc HR
      go_enter Tryz.func52, Tryz.ntmps52
      go_wp2_with (first | (with_reducible refine wpList_load_if (by with_unfolding_all rfl) 23 _ rfl _ _ rfl (X.k.map u8v) _ fxk hu rfl hzxk ?_) | (with_reducible refine wpList_load_if (by with_unfolding_all rfl) 23 _ rfl _ _ rfl (Y.k.map u8v) _ fyk hu rfl hzyk ?_) | (go_at_call 62; (with_reducible refine (cK _).mono ?_); rintro e3 w3 ⟨rfl, hb3⟩))
      go_ret
      exact ⟨rfl, hB.trans (hb3.mono hB.size)⟩
  · have z1 : (X.p == Y.p) = false := by rw [beq_eq_false_iff_ne]; exact h1
    have hc : Go.Op.bytesLess X.p Y.p = r := by rw [← HR.out, bl_cmp, cg_p h1]
    have HC := hid hc
    have HP := hid h1
    clear h1 hc HR
    go_enter Tryz.func52, Tryz.ntmps52
    go_wp2_with (fail)
    go_ret
    exact ⟨by rw [← HC.out]; rfl, hB⟩

end Go.Proofs.YtapgiagpjplpdaaGreat
/- grant's document: two grants compared. -/
set_option linter.unusedSimpArgs false
set_option linter.unusedVariables false
namespace Go.Proofs.YtapgiagpjplpdaaGreat
open Go.RowKit Go.Qc Go.Shelf
theorem run_ids9 {P : Program} (w : World) (t e : TypeId) (n : Nat) (i : TypeInfo) (hu : P.underlying t = some (.array n e)) (hi : P.info? e = some i) (h1 : P.cellsOf e = 1) (he : P.underlying e = some (.int .u8)) (A B : List UInt8) (hA : A.length = n) (hB : B.length = n) :
    (Op.equalIn 9999 t (.agg (idVals A)) (.agg (idVals B))).run P w = .ok (decide (A = B)) w := by
  rw [show (9999 : Nat) = 9998 + 1 from rfl, run_equalIn_array w 9998 _ _ hu hi, h1, show (9998 : Nat) = 9997 + 1 from rfl, run_items_bytes w 9997 e he A B (by omega) _ (fun j hj => by rw [hA]; exact List.mem_range.1 hj)]
  congr 1
  rw [Bool.eq_iff_iff]
  simp only [List.all_eq_true, List.mem_range, beq_iff_eq, decide_eq_true_eq]
  constructor
  · intro h
    apply List.ext_getElem?
    intro j
    by_cases hj : j < n
    · exact h j hj
    · rw [List.getElem?_eq_none (by omega), List.getElem?_eq_none (by omega)]
  · intro h j _
    rw [h]
theorem ids_eq9 (w : World) (A B : List UInt8) (hA : A.length = 32) (hB : B.length = 32) :
    (Op.equalIn 9999 23 (.agg (idVals A)) (.agg (idVals B))).run Tryz.prog w = .ok (decide (A = B)) w := by
  obtain ⟨i0, hi, hz0, hz1, hz2⟩ := info_parts infoByte
  exact run_ids9 w _ 5 32 i0 Tryz.underlying23 hi (by kernel_rfl) Tryz.underlying5 A B hA hB
set_option maxRecDepth 100000 in
set_option maxHeartbeats 20000000 in
theorem gr_parts (X : GrD) (h : X.ok) (W : World) :
    (part 9 X.cs 0).run Tryz.prog W = .ok (.string (txt X.p)) W ∧ (part 23 X.cs 1).run Tryz.prog W = .ok (.agg (idVals X.k)) W ∧ (part 23 X.cs 33).run Tryz.prog W = .ok (.agg (idVals X.b)) W ∧ (part 3 X.cs 65).run Tryz.prog W = .ok (.int .i64 X.d) W := by
  obtain ⟨p, k, b, d⟩ := X
  obtain ⟨hk, hb⟩ := h
  simp only at hk hb
  obtain ⟨x0, x1, x2, x3, x4, x5, x6, x7, x8, x9, x10, x11, x12, x13, x14, x15, x16, x17, x18, x19, x20, x21, x22, x23, x24, x25, x26, x27, x28, x29, x30, x31, rfl⟩ := list32g k hk
  obtain ⟨y0, y1, y2, y3, y4, y5, y6, y7, y8, y9, y10, y11, y12, y13, y14, y15, y16, y17, y18, y19, y20, y21, y22, y23, y24, y25, y26, y27, y28, y29, y30, y31, rfl⟩ := list32g b hb
  exact ⟨by kernel_rfl, by kernel_rfl, by kernel_rfl, by kernel_rfl⟩
theorem eqF_cons {P : Program} (d : Nat) (xs ys : Array Value) (f : Field) (fs : List Field) (W : World) (a b : Value) (r q : Bool) (hn : (f.name == "_") = false) (ha : (part f.type xs f.offset).run P W = .ok a W) (hb : (part f.type ys f.offset).run P W = .ok b W) (he : (Op.equalIn d f.type a b).run P W = .ok r W) (hq : (Op.eqFields d xs ys fs).run P W = .ok q W) :
    (Op.eqFields d xs ys (f :: fs)).run P W = .ok (r && q) W := by
  have hn' : f.name ≠ "_" := by intro e; rw [e] at hn; simp at hn
  rw [Op.eqFields, if_pos hn']
  simp only [Sem.run_bind, ha, hb, he, Result.andThen_ok]
  cases r
  · simp
  · simpa using hq
theorem eqF_nil {P : Program} (d : Nat) (xs ys : Array Value) (W : World) : (Op.eqFields d xs ys []).run P W = .ok true W := by
  simp [Op.eqFields]
theorem grk_run (X Y : GrD) (hX : X.ok) (hY : Y.ok) (W : World) (q0 q1 q2 q3 : Bool) (e0 : (Op.equalIn 9999 9 (.string (txt X.p)) (.string (txt Y.p))).run Tryz.prog W = .ok q0 W) (e1 : (Op.equalIn 9999 23 (.agg (idVals X.k)) (.agg (idVals Y.k))).run Tryz.prog W = .ok q1 W) (e2 : (Op.equalIn 9999 23 (.agg (idVals X.b)) (.agg (idVals Y.b))).run Tryz.prog W = .ok q2 W) (e3 : (Op.equalIn 9999 3 (.int .i64 X.d) (.int .i64 Y.d)).run Tryz.prog W = .ok q3 W) :
    (Op.equalIn (9999 + 1) 52 (.agg X.cs) (.agg Y.cs)).run Tryz.prog W = .ok (q0 && (q1 && (q2 && q3))) W := by
  have hs : Tryz.prog.stoodInHeld 52 = false := by kernel_rfl
  have hu := Tryz.underlying52
  have ht : Tryz.prog.underlying 52 = some (.struct (Tryz.prog.fieldsOf 52)) := by
    unfold Program.fieldsOf; rw [hu]
  obtain ⟨a0, a1, a2, a3⟩ := gr_parts X hX W
  obtain ⟨b0, b1, b2, b3⟩ := gr_parts Y hY W
  rw [run_equalIn_struct W 9999 _ _ _ ht hs]
  unfold Program.fieldsOf
  rw [hu]
  have h := eqF_cons 9999 X.cs Y.cs ({ name := "Prefix", type := 9, offset := 0, embedded := false, tag := "", pkgPath := "", byteOffset := 0 } : Field) _ W _ _ q0 _ (by decide) a0 b0 e0 (eqF_cons 9999 X.cs Y.cs ({ name := "Key", type := 23, offset := 1, embedded := false, tag := "", pkgPath := "", byteOffset := 16 } : Field) _ W _ _ q1 _ (by decide) a1 b1 e1 (eqF_cons 9999 X.cs Y.cs ({ name := "By", type := 23, offset := 33, embedded := false, tag := "", pkgPath := "", byteOffset := 48 } : Field) _ W _ _ q2 _ (by decide) a2 b2 e2 (eqF_cons 9999 X.cs Y.cs ({ name := "Depth", type := 3, offset := 65, embedded := false, tag := "", pkgPath := "", byteOffset := 80 } : Field) _ W _ _ q3 _ (by decide) a3 b3 e3 (eqF_nil 9999 X.cs Y.cs W))))
  rw [Bool.and_true] at h
  exact h
theorem grk_q (X Y : GrD) : ((X.p == Y.p) && (decide (X.k = Y.k) && (decide (X.b = Y.b) && (X.d == Y.d)))) = (cmpG X Y == 0) := by
  rw [Bool.eq_iff_iff]
  simp only [Bool.and_eq_true, beq_iff_eq, decide_eq_true_eq]
  constructor
  · rintro ⟨h0, h1, h2, h3⟩
    have : X = Y := by cases X; cases Y; simp only at h0 h1 h2 h3; subst h0 h1 h2 h3; rfl
    rw [this]
    exact cmpG_refl Y
  · intro h
    have := cmpG_zero h
    subst this
    exact ⟨rfl, rfl, rfl, rfl⟩
theorem grk_eq (X Y : GrD) (hX : X.ok) (hY : Y.ok) (W : World) : (Op.equalIn 10000 52 (.agg X.cs) (.agg Y.cs)).run Tryz.prog W = .ok (cmpG X Y == 0) W := by
  have e0 : (Op.equalIn 9999 9 (.string (txt X.p)) (.string (txt Y.p))).run Tryz.prog W = .ok (X.p == Y.p) W := by
    rw [show (9999 : Nat) = 9998 + 1 from rfl, run_equalIn_string W 9998 _ _ _ Tryz.underlying9, txt_toL, txt_toL]
  have e3 : (Op.equalIn 9999 3 (.int .i64 X.d) (.int .i64 Y.d)).run Tryz.prog W = .ok (X.d == Y.d) W := by
    rw [show (9999 : Nat) = 9998 + 1 from rfl, run_equalIn_int W 9998 _ .i64 .i64 _ _ Tryz.underlying3]
  have := grk_run X Y hX hY W _ _ _ _ e0 (ids_eq9 W X.k Y.k hX.1 hY.1) (ids_eq9 W X.b Y.b hX.2 hY.2) e3
  rw [grk_q] at this
  exact this
end Go.Proofs.YtapgiagpjplpdaaGreat
/- grant's document: Same, of the same grants. -/
set_option linter.unusedSimpArgs false
set_option linter.unusedVariables false
namespace Go.Proofs.YtapgiagpjplpdaaGreat
open Go.RowKit Go.Qc Go.Shelf
attribute [local go_sem] txt_size txt_append ib_fold txt_toL

set_option maxRecDepth 100000 in
set_option maxHeartbeats 20000000 in
theorem rsame19_any (A : Option Addr) (n c : Nat) (B : Option Addr) (d : Nat) (Xs : List GrD) (hn : Xs.length = n) (bn : n ≤ 1000) (w : World) (rA : GrRd w A Xs) (rB : GrRd w B Xs) :
    Calls Tryz.prog 12 #[.slice A n c, .slice B n d] w fun e w' => e = .returned (.bool true) ∧ Below w.heap.size w w' := by
  have HN := hid hn
  have hu := Tryz.underlying52
  clear hn
  go_enter Tryz.func12, Tryz.ntmps12
  go_wp2
  go_loopw [5] (fun i wr => ∃ k : Nat, k ≤ n ∧ i = .int .i64 k ∧ Below w.heap.size w wr) (fun i _ => n - (intOf i).toNat)
  case atStart => exact ⟨0, by omega, rfl, Below.refl _ _⟩
  case round =>
    obtain ⟨k, hkn, rfl, hb⟩ := hrel
    by_cases hlt : k < n
    · obtain ⟨X, hX⟩ : ∃ X, Xs[k]? = some X := ⟨_, List.getElem?_eq_getElem (by have := HN.out; omega)⟩
      obtain ⟨g1, q1, hg1, hXo, hix1⟩ := rA.pickR c HN.out hX
      obtain ⟨g2, q2, hg2, _, hix2⟩ := rB.pickR d HN.out hX
      have b1 : (k : Int) < n := by omega
      have f1 := range_later (hg1.below hb)
      have f2 := range_later (hg2.below hb)
      have hz : (Tryz.prog.info? 52).map (·.size) = some X.cs.toList.length := by rw [Rk_info X hXo, Array.length_toList]
      have heq : ∀ W, (Op.equalIn 10000 52 (.agg X.cs) (.agg X.cs)).run Tryz.prog W = .ok true W := fun W => by
        rw [grk_eq X X hXo hXo W, cmpG_refl]; rfl
      have HLT := hid (show k + 1 ≤ n from hlt)
      have hsz := hb.size
      clear hX hg1 hg2
      go_wp2
      refine wp_region_later mixed10 (by kernel_rfl) ?_
      repeat (first
        | ((with_reducible refine wpQuiet_load_if (by with_unfolding_all rfl) 52 _ rfl _ _ rfl X.cs.toList _ f1 hu (by with_unfolding_all rfl) hz ?_); simp only [Act.put, List.setIfInBounds_toArray, List.set_cons_zero, List.set_cons_succ])
        | ((with_reducible refine wpQuiet_load_if (by with_unfolding_all rfl) 52 _ rfl _ _ rfl X.cs.toList _ f2 hu (by with_unfolding_all rfl) hz ?_); simp only [Act.put, List.setIfInBounds_toArray, List.set_cons_zero, List.set_cons_succ])
        | ((with_reducible refine wpQuiet_step (fun K hK => ?_)); go_simp; first | ((with_reducible refine hK _ ?_); clear hK K) | (with_reducible apply Exists.intro; (with_reducible refine ⟨fun P => ?_, hK _ ?_⟩); ((fail)); clear hK K))
        | ((with_reducible refine BigFrame.wpQuiet_skip (by first | kernel_rfl | with_unfolding_all rfl) ?_); simp only [Act.put, List.setIfInBounds_toArray, List.set_cons_zero, List.set_cons_succ]))
      with_reducible refine wpQuiet_nil ?_
      intro _ hw9
      obtain ⟨P9, rfl⟩ := hw9
      have hb9 := hb.trans (P9.h.mono hsz)
      generalize P9.w = w4 at *
      go_wp2
      go_roundw
      case rel => exact ⟨k + 1, HLT.out, by go_num, hb9⟩
      case measure => exact meas_k1 HLT.out
    · obtain rfl : k = n := by omega
      have c1 : ¬ (k : Int) < k := by omega
      go_wp2
      go_ret
      exact ⟨rfl, hb⟩

end Go.Proofs.YtapgiagpjplpdaaGreat
/- grant's law: Plain. -/
set_option linter.unusedSimpArgs false
set_option linter.unusedVariables false
namespace Go.Proofs.YtapgiagpjplpdaaGreat
open Go.RowKit Go.Qc Go.Shelf
attribute [local go_sem] txt_size txt_append ib_fold txt_toL

theorem wp_build1k {w : World} {o : Oper} {a : Act} {K : Act → World → Prop} {Q : Exit → Act → World → Prop} (x : Operand) (ho : o.op = .buildSlice 29 1 #[(0, x)])
    (X : GrD) (hX : X.ok) (hx : a.eval x = .agg X.cs)
    (h : ∀ cs, GrRd (w.alloc (.cells cs 52)) (some ⟨w.heap.size, 0, none⟩) [X] → K (a.put o.dst (.slice (some ⟨w.heap.size, 0, none⟩) 1 1)) (w.alloc (.cells cs 52))) :
    o.wp Tryz.prog a w K Q := by
  obtain ⟨j0, Z, hj, hjz, hjs, hZ, _⟩ := Rk_info4
  have lx : X.cs.size = 66 := GrD.size hX
  obtain ⟨zs, hzs⟩ : ∃ zs : Array Value, zs = (Array.range (1 * j0.size)).map ((Value.agg Z).cells[· % (Value.agg Z).cells.size]!) := ⟨_, rfl⟩
  have hz : zs.size = 66 := by rw [hzs, hjs]; simp
  obtain ⟨s1, g1⟩ := put_get_G 0 X.cs zs (by rw [hz, lx]; decide)
  generalize hc1 : X.cs.zipIdx.foldl (fun cs (c, j) => cs.setIfInBounds (0 + j) c) zs = c1 at s1 g1
  refine wp_buildSlice 29 52 1 #[(0, x)] ho c1 j0 (.agg Z) Tryz.underlying29 hj hjz (by rw [hjs]; decide) (by rw [hjs]; decide) ?_ (h c1 ⟨fun Y hY => by rw [List.mem_singleton.1 hY]; exact hX, .inr ⟨w.heap.size, 0, rfl, ?_⟩⟩)
  · rw [← hzs, hjs]
    have e1 : (Value.agg X.cs).cells = X.cs := rfl
    simp only [List.map_toArray, List.map_cons, List.map_nil, hx, Instr.fill, e1, lx, hz]
    rw [if_neg (by decide)]
    simp only [Nat.zero_mul]
    rw [hc1]
  · intro j u hj'
    have hj2 : X.cs.toList[j]? = some u := by simpa [grsV] using hj'
    have hlt : j < 66 := by have := (List.getElem?_eq_some_iff.1 hj2).1; rw [Array.length_toList, lx] at this; exact this
    rw [cell_of_row _ _ _ _ _ _ (heap_alloc_new w _), Nat.zero_add, g1, lx, if_pos (by omega), Nat.sub_zero]
    exact hj2


theorem wpList_build1k {w : World} {ops : Array Oper} {rest : List Oper} {o : Oper} {a : Act} {Q : Exit → Act → World → Prop} (hgd : o.guard = none) (x : Operand) (ho : o.op = .buildSlice 29 1 #[(0, x)])
    (X : GrD) (hX : X.ok) (hx : a.eval x = .agg X.cs)
    (h : ∀ cs, GrRd (w.alloc (.cells cs 52)) (some ⟨w.heap.size, 0, none⟩) [X] → wpList Tryz.prog ops Q rest (a.put o.dst (.slice (some ⟨w.heap.size, 0, none⟩) 1 1)) (w.alloc (.cells cs 52))) :
    wpList Tryz.prog ops Q (o :: rest) a w := wpList_plain hgd fun K' hK' => wp_build1k x ho X hX hx (fun cs hr => hK' _ _ (h cs hr))

set_option maxRecDepth 100000 in
set_option maxHeartbeats 20000000 in
theorem build_grk (X : GrD) (h : X.ok) (W : World) : (Instr.build 52 #[(0, .string (txt X.p)), (1, .agg (List.map u8v X.k).toArray), (2, .agg (List.map u8v X.b).toArray), (3, .int .i64 X.d)]).run Tryz.prog W = .ok (.agg X.cs) W := by
  obtain ⟨p, k, b, d⟩ := X
  obtain ⟨hk, hb⟩ := h
  simp only at hk hb
  obtain ⟨x0, x1, x2, x3, x4, x5, x6, x7, x8, x9, x10, x11, x12, x13, x14, x15, x16, x17, x18, x19, x20, x21, x22, x23, x24, x25, x26, x27, x28, x29, x30, x31, rfl⟩ := list32g k hk
  obtain ⟨y0, y1, y2, y3, y4, y5, y6, y7, y8, y9, y10, y11, y12, y13, y14, y15, y16, y17, y18, y19, y20, y21, y22, y23, y24, y25, y26, y27, y28, y29, y30, y31, rfl⟩ := list32g b hb
  kernel_rfl

set_option maxRecDepth 100000 in
set_option maxHeartbeats 20000000 in
theorem rplain_any (A : Option Addr) (n c : Nat) (Xs : List GrD) (hn : Xs.length = n) (bn : n ≤ 900) (w : World) (rA : GrRd w A Xs) :
    Calls Tryz.prog 13 #[.slice A n c] w fun e w' => ∃ v, e = .returned v ∧ RkOw w' w.heap.size v n Xs ∧ Below w.heap.size w w' := by
  have HN := hid hn
  have hu := Tryz.underlying23
  clear hn
  go_enter Tryz.func13, Tryz.ntmps13
  go_wp2
  go_loopw [3, 8] (fun v i wr => ∃ k : Nat, k ≤ n ∧ i = .int .i64 k ∧ RkOw wr w.heap.size v k (Xs.take k) ∧ Below w.heap.size w wr) (fun _ i _ => n - (intOf i).toNat)
  case atStart => exact ⟨0, by omega, rfl, RkOw.none_ _ _, Below.refl _ _⟩
  case round =>
    obtain ⟨k, hkn, rfl, hown, hb⟩ := hrel
    by_cases hlt : k < n
    · obtain ⟨X, hX⟩ : ∃ X, Xs[k]? = some X := ⟨_, List.getElem?_eq_getElem (by have := HN.out; omega)⟩
      obtain ⟨g, q, hg, hXo, hix⟩ := rA.pick c HN.out hX
      have b1 : (k : Int) < n := by omega
      have fX := hg.below hb
      have hnw := GrX.new wr X
      have hba := (Below.refl wr.heap.size wr).alloc (Nat.le_refl _) (.cells X.cs 70)
      have c0 := hnw.c0
      have c65 := hnw.c65 hXo
      have fk := hnw.key
      have fb := hnw.by_ hXo
      have hzk : (Tryz.prog.info? 23).map (·.size) = some (X.k.map u8v).length := by rw [List.length_map, hXo.1]; exact sizeId
      have hzb : (Tryz.prog.info? 23).map (·.size) = some (X.b.map u8v).length := by rw [List.length_map, hXo.2]; exact sizeId
      have bg := build_grk X hXo
      have hown1 := hown.below hba
      have hb1 := hb.trans (hba.mono hb.size)
      have hw8 : wrap64 ((k : Int) + 1) = (k : Int) + 1 := by unfold wrap64; omega
      have HLT := hid (show k + 1 ≤ n from hlt)
      have HS := hid (take_snoc hX)
      clear hX hg hown hba hb
      go_wp2_with (first
        | (with_reducible refine wpList_load_grr (by with_unfolding_all rfl) _ rfl _ _ rfl fX hXo ?_)
        | (with_reducible refine wpList_store_grn rfl _ _ rfl rfl rfl hXo (by with_unfolding_all rfl) ?_)
        | (with_reducible refine wpList_load_if (by with_unfolding_all rfl) 23 _ rfl _ _ rfl (X.k.map u8v) _ fk hu rfl hzk ?_)
        | (with_reducible refine wpList_load_if (by with_unfolding_all rfl) 23 _ rfl _ _ rfl (X.b.map u8v) _ fb hu rfl hzb ?_)
        | (with_reducible refine wpList_build_by rfl _ _ rfl _ _ bg (by with_unfolding_all rfl) ?_)
        | ((with_reducible refine wpList_build1k rfl _ rfl X hXo rfl ?_); intro cs hrow; have hal2 := (Below.refl (wr.alloc (.cells X.cs 70)).heap.size (wr.alloc (.cells X.cs 70))).alloc (Nat.le_refl _) (.cells cs 52); have hown2 := hown1.below hal2; have hb2 := hb1.trans (hal2.mono hb1.size))
        | (at_builtin; refine wpList_append_rk rfl _ _ rfl w.heap.size _ k (Xs.take k) rfl hown2 _ 1 1 [X] rfl rfl (fun h => by cases h) hrow (by omega) hb2.size ?_; intro v' w' hown' hg'; have hb3 := hown2.grown hg' (Nat.le_refl _) hb2 hb2.size))
      go_roundw
      case rel => exact ⟨k + 1, HLT.out, by go_num, by rw [HS.out]; exact hown', hb3⟩
      case measure => exact meas_k1 HLT.out
    · obtain rfl : k = n := by omega
      have c1 : ¬ (k : Int) < k := by omega
      rw [List.take_of_length_le (by rw [HN.out]; exact Nat.le_refl _)] at hown
      go_wp2
      go_ret
      exact ⟨_, rfl, hown, hb⟩

end Go.Proofs.YtapgiagpjplpdaaGreat
/- grant's document: put. -/
set_option linter.unusedSimpArgs false
set_option linter.unusedVariables false
namespace Go.Proofs.YtapgiagpjplpdaaGreat
open Go.RowKit Go.Qc Go.Shelf
attribute [local go_sem] txt_size txt_append ib_fold txt_toL
def putRG (d : Bool) (R : List GrD) (Y : GrD) : List GrD := if d = true then R else putGD R Y

set_option maxRecDepth 100000 in
set_option maxHeartbeats 20000000 in
theorem rput19_any (A : Option Addr) (n c : Nat) (Xs : List GrD) (Y : GrD) (hY : Y.ok) (w : World) (hn : Xs.length = n) (bn : n ≤ 900) (hr : GrRd w A Xs) :
    Calls Tryz.prog 30 #[.slice A n c, .agg Y.cs] w fun e w' => ∃ v, e = .returned v ∧ RkOw w' w.heap.size v (putGD Xs Y).length (putGD Xs Y) ∧ Below w.heap.size w w' := by
  have HN := hid hn
  have hK := hr.1
  clear hn
  have hu := Tryz.underlying52
  have hw0 := (Below.refl w.heap.size w).alloc (Nat.le_refl _) (.cells Y.cs 52)
  have hbx := RkX.new w Y
  go_enter Tryz.func30, Tryz.ntmps30
  go_upto_region 1 with (fail)
  generalize w.alloc (.cells Y.cs 52) = W0 at *
  have hb0 := (Below.refl W0.heap.size W0).alloc (Nat.le_refl _) (.cells #[] 52)
  have ho0 := RkOw.made W0
  have fY : ∀ W, Below W0.heap.size W0 W → W.rangeAt w.heap.size 0 Y.cs.toList := fun W h j u hj => by
    rw [Nat.zero_add]
    exact (hbx.below h).b.cell_ (by rw [← Array.getElem?_toList]; exact hj)
  have fR : GrRd W0 A Xs := hr.below hw0
  have hzY : (Tryz.prog.info? 52).map (·.size) = some Y.cs.toList.length := by rw [Rk_info Y hY, Array.length_toList]
  clear hr hbx
  go_wp2
  go_loopw [5, 6, 7] (fun v dv j wr => ∃ (k m : Nat) (Os : List GrD) (d : Bool), k ≤ n ∧ m ≤ k + 1 ∧ dv = .bool d ∧ j = .int .i64 k ∧ RkOw wr W0.heap.size v m Os ∧ Below W0.heap.size W0 wr ∧ Hid (putGD Xs Y = Os ++ putRG d (Xs.drop k) Y ∧ (d = false → m ≤ k) ∧ ∀ X ∈ Os, X.ok)) (fun _ _ j _ => n - (intOf j).toNat)
  case atStart => exact ⟨0, 0, [], false, by omega, by omega, rfl, rfl, ho0, hb0, hid ⟨by rw [List.drop_zero]; rfl, fun _ => Nat.le_refl _, by simp⟩⟩
  case round =>
    clear hb0 ho0
    obtain ⟨k, m, Os, d, hk, hm, rfl, rfl, hown, hb, HI⟩ := hrel
    by_cases hlt : k < n
    · obtain ⟨X, hXk⟩ : ∃ X, Xs[k]? = some X := ⟨_, List.getElem?_eq_getElem (by rw [HN.out]; exact hlt)⟩
      obtain ⟨g, q, hg, hXo, hix⟩ := fR.pickR c HN.out hXk
      have fX : ∀ W, Below W0.heap.size W0 W → W.rangeAt g q X.cs.toList := fun W h => hg.below h
      have lX := range_later (fX wr hb)
      have lY := range_later (fY wr hb)
      have hzX : (Tryz.prog.info? 52).map (·.size) = some X.cs.toList.length := by rw [Rk_info X hXo, Array.length_toList]
      have hdr : Xs.drop k = X :: Xs.drop (k + 1) := by
        obtain ⟨h1, h2⟩ := List.getElem?_eq_some_iff.1 hXk
        rw [List.drop_eq_getElem_cons h1, h2]
      have HDR := hid hdr
      have b1 : (k : Int) < n := by omega
      have HLT := hid (show k + 1 ≤ n from hlt)
      have cL := fun W => less19_any Y X hY hXo W
      clear hXk hg hdr
      cases d with
      | true =>
        go_wp2
        refine wp_region_later mixed10 (by kernel_rfl) ?_
        repeat (first
          | ((with_reducible refine wpQuiet_load_if (by with_unfolding_all rfl) 52 _ rfl _ _ rfl Y.cs.toList _ lY hu (by with_unfolding_all rfl) hzY ?_); simp only [Act.put, List.setIfInBounds_toArray, List.set_cons_zero, List.set_cons_succ])
          | ((with_reducible refine wpQuiet_load_if (by with_unfolding_all rfl) 52 _ rfl _ _ rfl X.cs.toList _ lX hu (by with_unfolding_all rfl) hzX ?_); simp only [Act.put, List.setIfInBounds_toArray, List.set_cons_zero, List.set_cons_succ])
          | ((with_reducible refine wpQuiet_step (fun K hK => ?_)); go_simp; first | ((with_reducible refine hK _ ?_); clear hK K) | (with_reducible apply Exists.intro; (with_reducible refine ⟨fun P => ?_, hK _ ?_⟩); ((go_at_call 52; exact later_of (cL P.w))); clear hK K))
          | ((with_reducible refine BigFrame.wpQuiet_skip (by first | kernel_rfl | with_unfolding_all rfl) ?_); simp only [Act.put, List.setIfInBounds_toArray, List.set_cons_zero, List.set_cons_succ]))
        with_reducible refine wpQuiet_nil ?_
        intro _ hw9
        obtain ⟨P9, rfl⟩ := hw9
        replace hown := hown.below P9.h
        replace hb := hb.trans (P9.h.mono hb.size)
        clear lY lX cL
        generalize P9.w = wd at *
        go_wp2_with (first
          | (with_reducible refine wpList_load_rkr (by with_unfolding_all rfl) _ rfl _ _ rfl (fY _ hb) hY ?_)
          | (with_reducible refine wpList_load_rkr (by with_unfolding_all rfl) _ rfl _ _ rfl (fX _ hb) hXo ?_)
          | ((with_reducible refine wpList_build1k rfl _ rfl Y hY rfl ?_); intro cs hrow; replace hown := hown.below ((Below.refl _ _).alloc (Nat.le_refl _) (.cells cs 52)); replace hb := hb.alloc hb.size (.cells cs 52))
          | ((with_reducible refine wpList_build1k rfl _ rfl X hXo rfl ?_); intro cs hrow; replace hown := hown.below ((Below.refl _ _).alloc (Nat.le_refl _) (.cells cs 52)); replace hb := hb.alloc hb.size (.cells cs 52))
          | (at_builtin; refine wpList_append_rk rfl _ _ rfl W0.heap.size _ _ _ rfl hown _ 1 1 [Y] rfl rfl (fun h => by cases h) hrow (by omega) hb.size ?_; intro v' w' hown' hg'; replace hb := hown.grown hg' (Nat.le_refl _) hb hb.size; replace hown := hown'; clear hown' hg' hrow)
          | (at_builtin; refine wpList_append_rk rfl _ _ rfl W0.heap.size _ _ _ rfl hown _ 1 1 [X] rfl rfl (fun h => by cases h) hrow (by omega) hb.size ?_; intro v' w' hown' hg'; replace hb := hown.grown hg' (Nat.le_refl _) hb hb.size; replace hown := hown'; clear hown' hg' hrow))
        go_roundw
        case rel => exact ⟨k + 1, m + 1, Os ++ [X], true, HLT.out, by omega, rfl, by go_num, hown, hb, hid ⟨by rw [HI.out.1, HDR.out, List.append_assoc]; rfl, (fun h => by cases h), (fun Z hZ => by rcases List.mem_append.1 hZ with h | h; exact HI.out.2.2 Z h; rw [List.mem_singleton.1 h]; exact hXo)⟩⟩
        case measure => exact meas_k1 HLT.out
      | false =>
        have hm2 : m ≤ k := HI.out.2.1 (by trivial)
        cases hl : decide (cmpG Y X < 0) with
        | true =>
          rw [hl] at cL
          have HL := hid (of_decide_eq_true hl)
          clear hl
          go_wp2
          refine wp_region_later mixed10 (by kernel_rfl) ?_
          repeat (first
            | ((with_reducible refine wpQuiet_load_if (by with_unfolding_all rfl) 52 _ rfl _ _ rfl Y.cs.toList _ lY hu (by with_unfolding_all rfl) hzY ?_); simp only [Act.put, List.setIfInBounds_toArray, List.set_cons_zero, List.set_cons_succ])
            | ((with_reducible refine wpQuiet_load_if (by with_unfolding_all rfl) 52 _ rfl _ _ rfl X.cs.toList _ lX hu (by with_unfolding_all rfl) hzX ?_); simp only [Act.put, List.setIfInBounds_toArray, List.set_cons_zero, List.set_cons_succ])
            | ((with_reducible refine wpQuiet_step (fun K hK => ?_)); go_simp; first | ((with_reducible refine hK _ ?_); clear hK K) | (with_reducible apply Exists.intro; (with_reducible refine ⟨fun P => ?_, hK _ ?_⟩); ((go_at_call 52; exact later_of (cL P.w))); clear hK K))
            | ((with_reducible refine BigFrame.wpQuiet_skip (by first | kernel_rfl | with_unfolding_all rfl) ?_); simp only [Act.put, List.setIfInBounds_toArray, List.set_cons_zero, List.set_cons_succ]))
          with_reducible refine wpQuiet_nil ?_
          intro _ hw9
          obtain ⟨P9, rfl⟩ := hw9
          replace hown := hown.below P9.h
          replace hb := hb.trans (P9.h.mono hb.size)
          clear lY lX cL
          generalize P9.w = wd at *
          go_wp2_with (first
            | (with_reducible refine wpList_load_rkr (by with_unfolding_all rfl) _ rfl _ _ rfl (fY _ hb) hY ?_)
            | (with_reducible refine wpList_load_rkr (by with_unfolding_all rfl) _ rfl _ _ rfl (fX _ hb) hXo ?_)
            | ((with_reducible refine wpList_build1k rfl _ rfl Y hY rfl ?_); intro cs hrow; replace hown := hown.below ((Below.refl _ _).alloc (Nat.le_refl _) (.cells cs 52)); replace hb := hb.alloc hb.size (.cells cs 52))
            | ((with_reducible refine wpList_build1k rfl _ rfl X hXo rfl ?_); intro cs hrow; replace hown := hown.below ((Below.refl _ _).alloc (Nat.le_refl _) (.cells cs 52)); replace hb := hb.alloc hb.size (.cells cs 52))
            | (at_builtin; refine wpList_append_rk rfl _ _ rfl W0.heap.size _ _ _ rfl hown _ 1 1 [Y] rfl rfl (fun h => by cases h) hrow (by omega) hb.size ?_; intro v' w' hown' hg'; replace hb := hown.grown hg' (Nat.le_refl _) hb hb.size; replace hown := hown'; clear hown' hg' hrow)
            | (at_builtin; refine wpList_append_rk rfl _ _ rfl W0.heap.size _ _ _ rfl hown _ 1 1 [X] rfl rfl (fun h => by cases h) hrow (by omega) hb.size ?_; intro v' w' hown' hg'; replace hb := hown.grown hg' (Nat.le_refl _) hb hb.size; replace hown := hown'; clear hown' hg' hrow))
          go_roundw
          case rel => exact ⟨k + 1, m + 1 + 1, (Os ++ [Y]) ++ [X], true, HLT.out, by omega, rfl, by go_num, hown, hb, hid ⟨by rw [HI.out.1, HDR.out, putRG, if_neg (by decide), putGD, if_pos HL.out, List.append_assoc, List.append_assoc]; rfl, (fun h => by cases h), (fun Z hZ => by rcases List.mem_append.1 hZ with h | h; (rcases List.mem_append.1 h with h | h; exact HI.out.2.2 Z h; rw [List.mem_singleton.1 h]; exact hY); rw [List.mem_singleton.1 h]; exact hXo)⟩⟩
          case measure => exact meas_k1 HLT.out
        | false =>
          rw [hl] at cL
          have HL := hid (of_decide_eq_false hl)
          clear hl
          go_wp2
          refine wp_region_later mixed10 (by kernel_rfl) ?_
          repeat (first
            | ((with_reducible refine wpQuiet_load_if (by with_unfolding_all rfl) 52 _ rfl _ _ rfl Y.cs.toList _ lY hu (by with_unfolding_all rfl) hzY ?_); simp only [Act.put, List.setIfInBounds_toArray, List.set_cons_zero, List.set_cons_succ])
            | ((with_reducible refine wpQuiet_load_if (by with_unfolding_all rfl) 52 _ rfl _ _ rfl X.cs.toList _ lX hu (by with_unfolding_all rfl) hzX ?_); simp only [Act.put, List.setIfInBounds_toArray, List.set_cons_zero, List.set_cons_succ])
            | ((with_reducible refine wpQuiet_step (fun K hK => ?_)); go_simp; first | ((with_reducible refine hK _ ?_); clear hK K) | (with_reducible apply Exists.intro; (with_reducible refine ⟨fun P => ?_, hK _ ?_⟩); ((go_at_call 52; exact later_of (cL P.w))); clear hK K))
            | ((with_reducible refine BigFrame.wpQuiet_skip (by first | kernel_rfl | with_unfolding_all rfl) ?_); simp only [Act.put, List.setIfInBounds_toArray, List.set_cons_zero, List.set_cons_succ]))
          with_reducible refine wpQuiet_nil ?_
          intro _ hw9
          obtain ⟨P9, rfl⟩ := hw9
          replace hown := hown.below P9.h
          replace hb := hb.trans (P9.h.mono hb.size)
          clear lY lX cL
          generalize P9.w = wd at *
          go_wp2_with (first
            | (with_reducible refine wpList_load_rkr (by with_unfolding_all rfl) _ rfl _ _ rfl (fY _ hb) hY ?_)
            | (with_reducible refine wpList_load_rkr (by with_unfolding_all rfl) _ rfl _ _ rfl (fX _ hb) hXo ?_)
            | ((with_reducible refine wpList_build1k rfl _ rfl Y hY rfl ?_); intro cs hrow; replace hown := hown.below ((Below.refl _ _).alloc (Nat.le_refl _) (.cells cs 52)); replace hb := hb.alloc hb.size (.cells cs 52))
            | ((with_reducible refine wpList_build1k rfl _ rfl X hXo rfl ?_); intro cs hrow; replace hown := hown.below ((Below.refl _ _).alloc (Nat.le_refl _) (.cells cs 52)); replace hb := hb.alloc hb.size (.cells cs 52))
            | (at_builtin; refine wpList_append_rk rfl _ _ rfl W0.heap.size _ _ _ rfl hown _ 1 1 [Y] rfl rfl (fun h => by cases h) hrow (by omega) hb.size ?_; intro v' w' hown' hg'; replace hb := hown.grown hg' (Nat.le_refl _) hb hb.size; replace hown := hown'; clear hown' hg' hrow)
            | (at_builtin; refine wpList_append_rk rfl _ _ rfl W0.heap.size _ _ _ rfl hown _ 1 1 [X] rfl rfl (fun h => by cases h) hrow (by omega) hb.size ?_; intro v' w' hown' hg'; replace hb := hown.grown hg' (Nat.le_refl _) hb hb.size; replace hown := hown'; clear hown' hg' hrow))
          go_roundw
          case rel => exact ⟨k + 1, m + 1, Os ++ [X], false, HLT.out, by omega, rfl, by go_num, hown, hb, hid ⟨by rw [HI.out.1, HDR.out, putRG, if_neg (by decide), putGD, if_neg (Int.not_lt.2 (by have := HL.out; omega)), List.append_assoc]; rfl, (fun _ => by omega), (fun Z hZ => by rcases List.mem_append.1 hZ with h | h; exact HI.out.2.2 Z h; rw [List.mem_singleton.1 h]; exact hXo)⟩⟩
          case measure => exact meas_k1 HLT.out
    · obtain rfl : k = n := by omega
      have c1 : ¬ (k : Int) < k := by omega
      have hdr : Xs.drop k = [] := List.drop_eq_nil_of_le (by rw [HN.out]; exact Nat.le_refl _)
      have hsz := hw0.size
      cases d with
      | true =>
        have HE := hid (show putGD Xs Y = Os by rw [HI.out.1, hdr]; unfold putRG; rw [if_pos rfl, List.append_nil])
        go_wp2
        go_ret
        obtain ⟨_, _, _, hl9, _⟩ := hown.rd HI.out.2.2
        exact ⟨_, rfl, by rw [HE.out, hl9]; exact hown.le hsz, hw0.trans (hb.mono hsz)⟩
      | false =>
        have HE := hid (show putGD Xs Y = Os ++ [Y] by rw [HI.out.1, hdr]; unfold putRG; rw [if_neg (by decide)]; rfl)
        obtain ⟨_, _, _, hl9, _⟩ := hown.rd HI.out.2.2
        go_wp2_with (first
          | (with_reducible refine wpList_load_rkr (by with_unfolding_all rfl) _ rfl _ _ rfl (fY _ hb) hY ?_)
          | ((with_reducible refine wpList_build1k rfl _ rfl Y hY rfl ?_); intro cs hrow; replace hown := hown.below ((Below.refl _ _).alloc (Nat.le_refl _) (.cells cs 52)); replace hb := hb.alloc hb.size (.cells cs 52))
          | (at_builtin; refine wpList_append_rk rfl _ _ rfl W0.heap.size _ _ _ rfl hown _ 1 1 [Y] rfl rfl (fun h => by cases h) hrow (by omega) hb.size ?_; intro v' w' hown' hg'; replace hb := hown.grown hg' (Nat.le_refl _) hb hb.size; replace hown := hown'; clear hown' hg' hrow))
        go_ret
        exact ⟨_, rfl, by rw [HE.out, List.length_append, hl9]; exact hown.le hsz, hw0.trans (hb.mono hsz)⟩

end Go.Proofs.YtapgiagpjplpdaaGreat

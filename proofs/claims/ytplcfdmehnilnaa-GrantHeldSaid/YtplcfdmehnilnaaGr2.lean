
/- Rows of grants in place: set, cut, clear; slices.Clone, IndexFunc, DeleteFunc; without. -/
import Derived.Test.YtplcfdmehnilnaaGr1
set_option linter.unusedSimpArgs false
set_option linter.unusedVariables false
namespace Go.Proofs.Ytplcfdmehnilnaa
open Go.RowKit Go.Qc Go.Shelf
attribute [local go_sem] txt_size txt_append ib_fold txt_toL

theorem grsV_at : ∀ (Xs : List GrD) (t : Nat), (∀ X ∈ Xs, X.ok) → (grsV Xs)[t]? = (Xs[t / 66]?).bind (fun X => X.cs.toList[t % 66]?)
  | [], t, _ => by simp [grsV]
  | X :: Xs, t, h => by
    have hX : X.cs.toList.length = 66 := by rw [Array.length_toList]; exact GrD.size (h X (by simp))
    rw [grsV_cons]
    by_cases ht : t < 66
    · rw [List.getElem?_append_left (by omega), Nat.div_eq_of_lt ht, Nat.mod_eq_of_lt ht]
      rfl
    · obtain ⟨s, rfl⟩ : ∃ s, t = s + 66 := ⟨t - 66, by omega⟩
      rw [List.getElem?_append_right (by omega), hX, Nat.add_sub_cancel, grsV_at Xs s (fun x hx => h x (by simp [hx])), Nat.add_div_right _ (by decide), Nat.add_mod_right]
      rfl
theorem GrOw.open_ {W : World} {base g n c : Nat} {o : Nat} {Ds : List GrD} (h : GrOw W base (.slice (some ⟨g, o, none⟩) n c) n Ds) : o = 0 ∧ ∃ cur : Array Value, base ≤ g ∧ Blk W g 58 cur ∧ n ≤ c ∧ c ≤ maxLen ∧ cur.size = c * 66 ∧ cur.toList.take (n * 66) = grsV Ds := by
  rcases h.2 with ⟨e, _⟩ | ⟨g', cap, cur, e, a1, a2, a3, a4, a5, a6⟩
  · cases e
  · cases e
    exact ⟨rfl, cur, a1, a2, a3, a4, a5, a6⟩
theorem GrOw.of {W : World} {base g n c : Nat} {Ds : List GrD} {cur : Array Value} (hK : ∀ X ∈ Ds, X.ok) (hn : Ds.length = n) (a1 : base ≤ g) (a2 : Blk W g 58 cur) (a3 : n ≤ c) (a4 : c ≤ maxLen) (a5 : cur.size = c * 66) (a6 : cur.toList.take (n * 66) = grsV Ds) : GrOw W base (.slice (some ⟨g, 0, none⟩) n c) n Ds :=
  ⟨by rw [grsV_length Ds hK, hn], .inr ⟨g, c, cur, rfl, a1, a2, a3, a4, a5, a6⟩⟩
/-- One grant of a row is written over. -/
theorem GrOw.set {W : World} {base g n c i : Nat} {Ds : List GrD} {Y : GrD} (h : GrOw W base (.slice (some ⟨g, 0, none⟩) n c) n Ds) (hK : ∀ X ∈ Ds, X.ok) (hn : Ds.length = n) (hi : i < n) (hY : Y.ok) :
    ∃ cs, Blk W g 58 cs ∧ i * 66 + 66 ≤ cs.size ∧ ∀ W', Blk W' g 58 (over cs (i * 66) Y.cs.toList) → GrOw W' base (.slice (some ⟨g, 0, none⟩) n c) n (Ds.set i Y) := by
  obtain ⟨_, cur, a1, a2, a3, a4, a5, a6⟩ := h.open_
  have hl : Y.cs.toList.length = 66 := by rw [Array.length_toList]; exact GrD.size hY
  have hs : i * 66 + 66 ≤ cur.size := by rw [a5]; have := Nat.mul_le_mul_right 66 (show i + 1 ≤ c by omega); omega
  have hK2 : ∀ X ∈ Ds.set i Y, X.ok := fun X hX => by
    rcases List.mem_or_eq_of_mem_set hX with h | h
    · exact hK X h
    · rw [h]; exact hY
  refine ⟨cur, a2, hs, fun W' hW => GrOw.of hK2 (by rw [List.length_set]; exact hn) a1 hW a3 a4 (by rw [over_size _ _ _ (by rw [hl]; exact hs)]; exact a5) ?_⟩
  apply List.ext_getElem?
  intro t
  rw [List.getElem?_take, grsV_at _ t hK2, List.getElem?_set]
  by_cases ht : t < n * 66
  · rw [if_pos ht, Array.getElem?_toList, over_get _ _ _ (by rw [hl]; exact hs)]
    have hq : cur[t]? = (Ds[t / 66]?).bind (fun X => X.cs.toList[t % 66]?) := by
      rw [← grsV_at Ds t hK, ← a6, List.getElem?_take, if_pos ht, Array.getElem?_toList]
    by_cases h1 : t < i * 66
    · rw [if_pos h1, if_neg (by omega), hq]
    · rw [if_neg h1, hl]
      by_cases h2 : t < i * 66 + 66
      · rw [if_pos h2, if_pos (by omega), if_pos (by omega)]
        show _ = Y.cs.toList[t % 66]?
        rw [show t - i * 66 = t % 66 by omega]
      · rw [if_neg h2, if_neg (by omega), hq]
  · rw [if_neg ht]
    have : ¬ t / 66 < n := by omega
    rw [if_neg (by omega), List.getElem?_eq_none (by omega)]
    rfl
theorem GrOw.cut {W : World} {base g n c m : Nat} {Ds : List GrD} (h : GrOw W base (.slice (some ⟨g, 0, none⟩) n c) n Ds) (hK : ∀ X ∈ Ds, X.ok) (hn : Ds.length = n) (hm : m ≤ n) : GrOw W base (.slice (some ⟨g, 0, none⟩) m c) m (Ds.take m) := by
  obtain ⟨_, cur, a1, a2, a3, a4, a5, a6⟩ := h.open_
  have hK2 : ∀ X ∈ Ds.take m, X.ok := fun X hX => hK X (List.mem_of_mem_take hX)
  refine GrOw.of hK2 (by rw [List.length_take, hn]; omega) a1 a2 (by omega) a4 a5 ?_
  have e := grsV_length (Ds.take m) hK2
  rw [List.length_take, hn, Nat.min_eq_left hm] at e
  have h2 : grsV Ds = grsV (Ds.take m) ++ grsV (Ds.drop m) := by rw [← grsV_append, List.take_append_drop]
  rw [h2] at a6
  have h3 := congrArg (List.take (m * 66)) a6
  rw [List.take_take, Nat.min_eq_left (Nat.mul_le_mul_right 66 hm), ← e, List.take_left, e] at h3
  exact h3
theorem gr_zero (W : World) : ∃ Z : Array Value, Z.size = 66 ∧ (∀ v ∈ Z.toList, v.oneCell' = true) ∧ ∀ W, (zeroValue 58).run Try.prog W = .ok (.agg Z) W := by
  obtain ⟨i, Z, h1, h2, _, h4, _⟩ := Gr_info4
  have hone : (match i.zero with | some (.agg Z) => Z.all (·.oneCell') | _ => false) = true := by
    have h : (Try.prog.info? 58).map (fun i => (match i.zero with | some (.agg Z) => Z.all (·.oneCell') | _ => false)) = some true := by kernel_rfl
    rw [h1, Option.map_some] at h
    exact Option.some.inj h
  rw [h2] at hone
  refine ⟨Z, h4, fun v hv => (Array.all_eq_true_iff_forall_mem.1 hone) v (by simpa using hv), fun W => ?_⟩
  simp [zeroValue, typeInfo, h1, h2]
theorem gr_clear {W : World} {base g n c k : Nat} {Ds : List GrD} (h : GrOw W base (.slice (some ⟨g, 0, none⟩) n c) n Ds) (hK : ∀ X ∈ Ds, X.ok) (hn : Ds.length = n) (hk : k < n) :
    ∃ W', (∀ ty, (Builtin.clear_ #[55] ty #[.slice (some ⟨g, k * 66, none⟩) (n - k) (c - k)]).run Try.prog W = .ok (.tuple #[]) W') ∧ GrOw W' base (.slice (some ⟨g, 0, none⟩) k c) k (Ds.take k) ∧ W.grownBy W' (some g) := by
  obtain ⟨_, cs, a1, h1, hle, a4, h2, h3⟩ := h.open_
  have hm : n * 66 ≤ c * 66 := Nat.mul_le_mul_right 66 hle
  obtain ⟨Z, hz66, hzo, hz0⟩ := gr_zero W
  obtain ⟨zv, hzv, hz⟩ : ∃ zv : Value, (∀ W, (zeroValue 58).run Try.prog W = .ok zv W) ∧ zv.cells = Z := ⟨_, hz0, rfl⟩
  have hlen : (Builtin.zeroCells Z (n - k)).toList.length = (n - k) * 66 := by
    unfold Builtin.zeroCells
    simp [hz66]
  have hone : ∀ v ∈ (Builtin.zeroCells Z (n - k)).toList, v.oneCell' = true := by
    intro v hv
    unfold Builtin.zeroCells at hv
    simp only [Array.toList_map, List.mem_map] at hv
    obtain ⟨i, _, rfl⟩ := hv
    have hlt : i % Z.size < Z.size := Nat.mod_lt _ (by rw [hz66]; decide)
    rw [getElem!_pos Z _ hlt]
    exact hzo _ (by rw [← Array.mem_def]; exact Array.getElem_mem hlt)
  have hst := run_storeCells_at Try.prog g (k * 66) 58 (Builtin.zeroCells Z (n - k)).toList 0 cs W h1 (by rw [hlen, h2]; omega) hone
  simp only [Nat.add_zero] at hst
  obtain ⟨hb, hgr⟩ := blk_over h1 (over cs (k * 66) (Builtin.zeroCells Z (n - k)).toList)
  obtain ⟨m, hm2⟩ : ∃ m, n - k = m + 1 := ⟨n - k - 1, by omega⟩
  have hK2 : ∀ X ∈ Ds.take k, X.ok := fun X hX => hK X (List.mem_of_mem_take hX)
  refine ⟨_, fun ty => ?_, GrOw.of hK2 (by rw [List.length_take, hn]; omega) a1 hb (by omega) a4 (by rw [over_size _ _ _ (by rw [hlen, h2]; omega)]; exact h2) ?_, hgr⟩
  · rw [hm2] at hst ⊢
    simp [Builtin.clear_, run_underlying Try.underlying55, hzv, hz, hst]
    simp [over]
  · have h9 := (h.cut hK hn (Nat.le_of_lt hk)).open_
    obtain ⟨_, cur, _, b2, _, _, _, b6⟩ := h9
    unfold Blk at b2 h1
    rw [h1] at b2
    cases b2
    rw [← b6]
    apply List.ext_getElem?
    intro t
    rw [List.getElem?_take, List.getElem?_take]
    by_cases ht : t < k * 66
    · rw [if_pos ht, if_pos ht, Array.getElem?_toList, Array.getElem?_toList, over_get _ _ _ (by rw [hlen, h2]; omega), if_pos ht]
    · rw [if_neg ht, if_neg ht]

set_option maxRecDepth 100000 in
set_option maxHeartbeats 20000000 in
theorem gclone_any (A : Option Addr) (n c : Nat) (Xs : List GrD) (w : World) (hn : Xs.length = n) (bn : n ≤ 1000) (hA : A = none → n = 0 ∧ c = 0) (hr : GrRd w A Xs) :
    Calls Try.prog 36 #[.slice A n c] w fun e w' => ∃ v, e = .returned v ∧ GrOw w' w.heap.size v n Xs ∧ Below w.heap.size w w' := by
  have qN : ∀ (W : World) (a : Option Addr) (n c n' c' : Nat), (binOp .eql 55 (.slice a n c) (.slice none n' c')).run Try.prog W = .ok (.bool a.isNone) W := fun W a n c n' c' => Lib.run_eql_slice_nil W _ _ a n c n' c' Try.underlying55
  cases A with
  | none =>
    obtain ⟨rfl, rfl⟩ := hA rfl
    obtain rfl : Xs = [] := List.eq_nil_of_length_eq_zero hn
    go_enter Try.func36, Try.ntmps36
    go_wp2
    go_ret
    exact ⟨_, rfl, GrOw.none_ _ _, Below.refl _ _⟩
  | some ad =>
    have hmd := GrOw.made w
    have hba := (Below.refl w.heap.size w).alloc (Nat.le_refl _) (.cells #[] 58)
    have hr2 := hr.below hba
    go_enter Try.func36, Try.ntmps36
    go_wp2_with (at_builtin; refine wpList_append_gr rfl _ _ rfl w.heap.size _ 0 [] rfl hmd (some ad) n c Xs rfl hn (by intro h; cases h) hr2 (by omega) (by simp) ?_; intro v' w1 hown hgrow)
    go_ret
    rw [Nat.zero_add, List.nil_append] at hown
    exact ⟨_, rfl, hown, hmd.grown hgrow (Nat.le_refl _) hba (by simp)⟩

set_option maxRecDepth 100000 in
set_option maxHeartbeats 20000000 in
theorem gindex_any (fn : FuncId) (hfn : ∀ args W, (callFunc fn args).run Try.prog W = .ok (.enter fn args) W) (cap : Array Value) (goes : GrD → Bool) (base : Nat) (w0 : World) (A : Option Addr) (n c : Nat) (Xs : List GrD) (w : World) (hn : Xs.length = n) (bn : n ≤ 1000) (hr : GrRd w A Xs) (h0 : Below base w0 w) (hbs : base ≤ w.heap.size)
    (cF : ∀ X ∈ Xs, ∀ W, Below base w0 W → Calls Try.prog fn (#[.agg X.cs] ++ cap) W fun e w' => e = .returned (.bool (goes X)) ∧ Below W.heap.size W w') :
    Calls Try.prog 105 #[.slice A n c, .func (.func fn) #[] cap] w fun e w' => ∃ i : Int, e = .returned (.int .i64 i) ∧ (i = -1 ∧ (∀ X ∈ Xs, goes X = false) ∨ ∃ k : Nat, i = k ∧ k < n ∧ (∀ X ∈ Xs.take k, goes X = false) ∧ ∃ X, Xs[k]? = some X ∧ goes X = true) ∧ Below w.heap.size w w' := by
  have HN := hid hn
  have bn9 : n ≤ 9223372036854775807 := by omega
  clear hn
  go_enter Try.func105, Try.ntmps105
  go_wp2
  go_loopw [8] (fun i wr => ∃ k : Nat, k ≤ n ∧ i = .int .i64 k ∧ (∀ X ∈ Xs.take k, goes X = false) ∧ Below w.heap.size w wr) (fun i _ => n - (intOf i).toNat)
  case atStart => exact ⟨0, by omega, rfl, by simp, Below.refl _ _⟩
  case round =>
    obtain ⟨k, hkn, rfl, hall, hb⟩ := hrel
    by_cases hlt : k < n
    · obtain ⟨X, hX⟩ : ∃ X, Xs[k]? = some X := ⟨_, List.getElem?_eq_getElem (by have := HN.out; omega)⟩
      obtain ⟨g, q, hg, hXo, hix⟩ := hr.pick c HN.out hX
      have b1 : (k : Int) < n := by omega
      have fX := hg.below hb
      have cX := cF X (List.mem_of_getElem? hX) wr (h0.trans (hb.mono hbs))
      obtain ⟨t, ht⟩ : ∃ t, goes X = t := ⟨_, rfl⟩
      rw [ht] at cX
      have HT := hid ht
      have HX := hid hX
      have HALL := hid hall
      clear ht hX hall hg
      have HLT := hid (show k + 1 ≤ n from hlt)
      cases t with
      | true =>
        go_wp2_with (first
          | (with_reducible refine wpList_load_grr (by with_unfolding_all rfl) _ rfl _ _ rfl fX hXo ?_)
          | ((with_reducible refine cX.mono ?_); rintro e3 w3 ⟨rfl, hb3⟩))
        go_ret
        exact ⟨_, rfl, .inr ⟨k, rfl, HLT.out, HALL.out, X, HX.out, HT.out⟩, hb.trans (hb3.mono hb.size)⟩
      | false =>
        go_wp2_with (first
          | (with_reducible refine wpList_load_grr (by with_unfolding_all rfl) _ rfl _ _ rfl fX hXo ?_)
          | ((with_reducible refine cX.mono ?_); rintro e3 w3 ⟨rfl, hb3⟩))
        go_roundw
        case rel => exact ⟨k + 1, HLT.out, by go_num, fun Y hY => by
          rw [List.take_add_one, HX.out] at hY
          rcases List.mem_append.1 hY with hY | hY
          · exact HALL.out Y hY
          · rw [List.mem_singleton.1 hY]; exact HT.out, hb.trans (hb3.mono hb.size)⟩
        case measure => exact meas_k1 HLT.out
    · obtain rfl : k = n := by omega
      have c1 : ¬ (k : Int) < k := by omega
      go_wp2
      go_ret
      exact ⟨_, rfl, .inl ⟨rfl, by rw [List.take_of_length_le (by rw [HN.out]; exact Nat.le_refl _)] at hall; exact hall⟩, hb⟩

theorem gr_index (g n c k : Nat) (hk : k < n) (W : World) : (Instr.indexAt 55 (.slice (some ⟨g, 0, none⟩) n c) (.int .i64 (k : Int))).run Try.prog W = .ok (.pointer (some ⟨g, k * 66, none⟩)) W := by
  obtain ⟨i0, hi, h66⟩ := Gr_info3
  have h1 : (0 : Int) ≤ (k : Int) ∧ (k : Int) < (n : Int) := by omega
  simp [Instr.indexAt, run_underlying Try.underlying55, asIntOf, h1, sizeOf, typeInfo, hi, h66, Addr.add_lit, Int.toNat_natCast]
  intro h2; omega
theorem gr_from (g n c k : Nat) (hk : k < n) (hc : n ≤ c) (W : World) : (Instr.sliceAt 55 (.slice (some ⟨g, 0, none⟩) n c) (some (.int .i64 (k : Int))) none none).run Try.prog W = .ok (.slice (some ⟨g, k * 66, none⟩) (n - k) (c - k)) W := by
  obtain ⟨i0, hi, h66⟩ := Gr_info3
  have h1 : (0 : Int) ≤ (k : Int) ∧ (k : Int) ≤ (n : Int) := by omega
  have h2 : c ≠ k := by omega
  simp [Instr.sliceAt, Instr.slice, Instr.sliceBounds, run_underlying Try.underlying55, run_sliceBound, h1, sizeOf, typeInfo, hi, h66, Addr.add_lit, Int.toNat_natCast, h2]
  all_goals first | omega | skip
theorem gr_to (g n c k : Nat) (hk : k ≤ n) (hc : n ≤ c) (W : World) : (Instr.sliceAt 55 (.slice (some ⟨g, 0, none⟩) n c) none (some (.int .i64 (k : Int))) none).run Try.prog W = .ok (.slice (some ⟨g, 0, none⟩) k c) W := by
  obtain ⟨i0, hi, h66⟩ := Gr_info3
  have h1 : (0 : Int) ≤ (k : Int) ∧ (k : Int) ≤ (c : Int) := by omega
  simp [Instr.sliceAt, Instr.slice, Instr.sliceBounds, run_underlying Try.underlying55, run_sliceBound, h1, sizeOf, typeInfo, hi, h66, Addr.add_lit, Int.toNat_natCast]
  all_goals first | omega | skip
/-- What stands in the row when so many are looked at: the kept ones ahead, the others as they were behind. -/
structure DelI (goes : GrD → Bool) (Xs : List GrD) (i j : Nat) (Ds : List GrD) : Prop where
  len : Ds.length = Xs.length
  ok : ∀ X ∈ Ds, X.ok
  keep : Ds.take i = (Xs.take j).filter (fun X => !goes X)
  tail : Ds.drop j = Xs.drop j
  ij : i < j
  jn : j ≤ Xs.length
theorem w64_gr (n : Int) (h : -9223372036854775808 ≤ n ∧ n ≤ 9223372036854775807) : wrap64 n = n := by unfold wrap64; omega
theorem del_nums {i j n : Nat} (hi : i < n) (hj : j < n) (bn : n ≤ 1000) : wrap64 ((i : Int) + 1) = (i : Int) + 1 ∧ IntKind.i64.wrap ((i : Int) + 1) = (i : Int) + 1 ∧ wrap64 ((j : Int) + 1) = (j : Int) + 1 ∧ IntKind.i64.wrap ((j : Int) + 1) = (j : Int) + 1 :=
  ⟨w64_gr _ (by omega), by rw [IntKind.wrap_i64]; omega, w64_gr _ (by omega), by rw [IntKind.wrap_i64]; omega⟩
theorem gr_store_at {w : World} {o : Oper} {a : Act} {K : Act → World → Prop} {Q : Exit → Act → World → Prop} (x y : Operand) (ho : o.op = .store 58 x y)
    (g off : Nat) (old cs : Array Value) (hg : Blk w g 58 old) (hx : a.eval x = .pointer (some ⟨g, off, none⟩)) (hy : a.eval y = .agg cs) (hi : (Try.prog.info? 58).map (·.size) = some cs.size) (hs : off + cs.size ≤ old.size) (h1 : cs.all (·.oneCell') = true)
    (h : ∀ w', Blk w' g 58 (over old off cs.toList) → w.grownBy w' (some g) → K (a.put o.dst undef) w') : o.wp Try.prog a w K Q := by
  have hone : ∀ v ∈ cs.toList, v.oneCell' = true := fun v hv => (Array.all_eq_true_iff_forall_mem.1 h1) v (by simpa using hv)
  have hcells : (Value.agg cs).cells = cs := rfl
  have hst := run_storeCells_at Try.prog g off 58 cs.toList 0 old w hg (by simpa using hs) hone
  simp only [Nat.add_zero] at hst
  have hr : (Instr.storeAt 58 (.pointer (some ⟨g, off, none⟩)) (.agg cs)).run Try.prog w = .ok () (w.setRow g (over old off cs.toList)) := by
    cases hq : Try.prog.info? 58 with
    | none => simp [hq] at hi
    | some i =>
      have hsz : i.size = cs.size := by simpa [hq] using hi
      simp [Instr.storeAt, Instr.sureAddr, storeVar, sizeOf, typeInfo, hq, hcells, hsz]
      rw [hst]; simp [over]
  obtain ⟨hb, hgr⟩ := blk_over hg (over old off cs.toList)
  unfold Oper.wp
  simp only [execOp, ho, hx, hy]
  simp only [Sem.run_bind, hr, Result.andThen, Sem.run_pure]
  exact h _ hb hgr
theorem wpList_store_grr {w : World} {ops : Array Oper} {rest : List Oper} {o : Oper} {a : Act} {Q : Exit → Act → World → Prop} (hgd : o.guard = none) (x y : Operand) (ho : o.op = .store 58 x y)
    (g q : Nat) {old : Array Value} {X : GrD} (hg : Blk w g 58 old) (hx : a.eval x = .pointer (some ⟨g, q, none⟩)) (hy : a.eval y = .agg X.cs) (hK : X.ok) (hs : q + 66 ≤ old.size)
    (h : ∀ w', Blk w' g 58 (over old q X.cs.toList) → w.grownBy w' (some g) → wpList Try.prog ops Q rest (a.put o.dst undef) w') : wpList Try.prog ops Q (o :: rest) a w :=
  wpList_plain hgd fun K' hK' => gr_store_at x y ho g q old _ hg hx hy (Gr_info X hK) (by rw [GrD.size hK]; exact hs) X.one (fun w' hb hgr => hK' _ _ (h w' hb hgr))
theorem DelI.skip {goes : GrD → Bool} {Xs Ds : List GrD} {i j : Nat} {X : GrD} (h : DelI goes Xs i j Ds) (hX : Xs[j]? = some X) (hg : goes X = true) : DelI goes Xs i (j + 1) Ds := by
  have hj := (List.getElem?_eq_some_iff.1 hX).1
  refine ⟨h.len, h.ok, ?_, ?_, by have := h.ij; omega, hj⟩
  · rw [h.keep, List.take_add_one, hX]
    simp [hg]
  · have e := congrArg (List.drop 1) h.tail
    rwa [List.drop_drop, List.drop_drop] at e
theorem DelI.put {goes : GrD → Bool} {Xs Ds : List GrD} {i j : Nat} {X : GrD} (h : DelI goes Xs i j Ds) (hX : Xs[j]? = some X) (hg : goes X = false) (ho : X.ok) : DelI goes Xs (i + 1) (j + 1) (Ds.set i X) := by
  have hj := (List.getElem?_eq_some_iff.1 hX).1
  have hij := h.ij
  have hl := h.len
  refine ⟨by rw [List.length_set]; exact hl, fun Y hY => ?_, ?_, ?_, by omega, hj⟩
  · rcases List.mem_or_eq_of_mem_set hY with hY | hY
    · exact h.ok Y hY
    · rw [hY]; exact ho
  · rw [List.take_add_one, List.take_set_of_le (Nat.le_refl _), h.keep, List.getElem?_set_self (by omega), List.take_add_one, hX]
    simp [hg]
  · rw [List.drop_set_of_lt (by omega)]
    have e := congrArg (List.drop 1) h.tail
    rwa [List.drop_drop, List.drop_drop] at e
theorem DelI.at_ {goes : GrD → Bool} {Xs Ds : List GrD} {i j : Nat} (h : DelI goes Xs i j Ds) : Ds[j]? = Xs[j]? := by
  have e : (Ds.drop j)[0]? = (Xs.drop j)[0]? := by rw [h.tail]
  simpa using e
theorem DelI.start {goes : GrD → Bool} {Xs : List GrD} {k : Nat} {X : GrD} (hK : ∀ X ∈ Xs, X.ok) (hX : Xs[k]? = some X) (hg : goes X = true) (hall : ∀ Y ∈ Xs.take k, goes Y = false) : DelI goes Xs k (k + 1) Xs := by
  have hj := (List.getElem?_eq_some_iff.1 hX).1
  refine ⟨rfl, hK, ?_, rfl, Nat.lt_succ_self _, hj⟩
  rw [List.take_add_one, hX, List.filter_append, List.filter_eq_self.2 (fun Y hY => by rw [hall Y hY]; rfl)]
  simp [hg]

set_option maxRecDepth 100000 in
set_option maxHeartbeats 20000000 in
theorem gdel_any (fn : FuncId) (hfn : ∀ args W, (callFunc fn args).run Try.prog W = .ok (.enter fn args) W) (cap : Array Value) (goes : GrD → Bool) (base : Nat) (w0 : World) (V : Value) (n : Nat) (Xs : List GrD) (w : World) (hK : ∀ X ∈ Xs, X.ok) (bn : n ≤ 1000) (hown : GrOw w base V n Xs) (h0 : Below base w0 w) (hbs : base ≤ w.heap.size)
    (cF : ∀ X ∈ Xs, ∀ W, Below base w0 W → Calls Try.prog fn (#[.agg X.cs] ++ cap) W fun e w' => e = .returned (.bool (goes X)) ∧ Below W.heap.size W w') :
    Calls Try.prog 90 #[V, .func (.func fn) #[] cap] w fun e w' => ∃ v, e = .returned v ∧ GrOw w' base v (Xs.filter (fun X => !goes X)).length (Xs.filter (fun X => !goes X)) ∧ Below base w0 w' := by
  obtain ⟨A, c, rfl, hn, hnc, hA, hr⟩ := hown.rd hK
  have cI := gindex_any fn hfn cap goes base w0 A n c Xs w hn bn hr h0 hbs cF
  have HN := hid hn
  have HOW := hid hown
  have HKK := hid hK
  clear hn hown hK
  go_enter Try.func90, Try.ntmps90
  go_wp2_with (fail)
  refine cI.mono ?_
  rintro e1 w1 ⟨i, rfl, hi, hb1⟩
  rcases hi with ⟨rfl, hall⟩ | ⟨k, rfl, hk, hall, hX0⟩
  · go_wp2_with (fail)
    go_ret
    rw [List.filter_eq_self.2 (fun Y hY => by rw [hall Y hY]; rfl), HN.out]
    exact ⟨_, rfl, HOW.out.below hb1, h0.trans (hb1.mono hbs)⟩
  · obtain ⟨X0, hX0, hg0⟩ := hX0
    have hneg : ¬ (k : Int) = -1 := by omega
    have hneg2 : ((k : Int) == -1) = false := by rw [beq_eq_false_iff_ne]; exact hneg
    have hw0 : wrap64 ((k : Int) + 1) = (k : Int) + 1 := w64_gr _ (by omega)
    have hv0 : IntKind.i64.wrap ((k : Int) + 1) = (k : Int) + 1 := by rw [IntKind.wrap_i64]; omega
    have HI0 := hid (DelI.start HKK.out hX0 hg0 hall)
    obtain ⟨g, rfl, hbg⟩ : ∃ g, A = some ⟨g, 0, none⟩ ∧ base ≤ g := by
      rcases HOW.out.2 with ⟨e, h0⟩ | ⟨g, cap', cur, e, hb, _⟩
      · omega
      · cases e; exact ⟨g, rfl, hb⟩
    have hOW1 := HOW.out.below hb1
    have hB1 := h0.trans (hb1.mono hbs)
    have hs1 : base ≤ w1.heap.size := Nat.le_trans hbs hb1.size
    clear hall hX0 hg0 cI hr hb1
    go_wp2_with (fail)
    go_loopw [5, 6] (fun zi zj wr => ∃ (i j : Nat) (Ds : List GrD), zi = .int .i64 i ∧ zj = .int .i64 j ∧ Hid (DelI goes Xs i j Ds) ∧ GrOw wr base (.slice (some ⟨g, 0, none⟩) n c) n Ds ∧ Below base w0 wr ∧ base ≤ wr.heap.size) (fun _ zj _ => n - (intOf zj).toNat)
    case atStart => exact ⟨k, k + 1, Xs, rfl, by go_num, HI0, hOW1, hB1, hs1⟩
    case round =>
      clear HI0 hOW1 hB1 hs1 hneg hneg2 hw0 hv0
      obtain ⟨i, j, Ds, rfl, rfl, HI, hOW, hB, hs⟩ := hrel
      have hDn : Ds.length = n := HI.out.len.trans HN.out
      have hjn : j ≤ n := by have := HI.out.jn; rw [HN.out] at this; exact this
      have hij := HI.out.ij
      by_cases hlt : j < n
      · obtain ⟨X, hX⟩ : ∃ X, Xs[j]? = some X := ⟨_, List.getElem?_eq_getElem (by have := HN.out; omega)⟩
        have hDX : Ds[j]? = some X := HI.out.at_.trans hX
        obtain ⟨_, _, e9, _, _, _, hrd⟩ := hOW.rd HI.out.ok
        cases e9
        obtain ⟨g2, q, hg, hXo, hix⟩ := hrd.pick c hDn hDX
        obtain ⟨cs, hbk, hsz, hput⟩ := hOW.set HI.out.ok hDn (show i < n by omega) hXo
        have hii := gr_index g n c i (show i < n by omega)
        have b1 : (j : Int) < n := by omega
        have hnw := GrX.new wr X
        have hba := (Below.refl wr.heap.size wr).alloc (Nat.le_refl _) (.cells X.cs 58)
        have hB2 := hB.trans (hba.mono hs)
        have cX := cF X (List.mem_of_getElem? hX) _ hB2
        obtain ⟨t, ht⟩ : ∃ t, goes X = t := ⟨_, rfl⟩
        rw [ht] at cX
        obtain ⟨hwi, hvi, hwj, hvj⟩ := del_nums (show i < n by omega) hlt bn
        have HT := hid ht
        have HX := hid hX
        have HPUT := hid hput
        have HLT := hid (show j + 1 ≤ n from hlt)
        have HBA := hid hba
        have HB2 := hid hB2
        have HS := hid hs
        have HOW2 := hid hOW
        have HIJ := hid hij
        clear ht hX hDX hrd hput hba hB2 hs hOW hij hjn hDn
        cases t with
        | true =>
          go_wp2_with (first
            | (with_reducible refine wpList_load_grr (by with_unfolding_all rfl) _ rfl _ _ rfl hg hXo ?_)
            | (with_reducible refine wpList_store_grn rfl _ _ rfl rfl rfl hXo (by with_unfolding_all rfl) ?_)
            | (with_reducible refine wpList_load_grx (by with_unfolding_all rfl) _ rfl _ rfl hnw hXo ?_)
            | ((with_reducible refine cX.mono ?_); rintro e3 w3 ⟨rfl, hb3⟩))
          have hb3' := HBA.out.trans (hb3.mono HBA.out.size)
          go_roundw
          case rel => exact ⟨i, j + 1, Ds, rfl, by go_num, hid (HI.out.skip HX.out HT.out), HOW2.out.below hb3', hB.trans (hb3'.mono HS.out), Nat.le_trans HS.out hb3'.size⟩
          case measure => exact meas_k1 HLT.out
        | false =>
          go_wp2_with (first
            | (with_reducible refine wpList_load_grr (by with_unfolding_all rfl) _ rfl _ _ rfl hg hXo ?_)
            | (with_reducible refine wpList_store_grn rfl _ _ rfl rfl rfl hXo (by with_unfolding_all rfl) ?_)
            | (with_reducible refine wpList_load_grx (by with_unfolding_all rfl) _ rfl _ rfl hnw hXo ?_)
            | ((with_reducible refine cX.mono ?_); rintro e3 w3 ⟨rfl, hb3⟩; have hb3' := HBA.out.trans (hb3.mono HBA.out.size); replace hnw := hnw.below hb3; replace hbk := hbk.below hb3')
            | ((with_reducible refine wpList_store_grr rfl _ _ rfl _ _ hbk rfl rfl hXo hsz ?_); intro w5 hC5 hg5))
          have hB3 := hB.trans (hb3'.mono HS.out)
          have hS3 := Nat.le_trans HS.out hb3'.size
          go_roundw
          case rel => exact ⟨i + 1, j + 1, Ds.set i X, by go_num, by go_num, hid (HI.out.put HX.out HT.out hXo), HPUT.out w5 hC5, hB3.grown hg5 hS3 (by intro k e; cases e; exact hbg), Nat.le_trans hS3 hg5.size⟩
          case measure => exact meas_k1 HLT.out
      · obtain rfl : j = n := by omega
        have b1 : ¬ (j : Int) < j := by omega
        obtain ⟨w5, hcl, hrd, hg5⟩ := gr_clear hOW HI.out.ok hDn hij
        have hle : j ≤ c := hnc
        have hsl := gr_from g j c i hij hle
        have hst := gr_to g j c i (Nat.le_of_lt hij) hle
        have hkp : Ds.take i = Xs.filter (fun X => !goes X) := by rw [HI.out.keep, List.take_of_length_le (by rw [HN.out]; exact Nat.le_refl _)]
        have hli : (Xs.filter (fun X => !goes X)).length = i := by rw [← hkp, List.length_take, hDn]; omega
        obtain ⟨m1, hm1⟩ : ∃ m1, m1 = j - i := ⟨_, rfl⟩
        obtain ⟨m2, hm2⟩ : ∃ m2, m2 = c - i := ⟨_, rfl⟩
        obtain ⟨m3, hm3⟩ : ∃ m3, m3 = i * 66 := ⟨_, rfl⟩
        rw [← hm1, ← hm2, ← hm3] at hcl hsl
        rw [hkp] at hrd
        have HLI := hid hli
        have HRD := hid hrd
        have hB5 := hB.grown hg5 hs (by intro k e; cases e; exact hbg)
        clear hm1 hm2 hm3 hkp hli hrd hDn hij hjn hg5 hOW
        go_wp2_with (fail)
        go_ret
        rw [HLI.out]
        exact ⟨_, rfl, HRD.out, hB5⟩

end Go.Proofs.Ytplcfdmehnilnaa


/- slices.Compact at ids: in place; what is kept stands at the row's head. -/
import Derived.Test.YtbdlpdajdlpncaaId15
import Derived.Test.YtbdlpdajdlpncaaKtA
set_option linter.unusedVariables false
set_option linter.unusedSimpArgs false
namespace Go.Proofs.Ytbdlpdajdlpncaa
open Go.RowKit Go.Qc Go.Sort Go.Lib
attribute [local go_sem] txt_size

theorem wpList_store_row {P : Program} {w : World} {ops : Array Oper} {rest : List Oper} {o : Oper} {a : Act} {Q : Exit → Act → World → Prop} (hgd : o.guard = none) (ty : TypeId) (x y : Operand) (ho : o.op = .store ty x y)
    (g off : Nat) (old cs : Array Value) (t : TypeId) (hg : Blk w g t old) (hx : a.eval x = .pointer (some ⟨g, off, none⟩)) (hy : a.eval y = .agg cs) (hi : (P.info? ty).map (·.size) = some cs.size) (hs : off + cs.size ≤ old.size) (h1 : cs.all (·.oneCell') = true)
    (h : ∀ w', Blk w' g t (over old off cs.toList) → w.grownBy w' (some g) → wpList P ops Q rest (a.put o.dst undef) w') : wpList P ops Q (o :: rest) a w :=
  wpList_plain hgd fun K hK => wp_store_at ty x y ho g off old cs t hg hx hy hi hs h1 (fun w' hb hgr => hK _ _ (h w' hb hgr))
theorem gb_below {w W W' : World} {r : Option Nat} (h : w.grownBy W r) (hb : Below W.heap.size W W') : w.grownBy W' r :=
  ⟨hb.os.trans h.os, hb.tape.trans h.tape, hb.output.trans h.output, Nat.le_trans h.size hb.size, fun k hk hne => (hb.block k (Nat.lt_of_lt_of_le hk h.size)).trans (h.block k hk hne)⟩
theorem gb_trans {w W W' : World} {r : Option Nat} (h : w.grownBy W r) (g : W.grownBy W' r) : w.grownBy W' r :=
  ⟨g.os.trans h.os, g.tape.trans h.tape, g.output.trans h.output, Nat.le_trans h.size g.size, fun k hk hne => (g.block k (Nat.lt_of_lt_of_le hk h.size) hne).trans (h.block k hk hne)⟩
theorem index_row (g o n c k : Nat) (hk : k < n) (W : World) : (Instr.indexAt 22 (.slice (some ⟨g, o, none⟩) n c) (.int .i64 (k : Int))).run Try.prog W = .ok (.pointer (some ⟨g, o + k * 32, none⟩)) W := by
  obtain ⟨i0, hi, h32, _⟩ := infoId_parts
  have h1 : (0 : Int) ≤ (k : Int) ∧ (k : Int) < (n : Int) := by omega
  simp [Instr.indexAt, run_underlying Try.underlying22, asIntOf, h1, sizeOf, typeInfo, hi, h32, Addr.add_lit, Int.toNat_natCast]
  intro h2; omega
theorem slice_from (g n c k : Nat) (hk : k < n) (hc : n ≤ c) (W : World) : (Instr.sliceAt 22 (.slice (some ⟨g, 0, none⟩) n c) (some (.int .i64 (k : Int))) none none).run Try.prog W = .ok (.slice (some ⟨g, k * 32, none⟩) (n - k) (c - k)) W := by
  obtain ⟨i0, hi, h32, _⟩ := infoId_parts
  have h1 : (0 : Int) ≤ (k : Int) ∧ (k : Int) ≤ (n : Int) := by omega
  have h2 : c ≠ k := by omega
  simp [Instr.sliceAt, Instr.slice, Instr.sliceBounds, run_underlying Try.underlying22, run_sliceBound, h1, sizeOf, typeInfo, hi, h32, Addr.add_lit, Int.toNat_natCast, h2]
  all_goals first | omega | skip
theorem slice_to (g n c k : Nat) (hk : k ≤ n) (hc : n ≤ c) (W : World) : (Instr.sliceAt 22 (.slice (some ⟨g, 0, none⟩) n c) none (some (.int .i64 (k : Int))) none).run Try.prog W = .ok (.slice (some ⟨g, 0, none⟩) k c) W := by
  obtain ⟨i0, hi, h32, _⟩ := infoId_parts
  have h1 : (0 : Int) ≤ (k : Int) ∧ (k : Int) ≤ (c : Int) := by omega
  simp [Instr.sliceAt, Instr.slice, Instr.sliceBounds, run_underlying Try.underlying22, run_sliceBound, h1, sizeOf, typeInfo, hi, h32, Addr.add_lit, Int.toNat_natCast]
  all_goals first | omega | skip
theorem zero_id (W : World) : (zeroValue 24).run Try.prog W = .ok (.agg (idVals zeroB)) W := by
  obtain ⟨j0, hj, hjz, hjs, hjb⟩ := infoId2_parts
  simp [zeroValue, typeInfo, hj, hjz]
theorem clear_row {g c k : Nat} {d : Array IdT} {W : World} (h : RowG g c d W) (hk : k < d.size) :
    ∃ W', (∀ ty, (Builtin.clear_ #[22] ty #[.slice (some ⟨g, k * 32, none⟩) (d.size - k) (c - k)]).run Try.prog W = .ok (.tuple #[]) W') ∧ IdRd W' (some ⟨g, 0, none⟩) ((valsT d).take k) ∧ W.grownBy W' (some g) := by
  obtain ⟨cs, h1, h2, h3⟩ := h.blk
  have hle := h.le
  have hm : d.size * 32 ≤ c * 32 := Nat.mul_le_mul_right 32 hle
  obtain ⟨zv, hzv, hz⟩ : ∃ zv : Value, (∀ W, (zeroValue 24).run Try.prog W = .ok zv W) ∧ zv.cells = idVals zeroB := ⟨_, zero_id, rfl⟩
  have hz32 : (idVals zeroB).size = 32 := by rw [idVals_size]; rfl
  have hlen : (Builtin.zeroCells (idVals zeroB) (d.size - k)).toList.length = (d.size - k) * 32 := by
    unfold Builtin.zeroCells
    simp [hz32]
  have hone : ∀ v ∈ (Builtin.zeroCells (idVals zeroB) (d.size - k)).toList, v.oneCell' = true := by
    intro v hv
    unfold Builtin.zeroCells at hv
    simp only [Array.toList_map, List.mem_map] at hv
    obtain ⟨i, _, rfl⟩ := hv
    have hlt : i % (idVals zeroB).size < (idVals zeroB).size := Nat.mod_lt _ (by rw [hz32]; decide)
    rw [getElem!_pos (idVals zeroB) _ hlt]
    exact (Array.all_eq_true_iff_forall_mem.1 (idVals_one zeroB)) _ (Array.getElem_mem hlt)
  have hst := run_storeCells_at Try.prog g (k * 32) 24 (Builtin.zeroCells (idVals zeroB) (d.size - k)).toList 0 cs W h1 (by rw [hlen, h2]; omega) hone
  simp only [Nat.add_zero] at hst
  obtain ⟨hb, hgr⟩ := blk_over h1 (over cs (k * 32) (Builtin.zeroCells (idVals zeroB) (d.size - k)).toList)
  obtain ⟨m, hm2⟩ : ∃ m, d.size - k = m + 1 := ⟨d.size - k - 1, by omega⟩
  refine ⟨_, fun ty => ?_, ⟨fun a ha => valsT_32 d a (List.mem_of_mem_take ha), .inr ⟨g, 0, rfl, fun j v hj => ?_⟩⟩, hgr⟩
  · rw [hm2] at hst ⊢
    simp [Builtin.clear_, run_underlying Try.underlying22, hzv, hz, hst]
    simp [over]
  · rw [Nat.zero_add]
    have hjl := (List.getElem?_eq_some_iff.1 hj).1
    rw [idsV_length _ (fun a ha => valsT_32 d a (List.mem_of_mem_take ha)), List.length_take, valsT_len, Nat.min_eq_left (by omega)] at hjl
    refine hb.cell_ ?_
    rw [over_get _ _ _ (by rw [hlen, h2]; omega), if_pos hjl]
    have hq : (idsV (valsT d))[j]? = some v := by
      rw [← List.take_append_drop k (valsT d), idsV_append, List.getElem?_append_left (List.getElem?_eq_some_iff.1 hj).1]
      exact hj
    rw [← h3, List.getElem?_take] at hq
    split at hq
    · rwa [Array.getElem?_toList] at hq
    · cases hq
theorem comp_take {d dk : Array IdT} {n k : Nat} (h : CompInv d n k dk) (hk : k ≤ dk.size) : (valsT dk).take k = keptT d n := by
  unfold keptT
  apply List.ext_getElem?
  intro i
  rw [List.getElem?_take, List.getElem?_map]
  by_cases hi : i < k
  · rw [if_pos hi, h.low i hi, valsT_get (by omega)]
    rfl
  · rw [if_neg hi, List.getElem?_eq_none (by rw [h.len]; omega)]
    rfl
set_option maxRecDepth 100000 in
set_option maxHeartbeats 40000000 in
theorem compact_any (g c : Nat) (d : Array IdT) (hn9 : d.size ≤ 1000000) (w : World) (hR : RowG g c d w) :
    Calls Try.prog 37 #[.slice (some ⟨g, 0, none⟩) d.size c] w fun e w' => ∃ m, e = .returned (.slice (some ⟨g, 0, none⟩) m c) ∧ RowR w' (some ⟨g, 0, none⟩) m (keptT d d.size) ∧ w.grownBy w' (some g) := by
  have hu := Try.underlying24
  have mixed : Try.prog.follows .mixedOrders = true := by kernel_rfl
  have hle := hR.le
  have whole : (∀ j, j < d.size → keeps d j = true) → ∀ wr, Below w.heap.size w wr → ∃ m, (Ending.returned (.slice (some ⟨g, 0, none⟩) d.size c)) = .returned (.slice (some ⟨g, 0, none⟩) m c) ∧ RowR wr (some ⟨g, 0, none⟩) m (keptT d d.size) ∧ w.grownBy wr (some g) := by
    intro hall wr hb
    refine ⟨d.size, rfl, ?_, ⟨hb.os, hb.tape, hb.output, hb.size, fun k hk _ => hb.block k hk⟩⟩
    unfold keptT
    rw [compactUpTo_all d _ hall, range_map_get]
    have := (hR.below hb).rd (Nat.le_refl d.size)
    rw [List.take_of_length_le (by rw [valsT_len]; exact Nat.le_refl _)] at this
    exact ⟨by simp, hn9, this⟩
  obtain ⟨n, hn⟩ : ∃ n, n = d.size := ⟨_, rfl⟩
  have HWH := hid whole
  clear whole
  rw [← hn] at HWH hle hn9 ⊢
  by_cases h2 : n < 2
  · have HN := hid hn
    have b1 : (n : Int) < 2 := by omega
    clear hn
    go_enter Try.func37, Try.ntmps37
    go_wp2
    go_ret
    exact HWH.out (fun j hj => by
      have := HN.out
      exact keeps_lt_one d j (by omega)) _ (Below.refl _ _)
  · have b1 : ¬ (n : Int) < 2 := by omega
    have HN := hid hn
    clear hn
    go_enter Try.func37, Try.ntmps37
    go_wp2
    go_loopw [3] (fun i wr => ∃ j : Nat, j + 1 ≤ n ∧ i = .int .i64 ((j : Int) + 1) ∧ (∀ i, i < j + 1 → keeps d i = true) ∧ Below w.heap.size w wr) (fun i _ => n + 1 - (intOf i).toNat)
    case atStart => exact ⟨0, by omega, rfl, fun i hi => keeps_lt_one d i (by omega), Below.refl _ _⟩
    case round =>
      obtain ⟨j, hj, rfl, hall, hb⟩ := hrel
      by_cases hlt : j + 1 < n
      · have hj1 : j + 1 < d.size := by rw [← HN.out]; exact hlt
        have hj0 : j < d.size := by omega
        have RB := hR.below hb
        obtain ⟨x, hx⟩ : ∃ x, d[j + 1]! = x := ⟨_, rfl⟩
        obtain ⟨y, hy⟩ : ∃ y, d[j]! = y := ⟨_, rfl⟩
        have rx := RB.range hj1
        have ry := RB.range hj0
        rw [hx] at rx
        rw [hy] at ry
        have hix := index_row g 0 n c (j + 1) hlt
        have hiy := index_row g 0 n c j (by omega)
        rw [show ((j + 1 : Nat) : Int) = (j : Int) + 1 by omega, Nat.zero_add] at hix
        rw [Nat.zero_add] at hiy
        have b2 : (j : Int) + 1 < n := by omega
        have b3 : (0 : Int) ≤ j := by omega
        have b4 : IntKind.i64.wrap (j : Int) = j := by
          rw [IntKind.wrap_i64]; omega
        have fx := range_later rx
        have fy := range_later ry
        have hzx : (Try.prog.info? 24).map (·.size) = some (x.1.map u8v).length := by rw [List.length_map, x.2]; exact sizeId
        have hzy : (Try.prog.info? 24).map (·.size) = some (y.1.map u8v).length := by rw [List.length_map, y.2]; exact sizeId
        obtain ⟨t, ht⟩ : ∃ t, decide (x.1 = y.1) = t := ⟨_, rfl⟩
        have heq : ∀ W, (Op.equalIn 10000 24 (.agg (List.map u8v x.1).toArray) (.agg (List.map u8v y.1).toArray)).run Try.prog W = .ok t W := fun W => (ids_eq W x.1 y.1 x.2 y.2).trans (by rw [ht])
        obtain ⟨o, ho⟩ : ∃ o, o = (j + 1) * 32 := ⟨_, rfl⟩
        obtain ⟨m, hm⟩ : ∃ m, m = n - (j + 1) := ⟨_, rfl⟩
        obtain ⟨c2, hc2⟩ : ∃ c2, c2 = c - (j + 1) := ⟨_, rfl⟩
        have hsl := slice_from g n c (j + 1) hlt hle
        rw [show ((j + 1 : Nat) : Int) = (j : Int) + 1 by omega, ← ho, ← hm, ← hc2] at hsl
        rw [← ho] at hix fx
        have HO := hid ho
        have HM := hid hm
        have HC2 := hid hc2
        have HX := hid hx
        have HY := hid hy
        have HT := hid ht
        have HALL := hid hall
        clear ho hm hc2 hx hy ht hall rx ry RB
        go_wp2
        refine wp_region_later mixed (by kernel_rfl) ?_
        repeat (first
          | ((with_reducible refine wpQuiet_skip (by with_unfolding_all rfl) ?_); simp only [Act.put, List.setIfInBounds_toArray, List.set_cons_zero, List.set_cons_succ])
          | ((with_reducible refine wpQuiet_load_if (by with_unfolding_all rfl) 24 _ rfl _ _ rfl (x.1.map u8v) _ fx hu (by with_unfolding_all rfl) hzx ?_); simp only [Act.put, List.setIfInBounds_toArray, List.set_cons_zero, List.set_cons_succ])
          | ((with_reducible refine wpQuiet_load_if (by with_unfolding_all rfl) 24 _ rfl _ _ rfl (y.1.map u8v) _ fy hu (by with_unfolding_all rfl) hzy ?_); simp only [Act.put, List.setIfInBounds_toArray, List.set_cons_zero, List.set_cons_succ])
          | ((with_reducible refine wpQuiet_step (fun K hK => ?_)); go_simp; first | ((with_reducible refine hK _ ?_); clear hK K) | (with_reducible apply Exists.intro; (with_reducible refine ⟨fun _ => ?_, hK _ ?_⟩); ((fail)); clear hK K)))
        with_reducible refine wpQuiet_nil ?_
        intro _ hw'
        obtain ⟨p, rfl⟩ := hw'
        have hp := p.h
        generalize p.w = wq at *
        replace hb := hb.trans (hp.mono hb.size)
        clear hp fx fy hzx hzy heq hix hiy
        cases t with
        | false =>
          go_wp2
          go_roundw
          case rel => exact ⟨j + 1, by omega, by go_num, (fun i hi => by
            by_cases e : i = j + 1
            · subst e
              refine keeps_pos ?_
              rw [HX.out, show j + 1 - 1 = j from rfl, HY.out]
              exact fun e => of_decide_eq_false HT.out (congrArg Subtype.val e)
            · exact HALL.out i (by omega)), hb⟩
          case measure => simp [intOf]; omega
        | true =>
          have hI : CompInv d (j + 1 + 1) (j + 1) d := CompInv.start HALL.out (keeps_neg (by omega) (by rw [HX.out, show j + 1 - 1 = j from rfl, HY.out]; exact Subtype.ext (of_decide_eq_true HT.out)))
          have hg0 : w.grownBy wq (some g) := ⟨hb.os, hb.tape, hb.output, hb.size, fun k hk _ => hb.block k hk⟩
          have hR0 := hR.below hb
          clear hb
          go_wp2
          go_loopw [3, 5] (fun s3 s5 wr => ∃ (kk i : Nat) (dk : Array IdT), s3 = .int .i64 kk ∧ s5 = .int .i64 ((i : Int) + 1) ∧ i + 1 ≤ m ∧ RowG g c dk wr ∧ CompInv d (j + 1 + (i + 1)) kk dk ∧ w.grownBy wr (some g)) (fun _ s5 _ => m + 1 - (intOf s5).toNat)
          case atStart => exact ⟨j + 1, 0, d, by go_num, rfl, by have := HM.out; omega, hR0, hI, hg0⟩
          case round =>
            clear hI hg0 hR0
            obtain ⟨kk, i, dk, rfl, rfl, hi1, hRk, hI, hgr⟩ := hrel
            have hkk := hI.lt
            have hdk := hI.size
            have em := HM.out
            have en := HN.out
            by_cases hlt2 : i + 1 < m
            · have hk1 : j + 1 + (i + 1) < dk.size := by omega
              have hk0 : j + 1 + i < dk.size := by omega
              have hkz : kk < dk.size := by omega
              obtain ⟨u, hU⟩ : ∃ u, d[j + 1 + (i + 1)]! = u := ⟨_, rfl⟩
              obtain ⟨v, hv⟩ : ∃ v, d[j + 1 + i]! = v := ⟨_, rfl⟩
              have ru := hRk.range hk1
              have rv := hRk.range hk0
              rw [hI.high _ (by omega), hU, show (j + 1 + (i + 1)) * 32 = o + (i + 1) * 32 by have := HO.out; omega] at ru
              rw [hI.high _ (by omega), hv, show (j + 1 + i) * 32 = o + i * 32 by have := HO.out; omega] at rv
              have hiu := index_row g o m c2 (i + 1) hlt2
              have hiv := index_row g o m c2 i (by omega)
              rw [show ((i + 1 : Nat) : Int) = (i : Int) + 1 by omega] at hiu
              have hik := index_row g 0 n c kk (by omega)
              rw [Nat.zero_add] at hik
              have d2 : (i : Int) + 1 < m := by omega
              have d3 : (0 : Int) ≤ i := by omega
              have d4 : IntKind.i64.wrap (i : Int) = i := by
                rw [IntKind.wrap_i64]; omega
              have d5 : (kk : Int) ≤ 1000000 := by omega
              have d7 : (m : Int) ≤ 1000000 := by omega
              have d6 : (0 : Int) ≤ kk := by omega
              have fu := range_later ru
              have fv := range_later rv
              have hzu : (Try.prog.info? 24).map (·.size) = some (u.1.map u8v).length := by rw [List.length_map, u.2]; exact sizeId
              have hzv : (Try.prog.info? 24).map (·.size) = some (v.1.map u8v).length := by rw [List.length_map, v.2]; exact sizeId
              obtain ⟨t2, ht2⟩ : ∃ t2, decide (u.1 = v.1) = t2 := ⟨_, rfl⟩
              have heq2 : ∀ W, (Op.equalIn 10000 24 (.agg (List.map u8v u.1).toArray) (.agg (List.map u8v v.1).toArray)).run Try.prog W = .ok t2 W := fun W => (ids_eq W u.1 v.1 u.2 v.2).trans (by rw [ht2])
              obtain ⟨cs, q1, q2, q3⟩ := hRk.blk
              have HU := hid hU
              have HV := hid hv
              have HT2 := hid ht2
              have HI := hid hI
              have HKZ := hid hkz
              have HK1 := hid hk1
              have HQ2 := hid q2
              have HQ3 := hid q3
              have HEM := hid em
              have HEN := hid en
              have HDK := hid hdk
              clear hU hv ht2 hI ru rv hk1 hk0 hkz q2 q3 em en hdk
              go_wp2
              refine wp_region_later mixed (by kernel_rfl) ?_
              repeat (first
                | ((with_reducible refine wpQuiet_skip (by with_unfolding_all rfl) ?_); simp only [Act.put, List.setIfInBounds_toArray, List.set_cons_zero, List.set_cons_succ])
                | ((with_reducible refine wpQuiet_load_if (by with_unfolding_all rfl) 24 _ rfl _ _ rfl (u.1.map u8v) _ fu hu (by with_unfolding_all rfl) hzu ?_); simp only [Act.put, List.setIfInBounds_toArray, List.set_cons_zero, List.set_cons_succ])
                | ((with_reducible refine wpQuiet_load_if (by with_unfolding_all rfl) 24 _ rfl _ _ rfl (v.1.map u8v) _ fv hu (by with_unfolding_all rfl) hzv ?_); simp only [Act.put, List.setIfInBounds_toArray, List.set_cons_zero, List.set_cons_succ])
                | ((with_reducible refine wpQuiet_step (fun K hK => ?_)); go_simp; first | ((with_reducible refine hK _ ?_); clear hK K) | (with_reducible apply Exists.intro; (with_reducible refine ⟨fun _ => ?_, hK _ ?_⟩); ((fail)); clear hK K)))
              with_reducible refine wpQuiet_nil ?_
              intro _ hw'
              obtain ⟨p, rfl⟩ := hw'
              have hp := p.h
              have q1b := q1.below hp
              have fu2 : p.w.rangeAt g (o + (i + 1) * 32) (u.1.map u8v) := fu p.w ⟨p, rfl⟩
              generalize p.w = wz at *
              have hRz := hRk.below hp
              have hgz := gb_below hgr hp
              clear hp fu fv hzv heq2 hiv q1
              cases t2 with
              | true =>
                go_wp2
                go_roundw
                case rel => exact ⟨kk, i + 1, dk, rfl, by go_num, by omega, hRz, HI.out.skip (keeps_neg (by omega) (by rw [HU.out, show j + 1 + (i + 1) - 1 = j + 1 + i from rfl, HV.out]; exact Subtype.ext (of_decide_eq_true HT2.out))), hgz⟩
                case measure => simp [intOf]; omega
              | false =>
                go_wp2_with (first
                  | (with_reducible refine wpList_load_if (by with_unfolding_all rfl) 24 _ rfl _ _ rfl (u.1.map u8v) _ fu2 hu (by with_unfolding_all rfl) hzu ?_)
                  | ((with_reducible refine wpList_store_row rfl 24 _ _ rfl g (kk * 32) cs (idVals u.1) 24 q1b rfl rfl (by rw [idVals_size, u.2]; exact sizeId) (by rw [idVals_size, u.2, HQ2.out]; have := HKZ.out; have := HDK.out; have := HEN.out; omega) (idVals_one _) ?_); intro w8 hb8 hg8))
                go_roundw
                case rel =>
                  refine ⟨kk + 1, i + 1, dk.setIfInBounds kk u, by go_num, by go_num, by omega, hRz.put HQ2.out HQ3.out HKZ.out u hb8, ?_, gb_trans hgz hg8⟩
                  have := HI.out.keep (by have := HK1.out; have := HDK.out; omega) (keeps_pos (by rw [HU.out, show j + 1 + (i + 1) - 1 = j + 1 + i from rfl, HV.out]; exact fun e => of_decide_eq_false HT2.out (congrArg Subtype.val e)))
                  rw [HU.out] at this
                  exact this
                case measure => simp [intOf]; omega
            · have him : i + 1 = m := by omega
              have d2 : ¬ (i : Int) + 1 < m := by omega
              have e2 : j + 1 + (i + 1) = d.size := by omega
              have hkz : kk < dk.size := by omega
              obtain ⟨w5, hcl, hrd, hg5⟩ := clear_row hRk hkz
              rw [hdk, ← en] at hcl
              have hs1 := slice_from g n c kk (by omega) hle
              have hs2 := slice_to g n c kk (by omega) hle
              have d6 : (0 : Int) ≤ kk := by omega
              have hgf := gb_trans hgr hg5
              rw [e2] at hI
              have hct := comp_take hI (by omega)
              rw [hct] at hrd
              have HL : Hid ((keptT d d.size).length = kk) := hid (by unfold keptT; rw [List.length_map]; exact hI.len)
              have HIR := hid hrd
              have HKN : Hid (kk ≤ 1000000) := hid (by omega)
              clear hI hct hrd hkz hdk e2 em en him hkk
              go_wp2
              go_ret
              exact ⟨kk, rfl, by rw [HN.out]; exact ⟨HL.out, HKN.out, HIR.out⟩, hgf⟩
      · obtain rfl : n = j + 1 := by omega
        have b2 : ¬ (j : Int) + 1 < ((j + 1 : Nat) : Int) := by omega
        have HALL := hid hall
        clear hall
        go_wp2
        go_ret
        exact HWH.out (fun i hi => HALL.out i hi) _ hb
end Go.Proofs.Ytbdlpdajdlpncaa

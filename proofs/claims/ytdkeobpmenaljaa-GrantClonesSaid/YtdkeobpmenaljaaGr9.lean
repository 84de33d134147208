
/- grant: New, Apply, Grants, Depth: a table as data. -/
import Derived.Test.YtdkeobpmenaljaaGr8
set_option linter.unusedSimpArgs false
set_option linter.unusedVariables false
namespace Go.Proofs.Ytdkeobpmenaljaa
open Go.RowKit Go.Qc Go.Shelf
attribute [local go_sem] txt_size txt_append ib_fold txt_toL
/-- A table, with its grants. -/
structure TbS (W : World) (tb : Nat) (root : List UInt8) (Xs : List GrD) : Prop where
  rows : ∃ (V : Value) (base : Nat), GrOw W base V Xs.length Xs ∧ TbX W tb root V ∧ V.ownBlock ≠ some tb
  ok : ∀ X ∈ Xs, X.ok
theorem TbS.below {W W' : World} {tb : Nat} {root : List UInt8} {Xs : List GrD} (h : TbS W tb root Xs) (hb : Below W.heap.size W W') : TbS W' tb root Xs := by
  obtain ⟨⟨V, base, h1, h2, h3⟩, h4⟩ := h
  exact ⟨⟨V, base, h1.below hb, h2.below hb, h3⟩, h4⟩
theorem TbS.open_ {W : World} {tb : Nat} {root : List UInt8} {Xs : List GrD} (h : TbS W tb root Xs) : ∃ A C, TbX W tb root (.slice A Xs.length C) ∧ Xs.length ≤ C ∧ (A = none → Xs.length = 0 ∧ C = 0) ∧ GrRd W A Xs := by
  obtain ⟨⟨V, base, h1, h2, h3⟩, h4⟩ := h
  obtain ⟨A, C, rfl, _, hc, hA, hr⟩ := h1.rd h4
  exact ⟨A, C, h2, hc, hA, hr⟩
/-- The grants behind an operation. -/
def nextG (root : List UInt8) (Xs : List GrD) (key : List UInt8) (D : OpD) : List GrD := if (appG root Xs key D).2 = 0 then (appG root Xs key D).1 else Xs
theorem own_base {W : World} {base n : Nat} {v : Value} {Xs : List GrD} {k : Nat} (h : GrOw W base v n Xs) (hk : v.ownBlock = some k) : base ≤ k := (World.ownsRow.lt h k hk).1

set_option maxRecDepth 100000 in
set_option maxHeartbeats 20000000 in
theorem build_tb (root : List UInt8) (hR : root.length = 32) (W : World) : (Instr.build 102 #[(0, .agg (List.map u8v root).toArray)]).run Try.prog W = .ok (.agg (idVals root ++ #[.slice none 0 0])) W := by
  obtain ⟨x0, x1, x2, x3, x4, x5, x6, x7, x8, x9, x10, x11, x12, x13, x14, x15, x16, x17, x18, x19, x20, x21, x22, x23, x24, x25, x26, x27, x28, x29, x30, x31, rfl⟩ := list32g root hR
  kernel_rfl
theorem wpList_build_tb {w : World} {ops : Array Oper} {rest : List Oper} {o : Oper} {a : Act} {Q : Exit → Act → World → Prop} (hgd : o.guard = none) (parts : Array (Nat × Operand)) (ho : o.op = .build 102 parts)
    (root : List UInt8) (hR : root.length = 32) (hp : (parts.map fun (i, x) => (i, a.eval x)) = #[(0, .agg (List.map u8v root).toArray)])
    (h : wpList Try.prog ops Q rest (a.put o.dst (.agg (idVals root ++ #[.slice none 0 0]))) w) : wpList Try.prog ops Q (o :: rest) a w := by
  refine wpList_plain hgd fun K' hK' => ?_
  have hr := build_tb root hR w
  rw [← hp] at hr
  unfold Oper.wp
  simp only [execOp, ho]
  simp only [Sem.run_bind, hr, Result.andThen, Sem.run_pure]
  exact hK' _ _ h

set_option maxRecDepth 100000 in
set_option maxHeartbeats 20000000 in
theorem gnew_any (root : List UInt8) (hR : root.length = 32) (w : World) :
    Calls Try.prog 13 #[.agg (idVals root)] w fun e w' => ∃ tb, e = .returned (.pointer (some ⟨tb, 0, none⟩)) ∧ w.heap.size ≤ tb ∧ TbS w' tb root [] ∧ Below w.heap.size w w' := by
  have hka := range_blk (Blk.new w 23 (idVals root))
  have hba := (Below.refl w.heap.size w).alloc (Nat.le_refl _) (.cells (idVals root) 23)
  have hu := Try.underlying23
  have hzk : (Try.prog.info? 23).map (·.size) = some (root.map u8v).length := by rw [List.length_map, hR]; exact sizeId
  have hal := hba.alloc hba.size (.cells (idVals root ++ #[.slice none 0 0]) 102)
  have hbk := Blk.new (w.alloc (.cells (idVals root) 23)) 102 (idVals root ++ #[.slice none 0 0])
  rw [World.size_alloc] at hbk
  go_enter Try.func13, Try.ntmps13
  go_wp2_with (first
    | (with_reducible refine wpList_load_if (by with_unfolding_all rfl) 23 _ rfl _ _ rfl (root.map u8v) _ hka hu rfl hzk ?_)
    | (with_reducible refine wpList_build_tb rfl _ rfl root hR (by with_unfolding_all rfl) ?_))
  go_ret
  exact ⟨w.heap.size + 1, rfl, Nat.le_succ _, ⟨⟨.slice none 0 0, 0, GrOw.none_ _ _, ⟨hbk⟩, by simp [Value.ownBlock]⟩, by simp⟩, hal⟩

set_option maxRecDepth 100000 in
set_option maxHeartbeats 20000000 in
theorem ggrants_any (tb : Nat) (root : List UInt8) (hR : root.length = 32) (Xs : List GrD) (bn : Xs.length ≤ 1000) (w : World) (hs : TbS w tb root Xs) :
    Calls Try.prog 20 #[.pointer (some ⟨tb, 0, none⟩)] w fun e w' => ∃ v, e = .returned v ∧ GrOw w' w.heap.size v Xs.length Xs ∧ Below w.heap.size w w' := by
  obtain ⟨A, C, ht, hc, hA, hr⟩ := hs.open_
  have x32 := ht.row hR
  have cC := gclone_any A Xs.length C Xs w rfl bn hA hr
  go_enter Try.func20, Try.ntmps20
  go_wp2_with (fail)
  refine cC.mono ?_
  rintro e1 w1 ⟨v, rfl, hown, hb⟩
  go_wp2_with (fail)
  go_ret
  exact ⟨_, rfl, hown, hb⟩

set_option maxRecDepth 100000 in
set_option maxHeartbeats 20000000 in
theorem putG_ok {Xs : List GrD} {Y : GrD} (h : ∀ X ∈ Xs, X.ok) (hY : Y.ok) : ∀ X ∈ putG Xs Y, X.ok := fun X hX => by
  unfold putG at hX
  rcases List.mem_append.1 hX with hX | hX
  · exact h X (List.mem_of_mem_take hX)
  · rcases List.mem_cons.1 hX with rfl | hX
    · exact hY
    · exact h X (List.mem_of_mem_drop hX)
theorem appG_ok {root : List UInt8} {Xs : List GrD} {key : List UInt8} {D : OpD} (h : ∀ X ∈ Xs, X.ok) (hk : key.length = 32) (hK : D.K.length = 32) : ∀ X ∈ (appG root Xs key D).1, X.ok := by
  unfold appG
  split
  · simp
  · split
    · simp
    · split
      · split
        · simp
        · split
          · simp
          · exact iterH_ok _ _ (fun X hX => h X (List.mem_filter.1 hX).1)
      · split
        · simp
        · split
          · simp
          · split
            · simp
            · exact putG_ok h ⟨hK, hk⟩
theorem tb_set (root : List UInt8) (hR : root.length = 32) (u v : Value) : (idVals root ++ #[u]).setIfInBounds 32 v = idVals root ++ #[v] := by
  have hs : (idVals root).size = 32 := by rw [idVals_size, hR]
  apply Array.ext_getElem?
  intro i
  rw [Array.getElem?_setIfInBounds]
  by_cases h : 32 = i
  · subst h
    rw [if_pos rfl, if_pos (by simp [hs]), Array.getElem?_append_right (by omega), hs]
    rfl
  · rw [if_neg h]
    by_cases h1 : i < 32
    · rw [Array.getElem?_append_left (by omega), Array.getElem?_append_left (by omega)]
    · rw [Array.getElem?_eq_none (by simp [hs]; omega), Array.getElem?_eq_none (by simp [hs]; omega)]
theorem gb_of {w W : World} {r : Option Nat} (h : Below w.heap.size w W) : w.grownBy W r := ⟨h.os, h.tape, h.output, h.size, fun k hk _ => h.block k hk⟩
theorem gb_then {w W W' : World} {r : Option Nat} (h : Below w.heap.size w W) (hg : W.grownBy W' r) : w.grownBy W' r :=
  ⟨hg.os.trans h.os, hg.tape.trans h.tape, hg.output.trans h.output, Nat.le_trans h.size hg.size, fun k hk hne => (hg.block k (Nat.lt_of_lt_of_le hk h.size) hne).trans (h.block k hk)⟩

set_option maxRecDepth 100000 in
set_option maxHeartbeats 20000000 in
theorem gapply_any (D : OpD) (hK : D.K.length = 32) (A : Option Addr) (n c : Nat) (B : Option Addr) (m d : Nat) (hlo : D.o.length = n) (bno : n ≤ 1000000) (hln : D.n.length = m) (bmo : m ≤ 1000000) (root : List UInt8) (hR : root.length = 32) (tb : Nat) (Xs : List GrD) (bn : Xs.length ≤ 900) (key : List UInt8) (hk : key.length = 32) (w : World) (hs : TbS w tb root Xs) (rA : Rd w A (D.o.map strV)) (rB : Rd w B (D.n.map strV)) :
    Calls Try.prog 15 #[.pointer (some ⟨tb, 0, none⟩), .agg (idVals key), .agg (opC D A n c B m d)] w fun e w' => e = .returned (.int .i64 (appG root Xs key D).2) ∧ TbS w' tb root (nextG root Xs key D) ∧ w.grownBy w' (some tb) := by
  have hka := range_blk (Blk.new w 23 (idVals key))
  have hba := (Below.refl w.heap.size w).alloc (Nat.le_refl _) (.cells (idVals key) 23)
  have hBA := (Below.refl (w.alloc (.cells (idVals key) 23)).heap.size (w.alloc (.cells (idVals key) 23))).alloc (Nat.le_refl _) (.cells (opC D A n c B m d) 33)
  have hbo := hba.alloc hba.size (.cells (opC D A n c B m d) 33)
  have hox := OpX.new (w.alloc (.cells (idVals key) 23)) D A n c B m d
  rw [World.size_alloc] at hox
  have hkk := hka.below hBA
  have hs2 := hs.below hbo
  have hu := Try.underlying23
  have hzk : (Try.prog.info? 23).map (·.size) = some (key.map u8v).length := by rw [List.length_map, hk]; exact sizeId
  obtain ⟨AG, C, ht, hNC, hA, hr⟩ := hs2.open_
  have htl : tb < w.heap.size := by obtain ⟨⟨V, base, _, h2, _⟩, _⟩ := hs; exact h2.b.lt
  have cA := gapplied_any D hK A n c B m d hlo bno hln bmo root hR tb AG Xs.length C Xs rfl bn hNC hA key hk _ ht hr (rA.below hbo) (rB.below hbo)
  have hok := appG_ok (root := root) hs.ok hk hK (key := key)
  obtain ⟨R, hRR⟩ : ∃ R, appG root Xs key D = R := ⟨_, rfl⟩
  have hNX : nextG root Xs key D = if R.2 = 0 then R.1 else Xs := by unfold nextG; rw [hRR]
  rw [hRR] at cA hok
  rw [hRR]
  have HNX := hid hNX
  have HRR := hid hRR
  have hss : w.heap.size ≤ ((w.alloc (.cells (idVals key) 23)).alloc (.cells (opC D A n c B m d) 33)).heap.size := hbo.size
  clear hNX hRR hka hba hBA rA rB ht hr
  have cA : Calls Try.prog 60 #[.pointer (some ⟨tb, 0, none⟩), .agg (List.map u8v key).toArray, .agg (opC D A n c B m d)] ((w.alloc (.cells (idVals key) 23)).alloc (.cells (opC D A n c B m d) 33)) (fun e w' => ApQ2 R ((w.alloc (.cells (idVals key) 23)).alloc (.cells (opC D A n c B m d) 33)).heap.size e w' ∧ Below ((w.alloc (.cells (idVals key) 23)).alloc (.cells (opC D A n c B m d) 33)).heap.size ((w.alloc (.cells (idVals key) 23)).alloc (.cells (opC D A n c B m d) 33)) w') := cA
  by_cases h0 : R.2 = 0
  · have cB := cA.mono (R' := fun e w' => ∃ A5 c5, e = .returned (.tuple #[.slice A5 R.1.length c5, .int .i64 0]) ∧ GrOw w' ((w.alloc (.cells (idVals key) 23)).alloc (.cells (opC D A n c B m d) 33)).heap.size (.slice A5 R.1.length c5) R.1.length R.1 ∧ Below ((w.alloc (.cells (idVals key) 23)).alloc (.cells (opC D A n c B m d) 33)).heap.size ((w.alloc (.cells (idVals key) 23)).alloc (.cells (opC D A n c B m d) 33)) w') (by
      rintro e5 w5 ⟨hQ, hb5⟩
      rcases hQ with ⟨hl, rfl⟩ | ⟨hl, v5, rfl, hown5⟩
      · exact (hl h0).elim
      · obtain ⟨A5, c5, rfl, _⟩ := hown5.rd hok
        exact ⟨A5, c5, rfl, hown5, hb5⟩)
    rw [h0]
    have HN2 := hid (show nextG root Xs key D = R.1 by rw [HNX.out, if_pos h0])
    clear cA HNX
    go_enter Try.func15, Try.ntmps15
    go_wp2_with (first
      | (with_reducible refine wpList_load_opx (by with_unfolding_all rfl) _ rfl _ rfl hox hK ?_)
      | (with_reducible refine wpList_load_if (by with_unfolding_all rfl) 23 _ rfl _ _ rfl (key.map u8v) _ hkk hu rfl hzk ?_)
      | (go_at_call 60; (with_reducible refine cB.mono ?_); rintro e5 w5 ⟨A5, c5, rfl, hown5, hb5⟩; have hs5 := hs2.below hb5; obtain ⟨⟨V0, base0, _, hT5, _⟩, _⟩ := hs5; have q32 := hT5.row hR; have f32 := hT5.b.frozen 32))
    go_ret
    have hbb := hbo.trans (hb5.mono hbo.size)
    have hg6 := gb_setG w5 ⟨tb, 32, none⟩ (.slice A5 R.1.length c5)
    refine ⟨rfl, ?_, gb_then hbb hg6⟩
    rw [HN2.out]
    refine ⟨⟨.slice A5 R.1.length c5, _, gr_own_blk hown5 hT5.b (by decide) hg6, ⟨?_⟩, fun e => ?_⟩, hok⟩
    · have h9 := hT5.b.set 32 (.slice A5 R.1.length c5)
      rwa [tb_set root hR] at h9
    · have := own_base hown5 e
      omega
  · have cB := cA.mono (R' := fun e w' => e = .returned (.tuple #[.slice none 0 0, .int .i64 R.2]) ∧ Below ((w.alloc (.cells (idVals key) 23)).alloc (.cells (opC D A n c B m d) 33)).heap.size ((w.alloc (.cells (idVals key) 23)).alloc (.cells (opC D A n c B m d) 33)) w') (by
      rintro e5 w5 ⟨hQ, hb5⟩
      rcases hQ with ⟨hl, rfl⟩ | ⟨hl, v5, rfl, hown5⟩
      · exact ⟨rfl, hb5⟩
      · exact (h0 hl).elim)
    have HN2 := hid (show nextG root Xs key D = Xs by rw [HNX.out, if_neg h0])
    have z0 : (R.2 == 0) = false := by rw [beq_eq_false_iff_ne]; exact h0
    generalize R.2 = z at *
    clear cA HNX HRR
    go_enter Try.func15, Try.ntmps15
    go_wp2_with (first
      | (with_reducible refine wpList_load_opx (by with_unfolding_all rfl) _ rfl _ rfl hox hK ?_)
      | (with_reducible refine wpList_load_if (by with_unfolding_all rfl) 23 _ rfl _ _ rfl (key.map u8v) _ hkk hu rfl hzk ?_)
      | (go_at_call 60; (with_reducible refine cB.mono ?_); rintro e5 w5 ⟨rfl, hb5⟩))
    all_goals first
      | (go_ret; exact ⟨rfl, by rw [HN2.out]; exact hs2.below hb5, gb_of (hbo.trans (hb5.mono hbo.size))⟩)
      | (exfalso; simp_all)

end Go.Proofs.Ytdkeobpmenaljaa

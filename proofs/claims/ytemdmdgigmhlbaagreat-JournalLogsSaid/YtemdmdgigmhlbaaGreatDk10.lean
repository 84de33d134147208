/- disk: a crash. -/
import Derived.Test.YtemdmdgigmhlbaaGreatDl1
set_option linter.unusedSimpArgs false
set_option linter.unusedVariables false
namespace Go.Proofs.YtemdmdgigmhlbaaGreat
open Go.RowKit Go.Qc Go.Shelf
attribute [local go_sem] txt_size txt_append ib_fold
theorem txt_exD (t : List UInt8) (r : Nat) : (txt t).extract 0 r = txt (t.take r) := by rw [txt_extract]; simp
theorem str_hi (t : List UInt8) (r : Nat) (h : r ≤ t.length) (W : World) : (Instr.sliceAt 9 (.string (txt t)) none (some (.int .i64 (r : Int))) none).run Tryz.prog W = .ok (.string (txt (t.take r))) W := by
  have h2 : (0 : Int) ≤ (r : Int) ∧ (r : Int) ≤ (t.length : Int) := by omega
  simp [Instr.sliceAt, Instr.slice, Instr.sliceBounds, run_underlying Tryz.underlying9, run_sliceBound, h2, txt_size, Int.toNat_natCast, txt_exD]
/-- Is a write not kept, by the mask? -/
def lostM (m : Int) (i : Nat) : Bool := bits .and .u64 (m / 2 ^ (i % 64)) 1 == 0
theorem lost_zero (i : Nat) : lostM 0 i = true := by
  unfold lostM
  rw [Int.zero_ediv]
  decide
theorem keepN_le (cnt : Int) (size : Nat) (tn : Bool) : keepN cnt size tn ≤ size := by unfold keepN; split; omega; omega
theorem keepN_zero (size : Nat) (tn : Bool) : keepN 0 size tn = 0 := by unfold keepN; split <;> simp
/-- What is kept behind so many writes, and whether one was torn. -/
def crS (m cnt : Int) (k : List UInt8) (ws : List WrD) : Nat → List UInt8 × Bool
  | 0 => (k, false)
  | i + 1 => match ws[i]? with
    | none => crS m cnt k ws i
    | some x => if lostM m i then (putLd (crS m cnt k ws i).1 x.p (x.t.take (keepN cnt x.t.length (crS m cnt k ws i).2)), true) else (putLd (crS m cnt k ws i).1 x.p x.t, (crS m cnt k ws i).2)
theorem crS_lost {m cnt : Int} {k : List UInt8} {ws : List WrD} {i : Nat} {x : WrD} (h : ws[i]? = some x) (hl : lostM m i = true) : crS m cnt k ws (i + 1) = (putLd (crS m cnt k ws i).1 x.p (x.t.take (keepN cnt x.t.length (crS m cnt k ws i).2)), true) := by
  rw [crS, h]
  simp only [hl, if_true]
theorem crS_kept {m cnt : Int} {k : List UInt8} {ws : List WrD} {i : Nat} {x : WrD} (h : ws[i]? = some x) (hl : lostM m i = false) : crS m cnt k ws (i + 1) = (putLd (crS m cnt k ws i).1 x.p x.t, (crS m cnt k ws i).2) := by
  rw [crS, h]
  simp only [hl, Bool.false_eq_true, if_false]
theorem crS_len {m cnt : Int} {k : List UInt8} {ws : List WrD} (hk : k.length ≤ 10000000) (hw : ∀ x ∈ ws, x.p + x.t.length ≤ 10000000) : ∀ i, (crS m cnt k ws i).1.length ≤ 10000000
  | 0 => hk
  | i + 1 => by
    have h0 := crS_len (m := m) (cnt := cnt) hk hw i
    cases hx : ws[i]? with
    | none => rw [crS, hx]; exact h0
    | some x =>
      have := hw x (List.mem_of_getElem? hx)
      by_cases hl : lostM m i = true
      · rw [crS_lost hx hl]
        show (putLd _ _ _).length ≤ _
        rw [putL_length]
        have h2 : (x.t.take (keepN cnt x.t.length (crS m cnt k ws i).2)).length ≤ x.t.length := by rw [List.length_take]; omega
        split
        · exact h0
        · omega
      · rw [crS_kept hx (by simpa using hl)]
        show (putLd _ _ _).length ≤ _
        rw [putL_length]
        split
        · exact h0
        · omega
theorem crS_none {k : List UInt8} {ws : List WrD} : ∀ i, (crS 0 0 k ws i).1 = k
  | 0 => rfl
  | i + 1 => by
    have h0 := crS_none (k := k) (ws := ws) i
    cases hx : ws[i]? with
    | none => rw [crS, hx]; exact h0
    | some x =>
      rw [crS_lost hx (lost_zero i)]
      show putLd _ _ _ = _
      rw [keepN_zero, List.take_zero, putL_nil, h0]
/-- Only two blocks, and what is new, may have changed. -/
structure FrD (D : Nat) (r : Option Nat) (W w' : World) : Prop where
  os : w'.os = W.os
  tape : w'.tape = W.tape
  output : w'.output = W.output
  size : W.heap.size ≤ w'.heap.size
  block : ∀ i, i < W.heap.size → i ≠ D → some i ≠ r → w'.heap[i]? = W.heap[i]?
theorem FrD.refl (D : Nat) (r : Option Nat) (W : World) : FrD D r W W := ⟨rfl, rfl, rfl, Nat.le_refl _, fun _ _ _ _ => rfl⟩
theorem FrD.grown {D : Nat} {r q : Option Nat} {W a b : World} (h : FrD D r W a) (hg : a.grownBy b q) (hq : q = r ∨ q = some D ∨ q = none ∨ ∃ g, q = some g ∧ W.heap.size ≤ g) : FrD D r W b :=
  ⟨hg.os.trans h.os, hg.tape.trans h.tape, hg.output.trans h.output, Nat.le_trans h.size hg.size, fun i hi hd hr => (hg.block i (Nat.lt_of_lt_of_le hi h.size) (by
    rcases hq with rfl | rfl | rfl | ⟨g, rfl, hgg⟩
    · exact hr
    · intro e; exact hd (Option.some.inj e)
    · simp
    · intro e; have := Option.some.inj e; omega)).trans (h.block i hi hd hr)⟩
theorem FrD.below {D : Nat} {r : Option Nat} {W a b : World} (h : FrD D r W a) (hb : Below a.heap.size a b) : FrD D r W b := h.grown (gb_of_below hb none) (.inr (.inr (.inl rfl)))
theorem loss_range {W : World} {g : Nat} {m cnt : Int} (h : Blk W g 76 #[.int .u64 m, .int .i64 cnt]) : W.rangeAt g 0 [.int .u64 m, .int .i64 cnt] := fun j v hj => by
  rw [Nat.zero_add]
  exact h.cell_ (by rw [← Array.getElem?_toList]; exact hj)
theorem infoLoss : (Tryz.prog.info? 76).map (·.size) = some 2 := by kernel_rfl
theorem infoDisk : (Tryz.prog.info? 60).map (·.size) = some 5 := by kernel_rfl
theorem yields_loss {ops : Array Oper} {S : World → Prop} {op : Oper} {a : Act} (hw : Region.wanted op (yielded ops a.tmps) = true) (x : Operand) (ho : op.op = .load 76 x) (b : Nat) (hx : a.eval x = .pointer (some ⟨b, 0, none⟩)) (m cnt : Int) (hS : ∀ w, S w → Blk w b 76 #[.int .u64 m, .int .i64 cnt]) : YieldsIf Tryz.prog ops S op (.agg #[.int .u64 m, .int .i64 cnt]) a :=
  yieldsIf_load_mid (P := Tryz.prog) (ops := ops) (S := S) hw 76 x ho b 0 hx [.int .u64 m, .int .i64 cnt] _ (fun w h => loss_range (hS w h)) Tryz.underlying76 rfl infoLoss
theorem wp_store_blkD {P : Program} {w : World} {o : Oper} {a : Act} {K : Act → World → Prop} {Q : Exit → Act → World → Prop} (ty : TypeId) (x y : Operand) (ho : o.op = .store ty x y)
    (g : Nat) (old cs : Array Value) (t : TypeId) (hg : Blk w g t old) (hx : a.eval x = .pointer (some ⟨g, 0, none⟩)) (hy : a.eval y = .agg cs) (hi : (P.info? ty).map (·.size) = some cs.size) (hs : old.size = cs.size) (h1 : cs.all (·.oneCell') = true)
    (h : ∀ w', Blk w' g t cs → w.grownBy w' (some g) → K (a.put o.dst undef) w') : o.wp P a w K Q := by
  have hr : (Instr.storeAt ty (.pointer (some ⟨g, 0, none⟩)) (.agg cs)).run P w = .ok () (w.setRow g cs) := by
    simp only [Instr.storeAt, Instr.sureAddr, Sem.run_bind, Sem.run_pure, Result.andThen]
    exact run_storeVar_row _ g t ty old cs hg hi hs h1
  obtain ⟨hb, hgr⟩ := blk_over hg cs
  unfold Oper.wp
  simp [execOp, ho, hx, hy, hr]
  exact h _ hb hgr
theorem wp_store_disk {w : World} {o : Oper} {a : Act} {K : Act → World → Prop} {Q : Exit → Act → World → Prop} (x y : Operand) (ho : o.op = .store 60 x y)
    (D : Nat) (old cs : Array Value) (hg : Blk w D 60 old) (h5 : old.size = 5) (hx : a.eval x = .pointer (some ⟨D, 0, none⟩)) (hy : a.eval y = .agg cs) (hc : cs.size = 5) (h1 : cs.all (·.oneCell') = true)
    (h : ∀ w', Blk w' D 60 cs → w.grownBy w' (some D) → K (a.put o.dst undef) w') : o.wp Tryz.prog a w K Q :=
  wp_store_blkD 60 x y ho D old cs 60 hg hx hy (by rw [hc]; exact infoDisk) (h5.trans hc.symm) h1 h
theorem infoStrD : (Tryz.prog.info? 9).map (·.size) = some 1 := by kernel_rfl
theorem wp_store_wt {w : World} {o : Oper} {a : Act} {K : Act → World → Prop} {Q : Exit → Act → World → Prop} (x y : Operand) (ho : o.op = .store 9 x y)
    (g : Nat) (X : WrD) (hg : Blk w g 72 X.cs) (t : List UInt8) (hx : a.eval x = .pointer (some ⟨g, 1, none⟩)) (hy : a.eval y = .string (txt t))
    (h : ∀ w', Blk w' g 72 (WrD.cs ⟨X.p, t⟩) → w.grownBy w' (some g) → K (a.put o.dst undef) w') : o.wp Tryz.prog a w K Q :=
  wp_store_cellM' 9 x y ho g 1 _ _ hg (.string (txt t)) hx hy infoStrD (by show 1 + 1 ≤ 2; decide) rfl rfl fun w' hb hgr => h w' hb hgr
/-- What a crash leaves. -/
def CrashQ (base D : Nat) (kv : Value) (k : List UInt8) (W : World) (e : Ending) (w' : World) : Prop :=
  e = .returned (.int .i64 0) ∧ ∃ kv' sv', DkS base D kv' sv' (.slice none 0 0) k k [] true w' ∧ FrD D kv.ownBlock W w'
theorem blk_neD {W : World} {a b : Nat} {s t : TypeId} {x y : Array Value} (h : Blk W a s x) (k : Blk W b t y) (hne : s ≠ t) : a ≠ b := by
  rintro rfl
  have e := Option.some.inj (h.symm.trans k)
  injection e with _ e2 _
  exact hne e2
theorem by_le {W : World} {b base : Nat} {v : Value} {l : List UInt8} (h : ByOw W b v l) (hb : base ≤ b) : ByOw W base v l :=
  ⟨h.1, h.2.imp id fun ⟨g, c, cur, a, e, d⟩ => ⟨g, c, cur, a, Nat.le_trans hb e, d⟩⟩
/-- A box that is none of a disk's rows is stored. -/
theorem DkR.other {base g : Nat} {kv sv wv : Value} {k s : List UInt8} {ws : List WrD} {W W' : World} {T : TypeId} {cs : Array Value} (h : DkR base kv sv wv k s ws W) (hx : Blk W g T cs) (hg : W.grownBy W' (some g)) (hw : some g ≠ wv.ownBlock) (hb : T ≠ 5) : DkR base kv sv wv k s ws W' :=
  ⟨World.ownsRow.kept h.k hg (.inr (blk_off hx h.k hb).symm), World.ownsRow.kept h.s hg (.inr (blk_off hx h.s hb).symm), World.ownsRow.kept h.q hg (.inr hw.symm), h.ap, Nat.le_trans h.bs hg.size⟩
set_option maxRecDepth 100000 in
set_option maxHeartbeats 16000000 in
theorem dcrash_any (base D : Nat) (kv sv wv : Value) (k s : List UInt8) (ws : List WrD) (hk : k.length ≤ 10000000) (hw : ∀ x ∈ ws, x.p + x.t.length ≤ 10000000) (hn : ws.length ≤ 1000) (m cnt : Int) (W : World) (h : DkS base D kv sv wv k s ws false W) :
    Calls Tryz.prog 35 #[.pointer (some ⟨D, 0, none⟩), .agg #[.int .u64 m, .int .i64 cnt]] W (CrashQ base D kv (crS m cnt k ws ws.length).1 W) := by
  have hb1 := (Below.refl W.heap.size W).alloc (Nat.le_refl _) (.cells #[.int .u64 m, .int .i64 cnt] 76)
  have h1 := h.below hb1
  have hx1 := Blk.new W 76 #[.int .u64 m, .int .i64 cnt]
  have HBD := hid h.bd
  have HFR : Hid (FrD D kv.ownBlock W (W.alloc (.cells #[.int .u64 m, .int .i64 cnt] 76))) := hid ((FrD.refl _ _ _).below hb1)
  have HW := hid hw
  have HKL := hid (crS_len (m := m) (cnt := cnt) hk hw)
  obtain ⟨Aw, cw, rfl, _, _, _, _⟩ := h.r.q.rd (WrD.all_ok ws)
  obtain ⟨n, hnn⟩ : ∃ n, ws.length = n := ⟨_, rfl⟩
  have HNN := hid hnn
  have HN := hid hn
  rw [hnn] at h1 HN ⊢
  have f2 := h1.x.cell_ (i := 2) rfl
  have HS := hid h1
  have HX := hid hx1
  have HL0 := hid (show W.heap.size ≤ W.heap.size from Nat.le_refl _)
  clear h h1 hx1 hnn hn hk hw hb1
  go_enter Tryz.func35, Tryz.ntmps35
  go_upto_region 2 with (fail)
  generalize W.alloc (.cells #[.int .u64 m, .int .i64 cnt] 76) = w1 at *
  obtain ⟨gL, hgL⟩ : ∃ g, W.heap.size = g := ⟨_, rfl⟩
  rw [hgL] at HX
  have HGL := hid hgL
  simp only [hgL]
  clear hgL
  go_wp2_with (fail)
  clear f2
  go_loopw [5, 13] (fun u v wr => ∃ (i : Nat) (kv9 : Value), i ≤ n ∧ u = .bool (crS m cnt k ws i).2 ∧ v = .int .i64 (i : Int) ∧ Hid (DkS base D kv9 sv (.slice Aw n cw) (crS m cnt k ws i).1 s ws false wr) ∧ Hid (FrD D kv.ownBlock W wr) ∧ Hid (kv9.ownBlock = kv.ownBlock ∨ ∃ g, kv9.ownBlock = some g ∧ W.heap.size ≤ g) ∧ Hid (Blk wr gL 76 #[.int .u64 m, .int .i64 cnt])) (fun _ v _ => n - (intOf v).toNat)
  case atStart => exact ⟨0, kv, Nat.zero_le _, rfl, rfl, HS, HFR, hid (.inl rfl), HX⟩
  case round =>
    clear HS HFR HX
    obtain ⟨i, kv9, hi, rfl, rfl, HS, HFR, HV, HX⟩ := hrel
    obtain ⟨wo, hwo⟩ : ∃ u, u = wr := ⟨_, rfl⟩
    subst hwo
    by_cases hlt : i < n
    · obtain ⟨X, hX⟩ : ∃ X, ws[i]? = some X := ⟨_, List.getElem?_eq_getElem (by have := HNN.out; omega)⟩
      obtain ⟨A', c', e', hlen', _, _, hrd⟩ := WrOw.rd HS.out.r.q (WrD.all_ok ws)
      injection e' with ea eb ec
      subst ea ec
      obtain ⟨g, q, fx, hok, hix⟩ := hrd.pick (k := i) cw HNN.out hX
      have HWX := hid (HW.out X (List.mem_of_getElem? hX))
      have HKI := hid (HKL.out i)
      have HXI := hid hX
      obtain ⟨K9, hK9⟩ : ∃ K, (crS m cnt k ws i).1 = K := ⟨_, rfl⟩
      obtain ⟨tn, htn⟩ : ∃ b, (crS m cnt k ws i).2 = b := ⟨_, rfl⟩
      have HK9 := hid hK9
      have HTN := hid htn
      rw [hK9] at HS HKI
      have z3 : (i : Int) < (n : Int) := Int.ofNat_lt.2 hlt
      have q9 : wrap64 ((i : Int) + 1) = (i : Int) + 1 := by have := HN.out; unfold wrap64; omega
      have HLT := hid hlt
      obtain ⟨b, hb⟩ : ∃ b, lostM m i = b := ⟨_, rfl⟩
      have HLM := hid hb
      have hbb : (bits BinOp.and IntKind.u64 (m / 2 ^ (i % 64)) 1 == 0) = b := hb
      have HBB := hid hbb
      simp only [htn]
      clear hlt hi hX hrd hlen' eb hK9 htn hb hbb
      go_upto_region 5 with (first
        | (with_reducible refine wpList_load_wrr (by with_unfolding_all rfl) _ rfl g q rfl fx hok ?_)
        | (with_reducible refine wpList_store_wrn rfl _ _ rfl rfl rfl hok rfl ?_))
      have HSIZE := hid HFR.out.size
      have HWNN : Hid (∀ g, (Value.slice Aw n cw).ownBlock = some g → g < wo.heap.size) := hid (fun g hg => (World.ownsRow.lt HS.out.r.q g hg).2)
      have hx5 := Blk.new wo 72 X.cs
      have hb5 := (Below.refl wo.heap.size wo).alloc (Nat.le_refl _) (.cells X.cs 72)
      replace HFR := hid (HFR.out.below hb5)
      replace HS := hid (HS.out.below hb5)
      replace HX := hid (HX.out.below hb5)
      have HGW := HSIZE
      clear hb5 fx hix hok
      generalize wo.alloc (.cells X.cs 72) = w5 at *
      obtain ⟨gW, hgW⟩ : ∃ g, wo.heap.size = g := ⟨_, rfl⟩
      rw [hgW] at hx5 HGW HWNN
      have HWN : Hid (some gW ≠ (Value.slice Aw n cw).ownBlock) := hid (fun e => by have := HWNN.out gW e.symm; omega)
      simp only [hgW]
      clear hgW
      have hbb := HBB.out
      have fm := HX.out.cell_ (i := 0) rfl
      cases b
      · have HST := hid (crS_kept (cnt := cnt) (k := k) HXI.out HLM.out)
        have CP : Hid (∀ (V : World) (v : Value), ByOw V base v K9 → base ≤ V.heap.size → Calls Tryz.prog 50 #[v, .agg X.cs] V (PutQ base v (putLd K9 X.p X.t) V)) := hid (fun V v hv hb => put_any base v K9 X.p X.t (by have := HKI.out; omega) (by have := HWX.out; omega) (by have := HWX.out; omega) V hv hb)
        go_upto_region 8 with (fail)
        clear fm hbb
        replace HFR := hid (HFR.out.below (below_drew1 _))
        replace HX := hid (HX.out.below (below_drew1 _))
        replace HS := hid (HS.out.below (below_drew1 _))
        replace hx5 := hx5.below (below_drew1 _)
        refine wp_region_held_drew (S := fun V => Blk V gW 72 X.cs) (by kernel_rfl) hx5 (fun hHeld => ?_)
        clear hx5
        generalize World.drew _ = w6 at *
        refine' wpAnyH_take (i := 0) (v := .pointer (some ⟨D, 0, none⟩)) rfl (by kernel_rfl) (by kernel_rfl) (by kernel_rfl) (fun _ _ _ h => h) (Or.inl ⟨by rfl, fun w' hw' => by go_simp⟩) hHeld ?_
        try simp only [Act.put, List.getElem_toArray, List.getElem_cons_succ, List.getElem_cons_zero, List.setIfInBounds_toArray, List.set_cons_zero, List.set_cons_succ]
        refine' wpAnyH_take (i := 1) (v := .pointer (some ⟨D, 0, none⟩)) rfl (by kernel_rfl) (by kernel_rfl) (by kernel_rfl) (fun _ _ _ h => h) (Or.inl ⟨by rfl, fun w' hw' => by go_simp⟩) hHeld ?_
        try simp only [Act.put, List.getElem_toArray, List.getElem_cons_succ, List.getElem_cons_zero, List.setIfInBounds_toArray, List.set_cons_zero, List.set_cons_succ]
        refine' wpAnyH_take (i := 2) (v := .pointer (some ⟨D, 0, none⟩)) rfl (by kernel_rfl) (by kernel_rfl) (by kernel_rfl) (fun _ _ _ h => h) (Or.inl ⟨by rfl, fun w' hw' => by go_simp⟩) hHeld ?_
        try simp only [Act.put, List.getElem_toArray, List.getElem_cons_succ, List.getElem_cons_zero, List.setIfInBounds_toArray, List.set_cons_zero, List.set_cons_succ]
        refine' wpAnyH_take (i := 3) (v := .pointer (some ⟨D, 0, none⟩)) rfl (by kernel_rfl) (by kernel_rfl) (by kernel_rfl) (fun _ _ _ h => h) (Or.inl ⟨by rfl, fun w' hw' => by go_simp⟩) hHeld ?_
        try simp only [Act.put, List.getElem_toArray, List.getElem_cons_succ, List.getElem_cons_zero, List.setIfInBounds_toArray, List.set_cons_zero, List.set_cons_succ]
        refine' wpAnyH_take (i := 5) (v := .agg X.cs) rfl (by kernel_rfl) (by kernel_rfl) (by kernel_rfl) (fun _ _ _ h => h) (yields_wr (by rfl) _ rfl gW 0 rfl X rfl (fun w' h => WrX.range h)) hHeld ?_
        try simp only [Act.put, List.getElem_toArray, List.getElem_cons_succ, List.getElem_cons_zero, List.setIfInBounds_toArray, List.set_cons_zero, List.set_cons_succ]
        refine wpAnyH_ready (rs := [4]) (by kernel_rfl) (by simp) ?_
        refine AllReadyH.cons rfl (fun K hK => ?_) AllReadyH.nil
        have fA := HS.out.x.cell_ (i := 0) rfl
        go_simp
        refine hK.out _ _ hHeld (fun hHeld => ?_)
        clear hK K fA
        try simp only [Act.put, List.getElem_toArray, List.getElem_cons_succ, List.getElem_cons_zero, List.setIfInBounds_toArray, List.set_cons_zero, List.set_cons_succ]
        refine wpAnyH_ready (rs := [6]) (by kernel_rfl) (by simp) ?_
        refine AllReadyH.cons rfl (fun K hK => ?_) AllReadyH.nil
        go_simp
        (with_reducible refine (CP.out _ _ HS.out.r.k HS.out.r.bs).mono ?_)
        rintro e6 V6 ⟨v6, rfl, ho6, hg6, hv6⟩
        have hx6 := HS.out.boxed (blk_off HS.out.x HS.out.r.k (by decide)) hg6
        have hr6 := HS.out.r.kept hg6 ho6 hv6
        have hB6 : Blk V6 gW 72 X.cs := (hg6.block gW hHeld.lt (blk_off hHeld HS.out.r.k (by decide))).trans hHeld
        replace HFR := hid (HFR.out.grown hg6 (HV.out.elim .inl fun h => .inr (.inr (.inr h))))
        replace HV : Hid (v6.ownBlock = kv.ownBlock ∨ ∃ g, v6.ownBlock = some g ∧ W.heap.size ≤ g) := hid (by rcases hv6 with e | ⟨g, e, hg⟩ <;> first | (rw [e]; exact HV.out) | exact .inr ⟨g, e, Nat.le_trans (Nat.le_trans HGW.out (Nat.le_of_lt hHeld.lt)) hg⟩)
        replace HX := hid ((hg6.block gL HX.out.lt (blk_off HX.out HS.out.r.k (by decide))).trans HX.out)
        obtain ⟨A6, c6, hv66⟩ := ho6.sl
        subst hv66
        have HX6 := hid hx6
        have HR6 := hid hr6
        refine hK.out _ _ hB6 (fun hHeld => ?_)
        clear hK K hg6 hv6 ho6 hx6 hr6 hB6
        try simp only [Act.put, List.getElem_toArray, List.getElem_cons_succ, List.getElem_cons_zero, List.setIfInBounds_toArray, List.set_cons_zero, List.set_cons_succ]
        refine' wpAnyH_take (i := 7) (v := .pointer (some ⟨D, 0, none⟩)) rfl (by kernel_rfl) (by kernel_rfl) (by kernel_rfl) (fun _ _ _ h => h) (Or.inl ⟨by rfl, fun w' hw' => by go_simp⟩) hHeld ?_
        try simp only [Act.put, List.getElem_toArray, List.getElem_cons_succ, List.getElem_cons_zero, List.setIfInBounds_toArray, List.set_cons_zero, List.set_cons_succ]
        refine' wpAnyH_take (i := 8) (v := .pointer (some ⟨D, 0, none⟩)) rfl (by kernel_rfl) (by kernel_rfl) (by kernel_rfl) (fun _ _ _ h => h) (Or.inl ⟨by rfl, fun w' hw' => by go_simp⟩) hHeld ?_
        try simp only [Act.put, List.getElem_toArray, List.getElem_cons_succ, List.getElem_cons_zero, List.setIfInBounds_toArray, List.set_cons_zero, List.set_cons_succ]
        refine wpAnyH_ready (rs := [9]) (by kernel_rfl) (by simp) ?_
        refine AllReadyH.cons rfl (fun K hK => ?_) AllReadyH.nil
        refine wp_store_d0 _ _ rfl D _ _ _ _ HX6.out A6 _ c6 rfl rfl ?_
        intro V9 hB9 hg9
        have hr9 := HR6.out.box HX6.out hg9
        have hB6 : Blk V9 gW 72 X.cs := blk_gb hHeld hg9 (by rintro rfl; have e := Option.some.inj (HX6.out.symm.trans hHeld); injection e with _ e2; exact absurd e2 (by decide))
        replace HFR := hid (HFR.out.grown hg9 (.inr (.inl rfl)))
        replace HX := hid (blk_gb HX.out hg9 (blk_neD HX.out HX6.out (by decide)))
        have HS2 := hid (DkS.mk (dn := false) hB9 hr9 HBD.out)
        refine hK.out _ _ hB6 (fun hHeld => ?_)
        clear hK K hg9 hr9 hB6 hB9 HX6 HR6 HS
        try simp only [Act.put, List.getElem_toArray, List.getElem_cons_succ, List.getElem_cons_zero, List.setIfInBounds_toArray, List.set_cons_zero, List.set_cons_succ]
        refine wpAnyH_done (by kernel_rfl) ?_ _
        clear hHeld
        go_wp2_with (fail)
        go_roundw
        case rel => exact ⟨i + 1, _, HLT.out, by rw [HST.out, HTN.out], by go_num, hid (by rw [HST.out, HK9.out]; exact HS2.out), HFR, HV, HX⟩
        case measure => first | exact pvd_meas2 HLT.out | (rw [q9]; exact pvd_meas2 HLT.out)
      · have HST := hid (crS_lost (cnt := cnt) (k := k) HXI.out HLM.out)
        obtain ⟨r, hr⟩ : ∃ r, keepN cnt X.t.length tn = r := ⟨_, rfl⟩
        have HR := hid hr
        have HRL : Hid (r ≤ X.t.length) := hid (by rw [← hr]; exact keepN_le _ _ _)
        have HKC : Hid (∀ V, Calls Tryz.prog 53 #[.agg #[.int .u64 m, .int .i64 cnt], .int .i64 (X.t.length : Int), .bool tn] V fun e w' => e = .returned (.int .i64 (r : Int)) ∧ Below V.heap.size V w') := hid (fun V => by rw [← hr]; exact keeps_any (.int .u64 m) cnt X.t.length tn V rfl rfl)
        have HSTR := hid (fun V => str_hi X.t r HRL.out V)
        clear hr
        have CP : Hid (∀ (V : World) (v : Value), ByOw V base v K9 → base ≤ V.heap.size → Calls Tryz.prog 50 #[v, .agg (WrD.cs ⟨X.p, X.t.take r⟩)] V (PutQ base v (putLd K9 X.p (X.t.take r)) V)) := hid (fun V v hv hb => put_any base v K9 X.p (X.t.take r) (by have := HKI.out; omega) (by have := HWX.out; omega) (by have := HWX.out; rw [List.length_take]; omega) V hv hb)
        go_upto_region 6 with (fail)
        clear fm hbb
        replace HFR := hid (HFR.out.below (below_drew1 _))
        replace HX := hid (HX.out.below (below_drew1 _))
        replace HS := hid (HS.out.below (below_drew1 _))
        have HWB := hid (hx5.below (below_drew1 _))
        clear hx5
        refine wp_region_held_drew (S := fun V => Blk V gL 76 #[.int .u64 m, .int .i64 cnt]) (by kernel_rfl) HX.out (fun hHeld => ?_)
        generalize World.drew _ = w6 at *
        refine' wpAnyH_take (i := 0) (v := .pointer (some ⟨gW, 1, none⟩)) rfl (by kernel_rfl) (by kernel_rfl) (by kernel_rfl) (fun _ _ _ h => h) (Or.inl ⟨by rfl, fun w' hw' => by go_simp⟩) hHeld ?_
        try simp only [Act.put, List.getElem_toArray, List.getElem_cons_succ, List.getElem_cons_zero, List.setIfInBounds_toArray, List.set_cons_zero, List.set_cons_succ]
        refine' wpAnyH_take (i := 2) (v := .agg #[.int .u64 m, .int .i64 cnt]) rfl (by kernel_rfl) (by kernel_rfl) (by kernel_rfl) (fun _ _ _ h => h) (yields_loss (by rfl) _ rfl gL rfl m cnt (fun w' h => h)) hHeld ?_
        try simp only [Act.put, List.getElem_toArray, List.getElem_cons_succ, List.getElem_cons_zero, List.setIfInBounds_toArray, List.set_cons_zero, List.set_cons_succ]
        refine' wpAnyH_take (i := 3) (v := .pointer (some ⟨gW, 1, none⟩)) rfl (by kernel_rfl) (by kernel_rfl) (by kernel_rfl) (fun _ _ _ h => h) (Or.inl ⟨by rfl, fun w' hw' => by go_simp⟩) hHeld ?_
        try simp only [Act.put, List.getElem_toArray, List.getElem_cons_succ, List.getElem_cons_zero, List.setIfInBounds_toArray, List.set_cons_zero, List.set_cons_succ]
        refine' wpAnyH_take (i := 6) (v := .bool tn) rfl (by kernel_rfl) (by kernel_rfl) (by kernel_rfl) (fun _ _ _ h => h) (Or.inl ⟨by rfl, fun w' hw' => by go_simp⟩) hHeld ?_
        try simp only [Act.put, List.getElem_toArray, List.getElem_cons_succ, List.getElem_cons_zero, List.setIfInBounds_toArray, List.set_cons_zero, List.set_cons_succ]
        refine wpAnyH_ready (rs := [1, 4]) (by kernel_rfl) (by simp) ?_
        refine AllReadyH.cons rfl (fun K hK => ?_) (AllReadyH.cons rfl (fun K hK => ?_) AllReadyH.nil)
        · as_aux_lemma =>
            have fA : World.cell? _ ⟨gW, 1, none⟩ = some (.string (txt X.t)) := HWB.out.cell_ (i := 1) rfl
            go_simp
            refine hK.out _ _ hHeld (fun hHeld => ?_)
            clear hK K fA
            try simp only [Act.put, List.getElem_toArray, List.getElem_cons_succ, List.getElem_cons_zero, List.setIfInBounds_toArray, List.set_cons_zero, List.set_cons_succ]
            refine wpAnyH_ready (rs := [4]) (by kernel_rfl) (by simp) ?_
            refine AllReadyH.cons rfl (fun K hK => ?_) AllReadyH.nil
            have fA : World.cell? _ ⟨gW, 1, none⟩ = some (.string (txt X.t)) := HWB.out.cell_ (i := 1) rfl
            go_simp
            refine hK.out _ _ hHeld (fun hHeld => ?_)
            clear hK K fA
            try simp only [Act.put, List.getElem_toArray, List.getElem_cons_succ, List.getElem_cons_zero, List.setIfInBounds_toArray, List.set_cons_zero, List.set_cons_succ]
            refine' wpAnyH_take (i := 5) (v := .int .i64 (X.t.length : Int)) rfl (by kernel_rfl) (by kernel_rfl) (by kernel_rfl) (fun _ _ _ h => h) (Or.inl ⟨by rfl, fun w' hw' => by go_simp⟩) hHeld ?_
            try simp only [Act.put, List.getElem_toArray, List.getElem_cons_succ, List.getElem_cons_zero, List.setIfInBounds_toArray, List.set_cons_zero, List.set_cons_succ]
            refine wpAnyH_ready (rs := [7]) (by kernel_rfl) (by simp) ?_
            refine AllReadyH.cons rfl (fun K hK => ?_) AllReadyH.nil
            go_simp
            (with_reducible refine (HKC.out _).mono ?_)
            rintro e7 V7 ⟨rfl, hb9⟩
            replace HFR := hid (HFR.out.below hb9)
            replace HS := hid (HS.out.below hb9)
            replace HWB := hid (HWB.out.below hb9)
            refine hK.out _ _ (hHeld.below hb9) (fun hHeld => ?_)
            clear hK K hb9
            try simp only [Act.put, List.getElem_toArray, List.getElem_cons_succ, List.getElem_cons_zero, List.setIfInBounds_toArray, List.set_cons_zero, List.set_cons_succ]
            refine' wpAnyH_take (i := 8) (v := .string (txt (X.t.take r))) rfl (by kernel_rfl) (by kernel_rfl) (by kernel_rfl) (fun _ _ _ h => h) (Or.inl ⟨by rfl, fun w' hw' => by have hv := HSTR.out w'; go_simp⟩) hHeld ?_
            try simp only [Act.put, List.getElem_toArray, List.getElem_cons_succ, List.getElem_cons_zero, List.setIfInBounds_toArray, List.set_cons_zero, List.set_cons_succ]
            refine' wpAnyH_take (i := 9) (v := .pointer (some ⟨gW, 1, none⟩)) rfl (by kernel_rfl) (by kernel_rfl) (by kernel_rfl) (fun _ _ _ h => h) (Or.inl ⟨by rfl, fun w' hw' => by go_simp⟩) hHeld ?_
            try simp only [Act.put, List.getElem_toArray, List.getElem_cons_succ, List.getElem_cons_zero, List.setIfInBounds_toArray, List.set_cons_zero, List.set_cons_succ]
            refine wpAnyH_ready (rs := [10]) (by kernel_rfl) (by simp) ?_
            refine AllReadyH.cons rfl (fun K hK => ?_) AllReadyH.nil
            refine wp_store_wt _ _ rfl gW X HWB.out (X.t.take r) rfl rfl ?_
            intro V10 hB10 hg10
            replace HFR := hid (HFR.out.grown hg10 (.inr (.inr (.inr ⟨gW, rfl, HGW.out⟩))))
            have hx10 := blk_gb HS.out.x hg10 (blk_neD HS.out.x HWB.out (by decide))
            have hr10 := HS.out.r.other HWB.out hg10 HWN.out (by decide)
            replace HS := hid (DkS.mk hx10 hr10 HBD.out)
            have hL10 := blk_gb hHeld hg10 (blk_neD hHeld HWB.out (by decide))
            have hx5 := hB10
            refine hK.out _ _ hL10 (fun hHeld => ?_)
            clear hK K hg10 hB10 hx10 hr10 hL10 HWB
            try simp only [Act.put, List.getElem_toArray, List.getElem_cons_succ, List.getElem_cons_zero, List.setIfInBounds_toArray, List.set_cons_zero, List.set_cons_succ]
            replace HX := hid hHeld
            refine wpAnyH_done (by kernel_rfl) ?_ _
            clear hHeld
            go_upto_region 8 with (fail)
            replace HFR := hid (HFR.out.below (below_drew1 _))
            replace HX := hid (HX.out.below (below_drew1 _))
            replace HS := hid (HS.out.below (below_drew1 _))
            replace hx5 := hx5.below (below_drew1 _)
            refine wp_region_held_drew (S := fun V => Blk V gW 72 (WrD.cs ⟨X.p, X.t.take r⟩)) (by kernel_rfl) hx5 (fun hHeld => ?_)
            clear hx5
            generalize World.drew _ = w6 at *
            refine' wpAnyH_take (i := 0) (v := .pointer (some ⟨D, 0, none⟩)) rfl (by kernel_rfl) (by kernel_rfl) (by kernel_rfl) (fun _ _ _ h => h) (Or.inl ⟨by rfl, fun w' hw' => by go_simp⟩) hHeld ?_
            try simp only [Act.put, List.getElem_toArray, List.getElem_cons_succ, List.getElem_cons_zero, List.setIfInBounds_toArray, List.set_cons_zero, List.set_cons_succ]
            refine' wpAnyH_take (i := 1) (v := .pointer (some ⟨D, 0, none⟩)) rfl (by kernel_rfl) (by kernel_rfl) (by kernel_rfl) (fun _ _ _ h => h) (Or.inl ⟨by rfl, fun w' hw' => by go_simp⟩) hHeld ?_
            try simp only [Act.put, List.getElem_toArray, List.getElem_cons_succ, List.getElem_cons_zero, List.setIfInBounds_toArray, List.set_cons_zero, List.set_cons_succ]
            refine' wpAnyH_take (i := 2) (v := .pointer (some ⟨D, 0, none⟩)) rfl (by kernel_rfl) (by kernel_rfl) (by kernel_rfl) (fun _ _ _ h => h) (Or.inl ⟨by rfl, fun w' hw' => by go_simp⟩) hHeld ?_
            try simp only [Act.put, List.getElem_toArray, List.getElem_cons_succ, List.getElem_cons_zero, List.setIfInBounds_toArray, List.set_cons_zero, List.set_cons_succ]
            refine' wpAnyH_take (i := 3) (v := .pointer (some ⟨D, 0, none⟩)) rfl (by kernel_rfl) (by kernel_rfl) (by kernel_rfl) (fun _ _ _ h => h) (Or.inl ⟨by rfl, fun w' hw' => by go_simp⟩) hHeld ?_
            try simp only [Act.put, List.getElem_toArray, List.getElem_cons_succ, List.getElem_cons_zero, List.setIfInBounds_toArray, List.set_cons_zero, List.set_cons_succ]
            refine' wpAnyH_take (i := 5) (v := .agg (WrD.cs ⟨X.p, X.t.take r⟩)) rfl (by kernel_rfl) (by kernel_rfl) (by kernel_rfl) (fun _ _ _ h => h) (yields_wr (by rfl) _ rfl gW 0 rfl ⟨X.p, X.t.take r⟩ rfl (fun w' h => WrX.range h)) hHeld ?_
            try simp only [Act.put, List.getElem_toArray, List.getElem_cons_succ, List.getElem_cons_zero, List.setIfInBounds_toArray, List.set_cons_zero, List.set_cons_succ]
            refine wpAnyH_ready (rs := [4]) (by kernel_rfl) (by simp) ?_
            refine AllReadyH.cons rfl (fun K hK => ?_) AllReadyH.nil
            have fA := HS.out.x.cell_ (i := 0) rfl
            go_simp
            refine hK.out _ _ hHeld (fun hHeld => ?_)
            clear hK K fA
            try simp only [Act.put, List.getElem_toArray, List.getElem_cons_succ, List.getElem_cons_zero, List.setIfInBounds_toArray, List.set_cons_zero, List.set_cons_succ]
            refine wpAnyH_ready (rs := [6]) (by kernel_rfl) (by simp) ?_
            refine AllReadyH.cons rfl (fun K hK => ?_) AllReadyH.nil
            go_simp
            (with_reducible refine (CP.out _ _ HS.out.r.k HS.out.r.bs).mono ?_)
            rintro e6 V6 ⟨v6, rfl, ho6, hg6, hv6⟩
            have hx6 := HS.out.boxed (blk_off HS.out.x HS.out.r.k (by decide)) hg6
            have hr6 := HS.out.r.kept hg6 ho6 hv6
            have hB6 : Blk V6 gW 72 (WrD.cs ⟨X.p, X.t.take r⟩) := (hg6.block gW hHeld.lt (blk_off hHeld HS.out.r.k (by decide))).trans hHeld
            replace HFR := hid (HFR.out.grown hg6 (HV.out.elim .inl fun h => .inr (.inr (.inr h))))
            replace HV : Hid (v6.ownBlock = kv.ownBlock ∨ ∃ g, v6.ownBlock = some g ∧ W.heap.size ≤ g) := hid (by rcases hv6 with e | ⟨g, e, hg⟩ <;> first | (rw [e]; exact HV.out) | exact .inr ⟨g, e, Nat.le_trans (Nat.le_trans HGW.out (Nat.le_of_lt hHeld.lt)) hg⟩)
            replace HX := hid ((hg6.block gL HX.out.lt (blk_off HX.out HS.out.r.k (by decide))).trans HX.out)
            obtain ⟨A6, c6, hv66⟩ := ho6.sl
            subst hv66
            have HX6 := hid hx6
            have HR6 := hid hr6
            refine hK.out _ _ hB6 (fun hHeld => ?_)
            clear hK K hg6 hv6 ho6 hx6 hr6 hB6
            try simp only [Act.put, List.getElem_toArray, List.getElem_cons_succ, List.getElem_cons_zero, List.setIfInBounds_toArray, List.set_cons_zero, List.set_cons_succ]
            refine' wpAnyH_take (i := 7) (v := .pointer (some ⟨D, 0, none⟩)) rfl (by kernel_rfl) (by kernel_rfl) (by kernel_rfl) (fun _ _ _ h => h) (Or.inl ⟨by rfl, fun w' hw' => by go_simp⟩) hHeld ?_
            try simp only [Act.put, List.getElem_toArray, List.getElem_cons_succ, List.getElem_cons_zero, List.setIfInBounds_toArray, List.set_cons_zero, List.set_cons_succ]
            refine' wpAnyH_take (i := 8) (v := .pointer (some ⟨D, 0, none⟩)) rfl (by kernel_rfl) (by kernel_rfl) (by kernel_rfl) (fun _ _ _ h => h) (Or.inl ⟨by rfl, fun w' hw' => by go_simp⟩) hHeld ?_
            try simp only [Act.put, List.getElem_toArray, List.getElem_cons_succ, List.getElem_cons_zero, List.setIfInBounds_toArray, List.set_cons_zero, List.set_cons_succ]
            refine wpAnyH_ready (rs := [9]) (by kernel_rfl) (by simp) ?_
            refine AllReadyH.cons rfl (fun K hK => ?_) AllReadyH.nil
            refine wp_store_d0 _ _ rfl D _ _ _ _ HX6.out A6 _ c6 rfl rfl ?_
            intro V9 hB9 hg9
            have hr9 := HR6.out.box HX6.out hg9
            have hB6 : Blk V9 gW 72 (WrD.cs ⟨X.p, X.t.take r⟩) := blk_gb hHeld hg9 (by rintro rfl; have e := Option.some.inj (HX6.out.symm.trans hHeld); injection e with _ e2; exact absurd e2 (by decide))
            replace HFR := hid (HFR.out.grown hg9 (.inr (.inl rfl)))
            replace HX := hid (blk_gb HX.out hg9 (blk_neD HX.out HX6.out (by decide)))
            have HS2 := hid (DkS.mk (dn := false) hB9 hr9 HBD.out)
            refine hK.out _ _ hB6 (fun hHeld => ?_)
            clear hK K hg9 hr9 hB6 hB9 HX6 HR6 HS
            try simp only [Act.put, List.getElem_toArray, List.getElem_cons_succ, List.getElem_cons_zero, List.setIfInBounds_toArray, List.set_cons_zero, List.set_cons_succ]
            refine wpAnyH_done (by kernel_rfl) ?_ _
            clear hHeld
            go_wp2_with (fail)
            go_roundw
            case rel => exact ⟨i + 1, _, HLT.out, by rw [HST.out], by go_num, hid (by rw [HST.out, HK9.out, HTN.out, HR.out]; exact HS2.out), HFR, HV, HX⟩
            case measure => first | exact pvd_meas2 HLT.out | (rw [q9]; exact pvd_meas2 HLT.out)
        · as_aux_lemma =>
            have fA : World.cell? _ ⟨gW, 1, none⟩ = some (.string (txt X.t)) := HWB.out.cell_ (i := 1) rfl
            go_simp
            refine hK.out _ _ hHeld (fun hHeld => ?_)
            clear hK K fA
            try simp only [Act.put, List.getElem_toArray, List.getElem_cons_succ, List.getElem_cons_zero, List.setIfInBounds_toArray, List.set_cons_zero, List.set_cons_succ]
            refine' wpAnyH_take (i := 5) (v := .int .i64 (X.t.length : Int)) rfl (by kernel_rfl) (by kernel_rfl) (by kernel_rfl) (fun _ _ _ h => h) (Or.inl ⟨by rfl, fun w' hw' => by go_simp⟩) hHeld ?_
            try simp only [Act.put, List.getElem_toArray, List.getElem_cons_succ, List.getElem_cons_zero, List.setIfInBounds_toArray, List.set_cons_zero, List.set_cons_succ]
            refine wpAnyH_ready (rs := [1, 7]) (by kernel_rfl) (by simp) ?_
            refine AllReadyH.cons rfl (fun K hK => ?_) (AllReadyH.cons rfl (fun K hK => ?_) AllReadyH.nil)
            · as_aux_lemma =>
                have fA : World.cell? _ ⟨gW, 1, none⟩ = some (.string (txt X.t)) := HWB.out.cell_ (i := 1) rfl
                go_simp
                refine hK.out _ _ hHeld (fun hHeld => ?_)
                clear hK K fA
                try simp only [Act.put, List.getElem_toArray, List.getElem_cons_succ, List.getElem_cons_zero, List.setIfInBounds_toArray, List.set_cons_zero, List.set_cons_succ]
                refine wpAnyH_ready (rs := [7]) (by kernel_rfl) (by simp) ?_
                refine AllReadyH.cons rfl (fun K hK => ?_) AllReadyH.nil
                go_simp
                (with_reducible refine (HKC.out _).mono ?_)
                rintro e7 V7 ⟨rfl, hb9⟩
                replace HFR := hid (HFR.out.below hb9)
                replace HS := hid (HS.out.below hb9)
                replace HWB := hid (HWB.out.below hb9)
                refine hK.out _ _ (hHeld.below hb9) (fun hHeld => ?_)
                clear hK K hb9
                try simp only [Act.put, List.getElem_toArray, List.getElem_cons_succ, List.getElem_cons_zero, List.setIfInBounds_toArray, List.set_cons_zero, List.set_cons_succ]
                refine' wpAnyH_take (i := 8) (v := .string (txt (X.t.take r))) rfl (by kernel_rfl) (by kernel_rfl) (by kernel_rfl) (fun _ _ _ h => h) (Or.inl ⟨by rfl, fun w' hw' => by have hv := HSTR.out w'; go_simp⟩) hHeld ?_
                try simp only [Act.put, List.getElem_toArray, List.getElem_cons_succ, List.getElem_cons_zero, List.setIfInBounds_toArray, List.set_cons_zero, List.set_cons_succ]
                refine' wpAnyH_take (i := 9) (v := .pointer (some ⟨gW, 1, none⟩)) rfl (by kernel_rfl) (by kernel_rfl) (by kernel_rfl) (fun _ _ _ h => h) (Or.inl ⟨by rfl, fun w' hw' => by go_simp⟩) hHeld ?_
                try simp only [Act.put, List.getElem_toArray, List.getElem_cons_succ, List.getElem_cons_zero, List.setIfInBounds_toArray, List.set_cons_zero, List.set_cons_succ]
                refine wpAnyH_ready (rs := [10]) (by kernel_rfl) (by simp) ?_
                refine AllReadyH.cons rfl (fun K hK => ?_) AllReadyH.nil
                refine wp_store_wt _ _ rfl gW X HWB.out (X.t.take r) rfl rfl ?_
                intro V10 hB10 hg10
                replace HFR := hid (HFR.out.grown hg10 (.inr (.inr (.inr ⟨gW, rfl, HGW.out⟩))))
                have hx10 := blk_gb HS.out.x hg10 (blk_neD HS.out.x HWB.out (by decide))
                have hr10 := HS.out.r.other HWB.out hg10 HWN.out (by decide)
                replace HS := hid (DkS.mk hx10 hr10 HBD.out)
                have hL10 := blk_gb hHeld hg10 (blk_neD hHeld HWB.out (by decide))
                have hx5 := hB10
                refine hK.out _ _ hL10 (fun hHeld => ?_)
                clear hK K hg10 hB10 hx10 hr10 hL10 HWB
                try simp only [Act.put, List.getElem_toArray, List.getElem_cons_succ, List.getElem_cons_zero, List.setIfInBounds_toArray, List.set_cons_zero, List.set_cons_succ]
                replace HX := hid hHeld
                refine wpAnyH_done (by kernel_rfl) ?_ _
                clear hHeld
                go_upto_region 8 with (fail)
                replace HFR := hid (HFR.out.below (below_drew1 _))
                replace HX := hid (HX.out.below (below_drew1 _))
                replace HS := hid (HS.out.below (below_drew1 _))
                replace hx5 := hx5.below (below_drew1 _)
                refine wp_region_held_drew (S := fun V => Blk V gW 72 (WrD.cs ⟨X.p, X.t.take r⟩)) (by kernel_rfl) hx5 (fun hHeld => ?_)
                clear hx5
                generalize World.drew _ = w6 at *
                refine' wpAnyH_take (i := 0) (v := .pointer (some ⟨D, 0, none⟩)) rfl (by kernel_rfl) (by kernel_rfl) (by kernel_rfl) (fun _ _ _ h => h) (Or.inl ⟨by rfl, fun w' hw' => by go_simp⟩) hHeld ?_
                try simp only [Act.put, List.getElem_toArray, List.getElem_cons_succ, List.getElem_cons_zero, List.setIfInBounds_toArray, List.set_cons_zero, List.set_cons_succ]
                refine' wpAnyH_take (i := 1) (v := .pointer (some ⟨D, 0, none⟩)) rfl (by kernel_rfl) (by kernel_rfl) (by kernel_rfl) (fun _ _ _ h => h) (Or.inl ⟨by rfl, fun w' hw' => by go_simp⟩) hHeld ?_
                try simp only [Act.put, List.getElem_toArray, List.getElem_cons_succ, List.getElem_cons_zero, List.setIfInBounds_toArray, List.set_cons_zero, List.set_cons_succ]
                refine' wpAnyH_take (i := 2) (v := .pointer (some ⟨D, 0, none⟩)) rfl (by kernel_rfl) (by kernel_rfl) (by kernel_rfl) (fun _ _ _ h => h) (Or.inl ⟨by rfl, fun w' hw' => by go_simp⟩) hHeld ?_
                try simp only [Act.put, List.getElem_toArray, List.getElem_cons_succ, List.getElem_cons_zero, List.setIfInBounds_toArray, List.set_cons_zero, List.set_cons_succ]
                refine' wpAnyH_take (i := 3) (v := .pointer (some ⟨D, 0, none⟩)) rfl (by kernel_rfl) (by kernel_rfl) (by kernel_rfl) (fun _ _ _ h => h) (Or.inl ⟨by rfl, fun w' hw' => by go_simp⟩) hHeld ?_
                try simp only [Act.put, List.getElem_toArray, List.getElem_cons_succ, List.getElem_cons_zero, List.setIfInBounds_toArray, List.set_cons_zero, List.set_cons_succ]
                refine' wpAnyH_take (i := 5) (v := .agg (WrD.cs ⟨X.p, X.t.take r⟩)) rfl (by kernel_rfl) (by kernel_rfl) (by kernel_rfl) (fun _ _ _ h => h) (yields_wr (by rfl) _ rfl gW 0 rfl ⟨X.p, X.t.take r⟩ rfl (fun w' h => WrX.range h)) hHeld ?_
                try simp only [Act.put, List.getElem_toArray, List.getElem_cons_succ, List.getElem_cons_zero, List.setIfInBounds_toArray, List.set_cons_zero, List.set_cons_succ]
                refine wpAnyH_ready (rs := [4]) (by kernel_rfl) (by simp) ?_
                refine AllReadyH.cons rfl (fun K hK => ?_) AllReadyH.nil
                have fA := HS.out.x.cell_ (i := 0) rfl
                go_simp
                refine hK.out _ _ hHeld (fun hHeld => ?_)
                clear hK K fA
                try simp only [Act.put, List.getElem_toArray, List.getElem_cons_succ, List.getElem_cons_zero, List.setIfInBounds_toArray, List.set_cons_zero, List.set_cons_succ]
                refine wpAnyH_ready (rs := [6]) (by kernel_rfl) (by simp) ?_
                refine AllReadyH.cons rfl (fun K hK => ?_) AllReadyH.nil
                go_simp
                (with_reducible refine (CP.out _ _ HS.out.r.k HS.out.r.bs).mono ?_)
                rintro e6 V6 ⟨v6, rfl, ho6, hg6, hv6⟩
                have hx6 := HS.out.boxed (blk_off HS.out.x HS.out.r.k (by decide)) hg6
                have hr6 := HS.out.r.kept hg6 ho6 hv6
                have hB6 : Blk V6 gW 72 (WrD.cs ⟨X.p, X.t.take r⟩) := (hg6.block gW hHeld.lt (blk_off hHeld HS.out.r.k (by decide))).trans hHeld
                replace HFR := hid (HFR.out.grown hg6 (HV.out.elim .inl fun h => .inr (.inr (.inr h))))
                replace HV : Hid (v6.ownBlock = kv.ownBlock ∨ ∃ g, v6.ownBlock = some g ∧ W.heap.size ≤ g) := hid (by rcases hv6 with e | ⟨g, e, hg⟩ <;> first | (rw [e]; exact HV.out) | exact .inr ⟨g, e, Nat.le_trans (Nat.le_trans HGW.out (Nat.le_of_lt hHeld.lt)) hg⟩)
                replace HX := hid ((hg6.block gL HX.out.lt (blk_off HX.out HS.out.r.k (by decide))).trans HX.out)
                obtain ⟨A6, c6, hv66⟩ := ho6.sl
                subst hv66
                have HX6 := hid hx6
                have HR6 := hid hr6
                refine hK.out _ _ hB6 (fun hHeld => ?_)
                clear hK K hg6 hv6 ho6 hx6 hr6 hB6
                try simp only [Act.put, List.getElem_toArray, List.getElem_cons_succ, List.getElem_cons_zero, List.setIfInBounds_toArray, List.set_cons_zero, List.set_cons_succ]
                refine' wpAnyH_take (i := 7) (v := .pointer (some ⟨D, 0, none⟩)) rfl (by kernel_rfl) (by kernel_rfl) (by kernel_rfl) (fun _ _ _ h => h) (Or.inl ⟨by rfl, fun w' hw' => by go_simp⟩) hHeld ?_
                try simp only [Act.put, List.getElem_toArray, List.getElem_cons_succ, List.getElem_cons_zero, List.setIfInBounds_toArray, List.set_cons_zero, List.set_cons_succ]
                refine' wpAnyH_take (i := 8) (v := .pointer (some ⟨D, 0, none⟩)) rfl (by kernel_rfl) (by kernel_rfl) (by kernel_rfl) (fun _ _ _ h => h) (Or.inl ⟨by rfl, fun w' hw' => by go_simp⟩) hHeld ?_
                try simp only [Act.put, List.getElem_toArray, List.getElem_cons_succ, List.getElem_cons_zero, List.setIfInBounds_toArray, List.set_cons_zero, List.set_cons_succ]
                refine wpAnyH_ready (rs := [9]) (by kernel_rfl) (by simp) ?_
                refine AllReadyH.cons rfl (fun K hK => ?_) AllReadyH.nil
                refine wp_store_d0 _ _ rfl D _ _ _ _ HX6.out A6 _ c6 rfl rfl ?_
                intro V9 hB9 hg9
                have hr9 := HR6.out.box HX6.out hg9
                have hB6 : Blk V9 gW 72 (WrD.cs ⟨X.p, X.t.take r⟩) := blk_gb hHeld hg9 (by rintro rfl; have e := Option.some.inj (HX6.out.symm.trans hHeld); injection e with _ e2; exact absurd e2 (by decide))
                replace HFR := hid (HFR.out.grown hg9 (.inr (.inl rfl)))
                replace HX := hid (blk_gb HX.out hg9 (blk_neD HX.out HX6.out (by decide)))
                have HS2 := hid (DkS.mk (dn := false) hB9 hr9 HBD.out)
                refine hK.out _ _ hB6 (fun hHeld => ?_)
                clear hK K hg9 hr9 hB6 hB9 HX6 HR6 HS
                try simp only [Act.put, List.getElem_toArray, List.getElem_cons_succ, List.getElem_cons_zero, List.setIfInBounds_toArray, List.set_cons_zero, List.set_cons_succ]
                refine wpAnyH_done (by kernel_rfl) ?_ _
                clear hHeld
                go_wp2_with (fail)
                go_roundw
                case rel => exact ⟨i + 1, _, HLT.out, by rw [HST.out], by go_num, hid (by rw [HST.out, HK9.out, HTN.out, HR.out]; exact HS2.out), HFR, HV, HX⟩
                case measure => first | exact pvd_meas2 HLT.out | (rw [q9]; exact pvd_meas2 HLT.out)
            · as_aux_lemma =>
                go_simp
                (with_reducible refine (HKC.out _).mono ?_)
                rintro e7 V7 ⟨rfl, hb9⟩
                replace HFR := hid (HFR.out.below hb9)
                replace HS := hid (HS.out.below hb9)
                replace HWB := hid (HWB.out.below hb9)
                refine hK.out _ _ (hHeld.below hb9) (fun hHeld => ?_)
                clear hK K hb9
                try simp only [Act.put, List.getElem_toArray, List.getElem_cons_succ, List.getElem_cons_zero, List.setIfInBounds_toArray, List.set_cons_zero, List.set_cons_succ]
                refine wpAnyH_ready (rs := [1]) (by kernel_rfl) (by simp) ?_
                refine AllReadyH.cons rfl (fun K hK => ?_) AllReadyH.nil
                have fA : World.cell? _ ⟨gW, 1, none⟩ = some (.string (txt X.t)) := HWB.out.cell_ (i := 1) rfl
                go_simp
                refine hK.out _ _ hHeld (fun hHeld => ?_)
                clear hK K fA
                try simp only [Act.put, List.getElem_toArray, List.getElem_cons_succ, List.getElem_cons_zero, List.setIfInBounds_toArray, List.set_cons_zero, List.set_cons_succ]
                refine' wpAnyH_take (i := 8) (v := .string (txt (X.t.take r))) rfl (by kernel_rfl) (by kernel_rfl) (by kernel_rfl) (fun _ _ _ h => h) (Or.inl ⟨by rfl, fun w' hw' => by have hv := HSTR.out w'; go_simp⟩) hHeld ?_
                try simp only [Act.put, List.getElem_toArray, List.getElem_cons_succ, List.getElem_cons_zero, List.setIfInBounds_toArray, List.set_cons_zero, List.set_cons_succ]
                refine' wpAnyH_take (i := 9) (v := .pointer (some ⟨gW, 1, none⟩)) rfl (by kernel_rfl) (by kernel_rfl) (by kernel_rfl) (fun _ _ _ h => h) (Or.inl ⟨by rfl, fun w' hw' => by go_simp⟩) hHeld ?_
                try simp only [Act.put, List.getElem_toArray, List.getElem_cons_succ, List.getElem_cons_zero, List.setIfInBounds_toArray, List.set_cons_zero, List.set_cons_succ]
                refine wpAnyH_ready (rs := [10]) (by kernel_rfl) (by simp) ?_
                refine AllReadyH.cons rfl (fun K hK => ?_) AllReadyH.nil
                refine wp_store_wt _ _ rfl gW X HWB.out (X.t.take r) rfl rfl ?_
                intro V10 hB10 hg10
                replace HFR := hid (HFR.out.grown hg10 (.inr (.inr (.inr ⟨gW, rfl, HGW.out⟩))))
                have hx10 := blk_gb HS.out.x hg10 (blk_neD HS.out.x HWB.out (by decide))
                have hr10 := HS.out.r.other HWB.out hg10 HWN.out (by decide)
                replace HS := hid (DkS.mk hx10 hr10 HBD.out)
                have hL10 := blk_gb hHeld hg10 (blk_neD hHeld HWB.out (by decide))
                have hx5 := hB10
                refine hK.out _ _ hL10 (fun hHeld => ?_)
                clear hK K hg10 hB10 hx10 hr10 hL10 HWB
                try simp only [Act.put, List.getElem_toArray, List.getElem_cons_succ, List.getElem_cons_zero, List.setIfInBounds_toArray, List.set_cons_zero, List.set_cons_succ]
                replace HX := hid hHeld
                refine wpAnyH_done (by kernel_rfl) ?_ _
                clear hHeld
                go_upto_region 8 with (fail)
                replace HFR := hid (HFR.out.below (below_drew1 _))
                replace HX := hid (HX.out.below (below_drew1 _))
                replace HS := hid (HS.out.below (below_drew1 _))
                replace hx5 := hx5.below (below_drew1 _)
                refine wp_region_held_drew (S := fun V => Blk V gW 72 (WrD.cs ⟨X.p, X.t.take r⟩)) (by kernel_rfl) hx5 (fun hHeld => ?_)
                clear hx5
                generalize World.drew _ = w6 at *
                refine' wpAnyH_take (i := 0) (v := .pointer (some ⟨D, 0, none⟩)) rfl (by kernel_rfl) (by kernel_rfl) (by kernel_rfl) (fun _ _ _ h => h) (Or.inl ⟨by rfl, fun w' hw' => by go_simp⟩) hHeld ?_
                try simp only [Act.put, List.getElem_toArray, List.getElem_cons_succ, List.getElem_cons_zero, List.setIfInBounds_toArray, List.set_cons_zero, List.set_cons_succ]
                refine' wpAnyH_take (i := 1) (v := .pointer (some ⟨D, 0, none⟩)) rfl (by kernel_rfl) (by kernel_rfl) (by kernel_rfl) (fun _ _ _ h => h) (Or.inl ⟨by rfl, fun w' hw' => by go_simp⟩) hHeld ?_
                try simp only [Act.put, List.getElem_toArray, List.getElem_cons_succ, List.getElem_cons_zero, List.setIfInBounds_toArray, List.set_cons_zero, List.set_cons_succ]
                refine' wpAnyH_take (i := 2) (v := .pointer (some ⟨D, 0, none⟩)) rfl (by kernel_rfl) (by kernel_rfl) (by kernel_rfl) (fun _ _ _ h => h) (Or.inl ⟨by rfl, fun w' hw' => by go_simp⟩) hHeld ?_
                try simp only [Act.put, List.getElem_toArray, List.getElem_cons_succ, List.getElem_cons_zero, List.setIfInBounds_toArray, List.set_cons_zero, List.set_cons_succ]
                refine' wpAnyH_take (i := 3) (v := .pointer (some ⟨D, 0, none⟩)) rfl (by kernel_rfl) (by kernel_rfl) (by kernel_rfl) (fun _ _ _ h => h) (Or.inl ⟨by rfl, fun w' hw' => by go_simp⟩) hHeld ?_
                try simp only [Act.put, List.getElem_toArray, List.getElem_cons_succ, List.getElem_cons_zero, List.setIfInBounds_toArray, List.set_cons_zero, List.set_cons_succ]
                refine' wpAnyH_take (i := 5) (v := .agg (WrD.cs ⟨X.p, X.t.take r⟩)) rfl (by kernel_rfl) (by kernel_rfl) (by kernel_rfl) (fun _ _ _ h => h) (yields_wr (by rfl) _ rfl gW 0 rfl ⟨X.p, X.t.take r⟩ rfl (fun w' h => WrX.range h)) hHeld ?_
                try simp only [Act.put, List.getElem_toArray, List.getElem_cons_succ, List.getElem_cons_zero, List.setIfInBounds_toArray, List.set_cons_zero, List.set_cons_succ]
                refine wpAnyH_ready (rs := [4]) (by kernel_rfl) (by simp) ?_
                refine AllReadyH.cons rfl (fun K hK => ?_) AllReadyH.nil
                have fA := HS.out.x.cell_ (i := 0) rfl
                go_simp
                refine hK.out _ _ hHeld (fun hHeld => ?_)
                clear hK K fA
                try simp only [Act.put, List.getElem_toArray, List.getElem_cons_succ, List.getElem_cons_zero, List.setIfInBounds_toArray, List.set_cons_zero, List.set_cons_succ]
                refine wpAnyH_ready (rs := [6]) (by kernel_rfl) (by simp) ?_
                refine AllReadyH.cons rfl (fun K hK => ?_) AllReadyH.nil
                go_simp
                (with_reducible refine (CP.out _ _ HS.out.r.k HS.out.r.bs).mono ?_)
                rintro e6 V6 ⟨v6, rfl, ho6, hg6, hv6⟩
                have hx6 := HS.out.boxed (blk_off HS.out.x HS.out.r.k (by decide)) hg6
                have hr6 := HS.out.r.kept hg6 ho6 hv6
                have hB6 : Blk V6 gW 72 (WrD.cs ⟨X.p, X.t.take r⟩) := (hg6.block gW hHeld.lt (blk_off hHeld HS.out.r.k (by decide))).trans hHeld
                replace HFR := hid (HFR.out.grown hg6 (HV.out.elim .inl fun h => .inr (.inr (.inr h))))
                replace HV : Hid (v6.ownBlock = kv.ownBlock ∨ ∃ g, v6.ownBlock = some g ∧ W.heap.size ≤ g) := hid (by rcases hv6 with e | ⟨g, e, hg⟩ <;> first | (rw [e]; exact HV.out) | exact .inr ⟨g, e, Nat.le_trans (Nat.le_trans HGW.out (Nat.le_of_lt hHeld.lt)) hg⟩)
                replace HX := hid ((hg6.block gL HX.out.lt (blk_off HX.out HS.out.r.k (by decide))).trans HX.out)
                obtain ⟨A6, c6, hv66⟩ := ho6.sl
                subst hv66
                have HX6 := hid hx6
                have HR6 := hid hr6
                refine hK.out _ _ hB6 (fun hHeld => ?_)
                clear hK K hg6 hv6 ho6 hx6 hr6 hB6
                try simp only [Act.put, List.getElem_toArray, List.getElem_cons_succ, List.getElem_cons_zero, List.setIfInBounds_toArray, List.set_cons_zero, List.set_cons_succ]
                refine' wpAnyH_take (i := 7) (v := .pointer (some ⟨D, 0, none⟩)) rfl (by kernel_rfl) (by kernel_rfl) (by kernel_rfl) (fun _ _ _ h => h) (Or.inl ⟨by rfl, fun w' hw' => by go_simp⟩) hHeld ?_
                try simp only [Act.put, List.getElem_toArray, List.getElem_cons_succ, List.getElem_cons_zero, List.setIfInBounds_toArray, List.set_cons_zero, List.set_cons_succ]
                refine' wpAnyH_take (i := 8) (v := .pointer (some ⟨D, 0, none⟩)) rfl (by kernel_rfl) (by kernel_rfl) (by kernel_rfl) (fun _ _ _ h => h) (Or.inl ⟨by rfl, fun w' hw' => by go_simp⟩) hHeld ?_
                try simp only [Act.put, List.getElem_toArray, List.getElem_cons_succ, List.getElem_cons_zero, List.setIfInBounds_toArray, List.set_cons_zero, List.set_cons_succ]
                refine wpAnyH_ready (rs := [9]) (by kernel_rfl) (by simp) ?_
                refine AllReadyH.cons rfl (fun K hK => ?_) AllReadyH.nil
                refine wp_store_d0 _ _ rfl D _ _ _ _ HX6.out A6 _ c6 rfl rfl ?_
                intro V9 hB9 hg9
                have hr9 := HR6.out.box HX6.out hg9
                have hB6 : Blk V9 gW 72 (WrD.cs ⟨X.p, X.t.take r⟩) := blk_gb hHeld hg9 (by rintro rfl; have e := Option.some.inj (HX6.out.symm.trans hHeld); injection e with _ e2; exact absurd e2 (by decide))
                replace HFR := hid (HFR.out.grown hg9 (.inr (.inl rfl)))
                replace HX := hid (blk_gb HX.out hg9 (blk_neD HX.out HX6.out (by decide)))
                have HS2 := hid (DkS.mk (dn := false) hB9 hr9 HBD.out)
                refine hK.out _ _ hB6 (fun hHeld => ?_)
                clear hK K hg9 hr9 hB6 hB9 HX6 HR6 HS
                try simp only [Act.put, List.getElem_toArray, List.getElem_cons_succ, List.getElem_cons_zero, List.setIfInBounds_toArray, List.set_cons_zero, List.set_cons_succ]
                refine wpAnyH_done (by kernel_rfl) ?_ _
                clear hHeld
                go_wp2_with (fail)
                go_roundw
                case rel => exact ⟨i + 1, _, HLT.out, by rw [HST.out], by go_num, hid (by rw [HST.out, HK9.out, HTN.out, HR.out]; exact HS2.out), HFR, HV, HX⟩
                case measure => first | exact pvd_meas2 HLT.out | (rw [q9]; exact pvd_meas2 HLT.out)
    · obtain rfl : n = i := by omega
      have z3 : ¬ (n : Int) < (n : Int) := by omega
      clear hlt hi
      go_upto_region 10 with (fail)
      replace HFR := hid (HFR.out.below (below_drew1 _))
      replace HS := hid (HS.out.below (below_drew1 _))
      obtain ⟨KF, hKF⟩ : ∃ K, (crS m cnt k ws n).1 = K := ⟨_, rfl⟩
      have HKF := hid hKF
      rw [hKF] at HS
      have HKN := hid (show KF.length ≤ 10000000 from by rw [← hKF]; exact HKL.out n)
      clear hKF
      have fk := HS.out.r.k.sl
      obtain ⟨Ak, ck, hkk⟩ := fk
      subst hkk
      refine wp_region_held_drew (S := fun V => True) (by kernel_rfl) trivial (fun hHeld => ?_)
      generalize World.drew _ = w6 at *
      refine' wpAnyH_take (i := 0) (v := .pointer (some ⟨D, 0, none⟩)) rfl (by kernel_rfl) (by kernel_rfl) (by kernel_rfl) (fun _ _ _ h => h) (Or.inl ⟨by rfl, fun w' hw' => by go_simp⟩) hHeld ?_
      try simp only [Act.put, List.getElem_toArray, List.getElem_cons_succ, List.getElem_cons_zero, List.setIfInBounds_toArray, List.set_cons_zero, List.set_cons_succ]
      refine' wpAnyH_take (i := 1) (v := .pointer (some ⟨D, 0, none⟩)) rfl (by kernel_rfl) (by kernel_rfl) (by kernel_rfl) (fun _ _ _ h => h) (Or.inl ⟨by rfl, fun w' hw' => by go_simp⟩) hHeld ?_
      try simp only [Act.put, List.getElem_toArray, List.getElem_cons_succ, List.getElem_cons_zero, List.setIfInBounds_toArray, List.set_cons_zero, List.set_cons_succ]
      refine' wpAnyH_take (i := 2) (v := .pointer (some ⟨D, 0, none⟩)) rfl (by kernel_rfl) (by kernel_rfl) (by kernel_rfl) (fun _ _ _ h => h) (Or.inl ⟨by rfl, fun w' hw' => by go_simp⟩) hHeld ?_
      try simp only [Act.put, List.getElem_toArray, List.getElem_cons_succ, List.getElem_cons_zero, List.setIfInBounds_toArray, List.set_cons_zero, List.set_cons_succ]
      refine' wpAnyH_take (i := 3) (v := .pointer (some ⟨D, 0, none⟩)) rfl (by kernel_rfl) (by kernel_rfl) (by kernel_rfl) (fun _ _ _ h => h) (Or.inl ⟨by rfl, fun w' hw' => by go_simp⟩) hHeld ?_
      try simp only [Act.put, List.getElem_toArray, List.getElem_cons_succ, List.getElem_cons_zero, List.setIfInBounds_toArray, List.set_cons_zero, List.set_cons_succ]
      refine' wpAnyH_take (i := 5) (v := .pointer (some ⟨D, 0, none⟩)) rfl (by kernel_rfl) (by kernel_rfl) (by kernel_rfl) (fun _ _ _ h => h) (Or.inl ⟨by rfl, fun w' hw' => by go_simp⟩) hHeld ?_
      try simp only [Act.put, List.getElem_toArray, List.getElem_cons_succ, List.getElem_cons_zero, List.setIfInBounds_toArray, List.set_cons_zero, List.set_cons_succ]
      refine' wpAnyH_take (i := 6) (v := .pointer (some ⟨D, 0, none⟩)) rfl (by kernel_rfl) (by kernel_rfl) (by kernel_rfl) (fun _ _ _ h => h) (Or.inl ⟨by rfl, fun w' hw' => by go_simp⟩) hHeld ?_
      try simp only [Act.put, List.getElem_toArray, List.getElem_cons_succ, List.getElem_cons_zero, List.setIfInBounds_toArray, List.set_cons_zero, List.set_cons_succ]
      refine' wpAnyH_take (i := 7) (v := .pointer (some ⟨D, 0, none⟩)) rfl (by kernel_rfl) (by kernel_rfl) (by kernel_rfl) (fun _ _ _ h => h) (Or.inl ⟨by rfl, fun w' hw' => by go_simp⟩) hHeld ?_
      try simp only [Act.put, List.getElem_toArray, List.getElem_cons_succ, List.getElem_cons_zero, List.setIfInBounds_toArray, List.set_cons_zero, List.set_cons_succ]
      refine wpAnyH_ready (rs := [4, 8]) (by kernel_rfl) (by simp) ?_
      refine AllReadyH.cons rfl (fun K hK => ?_) (AllReadyH.cons rfl (fun K hK => ?_) AllReadyH.nil)
      · as_aux_lemma =>
          have fA := HS.out.x.cell_ (i := 0) rfl
          go_simp
          refine hK.out _ _ hHeld (fun hHeld => ?_)
          clear hK K fA
          try simp only [Act.put, List.getElem_toArray, List.getElem_cons_succ, List.getElem_cons_zero, List.setIfInBounds_toArray, List.set_cons_zero, List.set_cons_succ]
          refine wpAnyH_ready (rs := [8]) (by kernel_rfl) (by simp) ?_
          refine AllReadyH.cons rfl (fun K hK => ?_) AllReadyH.nil
          have fA := HS.out.x.cell_ (i := 0) rfl
          go_simp
          refine hK.out _ _ hHeld (fun hHeld => ?_)
          clear hK K fA
          try simp only [Act.put, List.getElem_toArray, List.getElem_cons_succ, List.getElem_cons_zero, List.setIfInBounds_toArray, List.set_cons_zero, List.set_cons_succ]
          refine wpAnyH_ready (rs := [9]) (by kernel_rfl) (by simp) ?_
          refine AllReadyH.cons rfl (fun K hK => ?_) AllReadyH.nil
          go_simp
          (with_reducible refine (cloneB_any base _ KF (by have := HKN.out; omega) _ HS.out.r.k).mono ?_)
          rintro e9 V9 ⟨v9, rfl, ho9, hb9⟩
          have hap : v9.ownBlock = none ∨ ∃ g, v9.ownBlock = some g ∧ (Value.slice Ak KF.length ck).ownBlock ≠ some g := by
            cases hq : v9.ownBlock with
            | none => exact .inl rfl
            | some g => exact .inr ⟨g, rfl, fun e => by have h1 := (World.ownsRow.lt ho9 g hq).1; have h2 := (World.ownsRow.lt HS.out.r.k g e).2; omega⟩
          obtain ⟨A9, c9, hv9⟩ := ho9.sl
          subst hv9
          have HAP := hid hap
          have HO9 : Hid (ByOw V9 base (.slice A9 KF.length c9) KF) := hid (by_le ho9 HS.out.r.bs)
          replace HFR := hid (HFR.out.below hb9)
          replace HS := hid (HS.out.below hb9)
          refine hK.out _ _ trivial (fun hHeld => ?_)
          clear hK K hb9 ho9 hap
          try simp only [Act.put, List.getElem_toArray, List.getElem_cons_succ, List.getElem_cons_zero, List.setIfInBounds_toArray, List.set_cons_zero, List.set_cons_succ]
          refine' wpAnyH_take (i := 10) (v := .agg #[.slice Ak KF.length ck, .slice A9 KF.length c9, .slice none 0 0, .pointer none, .bool true]) rfl (by kernel_rfl) (by kernel_rfl) (by kernel_rfl) (fun _ _ _ h => h) (Or.inl ⟨by rfl, fun w' hw' => by go_simp⟩) hHeld ?_
          try simp only [Act.put, List.getElem_toArray, List.getElem_cons_succ, List.getElem_cons_zero, List.setIfInBounds_toArray, List.set_cons_zero, List.set_cons_succ]
          refine' wpAnyH_take (i := 11) (v := .pointer (some ⟨D, 0, none⟩)) rfl (by kernel_rfl) (by kernel_rfl) (by kernel_rfl) (fun _ _ _ h => h) (Or.inl ⟨by rfl, fun w' hw' => by go_simp⟩) hHeld ?_
          try simp only [Act.put, List.getElem_toArray, List.getElem_cons_succ, List.getElem_cons_zero, List.setIfInBounds_toArray, List.set_cons_zero, List.set_cons_succ]
          refine wpAnyH_ready (rs := [12]) (by kernel_rfl) (by simp) ?_
          refine AllReadyH.cons rfl (fun K hK => ?_) AllReadyH.nil
          refine wp_store_disk _ _ rfl D _ _ HS.out.x rfl rfl rfl rfl (by simp [Value.oneCell']) ?_
          intro V10 hB10 hg10
          have hk10 := World.ownsRow.kept HS.out.r.k hg10 (.inr (blk_off HS.out.x HS.out.r.k (by decide)).symm)
          have hs10 : ByOw V10 base (.slice A9 KF.length c9) KF := World.ownsRow.kept HO9.out hg10 (.inr (blk_off HS.out.x HO9.out (by decide)).symm)
          replace HFR := hid (HFR.out.grown hg10 (.inr (.inl rfl)))
          have HS3 : Hid (DkS base D (.slice Ak KF.length ck) (.slice A9 KF.length c9) (.slice none 0 0) KF KF [] true V10) := hid ⟨hB10, ⟨hk10, hs10, WrOw.nil _ _, by
            rcases HAP.out with e | ⟨g, e, hne⟩
            · by_cases h0 : (Value.slice Ak KF.length ck).ownBlock = none
              · exact .inl h0
              · right; rw [e]; exact h0
            · right; rw [e]; exact hne, Nat.le_trans HS.out.r.bs hg10.size⟩, HBD.out⟩
          refine hK.out _ _ trivial (fun hHeld => ?_)
          clear hK K hg10 hB10 hk10 hs10 HS
          try simp only [Act.put, List.getElem_toArray, List.getElem_cons_succ, List.getElem_cons_zero, List.setIfInBounds_toArray, List.set_cons_zero, List.set_cons_succ]
          refine wpAnyH_done (by kernel_rfl) ?_ _
          clear hHeld
          go_wp2_with (fail)
          go_ret
          exact ⟨rfl, _, _, by rw [HKF.out]; exact HS3.out, HFR.out⟩
      · as_aux_lemma =>
          have fA := HS.out.x.cell_ (i := 0) rfl
          go_simp
          refine hK.out _ _ hHeld (fun hHeld => ?_)
          clear hK K fA
          try simp only [Act.put, List.getElem_toArray, List.getElem_cons_succ, List.getElem_cons_zero, List.setIfInBounds_toArray, List.set_cons_zero, List.set_cons_succ]
          refine wpAnyH_ready (rs := [4, 9]) (by kernel_rfl) (by simp) ?_
          refine AllReadyH.cons rfl (fun K hK => ?_) (AllReadyH.cons rfl (fun K hK => ?_) AllReadyH.nil)
          · as_aux_lemma =>
              have fA := HS.out.x.cell_ (i := 0) rfl
              go_simp
              refine hK.out _ _ hHeld (fun hHeld => ?_)
              clear hK K fA
              try simp only [Act.put, List.getElem_toArray, List.getElem_cons_succ, List.getElem_cons_zero, List.setIfInBounds_toArray, List.set_cons_zero, List.set_cons_succ]
              refine wpAnyH_ready (rs := [9]) (by kernel_rfl) (by simp) ?_
              refine AllReadyH.cons rfl (fun K hK => ?_) AllReadyH.nil
              go_simp
              (with_reducible refine (cloneB_any base _ KF (by have := HKN.out; omega) _ HS.out.r.k).mono ?_)
              rintro e9 V9 ⟨v9, rfl, ho9, hb9⟩
              have hap : v9.ownBlock = none ∨ ∃ g, v9.ownBlock = some g ∧ (Value.slice Ak KF.length ck).ownBlock ≠ some g := by
                cases hq : v9.ownBlock with
                | none => exact .inl rfl
                | some g => exact .inr ⟨g, rfl, fun e => by have h1 := (World.ownsRow.lt ho9 g hq).1; have h2 := (World.ownsRow.lt HS.out.r.k g e).2; omega⟩
              obtain ⟨A9, c9, hv9⟩ := ho9.sl
              subst hv9
              have HAP := hid hap
              have HO9 : Hid (ByOw V9 base (.slice A9 KF.length c9) KF) := hid (by_le ho9 HS.out.r.bs)
              replace HFR := hid (HFR.out.below hb9)
              replace HS := hid (HS.out.below hb9)
              refine hK.out _ _ trivial (fun hHeld => ?_)
              clear hK K hb9 ho9 hap
              try simp only [Act.put, List.getElem_toArray, List.getElem_cons_succ, List.getElem_cons_zero, List.setIfInBounds_toArray, List.set_cons_zero, List.set_cons_succ]
              refine' wpAnyH_take (i := 10) (v := .agg #[.slice Ak KF.length ck, .slice A9 KF.length c9, .slice none 0 0, .pointer none, .bool true]) rfl (by kernel_rfl) (by kernel_rfl) (by kernel_rfl) (fun _ _ _ h => h) (Or.inl ⟨by rfl, fun w' hw' => by go_simp⟩) hHeld ?_
              try simp only [Act.put, List.getElem_toArray, List.getElem_cons_succ, List.getElem_cons_zero, List.setIfInBounds_toArray, List.set_cons_zero, List.set_cons_succ]
              refine' wpAnyH_take (i := 11) (v := .pointer (some ⟨D, 0, none⟩)) rfl (by kernel_rfl) (by kernel_rfl) (by kernel_rfl) (fun _ _ _ h => h) (Or.inl ⟨by rfl, fun w' hw' => by go_simp⟩) hHeld ?_
              try simp only [Act.put, List.getElem_toArray, List.getElem_cons_succ, List.getElem_cons_zero, List.setIfInBounds_toArray, List.set_cons_zero, List.set_cons_succ]
              refine wpAnyH_ready (rs := [12]) (by kernel_rfl) (by simp) ?_
              refine AllReadyH.cons rfl (fun K hK => ?_) AllReadyH.nil
              refine wp_store_disk _ _ rfl D _ _ HS.out.x rfl rfl rfl rfl (by simp [Value.oneCell']) ?_
              intro V10 hB10 hg10
              have hk10 := World.ownsRow.kept HS.out.r.k hg10 (.inr (blk_off HS.out.x HS.out.r.k (by decide)).symm)
              have hs10 : ByOw V10 base (.slice A9 KF.length c9) KF := World.ownsRow.kept HO9.out hg10 (.inr (blk_off HS.out.x HO9.out (by decide)).symm)
              replace HFR := hid (HFR.out.grown hg10 (.inr (.inl rfl)))
              have HS3 : Hid (DkS base D (.slice Ak KF.length ck) (.slice A9 KF.length c9) (.slice none 0 0) KF KF [] true V10) := hid ⟨hB10, ⟨hk10, hs10, WrOw.nil _ _, by
                rcases HAP.out with e | ⟨g, e, hne⟩
                · by_cases h0 : (Value.slice Ak KF.length ck).ownBlock = none
                  · exact .inl h0
                  · right; rw [e]; exact h0
                · right; rw [e]; exact hne, Nat.le_trans HS.out.r.bs hg10.size⟩, HBD.out⟩
              refine hK.out _ _ trivial (fun hHeld => ?_)
              clear hK K hg10 hB10 hk10 hs10 HS
              try simp only [Act.put, List.getElem_toArray, List.getElem_cons_succ, List.getElem_cons_zero, List.setIfInBounds_toArray, List.set_cons_zero, List.set_cons_succ]
              refine wpAnyH_done (by kernel_rfl) ?_ _
              clear hHeld
              go_wp2_with (fail)
              go_ret
              exact ⟨rfl, _, _, by rw [HKF.out]; exact HS3.out, HFR.out⟩
          · as_aux_lemma =>
              go_simp
              (with_reducible refine (cloneB_any base _ KF (by have := HKN.out; omega) _ HS.out.r.k).mono ?_)
              rintro e9 V9 ⟨v9, rfl, ho9, hb9⟩
              have hap : v9.ownBlock = none ∨ ∃ g, v9.ownBlock = some g ∧ (Value.slice Ak KF.length ck).ownBlock ≠ some g := by
                cases hq : v9.ownBlock with
                | none => exact .inl rfl
                | some g => exact .inr ⟨g, rfl, fun e => by have h1 := (World.ownsRow.lt ho9 g hq).1; have h2 := (World.ownsRow.lt HS.out.r.k g e).2; omega⟩
              obtain ⟨A9, c9, hv9⟩ := ho9.sl
              subst hv9
              have HAP := hid hap
              have HO9 : Hid (ByOw V9 base (.slice A9 KF.length c9) KF) := hid (by_le ho9 HS.out.r.bs)
              replace HFR := hid (HFR.out.below hb9)
              replace HS := hid (HS.out.below hb9)
              refine hK.out _ _ trivial (fun hHeld => ?_)
              clear hK K hb9 ho9 hap
              try simp only [Act.put, List.getElem_toArray, List.getElem_cons_succ, List.getElem_cons_zero, List.setIfInBounds_toArray, List.set_cons_zero, List.set_cons_succ]
              refine wpAnyH_ready (rs := [4]) (by kernel_rfl) (by simp) ?_
              refine AllReadyH.cons rfl (fun K hK => ?_) AllReadyH.nil
              have fA := HS.out.x.cell_ (i := 0) rfl
              go_simp
              refine hK.out _ _ hHeld (fun hHeld => ?_)
              clear hK K fA
              try simp only [Act.put, List.getElem_toArray, List.getElem_cons_succ, List.getElem_cons_zero, List.setIfInBounds_toArray, List.set_cons_zero, List.set_cons_succ]
              refine' wpAnyH_take (i := 10) (v := .agg #[.slice Ak KF.length ck, .slice A9 KF.length c9, .slice none 0 0, .pointer none, .bool true]) rfl (by kernel_rfl) (by kernel_rfl) (by kernel_rfl) (fun _ _ _ h => h) (Or.inl ⟨by rfl, fun w' hw' => by go_simp⟩) hHeld ?_
              try simp only [Act.put, List.getElem_toArray, List.getElem_cons_succ, List.getElem_cons_zero, List.setIfInBounds_toArray, List.set_cons_zero, List.set_cons_succ]
              refine' wpAnyH_take (i := 11) (v := .pointer (some ⟨D, 0, none⟩)) rfl (by kernel_rfl) (by kernel_rfl) (by kernel_rfl) (fun _ _ _ h => h) (Or.inl ⟨by rfl, fun w' hw' => by go_simp⟩) hHeld ?_
              try simp only [Act.put, List.getElem_toArray, List.getElem_cons_succ, List.getElem_cons_zero, List.setIfInBounds_toArray, List.set_cons_zero, List.set_cons_succ]
              refine wpAnyH_ready (rs := [12]) (by kernel_rfl) (by simp) ?_
              refine AllReadyH.cons rfl (fun K hK => ?_) AllReadyH.nil
              refine wp_store_disk _ _ rfl D _ _ HS.out.x rfl rfl rfl rfl (by simp [Value.oneCell']) ?_
              intro V10 hB10 hg10
              have hk10 := World.ownsRow.kept HS.out.r.k hg10 (.inr (blk_off HS.out.x HS.out.r.k (by decide)).symm)
              have hs10 : ByOw V10 base (.slice A9 KF.length c9) KF := World.ownsRow.kept HO9.out hg10 (.inr (blk_off HS.out.x HO9.out (by decide)).symm)
              replace HFR := hid (HFR.out.grown hg10 (.inr (.inl rfl)))
              have HS3 : Hid (DkS base D (.slice Ak KF.length ck) (.slice A9 KF.length c9) (.slice none 0 0) KF KF [] true V10) := hid ⟨hB10, ⟨hk10, hs10, WrOw.nil _ _, by
                rcases HAP.out with e | ⟨g, e, hne⟩
                · by_cases h0 : (Value.slice Ak KF.length ck).ownBlock = none
                  · exact .inl h0
                  · right; rw [e]; exact h0
                · right; rw [e]; exact hne, Nat.le_trans HS.out.r.bs hg10.size⟩, HBD.out⟩
              refine hK.out _ _ trivial (fun hHeld => ?_)
              clear hK K hg10 hB10 hk10 hs10 HS
              try simp only [Act.put, List.getElem_toArray, List.getElem_cons_succ, List.getElem_cons_zero, List.setIfInBounds_toArray, List.set_cons_zero, List.set_cons_succ]
              refine wpAnyH_done (by kernel_rfl) ?_ _
              clear hHeld
              go_wp2_with (fail)
              go_ret
              exact ⟨rfl, _, _, by rw [HKF.out]; exact HS3.out, HFR.out⟩
set_option maxRecDepth 100000 in
set_option maxHeartbeats 8000000 in
theorem dpowL_any (base D : Nat) (kv sv wv : Value) (k s : List UInt8) (ws : List WrD) (hk : k.length ≤ 10000000) (hw : ∀ x ∈ ws, x.p + x.t.length ≤ 10000000) (hn : ws.length ≤ 1000) (m cnt : Int) (W : World) (h : DkS base D kv sv wv k s ws false W) :
    Calls Tryz.prog 34 #[.pointer (some ⟨D, 0, none⟩), .func (.func 35) #[.pointer (some ⟨D, 0, none⟩)] #[], .agg #[.int .u64 m, .int .i64 cnt]] W (CrashQ base D kv (crS m cnt k ws ws.length).1 W) := by
  have hb1 := (Below.refl W.heap.size W).alloc (Nat.le_refl _) (.cells #[.int .u64 m, .int .i64 cnt] 76)
  have h1 := h.below hb1
  have hx1 := Blk.new W 76 #[.int .u64 m, .int .i64 cnt]
  have cW := dcrash_any base D kv sv wv k s ws hk hw hn m cnt _ h1
  have HFR : Hid (∀ w', FrD D kv.ownBlock (W.alloc (.cells #[.int .u64 m, .int .i64 cnt] 76)) w' → FrD D kv.ownBlock W w') := hid (fun w' hf => ⟨hf.os, hf.tape, hf.output, Nat.le_trans hb1.size hf.size, fun i hi hd hr => (hf.block i (Nat.lt_of_lt_of_le hi hb1.size) hd hr).trans (hb1.block i hi)⟩)
  have f0 := hx1.cell_ (i := 0) rfl
  have f1 := hx1.cell_ (i := 1) rfl
  have f4 := h1.x.cell_ (i := 4) rfl
  clear h h1 hx1 hk hw hn hb1
  go_enter Tryz.func34, Tryz.ntmps34
  go_wp2_with (go_at_call 35; (with_reducible refine cW.mono ?_); rintro e3 w3 ⟨rfl, kv', sv', hs3, hf3⟩)
  go_ret
  exact ⟨rfl, kv', sv', hs3, HFR.out _ hf3⟩
/-- What Crash answers. -/
def CrashR (base D : Nat) (kv : Value) (k : List UInt8) (W : World) (e : Ending) (w' : World) : Prop :=
  e = .returned (.tuple #[]) ∧ ∃ kv' sv', DkS base D kv' sv' (.slice none 0 0) k k [] true w' ∧ FrD D kv.ownBlock W w'
set_option maxRecDepth 100000 in
set_option maxHeartbeats 8000000 in
theorem dCrash_any (base D : Nat) (kv sv wv : Value) (k s : List UInt8) (ws : List WrD) (hk : k.length ≤ 10000000) (hw : ∀ x ∈ ws, x.p + x.t.length ≤ 10000000) (hn : ws.length ≤ 1000) (m cnt : Int) (W : World) (h : DkS base D kv sv wv k s ws false W) :
    Calls Tryz.prog 20 #[.pointer (some ⟨D, 0, none⟩), .int .u64 m, .int .i64 cnt] W (CrashR base D kv (crS m cnt k ws ws.length).1 W) := by
  have cW := dpowL_any base D kv sv wv k s ws hk hw hn m cnt W h
  clear h hk hw hn
  go_enter Tryz.func20, Tryz.ntmps20
  go_wp2_with (go_at_call 34; (with_reducible refine cW.mono ?_); rintro e3 w3 ⟨rfl, kv', sv', hs3, hf3⟩)
  go_end0
  exact ⟨rfl, kv', sv', hs3, hf3⟩
end Go.Proofs.YtemdmdgigmhlbaaGreat
/- disk: Copy; two disks side by side; the chapter's example. -/
set_option linter.unusedSimpArgs false
set_option linter.unusedVariables false
namespace Go.Proofs.YtemdmdgigmhlbaaGreat
open Go.RowKit Go.Qc Go.Shelf
attribute [local go_sem] txt_size txt_append ib_fold
theorem own_fr {W w' : World} {base n size D : Nat} {r : Option Nat} {e : TypeId} {v : Value} {xs : List Value} (h : W.ownsRow base e size v n xs) (hf : FrD D r W w') (hD : D < base) (hr : ∀ g, r = some g → g < base) : w'.ownsRow base e size v n xs := by
  refine ⟨h.1, ?_⟩
  rcases h.2 with hn | ⟨g, cap, cur, rfl, hb, hg, rest⟩
  · exact .inl hn
  · refine .inr ⟨g, cap, cur, rfl, hb, ?_, rest⟩
    rw [hf.block g (Array.getElem?_eq_some_iff.1 hg).1 (by omega) (fun e => by have := hr g e.symm; omega)]
    exact hg
/-- A disk is as it was behind what was done to one that was there before it. -/
theorem DkS.far {base D E : Nat} {r : Option Nat} {kv sv wv : Value} {k s : List UInt8} {ws : List WrD} {dn : Bool} {W w' : World} (h : DkS base E kv sv wv k s ws dn W) (hf : FrD D r W w') (hD : D < base) (hr : ∀ g, r = some g → g < base) : DkS base E kv sv wv k s ws dn w' :=
  ⟨(hf.block E h.x.lt (by have := h.bd; omega) (fun e => by have := hr E e.symm; have := h.bd; omega)).trans h.x, ⟨own_fr h.r.k hf hD hr, own_fr h.r.s hf hD hr, own_fr h.r.q hf hD hr, h.r.ap, Nat.le_trans h.r.bs hf.size⟩, h.bd⟩
theorem fr_below {base E : Nat} {r : Option Nat} {W w' : World} (hf : FrD E r W w') (hE : base ≤ E) (hr : ∀ g, r = some g → base ≤ g) (hb : base ≤ W.heap.size) : Below base W w' :=
  ⟨hf.os, hf.tape, hf.output, hf.size, fun i hi => hf.block i (by omega) (by omega) (fun e => by have := hr i e.symm; omega)⟩
end Go.Proofs.YtemdmdgigmhlbaaGreat

/- disk: a text is written behind what is seen. -/
import Derived.Test.YtemdmdgigmhlbaaGreatDk5
import Derived.Shelf.Pu.Clone
set_option linter.unusedSimpArgs false
set_option linter.unusedVariables false
namespace Go.Proofs.YtemdmdgigmhlbaaGreat
open Go.RowKit Go.Qc Go.Shelf
attribute [local go_sem] txt_size txt_append ib_fold
def laysD25_ren : Go.Shelf.Ren := ⟨fun | 25 => 66 | n => n, fun | 0 => 0 | 3 => 3 | 4 => 4 | 5 => 5 | 9 => 9 | 37 => 56 | 47 => 141 | n => n, fun | n => n⟩
theorem laysD25 : Go.Proofs.LaysPu.n25 Tryz.prog laysD25_ren := {
  mixed := by kernel_rfl
  f25 := Tryz.func66.trans (congrArg some (by kernel_rfl))
  t0 := Tryz.underlying0
  a0 := Tryz.isAgg0
  z0 := Tryz.sizeOf0
  v0 := Tryz.zeroValue0
  i0 := by kernel_rfl
  t3 := Tryz.underlying3
  a3 := Tryz.isAgg3
  z3 := Tryz.sizeOf3
  v3 := Tryz.zeroValue3
  i3 := by kernel_rfl
  t4 := Tryz.underlying4
  a4 := Tryz.isAgg4
  z4 := Tryz.sizeOf4
  v4 := Tryz.zeroValue4
  i4 := by kernel_rfl
  t5 := Tryz.underlying5
  a5 := Tryz.isAgg5
  z5 := Tryz.sizeOf5
  v5 := Tryz.zeroValue5
  i5 := by kernel_rfl
  t9 := Tryz.underlying9
  a9 := Tryz.isAgg9
  z9 := Tryz.sizeOf9
  v9 := Tryz.zeroValue9
  i9 := by kernel_rfl
  t37 := Tryz.underlying56
  a37 := Tryz.isAgg56
  z37 := Tryz.sizeOf56
  v37 := Tryz.zeroValue56
  i37 := by kernel_rfl
  t47 := Tryz.underlying141
  a47 := Tryz.isAgg141
  z47 := Tryz.sizeOf141
  v47 := Tryz.zeroValue141
  i47 := by kernel_rfl }
theorem dkClone_any (s : ByteArray) (hs : s.size ≤ 1000000000000) (w : World) :
    Calls Tryz.prog 51 #[.string s] w fun o w' => o = .returned (.string s) ∧ Below w.heap.size w w' := by
  have c : ∀ W : World, Calls Tryz.prog 66 #[.string s] W fun o w' => o = .returned (.string s) ∧ Below W.heap.size W w' := fun W => AnyPu.stringslite_Clone laysD25 s W (by omega)
  go_enter Tryz.func51, Tryz.ntmps51
  go_wp2_with (first
    | (go_at_call 66; (with_reducible refine (c _).mono ?_); rintro o1 w1 ⟨rfl, hB⟩))
  go_ret
  exact ⟨rfl, hB⟩

theorem run_cellD {P : Program} {w : World} {g i : Nat} {old : Array Value} {t ty : TypeId} {v : Value} (hg : Blk w g t old) (hi : (P.info? ty).map (·.size) = some 1) (hs : i + 1 ≤ old.size) (hv : v.cells = #[v]) (h1 : v.oneCell' = true) :
    (Instr.storeAt ty (.pointer (some ⟨g, i, none⟩)) v).run P w = .ok () (w.setRow g (over old i [v])) := by
  have hst := run_storeCells_at P g i t [v] 0 old w hg (by simpa using hs) (by intro u hu; simp at hu; rw [hu]; exact h1)
  simp only [Nat.add_zero] at hst
  cases hq : P.info? ty with
  | none => simp [hq] at hi
  | some j =>
    have hsz : j.size = 1 := by simpa [hq] using hi
    simp [Instr.storeAt, Instr.sureAddr, storeVar, sizeOf, typeInfo, hq, hv, hsz]
    rw [hst]; simp [over]
theorem wp_store_cellM' {P : Program} {w : World} {o : Oper} {a : Act} {K : Act → World → Prop} {Q : Exit → Act → World → Prop} (ty : TypeId) (x y : Operand) (ho : o.op = .store ty x y)
    (g i : Nat) (old : Array Value) (t : TypeId) (hg : Blk w g t old) (v : Value) (hx : a.eval x = .pointer (some ⟨g, i, none⟩)) (hy : a.eval y = v) (hi : (P.info? ty).map (·.size) = some 1) (hs : i + 1 ≤ old.size) (hv : v.cells = #[v]) (h1 : v.oneCell' = true)
    (h : ∀ w', Blk w' g t (over old i [v]) → w.grownBy w' (some g) → K (a.put o.dst undef) w') : o.wp P a w K Q := by
  obtain ⟨hb, hgr⟩ := blk_over hg (over old i [v])
  have hr := run_cellD (P := P) (ty := ty) hg hi hs hv h1
  unfold Oper.wp
  simp only [execOp, ho, hx, hy]
  simp only [Sem.run_bind, hr, Result.andThen, Sem.run_pure]
  exact h _ hb hgr
theorem infoSlB : (Tryz.prog.info? 56).map (·.size) = some 1 := by kernel_rfl
theorem infoSlW : (Tryz.prog.info? 57).map (·.size) = some 1 := by kernel_rfl
theorem wp_store_d0 {w : World} {o : Oper} {a : Act} {K : Act → World → Prop} {Q : Exit → Act → World → Prop} (x y : Operand) (ho : o.op = .store 56 x y)
    (D : Nat) (kv sv wv : Value) (dn : Bool) (hg : Blk w D 60 #[kv, sv, wv, .pointer none, .bool dn]) (A : Option Addr) (n c : Nat) (hx : a.eval x = .pointer (some ⟨D, 0, none⟩)) (hy : a.eval y = .slice A n c)
    (h : ∀ w', Blk w' D 60 #[.slice A n c, sv, wv, .pointer none, .bool dn] → w.grownBy w' (some D) → K (a.put o.dst undef) w') : o.wp Tryz.prog a w K Q :=
  wp_store_cellM' 56 x y ho D 0 _ _ hg (.slice A n c) hx hy infoSlB (by simp) rfl rfl fun w' hb hgr => h w' hb hgr
theorem wp_store_d1 {w : World} {o : Oper} {a : Act} {K : Act → World → Prop} {Q : Exit → Act → World → Prop} (x y : Operand) (ho : o.op = .store 56 x y)
    (D : Nat) (kv sv wv : Value) (dn : Bool) (hg : Blk w D 60 #[kv, sv, wv, .pointer none, .bool dn]) (A : Option Addr) (n c : Nat) (hx : a.eval x = .pointer (some ⟨D, 1, none⟩)) (hy : a.eval y = .slice A n c)
    (h : ∀ w', Blk w' D 60 #[kv, .slice A n c, wv, .pointer none, .bool dn] → w.grownBy w' (some D) → K (a.put o.dst undef) w') : o.wp Tryz.prog a w K Q :=
  wp_store_cellM' 56 x y ho D 1 _ _ hg (.slice A n c) hx hy infoSlB (by simp) rfl rfl fun w' hb hgr => h w' hb hgr
theorem wp_store_d2 {w : World} {o : Oper} {a : Act} {K : Act → World → Prop} {Q : Exit → Act → World → Prop} (x y : Operand) (ho : o.op = .store 57 x y)
    (D : Nat) (kv sv wv : Value) (dn : Bool) (hg : Blk w D 60 #[kv, sv, wv, .pointer none, .bool dn]) (A : Option Addr) (n c : Nat) (hx : a.eval x = .pointer (some ⟨D, 2, none⟩)) (hy : a.eval y = .slice A n c)
    (h : ∀ w', Blk w' D 60 #[kv, sv, .slice A n c, .pointer none, .bool dn] → w.grownBy w' (some D) → K (a.put o.dst undef) w') : o.wp Tryz.prog a w K Q :=
  wp_store_cellM' 57 x y ho D 2 _ _ hg (.slice A n c) hx hy infoSlW (by simp) rfl rfl fun w' hb hgr => h w' hb hgr
theorem wp_build1wj {w : World} {o : Oper} {a : Act} {K : Act → World → Prop} {Q : Exit → Act → World → Prop} (x : Operand) (ho : o.op = .buildSlice 57 1 #[(0, x)])
    (X : WrD) (hx : a.eval x = .agg X.cs)
    (h : ∀ g w', WrRd w' (some ⟨g, 0, none⟩) [X] → Below w.heap.size w w' → K (a.put o.dst (.slice (some ⟨g, 0, none⟩) 1 1)) w') :
    o.wp Tryz.prog a w K Q :=
  wp_build1wr x ho X rfl hx fun cs hr => h _ _ hr ((Below.refl _ _).alloc (Nat.le_refl _) _)
theorem wr_range {W : World} {g p : Nat} {t : List UInt8} (h : Blk W g 72 #[.int .i64 (p : Int), .string (txt t)]) : W.rangeAt g 0 (WrD.cs ⟨p, t⟩).toList := fun j v hj => by
  rw [Nat.zero_add]
  exact h.cell_ (by rw [← Array.getElem?_toList]; exact hj)
/-- A box of a write is no row of one's own. -/
theorem wr_keep {W W' : World} {base n g p : Nat} {v : Value} {Xs : List WrD} {t : List UInt8} (h : Blk W g 72 #[.int .i64 (p : Int), .string (txt t)]) (hq : WrOw W base v n Xs) (hg : W.grownBy W' v.ownBlock) (hlt : ∀ q, v.ownBlock = some q → q < g) : Blk W' g 72 #[.int .i64 (p : Int), .string (txt t)] :=
  (hg.block g h.lt (fun e => by have := hlt g e.symm; omega)).trans h
theorem wr_slice {W : World} {base n : Nat} {v : Value} {Xs : List WrD} (h : WrOw W base v n Xs) : ∃ A m c, v = .slice A m c := by
  rcases h.2 with ⟨rfl, _⟩ | ⟨g, c, cur, rfl, _⟩
  · exact ⟨_, _, _, rfl⟩
  · exact ⟨_, _, _, rfl⟩
set_option maxRecDepth 100000 in
set_option maxHeartbeats 16000000 in
theorem dwrite_nil (base D : Nat) (kv sv wv : Value) (k s : List UInt8) (ws : List WrD) (hs : s.length ≤ 2000000) (W : World) (h : DkS base D kv sv wv k s ws false W) :
    Calls Tryz.prog 32 #[.pointer (some ⟨D, 0, none⟩), .agg #[.int .i64 (s.length : Int), .string (txt [])]] W fun e w' => e = .returned (.int .i64 0) ∧ Below W.heap.size W w' := by
  have mixed : Tryz.prog.follows .mixedOrders = true := by kernel_rfl
  have hb1 := (Below.refl W.heap.size W).alloc (Nat.le_refl _) (.cells #[.int .i64 (s.length : Int), .string (txt [])] 72)
  have hx1 := Blk.new W 72 #[.int .i64 (s.length : Int), .string (txt [])]
  have hq : txt [] = ⟨#[]⟩ := rfl
  rw [hq] at hb1 hx1 ⊢
  have h1 := h.below hb1
  obtain ⟨A, c, rfl⟩ := h.r.s.sl
  have HSL := hid hs
  generalize s.length = p at *
  have z1 : ¬ (p : Int) < 0 := by omega
  have z2 : ¬ (p : Int) < (p : Int) := by omega
  have e1 : wrap64 (4194304 - (p : Int)) = 4194304 - (p : Int) := by unfold wrap64; omega
  have z3 : ¬ (4194304 - (p : Int)) < 0 := by omega
  clear h hs
  go_enter Tryz.func32, Tryz.ntmps32
  go_upto_region 1 with (fail)
  generalize W.alloc (.cells #[.int .i64 (p : Int), .string ⟨#[]⟩] 72) = w1 at *
  have f0 : ∀ q : LaterW w1, q.w.cell? ⟨W.heap.size, 0, none⟩ = some (.int .i64 (p : Int)) := fun q => (hx1.below q.h).cell_ rfl
  have f1 : ∀ q : LaterW w1, q.w.cell? ⟨D, 1, none⟩ = some (.slice A p c) := fun q => (h1.x.below q.h).cell_ rfl
  refine wp_region_later mixed (by kernel_rfl) ?_
  repeat (first
    | ((with_reducible refine wpQuiet_skip (by with_unfolding_all rfl) ?_); simp only [Act.put, List.setIfInBounds_toArray, List.set_cons_zero, List.set_cons_succ])
    | ((with_reducible refine wpQuiet_step (fun K hK => ?_)); go_simp; first | ((with_reducible refine hK _ ?_); clear hK K)))
  with_reducible refine wpQuiet_nil ?_
  intro _ hw'
  obtain ⟨p9, rfl⟩ := hw'
  have hp9 := p9.h
  generalize p9.w = w2 at *
  have g0 := (hx1.below hp9).cell_ (i := 0) rfl
  have g1 := (hx1.below hp9).cell_ (i := 1) rfl
  replace hb1 := hb1.trans (hp9.mono hb1.size)
  clear f0 f1 hp9 hx1 h1
  go_wp2_with (fail)
  go_ret
  exact ⟨rfl, hb1⟩
end Go.Proofs.YtemdmdgigmhlbaaGreat
/- disk: Write. -/
set_option linter.unusedSimpArgs false
set_option linter.unusedVariables false
namespace Go.Proofs.YtemdmdgigmhlbaaGreat
open Go.RowKit Go.Qc Go.Shelf
attribute [local go_sem] txt_size txt_append ib_fold
/-- What waits behind a write. -/
def addW (s t : List UInt8) (ws : List WrD) : List WrD := if t = [] then ws else ws ++ [⟨s.length, t⟩]
/-- All that waits, put in. -/
def applyW (k : List UInt8) (ws : List WrD) : List UInt8 := ws.foldl (fun k x => putLd k x.p x.t) k
theorem applyW_step {k : List UInt8} {ws : List WrD} {i : Nat} {x : WrD} (h : ws[i]? = some x) : applyW k (ws.take (i + 1)) = putLd (applyW k (ws.take i)) x.p x.t := by
  unfold applyW
  rw [List.take_add_one, h, List.foldl_append]
  rfl
theorem applyW_all (k : List UInt8) (ws : List WrD) : applyW k (ws.take ws.length) = applyW k ws := by rw [List.take_length]
theorem applyW_len {k : List UInt8} {ws : List WrD} (hk : k.length ≤ 10000000) (hw : ∀ x ∈ ws, x.p + x.t.length ≤ 10000000) : ∀ i, (applyW k (ws.take i)).length ≤ 10000000
  | 0 => by rw [List.take_zero]; exact hk
  | i + 1 => by
    have h0 := applyW_len hk hw i
    cases hx : ws[i]? with
    | none =>
      have : ws.length ≤ i := List.getElem?_eq_none_iff.1 hx
      rw [List.take_of_length_le (by omega)] at h0 ⊢
      exact h0
    | some x =>
      rw [applyW_step hx, putL_length]
      have := hw x (List.mem_of_getElem? hx)
      split
      · exact h0
      · omega
end Go.Proofs.YtemdmdgigmhlbaaGreat
/- disk: all that is seen is kept. -/
set_option linter.unusedSimpArgs false
set_option linter.unusedVariables false
namespace Go.Proofs.YtemdmdgigmhlbaaGreat
open Go.RowKit Go.Qc Go.Shelf
attribute [local go_sem] txt_size txt_append ib_fold
theorem slice_hi_no (W : World) : (Instr.sliceAt 56 (.slice none 0 0) none (some (.int .i64 ((0 : Nat) : Int))) none).run Tryz.prog W = .ok (.slice none 0 0) W := by
  obtain ⟨i0, hi, _, h1, _⟩ := info_parts infoByte
  simp [Instr.sliceAt, Instr.slice, Instr.sliceBounds, run_underlying Tryz.underlying56, run_sliceBound, sizeOf, typeInfo, hi, h1]
theorem WrX.range {W : World} {g : Nat} {X : WrD} (h : Blk W g 72 X.cs) : W.rangeAt g 0 X.cs.toList := fun j v hj => by
  rw [Nat.zero_add]
  exact h.cell_ (by rw [← Array.getElem?_toList]; exact hj)
theorem pvd_meas2 {t k : Nat} (h : k < t) : t - ((k : Int) + 1).toNat < t - ((k : Int)).toNat := by omega
end Go.Proofs.YtemdmdgigmhlbaaGreat
/- disk: what a call on a disk leaves alone: every block that is no disk, no row of bytes and no row of writes. -/
set_option linter.unusedSimpArgs false
set_option linter.unusedVariables false
namespace Go.Proofs.YtemdmdgigmhlbaaGreat
open Go.RowKit Go.Qc Go.Shelf
attribute [local go_sem] txt_size txt_append ib_fold

/-- Blocks of other types are as they were. -/
def KpT (ts : List TypeId) (W w' : World) : Prop := ∀ (g : Nat) (cs : Array Value) (T : TypeId) (fz : Nat × Nat), W.heap[g]? = some (Obj.cells cs T fz) → T ∉ ts → w'.heap[g]? = some (Obj.cells cs T fz)
def dts : List TypeId := [5, 72, 60]
theorem KpT.refl (ts : List TypeId) (W : World) : KpT ts W W := fun _ _ _ _ h _ => h
theorem KpT.trans {ts : List TypeId} {a b c : World} (h : KpT ts a b) (k : KpT ts b c) : KpT ts a c := fun g cs T fz h0 h1 => k g cs T fz (h g cs T fz h0 h1) h1
theorem KpT.more {ts us : List TypeId} {a b : World} (h : KpT ts a b) (hs : ∀ T ∈ ts, T ∈ us) : KpT us a b := fun g cs T fz h0 h1 => h g cs T fz h0 (fun h => h1 (hs T h))
theorem KpT.ofB {ts : List TypeId} {a b : World} (h : Below a.heap.size a b) : KpT ts a b := fun g cs T fz h0 _ => by
  rw [h.block g (Array.getElem?_eq_some_iff.1 h0).1]; exact h0
theorem KpT.gr {ts : List TypeId} {a b : World} {r : Option Nat} (hg : a.grownBy b r) (hr : ∀ g, r = some g → ∃ (cs : Array Value) (T : TypeId) (fz : Nat × Nat), a.heap[g]? = some (Obj.cells cs T fz) ∧ T ∈ ts) : KpT ts a b := fun g cs T fz h0 h1 => by
  rw [hg.block g (Array.getElem?_eq_some_iff.1 h0).1 (fun e => by
    obtain ⟨cs', T', fz', h4, h5⟩ := hr g e.symm
    have h6 := Option.some.inj (h0.symm.trans h4)
    injection h6 with _ h7 _
    exact h1 (by rw [h7]; exact h5))]
  exact h0
theorem KpT.blk {ts : List TypeId} {a b : World} (h : KpT ts a b) {g : Nat} {T : TypeId} {cs : Array Value} (hb : Blk a g T cs) (h1 : T ∉ ts) : Blk b g T cs := h g cs T (0, 0) hb h1
theorem KpT.own {ts : List TypeId} {a b : World} (h : KpT ts a b) {base n size : Nat} {e : TypeId} {v : Value} {xs : List Value} (ho : a.ownsRow base e size v n xs) (h1 : e ∉ ts) : b.ownsRow base e size v n xs :=
  ⟨ho.1, ho.2.imp id fun ⟨g, cap, cur, e1, e2, e3, e4⟩ => ⟨g, cap, cur, e1, e2, h g cur e (0, 0) e3 h1, e4⟩⟩
/-- Below a block, and all blocks of other types. -/
def BlD (base : Nat) (W w' : World) : Prop := Below base W w' ∧ KpT dts W w'
theorem BlD.refl (base : Nat) (W : World) : BlD base W W := ⟨Below.refl base W, KpT.refl _ W⟩
theorem BlD.ofB {base : Nat} {a b : World} (h : Below a.heap.size a b) (hb : base ≤ a.heap.size) : BlD base a b := ⟨h.mono hb, KpT.ofB h⟩
theorem BlD.tr {base : Nat} {a b c : World} (h : BlD base a b) (k : BlD base b c) : BlD base a c := ⟨h.1.trans k.1, h.2.trans k.2⟩
theorem BlD.bel {base : Nat} {a b c : World} (h : BlD base a b) (k : Below b.heap.size b c) (hb : base ≤ b.heap.size) : BlD base a c := h.tr (BlD.ofB k hb)
theorem BlD.row {base : Nat} {a b c : World} {n size : Nat} {e : TypeId} {v : Value} {xs : List Value} (h : BlD base a b) (hg : b.grownBy c v.ownBlock) (ho : b.ownsRow base e size v n xs) (he : e ∈ dts) (hb : base ≤ b.heap.size) : BlD base a c :=
  h.tr ⟨below_of_gbr hg (fun g hg => (World.ownsRow.lt ho g hg).1) hb, KpT.gr hg (fun g hv => by
    rcases ho.2 with ⟨rfl, _⟩ | ⟨g2, cap, cur, rfl, _, h2, _⟩
    · cases hv
    · obtain rfl : g2 = g := Option.some.inj hv
      exact ⟨cur, e, (0, 0), h2, he⟩)⟩
theorem BlD.box {base D : Nat} {a b c : World} {cs : Array Value} (h : BlD base a b) (hg : b.grownBy c (some D)) (hx : Blk b D 60 cs) (hd : base ≤ D) (hb : base ≤ b.heap.size) : BlD base a c :=
  h.tr ⟨below_of_gbr hg (fun g e => by have := Option.some.inj e; omega) hb, KpT.gr hg (fun g e => by
    obtain rfl := Option.some.inj e
    exact ⟨cs, _, (0, 0), hx, by simp [dts]⟩)⟩
theorem by_cutD {W : World} {base n m c : Nat} {A : Option Addr} {l : List UInt8} (h : ByOw W base (.slice A n c) l) (hm : m ≤ l.length) : ByOw W base (.slice A m c) (l.take m) := by
  have hl : (l.take m).length = m := by rw [List.length_take]; omega
  refine ⟨by simp, ?_⟩
  rcases h.2 with ⟨e, h0⟩ | ⟨g, cap, cur, e, hb, hg, h3, h4, h5, ht⟩
  · injection e with e1 e2 e3
    left
    have : m = 0 := by omega
    subst this
    exact ⟨by rw [e1, e3], by rw [hl]⟩
  · injection e with e1 e2 e3
    right
    refine ⟨g, cap, cur, by rw [e1, e3, hl], hb, hg, by rw [hl]; omega, h4, h5, ?_⟩
    rw [hl, List.map_take, ← ht, List.take_take, Nat.mul_one, Nat.mul_one, Nat.min_eq_left (by omega)]
theorem own_block_sl (A : Option Addr) (n m c : Nat) : (Value.slice A m c).ownBlock = (Value.slice A n c).ownBlock := by cases A <;> rfl
theorem DkR.cutK {base n m c : Nat} {A : Option Addr} {sv wv : Value} {k s : List UInt8} {ws : List WrD} {W : World} (h : DkR base (.slice A n c) sv wv k s ws W) (hm : m ≤ k.length) : DkR base (.slice A m c) sv wv (k.take m) s ws W :=
  ⟨by_cutD h.k hm, h.s, h.q, by rw [own_block_sl A n m c]; exact h.ap, h.bs⟩
theorem DkR.cutS {base n m c : Nat} {A : Option Addr} {kv wv : Value} {k s : List UInt8} {ws : List WrD} {W : World} (h : DkR base kv (.slice A n c) wv k s ws W) (hm : m ≤ s.length) : DkR base kv (.slice A m c) wv k (s.take m) ws W :=
  ⟨h.k, by_cutD h.s hm, h.q, by rw [own_block_sl A n m c]; exact h.ap, h.bs⟩
theorem slice_hi_m (g n m c : Nat) (hm : m ≤ c) (W : World) : (Instr.sliceAt 56 (.slice (some ⟨g, 0, none⟩) n c) none (some (.int .i64 (m : Int))) none).run Tryz.prog W = .ok (.slice (some ⟨g, 0, none⟩) m c) W := by
  obtain ⟨i0, hi, _, h1, _⟩ := info_parts infoByte
  have h2 : (0 : Int) ≤ (m : Int) ∧ (m : Int) ≤ (c : Int) := by omega
  simp [Instr.sliceAt, Instr.slice, Instr.sliceBounds, run_underlying Tryz.underlying56, run_sliceBound, h2, sizeOf, typeInfo, hi, h1, Addr.add_lit, Int.toNat_natCast]
theorem ByOw.sl3 {W : World} {base : Nat} {v : Value} {l : List UInt8} (h : ByOw W base v l) (m : Nat) (hm : m ≤ l.length) : ∃ A c, v = .slice A l.length c ∧ ∀ V, (Instr.sliceAt 56 (.slice A l.length c) none (some (.int .i64 (m : Int))) none).run Tryz.prog V = .ok (.slice A m c) V := by
  rcases h.2 with ⟨rfl, h0⟩ | ⟨g, c, cur, rfl, _, _, hc, _⟩
  · refine ⟨none, 0, by rw [h0], fun V => ?_⟩
    obtain rfl : m = 0 := by omega
    rw [h0]
    exact slice_hi_no V
  · exact ⟨_, c, rfl, fun V => slice_hi_m g l.length m c (by omega) V⟩
end Go.Proofs.YtemdmdgigmhlbaaGreat

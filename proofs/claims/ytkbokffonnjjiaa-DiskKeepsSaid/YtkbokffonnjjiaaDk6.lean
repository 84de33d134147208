
/- disk: a text is written behind what is seen. -/
import Derived.Test.YtkbokffonnjjiaaDk5
import Derived.Shelf.Pu.Clone
set_option linter.unusedSimpArgs false
set_option linter.unusedVariables false
namespace Go.Proofs.Ytkbokffonnjjiaa
open Go.RowKit Go.Qc Go.Shelf
attribute [local go_sem] txt_size txt_append ib_fold
def laysD25_ren : Go.Shelf.Ren := ⟨fun | 25 => 128 | n => n, fun | 0 => 0 | 3 => 3 | 4 => 4 | 5 => 5 | 9 => 9 | 37 => 107 | 47 => 164 | n => n, fun | n => n⟩
theorem laysD25 : Go.Proofs.LaysPu.n25 Try.prog laysD25_ren := {
  mixed := by kernel_rfl
  f25 := Try.func128.trans (congrArg some (by kernel_rfl))
  t0 := Try.underlying0
  a0 := Try.isAgg0
  z0 := Try.sizeOf0
  v0 := Try.zeroValue0
  i0 := by kernel_rfl
  t3 := Try.underlying3
  a3 := Try.isAgg3
  z3 := Try.sizeOf3
  v3 := Try.zeroValue3
  i3 := by kernel_rfl
  t4 := Try.underlying4
  a4 := Try.isAgg4
  z4 := Try.sizeOf4
  v4 := Try.zeroValue4
  i4 := by kernel_rfl
  t5 := Try.underlying5
  a5 := Try.isAgg5
  z5 := Try.sizeOf5
  v5 := Try.zeroValue5
  i5 := by kernel_rfl
  t9 := Try.underlying9
  a9 := Try.isAgg9
  z9 := Try.sizeOf9
  v9 := Try.zeroValue9
  i9 := by kernel_rfl
  t37 := Try.underlying107
  a37 := Try.isAgg107
  z37 := Try.sizeOf107
  v37 := Try.zeroValue107
  i37 := by kernel_rfl
  t47 := Try.underlying164
  a47 := Try.isAgg164
  z47 := Try.sizeOf164
  v47 := Try.zeroValue164
  i47 := by kernel_rfl }
theorem dkClone_any (s : ByteArray) (hs : s.size ≤ 1000000000000) (w : World) :
    Calls Try.prog 111 #[.string s] w fun o w' => o = .returned (.string s) ∧ Below w.heap.size w w' := by
  have c : ∀ W : World, Calls Try.prog 128 #[.string s] W fun o w' => o = .returned (.string s) ∧ Below W.heap.size W w' := fun W => AnyPu.stringslite_Clone laysD25 s W (by omega)
  go_enter Try.func111, Try.ntmps111
  go_wp2_with (first
    | (go_at_call 128; (with_reducible refine (c _).mono ?_); rintro o1 w1 ⟨rfl, hB⟩))
  go_ret
  exact ⟨rfl, hB⟩

theorem run_cellD {P : Program} {w : World} {g i : Nat} {old : Array Value} {t ty : TypeId} {v : Value} (hg : Blk w g t old) (hi : (P.info? ty).map (·.size) = some 1) (hs : i + 1 ≤ old.size) (hv : v.cells = #[v]) (h1 : v.oneCell' = true) :
    (Instr.storeAt ty (.pointer (some ⟨g, i, none⟩)) v).run P w = .ok () (w.setRow g (over old i [v])) := by
  have hst := run_storeCells_at P g i t [v] 0 old w hg (by simpa using hs) (by intro u hu; simp at hu; rw [hu]; exact h1)
  simp only [Nat.add_zero] at hst
  cases hq : P.info? ty with
  | none => simp [hq] at hi
  | some j =>
    have hsz : j.size = 1 := by simpa [hq] using hi
    simp [Instr.storeAt, Instr.sureAddr, storeVar, sizeOf, typeInfo, hq, hv, hsz]
    rw [hst]; simp [over]
theorem wp_store_cellM' {P : Program} {w : World} {o : Oper} {a : Act} {K : Act → World → Prop} {Q : Exit → Act → World → Prop} (ty : TypeId) (x y : Operand) (ho : o.op = .store ty x y)
    (g i : Nat) (old : Array Value) (t : TypeId) (hg : Blk w g t old) (v : Value) (hx : a.eval x = .pointer (some ⟨g, i, none⟩)) (hy : a.eval y = v) (hi : (P.info? ty).map (·.size) = some 1) (hs : i + 1 ≤ old.size) (hv : v.cells = #[v]) (h1 : v.oneCell' = true)
    (h : ∀ w', Blk w' g t (over old i [v]) → w.grownBy w' (some g) → K (a.put o.dst undef) w') : o.wp P a w K Q := by
  obtain ⟨hb, hgr⟩ := blk_over hg (over old i [v])
  have hr := run_cellD (P := P) (ty := ty) hg hi hs hv h1
  unfold Oper.wp
  simp only [execOp, ho, hx, hy]
  simp only [Sem.run_bind, hr, Result.andThen, Sem.run_pure]
  exact h _ hb hgr
theorem infoSlB : (Try.prog.info? 107).map (·.size) = some 1 := by kernel_rfl
theorem infoSlW : (Try.prog.info? 108).map (·.size) = some 1 := by kernel_rfl
theorem wp_store_d0 {w : World} {o : Oper} {a : Act} {K : Act → World → Prop} {Q : Exit → Act → World → Prop} (x y : Operand) (ho : o.op = .store 107 x y)
    (D : Nat) (kv sv wv : Value) (dn : Bool) (hg : Blk w D 111 #[kv, sv, wv, .pointer none, .bool dn]) (A : Option Addr) (n c : Nat) (hx : a.eval x = .pointer (some ⟨D, 0, none⟩)) (hy : a.eval y = .slice A n c)
    (h : ∀ w', Blk w' D 111 #[.slice A n c, sv, wv, .pointer none, .bool dn] → w.grownBy w' (some D) → K (a.put o.dst undef) w') : o.wp Try.prog a w K Q :=
  wp_store_cellM' 107 x y ho D 0 _ _ hg (.slice A n c) hx hy infoSlB (by simp) rfl rfl fun w' hb hgr => h w' hb hgr
theorem wp_store_d1 {w : World} {o : Oper} {a : Act} {K : Act → World → Prop} {Q : Exit → Act → World → Prop} (x y : Operand) (ho : o.op = .store 107 x y)
    (D : Nat) (kv sv wv : Value) (dn : Bool) (hg : Blk w D 111 #[kv, sv, wv, .pointer none, .bool dn]) (A : Option Addr) (n c : Nat) (hx : a.eval x = .pointer (some ⟨D, 1, none⟩)) (hy : a.eval y = .slice A n c)
    (h : ∀ w', Blk w' D 111 #[kv, .slice A n c, wv, .pointer none, .bool dn] → w.grownBy w' (some D) → K (a.put o.dst undef) w') : o.wp Try.prog a w K Q :=
  wp_store_cellM' 107 x y ho D 1 _ _ hg (.slice A n c) hx hy infoSlB (by simp) rfl rfl fun w' hb hgr => h w' hb hgr
theorem wp_store_d2 {w : World} {o : Oper} {a : Act} {K : Act → World → Prop} {Q : Exit → Act → World → Prop} (x y : Operand) (ho : o.op = .store 108 x y)
    (D : Nat) (kv sv wv : Value) (dn : Bool) (hg : Blk w D 111 #[kv, sv, wv, .pointer none, .bool dn]) (A : Option Addr) (n c : Nat) (hx : a.eval x = .pointer (some ⟨D, 2, none⟩)) (hy : a.eval y = .slice A n c)
    (h : ∀ w', Blk w' D 111 #[kv, sv, .slice A n c, .pointer none, .bool dn] → w.grownBy w' (some D) → K (a.put o.dst undef) w') : o.wp Try.prog a w K Q :=
  wp_store_cellM' 108 x y ho D 2 _ _ hg (.slice A n c) hx hy infoSlW (by simp) rfl rfl fun w' hb hgr => h w' hb hgr
theorem wp_build1wj {w : World} {o : Oper} {a : Act} {K : Act → World → Prop} {Q : Exit → Act → World → Prop} (x : Operand) (ho : o.op = .buildSlice 108 1 #[(0, x)])
    (X : WrD) (hx : a.eval x = .agg X.cs)
    (h : ∀ g w', WrRd w' (some ⟨g, 0, none⟩) [X] → Below w.heap.size w w' → K (a.put o.dst (.slice (some ⟨g, 0, none⟩) 1 1)) w') :
    o.wp Try.prog a w K Q :=
  wp_build1wr x ho X rfl hx fun cs hr => h _ _ hr ((Below.refl _ _).alloc (Nat.le_refl _) _)
theorem wr_range {W : World} {g p : Nat} {t : List UInt8} (h : Blk W g 114 #[.int .i64 (p : Int), .string (txt t)]) : W.rangeAt g 0 (WrD.cs ⟨p, t⟩).toList := fun j v hj => by
  rw [Nat.zero_add]
  exact h.cell_ (by rw [← Array.getElem?_toList]; exact hj)
/-- A box of a write is no row of one's own. -/
theorem wr_keep {W W' : World} {base n g p : Nat} {v : Value} {Xs : List WrD} {t : List UInt8} (h : Blk W g 114 #[.int .i64 (p : Int), .string (txt t)]) (hq : WrOw W base v n Xs) (hg : W.grownBy W' v.ownBlock) (hlt : ∀ q, v.ownBlock = some q → q < g) : Blk W' g 114 #[.int .i64 (p : Int), .string (txt t)] :=
  (hg.block g h.lt (fun e => by have := hlt g e.symm; omega)).trans h
theorem wr_slice {W : World} {base n : Nat} {v : Value} {Xs : List WrD} (h : WrOw W base v n Xs) : ∃ A m c, v = .slice A m c := by
  rcases h.2 with ⟨rfl, _⟩ | ⟨g, c, cur, rfl, _⟩
  · exact ⟨_, _, _, rfl⟩
  · exact ⟨_, _, _, rfl⟩
set_option maxRecDepth 100000 in
set_option maxHeartbeats 16000000 in
theorem dwrite_nil (base D : Nat) (kv sv wv : Value) (k s : List UInt8) (ws : List WrD) (hs : s.length ≤ 2000000) (W : World) (h : DkS base D kv sv wv k s ws false W) :
    Calls Try.prog 73 #[.pointer (some ⟨D, 0, none⟩), .agg #[.int .i64 (s.length : Int), .string (txt [])]] W fun e w' => e = .returned (.int .i64 0) ∧ Below W.heap.size W w' := by
  have mixed : Try.prog.follows .mixedOrders = true := by kernel_rfl
  have hb1 := (Below.refl W.heap.size W).alloc (Nat.le_refl _) (.cells #[.int .i64 (s.length : Int), .string (txt [])] 114)
  have hx1 := Blk.new W 114 #[.int .i64 (s.length : Int), .string (txt [])]
  have hq : txt [] = ⟨#[]⟩ := rfl
  rw [hq] at hb1 hx1 ⊢
  have h1 := h.below hb1
  obtain ⟨A, c, rfl⟩ := h.r.s.sl
  have HSL := hid hs
  generalize s.length = p at *
  have z1 : ¬ (p : Int) < 0 := by omega
  have z2 : ¬ (p : Int) < (p : Int) := by omega
  have e1 : wrap64 (4194304 - (p : Int)) = 4194304 - (p : Int) := by unfold wrap64; omega
  have z3 : ¬ (4194304 - (p : Int)) < 0 := by omega
  clear h hs
  go_enter Try.func73, Try.ntmps73
  go_upto_region 1 with (fail)
  generalize W.alloc (.cells #[.int .i64 (p : Int), .string ⟨#[]⟩] 114) = w1 at *
  have f0 : ∀ q : LaterW w1, q.w.cell? ⟨W.heap.size, 0, none⟩ = some (.int .i64 (p : Int)) := fun q => (hx1.below q.h).cell_ rfl
  have f1 : ∀ q : LaterW w1, q.w.cell? ⟨D, 1, none⟩ = some (.slice A p c) := fun q => (h1.x.below q.h).cell_ rfl
  refine wp_region_later mixed (by kernel_rfl) ?_
  repeat (first
    | ((with_reducible refine wpQuiet_skip (by with_unfolding_all rfl) ?_); simp only [Act.put, List.setIfInBounds_toArray, List.set_cons_zero, List.set_cons_succ])
    | ((with_reducible refine wpQuiet_step (fun K hK => ?_)); go_simp; first | ((with_reducible refine hK _ ?_); clear hK K)))
  with_reducible refine wpQuiet_nil ?_
  intro _ hw'
  obtain ⟨p9, rfl⟩ := hw'
  have hp9 := p9.h
  generalize p9.w = w2 at *
  have g0 := (hx1.below hp9).cell_ (i := 0) rfl
  have g1 := (hx1.below hp9).cell_ (i := 1) rfl
  replace hb1 := hb1.trans (hp9.mono hb1.size)
  clear f0 f1 hp9 hx1 h1
  go_wp2_with (fail)
  go_ret
  exact ⟨rfl, hb1⟩
set_option maxRecDepth 100000 in
set_option maxHeartbeats 16000000 in
theorem dwrite_some (base D : Nat) (kv sv wv : Value) (k s : List UInt8) (ws : List WrD) (hs : s.length ≤ 2000000) (hws : ws.length + 1 ≤ 1000) (t : List UInt8) (ht : t ≠ []) (htl : t.length ≤ 1000) (W : World) (h : DkS base D kv sv wv k s ws false W) :
    Calls Try.prog 73 #[.pointer (some ⟨D, 0, none⟩), .agg #[.int .i64 (s.length : Int), .string (txt t)]] W fun e w' => e = .returned (.int .i64 0) ∧ ∃ sv' wv', DkS base D kv sv' wv' k (s ++ t) (ws ++ [⟨s.length, t⟩]) false w' ∧ Below base W w' := by
  have mixed : Try.prog.follows .mixedOrders = true := by kernel_rfl
  have hb1 := (Below.refl W.heap.size W).alloc (Nat.le_refl _) (.cells #[.int .i64 (s.length : Int), .string (txt t)] 114)
  have hx1 := Blk.new W 114 #[.int .i64 (s.length : Int), .string (txt t)]
  have h1 := h.below hb1
  have he := txt_someD ht
  have HB0 := hid (show Below base W (W.alloc (.cells #[.int .i64 (s.length : Int), .string (txt t)] 114)) from hb1.mono h.r.bs)
  have HBD := hid h.bd
  have HWL : Hid (∀ g, wv.ownBlock = some g → g < W.heap.size) := hid (fun g hg => (World.ownsRow.lt h.r.q g hg).2)
  obtain ⟨A, c, rfl⟩ := h.r.s.sl
  obtain ⟨p, hpp⟩ : ∃ p, s.length = p := ⟨_, rfl⟩
  have HP := hid hpp
  have HL := hid (show s.length ≤ 2000000 ∧ t.length ≤ 1000 ∧ ws.length + 1 ≤ 1000 from ⟨hs, htl, hws⟩)
  rw [hpp] at h1 hb1 hx1 HB0 hs ⊢
  have z1 : ¬ (p : Int) < 0 := by omega
  have z2 : ¬ (p : Int) < (p : Int) := by omega
  have e1 : wrap64 (4194304 - (p : Int)) = 4194304 - (p : Int) := by unfold wrap64; omega
  have z3 : ¬ (4194304 - (p : Int)) < (t.length : Int) := by omega
  clear h hs hpp ht htl hws
  go_enter Try.func73, Try.ntmps73
  go_upto_region 1 with (fail)
  generalize W.alloc (.cells #[.int .i64 (p : Int), .string (txt t)] 114) = w1 at *
  have f0 : ∀ q : LaterW w1, q.w.cell? ⟨W.heap.size, 0, none⟩ = some (.int .i64 (p : Int)) := fun q => (hx1.below q.h).cell_ rfl
  have f1 : ∀ q : LaterW w1, q.w.cell? ⟨D, 1, none⟩ = some (.slice A p c) := fun q => (h1.x.below q.h).cell_ rfl
  refine wp_region_later mixed (by kernel_rfl) ?_
  repeat (first
    | ((with_reducible refine wpQuiet_skip (by with_unfolding_all rfl) ?_); simp only [Act.put, List.setIfInBounds_toArray, List.set_cons_zero, List.set_cons_succ])
    | ((with_reducible refine wpQuiet_step (fun K hK => ?_)); go_simp; first | ((with_reducible refine hK _ ?_); clear hK K)))
  with_reducible refine wpQuiet_nil ?_
  intro _ hw'
  obtain ⟨p9, rfl⟩ := hw'
  have hp9 := p9.h
  generalize p9.w = w2 at *
  have g0 := (hx1.below hp9).cell_ (i := 0) rfl
  have g1 := (hx1.below hp9).cell_ (i := 1) rfl
  have hx2 := hx1.below hp9
  have HS := hid (h1.below hp9)
  have HB2 := hid (HB0.out.trans (hp9.mono (h1.r.bs)))
  clear f0 f1 hp9 hx1 h1 hb1
  obtain ⟨gB, hgB⟩ : ∃ g, W.heap.size = g := ⟨_, rfl⟩
  rw [hgB] at hx2 g0 g1 HWL
  simp only [hgB]
  clear hgB
  go_upto_region 7 with (fail)
  clear g0 g1 e1 z1 z2 z3 he
  replace hx2 := hx2.below (below_drew1 w2)
  replace HB2 := hid (HB2.out.trans ((below_drew1 w2).mono HS.out.r.bs))
  replace HS := hid (HS.out.below (below_drew1 w2))
  refine wp_region_held_drew (S := fun V => Blk V gB 114 #[.int .i64 (p : Int), .string (txt t)]) (by kernel_rfl) hx2 (fun hHeld => ?_)
  generalize w2.drew = w3 at *
  refine' wpAnyH_take (i := 0) (v := .pointer (some ⟨D, 0, none⟩)) rfl (by kernel_rfl) (by kernel_rfl) (by kernel_rfl) (fun _ _ _ h => h) (Or.inl ⟨by rfl, fun w' hw' => by go_simp⟩) hHeld ?_
  try simp only [Act.put, List.getElem_toArray, List.getElem_cons_succ, List.getElem_cons_zero, List.setIfInBounds_toArray, List.set_cons_zero, List.set_cons_succ]
  refine' wpAnyH_take (i := 1) (v := .pointer (some ⟨D, 0, none⟩)) rfl (by kernel_rfl) (by kernel_rfl) (by kernel_rfl) (fun _ _ _ h => h) (Or.inl ⟨by rfl, fun w' hw' => by go_simp⟩) hHeld ?_
  try simp only [Act.put, List.getElem_toArray, List.getElem_cons_succ, List.getElem_cons_zero, List.setIfInBounds_toArray, List.set_cons_zero, List.set_cons_succ]
  refine' wpAnyH_take (i := 2) (v := .pointer (some ⟨D, 0, none⟩)) rfl (by kernel_rfl) (by kernel_rfl) (by kernel_rfl) (fun _ _ _ h => h) (Or.inl ⟨by rfl, fun w' hw' => by go_simp⟩) hHeld ?_
  try simp only [Act.put, List.getElem_toArray, List.getElem_cons_succ, List.getElem_cons_zero, List.setIfInBounds_toArray, List.set_cons_zero, List.set_cons_succ]
  refine' wpAnyH_take (i := 3) (v := .pointer (some ⟨D, 1, none⟩)) rfl (by kernel_rfl) (by kernel_rfl) (by kernel_rfl) (fun _ _ _ h => h) (Or.inl ⟨by rfl, fun w' hw' => by go_simp⟩) hHeld ?_
  try simp only [Act.put, List.getElem_toArray, List.getElem_cons_succ, List.getElem_cons_zero, List.setIfInBounds_toArray, List.set_cons_zero, List.set_cons_succ]
  refine' wpAnyH_take (i := 5) (v := .agg #[.int .i64 (p : Int), .string (txt t)]) rfl (by kernel_rfl) (by kernel_rfl) (by kernel_rfl) (fun _ _ _ h => h) (yields_wr (by rfl) _ rfl gB 0 rfl ⟨p, t⟩ rfl (fun w' h => wr_range h)) hHeld ?_
  try simp only [Act.put, List.getElem_toArray, List.getElem_cons_succ, List.getElem_cons_zero, List.setIfInBounds_toArray, List.set_cons_zero, List.set_cons_succ]
  refine wpAnyH_ready (rs := [4]) (by kernel_rfl) (by simp) ?_
  refine AllReadyH.cons rfl (fun K hK => ?_) AllReadyH.nil
  have fA := HS.out.x.cell_ (i := 1) rfl
  go_simp
  refine hK.out _ _ hHeld (fun hHeld => ?_)
  clear hK K fA
  try simp only [Act.put, List.getElem_toArray, List.getElem_cons_succ, List.getElem_cons_zero, List.setIfInBounds_toArray, List.set_cons_zero, List.set_cons_succ]
  refine wpAnyH_ready (rs := [6]) (by kernel_rfl) (by simp) ?_
  refine AllReadyH.cons rfl (fun K hK => ?_) AllReadyH.nil
  go_simp
  (with_reducible refine (put_any base _ s p t (by have := HL.out; omega) (by have := HL.out; have := HP.out; omega) (by have := HL.out; omega) _ HS.out.r.s HS.out.r.bs).mono ?_)
  rintro e6 V6 ⟨v6, rfl, ho6, hg6, hv6⟩
  have hpe : putL s p t = s ++ t := by rw [← HP.out]; exact putL_end s t
  rw [hpe] at ho6
  have hx6 := HS.out.boxed (blk_off HS.out.x HS.out.r.s (by decide)) hg6
  have hr6 := HS.out.r.seen hg6 ho6 hv6
  have hB6 : Blk V6 gB 114 #[.int .i64 (p : Int), .string (txt t)] := (hg6.block gB hHeld.lt (blk_off hHeld HS.out.r.s (by decide))).trans hHeld
  replace HB2 := hid (HB2.out.trans (below_of_gbr hg6 (fun g hg => (World.ownsRow.lt HS.out.r.s g hg).1) HS.out.r.bs))
  obtain ⟨A6, c6, rfl⟩ := ho6.sl
  have HX6 := hid hx6
  have HR6 := hid hr6
  refine hK.out _ _ hB6 (fun hHeld => ?_)
  clear hK K hg6 hv6 ho6 hpe hx6 hr6 hB6
  try simp only [Act.put, List.getElem_toArray, List.getElem_cons_succ, List.getElem_cons_zero, List.setIfInBounds_toArray, List.set_cons_zero, List.set_cons_succ]
  refine' wpAnyH_take (i := 7) (v := .pointer (some ⟨D, 0, none⟩)) rfl (by kernel_rfl) (by kernel_rfl) (by kernel_rfl) (fun _ _ _ h => h) (Or.inl ⟨by rfl, fun w' hw' => by go_simp⟩) hHeld ?_
  try simp only [Act.put, List.getElem_toArray, List.getElem_cons_succ, List.getElem_cons_zero, List.setIfInBounds_toArray, List.set_cons_zero, List.set_cons_succ]
  refine' wpAnyH_take (i := 8) (v := .pointer (some ⟨D, 1, none⟩)) rfl (by kernel_rfl) (by kernel_rfl) (by kernel_rfl) (fun _ _ _ h => h) (Or.inl ⟨by rfl, fun w' hw' => by go_simp⟩) hHeld ?_
  try simp only [Act.put, List.getElem_toArray, List.getElem_cons_succ, List.getElem_cons_zero, List.setIfInBounds_toArray, List.set_cons_zero, List.set_cons_succ]
  refine wpAnyH_ready (rs := [9]) (by kernel_rfl) (by simp) ?_
  refine AllReadyH.cons rfl (fun K hK => ?_) AllReadyH.nil
  refine wp_store_d1 _ _ rfl D _ _ _ _ HX6.out A6 (s ++ t).length c6 rfl rfl ?_
  intro V9 hB9 hg9
  have hr9 := HR6.out.box HX6.out hg9
  have hB6 : Blk V9 gB 114 #[.int .i64 (p : Int), .string (txt t)] := blk_gb hHeld hg9 (by rintro rfl; have e := Option.some.inj (HX6.out.symm.trans hHeld); injection e with _ e2; exact absurd e2 (by decide))
  replace HB2 := hid (HB2.out.trans (below_of_gbr hg9 (fun g hg => by have := Option.some.inj hg; have := HBD.out; omega) HR6.out.bs))
  have HS2 : Hid (DkS base D kv (.slice A6 (s ++ t).length c6) wv k (s ++ t) ws false V9) := hid ⟨hB9, hr9, HBD.out⟩
  refine hK.out _ _ hB6 (fun hHeld => ?_)
  clear hK K hg9 hr9 hB6 hB9 HX6 HR6 HS
  try simp only [Act.put, List.getElem_toArray, List.getElem_cons_succ, List.getElem_cons_zero, List.setIfInBounds_toArray, List.set_cons_zero, List.set_cons_succ]
  have hx9 := hHeld
  refine wpAnyH_done (by kernel_rfl) ?_ _
  go_upto_region 8 with (fail)
  replace hx9 := hx9.below (below_drew1 _)
  replace HB2 := hid (HB2.out.trans ((below_drew1 _).mono HS2.out.r.bs))
  replace HS2 := hid (HS2.out.below (below_drew1 _))
  clear hHeld
  refine wp_region_held_drew (S := fun V => Blk V gB 114 #[.int .i64 (p : Int), .string (txt t)]) (by kernel_rfl) hx9 (fun hHeld => ?_)
  clear hx9
  generalize World.drew _ = V5 at *
  refine' wpAnyH_take (i := 0) (v := .pointer (some ⟨D, 0, none⟩)) rfl (by kernel_rfl) (by kernel_rfl) (by kernel_rfl) (fun _ _ _ h => h) (Or.inl ⟨by rfl, fun w' hw' => by go_simp⟩) hHeld ?_
  try simp only [Act.put, List.getElem_toArray, List.getElem_cons_succ, List.getElem_cons_zero, List.setIfInBounds_toArray, List.set_cons_zero, List.set_cons_succ]
  refine' wpAnyH_take (i := 1) (v := .pointer (some ⟨D, 0, none⟩)) rfl (by kernel_rfl) (by kernel_rfl) (by kernel_rfl) (fun _ _ _ h => h) (Or.inl ⟨by rfl, fun w' hw' => by go_simp⟩) hHeld ?_
  try simp only [Act.put, List.getElem_toArray, List.getElem_cons_succ, List.getElem_cons_zero, List.setIfInBounds_toArray, List.set_cons_zero, List.set_cons_succ]
  refine' wpAnyH_take (i := 2) (v := .pointer (some ⟨D, 0, none⟩)) rfl (by kernel_rfl) (by kernel_rfl) (by kernel_rfl) (fun _ _ _ h => h) (Or.inl ⟨by rfl, fun w' hw' => by go_simp⟩) hHeld ?_
  try simp only [Act.put, List.getElem_toArray, List.getElem_cons_succ, List.getElem_cons_zero, List.setIfInBounds_toArray, List.set_cons_zero, List.set_cons_succ]
  refine' wpAnyH_take (i := 3) (v := .pointer (some ⟨D, 2, none⟩)) rfl (by kernel_rfl) (by kernel_rfl) (by kernel_rfl) (fun _ _ _ h => h) (Or.inl ⟨by rfl, fun w' hw' => by go_simp⟩) hHeld ?_
  try simp only [Act.put, List.getElem_toArray, List.getElem_cons_succ, List.getElem_cons_zero, List.setIfInBounds_toArray, List.set_cons_zero, List.set_cons_succ]
  refine' wpAnyH_take (i := 5) (v := .pointer (some ⟨gB, 0, none⟩)) rfl (by kernel_rfl) (by kernel_rfl) (by kernel_rfl) (fun _ _ _ h => h) (Or.inl ⟨by rfl, fun w' hw' => by go_simp⟩) hHeld ?_
  try simp only [Act.put, List.getElem_toArray, List.getElem_cons_succ, List.getElem_cons_zero, List.setIfInBounds_toArray, List.set_cons_zero, List.set_cons_succ]
  refine' wpAnyH_take (i := 6) (v := .int .i64 (p : Int)) rfl (by kernel_rfl) (by kernel_rfl) (by kernel_rfl) (fun _ _ _ h => h) (Or.inl ⟨by rfl, fun w' hw' => by have hv := hw'.cell_ (i := 0) rfl; go_simp⟩) hHeld ?_
  try simp only [Act.put, List.getElem_toArray, List.getElem_cons_succ, List.getElem_cons_zero, List.setIfInBounds_toArray, List.set_cons_zero, List.set_cons_succ]
  refine' wpAnyH_take (i := 7) (v := .pointer (some ⟨gB, 1, none⟩)) rfl (by kernel_rfl) (by kernel_rfl) (by kernel_rfl) (fun _ _ _ h => h) (Or.inl ⟨by rfl, fun w' hw' => by go_simp⟩) hHeld ?_
  try simp only [Act.put, List.getElem_toArray, List.getElem_cons_succ, List.getElem_cons_zero, List.setIfInBounds_toArray, List.set_cons_zero, List.set_cons_succ]
  refine' wpAnyH_take (i := 8) (v := .string (txt t)) rfl (by kernel_rfl) (by kernel_rfl) (by kernel_rfl) (fun _ _ _ h => h) (Or.inl ⟨by rfl, fun w' hw' => by have hv := hw'.cell_ (i := 1) rfl; go_simp⟩) hHeld ?_
  try simp only [Act.put, List.getElem_toArray, List.getElem_cons_succ, List.getElem_cons_zero, List.setIfInBounds_toArray, List.set_cons_zero, List.set_cons_succ]
  refine wpAnyH_ready (rs := [4, 9]) (by kernel_rfl) (by simp) ?_
  refine AllReadyH.cons rfl (fun K hK => ?_) (AllReadyH.cons rfl (fun K hK => ?_) AllReadyH.nil)
  · as_aux_lemma =>
      have fA := HS2.out.x.cell_ (i := 2) rfl
      go_simp
      refine hK.out _ _ hHeld (fun hHeld => ?_)
      clear hK K fA
      try simp only [Act.put, List.getElem_toArray, List.getElem_cons_succ, List.getElem_cons_zero, List.setIfInBounds_toArray, List.set_cons_zero, List.set_cons_succ]
      refine wpAnyH_ready (rs := [9]) (by kernel_rfl) (by simp) ?_
      refine AllReadyH.cons rfl (fun K hK => ?_) AllReadyH.nil
      go_simp
      (with_reducible refine (dkClone_any (txt t) (by rw [txt_size]; have := HL.out; omega) _).mono ?_)
      rintro e9 V10 ⟨rfl, hb9⟩
      replace HB2 := hid (HB2.out.trans (hb9.mono HS2.out.r.bs))
      replace HS2 := hid (HS2.out.below hb9)
      refine hK.out _ _ (hHeld.below hb9) (fun hHeld => ?_)
      clear hK K hb9
      try simp only [Act.put, List.getElem_toArray, List.getElem_cons_succ, List.getElem_cons_zero, List.setIfInBounds_toArray, List.set_cons_zero, List.set_cons_succ]
      refine' wpAnyH_take (i := 10) (v := .agg (WrD.cs ⟨p, t⟩)) rfl (by kernel_rfl) (by kernel_rfl) (by kernel_rfl) (fun _ _ _ h => h) (Or.inl ⟨by rfl, fun w' hw' => by go_simp; rfl⟩) hHeld ?_
      try simp only [Act.put, List.getElem_toArray, List.getElem_cons_succ, List.getElem_cons_zero, List.setIfInBounds_toArray, List.set_cons_zero, List.set_cons_succ]
      refine wpAnyH_ready (rs := [11]) (by kernel_rfl) (by simp) ?_
      refine AllReadyH.cons rfl (fun K hK => ?_) AllReadyH.nil
      refine wp_build1wj _ rfl ⟨p, t⟩ rfl ?_
      intro gr V11 hrow hb9
      replace HB2 := hid (HB2.out.trans (hb9.mono HS2.out.r.bs))
      replace HS2 := hid (HS2.out.below hb9)
      refine hK.out _ _ (hHeld.below hb9) (fun hHeld => ?_)
      clear hK K hb9
      try simp only [Act.put, List.getElem_toArray, List.getElem_cons_succ, List.getElem_cons_zero, List.setIfInBounds_toArray, List.set_cons_zero, List.set_cons_succ]
      refine wpAnyH_ready (rs := [12]) (by kernel_rfl) (by simp) ?_
      refine AllReadyH.cons rfl (fun K hK => ?_) AllReadyH.nil
      refine wp_append_wr _ _ rfl base _ ws.length ws rfl HS2.out.r.q _ 1 1 [_] rfl rfl (fun h => by cases h) hrow (by have := HL.out; omega) HS2.out.r.bs ?_
      intro v12 V12 ho12 hg12
      have hx12 := HS2.out.boxed (blk_off HS2.out.x HS2.out.r.q (by decide)) hg12
      have hr12 := HS2.out.r.waits (ws' := ws ++ [⟨p, t⟩]) hg12 (by rw [List.length_append]; exact ho12)
      have hB6 := wr_keep hHeld HS2.out.r.q hg12 HWL.out
      replace HB2 := hid (HB2.out.trans (below_of_gbr hg12 (fun g hg => (World.ownsRow.lt HS2.out.r.q g hg).1) HS2.out.r.bs))
      obtain ⟨A12, n12, c12, hv12⟩ := wr_slice ho12
      subst hv12
      have HX12 := hid hx12
      have HR12 := hid hr12
      refine hK.out _ _ hB6 (fun hHeld => ?_)
      clear hK K hg12 hx12 hr12 hB6 ho12 hrow
      try simp only [Act.put, List.getElem_toArray, List.getElem_cons_succ, List.getElem_cons_zero, List.setIfInBounds_toArray, List.set_cons_zero, List.set_cons_succ]
      refine' wpAnyH_take (i := 13) (v := .pointer (some ⟨D, 0, none⟩)) rfl (by kernel_rfl) (by kernel_rfl) (by kernel_rfl) (fun _ _ _ h => h) (Or.inl ⟨by rfl, fun w' hw' => by go_simp⟩) hHeld ?_
      try simp only [Act.put, List.getElem_toArray, List.getElem_cons_succ, List.getElem_cons_zero, List.setIfInBounds_toArray, List.set_cons_zero, List.set_cons_succ]
      refine' wpAnyH_take (i := 14) (v := .pointer (some ⟨D, 2, none⟩)) rfl (by kernel_rfl) (by kernel_rfl) (by kernel_rfl) (fun _ _ _ h => h) (Or.inl ⟨by rfl, fun w' hw' => by go_simp⟩) hHeld ?_
      try simp only [Act.put, List.getElem_toArray, List.getElem_cons_succ, List.getElem_cons_zero, List.setIfInBounds_toArray, List.set_cons_zero, List.set_cons_succ]
      refine wpAnyH_ready (rs := [15]) (by kernel_rfl) (by simp) ?_
      refine AllReadyH.cons rfl (fun K hK => ?_) AllReadyH.nil
      refine wp_store_d2 _ _ rfl D _ _ _ _ HX12.out A12 n12 c12 rfl rfl ?_
      intro V15 hB15 hg15
      have hr15 := HR12.out.box HX12.out hg15
      have hB6 : Blk V15 gB 114 #[.int .i64 (p : Int), .string (txt t)] := blk_gb hHeld hg15 (by rintro rfl; have e := Option.some.inj (HX12.out.symm.trans hHeld); injection e with _ e2; exact absurd e2 (by decide))
      replace HB2 := hid (HB2.out.trans (below_of_gbr hg15 (fun g hg => by have := Option.some.inj hg; have := HBD.out; omega) HR12.out.bs))
      have HS3 := hid (DkS.mk (dn := false) hB15 hr15 HBD.out)
      refine hK.out _ _ hB6 (fun hHeld => ?_)
      clear hK K hg15 hr15 hB6 hB15 HX12 HR12 HS2
      try simp only [Act.put, List.getElem_toArray, List.getElem_cons_succ, List.getElem_cons_zero, List.setIfInBounds_toArray, List.set_cons_zero, List.set_cons_succ]
      refine wpAnyH_done (by kernel_rfl) ?_ _
      clear hHeld
      have cB := dburn_any _ _ _ _ _ _ _ _ _ _ HS3.out
      go_wp2_with (go_at_call 112; (with_reducible refine cB.mono ?_); rintro e20 w20 ⟨rfl, rfl⟩)
      go_ret
      exact ⟨rfl, _, _, HS3.out, HB2.out⟩
  · as_aux_lemma =>
      go_simp
      (with_reducible refine (dkClone_any (txt t) (by rw [txt_size]; have := HL.out; omega) _).mono ?_)
      rintro e9 V10 ⟨rfl, hb9⟩
      replace HB2 := hid (HB2.out.trans (hb9.mono HS2.out.r.bs))
      replace HS2 := hid (HS2.out.below hb9)
      refine hK.out _ _ (hHeld.below hb9) (fun hHeld => ?_)
      clear hK K hb9
      try simp only [Act.put, List.getElem_toArray, List.getElem_cons_succ, List.getElem_cons_zero, List.setIfInBounds_toArray, List.set_cons_zero, List.set_cons_succ]
      refine' wpAnyH_take (i := 10) (v := .agg (WrD.cs ⟨p, t⟩)) rfl (by kernel_rfl) (by kernel_rfl) (by kernel_rfl) (fun _ _ _ h => h) (Or.inl ⟨by rfl, fun w' hw' => by go_simp; rfl⟩) hHeld ?_
      try simp only [Act.put, List.getElem_toArray, List.getElem_cons_succ, List.getElem_cons_zero, List.setIfInBounds_toArray, List.set_cons_zero, List.set_cons_succ]
      refine wpAnyH_ready (rs := [4, 11]) (by kernel_rfl) (by simp) ?_
      refine AllReadyH.cons rfl (fun K hK => ?_) (AllReadyH.cons rfl (fun K hK => ?_) AllReadyH.nil)
      · as_aux_lemma =>
          have fA := HS2.out.x.cell_ (i := 2) rfl
          go_simp
          refine hK.out _ _ hHeld (fun hHeld => ?_)
          clear hK K fA
          try simp only [Act.put, List.getElem_toArray, List.getElem_cons_succ, List.getElem_cons_zero, List.setIfInBounds_toArray, List.set_cons_zero, List.set_cons_succ]
          refine wpAnyH_ready (rs := [11]) (by kernel_rfl) (by simp) ?_
          refine AllReadyH.cons rfl (fun K hK => ?_) AllReadyH.nil
          refine wp_build1wj _ rfl ⟨p, t⟩ rfl ?_
          intro gr V11 hrow hb9
          replace HB2 := hid (HB2.out.trans (hb9.mono HS2.out.r.bs))
          replace HS2 := hid (HS2.out.below hb9)
          refine hK.out _ _ (hHeld.below hb9) (fun hHeld => ?_)
          clear hK K hb9
          try simp only [Act.put, List.getElem_toArray, List.getElem_cons_succ, List.getElem_cons_zero, List.setIfInBounds_toArray, List.set_cons_zero, List.set_cons_succ]
          refine wpAnyH_ready (rs := [12]) (by kernel_rfl) (by simp) ?_
          refine AllReadyH.cons rfl (fun K hK => ?_) AllReadyH.nil
          refine wp_append_wr _ _ rfl base _ ws.length ws rfl HS2.out.r.q _ 1 1 [_] rfl rfl (fun h => by cases h) hrow (by have := HL.out; omega) HS2.out.r.bs ?_
          intro v12 V12 ho12 hg12
          have hx12 := HS2.out.boxed (blk_off HS2.out.x HS2.out.r.q (by decide)) hg12
          have hr12 := HS2.out.r.waits (ws' := ws ++ [⟨p, t⟩]) hg12 (by rw [List.length_append]; exact ho12)
          have hB6 := wr_keep hHeld HS2.out.r.q hg12 HWL.out
          replace HB2 := hid (HB2.out.trans (below_of_gbr hg12 (fun g hg => (World.ownsRow.lt HS2.out.r.q g hg).1) HS2.out.r.bs))
          obtain ⟨A12, n12, c12, hv12⟩ := wr_slice ho12
          subst hv12
          have HX12 := hid hx12
          have HR12 := hid hr12
          refine hK.out _ _ hB6 (fun hHeld => ?_)
          clear hK K hg12 hx12 hr12 hB6 ho12 hrow
          try simp only [Act.put, List.getElem_toArray, List.getElem_cons_succ, List.getElem_cons_zero, List.setIfInBounds_toArray, List.set_cons_zero, List.set_cons_succ]
          refine' wpAnyH_take (i := 13) (v := .pointer (some ⟨D, 0, none⟩)) rfl (by kernel_rfl) (by kernel_rfl) (by kernel_rfl) (fun _ _ _ h => h) (Or.inl ⟨by rfl, fun w' hw' => by go_simp⟩) hHeld ?_
          try simp only [Act.put, List.getElem_toArray, List.getElem_cons_succ, List.getElem_cons_zero, List.setIfInBounds_toArray, List.set_cons_zero, List.set_cons_succ]
          refine' wpAnyH_take (i := 14) (v := .pointer (some ⟨D, 2, none⟩)) rfl (by kernel_rfl) (by kernel_rfl) (by kernel_rfl) (fun _ _ _ h => h) (Or.inl ⟨by rfl, fun w' hw' => by go_simp⟩) hHeld ?_
          try simp only [Act.put, List.getElem_toArray, List.getElem_cons_succ, List.getElem_cons_zero, List.setIfInBounds_toArray, List.set_cons_zero, List.set_cons_succ]
          refine wpAnyH_ready (rs := [15]) (by kernel_rfl) (by simp) ?_
          refine AllReadyH.cons rfl (fun K hK => ?_) AllReadyH.nil
          refine wp_store_d2 _ _ rfl D _ _ _ _ HX12.out A12 n12 c12 rfl rfl ?_
          intro V15 hB15 hg15
          have hr15 := HR12.out.box HX12.out hg15
          have hB6 : Blk V15 gB 114 #[.int .i64 (p : Int), .string (txt t)] := blk_gb hHeld hg15 (by rintro rfl; have e := Option.some.inj (HX12.out.symm.trans hHeld); injection e with _ e2; exact absurd e2 (by decide))
          replace HB2 := hid (HB2.out.trans (below_of_gbr hg15 (fun g hg => by have := Option.some.inj hg; have := HBD.out; omega) HR12.out.bs))
          have HS3 := hid (DkS.mk (dn := false) hB15 hr15 HBD.out)
          refine hK.out _ _ hB6 (fun hHeld => ?_)
          clear hK K hg15 hr15 hB6 hB15 HX12 HR12 HS2
          try simp only [Act.put, List.getElem_toArray, List.getElem_cons_succ, List.getElem_cons_zero, List.setIfInBounds_toArray, List.set_cons_zero, List.set_cons_succ]
          refine wpAnyH_done (by kernel_rfl) ?_ _
          clear hHeld
          have cB := dburn_any _ _ _ _ _ _ _ _ _ _ HS3.out
          go_wp2_with (go_at_call 112; (with_reducible refine cB.mono ?_); rintro e20 w20 ⟨rfl, rfl⟩)
          go_ret
          exact ⟨rfl, _, _, HS3.out, HB2.out⟩
      · as_aux_lemma =>
          refine wp_build1wj _ rfl ⟨p, t⟩ rfl ?_
          intro gr V11 hrow hb9
          replace HB2 := hid (HB2.out.trans (hb9.mono HS2.out.r.bs))
          replace HS2 := hid (HS2.out.below hb9)
          refine hK.out _ _ (hHeld.below hb9) (fun hHeld => ?_)
          clear hK K hb9
          try simp only [Act.put, List.getElem_toArray, List.getElem_cons_succ, List.getElem_cons_zero, List.setIfInBounds_toArray, List.set_cons_zero, List.set_cons_succ]
          refine wpAnyH_ready (rs := [4]) (by kernel_rfl) (by simp) ?_
          refine AllReadyH.cons rfl (fun K hK => ?_) AllReadyH.nil
          have fA := HS2.out.x.cell_ (i := 2) rfl
          go_simp
          refine hK.out _ _ hHeld (fun hHeld => ?_)
          clear hK K fA
          try simp only [Act.put, List.getElem_toArray, List.getElem_cons_succ, List.getElem_cons_zero, List.setIfInBounds_toArray, List.set_cons_zero, List.set_cons_succ]
          refine wpAnyH_ready (rs := [12]) (by kernel_rfl) (by simp) ?_
          refine AllReadyH.cons rfl (fun K hK => ?_) AllReadyH.nil
          refine wp_append_wr _ _ rfl base _ ws.length ws rfl HS2.out.r.q _ 1 1 [_] rfl rfl (fun h => by cases h) hrow (by have := HL.out; omega) HS2.out.r.bs ?_
          intro v12 V12 ho12 hg12
          have hx12 := HS2.out.boxed (blk_off HS2.out.x HS2.out.r.q (by decide)) hg12
          have hr12 := HS2.out.r.waits (ws' := ws ++ [⟨p, t⟩]) hg12 (by rw [List.length_append]; exact ho12)
          have hB6 := wr_keep hHeld HS2.out.r.q hg12 HWL.out
          replace HB2 := hid (HB2.out.trans (below_of_gbr hg12 (fun g hg => (World.ownsRow.lt HS2.out.r.q g hg).1) HS2.out.r.bs))
          obtain ⟨A12, n12, c12, hv12⟩ := wr_slice ho12
          subst hv12
          have HX12 := hid hx12
          have HR12 := hid hr12
          refine hK.out _ _ hB6 (fun hHeld => ?_)
          clear hK K hg12 hx12 hr12 hB6 ho12 hrow
          try simp only [Act.put, List.getElem_toArray, List.getElem_cons_succ, List.getElem_cons_zero, List.setIfInBounds_toArray, List.set_cons_zero, List.set_cons_succ]
          refine' wpAnyH_take (i := 13) (v := .pointer (some ⟨D, 0, none⟩)) rfl (by kernel_rfl) (by kernel_rfl) (by kernel_rfl) (fun _ _ _ h => h) (Or.inl ⟨by rfl, fun w' hw' => by go_simp⟩) hHeld ?_
          try simp only [Act.put, List.getElem_toArray, List.getElem_cons_succ, List.getElem_cons_zero, List.setIfInBounds_toArray, List.set_cons_zero, List.set_cons_succ]
          refine' wpAnyH_take (i := 14) (v := .pointer (some ⟨D, 2, none⟩)) rfl (by kernel_rfl) (by kernel_rfl) (by kernel_rfl) (fun _ _ _ h => h) (Or.inl ⟨by rfl, fun w' hw' => by go_simp⟩) hHeld ?_
          try simp only [Act.put, List.getElem_toArray, List.getElem_cons_succ, List.getElem_cons_zero, List.setIfInBounds_toArray, List.set_cons_zero, List.set_cons_succ]
          refine wpAnyH_ready (rs := [15]) (by kernel_rfl) (by simp) ?_
          refine AllReadyH.cons rfl (fun K hK => ?_) AllReadyH.nil
          refine wp_store_d2 _ _ rfl D _ _ _ _ HX12.out A12 n12 c12 rfl rfl ?_
          intro V15 hB15 hg15
          have hr15 := HR12.out.box HX12.out hg15
          have hB6 : Blk V15 gB 114 #[.int .i64 (p : Int), .string (txt t)] := blk_gb hHeld hg15 (by rintro rfl; have e := Option.some.inj (HX12.out.symm.trans hHeld); injection e with _ e2; exact absurd e2 (by decide))
          replace HB2 := hid (HB2.out.trans (below_of_gbr hg15 (fun g hg => by have := Option.some.inj hg; have := HBD.out; omega) HR12.out.bs))
          have HS3 := hid (DkS.mk (dn := false) hB15 hr15 HBD.out)
          refine hK.out _ _ hB6 (fun hHeld => ?_)
          clear hK K hg15 hr15 hB6 hB15 HX12 HR12 HS2
          try simp only [Act.put, List.getElem_toArray, List.getElem_cons_succ, List.getElem_cons_zero, List.setIfInBounds_toArray, List.set_cons_zero, List.set_cons_succ]
          refine wpAnyH_done (by kernel_rfl) ?_ _
          clear hHeld
          have cB := dburn_any _ _ _ _ _ _ _ _ _ _ HS3.out
          go_wp2_with (go_at_call 112; (with_reducible refine cB.mono ?_); rintro e20 w20 ⟨rfl, rfl⟩)
          go_ret
          exact ⟨rfl, _, _, HS3.out, HB2.out⟩
end Go.Proofs.Ytkbokffonnjjiaa

/- grant's document: tables as values, loaded and stored; one walk of hold. -/
import Derived.Test.YtapgiagpjplpdaaGreatRk6
import Derived.Deep.DeepCutAuto
set_option linter.unusedSimpArgs false
set_option linter.unusedVariables false
namespace Go.Proofs.YtapgiagpjplpdaaGreat
open Go.RowKit Go.Qc Go.Shelf
attribute [local go_sem] txt_size txt_append ib_fold txt_toL

theorem tbC_size (root : List UInt8) (hR : root.length = 32) (v : Value) : (tbC root v).size = 33 := by
  unfold tbC; rw [Array.size_append, idVals_size, hR]; rfl
theorem infoTbN : (Tryz.prog.info? 31).map (·.size) = some 33 := by kernel_rfl
theorem infoTb (root : List UInt8) (hR : root.length = 32) (v : Value) : (Tryz.prog.info? 31).map (·.size) = some (tbC root v).size := by rw [tbC_size root hR]; exact infoTbN
theorem infoRkS : (Tryz.prog.info? 29).map (·.size) = some 1 := by kernel_rfl
theorem tbC_one (root : List UInt8) (v : Value) (hv : v.oneCell' = true) : (tbC root v).all (·.oneCell') = true := by
  unfold tbC
  rw [Array.all_append, idVals_one]
  simp [hv]
theorem tbC_over (root : List UInt8) (hR : root.length = 32) (u v : Value) : over (tbC root u) 32 [v] = tbC root v := by
  apply Array.ext_getElem?
  intro j
  have h1 := tbC_size root hR u
  rw [over_get (tbC root u) 32 [v] (by simp [h1])]
  unfold tbC
  by_cases h : j < 32
  · rw [if_pos h, Array.getElem?_append_left (by rw [idVals_size, hR]; exact h), Array.getElem?_append_left (by rw [idVals_size, hR]; exact h)]
  · rw [if_neg h]
    by_cases h2 : j = 32
    · subst h2
      rw [if_pos (by simp), Array.getElem?_append_right (by rw [idVals_size, hR]; omega), idVals_size, hR]
      rfl
    · rw [if_neg (by simp; omega), Array.getElem?_eq_none (by rw [Array.size_append, idVals_size, hR]; simp; omega), Array.getElem?_eq_none (by rw [Array.size_append, idVals_size, hR]; simp; omega)]
theorem TbK.all {W : World} {g : Nat} {root : List UInt8} {v : Value} (h : TbK W g root v) : W.rangeAt g 0 (tbC root v).toList := fun j u hj => by
  rw [Nat.zero_add]; exact h.b.cell_ (by rw [← Array.getElem?_toList]; exact hj)
theorem build_tbk (root : List UInt8) (hR : root.length = 32) (W : World) : (Instr.build 31 #[(0, .agg (List.map u8v root).toArray)]).run Tryz.prog W = .ok (.agg (tbC root (.slice none 0 0))) W := by
  obtain ⟨x0, x1, x2, x3, x4, x5, x6, x7, x8, x9, x10, x11, x12, x13, x14, x15, x16, x17, x18, x19, x20, x21, x22, x23, x24, x25, x26, x27, x28, x29, x30, x31, rfl⟩ := list32g root hR
  kernel_rfl
theorem run_cellK {P : Program} {w : World} {g i : Nat} {old : Array Value} {t ty : TypeId} {v : Value} (hg : Blk w g t old) (hi : (P.info? ty).map (·.size) = some 1) (hs : i + 1 ≤ old.size) (hv : v.cells = #[v]) (h1 : v.oneCell' = true) :
    (Instr.storeAt ty (.pointer (some ⟨g, i, none⟩)) v).run P w = .ok () (w.setRow g (over old i [v])) := by
  have hst := run_storeCells_at P g i t [v] 0 old w hg (by simpa using hs) (by intro u hu; simp at hu; rw [hu]; exact h1)
  simp only [Nat.add_zero] at hst
  cases hq : P.info? ty with
  | none => simp [hq] at hi
  | some j =>
    have hsz : j.size = 1 := by simpa [hq] using hi
    simp [Instr.storeAt, Instr.sureAddr, storeVar, sizeOf, typeInfo, hq, hv, hsz]
    rw [hst]; simp [over]
theorem wp_store_cellK {P : Program} {w : World} {o : Oper} {a : Act} {K : Act → World → Prop} {Q : Exit → Act → World → Prop} (ty : TypeId) (x y : Operand) (ho : o.op = .store ty x y)
    (g i : Nat) (old : Array Value) (t : TypeId) (hg : Blk w g t old) (v : Value) (hx : a.eval x = .pointer (some ⟨g, i, none⟩)) (hy : a.eval y = v) (hi : (P.info? ty).map (·.size) = some 1) (hs : i + 1 ≤ old.size) (hv : v.cells = #[v]) (h1 : v.oneCell' = true)
    (h : ∀ w', Blk w' g t (over old i [v]) → w.grownBy w' (some g) → K (a.put o.dst undef) w') : o.wp P a w K Q := by
  obtain ⟨hb, hgr⟩ := blk_over hg (over old i [v])
  have hr := run_cellK (P := P) (ty := ty) hg hi hs hv h1
  unfold Oper.wp
  simp only [execOp, ho, hx, hy]
  simp only [Sem.run_bind, hr, Result.andThen, Sem.run_pure]
  exact h _ hb hgr
theorem wp_store_tbrow {w : World} {o : Oper} {a : Act} {K : Act → World → Prop} {Q : Exit → Act → World → Prop} (x y : Operand) (ho : o.op = .store 29 x y)
    (g : Nat) (root : List UInt8) (hR : root.length = 32) (u : Value) (hg : TbK w g root u) (A : Option Addr) (n c : Nat) (hx : a.eval x = .pointer (some ⟨g, 32, none⟩)) (hy : a.eval y = .slice A n c)
    (h : ∀ w', TbK w' g root (.slice A n c) → w.grownBy w' (some g) → K (a.put o.dst undef) w') : o.wp Tryz.prog a w K Q :=
  wp_store_cellK 29 x y ho g 32 _ _ hg.b (.slice A n c) hx hy infoRkS (by rw [tbC_size root hR]; omega) rfl rfl fun w' hb hgr => h w' ⟨by rw [tbC_over root hR] at hb; exact hb⟩ hgr
theorem wpList_load_tb {w : World} {ops : Array Oper} {rest : List Oper} {o : Oper} {a : Act} {Q : Exit → Act → World → Prop} (hgd : Region.wanted o (yielded ops a.tmps) = true) (x : Operand) (ho : o.op = .load 31 x)
    (g : Nat) (root : List UInt8) (hR : root.length = 32) (v : Value) (hx : a.eval x = .pointer (some ⟨g, 0, none⟩)) (hr : TbK w g root v)
    (h : wpList Tryz.prog ops Q rest (a.put o.dst (.agg (tbC root v))) w) : wpList Tryz.prog ops Q (o :: rest) a w := by
  refine wpList_load_if hgd 31 x ho g 0 hx (tbC root v).toList _ hr.all Tryz.underlying31 rfl ?_ ?_
  · rw [Array.length_toList]; exact infoTb root hR v
  · rw [Array.toArray_toList]; exact h
theorem wpQuiet_load_tb {C : World → Prop} {ops : Array Oper} {rest : List Oper} {o : Oper} {a : Act} {Q : Act → Prop} (hgd : Region.wanted o (yielded ops a.tmps) = true) (x : Operand) (ho : o.op = .load 31 x)
    (g : Nat) (root : List UInt8) (hR : root.length = 32) (v : Value) (hx : a.eval x = .pointer (some ⟨g, 0, none⟩)) (hr : ∀ w, C w → w.rangeAt g 0 (tbC root v).toList)
    (h : wpQuiet Tryz.prog ops C Q rest (a.put o.dst (.agg (tbC root v)))) : wpQuiet Tryz.prog ops C Q (o :: rest) a := by
  refine wpQuiet_load_if hgd 31 x ho g 0 hx (tbC root v).toList _ hr Tryz.underlying31 rfl ?_ ?_
  · rw [Array.length_toList]; exact infoTb root hR v
  · rw [Array.toArray_toList]; exact h
theorem wpList_store_tbn {w : World} {ops : Array Oper} {rest : List Oper} {o : Oper} {a : Act} {Q : Exit → Act → World → Prop} {old : Array Value} (hgd : o.guard = none) (x y : Operand) (ho : o.op = .store 31 x y)
    (root : List UInt8) (hR : root.length = 32) (v : Value) (hv : v.oneCell' = true) (hx : a.eval x = .pointer (some ⟨w.heap.size, 0, none⟩)) (hy : a.eval y = .agg (tbC root v)) (hs : old.size = 33)
    (h : wpList Tryz.prog ops Q rest (a.put o.dst undef) (w.alloc (.cells (tbC root v) 31))) : wpList Tryz.prog ops Q (o :: rest) a (w.alloc (.cells old 31)) :=
  wpList_store_new hgd 31 x y ho (tbC root v) hx hy (infoTb root hR v) (by rw [tbC_size root hR, hs]) (tbC_one root v hv) h
/-- A table is stored over another one. -/
theorem wpList_store_tb {w : World} {ops : Array Oper} {rest : List Oper} {o : Oper} {a : Act} {Q : Exit → Act → World → Prop} {old : Array Value} (hgd : o.guard = none) (x y : Operand) (ho : o.op = .store 31 x y)
    (g : Nat) (root : List UInt8) (hR : root.length = 32) (v : Value) (hv : v.oneCell' = true) (hg : Blk w g 31 old) (hs : old.size = 33) (hx : a.eval x = .pointer (some ⟨g, 0, none⟩)) (hy : a.eval y = .agg (tbC root v))
    (h : ∀ w', TbK w' g root v → w.grownBy w' (some g) → wpList Tryz.prog ops Q rest (a.put o.dst undef) w') : wpList Tryz.prog ops Q (o :: rest) a w :=
  wpList_store_blk hgd 31 x y ho g old (tbC root v) 31 hg hx hy (infoTb root hR v) (by rw [tbC_size root hR, hs]) (tbC_one root v hv) fun w' hb hgr => h w' ⟨hb⟩ hgr
theorem blk_rk {w w' : World} {base n g : Nat} {v : Value} {Xs : List GrD} {t : TypeId} {cs : Array Value} (h : Blk w g t cs) (hown : RkOw w base v n Xs) (hg : w.grownBy w' v.ownBlock) (hlt : g < base) : Blk w' g t cs :=
  (hg.block g h.lt (fun hk => by have := (hown.lt g hk.symm).1; omega)).trans h
theorem RkOw.kept_ {w w' : World} {base n k : Nat} {v : Value} {Xs : List GrD} (hown : RkOw w base v n Xs) (hg : w.grownBy w' (some k)) (hlt : k < base) : RkOw w' base v n Xs :=
  World.ownsRow.kept hown hg (by
    by_cases h : v.ownBlock = none
    · exact .inl h
    · right
      intro hk
      have := (hown.lt k hk).1
      omega)
theorem ret_tb {fn : Func} {p : Tmp} (hf : fn.results = #[.cell p 31]) (tmps : Array Value) (w : World) (g : Nat) (root : List UInt8) (hR : root.length = 32) (v : Value) (hp : tmps.getD p undef = .pointer (some ⟨g, 0, none⟩)) (hg : TbK w g root v) :
    (results fn tmps).run Tryz.prog w = .ok (.agg (tbC root v)) w := results_cell_row hf tmps w g _ _ _ _ hp hg.b Tryz.underlying31 rfl (infoTb root hR v)
end Go.Proofs.YtapgiagpjplpdaaGreat
/- grant's document: one walk of hold. -/
set_option linter.unusedSimpArgs false
set_option linter.unusedVariables false
namespace Go.Proofs.YtapgiagpjplpdaaGreat
open Go.RowKit Go.Qc Go.Shelf
attribute [local go_sem] txt_size txt_append ib_fold txt_toL

theorem wpList_build_tbk {w : World} {ops : Array Oper} {rest : List Oper} {o : Oper} {a : Act} {Q : Exit → Act → World → Prop} (hgd : o.guard = none) (parts : Array (Nat × Operand)) (ho : o.op = .build 31 parts)
    (root : List UInt8) (hR : root.length = 32) (hp : (parts.map fun (i, x) => (i, a.eval x)) = #[(0, .agg (List.map u8v root).toArray)])
    (h : wpList Tryz.prog ops Q rest (a.put o.dst (.agg (tbC root (.slice none 0 0)))) w) : wpList Tryz.prog ops Q (o :: rest) a w := by
  refine wpList_plain hgd fun K' hK' => ?_
  have hr := build_tbk root hR w
  rw [← hp] at hr
  unfold Oper.wp
  simp only [execOp, ho]
  simp only [Sem.run_bind, hr, Result.andThen, Sem.run_pure]
  exact hK' _ _ h
theorem hold_take {root : List UInt8} {Xs : List GrD} {k : Nat} {X : GrD} (h : Xs[k]? = some X) : (Xs.take (k + 1)).filter (heldB root Xs) = (Xs.take k).filter (heldB root Xs) ++ (if heldB root Xs X = true then [X] else []) := by
  rw [List.take_add_one, h, List.filter_append]
  congr 1
  show List.filter (heldB root Xs) [X] = _
  rw [List.filter_cons, List.filter_nil]
theorem filt_ok {root : List UInt8} {Xs : List GrD} (h : ∀ X ∈ Xs, X.ok) (k : Nat) : ∀ X ∈ (Xs.take k).filter (heldB root Xs), X.ok := fun X hX => h X (List.mem_of_mem_take (List.mem_filter.1 hX).1)
/-- The state of a walk that puts grants into a table of its own. -/
structure HdS (w : World) (b2 N3 : Nat) (zc : Array Value) (root : List UInt8) (tv : Value) (W : World) (v u : Value) (m : Nat) (Os : List GrD) : Prop where
  t : TbK W w.heap.size root tv
  z : Blk W (w.heap.size + 1) 31 zc
  o : TbK W b2 root v
  own : RkOw W N3 u m Os
  b : Below w.heap.size w W
  n1 : w.heap.size + 1 < b2
  n2 : b2 < N3
  n3 : N3 ≤ W.heap.size
section
variable {w : World} {b2 N3 : Nat} {zc : Array Value} {root : List UInt8} {tv : Value} {W W' : World} {v u : Value} {m : Nat} {Os : List GrD}
theorem HdS.below (h : HdS w b2 N3 zc root tv W v u m Os) (hb : Below W.heap.size W W') : HdS w b2 N3 zc root tv W' v u m Os :=
  ⟨h.t.below hb, h.z.below hb, h.o.below hb, h.own.below hb, h.b.trans (hb.mono h.b.size), h.n1, h.n2, Nat.le_trans h.n3 hb.size⟩
theorem HdS.app (h : HdS w b2 N3 zc root tv W v u m Os) {u' : Value} {m' : Nat} {Os' : List GrD} (ho : RkOw W' N3 u' m' Os') (hg : W.grownBy W' u.ownBlock) : HdS w b2 N3 zc root tv W' v u' m' Os' := by
  have h1 := h.n1
  have h2 := h.n2
  exact ⟨⟨blk_rk h.t.b h.own hg (by omega)⟩, blk_rk h.z h.own hg (by omega), ⟨blk_rk h.o.b h.own hg (by omega)⟩, ho, h.own.grown hg (by omega) h.b h.b.size, h.n1, h.n2, Nat.le_trans h.n3 hg.size⟩
theorem HdS.put (h : HdS w b2 N3 zc root tv W v u m Os) (ho : TbK W' b2 root u) (hg : W.grownBy W' (some b2)) : HdS w b2 N3 zc root tv W' u u m Os := by
  have h1 := h.n1
  exact ⟨⟨blk_grown h.t.b hg (by omega)⟩, blk_grown h.z hg (by omega), ho, h.own.kept_ hg h.n2, below_grownS h.b hg (by omega), h.n1, h.n2, Nat.le_trans h.n3 hg.size⟩
end
theorem rkx_by {w : World} {g q : Nat} {X : GrD} (h : w.rangeAt g q X.cs.toList) (hK : X.ok) : w.rangeAt g (q + 33) (X.b.map u8v) := fun j u hj => by
  rw [Nat.add_assoc]; exact h _ u (by rw [Array.getElem?_toList]; exact X.cby hK j u hj)
theorem rkx_key {w : World} {g q : Nat} {X : GrD} (h : w.rangeAt g q X.cs.toList) : w.rangeAt g (q + 1) (X.k.map u8v) := fun j u hj => by
  rw [Nat.add_assoc]; exact h _ u (by rw [Array.getElem?_toList]; exact X.ckey j u hj)
theorem rkx_p {w : World} {g q : Nat} {X : GrD} (h : w.rangeAt g q X.cs.toList) : w.cell? ⟨g, q, none⟩ = some (.string (txt X.p)) := h 0 _ (by rw [Array.getElem?_toList]; exact X.c0)
theorem rkx_d {w : World} {g q : Nat} {X : GrD} (h : w.rangeAt g q X.cs.toList) (hK : X.ok) : w.cell? ⟨g, q + 65, none⟩ = some (.int .i64 X.d) := h 65 _ (by rw [Array.getElem?_toList]; exact X.c65 hK)
set_option maxRecDepth 100000 in
set_option maxHeartbeats 20000000 in
theorem rhold19_any (root : List UInt8) (hR : root.length = 32) (A : Option Addr) (n c : Nat) (Xs : List GrD) (hn : Xs.length = n) (bn : n ≤ 900) (hP : ∀ X ∈ Xs, X.p.length ≤ 1000000) (w : World) (hr : GrRd w A Xs) :
    Calls Tryz.prog 31 #[.agg (tbC root (.slice A n c))] w fun e w' => ∃ v, e = .returned (.agg (tbC root v)) ∧ RkOw w' w.heap.size v (holdG root Xs).length (holdG root Xs) ∧ Below w.heap.size w w' := by
  have hu := Tryz.underlying23
  have hzr : (Tryz.prog.info? 23).map (·.size) = some (root.map u8v).length := by rw [List.length_map, hR]; exact sizeId
  have hT : TbK (w.alloc (.cells (tbC root (.slice A n c)) 31)) w.heap.size root (.slice A n c) := ⟨Blk.new _ _ _⟩
  have hB0 := (Below.refl w.heap.size w).alloc (Nat.le_refl _) (.cells (tbC root (.slice A n c)) 31)
  have HRD := hid hr
  have hok : ∀ X ∈ Xs, X.ok := hr.1
  have HOK := hid hok
  clear hok
  have HN := hid hn
  have HP := hid hP
  clear hn hP
  go_enter Tryz.func31, Tryz.ntmps31
  go_upto_region 1 with (fail)
  have hs1 : (w.alloc (.cells (tbC root (.slice A n c)) 31)).heap.size = w.heap.size + 1 := World.size_alloc _ _
  have hr1 := hr.below hB0
  generalize w.alloc (.cells (tbC root (.slice A n c)) 31) = W1 at *
  generalize hZ : (Obj.cells _ 31) = Z
  obtain ⟨zc, rfl, hzc⟩ : ∃ zc : Array Value, Z = Obj.cells zc 31 ∧ zc.size = 33 := ⟨_, hZ.symm, rfl⟩
  clear hZ
  have hal := (Below.refl W1.heap.size W1).alloc (Nat.le_refl _) (.cells zc 31)
  have hT2 := hT.below hal
  have hz2 := Blk.new W1 31 zc
  rw [hs1] at hz2
  have hB2 := hB0.trans (hal.mono hB0.size)
  have hr2 := hr1.below hal
  have hs2 : (W1.alloc (.cells zc 31)).heap.size = w.heap.size + 1 + 1 := by rw [World.size_alloc, hs1]
  have fk := hT2.key
  clear hT hr hr1 hal hB0
  generalize hW2 : W1.alloc (.cells zc 31) = W2 at *
  have hal3 := (Below.refl W2.heap.size W2).alloc (Nat.le_refl _) (.cells (tbC root (.slice none 0 0)) 31)
  have hT3 := hT2.below hal3
  have hz3 := hz2.below hal3
  have hO3 : TbK (W2.alloc (.cells (tbC root (.slice none 0 0)) 31)) W2.heap.size root (.slice none 0 0) := ⟨Blk.new _ _ _⟩
  have hB3 := hB2.trans (hal3.mono hB2.size)
  have hr3 := hr2.below hal3
  have HS2 := hid hs2
  have HS3 := hid (World.size_alloc W2 (.cells (tbC root (.slice none 0 0)) 31))
  clear hs1 hs2 hW2 hT2 hz2 hB2 hr2 hal3
  go_wp2_with (first
    | (with_reducible refine wpList_load_if (by with_unfolding_all rfl) 23 _ rfl _ _ rfl (root.map u8v) _ fk hu rfl hzr ?_)
    | (with_reducible refine wpList_build_tbk rfl _ rfl root hR (by with_unfolding_all rfl) ?_)
    | (with_reducible refine wpList_store_tbn rfl _ _ rfl root hR _ rfl rfl rfl (by with_unfolding_all rfl) ?_))
  clear fk
  generalize W2.alloc (.cells (tbC root (.slice none 0 0)) 31) = W3 at *
  obtain ⟨b2, hb2⟩ : ∃ b2, W2.heap.size = b2 := ⟨_, rfl⟩
  have hn3 : b2 < W3.heap.size := by have := HS3.out; omega
  have hn1 : w.heap.size + 1 < b2 := by have := HS2.out; omega
  rw [hb2] at hO3
  have H0 := hid (HdS.mk hT3 hz3 hO3 (RkOw.none_ W3 W3.heap.size) hB3 hn1 hn3 (Nat.le_refl _) : HdS w b2 W3.heap.size zc root (.slice A n c) W3 (.slice none 0 0) (.slice none 0 0) 0 [])
  rw [hb2]
  clear hT3 hz3 hO3 hB3 hr3 HS2 HS3
  obtain ⟨N3, hN3⟩ : ∃ N3, W3.heap.size = N3 := ⟨_, rfl⟩
  rw [hN3] at H0 hn3
  clear hN3 hb2
  go_loopw [4] (fun i wr => ∃ (k m : Nat) (v : Value), k ≤ n ∧ i = .int .i64 k ∧ m ≤ k ∧ Hid (HdS w b2 N3 zc root (.slice A n c) wr v v m ((Xs.take k).filter (heldB root Xs)))) (fun i _ => n - (intOf i).toNat)
  case atStart => exact ⟨0, 0, _, Nat.zero_le _, rfl, Nat.le_refl _, H0⟩
  case round =>
    clear H0
    obtain ⟨k, m, v, hk, rfl, hm, HS⟩ := hrel
    by_cases hlt : k < n
    · obtain ⟨X, hX⟩ : ∃ X, Xs[k]? = some X := ⟨_, List.getElem?_eq_getElem (by have := HN.out; omega)⟩
      obtain ⟨g, q, hg0, hXo, hix⟩ := HRD.out.pickR c HN.out hX
      have z1 : (k : Int) < n := by omega
      have hg := hg0.below HS.out.b
      have hxp := HP.out X (List.mem_of_getElem? hX)
      have HT := hid (hold_take (root := root) hX)
      have hHL : heldB root Xs X = !decide (depV root Xs X.b X.p ≤ X.d) := rfl
      have cD : ∀ W, GrRd W A Xs → Calls Tryz.prog 16 #[.agg (tbC root (.slice A n c)), .agg (List.map u8v X.b).toArray, .string (txt X.p)] W fun e w' => e = .returned (.int .i64 (depV root Xs X.b X.p)) ∧ Below W.heap.size W w' := fun W h => rdepth19_any root hR A n c Xs HN.out (by omega) HP.out X.b hXo.2 X.p hxp W h
      generalize depV root Xs X.b X.p = D at *
      have f32 := HS.out.t.row hR
      have fT : ∀ w', (∃ p : LaterW wr, w' = p.w) → w'.rangeAt w.heap.size 0 (tbC root (.slice A n c)).toList := range_later HS.out.t.all
      have f1 : ∀ P : LaterW wr, P.w.cell? ⟨w.heap.size, 32, none⟩ = some (.slice A n c) := fun P => (HS.out.t.below P.h).row hR
      have f2 : ∀ P : LaterW wr, P.w.cell? ⟨g, q, none⟩ = some (.string (txt X.p)) := fun P => rkx_p (hg.below P.h)
      have f3 : ∀ P : LaterW wr, P.w.cell? ⟨g, q + 65, none⟩ = some (.int .i64 X.d) := fun P => rkx_d (hg.below P.h) hXo
      have fb := range_later (rkx_by hg hXo)
      have hzb : (Tryz.prog.info? 23).map (·.size) = some (X.b.map u8v).length := by rw [List.length_map, hXo.2]; exact sizeId
      have cP := fun P : LaterW wr => cD P.w ((HRD.out.below HS.out.b).below P.h)
      have HLT := hid (show k + 1 ≤ n from hlt)
      have HG := hid hg0
      clear hX hg0 hlt hg cD hxp
      go_wp2_with (fail)
      refine wp_region_later mixed10 (by kernel_rfl) ?_
      repeat (first
        | ((with_reducible refine wpQuiet_load_tb (by with_unfolding_all rfl) _ rfl w.heap.size root hR (.slice A n c) rfl fT ?_); simp only [Act.put, List.setIfInBounds_toArray, List.set_cons_zero, List.set_cons_succ])
        | ((with_reducible refine wpQuiet_load_if (by with_unfolding_all rfl) 23 _ rfl _ _ rfl (X.b.map u8v) _ fb hu (by with_unfolding_all rfl) hzb ?_); simp only [Act.put, List.setIfInBounds_toArray, List.set_cons_zero, List.set_cons_succ])
        | ((with_reducible refine wpQuiet_step (fun K hK => ?_)); go_simp; first | ((with_reducible refine hK _ ?_); clear hK K) | (with_reducible apply Exists.intro; (with_reducible refine ⟨fun P => ?_, hK _ ?_⟩); ((go_at_call 16; exact later_of (cP P))); clear hK K)))
      with_reducible refine wpQuiet_nil ?_
      intro _ hw9
      obtain ⟨P9, rfl⟩ := hw9
      have HS9 := hid (HS.out.below P9.h)
      generalize P9.w = w8 at *
      clear f32 fT f1 f2 f3 fb cP HS
      by_cases hgt : X.d < D
      · have HE := hid (show (Xs.take (k + 1)).filter (heldB root Xs) = (Xs.take k).filter (heldB root Xs) ++ [X] by
          rw [HT.out, if_pos (by rw [hHL, decide_eq_false (by omega)]; rfl)])
        have HSd := hid (HS9.out.below (below_drew10 w8))
        have hug := Tryz.underlying52
        have hzg : (Tryz.prog.info? 52).map (·.size) = some X.cs.toList.length := by rw [Array.length_toList]; exact Rk_info X hXo
        have hms : m + 1 ≤ 1000 := by omega
        have HFK := hid (filt_ok (root := root) HOK.out k)
        clear HS9 HT hHL
        go_wp2_with (fail)
        refine wp_region_held_drew (S := fun W => W.rangeAt g q X.cs.toList ∧ W.cell? ⟨w.heap.size, 32, none⟩ = some (.slice A n c)) (by kernel_rfl) ?_ (fun hHeld => ?_)
        · exact ⟨HG.out.below HSd.out.b, HSd.out.t.row hR⟩
        refine' wpAnyH_take (i := 0) (v := .pointer (some ⟨b2, 32, none⟩)) rfl (by kernel_rfl) (by kernel_rfl) (by kernel_rfl) (fun _ _ _ h => h) (Or.inl ⟨by rfl, fun w' hw' => by go_simp⟩) hHeld ?_
        try simp only [Act.put, List.getElem_toArray, List.getElem_cons_succ, List.getElem_cons_zero, List.setIfInBounds_toArray, List.set_cons_zero, List.set_cons_succ]
        refine' wpAnyH_take (i := 2) (v := .pointer (some ⟨w.heap.size, 32, none⟩)) rfl (by kernel_rfl) (by kernel_rfl) (by kernel_rfl) (fun _ _ _ h => h) (Or.inl ⟨by rfl, fun w' hw' => by go_simp⟩) hHeld ?_
        try simp only [Act.put, List.getElem_toArray, List.getElem_cons_succ, List.getElem_cons_zero, List.setIfInBounds_toArray, List.set_cons_zero, List.set_cons_succ]
        refine' wpAnyH_take (i := 3) (v := .slice A n c) rfl (by kernel_rfl) (by kernel_rfl) (by kernel_rfl) (fun _ _ _ h => h) (Or.inl ⟨by rfl, fun w' hw' => by have hv := hw'.2; go_simp⟩) hHeld ?_
        try simp only [Act.put, List.getElem_toArray, List.getElem_cons_succ, List.getElem_cons_zero, List.setIfInBounds_toArray, List.set_cons_zero, List.set_cons_succ]
        refine' wpAnyH_take (i := 4) (v := .int .i64 k) rfl (by kernel_rfl) (by kernel_rfl) (by kernel_rfl) (fun _ _ _ h => h) (Or.inl ⟨by rfl, fun w' hw' => by go_simp⟩) hHeld ?_
        try simp only [Act.put, List.getElem_toArray, List.getElem_cons_succ, List.getElem_cons_zero, List.setIfInBounds_toArray, List.set_cons_zero, List.set_cons_succ]
        refine' wpAnyH_take (i := 5) (v := .pointer (some ⟨g, q, none⟩)) rfl (by kernel_rfl) (by kernel_rfl) (by kernel_rfl) (fun _ _ _ h => h) (Or.inl ⟨by rfl, fun w' hw' => by have hv := hix w'; go_simp⟩) hHeld ?_
        try simp only [Act.put, List.getElem_toArray, List.getElem_cons_succ, List.getElem_cons_zero, List.setIfInBounds_toArray, List.set_cons_zero, List.set_cons_succ]
        refine' wpAnyH_take (i := 6) (v := _) rfl (by kernel_rfl) (by kernel_rfl) (by kernel_rfl) (fun _ _ _ h => h) (yieldsIf_load_mid (by rfl) 52 _ rfl _ _ rfl X.cs.toList _ (fun w' h => h.1) hug rfl hzg) hHeld ?_
        try simp only [Act.put, List.getElem_toArray, List.getElem_cons_succ, List.getElem_cons_zero, List.setIfInBounds_toArray, List.set_cons_zero, List.set_cons_succ]
        simp only [Array.toArray_toList]
        refine wpAnyH_ready (rs := [1, 7]) (by kernel_rfl) (by simp) ?_
        refine AllReadyH.cons rfl (fun K hK => ?_) (AllReadyH.cons rfl (fun K hK => ?_) AllReadyH.nil)
        · have fA := HSd.out.o.row hR
          go_simp
          refine hK.out _ _ hHeld (fun hHeld => ?_)
          clear hK K fA
          try simp only [Act.put, List.getElem_toArray, List.getElem_cons_succ, List.getElem_cons_zero, List.setIfInBounds_toArray, List.set_cons_zero, List.set_cons_succ]
          refine wpAnyH_ready (rs := [7]) (by kernel_rfl) (by simp) ?_
          refine AllReadyH.cons rfl (fun K hK => ?_) AllReadyH.nil
          refine wp_build1k _ rfl X hXo rfl ?_
          intro cs hrow
          replace HSd := hid (HSd.out.below ((Below.refl w8.drew.heap.size w8.drew).alloc (Nat.le_refl _) (.cells cs 52)))
          refine hK.out _ _ ⟨HG.out.below HSd.out.b, HSd.out.t.row hR⟩ (fun hHeld => ?_)
          clear hK K
          try simp only [Act.put, List.getElem_toArray, List.getElem_cons_succ, List.getElem_cons_zero, List.setIfInBounds_toArray, List.set_cons_zero, List.set_cons_succ]
          refine wpAnyH_ready (rs := [8]) (by kernel_rfl) (by simp) ?_
          refine AllReadyH.cons rfl (fun K hK => ?_) AllReadyH.nil
          have hb9 := HSd.out.n3
          refine wp_append_rk _ _ rfl N3 _ _ _ rfl HSd.out.own _ 1 1 [X] rfl rfl (fun h => by cases h) hrow hms hb9 ?_
          intro v' w' hown' hg'
          replace HSd := hid (HSd.out.app hown' hg')
          obtain ⟨A9, c9, rfl, _, _, _, _⟩ := hown'.rd (fun Z hZ => (List.mem_append.1 hZ).elim (HFK.out Z) (fun h => by rw [List.mem_singleton.1 h]; exact hXo))
          clear hown' hg' hrow
          refine hK.out _ _ ⟨HG.out.below HSd.out.b, HSd.out.t.row hR⟩ (fun hHeld => ?_)
          clear hK K hb9
          try simp only [Act.put, List.getElem_toArray, List.getElem_cons_succ, List.getElem_cons_zero, List.setIfInBounds_toArray, List.set_cons_zero, List.set_cons_succ]
          refine' wpAnyH_take (i := 9) (v := .pointer (some ⟨b2, 32, none⟩)) rfl (by kernel_rfl) (by kernel_rfl) (by kernel_rfl) (fun _ _ _ h => h) (Or.inl ⟨by rfl, fun w' hw' => by go_simp⟩) hHeld ?_
          try simp only [Act.put, List.getElem_toArray, List.getElem_cons_succ, List.getElem_cons_zero, List.setIfInBounds_toArray, List.set_cons_zero, List.set_cons_succ]
          refine wpAnyH_ready (rs := [10]) (by kernel_rfl) (by simp) ?_
          refine AllReadyH.cons rfl (fun K hK => ?_) AllReadyH.nil
          refine wp_store_tbrow _ _ rfl b2 root hR v HSd.out.o A9 (m + 1) c9 rfl rfl ?_
          intro w10 ho10 hg10
          replace HSd := hid (HSd.out.put ho10 hg10)
          refine hK.out _ _ ⟨HG.out.below HSd.out.b, HSd.out.t.row hR⟩ (fun hHeld => ?_)
          clear hK K ho10 hg10
          try simp only [Act.put, List.getElem_toArray, List.getElem_cons_succ, List.getElem_cons_zero, List.setIfInBounds_toArray, List.set_cons_zero, List.set_cons_succ]
          refine wpAnyH_done (by kernel_rfl) ?_ _
          go_wp2
          go_roundw
          case rel => exact ⟨k + 1, m + 1, _, HLT.out, by go_num, by omega, by rw [HE.out]; exact HSd⟩
          case measure => exact meas_k1 HLT.out
        · refine wp_build1k _ rfl X hXo rfl ?_
          intro cs hrow
          replace HSd := hid (HSd.out.below ((Below.refl w8.drew.heap.size w8.drew).alloc (Nat.le_refl _) (.cells cs 52)))
          refine hK.out _ _ ⟨HG.out.below HSd.out.b, HSd.out.t.row hR⟩ (fun hHeld => ?_)
          clear hK K
          try simp only [Act.put, List.getElem_toArray, List.getElem_cons_succ, List.getElem_cons_zero, List.setIfInBounds_toArray, List.set_cons_zero, List.set_cons_succ]
          generalize w8.drew.alloc (.cells cs 52) = w9 at *
          refine wpAnyH_ready (rs := [1]) (by kernel_rfl) (by simp) ?_
          refine AllReadyH.cons rfl (fun K hK => ?_) AllReadyH.nil
          have fA := HSd.out.o.row hR
          go_simp
          refine hK.out _ _ hHeld (fun hHeld => ?_)
          clear hK K fA
          try simp only [Act.put, List.getElem_toArray, List.getElem_cons_succ, List.getElem_cons_zero, List.setIfInBounds_toArray, List.set_cons_zero, List.set_cons_succ]
          refine wpAnyH_ready (rs := [8]) (by kernel_rfl) (by simp) ?_
          refine AllReadyH.cons rfl (fun K hK => ?_) AllReadyH.nil
          have hb9 := HSd.out.n3
          refine wp_append_rk _ _ rfl N3 _ _ _ rfl HSd.out.own _ 1 1 [X] rfl rfl (fun h => by cases h) hrow hms hb9 ?_
          intro v' w' hown' hg'
          replace HSd := hid (HSd.out.app hown' hg')
          obtain ⟨A9, c9, rfl, _, _, _, _⟩ := hown'.rd (fun Z hZ => (List.mem_append.1 hZ).elim (HFK.out Z) (fun h => by rw [List.mem_singleton.1 h]; exact hXo))
          clear hown' hg' hrow
          refine hK.out _ _ ⟨HG.out.below HSd.out.b, HSd.out.t.row hR⟩ (fun hHeld => ?_)
          clear hK K hb9
          try simp only [Act.put, List.getElem_toArray, List.getElem_cons_succ, List.getElem_cons_zero, List.setIfInBounds_toArray, List.set_cons_zero, List.set_cons_succ]
          refine' wpAnyH_take (i := 9) (v := .pointer (some ⟨b2, 32, none⟩)) rfl (by kernel_rfl) (by kernel_rfl) (by kernel_rfl) (fun _ _ _ h => h) (Or.inl ⟨by rfl, fun w' hw' => by go_simp⟩) hHeld ?_
          try simp only [Act.put, List.getElem_toArray, List.getElem_cons_succ, List.getElem_cons_zero, List.setIfInBounds_toArray, List.set_cons_zero, List.set_cons_succ]
          refine wpAnyH_ready (rs := [10]) (by kernel_rfl) (by simp) ?_
          refine AllReadyH.cons rfl (fun K hK => ?_) AllReadyH.nil
          refine wp_store_tbrow _ _ rfl b2 root hR v HSd.out.o A9 (m + 1) c9 rfl rfl ?_
          intro w10 ho10 hg10
          replace HSd := hid (HSd.out.put ho10 hg10)
          refine hK.out _ _ ⟨HG.out.below HSd.out.b, HSd.out.t.row hR⟩ (fun hHeld => ?_)
          clear hK K ho10 hg10
          try simp only [Act.put, List.getElem_toArray, List.getElem_cons_succ, List.getElem_cons_zero, List.setIfInBounds_toArray, List.set_cons_zero, List.set_cons_succ]
          refine wpAnyH_done (by kernel_rfl) ?_ _
          go_wp2
          go_roundw
          case rel => exact ⟨k + 1, m + 1, _, HLT.out, by go_num, by omega, by rw [HE.out]; exact HSd⟩
          case measure => exact meas_k1 HLT.out
      · have HE := hid (show (Xs.take (k + 1)).filter (heldB root Xs) = (Xs.take k).filter (heldB root Xs) by
          rw [HT.out, if_neg (by rw [hHL, decide_eq_true (by omega)]; decide), List.append_nil])
        clear HT hHL
        go_wp2
        go_roundw
        case rel => exact ⟨k + 1, m, v, HLT.out, by go_num, by omega, by rw [HE.out]; exact HS9⟩
        case measure => exact meas_k1 HLT.out
    · obtain rfl : k = n := by omega
      have z1 : ¬ (k : Int) < k := by omega
      have HE := hid (show (Xs.take k).filter (heldB root Xs) = holdG root Xs by rw [List.take_of_length_le (by rw [HN.out]; exact Nat.le_refl _)]; rfl)
      have f32 := HS.out.t.row hR
      have hO := HS.out.o
      obtain ⟨A9, c9, rfl, hl9, _, _, _⟩ := HS.out.own.rd (filt_ok HOK.out k)
      have hz := HS.out.z
      go_wp2_with (first
        | (with_reducible refine wpList_load_tb (by with_unfolding_all rfl) _ rfl b2 root hR _ rfl hO ?_)
        | ((with_reducible refine wpList_store_tb rfl _ _ rfl (w.heap.size + 1) root hR _ rfl hz hzc rfl rfl ?_); intro w10 ho10 hg10))
      have hn1 := HS.out.n1
      have hn2 := HS.out.n2
      refine bodyPost_ret (ret_tb rfl _ _ _ root hR _ rfl ho10) rfl ⟨_, rfl, ?_, below_grownS HS.out.b hg10 (by omega)⟩
      have := (HS.out.own.kept_ hg10 (by omega)).le (show w.heap.size ≤ N3 by omega)
      rw [HE.out] at this hl9
      rw [hl9]
      exact this
end Go.Proofs.YtapgiagpjplpdaaGreat
/- grant's document: Apply; what is told before anything is done. -/
set_option linter.unusedSimpArgs false
set_option linter.unusedVariables false
namespace Go.Proofs.YtapgiagpjplpdaaGreat
open Go.RowKit Go.Qc Go.Shelf
attribute [local go_sem] txt_size txt_append ib_fold txt_toL

theorem ret_tb2 {fn : Func} {p u : Tmp} (hf : fn.results = #[.cell p 31, .tmp u]) (tmps : Array Value) (w : World) (g : Nat) (root : List UInt8) (hR : root.length = 32) (v : Value) (hp : tmps.getD p undef = .pointer (some ⟨g, 0, none⟩)) (hg : TbK w g root v) :
    (results fn tmps).run Tryz.prog w = .ok (.tuple #[.agg (tbC root v), tmps.getD u undef]) w := by
  have hl := run_loadVar_row (P := Tryz.prog) w g 31 31 (tbC root v) (0, 0) _ hg.b Tryz.underlying31 rfl (infoTb root hR v)
  rw [results_cell_tmp hf, hp]
  simp only [asAddr, Sem.run_pure, Result.andThen_ok, hl]
/-- A row as a table's value. -/
def RkT (W : World) (v : Value) (Ys : List GrD) : Prop := ∃ A c, v = .slice A Ys.length c ∧ GrRd W A Ys
theorem RkT.below {W W' : World} {v : Value} {Ys : List GrD} (h : RkT W v Ys) (hb : Below W.heap.size W W') : RkT W' v Ys := by
  obtain ⟨A, c, h1, h2⟩ := h
  exact ⟨A, c, h1, h2.below hb⟩
theorem RkOw.t {W : World} {base n : Nat} {v : Value} {Ys : List GrD} (h : RkOw W base v n Ys) (hk : ∀ X ∈ Ys, X.ok) : RkT W v Ys := by
  obtain ⟨A, c, rfl, hl, _, _, hr⟩ := h.rd hk
  exact ⟨A, c, by rw [hl], hr⟩
/-- What Apply answers. -/
def ApR (root : List UInt8) (R : List GrD × Int) (w : World) (e : Ending) (w' : World) : Prop := ∃ v, e = .returned (.tuple #[.agg (tbC root v), .int .i64 R.2]) ∧ RkT w' v R.1 ∧ Below w.heap.size w w'
/-- What stands behind Apply's first lines. -/
structure ApS (w : World) (zc : Array Value) (root : List UInt8) (tv : Value) (key : List UInt8) (D : OpD) (A' : Option Addr) (n' c' : Nat) (B' : Option Addr) (m' d' : Nat) (W : World) : Prop where
  t : TbK W w.heap.size root tv
  k : W.rangeAt (w.heap.size + 1) 0 (key.map u8v)
  o : OpX W (w.heap.size + 1 + 1) D A' n' c' B' m' d'
  z : Blk W (w.heap.size + 1 + 1 + 1) 31 zc
  b : Below w.heap.size w W
  n : w.heap.size + 1 + 1 + 1 < W.heap.size
theorem ApS.below {w : World} {zc : Array Value} {root : List UInt8} {tv : Value} {key : List UInt8} {D : OpD} {A' : Option Addr} {n' c' : Nat} {B' : Option Addr} {m' d' : Nat} {W W' : World} (h : ApS w zc root tv key D A' n' c' B' m' d' W) (hb : Below W.heap.size W W') : ApS w zc root tv key D A' n' c' B' m' d' W' :=
  ⟨h.t.below hb, h.k.below hb, h.o.below hb, h.z.below hb, h.b.trans (hb.mono h.b.size), Nat.lt_of_lt_of_le h.n hb.size⟩
theorem ApR.intro {root : List UInt8} {R : List GrD × Int} {w w' : World} {v : Value} {E : Int} {Ys : List GrD} (hR : R = (Ys, E)) (hv : RkT w' v Ys) (hb : Below w.heap.size w w') : ApR root R w (.returned (.tuple #[.agg (tbC root v), .int .i64 E])) w' := by
  subst hR
  exact ⟨v, rfl, hv, hb⟩
set_option maxRecDepth 100000 in
set_option maxHeartbeats 20000000 in
theorem rapply19_wrong (root : List UInt8) (hR : root.length = 32) (A : Option Addr) (n c : Nat) (Xs : List GrD) (hn : Xs.length = n) (bn : n ≤ 900) (hP : ∀ X ∈ Xs, X.p.length ≤ 1000000) (key : List UInt8) (hk : key.length = 32) (D : OpD) (hK : D.K.length = 32) (A' : Option Addr) (n' c' : Nat) (hlo : D.o.length = n') (bno : n' ≤ 1000000) (B' : Option Addr) (m' d' : Nat) (hln : D.n.length = m') (bmo : m' ≤ 1000000) (bp : D.p.length ≤ 1000000) (bt : D.t.length ≤ 1000000) (bo : ∀ x ∈ D.o, x.length ≤ 1000000000000) (bnn : ∀ x ∈ D.n, x.length ≤ 1000000000000) (w : World) (hr : GrRd w A Xs) (rA : Rd w A' (D.o.map strV)) (rB : Rd w B' (D.n.map strV)) (he : opE D ≠ 0) :
    Calls Tryz.prog 10 #[.agg (tbC root (.slice A n c)), .agg (idVals key), .agg (opC D A' n' c' B' m' d')] w (ApR root (applyD19 root Xs key D) w) := by
  have hu := Tryz.underlying23
  have hzk : (Tryz.prog.info? 23).map (·.size) = some (key.map u8v).length := by rw [List.length_map, hk]; exact sizeId
  have hzr : (Tryz.prog.info? 23).map (·.size) = some (root.map u8v).length := by rw [List.length_map, hR]; exact sizeId
  have hzd : (Tryz.prog.info? 23).map (·.size) = some (D.K.map u8v).length := by rw [List.length_map, hK]; exact sizeId
  have cR : ∀ W, Below w.heap.size w W → Calls Tryz.prog 28 #[.agg (opC D A' n' c' B' m' d')] W fun o w' => o = .returned (.int .i64 (opE D)) ∧ Below W.heap.size W w' := fun W h => rr13_any D hK A' n' c' hlo bno B' m' d' hln bmo bp bt bo bnn W (rA.below h) (rB.below h)
  have cD : ∀ W, GrRd W A Xs → Calls Tryz.prog 16 #[.agg (tbC root (.slice A n c)), .agg (List.map u8v key).toArray, .string (txt D.p)] W fun e w' => e = .returned (.int .i64 (depV root Xs key D.p)) ∧ Below W.heap.size W w' := fun W h => rdepth19_any root hR A n c Xs hn (by omega) hP key hk D.p bp W h
  have g0 : TbK (w.alloc (.cells (tbC root (.slice A n c)) 31)) w.heap.size root (.slice A n c) := ⟨Blk.new _ _ _⟩
  have hb0 := (Below.refl w.heap.size w).alloc (Nat.le_refl _) (.cells (tbC root (.slice A n c)) 31)
  have hs0 := World.size_alloc w (.cells (tbC root (.slice A n c)) 31)
  have HRD := hid hr
  have HN := hid hn
  have HP := hid hP
  obtain ⟨R, hRR⟩ : ∃ R, applyD19 root Xs key D = R := ⟨_, rfl⟩
  have HRR := hid hRR
  rw [hRR]
  clear hr hn hP hRR hlo bno hln bmo bt bo bnn rA rB
  have HRV := hid (show R = (Xs, opE D) by rw [← HRR.out]; unfold applyD19; rw [if_pos he])
  generalize opE D = E at *
  have e1 : (E == 0) = false := by rw [beq_eq_false_iff_ne]; exact he
  have e2 : (E != 0) = true := by rw [bne, e1]; rfl
  clear HRR cD
  go_enter Tryz.func10, Tryz.ntmps10
  go_upto_region 1 with (fail)
  generalize w.alloc (.cells (tbC root (.slice A n c)) 31) = W1 at *
  have hx1 := (Below.refl W1.heap.size W1).alloc (Nat.le_refl _) (.cells (idVals key) 23)
  have hk1 := range_blk (Blk.new W1 23 (idVals key))
  rw [hs0] at hk1
  have hs1 := World.size_alloc W1 (.cells (idVals key) 23)
  have g1 := g0.below hx1
  have hb1 := hb0.trans (hx1.mono hb0.size)
  clear hx1 hb0 g0
  generalize W1.alloc (.cells (idVals key) 23) = W2 at *
  have hx2 := (Below.refl W2.heap.size W2).alloc (Nat.le_refl _) (.cells (opC D A' n' c' B' m' d') 34)
  have hk2 := hk1.below hx2
  have ho2 := OpX.new W2 D A' n' c' B' m' d'
  rw [hs1, hs0] at ho2
  have hs2 := World.size_alloc W2 (.cells (opC D A' n' c' B' m' d') 34)
  have g2 := g1.below hx2
  have hb2 := hb1.trans (hx2.mono hb1.size)
  clear hx2 hb1 g1 hk1
  generalize W2.alloc (.cells (opC D A' n' c' B' m' d') 34) = W3 at *
  generalize hZ : (Obj.cells _ 31) = Z
  obtain ⟨zc, rfl, hzc⟩ : ∃ zc : Array Value, Z = Obj.cells zc 31 ∧ zc.size = 33 := ⟨_, hZ.symm, rfl⟩
  clear hZ
  have hx3 := (Below.refl W3.heap.size W3).alloc (Nat.le_refl _) (.cells zc 31)
  have hz3 := Blk.new W3 31 zc
  rw [hs2, hs1, hs0] at hz3
  have HS := hid (ApS.mk (g2.below hx3) (hk2.below hx3) (ho2.below hx3) hz3 (hb2.trans (hx3.mono hb2.size)) (by rw [World.size_alloc, hs2, hs1, hs0]; omega) : ApS w zc root (.slice A n c) key D A' n' c' B' m' d' (W3.alloc (.cells zc 31)))
  clear hx3 hz3 hb2 g2 hk2 ho2 hs0 hs1 hs2
  generalize W3.alloc (.cells zc 31) = W4 at *
  have hox := HS.out.o
  have hbS := HS.out.b
  go_wp2_with (first
    | (with_reducible refine wpList_load_opx (by with_unfolding_all rfl) _ rfl _ rfl hox hK ?_)
    | (go_at_call 28; (with_reducible refine (cR _ hbS).mono ?_); rintro e2 w2 ⟨rfl, hb2⟩; replace HS := hid (HS.out.below hb2); have hT := HS.out.t; have hz := HS.out.z; have c0 := HS.out.o.c0; clear hox)
    | (with_reducible refine wpList_load_tb (by with_unfolding_all rfl) _ rfl w.heap.size root hR _ rfl hT ?_)
    | ((with_reducible refine wpList_store_tb rfl _ _ rfl (w.heap.size + 1 + 1 + 1) root hR _ rfl hz hzc rfl rfl ?_); intro w9 ho9 hg9))
  have hb9 := below_grownS HS.out.b hg9 (by omega)
  refine bodyPost_ret (ret_tb2 rfl _ _ _ root hR _ rfl ho9) rfl (ApR.intro HRV.out ⟨A, c, by rw [HN.out], HRD.out.below hb9⟩ hb9)
set_option maxRecDepth 100000 in
set_option maxHeartbeats 20000000 in
theorem rapply19_kind (root : List UInt8) (hR : root.length = 32) (A : Option Addr) (n c : Nat) (Xs : List GrD) (hn : Xs.length = n) (bn : n ≤ 900) (hP : ∀ X ∈ Xs, X.p.length ≤ 1000000) (key : List UInt8) (hk : key.length = 32) (D : OpD) (hK : D.K.length = 32) (A' : Option Addr) (n' c' : Nat) (hlo : D.o.length = n') (bno : n' ≤ 1000000) (B' : Option Addr) (m' d' : Nat) (hln : D.n.length = m') (bmo : m' ≤ 1000000) (bp : D.p.length ≤ 1000000) (bt : D.t.length ≤ 1000000) (bo : ∀ x ∈ D.o, x.length ≤ 1000000000000) (bnn : ∀ x ∈ D.n, x.length ≤ 1000000000000) (w : World) (hr : GrRd w A Xs) (rA : Rd w A' (D.o.map strV)) (rB : Rd w B' (D.n.map strV)) (he : opE D = 0) (hk5 : D.k < 5) :
    Calls Tryz.prog 10 #[.agg (tbC root (.slice A n c)), .agg (idVals key), .agg (opC D A' n' c' B' m' d')] w (ApR root (applyD19 root Xs key D) w) := by
  have hu := Tryz.underlying23
  have hzk : (Tryz.prog.info? 23).map (·.size) = some (key.map u8v).length := by rw [List.length_map, hk]; exact sizeId
  have hzr : (Tryz.prog.info? 23).map (·.size) = some (root.map u8v).length := by rw [List.length_map, hR]; exact sizeId
  have hzd : (Tryz.prog.info? 23).map (·.size) = some (D.K.map u8v).length := by rw [List.length_map, hK]; exact sizeId
  have cR : ∀ W, Below w.heap.size w W → Calls Tryz.prog 28 #[.agg (opC D A' n' c' B' m' d')] W fun o w' => o = .returned (.int .i64 (opE D)) ∧ Below W.heap.size W w' := fun W h => rr13_any D hK A' n' c' hlo bno B' m' d' hln bmo bp bt bo bnn W (rA.below h) (rB.below h)
  have cD : ∀ W, GrRd W A Xs → Calls Tryz.prog 16 #[.agg (tbC root (.slice A n c)), .agg (List.map u8v key).toArray, .string (txt D.p)] W fun e w' => e = .returned (.int .i64 (depV root Xs key D.p)) ∧ Below W.heap.size W w' := fun W h => rdepth19_any root hR A n c Xs hn (by omega) hP key hk D.p bp W h
  have g0 : TbK (w.alloc (.cells (tbC root (.slice A n c)) 31)) w.heap.size root (.slice A n c) := ⟨Blk.new _ _ _⟩
  have hb0 := (Below.refl w.heap.size w).alloc (Nat.le_refl _) (.cells (tbC root (.slice A n c)) 31)
  have hs0 := World.size_alloc w (.cells (tbC root (.slice A n c)) 31)
  have HRD := hid hr
  have HN := hid hn
  have HP := hid hP
  obtain ⟨R, hRR⟩ : ∃ R, applyD19 root Xs key D = R := ⟨_, rfl⟩
  have HRR := hid hRR
  rw [hRR]
  clear hr hn hP hRR hlo bno hln bmo bt bo bnn rA rB
  have HRV := hid (show R = (Xs, 1) by rw [← HRR.out]; unfold applyD19; rw [if_neg (by rw [he]; decide), if_pos hk5])
  rw [he] at cR
  clear HRR cD he
  go_enter Tryz.func10, Tryz.ntmps10
  go_upto_region 1 with (fail)
  generalize w.alloc (.cells (tbC root (.slice A n c)) 31) = W1 at *
  have hx1 := (Below.refl W1.heap.size W1).alloc (Nat.le_refl _) (.cells (idVals key) 23)
  have hk1 := range_blk (Blk.new W1 23 (idVals key))
  rw [hs0] at hk1
  have hs1 := World.size_alloc W1 (.cells (idVals key) 23)
  have g1 := g0.below hx1
  have hb1 := hb0.trans (hx1.mono hb0.size)
  clear hx1 hb0 g0
  generalize W1.alloc (.cells (idVals key) 23) = W2 at *
  have hx2 := (Below.refl W2.heap.size W2).alloc (Nat.le_refl _) (.cells (opC D A' n' c' B' m' d') 34)
  have hk2 := hk1.below hx2
  have ho2 := OpX.new W2 D A' n' c' B' m' d'
  rw [hs1, hs0] at ho2
  have hs2 := World.size_alloc W2 (.cells (opC D A' n' c' B' m' d') 34)
  have g2 := g1.below hx2
  have hb2 := hb1.trans (hx2.mono hb1.size)
  clear hx2 hb1 g1 hk1
  generalize W2.alloc (.cells (opC D A' n' c' B' m' d') 34) = W3 at *
  generalize hZ : (Obj.cells _ 31) = Z
  obtain ⟨zc, rfl, hzc⟩ : ∃ zc : Array Value, Z = Obj.cells zc 31 ∧ zc.size = 33 := ⟨_, hZ.symm, rfl⟩
  clear hZ
  have hx3 := (Below.refl W3.heap.size W3).alloc (Nat.le_refl _) (.cells zc 31)
  have hz3 := Blk.new W3 31 zc
  rw [hs2, hs1, hs0] at hz3
  have HS := hid (ApS.mk (g2.below hx3) (hk2.below hx3) (ho2.below hx3) hz3 (hb2.trans (hx3.mono hb2.size)) (by rw [World.size_alloc, hs2, hs1, hs0]; omega) : ApS w zc root (.slice A n c) key D A' n' c' B' m' d' (W3.alloc (.cells zc 31)))
  clear hx3 hz3 hb2 g2 hk2 ho2 hs0 hs1 hs2
  generalize W3.alloc (.cells zc 31) = W4 at *
  have hox := HS.out.o
  have hbS := HS.out.b
  go_wp2_with (first
    | (with_reducible refine wpList_load_opx (by with_unfolding_all rfl) _ rfl _ rfl hox hK ?_)
    | (go_at_call 28; (with_reducible refine (cR _ hbS).mono ?_); rintro e2 w2 ⟨rfl, hb2⟩; replace HS := hid (HS.out.below hb2); have hT := HS.out.t; have hz := HS.out.z; have c0 := HS.out.o.c0; clear hox)
    | (with_reducible refine wpList_load_tb (by with_unfolding_all rfl) _ rfl w.heap.size root hR _ rfl hT ?_)
    | ((with_reducible refine wpList_store_tb rfl _ _ rfl (w.heap.size + 1 + 1 + 1) root hR _ rfl hz hzc rfl rfl ?_); intro w9 ho9 hg9))
  have hb9 := below_grownS HS.out.b hg9 (by omega)
  refine bodyPost_ret (ret_tb2 rfl _ _ _ root hR _ rfl ho9) rfl (ApR.intro HRV.out ⟨A, c, by rw [HN.out], HRD.out.below hb9⟩ hb9)
set_option maxRecDepth 100000 in
set_option maxHeartbeats 20000000 in
theorem rapply19_low (root : List UInt8) (hR : root.length = 32) (A : Option Addr) (n c : Nat) (Xs : List GrD) (hn : Xs.length = n) (bn : n ≤ 900) (hP : ∀ X ∈ Xs, X.p.length ≤ 1000000) (key : List UInt8) (hk : key.length = 32) (D : OpD) (hK : D.K.length = 32) (A' : Option Addr) (n' c' : Nat) (hlo : D.o.length = n') (bno : n' ≤ 1000000) (B' : Option Addr) (m' d' : Nat) (hln : D.n.length = m') (bmo : m' ≤ 1000000) (bp : D.p.length ≤ 1000000) (bt : D.t.length ≤ 1000000) (bo : ∀ x ∈ D.o, x.length ≤ 1000000000000) (bnn : ∀ x ∈ D.n, x.length ≤ 1000000000000) (w : World) (hr : GrRd w A Xs) (rA : Rd w A' (D.o.map strV)) (rB : Rd w B' (D.n.map strV)) (he : opE D = 0) (hk5 : D.k = 5) (hd : depV root Xs key D.p ≤ D.d) :
    Calls Tryz.prog 10 #[.agg (tbC root (.slice A n c)), .agg (idVals key), .agg (opC D A' n' c' B' m' d')] w (ApR root (applyD19 root Xs key D) w) := by
  have hu := Tryz.underlying23
  have hzk : (Tryz.prog.info? 23).map (·.size) = some (key.map u8v).length := by rw [List.length_map, hk]; exact sizeId
  have hzr : (Tryz.prog.info? 23).map (·.size) = some (root.map u8v).length := by rw [List.length_map, hR]; exact sizeId
  have hzd : (Tryz.prog.info? 23).map (·.size) = some (D.K.map u8v).length := by rw [List.length_map, hK]; exact sizeId
  have cR : ∀ W, Below w.heap.size w W → Calls Tryz.prog 28 #[.agg (opC D A' n' c' B' m' d')] W fun o w' => o = .returned (.int .i64 (opE D)) ∧ Below W.heap.size W w' := fun W h => rr13_any D hK A' n' c' hlo bno B' m' d' hln bmo bp bt bo bnn W (rA.below h) (rB.below h)
  have cD : ∀ W, GrRd W A Xs → Calls Tryz.prog 16 #[.agg (tbC root (.slice A n c)), .agg (List.map u8v key).toArray, .string (txt D.p)] W fun e w' => e = .returned (.int .i64 (depV root Xs key D.p)) ∧ Below W.heap.size W w' := fun W h => rdepth19_any root hR A n c Xs hn (by omega) hP key hk D.p bp W h
  have g0 : TbK (w.alloc (.cells (tbC root (.slice A n c)) 31)) w.heap.size root (.slice A n c) := ⟨Blk.new _ _ _⟩
  have hb0 := (Below.refl w.heap.size w).alloc (Nat.le_refl _) (.cells (tbC root (.slice A n c)) 31)
  have hs0 := World.size_alloc w (.cells (tbC root (.slice A n c)) 31)
  have HRD := hid hr
  have HN := hid hn
  have HP := hid hP
  obtain ⟨R, hRR⟩ : ∃ R, applyD19 root Xs key D = R := ⟨_, rfl⟩
  have HRR := hid hRR
  rw [hRR]
  clear hr hn hP hRR hlo bno hln bmo bt bo bnn rA rB
  have k1 : ¬ D.k < 5 := by omega
  have k2 : (D.k == 5) = true := by rw [hk5]; rfl
  obtain ⟨z, hz0⟩ : ∃ z, depV root Xs key D.p = z := ⟨_, rfl⟩
  rw [hz0] at cD
  have HRV := hid (show R = (Xs, 10) by rw [← HRR.out]; unfold applyD19; rw [if_neg (by rw [he]; decide), if_neg k1, if_pos hk5, if_pos hd])
  rw [he] at cR
  rw [hz0] at hd
  have hd2 : ¬ D.d < z := by omega
  clear HRR he hz0 hk5
  go_enter Tryz.func10, Tryz.ntmps10
  go_upto_region 1 with (fail)
  generalize w.alloc (.cells (tbC root (.slice A n c)) 31) = W1 at *
  have hx1 := (Below.refl W1.heap.size W1).alloc (Nat.le_refl _) (.cells (idVals key) 23)
  have hk1 := range_blk (Blk.new W1 23 (idVals key))
  rw [hs0] at hk1
  have hs1 := World.size_alloc W1 (.cells (idVals key) 23)
  have g1 := g0.below hx1
  have hb1 := hb0.trans (hx1.mono hb0.size)
  clear hx1 hb0 g0
  generalize W1.alloc (.cells (idVals key) 23) = W2 at *
  have hx2 := (Below.refl W2.heap.size W2).alloc (Nat.le_refl _) (.cells (opC D A' n' c' B' m' d') 34)
  have hk2 := hk1.below hx2
  have ho2 := OpX.new W2 D A' n' c' B' m' d'
  rw [hs1, hs0] at ho2
  have hs2 := World.size_alloc W2 (.cells (opC D A' n' c' B' m' d') 34)
  have g2 := g1.below hx2
  have hb2 := hb1.trans (hx2.mono hb1.size)
  clear hx2 hb1 g1 hk1
  generalize W2.alloc (.cells (opC D A' n' c' B' m' d') 34) = W3 at *
  generalize hZ : (Obj.cells _ 31) = Z
  obtain ⟨zc, rfl, hzc⟩ : ∃ zc : Array Value, Z = Obj.cells zc 31 ∧ zc.size = 33 := ⟨_, hZ.symm, rfl⟩
  clear hZ
  have hx3 := (Below.refl W3.heap.size W3).alloc (Nat.le_refl _) (.cells zc 31)
  have hz3 := Blk.new W3 31 zc
  rw [hs2, hs1, hs0] at hz3
  have HS := hid (ApS.mk (g2.below hx3) (hk2.below hx3) (ho2.below hx3) hz3 (hb2.trans (hx3.mono hb2.size)) (by rw [World.size_alloc, hs2, hs1, hs0]; omega) : ApS w zc root (.slice A n c) key D A' n' c' B' m' d' (W3.alloc (.cells zc 31)))
  clear hx3 hz3 hb2 g2 hk2 ho2 hs0 hs1 hs2
  generalize W3.alloc (.cells zc 31) = W4 at *
  have hox := HS.out.o
  have hbS := HS.out.b
  go_wp2_with (first
    | (with_reducible refine wpList_load_opx (by with_unfolding_all rfl) _ rfl _ rfl hox hK ?_)
    | (go_at_call 28; (with_reducible refine (cR _ hbS).mono ?_); rintro e2 w2 ⟨rfl, hb2⟩; replace HS := hid (HS.out.below hb2); have hT := HS.out.t; have hz := HS.out.z; have c0 := HS.out.o.c0; clear hox))
  have hT := HS.out.t
  have f1 : ∀ w', (∃ p : LaterW w2, w' = p.w) → w'.rangeAt w.heap.size 0 (tbC root (.slice A n c)).toList := range_later HS.out.t.all
  have f2 : ∀ P : LaterW w2, P.w.cell? ⟨w.heap.size + 1 + 1, 1, none⟩ = some (.string (txt D.p)) := fun P => (HS.out.o.below P.h).c1
  have f3 : ∀ P : LaterW w2, P.w.cell? ⟨w.heap.size + 1 + 1, 38, none⟩ = some (.int .i64 D.d) := fun P => (HS.out.o.below P.h).c38 hK
  have fk := range_later HS.out.k
  have cP := fun P : LaterW w2 => cD P.w (HRD.out.below (HS.out.b.trans (P.h.mono HS.out.b.size)))
  refine wp_region_later mixed10 (by kernel_rfl) ?_
  repeat (first
    | ((with_reducible refine wpQuiet_load_tb (by with_unfolding_all rfl) _ rfl w.heap.size root hR (.slice A n c) rfl f1 ?_); simp only [Act.put, List.setIfInBounds_toArray, List.set_cons_zero, List.set_cons_succ])
    | ((with_reducible refine wpQuiet_load_if (by with_unfolding_all rfl) 23 _ rfl _ _ rfl (key.map u8v) _ fk hu (by with_unfolding_all rfl) hzk ?_); simp only [Act.put, List.setIfInBounds_toArray, List.set_cons_zero, List.set_cons_succ])
    | ((with_reducible refine wpQuiet_step (fun K hK => ?_)); go_simp; first | ((with_reducible refine hK _ ?_); clear hK K) | (with_reducible apply Exists.intro; (with_reducible refine ⟨fun P => ?_, hK _ ?_⟩); ((go_at_call 16; exact later_of (cP P))); clear hK K)))
  with_reducible refine wpQuiet_nil ?_
  intro _ hw9
  obtain ⟨P9, rfl⟩ := hw9
  replace HS := hid (HS.out.below P9.h)
  generalize P9.w = w3 at *
  clear f1 f2 f3 fk cP hT hz c0 cD
  have hT := HS.out.t
  have hz := HS.out.z
  go_wp2_with (first
    | (with_reducible refine wpList_load_tb (by with_unfolding_all rfl) _ rfl w.heap.size root hR _ rfl hT ?_)
    | ((with_reducible refine wpList_store_tb rfl _ _ rfl (w.heap.size + 1 + 1 + 1) root hR _ rfl hz hzc rfl rfl ?_); intro w9 ho9 hg9))
  have hb9 := below_grownS HS.out.b hg9 (by omega)
  refine bodyPost_ret (ret_tb2 rfl _ _ _ root hR _ rfl ho9) rfl (ApR.intro HRV.out ⟨A, c, by rw [HN.out], HRD.out.below hb9⟩ hb9)
set_option maxRecDepth 100000 in
set_option maxHeartbeats 20000000 in
theorem rapply19_low6 (root : List UInt8) (hR : root.length = 32) (A : Option Addr) (n c : Nat) (Xs : List GrD) (hn : Xs.length = n) (bn : n ≤ 900) (hP : ∀ X ∈ Xs, X.p.length ≤ 1000000) (key : List UInt8) (hk : key.length = 32) (D : OpD) (hK : D.K.length = 32) (A' : Option Addr) (n' c' : Nat) (hlo : D.o.length = n') (bno : n' ≤ 1000000) (B' : Option Addr) (m' d' : Nat) (hln : D.n.length = m') (bmo : m' ≤ 1000000) (bp : D.p.length ≤ 1000000) (bt : D.t.length ≤ 1000000) (bo : ∀ x ∈ D.o, x.length ≤ 1000000000000) (bnn : ∀ x ∈ D.n, x.length ≤ 1000000000000) (w : World) (hr : GrRd w A Xs) (rA : Rd w A' (D.o.map strV)) (rB : Rd w B' (D.n.map strV)) (he : opE D = 0) (hk5 : D.k = 6) (hd : depV root Xs key D.p < 1) :
    Calls Tryz.prog 10 #[.agg (tbC root (.slice A n c)), .agg (idVals key), .agg (opC D A' n' c' B' m' d')] w (ApR root (applyD19 root Xs key D) w) := by
  have hu := Tryz.underlying23
  have hzk : (Tryz.prog.info? 23).map (·.size) = some (key.map u8v).length := by rw [List.length_map, hk]; exact sizeId
  have hzr : (Tryz.prog.info? 23).map (·.size) = some (root.map u8v).length := by rw [List.length_map, hR]; exact sizeId
  have hzd : (Tryz.prog.info? 23).map (·.size) = some (D.K.map u8v).length := by rw [List.length_map, hK]; exact sizeId
  have cR : ∀ W, Below w.heap.size w W → Calls Tryz.prog 28 #[.agg (opC D A' n' c' B' m' d')] W fun o w' => o = .returned (.int .i64 (opE D)) ∧ Below W.heap.size W w' := fun W h => rr13_any D hK A' n' c' hlo bno B' m' d' hln bmo bp bt bo bnn W (rA.below h) (rB.below h)
  have cD : ∀ W, GrRd W A Xs → Calls Tryz.prog 16 #[.agg (tbC root (.slice A n c)), .agg (List.map u8v key).toArray, .string (txt D.p)] W fun e w' => e = .returned (.int .i64 (depV root Xs key D.p)) ∧ Below W.heap.size W w' := fun W h => rdepth19_any root hR A n c Xs hn (by omega) hP key hk D.p bp W h
  have g0 : TbK (w.alloc (.cells (tbC root (.slice A n c)) 31)) w.heap.size root (.slice A n c) := ⟨Blk.new _ _ _⟩
  have hb0 := (Below.refl w.heap.size w).alloc (Nat.le_refl _) (.cells (tbC root (.slice A n c)) 31)
  have hs0 := World.size_alloc w (.cells (tbC root (.slice A n c)) 31)
  have HRD := hid hr
  have HN := hid hn
  have HP := hid hP
  obtain ⟨R, hRR⟩ : ∃ R, applyD19 root Xs key D = R := ⟨_, rfl⟩
  have HRR := hid hRR
  rw [hRR]
  clear hr hn hP hRR hlo bno hln bmo bt bo bnn rA rB
  have k1 : ¬ D.k < 5 := by omega
  have k2 : (D.k == 5) = false := by rw [hk5]; rfl
  obtain ⟨z, hz0⟩ : ∃ z, depV root Xs key D.p = z := ⟨_, rfl⟩
  rw [hz0] at cD
  have HRV := hid (show R = (Xs, 10) by rw [← HRR.out]; unfold applyD19; rw [if_neg (by rw [he]; decide), if_neg k1, if_neg (by omega), if_pos hd])
  rw [he] at cR
  rw [hz0] at hd
  clear HRR he hz0
  go_enter Tryz.func10, Tryz.ntmps10
  go_upto_region 1 with (fail)
  generalize w.alloc (.cells (tbC root (.slice A n c)) 31) = W1 at *
  have hx1 := (Below.refl W1.heap.size W1).alloc (Nat.le_refl _) (.cells (idVals key) 23)
  have hk1 := range_blk (Blk.new W1 23 (idVals key))
  rw [hs0] at hk1
  have hs1 := World.size_alloc W1 (.cells (idVals key) 23)
  have g1 := g0.below hx1
  have hb1 := hb0.trans (hx1.mono hb0.size)
  clear hx1 hb0 g0
  generalize W1.alloc (.cells (idVals key) 23) = W2 at *
  have hx2 := (Below.refl W2.heap.size W2).alloc (Nat.le_refl _) (.cells (opC D A' n' c' B' m' d') 34)
  have hk2 := hk1.below hx2
  have ho2 := OpX.new W2 D A' n' c' B' m' d'
  rw [hs1, hs0] at ho2
  have hs2 := World.size_alloc W2 (.cells (opC D A' n' c' B' m' d') 34)
  have g2 := g1.below hx2
  have hb2 := hb1.trans (hx2.mono hb1.size)
  clear hx2 hb1 g1 hk1
  generalize W2.alloc (.cells (opC D A' n' c' B' m' d') 34) = W3 at *
  generalize hZ : (Obj.cells _ 31) = Z
  obtain ⟨zc, rfl, hzc⟩ : ∃ zc : Array Value, Z = Obj.cells zc 31 ∧ zc.size = 33 := ⟨_, hZ.symm, rfl⟩
  clear hZ
  have hx3 := (Below.refl W3.heap.size W3).alloc (Nat.le_refl _) (.cells zc 31)
  have hz3 := Blk.new W3 31 zc
  rw [hs2, hs1, hs0] at hz3
  have HS := hid (ApS.mk (g2.below hx3) (hk2.below hx3) (ho2.below hx3) hz3 (hb2.trans (hx3.mono hb2.size)) (by rw [World.size_alloc, hs2, hs1, hs0]; omega) : ApS w zc root (.slice A n c) key D A' n' c' B' m' d' (W3.alloc (.cells zc 31)))
  clear hx3 hz3 hb2 g2 hk2 ho2 hs0 hs1 hs2
  generalize W3.alloc (.cells zc 31) = W4 at *
  have hox := HS.out.o
  have hbS := HS.out.b
  go_wp2_with (first
    | (with_reducible refine wpList_load_opx (by with_unfolding_all rfl) _ rfl _ rfl hox hK ?_)
    | (go_at_call 28; (with_reducible refine (cR _ hbS).mono ?_); rintro e2 w2 ⟨rfl, hb2⟩; replace HS := hid (HS.out.below hb2); have hT := HS.out.t; have hz := HS.out.z; have c0 := HS.out.o.c0; have c1 := HS.out.o.c1; have fk := HS.out.k; have hrd := HRD.out.below HS.out.b; clear hox)
    | (with_reducible refine wpList_load_if (by with_unfolding_all rfl) 23 _ rfl _ _ rfl (key.map u8v) _ fk hu rfl hzk ?_)
    | (go_at_call 16; (with_reducible refine (cD _ hrd).mono ?_); rintro e3 w3 ⟨rfl, hb3⟩; replace HS := hid (HS.out.below hb3); replace hT := HS.out.t; replace hz := HS.out.z; clear c0 c1 fk)
    | (with_reducible refine wpList_load_tb (by with_unfolding_all rfl) _ rfl w.heap.size root hR _ rfl hT ?_)
    | ((with_reducible refine wpList_store_tb rfl _ _ rfl (w.heap.size + 1 + 1 + 1) root hR _ rfl hz hzc rfl rfl ?_); intro w9 ho9 hg9))
  have hb9 := below_grownS HS.out.b hg9 (by omega)
  refine bodyPost_ret (ret_tb2 rfl _ _ _ root hR _ rfl ho9) rfl (ApR.intro HRV.out ⟨A, c, by rw [HN.out], HRD.out.below hb9⟩ hb9)
end Go.Proofs.YtapgiagpjplpdaaGreat

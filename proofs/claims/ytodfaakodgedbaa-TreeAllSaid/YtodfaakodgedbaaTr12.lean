/- tree: all operations applied. -/
import Derived.Test.YtodfaakodgedbaaTr9
set_option linter.unusedSimpArgs false
set_option linter.unusedVariables false
namespace Go.Proofs.Ytodfaakodgedbaa
open Go.RowKit Go.Qc Go.Shelf
attribute [local go_sem] txt_size txt_append ib_fold txt_toL

theorem results_ctt {P : Program} {fn : Func} {p u v : Tmp} {ty : TypeId} (h : fn.results = #[.cell p ty, .tmp u, .tmp v]) (tmps : Array Value) (w : World) (g : Nat) (t : TypeId) (cs : Array Value) (d : TypeDesc)
    (hp : tmps.getD p undef = .pointer (some ⟨g, 0, none⟩)) (hg : Blk w g t cs)
    (hu : P.underlying ty = some d) (hd : (match d with | .struct _ | .array _ _ => true | _ => false) = true) (hi : (P.info? ty).map (·.size) = some cs.size) :
    (results fn tmps).run P w = .ok (.tuple #[.agg cs, tmps.getD u undef, tmps.getD v undef]) w := by
  have hp' : tmps[p]?.getD undef = .pointer (some ⟨g, 0, none⟩) := by simpa using hp
  simp only [results, h]
  simp [Sem.run_bind, hp', asAddr, run_loadVar_row w g t ty cs (0, 0) d hg hu hd hi, Result.andThen]
/-- What All tells, as values. -/
def TaV (w' : World) (A0 : Option Addr) (n0 c0 m : Nat) (L : List FD) (os : List OpD) (A : Option Addr) (n c : Nat) (i k : Int) : Prop :=
  (i = (m : Int) ∧ k = 0 ∧ ∃ Ys, allF 0 L os = .ok (Ys.map FlV.D) ∧ GoodF (Ys.map FlV.D) ∧ TrS w' A n c Ys) ∨ (A = A0 ∧ n = n0 ∧ c = c0 ∧ ∃ q : Nat, i = (q : Int) ∧ allF 0 L os = .error (q, k) ∧ ¬ k = 0)
theorem TaV.below {W W' : World} {A0 : Option Addr} {n0 c0 m : Nat} {L : List FD} {os : List OpD} {A : Option Addr} {n c : Nat} {i k : Int} (h : TaV W A0 n0 c0 m L os A n c i k) (hb : Below W.heap.size W W') : TaV W' A0 n0 c0 m L os A n c i k := by
  rcases h with ⟨h1, h2, Ys, h3, h4, h5⟩ | h
  · exact .inl ⟨h1, h2, Ys, h3, h4, h5.below hb⟩
  · exact .inr h
theorem TrS.kept {W W' : World} {g : Nat} {B : Option Addr} {m d : Nat} {Xs : List FlV} {v : Value} (hr : TrS W B m d Xs) (h : ∃ A n c, Blk W g 27 #[.slice A n c]) (hg : W.grownBy W' (some g)) : TrS W' B m d Xs := by
  obtain ⟨A, n, c, h⟩ := h
  exact hr.zs h hg

theorem wpList_store_tree {w : World} {ops : Array Oper} {rest : List Oper} {o : Oper} {a : Act} {Q : Exit → Act → World → Prop} (hgd : o.guard = none) (x y : Operand) (ho : o.op = .store 27 x y)
    (g : Nat) {v : Value} (A' : Option Addr) (n' c' : Nat) (hz : Blk w g 27 #[v]) (hx : a.eval x = .pointer (some ⟨g, 0, none⟩)) (hy : a.eval y = .agg #[.slice A' n' c'])
    (h : ∀ w', Blk w' g 27 #[.slice A' n' c'] → w.grownBy w' (some g) → wpList Try.prog ops Q rest (a.put o.dst undef) w') : wpList Try.prog ops Q (o :: rest) a w :=
  wpList_store_blk hgd 27 x y ho g _ #[.slice A' n' c'] 27 hz hx hy (by kernel_rfl) rfl (by simp [Value.oneCell']) h

set_option maxRecDepth 100000 in
set_option maxHeartbeats 40000000 in
theorem tall_any (A : Option Addr) (n c : Nat) (Xs : List FlV) (B : Option Addr) (m d : Nat) (Os : List OpV) (w : World) (hX : TrS w A n c Xs) (hg : GoodF (Xs.map FlV.D)) (hm : Os.length = m) (bm : m ≤ 1000) (hs : OpRd w B Os) (hO : ∀ X ∈ Os, OpR w X.D X.A X.n X.B X.m) :
    Calls Try.prog 6 #[.agg #[.slice A n c], .slice B m d] w fun e w' => ∃ A' n' c' i k, e = .returned (.tuple #[.agg #[.slice A' n' c'], .int .i64 i, .int .i64 k]) ∧ TaV w' A n c m (Xs.map FlV.D) (Os.map OpV.D) A' n' c' i k ∧ Below w.heap.size w w' := by
  have bm9 : m ≤ 9223372036854775807 := by omega
  have b1 := (Below.refl w.heap.size w).alloc (Nat.le_refl _) (.cells #[.slice A n c] 27)
  have b2 := b1.alloc b1.size (.cells #[.slice none 0 0] 27)
  have b3 := b2.alloc b2.size (.cells #[.slice A n c] 27)
  have h2 := ((Blk.new w 27 #[.slice A n c]).alloc (.cells #[.slice none 0 0] 27)).alloc (.cells #[.slice A n c] 27)
  have hz := (Blk.new (w.alloc (.cells #[.slice A n c] 27)) 27 #[.slice none 0 0]).alloc (.cells #[.slice A n c] 27)
  have h3 := Blk.new ((w.alloc (.cells #[.slice A n c] 27)).alloc (.cells #[.slice none 0 0] 27)) 27 #[.slice A n c]
  rw [World.size_alloc] at hz
  rw [World.size_alloc, World.size_alloc] at h3
  have HM := hid hm
  have HO := hid hO
  have HX := hid hX
  have HG := hid hg
  clear hm hO hX hg b1 b2
  generalize hLL : Xs.map FlV.D = LL at *
  go_enter Try.func6, Try.ntmps6
  go_wp2_with (first
    | (with_reducible refine wpList_load_tree (by with_unfolding_all rfl) _ rfl _ rfl ((Blk.new w 27 #[.slice A n c]).alloc (.cells #[.slice none 0 0] 27)) ?_))
  generalize ((w.alloc (.cells #[.slice A n c] 27)).alloc (.cells #[.slice none 0 0] 27)).alloc (.cells #[.slice A n c] 27) = W0 at *
  go_loopw [15] (fun i wr => ∃ (k : Nat) (Ys : List FlV) (A' : Option Addr) (n' c' : Nat), k ≤ m ∧ i = .int .i64 k ∧ Blk wr w.heap.size 27 #[.slice A n c] ∧ Blk wr (w.heap.size + 1) 27 #[.slice none 0 0] ∧ Blk wr (w.heap.size + 1 + 1) 27 #[.slice A' n' c'] ∧ Hid (TrS wr A' n' c' Ys ∧ GoodF (Ys.map FlV.D) ∧ allF 0 LL (Os.map OpV.D) = allF k (Ys.map FlV.D) ((Os.drop k).map OpV.D)) ∧ Below w.heap.size w wr) (fun i _ => m - (intOf i).toNat)
  case atStart => exact ⟨0, Xs, A, n, c, by omega, rfl, h2, hz, h3, hid ⟨HX.out.below b3, by rw [hLL]; exact HG.out, by rw [List.drop_zero, hLL]⟩, b3⟩
  case round =>
    clear h2 hz h3 b3
    obtain ⟨k, Ys, A', n', c', hk, rfl, h2, hz, h3, HI, hb⟩ := hrel
    have hsz := hb.size
    by_cases hlt : k < m
    · obtain ⟨X, hXk⟩ : ∃ X, Os[k]? = some X := ⟨_, List.getElem?_eq_getElem (by rw [HM.out]; exact hlt)⟩
      obtain ⟨g, q, hgX, hK, hix⟩ := hs.pick d HM.out hXk
      unfold OpV.cs at hgX
      replace hgX := hgX.below hb
      have hRX := hid ((HO.out X (List.mem_of_getElem? hXk)).below hb)
      have hdr : Os.drop k = X :: Os.drop (k + 1) := by
        obtain ⟨h1, h2⟩ := List.getElem?_eq_some_iff.1 hXk
        rw [List.drop_eq_getElem_cons h1, h2]
      have HD := hid hdr
      have b1 : (k : Int) < m := by omega
      clear hXk hdr
      have hx := OpX.new wr X.D X.A X.n X.c X.B X.m X.d
      have hbx := (Below.refl wr.heap.size wr).alloc (Nat.le_refl _) (.cells (opC X.D X.A X.n X.c X.B X.m X.d) 40)
      go_upto_region 5 with (first
        | (with_reducible refine wpList_load_opr (by with_unfolding_all rfl) _ rfl _ _ rfl hgX hK ?_)
        | (with_reducible refine wpList_store_opn rfl _ _ rfl rfl rfl hK (by with_unfolding_all rfl) ?_))
      replace h2 := h2.below hbx
      replace hz := hz.below hbx
      replace h3 := h3.below hbx
      have hb1 := hb.trans (hbx.mono hsz)
      have hsz1 := hb1.size
      have cP := tapply_r A' n' c' Ys X.D X.A X.n X.c X.B X.m X.d _ (HI.out.1.below hbx) HI.out.2.1 (hRX.out.below hbx)
      generalize wr.alloc (.cells (opC X.D X.A X.n X.c X.B X.m X.d) 40) = W1 at *
      go_upto_region 6 with (first
        | (with_reducible refine wpList_load_tree (by with_unfolding_all rfl) _ rfl _ rfl h3 ?_)
        | (with_reducible refine wpList_load_opx (by with_unfolding_all rfl) _ rfl _ rfl hx hK ?_)
        | (go_at_call 14; (with_reducible refine cP.mono ?_); rintro e4 w4 h4; obtain ⟨A9, n9, c9, k9, rfl, hV, hb4⟩ := h4.shape; replace hV := hid hV))
      have hba := (Below.refl w4.heap.size w4).alloc (Nat.le_refl _) (.cells #[.slice A9 n9 c9] 27)
      have h9 := Blk.new w4 27 #[.slice A9 n9 c9]
      replace h2 := (h2.below hb4).below hba
      replace hz := (hz.below hb4).below hba
      replace h3 := (h3.below hb4).below hba
      have hbC := hb4.trans (hba.mono hb4.size)
      replace hb := hb1.trans (hbC.mono hsz1)
      have hV2 := hV.out.good HI.out.2.1
      clear hV h4 cP hx
      rcases hV2 with ⟨e1, Zs, e2, e3, e4⟩ | ⟨e0, e1, e2, e3, e4⟩
      · subst e1
        have HZ := hid (And.intro e2 (And.intro e3 (e4.below hba)))
        clear e2 e3 e4
        generalize w4.alloc (.cells #[.slice A9 n9 c9] 27) = W5 at *
        go_wp2_with (first
          | (with_reducible refine wpList_load_tree (by with_unfolding_all rfl) _ rfl _ rfl h9 ?_)
          | (with_reducible refine wpList_store_blk rfl 27 _ _ rfl (w.heap.size + 1 + 1) _ #[.slice A9 n9 c9] 27 h3 rfl rfl ?c2 ?c3 ?c4 ?_))
        case c2 => kernel_rfl
        case c3 => rfl
        case c4 => simp [Value.oneCell']
        intro W9 hb9 hg9
        go_wp2
        go_roundw
        case rel => exact ⟨k + 1, Zs, A9, n9, c9, hlt, by go_num, blk_gb h2 hg9 (by omega), blk_gb hz hg9 (by omega), hb9, hid ⟨HZ.out.2.2.zs h3 hg9, HZ.out.2.1, by rw [HI.out.2.2, HD.out, List.map_cons, allF, HZ.out.1]⟩, hb.trans (below_of_gb hg9 (by omega) hb.size)⟩
        case measure => simp [intOf]; omega
      · have HZ := hid (And.intro e3 e4)
        clear e3 e4 e0 e1 e2
        generalize w4.alloc (.cells #[.slice A9 n9 c9] 27) = W5 at *
        have hne : ¬ k9 = 0 := HZ.out.2
        go_wp2_with (first
          | (with_reducible refine wpList_load_tree (by with_unfolding_all rfl) _ rfl _ rfl h2 ?_)
          | (with_reducible refine wpList_store_blk rfl 27 _ _ rfl (w.heap.size + 1) _ #[.slice A n c] 27 hz rfl rfl ?c2 ?c3 ?c4 ?_))
        case c2 => kernel_rfl
        case c3 => rfl
        case c4 => simp [Value.oneCell']
        intro W9 hb9 hg9
        go_wp2
        refine bodyPost_ret (results_ctt rfl _ _ _ _ _ _ rfl hb9 Try.underlying27 rfl (by kernel_rfl)) rfl ?_
        exact ⟨A, n, c, (k : Int), k9, rfl, .inr ⟨rfl, rfl, rfl, k, rfl, by rw [HI.out.2.2, HD.out, List.map_cons, allF, HZ.out.1], HZ.out.2⟩, hb.trans (below_of_gb hg9 (by omega) hb.size)⟩
    · obtain rfl : k = m := by omega
      have c1 : ¬ (k : Int) < k := by omega
      go_wp2_with (first
        | (with_reducible refine wpList_load_tree (by with_unfolding_all rfl) _ rfl _ rfl h3 ?_)
        | (with_reducible refine wpList_store_tree rfl _ _ rfl (w.heap.size + 1) A' n' c' hz rfl rfl ?_))
      intro W9 hb9 hg9
      go_wp2
      refine bodyPost_ret (results_ctt rfl _ _ _ _ _ _ rfl hb9 Try.underlying27 rfl (by kernel_rfl)) rfl ?_
      refine ⟨A', n', c', (k : Int), 0, rfl, .inl ⟨rfl, rfl, Ys, ?_, HI.out.2.1, HI.out.1.zs hz hg9⟩, hb.trans (below_of_gb hg9 (by omega) hb.size)⟩
      rw [HI.out.2.2, List.drop_of_length_le (by rw [HM.out]; exact Nat.le_refl _), List.map_nil, allF]
end Go.Proofs.Ytodfaakodgedbaa
/- tree: its files, told; as the document has them. -/
set_option linter.unusedSimpArgs false
set_option linter.unusedVariables false
namespace Go.Proofs.Ytodfaakodgedbaa
open Go.RowKit Go.Qc Go.Shelf
attribute [local go_sem] txt_size txt_append ib_fold txt_toL

theorem run_cellT {P : Program} {w : World} {g i : Nat} {old : Array Value} {t ty : TypeId} {v : Value} (hg : Blk w g t old) (hi : (P.info? ty).map (·.size) = some 1) (hs : i + 1 ≤ old.size) (hv : v.cells = #[v]) (h1 : v.oneCell' = true) :
    (Instr.storeAt ty (.pointer (some ⟨g, i, none⟩)) v).run P w = .ok () (w.setRow g (over old i [v])) := by
  have hst := run_storeCells_at P g i t [v] 0 old w hg (by simpa using hs) (by intro u hu; simp at hu; rw [hu]; exact h1)
  simp only [Nat.add_zero] at hst
  cases hq : P.info? ty with
  | none => simp [hq] at hi
  | some j =>
    have hsz : j.size = 1 := by simpa [hq] using hi
    simp [Instr.storeAt, Instr.sureAddr, storeVar, sizeOf, typeInfo, hq, hv, hsz]
    rw [hst]; simp [over]
theorem wp_store_cellT {P : Program} {w : World} {o : Oper} {a : Act} {K : Act → World → Prop} {Q : Exit → Act → World → Prop} (ty : TypeId) (x y : Operand) (ho : o.op = .store ty x y)
    (g i : Nat) (old : Array Value) (t : TypeId) (hg : Blk w g t old) (v : Value) (hx : a.eval x = .pointer (some ⟨g, i, none⟩)) (hy : a.eval y = v) (hi : (P.info? ty).map (·.size) = some 1) (hs : i + 1 ≤ old.size) (hv : v.cells = #[v]) (h1 : v.oneCell' = true)
    (h : ∀ w', Blk w' g t (over old i [v]) → w.grownBy w' (some g) → K (a.put o.dst undef) w') : o.wp P a w K Q := by
  obtain ⟨hb, hgr⟩ := blk_over hg (over old i [v])
  have hr := run_cellT (P := P) (ty := ty) hg hi hs hv h1
  unfold Oper.wp
  simp only [execOp, ho, hx, hy]
  simp only [Sem.run_bind, hr, Result.andThen, Sem.run_pure]
  exact h _ hb hgr
theorem OwnT.of {W : World} {base g n c : Nat} {Ds : List FlV} {cur : Array Value} (hn : Ds.length = n) (a1 : base ≤ g) (a2 : Blk W g 54 cur) (a3 : n ≤ c) (a4 : c ≤ maxLen) (a5 : cur.size = c * 2) (a6 : cur.toList.take (n * 2) = flsV Ds) : OwnT W base (.slice (some ⟨g, 0, none⟩) n c) n Ds :=
  ⟨by rw [flsV_length, hn], .inr ⟨g, c, cur, rfl, a1, a2, a3, a4, a5, a6⟩⟩
theorem flsV_at : ∀ (Xs : List FlV) (t : Nat), (flsV Xs)[t]? = (Xs[t / 2]?).bind (fun X => X.cs[t % 2]?)
  | [], t => by simp [flsV]
  | X :: Xs, t => by
    have hb : X.cs.length = 2 := rfl
    rw [flsV_cons]
    by_cases h : t < 2
    · rw [List.getElem?_append_left (by rw [hb]; exact h), show t / 2 = 0 by omega, show t % 2 = t by omega]
      rfl
    · rw [List.getElem?_append_right (by rw [hb]; omega), hb, flsV_at Xs (t - 2), show t / 2 = (t - 2) / 2 + 1 by omega, List.getElem?_cons_succ, show (t - 2) % 2 = t % 2 by omega]
/-- A file's lines are put in a row. -/
theorem OwnT.setl {W' : World} {base g n c i : Nat} {Ds : List FlV} {X Y : FlV} {cur : Array Value} (hn : Ds.length = n) (hi : Ds[i]? = some X) (hp : Y.p = X.p) (a1 : base ≤ g) (a3 : n ≤ c) (a4 : c ≤ maxLen) (a5 : cur.size = c * 2) (a6 : cur.toList.take (n * 2) = flsV Ds) (hW : Blk W' g 54 (over cur (i * 2 + 1) [.slice Y.A Y.n Y.c])) : OwnT W' base (.slice (some ⟨g, 0, none⟩) n c) n (Ds.set i Y) := by
  have hlt : i < n := by rw [← hn]; exact (List.getElem?_eq_some_iff.1 hi).1
  have hs : i * 2 + 1 + ([(.slice Y.A Y.n Y.c : Value)]).length ≤ cur.size := by rw [a5]; simp; omega
  refine OwnT.of (by rw [List.length_set]; exact hn) a1 hW a3 a4 (by rw [over_size _ _ _ hs]; exact a5) ?_
  apply List.ext_getElem?
  intro t
  rw [List.getElem?_take, flsV_at, List.getElem?_set]
  by_cases ht : t < n * 2
  · rw [if_pos ht, Array.getElem?_toList, over_get _ _ _ hs]
    have hq : cur[t]? = (Ds[t / 2]?).bind (fun X => X.cs[t % 2]?) := by
      rw [← flsV_at Ds t, ← a6, List.getElem?_take, if_pos ht, Array.getElem?_toList]
    by_cases h1 : t < i * 2 + 1
    · rw [if_pos h1, hq]
      by_cases h2 : i = t / 2
      · rw [if_pos h2, if_pos (by rw [hn]; omega), ← h2, hi, show t % 2 = 0 by omega]
        show some (Value.string (txt X.p)) = some (Value.string (txt Y.p))
        rw [hp]
      · rw [if_neg h2]
    · rw [if_neg h1]
      by_cases h2 : t = i * 2 + 1
      · rw [if_pos (by simp; omega), if_pos (by omega), if_pos (by rw [hn]; omega), show t - (i * 2 + 1) = 0 by omega, show t % 2 = 1 by omega]
        rfl
      · rw [if_neg (by simp; omega), hq, if_neg (by omega)]
  · rw [if_neg ht]
    rw [if_neg (by omega), List.getElem?_eq_none (by omega)]
    rfl
theorem infoSl : (Try.prog.info? 36).map (·.size) = some 1 := by kernel_rfl
/-- A row of the program's files is written: rows of texts stay. -/
theorem Rd.ts {W W' : World} {g : Nat} {cur : Array Value} {base n : Nat} {v : Value} {xs : List Value} (hr : W.ownsRow base 9 1 v n xs) (h : Blk W g 54 cur) (hg : W.grownBy W' (some g)) : W'.ownsRow base 9 1 v n xs :=
  hr.kept hg (.inr (Lib.ownBlock_ne hr h (by decide)))
/-- Copied so far. -/
structure CpI (w wr : World) (Xs Zs : List FlV) (k : Nat) : Prop where
  d : Zs.map FlV.D = Xs.map FlV.D
  o : ∀ (j : Nat) (Z : FlV), j < k → Zs[j]? = some Z → wr.ownsRow w.heap.size 9 1 (.slice Z.A Z.n Z.c) Z.n (Z.l.map strV)
  r : ∀ j, k ≤ j → Zs[j]? = Xs[j]?
theorem tf_index (g n c k : Nat) (hk : k < n) (W : World) : (Instr.indexAt 25 (.slice (some ⟨g, 0, none⟩) n c) (.int .i64 (k : Int))).run Try.prog W = .ok (.pointer (some ⟨g, k * 2, none⟩)) W := by
  obtain ⟨i0, Z, hi, _, h66, _⟩ := infoTf4
  have h1 : (0 : Int) ≤ (k : Int) ∧ (k : Int) < (n : Int) := by omega
  simp [Instr.indexAt, run_underlying Try.underlying25, asIntOf, h1, sizeOf, typeInfo, hi, h66, Addr.add_lit, Int.toNat_natCast]
  try (intro h2; omega)
theorem CpI.all {w wr : World} {Xs Zs : List FlV} {n : Nat} (h : CpI w wr Xs Zs n) (hn : Zs.length = n) (hX : ∀ X ∈ Xs, FlT w X) : ∀ Z ∈ Zs, FlT wr Z := by
  intro Z hZ
  obtain ⟨j, hj⟩ := List.getElem?_of_mem hZ
  have hjl := (List.getElem?_eq_some_iff.1 hj).1
  obtain ⟨A, c, e, hl, hc, hz, hr⟩ := own_lines (h.o j Z (by omega) hj)
  injection e with e1 e2 e3
  have hD : (Zs.map FlV.D)[j]? = some Z.D := by rw [List.getElem?_map, hj]; rfl
  rw [h.d, List.getElem?_map] at hD
  cases hx : Xs[j]? with
  | none => rw [hx] at hD; cases hD
  | some X =>
    rw [hx] at hD
    simp only [Option.map_some, Option.some.injEq] at hD
    have q := hX X (List.mem_of_getElem? hx)
    have qp : X.p = Z.p := congrArg Prod.fst hD
    have ql : X.l = Z.l := congrArg Prod.snd hD
    refine ⟨⟨hl, ?_, ?_, ?_, ?_⟩, ?_, ?_⟩
    · have := q.ok.bn; have := q.ok.ln; rw [ql] at this; omega
    · rw [← ql]; exact q.ok.bx
    · rw [← qp]; exact q.ok.bp
    · rw [e1]; exact hr
    · rw [e3]; exact hc
    · rw [e1, e3]; exact hz

set_option maxRecDepth 100000 in
set_option maxHeartbeats 40000000 in
theorem tcopied_any (A : Option Addr) (n c : Nat) (Xs : List FlV) (w : World) (hX : TrS w A n c Xs) (bn : n ≤ 1000) :
    Calls Try.prog 33 #[.slice A n c] w fun e w' => ∃ A' c' Zs, e = .returned (.slice A' n c') ∧ Zs.map FlV.D = Xs.map FlV.D ∧ TrS w' A' n c' Zs ∧ Below w.heap.size w w' := by
  have bn9 : n ≤ 9223372036854775807 := by omega
  have HX := hid hX
  clear hX
  go_enter Try.func33, Try.ntmps33
  go_wp2_with (go_at_call 53; (with_reducible refine (tclone_any A n c Xs _ HX.out.rw_.ln bn HX.out.rw_.nn HX.out.rw_.rd).mono ?_); rintro e1 w1 ⟨v1, rfl, hown, hb⟩; obtain ⟨Av, cv, rfl, hl1, hc1, hz1, hr1⟩ := hown.rd)
  go_loopw [9] (fun i wr => ∃ (k : Nat) (Zs : List FlV), k ≤ n ∧ i = .int .i64 k ∧ Zs.length = n ∧ OwnT wr w.heap.size (.slice Av n cv) n Zs ∧ Hid (CpI w wr Xs Zs k) ∧ Below w.heap.size w wr) (fun i _ => n - (intOf i).toNat)
  case atStart => exact ⟨0, Xs, by omega, rfl, hl1, hown, hid ⟨rfl, fun j Z h => by omega, fun j _ => rfl⟩, hb⟩
  case round =>
    clear hown hb hr1 hl1
    obtain ⟨k, Zs, hk, rfl, hZn, hown, HI, hb⟩ := hrel
    have hsz := hb.size
    by_cases hlt : k < n
    · have b1 : (k : Int) < n := by omega
      obtain ⟨X, hXk⟩ : ∃ X, Xs[k]? = some X := ⟨_, List.getElem?_eq_getElem (by rw [HX.out.rw_.ln]; exact hlt)⟩
      have hZk : Zs[k]? = some X := by rw [HI.out.r k (Nat.le_refl _)]; exact hXk
      have qX := HX.out.ok X (List.mem_of_getElem? hXk)
      rcases hown.2 with ⟨e, h0⟩ | ⟨g, cap, cur, e, a1, a2, a3, a4, a5, a6⟩
      · omega
      · cases e
        have hrg : wr.rangeAt g (k * 2) X.cs := fun j v hj => by
          have := flsV_get Zs k X j v hZk hj
          rw [← a6, List.getElem?_take] at this
          split at this
          · rw [cell_of_row wr g (k * 2 + j) cur _ _ a2, ← Array.getElem?_toList]; exact this
          · cases this
        have hix := tf_index g n cv k hlt
        have hbx := (Below.refl wr.heap.size wr).alloc (Nat.le_refl _) (.cells #[.string (txt X.p), .slice X.A X.n X.c] 54)
        have hf := Blk.new wr 54 #[.string (txt X.p), .slice X.A X.n X.c]
        have a2b : Blk wr g 54 cur := a2
        have a2x := a2b.alloc (.cells #[.string (txt X.p), .slice X.A X.n X.c] 54)
        have HK := hid (And.intro hXk hZk)
        clear hXk hZk
        go_upto_region 5 with (first
          | (with_reducible refine wpList_load_tf (by with_unfolding_all rfl) _ rfl _ _ rfl X hrg ?_))
        have hb1 := hb.trans (hbx.mono hsz)
        generalize wr.alloc (.cells #[.string (txt X.p), .slice X.A X.n X.c] 54) = W1 at *
        have x5 : W1.cell? ⟨wr.heap.size, 1, none⟩ = some (.slice X.A X.n X.c) := hf.cell_ rfl
        have hgW : g < W1.heap.size := a2x.lt
        have hso : k * 2 + 1 + 1 ≤ cur.size := by rw [a5]; omega
        go_wp2_with (first
          | (go_at_call 19; (with_reducible refine (clones_any X.A X.n X.c X.l qX.ok.ln (by have := qX.ok.bn; omega) _ (qX.ok.rA.below hb1)).mono ?_); rintro e2 w2 ⟨v2, rfl, hrow, hb2⟩; obtain ⟨A2, c2, rfl, hl2, hc2, hz2, hr2⟩ := own_lines hrow; replace a2x := a2x.below hb2; replace hb1 := hb1.trans (hb2.mono hb1.size))
          | (with_reducible refine wpList_plain rfl (fun _ hK => wp_store_cellT 36 _ _ rfl g (k * 2 + 1) cur 54 a2x (.slice A2 X.n c2) rfl rfl infoSl hso rfl rfl (fun w' hb9 hg9 => hK _ _ ?_))))
        go_wp2
        have hbx2 := hbx.trans (hb2.mono hbx.size)
        have hown2 := own_le hrow (Nat.le_trans hsz hbx.size)
        go_roundw
        case rel =>
          refine ⟨k + 1, Zs.set k ⟨X.p, X.l, A2, X.n, c2⟩, hlt, by go_num, by rw [List.length_set]; exact hZn, OwnT.setl (Y := ⟨X.p, X.l, A2, X.n, c2⟩) hZn HK.out.2 rfl a1 a3 a4 a5 a6 hb9, hid ⟨?_, fun j Z hj hZ => ?_, fun j hj => ?_⟩, hb1.trans (below_of_gb hg9 a1 hb1.size)⟩
          · rw [List.map_set, HI.out.d]
            apply List.ext_getElem?
            intro j
            rw [List.getElem?_set]
            by_cases hj : k = j
            · subst hj
              rw [if_pos rfl, List.getElem?_map, HK.out.1, List.length_map, if_pos (by rw [HX.out.rw_.ln]; exact hlt)]
              rfl
            · rw [if_neg hj]
          · rw [List.getElem?_set] at hZ
            by_cases hj2 : k = j
            · rw [if_pos hj2, if_pos (by omega)] at hZ
              cases hZ
              exact Rd.ts hown2 a2x hg9
            · rw [if_neg hj2] at hZ
              exact Rd.ts (own_below (HI.out.o j Z (by omega) hZ) hbx2) a2x hg9
          · rw [List.getElem?_set, if_neg (by omega)]
            exact HI.out.r j (by omega)
        case measure => simp [intOf]; omega
    · obtain rfl : k = n := by omega
      have c1 : ¬ (k : Int) < k := by omega
      go_wp2
      go_ret
      refine ⟨Av, cv, rfl, Zs, HI.out.d, ?_, hb⟩
      obtain ⟨A3, c3, e3, h3, h4, h5, h6⟩ := hown.rd
      cases e3
      exact ⟨⟨hZn, h4, h5, h6⟩, HI.out.all hZn HX.out.ok⟩

set_option maxRecDepth 100000 in
set_option maxHeartbeats 40000000 in
theorem tfiles_any (A : Option Addr) (n c : Nat) (Xs : List FlV) (w : World) (hX : TrS w A n c Xs) (bn : n ≤ 1000) :
    Calls Try.prog 17 #[.agg #[.slice A n c]] w fun e w' => ∃ A' c' Zs, e = .returned (.slice A' n c') ∧ Zs.map FlV.D = Xs.map FlV.D ∧ TrS w' A' n c' Zs ∧ Below w.heap.size w w' := by
  have hba := (Below.refl w.heap.size w).alloc (Nat.le_refl _) (.cells #[.slice A n c] 27)
  have HX := hid hX
  clear hX
  go_enter Try.func17, Try.ntmps17
  go_wp2_with (go_at_call 33; (with_reducible refine (tcopied_any A n c Xs _ (HX.out.below hba) bn).mono ?_); rintro e1 w1 ⟨A1, c1, Zs, rfl, hd, hS, hb⟩)
  go_ret
  exact ⟨A1, c1, Zs, rfl, hd, hS, hba.trans (hb.mono hba.size)⟩
end Go.Proofs.Ytodfaakodgedbaa
/- The law's own functions: files as the document has them; whether operations may be asked about; tree: Get. -/
set_option linter.unusedSimpArgs false
set_option linter.unusedVariables false
namespace Go.Proofs.Ytodfaakodgedbaa
open Go.RowKit Go.Qc Go.Shelf
attribute [local go_sem] txt_size txt_append ib_fold txt_toL

theorem OwnF.none_ (W : World) (base : Nat) : OwnF W base (.slice none 0 0) 0 [] := ⟨rfl, .inl ⟨rfl, rfl⟩⟩

set_option maxRecDepth 100000 in
set_option maxHeartbeats 40000000 in
theorem tplain_any (A : Option Addr) (n c : Nat) (Xs : List FlV) (w : World) (hX : TrS w A n c Xs) (bn : n ≤ 900) :
    Calls Try.prog 9 #[.agg #[.slice A n c]] w fun e w' => ∃ A' c', e = .returned (.slice A' n c') ∧ ∃ Zs, Zs.map FlV.D = Xs.map FlV.D ∧ Zs.length = n ∧ FlRd w' A' Zs ∧ (∀ Z ∈ Zs, FlOk w' Z) ∧ Below w.heap.size w w' := by
  have bn9 : n ≤ 9223372036854775807 := by omega
  have hba := (Below.refl w.heap.size w).alloc (Nat.le_refl _) (.cells #[.slice A n c] 27)
  have h2 := Blk.new w 27 #[.slice A n c]
  have HX := hid hX
  clear hX
  go_enter Try.func9, Try.ntmps9
  go_wp2_with (first
    | (with_reducible refine wpList_load_tree (by with_unfolding_all rfl) _ rfl _ rfl h2 ?_)
    | (go_at_call 17; (with_reducible refine (tfiles_any A n c Xs _ (HX.out.below hba) (by omega)).mono ?_); rintro e1 w1 ⟨A1, c1, Zs, rfl, hd, hS, hb⟩; have HS := hid hS; have HD := hid hd; have hb1 := hba.trans (hb.mono hba.size); clear hb hd hS))
  go_loopw [3, 9] (fun v i wr => ∃ k : Nat, k ≤ n ∧ i = .int .i64 k ∧ OwnF wr w1.heap.size v k (Zs.take k) ∧ Below w1.heap.size w1 wr) (fun _ i _ => n - (intOf i).toNat)
  case atStart => exact ⟨0, by omega, rfl, OwnF.none_ _ _, Below.refl _ _⟩
  case round =>
    obtain ⟨k, hk, rfl, hown, hb⟩ := hrel
    have hsz := hb.size
    by_cases hlt : k < n
    · have b1 : (k : Int) < n := by omega
      obtain ⟨X, hXk⟩ : ∃ X, Zs[k]? = some X := ⟨_, List.getElem?_eq_getElem (by rw [HS.out.rw_.ln]; exact hlt)⟩
      obtain ⟨g, q, hg, -, -, hix⟩ := HS.out.rw_.rd.pickT c1 HS.out.rw_.ln hXk
      have hg1 := hg.below hb
      have HK := hid hXk
      have hbx := (Below.refl wr.heap.size wr).alloc (Nat.le_refl _) (.cells #[.string (txt X.p), .slice X.A X.n X.c] 54)
      have hf := Blk.new wr 54 #[.string (txt X.p), .slice X.A X.n X.c]
      clear hXk hg
      go_upto_region 5 with (first
        | (with_reducible refine wpList_load_tf (by with_unfolding_all rfl) _ rfl _ _ rfl X hg1 ?_))
      replace hb := hb.trans (hbx.mono hsz)
      replace hown := hown.below hbx
      generalize wr.alloc (.cells #[.string (txt X.p), .slice X.A X.n X.c] 54) = W1 at *
      have x5 : W1.cell? ⟨wr.heap.size, 0, none⟩ = some (.string (txt X.p)) := hf.cell_ rfl
      have x6 : W1.cell? ⟨wr.heap.size, 1, none⟩ = some (.slice X.A X.n X.c) := hf.cell_ rfl
      go_wp2_with (first
        | (at_builtin; refine wpList_append_fl1 rfl _ _ rfl w1.heap.size _ _ _ rfl hown X rfl (by omega) hb.size ?_; intro v' W' hown' hbt; replace hb := hbt _ _ (Nat.le_refl _) hb; replace hown := hown'; clear hown' hbt))
      go_roundw
      case rel => exact ⟨k + 1, hlt, by go_num, by rw [take_snoc HK.out]; exact hown, hb⟩
      case measure => simp [intOf]; omega
    · obtain rfl : k = n := by omega
      have c1 : ¬ (k : Int) < k := by omega
      go_wp2
      rw [List.take_of_length_le (by rw [HS.out.rw_.ln]; exact Nat.le_refl _)] at hown
      obtain ⟨A9, c9, rfl, hl9, hr9⟩ := hown.rd
      go_ret
      exact ⟨A9, ⟨c9, rfl⟩, Zs, HD.out, HS.out.rw_.ln, hr9, fun Z hZ => ((HS.out.ok Z hZ).ok).below hb, hb1.trans (hb.mono hb1.size)⟩

/-- May operations be asked about? -/
def fewT (Xs : List OpV) : Bool := decide (Xs.length ≤ 40) && Xs.all fun X => !lngO X.D
set_option maxRecDepth 100000 in
set_option maxHeartbeats 40000000 in
theorem tfew_any (A : Option Addr) (n c : Nat) (Xs : List OpV) (w : World) (hR : OpRow w A n Xs) :
    Calls Try.prog 4 #[.slice A n c] w fun e w' => e = .returned (.bool (fewT Xs)) ∧ Below w.heap.size w w' := by
  obtain ⟨hn, bn, hrd, hin⟩ := hR
  have HN := hid hn
  have HIN := hid hin
  have bn9 : n ≤ 9223372036854775807 := Nat.le_trans bn (by decide)
  clear bn hn hin
  go_enter Try.func4, Try.ntmps4
  go_wp2
  go_loopw [7] (fun i wr => ∃ j : Nat, j ≤ n ∧ i = .int .i64 j ∧ Hid (((Xs.take j).all fun X => !lngO X.D) = true) ∧ Below w.heap.size w wr) (fun i _ => n - (intOf i).toNat)
  case atStart => exact ⟨0, by omega, rfl, hid (by simp), Below.refl _ _⟩
  case round =>
    obtain ⟨j, hj, rfl, HT2, hb⟩ := hrel
    by_cases hlt2 : j < n
    · obtain ⟨X, hXk⟩ : ∃ X, Xs[j]? = some X := ⟨_, List.getElem?_eq_getElem (by have := HN.out; omega)⟩
      obtain ⟨g, q, hg, hK, hix⟩ := hrd.pick c HN.out hXk
      obtain ⟨_, q1, q2, q3, q4⟩ := HIN.out X (List.mem_of_getElem? hXk)
      have fX := hg.below hb
      unfold OpV.cs at fX
      have HX := hid hXk
      have c1 : (j : Int) < n := by omega
      have cL := fun (W : World) (h : Below w.heap.size w W) => rlong13_any X.D hK X.A X.n X.c q1.1 q1.2.1 X.B X.m X.d q2.1 q2.2.1 q3 q4 W (q1.2.2.below h) (q2.2.2.below h)
      have hz1 := fun (W : World) => OpX.new W X.D X.A X.n X.c X.B X.m X.d
      clear hXk hg q1 q2 q3 q4
      cases hl : lngO X.D with
      | true =>
        rw [hl] at cL
        have HL := hid hl
        clear hl
        go_wp2_with (first
          | (with_reducible refine wpList_load_opr (by with_unfolding_all rfl) _ rfl _ _ rfl fX hK ?_)
          | ((with_reducible refine wpList_store_opn rfl _ _ rfl rfl rfl hK (by with_unfolding_all rfl) ?_); have hb3 := hb.alloc hb.size (.cells (opC X.D X.A X.n X.c X.B X.m X.d) 40))
          | (with_reducible refine wpList_load_opx (by with_unfolding_all rfl) _ rfl _ rfl (hz1 _) hK ?_)
          | (go_at_call 12; (with_reducible refine (cL _ hb3).mono ?_); rintro o4 w4 ⟨rfl, hb4⟩; have hb5 := hb3.trans (hb4.mono hb3.size)))
        go_ret
        refine ⟨congrArg (fun b => Ending.returned (Value.bool b)) (Eq.symm ?_), hb5⟩
        unfold fewT
        rw [Bool.and_eq_false_iff]
        right
        rw [List.all_eq_false]
        exact ⟨X, List.mem_of_getElem? HX.out, by rw [HL.out]; decide⟩
      | false =>
        rw [hl] at cL
        have HL := hid hl
        clear hl
        go_wp2_with (first
          | (with_reducible refine wpList_load_opr (by with_unfolding_all rfl) _ rfl _ _ rfl fX hK ?_)
          | ((with_reducible refine wpList_store_opn rfl _ _ rfl rfl rfl hK (by with_unfolding_all rfl) ?_); have hb3 := hb.alloc hb.size (.cells (opC X.D X.A X.n X.c X.B X.m X.d) 40))
          | (with_reducible refine wpList_load_opx (by with_unfolding_all rfl) _ rfl _ rfl (hz1 _) hK ?_)
          | (go_at_call 12; (with_reducible refine (cL _ hb3).mono ?_); rintro o4 w4 ⟨rfl, hb4⟩; have hb5 := hb3.trans (hb4.mono hb3.size)))
        go_roundw
        case rel => exact ⟨j + 1, hlt2, by go_num, hid (by rw [take_snoc HX.out, List.all_append, HT2.out]; simp [HL.out]), hb5⟩
        case measure => simp [intOf]; omega
    · obtain rfl : j = n := by omega
      have c1 : ¬ (j : Int) < j := by omega
      have ht := HT2.out
      rw [List.take_of_length_le (by have := HN.out; omega)] at ht
      have HU := hid ht
      clear ht HT2
      go_wp2
      go_ret
      refine ⟨?_, hb⟩
      unfold fewT
      rw [HU.out, Bool.and_true, HN.out]
      refine congrArg (fun b => Ending.returned (Value.bool b)) ?_
      rw [decide_eq_decide]
      omega

set_option maxRecDepth 100000 in
set_option maxHeartbeats 40000000 in
theorem tget_hit (A : Option Addr) (n c : Nat) (Xs : List FlV) (s : List UInt8) (X : FlV) (w : World) (hX : TrS w A n c Xs) (hg : GoodF (Xs.map FlV.D)) (hm : X ∈ Xs) (hs : X.p = s) :
    Calls Try.prog 13 #[.agg #[.slice A n c], .string (txt s)] w fun e w' => ∃ A' c', e = .returned (.tuple #[.slice A' X.l.length c', .bool true]) ∧ Rd w' A' (X.l.map strV) ∧ Below w.heap.size w w' := by
  have hn200 := hg.bn hX.rw_
  have hba := (Below.refl w.heap.size w).alloc (Nat.le_refl _) (.cells #[.slice A n c] 27)
  have h2 := Blk.new w 27 #[.slice A n c]
  have HX := hid hX
  have HG := hid hg
  have HM := hid (And.intro hm hs)
  clear hX hg hm hs
  go_enter Try.func13, Try.ntmps13
  go_upto_region 1 with (fail)
  generalize w.alloc (.cells #[.slice A n c] 27) = W0 at *
  have hb := Below.refl W0.heap.size W0
  go_upto_region 2 with (first
    | (with_reducible refine wpList_load_tree (by with_unfolding_all rfl) _ rfl _ rfl (h2.below hb) ?_)
    | (go_at_call 18; (with_reducible refine (tfind_any A n c Xs s _ HX.out.rw_.ln (by omega) ((HX.out.below hba).below hb).rw_.rd HG.out.s).mono ?_); rintro e3 w3 ⟨p, rfl, hp, hb1⟩; replace hp := hid hp; replace hb := hb.trans (hb1.mono hb.size); clear hb1))
  have hh : hitB Xs s p = true := (hit_iff HG.out.s hp.out).2 ⟨X, HM.out.1, HM.out.2⟩
  obtain ⟨Y, hY1, hY2, hY3⟩ := hit_at HG.out.s hp.out hh
  have hYX : Y.D = X.D := by
    have e1 := look_at (Xs.map FlV.D) s
    obtain ⟨k, hk⟩ := List.getElem?_of_mem HM.out.1
    by_cases hkp : k = p
    · subst hkp; rw [hk] at hY1; cases hY1; rfl
    · rcases Nat.lt_or_gt_of_ne hkp with hl | hl
      · have := sort_get HG.out.s hl hk hY1
        rw [HM.out.2, hY2, bl_irr] at this
        cases this
      · have := sort_get HG.out.s hl hY1 hk
        rw [HM.out.2, hY2, bl_irr] at this
        cases this
  have hl : Y.l = X.l := congrArg Prod.snd hYX
  have qY := (HX.out.below (hba.trans (hb.mono hba.size))).ok Y (List.mem_of_getElem? hY1)
  obtain ⟨g, q, -, -, h9, hix⟩ := (((HX.out.below hba).below hb).rw_.rd).pickT c HX.out.rw_.ln hY1
  have x4 : w3.cell? ⟨w.heap.size, 0, none⟩ = some (.slice A n c) := (h2.below hb).cell_ rfl
  have HL := hid hl
  have HQ := hid qY
  rw [hh]
  clear hh hYX hY1 hY2 hY3 hl qY
  go_wp2_with (go_at_call 19; (with_reducible refine (clones_any Y.A Y.n Y.c Y.l HQ.out.ok.ln (by have := HQ.out.ok.bn; omega) _ HQ.out.ok.rA).mono ?_); rintro e2 w2 ⟨v2, rfl, hrow, hb2⟩; obtain ⟨A2, c2, rfl, hl2, hc2, hz2, hr2⟩ := own_lines hrow; replace hb := hb.trans (hb2.mono hb.size))
  go_ret2
  refine ⟨A2, c2, ?_, ?_, hba.trans (hb.mono hba.size)⟩
  · rw [← HL.out, hl2]; rfl
  · rw [← HL.out]; exact hr2
end Go.Proofs.Ytodfaakodgedbaa

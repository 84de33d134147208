
/- witness: Find, of what fits. -/
import Derived.Test.YticpdepbgcagaaaGreatWi8
set_option linter.unusedSimpArgs false
set_option linter.unusedVariables false
namespace Go.Proofs.YticpdepbgcagaaaGreat
open Go.RowKit Go.Qc Go.Shelf
attribute [local go_sem] txt_size txt_append ib_fold
theorem texts1_all (pb pp px pl : Nat) (Ap : Option Addr) (cp : Nat) (Aw : Option Addr) (cw n H L : Nat) (pubs : List (List UInt8)) (lf : List UInt8) (way : List (List UInt8)) (hn : n ≤ 256) (hH : H ≤ 5) (hL : L < 32) (hl : lf.length = 32) (hcw : H ≤ cw) (p : Nat) (hp : p ≤ H + 1) (w : World) (hS : TxS w pb pp px pl Ap cp Aw cw n H L pubs lf way) :
    Calls Tryz.prog 63 (#[.int .i64 p] ++ #[.pointer (some ⟨pb, 0, none⟩), .pointer (some ⟨pp, 0, none⟩), .pointer (some ⟨px, 0, none⟩), .pointer (some ⟨pl, 0, none⟩)]) w fun e w' => e = .returned (.string (txt (wtT n H L pubs lf way p))) ∧ Below w.heap.size w w' := by
  cases p with
  | zero => exact texts1_leaf pb pp px pl Ap cp Aw cw n H L pubs lf way hn w hS
  | succ q =>
    rw [wtT_succ]
    by_cases hq : H ≤ q
    · rw [if_pos hq]
      exact texts1_key pb pp px pl Ap cp Aw cw n H L pubs lf way hn (by omega) (by omega) hl (q + 1) (by omega) w hS
    · rw [if_neg hq]
      by_cases hb : L / 2 ^ q % 2 = 1
      · rw [if_pos hb]
        exact texts1_right pb pp px pl Ap cp Aw cw n H L pubs lf way hn hH hL hl hcw q (q + 1) rfl (by omega) hb w hS
      · rw [if_neg hb]
        exact texts1_left pb pp px pl Ap cp Aw cw n H L pubs lf way hn hH hL hl hcw q (q + 1) rfl (by omega) (by omega) w hS
theorem hfnT : ∀ args W, (callFunc 63 args).run Tryz.prog W = .ok (.enter 63 args) W := fun args W => by
  have h1 : decide (Tryz.f63.name = "runtime.NumGoroutine") = false := by kernel_rfl
  have h2 : Tryz.f63.body.isNone = false := by kernel_rfl
  have h1' : ¬ Tryz.f63.name = "runtime.NumGoroutine" := of_decide_eq_false h1
  have h2' : ¬ Tryz.f63.body = none := fun e => by rw [e] at h2; cases h2
  simp [callFunc, Tryz.func63, h1', h2']
theorem wrapW1 {H m : Nat} (hm : m = H + 1) (hH : H ≤ 5) : wrap64 ((H : Int) + 1) = (m : Int) := by rw [hm]; unfold wrap64; omega
theorem wrapW2 {H m : Nat} (hm : m = H + 1) (hH : H ≤ 5) : IntKind.i64.wrap ((H : Int) + 1) = (m : Int) := by rw [IntKind.wrap_i64, hm]; omega
/-- The first bit whose side no row has shown. -/
def fstW (n : Nat) (Xs : List WiD) (L : Int) (a : List UInt8) : Option Nat := (List.range n).find? fun b => !shwB Xs L b ((bitZ a b : Nat) : Int)
theorem fstW_none {n : Nat} {Xs : List WiD} {L : Int} {a : List UInt8} (h : ∀ j, j < n → shwB Xs L j ((bitZ a j : Nat) : Int) = true) : fstW n Xs L a = none := by
  unfold fstW
  rw [List.find?_range_eq_none]
  intro i hi
  rw [h i hi]
  rfl
theorem fstW_some {n k : Nat} {Xs : List WiD} {L : Int} {a : List UInt8} (hk : k < n) (h : ∀ j, j < k → shwB Xs L j ((bitZ a j : Nat) : Int) = true) (e : shwB Xs L k ((bitZ a k : Nat) : Int) = false) : fstW n Xs L a = some k := by
  unfold fstW
  rw [List.find?_range_eq_some]
  refine ⟨by rw [e]; rfl, List.mem_range.2 hk, fun j hj => ?_⟩
  rw [h j hj]
  rfl
/-- The witness of what is verified. -/
def fdR (T U : Nat → List UInt8) (n L : Nat) (a : List UInt8) (l : List (List UInt8)) (Xs : List WiD) : Option Nat → Array Value
  | some k => wt2 (txt (T k)) (txt (U k))
  | none => if honB n Xs a L = true then wt1 else match fstW n Xs L a with
    | some b => wt3 L b (bitZ a b : Nat) (getB l b)
    | none => wt0
/-- The owner's root. -/
def ownR (n H L : Nat) (s a : List UInt8) : List UInt8 := rootB a (upTo (shownX s L a) n) (upTo (hiddenX s L a) n) (upTo (wayF (lfF s n) L) H) n L
def fdW (n H L : Nat) (s a : List UInt8) (l r way : List (List UInt8)) (Xs : List WiD) : Array Value :=
  fdR (wiT n H L a l r way) (wiT n H L a (upTo (shownX s L a) n) (upTo (hiddenX s L a) n) (upTo (wayF (lfF s n) L) H)) n L a l Xs (unlW (wiT n H L a l r way) (wiT n H L a (upTo (shownX s L a) n) (upTo (hiddenX s L a) n) (upTo (wayF (lfF s n) L) H)) (H + 1 + 1))
def fdA (n H L : Nat) (s a : List UInt8) (l r way : List (List UInt8)) (Xs : List WiD) : Value :=
  if keyB n H (rootB a l r way n L) = keyB n H (ownR n H L s a) then .tuple #[.agg (fdW n H L s a l r way Xs), .int .i64 0] else .tuple #[.agg wt0, .int .i64 9]

theorem wun_all (n H L : Nat) (hn : n ≤ 256) (hH : H ≤ 5) (hL5 : L < 32) (a : List UInt8) (A3 C : Option Addr) (c3 d3 : Nat) (l r way R1 R2 R3 : List (List UInt8)) (hc3 : H ≤ c3) (hd3 : H ≤ d3) (m : Nat) (hm : m = H + 1) : ∀ (W : World) (pb pp px pl : Nat) (Ap : Option Addr) (cp : Nat) (qb qp qx ql : Nat) (Aq : Option Addr) (cq : Nat), TxS W pb pp px pl Ap cp C c3 n H L (sideL (pubF a l r) n) (recB a l r n) way → TxS W qb qp qx ql Aq cq A3 d3 n H L (sideL (pubF a R1 R2) n) (recB a R1 R2 n) R3 → Calls Tryz.prog 30 #[.int .i64 m, .func (.func 63) #[] #[.pointer (some ⟨pb, 0, none⟩), .pointer (some ⟨pp, 0, none⟩), .pointer (some ⟨px, 0, none⟩), .pointer (some ⟨pl, 0, none⟩)], .func (.func 63) #[] #[.pointer (some ⟨qb, 0, none⟩), .pointer (some ⟨qp, 0, none⟩), .pointer (some ⟨qx, 0, none⟩), .pointer (some ⟨ql, 0, none⟩)]] W fun e w' => e = .returned (unR (wiT n H L a l r way) (wiT n H L a R1 R2 R3) (unlW (wiT n H L a l r way) (wiT n H L a R1 R2 R3) (m + 1))) ∧ Below W.heap.size W w' :=
  fun W pb pp px pl Ap cp qb qp qx ql Aq cq h1 h2 => wunlike_any 63 63 hfnT hfnT _ _ _ _ m (by omega) W
    (fun p hp V hV => by
      have h := texts1_all pb pp px pl Ap cp C c3 n H L _ _ way hn hH hL5 (recB_length a l r n) hc3 p (by omega) V (h1.below hV)
      rw [wtT_eq] at h
      exact h)
    (fun p hp V hV => by
      have h := texts1_all qb qp qx ql Aq cq A3 d3 n H L _ _ R3 hn hH hL5 (recB_length a R1 R2 n) hd3 p (by omega) V (h2.below hV)
      rw [wtT_eq] at h
      exact h)

set_option maxRecDepth 100000 in
set_option maxHeartbeats 20000000 in
theorem wfind_main (n H L : Nat) (s : List UInt8) (hs : s.length ≤ 1000) (a : List UInt8) (ha : a.length = 32) (X : Option Addr) (x cx : Nat) (Xs : List WiD) (hxn : Xs.length = x) (bx : x ≤ 1000) (A B C : Option Addr) (c1 c2 c3 : Nat) (l r way : List (List UInt8)) (hf : fitsP n H L n n H) (hH : H ≤ 5) (hc3 : H ≤ c3) (w : World) (hA : RowR w A n l) (hB : RowR w B n r) (hC : RowR w C H way) (hX : WiRd w X Xs) :
    Calls Tryz.prog 7 #[.agg #[.int .i64 n, .int .i64 H], .string (txt s), .slice X x cx, .agg (idVals a), .agg #[.int .i64 L, .slice A n c1, .slice B n c2, .slice C H c3]] w fun e w' => e = .returned (fdA n H L s a l r way Xs) ∧ Below w.heap.size w w' := by
  have hu := Tryz.underlying24
  have hza : (Tryz.prog.info? 24).map (·.size) = some (a.map u8v).length := by rw [List.length_map, ha]; exact sizeId
  have z32 : zeroB.length = 32 := by decide
  have hi0 : (Tryz.prog.info? 32).map (·.size) = some wt0.size := wtC_info 0 ⟨#[]⟩ ⟨#[]⟩ 0 0 0 z32
  have hs0 : wt0.size = 38 := wtC_size 0 ⟨#[]⟩ ⟨#[]⟩ 0 0 0 z32
  have ho0 : wt0.all (·.oneCell') = true := wtC_one 0 ⟨#[]⟩ ⟨#[]⟩ 0 0 0 zeroB
  have hi1 : (Tryz.prog.info? 32).map (·.size) = some wt1.size := wtC_info 1 ⟨#[]⟩ ⟨#[]⟩ 0 0 0 z32
  have hs1 : wt1.size = 38 := wtC_size 1 ⟨#[]⟩ ⟨#[]⟩ 0 0 0 z32
  have ho1 : wt1.all (·.oneCell') = true := wtC_one 1 ⟨#[]⟩ ⟨#[]⟩ 0 0 0 zeroB
  have hr : rgtP n H = true := hf.1
  have hn : n ≤ 256 := by have := rgt_le9 (rgtP_parts hr).1; omega
  have hrt := (rgtP_parts hr).1
  have hL : L < 2 ^ H := by have h := hf.2.2.1; rw [lvs_ok hr] at h; omega
  have hL5 : L < 32 := Nat.lt_of_lt_of_le hL (Nat.pow_le_pow_right (n := 2) (by decide) hH)
  have hsh := upTo_32 (hiddenX s L a) (hiddenX_length s L a) n
  have cR := fun W => kright_any n H W
  rw [hr] at cR
  have cF := fun W => fits_yes n H L A B C n n H c1 c2 c3 hf W
  have cO : ∀ W : World, Calls Tryz.prog 26 #[.agg #[.int .i64 n, .int .i64 H], .string (txt s), .int .i64 L, .agg (List.map u8v a).toArray] W fun e w' => ∃ A1 d1 A2 d2 A3 d3, e = .returned (.agg #[.int .i64 L, .slice A1 n d1, .slice A2 n d2, .slice A3 H d3]) ∧ RowR w' A1 n (upTo (shownX s L a) n) ∧ RowR w' A2 n (upTo (hiddenX s L a) n) ∧ RowR w' A3 H (upTo (wayF (lfF s n) L) H) ∧ H ≤ d3 ∧ Below W.heap.size W w' := fun W => wowned_any n H L hr hH hL s hs a ha W
  have hRT : ownR n H L s a = rootB a (upTo (shownX s L a) n) (upTo (hiddenX s L a) n) (upTo (wayF (lfF s n) L) H) n L := rfl
  have hfd : fdW n H L s a l r way Xs = fdR (wiT n H L a l r way) (wiT n H L a (upTo (shownX s L a) n) (upTo (hiddenX s L a) n) (upTo (wayF (lfF s n) L) H)) n L a l Xs (unlW (wiT n H L a l r way) (wiT n H L a (upTo (shownX s L a) n) (upTo (hiddenX s L a) n) (upTo (wayF (lfF s n) L) H)) (H + 1 + 1)) := rfl
  unfold fdA
  generalize upTo (shownX s L a) n = R1 at *
  generalize upTo (hiddenX s L a) n = R2 at *
  generalize upTo (wayF (lfF s n) L) H = R3 at *
  have hRTl : (ownR n H L s a).length = 32 := by rw [hRT]; exact rootB_length _ _ _ _ _ _
  generalize ownR n H L s a = RT at *
  have hzR : (Tryz.prog.info? 24).map (·.size) = some (RT.map u8v).length := by rw [List.length_map, hRTl]; exact sizeId
  have hzR2 : (Tryz.prog.info? 24).map (·.size) = some (idVals RT).size := by rw [idVals_size, hRTl]; exact sizeId
  have h1R := idVals_one RT
  have sR : (idVals RT).size = 32 := by rw [idVals_size, hRTl]
  have hql : (keyB n H RT).length = 32 := keyB_length _ _ _
  have cK : ∀ W : World, Calls Tryz.prog 28 #[.agg #[.int .i64 n, .int .i64 H], .agg (List.map u8v RT).toArray] W fun e w' => e = .returned (.tuple #[.agg (idVals (keyB n H RT)), .int .i64 0]) ∧ Below W.heap.size W w' := fun W => key_any n H hr RT hRTl W
  generalize keyB n H RT = q at *
  have hzq : (Tryz.prog.info? 24).map (·.size) = some (q.map u8v).length := by rw [List.length_map, hql]; exact sizeId
  have hzq2 : (Tryz.prog.info? 24).map (·.size) = some (idVals q).size := by rw [idVals_size, hql]; exact sizeId
  have h1q := idVals_one q
  have sq : (idVals q).size = 32 := by rw [idVals_size, hql]
  obtain ⟨P, hP⟩ : ∃ P : Value, P = (if keyB n H (rootB a l r way n L) = q then .tuple #[.agg (fdW n H L s a l r way Xs), .int .i64 0] else .tuple #[.agg wt0, .int .i64 9]) := ⟨_, rfl⟩
  rw [← hP]
  have HPP := hid hP
  have HRT := hid hRT
  have HFD := hid hfd
  have HA := hid hA
  have HB := hid hB
  have HC := hid hC
  have HX := hid hX
  have HXN := hid hxn
  have HF := hid hf
  have HSH := hid hsh
  clear hP hRT hfd hA hB hC hX hxn hf hsh hL
  go_enter Tryz.func7, Tryz.ntmps7
  go_upto_region 1 with (fail)
  generalize hZ : (Obj.cells _ 32) = Z
  obtain ⟨zc, rfl, hzc⟩ : ∃ zc : Array Value, Z = Obj.cells zc 32 ∧ zc.size = 38 := ⟨_, hZ.symm, rfl⟩
  clear hZ
  have hk := FdS.new w n H L a (.slice A n c1) (.slice B n c2) (.slice C H c3) zc hzc
  generalize (((w.alloc (.cells #[.int .i64 n, .int .i64 H] 29)).alloc (.cells (idVals a) 24)).alloc (.cells #[.int .i64 L, .slice A n c1, .slice B n c2, .slice C H c3] 27)).alloc (.cells zc 32) = w1 at *
  have p0 := hk.par.cell_ (i := 0) rfl
  have p1 := hk.par.cell_ (i := 1) rfl
  have s0 := hk.sig.cell_ (i := 0) rfl
  have s1 := hk.sig.cell_ (i := 1) rfl
  have s2 := hk.sig.cell_ (i := 2) rfl
  have s3 := hk.sig.cell_ (i := 3) rfl
  have hz0 : zc.size = wt0.size := hzc.trans hs0.symm
  have hz1 : zc.size = wt1.size := hzc.trans hs1.symm
  go_upto_region 5 with (first
    | (go_at_call 24; (with_reducible refine (cR _).mono ?_); rintro e1 w2 ⟨rfl, hb2⟩; replace hk := hk.below hb2; replace p0 := hk.par.cell_ (i := 0) rfl; replace p1 := hk.par.cell_ (i := 1) rfl; replace s0 := hk.sig.cell_ (i := 0) rfl; replace s1 := hk.sig.cell_ (i := 1) rfl; replace s2 := hk.sig.cell_ (i := 2) rfl; replace s3 := hk.sig.cell_ (i := 3) rfl)
    | (go_at_call 25; (with_reducible refine (cF _).mono ?_); rintro e3 w3 ⟨rfl, hb3⟩; replace hk := hk.below hb3; replace p0 := hk.par.cell_ (i := 0) rfl; replace p1 := hk.par.cell_ (i := 1) rfl; replace s0 := hk.sig.cell_ (i := 0) rfl; replace s1 := hk.sig.cell_ (i := 1) rfl; replace s2 := hk.sig.cell_ (i := 2) rfl; replace s3 := hk.sig.cell_ (i := 3) rfl))
  have fa := range_blk hk.id_
  clear hb2 hb3 cR cF
  go_upto_region 6 with (first
    | (with_reducible refine wpList_load_if (by with_unfolding_all rfl) 24 _ rfl _ _ rfl (a.map u8v) _ fa hu rfl hza ?_)
    | (go_at_call 26; (with_reducible refine (cO _).mono ?_); rintro e4 w4 ⟨A1, d1, A2, d2, A3, d3, rfl, r1, r2, r3, hd3, hb4⟩; replace hk := hk.below hb4; replace p0 := hk.par.cell_ (i := 0) rfl; replace p1 := hk.par.cell_ (i := 1) rfl; replace s0 := hk.sig.cell_ (i := 0) rfl; replace s1 := hk.sig.cell_ (i := 1) rfl; replace s2 := hk.sig.cell_ (i := 2) rfl; replace s3 := hk.sig.cell_ (i := 3) rfl; replace fa := fa.below hb4))
  have hal := (Below.refl w4.heap.size w4).alloc (Nat.le_refl _) (.cells #[.int .i64 L, .slice A1 n d1, .slice A2 n d2, .slice A3 H d3] 27)
  have hO := Blk.new w4 27 #[.int .i64 L, .slice A1 n d1, .slice A2 n d2, .slice A3 H d3]
  replace hk := hk.below hal; replace p0 := hk.par.cell_ (i := 0) rfl; replace p1 := hk.par.cell_ (i := 1) rfl; replace s0 := hk.sig.cell_ (i := 0) rfl; replace s1 := hk.sig.cell_ (i := 1) rfl; replace s2 := hk.sig.cell_ (i := 2) rfl; replace s3 := hk.sig.cell_ (i := 3) rfl
  replace fa := fa.below hal
  have HR1 := hid (r1.below hal)
  have HR2 := hid (r2.below hal)
  have HR3 := hid (r3.below hal)
  obtain ⟨g12, hg12⟩ : ∃ g12, w4.heap.size = g12 := ⟨_, rfl⟩
  rw [hg12] at hO ⊢
  have o0 := hO.cell_ (i := 0) rfl
  have o1 := hO.cell_ (i := 1) rfl
  have o2 := hO.cell_ (i := 2) rfl
  have o3 := hO.cell_ (i := 3) rfl
  generalize w4.alloc (.cells #[.int .i64 L, .slice A1 n d1, .slice A2 n d2, .slice A3 H d3] 27) = w5 at *
  have cRt : Calls Tryz.prog 27 #[.agg #[.int .i64 n, .int .i64 H], .agg (List.map u8v a).toArray, .agg #[.int .i64 L, .slice A1 n d1, .slice A2 n d2, .slice A3 H d3]] w5 fun e w' => e = .returned (.tuple #[.agg (idVals RT), .int .i64 0]) ∧ Below w5.heap.size w5 w' := by
    rw [HRT.out]
    exact root_yes n H a ha L A1 A2 A3 d1 d2 d3 R1 R2 R3 HF.out w5 HR1.out HR2.out HR3.out
  clear hal hO hg12 r1 r2 r3 cO hb4
  go_upto_region 7 with (first
    | (with_reducible refine wpList_load_if (by with_unfolding_all rfl) 24 _ rfl _ _ rfl (a.map u8v) _ fa hu rfl hza ?_)
    | (go_at_call 27; (with_reducible refine cRt.mono ?_); rintro e6 w6 ⟨rfl, hb6⟩)
    | (with_reducible refine wpList_store_new rfl 24 _ _ rfl (idVals RT) rfl rfl hzR2 (Eq.trans (b := 32) (by with_unfolding_all rfl) sR.symm) h1R ?_))
  have hal := hb6.trans (((Below.refl w6.heap.size w6).alloc (Nat.le_refl _) (.cells (idVals RT) 24)).mono hb6.size)
  replace hk := hk.below hal; replace p0 := hk.par.cell_ (i := 0) rfl; replace p1 := hk.par.cell_ (i := 1) rfl; replace s0 := hk.sig.cell_ (i := 0) rfl; replace s1 := hk.sig.cell_ (i := 1) rfl; replace s2 := hk.sig.cell_ (i := 2) rfl; replace s3 := hk.sig.cell_ (i := 3) rfl
  replace fa := fa.below hal
  replace o0 := wi_cell hal o0
  replace o1 := wi_cell hal o1
  replace o2 := wi_cell hal o2
  replace o3 := wi_cell hal o3
  replace HR1 := hid (HR1.out.below hal)
  replace HR2 := hid (HR2.out.below hal)
  replace HR3 := hid (HR3.out.below hal)
  have fR := range_blk (Blk.new w6 24 (idVals RT))
  obtain ⟨g13, hg13⟩ : ∃ g13, w6.heap.size = g13 := ⟨_, rfl⟩
  rw [hg13] at fR ⊢
  generalize w6.alloc (.cells (idVals RT) 24) = w7 at *
  clear hal hg13 hb6 cRt
  go_upto_region 8 with (first
    | (with_reducible refine wpList_load_if (by with_unfolding_all rfl) 24 _ rfl _ _ rfl (RT.map u8v) _ fR hu rfl hzR ?_)
    | (go_at_call 28; (with_reducible refine (cK _).mono ?_); rintro e8 w8 ⟨rfl, hb8⟩)
    | (with_reducible refine wpList_store_new rfl 24 _ _ rfl (idVals q) rfl rfl hzq2 (Eq.trans (b := 32) (by with_unfolding_all rfl) sq.symm) h1q ?_))
  have hal := hb8.trans (((Below.refl w8.heap.size w8).alloc (Nat.le_refl _) (.cells (idVals q) 24)).mono hb8.size)
  replace hk := hk.below hal; replace p0 := hk.par.cell_ (i := 0) rfl; replace p1 := hk.par.cell_ (i := 1) rfl; replace s0 := hk.sig.cell_ (i := 0) rfl; replace s1 := hk.sig.cell_ (i := 1) rfl; replace s2 := hk.sig.cell_ (i := 2) rfl; replace s3 := hk.sig.cell_ (i := 3) rfl
  replace fa := fa.below hal
  replace o0 := wi_cell hal o0
  replace o1 := wi_cell hal o1
  replace o2 := wi_cell hal o2
  replace o3 := wi_cell hal o3
  replace HR1 := hid (HR1.out.below hal)
  replace HR2 := hid (HR2.out.below hal)
  replace HR3 := hid (HR3.out.below hal)
  have fq := range_blk (Blk.new w8 24 (idVals q))
  obtain ⟨g15, hg15⟩ : ∃ g15, w8.heap.size = g15 := ⟨_, rfl⟩
  rw [hg15] at fq ⊢
  generalize w8.alloc (.cells (idVals q) 24) = wD at *
  clear hal hg15 hb8 cK fR
  have cV0 : Calls Tryz.prog 29 #[.agg #[.int .i64 n, .int .i64 H], .agg (List.map u8v q).toArray, .agg (List.map u8v a).toArray, .agg #[.int .i64 L, .slice A n c1, .slice B n c2, .slice C H c3]] wD fun e w' => e = .returned (.int .i64 (if keyB n H (rootB a l r way n L) = q then 0 else 9)) ∧ Below wD.heap.size wD w' := verify_yes q hql n H a ha L A B C c1 c2 c3 l r way HF.out wD (HA.out.below hk.b_) (HB.out.below hk.b_) (HC.out.below hk.b_)
  by_cases hke : keyB n H (rootB a l r way n L) = q
  · have HP := hid (show P = .tuple #[.agg (fdW n H L s a l r way Xs), .int .i64 0] by rw [HPP.out, if_pos hke])
    rw [if_pos hke] at cV0
    clear hke
    go_upto_region 9 with (first
      | (with_reducible refine wpList_load_if (by with_unfolding_all rfl) 24 _ rfl _ _ rfl (q.map u8v) _ fq hu rfl hzq ?_)
      | (with_reducible refine wpList_load_if (by with_unfolding_all rfl) 24 _ rfl _ _ rfl (a.map u8v) _ fa hu rfl hza ?_)
      | (go_at_call 29; (with_reducible refine cV0.mono ?_); rintro e9 wE ⟨rfl, hbv⟩))
    replace hk := hk.below hbv; replace p0 := hk.par.cell_ (i := 0) rfl; replace p1 := hk.par.cell_ (i := 1) rfl; replace s0 := hk.sig.cell_ (i := 0) rfl; replace s1 := hk.sig.cell_ (i := 1) rfl; replace s2 := hk.sig.cell_ (i := 2) rfl; replace s3 := hk.sig.cell_ (i := 3) rfl
    replace fa := fa.below hbv
    replace o0 := wi_cell hbv o0
    replace o1 := wi_cell hbv o1
    replace o2 := wi_cell hbv o2
    replace o3 := wi_cell hbv o3
    replace HR1 := hid (HR1.out.below hbv)
    replace HR2 := hid (HR2.out.below hbv)
    replace HR3 := hid (HR3.out.below hbv)
    clear hbv cV0 fq
    obtain ⟨m, hm⟩ : ∃ m : Nat, m = H + 1 := ⟨_, rfl⟩
    have v1 := wrapW1 hm hH
    have v2 := wrapW2 hm hH
    have HU0 := hid (wun_all n H L hn hH hL5 a A3 C c3 d3 l r way R1 R2 R3 hc3 hd3 m hm)
    rw [← hm] at HFD
    have HT := hid (show wiT n H L a l r way = wiT n H L a l r way from rfl)
    generalize hTT : wiT n H L a l r way = TT at *
    generalize hUU : wiT n H L a R1 R2 R3 = UU at *
    clear hTT hUU HT
    cases ho : unlW TT UU (m + 1) with
    | some k =>
      rw [ho] at HU0 HFD
      obtain ⟨x0, hx0⟩ : ∃ x0, txt (TT k) = x0 := ⟨_, rfl⟩
      obtain ⟨y0, hy0⟩ : ∃ y0, txt (UU k) = y0 := ⟨_, rfl⟩
      have hun : unR TT UU (some k) = .tuple #[.string x0, .string y0, .bool true] := by rw [← hx0, ← hy0]; rfl
      have hfr : fdR TT UU n L a l Xs (some k) = wt2 x0 y0 := by rw [← hx0, ← hy0]; rfl
      rw [hun] at HU0
      rw [HFD.out, hfr] at HP
      have HU := HU0
      have hi2 : (Tryz.prog.info? 32).map (·.size) = some (wt2 x0 y0).size := wtC_info 2 x0 y0 0 0 0 z32
      have hz2 : zc.size = (wt2 x0 y0).size := hzc.trans (wtC_size 2 x0 y0 0 0 0 z32).symm
      have ho2 : (wt2 x0 y0).all (·.oneCell') = true := wtC_one 2 x0 y0 0 0 0 zeroB
      clear HU0 ho hun hfr hx0 hy0 hm
      go_upto_region 11 with (fail)
      replace hk := hk.below (below_drewW _); replace p0 := hk.par.cell_ (i := 0) rfl; replace p1 := hk.par.cell_ (i := 1) rfl; replace s0 := hk.sig.cell_ (i := 0) rfl; replace s1 := hk.sig.cell_ (i := 1) rfl; replace s2 := hk.sig.cell_ (i := 2) rfl; replace s3 := hk.sig.cell_ (i := 3) rfl
      replace fa := fa.below (below_drewW _)
      replace o0 := wi_cell (below_drewW _) o0
      replace o1 := wi_cell (below_drewW _) o1
      replace o2 := wi_cell (below_drewW _) o2
      replace o3 := wi_cell (below_drewW _) o3
      replace HR1 := hid (HR1.out.below (below_drewW _))
      replace HR2 := hid (HR2.out.below (below_drewW _))
      replace HR3 := hid (HR3.out.below (below_drewW _))
      refine wp_region_held_drew (S := fun V => Below wE.drew.heap.size wE.drew V) (by kernel_rfl) (Below.refl _ _) (fun hHeld => ?_)
      generalize wE.drew = V0 at *
      have HT1 : Hid (∀ W, Below V0.heap.size V0 W → Calls Tryz.prog 31 #[.agg #[.int .i64 n, .int .i64 H], .agg (List.map u8v a).toArray, .agg #[.int .i64 L, .slice A n c1, .slice B n c2, .slice C H c3]] W fun e w' => ∃ pb pp px pl Ap cp, e = .returned (.func (.func 63) #[] #[.pointer (some ⟨pb, 0, none⟩), .pointer (some ⟨pp, 0, none⟩), .pointer (some ⟨px, 0, none⟩), .pointer (some ⟨pl, 0, none⟩)]) ∧ TxS w' pb pp px pl Ap cp C c3 n H L (sideL (pubF a l r) n) (recB a l r n) way ∧ Below W.heap.size W w') := hid (fun W hW => wtexts_any n H L hn hrt a ha A B C c1 c2 c3 l r way W (HA.out.below (hk.b_.trans (hW.mono hk.b_.size))) (HB.out.below (hk.b_.trans (hW.mono hk.b_.size))) (HC.out.below (hk.b_.trans (hW.mono hk.b_.size))))
      have HT2 : Hid (∀ W, Below V0.heap.size V0 W → Calls Tryz.prog 31 #[.agg #[.int .i64 n, .int .i64 H], .agg (List.map u8v a).toArray, .agg #[.int .i64 L, .slice A1 n d1, .slice A2 n d2, .slice A3 H d3]] W fun e w' => ∃ pb pp px pl Ap cp, e = .returned (.func (.func 63) #[] #[.pointer (some ⟨pb, 0, none⟩), .pointer (some ⟨pp, 0, none⟩), .pointer (some ⟨px, 0, none⟩), .pointer (some ⟨pl, 0, none⟩)]) ∧ TxS w' pb pp px pl Ap cp A3 d3 n H L (sideL (pubF a R1 R2) n) (recB a R1 R2 n) R3 ∧ Below W.heap.size W w') := hid (fun W hW => wtexts_any n H L hn hrt a ha A1 A2 A3 d1 d2 d3 R1 R2 R3 W (HR1.out.below hW) (HR2.out.below hW) (HR3.out.below hW))
      refine' wpAnyH_take (i := 0) (v := .pointer (some ⟨w.heap.size, 1, none⟩)) rfl (by kernel_rfl) (by kernel_rfl) (by kernel_rfl) (fun _ _ _ h => h) (Or.inl ⟨by rfl, fun w' hw' => by go_simp⟩) hHeld ?_
      try simp only [Act.put, List.getElem_toArray, List.getElem_cons_succ, List.getElem_cons_zero, List.setIfInBounds_toArray, List.set_cons_zero, List.set_cons_succ]
      refine' wpAnyH_take (i := 1) (v := .int .i64 H) rfl (by kernel_rfl) (by kernel_rfl) (by kernel_rfl) (fun _ _ _ h => h) (Or.inl ⟨by rfl, fun w' hw' => by have hv := wi_cell hw' p1; go_simp⟩) hHeld ?_
      try simp only [Act.put, List.getElem_toArray, List.getElem_cons_succ, List.getElem_cons_zero, List.setIfInBounds_toArray, List.set_cons_zero, List.set_cons_succ]
      refine' wpAnyH_take (i := 2) (v := .int .i64 m) rfl (by kernel_rfl) (by kernel_rfl) (by kernel_rfl) (fun _ _ _ h => h) (Or.inl ⟨by rfl, fun w' hw' => by go_simp⟩) hHeld ?_
      try simp only [Act.put, List.getElem_toArray, List.getElem_cons_succ, List.getElem_cons_zero, List.setIfInBounds_toArray, List.set_cons_zero, List.set_cons_succ]
      refine' wpAnyH_take (i := 3) (v := .agg #[.int .i64 n, .int .i64 H]) rfl (by kernel_rfl) (by kernel_rfl) (by kernel_rfl) (fun _ _ _ h => h) (Or.inl ⟨by rfl, fun w' hw' => by have q0 := wi_cell hw' p0; have q1 := wi_cell hw' p1; go_simp⟩) hHeld ?_
      try simp only [Act.put, List.getElem_toArray, List.getElem_cons_succ, List.getElem_cons_zero, List.setIfInBounds_toArray, List.set_cons_zero, List.set_cons_succ]
      refine' wpAnyH_take (i := 4) (v := _) rfl (by kernel_rfl) (by kernel_rfl) (by kernel_rfl) (fun _ _ _ h => h) (yieldsIf_load_mid (by rfl) 24 _ rfl _ _ rfl (a.map u8v) _ (fun w' h => fa.below h) hu rfl hza) hHeld ?_
      try simp only [Act.put, List.getElem_toArray, List.getElem_cons_succ, List.getElem_cons_zero, List.setIfInBounds_toArray, List.set_cons_zero, List.set_cons_succ]
      refine' wpAnyH_take (i := 5) (v := .agg #[.int .i64 L, .slice A n c1, .slice B n c2, .slice C H c3]) rfl (by kernel_rfl) (by kernel_rfl) (by kernel_rfl) (fun _ _ _ h => h) (Or.inl ⟨by rfl, fun w' hw' => by have q0 := wi_cell hw' s0; have q1 := wi_cell hw' s1; have q2 := wi_cell hw' s2; have q3 := wi_cell hw' s3; go_simp⟩) hHeld ?_
      try simp only [Act.put, List.getElem_toArray, List.getElem_cons_succ, List.getElem_cons_zero, List.setIfInBounds_toArray, List.set_cons_zero, List.set_cons_succ]
      refine' wpAnyH_take (i := 7) (v := .agg #[.int .i64 n, .int .i64 H]) rfl (by kernel_rfl) (by kernel_rfl) (by kernel_rfl) (fun _ _ _ h => h) (Or.inl ⟨by rfl, fun w' hw' => by have q0 := wi_cell hw' p0; have q1 := wi_cell hw' p1; go_simp⟩) hHeld ?_
      try simp only [Act.put, List.getElem_toArray, List.getElem_cons_succ, List.getElem_cons_zero, List.setIfInBounds_toArray, List.set_cons_zero, List.set_cons_succ]
      refine' wpAnyH_take (i := 8) (v := _) rfl (by kernel_rfl) (by kernel_rfl) (by kernel_rfl) (fun _ _ _ h => h) (yieldsIf_load_mid (by rfl) 24 _ rfl _ _ rfl (a.map u8v) _ (fun w' h => fa.below h) hu rfl hza) hHeld ?_
      try simp only [Act.put, List.getElem_toArray, List.getElem_cons_succ, List.getElem_cons_zero, List.setIfInBounds_toArray, List.set_cons_zero, List.set_cons_succ]
      refine' wpAnyH_take (i := 9) (v := .agg #[.int .i64 L, .slice A1 n d1, .slice A2 n d2, .slice A3 H d3]) rfl (by kernel_rfl) (by kernel_rfl) (by kernel_rfl) (fun _ _ _ h => h) (Or.inl ⟨by rfl, fun w' hw' => by have q0 := wi_cell hw' o0; have q1 := wi_cell hw' o1; have q2 := wi_cell hw' o2; have q3 := wi_cell hw' o3; go_simp⟩) hHeld ?_
      try simp only [Act.put, List.getElem_toArray, List.getElem_cons_succ, List.getElem_cons_zero, List.setIfInBounds_toArray, List.set_cons_zero, List.set_cons_succ]
      refine wpAnyH_ready (rs := [6]) (by kernel_rfl) (by simp) ?_
      refine AllReadyH.cons rfl (fun K hK => ?_) AllReadyH.nil
      go_simp
      (with_reducible refine (HT1.out _ hHeld).mono ?_)
      rintro e6 V6 ⟨pb, pp, px, pl, Ap, cp, rfl, hT6, hb9⟩
      have HT6 := hid hT6
      refine hK.out _ _ (hHeld.trans (hb9.mono hHeld.size)) (fun hHeld => ?_)
      clear hK K hb9 hT6
      try simp only [Act.put, List.getElem_toArray, List.getElem_cons_succ, List.getElem_cons_zero, List.setIfInBounds_toArray, List.set_cons_zero, List.set_cons_succ]
      refine wpAnyH_ready (rs := [10]) (by kernel_rfl) (by simp) ?_
      refine AllReadyH.cons rfl (fun K hK => ?_) AllReadyH.nil
      go_simp
      (with_reducible refine (HT2.out _ hHeld).mono ?_)
      rintro e10 V10 ⟨qb, qp, qx, ql, Aq, cq, rfl, hT10, hb9⟩
      have HT10 := hid hT10
      replace HT6 := hid (HT6.out.below hb9)
      have cU := HU.out V10 _ _ _ _ _ _ _ _ _ _ _ _ HT6.out HT10.out
      refine hK.out _ _ (hHeld.trans (hb9.mono hHeld.size)) (fun hHeld => ?_)
      clear hK K hb9 hT10
      try simp only [Act.put, List.getElem_toArray, List.getElem_cons_succ, List.getElem_cons_zero, List.setIfInBounds_toArray, List.set_cons_zero, List.set_cons_succ]
      refine wpAnyH_ready (rs := [11]) (by kernel_rfl) (by simp) ?_
      refine AllReadyH.cons rfl (fun K hK => ?_) AllReadyH.nil
      go_simp
      (with_reducible refine cU.mono ?_)
      rintro e11 V11 ⟨rfl, hb9⟩
      refine hK.out _ _ (hHeld.trans (hb9.mono hHeld.size)) (fun hHeld => ?_)
      clear hK K hb9 cU HT6 HT10
      try simp only [Act.put, List.getElem_toArray, List.getElem_cons_succ, List.getElem_cons_zero, List.setIfInBounds_toArray, List.set_cons_zero, List.set_cons_succ]
      refine' wpAnyH_take (i := 12) (v := .tuple #[.string x0, .string y0, .bool true]) rfl (by kernel_rfl) (by kernel_rfl) (by kernel_rfl) (fun _ _ _ h => h) (Or.inl ⟨by rfl, fun w' hw' => by go_simp⟩) hHeld ?_
      try simp only [Act.put, List.getElem_toArray, List.getElem_cons_succ, List.getElem_cons_zero, List.setIfInBounds_toArray, List.set_cons_zero, List.set_cons_succ]
      refine' wpAnyH_take (i := 13) (v := .string x0) rfl (by kernel_rfl) (by kernel_rfl) (by kernel_rfl) (fun _ _ _ h => h) (Or.inl ⟨by rfl, fun w' hw' => by go_simp⟩) hHeld ?_
      try simp only [Act.put, List.getElem_toArray, List.getElem_cons_succ, List.getElem_cons_zero, List.setIfInBounds_toArray, List.set_cons_zero, List.set_cons_succ]
      refine' wpAnyH_take (i := 14) (v := .string y0) rfl (by kernel_rfl) (by kernel_rfl) (by kernel_rfl) (fun _ _ _ h => h) (Or.inl ⟨by rfl, fun w' hw' => by go_simp⟩) hHeld ?_
      try simp only [Act.put, List.getElem_toArray, List.getElem_cons_succ, List.getElem_cons_zero, List.setIfInBounds_toArray, List.set_cons_zero, List.set_cons_succ]
      refine' wpAnyH_take (i := 15) (v := .bool true) rfl (by kernel_rfl) (by kernel_rfl) (by kernel_rfl) (fun _ _ _ h => h) (Or.inl ⟨by rfl, fun w' hw' => by go_simp⟩) hHeld ?_
      try simp only [Act.put, List.getElem_toArray, List.getElem_cons_succ, List.getElem_cons_zero, List.setIfInBounds_toArray, List.set_cons_zero, List.set_cons_succ]
      refine' wpAnyH_take (i := 16) (v := .string x0) rfl (by kernel_rfl) (by kernel_rfl) (by kernel_rfl) (fun _ _ _ h => h) (Or.inl ⟨by rfl, fun w' hw' => by go_simp⟩) hHeld ?_
      try simp only [Act.put, List.getElem_toArray, List.getElem_cons_succ, List.getElem_cons_zero, List.setIfInBounds_toArray, List.set_cons_zero, List.set_cons_succ]
      refine' wpAnyH_take (i := 17) (v := .string y0) rfl (by kernel_rfl) (by kernel_rfl) (by kernel_rfl) (fun _ _ _ h => h) (Or.inl ⟨by rfl, fun w' hw' => by go_simp⟩) hHeld ?_
      try simp only [Act.put, List.getElem_toArray, List.getElem_cons_succ, List.getElem_cons_zero, List.setIfInBounds_toArray, List.set_cons_zero, List.set_cons_succ]
      refine' wpAnyH_take (i := 18) (v := .bool true) rfl (by kernel_rfl) (by kernel_rfl) (by kernel_rfl) (fun _ _ _ h => h) (Or.inl ⟨by rfl, fun w' hw' => by go_simp⟩) hHeld ?_
      try simp only [Act.put, List.getElem_toArray, List.getElem_cons_succ, List.getElem_cons_zero, List.setIfInBounds_toArray, List.set_cons_zero, List.set_cons_succ]
      refine wpAnyH_done (by kernel_rfl) ?_ _
      replace hk := hk.below hHeld; replace p0 := hk.par.cell_ (i := 0) rfl; replace p1 := hk.par.cell_ (i := 1) rfl; replace s0 := hk.sig.cell_ (i := 0) rfl; replace s1 := hk.sig.cell_ (i := 1) rfl; replace s2 := hk.sig.cell_ (i := 2) rfl; replace s3 := hk.sig.cell_ (i := 3) rfl
      replace fa := fa.below hHeld
      clear hHeld
      clear HT1 HT2 HU o0 o1 o2 o3
      go_wp2_with (first
        | (with_reducible refine wpList_build_byW rfl _ _ rfl _ _ (wt_build2 x0 y0) (by with_unfolding_all rfl) ?_)
        | ((with_reducible refine wpList_store_blk rfl 32 _ _ rfl (w.heap.size + 1 + 1 + 1) zc (wt2 x0 y0) 32 hk.res rfl rfl hi2 hz2 ho2 ?_); intro w9 hb9 hg9))
      refine bodyPost_ret (results_cellt rfl _ _ _ _ _ _ rfl hb9 Tryz.underlying32 rfl hi2) rfl ⟨by rw [HP.out]; rfl, hk.b_.grown hg9 hk.b_.size (fun i e => by have := Option.some.inj e; omega)⟩
    | none =>
      rw [ho] at HU0 HFD
      have hun : unR TT UU none = .tuple #[.string ⟨#[]⟩, .string ⟨#[]⟩, .bool false] := rfl
      rw [hun] at HU0
      have HU := HU0
      obtain ⟨hv, hhv⟩ : ∃ hv, honB n Xs a L = hv := ⟨_, rfl⟩
      have hfr : fdR TT UU n L a l Xs none = if hv = true then wt1 else match fstW n Xs L a with
        | some b => wt3 L b (bitZ a b : Nat) (getB l b)
        | none => wt0 := by rw [← hhv]; rfl
      rw [hfr] at HFD
      clear HU0 ho hun hfr hm
      go_upto_region 11 with (fail)
      replace hk := hk.below (below_drewW _); replace p0 := hk.par.cell_ (i := 0) rfl; replace p1 := hk.par.cell_ (i := 1) rfl; replace s0 := hk.sig.cell_ (i := 0) rfl; replace s1 := hk.sig.cell_ (i := 1) rfl; replace s2 := hk.sig.cell_ (i := 2) rfl; replace s3 := hk.sig.cell_ (i := 3) rfl
      replace fa := fa.below (below_drewW _)
      replace o0 := wi_cell (below_drewW _) o0
      replace o1 := wi_cell (below_drewW _) o1
      replace o2 := wi_cell (below_drewW _) o2
      replace o3 := wi_cell (below_drewW _) o3
      replace HR1 := hid (HR1.out.below (below_drewW _))
      replace HR2 := hid (HR2.out.below (below_drewW _))
      replace HR3 := hid (HR3.out.below (below_drewW _))
      refine wp_region_held_drew (S := fun V => Below wE.drew.heap.size wE.drew V) (by kernel_rfl) (Below.refl _ _) (fun hHeld => ?_)
      generalize wE.drew = V0 at *
      have HT1 : Hid (∀ W, Below V0.heap.size V0 W → Calls Tryz.prog 31 #[.agg #[.int .i64 n, .int .i64 H], .agg (List.map u8v a).toArray, .agg #[.int .i64 L, .slice A n c1, .slice B n c2, .slice C H c3]] W fun e w' => ∃ pb pp px pl Ap cp, e = .returned (.func (.func 63) #[] #[.pointer (some ⟨pb, 0, none⟩), .pointer (some ⟨pp, 0, none⟩), .pointer (some ⟨px, 0, none⟩), .pointer (some ⟨pl, 0, none⟩)]) ∧ TxS w' pb pp px pl Ap cp C c3 n H L (sideL (pubF a l r) n) (recB a l r n) way ∧ Below W.heap.size W w') := hid (fun W hW => wtexts_any n H L hn hrt a ha A B C c1 c2 c3 l r way W (HA.out.below (hk.b_.trans (hW.mono hk.b_.size))) (HB.out.below (hk.b_.trans (hW.mono hk.b_.size))) (HC.out.below (hk.b_.trans (hW.mono hk.b_.size))))
      have HT2 : Hid (∀ W, Below V0.heap.size V0 W → Calls Tryz.prog 31 #[.agg #[.int .i64 n, .int .i64 H], .agg (List.map u8v a).toArray, .agg #[.int .i64 L, .slice A1 n d1, .slice A2 n d2, .slice A3 H d3]] W fun e w' => ∃ pb pp px pl Ap cp, e = .returned (.func (.func 63) #[] #[.pointer (some ⟨pb, 0, none⟩), .pointer (some ⟨pp, 0, none⟩), .pointer (some ⟨px, 0, none⟩), .pointer (some ⟨pl, 0, none⟩)]) ∧ TxS w' pb pp px pl Ap cp A3 d3 n H L (sideL (pubF a R1 R2) n) (recB a R1 R2 n) R3 ∧ Below W.heap.size W w') := hid (fun W hW => wtexts_any n H L hn hrt a ha A1 A2 A3 d1 d2 d3 R1 R2 R3 W (HR1.out.below hW) (HR2.out.below hW) (HR3.out.below hW))
      refine' wpAnyH_take (i := 0) (v := .pointer (some ⟨w.heap.size, 1, none⟩)) rfl (by kernel_rfl) (by kernel_rfl) (by kernel_rfl) (fun _ _ _ h => h) (Or.inl ⟨by rfl, fun w' hw' => by go_simp⟩) hHeld ?_
      try simp only [Act.put, List.getElem_toArray, List.getElem_cons_succ, List.getElem_cons_zero, List.setIfInBounds_toArray, List.set_cons_zero, List.set_cons_succ]
      refine' wpAnyH_take (i := 1) (v := .int .i64 H) rfl (by kernel_rfl) (by kernel_rfl) (by kernel_rfl) (fun _ _ _ h => h) (Or.inl ⟨by rfl, fun w' hw' => by have hv := wi_cell hw' p1; go_simp⟩) hHeld ?_
      try simp only [Act.put, List.getElem_toArray, List.getElem_cons_succ, List.getElem_cons_zero, List.setIfInBounds_toArray, List.set_cons_zero, List.set_cons_succ]
      refine' wpAnyH_take (i := 2) (v := .int .i64 m) rfl (by kernel_rfl) (by kernel_rfl) (by kernel_rfl) (fun _ _ _ h => h) (Or.inl ⟨by rfl, fun w' hw' => by go_simp⟩) hHeld ?_
      try simp only [Act.put, List.getElem_toArray, List.getElem_cons_succ, List.getElem_cons_zero, List.setIfInBounds_toArray, List.set_cons_zero, List.set_cons_succ]
      refine' wpAnyH_take (i := 3) (v := .agg #[.int .i64 n, .int .i64 H]) rfl (by kernel_rfl) (by kernel_rfl) (by kernel_rfl) (fun _ _ _ h => h) (Or.inl ⟨by rfl, fun w' hw' => by have q0 := wi_cell hw' p0; have q1 := wi_cell hw' p1; go_simp⟩) hHeld ?_
      try simp only [Act.put, List.getElem_toArray, List.getElem_cons_succ, List.getElem_cons_zero, List.setIfInBounds_toArray, List.set_cons_zero, List.set_cons_succ]
      refine' wpAnyH_take (i := 4) (v := _) rfl (by kernel_rfl) (by kernel_rfl) (by kernel_rfl) (fun _ _ _ h => h) (yieldsIf_load_mid (by rfl) 24 _ rfl _ _ rfl (a.map u8v) _ (fun w' h => fa.below h) hu rfl hza) hHeld ?_
      try simp only [Act.put, List.getElem_toArray, List.getElem_cons_succ, List.getElem_cons_zero, List.setIfInBounds_toArray, List.set_cons_zero, List.set_cons_succ]
      refine' wpAnyH_take (i := 5) (v := .agg #[.int .i64 L, .slice A n c1, .slice B n c2, .slice C H c3]) rfl (by kernel_rfl) (by kernel_rfl) (by kernel_rfl) (fun _ _ _ h => h) (Or.inl ⟨by rfl, fun w' hw' => by have q0 := wi_cell hw' s0; have q1 := wi_cell hw' s1; have q2 := wi_cell hw' s2; have q3 := wi_cell hw' s3; go_simp⟩) hHeld ?_
      try simp only [Act.put, List.getElem_toArray, List.getElem_cons_succ, List.getElem_cons_zero, List.setIfInBounds_toArray, List.set_cons_zero, List.set_cons_succ]
      refine' wpAnyH_take (i := 7) (v := .agg #[.int .i64 n, .int .i64 H]) rfl (by kernel_rfl) (by kernel_rfl) (by kernel_rfl) (fun _ _ _ h => h) (Or.inl ⟨by rfl, fun w' hw' => by have q0 := wi_cell hw' p0; have q1 := wi_cell hw' p1; go_simp⟩) hHeld ?_
      try simp only [Act.put, List.getElem_toArray, List.getElem_cons_succ, List.getElem_cons_zero, List.setIfInBounds_toArray, List.set_cons_zero, List.set_cons_succ]
      refine' wpAnyH_take (i := 8) (v := _) rfl (by kernel_rfl) (by kernel_rfl) (by kernel_rfl) (fun _ _ _ h => h) (yieldsIf_load_mid (by rfl) 24 _ rfl _ _ rfl (a.map u8v) _ (fun w' h => fa.below h) hu rfl hza) hHeld ?_
      try simp only [Act.put, List.getElem_toArray, List.getElem_cons_succ, List.getElem_cons_zero, List.setIfInBounds_toArray, List.set_cons_zero, List.set_cons_succ]
      refine' wpAnyH_take (i := 9) (v := .agg #[.int .i64 L, .slice A1 n d1, .slice A2 n d2, .slice A3 H d3]) rfl (by kernel_rfl) (by kernel_rfl) (by kernel_rfl) (fun _ _ _ h => h) (Or.inl ⟨by rfl, fun w' hw' => by have q0 := wi_cell hw' o0; have q1 := wi_cell hw' o1; have q2 := wi_cell hw' o2; have q3 := wi_cell hw' o3; go_simp⟩) hHeld ?_
      try simp only [Act.put, List.getElem_toArray, List.getElem_cons_succ, List.getElem_cons_zero, List.setIfInBounds_toArray, List.set_cons_zero, List.set_cons_succ]
      refine wpAnyH_ready (rs := [6]) (by kernel_rfl) (by simp) ?_
      refine AllReadyH.cons rfl (fun K hK => ?_) AllReadyH.nil
      go_simp
      (with_reducible refine (HT1.out _ hHeld).mono ?_)
      rintro e6 V6 ⟨pb, pp, px, pl, Ap, cp, rfl, hT6, hb9⟩
      have HT6 := hid hT6
      refine hK.out _ _ (hHeld.trans (hb9.mono hHeld.size)) (fun hHeld => ?_)
      clear hK K hb9 hT6
      try simp only [Act.put, List.getElem_toArray, List.getElem_cons_succ, List.getElem_cons_zero, List.setIfInBounds_toArray, List.set_cons_zero, List.set_cons_succ]
      refine wpAnyH_ready (rs := [10]) (by kernel_rfl) (by simp) ?_
      refine AllReadyH.cons rfl (fun K hK => ?_) AllReadyH.nil
      go_simp
      (with_reducible refine (HT2.out _ hHeld).mono ?_)
      rintro e10 V10 ⟨qb, qp, qx, ql, Aq, cq, rfl, hT10, hb9⟩
      have HT10 := hid hT10
      replace HT6 := hid (HT6.out.below hb9)
      have cU := HU.out V10 _ _ _ _ _ _ _ _ _ _ _ _ HT6.out HT10.out
      refine hK.out _ _ (hHeld.trans (hb9.mono hHeld.size)) (fun hHeld => ?_)
      clear hK K hb9 hT10
      try simp only [Act.put, List.getElem_toArray, List.getElem_cons_succ, List.getElem_cons_zero, List.setIfInBounds_toArray, List.set_cons_zero, List.set_cons_succ]
      refine wpAnyH_ready (rs := [11]) (by kernel_rfl) (by simp) ?_
      refine AllReadyH.cons rfl (fun K hK => ?_) AllReadyH.nil
      go_simp
      (with_reducible refine cU.mono ?_)
      rintro e11 V11 ⟨rfl, hb9⟩
      refine hK.out _ _ (hHeld.trans (hb9.mono hHeld.size)) (fun hHeld => ?_)
      clear hK K hb9 cU HT6 HT10
      try simp only [Act.put, List.getElem_toArray, List.getElem_cons_succ, List.getElem_cons_zero, List.setIfInBounds_toArray, List.set_cons_zero, List.set_cons_succ]
      refine' wpAnyH_take (i := 12) (v := .tuple #[.string ⟨#[]⟩, .string ⟨#[]⟩, .bool false]) rfl (by kernel_rfl) (by kernel_rfl) (by kernel_rfl) (fun _ _ _ h => h) (Or.inl ⟨by rfl, fun w' hw' => by go_simp⟩) hHeld ?_
      try simp only [Act.put, List.getElem_toArray, List.getElem_cons_succ, List.getElem_cons_zero, List.setIfInBounds_toArray, List.set_cons_zero, List.set_cons_succ]
      refine' wpAnyH_take (i := 13) (v := .string ⟨#[]⟩) rfl (by kernel_rfl) (by kernel_rfl) (by kernel_rfl) (fun _ _ _ h => h) (Or.inl ⟨by rfl, fun w' hw' => by go_simp⟩) hHeld ?_
      try simp only [Act.put, List.getElem_toArray, List.getElem_cons_succ, List.getElem_cons_zero, List.setIfInBounds_toArray, List.set_cons_zero, List.set_cons_succ]
      refine' wpAnyH_take (i := 14) (v := .string ⟨#[]⟩) rfl (by kernel_rfl) (by kernel_rfl) (by kernel_rfl) (fun _ _ _ h => h) (Or.inl ⟨by rfl, fun w' hw' => by go_simp⟩) hHeld ?_
      try simp only [Act.put, List.getElem_toArray, List.getElem_cons_succ, List.getElem_cons_zero, List.setIfInBounds_toArray, List.set_cons_zero, List.set_cons_succ]
      refine' wpAnyH_take (i := 15) (v := .bool false) rfl (by kernel_rfl) (by kernel_rfl) (by kernel_rfl) (fun _ _ _ h => h) (Or.inl ⟨by rfl, fun w' hw' => by go_simp⟩) hHeld ?_
      try simp only [Act.put, List.getElem_toArray, List.getElem_cons_succ, List.getElem_cons_zero, List.setIfInBounds_toArray, List.set_cons_zero, List.set_cons_succ]
      refine' wpAnyH_take (i := 16) (v := .string ⟨#[]⟩) rfl (by kernel_rfl) (by kernel_rfl) (by kernel_rfl) (fun _ _ _ h => h) (Or.inl ⟨by rfl, fun w' hw' => by go_simp⟩) hHeld ?_
      try simp only [Act.put, List.getElem_toArray, List.getElem_cons_succ, List.getElem_cons_zero, List.setIfInBounds_toArray, List.set_cons_zero, List.set_cons_succ]
      refine' wpAnyH_take (i := 17) (v := .string ⟨#[]⟩) rfl (by kernel_rfl) (by kernel_rfl) (by kernel_rfl) (fun _ _ _ h => h) (Or.inl ⟨by rfl, fun w' hw' => by go_simp⟩) hHeld ?_
      try simp only [Act.put, List.getElem_toArray, List.getElem_cons_succ, List.getElem_cons_zero, List.setIfInBounds_toArray, List.set_cons_zero, List.set_cons_succ]
      refine' wpAnyH_take (i := 18) (v := .bool false) rfl (by kernel_rfl) (by kernel_rfl) (by kernel_rfl) (fun _ _ _ h => h) (Or.inl ⟨by rfl, fun w' hw' => by go_simp⟩) hHeld ?_
      try simp only [Act.put, List.getElem_toArray, List.getElem_cons_succ, List.getElem_cons_zero, List.setIfInBounds_toArray, List.set_cons_zero, List.set_cons_succ]
      refine wpAnyH_done (by kernel_rfl) ?_ _
      replace hk := hk.below hHeld; replace p0 := hk.par.cell_ (i := 0) rfl; replace p1 := hk.par.cell_ (i := 1) rfl; replace s0 := hk.sig.cell_ (i := 0) rfl; replace s1 := hk.sig.cell_ (i := 1) rfl; replace s2 := hk.sig.cell_ (i := 2) rfl; replace s3 := hk.sig.cell_ (i := 3) rfl
      replace fa := fa.below hHeld
      clear hHeld
      clear HT1 HT2 HU o0 o1 o2 o3
      have cH : ∀ W, Below w.heap.size w W → Calls Tryz.prog 32 #[.agg #[.int .i64 n, .int .i64 H], .slice X x cx, .agg (List.map u8v a).toArray, .int .i64 L] W fun e w' => e = .returned (.bool hv) ∧ Below W.heap.size W w' := fun W hW => by
        have h := whonest_any n H a ha L X x cx Xs HXN.out bx W (HX.out.below hW)
        unfold honB at hhv
        rw [hhv] at h
        exact h
      clear hhv
      cases hv with
      | true =>
        rw [if_pos rfl] at HFD
        rw [HFD.out] at HP
        go_wp2_with (first
          | (with_reducible refine wpList_load_if (by with_unfolding_all rfl) 24 _ rfl _ _ rfl (a.map u8v) _ fa hu rfl hza ?_)
          | (go_at_call 32; (with_reducible refine (cH _ hk.b_).mono ?_); rintro e14 w14 ⟨rfl, hb14⟩; replace hk := hk.below hb14)
          | (with_reducible refine wpList_build_byW rfl _ _ rfl _ _ wt_build1 (by with_unfolding_all rfl) ?_)
          | ((with_reducible refine wpList_store_blk rfl 32 _ _ rfl (w.heap.size + 1 + 1 + 1) zc wt1 32 hk.res rfl rfl hi1 hz1 ho1 ?_); intro w9 hb9 hg9))
        refine bodyPost_ret (results_cellt rfl _ _ _ _ _ _ rfl hb9 Tryz.underlying32 rfl hi1) rfl ⟨by rw [HP.out]; rfl, hk.b_.grown hg9 hk.b_.size (fun i e => by have := Option.some.inj e; omega)⟩
      | false =>
        rw [if_neg (by decide)] at HFD
        go_upto_region 16 with (first
          | (with_reducible refine wpList_load_if (by with_unfolding_all rfl) 24 _ rfl _ _ rfl (a.map u8v) _ fa hu rfl hza ?_)
          | (go_at_call 32; (with_reducible refine (cH _ hk.b_).mono ?_); rintro e14 w14 ⟨rfl, hb14⟩; replace hk := hk.below hb14; replace p0 := hk.par.cell_ (i := 0) rfl; replace p1 := hk.par.cell_ (i := 1) rfl; replace s0 := hk.sig.cell_ (i := 0) rfl; replace s1 := hk.sig.cell_ (i := 1) rfl; replace s2 := hk.sig.cell_ (i := 2) rfl; replace s3 := hk.sig.cell_ (i := 3) rfl))
        have H0 := hid hk
        clear cH fa hb14 hk
        go_wp2_with (fail)
        go_loopw [89] (fun i wr => ∃ k : Nat, k ≤ n ∧ i = .int .i64 k ∧ Hid (∀ j, j < k → shwB Xs L j ((bitZ a j : Nat) : Int) = true) ∧ Hid (FdS w n H L a (.slice A n c1) (.slice B n c2) (.slice C H c3) zc wr)) (fun i _ => n - (intOf i).toNat)
        case atStart => exact ⟨0, Nat.zero_le _, rfl, hid (fun j hj => by omega), H0⟩
        case round =>
          clear H0 p0 p1 s0 s1 s2 s3
          obtain ⟨k, hkn, rfl, HJ, HK⟩ := hrel
          have hk := HK.out
          have p0 := hk.par.cell_ (i := 0) rfl
          have p1 := hk.par.cell_ (i := 1) rfl
          have s0 := hk.sig.cell_ (i := 0) rfl
          have s1 := hk.sig.cell_ (i := 1) rfl
          have s2 := hk.sig.cell_ (i := 2) rfl
          have s3 := hk.sig.cell_ (i := 3) rfl
          have fa := range_blk hk.id_
          by_cases hlt : k < n
          · have b1 : (k : Int) < n := by omega
            have k256 : k < 256 := by omega
            obtain ⟨u, hu1⟩ : ∃ u : Int, ((bitZ a k : Nat) : Int) = u := ⟨_, rfl⟩
            have cB : ∀ W : World, Calls Tryz.prog 33 #[.agg (List.map u8v a).toArray, .int .i64 k] W fun e w' => e = .returned (.int .i64 u) ∧ Below W.heap.size W w' := fun W => by
              have h := ibit_any a ha k k256 W
              rw [hu1] at h
              exact h
            obtain ⟨sv, hsv⟩ : ∃ sv, shwB Xs L k u = sv := ⟨_, rfl⟩
            have cS : ∀ W, Below w.heap.size w W → Calls Tryz.prog 34 #[.slice X x cx, .int .i64 L, .int .i64 k, .int .i64 u] W fun e w' => e = .returned (.bool sv) ∧ Below W.heap.size W w' := fun W hW => by
              have h := wshowed_any L k k256 u X x cx Xs HXN.out bx W (HX.out.below hW)
              unfold shwB at hsv
              rw [hsv] at h
              exact h
            have HSV := hid hsv
            have HU1 := hid hu1
            have HLT := hid (show k + 1 ≤ n from hlt)
            clear hsv hu1 hlt k256
            cases sv with
            | true =>
              go_wp2_with (first
                | (with_reducible refine wpList_load_if (by with_unfolding_all rfl) 24 _ rfl _ _ rfl (a.map u8v) _ fa hu rfl hza ?_)
                | (go_at_call 33; (with_reducible refine (cB _).mono ?_); rintro e2 w2 ⟨rfl, hb2⟩; replace hk := hk.below hb2; replace p0 := hk.par.cell_ (i := 0) rfl; replace p1 := hk.par.cell_ (i := 1) rfl; replace s0 := hk.sig.cell_ (i := 0) rfl; replace s1 := hk.sig.cell_ (i := 1) rfl; replace s2 := hk.sig.cell_ (i := 2) rfl; replace s3 := hk.sig.cell_ (i := 3) rfl)
                | (go_at_call 34; (with_reducible refine (cS _ hk.b_).mono ?_); rintro e3 w3 ⟨rfl, hb3⟩; replace hk := hk.below hb3))
              go_roundw
              case rel => exact ⟨k + 1, HLT.out, by go_num, hid (fun j hj => by
                by_cases hjk : j = k
                · rw [hjk, HU1.out]; exact HSV.out
                · exact HJ.out j (by omega)), hid hk⟩
              case measure => exact meas_wi HLT.out
            | false =>
              have hfs := fstW_some (show k < n from HLT.out) HJ.out (by rw [HU1.out]; exact HSV.out)
              obtain ⟨y, hy⟩ : ∃ y, l[k]? = some y := ⟨_, List.getElem?_eq_getElem (by have := HA.out.1; have := HLT.out; omega)⟩
              obtain ⟨gy, qy, fy, ly, hiy⟩ := HA.out.2.2.pick c1 HA.out.1 hy
              have hgl : gy < w.heap.size := range_lt8 fy (by rw [ly]; decide)
              have hzy : (Tryz.prog.info? 24).map (·.size) = some (y.map u8v).length := by rw [List.length_map, ly]; exact sizeId
              have HIY : Hid (∀ W, (Instr.indexAt 25 (.slice A n c1) (.int .i64 (k : Int))).run Tryz.prog W = .ok (.pointer (some ⟨gy, qy, none⟩)) W) := hid hiy
              rw [hfs] at HFD
              have hfd2 : fdW n H L s a l r way Xs = wt3 L k u y := by rw [HFD.out, ← getB_some hy, ← HU1.out]
              rw [hfd2] at HP
              have hi3 : (Tryz.prog.info? 32).map (·.size) = some (wt3 L k u y).size := wtC_info 3 ⟨#[]⟩ ⟨#[]⟩ L k u ly
              have hs3 : zc.size = (wt3 L k u y).size := hzc.trans (wtC_size 3 ⟨#[]⟩ ⟨#[]⟩ L k u ly).symm
              have ho3 : (wt3 L k u y).all (·.oneCell') = true := wtC_one 3 ⟨#[]⟩ ⟨#[]⟩ L k u y
              have HY := hid fy
              clear hfs hy hiy hfd2 HFD fy
              go_upto_region 21 with (first
                | (with_reducible refine wpList_load_if (by with_unfolding_all rfl) 24 _ rfl _ _ rfl (a.map u8v) _ fa hu rfl hza ?_)
                | (go_at_call 33; (with_reducible refine (cB _).mono ?_); rintro e2 w2 ⟨rfl, hb2⟩; replace hk := hk.below hb2; replace p0 := hk.par.cell_ (i := 0) rfl; replace p1 := hk.par.cell_ (i := 1) rfl; replace s0 := hk.sig.cell_ (i := 0) rfl; replace s1 := hk.sig.cell_ (i := 1) rfl; replace s2 := hk.sig.cell_ (i := 2) rfl; replace s3 := hk.sig.cell_ (i := 3) rfl)
                | (go_at_call 34; (with_reducible refine (cS _ hk.b_).mono ?_); rintro e3 w3 ⟨rfl, hb3⟩; replace hk := hk.below hb3; replace p0 := hk.par.cell_ (i := 0) rfl; replace p1 := hk.par.cell_ (i := 1) rfl; replace s0 := hk.sig.cell_ (i := 0) rfl; replace s1 := hk.sig.cell_ (i := 1) rfl; replace s2 := hk.sig.cell_ (i := 2) rfl; replace s3 := hk.sig.cell_ (i := 3) rfl))
              clear hb2 hb3 cB cS fa
              replace hk := hk.below (below_drewW w3)
              refine wp_region_held_drew (S := fun V => V.cell? ⟨w.heap.size + 1 + 1, 0, none⟩ = some (.int .i64 L) ∧ V.cell? ⟨w.heap.size + 1 + 1, 1, none⟩ = some (.slice A n c1) ∧ V.rangeAt gy qy (y.map u8v)) (by kernel_rfl) ⟨hk.sig.cell_ (i := 0) rfl, hk.sig.cell_ (i := 1) rfl, HY.out.below hk.b_⟩ (fun hHeld => ?_)
              generalize w3.drew = V0 at *
              refine' wpAnyH_take (i := 0) (v := .pointer (some ⟨w.heap.size + 1 + 1, 0, none⟩)) rfl (by kernel_rfl) (by kernel_rfl) (by kernel_rfl) (fun _ _ _ h => h) (Or.inl ⟨by rfl, fun w' hw' => by go_simp⟩) hHeld ?_
              try simp only [Act.put, List.getElem_toArray, List.getElem_cons_succ, List.getElem_cons_zero, List.setIfInBounds_toArray, List.set_cons_zero, List.set_cons_succ]
              refine' wpAnyH_take (i := 1) (v := .int .i64 L) rfl (by kernel_rfl) (by kernel_rfl) (by kernel_rfl) (fun _ _ _ h => h) (Or.inl ⟨by rfl, fun w' hw' => by have q0 := hw'.1; go_simp⟩) hHeld ?_
              try simp only [Act.put, List.getElem_toArray, List.getElem_cons_succ, List.getElem_cons_zero, List.setIfInBounds_toArray, List.set_cons_zero, List.set_cons_succ]
              refine' wpAnyH_take (i := 2) (v := .int .i64 k) rfl (by kernel_rfl) (by kernel_rfl) (by kernel_rfl) (fun _ _ _ h => h) (Or.inl ⟨by rfl, fun w' hw' => by go_simp⟩) hHeld ?_
              try simp only [Act.put, List.getElem_toArray, List.getElem_cons_succ, List.getElem_cons_zero, List.setIfInBounds_toArray, List.set_cons_zero, List.set_cons_succ]
              refine' wpAnyH_take (i := 3) (v := .int .i64 u) rfl (by kernel_rfl) (by kernel_rfl) (by kernel_rfl) (fun _ _ _ h => h) (Or.inl ⟨by rfl, fun w' hw' => by go_simp⟩) hHeld ?_
              try simp only [Act.put, List.getElem_toArray, List.getElem_cons_succ, List.getElem_cons_zero, List.setIfInBounds_toArray, List.set_cons_zero, List.set_cons_succ]
              refine' wpAnyH_take (i := 4) (v := .pointer (some ⟨w.heap.size + 1 + 1, 1, none⟩)) rfl (by kernel_rfl) (by kernel_rfl) (by kernel_rfl) (fun _ _ _ h => h) (Or.inl ⟨by rfl, fun w' hw' => by go_simp⟩) hHeld ?_
              try simp only [Act.put, List.getElem_toArray, List.getElem_cons_succ, List.getElem_cons_zero, List.setIfInBounds_toArray, List.set_cons_zero, List.set_cons_succ]
              refine' wpAnyH_take (i := 5) (v := .slice A n c1) rfl (by kernel_rfl) (by kernel_rfl) (by kernel_rfl) (fun _ _ _ h => h) (Or.inl ⟨by rfl, fun w' hw' => by have q0 := hw'.2.1; go_simp⟩) hHeld ?_
              try simp only [Act.put, List.getElem_toArray, List.getElem_cons_succ, List.getElem_cons_zero, List.setIfInBounds_toArray, List.set_cons_zero, List.set_cons_succ]
              refine' wpAnyH_take (i := 6) (v := .int .i64 k) rfl (by kernel_rfl) (by kernel_rfl) (by kernel_rfl) (fun _ _ _ h => h) (Or.inl ⟨by rfl, fun w' hw' => by go_simp⟩) hHeld ?_
              try simp only [Act.put, List.getElem_toArray, List.getElem_cons_succ, List.getElem_cons_zero, List.setIfInBounds_toArray, List.set_cons_zero, List.set_cons_succ]
              refine' wpAnyH_take (i := 7) (v := .pointer (some ⟨gy, qy, none⟩)) rfl (by kernel_rfl) (by kernel_rfl) (by kernel_rfl) (fun _ _ _ h => h) (Or.inl ⟨by rfl, fun w' hw' => by have hv := HIY.out w'; go_simp⟩) hHeld ?_
              try simp only [Act.put, List.getElem_toArray, List.getElem_cons_succ, List.getElem_cons_zero, List.setIfInBounds_toArray, List.set_cons_zero, List.set_cons_succ]
              refine' wpAnyH_take (i := 8) (v := _) rfl (by kernel_rfl) (by kernel_rfl) (by kernel_rfl) (fun _ _ _ h => h) (yieldsIf_load_mid (by rfl) 24 _ rfl _ _ rfl (y.map u8v) _ (fun w' h => h.2.2) hu rfl hzy) hHeld ?_
              try simp only [Act.put, List.getElem_toArray, List.getElem_cons_succ, List.getElem_cons_zero, List.setIfInBounds_toArray, List.set_cons_zero, List.set_cons_succ]
              refine' wpAnyH_take (i := 9) (v := .agg (wt3 L k u y)) rfl (by kernel_rfl) (by kernel_rfl) (by kernel_rfl) (fun _ _ _ h => h) (yieldsIf_build_byW (by rfl) _ _ rfl _ _ (wt_build3 L k u y ly) (by with_unfolding_all rfl)) hHeld ?_
              try simp only [Act.put, List.getElem_toArray, List.getElem_cons_succ, List.getElem_cons_zero, List.setIfInBounds_toArray, List.set_cons_zero, List.set_cons_succ]
              refine wpAnyH_ready (rs := [10]) (by kernel_rfl) (by simp) ?_
              refine AllReadyH.cons rfl (fun K hK => ?_) AllReadyH.nil
              refine wp_store_blk 32 _ _ rfl (w.heap.size + 1 + 1 + 1) zc (wt3 L k u y) 32 hk.res rfl rfl hi3 hs3 ho3 ?_
              intro w9 hb9 hg9
              have hsg := wi_blk hk.sig hg9 (by omega)
              refine hK.out _ _ ⟨hsg.cell_ (i := 0) rfl, hsg.cell_ (i := 1) rfl, range_gb hHeld.2.2 hg9 (by omega)⟩ (fun hHeld => ?_)
              clear hK K hsg
              try simp only [Act.put, List.getElem_toArray, List.getElem_cons_succ, List.getElem_cons_zero, List.setIfInBounds_toArray, List.set_cons_zero, List.set_cons_succ]
              refine' wpAnyH_take (i := 11) (v := .int .i64 0) rfl (by kernel_rfl) (by kernel_rfl) (by kernel_rfl) (fun _ _ _ h => h) (Or.inl ⟨by rfl, fun w' hw' => by go_simp⟩) hHeld ?_
              try simp only [Act.put, List.getElem_toArray, List.getElem_cons_succ, List.getElem_cons_zero, List.setIfInBounds_toArray, List.set_cons_zero, List.set_cons_succ]
              refine wpAnyH_done (by kernel_rfl) ?_ _
              go_wp2_with (fail)
              refine bodyPost_ret (results_cellt rfl _ _ _ _ _ _ rfl hb9 Tryz.underlying32 rfl hi3) rfl ⟨by rw [HP.out]; rfl, hk.b_.grown hg9 hk.b_.size (fun i e => by have := Option.some.inj e; omega)⟩
          · obtain rfl : k = n := by omega
            have c9 : ¬ (k : Int) < k := by omega
            have hfn := fstW_none HJ.out
            rw [hfn] at HFD
            have hfd2 : fdW k H L s a l r way Xs = wt0 := HFD.out
            rw [hfd2] at HP
            clear hfn hfd2 HFD
            go_wp2_with (first
              | (with_reducible refine wpList_build_byW rfl _ _ rfl _ _ wt_build0 (by with_unfolding_all rfl) ?_)
              | ((with_reducible refine wpList_store_blk rfl 32 _ _ rfl (w.heap.size + 1 + 1 + 1) zc wt0 32 hk.res rfl rfl hi0 hz0 ho0 ?_); intro w9 hb9 hg9))
            refine bodyPost_ret (results_cellt rfl _ _ _ _ _ _ rfl hb9 Tryz.underlying32 rfl hi0) rfl ⟨by rw [HP.out]; rfl, hk.b_.grown hg9 hk.b_.size (fun i e => by have := Option.some.inj e; omega)⟩
  · have HP := hid (show P = .tuple #[.agg wt0, .int .i64 9] by rw [HPP.out, if_neg hke])
    rw [if_neg hke] at cV0
    clear hke
    go_wp2_with (first
      | (with_reducible refine wpList_load_if (by with_unfolding_all rfl) 24 _ rfl _ _ rfl (q.map u8v) _ fq hu rfl hzq ?_)
      | (with_reducible refine wpList_load_if (by with_unfolding_all rfl) 24 _ rfl _ _ rfl (a.map u8v) _ fa hu rfl hza ?_)
      | (go_at_call 29; (with_reducible refine cV0.mono ?_); rintro e9 w9v ⟨rfl, hbv⟩; replace hk := hk.below hbv)
      | (with_reducible refine wpList_build_byW rfl _ _ rfl _ _ wt_build0 (by with_unfolding_all rfl) ?_)
      | ((with_reducible refine wpList_store_blk rfl 32 _ _ rfl (w.heap.size + 1 + 1 + 1) zc wt0 32 hk.res rfl rfl hi0 hz0 ho0 ?_); intro w9 hb9 hg9))
    refine bodyPost_ret (results_cellt rfl _ _ _ _ _ _ rfl hb9 Tryz.underlying32 rfl hi0) rfl ⟨by rw [HP.out]; rfl, hk.b_.grown hg9 hk.b_.size (fun i e => by have := Option.some.inj e; omega)⟩

end Go.Proofs.YticpdepbgcagaaaGreat

/- journal: a frame's bytes, and the chain behind it. -/
import Derived.Test.YtemdmdgigmhlbaaGreatJn4
import Derived.Test.YtemdmdgigmhlbaaGreatTag1
import Derived.Shelf.Strings.BuilderK
set_option linter.unusedSimpArgs false
set_option linter.unusedVariables false
namespace Go.Proofs.YtemdmdgigmhlbaaGreat
open Go.RowKit Go.Qc Go.Shelf
attribute [local go_sem] txt_size txt_append ib_fold
theorem results_tct {P : Program} {fn : Func} {t p u : Tmp} {ty : TypeId} (h : fn.results = #[.tmp t, .cell p ty, .tmp u]) (tmps : Array Value) (w : World) (g : Nat) (ty2 : TypeId) (cs : Array Value) (d : TypeDesc)
    (hp : tmps.getD p undef = .pointer (some ⟨g, 0, none⟩)) (hg : Blk w g ty2 cs)
    (hu : P.underlying ty = some d) (hd : (match d with | .struct _ | .array _ _ => true | _ => false) = true) (hi : (P.info? ty).map (·.size) = some cs.size) :
    (results fn tmps).run P w = .ok (.tuple #[tmps.getD t undef, .agg cs, tmps.getD u undef]) w := by
  have hp' : tmps[p]?.getD undef = .pointer (some ⟨g, 0, none⟩) := by simpa using hp
  simp only [results, h]
  simp [Sem.run_bind, hp', asAddr, run_loadVar_row w g ty2 ty cs (0, 0) d hg hu hd hi, Result.andThen]
/-- A frame that is written: its box, the chain's place, the writer. -/
structure SlS (w : World) (k : Int) (p S : List UInt8) (gw : Nat) (l : List UInt8) (W : World) : Prop where
  bf : Blk W (w.heap.size + 1) 34 #[.int .i64 k, .string (txt p)]
  bz : Blk W (w.heap.size + 1 + 1) 42 (idVals S)
  wr : Wrt gw l W
  lt : w.heap.size + 1 + 1 < gw
  hb : Below w.heap.size w W
theorem SlS.step {w : World} {k : Int} {p S : List UInt8} {gw : Nat} {l l' : List UInt8} {W W' : World} (h : SlS w k p S gw l W) (hw : Wrt gw l' W') (hb : Below gw W W') : SlS w k p S gw l' W' :=
  ⟨(hb.block _ (by have := h.lt; omega)).trans h.bf, (hb.block _ h.lt).trans h.bz, hw, h.lt, h.hb.trans (hb.mono (by have := h.lt; omega))⟩
theorem SlS.below {w : World} {k : Int} {p S : List UInt8} {gw : Nat} {l : List UInt8} {W W' : World} (h : SlS w k p S gw l W) (g : Below W.heap.size W W') : SlS w k p S gw l W' :=
  ⟨h.bf.below g, h.bz.below g, h.wr.below g, h.lt, h.hb.trans (g.mono h.hb.size)⟩
theorem SlS.start {w : World} {k : Int} {p S : List UInt8} {W : World} (bf : Blk W (w.heap.size + 1) 34 #[.int .i64 k, .string (txt p)]) (bz : Blk W (w.heap.size + 1 + 1) 42 (idVals S)) (hb : Below w.heap.size w W) :
    SlS w k p S W.heap.size [] (W.alloc (.cells #[.slice none 0 0] 89)) :=
  ⟨bf.alloc _, bz.alloc _, Wrt.new W, bz.lt, hb.alloc hb.size _⟩
theorem SlS.put {w : World} {k : Int} {p S : List UInt8} {gw : Nat} {l : List UInt8} {W W' : World} (h : SlS w k p S gw l W) (g : W.grownBy W' (some (w.heap.size + 1 + 1))) (hz : Blk W' (w.heap.size + 1 + 1) 42 (idVals S)) : Below w.heap.size w W' ∧ Blk W' (w.heap.size + 1 + 1) 42 (idVals S) :=
  ⟨h.hb.grown g h.hb.size (by intro i e; cases e; omega), hz⟩
theorem pkByte74 (b : Nat) (l : List UInt8) (hl : l.length ≤ 1000000000000) (w : World) (h : Wrt b l w) :
    Calls Tryz.prog 44 #[.pointer (some ⟨b, 0, none⟩), .int .u8 74] w fun o w' => o = .returned (.tuple #[]) ∧ Wrt b (l ++ [74]) w' ∧ Below b w w' := pkByte_any b l 74 hl w h
set_option maxRecDepth 100000 in
set_option maxHeartbeats 8000000 in
theorem sealed_arg (a : List UInt8) (ha : a.length = 32) (k : Int) (p : List UInt8) (hk : k < 1 ∨ 255 < k) (w : World) :
    Calls Tryz.prog 27 #[.agg (idVals a), .agg #[.int .i64 k, .string (txt p)]] w fun e w' => e = .returned (.tuple #[.string ⟨#[]⟩, .agg (idVals zeroB), .int .i64 1]) ∧ Below w.heap.size w w' := by
  have cN : ∀ W, Calls Tryz.prog 43 #[.agg (List.map u8v a).toArray, .agg #[.int .i64 k, .string (txt p)]] W fun e w' => e = .returned (.tuple #[.agg (idVals zeroB), .int .i64 1]) ∧ Below W.heap.size W w' := fun W => next_arg a k p hk W
  have hu := Tryz.underlying42
  have huF := Tryz.underlying34
  have hLa : (Tryz.prog.info? 42).map (·.size) = some (a.map u8v).length := by rw [List.length_map, ha]; exact sizeId
  have hLf : (Tryz.prog.info? 34).map (·.size) = some ([.int .i64 k, .string (txt p)] : List Value).length := Fj_infoN
  have hI : (Tryz.prog.info? 42).map (·.size) = some (idVals zeroB).size := by rw [idVals_size]; exact sizeId
  have h1c := idVals_one zeroB
  clear hk
  go_enter Tryz.func27, Tryz.ntmps27
  go_upto_region 1 with (fail)
  rw [← zeroB_vals]
  obtain ⟨zc, hzc, hZ⟩ : ∃ zc : Array Value, zc.size = (idVals zeroB).size ∧ Hid (zc = idVals zeroB) := ⟨_, rfl, hid rfl⟩
  rw [← hZ.out]
  clear hZ
  have hS := nx_start w 34 a k p zc
  generalize ((w.alloc (.cells (idVals a) 42)).alloc (.cells #[.int .i64 k, .string (txt p)] 34)).alloc (.cells zc 42) = W at *
  have rA := range_blk hS.ba
  have rF := blk_range hS.bf
  have bz := hS.bz
  have hb := hS.hb
  clear hS
  go_wp2_with (first
    | (with_reducible refine wpList_load_if (by with_unfolding_all rfl) 42 _ rfl _ _ rfl (a.map u8v) _ rA hu rfl hLa ?_)
    | (with_reducible refine wpList_load_if (by with_unfolding_all rfl) 34 _ rfl _ _ rfl [.int .i64 k, .string (txt p)] _ rF huF rfl hLf ?_)
    | (go_at_call 43; (with_reducible refine (cN _).mono ?_); rintro e1 w1 ⟨rfl, hb1⟩; replace bz := bz.below hb1; replace hb := hb.trans (hb1.mono hb.size); clear rA rF hb1)
    | (with_reducible refine wpList_store_blk rfl 42 _ _ rfl (w.heap.size + 1 + 1) _ (idVals zeroB) 42 bz rfl rfl hI ?c4 h1c ?_))
  case c4 => exact hzc
  intro w7 hb7 hg7
  replace hb := hb.grown hg7 hb.size (by intro i e; cases e; omega)
  have h1d : (idVals zeroB).all (·.oneCell') = true := h1c
  rw [zeroB_vals] at hb7
  go_wp2_with (first
    | (with_reducible refine wpList_store_blk rfl 42 _ _ rfl (w.heap.size + 1 + 1) _ _ 42 hb7 rfl rfl ?c5 ?c6 ?c7 ?_))
  case c5 => first | exact sizeId | simpa using sizeId
  case c6 => rfl
  case c7 => first | rfl | (rw [← zeroB_vals]; exact idVals_one _)
  intro w8 hb8 hg8
  replace hb := hb.grown hg8 hb.size (by intro i e; cases e; omega)
  go_wp2
  refine bodyPost_ret (results_tct rfl _ _ _ _ _ _ rfl hb8 Tryz.underlying42 rfl sizeId) rfl ⟨?_, hb⟩
  rw [zeroB_vals]; rfl
set_option maxRecDepth 100000 in
set_option maxHeartbeats 8000000 in
theorem sealed_ok (a : List UInt8) (ha : a.length = 32) (n : Nat) (hn1 : 1 ≤ n) (hn2 : n ≤ 255) (p : List UInt8) (hp : p.length ≤ 5000) (w : World) :
    Calls Tryz.prog 27 #[.agg (idVals a), .agg #[.int .i64 (n : Int), .string (txt p)]] w fun e w' => e = .returned (.tuple #[.string (txt (frB a ⟨n, p⟩)), .agg (idVals (nxtB a ⟨n, p⟩)), .int .i64 0]) ∧ Below w.heap.size w w' := by
  have hSl := nxtB_length a ⟨n, p⟩
  have cN : ∀ W, Calls Tryz.prog 43 #[.agg (List.map u8v a).toArray, .agg #[.int .i64 (n : Int), .string (txt p)]] W fun e w' => e = .returned (.tuple #[.agg (idVals (nxtB a ⟨n, p⟩)), .int .i64 0]) ∧ Below W.heap.size W w' := fun W => next_ok a ha n hn1 hn2 p hp W
  obtain ⟨x, hx⟩ : ∃ x, x = kB ⟨n, p⟩ := ⟨_, rfl⟩
  have hxn : (n : Int) = ib x := by rw [hx]; exact ib_of_nat n (by omega)
  have e0 : frB a ⟨n, p⟩ = ([] ++ [74] ++ [x] ++ (numE p.length ++ p)) ++ (nxtB a ⟨n, p⟩).take 8 := by rw [hx]; simp [frB, textE]
  have hT9 : (numE p.length ++ p).length ≤ 100000009 := textE_len p (by omega)
  obtain ⟨L, hL⟩ : ∃ L, L = [] ++ [74] ++ [x] ++ (numE p.length ++ p) := ⟨_, rfl⟩
  have hLl : L.length ≤ 100000100 := by rw [hL, List.length_append]; simp only [List.length_append, List.length_nil, List.length_cons] at hT9 ⊢; omega
  rw [e0, ← hL]
  generalize nxtB a ⟨n, p⟩ = S at *
  have HL := hid hL
  have HSL := hid hSl
  have hwx : IntKind.u8.wrap (n : Int) = ib x := by rw [← hxn]; unfold IntKind.wrap; simp [IntKind.bits, IntKind.signed]; omega
  have hu := Tryz.underlying42
  have huF := Tryz.underlying34
  have hLa : (Tryz.prog.info? 42).map (·.size) = some (a.map u8v).length := by rw [List.length_map, ha]; exact sizeId
  have hLs : (Tryz.prog.info? 42).map (·.size) = some (S.map u8v).length := by rw [List.length_map, hSl]; exact sizeId
  have hLf : (Tryz.prog.info? 34).map (·.size) = some ([.int .i64 (n : Int), .string (txt p)] : List Value).length := Fj_infoN
  have hI : (Tryz.prog.info? 42).map (·.size) = some (idVals S).size := by rw [idVals_size, HSL.out]; exact sizeId
  have h1c := idVals_one S
  clear hx hxn e0 hL hSl
  go_enter Tryz.func27, Tryz.ntmps27
  go_upto_region 1 with (fail)
  rw [← zeroB_vals]
  obtain ⟨zc, hzc, hZ⟩ : ∃ zc : Array Value, zc.size = (idVals S).size ∧ Hid (zc = idVals zeroB) := ⟨_, by rw [idVals_size, idVals_size, HSL.out]; rfl, hid rfl⟩
  rw [← hZ.out]
  clear hZ
  have hS := nx_start w 34 a n p zc
  generalize ((w.alloc (.cells (idVals a) 42)).alloc (.cells #[.int .i64 (n : Int), .string (txt p)] 34)).alloc (.cells zc 42) = W at *
  have rA := range_blk hS.ba
  have rF := blk_range hS.bf
  have bf := hS.bf
  have bz := hS.bz
  have hb := hS.hb
  clear hS
  go_wp2_with (first
    | (with_reducible refine wpList_load_if (by with_unfolding_all rfl) 42 _ rfl _ _ rfl (a.map u8v) _ rA hu rfl hLa ?_)
    | (with_reducible refine wpList_load_if (by with_unfolding_all rfl) 34 _ rfl _ _ rfl [.int .i64 (n : Int), .string (txt p)] _ rF huF rfl hLf ?_)
    | (go_at_call 43; (with_reducible refine (cN _).mono ?_); rintro e1 w1 ⟨rfl, hb1⟩; replace bz := bz.below hb1; replace bf := bf.below hb1; replace hb := hb.trans (hb1.mono hb.size); clear rA rF hb1)
    | (with_reducible refine wpList_store_blk rfl 42 _ _ rfl (w.heap.size + 1 + 1) _ (idVals S) 42 bz rfl rfl hI ?c4 h1c ?_))
  case c4 => exact hzc
  intro w2 hb7 hg7
  replace bf : Blk w2 (w.heap.size + 1) 34 #[.int .i64 (n : Int), .string (txt p)] := (hg7.block _ bf.lt (by intro e; have := Option.some.inj e; omega)).trans bf
  replace hb := hb.grown hg7 hb.size (by intro i e; cases e; omega)
  clear hg7 bz
  have hS := SlS.start bf hb7 hb
  clear bf hb7 hb
  go_wp2_with (fail)
  generalize w2.heap.size = gw at *
  generalize w2.alloc (.cells #[.slice none 0 0] 89) = W3 at *
  refine (pkByte74 gw [] (by simp) _ hS.wr).mono ?_
  rintro e3 w3 ⟨rfl, q1, q2⟩
  replace hS := hS.step q1 q2
  clear q1 q2
  have c0 : w3.cell? ⟨w.heap.size + 1, 0, none⟩ = some (.int .i64 (n : Int)) := hS.bf.cell_ rfl
  go_wp2_with (fail)
  refine (pkByte_any gw ([] ++ [74]) x (by simp) _ hS.wr).mono ?_
  rintro e4 w4 ⟨rfl, q1, q2⟩
  replace hS := hS.step q1 q2
  clear q1 q2 c0
  have c1 : w4.cell? ⟨w.heap.size + 1, 1, none⟩ = some (.string (txt p)) := hS.bf.cell_ rfl
  go_wp2_with (fail)
  refine (pkWText_any gw ([] ++ [74] ++ [x]) p (by omega) (by simp) _ hS.wr).mono ?_
  rintro e5 w5 ⟨rfl, q1, q2⟩
  replace hS := hS.step q1 q2
  clear q1 q2 c1
  rw [← HL.out] at hS
  go_wp2_with (fail)
  go_loopw [35] (fun i W' => ∃ k : Nat, k ≤ 8 ∧ i = .int .i64 k ∧ SlS w (n : Int) p S gw (L ++ S.take k) W') (fun i _ => 8 - (intOf i).toNat)
  case atStart => exact ⟨0, by omega, rfl, by rw [List.take_zero, List.append_nil]; exact hS⟩
  case round =>
    clear hS
    obtain ⟨k, hk, rfl, hS⟩ := hrel
    by_cases hlt : k < 8
    · obtain ⟨y, hy⟩ : ∃ y, S[k]? = some y := ⟨_, List.getElem?_eq_getElem (by rw [HSL.out]; omega)⟩
      have cy : wr.cell? ⟨w.heap.size + 1 + 1, k, none⟩ = some (.int .u8 (ib y)) := hS.bz.cell_ (by
        unfold idVals
        rw [List.getElem?_toArray, List.getElem?_map, hy]
        rfl)
      have b1 : (k : Int) < 8 := by omega
      have hB : ∀ W, SlS w (n : Int) p S gw (L ++ S.take k) W → Calls Tryz.prog 44 #[.pointer (some ⟨gw, 0, none⟩), .int .u8 (ib y)] W fun o w' => o = .returned (.tuple #[]) ∧ SlS w (n : Int) p S gw (L ++ S.take (k + 1)) w' := fun W h => by
        have hfl : (L ++ S.take k).length ≤ 1000000000000 := by rw [List.length_append, List.length_take]; omega
        refine (pkByte_any gw (L ++ S.take k) y hfl W h.wr).mono ?_
        rintro o w' ⟨h1, h2, h3⟩
        have e : S.take (k + 1) = S.take k ++ [y] := by rw [List.take_add_one, hy]; rfl
        rw [e, ← List.append_assoc]
        exact ⟨h1, h.step h2 h3⟩
      clear hy
      go_wp2_with (first
        | (go_at_call 44; (with_reducible refine (hB _ hS).mono ?_); rintro o4 w6 ⟨rfl, hS6⟩))
      go_roundw
      case rel => exact ⟨k + 1, by omega, by go_num, hS6⟩
      case measure => simp [intOf]; omega
    · obtain rfl : k = 8 := by omega
      have b1 : ¬ (8 : Int) < 8 := by omega
      go_upto_region 13 with (fail)
      replace hS := hS.below (below_drew1 wr)
      refine wp_region_held_drew (S := fun W => Blk W (w.heap.size + 1 + 1) 42 (idVals S) ∧ Below w.heap.size w W) (by kernel_rfl) ?_ (fun hHeld => ?_)
      · exact ⟨hS.bz, hS.hb⟩
      generalize wr.drew = V at *
      refine' wpAnyH_take (i := 0) (v := .pointer (some ⟨gw, 0, none⟩)) rfl (by kernel_rfl) (by kernel_rfl) (by kernel_rfl) (fun _ _ _ h => h) (Or.inl ⟨by rfl, fun w' hw' => by go_simp⟩) hHeld ?_
      try simp only [Act.put, List.getElem_toArray, List.getElem_cons_succ, List.getElem_cons_zero, List.setIfInBounds_toArray, List.set_cons_zero, List.set_cons_succ]
      refine' wpAnyH_take (i := 2) (v := .agg (List.map u8v S).toArray) rfl (by kernel_rfl) (by kernel_rfl) (by kernel_rfl) (fun _ _ _ h => h) (yieldsIf_load_mid (by rfl) 42 _ rfl _ 0 rfl (S.map u8v) _ (fun w' hw' => range_blk hw'.1) hu rfl hLs) hHeld ?_
      try simp only [Act.put, List.getElem_toArray, List.getElem_cons_succ, List.getElem_cons_zero, List.setIfInBounds_toArray, List.set_cons_zero, List.set_cons_succ]
      refine wpAnyH_ready (rs := [1]) (by kernel_rfl) (by simp) ?_
      refine AllReadyH.cons rfl (fun K hK => ?_) AllReadyH.nil
      go_simp
      (with_reducible refine (pkWString_any _ _ _ hS.wr).mono ?_)
      rintro e9 w9 ⟨rfl, rfl⟩
      refine hK.out _ _ hHeld (fun hHeld => ?_)
      clear hK K
      try simp only [Act.put, List.getElem_toArray, List.getElem_cons_succ, List.getElem_cons_zero, List.setIfInBounds_toArray, List.set_cons_zero, List.set_cons_succ]
      refine wpAnyH_ready (rs := [3]) (by kernel_rfl) (by simp) ?_
      refine AllReadyH.cons rfl (fun K hK => ?_) AllReadyH.nil
      go_simp
      refine hK.out _ _ hHeld (fun hHeld => ?_)
      clear hK K
      try simp only [Act.put, List.getElem_toArray, List.getElem_cons_succ, List.getElem_cons_zero, List.setIfInBounds_toArray, List.set_cons_zero, List.set_cons_succ]
      refine wpAnyH_ready (rs := [4]) (by kernel_rfl) (by simp) ?_
      refine AllReadyH.cons rfl (fun K hK => ?_) AllReadyH.nil
      refine wp_store_blk 42 _ _ rfl (w.heap.size + 1 + 1) _ (idVals S) 42 hHeld.1 rfl rfl hI rfl h1c ?_
      intro w7 hb7 hg7
      refine hK.out _ _ ⟨hb7, hHeld.2.grown hg7 hHeld.2.size (by intro i e; cases e; omega)⟩ (fun hHeld => ?_)
      clear hK K
      try simp only [Act.put, List.getElem_toArray, List.getElem_cons_succ, List.getElem_cons_zero, List.setIfInBounds_toArray, List.set_cons_zero, List.set_cons_succ]
      refine wpAnyH_ready (rs := [5]) (by kernel_rfl) (by simp) ?_
      refine AllReadyH.cons rfl (fun K hK => ?_) AllReadyH.nil
      go_simp
      refine hK.out _ _ hHeld (fun hHeld => ?_)
      clear hK K
      try simp only [Act.put, List.getElem_toArray, List.getElem_cons_succ, List.getElem_cons_zero, List.setIfInBounds_toArray, List.set_cons_zero, List.set_cons_succ]
      refine wpAnyH_done (by kernel_rfl) ?_ _
      go_wp2
      refine bodyPost_ret (results_tct rfl _ _ _ _ _ _ rfl hb7 Tryz.underlying42 rfl hI) rfl ⟨rfl, hHeld.2⟩
end Go.Proofs.YtemdmdgigmhlbaaGreat
/- journal: a frame's bytes. -/
set_option linter.unusedSimpArgs false
set_option linter.unusedVariables false
namespace Go.Proofs.YtemdmdgigmhlbaaGreat
open Go.RowKit Go.Qc Go.Shelf
attribute [local go_sem] txt_size txt_append ib_fold
set_option maxRecDepth 100000 in
set_option maxHeartbeats 8000000 in
theorem jbytes_gen (a : List UInt8) (ha : a.length = 32) (k : Int) (p s S : List UInt8) (hS : S.length = 32) (ee : Int)
    (cN : ∀ W, Calls Tryz.prog 27 #[.agg (idVals a), .agg #[.int .i64 k, .string (txt p)]] W fun e w' => e = .returned (.tuple #[.string (txt s), .agg (idVals S), .int .i64 ee]) ∧ Below W.heap.size W w') (w : World) :
    Calls Tryz.prog 22 #[.agg (idVals a), .agg #[.int .i64 k, .string (txt p)]] w fun e w' => e = .returned (.tuple #[.string (txt s), .int .i64 ee]) ∧ Below w.heap.size w w' := by
  replace cN : ∀ W, Calls Tryz.prog 27 #[.agg (List.map u8v a).toArray, .agg #[.int .i64 k, .string (txt p)]] W fun e w' => e = .returned (.tuple #[.string (txt s), .agg (idVals S), .int .i64 ee]) ∧ Below W.heap.size W w' := cN
  have hu := Tryz.underlying42
  have huF := Tryz.underlying34
  have hLa : (Tryz.prog.info? 42).map (·.size) = some (a.map u8v).length := by rw [List.length_map, ha]; exact sizeId
  have hLf : (Tryz.prog.info? 34).map (·.size) = some ([.int .i64 k, .string (txt p)] : List Value).length := Fj_infoN
  have hI : (Tryz.prog.info? 42).map (·.size) = some (idVals S).size := by rw [idVals_size, hS]; exact sizeId
  have h1c := idVals_one S
  have HSL := hid hS
  clear hS
  go_enter Tryz.func22, Tryz.ntmps22
  go_upto_region 1 with (fail)
  have hS := nx2_start w 34 a k p
  generalize (w.alloc (.cells (idVals a) 42)).alloc (.cells #[.int .i64 k, .string (txt p)] 34) = W at *
  have rA := range_blk hS.ba
  have rF := blk_range hS.bf
  have hb := hS.hb
  clear hS
  have hN : ∀ (V : World) (cs : Array Value), Blk (V.alloc (.cells cs 42)) V.heap.size 42 cs := fun V cs => Blk.new _ _ _
  go_wp2_with (first
    | (with_reducible refine wpList_load_if (by with_unfolding_all rfl) 42 _ rfl _ _ rfl (a.map u8v) _ rA hu rfl hLa ?_)
    | (with_reducible refine wpList_load_if (by with_unfolding_all rfl) 34 _ rfl _ _ rfl [.int .i64 k, .string (txt p)] _ rF huF rfl hLf ?_)
    | (go_at_call 27; (with_reducible refine (cN _).mono ?_); rintro e1 w1 ⟨rfl, hb1⟩; replace hb := hb.trans (hb1.mono hb.size); clear rA rF hb1)
    | (with_reducible refine wpList_store_blk rfl 42 _ _ rfl w1.heap.size _ (idVals S) 42 (hN _ _) rfl rfl hI ?c4 h1c ?_))
  case c4 => rw [idVals_size, HSL.out]; rfl
  intro w7 hb7 hg7
  have hB7 : Below w.heap.size w w7 := (hb.alloc hb.size _).grown hg7 (by have := hb.size; simp; omega) (by intro i e; cases e; exact hb.size)
  go_wp2
  go_ret2
  exact ⟨rfl, hB7⟩
theorem jbytes_ok (a : List UInt8) (ha : a.length = 32) (n : Nat) (hn1 : 1 ≤ n) (hn2 : n ≤ 255) (p : List UInt8) (hp : p.length ≤ 5000) (w : World) :
    Calls Tryz.prog 22 #[.agg (idVals a), .agg #[.int .i64 (n : Int), .string (txt p)]] w fun e w' => e = .returned (.tuple #[.string (txt (frB a ⟨n, p⟩)), .int .i64 0]) ∧ Below w.heap.size w w' :=
  jbytes_gen a ha n p _ _ (nxtB_length _ _) 0 (fun W => sealed_ok a ha n hn1 hn2 p hp W) w
end Go.Proofs.YtemdmdgigmhlbaaGreat
/- journal: the bytes of frames. -/
set_option linter.unusedSimpArgs false
set_option linter.unusedVariables false
namespace Go.Proofs.YtemdmdgigmhlbaaGreat
open Go.RowKit Go.Qc Go.Shelf
attribute [local go_sem] txt_size txt_append ib_fold
/-- A frame that may be. -/
def FmD.okF (X : FmD) : Prop := 1 ≤ X.k ∧ X.k ≤ 255
instance (X : FmD) : Decidable X.okF := by unfold FmD.okF; infer_instance
theorem FmD.okF.nat {X : FmD} (h : X.okF) : ∃ n : Nat, 1 ≤ n ∧ n ≤ 255 ∧ X = ⟨(n : Int), X.p⟩ := by
  obtain ⟨k, p⟩ := X
  obtain ⟨h1, h2⟩ := h
  simp only at h1 h2
  refine ⟨k.toNat, by omega, by omega, ?_⟩
  have e : ((k.toNat : Nat) : Int) = k := by omega
  rw [e]
theorem FmD.okF.no {X : FmD} (h : ¬ X.okF) : X.k < 1 ∨ 255 < X.k := by unfold FmD.okF at h; omega
theorem wrg_ok {X : FmD} (h : X.okF) : wrgF X = 0 := by unfold wrgF; rw [if_neg]; unfold FmD.okF at h; omega
theorem wrg_no {X : FmD} (h : ¬ X.okF) : wrgF X = 1 := by unfold wrgF; rw [if_pos (FmD.okF.no h)]
theorem sealed_yes (c : List UInt8) (hc : c.length = 32) (X : FmD) (h : X.okF) (hp : X.p.length ≤ 5000) (w : World) :
    Calls Tryz.prog 27 #[.agg (List.map u8v c).toArray, .agg X.cs] w fun e w' => e = .returned (.tuple #[.string (txt (frB c X)), .agg (idVals (nxtB c X)), .int .i64 0]) ∧ Below w.heap.size w w' := by
  obtain ⟨n, h1, h2, h3⟩ := h.nat
  rw [h3]
  exact sealed_ok c hc n h1 h2 X.p hp w
theorem sealed_no (c : List UInt8) (hc : c.length = 32) (X : FmD) (h : ¬ X.okF) (w : World) :
    Calls Tryz.prog 27 #[.agg (List.map u8v c).toArray, .agg X.cs] w fun e w' => e = .returned (.tuple #[.string ⟨#[]⟩, .agg (idVals zeroB), .int .i64 1]) ∧ Below w.heap.size w w' := sealed_arg c hc X.k X.p (FmD.okF.no h) w
/-- Frames' bytes, and the chain behind them. -/
def stJ (Xs : List FmD) : List UInt8 × List UInt8 := Xs.foldl (fun s X => (s.1 ++ frB s.2 X, nxtB s.2 X)) ([], begB)
theorem stJ_snoc (Xs : List FmD) (X : FmD) : stJ (Xs ++ [X]) = ((stJ Xs).1 ++ frB (stJ Xs).2 X, nxtB (stJ Xs).2 X) := by simp [stJ, List.foldl_append]
theorem stJ_chain (Xs : List FmD) : (stJ Xs).2.length = 32 := by
  by_cases hne : Xs = []
  · rw [hne]; exact begB_length
  · rw [← List.dropLast_concat_getLast hne, stJ_snoc]; exact nxtB_length _ _
theorem frB_len (c : List UInt8) (X : FmD) (h : X.p.length ≤ 5000) : (frB c X).length ≤ 100000019 := by
  have := textE_len X.p (by omega)
  simp only [frB, List.length_cons, List.length_append, List.length_take]
  omega
theorem stJ_len : ∀ (n : Nat) (Xs : List FmD), Xs.length = n → (∀ X ∈ Xs, X.p.length ≤ 5000) → (stJ Xs).1.length ≤ n * 100000019 := by
  intro n
  induction n with
  | zero => intro Xs h _; rw [List.eq_nil_of_length_eq_zero h]; simp [stJ]
  | succ n ih =>
    intro Xs h hp
    have hne : Xs ≠ [] := by intro e; rw [e] at h; simp at h
    have e := List.dropLast_concat_getLast hne
    rw [← e, stJ_snoc, List.length_append]
    have h1 := ih Xs.dropLast (by rw [List.length_dropLast, h]; rfl) (fun X hX => hp X (by have h9 := List.mem_append.2 (Or.inl (b := X ∈ [Xs.getLast hne]) hX); rwa [e] at h9))
    have h2 := frB_len (stJ Xs.dropLast).2 (Xs.getLast hne) (hp _ (List.getLast_mem hne))
    omega
/-- A builder. -/
def JbS (b : Nat) (l : List UInt8) (W : World) : Prop := Lib.IsBuilderF 121 5 b b (l.map u8v) W
theorem JbS.keep {b : Nat} {l : List UInt8} {W W' : World} (h : JbS b l W) (g : Option Nat) (hk : ∀ k, k < W.heap.size → some k ≠ g → W'.heap[k]? = W.heap[k]?) (hg : ∀ k, g = some k → k ≠ b ∧ ∃ T cs, T ≠ 5 ∧ Blk W k T cs) : JbS b l W' := by
  have key : ∀ p, Lib.BuilderAtF 121 5 b b p (l.map u8v) W → Lib.BuilderAtF 121 5 b b p (l.map u8v) W' := by
    rintro p ⟨hB, v, hbk, hown, hne⟩
    have hb : b < W.heap.size := (Array.getElem?_eq_some_iff.1 hbk).1
    refine ⟨hB, v, (hk b hb (fun e => (hg b e.symm).1 rfl)).trans hbk, ⟨hown.1, ?_⟩, hne⟩
    rcases hown.2 with h | ⟨q, cap, cur, fz, rfl, h1, h2, h3⟩
    · exact .inl h
    · refine .inr ⟨q, cap, cur, fz, rfl, h1, (hk q (Array.getElem?_eq_some_iff.1 h2).1 (fun e => ?_)).trans h2, h3⟩
      obtain ⟨_, T, cs, hT, hb2⟩ := hg q e.symm
      have hb3 : W.heap[q]? = some (.cells cs T (0, 0)) := hb2
      rw [h2] at hb3
      injection hb3 with hb4
      injection hb4 with _ e2 _
      exact hT e2.symm
  exact h.imp (key _) (key _)
theorem JbS.below {b : Nat} {l : List UInt8} {W W' : World} (h : JbS b l W) (hb : Below W.heap.size W W') : JbS b l W' := h.keep none (fun k hk _ => hb.block k hk) (by intro k e; cases e)
theorem JbS.new (w : World) : JbS w.heap.size [] (w.alloc (.cells #[.pointer none, .slice none 0 0] 121)) :=
  Lib.IsBuilderF.of (.inl ⟨Nat.le_refl _, .slice none 0 0, heap_alloc_new w _, ⟨rfl, .inl ⟨rfl, rfl⟩⟩, by simp [Value.ownBlock]⟩)
theorem JbS.lt {b : Nat} {l : List UInt8} {W : World} (h : JbS b l W) : b < W.heap.size := by
  rcases h with ⟨_, _, h, _⟩ | ⟨_, _, h, _⟩ <;> exact (Array.getElem?_eq_some_iff.1 h).1
end Go.Proofs.YtemdmdgigmhlbaaGreat
/- journal: the bytes of frames, the walk. -/
set_option linter.unusedSimpArgs false
set_option linter.unusedVariables false
namespace Go.Proofs.YtemdmdgigmhlbaaGreat
open Go.RowKit Go.Qc Go.Shelf
attribute [local go_sem] txt_size txt_append ib_fold
def okJ (Xs : List FmD) : Prop := ∀ X ∈ Xs, X.okF
instance (Xs : List FmD) : Decidable (okJ Xs) := by unfold okJ; infer_instance
theorem stJ_take {Xs : List FmD} {k : Nat} {X : FmD} (hX : Xs[k]? = some X) : stJ (Xs.take (k + 1)) = ((stJ (Xs.take k)).1 ++ frB (stJ (Xs.take k)).2 X, nxtB (stJ (Xs.take k)).2 X) := by
  rw [List.take_add_one, hX]; exact stJ_snoc _ _
/-- Frames' bytes under way: the builder, the chain's box. -/
structure AlS (w : World) (gb gc : Nat) (l c : List UInt8) (W : World) : Prop where
  bs : JbS gb l W
  bc : Blk W gc 42 (idVals c)
  lt : gb < gc
  ge : w.heap.size ≤ gb
  hb : Below w.heap.size w W
theorem AlS.below {w : World} {gb gc : Nat} {l c : List UInt8} {W W' : World} (h : AlS w gb gc l c W) (g : Below W.heap.size W W') : AlS w gb gc l c W' :=
  ⟨h.bs.below g, h.bc.below g, h.lt, h.ge, h.hb.trans (g.mono h.hb.size)⟩
theorem AlS.put {w : World} {gb gc : Nat} {l c c' : List UInt8} {W W' : World} (h : AlS w gb gc l c W) (g : W.grownBy W' (some gc)) (hc : Blk W' gc 42 (idVals c')) : AlS w gb gc l c' W' :=
  ⟨h.bs.keep (some gc) (fun k hk hne => g.block k hk hne) (fun k e => by cases e; exact ⟨by have := h.lt; omega, _, _, by decide, h.bc⟩), hc, h.lt, h.ge, h.hb.grown g h.hb.size (by intro i e; cases e; have := h.lt; have := h.ge; omega)⟩
theorem AlS.start {w w1 w2 : World} {gb : Nat} {l c : List UInt8} {zs : Array Value} (hJ : JbS gb l w1) (hge : w.heap.size ≤ gb) (hb : Below w.heap.size w w1) (hz : Blk w2 w1.heap.size 42 (idVals c)) (hg : (w1.alloc (.cells zs 42)).grownBy w2 (some w1.heap.size)) :
    AlS w gb w1.heap.size l c w2 := by
  have hlt := hJ.lt
  refine ⟨hJ.keep none (fun k hk _ => ?_) (by intro k e; cases e), hz, hlt, hge, (hb.alloc hb.size _).grown hg (by have := hb.size; simp; omega) (by intro i e; cases e; exact hb.size)⟩
  rw [hg.block k (by simp; omega) (by intro e; have := Option.some.inj e; omega)]
  exact Below.heap_alloc w1 _ k hk
end Go.Proofs.YtemdmdgigmhlbaaGreat


/- journal: the law of logs, walked. -/
import Derived.Test.YtemdmdgigmhlbaaGreatLg4
set_option linter.unusedSimpArgs false
set_option linter.unusedVariables false
namespace Go.Proofs.YtemdmdgigmhlbaaGreat
open Go.RowKit Go.Qc Go.Shelf
attribute [local go_sem] txt_size txt_append ib_fold

theorem plain_b (A : Option Addr) (n c : Nat) (Xs : List FmD) (hn : Xs.length = n) (hN : n * 24 ≤ 140737488355328) (w : World) (hA : FjRd w A Xs) :
    Calls Tryz.prog 4 #[.slice A n c] w fun e w' => ∃ v b, e = .returned (.tuple #[v, .bool b]) ∧ Below w.heap.size w w' := by
  by_cases hf : n ≤ 12 ∧ ∀ X ∈ Xs, X.p.length ≤ 300
  · exact (plain_12 A n c Xs hn hf.1 hf.2 w hA).mono fun e w' ⟨B, d, h1, _, h3⟩ => ⟨_, _, h1, h3⟩
  · exact (plain_far A n c Xs hn hN hf w hA).mono fun e w' ⟨v, h1, h3⟩ => ⟨_, _, h1, h3⟩
set_option maxRecDepth 100000 in
set_option maxHeartbeats 20000000 in
theorem jg_far1 (A : Option Addr) (n c : Nat) (Xs : List FmD) (hn : Xs.length = n) (A2 : Option Addr) (n2 c2 : Nat) (Ys : List FmD) (hn2 : Ys.length = n2) (J : List UInt8) (hN : n * 24 ≤ 140737488355328) (hN2 : n2 * 24 ≤ 140737488355328) (hf : ¬ (n ≤ 12 ∧ ∀ X ∈ Xs, X.p.length ≤ 300)) (w : World) (hA : FjRd w A Xs) (hA2 : FjRd w A2 Ys) :
    Calls Tryz.prog 3 #[.slice A n c, .slice A2 n2 c2, .string (txt J)] w fun e w' => e = .returned (.bool true) ∧ Below w.heap.size w w' := by
  have cP := fun W hW => plain_far A n c Xs hn hN hf W hW
  have cQ := fun W hW => plain_b A2 n2 c2 Ys hn2 hN2 W hW
  clear hf
  go_enter Tryz.func3, Tryz.ntmps3
  go_upto_region 2 with (first
    | (go_at_call 4; (with_reducible refine (cP _ hA).mono ?_); rintro e2 w2 ⟨v2, rfl, hb2⟩; replace hA2 := hA2.below hb2))
  go_wp2_with (first
    | (go_at_call 4; (with_reducible refine (cQ _ hA2).mono ?_); rintro e3 w3 ⟨v3, b3, rfl, hb3⟩; replace hb2 := hb2.trans (hb3.mono hb2.size))
    | (go_at_call 5; (with_reducible refine (awake25_any _).mono ?_); rintro e4 w4 ⟨rfl, hb4⟩))
  go_ret
  exact ⟨rfl, hb2.trans (hb4.mono hb2.size)⟩
set_option maxRecDepth 100000 in
set_option maxHeartbeats 20000000 in
theorem jg_far2 (A : Option Addr) (n c : Nat) (Xs : List FmD) (hn : Xs.length = n) (A2 : Option Addr) (n2 c2 : Nat) (Ys : List FmD) (hn2 : Ys.length = n2) (J : List UInt8) (h12 : n ≤ 12) (hp : ∀ X ∈ Xs, X.p.length ≤ 300) (hN2 : n2 * 24 ≤ 140737488355328) (hf : ¬ (n2 ≤ 12 ∧ ∀ X ∈ Ys, X.p.length ≤ 300)) (w : World) (hA : FjRd w A Xs) (hA2 : FjRd w A2 Ys) :
    Calls Tryz.prog 3 #[.slice A n c, .slice A2 n2 c2, .string (txt J)] w fun e w' => e = .returned (.bool true) ∧ Below w.heap.size w w' := by
  have cP := fun W hW => plain_12 A n c Xs hn h12 hp W hW
  have cQ := fun W hW => plain_far A2 n2 c2 Ys hn2 hN2 hf W hW
  clear hf
  go_enter Tryz.func3, Tryz.ntmps3
  go_upto_region 2 with (first
    | (go_at_call 4; (with_reducible refine (cP _ hA).mono ?_); rintro e2 w2 ⟨B2, d2, rfl, _, hb2⟩; replace hA2 := hA2.below hb2))
  go_wp2_with (first
    | (go_at_call 4; (with_reducible refine (cQ _ hA2).mono ?_); rintro e3 w3 ⟨v3, rfl, hb3⟩; replace hb2 := hb2.trans (hb3.mono hb2.size))
    | (go_at_call 5; (with_reducible refine (awake25_any _).mono ?_); rintro e4 w4 ⟨rfl, hb4⟩))
  go_ret
  exact ⟨rfl, hb2.trans (hb4.mono hb2.size)⟩
set_option maxRecDepth 100000 in
set_option maxHeartbeats 20000000 in
theorem jg_far3 (A : Option Addr) (n c : Nat) (Xs : List FmD) (hn : Xs.length = n) (A2 : Option Addr) (n2 c2 : Nat) (Ys : List FmD) (hn2 : Ys.length = n2) (J : List UInt8) (h12 : n ≤ 12) (hp : ∀ X ∈ Xs, X.p.length ≤ 300) (h22 : n2 ≤ 12) (hp2 : ∀ X ∈ Ys, X.p.length ≤ 300) (hJ : 100 < J.length) (w : World) (hA : FjRd w A Xs) (hA2 : FjRd w A2 Ys) :
    Calls Tryz.prog 3 #[.slice A n c, .slice A2 n2 c2, .string (txt J)] w fun e w' => e = .returned (.bool true) ∧ Below w.heap.size w w' := by
  have cP := fun W hW => plain_12 A n c Xs hn h12 hp W hW
  have cQ := fun W hW => plain_12 A2 n2 c2 Ys hn2 h22 hp2 W hW
  have z1 : (100 : Int) < (J.length : Int) := by omega
  clear hJ
  go_enter Tryz.func3, Tryz.ntmps3
  go_upto_region 2 with (first
    | (go_at_call 4; (with_reducible refine (cP _ hA).mono ?_); rintro e2 w2 ⟨B2, d2, rfl, _, hb2⟩; replace hA2 := hA2.below hb2))
  go_wp2_with (first
    | (go_at_call 4; (with_reducible refine (cQ _ hA2).mono ?_); rintro e3 w3 ⟨B3, d3, rfl, _, hb3⟩; replace hb2 := hb2.trans (hb3.mono hb2.size))
    | (go_at_call 5; (with_reducible refine (awake25_any _).mono ?_); rintro e4 w4 ⟨rfl, hb4⟩))
  go_ret
  exact ⟨rfl, hb2.trans (hb4.mono hb2.size)⟩
set_option maxRecDepth 100000 in
set_option maxHeartbeats 20000000 in
theorem jg_near (A : Option Addr) (n c : Nat) (Xs : List FmD) (hn : Xs.length = n) (A2 : Option Addr) (n2 c2 : Nat) (Ys : List FmD) (hn2 : Ys.length = n2) (J : List UInt8) (h12 : n ≤ 12) (hp : ∀ X ∈ Xs, X.p.length ≤ 300) (h22 : n2 ≤ 12) (hp2 : ∀ X ∈ Ys, X.p.length ≤ 300) (hJ : J.length ≤ 100) (w : World) (hA : FjRd w A Xs) (hA2 : FjRd w A2 Ys) :
    Calls Tryz.prog 3 #[.slice A n c, .slice A2 n2 c2, .string (txt J)] w fun e w' => e = .returned (.bool true) ∧ Below w.heap.size w w' := by
  have cA := awake25_any
  have HN := hid hn
  have HN2 := hid hn2
  have z100 : ¬ (100 : Int) < (J.length : Int) := by omega
  have hu := Tryz.underlying42
  have hN3 : ∀ (V : World) (cs : Array Value), Blk (V.alloc (.cells cs 42)) V.heap.size 42 cs := fun V cs => Blk.new _ _ _
  have cP := fun W hW => plain_12 A n c Xs hn h12 hp W hW
  have cQ := fun W hW => plain_12 A2 n2 c2 Ys hn2 h22 hp2 W hW
  clear hn hn2
  go_enter Tryz.func3, Tryz.ntmps3
  go_upto_region 2 with (first
    | (go_at_call 4; (with_reducible refine (cP _ hA).mono ?_); rintro e2 w2 ⟨B1, d1, rfl, hM, hb2⟩))
  have hA2' := hA2.below hb2
  go_upto_region 5 with (first
    | (go_at_call 4; (with_reducible refine (cQ _ hA2').mono ?_); rintro e3 W1 ⟨B2, d2, rfl, hM2, hb3⟩))
  replace hM := hM.below hb3
  have hw1 := hb2.trans (hb3.mono hb2.size)
  have hAA := hA.below hw1
  have hAA2 := hA2.below hw1
  clear hA hA2 hA2' hb2 hb3 cP cQ z100
  obtain ⟨base, hbase⟩ : ∃ base, base = W1.heap.size := ⟨_, rfl⟩
  have hAA' : ∀ V, Below base W1 V → FjRd V A Xs := fun V h => hAA.below (by rw [← hbase]; exact h)
  have hAA2' : ∀ V, Below base W1 V → FjRd V A2 Ys := fun V h => hAA2.below (by rw [← hbase]; exact h)
  have hMM : ∀ V, Below base W1 V → FrRd V B1 Xs := fun V h => hM.below (by rw [← hbase]; exact h)
  have hMM2 : ∀ V, Below base W1 V → FrRd V B2 Ys := fun V h => hM2.below (by rw [← hbase]; exact h)
  have hwB : ∀ V, Below base W1 V → Below w.heap.size w V := fun V h => hw1.trans (h.mono (by rw [hbase]; exact hw1.size))
  clear hAA hAA2 hM hM2 hw1
  have cO := fun D s nw hs hn V h => lopen_any base D s nw hs hn V h
  go_upto_region 6 with (first
    | (go_at_call 6; (with_reducible refine (dnew_any _).mono ?_); rintro e4 w4 ⟨D, rfl, hS4, hb4⟩))
  rw [← hbase] at hS4 hb4
  have hD4 : DJ base D [] 0 w4 := ⟨_, _, _, _, _, hS4, rfl, Nat.le_refl _, by decide, by simp⟩
  clear hS4
  have cO5 := cO D [] 0 (by decide) (by decide) _ hD4
  unfold OpenQ at cO5
  rw [scJ_nil] at cO5
  have hpd := run_neq_diskp D
  go_upto_region 9 with (first
    | (go_at_call 7; (with_reducible refine cO5.mono ?_); rintro e5 w5 ⟨gL, A5, c5, rfl, _, hl5, hd5, hb5, hg5⟩)
    | (go_at_call 8; (with_reducible refine (ldisk_any _ _ _ _ _ hl5).mono ?_); rintro e6 w6 ⟨rfl, rfl⟩))
  have HS1 : LwS base D gL ([] ++ flJ (Xs.take 0)) (.slice none 0 0) (0 + 0) W1 w5 := ⟨hl5, hd5, FrOw.none_ _ _, Nat.le_trans hD4.bs hg5, hb4.trans hb5.1⟩
  have HPRE1 := hid (show (stJ []).1.length ≤ 5000 ∧ ([] : List FmD).length ≤ 400 from ⟨by decide, by decide⟩)
  clear hl5 hd5 hb4 hb5 hg5 hD4 cO5 cO hpd
  go_wp2_with (fail)
  go_loopw [15, 88] (fun vv i W' => ∃ (k : Nat) (v : Value), k ≤ n ∧ i = .int .i64 (k : Int) ∧ v = vv ∧ LwS base D gL ([] ++ flJ (Xs.take k)) v (0 + k) W1 W') (fun _ i _ => n - (intOf i).toNat)
  case atStart => exact ⟨0, _, Nat.zero_le _, rfl, rfl, HS1⟩
  case round =>
    clear HS1
    obtain ⟨k, v, hk, rfl, rfl, HS⟩ := hrel
    by_cases hlt : k < n
    · obtain ⟨X, hX⟩ : ∃ X, Xs[k]? = some X := ⟨_, List.getElem?_eq_getElem (by rw [HN.out]; exact hlt)⟩
      have hlen := stJ_lenA [] (flJ (Xs.take k)).length (flJ (Xs.take k)) rfl (fun X hX => hp X (List.mem_of_mem_take (flJ_mem hX)))
      have hfl := flJ_len (Xs.take k)
      rw [List.length_take] at hfl
      have hC := stJ_chain ([] ++ flJ (Xs.take k))
      have hLen : ([] ++ flJ (Xs.take k)).length ≤ 500 := by rw [List.length_append]; have := HPRE1.out.2; omega
      have hTx : (stJ ([] ++ flJ (Xs.take k))).1.length ≤ 20000 := by have := HPRE1.out.1; omega
      have hpx := hp X (List.mem_of_getElem? hX)
      obtain ⟨g, q, hgx, hXo, hix⟩ := (hAA' _ HS.bl).pick c HN.out hX
      obtain ⟨g2, q2, hgm0, _, hixm⟩ := (hMM W1 (Below.refl _ _)).pick d1 HN.out hX
      have hgm : ∀ V, Below base W1 V → V.rangeAt g2 q2 X.cs.toList := fun V h => hgm0.below (by rw [← hbase]; exact h)
      clear hgm0
      have b1 : (k : Int) < n := by omega
      have HLT := hid (show k + 1 ≤ n from hlt)
      have hal := (Below.refl wr.heap.size wr).alloc (Nat.le_refl _) (.cells X.cs 34)
      have hFX := FjX.new wr X
      replace HS := HS.below hal
      have hgm2 := hgm _ HS.bl
      have HGL := hid HS.gl
      by_cases hx : X.okF
      · have HFL := hid (flJ_yes hX hx)
        obtain ⟨Zs, hZs⟩ : ∃ Zs, ([] ++ flJ (Xs.take k)) = Zs := ⟨_, rfl⟩
        have HZQ := hid hZs
        rw [hZs] at HS hlen hC hLen hTx
        have cW := fun W => wrong_yes X hx (Nat.le_trans hpx (by decide)) W
        have cAp := fun W h1 h2 => lappend_ok gL D (stJ Zs).1.length (stJ Zs).2 hC X hx hpx base (stJ Zs).1 (0 + k) rfl hTx (by omega) W h1 h2 HGL.out
        have HSN := hid (stJ_snoc Zs X)
        clear hX hx hpx hC hfl hTx hal hlen hZs
        go_wp2_with (first
          | (with_reducible refine wpList_load_fjr (by with_unfolding_all rfl) _ rfl g q rfl hgx hXo ?_)
          | (with_reducible refine wpList_store_fjn rfl _ _ rfl rfl rfl hXo rfl ?_)
          | (with_reducible refine wpList_load_frr (by with_unfolding_all rfl) _ rfl g2 q2 rfl hgm2 hXo ?_)
          | (go_at_call 9; (with_reducible refine (cW _).mono ?_); rintro e5 w5 ⟨rfl, hb5⟩; replace HS := HS.below hb5; replace hFX := hFX.below hb5; clear hb5 hgm2)
          | (with_reducible refine wpList_load_fjx (by with_unfolding_all rfl) _ rfl wr.heap.size rfl hFX hXo ?_)
          | (go_at_call 10; (with_reducible refine (cAp _ HS.lg HS.dj).mono ?_); rintro e6 w6 ⟨rfl, hl6, hd6, hb6⟩; have row6 := hb6.2.fr HS.row (by decide); have bl6 := HS.bl.trans hb6.1; have rm6 : w6.rangeAt g2 q2 [.int .i64 X.k, .string (txt X.p)] := hgm _ bl6; have huR := Tryz.underlying36; have hLf : (Tryz.prog.info? 36).map (·.size) = some ([.int .i64 X.k, .string (txt X.p)] : List Value).length := Fr_infoN; have hal := (Below.refl w6.heap.size w6).alloc (Nat.le_refl _) (.cells #[.int .i64 X.k, .string (txt X.p)] 36); have hRn : FrRd (w6.alloc (.cells #[.int .i64 X.k, .string (txt X.p)] 36)) (some ⟨w6.heap.size, 0, none⟩) [X] := ⟨FmD.all_ok _, .inr ⟨w6.heap.size, 0, rfl, fun j v hj => blk_range (Blk.new w6 36 #[.int .i64 X.k, .string (txt X.p)]) j v (by simpa [fmsV, FmD.cs] using hj)⟩⟩; have hbs6 := hd6.bs; have row7 := row6.below hal; have hl7 := hl6.below hal; have hd7 := hd6.below hal; have bl7 := bl6.trans (hal.mono hbs6); have hsz7 := hd7.bs; have hlr : (Zs.length + 1) * 24 ≤ 140737488355328 := (by omega); clear HS hFX hgx cAp cW hb6)
          | (with_reducible refine wpList_load_if (by with_unfolding_all rfl) 36 _ rfl g2 q2 rfl [.int .i64 X.k, .string (txt X.p)] _ rm6 huR rfl hLf ?_)
          | (at_builtin; go_loud (refine wpList_append_fr rfl _ _ rfl base v Zs.length Zs rfl row7 _ 1 1 [X] rfl rfl (by intro e; cases e) hRn hlr hsz7 ?_); intro v9 w9 row9 g9))
        have hSN : LwS base D gL (Zs ++ [X]) v9 (0 + (k + 1)) W1 w9 := ⟨by rw [HSN.out]; exact blk_apart hl7 row7 (by decide) g9, by rw [HSN.out]; exact hd7.apart row7 g9, by rw [List.length_append]; exact row9, HGL.out, bl7.grown g9 hsz7 (fun j hj => (World.ownsRow.lt row7 j hj).1)⟩
        clear hl6 hd6 row6 bl6 rm6 hRn hal row7 hl7 hd7 bl7 row9 g9
        go_roundw
        case rel => exact ⟨k + 1, v9, HLT.out, by go_num, rfl, by rw [HFL.out, ← List.append_assoc, HZQ.out]; exact hSN⟩
        case measure => have := HLT.out; simp [intOf]; omega
      · have HFL := hid (flJ_no hX hx)
        have cW := fun W => wrong_no X hx (Nat.le_trans hpx (by decide)) W
        have cAp := fun W h1 => lappend_no gL D (stJ ([] ++ flJ (Xs.take k))).1.length (stJ ([] ++ flJ (Xs.take k))).2 hC X hx W h1
        clear hX hx hpx hC hfl hTx hal hlen hLen
        go_wp2_with (first
          | (with_reducible refine wpList_load_fjr (by with_unfolding_all rfl) _ rfl g q rfl hgx hXo ?_)
          | (with_reducible refine wpList_store_fjn rfl _ _ rfl rfl rfl hXo rfl ?_)
          | (with_reducible refine wpList_load_frr (by with_unfolding_all rfl) _ rfl g2 q2 rfl hgm2 hXo ?_)
          | (go_at_call 9; (with_reducible refine (cW _).mono ?_); rintro e5 w5 ⟨rfl, hb5⟩; replace HS := HS.below hb5; replace hFX := hFX.below hb5; clear hb5 hgm2)
          | (with_reducible refine wpList_load_fjx (by with_unfolding_all rfl) _ rfl wr.heap.size rfl hFX hXo ?_)
          | (go_at_call 10; (with_reducible refine (cAp _ HS.lg).mono ?_); rintro e6 w6 ⟨rfl, hb6⟩; replace HS := HS.below hb6; clear hb6 hFX))
        have hSN : LwS base D gL ([] ++ flJ (Xs.take (k + 1))) v (0 + (k + 1)) W1 w6 := by
          rw [HFL.out]
          exact ⟨HS.lg, HS.dj.le (by omega), HS.row, HS.gl, HS.bl⟩
        clear HS hgx cAp cW
        go_roundw
        case rel => exact ⟨k + 1, v, HLT.out, by go_num, rfl, hSN⟩
        case measure => have := HLT.out; simp [intOf]; omega
    · obtain rfl : n = k := by omega
      have z1 : ¬ ((n : Nat) : Int) < n := by omega
      have hall : Xs.take n = Xs := List.take_of_length_le (by rw [HN.out]; exact Nat.le_refl _)
      rw [hall] at HS
      clear hall hlt hk
      simp only [List.nil_append] at HS
      have okZ := flJ_ok Xs
      have pZ : ∀ X ∈ flJ Xs, X.p.length ≤ 300 := fun X hX => hp X (flJ_mem hX)
      have lZ : (flJ Xs).length ≤ 12 := by have := flJ_len Xs; have := HN.out; omega
      have tZ := stJ_lenS (flJ Xs).length (flJ Xs) rfl pZ
      have hJk := scJ_junk (flJ Xs) J okZ pZ hJ
      generalize flJ Xs = Zs at *
      have cRA := fun B d W h => rall25_any B Zs.length d Zs rfl (by omega) (fun X hX => Nat.le_trans (pZ X hX) (by decide)) okZ W h
      have hl := HS.lg
      have hd := HS.dj
      have hrow := HS.row
      have hbl := HS.bl
      clear HS okZ pZ
      generalize (stJ Zs).1 = T at *
      generalize (stJ Zs).2 = C1 at *
      obtain ⟨Av, cv, rfl, _, _, _, hvr⟩ := hrow.rd (FmD.all_ok _)
      have hSl : (T ++ J).length ≤ 5000 := by rw [List.length_append]; omega
      obtain ⟨okL, hLb, hE, _, hLl, hCq⟩ := scJ_bytes (T ++ J)
      have hC32 := stJ_chain (scJ (T ++ J)).1
      rw [← hCq] at hC32
      have cR := fun W => rscan25_any (T ++ J) hSl W
      have cO2 := fun nw hn V h => lopen_any base D (T ++ J) nw hSl hn V h
      unfold OpenQ at cO2
      obtain ⟨L, hL⟩ : ∃ L, (scJ (T ++ J)).1 = L := ⟨_, rfl⟩
      obtain ⟨E, hEq⟩ : ∃ E, (scJ (T ++ J)).2.1 = E := ⟨_, rfl⟩
      obtain ⟨C, hCC⟩ : ∃ C, (scJ (T ++ J)).2.2 = C := ⟨_, rfl⟩
      rw [hL] at hJk okL hLb hLl hCq cR cO2
      rw [hEq] at hLb hE cR cO2
      rw [hCC] at hCq hC32 cR cO2
      clear hL hEq hCC
      have HOK := hid okL
      have HPAY := hid hJk
      have hEl : ((T ++ J).take E).length = E := by rw [List.length_take]; omega
      have HPRE2 := hid (show (stJ L).1.length ≤ 5000 ∧ L.length ≤ 400 from ⟨by rw [hLb, hEl]; omega, by rw [List.length_append] at hLl; omega⟩)
      have HLB := hid hLb
      have HCQ := hid hCq
      have HEL := hid hEl
      have cPL := fun A c W h => plain_yes A L.length c L rfl (by omega) hJk W h
      have hI2 : (Tryz.prog.info? 42).map (·.size) = some (idVals C).size := by rw [idVals_size, hC32]; exact sizeId
      have hL2 : (Tryz.prog.info? 42).map (·.size) = some (C.map u8v).length := by rw [List.length_map, hC32]; exact sizeId
      have h1d := idVals_one C
      have hcs : (idVals C).size = 32 := by rw [idVals_size, hC32]
      have heq : ∀ W, (Op.equalIn 10000 42 (.agg (idVals C)) (.agg (List.map u8v C).toArray)).run Tryz.prog W = .ok true W := fun W => (ids_eq W C C hC32 hC32).trans (by rw [decide_eq_true rfl])
      have HC32 := hid hC32
      have htx : (T.length : Int) = T.length := rfl
      have hT4 : T.length ≤ 4000 := by omega
      have hcat : ¬ (9223372036854775807 < T.length + J.length) := by omega
      clear okL hLb hCq hJk hEl hC32 htx hSl tZ lZ hLl
      obtain ⟨u1, hu1⟩ : ∃ u1, u1 = wr := ⟨_, rfl⟩
      subst hu1
      go_wp2_with (first
        | (go_at_call 11; (with_reducible refine (cRA _ _ _ hvr).mono ?_); rintro e7 w7 ⟨rfl, hb7⟩; replace hl := hl.below hb7; replace hbl := hbl.trans (hb7.mono hd.bs); replace hd := hd.below hb7; clear hb7 hvr hrow)
        | (go_at_call 12; (with_reducible refine (llen_any _ _ _ _ _ hl).mono ?_); rintro e8 w8 ⟨rfl, rfl⟩)
        | (go_at_call 13; (with_reducible refine (jdall_any _ hd).mono ?_); rintro e9 w9 ⟨rfl, rfl⟩)
        | (go_at_call 14; (with_reducible refine (cR _).mono ?_); rintro e10 w10 ⟨v10, rfl, _, hb10⟩; replace hbl := hbl.trans (hb10.mono hd.bs); replace hd := hd.below hb10; clear hb10 hl)
        | (with_reducible refine wpList_store_blk rfl 42 _ _ rfl w10.heap.size _ (idVals C) 42 (hN3 _ _) rfl rfl hI2 ?c4 h1d ?_))
      case c4 => rw [hcs]; rfl
      intro w11 hz11 hg11
      have hn11 := below_new hg11
      replace hbl := hbl.trans (hn11.mono hd.bs)
      replace hd := hd.below hn11
      clear hz11 hg11 hn11
      go_upto_region 26 with (first
        | (go_at_call 15; (with_reducible refine (jwrite_any J (by omega) (by omega) (by omega) _ hd).mono ?_); rintro e12 w12 ⟨rfl, hd12, hb12⟩; replace hbl := hbl.trans hb12.1; clear hb12 hd)
        | (go_at_call 7; (with_reducible refine (cO2 _ (by omega) _ hd12).mono ?_); rintro e13 w13 ⟨gL2, A13, c13, rfl, hF13, hl13, hd13, hb13, hg13⟩; replace hbl := hbl.trans hb13.1; have hgl2 := Nat.le_trans hd12.bs hg13; clear hb13 hd12 hg13)
        | (go_at_call 4; (with_reducible refine (cPL _ _ _ hF13).mono ?_); rintro e14 w14 ⟨v14, rfl, ho14, hb14⟩; replace hl13 := hl13.below hb14; replace hbl := hbl.trans (hb14.mono hd13.bs); replace hd13 := hd13.below hb14; obtain ⟨A14, c14, rfl, _, _, _, hr14⟩ := ho14.rd (FmD.all_ok _); clear hb14 ho14))
      go_wp2_with (first
        | (go_at_call 14; (with_reducible refine (cR _).mono ?_); rintro e15 w15 ⟨v15, rfl, ho15, hb15⟩; replace hl13 := hl13.below hb15; replace hbl := hbl.trans (hb15.mono hd13.bs); have hbs15 := hd13.bs; replace hd13 := hd13.below hb15; replace hr14 := hr14.below hb15; clear hb15)
        | (with_reducible refine wpList_store_blk rfl 42 _ _ rfl w15.heap.size _ (idVals C) 42 (hN3 _ _) rfl rfl hI2 ?c5 h1d ?_))
      case c5 => rw [hcs]; rfl
      intro w16 hz16 hg16
      have hn16 := below_new hg16
      replace hl13 := hl13.below hn16
      replace hbl := hbl.trans (hn16.mono hd13.bs)
      replace hd13 := hd13.below hn16
      replace hr14 := hr14.below hn16
      have ho16 : FrOw w16 base v15 L.length L := (ho15.below hn16).le hbs15
      clear hg16 hn16 ho15 hN3 cR cO2 cPL
      obtain ⟨A15, c15, rfl, _, _, _, hr16⟩ := ho16.rd (FmD.all_ok _)
      go_upto_region 27 with (fail)
      obtain ⟨gB, hgB⟩ : ∃ gB, w15.heap.size = gB := ⟨_, rfl⟩
      rw [hgB] at hz16
      simp only [hgB]
      have r30 := range_later (range_blk hz16)
      have hEL2 := HEL.out
      have cSm : ∀ p : LaterW w16, Calls Tryz.prog 16 #[.slice A14 L.length c14, .slice A15 L.length c15] p.w fun e w'' => e = .returned (.bool true) ∧ Below p.w.heap.size p.w w'' := fun p => (rsame25_any A14 L.length c14 A15 L.length c15 L L rfl rfl (by have := HPRE2.out.2; omega) p.w (hr14.below p.h) (hr16.below p.h)).mono fun e w' ⟨b, q1, q2, q3⟩ => by rw [q2 rfl] at q1; exact ⟨q1, q3⟩
      have cLe : ∀ p : LaterW w16, Calls Tryz.prog 17 #[.pointer (some ⟨D, 0, none⟩)] p.w fun e w'' => e = .returned (.int .i64 (E : Int)) ∧ Below p.w.heap.size p.w w'' := fun p => (jlen_any p.w (hd13.below p.h)).mono fun e w' ⟨q1, q2⟩ => by subst q2; rw [hEL2] at q1; exact ⟨q1, Below.refl _ _⟩
      have cCh : ∀ p : LaterW w16, Calls Tryz.prog 18 #[.pointer (some ⟨gL2, 0, none⟩)] p.w fun e w'' => e = .returned (.agg (idVals C)) ∧ Below p.w.heap.size p.w w'' := fun p => lchain_any gL2 D E C HC32.out p.w (hl13.below p.h)
      clear hEL2
      refine wp_region_later mixedJ (by kernel_rfl) ?_
      repeat (first
        | ((with_reducible refine wpQuiet_skip (by with_unfolding_all rfl) ?_); simp only [Act.put, List.setIfInBounds_toArray, List.set_cons_zero, List.set_cons_succ])
        | ((with_reducible refine wpQuiet_load_if (by with_unfolding_all rfl) 42 _ rfl _ _ rfl (C.map u8v) _ r30 hu (by with_unfolding_all rfl) hL2 ?_); simp only [Act.put, List.setIfInBounds_toArray, List.set_cons_zero, List.set_cons_succ])
        | ((with_reducible refine wpQuiet_step (fun K hK => ?_)); go_simp; first | ((with_reducible refine hK _ ?_); clear hK K) | (with_reducible apply Exists.intro; (with_reducible refine ⟨fun _ => ?_, hK _ ?_⟩); ((first | (go_at_call 16; exact later_of (cSm _)) | (go_at_call 17; exact later_of (cLe _)) | (go_at_call 18; exact later_of (cCh _)))); clear hK K)))
      with_reducible refine wpQuiet_nil ?_
      intro _ hw'
      obtain ⟨p9, rfl⟩ := hw'
      have hp9 := p9.h
      generalize p9.w = w27 at *
      have HS2 : LwS base D gL2 (L ++ flJ (Ys.take 0)) (.slice A15 L.length c15) (0 + n + 1 + 0) W1 w27 := by
        have e0 : L ++ flJ (Ys.take 0) = L := by simp [flJ]
        rw [e0]
        exact ⟨by rw [HLB.out, HEL.out, ← HCQ.out]; exact hl13.below hp9, by rw [HLB.out]; exact hd13.below hp9, ho16.below hp9, hgl2, hbl.trans (hp9.mono hd13.bs)⟩
      clear r30 cSm cLe cCh hz16 hl13 hd13 hr14 hr16 ho16 hbl hgl2 hp9 heq hI2 hL2 h1d hcs cRA
      go_wp2_with (fail)
      go_loopw [15, 185] (fun vv i W' => ∃ (k2 : Nat) (v : Value), k2 ≤ n2 ∧ i = .int .i64 (k2 : Int) ∧ v = vv ∧ LwS base D gL2 (L ++ flJ (Ys.take k2)) v ((0 + n + 1) + k2) W1 W') (fun _ i _ => n2 - (intOf i).toNat)
      case atStart => exact ⟨0, _, Nat.zero_le _, rfl, rfl, HS2⟩
      case round =>
        clear HS2
        obtain ⟨k2, v, hk, rfl, rfl, HS⟩ := hrel
        by_cases hlt : k2 < n2
        · obtain ⟨X, hX⟩ : ∃ X, Ys[k2]? = some X := ⟨_, List.getElem?_eq_getElem (by rw [HN2.out]; exact hlt)⟩
          have hlen := stJ_lenA L (flJ (Ys.take k2)).length (flJ (Ys.take k2)) rfl (fun X hX => hp2 X (List.mem_of_mem_take (flJ_mem hX)))
          have hfl := flJ_len (Ys.take k2)
          rw [List.length_take] at hfl
          have hC := stJ_chain (L ++ flJ (Ys.take k2))
          have hLen : (L ++ flJ (Ys.take k2)).length ≤ 500 := by rw [List.length_append]; have := HPRE2.out.2; omega
          have hTx : (stJ (L ++ flJ (Ys.take k2))).1.length ≤ 20000 := by have := HPRE2.out.1; omega
          have hpx := hp2 X (List.mem_of_getElem? hX)
          obtain ⟨g, q, hgx, hXo, hix⟩ := (hAA2' _ HS.bl).pick c2 HN2.out hX
          obtain ⟨g2, q2, hgm0, _, hixm⟩ := (hMM2 W1 (Below.refl _ _)).pick d2 HN2.out hX
          have hgm : ∀ V, Below base W1 V → V.rangeAt g2 q2 X.cs.toList := fun V h => hgm0.below (by rw [← hbase]; exact h)
          clear hgm0
          have b1 : (k2 : Int) < n2 := by omega
          have HLT := hid (show k2 + 1 ≤ n2 from hlt)
          have hal := (Below.refl wr.heap.size wr).alloc (Nat.le_refl _) (.cells X.cs 34)
          have hFX := FjX.new wr X
          replace HS := HS.below hal
          have hgm2 := hgm _ HS.bl
          have HGL := hid HS.gl
          by_cases hx : X.okF
          · have HFL := hid (flJ_yes hX hx)
            obtain ⟨Zs, hZs⟩ : ∃ Zs, (L ++ flJ (Ys.take k2)) = Zs := ⟨_, rfl⟩
            have HZQ := hid hZs
            rw [hZs] at HS hlen hC hLen hTx
            have cW := fun W => wrong_yes X hx (Nat.le_trans hpx (by decide)) W
            have cAp := fun W h1 h2 => lappend_ok gL2 D (stJ Zs).1.length (stJ Zs).2 hC X hx hpx base (stJ Zs).1 ((0 + n + 1) + k2) rfl hTx (by omega) W h1 h2 HGL.out
            have HSN := hid (stJ_snoc Zs X)
            clear hX hx hpx hC hfl hTx hal hlen hZs
            go_wp2_with (first
              | (with_reducible refine wpList_load_fjr (by with_unfolding_all rfl) _ rfl g q rfl hgx hXo ?_)
              | (with_reducible refine wpList_store_fjn rfl _ _ rfl rfl rfl hXo rfl ?_)
              | (with_reducible refine wpList_load_frr (by with_unfolding_all rfl) _ rfl g2 q2 rfl hgm2 hXo ?_)
              | (go_at_call 9; (with_reducible refine (cW _).mono ?_); rintro e5 w5 ⟨rfl, hb5⟩; replace HS := HS.below hb5; replace hFX := hFX.below hb5; clear hb5 hgm2)
              | (with_reducible refine wpList_load_fjx (by with_unfolding_all rfl) _ rfl wr.heap.size rfl hFX hXo ?_)
              | (go_at_call 10; (with_reducible refine (cAp _ HS.lg HS.dj).mono ?_); rintro e6 w6 ⟨rfl, hl6, hd6, hb6⟩; have row6 := hb6.2.fr HS.row (by decide); have bl6 := HS.bl.trans hb6.1; have rm6 : w6.rangeAt g2 q2 [.int .i64 X.k, .string (txt X.p)] := hgm _ bl6; have huR := Tryz.underlying36; have hLf : (Tryz.prog.info? 36).map (·.size) = some ([.int .i64 X.k, .string (txt X.p)] : List Value).length := Fr_infoN; have hal := (Below.refl w6.heap.size w6).alloc (Nat.le_refl _) (.cells #[.int .i64 X.k, .string (txt X.p)] 36); have hRn : FrRd (w6.alloc (.cells #[.int .i64 X.k, .string (txt X.p)] 36)) (some ⟨w6.heap.size, 0, none⟩) [X] := ⟨FmD.all_ok _, .inr ⟨w6.heap.size, 0, rfl, fun j v hj => blk_range (Blk.new w6 36 #[.int .i64 X.k, .string (txt X.p)]) j v (by simpa [fmsV, FmD.cs] using hj)⟩⟩; have hbs6 := hd6.bs; have row7 := row6.below hal; have hl7 := hl6.below hal; have hd7 := hd6.below hal; have bl7 := bl6.trans (hal.mono hbs6); have hsz7 := hd7.bs; have hlr : (Zs.length + 1) * 24 ≤ 140737488355328 := (by omega); clear HS hFX hgx cAp cW hb6)
              | (with_reducible refine wpList_load_if (by with_unfolding_all rfl) 36 _ rfl g2 q2 rfl [.int .i64 X.k, .string (txt X.p)] _ rm6 huR rfl hLf ?_)
              | (at_builtin; go_loud (refine wpList_append_fr rfl _ _ rfl base v Zs.length Zs rfl row7 _ 1 1 [X] rfl rfl (by intro e; cases e) hRn hlr hsz7 ?_); intro v9 w9 row9 g9))
            have hSN : LwS base D gL2 (Zs ++ [X]) v9 ((0 + n + 1) + (k2 + 1)) W1 w9 := ⟨by rw [HSN.out]; exact blk_apart hl7 row7 (by decide) g9, by rw [HSN.out]; exact hd7.apart row7 g9, by rw [List.length_append]; exact row9, HGL.out, bl7.grown g9 hsz7 (fun j hj => (World.ownsRow.lt row7 j hj).1)⟩
            clear hl6 hd6 row6 bl6 rm6 hRn hal row7 hl7 hd7 bl7 row9 g9
            go_roundw
            case rel => exact ⟨k2 + 1, v9, HLT.out, by go_num, rfl, by rw [HFL.out, ← List.append_assoc, HZQ.out]; exact hSN⟩
            case measure => have := HLT.out; simp [intOf]; omega
          · have HFL := hid (flJ_no hX hx)
            have cW := fun W => wrong_no X hx (Nat.le_trans hpx (by decide)) W
            have cAp := fun W h1 => lappend_no gL2 D (stJ (L ++ flJ (Ys.take k2))).1.length (stJ (L ++ flJ (Ys.take k2))).2 hC X hx W h1
            clear hX hx hpx hC hfl hTx hal hlen hLen
            go_wp2_with (first
              | (with_reducible refine wpList_load_fjr (by with_unfolding_all rfl) _ rfl g q rfl hgx hXo ?_)
              | (with_reducible refine wpList_store_fjn rfl _ _ rfl rfl rfl hXo rfl ?_)
              | (with_reducible refine wpList_load_frr (by with_unfolding_all rfl) _ rfl g2 q2 rfl hgm2 hXo ?_)
              | (go_at_call 9; (with_reducible refine (cW _).mono ?_); rintro e5 w5 ⟨rfl, hb5⟩; replace HS := HS.below hb5; replace hFX := hFX.below hb5; clear hb5 hgm2)
              | (with_reducible refine wpList_load_fjx (by with_unfolding_all rfl) _ rfl wr.heap.size rfl hFX hXo ?_)
              | (go_at_call 10; (with_reducible refine (cAp _ HS.lg).mono ?_); rintro e6 w6 ⟨rfl, hb6⟩; replace HS := HS.below hb6; clear hb6 hFX))
            have hSN : LwS base D gL2 (L ++ flJ (Ys.take (k2 + 1))) v ((0 + n + 1) + (k2 + 1)) W1 w6 := by
              rw [HFL.out]
              exact ⟨HS.lg, HS.dj.le (by omega), HS.row, HS.gl, HS.bl⟩
            clear HS hgx cAp cW
            go_roundw
            case rel => exact ⟨k2 + 1, v, HLT.out, by go_num, rfl, hSN⟩
            case measure => have := HLT.out; simp [intOf]; omega
        · obtain rfl : n2 = k2 := by omega
          have z1 : ¬ ((n2 : Nat) : Int) < n2 := by omega
          have hall : Ys.take n2 = Ys := List.take_of_length_le (by rw [HN2.out]; exact Nat.le_refl _)
          rw [hall] at HS
          clear hall hlt hk
          obtain ⟨Ps, hPs⟩ : ∃ Ps, L ++ flJ Ys = Ps := ⟨_, rfl⟩
          have okP : okJ Ps := by rw [← hPs]; exact okJ_app HOK.out (flJ_ok Ys)
          have pP : ∀ X ∈ Ps, X.p.length ≤ 300 := by
            rw [← hPs]
            intro X hX
            exact (List.mem_append.1 hX).elim (HPAY.out X) (fun h => hp2 X (flJ_mem h))
          have lP : Ps.length ≤ 500 := by rw [← hPs, List.length_append]; have := flJ_len Ys; have := HN2.out; have := HPRE2.out.2; omega
          have tP : (stJ Ps).1.length ≤ 20000 := by
            have := stJ_lenA L (flJ Ys).length (flJ Ys) rfl (fun X hX => hp2 X (flJ_mem hX))
            have h8 := flJ_len Ys
            have h9 := HN2.out
            have h10 := HPRE2.out.1
            rw [hPs] at this
            omega
          rw [hPs] at HS
          have cRA := fun B d W h => rall25_any B Ps.length d Ps rfl (by omega) (fun X hX => Nat.le_trans (pP X hX) (by decide)) okP W h
          have hCh := stJ_chain Ps
          have hl := HS.lg
          have hd := HS.dj
          have hrow := HS.row
          have hbl := HS.bl
          clear HS hPs okP pP
          generalize (stJ Ps).1 = T2 at *
          generalize (stJ Ps).2 = C2 at *
          obtain ⟨Av, cv, rfl, _, _, _, hvr⟩ := hrow.rd (FmD.all_ok _)
          have bb : ∀ W, (Instr.build 34 #[(0, .int .i64 1)]).run Tryz.prog W = .ok (.agg #[.int .i64 1, .string ⟨#[]⟩]) W := fun W => by kernel_rfl
          obtain ⟨u2, hu2⟩ : ∃ u2, u2 = wr := ⟨_, rfl⟩
          subst hu2
          go_upto_region 41 with (first
            | (go_at_call 13; (with_reducible refine (jdall_any _ hd).mono ?_); rintro e30 w30 ⟨rfl, rfl⟩)
            | (go_at_call 11; (with_reducible refine (cRA _ _ _ hvr).mono ?_); rintro e31 w31 ⟨rfl, hb31⟩; replace hrow := hrow.below hb31; replace hl := hl.below hb31; replace hbl := hbl.trans (hb31.mono hd.bs); replace hd := hd.below hb31; clear hb31 hvr)
            | (go_at_call 19; (with_reducible refine (lsync_any gL2 base D T2.length C2 T2 _ (by omega) (by omega) _ hl hd).mono ?_); rintro e32 w32 ⟨rfl, ⟨kv, sv, hk32⟩, hb32⟩; replace hrow := hb32.2.fr hrow (by decide); replace hl := hb32.2.blk hl (by decide); replace hbl := hbl.trans hb32.1; clear hb32 hd))
          obtain ⟨_, _, _, _, _, _, hvr2⟩ := hrow.rd (FmD.all_ok _)
          go_upto_region 42 with (first
            | (go_at_call 20; (with_reducible refine (eCrash_any base D kv sv _ T2 T2 [] (by omega) (by simp) (by decide) _ hk32).mono ?_); rintro e33 w33 ⟨rfl, kv3, sv3, hk33, hb33⟩; replace hrow := hb33.2.fr hrow (by decide); replace hl := hb33.2.blk hl (by decide); replace hbl := hbl.trans hb33.1; clear hb33 hk32 hvr2))
          go_upto_region 44 with (first
            | (go_at_call 7; (with_reducible refine (lopen_down base D _ _ _ _ _ _ _ hk33).mono ?_); rintro e34 w34 ⟨rfl, hb34⟩; replace hrow := hrow.below hb34; replace hl := hl.below hb34; replace hbl := hbl.trans (hb34.mono hk33.r.bs); have hk34 := hk33.below hb34; clear hb34 hk33)
            | (go_at_call 7; (with_reducible refine (lopen_nil _).mono ?_); rintro e35 w35 ⟨rfl, hb35⟩; replace hrow := hrow.below hb35; replace hl := hl.below hb35; replace hbl := hbl.trans (hb35.mono hk34.r.bs); have hk35 := hk34.below hb35; clear hb35 hk34))
          obtain ⟨Ae, ce, hAe, _, _, _, hvr3⟩ := hrow.rd (FmD.all_ok _)
          injection hAe with q1 q2 q3
          subst q1 q3
          have cAp := fun W h1 h2 => lappend_down gL2 D T2.length C2 hCh ⟨1, []⟩ (by decide) (by decide) base kv3 sv3 (.slice none 0 0) T2 T2 [] W h1 h2
          replace cAp : ∀ W, Blk W gL2 63 (lgC D T2.length C2) → DkS base D kv3 sv3 (.slice none 0 0) T2 T2 [] true W → Calls Tryz.prog 10 #[.pointer (some ⟨gL2, 0, none⟩), .agg #[.int .i64 1, .string ⟨#[]⟩]] W fun o w' => o = .returned (.int .i64 13) ∧ Below W.heap.size W w' := cAp
          go_wp2_with (first
            | (go_at_call 13; (with_reducible refine (dall_any _ _ _ _ _ _ _ _ _ _ hk35).mono ?_); rintro e36 w36 ⟨rfl, rfl⟩)
            | (go_at_call 11; (with_reducible refine (cRA _ _ _ hvr3).mono ?_); rintro e37 w37 ⟨rfl, hb37⟩; have hl37 := hl.below hb37; have hbl37 := hbl.trans (hb37.mono hk35.r.bs); have hk37 := hk35.below hb37; clear hb37)
            | (with_reducible refine wpList_build_byM rfl _ _ rfl _ _ bb (by with_unfolding_all rfl) ?_)
            | (go_at_call 10; (with_reducible refine (cAp _ hl37 hk37).mono ?_); rintro e38 w38 ⟨rfl, hb38⟩; have hbl38 := hbl37.trans (hb38.mono hk37.r.bs); have hs38 := Nat.le_trans hk37.r.bs hb38.size)
            | (go_at_call 5; (with_reducible refine (cA _).mono ?_); rintro e39 w39 ⟨rfl, hb39⟩; have hbl39 := hbl38.trans (hb39.mono hs38)))
          go_ret
          exact ⟨rfl, hwB _ hbl39⟩
end Go.Proofs.YtemdmdgigmhlbaaGreat

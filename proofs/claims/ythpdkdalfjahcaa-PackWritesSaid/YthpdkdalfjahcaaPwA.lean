
/- Proved: for every byte, number, text, id, truth, row of ids, and row of texts quitclaimlaw05.PackWrites returns true and leaves its arguments as they were. No conditions. -/
import Derived.Test.YthpdkdalfjahcaaPkU
import Derived.Test.YthpdkdalfjahcaaPackOnce
import Derived.Test.YthpdkdalfjahcaaPhA
import Derived.Deep.RegionHeld3
import Derived.Deep.DeepCutAuto
set_option linter.unusedSimpArgs false
set_option linter.unusedVariables false
namespace Go.Proofs.Ythpdkdalfjahcaa
open Go.RowKit Go.Qc Go.Shelf
attribute [local go_sem] txt_size txt_append ib_fold txt_toL

set_option maxRecDepth 100000 in
set_option maxHeartbeats 8000000 in
theorem pw_long1 (x : UInt8) (v : Int) (s : List UInt8) (a : List UInt8) (ha : a.length = 32) (t : Bool) (A : Option Addr) (n c : Nat) (l : List (List UInt8)) (B : Option Addr) (m d : Nat) (ms : List (List UInt8)) (h : 300 < s.length) (w : World) :
    Calls Try.prog 4 #[.int .u8 (ib x), .int .i64 v, .string (txt s), .agg (idVals a), .bool t, .slice A n c, .slice B m d] w fun e w' => e = .returned (.bool true) ∧ Below w.heap.size w w' := by
  have z1 : (300 : Int) < s.length := by omega
  clear h
  have hX : Below w.heap.size w (w.alloc (.cells (idVals a) 24)) := (Below.refl _ w).alloc (Nat.le_refl _) _
  go_enter Try.func4, Try.ntmps4
  go_wp2_with (go_at_call 18; (with_reducible refine (awake5_any _).mono ?_); rintro e9 w9 ⟨rfl, hb⟩; replace hX := hX.trans (hb.mono hX.size))
  go_ret
  exact ⟨rfl, hX⟩
set_option maxRecDepth 100000 in
set_option maxHeartbeats 8000000 in
theorem pw_long2 (x : UInt8) (v : Int) (s : List UInt8) (a : List UInt8) (ha : a.length = 32) (t : Bool) (A : Option Addr) (n c : Nat) (l : List (List UInt8)) (B : Option Addr) (m d : Nat) (ms : List (List UInt8)) (h0 : s.length ≤ 300) (h : 20 < n) (w : World) :
    Calls Try.prog 4 #[.int .u8 (ib x), .int .i64 v, .string (txt s), .agg (idVals a), .bool t, .slice A n c, .slice B m d] w fun e w' => e = .returned (.bool true) ∧ Below w.heap.size w w' := by
  have z1 : ¬ (300 : Int) < s.length := by omega
  have z2 : (20 : Int) < n := by omega
  clear h h0
  have hX : Below w.heap.size w (w.alloc (.cells (idVals a) 24)) := (Below.refl _ w).alloc (Nat.le_refl _) _
  go_enter Try.func4, Try.ntmps4
  go_wp2_with (go_at_call 18; (with_reducible refine (awake5_any _).mono ?_); rintro e9 w9 ⟨rfl, hb⟩; replace hX := hX.trans (hb.mono hX.size))
  go_ret
  exact ⟨rfl, hX⟩
set_option maxRecDepth 100000 in
set_option maxHeartbeats 8000000 in
theorem pw_long3 (x : UInt8) (v : Int) (s : List UInt8) (a : List UInt8) (ha : a.length = 32) (t : Bool) (A : Option Addr) (n c : Nat) (l : List (List UInt8)) (B : Option Addr) (m d : Nat) (ms : List (List UInt8)) (h0 : s.length ≤ 300) (h1 : n ≤ 20) (h : 20 < m) (w : World) :
    Calls Try.prog 4 #[.int .u8 (ib x), .int .i64 v, .string (txt s), .agg (idVals a), .bool t, .slice A n c, .slice B m d] w fun e w' => e = .returned (.bool true) ∧ Below w.heap.size w w' := by
  have z1 : ¬ (300 : Int) < s.length := by omega
  have z2 : ¬ (20 : Int) < n := by omega
  have z3 : (20 : Int) < m := by omega
  clear h h0 h1
  have hX : Below w.heap.size w (w.alloc (.cells (idVals a) 24)) := (Below.refl _ w).alloc (Nat.le_refl _) _
  go_enter Try.func4, Try.ntmps4
  go_wp2_with (go_at_call 18; (with_reducible refine (awake5_any _).mono ?_); rintro e9 w9 ⟨rfl, hb⟩; replace hX := hX.trans (hb.mono hX.size))
  go_ret
  exact ⟨rfl, hX⟩
theorem own_rowR {w : World} {base n : Nat} {v : Value} {l : List (List UInt8)} (h : w.ownsRow base 24 32 v n (idsV l)) (h32 : ∀ x ∈ l, x.length = 32) (hn : n ≤ 1000000) : ∃ A c, v = .slice A n c ∧ RowR w A n l := by
  obtain ⟨A, c, h2, h1, h3⟩ := IdRd.own h h32
  exact ⟨A, c, h2, h1, hn, h3⟩
theorem pw_low {g : Nat} {s : List UInt8} {a : Nat} {e : Int} {w0 w w' : World} (h0 : Below w0.heap.size w0 w) (hg : w0.heap.size ≤ g) (h : Step g s a e w w') : Below w0.heap.size w0 w' := h0.trans (below_of_gb h.gb hg h0.size)
set_option maxRecDepth 100000 in
set_option maxHeartbeats 400000000 in
theorem pw_mid (x : UInt8) (v : Int) (s : List UInt8) (a : List UInt8) (ha : a.length = 32) (t : Bool) (A : Option Addr) (n c : Nat) (l : List (List UInt8)) (B : Option Addr) (m d : Nat) (ms : List (List UInt8)) (h0 : s.length ≤ 300) (h1 : n ≤ 20) (h2 : m ≤ 20) (w : World) (hl : RowR w A n l) (hm : ms.length = m) (hmr : Rd w B (ms.map strV)) (N : List UInt8) (hN9 : N.length ≤ 9) (may : Bool)
    (cN : ∀ (b : Nat) (L : List UInt8), L.length ≤ 1000 → ∀ W, Wrt b L W → Calls Try.prog 20 #[.pointer (some ⟨b, 0, none⟩), .int .i64 v] W fun o w' => o = .returned (.bool may) ∧ Wrt b (L ++ N) w' ∧ Below b W w')
    (hM : (may = true ∧ 0 ≤ v ∧ v ≤ 4611686018427387904) ∨ (may = false ∧ ¬ 0 ≤ v) ∨ (may = false ∧ 0 ≤ v ∧ ¬ v ≤ 4611686018427387904))
    (hNo : may = false → N = [])
    (hNy : may = true → ∃ y : Nat, N = numE y ∧ v = (y : Int) ∧ y ≤ 4611686018427387904)
    (cR : may = true → ∀ W, Calls Try.prog 26 #[.int .i64 v] W fun o w' => o = .returned (.string (txt N)) ∧ Below W.heap.size W w') :
    Calls Try.prog 4 #[.int .u8 (ib x), .int .i64 v, .string (txt s), .agg (idVals a), .bool t, .slice A n c, .slice B m d] w fun e w' => e = .returned (.bool true) ∧ Below w.heap.size w w' := by
  have z1 : ¬ (300 : Int) < s.length := by omega
  have z2 : ¬ (20 : Int) < n := by omega
  have z3 : ¬ (20 : Int) < m := by omega
  have z4 : ¬ (100 : Int) < 0 := by omega
  have hX : Below w.heap.size w (w.alloc (.cells (idVals a) 24)) := (Below.refl _ w).alloc (Nat.le_refl _) _
  have hbx : (w.alloc (.cells (idVals a) 24)).rangeAt w.heap.size 0 (a.map u8v) := range_blk (Blk.new w 24 (idVals a))
  have hu := Try.underlying24
  have hza : (Try.prog.info? 24).map (·.size) = some (a.map u8v).length := by rw [List.length_map, ha]; exact sizeId
  have hsz : (w.alloc (.cells (idVals a) 24)).heap.size = w.heap.size + 1 := by simp
  go_enter Try.func4, Try.ntmps4
  go_wp2_with (fail)
  generalize w.alloc (.cells (idVals a) 24) = W0 at *
  go_loopw [39] (fun i wr => wr = W0 ∧ ∃ k : Nat, k ≤ m ∧ i = .int .i64 k ∧ Hid (∀ j p, j < k → ms[j]? = some p → p.length ≤ 100)) (fun i _ => m - (intOf i).toNat)
  case atStart => exact ⟨rfl, 0, by omega, rfl, hid (fun j p h => by omega)⟩
  case round =>
    obtain ⟨rfl, k, hk, rfl, HK⟩ := hrel
    by_cases hlt : k < m
    · obtain ⟨p, hp⟩ : ∃ p, ms[k]? = some p := ⟨_, List.getElem?_eq_getElem (by rw [hm]; exact hlt)⟩
      obtain ⟨ad, rfl, hcell⟩ := rd_in (hmr.below hX) k (strV p) (by rw [List.getElem?_map, hp]; rfl)
      unfold strV at hcell
      have b1 : (k : Int) < m := by omega
      by_cases hp1 : 100 < p.length
      · have z5 : (100 : Int) < p.length := by omega
        go_wp2_with (go_at_call 18; (with_reducible refine (awake5_any _).mono ?_); rintro e9 w9 ⟨rfl, hb⟩; replace hX := hX.trans (hb.mono hX.size))
        go_ret
        exact ⟨rfl, hX⟩
      · have z5 : ¬ (100 : Int) < p.length := by omega
        go_wp2
        go_roundw
        case rel => exact ⟨by first | rfl | trivial, k + 1, hlt, by go_num, hid (fun j q hj hq => by
          by_cases e : j < k
          · exact HK.out j q e hq
          · obtain rfl : j = k := by omega
            rw [hp] at hq; cases hq; omega)⟩
        case measure => simp [intOf]; omega
    · obtain rfl : k = m := by omega
      have b1 : ¬ (k : Int) < k := by omega
      have h100 : ∀ q ∈ ms, q.length ≤ 100 := fun q hq => by
        obtain ⟨j, hj⟩ := List.getElem?_of_mem hq
        exact HK.out j q (by have := (List.getElem?_eq_some_iff.1 hj).1; omega) hj
      -- the document's bytes, and the program's
      obtain ⟨T, hT⟩ : ∃ T, T = textE s := ⟨_, rfl⟩
      obtain ⟨U, hU⟩ : ∃ U, U = truthE t := ⟨_, rfl⟩
      obtain ⟨R, hR⟩ : ∃ R, R = idsE l := ⟨_, rfl⟩
      obtain ⟨X, hXs⟩ : ∃ X, X = textsE ms := ⟨_, rfl⟩
      have lT : T.length ≤ 400 := by rw [hT, textE, List.length_append]; have := numE_len9 s.length (by omega); omega
      have lU : U.length = 1 := by rw [hU]; cases t <;> rfl
      have lR : R.length ≤ 700 := by
        rw [hR, idsE, List.length_append, flatten_len _ hl.2.2.1, hl.1]
        have := numE_len9 n (by omega); omega
      have lX : X.length ≤ 25000 := by
        rw [hXs, textsE, List.length_append]
        have h9 := numE_len9 ms.length (by omega)
        have hf := flatE_len2 ms (fun q hq => by have := h100 q hq; omega)
        rw [hm] at hf; omega
      have hW0 := Wrt.new wr
      have hB0 : Below wr.heap.size wr (wr.alloc (.cells #[.slice none 0 0] 36)) := (Below.refl _ wr).alloc (Nat.le_refl _) _
      rw [hsz] at hW0
      have c1 := fun W h => pkByte_any (w.heap.size + 1) [] x (by simp) W h
      have c2 := fun W h => cN (w.heap.size + 1) ([] ++ [x]) (by simp) W h
      have c3 := fun W h => pkWText_any (w.heap.size + 1) ([] ++ [x] ++ N) s (by omega) (by simp; omega) W h
      have c4 : ∀ W, Wrt (w.heap.size + 1) ([] ++ [x] ++ N ++ (numE s.length ++ s)) W → Calls Try.prog 22 #[.pointer (some ⟨w.heap.size + 1, 0, none⟩), .agg (List.map u8v a).toArray] W fun o w' => o = .returned (.tuple #[]) ∧ Wrt (w.heap.size + 1) ([] ++ [x] ++ N ++ (numE s.length ++ s) ++ a) w' ∧ Below (w.heap.size + 1) W w' := fun W h => pkWId_any (w.heap.size + 1) ([] ++ [x] ++ N ++ (numE s.length ++ s)) a ha (by rw [← textE, ← hT]; simp; omega) W h
      have c5 := fun W h => pkWTruth_any (w.heap.size + 1) ([] ++ [x] ++ N ++ (numE s.length ++ s) ++ a) t (by rw [← textE, ← hT]; simp; omega) W h
      have c6 := fun W (hb0 : Below w.heap.size w W) h => pkWIds_any (w.heap.size + 1) ([] ++ [x] ++ N ++ (numE s.length ++ s) ++ a ++ truthE t) A n c l (by omega) (by rw [← textE, ← hT, ← hU]; simp; omega) w W (by omega) hb0 hl h
      have c7 := fun W (hb0 : Below w.heap.size w W) h => pkWTexts_any (w.heap.size + 1) ([] ++ [x] ++ N ++ (numE s.length ++ s) ++ a ++ truthE t ++ idsE l) B k d ms hm (by omega) (fun q hq => by have := h100 q hq; omega) (by rw [← textE, ← hT, ← hU, ← hR]; simp; omega) w W (by omega) hb0 hmr h
      have c8 := fun W h => pkWString_any (w.heap.size + 1) ([] ++ [x] ++ N ++ (numE s.length ++ s) ++ a ++ truthE t ++ idsE l ++ textsE ms) W h
      rw [← textE, ← hT] at c3 c4 c5 c6 c7 c8
      rw [← hU] at c5 c6 c7 c8
      rw [← hR] at c6 c7 c8
      rw [← hXs] at c7 c8
      simp only [List.nil_append] at c1 c2 c3 c4 c5 c6 c7 c8
      have hbx2 : ∀ W, Below wr.heap.size wr W → W.rangeAt w.heap.size 0 (a.map u8v) := fun W h => hbx.below h
      have HXX := hid hX
      have HMR := hid hmr
      have HL := hid hl
      have HHM := hid hm
      have H100 := hid h100
      have HNum := hid (cR)
      have HM := hid hM
      have HNo := hid hNo
      have HNy := hid hNy
      have HT := hid hT
      have HU := hid hU
      have HR := hid hR
      have HXS := hid hXs
      clear hT hU hR hXs cN h100 hmr hl hm cR hM hNo hNy
      go_upto_region 17 with (first
        | (go_at_call 19; (with_reducible refine (c1 _ hW0).mono ?_); rintro o1 w1 ⟨rfl, hW1, hb1⟩; rw [← hsz] at hb1; have hB1 := hB0.trans hb1)
        | (go_at_call 20; (with_reducible refine (c2 _ hW1).mono ?_); rintro o2 w2 ⟨rfl, hW2, hb2⟩; rw [← hsz] at hb2; have hB2 := hB1.trans hb2)
        | (go_at_call 21; (with_reducible refine (c3 _ hW2).mono ?_); rintro o3 w3 ⟨rfl, hW3, hb3⟩; rw [← hsz] at hb3; have hB3 := hB2.trans hb3; have hr3 := hbx2 _ hB3)
        | (with_reducible refine wpList_load_if (by with_unfolding_all rfl) 24 _ rfl _ _ rfl (a.map u8v) _ hr3 hu (by with_unfolding_all rfl) hza ?_)
        | (go_at_call 22; (with_reducible refine (c4 _ hW3).mono ?_); rintro o4 w4 ⟨rfl, hW4, hb4⟩; rw [← hsz] at hb4; have hB4 := hB3.trans hb4)
        | (go_at_call 23; (with_reducible refine (c5 _ hW4).mono ?_); rintro o5 w5 ⟨rfl, hW5, hb5⟩; rw [← hsz] at hb5; have hB5 := hB4.trans hb5; have hX5 := HXX.out.trans (hB5.mono HXX.out.size))
        | (go_at_call 24; (with_reducible refine (c6 _ hX5 hW5).mono ?_); rintro o6 w6 ⟨rfl, hW6, hb6⟩; rw [← hsz] at hb6; have hB6 := hB5.trans hb6; have hX6 := HXX.out.trans (hB6.mono HXX.out.size))
        | (go_at_call 25; (with_reducible refine (c7 _ hX6 hW6).mono ?_); rintro o7 w7 ⟨rfl, hW7, hb7⟩; rw [← hsz] at hb7; have hB7 := hB6.trans hb7))
      go_cut [19] (fun s wx => s = .bool may ∧ wx = w7)
      case first =>
        rcases HM.out with ⟨q1, q2, q3⟩ | ⟨q1, q2⟩ | ⟨q1, q2, q3⟩
        · subst q1
          go_wp2_with (fail)
          go_meet
          exact ⟨rfl, rfl⟩
        · subst q1
          go_wp2_with (fail)
          go_meet
          exact ⟨rfl, rfl⟩
        · subst q1
          go_wp2_with (fail)
          go_meet
          exact ⟨(by first | rfl | rw [decide_eq_false q3] | simp [q3]), rfl⟩
      case rest =>
      obtain ⟨rfl, hw⟩ := hcut
      replace hw := hw.symm
      subst hw
      go_upto_if 77 with (fail)
      go_cut [20] (fun s wx => s = .string (txt N) ∧ Below w7.heap.size w7 wx)
      case first =>
        cases may
        · go_wp2_with (fail)
          go_meet
          exact ⟨(by rw [HNo.out (by trivial)]; rfl), Below.refl _ _⟩
        · go_wp2_with (go_at_call 26; (with_reducible refine (HNum.out (by trivial) _).mono ?_); rintro o8 w8 ⟨rfl, hb8⟩)
          go_meet
          exact ⟨rfl, hb8⟩
      case rest =>
      obtain ⟨rfl, hbc⟩ := hcut
      have hB8 := hB7.trans (hbc.mono hB7.size)
      have hW8 := hW7.below hbc
      generalize wc = w8 at *
      go_upto_region 21 with (fail)
      have d1 : ∀ W, Calls Try.prog 27 #[.string (txt s)] W fun o w' => o = .returned (.string (txt T)) ∧ Below W.heap.size W w' := fun W => by
        have := rPkText_any s (by omega) W
        rw [← HT.out] at this
        exact this
      have d2 : ∀ W, Calls Try.prog 28 #[.agg (List.map u8v a).toArray] W fun o w' => o = .returned (.string (txt a)) ∧ Below W.heap.size W w' := fun W => rid_any a ha W
      have d3 : ∀ W, Calls Try.prog 29 #[.bool t] W fun o w' => o = .returned (.string (txt U)) ∧ Below W.heap.size W w' := fun W => (rPkTruth_any t W).mono (by rintro o w' ⟨h1, rfl⟩; rw [HU.out]; exact ⟨h1, Below.refl _ _⟩)
      have d4 : ∀ W, Below wr.heap.size wr W → Calls Try.prog 30 #[.slice A n c] W fun o w' => o = .returned (.string (txt R)) ∧ Below W.heap.size W w' := fun W h => by
        have := rPkIds_any A n c l (by omega) W (HL.out.below (HXX.out.trans (h.mono HXX.out.size)))
        rw [← HR.out] at this
        exact this
      have d5 : ∀ W, Below wr.heap.size wr W → Calls Try.prog 31 #[.slice B k d] W fun o w' => o = .returned (.string (txt X)) ∧ Below W.heap.size W w' := fun W h => by
        have := rPkTexts_any B k d ms HHM.out (by omega) (fun q hq => by have := H100.out q hq; omega) W (HMR.out.below (HXX.out.trans (h.mono HXX.out.size)))
        rw [← HXS.out] at this
        exact this
      clear c1 c2 c3 c4 c5 c6 c7
      go_cut [21] (fun s wx => s = .string (txt ([x] ++ N ++ T ++ a ++ U ++ R ++ X)) ∧ Below wr.heap.size wr wx ∧ Wrt (w.heap.size + 1) ([x] ++ N ++ T ++ a ++ U ++ R ++ X) wx)
      case first =>
       as_aux_lemma =>
        clear z1 z2 z3 z4 c8
        refine wp_region_held_drew (S := fun W => Below wr.heap.size wr W) (by kernel_rfl) (hB8.trans ((below_drew10 w8).mono hB8.size)) (fun hHeld => ?_)
        have hWr := hW8.below (below_drew10 w8)
        generalize w8.drew = Wd at *
        refine' wpAnyH_take (i := 0) (v := .int .u8 (ib x)) rfl (by kernel_rfl) (by kernel_rfl) (by kernel_rfl) (fun _ _ _ h => h) (Or.inl ⟨by rfl, fun w' hw' => by go_simp⟩) hHeld ?_
        try simp only [Act.put, List.getElem_toArray, List.getElem_cons_succ, List.getElem_cons_zero, List.setIfInBounds_toArray, List.set_cons_zero, List.set_cons_succ]
        refine' wpAnyH_take (i := 3) (v := .string (txt N)) rfl (by kernel_rfl) (by kernel_rfl) (by kernel_rfl) (fun _ _ _ h => h) (Or.inl ⟨by rfl, fun w' hw' => by go_simp⟩) hHeld ?_
        try simp only [Act.put, List.getElem_toArray, List.getElem_cons_succ, List.getElem_cons_zero, List.setIfInBounds_toArray, List.set_cons_zero, List.set_cons_succ]
        refine' wpAnyH_take (i := 5) (v := .string (txt s)) rfl (by kernel_rfl) (by kernel_rfl) (by kernel_rfl) (fun _ _ _ h => h) (Or.inl ⟨by rfl, fun w' hw' => by go_simp⟩) hHeld ?_
        try simp only [Act.put, List.getElem_toArray, List.getElem_cons_succ, List.getElem_cons_zero, List.setIfInBounds_toArray, List.set_cons_zero, List.set_cons_succ]
        refine' wpAnyH_take (i := 8) (v := _) rfl (by kernel_rfl) (by kernel_rfl) (by kernel_rfl) (fun _ _ _ h => h) (yieldsIf_load_mid (by rfl) 24 _ rfl _ _ rfl (a.map u8v) _ (fun w' h => hbx2 w' h) hu rfl hza) hHeld ?_
        try simp only [Act.put, List.getElem_toArray, List.getElem_cons_succ, List.getElem_cons_zero, List.setIfInBounds_toArray, List.set_cons_zero, List.set_cons_succ]
        refine' wpAnyH_take (i := 11) (v := .bool t) rfl (by kernel_rfl) (by kernel_rfl) (by kernel_rfl) (fun _ _ _ h => h) (Or.inl ⟨by rfl, fun w' hw' => by go_simp⟩) hHeld ?_
        try simp only [Act.put, List.getElem_toArray, List.getElem_cons_succ, List.getElem_cons_zero, List.setIfInBounds_toArray, List.set_cons_zero, List.set_cons_succ]
        refine' wpAnyH_take (i := 14) (v := .slice A n c) rfl (by kernel_rfl) (by kernel_rfl) (by kernel_rfl) (fun _ _ _ h => h) (Or.inl ⟨by rfl, fun w' hw' => by go_simp⟩) hHeld ?_
        try simp only [Act.put, List.getElem_toArray, List.getElem_cons_succ, List.getElem_cons_zero, List.setIfInBounds_toArray, List.set_cons_zero, List.set_cons_succ]
        refine' wpAnyH_take (i := 17) (v := .slice B k d) rfl (by kernel_rfl) (by kernel_rfl) (by kernel_rfl) (fun _ _ _ h => h) (Or.inl ⟨by rfl, fun w' hw' => by go_simp⟩) hHeld ?_
        try simp only [Act.put, List.getElem_toArray, List.getElem_cons_succ, List.getElem_cons_zero, List.setIfInBounds_toArray, List.set_cons_zero, List.set_cons_succ]
        refine wpAnyH_ready (rs := [1, 6]) (by kernel_rfl) (by simp) ?_
        refine AllReadyH.cons rfl (fun K hK => ?_) (AllReadyH.cons rfl (fun K hK => ?_) AllReadyH.nil)
        · as_aux_lemma =>
            go_simp
            have hA := (Below.refl Wd.heap.size Wd).alloc (Nat.le_refl _) (.cells #[.int .u8 (ib x)] 5)
            have hRd : Rd (Wd.alloc (.cells #[.int .u8 (ib x)] 5)) (some ⟨Wd.heap.size, 0, none⟩) ([x].map u8v) := Rd.blk (Blk.new Wd _ _) (by intro j u h; rw [List.getElem?_toArray]; exact h)
            have hS := hHeld.trans (hA.mono hHeld.size)
            have hWr := hWr.below hA
            generalize Wd.alloc (.cells #[.int .u8 (ib x)] 5) = Wc1 at *
            refine hK.out _ _ hS (fun hHeld => ?_)
            clear hA hS hK K
            try simp only [Act.put, List.getElem_toArray, List.getElem_cons_succ, List.getElem_cons_zero, List.setIfInBounds_toArray, List.set_cons_zero, List.set_cons_succ]
            refine wpAnyH_ready (rs := [2, 6]) (by kernel_rfl) (by simp) ?_
            refine AllReadyH.cons rfl (fun K hK => ?_) (AllReadyH.cons rfl (fun K hK => ?_) AllReadyH.nil)
            · as_aux_lemma =>
                have hcv := run_txt (P := Try.prog) Wc1 34 9 5 _ 1 1 [x] Try.underlying34 Try.underlying5 Try.underlying9 rfl hRd
                go_simp
                refine hK.out _ _ hHeld (fun hHeld => ?_)
                clear hcv hK K
                try simp only [Act.put, List.getElem_toArray, List.getElem_cons_succ, List.getElem_cons_zero, List.setIfInBounds_toArray, List.set_cons_zero, List.set_cons_succ]
                refine' wpAnyH_take (i := 4) (v := .string (txt ([x] ++ N))) rfl (by kernel_rfl) (by kernel_rfl) (by kernel_rfl) (fun _ _ _ h => h) (Or.inl ⟨by rfl, fun w' hw' => by go_simp; omega⟩) hHeld ?_
                try simp only [Act.put, List.getElem_toArray, List.getElem_cons_succ, List.getElem_cons_zero, List.setIfInBounds_toArray, List.set_cons_zero, List.set_cons_succ]
                refine wpAnyH_ready (rs := [6]) (by kernel_rfl) (by simp) ?_
                refine AllReadyH.cons rfl (fun K hK => ?_) AllReadyH.nil
                go_simp
                (with_reducible refine (d1 _).mono ?_)
                rintro e Wc2 ⟨rfl, hbc⟩
                have hWr := hWr.below hbc
                refine hK.out _ _ (hHeld.trans (hbc.mono hHeld.size)) (fun hHeld => ?_)
                clear hbc hK K
                try simp only [Act.put, List.getElem_toArray, List.getElem_cons_succ, List.getElem_cons_zero, List.setIfInBounds_toArray, List.set_cons_zero, List.set_cons_succ]
                refine' wpAnyH_take (i := 7) (v := .string (txt ([x] ++ N ++ T))) rfl (by kernel_rfl) (by kernel_rfl) (by kernel_rfl) (fun _ _ _ h => h) (Or.inl ⟨by rfl, fun w' hw' => by go_simp; omega⟩) hHeld ?_
                try simp only [Act.put, List.getElem_toArray, List.getElem_cons_succ, List.getElem_cons_zero, List.setIfInBounds_toArray, List.set_cons_zero, List.set_cons_succ]
                refine wpAnyH_ready (rs := [9]) (by kernel_rfl) (by simp) ?_
                refine AllReadyH.cons rfl (fun K hK => ?_) AllReadyH.nil
                go_simp
                (with_reducible refine (d2 _).mono ?_)
                rintro e Wc3 ⟨rfl, hbc⟩
                have hWr := hWr.below hbc
                refine hK.out _ _ (hHeld.trans (hbc.mono hHeld.size)) (fun hHeld => ?_)
                clear hbc hK K
                try simp only [Act.put, List.getElem_toArray, List.getElem_cons_succ, List.getElem_cons_zero, List.setIfInBounds_toArray, List.set_cons_zero, List.set_cons_succ]
                refine' wpAnyH_take (i := 10) (v := .string (txt ([x] ++ N ++ T ++ a))) rfl (by kernel_rfl) (by kernel_rfl) (by kernel_rfl) (fun _ _ _ h => h) (Or.inl ⟨by rfl, fun w' hw' => by go_simp; omega⟩) hHeld ?_
                try simp only [Act.put, List.getElem_toArray, List.getElem_cons_succ, List.getElem_cons_zero, List.setIfInBounds_toArray, List.set_cons_zero, List.set_cons_succ]
                refine wpAnyH_ready (rs := [12]) (by kernel_rfl) (by simp) ?_
                refine AllReadyH.cons rfl (fun K hK => ?_) AllReadyH.nil
                go_simp
                (with_reducible refine (d3 _).mono ?_)
                rintro e Wc4 ⟨rfl, hbc⟩
                have hWr := hWr.below hbc
                refine hK.out _ _ (hHeld.trans (hbc.mono hHeld.size)) (fun hHeld => ?_)
                clear hbc hK K
                try simp only [Act.put, List.getElem_toArray, List.getElem_cons_succ, List.getElem_cons_zero, List.setIfInBounds_toArray, List.set_cons_zero, List.set_cons_succ]
                refine' wpAnyH_take (i := 13) (v := .string (txt ([x] ++ N ++ T ++ a ++ U))) rfl (by kernel_rfl) (by kernel_rfl) (by kernel_rfl) (fun _ _ _ h => h) (Or.inl ⟨by rfl, fun w' hw' => by go_simp; omega⟩) hHeld ?_
                try simp only [Act.put, List.getElem_toArray, List.getElem_cons_succ, List.getElem_cons_zero, List.setIfInBounds_toArray, List.set_cons_zero, List.set_cons_succ]
                refine wpAnyH_ready (rs := [15]) (by kernel_rfl) (by simp) ?_
                refine AllReadyH.cons rfl (fun K hK => ?_) AllReadyH.nil
                go_simp
                (with_reducible refine (d4 _ hHeld).mono ?_)
                rintro e Wc5 ⟨rfl, hbc⟩
                have hWr := hWr.below hbc
                refine hK.out _ _ (hHeld.trans (hbc.mono hHeld.size)) (fun hHeld => ?_)
                clear hbc hK K
                try simp only [Act.put, List.getElem_toArray, List.getElem_cons_succ, List.getElem_cons_zero, List.setIfInBounds_toArray, List.set_cons_zero, List.set_cons_succ]
                refine' wpAnyH_take (i := 16) (v := .string (txt ([x] ++ N ++ T ++ a ++ U ++ R))) rfl (by kernel_rfl) (by kernel_rfl) (by kernel_rfl) (fun _ _ _ h => h) (Or.inl ⟨by rfl, fun w' hw' => by go_simp; omega⟩) hHeld ?_
                try simp only [Act.put, List.getElem_toArray, List.getElem_cons_succ, List.getElem_cons_zero, List.setIfInBounds_toArray, List.set_cons_zero, List.set_cons_succ]
                refine wpAnyH_ready (rs := [18]) (by kernel_rfl) (by simp) ?_
                refine AllReadyH.cons rfl (fun K hK => ?_) AllReadyH.nil
                go_simp
                (with_reducible refine (d5 _ hHeld).mono ?_)
                rintro e Wc6 ⟨rfl, hbc⟩
                have hWr := hWr.below hbc
                refine hK.out _ _ (hHeld.trans (hbc.mono hHeld.size)) (fun hHeld => ?_)
                clear hbc hK K
                try simp only [Act.put, List.getElem_toArray, List.getElem_cons_succ, List.getElem_cons_zero, List.setIfInBounds_toArray, List.set_cons_zero, List.set_cons_succ]
                refine' wpAnyH_take (i := 19) (v := .string (txt ([x] ++ N ++ T ++ a ++ U ++ R ++ X))) rfl (by kernel_rfl) (by kernel_rfl) (by kernel_rfl) (fun _ _ _ h => h) (Or.inl ⟨by rfl, fun w' hw' => by go_simp; omega⟩) hHeld ?_
                try simp only [Act.put, List.getElem_toArray, List.getElem_cons_succ, List.getElem_cons_zero, List.setIfInBounds_toArray, List.set_cons_zero, List.set_cons_succ]
                refine wpAnyH_ready (rs := [20]) (by kernel_rfl) (by simp) ?_
                refine AllReadyH.cons rfl (fun K hK => ?_) AllReadyH.nil
                go_simp
                refine hK.out _ _ hHeld (fun hHeld => ?_)
                clear hK K
                try simp only [Act.put, List.getElem_toArray, List.getElem_cons_succ, List.getElem_cons_zero, List.setIfInBounds_toArray, List.set_cons_zero, List.set_cons_succ]
                refine wpAnyH_done (by kernel_rfl) ?_ _
                go_wp2_with (fail)
                go_meet
                exact ⟨by simp, hHeld, hWr⟩
            · as_aux_lemma =>
                go_simp
                (with_reducible refine (d1 _).mono ?_)
                rintro e Wc7 ⟨rfl, hbc⟩
                have hWr := hWr.below hbc
                have hRd := hRd.below hbc
                refine hK.out _ _ (hHeld.trans (hbc.mono hHeld.size)) (fun hHeld => ?_)
                clear hbc hK K
                try simp only [Act.put, List.getElem_toArray, List.getElem_cons_succ, List.getElem_cons_zero, List.setIfInBounds_toArray, List.set_cons_zero, List.set_cons_succ]
                refine wpAnyH_ready (rs := [2, 9]) (by kernel_rfl) (by simp) ?_
                refine AllReadyH.cons rfl (fun K hK => ?_) (AllReadyH.cons rfl (fun K hK => ?_) AllReadyH.nil)
                · as_aux_lemma =>
                    have hcv := run_txt (P := Try.prog) Wc7 34 9 5 _ 1 1 [x] Try.underlying34 Try.underlying5 Try.underlying9 rfl hRd
                    go_simp
                    refine hK.out _ _ hHeld (fun hHeld => ?_)
                    clear hcv hK K
                    try simp only [Act.put, List.getElem_toArray, List.getElem_cons_succ, List.getElem_cons_zero, List.setIfInBounds_toArray, List.set_cons_zero, List.set_cons_succ]
                    refine' wpAnyH_take (i := 4) (v := .string (txt ([x] ++ N))) rfl (by kernel_rfl) (by kernel_rfl) (by kernel_rfl) (fun _ _ _ h => h) (Or.inl ⟨by rfl, fun w' hw' => by go_simp; omega⟩) hHeld ?_
                    try simp only [Act.put, List.getElem_toArray, List.getElem_cons_succ, List.getElem_cons_zero, List.setIfInBounds_toArray, List.set_cons_zero, List.set_cons_succ]
                    refine' wpAnyH_take (i := 7) (v := .string (txt ([x] ++ N ++ T))) rfl (by kernel_rfl) (by kernel_rfl) (by kernel_rfl) (fun _ _ _ h => h) (Or.inl ⟨by rfl, fun w' hw' => by go_simp; omega⟩) hHeld ?_
                    try simp only [Act.put, List.getElem_toArray, List.getElem_cons_succ, List.getElem_cons_zero, List.setIfInBounds_toArray, List.set_cons_zero, List.set_cons_succ]
                    refine wpAnyH_ready (rs := [9]) (by kernel_rfl) (by simp) ?_
                    refine AllReadyH.cons rfl (fun K hK => ?_) AllReadyH.nil
                    go_simp
                    (with_reducible refine (d2 _).mono ?_)
                    rintro e Wc8 ⟨rfl, hbc⟩
                    have hWr := hWr.below hbc
                    refine hK.out _ _ (hHeld.trans (hbc.mono hHeld.size)) (fun hHeld => ?_)
                    clear hbc hK K
                    try simp only [Act.put, List.getElem_toArray, List.getElem_cons_succ, List.getElem_cons_zero, List.setIfInBounds_toArray, List.set_cons_zero, List.set_cons_succ]
                    refine' wpAnyH_take (i := 10) (v := .string (txt ([x] ++ N ++ T ++ a))) rfl (by kernel_rfl) (by kernel_rfl) (by kernel_rfl) (fun _ _ _ h => h) (Or.inl ⟨by rfl, fun w' hw' => by go_simp; omega⟩) hHeld ?_
                    try simp only [Act.put, List.getElem_toArray, List.getElem_cons_succ, List.getElem_cons_zero, List.setIfInBounds_toArray, List.set_cons_zero, List.set_cons_succ]
                    refine wpAnyH_ready (rs := [12]) (by kernel_rfl) (by simp) ?_
                    refine AllReadyH.cons rfl (fun K hK => ?_) AllReadyH.nil
                    go_simp
                    (with_reducible refine (d3 _).mono ?_)
                    rintro e Wc9 ⟨rfl, hbc⟩
                    have hWr := hWr.below hbc
                    refine hK.out _ _ (hHeld.trans (hbc.mono hHeld.size)) (fun hHeld => ?_)
                    clear hbc hK K
                    try simp only [Act.put, List.getElem_toArray, List.getElem_cons_succ, List.getElem_cons_zero, List.setIfInBounds_toArray, List.set_cons_zero, List.set_cons_succ]
                    refine' wpAnyH_take (i := 13) (v := .string (txt ([x] ++ N ++ T ++ a ++ U))) rfl (by kernel_rfl) (by kernel_rfl) (by kernel_rfl) (fun _ _ _ h => h) (Or.inl ⟨by rfl, fun w' hw' => by go_simp; omega⟩) hHeld ?_
                    try simp only [Act.put, List.getElem_toArray, List.getElem_cons_succ, List.getElem_cons_zero, List.setIfInBounds_toArray, List.set_cons_zero, List.set_cons_succ]
                    refine wpAnyH_ready (rs := [15]) (by kernel_rfl) (by simp) ?_
                    refine AllReadyH.cons rfl (fun K hK => ?_) AllReadyH.nil
                    go_simp
                    (with_reducible refine (d4 _ hHeld).mono ?_)
                    rintro e Wc10 ⟨rfl, hbc⟩
                    have hWr := hWr.below hbc
                    refine hK.out _ _ (hHeld.trans (hbc.mono hHeld.size)) (fun hHeld => ?_)
                    clear hbc hK K
                    try simp only [Act.put, List.getElem_toArray, List.getElem_cons_succ, List.getElem_cons_zero, List.setIfInBounds_toArray, List.set_cons_zero, List.set_cons_succ]
                    refine' wpAnyH_take (i := 16) (v := .string (txt ([x] ++ N ++ T ++ a ++ U ++ R))) rfl (by kernel_rfl) (by kernel_rfl) (by kernel_rfl) (fun _ _ _ h => h) (Or.inl ⟨by rfl, fun w' hw' => by go_simp; omega⟩) hHeld ?_
                    try simp only [Act.put, List.getElem_toArray, List.getElem_cons_succ, List.getElem_cons_zero, List.setIfInBounds_toArray, List.set_cons_zero, List.set_cons_succ]
                    refine wpAnyH_ready (rs := [18]) (by kernel_rfl) (by simp) ?_
                    refine AllReadyH.cons rfl (fun K hK => ?_) AllReadyH.nil
                    go_simp
                    (with_reducible refine (d5 _ hHeld).mono ?_)
                    rintro e Wc11 ⟨rfl, hbc⟩
                    have hWr := hWr.below hbc
                    refine hK.out _ _ (hHeld.trans (hbc.mono hHeld.size)) (fun hHeld => ?_)
                    clear hbc hK K
                    try simp only [Act.put, List.getElem_toArray, List.getElem_cons_succ, List.getElem_cons_zero, List.setIfInBounds_toArray, List.set_cons_zero, List.set_cons_succ]
                    refine' wpAnyH_take (i := 19) (v := .string (txt ([x] ++ N ++ T ++ a ++ U ++ R ++ X))) rfl (by kernel_rfl) (by kernel_rfl) (by kernel_rfl) (fun _ _ _ h => h) (Or.inl ⟨by rfl, fun w' hw' => by go_simp; omega⟩) hHeld ?_
                    try simp only [Act.put, List.getElem_toArray, List.getElem_cons_succ, List.getElem_cons_zero, List.setIfInBounds_toArray, List.set_cons_zero, List.set_cons_succ]
                    refine wpAnyH_ready (rs := [20]) (by kernel_rfl) (by simp) ?_
                    refine AllReadyH.cons rfl (fun K hK => ?_) AllReadyH.nil
                    go_simp
                    refine hK.out _ _ hHeld (fun hHeld => ?_)
                    clear hK K
                    try simp only [Act.put, List.getElem_toArray, List.getElem_cons_succ, List.getElem_cons_zero, List.setIfInBounds_toArray, List.set_cons_zero, List.set_cons_succ]
                    refine wpAnyH_done (by kernel_rfl) ?_ _
                    go_wp2_with (fail)
                    go_meet
                    exact ⟨by simp, hHeld, hWr⟩
                · as_aux_lemma =>
                    go_simp
                    (with_reducible refine (d2 _).mono ?_)
                    rintro e Wc12 ⟨rfl, hbc⟩
                    have hWr := hWr.below hbc
                    have hRd := hRd.below hbc
                    refine hK.out _ _ (hHeld.trans (hbc.mono hHeld.size)) (fun hHeld => ?_)
                    clear hbc hK K
                    try simp only [Act.put, List.getElem_toArray, List.getElem_cons_succ, List.getElem_cons_zero, List.setIfInBounds_toArray, List.set_cons_zero, List.set_cons_succ]
                    refine wpAnyH_ready (rs := [2, 12]) (by kernel_rfl) (by simp) ?_
                    refine AllReadyH.cons rfl (fun K hK => ?_) (AllReadyH.cons rfl (fun K hK => ?_) AllReadyH.nil)
                    · as_aux_lemma =>
                        have hcv := run_txt (P := Try.prog) Wc12 34 9 5 _ 1 1 [x] Try.underlying34 Try.underlying5 Try.underlying9 rfl hRd
                        go_simp
                        refine hK.out _ _ hHeld (fun hHeld => ?_)
                        clear hcv hK K
                        try simp only [Act.put, List.getElem_toArray, List.getElem_cons_succ, List.getElem_cons_zero, List.setIfInBounds_toArray, List.set_cons_zero, List.set_cons_succ]
                        refine' wpAnyH_take (i := 4) (v := .string (txt ([x] ++ N))) rfl (by kernel_rfl) (by kernel_rfl) (by kernel_rfl) (fun _ _ _ h => h) (Or.inl ⟨by rfl, fun w' hw' => by go_simp; omega⟩) hHeld ?_
                        try simp only [Act.put, List.getElem_toArray, List.getElem_cons_succ, List.getElem_cons_zero, List.setIfInBounds_toArray, List.set_cons_zero, List.set_cons_succ]
                        refine' wpAnyH_take (i := 7) (v := .string (txt ([x] ++ N ++ T))) rfl (by kernel_rfl) (by kernel_rfl) (by kernel_rfl) (fun _ _ _ h => h) (Or.inl ⟨by rfl, fun w' hw' => by go_simp; omega⟩) hHeld ?_
                        try simp only [Act.put, List.getElem_toArray, List.getElem_cons_succ, List.getElem_cons_zero, List.setIfInBounds_toArray, List.set_cons_zero, List.set_cons_succ]
                        refine' wpAnyH_take (i := 10) (v := .string (txt ([x] ++ N ++ T ++ a))) rfl (by kernel_rfl) (by kernel_rfl) (by kernel_rfl) (fun _ _ _ h => h) (Or.inl ⟨by rfl, fun w' hw' => by go_simp; omega⟩) hHeld ?_
                        try simp only [Act.put, List.getElem_toArray, List.getElem_cons_succ, List.getElem_cons_zero, List.setIfInBounds_toArray, List.set_cons_zero, List.set_cons_succ]
                        refine wpAnyH_ready (rs := [12]) (by kernel_rfl) (by simp) ?_
                        refine AllReadyH.cons rfl (fun K hK => ?_) AllReadyH.nil
                        go_simp
                        (with_reducible refine (d3 _).mono ?_)
                        rintro e Wc13 ⟨rfl, hbc⟩
                        have hWr := hWr.below hbc
                        refine hK.out _ _ (hHeld.trans (hbc.mono hHeld.size)) (fun hHeld => ?_)
                        clear hbc hK K
                        try simp only [Act.put, List.getElem_toArray, List.getElem_cons_succ, List.getElem_cons_zero, List.setIfInBounds_toArray, List.set_cons_zero, List.set_cons_succ]
                        refine' wpAnyH_take (i := 13) (v := .string (txt ([x] ++ N ++ T ++ a ++ U))) rfl (by kernel_rfl) (by kernel_rfl) (by kernel_rfl) (fun _ _ _ h => h) (Or.inl ⟨by rfl, fun w' hw' => by go_simp; omega⟩) hHeld ?_
                        try simp only [Act.put, List.getElem_toArray, List.getElem_cons_succ, List.getElem_cons_zero, List.setIfInBounds_toArray, List.set_cons_zero, List.set_cons_succ]
                        refine wpAnyH_ready (rs := [15]) (by kernel_rfl) (by simp) ?_
                        refine AllReadyH.cons rfl (fun K hK => ?_) AllReadyH.nil
                        go_simp
                        (with_reducible refine (d4 _ hHeld).mono ?_)
                        rintro e Wc14 ⟨rfl, hbc⟩
                        have hWr := hWr.below hbc
                        refine hK.out _ _ (hHeld.trans (hbc.mono hHeld.size)) (fun hHeld => ?_)
                        clear hbc hK K
                        try simp only [Act.put, List.getElem_toArray, List.getElem_cons_succ, List.getElem_cons_zero, List.setIfInBounds_toArray, List.set_cons_zero, List.set_cons_succ]
                        refine' wpAnyH_take (i := 16) (v := .string (txt ([x] ++ N ++ T ++ a ++ U ++ R))) rfl (by kernel_rfl) (by kernel_rfl) (by kernel_rfl) (fun _ _ _ h => h) (Or.inl ⟨by rfl, fun w' hw' => by go_simp; omega⟩) hHeld ?_
                        try simp only [Act.put, List.getElem_toArray, List.getElem_cons_succ, List.getElem_cons_zero, List.setIfInBounds_toArray, List.set_cons_zero, List.set_cons_succ]
                        refine wpAnyH_ready (rs := [18]) (by kernel_rfl) (by simp) ?_
                        refine AllReadyH.cons rfl (fun K hK => ?_) AllReadyH.nil
                        go_simp
                        (with_reducible refine (d5 _ hHeld).mono ?_)
                        rintro e Wc15 ⟨rfl, hbc⟩
                        have hWr := hWr.below hbc
                        refine hK.out _ _ (hHeld.trans (hbc.mono hHeld.size)) (fun hHeld => ?_)
                        clear hbc hK K
                        try simp only [Act.put, List.getElem_toArray, List.getElem_cons_succ, List.getElem_cons_zero, List.setIfInBounds_toArray, List.set_cons_zero, List.set_cons_succ]
                        refine' wpAnyH_take (i := 19) (v := .string (txt ([x] ++ N ++ T ++ a ++ U ++ R ++ X))) rfl (by kernel_rfl) (by kernel_rfl) (by kernel_rfl) (fun _ _ _ h => h) (Or.inl ⟨by rfl, fun w' hw' => by go_simp; omega⟩) hHeld ?_
                        try simp only [Act.put, List.getElem_toArray, List.getElem_cons_succ, List.getElem_cons_zero, List.setIfInBounds_toArray, List.set_cons_zero, List.set_cons_succ]
                        refine wpAnyH_ready (rs := [20]) (by kernel_rfl) (by simp) ?_
                        refine AllReadyH.cons rfl (fun K hK => ?_) AllReadyH.nil
                        go_simp
                        refine hK.out _ _ hHeld (fun hHeld => ?_)
                        clear hK K
                        try simp only [Act.put, List.getElem_toArray, List.getElem_cons_succ, List.getElem_cons_zero, List.setIfInBounds_toArray, List.set_cons_zero, List.set_cons_succ]
                        refine wpAnyH_done (by kernel_rfl) ?_ _
                        go_wp2_with (fail)
                        go_meet
                        exact ⟨by simp, hHeld, hWr⟩
                    · as_aux_lemma =>
                        go_simp
                        (with_reducible refine (d3 _).mono ?_)
                        rintro e Wc16 ⟨rfl, hbc⟩
                        have hWr := hWr.below hbc
                        have hRd := hRd.below hbc
                        refine hK.out _ _ (hHeld.trans (hbc.mono hHeld.size)) (fun hHeld => ?_)
                        clear hbc hK K
                        try simp only [Act.put, List.getElem_toArray, List.getElem_cons_succ, List.getElem_cons_zero, List.setIfInBounds_toArray, List.set_cons_zero, List.set_cons_succ]
                        refine wpAnyH_ready (rs := [2, 15]) (by kernel_rfl) (by simp) ?_
                        refine AllReadyH.cons rfl (fun K hK => ?_) (AllReadyH.cons rfl (fun K hK => ?_) AllReadyH.nil)
                        · as_aux_lemma =>
                            have hcv := run_txt (P := Try.prog) Wc16 34 9 5 _ 1 1 [x] Try.underlying34 Try.underlying5 Try.underlying9 rfl hRd
                            go_simp
                            refine hK.out _ _ hHeld (fun hHeld => ?_)
                            clear hcv hK K
                            try simp only [Act.put, List.getElem_toArray, List.getElem_cons_succ, List.getElem_cons_zero, List.setIfInBounds_toArray, List.set_cons_zero, List.set_cons_succ]
                            refine' wpAnyH_take (i := 4) (v := .string (txt ([x] ++ N))) rfl (by kernel_rfl) (by kernel_rfl) (by kernel_rfl) (fun _ _ _ h => h) (Or.inl ⟨by rfl, fun w' hw' => by go_simp; omega⟩) hHeld ?_
                            try simp only [Act.put, List.getElem_toArray, List.getElem_cons_succ, List.getElem_cons_zero, List.setIfInBounds_toArray, List.set_cons_zero, List.set_cons_succ]
                            refine' wpAnyH_take (i := 7) (v := .string (txt ([x] ++ N ++ T))) rfl (by kernel_rfl) (by kernel_rfl) (by kernel_rfl) (fun _ _ _ h => h) (Or.inl ⟨by rfl, fun w' hw' => by go_simp; omega⟩) hHeld ?_
                            try simp only [Act.put, List.getElem_toArray, List.getElem_cons_succ, List.getElem_cons_zero, List.setIfInBounds_toArray, List.set_cons_zero, List.set_cons_succ]
                            refine' wpAnyH_take (i := 10) (v := .string (txt ([x] ++ N ++ T ++ a))) rfl (by kernel_rfl) (by kernel_rfl) (by kernel_rfl) (fun _ _ _ h => h) (Or.inl ⟨by rfl, fun w' hw' => by go_simp; omega⟩) hHeld ?_
                            try simp only [Act.put, List.getElem_toArray, List.getElem_cons_succ, List.getElem_cons_zero, List.setIfInBounds_toArray, List.set_cons_zero, List.set_cons_succ]
                            refine' wpAnyH_take (i := 13) (v := .string (txt ([x] ++ N ++ T ++ a ++ U))) rfl (by kernel_rfl) (by kernel_rfl) (by kernel_rfl) (fun _ _ _ h => h) (Or.inl ⟨by rfl, fun w' hw' => by go_simp; omega⟩) hHeld ?_
                            try simp only [Act.put, List.getElem_toArray, List.getElem_cons_succ, List.getElem_cons_zero, List.setIfInBounds_toArray, List.set_cons_zero, List.set_cons_succ]
                            refine wpAnyH_ready (rs := [15]) (by kernel_rfl) (by simp) ?_
                            refine AllReadyH.cons rfl (fun K hK => ?_) AllReadyH.nil
                            go_simp
                            (with_reducible refine (d4 _ hHeld).mono ?_)
                            rintro e Wc17 ⟨rfl, hbc⟩
                            have hWr := hWr.below hbc
                            refine hK.out _ _ (hHeld.trans (hbc.mono hHeld.size)) (fun hHeld => ?_)
                            clear hbc hK K
                            try simp only [Act.put, List.getElem_toArray, List.getElem_cons_succ, List.getElem_cons_zero, List.setIfInBounds_toArray, List.set_cons_zero, List.set_cons_succ]
                            refine' wpAnyH_take (i := 16) (v := .string (txt ([x] ++ N ++ T ++ a ++ U ++ R))) rfl (by kernel_rfl) (by kernel_rfl) (by kernel_rfl) (fun _ _ _ h => h) (Or.inl ⟨by rfl, fun w' hw' => by go_simp; omega⟩) hHeld ?_
                            try simp only [Act.put, List.getElem_toArray, List.getElem_cons_succ, List.getElem_cons_zero, List.setIfInBounds_toArray, List.set_cons_zero, List.set_cons_succ]
                            refine wpAnyH_ready (rs := [18]) (by kernel_rfl) (by simp) ?_
                            refine AllReadyH.cons rfl (fun K hK => ?_) AllReadyH.nil
                            go_simp
                            (with_reducible refine (d5 _ hHeld).mono ?_)
                            rintro e Wc18 ⟨rfl, hbc⟩
                            have hWr := hWr.below hbc
                            refine hK.out _ _ (hHeld.trans (hbc.mono hHeld.size)) (fun hHeld => ?_)
                            clear hbc hK K
                            try simp only [Act.put, List.getElem_toArray, List.getElem_cons_succ, List.getElem_cons_zero, List.setIfInBounds_toArray, List.set_cons_zero, List.set_cons_succ]
                            refine' wpAnyH_take (i := 19) (v := .string (txt ([x] ++ N ++ T ++ a ++ U ++ R ++ X))) rfl (by kernel_rfl) (by kernel_rfl) (by kernel_rfl) (fun _ _ _ h => h) (Or.inl ⟨by rfl, fun w' hw' => by go_simp; omega⟩) hHeld ?_
                            try simp only [Act.put, List.getElem_toArray, List.getElem_cons_succ, List.getElem_cons_zero, List.setIfInBounds_toArray, List.set_cons_zero, List.set_cons_succ]
                            refine wpAnyH_ready (rs := [20]) (by kernel_rfl) (by simp) ?_
                            refine AllReadyH.cons rfl (fun K hK => ?_) AllReadyH.nil
                            go_simp
                            refine hK.out _ _ hHeld (fun hHeld => ?_)
                            clear hK K
                            try simp only [Act.put, List.getElem_toArray, List.getElem_cons_succ, List.getElem_cons_zero, List.setIfInBounds_toArray, List.set_cons_zero, List.set_cons_succ]
                            refine wpAnyH_done (by kernel_rfl) ?_ _
                            go_wp2_with (fail)
                            go_meet
                            exact ⟨by simp, hHeld, hWr⟩
                        · as_aux_lemma =>
                            go_simp
                            (with_reducible refine (d4 _ hHeld).mono ?_)
                            rintro e Wc19 ⟨rfl, hbc⟩
                            have hWr := hWr.below hbc
                            have hRd := hRd.below hbc
                            refine hK.out _ _ (hHeld.trans (hbc.mono hHeld.size)) (fun hHeld => ?_)
                            clear hbc hK K
                            try simp only [Act.put, List.getElem_toArray, List.getElem_cons_succ, List.getElem_cons_zero, List.setIfInBounds_toArray, List.set_cons_zero, List.set_cons_succ]
                            refine wpAnyH_ready (rs := [2, 18]) (by kernel_rfl) (by simp) ?_
                            refine AllReadyH.cons rfl (fun K hK => ?_) (AllReadyH.cons rfl (fun K hK => ?_) AllReadyH.nil)
                            · as_aux_lemma =>
                                have hcv := run_txt (P := Try.prog) Wc19 34 9 5 _ 1 1 [x] Try.underlying34 Try.underlying5 Try.underlying9 rfl hRd
                                go_simp
                                refine hK.out _ _ hHeld (fun hHeld => ?_)
                                clear hcv hK K
                                try simp only [Act.put, List.getElem_toArray, List.getElem_cons_succ, List.getElem_cons_zero, List.setIfInBounds_toArray, List.set_cons_zero, List.set_cons_succ]
                                refine' wpAnyH_take (i := 4) (v := .string (txt ([x] ++ N))) rfl (by kernel_rfl) (by kernel_rfl) (by kernel_rfl) (fun _ _ _ h => h) (Or.inl ⟨by rfl, fun w' hw' => by go_simp; omega⟩) hHeld ?_
                                try simp only [Act.put, List.getElem_toArray, List.getElem_cons_succ, List.getElem_cons_zero, List.setIfInBounds_toArray, List.set_cons_zero, List.set_cons_succ]
                                refine' wpAnyH_take (i := 7) (v := .string (txt ([x] ++ N ++ T))) rfl (by kernel_rfl) (by kernel_rfl) (by kernel_rfl) (fun _ _ _ h => h) (Or.inl ⟨by rfl, fun w' hw' => by go_simp; omega⟩) hHeld ?_
                                try simp only [Act.put, List.getElem_toArray, List.getElem_cons_succ, List.getElem_cons_zero, List.setIfInBounds_toArray, List.set_cons_zero, List.set_cons_succ]
                                refine' wpAnyH_take (i := 10) (v := .string (txt ([x] ++ N ++ T ++ a))) rfl (by kernel_rfl) (by kernel_rfl) (by kernel_rfl) (fun _ _ _ h => h) (Or.inl ⟨by rfl, fun w' hw' => by go_simp; omega⟩) hHeld ?_
                                try simp only [Act.put, List.getElem_toArray, List.getElem_cons_succ, List.getElem_cons_zero, List.setIfInBounds_toArray, List.set_cons_zero, List.set_cons_succ]
                                refine' wpAnyH_take (i := 13) (v := .string (txt ([x] ++ N ++ T ++ a ++ U))) rfl (by kernel_rfl) (by kernel_rfl) (by kernel_rfl) (fun _ _ _ h => h) (Or.inl ⟨by rfl, fun w' hw' => by go_simp; omega⟩) hHeld ?_
                                try simp only [Act.put, List.getElem_toArray, List.getElem_cons_succ, List.getElem_cons_zero, List.setIfInBounds_toArray, List.set_cons_zero, List.set_cons_succ]
                                refine' wpAnyH_take (i := 16) (v := .string (txt ([x] ++ N ++ T ++ a ++ U ++ R))) rfl (by kernel_rfl) (by kernel_rfl) (by kernel_rfl) (fun _ _ _ h => h) (Or.inl ⟨by rfl, fun w' hw' => by go_simp; omega⟩) hHeld ?_
                                try simp only [Act.put, List.getElem_toArray, List.getElem_cons_succ, List.getElem_cons_zero, List.setIfInBounds_toArray, List.set_cons_zero, List.set_cons_succ]
                                refine wpAnyH_ready (rs := [18]) (by kernel_rfl) (by simp) ?_
                                refine AllReadyH.cons rfl (fun K hK => ?_) AllReadyH.nil
                                go_simp
                                (with_reducible refine (d5 _ hHeld).mono ?_)
                                rintro e Wc20 ⟨rfl, hbc⟩
                                have hWr := hWr.below hbc
                                refine hK.out _ _ (hHeld.trans (hbc.mono hHeld.size)) (fun hHeld => ?_)
                                clear hbc hK K
                                try simp only [Act.put, List.getElem_toArray, List.getElem_cons_succ, List.getElem_cons_zero, List.setIfInBounds_toArray, List.set_cons_zero, List.set_cons_succ]
                                refine' wpAnyH_take (i := 19) (v := .string (txt ([x] ++ N ++ T ++ a ++ U ++ R ++ X))) rfl (by kernel_rfl) (by kernel_rfl) (by kernel_rfl) (fun _ _ _ h => h) (Or.inl ⟨by rfl, fun w' hw' => by go_simp; omega⟩) hHeld ?_
                                try simp only [Act.put, List.getElem_toArray, List.getElem_cons_succ, List.getElem_cons_zero, List.setIfInBounds_toArray, List.set_cons_zero, List.set_cons_succ]
                                refine wpAnyH_ready (rs := [20]) (by kernel_rfl) (by simp) ?_
                                refine AllReadyH.cons rfl (fun K hK => ?_) AllReadyH.nil
                                go_simp
                                refine hK.out _ _ hHeld (fun hHeld => ?_)
                                clear hK K
                                try simp only [Act.put, List.getElem_toArray, List.getElem_cons_succ, List.getElem_cons_zero, List.setIfInBounds_toArray, List.set_cons_zero, List.set_cons_succ]
                                refine wpAnyH_done (by kernel_rfl) ?_ _
                                go_wp2_with (fail)
                                go_meet
                                exact ⟨by simp, hHeld, hWr⟩
                            · as_aux_lemma =>
                                go_simp
                                (with_reducible refine (d5 _ hHeld).mono ?_)
                                rintro e Wc21 ⟨rfl, hbc⟩
                                have hWr := hWr.below hbc
                                have hRd := hRd.below hbc
                                refine hK.out _ _ (hHeld.trans (hbc.mono hHeld.size)) (fun hHeld => ?_)
                                clear hbc hK K
                                try simp only [Act.put, List.getElem_toArray, List.getElem_cons_succ, List.getElem_cons_zero, List.setIfInBounds_toArray, List.set_cons_zero, List.set_cons_succ]
                                refine wpAnyH_ready (rs := [2]) (by kernel_rfl) (by simp) ?_
                                refine AllReadyH.cons rfl (fun K hK => ?_) AllReadyH.nil
                                have hcv := run_txt (P := Try.prog) Wc21 34 9 5 _ 1 1 [x] Try.underlying34 Try.underlying5 Try.underlying9 rfl hRd
                                go_simp
                                refine hK.out _ _ hHeld (fun hHeld => ?_)
                                clear hcv hK K
                                try simp only [Act.put, List.getElem_toArray, List.getElem_cons_succ, List.getElem_cons_zero, List.setIfInBounds_toArray, List.set_cons_zero, List.set_cons_succ]
                                refine' wpAnyH_take (i := 4) (v := .string (txt ([x] ++ N))) rfl (by kernel_rfl) (by kernel_rfl) (by kernel_rfl) (fun _ _ _ h => h) (Or.inl ⟨by rfl, fun w' hw' => by go_simp; omega⟩) hHeld ?_
                                try simp only [Act.put, List.getElem_toArray, List.getElem_cons_succ, List.getElem_cons_zero, List.setIfInBounds_toArray, List.set_cons_zero, List.set_cons_succ]
                                refine' wpAnyH_take (i := 7) (v := .string (txt ([x] ++ N ++ T))) rfl (by kernel_rfl) (by kernel_rfl) (by kernel_rfl) (fun _ _ _ h => h) (Or.inl ⟨by rfl, fun w' hw' => by go_simp; omega⟩) hHeld ?_
                                try simp only [Act.put, List.getElem_toArray, List.getElem_cons_succ, List.getElem_cons_zero, List.setIfInBounds_toArray, List.set_cons_zero, List.set_cons_succ]
                                refine' wpAnyH_take (i := 10) (v := .string (txt ([x] ++ N ++ T ++ a))) rfl (by kernel_rfl) (by kernel_rfl) (by kernel_rfl) (fun _ _ _ h => h) (Or.inl ⟨by rfl, fun w' hw' => by go_simp; omega⟩) hHeld ?_
                                try simp only [Act.put, List.getElem_toArray, List.getElem_cons_succ, List.getElem_cons_zero, List.setIfInBounds_toArray, List.set_cons_zero, List.set_cons_succ]
                                refine' wpAnyH_take (i := 13) (v := .string (txt ([x] ++ N ++ T ++ a ++ U))) rfl (by kernel_rfl) (by kernel_rfl) (by kernel_rfl) (fun _ _ _ h => h) (Or.inl ⟨by rfl, fun w' hw' => by go_simp; omega⟩) hHeld ?_
                                try simp only [Act.put, List.getElem_toArray, List.getElem_cons_succ, List.getElem_cons_zero, List.setIfInBounds_toArray, List.set_cons_zero, List.set_cons_succ]
                                refine' wpAnyH_take (i := 16) (v := .string (txt ([x] ++ N ++ T ++ a ++ U ++ R))) rfl (by kernel_rfl) (by kernel_rfl) (by kernel_rfl) (fun _ _ _ h => h) (Or.inl ⟨by rfl, fun w' hw' => by go_simp; omega⟩) hHeld ?_
                                try simp only [Act.put, List.getElem_toArray, List.getElem_cons_succ, List.getElem_cons_zero, List.setIfInBounds_toArray, List.set_cons_zero, List.set_cons_succ]
                                refine' wpAnyH_take (i := 19) (v := .string (txt ([x] ++ N ++ T ++ a ++ U ++ R ++ X))) rfl (by kernel_rfl) (by kernel_rfl) (by kernel_rfl) (fun _ _ _ h => h) (Or.inl ⟨by rfl, fun w' hw' => by go_simp; omega⟩) hHeld ?_
                                try simp only [Act.put, List.getElem_toArray, List.getElem_cons_succ, List.getElem_cons_zero, List.setIfInBounds_toArray, List.set_cons_zero, List.set_cons_succ]
                                refine wpAnyH_ready (rs := [20]) (by kernel_rfl) (by simp) ?_
                                refine AllReadyH.cons rfl (fun K hK => ?_) AllReadyH.nil
                                go_simp
                                refine hK.out _ _ hHeld (fun hHeld => ?_)
                                clear hK K
                                try simp only [Act.put, List.getElem_toArray, List.getElem_cons_succ, List.getElem_cons_zero, List.setIfInBounds_toArray, List.set_cons_zero, List.set_cons_succ]
                                refine wpAnyH_done (by kernel_rfl) ?_ _
                                go_wp2_with (fail)
                                go_meet
                                exact ⟨by simp, hHeld, hWr⟩
        · as_aux_lemma =>
            go_simp
            (with_reducible refine (d1 _).mono ?_)
            rintro e Wc22 ⟨rfl, hbc⟩
            have hWr := hWr.below hbc
            refine hK.out _ _ (hHeld.trans (hbc.mono hHeld.size)) (fun hHeld => ?_)
            clear hbc hK K
            try simp only [Act.put, List.getElem_toArray, List.getElem_cons_succ, List.getElem_cons_zero, List.setIfInBounds_toArray, List.set_cons_zero, List.set_cons_succ]
            refine wpAnyH_ready (rs := [1, 9]) (by kernel_rfl) (by simp) ?_
            refine AllReadyH.cons rfl (fun K hK => ?_) (AllReadyH.cons rfl (fun K hK => ?_) AllReadyH.nil)
            · as_aux_lemma =>
                go_simp
                have hA := (Below.refl Wc22.heap.size Wc22).alloc (Nat.le_refl _) (.cells #[.int .u8 (ib x)] 5)
                have hRd : Rd (Wc22.alloc (.cells #[.int .u8 (ib x)] 5)) (some ⟨Wc22.heap.size, 0, none⟩) ([x].map u8v) := Rd.blk (Blk.new Wc22 _ _) (by intro j u h; rw [List.getElem?_toArray]; exact h)
                have hS := hHeld.trans (hA.mono hHeld.size)
                have hWr := hWr.below hA
                generalize Wc22.alloc (.cells #[.int .u8 (ib x)] 5) = Wc23 at *
                refine hK.out _ _ hS (fun hHeld => ?_)
                clear hA hS hK K
                try simp only [Act.put, List.getElem_toArray, List.getElem_cons_succ, List.getElem_cons_zero, List.setIfInBounds_toArray, List.set_cons_zero, List.set_cons_succ]
                refine wpAnyH_ready (rs := [2, 9]) (by kernel_rfl) (by simp) ?_
                refine AllReadyH.cons rfl (fun K hK => ?_) (AllReadyH.cons rfl (fun K hK => ?_) AllReadyH.nil)
                · as_aux_lemma =>
                    have hcv := run_txt (P := Try.prog) Wc23 34 9 5 _ 1 1 [x] Try.underlying34 Try.underlying5 Try.underlying9 rfl hRd
                    go_simp
                    refine hK.out _ _ hHeld (fun hHeld => ?_)
                    clear hcv hK K
                    try simp only [Act.put, List.getElem_toArray, List.getElem_cons_succ, List.getElem_cons_zero, List.setIfInBounds_toArray, List.set_cons_zero, List.set_cons_succ]
                    refine' wpAnyH_take (i := 4) (v := .string (txt ([x] ++ N))) rfl (by kernel_rfl) (by kernel_rfl) (by kernel_rfl) (fun _ _ _ h => h) (Or.inl ⟨by rfl, fun w' hw' => by go_simp; omega⟩) hHeld ?_
                    try simp only [Act.put, List.getElem_toArray, List.getElem_cons_succ, List.getElem_cons_zero, List.setIfInBounds_toArray, List.set_cons_zero, List.set_cons_succ]
                    refine' wpAnyH_take (i := 7) (v := .string (txt ([x] ++ N ++ T))) rfl (by kernel_rfl) (by kernel_rfl) (by kernel_rfl) (fun _ _ _ h => h) (Or.inl ⟨by rfl, fun w' hw' => by go_simp; omega⟩) hHeld ?_
                    try simp only [Act.put, List.getElem_toArray, List.getElem_cons_succ, List.getElem_cons_zero, List.setIfInBounds_toArray, List.set_cons_zero, List.set_cons_succ]
                    refine wpAnyH_ready (rs := [9]) (by kernel_rfl) (by simp) ?_
                    refine AllReadyH.cons rfl (fun K hK => ?_) AllReadyH.nil
                    go_simp
                    (with_reducible refine (d2 _).mono ?_)
                    rintro e Wc24 ⟨rfl, hbc⟩
                    have hWr := hWr.below hbc
                    refine hK.out _ _ (hHeld.trans (hbc.mono hHeld.size)) (fun hHeld => ?_)
                    clear hbc hK K
                    try simp only [Act.put, List.getElem_toArray, List.getElem_cons_succ, List.getElem_cons_zero, List.setIfInBounds_toArray, List.set_cons_zero, List.set_cons_succ]
                    refine' wpAnyH_take (i := 10) (v := .string (txt ([x] ++ N ++ T ++ a))) rfl (by kernel_rfl) (by kernel_rfl) (by kernel_rfl) (fun _ _ _ h => h) (Or.inl ⟨by rfl, fun w' hw' => by go_simp; omega⟩) hHeld ?_
                    try simp only [Act.put, List.getElem_toArray, List.getElem_cons_succ, List.getElem_cons_zero, List.setIfInBounds_toArray, List.set_cons_zero, List.set_cons_succ]
                    refine wpAnyH_ready (rs := [12]) (by kernel_rfl) (by simp) ?_
                    refine AllReadyH.cons rfl (fun K hK => ?_) AllReadyH.nil
                    go_simp
                    (with_reducible refine (d3 _).mono ?_)
                    rintro e Wc25 ⟨rfl, hbc⟩
                    have hWr := hWr.below hbc
                    refine hK.out _ _ (hHeld.trans (hbc.mono hHeld.size)) (fun hHeld => ?_)
                    clear hbc hK K
                    try simp only [Act.put, List.getElem_toArray, List.getElem_cons_succ, List.getElem_cons_zero, List.setIfInBounds_toArray, List.set_cons_zero, List.set_cons_succ]
                    refine' wpAnyH_take (i := 13) (v := .string (txt ([x] ++ N ++ T ++ a ++ U))) rfl (by kernel_rfl) (by kernel_rfl) (by kernel_rfl) (fun _ _ _ h => h) (Or.inl ⟨by rfl, fun w' hw' => by go_simp; omega⟩) hHeld ?_
                    try simp only [Act.put, List.getElem_toArray, List.getElem_cons_succ, List.getElem_cons_zero, List.setIfInBounds_toArray, List.set_cons_zero, List.set_cons_succ]
                    refine wpAnyH_ready (rs := [15]) (by kernel_rfl) (by simp) ?_
                    refine AllReadyH.cons rfl (fun K hK => ?_) AllReadyH.nil
                    go_simp
                    (with_reducible refine (d4 _ hHeld).mono ?_)
                    rintro e Wc26 ⟨rfl, hbc⟩
                    have hWr := hWr.below hbc
                    refine hK.out _ _ (hHeld.trans (hbc.mono hHeld.size)) (fun hHeld => ?_)
                    clear hbc hK K
                    try simp only [Act.put, List.getElem_toArray, List.getElem_cons_succ, List.getElem_cons_zero, List.setIfInBounds_toArray, List.set_cons_zero, List.set_cons_succ]
                    refine' wpAnyH_take (i := 16) (v := .string (txt ([x] ++ N ++ T ++ a ++ U ++ R))) rfl (by kernel_rfl) (by kernel_rfl) (by kernel_rfl) (fun _ _ _ h => h) (Or.inl ⟨by rfl, fun w' hw' => by go_simp; omega⟩) hHeld ?_
                    try simp only [Act.put, List.getElem_toArray, List.getElem_cons_succ, List.getElem_cons_zero, List.setIfInBounds_toArray, List.set_cons_zero, List.set_cons_succ]
                    refine wpAnyH_ready (rs := [18]) (by kernel_rfl) (by simp) ?_
                    refine AllReadyH.cons rfl (fun K hK => ?_) AllReadyH.nil
                    go_simp
                    (with_reducible refine (d5 _ hHeld).mono ?_)
                    rintro e Wc27 ⟨rfl, hbc⟩
                    have hWr := hWr.below hbc
                    refine hK.out _ _ (hHeld.trans (hbc.mono hHeld.size)) (fun hHeld => ?_)
                    clear hbc hK K
                    try simp only [Act.put, List.getElem_toArray, List.getElem_cons_succ, List.getElem_cons_zero, List.setIfInBounds_toArray, List.set_cons_zero, List.set_cons_succ]
                    refine' wpAnyH_take (i := 19) (v := .string (txt ([x] ++ N ++ T ++ a ++ U ++ R ++ X))) rfl (by kernel_rfl) (by kernel_rfl) (by kernel_rfl) (fun _ _ _ h => h) (Or.inl ⟨by rfl, fun w' hw' => by go_simp; omega⟩) hHeld ?_
                    try simp only [Act.put, List.getElem_toArray, List.getElem_cons_succ, List.getElem_cons_zero, List.setIfInBounds_toArray, List.set_cons_zero, List.set_cons_succ]
                    refine wpAnyH_ready (rs := [20]) (by kernel_rfl) (by simp) ?_
                    refine AllReadyH.cons rfl (fun K hK => ?_) AllReadyH.nil
                    go_simp
                    refine hK.out _ _ hHeld (fun hHeld => ?_)
                    clear hK K
                    try simp only [Act.put, List.getElem_toArray, List.getElem_cons_succ, List.getElem_cons_zero, List.setIfInBounds_toArray, List.set_cons_zero, List.set_cons_succ]
                    refine wpAnyH_done (by kernel_rfl) ?_ _
                    go_wp2_with (fail)
                    go_meet
                    exact ⟨by simp, hHeld, hWr⟩
                · as_aux_lemma =>
                    go_simp
                    (with_reducible refine (d2 _).mono ?_)
                    rintro e Wc28 ⟨rfl, hbc⟩
                    have hWr := hWr.below hbc
                    have hRd := hRd.below hbc
                    refine hK.out _ _ (hHeld.trans (hbc.mono hHeld.size)) (fun hHeld => ?_)
                    clear hbc hK K
                    try simp only [Act.put, List.getElem_toArray, List.getElem_cons_succ, List.getElem_cons_zero, List.setIfInBounds_toArray, List.set_cons_zero, List.set_cons_succ]
                    refine wpAnyH_ready (rs := [2, 12]) (by kernel_rfl) (by simp) ?_
                    refine AllReadyH.cons rfl (fun K hK => ?_) (AllReadyH.cons rfl (fun K hK => ?_) AllReadyH.nil)
                    · as_aux_lemma =>
                        have hcv := run_txt (P := Try.prog) Wc28 34 9 5 _ 1 1 [x] Try.underlying34 Try.underlying5 Try.underlying9 rfl hRd
                        go_simp
                        refine hK.out _ _ hHeld (fun hHeld => ?_)
                        clear hcv hK K
                        try simp only [Act.put, List.getElem_toArray, List.getElem_cons_succ, List.getElem_cons_zero, List.setIfInBounds_toArray, List.set_cons_zero, List.set_cons_succ]
                        refine' wpAnyH_take (i := 4) (v := .string (txt ([x] ++ N))) rfl (by kernel_rfl) (by kernel_rfl) (by kernel_rfl) (fun _ _ _ h => h) (Or.inl ⟨by rfl, fun w' hw' => by go_simp; omega⟩) hHeld ?_
                        try simp only [Act.put, List.getElem_toArray, List.getElem_cons_succ, List.getElem_cons_zero, List.setIfInBounds_toArray, List.set_cons_zero, List.set_cons_succ]
                        refine' wpAnyH_take (i := 7) (v := .string (txt ([x] ++ N ++ T))) rfl (by kernel_rfl) (by kernel_rfl) (by kernel_rfl) (fun _ _ _ h => h) (Or.inl ⟨by rfl, fun w' hw' => by go_simp; omega⟩) hHeld ?_
                        try simp only [Act.put, List.getElem_toArray, List.getElem_cons_succ, List.getElem_cons_zero, List.setIfInBounds_toArray, List.set_cons_zero, List.set_cons_succ]
                        refine' wpAnyH_take (i := 10) (v := .string (txt ([x] ++ N ++ T ++ a))) rfl (by kernel_rfl) (by kernel_rfl) (by kernel_rfl) (fun _ _ _ h => h) (Or.inl ⟨by rfl, fun w' hw' => by go_simp; omega⟩) hHeld ?_
                        try simp only [Act.put, List.getElem_toArray, List.getElem_cons_succ, List.getElem_cons_zero, List.setIfInBounds_toArray, List.set_cons_zero, List.set_cons_succ]
                        refine wpAnyH_ready (rs := [12]) (by kernel_rfl) (by simp) ?_
                        refine AllReadyH.cons rfl (fun K hK => ?_) AllReadyH.nil
                        go_simp
                        (with_reducible refine (d3 _).mono ?_)
                        rintro e Wc29 ⟨rfl, hbc⟩
                        have hWr := hWr.below hbc
                        refine hK.out _ _ (hHeld.trans (hbc.mono hHeld.size)) (fun hHeld => ?_)
                        clear hbc hK K
                        try simp only [Act.put, List.getElem_toArray, List.getElem_cons_succ, List.getElem_cons_zero, List.setIfInBounds_toArray, List.set_cons_zero, List.set_cons_succ]
                        refine' wpAnyH_take (i := 13) (v := .string (txt ([x] ++ N ++ T ++ a ++ U))) rfl (by kernel_rfl) (by kernel_rfl) (by kernel_rfl) (fun _ _ _ h => h) (Or.inl ⟨by rfl, fun w' hw' => by go_simp; omega⟩) hHeld ?_
                        try simp only [Act.put, List.getElem_toArray, List.getElem_cons_succ, List.getElem_cons_zero, List.setIfInBounds_toArray, List.set_cons_zero, List.set_cons_succ]
                        refine wpAnyH_ready (rs := [15]) (by kernel_rfl) (by simp) ?_
                        refine AllReadyH.cons rfl (fun K hK => ?_) AllReadyH.nil
                        go_simp
                        (with_reducible refine (d4 _ hHeld).mono ?_)
                        rintro e Wc30 ⟨rfl, hbc⟩
                        have hWr := hWr.below hbc
                        refine hK.out _ _ (hHeld.trans (hbc.mono hHeld.size)) (fun hHeld => ?_)
                        clear hbc hK K
                        try simp only [Act.put, List.getElem_toArray, List.getElem_cons_succ, List.getElem_cons_zero, List.setIfInBounds_toArray, List.set_cons_zero, List.set_cons_succ]
                        refine' wpAnyH_take (i := 16) (v := .string (txt ([x] ++ N ++ T ++ a ++ U ++ R))) rfl (by kernel_rfl) (by kernel_rfl) (by kernel_rfl) (fun _ _ _ h => h) (Or.inl ⟨by rfl, fun w' hw' => by go_simp; omega⟩) hHeld ?_
                        try simp only [Act.put, List.getElem_toArray, List.getElem_cons_succ, List.getElem_cons_zero, List.setIfInBounds_toArray, List.set_cons_zero, List.set_cons_succ]
                        refine wpAnyH_ready (rs := [18]) (by kernel_rfl) (by simp) ?_
                        refine AllReadyH.cons rfl (fun K hK => ?_) AllReadyH.nil
                        go_simp
                        (with_reducible refine (d5 _ hHeld).mono ?_)
                        rintro e Wc31 ⟨rfl, hbc⟩
                        have hWr := hWr.below hbc
                        refine hK.out _ _ (hHeld.trans (hbc.mono hHeld.size)) (fun hHeld => ?_)
                        clear hbc hK K
                        try simp only [Act.put, List.getElem_toArray, List.getElem_cons_succ, List.getElem_cons_zero, List.setIfInBounds_toArray, List.set_cons_zero, List.set_cons_succ]
                        refine' wpAnyH_take (i := 19) (v := .string (txt ([x] ++ N ++ T ++ a ++ U ++ R ++ X))) rfl (by kernel_rfl) (by kernel_rfl) (by kernel_rfl) (fun _ _ _ h => h) (Or.inl ⟨by rfl, fun w' hw' => by go_simp; omega⟩) hHeld ?_
                        try simp only [Act.put, List.getElem_toArray, List.getElem_cons_succ, List.getElem_cons_zero, List.setIfInBounds_toArray, List.set_cons_zero, List.set_cons_succ]
                        refine wpAnyH_ready (rs := [20]) (by kernel_rfl) (by simp) ?_
                        refine AllReadyH.cons rfl (fun K hK => ?_) AllReadyH.nil
                        go_simp
                        refine hK.out _ _ hHeld (fun hHeld => ?_)
                        clear hK K
                        try simp only [Act.put, List.getElem_toArray, List.getElem_cons_succ, List.getElem_cons_zero, List.setIfInBounds_toArray, List.set_cons_zero, List.set_cons_succ]
                        refine wpAnyH_done (by kernel_rfl) ?_ _
                        go_wp2_with (fail)
                        go_meet
                        exact ⟨by simp, hHeld, hWr⟩
                    · as_aux_lemma =>
                        go_simp
                        (with_reducible refine (d3 _).mono ?_)
                        rintro e Wc32 ⟨rfl, hbc⟩
                        have hWr := hWr.below hbc
                        have hRd := hRd.below hbc
                        refine hK.out _ _ (hHeld.trans (hbc.mono hHeld.size)) (fun hHeld => ?_)
                        clear hbc hK K
                        try simp only [Act.put, List.getElem_toArray, List.getElem_cons_succ, List.getElem_cons_zero, List.setIfInBounds_toArray, List.set_cons_zero, List.set_cons_succ]
                        refine wpAnyH_ready (rs := [2, 15]) (by kernel_rfl) (by simp) ?_
                        refine AllReadyH.cons rfl (fun K hK => ?_) (AllReadyH.cons rfl (fun K hK => ?_) AllReadyH.nil)
                        · as_aux_lemma =>
                            have hcv := run_txt (P := Try.prog) Wc32 34 9 5 _ 1 1 [x] Try.underlying34 Try.underlying5 Try.underlying9 rfl hRd
                            go_simp
                            refine hK.out _ _ hHeld (fun hHeld => ?_)
                            clear hcv hK K
                            try simp only [Act.put, List.getElem_toArray, List.getElem_cons_succ, List.getElem_cons_zero, List.setIfInBounds_toArray, List.set_cons_zero, List.set_cons_succ]
                            refine' wpAnyH_take (i := 4) (v := .string (txt ([x] ++ N))) rfl (by kernel_rfl) (by kernel_rfl) (by kernel_rfl) (fun _ _ _ h => h) (Or.inl ⟨by rfl, fun w' hw' => by go_simp; omega⟩) hHeld ?_
                            try simp only [Act.put, List.getElem_toArray, List.getElem_cons_succ, List.getElem_cons_zero, List.setIfInBounds_toArray, List.set_cons_zero, List.set_cons_succ]
                            refine' wpAnyH_take (i := 7) (v := .string (txt ([x] ++ N ++ T))) rfl (by kernel_rfl) (by kernel_rfl) (by kernel_rfl) (fun _ _ _ h => h) (Or.inl ⟨by rfl, fun w' hw' => by go_simp; omega⟩) hHeld ?_
                            try simp only [Act.put, List.getElem_toArray, List.getElem_cons_succ, List.getElem_cons_zero, List.setIfInBounds_toArray, List.set_cons_zero, List.set_cons_succ]
                            refine' wpAnyH_take (i := 10) (v := .string (txt ([x] ++ N ++ T ++ a))) rfl (by kernel_rfl) (by kernel_rfl) (by kernel_rfl) (fun _ _ _ h => h) (Or.inl ⟨by rfl, fun w' hw' => by go_simp; omega⟩) hHeld ?_
                            try simp only [Act.put, List.getElem_toArray, List.getElem_cons_succ, List.getElem_cons_zero, List.setIfInBounds_toArray, List.set_cons_zero, List.set_cons_succ]
                            refine' wpAnyH_take (i := 13) (v := .string (txt ([x] ++ N ++ T ++ a ++ U))) rfl (by kernel_rfl) (by kernel_rfl) (by kernel_rfl) (fun _ _ _ h => h) (Or.inl ⟨by rfl, fun w' hw' => by go_simp; omega⟩) hHeld ?_
                            try simp only [Act.put, List.getElem_toArray, List.getElem_cons_succ, List.getElem_cons_zero, List.setIfInBounds_toArray, List.set_cons_zero, List.set_cons_succ]
                            refine wpAnyH_ready (rs := [15]) (by kernel_rfl) (by simp) ?_
                            refine AllReadyH.cons rfl (fun K hK => ?_) AllReadyH.nil
                            go_simp
                            (with_reducible refine (d4 _ hHeld).mono ?_)
                            rintro e Wc33 ⟨rfl, hbc⟩
                            have hWr := hWr.below hbc
                            refine hK.out _ _ (hHeld.trans (hbc.mono hHeld.size)) (fun hHeld => ?_)
                            clear hbc hK K
                            try simp only [Act.put, List.getElem_toArray, List.getElem_cons_succ, List.getElem_cons_zero, List.setIfInBounds_toArray, List.set_cons_zero, List.set_cons_succ]
                            refine' wpAnyH_take (i := 16) (v := .string (txt ([x] ++ N ++ T ++ a ++ U ++ R))) rfl (by kernel_rfl) (by kernel_rfl) (by kernel_rfl) (fun _ _ _ h => h) (Or.inl ⟨by rfl, fun w' hw' => by go_simp; omega⟩) hHeld ?_
                            try simp only [Act.put, List.getElem_toArray, List.getElem_cons_succ, List.getElem_cons_zero, List.setIfInBounds_toArray, List.set_cons_zero, List.set_cons_succ]
                            refine wpAnyH_ready (rs := [18]) (by kernel_rfl) (by simp) ?_
                            refine AllReadyH.cons rfl (fun K hK => ?_) AllReadyH.nil
                            go_simp
                            (with_reducible refine (d5 _ hHeld).mono ?_)
                            rintro e Wc34 ⟨rfl, hbc⟩
                            have hWr := hWr.below hbc
                            refine hK.out _ _ (hHeld.trans (hbc.mono hHeld.size)) (fun hHeld => ?_)
                            clear hbc hK K
                            try simp only [Act.put, List.getElem_toArray, List.getElem_cons_succ, List.getElem_cons_zero, List.setIfInBounds_toArray, List.set_cons_zero, List.set_cons_succ]
                            refine' wpAnyH_take (i := 19) (v := .string (txt ([x] ++ N ++ T ++ a ++ U ++ R ++ X))) rfl (by kernel_rfl) (by kernel_rfl) (by kernel_rfl) (fun _ _ _ h => h) (Or.inl ⟨by rfl, fun w' hw' => by go_simp; omega⟩) hHeld ?_
                            try simp only [Act.put, List.getElem_toArray, List.getElem_cons_succ, List.getElem_cons_zero, List.setIfInBounds_toArray, List.set_cons_zero, List.set_cons_succ]
                            refine wpAnyH_ready (rs := [20]) (by kernel_rfl) (by simp) ?_
                            refine AllReadyH.cons rfl (fun K hK => ?_) AllReadyH.nil
                            go_simp
                            refine hK.out _ _ hHeld (fun hHeld => ?_)
                            clear hK K
                            try simp only [Act.put, List.getElem_toArray, List.getElem_cons_succ, List.getElem_cons_zero, List.setIfInBounds_toArray, List.set_cons_zero, List.set_cons_succ]
                            refine wpAnyH_done (by kernel_rfl) ?_ _
                            go_wp2_with (fail)
                            go_meet
                            exact ⟨by simp, hHeld, hWr⟩
                        · as_aux_lemma =>
                            go_simp
                            (with_reducible refine (d4 _ hHeld).mono ?_)
                            rintro e Wc35 ⟨rfl, hbc⟩
                            have hWr := hWr.below hbc
                            have hRd := hRd.below hbc
                            refine hK.out _ _ (hHeld.trans (hbc.mono hHeld.size)) (fun hHeld => ?_)
                            clear hbc hK K
                            try simp only [Act.put, List.getElem_toArray, List.getElem_cons_succ, List.getElem_cons_zero, List.setIfInBounds_toArray, List.set_cons_zero, List.set_cons_succ]
                            refine wpAnyH_ready (rs := [2, 18]) (by kernel_rfl) (by simp) ?_
                            refine AllReadyH.cons rfl (fun K hK => ?_) (AllReadyH.cons rfl (fun K hK => ?_) AllReadyH.nil)
                            · as_aux_lemma =>
                                have hcv := run_txt (P := Try.prog) Wc35 34 9 5 _ 1 1 [x] Try.underlying34 Try.underlying5 Try.underlying9 rfl hRd
                                go_simp
                                refine hK.out _ _ hHeld (fun hHeld => ?_)
                                clear hcv hK K
                                try simp only [Act.put, List.getElem_toArray, List.getElem_cons_succ, List.getElem_cons_zero, List.setIfInBounds_toArray, List.set_cons_zero, List.set_cons_succ]
                                refine' wpAnyH_take (i := 4) (v := .string (txt ([x] ++ N))) rfl (by kernel_rfl) (by kernel_rfl) (by kernel_rfl) (fun _ _ _ h => h) (Or.inl ⟨by rfl, fun w' hw' => by go_simp; omega⟩) hHeld ?_
                                try simp only [Act.put, List.getElem_toArray, List.getElem_cons_succ, List.getElem_cons_zero, List.setIfInBounds_toArray, List.set_cons_zero, List.set_cons_succ]
                                refine' wpAnyH_take (i := 7) (v := .string (txt ([x] ++ N ++ T))) rfl (by kernel_rfl) (by kernel_rfl) (by kernel_rfl) (fun _ _ _ h => h) (Or.inl ⟨by rfl, fun w' hw' => by go_simp; omega⟩) hHeld ?_
                                try simp only [Act.put, List.getElem_toArray, List.getElem_cons_succ, List.getElem_cons_zero, List.setIfInBounds_toArray, List.set_cons_zero, List.set_cons_succ]
                                refine' wpAnyH_take (i := 10) (v := .string (txt ([x] ++ N ++ T ++ a))) rfl (by kernel_rfl) (by kernel_rfl) (by kernel_rfl) (fun _ _ _ h => h) (Or.inl ⟨by rfl, fun w' hw' => by go_simp; omega⟩) hHeld ?_
                                try simp only [Act.put, List.getElem_toArray, List.getElem_cons_succ, List.getElem_cons_zero, List.setIfInBounds_toArray, List.set_cons_zero, List.set_cons_succ]
                                refine' wpAnyH_take (i := 13) (v := .string (txt ([x] ++ N ++ T ++ a ++ U))) rfl (by kernel_rfl) (by kernel_rfl) (by kernel_rfl) (fun _ _ _ h => h) (Or.inl ⟨by rfl, fun w' hw' => by go_simp; omega⟩) hHeld ?_
                                try simp only [Act.put, List.getElem_toArray, List.getElem_cons_succ, List.getElem_cons_zero, List.setIfInBounds_toArray, List.set_cons_zero, List.set_cons_succ]
                                refine' wpAnyH_take (i := 16) (v := .string (txt ([x] ++ N ++ T ++ a ++ U ++ R))) rfl (by kernel_rfl) (by kernel_rfl) (by kernel_rfl) (fun _ _ _ h => h) (Or.inl ⟨by rfl, fun w' hw' => by go_simp; omega⟩) hHeld ?_
                                try simp only [Act.put, List.getElem_toArray, List.getElem_cons_succ, List.getElem_cons_zero, List.setIfInBounds_toArray, List.set_cons_zero, List.set_cons_succ]
                                refine wpAnyH_ready (rs := [18]) (by kernel_rfl) (by simp) ?_
                                refine AllReadyH.cons rfl (fun K hK => ?_) AllReadyH.nil
                                go_simp
                                (with_reducible refine (d5 _ hHeld).mono ?_)
                                rintro e Wc36 ⟨rfl, hbc⟩
                                have hWr := hWr.below hbc
                                refine hK.out _ _ (hHeld.trans (hbc.mono hHeld.size)) (fun hHeld => ?_)
                                clear hbc hK K
                                try simp only [Act.put, List.getElem_toArray, List.getElem_cons_succ, List.getElem_cons_zero, List.setIfInBounds_toArray, List.set_cons_zero, List.set_cons_succ]
                                refine' wpAnyH_take (i := 19) (v := .string (txt ([x] ++ N ++ T ++ a ++ U ++ R ++ X))) rfl (by kernel_rfl) (by kernel_rfl) (by kernel_rfl) (fun _ _ _ h => h) (Or.inl ⟨by rfl, fun w' hw' => by go_simp; omega⟩) hHeld ?_
                                try simp only [Act.put, List.getElem_toArray, List.getElem_cons_succ, List.getElem_cons_zero, List.setIfInBounds_toArray, List.set_cons_zero, List.set_cons_succ]
                                refine wpAnyH_ready (rs := [20]) (by kernel_rfl) (by simp) ?_
                                refine AllReadyH.cons rfl (fun K hK => ?_) AllReadyH.nil
                                go_simp
                                refine hK.out _ _ hHeld (fun hHeld => ?_)
                                clear hK K
                                try simp only [Act.put, List.getElem_toArray, List.getElem_cons_succ, List.getElem_cons_zero, List.setIfInBounds_toArray, List.set_cons_zero, List.set_cons_succ]
                                refine wpAnyH_done (by kernel_rfl) ?_ _
                                go_wp2_with (fail)
                                go_meet
                                exact ⟨by simp, hHeld, hWr⟩
                            · as_aux_lemma =>
                                go_simp
                                (with_reducible refine (d5 _ hHeld).mono ?_)
                                rintro e Wc37 ⟨rfl, hbc⟩
                                have hWr := hWr.below hbc
                                have hRd := hRd.below hbc
                                refine hK.out _ _ (hHeld.trans (hbc.mono hHeld.size)) (fun hHeld => ?_)
                                clear hbc hK K
                                try simp only [Act.put, List.getElem_toArray, List.getElem_cons_succ, List.getElem_cons_zero, List.setIfInBounds_toArray, List.set_cons_zero, List.set_cons_succ]
                                refine wpAnyH_ready (rs := [2]) (by kernel_rfl) (by simp) ?_
                                refine AllReadyH.cons rfl (fun K hK => ?_) AllReadyH.nil
                                have hcv := run_txt (P := Try.prog) Wc37 34 9 5 _ 1 1 [x] Try.underlying34 Try.underlying5 Try.underlying9 rfl hRd
                                go_simp
                                refine hK.out _ _ hHeld (fun hHeld => ?_)
                                clear hcv hK K
                                try simp only [Act.put, List.getElem_toArray, List.getElem_cons_succ, List.getElem_cons_zero, List.setIfInBounds_toArray, List.set_cons_zero, List.set_cons_succ]
                                refine' wpAnyH_take (i := 4) (v := .string (txt ([x] ++ N))) rfl (by kernel_rfl) (by kernel_rfl) (by kernel_rfl) (fun _ _ _ h => h) (Or.inl ⟨by rfl, fun w' hw' => by go_simp; omega⟩) hHeld ?_
                                try simp only [Act.put, List.getElem_toArray, List.getElem_cons_succ, List.getElem_cons_zero, List.setIfInBounds_toArray, List.set_cons_zero, List.set_cons_succ]
                                refine' wpAnyH_take (i := 7) (v := .string (txt ([x] ++ N ++ T))) rfl (by kernel_rfl) (by kernel_rfl) (by kernel_rfl) (fun _ _ _ h => h) (Or.inl ⟨by rfl, fun w' hw' => by go_simp; omega⟩) hHeld ?_
                                try simp only [Act.put, List.getElem_toArray, List.getElem_cons_succ, List.getElem_cons_zero, List.setIfInBounds_toArray, List.set_cons_zero, List.set_cons_succ]
                                refine' wpAnyH_take (i := 10) (v := .string (txt ([x] ++ N ++ T ++ a))) rfl (by kernel_rfl) (by kernel_rfl) (by kernel_rfl) (fun _ _ _ h => h) (Or.inl ⟨by rfl, fun w' hw' => by go_simp; omega⟩) hHeld ?_
                                try simp only [Act.put, List.getElem_toArray, List.getElem_cons_succ, List.getElem_cons_zero, List.setIfInBounds_toArray, List.set_cons_zero, List.set_cons_succ]
                                refine' wpAnyH_take (i := 13) (v := .string (txt ([x] ++ N ++ T ++ a ++ U))) rfl (by kernel_rfl) (by kernel_rfl) (by kernel_rfl) (fun _ _ _ h => h) (Or.inl ⟨by rfl, fun w' hw' => by go_simp; omega⟩) hHeld ?_
                                try simp only [Act.put, List.getElem_toArray, List.getElem_cons_succ, List.getElem_cons_zero, List.setIfInBounds_toArray, List.set_cons_zero, List.set_cons_succ]
                                refine' wpAnyH_take (i := 16) (v := .string (txt ([x] ++ N ++ T ++ a ++ U ++ R))) rfl (by kernel_rfl) (by kernel_rfl) (by kernel_rfl) (fun _ _ _ h => h) (Or.inl ⟨by rfl, fun w' hw' => by go_simp; omega⟩) hHeld ?_
                                try simp only [Act.put, List.getElem_toArray, List.getElem_cons_succ, List.getElem_cons_zero, List.setIfInBounds_toArray, List.set_cons_zero, List.set_cons_succ]
                                refine' wpAnyH_take (i := 19) (v := .string (txt ([x] ++ N ++ T ++ a ++ U ++ R ++ X))) rfl (by kernel_rfl) (by kernel_rfl) (by kernel_rfl) (fun _ _ _ h => h) (Or.inl ⟨by rfl, fun w' hw' => by go_simp; omega⟩) hHeld ?_
                                try simp only [Act.put, List.getElem_toArray, List.getElem_cons_succ, List.getElem_cons_zero, List.setIfInBounds_toArray, List.set_cons_zero, List.set_cons_succ]
                                refine wpAnyH_ready (rs := [20]) (by kernel_rfl) (by simp) ?_
                                refine AllReadyH.cons rfl (fun K hK => ?_) AllReadyH.nil
                                go_simp
                                refine hK.out _ _ hHeld (fun hHeld => ?_)
                                clear hK K
                                try simp only [Act.put, List.getElem_toArray, List.getElem_cons_succ, List.getElem_cons_zero, List.setIfInBounds_toArray, List.set_cons_zero, List.set_cons_succ]
                                refine wpAnyH_done (by kernel_rfl) ?_ _
                                go_wp2_with (fail)
                                go_meet
                                exact ⟨by simp, hHeld, hWr⟩
            · as_aux_lemma =>
                go_simp
                (with_reducible refine (d2 _).mono ?_)
                rintro e Wc38 ⟨rfl, hbc⟩
                have hWr := hWr.below hbc
                refine hK.out _ _ (hHeld.trans (hbc.mono hHeld.size)) (fun hHeld => ?_)
                clear hbc hK K
                try simp only [Act.put, List.getElem_toArray, List.getElem_cons_succ, List.getElem_cons_zero, List.setIfInBounds_toArray, List.set_cons_zero, List.set_cons_succ]
                refine wpAnyH_ready (rs := [1, 12]) (by kernel_rfl) (by simp) ?_
                refine AllReadyH.cons rfl (fun K hK => ?_) (AllReadyH.cons rfl (fun K hK => ?_) AllReadyH.nil)
                · as_aux_lemma =>
                    go_simp
                    have hA := (Below.refl Wc38.heap.size Wc38).alloc (Nat.le_refl _) (.cells #[.int .u8 (ib x)] 5)
                    have hRd : Rd (Wc38.alloc (.cells #[.int .u8 (ib x)] 5)) (some ⟨Wc38.heap.size, 0, none⟩) ([x].map u8v) := Rd.blk (Blk.new Wc38 _ _) (by intro j u h; rw [List.getElem?_toArray]; exact h)
                    have hS := hHeld.trans (hA.mono hHeld.size)
                    have hWr := hWr.below hA
                    generalize Wc38.alloc (.cells #[.int .u8 (ib x)] 5) = Wc39 at *
                    refine hK.out _ _ hS (fun hHeld => ?_)
                    clear hA hS hK K
                    try simp only [Act.put, List.getElem_toArray, List.getElem_cons_succ, List.getElem_cons_zero, List.setIfInBounds_toArray, List.set_cons_zero, List.set_cons_succ]
                    refine wpAnyH_ready (rs := [2, 12]) (by kernel_rfl) (by simp) ?_
                    refine AllReadyH.cons rfl (fun K hK => ?_) (AllReadyH.cons rfl (fun K hK => ?_) AllReadyH.nil)
                    · as_aux_lemma =>
                        have hcv := run_txt (P := Try.prog) Wc39 34 9 5 _ 1 1 [x] Try.underlying34 Try.underlying5 Try.underlying9 rfl hRd
                        go_simp
                        refine hK.out _ _ hHeld (fun hHeld => ?_)
                        clear hcv hK K
                        try simp only [Act.put, List.getElem_toArray, List.getElem_cons_succ, List.getElem_cons_zero, List.setIfInBounds_toArray, List.set_cons_zero, List.set_cons_succ]
                        refine' wpAnyH_take (i := 4) (v := .string (txt ([x] ++ N))) rfl (by kernel_rfl) (by kernel_rfl) (by kernel_rfl) (fun _ _ _ h => h) (Or.inl ⟨by rfl, fun w' hw' => by go_simp; omega⟩) hHeld ?_
                        try simp only [Act.put, List.getElem_toArray, List.getElem_cons_succ, List.getElem_cons_zero, List.setIfInBounds_toArray, List.set_cons_zero, List.set_cons_succ]
                        refine' wpAnyH_take (i := 7) (v := .string (txt ([x] ++ N ++ T))) rfl (by kernel_rfl) (by kernel_rfl) (by kernel_rfl) (fun _ _ _ h => h) (Or.inl ⟨by rfl, fun w' hw' => by go_simp; omega⟩) hHeld ?_
                        try simp only [Act.put, List.getElem_toArray, List.getElem_cons_succ, List.getElem_cons_zero, List.setIfInBounds_toArray, List.set_cons_zero, List.set_cons_succ]
                        refine' wpAnyH_take (i := 10) (v := .string (txt ([x] ++ N ++ T ++ a))) rfl (by kernel_rfl) (by kernel_rfl) (by kernel_rfl) (fun _ _ _ h => h) (Or.inl ⟨by rfl, fun w' hw' => by go_simp; omega⟩) hHeld ?_
                        try simp only [Act.put, List.getElem_toArray, List.getElem_cons_succ, List.getElem_cons_zero, List.setIfInBounds_toArray, List.set_cons_zero, List.set_cons_succ]
                        refine wpAnyH_ready (rs := [12]) (by kernel_rfl) (by simp) ?_
                        refine AllReadyH.cons rfl (fun K hK => ?_) AllReadyH.nil
                        go_simp
                        (with_reducible refine (d3 _).mono ?_)
                        rintro e Wc40 ⟨rfl, hbc⟩
                        have hWr := hWr.below hbc
                        refine hK.out _ _ (hHeld.trans (hbc.mono hHeld.size)) (fun hHeld => ?_)
                        clear hbc hK K
                        try simp only [Act.put, List.getElem_toArray, List.getElem_cons_succ, List.getElem_cons_zero, List.setIfInBounds_toArray, List.set_cons_zero, List.set_cons_succ]
                        refine' wpAnyH_take (i := 13) (v := .string (txt ([x] ++ N ++ T ++ a ++ U))) rfl (by kernel_rfl) (by kernel_rfl) (by kernel_rfl) (fun _ _ _ h => h) (Or.inl ⟨by rfl, fun w' hw' => by go_simp; omega⟩) hHeld ?_
                        try simp only [Act.put, List.getElem_toArray, List.getElem_cons_succ, List.getElem_cons_zero, List.setIfInBounds_toArray, List.set_cons_zero, List.set_cons_succ]
                        refine wpAnyH_ready (rs := [15]) (by kernel_rfl) (by simp) ?_
                        refine AllReadyH.cons rfl (fun K hK => ?_) AllReadyH.nil
                        go_simp
                        (with_reducible refine (d4 _ hHeld).mono ?_)
                        rintro e Wc41 ⟨rfl, hbc⟩
                        have hWr := hWr.below hbc
                        refine hK.out _ _ (hHeld.trans (hbc.mono hHeld.size)) (fun hHeld => ?_)
                        clear hbc hK K
                        try simp only [Act.put, List.getElem_toArray, List.getElem_cons_succ, List.getElem_cons_zero, List.setIfInBounds_toArray, List.set_cons_zero, List.set_cons_succ]
                        refine' wpAnyH_take (i := 16) (v := .string (txt ([x] ++ N ++ T ++ a ++ U ++ R))) rfl (by kernel_rfl) (by kernel_rfl) (by kernel_rfl) (fun _ _ _ h => h) (Or.inl ⟨by rfl, fun w' hw' => by go_simp; omega⟩) hHeld ?_
                        try simp only [Act.put, List.getElem_toArray, List.getElem_cons_succ, List.getElem_cons_zero, List.setIfInBounds_toArray, List.set_cons_zero, List.set_cons_succ]
                        refine wpAnyH_ready (rs := [18]) (by kernel_rfl) (by simp) ?_
                        refine AllReadyH.cons rfl (fun K hK => ?_) AllReadyH.nil
                        go_simp
                        (with_reducible refine (d5 _ hHeld).mono ?_)
                        rintro e Wc42 ⟨rfl, hbc⟩
                        have hWr := hWr.below hbc
                        refine hK.out _ _ (hHeld.trans (hbc.mono hHeld.size)) (fun hHeld => ?_)
                        clear hbc hK K
                        try simp only [Act.put, List.getElem_toArray, List.getElem_cons_succ, List.getElem_cons_zero, List.setIfInBounds_toArray, List.set_cons_zero, List.set_cons_succ]
                        refine' wpAnyH_take (i := 19) (v := .string (txt ([x] ++ N ++ T ++ a ++ U ++ R ++ X))) rfl (by kernel_rfl) (by kernel_rfl) (by kernel_rfl) (fun _ _ _ h => h) (Or.inl ⟨by rfl, fun w' hw' => by go_simp; omega⟩) hHeld ?_
                        try simp only [Act.put, List.getElem_toArray, List.getElem_cons_succ, List.getElem_cons_zero, List.setIfInBounds_toArray, List.set_cons_zero, List.set_cons_succ]
                        refine wpAnyH_ready (rs := [20]) (by kernel_rfl) (by simp) ?_
                        refine AllReadyH.cons rfl (fun K hK => ?_) AllReadyH.nil
                        go_simp
                        refine hK.out _ _ hHeld (fun hHeld => ?_)
                        clear hK K
                        try simp only [Act.put, List.getElem_toArray, List.getElem_cons_succ, List.getElem_cons_zero, List.setIfInBounds_toArray, List.set_cons_zero, List.set_cons_succ]
                        refine wpAnyH_done (by kernel_rfl) ?_ _
                        go_wp2_with (fail)
                        go_meet
                        exact ⟨by simp, hHeld, hWr⟩
                    · as_aux_lemma =>
                        go_simp
                        (with_reducible refine (d3 _).mono ?_)
                        rintro e Wc43 ⟨rfl, hbc⟩
                        have hWr := hWr.below hbc
                        have hRd := hRd.below hbc
                        refine hK.out _ _ (hHeld.trans (hbc.mono hHeld.size)) (fun hHeld => ?_)
                        clear hbc hK K
                        try simp only [Act.put, List.getElem_toArray, List.getElem_cons_succ, List.getElem_cons_zero, List.setIfInBounds_toArray, List.set_cons_zero, List.set_cons_succ]
                        refine wpAnyH_ready (rs := [2, 15]) (by kernel_rfl) (by simp) ?_
                        refine AllReadyH.cons rfl (fun K hK => ?_) (AllReadyH.cons rfl (fun K hK => ?_) AllReadyH.nil)
                        · as_aux_lemma =>
                            have hcv := run_txt (P := Try.prog) Wc43 34 9 5 _ 1 1 [x] Try.underlying34 Try.underlying5 Try.underlying9 rfl hRd
                            go_simp
                            refine hK.out _ _ hHeld (fun hHeld => ?_)
                            clear hcv hK K
                            try simp only [Act.put, List.getElem_toArray, List.getElem_cons_succ, List.getElem_cons_zero, List.setIfInBounds_toArray, List.set_cons_zero, List.set_cons_succ]
                            refine' wpAnyH_take (i := 4) (v := .string (txt ([x] ++ N))) rfl (by kernel_rfl) (by kernel_rfl) (by kernel_rfl) (fun _ _ _ h => h) (Or.inl ⟨by rfl, fun w' hw' => by go_simp; omega⟩) hHeld ?_
                            try simp only [Act.put, List.getElem_toArray, List.getElem_cons_succ, List.getElem_cons_zero, List.setIfInBounds_toArray, List.set_cons_zero, List.set_cons_succ]
                            refine' wpAnyH_take (i := 7) (v := .string (txt ([x] ++ N ++ T))) rfl (by kernel_rfl) (by kernel_rfl) (by kernel_rfl) (fun _ _ _ h => h) (Or.inl ⟨by rfl, fun w' hw' => by go_simp; omega⟩) hHeld ?_
                            try simp only [Act.put, List.getElem_toArray, List.getElem_cons_succ, List.getElem_cons_zero, List.setIfInBounds_toArray, List.set_cons_zero, List.set_cons_succ]
                            refine' wpAnyH_take (i := 10) (v := .string (txt ([x] ++ N ++ T ++ a))) rfl (by kernel_rfl) (by kernel_rfl) (by kernel_rfl) (fun _ _ _ h => h) (Or.inl ⟨by rfl, fun w' hw' => by go_simp; omega⟩) hHeld ?_
                            try simp only [Act.put, List.getElem_toArray, List.getElem_cons_succ, List.getElem_cons_zero, List.setIfInBounds_toArray, List.set_cons_zero, List.set_cons_succ]
                            refine' wpAnyH_take (i := 13) (v := .string (txt ([x] ++ N ++ T ++ a ++ U))) rfl (by kernel_rfl) (by kernel_rfl) (by kernel_rfl) (fun _ _ _ h => h) (Or.inl ⟨by rfl, fun w' hw' => by go_simp; omega⟩) hHeld ?_
                            try simp only [Act.put, List.getElem_toArray, List.getElem_cons_succ, List.getElem_cons_zero, List.setIfInBounds_toArray, List.set_cons_zero, List.set_cons_succ]
                            refine wpAnyH_ready (rs := [15]) (by kernel_rfl) (by simp) ?_
                            refine AllReadyH.cons rfl (fun K hK => ?_) AllReadyH.nil
                            go_simp
                            (with_reducible refine (d4 _ hHeld).mono ?_)
                            rintro e Wc44 ⟨rfl, hbc⟩
                            have hWr := hWr.below hbc
                            refine hK.out _ _ (hHeld.trans (hbc.mono hHeld.size)) (fun hHeld => ?_)
                            clear hbc hK K
                            try simp only [Act.put, List.getElem_toArray, List.getElem_cons_succ, List.getElem_cons_zero, List.setIfInBounds_toArray, List.set_cons_zero, List.set_cons_succ]
                            refine' wpAnyH_take (i := 16) (v := .string (txt ([x] ++ N ++ T ++ a ++ U ++ R))) rfl (by kernel_rfl) (by kernel_rfl) (by kernel_rfl) (fun _ _ _ h => h) (Or.inl ⟨by rfl, fun w' hw' => by go_simp; omega⟩) hHeld ?_
                            try simp only [Act.put, List.getElem_toArray, List.getElem_cons_succ, List.getElem_cons_zero, List.setIfInBounds_toArray, List.set_cons_zero, List.set_cons_succ]
                            refine wpAnyH_ready (rs := [18]) (by kernel_rfl) (by simp) ?_
                            refine AllReadyH.cons rfl (fun K hK => ?_) AllReadyH.nil
                            go_simp
                            (with_reducible refine (d5 _ hHeld).mono ?_)
                            rintro e Wc45 ⟨rfl, hbc⟩
                            have hWr := hWr.below hbc
                            refine hK.out _ _ (hHeld.trans (hbc.mono hHeld.size)) (fun hHeld => ?_)
                            clear hbc hK K
                            try simp only [Act.put, List.getElem_toArray, List.getElem_cons_succ, List.getElem_cons_zero, List.setIfInBounds_toArray, List.set_cons_zero, List.set_cons_succ]
                            refine' wpAnyH_take (i := 19) (v := .string (txt ([x] ++ N ++ T ++ a ++ U ++ R ++ X))) rfl (by kernel_rfl) (by kernel_rfl) (by kernel_rfl) (fun _ _ _ h => h) (Or.inl ⟨by rfl, fun w' hw' => by go_simp; omega⟩) hHeld ?_
                            try simp only [Act.put, List.getElem_toArray, List.getElem_cons_succ, List.getElem_cons_zero, List.setIfInBounds_toArray, List.set_cons_zero, List.set_cons_succ]
                            refine wpAnyH_ready (rs := [20]) (by kernel_rfl) (by simp) ?_
                            refine AllReadyH.cons rfl (fun K hK => ?_) AllReadyH.nil
                            go_simp
                            refine hK.out _ _ hHeld (fun hHeld => ?_)
                            clear hK K
                            try simp only [Act.put, List.getElem_toArray, List.getElem_cons_succ, List.getElem_cons_zero, List.setIfInBounds_toArray, List.set_cons_zero, List.set_cons_succ]
                            refine wpAnyH_done (by kernel_rfl) ?_ _
                            go_wp2_with (fail)
                            go_meet
                            exact ⟨by simp, hHeld, hWr⟩
                        · as_aux_lemma =>
                            go_simp
                            (with_reducible refine (d4 _ hHeld).mono ?_)
                            rintro e Wc46 ⟨rfl, hbc⟩
                            have hWr := hWr.below hbc
                            have hRd := hRd.below hbc
                            refine hK.out _ _ (hHeld.trans (hbc.mono hHeld.size)) (fun hHeld => ?_)
                            clear hbc hK K
                            try simp only [Act.put, List.getElem_toArray, List.getElem_cons_succ, List.getElem_cons_zero, List.setIfInBounds_toArray, List.set_cons_zero, List.set_cons_succ]
                            refine wpAnyH_ready (rs := [2, 18]) (by kernel_rfl) (by simp) ?_
                            refine AllReadyH.cons rfl (fun K hK => ?_) (AllReadyH.cons rfl (fun K hK => ?_) AllReadyH.nil)
                            · as_aux_lemma =>
                                have hcv := run_txt (P := Try.prog) Wc46 34 9 5 _ 1 1 [x] Try.underlying34 Try.underlying5 Try.underlying9 rfl hRd
                                go_simp
                                refine hK.out _ _ hHeld (fun hHeld => ?_)
                                clear hcv hK K
                                try simp only [Act.put, List.getElem_toArray, List.getElem_cons_succ, List.getElem_cons_zero, List.setIfInBounds_toArray, List.set_cons_zero, List.set_cons_succ]
                                refine' wpAnyH_take (i := 4) (v := .string (txt ([x] ++ N))) rfl (by kernel_rfl) (by kernel_rfl) (by kernel_rfl) (fun _ _ _ h => h) (Or.inl ⟨by rfl, fun w' hw' => by go_simp; omega⟩) hHeld ?_
                                try simp only [Act.put, List.getElem_toArray, List.getElem_cons_succ, List.getElem_cons_zero, List.setIfInBounds_toArray, List.set_cons_zero, List.set_cons_succ]
                                refine' wpAnyH_take (i := 7) (v := .string (txt ([x] ++ N ++ T))) rfl (by kernel_rfl) (by kernel_rfl) (by kernel_rfl) (fun _ _ _ h => h) (Or.inl ⟨by rfl, fun w' hw' => by go_simp; omega⟩) hHeld ?_
                                try simp only [Act.put, List.getElem_toArray, List.getElem_cons_succ, List.getElem_cons_zero, List.setIfInBounds_toArray, List.set_cons_zero, List.set_cons_succ]
                                refine' wpAnyH_take (i := 10) (v := .string (txt ([x] ++ N ++ T ++ a))) rfl (by kernel_rfl) (by kernel_rfl) (by kernel_rfl) (fun _ _ _ h => h) (Or.inl ⟨by rfl, fun w' hw' => by go_simp; omega⟩) hHeld ?_
                                try simp only [Act.put, List.getElem_toArray, List.getElem_cons_succ, List.getElem_cons_zero, List.setIfInBounds_toArray, List.set_cons_zero, List.set_cons_succ]
                                refine' wpAnyH_take (i := 13) (v := .string (txt ([x] ++ N ++ T ++ a ++ U))) rfl (by kernel_rfl) (by kernel_rfl) (by kernel_rfl) (fun _ _ _ h => h) (Or.inl ⟨by rfl, fun w' hw' => by go_simp; omega⟩) hHeld ?_
                                try simp only [Act.put, List.getElem_toArray, List.getElem_cons_succ, List.getElem_cons_zero, List.setIfInBounds_toArray, List.set_cons_zero, List.set_cons_succ]
                                refine' wpAnyH_take (i := 16) (v := .string (txt ([x] ++ N ++ T ++ a ++ U ++ R))) rfl (by kernel_rfl) (by kernel_rfl) (by kernel_rfl) (fun _ _ _ h => h) (Or.inl ⟨by rfl, fun w' hw' => by go_simp; omega⟩) hHeld ?_
                                try simp only [Act.put, List.getElem_toArray, List.getElem_cons_succ, List.getElem_cons_zero, List.setIfInBounds_toArray, List.set_cons_zero, List.set_cons_succ]
                                refine wpAnyH_ready (rs := [18]) (by kernel_rfl) (by simp) ?_
                                refine AllReadyH.cons rfl (fun K hK => ?_) AllReadyH.nil
                                go_simp
                                (with_reducible refine (d5 _ hHeld).mono ?_)
                                rintro e Wc47 ⟨rfl, hbc⟩
                                have hWr := hWr.below hbc
                                refine hK.out _ _ (hHeld.trans (hbc.mono hHeld.size)) (fun hHeld => ?_)
                                clear hbc hK K
                                try simp only [Act.put, List.getElem_toArray, List.getElem_cons_succ, List.getElem_cons_zero, List.setIfInBounds_toArray, List.set_cons_zero, List.set_cons_succ]
                                refine' wpAnyH_take (i := 19) (v := .string (txt ([x] ++ N ++ T ++ a ++ U ++ R ++ X))) rfl (by kernel_rfl) (by kernel_rfl) (by kernel_rfl) (fun _ _ _ h => h) (Or.inl ⟨by rfl, fun w' hw' => by go_simp; omega⟩) hHeld ?_
                                try simp only [Act.put, List.getElem_toArray, List.getElem_cons_succ, List.getElem_cons_zero, List.setIfInBounds_toArray, List.set_cons_zero, List.set_cons_succ]
                                refine wpAnyH_ready (rs := [20]) (by kernel_rfl) (by simp) ?_
                                refine AllReadyH.cons rfl (fun K hK => ?_) AllReadyH.nil
                                go_simp
                                refine hK.out _ _ hHeld (fun hHeld => ?_)
                                clear hK K
                                try simp only [Act.put, List.getElem_toArray, List.getElem_cons_succ, List.getElem_cons_zero, List.setIfInBounds_toArray, List.set_cons_zero, List.set_cons_succ]
                                refine wpAnyH_done (by kernel_rfl) ?_ _
                                go_wp2_with (fail)
                                go_meet
                                exact ⟨by simp, hHeld, hWr⟩
                            · as_aux_lemma =>
                                go_simp
                                (with_reducible refine (d5 _ hHeld).mono ?_)
                                rintro e Wc48 ⟨rfl, hbc⟩
                                have hWr := hWr.below hbc
                                have hRd := hRd.below hbc
                                refine hK.out _ _ (hHeld.trans (hbc.mono hHeld.size)) (fun hHeld => ?_)
                                clear hbc hK K
                                try simp only [Act.put, List.getElem_toArray, List.getElem_cons_succ, List.getElem_cons_zero, List.setIfInBounds_toArray, List.set_cons_zero, List.set_cons_succ]
                                refine wpAnyH_ready (rs := [2]) (by kernel_rfl) (by simp) ?_
                                refine AllReadyH.cons rfl (fun K hK => ?_) AllReadyH.nil
                                have hcv := run_txt (P := Try.prog) Wc48 34 9 5 _ 1 1 [x] Try.underlying34 Try.underlying5 Try.underlying9 rfl hRd
                                go_simp
                                refine hK.out _ _ hHeld (fun hHeld => ?_)
                                clear hcv hK K
                                try simp only [Act.put, List.getElem_toArray, List.getElem_cons_succ, List.getElem_cons_zero, List.setIfInBounds_toArray, List.set_cons_zero, List.set_cons_succ]
                                refine' wpAnyH_take (i := 4) (v := .string (txt ([x] ++ N))) rfl (by kernel_rfl) (by kernel_rfl) (by kernel_rfl) (fun _ _ _ h => h) (Or.inl ⟨by rfl, fun w' hw' => by go_simp; omega⟩) hHeld ?_
                                try simp only [Act.put, List.getElem_toArray, List.getElem_cons_succ, List.getElem_cons_zero, List.setIfInBounds_toArray, List.set_cons_zero, List.set_cons_succ]
                                refine' wpAnyH_take (i := 7) (v := .string (txt ([x] ++ N ++ T))) rfl (by kernel_rfl) (by kernel_rfl) (by kernel_rfl) (fun _ _ _ h => h) (Or.inl ⟨by rfl, fun w' hw' => by go_simp; omega⟩) hHeld ?_
                                try simp only [Act.put, List.getElem_toArray, List.getElem_cons_succ, List.getElem_cons_zero, List.setIfInBounds_toArray, List.set_cons_zero, List.set_cons_succ]
                                refine' wpAnyH_take (i := 10) (v := .string (txt ([x] ++ N ++ T ++ a))) rfl (by kernel_rfl) (by kernel_rfl) (by kernel_rfl) (fun _ _ _ h => h) (Or.inl ⟨by rfl, fun w' hw' => by go_simp; omega⟩) hHeld ?_
                                try simp only [Act.put, List.getElem_toArray, List.getElem_cons_succ, List.getElem_cons_zero, List.setIfInBounds_toArray, List.set_cons_zero, List.set_cons_succ]
                                refine' wpAnyH_take (i := 13) (v := .string (txt ([x] ++ N ++ T ++ a ++ U))) rfl (by kernel_rfl) (by kernel_rfl) (by kernel_rfl) (fun _ _ _ h => h) (Or.inl ⟨by rfl, fun w' hw' => by go_simp; omega⟩) hHeld ?_
                                try simp only [Act.put, List.getElem_toArray, List.getElem_cons_succ, List.getElem_cons_zero, List.setIfInBounds_toArray, List.set_cons_zero, List.set_cons_succ]
                                refine' wpAnyH_take (i := 16) (v := .string (txt ([x] ++ N ++ T ++ a ++ U ++ R))) rfl (by kernel_rfl) (by kernel_rfl) (by kernel_rfl) (fun _ _ _ h => h) (Or.inl ⟨by rfl, fun w' hw' => by go_simp; omega⟩) hHeld ?_
                                try simp only [Act.put, List.getElem_toArray, List.getElem_cons_succ, List.getElem_cons_zero, List.setIfInBounds_toArray, List.set_cons_zero, List.set_cons_succ]
                                refine' wpAnyH_take (i := 19) (v := .string (txt ([x] ++ N ++ T ++ a ++ U ++ R ++ X))) rfl (by kernel_rfl) (by kernel_rfl) (by kernel_rfl) (fun _ _ _ h => h) (Or.inl ⟨by rfl, fun w' hw' => by go_simp; omega⟩) hHeld ?_
                                try simp only [Act.put, List.getElem_toArray, List.getElem_cons_succ, List.getElem_cons_zero, List.setIfInBounds_toArray, List.set_cons_zero, List.set_cons_succ]
                                refine wpAnyH_ready (rs := [20]) (by kernel_rfl) (by simp) ?_
                                refine AllReadyH.cons rfl (fun K hK => ?_) AllReadyH.nil
                                go_simp
                                refine hK.out _ _ hHeld (fun hHeld => ?_)
                                clear hK K
                                try simp only [Act.put, List.getElem_toArray, List.getElem_cons_succ, List.getElem_cons_zero, List.setIfInBounds_toArray, List.set_cons_zero, List.set_cons_succ]
                                refine wpAnyH_done (by kernel_rfl) ?_ _
                                go_wp2_with (fail)
                                go_meet
                                exact ⟨by simp, hHeld, hWr⟩
                · as_aux_lemma =>
                    go_simp
                    (with_reducible refine (d3 _).mono ?_)
                    rintro e Wc49 ⟨rfl, hbc⟩
                    have hWr := hWr.below hbc
                    refine hK.out _ _ (hHeld.trans (hbc.mono hHeld.size)) (fun hHeld => ?_)
                    clear hbc hK K
                    try simp only [Act.put, List.getElem_toArray, List.getElem_cons_succ, List.getElem_cons_zero, List.setIfInBounds_toArray, List.set_cons_zero, List.set_cons_succ]
                    refine wpAnyH_ready (rs := [1, 15]) (by kernel_rfl) (by simp) ?_
                    refine AllReadyH.cons rfl (fun K hK => ?_) (AllReadyH.cons rfl (fun K hK => ?_) AllReadyH.nil)
                    · as_aux_lemma =>
                        go_simp
                        have hA := (Below.refl Wc49.heap.size Wc49).alloc (Nat.le_refl _) (.cells #[.int .u8 (ib x)] 5)
                        have hRd : Rd (Wc49.alloc (.cells #[.int .u8 (ib x)] 5)) (some ⟨Wc49.heap.size, 0, none⟩) ([x].map u8v) := Rd.blk (Blk.new Wc49 _ _) (by intro j u h; rw [List.getElem?_toArray]; exact h)
                        have hS := hHeld.trans (hA.mono hHeld.size)
                        have hWr := hWr.below hA
                        generalize Wc49.alloc (.cells #[.int .u8 (ib x)] 5) = Wc50 at *
                        refine hK.out _ _ hS (fun hHeld => ?_)
                        clear hA hS hK K
                        try simp only [Act.put, List.getElem_toArray, List.getElem_cons_succ, List.getElem_cons_zero, List.setIfInBounds_toArray, List.set_cons_zero, List.set_cons_succ]
                        refine wpAnyH_ready (rs := [2, 15]) (by kernel_rfl) (by simp) ?_
                        refine AllReadyH.cons rfl (fun K hK => ?_) (AllReadyH.cons rfl (fun K hK => ?_) AllReadyH.nil)
                        · as_aux_lemma =>
                            have hcv := run_txt (P := Try.prog) Wc50 34 9 5 _ 1 1 [x] Try.underlying34 Try.underlying5 Try.underlying9 rfl hRd
                            go_simp
                            refine hK.out _ _ hHeld (fun hHeld => ?_)
                            clear hcv hK K
                            try simp only [Act.put, List.getElem_toArray, List.getElem_cons_succ, List.getElem_cons_zero, List.setIfInBounds_toArray, List.set_cons_zero, List.set_cons_succ]
                            refine' wpAnyH_take (i := 4) (v := .string (txt ([x] ++ N))) rfl (by kernel_rfl) (by kernel_rfl) (by kernel_rfl) (fun _ _ _ h => h) (Or.inl ⟨by rfl, fun w' hw' => by go_simp; omega⟩) hHeld ?_
                            try simp only [Act.put, List.getElem_toArray, List.getElem_cons_succ, List.getElem_cons_zero, List.setIfInBounds_toArray, List.set_cons_zero, List.set_cons_succ]
                            refine' wpAnyH_take (i := 7) (v := .string (txt ([x] ++ N ++ T))) rfl (by kernel_rfl) (by kernel_rfl) (by kernel_rfl) (fun _ _ _ h => h) (Or.inl ⟨by rfl, fun w' hw' => by go_simp; omega⟩) hHeld ?_
                            try simp only [Act.put, List.getElem_toArray, List.getElem_cons_succ, List.getElem_cons_zero, List.setIfInBounds_toArray, List.set_cons_zero, List.set_cons_succ]
                            refine' wpAnyH_take (i := 10) (v := .string (txt ([x] ++ N ++ T ++ a))) rfl (by kernel_rfl) (by kernel_rfl) (by kernel_rfl) (fun _ _ _ h => h) (Or.inl ⟨by rfl, fun w' hw' => by go_simp; omega⟩) hHeld ?_
                            try simp only [Act.put, List.getElem_toArray, List.getElem_cons_succ, List.getElem_cons_zero, List.setIfInBounds_toArray, List.set_cons_zero, List.set_cons_succ]
                            refine' wpAnyH_take (i := 13) (v := .string (txt ([x] ++ N ++ T ++ a ++ U))) rfl (by kernel_rfl) (by kernel_rfl) (by kernel_rfl) (fun _ _ _ h => h) (Or.inl ⟨by rfl, fun w' hw' => by go_simp; omega⟩) hHeld ?_
                            try simp only [Act.put, List.getElem_toArray, List.getElem_cons_succ, List.getElem_cons_zero, List.setIfInBounds_toArray, List.set_cons_zero, List.set_cons_succ]
                            refine wpAnyH_ready (rs := [15]) (by kernel_rfl) (by simp) ?_
                            refine AllReadyH.cons rfl (fun K hK => ?_) AllReadyH.nil
                            go_simp
                            (with_reducible refine (d4 _ hHeld).mono ?_)
                            rintro e Wc51 ⟨rfl, hbc⟩
                            have hWr := hWr.below hbc
                            refine hK.out _ _ (hHeld.trans (hbc.mono hHeld.size)) (fun hHeld => ?_)
                            clear hbc hK K
                            try simp only [Act.put, List.getElem_toArray, List.getElem_cons_succ, List.getElem_cons_zero, List.setIfInBounds_toArray, List.set_cons_zero, List.set_cons_succ]
                            refine' wpAnyH_take (i := 16) (v := .string (txt ([x] ++ N ++ T ++ a ++ U ++ R))) rfl (by kernel_rfl) (by kernel_rfl) (by kernel_rfl) (fun _ _ _ h => h) (Or.inl ⟨by rfl, fun w' hw' => by go_simp; omega⟩) hHeld ?_
                            try simp only [Act.put, List.getElem_toArray, List.getElem_cons_succ, List.getElem_cons_zero, List.setIfInBounds_toArray, List.set_cons_zero, List.set_cons_succ]
                            refine wpAnyH_ready (rs := [18]) (by kernel_rfl) (by simp) ?_
                            refine AllReadyH.cons rfl (fun K hK => ?_) AllReadyH.nil
                            go_simp
                            (with_reducible refine (d5 _ hHeld).mono ?_)
                            rintro e Wc52 ⟨rfl, hbc⟩
                            have hWr := hWr.below hbc
                            refine hK.out _ _ (hHeld.trans (hbc.mono hHeld.size)) (fun hHeld => ?_)
                            clear hbc hK K
                            try simp only [Act.put, List.getElem_toArray, List.getElem_cons_succ, List.getElem_cons_zero, List.setIfInBounds_toArray, List.set_cons_zero, List.set_cons_succ]
                            refine' wpAnyH_take (i := 19) (v := .string (txt ([x] ++ N ++ T ++ a ++ U ++ R ++ X))) rfl (by kernel_rfl) (by kernel_rfl) (by kernel_rfl) (fun _ _ _ h => h) (Or.inl ⟨by rfl, fun w' hw' => by go_simp; omega⟩) hHeld ?_
                            try simp only [Act.put, List.getElem_toArray, List.getElem_cons_succ, List.getElem_cons_zero, List.setIfInBounds_toArray, List.set_cons_zero, List.set_cons_succ]
                            refine wpAnyH_ready (rs := [20]) (by kernel_rfl) (by simp) ?_
                            refine AllReadyH.cons rfl (fun K hK => ?_) AllReadyH.nil
                            go_simp
                            refine hK.out _ _ hHeld (fun hHeld => ?_)
                            clear hK K
                            try simp only [Act.put, List.getElem_toArray, List.getElem_cons_succ, List.getElem_cons_zero, List.setIfInBounds_toArray, List.set_cons_zero, List.set_cons_succ]
                            refine wpAnyH_done (by kernel_rfl) ?_ _
                            go_wp2_with (fail)
                            go_meet
                            exact ⟨by simp, hHeld, hWr⟩
                        · as_aux_lemma =>
                            go_simp
                            (with_reducible refine (d4 _ hHeld).mono ?_)
                            rintro e Wc53 ⟨rfl, hbc⟩
                            have hWr := hWr.below hbc
                            have hRd := hRd.below hbc
                            refine hK.out _ _ (hHeld.trans (hbc.mono hHeld.size)) (fun hHeld => ?_)
                            clear hbc hK K
                            try simp only [Act.put, List.getElem_toArray, List.getElem_cons_succ, List.getElem_cons_zero, List.setIfInBounds_toArray, List.set_cons_zero, List.set_cons_succ]
                            refine wpAnyH_ready (rs := [2, 18]) (by kernel_rfl) (by simp) ?_
                            refine AllReadyH.cons rfl (fun K hK => ?_) (AllReadyH.cons rfl (fun K hK => ?_) AllReadyH.nil)
                            · as_aux_lemma =>
                                have hcv := run_txt (P := Try.prog) Wc53 34 9 5 _ 1 1 [x] Try.underlying34 Try.underlying5 Try.underlying9 rfl hRd
                                go_simp
                                refine hK.out _ _ hHeld (fun hHeld => ?_)
                                clear hcv hK K
                                try simp only [Act.put, List.getElem_toArray, List.getElem_cons_succ, List.getElem_cons_zero, List.setIfInBounds_toArray, List.set_cons_zero, List.set_cons_succ]
                                refine' wpAnyH_take (i := 4) (v := .string (txt ([x] ++ N))) rfl (by kernel_rfl) (by kernel_rfl) (by kernel_rfl) (fun _ _ _ h => h) (Or.inl ⟨by rfl, fun w' hw' => by go_simp; omega⟩) hHeld ?_
                                try simp only [Act.put, List.getElem_toArray, List.getElem_cons_succ, List.getElem_cons_zero, List.setIfInBounds_toArray, List.set_cons_zero, List.set_cons_succ]
                                refine' wpAnyH_take (i := 7) (v := .string (txt ([x] ++ N ++ T))) rfl (by kernel_rfl) (by kernel_rfl) (by kernel_rfl) (fun _ _ _ h => h) (Or.inl ⟨by rfl, fun w' hw' => by go_simp; omega⟩) hHeld ?_
                                try simp only [Act.put, List.getElem_toArray, List.getElem_cons_succ, List.getElem_cons_zero, List.setIfInBounds_toArray, List.set_cons_zero, List.set_cons_succ]
                                refine' wpAnyH_take (i := 10) (v := .string (txt ([x] ++ N ++ T ++ a))) rfl (by kernel_rfl) (by kernel_rfl) (by kernel_rfl) (fun _ _ _ h => h) (Or.inl ⟨by rfl, fun w' hw' => by go_simp; omega⟩) hHeld ?_
                                try simp only [Act.put, List.getElem_toArray, List.getElem_cons_succ, List.getElem_cons_zero, List.setIfInBounds_toArray, List.set_cons_zero, List.set_cons_succ]
                                refine' wpAnyH_take (i := 13) (v := .string (txt ([x] ++ N ++ T ++ a ++ U))) rfl (by kernel_rfl) (by kernel_rfl) (by kernel_rfl) (fun _ _ _ h => h) (Or.inl ⟨by rfl, fun w' hw' => by go_simp; omega⟩) hHeld ?_
                                try simp only [Act.put, List.getElem_toArray, List.getElem_cons_succ, List.getElem_cons_zero, List.setIfInBounds_toArray, List.set_cons_zero, List.set_cons_succ]
                                refine' wpAnyH_take (i := 16) (v := .string (txt ([x] ++ N ++ T ++ a ++ U ++ R))) rfl (by kernel_rfl) (by kernel_rfl) (by kernel_rfl) (fun _ _ _ h => h) (Or.inl ⟨by rfl, fun w' hw' => by go_simp; omega⟩) hHeld ?_
                                try simp only [Act.put, List.getElem_toArray, List.getElem_cons_succ, List.getElem_cons_zero, List.setIfInBounds_toArray, List.set_cons_zero, List.set_cons_succ]
                                refine wpAnyH_ready (rs := [18]) (by kernel_rfl) (by simp) ?_
                                refine AllReadyH.cons rfl (fun K hK => ?_) AllReadyH.nil
                                go_simp
                                (with_reducible refine (d5 _ hHeld).mono ?_)
                                rintro e Wc54 ⟨rfl, hbc⟩
                                have hWr := hWr.below hbc
                                refine hK.out _ _ (hHeld.trans (hbc.mono hHeld.size)) (fun hHeld => ?_)
                                clear hbc hK K
                                try simp only [Act.put, List.getElem_toArray, List.getElem_cons_succ, List.getElem_cons_zero, List.setIfInBounds_toArray, List.set_cons_zero, List.set_cons_succ]
                                refine' wpAnyH_take (i := 19) (v := .string (txt ([x] ++ N ++ T ++ a ++ U ++ R ++ X))) rfl (by kernel_rfl) (by kernel_rfl) (by kernel_rfl) (fun _ _ _ h => h) (Or.inl ⟨by rfl, fun w' hw' => by go_simp; omega⟩) hHeld ?_
                                try simp only [Act.put, List.getElem_toArray, List.getElem_cons_succ, List.getElem_cons_zero, List.setIfInBounds_toArray, List.set_cons_zero, List.set_cons_succ]
                                refine wpAnyH_ready (rs := [20]) (by kernel_rfl) (by simp) ?_
                                refine AllReadyH.cons rfl (fun K hK => ?_) AllReadyH.nil
                                go_simp
                                refine hK.out _ _ hHeld (fun hHeld => ?_)
                                clear hK K
                                try simp only [Act.put, List.getElem_toArray, List.getElem_cons_succ, List.getElem_cons_zero, List.setIfInBounds_toArray, List.set_cons_zero, List.set_cons_succ]
                                refine wpAnyH_done (by kernel_rfl) ?_ _
                                go_wp2_with (fail)
                                go_meet
                                exact ⟨by simp, hHeld, hWr⟩
                            · as_aux_lemma =>
                                go_simp
                                (with_reducible refine (d5 _ hHeld).mono ?_)
                                rintro e Wc55 ⟨rfl, hbc⟩
                                have hWr := hWr.below hbc
                                have hRd := hRd.below hbc
                                refine hK.out _ _ (hHeld.trans (hbc.mono hHeld.size)) (fun hHeld => ?_)
                                clear hbc hK K
                                try simp only [Act.put, List.getElem_toArray, List.getElem_cons_succ, List.getElem_cons_zero, List.setIfInBounds_toArray, List.set_cons_zero, List.set_cons_succ]
                                refine wpAnyH_ready (rs := [2]) (by kernel_rfl) (by simp) ?_
                                refine AllReadyH.cons rfl (fun K hK => ?_) AllReadyH.nil
                                have hcv := run_txt (P := Try.prog) Wc55 34 9 5 _ 1 1 [x] Try.underlying34 Try.underlying5 Try.underlying9 rfl hRd
                                go_simp
                                refine hK.out _ _ hHeld (fun hHeld => ?_)
                                clear hcv hK K
                                try simp only [Act.put, List.getElem_toArray, List.getElem_cons_succ, List.getElem_cons_zero, List.setIfInBounds_toArray, List.set_cons_zero, List.set_cons_succ]
                                refine' wpAnyH_take (i := 4) (v := .string (txt ([x] ++ N))) rfl (by kernel_rfl) (by kernel_rfl) (by kernel_rfl) (fun _ _ _ h => h) (Or.inl ⟨by rfl, fun w' hw' => by go_simp; omega⟩) hHeld ?_
                                try simp only [Act.put, List.getElem_toArray, List.getElem_cons_succ, List.getElem_cons_zero, List.setIfInBounds_toArray, List.set_cons_zero, List.set_cons_succ]
                                refine' wpAnyH_take (i := 7) (v := .string (txt ([x] ++ N ++ T))) rfl (by kernel_rfl) (by kernel_rfl) (by kernel_rfl) (fun _ _ _ h => h) (Or.inl ⟨by rfl, fun w' hw' => by go_simp; omega⟩) hHeld ?_
                                try simp only [Act.put, List.getElem_toArray, List.getElem_cons_succ, List.getElem_cons_zero, List.setIfInBounds_toArray, List.set_cons_zero, List.set_cons_succ]
                                refine' wpAnyH_take (i := 10) (v := .string (txt ([x] ++ N ++ T ++ a))) rfl (by kernel_rfl) (by kernel_rfl) (by kernel_rfl) (fun _ _ _ h => h) (Or.inl ⟨by rfl, fun w' hw' => by go_simp; omega⟩) hHeld ?_
                                try simp only [Act.put, List.getElem_toArray, List.getElem_cons_succ, List.getElem_cons_zero, List.setIfInBounds_toArray, List.set_cons_zero, List.set_cons_succ]
                                refine' wpAnyH_take (i := 13) (v := .string (txt ([x] ++ N ++ T ++ a ++ U))) rfl (by kernel_rfl) (by kernel_rfl) (by kernel_rfl) (fun _ _ _ h => h) (Or.inl ⟨by rfl, fun w' hw' => by go_simp; omega⟩) hHeld ?_
                                try simp only [Act.put, List.getElem_toArray, List.getElem_cons_succ, List.getElem_cons_zero, List.setIfInBounds_toArray, List.set_cons_zero, List.set_cons_succ]
                                refine' wpAnyH_take (i := 16) (v := .string (txt ([x] ++ N ++ T ++ a ++ U ++ R))) rfl (by kernel_rfl) (by kernel_rfl) (by kernel_rfl) (fun _ _ _ h => h) (Or.inl ⟨by rfl, fun w' hw' => by go_simp; omega⟩) hHeld ?_
                                try simp only [Act.put, List.getElem_toArray, List.getElem_cons_succ, List.getElem_cons_zero, List.setIfInBounds_toArray, List.set_cons_zero, List.set_cons_succ]
                                refine' wpAnyH_take (i := 19) (v := .string (txt ([x] ++ N ++ T ++ a ++ U ++ R ++ X))) rfl (by kernel_rfl) (by kernel_rfl) (by kernel_rfl) (fun _ _ _ h => h) (Or.inl ⟨by rfl, fun w' hw' => by go_simp; omega⟩) hHeld ?_
                                try simp only [Act.put, List.getElem_toArray, List.getElem_cons_succ, List.getElem_cons_zero, List.setIfInBounds_toArray, List.set_cons_zero, List.set_cons_succ]
                                refine wpAnyH_ready (rs := [20]) (by kernel_rfl) (by simp) ?_
                                refine AllReadyH.cons rfl (fun K hK => ?_) AllReadyH.nil
                                go_simp
                                refine hK.out _ _ hHeld (fun hHeld => ?_)
                                clear hK K
                                try simp only [Act.put, List.getElem_toArray, List.getElem_cons_succ, List.getElem_cons_zero, List.setIfInBounds_toArray, List.set_cons_zero, List.set_cons_succ]
                                refine wpAnyH_done (by kernel_rfl) ?_ _
                                go_wp2_with (fail)
                                go_meet
                                exact ⟨by simp, hHeld, hWr⟩
                    · as_aux_lemma =>
                        go_simp
                        (with_reducible refine (d4 _ hHeld).mono ?_)
                        rintro e Wc56 ⟨rfl, hbc⟩
                        have hWr := hWr.below hbc
                        refine hK.out _ _ (hHeld.trans (hbc.mono hHeld.size)) (fun hHeld => ?_)
                        clear hbc hK K
                        try simp only [Act.put, List.getElem_toArray, List.getElem_cons_succ, List.getElem_cons_zero, List.setIfInBounds_toArray, List.set_cons_zero, List.set_cons_succ]
                        refine wpAnyH_ready (rs := [1, 18]) (by kernel_rfl) (by simp) ?_
                        refine AllReadyH.cons rfl (fun K hK => ?_) (AllReadyH.cons rfl (fun K hK => ?_) AllReadyH.nil)
                        · as_aux_lemma =>
                            go_simp
                            have hA := (Below.refl Wc56.heap.size Wc56).alloc (Nat.le_refl _) (.cells #[.int .u8 (ib x)] 5)
                            have hRd : Rd (Wc56.alloc (.cells #[.int .u8 (ib x)] 5)) (some ⟨Wc56.heap.size, 0, none⟩) ([x].map u8v) := Rd.blk (Blk.new Wc56 _ _) (by intro j u h; rw [List.getElem?_toArray]; exact h)
                            have hS := hHeld.trans (hA.mono hHeld.size)
                            have hWr := hWr.below hA
                            generalize Wc56.alloc (.cells #[.int .u8 (ib x)] 5) = Wc57 at *
                            refine hK.out _ _ hS (fun hHeld => ?_)
                            clear hA hS hK K
                            try simp only [Act.put, List.getElem_toArray, List.getElem_cons_succ, List.getElem_cons_zero, List.setIfInBounds_toArray, List.set_cons_zero, List.set_cons_succ]
                            refine wpAnyH_ready (rs := [2, 18]) (by kernel_rfl) (by simp) ?_
                            refine AllReadyH.cons rfl (fun K hK => ?_) (AllReadyH.cons rfl (fun K hK => ?_) AllReadyH.nil)
                            · as_aux_lemma =>
                                have hcv := run_txt (P := Try.prog) Wc57 34 9 5 _ 1 1 [x] Try.underlying34 Try.underlying5 Try.underlying9 rfl hRd
                                go_simp
                                refine hK.out _ _ hHeld (fun hHeld => ?_)
                                clear hcv hK K
                                try simp only [Act.put, List.getElem_toArray, List.getElem_cons_succ, List.getElem_cons_zero, List.setIfInBounds_toArray, List.set_cons_zero, List.set_cons_succ]
                                refine' wpAnyH_take (i := 4) (v := .string (txt ([x] ++ N))) rfl (by kernel_rfl) (by kernel_rfl) (by kernel_rfl) (fun _ _ _ h => h) (Or.inl ⟨by rfl, fun w' hw' => by go_simp; omega⟩) hHeld ?_
                                try simp only [Act.put, List.getElem_toArray, List.getElem_cons_succ, List.getElem_cons_zero, List.setIfInBounds_toArray, List.set_cons_zero, List.set_cons_succ]
                                refine' wpAnyH_take (i := 7) (v := .string (txt ([x] ++ N ++ T))) rfl (by kernel_rfl) (by kernel_rfl) (by kernel_rfl) (fun _ _ _ h => h) (Or.inl ⟨by rfl, fun w' hw' => by go_simp; omega⟩) hHeld ?_
                                try simp only [Act.put, List.getElem_toArray, List.getElem_cons_succ, List.getElem_cons_zero, List.setIfInBounds_toArray, List.set_cons_zero, List.set_cons_succ]
                                refine' wpAnyH_take (i := 10) (v := .string (txt ([x] ++ N ++ T ++ a))) rfl (by kernel_rfl) (by kernel_rfl) (by kernel_rfl) (fun _ _ _ h => h) (Or.inl ⟨by rfl, fun w' hw' => by go_simp; omega⟩) hHeld ?_
                                try simp only [Act.put, List.getElem_toArray, List.getElem_cons_succ, List.getElem_cons_zero, List.setIfInBounds_toArray, List.set_cons_zero, List.set_cons_succ]
                                refine' wpAnyH_take (i := 13) (v := .string (txt ([x] ++ N ++ T ++ a ++ U))) rfl (by kernel_rfl) (by kernel_rfl) (by kernel_rfl) (fun _ _ _ h => h) (Or.inl ⟨by rfl, fun w' hw' => by go_simp; omega⟩) hHeld ?_
                                try simp only [Act.put, List.getElem_toArray, List.getElem_cons_succ, List.getElem_cons_zero, List.setIfInBounds_toArray, List.set_cons_zero, List.set_cons_succ]
                                refine' wpAnyH_take (i := 16) (v := .string (txt ([x] ++ N ++ T ++ a ++ U ++ R))) rfl (by kernel_rfl) (by kernel_rfl) (by kernel_rfl) (fun _ _ _ h => h) (Or.inl ⟨by rfl, fun w' hw' => by go_simp; omega⟩) hHeld ?_
                                try simp only [Act.put, List.getElem_toArray, List.getElem_cons_succ, List.getElem_cons_zero, List.setIfInBounds_toArray, List.set_cons_zero, List.set_cons_succ]
                                refine wpAnyH_ready (rs := [18]) (by kernel_rfl) (by simp) ?_
                                refine AllReadyH.cons rfl (fun K hK => ?_) AllReadyH.nil
                                go_simp
                                (with_reducible refine (d5 _ hHeld).mono ?_)
                                rintro e Wc58 ⟨rfl, hbc⟩
                                have hWr := hWr.below hbc
                                refine hK.out _ _ (hHeld.trans (hbc.mono hHeld.size)) (fun hHeld => ?_)
                                clear hbc hK K
                                try simp only [Act.put, List.getElem_toArray, List.getElem_cons_succ, List.getElem_cons_zero, List.setIfInBounds_toArray, List.set_cons_zero, List.set_cons_succ]
                                refine' wpAnyH_take (i := 19) (v := .string (txt ([x] ++ N ++ T ++ a ++ U ++ R ++ X))) rfl (by kernel_rfl) (by kernel_rfl) (by kernel_rfl) (fun _ _ _ h => h) (Or.inl ⟨by rfl, fun w' hw' => by go_simp; omega⟩) hHeld ?_
                                try simp only [Act.put, List.getElem_toArray, List.getElem_cons_succ, List.getElem_cons_zero, List.setIfInBounds_toArray, List.set_cons_zero, List.set_cons_succ]
                                refine wpAnyH_ready (rs := [20]) (by kernel_rfl) (by simp) ?_
                                refine AllReadyH.cons rfl (fun K hK => ?_) AllReadyH.nil
                                go_simp
                                refine hK.out _ _ hHeld (fun hHeld => ?_)
                                clear hK K
                                try simp only [Act.put, List.getElem_toArray, List.getElem_cons_succ, List.getElem_cons_zero, List.setIfInBounds_toArray, List.set_cons_zero, List.set_cons_succ]
                                refine wpAnyH_done (by kernel_rfl) ?_ _
                                go_wp2_with (fail)
                                go_meet
                                exact ⟨by simp, hHeld, hWr⟩
                            · as_aux_lemma =>
                                go_simp
                                (with_reducible refine (d5 _ hHeld).mono ?_)
                                rintro e Wc59 ⟨rfl, hbc⟩
                                have hWr := hWr.below hbc
                                have hRd := hRd.below hbc
                                refine hK.out _ _ (hHeld.trans (hbc.mono hHeld.size)) (fun hHeld => ?_)
                                clear hbc hK K
                                try simp only [Act.put, List.getElem_toArray, List.getElem_cons_succ, List.getElem_cons_zero, List.setIfInBounds_toArray, List.set_cons_zero, List.set_cons_succ]
                                refine wpAnyH_ready (rs := [2]) (by kernel_rfl) (by simp) ?_
                                refine AllReadyH.cons rfl (fun K hK => ?_) AllReadyH.nil
                                have hcv := run_txt (P := Try.prog) Wc59 34 9 5 _ 1 1 [x] Try.underlying34 Try.underlying5 Try.underlying9 rfl hRd
                                go_simp
                                refine hK.out _ _ hHeld (fun hHeld => ?_)
                                clear hcv hK K
                                try simp only [Act.put, List.getElem_toArray, List.getElem_cons_succ, List.getElem_cons_zero, List.setIfInBounds_toArray, List.set_cons_zero, List.set_cons_succ]
                                refine' wpAnyH_take (i := 4) (v := .string (txt ([x] ++ N))) rfl (by kernel_rfl) (by kernel_rfl) (by kernel_rfl) (fun _ _ _ h => h) (Or.inl ⟨by rfl, fun w' hw' => by go_simp; omega⟩) hHeld ?_
                                try simp only [Act.put, List.getElem_toArray, List.getElem_cons_succ, List.getElem_cons_zero, List.setIfInBounds_toArray, List.set_cons_zero, List.set_cons_succ]
                                refine' wpAnyH_take (i := 7) (v := .string (txt ([x] ++ N ++ T))) rfl (by kernel_rfl) (by kernel_rfl) (by kernel_rfl) (fun _ _ _ h => h) (Or.inl ⟨by rfl, fun w' hw' => by go_simp; omega⟩) hHeld ?_
                                try simp only [Act.put, List.getElem_toArray, List.getElem_cons_succ, List.getElem_cons_zero, List.setIfInBounds_toArray, List.set_cons_zero, List.set_cons_succ]
                                refine' wpAnyH_take (i := 10) (v := .string (txt ([x] ++ N ++ T ++ a))) rfl (by kernel_rfl) (by kernel_rfl) (by kernel_rfl) (fun _ _ _ h => h) (Or.inl ⟨by rfl, fun w' hw' => by go_simp; omega⟩) hHeld ?_
                                try simp only [Act.put, List.getElem_toArray, List.getElem_cons_succ, List.getElem_cons_zero, List.setIfInBounds_toArray, List.set_cons_zero, List.set_cons_succ]
                                refine' wpAnyH_take (i := 13) (v := .string (txt ([x] ++ N ++ T ++ a ++ U))) rfl (by kernel_rfl) (by kernel_rfl) (by kernel_rfl) (fun _ _ _ h => h) (Or.inl ⟨by rfl, fun w' hw' => by go_simp; omega⟩) hHeld ?_
                                try simp only [Act.put, List.getElem_toArray, List.getElem_cons_succ, List.getElem_cons_zero, List.setIfInBounds_toArray, List.set_cons_zero, List.set_cons_succ]
                                refine' wpAnyH_take (i := 16) (v := .string (txt ([x] ++ N ++ T ++ a ++ U ++ R))) rfl (by kernel_rfl) (by kernel_rfl) (by kernel_rfl) (fun _ _ _ h => h) (Or.inl ⟨by rfl, fun w' hw' => by go_simp; omega⟩) hHeld ?_
                                try simp only [Act.put, List.getElem_toArray, List.getElem_cons_succ, List.getElem_cons_zero, List.setIfInBounds_toArray, List.set_cons_zero, List.set_cons_succ]
                                refine' wpAnyH_take (i := 19) (v := .string (txt ([x] ++ N ++ T ++ a ++ U ++ R ++ X))) rfl (by kernel_rfl) (by kernel_rfl) (by kernel_rfl) (fun _ _ _ h => h) (Or.inl ⟨by rfl, fun w' hw' => by go_simp; omega⟩) hHeld ?_
                                try simp only [Act.put, List.getElem_toArray, List.getElem_cons_succ, List.getElem_cons_zero, List.setIfInBounds_toArray, List.set_cons_zero, List.set_cons_succ]
                                refine wpAnyH_ready (rs := [20]) (by kernel_rfl) (by simp) ?_
                                refine AllReadyH.cons rfl (fun K hK => ?_) AllReadyH.nil
                                go_simp
                                refine hK.out _ _ hHeld (fun hHeld => ?_)
                                clear hK K
                                try simp only [Act.put, List.getElem_toArray, List.getElem_cons_succ, List.getElem_cons_zero, List.setIfInBounds_toArray, List.set_cons_zero, List.set_cons_succ]
                                refine wpAnyH_done (by kernel_rfl) ?_ _
                                go_wp2_with (fail)
                                go_meet
                                exact ⟨by simp, hHeld, hWr⟩
                        · as_aux_lemma =>
                            go_simp
                            (with_reducible refine (d5 _ hHeld).mono ?_)
                            rintro e Wc60 ⟨rfl, hbc⟩
                            have hWr := hWr.below hbc
                            refine hK.out _ _ (hHeld.trans (hbc.mono hHeld.size)) (fun hHeld => ?_)
                            clear hbc hK K
                            try simp only [Act.put, List.getElem_toArray, List.getElem_cons_succ, List.getElem_cons_zero, List.setIfInBounds_toArray, List.set_cons_zero, List.set_cons_succ]
                            refine wpAnyH_ready (rs := [1]) (by kernel_rfl) (by simp) ?_
                            refine AllReadyH.cons rfl (fun K hK => ?_) AllReadyH.nil
                            go_simp
                            have hA := (Below.refl Wc60.heap.size Wc60).alloc (Nat.le_refl _) (.cells #[.int .u8 (ib x)] 5)
                            have hRd : Rd (Wc60.alloc (.cells #[.int .u8 (ib x)] 5)) (some ⟨Wc60.heap.size, 0, none⟩) ([x].map u8v) := Rd.blk (Blk.new Wc60 _ _) (by intro j u h; rw [List.getElem?_toArray]; exact h)
                            have hS := hHeld.trans (hA.mono hHeld.size)
                            have hWr := hWr.below hA
                            generalize Wc60.alloc (.cells #[.int .u8 (ib x)] 5) = Wc61 at *
                            refine hK.out _ _ hS (fun hHeld => ?_)
                            clear hA hS hK K
                            try simp only [Act.put, List.getElem_toArray, List.getElem_cons_succ, List.getElem_cons_zero, List.setIfInBounds_toArray, List.set_cons_zero, List.set_cons_succ]
                            refine wpAnyH_ready (rs := [2]) (by kernel_rfl) (by simp) ?_
                            refine AllReadyH.cons rfl (fun K hK => ?_) AllReadyH.nil
                            have hcv := run_txt (P := Try.prog) Wc61 34 9 5 _ 1 1 [x] Try.underlying34 Try.underlying5 Try.underlying9 rfl hRd
                            go_simp
                            refine hK.out _ _ hHeld (fun hHeld => ?_)
                            clear hcv hK K
                            try simp only [Act.put, List.getElem_toArray, List.getElem_cons_succ, List.getElem_cons_zero, List.setIfInBounds_toArray, List.set_cons_zero, List.set_cons_succ]
                            refine' wpAnyH_take (i := 4) (v := .string (txt ([x] ++ N))) rfl (by kernel_rfl) (by kernel_rfl) (by kernel_rfl) (fun _ _ _ h => h) (Or.inl ⟨by rfl, fun w' hw' => by go_simp; omega⟩) hHeld ?_
                            try simp only [Act.put, List.getElem_toArray, List.getElem_cons_succ, List.getElem_cons_zero, List.setIfInBounds_toArray, List.set_cons_zero, List.set_cons_succ]
                            refine' wpAnyH_take (i := 7) (v := .string (txt ([x] ++ N ++ T))) rfl (by kernel_rfl) (by kernel_rfl) (by kernel_rfl) (fun _ _ _ h => h) (Or.inl ⟨by rfl, fun w' hw' => by go_simp; omega⟩) hHeld ?_
                            try simp only [Act.put, List.getElem_toArray, List.getElem_cons_succ, List.getElem_cons_zero, List.setIfInBounds_toArray, List.set_cons_zero, List.set_cons_succ]
                            refine' wpAnyH_take (i := 10) (v := .string (txt ([x] ++ N ++ T ++ a))) rfl (by kernel_rfl) (by kernel_rfl) (by kernel_rfl) (fun _ _ _ h => h) (Or.inl ⟨by rfl, fun w' hw' => by go_simp; omega⟩) hHeld ?_
                            try simp only [Act.put, List.getElem_toArray, List.getElem_cons_succ, List.getElem_cons_zero, List.setIfInBounds_toArray, List.set_cons_zero, List.set_cons_succ]
                            refine' wpAnyH_take (i := 13) (v := .string (txt ([x] ++ N ++ T ++ a ++ U))) rfl (by kernel_rfl) (by kernel_rfl) (by kernel_rfl) (fun _ _ _ h => h) (Or.inl ⟨by rfl, fun w' hw' => by go_simp; omega⟩) hHeld ?_
                            try simp only [Act.put, List.getElem_toArray, List.getElem_cons_succ, List.getElem_cons_zero, List.setIfInBounds_toArray, List.set_cons_zero, List.set_cons_succ]
                            refine' wpAnyH_take (i := 16) (v := .string (txt ([x] ++ N ++ T ++ a ++ U ++ R))) rfl (by kernel_rfl) (by kernel_rfl) (by kernel_rfl) (fun _ _ _ h => h) (Or.inl ⟨by rfl, fun w' hw' => by go_simp; omega⟩) hHeld ?_
                            try simp only [Act.put, List.getElem_toArray, List.getElem_cons_succ, List.getElem_cons_zero, List.setIfInBounds_toArray, List.set_cons_zero, List.set_cons_succ]
                            refine' wpAnyH_take (i := 19) (v := .string (txt ([x] ++ N ++ T ++ a ++ U ++ R ++ X))) rfl (by kernel_rfl) (by kernel_rfl) (by kernel_rfl) (fun _ _ _ h => h) (Or.inl ⟨by rfl, fun w' hw' => by go_simp; omega⟩) hHeld ?_
                            try simp only [Act.put, List.getElem_toArray, List.getElem_cons_succ, List.getElem_cons_zero, List.setIfInBounds_toArray, List.set_cons_zero, List.set_cons_succ]
                            refine wpAnyH_ready (rs := [20]) (by kernel_rfl) (by simp) ?_
                            refine AllReadyH.cons rfl (fun K hK => ?_) AllReadyH.nil
                            go_simp
                            refine hK.out _ _ hHeld (fun hHeld => ?_)
                            clear hK K
                            try simp only [Act.put, List.getElem_toArray, List.getElem_cons_succ, List.getElem_cons_zero, List.setIfInBounds_toArray, List.set_cons_zero, List.set_cons_succ]
                            refine wpAnyH_done (by kernel_rfl) ?_ _
                            go_wp2_with (fail)
                            go_meet
                            exact ⟨by simp, hHeld, hWr⟩
      case rest =>
      obtain ⟨rfl, hB9, hW9⟩ := hcut
      clear d1 d2 d3 d4 d5
      generalize wc = w9 at *
      cases may
      case true =>
       as_aux_lemma =>
        generalize hS : ([x] ++ N ++ T ++ a ++ U ++ R ++ X) = S at *
        have lS : S.length ≤ 1000000000000 := by rw [← hS]; simp only [List.length_append, List.length_cons, List.length_nil]; omega
        have hge : wr.heap.size ≤ w9.heap.size := hB9.size
        obtain ⟨p2, hp2⟩ : ∃ p, p = 1 + N.length := ⟨_, rfl⟩
        obtain ⟨p3, hp3⟩ : ∃ p, p = p2 + T.length := ⟨_, rfl⟩
        obtain ⟨p4, hp4⟩ : ∃ p, p = p3 + 32 := ⟨_, rfl⟩
        obtain ⟨p5, hp5⟩ : ∃ p, p = p4 + 1 := ⟨_, rfl⟩
        obtain ⟨p6, hp6⟩ : ∃ p, p = p5 + R.length := ⟨_, rfl⟩
        obtain ⟨p7, hp7⟩ : ∃ p, p = p6 + X.length := ⟨_, rfl⟩
        have hSl : S.length = p7 := by rw [← hS]; simp only [List.length_append, List.length_cons, List.length_nil]; omega
        have e1 : ∀ g W, Rdr g S 0 0 W → Calls Try.prog 34 #[.pointer (some ⟨g, 0, none⟩)] W fun o w' => o = .returned (.int .u8 (ib x)) ∧ Step g S 1 0 W w' := fun g W h => by
          have := pkByteR_any g S 0 lS (Nat.zero_le _) W h
          rw [drop_at (a := 0) (pre := []) (seg := [x]) (post := N ++ (T ++ (a ++ (U ++ (R ++ X))))) (by rw [← hS]; simp) rfl, byteR_back] at this
          exact this
        obtain ⟨y, hy1, hy2, hy3⟩ := HNy.out (by trivial)
        have e2 : ∀ g W, Rdr g S 1 0 W → Calls Try.prog 35 #[.pointer (some ⟨g, 0, none⟩)] W fun o w' => o = .returned (.int .i64 v) ∧ Step g S p2 0 W w' := fun g W h => by
          have := pkNum_any g S 1 lS (by omega) W h
          rw [drop_at (a := 1) (pre := [x]) (seg := N) (post := T ++ (a ++ (U ++ (R ++ X)))) (by rw [← hS]; simp) rfl, hy1, scanN_back0 _ hy3, ← hy1] at this
          rw [hp2, hy2]
          exact this
        have e3 : ∀ g W, Rdr g S p2 0 W → Calls Try.prog 36 #[.pointer (some ⟨g, 0, none⟩), .int .i64 (s.length : Int)] W fun o w' => o = .returned (.string (txt s)) ∧ Step g S p3 0 W w' := fun g W h => by
          have := pkText_any g S p2 s.length lS (by omega) W h
          rw [drop_at (pre := [x] ++ N) (seg := T) (post := a ++ (U ++ (R ++ X))) (by rw [← hS]; simp) (by rw [hp2]; simp; omega), HT.out, textR_back _ s (by omega) (Int.le_refl _), ← HT.out] at this
          rw [hp3]
          exact this
        have e4 : ∀ g W, Rdr g S p3 0 W → Calls Try.prog 37 #[.pointer (some ⟨g, 0, none⟩)] W fun o w' => o = .returned (.agg (List.map u8v a).toArray) ∧ Step g S p4 0 W w' := fun g W h => by
          have := pkIdR_any g S p3 lS (by omega) W h
          rw [drop_at (pre := [x] ++ N ++ T) (seg := a) (post := U ++ (R ++ X)) (by rw [← hS]; simp) (by rw [hp3, hp2]; simp; omega), idR_back a ha] at this
          rw [hp4]
          exact this
        have e5 : ∀ g W, Rdr g S p4 0 W → Calls Try.prog 38 #[.pointer (some ⟨g, 0, none⟩)] W fun o w' => o = .returned (.bool t) ∧ Step g S p5 0 W w' := fun g W h => by
          have := pkTruthR_any g S p4 lS (by omega) W h
          rw [drop_at (pre := [x] ++ N ++ T ++ a) (seg := U) (post := R ++ X) (by rw [← hS]; simp) (by rw [hp4, hp3, hp2]; simp; omega), HU.out, truthR_back] at this
          rw [hp5]
          exact this
        have e6 : ∀ g W, Rdr g S p5 0 W → Calls Try.prog 39 #[.pointer (some ⟨g, 0, none⟩), .int .i64 (n : Int)] W fun o w' => ∃ A2 c2, o = .returned (.slice A2 n c2) ∧ RowR w' A2 n l ∧ Step g S p6 0 W w' := fun g W h => by
          have := pkIdsR_any g S p5 n lS (by omega) W h
          rw [drop_at (pre := [x] ++ N ++ T ++ a ++ U) (seg := R) (post := X) (by rw [← hS]; simp) (by rw [hp5, hp4, hp3, hp2]; simp; omega), HR.out, idsR_back n l (by rw [HL.out.1]; omega) (by rw [HL.out.1]; exact Int.le_refl _) HL.out.2.2.1, ← HR.out] at this
          refine this.mono ?_
          rintro o w' ⟨y, h1, ho, h32, _, hst⟩
          rw [HL.out.1] at ho
          obtain ⟨A2, c2, rfl, hrow⟩ := own_rowR ho h32 HL.out.2.1
          exact ⟨A2, c2, h1, hrow, by rw [hp6]; exact hst⟩
        have e7 : ∀ W A2 c2, RowR W A2 n l → Below wr.heap.size wr W → Calls Try.prog 10 #[.slice A2 n c2, .slice A n c] W fun o w' => o = .returned (.bool true) ∧ Below W.heap.size W w' := fun W A2 c2 h2 h3 => by
          have := rsame_any A2 A n c2 n c l l W h2 (HL.out.below (HXX.out.trans (h3.mono HXX.out.size)))
          rw [decide_eq_true rfl] at this
          exact this
        have e8 : ∀ g W, Rdr g S p6 0 W → Calls Try.prog 41 #[.pointer (some ⟨g, 0, none⟩), .int .i64 (k : Int), .int .i64 100] W fun o w' => ∃ B2 d2, o = .returned (.slice B2 k d2) ∧ Rd w' B2 (ms.map strV) ∧ Step g S p7 0 W w' := fun g W h => by
          have := pkTextsR_any g S p6 k 100 lS (by omega) W h
          rw [drop_at (pre := [x] ++ N ++ T ++ a ++ U ++ R) (seg := X) (post := []) (by rw [← hS]; simp) (by rw [hp6, hp5, hp4, hp3, hp2]; simp; omega), HXS.out, textsR_back k 100 ms (by rw [HHM.out]; omega) (by rw [HHM.out]; exact Int.le_refl _) (fun q hq => ⟨by have := H100.out q hq; omega, by have := H100.out q hq; omega⟩), ← HXS.out] at this
          refine this.mono ?_
          rintro o w' ⟨y, h1, ho, _, hst⟩
          rw [HHM.out] at ho
          obtain ⟨_, B2, d2, rfl, hrd⟩ := rowRd ho
          exact ⟨B2, d2, h1, hrd, by rw [hp7]; exact hst⟩
        have e9 : ∀ W B2 d2, Rd W B2 (ms.map strV) → Below wr.heap.size wr W → Calls Try.prog 40 #[.slice B2 k d2, .slice B k d] W fun o w' => o = .returned (.bool true) ∧ Below W.heap.size W w' := fun W B2 d2 h2 h3 => by
          have := same_any B2 B k k d2 d ms ms HHM.out HHM.out (by omega) (by omega) W h2 (HMR.out.below (HXX.out.trans (h3.mono HXX.out.size)))
          rw [decide_eq_true rfl] at this
          exact this
        have e10 : ∀ g W, Rdr g S p7 0 W → Calls Try.prog 42 #[.pointer (some ⟨g, 0, none⟩)] W fun o w' => o = .returned (.int .i64 0) ∧ Step g S p7 0 W w' := fun g W h => by
          have := pkEnd_any g S p7 0 (by omega) lS W h
          rw [show endE S p7 0 = 0 by unfold endE; rw [if_pos rfl, if_neg (by omega)]] at this
          exact this
        have heq : ∀ W, (Op.equalIn 10000 24 (.agg (List.map u8v a).toArray) (.agg (List.map u8v a).toArray)).run Try.prog W = .ok true W := fun W => (ids_eq W a a ha ha).trans (by rw [decide_eq_true rfl])
        obtain ⟨h300, hN20⟩ : s.length ≤ 300 ∧ True := ⟨h0, trivial⟩
        clear hp2 hp3 hp4 hp5 hp6 hp7 hS h0 h300 hN20
        go_wp2_with (first
          | (go_at_call 32; (with_reducible refine (c8 _ hW9).mono ?_); rintro o1 w1 ⟨rfl, rfl⟩)
          | (go_at_call 33; (with_reducible refine (pkNew_any S _).mono ?_); rintro o2 w2 ⟨rfl, hR2, hb2⟩; have hB2 := hB9.trans (hb2.mono hB9.size)))
        refine wp_region_held_drew (S := fun W => Below wr.heap.size wr W) (by kernel_rfl) (hB2.trans ((below_drew10 w2).mono hB2.size)) (fun hHeld => ?_)
        have hRd : Rdr w9.heap.size S 0 0 w2.drew := Blk.below hR2 (below_drew10 w2)
        generalize w2.drew = Wd at *
        generalize w9.heap.size = g at *
        refine' wpAnyH_take (i := 0) (v := .pointer (some ⟨g, 0, none⟩)) rfl (by kernel_rfl) (by kernel_rfl) (by kernel_rfl) (fun _ _ _ h => h) (Or.inl ⟨by rfl, fun w' hw' => by go_simp⟩) hHeld ?_
        try simp only [Act.put, List.getElem_toArray, List.getElem_cons_succ, List.getElem_cons_zero, List.setIfInBounds_toArray, List.set_cons_zero, List.set_cons_succ]
        refine' wpAnyH_take (i := 2) (v := .int .u8 (ib x)) rfl (by kernel_rfl) (by kernel_rfl) (by kernel_rfl) (fun _ _ _ h => h) (Or.inl ⟨by rfl, fun w' hw' => by go_simp⟩) hHeld ?_
        try simp only [Act.put, List.getElem_toArray, List.getElem_cons_succ, List.getElem_cons_zero, List.setIfInBounds_toArray, List.set_cons_zero, List.set_cons_succ]
        refine wpAnyH_ready (rs := [1]) (by kernel_rfl) (by simp) ?_
        refine AllReadyH.cons rfl (fun K hK => ?_) AllReadyH.nil
        go_simp
        (with_reducible refine (e1 _ _ hRd).mono ?_)
        rintro e Wr1 ⟨rfl, h1⟩
        have hL := pw_low hHeld hge h1
        replace hRd := h1.r
        clear h1
        refine hK.out _ _ hL (fun hHeld => ?_)
        clear hL hK K
        try simp only [Act.put, List.getElem_toArray, List.getElem_cons_succ, List.getElem_cons_zero, List.setIfInBounds_toArray, List.set_cons_zero, List.set_cons_succ]
        refine' wpAnyH_take (i := 3) (v := .bool false) rfl (by kernel_rfl) (by kernel_rfl) (by kernel_rfl) (fun _ _ _ h => h) (Or.inl ⟨by rfl, fun w' hw' => by go_simp⟩) hHeld ?_
        try simp only [Act.put, List.getElem_toArray, List.getElem_cons_succ, List.getElem_cons_zero, List.setIfInBounds_toArray, List.set_cons_zero, List.set_cons_succ]
        refine' wpAnyH_take (i := 4) (v := .bool false) rfl (by kernel_rfl) (by kernel_rfl) (by kernel_rfl) (fun _ _ _ h => h) (Or.inl ⟨by rfl, fun w' hw' => by go_simp⟩) hHeld ?_
        try simp only [Act.put, List.getElem_toArray, List.getElem_cons_succ, List.getElem_cons_zero, List.setIfInBounds_toArray, List.set_cons_zero, List.set_cons_succ]
        refine' wpAnyH_take (i := 5) (v := .bool true) rfl (by kernel_rfl) (by kernel_rfl) (by kernel_rfl) (fun _ _ _ h => h) (Or.inl ⟨by rfl, fun w' hw' => by go_simp⟩) hHeld ?_
        try simp only [Act.put, List.getElem_toArray, List.getElem_cons_succ, List.getElem_cons_zero, List.setIfInBounds_toArray, List.set_cons_zero, List.set_cons_succ]
        refine' wpAnyH_take (i := 6) (v := .bool true) rfl (by kernel_rfl) (by kernel_rfl) (by kernel_rfl) (fun _ _ _ h => h) (Or.inl ⟨by rfl, fun w' hw' => by go_simp⟩) hHeld ?_
        try simp only [Act.put, List.getElem_toArray, List.getElem_cons_succ, List.getElem_cons_zero, List.setIfInBounds_toArray, List.set_cons_zero, List.set_cons_succ]
        refine' wpAnyH_take (i := 7) (v := .pointer (some ⟨g, 0, none⟩)) rfl (by kernel_rfl) (by kernel_rfl) (by kernel_rfl) (fun _ _ _ h => h) (Or.inl ⟨by rfl, fun w' hw' => by go_simp⟩) hHeld ?_
        try simp only [Act.put, List.getElem_toArray, List.getElem_cons_succ, List.getElem_cons_zero, List.setIfInBounds_toArray, List.set_cons_zero, List.set_cons_succ]
        refine' wpAnyH_take (i := 9) (v := .int .i64 v) rfl (by kernel_rfl) (by kernel_rfl) (by kernel_rfl) (fun _ _ _ h => h) (Or.inl ⟨by rfl, fun w' hw' => by go_simp⟩) hHeld ?_
        try simp only [Act.put, List.getElem_toArray, List.getElem_cons_succ, List.getElem_cons_zero, List.setIfInBounds_toArray, List.set_cons_zero, List.set_cons_succ]
        refine wpAnyH_ready (rs := [8]) (by kernel_rfl) (by simp) ?_
        refine AllReadyH.cons rfl (fun K hK => ?_) AllReadyH.nil
        go_simp
        (with_reducible refine (e2 _ _ hRd).mono ?_)
        rintro e Wr2 ⟨rfl, h1⟩
        have hL := pw_low hHeld hge h1
        replace hRd := h1.r
        clear h1
        refine hK.out _ _ hL (fun hHeld => ?_)
        clear hL hK K
        try simp only [Act.put, List.getElem_toArray, List.getElem_cons_succ, List.getElem_cons_zero, List.setIfInBounds_toArray, List.set_cons_zero, List.set_cons_succ]
        refine' wpAnyH_take (i := 10) (v := .bool false) rfl (by kernel_rfl) (by kernel_rfl) (by kernel_rfl) (fun _ _ _ h => h) (Or.inl ⟨by rfl, fun w' hw' => by go_simp⟩) hHeld ?_
        try simp only [Act.put, List.getElem_toArray, List.getElem_cons_succ, List.getElem_cons_zero, List.setIfInBounds_toArray, List.set_cons_zero, List.set_cons_succ]
        refine' wpAnyH_take (i := 11) (v := .bool false) rfl (by kernel_rfl) (by kernel_rfl) (by kernel_rfl) (fun _ _ _ h => h) (Or.inl ⟨by rfl, fun w' hw' => by go_simp⟩) hHeld ?_
        try simp only [Act.put, List.getElem_toArray, List.getElem_cons_succ, List.getElem_cons_zero, List.setIfInBounds_toArray, List.set_cons_zero, List.set_cons_succ]
        refine' wpAnyH_take (i := 12) (v := .bool false) rfl (by kernel_rfl) (by kernel_rfl) (by kernel_rfl) (fun _ _ _ h => h) (Or.inl ⟨by rfl, fun w' hw' => by go_simp⟩) hHeld ?_
        try simp only [Act.put, List.getElem_toArray, List.getElem_cons_succ, List.getElem_cons_zero, List.setIfInBounds_toArray, List.set_cons_zero, List.set_cons_succ]
        refine' wpAnyH_take (i := 13) (v := .bool false) rfl (by kernel_rfl) (by kernel_rfl) (by kernel_rfl) (fun _ _ _ h => h) (Or.inl ⟨by rfl, fun w' hw' => by go_simp⟩) hHeld ?_
        try simp only [Act.put, List.getElem_toArray, List.getElem_cons_succ, List.getElem_cons_zero, List.setIfInBounds_toArray, List.set_cons_zero, List.set_cons_succ]
        refine' wpAnyH_take (i := 14) (v := .pointer (some ⟨g, 0, none⟩)) rfl (by kernel_rfl) (by kernel_rfl) (by kernel_rfl) (fun _ _ _ h => h) (Or.inl ⟨by rfl, fun w' hw' => by go_simp⟩) hHeld ?_
        try simp only [Act.put, List.getElem_toArray, List.getElem_cons_succ, List.getElem_cons_zero, List.setIfInBounds_toArray, List.set_cons_zero, List.set_cons_succ]
        refine' wpAnyH_take (i := 15) (v := .string (txt s)) rfl (by kernel_rfl) (by kernel_rfl) (by kernel_rfl) (fun _ _ _ h => h) (Or.inl ⟨by rfl, fun w' hw' => by go_simp⟩) hHeld ?_
        try simp only [Act.put, List.getElem_toArray, List.getElem_cons_succ, List.getElem_cons_zero, List.setIfInBounds_toArray, List.set_cons_zero, List.set_cons_succ]
        refine' wpAnyH_take (i := 16) (v := .int .i64 (s.length : Int)) rfl (by kernel_rfl) (by kernel_rfl) (by kernel_rfl) (fun _ _ _ h => h) (Or.inl ⟨by rfl, fun w' hw' => by go_simp⟩) hHeld ?_
        try simp only [Act.put, List.getElem_toArray, List.getElem_cons_succ, List.getElem_cons_zero, List.setIfInBounds_toArray, List.set_cons_zero, List.set_cons_succ]
        refine' wpAnyH_take (i := 18) (v := .string (txt s)) rfl (by kernel_rfl) (by kernel_rfl) (by kernel_rfl) (fun _ _ _ h => h) (Or.inl ⟨by rfl, fun w' hw' => by go_simp⟩) hHeld ?_
        try simp only [Act.put, List.getElem_toArray, List.getElem_cons_succ, List.getElem_cons_zero, List.setIfInBounds_toArray, List.set_cons_zero, List.set_cons_succ]
        refine wpAnyH_ready (rs := [17]) (by kernel_rfl) (by simp) ?_
        refine AllReadyH.cons rfl (fun K hK => ?_) AllReadyH.nil
        go_simp
        (with_reducible refine (e3 _ _ hRd).mono ?_)
        rintro e Wr3 ⟨rfl, h1⟩
        have hL := pw_low hHeld hge h1
        replace hRd := h1.r
        clear h1
        refine hK.out _ _ hL (fun hHeld => ?_)
        clear hL hK K
        try simp only [Act.put, List.getElem_toArray, List.getElem_cons_succ, List.getElem_cons_zero, List.setIfInBounds_toArray, List.set_cons_zero, List.set_cons_succ]
        refine' wpAnyH_take (i := 19) (v := .bool false) rfl (by kernel_rfl) (by kernel_rfl) (by kernel_rfl) (fun _ _ _ h => h) (Or.inl ⟨by rfl, fun w' hw' => by go_simp⟩) hHeld ?_
        try simp only [Act.put, List.getElem_toArray, List.getElem_cons_succ, List.getElem_cons_zero, List.setIfInBounds_toArray, List.set_cons_zero, List.set_cons_succ]
        refine' wpAnyH_take (i := 20) (v := .bool false) rfl (by kernel_rfl) (by kernel_rfl) (by kernel_rfl) (fun _ _ _ h => h) (Or.inl ⟨by rfl, fun w' hw' => by go_simp⟩) hHeld ?_
        try simp only [Act.put, List.getElem_toArray, List.getElem_cons_succ, List.getElem_cons_zero, List.setIfInBounds_toArray, List.set_cons_zero, List.set_cons_succ]
        refine' wpAnyH_take (i := 21) (v := .bool false) rfl (by kernel_rfl) (by kernel_rfl) (by kernel_rfl) (fun _ _ _ h => h) (Or.inl ⟨by rfl, fun w' hw' => by go_simp⟩) hHeld ?_
        try simp only [Act.put, List.getElem_toArray, List.getElem_cons_succ, List.getElem_cons_zero, List.setIfInBounds_toArray, List.set_cons_zero, List.set_cons_succ]
        refine' wpAnyH_take (i := 22) (v := .pointer (some ⟨g, 0, none⟩)) rfl (by kernel_rfl) (by kernel_rfl) (by kernel_rfl) (fun _ _ _ h => h) (Or.inl ⟨by rfl, fun w' hw' => by go_simp⟩) hHeld ?_
        try simp only [Act.put, List.getElem_toArray, List.getElem_cons_succ, List.getElem_cons_zero, List.setIfInBounds_toArray, List.set_cons_zero, List.set_cons_succ]
        refine' wpAnyH_take (i := 24) (v := _) rfl (by kernel_rfl) (by kernel_rfl) (by kernel_rfl) (fun _ _ _ h => h) (yieldsIf_load_mid (by rfl) 24 _ rfl _ _ rfl (a.map u8v) _ (fun w' h => hbx2 w' h) hu rfl hza) hHeld ?_
        try simp only [Act.put, List.getElem_toArray, List.getElem_cons_succ, List.getElem_cons_zero, List.setIfInBounds_toArray, List.set_cons_zero, List.set_cons_succ]
        refine wpAnyH_ready (rs := [23]) (by kernel_rfl) (by simp) ?_
        refine AllReadyH.cons rfl (fun K hK => ?_) AllReadyH.nil
        go_simp
        (with_reducible refine (e4 _ _ hRd).mono ?_)
        rintro e Wr4 ⟨rfl, h1⟩
        have hL := pw_low hHeld hge h1
        replace hRd := h1.r
        clear h1
        refine hK.out _ _ hL (fun hHeld => ?_)
        clear hL hK K
        try simp only [Act.put, List.getElem_toArray, List.getElem_cons_succ, List.getElem_cons_zero, List.setIfInBounds_toArray, List.set_cons_zero, List.set_cons_succ]
        refine' wpAnyH_take (i := 25) (v := .bool false) rfl (by kernel_rfl) (by kernel_rfl) (by kernel_rfl) (fun _ _ _ h => h) (Or.inl ⟨by rfl, fun w' hw' => by go_simp⟩) hHeld ?_
        try simp only [Act.put, List.getElem_toArray, List.getElem_cons_succ, List.getElem_cons_zero, List.setIfInBounds_toArray, List.set_cons_zero, List.set_cons_succ]
        refine' wpAnyH_take (i := 26) (v := .bool false) rfl (by kernel_rfl) (by kernel_rfl) (by kernel_rfl) (fun _ _ _ h => h) (Or.inl ⟨by rfl, fun w' hw' => by go_simp⟩) hHeld ?_
        try simp only [Act.put, List.getElem_toArray, List.getElem_cons_succ, List.getElem_cons_zero, List.setIfInBounds_toArray, List.set_cons_zero, List.set_cons_succ]
        refine' wpAnyH_take (i := 27) (v := .bool false) rfl (by kernel_rfl) (by kernel_rfl) (by kernel_rfl) (fun _ _ _ h => h) (Or.inl ⟨by rfl, fun w' hw' => by go_simp⟩) hHeld ?_
        try simp only [Act.put, List.getElem_toArray, List.getElem_cons_succ, List.getElem_cons_zero, List.setIfInBounds_toArray, List.set_cons_zero, List.set_cons_succ]
        refine' wpAnyH_take (i := 28) (v := .pointer (some ⟨g, 0, none⟩)) rfl (by kernel_rfl) (by kernel_rfl) (by kernel_rfl) (fun _ _ _ h => h) (Or.inl ⟨by rfl, fun w' hw' => by go_simp⟩) hHeld ?_
        try simp only [Act.put, List.getElem_toArray, List.getElem_cons_succ, List.getElem_cons_zero, List.setIfInBounds_toArray, List.set_cons_zero, List.set_cons_succ]
        refine' wpAnyH_take (i := 30) (v := .bool t) rfl (by kernel_rfl) (by kernel_rfl) (by kernel_rfl) (fun _ _ _ h => h) (Or.inl ⟨by rfl, fun w' hw' => by go_simp⟩) hHeld ?_
        try simp only [Act.put, List.getElem_toArray, List.getElem_cons_succ, List.getElem_cons_zero, List.setIfInBounds_toArray, List.set_cons_zero, List.set_cons_succ]
        refine wpAnyH_ready (rs := [29]) (by kernel_rfl) (by simp) ?_
        refine AllReadyH.cons rfl (fun K hK => ?_) AllReadyH.nil
        go_simp
        (with_reducible refine (e5 _ _ hRd).mono ?_)
        rintro e Wr5 ⟨rfl, h1⟩
        have hL := pw_low hHeld hge h1
        replace hRd := h1.r
        clear h1
        refine hK.out _ _ hL (fun hHeld => ?_)
        clear hL hK K
        try simp only [Act.put, List.getElem_toArray, List.getElem_cons_succ, List.getElem_cons_zero, List.setIfInBounds_toArray, List.set_cons_zero, List.set_cons_succ]
        refine' wpAnyH_take (i := 31) (v := .bool false) rfl (by kernel_rfl) (by kernel_rfl) (by kernel_rfl) (fun _ _ _ h => h) (Or.inl ⟨by rfl, fun w' hw' => by go_simp⟩) hHeld ?_
        try simp only [Act.put, List.getElem_toArray, List.getElem_cons_succ, List.getElem_cons_zero, List.setIfInBounds_toArray, List.set_cons_zero, List.set_cons_succ]
        refine' wpAnyH_take (i := 32) (v := .bool false) rfl (by kernel_rfl) (by kernel_rfl) (by kernel_rfl) (fun _ _ _ h => h) (Or.inl ⟨by rfl, fun w' hw' => by go_simp⟩) hHeld ?_
        try simp only [Act.put, List.getElem_toArray, List.getElem_cons_succ, List.getElem_cons_zero, List.setIfInBounds_toArray, List.set_cons_zero, List.set_cons_succ]
        refine' wpAnyH_take (i := 33) (v := .bool false) rfl (by kernel_rfl) (by kernel_rfl) (by kernel_rfl) (fun _ _ _ h => h) (Or.inl ⟨by rfl, fun w' hw' => by go_simp⟩) hHeld ?_
        try simp only [Act.put, List.getElem_toArray, List.getElem_cons_succ, List.getElem_cons_zero, List.setIfInBounds_toArray, List.set_cons_zero, List.set_cons_succ]
        refine' wpAnyH_take (i := 34) (v := .pointer (some ⟨g, 0, none⟩)) rfl (by kernel_rfl) (by kernel_rfl) (by kernel_rfl) (fun _ _ _ h => h) (Or.inl ⟨by rfl, fun w' hw' => by go_simp⟩) hHeld ?_
        try simp only [Act.put, List.getElem_toArray, List.getElem_cons_succ, List.getElem_cons_zero, List.setIfInBounds_toArray, List.set_cons_zero, List.set_cons_succ]
        refine' wpAnyH_take (i := 35) (v := .slice A n c) rfl (by kernel_rfl) (by kernel_rfl) (by kernel_rfl) (fun _ _ _ h => h) (Or.inl ⟨by rfl, fun w' hw' => by go_simp⟩) hHeld ?_
        try simp only [Act.put, List.getElem_toArray, List.getElem_cons_succ, List.getElem_cons_zero, List.setIfInBounds_toArray, List.set_cons_zero, List.set_cons_succ]
        refine' wpAnyH_take (i := 36) (v := .int .i64 (n : Int)) rfl (by kernel_rfl) (by kernel_rfl) (by kernel_rfl) (fun _ _ _ h => h) (Or.inl ⟨by rfl, fun w' hw' => by go_simp⟩) hHeld ?_
        try simp only [Act.put, List.getElem_toArray, List.getElem_cons_succ, List.getElem_cons_zero, List.setIfInBounds_toArray, List.set_cons_zero, List.set_cons_succ]
        refine' wpAnyH_take (i := 38) (v := .slice A n c) rfl (by kernel_rfl) (by kernel_rfl) (by kernel_rfl) (fun _ _ _ h => h) (Or.inl ⟨by rfl, fun w' hw' => by go_simp⟩) hHeld ?_
        try simp only [Act.put, List.getElem_toArray, List.getElem_cons_succ, List.getElem_cons_zero, List.setIfInBounds_toArray, List.set_cons_zero, List.set_cons_succ]
        refine wpAnyH_ready (rs := [37]) (by kernel_rfl) (by simp) ?_
        refine AllReadyH.cons rfl (fun K hK => ?_) AllReadyH.nil
        go_simp
        (with_reducible refine (e6 _ _ hRd).mono ?_)
        rintro e Wr6 ⟨A2, c2, rfl, hrow, h1⟩
        have hL := pw_low hHeld hge h1
        replace hRd := h1.r
        clear h1
        refine hK.out _ _ hL (fun hHeld => ?_)
        clear hL hK K
        try simp only [Act.put, List.getElem_toArray, List.getElem_cons_succ, List.getElem_cons_zero, List.setIfInBounds_toArray, List.set_cons_zero, List.set_cons_succ]
        refine wpAnyH_ready (rs := [39]) (by kernel_rfl) (by simp) ?_
        refine AllReadyH.cons rfl (fun K hK => ?_) AllReadyH.nil
        go_simp
        (with_reducible refine (e7 _ _ _ hrow hHeld).mono ?_)
        rintro e Wr7 ⟨rfl, hb⟩
        have hL := hHeld.trans (hb.mono hHeld.size)
        replace hRd : Rdr g S p6 0 _ := Blk.below hRd hb
        clear hb hrow
        refine hK.out _ _ hL (fun hHeld => ?_)
        clear hL hK K
        try simp only [Act.put, List.getElem_toArray, List.getElem_cons_succ, List.getElem_cons_zero, List.setIfInBounds_toArray, List.set_cons_zero, List.set_cons_succ]
        refine' wpAnyH_take (i := 40) (v := .bool false) rfl (by kernel_rfl) (by kernel_rfl) (by kernel_rfl) (fun _ _ _ h => h) (Or.inl ⟨by rfl, fun w' hw' => by go_simp⟩) hHeld ?_
        try simp only [Act.put, List.getElem_toArray, List.getElem_cons_succ, List.getElem_cons_zero, List.setIfInBounds_toArray, List.set_cons_zero, List.set_cons_succ]
        refine' wpAnyH_take (i := 41) (v := .bool false) rfl (by kernel_rfl) (by kernel_rfl) (by kernel_rfl) (fun _ _ _ h => h) (Or.inl ⟨by rfl, fun w' hw' => by go_simp⟩) hHeld ?_
        try simp only [Act.put, List.getElem_toArray, List.getElem_cons_succ, List.getElem_cons_zero, List.setIfInBounds_toArray, List.set_cons_zero, List.set_cons_succ]
        refine' wpAnyH_take (i := 42) (v := .bool false) rfl (by kernel_rfl) (by kernel_rfl) (by kernel_rfl) (fun _ _ _ h => h) (Or.inl ⟨by rfl, fun w' hw' => by go_simp⟩) hHeld ?_
        try simp only [Act.put, List.getElem_toArray, List.getElem_cons_succ, List.getElem_cons_zero, List.setIfInBounds_toArray, List.set_cons_zero, List.set_cons_succ]
        refine' wpAnyH_take (i := 43) (v := .pointer (some ⟨g, 0, none⟩)) rfl (by kernel_rfl) (by kernel_rfl) (by kernel_rfl) (fun _ _ _ h => h) (Or.inl ⟨by rfl, fun w' hw' => by go_simp⟩) hHeld ?_
        try simp only [Act.put, List.getElem_toArray, List.getElem_cons_succ, List.getElem_cons_zero, List.setIfInBounds_toArray, List.set_cons_zero, List.set_cons_succ]
        refine' wpAnyH_take (i := 44) (v := .slice B k d) rfl (by kernel_rfl) (by kernel_rfl) (by kernel_rfl) (fun _ _ _ h => h) (Or.inl ⟨by rfl, fun w' hw' => by go_simp⟩) hHeld ?_
        try simp only [Act.put, List.getElem_toArray, List.getElem_cons_succ, List.getElem_cons_zero, List.setIfInBounds_toArray, List.set_cons_zero, List.set_cons_succ]
        refine' wpAnyH_take (i := 45) (v := .int .i64 (k : Int)) rfl (by kernel_rfl) (by kernel_rfl) (by kernel_rfl) (fun _ _ _ h => h) (Or.inl ⟨by rfl, fun w' hw' => by go_simp⟩) hHeld ?_
        try simp only [Act.put, List.getElem_toArray, List.getElem_cons_succ, List.getElem_cons_zero, List.setIfInBounds_toArray, List.set_cons_zero, List.set_cons_succ]
        refine' wpAnyH_take (i := 47) (v := .slice B k d) rfl (by kernel_rfl) (by kernel_rfl) (by kernel_rfl) (fun _ _ _ h => h) (Or.inl ⟨by rfl, fun w' hw' => by go_simp⟩) hHeld ?_
        try simp only [Act.put, List.getElem_toArray, List.getElem_cons_succ, List.getElem_cons_zero, List.setIfInBounds_toArray, List.set_cons_zero, List.set_cons_succ]
        refine wpAnyH_ready (rs := [46]) (by kernel_rfl) (by simp) ?_
        refine AllReadyH.cons rfl (fun K hK => ?_) AllReadyH.nil
        go_simp
        (with_reducible refine (e8 _ _ hRd).mono ?_)
        rintro e Wr8 ⟨B2, d2, rfl, hrow, h1⟩
        have hL := pw_low hHeld hge h1
        replace hRd := h1.r
        clear h1
        refine hK.out _ _ hL (fun hHeld => ?_)
        clear hL hK K
        try simp only [Act.put, List.getElem_toArray, List.getElem_cons_succ, List.getElem_cons_zero, List.setIfInBounds_toArray, List.set_cons_zero, List.set_cons_succ]
        refine wpAnyH_ready (rs := [48]) (by kernel_rfl) (by simp) ?_
        refine AllReadyH.cons rfl (fun K hK => ?_) AllReadyH.nil
        go_simp
        (with_reducible refine (e9 _ _ _ hrow hHeld).mono ?_)
        rintro e Wr9 ⟨rfl, hb⟩
        have hL := hHeld.trans (hb.mono hHeld.size)
        replace hRd : Rdr g S p7 0 _ := Blk.below hRd hb
        clear hb hrow
        refine hK.out _ _ hL (fun hHeld => ?_)
        clear hL hK K
        try simp only [Act.put, List.getElem_toArray, List.getElem_cons_succ, List.getElem_cons_zero, List.setIfInBounds_toArray, List.set_cons_zero, List.set_cons_succ]
        refine' wpAnyH_take (i := 49) (v := .bool false) rfl (by kernel_rfl) (by kernel_rfl) (by kernel_rfl) (fun _ _ _ h => h) (Or.inl ⟨by rfl, fun w' hw' => by go_simp⟩) hHeld ?_
        try simp only [Act.put, List.getElem_toArray, List.getElem_cons_succ, List.getElem_cons_zero, List.setIfInBounds_toArray, List.set_cons_zero, List.set_cons_succ]
        refine' wpAnyH_take (i := 50) (v := .bool false) rfl (by kernel_rfl) (by kernel_rfl) (by kernel_rfl) (fun _ _ _ h => h) (Or.inl ⟨by rfl, fun w' hw' => by go_simp⟩) hHeld ?_
        try simp only [Act.put, List.getElem_toArray, List.getElem_cons_succ, List.getElem_cons_zero, List.setIfInBounds_toArray, List.set_cons_zero, List.set_cons_succ]
        refine wpAnyH_done (by kernel_rfl) ?_ _
        clear heq e1 e3 e4 e5 e6 e7 e8 e9
        go_wp2_with (first
          | (go_at_call 42; (with_reducible refine (e10 _ _ hRd).mono ?_); rintro o3 w3 ⟨rfl, h3⟩; have hL3 := pw_low hHeld hge h3; have hR3 := h3.r)
          | (go_at_call 43; (with_reducible refine (pkPlace_any _ _ _ _ _ hR3).mono ?_); rintro o4 w4 ⟨rfl, rfl⟩)
          | (go_at_call 18; (with_reducible refine (awake5_any _).mono ?_); rintro o5 w5 ⟨rfl, hb5⟩; have hL5 := HXX.out.trans ((hL3.trans (hb5.mono hL3.size)).mono HXX.out.size)))
        go_ret
        exact ⟨rfl, hL5⟩
      case false =>
       as_aux_lemma =>
        generalize hS : ([x] ++ N ++ T ++ a ++ U ++ R ++ X) = S at *
        have lS : S.length ≤ 1000000000000 := by rw [← hS]; simp only [List.length_append, List.length_cons, List.length_nil]; omega
        have hge : wr.heap.size ≤ w9.heap.size := hB9.size
        obtain ⟨p2, hp2⟩ : ∃ p, p = 1 + N.length := ⟨_, rfl⟩
        obtain ⟨p3, hp3⟩ : ∃ p, p = p2 + T.length := ⟨_, rfl⟩
        obtain ⟨p4, hp4⟩ : ∃ p, p = p3 + 32 := ⟨_, rfl⟩
        obtain ⟨p5, hp5⟩ : ∃ p, p = p4 + 1 := ⟨_, rfl⟩
        obtain ⟨p6, hp6⟩ : ∃ p, p = p5 + R.length := ⟨_, rfl⟩
        obtain ⟨p7, hp7⟩ : ∃ p, p = p6 + X.length := ⟨_, rfl⟩
        have hSl : S.length = p7 := by rw [← hS]; simp only [List.length_append, List.length_cons, List.length_nil]; omega
        have hp21 : p2 = 1 := by rw [hp2, HNo.out (by trivial)]; rfl
        have e1 : ∀ g W, Rdr g S 0 0 W → Calls Try.prog 34 #[.pointer (some ⟨g, 0, none⟩)] W fun o w' => o = .returned (.int .u8 (ib x)) ∧ Step g S 1 0 W w' := fun g W h => by
          have := pkByteR_any g S 0 lS (Nat.zero_le _) W h
          rw [drop_at (a := 0) (pre := []) (seg := [x]) (post := N ++ (T ++ (a ++ (U ++ (R ++ X))))) (by rw [← hS]; simp) rfl, byteR_back] at this
          exact this
        have e3 : ∀ g W, Rdr g S p2 0 W → Calls Try.prog 36 #[.pointer (some ⟨g, 0, none⟩), .int .i64 (s.length : Int)] W fun o w' => o = .returned (.string (txt s)) ∧ Step g S p3 0 W w' := fun g W h => by
          have := pkText_any g S p2 s.length lS (by omega) W h
          rw [drop_at (pre := [x] ++ N) (seg := T) (post := a ++ (U ++ (R ++ X))) (by rw [← hS]; simp) (by rw [hp2]; simp; omega), HT.out, textR_back _ s (by omega) (Int.le_refl _), ← HT.out] at this
          rw [hp3]
          exact this
        have e4 : ∀ g W, Rdr g S p3 0 W → Calls Try.prog 37 #[.pointer (some ⟨g, 0, none⟩)] W fun o w' => o = .returned (.agg (List.map u8v a).toArray) ∧ Step g S p4 0 W w' := fun g W h => by
          have := pkIdR_any g S p3 lS (by omega) W h
          rw [drop_at (pre := [x] ++ N ++ T) (seg := a) (post := U ++ (R ++ X)) (by rw [← hS]; simp) (by rw [hp3, hp2]; simp; omega), idR_back a ha] at this
          rw [hp4]
          exact this
        have e5 : ∀ g W, Rdr g S p4 0 W → Calls Try.prog 38 #[.pointer (some ⟨g, 0, none⟩)] W fun o w' => o = .returned (.bool t) ∧ Step g S p5 0 W w' := fun g W h => by
          have := pkTruthR_any g S p4 lS (by omega) W h
          rw [drop_at (pre := [x] ++ N ++ T ++ a) (seg := U) (post := R ++ X) (by rw [← hS]; simp) (by rw [hp4, hp3, hp2]; simp; omega), HU.out, truthR_back] at this
          rw [hp5]
          exact this
        have e6 : ∀ g W, Rdr g S p5 0 W → Calls Try.prog 39 #[.pointer (some ⟨g, 0, none⟩), .int .i64 (n : Int)] W fun o w' => ∃ A2 c2, o = .returned (.slice A2 n c2) ∧ RowR w' A2 n l ∧ Step g S p6 0 W w' := fun g W h => by
          have := pkIdsR_any g S p5 n lS (by omega) W h
          rw [drop_at (pre := [x] ++ N ++ T ++ a ++ U) (seg := R) (post := X) (by rw [← hS]; simp) (by rw [hp5, hp4, hp3, hp2]; simp; omega), HR.out, idsR_back n l (by rw [HL.out.1]; omega) (by rw [HL.out.1]; exact Int.le_refl _) HL.out.2.2.1, ← HR.out] at this
          refine this.mono ?_
          rintro o w' ⟨y, h1, ho, h32, _, hst⟩
          rw [HL.out.1] at ho
          obtain ⟨A2, c2, rfl, hrow⟩ := own_rowR ho h32 HL.out.2.1
          exact ⟨A2, c2, h1, hrow, by rw [hp6]; exact hst⟩
        have e7 : ∀ W A2 c2, RowR W A2 n l → Below wr.heap.size wr W → Calls Try.prog 10 #[.slice A2 n c2, .slice A n c] W fun o w' => o = .returned (.bool true) ∧ Below W.heap.size W w' := fun W A2 c2 h2 h3 => by
          have := rsame_any A2 A n c2 n c l l W h2 (HL.out.below (HXX.out.trans (h3.mono HXX.out.size)))
          rw [decide_eq_true rfl] at this
          exact this
        have e8 : ∀ g W, Rdr g S p6 0 W → Calls Try.prog 41 #[.pointer (some ⟨g, 0, none⟩), .int .i64 (k : Int), .int .i64 100] W fun o w' => ∃ B2 d2, o = .returned (.slice B2 k d2) ∧ Rd w' B2 (ms.map strV) ∧ Step g S p7 0 W w' := fun g W h => by
          have := pkTextsR_any g S p6 k 100 lS (by omega) W h
          rw [drop_at (pre := [x] ++ N ++ T ++ a ++ U ++ R) (seg := X) (post := []) (by rw [← hS]; simp) (by rw [hp6, hp5, hp4, hp3, hp2]; simp; omega), HXS.out, textsR_back k 100 ms (by rw [HHM.out]; omega) (by rw [HHM.out]; exact Int.le_refl _) (fun q hq => ⟨by have := H100.out q hq; omega, by have := H100.out q hq; omega⟩), ← HXS.out] at this
          refine this.mono ?_
          rintro o w' ⟨y, h1, ho, _, hst⟩
          rw [HHM.out] at ho
          obtain ⟨_, B2, d2, rfl, hrd⟩ := rowRd ho
          exact ⟨B2, d2, h1, hrd, by rw [hp7]; exact hst⟩
        have e9 : ∀ W B2 d2, Rd W B2 (ms.map strV) → Below wr.heap.size wr W → Calls Try.prog 40 #[.slice B2 k d2, .slice B k d] W fun o w' => o = .returned (.bool true) ∧ Below W.heap.size W w' := fun W B2 d2 h2 h3 => by
          have := same_any B2 B k k d2 d ms ms HHM.out HHM.out (by omega) (by omega) W h2 (HMR.out.below (HXX.out.trans (h3.mono HXX.out.size)))
          rw [decide_eq_true rfl] at this
          exact this
        have e10 : ∀ g W, Rdr g S p7 0 W → Calls Try.prog 42 #[.pointer (some ⟨g, 0, none⟩)] W fun o w' => o = .returned (.int .i64 0) ∧ Step g S p7 0 W w' := fun g W h => by
          have := pkEnd_any g S p7 0 (by omega) lS W h
          rw [show endE S p7 0 = 0 by unfold endE; rw [if_pos rfl, if_neg (by omega)]] at this
          exact this
        have heq : ∀ W, (Op.equalIn 10000 24 (.agg (List.map u8v a).toArray) (.agg (List.map u8v a).toArray)).run Try.prog W = .ok true W := fun W => (ids_eq W a a ha ha).trans (by rw [decide_eq_true rfl])
        obtain ⟨h300, hN20⟩ : s.length ≤ 300 ∧ True := ⟨h0, trivial⟩
        clear hp2 hp3 hp4 hp5 hp6 hp7 hS h0 h300 hN20
        subst hp21
        go_wp2_with (first
          | (go_at_call 32; (with_reducible refine (c8 _ hW9).mono ?_); rintro o1 w1 ⟨rfl, rfl⟩)
          | (go_at_call 33; (with_reducible refine (pkNew_any S _).mono ?_); rintro o2 w2 ⟨rfl, hR2, hb2⟩; have hB2 := hB9.trans (hb2.mono hB9.size)))
        refine wp_region_held_drew (S := fun W => Below wr.heap.size wr W) (by kernel_rfl) (hB2.trans ((below_drew10 w2).mono hB2.size)) (fun hHeld => ?_)
        have hRd : Rdr w9.heap.size S 0 0 w2.drew := Blk.below hR2 (below_drew10 w2)
        generalize w2.drew = Wd at *
        generalize w9.heap.size = g at *
        refine' wpAnyH_take (i := 0) (v := .pointer (some ⟨g, 0, none⟩)) rfl (by kernel_rfl) (by kernel_rfl) (by kernel_rfl) (fun _ _ _ h => h) (Or.inl ⟨by rfl, fun w' hw' => by go_simp⟩) hHeld ?_
        try simp only [Act.put, List.getElem_toArray, List.getElem_cons_succ, List.getElem_cons_zero, List.setIfInBounds_toArray, List.set_cons_zero, List.set_cons_succ]
        refine' wpAnyH_take (i := 2) (v := .int .u8 (ib x)) rfl (by kernel_rfl) (by kernel_rfl) (by kernel_rfl) (fun _ _ _ h => h) (Or.inl ⟨by rfl, fun w' hw' => by go_simp⟩) hHeld ?_
        try simp only [Act.put, List.getElem_toArray, List.getElem_cons_succ, List.getElem_cons_zero, List.setIfInBounds_toArray, List.set_cons_zero, List.set_cons_succ]
        refine wpAnyH_ready (rs := [1]) (by kernel_rfl) (by simp) ?_
        refine AllReadyH.cons rfl (fun K hK => ?_) AllReadyH.nil
        go_simp
        (with_reducible refine (e1 _ _ hRd).mono ?_)
        rintro e Wr1 ⟨rfl, h1⟩
        have hL := pw_low hHeld hge h1
        replace hRd := h1.r
        clear h1
        refine hK.out _ _ hL (fun hHeld => ?_)
        clear hL hK K
        try simp only [Act.put, List.getElem_toArray, List.getElem_cons_succ, List.getElem_cons_zero, List.setIfInBounds_toArray, List.set_cons_zero, List.set_cons_succ]
        refine' wpAnyH_take (i := 3) (v := .bool false) rfl (by kernel_rfl) (by kernel_rfl) (by kernel_rfl) (fun _ _ _ h => h) (Or.inl ⟨by rfl, fun w' hw' => by go_simp⟩) hHeld ?_
        try simp only [Act.put, List.getElem_toArray, List.getElem_cons_succ, List.getElem_cons_zero, List.setIfInBounds_toArray, List.set_cons_zero, List.set_cons_succ]
        refine' wpAnyH_take (i := 4) (v := .bool false) rfl (by kernel_rfl) (by kernel_rfl) (by kernel_rfl) (fun _ _ _ h => h) (Or.inl ⟨by rfl, fun w' hw' => by go_simp⟩) hHeld ?_
        try simp only [Act.put, List.getElem_toArray, List.getElem_cons_succ, List.getElem_cons_zero, List.setIfInBounds_toArray, List.set_cons_zero, List.set_cons_succ]
        refine' wpAnyH_take (i := 5) (v := .bool false) rfl (by kernel_rfl) (by kernel_rfl) (by kernel_rfl) (fun _ _ _ h => h) (Or.inl ⟨by rfl, fun w' hw' => by go_simp⟩) hHeld ?_
        try simp only [Act.put, List.getElem_toArray, List.getElem_cons_succ, List.getElem_cons_zero, List.setIfInBounds_toArray, List.set_cons_zero, List.set_cons_succ]
        refine' wpAnyH_take (i := 6) (v := .bool false) rfl (by kernel_rfl) (by kernel_rfl) (by kernel_rfl) (fun _ _ _ h => h) (Or.inl ⟨by rfl, fun w' hw' => by go_simp⟩) hHeld ?_
        try simp only [Act.put, List.getElem_toArray, List.getElem_cons_succ, List.getElem_cons_zero, List.setIfInBounds_toArray, List.set_cons_zero, List.set_cons_succ]
        refine' wpAnyH_take (i := 7) (v := undef) rfl (by kernel_rfl) (by kernel_rfl) (by kernel_rfl) (fun _ _ _ h => h) (Or.inr ⟨by rfl, rfl⟩) hHeld ?_
        try simp only [Act.put, List.getElem_toArray, List.getElem_cons_succ, List.getElem_cons_zero, List.setIfInBounds_toArray, List.set_cons_zero, List.set_cons_succ]
        refine' wpAnyH_take (i := 8) (v := undef) rfl (by kernel_rfl) (by kernel_rfl) (by kernel_rfl) (fun _ _ _ h => h) (Or.inr ⟨by rfl, rfl⟩) hHeld ?_
        try simp only [Act.put, List.getElem_toArray, List.getElem_cons_succ, List.getElem_cons_zero, List.setIfInBounds_toArray, List.set_cons_zero, List.set_cons_succ]
        refine' wpAnyH_take (i := 9) (v := undef) rfl (by kernel_rfl) (by kernel_rfl) (by kernel_rfl) (fun _ _ _ h => h) (Or.inr ⟨by rfl, rfl⟩) hHeld ?_
        try simp only [Act.put, List.getElem_toArray, List.getElem_cons_succ, List.getElem_cons_zero, List.setIfInBounds_toArray, List.set_cons_zero, List.set_cons_succ]
        refine' wpAnyH_take (i := 10) (v := undef) rfl (by kernel_rfl) (by kernel_rfl) (by kernel_rfl) (fun _ _ _ h => h) (Or.inr ⟨by rfl, rfl⟩) hHeld ?_
        try simp only [Act.put, List.getElem_toArray, List.getElem_cons_succ, List.getElem_cons_zero, List.setIfInBounds_toArray, List.set_cons_zero, List.set_cons_succ]
        refine' wpAnyH_take (i := 11) (v := .bool false) rfl (by kernel_rfl) (by kernel_rfl) (by kernel_rfl) (fun _ _ _ h => h) (Or.inl ⟨by rfl, fun w' hw' => by go_simp⟩) hHeld ?_
        try simp only [Act.put, List.getElem_toArray, List.getElem_cons_succ, List.getElem_cons_zero, List.setIfInBounds_toArray, List.set_cons_zero, List.set_cons_succ]
        refine' wpAnyH_take (i := 12) (v := .bool false) rfl (by kernel_rfl) (by kernel_rfl) (by kernel_rfl) (fun _ _ _ h => h) (Or.inl ⟨by rfl, fun w' hw' => by go_simp⟩) hHeld ?_
        try simp only [Act.put, List.getElem_toArray, List.getElem_cons_succ, List.getElem_cons_zero, List.setIfInBounds_toArray, List.set_cons_zero, List.set_cons_succ]
        refine' wpAnyH_take (i := 13) (v := .bool false) rfl (by kernel_rfl) (by kernel_rfl) (by kernel_rfl) (fun _ _ _ h => h) (Or.inl ⟨by rfl, fun w' hw' => by go_simp⟩) hHeld ?_
        try simp only [Act.put, List.getElem_toArray, List.getElem_cons_succ, List.getElem_cons_zero, List.setIfInBounds_toArray, List.set_cons_zero, List.set_cons_succ]
        refine' wpAnyH_take (i := 14) (v := .pointer (some ⟨g, 0, none⟩)) rfl (by kernel_rfl) (by kernel_rfl) (by kernel_rfl) (fun _ _ _ h => h) (Or.inl ⟨by rfl, fun w' hw' => by go_simp⟩) hHeld ?_
        try simp only [Act.put, List.getElem_toArray, List.getElem_cons_succ, List.getElem_cons_zero, List.setIfInBounds_toArray, List.set_cons_zero, List.set_cons_succ]
        refine' wpAnyH_take (i := 15) (v := .string (txt s)) rfl (by kernel_rfl) (by kernel_rfl) (by kernel_rfl) (fun _ _ _ h => h) (Or.inl ⟨by rfl, fun w' hw' => by go_simp⟩) hHeld ?_
        try simp only [Act.put, List.getElem_toArray, List.getElem_cons_succ, List.getElem_cons_zero, List.setIfInBounds_toArray, List.set_cons_zero, List.set_cons_succ]
        refine' wpAnyH_take (i := 16) (v := .int .i64 (s.length : Int)) rfl (by kernel_rfl) (by kernel_rfl) (by kernel_rfl) (fun _ _ _ h => h) (Or.inl ⟨by rfl, fun w' hw' => by go_simp⟩) hHeld ?_
        try simp only [Act.put, List.getElem_toArray, List.getElem_cons_succ, List.getElem_cons_zero, List.setIfInBounds_toArray, List.set_cons_zero, List.set_cons_succ]
        refine' wpAnyH_take (i := 18) (v := .string (txt s)) rfl (by kernel_rfl) (by kernel_rfl) (by kernel_rfl) (fun _ _ _ h => h) (Or.inl ⟨by rfl, fun w' hw' => by go_simp⟩) hHeld ?_
        try simp only [Act.put, List.getElem_toArray, List.getElem_cons_succ, List.getElem_cons_zero, List.setIfInBounds_toArray, List.set_cons_zero, List.set_cons_succ]
        refine wpAnyH_ready (rs := [17]) (by kernel_rfl) (by simp) ?_
        refine AllReadyH.cons rfl (fun K hK => ?_) AllReadyH.nil
        go_simp
        (with_reducible refine (e3 _ _ hRd).mono ?_)
        rintro e Wr2 ⟨rfl, h1⟩
        have hL := pw_low hHeld hge h1
        replace hRd := h1.r
        clear h1
        refine hK.out _ _ hL (fun hHeld => ?_)
        clear hL hK K
        try simp only [Act.put, List.getElem_toArray, List.getElem_cons_succ, List.getElem_cons_zero, List.setIfInBounds_toArray, List.set_cons_zero, List.set_cons_succ]
        refine' wpAnyH_take (i := 19) (v := .bool false) rfl (by kernel_rfl) (by kernel_rfl) (by kernel_rfl) (fun _ _ _ h => h) (Or.inl ⟨by rfl, fun w' hw' => by go_simp⟩) hHeld ?_
        try simp only [Act.put, List.getElem_toArray, List.getElem_cons_succ, List.getElem_cons_zero, List.setIfInBounds_toArray, List.set_cons_zero, List.set_cons_succ]
        refine' wpAnyH_take (i := 20) (v := .bool false) rfl (by kernel_rfl) (by kernel_rfl) (by kernel_rfl) (fun _ _ _ h => h) (Or.inl ⟨by rfl, fun w' hw' => by go_simp⟩) hHeld ?_
        try simp only [Act.put, List.getElem_toArray, List.getElem_cons_succ, List.getElem_cons_zero, List.setIfInBounds_toArray, List.set_cons_zero, List.set_cons_succ]
        refine' wpAnyH_take (i := 21) (v := .bool false) rfl (by kernel_rfl) (by kernel_rfl) (by kernel_rfl) (fun _ _ _ h => h) (Or.inl ⟨by rfl, fun w' hw' => by go_simp⟩) hHeld ?_
        try simp only [Act.put, List.getElem_toArray, List.getElem_cons_succ, List.getElem_cons_zero, List.setIfInBounds_toArray, List.set_cons_zero, List.set_cons_succ]
        refine' wpAnyH_take (i := 22) (v := .pointer (some ⟨g, 0, none⟩)) rfl (by kernel_rfl) (by kernel_rfl) (by kernel_rfl) (fun _ _ _ h => h) (Or.inl ⟨by rfl, fun w' hw' => by go_simp⟩) hHeld ?_
        try simp only [Act.put, List.getElem_toArray, List.getElem_cons_succ, List.getElem_cons_zero, List.setIfInBounds_toArray, List.set_cons_zero, List.set_cons_succ]
        refine' wpAnyH_take (i := 24) (v := _) rfl (by kernel_rfl) (by kernel_rfl) (by kernel_rfl) (fun _ _ _ h => h) (yieldsIf_load_mid (by rfl) 24 _ rfl _ _ rfl (a.map u8v) _ (fun w' h => hbx2 w' h) hu rfl hza) hHeld ?_
        try simp only [Act.put, List.getElem_toArray, List.getElem_cons_succ, List.getElem_cons_zero, List.setIfInBounds_toArray, List.set_cons_zero, List.set_cons_succ]
        refine wpAnyH_ready (rs := [23]) (by kernel_rfl) (by simp) ?_
        refine AllReadyH.cons rfl (fun K hK => ?_) AllReadyH.nil
        go_simp
        (with_reducible refine (e4 _ _ hRd).mono ?_)
        rintro e Wr3 ⟨rfl, h1⟩
        have hL := pw_low hHeld hge h1
        replace hRd := h1.r
        clear h1
        refine hK.out _ _ hL (fun hHeld => ?_)
        clear hL hK K
        try simp only [Act.put, List.getElem_toArray, List.getElem_cons_succ, List.getElem_cons_zero, List.setIfInBounds_toArray, List.set_cons_zero, List.set_cons_succ]
        refine' wpAnyH_take (i := 25) (v := .bool false) rfl (by kernel_rfl) (by kernel_rfl) (by kernel_rfl) (fun _ _ _ h => h) (Or.inl ⟨by rfl, fun w' hw' => by go_simp⟩) hHeld ?_
        try simp only [Act.put, List.getElem_toArray, List.getElem_cons_succ, List.getElem_cons_zero, List.setIfInBounds_toArray, List.set_cons_zero, List.set_cons_succ]
        refine' wpAnyH_take (i := 26) (v := .bool false) rfl (by kernel_rfl) (by kernel_rfl) (by kernel_rfl) (fun _ _ _ h => h) (Or.inl ⟨by rfl, fun w' hw' => by go_simp⟩) hHeld ?_
        try simp only [Act.put, List.getElem_toArray, List.getElem_cons_succ, List.getElem_cons_zero, List.setIfInBounds_toArray, List.set_cons_zero, List.set_cons_succ]
        refine' wpAnyH_take (i := 27) (v := .bool false) rfl (by kernel_rfl) (by kernel_rfl) (by kernel_rfl) (fun _ _ _ h => h) (Or.inl ⟨by rfl, fun w' hw' => by go_simp⟩) hHeld ?_
        try simp only [Act.put, List.getElem_toArray, List.getElem_cons_succ, List.getElem_cons_zero, List.setIfInBounds_toArray, List.set_cons_zero, List.set_cons_succ]
        refine' wpAnyH_take (i := 28) (v := .pointer (some ⟨g, 0, none⟩)) rfl (by kernel_rfl) (by kernel_rfl) (by kernel_rfl) (fun _ _ _ h => h) (Or.inl ⟨by rfl, fun w' hw' => by go_simp⟩) hHeld ?_
        try simp only [Act.put, List.getElem_toArray, List.getElem_cons_succ, List.getElem_cons_zero, List.setIfInBounds_toArray, List.set_cons_zero, List.set_cons_succ]
        refine' wpAnyH_take (i := 30) (v := .bool t) rfl (by kernel_rfl) (by kernel_rfl) (by kernel_rfl) (fun _ _ _ h => h) (Or.inl ⟨by rfl, fun w' hw' => by go_simp⟩) hHeld ?_
        try simp only [Act.put, List.getElem_toArray, List.getElem_cons_succ, List.getElem_cons_zero, List.setIfInBounds_toArray, List.set_cons_zero, List.set_cons_succ]
        refine wpAnyH_ready (rs := [29]) (by kernel_rfl) (by simp) ?_
        refine AllReadyH.cons rfl (fun K hK => ?_) AllReadyH.nil
        go_simp
        (with_reducible refine (e5 _ _ hRd).mono ?_)
        rintro e Wr4 ⟨rfl, h1⟩
        have hL := pw_low hHeld hge h1
        replace hRd := h1.r
        clear h1
        refine hK.out _ _ hL (fun hHeld => ?_)
        clear hL hK K
        try simp only [Act.put, List.getElem_toArray, List.getElem_cons_succ, List.getElem_cons_zero, List.setIfInBounds_toArray, List.set_cons_zero, List.set_cons_succ]
        refine' wpAnyH_take (i := 31) (v := .bool false) rfl (by kernel_rfl) (by kernel_rfl) (by kernel_rfl) (fun _ _ _ h => h) (Or.inl ⟨by rfl, fun w' hw' => by go_simp⟩) hHeld ?_
        try simp only [Act.put, List.getElem_toArray, List.getElem_cons_succ, List.getElem_cons_zero, List.setIfInBounds_toArray, List.set_cons_zero, List.set_cons_succ]
        refine' wpAnyH_take (i := 32) (v := .bool false) rfl (by kernel_rfl) (by kernel_rfl) (by kernel_rfl) (fun _ _ _ h => h) (Or.inl ⟨by rfl, fun w' hw' => by go_simp⟩) hHeld ?_
        try simp only [Act.put, List.getElem_toArray, List.getElem_cons_succ, List.getElem_cons_zero, List.setIfInBounds_toArray, List.set_cons_zero, List.set_cons_succ]
        refine' wpAnyH_take (i := 33) (v := .bool false) rfl (by kernel_rfl) (by kernel_rfl) (by kernel_rfl) (fun _ _ _ h => h) (Or.inl ⟨by rfl, fun w' hw' => by go_simp⟩) hHeld ?_
        try simp only [Act.put, List.getElem_toArray, List.getElem_cons_succ, List.getElem_cons_zero, List.setIfInBounds_toArray, List.set_cons_zero, List.set_cons_succ]
        refine' wpAnyH_take (i := 34) (v := .pointer (some ⟨g, 0, none⟩)) rfl (by kernel_rfl) (by kernel_rfl) (by kernel_rfl) (fun _ _ _ h => h) (Or.inl ⟨by rfl, fun w' hw' => by go_simp⟩) hHeld ?_
        try simp only [Act.put, List.getElem_toArray, List.getElem_cons_succ, List.getElem_cons_zero, List.setIfInBounds_toArray, List.set_cons_zero, List.set_cons_succ]
        refine' wpAnyH_take (i := 35) (v := .slice A n c) rfl (by kernel_rfl) (by kernel_rfl) (by kernel_rfl) (fun _ _ _ h => h) (Or.inl ⟨by rfl, fun w' hw' => by go_simp⟩) hHeld ?_
        try simp only [Act.put, List.getElem_toArray, List.getElem_cons_succ, List.getElem_cons_zero, List.setIfInBounds_toArray, List.set_cons_zero, List.set_cons_succ]
        refine' wpAnyH_take (i := 36) (v := .int .i64 (n : Int)) rfl (by kernel_rfl) (by kernel_rfl) (by kernel_rfl) (fun _ _ _ h => h) (Or.inl ⟨by rfl, fun w' hw' => by go_simp⟩) hHeld ?_
        try simp only [Act.put, List.getElem_toArray, List.getElem_cons_succ, List.getElem_cons_zero, List.setIfInBounds_toArray, List.set_cons_zero, List.set_cons_succ]
        refine' wpAnyH_take (i := 38) (v := .slice A n c) rfl (by kernel_rfl) (by kernel_rfl) (by kernel_rfl) (fun _ _ _ h => h) (Or.inl ⟨by rfl, fun w' hw' => by go_simp⟩) hHeld ?_
        try simp only [Act.put, List.getElem_toArray, List.getElem_cons_succ, List.getElem_cons_zero, List.setIfInBounds_toArray, List.set_cons_zero, List.set_cons_succ]
        refine wpAnyH_ready (rs := [37]) (by kernel_rfl) (by simp) ?_
        refine AllReadyH.cons rfl (fun K hK => ?_) AllReadyH.nil
        go_simp
        (with_reducible refine (e6 _ _ hRd).mono ?_)
        rintro e Wr5 ⟨A2, c2, rfl, hrow, h1⟩
        have hL := pw_low hHeld hge h1
        replace hRd := h1.r
        clear h1
        refine hK.out _ _ hL (fun hHeld => ?_)
        clear hL hK K
        try simp only [Act.put, List.getElem_toArray, List.getElem_cons_succ, List.getElem_cons_zero, List.setIfInBounds_toArray, List.set_cons_zero, List.set_cons_succ]
        refine wpAnyH_ready (rs := [39]) (by kernel_rfl) (by simp) ?_
        refine AllReadyH.cons rfl (fun K hK => ?_) AllReadyH.nil
        go_simp
        (with_reducible refine (e7 _ _ _ hrow hHeld).mono ?_)
        rintro e Wr6 ⟨rfl, hb⟩
        have hL := hHeld.trans (hb.mono hHeld.size)
        replace hRd : Rdr g S p6 0 _ := Blk.below hRd hb
        clear hb hrow
        refine hK.out _ _ hL (fun hHeld => ?_)
        clear hL hK K
        try simp only [Act.put, List.getElem_toArray, List.getElem_cons_succ, List.getElem_cons_zero, List.setIfInBounds_toArray, List.set_cons_zero, List.set_cons_succ]
        refine' wpAnyH_take (i := 40) (v := .bool false) rfl (by kernel_rfl) (by kernel_rfl) (by kernel_rfl) (fun _ _ _ h => h) (Or.inl ⟨by rfl, fun w' hw' => by go_simp⟩) hHeld ?_
        try simp only [Act.put, List.getElem_toArray, List.getElem_cons_succ, List.getElem_cons_zero, List.setIfInBounds_toArray, List.set_cons_zero, List.set_cons_succ]
        refine' wpAnyH_take (i := 41) (v := .bool false) rfl (by kernel_rfl) (by kernel_rfl) (by kernel_rfl) (fun _ _ _ h => h) (Or.inl ⟨by rfl, fun w' hw' => by go_simp⟩) hHeld ?_
        try simp only [Act.put, List.getElem_toArray, List.getElem_cons_succ, List.getElem_cons_zero, List.setIfInBounds_toArray, List.set_cons_zero, List.set_cons_succ]
        refine' wpAnyH_take (i := 42) (v := .bool false) rfl (by kernel_rfl) (by kernel_rfl) (by kernel_rfl) (fun _ _ _ h => h) (Or.inl ⟨by rfl, fun w' hw' => by go_simp⟩) hHeld ?_
        try simp only [Act.put, List.getElem_toArray, List.getElem_cons_succ, List.getElem_cons_zero, List.setIfInBounds_toArray, List.set_cons_zero, List.set_cons_succ]
        refine' wpAnyH_take (i := 43) (v := .pointer (some ⟨g, 0, none⟩)) rfl (by kernel_rfl) (by kernel_rfl) (by kernel_rfl) (fun _ _ _ h => h) (Or.inl ⟨by rfl, fun w' hw' => by go_simp⟩) hHeld ?_
        try simp only [Act.put, List.getElem_toArray, List.getElem_cons_succ, List.getElem_cons_zero, List.setIfInBounds_toArray, List.set_cons_zero, List.set_cons_succ]
        refine' wpAnyH_take (i := 44) (v := .slice B k d) rfl (by kernel_rfl) (by kernel_rfl) (by kernel_rfl) (fun _ _ _ h => h) (Or.inl ⟨by rfl, fun w' hw' => by go_simp⟩) hHeld ?_
        try simp only [Act.put, List.getElem_toArray, List.getElem_cons_succ, List.getElem_cons_zero, List.setIfInBounds_toArray, List.set_cons_zero, List.set_cons_succ]
        refine' wpAnyH_take (i := 45) (v := .int .i64 (k : Int)) rfl (by kernel_rfl) (by kernel_rfl) (by kernel_rfl) (fun _ _ _ h => h) (Or.inl ⟨by rfl, fun w' hw' => by go_simp⟩) hHeld ?_
        try simp only [Act.put, List.getElem_toArray, List.getElem_cons_succ, List.getElem_cons_zero, List.setIfInBounds_toArray, List.set_cons_zero, List.set_cons_succ]
        refine' wpAnyH_take (i := 47) (v := .slice B k d) rfl (by kernel_rfl) (by kernel_rfl) (by kernel_rfl) (fun _ _ _ h => h) (Or.inl ⟨by rfl, fun w' hw' => by go_simp⟩) hHeld ?_
        try simp only [Act.put, List.getElem_toArray, List.getElem_cons_succ, List.getElem_cons_zero, List.setIfInBounds_toArray, List.set_cons_zero, List.set_cons_succ]
        refine wpAnyH_ready (rs := [46]) (by kernel_rfl) (by simp) ?_
        refine AllReadyH.cons rfl (fun K hK => ?_) AllReadyH.nil
        go_simp
        (with_reducible refine (e8 _ _ hRd).mono ?_)
        rintro e Wr7 ⟨B2, d2, rfl, hrow, h1⟩
        have hL := pw_low hHeld hge h1
        replace hRd := h1.r
        clear h1
        refine hK.out _ _ hL (fun hHeld => ?_)
        clear hL hK K
        try simp only [Act.put, List.getElem_toArray, List.getElem_cons_succ, List.getElem_cons_zero, List.setIfInBounds_toArray, List.set_cons_zero, List.set_cons_succ]
        refine wpAnyH_ready (rs := [48]) (by kernel_rfl) (by simp) ?_
        refine AllReadyH.cons rfl (fun K hK => ?_) AllReadyH.nil
        go_simp
        (with_reducible refine (e9 _ _ _ hrow hHeld).mono ?_)
        rintro e Wr8 ⟨rfl, hb⟩
        have hL := hHeld.trans (hb.mono hHeld.size)
        replace hRd : Rdr g S p7 0 _ := Blk.below hRd hb
        clear hb hrow
        refine hK.out _ _ hL (fun hHeld => ?_)
        clear hL hK K
        try simp only [Act.put, List.getElem_toArray, List.getElem_cons_succ, List.getElem_cons_zero, List.setIfInBounds_toArray, List.set_cons_zero, List.set_cons_succ]
        refine' wpAnyH_take (i := 49) (v := .bool false) rfl (by kernel_rfl) (by kernel_rfl) (by kernel_rfl) (fun _ _ _ h => h) (Or.inl ⟨by rfl, fun w' hw' => by go_simp⟩) hHeld ?_
        try simp only [Act.put, List.getElem_toArray, List.getElem_cons_succ, List.getElem_cons_zero, List.setIfInBounds_toArray, List.set_cons_zero, List.set_cons_succ]
        refine' wpAnyH_take (i := 50) (v := .bool false) rfl (by kernel_rfl) (by kernel_rfl) (by kernel_rfl) (fun _ _ _ h => h) (Or.inl ⟨by rfl, fun w' hw' => by go_simp⟩) hHeld ?_
        try simp only [Act.put, List.getElem_toArray, List.getElem_cons_succ, List.getElem_cons_zero, List.setIfInBounds_toArray, List.set_cons_zero, List.set_cons_succ]
        refine wpAnyH_done (by kernel_rfl) ?_ _
        clear heq e1 e3 e4 e5 e6 e7 e8 e9
        go_wp2_with (first
          | (go_at_call 42; (with_reducible refine (e10 _ _ hRd).mono ?_); rintro o3 w3 ⟨rfl, h3⟩; have hL3 := pw_low hHeld hge h3; have hR3 := h3.r)
          | (go_at_call 43; (with_reducible refine (pkPlace_any _ _ _ _ _ hR3).mono ?_); rintro o4 w4 ⟨rfl, rfl⟩)
          | (go_at_call 18; (with_reducible refine (awake5_any _).mono ?_); rintro o5 w5 ⟨rfl, hb5⟩; have hL5 := HXX.out.trans ((hL3.trans (hb5.mono hL3.size)).mono HXX.out.size)))
        go_ret
        exact ⟨rfl, hL5⟩
end Go.Proofs.Ythpdkdalfjahcaa


/- Proved: for any row of ids and any id quitclaimlaw21.MerkleProves returns true and leaves its arguments as they were. No conditions. -/
import Derived.Test.YtkbokffonnjjiaaMw9
set_option linter.unusedSimpArgs false
set_option linter.unusedVariables false
namespace Go.Proofs.Ytkbokffonnjjiaa
open Go.RowKit Go.Qc Go.Shelf
attribute [local go_sem] txt_size txt_append ib_fold
/-- What is wanted of an id that isn't in, when so many places have been asked. -/
def wantL (n p : Nat) : Nat → List Nat
  | 0 => []
  | 1 => if p = 0 then [] else [p - 1]
  | _ => (if p = 0 then [] else [p - 1]) ++ (if p < n then [p] else [])
theorem wantL_two {n p f t m : Nat} (hpn : p ≤ n) (hf : f = p - 1) (ht : t = min (p + 1) n) (hfm : f + m = t) : (wantL n p 2).length = m ∧ ∀ j, j < m → (wantL n p 2)[j]? = some (f + j) := by
  unfold wantL
  by_cases h0 : p = 0
  · subst h0
    rw [if_pos rfl]
    by_cases h1 : 0 < n
    · rw [if_pos h1]
      obtain rfl : m = 1 := by omega
      exact ⟨rfl, fun j hj => by
        obtain rfl : j = 0 := by omega
        subst hf
        rfl⟩
    · rw [if_neg h1]
      obtain rfl : m = 0 := by omega
      exact ⟨rfl, fun j hj => by omega⟩
  · rw [if_neg h0]
    by_cases h1 : p < n
    · rw [if_pos h1]
      obtain rfl : m = 2 := by omega
      refine ⟨rfl, fun j hj => ?_⟩
      rcases (show j = 0 ∨ j = 1 by omega) with rfl | rfl
      · subst hf; rfl
      · show some p = some (f + 1); congr 1; omega
    · rw [if_neg h1]
      obtain rfl : m = 1 := by omega
      exact ⟨rfl, fun j hj => by
        obtain rfl : j = 0 := by omega
        subst hf
        rfl⟩
theorem mp_min {k p : Nat} (h : k < p) : min (k + 1) p = min k p + 1 := by omega
theorem mp_min2 {k p : Nat} (h : ¬ k < p) : min (k + 1) p = min k p := by omega
theorem wantL_len (n p j : Nat) : (wantL n p j).length ≤ 2 := by
  unfold wantL
  split
  · exact Nat.zero_le _
  · split <;> simp
  · split <;> split <;> simp
theorem want_cases (n p j : Nat) (hj : j < 2) (hp : p ≤ n) : ((p : Int) - 1 + (j : Int) < 0 ∧ wantL n p (j + 1) = wantL n p j) ∨ ((p : Int) - 1 + (j : Int) = (n : Int) ∧ wantL n p (j + 1) = wantL n p j ∧ True) ∨ ∃ q : Nat, (p : Int) - 1 + (j : Int) = (q : Int) ∧ q < n ∧ wantL n p (j + 1) = wantL n p j ++ [q] := by
  rcases (show j = 0 ∨ j = 1 by omega) with rfl | rfl
  · by_cases h0 : p = 0
    · exact .inl ⟨by omega, by unfold wantL; simp [h0]⟩
    · exact .inr (.inr ⟨p - 1, by omega, by omega, by unfold wantL; simp [h0]⟩)
  · by_cases h0 : p < n
    · exact .inr (.inr ⟨p, by omega, h0, by simp [wantL, h0]⟩)
    · exact .inr (.inl ⟨by omega, by simp [wantL, h0], trivial⟩)
/-- What is wanted, by its place. -/
def WantAt (W : World) (A : Option Addr) (m f : Nat) : Prop := ∀ j, j < m → ∃ g, A = some ⟨g, 0, none⟩ ∧ W.cell? ⟨g, j, none⟩ = some (.int .i64 ((f + j : Nat) : Int))
theorem WantAt.below {W W' : World} {A : Option Addr} {m f : Nat} (h : WantAt W A m f) (hb : Below W.heap.size W W') : WantAt W' A m f := fun j hj => by
  obtain ⟨g, e, hc⟩ := h j hj
  exact ⟨g, e, cell_belM hb hc⟩
set_option maxRecDepth 100000 in
set_option maxHeartbeats 16000000 in
theorem mp_far (A : Option Addr) (n c : Nat) (a : List UInt8) (ha : a.length = 32) (w : World) (hn : 30 < n) :
    Calls Try.prog 3 #[.slice A n c, .agg (idVals a)] w fun e w' => e = .returned (.bool true) ∧ Below w.heap.size w w' := by
  have z1 : (30 : Int) < n := by omega
  have hb := (Below.refl w.heap.size w).alloc (Nat.le_refl _) (.cells (idVals a) 24)
  go_enter Try.func3, Try.ntmps3
  go_wp2_with (go_at_call 9; (with_reducible refine (awake21_any _).mono ?_); rintro e9 w9 ⟨rfl, hb9⟩)
  go_ret
  exact ⟨rfl, hb.trans (hb9.mono hb.size)⟩
set_option maxRecDepth 100000 in
set_option maxHeartbeats 16000000 in
theorem mp_no (A : Option Addr) (n c : Nat) (a : List UInt8) (ha : a.length = 32) (w : World) (l : List (List UInt8)) (hn : n ≤ 30) (h : RowC w A n c l) (hs : ¬ Steps l n) :
    Calls Try.prog 3 #[.slice A n c, .agg (idVals a)] w fun e w' => e = .returned (.bool true) ∧ Below w.heap.size w w' := by
  have hu := Try.underlying24
  have z1 : ¬ (30 : Int) < n := by omega
  have hza : (Try.prog.info? 24).map (·.size) = some (a.map u8v).length := by rw [List.length_map, ha]; exact sizeId
  have cP : ∀ W, RowC W A n c l → Calls Try.prog 10 #[.slice A n c, .agg (List.map u8v a).toArray] W fun e w' => e = .returned (.tuple #[.agg #[.int .i64 0, .slice none 0 0], .int .i64 17]) ∧ Below W.heap.size W w' := fun W hW => prove_no A n c l a W hW hs
  have cI : ∀ W, RowC W A n c l → Calls Try.prog 11 #[.slice A n c] W fun e w' => e = .returned (.bool false) ∧ Below W.heap.size W w' := fun W hW => (rrises_any A n c l W hW.1).mono (by
    rintro e w' ⟨v, rfl, ⟨t, rfl, ht⟩, hb⟩
    cases t
    · exact ⟨rfl, hb⟩
    · exact ⟨absurd (ht.1 rfl) hs, hb⟩)
  go_enter Try.func3, Try.ntmps3
  go_upto_region 3 with (fail)
  have hb := (Below.refl w.heap.size w).alloc (Nat.le_refl _) (.cells (idVals a) 24)
  have hbx := range_blk (Blk.new w 24 (idVals a))
  replace h := h.below hb
  generalize w.alloc (.cells (idVals a) 24) = w1 at *
  go_upto_region 4 with (first
    | (with_reducible refine wpList_load_if (by with_unfolding_all rfl) 24 _ rfl _ _ rfl (a.map u8v) _ hbx hu rfl hza ?_)
    | (go_at_call 10; (with_reducible refine (cP _ h).mono ?_); rintro e2 w2 ⟨rfl, hb2⟩))
  have hb3 := (Below.refl w2.heap.size w2).alloc (Nat.le_refl _) (.cells #[.int .i64 0, .slice none 0 0] 28)
  have hp := Blk.new w2 28 #[.int .i64 0, .slice none 0 0]
  replace h := (h.below hb2).below hb3
  replace hb := hb.trans ((hb2.trans (hb3.mono hb2.size)).mono hb.size)
  clear hb2 hb3 cP hbx
  generalize w2.alloc (.cells #[.int .i64 0, .slice none 0 0] 28) = w3 at *
  obtain ⟨g5, hg5⟩ : ∃ g, w2.heap.size = g := ⟨_, rfl⟩
  rw [hg5] at hp
  simp only [hg5]
  clear hg5
  go_wp2_with (first
    | (go_at_call 11; (with_reducible refine (cI _ h).mono ?_); rintro e4 w4 ⟨rfl, hb4⟩; have f0 := (hp.below hb4).cell_ (i := 0) rfl; have f1 := (hp.below hb4).cell_ (i := 1) rfl)
    | (go_at_call 9; (with_reducible refine (awake21_any _).mono ?_); rintro e9 w9 ⟨rfl, hb9⟩))
  go_ret
  exact ⟨rfl, hb.trans ((hb4.trans (hb9.mono hb4.size)).mono hb.size)⟩
set_option maxRecDepth 100000 in
set_option maxHeartbeats 16000000 in
theorem mp_in (A : Option Addr) (n c : Nat) (a : List UInt8) (ha : a.length = 32) (w : World) (l : List (List UInt8)) (hn : n ≤ 30) (h : RowC w A n c l) (hs : Steps l n) (hin : a ∈ l) (f m : Nat) (hc : Cuts l a f) (hm1 : m = 1) :
    Calls Try.prog 3 #[.slice A n c, .agg (idVals a)] w fun e w' => e = .returned (.bool true) ∧ Below w.heap.size w w' := by
  have mixed : Try.prog.follows .mixedOrders = true := by kernel_rfl
  have hu := Try.underlying24
  have z1 : ¬ (30 : Int) < n := by omega
  have hza : (Try.prog.info? 24).map (·.size) = some (a.map u8v).length := by rw [List.length_map, ha]; exact sizeId
  have hln := h.1.1
  have hri : Rising l := steps_rising l (by rw [hln]; exact hs)
  have hpn : f ≤ n := by rw [← hln]; exact hc.1
  have cP : ∀ W, RowC W A n c l → Calls Try.prog 10 #[.slice A n c, .agg (List.map u8v a).toArray] W (PvQ l n f m W) := fun W hW => prove_in A n c l a ha W hW hs hin f (f + 1) m hc rfl (by omega)
  have cI : ∀ W, RowC W A n c l → Calls Try.prog 11 #[.slice A n c] W fun e w' => e = .returned (.bool true) ∧ Below W.heap.size W w' := fun W hW => (rrises_any A n c l W hW.1).mono (by
    rintro e w' ⟨v, rfl, ⟨t, rfl, ht⟩, hb⟩
    cases t
    · exact ⟨absurd (ht.2 hs) (by decide), hb⟩
    · exact ⟨rfl, hb⟩)
  have HHAS : Hid (∀ W, RowC W A n c l → Calls Try.prog 13 #[.slice A n c, .agg (List.map u8v a).toArray] W fun e w' => e = .returned (.bool true) ∧ Below W.heap.size W w') := hid (fun W hW => by
    have := rhas_any A n c l a ha W hW.1
    rw [decide_eq_true hin] at this
    exact this)
  have HSUM : Hid (∀ W, RowC W A n c l → Calls Try.prog 19 #[.slice A n c] W fun e w' => e = .returned (.agg (idVals (wholeM (n : Int) (rootM l)))) ∧ Below W.heap.size W w') := hid (fun W hW => rsum21_any A n c l W hW)
  have HROOT : Hid (∀ W, RowC W A n c l → Calls Try.prog 17 #[.slice A n c] W fun e w' => e = .returned (.agg (idVals (rootM l))) ∧ Below W.heap.size W w') := hid (fun W hW => rroot_any l.length l (Nat.le_refl _) A n c W hW)
  have HWAY : Hid (∀ k, k < n → ∀ W, RowC W A n c l → Calls Try.prog 16 #[.slice A n c, .int .i64 (k : Int)] W fun e w' => ∃ A9 c9, e = .returned (.slice A9 (wayL l n k).length c9) ∧ RowC w' A9 (wayL l n k).length c9 (wayL l n k) ∧ Below W.heap.size W w') := hid (fun k hk W hW => rway21_any A n c l k hk W hW)
  have HLESS : Hid (∀ (x : List UInt8), x.length = 32 → ∀ W, Calls Try.prog 12 #[.agg (List.map u8v x).toArray, .agg (List.map u8v a).toArray] W fun e w' => e = .returned (.bool (ltB x a)) ∧ Below W.heap.size W w') := hid (fun x hx W => rless_any x a hx ha W)
  have HLT : Hid (∀ (k : Nat) (x : List UInt8), l[k]? = some x → ltB x a = decide (k < f)) := hid (fun k x hx => by
    by_cases hk : k < f
    · rw [decide_eq_true hk]; exact ltB_of (hc.2.1 k x hk hx)
    · rw [decide_eq_false hk]; exact ltB_not (hc.2.2 k x (by omega) hx))
  have HCK : Hid (∀ (W : World) (b d : Nat) (B : Option Addr) (Xs : List PlD), Xs.length = m → PlRd W B Xs → (∀ (j : Nat) (X : PlD), Xs[j]? = some X → PlOk W b l n (f + j) X) → Calls Try.prog 18 #[.agg (idVals (wholeM (n : Int) (rootM l))), .agg (List.map u8v a).toArray, .agg #[.int .i64 (n : Int), .slice B m d]] W fun e w' => e = .returned (.tuple #[.bool true, .bool true]) ∧ Below W.heap.size W w') := hid (fun W b d B Xs hx hP ho => by
    subst hm1; exact check_ok_in ha hln (by omega) hri hx hin hc hP ho)
  have HPN := hid hpn
  have HLN := hid hln
  have HN := hid hn
  have HM1 := hid hm1
  have HM : Hid (m ≤ 2) := hid (by omega)
  clear hm1 hs hri hin hc hpn hln hn
  go_enter Try.func3, Try.ntmps3
  go_upto_region 3 with (fail)
  have hb := (Below.refl w.heap.size w).alloc (Nat.le_refl _) (.cells (idVals a) 24)
  have hbx := range_blk (Blk.new w 24 (idVals a))
  replace h := h.below hb
  generalize w.alloc (.cells (idVals a) 24) = w1 at *
  go_upto_region 4 with (first
    | (with_reducible refine wpList_load_if (by with_unfolding_all rfl) 24 _ rfl _ _ rfl (a.map u8v) _ hbx hu rfl hza ?_)
    | (go_at_call 10; (with_reducible refine (cP _ h).mono ?_); rintro e2 w2 ⟨B, d, Xs, rfl, hXm, hO, hK, hb2⟩))
  have hb3 := (Below.refl w2.heap.size w2).alloc (Nat.le_refl _) (.cells #[.int .i64 (n : Int), .slice B m d] 28)
  have hp := Blk.new w2 28 #[.int .i64 (n : Int), .slice B m d]
  replace h := (h.below hb2).below hb3
  replace hbx := (hbx.below hb2).below hb3
  have HK : Hid (∀ (j : Nat) (X : PlD), Xs[j]? = some X → PlOk (w2.alloc (.cells #[.int .i64 (n : Int), .slice B m d] 28)) w1.heap.size l n (f + j) X) := hid (fun j X hj => (hK j X hj).below hb3)
  have hPr : PlRd w2 B Xs := by
    obtain ⟨A', c', e', _, _, _, hr⟩ := hO.rd (fun X hX => by
      obtain ⟨j, hj⟩ := List.getElem?_of_mem hX
      exact (hK j X hj).fo)
    injection e' with e1 e2 e3
    rw [e1]
    exact hr
  have HPR := hid (hPr.below hb3)
  have HXM := hid hXm
  replace hb := hb.trans ((hb2.trans (hb3.mono hb2.size)).mono hb.size)
  clear hb2 hb3 cP hPr hO hK hXm
  generalize w2.alloc (.cells #[.int .i64 (n : Int), .slice B m d] 28) = w3 at *
  obtain ⟨g5, hg5⟩ : ∃ g, w2.heap.size = g := ⟨_, rfl⟩
  rw [hg5] at hp
  simp only [hg5]
  clear hg5
  go_upto_region 6 with (first
    | (go_at_call 11; (with_reducible refine (cI _ h).mono ?_); rintro e4 w4 ⟨rfl, hb4⟩))
  have HP5 := hid (hp.below hb4)
  have HR := hid (h.below hb4)
  have HBX := hid (hbx.below hb4)
  have HB := hid (hb.trans (hb4.mono hb.size))
  replace HPR := hid (HPR.out.below hb4)
  replace HK : Hid (∀ (j : Nat) (X : PlD), Xs[j]? = some X → PlOk w4 w1.heap.size l n (f + j) X) := hid (fun j X hj => (HK.out j X hj).below hb4)
  have f0 := HP5.out.cell_ (i := 0) rfl
  have zn : ((n : Int) != (n : Int)) = false := by simp
  clear hp h hbx hb hb4 cI
  go_wp2_with (fail)
  clear f0 zn
  go_loopw [7, 58] (fun u v wr => ∃ k c9 : Nat, k ≤ n ∧ u = .int .i64 (c9 : Int) ∧ v = .int .i64 (k : Int) ∧ Hid (c9 = min k f) ∧ Hid (Below w4.heap.size w4 wr)) (fun _ v _ => n - (intOf v).toNat)
  case atStart => exact ⟨0, 0, Nat.zero_le _, rfl, rfl, hid (Nat.zero_min _).symm, hid (Below.refl _ _)⟩
  case round =>
    obtain ⟨k, c9, hk, rfl, rfl, HC9, HBB⟩ := hrel
    obtain ⟨wo, hwo⟩ : ∃ u, u = wr := ⟨_, rfl⟩
    subst hwo
    by_cases hlt : k < n
    · obtain ⟨x, hx⟩ : ∃ x, l[k]? = some x := ⟨_, List.getElem?_eq_getElem (by have := HLN.out; omega)⟩
      obtain ⟨gx, qx, fx, lx, hix⟩ := (HR.out.below HBB.out).1.2.2.pick (k := k) (a := x) c HLN.out hx
      have hzx : (Try.prog.info? 24).map (·.size) = some (x.map u8v).length := by rw [List.length_map, lx]; exact sizeId
      have cL := HLESS.out x lx
      rw [HLT.out k x hx] at cL
      have z3 : (k : Int) < (n : Int) := Int.ofNat_lt.2 hlt
      have q9 := pv_q1 (p := k) (by have := HN.out; omega)
      have q8 := pv_q1 (p := c9) (by have := HC9.out; have := HN.out; omega)
      have HLTK := hid hlt
      have hxl := lx
      clear hlt hk hx
      go_upto_region 12 with (first
        | (with_reducible refine wpList_load_if (by with_unfolding_all rfl) 24 _ rfl _ _ rfl (x.map u8v) _ fx hu rfl hzx ?_)
        | (with_reducible refine wpList_store_newid rfl _ _ rfl x lx rfl rfl (by with_unfolding_all rfl) ?_; intro w7 hr7 hb7))
      have hba := (HBX.out.below HBB.out).below hb7
      have HB7 := hid (HBB.out.trans (hb7.mono HBB.out.size))
      clear hix fx hb7 HBB
      generalize wo.heap.size = g9 at *
      by_cases hkp : k < f
      · rw [decide_eq_true hkp] at cL
        have HMN := hid (mp_min hkp)
        clear hkp
        go_wp2_with (first
          | (with_reducible refine wpList_load_if (by with_unfolding_all rfl) 24 _ rfl _ _ rfl (x.map u8v) _ hr7 hu rfl hzx ?_)
          | (with_reducible refine wpList_load_if (by with_unfolding_all rfl) 24 _ rfl _ _ rfl (a.map u8v) _ hba hu rfl hza ?_)
          | (go_at_call 12; (with_reducible refine (cL _).mono ?_); rintro e8 w8 ⟨rfl, hb8⟩))
        go_roundw
        case rel => exact ⟨k + 1, c9 + 1, HLTK.out, by go_num, by go_num, hid (by rw [HMN.out, HC9.out]), hid (HB7.out.trans (hb8.mono HB7.out.size))⟩
        case measure => first | exact pv_meas2 HLTK.out | (rw [q9]; exact pv_meas2 HLTK.out)
      · rw [decide_eq_false hkp] at cL
        have HMN := hid (mp_min2 hkp)
        clear hkp
        go_wp2_with (first
          | (with_reducible refine wpList_load_if (by with_unfolding_all rfl) 24 _ rfl _ _ rfl (x.map u8v) _ hr7 hu rfl hzx ?_)
          | (with_reducible refine wpList_load_if (by with_unfolding_all rfl) 24 _ rfl _ _ rfl (a.map u8v) _ hba hu rfl hza ?_)
          | (go_at_call 12; (with_reducible refine (cL _).mono ?_); rintro e8 w8 ⟨rfl, hb8⟩))
        go_roundw
        case rel => exact ⟨k + 1, c9, HLTK.out, by go_num, by go_num, hid (by rw [HMN.out, HC9.out]), hid (HB7.out.trans (hb8.mono HB7.out.size))⟩
        case measure => first | exact pv_meas2 HLTK.out | (rw [q9]; exact pv_meas2 HLTK.out)
    · obtain rfl : n = k := by omega
      have z3 : ¬ (n : Int) < (n : Int) := by omega
      obtain rfl : f = c9 := by have := HC9.out; have := HPN.out; omega
      have hba := HBX.out.below HBB.out
      have hro := HR.out.below HBB.out
      have cH := HHAS.out
      clear hlt hk HC9
      go_upto_region 23 with (first
        | (with_reducible refine wpList_load_if (by with_unfolding_all rfl) 24 _ rfl _ _ rfl (a.map u8v) _ hba hu rfl hza ?_)
        | (go_at_call 13; (with_reducible refine (cH _ hro).mono ?_); rintro e8 w8 ⟨rfl, hb8⟩))
      have hb9 := (Below.refl w8.heap.size w8).alloc (Nat.le_refl _) (.cells #[.int .i64 (f : Int)] 3)
      have HB9 := hid (HBB.out.trans ((hb8.trans (hb9.mono hb8.size)).mono HBB.out.size))
      have HWT : Hid (WantAt (w8.alloc (.cells #[.int .i64 (f : Int)] 3)) (some ⟨w8.heap.size, 0, none⟩) m f) := hid (fun j hj => ⟨_, rfl, by
        obtain rfl : j = 0 := by have := HM1.out; omega
        exact (Blk.new w8 3 #[.int .i64 (f : Int)]).cell_ rfl⟩)
      clear hb8 hb9 hba hro cH HBB
      generalize w8.alloc (.cells #[.int .i64 (f : Int)] 3) = w9 at *
      obtain ⟨Wd, hWd⟩ : ∃ W, some (⟨w8.heap.size, 0, none⟩ : Addr) = W := ⟨_, rfl⟩
      rw [hWd] at HWT
      obtain ⟨cw, hcw⟩ : ∃ cw : Nat, 1 = cw := ⟨_, rfl⟩
      have hsl : Value.slice (some ⟨w8.heap.size, 0, none⟩) 1 1 = Value.slice Wd m cw := by rw [hWd, HM1.out, ← hcw]
      rw [hsl]
      clear hsl hWd hcw
      have HP9 := hid (HP5.out.below HB9.out)
      have HR9 := hid (HR.out.below HB9.out)
      have f1 := HP9.out.cell_ (i := 1) rfl
      have zm : ((m : Int) != (m : Int)) = false := by simp
      go_wp2_with (fail)
      clear f1 zm
      go_loopw [101] (fun v wr => ∃ k : Nat, k ≤ m ∧ v = .int .i64 (k : Int) ∧ Hid (Below w9.heap.size w9 wr)) (fun v _ => m - (intOf v).toNat)
      case atStart => exact ⟨0, Nat.zero_le _, rfl, hid (Below.refl _ _)⟩
      case round =>
        obtain ⟨k, hk, rfl, HBK⟩ := hrel
        obtain ⟨w10, hw10⟩ : ∃ u, u = wr := ⟨_, rfl⟩
        subst hw10
        have HBT := hid (HB9.out.trans (HBK.out.mono HB9.out.size))
        by_cases hlt : k < m
        · obtain ⟨X, hX⟩ : ∃ X, Xs[k]? = some X := ⟨_, List.getElem?_eq_getElem (by have := HXM.out; omega)⟩
          have HOK := hid ((HK.out k X hX).below HBT.out)
          obtain ⟨g, q, fx, hok, hix⟩ := (HPR.out.below HBT.out).pick (k := k) d HXM.out hX
          obtain ⟨gW, hgW, fw⟩ := (HWT.out.below HBK.out) k hlt
          have hiw : ∀ W, (Instr.indexAt 34 (.slice Wd m cw) (.int .i64 (k : Int))).run Try.prog W = .ok (.pointer (some ⟨gW, k, none⟩)) W := fun W => by rw [hgW]; exact nm_index gW m cw k hlt W
          have HIW := hid hiw
          obtain ⟨r, hr⟩ : ∃ r, f + k = r := ⟨_, rfl⟩
          rw [hr] at fw HOK
          have z3 : (k : Int) < (m : Int) := Int.ofNat_lt.2 hlt
          have q9 := pv_q1 (p := k) (by have := HM.out; omega)
          have HLTK := hid hlt
          have f0 := (HP9.out.below HBK.out).cell_ (i := 0) rfl
          have HFW := hid fw
          clear hlt hk hX hr hgW hiw fw
          go_upto_region 28 with (first
            | (with_reducible refine wpList_load_plr (by with_unfolding_all rfl) _ rfl g q rfl fx hok ?_)
            | (with_reducible refine wpList_store_pln rfl _ _ rfl rfl rfl hok rfl ?_))
          have hx5 := PlX.new w10 X
          have hb5 := (Below.refl w10.heap.size w10).alloc (Nat.le_refl _) (.cells X.cs 37)
          have f05 : (w10.alloc (.cells X.cs 37)).cell? ⟨g5, 0, none⟩ = some (.int .i64 (n : Int)) := cell_belM hb5 f0
          replace HOK := hid (HOK.out.below hb5)
          replace HFW := hid (cell_belM hb5 HFW.out)
          replace HBK := hid (HBK.out.trans (hb5.mono HBK.out.size))
          clear hb5 fx hix f0
          generalize w10.alloc (.cells X.cs 37) = w11 at *
          obtain ⟨g13, hg13⟩ : ∃ g, w10.heap.size = g := ⟨_, rfl⟩
          rw [hg13] at hx5
          simp only [hg13]
          clear hg13
          have cC := climb_ok HOK.out HLN.out (by have := HN.out; omega)
          have hRl := rootM_length l
          have hRW := HROOT.out
          have HSM := HSUM.out
          generalize rootM l = R at cC hRl hRW
          have hzR : (Try.prog.info? 24).map (·.size) = some (R.map u8v).length := by rw [List.length_map, hRl]; exact sizeId
          have HROOT2 := hid hRW
          clear HSM hRW
          go_upto_region 29 with (first
            | (with_reducible refine wpList_load_plx (by with_unfolding_all rfl) _ rfl g13 rfl hx5 hok ?_)
            | (go_at_call 14; (with_reducible refine cC.mono ?_); rintro e12 w12 ⟨rfl, hb12⟩)
            | (with_reducible refine wpList_store_newid rfl _ _ rfl R hRl rfl rfl (by with_unfolding_all rfl) ?_; intro w13 hr13 hb13))
          have hbb := hb12.trans (hb13.mono hb12.size)
          replace HOK := hid (HOK.out.below hbb)
          replace HFW := hid (cell_belM hbb HFW.out)
          replace hx5 := hx5.below hbb
          replace HBK := hid (HBK.out.trans (hbb.mono HBK.out.size))
          clear hb12 hb13 hbb cC f05
          generalize w12.heap.size = g14 at *
          have HBT2 := hid (HB9.out.trans (HBK.out.mono HB9.out.size))
          -- the drawn region
          have hrk : r < n := by have := (List.getElem?_eq_some_iff.1 HOK.out.fi).1; have := HLN.out; omega
          obtain ⟨gx, qx, fxl, lxl, hixl⟩ := (HR.out.below HBT2.out).1.2.2.pick (k := r) (a := X.a) c HLN.out HOK.out.fi
          have HIX := hid hixl
          have hzX : (Try.prog.info? 24).map (·.size) = some (X.a.map u8v).length := by rw [List.length_map, lxl]; exact sizeId
          obtain ⟨A5, c5, e5, hrw⟩ := own_rowW HOK.out.fw (wayL_32 l n r) (by have := partsL_len 0 n r; have := HOK.out.fn; have := HN.out; omega)
          injection e5 with e51 e52 e53
          subst e51 e53
          have HRW := hid hrw
          have cY := HWAY.out r hrk
          generalize wayL l n r = Y at *
          have fT : w13.cell? ⟨g13, 32, none⟩ = some (.int .i64 (r : Int)) := by rw [← HOK.out.ft]; exact hx5.c32 hok
          have fS := hx5.c33 hok
          have fA : w13.rangeAt g13 0 (X.a.map u8v) := hx5.ida
          have HEX : Hid (∀ W, (Op.equalIn 10000 24 (.agg (List.map u8v X.a).toArray) (.agg (List.map u8v X.a).toArray)).run Try.prog W = .ok true W) := hid (fun W => (ids_eq W X.a X.a lxl lxl).trans (by rw [decide_eq_true rfl]))
          have HER : Hid (∀ W, (Op.equalIn 10000 24 (.agg (List.map u8v R).toArray) (.agg (idVals R))).run Try.prog W = .ok true W) := hid (fun W => (ids_eq W R R hRl hRl).trans (by rw [decide_eq_true rfl]))
          have HCY := hid cY
          have HRO := hid (HR.out.below HBT2.out)
          clear hrk hixl hrw cY e52
          have HX5 := hid hx5
          clear hx5
          refine wp_region_held_drew (S := fun V => Below w13.drew.heap.size w13.drew V) (by kernel_rfl) (Below.refl _ _) (fun hHeld => ?_)
          have hbd := below_drew1 w13
          replace fT := cell_belM hbd fT
          replace fS := cell_belM hbd fS
          replace fA := fA.below hbd
          replace fxl := fxl.below hbd
          replace hr13 := hr13.below hbd
          have fW := cell_belM hbd HFW.out
          replace HRO := hid (HRO.out.below hbd)
          replace HRW := hid (HRW.out.below hbd)
          have HBD := hid (HBK.out.trans (hbd.mono HBK.out.size))
          clear hbd
          generalize w13.drew = V0 at *
          refine' wpAnyH_take (i := 0) (v := .pointer (some ⟨g13, 32, none⟩)) rfl (by kernel_rfl) (by kernel_rfl) (by kernel_rfl) (fun _ _ _ h => h) (Or.inl ⟨by rfl, fun w' hw' => by go_simp⟩) hHeld ?_
          try simp only [Act.put, List.getElem_toArray, List.getElem_cons_succ, List.getElem_cons_zero, List.setIfInBounds_toArray, List.set_cons_zero, List.set_cons_succ]
          refine' wpAnyH_take (i := 1) (v := .int .i64 (r : Int)) rfl (by kernel_rfl) (by kernel_rfl) (by kernel_rfl) (fun _ _ _ h => h) (Or.inl ⟨by rfl, fun w' hw' => by have hv := cell_belM hw' fT; go_simp⟩) hHeld ?_
          try simp only [Act.put, List.getElem_toArray, List.getElem_cons_succ, List.getElem_cons_zero, List.setIfInBounds_toArray, List.set_cons_zero, List.set_cons_succ]
          refine' wpAnyH_take (i := 2) (v := .slice Wd m cw) rfl (by kernel_rfl) (by kernel_rfl) (by kernel_rfl) (fun _ _ _ h => h) (Or.inl ⟨by rfl, fun w' hw' => by go_simp⟩) hHeld ?_
          try simp only [Act.put, List.getElem_toArray, List.getElem_cons_succ, List.getElem_cons_zero, List.setIfInBounds_toArray, List.set_cons_zero, List.set_cons_succ]
          refine' wpAnyH_take (i := 3) (v := .int .i64 (k : Int)) rfl (by kernel_rfl) (by kernel_rfl) (by kernel_rfl) (fun _ _ _ h => h) (Or.inl ⟨by rfl, fun w' hw' => by go_simp⟩) hHeld ?_
          try simp only [Act.put, List.getElem_toArray, List.getElem_cons_succ, List.getElem_cons_zero, List.setIfInBounds_toArray, List.set_cons_zero, List.set_cons_succ]
          refine' wpAnyH_take (i := 4) (v := .pointer (some ⟨gW, k, none⟩)) rfl (by kernel_rfl) (by kernel_rfl) (by kernel_rfl) (fun _ _ _ h => h) (Or.inl ⟨by rfl, fun w' hw' => by have hv := HIW.out w'; go_simp⟩) hHeld ?_
          try simp only [Act.put, List.getElem_toArray, List.getElem_cons_succ, List.getElem_cons_zero, List.setIfInBounds_toArray, List.set_cons_zero, List.set_cons_succ]
          refine' wpAnyH_take (i := 5) (v := .int .i64 (r : Int)) rfl (by kernel_rfl) (by kernel_rfl) (by kernel_rfl) (fun _ _ _ h => h) (Or.inl ⟨by rfl, fun w' hw' => by have hv := cell_belM hw' fW; go_simp⟩) hHeld ?_
          try simp only [Act.put, List.getElem_toArray, List.getElem_cons_succ, List.getElem_cons_zero, List.setIfInBounds_toArray, List.set_cons_zero, List.set_cons_succ]
          refine' wpAnyH_take (i := 6) (v := .bool false) rfl (by kernel_rfl) (by kernel_rfl) (by kernel_rfl) (fun _ _ _ h => h) (Or.inl ⟨by rfl, fun w' hw' => by go_simp⟩) hHeld ?_
          try simp only [Act.put, List.getElem_toArray, List.getElem_cons_succ, List.getElem_cons_zero, List.setIfInBounds_toArray, List.set_cons_zero, List.set_cons_succ]
          refine' wpAnyH_take (i := 7) (v := .bool false) rfl (by kernel_rfl) (by kernel_rfl) (by kernel_rfl) (fun _ _ _ h => h) (Or.inl ⟨by rfl, fun w' hw' => by go_simp⟩) hHeld ?_
          try simp only [Act.put, List.getElem_toArray, List.getElem_cons_succ, List.getElem_cons_zero, List.setIfInBounds_toArray, List.set_cons_zero, List.set_cons_succ]
          refine' wpAnyH_take (i := 8) (v := .pointer (some ⟨g13, 0, none⟩)) rfl (by kernel_rfl) (by kernel_rfl) (by kernel_rfl) (fun _ _ _ h => h) (Or.inl ⟨by rfl, fun w' hw' => by go_simp⟩) hHeld ?_
          try simp only [Act.put, List.getElem_toArray, List.getElem_cons_succ, List.getElem_cons_zero, List.setIfInBounds_toArray, List.set_cons_zero, List.set_cons_succ]
          refine' wpAnyH_take (i := 9) (v := _) rfl (by kernel_rfl) (by kernel_rfl) (by kernel_rfl) (fun _ _ _ h => h) (yieldsIf_load_mid (by rfl) 24 _ rfl _ _ rfl (X.a.map u8v) _ (fun w' h => fA.below h) hu rfl hzX) hHeld ?_
          try simp only [Act.put, List.getElem_toArray, List.getElem_cons_succ, List.getElem_cons_zero, List.setIfInBounds_toArray, List.set_cons_zero, List.set_cons_succ]
          refine' wpAnyH_take (i := 10) (v := .slice A n c) rfl (by kernel_rfl) (by kernel_rfl) (by kernel_rfl) (fun _ _ _ h => h) (Or.inl ⟨by rfl, fun w' hw' => by go_simp⟩) hHeld ?_
          try simp only [Act.put, List.getElem_toArray, List.getElem_cons_succ, List.getElem_cons_zero, List.setIfInBounds_toArray, List.set_cons_zero, List.set_cons_succ]
          refine' wpAnyH_take (i := 11) (v := .slice Wd m cw) rfl (by kernel_rfl) (by kernel_rfl) (by kernel_rfl) (fun _ _ _ h => h) (Or.inl ⟨by rfl, fun w' hw' => by go_simp⟩) hHeld ?_
          try simp only [Act.put, List.getElem_toArray, List.getElem_cons_succ, List.getElem_cons_zero, List.setIfInBounds_toArray, List.set_cons_zero, List.set_cons_succ]
          refine' wpAnyH_take (i := 12) (v := .int .i64 (k : Int)) rfl (by kernel_rfl) (by kernel_rfl) (by kernel_rfl) (fun _ _ _ h => h) (Or.inl ⟨by rfl, fun w' hw' => by go_simp⟩) hHeld ?_
          try simp only [Act.put, List.getElem_toArray, List.getElem_cons_succ, List.getElem_cons_zero, List.setIfInBounds_toArray, List.set_cons_zero, List.set_cons_succ]
          refine' wpAnyH_take (i := 13) (v := .pointer (some ⟨gW, k, none⟩)) rfl (by kernel_rfl) (by kernel_rfl) (by kernel_rfl) (fun _ _ _ h => h) (Or.inl ⟨by rfl, fun w' hw' => by have hv := HIW.out w'; go_simp⟩) hHeld ?_
          try simp only [Act.put, List.getElem_toArray, List.getElem_cons_succ, List.getElem_cons_zero, List.setIfInBounds_toArray, List.set_cons_zero, List.set_cons_succ]
          refine' wpAnyH_take (i := 14) (v := .int .i64 (r : Int)) rfl (by kernel_rfl) (by kernel_rfl) (by kernel_rfl) (fun _ _ _ h => h) (Or.inl ⟨by rfl, fun w' hw' => by have hv := cell_belM hw' fW; go_simp⟩) hHeld ?_
          try simp only [Act.put, List.getElem_toArray, List.getElem_cons_succ, List.getElem_cons_zero, List.setIfInBounds_toArray, List.set_cons_zero, List.set_cons_succ]
          refine' wpAnyH_take (i := 15) (v := .pointer (some ⟨gx, qx, none⟩)) rfl (by kernel_rfl) (by kernel_rfl) (by kernel_rfl) (fun _ _ _ h => h) (Or.inl ⟨by rfl, fun w' hw' => by have hv := HIX.out w'; go_simp⟩) hHeld ?_
          try simp only [Act.put, List.getElem_toArray, List.getElem_cons_succ, List.getElem_cons_zero, List.setIfInBounds_toArray, List.set_cons_zero, List.set_cons_succ]
          refine' wpAnyH_take (i := 16) (v := _) rfl (by kernel_rfl) (by kernel_rfl) (by kernel_rfl) (fun _ _ _ h => h) (yieldsIf_load_mid (by rfl) 24 _ rfl _ _ rfl (X.a.map u8v) _ (fun w' h => fxl.below h) hu rfl hzX) hHeld ?_
          try simp only [Act.put, List.getElem_toArray, List.getElem_cons_succ, List.getElem_cons_zero, List.setIfInBounds_toArray, List.set_cons_zero, List.set_cons_succ]
          refine' wpAnyH_take (i := 17) (v := .bool false) rfl (by kernel_rfl) (by kernel_rfl) (by kernel_rfl) (fun _ _ _ h => h) (Or.inl ⟨by rfl, fun w' hw' => by have hv := HEX.out w'; go_simp⟩) hHeld ?_
          try simp only [Act.put, List.getElem_toArray, List.getElem_cons_succ, List.getElem_cons_zero, List.setIfInBounds_toArray, List.set_cons_zero, List.set_cons_succ]
          refine' wpAnyH_take (i := 18) (v := .bool false) rfl (by kernel_rfl) (by kernel_rfl) (by kernel_rfl) (fun _ _ _ h => h) (Or.inl ⟨by rfl, fun w' hw' => by go_simp⟩) hHeld ?_
          try simp only [Act.put, List.getElem_toArray, List.getElem_cons_succ, List.getElem_cons_zero, List.setIfInBounds_toArray, List.set_cons_zero, List.set_cons_succ]
          refine' wpAnyH_take (i := 19) (v := .bool false) rfl (by kernel_rfl) (by kernel_rfl) (by kernel_rfl) (fun _ _ _ h => h) (Or.inl ⟨by rfl, fun w' hw' => by go_simp⟩) hHeld ?_
          try simp only [Act.put, List.getElem_toArray, List.getElem_cons_succ, List.getElem_cons_zero, List.setIfInBounds_toArray, List.set_cons_zero, List.set_cons_succ]
          refine' wpAnyH_take (i := 20) (v := .pointer (some ⟨g13, 33, none⟩)) rfl (by kernel_rfl) (by kernel_rfl) (by kernel_rfl) (fun _ _ _ h => h) (Or.inl ⟨by rfl, fun w' hw' => by go_simp⟩) hHeld ?_
          try simp only [Act.put, List.getElem_toArray, List.getElem_cons_succ, List.getElem_cons_zero, List.setIfInBounds_toArray, List.set_cons_zero, List.set_cons_succ]
          refine' wpAnyH_take (i := 21) (v := .slice X.A X.n X.c) rfl (by kernel_rfl) (by kernel_rfl) (by kernel_rfl) (fun _ _ _ h => h) (Or.inl ⟨by rfl, fun w' hw' => by have hv := cell_belM hw' fS; go_simp⟩) hHeld ?_
          try simp only [Act.put, List.getElem_toArray, List.getElem_cons_succ, List.getElem_cons_zero, List.setIfInBounds_toArray, List.set_cons_zero, List.set_cons_succ]
          refine' wpAnyH_take (i := 22) (v := .slice A n c) rfl (by kernel_rfl) (by kernel_rfl) (by kernel_rfl) (fun _ _ _ h => h) (Or.inl ⟨by rfl, fun w' hw' => by go_simp⟩) hHeld ?_
          try simp only [Act.put, List.getElem_toArray, List.getElem_cons_succ, List.getElem_cons_zero, List.setIfInBounds_toArray, List.set_cons_zero, List.set_cons_succ]
          refine' wpAnyH_take (i := 23) (v := .slice Wd m cw) rfl (by kernel_rfl) (by kernel_rfl) (by kernel_rfl) (fun _ _ _ h => h) (Or.inl ⟨by rfl, fun w' hw' => by go_simp⟩) hHeld ?_
          try simp only [Act.put, List.getElem_toArray, List.getElem_cons_succ, List.getElem_cons_zero, List.setIfInBounds_toArray, List.set_cons_zero, List.set_cons_succ]
          refine' wpAnyH_take (i := 24) (v := .int .i64 (k : Int)) rfl (by kernel_rfl) (by kernel_rfl) (by kernel_rfl) (fun _ _ _ h => h) (Or.inl ⟨by rfl, fun w' hw' => by go_simp⟩) hHeld ?_
          try simp only [Act.put, List.getElem_toArray, List.getElem_cons_succ, List.getElem_cons_zero, List.setIfInBounds_toArray, List.set_cons_zero, List.set_cons_succ]
          refine' wpAnyH_take (i := 25) (v := .pointer (some ⟨gW, k, none⟩)) rfl (by kernel_rfl) (by kernel_rfl) (by kernel_rfl) (fun _ _ _ h => h) (Or.inl ⟨by rfl, fun w' hw' => by have hv := HIW.out w'; go_simp⟩) hHeld ?_
          try simp only [Act.put, List.getElem_toArray, List.getElem_cons_succ, List.getElem_cons_zero, List.setIfInBounds_toArray, List.set_cons_zero, List.set_cons_succ]
          refine' wpAnyH_take (i := 26) (v := .int .i64 (r : Int)) rfl (by kernel_rfl) (by kernel_rfl) (by kernel_rfl) (fun _ _ _ h => h) (Or.inl ⟨by rfl, fun w' hw' => by have hv := cell_belM hw' fW; go_simp⟩) hHeld ?_
          try simp only [Act.put, List.getElem_toArray, List.getElem_cons_succ, List.getElem_cons_zero, List.setIfInBounds_toArray, List.set_cons_zero, List.set_cons_succ]
          refine wpAnyH_ready (rs := [27]) (by kernel_rfl) (by simp) ?_
          refine AllReadyH.cons rfl (fun K hK => ?_) AllReadyH.nil
          go_simp
          (with_reducible refine (HCY.out _ (HRO.out.below hHeld)).mono ?_)
          rintro e9 V9 ⟨A9, c9', rfl, hrY, hb9⟩
          refine hK.out _ _ (hHeld.trans (hb9.mono hHeld.size)) (fun hHeld => ?_)
          clear hK K hb9
          try simp only [Act.put, List.getElem_toArray, List.getElem_cons_succ, List.getElem_cons_zero, List.setIfInBounds_toArray, List.set_cons_zero, List.set_cons_succ]
          refine wpAnyH_ready (rs := [28]) (by kernel_rfl) (by simp) ?_
          refine AllReadyH.cons rfl (fun K hK => ?_) AllReadyH.nil
          go_simp
          have cS := rsame_any X.A A9 X.n X.c Y.length c9' Y Y _ (HRW.out.below hHeld).1 hrY.1
          rw [decide_eq_true rfl] at cS
          (with_reducible refine cS.mono ?_)
          rintro e9 V9 ⟨rfl, hb9⟩
          clear cS hrY
          refine hK.out _ _ (hHeld.trans (hb9.mono hHeld.size)) (fun hHeld => ?_)
          clear hK K hb9
          try simp only [Act.put, List.getElem_toArray, List.getElem_cons_succ, List.getElem_cons_zero, List.setIfInBounds_toArray, List.set_cons_zero, List.set_cons_succ]
          refine' wpAnyH_take (i := 29) (v := .bool false) rfl (by kernel_rfl) (by kernel_rfl) (by kernel_rfl) (fun _ _ _ h => h) (Or.inl ⟨by rfl, fun w' hw' => by go_simp⟩) hHeld ?_
          try simp only [Act.put, List.getElem_toArray, List.getElem_cons_succ, List.getElem_cons_zero, List.setIfInBounds_toArray, List.set_cons_zero, List.set_cons_succ]
          refine' wpAnyH_take (i := 30) (v := .bool false) rfl (by kernel_rfl) (by kernel_rfl) (by kernel_rfl) (fun _ _ _ h => h) (Or.inl ⟨by rfl, fun w' hw' => by go_simp⟩) hHeld ?_
          try simp only [Act.put, List.getElem_toArray, List.getElem_cons_succ, List.getElem_cons_zero, List.setIfInBounds_toArray, List.set_cons_zero, List.set_cons_succ]
          refine' wpAnyH_take (i := 31) (v := .bool false) rfl (by kernel_rfl) (by kernel_rfl) (by kernel_rfl) (fun _ _ _ h => h) (Or.inl ⟨by rfl, fun w' hw' => by go_simp⟩) hHeld ?_
          try simp only [Act.put, List.getElem_toArray, List.getElem_cons_succ, List.getElem_cons_zero, List.setIfInBounds_toArray, List.set_cons_zero, List.set_cons_succ]
          refine' wpAnyH_take (i := 32) (v := .bool true) rfl (by kernel_rfl) (by kernel_rfl) (by kernel_rfl) (fun _ _ _ h => h) (Or.inl ⟨by rfl, fun w' hw' => by go_simp⟩) hHeld ?_
          try simp only [Act.put, List.getElem_toArray, List.getElem_cons_succ, List.getElem_cons_zero, List.setIfInBounds_toArray, List.set_cons_zero, List.set_cons_succ]
          refine' wpAnyH_take (i := 33) (v := .bool false) rfl (by kernel_rfl) (by kernel_rfl) (by kernel_rfl) (fun _ _ _ h => h) (Or.inl ⟨by rfl, fun w' hw' => by go_simp⟩) hHeld ?_
          try simp only [Act.put, List.getElem_toArray, List.getElem_cons_succ, List.getElem_cons_zero, List.setIfInBounds_toArray, List.set_cons_zero, List.set_cons_succ]
          refine' wpAnyH_take (i := 34) (v := .bool false) rfl (by kernel_rfl) (by kernel_rfl) (by kernel_rfl) (fun _ _ _ h => h) (Or.inl ⟨by rfl, fun w' hw' => by go_simp⟩) hHeld ?_
          try simp only [Act.put, List.getElem_toArray, List.getElem_cons_succ, List.getElem_cons_zero, List.setIfInBounds_toArray, List.set_cons_zero, List.set_cons_succ]
          refine' wpAnyH_take (i := 35) (v := .bool false) rfl (by kernel_rfl) (by kernel_rfl) (by kernel_rfl) (fun _ _ _ h => h) (Or.inl ⟨by rfl, fun w' hw' => by go_simp⟩) hHeld ?_
          try simp only [Act.put, List.getElem_toArray, List.getElem_cons_succ, List.getElem_cons_zero, List.setIfInBounds_toArray, List.set_cons_zero, List.set_cons_succ]
          refine' wpAnyH_take (i := 36) (v := _) rfl (by kernel_rfl) (by kernel_rfl) (by kernel_rfl) (fun _ _ _ h => h) (yieldsIf_load_mid (by rfl) 24 _ rfl _ _ rfl (R.map u8v) _ (fun w' h => hr13.below h) hu rfl hzR) hHeld ?_
          try simp only [Act.put, List.getElem_toArray, List.getElem_cons_succ, List.getElem_cons_zero, List.setIfInBounds_toArray, List.set_cons_zero, List.set_cons_succ]
          refine' wpAnyH_take (i := 37) (v := .slice A n c) rfl (by kernel_rfl) (by kernel_rfl) (by kernel_rfl) (fun _ _ _ h => h) (Or.inl ⟨by rfl, fun w' hw' => by go_simp⟩) hHeld ?_
          try simp only [Act.put, List.getElem_toArray, List.getElem_cons_succ, List.getElem_cons_zero, List.setIfInBounds_toArray, List.set_cons_zero, List.set_cons_succ]
          refine wpAnyH_ready (rs := [38]) (by kernel_rfl) (by simp) ?_
          refine AllReadyH.cons rfl (fun K hK => ?_) AllReadyH.nil
          go_simp
          (with_reducible refine (HROOT2.out _ (HRO.out.below hHeld)).mono ?_)
          rintro e9 V9 ⟨rfl, hb9⟩
          refine hK.out _ _ (hHeld.trans (hb9.mono hHeld.size)) (fun hHeld => ?_)
          clear hK K hb9
          try simp only [Act.put, List.getElem_toArray, List.getElem_cons_succ, List.getElem_cons_zero, List.setIfInBounds_toArray, List.set_cons_zero, List.set_cons_succ]
          refine' wpAnyH_take (i := 39) (v := .bool false) rfl (by kernel_rfl) (by kernel_rfl) (by kernel_rfl) (fun _ _ _ h => h) (Or.inl ⟨by rfl, fun w' hw' => by have hv := HER.out w'; go_simp⟩) hHeld ?_
          try simp only [Act.put, List.getElem_toArray, List.getElem_cons_succ, List.getElem_cons_zero, List.setIfInBounds_toArray, List.set_cons_zero, List.set_cons_succ]
          refine' wpAnyH_take (i := 40) (v := .bool false) rfl (by kernel_rfl) (by kernel_rfl) (by kernel_rfl) (fun _ _ _ h => h) (Or.inl ⟨by rfl, fun w' hw' => by go_simp⟩) hHeld ?_
          try simp only [Act.put, List.getElem_toArray, List.getElem_cons_succ, List.getElem_cons_zero, List.setIfInBounds_toArray, List.set_cons_zero, List.set_cons_succ]
          refine wpAnyH_done (by kernel_rfl) ?_ _
          replace HBD := hid (HBD.out.trans (hHeld.mono HBD.out.size))
          clear hHeld fT fS fA fxl hr13 fW
          go_wp2_with (fail)
          go_roundw
          case rel => exact ⟨k + 1, HLTK.out, by go_num, HBD⟩
          case measure => first | exact pv_meas2 HLTK.out | (rw [q9]; exact pv_meas2 HLTK.out)
        · obtain rfl : m = k := by omega
          have z3 : ¬ (m : Int) < (m : Int) := by omega
          have hSl : (wholeM (n : Int) (rootM l)).length = 32 := tagB_length _ _
          have hSM := HSUM.out
          have hCK := HCK.out
          generalize wholeM (n : Int) (rootM l) = S at hSM hCK hSl
          have hba := HBX.out.below HBT.out
          have f0 := (HP9.out.below HBK.out).cell_ (i := 0) rfl
          have f1 := (HP9.out.below HBK.out).cell_ (i := 1) rfl
          have hro := HR.out.below HBT.out
          have hpr := HPR.out.below HBT.out
          have hok : ∀ (j : Nat) (X : PlD), Xs[j]? = some X → PlOk w10 w1.heap.size l n (f + j) X := fun j X hj => (HK.out j X hj).below HBT.out
          have hbt := HB.out.trans (HBT.out.mono HB.out.size)
          clear hlt hk
          go_upto_region 32 with (fail)
          have fa := range_later hba
          have f20 : ∀ p : LaterW w10, p.w.cell? ⟨g5, 0, none⟩ = some (.int .i64 (n : Int)) := fun p => cell_belM p.h f0
          have f21 : ∀ p : LaterW w10, p.w.cell? ⟨g5, 1, none⟩ = some (.slice B m d) := fun p => cell_belM p.h f1
          have dS : ∀ p : LaterW w10, Calls Try.prog 19 #[.slice A n c] p.w fun e w' => e = .returned (.agg (idVals S)) ∧ Below p.w.heap.size p.w w' := fun p => hSM p.w (hro.below p.h)
          have dC : ∀ p : LaterW w10, Calls Try.prog 18 #[.agg (idVals S), .agg (List.map u8v a).toArray, .agg #[.int .i64 (n : Int), .slice B m d]] p.w fun e w' => e = .returned (.tuple #[.bool true, .bool true]) ∧ Below p.w.heap.size p.w w' := fun p => hCK p.w w1.heap.size d B Xs HXM.out (hpr.below p.h) (fun j X hj => (hok j X hj).below p.h)
          clear f0 f1 hSM hCK
          refine wp_region_later mixed (by kernel_rfl) ?_
          repeat (first
            | ((with_reducible refine wpQuiet_skip (by with_unfolding_all rfl) ?_); simp only [Act.put, List.setIfInBounds_toArray, List.set_cons_zero, List.set_cons_succ])
            | ((with_reducible refine wpQuiet_load_if (by with_unfolding_all rfl) 24 _ rfl _ _ rfl (a.map u8v) _ fa hu (by with_unfolding_all rfl) hza ?_); simp only [Act.put, List.setIfInBounds_toArray, List.set_cons_zero, List.set_cons_succ])
            | ((with_reducible refine wpQuiet_step (fun K hK => ?_)); go_simp; first | ((with_reducible refine hK _ ?_); clear hK K) | (with_reducible apply Exists.intro; (with_reducible refine ⟨fun _ => ?_, hK _ ?_⟩); ((first | (go_at_call 19; exact later_of (dS _)) | (go_at_call 18; exact later_of (dC _)))); clear hK K)))
          with_reducible refine wpQuiet_nil ?_
          intro _ hw'
          obtain ⟨p9, rfl⟩ := hw'
          have hp9 := p9.h
          generalize p9.w = w14 at *
          have hba2 := hba.below hp9
          have hro2 := hro.below hp9
          have cH := HHAS.out
          replace hbt := hbt.trans (hp9.mono hbt.size)
          clear fa f20 f21 dS dC hp9 hba hro hpr hok
          go_wp2_with (first
            | (with_reducible refine wpList_load_if (by with_unfolding_all rfl) 24 _ rfl _ _ rfl (a.map u8v) _ hba2 hu rfl hza ?_)
            | (go_at_call 13; (with_reducible refine (cH _ hro2).mono ?_); rintro e15 w15 ⟨rfl, hb15⟩)
            | (go_at_call 9; (with_reducible refine (awake21_any _).mono ?_); rintro e16 w16 ⟨rfl, hb16⟩))
          go_ret
          exact ⟨rfl, hbt.trans ((hb15.trans (hb16.mono hb15.size)).mono hbt.size)⟩

set_option maxRecDepth 100000 in
set_option maxHeartbeats 16000000 in
theorem mp_out (A : Option Addr) (n c : Nat) (a : List UInt8) (ha : a.length = 32) (w : World) (l : List (List UInt8)) (hn : n ≤ 30) (h : RowC w A n c l) (hs : Steps l n) (hin : a ∉ l) (p f t m : Nat) (hc : Cuts l a p) (hf : f = p - 1) (ht : t = min (p + 1) n) (hfm : f + m = t) :
    Calls Try.prog 3 #[.slice A n c, .agg (idVals a)] w fun e w' => e = .returned (.bool true) ∧ Below w.heap.size w w' := by
  have mixed : Try.prog.follows .mixedOrders = true := by kernel_rfl
  have hu := Try.underlying24
  have z1 : ¬ (30 : Int) < n := by omega
  have hza : (Try.prog.info? 24).map (·.size) = some (a.map u8v).length := by rw [List.length_map, ha]; exact sizeId
  have hln := h.1.1
  have hri : Rising l := steps_rising l (by rw [hln]; exact hs)
  have hpn : p ≤ n := by rw [← hln]; exact hc.1
  have cP : ∀ W, RowC W A n c l → Calls Try.prog 10 #[.slice A n c, .agg (List.map u8v a).toArray] W (PvQ l n f m W) := fun W hW => prove_out A n c l a ha W hW hs hin p f t m hc hf ht hfm
  have cI : ∀ W, RowC W A n c l → Calls Try.prog 11 #[.slice A n c] W fun e w' => e = .returned (.bool true) ∧ Below W.heap.size W w' := fun W hW => (rrises_any A n c l W hW.1).mono (by
    rintro e w' ⟨v, rfl, ⟨t, rfl, ht⟩, hb⟩
    cases t
    · exact ⟨absurd (ht.2 hs) (by decide), hb⟩
    · exact ⟨rfl, hb⟩)
  have HHAS : Hid (∀ W, RowC W A n c l → Calls Try.prog 13 #[.slice A n c, .agg (List.map u8v a).toArray] W fun e w' => e = .returned (.bool false) ∧ Below W.heap.size W w') := hid (fun W hW => by
    have := rhas_any A n c l a ha W hW.1
    rw [decide_eq_false hin] at this
    exact this)
  have HSUM : Hid (∀ W, RowC W A n c l → Calls Try.prog 19 #[.slice A n c] W fun e w' => e = .returned (.agg (idVals (wholeM (n : Int) (rootM l)))) ∧ Below W.heap.size W w') := hid (fun W hW => rsum21_any A n c l W hW)
  have HROOT : Hid (∀ W, RowC W A n c l → Calls Try.prog 17 #[.slice A n c] W fun e w' => e = .returned (.agg (idVals (rootM l))) ∧ Below W.heap.size W w') := hid (fun W hW => rroot_any l.length l (Nat.le_refl _) A n c W hW)
  have HWAY : Hid (∀ k, k < n → ∀ W, RowC W A n c l → Calls Try.prog 16 #[.slice A n c, .int .i64 (k : Int)] W fun e w' => ∃ A9 c9, e = .returned (.slice A9 (wayL l n k).length c9) ∧ RowC w' A9 (wayL l n k).length c9 (wayL l n k) ∧ Below W.heap.size W w') := hid (fun k hk W hW => rway21_any A n c l k hk W hW)
  have HLESS : Hid (∀ (x : List UInt8), x.length = 32 → ∀ W, Calls Try.prog 12 #[.agg (List.map u8v x).toArray, .agg (List.map u8v a).toArray] W fun e w' => e = .returned (.bool (ltB x a)) ∧ Below W.heap.size W w') := hid (fun x hx W => rless_any x a hx ha W)
  have HLT : Hid (∀ (k : Nat) (x : List UInt8), l[k]? = some x → ltB x a = decide (k < p)) := hid (fun k x hx => by
    by_cases hk : k < p
    · rw [decide_eq_true hk]; exact ltB_of (hc.2.1 k x hk hx)
    · rw [decide_eq_false hk]; exact ltB_not (hc.2.2 k x (by omega) hx))
  have HCK : Hid (∀ (W : World) (b d : Nat) (B : Option Addr) (Xs : List PlD), Xs.length = m → PlRd W B Xs → (∀ (j : Nat) (X : PlD), Xs[j]? = some X → PlOk W b l n (f + j) X) → Calls Try.prog 18 #[.agg (idVals (wholeM (n : Int) (rootM l))), .agg (List.map u8v a).toArray, .agg #[.int .i64 (n : Int), .slice B m d]] W fun e w' => e = .returned (.tuple #[.bool false, .bool true]) ∧ Below W.heap.size W w') := hid (fun W b d B Xs hx hP ho => by
    exact check_ok_out ha hln (by omega) hri hx hin hc hf ht hfm hP ho)
  have HPN := hid hpn
  have HLN := hid hln
  have HN := hid hn
  have HW2 := hid (wantL_two hpn hf ht hfm)
  have HM : Hid (m ≤ 2) := hid (by omega)
  clear hf ht hfm hs hri hin hc hpn hln hn
  go_enter Try.func3, Try.ntmps3
  go_upto_region 3 with (fail)
  have hb := (Below.refl w.heap.size w).alloc (Nat.le_refl _) (.cells (idVals a) 24)
  have hbx := range_blk (Blk.new w 24 (idVals a))
  replace h := h.below hb
  generalize w.alloc (.cells (idVals a) 24) = w1 at *
  go_upto_region 4 with (first
    | (with_reducible refine wpList_load_if (by with_unfolding_all rfl) 24 _ rfl _ _ rfl (a.map u8v) _ hbx hu rfl hza ?_)
    | (go_at_call 10; (with_reducible refine (cP _ h).mono ?_); rintro e2 w2 ⟨B, d, Xs, rfl, hXm, hO, hK, hb2⟩))
  have hb3 := (Below.refl w2.heap.size w2).alloc (Nat.le_refl _) (.cells #[.int .i64 (n : Int), .slice B m d] 28)
  have hp := Blk.new w2 28 #[.int .i64 (n : Int), .slice B m d]
  replace h := (h.below hb2).below hb3
  replace hbx := (hbx.below hb2).below hb3
  have HK : Hid (∀ (j : Nat) (X : PlD), Xs[j]? = some X → PlOk (w2.alloc (.cells #[.int .i64 (n : Int), .slice B m d] 28)) w1.heap.size l n (f + j) X) := hid (fun j X hj => (hK j X hj).below hb3)
  have hPr : PlRd w2 B Xs := by
    obtain ⟨A', c', e', _, _, _, hr⟩ := hO.rd (fun X hX => by
      obtain ⟨j, hj⟩ := List.getElem?_of_mem hX
      exact (hK j X hj).fo)
    injection e' with e1 e2 e3
    rw [e1]
    exact hr
  have HPR := hid (hPr.below hb3)
  have HXM := hid hXm
  replace hb := hb.trans ((hb2.trans (hb3.mono hb2.size)).mono hb.size)
  clear hb2 hb3 cP hPr hO hK hXm
  generalize w2.alloc (.cells #[.int .i64 (n : Int), .slice B m d] 28) = w3 at *
  obtain ⟨g5, hg5⟩ : ∃ g, w2.heap.size = g := ⟨_, rfl⟩
  rw [hg5] at hp
  simp only [hg5]
  clear hg5
  go_upto_region 6 with (first
    | (go_at_call 11; (with_reducible refine (cI _ h).mono ?_); rintro e4 w4 ⟨rfl, hb4⟩))
  have HP5 := hid (hp.below hb4)
  have HR := hid (h.below hb4)
  have HBX := hid (hbx.below hb4)
  have HB := hid (hb.trans (hb4.mono hb.size))
  replace HPR := hid (HPR.out.below hb4)
  replace HK : Hid (∀ (j : Nat) (X : PlD), Xs[j]? = some X → PlOk w4 w1.heap.size l n (f + j) X) := hid (fun j X hj => (HK.out j X hj).below hb4)
  have f0 := HP5.out.cell_ (i := 0) rfl
  have zn : ((n : Int) != (n : Int)) = false := by simp
  clear hp h hbx hb hb4 cI
  go_wp2_with (fail)
  clear f0 zn
  go_loopw [7, 58] (fun u v wr => ∃ k c9 : Nat, k ≤ n ∧ u = .int .i64 (c9 : Int) ∧ v = .int .i64 (k : Int) ∧ Hid (c9 = min k p) ∧ Hid (Below w4.heap.size w4 wr)) (fun _ v _ => n - (intOf v).toNat)
  case atStart => exact ⟨0, 0, Nat.zero_le _, rfl, rfl, hid (Nat.zero_min _).symm, hid (Below.refl _ _)⟩
  case round =>
    obtain ⟨k, c9, hk, rfl, rfl, HC9, HBB⟩ := hrel
    obtain ⟨wo, hwo⟩ : ∃ u, u = wr := ⟨_, rfl⟩
    subst hwo
    by_cases hlt : k < n
    · obtain ⟨x, hx⟩ : ∃ x, l[k]? = some x := ⟨_, List.getElem?_eq_getElem (by have := HLN.out; omega)⟩
      obtain ⟨gx, qx, fx, lx, hix⟩ := (HR.out.below HBB.out).1.2.2.pick (k := k) (a := x) c HLN.out hx
      have hzx : (Try.prog.info? 24).map (·.size) = some (x.map u8v).length := by rw [List.length_map, lx]; exact sizeId
      have cL := HLESS.out x lx
      rw [HLT.out k x hx] at cL
      have z3 : (k : Int) < (n : Int) := Int.ofNat_lt.2 hlt
      have q9 := pv_q1 (p := k) (by have := HN.out; omega)
      have q8 := pv_q1 (p := c9) (by have := HC9.out; have := HN.out; omega)
      have HLTK := hid hlt
      have hxl := lx
      clear hlt hk hx
      go_upto_region 12 with (first
        | (with_reducible refine wpList_load_if (by with_unfolding_all rfl) 24 _ rfl _ _ rfl (x.map u8v) _ fx hu rfl hzx ?_)
        | (with_reducible refine wpList_store_newid rfl _ _ rfl x lx rfl rfl (by with_unfolding_all rfl) ?_; intro w7 hr7 hb7))
      have hba := (HBX.out.below HBB.out).below hb7
      have HB7 := hid (HBB.out.trans (hb7.mono HBB.out.size))
      clear hix fx hb7 HBB
      generalize wo.heap.size = g9 at *
      by_cases hkp : k < p
      · rw [decide_eq_true hkp] at cL
        have HMN := hid (mp_min hkp)
        clear hkp
        go_wp2_with (first
          | (with_reducible refine wpList_load_if (by with_unfolding_all rfl) 24 _ rfl _ _ rfl (x.map u8v) _ hr7 hu rfl hzx ?_)
          | (with_reducible refine wpList_load_if (by with_unfolding_all rfl) 24 _ rfl _ _ rfl (a.map u8v) _ hba hu rfl hza ?_)
          | (go_at_call 12; (with_reducible refine (cL _).mono ?_); rintro e8 w8 ⟨rfl, hb8⟩))
        go_roundw
        case rel => exact ⟨k + 1, c9 + 1, HLTK.out, by go_num, by go_num, hid (by rw [HMN.out, HC9.out]), hid (HB7.out.trans (hb8.mono HB7.out.size))⟩
        case measure => first | exact pv_meas2 HLTK.out | (rw [q9]; exact pv_meas2 HLTK.out)
      · rw [decide_eq_false hkp] at cL
        have HMN := hid (mp_min2 hkp)
        clear hkp
        go_wp2_with (first
          | (with_reducible refine wpList_load_if (by with_unfolding_all rfl) 24 _ rfl _ _ rfl (x.map u8v) _ hr7 hu rfl hzx ?_)
          | (with_reducible refine wpList_load_if (by with_unfolding_all rfl) 24 _ rfl _ _ rfl (a.map u8v) _ hba hu rfl hza ?_)
          | (go_at_call 12; (with_reducible refine (cL _).mono ?_); rintro e8 w8 ⟨rfl, hb8⟩))
        go_roundw
        case rel => exact ⟨k + 1, c9, HLTK.out, by go_num, by go_num, hid (by rw [HMN.out, HC9.out]), hid (HB7.out.trans (hb8.mono HB7.out.size))⟩
        case measure => first | exact pv_meas2 HLTK.out | (rw [q9]; exact pv_meas2 HLTK.out)
    · obtain rfl : n = k := by omega
      have z3 : ¬ (n : Int) < (n : Int) := by omega
      obtain rfl : p = c9 := by have := HC9.out; have := HPN.out; omega
      have hba := HBX.out.below HBB.out
      have hro := HR.out.below HBB.out
      have cH := HHAS.out
      clear hlt hk HC9
      have qp : wrap64 ((p : Int) - 1) = (p : Int) - 1 := pv_q3 (by have := HPN.out; have := HN.out; omega)
      go_wp2_with (first
        | (with_reducible refine wpList_load_if (by with_unfolding_all rfl) 24 _ rfl _ _ rfl (a.map u8v) _ hba hu rfl hza ?_)
        | (go_at_call 13; (with_reducible refine (cH _ hro).mono ?_); rintro e8 w8 ⟨rfl, hb8⟩))
      have HB8 := hid (HBB.out.trans (hb8.mono HBB.out.size))
      have HQP := hid qp
      clear hb8 hba hro cH HBB qp
      go_loopw [10, 11] (fun u v wr => ∃ (j : Nat) (L : List Nat) (u9 : Value), j ≤ 2 ∧ u9 = u ∧ v = .int .i64 ((p : Int) - 1 + (j : Int)) ∧ Hid (NmOw wr w8.heap.size u9 L) ∧ Hid (L = wantL n p j) ∧ Hid (Below w8.heap.size w8 wr)) (fun _ v _ => ((p : Int) + 1 - intOf v).toNat)
      case atStart => exact ⟨0, [], _, Nat.zero_le _, rfl, (by have := HQP.out; first | (rw [this]; congr 1; omega) | (congr 1; omega)), hid (NmOw.nil _ _), hid rfl, hid (Below.refl _ _)⟩
      case round =>
        obtain ⟨j, L, uu, hj, rfl, rfl, HO, HL, HBJ⟩ := hrel
        obtain ⟨wj, hwj⟩ : ∃ u, u = wr := ⟨_, rfl⟩
        subst hwj
        by_cases hlt : j < 2
        · have HLTJ := hid hlt
          have HLen : Hid (L.length ≤ 2) := hid (by rw [HL.out]; exact wantL_len n p j)
          have q9 : wrap64 ((p : Int) - 1 + (j : Int) + 1) = (p : Int) - 1 + (j : Int) + 1 := by have := HPN.out; have := HN.out; unfold wrap64; omega
          have z3 : (p : Int) - 1 + (j : Int) ≤ (p : Int) := by omega
          have z3b : decide ((p : Int) - 1 + (j : Int) ≤ (p : Int)) = true := decide_eq_true z3
          rcases want_cases n p j hlt HPN.out with ⟨c1, c2⟩ | ⟨c1, c2, c3⟩ | ⟨q, c1, c2, c3⟩
          · have HC2 := hid c2
            have z4 : ¬ (0 : Int) ≤ (p : Int) - 1 + (j : Int) := by omega
            have z4b : decide ((0 : Int) ≤ (p : Int) - 1 + (j : Int)) = false := decide_eq_false z4
            clear c1 c2 hlt hj
            obtain ⟨I, hI⟩ : ∃ I, (p : Int) - 1 + (j : Int) = I := ⟨_, rfl⟩
            have HI := hid hI
            simp only [hI] at z3 z3b z4 z4b q9 ⊢
            clear hI
            go_wp2_with (fail)
            go_roundw
            case rel => exact ⟨j + 1, L, _, HLTJ.out, rfl, (by have := HI.out; first | (rw [q9]; congr 1; omega) | (congr 1; omega)), HO, hid (by rw [HL.out, HC2.out]), HBJ⟩
            case measure => have := HI.out; have := HLTJ.out; simp only [q9, intOf_i64]; omega
          · have HC2 := hid c2
            have z4 : (0 : Int) ≤ (p : Int) - 1 + (j : Int) := by omega
            have z4b : decide ((0 : Int) ≤ (p : Int) - 1 + (j : Int)) = true := decide_eq_true z4
            have z5 : ¬ (p : Int) - 1 + (j : Int) < (n : Int) := by omega
            have z5b : decide ((p : Int) - 1 + (j : Int) < (n : Int)) = false := decide_eq_false z5
            clear c1 c2 c3 hlt hj
            obtain ⟨I, hI⟩ : ∃ I, (p : Int) - 1 + (j : Int) = I := ⟨_, rfl⟩
            have HI := hid hI
            simp only [hI] at z3 z3b z4 z4b z5 z5b q9 ⊢
            clear hI
            go_wp2_with (fail)
            go_roundw
            case rel => exact ⟨j + 1, L, _, HLTJ.out, rfl, (by have := HI.out; first | (rw [q9]; congr 1; omega) | (congr 1; omega)), HO, hid (by rw [HL.out, HC2.out]), HBJ⟩
            case measure => have := HI.out; have := HLTJ.out; simp only [q9, intOf_i64]; omega
          · have HC2 := hid c3
            have z4 : (0 : Int) ≤ (q : Int) := by omega
            have z4b : decide ((0 : Int) ≤ (q : Int)) = true := decide_eq_true z4
            have z5 : (q : Int) < (n : Int) := by omega
            have z5b : decide ((q : Int) < (n : Int)) = true := decide_eq_true z5
            have HI := hid c1
            simp only [c1] at z3 z3b q9 ⊢
            clear c1 c2 c3 hlt hj
            have hal := (Below.refl wj.heap.size wj).alloc (Nat.le_refl _) (.cells #[.int .i64 (q : Int)] 3)
            have HC5 : Hid ((wj.alloc (.cells #[.int .i64 (q : Int)] 3)).cell? ⟨wj.heap.size, 0, none⟩ = some (.int .i64 (q : Int))) := hid ((Blk.new wj 3 #[.int .i64 (q : Int)]).cell_ rfl)
            have HO5 : Hid (NmOw (wj.alloc (.cells #[.int .i64 (q : Int)] 3)) w8.heap.size uu L) := hid (own_below HO.out hal)
            have HA := hid (HBJ.out.trans (hal.mono HBJ.out.size))
            have HB5 := hid HA.out.size
            have HL5 : Hid (L.length + 1 ≤ 1000000) := hid (by have := HLen.out; omega)
            clear hal
            go_wp2_with (first
              | (at_builtin; refine wpList_append_nm rfl _ _ rfl w8.heap.size _ _ rfl HO5.out _ q rfl HC5.out HL5.out HB5.out ?_; intro v9 w9 hown9 hg9))
            go_roundw
            case rel => exact ⟨j + 1, L ++ [q], _, HLTJ.out, rfl, (by have := HI.out; first | (rw [q9]; congr 1; omega) | (congr 1; omega)), hid hown9, hid (by rw [HC2.out, HL.out]), hid (NmOw.grown HO5.out hg9 (Nat.le_refl _) HA.out HB5.out)⟩
            case measure => have := HI.out; have := HLTJ.out; simp only [q9, intOf_i64]; omega
        · have hj2 : 2 = j := by omega
          subst hj2
          have z3 : ¬ (p : Int) - 1 + ((2 : Nat) : Int) ≤ (p : Int) := by omega
          have z3b : decide ((p : Int) - 1 + ((2 : Nat) : Int) ≤ (p : Int)) = false := decide_eq_false z3
          obtain ⟨Wd, cw, hu9, hat⟩ := HO.out.at_
          subst hu9
          obtain ⟨hlm, hget⟩ := HW2.out
          rw [← HL.out] at hlm hget
          have HWT : Hid (WantAt wj Wd m f) := hid (fun k hk => hat k _ (hget k hk))
          rw [hlm]
          have HB9 := hid (HB8.out.trans (HBJ.out.mono HB8.out.size))
          obtain ⟨w9, hw9⟩ : ∃ u, u = wj := ⟨_, rfl⟩
          subst hw9
          obtain ⟨I, hI⟩ : ∃ I, (p : Int) - 1 + ((2 : Nat) : Int) = I := ⟨_, rfl⟩
          simp only [hI] at z3 z3b ⊢
          clear hI hlt hj HO HL HBJ HB8 hat hlm hget
          go_upto_region 23 with (fail)
          have HP9 := hid (HP5.out.below HB9.out)
          have HR9 := hid (HR.out.below HB9.out)
          have f1 := HP9.out.cell_ (i := 1) rfl
          have zm : ((m : Int) != (m : Int)) = false := by simp
          go_wp2_with (fail)
          clear f1 zm
          go_loopw [101] (fun v wr => ∃ k : Nat, k ≤ m ∧ v = .int .i64 (k : Int) ∧ Hid (Below w9.heap.size w9 wr)) (fun v _ => m - (intOf v).toNat)
          case atStart => exact ⟨0, Nat.zero_le _, rfl, hid (Below.refl _ _)⟩
          case round =>
            obtain ⟨k, hk, rfl, HBK⟩ := hrel
            obtain ⟨w10, hw10⟩ : ∃ u, u = wr := ⟨_, rfl⟩
            subst hw10
            have HBT := hid (HB9.out.trans (HBK.out.mono HB9.out.size))
            by_cases hlt : k < m
            · obtain ⟨X, hX⟩ : ∃ X, Xs[k]? = some X := ⟨_, List.getElem?_eq_getElem (by have := HXM.out; omega)⟩
              have HOK := hid ((HK.out k X hX).below HBT.out)
              obtain ⟨g, q, fx, hok, hix⟩ := (HPR.out.below HBT.out).pick (k := k) d HXM.out hX
              obtain ⟨gW, hgW, fw⟩ := (HWT.out.below HBK.out) k hlt
              have hiw : ∀ W, (Instr.indexAt 34 (.slice Wd m cw) (.int .i64 (k : Int))).run Try.prog W = .ok (.pointer (some ⟨gW, k, none⟩)) W := fun W => by rw [hgW]; exact nm_index gW m cw k hlt W
              have HIW := hid hiw
              obtain ⟨r, hr⟩ : ∃ r, f + k = r := ⟨_, rfl⟩
              rw [hr] at fw HOK
              have z3 : (k : Int) < (m : Int) := Int.ofNat_lt.2 hlt
              have q9 := pv_q1 (p := k) (by have := HM.out; omega)
              have HLTK := hid hlt
              have f0 := (HP9.out.below HBK.out).cell_ (i := 0) rfl
              have HFW := hid fw
              clear hlt hk hX hr hgW hiw fw
              go_upto_region 28 with (first
                | (with_reducible refine wpList_load_plr (by with_unfolding_all rfl) _ rfl g q rfl fx hok ?_)
                | (with_reducible refine wpList_store_pln rfl _ _ rfl rfl rfl hok rfl ?_))
              have hx5 := PlX.new w10 X
              have hb5 := (Below.refl w10.heap.size w10).alloc (Nat.le_refl _) (.cells X.cs 37)
              have f05 : (w10.alloc (.cells X.cs 37)).cell? ⟨g5, 0, none⟩ = some (.int .i64 (n : Int)) := cell_belM hb5 f0
              replace HOK := hid (HOK.out.below hb5)
              replace HFW := hid (cell_belM hb5 HFW.out)
              replace HBK := hid (HBK.out.trans (hb5.mono HBK.out.size))
              clear hb5 fx hix f0
              generalize w10.alloc (.cells X.cs 37) = w11 at *
              obtain ⟨g13, hg13⟩ : ∃ g, w10.heap.size = g := ⟨_, rfl⟩
              rw [hg13] at hx5
              simp only [hg13]
              clear hg13
              have cC := climb_ok HOK.out HLN.out (by have := HN.out; omega)
              have hRl := rootM_length l
              have hRW := HROOT.out
              have HSM := HSUM.out
              generalize rootM l = R at cC hRl hRW
              have hzR : (Try.prog.info? 24).map (·.size) = some (R.map u8v).length := by rw [List.length_map, hRl]; exact sizeId
              have HROOT2 := hid hRW
              clear HSM hRW
              go_upto_region 29 with (first
                | (with_reducible refine wpList_load_plx (by with_unfolding_all rfl) _ rfl g13 rfl hx5 hok ?_)
                | (go_at_call 14; (with_reducible refine cC.mono ?_); rintro e12 w12 ⟨rfl, hb12⟩)
                | (with_reducible refine wpList_store_newid rfl _ _ rfl R hRl rfl rfl (by with_unfolding_all rfl) ?_; intro w13 hr13 hb13))
              have hbb := hb12.trans (hb13.mono hb12.size)
              replace HOK := hid (HOK.out.below hbb)
              replace HFW := hid (cell_belM hbb HFW.out)
              replace hx5 := hx5.below hbb
              replace HBK := hid (HBK.out.trans (hbb.mono HBK.out.size))
              clear hb12 hb13 hbb cC f05
              generalize w12.heap.size = g14 at *
              have HBT2 := hid (HB9.out.trans (HBK.out.mono HB9.out.size))
              -- the drawn region
              have hrk : r < n := by have := (List.getElem?_eq_some_iff.1 HOK.out.fi).1; have := HLN.out; omega
              obtain ⟨gx, qx, fxl, lxl, hixl⟩ := (HR.out.below HBT2.out).1.2.2.pick (k := r) (a := X.a) c HLN.out HOK.out.fi
              have HIX := hid hixl
              have hzX : (Try.prog.info? 24).map (·.size) = some (X.a.map u8v).length := by rw [List.length_map, lxl]; exact sizeId
              obtain ⟨A5, c5, e5, hrw⟩ := own_rowW HOK.out.fw (wayL_32 l n r) (by have := partsL_len 0 n r; have := HOK.out.fn; have := HN.out; omega)
              injection e5 with e51 e52 e53
              subst e51 e53
              have HRW := hid hrw
              have cY := HWAY.out r hrk
              generalize wayL l n r = Y at *
              have fT : w13.cell? ⟨g13, 32, none⟩ = some (.int .i64 (r : Int)) := by rw [← HOK.out.ft]; exact hx5.c32 hok
              have fS := hx5.c33 hok
              have fA : w13.rangeAt g13 0 (X.a.map u8v) := hx5.ida
              have HEX : Hid (∀ W, (Op.equalIn 10000 24 (.agg (List.map u8v X.a).toArray) (.agg (List.map u8v X.a).toArray)).run Try.prog W = .ok true W) := hid (fun W => (ids_eq W X.a X.a lxl lxl).trans (by rw [decide_eq_true rfl]))
              have HER : Hid (∀ W, (Op.equalIn 10000 24 (.agg (List.map u8v R).toArray) (.agg (idVals R))).run Try.prog W = .ok true W) := hid (fun W => (ids_eq W R R hRl hRl).trans (by rw [decide_eq_true rfl]))
              have HCY := hid cY
              have HRO := hid (HR.out.below HBT2.out)
              clear hrk hixl hrw cY e52
              have HX5 := hid hx5
              clear hx5
              refine wp_region_held_drew (S := fun V => Below w13.drew.heap.size w13.drew V) (by kernel_rfl) (Below.refl _ _) (fun hHeld => ?_)
              have hbd := below_drew1 w13
              replace fT := cell_belM hbd fT
              replace fS := cell_belM hbd fS
              replace fA := fA.below hbd
              replace fxl := fxl.below hbd
              replace hr13 := hr13.below hbd
              have fW := cell_belM hbd HFW.out
              replace HRO := hid (HRO.out.below hbd)
              replace HRW := hid (HRW.out.below hbd)
              have HBD := hid (HBK.out.trans (hbd.mono HBK.out.size))
              clear hbd
              generalize w13.drew = V0 at *
              refine' wpAnyH_take (i := 0) (v := .pointer (some ⟨g13, 32, none⟩)) rfl (by kernel_rfl) (by kernel_rfl) (by kernel_rfl) (fun _ _ _ h => h) (Or.inl ⟨by rfl, fun w' hw' => by go_simp⟩) hHeld ?_
              try simp only [Act.put, List.getElem_toArray, List.getElem_cons_succ, List.getElem_cons_zero, List.setIfInBounds_toArray, List.set_cons_zero, List.set_cons_succ]
              refine' wpAnyH_take (i := 1) (v := .int .i64 (r : Int)) rfl (by kernel_rfl) (by kernel_rfl) (by kernel_rfl) (fun _ _ _ h => h) (Or.inl ⟨by rfl, fun w' hw' => by have hv := cell_belM hw' fT; go_simp⟩) hHeld ?_
              try simp only [Act.put, List.getElem_toArray, List.getElem_cons_succ, List.getElem_cons_zero, List.setIfInBounds_toArray, List.set_cons_zero, List.set_cons_succ]
              refine' wpAnyH_take (i := 2) (v := .slice Wd m cw) rfl (by kernel_rfl) (by kernel_rfl) (by kernel_rfl) (fun _ _ _ h => h) (Or.inl ⟨by rfl, fun w' hw' => by go_simp⟩) hHeld ?_
              try simp only [Act.put, List.getElem_toArray, List.getElem_cons_succ, List.getElem_cons_zero, List.setIfInBounds_toArray, List.set_cons_zero, List.set_cons_succ]
              refine' wpAnyH_take (i := 3) (v := .int .i64 (k : Int)) rfl (by kernel_rfl) (by kernel_rfl) (by kernel_rfl) (fun _ _ _ h => h) (Or.inl ⟨by rfl, fun w' hw' => by go_simp⟩) hHeld ?_
              try simp only [Act.put, List.getElem_toArray, List.getElem_cons_succ, List.getElem_cons_zero, List.setIfInBounds_toArray, List.set_cons_zero, List.set_cons_succ]
              refine' wpAnyH_take (i := 4) (v := .pointer (some ⟨gW, k, none⟩)) rfl (by kernel_rfl) (by kernel_rfl) (by kernel_rfl) (fun _ _ _ h => h) (Or.inl ⟨by rfl, fun w' hw' => by have hv := HIW.out w'; go_simp⟩) hHeld ?_
              try simp only [Act.put, List.getElem_toArray, List.getElem_cons_succ, List.getElem_cons_zero, List.setIfInBounds_toArray, List.set_cons_zero, List.set_cons_succ]
              refine' wpAnyH_take (i := 5) (v := .int .i64 (r : Int)) rfl (by kernel_rfl) (by kernel_rfl) (by kernel_rfl) (fun _ _ _ h => h) (Or.inl ⟨by rfl, fun w' hw' => by have hv := cell_belM hw' fW; go_simp⟩) hHeld ?_
              try simp only [Act.put, List.getElem_toArray, List.getElem_cons_succ, List.getElem_cons_zero, List.setIfInBounds_toArray, List.set_cons_zero, List.set_cons_succ]
              refine' wpAnyH_take (i := 6) (v := .bool false) rfl (by kernel_rfl) (by kernel_rfl) (by kernel_rfl) (fun _ _ _ h => h) (Or.inl ⟨by rfl, fun w' hw' => by go_simp⟩) hHeld ?_
              try simp only [Act.put, List.getElem_toArray, List.getElem_cons_succ, List.getElem_cons_zero, List.setIfInBounds_toArray, List.set_cons_zero, List.set_cons_succ]
              refine' wpAnyH_take (i := 7) (v := .bool false) rfl (by kernel_rfl) (by kernel_rfl) (by kernel_rfl) (fun _ _ _ h => h) (Or.inl ⟨by rfl, fun w' hw' => by go_simp⟩) hHeld ?_
              try simp only [Act.put, List.getElem_toArray, List.getElem_cons_succ, List.getElem_cons_zero, List.setIfInBounds_toArray, List.set_cons_zero, List.set_cons_succ]
              refine' wpAnyH_take (i := 8) (v := .pointer (some ⟨g13, 0, none⟩)) rfl (by kernel_rfl) (by kernel_rfl) (by kernel_rfl) (fun _ _ _ h => h) (Or.inl ⟨by rfl, fun w' hw' => by go_simp⟩) hHeld ?_
              try simp only [Act.put, List.getElem_toArray, List.getElem_cons_succ, List.getElem_cons_zero, List.setIfInBounds_toArray, List.set_cons_zero, List.set_cons_succ]
              refine' wpAnyH_take (i := 9) (v := _) rfl (by kernel_rfl) (by kernel_rfl) (by kernel_rfl) (fun _ _ _ h => h) (yieldsIf_load_mid (by rfl) 24 _ rfl _ _ rfl (X.a.map u8v) _ (fun w' h => fA.below h) hu rfl hzX) hHeld ?_
              try simp only [Act.put, List.getElem_toArray, List.getElem_cons_succ, List.getElem_cons_zero, List.setIfInBounds_toArray, List.set_cons_zero, List.set_cons_succ]
              refine' wpAnyH_take (i := 10) (v := .slice A n c) rfl (by kernel_rfl) (by kernel_rfl) (by kernel_rfl) (fun _ _ _ h => h) (Or.inl ⟨by rfl, fun w' hw' => by go_simp⟩) hHeld ?_
              try simp only [Act.put, List.getElem_toArray, List.getElem_cons_succ, List.getElem_cons_zero, List.setIfInBounds_toArray, List.set_cons_zero, List.set_cons_succ]
              refine' wpAnyH_take (i := 11) (v := .slice Wd m cw) rfl (by kernel_rfl) (by kernel_rfl) (by kernel_rfl) (fun _ _ _ h => h) (Or.inl ⟨by rfl, fun w' hw' => by go_simp⟩) hHeld ?_
              try simp only [Act.put, List.getElem_toArray, List.getElem_cons_succ, List.getElem_cons_zero, List.setIfInBounds_toArray, List.set_cons_zero, List.set_cons_succ]
              refine' wpAnyH_take (i := 12) (v := .int .i64 (k : Int)) rfl (by kernel_rfl) (by kernel_rfl) (by kernel_rfl) (fun _ _ _ h => h) (Or.inl ⟨by rfl, fun w' hw' => by go_simp⟩) hHeld ?_
              try simp only [Act.put, List.getElem_toArray, List.getElem_cons_succ, List.getElem_cons_zero, List.setIfInBounds_toArray, List.set_cons_zero, List.set_cons_succ]
              refine' wpAnyH_take (i := 13) (v := .pointer (some ⟨gW, k, none⟩)) rfl (by kernel_rfl) (by kernel_rfl) (by kernel_rfl) (fun _ _ _ h => h) (Or.inl ⟨by rfl, fun w' hw' => by have hv := HIW.out w'; go_simp⟩) hHeld ?_
              try simp only [Act.put, List.getElem_toArray, List.getElem_cons_succ, List.getElem_cons_zero, List.setIfInBounds_toArray, List.set_cons_zero, List.set_cons_succ]
              refine' wpAnyH_take (i := 14) (v := .int .i64 (r : Int)) rfl (by kernel_rfl) (by kernel_rfl) (by kernel_rfl) (fun _ _ _ h => h) (Or.inl ⟨by rfl, fun w' hw' => by have hv := cell_belM hw' fW; go_simp⟩) hHeld ?_
              try simp only [Act.put, List.getElem_toArray, List.getElem_cons_succ, List.getElem_cons_zero, List.setIfInBounds_toArray, List.set_cons_zero, List.set_cons_succ]
              refine' wpAnyH_take (i := 15) (v := .pointer (some ⟨gx, qx, none⟩)) rfl (by kernel_rfl) (by kernel_rfl) (by kernel_rfl) (fun _ _ _ h => h) (Or.inl ⟨by rfl, fun w' hw' => by have hv := HIX.out w'; go_simp⟩) hHeld ?_
              try simp only [Act.put, List.getElem_toArray, List.getElem_cons_succ, List.getElem_cons_zero, List.setIfInBounds_toArray, List.set_cons_zero, List.set_cons_succ]
              refine' wpAnyH_take (i := 16) (v := _) rfl (by kernel_rfl) (by kernel_rfl) (by kernel_rfl) (fun _ _ _ h => h) (yieldsIf_load_mid (by rfl) 24 _ rfl _ _ rfl (X.a.map u8v) _ (fun w' h => fxl.below h) hu rfl hzX) hHeld ?_
              try simp only [Act.put, List.getElem_toArray, List.getElem_cons_succ, List.getElem_cons_zero, List.setIfInBounds_toArray, List.set_cons_zero, List.set_cons_succ]
              refine' wpAnyH_take (i := 17) (v := .bool false) rfl (by kernel_rfl) (by kernel_rfl) (by kernel_rfl) (fun _ _ _ h => h) (Or.inl ⟨by rfl, fun w' hw' => by have hv := HEX.out w'; go_simp⟩) hHeld ?_
              try simp only [Act.put, List.getElem_toArray, List.getElem_cons_succ, List.getElem_cons_zero, List.setIfInBounds_toArray, List.set_cons_zero, List.set_cons_succ]
              refine' wpAnyH_take (i := 18) (v := .bool false) rfl (by kernel_rfl) (by kernel_rfl) (by kernel_rfl) (fun _ _ _ h => h) (Or.inl ⟨by rfl, fun w' hw' => by go_simp⟩) hHeld ?_
              try simp only [Act.put, List.getElem_toArray, List.getElem_cons_succ, List.getElem_cons_zero, List.setIfInBounds_toArray, List.set_cons_zero, List.set_cons_succ]
              refine' wpAnyH_take (i := 19) (v := .bool false) rfl (by kernel_rfl) (by kernel_rfl) (by kernel_rfl) (fun _ _ _ h => h) (Or.inl ⟨by rfl, fun w' hw' => by go_simp⟩) hHeld ?_
              try simp only [Act.put, List.getElem_toArray, List.getElem_cons_succ, List.getElem_cons_zero, List.setIfInBounds_toArray, List.set_cons_zero, List.set_cons_succ]
              refine' wpAnyH_take (i := 20) (v := .pointer (some ⟨g13, 33, none⟩)) rfl (by kernel_rfl) (by kernel_rfl) (by kernel_rfl) (fun _ _ _ h => h) (Or.inl ⟨by rfl, fun w' hw' => by go_simp⟩) hHeld ?_
              try simp only [Act.put, List.getElem_toArray, List.getElem_cons_succ, List.getElem_cons_zero, List.setIfInBounds_toArray, List.set_cons_zero, List.set_cons_succ]
              refine' wpAnyH_take (i := 21) (v := .slice X.A X.n X.c) rfl (by kernel_rfl) (by kernel_rfl) (by kernel_rfl) (fun _ _ _ h => h) (Or.inl ⟨by rfl, fun w' hw' => by have hv := cell_belM hw' fS; go_simp⟩) hHeld ?_
              try simp only [Act.put, List.getElem_toArray, List.getElem_cons_succ, List.getElem_cons_zero, List.setIfInBounds_toArray, List.set_cons_zero, List.set_cons_succ]
              refine' wpAnyH_take (i := 22) (v := .slice A n c) rfl (by kernel_rfl) (by kernel_rfl) (by kernel_rfl) (fun _ _ _ h => h) (Or.inl ⟨by rfl, fun w' hw' => by go_simp⟩) hHeld ?_
              try simp only [Act.put, List.getElem_toArray, List.getElem_cons_succ, List.getElem_cons_zero, List.setIfInBounds_toArray, List.set_cons_zero, List.set_cons_succ]
              refine' wpAnyH_take (i := 23) (v := .slice Wd m cw) rfl (by kernel_rfl) (by kernel_rfl) (by kernel_rfl) (fun _ _ _ h => h) (Or.inl ⟨by rfl, fun w' hw' => by go_simp⟩) hHeld ?_
              try simp only [Act.put, List.getElem_toArray, List.getElem_cons_succ, List.getElem_cons_zero, List.setIfInBounds_toArray, List.set_cons_zero, List.set_cons_succ]
              refine' wpAnyH_take (i := 24) (v := .int .i64 (k : Int)) rfl (by kernel_rfl) (by kernel_rfl) (by kernel_rfl) (fun _ _ _ h => h) (Or.inl ⟨by rfl, fun w' hw' => by go_simp⟩) hHeld ?_
              try simp only [Act.put, List.getElem_toArray, List.getElem_cons_succ, List.getElem_cons_zero, List.setIfInBounds_toArray, List.set_cons_zero, List.set_cons_succ]
              refine' wpAnyH_take (i := 25) (v := .pointer (some ⟨gW, k, none⟩)) rfl (by kernel_rfl) (by kernel_rfl) (by kernel_rfl) (fun _ _ _ h => h) (Or.inl ⟨by rfl, fun w' hw' => by have hv := HIW.out w'; go_simp⟩) hHeld ?_
              try simp only [Act.put, List.getElem_toArray, List.getElem_cons_succ, List.getElem_cons_zero, List.setIfInBounds_toArray, List.set_cons_zero, List.set_cons_succ]
              refine' wpAnyH_take (i := 26) (v := .int .i64 (r : Int)) rfl (by kernel_rfl) (by kernel_rfl) (by kernel_rfl) (fun _ _ _ h => h) (Or.inl ⟨by rfl, fun w' hw' => by have hv := cell_belM hw' fW; go_simp⟩) hHeld ?_
              try simp only [Act.put, List.getElem_toArray, List.getElem_cons_succ, List.getElem_cons_zero, List.setIfInBounds_toArray, List.set_cons_zero, List.set_cons_succ]
              refine wpAnyH_ready (rs := [27]) (by kernel_rfl) (by simp) ?_
              refine AllReadyH.cons rfl (fun K hK => ?_) AllReadyH.nil
              go_simp
              (with_reducible refine (HCY.out _ (HRO.out.below hHeld)).mono ?_)
              rintro e9 V9 ⟨A9, c9', rfl, hrY, hb9⟩
              refine hK.out _ _ (hHeld.trans (hb9.mono hHeld.size)) (fun hHeld => ?_)
              clear hK K hb9
              try simp only [Act.put, List.getElem_toArray, List.getElem_cons_succ, List.getElem_cons_zero, List.setIfInBounds_toArray, List.set_cons_zero, List.set_cons_succ]
              refine wpAnyH_ready (rs := [28]) (by kernel_rfl) (by simp) ?_
              refine AllReadyH.cons rfl (fun K hK => ?_) AllReadyH.nil
              go_simp
              have cS := rsame_any X.A A9 X.n X.c Y.length c9' Y Y _ (HRW.out.below hHeld).1 hrY.1
              rw [decide_eq_true rfl] at cS
              (with_reducible refine cS.mono ?_)
              rintro e9 V9 ⟨rfl, hb9⟩
              clear cS hrY
              refine hK.out _ _ (hHeld.trans (hb9.mono hHeld.size)) (fun hHeld => ?_)
              clear hK K hb9
              try simp only [Act.put, List.getElem_toArray, List.getElem_cons_succ, List.getElem_cons_zero, List.setIfInBounds_toArray, List.set_cons_zero, List.set_cons_succ]
              refine' wpAnyH_take (i := 29) (v := .bool false) rfl (by kernel_rfl) (by kernel_rfl) (by kernel_rfl) (fun _ _ _ h => h) (Or.inl ⟨by rfl, fun w' hw' => by go_simp⟩) hHeld ?_
              try simp only [Act.put, List.getElem_toArray, List.getElem_cons_succ, List.getElem_cons_zero, List.setIfInBounds_toArray, List.set_cons_zero, List.set_cons_succ]
              refine' wpAnyH_take (i := 30) (v := .bool false) rfl (by kernel_rfl) (by kernel_rfl) (by kernel_rfl) (fun _ _ _ h => h) (Or.inl ⟨by rfl, fun w' hw' => by go_simp⟩) hHeld ?_
              try simp only [Act.put, List.getElem_toArray, List.getElem_cons_succ, List.getElem_cons_zero, List.setIfInBounds_toArray, List.set_cons_zero, List.set_cons_succ]
              refine' wpAnyH_take (i := 31) (v := .bool false) rfl (by kernel_rfl) (by kernel_rfl) (by kernel_rfl) (fun _ _ _ h => h) (Or.inl ⟨by rfl, fun w' hw' => by go_simp⟩) hHeld ?_
              try simp only [Act.put, List.getElem_toArray, List.getElem_cons_succ, List.getElem_cons_zero, List.setIfInBounds_toArray, List.set_cons_zero, List.set_cons_succ]
              refine' wpAnyH_take (i := 32) (v := .bool true) rfl (by kernel_rfl) (by kernel_rfl) (by kernel_rfl) (fun _ _ _ h => h) (Or.inl ⟨by rfl, fun w' hw' => by go_simp⟩) hHeld ?_
              try simp only [Act.put, List.getElem_toArray, List.getElem_cons_succ, List.getElem_cons_zero, List.setIfInBounds_toArray, List.set_cons_zero, List.set_cons_succ]
              refine' wpAnyH_take (i := 33) (v := .bool false) rfl (by kernel_rfl) (by kernel_rfl) (by kernel_rfl) (fun _ _ _ h => h) (Or.inl ⟨by rfl, fun w' hw' => by go_simp⟩) hHeld ?_
              try simp only [Act.put, List.getElem_toArray, List.getElem_cons_succ, List.getElem_cons_zero, List.setIfInBounds_toArray, List.set_cons_zero, List.set_cons_succ]
              refine' wpAnyH_take (i := 34) (v := .bool false) rfl (by kernel_rfl) (by kernel_rfl) (by kernel_rfl) (fun _ _ _ h => h) (Or.inl ⟨by rfl, fun w' hw' => by go_simp⟩) hHeld ?_
              try simp only [Act.put, List.getElem_toArray, List.getElem_cons_succ, List.getElem_cons_zero, List.setIfInBounds_toArray, List.set_cons_zero, List.set_cons_succ]
              refine' wpAnyH_take (i := 35) (v := .bool false) rfl (by kernel_rfl) (by kernel_rfl) (by kernel_rfl) (fun _ _ _ h => h) (Or.inl ⟨by rfl, fun w' hw' => by go_simp⟩) hHeld ?_
              try simp only [Act.put, List.getElem_toArray, List.getElem_cons_succ, List.getElem_cons_zero, List.setIfInBounds_toArray, List.set_cons_zero, List.set_cons_succ]
              refine' wpAnyH_take (i := 36) (v := _) rfl (by kernel_rfl) (by kernel_rfl) (by kernel_rfl) (fun _ _ _ h => h) (yieldsIf_load_mid (by rfl) 24 _ rfl _ _ rfl (R.map u8v) _ (fun w' h => hr13.below h) hu rfl hzR) hHeld ?_
              try simp only [Act.put, List.getElem_toArray, List.getElem_cons_succ, List.getElem_cons_zero, List.setIfInBounds_toArray, List.set_cons_zero, List.set_cons_succ]
              refine' wpAnyH_take (i := 37) (v := .slice A n c) rfl (by kernel_rfl) (by kernel_rfl) (by kernel_rfl) (fun _ _ _ h => h) (Or.inl ⟨by rfl, fun w' hw' => by go_simp⟩) hHeld ?_
              try simp only [Act.put, List.getElem_toArray, List.getElem_cons_succ, List.getElem_cons_zero, List.setIfInBounds_toArray, List.set_cons_zero, List.set_cons_succ]
              refine wpAnyH_ready (rs := [38]) (by kernel_rfl) (by simp) ?_
              refine AllReadyH.cons rfl (fun K hK => ?_) AllReadyH.nil
              go_simp
              (with_reducible refine (HROOT2.out _ (HRO.out.below hHeld)).mono ?_)
              rintro e9 V9 ⟨rfl, hb9⟩
              refine hK.out _ _ (hHeld.trans (hb9.mono hHeld.size)) (fun hHeld => ?_)
              clear hK K hb9
              try simp only [Act.put, List.getElem_toArray, List.getElem_cons_succ, List.getElem_cons_zero, List.setIfInBounds_toArray, List.set_cons_zero, List.set_cons_succ]
              refine' wpAnyH_take (i := 39) (v := .bool false) rfl (by kernel_rfl) (by kernel_rfl) (by kernel_rfl) (fun _ _ _ h => h) (Or.inl ⟨by rfl, fun w' hw' => by have hv := HER.out w'; go_simp⟩) hHeld ?_
              try simp only [Act.put, List.getElem_toArray, List.getElem_cons_succ, List.getElem_cons_zero, List.setIfInBounds_toArray, List.set_cons_zero, List.set_cons_succ]
              refine' wpAnyH_take (i := 40) (v := .bool false) rfl (by kernel_rfl) (by kernel_rfl) (by kernel_rfl) (fun _ _ _ h => h) (Or.inl ⟨by rfl, fun w' hw' => by go_simp⟩) hHeld ?_
              try simp only [Act.put, List.getElem_toArray, List.getElem_cons_succ, List.getElem_cons_zero, List.setIfInBounds_toArray, List.set_cons_zero, List.set_cons_succ]
              refine wpAnyH_done (by kernel_rfl) ?_ _
              replace HBD := hid (HBD.out.trans (hHeld.mono HBD.out.size))
              clear hHeld fT fS fA fxl hr13 fW
              go_wp2_with (fail)
              go_roundw
              case rel => exact ⟨k + 1, HLTK.out, by go_num, HBD⟩
              case measure => first | exact pv_meas2 HLTK.out | (rw [q9]; exact pv_meas2 HLTK.out)
            · obtain rfl : m = k := by omega
              have z3 : ¬ (m : Int) < (m : Int) := by omega
              have hSl : (wholeM (n : Int) (rootM l)).length = 32 := tagB_length _ _
              have hSM := HSUM.out
              have hCK := HCK.out
              generalize wholeM (n : Int) (rootM l) = S at hSM hCK hSl
              have hba := HBX.out.below HBT.out
              have f0 := (HP9.out.below HBK.out).cell_ (i := 0) rfl
              have f1 := (HP9.out.below HBK.out).cell_ (i := 1) rfl
              have hro := HR.out.below HBT.out
              have hpr := HPR.out.below HBT.out
              have hok : ∀ (j : Nat) (X : PlD), Xs[j]? = some X → PlOk w10 w1.heap.size l n (f + j) X := fun j X hj => (HK.out j X hj).below HBT.out
              have hbt := HB.out.trans (HBT.out.mono HB.out.size)
              clear hlt hk
              go_upto_region 32 with (fail)
              have fa := range_later hba
              have f20 : ∀ p : LaterW w10, p.w.cell? ⟨g5, 0, none⟩ = some (.int .i64 (n : Int)) := fun p => cell_belM p.h f0
              have f21 : ∀ p : LaterW w10, p.w.cell? ⟨g5, 1, none⟩ = some (.slice B m d) := fun p => cell_belM p.h f1
              have dS : ∀ p : LaterW w10, Calls Try.prog 19 #[.slice A n c] p.w fun e w' => e = .returned (.agg (idVals S)) ∧ Below p.w.heap.size p.w w' := fun p => hSM p.w (hro.below p.h)
              have dC : ∀ p : LaterW w10, Calls Try.prog 18 #[.agg (idVals S), .agg (List.map u8v a).toArray, .agg #[.int .i64 (n : Int), .slice B m d]] p.w fun e w' => e = .returned (.tuple #[.bool false, .bool true]) ∧ Below p.w.heap.size p.w w' := fun p => hCK p.w w1.heap.size d B Xs HXM.out (hpr.below p.h) (fun j X hj => (hok j X hj).below p.h)
              clear f0 f1 hSM hCK
              refine wp_region_later mixed (by kernel_rfl) ?_
              repeat (first
                | ((with_reducible refine wpQuiet_skip (by with_unfolding_all rfl) ?_); simp only [Act.put, List.setIfInBounds_toArray, List.set_cons_zero, List.set_cons_succ])
                | ((with_reducible refine wpQuiet_load_if (by with_unfolding_all rfl) 24 _ rfl _ _ rfl (a.map u8v) _ fa hu (by with_unfolding_all rfl) hza ?_); simp only [Act.put, List.setIfInBounds_toArray, List.set_cons_zero, List.set_cons_succ])
                | ((with_reducible refine wpQuiet_step (fun K hK => ?_)); go_simp; first | ((with_reducible refine hK _ ?_); clear hK K) | (with_reducible apply Exists.intro; (with_reducible refine ⟨fun _ => ?_, hK _ ?_⟩); ((first | (go_at_call 19; exact later_of (dS _)) | (go_at_call 18; exact later_of (dC _)))); clear hK K)))
              with_reducible refine wpQuiet_nil ?_
              intro _ hw'
              obtain ⟨p9, rfl⟩ := hw'
              have hp9 := p9.h
              generalize p9.w = w14 at *
              have hba2 := hba.below hp9
              have hro2 := hro.below hp9
              have cH := HHAS.out
              replace hbt := hbt.trans (hp9.mono hbt.size)
              clear fa f20 f21 dS dC hp9 hba hro hpr hok
              go_wp2_with (first
                | (with_reducible refine wpList_load_if (by with_unfolding_all rfl) 24 _ rfl _ _ rfl (a.map u8v) _ hba2 hu rfl hza ?_)
                | (go_at_call 13; (with_reducible refine (cH _ hro2).mono ?_); rintro e15 w15 ⟨rfl, hb15⟩)
                | (go_at_call 9; (with_reducible refine (awake21_any _).mono ?_); rintro e16 w16 ⟨rfl, hb16⟩))
              go_ret
              exact ⟨rfl, hbt.trans ((hb15.trans (hb16.mono hb15.size)).mono hbt.size)⟩

theorem open_capP {H : Type} {enc : TypeId × Value → H} {P : Program} {w : World} {base : Nat} {sp : Nat → Bool} {hd : Bool} {t e : TypeId} {a : Option Addr} {len cap : Nat} {d : DataW H} {ps : List MemPlace} (ht : P.underlying t = some (.slice e))
    (h : DataW.Trod enc P w base sp hd t (.slice a len cap) d ps) : (a = none ∧ len = 0 ∧ cap = 0) ∨ ((∃ x, a = some x) ∧ len ≤ cap ∧ cap ≤ maxLen) := by
  obtain ⟨fuel, hf⟩ := h
  cases fuel with
  | zero => simp [DataW.trod] at hf
  | succ m =>
    rw [DataW.trod_step] at hf
    unfold DataW.trodStep at hf
    simp only [ht, Value.cells] at hf
    cases a with
    | none =>
      left
      rcases len with _ | len <;> rcases cap with _ | cap <;> first | exact ⟨rfl, rfl, rfl⟩ | (simp at hf)
    | some a =>
      right
      dsimp only at hf
      split at hf
      · rename_i hcond
        exact ⟨⟨a, rfl⟩, hcond.2.1, hcond.2.2⟩
      · cases hf
theorem cuts_ex (a : List UInt8) : ∀ (l : List (List UInt8)), Rising l → ∃ p, Cuts l a p
  | [], _ => ⟨0, Nat.le_refl _, fun k x h => by omega, fun k x _ hx => by simp at hx⟩
  | x :: t, hr => by
    by_cases hx : Lt x a
    · obtain ⟨p, h1, h2, h3⟩ := cuts_ex a t (List.Pairwise.of_cons hr)
      refine ⟨p + 1, by simp only [List.length_cons]; omega, fun k y hk hy => ?_, fun k y hk hy => ?_⟩
      · cases k with
        | zero => simp at hy; rw [← hy]; exact hx
        | succ k => exact h2 k y (by omega) (by simpa using hy)
      · cases k with
        | zero => omega
        | succ k => exact h3 k y (by omega) (by simpa using hy)
    · refine ⟨0, Nat.zero_le _, fun k y hk => by omega, fun k y hk hy h => hx ?_⟩
      cases k with
      | zero => simp at hy; rw [hy]; exact h
      | succ k => exact (List.rel_of_pairwise_cons hr (List.mem_of_getElem? (show t[k]? = some y by simpa using hy))).tr h
theorem law_MerkleProves (w : World) (a0 : Option Addr) (l0 c0 : Nat) (z0 : List (List UInt8)) (w0 : IdRow w a0 l0 z0) (a1 : List UInt8) (w1 : a1.length = 32) (x0 : (a0 = none ∧ l0 = 0 ∧ c0 = 0) ∨ ((∃ x, a0 = some x) ∧ l0 ≤ c0 ∧ c0 ≤ maxLen)) :
    Calls Try.prog 3 #[.slice a0 l0 c0, .agg (idVals a1)] w fun e w' => e = .returned (.bool true) ∧ Below w.heap.size w w' := by
  by_cases h : 30 < l0
  · exact mp_far a0 l0 c0 a1 w1 w h
  · have hr : RowC w a0 l0 c0 z0 := ⟨⟨w0.1, by omega, w0.2.2⟩, x0⟩
    by_cases hs : Steps z0 l0
    · obtain ⟨p, hp⟩ := cuts_ex a1 z0 (steps_rising z0 (by rw [w0.1]; exact hs))
      have hpl : p ≤ l0 := by have := hp.1; rw [w0.1] at this; exact this
      by_cases hin : a1 ∈ z0
      · exact mp_in a0 l0 c0 a1 w1 w z0 (by omega) hr hs hin p 1 hp rfl
      · exact mp_out a0 l0 c0 a1 w1 w z0 (by omega) hr hs hin p (p - 1) (min (p + 1) l0) (min (p + 1) l0 - (p - 1)) hp rfl rfl (by omega)
    · exact mp_no a0 l0 c0 a1 w1 w z0 (by omega) hr hs
open Go.ChangeShapes Go.WideShapes Go.ChangeAt
open Go.ChangeMaps (open_string shut_string)
theorem own_MerkleProves : ownKnob Try.prog.godebug = none := by kernel_rfl
theorem laidOut_MerkleProves : laidOutB Try.prog = true := by kernel_rfl
set_option linter.unusedVariables false in
set_option maxRecDepth 100000 in
theorem lifted_MerkleProves (os : Os) (started : os.Started) (H : Type) (enc : TypeId × Value → H) :
    ReturnsInHanded {} Try.checked os 3 .any (Rows.merkleProvesSpec.pre6 enc Try.prog Try.f3 Rows.merkleProvesRow.domain false) (Rows.merkleProvesSpec.post enc Try.prog Try.f3 false true false false) := by
  refine returnsInHanded_of_change (C := Try.checked) own_MerkleProves started (by kernel_rfl) Try.func3
    (ChangeSpec.witness6 (enc := enc) (C := Try.checked) false ⟨#[], #[.slice none 0 0, .agg #[.int .u8 0, .int .u8 0, .int .u8 0, .int .u8 0, .int .u8 0, .int .u8 0, .int .u8 0, .int .u8 0, .int .u8 0, .int .u8 0, .int .u8 0, .int .u8 0, .int .u8 0, .int .u8 0, .int .u8 0, .int .u8 0, .int .u8 0, .int .u8 0, .int .u8 0, .int .u8 0, .int .u8 0, .int .u8 0, .int .u8 0, .int .u8 0, .int .u8 0, .int .u8 0, .int .u8 0, .int .u8 0, .int .u8 0, .int .u8 0, .int .u8 0, .int .u8 0]], []⟩ 8 (by kernel_rfl) (by kernel_rfl) (by kernel_rfl) (by kernel_rfl)) ?_
  intro W base args ds gs before hval0 hW hcnd _
  have hval : ∀ (j : Nat) t v, Try.f3.params[j]? = some t → args[j]? = some v → Value.okWide Try.prog W .any base t v := hval0
  have hW' := hW
  obtain ⟨p, q, hA0, hV, rfl, hfz, hnd⟩ := hW
  have hA1 : DataW.TrodAll enc Try.prog W 0 (fun _ => true) true Try.f3.params.toList args.toList ds p := hA0
  have hA : DataW.TrodAll enc Try.prog W 0 (fun _ => true) true Try.f3.params.toList args.toList ds p := hA0
  rw [Try.params3] at hA hval
  obtain ⟨v0, vs0, d0, ds0, p0, q0, hargs, rfl, rfl, h0, r0⟩ := trodAll_cons hA
  obtain ⟨v1, vs1, d1, ds1, p1, q1, rfl, rfl, rfl, h1, r1⟩ := trodAll_cons r0
  obtain ⟨rfl, rfl, rfl⟩ := trodAll_nil r1
  obtain rfl : args = #[v0, v1] := by cases args; simp_all
  obtain ⟨rfl, rfl⟩ := trodVars_none hV
  obtain ⟨a0, l0, c0, z0, rfl, w0⟩ := open_idRow Try.underlying22 Try.underlying24 Try.underlying5 (by kernel_rfl) (by kernel_rfl) (hval 0 22 v0 rfl rfl) h0
  obtain ⟨a1, w1, rfl⟩ := open_id Try.underlying24 Try.underlying5 (by kernel_rfl) (by kernel_rfl) (hval 1 24 v1 rfl rfl) h1
  have x0 := open_capP Try.underlying22 h0
  clear hA0 hval0
  refine (law_MerkleProves W a0 l0 c0 z0 w0 a1 w1 x0).mono fun e W' ⟨he, bel⟩ => ?_
  subst he
  exact ⟨_, rfl, _, _, _, [], _, [], hW', trodAll_mk1 (shut_bool Try.underlying4 _), trodAll_stays laidOut_MerkleProves bel (by kernel_rfl) hA1, rfl, bel.frame _, fun h => by cases h⟩

/-- The statement. -/
theorem MerkleProves_holds : Rows.MerkleProvesSaid :=
  OpenClaim.holds_of_wide 3 Try.f3 rfl rfl rfl rfl rfl rfl rfl ⟨rfl, rfl, rfl, rfl, rfl⟩ rfl rfl rfl rfl rfl (by kernel_rfl) Try.func3 (by kernel_rfl)
    (of_decide_eq_true (by kernel_rfl)) (by unfold Func.isWrapper; first | (rw [if_pos (by decide +kernel)]; kernel_rfl) | (rw [if_neg (by decide +kernel)]; exact ⟨rfl, rfl⟩))
    (fun os started H enc _ => lifted_MerkleProves os started H enc)
#print axioms MerkleProves_holds

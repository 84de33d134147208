/- recon: the document's drop and Fits; Lack's errors. -/
import Derived.Test.YtkajfpincbkfhaaRcB
set_option linter.unusedSimpArgs false
set_option linter.unusedVariables false
namespace Go.Proofs.Ytkajfpincbkfhaa
open Go.RowKit Go.Qc Go.Shelf
attribute [local go_sem] txt_size txt_append ib_fold
theorem minL_step {l r : List (List UInt8)} {m : Nat} {x : List UInt8} (h : l[m]? = some x) : minL (l.take (m + 1)) r = if x ∈ r then minL (l.take m) r else minL (l.take m) r ++ [x] := by
  unfold minL
  rw [List.take_add_one, h, List.filter_append]
  show _ ++ List.filter _ [x] = _
  by_cases e : x ∈ r
  · rw [if_pos e]; simp [e]
  · rw [if_neg e]; simp [e]
theorem minL_len (l r : List (List UInt8)) (m : Nat) : (minL (l.take m) r).length ≤ m := Nat.le_trans (List.length_filter_le _ _) (by rw [List.length_take]; omega)
theorem rb_eq1 {a b c d : Int} : ((a == c) && (b == d)) = decide ((a, b) = (c, d)) := by
  by_cases h1 : a = c <;> by_cases h2 : b = d <;> simp [h1, h2]
set_option maxRecDepth 100000 in
set_option maxHeartbeats 8000000 in
theorem rdrop_any (A B : Option Addr) (n c m d : Nat) (l r : List (List UInt8)) (w : World) (h : RowC w A n c l) (h2 : RowC w B m d r) :
    Calls Try.prog 84 #[.slice A n c, .slice B m d] w fun e w' => ∃ A9 c9, e = .returned (.slice A9 (minL l r).length c9) ∧ RowC w' A9 (minL l r).length c9 (minL l r) ∧ Below w.heap.size w w' := by
  have hu := Try.underlying24
  have hn6 := h.1.2.1
  have H := hid h
  have H2 := hid h2
  clear h h2
  go_enter Try.func84, Try.ntmps84
  go_upto_region 2 with (fail)
  have hO0 : Hid (IdOw (w.alloc (.cells #[] 24)) w.heap.size (.slice (some ⟨w.heap.size, 0, none⟩) 0 0) 0 []) := hid (IdOw.made w)
  have hb0 : Hid (Below w.heap.size w (w.alloc (.cells #[] 24))) := hid ((Below.refl _ _).alloc (Nat.le_refl _) _)
  generalize w.alloc (.cells #[] 24) = w1 at *
  go_wp2_with (fail)
  go_loopw [5, 6] (fun u v wr => ∃ (m : Nat) (u9 : Value), m ≤ n ∧ u9 = u ∧ v = .int .i64 (m : Int) ∧ Hid (IdOw wr w.heap.size u9 (minL (l.take m) r).length (minL (l.take m) r)) ∧ Hid (Below w.heap.size w wr)) (fun _ v _ => n - (intOf v).toNat)
  case atStart => exact ⟨0, _, Nat.zero_le _, rfl, rfl, hO0, hb0⟩
  case round =>
    clear hO0 hb0
    obtain ⟨k, u9, hm, rfl, rfl, HO, HB⟩ := hrel
    by_cases hlt : k < n
    · have hln := H.out.1.1
      obtain ⟨x, hx⟩ : ∃ x, l[k]? = some x := ⟨_, List.getElem?_eq_getElem (by omega)⟩
      obtain ⟨gi, q, hgi, lx, hix⟩ := H.out.1.2.2.pick (k := k) (a := x) c hln hx
      have hzx : (Try.prog.info? 24).map (·.size) = some (x.map u8v).length := by rw [List.length_map, lx]; exact sizeId
      have fg := hgi.below HB.out
      have z2 : (k : Int) < (n : Int) := by omega
      have q9 := pv_q1 (p := k) (by omega)
      have HLT := hid hlt
      have HX := hid hx
      have HL := hid (minL_len l r k)
      have hrr : RowR wr B m r := (H2.out.below HB.out).1
      have HK := hid HB.out.size
      have cH : ∀ W, RowR W B m r → Calls Try.prog 21 #[.slice B m d, .agg (List.map u8v x).toArray] W fun e w' => e = .returned (.bool (decide (x ∈ r))) ∧ Below W.heap.size W w' := fun W h => rhas_any B m d r x lx W h
      clear hlt hm hx hgi hln
      by_cases e : x ∈ r
      · rw [decide_eq_true e] at cH
        have HS : Hid (minL (l.take (k + 1)) r = minL (l.take k) r) := hid (by rw [minL_step HX.out, if_pos e])
        go_wp2_with (first
          | (with_reducible refine wpList_load_if (by with_unfolding_all rfl) 24 _ rfl _ _ rfl (x.map u8v) _ fg hu rfl hzx ?_)
          | (go_at_call 21; (with_reducible refine (cH _ hrr).mono ?_); rintro e4 w4 ⟨rfl, hb4⟩))
        go_roundw
        case rel => exact ⟨k + 1, _, HLT.out, rfl, by go_num, by rw [HS.out]; exact hid (own_below HO.out hb4), hid (HB.out.trans (hb4.mono HB.out.size))⟩
        case measure => first | exact meas_k9 HLT.out | (rw [q9]; exact meas_k9 HLT.out)
      · rw [decide_eq_false e] at cH
        have HS : Hid (minL (l.take (k + 1)) r = minL (l.take k) r ++ [x]) := hid (by rw [minL_step HX.out, if_neg e])
        have HE : Hid ((minL (l.take (k + 1)) r).length = (minL (l.take k) r).length + 1) := hid (by rw [HS.out, List.length_append]; rfl)
        have HLM : Hid ((minL (l.take k) r).length + 1 ≤ 1000000) := hid (by have := HL.out; have := HLT.out; omega)
        generalize minL (l.take k) r = M at *
        obtain ⟨ML, hML⟩ : ∃ L, M.length = L := ⟨_, rfl⟩
        rw [hML] at HO HE HLM
        clear hML e
        go_wp2_with (first
          | (with_reducible refine wpList_load_if (by with_unfolding_all rfl) 24 _ rfl _ _ rfl (x.map u8v) _ fg hu rfl hzx ?_)
          | (go_at_call 21; (with_reducible refine (cH _ hrr).mono ?_); rintro e4 w4 ⟨rfl, hb4⟩; replace fg := fg.below hb4; replace HO : Hid (IdOw w4 w.heap.size u9 ML M) := hid (own_below HO.out hb4); replace HB := hid (HB.out.trans (hb4.mono HB.out.size)))
          | ((with_reducible refine wpList_build1i rfl _ rfl x lx rfl ?_); intro cs hrow; have HAL := hid ((Below.refl w4.heap.size w4).alloc (Nat.le_refl _) (.cells cs 24)); have HO4 : Hid (IdOw (w4.alloc (.cells cs 24)) w.heap.size u9 ML M) := hid (own_below HO.out HAL.out); have HRO := hid hrow; clear hrow)
          | (at_builtin; refine wpList_append_idw rfl _ _ rfl w.heap.size _ _ _ rfl HO4.out (some ⟨w4.heap.size, 0, none⟩) 1 1 [x] rfl rfl (fun h => by cases h) HRO.out HLM.out (Nat.le_trans HB.out.size HAL.out.size) ?_; intro v8 w8 hown8 hg8; have HB8 := hid (IdOw.grown HO4.out hg8 (Nat.le_refl _) (HB.out.trans (HAL.out.mono HB.out.size)) (Nat.le_trans HB.out.size HAL.out.size)); have HO8 := hid hown8; clear hown8 hg8))
        go_roundw
        case rel => exact ⟨k + 1, _, HLT.out, rfl, by go_num, by rw [HE.out, HS.out]; exact HO8, HB8⟩
        case measure => first | exact meas_k9 HLT.out | (rw [q9]; exact meas_k9 HLT.out)
    · obtain rfl : k = n := by omega
      have z2 : ¬ (k : Int) < (k : Int) := by omega
      have HF : Hid (IdOw wr w.heap.size u9 (minL l r).length (minL l r)) := hid (by
        have := HO.out
        rw [← H.out.1.1, List.take_length] at this
        exact this)
      obtain ⟨A9, c9, rfl, hq⟩ := own_rowC HF.out (minL_32 r H.out.1.2.2.1) (show (minL l r).length ≤ 1000000 by have := minL_length l r; have := H.out.1.1; omega)
      have HQ := hid hq
      clear HO hlt hm hq
      go_wp2_with (fail)
      go_ret
      exact ⟨A9, c9, rfl, HQ.out, HB.out⟩
/-- Has a row a count, a tally, a sum? -/
def fitB (l : List (List UInt8)) (n : Int) (c : Int × Int) (s : List UInt8) : Bool := decide ((l.length : Int) = n) && (decide (talZ l = c) && decide (sumL l = s))
set_option maxRecDepth 100000 in
set_option maxHeartbeats 8000000 in
theorem rfits_any (A : Option Addr) (n c : Nat) (l : List (List UInt8)) (v : Int) (cc : Int × Int) (s : List UInt8) (hs32 : s.length = 32) (w : World) (h : RowC w A n c l) :
    Calls Try.prog 83 #[.slice A n c, .int .i64 v, pz cc, .agg (idVals s)] w fun e w' => e = .returned (.bool (fitB l v cc s)) ∧ Below w.heap.size w w' := by
  have mixed : Try.prog.follows .mixedOrders = true := by kernel_rfl
  have hu := Try.underlying24
  have hzs : (Try.prog.info? 24).map (·.size) = some (s.map u8v).length := by rw [List.length_map, hs32]; exact sizeId
  obtain ⟨c1, c2⟩ := cc
  obtain ⟨⟨t1, t2⟩, hT⟩ : ∃ x, talZ l = x := ⟨_, rfl⟩
  obtain ⟨S, hS⟩ : ∃ x, sumL l = x := ⟨_, rfl⟩
  have hSl : S.length = 32 := by rw [← hS]; exact sumL_length l
  have cT : ∀ W, RowC W A n c l → Calls Try.prog 33 #[.slice A n c] W fun e w' => e = .returned (.agg #[.int .i64 t1, .int .i64 t2]) ∧ Below W.heap.size W w' := fun W h => by
    have := rtally22_any A n c l W h.1
    rw [hT] at this
    exact this
  have cS : ∀ W, RowC W A n c l → Calls Try.prog 18 #[.slice A n c] W fun e w' => e = .returned (.agg (idVals S)) ∧ Below W.heap.size W w' := fun W h => by
    have := rsum21_any A n c l W h
    rw [← h.1.1] at this ⊢
    rw [← hS]
    exact this
  obtain ⟨b1, hb1⟩ : ∃ b, ((t1 == c1) && (t2 == c2)) = b := ⟨_, rfl⟩
  obtain ⟨b2, hb2⟩ : ∃ b, decide (S = s) = b := ⟨_, rfl⟩
  have he1 : ∀ W, (Op.equalIn 10000 63 (.agg #[.int .i64 t1, .int .i64 t2]) (.agg #[.int .i64 c1, .int .i64 c2])).run Try.prog W = .ok b1 W := fun W => by rw [← hb1]; exact pair_eqZ t1 t2 c1 c2 W
  have he2 : ∀ W, (Op.equalIn 10000 24 (.agg (idVals S)) (.agg (List.map u8v s).toArray)).run Try.prog W = .ok b2 W := fun W => (ids_eq W S s hSl hs32).trans (by rw [hb2])
  have HF : Hid (fitB l v (c1, c2) s = (decide ((n : Int) = v) && (b1 && b2))) := hid (by unfold fitB; rw [h.1.1, hT, hS, ← rb_eq1, hb1, hb2])
  have hpz : pz (c1, c2) = .agg #[.int .i64 c1, .int .i64 c2] := rfl
  rw [hpz]
  clear hT hS hb1 hb2 hSl hs32 hpz
  go_enter Try.func83, Try.ntmps83
  go_upto_region 1 with (fail)
  have hb := ((Below.refl w.heap.size w).alloc (Nat.le_refl _) (.cells #[.int .i64 c1, .int .i64 c2] 63)).alloc (by simp) (.cells (idVals s) 24)
  have h6 := (Blk.new w 63 #[.int .i64 c1, .int .i64 c2]).alloc (.cells (idVals s) 24)
  have h7 := Blk.new (w.alloc (.cells #[.int .i64 c1, .int .i64 c2] 63)) 24 (idVals s)
  have hsz : (w.alloc (.cells #[.int .i64 c1, .int .i64 c2] 63)).heap.size = w.heap.size + 1 := by simp
  rw [hsz] at h7
  replace h := h.below hb
  generalize (w.alloc (.cells #[.int .i64 c1, .int .i64 c2] 63)).alloc (.cells (idVals s) 24) = w1 at *
  clear hsz
  have fs := range_later (range_blk h7)
  have f0 : ∀ p : LaterW w1, p.w.cell? ⟨w.heap.size, 0, none⟩ = some (.int .i64 c1) := fun p => (h6.below p.h).cell_ rfl
  have f1 : ∀ p : LaterW w1, p.w.cell? ⟨w.heap.size, 1, none⟩ = some (.int .i64 c2) := fun p => (h6.below p.h).cell_ rfl
  have dT : ∀ p : LaterW w1, Calls Try.prog 33 #[.slice A n c] p.w fun e w' => e = .returned (.agg #[.int .i64 t1, .int .i64 t2]) ∧ Below p.w.heap.size p.w w' := fun p => cT p.w (h.below p.h)
  have dS : ∀ p : LaterW w1, Calls Try.prog 18 #[.slice A n c] p.w fun e w' => e = .returned (.agg (idVals S)) ∧ Below p.w.heap.size p.w w' := fun p => cS p.w (h.below p.h)
  clear cT cS h h6 h7
  by_cases hv : (n : Int) = v
  · have zz : decide ((n : Int) = v) = true := decide_eq_true hv
    rw [zz] at HF
    subst hv
    clear zz
    cases b1
    · refine wp_region_later mixed (by kernel_rfl) ?_
      repeat (first
        | ((with_reducible refine wpQuiet_skip (by with_unfolding_all rfl) ?_); simp only [Act.put, List.setIfInBounds_toArray, List.set_cons_zero, List.set_cons_succ])
        | ((with_reducible refine wpQuiet_load_if (by with_unfolding_all rfl) 24 _ rfl _ _ rfl (s.map u8v) _ fs hu (by with_unfolding_all rfl) hzs ?_); simp only [Act.put, List.setIfInBounds_toArray, List.set_cons_zero, List.set_cons_succ])
        | ((with_reducible refine wpQuiet_step (fun K hK => ?_)); go_simp; first | ((with_reducible refine hK _ ?_); clear hK K) | (with_reducible apply Exists.intro; (with_reducible refine ⟨fun _ => ?_, hK _ ?_⟩); ((first | (go_at_call 33; exact later_of (dT _)) | (go_at_call 18; exact later_of (dS _)))); clear hK K)))
      with_reducible refine wpQuiet_nil ?_
      intro _ hw'
      obtain ⟨p9, rfl⟩ := hw'
      have hp9 := p9.h
      generalize p9.w = w3 at *
      replace hb := hb.trans (hp9.mono hb.size)
      clear fs dT dS f0 f1 hp9 he1 he2
      go_wp2_with (fail)
      go_ret
      exact ⟨by rw [HF.out]; rfl, hb⟩
    · cases b2
      · refine wp_region_later mixed (by kernel_rfl) ?_
        repeat (first
          | ((with_reducible refine wpQuiet_skip (by with_unfolding_all rfl) ?_); simp only [Act.put, List.setIfInBounds_toArray, List.set_cons_zero, List.set_cons_succ])
          | ((with_reducible refine wpQuiet_load_if (by with_unfolding_all rfl) 24 _ rfl _ _ rfl (s.map u8v) _ fs hu (by with_unfolding_all rfl) hzs ?_); simp only [Act.put, List.setIfInBounds_toArray, List.set_cons_zero, List.set_cons_succ])
          | ((with_reducible refine wpQuiet_step (fun K hK => ?_)); go_simp; first | ((with_reducible refine hK _ ?_); clear hK K) | (with_reducible apply Exists.intro; (with_reducible refine ⟨fun _ => ?_, hK _ ?_⟩); ((first | (go_at_call 33; exact later_of (dT _)) | (go_at_call 18; exact later_of (dS _)))); clear hK K)))
        with_reducible refine wpQuiet_nil ?_
        intro _ hw'
        obtain ⟨p9, rfl⟩ := hw'
        have hp9 := p9.h
        generalize p9.w = w3 at *
        replace hb := hb.trans (hp9.mono hb.size)
        clear fs dT dS f0 f1 hp9 he1 he2
        go_wp2_with (fail)
        go_ret
        exact ⟨by rw [HF.out]; rfl, hb⟩
      · refine wp_region_later mixed (by kernel_rfl) ?_
        repeat (first
          | ((with_reducible refine wpQuiet_skip (by with_unfolding_all rfl) ?_); simp only [Act.put, List.setIfInBounds_toArray, List.set_cons_zero, List.set_cons_succ])
          | ((with_reducible refine wpQuiet_load_if (by with_unfolding_all rfl) 24 _ rfl _ _ rfl (s.map u8v) _ fs hu (by with_unfolding_all rfl) hzs ?_); simp only [Act.put, List.setIfInBounds_toArray, List.set_cons_zero, List.set_cons_succ])
          | ((with_reducible refine wpQuiet_step (fun K hK => ?_)); go_simp; first | ((with_reducible refine hK _ ?_); clear hK K) | (with_reducible apply Exists.intro; (with_reducible refine ⟨fun _ => ?_, hK _ ?_⟩); ((first | (go_at_call 33; exact later_of (dT _)) | (go_at_call 18; exact later_of (dS _)))); clear hK K)))
        with_reducible refine wpQuiet_nil ?_
        intro _ hw'
        obtain ⟨p9, rfl⟩ := hw'
        have hp9 := p9.h
        generalize p9.w = w3 at *
        replace hb := hb.trans (hp9.mono hb.size)
        clear fs dT dS f0 f1 hp9 he1 he2
        go_wp2_with (fail)
        go_ret
        exact ⟨by rw [HF.out]; rfl, hb⟩
  · have zz : decide ((n : Int) = v) = false := decide_eq_false hv
    rw [zz] at HF
    have z9 : ((n : Int) == v) = false := by simp; exact hv
    cases b1
    · refine wp_region_later mixed (by kernel_rfl) ?_
      repeat (first
        | ((with_reducible refine wpQuiet_skip (by with_unfolding_all rfl) ?_); simp only [Act.put, List.setIfInBounds_toArray, List.set_cons_zero, List.set_cons_succ])
        | ((with_reducible refine wpQuiet_load_if (by with_unfolding_all rfl) 24 _ rfl _ _ rfl (s.map u8v) _ fs hu (by with_unfolding_all rfl) hzs ?_); simp only [Act.put, List.setIfInBounds_toArray, List.set_cons_zero, List.set_cons_succ])
        | ((with_reducible refine wpQuiet_step (fun K hK => ?_)); go_simp; first | ((with_reducible refine hK _ ?_); clear hK K) | (with_reducible apply Exists.intro; (with_reducible refine ⟨fun _ => ?_, hK _ ?_⟩); ((first | (go_at_call 33; exact later_of (dT _)) | (go_at_call 18; exact later_of (dS _)))); clear hK K)))
      with_reducible refine wpQuiet_nil ?_
      intro _ hw'
      obtain ⟨p9, rfl⟩ := hw'
      have hp9 := p9.h
      generalize p9.w = w3 at *
      replace hb := hb.trans (hp9.mono hb.size)
      clear fs dT dS f0 f1 hp9 he1 he2
      go_wp2_with (fail)
      go_ret
      exact ⟨by rw [HF.out]; rfl, hb⟩
    · refine wp_region_later mixed (by kernel_rfl) ?_
      repeat (first
        | ((with_reducible refine wpQuiet_skip (by with_unfolding_all rfl) ?_); simp only [Act.put, List.setIfInBounds_toArray, List.set_cons_zero, List.set_cons_succ])
        | ((with_reducible refine wpQuiet_load_if (by with_unfolding_all rfl) 24 _ rfl _ _ rfl (s.map u8v) _ fs hu (by with_unfolding_all rfl) hzs ?_); simp only [Act.put, List.setIfInBounds_toArray, List.set_cons_zero, List.set_cons_succ])
        | ((with_reducible refine wpQuiet_step (fun K hK => ?_)); go_simp; first | ((with_reducible refine hK _ ?_); clear hK K) | (with_reducible apply Exists.intro; (with_reducible refine ⟨fun _ => ?_, hK _ ?_⟩); ((first | (go_at_call 33; exact later_of (dT _)) | (go_at_call 18; exact later_of (dS _)))); clear hK K)))
      with_reducible refine wpQuiet_nil ?_
      intro _ hw'
      obtain ⟨p9, rfl⟩ := hw'
      have hp9 := p9.h
      generalize p9.w = w3 at *
      replace hb := hb.trans (hp9.mono hb.size)
      clear fs dT dS f0 f1 hp9 he1 he2
      go_wp2_with (fail)
      go_ret
      exact ⟨by rw [HF.out]; rfl, hb⟩
set_option maxRecDepth 100000 in
set_option maxHeartbeats 8000000 in
theorem lack_order (A : Option Addr) (n c : Nat) (l : List (List UInt8)) (SC : Array Value) (w : World) (h : RowC w A n c l) (hs : ¬ Steps l n) :
    Calls Try.prog 31 #[.slice A n c, .agg SC] w fun e w' => e = .returned (.tuple #[.slice none 0 0, .int .i64 17]) ∧ Below w.heap.size w w' := by
  have cR : ∀ W, RowC W A n c l → Calls Try.prog 51 #[.slice A n c] W fun e w' => e = .returned (.bool false) ∧ Below W.heap.size W w' := fun W hW => (rises_any A n c l W hW.1).mono (by
    rintro e w' ⟨v, rfl, ⟨t, rfl, ht⟩, hb⟩
    cases t
    · exact ⟨rfl, hb⟩
    · exact ⟨absurd (ht.1 rfl) hs, hb⟩)
  go_enter Try.func31, Try.ntmps31
  go_upto_region 1 with (fail)
  have hb := (Below.refl w.heap.size w).alloc (Nat.le_refl _) (.cells SC 56)
  replace h := h.below hb
  generalize w.alloc (.cells SC 56) = w1 at *
  go_wp2_with (go_at_call 51; (with_reducible refine (cR _ h).mono ?_); rintro e2 w2 ⟨rfl, hb2⟩)
  go_ret2
  exact ⟨rfl, hb.trans (hb2.mono hb.size)⟩
set_option maxRecDepth 100000 in
set_option maxHeartbeats 8000000 in
theorem lack_range (A : Option Addr) (n c : Nat) (l : List (List UInt8)) (v : Int) (cc : Value) (s : List UInt8) (hv : v < 0 ∨ (n : Int) < v ∨ v < (n : Int) - 2) (w : World) (h : RowC w A n c l) (hs : Steps l n) :
    Calls Try.prog 31 #[.slice A n c, .agg (smC v cc s)] w fun e w' => e = .returned (.tuple #[.slice none 0 0, .int .i64 5]) ∧ Below w.heap.size w w' := by
  have cR : ∀ W, RowC W A n c l → Calls Try.prog 51 #[.slice A n c] W fun e w' => e = .returned (.bool true) ∧ Below W.heap.size W w' := fun W hW => (rises_any A n c l W hW.1).mono (by
    rintro e w' ⟨v, rfl, ⟨t, rfl, ht⟩, hb⟩
    cases t
    · exact ⟨absurd (ht.2 hs) (by decide), hb⟩
    · exact ⟨rfl, hb⟩)
  have hn6 := h.1.2.1
  have q1 : wrap64 ((n : Int) - 2) = (n : Int) - 2 := by unfold wrap64; omega
  have c0 := smC_0 v cc s
  generalize smC v cc s = SC at *
  clear hs
  go_enter Try.func31, Try.ntmps31
  go_upto_region 1 with (fail)
  have hb := (Below.refl w.heap.size w).alloc (Nat.le_refl _) (.cells SC 56)
  have hbx := Blk.new w 56 SC
  replace h := h.below hb
  generalize w.alloc (.cells SC 56) = w1 at *
  go_upto_region 3 with (go_at_call 51; (with_reducible refine (cR _ h).mono ?_); rintro e2 w2 ⟨rfl, hb2⟩)
  have f0 := (hbx.below hb2).cell_ c0
  replace hb := hb.trans (hb2.mono hb.size)
  clear hbx c0 cR h hb2
  by_cases h1 : v < 0
  · go_wp2_with (fail)
    go_ret2
    exact ⟨rfl, hb⟩
  · by_cases h2 : (n : Int) < v
    · go_wp2_with (fail)
      go_ret2
      exact ⟨rfl, hb⟩
    · have h3 : v < (n : Int) - 2 := by omega
      go_wp2_with (fail)
      go_ret2
      exact ⟨rfl, hb⟩
end Go.Proofs.Ytkajfpincbkfhaa
/- recon: lacking of none; of two. -/
set_option linter.unusedSimpArgs false
set_option linter.unusedVariables false
namespace Go.Proofs.Ytkajfpincbkfhaa
open Go.RowKit Go.Qc Go.Shelf
attribute [local go_sem] txt_size txt_append ib_fold
theorem minL_none (l : List (List UInt8)) : minL l [] = l := by unfold minL; simp
def zeroOk (l : List (List UInt8)) (P : Int × Int) (s : List UInt8) : Bool := decide (P = (1, 0)) && decide (sumL l = s)
set_option maxRecDepth 100000 in
set_option maxHeartbeats 8000000 in
theorem lacking0_any (A : Option Addr) (n c : Nat) (l : List (List UInt8)) (P : Int × Int) (hP : ResZ P) (s : List UInt8) (hs32 : s.length = 32) (w : World) (h : RowC w A n c l) (hs : Steps l n) :
    Calls Try.prog 81 #[.slice A n c, .int .i64 0, cz P, .agg (idVals s)] w (LQ (fun _ v => zeroOk l P s = true ∧ v = .slice none 0 0) (zeroOk l P s = false) (.bool true) (.bool false) w) := by
  have mixed : Try.prog.follows .mixedOrders = true := by kernel_rfl
  have hu := Try.underlying24
  have hzs : (Try.prog.info? 24).map (·.size) = some (s.map u8v).length := by rw [List.length_map, hs32]; exact sizeId
  have hSl := sumL_length l
  have cW : ∀ W, RowC W A n c l → Calls Try.prog 119 #[.slice A n c, .slice none 0 0] W fun e w' => e = .returned (.agg (idVals (sumL l))) ∧ Below W.heap.size W w' := fun W h1 => by
    have := without_any A none n c 0 0 l [] W h1 hs ⟨rfl, Nat.le_refl _, by unfold maxLen; omega, by omega, IdRd.nil_ _ _⟩ List.Pairwise.nil
    unfold woB at this
    rw [minL_none] at this
    exact this
  obtain ⟨b1, hb1⟩ : ∃ b, decide (P = (1, 0)) = b := ⟨_, rfl⟩
  obtain ⟨b2, hb2⟩ : ∃ b, decide (sumL l = s) = b := ⟨_, rfl⟩
  have HZ : Hid (zeroOk l P s = (b1 && b2)) := hid (by unfold zeroOk; rw [hb1, hb2])
  have he1 : ∀ W, (binOp .eql 54 (cz P) (.complex .f64 4607182418800017408 0)).run Try.prog W = .ok (.bool b1) W := fun W => by rw [← hb1, cz_one]; exact run_cz_eq 54 _ _ hP oneZ_res W
  have he0 : ∀ W a b, (eqGuard .eql 54 a b (cz P) (.complex .f64 4607182418800017408 0)).run Try.prog W = .ok () W := fun W a b => by rw [cz_one]; exact guard_cz .eql 54 a b _ _ W
  have he2 : ∀ W, (Op.equalIn 10000 24 (.agg (idVals (sumL l))) (.agg (List.map u8v s).toArray)).run Try.prog W = .ok b2 W := fun W => (ids_eq W (sumL l) s hSl hs32).trans (by rw [hb2])
  generalize sumL l = S at *
  generalize cz P = PV at *
  generalize zeroOk l P s = ZB at *
  clear hs hs32 hb1 hb2 hP hSl
  go_enter Try.func81, Try.ntmps81
  go_upto_region 1 with (fail)
  have hb := (Below.refl w.heap.size w).alloc (Nat.le_refl _) (.cells (idVals s) 24)
  have hbx := range_blk (Blk.new w 24 (idVals s))
  replace h := h.below hb
  generalize w.alloc (.cells (idVals s) 24) = w1 at *
  have fs := range_later hbx
  have dW : ∀ p : LaterW w1, Calls Try.prog 119 #[.slice A n c, .slice none 0 0] p.w fun e w' => e = .returned (.agg (idVals S)) ∧ Below p.w.heap.size p.w w' := fun p => cW p.w (h.below p.h)
  clear cW h hbx
  cases b1
  · go_upto_region 3 with (fail)
    refine wp_region_later mixed (by kernel_rfl) ?_
    repeat (first
      | ((with_reducible refine wpQuiet_skip (by with_unfolding_all rfl) ?_); simp only [Act.put, List.setIfInBounds_toArray, List.set_cons_zero, List.set_cons_succ])
      | ((with_reducible refine wpQuiet_load_if (by with_unfolding_all rfl) 24 _ rfl _ _ rfl (s.map u8v) _ fs hu (by with_unfolding_all rfl) hzs ?_); simp only [Act.put, List.setIfInBounds_toArray, List.set_cons_zero, List.set_cons_succ])
      | ((with_reducible refine wpQuiet_step (fun K hK => ?_)); go_simp; first | ((with_reducible refine hK _ ?_); clear hK K) | (with_reducible apply Exists.intro; (with_reducible refine ⟨fun _ => ?_, hK _ ?_⟩); ((first | (go_at_call 119; exact later_of (dW _)))); clear hK K)))
    with_reducible refine wpQuiet_nil ?_
    intro _ hw'
    obtain ⟨p9, rfl⟩ := hw'
    have hp9 := p9.h
    generalize p9.w = w3 at *
    replace hb := hb.trans (hp9.mono hb.size)
    clear fs dW hp9 he0 he1 he2
    go_wp2_with (fail)
    go_ret2
    exact ⟨.inr ⟨HZ.out, rfl⟩, hb⟩
  · cases b2
    · go_upto_region 3 with (fail)
      refine wp_region_later mixed (by kernel_rfl) ?_
      repeat (first
        | ((with_reducible refine wpQuiet_skip (by with_unfolding_all rfl) ?_); simp only [Act.put, List.setIfInBounds_toArray, List.set_cons_zero, List.set_cons_succ])
        | ((with_reducible refine wpQuiet_load_if (by with_unfolding_all rfl) 24 _ rfl _ _ rfl (s.map u8v) _ fs hu (by with_unfolding_all rfl) hzs ?_); simp only [Act.put, List.setIfInBounds_toArray, List.set_cons_zero, List.set_cons_succ])
        | ((with_reducible refine wpQuiet_step (fun K hK => ?_)); go_simp; first | ((with_reducible refine hK _ ?_); clear hK K) | (with_reducible apply Exists.intro; (with_reducible refine ⟨fun _ => ?_, hK _ ?_⟩); ((first | (go_at_call 119; exact later_of (dW _)))); clear hK K)))
      with_reducible refine wpQuiet_nil ?_
      intro _ hw'
      obtain ⟨p9, rfl⟩ := hw'
      have hp9 := p9.h
      generalize p9.w = w3 at *
      replace hb := hb.trans (hp9.mono hb.size)
      clear fs dW hp9 he0 he1 he2
      go_wp2_with (fail)
      go_ret2
      exact ⟨.inr ⟨HZ.out, rfl⟩, hb⟩
    · go_upto_region 3 with (fail)
      refine wp_region_later mixed (by kernel_rfl) ?_
      repeat (first
        | ((with_reducible refine wpQuiet_skip (by with_unfolding_all rfl) ?_); simp only [Act.put, List.setIfInBounds_toArray, List.set_cons_zero, List.set_cons_succ])
        | ((with_reducible refine wpQuiet_load_if (by with_unfolding_all rfl) 24 _ rfl _ _ rfl (s.map u8v) _ fs hu (by with_unfolding_all rfl) hzs ?_); simp only [Act.put, List.setIfInBounds_toArray, List.set_cons_zero, List.set_cons_succ])
        | ((with_reducible refine wpQuiet_step (fun K hK => ?_)); go_simp; first | ((with_reducible refine hK _ ?_); clear hK K) | (with_reducible apply Exists.intro; (with_reducible refine ⟨fun _ => ?_, hK _ ?_⟩); ((first | (go_at_call 119; exact later_of (dW _)))); clear hK K)))
      with_reducible refine wpQuiet_nil ?_
      intro _ hw'
      obtain ⟨p9, rfl⟩ := hw'
      have hp9 := p9.h
      generalize p9.w = w3 at *
      replace hb := hb.trans (hp9.mono hb.size)
      clear fs dW hp9 he0 he1 he2
      go_wp2_with (fail)
      go_ret2
      exact ⟨.inl ⟨_, rfl, HZ.out, rfl⟩, hb⟩
end Go.Proofs.Ytkajfpincbkfhaa
/- recon: two. -/
set_option linter.unusedSimpArgs false
set_option linter.unusedVariables false
namespace Go.Proofs.Ytkajfpincbkfhaa
open Go.RowKit Go.Qc Go.Shelf
attribute [local go_sem] txt_size txt_append ib_fold
/-- A row of residues of one's own. -/
def czV (L : List (Int × Int)) : List Value := L.map cz
def CzOw (W : World) (base : Nat) (v : Value) (L : List (Int × Int)) : Prop := W.ownsRow base 54 1 v L.length (czV L)
theorem CzOw.form {W : World} {base : Nat} {v : Value} {L : List (Int × Int)} (h : CzOw W base v L) : ∃ A c, v = .slice A L.length c ∧ ∀ j x, L[j]? = some x → ∃ g, A = some ⟨g, 0, none⟩ ∧ W.cell? ⟨g, j, none⟩ = some (cz x) := by
  rcases h.2 with ⟨rfl, h0⟩ | ⟨g, c, cur, rfl, _, hg, h3, _, _, ht⟩
  · refine ⟨none, 0, by rw [h0], fun j x hj => ?_⟩
    have := (List.getElem?_eq_some_iff.1 hj).1
    omega
  · refine ⟨_, c, rfl, fun j x hj => ⟨g, rfl, ?_⟩⟩
    have hlt := (List.getElem?_eq_some_iff.1 hj).1
    have ht2 : cur.toList.take (L.length * 1) = czV L := ht
    have h9 : (cur.toList.take (L.length * 1))[j]? = some (cz x) := by
      rw [ht2]; unfold czV; rw [List.getElem?_map, hj]; rfl
    rw [List.getElem?_take, if_pos (by omega), Array.getElem?_toList] at h9
    rw [cell_of_row W g j cur _ _ hg]
    exact h9
theorem infoCx_parts : ∃ i, Try.prog.info? 54 = some i ∧ i.zero = some (.complex .f64 0 0) ∧ i.size = 1 ∧ i.bytes = 16 := by
  have h : (Try.prog.info? 54).map (fun i => (i.zero, i.size, i.bytes)) = some (some (.complex .f64 0 0), 1, 16) := by kernel_rfl
  cases hq : Try.prog.info? 54 with
  | none => rw [hq] at h; cases h
  | some i =>
    rw [hq] at h
    simp only [Option.map_some, Option.some.injEq, Prod.mk.injEq] at h
    exact ⟨i, rfl, h.1, h.2.1, h.2.2⟩
theorem wpList_append_cz {w : World} {ops : Array Oper} {rest : List Oper} {o : Oper} {a : Act} {Q : Exit → Act → World → Prop} (hgd : o.guard = none) (s x : Operand)
    (ho : o.op = .call { callee := .builtin .append, args := #[s, x], argTypes := #[69, 69] })
    (base : Nat) (v : Value) (L : List (Int × Int)) (hs : a.eval s = v) (hown : CzOw w base v L) (g : Nat) (y : Int × Int) (hx : a.eval x = .slice (some ⟨g, 0, none⟩) 1 1) (hc : w.cell? ⟨g, 0, none⟩ = some (cz y))
    (hn : L.length + 1 ≤ 1000000) (hbase : base ≤ w.heap.size)
    (h : ∀ v' w', CzOw w' base v' (L ++ [y]) → w.grownBy w' v.ownBlock → wpList Try.prog ops Q rest (a.put o.dst v') w') : wpList Try.prog ops Q (o :: rest) a w := by
  obtain ⟨j0, hj, hjz, hjs, hjb⟩ := infoCx_parts
  refine wpList_append_own _ hgd s x 69 ho base 54 j0 (.complex .f64 0 0) 1 16 Try.underlying69 hj hjz hjs hjb rfl (by decide) v L.length (czV L) hs hown ⟨g, 0, none⟩ 1 1 [cz y] hx rfl ?_ (by intro u hu; rw [List.mem_singleton.1 hu]; rfl) (by unfold maxLen; omega) (by omega) hbase (fun v' w' h1 h2 _ => h v' w' ?_ h2)
  · intro j u hj'
    have : j = 0 := by have := (List.getElem?_eq_some_iff.1 hj').1; simp at this; omega
    subst this
    rw [Addr.add_lit]
    rw [← hj']
    exact hc
  · unfold CzOw czV
    rw [List.length_append, List.map_append]
    exact h1
theorem CzOw.grown {W W' : World} {base B : Nat} {v : Value} {L : List (Int × Int)} (h : CzOw W base v L) (hg : W.grownBy W' v.ownBlock) (hB : B ≤ base) {w : World} (hb : Below B w W) (hs : B ≤ W.heap.size) : Below B w W' :=
  hb.grown hg hs (by intro k hk; have := (World.ownsRow.lt h k hk).1; omega)
theorem wp_build2i {w : World} {o : Oper} {a : Act} {K : Act → World → Prop} {Q : Exit → Act → World → Prop} (x y : Operand) (ho : o.op = .buildSlice 22 2 #[(0, x), (1, y)])
    (X Y : List UInt8) (lx : X.length = 32) (ly : Y.length = 32) (hx : a.eval x = .agg (idVals X)) (hy : a.eval y = .agg (idVals Y))
    (h : ∀ cs, (∀ j u, (X.map u8v ++ Y.map u8v)[j]? = some u → (w.alloc (.cells cs 24)).cell? ((⟨w.heap.size, 0, none⟩ : Addr).add j) = some u) → K (a.put o.dst (.slice (some ⟨w.heap.size, 0, none⟩) 2 2)) (w.alloc (.cells cs 24))) :
    o.wp Try.prog a w K Q := by
  obtain ⟨j0, hj, hjz, hjs, hjb⟩ := infoId2_parts
  obtain ⟨zs, hzs⟩ : ∃ zs : Array Value, zs = (Array.range (2 * j0.size)).map ((Value.agg (idVals zeroB)).cells[· % (Value.agg (idVals zeroB)).cells.size]!) := ⟨_, rfl⟩
  have hz : zs.size = 64 := by rw [hzs, hjs]; simp
  obtain ⟨s1, g1⟩ := put_get_arr 0 X zs (by rw [hz, lx]; decide)
  generalize hc1 : (idVals X).zipIdx.foldl (fun cs (c, j) => cs.setIfInBounds (0 + j) c) zs = c1 at s1 g1
  obtain ⟨s2, g2⟩ := put_get_arr 32 Y c1 (by rw [s1, hz, ly]; decide)
  generalize hc2 : (idVals Y).zipIdx.foldl (fun cs (c, j) => cs.setIfInBounds (32 + j) c) c1 = c2 at s2 g2
  refine wp_buildSlice 22 24 2 #[(0, x), (1, y)] ho c2 j0 (.agg (idVals zeroB)) Try.underlying22 hj hjz (by rw [hjs]; decide) (by rw [hjs]; decide) ?_ (h c2 ?_)
  · rw [← hzs, hjs]
    have e1 : (Value.agg (idVals X)).cells = idVals X := rfl
    have e2 : (Value.agg (idVals Y)).cells = idVals Y := rfl
    simp only [List.map_toArray, List.map_cons, List.map_nil, hx, hy, Instr.fill, e1, e2, idVals_size, lx, ly, hz]
    rw [if_neg (by decide)]
    simp only [Nat.zero_mul, Nat.one_mul]
    rw [hc1, s1, hz, if_neg (by decide), hc2]
  · intro j u hj'
    have hlt : j < 64 := by have := (List.getElem?_eq_some_iff.1 hj').1; simp [lx, ly] at this; omega
    rw [Addr.add_lit, Nat.zero_add, cell_of_row _ _ j _ _ _ (heap_alloc_new w _), g2, ly]
    by_cases c : 32 ≤ j
    · rw [if_pos (by omega), ← hj', List.getElem?_append_right (by rw [List.length_map, lx]; exact c), List.length_map, lx]
    · rw [if_neg (by omega), g1, lx, if_pos (by omega), ← hj', List.getElem?_append_left (by rw [List.length_map, lx]; omega), Nat.sub_zero]
theorem wpList_build1c {w : World} {ops : Array Oper} {rest : List Oper} {o : Oper} {a : Act} {Q : Exit → Act → World → Prop} (hgd : o.guard = none) (x : Operand) (ho : o.op = .buildSlice 69 1 #[(0, x)])
    (y : Int × Int) (hx : a.eval x = cz y)
    (h : ∀ cs, (w.alloc (.cells cs 54)).cell? ⟨w.heap.size, 0, none⟩ = some (cz y) → wpList Try.prog ops Q rest (a.put o.dst (.slice (some ⟨w.heap.size, 0, none⟩) 1 1)) (w.alloc (.cells cs 54))) :
    wpList Try.prog ops Q (o :: rest) a w := by
  obtain ⟨j0, hj, hjz, hjs, hjb⟩ := infoCx_parts
  have e1 : (cz y).cells = #[cz y] := rfl
  refine wpList_buildSlice hgd 69 54 1 #[(0, x)] ho #[cz y] j0 (.complex .f64 0 0) Try.underlying69 hj hjz (by rw [hjs]; decide) (by rw [hjs]; decide) ?_ (h #[cz y] ((Blk.new w 54 #[cz y]).cell_ rfl))
  · rw [hjs]
    simp only [List.map_toArray, List.map_cons, List.map_nil, hx, Instr.fill, e1]
    generalize hzz : Array.map _ (Array.range (1 * 1)) = zs
    have hz : zs.size = 1 := by rw [← hzz]; simp
    obtain ⟨z, rfl⟩ := Array.size_eq_one_iff.1 hz
    rfl
/-- May two ids lack, by a product and a sum? -/
def twoB (l : List (List UInt8)) (P : Int × Int) (s x y : List UInt8) : Bool := decide (idZ y = gmulZ P (ginvZ (idZ x))) && decide (woB l [x, y] = s)
/-- No two ids ahead of a place lack, nor one ahead of it with any other one. -/
def NoTwo (l : List (List UInt8)) (P : Int × Int) (s : List UInt8) (i : Nat) : Prop := ∀ a x b y, a < i → a < b → l[a]? = some x → l[b]? = some y → twoB l P s x y = false
def NoTwo2 (l : List (List UInt8)) (P : Int × Int) (s : List UInt8) (i k : Nat) : Prop := NoTwo l P s i ∧ ∀ x b y, i < b → b < k → l[i]? = some x → l[b]? = some y → twoB l P s x y = false
def GoodTwo (l : List (List UInt8)) (P : Int × Int) (s : List UInt8) (W : World) (v : Value) : Prop :=
  ∃ (i k : Nat) (x y : List UInt8) (A : Option Addr) (c : Nat), v = .slice A 2 c ∧ i < k ∧ l[i]? = some x ∧ l[k]? = some y ∧ twoB l P s x y = true ∧ NoTwo2 l P s i k ∧ RowC W A 2 c [x, y]
theorem NoTwo.start (l : List (List UInt8)) (P : Int × Int) (s : List UInt8) : NoTwo l P s 0 := fun a x b y h => by omega
theorem NoTwo.inner {l : List (List UInt8)} {P : Int × Int} {s : List UInt8} {i : Nat} (h : NoTwo l P s i) : NoTwo2 l P s i (i + 1) := ⟨h, fun x b y h1 h2 => by omega⟩
theorem NoTwo2.step {l : List (List UInt8)} {P : Int × Int} {s : List UInt8} {i k : Nat} {x y : List UInt8} (h : NoTwo2 l P s i k) (hx : l[i]? = some x) (hy : l[k]? = some y) (hf : twoB l P s x y = false) : NoTwo2 l P s i (k + 1) := ⟨h.1, fun x' b y' h1 h2 h3 h4 => by
  rcases Nat.lt_or_ge b k with e | e
  · exact h.2 x' b y' h1 e h3 h4
  · obtain rfl : b = k := by omega
    rw [hx] at h3; rw [hy] at h4
    cases h3; cases h4; exact hf⟩
theorem NoTwo2.stop {l : List (List UInt8)} {P : Int × Int} {s : List UInt8} {i k : Nat} (h : NoTwo2 l P s i k) (hk : l.length ≤ k) : NoTwo l P s (i + 1) := fun a x b y h1 h2 h3 h4 => by
  rcases Nat.lt_or_ge a i with e | e
  · exact h.1 a x b y e h2 h3 h4
  · obtain rfl : a = i := by omega
    exact h.2 x b y h2 (by have := (List.getElem?_eq_some_iff.1 h4).1; omega) h3 h4
theorem two_sorted {l : List (List UInt8)} (h : Rising l) {i k : Nat} {x y : List UInt8} (hik : i < k) (hx : l[i]? = some x) (hy : l[k]? = some y) : Rising [x, y] :=
  List.Pairwise.cons (fun z hz => by rw [List.mem_singleton.1 hz]; exact rising_get h hik hx hy) (List.Pairwise.cons (fun _ h => by cases h) List.Pairwise.nil)
set_option maxRecDepth 100000 in
set_option maxHeartbeats 8000000 in
theorem two_any (A : Option Addr) (n c : Nat) (l : List (List UInt8)) (P : Int × Int) (hP : ResZ P) (s : List UInt8) (hs32 : s.length = 32) (w : World) (h : RowC w A n c l) (hs : Steps l n) :
    Calls Try.prog 121 #[.slice A n c, cz P, .agg (idVals s)] w (LQ (GoodTwo l P s) (NoTwo l P s n) (.bool true) (.bool false) w) := by
  have mixed : Try.prog.follows .mixedOrders = true := by kernel_rfl
  have hu := Try.underlying24
  have hn6 := h.1.2.1
  have hzq : (Try.prog.info? 24).map (·.size) = some (s.map u8v).length := by rw [List.length_map, hs32]; exact sizeId
  have hri : Rising l := steps_rising l (by rw [h.1.1]; exact hs)
  have HS32 := hid hs32
  have HPR := hid hP
  have HRI := hid hri
  have HST := hid hs
  generalize hPV : cz P = PV
  have HPV := hid hPV
  clear hs hs32 hP hPV hri
  go_enter Try.func121, Try.ntmps121
  go_upto_region 1 with (fail)
  have hb0 := (Below.refl w.heap.size w).alloc (Nat.le_refl _) (.cells (idVals s) 24)
  have hbx := range_blk (Blk.new w 24 (idVals s))
  replace h := h.below hb0
  generalize w.alloc (.cells (idVals s) 24) = w1 at *
  obtain ⟨j0, hj, hjz, hjs, hjb⟩ := infoCx_parts
  go_step3
  go_upto_region 2 with (at_make; refine wpList_make_own _ rfl _ _ 69 rfl w1.heap.size 54 j0 (.complex .f64 0 0) 1 Try.underlying69 hj hjz hjs _ _ _ n rfl rfl rfl (by rw [hjb]; omega) (by unfold maxLen; omega) (Nat.le_refl _) ?_; intro w2 hown2 hg2)
  have hO2 : Hid (CzOw w2 w1.heap.size (.slice (some ⟨w1.heap.size, 0, none⟩) 0 n) []) := hid hown2
  have hB2 : Hid (Below w1.heap.size w1 w2) := hid ((Below.refl w1.heap.size w1).grown hg2 (Nat.le_refl _) (fun k hk => by cases hk))
  clear hown2 hg2 hj hjz hjs hjb
  have H := hid h
  have HBX := hid hbx
  have HB0 := hid hb0
  clear h hbx hb0
  go_wp2_with (fail)
  go_loopw [8, 22] (fun u v wr => ∃ (m : Nat) (u9 : Value), m ≤ n ∧ u9 = u ∧ v = .int .i64 (m : Int) ∧ Hid (CzOw wr w1.heap.size u9 ((l.take m).map idZ)) ∧ Hid (Below w1.heap.size w1 wr)) (fun _ v _ => n - (intOf v).toNat)
  case atStart => exact ⟨0, _, Nat.zero_le _, rfl, rfl, hO2, hB2⟩
  case round =>
    clear hO2 hB2
    obtain ⟨m, u9, hm, rfl, rfl, HO, HB⟩ := hrel
    obtain ⟨w5, hw5⟩ : ∃ u, u = wr := ⟨_, rfl⟩
    subst hw5
    by_cases hlt : m < n
    · have hln := H.out.1.1
      obtain ⟨x, hx⟩ : ∃ x, l[m]? = some x := ⟨_, List.getElem?_eq_getElem (by omega)⟩
      obtain ⟨gi, q, hgi, lx, hix⟩ := H.out.1.2.2.pick (k := m) (a := x) c hln hx
      have hzx : (Try.prog.info? 24).map (·.size) = some (x.map u8v).length := by rw [List.length_map, lx]; exact sizeId
      have fg := hgi.below HB.out
      have z2 : (m : Int) < (n : Int) := by omega
      have q9 := pv_q1 (p := m) (by omega)
      have HLT := hid hlt
      have HL : Hid (((l.take m).map idZ).length + 1 ≤ 1000000) := hid (by rw [List.length_map, List.length_take]; omega)
      have HS : Hid ((l.take (m + 1)).map idZ = (l.take m).map idZ ++ [idZ x]) := hid (by rw [List.take_add_one, hx, List.map_append]; rfl)
      have cO : ∀ W, Calls Try.prog 88 #[.agg (List.map u8v x).toArray] W fun e w' => e = .returned (cz (idZ x)) ∧ Below W.heap.size W w' := fun W => gof_any x lx W
      generalize (l.take m).map idZ = M at *
      obtain ⟨Z, hZ⟩ : ∃ Z, idZ x = Z := ⟨_, rfl⟩
      rw [hZ] at HS cO
      clear hlt hm hx hgi hln hZ
      go_wp2_with (first
        | (with_reducible refine wpList_load_if (by with_unfolding_all rfl) 24 _ rfl _ _ rfl (x.map u8v) _ fg hu rfl hzx ?_)
        | ((with_reducible refine wpList_store_newid rfl _ _ rfl x lx rfl rfl (by with_unfolding_all rfl) ?_); intro w3 hx3 hb3; replace HO : Hid (CzOw w3 w1.heap.size u9 M) := hid (own_below HO.out hb3); replace HB := hid (HB.out.trans (hb3.mono HB.out.size)))
        | (with_reducible refine wpList_load_if (by with_unfolding_all rfl) 24 _ rfl _ _ rfl (x.map u8v) _ hx3 hu rfl hzx ?_)
        | (go_at_call 88; (with_reducible refine (cO _).mono ?_); rintro e4 w4 ⟨rfl, hb4⟩; replace HO : Hid (CzOw w4 w1.heap.size u9 M) := hid (own_below HO.out hb4); replace HB := hid (HB.out.trans (hb4.mono HB.out.size)))
        | ((with_reducible refine wpList_build1c rfl _ rfl Z rfl ?_); intro cs hc; have HAL := hid ((Below.refl w4.heap.size w4).alloc (Nat.le_refl _) (.cells cs 54)); have HO4 : Hid (CzOw (w4.alloc (.cells cs 54)) w1.heap.size u9 M) := hid (own_below HO.out HAL.out); have HC := hid hc; clear hc)
        | (at_builtin; refine wpList_append_cz rfl _ _ rfl w1.heap.size _ _ rfl HO4.out _ Z rfl HC.out HL.out (Nat.le_trans HB.out.size HAL.out.size) ?_; intro v8 w8 hown8 hg8; have HB8 := hid (CzOw.grown HO4.out hg8 (Nat.le_refl _) (HB.out.trans (HAL.out.mono HB.out.size)) (Nat.le_trans HB.out.size HAL.out.size)); have HO8 := hid hown8; clear hown8 hg8))
      go_roundw
      case rel => exact ⟨m + 1, _, HLT.out, rfl, by go_num, by rw [HS.out]; exact HO8, HB8⟩
      case measure => first | exact meas_k9 HLT.out | (rw [q9]; exact meas_k9 HLT.out)
    · obtain rfl : m = n := by omega
      have z2 : ¬ (m : Int) < (m : Int) := by omega
      have hF : CzOw w5 w1.heap.size u9 (l.map idZ) := by
        have := HO.out
        rw [← H.out.1.1, List.take_length] at this
        exact this
      obtain ⟨A8, c8, e8, hcell⟩ := hF.form
      have hlm : (l.map idZ).length = m := by rw [List.length_map, H.out.1.1]
      rw [hlm] at e8
      subst e8
      have HCL : Hid (∀ j x, l[j]? = some x → ∃ g, A8 = some ⟨g, 0, none⟩ ∧ w5.cell? ⟨g, j, none⟩ = some (cz (idZ x))) := hid (fun j x hj => hcell j (idZ x) (by rw [List.getElem?_map, hj]; rfl))
      clear hlt hm hF hcell HO hlm
      go_wp2_with (fail)
      go_step3
      go_wp2_with (fail)
      go_loopw [6, 7, 34] (fun u6 u7 v wr => ∃ i : Nat, i ≤ m ∧ u6 = .slice none 0 0 ∧ u7 = .bool false ∧ v = .int .i64 (i : Int) ∧ Hid (NoTwo l P s i) ∧ Hid (Below w5.heap.size w5 wr)) (fun _ _ v _ => m - (intOf v).toNat)
      case atStart => exact ⟨0, Nat.zero_le _, rfl, rfl, rfl, hid (NoTwo.start l P s), hid (Below.refl _ _)⟩
      case round =>
        obtain ⟨i, hi, rfl, rfl, rfl, HN, HB5⟩ := hrel
        obtain ⟨w6, hw6⟩ : ∃ u, u = wr := ⟨_, rfl⟩
        subst hw6
        by_cases hlt : i < m
        · have hln := H.out.1.1
          obtain ⟨x, hx⟩ : ∃ x, l[i]? = some x := ⟨_, List.getElem?_eq_getElem (by omega)⟩
          obtain ⟨gx, qx, hgx, lx, hixx⟩ := H.out.1.2.2.pick (k := i) (a := x) c hln hx
          obtain ⟨g8, hA8, hc8⟩ := HCL.out i x hx
          have x1 : ∀ W, (Instr.indexAt 69 (.slice A8 m c8) (.int .i64 (i : Int))).run Try.prog W = .ok (.pointer (some ⟨g8, i, none⟩)) W := fun W => by rw [hA8]; exact cx_index g8 m c8 i hlt W
          have f8 := cell_belM HB5.out hc8
          have hB6 : Hid (Below w1.heap.size w1 w6) := hid (HB.out.trans (HB5.out.mono HB.out.size))
          have fgx := hgx.below hB6.out
          have hzx : (Try.prog.info? 24).map (·.size) = some (x.map u8v).length := by rw [List.length_map, lx]; exact sizeId
          obtain ⟨OT, hOT⟩ : ∃ OT, gmulZ P (ginvZ (idZ x)) = OT := ⟨_, rfl⟩
          have HOR : Hid (ResZ OT) := hid (by rw [← hOT]; exact gmulZ_res _ _)
          have cD : ∀ W, Calls Try.prog 80 #[PV, cz (idZ x)] W fun e w' => e = .returned (.tuple #[cz OT, .bool true]) ∧ W = w' := fun W => by
            rw [← HPV.out, ← hOT]
            exact gdiv_any P (idZ x) HPR.out (idZ_res x) (idZ_ne x) W
          have z3 : (i : Int) < (m : Int) := Int.ofNat_lt.2 hlt
          have q8 := pv_q1 (p := i) (by omega)
          have HLT := hid hlt
          have HX := hid hx
          have HOT := hid hOT
          have HWO : Hid (∀ (W : World) (y : List UInt8) (g k : Nat), RowC W A m c l → i < k → l[k]? = some y → RowC W (some ⟨g, 0, none⟩) 2 2 [x, y] → Calls Try.prog 119 #[.slice A m c, .slice (some ⟨g, 0, none⟩) 2 2] W fun e w' => e = .returned (.agg (idVals (woB l [x, y]))) ∧ Below W.heap.size W w') := hid (fun W y g k h1 hk hy h2 => without_any A (some ⟨g, 0, none⟩) m c 2 2 l [x, y] W h1 HST.out h2.at (two_sorted HRI.out hk hx hy))
          have hnil : Hid (NoTwo2 l P s i (i + 1)) := hid HN.out.inner
          generalize cz (idZ x) = ZX at *
          obtain ⟨OV, hOV⟩ : ∃ OV, cz OT = OV := ⟨_, rfl⟩
          have HOV := hid hOV
          rw [hOV] at cD
          clear hlt hi hx hgx hln hA8 hc8 HN hOT hOV
          go_wp2_with (go_at_call 80; (with_reducible refine (cD _).mono ?_); rintro e3 w3 ⟨rfl, rfl⟩)
          go_loopw [6, 7, 15] (fun u6 u7 v wr => ∃ k : Nat, i < k ∧ k ≤ m ∧ u6 = .slice none 0 0 ∧ u7 = .bool false ∧ v = .int .i64 (k : Int) ∧ Hid (NoTwo2 l P s i k) ∧ Hid (Below w6.heap.size w6 wr)) (fun _ _ v _ => m - (intOf v).toNat)
          case atStart => exact ⟨i + 1, Nat.lt_succ_self _, HLT.out, rfl, rfl, by go_num, hnil, hid (Below.refl _ _)⟩
          case round =>
            clear hnil x1 f8 cD
            obtain ⟨k, hik, hkm, rfl, rfl, rfl, HN2, HB7⟩ := hrel
            by_cases hlt : k < m
            · have hln := H.out.1.1
              obtain ⟨y, hy⟩ : ∃ y, l[k]? = some y := ⟨_, List.getElem?_eq_getElem (by omega)⟩
              obtain ⟨gy, qy, hgy, ly, hixy⟩ := H.out.1.2.2.pick (k := k) (a := y) c hln hy
              obtain ⟨g9, hA9, hc9⟩ := HCL.out k y hy
              have x2 : ∀ W, (Instr.indexAt 69 (.slice A8 m c8) (.int .i64 (k : Int))).run Try.prog W = .ok (.pointer (some ⟨g9, k, none⟩)) W := fun W => by rw [hA9]; exact cx_index g9 m c8 k hlt W
              have hB8 : Hid (Below w1.heap.size w1 wr) := hid (hB6.out.trans (HB7.out.mono hB6.out.size))
              have f9 : wr.cell? ⟨g9, k, none⟩ = some (cz (idZ y)) := by
                exact cell_belM HB7.out (cell_belM HB5.out hc9)
              have hzy : (Try.prog.info? 24).map (·.size) = some (y.map u8v).length := by rw [List.length_map, ly]; exact sizeId
              have fx := fgx.below HB7.out
              have fy := hgy.below hB8.out
              have fs := (HBX.out).below hB8.out
              have hh8 := (H.out).below hB8.out
              have z4 : (k : Int) < (m : Int) := Int.ofNat_lt.2 hlt
              have q9 := pv_q1 (p := k) (by omega)
              obtain ⟨t1, ht1⟩ : ∃ t, decide (idZ y = OT) = t := ⟨_, rfl⟩
              obtain ⟨t2, ht2⟩ : ∃ t, decide (woB l [x, y] = s) = t := ⟨_, rfl⟩
              have he1 : ∀ W, (binOp .neq 54 (cz (idZ y)) OV).run Try.prog W = .ok (.bool (!t1)) W := fun W => by rw [← ht1, ← HOV.out]; exact run_cz_neq 54 _ _ (idZ_res y) HOR.out W
              have he0 : ∀ W a b, (eqGuard .neq 54 a b (cz (idZ y)) OV).run Try.prog W = .ok () W := fun W a b => by rw [← HOV.out]; exact guard_cz .neq 54 a b _ _ W
              have he2 : ∀ W, (Op.equalIn 10000 24 (.agg (idVals (woB l [x, y]))) (.agg (List.map u8v s).toArray)).run Try.prog W = .ok t2 W := fun W => (ids_eq W (woB l [x, y]) s (sumL_length _) HS32.out).trans (by rw [ht2])
              have HT : Hid (twoB l P s x y = (t1 && t2)) := hid (by unfold twoB; rw [HOT.out, ht1, ht2])
              have HY := hid hy
              have HKL := hid hlt
              have HIK := hid hik
              have HB9 : Hid (Below w5.heap.size w5 wr) := hid (HB5.out.trans (HB7.out.mono HB5.out.size))
              have hwo : ∀ W (g : Nat), RowC W A m c l → RowC W (some ⟨g, 0, none⟩) 2 2 [x, y] → Calls Try.prog 119 #[.slice A m c, .slice (some ⟨g, 0, none⟩) 2 2] W fun e w' => e = .returned (.agg (idVals (woB l [x, y]))) ∧ Below W.heap.size W w' := fun W g h1 h2 => HWO.out W y g k h1 hik hy h2
              clear ht1 ht2 hlt hln hy hgy hA9 hc9 hik hkm
              generalize woB l [x, y] = S at *
              generalize cz (idZ y) = ZY at *
              cases t1
              · clear fx fy fs hh8 he2 hwo hixy hixx
                go_wp2_with (fail)
                go_roundw
                case rel => exact ⟨k + 1, Nat.lt_succ_of_lt HIK.out, HKL.out, rfl, rfl, by go_num, hid (HN2.out.step HX.out HY.out (HT.out.trans (by rfl))), HB7⟩
                case measure => first | exact meas_k9 HKL.out | (rw [q9]; exact meas_k9 HKL.out)
              · go_upto_region 15 with (fail)
                refine wp_region_held_drew (S := fun W => Below wr.heap.size wr W) (by kernel_rfl) (below_drew1 wr) (fun hHeld => ?_)
                generalize wr.drew = w7 at *
                refine' wpAnyH_take (i := 0) (v := .slice A m c) rfl (by kernel_rfl) (by kernel_rfl) (by kernel_rfl) (fun _ _ _ h => h) (Or.inl ⟨by rfl, fun w' hw' => by go_simp⟩) hHeld ?_
                try simp only [Act.put, List.getElem_toArray, List.getElem_cons_succ, List.getElem_cons_zero, List.setIfInBounds_toArray, List.set_cons_zero, List.set_cons_succ]
                refine' wpAnyH_take (i := 1) (v := .int .i64 (i : Int)) rfl (by kernel_rfl) (by kernel_rfl) (by kernel_rfl) (fun _ _ _ h => h) (Or.inl ⟨by rfl, fun w' hw' => by go_simp⟩) hHeld ?_
                try simp only [Act.put, List.getElem_toArray, List.getElem_cons_succ, List.getElem_cons_zero, List.setIfInBounds_toArray, List.set_cons_zero, List.set_cons_succ]
                refine' wpAnyH_take (i := 2) (v := .pointer (some ⟨gx, qx, none⟩)) rfl (by kernel_rfl) (by kernel_rfl) (by kernel_rfl) (fun _ _ _ h => h) (Or.inl ⟨by rfl, fun w' hw' => by have hv := hixx w'; go_simp⟩) hHeld ?_
                try simp only [Act.put, List.getElem_toArray, List.getElem_cons_succ, List.getElem_cons_zero, List.setIfInBounds_toArray, List.set_cons_zero, List.set_cons_succ]
                refine' wpAnyH_take (i := 3) (v := _) rfl (by kernel_rfl) (by kernel_rfl) (by kernel_rfl) (fun _ _ _ h => h) (yieldsIf_load_mid (by rfl) 24 _ rfl _ _ rfl (x.map u8v) _ (fun w' h => fx.below h) hu rfl hzx) hHeld ?_
                try simp only [Act.put, List.getElem_toArray, List.getElem_cons_succ, List.getElem_cons_zero, List.setIfInBounds_toArray, List.set_cons_zero, List.set_cons_succ]
                refine' wpAnyH_take (i := 4) (v := .slice A m c) rfl (by kernel_rfl) (by kernel_rfl) (by kernel_rfl) (fun _ _ _ h => h) (Or.inl ⟨by rfl, fun w' hw' => by go_simp⟩) hHeld ?_
                try simp only [Act.put, List.getElem_toArray, List.getElem_cons_succ, List.getElem_cons_zero, List.setIfInBounds_toArray, List.set_cons_zero, List.set_cons_succ]
                refine' wpAnyH_take (i := 5) (v := .int .i64 (k : Int)) rfl (by kernel_rfl) (by kernel_rfl) (by kernel_rfl) (fun _ _ _ h => h) (Or.inl ⟨by rfl, fun w' hw' => by go_simp⟩) hHeld ?_
                try simp only [Act.put, List.getElem_toArray, List.getElem_cons_succ, List.getElem_cons_zero, List.setIfInBounds_toArray, List.set_cons_zero, List.set_cons_succ]
                refine' wpAnyH_take (i := 6) (v := .pointer (some ⟨gy, qy, none⟩)) rfl (by kernel_rfl) (by kernel_rfl) (by kernel_rfl) (fun _ _ _ h => h) (Or.inl ⟨by rfl, fun w' hw' => by have hv := hixy w'; go_simp⟩) hHeld ?_
                try simp only [Act.put, List.getElem_toArray, List.getElem_cons_succ, List.getElem_cons_zero, List.setIfInBounds_toArray, List.set_cons_zero, List.set_cons_succ]
                refine' wpAnyH_take (i := 7) (v := _) rfl (by kernel_rfl) (by kernel_rfl) (by kernel_rfl) (fun _ _ _ h => h) (yieldsIf_load_mid (by rfl) 24 _ rfl _ _ rfl (y.map u8v) _ (fun w' h => fy.below h) hu rfl hzy) hHeld ?_
                try simp only [Act.put, List.getElem_toArray, List.getElem_cons_succ, List.getElem_cons_zero, List.setIfInBounds_toArray, List.set_cons_zero, List.set_cons_succ]
                refine wpAnyH_ready (rs := [8]) (by kernel_rfl) (by simp) ?_
                refine AllReadyH.cons rfl (fun K hK => ?_) AllReadyH.nil
                refine wp_build2i _ _ rfl x y lx ly rfl rfl ?_
                intro cs hcs
                have al := (Below.refl w7.heap.size w7).alloc (Nat.le_refl _) (.cells cs 24)
                have hrow := two_row lx ly hcs
                refine hK.out _ _ (hHeld.trans (al.mono hHeld.size)) (fun hHeld => ?_)
                clear hK K hcs al
                try simp only [Act.put, List.getElem_toArray, List.getElem_cons_succ, List.getElem_cons_zero, List.setIfInBounds_toArray, List.set_cons_zero, List.set_cons_succ]
                generalize w7.alloc (.cells cs 24) = w8 at *
                obtain ⟨g7, hg7⟩ : ∃ g, w7.heap.size = g := ⟨_, rfl⟩
                rw [hg7] at hrow
                simp only [hg7]
                refine' wpAnyH_take (i := 9) (v := .slice (some ⟨g7, 0, none⟩) 2 2) rfl (by kernel_rfl) (by kernel_rfl) (by kernel_rfl) (fun _ _ _ h => h) (Or.inl ⟨by rfl, fun w' hw' => by go_simp⟩) hHeld ?_
                try simp only [Act.put, List.getElem_toArray, List.getElem_cons_succ, List.getElem_cons_zero, List.setIfInBounds_toArray, List.set_cons_zero, List.set_cons_succ]
                refine wpAnyH_done (by kernel_rfl) ?_ _
                clear hg7 fx fy
                have hh9 := hh8.below hHeld
                have fsL := range_later (fs.below hHeld)
                have hwL : ∀ p : LaterW w8, Calls Try.prog 119 #[.slice A m c, .slice (some ⟨g7, 0, none⟩) 2 2] p.w fun e w' => e = .returned (.agg (idVals S)) ∧ Below p.w.heap.size p.w w' := fun p => hwo p.w g7 (hh9.below p.h) (hrow.below p.h)
                have HROW := hid hrow
                clear hrow hh8 fs hwo hh9 he0 he1
                cases t2
                · go_upto_region 16 with (fail)
                  refine wp_region_later mixed (by kernel_rfl) ?_
                  repeat (first
                    | ((with_reducible refine wpQuiet_skip (by with_unfolding_all rfl) ?_); simp only [Act.put, List.setIfInBounds_toArray, List.set_cons_zero, List.set_cons_succ])
                    | ((with_reducible refine wpQuiet_load_if (by with_unfolding_all rfl) 24 _ rfl _ _ rfl (s.map u8v) _ fsL hu (by with_unfolding_all rfl) hzq ?_); simp only [Act.put, List.setIfInBounds_toArray, List.set_cons_zero, List.set_cons_succ])
                    | ((with_reducible refine wpQuiet_step (fun K hK => ?_)); go_simp; first | ((with_reducible refine hK _ ?_); clear hK K) | (with_reducible apply Exists.intro; (with_reducible refine ⟨fun _ => ?_, hK _ ?_⟩); ((first | (go_at_call 119; exact later_of (hwL _)))); clear hK K)))
                  with_reducible refine wpQuiet_nil ?_
                  intro _ hw'
                  obtain ⟨p9, rfl⟩ := hw'
                  have hp9 := p9.h
                  generalize p9.w = w9 at *
                  clear fsL hwL he2 HROW hixx hixy
                  have HBN := hid (HB7.out.trans ((hHeld.trans (hp9.mono hHeld.size)).mono HB7.out.size))
                  go_wp2_with (fail)
                  go_roundw
                  case rel => exact ⟨k + 1, Nat.lt_succ_of_lt HIK.out, HKL.out, rfl, rfl, by go_num, hid (HN2.out.step HX.out HY.out (HT.out.trans (by rfl))), HBN⟩
                  case measure => first | exact meas_k9 HKL.out | (rw [q9]; exact meas_k9 HKL.out)
                · go_upto_region 16 with (fail)
                  refine wp_region_later mixed (by kernel_rfl) ?_
                  repeat (first
                    | ((with_reducible refine wpQuiet_skip (by with_unfolding_all rfl) ?_); simp only [Act.put, List.setIfInBounds_toArray, List.set_cons_zero, List.set_cons_succ])
                    | ((with_reducible refine wpQuiet_load_if (by with_unfolding_all rfl) 24 _ rfl _ _ rfl (s.map u8v) _ fsL hu (by with_unfolding_all rfl) hzq ?_); simp only [Act.put, List.setIfInBounds_toArray, List.set_cons_zero, List.set_cons_succ])
                    | ((with_reducible refine wpQuiet_step (fun K hK => ?_)); go_simp; first | ((with_reducible refine hK _ ?_); clear hK K) | (with_reducible apply Exists.intro; (with_reducible refine ⟨fun _ => ?_, hK _ ?_⟩); ((first | (go_at_call 119; exact later_of (hwL _)))); clear hK K)))
                  with_reducible refine wpQuiet_nil ?_
                  intro _ hw'
                  obtain ⟨p9, rfl⟩ := hw'
                  have hp9 := p9.h
                  generalize p9.w = w9 at *
                  have hrow9 := HROW.out.below hp9
                  have HBN := hid (HB0.out.trans ((hB8.out.trans ((hHeld.trans (hp9.mono hHeld.size)).mono hB8.out.size)).mono HB0.out.size))
                  clear fsL hwL he2 HROW hixx hixy
                  go_wp2_with (fail)
                  go_ret2
                  exact ⟨.inl ⟨_, rfl, i, k, x, y, _, _, rfl, HIK.out, HX.out, HY.out, HT.out, HN2.out, hrow9⟩, HBN.out⟩
            · obtain rfl : k = m := by omega
              have z4 : ¬ (k : Int) < (k : Int) := by omega
              have HB9 : Hid (Below w5.heap.size w5 wr) := hid (HB5.out.trans (HB7.out.mono HB5.out.size))
              have HNN : Hid (NoTwo l P s (i + 1)) := hid (HN2.out.stop (Nat.le_of_eq H.out.1.1))
              clear hlt hixx hik hkm
              go_wp2_with (fail)
              go_roundw
              case rel => exact ⟨i + 1, HLT.out, rfl, rfl, by go_num, HNN, HB9⟩
              case measure => first | exact meas_k9 HLT.out | (rw [q8]; exact meas_k9 HLT.out)
        · obtain rfl : i = m := by omega
          have z4 : ¬ (i : Int) < (i : Int) := by omega
          have HBN := hid (HB0.out.trans ((HB.out.trans (HB5.out.mono HB.out.size)).mono HB0.out.size))
          clear hlt hi
          go_wp2_with (fail)
          go_ret2
          exact ⟨.inr ⟨HN.out, rfl⟩, HBN.out⟩
end Go.Proofs.Ytkajfpincbkfhaa
/- recon: what lacks, told by one relation for the program's and the document's answers. -/
set_option linter.unusedSimpArgs false
set_option linter.unusedVariables false
namespace Go.Proofs.Ytkajfpincbkfhaa
open Go.RowKit Go.Qc Go.Shelf
attribute [local go_sem] txt_size txt_append ib_fold
abbrev IdL := List (List UInt8)
/-- Is no id ahead of a place one by itself? -/
def No1 (l : IdL) (f : List UInt8 → Bool) (i : Nat) : Prop := ∀ a x, a < i → l[a]? = some x → f x = false
def No2 (l : IdL) (g : List UInt8 → List UInt8 → Bool) (i : Nat) : Prop := ∀ a x b y, a < i → a < b → l[a]? = some x → l[b]? = some y → g x y = false
def No22 (l : IdL) (g : List UInt8 → List UInt8 → Bool) (i k : Nat) : Prop := No2 l g i ∧ ∀ x b y, i < b → b < k → l[i]? = some x → l[b]? = some y → g x y = false
/-- What lacks. -/
def LkIs (l : IdL) (f0 : Bool) (f : List UInt8 → Bool) (g : List UInt8 → List UInt8 → Bool) (r : Option IdL) : Prop :=
  (f0 = true ∧ r = some []) ∨
  (f0 = false ∧ ∃ i x, l[i]? = some x ∧ f x = true ∧ No1 l f i ∧ No2 l g i ∧ r = some [x]) ∨
  (f0 = false ∧ ∃ i k x y, i < k ∧ l[i]? = some x ∧ l[k]? = some y ∧ g x y = true ∧ No1 l f (i + 1) ∧ No22 l g i k ∧ r = some [x, y]) ∨
  (f0 = false ∧ No1 l f l.length ∧ No2 l g l.length ∧ r = none)
theorem get_lt {l : IdL} {i : Nat} {x : List UInt8} (h : l[i]? = some x) : i < l.length := (List.getElem?_eq_some_iff.1 h).1
theorem LkIs.same {l : IdL} {f0 : Bool} {f : List UInt8 → Bool} {g : List UInt8 → List UInt8 → Bool} {r s : Option IdL} (h : LkIs l f0 f g r) (h2 : LkIs l f0 f g s) : r = s := by
  rcases h with ⟨e, rfl⟩ | ⟨e, i, x, hi, hf, n1, n2, rfl⟩ | ⟨e, i, k, x, y, hik, hx, hy, hg, n1, n2, rfl⟩ | ⟨e, n1, n2, rfl⟩
  · rcases h2 with ⟨e2, rfl⟩ | ⟨e2, _⟩ | ⟨e2, _⟩ | ⟨e2, _⟩
    · rfl
    · rw [e] at e2; cases e2
    · rw [e] at e2; cases e2
    · rw [e] at e2; cases e2
  · rcases h2 with ⟨e2, rfl⟩ | ⟨_, i', x', hi', hf', n1', n2', rfl⟩ | ⟨_, i', k', x', y', hik', hx', hy', hg', n1', n2', rfl⟩ | ⟨_, n1', n2', rfl⟩
    · rw [e] at e2; cases e2
    · rcases Nat.lt_trichotomy i i' with c | c | c
      · have := n1' i x c hi; rw [hf] at this; cases this
      · subst c; rw [hi] at hi'; cases hi'; rfl
      · have := n1 i' x' c hi'; rw [hf'] at this; cases this
    · rcases Nat.lt_or_ge i (i' + 1) with c | c
      · have := n1' i x c hi; rw [hf] at this; cases this
      · have := n2 i' x' k' y' (by omega) hik' hx' hy'; rw [hg'] at this; cases this
    · have := n1' i x (get_lt hi) hi; rw [hf] at this; cases this
  · rcases h2 with ⟨e2, rfl⟩ | ⟨_, i', x', hi', hf', n1', n2', rfl⟩ | ⟨_, i', k', x', y', hik', hx', hy', hg', n1', n2', rfl⟩ | ⟨_, n1', n2', rfl⟩
    · rw [e] at e2; cases e2
    · rcases Nat.lt_or_ge i' (i + 1) with c | c
      · have := n1 i' x' c hi'; rw [hf'] at this; cases this
      · have := n2' i x k y (by omega) hik hx hy; rw [hg] at this; cases this
    · rcases Nat.lt_trichotomy i i' with c | c | c
      · have := n2'.1 i x k y c hik hx hy; rw [hg] at this; cases this
      · subst c
        rw [hx] at hx'; cases hx'
        rcases Nat.lt_trichotomy k k' with d | d | d
        · have := n2'.2 x k y hik d hx hy; rw [hg] at this; cases this
        · subst d; rw [hy] at hy'; cases hy'; rfl
        · have := n2.2 x k' y' hik' d hx hy'; rw [hg'] at this; cases this
      · have := n2.1 i' x' k' y' c hik' hx' hy'; rw [hg'] at this; cases this
    · have := n2' i x k y (get_lt hx) hik hx hy; rw [hg] at this; cases this
  · rcases h2 with ⟨e2, rfl⟩ | ⟨_, i', x', hi', hf', n1', n2', rfl⟩ | ⟨_, i', k', x', y', hik', hx', hy', hg', n1', n2', rfl⟩ | ⟨_, n1', n2', rfl⟩
    · rw [e] at e2; cases e2
    · have := n1 i' x' (get_lt hi') hi'; rw [hf'] at this; cases this
    · have := n2 i' x' k' y' (get_lt hx') hik' hx' hy'; rw [hg'] at this; cases this
    · rfl
/-- Division by what isn't zero. -/
theorem gdiv_iff {T c a : Int × Int} (hT : ResZ T) (hc : ResZ c) (h0 : c ≠ (0, 0)) (ha : ResZ a) : a = gmulZ T (ginvZ c) ↔ gmulZ a c = T := by
  constructor
  · rintro rfl
    rw [gmulZ_assoc, gmulZ_comm (ginvZ c), ginv_mul hc h0, gmulZ_one hT]
  · rintro rfl
    exact (gdiv_back ha hc h0).symm
theorem gcancel {a b c : Int × Int} (ha : ResZ a) (hb : ResZ b) (hc : ResZ c) (h0 : c ≠ (0, 0)) : gmulZ c a = gmulZ c b ↔ a = b := by
  constructor
  · intro h
    rw [gmulZ_comm c, gmulZ_comm c] at h
    rw [← gdiv_back ha hc h0, h, gdiv_back hb hc h0]
  · rintro rfl; rfl
theorem rising_nodup {l : IdL} (h : Rising l) : l.Nodup := h.imp (fun h => Lt.ne h)
theorem minL_off {x : List UInt8} : ∀ {l : IdL}, x ∉ l → minL l [x] = l := fun {l} h => List.filter_eq_self.2 (fun a ha => by
  have : a ≠ x := fun e => h (e ▸ ha)
  simp [this])
theorem minL_one {x : List UInt8} : ∀ {l : IdL}, l.Nodup → x ∈ l → talZ l = gmulZ (idZ x) (talZ (minL l [x])) ∧ (minL l [x]).length + 1 = l.length
  | [], _, h => by cases h
  | a :: l, hn, h => by
    have hn' := List.nodup_cons.1 hn
    by_cases e : a = x
    · subst e
      have : minL (a :: l) [a] = minL l [a] := by unfold minL; simp
      rw [this, minL_off hn'.1, talZ_cons]
      exact ⟨rfl, rfl⟩
    · have hx : x ∈ l := (List.mem_cons.1 h).resolve_left (fun h9 => e h9.symm)
      have : minL (a :: l) [x] = a :: minL l [x] := by unfold minL; simp [e]
      obtain ⟨h1, h2⟩ := minL_one hn'.2 hx
      rw [this, talZ_cons, talZ_cons, h1, ← gmulZ_assoc, ← gmulZ_assoc, gmulZ_comm (idZ a), List.length_cons, List.length_cons, h2]
      exact ⟨rfl, rfl⟩
theorem minL_two (l : IdL) (x y : List UInt8) : minL l [x, y] = minL (minL l [x]) [y] := by
  unfold minL
  rw [List.filter_filter]
  congr 1
  funext a
  by_cases h1 : a = x <;> by_cases h2 : a = y <;> simp [h1, h2]
theorem minL_pair {x y : List UInt8} {l : IdL} (hn : l.Nodup) (hx : x ∈ l) (hy : y ∈ l) (hxy : x ≠ y) : talZ l = gmulZ (idZ x) (gmulZ (idZ y) (talZ (minL l [x, y]))) ∧ (minL l [x, y]).length + 2 = l.length := by
  obtain ⟨h1, h2⟩ := minL_one hn hx
  have hy2 : y ∈ minL l [x] := List.mem_filter.2 ⟨hy, by simp [Ne.symm hxy]⟩
  have hn2 : (minL l [x]).Nodup := hn.filter _
  obtain ⟨h3, h4⟩ := minL_one hn2 hy2
  rw [minL_two, h1]
  exact ⟨by rw [← h3], by omega⟩
/-- The three tests of the program are the document's. -/
theorem zero_fit {l : IdL} {cc : Int × Int} (hcc : ResZ cc) (h0 : cc ≠ (0, 0)) (s : List UInt8) : zeroOk l (gmulZ (talZ l) (ginvZ cc)) s = fitB l (l.length : Int) cc s := by
  unfold zeroOk fitB
  rw [decide_eq_true (rfl : (l.length : Int) = l.length), Bool.true_and]
  congr 1
  refine decide_eq_decide.2 ?_
  have := gdiv_iff (talZ_res l) hcc h0 oneZ_res
  rw [eq_comm, this, gone_mulZ hcc, eq_comm]
theorem one_fit {l : IdL} (hn : l.Nodup) {cc : Int × Int} (hcc : ResZ cc) (h0 : cc ≠ (0, 0)) (s : List UInt8) {x : List UInt8} (hx : x ∈ l) {v : Int} (hv : v = (l.length : Int) - 1) : oneB l (gmulZ (talZ l) (ginvZ cc)) s x = fitB (minL l [x]) v cc s := by
  obtain ⟨h1, h2⟩ := minL_one hn hx
  unfold oneB fitB woB
  rw [decide_eq_true (show ((minL l [x]).length : Int) = v by omega), Bool.true_and]
  congr 1
  refine decide_eq_decide.2 ?_
  rw [gdiv_iff (talZ_res l) hcc h0 (idZ_res x), h1, gcancel hcc (talZ_res _) (idZ_res x) (idZ_ne x), eq_comm]
theorem two_fit {l : IdL} (hn : l.Nodup) {cc : Int × Int} (hcc : ResZ cc) (h0 : cc ≠ (0, 0)) (s : List UInt8) {x y : List UInt8} (hx : x ∈ l) (hy : y ∈ l) (hxy : x ≠ y) {v : Int} (hv : v = (l.length : Int) - 2) : twoB l (gmulZ (talZ l) (ginvZ cc)) s x y = fitB (minL l [x, y]) v cc s := by
  obtain ⟨h1, h2⟩ := minL_pair hn hx hy hxy
  unfold twoB fitB woB
  rw [decide_eq_true (show ((minL l [x, y]).length : Int) = v by omega), Bool.true_and]
  congr 1
  refine decide_eq_decide.2 ?_
  have e1 := gdiv_iff (gmulZ_res (talZ l) (ginvZ cc)) (idZ_res x) (idZ_ne x) (idZ_res y)
  have e2 := gdiv_iff (talZ_res l) hcc h0 (gmulZ_res (idZ y) (idZ x))
  rw [e1, e2, h1, gmulZ_comm (idZ y), gmulZ_assoc, gcancel (gmulZ_res _ _) (gmulZ_res _ _) (idZ_res x) (idZ_ne x), gcancel hcc (talZ_res _) (idZ_res y) (idZ_ne y), eq_comm]
end Go.Proofs.Ytkajfpincbkfhaa
/- recon: the document's Lack. -/
set_option linter.unusedSimpArgs false
set_option linter.unusedVariables false
set_option pp.deepTerms true
set_option pp.maxSteps 100000
namespace Go.Proofs.Ytkajfpincbkfhaa
open Go.RowKit Go.Qc Go.Shelf
attribute [local go_sem] txt_size txt_append ib_fold
/-- What is answered, of what lacks. -/
def LkR (l : IdL) (f0 : Bool) (f : List UInt8 → Bool) (g : List UInt8 → List UInt8 → Bool) (yes no : Value) (w : World) (e : Ending) (w' : World) : Prop :=
  (∃ r, LkIs l f0 f g r ∧ ((r = none ∧ e = .returned (.tuple #[.slice none 0 0, no])) ∨ ∃ (xs : IdL) (A' : Option Addr) (c' : Nat), r = some xs ∧ e = .returned (.tuple #[.slice A' xs.length c', yes]) ∧ RowC w' A' xs.length c' xs)) ∧ Below w.heap.size w w'
theorem rowC_nil (w : World) : RowC w none 0 0 [] := ⟨⟨rfl, by omega, IdRd.nil_ _ _⟩, .inl ⟨rfl, rfl, rfl⟩⟩
theorem RowC.cut1 {w : World} {A : Option Addr} {n c : Nat} {l : List (List UInt8)} (h : RowC w A n c l) {i : Nat} {x : List UInt8} (hi : i < n) (hx : l[i]? = some x) :
    ∃ A1 c1, (∀ W, (Instr.sliceAt 22 (.slice A n c) (some (.int .i64 (i : Int))) (some (.int .i64 ((i : Int) + 1))) none).run Try.prog W = .ok (.slice A1 1 c1) W) ∧ RowC w A1 1 c1 [x] := by
  obtain ⟨A1, c1, e, hr⟩ := h.cut (x := i) (y := i + 1) (by omega) (by omega)
  have e1 : i + 1 - i = 1 := by omega
  have e2 : (l.drop i).take 1 = [x] := by
    rw [List.take_one, List.head?_drop, hx]; rfl
  rw [e1, e2] at hr
  refine ⟨A1, c1, fun W => ?_, hr⟩
  have := e W
  rw [e1] at this
  exact this
theorem No1.start (l : IdL) (f : List UInt8 → Bool) : No1 l f 0 := fun a x h => by omega
theorem No2.start (l : IdL) (g : List UInt8 → List UInt8 → Bool) : No2 l g 0 := fun a x b y h => by omega
theorem No1.step {l : IdL} {f : List UInt8 → Bool} {i : Nat} {x : List UInt8} (h : No1 l f i) (hx : l[i]? = some x) (hf : f x = false) : No1 l f (i + 1) := fun a y ha hy => by
  rcases Nat.lt_or_ge a i with e | e
  · exact h a y e hy
  · obtain rfl : a = i := by omega
    rw [hx] at hy; cases hy; exact hf
theorem No2.inner {l : IdL} {g : List UInt8 → List UInt8 → Bool} {i : Nat} (h : No2 l g i) : No22 l g i (i + 1) := ⟨h, fun x b y h1 h2 => by omega⟩
theorem No22.step {l : IdL} {g : List UInt8 → List UInt8 → Bool} {i k : Nat} {x y : List UInt8} (h : No22 l g i k) (hx : l[i]? = some x) (hy : l[k]? = some y) (hf : g x y = false) : No22 l g i (k + 1) := ⟨h.1, fun x' b y' h1 h2 h3 h4 => by
  rcases Nat.lt_or_ge b k with e | e
  · exact h.2 x' b y' h1 e h3 h4
  · obtain rfl : b = k := by omega
    rw [hx] at h3; rw [hy] at h4
    cases h3; cases h4; exact hf⟩
theorem No22.stop {l : IdL} {g : List UInt8 → List UInt8 → Bool} {i k : Nat} (h : No22 l g i k) (hk : l.length ≤ k) : No2 l g (i + 1) := fun a x b y h1 h2 h3 h4 => by
  rcases Nat.lt_or_ge a i with e | e
  · exact h.1 a x b y e h2 h3 h4
  · obtain rfl : a = i := by omega
    exact h.2 x b y h2 (by have := get_lt h4; omega) h3 h4
set_option maxRecDepth 100000 in
set_option maxHeartbeats 8000000 in
theorem rlack_one (A : Option Addr) (n c : Nat) (l : List (List UInt8)) (v : Int) (hv : v = (n : Int) - 1) (cc : Int × Int) (s : List UInt8) (hs32 : s.length = 32) (w : World) (h : RowC w A n c l) :
    Calls Try.prog 35 #[.slice A n c, .int .i64 v, pz cc, .agg (idVals s)] w (LkR l (fitB l v cc s) (fun x => fitB (minL l [x]) v cc s) (fun _ _ => false) (.bool true) (.bool false) w) := by
  have mixed : Try.prog.follows .mixedOrders = true := by kernel_rfl
  have hu := Try.underlying24
  have hzs : (Try.prog.info? 24).map (·.size) = some (s.map u8v).length := by rw [List.length_map, hs32]; exact sizeId
  have hn6 := h.1.2.1
  have q1 : wrap64 ((n : Int) - 1) = (n : Int) - 1 := by unfold wrap64; omega
  have q2 : wrap64 ((n : Int) - 2) = (n : Int) - 2 := by unfold wrap64; omega
  have v1 : IntKind.i64.wrap ((n : Int) - 1) = (n : Int) - 1 := by rw [IntKind.wrap_i64]; omega
  have v2 : IntKind.i64.wrap ((n : Int) - 2) = (n : Int) - 2 := by rw [IntKind.wrap_i64]; omega
  have z8 : (v == ((n : Int) - 2)) = false := by rw [hv]; simp
  have HV := hid hv
  clear hv
  obtain ⟨c1, c2⟩ := cc
  have HF : Hid (∀ (W : World) (A9 : Option Addr) (m c9 : Nat) (r : IdL), RowC W A9 m c9 r → Calls Try.prog 83 #[.slice A9 m c9, .int .i64 v, .agg #[.int .i64 c1, .int .i64 c2], .agg (List.map u8v s).toArray] W fun e w' => e = .returned (.bool (fitB r v (c1, c2) s)) ∧ Below W.heap.size W w') := hid (fun W A9 m c9 r hr => rfits_any A9 m c9 r v (c1, c2) s hs32 W hr)
  have HD : Hid (∀ (W : World) (A9 : Option Addr) (m c9 : Nat) (r : IdL), RowC W A n c l → RowC W A9 m c9 r → Calls Try.prog 84 #[.slice A n c, .slice A9 m c9] W fun e w' => ∃ A9 c9, e = .returned (.slice A9 (minL l r).length c9) ∧ RowC w' A9 (minL l r).length c9 (minL l r) ∧ Below W.heap.size W w') := hid (fun W A9 m c9 r h1 h2 => rdrop_any A A9 n c m c9 l r W h1 h2)
  obtain ⟨b0, hb0⟩ : ∃ b, fitB l v (c1, c2) s = b := ⟨_, rfl⟩
  have c0 : ∀ W, RowC W A n c l → Calls Try.prog 83 #[.slice A n c, .int .i64 v, .agg #[.int .i64 c1, .int .i64 c2], .agg (List.map u8v s).toArray] W fun e w' => e = .returned (.bool b0) ∧ Below W.heap.size W w' := fun W hr => by rw [← hb0]; exact HF.out W A n c l hr
  have hpz : pz (c1, c2) = .agg #[.int .i64 c1, .int .i64 c2] := rfl
  rw [hpz, hb0]
  have HS32 := hid hs32
  clear hs32 hb0 hpz
  go_enter Try.func35, Try.ntmps35
  go_upto_region 1 with (fail)
  have hb := ((Below.refl w.heap.size w).alloc (Nat.le_refl _) (.cells #[.int .i64 c1, .int .i64 c2] 63)).alloc (by simp) (.cells (idVals s) 24)
  have h6 := (Blk.new w 63 #[.int .i64 c1, .int .i64 c2]).alloc (.cells (idVals s) 24)
  have h7 := Blk.new (w.alloc (.cells #[.int .i64 c1, .int .i64 c2] 63)) 24 (idVals s)
  have hsz : (w.alloc (.cells #[.int .i64 c1, .int .i64 c2] 63)).heap.size = w.heap.size + 1 := by simp
  rw [hsz] at h7
  replace h := h.below hb
  generalize (w.alloc (.cells #[.int .i64 c1, .int .i64 c2] 63)).alloc (.cells (idVals s) 24) = w1 at *
  clear hsz
  have f0 : w1.cell? ⟨w.heap.size, 0, none⟩ = some (.int .i64 c1) := h6.cell_ rfl
  have f1 : w1.cell? ⟨w.heap.size, 1, none⟩ = some (.int .i64 c2) := h6.cell_ rfl
  have hbx := range_blk h7
  cases b0
  case true =>
    go_wp2_with (first
      | (with_reducible refine wpList_load_if (by with_unfolding_all rfl) 24 _ rfl _ _ rfl (s.map u8v) _ hbx hu rfl hzs ?_)
      | (go_at_call 83; (with_reducible refine (c0 _ h).mono ?_); rintro e2 w2 ⟨rfl, hb2⟩))
    go_ret2
    exact ⟨⟨some [], .inl ⟨rfl, rfl⟩, .inr ⟨[], none, 0, rfl, rfl, rowC_nil _⟩⟩, hb.trans (hb2.mono hb.size)⟩
  case false =>
  have H := hid h
  have HB0 := hid hb
  have H6 := hid h6
  have HX := hid hbx
  go_wp2_with (first
    | (with_reducible refine wpList_load_if (by with_unfolding_all rfl) 24 _ rfl _ _ rfl (s.map u8v) _ hbx hu rfl hzs ?_)
    | (go_at_call 83; (with_reducible refine (c0 _ h).mono ?_); rintro e2 w2 ⟨rfl, hb2⟩))
  have HB2 := hid hb2
  clear h hb h6 h7 hbx f0 f1 c0 hb2
  go_loopw [8, 9, 10] (fun u8 u9 v0 wr => ∃ i : Nat, i ≤ n ∧ u8 = .slice none 0 0 ∧ u9 = .bool false ∧ v0 = .int .i64 (i : Int) ∧ Hid (No1 l (fun x => fitB (minL l [x]) v (c1, c2) s) i) ∧ Hid (No2 l (fun _ _ => false) i) ∧ Hid (Below w1.heap.size w1 wr)) (fun _ _ v0 _ => n - (intOf v0).toNat)
  case atStart => exact ⟨0, Nat.zero_le _, rfl, rfl, rfl, hid (No1.start _ _), hid (No2.start _ _), HB2⟩
  case round =>
    clear HB2
    obtain ⟨i, hi, rfl, rfl, rfl, HN1, HN2, HB⟩ := hrel
    obtain ⟨wo, hwo⟩ : ∃ u, u = wr := ⟨_, rfl⟩
    subst hwo
    by_cases hlt : i < n
    · have hln := H.out.1.1
      obtain ⟨x, hx⟩ : ∃ x, l[i]? = some x := ⟨_, List.getElem?_eq_getElem (by omega)⟩
      obtain ⟨gx, qx, hgx, lx, hixx⟩ := H.out.1.2.2.pick (k := i) (a := x) c hln hx
      have hzx : (Try.prog.info? 24).map (·.size) = some (x.map u8v).length := by rw [List.length_map, lx]; exact sizeId
      have z3 : (i : Int) < (n : Int) := Int.ofNat_lt.2 hlt
      have q8 := pv_q1 (p := i) (by omega)
      have HLT := hid hlt
      have HXX := hid hx
      have HGX := hid hgx
      have HIX := hid hixx
      have H8 : Hid (RowC wo A n c l) := hid (H.out.below HB.out)
      have hs9 := HX.out.below HB.out
      obtain ⟨A1, cc1, e1, hr1⟩ := H8.out.cut1 hlt hx
      have H6' := H6
      replace H6 := hid (H6.out.below HB.out)
      clear hlt hi hx hgx hln hixx
      go_upto_region 6 with (fail)
      refine wp_region_held_drew (S := fun W => Below wo.heap.size wo W) (by kernel_rfl) (below_drew1 wo) (fun hHeld => ?_)
      generalize wo.drew = w7 at *
      refine' wpAnyH_take (i := 0) (v := .int .i64 v) rfl (by kernel_rfl) (by kernel_rfl) (by kernel_rfl) (fun _ _ _ h => h) (Or.inl ⟨by rfl, fun w' hw' => by go_simp⟩) hHeld ?_
      try simp only [Act.put, List.getElem_toArray, List.getElem_cons_succ, List.getElem_cons_zero, List.setIfInBounds_toArray, List.set_cons_zero, List.set_cons_succ]
      refine' wpAnyH_take (i := 1) (v := .slice A n c) rfl (by kernel_rfl) (by kernel_rfl) (by kernel_rfl) (fun _ _ _ h => h) (Or.inl ⟨by rfl, fun w' hw' => by go_simp⟩) hHeld ?_
      try simp only [Act.put, List.getElem_toArray, List.getElem_cons_succ, List.getElem_cons_zero, List.setIfInBounds_toArray, List.set_cons_zero, List.set_cons_succ]
      refine' wpAnyH_take (i := 2) (v := .int .i64 (n : Int)) rfl (by kernel_rfl) (by kernel_rfl) (by kernel_rfl) (fun _ _ _ h => h) (Or.inl ⟨by rfl, fun w' hw' => by go_simp⟩) hHeld ?_
      try simp only [Act.put, List.getElem_toArray, List.getElem_cons_succ, List.getElem_cons_zero, List.setIfInBounds_toArray, List.set_cons_zero, List.set_cons_succ]
      refine' wpAnyH_take (i := 3) (v := .int .i64 ((n : Int) - 1)) rfl (by kernel_rfl) (by kernel_rfl) (by kernel_rfl) (fun _ _ _ h => h) (Or.inl ⟨by rfl, fun w' hw' => by have hv : IntKind.i64.wrap ((n : Int) - 1) = (n : Int) - 1 := (by rw [IntKind.wrap_i64]; omega); go_simp⟩) hHeld ?_
      try simp only [Act.put, List.getElem_toArray, List.getElem_cons_succ, List.getElem_cons_zero, List.setIfInBounds_toArray, List.set_cons_zero, List.set_cons_succ]
      refine' wpAnyH_take (i := 4) (v := .bool true) rfl (by kernel_rfl) (by kernel_rfl) (by kernel_rfl) (fun _ _ _ h => h) (Or.inl ⟨by rfl, fun w' hw' => by have hv9 : (v == ((n : Int) - 1)) = true := (by rw [HV.out]; simp); go_simp⟩) hHeld ?_
      try simp only [Act.put, List.getElem_toArray, List.getElem_cons_succ, List.getElem_cons_zero, List.setIfInBounds_toArray, List.set_cons_zero, List.set_cons_succ]
      refine' wpAnyH_take (i := 5) (v := .bool true) rfl (by kernel_rfl) (by kernel_rfl) (by kernel_rfl) (fun _ _ _ h => h) (Or.inl ⟨by rfl, fun w' hw' => by go_simp⟩) hHeld ?_
      try simp only [Act.put, List.getElem_toArray, List.getElem_cons_succ, List.getElem_cons_zero, List.setIfInBounds_toArray, List.set_cons_zero, List.set_cons_succ]
      refine' wpAnyH_take (i := 6) (v := .slice A n c) rfl (by kernel_rfl) (by kernel_rfl) (by kernel_rfl) (fun _ _ _ h => h) (Or.inl ⟨by rfl, fun w' hw' => by go_simp⟩) hHeld ?_
      try simp only [Act.put, List.getElem_toArray, List.getElem_cons_succ, List.getElem_cons_zero, List.setIfInBounds_toArray, List.set_cons_zero, List.set_cons_succ]
      refine' wpAnyH_take (i := 7) (v := .slice A n c) rfl (by kernel_rfl) (by kernel_rfl) (by kernel_rfl) (fun _ _ _ h => h) (Or.inl ⟨by rfl, fun w' hw' => by go_simp⟩) hHeld ?_
      try simp only [Act.put, List.getElem_toArray, List.getElem_cons_succ, List.getElem_cons_zero, List.setIfInBounds_toArray, List.set_cons_zero, List.set_cons_succ]
      refine' wpAnyH_take (i := 8) (v := .int .i64 (i : Int)) rfl (by kernel_rfl) (by kernel_rfl) (by kernel_rfl) (fun _ _ _ h => h) (Or.inl ⟨by rfl, fun w' hw' => by go_simp⟩) hHeld ?_
      try simp only [Act.put, List.getElem_toArray, List.getElem_cons_succ, List.getElem_cons_zero, List.setIfInBounds_toArray, List.set_cons_zero, List.set_cons_succ]
      refine' wpAnyH_take (i := 9) (v := .int .i64 (i : Int)) rfl (by kernel_rfl) (by kernel_rfl) (by kernel_rfl) (fun _ _ _ h => h) (Or.inl ⟨by rfl, fun w' hw' => by go_simp⟩) hHeld ?_
      try simp only [Act.put, List.getElem_toArray, List.getElem_cons_succ, List.getElem_cons_zero, List.setIfInBounds_toArray, List.set_cons_zero, List.set_cons_succ]
      refine' wpAnyH_take (i := 10) (v := .int .i64 ((i : Int) + 1)) rfl (by kernel_rfl) (by kernel_rfl) (by kernel_rfl) (fun _ _ _ h => h) (Or.inl ⟨by rfl, fun w' hw' => by have hv : IntKind.i64.wrap ((i : Int) + 1) = (i : Int) + 1 := (by rw [IntKind.wrap_i64]; omega); go_simp⟩) hHeld ?_
      try simp only [Act.put, List.getElem_toArray, List.getElem_cons_succ, List.getElem_cons_zero, List.setIfInBounds_toArray, List.set_cons_zero, List.set_cons_succ]
      refine' wpAnyH_take (i := 11) (v := .slice A1 1 cc1) rfl (by kernel_rfl) (by kernel_rfl) (by kernel_rfl) (fun _ _ _ h => h) (Or.inl ⟨by rfl, fun w' hw' => by have hv := e1 w'; go_simp⟩) hHeld ?_
      try simp only [Act.put, List.getElem_toArray, List.getElem_cons_succ, List.getElem_cons_zero, List.setIfInBounds_toArray, List.set_cons_zero, List.set_cons_succ]
      refine' wpAnyH_take (i := 13) (v := .int .i64 v) rfl (by kernel_rfl) (by kernel_rfl) (by kernel_rfl) (fun _ _ _ h => h) (Or.inl ⟨by rfl, fun w' hw' => by go_simp⟩) hHeld ?_
      try simp only [Act.put, List.getElem_toArray, List.getElem_cons_succ, List.getElem_cons_zero, List.setIfInBounds_toArray, List.set_cons_zero, List.set_cons_succ]
      refine' wpAnyH_take (i := 14) (v := .agg #[.int .i64 c1, .int .i64 c2]) rfl (by kernel_rfl) (by kernel_rfl) (by kernel_rfl) (fun _ _ _ h => h) (Or.inl ⟨by rfl, fun w' hw' => by have g0 := (H6.out.below hw').cell_ (i := 0) rfl; have g1 := (H6.out.below hw').cell_ (i := 1) rfl; go_simp⟩) hHeld ?_
      try simp only [Act.put, List.getElem_toArray, List.getElem_cons_succ, List.getElem_cons_zero, List.setIfInBounds_toArray, List.set_cons_zero, List.set_cons_succ]
      refine' wpAnyH_take (i := 15) (v := _) rfl (by kernel_rfl) (by kernel_rfl) (by kernel_rfl) (fun _ _ _ h => h) (yieldsIf_load_mid (by rfl) 24 _ rfl _ _ rfl (s.map u8v) _ (fun w' h => hs9.below h) hu rfl hzs) hHeld ?_
      try simp only [Act.put, List.getElem_toArray, List.getElem_cons_succ, List.getElem_cons_zero, List.setIfInBounds_toArray, List.set_cons_zero, List.set_cons_succ]
      refine wpAnyH_ready (rs := [12]) (by kernel_rfl) (by simp) ?_
      refine AllReadyH.cons rfl (fun K hK => ?_) AllReadyH.nil
      go_simp
      (with_reducible refine (HD.out _ _ _ _ _ (H8.out.below hHeld) (hr1.below hHeld)).mono ?_)
      rintro e4 w4 ⟨A9, c9, rfl, hr9, hb9⟩
      have HR9 := hid hr9
      refine hK.out _ _ (hHeld.trans (hb9.mono hHeld.size)) (fun hHeld => ?_)
      clear hK K hb9 hr9
      try simp only [Act.put, List.getElem_toArray, List.getElem_cons_succ, List.getElem_cons_zero, List.setIfInBounds_toArray, List.set_cons_zero, List.set_cons_succ]
      refine wpAnyH_ready (rs := [16]) (by kernel_rfl) (by simp) ?_
      refine AllReadyH.cons rfl (fun K hK => ?_) AllReadyH.nil
      go_simp
      (with_reducible refine (HF.out _ _ _ _ _ HR9.out).mono ?_)
      rintro e5 w5 ⟨rfl, hb5⟩
      refine hK.out _ _ (hHeld.trans (hb5.mono hHeld.size)) (fun hHeld => ?_)
      clear hK K hb5
      try simp only [Act.put, List.getElem_toArray, List.getElem_cons_succ, List.getElem_cons_zero, List.setIfInBounds_toArray, List.set_cons_zero, List.set_cons_succ]
      obtain ⟨t, ht⟩ : ∃ t, fitB (minL l [x]) v (c1, c2) s = t := ⟨_, rfl⟩
      rw [ht]
      cases t
      case true =>
        refine' wpAnyH_take (i := 17) (v := .bool true) rfl (by kernel_rfl) (by kernel_rfl) (by kernel_rfl) (fun _ _ _ h => h) (Or.inl ⟨by rfl, fun w' hw' => by go_simp⟩) hHeld ?_
        try simp only [Act.put, List.getElem_toArray, List.getElem_cons_succ, List.getElem_cons_zero, List.setIfInBounds_toArray, List.set_cons_zero, List.set_cons_succ]
        refine wpAnyH_done (by kernel_rfl) ?_ _
        have HHH := hid hHeld
        have hr6 := hr1.below hHeld
        go_wp2_with (fail)
        go_ret2
        exact ⟨⟨some [x], .inr (.inl ⟨rfl, i, x, HXX.out, ht, HN1.out, HN2.out, rfl⟩), .inr ⟨[x], _, _, rfl, rfl, hr6⟩⟩, HB0.out.trans ((HB.out.trans (HHH.out.mono HB.out.size)).mono HB0.out.size)⟩
      case false =>
      refine' wpAnyH_take (i := 17) (v := .bool false) rfl (by kernel_rfl) (by kernel_rfl) (by kernel_rfl) (fun _ _ _ h => h) (Or.inl ⟨by rfl, fun w' hw' => by go_simp⟩) hHeld ?_
      try simp only [Act.put, List.getElem_toArray, List.getElem_cons_succ, List.getElem_cons_zero, List.setIfInBounds_toArray, List.set_cons_zero, List.set_cons_succ]
      refine wpAnyH_done (by kernel_rfl) ?_ _
      generalize hw9 : w5 = w9 at *
      have HN1' := hid (HN1.out.step HXX.out ht)
      have HB9 := hid (HB.out.trans (hHeld.mono HB.out.size))
      replace H6 := H6'
      clear hr1 e1 hs9 HR9 ht H6' hHeld H8
      have HNI := hid HN2.out.inner
      go_wp2_with (fail)
      go_loopw [8, 9, 11] (fun u8 u9 v0 wr => ∃ k : Nat, i < k ∧ k ≤ n ∧ u8 = .slice none 0 0 ∧ u9 = .bool false ∧ v0 = .int .i64 (k : Int) ∧ Hid (No22 l (fun _ _ => false) i k) ∧ Hid (Below w1.heap.size w1 wr)) (fun _ _ v0 _ => n - (intOf v0).toNat)
      case atStart => exact ⟨i + 1, Nat.lt_succ_self _, HLT.out, rfl, rfl, by go_num, HNI, HB9⟩
      case round =>
        clear HNI HB9
        obtain ⟨k, hik, hkm, rfl, rfl, rfl, HN3, HB3⟩ := hrel
        by_cases hlt : k < n
        · have hln := H.out.1.1
          obtain ⟨y, hy⟩ : ∃ y, l[k]? = some y := ⟨_, List.getElem?_eq_getElem (by omega)⟩
          have z4 : (k : Int) < (n : Int) := Int.ofNat_lt.2 hlt
          have q9 := pv_q1 (p := k) (by omega)
          have HKL := hid hlt
          have HYY := hid hy
          have HIK := hid hik
          clear hlt hik hkm hy hln
          go_upto_region 11 with (fail)
          refine wp_region_later mixed (by kernel_rfl) ?_
          repeat (first
            | ((with_reducible refine wpQuiet_skip (by with_unfolding_all rfl) ?_); simp only [Act.put, List.setIfInBounds_toArray, List.set_cons_zero, List.set_cons_succ])
            | ((with_reducible refine wpQuiet_step (fun K hK => ?_)); go_simp; first | ((with_reducible refine hK _ ?_); clear hK K)))
          with_reducible refine wpQuiet_nil ?_
          intro _ hw'
          obtain ⟨p9, rfl⟩ := hw'
          have hp9 := p9.h
          generalize p9.w = w9 at *
          have HN4 := hid (HN3.out.step HXX.out HYY.out rfl)
          have HB4 := hid (HB3.out.trans (hp9.mono HB3.out.size))
          clear hp9
          go_wp2_with (fail)
          go_roundw
          case rel => exact ⟨k + 1, Nat.lt_succ_of_lt HIK.out, HKL.out, rfl, rfl, by go_num, HN4, HB4⟩
          case measure => first | exact meas_k9 HKL.out | (rw [q9]; exact meas_k9 HKL.out)
        · obtain rfl : k = n := by omega
          have z4 : ¬ (k : Int) < (k : Int) := by omega
          have HN4 := hid (HN3.out.stop (Nat.le_of_eq H.out.1.1))
          clear hlt hik hkm
          go_wp2_with (fail)
          go_roundw
          case rel => exact ⟨i + 1, HLT.out, rfl, rfl, by go_num, HN1', HN4, HB3⟩
          case measure => first | exact meas_k9 HLT.out | (rw [q8]; exact meas_k9 HLT.out)
    · obtain rfl : i = n := by omega
      have z3 : ¬ (i : Int) < (i : Int) := by omega
      clear hlt hi
      go_wp2_with (fail)
      go_ret2
      exact ⟨⟨none, .inr (.inr (.inr ⟨rfl, by rw [H.out.1.1]; exact HN1.out, by rw [H.out.1.1]; exact HN2.out, rfl⟩)), .inl ⟨rfl, rfl⟩⟩, HB0.out.trans (HB.out.mono HB0.out.size)⟩
set_option maxRecDepth 100000 in
set_option maxHeartbeats 8000000 in
theorem rlack_two (A : Option Addr) (n c : Nat) (l : List (List UInt8)) (v : Int) (hv : v = (n : Int) - 2) (cc : Int × Int) (s : List UInt8) (hs32 : s.length = 32) (w : World) (h : RowC w A n c l) :
    Calls Try.prog 35 #[.slice A n c, .int .i64 v, pz cc, .agg (idVals s)] w (LkR l (fitB l v cc s) (fun _ => false) (fun x y => fitB (minL l [x, y]) v cc s) (.bool true) (.bool false) w) := by
  have mixed : Try.prog.follows .mixedOrders = true := by kernel_rfl
  have hu := Try.underlying24
  have hzs : (Try.prog.info? 24).map (·.size) = some (s.map u8v).length := by rw [List.length_map, hs32]; exact sizeId
  have hn6 := h.1.2.1
  have q1 : wrap64 ((n : Int) - 1) = (n : Int) - 1 := by unfold wrap64; omega
  have q2 : wrap64 ((n : Int) - 2) = (n : Int) - 2 := by unfold wrap64; omega
  have v1 : IntKind.i64.wrap ((n : Int) - 1) = (n : Int) - 1 := by rw [IntKind.wrap_i64]; omega
  have v2 : IntKind.i64.wrap ((n : Int) - 2) = (n : Int) - 2 := by rw [IntKind.wrap_i64]; omega
  have z8 : (v == ((n : Int) - 1)) = false := by rw [hv]; simp
  have HV := hid hv
  clear hv
  obtain ⟨c1, c2⟩ := cc
  have HF : Hid (∀ (W : World) (A9 : Option Addr) (m c9 : Nat) (r : IdL), RowC W A9 m c9 r → Calls Try.prog 83 #[.slice A9 m c9, .int .i64 v, .agg #[.int .i64 c1, .int .i64 c2], .agg (List.map u8v s).toArray] W fun e w' => e = .returned (.bool (fitB r v (c1, c2) s)) ∧ Below W.heap.size W w') := hid (fun W A9 m c9 r hr => rfits_any A9 m c9 r v (c1, c2) s hs32 W hr)
  have HD : Hid (∀ (W : World) (A9 : Option Addr) (m c9 : Nat) (r : IdL), RowC W A n c l → RowC W A9 m c9 r → Calls Try.prog 84 #[.slice A n c, .slice A9 m c9] W fun e w' => ∃ A9 c9, e = .returned (.slice A9 (minL l r).length c9) ∧ RowC w' A9 (minL l r).length c9 (minL l r) ∧ Below W.heap.size W w') := hid (fun W A9 m c9 r h1 h2 => rdrop_any A A9 n c m c9 l r W h1 h2)
  obtain ⟨b0, hb0⟩ : ∃ b, fitB l v (c1, c2) s = b := ⟨_, rfl⟩
  have c0 : ∀ W, RowC W A n c l → Calls Try.prog 83 #[.slice A n c, .int .i64 v, .agg #[.int .i64 c1, .int .i64 c2], .agg (List.map u8v s).toArray] W fun e w' => e = .returned (.bool b0) ∧ Below W.heap.size W w' := fun W hr => by rw [← hb0]; exact HF.out W A n c l hr
  have hpz : pz (c1, c2) = .agg #[.int .i64 c1, .int .i64 c2] := rfl
  rw [hpz, hb0]
  have HS32 := hid hs32
  clear hs32 hb0 hpz
  go_enter Try.func35, Try.ntmps35
  go_upto_region 1 with (fail)
  have hb := ((Below.refl w.heap.size w).alloc (Nat.le_refl _) (.cells #[.int .i64 c1, .int .i64 c2] 63)).alloc (by simp) (.cells (idVals s) 24)
  have h6 := (Blk.new w 63 #[.int .i64 c1, .int .i64 c2]).alloc (.cells (idVals s) 24)
  have h7 := Blk.new (w.alloc (.cells #[.int .i64 c1, .int .i64 c2] 63)) 24 (idVals s)
  have hsz : (w.alloc (.cells #[.int .i64 c1, .int .i64 c2] 63)).heap.size = w.heap.size + 1 := by simp
  rw [hsz] at h7
  replace h := h.below hb
  generalize (w.alloc (.cells #[.int .i64 c1, .int .i64 c2] 63)).alloc (.cells (idVals s) 24) = w1 at *
  clear hsz
  have f0 : w1.cell? ⟨w.heap.size, 0, none⟩ = some (.int .i64 c1) := h6.cell_ rfl
  have f1 : w1.cell? ⟨w.heap.size, 1, none⟩ = some (.int .i64 c2) := h6.cell_ rfl
  have hbx := range_blk h7
  cases b0
  case true =>
    go_wp2_with (first
      | (with_reducible refine wpList_load_if (by with_unfolding_all rfl) 24 _ rfl _ _ rfl (s.map u8v) _ hbx hu rfl hzs ?_)
      | (go_at_call 83; (with_reducible refine (c0 _ h).mono ?_); rintro e2 w2 ⟨rfl, hb2⟩))
    go_ret2
    exact ⟨⟨some [], .inl ⟨rfl, rfl⟩, .inr ⟨[], none, 0, rfl, rfl, rowC_nil _⟩⟩, hb.trans (hb2.mono hb.size)⟩
  case false =>
  have H := hid h
  have HB0 := hid hb
  have H6 := hid h6
  have HX := hid hbx
  go_wp2_with (first
    | (with_reducible refine wpList_load_if (by with_unfolding_all rfl) 24 _ rfl _ _ rfl (s.map u8v) _ hbx hu rfl hzs ?_)
    | (go_at_call 83; (with_reducible refine (c0 _ h).mono ?_); rintro e2 w2 ⟨rfl, hb2⟩))
  have HB2 := hid hb2
  clear h hb h6 h7 hbx f0 f1 c0 hb2
  go_loopw [8, 9, 10] (fun u8 u9 v0 wr => ∃ i : Nat, i ≤ n ∧ u8 = .slice none 0 0 ∧ u9 = .bool false ∧ v0 = .int .i64 (i : Int) ∧ Hid (No1 l (fun _ => false) i) ∧ Hid (No2 l (fun x y => fitB (minL l [x, y]) v (c1, c2) s) i) ∧ Hid (Below w1.heap.size w1 wr)) (fun _ _ v0 _ => n - (intOf v0).toNat)
  case atStart => exact ⟨0, Nat.zero_le _, rfl, rfl, rfl, hid (No1.start _ _), hid (No2.start _ _), HB2⟩
  case round =>
    clear HB2
    obtain ⟨i, hi, rfl, rfl, rfl, HN1, HN2, HB⟩ := hrel
    obtain ⟨wo, hwo⟩ : ∃ u, u = wr := ⟨_, rfl⟩
    subst hwo
    by_cases hlt : i < n
    · have hln := H.out.1.1
      obtain ⟨x, hx⟩ : ∃ x, l[i]? = some x := ⟨_, List.getElem?_eq_getElem (by omega)⟩
      obtain ⟨gx, qx, hgx, lx, hixx⟩ := H.out.1.2.2.pick (k := i) (a := x) c hln hx
      have hzx : (Try.prog.info? 24).map (·.size) = some (x.map u8v).length := by rw [List.length_map, lx]; exact sizeId
      have z3 : (i : Int) < (n : Int) := Int.ofNat_lt.2 hlt
      have q8 := pv_q1 (p := i) (by omega)
      have HLT := hid hlt
      have HXX := hid hx
      have HGX := hid hgx
      have HIX := hid hixx
      have H8 : Hid (RowC wo A n c l) := hid (H.out.below HB.out)
      have hs9 := HX.out.below HB.out
      clear hlt hi hx hgx hln hixx hs9
      go_upto_region 6 with (fail)
      refine wp_region_later mixed (by kernel_rfl) ?_
      repeat (first
        | ((with_reducible refine wpQuiet_skip (by with_unfolding_all rfl) ?_); simp only [Act.put, List.setIfInBounds_toArray, List.set_cons_zero, List.set_cons_succ])
        | ((with_reducible refine wpQuiet_step (fun K hK => ?_)); go_simp; first | ((with_reducible refine hK _ ?_); clear hK K)))
      with_reducible refine wpQuiet_nil ?_
      intro _ hw'
      obtain ⟨p9, rfl⟩ := hw'
      have hp9 := p9.h
      generalize p9.w = w9 at *
      have HN1' : Hid (No1 l (fun _ => false) (i + 1)) := hid (HN1.out.step HXX.out rfl)
      have HB9 := hid (HB.out.trans (hp9.mono HB.out.size))
      clear hp9 H8
      have HNI := hid HN2.out.inner
      go_wp2_with (fail)
      go_loopw [8, 9, 11] (fun u8 u9 v0 wr => ∃ k : Nat, i < k ∧ k ≤ n ∧ u8 = .slice none 0 0 ∧ u9 = .bool false ∧ v0 = .int .i64 (k : Int) ∧ Hid (No22 l (fun x y => fitB (minL l [x, y]) v (c1, c2) s) i k) ∧ Hid (Below w1.heap.size w1 wr)) (fun _ _ v0 _ => n - (intOf v0).toNat)
      case atStart => exact ⟨i + 1, Nat.lt_succ_self _, HLT.out, rfl, rfl, by go_num, HNI, HB9⟩
      case round =>
        clear HNI HB9
        obtain ⟨k, hik, hkm, rfl, rfl, rfl, HN3, HB3⟩ := hrel
        by_cases hlt : k < n
        · have hln := H.out.1.1
          obtain ⟨y, hy⟩ : ∃ y, l[k]? = some y := ⟨_, List.getElem?_eq_getElem (by omega)⟩
          have z4 : (k : Int) < (n : Int) := Int.ofNat_lt.2 hlt
          have q9 := pv_q1 (p := k) (by omega)
          have HKL := hid hlt
          have HYY := hid hy
          have HIK := hid hik
          obtain ⟨gy, qy, hgy, ly, hixy⟩ := H.out.1.2.2.pick (k := k) (a := y) c hln hy
          have hzy : (Try.prog.info? 24).map (·.size) = some (y.map u8v).length := by rw [List.length_map, ly]; exact sizeId
          have H8 : Hid (RowC wr A n c l) := hid (H.out.below HB3.out)
          have hs9 := HX.out.below HB3.out
          have fx := HGX.out.below HB3.out
          have fy := hgy.below HB3.out
          have H6' := H6
          replace H6 := hid (H6.out.below HB3.out)
          clear hlt hik hkm hy hln
          go_upto_region 11 with (fail)
          refine wp_region_held_drew (S := fun W => Below wr.heap.size wr W) (by kernel_rfl) (below_drew1 wr) (fun hHeld => ?_)
          generalize wr.drew = w7 at *
          refine' wpAnyH_take (i := 0) (v := .int .i64 v) rfl (by kernel_rfl) (by kernel_rfl) (by kernel_rfl) (fun _ _ _ h => h) (Or.inl ⟨by rfl, fun w' hw' => by go_simp⟩) hHeld ?_
          try simp only [Act.put, List.getElem_toArray, List.getElem_cons_succ, List.getElem_cons_zero, List.setIfInBounds_toArray, List.set_cons_zero, List.set_cons_succ]
          refine' wpAnyH_take (i := 1) (v := .slice A n c) rfl (by kernel_rfl) (by kernel_rfl) (by kernel_rfl) (fun _ _ _ h => h) (Or.inl ⟨by rfl, fun w' hw' => by go_simp⟩) hHeld ?_
          try simp only [Act.put, List.getElem_toArray, List.getElem_cons_succ, List.getElem_cons_zero, List.setIfInBounds_toArray, List.set_cons_zero, List.set_cons_succ]
          refine' wpAnyH_take (i := 2) (v := .int .i64 (n : Int)) rfl (by kernel_rfl) (by kernel_rfl) (by kernel_rfl) (fun _ _ _ h => h) (Or.inl ⟨by rfl, fun w' hw' => by go_simp⟩) hHeld ?_
          try simp only [Act.put, List.getElem_toArray, List.getElem_cons_succ, List.getElem_cons_zero, List.setIfInBounds_toArray, List.set_cons_zero, List.set_cons_succ]
          refine' wpAnyH_take (i := 3) (v := .int .i64 ((n : Int) - 2)) rfl (by kernel_rfl) (by kernel_rfl) (by kernel_rfl) (fun _ _ _ h => h) (Or.inl ⟨by rfl, fun w' hw' => by have hv : IntKind.i64.wrap ((n : Int) - 2) = (n : Int) - 2 := (by rw [IntKind.wrap_i64]; omega); go_simp⟩) hHeld ?_
          try simp only [Act.put, List.getElem_toArray, List.getElem_cons_succ, List.getElem_cons_zero, List.setIfInBounds_toArray, List.set_cons_zero, List.set_cons_succ]
          refine' wpAnyH_take (i := 4) (v := .bool true) rfl (by kernel_rfl) (by kernel_rfl) (by kernel_rfl) (fun _ _ _ h => h) (Or.inl ⟨by rfl, fun w' hw' => by have hv9 : (v == ((n : Int) - 2)) = true := (by rw [HV.out]; simp); go_simp⟩) hHeld ?_
          try simp only [Act.put, List.getElem_toArray, List.getElem_cons_succ, List.getElem_cons_zero, List.setIfInBounds_toArray, List.set_cons_zero, List.set_cons_succ]
          refine' wpAnyH_take (i := 5) (v := .bool true) rfl (by kernel_rfl) (by kernel_rfl) (by kernel_rfl) (fun _ _ _ h => h) (Or.inl ⟨by rfl, fun w' hw' => by go_simp⟩) hHeld ?_
          try simp only [Act.put, List.getElem_toArray, List.getElem_cons_succ, List.getElem_cons_zero, List.setIfInBounds_toArray, List.set_cons_zero, List.set_cons_succ]
          refine' wpAnyH_take (i := 6) (v := .slice A n c) rfl (by kernel_rfl) (by kernel_rfl) (by kernel_rfl) (fun _ _ _ h => h) (Or.inl ⟨by rfl, fun w' hw' => by go_simp⟩) hHeld ?_
          try simp only [Act.put, List.getElem_toArray, List.getElem_cons_succ, List.getElem_cons_zero, List.setIfInBounds_toArray, List.set_cons_zero, List.set_cons_succ]
          refine' wpAnyH_take (i := 7) (v := .slice A n c) rfl (by kernel_rfl) (by kernel_rfl) (by kernel_rfl) (fun _ _ _ h => h) (Or.inl ⟨by rfl, fun w' hw' => by go_simp⟩) hHeld ?_
          try simp only [Act.put, List.getElem_toArray, List.getElem_cons_succ, List.getElem_cons_zero, List.setIfInBounds_toArray, List.set_cons_zero, List.set_cons_succ]
          refine' wpAnyH_take (i := 8) (v := .int .i64 (i : Int)) rfl (by kernel_rfl) (by kernel_rfl) (by kernel_rfl) (fun _ _ _ h => h) (Or.inl ⟨by rfl, fun w' hw' => by go_simp⟩) hHeld ?_
          try simp only [Act.put, List.getElem_toArray, List.getElem_cons_succ, List.getElem_cons_zero, List.setIfInBounds_toArray, List.set_cons_zero, List.set_cons_succ]
          refine' wpAnyH_take (i := 9) (v := .pointer (some ⟨gx, qx, none⟩)) rfl (by kernel_rfl) (by kernel_rfl) (by kernel_rfl) (fun _ _ _ h => h) (Or.inl ⟨by rfl, fun w' hw' => by have hv := HIX.out w'; go_simp⟩) hHeld ?_
          try simp only [Act.put, List.getElem_toArray, List.getElem_cons_succ, List.getElem_cons_zero, List.setIfInBounds_toArray, List.set_cons_zero, List.set_cons_succ]
          refine' wpAnyH_take (i := 10) (v := _) rfl (by kernel_rfl) (by kernel_rfl) (by kernel_rfl) (fun _ _ _ h => h) (yieldsIf_load_mid (by rfl) 24 _ rfl _ _ rfl (x.map u8v) _ (fun w' h => fx.below h) hu rfl hzx) hHeld ?_
          try simp only [Act.put, List.getElem_toArray, List.getElem_cons_succ, List.getElem_cons_zero, List.setIfInBounds_toArray, List.set_cons_zero, List.set_cons_succ]
          refine' wpAnyH_take (i := 11) (v := .slice A n c) rfl (by kernel_rfl) (by kernel_rfl) (by kernel_rfl) (fun _ _ _ h => h) (Or.inl ⟨by rfl, fun w' hw' => by go_simp⟩) hHeld ?_
          try simp only [Act.put, List.getElem_toArray, List.getElem_cons_succ, List.getElem_cons_zero, List.setIfInBounds_toArray, List.set_cons_zero, List.set_cons_succ]
          refine' wpAnyH_take (i := 12) (v := .int .i64 (k : Int)) rfl (by kernel_rfl) (by kernel_rfl) (by kernel_rfl) (fun _ _ _ h => h) (Or.inl ⟨by rfl, fun w' hw' => by go_simp⟩) hHeld ?_
          try simp only [Act.put, List.getElem_toArray, List.getElem_cons_succ, List.getElem_cons_zero, List.setIfInBounds_toArray, List.set_cons_zero, List.set_cons_succ]
          refine' wpAnyH_take (i := 13) (v := .pointer (some ⟨gy, qy, none⟩)) rfl (by kernel_rfl) (by kernel_rfl) (by kernel_rfl) (fun _ _ _ h => h) (Or.inl ⟨by rfl, fun w' hw' => by have hv := hixy w'; go_simp⟩) hHeld ?_
          try simp only [Act.put, List.getElem_toArray, List.getElem_cons_succ, List.getElem_cons_zero, List.setIfInBounds_toArray, List.set_cons_zero, List.set_cons_succ]
          refine' wpAnyH_take (i := 14) (v := _) rfl (by kernel_rfl) (by kernel_rfl) (by kernel_rfl) (fun _ _ _ h => h) (yieldsIf_load_mid (by rfl) 24 _ rfl _ _ rfl (y.map u8v) _ (fun w' h => fy.below h) hu rfl hzy) hHeld ?_
          try simp only [Act.put, List.getElem_toArray, List.getElem_cons_succ, List.getElem_cons_zero, List.setIfInBounds_toArray, List.set_cons_zero, List.set_cons_succ]
          refine' wpAnyH_take (i := 17) (v := .int .i64 v) rfl (by kernel_rfl) (by kernel_rfl) (by kernel_rfl) (fun _ _ _ h => h) (Or.inl ⟨by rfl, fun w' hw' => by go_simp⟩) hHeld ?_
          try simp only [Act.put, List.getElem_toArray, List.getElem_cons_succ, List.getElem_cons_zero, List.setIfInBounds_toArray, List.set_cons_zero, List.set_cons_succ]
          refine' wpAnyH_take (i := 18) (v := .agg #[.int .i64 c1, .int .i64 c2]) rfl (by kernel_rfl) (by kernel_rfl) (by kernel_rfl) (fun _ _ _ h => h) (Or.inl ⟨by rfl, fun w' hw' => by have g0 := (H6.out.below hw').cell_ (i := 0) rfl; have g1 := (H6.out.below hw').cell_ (i := 1) rfl; go_simp⟩) hHeld ?_
          try simp only [Act.put, List.getElem_toArray, List.getElem_cons_succ, List.getElem_cons_zero, List.setIfInBounds_toArray, List.set_cons_zero, List.set_cons_succ]
          refine' wpAnyH_take (i := 19) (v := _) rfl (by kernel_rfl) (by kernel_rfl) (by kernel_rfl) (fun _ _ _ h => h) (yieldsIf_load_mid (by rfl) 24 _ rfl _ _ rfl (s.map u8v) _ (fun w' h => hs9.below h) hu rfl hzs) hHeld ?_
          try simp only [Act.put, List.getElem_toArray, List.getElem_cons_succ, List.getElem_cons_zero, List.setIfInBounds_toArray, List.set_cons_zero, List.set_cons_succ]
          refine wpAnyH_ready (rs := [15]) (by kernel_rfl) (by simp) ?_
          refine AllReadyH.cons rfl (fun K hK => ?_) AllReadyH.nil
          refine wp_build2i _ _ rfl x y lx ly rfl rfl ?_
          intro cs hcs
          have al := (Below.refl w7.heap.size w7).alloc (Nat.le_refl _) (.cells cs 24)
          have hrow := two_row lx ly hcs
          refine hK.out _ _ (hHeld.trans (al.mono hHeld.size)) (fun hHeld => ?_)
          clear hK K hcs al
          try simp only [Act.put, List.getElem_toArray, List.getElem_cons_succ, List.getElem_cons_zero, List.setIfInBounds_toArray, List.set_cons_zero, List.set_cons_succ]
          generalize w7.alloc (.cells cs 24) = w8 at *
          obtain ⟨g7, hg7⟩ : ∃ g, w7.heap.size = g := ⟨_, rfl⟩
          rw [hg7] at hrow
          simp only [hg7]
          clear hg7
          refine wpAnyH_ready (rs := [16]) (by kernel_rfl) (by simp) ?_
          refine AllReadyH.cons rfl (fun K hK => ?_) AllReadyH.nil
          go_simp
          (with_reducible refine (HD.out _ _ _ _ _ (H8.out.below hHeld) hrow).mono ?_)
          rintro e4 w4 ⟨A9, c9, rfl, hr9, hb9⟩
          have HR9 := hid hr9
          refine hK.out _ _ (hHeld.trans (hb9.mono hHeld.size)) (fun hHeld => ?_)
          clear hK K hb9 hr9
          try simp only [Act.put, List.getElem_toArray, List.getElem_cons_succ, List.getElem_cons_zero, List.setIfInBounds_toArray, List.set_cons_zero, List.set_cons_succ]
          refine wpAnyH_ready (rs := [20]) (by kernel_rfl) (by simp) ?_
          refine AllReadyH.cons rfl (fun K hK => ?_) AllReadyH.nil
          go_simp
          (with_reducible refine (HF.out _ _ _ _ _ HR9.out).mono ?_)
          rintro e5 w5 ⟨rfl, hb5⟩
          refine hK.out _ _ (hHeld.trans (hb5.mono hHeld.size)) (fun hHeld => ?_)
          clear hK K hb5
          try simp only [Act.put, List.getElem_toArray, List.getElem_cons_succ, List.getElem_cons_zero, List.setIfInBounds_toArray, List.set_cons_zero, List.set_cons_succ]
          obtain ⟨t, ht⟩ : ∃ t, fitB (minL l [x, y]) v (c1, c2) s = t := ⟨_, rfl⟩
          rw [ht]
          cases t
          case true =>
            refine' wpAnyH_take (i := 21) (v := .bool true) rfl (by kernel_rfl) (by kernel_rfl) (by kernel_rfl) (fun _ _ _ h => h) (Or.inl ⟨by rfl, fun w' hw' => by go_simp⟩) hHeld ?_
            try simp only [Act.put, List.getElem_toArray, List.getElem_cons_succ, List.getElem_cons_zero, List.setIfInBounds_toArray, List.set_cons_zero, List.set_cons_succ]
            refine wpAnyH_done (by kernel_rfl) ?_ _
            have HHH := hid (HB3.out.trans (hHeld.mono HB3.out.size))
            have fx' := HGX.out.below HHH.out
            have fy' := hgy.below HHH.out
            clear hrow fx fy hs9 hHeld
            go_upto_region 12 with (fail)
            refine wp_region_held_drew (S := fun W => Below w5.heap.size w5 W) (by kernel_rfl) (below_drew1 w5) (fun hHeld => ?_)
            generalize w5.drew = w10 at *
            refine' wpAnyH_take (i := 0) (v := .slice A n c) rfl (by kernel_rfl) (by kernel_rfl) (by kernel_rfl) (fun _ _ _ h => h) (Or.inl ⟨by rfl, fun w' hw' => by go_simp⟩) hHeld ?_
            try simp only [Act.put, List.getElem_toArray, List.getElem_cons_succ, List.getElem_cons_zero, List.setIfInBounds_toArray, List.set_cons_zero, List.set_cons_succ]
            refine' wpAnyH_take (i := 1) (v := .int .i64 (i : Int)) rfl (by kernel_rfl) (by kernel_rfl) (by kernel_rfl) (fun _ _ _ h => h) (Or.inl ⟨by rfl, fun w' hw' => by go_simp⟩) hHeld ?_
            try simp only [Act.put, List.getElem_toArray, List.getElem_cons_succ, List.getElem_cons_zero, List.setIfInBounds_toArray, List.set_cons_zero, List.set_cons_succ]
            refine' wpAnyH_take (i := 2) (v := .pointer (some ⟨gx, qx, none⟩)) rfl (by kernel_rfl) (by kernel_rfl) (by kernel_rfl) (fun _ _ _ h => h) (Or.inl ⟨by rfl, fun w' hw' => by have hv := HIX.out w'; go_simp⟩) hHeld ?_
            try simp only [Act.put, List.getElem_toArray, List.getElem_cons_succ, List.getElem_cons_zero, List.setIfInBounds_toArray, List.set_cons_zero, List.set_cons_succ]
            refine' wpAnyH_take (i := 3) (v := _) rfl (by kernel_rfl) (by kernel_rfl) (by kernel_rfl) (fun _ _ _ h => h) (yieldsIf_load_mid (by rfl) 24 _ rfl _ _ rfl (x.map u8v) _ (fun w' h => fx'.below h) hu rfl hzx) hHeld ?_
            try simp only [Act.put, List.getElem_toArray, List.getElem_cons_succ, List.getElem_cons_zero, List.setIfInBounds_toArray, List.set_cons_zero, List.set_cons_succ]
            refine' wpAnyH_take (i := 4) (v := .slice A n c) rfl (by kernel_rfl) (by kernel_rfl) (by kernel_rfl) (fun _ _ _ h => h) (Or.inl ⟨by rfl, fun w' hw' => by go_simp⟩) hHeld ?_
            try simp only [Act.put, List.getElem_toArray, List.getElem_cons_succ, List.getElem_cons_zero, List.setIfInBounds_toArray, List.set_cons_zero, List.set_cons_succ]
            refine' wpAnyH_take (i := 5) (v := .int .i64 (k : Int)) rfl (by kernel_rfl) (by kernel_rfl) (by kernel_rfl) (fun _ _ _ h => h) (Or.inl ⟨by rfl, fun w' hw' => by go_simp⟩) hHeld ?_
            try simp only [Act.put, List.getElem_toArray, List.getElem_cons_succ, List.getElem_cons_zero, List.setIfInBounds_toArray, List.set_cons_zero, List.set_cons_succ]
            refine' wpAnyH_take (i := 6) (v := .pointer (some ⟨gy, qy, none⟩)) rfl (by kernel_rfl) (by kernel_rfl) (by kernel_rfl) (fun _ _ _ h => h) (Or.inl ⟨by rfl, fun w' hw' => by have hv := hixy w'; go_simp⟩) hHeld ?_
            try simp only [Act.put, List.getElem_toArray, List.getElem_cons_succ, List.getElem_cons_zero, List.setIfInBounds_toArray, List.set_cons_zero, List.set_cons_succ]
            refine' wpAnyH_take (i := 7) (v := _) rfl (by kernel_rfl) (by kernel_rfl) (by kernel_rfl) (fun _ _ _ h => h) (yieldsIf_load_mid (by rfl) 24 _ rfl _ _ rfl (y.map u8v) _ (fun w' h => fy'.below h) hu rfl hzy) hHeld ?_
            try simp only [Act.put, List.getElem_toArray, List.getElem_cons_succ, List.getElem_cons_zero, List.setIfInBounds_toArray, List.set_cons_zero, List.set_cons_succ]
            refine wpAnyH_ready (rs := [8]) (by kernel_rfl) (by simp) ?_
            refine AllReadyH.cons rfl (fun K hK => ?_) AllReadyH.nil
            refine wp_build2i _ _ rfl x y lx ly rfl rfl ?_
            intro cs hcs
            have al := (Below.refl w10.heap.size w10).alloc (Nat.le_refl _) (.cells cs 24)
            have hrow := two_row lx ly hcs
            refine hK.out _ _ (hHeld.trans (al.mono hHeld.size)) (fun hHeld => ?_)
            clear hK K hcs al
            try simp only [Act.put, List.getElem_toArray, List.getElem_cons_succ, List.getElem_cons_zero, List.setIfInBounds_toArray, List.set_cons_zero, List.set_cons_succ]
            generalize w10.alloc (.cells cs 24) = w11 at *
            obtain ⟨g7, hg7⟩ : ∃ g, w10.heap.size = g := ⟨_, rfl⟩
            rw [hg7] at hrow
            simp only [hg7]
            clear hg7
            refine' wpAnyH_take (i := 9) (v := .slice (some ⟨g7, 0, none⟩) 2 2) rfl (by kernel_rfl) (by kernel_rfl) (by kernel_rfl) (fun _ _ _ h => h) (Or.inl ⟨by rfl, fun w' hw' => by go_simp⟩) hHeld ?_
            try simp only [Act.put, List.getElem_toArray, List.getElem_cons_succ, List.getElem_cons_zero, List.setIfInBounds_toArray, List.set_cons_zero, List.set_cons_succ]
            refine' wpAnyH_take (i := 10) (v := .bool true) rfl (by kernel_rfl) (by kernel_rfl) (by kernel_rfl) (fun _ _ _ h => h) (Or.inl ⟨by rfl, fun w' hw' => by go_simp⟩) hHeld ?_
            try simp only [Act.put, List.getElem_toArray, List.getElem_cons_succ, List.getElem_cons_zero, List.setIfInBounds_toArray, List.set_cons_zero, List.set_cons_succ]
            refine wpAnyH_done (by kernel_rfl) ?_ _
            have hb12 := HHH.out.trans (hHeld.mono HHH.out.size)
            go_wp2_with (fail)
            go_ret2
            exact ⟨⟨some [x, y], .inr (.inr (.inl ⟨rfl, i, k, x, y, HIK.out, HXX.out, HYY.out, ht, HN1'.out, HN3.out, rfl⟩)), .inr ⟨[x, y], _, _, rfl, rfl, hrow⟩⟩, HB0.out.trans (hb12.mono HB0.out.size)⟩
          case false =>
            refine' wpAnyH_take (i := 21) (v := .bool false) rfl (by kernel_rfl) (by kernel_rfl) (by kernel_rfl) (fun _ _ _ h => h) (Or.inl ⟨by rfl, fun w' hw' => by go_simp⟩) hHeld ?_
            try simp only [Act.put, List.getElem_toArray, List.getElem_cons_succ, List.getElem_cons_zero, List.setIfInBounds_toArray, List.set_cons_zero, List.set_cons_succ]
            refine wpAnyH_done (by kernel_rfl) ?_ _
            have HN4 := hid (HN3.out.step HXX.out HYY.out ht)
            have HB4 := hid (HB3.out.trans (hHeld.mono HB3.out.size))
            clear hrow fx fy hs9 hHeld HR9 ht hixy
            replace H6 := H6'
            go_wp2_with (fail)
            go_roundw
            case rel => exact ⟨k + 1, Nat.lt_succ_of_lt HIK.out, HKL.out, rfl, rfl, by go_num, HN4, HB4⟩
            case measure => first | exact meas_k9 HKL.out | (rw [q9]; exact meas_k9 HKL.out)
        · obtain rfl : k = n := by omega
          have z4 : ¬ (k : Int) < (k : Int) := by omega
          have HN4 := hid (HN3.out.stop (Nat.le_of_eq H.out.1.1))
          clear hlt hik hkm
          go_wp2_with (fail)
          go_roundw
          case rel => exact ⟨i + 1, HLT.out, rfl, rfl, by go_num, HN1', HN4, HB3⟩
          case measure => first | exact meas_k9 HLT.out | (rw [q8]; exact meas_k9 HLT.out)
    · obtain rfl : i = n := by omega
      have z3 : ¬ (i : Int) < (i : Int) := by omega
      clear hlt hi
      go_wp2_with (fail)
      go_ret2
      exact ⟨⟨none, .inr (.inr (.inr ⟨rfl, by rw [H.out.1.1]; exact HN1.out, by rw [H.out.1.1]; exact HN2.out, rfl⟩)), .inl ⟨rfl, rfl⟩⟩, HB0.out.trans (HB.out.mono HB0.out.size)⟩
set_option maxRecDepth 100000 in
set_option maxHeartbeats 8000000 in
theorem rlack_zero (A : Option Addr) (n c : Nat) (l : List (List UInt8)) (v : Int) (z5 : ¬ v = (n : Int) - 1) (z6 : ¬ v = (n : Int) - 2) (cc : Int × Int) (s : List UInt8) (hs32 : s.length = 32) (w : World) (h : RowC w A n c l) :
    Calls Try.prog 35 #[.slice A n c, .int .i64 v, pz cc, .agg (idVals s)] w (LkR l (fitB l v cc s) (fun _ => false) (fun _ _ => false) (.bool true) (.bool false) w) := by
  have mixed : Try.prog.follows .mixedOrders = true := by kernel_rfl
  have hu := Try.underlying24
  have hzs : (Try.prog.info? 24).map (·.size) = some (s.map u8v).length := by rw [List.length_map, hs32]; exact sizeId
  have hn6 := h.1.2.1
  have q1 : wrap64 ((n : Int) - 1) = (n : Int) - 1 := by unfold wrap64; omega
  have q2 : wrap64 ((n : Int) - 2) = (n : Int) - 2 := by unfold wrap64; omega
  have v1 : IntKind.i64.wrap ((n : Int) - 1) = (n : Int) - 1 := by rw [IntKind.wrap_i64]; omega
  have v2 : IntKind.i64.wrap ((n : Int) - 2) = (n : Int) - 2 := by rw [IntKind.wrap_i64]; omega
  have z8 : (v == ((n : Int) - 1)) = false := by simpa using z5
  have z9 : (v == ((n : Int) - 2)) = false := by simpa using z6
  obtain ⟨c1, c2⟩ := cc
  have HF : Hid (∀ (W : World) (A9 : Option Addr) (m c9 : Nat) (r : IdL), RowC W A9 m c9 r → Calls Try.prog 83 #[.slice A9 m c9, .int .i64 v, .agg #[.int .i64 c1, .int .i64 c2], .agg (List.map u8v s).toArray] W fun e w' => e = .returned (.bool (fitB r v (c1, c2) s)) ∧ Below W.heap.size W w') := hid (fun W A9 m c9 r hr => rfits_any A9 m c9 r v (c1, c2) s hs32 W hr)
  have HD : Hid (∀ (W : World) (A9 : Option Addr) (m c9 : Nat) (r : IdL), RowC W A n c l → RowC W A9 m c9 r → Calls Try.prog 84 #[.slice A n c, .slice A9 m c9] W fun e w' => ∃ A9 c9, e = .returned (.slice A9 (minL l r).length c9) ∧ RowC w' A9 (minL l r).length c9 (minL l r) ∧ Below W.heap.size W w') := hid (fun W A9 m c9 r h1 h2 => rdrop_any A A9 n c m c9 l r W h1 h2)
  obtain ⟨b0, hb0⟩ : ∃ b, fitB l v (c1, c2) s = b := ⟨_, rfl⟩
  have c0 : ∀ W, RowC W A n c l → Calls Try.prog 83 #[.slice A n c, .int .i64 v, .agg #[.int .i64 c1, .int .i64 c2], .agg (List.map u8v s).toArray] W fun e w' => e = .returned (.bool b0) ∧ Below W.heap.size W w' := fun W hr => by rw [← hb0]; exact HF.out W A n c l hr
  have hpz : pz (c1, c2) = .agg #[.int .i64 c1, .int .i64 c2] := rfl
  rw [hpz, hb0]
  have HS32 := hid hs32
  clear hs32 hb0 hpz
  go_enter Try.func35, Try.ntmps35
  go_upto_region 1 with (fail)
  have hb := ((Below.refl w.heap.size w).alloc (Nat.le_refl _) (.cells #[.int .i64 c1, .int .i64 c2] 63)).alloc (by simp) (.cells (idVals s) 24)
  have h6 := (Blk.new w 63 #[.int .i64 c1, .int .i64 c2]).alloc (.cells (idVals s) 24)
  have h7 := Blk.new (w.alloc (.cells #[.int .i64 c1, .int .i64 c2] 63)) 24 (idVals s)
  have hsz : (w.alloc (.cells #[.int .i64 c1, .int .i64 c2] 63)).heap.size = w.heap.size + 1 := by simp
  rw [hsz] at h7
  replace h := h.below hb
  generalize (w.alloc (.cells #[.int .i64 c1, .int .i64 c2] 63)).alloc (.cells (idVals s) 24) = w1 at *
  clear hsz
  have f0 : w1.cell? ⟨w.heap.size, 0, none⟩ = some (.int .i64 c1) := h6.cell_ rfl
  have f1 : w1.cell? ⟨w.heap.size, 1, none⟩ = some (.int .i64 c2) := h6.cell_ rfl
  have hbx := range_blk h7
  cases b0
  case true =>
    go_wp2_with (first
      | (with_reducible refine wpList_load_if (by with_unfolding_all rfl) 24 _ rfl _ _ rfl (s.map u8v) _ hbx hu rfl hzs ?_)
      | (go_at_call 83; (with_reducible refine (c0 _ h).mono ?_); rintro e2 w2 ⟨rfl, hb2⟩))
    go_ret2
    exact ⟨⟨some [], .inl ⟨rfl, rfl⟩, .inr ⟨[], none, 0, rfl, rfl, rowC_nil _⟩⟩, hb.trans (hb2.mono hb.size)⟩
  case false =>
  have H := hid h
  have HB0 := hid hb
  have H6 := hid h6
  have HX := hid hbx
  go_wp2_with (first
    | (with_reducible refine wpList_load_if (by with_unfolding_all rfl) 24 _ rfl _ _ rfl (s.map u8v) _ hbx hu rfl hzs ?_)
    | (go_at_call 83; (with_reducible refine (c0 _ h).mono ?_); rintro e2 w2 ⟨rfl, hb2⟩))
  have HB2 := hid hb2
  clear h hb h6 h7 hbx f0 f1 c0 hb2
  go_loopw [8, 9, 10] (fun u8 u9 v0 wr => ∃ i : Nat, i ≤ n ∧ u8 = .slice none 0 0 ∧ u9 = .bool false ∧ v0 = .int .i64 (i : Int) ∧ Hid (No1 l (fun _ => false) i) ∧ Hid (No2 l (fun _ _ => false) i) ∧ Hid (Below w1.heap.size w1 wr)) (fun _ _ v0 _ => n - (intOf v0).toNat)
  case atStart => exact ⟨0, Nat.zero_le _, rfl, rfl, rfl, hid (No1.start _ _), hid (No2.start _ _), HB2⟩
  case round =>
    clear HB2
    obtain ⟨i, hi, rfl, rfl, rfl, HN1, HN2, HB⟩ := hrel
    obtain ⟨wo, hwo⟩ : ∃ u, u = wr := ⟨_, rfl⟩
    subst hwo
    by_cases hlt : i < n
    · have hln := H.out.1.1
      obtain ⟨x, hx⟩ : ∃ x, l[i]? = some x := ⟨_, List.getElem?_eq_getElem (by omega)⟩
      obtain ⟨gx, qx, hgx, lx, hixx⟩ := H.out.1.2.2.pick (k := i) (a := x) c hln hx
      have hzx : (Try.prog.info? 24).map (·.size) = some (x.map u8v).length := by rw [List.length_map, lx]; exact sizeId
      have z3 : (i : Int) < (n : Int) := Int.ofNat_lt.2 hlt
      have q8 := pv_q1 (p := i) (by omega)
      have HLT := hid hlt
      have HXX := hid hx
      have HGX := hid hgx
      have HIX := hid hixx
      have H8 : Hid (RowC wo A n c l) := hid (H.out.below HB.out)
      have hs9 := HX.out.below HB.out
      clear hlt hi hx hgx hln hixx hs9
      go_upto_region 6 with (fail)
      refine wp_region_later mixed (by kernel_rfl) ?_
      repeat (first
        | ((with_reducible refine wpQuiet_skip (by with_unfolding_all rfl) ?_); simp only [Act.put, List.setIfInBounds_toArray, List.set_cons_zero, List.set_cons_succ])
        | ((with_reducible refine wpQuiet_step (fun K hK => ?_)); go_simp; first | ((with_reducible refine hK _ ?_); clear hK K)))
      with_reducible refine wpQuiet_nil ?_
      intro _ hw'
      obtain ⟨p9, rfl⟩ := hw'
      have hp9 := p9.h
      generalize p9.w = w9 at *
      have HN1' : Hid (No1 l (fun _ => false) (i + 1)) := hid (HN1.out.step HXX.out rfl)
      have HB9 := hid (HB.out.trans (hp9.mono HB.out.size))
      clear hp9 H8
      have HNI := hid HN2.out.inner
      go_wp2_with (fail)
      go_loopw [8, 9, 11] (fun u8 u9 v0 wr => ∃ k : Nat, i < k ∧ k ≤ n ∧ u8 = .slice none 0 0 ∧ u9 = .bool false ∧ v0 = .int .i64 (k : Int) ∧ Hid (No22 l (fun _ _ => false) i k) ∧ Hid (Below w1.heap.size w1 wr)) (fun _ _ v0 _ => n - (intOf v0).toNat)
      case atStart => exact ⟨i + 1, Nat.lt_succ_self _, HLT.out, rfl, rfl, by go_num, HNI, HB9⟩
      case round =>
        clear HNI HB9
        obtain ⟨k, hik, hkm, rfl, rfl, rfl, HN3, HB3⟩ := hrel
        by_cases hlt : k < n
        · have hln := H.out.1.1
          obtain ⟨y, hy⟩ : ∃ y, l[k]? = some y := ⟨_, List.getElem?_eq_getElem (by omega)⟩
          have z4 : (k : Int) < (n : Int) := Int.ofNat_lt.2 hlt
          have q9 := pv_q1 (p := k) (by omega)
          have HKL := hid hlt
          have HYY := hid hy
          have HIK := hid hik
          clear hlt hik hkm hy hln
          go_upto_region 11 with (fail)
          refine wp_region_later mixed (by kernel_rfl) ?_
          repeat (first
            | ((with_reducible refine wpQuiet_skip (by with_unfolding_all rfl) ?_); simp only [Act.put, List.setIfInBounds_toArray, List.set_cons_zero, List.set_cons_succ])
            | ((with_reducible refine wpQuiet_step (fun K hK => ?_)); go_simp; first | ((with_reducible refine hK _ ?_); clear hK K)))
          with_reducible refine wpQuiet_nil ?_
          intro _ hw'
          obtain ⟨p9, rfl⟩ := hw'
          have hp9 := p9.h
          generalize p9.w = w9 at *
          have HN4 := hid (HN3.out.step HXX.out HYY.out rfl)
          have HB4 := hid (HB3.out.trans (hp9.mono HB3.out.size))
          clear hp9
          go_wp2_with (fail)
          go_roundw
          case rel => exact ⟨k + 1, Nat.lt_succ_of_lt HIK.out, HKL.out, rfl, rfl, by go_num, HN4, HB4⟩
          case measure => first | exact meas_k9 HKL.out | (rw [q9]; exact meas_k9 HKL.out)
        · obtain rfl : k = n := by omega
          have z4 : ¬ (k : Int) < (k : Int) := by omega
          have HN4 := hid (HN3.out.stop (Nat.le_of_eq H.out.1.1))
          clear hlt hik hkm
          go_wp2_with (fail)
          go_roundw
          case rel => exact ⟨i + 1, HLT.out, rfl, rfl, by go_num, HN1', HN4, HB3⟩
          case measure => first | exact meas_k9 HLT.out | (rw [q8]; exact meas_k9 HLT.out)
    · obtain rfl : i = n := by omega
      have z3 : ¬ (i : Int) < (i : Int) := by omega
      clear hlt hi
      go_wp2_with (fail)
      go_ret2
      exact ⟨⟨none, .inr (.inr (.inr ⟨rfl, by rw [H.out.1.1]; exact HN1.out, by rw [H.out.1.1]; exact HN2.out, rfl⟩)), .inl ⟨rfl, rfl⟩⟩, HB0.out.trans (HB.out.mono HB0.out.size)⟩
end Go.Proofs.Ytkajfpincbkfhaa
/- recon: lacking of two; Lack's answers. -/
set_option linter.unusedSimpArgs false
set_option linter.unusedVariables false
namespace Go.Proofs.Ytkajfpincbkfhaa
open Go.RowKit Go.Qc Go.Shelf
attribute [local go_sem] txt_size txt_append ib_fold
set_option maxRecDepth 100000 in
set_option maxHeartbeats 8000000 in
theorem lacking2_any (A : Option Addr) (n c : Nat) (l : List (List UInt8)) (P : Int × Int) (hP : ResZ P) (s : List UInt8) (hs32 : s.length = 32) (w : World) (h : RowC w A n c l) (hs : Steps l n) :
    Calls Try.prog 81 #[.slice A n c, .int .i64 2, cz P, .agg (idVals s)] w (LQ (GoodTwo l P s) (NoTwo l P s n) (.bool true) (.bool false) w) := by
  have hu := Try.underlying24
  have hzq : (Try.prog.info? 24).map (·.size) = some (s.map u8v).length := by rw [List.length_map, hs32]; exact sizeId
  have cO : ∀ W, RowC W A n c l → Calls Try.prog 121 #[.slice A n c, cz P, .agg (List.map u8v s).toArray] W (LQ (GoodTwo l P s) (NoTwo l P s n) (.bool true) (.bool false) W) := fun W hW => two_any A n c l P hP s hs32 W hW hs
  generalize cz P = PV at *
  generalize GoodTwo l P s = Good at *
  generalize NoTwo l P s n = Bad at *
  go_enter Try.func81, Try.ntmps81
  go_upto_region 1 with (fail)
  have hb := (Below.refl w.heap.size w).alloc (Nat.le_refl _) (.cells (idVals s) 24)
  have hbx := range_blk (Blk.new w 24 (idVals s))
  replace h := h.below hb
  generalize w.alloc (.cells (idVals s) 24) = w1 at *
  have hlz := hb.size
  have HQ := hid (cO w1 h)
  clear cO
  go_wp2_with (first
    | (with_reducible refine wpList_load_if (by with_unfolding_all rfl) 24 _ rfl _ _ rfl (s.map u8v) _ hbx hu rfl hzq ?_)
    | (go_at_call 121; refine (HQ.out).mono ?_; rintro e2 w2 hq; obtain ⟨⟨v, rfl, hv⟩ | ⟨hv, rfl⟩, hb2⟩ := hq))
  · go_ret2
    exact ⟨.inl ⟨v, rfl, hv⟩, hb.trans (hb2.mono hlz)⟩
  · go_ret2
    exact ⟨.inr ⟨hv, rfl⟩, hb.trans (hb2.mono hlz)⟩
theorem fit_no {l : IdL} {v : Int} {cc : Int × Int} {s : List UInt8} (h : ¬ (l.length : Int) = v) : fitB l v cc s = false := by
  unfold fitB
  rw [decide_eq_false h]; rfl
theorem no2_false (l : IdL) (i : Nat) : No2 l (fun _ _ => false) i := fun a x b y _ _ _ _ => rfl
theorem no1_false (l : IdL) (i : Nat) : No1 l (fun _ => false) i := fun a x _ _ => rfl
theorem plack_zero (A : Option Addr) (n c : Nat) (l : IdL) (cc : Int × Int) (hcc : ResZ cc) (hc0 : cc ≠ (0, 0)) (s : List UInt8) (hs32 : s.length = 32) (w : World) (h : RowC w A n c l) (hs : Steps l n) :
    Calls Try.prog 31 #[.slice A n c, .agg (smC (n : Int) (cz cc) s)] w (LkR l (fitB l (n : Int) cc s) (fun _ => false) (fun _ _ => false) (.int .i64 0) (.int .i64 6) w) := by
  have hP : ResZ (gmulZ (talZ l) (ginvZ cc)) := gmulZ_res _ _
  have e0 : zeroOk l (gmulZ (talZ l) (ginvZ cc)) s = fitB l (n : Int) cc s := by rw [← h.1.1]; exact zero_fit hcc hc0 s
  refine (lack_core A n c l n (Nat.le_refl _) (by omega) cc hcc hc0 s hs32 (fun _ v => zeroOk l (gmulZ (talZ l) (ginvZ cc)) s = true ∧ v = .slice none 0 0) (zeroOk l (gmulZ (talZ l) (ginvZ cc)) s = false) w h hs (fun W hW => ?_)).mono ?_
  · rw [Nat.sub_self]
    exact lacking0_any A n c l _ hP s hs32 W hW hs
  · rintro e w' ⟨⟨v, rfl, h1, rfl⟩ | ⟨h1, rfl⟩, hb⟩
    · exact ⟨⟨some [], .inl ⟨by rw [← e0]; exact h1, rfl⟩, .inr ⟨[], none, 0, rfl, rfl, rowC_nil _⟩⟩, hb⟩
    · exact ⟨⟨none, .inr (.inr (.inr ⟨by rw [← e0]; exact h1, no1_false _ _, no2_false _ _, rfl⟩)), .inl ⟨rfl, rfl⟩⟩, hb⟩
theorem plack_one (A : Option Addr) (n c : Nat) (l : IdL) (v : Nat) (hv : v + 1 = n) (cc : Int × Int) (hcc : ResZ cc) (hc0 : cc ≠ (0, 0)) (s : List UInt8) (hs32 : s.length = 32) (w : World) (h : RowC w A n c l) (hs : Steps l n) :
    Calls Try.prog 31 #[.slice A n c, .agg (smC (v : Int) (cz cc) s)] w (LkR l (fitB l (v : Int) cc s) (fun x => fitB (minL l [x]) (v : Int) cc s) (fun _ _ => false) (.int .i64 0) (.int .i64 6) w) := by
  have hP : ResZ (gmulZ (talZ l) (ginvZ cc)) := gmulZ_res _ _
  have hl := h.1.1
  have hnd := rising_nodup (steps_rising l (by rw [h.1.1]; exact hs))
  have e0 : fitB l (v : Int) cc s = false := fit_no (by omega)
  have e1 : ∀ x, x ∈ l → oneB l (gmulZ (talZ l) (ginvZ cc)) s x = fitB (minL l [x]) (v : Int) cc s := fun x hx => one_fit hnd hcc hc0 s hx (by omega)
  refine (lack_core A n c l v (by omega) (by omega) cc hcc hc0 s hs32 (GoodOne l (gmulZ (talZ l) (ginvZ cc)) s) (∀ x ∈ l, oneB l (gmulZ (talZ l) (ginvZ cc)) s x = false) w h hs (fun W hW => ?_)).mono ?_
  · have : n - v = 1 := by omega
    rw [this]
    exact lacking1_any A n c l _ hP s hs32 W hW hs
  · rintro e w' ⟨⟨v, rfl, k, a, A', c', rfl, h1, h2, h3, h4⟩ | ⟨h1, rfl⟩, hb⟩
    · exact ⟨⟨some [a], .inr (.inl ⟨e0, k, a, h1, (e1 a (List.mem_of_getElem? h1)).symm.trans h2, fun j x hj hx => by
        show fitB (minL l [x]) _ cc s = false
        rw [← e1 x (List.mem_of_getElem? hx)]; exact h3 j x hj hx, no2_false _ _, rfl⟩), .inr ⟨[a], A', c', rfl, rfl, h4⟩⟩, hb⟩
    · exact ⟨⟨none, .inr (.inr (.inr ⟨e0, fun j x hj hx => by
        show fitB (minL l [x]) _ cc s = false
        rw [← e1 x (List.mem_of_getElem? hx)]; exact h1 x (List.mem_of_getElem? hx), no2_false _ _, rfl⟩)), .inl ⟨rfl, rfl⟩⟩, hb⟩
theorem plack_two (A : Option Addr) (n c : Nat) (l : IdL) (v : Nat) (hv : v + 2 = n) (cc : Int × Int) (hcc : ResZ cc) (hc0 : cc ≠ (0, 0)) (s : List UInt8) (hs32 : s.length = 32) (w : World) (h : RowC w A n c l) (hs : Steps l n) :
    Calls Try.prog 31 #[.slice A n c, .agg (smC (v : Int) (cz cc) s)] w (LkR l (fitB l (v : Int) cc s) (fun _ => false) (fun x y => fitB (minL l [x, y]) (v : Int) cc s) (.int .i64 0) (.int .i64 6) w) := by
  have hP : ResZ (gmulZ (talZ l) (ginvZ cc)) := gmulZ_res _ _
  have hl := h.1.1
  have hri : Rising l := steps_rising l (by rw [h.1.1]; exact hs)
  have hnd := rising_nodup hri
  have e0 : fitB l (v : Int) cc s = false := fit_no (by omega)
  have e1 : ∀ i k x y, i < k → l[i]? = some x → l[k]? = some y → twoB l (gmulZ (talZ l) (ginvZ cc)) s x y = fitB (minL l [x, y]) (v : Int) cc s := fun (i k : Nat) (x y : List UInt8) hik hx hy =>
    two_fit hnd hcc hc0 s (List.mem_of_getElem? hx) (List.mem_of_getElem? hy) (Lt.ne (rising_get hri hik hx hy)) (by omega)
  have e2 : ∀ i, NoTwo l (gmulZ (talZ l) (ginvZ cc)) s i → No2 l (fun x y => fitB (minL l [x, y]) (v : Int) cc s) i := fun i h9 a x b y h1 h2 h3 h4 => by
    show fitB (minL l [x, y]) _ cc s = false
    rw [← e1 a b x y h2 h3 h4]; exact h9 a x b y h1 h2 h3 h4
  refine (lack_core A n c l v (by omega) (by omega) cc hcc hc0 s hs32 (GoodTwo l (gmulZ (talZ l) (ginvZ cc)) s) (NoTwo l (gmulZ (talZ l) (ginvZ cc)) s n) w h hs (fun W hW => ?_)).mono ?_
  · have : n - v = 2 := by omega
    rw [this]
    exact lacking2_any A n c l _ hP s hs32 W hW hs
  · rintro e w' ⟨⟨v, rfl, i, k, x, y, A', c', rfl, hik, hx, hy, h2, h3, h4⟩ | ⟨h1, rfl⟩, hb⟩
    · exact ⟨⟨some [x, y], .inr (.inr (.inl ⟨e0, i, k, x, y, hik, hx, hy, (e1 i k x y hik hx hy).symm.trans h2, no1_false _ _, ⟨e2 i h3.1, fun x' b y' h5 h6 h7 h8 => by
        show fitB (minL l [x', y']) _ cc s = false
        rw [← e1 i b x' y' h5 h7 h8]; exact h3.2 x' b y' h5 h6 h7 h8⟩, rfl⟩)), .inr ⟨[x, y], A', c', rfl, rfl, h4⟩⟩, hb⟩
    · exact ⟨⟨none, .inr (.inr (.inr ⟨e0, no1_false _ _, e2 _ (by rw [hl]; exact h1), rfl⟩)), .inl ⟨rfl, rfl⟩⟩, hb⟩
/-- The program's Lack and the document's tell the same. -/
theorem lack_both (n : Nat) (l : IdL) (hs : Steps l n) (hl : l.length = n) (v : Nat) (hv1 : v ≤ n) (hv2 : n ≤ v + 2) (cc : Int × Int) (hcc : ResZ cc) (hc0 : cc ≠ (0, 0)) (s : List UInt8) (hs32 : s.length = 32) :
    ∃ (f0 : Bool) (f : List UInt8 → Bool) (g : List UInt8 → List UInt8 → Bool),
      (∀ (W : World) (A : Option Addr) (c : Nat), RowC W A n c l → Calls Try.prog 31 #[.slice A n c, .agg (smC (v : Int) (cz cc) s)] W (LkR l f0 f g (.int .i64 0) (.int .i64 6) W)) ∧
      (∀ (W : World) (A : Option Addr) (c : Nat), RowC W A n c l → Calls Try.prog 35 #[.slice A n c, .int .i64 (v : Int), pz cc, .agg (idVals s)] W (LkR l f0 f g (.bool true) (.bool false) W)) := by
  rcases (show v = n ∨ v + 1 = n ∨ v + 2 = n by omega) with rfl | e | e
  · exact ⟨_, _, _, fun W A c h => plack_zero A v c l cc hcc hc0 s hs32 W h hs, fun W A c h => rlack_zero A v c l (v : Int) (by omega) (by omega) cc s hs32 W h⟩
  · exact ⟨_, _, _, fun W A c h => plack_one A n c l v e cc hcc hc0 s hs32 W h hs, fun W A c h => rlack_one A n c l (v : Int) (by omega) cc s hs32 W h⟩
  · exact ⟨_, _, _, fun W A c h => plack_two A n c l v e cc hcc hc0 s hs32 W h hs, fun W A c h => rlack_two A n c l (v : Int) (by omega) cc s hs32 W h⟩
end Go.Proofs.Ytkajfpincbkfhaa
/- recon: ReconLacks: summaries are equal; the ways that don't meet Lack's answers. -/
set_option linter.unusedSimpArgs false
set_option linter.unusedVariables false
namespace Go.Proofs.Ytkajfpincbkfhaa
open Go.RowKit Go.Qc Go.Shelf
attribute [local go_sem] txt_size txt_append ib_fold
theorem run_idsL9 {P : Program} (w : World) (t e : TypeId) (n : Nat) (i : TypeInfo) (hu : P.underlying t = some (.array n e)) (hi : P.info? e = some i) (h1 : P.cellsOf e = 1) (he : P.underlying e = some (.int .u8)) (A B : List UInt8) (hA : A.length = n) (hB : B.length = n) :
    (Op.equalIn 9999 t (.agg (idVals A)) (.agg (idVals B))).run P w = .ok (decide (A = B)) w := by
  rw [show (9999 : Nat) = 9998 + 1 from rfl, run_equalIn_array w 9998 _ _ hu hi, h1, show (9998 : Nat) = 9997 + 1 from rfl, run_items_bytes w 9997 e he A B (by omega) _ (fun j hj => by rw [hA]; exact List.mem_range.1 hj)]
  congr 1
  rw [Bool.eq_iff_iff]
  simp only [List.all_eq_true, List.mem_range, beq_iff_eq, decide_eq_true_eq]
  constructor
  · intro h
    apply List.ext_getElem?
    intro j
    by_cases hj : j < n
    · exact h j hj
    · rw [List.getElem?_eq_none (by omega), List.getElem?_eq_none (by omega)]
  · intro h j _
    rw [h]
theorem ids_eqL9 (w : World) (A B : List UInt8) (hA : A.length = 32) (hB : B.length = 32) :
    (Op.equalIn 9999 24 (.agg (idVals A)) (.agg (idVals B))).run Try.prog w = .ok (decide (A = B)) w := by
  obtain ⟨i0, hi, hz0, hz1, hz2⟩ := info_parts infoByte
  exact run_idsL9 w _ 5 32 i0 Try.underlying24 hi (by kernel_rfl) Try.underlying5 A B hA hB
theorem cz_eq9 (x : Int × Int) (hx : ResZ x) (W : World) : (Op.equalIn 9999 54 (cz x) (cz x)).run Try.prog W = .ok true W := by
  have hu := Try.underlying54
  obtain ⟨x0, x1, x2, x3⟩ := hx
  have e1 := fl_eqb x.1 x.1 (by omega) (by omega)
  have e2 := fl_eqb x.2 x.2 (by omega) (by omega)
  rw [show (9999 : Nat) = 9998 + 1 from rfl]
  unfold Op.equalIn cz
  simp only [decide_true] at e1 e2
  simp [run_underlying hu, Op.floatEq, e1, e2]
set_option maxRecDepth 100000 in
set_option maxHeartbeats 20000000 in
theorem sm_parts (n : Int) (x : Int × Int) (s : List UInt8) (hs : s.length = 32) (W : World) :
    (part 3 (smC n (cz x) s) 0).run Try.prog W = .ok (.int .i64 n) W ∧ (part 54 (smC n (cz x) s) 1).run Try.prog W = .ok (cz x) W ∧ (part 24 (smC n (cz x) s) 2).run Try.prog W = .ok (.agg (idVals s)) W := by
  obtain ⟨x0, x1, x2, x3, x4, x5, x6, x7, x8, x9, x10, x11, x12, x13, x14, x15, x16, x17, x18, x19, x20, x21, x22, x23, x24, x25, x26, x27, x28, x29, x30, x31, rfl⟩ := list32m s hs
  unfold cz
  generalize fl x.1 = u
  generalize fl x.2 = v
  exact ⟨by kernel_rfl, by kernel_rfl, by kernel_rfl⟩
set_option maxRecDepth 100000 in
theorem sm_eq (n : Int) (x : Int × Int) (hx : ResZ x) (s : List UInt8) (hs : s.length = 32) (W : World) : (Op.equalIn 10000 56 (.agg (smC n (cz x) s)) (.agg (smC n (cz x) s))).run Try.prog W = .ok true W := by
  have hst : Try.prog.stoodInHeld 56 = false := by kernel_rfl
  have hu := Try.underlying56
  have ht : Try.prog.underlying 56 = some (.struct (Try.prog.fieldsOf 56)) := by
    unfold Program.fieldsOf; rw [hu]
  obtain ⟨p0, p1, p2⟩ := sm_parts n x s hs W
  have i9 : (Op.equalIn 9999 24 (.agg (idVals s)) (.agg (idVals s))).run Try.prog W = .ok true W := (ids_eqL9 W s s hs hs).trans (by rw [decide_eq_true rfl])
  rw [show (10000 : Nat) = 9999 + 1 from rfl, run_equalIn_struct W 9999 _ _ _ ht hst]
  unfold Program.fieldsOf
  rw [hu]
  generalize smC n (cz x) s = SC at *
  have h := eqZ_cons 9999 SC SC ({ name := "Count", type := 3, offset := 0, embedded := false, tag := "", pkgPath := "", byteOffset := 0 } : Field) _ W _ _ _ _ (by decide) p0 p0 (int_eqZ n n W)
    (eqZ_cons 9999 SC SC ({ name := "Tally", type := 54, offset := 1, embedded := false, tag := "", pkgPath := "", byteOffset := 8 } : Field) _ W _ _ _ _ (by decide) p1 p1 (cz_eq9 x hx W)
      (eqZ_cons 9999 SC SC ({ name := "Sum", type := 24, offset := 2, embedded := false, tag := "", pkgPath := "", byteOffset := 24 } : Field) _ W _ _ _ _ (by decide) p2 p2 i9 (eqZ_nil 9999 _ _ W)))
  simp only [Bool.and_true, beq_self_eq_true] at h
  exact h
theorem sm_zero (W : World) : (Instr.build 56 #[]).run Try.prog W = .ok (.agg (smC 0 (cz (0, 0)) zeroB)) W := by
  rw [← cz_zero]
  kernel_rfl
set_option maxRecDepth 100000 in
set_option maxHeartbeats 8000000 in
theorem rl_far (A B : Option Addr) (n c m d : Nat) (ch : Bool) (v : Int) (w : World) (hf : 8 < n ∨ 8 < m) :
    Calls Try.prog 7 #[.slice A n c, .slice B m d, .bool ch, .int .i64 v] w fun e w' => e = .returned (.bool true) ∧ Below w.heap.size w w' := by
  go_enter Try.func7, Try.ntmps7
  by_cases h1 : 8 < n
  · have z1 : (8 : Int) < (n : Int) := by omega
    go_wp2_with (go_at_call 29; (with_reducible refine (awake23_any _).mono ?_); rintro e2 w2 ⟨rfl, hb2⟩)
    go_ret
    exact ⟨rfl, hb2⟩
  · have z1 : ¬ (8 : Int) < (n : Int) := by omega
    have z2 : (8 : Int) < (m : Int) := by omega
    go_wp2_with (go_at_call 29; (with_reducible refine (awake23_any _).mono ?_); rintro e2 w2 ⟨rfl, hb2⟩)
    go_ret
    exact ⟨rfl, hb2⟩
set_option maxRecDepth 100000 in
set_option maxHeartbeats 8000000 in
theorem rl_order (A B : Option Addr) (n c m d : Nat) (l : IdL) (ch : Bool) (v : Int) (w : World) (hn : n ≤ 8) (hm : m ≤ 8) (h : RowC w A n c l) (hs : ¬ Steps l n) :
    Calls Try.prog 7 #[.slice A n c, .slice B m d, .bool ch, .int .i64 v] w fun e w' => e = .returned (.bool true) ∧ Below w.heap.size w w' := by
  have z1 : ¬ (8 : Int) < (n : Int) := by omega
  have z2 : ¬ (8 : Int) < (m : Int) := by omega
  have cO : ∀ W, RowC W A n c l → Calls Try.prog 30 #[.slice A n c] W fun e w' => e = .returned (.tuple #[.agg (smC 0 (cz (0, 0)) zeroB), .int .i64 17]) ∧ Below W.heap.size W w' := fun W h1 => rcof_no A n c l W h1 hs
  have cR : ∀ W, RowC W A n c l → Calls Try.prog 15 #[.slice A n c] W fun e w' => e = .returned (.bool false) ∧ Below W.heap.size W w' := fun W hW => (rrises_any A n c l W hW.1).mono (by
    rintro e w' ⟨v, rfl, ⟨t, rfl, ht⟩, hb⟩
    cases t
    · exact ⟨rfl, hb⟩
    · exact ⟨absurd (ht.1 rfl) hs, hb⟩)
  have cL : ∀ W, RowC W A n c l → Calls Try.prog 31 #[.slice A n c, .agg (smC 0 (cz (0, 0)) zeroB)] W fun e w' => e = .returned (.tuple #[.slice none 0 0, .int .i64 17]) ∧ Below W.heap.size W w' := fun W h1 => lack_order A n c l _ W h1 hs
  have hS : (smC 0 (cz (0, 0)) zeroB).size = 34 := smC_size _ _ (by decide)
  have h1c := smC_one 0 (0, 0) zeroB
  have e9 : ∀ W, (Op.equalIn 10000 56 (.agg (smC 0 (cz (0, 0)) zeroB)) (.agg (smC 0 (cz (0, 0)) zeroB))).run Try.prog W = .ok true W := fun W => sm_eq 0 (0, 0) ⟨by decide, by decide, by decide, by decide⟩ zeroB (by decide) W
  have b0 := sm_zero
  generalize smC 0 (cz (0, 0)) zeroB = SC at *
  clear hs
  go_enter Try.func7, Try.ntmps7
  go_upto_region 4 with (first
    | (go_at_call 30; (with_reducible refine (cO _ h).mono ?_); rintro e2 w2 ⟨rfl, hb2⟩)
    | (with_reducible refine wpList_store_smn rfl _ _ rfl SC hS h1c rfl rfl (by with_unfolding_all rfl) ?_))
  have hb := hb2.alloc (Nat.le_trans (Nat.le_refl _) hb2.size) (.cells SC 56)
  have hx := Blk.new w2 56 SC
  obtain ⟨gx, hgx⟩ : ∃ gx, w2.heap.size = gx := ⟨_, rfl⟩
  rw [hgx] at hx
  simp only [hgx]
  clear hgx
  generalize w2.alloc (.cells SC 56) = w3 at *
  replace h := h.below hb
  go_upto_region 6 with (first
    | (go_at_call 15; (with_reducible refine (cR _ h).mono ?_); rintro e4 w4 ⟨rfl, hb4⟩; replace hb := hb.trans (hb4.mono hb.size); replace hx := hx.below hb4; replace h := h.below hb4)
    | (with_reducible refine wpList_build_byM rfl _ _ rfl _ _ b0 (by with_unfolding_all rfl) ?_)
    | (go_at_call 31; (with_reducible refine (cL _ h).mono ?_); rintro e5 w5 ⟨rfl, hb5⟩; replace hb := hb.trans (hb5.mono hb.size); replace hx := hx.below hb5))
  clear h cO cR cL
  go_wp2_with (first
    | (with_reducible refine wpList_load_smx (by with_unfolding_all rfl) _ rfl gx SC rfl hx hS ?_)
    | (with_reducible refine wpList_build_byM rfl _ _ rfl _ _ b0 (by with_unfolding_all rfl) ?_)
    | (go_at_call 29; (with_reducible refine (awake23_any _).mono ?_); rintro e9 w9 ⟨rfl, hb9⟩; replace hb := hb.trans (hb9.mono hb.size)))
  go_ret
  exact ⟨rfl, hb⟩
end Go.Proofs.Ytkajfpincbkfhaa


/- Proved: for any row of ids, any count and any root quitclaimlaw21.MerkleSums returns true and leaves its arguments as they were. No conditions. -/
import Derived.Test.YtkajfpincbkfhaaMkB
set_option linter.unusedSimpArgs false
set_option linter.unusedVariables false
namespace Go.Proofs.Ytkajfpincbkfhaa
open Go.RowKit Go.Qc Go.Shelf
attribute [local go_sem] txt_size txt_append ib_fold
set_option maxRecDepth 100000 in
set_option maxHeartbeats 8000000 in
theorem ms_far (A : Option Addr) (n c : Nat) (v : Int) (hv : v < 9223372036854775808) (r : List UInt8) (hr : r.length = 32) (w : World) (hn : 30 < n) :
    Calls Try.prog 3 #[.slice A n c, .int .i64 v, .agg (idVals r)] w fun e w' => e = .returned (.bool true) ∧ Below w.heap.size w w' := by
  have z1 : (30 : Int) < n := by omega
  have hb := (Below.refl w.heap.size w).alloc (Nat.le_refl _) (.cells (idVals r) 24)
  go_enter Try.func3, Try.ntmps3
  go_wp2_with (go_at_call 11; (with_reducible refine (awake21_any _).mono ?_); rintro e9 w9 ⟨rfl, hb9⟩)
  go_ret
  exact ⟨rfl, hb.trans (hb9.mono hb.size)⟩
set_option maxRecDepth 100000 in
set_option maxHeartbeats 8000000 in
theorem ms_yes (A : Option Addr) (n c : Nat) (v : Int) (hv : v < 9223372036854775808) (r : List UInt8) (hr : r.length = 32) (w : World) (l : List (List UInt8)) (hn : n ≤ 30) (h : RowC w A n c l) (hs : Steps l n) :
    Calls Try.prog 3 #[.slice A n c, .int .i64 v, .agg (idVals r)] w fun e w' => e = .returned (.bool true) ∧ Below w.heap.size w w' := by
  have mixed : Try.prog.follows .mixedOrders = true := by kernel_rfl
  have hu := Try.underlying24
  have z1 : ¬ (30 : Int) < n := by omega
  have hn0 : (n : Int) < 9223372036854775808 := by omega
  have cS : ∀ W, RowC W A n c l → Calls Try.prog 12 #[.slice A n c] W fun e w' => e = .returned (.tuple #[.agg (idVals (wholeM (n : Int) (rootM l))), .int .i64 0]) ∧ Below W.heap.size W w' := fun W hW => msum_yes A n c l W hW hs
  have cI : ∀ W, RowC W A n c l → Calls Try.prog 15 #[.slice A n c] W fun e w' => e = .returned (.bool true) ∧ Below W.heap.size W w' := fun W hW => (rrises_any A n c l W hW.1).mono (by
    rintro e w' ⟨v, rfl, ⟨t, rfl, ht⟩, hb⟩
    cases t
    · exact ⟨absurd (ht.2 hs) (by decide), hb⟩
    · exact ⟨rfl, hb⟩)
  have cW : ∀ W, Calls Try.prog 13 #[.int .i64 v, .agg (List.map u8v r).toArray] W fun e w' => e = .returned (.agg (idVals (wholeM v r))) ∧ Below W.heap.size W w' := fun W => mwhole_any v hv r hr W
  have cV : ∀ W, Calls Try.prog 14 #[.int .i64 v, .agg (List.map u8v r).toArray] W fun e w' => e = .returned (.agg (idVals (wholeM v r))) ∧ Below W.heap.size W w' := fun W => rwhole_any v hv r hr W
  have cR : ∀ W, RowC W A n c l → Calls Try.prog 16 #[.slice A n c] W fun e w' => e = .returned (.agg (idVals (rootM l))) ∧ Below W.heap.size W w' := fun W hW => mroot_any l.length l (Nat.le_refl _) A n c W hW
  have cT : ∀ W, RowC W A n c l → Calls Try.prog 17 #[.slice A n c] W fun e w' => e = .returned (.agg (idVals (rootM l))) ∧ Below W.heap.size W w' := fun W hW => rroot_any l.length l (Nat.le_refl _) A n c W hW
  have cU : ∀ W, RowC W A n c l → Calls Try.prog 18 #[.slice A n c] W fun e w' => e = .returned (.agg (idVals (wholeM (n : Int) (rootM l)))) ∧ Below W.heap.size W w' := fun W hW => rsum21_any A n c l W hW
  have hrl := rootM_length l
  have hWl : (wholeM v r).length = 32 := tagB_length _ _
  have hSl : (wholeM (n : Int) (rootM l)).length = 32 := tagB_length _ _
  generalize wholeM (n : Int) (rootM l) = S at *
  generalize rootM l = R at *
  generalize wholeM v r = V at *
  have hzr : (Try.prog.info? 24).map (·.size) = some (r.map u8v).length := by rw [List.length_map, hr]; exact sizeId
  have hzs : (Try.prog.info? 24).map (·.size) = some (S.map u8v).length := by rw [List.length_map, hSl]; exact sizeId
  have heV : ∀ W, (Op.equalIn 10000 24 (.agg (idVals V)) (.agg (idVals V))).run Try.prog W = .ok true W := fun W => (ids_eq W V V hWl hWl).trans (by rw [decide_eq_true rfl])
  go_enter Try.func3, Try.ntmps3
  go_upto_region 3 with (fail)
  have hb := (Below.refl w.heap.size w).alloc (Nat.le_refl _) (.cells (idVals r) 24)
  have hbx := range_blk (Blk.new w 24 (idVals r))
  replace h := h.below hb
  generalize w.alloc (.cells (idVals r) 24) = w1 at *
  go_upto_region 4 with (first
    | (go_at_call 12; (with_reducible refine (cS _ h).mono ?_); rintro e2 w2 ⟨rfl, hb2⟩; replace h := h.below hb2; replace hbx := hbx.below hb2; replace hb := hb.trans (hb2.mono hb.size))
    | ((with_reducible refine wpList_store_newid rfl _ _ rfl S hSl rfl rfl (by with_unfolding_all rfl) ?_); intro w3 hx3 hb3))
  replace h := h.below hb3
  replace hbx := hbx.below hb3
  replace hb := hb.trans (hb3.mono hb.size)
  generalize w2.heap.size = gS at *
  have fr := range_later hbx
  have dW : ∀ p : LaterW w3, Calls Try.prog 13 #[.int .i64 v, .agg (List.map u8v r).toArray] p.w fun e w' => e = .returned (.agg (idVals V)) ∧ Below p.w.heap.size p.w w' := fun p => cW p.w
  have dV : ∀ p : LaterW w3, Calls Try.prog 14 #[.int .i64 v, .agg (List.map u8v r).toArray] p.w fun e w' => e = .returned (.agg (idVals V)) ∧ Below p.w.heap.size p.w w' := fun p => cV p.w
  clear hb2 hb3 cS cW cV
  refine wp_region_later mixed (by kernel_rfl) ?_
  repeat (first
    | ((with_reducible refine wpQuiet_skip (by with_unfolding_all rfl) ?_); simp only [Act.put, List.setIfInBounds_toArray, List.set_cons_zero, List.set_cons_succ])
    | ((with_reducible refine wpQuiet_load_if (by with_unfolding_all rfl) 24 _ rfl _ _ rfl (r.map u8v) _ fr hu (by with_unfolding_all rfl) hzr ?_); simp only [Act.put, List.setIfInBounds_toArray, List.set_cons_zero, List.set_cons_succ])
    | ((with_reducible refine wpQuiet_step (fun K hK => ?_)); go_simp; first | ((with_reducible refine hK _ ?_); clear hK K) | (with_reducible apply Exists.intro; (with_reducible refine ⟨fun _ => ?_, hK _ ?_⟩); ((first | (go_at_call 13; exact later_of (dW _)) | (go_at_call 14; exact later_of (dV _)))); clear hK K)))
  with_reducible refine wpQuiet_nil ?_
  intro _ hw'
  obtain ⟨p9, rfl⟩ := hw'
  have hp9 := p9.h
  generalize p9.w = w4 at *
  replace h := h.below hp9
  replace hx3 := hx3.below hp9
  replace hb := hb.trans (hp9.mono hb.size)
  clear fr dW dV hp9 heV hbx hzr
  have heR : ∀ W, (Op.equalIn 10000 24 (.agg (idVals R)) (.agg (idVals R))).run Try.prog W = .ok true W := fun W => (ids_eq W R R hrl hrl).trans (by rw [decide_eq_true rfl])
  have heS : ∀ W, (Op.equalIn 10000 24 (.agg (List.map u8v S).toArray) (.agg (idVals S))).run Try.prog W = .ok true W := fun W => (ids_eq W S S hSl hSl).trans (by rw [decide_eq_true rfl])
  go_upto_region 8 with (first
    | (go_at_call 15; (with_reducible refine (cI _ h).mono ?_); rintro e5 w5 ⟨rfl, hb5⟩))
  replace h := h.below hb5
  replace hx3 := hx3.below hb5
  replace hb := hb.trans (hb5.mono hb.size)
  clear hb5
  have fs := range_later hx3
  have dR : ∀ p : LaterW w5, Calls Try.prog 16 #[.slice A n c] p.w fun e w' => e = .returned (.agg (idVals R)) ∧ Below p.w.heap.size p.w w' := fun p => cR p.w (h.below p.h)
  have dT : ∀ p : LaterW w5, Calls Try.prog 17 #[.slice A n c] p.w fun e w' => e = .returned (.agg (idVals R)) ∧ Below p.w.heap.size p.w w' := fun p => cT p.w (h.below p.h)
  have dU : ∀ p : LaterW w5, Calls Try.prog 18 #[.slice A n c] p.w fun e w' => e = .returned (.agg (idVals S)) ∧ Below p.w.heap.size p.w w' := fun p => cU p.w (h.below p.h)
  have dA : ∀ p : LaterW w5, Calls Try.prog 11 #[] p.w fun e w' => e = .returned (.bool true) ∧ Below p.w.heap.size p.w w' := fun p => awake21_any p.w
  clear cR cT cU cI
  refine wp_region_later mixed (by kernel_rfl) ?_
  repeat (first
    | ((with_reducible refine wpQuiet_skip (by with_unfolding_all rfl) ?_); simp only [Act.put, List.setIfInBounds_toArray, List.set_cons_zero, List.set_cons_succ])
    | ((with_reducible refine wpQuiet_load_if (by with_unfolding_all rfl) 24 _ rfl _ _ rfl (S.map u8v) _ fs hu (by with_unfolding_all rfl) hzs ?_); simp only [Act.put, List.setIfInBounds_toArray, List.set_cons_zero, List.set_cons_succ])
    | ((with_reducible refine wpQuiet_step (fun K hK => ?_)); go_simp; first | ((with_reducible refine hK _ ?_); clear hK K) | (with_reducible apply Exists.intro; (with_reducible refine ⟨fun _ => ?_, hK _ ?_⟩); ((first | (go_at_call 16; exact later_of (dR _)) | (go_at_call 17; exact later_of (dT _)) | (go_at_call 18; exact later_of (dU _)) | (go_at_call 11; exact later_of (dA _)))); clear hK K)))
  with_reducible refine wpQuiet_nil ?_
  intro _ hw'
  obtain ⟨p9, rfl⟩ := hw'
  have hp9 := p9.h
  generalize p9.w = w6 at *
  replace hb := hb.trans (hp9.mono hb.size)
  clear fs dR dT dU dA hp9 heR heS
  go_wp2_with (fail)
  go_ret
  exact ⟨rfl, hb⟩
set_option maxRecDepth 100000 in
set_option maxHeartbeats 8000000 in
theorem ms_no (A : Option Addr) (n c : Nat) (v : Int) (hv : v < 9223372036854775808) (r : List UInt8) (hr : r.length = 32) (w : World) (l : List (List UInt8)) (hn : n ≤ 30) (h : RowC w A n c l) (hs : ¬ Steps l n) :
    Calls Try.prog 3 #[.slice A n c, .int .i64 v, .agg (idVals r)] w fun e w' => e = .returned (.bool true) ∧ Below w.heap.size w w' := by
  have mixed : Try.prog.follows .mixedOrders = true := by kernel_rfl
  have hu := Try.underlying24
  have z1 : ¬ (30 : Int) < n := by omega
  have hn0 : (n : Int) < 9223372036854775808 := by omega
  have cS : ∀ W, RowC W A n c l → Calls Try.prog 12 #[.slice A n c] W fun e w' => e = .returned (.tuple #[.agg (idVals zeroB), .int .i64 17]) ∧ Below W.heap.size W w' := fun W hW => msum_no A n c l W hW hs
  have cI : ∀ W, RowC W A n c l → Calls Try.prog 15 #[.slice A n c] W fun e w' => e = .returned (.bool false) ∧ Below W.heap.size W w' := fun W hW => (rrises_any A n c l W hW.1).mono (by
    rintro e w' ⟨v, rfl, ⟨t, rfl, ht⟩, hb⟩
    cases t
    · exact ⟨rfl, hb⟩
    · exact ⟨absurd (ht.1 rfl) hs, hb⟩)
  have cW : ∀ W, Calls Try.prog 13 #[.int .i64 v, .agg (List.map u8v r).toArray] W fun e w' => e = .returned (.agg (idVals (wholeM v r))) ∧ Below W.heap.size W w' := fun W => mwhole_any v hv r hr W
  have cV : ∀ W, Calls Try.prog 14 #[.int .i64 v, .agg (List.map u8v r).toArray] W fun e w' => e = .returned (.agg (idVals (wholeM v r))) ∧ Below W.heap.size W w' := fun W => rwhole_any v hv r hr W
  have hWl : (wholeM v r).length = 32 := tagB_length _ _
  have hSl : zeroB.length = 32 := by decide
  obtain ⟨S, hS⟩ : ∃ S, zeroB = S := ⟨_, rfl⟩
  rw [hS] at cS hSl
  generalize wholeM v r = V at *
  have hzr : (Try.prog.info? 24).map (·.size) = some (r.map u8v).length := by rw [List.length_map, hr]; exact sizeId
  have hzs : (Try.prog.info? 24).map (·.size) = some (S.map u8v).length := by rw [List.length_map, hSl]; exact sizeId
  have heV : ∀ W, (Op.equalIn 10000 24 (.agg (idVals V)) (.agg (idVals V))).run Try.prog W = .ok true W := fun W => (ids_eq W V V hWl hWl).trans (by rw [decide_eq_true rfl])
  go_enter Try.func3, Try.ntmps3
  go_upto_region 3 with (fail)
  have hb := (Below.refl w.heap.size w).alloc (Nat.le_refl _) (.cells (idVals r) 24)
  have hbx := range_blk (Blk.new w 24 (idVals r))
  replace h := h.below hb
  generalize w.alloc (.cells (idVals r) 24) = w1 at *
  go_upto_region 4 with (first
    | (go_at_call 12; (with_reducible refine (cS _ h).mono ?_); rintro e2 w2 ⟨rfl, hb2⟩; replace h := h.below hb2; replace hbx := hbx.below hb2; replace hb := hb.trans (hb2.mono hb.size))
    | ((with_reducible refine wpList_store_newid rfl _ _ rfl S hSl rfl rfl (by with_unfolding_all rfl) ?_); intro w3 hx3 hb3))
  replace h := h.below hb3
  replace hbx := hbx.below hb3
  replace hb := hb.trans (hb3.mono hb.size)
  generalize w2.heap.size = gS at *
  have fr := range_later hbx
  have dW : ∀ p : LaterW w3, Calls Try.prog 13 #[.int .i64 v, .agg (List.map u8v r).toArray] p.w fun e w' => e = .returned (.agg (idVals V)) ∧ Below p.w.heap.size p.w w' := fun p => cW p.w
  have dV : ∀ p : LaterW w3, Calls Try.prog 14 #[.int .i64 v, .agg (List.map u8v r).toArray] p.w fun e w' => e = .returned (.agg (idVals V)) ∧ Below p.w.heap.size p.w w' := fun p => cV p.w
  clear hb2 hb3 cS cW cV
  refine wp_region_later mixed (by kernel_rfl) ?_
  repeat (first
    | ((with_reducible refine wpQuiet_skip (by with_unfolding_all rfl) ?_); simp only [Act.put, List.setIfInBounds_toArray, List.set_cons_zero, List.set_cons_succ])
    | ((with_reducible refine wpQuiet_load_if (by with_unfolding_all rfl) 24 _ rfl _ _ rfl (r.map u8v) _ fr hu (by with_unfolding_all rfl) hzr ?_); simp only [Act.put, List.setIfInBounds_toArray, List.set_cons_zero, List.set_cons_succ])
    | ((with_reducible refine wpQuiet_step (fun K hK => ?_)); go_simp; first | ((with_reducible refine hK _ ?_); clear hK K) | (with_reducible apply Exists.intro; (with_reducible refine ⟨fun _ => ?_, hK _ ?_⟩); ((first | (go_at_call 13; exact later_of (dW _)) | (go_at_call 14; exact later_of (dV _)))); clear hK K)))
  with_reducible refine wpQuiet_nil ?_
  intro _ hw'
  obtain ⟨p9, rfl⟩ := hw'
  have hp9 := p9.h
  generalize p9.w = w4 at *
  replace h := h.below hp9
  replace hx3 := hx3.below hp9
  replace hb := hb.trans (hp9.mono hb.size)
  clear fr dW dV hp9 heV hbx hzr
  have bz : ∀ W, (Instr.build 24 #[]).run Try.prog W = .ok (.agg (idVals S)) W := fun W => by rw [← hS]; kernel_rfl
  have heS : ∀ W, (Op.equalIn 10000 24 (.agg (List.map u8v S).toArray) (.agg (idVals S))).run Try.prog W = .ok true W := fun W => (ids_eq W S S hSl hSl).trans (by rw [decide_eq_true rfl])
  clear hS
  go_wp2_with (first
    | (go_at_call 15; (with_reducible refine (cI _ h).mono ?_); rintro e5 w5 ⟨rfl, hb5⟩; replace hx3 := hx3.below hb5; replace hb := hb.trans (hb5.mono hb.size))
    | (with_reducible refine wpList_load_if (by with_unfolding_all rfl) 24 _ rfl _ _ rfl (S.map u8v) _ hx3 hu (by with_unfolding_all rfl) hzs ?_)
    | (with_reducible refine wpList_build_byM rfl _ _ rfl _ _ bz (by with_unfolding_all rfl) ?_)
    | (go_at_call 11; (with_reducible refine (awake21_any _).mono ?_); rintro e6 w6 ⟨rfl, hb6⟩))
  go_ret
  exact ⟨rfl, hb.trans (hb6.mono hb.size)⟩
theorem open_capM {H : Type} {enc : TypeId × Value → H} {P : Program} {w : World} {base : Nat} {sp : Nat → Bool} {hd : Bool} {t e : TypeId} {a : Option Addr} {len cap : Nat} {d : DataW H} {ps : List MemPlace} (ht : P.underlying t = some (.slice e))
    (h : DataW.Trod enc P w base sp hd t (.slice a len cap) d ps) : (a = none ∧ len = 0 ∧ cap = 0) ∨ ((∃ x, a = some x) ∧ len ≤ cap ∧ cap ≤ maxLen) := by
  obtain ⟨fuel, hf⟩ := h
  cases fuel with
  | zero => simp [DataW.trod] at hf
  | succ m =>
    rw [DataW.trod_step] at hf
    unfold DataW.trodStep at hf
    simp only [ht, Value.cells] at hf
    cases a with
    | none =>
      left
      rcases len with _ | len <;> rcases cap with _ | cap <;> first | exact ⟨rfl, rfl, rfl⟩ | (simp at hf)
    | some a =>
      right
      dsimp only at hf
      split at hf
      · rename_i hcond
        exact ⟨⟨a, rfl⟩, hcond.2.1, hcond.2.2⟩
      · cases hf
theorem law_MerkleSums (w : World) (a0 : Option Addr) (l0 c0 : Nat) (z0 : List (List UInt8)) (w0 : IdRow w a0 l0 z0) (a1 : Int) (w1 : (Lit.int .i64 a1).wf = true) (a2 : List UInt8) (w2 : a2.length = 32) (x0 : (a0 = none ∧ l0 = 0 ∧ c0 = 0) ∨ ((∃ x, a0 = some x) ∧ l0 ≤ c0 ∧ c0 ≤ maxLen)) :
    Calls Try.prog 3 #[.slice a0 l0 c0, .int .i64 a1, .agg (idVals a2)] w fun e w' => e = .returned (.bool true) ∧ Below w.heap.size w w' := by
  have hv : a1 < 9223372036854775808 := by have := (wf_i64Z w1).2; omega
  by_cases h : 30 < l0
  · exact ms_far a0 l0 c0 a1 hv a2 w2 w h
  · have hr : RowC w a0 l0 c0 z0 := ⟨⟨w0.1, by omega, w0.2.2⟩, x0⟩
    by_cases hs : Steps z0 l0
    · exact ms_yes a0 l0 c0 a1 hv a2 w2 w z0 (by omega) hr hs
    · exact ms_no a0 l0 c0 a1 hv a2 w2 w z0 (by omega) hr hs
open Go.ChangeShapes Go.WideShapes Go.ChangeAt
open Go.ChangeMaps (open_string shut_string)
theorem own_MerkleSums : ownKnob Try.prog.godebug = none := by kernel_rfl
theorem laidOut_MerkleSums : laidOutB Try.prog = true := by kernel_rfl
set_option linter.unusedVariables false in
set_option maxRecDepth 100000 in
theorem lifted_MerkleSums (os : Os) (started : os.Started) (H : Type) (enc : TypeId × Value → H) :
    ReturnsInHanded {} Try.checked os 3 .any (Rows.merkleSumsSpec.pre6 enc Try.prog Try.f3 Rows.merkleSumsRow.domain false) (Rows.merkleSumsSpec.post enc Try.prog Try.f3 false true false false) := by
  refine returnsInHanded_of_change (C := Try.checked) own_MerkleSums started (by kernel_rfl) Try.func3
    (ChangeSpec.witness6 (enc := enc) (C := Try.checked) false ⟨#[], #[.slice none 0 0, .int .i64 0, .agg #[.int .u8 0, .int .u8 0, .int .u8 0, .int .u8 0, .int .u8 0, .int .u8 0, .int .u8 0, .int .u8 0, .int .u8 0, .int .u8 0, .int .u8 0, .int .u8 0, .int .u8 0, .int .u8 0, .int .u8 0, .int .u8 0, .int .u8 0, .int .u8 0, .int .u8 0, .int .u8 0, .int .u8 0, .int .u8 0, .int .u8 0, .int .u8 0, .int .u8 0, .int .u8 0, .int .u8 0, .int .u8 0, .int .u8 0, .int .u8 0, .int .u8 0, .int .u8 0]], []⟩ 8 (by kernel_rfl) (by kernel_rfl) (by kernel_rfl) (by kernel_rfl)) ?_
  intro W base args ds gs before hval0 hW hcnd _
  have hval : ∀ (j : Nat) t v, Try.f3.params[j]? = some t → args[j]? = some v → Value.okWide Try.prog W .any base t v := hval0
  have hW' := hW
  obtain ⟨p, q, hA0, hV, rfl, hfz, hnd⟩ := hW
  have hA1 : DataW.TrodAll enc Try.prog W 0 (fun _ => true) true Try.f3.params.toList args.toList ds p := hA0
  have hA : DataW.TrodAll enc Try.prog W 0 (fun _ => true) true Try.f3.params.toList args.toList ds p := hA0
  rw [Try.params3] at hA hval
  obtain ⟨v0, vs0, d0, ds0, p0, q0, hargs, rfl, rfl, h0, r0⟩ := trodAll_cons hA
  obtain ⟨v1, vs1, d1, ds1, p1, q1, rfl, rfl, rfl, h1, r1⟩ := trodAll_cons r0
  obtain ⟨v2, vs2, d2, ds2, p2, q2, rfl, rfl, rfl, h2, r2⟩ := trodAll_cons r1
  obtain ⟨rfl, rfl, rfl⟩ := trodAll_nil r2
  obtain rfl : args = #[v0, v1, v2] := by cases args; simp_all
  obtain ⟨rfl, rfl⟩ := trodVars_none hV
  obtain ⟨a0, l0, c0, z0, rfl, w0⟩ := open_idRow Try.underlying22 Try.underlying24 Try.underlying5 (by kernel_rfl) (by kernel_rfl) (hval 0 22 v0 rfl rfl) h0
  obtain ⟨a1, rfl, rfl, rfl, w1⟩ := open_int Try.underlying3 (hval 1 3 v1 rfl rfl) h1
  obtain ⟨a2, w2, rfl⟩ := open_id Try.underlying24 Try.underlying5 (by kernel_rfl) (by kernel_rfl) (hval 2 24 v2 rfl rfl) h2
  have x0 := open_capM Try.underlying22 h0
  clear hA0 hval0
  refine (law_MerkleSums W a0 l0 c0 z0 w0 a1 w1 a2 w2 x0).mono fun e W' ⟨he, bel⟩ => ?_
  subst he
  exact ⟨_, rfl, _, _, _, [], _, [], hW', trodAll_mk1 (shut_bool Try.underlying4 _), trodAll_stays laidOut_MerkleSums bel (by kernel_rfl) hA1, rfl, bel.frame _, fun h => by cases h⟩

/-- The statement. -/
theorem MerkleSums_holds : Rows.MerkleSumsSaid :=
  OpenClaim.holds_of_wide 3 Try.f3 rfl rfl rfl rfl rfl rfl rfl ⟨rfl, rfl, rfl, rfl, rfl⟩ rfl rfl rfl rfl rfl (by kernel_rfl) Try.func3 (by kernel_rfl)
    (of_decide_eq_true (by kernel_rfl)) (by unfold Func.isWrapper; first | (rw [if_pos (by decide +kernel)]; kernel_rfl) | (rw [if_neg (by decide +kernel)]; exact ⟨rfl, rfl⟩))
    (fun os started H enc _ => lifted_MerkleSums os started H enc)
#print axioms MerkleSums_holds
end Go.Proofs.Ytkajfpincbkfhaa

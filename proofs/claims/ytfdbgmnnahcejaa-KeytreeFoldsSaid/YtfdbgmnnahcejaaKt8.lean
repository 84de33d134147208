
/- KeytreeFolds: rows whose count is a power of 2. -/
import Derived.Test.YtfdbgmnnahcejaaKt6
import Derived.Test.YtfdbgmnnahcejaaKt7
namespace Go.Proofs.Ytfdbgmnnahcejaa
open Go.RowKit Go.Qc
open Go.ChangeShapes Go.WideShapes Go.ChangeAt
attribute [local go_sem] txt_size

/-- What a row that came in can hold. -/
theorem open_cap {H : Type} {enc : TypeId × Value → H} {P : Program} {w : World} {base : Nat} {sp : Nat → Bool} {hd : Bool} {t e : TypeId} {a : Option Addr} {len cap : Nat} {d : DataW H} {ps : List MemPlace} (ht : P.underlying t = some (.slice e))
    (h : DataW.Trod enc P w base sp hd t (.slice a len cap) d ps) : a = none ∨ (len ≤ cap ∧ cap ≤ maxLen) := by
  obtain ⟨fuel, hf⟩ := h
  cases fuel with
  | zero => simp [DataW.trod] at hf
  | succ m =>
    rw [DataW.trod_step] at hf
    unfold DataW.trodStep at hf
    simp only [ht, Value.cells] at hf
    cases a with
    | none => exact .inl rfl
    | some a =>
      right
      dsimp only at hf
      split at hf
      · rename_i hcond
        exact ⟨hcond.2.1, hcond.2.2⟩
      · cases hf
theorem row_cap {w : World} {A : Option Addr} {n c : Nat} {l : List (List UInt8)} (h : IdRow w A n l) (hc : A = none ∨ (n ≤ c ∧ c ≤ maxLen)) (h0 : 0 < n) (hm : n ≤ 1000000) : RowAt w A n c l := by
  obtain ⟨h1, _, h3⟩ := h
  rcases hc with rfl | ⟨h4, h5⟩
  · rcases h3.2 with rfl | ⟨g, o, h, _⟩
    · simp at h1; omega
    · cases h
  · exact ⟨h1, h4, h5, hm, h3⟩
theorem two_pow_bound {n i : Nat} (h : i = 0 ∨ 2 ^ (i - 1) < n) (hn : n ≤ 40) : 2 ^ i ≤ 80 := by
  rcases h with rfl | h
  · decide
  · cases i with
    | zero => decide
    | succ i => rw [Nat.pow_succ]; rw [Nat.add_sub_cancel] at h; omega
theorem pow_step {n i : Nat} (h : 2 ^ i < n) : i + 1 = 0 ∨ 2 ^ (i + 1 - 1) < n := .inr (by rw [Nat.add_sub_cancel]; exact h)
theorem pow_found {k i : Nat} (h : i = 0 ∨ 2 ^ (i - 1) < 2 ^ k) (hi : ¬ 2 ^ i < 2 ^ k) : i = k := by
  have h1 : k ≤ i := by
    by_cases h1 : k ≤ i
    · exact h1
    · exact absurd (Nat.pow_lt_pow_right (by decide) (by omega)) hi
  rcases h with rfl | h
  · omega
  · by_cases h2 : i = k
    · exact h2
    · exact absurd (Nat.pow_le_pow_right (n := 2) (by decide) (show k ≤ i - 1 by omega)) (by omega)
set_option maxRecDepth 100000 in
set_option maxHeartbeats 40000000 in
theorem folds_pow (A B : Option Addr) (n c m d : Nat) (l way : List (List UInt8)) (lf : Int) (hlf : lf ≤ 9223372036854775807) (s : List UInt8) (hs : s.length = 32) (w : World) (k : Nat) (hk : k ≤ 5) (hn : n = 2 ^ k) (hA : RowAt w A n c l) (hB : RowR w B m way) (hm : m ≤ 20) :
    Calls Try.prog 7 #[.slice A n c, .int .i64 lf, .agg (idVals s), .slice B m d] w fun e w' => e = .returned (.bool true) ∧ Below w.heap.size w w' := by
  have hu := Try.underlying24
  have mixed : Try.prog.follows .mixedOrders = true := by kernel_rfl
  have hP32 : 2 ^ k ≤ 32 := by
    obtain rfl | rfl | rfl | rfl | rfl | rfl : k = 0 ∨ k = 1 ∨ k = 2 ∨ k = 3 ∨ k = 4 ∨ k = 5 := by omega
    all_goals decide
  have hP1 : 1 ≤ 2 ^ k := Nat.one_le_two_pow
  have hf := getB_length hA.2.2.2.2.1
  have hl0 : upTo (ndB (getB l) 0) (2 ^ (k - 0)) = l := by rw [Nat.sub_zero, ← hn, ← hA.1]; exact upTo_getB l
  obtain ⟨T, hT⟩ : ∃ T, T = climbB lf.toNat s way := ⟨_, rfl⟩
  have lT : T.length = 32 := by rw [hT]; exact climbB_length _ _ _ hs
  obtain ⟨R, hR⟩ : ∃ R, R = ndB (getB l) k 0 := ⟨_, rfl⟩
  have lR : R.length = 32 := by rw [hR]; exact ndB_length _ hf _ _
  have hI : (w.alloc (.cells (idVals s) 24)).rangeAt w.heap.size 0 (s.map u8v) := range_blk (Blk.new w 24 (idVals s))
  have hB0 : Below w.heap.size w (w.alloc (.cells (idVals s) 24)) := (Below.refl _ _).alloc (Nat.le_refl _) _
  have hA0 := hA.below hB0
  have hBw0 := hB.below hB0
  have cF := fold_any A c l k hk
  rw [← hR, ← hn] at cF
  have cG : ∀ W, RowAt W A n c l → Calls Try.prog 64 #[.slice A n c] W fun e w' => e = .returned (.agg (idVals R)) ∧ Below W.heap.size W w' := fun W h => by rw [hR]; exact rfold_any k A n c l W hn h
  have cC : ∀ W, RowR W B m way → Calls Try.prog 59 #[.int .i64 lf, .agg (List.map u8v s).toArray, .slice B m d] W fun e w' => e = .returned (.agg (idVals T)) ∧ Below W.heap.size W w' := fun W h => by rw [hT]; exact climb_any lf hlf s hs B m d way W h
  have cD : ∀ W, RowR W B m way → Calls Try.prog 63 #[.int .i64 lf, .agg (List.map u8v s).toArray, .slice B m d] W fun e w' => e = .returned (.agg (idVals T)) ∧ Below W.heap.size W w' := fun W h => by rw [hT]; exact rclimb_any lf hlf s hs B m d way W h
  have l1 : ¬ (40 : Int) < n := by omega
  have l2 : ¬ (20 : Int) < m := by omega
  have hzs : (Try.prog.info? 24).map (·.size) = some (s.map u8v).length := by rw [List.length_map, hs]; exact sizeId
  have hzR : (Try.prog.info? 24).map (·.size) = some (R.map u8v).length := by rw [List.length_map, lR]; exact sizeId
  have hrr : getB l = getB l := rfl
  generalize getB l = f at hf hl0 hR cF hrr
  have HR := hid hR
  have HT := hid lT
  have HLR := hid lR
  have HN := hid hn
  have HL0 := hid hl0
  clear hR hT lT lR hn hl0 hrr hA hB
  go_enter Try.func7, Try.ntmps7
  go_wp2_with (first
    | (go_at_call 62; (with_reducible refine (cF _ hA0.r).mono ?_); rintro e1 w1 ⟨v1, vs, rfl, hv1, hf1, hb1⟩; obtain ⟨gr, cr, rfl, hrows⟩ := RowsF.of hk hf hv1 hf1; clear hv1 hf1)
    | ((with_reducible refine wpList_store_newid rfl _ _ rfl R HLR.out rfl rfl (by with_unfolding_all rfl) ?_); intro w2 hx2 hb2))
  have hBx : Below w.heap.size w w2 := hB0.trans ((hb1.mono hB0.size).trans (hb2.mono (Nat.le_trans hB0.size hb1.size)))
  have hA2 := (hA0.below hb1).below hb2
  have hB2 := (hBw0.below hb1).below hb2
  have hI2 := (hI.below hb1).below hb2
  have hr2 := hrows.below hb2
  have fI := range_later hI2
  have hcl : ∀ p : LaterW w2, Calls Try.prog 59 #[.int .i64 lf, .agg (List.map u8v s).toArray, .slice B m d] p.w fun e w' => e = .returned (.agg (idVals T)) ∧ Below p.w.heap.size p.w w' := fun p => cC p.w (hB2.below p.h)
  have hcd : ∀ p : LaterW w2, Calls Try.prog 63 #[.int .i64 lf, .agg (List.map u8v s).toArray, .slice B m d] p.w fun e w' => e = .returned (.agg (idVals T)) ∧ Below p.w.heap.size p.w w' := fun p => cD p.w (hB2.below p.h)
  have heqT : ∀ W, (Op.equalIn 10000 24 (.agg (idVals T)) (.agg (idVals T))).run Try.prog W = .ok true W := fun W => (ids_eq W T T HT.out HT.out).trans (by rw [decide_eq_true rfl])
  generalize w1.heap.size = gR at *
  clear cF cC cD hb1 hb2 hrows hI hB0 hA0 hBw0 hlf hs hm
  refine wp_region_later mixed (by kernel_rfl) ?_
  repeat (first
    | ((with_reducible refine wpQuiet_skip (by with_unfolding_all rfl) ?_); simp only [Act.put, List.setIfInBounds_toArray, List.set_cons_zero, List.set_cons_succ])
    | ((with_reducible refine wpQuiet_load_if (by with_unfolding_all rfl) 24 _ rfl _ _ rfl (s.map u8v) _ fI hu (by with_unfolding_all rfl) hzs ?_); simp only [Act.put, List.setIfInBounds_toArray, List.set_cons_zero, List.set_cons_succ])
    | ((with_reducible refine wpQuiet_step (fun K hK => ?_)); go_simp; first | ((with_reducible refine hK _ ?_); clear hK K) | (with_reducible apply Exists.intro; (with_reducible refine ⟨fun _ => ?_, hK _ ?_⟩); ((first | (go_at_call 59; exact later_of (hcl _)) | (go_at_call 63; exact later_of (hcd _)))); clear hK K)))
  with_reducible refine wpQuiet_nil ?_
  intro _ hw'
  obtain ⟨p, rfl⟩ := hw'
  have hp := p.h
  generalize p.w = w3 at *
  replace hBx := hBx.trans (hp.mono hBx.size)
  replace hA2 := hA2.below hp
  replace hr2 := hr2.below hp
  replace hx2 := hx2.below hp
  clear fI hcl hcd heqT hI2 hB2 hp hzs
  go_wp2
  go_loopw [11] (fun v wr => ∃ i, (i = 0 ∨ 2 ^ (i - 1) < n) ∧ v = .int .i64 (2 ^ i : Nat) ∧ wr = w3) (fun v _ => 41 - (intOf v).toNat)
  case atStart => exact ⟨0, .inl rfl, rfl, rfl⟩
  case round =>
    obtain ⟨i, hi, rfl, rfl⟩ := hrel
    have hi80 := two_pow_bound hi (by have := HN.out; omega)
    have hi1 : 1 ≤ 2 ^ i := Nat.one_le_two_pow
    by_cases hlt : 2 ^ i < n
    · have HS := hid (pow_step hlt)
      have HD := hid (Nat.pow_succ (n := 2) (m := i))
      generalize 2 ^ i = q at *
      have b1 : (q : Int) < n := by omega
      go_wp2
      go_roundw
      case rel => exact ⟨i + 1, HS.out, by rw [HD.out]; go_num, trivial⟩
      case measure => simp [intOf]; omega
    · have hik : i = k := by
        have e := HN.out
        rw [e] at hi hlt
        exact pow_found hi hlt
      subst hik
      rw [← HN.out] at hlt hi80 hi1 ⊢
      have b1 : ¬ (n : Int) < n := by omega
      have z0 : ((n : Int) == 0) = false := by simp; omega
      clear hi hlt hi80 l1 l2
      obtain ⟨A0, c0, hcell0, hrow0⟩ := hr2 0 (by omega)
      rw [HL0.out, Nat.sub_zero, ← HN.out] at hrow0
      rw [Nat.sub_zero, ← HN.out] at hcell0
      have fR := range_later hx2
      have hcg : ∀ p : LaterW wr, Calls Try.prog 64 #[.slice A n c] p.w fun e w' => e = .returned (.agg (idVals R)) ∧ Below p.w.heap.size p.w w' := fun p => cG p.w (hA2.below p.h)
      have hcs : ∀ p : LaterW wr, Calls Try.prog 14 #[.slice A0 n c0, .slice A n c] p.w fun e w' => e = .returned (.bool true) ∧ Below p.w.heap.size p.w w' := fun p => by
        have := rsame_any A0 A n c0 n c l l p.w (hrow0.below p.h) (hA2.r.below p.h)
        rw [decide_eq_true rfl] at this
        exact this
      have hk0 : ∀ p : LaterW wr, p.w.cell? ⟨gr, 0, none⟩ = some (.slice A0 n c0) := fun p => Below.keep p.h hcell0
      have heqR : ∀ W, (Op.equalIn 10000 24 (.agg (List.map u8v R).toArray) (.agg (idVals R))).run Try.prog W = .ok true W := fun W => (ids_eq W R R HLR.out HLR.out).trans (by rw [decide_eq_true rfl])
      have zr : (((i + 1 : Nat) : Int) == 0) = false := by simp; omega
      have zr2 : ((i : Int) + 1 == 0) = false := by simp; omega
      have b0 : (0 : Int) < (i : Int) + 1 := by omega
      go_wp2
      refine wp_region_later mixed (by kernel_rfl) ?_
      repeat (first
        | ((with_reducible refine wpQuiet_skip (by with_unfolding_all rfl) ?_); simp only [Act.put, List.setIfInBounds_toArray, List.set_cons_zero, List.set_cons_succ])
        | ((with_reducible refine wpQuiet_load_if (by with_unfolding_all rfl) 24 _ rfl _ _ rfl (R.map u8v) _ fR hu (by with_unfolding_all rfl) hzR ?_); simp only [Act.put, List.setIfInBounds_toArray, List.set_cons_zero, List.set_cons_succ])
        | ((with_reducible refine wpQuiet_step (fun K hK => ?_)); go_simp; first | ((with_reducible refine hK _ ?_); clear hK K) | (with_reducible apply Exists.intro; (with_reducible refine ⟨fun _ => ?_, hK _ ?_⟩); ((first | (go_at_call 64; exact later_of (hcg _)) | (go_at_call 14; exact later_of (hcs _)))); clear hK K)))
      with_reducible refine wpQuiet_nil ?_
      intro _ hw'
      obtain ⟨p, rfl⟩ := hw'
      have hp := p.h
      generalize p.w = w4 at *
      replace hBx := hBx.trans (hp.mono hBx.size)
      replace hr2 := hr2.below hp
      replace hx2 := hx2.below hp
      clear fR hcg hcs hk0 hcell0 hrow0 heqR hp hA2 cG
      go_wp2
      go_loopw [11, 83] (fun v idx wr => ∃ j : Nat, j ≤ i + 1 ∧ idx = .int .i64 j ∧ v = .int .i64 (2 ^ i / 2 ^ j : Nat) ∧ Below w4.heap.size w4 wr) (fun _ idx _ => i + 1 - (intOf idx).toNat)
      case atStart => exact ⟨0, by omega, rfl, by rw [Nat.pow_zero, Nat.div_one, HN.out], Below.refl _ _⟩
      case round =>
        obtain ⟨j, hj, rfl, rfl, hb⟩ := hrel
        by_cases hlt : j < i + 1
        · obtain ⟨Aj, cj, hcell, hrow⟩ := (hr2.below hb) j (by omega)
          have hP : 2 ^ i / 2 ^ j = 2 ^ (i - j) := Nat.pow_div (by omega) (by decide)
          have hD := div_pow_succ (2 ^ i) j
          have hPle : 2 ^ (i - j) ≤ 32 := Nat.le_trans (Nat.pow_le_pow_right (by decide) (by omega)) hP32
          have hP1' : 1 ≤ 2 ^ (i - j) := Nat.one_le_two_pow
          have hPone : 2 ^ (i - j) = 1 → i = j := fun h => by
            by_cases hij : i = j
            · exact hij
            · have : 2 ^ 1 ≤ 2 ^ (i - j) := Nat.pow_le_pow_right (by decide) (by omega)
              omega
          have hPprev : ∀ j', j = j' + 1 → 2 ^ (i - j') = 2 * 2 ^ (i - j) := fun j' e => by subst e; exact pow_half (by omega)
          rw [hP] at hD ⊢
          obtain ⟨P, hPP⟩ : ∃ P, P = 2 ^ (i - j) := ⟨_, rfl⟩
          rw [← hPP] at hD hcell hrow hPle hP1' hPone hPprev ⊢
          have hbx : Below w.heap.size w wr := hBx.trans (hb.mono hBx.size)
          have hx3 := hx2.below hb
          have hrr := hr2.below hb
          have HD := hid hD
          have b1 : (j : Int) < (i : Int) + 1 := by omega
          have zPP : ((P : Int) != (P : Int)) = false := by simp
          have hq : ((P : Int)).tdiv 2 = ((P / 2 : Nat) : Int) := (half_facts P).1
          clear hP hD hPP z0 zr zr2 b0
          by_cases hP1e : P = 1
          · have hij : i = j := hPone hP1e
            obtain ⟨g0, q0, hg0, l0, hi0⟩ := hrow.2.2.pick cj hrow.1 (upTo_get (ndB f j) P 0 (by omega))
            rw [← hij, ← HR.out] at hg0 l0
            rw [show ((0 : Nat) : Int) = 0 from rfl] at hi0
            have fg := range_later hg0
            have fR := range_later hx3
            have heqR : ∀ W, (Op.equalIn 10000 24 (.agg (List.map u8v R).toArray) (.agg (List.map u8v R).toArray)).run Try.prog W = .ok true W := fun W => (ids_eq W R R l0 l0).trans (by rw [decide_eq_true rfl])
            have zi : ((j : Int) != (i : Int)) = false := by simp; omega
            have hwi : IntKind.i64.wrap (i : Int) = i := by rw [IntKind.wrap_i64]; omega
            have zP : ((P : Int) == 1) = true := by simp; omega
            have HP1 := hid hP1e
            clear hij hP1e hPone l0
            go_wp2
            refine wp_region_later mixed (by kernel_rfl) ?_
            repeat (first
              | ((with_reducible refine wpQuiet_skip (by with_unfolding_all rfl) ?_); simp only [Act.put, List.setIfInBounds_toArray, List.set_cons_zero, List.set_cons_succ])
              | ((with_reducible refine wpQuiet_load_if (by with_unfolding_all rfl) 24 _ rfl _ _ rfl (R.map u8v) _ fg hu (by with_unfolding_all rfl) hzR ?_); simp only [Act.put, List.setIfInBounds_toArray, List.set_cons_zero, List.set_cons_succ])
              | ((with_reducible refine wpQuiet_load_if (by with_unfolding_all rfl) 24 _ rfl _ _ rfl (R.map u8v) _ fR hu (by with_unfolding_all rfl) hzR ?_); simp only [Act.put, List.setIfInBounds_toArray, List.set_cons_zero, List.set_cons_succ])
              | ((with_reducible refine wpQuiet_step (fun K hK => ?_)); go_simp; first | ((with_reducible refine hK _ ?_); clear hK K) | (with_reducible apply Exists.intro; (with_reducible refine ⟨fun _ => ?_, hK _ ?_⟩); (fail); clear hK K)))
            with_reducible refine wpQuiet_nil ?_
            intro _ hw'
            obtain ⟨p, rfl⟩ := hw'
            have hp := p.h
            generalize p.w = w5 at *
            have hb5 := hp
            have hrow5 := hrow.below hp
            have hr5 := hrr.below hp
            clear fg fR heqR hi0 hg0 hp hcell
            by_cases hj0 : j = 0
            · have zj : ¬ ((0 : Int) < (j : Int)) := by omega
              have zjn : ¬ (0 < j) := by omega
              have zjd : decide (0 < j) = false := decide_eq_false zjn
              have HJ := hid hj0
              clear hj0 hPprev
              go_wp2
              go_loopw [112] (fun idx wr2 => ∃ q : Nat, q ≤ P ∧ idx = .int .i64 q ∧ Below w5.heap.size w5 wr2) (fun idx _ => P - (intOf idx).toNat)
              case atStart => exact ⟨0, by omega, rfl, Below.refl _ _⟩
              case round =>
                obtain ⟨q, hq0, rfl, hb6⟩ := hrel
                by_cases hql : q < P
                · have b2 : (q : Int) < P := by omega
                  go_wp2
                  refine wp_region_later mixed (by kernel_rfl) ?_
                  repeat (first
                    | ((with_reducible refine wpQuiet_skip (by with_unfolding_all rfl) ?_); simp only [Act.put, List.setIfInBounds_toArray, List.set_cons_zero, List.set_cons_succ])
                    | ((with_reducible refine wpQuiet_step (fun K hK => ?_)); go_simp; first | ((with_reducible refine hK _ ?_); clear hK K) | (with_reducible apply Exists.intro; (with_reducible refine ⟨fun _ => ?_, hK _ ?_⟩); (fail); clear hK K)))
                  with_reducible refine wpQuiet_nil ?_
                  intro _ hw'
                  obtain ⟨p, rfl⟩ := hw'
                  have hp := p.h
                  generalize p.w = w7 at *
                  go_wp2
                  go_roundw
                  case rel => exact ⟨q + 1, by omega, by go_num, hb6.trans (hp.mono hb6.size)⟩
                  case measure => simp [intOf]; omega
                · obtain rfl : q = P := by omega
                  have b2 : ¬ ((q : Int) < q) := by omega
                  go_wp2
                  go_roundw
                  case rel => exact ⟨j + 1, by omega, by go_num, (by rw [← HD.out]; try (first | rfl | simp)), (hb.trans (hb5.mono hb.size)).trans (hb6.mono (Nat.le_trans hb.size hb5.size))⟩
                  case measure => simp [intOf]; omega
            · obtain ⟨j', hj'⟩ : ∃ j', j = j' + 1 := ⟨j - 1, by omega⟩
              have zj : (0 : Int) < (j : Int) := by omega
              have zjn : 0 < j := by omega
              have zjd : decide (0 < j) = true := decide_eq_true zjn
              have hsub : (j : Int) - 1 = (j' : Int) := by omega
              have b4 : (j' : Int) < (i : Int) + 1 := by omega
              have hwj : IntKind.i64.wrap (j' : Int) = j' := by rw [IntKind.wrap_i64]; omega
              have HJ := hid hj'
              clear hj0 hj'
              go_wp2
              go_loopw [112] (fun idx wr2 => ∃ q : Nat, q ≤ P ∧ idx = .int .i64 q ∧ Below w5.heap.size w5 wr2) (fun idx _ => P - (intOf idx).toNat)
              case atStart => exact ⟨0, by omega, rfl, Below.refl _ _⟩
              case round =>
                obtain ⟨q, hq0, rfl, hb6⟩ := hrel
                by_cases hql : q < P
                · have b2 : (q : Int) < P := by omega
                  have hr6 := hr5.below hb6
                  obtain ⟨Ap, cp, hcellp, hrowp⟩ := hr6 j' (by have := HJ.out; omega)
                  rw [hPprev j' HJ.out] at hcellp hrowp
                  have hrow6 := hrow5.below hb6
                  obtain ⟨gx, qx, hgx, lx, hix⟩ := hrow6.2.2.pick cj hrow6.1 (upTo_get (ndB f j) P q hql)
                  obtain ⟨gy, qy, hgy, ly, hiy⟩ := hrowp.2.2.pick cp hrowp.1 (upTo_get (ndB f j') (2 * P) (2 * q) (by omega))
                  obtain ⟨gz, qz, hgz, lz, hiz⟩ := hrowp.2.2.pick cp hrowp.1 (upTo_get (ndB f j') (2 * P) (2 * q + 1) (by omega))
                  rw [show ((2 * q : Nat) : Int) = 2 * (q : Int) by omega] at hiy
                  rw [show ((2 * q + 1 : Nat) : Int) = 2 * (q : Int) + 1 by omega] at hiz
                  have hXe : ndB f j q = nodeB (ndB f j' (2 * q)) (ndB f j' (2 * q + 1)) := by rw [HJ.out]; rfl
                  generalize ndB f j q = X at *
                  generalize ndB f j' (2 * q) = Y at *
                  generalize ndB f j' (2 * q + 1) = Z at *
                  have cP : ∀ p : LaterW wr, Calls Try.prog 65 #[.string ⟨#[110, 111, 100, 101]⟩, .agg (List.map u8v Y).toArray, .agg (List.map u8v Z).toArray] p.w fun e w' => e = .returned (.agg (idVals X)) ∧ Below p.w.heap.size p.w w' := fun p => by
                    rw [hXe]
                    exact rpair_any nodeN (by decide) Y Z ly lz p.w
                  have heqX : ∀ W, (Op.equalIn 10000 24 (.agg (List.map u8v X).toArray) (.agg (idVals X))).run Try.prog W = .ok true W := fun W => (ids_eq W X X lx lx).trans (by rw [decide_eq_true rfl])
                  have fx := range_later hgx
                  have fy := range_later hgy
                  have fz := range_later hgz
                  have hkp : ∀ p : LaterW wr, p.w.cell? ⟨gr, j', none⟩ = some (.slice Ap (2 * P) cp) := fun p => Below.keep p.h hcellp
                  have hzX : (Try.prog.info? 24).map (·.size) = some (X.map u8v).length := by rw [List.length_map, lx]; exact sizeId
                  have hzY : (Try.prog.info? 24).map (·.size) = some (Y.map u8v).length := by rw [List.length_map, ly]; exact sizeId
                  have hzZ : (Try.prog.info? 24).map (·.size) = some (Z.map u8v).length := by rw [List.length_map, lz]; exact sizeId
                  have hw1 : IntKind.i64.wrap (2 * (q : Int)) = 2 * (q : Int) := by rw [IntKind.wrap_i64]; omega
                  have hw2 : IntKind.i64.wrap (2 * (q : Int) + 1) = 2 * (q : Int) + 1 := by rw [IntKind.wrap_i64]; omega
                  clear hXe lx ly lz hgx hgy hgz hcellp hrowp hrow6 hr6
                  go_wp2
                  refine wp_region_later mixed (by kernel_rfl) ?_
                  repeat (first
                    | ((with_reducible refine wpQuiet_skip (by with_unfolding_all rfl) ?_); simp only [Act.put, List.setIfInBounds_toArray, List.set_cons_zero, List.set_cons_succ])
                    | ((with_reducible refine wpQuiet_load_if (by with_unfolding_all rfl) 24 _ rfl _ _ rfl (X.map u8v) _ fx hu (by with_unfolding_all rfl) hzX ?_); simp only [Act.put, List.setIfInBounds_toArray, List.set_cons_zero, List.set_cons_succ])
                    | ((with_reducible refine wpQuiet_load_if (by with_unfolding_all rfl) 24 _ rfl _ _ rfl (Y.map u8v) _ fy hu (by with_unfolding_all rfl) hzY ?_); simp only [Act.put, List.setIfInBounds_toArray, List.set_cons_zero, List.set_cons_succ])
                    | ((with_reducible refine wpQuiet_load_if (by with_unfolding_all rfl) 24 _ rfl _ _ rfl (Z.map u8v) _ fz hu (by with_unfolding_all rfl) hzZ ?_); simp only [Act.put, List.setIfInBounds_toArray, List.set_cons_zero, List.set_cons_succ])
                    | ((with_reducible refine wpQuiet_step (fun K hK => ?_)); go_simp; first | ((with_reducible refine hK _ ?_); clear hK K) | (with_reducible apply Exists.intro; (with_reducible refine ⟨fun _ => ?_, hK _ ?_⟩); ((first | (go_at_call 65; exact later_of (cP _)))); clear hK K)))
                  with_reducible refine wpQuiet_nil ?_
                  intro _ hw'
                  obtain ⟨p, rfl⟩ := hw'
                  have hp := p.h
                  generalize p.w = w7 at *
                  clear fx fy fz cP heqX hkp hix hiy hiz
                  go_wp2
                  go_roundw
                  case rel => exact ⟨q + 1, by omega, by go_num, hb6.trans (hp.mono hb6.size)⟩
                  case measure => simp [intOf]; omega
                · obtain rfl : q = P := by omega
                  have b2 : ¬ ((q : Int) < q) := by omega
                  go_wp2
                  go_roundw
                  case rel => exact ⟨j + 1, by omega, by go_num, (by rw [← HD.out]; try (first | rfl | simp)), (hb.trans (hb5.mono hb.size)).trans (hb6.mono (Nat.le_trans hb.size hb5.size))⟩
                  case measure => simp [intOf]; omega
          · have zP : ((P : Int) == 1) = false := by simp; omega
            clear hP1e hPone
            go_wp2
            refine wp_region_later mixed (by kernel_rfl) ?_
            repeat (first
              | ((with_reducible refine wpQuiet_skip (by with_unfolding_all rfl) ?_); simp only [Act.put, List.setIfInBounds_toArray, List.set_cons_zero, List.set_cons_succ])
              | ((with_reducible refine wpQuiet_step (fun K hK => ?_)); go_simp; first | ((with_reducible refine hK _ ?_); clear hK K) | (with_reducible apply Exists.intro; (with_reducible refine ⟨fun _ => ?_, hK _ ?_⟩); (fail); clear hK K)))
            with_reducible refine wpQuiet_nil ?_
            intro _ hw'
            obtain ⟨p, rfl⟩ := hw'
            have hp := p.h
            generalize p.w = w5 at *
            have hb5 := hp
            have hrow5 := hrow.below hp
            have hr5 := hrr.below hp
            clear hp hcell
            by_cases hj0 : j = 0
            · have zj : ¬ ((0 : Int) < (j : Int)) := by omega
              have zjn : ¬ (0 < j) := by omega
              have zjd : decide (0 < j) = false := decide_eq_false zjn
              have HJ := hid hj0
              clear hj0 hPprev
              go_wp2
              go_loopw [112] (fun idx wr2 => ∃ q : Nat, q ≤ P ∧ idx = .int .i64 q ∧ Below w5.heap.size w5 wr2) (fun idx _ => P - (intOf idx).toNat)
              case atStart => exact ⟨0, by omega, rfl, Below.refl _ _⟩
              case round =>
                obtain ⟨q, hq0, rfl, hb6⟩ := hrel
                by_cases hql : q < P
                · have b2 : (q : Int) < P := by omega
                  go_wp2
                  refine wp_region_later mixed (by kernel_rfl) ?_
                  repeat (first
                    | ((with_reducible refine wpQuiet_skip (by with_unfolding_all rfl) ?_); simp only [Act.put, List.setIfInBounds_toArray, List.set_cons_zero, List.set_cons_succ])
                    | ((with_reducible refine wpQuiet_step (fun K hK => ?_)); go_simp; first | ((with_reducible refine hK _ ?_); clear hK K) | (with_reducible apply Exists.intro; (with_reducible refine ⟨fun _ => ?_, hK _ ?_⟩); (fail); clear hK K)))
                  with_reducible refine wpQuiet_nil ?_
                  intro _ hw'
                  obtain ⟨p, rfl⟩ := hw'
                  have hp := p.h
                  generalize p.w = w7 at *
                  go_wp2
                  go_roundw
                  case rel => exact ⟨q + 1, by omega, by go_num, hb6.trans (hp.mono hb6.size)⟩
                  case measure => simp [intOf]; omega
                · obtain rfl : q = P := by omega
                  have b2 : ¬ ((q : Int) < q) := by omega
                  go_wp2
                  go_roundw
                  case rel => exact ⟨j + 1, by omega, by go_num, (by rw [← HD.out]; try (first | rfl | simp)), (hb.trans (hb5.mono hb.size)).trans (hb6.mono (Nat.le_trans hb.size hb5.size))⟩
                  case measure => simp [intOf]; omega
            · obtain ⟨j', hj'⟩ : ∃ j', j = j' + 1 := ⟨j - 1, by omega⟩
              have zj : (0 : Int) < (j : Int) := by omega
              have zjn : 0 < j := by omega
              have zjd : decide (0 < j) = true := decide_eq_true zjn
              have hsub : (j : Int) - 1 = (j' : Int) := by omega
              have b4 : (j' : Int) < (i : Int) + 1 := by omega
              have hwj : IntKind.i64.wrap (j' : Int) = j' := by rw [IntKind.wrap_i64]; omega
              have HJ := hid hj'
              clear hj0 hj'
              go_wp2
              go_loopw [112] (fun idx wr2 => ∃ q : Nat, q ≤ P ∧ idx = .int .i64 q ∧ Below w5.heap.size w5 wr2) (fun idx _ => P - (intOf idx).toNat)
              case atStart => exact ⟨0, by omega, rfl, Below.refl _ _⟩
              case round =>
                obtain ⟨q, hq0, rfl, hb6⟩ := hrel
                by_cases hql : q < P
                · have b2 : (q : Int) < P := by omega
                  have hr6 := hr5.below hb6
                  obtain ⟨Ap, cp, hcellp, hrowp⟩ := hr6 j' (by have := HJ.out; omega)
                  rw [hPprev j' HJ.out] at hcellp hrowp
                  have hrow6 := hrow5.below hb6
                  obtain ⟨gx, qx, hgx, lx, hix⟩ := hrow6.2.2.pick cj hrow6.1 (upTo_get (ndB f j) P q hql)
                  obtain ⟨gy, qy, hgy, ly, hiy⟩ := hrowp.2.2.pick cp hrowp.1 (upTo_get (ndB f j') (2 * P) (2 * q) (by omega))
                  obtain ⟨gz, qz, hgz, lz, hiz⟩ := hrowp.2.2.pick cp hrowp.1 (upTo_get (ndB f j') (2 * P) (2 * q + 1) (by omega))
                  rw [show ((2 * q : Nat) : Int) = 2 * (q : Int) by omega] at hiy
                  rw [show ((2 * q + 1 : Nat) : Int) = 2 * (q : Int) + 1 by omega] at hiz
                  have hXe : ndB f j q = nodeB (ndB f j' (2 * q)) (ndB f j' (2 * q + 1)) := by rw [HJ.out]; rfl
                  generalize ndB f j q = X at *
                  generalize ndB f j' (2 * q) = Y at *
                  generalize ndB f j' (2 * q + 1) = Z at *
                  have cP : ∀ p : LaterW wr, Calls Try.prog 65 #[.string ⟨#[110, 111, 100, 101]⟩, .agg (List.map u8v Y).toArray, .agg (List.map u8v Z).toArray] p.w fun e w' => e = .returned (.agg (idVals X)) ∧ Below p.w.heap.size p.w w' := fun p => by
                    rw [hXe]
                    exact rpair_any nodeN (by decide) Y Z ly lz p.w
                  have heqX : ∀ W, (Op.equalIn 10000 24 (.agg (List.map u8v X).toArray) (.agg (idVals X))).run Try.prog W = .ok true W := fun W => (ids_eq W X X lx lx).trans (by rw [decide_eq_true rfl])
                  have fx := range_later hgx
                  have fy := range_later hgy
                  have fz := range_later hgz
                  have hkp : ∀ p : LaterW wr, p.w.cell? ⟨gr, j', none⟩ = some (.slice Ap (2 * P) cp) := fun p => Below.keep p.h hcellp
                  have hzX : (Try.prog.info? 24).map (·.size) = some (X.map u8v).length := by rw [List.length_map, lx]; exact sizeId
                  have hzY : (Try.prog.info? 24).map (·.size) = some (Y.map u8v).length := by rw [List.length_map, ly]; exact sizeId
                  have hzZ : (Try.prog.info? 24).map (·.size) = some (Z.map u8v).length := by rw [List.length_map, lz]; exact sizeId
                  have hw1 : IntKind.i64.wrap (2 * (q : Int)) = 2 * (q : Int) := by rw [IntKind.wrap_i64]; omega
                  have hw2 : IntKind.i64.wrap (2 * (q : Int) + 1) = 2 * (q : Int) + 1 := by rw [IntKind.wrap_i64]; omega
                  clear hXe lx ly lz hgx hgy hgz hcellp hrowp hrow6 hr6
                  go_wp2
                  refine wp_region_later mixed (by kernel_rfl) ?_
                  repeat (first
                    | ((with_reducible refine wpQuiet_skip (by with_unfolding_all rfl) ?_); simp only [Act.put, List.setIfInBounds_toArray, List.set_cons_zero, List.set_cons_succ])
                    | ((with_reducible refine wpQuiet_load_if (by with_unfolding_all rfl) 24 _ rfl _ _ rfl (X.map u8v) _ fx hu (by with_unfolding_all rfl) hzX ?_); simp only [Act.put, List.setIfInBounds_toArray, List.set_cons_zero, List.set_cons_succ])
                    | ((with_reducible refine wpQuiet_load_if (by with_unfolding_all rfl) 24 _ rfl _ _ rfl (Y.map u8v) _ fy hu (by with_unfolding_all rfl) hzY ?_); simp only [Act.put, List.setIfInBounds_toArray, List.set_cons_zero, List.set_cons_succ])
                    | ((with_reducible refine wpQuiet_load_if (by with_unfolding_all rfl) 24 _ rfl _ _ rfl (Z.map u8v) _ fz hu (by with_unfolding_all rfl) hzZ ?_); simp only [Act.put, List.setIfInBounds_toArray, List.set_cons_zero, List.set_cons_succ])
                    | ((with_reducible refine wpQuiet_step (fun K hK => ?_)); go_simp; first | ((with_reducible refine hK _ ?_); clear hK K) | (with_reducible apply Exists.intro; (with_reducible refine ⟨fun _ => ?_, hK _ ?_⟩); ((first | (go_at_call 65; exact later_of (cP _)))); clear hK K)))
                  with_reducible refine wpQuiet_nil ?_
                  intro _ hw'
                  obtain ⟨p, rfl⟩ := hw'
                  have hp := p.h
                  generalize p.w = w7 at *
                  clear fx fy fz cP heqX hkp hix hiy hiz
                  go_wp2
                  go_roundw
                  case rel => exact ⟨q + 1, by omega, by go_num, hb6.trans (hp.mono hb6.size)⟩
                  case measure => simp [intOf]; omega
                · obtain rfl : q = P := by omega
                  have b2 : ¬ ((q : Int) < q) := by omega
                  go_wp2
                  go_roundw
                  case rel => exact ⟨j + 1, by omega, by go_num, (by rw [← HD.out]; try (first | rfl | simp)), (hb.trans (hb5.mono hb.size)).trans (hb6.mono (Nat.le_trans hb.size hb5.size))⟩
                  case measure => simp [intOf]; omega
        · obtain rfl : j = i + 1 := by omega
          have hz : 2 ^ i / 2 ^ (i + 1) = 0 := Nat.div_eq_of_lt (by rw [Nat.pow_succ]; omega)
          rw [hz]
          have b1 : ¬ ((i : Int) + 1 < (i : Int) + 1) := by omega
          clear hz
          go_wp2_with (first
            | (go_at_call 54; (with_reducible refine (awake7_any _).mono ?_); rintro e9 w9 ⟨rfl, hb9⟩))
          go_ret
          exact ⟨rfl, hBx.trans ((hb.trans (hb9.mono hb.size)).mono hBx.size)⟩
end Go.Proofs.Ytfdbgmnnahcejaa

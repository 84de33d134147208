
/- Proved: for all rows, sums and ways, quitclaimlaw07.KeytreeFolds returns true and leaves its arguments as they were. No conditions. -/
import Derived.Test.YtfdbgmnnahcejaaKt8
namespace Go.Proofs.Ytfdbgmnnahcejaa
open Go.RowKit Go.Qc
attribute [local go_sem] txt_size

theorem bound_i64f {n : Int} (h : (Lit.int .i64 n).wf = true) : (-9223372036854775808 : Int) ≤ n ∧ n ≤ (9223372036854775807 : Int) := by
  simp only [Lit.wf, Bool.and_eq_true, decide_eq_true_eq] at h
  exact ⟨h.1, h.2⟩
theorem pow_or (n : Nat) (hn : n ≤ 40) : (∃ k, k ≤ 5 ∧ n = 2 ^ k) ∨ ((∀ k, n ≠ 2 ^ k) ∧ (n = 0 ∨ (bits BinOp.and IntKind.i64 (n : Int) ((n : Int) - 1) != 0) = true)) := by
  by_cases h : ∃ k, k ≤ 5 ∧ n = 2 ^ k
  · exact .inl h
  · right
    have h2 : ∀ k, n ≠ 2 ^ k := fun k e => by
      by_cases hk : k ≤ 5
      · exact h ⟨k, hk, e⟩
      · have : 2 ^ 6 ≤ 2 ^ k := Nat.pow_le_pow_right (by decide) (by omega)
        omega
    refine ⟨h2, ?_⟩
    have key : ∀ m : Fin 41, (∀ k : Fin 6, m.val ≠ 2 ^ k.val) → m.val = 0 ∨ (bits BinOp.and IntKind.i64 (m.val : Int) ((m.val : Int) - 1) != 0) = true := by decide
    exact key ⟨n, by omega⟩ (fun k => h2 k.val)
set_option maxRecDepth 100000 in
set_option maxHeartbeats 8000000 in
theorem fold_no (A : Option Addr) (n c : Nat) (hn : n ≤ 40) (h : n = 0 ∨ (bits BinOp.and IntKind.i64 (n : Int) ((n : Int) - 1) != 0) = true) (w : World) :
    Calls Try.prog 62 #[.slice A n c] w fun e w' => e = .returned (.tuple #[.agg (idVals zeroB), .slice none 0 0]) ∧ Below w.heap.size w w' := by
  have b3 : ∀ zc, Blk (w.alloc (.cells zc 24)) w.heap.size 24 zc := fun zc => Blk.new _ _ _
  have bB : ∀ o, Below w.heap.size w (w.alloc o) := fun o => (Below.refl _ _).alloc (Nat.le_refl _) o
  by_cases h0 : n = 0
  · subst h0
    clear h hn
    go_enter Try.func62, Try.ntmps62
    go_wp2_with (with_reducible refine wpList_store_blk rfl 24 _ _ rfl w.heap.size _ _ 24 (b3 _) rfl rfl ?c2 ?c3 ?c4 ?_)
    case c2 => exact sizeId
    case c3 => rfl
    case c4 => rw [← zeroB_vals]; exact idVals_one _
    intro w7 hb7 hg7
    go_wp2
    refine bodyPost_ret (results_cellt rfl _ _ _ _ _ _ rfl hb7 Try.underlying24 rfl sizeId) rfl ⟨?_, ?_⟩
    · rw [zeroB_vals]; rfl
    · exact (bB _).grown hg7 (bB _).size (by intro i e; cases e; exact Nat.le_refl _)
  · have hb : (bits BinOp.and IntKind.i64 (n : Int) ((n : Int) - 1) != 0) = true := h.resolve_left h0
    have z1 : ((n : Int) == 0) = false := by simp; omega
    clear h h0
    go_enter Try.func62, Try.ntmps62
    go_wp2_with (with_reducible refine wpList_store_blk rfl 24 _ _ rfl w.heap.size _ _ 24 (b3 _) rfl rfl ?c2 ?c3 ?c4 ?_)
    case c2 => exact sizeId
    case c3 => rfl
    case c4 => rw [← zeroB_vals]; exact idVals_one _
    intro w7 hb7 hg7
    go_wp2
    refine bodyPost_ret (results_cellt rfl _ _ _ _ _ _ rfl hb7 Try.underlying24 rfl sizeId) rfl ⟨?_, ?_⟩
    · rw [zeroB_vals]; rfl
    · exact (bB _).grown hg7 (bB _).size (by intro i e; cases e; exact Nat.le_refl _)
set_option maxRecDepth 100000 in
set_option maxHeartbeats 40000000 in
theorem folds_no (A B : Option Addr) (n c m d : Nat) (way : List (List UInt8)) (lf : Int) (hlf : lf ≤ 9223372036854775807) (s : List UInt8) (hs : s.length = 32) (w : World) (hn40 : n ≤ 40) (hnp : ∀ k, n ≠ 2 ^ k) (hn0 : n = 0 ∨ (bits BinOp.and IntKind.i64 (n : Int) ((n : Int) - 1) != 0) = true) (hB : RowR w B m way) (hm : m ≤ 20) :
    Calls Try.prog 7 #[.slice A n c, .int .i64 lf, .agg (idVals s), .slice B m d] w fun e w' => e = .returned (.bool true) ∧ Below w.heap.size w w' := by
  have hu := Try.underlying24
  have mixed : Try.prog.follows .mixedOrders = true := by kernel_rfl
  obtain ⟨T, hT⟩ : ∃ T, T = climbB lf.toNat s way := ⟨_, rfl⟩
  have lT : T.length = 32 := by rw [hT]; exact climbB_length _ _ _ hs
  have hI : (w.alloc (.cells (idVals s) 24)).rangeAt w.heap.size 0 (s.map u8v) := range_blk (Blk.new w 24 (idVals s))
  have hB0 : Below w.heap.size w (w.alloc (.cells (idVals s) 24)) := (Below.refl _ _).alloc (Nat.le_refl _) _
  have hBw0 := hB.below hB0
  have cF := fold_no A n c hn40 hn0
  have cC : ∀ W, RowR W B m way → Calls Try.prog 59 #[.int .i64 lf, .agg (List.map u8v s).toArray, .slice B m d] W fun e w' => e = .returned (.agg (idVals T)) ∧ Below W.heap.size W w' := fun W h => by rw [hT]; exact climb_any lf hlf s hs B m d way W h
  have cD : ∀ W, RowR W B m way → Calls Try.prog 63 #[.int .i64 lf, .agg (List.map u8v s).toArray, .slice B m d] W fun e w' => e = .returned (.agg (idVals T)) ∧ Below W.heap.size W w' := fun W h => by rw [hT]; exact rclimb_any lf hlf s hs B m d way W h
  have l1 : ¬ (40 : Int) < n := by omega
  have l2 : ¬ (20 : Int) < m := by omega
  have hzs : (Try.prog.info? 24).map (·.size) = some (s.map u8v).length := by rw [List.length_map, hs]; exact sizeId
  have HT := hid lT
  have HZL : Hid (zeroB.length = 32) := hid rfl
  have HNP := hid hnp
  clear hT lT hB hn0 hnp
  go_enter Try.func7, Try.ntmps7
  go_wp2_with (first
    | (go_at_call 62; (with_reducible refine (cF _).mono ?_); rintro e1 w1 ⟨rfl, hb1⟩)
    | ((with_reducible refine wpList_store_newid rfl _ _ rfl zeroB HZL.out rfl rfl (by with_unfolding_all rfl) ?_); intro w2 hx2 hb2))
  have hBx : Below w.heap.size w w2 := hB0.trans ((hb1.mono hB0.size).trans (hb2.mono (Nat.le_trans hB0.size hb1.size)))
  have hB2 := (hBw0.below hb1).below hb2
  have hI2 := (hI.below hb1).below hb2
  have fI := range_later hI2
  have hcl : ∀ p : LaterW w2, Calls Try.prog 59 #[.int .i64 lf, .agg (List.map u8v s).toArray, .slice B m d] p.w fun e w' => e = .returned (.agg (idVals T)) ∧ Below p.w.heap.size p.w w' := fun p => cC p.w (hB2.below p.h)
  have hcd : ∀ p : LaterW w2, Calls Try.prog 63 #[.int .i64 lf, .agg (List.map u8v s).toArray, .slice B m d] p.w fun e w' => e = .returned (.agg (idVals T)) ∧ Below p.w.heap.size p.w w' := fun p => cD p.w (hB2.below p.h)
  have heqT : ∀ W, (Op.equalIn 10000 24 (.agg (idVals T)) (.agg (idVals T))).run Try.prog W = .ok true W := fun W => (ids_eq W T T HT.out HT.out).trans (by rw [decide_eq_true rfl])
  generalize w1.heap.size = gR at *
  clear cF cC cD hb1 hb2 hI hB0 hBw0 hlf hs hm
  refine wp_region_later mixed (by kernel_rfl) ?_
  repeat (first
    | ((with_reducible refine wpQuiet_skip (by with_unfolding_all rfl) ?_); simp only [Act.put, List.setIfInBounds_toArray, List.set_cons_zero, List.set_cons_succ])
    | ((with_reducible refine wpQuiet_load_if (by with_unfolding_all rfl) 24 _ rfl _ _ rfl (s.map u8v) _ fI hu (by with_unfolding_all rfl) hzs ?_); simp only [Act.put, List.setIfInBounds_toArray, List.set_cons_zero, List.set_cons_succ])
    | ((with_reducible refine wpQuiet_step (fun K hK => ?_)); go_simp; first | ((with_reducible refine hK _ ?_); clear hK K) | (with_reducible apply Exists.intro; (with_reducible refine ⟨fun _ => ?_, hK _ ?_⟩); ((first | (go_at_call 59; exact later_of (hcl _)) | (go_at_call 63; exact later_of (hcd _)))); clear hK K)))
  with_reducible refine wpQuiet_nil ?_
  intro _ hw'
  obtain ⟨p, rfl⟩ := hw'
  have hp := p.h
  generalize p.w = w3 at *
  replace hBx := hBx.trans (hp.mono hBx.size)
  replace hx2 := hx2.below hp
  clear fI hcl hcd heqT hI2 hB2 hp hzs
  go_wp2
  go_loopw [11] (fun v wr => ∃ i, (i = 0 ∨ 2 ^ (i - 1) < n) ∧ v = .int .i64 (2 ^ i : Nat) ∧ wr = w3) (fun v _ => 41 - (intOf v).toNat)
  case atStart => exact ⟨0, .inl rfl, rfl, rfl⟩
  case round =>
    obtain ⟨i, hi, rfl, rfl⟩ := hrel
    have hi80 := two_pow_bound hi hn40
    have hi1 : 1 ≤ 2 ^ i := Nat.one_le_two_pow
    by_cases hlt : 2 ^ i < n
    · have HS := hid (pow_step hlt)
      have HD := hid (Nat.pow_succ (n := 2) (m := i))
      generalize 2 ^ i = q at *
      have b1 : (q : Int) < n := by omega
      go_wp2
      go_roundw
      case rel => exact ⟨i + 1, HS.out, by rw [HD.out]; go_num, trivial⟩
      case measure => simp [intOf]; omega
    · have hne := HNP.out i
      generalize 2 ^ i = q at *
      have b1 : ¬ (q : Int) < n := by omega
      have heqZ : ∀ W, (Op.equalIn 10000 24 (.agg (List.map u8v zeroB).toArray) (.agg #[.int .u8 0, .int .u8 0, .int .u8 0, .int .u8 0, .int .u8 0, .int .u8 0, .int .u8 0, .int .u8 0, .int .u8 0, .int .u8 0, .int .u8 0, .int .u8 0, .int .u8 0, .int .u8 0, .int .u8 0, .int .u8 0, .int .u8 0, .int .u8 0, .int .u8 0, .int .u8 0, .int .u8 0, .int .u8 0, .int .u8 0, .int .u8 0, .int .u8 0, .int .u8 0, .int .u8 0, .int .u8 0, .int .u8 0, .int .u8 0, .int .u8 0, .int .u8 0])).run Try.prog W = .ok true W := fun W => (ids_eq W zeroB zeroB rfl rfl).trans (by rw [decide_eq_true rfl])
      have HZ : (Try.prog.info? 24).map (·.size) = some (zeroB.map u8v).length := sizeId
      by_cases h0 : n = 0
      · have z0 : ((n : Int) == 0) = true := by simp; omega
        clear hi hlt h0 hne
        go_wp2_with (first
          | (with_reducible refine wpList_load_if (by with_unfolding_all rfl) 24 _ rfl _ _ rfl (zeroB.map u8v) _ hx2 hu (by with_unfolding_all rfl) HZ ?_)
          | (go_at_call 54; (with_reducible refine (awake7_any _).mono ?_); rintro e5 w5 ⟨rfl, hb5⟩))
        go_ret
        exact ⟨rfl, hBx.trans (hb5.mono hBx.size)⟩
      · have z0 : ((n : Int) == 0) = false := by simp; omega
        have z9 : ((q : Int) != (n : Int)) = true := by simp; omega
        clear hi hlt h0 hne
        go_wp2_with (first
          | (with_reducible refine wpList_load_if (by with_unfolding_all rfl) 24 _ rfl _ _ rfl (zeroB.map u8v) _ hx2 hu (by with_unfolding_all rfl) HZ ?_)
          | (go_at_call 54; (with_reducible refine (awake7_any _).mono ?_); rintro e5 w5 ⟨rfl, hb5⟩))
        go_ret
        exact ⟨rfl, hBx.trans (hb5.mono hBx.size)⟩
set_option maxRecDepth 100000 in
set_option maxHeartbeats 8000000 in
theorem keytreeFolds_any (A B : Option Addr) (n c m d : Nat) (l way : List (List UInt8)) (lf : Int) (hlf : lf ≤ 9223372036854775807) (s : List UInt8) (hs : s.length = 32) (w : World) (hA0 : IdRow w A n l) (hcap : A = none ∨ (n ≤ c ∧ c ≤ maxLen)) (hB0 : IdRow w B m way) :
    Calls Try.prog 7 #[.slice A n c, .int .i64 lf, .agg (idVals s), .slice B m d] w fun e w' => e = .returned (.bool true) ∧ Below w.heap.size w w' := by
  have hB : ∀ o, Below w.heap.size w (w.alloc o) := fun o => (Below.refl _ _).alloc (Nat.le_refl _) o
  by_cases hn : n ≤ 40
  · by_cases hm : m ≤ 20
    · have hBr : RowR w B m way := ⟨hB0.1, by omega, hB0.2.2⟩
      rcases pow_or n hn with ⟨k, hk, hnk⟩ | ⟨h1, h2⟩
      · have : 1 ≤ 2 ^ k := Nat.one_le_two_pow
        exact folds_pow A B n c m d l way lf hlf s hs w k hk hnk (row_cap hA0 hcap (by omega) (by omega)) hBr hm
      · exact folds_no A B n c m d way lf hlf s hs w hn h1 h2 hBr hm
    · have l1 : ¬ (40 : Int) < n := by omega
      have l2 : (20 : Int) < m := by omega
      clear hn hm
      go_enter Try.func7, Try.ntmps7
      go_wp2_with (first
        | (go_at_call 54; (with_reducible refine (awake7_any _).mono ?_); rintro e5 w5 ⟨rfl, hb5⟩))
      go_ret
      exact ⟨rfl, (hB _).trans (hb5.mono (hB _).size)⟩
  · have l1 : (40 : Int) < n := by omega
    clear hn
    go_enter Try.func7, Try.ntmps7
    go_wp2_with (first
      | (go_at_call 54; (with_reducible refine (awake7_any _).mono ?_); rintro e5 w5 ⟨rfl, hb5⟩))
    go_ret
    exact ⟨rfl, (hB _).trans (hb5.mono (hB _).size)⟩
set_option linter.unusedVariables false in
theorem law_KeytreeFolds (w : World) (a0 : Option Addr) (l0 c0 : Nat) (z0 : List (List UInt8)) (w0 : IdRow w a0 l0 z0) (x0 : a0 = none ∨ (l0 ≤ c0 ∧ c0 ≤ maxLen)) (a1 : Int) (w1 : (Lit.int .i64 a1).wf = true) (a2 : List UInt8) (w2 : a2.length = 32) (a3 : Option Addr) (l3 c3 : Nat) (z3 : List (List UInt8)) (w3 : IdRow w a3 l3 z3) :
    Calls Try.prog 7 #[.slice a0 l0 c0, .int .i64 a1, .agg (idVals a2), .slice a3 l3 c3] w fun e w' => e = .returned (.bool true) ∧ Below w.heap.size w w' := by
  exact keytreeFolds_any a0 a3 l0 c0 l3 c3 z0 z3 a1 (bound_i64f w1).2 a2 w2 w w0 x0 w3

open Go.ChangeShapes Go.WideShapes Go.ChangeAt
open Go.ChangeMaps (open_string shut_string)
theorem own_KeytreeFolds : ownKnob Try.prog.godebug = none := by kernel_rfl
theorem laidOut_KeytreeFolds : laidOutB Try.prog = true := by kernel_rfl
set_option linter.unusedVariables false in
set_option maxRecDepth 100000 in
theorem lifted_KeytreeFolds (os : Os) (started : os.Started) (H : Type) (enc : TypeId × Value → H) :
    ReturnsInHanded {} Try.checked os 7 .any (Rows.keytreeFoldsSpec.pre6 enc Try.prog Try.f7 Rows.keytreeFoldsRow.domain false) (Rows.keytreeFoldsSpec.post enc Try.prog Try.f7 false true false false) := by
  refine returnsInHanded_of_change (C := Try.checked) own_KeytreeFolds started (by kernel_rfl) Try.func7
    (ChangeSpec.witness6 (enc := enc) (C := Try.checked) false ⟨#[], #[.slice none 0 0, .int .i64 0, .agg #[.int .u8 0, .int .u8 0, .int .u8 0, .int .u8 0, .int .u8 0, .int .u8 0, .int .u8 0, .int .u8 0, .int .u8 0, .int .u8 0, .int .u8 0, .int .u8 0, .int .u8 0, .int .u8 0, .int .u8 0, .int .u8 0, .int .u8 0, .int .u8 0, .int .u8 0, .int .u8 0, .int .u8 0, .int .u8 0, .int .u8 0, .int .u8 0, .int .u8 0, .int .u8 0, .int .u8 0, .int .u8 0, .int .u8 0, .int .u8 0, .int .u8 0, .int .u8 0], .slice none 0 0], []⟩ 8 (by kernel_rfl) (by kernel_rfl) (by kernel_rfl) (by kernel_rfl)) ?_
  intro W base args ds gs before hval0 hW hcnd _
  have hval : ∀ (j : Nat) t v, Try.f7.params[j]? = some t → args[j]? = some v → Value.okWide Try.prog W .any base t v := hval0
  have hW' := hW
  obtain ⟨p, q, hA0, hV, rfl, hfz, hnd⟩ := hW
  have hA1 : DataW.TrodAll enc Try.prog W 0 (fun _ => true) true Try.f7.params.toList args.toList ds p := hA0
  have hA : DataW.TrodAll enc Try.prog W 0 (fun _ => true) true Try.f7.params.toList args.toList ds p := hA0
  rw [Try.params7] at hA hval
  obtain ⟨v0, vs0, d0, ds0, p0, q0, hargs, rfl, rfl, h0, r0⟩ := trodAll_cons hA
  obtain ⟨v1, vs1, d1, ds1, p1, q1, rfl, rfl, rfl, h1, r1⟩ := trodAll_cons r0
  obtain ⟨v2, vs2, d2, ds2, p2, q2, rfl, rfl, rfl, h2, r2⟩ := trodAll_cons r1
  obtain ⟨v3, vs3, d3, ds3, p3, q3, rfl, rfl, rfl, h3, r3⟩ := trodAll_cons r2
  obtain ⟨rfl, rfl, rfl⟩ := trodAll_nil r3
  obtain rfl : args = #[v0, v1, v2, v3] := by cases args; simp_all
  obtain ⟨rfl, rfl⟩ := trodVars_none hV
  obtain ⟨a0, l0, c0, z0, rfl, w0⟩ := open_idRow Try.underlying22 Try.underlying24 Try.underlying5 (by kernel_rfl) (by kernel_rfl) (hval 0 22 v0 rfl rfl) h0
  obtain ⟨a1, rfl, rfl, rfl, w1⟩ := open_int Try.underlying3 (hval 1 3 v1 rfl rfl) h1
  obtain ⟨a2, w2, rfl⟩ := open_id Try.underlying24 Try.underlying5 (by kernel_rfl) (by kernel_rfl) (hval 2 24 v2 rfl rfl) h2
  obtain ⟨a3, l3, c3, z3, rfl, w3⟩ := open_idRow Try.underlying22 Try.underlying24 Try.underlying5 (by kernel_rfl) (by kernel_rfl) (hval 3 22 v3 rfl rfl) h3
  have x0 := open_cap Try.underlying22 h0
  clear hA0 hval0
  refine (law_KeytreeFolds W a0 l0 c0 z0 w0 x0 a1 w1 a2 w2 a3 l3 c3 z3 w3).mono fun e W' ⟨he, bel⟩ => ?_
  subst he
  exact ⟨_, rfl, _, _, _, [], _, [], hW', trodAll_mk1 (shut_bool Try.underlying4 _), trodAll_stays laidOut_KeytreeFolds bel (by kernel_rfl) hA1, rfl, bel.frame _, fun h => by cases h⟩

/-- The statement. -/
theorem KeytreeFolds_holds : Rows.KeytreeFoldsSaid :=
  OpenClaim.holds_of_wide 7 Try.f7 rfl rfl rfl rfl rfl rfl rfl ⟨rfl, rfl, rfl, rfl, rfl⟩ rfl rfl rfl rfl rfl (by kernel_rfl) Try.func7 (by kernel_rfl)
    (of_decide_eq_true (by kernel_rfl)) (by unfold Func.isWrapper; first | (rw [if_pos (by decide +kernel)]; kernel_rfl) | (rw [if_neg (by decide +kernel)]; exact ⟨rfl, rfl⟩))
    (fun os started H enc _ => lifted_KeytreeFolds os started H enc)
#print axioms KeytreeFolds_holds
end Go.Proofs.Ytfdbgmnnahcejaa

/- Proved: for every slice of words and every text, quitclaimlaw01.WordBytes returns true and leaves its arguments as they were. No conditions. -/
import Derived.Test.YtilcijknkneicaaWords
namespace Go.Proofs.Ytilcijknkneicaa
open Go.RowKit Go.Qc
attribute [local go_sem] iv_add iv_and iv_or iv_xor iv_shl iv_shr iv_inj iv_i64 iv_mod2 ib_fold ib_lo_of ib_lo_mod iv_up_of iv_div8 iv_div16 iv_div24 iv_tmod256 ib_u8

set_option maxHeartbeats 400000 in
theorem wordBytes_far (A : Option Addr) (n c : Nat) (s : ByteArray) (h : 100 < n ∨ 400 < s.size) (w : World) :
    Calls Try.prog 4 #[.slice A n c, .string s] w fun e w' => e = .returned (.bool true) ∧ Below w.heap.size w w' := by
  by_cases h1 : (100 : Int) < n
  · clear h
    go_enter Try.func4, Try.ntmps4
    go_wp2_with (go_at_call 13; (with_reducible refine (awake1_any _).mono ?_); rintro e w' ⟨rfl, rfl⟩)
    go_ret
    exact ⟨rfl, Below.refl _ _⟩
  · have h2 : (400 : Int) < s.size := by omega
    clear h
    go_enter Try.func4, Try.ntmps4
    go_wp2_with (go_at_call 13; (with_reducible refine (awake1_any _).mono ?_); rintro e w' ⟨rfl, rfl⟩)
    go_ret
    exact ⟨rfl, Below.refl _ _⟩

set_option maxHeartbeats 1000000 in
theorem wordBytes_near (A : Option Addr) (n c : Nat) (s : ByteArray) (h1 : ¬ (100 : Int) < n) (h2 : ¬ (400 : Int) < s.size) (ws : List (BitVec 32)) (hn : ws.length = n) (w : World) (hr : Rd w A (ws.map u32v)) :
    Calls Try.prog 4 #[.slice A n c, .string s] w fun e w' => e = .returned (.bool true) ∧ Below w.heap.size w w' := by
  have HN := hid hn
  clear hn
  go_enter Try.func4, Try.ntmps4
  go_wp2_with (first
    | (go_at_call 13; (with_reducible refine (awake1_any _).mono ?_); rintro e w' ⟨rfl, rfl⟩)
    | (go_at_call 14; (with_reducible refine (bytes_any A n c ws HN.out (by omega) w hr).mono ?_); rintro e w1 ⟨rfl, hb1⟩)
    | (go_at_call 15; (with_reducible refine (words_any _ ws n HN.out (by omega) rfl w1).mono ?_); rintro e w2 ⟨g, rfl, hr2, hb2⟩)
    | (go_at_call 16; (with_reducible refine (rbytes_any A n c ws HN.out (by omega) w2 ((hr.below hb1).below hb2)).mono ?_); rintro e w3 ⟨rfl, hb3⟩))
  have hr3 := (((hr.below hb1).below hb2).below hb3)
  have hr2' := hr2.below hb3
  have hb := (hb1.trans (hb2.mono hb1.size)).trans (hb3.mono (Nat.le_trans hb1.size hb2.size))
  clear hr hr2 hb1 hb2 hb3
  go_loopw [44] (fun i wr => ∃ k m : Nat, k ≤ n ∧ i = .int .i64 k ∧ wr = w3.drewN m) (fun i _ => n - (intOf i).toNat)
  case atStart => exact ⟨0, 0, by omega, rfl, rfl⟩
  case round =>
    obtain ⟨k, m, hk, rfl, rfl⟩ := hrel
    by_cases hlt : k < n
    · obtain ⟨ad, x, rfl, hx, hcell⟩ := hr3.atm (k := k) (by have := HN.out; omega)
      obtain ⟨ad2, x2, e2, hx2, hcell2⟩ := hr2'.atm (k := k) (by have := HN.out; omega)
      obtain rfl := Option.some.inj e2
      obtain rfl : x = x2 := by rw [hx] at hx2; exact Option.some.inj hx2
      rw [u32v] at hcell hcell2
      rw [add_lit0] at hcell2
      clear hx hx2 e2 hr3 hr2'
      have hk0 : (0 : Int) ≤ k := by omega
      have hk1 : (k : Int) < n := by omega
      go_wp2
      go_quiet (fail)
      go_wp2
      go_roundw
      case rel => exact ⟨k + 1, _, by omega, by go_num, rfl⟩
      case measure => simp [intOf]; omega
    · obtain rfl : k = n := by omega
      clear hlt hr3 hr2'
      by_cases h4 : (s.size : Int) % 4 = 0
      · obtain ⟨vs, hv, hvs⟩ := words_of (s.size / 4) s.data.toList (by have : s.data.toList.length = s.size := rfl; omega)
        have hs : s = txt (wordsB vs) := by rw [← hvs]; rfl
        have hq : ((s.size : Int)) / 4 = ((s.size / 4 : Nat) : Int) := by omega
        have heq : (txt (wordsB vs)).toList = s.toList := by rw [← hs]
        have HS := hid hs
        have HQ := hid hq
        have HV := hid hv
        clear hv hvs hs hq
        go_wp2_with (first
          | (go_at_call 13; (with_reducible refine (awake1_any _).mono ?_); rintro e w' ⟨rfl, rfl⟩)
          | (go_at_call 15; (with_reducible refine (words_any _ vs _ HV.out (by omega) HS.out _).mono ?_); rintro e w4 ⟨g4, rfl, hr4, hb4⟩)
          | (go_at_call 16; (with_reducible refine (rbytes_any _ _ _ vs HV.out (by omega) _ hr4).mono ?_); rintro e w5 ⟨rfl, hb5⟩))
        go_ret
        exact ⟨rfl, (below_drewN hb m).trans ((hb4.mono hb.size).trans (hb5.mono (Nat.le_trans hb.size hb4.size)))⟩
      · have h4b : ((s.size : Int) % 4 == 0) = false := by simpa using h4
        go_wp2_with (first
          | (go_at_call 13; (with_reducible refine (awake1_any _).mono ?_); rintro e w' ⟨rfl, rfl⟩)
          | (go_at_call 15; (with_reducible refine (words_no _ h4 _).mono ?_); rintro e w' ⟨rfl, rfl⟩))
        go_ret
        exact ⟨rfl, below_drewN hb _⟩

set_option linter.unusedVariables false in
theorem law_WordBytes (w : World) (a0 : Option Addr) (l0 c0 : Nat) (z0 : List Int) (w0 : IntRow .u32 w a0 l0 z0) (a1 : ByteArray) (w1 : a1.size ≤ maxLen) :
    Calls Try.prog 4 #[.slice a0 l0 c0, .string a1] w fun e w' => e = .returned (.bool true) ∧ Below w.heap.size w w' := by
  obtain ⟨ws, hn, hr⟩ := w0.words
  by_cases h1 : (100 : Int) < l0
  · exact wordBytes_far _ _ _ _ (.inl (by omega)) _
  by_cases h2 : (400 : Int) < a1.size
  · exact wordBytes_far _ _ _ _ (.inr (by omega)) _
  exact wordBytes_near _ _ _ _ h1 h2 ws hn w hr

open Go.ChangeShapes Go.WideShapes Go.ChangeAt
open Go.ChangeMaps (open_string shut_string)
theorem own_WordBytes : ownKnob Try.prog.godebug = none := by kernel_rfl
theorem laidOut_WordBytes : laidOutB Try.prog = true := by kernel_rfl
set_option linter.unusedVariables false in
set_option maxRecDepth 100000 in
theorem lifted_WordBytes (os : Os) (started : os.Started) (H : Type) (enc : TypeId × Value → H) :
    ReturnsInHanded {} Try.checked os 4 .any (Rows.wordBytesSpec.pre6 enc Try.prog Try.f4 Rows.wordBytesRow.domain false) (Rows.wordBytesSpec.post enc Try.prog Try.f4 false true false false) := by
  refine returnsInHanded_of_change (C := Try.checked) own_WordBytes started (by kernel_rfl) Try.func4
    (ChangeSpec.witness6 (enc := enc) (C := Try.checked) false ⟨#[], #[.slice none 0 0, .string ByteArray.empty], []⟩ 8 (by kernel_rfl) (by kernel_rfl) (by kernel_rfl) (by kernel_rfl)) ?_
  intro W base args ds gs before hval0 hW hcnd _
  have hval : ∀ (j : Nat) t v, Try.f4.params[j]? = some t → args[j]? = some v → Value.okWide Try.prog W .any base t v := hval0
  have hW' := hW
  obtain ⟨p, q, hA0, hV, rfl, hfz, hnd⟩ := hW
  have hA1 : DataW.TrodAll enc Try.prog W 0 (fun _ => true) true Try.f4.params.toList args.toList ds p := hA0
  have hA : DataW.TrodAll enc Try.prog W 0 (fun _ => true) true Try.f4.params.toList args.toList ds p := hA0
  rw [Try.params4] at hA hval
  obtain ⟨v0, vs0, d0, ds0, p0, q0, hargs, rfl, rfl, h0, r0⟩ := trodAll_cons hA
  obtain ⟨v1, vs1, d1, ds1, p1, q1, rfl, rfl, rfl, h1, r1⟩ := trodAll_cons r0
  obtain ⟨rfl, rfl, rfl⟩ := trodAll_nil r1
  obtain rfl : args = #[v0, v1] := by cases args; simp_all
  obtain ⟨rfl, rfl⟩ := trodVars_none hV
  obtain ⟨a0, l0, c0, z0, rfl, w0⟩ := open_intRow Try.underlying27 Try.underlying22 (by kernel_rfl) (hval 0 27 v0 rfl rfl) h0
  obtain ⟨a1, rfl, rfl, rfl, w1⟩ := open_string Try.underlying9 (hval 1 9 v1 rfl rfl) h1
  clear hA0 hval0
  refine (law_WordBytes W a0 l0 c0 z0 w0 a1 w1).mono fun e W' ⟨he, bel⟩ => ?_
  subst he
  exact ⟨_, rfl, _, _, _, [], _, [], hW', trodAll_mk1 (shut_bool Try.underlying4 _), trodAll_stays laidOut_WordBytes bel (by kernel_rfl) hA1, rfl, bel.frame _, fun h => by cases h⟩

/-- The statement. -/
theorem WordBytes_holds : Rows.WordBytesSaid :=
  OpenClaim.holds_of_wide 4 Try.f4 rfl rfl rfl rfl rfl rfl rfl ⟨rfl, rfl, rfl, rfl, rfl⟩ rfl rfl rfl rfl rfl (by kernel_rfl) Try.func4 (by kernel_rfl)
    (of_decide_eq_true (by kernel_rfl)) (by unfold Func.isWrapper; first | (rw [if_pos (by decide +kernel)]; kernel_rfl) | (rw [if_neg (by decide +kernel)]; exact ⟨rfl, rfl⟩))
    (fun os started H enc _ => lifted_WordBytes os started H enc)
#print axioms WordBytes_holds
end Go.Proofs.Ytilcijknkneicaa


/- pack: a number that is read. -/
import Derived.Test.YtemdmdgigmhlbaaGreatPk1
namespace Go.Qc
open Go.RowKit
theorem i64_or_nat (a b : Nat) (ha : a < 9223372036854775808) (hb : b < 9223372036854775808) : bits .or .i64 (a : Int) (b : Int) = ((a ||| b : Nat) : Int) := by
  have hx : a ||| b < 2 ^ 63 := Nat.or_lt_two_pow (by omega) (by omega)
  have h64 : ∀ n : Nat, n < 9223372036854775808 → (BitVec.ofInt 64 (n : Int)).toNat = n := fun n hn => by
    rw [BitVec.ofInt_natCast, BitVec.toNat_ofNat]; exact Nat.mod_eq_of_lt (by omega)
  show IntKind.i64.wrap ((BitVec.ofInt 64 (a : Int) ||| BitVec.ofInt 64 (b : Int)).toNat : Int) = _
  rw [BitVec.toNat_or, h64 a ha, h64 b hb]
  simp only [IntKind.wrap, IntKind.bits, IntKind.signed]
  simp
  omega
theorem or_apart (v m k : Nat) (hv : v < 2 ^ k) : v ||| m * 2 ^ k = v + m * 2 ^ k := by
  rw [Nat.or_comm, Nat.mul_comm, ← Nat.two_pow_add_eq_or_of_lt hv, Nat.add_comm]
theorem and127 (x : UInt8) : bits .andNot .u8 (ib x) 128 = ((x.toNat % 128 : Nat) : Int) := by
  have h := u8_andNot_nat x.toNat 128 x.toNat_lt (by decide)
  unfold ib
  rw [show (128 : Int) = ((128 : Nat) : Int) from rfl, h]
  congr 1
  exact Nat.and_two_pow_sub_one_eq_mod x.toNat 7
end Go.Qc
namespace Go.Proofs.YtemdmdgigmhlbaaGreat
open Go.RowKit Go.Qc
attribute [local go_sem] txt_size txt_append ib_fold

/-- A number's groups, read from the front on, behind so many that count so much: how much all count, and how many groups; or what is wrong. -/
def scanN (d v : Nat) : List UInt8 → Except Int (Nat × Nat)
  | [] => .error 2
  | b :: t =>
    if d = 8 ∧ 64 < b.toNat then .error 3
    else if 128 ≤ b.toNat then scanN (d + 1) (v + b.toNat % 128 * 2 ^ (7 * d)) t
    else if (b.toNat = 0 ∧ 0 < d) ∨ 4611686018427387904 < v + b.toNat % 128 * 2 ^ (7 * d) then .error 3
    else .ok (v + b.toNat % 128 * 2 ^ (7 * d), d + 1)
/-- What a reading of a number leaves. -/
def NumPost (g : Nat) (s : List UInt8) (a : Nat) (w : World) (r : Except Int (Nat × Nat)) (o : Ending) (w' : World) : Prop :=
  match r with
  | .ok (v, n) => o = .returned (.int .i64 v) ∧ Step g s (a + n) 0 w w'
  | .error e => ∃ (v : Int) (a' : Nat), o = .returned (.int .i64 v) ∧ a' ≤ s.length ∧ e ≠ 0 ∧ Step g s a' e w w'
/-- The state at the label: so many groups are read, each going on. -/
structure NumS (g : Nat) (s : List UInt8) (a d v : Nat) (w0 w : World) : Prop where
  st : Step g s (a + d) 0 w0 w
  d8 : d ≤ 8
  l : a + d ≤ s.length
  lt : v < 2 ^ (7 * d)
  sc : scanN 0 0 (s.drop a) = scanN d v (s.drop (a + d))
theorem p56 : 2 ^ (7 * 8) = 72057594037927936 := by decide
theorem pow_le8 (d : Nat) (h : d ≤ 8) : 2 ^ (7 * d) ≤ 72057594037927936 := by
  rw [← p56]
  exact Nat.pow_le_pow_right (by decide) (by omega)
theorem e8_lem (m K : Nat) (hK : K = m * 72057594037927936) : (m : Int) * 72057594037927936 = (K : Int) := by omega
theorem grp_lt (v m d : Nat) (hv : v < 2 ^ (7 * d)) (hm : m ≤ 127) : v + m * 2 ^ (7 * d) < 2 ^ (7 * (d + 1)) := by
  rw [show 7 * (d + 1) = 7 * d + 7 by omega, Nat.pow_add]
  have : m * 2 ^ (7 * d) ≤ 127 * 2 ^ (7 * d) := Nat.mul_le_mul_right _ hm
  omega
theorem wrap_small (k : Nat) (h : k ≤ 9151314442816847872) : wrap64 (k : Int) = (k : Int) := by unfold wrap64; omega
theorem grp_facts (x : UInt8) (v d : Nat) (hd : d ≤ 8) (hv : v < 2 ^ (7 * d)) :
    ∃ m K V : Nat, V = v + x.toNat % 128 * 2 ^ (7 * d) ∧ V < 2 ^ (7 * (d + 1)) ∧ bits .andNot .u8 (ib x) 128 = (m : Int) ∧ wrap64 (m : Int) = m ∧ wrap64 ((m : Int) * 2 ^ (7 * d)) = (K : Int) ∧ (d = 8 → wrap64 ((m : Int) * 72057594037927936) = (K : Int)) ∧ (d = 0 → K = m) ∧ bits .or .i64 (v : Int) (K : Int) = (V : Int) := by
  have hp8 := pow_le8 d hd
  have hm : x.toNat % 128 ≤ 127 := by omega
  have hgl := grp_lt v (x.toNat % 128) d hv hm
  have hA := and127 x
  generalize x.toNat % 128 = m at *
  obtain ⟨P, hP⟩ : ∃ P, P = 2 ^ (7 * d) := ⟨_, rfl⟩
  obtain ⟨K, hK⟩ : ∃ K, K = m * P := ⟨_, rfl⟩
  have hK2 : K ≤ 9151314442816847872 := by
    have : m * P ≤ 127 * 72057594037927936 := Nat.mul_le_mul hm (by rw [hP]; exact hp8)
    omega
  have e : (m : Int) * 2 ^ (7 * d) = (K : Int) := by
    rw [hK, Int.natCast_mul, hP]; simp
  have wk := wrap_small K hK2
  have e8 : d = 8 → (m : Int) * 72057594037927936 = (K : Int) := fun h => by
    have hP8 : P = 72057594037927936 := by rw [hP, h, p56]
    exact e8_lem m K (by rw [hK, hP8])
  have e0 : d = 0 → K = m := fun h => by rw [hK, hP, h, Nat.mul_zero, Nat.pow_zero, Nat.mul_one]
  have eo : bits .or .i64 (v : Int) (K : Int) = ((v + K : Nat) : Int) := by
    have hvb : v < 9223372036854775808 := Nat.lt_of_lt_of_le hv (Nat.le_trans hp8 (by decide))
    have hkb : K < 9223372036854775808 := Nat.lt_of_le_of_lt hK2 (by decide)
    rw [i64_or_nat v K hvb hkb, hK, hP, or_apart v m _ hv]
  have wm := wrap_small m (Nat.le_trans hm (by decide))
  have hKP : K = m * 2 ^ (7 * d) := by rw [hK, hP]
  rw [← hKP] at hgl
  exact ⟨m, K, v + K, by rw [hKP], hgl, hA, wm, by rw [e]; exact wk, fun h => by rw [e8 h]; exact wk, e0, eo⟩
set_option maxRecDepth 100000 in
set_option maxHeartbeats 8000000 in
theorem pkNumber_any (g : Nat) (s : List UInt8) (a : Nat) (hs : s.length ≤ 1000000000000) (w : World) (hr : Rdr g s a 0 w) (ha : a ≤ s.length) :
    Calls Tryz.prog 90 #[.pointer (some ⟨g, 0, none⟩)] w fun o w' => NumPost g s a w (scanN 0 0 (s.drop a)) o w' := by
  go_enter Tryz.func90, Tryz.ntmps90
  go_wp2
  refine wp_scope_label 0 (fun a' w' => ∃ (d v : Nat) (u5 u6 u7 u8 u9 u10 u11 u12 u13 u14 u15 u16 u17 u18 u19 u20 u21 u22 u23 u24 u25 u26 u27 u28 u29 u30 u31 u32 u33 u34 u35 u36 u37 u38 u39 u40 u41 u42 u43 u44 u45 u46 u47 u48 : Value), a' = { tmps := #[.pointer (some ⟨g, 0, none⟩), undef, .int .i64 0, .int .i64 v, .int .i64 d, u5, u6, u7, u8, u9, u10, u11, u12, u13, u14, u15, u16, u17, u18, u19, u20, u21, u22, u23, u24, u25, u26, u27, u28, u29, u30, u31, u32, u33, u34, u35, u36, u37, u38, u39, u40, u41, u42, u43, u44, u45, u46, u47, u48], defers := [] } ∧ NumS g s a d v w w') (fun a' _ => 9 - (intOf (a'.tmps.getD 4 undef)).toNat) rfl (fun a' w' hJ => ?pass) (fun hrest => ?first)
  case first =>
    refine wp_seq (wp_mono (Q := fun e a' w' => e = .normal ∧ w' = w ∧ a' = { tmps := #[.pointer (some ⟨g, 0, none⟩), undef, .int .i64 0, .int .i64 0, .int .i64 0, undef, undef, undef, undef, undef, undef, undef, undef, undef, undef, undef, undef, undef, undef, undef, undef, undef, undef, undef, undef, undef, undef, undef, undef, undef, undef, undef, undef, undef, undef, undef, undef, undef, undef, undef, undef, undef, undef, undef, undef, undef, undef, undef, undef], defers := [] }) ?_ ?_)
    · go_wp2
    · rintro e a' w' ⟨rfl, rfl, rfl⟩
      refine wp_seq ?_
      apply wp_label
      exact hrest _ _ ⟨0, 0, undef, undef, undef, undef, undef, undef, undef, undef, undef, undef, undef, undef, undef, undef, undef, undef, undef, undef, undef, undef, undef, undef, undef, undef, undef, undef, undef, undef, undef, undef, undef, undef, undef, undef, undef, undef, undef, undef, undef, undef, undef, undef, undef, undef, rfl, Step.same hr, by omega, ha, by decide, rfl⟩
  case pass =>
    obtain ⟨d, v, u5, u6, u7, u8, u9, u10, u11, u12, u13, u14, u15, u16, u17, u18, u19, u20, u21, u22, u23, u24, u25, u26, u27, u28, u29, u30, u31, u32, u33, u34, u35, u36, u37, u38, u39, u40, u41, u42, u43, u44, u45, u46, u47, u48, rfl, hS⟩ := hJ
    have HS := hid hS
    have hr1 := hS.st.r
    have hd8 := hS.d8
    have hvlt := hS.lt
    have hp8 := pow_le8 d hd8
    have hl := hS.l
    have hsc := hS.sc
    clear hS hr ha
    by_cases hlt : a + d < s.length
    · obtain ⟨x, hx⟩ : ∃ x, s[a + d]? = some x := ⟨_, List.getElem?_eq_getElem hlt⟩
      have hdr : s.drop (a + d) = x :: s.drop (a + d + 1) := by
        rw [List.drop_eq_getElem_cons hlt]; congr 1
        rw [List.getElem?_eq_getElem hlt] at hx; exact Option.some.inj hx
      rw [hdr, scanN] at hsc
      obtain ⟨m, K, V, hVs, hgl, hA, hW, hS1, hS8, hK0, hO⟩ := grp_facts x v d hd8 hvlt
      rw [← hVs] at hsc
      have hxi : ib x = (x.toNat : Int) := rfl
      have hoc := fun W h => pkOctet_ok g s (a + d) 0 x hx hs W h
      have HSC := hid hsc
      have HGL := hid hgl
      have HXI := hid hxi
      have HK := hid hK0
      clear hgl hsc hdr hx hvlt hp8 hxi hK0 hVs
      by_cases hd : d = 8
      · have hS9 := hS8 hd
        have d9 : (d : Int) + 1 = 9 := by omega
        clear hS8 hS1
        by_cases h64 : 64 < x.toNat
        · have x1 : (64 : Int) < ib x := by rw [HXI.out]; omega
          have hsc2 := HSC.out
          rw [if_pos ⟨hd, h64⟩] at hsc2
          have HS2 := hid hsc2
          clear hsc2 hd h64
          by_cases hq1 : (128 : Int) ≤ ib x
          · go_wp2_with (first
              | (go_at_call 68; (with_reducible refine (hoc _ hr1).mono ?_); rintro o1 w1 ⟨rfl, h1⟩; have hz := h1.r; have c2 := hz.c2)
              | (go_at_call 89; first | ((with_reducible refine (pkFail_old g s _ 3 3 (by decide) _ hn).mono ?_); rintro o3 w3 ⟨rfl, rfl⟩) | ((with_reducible refine (pkFail_new g s _ 3 _ hz).mono ?_); rintro o2 w2 ⟨rfl, hn, hg⟩; have c3 := hn.c2; have hst2 : Step g s _ 3 w w2 := (HS.out.st.trans h1).trans ⟨hn, hg⟩)))
            trace_state
            all_goals (
              (try simp only [Exit.jump])
              go_ret
              rw [HS2.out]
              exact ⟨_, _, rfl, by omega, by decide, hst2⟩)
          · go_wp2_with (first
              | (go_at_call 68; (with_reducible refine (hoc _ hr1).mono ?_); rintro o1 w1 ⟨rfl, h1⟩; have hz := h1.r; have c2 := hz.c2)
              | (go_at_call 89; first | ((with_reducible refine (pkFail_old g s _ 3 3 (by decide) _ hn).mono ?_); rintro o3 w3 ⟨rfl, rfl⟩) | ((with_reducible refine (pkFail_new g s _ 3 _ hz).mono ?_); rintro o2 w2 ⟨rfl, hn, hg⟩; have c3 := hn.c2; have hst2 : Step g s _ 3 w w2 := (HS.out.st.trans h1).trans ⟨hn, hg⟩)))
            trace_state
            all_goals (
              (try simp only [Exit.jump])
              go_ret
              rw [HS2.out]
              exact ⟨_, _, rfl, by omega, by decide, hst2⟩)
        · have x1 : ¬ (64 : Int) < ib x := by rw [HXI.out]; omega
          have x2 : ¬ (128 : Int) ≤ ib x := by rw [HXI.out]; omega
          have x3 : ¬ 128 ≤ x.toNat := by omega
          have hsc2 := HSC.out
          rw [if_neg (fun h => h64 h.2), if_neg x3] at hsc2
          have hd0 : 0 < d := by omega
          clear hd h64 x3
          by_cases h0 : x.toNat = 0
          · have x0 : ib x = 0 := by rw [HXI.out]; omega
            rw [if_pos (.inl ⟨h0, hd0⟩)] at hsc2
            have HS2 := hid hsc2
            have d1 : (1 : Int) < (d : Int) + 1 := by omega
            clear hsc2 h0 hd0
            go_wp2_with (first
              | (go_at_call 68; (with_reducible refine (hoc _ hr1).mono ?_); rintro o1 w1 ⟨rfl, h1⟩; have hz := h1.r; have c2 := hz.c2)
              | (go_at_call 89; (with_reducible refine (pkFail_new g s _ 3 _ hz).mono ?_); rintro o2 w2 ⟨rfl, hn, hg⟩; have hst2 : Step g s _ 3 w w2 := (HS.out.st.trans h1).trans ⟨hn, hg⟩))
            (try simp only [Exit.jump])
            go_ret
            rw [HS2.out]
            exact ⟨_, _, rfl, by omega, by decide, hst2⟩
          · have x0 : (ib x == 0) = false := by rw [beq_eq_false_iff_ne, HXI.out]; omega
            by_cases hb : 4611686018427387904 < V
            · have vb : (4611686018427387904 : Int) < V := by omega
              rw [if_pos (.inr hb)] at hsc2
              have HS2 := hid hsc2
              clear hsc2 h0 hd0 hb
              go_wp2_with (first
                | (go_at_call 68; (with_reducible refine (hoc _ hr1).mono ?_); rintro o1 w1 ⟨rfl, h1⟩; have hz := h1.r; have c2 := hz.c2)
                | (go_at_call 89; (with_reducible refine (pkFail_new g s _ 3 _ hz).mono ?_); rintro o2 w2 ⟨rfl, hn, hg⟩; have hst2 : Step g s _ 3 w w2 := (HS.out.st.trans h1).trans ⟨hn, hg⟩))
              (try simp only [Exit.jump])
              go_ret
              rw [HS2.out]
              exact ⟨_, _, rfl, by omega, by decide, hst2⟩
            · have vb : ¬ (4611686018427387904 : Int) < V := by omega
              rw [if_neg (fun h => h.elim (fun h => h0 h.1) hb)] at hsc2
              have HS2 := hid hsc2
              clear hsc2 h0 hd0 hb
              go_wp2_with (first
                | (go_at_call 68; (with_reducible refine (hoc _ hr1).mono ?_); rintro o1 w1 ⟨rfl, h1⟩; have hz := h1.r; have c2 := hz.c2))
              (try simp only [Exit.jump])
              go_ret
              rw [HS2.out]
              exact ⟨rfl, HS.out.st.trans h1⟩
      · have d9 : ((d : Int) + 1 == 9) = false := by rw [beq_eq_false_iff_ne]; omega
        clear hS8
        have hd7 : d ≤ 7 := by omega
        by_cases h1 : 128 ≤ x.toNat
        · have x2 : (128 : Int) ≤ ib x := by rw [HXI.out]; omega
          have hsc2 := HSC.out
          rw [if_neg (fun h => hd h.1), if_pos h1] at hsc2
          have HS2 := hid hsc2
          clear hsc2 hd h1
          go_wp2_with (first
            | (go_at_call 68; (with_reducible refine (hoc _ hr1).mono ?_); rintro o1 w1 ⟨rfl, h1⟩; have hz := h1.r; have c2 := hz.c2))
          go_step3
          refine ⟨rfl, ⟨d + 1, V, _, _, _, _, _, _, _, _, _, _, _, _, _, _, _, _, _, _, _, _, _, _, _, _, _, _, _, _, _, _, _, _, _, _, _, _, _, _, _, _, _, _, _, _, rfl, HS.out.st.trans h1, by omega, by omega, HGL.out, HS2.out⟩, ?_⟩
          simp [intOf]; omega
        · have x2 : ¬ (128 : Int) ≤ ib x := by rw [HXI.out]; omega
          have hsc2 := HSC.out
          rw [if_neg (fun h => hd h.1), if_neg h1] at hsc2
          clear hd h1
          by_cases hd0 : 0 < d
          · by_cases h0 : x.toNat = 0
            · have x0 : ib x = 0 := by rw [HXI.out]; omega
              rw [if_pos (.inl ⟨h0, hd0⟩)] at hsc2
              have HS2 := hid hsc2
              have d1 : (1 : Int) < (d : Int) + 1 := by omega
              clear hsc2 h0 hd0
              go_wp2_with (first
                | (go_at_call 68; (with_reducible refine (hoc _ hr1).mono ?_); rintro o1 w1 ⟨rfl, h1⟩; have hz := h1.r; have c2 := hz.c2)
                | (go_at_call 89; (with_reducible refine (pkFail_new g s _ 3 _ hz).mono ?_); rintro o2 w2 ⟨rfl, hn, hg⟩; have hst2 : Step g s _ 3 w w2 := (HS.out.st.trans h1).trans ⟨hn, hg⟩))
              (try simp only [Exit.jump])
              go_ret
              rw [HS2.out]
              exact ⟨_, _, rfl, by omega, by decide, hst2⟩
            · have x0 : (ib x == 0) = false := by rw [beq_eq_false_iff_ne, HXI.out]; omega
              by_cases hb : 4611686018427387904 < V
              · have vb : (4611686018427387904 : Int) < V := by omega
                rw [if_pos (.inr hb)] at hsc2
                have HS2 := hid hsc2
                clear hsc2 h0 hd0 hb
                go_wp2_with (first
                  | (go_at_call 68; (with_reducible refine (hoc _ hr1).mono ?_); rintro o1 w1 ⟨rfl, h1⟩; have hz := h1.r; have c2 := hz.c2)
                  | (go_at_call 89; (with_reducible refine (pkFail_new g s _ 3 _ hz).mono ?_); rintro o2 w2 ⟨rfl, hn, hg⟩; have hst2 : Step g s _ 3 w w2 := (HS.out.st.trans h1).trans ⟨hn, hg⟩))
                (try simp only [Exit.jump])
                go_ret
                rw [HS2.out]
                exact ⟨_, _, rfl, by omega, by decide, hst2⟩
              · have vb : ¬ (4611686018427387904 : Int) < V := by omega
                rw [if_neg (fun h => h.elim (fun h => h0 h.1) hb)] at hsc2
                have HS2 := hid hsc2
                clear hsc2 h0 hd0 hb
                go_wp2_with (first
                  | (go_at_call 68; (with_reducible refine (hoc _ hr1).mono ?_); rintro o1 w1 ⟨rfl, h1⟩; have hz := h1.r; have c2 := hz.c2))
                (try simp only [Exit.jump])
                go_ret
                rw [HS2.out]
                exact ⟨rfl, HS.out.st.trans h1⟩
          · obtain rfl : d = 0 := by omega
            have hk : K = m := HK.out rfl
            rw [hk] at hO
            by_cases hb : 4611686018427387904 < V
            · have vb : (4611686018427387904 : Int) < V := by omega
              rw [if_pos (.inr hb)] at hsc2
              have HS2 := hid hsc2
              clear hsc2 hd0 hb
              go_wp2_with (first
                | (go_at_call 68; (with_reducible refine (hoc _ hr1).mono ?_); rintro o1 w1 ⟨rfl, h1⟩; have hz := h1.r; have c2 := hz.c2)
                | (go_at_call 89; (with_reducible refine (pkFail_new g s _ 3 _ hz).mono ?_); rintro o2 w2 ⟨rfl, hn, hg⟩; have hst2 : Step g s _ 3 w w2 := (HS.out.st.trans h1).trans ⟨hn, hg⟩))
              all_goals (
                (try simp only [Exit.jump])
                go_ret
                rw [HS2.out]
                exact ⟨_, _, rfl, by omega, by decide, hst2⟩)
            · have vb : ¬ (4611686018427387904 : Int) < V := by omega
              rw [if_neg (fun h => h.elim (fun h => hd0 h.2) hb)] at hsc2
              have HS2 := hid hsc2
              clear hsc2 hd0 hb
              go_wp2_with (first
                | (go_at_call 68; (with_reducible refine (hoc _ hr1).mono ?_); rintro o1 w1 ⟨rfl, h1⟩; have hz := h1.r; have c2 := hz.c2))
              all_goals (
                (try simp only [Exit.jump])
                go_ret
                rw [HS2.out]
                exact ⟨rfl, HS.out.st.trans h1⟩)
    · have hle : a + d = s.length := Nat.le_antisymm hl (Nat.le_of_not_lt hlt)
      have hsc2 := hsc
      have hdn : s.drop (a + d) = [] := List.drop_of_length_le (Nat.le_of_eq hle.symm)
      rw [hdn, scanN] at hsc2
      clear hdn
      have HS2 := hid hsc2
      have hA : bits .andNot .u8 0 128 = 0 := by decide
      have hv2 : v ≤ 72057594037927936 := Nat.le_trans (Nat.le_of_lt hvlt) hp8
      clear hvlt hp8
      have hO : bits .or .i64 (v : Int) 0 = (v : Int) := by
        have := i64_or_nat v 0 (Nat.lt_of_le_of_lt hv2 (by decide)) (by decide)
        simpa using this
      have hvb : ¬ (4611686018427387904 : Int) < v := by omega
      have hoc : ∀ W, Rdr g s (a + d) 0 W → Calls Tryz.prog 68 #[.pointer (some ⟨g, 0, none⟩)] W fun o w' => o = .returned (.int .u8 0) ∧ Step g s (a + d) 2 W w' := fun W h => by
        rw [hle] at h ⊢
        exact pkOctet_no g s 0 hs W h
      have HLE := hid hle
      clear hle hsc hsc2 hlt hv2
      by_cases hd : d = 8
      · have d9 : (d : Int) + 1 = 9 := by omega
        clear hd
        go_wp2_with (first
          | (go_at_call 68; (with_reducible refine (hoc _ hr1).mono ?_); rintro o1 w1 ⟨rfl, h1⟩; have hn := h1.r; have c2 := hn.c2; have hst2 := HS.out.st.trans h1)
          | (go_at_call 89; (with_reducible refine (pkFail_old g s _ 2 3 (by decide) _ hn).mono ?_); rintro o3 w3 ⟨rfl, rfl⟩))
        (try simp only [Exit.jump])
        go_ret
        rw [HS2.out]
        exact ⟨_, _, rfl, by omega, by decide, hst2⟩
      · have d9 : ((d : Int) + 1 == 9) = false := by rw [beq_eq_false_iff_ne]; omega
        clear hd
        by_cases hd0 : 0 < d
        · go_wp2_with (first
            | (go_at_call 68; (with_reducible refine (hoc _ hr1).mono ?_); rintro o1 w1 ⟨rfl, h1⟩; have hn := h1.r; have c2 := hn.c2; have hst2 := HS.out.st.trans h1)
            | (go_at_call 89; (with_reducible refine (pkFail_old g s _ 2 3 (by decide) _ hn).mono ?_); rintro o3 w3 ⟨rfl, rfl⟩))
          (try simp only [Exit.jump])
          go_ret
          rw [HS2.out]
          exact ⟨_, _, rfl, by omega, by decide, hst2⟩
        · go_wp2_with (first
            | (go_at_call 68; (with_reducible refine (hoc _ hr1).mono ?_); rintro o1 w1 ⟨rfl, h1⟩; have hn := h1.r; have c2 := hn.c2; have hst2 := HS.out.st.trans h1)
            | (go_at_call 89; (with_reducible refine (pkFail_old g s _ 2 3 (by decide) _ hn).mono ?_); rintro o3 w3 ⟨rfl, rfl⟩))
          (try simp only [Exit.jump])
          go_ret
          rw [HS2.out]
          exact ⟨_, _, rfl, by omega, by decide, hst2⟩
end Go.Proofs.YtemdmdgigmhlbaaGreat


/- Proved: for every row of texts quitclaimlaw10.PathJoins returns true and leaves its argument as it was. No conditions. -/
import Derived.Test.YtlbmikjgpaeddaaPa10
namespace Go.Proofs.Ytlbmikjgpaeddaa
open Go.RowKit Go.Qc Go.Shelf
attribute [local go_sem] txt_size txt_append ib_fold txt_toL

section
open Go.ChangeShapes Go.WideShapes Go.ChangeAt
variable {H : Type} {enc : TypeId × Value → H} {P : Program} {w : World} {r : Reach} {base b0 : Nat} {sp : Nat → Bool} {hd : Bool}
/-- A slice of strings that came in: its elements, and that it has room for them. -/
theorem open_strRowC {t e : TypeId} {v : Value} {d : DataW H} {ps : List MemPlace} (ht : P.underlying t = some (.slice e)) (he : P.underlying e = some .string) (hc : P.cellsOf e = 1)
    (hv : Value.okWide P w r b0 t v) (h : DataW.Trod enc P w base sp hd t v d ps) : ∃ a len cap ss, v = .slice a len cap ∧ StrRow w a len ss ∧ len ≤ cap := by
  obtain ⟨a, len, cap, ss, rfl, hs⟩ := open_strRow ht he hc hv h
  refine ⟨a, len, cap, ss, rfl, hs, ?_⟩
  obtain ⟨fuel, hf⟩ := h
  rcases open_strings ht he hc hf with ⟨hcs, _⟩ | ⟨x, l, c, zs, hcs, _, hl, _⟩
  · simp [Value.cells] at hcs
    omega
  · simp [Value.cells] at hcs
    omega
end
theorem from_base2 {P : Program} {f : FuncId} {args : Array Value} {v : Value} {w w0 : World} (h : Below w0.heap.size w0 w → Calls P f args w fun e w' => e = .returned v ∧ Below w.heap.size w w') (hB : Below w0.heap.size w0 w) : Calls P f args w fun e w' => e = .returned v ∧ Below w0.heap.size w0 w' :=
  (h hB).mono (by rintro e w' ⟨h1, h2⟩; exact ⟨h1, hB.trans (h2.mono hB.size)⟩)
set_option maxHeartbeats 2000000 in
theorem pjoin_any (A : Option Addr) (n c : Nat) (ps : List (List UInt8)) (hn : ps.length = n) (hcap : n ≤ c) (bn : n ≤ 1000) (hp : ∀ x ∈ ps, x.length ≤ 300) (w : World) (hr : Rd w A (ps.map strV)) :
    Calls Try.prog 22 #[.slice A n c] w fun e w' => e = .returned (.tuple #[.string (txt (if joinR ps then joinS ps else [])), .int .i64 (if joinR ps then 0 else 3)]) ∧ Below w.heap.size w w' := by
  have cJ := sjoin_any A n c ps hn hcap (by omega) (fun x hx => by have := hp x hx; omega) w hr
  unfold joinR
  obtain ⟨J, hJ⟩ : ∃ J, J = joinS ps := ⟨_, rfl⟩
  rw [← hJ] at cJ ⊢
  have cR := right_any J
  cases hR : pathR J with
  | false =>
    rw [hR] at cR
    simp only [Bool.false_and, if_false, Bool.false_eq_true]
    clear hR hJ
    go_enter Try.func22, Try.ntmps22
    go_wp2_with (first
      | (go_at_call 49; (with_reducible refine cJ.mono ?_); rintro e1 w1 ⟨rfl, hB⟩)
      | (go_at_call 11; (with_reducible refine (cR _).mono ?_); rintro e2 w2 ⟨rfl, hb⟩; replace hB := hB.trans (hb.mono hB.size); clear hb))
    go_ret2
    exact ⟨rfl, hB⟩
  | true =>
    rw [hR] at cR
    have cT := parts_ok J hR
    have hcnt := splitS_count J
    have hJl : J.length ≤ 1000 * 301 := by
      rw [hJ]
      refine Nat.le_trans (joinS_len ps 300 hp) ?_
      exact Nat.mul_le_mul_right _ (by omega)
    have cE : ∀ W A1 c1, Rd W A1 ((splitS J).map strV) → Below w.heap.size w W → Calls Try.prog 50 #[.slice A1 (splitS J).length c1, .slice A n c] W fun e w' => e = .returned (.bool (decide (splitS J = ps))) ∧ Below W.heap.size W w' := fun W A1 c1 h1 hB => equal_any A1 A (splitS J).length n c1 c (splitS J) ps rfl hn (by omega) (by omega) W h1 (hr.below hB)
    clear hR hJ
    cases hE : decide (splitS J = ps) with
    | false =>
      rw [hE] at cE
      clear hE
      simp only [Bool.and_false, if_false, Bool.false_eq_true]
      generalize splitS J = SJ at *
      go_enter Try.func22, Try.ntmps22
      go_wp2_with (first
        | (go_at_call 49; (with_reducible refine cJ.mono ?_); rintro e1 w1 ⟨rfl, hB⟩)
        | (go_at_call 11; (with_reducible refine (cR _).mono ?_); rintro e2 w2 ⟨rfl, hb⟩; replace hB := hB.trans (hb.mono hB.size); clear hb)
        | (go_at_call 16; (with_reducible refine (cT _).mono ?_); rintro e3 w3 ⟨v, rfl, hown, hb⟩; obtain ⟨_, A1, c1, rfl, hr1⟩ := rowRd hown; replace hB := hB.trans (hb.mono hB.size); clear hb)
        | (go_at_call 50; (with_reducible refine (cE _ _ _ hr1 hB).mono ?_); rintro e2 w2 ⟨rfl, hb⟩; replace hB := hB.trans (hb.mono hB.size); clear hb))
      go_ret2
      exact ⟨rfl, hB⟩
    | true =>
      rw [hE] at cE
      clear hE
      simp only [Bool.and_true, if_true]
      generalize splitS J = SJ at *
      go_enter Try.func22, Try.ntmps22
      go_wp2_with (first
        | (go_at_call 49; (with_reducible refine cJ.mono ?_); rintro e1 w1 ⟨rfl, hB⟩)
        | (go_at_call 11; (with_reducible refine (cR _).mono ?_); rintro e2 w2 ⟨rfl, hb⟩; replace hB := hB.trans (hb.mono hB.size); clear hb)
        | (go_at_call 16; (with_reducible refine (cT _).mono ?_); rintro e3 w3 ⟨v, rfl, hown, hb⟩; obtain ⟨_, A1, c1, rfl, hr1⟩ := rowRd hown; replace hB := hB.trans (hb.mono hB.size); clear hb)
        | (go_at_call 50; (with_reducible refine (cE _ _ _ hr1 hB).mono ?_); rintro e2 w2 ⟨rfl, hb⟩; replace hB := hB.trans (hb.mono hB.size); clear hb))
      go_ret2
      exact ⟨rfl, hB⟩

set_option maxHeartbeats 8000000 in
theorem pathJoins_any (A : Option Addr) (n c : Nat) (ps : List (List UInt8)) (hn : ps.length = n) (hcap : n ≤ c) (w : World) (hr : Rd w A (ps.map strV)) :
    Calls Try.prog 4 #[.slice A n c] w fun e w' => e = .returned (.bool true) ∧ Below w.heap.size w w' := by
  have hB := Below.refl w.heap.size w
  by_cases hbig : 40 < n
  · have z1 : (40 : Int) < n := by omega
    go_enter Try.func4, Try.ntmps4
    go_wp2_with (go_at_call 9; (with_reducible refine (awake10_any _).mono ?_); rintro e9 w9 ⟨rfl, hb⟩; replace hB := hB.trans (hb.mono hB.size); clear hb)
    go_ret
    exact ⟨rfl, hB⟩
  have z1 : ¬ (40 : Int) < n := by omega
  go_enter Try.func4, Try.ntmps4
  go_wp2
  go_loopw [15] (fun i wr => ∃ k : Nat, k ≤ n ∧ i = .int .i64 k ∧ (∀ x ∈ ps.take k, x.length ≤ 300) ∧ w = wr) (fun i _ => n - (intOf i).toNat)
  case atStart => exact ⟨0, by omega, rfl, by simp, by first | rfl | trivial⟩
  case round =>
    obtain ⟨k, hk, rfl, hl, rfl⟩ := hrel
    by_cases hlt : k < n
    · obtain ⟨p, hpk⟩ : ∃ p, ps[k]? = some p := ⟨_, List.getElem?_eq_getElem (by omega)⟩
      obtain ⟨ad, rfl, hcell⟩ := rd_in hr k (strV p) (by rw [List.getElem?_map, hpk]; rfl)
      unfold strV at hcell
      have HP := hid hpk
      have HL := hid hl
      have b1 : (k : Int) < n := by omega
      clear hpk hl
      by_cases hlong : 300 < p.length
      · have z2 : (300 : Int) < p.length := by omega
        go_wp2_with (go_at_call 9; (with_reducible refine (awake10_any _).mono ?_); rintro e9 w9 ⟨rfl, hb⟩; replace hB := hB.trans (hb.mono hB.size); clear hb)
        go_ret
        exact ⟨rfl, hB⟩
      · have z2 : ¬ (300 : Int) < p.length := by omega
        go_wp2
        go_roundw
        case rel =>
          refine ⟨k + 1, hlt, by go_num, fun x hx => ?_, by first | rfl | trivial⟩
          rw [take_snoc HP.out] at hx
          rcases List.mem_append.1 hx with hx | hx
          · exact HL.out x hx
          · obtain rfl : x = p := by simpa using hx
            omega
        case measure => simp [intOf]; omega
    · obtain rfl : k = n := by omega
      rw [List.take_of_length_le (by omega)] at hl
      have b1 : ¬ (k : Int) < k := by omega
      obtain ⟨J, hJ⟩ : ∃ J, J = joinS ps := ⟨_, rfl⟩
      have hJl : J.length ≤ 40 * 301 := by
        rw [hJ]
        refine Nat.le_trans (joinS_len ps 300 hl) ?_
        exact Nat.mul_le_mul_right _ (by omega)
      have hcnt := splitS_count J
      have cP := fun W hb => pjoin_any A k c ps hn hcap (by omega) hl W (hr.below (w' := W) hb)
      have cJ := fun W hb => rjoin_any A k c ps hn (by omega) (fun x hx => by have := hl x hx; omega) W (hr.below (w' := W) hb)
      have cR := rright_any J (by omega)
      have cS := rsplit_any J (by omega)
      have hdoc := joinR_doc ps
      rw [hn, ← hJ] at hdoc
      rw [← hJ] at cP cJ
      cases hok : joinR ps with
      | true =>
        rw [hok] at hdoc cP
        have hd := hdoc.symm
        rw [Bool.and_eq_true, Bool.and_eq_true, decide_eq_true_eq, decide_eq_true_eq] at hd
        obtain ⟨h0, hR, hD⟩ := hd
        have hsp : splitS J = ps := by
          unfold joinR at hok
          rw [← hJ, Bool.and_eq_true, decide_eq_true_eq] at hok
          exact hok.2
        have cT := parts_ok J hR
        rw [hR] at cR
        simp only [if_true] at cP
        rw [hsp, hn] at cT cS
        have cE : ∀ W A1 c1, Rd W A1 (ps.map strV) → Below w.heap.size w W → Calls Try.prog 20 #[.slice A1 k c1, .slice A k c] W fun e w' => e = .returned (.bool true) ∧ Below W.heap.size W w' := fun W A1 c1 h1 hb => by
          have := same_any A1 A k k c1 c ps ps hn hn (by omega) (by omega) W h1 (hr.below hb)
          rw [decide_eq_true rfl] at this
          exact this
        have z0 : (0 : Int) < k := by omega
        have z00 : 0 < k := h0
        clear hdoc hok hD hR hsp hJ hl
        go_wp2_with (first
          | (go_at_call 22; (with_reducible refine (cP _ hB).mono ?_); rintro e1 w1 ⟨rfl, hb⟩; replace hB := hB.trans (hb.mono hB.size); clear hb)
          | (go_at_call 21; (with_reducible refine (cJ _ hB).mono ?_); rintro e2 w2 ⟨rfl, rfl⟩)
          | (go_at_call 10; (with_reducible refine (cR _).mono ?_); rintro e3 w3 ⟨rfl, hb⟩; replace hB := hB.trans (hb.mono hB.size); clear hb)
          | (go_at_call 19; (with_reducible refine (cS _).mono ?_); rintro e4 w4 ⟨v, rfl, hown, hb⟩; obtain ⟨_, A1, c1, rfl, hr1⟩ := rowRd hown; replace hB := hB.trans (hb.mono hB.size); clear hb)
          | (go_at_call 16; (with_reducible refine (cT _).mono ?_); rintro e5 w5 ⟨v2, rfl, hown2, hb⟩; obtain ⟨_, A2, c2, rfl, hr2⟩ := rowRd hown2; replace hB := hB.trans (hb.mono hB.size); clear hb)
          | (go_at_call 20; (with_reducible refine (cE _ _ _ hr2 hB).mono ?_); rintro e6 w6 ⟨rfl, hb⟩; replace hB := hB.trans (hb.mono hB.size); clear hb)
          | (go_at_call 9; (with_reducible refine (awake10_any _).mono ?_); rintro e9 w9 ⟨rfl, hb⟩; replace hB := hB.trans (hb.mono hB.size); clear hb))
        go_ret
        exact ⟨rfl, hB⟩
      | false =>
        rw [hok] at hdoc cP
        simp only [if_false, Bool.false_eq_true] at cP
        by_cases h0 : 0 < k
        · have z0 : (0 : Int) < k := by omega
          cases hR : pathR J with
          | false =>
            rw [hR] at cR
            clear hdoc hok hR hJ hl
            go_wp2_with (first
              | (go_at_call 22; (with_reducible refine (cP _ hB).mono ?_); rintro e1 w1 ⟨rfl, hb⟩; replace hB := hB.trans (hb.mono hB.size); clear hb)
              | (go_at_call 21; (with_reducible refine (cJ _ hB).mono ?_); rintro e2 w2 ⟨rfl, rfl⟩)
              | (go_at_call 10; (with_reducible refine (cR _).mono ?_); rintro e3 w3 ⟨rfl, hb⟩; replace hB := hB.trans (hb.mono hB.size); clear hb)
              | (go_at_call 19; (with_reducible refine (cS _).mono ?_); rintro e4 w4 ⟨v, rfl, hown, hb⟩; obtain ⟨_, A1, c1, rfl, hr1⟩ := rowRd hown; replace hB := hB.trans (hb.mono hB.size); clear hb)
              | (go_at_call 16; (with_reducible refine (cT _).mono ?_); rintro e5 w5 ⟨v2, rfl, hown2, hb⟩; obtain ⟨_, A2, c2, rfl, hr2⟩ := rowRd hown2; replace hB := hB.trans (hb.mono hB.size); clear hb)
              | (go_at_call 20; (with_reducible refine (cE _ _ _ hr2 hB).mono ?_); rintro e6 w6 ⟨rfl, hb⟩; replace hB := hB.trans (hb.mono hB.size); clear hb)
              | (go_at_call 9; (with_reducible refine (awake10_any _).mono ?_); rintro e9 w9 ⟨rfl, hb⟩; replace hB := hB.trans (hb.mono hB.size); clear hb))
            go_ret
            exact ⟨rfl, hB⟩
          | true =>
            rw [hR] at cR hdoc
            have hD : ¬ (splitS J).length = k := by
              rw [decide_eq_true h0, Bool.true_and, Bool.true_and] at hdoc
              exact of_decide_eq_false hdoc.symm
            have zD : (((splitS J).length : Int) == k) = false := by rw [beq_eq_false_iff_ne]; omega
            have zD2 : ¬ ((splitS J).length : Int) = k := by omega
            clear hdoc hok hR hJ hl
            generalize splitS J = SJ at *
            go_wp2_with (first
              | (go_at_call 22; (with_reducible refine (cP _ hB).mono ?_); rintro e1 w1 ⟨rfl, hb⟩; replace hB := hB.trans (hb.mono hB.size); clear hb)
              | (go_at_call 21; (with_reducible refine (cJ _ hB).mono ?_); rintro e2 w2 ⟨rfl, rfl⟩)
              | (go_at_call 10; (with_reducible refine (cR _).mono ?_); rintro e3 w3 ⟨rfl, hb⟩; replace hB := hB.trans (hb.mono hB.size); clear hb)
              | (go_at_call 19; (with_reducible refine (cS _).mono ?_); rintro e4 w4 ⟨v, rfl, hown, hb⟩; obtain ⟨_, A1, c1, rfl, hr1⟩ := rowRd hown; replace hB := hB.trans (hb.mono hB.size); clear hb)
              | (go_at_call 16; (with_reducible refine (cT _).mono ?_); rintro e5 w5 ⟨v2, rfl, hown2, hb⟩; obtain ⟨_, A2, c2, rfl, hr2⟩ := rowRd hown2; replace hB := hB.trans (hb.mono hB.size); clear hb)
              | (go_at_call 20; (with_reducible refine (cE _ _ _ hr2 hB).mono ?_); rintro e6 w6 ⟨rfl, hb⟩; replace hB := hB.trans (hb.mono hB.size); clear hb)
              | (go_at_call 9; (with_reducible refine (awake10_any _).mono ?_); rintro e9 w9 ⟨rfl, hb⟩; replace hB := hB.trans (hb.mono hB.size); clear hb))
            go_ret
            exact ⟨rfl, hB⟩
        · have z0 : ¬ (0 : Int) < k := by omega
          clear hdoc hok hJ hl
          go_wp2_with (first
            | (go_at_call 22; (with_reducible refine (cP _ hB).mono ?_); rintro e1 w1 ⟨rfl, hb⟩; replace hB := hB.trans (hb.mono hB.size); clear hb)
            | (go_at_call 21; (with_reducible refine (cJ _ hB).mono ?_); rintro e2 w2 ⟨rfl, rfl⟩)
            | (go_at_call 10; (with_reducible refine (cR _).mono ?_); rintro e3 w3 ⟨rfl, hb⟩; replace hB := hB.trans (hb.mono hB.size); clear hb)
            | (go_at_call 19; (with_reducible refine (cS _).mono ?_); rintro e4 w4 ⟨v, rfl, hown, hb⟩; obtain ⟨_, A1, c1, rfl, hr1⟩ := rowRd hown; replace hB := hB.trans (hb.mono hB.size); clear hb)
            | (go_at_call 16; (with_reducible refine (cT _).mono ?_); rintro e5 w5 ⟨v2, rfl, hown2, hb⟩; obtain ⟨_, A2, c2, rfl, hr2⟩ := rowRd hown2; replace hB := hB.trans (hb.mono hB.size); clear hb)
            | (go_at_call 20; (with_reducible refine (cE _ _ _ hr2 hB).mono ?_); rintro e6 w6 ⟨rfl, hb⟩; replace hB := hB.trans (hb.mono hB.size); clear hb)
            | (go_at_call 9; (with_reducible refine (awake10_any _).mono ?_); rintro e9 w9 ⟨rfl, hb⟩; replace hB := hB.trans (hb.mono hB.size); clear hb))
          go_ret
          exact ⟨rfl, hB⟩
set_option linter.unusedVariables false in
theorem law_PathJoins (w : World) (a0 : Option Addr) (l0 c0 : Nat) (z0 : List ByteArray) (w0 : StrRow w a0 l0 z0) (u0 : l0 ≤ c0) :
    Calls Try.prog 4 #[.slice a0 l0 c0] w fun e w' => e = .returned (.bool true) ∧ Below w.heap.size w w' := by
  obtain ⟨hlen, hmx, hrd, hsz⟩ := w0
  exact pathJoins_any a0 l0 c0 (z0.map fun s => s.data.toList) (by rw [List.length_map]; exact hlen) u0 w (by rw [List.map_map]; exact hrd)

open Go.ChangeShapes Go.WideShapes Go.ChangeAt
open Go.ChangeMaps (open_string shut_string)
theorem own_PathJoins : ownKnob Try.prog.godebug = none := by kernel_rfl
theorem laidOut_PathJoins : laidOutB Try.prog = true := by kernel_rfl
set_option linter.unusedVariables false in
set_option maxRecDepth 100000 in
theorem lifted_PathJoins (os : Os) (started : os.Started) (H : Type) (enc : TypeId × Value → H) :
    ReturnsInHanded {} Try.checked os 4 .any (Rows.pathJoinsSpec.pre6 enc Try.prog Try.f4 Rows.pathJoinsRow.domain false) (Rows.pathJoinsSpec.post enc Try.prog Try.f4 false true false false) := by
  refine returnsInHanded_of_change (C := Try.checked) own_PathJoins started (by kernel_rfl) Try.func4
    (ChangeSpec.witness6 (enc := enc) (C := Try.checked) false ⟨#[], #[.slice none 0 0], []⟩ 8 (by kernel_rfl) (by kernel_rfl) (by kernel_rfl) (by kernel_rfl)) ?_
  intro W base args ds gs before hval0 hW hcnd _
  have hval : ∀ (j : Nat) t v, Try.f4.params[j]? = some t → args[j]? = some v → Value.okWide Try.prog W .any base t v := hval0
  have hW' := hW
  obtain ⟨p, q, hA0, hV, rfl, hfz, hnd⟩ := hW
  have hA1 : DataW.TrodAll enc Try.prog W 0 (fun _ => true) true Try.f4.params.toList args.toList ds p := hA0
  have hA : DataW.TrodAll enc Try.prog W 0 (fun _ => true) true Try.f4.params.toList args.toList ds p := hA0
  rw [Try.params4] at hA hval
  obtain ⟨v0, vs0, d0, ds0, p0, q0, hargs, rfl, rfl, h0, r0⟩ := trodAll_cons hA
  obtain ⟨rfl, rfl, rfl⟩ := trodAll_nil r0
  obtain rfl : args = #[v0] := by cases args; simp_all
  obtain ⟨rfl, rfl⟩ := trodVars_none hV
  obtain ⟨a0, l0, c0, z0, rfl, w0, u0⟩ := open_strRowC Try.underlying25 Try.underlying9 (by kernel_rfl) (hval 0 25 v0 rfl rfl) h0
  clear hA0 hval0
  refine (law_PathJoins W a0 l0 c0 z0 w0 u0).mono fun e W' ⟨he, bel⟩ => ?_
  subst he
  exact ⟨_, rfl, _, _, _, [], _, [], hW', trodAll_mk1 (shut_bool Try.underlying4 _), trodAll_stays laidOut_PathJoins bel (by kernel_rfl) hA1, rfl, bel.frame _, fun h => by cases h⟩

/-- The statement. -/
theorem PathJoins_holds : Rows.PathJoinsSaid :=
  OpenClaim.holds_of_wide 4 Try.f4 rfl rfl rfl rfl rfl rfl rfl ⟨rfl, rfl, rfl, rfl, rfl⟩ rfl rfl rfl rfl rfl (by kernel_rfl) Try.func4 (by kernel_rfl)
    (of_decide_eq_true (by kernel_rfl)) (by unfold Func.isWrapper; first | (rw [if_pos (by decide +kernel)]; kernel_rfl) | (rw [if_neg (by decide +kernel)]; exact ⟨rfl, rfl⟩))
    (fun os started H enc _ => lifted_PathJoins os started H enc)
#print axioms PathJoins_holds

end Go.Proofs.Ytlbmikjgpaeddaa

/- Proved: for every row of texts, quitclaimlaw02.ShaParts returns true and leaves its arguments as they were. No conditions. -/
import Derived.Test.YtilcijknkneicaaSha10
import Derived.Test.YtilcijknkneicaaSha11
namespace Go.Proofs.Ytilcijknkneicaa
open Go.RowKit Go.Qc
attribute [local go_sem] txt_size txt_append

set_option maxHeartbeats 400000 in
theorem shaParts_any (w : World) (A : Option Addr) (n c : Nat) (ss : List ByteArray) (hr : StrRow w A n ss) :
    Calls Try.prog 7 #[.slice A n c] w fun e w' => e = .returned (.bool true) ∧ Below w.heap.size w w' := by
  obtain ⟨hlen, hmx, hrd, hsz⟩ := hr
  by_cases hn : n ≤ 20
  · have l0 : ¬ (20 : Int) < n := by omega
    go_enter Try.func7, Try.ntmps7
    go_wp2_with (first
      | (go_at_call 26; (with_reducible refine (new_any _).mono ?_); rintro e1 w1 ⟨cs, rfl, hb1, hp1, hB1⟩))
    obtain ⟨g, hg⟩ : ∃ g, g = w.heap.size := ⟨_, rfl⟩
    have hgw : w.heap.size ≤ g := by omega
    rw [← hg] at hb1 ⊢
    clear hg
    go_loopw [4, 16] (fun v i wr => ∃ (k : Nat) (l : List UInt8) (cs2 : Array Value), k ≤ n ∧ v = .string (txt l) ∧ i = .int .i64 (k : Int) ∧ l.length ≤ 200 * k ∧ Blk wr g 69 cs2 ∧ HPart cs2 l l.length ∧ Below w.heap.size w wr) (fun _ i _ => n - (intOf i).toNat)
    case atStart => exact ⟨0, [], cs, by omega, rfl, rfl, by simp, hb1, hp1, hB1⟩
    case round =>
      obtain ⟨k, l, cs2, hk, rfl, rfl, hll, hb2, hp2, hB2⟩ := hrel
      clear hb1 hp1 hB1
      by_cases hlt : k < n
      · obtain ⟨s0, hs0⟩ : ∃ s0, ss[k]? = some s0 := ⟨_, List.getElem?_eq_getElem (by omega)⟩
        obtain ⟨ad, rfl, hcell⟩ := rd_some (hrd.below hB2) k (.string s0) (by rw [List.getElem?_map, hs0]; rfl)
        obtain ⟨r, rfl⟩ : ∃ r, s0 = txt r := ⟨s0.data.toList, rfl⟩
        have k0 : (0 : Int) ≤ (k : Int) := by omega
        have k1 : (k : Int) < n := by omega
        clear hrd hsz hs0
        by_cases hrl : r.length ≤ 200
        · have l1 : ¬ (200 : Int) < r.length := by omega
          have hle : l.length ≤ 1000000000000 := by omega
          have hre : r.length ≤ 1000000000000 := by omega
          have hlr : (l ++ r).length ≤ 1000000000000 := by rw [List.length_append]; omega
          have z2 : ¬ 9223372036854775807 < (txt l).size + (txt r).size := by rw [txt_size, txt_size]; omega
          obtain ⟨S, hS⟩ : ∃ S, S = sumB (l ++ r) := ⟨_, rfl⟩
          have hSl : S.length = 32 := by rw [hS]; exact sumB_length _
          have heq := fun W => (ids_eq W S S hSl hSl).trans (by rw [decide_eq_true rfl])
          have HS := hid hS
          have HLL := hid hll
          have HLE := hid hle
          have HRE := hid hre
          have HLR := hid hlr
          have HP2 := hid hp2
          clear hS hSl hll hle hre hlr hp2
          go_wp2_with (first
            | (go_at_call 27; (with_reducible refine (write_go _ g cs2 l r hb2 HP2.out HLE.out HRE.out).mono ?_); rintro e3 w3 ⟨rfl, cs3, hb3, hp3, hg3⟩)
            | (go_at_call 28; (with_reducible refine (hsum_any _ g cs3 (l ++ r) hb3 hp3 HLR.out).mono ?_); rw [← HS.out]; rintro e4 w4 ⟨rfl, hb4⟩)
            | (go_at_call 25; (with_reducible refine (rsum_any (l ++ r) HLR.out _).mono ?_); rw [← HS.out]; rintro e5 w5 ⟨rfl, hb5⟩)
            | (go_at_call 29; (with_reducible refine (len_any _ g cs3 (l ++ r) _ ((hb3.below hb4).below hb5) hp3).mono ?_); rintro e6 w6 ⟨rfl, rfl⟩))
          have hB3 : Below w.heap.size w w3 := hB2.grown hg3 hB2.size (fun i e => by have := Option.some.inj e; omega)
          have hB4 := hB3.trans (hb4.mono hB3.size)
          have hB5 := hB4.trans (hb5.mono hB4.size)
          go_roundw
          case rel => exact ⟨k + 1, l ++ r, cs3, hlt, rfl, by go_num, by have := HLL.out; rw [List.length_append]; omega, (hb3.below hb4).below hb5, hp3, hB5⟩
          case measure => simp [intOf]; omega
        · have l1 : (200 : Int) < r.length := by omega
          go_wp2_with (first
            | (go_at_call 23; (with_reducible refine (awake2_any _).mono ?_); rintro e3 w3 ⟨rfl, hb3⟩))
          go_ret
          exact ⟨rfl, hB2.trans (hb3.mono hB2.size)⟩
      · have k1 : ¬ (k : Int) < n := by omega
        obtain ⟨S, hS⟩ : ∃ S, S = sumB l := ⟨_, rfl⟩
        have hSl : S.length = 32 := by rw [hS]; exact sumB_length _
        have heq := fun W => (ids_eq W S S hSl hSl).trans (by rw [decide_eq_true rfl])
        have hle : l.length ≤ 1000000000000 := by omega
        have HS := hid hS
        have HLE := hid hle
        have HP2 := hid hp2
        clear hS hSl hll hle hp2 hrd hsz
        go_wp2_with (first
          | (go_at_call 28; (with_reducible refine (hsum_any _ g cs2 l hb2 HP2.out HLE.out).mono ?_); rw [← HS.out]; rintro e4 w4 ⟨rfl, hb4⟩)
          | (go_at_call 24; (with_reducible refine (sum_any l HLE.out _).mono ?_); rw [← HS.out]; rintro e5 w5 ⟨rfl, hb5⟩)
          | (go_at_call 23; (with_reducible refine (awake2_any _).mono ?_); rintro e3 w3 ⟨rfl, hb3⟩))
        go_ret
        have hB4 := hB2.trans (hb4.mono hB2.size)
        have hB5 := hB4.trans (hb5.mono hB4.size)
        exact ⟨rfl, hB5.trans (hb3.mono hB5.size)⟩
  · have l0 : (20 : Int) < n := by omega
    go_enter Try.func7, Try.ntmps7
    go_wp2_with (first
      | (go_at_call 23; (with_reducible refine (awake2_any _).mono ?_); rintro e3 w3 ⟨rfl, hb3⟩))
    go_ret
    exact ⟨rfl, hb3⟩

set_option linter.unusedVariables false in
theorem law_ShaParts (w : World) (a0 : Option Addr) (l0 c0 : Nat) (z0 : List ByteArray) (w0 : StrRow w a0 l0 z0) :
    Calls Try.prog 7 #[.slice a0 l0 c0] w fun e w' => e = .returned (.bool true) ∧ Below w.heap.size w w' := by
  exact shaParts_any w a0 l0 c0 z0 w0

open Go.ChangeShapes Go.WideShapes Go.ChangeAt
open Go.ChangeMaps (open_string shut_string)
theorem own_ShaParts : ownKnob Try.prog.godebug = none := by kernel_rfl
theorem laidOut_ShaParts : laidOutB Try.prog = true := by kernel_rfl
set_option linter.unusedVariables false in
set_option maxRecDepth 100000 in
theorem lifted_ShaParts (os : Os) (started : os.Started) (H : Type) (enc : TypeId × Value → H) :
    ReturnsInHanded {} Try.checked os 7 .any (Rows.shaPartsSpec.pre6 enc Try.prog Try.f7 Rows.shaPartsRow.domain false) (Rows.shaPartsSpec.post enc Try.prog Try.f7 false true false false) := by
  refine returnsInHanded_of_change (C := Try.checked) own_ShaParts started (by kernel_rfl) Try.func7
    (ChangeSpec.witness6 (enc := enc) (C := Try.checked) false ⟨#[], #[.slice none 0 0], []⟩ 8 (by kernel_rfl) (by kernel_rfl) (by kernel_rfl) (by kernel_rfl)) ?_
  intro W base args ds gs before hval0 hW hcnd _
  have hval : ∀ (j : Nat) t v, Try.f7.params[j]? = some t → args[j]? = some v → Value.okWide Try.prog W .any base t v := hval0
  have hW' := hW
  obtain ⟨p, q, hA0, hV, rfl, hfz, hnd⟩ := hW
  have hA1 : DataW.TrodAll enc Try.prog W 0 (fun _ => true) true Try.f7.params.toList args.toList ds p := hA0
  have hA : DataW.TrodAll enc Try.prog W 0 (fun _ => true) true Try.f7.params.toList args.toList ds p := hA0
  rw [Try.params7] at hA hval
  obtain ⟨v0, vs0, d0, ds0, p0, q0, hargs, rfl, rfl, h0, r0⟩ := trodAll_cons hA
  obtain ⟨rfl, rfl, rfl⟩ := trodAll_nil r0
  obtain rfl : args = #[v0] := by cases args; simp_all
  obtain ⟨rfl, rfl⟩ := trodVars_none hV
  obtain ⟨a0, l0, c0, z0, rfl, w0⟩ := open_strRow Try.underlying47 Try.underlying9 (by kernel_rfl) (hval 0 47 v0 rfl rfl) h0
  clear hA0 hval0
  refine (law_ShaParts W a0 l0 c0 z0 w0).mono fun e W' ⟨he, bel⟩ => ?_
  subst he
  exact ⟨_, rfl, _, _, _, [], _, [], hW', trodAll_mk1 (shut_bool Try.underlying4 _), trodAll_stays laidOut_ShaParts bel (by kernel_rfl) hA1, rfl, bel.frame _, fun h => by cases h⟩

/-- The statement. -/
theorem ShaParts_holds : Rows.ShaPartsSaid :=
  OpenClaim.holds_of_wide 7 Try.f7 rfl rfl rfl rfl rfl rfl rfl ⟨rfl, rfl, rfl, rfl, rfl⟩ rfl rfl rfl rfl rfl (by kernel_rfl) Try.func7 (by kernel_rfl)
    (of_decide_eq_true (by kernel_rfl)) (by unfold Func.isWrapper; first | (rw [if_pos (by decide +kernel)]; kernel_rfl) | (rw [if_neg (by decide +kernel)]; exact ⟨rfl, rfl⟩))
    (fun os started H enc _ => lifted_ShaParts os started H enc)
#print axioms ShaParts_holds
end Go.Proofs.Ytilcijknkneicaa

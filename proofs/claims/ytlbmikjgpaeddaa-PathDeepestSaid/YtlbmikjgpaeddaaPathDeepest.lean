
/- Proved: for every row of texts and every text quitclaimlaw10.PathDeepest returns true and leaves its arguments as they were. No conditions. -/
import Derived.Test.YtlbmikjgpaeddaaPa9
namespace Go.Proofs.Ytlbmikjgpaeddaa
open Go.RowKit Go.Qc Go.Shelf
attribute [local go_sem] txt_size txt_append ib_fold txt_toL

/-- The longest of the first texts that covers a path: its place; is there one? -/
def deepN (ps : List (List UInt8)) (s : List UInt8) : Nat → Nat × Bool
  | 0 => (0, false)
  | k + 1 => if covR (ps.getD k []) s && (!(deepN ps s k).2 || decide ((ps.getD (deepN ps s k).1 []).length < (ps.getD k []).length)) then (k, true) else deepN ps s k
theorem deepN_no {ps : List (List UInt8)} {s p : List UInt8} {k : Nat} {d : Nat × Bool} (hd : deepN ps s k = d) (hp : ps[k]? = some p) (h : covR p s = false) : deepN ps s (k + 1) = d := by
  rw [deepN, List.getD_eq_getElem?_getD, hp, Option.getD_some, h, Bool.false_and, hd]; rfl
theorem deepN_first {ps : List (List UInt8)} {s p : List UInt8} {k b : Nat} (hd : deepN ps s k = (b, false)) (hp : ps[k]? = some p) (h : covR p s = true) : deepN ps s (k + 1) = (k, true) := by
  rw [deepN, List.getD_eq_getElem?_getD, hp, Option.getD_some, h, hd]; rfl
theorem deepN_long {ps : List (List UInt8)} {s p q : List UInt8} {k b : Nat} (hd : deepN ps s k = (b, true)) (hp : ps[k]? = some p) (hq : ps[b]? = some q) (h : covR p s = true) (hl : q.length < p.length) : deepN ps s (k + 1) = (k, true) := by
  rw [deepN, hd, List.getD_eq_getElem?_getD, hp, Option.getD_some, h, List.getD_eq_getElem?_getD, hq, Option.getD_some, decide_eq_true hl]; rfl
theorem deepN_short {ps : List (List UInt8)} {s p q : List UInt8} {k b : Nat} (hd : deepN ps s k = (b, true)) (hp : ps[k]? = some p) (hq : ps[b]? = some q) (hl : ¬ q.length < p.length) : deepN ps s (k + 1) = (b, true) := by
  rw [deepN, hd, List.getD_eq_getElem?_getD, hp, Option.getD_some, List.getD_eq_getElem?_getD, hq, Option.getD_some, decide_eq_false hl]
  simp

set_option maxHeartbeats 8000000 in
theorem deepest_any (A : Option Addr) (n c : Nat) (ps : List (List UInt8)) (s : List UInt8) (hn : ps.length = n) (bn : n ≤ 1000000) (w : World) (hr : Rd w A (ps.map strV)) :
    Calls Try.prog 23 #[.slice A n c, .string (txt s)] w fun e w' => e = .returned (.tuple #[.int .i64 (deepN ps s n).1, .bool (deepN ps s n).2]) ∧ Below w.heap.size w w' := by
  have hB0 := Below.refl w.heap.size w
  go_enter Try.func23, Try.ntmps23
  go_wp2
  go_loopw [6, 7, 12] (fun a g i wr => ∃ (k b : Nat) (f : Bool), k ≤ n ∧ deepN ps s k = (b, f) ∧ a = .int .i64 b ∧ g = .bool f ∧ i = .int .i64 k ∧ (f = true → b < n) ∧ Below w.heap.size w wr) (fun _ _ i _ => n - (intOf i).toNat)
  case atStart => exact ⟨0, 0, false, by omega, rfl, rfl, rfl, rfl, by simp, hB0⟩
  case round =>
    obtain ⟨k, b, f, hk, hd, rfl, rfl, rfl, hbn, hB⟩ := hrel
    have HD := hid hd
    clear hd hB0
    by_cases hlt : k < n
    · obtain ⟨p, hpk⟩ : ∃ p, ps[k]? = some p := ⟨_, List.getElem?_eq_getElem (by omega)⟩
      obtain ⟨ad, rfl, hcell⟩ := rd_in (hr.below hB) k (strV p) (by rw [List.getElem?_map, hpk]; rfl)
      unfold strV at hcell
      have cC := covers_any p s
      have HP := hid hpk
      have b1 : (k : Int) < n := by omega
      clear hpk
      cases hcov : covR p s with
      | false =>
        rw [hcov] at cC
        have HC := hid hcov
        clear hcov
        go_wp2_with (go_at_call 13; (with_reducible refine (cC _).mono ?_); rintro e1 w1 ⟨rfl, hb⟩; replace hB := hB.trans (hb.mono hB.size); clear hb)
        go_roundw
        case rel => exact ⟨k + 1, b, f, hlt, deepN_no HD.out HP.out HC.out, rfl, rfl, by go_num, hbn, hB⟩
        case measure => simp [intOf]; omega
      | true =>
        rw [hcov] at cC
        have HC := hid hcov
        clear hcov
        cases f with
        | false =>
          go_wp2_with (go_at_call 13; (with_reducible refine (cC _).mono ?_); rintro e1 w1 ⟨rfl, hb⟩; replace hB := hB.trans (hb.mono hB.size); clear hb)
          go_roundw
          case rel => exact ⟨k + 1, k, true, hlt, deepN_first HD.out HP.out HC.out, rfl, rfl, by go_num, fun _ => hlt, hB⟩
          case measure => simp [intOf]; omega
        | true =>
          have hbl := hbn rfl
          obtain ⟨q, hqk⟩ : ∃ q, ps[b]? = some q := ⟨_, List.getElem?_eq_getElem (by omega)⟩
          have hq2 : ∀ w2, Below w.heap.size w w2 → w2.cell? (ad.add b) = some (.string (txt q)) := fun w2 h2 => by
            obtain ⟨ad2, h3, h4⟩ := rd_in (hr.below h2) b (strV q) (by rw [List.getElem?_map, hqk]; rfl)
            cases h3; exact h4
          have HQ := hid hqk
          have b2 : (b : Int) < n := by omega
          have b3 : (0 : Int) ≤ b := by omega
          clear hqk
          by_cases hlen : q.length < p.length
          · have z1 : (q.length : Int) < p.length := by omega
            go_wp2_with (go_at_call 13; (with_reducible refine (cC _).mono ?_); rintro e1 w1 ⟨rfl, hb⟩; replace hB := hB.trans (hb.mono hB.size); clear hb; have hq3 := hq2 _ hB)
            go_roundw
            case rel => exact ⟨k + 1, k, true, hlt, deepN_long HD.out HP.out HQ.out HC.out hlen, rfl, rfl, by go_num, fun _ => hlt, hB⟩
            case measure => simp [intOf]; omega
          · have z1 : ¬ (q.length : Int) < p.length := by omega
            go_wp2_with (go_at_call 13; (with_reducible refine (cC _).mono ?_); rintro e1 w1 ⟨rfl, hb⟩; replace hB := hB.trans (hb.mono hB.size); clear hb; have hq3 := hq2 _ hB)
            go_roundw
            case rel => exact ⟨k + 1, b, true, hlt, deepN_short HD.out HP.out HQ.out hlen, rfl, rfl, by go_num, fun _ => hbl, hB⟩
            case measure => simp [intOf]; omega
    · obtain rfl : k = n := by omega
      have b1 : ¬ (k : Int) < k := by omega
      go_wp2
      go_ret2
      rw [HD.out]
      exact ⟨rfl, hB⟩

theorem all300 {ps : List (List UInt8)} {k : Nat} {p : List UInt8} (h : ∀ x ∈ ps.take k, x.length ≤ 300) (hp : ps[k]? = some p) (hl : p.length ≤ 300) : ∀ x ∈ ps.take (k + 1), x.length ≤ 300 := fun x hx => by
  rw [take_snoc hp] at hx
  rcases List.mem_append.1 hx with hx | hx
  · exact h x hx
  · obtain rfl : x = p := by simpa using hx
    exact hl
theorem covR_of (p s : List UInt8) : covR p s = ((p.isEmpty || pathR p) && (pathR s && covB p s)) := rfl
set_option maxHeartbeats 16000000 in
theorem pathDeepest_any (A : Option Addr) (n c : Nat) (ps : List (List UInt8)) (s : List UInt8) (hn : ps.length = n) (w : World) (hr : Rd w A (ps.map strV)) :
    Calls Try.prog 5 #[.slice A n c, .string (txt s)] w fun e w' => e = .returned (.bool true) ∧ Below w.heap.size w w' := by
  have hB := Below.refl w.heap.size w
  by_cases hbig : 40 < n
  · have z1 : (40 : Int) < n := by omega
    go_enter Try.func5, Try.ntmps5
    go_wp2_with (go_at_call 9; (with_reducible refine (awake10_any _).mono ?_); rintro e9 w9 ⟨rfl, hb⟩; replace hB := hB.trans (hb.mono hB.size); clear hb)
    go_ret
    exact ⟨rfl, hB⟩
  have z1 : ¬ (40 : Int) < n := by omega
  by_cases hsl : 300 < s.length
  · have z2 : (300 : Int) < s.length := by omega
    go_enter Try.func5, Try.ntmps5
    go_wp2_with (go_at_call 9; (with_reducible refine (awake10_any _).mono ?_); rintro e9 w9 ⟨rfl, hb⟩; replace hB := hB.trans (hb.mono hB.size); clear hb)
    go_ret
    exact ⟨rfl, hB⟩
  have z2 : ¬ (300 : Int) < s.length := by omega
  have cB := fun W => rright_any s (by omega) W
  have cX := fun (p : List UInt8) (hp : p.length ≤ 300) => rright_any p (by omega)
  have cY := fun (p : List UInt8) (hp : p.length ≤ 300) => rcovers_any p s (by omega) (by omega)
  go_enter Try.func5, Try.ntmps5
  go_wp2
  go_loopw [5, 6, 22] (fun a g i wr => ∃ (k b : Nat) (f : Bool), k ≤ n ∧ deepN ps s k = (b, f) ∧ a = .int .i64 b ∧ g = .bool f ∧ i = .int .i64 k ∧ (f = true → b < n) ∧ (∀ x ∈ ps.take k, x.length ≤ 300) ∧ Below w.heap.size w wr) (fun _ _ i _ => n - (intOf i).toNat)
  case atStart => exact ⟨0, 0, false, by omega, rfl, rfl, rfl, rfl, by simp, by simp, hB⟩
  case round =>
    clear hB
    obtain ⟨k, b, f, hk, hd, rfl, rfl, rfl, hbn, hl, hB⟩ := hrel
    have HD := hid hd
    have HL := hid hl
    clear hd hl
    by_cases hlt : k < n
    · obtain ⟨p, hpk⟩ : ∃ p, ps[k]? = some p := ⟨_, List.getElem?_eq_getElem (by omega)⟩
      obtain ⟨ad, rfl, hcell⟩ := rd_in (hr.below hB) k (strV p) (by rw [List.getElem?_map, hpk]; rfl)
      unfold strV at hcell
      have HP := hid hpk
      have b1 : (k : Int) < n := by omega
      clear hpk
      by_cases hlong : 300 < p.length
      · have z3 : (300 : Int) < p.length := by omega
        go_wp2_with (go_at_call 9; (with_reducible refine (awake10_any _).mono ?_); rintro e9 w9 ⟨rfl, hb⟩; replace hB := hB.trans (hb.mono hB.size); clear hb)
        go_ret
        exact ⟨rfl, hB⟩
      · have z3 : ¬ (300 : Int) < p.length := by omega
        have cA := cX p (by omega)
        have cV := cY p (by omega)
        have hcd := covR_of p s
        cases hE : p.isEmpty with
        | false =>
          have hE2 : ¬ p = [] := by rintro rfl; simp at hE
          rw [hE, Bool.false_or] at hcd
          cases hA : pathR p with
          | false =>
            rw [hA] at cA hcd
            have HC := hid hcd
            clear hcd hA
            go_wp2_with (first
              | (go_at_call 10; (first | (with_reducible refine (cA _).mono ?_) | (with_reducible refine (cB _).mono ?_)); rintro e1 w1 ⟨rfl, hb⟩; replace hB := hB.trans (hb.mono hB.size); clear hb)
              | (go_at_call 14; (with_reducible refine (cV _).mono ?_); rintro e2 w2 ⟨rfl, rfl⟩)
              | (go_at_call 9; (with_reducible refine (awake10_any _).mono ?_); rintro e9 w9 ⟨rfl, hb⟩; replace hB := hB.trans (hb.mono hB.size); clear hb))
            go_roundw
            case rel => exact ⟨k + 1, b, f, hlt, deepN_no HD.out HP.out (HC.out), rfl, rfl, by go_num, hbn, all300 HL.out HP.out (by omega), hB⟩
            case measure => simp [intOf]; omega
          | true =>
            rw [hA, Bool.true_and] at hcd
            rw [hA] at cA
            clear hA
            cases hS : pathR s with
            | false =>
              rw [hS] at hcd cB
              have HC := hid hcd
              clear hcd hS
              go_wp2_with (first
                | (go_at_call 10; (first | (with_reducible refine (cA _).mono ?_) | (with_reducible refine (cB _).mono ?_)); rintro e1 w1 ⟨rfl, hb⟩; replace hB := hB.trans (hb.mono hB.size); clear hb)
                | (go_at_call 14; (with_reducible refine (cV _).mono ?_); rintro e2 w2 ⟨rfl, rfl⟩)
                | (go_at_call 9; (with_reducible refine (awake10_any _).mono ?_); rintro e9 w9 ⟨rfl, hb⟩; replace hB := hB.trans (hb.mono hB.size); clear hb))
              go_roundw
              case rel => exact ⟨k + 1, b, f, hlt, deepN_no HD.out HP.out (HC.out), rfl, rfl, by go_num, hbn, all300 HL.out HP.out (by omega), hB⟩
              case measure => simp [intOf]; omega
            | true =>
              rw [hS, Bool.true_and] at hcd
              rw [hS] at cB
              clear hS
              cases hC : covB p s with
              | false =>
                rw [hC] at hcd cV
                have HC := hid hcd
                clear hcd hC
                go_wp2_with (first
                  | (go_at_call 10; (first | (with_reducible refine (cA _).mono ?_) | (with_reducible refine (cB _).mono ?_)); rintro e1 w1 ⟨rfl, hb⟩; replace hB := hB.trans (hb.mono hB.size); clear hb)
                  | (go_at_call 14; (with_reducible refine (cV _).mono ?_); rintro e2 w2 ⟨rfl, rfl⟩)
                  | (go_at_call 9; (with_reducible refine (awake10_any _).mono ?_); rintro e9 w9 ⟨rfl, hb⟩; replace hB := hB.trans (hb.mono hB.size); clear hb))
                go_roundw
                case rel => exact ⟨k + 1, b, f, hlt, deepN_no HD.out HP.out (HC.out), rfl, rfl, by go_num, hbn, all300 HL.out HP.out (by omega), hB⟩
                case measure => simp [intOf]; omega
              | true =>
                rw [hC] at hcd cV
                have HC0 := hid hcd
                clear hcd hC
                cases f with
                | false =>
                  go_wp2_with (first
                    | (go_at_call 10; (first | (with_reducible refine (cA _).mono ?_) | (with_reducible refine (cB _).mono ?_)); rintro e1 w1 ⟨rfl, hb⟩; replace hB := hB.trans (hb.mono hB.size); clear hb)
                    | (go_at_call 14; (with_reducible refine (cV _).mono ?_); rintro e2 w2 ⟨rfl, rfl⟩)
                    | (go_at_call 9; (with_reducible refine (awake10_any _).mono ?_); rintro e9 w9 ⟨rfl, hb⟩; replace hB := hB.trans (hb.mono hB.size); clear hb))
                  go_roundw
                  case rel => exact ⟨k + 1, k, true, hlt, deepN_first HD.out HP.out HC0.out, rfl, rfl, by go_num, fun _ => hlt, all300 HL.out HP.out (by omega), hB⟩
                  case measure => simp [intOf]; omega
                | true =>
                  have hbl := hbn rfl
                  obtain ⟨q, hqk⟩ : ∃ q, ps[b]? = some q := ⟨_, List.getElem?_eq_getElem (by omega)⟩
                  have hq2 : ∀ w2, Below w.heap.size w w2 → w2.cell? (ad.add b) = some (.string (txt q)) := fun w2 h2 => by
                    obtain ⟨ad2, h3, h4⟩ := rd_in (hr.below h2) b (strV q) (by rw [List.getElem?_map, hqk]; rfl)
                    cases h3; exact h4
                  have HQ := hid hqk
                  have b2 : (b : Int) < n := by omega
                  have b3 : (0 : Int) ≤ b := by omega
                  have hq3 := hq2 _ hB
                  clear hqk
                  by_cases hlen : q.length < p.length
                  · have z1 : (q.length : Int) < p.length := by omega
                    go_wp2_with (first
                      | (go_at_call 10; (first | (with_reducible refine (cA _).mono ?_) | (with_reducible refine (cB _).mono ?_)); rintro e1 w1 ⟨rfl, hb⟩; replace hB := hB.trans (hb.mono hB.size); clear hb; have hq3 := hq2 _ hB)
                      | (go_at_call 14; (with_reducible refine (cV _).mono ?_); rintro e2 w2 ⟨rfl, rfl⟩)
                      | (go_at_call 9; (with_reducible refine (awake10_any _).mono ?_); rintro e9 w9 ⟨rfl, hb⟩; replace hB := hB.trans (hb.mono hB.size); clear hb))
                    go_roundw
                    case rel => exact ⟨k + 1, k, true, hlt, deepN_long HD.out HP.out HQ.out HC0.out hlen, rfl, rfl, by go_num, fun _ => hlt, all300 HL.out HP.out (by omega), hB⟩
                    case measure => simp [intOf]; omega
                  · have z1 : ¬ (q.length : Int) < p.length := by omega
                    go_wp2_with (first
                      | (go_at_call 10; (first | (with_reducible refine (cA _).mono ?_) | (with_reducible refine (cB _).mono ?_)); rintro e1 w1 ⟨rfl, hb⟩; replace hB := hB.trans (hb.mono hB.size); clear hb; have hq3 := hq2 _ hB)
                      | (go_at_call 14; (with_reducible refine (cV _).mono ?_); rintro e2 w2 ⟨rfl, rfl⟩)
                      | (go_at_call 9; (with_reducible refine (awake10_any _).mono ?_); rintro e9 w9 ⟨rfl, hb⟩; replace hB := hB.trans (hb.mono hB.size); clear hb))
                    go_roundw
                    case rel => exact ⟨k + 1, b, true, hlt, deepN_short HD.out HP.out HQ.out hlen, rfl, rfl, by go_num, fun _ => hbl, all300 HL.out HP.out (by omega), hB⟩
                    case measure => simp [intOf]; omega
        | true =>
          obtain rfl : p = [] := by simpa using hE
          have et : txt [] = ⟨#[]⟩ := rfl
          have hc1 : covB [] s = true := rfl
          rw [hE, Bool.true_or, Bool.true_and, hc1, Bool.and_true] at hcd
          rw [hc1] at cV
          rw [et] at hcell cV
          clear hE et hc1 z3
          cases hS : pathR s with
          | false =>
            rw [hS] at hcd cB
            have HC := hid hcd
            clear hcd hS
            go_wp2_with (first
              | (go_at_call 10; (first | (with_reducible refine (cA _).mono ?_) | (with_reducible refine (cB _).mono ?_)); rintro e1 w1 ⟨rfl, hb⟩; replace hB := hB.trans (hb.mono hB.size); clear hb)
              | (go_at_call 14; (with_reducible refine (cV _).mono ?_); rintro e2 w2 ⟨rfl, rfl⟩)
              | (go_at_call 9; (with_reducible refine (awake10_any _).mono ?_); rintro e9 w9 ⟨rfl, hb⟩; replace hB := hB.trans (hb.mono hB.size); clear hb))
            go_roundw
            case rel => exact ⟨k + 1, b, f, hlt, deepN_no HD.out HP.out (HC.out), rfl, rfl, by go_num, hbn, all300 HL.out HP.out (by omega), hB⟩
            case measure => simp [intOf]; omega
          | true =>
            rw [hS] at hcd cB
            have HC0 := hid hcd
            clear hcd hS
            cases f with
            | false =>
              go_wp2_with (first
                | (go_at_call 10; (first | (with_reducible refine (cA _).mono ?_) | (with_reducible refine (cB _).mono ?_)); rintro e1 w1 ⟨rfl, hb⟩; replace hB := hB.trans (hb.mono hB.size); clear hb)
                | (go_at_call 14; (with_reducible refine (cV _).mono ?_); rintro e2 w2 ⟨rfl, rfl⟩)
                | (go_at_call 9; (with_reducible refine (awake10_any _).mono ?_); rintro e9 w9 ⟨rfl, hb⟩; replace hB := hB.trans (hb.mono hB.size); clear hb))
              go_roundw
              case rel => exact ⟨k + 1, k, true, hlt, deepN_first HD.out HP.out HC0.out, rfl, rfl, by go_num, fun _ => hlt, all300 HL.out HP.out (by omega), hB⟩
              case measure => simp [intOf]; omega
            | true =>
              have hbl := hbn rfl
              obtain ⟨q, hqk⟩ : ∃ q, ps[b]? = some q := ⟨_, List.getElem?_eq_getElem (by omega)⟩
              have hq2 : ∀ w2, Below w.heap.size w w2 → w2.cell? (ad.add b) = some (.string (txt q)) := fun w2 h2 => by
                obtain ⟨ad2, h3, h4⟩ := rd_in (hr.below h2) b (strV q) (by rw [List.getElem?_map, hqk]; rfl)
                cases h3; exact h4
              have HQ := hid hqk
              have b2 : (b : Int) < n := by omega
              have b3 : (0 : Int) ≤ b := by omega
              have hq3 := hq2 _ hB
              clear hqk
              have hlen : ¬ q.length < ([] : List UInt8).length := by simp
              have z1 : ¬ (q.length : Int) < 0 := by omega
              go_wp2_with (first
                | (go_at_call 10; (first | (with_reducible refine (cA _).mono ?_) | (with_reducible refine (cB _).mono ?_)); rintro e1 w1 ⟨rfl, hb⟩; replace hB := hB.trans (hb.mono hB.size); clear hb; have hq3 := hq2 _ hB)
                | (go_at_call 14; (with_reducible refine (cV _).mono ?_); rintro e2 w2 ⟨rfl, rfl⟩)
                | (go_at_call 9; (with_reducible refine (awake10_any _).mono ?_); rintro e9 w9 ⟨rfl, hb⟩; replace hB := hB.trans (hb.mono hB.size); clear hb))
              go_roundw
              case rel => exact ⟨k + 1, b, true, hlt, deepN_short HD.out HP.out HQ.out hlen, rfl, rfl, by go_num, fun _ => hbl, all300 HL.out HP.out (by omega), hB⟩
              case measure => simp [intOf]; omega
    · obtain rfl : k = n := by omega
      have b1 : ¬ (k : Int) < k := by omega
      have cD := fun W hb => deepest_any A k c ps s hn (by omega) W (hr.below (w' := W) hb)
      rw [HD.out] at cD
      have n1 : ((b : Int) == b) = true := by simp
      have n2 : (f == f) = true := by simp
      go_wp2_with (first
        | (go_at_call 23; (with_reducible refine (cD _ hB).mono ?_); rintro e1 w1 ⟨rfl, hb⟩; replace hB := hB.trans (hb.mono hB.size); clear hb)
        | (go_at_call 9; (with_reducible refine (awake10_any _).mono ?_); rintro e9 w9 ⟨rfl, hb⟩; replace hB := hB.trans (hb.mono hB.size); clear hb))
      go_ret
      exact ⟨rfl, hB⟩
set_option linter.unusedVariables false in
theorem law_PathDeepest (w : World) (a0 : Option Addr) (l0 c0 : Nat) (z0 : List ByteArray) (w0 : StrRow w a0 l0 z0) (a1 : ByteArray) (w1 : a1.size ≤ maxLen) :
    Calls Try.prog 5 #[.slice a0 l0 c0, .string a1] w fun e w' => e = .returned (.bool true) ∧ Below w.heap.size w w' := by
  obtain ⟨hlen, hmx, hrd, hsz⟩ := w0
  exact pathDeepest_any a0 l0 c0 (z0.map fun s => s.data.toList) a1.data.toList (by rw [List.length_map]; exact hlen) w (by rw [List.map_map]; exact hrd)

open Go.ChangeShapes Go.WideShapes Go.ChangeAt
open Go.ChangeMaps (open_string shut_string)
theorem own_PathDeepest : ownKnob Try.prog.godebug = none := by kernel_rfl
theorem laidOut_PathDeepest : laidOutB Try.prog = true := by kernel_rfl
set_option linter.unusedVariables false in
set_option maxRecDepth 100000 in
theorem lifted_PathDeepest (os : Os) (started : os.Started) (H : Type) (enc : TypeId × Value → H) :
    ReturnsInHanded {} Try.checked os 5 .any (Rows.pathDeepestSpec.pre6 enc Try.prog Try.f5 Rows.pathDeepestRow.domain false) (Rows.pathDeepestSpec.post enc Try.prog Try.f5 false true false false) := by
  refine returnsInHanded_of_change (C := Try.checked) own_PathDeepest started (by kernel_rfl) Try.func5
    (ChangeSpec.witness6 (enc := enc) (C := Try.checked) false ⟨#[], #[.slice none 0 0, .string ByteArray.empty], []⟩ 8 (by kernel_rfl) (by kernel_rfl) (by kernel_rfl) (by kernel_rfl)) ?_
  intro W base args ds gs before hval0 hW hcnd _
  have hval : ∀ (j : Nat) t v, Try.f5.params[j]? = some t → args[j]? = some v → Value.okWide Try.prog W .any base t v := hval0
  have hW' := hW
  obtain ⟨p, q, hA0, hV, rfl, hfz, hnd⟩ := hW
  have hA1 : DataW.TrodAll enc Try.prog W 0 (fun _ => true) true Try.f5.params.toList args.toList ds p := hA0
  have hA : DataW.TrodAll enc Try.prog W 0 (fun _ => true) true Try.f5.params.toList args.toList ds p := hA0
  rw [Try.params5] at hA hval
  obtain ⟨v0, vs0, d0, ds0, p0, q0, hargs, rfl, rfl, h0, r0⟩ := trodAll_cons hA
  obtain ⟨v1, vs1, d1, ds1, p1, q1, rfl, rfl, rfl, h1, r1⟩ := trodAll_cons r0
  obtain ⟨rfl, rfl, rfl⟩ := trodAll_nil r1
  obtain rfl : args = #[v0, v1] := by cases args; simp_all
  obtain ⟨rfl, rfl⟩ := trodVars_none hV
  obtain ⟨a0, l0, c0, z0, rfl, w0⟩ := open_strRow Try.underlying25 Try.underlying9 (by kernel_rfl) (hval 0 25 v0 rfl rfl) h0
  obtain ⟨a1, rfl, rfl, rfl, w1⟩ := open_string Try.underlying9 (hval 1 9 v1 rfl rfl) h1
  clear hA0 hval0
  refine (law_PathDeepest W a0 l0 c0 z0 w0 a1 w1).mono fun e W' ⟨he, bel⟩ => ?_
  subst he
  exact ⟨_, rfl, _, _, _, [], _, [], hW', trodAll_mk1 (shut_bool Try.underlying4 _), trodAll_stays laidOut_PathDeepest bel (by kernel_rfl) hA1, rfl, bel.frame _, fun h => by cases h⟩

/-- The statement. -/
theorem PathDeepest_holds : Rows.PathDeepestSaid :=
  OpenClaim.holds_of_wide 5 Try.f5 rfl rfl rfl rfl rfl rfl rfl ⟨rfl, rfl, rfl, rfl, rfl⟩ rfl rfl rfl rfl rfl (by kernel_rfl) Try.func5 (by kernel_rfl)
    (of_decide_eq_true (by kernel_rfl)) (by unfold Func.isWrapper; first | (rw [if_pos (by decide +kernel)]; kernel_rfl) | (rw [if_neg (by decide +kernel)]; exact ⟨rfl, rfl⟩))
    (fun os started H enc _ => lifted_PathDeepest os started H enc)
#print axioms PathDeepest_holds

end Go.Proofs.Ytlbmikjgpaeddaa


/- Proved: for every two texts quitclaimlaw10.PathTells returns true and leaves its arguments as they were. No conditions. -/
import Derived.Test.YtlbmikjgpaeddaaPa9
namespace Go.Proofs.Ytlbmikjgpaeddaa
open Go.RowKit Go.Qc Go.Shelf
attribute [local go_sem] txt_size txt_append ib_fold txt_toL

set_option maxRecDepth 100000 in
set_option maxHeartbeats 4000000 in
theorem pt_long (a b : List UInt8) (h : 600 < a.length ∨ 600 < b.length) (w : World) :
    Calls Try.prog 3 #[.string (txt a), .string (txt b)] w fun e w' => e = .returned (.bool true) ∧ Below w.heap.size w w' := by
  by_cases h1 : 600 < a.length
  · have b1 : (600 : Int) < a.length := by omega
    clear h
    go_enter Try.func3, Try.ntmps3
    go_wp2_with (go_at_call 9; (with_reducible refine (awake10_any _).mono ?_); rintro e3 w3 ⟨rfl, hb3⟩)
    go_ret
    exact ⟨rfl, hb3⟩
  · have b1 : ¬ (600 : Int) < a.length := by omega
    have b2 : (600 : Int) < b.length := by omega
    clear h
    go_enter Try.func3, Try.ntmps3
    go_wp2_with (go_at_call 9; (with_reducible refine (awake10_any _).mono ?_); rintro e3 w3 ⟨rfl, hb3⟩)
    go_ret
    exact ⟨rfl, hb3⟩

set_option maxRecDepth 100000 in
set_option maxHeartbeats 4000000 in
theorem pt_00000 (a b : List UInt8) (h1 : a.length ≤ 600) (h2 : b.length ≤ 600) (hE : a.isEmpty = false) (w : World)
    (cA : ∀ W, Calls Try.prog 11 #[.string (txt a)] W fun e w' => e = .returned (.bool false) ∧ Below W.heap.size W w')
    (cP : ∀ W, Calls Try.prog 12 #[.string (txt a)] W fun e w' => e = .returned (.bool false) ∧ Below W.heap.size W w')
    (cC : ∀ W, Calls Try.prog 13 #[.string (txt a), .string (txt b)] W fun e w' => e = .returned (.bool false) ∧ Below W.heap.size W w')
    (cB : ∀ W, Calls Try.prog 15 #[.string (txt a), .string (txt b)] W fun e w' => e = .returned (.bool false) ∧ Below W.heap.size W w')
    (dA : ∀ W, Calls Try.prog 10 #[.string (txt a)] W fun e w' => e = .returned (.bool false) ∧ Below W.heap.size W w')
    (dB : ∀ W, Calls Try.prog 10 #[.string (txt b)] W fun e w' => e = .returned (.bool false) ∧ Below W.heap.size W w')
    (cT : ∀ W, Calls Try.prog 16 #[.string (txt a)] W fun e w' => e = .returned (.slice none 0 0) ∧ Below W.heap.size W w')
    (cU : ∀ W, Calls Try.prog 17 #[.string (txt a)] W fun e w' => e = .returned (.string (txt [])) ∧ Below W.heap.size W w')
    (cV : ∀ W, Calls Try.prog 18 #[.string (txt a)] W fun e w' => e = .returned (.string (txt [])) ∧ Below W.heap.size W w')
    : Calls Try.prog 3 #[.string (txt a), .string (txt b)] w fun e w' => e = .returned (.bool true) ∧ Below w.heap.size w w' := by
  have z1 : ¬ (600 : Int) < a.length := by omega
  have z2 : ¬ (600 : Int) < b.length := by omega
  have hB := Below.refl w.heap.size w
  have hE2 : ¬ a = [] := by rintro rfl; simp at hE
  go_enter Try.func3, Try.ntmps3
  go_wp2_with (first
    | (go_at_call 10; (first | (with_reducible refine (dA _).mono ?_) | (with_reducible refine (dB _).mono ?_)); rintro e1 w1 ⟨rfl, hb⟩; replace hB := hB.trans (hb.mono hB.size); clear hb)
    | (go_at_call 11; (with_reducible refine (cA _).mono ?_); rintro e1 w1 ⟨rfl, hb⟩; replace hB := hB.trans (hb.mono hB.size); clear hb)
    | (go_at_call 12; (with_reducible refine (cP _).mono ?_); rintro e1 w1 ⟨rfl, hb⟩; replace hB := hB.trans (hb.mono hB.size); clear hb)
    | (go_at_call 13; (with_reducible refine (cC _).mono ?_); rintro e1 w1 ⟨rfl, hb⟩; replace hB := hB.trans (hb.mono hB.size); clear hb)
    | (go_at_call 15; (with_reducible refine (cB _).mono ?_); rintro e1 w1 ⟨rfl, hb⟩; replace hB := hB.trans (hb.mono hB.size); clear hb)
    | (go_at_call 14; (first | (with_reducible refine (dC _).mono ?_) | (with_reducible refine (dD _).mono ?_)); rintro e1 w1 ⟨rfl, hb⟩; replace hB := hB.trans (hb.mono hB.size); clear hb)
    | (go_at_call 16; (with_reducible refine (cT _).mono ?_); rintro e1 w1 ⟨rfl, hb⟩; replace hB := hB.trans (hb.mono hB.size); clear hb)
    | (go_at_call 17; (with_reducible refine (cU _).mono ?_); rintro e1 w1 ⟨rfl, hb⟩; replace hB := hB.trans (hb.mono hB.size); clear hb)
    | (go_at_call 18; (with_reducible refine (cV _).mono ?_); rintro e1 w1 ⟨rfl, hb⟩; replace hB := hB.trans (hb.mono hB.size); clear hb)
    | (go_at_call 9; (with_reducible refine (awake10_any _).mono ?_); rintro e1 w1 ⟨rfl, hb⟩; replace hB := hB.trans (hb.mono hB.size); clear hb))
  go_ret
  exact ⟨rfl, hB⟩

set_option maxRecDepth 100000 in
set_option maxHeartbeats 4000000 in
theorem pt_01000 (a b : List UInt8) (h1 : a.length ≤ 600) (h2 : b.length ≤ 600) (hE : a.isEmpty = false) (w : World)
    (cA : ∀ W, Calls Try.prog 11 #[.string (txt a)] W fun e w' => e = .returned (.bool false) ∧ Below W.heap.size W w')
    (cP : ∀ W, Calls Try.prog 12 #[.string (txt a)] W fun e w' => e = .returned (.bool false) ∧ Below W.heap.size W w')
    (cC : ∀ W, Calls Try.prog 13 #[.string (txt a), .string (txt b)] W fun e w' => e = .returned (.bool false) ∧ Below W.heap.size W w')
    (cB : ∀ W, Calls Try.prog 15 #[.string (txt a), .string (txt b)] W fun e w' => e = .returned (.bool false) ∧ Below W.heap.size W w')
    (dA : ∀ W, Calls Try.prog 10 #[.string (txt a)] W fun e w' => e = .returned (.bool false) ∧ Below W.heap.size W w')
    (dB : ∀ W, Calls Try.prog 10 #[.string (txt b)] W fun e w' => e = .returned (.bool true) ∧ Below W.heap.size W w')
    (cT : ∀ W, Calls Try.prog 16 #[.string (txt a)] W fun e w' => e = .returned (.slice none 0 0) ∧ Below W.heap.size W w')
    (cU : ∀ W, Calls Try.prog 17 #[.string (txt a)] W fun e w' => e = .returned (.string (txt [])) ∧ Below W.heap.size W w')
    (cV : ∀ W, Calls Try.prog 18 #[.string (txt a)] W fun e w' => e = .returned (.string (txt [])) ∧ Below W.heap.size W w')
    : Calls Try.prog 3 #[.string (txt a), .string (txt b)] w fun e w' => e = .returned (.bool true) ∧ Below w.heap.size w w' := by
  have z1 : ¬ (600 : Int) < a.length := by omega
  have z2 : ¬ (600 : Int) < b.length := by omega
  have hB := Below.refl w.heap.size w
  have hE2 : ¬ a = [] := by rintro rfl; simp at hE
  go_enter Try.func3, Try.ntmps3
  go_wp2_with (first
    | (go_at_call 10; (first | (with_reducible refine (dA _).mono ?_) | (with_reducible refine (dB _).mono ?_)); rintro e1 w1 ⟨rfl, hb⟩; replace hB := hB.trans (hb.mono hB.size); clear hb)
    | (go_at_call 11; (with_reducible refine (cA _).mono ?_); rintro e1 w1 ⟨rfl, hb⟩; replace hB := hB.trans (hb.mono hB.size); clear hb)
    | (go_at_call 12; (with_reducible refine (cP _).mono ?_); rintro e1 w1 ⟨rfl, hb⟩; replace hB := hB.trans (hb.mono hB.size); clear hb)
    | (go_at_call 13; (with_reducible refine (cC _).mono ?_); rintro e1 w1 ⟨rfl, hb⟩; replace hB := hB.trans (hb.mono hB.size); clear hb)
    | (go_at_call 15; (with_reducible refine (cB _).mono ?_); rintro e1 w1 ⟨rfl, hb⟩; replace hB := hB.trans (hb.mono hB.size); clear hb)
    | (go_at_call 14; (first | (with_reducible refine (dC _).mono ?_) | (with_reducible refine (dD _).mono ?_)); rintro e1 w1 ⟨rfl, hb⟩; replace hB := hB.trans (hb.mono hB.size); clear hb)
    | (go_at_call 16; (with_reducible refine (cT _).mono ?_); rintro e1 w1 ⟨rfl, hb⟩; replace hB := hB.trans (hb.mono hB.size); clear hb)
    | (go_at_call 17; (with_reducible refine (cU _).mono ?_); rintro e1 w1 ⟨rfl, hb⟩; replace hB := hB.trans (hb.mono hB.size); clear hb)
    | (go_at_call 18; (with_reducible refine (cV _).mono ?_); rintro e1 w1 ⟨rfl, hb⟩; replace hB := hB.trans (hb.mono hB.size); clear hb)
    | (go_at_call 9; (with_reducible refine (awake10_any _).mono ?_); rintro e1 w1 ⟨rfl, hb⟩; replace hB := hB.trans (hb.mono hB.size); clear hb))
  go_ret
  exact ⟨rfl, hB⟩

set_option maxRecDepth 100000 in
set_option maxHeartbeats 4000000 in
theorem pt_00110 (b : List UInt8) (h2 : b.length ≤ 600) (w : World)
    (cA : ∀ W, Calls Try.prog 11 #[.string ⟨#[]⟩] W fun e w' => e = .returned (.bool false) ∧ Below W.heap.size W w')
    (cP : ∀ W, Calls Try.prog 12 #[.string ⟨#[]⟩] W fun e w' => e = .returned (.bool true) ∧ Below W.heap.size W w')
    (cC : ∀ W, Calls Try.prog 13 #[.string ⟨#[]⟩, .string (txt b)] W fun e w' => e = .returned (.bool false) ∧ Below W.heap.size W w')
    (cB : ∀ W, Calls Try.prog 15 #[.string ⟨#[]⟩, .string (txt b)] W fun e w' => e = .returned (.bool false) ∧ Below W.heap.size W w')
    (dA : ∀ W, Calls Try.prog 10 #[.string ⟨#[]⟩] W fun e w' => e = .returned (.bool false) ∧ Below W.heap.size W w')
    (dB : ∀ W, Calls Try.prog 10 #[.string (txt b)] W fun e w' => e = .returned (.bool false) ∧ Below W.heap.size W w')
    (cT : ∀ W, Calls Try.prog 16 #[.string ⟨#[]⟩] W fun e w' => e = .returned (.slice none 0 0) ∧ Below W.heap.size W w')
    (cU : ∀ W, Calls Try.prog 17 #[.string ⟨#[]⟩] W fun e w' => e = .returned (.string (txt [])) ∧ Below W.heap.size W w')
    (cV : ∀ W, Calls Try.prog 18 #[.string ⟨#[]⟩] W fun e w' => e = .returned (.string (txt [])) ∧ Below W.heap.size W w')
    : Calls Try.prog 3 #[.string ⟨#[]⟩, .string (txt b)] w fun e w' => e = .returned (.bool true) ∧ Below w.heap.size w w' := by
  have z2 : ¬ (600 : Int) < b.length := by omega
  have hB := Below.refl w.heap.size w
  go_enter Try.func3, Try.ntmps3
  go_wp2_with (first
    | (go_at_call 10; (first | (with_reducible refine (dA _).mono ?_) | (with_reducible refine (dB _).mono ?_)); rintro e1 w1 ⟨rfl, hb⟩; replace hB := hB.trans (hb.mono hB.size); clear hb)
    | (go_at_call 11; (with_reducible refine (cA _).mono ?_); rintro e1 w1 ⟨rfl, hb⟩; replace hB := hB.trans (hb.mono hB.size); clear hb)
    | (go_at_call 12; (with_reducible refine (cP _).mono ?_); rintro e1 w1 ⟨rfl, hb⟩; replace hB := hB.trans (hb.mono hB.size); clear hb)
    | (go_at_call 13; (with_reducible refine (cC _).mono ?_); rintro e1 w1 ⟨rfl, hb⟩; replace hB := hB.trans (hb.mono hB.size); clear hb)
    | (go_at_call 15; (with_reducible refine (cB _).mono ?_); rintro e1 w1 ⟨rfl, hb⟩; replace hB := hB.trans (hb.mono hB.size); clear hb)
    | (go_at_call 14; (first | (with_reducible refine (dC _).mono ?_) | (with_reducible refine (dD _).mono ?_)); rintro e1 w1 ⟨rfl, hb⟩; replace hB := hB.trans (hb.mono hB.size); clear hb)
    | (go_at_call 16; (with_reducible refine (cT _).mono ?_); rintro e1 w1 ⟨rfl, hb⟩; replace hB := hB.trans (hb.mono hB.size); clear hb)
    | (go_at_call 17; (with_reducible refine (cU _).mono ?_); rintro e1 w1 ⟨rfl, hb⟩; replace hB := hB.trans (hb.mono hB.size); clear hb)
    | (go_at_call 18; (with_reducible refine (cV _).mono ?_); rintro e1 w1 ⟨rfl, hb⟩; replace hB := hB.trans (hb.mono hB.size); clear hb)
    | (go_at_call 9; (with_reducible refine (awake10_any _).mono ?_); rintro e1 w1 ⟨rfl, hb⟩; replace hB := hB.trans (hb.mono hB.size); clear hb))
  go_ret
  exact ⟨rfl, hB⟩

set_option maxRecDepth 100000 in
set_option maxHeartbeats 4000000 in
theorem pt_01110 (b : List UInt8) (h2 : b.length ≤ 600) (w : World)
    (cA : ∀ W, Calls Try.prog 11 #[.string ⟨#[]⟩] W fun e w' => e = .returned (.bool false) ∧ Below W.heap.size W w')
    (cP : ∀ W, Calls Try.prog 12 #[.string ⟨#[]⟩] W fun e w' => e = .returned (.bool true) ∧ Below W.heap.size W w')
    (cC : ∀ W, Calls Try.prog 13 #[.string ⟨#[]⟩, .string (txt b)] W fun e w' => e = .returned (.bool true) ∧ Below W.heap.size W w')
    (cB : ∀ W, Calls Try.prog 15 #[.string ⟨#[]⟩, .string (txt b)] W fun e w' => e = .returned (.bool false) ∧ Below W.heap.size W w')
    (dA : ∀ W, Calls Try.prog 10 #[.string ⟨#[]⟩] W fun e w' => e = .returned (.bool false) ∧ Below W.heap.size W w')
    (dB : ∀ W, Calls Try.prog 10 #[.string (txt b)] W fun e w' => e = .returned (.bool true) ∧ Below W.heap.size W w')
    (dC : ∀ W, Calls Try.prog 14 #[.string ⟨#[]⟩, .string (txt b)] W fun e w' => e = .returned (.bool true) ∧ Below W.heap.size W w')
    (cT : ∀ W, Calls Try.prog 16 #[.string ⟨#[]⟩] W fun e w' => e = .returned (.slice none 0 0) ∧ Below W.heap.size W w')
    (cU : ∀ W, Calls Try.prog 17 #[.string ⟨#[]⟩] W fun e w' => e = .returned (.string (txt [])) ∧ Below W.heap.size W w')
    (cV : ∀ W, Calls Try.prog 18 #[.string ⟨#[]⟩] W fun e w' => e = .returned (.string (txt [])) ∧ Below W.heap.size W w')
    : Calls Try.prog 3 #[.string ⟨#[]⟩, .string (txt b)] w fun e w' => e = .returned (.bool true) ∧ Below w.heap.size w w' := by
  have z2 : ¬ (600 : Int) < b.length := by omega
  have hB := Below.refl w.heap.size w
  go_enter Try.func3, Try.ntmps3
  go_wp2_with (first
    | (go_at_call 10; (first | (with_reducible refine (dA _).mono ?_) | (with_reducible refine (dB _).mono ?_)); rintro e1 w1 ⟨rfl, hb⟩; replace hB := hB.trans (hb.mono hB.size); clear hb)
    | (go_at_call 11; (with_reducible refine (cA _).mono ?_); rintro e1 w1 ⟨rfl, hb⟩; replace hB := hB.trans (hb.mono hB.size); clear hb)
    | (go_at_call 12; (with_reducible refine (cP _).mono ?_); rintro e1 w1 ⟨rfl, hb⟩; replace hB := hB.trans (hb.mono hB.size); clear hb)
    | (go_at_call 13; (with_reducible refine (cC _).mono ?_); rintro e1 w1 ⟨rfl, hb⟩; replace hB := hB.trans (hb.mono hB.size); clear hb)
    | (go_at_call 15; (with_reducible refine (cB _).mono ?_); rintro e1 w1 ⟨rfl, hb⟩; replace hB := hB.trans (hb.mono hB.size); clear hb)
    | (go_at_call 14; (first | (with_reducible refine (dC _).mono ?_) | (with_reducible refine (dD _).mono ?_)); rintro e1 w1 ⟨rfl, hb⟩; replace hB := hB.trans (hb.mono hB.size); clear hb)
    | (go_at_call 16; (with_reducible refine (cT _).mono ?_); rintro e1 w1 ⟨rfl, hb⟩; replace hB := hB.trans (hb.mono hB.size); clear hb)
    | (go_at_call 17; (with_reducible refine (cU _).mono ?_); rintro e1 w1 ⟨rfl, hb⟩; replace hB := hB.trans (hb.mono hB.size); clear hb)
    | (go_at_call 18; (with_reducible refine (cV _).mono ?_); rintro e1 w1 ⟨rfl, hb⟩; replace hB := hB.trans (hb.mono hB.size); clear hb)
    | (go_at_call 9; (with_reducible refine (awake10_any _).mono ?_); rintro e1 w1 ⟨rfl, hb⟩; replace hB := hB.trans (hb.mono hB.size); clear hb))
  go_ret
  exact ⟨rfl, hB⟩

set_option maxRecDepth 100000 in
set_option maxHeartbeats 4000000 in
theorem pt_10000 (a b : List UInt8) (h1 : a.length ≤ 600) (h2 : b.length ≤ 600) (hE : a.isEmpty = false) (m : Nat) (U : List (List UInt8)) (t : List UInt8) (hm : m ≤ 1000) (hU : U.length = m) (hUl : ∀ x ∈ U, x.length ≤ 600) (w : World)
    (cA : ∀ W, Calls Try.prog 11 #[.string (txt a)] W fun e w' => e = .returned (.bool true) ∧ Below W.heap.size W w')
    (cP : ∀ W, Calls Try.prog 12 #[.string (txt a)] W fun e w' => e = .returned (.bool true) ∧ Below W.heap.size W w')
    (cC : ∀ W, Calls Try.prog 13 #[.string (txt a), .string (txt b)] W fun e w' => e = .returned (.bool false) ∧ Below W.heap.size W w')
    (cB : ∀ W, Calls Try.prog 15 #[.string (txt a), .string (txt b)] W fun e w' => e = .returned (.bool false) ∧ Below W.heap.size W w')
    (dA : ∀ W, Calls Try.prog 10 #[.string (txt a)] W fun e w' => e = .returned (.bool true) ∧ Below W.heap.size W w')
    (dB : ∀ W, Calls Try.prog 10 #[.string (txt b)] W fun e w' => e = .returned (.bool false) ∧ Below W.heap.size W w')
    (cT : ∀ W, Calls Try.prog 16 #[.string (txt a)] W fun e w' => ∃ ad c, e = .returned (.slice (some ad) (m + 1 : Nat) c) ∧ Rd w' (some ad) ((U ++ [t]).map strV) ∧ Below W.heap.size W w')
    (cS : ∀ W, Calls Try.prog 19 #[.string (txt a)] W fun e w' => ∃ ad c, e = .returned (.slice (some ad) (m + 1 : Nat) c) ∧ m + 1 ≤ c ∧ Rd w' (some ad) ((U ++ [t]).map strV) ∧ Below W.heap.size W w')
    (cU : ∀ W, Calls Try.prog 17 #[.string (txt a)] W fun e w' => e = .returned (.string (txt (joinS U))) ∧ Below W.heap.size W w')
    (cV : ∀ W, Calls Try.prog 18 #[.string (txt a)] W fun e w' => e = .returned (.string (txt t)) ∧ Below W.heap.size W w')
    : Calls Try.prog 3 #[.string (txt a), .string (txt b)] w fun e w' => e = .returned (.bool true) ∧ Below w.heap.size w w' := by
  have z1 : ¬ (600 : Int) < a.length := by omega
  have z2 : ¬ (600 : Int) < b.length := by omega
  have hB := Below.refl w.heap.size w
  have hE2 : ¬ a = [] := by rintro rfl; simp at hE
  go_enter Try.func3, Try.ntmps3
  go_wp2_with (first
    | (go_at_call 10; (first | (with_reducible refine (dA _).mono ?_) | (with_reducible refine (dB _).mono ?_)); rintro e1 w1 ⟨rfl, hb⟩; replace hB := hB.trans (hb.mono hB.size); clear hb)
    | (go_at_call 11; (with_reducible refine (cA _).mono ?_); rintro e1 w1 ⟨rfl, hb⟩; replace hB := hB.trans (hb.mono hB.size); clear hb)
    | (go_at_call 12; (with_reducible refine (cP _).mono ?_); rintro e1 w1 ⟨rfl, hb⟩; replace hB := hB.trans (hb.mono hB.size); clear hb)
    | (go_at_call 13; (with_reducible refine (cC _).mono ?_); rintro e1 w1 ⟨rfl, hb⟩; replace hB := hB.trans (hb.mono hB.size); clear hb)
    | (go_at_call 15; (with_reducible refine (cB _).mono ?_); rintro e1 w1 ⟨rfl, hb⟩; replace hB := hB.trans (hb.mono hB.size); clear hb)
    | (go_at_call 14; (first | (with_reducible refine (dC _).mono ?_) | (with_reducible refine (dD _).mono ?_)); rintro e1 w1 ⟨rfl, hb⟩; replace hB := hB.trans (hb.mono hB.size); clear hb)
    | (go_at_call 16; (with_reducible refine (cT _).mono ?_); rintro e1 w1 ⟨ad, k, rfl, hR, hb⟩; replace hB := hB.trans (hb.mono hB.size); clear hb)
    | (go_at_call 17; (with_reducible refine (cU _).mono ?_); rintro e1 w1 ⟨rfl, hb⟩; replace hB := hB.trans (hb.mono hB.size); clear hb)
    | (go_at_call 18; (with_reducible refine (cV _).mono ?_); rintro e1 w1 ⟨rfl, hb⟩; replace hB := hB.trans (hb.mono hB.size); clear hb)
    | (go_at_call 19; (with_reducible refine (cS _).mono ?_); rintro e2 w2 ⟨ad2, k2, rfl, hk2, hR2, hb⟩; replace hB := hB.trans (hb.mono hB.size); replace hR := hR.below hb; clear hb)
    | (go_at_call 9; (with_reducible refine (awake10_any _).mono ?_); rintro e1 w1 ⟨rfl, hb⟩; replace hB := hB.trans (hb.mono hB.size); clear hb))
  have lS : ∀ p : LtW w2, Calls Try.prog 20 #[.slice (some ad) (m + 1) k, .slice (some ad2) (m + 1) k2] p.w fun e w' => e = .returned (.bool true) ∧ Below p.w.heap.size p.w w' := fun p => by
    have := same_any (some ad) (some ad2) (m + 1) (m + 1) k k2 (U ++ [t]) (U ++ [t]) (by simp [hU]) (by simp [hU]) (by omega) (by omega) p.w (hR.below p.h) (hR2.below p.h)
    rw [decide_eq_true rfl] at this
    exact this
  have lJ : ∀ p : LtW w2, Calls Try.prog 21 #[.slice (some ad2) m k2] p.w fun e w' => e = .returned (.string (txt (joinS U))) ∧ Below p.w.heap.size p.w w' := fun p => by
    refine (rjoin_any (some ad2) m k2 U hU (by omega) (fun x hx => by have := hUl x hx; omega) p.w ?_).mono (by rintro e w' ⟨h, rfl⟩; exact ⟨h, Below.refl _ _⟩)
    rcases hR2.below p.h with h | ⟨ad3, h3, hc⟩
    · simp at h
    · refine .inr ⟨ad3, h3, fun j u hu => hc j u ?_⟩
      rw [List.map_append, List.getElem?_append_left (List.getElem?_eq_some_iff.1 hu).1]
      exact hu
  have lc : ∀ p : LtW w2, p.w.cell? (ad2.add m) = some (.string (txt t)) := fun p => by
    rcases hR2.below p.h with h | ⟨ad3, h3, hc⟩
    · simp at h
    · cases h3
      exact hc m _ (by rw [List.map_append, List.getElem?_append_right (by simp [hU])]; simp [hU, strV])
  have i0 : (0 : Int) ≤ m := by omega
  have i1 : (m : Int) < (m : Int) + 1 := by omega
  have i2 : (m : Int) < ((m + 1 : Nat) : Int) := by omega
  have i3 : m < m + 1 := by omega
  have i4 : (m : Int) ≤ (k2 : Int) := by omega
  have i7 : IntKind.i64.wrap (m : Int) = m := by rw [IntKind.wrap_i64]; omega
  clear hR hR2
  refine wp_region_lt mixed10 (by kernel_rfl) ?_
  repeat (first
    | ((with_reducible refine wpQuiet_skip (by with_unfolding_all rfl) ?_); simp only [Act.put, List.setIfInBounds_toArray, List.set_cons_zero, List.set_cons_succ])
    | ((with_reducible refine wpQuiet_step (fun K hK => ?_)); go_simp; first | ((with_reducible refine hK _ ?_); clear hK K) | (with_reducible apply Exists.intro; (with_reducible refine ⟨fun _ => ?_, hK _ ?_⟩); ((first | (go_at_call 20; exact lt_of (lS _)) | (go_at_call 18; exact lt_of (cV _)) | (go_at_call 17; exact lt_of (cU _)) | (go_at_call 21; exact lt_of (lJ _)) | (go_at_call 9; exact lt_of (awake10_any _)))); clear hK K)))
  with_reducible refine wpQuiet_nil ?_
  intro _ hw'
  obtain ⟨p, rfl⟩ := hw'
  have hp := p.h
  generalize p.w = w4 at *
  go_wp2
  go_ret
  exact ⟨rfl, hB.trans (hp.mono hB.size)⟩

set_option maxRecDepth 100000 in
set_option maxHeartbeats 4000000 in
theorem pt_11010 (a b : List UInt8) (h1 : a.length ≤ 600) (h2 : b.length ≤ 600) (hE : a.isEmpty = false) (m : Nat) (U : List (List UInt8)) (t : List UInt8) (hm : m ≤ 1000) (hU : U.length = m) (hUl : ∀ x ∈ U, x.length ≤ 600) (w : World)
    (cA : ∀ W, Calls Try.prog 11 #[.string (txt a)] W fun e w' => e = .returned (.bool true) ∧ Below W.heap.size W w')
    (cP : ∀ W, Calls Try.prog 12 #[.string (txt a)] W fun e w' => e = .returned (.bool true) ∧ Below W.heap.size W w')
    (cC : ∀ W, Calls Try.prog 13 #[.string (txt a), .string (txt b)] W fun e w' => e = .returned (.bool true) ∧ Below W.heap.size W w')
    (cB : ∀ W, Calls Try.prog 15 #[.string (txt a), .string (txt b)] W fun e w' => e = .returned (.bool false) ∧ Below W.heap.size W w')
    (dA : ∀ W, Calls Try.prog 10 #[.string (txt a)] W fun e w' => e = .returned (.bool true) ∧ Below W.heap.size W w')
    (dB : ∀ W, Calls Try.prog 10 #[.string (txt b)] W fun e w' => e = .returned (.bool true) ∧ Below W.heap.size W w')
    (dC : ∀ W, Calls Try.prog 14 #[.string (txt a), .string (txt b)] W fun e w' => e = .returned (.bool true) ∧ Below W.heap.size W w')
    (cT : ∀ W, Calls Try.prog 16 #[.string (txt a)] W fun e w' => ∃ ad c, e = .returned (.slice (some ad) (m + 1 : Nat) c) ∧ Rd w' (some ad) ((U ++ [t]).map strV) ∧ Below W.heap.size W w')
    (cS : ∀ W, Calls Try.prog 19 #[.string (txt a)] W fun e w' => ∃ ad c, e = .returned (.slice (some ad) (m + 1 : Nat) c) ∧ m + 1 ≤ c ∧ Rd w' (some ad) ((U ++ [t]).map strV) ∧ Below W.heap.size W w')
    (cU : ∀ W, Calls Try.prog 17 #[.string (txt a)] W fun e w' => e = .returned (.string (txt (joinS U))) ∧ Below W.heap.size W w')
    (cV : ∀ W, Calls Try.prog 18 #[.string (txt a)] W fun e w' => e = .returned (.string (txt t)) ∧ Below W.heap.size W w')
    : Calls Try.prog 3 #[.string (txt a), .string (txt b)] w fun e w' => e = .returned (.bool true) ∧ Below w.heap.size w w' := by
  have z1 : ¬ (600 : Int) < a.length := by omega
  have z2 : ¬ (600 : Int) < b.length := by omega
  have hB := Below.refl w.heap.size w
  have hE2 : ¬ a = [] := by rintro rfl; simp at hE
  go_enter Try.func3, Try.ntmps3
  go_wp2_with (first
    | (go_at_call 10; (first | (with_reducible refine (dA _).mono ?_) | (with_reducible refine (dB _).mono ?_)); rintro e1 w1 ⟨rfl, hb⟩; replace hB := hB.trans (hb.mono hB.size); clear hb)
    | (go_at_call 11; (with_reducible refine (cA _).mono ?_); rintro e1 w1 ⟨rfl, hb⟩; replace hB := hB.trans (hb.mono hB.size); clear hb)
    | (go_at_call 12; (with_reducible refine (cP _).mono ?_); rintro e1 w1 ⟨rfl, hb⟩; replace hB := hB.trans (hb.mono hB.size); clear hb)
    | (go_at_call 13; (with_reducible refine (cC _).mono ?_); rintro e1 w1 ⟨rfl, hb⟩; replace hB := hB.trans (hb.mono hB.size); clear hb)
    | (go_at_call 15; (with_reducible refine (cB _).mono ?_); rintro e1 w1 ⟨rfl, hb⟩; replace hB := hB.trans (hb.mono hB.size); clear hb)
    | (go_at_call 14; (first | (with_reducible refine (dC _).mono ?_) | (with_reducible refine (dD _).mono ?_)); rintro e1 w1 ⟨rfl, hb⟩; replace hB := hB.trans (hb.mono hB.size); clear hb)
    | (go_at_call 16; (with_reducible refine (cT _).mono ?_); rintro e1 w1 ⟨ad, k, rfl, hR, hb⟩; replace hB := hB.trans (hb.mono hB.size); clear hb)
    | (go_at_call 17; (with_reducible refine (cU _).mono ?_); rintro e1 w1 ⟨rfl, hb⟩; replace hB := hB.trans (hb.mono hB.size); clear hb)
    | (go_at_call 18; (with_reducible refine (cV _).mono ?_); rintro e1 w1 ⟨rfl, hb⟩; replace hB := hB.trans (hb.mono hB.size); clear hb)
    | (go_at_call 19; (with_reducible refine (cS _).mono ?_); rintro e2 w2 ⟨ad2, k2, rfl, hk2, hR2, hb⟩; replace hB := hB.trans (hb.mono hB.size); replace hR := hR.below hb; clear hb)
    | (go_at_call 9; (with_reducible refine (awake10_any _).mono ?_); rintro e1 w1 ⟨rfl, hb⟩; replace hB := hB.trans (hb.mono hB.size); clear hb))
  have lS : ∀ p : LtW w2, Calls Try.prog 20 #[.slice (some ad) (m + 1) k, .slice (some ad2) (m + 1) k2] p.w fun e w' => e = .returned (.bool true) ∧ Below p.w.heap.size p.w w' := fun p => by
    have := same_any (some ad) (some ad2) (m + 1) (m + 1) k k2 (U ++ [t]) (U ++ [t]) (by simp [hU]) (by simp [hU]) (by omega) (by omega) p.w (hR.below p.h) (hR2.below p.h)
    rw [decide_eq_true rfl] at this
    exact this
  have lJ : ∀ p : LtW w2, Calls Try.prog 21 #[.slice (some ad2) m k2] p.w fun e w' => e = .returned (.string (txt (joinS U))) ∧ Below p.w.heap.size p.w w' := fun p => by
    refine (rjoin_any (some ad2) m k2 U hU (by omega) (fun x hx => by have := hUl x hx; omega) p.w ?_).mono (by rintro e w' ⟨h, rfl⟩; exact ⟨h, Below.refl _ _⟩)
    rcases hR2.below p.h with h | ⟨ad3, h3, hc⟩
    · simp at h
    · refine .inr ⟨ad3, h3, fun j u hu => hc j u ?_⟩
      rw [List.map_append, List.getElem?_append_left (List.getElem?_eq_some_iff.1 hu).1]
      exact hu
  have lc : ∀ p : LtW w2, p.w.cell? (ad2.add m) = some (.string (txt t)) := fun p => by
    rcases hR2.below p.h with h | ⟨ad3, h3, hc⟩
    · simp at h
    · cases h3
      exact hc m _ (by rw [List.map_append, List.getElem?_append_right (by simp [hU])]; simp [hU, strV])
  have i0 : (0 : Int) ≤ m := by omega
  have i1 : (m : Int) < (m : Int) + 1 := by omega
  have i2 : (m : Int) < ((m + 1 : Nat) : Int) := by omega
  have i3 : m < m + 1 := by omega
  have i4 : (m : Int) ≤ (k2 : Int) := by omega
  have i7 : IntKind.i64.wrap (m : Int) = m := by rw [IntKind.wrap_i64]; omega
  clear hR hR2
  refine wp_region_lt mixed10 (by kernel_rfl) ?_
  repeat (first
    | ((with_reducible refine wpQuiet_skip (by with_unfolding_all rfl) ?_); simp only [Act.put, List.setIfInBounds_toArray, List.set_cons_zero, List.set_cons_succ])
    | ((with_reducible refine wpQuiet_step (fun K hK => ?_)); go_simp; first | ((with_reducible refine hK _ ?_); clear hK K) | (with_reducible apply Exists.intro; (with_reducible refine ⟨fun _ => ?_, hK _ ?_⟩); ((first | (go_at_call 20; exact lt_of (lS _)) | (go_at_call 18; exact lt_of (cV _)) | (go_at_call 17; exact lt_of (cU _)) | (go_at_call 21; exact lt_of (lJ _)) | (go_at_call 9; exact lt_of (awake10_any _)))); clear hK K)))
  with_reducible refine wpQuiet_nil ?_
  intro _ hw'
  obtain ⟨p, rfl⟩ := hw'
  have hp := p.h
  generalize p.w = w4 at *
  go_wp2
  go_ret
  exact ⟨rfl, hB.trans (hp.mono hB.size)⟩

set_option maxRecDepth 100000 in
set_option maxHeartbeats 4000000 in
theorem pt_11000 (a b : List UInt8) (h1 : a.length ≤ 600) (h2 : b.length ≤ 600) (hE : a.isEmpty = false) (m : Nat) (U : List (List UInt8)) (t : List UInt8) (hm : m ≤ 1000) (hU : U.length = m) (hUl : ∀ x ∈ U, x.length ≤ 600) (w : World)
    (cA : ∀ W, Calls Try.prog 11 #[.string (txt a)] W fun e w' => e = .returned (.bool true) ∧ Below W.heap.size W w')
    (cP : ∀ W, Calls Try.prog 12 #[.string (txt a)] W fun e w' => e = .returned (.bool true) ∧ Below W.heap.size W w')
    (cC : ∀ W, Calls Try.prog 13 #[.string (txt a), .string (txt b)] W fun e w' => e = .returned (.bool false) ∧ Below W.heap.size W w')
    (cB : ∀ W, Calls Try.prog 15 #[.string (txt a), .string (txt b)] W fun e w' => e = .returned (.bool true) ∧ Below W.heap.size W w')
    (dA : ∀ W, Calls Try.prog 10 #[.string (txt a)] W fun e w' => e = .returned (.bool true) ∧ Below W.heap.size W w')
    (dB : ∀ W, Calls Try.prog 10 #[.string (txt b)] W fun e w' => e = .returned (.bool true) ∧ Below W.heap.size W w')
    (dC : ∀ W, Calls Try.prog 14 #[.string (txt a), .string (txt b)] W fun e w' => e = .returned (.bool false) ∧ Below W.heap.size W w')
    (dD : ∀ W, Calls Try.prog 14 #[.string (txt b), .string (txt a)] W fun e w' => e = .returned (.bool false) ∧ Below W.heap.size W w')
    (cT : ∀ W, Calls Try.prog 16 #[.string (txt a)] W fun e w' => ∃ ad c, e = .returned (.slice (some ad) (m + 1 : Nat) c) ∧ Rd w' (some ad) ((U ++ [t]).map strV) ∧ Below W.heap.size W w')
    (cS : ∀ W, Calls Try.prog 19 #[.string (txt a)] W fun e w' => ∃ ad c, e = .returned (.slice (some ad) (m + 1 : Nat) c) ∧ m + 1 ≤ c ∧ Rd w' (some ad) ((U ++ [t]).map strV) ∧ Below W.heap.size W w')
    (cU : ∀ W, Calls Try.prog 17 #[.string (txt a)] W fun e w' => e = .returned (.string (txt (joinS U))) ∧ Below W.heap.size W w')
    (cV : ∀ W, Calls Try.prog 18 #[.string (txt a)] W fun e w' => e = .returned (.string (txt t)) ∧ Below W.heap.size W w')
    : Calls Try.prog 3 #[.string (txt a), .string (txt b)] w fun e w' => e = .returned (.bool true) ∧ Below w.heap.size w w' := by
  have z1 : ¬ (600 : Int) < a.length := by omega
  have z2 : ¬ (600 : Int) < b.length := by omega
  have hB := Below.refl w.heap.size w
  have hE2 : ¬ a = [] := by rintro rfl; simp at hE
  go_enter Try.func3, Try.ntmps3
  go_wp2_with (first
    | (go_at_call 10; (first | (with_reducible refine (dA _).mono ?_) | (with_reducible refine (dB _).mono ?_)); rintro e1 w1 ⟨rfl, hb⟩; replace hB := hB.trans (hb.mono hB.size); clear hb)
    | (go_at_call 11; (with_reducible refine (cA _).mono ?_); rintro e1 w1 ⟨rfl, hb⟩; replace hB := hB.trans (hb.mono hB.size); clear hb)
    | (go_at_call 12; (with_reducible refine (cP _).mono ?_); rintro e1 w1 ⟨rfl, hb⟩; replace hB := hB.trans (hb.mono hB.size); clear hb)
    | (go_at_call 13; (with_reducible refine (cC _).mono ?_); rintro e1 w1 ⟨rfl, hb⟩; replace hB := hB.trans (hb.mono hB.size); clear hb)
    | (go_at_call 15; (with_reducible refine (cB _).mono ?_); rintro e1 w1 ⟨rfl, hb⟩; replace hB := hB.trans (hb.mono hB.size); clear hb)
    | (go_at_call 14; (first | (with_reducible refine (dC _).mono ?_) | (with_reducible refine (dD _).mono ?_)); rintro e1 w1 ⟨rfl, hb⟩; replace hB := hB.trans (hb.mono hB.size); clear hb)
    | (go_at_call 16; (with_reducible refine (cT _).mono ?_); rintro e1 w1 ⟨ad, k, rfl, hR, hb⟩; replace hB := hB.trans (hb.mono hB.size); clear hb)
    | (go_at_call 17; (with_reducible refine (cU _).mono ?_); rintro e1 w1 ⟨rfl, hb⟩; replace hB := hB.trans (hb.mono hB.size); clear hb)
    | (go_at_call 18; (with_reducible refine (cV _).mono ?_); rintro e1 w1 ⟨rfl, hb⟩; replace hB := hB.trans (hb.mono hB.size); clear hb)
    | (go_at_call 19; (with_reducible refine (cS _).mono ?_); rintro e2 w2 ⟨ad2, k2, rfl, hk2, hR2, hb⟩; replace hB := hB.trans (hb.mono hB.size); replace hR := hR.below hb; clear hb)
    | (go_at_call 9; (with_reducible refine (awake10_any _).mono ?_); rintro e1 w1 ⟨rfl, hb⟩; replace hB := hB.trans (hb.mono hB.size); clear hb))
  have lS : ∀ p : LtW w2, Calls Try.prog 20 #[.slice (some ad) (m + 1) k, .slice (some ad2) (m + 1) k2] p.w fun e w' => e = .returned (.bool true) ∧ Below p.w.heap.size p.w w' := fun p => by
    have := same_any (some ad) (some ad2) (m + 1) (m + 1) k k2 (U ++ [t]) (U ++ [t]) (by simp [hU]) (by simp [hU]) (by omega) (by omega) p.w (hR.below p.h) (hR2.below p.h)
    rw [decide_eq_true rfl] at this
    exact this
  have lJ : ∀ p : LtW w2, Calls Try.prog 21 #[.slice (some ad2) m k2] p.w fun e w' => e = .returned (.string (txt (joinS U))) ∧ Below p.w.heap.size p.w w' := fun p => by
    refine (rjoin_any (some ad2) m k2 U hU (by omega) (fun x hx => by have := hUl x hx; omega) p.w ?_).mono (by rintro e w' ⟨h, rfl⟩; exact ⟨h, Below.refl _ _⟩)
    rcases hR2.below p.h with h | ⟨ad3, h3, hc⟩
    · simp at h
    · refine .inr ⟨ad3, h3, fun j u hu => hc j u ?_⟩
      rw [List.map_append, List.getElem?_append_left (List.getElem?_eq_some_iff.1 hu).1]
      exact hu
  have lc : ∀ p : LtW w2, p.w.cell? (ad2.add m) = some (.string (txt t)) := fun p => by
    rcases hR2.below p.h with h | ⟨ad3, h3, hc⟩
    · simp at h
    · cases h3
      exact hc m _ (by rw [List.map_append, List.getElem?_append_right (by simp [hU])]; simp [hU, strV])
  have i0 : (0 : Int) ≤ m := by omega
  have i1 : (m : Int) < (m : Int) + 1 := by omega
  have i2 : (m : Int) < ((m + 1 : Nat) : Int) := by omega
  have i3 : m < m + 1 := by omega
  have i4 : (m : Int) ≤ (k2 : Int) := by omega
  have i7 : IntKind.i64.wrap (m : Int) = m := by rw [IntKind.wrap_i64]; omega
  clear hR hR2
  refine wp_region_lt mixed10 (by kernel_rfl) ?_
  repeat (first
    | ((with_reducible refine wpQuiet_skip (by with_unfolding_all rfl) ?_); simp only [Act.put, List.setIfInBounds_toArray, List.set_cons_zero, List.set_cons_succ])
    | ((with_reducible refine wpQuiet_step (fun K hK => ?_)); go_simp; first | ((with_reducible refine hK _ ?_); clear hK K) | (with_reducible apply Exists.intro; (with_reducible refine ⟨fun _ => ?_, hK _ ?_⟩); ((first | (go_at_call 20; exact lt_of (lS _)) | (go_at_call 18; exact lt_of (cV _)) | (go_at_call 17; exact lt_of (cU _)) | (go_at_call 21; exact lt_of (lJ _)) | (go_at_call 9; exact lt_of (awake10_any _)))); clear hK K)))
  with_reducible refine wpQuiet_nil ?_
  intro _ hw'
  obtain ⟨p, rfl⟩ := hw'
  have hp := p.h
  generalize p.w = w4 at *
  go_wp2
  go_ret
  exact ⟨rfl, hB.trans (hp.mono hB.size)⟩

set_option maxRecDepth 100000 in
set_option maxHeartbeats 4000000 in
theorem pt_11001 (a b : List UInt8) (h1 : a.length ≤ 600) (h2 : b.length ≤ 600) (hE : a.isEmpty = false) (m : Nat) (U : List (List UInt8)) (t : List UInt8) (hm : m ≤ 1000) (hU : U.length = m) (hUl : ∀ x ∈ U, x.length ≤ 600) (w : World)
    (cA : ∀ W, Calls Try.prog 11 #[.string (txt a)] W fun e w' => e = .returned (.bool true) ∧ Below W.heap.size W w')
    (cP : ∀ W, Calls Try.prog 12 #[.string (txt a)] W fun e w' => e = .returned (.bool true) ∧ Below W.heap.size W w')
    (cC : ∀ W, Calls Try.prog 13 #[.string (txt a), .string (txt b)] W fun e w' => e = .returned (.bool false) ∧ Below W.heap.size W w')
    (cB : ∀ W, Calls Try.prog 15 #[.string (txt a), .string (txt b)] W fun e w' => e = .returned (.bool false) ∧ Below W.heap.size W w')
    (dA : ∀ W, Calls Try.prog 10 #[.string (txt a)] W fun e w' => e = .returned (.bool true) ∧ Below W.heap.size W w')
    (dB : ∀ W, Calls Try.prog 10 #[.string (txt b)] W fun e w' => e = .returned (.bool true) ∧ Below W.heap.size W w')
    (dC : ∀ W, Calls Try.prog 14 #[.string (txt a), .string (txt b)] W fun e w' => e = .returned (.bool false) ∧ Below W.heap.size W w')
    (dD : ∀ W, Calls Try.prog 14 #[.string (txt b), .string (txt a)] W fun e w' => e = .returned (.bool true) ∧ Below W.heap.size W w')
    (cT : ∀ W, Calls Try.prog 16 #[.string (txt a)] W fun e w' => ∃ ad c, e = .returned (.slice (some ad) (m + 1 : Nat) c) ∧ Rd w' (some ad) ((U ++ [t]).map strV) ∧ Below W.heap.size W w')
    (cS : ∀ W, Calls Try.prog 19 #[.string (txt a)] W fun e w' => ∃ ad c, e = .returned (.slice (some ad) (m + 1 : Nat) c) ∧ m + 1 ≤ c ∧ Rd w' (some ad) ((U ++ [t]).map strV) ∧ Below W.heap.size W w')
    (cU : ∀ W, Calls Try.prog 17 #[.string (txt a)] W fun e w' => e = .returned (.string (txt (joinS U))) ∧ Below W.heap.size W w')
    (cV : ∀ W, Calls Try.prog 18 #[.string (txt a)] W fun e w' => e = .returned (.string (txt t)) ∧ Below W.heap.size W w')
    : Calls Try.prog 3 #[.string (txt a), .string (txt b)] w fun e w' => e = .returned (.bool true) ∧ Below w.heap.size w w' := by
  have z1 : ¬ (600 : Int) < a.length := by omega
  have z2 : ¬ (600 : Int) < b.length := by omega
  have hB := Below.refl w.heap.size w
  have hE2 : ¬ a = [] := by rintro rfl; simp at hE
  go_enter Try.func3, Try.ntmps3
  go_wp2_with (first
    | (go_at_call 10; (first | (with_reducible refine (dA _).mono ?_) | (with_reducible refine (dB _).mono ?_)); rintro e1 w1 ⟨rfl, hb⟩; replace hB := hB.trans (hb.mono hB.size); clear hb)
    | (go_at_call 11; (with_reducible refine (cA _).mono ?_); rintro e1 w1 ⟨rfl, hb⟩; replace hB := hB.trans (hb.mono hB.size); clear hb)
    | (go_at_call 12; (with_reducible refine (cP _).mono ?_); rintro e1 w1 ⟨rfl, hb⟩; replace hB := hB.trans (hb.mono hB.size); clear hb)
    | (go_at_call 13; (with_reducible refine (cC _).mono ?_); rintro e1 w1 ⟨rfl, hb⟩; replace hB := hB.trans (hb.mono hB.size); clear hb)
    | (go_at_call 15; (with_reducible refine (cB _).mono ?_); rintro e1 w1 ⟨rfl, hb⟩; replace hB := hB.trans (hb.mono hB.size); clear hb)
    | (go_at_call 14; (first | (with_reducible refine (dC _).mono ?_) | (with_reducible refine (dD _).mono ?_)); rintro e1 w1 ⟨rfl, hb⟩; replace hB := hB.trans (hb.mono hB.size); clear hb)
    | (go_at_call 16; (with_reducible refine (cT _).mono ?_); rintro e1 w1 ⟨ad, k, rfl, hR, hb⟩; replace hB := hB.trans (hb.mono hB.size); clear hb)
    | (go_at_call 17; (with_reducible refine (cU _).mono ?_); rintro e1 w1 ⟨rfl, hb⟩; replace hB := hB.trans (hb.mono hB.size); clear hb)
    | (go_at_call 18; (with_reducible refine (cV _).mono ?_); rintro e1 w1 ⟨rfl, hb⟩; replace hB := hB.trans (hb.mono hB.size); clear hb)
    | (go_at_call 19; (with_reducible refine (cS _).mono ?_); rintro e2 w2 ⟨ad2, k2, rfl, hk2, hR2, hb⟩; replace hB := hB.trans (hb.mono hB.size); replace hR := hR.below hb; clear hb)
    | (go_at_call 9; (with_reducible refine (awake10_any _).mono ?_); rintro e1 w1 ⟨rfl, hb⟩; replace hB := hB.trans (hb.mono hB.size); clear hb))
  have lS : ∀ p : LtW w2, Calls Try.prog 20 #[.slice (some ad) (m + 1) k, .slice (some ad2) (m + 1) k2] p.w fun e w' => e = .returned (.bool true) ∧ Below p.w.heap.size p.w w' := fun p => by
    have := same_any (some ad) (some ad2) (m + 1) (m + 1) k k2 (U ++ [t]) (U ++ [t]) (by simp [hU]) (by simp [hU]) (by omega) (by omega) p.w (hR.below p.h) (hR2.below p.h)
    rw [decide_eq_true rfl] at this
    exact this
  have lJ : ∀ p : LtW w2, Calls Try.prog 21 #[.slice (some ad2) m k2] p.w fun e w' => e = .returned (.string (txt (joinS U))) ∧ Below p.w.heap.size p.w w' := fun p => by
    refine (rjoin_any (some ad2) m k2 U hU (by omega) (fun x hx => by have := hUl x hx; omega) p.w ?_).mono (by rintro e w' ⟨h, rfl⟩; exact ⟨h, Below.refl _ _⟩)
    rcases hR2.below p.h with h | ⟨ad3, h3, hc⟩
    · simp at h
    · refine .inr ⟨ad3, h3, fun j u hu => hc j u ?_⟩
      rw [List.map_append, List.getElem?_append_left (List.getElem?_eq_some_iff.1 hu).1]
      exact hu
  have lc : ∀ p : LtW w2, p.w.cell? (ad2.add m) = some (.string (txt t)) := fun p => by
    rcases hR2.below p.h with h | ⟨ad3, h3, hc⟩
    · simp at h
    · cases h3
      exact hc m _ (by rw [List.map_append, List.getElem?_append_right (by simp [hU])]; simp [hU, strV])
  have i0 : (0 : Int) ≤ m := by omega
  have i1 : (m : Int) < (m : Int) + 1 := by omega
  have i2 : (m : Int) < ((m + 1 : Nat) : Int) := by omega
  have i3 : m < m + 1 := by omega
  have i4 : (m : Int) ≤ (k2 : Int) := by omega
  have i7 : IntKind.i64.wrap (m : Int) = m := by rw [IntKind.wrap_i64]; omega
  clear hR hR2
  refine wp_region_lt mixed10 (by kernel_rfl) ?_
  repeat (first
    | ((with_reducible refine wpQuiet_skip (by with_unfolding_all rfl) ?_); simp only [Act.put, List.setIfInBounds_toArray, List.set_cons_zero, List.set_cons_succ])
    | ((with_reducible refine wpQuiet_step (fun K hK => ?_)); go_simp; first | ((with_reducible refine hK _ ?_); clear hK K) | (with_reducible apply Exists.intro; (with_reducible refine ⟨fun _ => ?_, hK _ ?_⟩); ((first | (go_at_call 20; exact lt_of (lS _)) | (go_at_call 18; exact lt_of (cV _)) | (go_at_call 17; exact lt_of (cU _)) | (go_at_call 21; exact lt_of (lJ _)) | (go_at_call 9; exact lt_of (awake10_any _)))); clear hK K)))
  with_reducible refine wpQuiet_nil ?_
  intro _ hw'
  obtain ⟨p, rfl⟩ := hw'
  have hp := p.h
  generalize p.w = w4 at *
  go_wp2
  go_ret
  exact ⟨rfl, hB.trans (hp.mono hB.size)⟩

theorem own_succ {w : World} {base m : Nat} {e : TypeId} {v : Value} {xs : List Value} (h : w.ownsRow base e 1 v (m + 1) xs) : ∃ ad c, v = .slice (some ad) (m + 1 : Nat) c ∧ m + 1 ≤ c ∧ Rd w (some ad) xs := by
  obtain ⟨_, A, c, rfl, hr⟩ := rowRd h
  have hl := h.1
  rcases h.2 with ⟨h1, h2⟩ | ⟨g, cap, cur, h1, _, _, hc, _⟩
  · omega
  · cases h1
    exact ⟨_, _, rfl, hc, hr⟩
theorem pathTells_any (a b : List UInt8) (w : World) :
    Calls Try.prog 3 #[.string (txt a), .string (txt b)] w fun e w' => e = .returned (.bool true) ∧ Below w.heap.size w w' := by
  by_cases hl : 600 < a.length ∨ 600 < b.length
  · exact pt_long a b hl w
  · have h1 : a.length ≤ 600 := by omega
    have h2 : b.length ≤ 600 := by omega
    have cA := fun W => right_any a W
    have cP := fun W => prefix_any a W
    have cC := fun W => covers_any a b W
    have cB := fun W => beside_any a b W
    have dA := fun W => rright_any a (by omega) W
    have dB := fun W => rright_any b (by omega) W
    have dC : ∀ W, Calls Try.prog 14 #[.string (txt a), .string (txt b)] W fun e w' => e = .returned (.bool (covB a b)) ∧ Below W.heap.size W w' := fun W => (rcovers_any a b (by omega) (by omega) W).mono (by rintro e w' ⟨h, rfl⟩; exact ⟨h, Below.refl _ _⟩)
    have dD : ∀ W, Calls Try.prog 14 #[.string (txt b), .string (txt a)] W fun e w' => e = .returned (.bool (covB b a)) ∧ Below W.heap.size W w' := fun W => (rcovers_any b a (by omega) (by omega) W).mono (by rintro e w' ⟨h, rfl⟩; exact ⟨h, Below.refl _ _⟩)
    have cU := fun W => above_any a (by omega) W
    have cV := fun W => last_any a (by omega) W
    unfold covR at cC
    unfold besR covR at cB
    unfold preR at cP cC cB
    cases hA : pathR a with
    | false =>
      have cT := fun W => parts_no a hA W
      rw [hA] at cA cP cC cB dA cU cV
      simp only [Bool.false_and, Bool.or_false, if_false, Bool.false_eq_true] at cA cP cC cB dA cU cV
      cases hE : a.isEmpty with
      | false =>
        rw [hE] at cP cC
        simp only [Bool.false_and] at cP cC
        cases hB : pathR b with
        | false => rw [hB] at dB; exact pt_00000 a b h1 h2 hE w cA cP cC cB dA dB cT cU cV
        | true => rw [hB] at dB; exact pt_01000 a b h1 h2 hE w cA cP cC cB dA dB cT cU cV
      | true =>
        obtain rfl : a = [] := by simpa using hE
        have hc : covB [] b = true := rfl
        rw [hc] at cC dC
        simp only [List.isEmpty_nil, Bool.true_and, Bool.and_true] at cP cC
        cases hB : pathR b with
        | false => rw [hB] at dB cC; exact pt_00110 b h2 w cA cP cC cB dA dB cT cU cV
        | true => rw [hB] at dB cC; exact pt_01110 b h2 w cA cP cC cB dA dB dC cT cU cV
    | true =>
      have hE : a.isEmpty = false := by
        cases hx : a.isEmpty with
        | false => rfl
        | true => obtain rfl : a = [] := by simpa using hx
                  rw [pathR_nil] at hA; cases hA
      obtain ⟨U, t, hU, hab, hls⟩ := splitS_last a
      have cT0 := fun W => parts_ok a hA W
      have cS0 := fun W => rsplit_any a (by omega) W
      have hcnt := splitS_count a
      have hln := splitS_len a
      rw [hU, List.length_append] at hcnt
      rw [hU] at hln
      rw [hU, List.length_append] at cT0 cS0
      have cT : ∀ W, Calls Try.prog 16 #[.string (txt a)] W fun e w' => ∃ ad c, e = .returned (.slice (some ad) (U.length + 1 : Nat) c) ∧ Rd w' (some ad) ((U ++ [t]).map strV) ∧ Below W.heap.size W w' := fun W => (cT0 W).mono (by
        rintro e w' ⟨v, rfl, hown, hB⟩
        obtain ⟨ad, c, rfl, _, hr⟩ := own_succ hown
        exact ⟨ad, c, rfl, hr, hB⟩)
      have cS : ∀ W, Calls Try.prog 19 #[.string (txt a)] W fun e w' => ∃ ad c, e = .returned (.slice (some ad) (U.length + 1 : Nat) c) ∧ U.length + 1 ≤ c ∧ Rd w' (some ad) ((U ++ [t]).map strV) ∧ Below W.heap.size W w' := fun W => (cS0 W).mono (by
        rintro e w' ⟨v, rfl, hown, hB⟩
        obtain ⟨ad, c, rfl, hc, hr⟩ := own_succ hown
        exact ⟨ad, c, rfl, hc, hr, hB⟩)
      have hm : U.length ≤ 1000 := by omega
      have hUl : ∀ x ∈ U, x.length ≤ 600 := fun x hx => by have := hln x (List.mem_append_left _ hx); omega
      rw [hA] at cA cP cC cB dA cU cV
      rw [hE] at cP cC cB
      rw [hab] at cU
      rw [hls] at cV
      simp only [Bool.true_and, Bool.or_true, if_true] at cA cP cC cB dA cU cV
      clear cT0 cS0 hcnt hln
      cases hB : pathR b with
      | false =>
        rw [hB] at dB cC cB
        simp only [Bool.false_and] at cC cB
        exact pt_10000 a b h1 h2 hE U.length U t hm rfl hUl w cA cP cC cB dA dB cT cS cU cV
      | true =>
        rw [hB] at dB cC cB
        simp only [Bool.true_and, Bool.or_true] at cC cB
        cases hC : covB a b with
        | true =>
          rw [hC] at cC cB dC
          simp only [Bool.not_true, Bool.false_and] at cB
          exact pt_11010 a b h1 h2 hE U.length U t hm rfl hUl w cA cP cC cB dA dB dC cT cS cU cV
        | false =>
          rw [hC] at cC cB dC
          simp only [Bool.not_false, Bool.true_and] at cB
          cases hD : covB b a with
          | true =>
            rw [hD] at cB dD
            exact pt_11001 a b h1 h2 hE U.length U t hm rfl hUl w cA cP cC cB dA dB dC dD cT cS cU cV
          | false =>
            rw [hD] at cB dD
            exact pt_11000 a b h1 h2 hE U.length U t hm rfl hUl w cA cP cC cB dA dB dC dD cT cS cU cV
set_option linter.unusedVariables false in
theorem law_PathTells (w : World) (a0 : ByteArray) (w0 : a0.size ≤ maxLen) (a1 : ByteArray) (w1 : a1.size ≤ maxLen) :
    Calls Try.prog 3 #[.string a0, .string a1] w fun e w' => e = .returned (.bool true) ∧ Below w.heap.size w w' := pathTells_any a0.data.toList a1.data.toList w

open Go.ChangeShapes Go.WideShapes Go.ChangeAt
open Go.ChangeMaps (open_string shut_string)
theorem own_PathTells : ownKnob Try.prog.godebug = none := by kernel_rfl
theorem laidOut_PathTells : laidOutB Try.prog = true := by kernel_rfl
set_option linter.unusedVariables false in
set_option maxRecDepth 100000 in
theorem lifted_PathTells (os : Os) (started : os.Started) (H : Type) (enc : TypeId × Value → H) :
    ReturnsInHanded {} Try.checked os 3 .any (Rows.pathTellsSpec.pre6 enc Try.prog Try.f3 Rows.pathTellsRow.domain false) (Rows.pathTellsSpec.post enc Try.prog Try.f3 false true false false) := by
  refine returnsInHanded_of_change (C := Try.checked) own_PathTells started (by kernel_rfl) Try.func3
    (ChangeSpec.witness6 (enc := enc) (C := Try.checked) false ⟨#[], #[.string ByteArray.empty, .string ByteArray.empty], []⟩ 8 (by kernel_rfl) (by kernel_rfl) (by kernel_rfl) (by kernel_rfl)) ?_
  intro W base args ds gs before hval0 hW hcnd _
  have hval : ∀ (j : Nat) t v, Try.f3.params[j]? = some t → args[j]? = some v → Value.okWide Try.prog W .any base t v := hval0
  have hW' := hW
  obtain ⟨p, q, hA0, hV, rfl, hfz, hnd⟩ := hW
  have hA1 : DataW.TrodAll enc Try.prog W 0 (fun _ => true) true Try.f3.params.toList args.toList ds p := hA0
  have hA : DataW.TrodAll enc Try.prog W 0 (fun _ => true) true Try.f3.params.toList args.toList ds p := hA0
  rw [Try.params3] at hA hval
  obtain ⟨v0, vs0, d0, ds0, p0, q0, hargs, rfl, rfl, h0, r0⟩ := trodAll_cons hA
  obtain ⟨v1, vs1, d1, ds1, p1, q1, rfl, rfl, rfl, h1, r1⟩ := trodAll_cons r0
  obtain ⟨rfl, rfl, rfl⟩ := trodAll_nil r1
  obtain rfl : args = #[v0, v1] := by cases args; simp_all
  obtain ⟨rfl, rfl⟩ := trodVars_none hV
  obtain ⟨a0, rfl, rfl, rfl, w0⟩ := open_string Try.underlying9 (hval 0 9 v0 rfl rfl) h0
  obtain ⟨a1, rfl, rfl, rfl, w1⟩ := open_string Try.underlying9 (hval 1 9 v1 rfl rfl) h1
  clear hA0 hval0
  refine (law_PathTells W a0 w0 a1 w1).mono fun e W' ⟨he, bel⟩ => ?_
  subst he
  exact ⟨_, rfl, _, _, _, [], _, [], hW', trodAll_mk1 (shut_bool Try.underlying4 _), trodAll_stays laidOut_PathTells bel (by kernel_rfl) hA1, rfl, bel.frame _, fun h => by cases h⟩

/-- The statement. -/
theorem PathTells_holds : Rows.PathTellsSaid :=
  OpenClaim.holds_of_wide 3 Try.f3 rfl rfl rfl rfl rfl rfl rfl ⟨rfl, rfl, rfl, rfl, rfl⟩ rfl rfl rfl rfl rfl (by kernel_rfl) Try.func3 (by kernel_rfl)
    (of_decide_eq_true (by kernel_rfl)) (by unfold Func.isWrapper; first | (rw [if_pos (by decide +kernel)]; kernel_rfl) | (rw [if_neg (by decide +kernel)]; exact ⟨rfl, rfl⟩))
    (fun os started H enc _ => lifted_PathTells os started H enc)
#print axioms PathTells_holds

end Go.Proofs.Ytlbmikjgpaeddaa

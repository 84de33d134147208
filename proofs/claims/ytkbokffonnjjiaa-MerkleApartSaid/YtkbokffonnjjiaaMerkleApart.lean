
/- Proved: for any two rows of ids quitclaimlaw21.MerkleApart returns true and leaves its arguments as they were. No conditions. -/
import Derived.Test.YtkbokffonnjjiaaMa2
set_option linter.unusedSimpArgs false
set_option linter.unusedVariables false
namespace Go.Proofs.Ytkbokffonnjjiaa
open Go.RowKit Go.Qc Go.Shelf
attribute [local go_sem] txt_size txt_append ib_fold txt_inj txt_toList
set_option maxRecDepth 100000 in
set_option maxHeartbeats 16000000 in
theorem ma_far1 (A : Option Addr) (n c : Nat) (B : Option Addr) (m d : Nat) (w : World) (hn : 30 < n) :
    Calls Try.prog 5 #[.slice A n c, .slice B m d] w fun e w' => e = .returned (.bool true) ∧ Below w.heap.size w w' := by
  have z1 : (30 : Int) < n := by omega
  skip
  go_enter Try.func5, Try.ntmps5
  go_wp2_with (go_at_call 9; (with_reducible refine (awake21_any _).mono ?_); rintro e9 w9 ⟨rfl, hb9⟩)
  go_ret
  exact ⟨rfl, hb9⟩
set_option maxRecDepth 100000 in
set_option maxHeartbeats 16000000 in
theorem ma_far2 (A : Option Addr) (n c : Nat) (B : Option Addr) (m d : Nat) (w : World) (h0 : ¬ 30 < n) (hn : 30 < m) :
    Calls Try.prog 5 #[.slice A n c, .slice B m d] w fun e w' => e = .returned (.bool true) ∧ Below w.heap.size w w' := by
  have z0 : ¬ (30 : Int) < n := by omega
  have z1 : (30 : Int) < m := by omega
  go_enter Try.func5, Try.ntmps5
  go_wp2_with (go_at_call 9; (with_reducible refine (awake21_any _).mono ?_); rintro e9 w9 ⟨rfl, hb9⟩)
  go_ret
  exact ⟨rfl, hb9⟩
set_option maxRecDepth 100000 in
set_option maxHeartbeats 16000000 in
theorem ma_case1 (A : Option Addr) (n c : Nat) (B : Option Addr) (m d : Nat) (w : World) (l r : List (List UInt8)) (hn : ¬ 30 < n) (hm : ¬ 30 < m) (hl : RowC w A n c l) (hr : RowC w B m d r) (h1 : ¬ Steps l n) :
    Calls Try.prog 5 #[.slice A n c, .slice B m d] w fun e w' => e = .returned (.bool true) ∧ Below w.heap.size w w' := by
  have z0 : ¬ (30 : Int) < n := by omega
  have z1 : ¬ (30 : Int) < m := by omega
  have c1 : Calls Try.prog 22 #[.slice A n c, .slice B m d] w fun e w' => e = .returned (.tuple #[.string ⟨#[]⟩, .string ⟨#[]⟩, .bool false]) ∧ Below w.heap.size w w' := apart_no1 A n c B m d l r w hl hr h1
  have c2 : ∀ W, RowC W A n c l → Calls Try.prog 11 #[.slice A n c] W fun e w' => e = .returned (.bool false) ∧ Below W.heap.size W w' := fun W hW => (rrises_any A n c l W hW.1).mono (by
    rintro e w' ⟨v, rfl, ⟨t, rfl, ht⟩, hb⟩
    cases t
    · exact ⟨rfl, hb⟩
    · exact ⟨absurd (ht.1 rfl) h1, hb⟩)
  clear h1 hn hm
  go_enter Try.func5, Try.ntmps5
  go_wp2_with (first
    | (go_at_call 22; (with_reducible refine c1.mono ?_); rintro e1 w1 ⟨rfl, hb1⟩; have hl1 := hl.below hb1; have hr1 := hr.below hb1; clear c1)
    | (go_at_call 11; (with_reducible refine (c2 _ hl1).mono ?_); rintro e2 w2 ⟨rfl, hb2⟩; have hl2 := hl1.below hb2; have hr2 := hr1.below hb2; clear c2)
    | (go_at_call 9; (with_reducible refine (awake21_any _).mono ?_); rintro e9 w9 ⟨rfl, hb9⟩))
  go_ret
  exact ⟨rfl, hb1.trans ((hb2.trans ((hb9).mono hb2.size)).mono hb1.size)⟩
set_option maxRecDepth 100000 in
set_option maxHeartbeats 16000000 in
theorem ma_case2 (A : Option Addr) (n c : Nat) (B : Option Addr) (m d : Nat) (w : World) (l r : List (List UInt8)) (hn : ¬ 30 < n) (hm : ¬ 30 < m) (hl : RowC w A n c l) (hr : RowC w B m d r) (h1 : Steps l n) (h2 : ¬ Steps r m) :
    Calls Try.prog 5 #[.slice A n c, .slice B m d] w fun e w' => e = .returned (.bool true) ∧ Below w.heap.size w w' := by
  have z0 : ¬ (30 : Int) < n := by omega
  have z1 : ¬ (30 : Int) < m := by omega
  have c1 : Calls Try.prog 22 #[.slice A n c, .slice B m d] w fun e w' => e = .returned (.tuple #[.string ⟨#[]⟩, .string ⟨#[]⟩, .bool false]) ∧ Below w.heap.size w w' := apart_no2 A n c B m d l r w hl hr h1 h2
  have c2 : ∀ W, RowC W A n c l → Calls Try.prog 11 #[.slice A n c] W fun e w' => e = .returned (.bool true) ∧ Below W.heap.size W w' := fun W hW => (rrises_any A n c l W hW.1).mono (by
    rintro e w' ⟨v, rfl, ⟨t, rfl, ht⟩, hb⟩
    cases t
    · exact ⟨absurd (ht.2 h1) (by decide), hb⟩
    · exact ⟨rfl, hb⟩)
  have c3 : ∀ W, RowC W B m d r → Calls Try.prog 11 #[.slice B m d] W fun e w' => e = .returned (.bool false) ∧ Below W.heap.size W w' := fun W hW => (rrises_any B m d r W hW.1).mono (by
    rintro e w' ⟨v, rfl, ⟨t, rfl, ht⟩, hb⟩
    cases t
    · exact ⟨rfl, hb⟩
    · exact ⟨absurd (ht.1 rfl) h2, hb⟩)
  clear h1 h2 hn hm
  go_enter Try.func5, Try.ntmps5
  go_wp2_with (first
    | (go_at_call 22; (with_reducible refine c1.mono ?_); rintro e1 w1 ⟨rfl, hb1⟩; have hl1 := hl.below hb1; have hr1 := hr.below hb1; clear c1)
    | (go_at_call 11; (with_reducible refine (c2 _ hl1).mono ?_); rintro e2 w2 ⟨rfl, hb2⟩; have hl2 := hl1.below hb2; have hr2 := hr1.below hb2; clear c2)
    | (go_at_call 11; (with_reducible refine (c3 _ hr2).mono ?_); rintro e3 w3 ⟨rfl, hb3⟩; have hl3 := hl2.below hb3; have hr3 := hr2.below hb3; clear c3)
    | (go_at_call 9; (with_reducible refine (awake21_any _).mono ?_); rintro e9 w9 ⟨rfl, hb9⟩))
  go_ret
  exact ⟨rfl, hb1.trans ((hb2.trans ((hb3.trans ((hb9).mono hb3.size)).mono hb2.size)).mono hb1.size)⟩
set_option maxRecDepth 100000 in
set_option maxHeartbeats 16000000 in
theorem ma_case3 (A : Option Addr) (n c : Nat) (B : Option Addr) (m d : Nat) (w : World) (l r : List (List UInt8)) (hn : ¬ 30 < n) (hm : ¬ 30 < m) (hl : RowC w A n c l) (hr : RowC w B m d r) (h1 : Steps l n) (h2 : Steps r m) (h3 : l = r) :
    Calls Try.prog 5 #[.slice A n c, .slice B m d] w fun e w' => e = .returned (.bool true) ∧ Below w.heap.size w w' := by
  have z0 : ¬ (30 : Int) < n := by omega
  have z1 : ¬ (30 : Int) < m := by omega
  have c1 : Calls Try.prog 22 #[.slice A n c, .slice B m d] w fun e w' => e = .returned (.tuple #[.string ⟨#[]⟩, .string ⟨#[]⟩, .bool false]) ∧ Below w.heap.size w w' := apart_no3 A n c B m d l r w hl hr h1 h2 h3
  have c2 : ∀ W, RowC W A n c l → Calls Try.prog 11 #[.slice A n c] W fun e w' => e = .returned (.bool true) ∧ Below W.heap.size W w' := fun W hW => (rrises_any A n c l W hW.1).mono (by
    rintro e w' ⟨v, rfl, ⟨t, rfl, ht⟩, hb⟩
    cases t
    · exact ⟨absurd (ht.2 h1) (by decide), hb⟩
    · exact ⟨rfl, hb⟩)
  have c3 : ∀ W, RowC W B m d r → Calls Try.prog 11 #[.slice B m d] W fun e w' => e = .returned (.bool true) ∧ Below W.heap.size W w' := fun W hW => (rrises_any B m d r W hW.1).mono (by
    rintro e w' ⟨v, rfl, ⟨t, rfl, ht⟩, hb⟩
    cases t
    · exact ⟨absurd (ht.2 h2) (by decide), hb⟩
    · exact ⟨rfl, hb⟩)
  have c4 : ∀ W, RowC W A n c l → RowC W B m d r → Calls Try.prog 15 #[.slice A n c, .slice B m d] W fun e w' => e = .returned (.bool true) ∧ Below W.heap.size W w' := fun W hW hV => by
    have := rsame_any A B n c m d l r W hW.1 hV.1
    rw [decide_eq_true h3] at this
    exact this
  clear h1 h2 h3 hn hm
  go_enter Try.func5, Try.ntmps5
  go_wp2_with (first
    | (go_at_call 22; (with_reducible refine c1.mono ?_); rintro e1 w1 ⟨rfl, hb1⟩; have hl1 := hl.below hb1; have hr1 := hr.below hb1; clear c1)
    | (go_at_call 11; (with_reducible refine (c2 _ hl1).mono ?_); rintro e2 w2 ⟨rfl, hb2⟩; have hl2 := hl1.below hb2; have hr2 := hr1.below hb2; clear c2)
    | (go_at_call 11; (with_reducible refine (c3 _ hr2).mono ?_); rintro e3 w3 ⟨rfl, hb3⟩; have hl3 := hl2.below hb3; have hr3 := hr2.below hb3; clear c3)
    | (go_at_call 15; (with_reducible refine (c4 _ hl3 hr3).mono ?_); rintro e4 w4 ⟨rfl, hb4⟩; have hl4 := hl3.below hb4; have hr4 := hr3.below hb4; clear c4)
    | (go_at_call 9; (with_reducible refine (awake21_any _).mono ?_); rintro e9 w9 ⟨rfl, hb9⟩))
  go_ret
  exact ⟨rfl, hb1.trans ((hb2.trans ((hb3.trans ((hb4.trans ((hb9).mono hb4.size)).mono hb3.size)).mono hb2.size)).mono hb1.size)⟩
set_option maxRecDepth 100000 in
set_option maxHeartbeats 16000000 in
theorem ma_case4 (A : Option Addr) (n c : Nat) (B : Option Addr) (m d : Nat) (w : World) (l r : List (List UInt8)) (hn : ¬ 30 < n) (hm : ¬ 30 < m) (hl : RowC w A n c l) (hr : RowC w B m d r) (h1 : Steps l n) (h2 : Steps r m) (h3 : l ≠ r) (h4 : wholeM (n : Int) (rootM l) ≠ wholeM (m : Int) (rootM r)) :
    Calls Try.prog 5 #[.slice A n c, .slice B m d] w fun e w' => e = .returned (.bool true) ∧ Below w.heap.size w w' := by
  have z0 : ¬ (30 : Int) < n := by omega
  have z1 : ¬ (30 : Int) < m := by omega
  have c1 : Calls Try.prog 22 #[.slice A n c, .slice B m d] w fun e w' => e = .returned (.tuple #[.string ⟨#[]⟩, .string ⟨#[]⟩, .bool false]) ∧ Below w.heap.size w w' := apart_no4 A n c B m d l r w hl hr h1 h2 h3 h4
  have c2 : ∀ W, RowC W A n c l → Calls Try.prog 11 #[.slice A n c] W fun e w' => e = .returned (.bool true) ∧ Below W.heap.size W w' := fun W hW => (rrises_any A n c l W hW.1).mono (by
    rintro e w' ⟨v, rfl, ⟨t, rfl, ht⟩, hb⟩
    cases t
    · exact ⟨absurd (ht.2 h1) (by decide), hb⟩
    · exact ⟨rfl, hb⟩)
  have c3 : ∀ W, RowC W B m d r → Calls Try.prog 11 #[.slice B m d] W fun e w' => e = .returned (.bool true) ∧ Below W.heap.size W w' := fun W hW => (rrises_any B m d r W hW.1).mono (by
    rintro e w' ⟨v, rfl, ⟨t, rfl, ht⟩, hb⟩
    cases t
    · exact ⟨absurd (ht.2 h2) (by decide), hb⟩
    · exact ⟨rfl, hb⟩)
  have c4 : ∀ W, RowC W A n c l → RowC W B m d r → Calls Try.prog 15 #[.slice A n c, .slice B m d] W fun e w' => e = .returned (.bool false) ∧ Below W.heap.size W w' := fun W hW hV => by
    have := rsame_any A B n c m d l r W hW.1 hV.1
    rw [decide_eq_false h3] at this
    exact this
  have c5 : ∀ W, RowC W A n c l → Calls Try.prog 19 #[.slice A n c] W fun e w' => e = .returned (.agg (idVals (wholeM (n : Int) (rootM l)))) ∧ Below W.heap.size W w' := fun W hW => rsum21_any A n c l W hW
  have c6 : ∀ W, RowC W B m d r → Calls Try.prog 19 #[.slice B m d] W fun e w' => e = .returned (.agg (idVals (wholeM (m : Int) (rootM r)))) ∧ Below W.heap.size W w' := fun W hW => rsum21_any B m d r W hW
  have heq : ∀ W, (Op.equalIn 10000 24 (.agg (idVals (wholeM (n : Int) (rootM l)))) (.agg (idVals (wholeM (m : Int) (rootM r))))).run Try.prog W = .ok (decide (wholeM (n : Int) (rootM l) = wholeM (m : Int) (rootM r))) W := fun W => ids_eq W _ _ (tagB_length _ _) (tagB_length _ _)
  rw [decide_eq_false h4] at heq
  clear h4
  generalize wholeM (n : Int) (rootM l) = X at *
  generalize wholeM (m : Int) (rootM r) = Y at *
  clear h1 h2 h3 hn hm
  go_enter Try.func5, Try.ntmps5
  go_wp2_with (first
    | (go_at_call 22; (with_reducible refine c1.mono ?_); rintro e1 w1 ⟨rfl, hb1⟩; have hl1 := hl.below hb1; have hr1 := hr.below hb1; clear c1)
    | (go_at_call 11; (with_reducible refine (c2 _ hl1).mono ?_); rintro e2 w2 ⟨rfl, hb2⟩; have hl2 := hl1.below hb2; have hr2 := hr1.below hb2; clear c2)
    | (go_at_call 11; (with_reducible refine (c3 _ hr2).mono ?_); rintro e3 w3 ⟨rfl, hb3⟩; have hl3 := hl2.below hb3; have hr3 := hr2.below hb3; clear c3)
    | (go_at_call 15; (with_reducible refine (c4 _ hl3 hr3).mono ?_); rintro e4 w4 ⟨rfl, hb4⟩; have hl4 := hl3.below hb4; have hr4 := hr3.below hb4; clear c4)
    | (go_at_call 19; (with_reducible refine (c5 _ hl4).mono ?_); rintro e5 w5 ⟨rfl, hb5⟩; have hr5 := hr4.below hb5; clear c5)
    | (go_at_call 19; (with_reducible refine (c6 _ hr5).mono ?_); rintro e6 w6 ⟨rfl, hb6⟩; clear c6)
    | (go_at_call 9; (with_reducible refine (awake21_any _).mono ?_); rintro e9 w9 ⟨rfl, hb9⟩))
  go_ret
  exact ⟨rfl, hb1.trans ((hb2.trans ((hb3.trans ((hb4.trans ((hb5.trans ((hb6.trans ((hb9).mono hb6.size)).mono hb5.size)).mono hb4.size)).mono hb3.size)).mono hb2.size)).mono hb1.size)⟩
set_option maxRecDepth 100000 in
set_option maxHeartbeats 16000000 in
theorem ma_case5 (A : Option Addr) (n c : Nat) (B : Option Addr) (m d : Nat) (w : World) (l r : List (List UInt8)) (hn : ¬ 30 < n) (hm : ¬ 30 < m) (hl : RowC w A n c l) (hr : RowC w B m d r) (h1 : Steps l n) (h2 : Steps r m) (h3 : l ≠ r) (h4 : wholeM (n : Int) (rootM l) = wholeM (m : Int) (rootM r)) :
    Calls Try.prog 5 #[.slice A n c, .slice B m d] w fun e w' => e = .returned (.bool true) ∧ Below w.heap.size w w' := by
  have z0 : ¬ (30 : Int) < n := by omega
  have z1 : ¬ (30 : Int) < m := by omega
  have c1 : Calls Try.prog 22 #[.slice A n c, .slice B m d] w (ApQY w) := by
    by_cases h5 : textB setN [cntB (n : Int), rootM l] = textB setN [cntB (m : Int), rootM r]
    · exact apart_yes2 A n c B m d l r w hl hr h1 h2 h3 h4 h5
    · exact apart_yes1 A n c B m d l r w hl hr h1 h2 h3 h4 h5
  have c2 : ∀ W, RowC W A n c l → Calls Try.prog 11 #[.slice A n c] W fun e w' => e = .returned (.bool true) ∧ Below W.heap.size W w' := fun W hW => (rrises_any A n c l W hW.1).mono (by
    rintro e w' ⟨v, rfl, ⟨t, rfl, ht⟩, hb⟩
    cases t
    · exact ⟨absurd (ht.2 h1) (by decide), hb⟩
    · exact ⟨rfl, hb⟩)
  have c3 : ∀ W, RowC W B m d r → Calls Try.prog 11 #[.slice B m d] W fun e w' => e = .returned (.bool true) ∧ Below W.heap.size W w' := fun W hW => (rrises_any B m d r W hW.1).mono (by
    rintro e w' ⟨v, rfl, ⟨t, rfl, ht⟩, hb⟩
    cases t
    · exact ⟨absurd (ht.2 h2) (by decide), hb⟩
    · exact ⟨rfl, hb⟩)
  have c4 : ∀ W, RowC W A n c l → RowC W B m d r → Calls Try.prog 15 #[.slice A n c, .slice B m d] W fun e w' => e = .returned (.bool false) ∧ Below W.heap.size W w' := fun W hW hV => by
    have := rsame_any A B n c m d l r W hW.1 hV.1
    rw [decide_eq_false h3] at this
    exact this
  have c5 : ∀ W, RowC W A n c l → Calls Try.prog 19 #[.slice A n c] W fun e w' => e = .returned (.agg (idVals (wholeM (n : Int) (rootM l)))) ∧ Below W.heap.size W w' := fun W hW => rsum21_any A n c l W hW
  have c6 : ∀ W, RowC W B m d r → Calls Try.prog 19 #[.slice B m d] W fun e w' => e = .returned (.agg (idVals (wholeM (m : Int) (rootM r)))) ∧ Below W.heap.size W w' := fun W hW => rsum21_any B m d r W hW
  have heq : ∀ W, (Op.equalIn 10000 24 (.agg (idVals (wholeM (n : Int) (rootM l)))) (.agg (idVals (wholeM (m : Int) (rootM r))))).run Try.prog W = .ok (decide (wholeM (n : Int) (rootM l) = wholeM (m : Int) (rootM r))) W := fun W => ids_eq W _ _ (tagB_length _ _) (tagB_length _ _)
  rw [decide_eq_true h4] at heq
  clear h4
  generalize wholeM (n : Int) (rootM l) = X at *
  generalize wholeM (m : Int) (rootM r) = Y at *
  clear h1 h2 h3 hn hm
  go_enter Try.func5, Try.ntmps5
  go_upto_region 4 with (go_at_call 22; (with_reducible refine c1.mono ?_); rintro e1 w1 ⟨S, T, rfl, k1, k2, k3, k4, hb1⟩)
  have hl1 := hl.below hb1
  have hr1 := hr.below hb1
  have hst : ¬ S = T := k1
  have hst2 : (S == T) = false := by simpa using hst
  have hst3 : (S != T) = true := by simpa using hst
  have hst4 : decide (S = T) = false := by simpa using hst
  have c7 : ∀ W, Calls Try.prog 23 #[.string (txt S)] W fun e w' => e = .returned (.agg (idVals (sumB S))) ∧ Below W.heap.size W w' := fun W => rsum_any S (by omega) W
  have c8 : ∀ W, Calls Try.prog 23 #[.string (txt T)] W fun e w' => e = .returned (.agg (idVals (sumB S))) ∧ Below W.heap.size W w' := fun W => by rw [k2]; exact rsum_any T (by omega) W
  have heS : ∀ W, (Op.equalIn 10000 24 (.agg (idVals (sumB S))) (.agg (idVals (sumB S)))).run Try.prog W = .ok true W := fun W => (ids_eq W _ _ (sumB_length S) (sumB_length S)).trans (by rw [decide_eq_true rfl])
  clear k1 k2 k3 k4 c1
  generalize sumB S = Z at *
  go_wp2_with (first
    | (go_at_call 11; (with_reducible refine (c2 _ hl1).mono ?_); rintro e2 w2 ⟨rfl, hb2⟩; have hl2 := hl1.below hb2; have hr2 := hr1.below hb2; clear c2)
    | (go_at_call 11; (with_reducible refine (c3 _ hr2).mono ?_); rintro e3 w3 ⟨rfl, hb3⟩; have hl3 := hl2.below hb3; have hr3 := hr2.below hb3; clear c3)
    | (go_at_call 15; (with_reducible refine (c4 _ hl3 hr3).mono ?_); rintro e4 w4 ⟨rfl, hb4⟩; have hl4 := hl3.below hb4; have hr4 := hr3.below hb4; clear c4)
    | (go_at_call 19; (with_reducible refine (c5 _ hl4).mono ?_); rintro e5 w5 ⟨rfl, hb5⟩; have hr5 := hr4.below hb5; clear c5)
    | (go_at_call 19; (with_reducible refine (c6 _ hr5).mono ?_); rintro e6 w6 ⟨rfl, hb6⟩; clear c6)
    | (go_at_call 23; (with_reducible refine (c7 _).mono ?_); rintro e7 w7 ⟨rfl, hb7⟩; clear c7)
    | (go_at_call 23; (with_reducible refine (c8 _).mono ?_); rintro e8 w8 ⟨rfl, hb8⟩; clear c8)
    | (go_at_call 9; (with_reducible refine (awake21_any _).mono ?_); rintro e9 w9 ⟨rfl, hb9⟩))
  go_ret
  exact ⟨rfl, hb1.trans ((hb2.trans ((hb3.trans ((hb4.trans ((hb5.trans ((hb6.trans ((hb7.trans ((hb8.trans ((hb9).mono hb8.size)).mono hb7.size)).mono hb6.size)).mono hb5.size)).mono hb4.size)).mono hb3.size)).mono hb2.size)).mono hb1.size)⟩
theorem open_capA {H : Type} {enc : TypeId × Value → H} {P : Program} {w : World} {base : Nat} {sp : Nat → Bool} {hd : Bool} {t e : TypeId} {a : Option Addr} {len cap : Nat} {d : DataW H} {ps : List MemPlace} (ht : P.underlying t = some (.slice e))
    (h : DataW.Trod enc P w base sp hd t (.slice a len cap) d ps) : (a = none ∧ len = 0 ∧ cap = 0) ∨ ((∃ x, a = some x) ∧ len ≤ cap ∧ cap ≤ maxLen) := by
  obtain ⟨fuel, hf⟩ := h
  cases fuel with
  | zero => simp [DataW.trod] at hf
  | succ m =>
    rw [DataW.trod_step] at hf
    unfold DataW.trodStep at hf
    simp only [ht, Value.cells] at hf
    cases a with
    | none =>
      left
      rcases len with _ | len <;> rcases cap with _ | cap <;> first | exact ⟨rfl, rfl, rfl⟩ | (simp at hf)
    | some a =>
      right
      dsimp only at hf
      split at hf
      · rename_i hcond
        exact ⟨⟨a, rfl⟩, hcond.2.1, hcond.2.2⟩
      · cases hf
theorem law_MerkleApart (w : World) (a0 : Option Addr) (l0 c0 : Nat) (z0 : List (List UInt8)) (w0 : IdRow w a0 l0 z0) (a1 : Option Addr) (l1 c1 : Nat) (z1 : List (List UInt8)) (w1 : IdRow w a1 l1 z1) (x0 : (a0 = none ∧ l0 = 0 ∧ c0 = 0) ∨ ((∃ x, a0 = some x) ∧ l0 ≤ c0 ∧ c0 ≤ maxLen)) (x1 : (a1 = none ∧ l1 = 0 ∧ c1 = 0) ∨ ((∃ x, a1 = some x) ∧ l1 ≤ c1 ∧ c1 ≤ maxLen)) :
    Calls Try.prog 5 #[.slice a0 l0 c0, .slice a1 l1 c1] w fun e w' => e = .returned (.bool true) ∧ Below w.heap.size w w' := by
  by_cases h : 30 < l0
  · exact ma_far1 a0 l0 c0 a1 l1 c1 w h
  · by_cases h' : 30 < l1
    · exact ma_far2 a0 l0 c0 a1 l1 c1 w h h'
    · have hl : RowC w a0 l0 c0 z0 := ⟨⟨w0.1, by omega, w0.2.2⟩, x0⟩
      have hr : RowC w a1 l1 c1 z1 := ⟨⟨w1.1, by omega, w1.2.2⟩, x1⟩
      by_cases h1 : Steps z0 l0
      · by_cases h2 : Steps z1 l1
        · by_cases h3 : z0 = z1
          · exact ma_case3 a0 l0 c0 a1 l1 c1 w z0 z1 h h' hl hr h1 h2 h3
          · by_cases h4 : wholeM (l0 : Int) (rootM z0) = wholeM (l1 : Int) (rootM z1)
            · exact ma_case5 a0 l0 c0 a1 l1 c1 w z0 z1 h h' hl hr h1 h2 h3 h4
            · exact ma_case4 a0 l0 c0 a1 l1 c1 w z0 z1 h h' hl hr h1 h2 h3 h4
        · exact ma_case2 a0 l0 c0 a1 l1 c1 w z0 z1 h h' hl hr h1 h2
      · exact ma_case1 a0 l0 c0 a1 l1 c1 w z0 z1 h h' hl hr h1
open Go.ChangeShapes Go.WideShapes Go.ChangeAt
open Go.ChangeMaps (open_string shut_string)
theorem own_MerkleApart : ownKnob Try.prog.godebug = none := by kernel_rfl
theorem laidOut_MerkleApart : laidOutB Try.prog = true := by kernel_rfl
set_option linter.unusedVariables false in
set_option maxRecDepth 100000 in
theorem lifted_MerkleApart (os : Os) (started : os.Started) (H : Type) (enc : TypeId × Value → H) :
    ReturnsInHanded {} Try.checked os 5 .any (Rows.merkleApartSpec.pre6 enc Try.prog Try.f5 Rows.merkleApartRow.domain false) (Rows.merkleApartSpec.post enc Try.prog Try.f5 false true false false) := by
  refine returnsInHanded_of_change (C := Try.checked) own_MerkleApart started (by kernel_rfl) Try.func5
    (ChangeSpec.witness6 (enc := enc) (C := Try.checked) false ⟨#[], #[.slice none 0 0, .slice none 0 0], []⟩ 8 (by kernel_rfl) (by kernel_rfl) (by kernel_rfl) (by kernel_rfl)) ?_
  intro W base args ds gs before hval0 hW hcnd _
  have hval : ∀ (j : Nat) t v, Try.f5.params[j]? = some t → args[j]? = some v → Value.okWide Try.prog W .any base t v := hval0
  have hW' := hW
  obtain ⟨p, q, hA0, hV, rfl, hfz, hnd⟩ := hW
  have hA1 : DataW.TrodAll enc Try.prog W 0 (fun _ => true) true Try.f5.params.toList args.toList ds p := hA0
  have hA : DataW.TrodAll enc Try.prog W 0 (fun _ => true) true Try.f5.params.toList args.toList ds p := hA0
  rw [Try.params5] at hA hval
  obtain ⟨v0, vs0, d0, ds0, p0, q0, hargs, rfl, rfl, h0, r0⟩ := trodAll_cons hA
  obtain ⟨v1, vs1, d1, ds1, p1, q1, rfl, rfl, rfl, h1, r1⟩ := trodAll_cons r0
  obtain ⟨rfl, rfl, rfl⟩ := trodAll_nil r1
  obtain rfl : args = #[v0, v1] := by cases args; simp_all
  obtain ⟨rfl, rfl⟩ := trodVars_none hV
  obtain ⟨a0, l0, c0, z0, rfl, w0⟩ := open_idRow Try.underlying22 Try.underlying24 Try.underlying5 (by kernel_rfl) (by kernel_rfl) (hval 0 22 v0 rfl rfl) h0
  obtain ⟨a1, l1, c1, z1, rfl, w1⟩ := open_idRow Try.underlying22 Try.underlying24 Try.underlying5 (by kernel_rfl) (by kernel_rfl) (hval 1 22 v1 rfl rfl) h1
  have x0 := open_capA Try.underlying22 h0
  have x1 := open_capA Try.underlying22 h1
  clear hA0 hval0
  refine (law_MerkleApart W a0 l0 c0 z0 w0 a1 l1 c1 z1 w1 x0 x1).mono fun e W' ⟨he, bel⟩ => ?_
  subst he
  exact ⟨_, rfl, _, _, _, [], _, [], hW', trodAll_mk1 (shut_bool Try.underlying4 _), trodAll_stays laidOut_MerkleApart bel (by kernel_rfl) hA1, rfl, bel.frame _, fun h => by cases h⟩

/-- The statement. -/
theorem MerkleApart_holds : Rows.MerkleApartSaid :=
  OpenClaim.holds_of_wide 5 Try.f5 rfl rfl rfl rfl rfl rfl rfl ⟨rfl, rfl, rfl, rfl, rfl⟩ rfl rfl rfl rfl rfl (by kernel_rfl) Try.func5 (by kernel_rfl)
    (of_decide_eq_true (by kernel_rfl)) (by unfold Func.isWrapper; first | (rw [if_pos (by decide +kernel)]; kernel_rfl) | (rw [if_neg (by decide +kernel)]; exact ⟨rfl, rfl⟩))
    (fun os started H enc _ => lifted_MerkleApart os started H enc)
#print axioms MerkleApart_holds

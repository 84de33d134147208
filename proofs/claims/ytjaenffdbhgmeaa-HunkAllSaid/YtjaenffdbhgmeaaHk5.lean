
/- hunk: what the package's calls tell; a hunk the other way. -/
import Derived.Test.YtjaenffdbhgmeaaHk4
set_option linter.unusedSimpArgs false
set_option linter.unusedVariables false
namespace Go.Proofs.Ytjaenffdbhgmeaa
open Go.RowKit Go.Qc Go.Shelf
attribute [local go_sem] txt_size txt_append ib_fold txt_toL

set_option maxHeartbeats 2000000 in
theorem clones_any (A : Option Addr) (n c : Nat) (l : List (List UInt8)) (hn : l.length = n) (bn : n ≤ 1000000) (w : World) (hr : Rd w A (l.map strV)) :
    Calls Try.prog 45 #[.slice A n c] w fun e w' => ∃ v, e = .returned v ∧ w'.ownsRow w.heap.size 9 1 v n (l.map strV) ∧ Below w.heap.size w w' := by
  obtain ⟨j0, hj, hjz, hjs, hjb⟩ := info_parts infoString
  have qN : ∀ (W : World) (a : Option Addr) (n c n' c' : Nat), (binOp .eql 37 (.slice a n c) (.slice none n' c')).run Try.prog W = .ok (.bool a.isNone) W := fun W a n c n' c' => Lib.run_eql_slice_nil W _ _ a n c n' c' Try.underlying37
  cases A with
  | none =>
    obtain rfl : l = [] := by
      rcases hr with h | ⟨_, h, _⟩
      · simpa using h
      · cases h
    obtain rfl : n = 0 := hn.symm
    clear hr
    go_enter Try.func45, Try.ntmps45
    go_wp2
    go_ret
    exact ⟨_, rfl, World.ownsRow_nil _ _ _ _, Below.refl _ _⟩
  | some ad =>
    have hc : ∀ j u, (l.map strV)[j]? = some u → w.cell? (ad.add j) = some u := by
      rcases hr with h | ⟨a, h, hr⟩
      · intro j u hu; rw [h] at hu; simp at hu
      · cases h; exact hr
    have h1 : ∀ u ∈ l.map strV, u.oneCell' = true := by
      intro u hu
      obtain ⟨a, _, rfl⟩ := List.mem_map.1 hu
      rfl
    have hl2 : (l.map strV).length = n * 1 := by rw [List.length_map]; omega
    generalize l.map strV = R at *
    have HC := hid hc
    clear hr hn hc
    go_enter Try.func45, Try.ntmps45
    go_wp2_with (at_builtin; refine wpList_append_own _ rfl _ _ 37 rfl w.heap.size 9 j0 (.string ⟨#[]⟩) 1 16 Try.underlying37 hj hjz hjs hjb rfl (by decide) _ _ _ rfl (World.ownsRow_made w #[] 0 (Nat.le_refl _) (by decide) rfl) ad n c R rfl hl2 ?l6 h1 ?l2 ?l3 ?l4 ?_)
    case l6 => intro j u hju; exact Lib.cell?_alloc_some _ (HC.out j u hju)
    case l2 => unfold maxLen; omega
    case l3 => omega
    case l4 => simp
    intro v' w1 hown hgrow _
    go_wp2
    go_ret
    exact ⟨v', rfl, by simpa using hown, ((Below.refl _ w).alloc (Nat.le_refl _) _).grown hgrow (by simp) (by intro k hk; simp [Value.ownBlock] at hk; omega)⟩
theorem apply_any (L : Option Addr) (k e : Nat) (ls : List (List UInt8)) (hk : ls.length = k) (hke : k ≤ e) (hL0 : L = none → e = 0) (bk : k ≤ 1000) (at' : Int) (A : Option Addr) (n c : Nat) (old : List (List UInt8)) (hn : old.length = n) (bn : n ≤ 1000) (B : Option Addr) (m d : Nat) (new : List (List UInt8)) (hm : new.length = m) (bm : m ≤ 1000) (hB0 : B = none → d = 0) (w : World)
    (hL : Rd w L (ls.map strV)) (hA : Rd w A (old.map strV)) (hB : Rd w B (new.map strV)) :
    Calls Try.prog 41 #[.slice L k e, .agg #[.int .i64 at', .slice A n c, .slice B m d]] w fun e w' => ∃ v, e = .returned (.tuple #[v, .int .i64 (if linesR ls then (appR ls at' old new).2 else 3)]) ∧ w'.ownsRow w.heap.size 9 1 v (if linesR ls then (appR ls at' old new).1 else []).length ((if linesR ls then (appR ls at' old new).1 else []).map strV) ∧ Below w.heap.size w w' := by
  have hX : Below w.heap.size w (w.alloc (.cells #[.int .i64 at', .slice A n c, .slice B m d] 42)) := (Below.refl _ w).alloc (Nat.le_refl _) _
  have hh := Hk.new w 42 at' (.slice A n c) (.slice B m d)
  have cL : ∀ W, Below w.heap.size w W → Calls Try.prog 44 #[.slice L k e] W fun e w' => e = .returned (.bool (linesR ls)) ∧ W = w' := fun W hb => lines_any L k e ls hk (by omega) W (hL.below hb)
  have cA : ∀ W, Below w.heap.size w W → Calls Try.prog 46 #[.slice L k e, .agg #[.int .i64 at', .slice A n c, .slice B m d]] W fun e w' => ∃ v, e = .returned (.tuple #[v, .int .i64 (appR ls at' old new).2]) ∧ w'.ownsRow W.heap.size 9 1 v (appR ls at' old new).1.length ((appR ls at' old new).1.map strV) ∧ Below W.heap.size W w' := fun W hb => applied_any L k e ls hk hke hL0 bk at' A n c old hn bn B m d new hm bm hB0 W (hL.below hb) (hA.below hb) (hB.below hb)
  generalize appR ls at' old new = P at *
  cases hl : linesR ls with
  | true =>
    rw [hl] at cL
    simp only [if_true]
    clear hl hk hke bk hn bn hm bm hB0 hL hA hB hL0
    go_enter Try.func41, Try.ntmps41
    go_wp2_with (first
      | (go_at_call 44; (with_reducible refine (cL _ hX).mono ?_); rintro e1 w1 ⟨rfl, rfl⟩)
      | (go_at_call 46; (with_reducible refine (cA _ hX).mono ?_); rintro e2 w2 ⟨v, rfl, hown, hb⟩))
    go_ret2
    exact ⟨v, rfl, own_base hown hX.size, hX.trans (hb.mono hX.size)⟩
  | false =>
    rw [hl] at cL
    simp only [if_false, Bool.false_eq_true]
    clear hl hk hke bk hn bn hm bm hB0 hL hA hB hL0 cA
    go_enter Try.func41, Try.ntmps41
    go_wp2_with (go_at_call 44; (with_reducible refine (cL _ hX).mono ?_); rintro e1 w1 ⟨rfl, rfl⟩)
    go_ret2
    exact ⟨_, rfl, World.ownsRow_nil _ _ _ _, hX⟩
/-! ### the document's -/
set_option maxHeartbeats 8000000 in
theorem rhright_gen (at' : Int) (A : Option Addr) (n c : Nat) (B : Option Addr) (m d : Nat) (O N : Bool) (w : World)
    (cO : ∀ W, Below w.heap.size w W → Calls Try.prog 13 #[.slice A n c] W fun e w' => e = .returned (.bool O) ∧ W = w')
    (cN : ∀ W, Below w.heap.size w W → Calls Try.prog 13 #[.slice B m d] W fun e w' => e = .returned (.bool N) ∧ W = w') :
    Calls Try.prog 43 #[.agg #[.int .i64 at', .slice A n c, .slice B m d]] w fun e w' => e = .returned (.bool (decide (0 ≤ at') && (decide (at' ≤ 1000) && (O && (N && decide (0 < n + m)))))) ∧ Below w.heap.size w w' := by
  have hB : Below w.heap.size w (w.alloc (.cells #[.int .i64 at', .slice A n c, .slice B m d] 45)) := (Below.refl _ w).alloc (Nat.le_refl _) _
  by_cases h0 : (0 : Int) ≤ at'
  case neg =>
    rw [decide_eq_false h0, Bool.false_and]
    go_enter Try.func43, Try.ntmps43
    go_wp2_with (go_at_call 13; (first | (with_reducible refine (cO _ hB).mono ?_) | (with_reducible refine (cN _ hB).mono ?_)); rintro e1 w1 ⟨rfl, rfl⟩)
    go_ret
    exact ⟨rfl, hB⟩
  rw [decide_eq_true h0, Bool.true_and]
  by_cases h1 : at' ≤ 1000
  case neg =>
    rw [decide_eq_false h1, Bool.false_and]
    go_enter Try.func43, Try.ntmps43
    go_wp2_with (go_at_call 13; (first | (with_reducible refine (cO _ hB).mono ?_) | (with_reducible refine (cN _ hB).mono ?_)); rintro e1 w1 ⟨rfl, rfl⟩)
    go_ret
    exact ⟨rfl, hB⟩
  rw [decide_eq_true h1, Bool.true_and]
  cases O with
  | false =>
    rw [Bool.false_and]
    go_enter Try.func43, Try.ntmps43
    go_wp2_with (go_at_call 13; (first | (with_reducible refine (cO _ hB).mono ?_) | (with_reducible refine (cN _ hB).mono ?_)); rintro e1 w1 ⟨rfl, rfl⟩)
    go_ret
    exact ⟨rfl, hB⟩
  | true =>
    rw [Bool.true_and]
    cases N with
    | false =>
      rw [Bool.false_and]
      go_enter Try.func43, Try.ntmps43
      go_wp2_with (go_at_call 13; (first | (with_reducible refine (cO _ hB).mono ?_) | (with_reducible refine (cN _ hB).mono ?_)); rintro e1 w1 ⟨rfl, rfl⟩)
      go_ret
      exact ⟨rfl, hB⟩
    | true =>
      rw [Bool.true_and]
      by_cases hs : 0 < n
      · have z : (0 : Int) < n := by omega
        rw [decide_eq_true (show 0 < n + m by omega)]
        go_enter Try.func43, Try.ntmps43
        go_wp2_with (go_at_call 13; (first | (with_reducible refine (cO _ hB).mono ?_) | (with_reducible refine (cN _ hB).mono ?_)); rintro e1 w1 ⟨rfl, rfl⟩)
        go_ret
        exact ⟨rfl, hB⟩
      · have z : ¬ (0 : Int) < n := by omega
        have hn0 := hid hs
        clear hs
        by_cases ht : 0 < m
        · have z2 : (0 : Int) < m := by omega
          rw [decide_eq_true (show 0 < n + m by omega)]
          obtain rfl : n = 0 := by have := hn0.out; omega
          go_enter Try.func43, Try.ntmps43
          go_wp2_with (go_at_call 13; (first | (with_reducible refine (cO _ hB).mono ?_) | (with_reducible refine (cN _ hB).mono ?_)); rintro e1 w1 ⟨rfl, rfl⟩)
          go_ret
          exact ⟨rfl, hB⟩
        · obtain rfl : n = 0 := by have := hn0.out; omega
          obtain rfl : m = 0 := by omega
          clear z ht hn0
          go_enter Try.func43, Try.ntmps43
          go_wp2_with (go_at_call 13; (first | (with_reducible refine (cO _ hB).mono ?_) | (with_reducible refine (cN _ hB).mono ?_)); rintro e1 w1 ⟨rfl, rfl⟩)
          go_ret
          exact ⟨rfl, hB⟩
end Go.Proofs.Ytjaenffdbhgmeaa

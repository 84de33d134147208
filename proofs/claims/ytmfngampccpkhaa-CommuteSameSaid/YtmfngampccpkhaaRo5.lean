
/- commute.Rows and commute.Touch. -/
import Derived.Test.YtmfngampccpkhaaRo4
set_option linter.unusedSimpArgs false
set_option linter.unusedVariables false
namespace Go.Proofs.Ytmfngampccpkhaa
open Go.RowKit Go.Qc Go.Shelf
attribute [local go_sem] txt_size txt_append ib_fold txt_toL

set_option maxRecDepth 100000 in
set_option maxHeartbeats 40000000 in
theorem crows_ok (A : Option Addr) (n c : Nat) (Xs : List OpV) (B : Option Addr) (m d : Nat) (Ys : List OpV) (w : World) (cS : Calls Try.prog 16 #[.slice A n c, .slice B m d] w fun e w' => ∃ A1 c1 A2 c2 g1 g2 Fs Ts, e = .returned (.tuple #[.slice A1 m c1, .slice A2 n c2, .agg #[.int .i64 0, .int .i64 0], .bool false]) ∧ Hid (Fs.length = m ∧ Ts.length = n ∧ rowsF 0 (Ys.map OpV.D) (Xs.map OpV.D) = .ok (Fs.map OpV.D, Ts.map OpV.D) ∧ RowG w' w.heap.size g1 A1 Fs ∧ RowG w' w.heap.size g2 A2 Ts ∧ (∀ X ∈ Fs, OpOw w' w.heap.size X) ∧ (∀ X ∈ Ts, OpOw w' w.heap.size X) ∧ Below w.heap.size w w')) :
    Calls Try.prog 7 #[.slice A n c, .slice B m d] w fun e w' => ∃ A1 c1 A2 c2 g1 g2 Fs Ts, e = .returned (.tuple #[.slice A1 m c1, .slice A2 n c2, .bool true]) ∧ Fs.length = m ∧ Ts.length = n ∧ rowsF 0 (Ys.map OpV.D) (Xs.map OpV.D) = .ok (Fs.map OpV.D, Ts.map OpV.D) ∧ RowG w' w.heap.size g1 A1 Fs ∧ RowG w' w.heap.size g2 A2 Ts ∧ (∀ X ∈ Fs, OpOw w' w.heap.size X) ∧ (∀ X ∈ Ts, OpOw w' w.heap.size X) ∧ Below w.heap.size w w' := by
  have hiP : (Try.prog.info? 47).map (·.size) = some (#[.int .i64 0, .int .i64 0] : Array Value).size := infoPair
  have hsP : (#[.int .i64 0, .int .i64 0] : Array Value).size = (#[.int .i64 0, .int .i64 0] : Array Value).size := rfl
  have hoP := pair_one 0 0
  go_enter Try.func7, Try.ntmps7
  go_wp2_with (first
    | (go_at_call 16; (with_reducible refine cS.mono ?_); rintro o1 w1 ⟨A1, c1, A2, c2, g1, g2, Fs, Ts, rfl, hF⟩)
    | (with_reducible refine wpList_store_new rfl 47 _ _ rfl (#[.int .i64 0, .int .i64 0]) rfl rfl hiP hsP hoP ?_))
  go_ret3
  obtain ⟨h1, h2, h3, h4, h5, h6, h7, h8⟩ := hF.out
  have hb := (Below.refl w1.heap.size w1).alloc (Nat.le_refl _) (.cells #[.int .i64 0, .int .i64 0] 47)
  exact ⟨A1, c1, A2, c2, g1, g2, Fs, Ts, rfl, h1, h2, h3, h4.below hb, h5.below hb, fun X hX => (h6 X hX).below hb, fun X hX => (h7 X hX).below hb, h8.trans (hb.mono h8.size)⟩
set_option maxRecDepth 100000 in
set_option maxHeartbeats 40000000 in
theorem crows_no (A : Option Addr) (n c : Nat) (B : Option Addr) (m d : Nat) (w : World) (i k : Nat) (cS : Calls Try.prog 16 #[.slice A n c, .slice B m d] w fun e w' => ∃ (A1 A2 : Option Addr) (c1 c2 : Nat), e = .returned (.tuple #[.slice A1 m c1, .slice A2 n c2, .agg #[.int .i64 i, .int .i64 k], .bool true]) ∧ Below w.heap.size w w') :
    Calls Try.prog 7 #[.slice A n c, .slice B m d] w fun e w' => e = .returned (.tuple #[.slice none 0 0, .slice none 0 0, .bool false]) ∧ Below w.heap.size w w' := by
  have hiP : (Try.prog.info? 47).map (·.size) = some (#[.int .i64 i, .int .i64 k] : Array Value).size := infoPair
  have hsP : (#[.int .i64 0, .int .i64 0] : Array Value).size = (#[.int .i64 i, .int .i64 k] : Array Value).size := rfl
  have hoP := pair_one (i : Int) (k : Int)
  go_enter Try.func7, Try.ntmps7
  go_wp2_with (first
    | (go_at_call 16; (with_reducible refine cS.mono ?_); rintro o1 w1 ⟨A1, A2, c1, c2, rfl, hb⟩)
    | (with_reducible refine wpList_store_new rfl 47 _ _ rfl (#[.int .i64 i, .int .i64 k]) rfl rfl hiP hsP hoP ?_))
  go_ret3
  exact ⟨rfl, hb.alloc hb.size _⟩
set_option maxRecDepth 100000 in
set_option maxHeartbeats 40000000 in
theorem crows_any (A : Option Addr) (n c : Nat) (Xs : List OpV) (B : Option Addr) (m d : Nat) (Ys : List OpV) (w : World) (hn : Xs.length = n) (bn : n ≤ 1000) (hr : OpRd w A Xs) (hX : ∀ X ∈ Xs, OpR w X.D X.A X.n X.B X.m) (hm : Ys.length = m) (bm : m ≤ 1000) (hs : OpRd w B Ys) (hY : ∀ X ∈ Ys, OpR w X.D X.A X.n X.B X.m) :
    Calls Try.prog 7 #[.slice A n c, .slice B m d] w fun e w' => (∃ A1 c1 A2 c2 g1 g2 Fs Ts, e = .returned (.tuple #[.slice A1 m c1, .slice A2 n c2, .bool true]) ∧ Fs.length = m ∧ Ts.length = n ∧ rowsF 0 (Ys.map OpV.D) (Xs.map OpV.D) = .ok (Fs.map OpV.D, Ts.map OpV.D) ∧ RowG w' w.heap.size g1 A1 Fs ∧ RowG w' w.heap.size g2 A2 Ts ∧ (∀ X ∈ Fs, OpOw w' w.heap.size X) ∧ (∀ X ∈ Ts, OpOw w' w.heap.size X) ∧ Below w.heap.size w w') ∨
      (∃ i k : Nat, e = .returned (.tuple #[.slice none 0 0, .slice none 0 0, .bool false]) ∧ rowsF 0 (Ys.map OpV.D) (Xs.map OpV.D) = .error (i, k) ∧ Below w.heap.size w w') := by
  have cS := swapped_any A n c Xs B m d Ys w hn bn hr hX hm bm hs hY
  cases hq : rowsF 0 (Ys.map OpV.D) (Xs.map OpV.D) with
  | ok r =>
    refine (crows_ok A n c Xs B m d Ys w (cS.mono (fun e w' h => ?_))).mono (fun e w' h => ?_)
    · rw [hq] at h
      rcases h with ⟨A1, c1, A2, c2, g1, g2, Fs, Ts, rfl, h⟩ | ⟨_, _, _, _, _, _, _, h, _⟩
      · exact ⟨A1, c1, A2, c2, g1, g2, Fs, Ts, rfl, hid (by rw [hq]; exact h)⟩
      · cases h
    · exact .inl (by rwa [hq] at h)
  | error ik =>
    obtain ⟨i, k⟩ := ik
    refine (crows_no A n c B m d w i k (cS.mono (fun e w' h => ?_))).mono (fun e w' h => ?_)
    · rw [hq] at h
      rcases h with ⟨_, _, _, _, _, _, _, _, _, _, _, h, _⟩ | ⟨A1, A2, c1, c2, i', k', rfl, h, hb⟩
      · cases h
      · injection h with h
        injection h with h1 h2
        subst h1 h2
        exact ⟨A1, A2, c1, c2, rfl, hb⟩
    · exact .inr ⟨i, k, h.1, rfl, h.2⟩
end Go.Proofs.Ytmfngampccpkhaa

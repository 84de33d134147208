
/- witness: what Find tells of what is verified. -/
import Derived.Test.YticpdepbgcagaaaGreatWi12
import Derived.Test.YticpdepbgcagaaaGreatWi13
set_option linter.unusedSimpArgs false
set_option linter.unusedVariables false
namespace Go.Proofs.YticpdepbgcagaaaGreat
open Go.RowKit Go.Qc Go.Shelf
theorem root_backW (s a : List UInt8) (y z : Nat) (hz : z < 2 ^ y) : keyB 8 y (ownR 8 y z s a) = ofB s 8 y := by
  unfold ownR rootB recB ofB
  rw [signed_back]
  have := climb_way (lfF s 8) z y
  rw [Nat.div_eq_of_lt hz] at this
  rw [← this]
  rfl
theorem fd_case (H L : Nat) (s : List UInt8) (hs : s.length ≤ 1000) (a : List UInt8) (ha : a.length = 32) (X : Option Addr) (x cx : Nat) (Xs : List WiD) (hxn : Xs.length = x) (bx : x ≤ 1000) (A B C : Option Addr) (c1 c2 c3 : Nat) (l r way : List (List UInt8))
    (hr : rgtP (8 : Nat) H = true) (hLb : L ≤ 9223372036854775807) (hl : l.length = 8) (hl32 : ∀ x ∈ l, x.length = 32) (hr32 : ∀ x ∈ r, x.length = 32) (hw : way.length = H) (hw32 : ∀ x ∈ way, x.length = 32)
    (hkey : keyB 8 H (rootB a l r way 8 L) = keyB 8 H (ownR 8 H L s a)) :
    (fdW 8 H L s a l r way Xs = wt0 ∧ ¬ KpP Xs) ∨ ∃ kd : Int, kd ≠ 0 ∧ (fdW 8 H L s a l r way Xs)[0]? = some (.int .i64 kd) ∧
      (∀ W A6 c6, WiRd W A6 Xs → Calls Tryz.prog 12 #[.agg #[.int .i64 8, .int .i64 H], .string (txt s), .slice A6 x c6, .agg (idVals a), .agg #[.int .i64 L, .slice A 8 c1, .slice B 8 c2, .slice C H c3], .agg (fdW 8 H L s a l r way Xs)] W fun e w' => e = .returned (.bool true) ∧ Below W.heap.size W w') ∧
      (∀ W, WiRd W X Xs → Calls Tryz.prog 13 #[.agg #[.int .i64 8, .int .i64 H], .string (txt s), .slice X x cx, .agg (idVals a), .agg #[.int .i64 L, .slice A 8 c1, .slice B 8 c2, .slice C H c3], .agg (fdW 8 H L s a l r way Xs)] W fun e w' => e = .returned (.bool true) ∧ Below W.heap.size W w') := by
  have hS32 := upTo_32 (hiddenX s L a) (hiddenX_length s L a) 8
  have hW32 := upTo_32 (wayF (lfF s 8) L) (fun b => ndB_length _ (lfF_length s 8) _ _) H
  have hWl := upTo_length (wayF (lfF s 8) L) H
  unfold fdW
  cases ho : unlW (wiT 8 H L a l r way) (wiT 8 H L a (upTo (shownX s L a) 8) (upTo (hiddenX s L a) 8) (upTo (wayF (lfF s 8) L) H)) (H + 1 + 1) with
  | some k =>
    right
    obtain ⟨_, hne, _⟩ := unlW_some ho
    have hsum := unlW_sum hw hWl hw32 hW32 hkey ho
    have l1 := wiT_len 8 H L (by decide) a l r way hr32 hw32 k
    have l2 := wiT_len 8 H L (by decide) a (upTo (shownX s L a) 8) (upTo (hiddenX s L a) 8) (upTo (wayF (lfF s 8) L) H) hS32 hW32 k
    exact ⟨2, by decide, wt2_c0 _ _, fun W A6 c6 h => wlholds_2 8 H s hs A6 x c6 Xs hxn bx a ha L A B C 8 8 H c1 c2 c3 _ _ hne l1 l2 hsum W h, fun W h => wpholds_2 8 H s hs X x cx Xs hxn bx a ha L A B C 8 8 H c1 c2 c3 _ _ hne l1 l2 hsum hr W h⟩
  | none =>
    have hT0 := unlW_none ho 0 (by omega)
    unfold fdR
    by_cases hh : honB (8 : Nat) Xs a L = true
    · right
      simp only [hh, if_true]
      exact ⟨1, by decide, wt1_c0, fun W A6 c6 h => wlholds_1 8 H s hs A6 x c6 Xs hxn bx a ha L A B C 8 8 H c1 c2 c3 hh W h, fun W h => wpholds_1 8 H s hs X x cx Xs hxn bx a ha L A B C 8 8 H c1 c2 c3 hh hr W h⟩
    · simp only [hh]
      cases hf : fstW 8 Xs L a with
      | none =>
        left
        exact ⟨rfl, keeps_not (by simpa using hh) hf⟩
      | some b =>
        right
        have hb : b < 8 := by unfold fstW at hf; exact List.mem_range.1 (List.mem_of_find?_eq_some hf)
        have hsw : shwB Xs L b ((bitZ a b : Nat) : Int) = false := by
          unfold fstW at hf
          have := List.find?_some hf
          simpa using this
        have hz := bitZ_le a b
        have hu : ((bitZ a b : Nat) : Int) = 0 ∨ ((bitZ a b : Nat) : Int) = 1 := by omega
        have hV : (getB l b).length = 32 := getB_length hl32 b
        have hp := wiT_leaf hl hr32 (by decide) hT0 hb
        exact ⟨3, by decide, wt3_c0 _ _ _ _, fun W A6 c6 h => wlholds_3 8 H s hs A6 x c6 Xs hxn bx a ha L A B C 8 8 H c1 c2 c3 b hb (by decide) hLb _ hu _ hV hsw hp W h, fun W h => wpholds_3 8 H s hs X x cx Xs hxn bx a ha L A B C 8 8 H c1 c2 c3 b hb (by decide) hLb _ hu _ hV hsw hp hr W h⟩
end Go.Proofs.YticpdepbgcagaaaGreat


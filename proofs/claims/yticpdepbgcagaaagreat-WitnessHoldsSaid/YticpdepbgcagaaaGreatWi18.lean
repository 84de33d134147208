
/- witness: a witness that comes in; whether it is what it says: one answer of the law and of the program. -/
import Derived.Test.YticpdepbgcagaaaGreatWi17
import Derived.Test.YticpdepbgcagaaaGreatWo1
import Derived.Test.YticpdepbgcagaaaGreatRows
import Derived.ChangeShapes
import Derived.Deep.DeepCutAuto
set_option linter.unusedSimpArgs false
set_option linter.unusedVariables false
namespace Go.Proofs.YticpdepbgcagaaaGreat
open Go.RowKit Go.Qc Go.Shelf
attribute [local go_sem] txt_size txt_append ib_fold
theorem chopW {α : Type} (l : List α) (n m : Nat) : l.drop n = (l.drop n).take m ++ l.drop (n + m) := by
  rw [← List.drop_drop, List.take_append_drop]
section
open Go.ChangeShapes Go.WideShapes Go.ChangeAt
variable {H : Type} {enc : TypeId × Value → H} {w : World} {r : Reach} {base b0 : Nat} {sp : Nat → Bool} {hd : Bool}
set_option maxRecDepth 100000 in
theorem open_wt {v : Value} {d : DataW H} {ps : List MemPlace} (hv : Value.okWide Tryz.prog w r b0 32 v) (h : DataW.Trod enc Tryz.prog w base sp hd 32 v d ps) :
    ∃ (k : Int) (t u : List UInt8) (l b s : Int) (V : List UInt8), v = .agg (wtC k (txt t) (txt u) l b s V) ∧ V.length = 32 ∧ (Lit.int .i64 l).wf = true := by
  simp only [Value.okWide, Tryz.underlying32] at hv
  obtain ⟨cs, rfl, hsz, _⟩ := hv
  obtain ⟨fuel, hf⟩ := h
  obtain ⟨xs, k, _, _, hl, hxl, hx⟩ := DataW.trod_struct Tryz.underlying32 hf
  have hc : Tryz.prog.cellsOf 32 = 38 := by kernel_rfl
  have hc1 : Tryz.prog.cellsOf 3 = 1 := by kernel_rfl
  have hcs : Tryz.prog.cellsOf 9 = 1 := by kernel_rfl
  have hci : Tryz.prog.cellsOf 24 = 32 := by kernel_rfl
  rw [hc] at hl
  simp only [Value.cells] at hl hx
  have g : ∀ i : Nat, i < 7 → ∃ y, xs[i]? = some y := fun i hi => ⟨_, List.getElem?_eq_getElem (by rw [hxl]; exact hi)⟩
  have h0 := hx 0 _ rfl
  obtain ⟨y0, e0⟩ := g 0 (by decide)
  rw [e0] at h0
  have h1 := hx 1 _ rfl
  obtain ⟨y1, e1⟩ := g 1 (by decide)
  rw [e1] at h1
  have h2 := hx 2 _ rfl
  obtain ⟨y2, e2⟩ := g 2 (by decide)
  rw [e2] at h2
  have h3 := hx 3 _ rfl
  obtain ⟨y3, e3⟩ := g 3 (by decide)
  rw [e3] at h3
  have h4 := hx 4 _ rfl
  obtain ⟨y4, e4⟩ := g 4 (by decide)
  rw [e4] at h4
  have h5 := hx 5 _ rfl
  obtain ⟨y5, e5⟩ := g 5 (by decide)
  rw [e5] at h5
  have h6 := hx 6 _ rfl
  obtain ⟨y6, e6⟩ := g 6 (by decide)
  rw [e6] at h6
  obtain ⟨K, q0, _, _⟩ := DataW.trod_int Tryz.underlying3 h0
  obtain ⟨S, q1, _, _⟩ := DataW.trod_string Tryz.underlying9 h1
  obtain ⟨U, q2, _, _⟩ := DataW.trod_string Tryz.underlying9 h2
  obtain ⟨L, q3, _, wL⟩ := DataW.trod_int Tryz.underlying3 h3
  obtain ⟨B, q4, _, _⟩ := DataW.trod_int Tryz.underlying3 h4
  obtain ⟨D, q5, _, _⟩ := DataW.trod_int Tryz.underlying3 h5
  obtain ⟨V, lV, q6⟩ := trod_id Tryz.underlying24 Tryz.underlying5 (by kernel_rfl) hci h6
  have u0 : (cs.toList.drop 0).take (Tryz.prog.cellsOf 3) = _ := q0
  have u1 : (cs.toList.drop 1).take (Tryz.prog.cellsOf 9) = _ := q1
  have u2 : (cs.toList.drop 2).take (Tryz.prog.cellsOf 9) = _ := q2
  have u3 : (cs.toList.drop 3).take (Tryz.prog.cellsOf 3) = _ := q3
  have u4 : (cs.toList.drop 4).take (Tryz.prog.cellsOf 3) = _ := q4
  have u5 : (cs.toList.drop 5).take (Tryz.prog.cellsOf 3) = _ := q5
  have u6 : (cs.toList.drop 6).take (Tryz.prog.cellsOf 24) = _ := q6
  rw [hc1] at u0 u3 u4 u5
  rw [hcs] at u1 u2
  rw [hci] at u6
  have l38 : cs.toList.length = 38 := hl
  have e : cs.toList = [.int .i64 K] ++ ([.string S] ++ ([.string U] ++ ([.int .i64 L] ++ ([.int .i64 B] ++ ([.int .i64 D] ++ V.map u8v))))) := by
    rw [← u6, List.take_of_length_le (by rw [List.length_drop]; omega : (cs.toList.drop 6).length ≤ 32), ← u5, ← chopW cs.toList 5 1, ← u4, ← chopW cs.toList 4 1, ← u3, ← chopW cs.toList 3 1, ← u2, ← chopW cs.toList 2 1, ← u1, ← chopW cs.toList 1 1, ← u0, ← chopW cs.toList 0 1, List.drop_zero]
  refine ⟨K, S.data.toList, U.data.toList, L, B, D, V, ?_, lV, wL⟩
  congr 1
  apply Array.toList_inj.1
  rw [e]
  unfold wtC idVals txt
  simp
end
set_option maxRecDepth 100000 in
/-- The law's answer and the program's are one. -/
theorem wh_both (n H : Nat) (s : List UInt8) (hs : s.length ≤ 1000) (X : Option Addr) (x cx : Nat) (Xs : List WiD) (hxn : Xs.length = x) (bx : x ≤ 1000) (a : List UInt8) (ha : a.length = 32) (L : Int) (A B C : Option Addr) (k1 k2 k3 c1 c2 c3 : Nat) (k : Int) (t v : List UInt8) (l b u : Int) (V : List UInt8) (hV : V.length = 32) (h256 : n ≤ 256) (lt : t.length ≤ 1000000) (lv : v.length ≤ 1000000) (hL : l ≤ 9223372036854775807) (hr : rgtP n H = true) :
    ∃ r : Bool, (∀ (w : World) (A6 : Option Addr) (c6 : Nat), WiRd w A6 Xs → Calls Tryz.prog 12 #[.agg #[.int .i64 n, .int .i64 H], .string (txt s), .slice A6 x c6, .agg (idVals a), .agg #[.int .i64 L, .slice A k1 c1, .slice B k2 c2, .slice C k3 c3], .agg (wtC k (txt t) (txt v) l b u V)] w fun e w' => e = .returned (.bool r) ∧ Below w.heap.size w w') ∧
      (∀ w : World, WiRd w X Xs → Calls Tryz.prog 13 #[.agg #[.int .i64 n, .int .i64 H], .string (txt s), .slice X x cx, .agg (idVals a), .agg #[.int .i64 L, .slice A k1 c1, .slice B k2 c2, .slice C k3 c3], .agg (wtC k (txt t) (txt v) l b u V)] w fun e w' => e = .returned (.bool r) ∧ Below w.heap.size w w') := by
  by_cases g1 : k = 1
  · subst g1
    exact ⟨honB n Xs a L, fun w A6 c6 h => wlhg_1 n H s hs A6 x c6 Xs hxn bx a ha L A B C k1 k2 k3 c1 c2 c3 t v l b u V hV _ rfl w h, fun w h => wphg_1 n H s hs X x cx Xs hxn bx a ha L A B C k1 k2 k3 c1 c2 c3 t v l b u V hV _ rfl hr w h⟩
  by_cases g2 : k = 2
  · subst g2
    by_cases e : t = v
    · exact ⟨false, fun w A6 c6 h => wlhg_2e n H s hs A6 x c6 Xs hxn bx a ha L A B C k1 k2 k3 c1 c2 c3 t v l b u V hV e w h, fun w h => wphg_2e n H s hs X x cx Xs hxn bx a ha L A B C k1 k2 k3 c1 c2 c3 t v l b u V hV e hr w h⟩
    · exact ⟨decide (sumB t = sumB v), fun w A6 c6 h => wlhg_2 n H s hs A6 x c6 Xs hxn bx a ha L A B C k1 k2 k3 c1 c2 c3 t v l b u V hV e lt lv _ rfl w h, fun w h => wphg_2 n H s hs X x cx Xs hxn bx a ha L A B C k1 k2 k3 c1 c2 c3 t v l b u V hV e lt lv _ rfl hr w h⟩
  by_cases g3 : k = 3
  · subst g3
    by_cases hl : l = L
    · by_cases hb0 : b < 0
      · exact ⟨false, fun w A6 c6 h => wlhg_3B n H s hs A6 x c6 Xs hxn bx a ha L A B C k1 k2 k3 c1 c2 c3 t v l b u V hV hl hb0 w h, fun w h => wphg_3B n H s hs X x cx Xs hxn bx a ha L A B C k1 k2 k3 c1 c2 c3 t v l b u V hV hl hb0 hr w h⟩
      have hb1 : 0 ≤ b := by omega
      by_cases hbn : (n : Int) ≤ b
      · exact ⟨false, fun w A6 c6 h => wlhg_3C n H s hs A6 x c6 Xs hxn bx a ha L A B C k1 k2 k3 c1 c2 c3 t v l b u V hV hl hb1 hbn w h, fun w h => wphg_3C n H s hs X x cx Xs hxn bx a ha L A B C k1 k2 k3 c1 c2 c3 t v l b u V hV hl hb1 hbn hr w h⟩
      have hb2 : b < n := by omega
      by_cases hu0 : u = 0 ∨ u = 1
      · by_cases hf : pubB V = pubB (secB s l b u)
        · cases hsw : shwB Xs l b.toNat u with
          | true => exact ⟨false, fun w A6 c6 h => wlhg_3E n H s hs A6 x c6 Xs hxn bx a ha L A B C k1 k2 k3 c1 c2 c3 t v l b u V hV hl hb1 hb2 h256 hu0 hL hsw w h, fun w h => wphg_3Z n H s hs X x cx Xs hxn bx a ha L A B C k1 k2 k3 c1 c2 c3 t v l b u V hV hl hb1 hb2 h256 hu0 hL hf true hsw hr w h⟩
          | false => exact ⟨true, fun w A6 c6 h => wlhg_3Z n H s hs A6 x c6 Xs hxn bx a ha L A B C k1 k2 k3 c1 c2 c3 t v l b u V hV hl hb1 hb2 h256 hu0 hL hsw true (decide_eq_true hf) w h, fun w h => wphg_3Z n H s hs X x cx Xs hxn bx a ha L A B C k1 k2 k3 c1 c2 c3 t v l b u V hV hl hb1 hb2 h256 hu0 hL hf false hsw hr w h⟩
        · cases hsw : shwB Xs l b.toNat u with
          | true => exact ⟨false, fun w A6 c6 h => wlhg_3E n H s hs A6 x c6 Xs hxn bx a ha L A B C k1 k2 k3 c1 c2 c3 t v l b u V hV hl hb1 hb2 h256 hu0 hL hsw w h, fun w h => wphg_3F n H s hs X x cx Xs hxn bx a ha L A B C k1 k2 k3 c1 c2 c3 t v l b u V hV hl hb1 hb2 h256 hu0 hL hf hr w h⟩
          | false => exact ⟨false, fun w A6 c6 h => wlhg_3Z n H s hs A6 x c6 Xs hxn bx a ha L A B C k1 k2 k3 c1 c2 c3 t v l b u V hV hl hb1 hb2 h256 hu0 hL hsw false (decide_eq_false hf) w h, fun w h => wphg_3F n H s hs X x cx Xs hxn bx a ha L A B C k1 k2 k3 c1 c2 c3 t v l b u V hV hl hb1 hb2 h256 hu0 hL hf hr w h⟩
      · have n0 : ¬ u = 0 := fun e => hu0 (.inl e)
        have n1 : ¬ u = 1 := fun e => hu0 (.inr e)
        by_cases hu1 : u < 0
        · exact ⟨false, fun w A6 c6 h => wlhg_3D n H s hs A6 x c6 Xs hxn bx a ha L A B C k1 k2 k3 c1 c2 c3 t v l b u V hV hl hb1 hb2 h256 hu1 w h, fun w h => wphg_3D n H s hs X x cx Xs hxn bx a ha L A B C k1 k2 k3 c1 c2 c3 t v l b u V hV hl hb1 hb2 h256 n0 n1 hr w h⟩
        · exact ⟨false, fun w A6 c6 h => wlhg_3G n H s hs A6 x c6 Xs hxn bx a ha L A B C k1 k2 k3 c1 c2 c3 t v l b u V hV hl hb1 hb2 h256 (by omega) (by omega) w h, fun w h => wphg_3D n H s hs X x cx Xs hxn bx a ha L A B C k1 k2 k3 c1 c2 c3 t v l b u V hV hl hb1 hb2 h256 n0 n1 hr w h⟩
    · exact ⟨false, fun w A6 c6 h => wlhg_3A n H s hs A6 x c6 Xs hxn bx a ha L A B C k1 k2 k3 c1 c2 c3 t v l b u V hV hl w h, fun w h => wphg_3A n H s hs X x cx Xs hxn bx a ha L A B C k1 k2 k3 c1 c2 c3 t v l b u V hV hl hr w h⟩
  · exact ⟨false, fun w A6 c6 h => wlhg_0 n H s hs A6 x c6 Xs hxn bx a ha L A B C k1 k2 k3 c1 c2 c3 t v l b u V hV k g1 g2 g3 w h, fun w h => wphg_0 n H s hs X x cx Xs hxn bx a ha L A B C k1 k2 k3 c1 c2 c3 t v l b u V hV k g1 g2 g3 hr w h⟩
end Go.Proofs.YticpdepbgcagaaaGreat

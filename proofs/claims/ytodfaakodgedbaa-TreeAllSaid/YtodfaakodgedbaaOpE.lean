
/- op: an operation is read, whatever the state; the same twice; how long; the example; what came in -/
import Derived.Test.YtodfaakodgedbaaOpG
import Derived.Test.YtodfaakodgedbaaOp5
import Derived.Test.YtodfaakodgedbaaKit6
import Derived.OrdersIn
import Derived.TacticsIn
import Derived.Tactics
import Derived.Test.YtodfaakodgedbaaOpA
import Derived.Test.YtodfaakodgedbaaOp1
import Derived.Deep.RegionHeld3
import Derived.Test.YtodfaakodgedbaaIdK
set_option linter.unusedSimpArgs false
set_option linter.unusedVariables false
namespace Go.Proofs.Ytodfaakodgedbaa
open Go.RowKit Go.Qc Go.Shelf

end Go.Proofs.Ytodfaakodgedbaa

namespace Go.Proofs.Ytodfaakodgedbaa
open Go.RowKit Go.Qc Go.Shelf
attribute [local go_sem] txt_size txt_append ib_fold txt_toL

theorem OpR.alloc {W : World} {D : OpD} {A : Option Addr} {n : Nat} {B : Option Addr} {m : Nat} (h : OpR W D A n B m) (o : Obj) : OpR (W.alloc o) D A n B m := h.below ((Below.refl _ W).alloc (Nat.le_refl _) o)
set_option maxRecDepth 100000 in
set_option maxHeartbeats 8000000 in
/-- Has an operation more than may be asked about? -/
def lngO (D : OpD) : Bool := decide (300 < D.p.length) || (decide (300 < D.t.length) || (decide (40 < D.o.length) || (decide (40 < D.n.length) || ([D.o, D.n].any fun l => l.any fun s => decide (300 < s.length)))))
theorem any_snocO {α : Type} {l : List α} {f : α → Bool} {k : Nat} {x : α} (hx : l[k]? = some x) (h : (l.take k).any f = false) (hb : f x = false) : (l.take (k + 1)).any f = false := by
  rw [take_snoc hx, List.any_append, h]; simp [hb]
theorem any_hitO {α : Type} {l : List α} {f : α → Bool} {k : Nat} {x : α} (hx : l[k]? = some x) (hb : f x = true) : l.any f = true := by
  rw [List.any_eq_true]; exact ⟨x, List.mem_of_getElem? hx, hb⟩
set_option maxRecDepth 100000 in
set_option maxHeartbeats 8000000 in
theorem rlong13_any (D : OpD) (hK : D.K.length = 32) (A : Option Addr) (n c : Nat) (hlo : D.o.length = n) (bn : n ≤ 9223372036854775807) (B : Option Addr) (m d : Nat) (hln : D.n.length = m) (bm : m ≤ 9223372036854775807) (bp : D.p.length ≤ 9223372036854775807) (bt : D.t.length ≤ 9223372036854775807) (w : World) (rA : Rd w A (D.o.map strV)) (rB : Rd w B (D.n.map strV)) :
    Calls Try.prog 12 #[.agg (opC D A n c B m d)] w fun o w' => o = .returned (.bool (lngO D)) ∧ Below w.heap.size w w' := by
  have hB : Below w.heap.size w (w.alloc (.cells (opC D A n c B m d) 40)) := (Below.refl _ w).alloc (Nat.le_refl _) _
  have hX := OpX.new w D A n c B m d
  have x1 := hX.c1
  have x2 := hX.c2
  have x4 := hX.c4
  have x5 := hX.c5
  obtain ⟨R, hR⟩ : ∃ R, R = lngO D := ⟨_, rfl⟩
  rw [← hR]
  unfold lngO at hR
  rw [hlo, hln] at hR
  by_cases h0 : 300 < D.p.length
  · have z0 : (300 : Int) < D.p.length := by omega
    have q0 : decide ((300 : Int) < D.p.length) = true := decide_eq_true z0
    obtain rfl : R = true := by rw [hR]; simp [h0]
    clear hR h0
    go_enter Try.func12, Try.ntmps12
    go_wp2
    go_ret
    exact ⟨rfl, hB⟩
  have z0 : ¬ (300 : Int) < D.p.length := by omega
  have q0 : decide ((300 : Int) < D.p.length) = false := decide_eq_false z0
  rw [decide_eq_false h0, Bool.false_or] at hR
  by_cases h1 : 300 < D.t.length
  · have z1 : (300 : Int) < D.t.length := by omega
    have q1 : decide ((300 : Int) < D.t.length) = true := decide_eq_true z1
    obtain rfl : R = true := by rw [hR]; simp [h1]
    clear hR h1
    go_enter Try.func12, Try.ntmps12
    go_wp2
    go_ret
    exact ⟨rfl, hB⟩
  have z1 : ¬ (300 : Int) < D.t.length := by omega
  have q1 : decide ((300 : Int) < D.t.length) = false := decide_eq_false z1
  rw [decide_eq_false h1, Bool.false_or] at hR
  by_cases h2 : 40 < n
  · have z2 : (40 : Int) < n := by omega
    have q2 : decide ((40 : Int) < n) = true := decide_eq_true z2
    obtain rfl : R = true := by rw [hR]; simp [h2]
    clear hR h2
    go_enter Try.func12, Try.ntmps12
    go_wp2
    go_ret
    exact ⟨rfl, hB⟩
  have z2 : ¬ (40 : Int) < n := by omega
  have q2 : decide ((40 : Int) < n) = false := decide_eq_false z2
  rw [decide_eq_false h2, Bool.false_or] at hR
  by_cases h3 : 40 < m
  · have z3 : (40 : Int) < m := by omega
    have q3 : decide ((40 : Int) < m) = true := decide_eq_true z3
    obtain rfl : R = true := by rw [hR]; simp [h3]
    clear hR h3
    go_enter Try.func12, Try.ntmps12
    go_wp2
    go_ret
    exact ⟨rfl, hB⟩
  have z3 : ¬ (40 : Int) < m := by omega
  have q3 : decide ((40 : Int) < m) = false := decide_eq_false z3
  rw [decide_eq_false h3, Bool.false_or] at hR
  have HR := hid hR
  clear hR h0 h1 h2 h3
  obtain ⟨ss, hss⟩ : ∃ ss : List (Option Addr × Nat × Nat × List (List UInt8)), ss = [(A, n, c, D.o), (B, m, d, D.n)] := ⟨_, rfl⟩
  have HSS := hid hss
  have hl2 : [D.o, D.n] = ss.map fun x => x.2.2.2 := by rw [hss]; rfl
  have hro : ∀ (j : Nat) (x : Option Addr × Nat × Nat × List (List UInt8)), ss[j]? = some x → x.2.2.2.length = x.2.1 ∧ x.2.1 ≤ 40 ∧ Rd w x.1 (x.2.2.2.map strV) := by
    intro j x hx
    rw [hss] at hx
    match j, hx with
    | 0, hx => simp at hx; subst hx; exact ⟨hlo, (by simp only; omega), rA⟩
    | 1, hx => simp at hx; subst hx; exact ⟨hln, (by simp only; omega), rB⟩
    | j + 2, hx => simp at hx
  have hlen2 : ss.length = 2 := by rw [hss]; rfl
  rw [hl2, List.any_map] at HR
  have hblk : ∀ W : World, Blk (W.alloc (.cells #[.slice A n c, .slice B m d] 36)) W.heap.size 36 #[.slice A n c, .slice B m d] := fun W => Blk.new _ _ _
  have HRO := hid hro
  clear hss hl2 hro rA rB bn bm hlo hln
  go_enter Try.func12, Try.ntmps12
  go_wp2
  have hgb := hblk (w.alloc (.cells (opC D A n c B m d) 40))
  have hB1 := hB.alloc hB.size (.cells #[.slice A n c, .slice B m d] 36)
  have hrW : ∀ (j : Nat) (x : Option Addr × Nat × Nat × List (List UInt8)), ss[j]? = some x → x.2.2.2.length = x.2.1 ∧ x.2.1 ≤ 40 ∧ Rd ((w.alloc (.cells (opC D A n c B m d) 40)).alloc (.cells #[.slice A n c, .slice B m d] 36)) x.1 (x.2.2.2.map strV) ∧ ((w.alloc (.cells (opC D A n c B m d) 40)).alloc (.cells #[.slice A n c, .slice B m d] 36)).cell? ⟨(w.alloc (.cells (opC D A n c B m d) 40)).heap.size, j, none⟩ = some (.slice x.1 x.2.1 x.2.2.1) := by
    intro j x hx
    obtain ⟨r1, r2, r3⟩ := HRO.out j x hx
    refine ⟨r1, r2, r3.below hB1, ?_⟩
    rw [hgb.cell]
    rw [HSS.out] at hx
    match j, hx with
    | 0, hx => simp at hx; subst hx; rfl
    | 1, hx => simp at hx; subst hx; rfl
    | j + 2, hx => simp at hx
  have HC := hid hrW
  clear hrW hgb hblk hB hX x1 x2 x4 x5
  rw [show (w.alloc (.cells (opC D A n c B m d) 40)).heap.size = w.heap.size + 1 by simp] at HC
  generalize (w.alloc (.cells (opC D A n c B m d) 40)).alloc (.cells #[.slice A n c, .slice B m d] 36) = W0 at *
  go_loopw [35] (fun i wr => ∃ (k : Nat), k ≤ 2 ∧ i = .int .i64 k ∧ Hid (((ss.take k).any ((fun l => l.any fun s => decide (300 < s.length)) ∘ fun x => x.2.2.2)) = false) ∧ W0 = wr) (fun i _ => 2 - (intOf i).toNat)
  case atStart => exact ⟨0, by omega, rfl, hid rfl, rfl⟩
  case round =>
    obtain ⟨k, hk, rfl, HF, rfl⟩ := hrel
    by_cases hlt : k < 2
    · obtain ⟨x, hx⟩ : ∃ x, ss[k]? = some x := ⟨_, List.getElem?_eq_getElem (by omega)⟩
      obtain ⟨hn, h40, hrd, hcell⟩ := HC.out k x hx
      obtain ⟨A1, n1, c1, L⟩ := x
      simp only at hn h40 hrd hcell
      have HX := hid hx
      have HRD := hid hrd
      have HNN := hid hn
      have b1 : (k : Int) < 2 := by omega
      clear hx hrd hn
      go_wp2
      go_loopw [41] (fun i wr => ∃ (j : Nat), j ≤ n1 ∧ i = .int .i64 j ∧ Hid (((L.take j).any fun s => decide (300 < s.length)) = false) ∧ W0 = wr) (fun i _ => n1 - (intOf i).toNat)
      case atStart => exact ⟨0, by omega, rfl, hid (by simp), rfl⟩
      case round =>
        obtain ⟨j, hj, rfl, HG, rfl⟩ := hrel
        by_cases hlt2 : j < n1
        · obtain ⟨p, hp⟩ : ∃ p, L[j]? = some p := ⟨_, List.getElem?_eq_getElem (by have := HNN.out; omega)⟩
          obtain ⟨ad2, rfl, hcell2⟩ := rd_in HRD.out j (strV p) (by rw [List.getElem?_map, hp]; rfl)
          unfold strV at hcell2
          have HP := hid hp
          have b2 : (j : Int) < n1 := by omega
          clear hp
          by_cases h300 : 300 < p.length
          · have z9 : (300 : Int) < p.length := by omega
            obtain rfl : R = true := by
              rw [HR.out]
              refine any_hitO HX.out ?_
              simp only [Function.comp]
              exact any_hitO HP.out (decide_eq_true h300)
            clear HR
            go_wp2
            go_ret
            exact ⟨rfl, hB1⟩
          · have z9 : ¬ (300 : Int) < p.length := by omega
            go_wp2
            go_roundw
            case rel => exact ⟨j + 1, hlt2, by go_num, hid (any_snocO HP.out HG.out (decide_eq_false h300)), by first | rfl | trivial⟩
            case measure => simp [intOf]; omega
        · obtain rfl : n1 = j := by omega
          have b2 : ¬ (n1 : Int) < n1 := by omega
          go_wp2
          go_roundw
          case rel =>
            refine ⟨k + 1, hlt, by go_num, hid (any_snocO HX.out HF.out ?_), by first | rfl | trivial⟩
            have hg := HG.out
            rw [List.take_of_length_le (by have := HNN.out; omega)] at hg
            exact hg
          case measure => simp [intOf]; omega
    · obtain rfl : k = 2 := by omega
      have b1 : ¬ (2 : Int) < 2 := by omega
      obtain rfl : R = false := by
        have hf := HF.out
        rw [List.take_of_length_le (by omega)] at hf
        rw [HR.out]; exact hf
      clear HR
      go_wp2
      go_ret
      exact ⟨rfl, hB1⟩
/-! ### the chapter's example -/
section
open Go.ChangeShapes Go.WideShapes Go.ChangeAt
variable {H : Type} {enc : TypeId × Value → H} {w : World} {r : Reach} {base b0 : Nat} {sp : Nat → Bool} {hd : Bool}
/-- Texts that came in. -/
def LnO (w : World) (A : Option Addr) (n : Nat) (ls : List (List UInt8)) : Prop := ls.length = n ∧ n ≤ 9223372036854775807 ∧ Rd w A (ls.map strV)
theorem trod_lnO {fuel : Nat} {cs : List Value} {x : DataW H × List MemPlace} (h : DataW.trod enc Try.prog w base sp hd fuel 36 cs = some x) : ∃ A n c ls, cs = [.slice A n c] ∧ LnO w A n ls := by
  rcases open_strings Try.underlying36 Try.underlying9 (by kernel_rfl) h with ⟨hcs, _⟩ | ⟨a, l, c, zs, hcs, _, hl, hm, hz, _, hcell, hwz⟩
  · exact ⟨none, 0, 0, [], hcs, rfl, by decide, .inl rfl⟩
  · unfold maxLen at hm hwz
    have hlen : l ≤ zs.length := by rw [hz]; split <;> omega
    refine ⟨some a, l, c, (zs.take l).map fun s => s.data.toList, hcs, by rw [List.length_map, List.length_take]; omega, by omega, .inr ⟨a, rfl, ?_⟩⟩
    intro j u hu
    rw [List.map_map, List.getElem?_map, List.getElem?_take] at hu
    by_cases hj : j < l
    · rw [if_pos hj, List.getElem?_eq_getElem (by omega)] at hu
      have := hcell j (by omega)
      rw [List.getD_eq_getElem?_getD, List.getElem?_eq_getElem (by omega)] at this
      rw [this]
      simp at hu
      rw [← hu]; rfl
    · rw [if_neg hj] at hu; simp at hu
set_option maxRecDepth 100000 in
/-- An operation that came in. -/
theorem trod_op {fuel : Nat} {cs : List Value} {x : DataW H × List MemPlace} (h : DataW.trod enc Try.prog w base sp hd fuel 40 cs = some x) :
    ∃ (D : OpD) (A : Option Addr) (n c : Nat) (B : Option Addr) (m d : Nat), cs = (opC D A n c B m d).toList ∧ D.K.length = 32 ∧ LnO w A n D.o ∧ LnO w B m D.n ∧ D.p.length ≤ 9223372036854775807 ∧ D.t.length ≤ 9223372036854775807 := by
  obtain ⟨xs, k, _, _, hl, hxl, hx⟩ := DataW.trod_struct Try.underlying40 h
  have hc39 : Try.prog.cellsOf 40 = 39 := by kernel_rfl
  have hc1 : Try.prog.cellsOf 3 = 1 := by kernel_rfl
  have hcs : Try.prog.cellsOf 9 = 1 := by kernel_rfl
  have hcr : Try.prog.cellsOf 36 = 1 := by kernel_rfl
  have hci : Try.prog.cellsOf 38 = 32 := by kernel_rfl
  rw [hc39] at hl
  have h0 := hx 0 _ rfl
  have h1 := hx 1 _ rfl
  have h2 := hx 2 _ rfl
  have h3 := hx 3 _ rfl
  have h4 := hx 4 _ rfl
  have h5 := hx 5 _ rfl
  have h6 := hx 6 _ rfl
  have h7 := hx 7 _ rfl
  have g : ∀ i : Nat, i < 8 → ∃ y, xs[i]? = some y := fun i hi => ⟨_, List.getElem?_eq_getElem (by rw [hxl]; exact hi)⟩
  obtain ⟨y0, e0⟩ := g 0 (by decide)
  obtain ⟨y1, e1⟩ := g 1 (by decide)
  obtain ⟨y2, e2⟩ := g 2 (by decide)
  obtain ⟨y3, e3⟩ := g 3 (by decide)
  obtain ⟨y4, e4⟩ := g 4 (by decide)
  obtain ⟨y5, e5⟩ := g 5 (by decide)
  obtain ⟨y6, e6⟩ := g 6 (by decide)
  obtain ⟨y7, e7⟩ := g 7 (by decide)
  rw [e0] at h0
  rw [e1] at h1
  rw [e2] at h2
  rw [e3] at h3
  rw [e4] at h4
  rw [e5] at h5
  rw [e6] at h6
  rw [e7] at h7
  obtain ⟨k0, q0, _, _⟩ := DataW.trod_int Try.underlying3 h0
  obtain ⟨p, q1, _, w1⟩ := DataW.trod_string Try.underlying9 h1
  obtain ⟨t, q2, _, w2⟩ := DataW.trod_string Try.underlying9 h2
  obtain ⟨a, q3, _, _⟩ := DataW.trod_int Try.underlying3 h3
  obtain ⟨A, n, c, lo, q4, w4⟩ := trod_lnO h4
  obtain ⟨B, m, d, ln, q5, w5⟩ := trod_lnO h5
  obtain ⟨K, lK, q6⟩ := trod_id Try.underlying38 Try.underlying5 (by kernel_rfl) hci h6
  obtain ⟨d7, q7, _, _⟩ := DataW.trod_int Try.underlying3 h7
  have u0 : (cs.drop 0).take (Try.prog.cellsOf 3) = _ := q0
  have u1 : (cs.drop 1).take (Try.prog.cellsOf 9) = _ := q1
  have u2 : (cs.drop 2).take (Try.prog.cellsOf 9) = _ := q2
  have u3 : (cs.drop 3).take (Try.prog.cellsOf 3) = _ := q3
  have u4 : (cs.drop 4).take (Try.prog.cellsOf 36) = _ := q4
  have u5 : (cs.drop 5).take (Try.prog.cellsOf 36) = _ := q5
  have u6 : (cs.drop 6).take (Try.prog.cellsOf 38) = _ := q6
  have u7 : (cs.drop 38).take (Try.prog.cellsOf 3) = _ := q7
  rw [hc1] at u0 u3 u7
  rw [hcs] at u1 u2
  rw [hcr] at u4 u5
  rw [hci] at u6
  unfold maxLen at w1 w2
  refine ⟨⟨k0, p.data.toList, t.data.toList, a, lo, ln, K, d7⟩, A, n, c, B, m, d, ?_, lK, w4, w5, by simpa using w1, by simpa using w2⟩
  have step : ∀ (i l : Nat) (ys : List Value), (cs.drop i).take l = ys → cs.drop i = ys ++ cs.drop (i + l) := fun i l ys h => by
    rw [← h, ← List.drop_drop, List.take_append_drop]
  have r0 := step 0 1 _ u0
  have r1 := step 1 1 _ u1
  have r2 := step 2 1 _ u2
  have r3 := step 3 1 _ u3
  have r4 := step 4 1 _ u4
  have r5 := step 5 1 _ u5
  have r6 := step 6 32 _ u6
  have r7 := step 38 1 _ u7
  have r8 : cs.drop 39 = [] := List.drop_of_length_le (by omega)
  rw [List.drop_zero] at r0
  rw [r0, r1, r2, r3, r4, r5, r6, r7, r8]
  unfold opC idVals
  simp
  exact ⟨rfl, rfl⟩
end
end Go.Proofs.Ytodfaakodgedbaa

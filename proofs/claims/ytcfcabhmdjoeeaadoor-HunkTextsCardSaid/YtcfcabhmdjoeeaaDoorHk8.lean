
/- hunk: what the laws call of their own: lines that are too long, the chapter's example. -/
import Derived.Test.YtcfcabhmdjoeeaaDoorHk6
import Derived.Deep.RegionHeld3
set_option linter.unusedSimpArgs false
set_option linter.unusedVariables false
namespace Go.Proofs.YtcfcabhmdjoeeaaDoor
open Go.RowKit Go.Qc Go.Shelf
attribute [local go_sem] txt_size txt_append ib_fold txt_toL

/-- Too many lines, or too long ones. -/
def longL (r : List (List UInt8)) : Bool := decide (60 < r.length) || r.any fun s => decide (300 < s.length)
theorem any_snoc {α : Type} {l : List α} {f : α → Bool} {k : Nat} {x : α} (hx : l[k]? = some x) (h : (l.take k).any f = false) (hb : f x = false) : (l.take (k + 1)).any f = false := by
  rw [take_snoc hx, List.any_append, h]; simp [hb]
theorem any_hit {α : Type} {l : List α} {f : α → Bool} {k : Nat} {x : α} (hx : l[k]? = some x) (hb : f x = true) : l.any f = true := by
  rw [List.any_eq_true]; exact ⟨x, List.mem_of_getElem? hx, hb⟩
set_option maxRecDepth 100000 in
set_option maxHeartbeats 8000000 in
theorem long11_any (ad : Addr) (N cc : Nat) (ss : List (Value × List (List UInt8))) (hN : ss.length = N) (bN : N ≤ 1000) (hl : ∀ x ∈ ss, x.2.length ≤ 9223372036854775807) (w : World)
    (hc : ∀ j x, ss[j]? = some x → w.cell? (ad.add j) = some x.1 ∧ Sl w x.1 x.2) :
    Calls Tryd.prog 4 #[.slice (some ad) N cc] w fun e w' => e = .returned (.bool (ss.any fun x => longL x.2)) ∧ w = w' := by
  obtain ⟨R, hR⟩ : ∃ R, R = ss.any fun x => longL x.2 := ⟨_, rfl⟩
  rw [← hR]
  have HR := hid hR
  have HC := hid hc
  have HLL := hid hl
  clear hc hl hR
  go_enter Tryd.func4, Tryd.ntmps4
  go_wp2
  go_loopw [9] (fun i wr => ∃ (k : Nat), k ≤ N ∧ i = .int .i64 k ∧ Hid (((ss.take k).any fun x => longL x.2) = false) ∧ w = wr) (fun i _ => N - (intOf i).toNat)
  case atStart => exact ⟨0, by omega, rfl, hid (by simp), by first | rfl | trivial⟩
  case round =>
    obtain ⟨k, hk, rfl, HF, rfl⟩ := hrel
    by_cases hlt : k < N
    · obtain ⟨x, hx⟩ : ∃ x, ss[k]? = some x := ⟨_, List.getElem?_eq_getElem (by omega)⟩
      obtain ⟨hcell, A, n, c, hv, hn, _, hrd⟩ := HC.out k x hx
      have hxl := HLL.out x (List.mem_of_getElem? hx)
      rw [hv] at hcell
      have HX := hid hx
      have HRD := hid hrd
      have HNN := hid hn
      have b1 : (k : Int) < N := by omega
      clear hx hrd
      by_cases h60 : 60 < n
      · have z : (60 : Int) < n := by omega
        obtain rfl : R = true := by rw [HR.out]; exact any_hit HX.out (by unfold longL; rw [HNN.out, decide_eq_true h60]; rfl)
        clear HR hn
        go_wp2
        go_ret
        exact ⟨rfl, rfl⟩
      · have z : ¬ (60 : Int) < n := by omega
        clear hn
        go_wp2
        go_loopw [18] (fun i wr => ∃ (j : Nat), j ≤ n ∧ i = .int .i64 j ∧ Hid (((x.2.take j).any fun s => decide (300 < s.length)) = false) ∧ w = wr) (fun i _ => n - (intOf i).toNat)
        case atStart => exact ⟨0, by omega, rfl, hid (by simp), by first | rfl | trivial⟩
        case round =>
          obtain ⟨j, hj, rfl, HG, rfl⟩ := hrel
          by_cases hlt2 : j < n
          · obtain ⟨p, hp⟩ : ∃ p, x.2[j]? = some p := ⟨_, List.getElem?_eq_getElem (by have := HNN.out; omega)⟩
            obtain ⟨ad2, rfl, hcell2⟩ := rd_get HRD.out hp
            have HP := hid hp
            have b2 : (j : Int) < n := by omega
            clear hp
            by_cases h300 : 300 < p.length
            · have z3 : (300 : Int) < p.length := by omega
              obtain rfl : R = true := by
                rw [HR.out]
                refine any_hit HX.out ?_
                unfold longL
                rw [any_hit HP.out (decide_eq_true h300), Bool.or_true]
              clear HR
              go_wp2
              go_ret
              exact ⟨rfl, rfl⟩
            · have z3 : ¬ (300 : Int) < p.length := by omega
              go_wp2
              go_roundw
              case rel => exact ⟨j + 1, hlt2, by go_num, hid (any_snoc HP.out HG.out (decide_eq_false h300)), by first | rfl | trivial⟩
              case measure => simp [intOf]; omega
          · obtain rfl : n = j := by omega
            have b2 : ¬ (n : Int) < n := by omega
            go_wp2
            go_roundw
            case rel =>
              refine ⟨k + 1, hlt, by go_num, hid (any_snoc HX.out HF.out ?_), by first | rfl | trivial⟩
              have hg := HG.out
              rw [List.take_of_length_le (by have := HNN.out; omega)] at hg
              unfold longL
              rw [HNN.out, decide_eq_false h60, hg]; rfl
            case measure => simp [intOf]; omega
    · obtain rfl : N = k := by omega
      have b1 : ¬ (N : Int) < N := by omega
      obtain rfl : R = false := by
        have hf := HF.out
        rw [List.take_of_length_le (by omega)] at hf
        rw [HR.out]; exact hf
      clear HR
      go_wp2
      go_ret
      exact ⟨rfl, rfl⟩
theorem rd_cells1 (w : World) (a : List UInt8) : Rd (w.alloc (.cells #[.string (txt a)] 9)) (some ⟨w.heap.size, 0, none⟩) ([a].map strV) := Rd.blk (Blk.new _ _ _) (by
  intro j u hu
  match j, hu with
  | 0, hu => cases hu; rfl
  | j + 1, hu => simp at hu)
theorem rd_cells2 (w : World) (a b : List UInt8) : Rd (w.alloc (.cells #[.string (txt a), .string (txt b)] 9)) (some ⟨w.heap.size, 0, none⟩) ([a, b].map strV) := Rd.blk (Blk.new _ _ _) (by
  intro j u hu
  match j, hu with
  | 0, hu => cases hu; rfl
  | 1, hu => cases hu; rfl
  | j + 2, hu => simp at hu)
set_option maxHeartbeats 4000000 in
theorem awake11_any (w : World) :
    Calls Tryd.prog 5 #[] w fun e w' => e = .returned (.bool true) ∧ Below w.heap.size w w' := by
  obtain ⟨w1, hw1⟩ : ∃ w1, w1 = w.alloc (.cells #[.string (txt [97]), .string (txt [98])] 9) := ⟨_, rfl⟩
  obtain ⟨w2, hw2⟩ : ∃ w2, w2 = w1.alloc (.cells #[.string (txt [98])] 9) := ⟨_, rfl⟩
  obtain ⟨w3, hw3⟩ : ∃ w3, w3 = w2.alloc (.cells #[.string (txt [99]), .string (txt [100])] 9) := ⟨_, rfl⟩
  have k1 : w1.heap.size = w.heap.size + 1 := by rw [hw1]; simp
  have k2 : w2.heap.size = w.heap.size + 1 + 1 := by rw [hw2]; simp [k1]
  have hb1 : Below w.heap.size w w1 := by rw [hw1]; exact (Below.refl _ _).alloc (Nat.le_refl _) _
  have hb2 : Below w1.heap.size w1 w2 := by rw [hw2]; exact (Below.refl _ _).alloc (Nat.le_refl _) _
  have hb3 : Below w2.heap.size w2 w3 := by rw [hw3]; exact (Below.refl _ _).alloc (Nat.le_refl _) _
  have r1 : Rd w3 (some ⟨w.heap.size, 0, none⟩) ([[97], [98]].map strV) := by
    have := rd_cells2 w [97] [98]
    rw [← hw1] at this
    exact (this.below hb2).below hb3
  have r2 : Rd w3 (some ⟨w.heap.size + 1, 0, none⟩) ([[98]].map strV) := by
    have := rd_cells1 w1 [98]
    rw [← hw2, k1] at this
    exact this.below hb3
  have r3 : Rd w3 (some ⟨w.heap.size + 1 + 1, 0, none⟩) ([[99], [100]].map strV) := by
    have := rd_cells2 w2 [99] [100]
    rw [← hw3, k2] at this
    exact this
  have hB : Below w.heap.size w w3 := (hb1.trans (hb2.mono hb1.size)).trans (hb3.mono (by omega))
  have c := apply_any (some ⟨w.heap.size, 0, none⟩) 2 2 [[97], [98]] rfl (by omega) (by simp) (by omega) 1 (some ⟨w.heap.size + 1, 0, none⟩) 1 1 [[98]] rfl (by omega) (some ⟨w.heap.size + 1 + 1, 0, none⟩) 2 2 [[99], [100]] rfl (by omega) (by simp) w3 r1 r2 r3
  have e1 : linesR [[97], [98]] = true := by decide
  have e2 : appR [[97], [98]] 1 [[98]] [[99], [100]] = ([[97], [99], [100]], 0) := by decide
  rw [e1, e2] at c
  simp only [if_true] at c
  rw [hw3, hw2, hw1] at c
  have t1 : txt [97] = ⟨#[97]⟩ := rfl
  have t2 : txt [98] = ⟨#[98]⟩ := rfl
  have t3 : txt [99] = ⟨#[99]⟩ := rfl
  have t4 : txt [100] = ⟨#[100]⟩ := rfl
  rw [t1, t2, t3, t4] at c
  rw [hw3, hw2, hw1, t1, t2, t3, t4] at hB
  clear r1 r2 r3 e1 e2 hb1 hb2 hb3 k1 k2 hw1 hw2 hw3
  go_enter Tryd.func5, Tryd.ntmps5
  go_wp2_with (go_at_call 11; (with_reducible refine c.mono ?_); rintro e4 w4 ⟨v, rfl, hown, hb⟩; obtain ⟨_, A4, c4, rfl, hr4⟩ := rowRd hown; obtain ⟨ad, rfl, d0⟩ := rd_get hr4 (j := 0) rfl; obtain ⟨ad2, h2, d1⟩ := rd_get hr4 (j := 1) rfl; obtain ⟨ad3, h3, d2⟩ := rd_get hr4 (j := 2) rfl; cases h2; cases h3; rw [t1] at d0; rw [t3] at d1; rw [t4] at d2; have d3 : w4.cell? ad = some (.string ⟨#[97]⟩) := d0; have d4 : w4.cell? ⟨ad.block, ad.off + 1, none⟩ = some (.string ⟨#[99]⟩) := d1; have d5 : w4.cell? ⟨ad.block, ad.off + 2, none⟩ = some (.string ⟨#[100]⟩) := d2)

  go_ret
  exact ⟨rfl, hB.trans (hb.mono hB.size)⟩
end Go.Proofs.YtcfcabhmdjoeeaaDoor

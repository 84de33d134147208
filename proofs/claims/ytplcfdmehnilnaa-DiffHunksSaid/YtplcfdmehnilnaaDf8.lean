
/- diff: what the laws call of their own: lines that are too long, the chapter's example. -/
import Derived.Test.YtplcfdmehnilnaaDf7
import Derived.Test.YtplcfdmehnilnaaHk11
set_option linter.unusedSimpArgs false
set_option linter.unusedVariables false
namespace Go.Proofs.Ytplcfdmehnilnaa
open Go.RowKit Go.Qc Go.Shelf
attribute [local go_sem] txt_size txt_append ib_fold txt_toL

/-- Too many lines, or too long ones. -/
def longD (r : List (List UInt8)) : Bool := decide (40 < r.length) || r.any fun s => decide (300 < s.length)
theorem longD_no {l : List (List UInt8)} (h : longD l = false) : l.length ≤ 40 ∧ ∀ x ∈ l, x.length ≤ 300 := by
  unfold longD at h
  rw [Bool.or_eq_false_iff, decide_eq_false_iff_not, List.any_eq_false] at h
  refine ⟨by omega, fun x hx => ?_⟩
  have := h.2 x hx
  simp at this
  omega
set_option maxRecDepth 100000 in
set_option maxHeartbeats 8000000 in
theorem long12_any (ad : Addr) (N cc : Nat) (ss : List (Value × List (List UInt8))) (hN : ss.length = N) (bN : N ≤ 1000) (hl : ∀ x ∈ ss, x.2.length ≤ 9223372036854775807) (w : World)
    (hc : ∀ j x, ss[j]? = some x → w.cell? (ad.add j) = some x.1 ∧ Sl w x.1 x.2) :
    Calls Try.prog 6 #[.slice (some ad) N cc] w fun e w' => e = .returned (.bool (ss.any fun x => longD x.2)) ∧ w = w' := by
  obtain ⟨R, hR⟩ : ∃ R, R = ss.any fun x => longD x.2 := ⟨_, rfl⟩
  rw [← hR]
  have HR := hid hR
  have HC := hid hc
  have HLL := hid hl
  clear hc hl hR
  go_enter Try.func6, Try.ntmps6
  go_wp2
  go_loopw [9] (fun i wr => ∃ (k : Nat), k ≤ N ∧ i = .int .i64 k ∧ Hid (((ss.take k).any fun x => longD x.2) = false) ∧ w = wr) (fun i _ => N - (intOf i).toNat)
  case atStart => exact ⟨0, by omega, rfl, hid (by simp), by first | rfl | trivial⟩
  case round =>
    obtain ⟨k, hk, rfl, HF, rfl⟩ := hrel
    by_cases hlt : k < N
    · obtain ⟨x, hx⟩ : ∃ x, ss[k]? = some x := ⟨_, List.getElem?_eq_getElem (by omega)⟩
      obtain ⟨hcell, A, n, c, hv, hn, _, hrd⟩ := HC.out k x hx
      have hxl := HLL.out x (List.mem_of_getElem? hx)
      rw [hv] at hcell
      have HX := hid hx
      have HRD := hid hrd
      have HNN := hid hn
      have b1 : (k : Int) < N := by omega
      clear hx hrd
      by_cases h40 : 40 < n
      · have z : (40 : Int) < n := by omega
        obtain rfl : R = true := by rw [HR.out]; exact any_hit HX.out (by unfold longD; rw [HNN.out, decide_eq_true h40]; rfl)
        clear HR hn
        go_wp2
        go_ret
        exact ⟨rfl, rfl⟩
      · have z : ¬ (40 : Int) < n := by omega
        clear hn
        go_wp2
        go_loopw [18] (fun i wr => ∃ (j : Nat), j ≤ n ∧ i = .int .i64 j ∧ Hid (((x.2.take j).any fun s => decide (300 < s.length)) = false) ∧ w = wr) (fun i _ => n - (intOf i).toNat)
        case atStart => exact ⟨0, by omega, rfl, hid (by simp), by first | rfl | trivial⟩
        case round =>
          obtain ⟨j, hj, rfl, HG, rfl⟩ := hrel
          by_cases hlt2 : j < n
          · obtain ⟨p, hp⟩ : ∃ p, x.2[j]? = some p := ⟨_, List.getElem?_eq_getElem (by have := HNN.out; omega)⟩
            obtain ⟨ad2, rfl, hcell2⟩ := rd_get HRD.out hp
            have HP := hid hp
            have b2 : (j : Int) < n := by omega
            clear hp
            by_cases h300 : 300 < p.length
            · have z3 : (300 : Int) < p.length := by omega
              obtain rfl : R = true := by
                rw [HR.out]
                refine any_hit HX.out ?_
                unfold longD
                rw [any_hit HP.out (decide_eq_true h300), Bool.or_true]
              clear HR
              go_wp2
              go_ret
              exact ⟨rfl, rfl⟩
            · have z3 : ¬ (300 : Int) < p.length := by omega
              go_wp2
              go_roundw
              case rel => exact ⟨j + 1, hlt2, by go_num, hid (any_snoc HP.out HG.out (decide_eq_false h300)), by first | rfl | trivial⟩
              case measure => simp [intOf]; omega
          · obtain rfl : n = j := by omega
            have b2 : ¬ (n : Int) < n := by omega
            go_wp2
            go_roundw
            case rel =>
              refine ⟨k + 1, hlt, by go_num, hid (any_snoc HX.out HF.out ?_), by first | rfl | trivial⟩
              have hg := HG.out
              rw [List.take_of_length_le (by have := HNN.out; omega)] at hg
              unfold longD
              rw [HNN.out, decide_eq_false h40, hg]; rfl
            case measure => simp [intOf]; omega
    · obtain rfl : N = k := by omega
      have b1 : ¬ (N : Int) < N := by omega
      obtain rfl : R = false := by
        have hf := HF.out
        rw [List.take_of_length_le (by omega)] at hf
        rw [HR.out]; exact hf
      clear HR
      go_wp2
      go_ret
      exact ⟨rfl, rfl⟩
theorem long12_two (A : Option Addr) (n c : Nat) (x : List (List UInt8)) (B : Option Addr) (m d : Nat) (y : List (List UInt8)) (W : World) (ha : LnRow W A n c x) (hb : LnRow W B m d y) :
    Calls Try.prog 6 #[.slice (some ⟨W.heap.size, 0, none⟩) 2 2] (W.alloc (.cells #[.slice A n c, .slice B m d] 22)) fun e w' => e = .returned (.bool (longD x || longD y)) ∧ Below W.heap.size W w' := by
  obtain ⟨a1, a2, a3, a4, a5, a6⟩ := ha
  obtain ⟨b1, b2, b3, b4, b5, b6⟩ := hb
  have hB : Below W.heap.size W (W.alloc (.cells #[.slice A n c, .slice B m d] 22)) := (Below.refl _ W).alloc (Nat.le_refl _) _
  have hk := Blk.new W 22 #[.slice A n c, .slice B m d]
  have := long12_any ⟨W.heap.size, 0, none⟩ 2 2 [(.slice A n c, x), (.slice B m d, y)] rfl (by decide) (by
    intro z hz
    simp only [List.mem_cons, List.not_mem_nil, or_false] at hz
    rcases hz with rfl | rfl
    · exact a1 ▸ a4
    · exact b1 ▸ b4) _ (by
    intro j z hz
    match j, hz with
    | 0, hz => cases hz; exact ⟨hk.cell_ (i := 0) rfl, A, n, c, rfl, a1, a3, a5.below hB⟩
    | 1, hz => cases hz; exact ⟨hk.cell_ (i := 1) rfl, B, m, d, rfl, b1, b3, b5.below hB⟩
    | j + 2, hz => simp at hz)
  refine this.mono ?_
  rintro e w' ⟨rfl, rfl⟩
  exact ⟨by simp, hB⟩
theorem rd_cells3 (w : World) (a b c : List UInt8) : Rd (w.alloc (.cells #[.string (txt a), .string (txt b), .string (txt c)] 9)) (some ⟨w.heap.size, 0, none⟩) ([a, b, c].map strV) := Rd.blk (Blk.new _ _ _) (by
  intro j u hu
  match j, hu with
  | 0, hu => cases hu; rfl
  | 1, hu => cases hu; rfl
  | 2, hu => cases hu; rfl
  | j + 3, hu => simp at hu)
theorem ex_dfG : dfG [[97], [98], [99]] [[97], [120], [99]] 0 0 [] [] = [(1, [[98]], [[120]])] := by
  simp [dfG, lcs, flu]
set_option maxRecDepth 100000 in
set_option maxHeartbeats 4000000 in
theorem awake12_any (w : World) :
    Calls Try.prog 7 #[] w fun e w' => e = .returned (.bool true) ∧ Below w.heap.size w w' := by
  obtain ⟨w1, hw1⟩ : ∃ w1, w1 = w.alloc (.cells #[.string (txt [97]), .string (txt [98]), .string (txt [99])] 9) := ⟨_, rfl⟩
  obtain ⟨w2, hw2⟩ : ∃ w2, w2 = w1.alloc (.cells #[.string (txt [97]), .string (txt [120]), .string (txt [99])] 9) := ⟨_, rfl⟩
  have k1 : w1.heap.size = w.heap.size + 1 := by rw [hw1]; simp
  have hb1 : Below w.heap.size w w1 := by rw [hw1]; exact (Below.refl _ _).alloc (Nat.le_refl _) _
  have hb2 : Below w1.heap.size w1 w2 := by rw [hw2]; exact (Below.refl _ _).alloc (Nat.le_refl _) _
  have r1 : Rd w2 (some ⟨w.heap.size, 0, none⟩) ([[97], [98], [99]].map strV) := by
    have := rd_cells3 w [97] [98] [99]
    rw [← hw1] at this
    exact this.below hb2
  have r2 : Rd w2 (some ⟨w.heap.size + 1, 0, none⟩) ([[97], [120], [99]].map strV) := by
    have := rd_cells3 w1 [97] [120] [99]
    rw [← hw2, k1] at this
    exact this
  have hB : Below w.heap.size w w2 := hb1.trans (hb2.mono hb1.size)
  have c := dof_any (some ⟨w.heap.size, 0, none⟩) 3 3 (some ⟨w.heap.size + 1, 0, none⟩) 3 3 [[97], [98], [99]] [[97], [120], [99]] rfl rfl (by omega) (by omega) (by omega) (by omega) (by decide) (by decide) w2 r1 r2
  rw [ex_dfG] at c
  have t1 : txt [97] = ⟨#[97]⟩ := rfl
  have t2 : txt [98] = ⟨#[98]⟩ := rfl
  have t3 : txt [99] = ⟨#[99]⟩ := rfl
  have t4 : txt [120] = ⟨#[120]⟩ := rfl
  rw [hw2, hw1, t1, t2, t3, t4] at c
  rw [hw2, hw1, t1, t2, t3, t4] at hB
  clear r1 r2 hb1 hb2 k1 hw1 hw2
  go_enter Try.func7, Try.ntmps7
  go_wp2_with (go_at_call 8; (with_reducible refine c.mono ?_); rintro e4 w4 ⟨v, rfl, hO, hb4⟩; obtain ⟨A4, c4, rfl, hrow⟩ := hown_row hO; obtain ⟨g, o, rfl, A1, c1, A2, c2, q0, q1, q2, ra, rb, _, _, l1, l2, z1, z2⟩ := hrow 0 _ rfl; simp only [Nat.zero_mul, Nat.add_zero, List.length_singleton] at q0 q1 q2)
  have hX2 := (Below.refl w4.heap.size w4).alloc (Nat.le_refl _) (.cells #[.string ⟨#[98]⟩] 9)
  have hX3 := hX2.alloc hX2.size (.cells #[.string ⟨#[120]⟩] 9)
  have r3 : Rd ((w4.alloc (.cells #[.string ⟨#[98]⟩] 9)).alloc (.cells #[.string ⟨#[120]⟩] 9)) (some ⟨w4.heap.size, 0, none⟩) ([[98]].map strV) := by
    have := rd_cells1 w4 [98]
    rw [t2] at this
    exact this.below ((Below.refl _ _).alloc (Nat.le_refl _) _)
  have r4 : Rd ((w4.alloc (.cells #[.string ⟨#[98]⟩] 9)).alloc (.cells #[.string ⟨#[120]⟩] 9)) (some ⟨w4.heap.size + 1, 0, none⟩) ([[120]].map strV) := by
    have := rd_cells1 (w4.alloc (.cells #[.string ⟨#[98]⟩] 9)) [120]
    rw [t4] at this
    simpa using this
  have ra2 := ra.below hX3
  have rb2 := rb.below hX3
  have hall := hB.trans ((hb4.trans (hX3.mono hb4.size)).mono hB.size)
  generalize (w4.alloc (.cells #[.string ⟨#[98]⟩] 9)).alloc (.cells #[.string ⟨#[120]⟩] 9) = w5 at *
  refine (hsame_gen 1 A1 1 c1 A2 1 c2 1 _ 1 1 _ 1 1 true true w5 (fun W hb => ?_) (fun W hb => ?_)).mono ?_
  · exact (sequal_any A1 _ 1 1 c1 1 [[98]] [[98]] rfl rfl (by decide) (by decide) W (ra2.below hb) (r3.below hb)).mono (fun e w' h => by simpa using h)
  · exact (sequal_any A2 _ 1 1 c2 1 [[120]] [[120]] rfl rfl (by decide) (by decide) W (rb2.below hb) (r4.below hb)).mono (fun e w' h => by simpa using h)
  rintro e6 w6 ⟨rfl, hb6⟩
  clear hO hrow q0 q1 q2
  go_wp2_with (fail)
  go_ret
  exact ⟨rfl, hall.trans (hb6.mono hall.size)⟩
end Go.Proofs.Ytplcfdmehnilnaa

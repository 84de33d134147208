
/- diff, of the document: a row of counts, out of the one below it. -/
import Derived.Test.YtplcfdmehnilnaaDf2
import Derived.Test.YtplcfdmehnilnaaPhA
import Derived.Test.YtplcfdmehnilnaaDf4
set_option linter.unusedSimpArgs false
set_option linter.unusedVariables false
namespace Go.Proofs.Ytplcfdmehnilnaa
open Go.RowKit Go.Qc Go.Shelf
attribute [local go_sem] txt_size txt_append ib_fold txt_toL

/-- Counts of some lines, from each place of others on. -/
def cntL (x y : List (List UInt8)) : List Value := (List.range (y.length + 1)).map fun c => .int .i64 (lcs x (y.drop c) : Int)
theorem cntL_at (x y : List (List UInt8)) (c : Nat) (hc : c ≤ y.length) : (cntL x y)[c]? = some (.int .i64 (lcs x (y.drop c) : Int)) := by
  unfold cntL
  rw [List.getElem?_map, List.getElem?_range (by omega)]
  rfl
theorem cntL_length (x y : List (List UInt8)) : (cntL x y).length = y.length + 1 := by simp [cntL]
/-- A row of numbers lies in block g. -/
def RwAt (W : World) (g m : Nat) (T : Nat → Int) : Prop := ∃ cs : Array Value, Blk W g 3 cs ∧ cs.size = m + 1 ∧ ∀ c, c ≤ m → cs[c]? = some (.int .i64 (T c))
theorem RwAt.cell {W : World} {g m : Nat} {T : Nat → Int} (h : RwAt W g m T) {c : Nat} (hc : c ≤ m) : W.cell? ⟨g, c, none⟩ = some (.int .i64 (T c)) := by
  obtain ⟨cs, hb, _, h⟩ := h
  exact hb.cell_ (h c hc)
theorem RwAt.frozen {W : World} {g m : Nat} {T : Nat → Int} (h : RwAt W g m T) (k : Nat) : W.frozen? ⟨g, k, none⟩ = false := by
  obtain ⟨cs, hb, _, h⟩ := h
  exact hb.frozen k
theorem RwAt.lt {W : World} {g m : Nat} {T : Nat → Int} (h : RwAt W g m T) : g < W.heap.size := by
  obtain ⟨cs, hb, _, h⟩ := h
  exact hb.lt
theorem RwAt.drewN {W : World} {g m : Nat} {T : Nat → Int} (h : RwAt W g m T) (n : Nat) : RwAt (W.drewN n) g m T := h
theorem RwAt.put {W : World} {g m : Nat} {T T' : Nat → Int} (h : RwAt W g m T) {j : Nat} (hj : j ≤ m) (v : Int) (h1 : T' j = v) (h2 : ∀ c, c ≤ m → c ≠ j → T' c = T c) : RwAt (W.setCell ⟨g, j, none⟩ (.int .i64 v)) g m T' := by
  obtain ⟨cs, hb, hs, h⟩ := h
  refine ⟨_, hb.set _ _, by rw [Array.size_setIfInBounds]; exact hs, fun c hc => ?_⟩
  rw [Array.getElem?_setIfInBounds]
  by_cases he : c = j
  · subst he
    rw [if_pos rfl, if_pos (by omega), h1]
  · rw [if_neg (fun e => he e.symm), h c hc, h2 c hc he]
theorem RwAt.congr {W : World} {g m : Nat} {T T' : Nat → Int} (h : RwAt W g m T) (e : ∀ c, c ≤ m → T' c = T c) : RwAt W g m T' := by
  obtain ⟨cs, h1, h2, h3⟩ := h
  exact ⟨cs, h1, h2, fun c hc => by rw [e c hc]; exact h3 c hc⟩
theorem rw_new (w : World) (m M : Nat) (hM : m + 1 = M) : RwAt (w.alloc (.cells (madeCells #[.int .i64 0] M) 3)) w.heap.size m (fun _ => 0) := by
  subst hM
  refine ⟨_, Blk.new w _ _, size_madeCells _ _, fun c hc => ?_⟩
  have hl := toList_madeCells_one (.int .i64 0) (m + 1)
  rw [← Array.getElem?_toList, hl, List.getElem?_replicate, if_pos (by omega)]
theorem RwAt.own {W : World} {g base : Nat} {x y : List (List UInt8)} {T : Nat → Int} (h : RwAt W g y.length T) (hT : ∀ c, c ≤ y.length → T c = (lcs x (y.drop c) : Int)) (hb : base ≤ g) (bm : y.length + 1 ≤ maxLen) : W.ownsRow base 3 1 (.slice (some ⟨g, 0, none⟩) (y.length + 1) (y.length + 1)) (y.length + 1) (cntL x y) := by
  obtain ⟨cs, hk, hs, h⟩ := h
  refine ⟨by rw [cntL_length, Nat.mul_one], .inr ⟨g, y.length + 1, cs, rfl, hb, hk, Nat.le_refl _, bm, by rw [hs, Nat.mul_one], ?_⟩⟩
  rw [Nat.mul_one, List.take_of_length_le (by rw [Array.length_toList, hs]; exact Nat.le_refl _)]
  apply List.ext_getElem?
  intro c
  by_cases hc : c ≤ y.length
  · rw [cntL_at x y c hc, Array.getElem?_toList, h c hc, hT c hc]
  · rw [List.getElem?_eq_none (by rw [Array.length_toList, hs]; omega), List.getElem?_eq_none (by rw [cntL_length]; omega)]
theorem drop_at9 {x : List (List UInt8)} {i : Nat} {z : List UInt8} (h : x[i]? = some z) : x.drop i = z :: x.drop (i + 1) := by
  obtain ⟨hi, rfl⟩ := List.getElem?_eq_some_iff.1 h
  exact List.drop_eq_getElem_cons hi
theorem infoIntD : (Try.prog.info? 3).map (fun i => (i.zero, i.size, i.bytes)) = some (some (.int .i64 0), 1, 8) := by kernel_rfl
/-- What a row's place becomes. -/
theorem lcs_cell (a b : List UInt8) (x y : List (List UInt8)) : (lcs (a :: x) (b :: y) : Nat) = if a = b then (if lcs x y + 1 > max (lcs x (b :: y)) (lcs (a :: x) y) then lcs x y + 1 else max (lcs x (b :: y)) (lcs (a :: x) y)) else max (lcs x (b :: y)) (lcs (a :: x) y) := by
  by_cases h : a = b
  · subst h
    rw [if_pos rfl, lcs_eq]
    have h1 := (lcs_drop a x y).2
    have h2 := (lcs_drop' a x y).2
    split <;> omega
  · rw [if_neg h, lcs_ne h]
set_option maxRecDepth 100000 in
set_option maxHeartbeats 4000000 in
theorem rrow_any (a : List UInt8) (x y : List (List UInt8)) (C : Option Addr) (p f : Nat) (hp : y.length + 1 = p) (B : Option Addr) (m d : Nat) (hm : y.length = m) (bm : m ≤ 1000) (bx : x.length ≤ 1000) (w : World) (hN : Rd w C (cntL x y)) (hs : Rd w B (y.map strV)) :
    Calls Try.prog 33 #[.string (txt a), .slice C p f, .slice B m d] w fun e w' => ∃ g, e = .returned (.slice (some ⟨g, 0, none⟩) p p) ∧ w'.ownsRow w.heap.size 3 1 (.slice (some ⟨g, 0, none⟩) p p) p (cntL (a :: x) y) ∧ Below w.heap.size w w' := by
  obtain ⟨i0, hi, hz0, hz1, hz2⟩ := info_parts infoIntD
  have hpm : (m : Int) + 1 = (p : Int) := by omega
  have hv1 : IntKind.i64.wrap ((m : Int) + 1) = (p : Int) := by rw [IntKind.wrap_i64]; omega
  have hv2 : wrap64 ((m : Int) + 1) = (p : Int) := by rw [w64_in _ (by omega)]; omega
  have hmk := run_make_n (P := Try.prog) 34 3 i0 (.int .i64 0) Try.underlying34 hi hz0 hz1 .i64 .i64 p (by rw [hz2]; omega) (by omega) w
  simp only [Value.cells] at hmk
  have hnew := rw_new w m p (by omega)
  have hX := (Below.refl w.heap.size w).alloc (Nat.le_refl _) (.cells (madeCells #[.int .i64 0] p) 3)
  have HN := hid hN
  have HS := hid hs
  have HM := hid hm
  have HP := hid hp
  have HPM := hid hpm
  clear hN hs hm hp hpm
  go_enter Try.func33, Try.ntmps33
  go_wp2_with (fail)
  have hgb : w.heap.size ≤ w.heap.size := Nat.le_refl _
  have hmk0 := hmk
  clear hmk hv1 hv2 hi hz0 hz1 hz2 i0
  generalize w.alloc (.cells (madeCells #[.int .i64 0] p) 3) = W0 at *
  obtain ⟨g, hg⟩ : ∃ g, w.heap.size = g := ⟨_, rfl⟩
  have HG := hid hg
  rw [hg] at hnew
  simp only [hg]
  clear hmk0 hgb
  go_loopw [8] (fun i wr => ∃ k : Nat, k ≤ m ∧ i = .int .i64 ((k : Int) - 1) ∧ RwAt wr g m (fun c => if k ≤ c then (lcs (a :: x) (y.drop c) : Int) else 0) ∧ Below w.heap.size w wr) (fun i _ => (intOf i + 1).toNat)
  case atStart =>
    refine ⟨m, Nat.le_refl _, (by first | rfl | (congr 1; go_num) | simp), hnew.congr (fun c hc => ?_), hX⟩
    split
    · rename_i h
      rw [List.drop_eq_nil_of_le (by rw [HM.out]; omega), lcs_nil']
      rfl
    · rfl
  case round =>
    obtain ⟨k, hk, rfl, hT, hB⟩ := hrel
    cases k with
    | zero =>
      have hz : ((0 : Nat) : Int) - 1 = -1 := rfl
      rw [hz]
      have HT := hid hT
      clear hT
      go_wp2_with (fail)
      go_ret
      refine ⟨g, rfl, ?_, hB⟩
      have := (HM.out ▸ HT.out : RwAt wr g y.length _)
      have ho := this.own (base := w.heap.size) (x := a :: x) (y := y) (fun c _ => by rw [if_pos (Nat.zero_le _)]) (by rw [HG.out]; exact Nat.le_refl _) (by unfold maxLen; have := HM.out; omega)
      rw [HP.out] at ho
      exact ho
    | succ j =>
      have hz : ((j + 1 : Nat) : Int) - 1 = (j : Int) := by omega
      rw [hz]
      obtain ⟨b, hb⟩ : ∃ b, y[j]? = some b := ⟨_, List.getElem?_eq_getElem (by rw [HM.out]; omega)⟩
      obtain ⟨ad2, rfl, p2⟩ := rd_in (HS.out.below hB) j (strV b) (by rw [List.getElem?_map, hb]; rfl)
      obtain ⟨ad, rfl, p0⟩ := rd_in (HN.out.below hB) j _ (cntL_at x y j (by rw [HM.out]; omega))
      obtain ⟨ad', e', p1⟩ := rd_in (HN.out.below hB) (j + 1) _ (cntL_at x y (j + 1) (by rw [HM.out]; omega))
      obtain rfl : ad = ad' := Option.some.inj e'
      clear e'
      have ea : ad.add (j + 1) = ⟨ad.block, ad.off + (j + 1), none⟩ := by simp [Addr.add]
      rw [ea] at p1
      clear ea
      have q1 := hT.cell (c := j + 1) (by omega)
      have q0 := hT.cell (c := j) (by omega)
      have fz := hT.frozen j
      rw [if_pos (Nat.le_refl _)] at q1
      rw [if_neg (by omega)] at q0
      have hcell := lcs_cell a b x (y.drop (j + 1))
      rw [← drop_at9 hb] at hcell
      have hb1 := lcs_left x (y.drop j)
      have hb2 := lcs_left (a :: x) (y.drop (j + 1))
      have hb3 := lcs_left x (y.drop (j + 1))
      rw [List.length_cons] at hb2
      have HPUT : Hid (∀ v : Int, v = (lcs (a :: x) (y.drop j) : Int) → RwAt (wr.setCell ⟨g, j, none⟩ (.int .i64 v)) g m (fun c => if j ≤ c then (lcs (a :: x) (y.drop c) : Int) else 0)) := hid (fun v hv => hT.put (by omega) v (by rw [if_pos (Nat.le_refl _)]; exact hv.symm) (fun c _ hne => by
        by_cases h : j ≤ c
        · rw [if_pos h, if_pos (by omega)]
        · rw [if_neg h, if_neg (by omega)]))
      have HBP : Hid (∀ v : Value, Below w.heap.size w (wr.setCell ⟨g, j, none⟩ v)) := hid (fun v => hB.setCell (by rw [HG.out]; exact Nat.le_refl _) v)
      unfold strV at p2
      generalize lcs (a :: x) (y.drop j) = L at *
      generalize lcs x (y.drop j) = n0 at *
      generalize lcs (a :: x) (y.drop (j + 1)) = o1 at *
      generalize lcs x (y.drop (j + 1)) = n1 at *
      have hjm : (j : Int) < m := by omega
      have hjN : j < m := by omega
      have hjp : (j : Int) < p := by have := HPM.out; omega
      have hjp1 : (j : Int) + 1 < p := by have := HPM.out; omega
      have hj3 : ((j : Int) + 1).toNat = j + 1 := by omega
      have hj2 : (0 : Int) ≤ (j : Int) + 1 := by omega
      have hw1 : wrap64 ((n1 : Int) + 1) = (n1 : Int) + 1 := w64_in _ (by omega)
      have hw2 : wrap64 ((j : Int) + 1) = (j : Int) + 1 := w64_in _ (by omega)
      have HC := hid hcell
      clear hT hB hb hb1 hb2 hb3 hcell
      by_cases h1 : n0 < o1
      · have z1 : (n0 : Int) < o1 := by omega
        by_cases hab : a = b
        · subst hab
          by_cases h2 : o1 < n1 + 1
          · have z2 : (o1 : Int) < (n1 : Int) + 1 := by omega
            go_wp2_with (fail)
            go_roundw
            case rel => exact ⟨j, by omega, rfl, HPUT.out ((n1 : Int) + 1) (by rw [HC.out, if_pos rfl, if_pos (by omega)] <;> omega), HBP.out _⟩
            case measure => simp [intOf] <;> omega
          · have z2 : ¬ (o1 : Int) < (n1 : Int) + 1 := by omega
            go_wp2_with (fail)
            go_roundw
            case rel => exact ⟨j, by omega, rfl, HPUT.out ((o1 : Int)) (by rw [HC.out, if_pos rfl, if_neg (by omega)] <;> omega), HBP.out _⟩
            case measure => simp [intOf] <;> omega
        · have hne : (a == b) = false := beq_eq_false_iff_ne.2 hab
          go_wp2_with (fail)
          go_roundw
          case rel => exact ⟨j, by omega, rfl, HPUT.out ((o1 : Int)) (by rw [HC.out, if_neg hab] <;> omega), HBP.out _⟩
          case measure => simp [intOf] <;> omega
      · have z1 : ¬ (n0 : Int) < o1 := by omega
        by_cases hab : a = b
        · subst hab
          by_cases h2 : n0 < n1 + 1
          · have z2 : (n0 : Int) < (n1 : Int) + 1 := by omega
            go_wp2_with (fail)
            go_roundw
            case rel => exact ⟨j, by omega, rfl, HPUT.out ((n1 : Int) + 1) (by rw [HC.out, if_pos rfl, if_pos (by omega)] <;> omega), HBP.out _⟩
            case measure => simp [intOf] <;> omega
          · have z2 : ¬ (n0 : Int) < (n1 : Int) + 1 := by omega
            go_wp2_with (fail)
            go_roundw
            case rel => exact ⟨j, by omega, rfl, HPUT.out ((n0 : Int)) (by rw [HC.out, if_pos rfl, if_neg (by omega)] <;> omega), HBP.out _⟩
            case measure => simp [intOf] <;> omega
        · have hne : (a == b) = false := beq_eq_false_iff_ne.2 hab
          go_wp2_with (fail)
          go_roundw
          case rel => exact ⟨j, by omega, rfl, HPUT.out ((n0 : Int)) (by rw [HC.out, if_neg hab] <;> omega), HBP.out _⟩
          case measure => simp [intOf] <;> omega
end Go.Proofs.Ytplcfdmehnilnaa


/- Proved: for any old lines and any hunks quitclaimlaw12.DiffLeast returns true and leaves its arguments as they were. No conditions. -/
import Derived.Test.YtkciohifldgdjaaDf8
import Derived.Test.YtkciohifldgdjaaHl1
set_option linter.unusedSimpArgs false
set_option linter.unusedVariables false
namespace Go.Proofs.Ytkciohifldgdjaa
open Go.RowKit Go.Qc Go.Shelf
attribute [local go_sem] txt_size txt_append ib_fold txt_toL


theorem flu_lenL (a : Nat) (D E : List (List UInt8)) : (flu a D E).length ≤ 1 := by unfold flu; split <;> simp
theorem dfG_lenL : ∀ (x y : List (List UInt8)) (at' j : Nat) (D A : List (List UInt8)), (dfG x y at' j D A).length ≤ x.length + y.length + 1
  | [], [], at', j, D, A => by rw [dfG]; have := flu_lenL at' D A; simp only [List.length_nil]; omega
  | a :: x, [], at', j, D, A => by
    rw [dfG]
    have := dfG_lenL x [] at' j (D ++ [a]) A
    simp only [List.length_cons, List.length_nil] at *
    omega
  | [], b :: y, at', j, D, A => by
    rw [dfG]
    have := dfG_lenL [] y at' (j + 1) D (A ++ [b])
    simp only [List.length_cons, List.length_nil] at *
    omega
  | a :: x, b :: y, at', j, D, A => by
    rw [dfG]
    split
    · have := dfG_lenL x y (j + 1) (j + 1) [] []
      have := flu_lenL at' D A
      rw [List.length_append]
      simp only [List.length_cons] at *
      omega
    · split
      · have := dfG_lenL x (b :: y) at' j (D ++ [a]) A
        simp only [List.length_cons] at *
        omega
      · have := dfG_lenL (a :: x) y at' (j + 1) D (A ++ [b])
        simp only [List.length_cons] at *
        omega
termination_by x y => x.length + y.length

theorem meas_lt (N k : Nat) (h : k + 1 ≤ N) (hw : wrap64 ((k : Int) + 1) = (k : Int) + 1) : N - (intOf (Value.int .i64 (wrap64 ((k : Int) + 1)))).toNat < N - (intOf (Value.int .i64 (k : Int))).toNat := by
  rw [hw]
  simp only [intOf]
  omega
theorem w64_two (a b : Nat) (ha : a ≤ 40) (hb : b ≤ 40) : wrap64 ((a : Int) + b) = (a : Int) + b := w64_in _ (by omega)
theorem w64_three (s a b : Nat) (hs : s ≤ 640) (ha : a ≤ 40) (hb : b ≤ 40) : wrap64 ((s : Int) + ((a : Int) + b)) = (s : Int) + ((a : Int) + b) := w64_in _ (by omega)
theorem le_next (S k n0 m0 : Nat) (h : S ≤ 80 * k) (ha : n0 ≤ 40) (hb : m0 ≤ 40) : S + (n0 + m0) ≤ 80 * (k + 1) := by omega
theorem sum_mem : ∀ {l : List (Nat × Nat)} {z : Nat × Nat}, z ∈ l → z.1 + z.2 ≤ szL l
  | a :: l, z, h => by
    have e : szL (a :: l) = (a.1 + a.2) + szL l := by simp [szL]
    rw [e]
    rcases List.mem_cons.1 h with rfl | h
    · omega
    · have := sum_mem h; omega
theorem apR_lens {ls : List (List UInt8)} {at' : Int} {o nw : List (List UInt8)} (N : Nat) (hz : (apR ls at' o nw).2 = 0) (h1 : ∀ z ∈ ls, z.length ≤ N) (h2 : ∀ z ∈ nw, z.length ≤ N) : ∀ z ∈ (apR ls at' o nw).1, z.length ≤ N := by
  obtain ⟨P, S, _, e2, e3, _, _⟩ := apR_get hz
  rw [e3]
  intro z hz
  rw [List.mem_append, List.mem_append] at hz
  rw [e2] at h1
  rcases hz with h | h | h
  · exact h1 z (by simp [h])
  · exact h2 z h
  · exact h1 z (by simp [h])
def lensOf (hs : List HunkD) : List (Nat × Nat) := hs.map fun h => (h.2.1.length, h.2.2.length)
theorem HkRow.lens {w W : World} {AH : Option Addr} {N : Nat} {hs : List HunkD} (hh : HkRow w AH N hs) (hb : Below w.heap.size w W) : ∀ (j : Nat) l, (lensOf hs)[j]? = some l → ∃ g o, AH = some ⟨g, o, none⟩ ∧ HkLen W ⟨g, o + j * 3, none⟩ l := by
  intro j l hl
  unfold lensOf at hl
  rw [List.getElem?_map] at hl
  cases hj : hs[j]? with
  | none => rw [hj] at hl; cases hl
  | some h =>
    rw [hj] at hl
    cases hl
    obtain ⟨g, o, rfl, A, n, c, B, m, d, q0, q1, q2, _, a, b⟩ := hh.2.2 j h hj
    refine ⟨g, o, rfl, h.1, A, c, B, d, below_cellD hb q0, ?_, ?_⟩
    · simp only; rw [a.1]; exact below_cellD hb q1
    · simp only; rw [b.1]; exact below_cellD hb q2

set_option maxRecDepth 100000 in
set_option maxHeartbeats 4000000 in
theorem dl_long (A : Option Addr) (n c : Nat) (x : List (List UInt8)) (AH : Option Addr) (N cc : Nat) (hs : List HunkD) (w : World) (ha : LnRow w A n c x) (hh : HkRow w AH N hs) (hl : longD x = true) :
    Calls Try.prog 4 #[.slice A n c, .slice AH N cc] w fun e w' => e = .returned (.bool true) ∧ Below w.heap.size w w' := by
  have cL := long12_one A n c x w ha
  rw [hl] at cL
  clear ha hh hl
  go_enter Try.func4, Try.ntmps4
  go_wp2_with (fail)
  refine cL.mono ?_
  rintro e1 w1 ⟨rfl, hb1⟩
  go_wp2_with (fail)
  have hX := hb1
  refine (awake12_any _).mono ?_
  rintro e9 w9 ⟨rfl, hb9⟩
  go_wp2_with (fail)
  go_ret
  exact ⟨rfl, hX.trans (hb9.mono hX.size)⟩

set_option maxRecDepth 100000 in
set_option maxHeartbeats 4000000 in
theorem dl_many (A : Option Addr) (n c : Nat) (x : List (List UInt8)) (AH : Option Addr) (N cc : Nat) (hs : List HunkD) (w : World) (ha : LnRow w A n c x) (hh : HkRow w AH N hs) (hl : longD x = false) (hN : 8 < N) :
    Calls Try.prog 4 #[.slice A n c, .slice AH N cc] w fun e w' => e = .returned (.bool true) ∧ Below w.heap.size w w' := by
  have cL := long12_one A n c x w ha
  rw [hl] at cL
  have z1 : (8 : Int) < N := by omega
  clear ha hh hl
  go_enter Try.func4, Try.ntmps4
  go_wp2_with (fail)
  refine cL.mono ?_
  rintro e1 w1 ⟨rfl, hb1⟩
  go_wp2_with (fail)
  have hX := hb1
  refine (awake12_any _).mono ?_
  rintro e9 w9 ⟨rfl, hb9⟩
  go_wp2_with (fail)
  go_ret
  exact ⟨rfl, hX.trans (hb9.mono hX.size)⟩

set_option maxRecDepth 100000 in
set_option maxHeartbeats 4000000 in
theorem dl_left (A : Option Addr) (n c : Nat) (x : List (List UInt8)) (AH : Option Addr) (N cc : Nat) (hs : List HunkD) (w : World) (ha : LnRow w A n c x) (hh : HkRow w AH N hs) (hl : longD x = false) (hN : ¬ 8 < N) (hx : linesR x = false) :
    Calls Try.prog 4 #[.slice A n c, .slice AH N cc] w fun e w' => e = .returned (.bool true) ∧ Below w.heap.size w w' := by
  have cL := long12_one A n c x w ha
  rw [hl] at cL
  have q1 := longD_no hl
  have z1 : ¬ (8 : Int) < N := by omega
  have cX := hid (fun W (h : Below w.heap.size w W) => rlines_any A n c x ha.1 (by have := ha.1; omega) (fun z hz => by have := q1.2 z hz; omega) W (ha.2.2.2.2.1.below h))
  rw [hx] at cX
  clear ha hh hl hx q1
  go_enter Try.func4, Try.ntmps4
  go_wp2_with (fail)
  refine cL.mono ?_
  rintro e1 w1 ⟨rfl, hb1⟩
  go_wp2_with (fail)
  refine (cX.out w1 hb1).mono ?_
  rintro _ _ ⟨rfl, rfl⟩
  go_wp2_with (fail)
  have hX := hb1
  refine (awake12_any _).mono ?_
  rintro e9 w9 ⟨rfl, hb9⟩
  go_wp2_with (fail)
  go_ret
  exact ⟨rfl, hX.trans (hb9.mono hX.size)⟩

set_option maxRecDepth 100000 in
set_option maxHeartbeats 8000000 in
theorem dl_yes (A : Option Addr) (n c : Nat) (x : List (List UInt8)) (AH : Option Addr) (N cc : Nat) (hs : List HunkD) (w : World) (ha : LnRow w A n c x) (hh : HkRow w AH N hs) (hl : longD x = false) (hN : ¬ 8 < N) (hx : linesR x = true) :
    Calls Try.prog 4 #[.slice A n c, .slice AH N cc] w fun e w' => e = .returned (.bool true) ∧ Below w.heap.size w w' := by
  have cL := long12_one A n c x w ha
  rw [hl] at cL
  have q1 := longD_no hl
  have z1 : ¬ (8 : Int) < N := by omega
  have cX := hid (fun W (h : Below w.heap.size w W) => rlines_any A n c x ha.1 (by have := ha.1; omega) (fun z hz => by have := q1.2 z hz; omega) W (ha.2.2.2.2.1.below h))
  have hxx := hx
  rw [hx] at cX
  have HA := hid ha
  have HH := hid hh
  have HLX := hid hx
  have HQ := hid q1
  have bn : n ≤ 40 := by have := ha.1; have := q1.1; omega
  clear ha hh hl hx q1 hxx
  go_enter Try.func4, Try.ntmps4
  go_wp2_with (fail)
  refine cL.mono ?_
  rintro e1 w1 ⟨rfl, hb1⟩
  go_wp2_with (fail)
  refine (cX.out w1 hb1).mono ?_
  rintro _ _ ⟨rfl, rfl⟩
  clear cX cL
  go_wp2_with (fail)
  go_loopw [5, 6, 30] (fun now sz i wr => ∃ (k : Nat) (A' : Option Addr) (n' c' : Nat) (cur : List (List UInt8)) (S : Nat), k ≤ N ∧ i = .int .i64 k ∧ now = .slice A' n' c' ∧ sz = .int .i64 S ∧ Hid (S = szL ((lensOf hs).take k)) ∧ S ≤ 80 * k ∧ Hid (cur.length = n') ∧ n' ≤ c' ∧ n' ≤ 60 ∧ Hid (linesR cur = true) ∧ Hid (∀ z ∈ cur, z.length ≤ 1000000000000) ∧ Hid (FarL x cur S) ∧ Hid (Rd wr A' (cur.map strV)) ∧ Below w.heap.size w wr) (fun _ _ i _ => N - (intOf i).toNat)
  case atStart => exact ⟨0, A, n, c, x, 0, by omega, rfl, rfl, rfl, hid rfl, by omega, hid HA.out.1, HA.out.2.1, by omega, HLX, hid (fun z hz => by have := HQ.out.2 z hz; omega), hid (FarL.start x), hid (HA.out.2.2.2.2.1.below hb1), hb1⟩
  case round =>
    obtain ⟨k, A', n', c', cur, S, hk, rfl, rfl, rfl, HS, hSk, HC, hcc, hn60, HCL, HC8, HF, HRD, hB⟩ := hrel
    by_cases hlt : k < N
    · obtain ⟨h, hj⟩ : ∃ h, hs[k]? = some h := ⟨_, List.getElem?_eq_getElem (by rw [HH.out.1]; omega)⟩
      obtain ⟨g, o, rfl, A0, n0, c0, B0, m0, d0, q0, q1, q2, hwf, yA, yB⟩ := HH.out.2.2 k h hj
      clear hwf
      have hSn : szL ((lensOf hs).take (k + 1)) = S + (n0 + m0) := by
        have : (lensOf hs)[k]? = some (h.2.1.length, h.2.2.length) := by unfold lensOf; rw [List.getElem?_map, hj]; rfl
        rw [take_snoc this, szL_snoc, HS.out, yA.1, yB.1]
      have HSN := hid hSn
      obtain ⟨L, old, nw⟩ := h
      simp only at q0 q1 q2 yA yB
      have p0 := below_cellD hB q0
      have p1 := below_cellD hB q1
      have p2 := below_cellD hB q2
      have HYA := hid yA
      have HYB := hid yB
      have hkN : (k : Int) < N := by omega
      have hS6 : S ≤ 640 := by omega
      have ho : (o : Int) + k * 3 = ((o + k * 3 : Nat) : Int) := by omega
      have hbx : Below wr.heap.size wr (wr.alloc (.cells #[.int .i64 L, .slice A0 n0 c0, .slice B0 m0 d0] 38)) := (Below.refl _ _).alloc (Nat.le_refl _) _
      have hkb := Blk.new wr 38 #[.int .i64 L, .slice A0 n0 c0, .slice B0 m0 d0]
      have hBx := hB.trans (hbx.mono hB.size)
      have lnA : LnRow (wr.alloc (.cells #[.int .i64 L, .slice A0 n0 c0, .slice B0 m0 d0] 38)) A0 n0 c0 old := ⟨yA.1, yA.2.1, yA.2.2.1, yA.2.2.2.1, yA.2.2.2.2.1.below hBx, yA.2.2.2.2.2⟩
      have lnB : LnRow (wr.alloc (.cells #[.int .i64 L, .slice A0 n0 c0, .slice B0 m0 d0] 38)) B0 m0 d0 nw := ⟨yB.1, yB.2.1, yB.2.2.1, yB.2.2.2.1, yB.2.2.2.2.1.below hBx, yB.2.2.2.2.2⟩
      have c1 := long12_two A0 n0 c0 old B0 m0 d0 nw _ lnA lnB
      rw [World.size_alloc] at c1
      clear q0 q1 q2 yA yB hj hSn lnA lnB
      have HKB := hid hkb
      have HBX := hid hbx
      have HBXX := hid hBx
      clear hkb hbx hBx
      cases hlg : longD old || longD nw with
      | true =>
       as_aux_lemma =>
        rw [hlg] at c1
        replace c1 := hid c1
        clear hlg
        go_wp2_with (fail)
        refine c1.out.mono ?_
        rintro e2 w2 ⟨rfl, hb2⟩
        go_wp2_with (fail)
        have hb2y : Below (wr.alloc (.cells #[.int .i64 L, .slice A0 n0 c0, .slice B0 m0 d0] 38)).heap.size (wr.alloc (.cells #[.int .i64 L, .slice A0 n0 c0, .slice B0 m0 d0] 38)) w2 := by rw [World.size_alloc]; exact hb2
        have hX := HBXX.out.trans (hb2y.mono HBXX.out.size)
        refine (awake12_any _).mono ?_
        rintro e9 w9 ⟨rfl, hb9⟩
        go_wp2_with (fail)
        go_ret
        exact ⟨rfl, hX.trans (hb9.mono hX.size)⟩

      | false =>
       as_aux_lemma =>
        rw [hlg] at c1
        rw [Bool.or_eq_false_iff] at hlg
        have r1 := longD_no hlg.1
        have r2 := longD_no hlg.2
        have R1 := hid r1
        have R2 := hid r2
        have bn0 : n0 ≤ 40 := by have := HYA.out.1; omega
        have bm0 : m0 ≤ 40 := by have := HYB.out.1; omega
        clear hlg r1 r2
        have cA := hid (fun W (hw : Below wr.heap.size wr W) => rapply_any A' n' c' cur HC.out (by omega) L A0 n0 c0 old HYA.out.1 (by omega) B0 m0 d0 nw HYB.out.1 (by omega) HC8.out (fun z hz => by have := R1.out.2 z hz; omega) (fun z hz => by have := R2.out.2 z hz; omega) W (HRD.out.below hw) (HYA.out.2.2.2.2.1.below (hB.trans (hw.mono hB.size))) (HYB.out.2.2.2.2.1.below (hB.trans (hw.mono hB.size))))
        rw [← apR_fst, ← apR_snd] at cA
        have hfar : (apR cur L old nw).2 = 0 → FarL x (apR cur L old nw).1 (S + (n0 + m0)) := fun hz => by have := HF.out.apR hz; rwa [HYA.out.1, HYB.out.1] at this
        have hln : (apR cur L old nw).2 = 0 → ∀ z ∈ (apR cur L old nw).1, z.length ≤ 1000000000000 := fun hz => apR_lens 1000000000000 hz HC8.out (fun z hz => by have := R2.out.2 z hz; omega)
        have hrt := apR_right cur (L, old, nw)
        simp only at hrt
        generalize (apR cur L old nw).1 = R at *
        generalize (apR cur L old nw).2 = z at *
        have HFAR := hid hfar
        have HLN := hid hln
        have HRT := hid hrt
        clear hfar hln hrt
        replace c1 := hid c1
        go_wp2_with (fail)
        refine c1.out.mono ?_
        rintro e2 w2 ⟨rfl, hb2⟩
        have hb2y : Below (wr.alloc (.cells #[.int .i64 L, .slice A0 n0 c0, .slice B0 m0 d0] 38)).heap.size (wr.alloc (.cells #[.int .i64 L, .slice A0 n0 c0, .slice B0 m0 d0] 38)) w2 := by rw [World.size_alloc]; exact hb2
        have hb2x := HBX.out.trans (hb2y.mono HBX.out.size)
        have hk2 := HKB.out.below hb2y
        have k0 := hk2.cell_ (i := 0) rfl
        have k1 := hk2.cell_ (i := 1) rfl
        have k2 := hk2.cell_ (i := 2) rfl
        clear c1
        go_wp2_with (fail)
        refine (cA.out w2 hb2x).mono ?_
        rintro e3 w3 ⟨v, rfl, hown, hb3⟩
        obtain ⟨_, A1, d1, rfl, rd1⟩ := rowRd hown
        have hcap := own_cap hown
        have hX := hB.trans ((hb2x.trans (hb3.mono hb2x.size)).mono hB.size)
        have hk3 := hk2.below hb3
        clear k0 k1 k2
        have k1 := hk3.cell_ (i := 1) rfl
        have k2 := hk3.cell_ (i := 2) rfl
        have HRD3 := hid rd1
        clear hown rd1 cA
        by_cases hz : z = 0
        · subst hz
          by_cases h60 : R.length ≤ 60
          · as_aux_lemma =>
            have z6 : ¬ (60 : Int) < R.length := by omega
            have hw1 := w64_two n0 m0 bn0 bm0
            have hw2 := w64_three S n0 m0 hS6 bn0 bm0
            have hkk : k + 1 ≤ N := hlt
            have HCAP := hid hcap
            have HW2 := hid hw2
            have HW3 : Hid (wrap64 ((k : Int) + 1) = (k : Int) + 1) := hid (w64_in _ (by clear hcap hX hB hb1 hb2 hb3; omega))
            clear hw2
            have HLE := hid (le_next S k n0 m0 hSk bn0 bm0)
            have HCC := hid hcc
            have HKK := hid hkk
            have HBN := hid (And.intro bn (And.intro h60 hn60))
            clear hcap hSk hcc hn60 bn bn0 bm0 ho hkN z1 hN p0 p1 p2 hk3 hk2 hlt hk hkk hS6
            go_wp2_with (fail)
            go_roundw
            case rel => exact ⟨k + 1, A1, R.length, d1, R, S + (n0 + m0), HKK.out, congrArg (Value.int .i64) (by rw [HW3.out]; rfl), rfl, congrArg (Value.int .i64) (by rw [HW2.out]; omega), hid HSN.out.symm, HLE.out, hid rfl, HCAP.out.1, HBN.out.2.1, hid (by first | exact HRT.out rfl | exact HRT.out trivial), hid (by first | exact HLN.out rfl | exact HLN.out trivial), hid (by first | exact HFAR.out rfl | exact HFAR.out trivial), HRD3, hX⟩
            case measure =>
              exact meas_lt N k HKK.out HW3.out
          · as_aux_lemma =>
            have z6 : (60 : Int) < R.length := by omega
            go_wp2_with (fail)
            refine (awake12_any _).mono ?_
            rintro e9 w9 ⟨rfl, hb9⟩
            go_wp2_with (fail)
            go_ret
            exact ⟨rfl, hX.trans (hb9.mono hX.size)⟩

        · as_aux_lemma =>
          have z7 : (z == (0 : Int)) = false := by rw [beq_eq_false_iff_ne]; exact hz
          have z8 : ((0 : Int) == z) = false := by rw [beq_eq_false_iff_ne]; omega
          go_wp2_with (fail)
          refine (awake12_any _).mono ?_
          rintro e9 w9 ⟨rfl, hb9⟩
          go_wp2_with (fail)
          go_ret
          exact ⟨rfl, hX.trans (hb9.mono hX.size)⟩

    · as_aux_lemma =>
      obtain rfl : k = N := by omega
      have z3 : ¬ (k : Int) < k := by omega
      have hS9 : szL (lensOf hs) = S := by
        rw [HS.out, List.take_of_length_le (by unfold lensOf; rw [List.length_map, HH.out.1]; exact Nat.le_refl _)]
      have cO := of_any A n c A' n' c' x cur HA.out.1 HC.out (by omega) (by omega) HA.out.2.1 hcc HLX.out HCL.out wr (HA.out.2.2.2.2.1.below hB) HRD.out
      have hle := dfG_least HF.out
      have hln := dfG_lenL x cur 0 0 [] []
      rw [HA.out.1, HC.out] at hln
      have hls : ∀ z ∈ lensOf hs, z.1 ≤ 1000000 ∧ z.2 ≤ 1000000 := fun z hz => by
        obtain ⟨j, hj⟩ := List.mem_iff_getElem?.1 hz
        have hz2 := sum_mem hz
        omega
      have cS := hid (fun W (hb : Below w.heap.size w W) => size_any AH k cc (lensOf hs) (by unfold lensOf; rw [List.length_map]; exact HH.out.1) (by omega) hls W (HH.out.lens hb))
      rw [hS9] at cS
      generalize dfG x cur 0 0 [] [] = P at *
      generalize hT : szH P = T at *
      have HT := hid hT
      have z4 : (T : Int) ≤ S := by omega
      clear hls hS9 hT
      go_wp2_with (fail)
      refine cO.mono ?_
      rintro e4 w4 ⟨v4, rfl, hO, hb4⟩
      have hX4 := hB.trans (hb4.mono hB.size)
      have s1 := sizeO_any hO (by omega)
      rw [HT.out] at s1
      go_wp2_with (fail)
      refine s1.mono ?_
      rintro e5 w5 ⟨rfl, hb5⟩
      have hX5 := hX4.trans (hb5.mono hX4.size)
      go_wp2_with (fail)
      refine (cS.out w5 hX5).mono ?_
      rintro e6 w6 ⟨rfl, hb6⟩
      have hX := hX5.trans (hb6.mono hX5.size)
      go_wp2_with (fail)
      refine (awake12_any _).mono ?_
      rintro e9 w9 ⟨rfl, hb9⟩
      go_wp2_with (fail)
      go_ret
      exact ⟨rfl, hX.trans (hb9.mono hX.size)⟩

theorem diffLeast_any (A : Option Addr) (n c : Nat) (x : List (List UInt8)) (AH : Option Addr) (N cc : Nat) (hs : List HunkD) (w : World) (ha : LnRow w A n c x) (hh : HkRow w AH N hs) :
    Calls Try.prog 4 #[.slice A n c, .slice AH N cc] w fun e w' => e = .returned (.bool true) ∧ Below w.heap.size w w' := by
  cases hl : longD x with
  | true => exact dl_long A n c x AH N cc hs w ha hh hl
  | false =>
    by_cases hN : 8 < N
    · exact dl_many A n c x AH N cc hs w ha hh hl hN
    · cases hx : linesR x with
      | false => exact dl_left A n c x AH N cc hs w ha hh hl hN hx
      | true => exact dl_yes A n c x AH N cc hs w ha hh hl hN hx

set_option linter.unusedVariables false in
theorem law_DiffLeast (w : World) (A : Option Addr) (n c : Nat) (x : List (List UInt8)) (AH : Option Addr) (N cc : Nat) (hs : List HunkD) (ha : LnRow w A n c x) (hh : HkRow w AH N hs) :
    Calls Try.prog 4 #[.slice A n c, .slice AH N cc] w fun e w' => e = .returned (.bool true) ∧ Below w.heap.size w w' := diffLeast_any A n c x AH N cc hs w ha hh


open Go.ChangeShapes Go.WideShapes Go.ChangeAt
open Go.ChangeMaps (open_string shut_string)
theorem own_DiffLeast : ownKnob Try.prog.godebug = none := by kernel_rfl
theorem laidOut_DiffLeast : laidOutB Try.prog = true := by kernel_rfl
set_option linter.unusedVariables false in
set_option maxRecDepth 100000 in
theorem lifted_DiffLeast (os : Os) (started : os.Started) (H : Type) (enc : TypeId × Value → H) :
    ReturnsInHanded {} Try.checked os 4 .any (Rows.diffLeastSpec.pre6 enc Try.prog Try.f4 Rows.diffLeastRow.domain false) (Rows.diffLeastSpec.post enc Try.prog Try.f4 false true false false) := by
  refine returnsInHanded_of_change (C := Try.checked) own_DiffLeast started (by kernel_rfl) Try.func4
    (ChangeSpec.witness6 (enc := enc) (C := Try.checked) false ⟨#[], #[.slice none 0 0, .slice none 0 0], []⟩ 8 (by kernel_rfl) (by kernel_rfl) (by kernel_rfl) (by kernel_rfl)) ?_
  intro W base args ds gs before hval0 hW hcnd _
  have hval : ∀ (j : Nat) t v, Try.f4.params[j]? = some t → args[j]? = some v → Value.okWide Try.prog W .any base t v := hval0
  have hW' := hW
  obtain ⟨p, q, hA0, hV, rfl, hfz, hnd⟩ := hW
  have hA1 : DataW.TrodAll enc Try.prog W 0 (fun _ => true) true Try.f4.params.toList args.toList ds p := hA0
  have hA : DataW.TrodAll enc Try.prog W 0 (fun _ => true) true Try.f4.params.toList args.toList ds p := hA0
  rw [Try.params4] at hA hval
  obtain ⟨v0, vs0, d0, ds0, p0, q0, hargs, rfl, rfl, h0, r0⟩ := trodAll_cons hA
  obtain ⟨v1, vs1, d1, ds1, p1, q1, rfl, rfl, rfl, h1, r1⟩ := trodAll_cons r0
  obtain ⟨rfl, rfl, rfl⟩ := trodAll_nil r1
  obtain rfl : args = #[v0, v1] := by cases args; simp_all
  obtain ⟨rfl, rfl⟩ := trodVars_none hV
  obtain ⟨A0, n0, c0, ls0, rfl, y0⟩ := open_ln (hval 0 22 v0 rfl rfl) h0
  obtain ⟨A1, n1, c1, ls1, rfl, y1⟩ := open_hunks (hval 1 25 v1 rfl rfl) h1
  clear hA0 hval0
  refine (law_DiffLeast W A0 n0 c0 ls0 A1 n1 c1 ls1 y0 y1).mono fun e W' ⟨he, bel⟩ => ?_
  subst he
  exact ⟨_, rfl, _, _, _, [], _, [], hW', trodAll_mk1 (shut_bool Try.underlying4 _), trodAll_stays laidOut_DiffLeast bel (by kernel_rfl) hA1, rfl, bel.frame _, fun h => by cases h⟩

/-- The statement. -/
theorem DiffLeast_holds : Rows.DiffLeastSaid :=
  OpenClaim.holds_of_wide 4 Try.f4 rfl rfl rfl rfl rfl rfl rfl ⟨rfl, rfl, rfl, rfl, rfl⟩ rfl rfl rfl rfl rfl (by kernel_rfl) Try.func4 (by kernel_rfl)
    (of_decide_eq_true (by kernel_rfl)) (by unfold Func.isWrapper; first | (rw [if_pos (by decide +kernel)]; kernel_rfl) | (rw [if_neg (by decide +kernel)]; exact ⟨rfl, rfl⟩))
    (fun os started H enc _ => lifted_DiffLeast os started H enc)
#print axioms DiffLeast_holds

end Go.Proofs.Ytkciohifldgdjaa

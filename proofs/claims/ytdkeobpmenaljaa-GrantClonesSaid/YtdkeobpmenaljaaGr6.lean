
/- grant: slices.Grow, slices.Concat at grants; granted. -/
import Derived.Test.YtdkeobpmenaljaaGr5
import Derived.Shelf.Spec.SlicesGrow
set_option linter.unusedSimpArgs false
set_option linter.unusedVariables false
namespace Go.Proofs.Ytdkeobpmenaljaa
open Go.RowKit Go.Qc Go.Shelf
attribute [local go_sem] txt_size txt_append ib_fold txt_toL

def laysGr84_ren : Go.Shelf.Ren := ⟨fun | 4 => 171 | n => n, fun | 22 => 44 | 25 => 113 | 3 => 3 | 4 => 4 | 9 => 9 | 20 => 20 | 0 => 0 | n => n, fun | n => n⟩
theorem laysGr84 : Go.Proofs.Lays8.n4 Try.prog laysGr84_ren := {
  mixed := by kernel_rfl
  f4 := ⟨Try.f171.name, by decide, Try.func171.trans (congrArg some (by kernel_rfl))⟩
  t0 := Try.underlying0
  a0 := Try.isAgg0
  z0 := Try.sizeOf0
  v0 := Try.zeroValue0
  t3 := Try.underlying3
  a3 := Try.isAgg3
  z3 := Try.sizeOf3
  v3 := Try.zeroValue3
  t4 := Try.underlying4
  a4 := Try.isAgg4
  z4 := Try.sizeOf4
  v4 := Try.zeroValue4
  t9 := Try.underlying9
  a9 := Try.isAgg9
  z9 := Try.sizeOf9
  v9 := Try.zeroValue9
  t20 := Try.underlying20
  a20 := Try.isAgg20
  z20 := Try.sizeOf20
  v20 := Try.zeroValue20
  t22 := Try.underlying44
  a22 := Try.isAgg44
  z22 := Try.sizeOf44
  v22 := Try.zeroValue44 }

theorem ggrow_any (k : Nat) (hk : k ≤ 1000) (w : World) :
    Calls Try.prog 171 #[.slice none 0 0, .int .i64 k] w fun e w' => ∃ v, e = .returned v ∧ GrOw w' w.heap.size v 0 [] ∧ Below w.heap.size w w' := by
  by_cases h0 : k = 0
  · subst h0
    exact (Any8.slices_Grow_room laysGr84 none 0 0 0 w (Nat.le_refl _) (by decide) (by decide) (Nat.le_refl _)).mono (by rintro e w' ⟨rfl, rfl⟩; exact ⟨_, rfl, GrOw.none_ _ _, Below.refl _ _⟩)
  · obtain ⟨i0, Z, hi, hz, hs, hZ, hb⟩ := Gr_info4
    refine (Any8.slices_Grow_grow laysGr84 i0 (.agg Z) hi hz (by omega) none 0 0 k [] w (Nat.le_refl _) (by omega) (Nat.le_trans (Nat.mul_le_mul (show 0 + k ≤ 1000 by omega) hb) (by decide)) (by omega) (by simp) (fun _ => rfl) (fun a h => by cases h)).mono ?_
    rintro e w' ⟨rfl, rfl⟩
    refine ⟨_, rfl, ?_, (below_drew10 w).trans ((Below.refl w.heap.size w.drew).alloc (Nat.le_refl _) _)⟩
    have h1 := grownCap_ge w (0 + k) 0 (laysGr84_ren.t 25)
    have h2 := grownCap_le_maxLen w (0 + k) 0 (laysGr84_ren.t 25) (by unfold maxLen; omega)
    generalize grownCap w (0 + k) 0 (laysGr84_ren.t 25) = G at *
    refine World.ownsRow_made w.drew _ _ (Nat.le_refl _) h2 ?_
    simp only [Array.size_append, size_zeroCells, Value.cells, List.size_toArray, List.length_nil]
    rw [hZ]
    simp
    omega
/-- A slice that reads as a row of grants. -/
def GSl (w : World) (v : Value) (r : List GrD) : Prop := ∃ A n c, v = .slice A n c ∧ r.length = n ∧ (A = none → n = 0 ∧ c = 0) ∧ GrRd w A r
theorem GSl.below {w w' : World} {v : Value} {r : List GrD} (h : GSl w v r) (hb : Below w.heap.size w w') : GSl w' v r := by
  obtain ⟨A, n, c, rfl, h1, h0, h2⟩ := h
  exact ⟨A, n, c, rfl, h1, h0, h2.below hb⟩
theorem gsnoc {α : Type} {l : List α} {k : Nat} {x : α} (h : l[k]? = some x) : l.take (k + 1) = l.take k ++ [x] := by rw [List.take_add_one, h]; rfl

set_option maxRecDepth 100000 in
set_option maxHeartbeats 20000000 in
theorem gconcat_any (ad : Addr) (N cc : Nat) (ss : List (Value × List GrD)) (hN : ss.length = N) (bN : N ≤ 10) (hall : (ss.flatMap (·.2)).length ≤ 1000) (w : World)
    (hc : ∀ W, Below w.heap.size w W → ∀ j x, ss[j]? = some x → W.cell? (ad.add j) = some x.1 ∧ GSl W x.1 x.2) :
    Calls Try.prog 145 #[.slice (some ad) N cc] w fun e w' => ∃ v, e = .returned v ∧ GrOw w' w.heap.size v (ss.flatMap (·.2)).length (ss.flatMap (·.2)) ∧ Below w.heap.size w w' := by
  have hsum : ∀ k, ((ss.take k).flatMap (·.2)).length ≤ 1000 := fun k => by
    have e : ss.flatMap (·.2) = (ss.take k).flatMap (·.2) ++ (ss.drop k).flatMap (·.2) := by rw [← List.flatMap_append, List.take_append_drop]
    rw [e, List.length_append] at hall
    omega
  have hB0 := Below.refl w.heap.size w
  obtain ⟨R, hR⟩ : ∃ R, R = ss.flatMap (·.2) := ⟨_, rfl⟩
  rw [← hR]
  have HR := hid hR
  clear hR hall
  have HC := hid hc
  have HSUM := hid hsum
  clear hc hsum
  go_enter Try.func145, Try.ntmps145
  go_wp2
  go_loopw [3, 11] (fun z i wr => ∃ (k S : Nat), k ≤ N ∧ i = .int .i64 k ∧ z = .int .i64 S ∧ S = ((ss.take k).flatMap (·.2)).length ∧ w = wr) (fun _ i _ => N - (intOf i).toNat)
  case atStart => exact ⟨0, 0, by omega, rfl, rfl, by simp, by first | rfl | trivial⟩
  case round =>
    obtain ⟨k, S, hk, rfl, rfl, hT, rfl⟩ := hrel
    have hTb : S ≤ 1000 := by have := HSUM.out k; omega
    have HT := hid hT
    clear hT
    by_cases hlt : k < N
    · obtain ⟨x, hx⟩ : ∃ x, ss[k]? = some x := ⟨_, List.getElem?_eq_getElem (by omega)⟩
      obtain ⟨hcell, A, n, c, hv, hn, _, _⟩ := HC.out w hB0 k x hx
      have hxl : n ≤ 1000 := by
        have := HSUM.out (k + 1)
        rw [gsnoc hx, List.flatMap_append, List.length_append] at this
        have e : (([x] : List (Value × List GrD)).flatMap (·.2)).length = n := by simp [hn]
        rw [e] at this
        omega
      rw [hv] at hcell
      have HX := hid hx
      have b1 : (k : Int) < N := by omega
      have b2 : ¬ ((S : Int) + n) < 0 := by omega
      have hw : wrap64 ((S : Int) + n) = (S : Int) + n := by unfold wrap64; omega
      clear hx
      go_wp2
      go_roundw
      case rel =>
        refine ⟨k + 1, S + n, hlt, by go_num, by go_num, ?_, by first | rfl | trivial⟩
        rw [gsnoc HX.out, List.flatMap_append, List.length_append, HT.out, ← hn]
        simp
      case measure => simp [intOf]; omega
    · obtain rfl : N = k := by omega
      have b1 : ¬ (N : Int) < N := by omega
      clear HT
      go_wp2_with (go_at_call 171; (with_reducible refine (ggrow_any S (by omega) _).mono ?_); rintro e1 w1 ⟨v, rfl, hown, hB⟩)
      go_loopw [6, 27] (fun v i wr => ∃ (k : Nat), k ≤ N ∧ i = .int .i64 k ∧ GrOw wr w.heap.size v ((ss.take k).flatMap (·.2)).length ((ss.take k).flatMap (·.2)) ∧ Below w.heap.size w wr) (fun _ i _ => N - (intOf i).toNat)
      case atStart => exact ⟨0, by omega, rfl, by simpa using hown, hB⟩
      case round =>
        clear hown hB
        obtain ⟨k, hk, rfl, hown, hB⟩ := hrel
        have hwz := hB.size
        have hlen := HSUM.out k
        have hlen2 := HSUM.out (k + 1)
        obtain ⟨Q, hQ⟩ : ∃ Q, Q = (ss.take k).flatMap (·.2) := ⟨_, rfl⟩
        rw [← hQ] at hown hlen
        have HQ := hid hQ
        clear hQ
        by_cases hlt : k < N
        · obtain ⟨x, hx⟩ : ∃ x, ss[k]? = some x := ⟨_, List.getElem?_eq_getElem (by omega)⟩
          obtain ⟨hcell, A, n, c, hv, hn, hz, hrd⟩ := HC.out wr hB k x hx
          rw [hv] at hcell
          have HX := hid hx
          have b1 : (k : Int) < N := by omega
          have hstep : (ss.take (k + 1)).flatMap (·.2) = Q ++ x.2 := by
            rw [gsnoc hx, List.flatMap_append, HQ.out]; simp
          rw [hstep, List.length_append, hn] at hlen2
          have HS := hid hstep
          clear hstep hx
          go_wp2_with (at_builtin; refine wpList_append_gr rfl _ _ rfl w.heap.size _ _ Q rfl hown A n c x.2 rfl hn hz hrd hlen2 hwz ?_; intro v8 w8 hown8 hg8)
          have hB8 : Below w.heap.size w w8 := hB.grown hg8 hwz (fun q hq => (hown.lt q hq).1)
          go_roundw
          case rel =>
            refine ⟨k + 1, hlt, by go_num, ?_, hB8⟩
            rw [HS.out, List.length_append, hn]
            exact hown8
          case measure => simp [intOf]; omega
        · obtain rfl : k = N := by omega
          have b1 : ¬ (k : Int) < k := by omega
          have hQR : Q = R := by rw [HQ.out, HR.out, List.take_of_length_le (by omega)]
          subst hQR
          clear hlen
          go_wp2
          go_ret
          exact ⟨_, rfl, hown, hB⟩

end Go.Proofs.Ytdkeobpmenaljaa

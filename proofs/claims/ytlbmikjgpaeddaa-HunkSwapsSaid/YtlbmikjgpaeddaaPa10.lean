
/- path: parts joined to a path, by the program and by the document. -/
import Derived.Test.YtlbmikjgpaeddaaPa9
import Derived.Shelf.Strings.OnBuilder
namespace Go.Proofs.Ytlbmikjgpaeddaa
open Go.RowKit Go.Qc Go.Shelf
attribute [local go_sem] txt_size txt_append ib_fold txt_toL

def lays156_ren : Go.Shelf.Ren := ⟨fun | 156 => 49 | 165 => 70 | 166 => 71 | 169 => 72 | 240 => 80 | 241 => 81 | 276 => 85 | 277 => 86 | n => n, fun | 31 => 25 | 9 => 9 | 3 => 3 | 4 => 4 | 0 => 0 | 20 => 20 | 72 => 84 | 76 => 88 | 70 => 81 | 37 => 82 | 75 => 87 | 127 => 95 | 164 => 100 | 5 => 5 | 80 => 90 | n => n, fun | n => n⟩
theorem lays156 : Go.Proofs.Lays.n156 Try.prog lays156_ren := {
  mixed := by kernel_rfl
  f156 := Try.func49.trans (congrArg some (by kernel_rfl))
  f165 := Try.func70.trans (congrArg some (by kernel_rfl))
  f166 := Try.func71.trans (congrArg some (by kernel_rfl))
  f169 := Try.func72.trans (congrArg some (by kernel_rfl))
  f240 := Try.func80.trans (congrArg some (by kernel_rfl))
  f241 := Try.func81.trans (congrArg some (by kernel_rfl))
  f276 := Try.func85.trans (congrArg some (by kernel_rfl))
  f277 := Try.func86.trans (congrArg some (by kernel_rfl))
  t0 := Try.underlying0
  a0 := Try.isAgg0
  z0 := Try.sizeOf0
  v0 := Try.zeroValue0
  t3 := Try.underlying3
  a3 := Try.isAgg3
  z3 := Try.sizeOf3
  v3 := Try.zeroValue3
  t4 := Try.underlying4
  a4 := Try.isAgg4
  z4 := Try.sizeOf4
  v4 := Try.zeroValue4
  t9 := Try.underlying9
  a9 := Try.isAgg9
  z9 := Try.sizeOf9
  v9 := Try.zeroValue9
  t20 := Try.underlying20
  a20 := Try.isAgg20
  z20 := Try.sizeOf20
  v20 := Try.zeroValue20
  t31 := Try.underlying25
  a31 := Try.isAgg25
  z31 := Try.sizeOf25
  v31 := Try.zeroValue25
  t37 := Try.underlying82
  a37 := Try.isAgg82
  z37 := Try.sizeOf82
  v37 := Try.zeroValue82
  t70 := Try.underlying81
  a70 := Try.isAgg81
  z70 := Try.sizeOf81
  v70 := Try.zeroValue81
  t72 := Try.underlying84
  a72 := Try.isAgg84
  z72 := Try.sizeOf84
  v72 := Try.zeroValue84
  t75 := Try.underlying87
  a75 := Try.isAgg87
  z75 := Try.sizeOf87
  v75 := Try.zeroValue87
  t76 := Try.underlying88
  a76 := Try.isAgg88
  z76 := Try.sizeOf88
  v76 := Try.zeroValue88
  t127 := Try.underlying95
  a127 := Try.isAgg95
  z127 := Try.sizeOf95
  v127 := Try.zeroValue95
  t164 := Try.underlying100
  a164 := Try.isAgg100
  z164 := Try.sizeOf100
  v164 := Try.zeroValue100 }
theorem bX156 : Builder.Extra Try.prog lays156_ren := {
  sizeBuilder := by kernel_rfl
  liesBuilder := by kernel_rfl
  t5 := Try.underlying5
  a5 := Try.isAgg5
  z5 := Try.sizeOf5
  v5 := Try.zeroValue5
  infoByte := by kernel_rfl
  cellsByte := by kernel_rfl
  sizeByte := by kernel_rfl
  neB5 := by decide }

set_option maxHeartbeats 2000000 in
theorem equal_any (A B : Option Addr) (n m c d : Nat) (ps qs : List (List UInt8)) (hn : ps.length = n) (hm : qs.length = m) (bn : n ≤ 9223372036854775807) (bm : m ≤ 9223372036854775807) (w : World) (hr : Rd w A (ps.map strV)) (hs : Rd w B (qs.map strV)) :
    Calls Try.prog 50 #[.slice A n c, .slice B m d] w fun e w' => e = .returned (.bool (decide (ps = qs))) ∧ Below w.heap.size w w' := by
  by_cases hnm : n = m
  · subst hnm
    go_enter Try.func50, Try.ntmps50
    go_wp2
    go_loopw [13] (fun i wr => ∃ k : Nat, k ≤ n ∧ i = .int .i64 k ∧ ps.take k = qs.take k ∧ Below w.heap.size w wr) (fun i _ => n - (intOf i).toNat)
    case atStart => exact ⟨0, by omega, rfl, rfl, Below.refl _ _⟩
    case round =>
      obtain ⟨k, hk, rfl, ht, hBr⟩ := hrel
      by_cases hlt : k < n
      · obtain ⟨p, hp⟩ : ∃ p, ps[k]? = some p := ⟨_, List.getElem?_eq_getElem (by omega)⟩
        obtain ⟨q, hq⟩ : ∃ q, qs[k]? = some q := ⟨_, List.getElem?_eq_getElem (by omega)⟩
        obtain ⟨ad, rfl, hcell⟩ := rd_in (hr.below hBr) k (strV p) (by rw [List.getElem?_map, hp]; rfl)
        obtain ⟨ad2, rfl, hcell2⟩ := rd_in (hs.below hBr) k (strV q) (by rw [List.getElem?_map, hq]; rfl)
        unfold strV at hcell hcell2
        have HP := hid hp
        have HQ := hid hq
        have HT2 := hid ht
        have b1 : (k : Int) < n := by omega
        clear hp hq ht
        by_cases hpq : p = q
        · subst hpq
          go_wp2
          go_quiet (fail)
          go_wp2
          go_roundw
          case rel => exact ⟨k + 1, hlt, by go_num, by rw [take_snoc HP.out, take_snoc HQ.out, HT2.out], below_drewN hBr _⟩
          case measure => simp [intOf]; omega
        · have hb2 : (p == q) = false := beq_eq_false_iff_ne.2 hpq
          go_wp2
          go_quiet (fail)
          go_wp2
          go_ret
          refine ⟨?_, below_drewN hBr _⟩
          have : ¬ ps = qs := by
            rintro rfl
            have := HP.out.symm.trans HQ.out
            exact hpq (Option.some.inj this)
          rw [decide_eq_false this]; rfl
      · obtain rfl : k = n := by omega
        rw [List.take_of_length_le (by omega), List.take_of_length_le (by omega)] at ht
        have HT := hid ht
        have b1 : ¬ (k : Int) < k := by omega
        clear ht
        go_wp2
        go_ret
        exact ⟨by rw [decide_eq_true HT.out]; rfl, hBr⟩
  · have h1 : ((n : Int) == m) = false := by rw [beq_eq_false_iff_ne]; omega
    have h2 : ¬ (n : Int) = m := by omega
    have hne : ¬ ps = qs := by rintro rfl; omega
    rw [decide_eq_false hne]
    clear hne
    go_enter Try.func50, Try.ntmps50
    go_wp2
    go_ret
    exact ⟨rfl, Below.refl _ _⟩

theorem rd_lit {w : World} {A : Option Addr} {xs : List Value} (h : Rd w A xs) (hne : xs ≠ []) : ∃ g o, A = some ⟨g, o, none⟩ ∧ g < w.heap.size ∧ ∀ j u, xs[j]? = some u → w.cell? ⟨g, o + j, none⟩ = some u := by
  rcases h with h | ⟨a, rfl, hc⟩
  · exact absurd h hne
  · obtain ⟨x, xs, rfl⟩ := List.exists_cons_of_ne_nil hne
    have hsp : a.spot = none := by
      have := hc 0 x rfl
      cases hs : a.spot with
      | none => rfl
      | some s => simp [Addr.add, World.cell?, hs] at this; split at this <;> simp_all
    obtain ⟨g, o, sp⟩ := a
    obtain rfl : sp = none := hsp
    have hlit : ∀ j, (⟨g, o, none⟩ : Addr).add j = ⟨g, o + j, none⟩ := fun j => by unfold Addr.add; split <;> simp_all
    refine ⟨g, o, rfl, World.block_lt_of_cell? w _ (hc 0 x rfl), fun j u hu => ?_⟩
    have := hc j u hu
    rwa [hlit] at this
theorem sjoin_any (A : Option Addr) (n c : Nat) (ps : List (List UInt8)) (hn : ps.length = n) (hcap : n ≤ c) (bn : n ≤ 1000000) (hp : ∀ x ∈ ps, x.length ≤ 1000000) (w : World) (hr : Rd w A (ps.map strV)) :
    Calls Try.prog 49 #[.slice A n c, .string ⟨#[47]⟩] w fun e w' => e = .returned (.string (txt (joinS ps))) ∧ Below w.heap.size w w' := by
  subst hn
  by_cases h0 : ps = []
  · subst h0
    exact (Any.strings_Join_none lays156 bX156 A c ⟨#[47]⟩ w).mono (by rintro e w' ⟨h, rfl⟩; exact ⟨h, Below.refl _ _⟩)
  · obtain ⟨g, o, rfl, hg, hc⟩ := rd_lit hr (by simpa using h0)
    have hlen := joinS_len ps 1000000 hp
    have hm : (ps.map txt).map (·.data.toList) = ps := by
      rw [List.map_map]
      conv => rhs; rw [← List.map_id ps]
      apply List.map_congr_left
      intro x _
      exact txt_data x
    have hb : ps.length * 1000001 ≤ 1000000 * 1000001 := Nat.mul_le_mul_right _ bn
    have := Any.strings_Join lays156 bX156 g o c (ps.map txt) ⟨#[47]⟩ w (fun j x hx => by
      refine hc j (.string x) ?_
      rw [List.getElem?_map] at hx ⊢
      cases hj : ps[j]? with
      | none => rw [hj] at hx; cases hx
      | some y => rw [hj] at hx; cases hx; rfl) hg (by rw [List.length_map]; omega) (by rw [List.length_map]; exact hcap) (by rw [hm]; show (joinS ps).length ≤ _; omega)
    rw [hm, List.length_map] at this
    exact this
/-! ### what joined parts part into -/
theorem split_join (x : List UInt8) (xs : List (List UInt8)) : splitS (joinS (x :: xs)) = (x :: xs).flatMap splitS := by
  induction xs generalizing x with
  | nil => rw [joinS_one]; simp
  | cons y ys ih =>
    have e : joinS (x :: y :: ys) = x ++ 47 :: joinS (y :: ys) := by
      unfold joinS
      rw [Lib.join_cons, Lib.join_cons]
      simp [Lib.joinTail]
    rw [e, splitS_mid, ih y, List.flatMap_cons]
    rfl
theorem flat_len : ∀ (xs : List (List UInt8)), xs.length ≤ (xs.flatMap splitS).length ∧ ((xs.flatMap splitS).length = xs.length → xs.flatMap splitS = xs)
  | [] => by simp
  | x :: xs => by
    obtain ⟨h1, h2⟩ := flat_len xs
    have hx : 1 ≤ (splitS x).length := by
      cases h : splitS x with
      | nil => exact absurd h (splitS_ne x)
      | cons y ys => simp
    rw [List.flatMap_cons, List.length_append, List.length_cons]
    refine ⟨by omega, fun h => ?_⟩
    have h3 := h2 (by omega)
    have h4 : (splitS x).length = 1 := by omega
    obtain ⟨y, hy⟩ := List.length_eq_one_iff.1 h4
    have h5 := joinS_split x
    rw [hy, joinS_one] at h5
    rw [h3, hy, h5]; rfl
/-- Parts that are a path's. -/
def joinR (ps : List (List UInt8)) : Bool := pathR (joinS ps) && decide (splitS (joinS ps) = ps)
theorem joinR_doc (ps : List (List UInt8)) : joinR ps = (decide (0 < ps.length) && (pathR (joinS ps) && decide ((splitS (joinS ps)).length = ps.length))) := by
  unfold joinR
  cases ps with
  | nil => rw [joinS_nil, pathR_nil]; rfl
  | cons x xs =>
    have h : decide (splitS (joinS (x :: xs)) = x :: xs) = decide ((splitS (joinS (x :: xs))).length = (x :: xs).length) := by
      rw [decide_eq_decide]
      refine ⟨fun h => congrArg List.length h, fun h => ?_⟩
      rw [split_join] at h ⊢
      exact (flat_len _).2 h
    rw [h, decide_eq_true (show 0 < (x :: xs).length by simp), Bool.true_and]
end Go.Proofs.Ytlbmikjgpaeddaa

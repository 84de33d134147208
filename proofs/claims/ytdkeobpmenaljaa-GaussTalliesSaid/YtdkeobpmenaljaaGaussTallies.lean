
/- Proved: for any two rows of ids and any byte quitclaimlaw22.GaussTallies returns true and leaves its arguments as they were. No conditions. -/
import Derived.Test.YtdkeobpmenaljaaGt2
import Derived.Test.YtdkeobpmenaljaaRows
import Derived.ChangeShapes
import Derived.Deep.DeepCutAuto
set_option linter.unusedSimpArgs false
set_option linter.unusedVariables false
namespace Go.Proofs.Ytdkeobpmenaljaa
open Go.RowKit Go.Qc

theorem LetZ.neq {r : Int × Int} {a b : Int} {u v : Nat} (h : LetZ r a b u v) (hr : ResZ r) (W : World) : (binOp .neq 80 (.complex .f64 u v) (.complex .f64 u v)).run Try.prog W = .ok (.bool false) W := by
  have h1 := run_neq_complex (P := Try.prog) W 80 .f64 u v u v
  have h2 := run_eql_complex (P := Try.prog) W 80 .f64 u v u v
  rw [h.eq hr W] at h2
  rw [h1]
  injection h2 with h3
  injection h3 with h4
  rw [← h4]; rfl
set_option maxRecDepth 100000 in
set_option maxHeartbeats 20000000 in
theorem tallies_far (A B : Option Addr) (n c m d : Nat) (b : Int) (w : World) (h : 60 < n ∨ 60 < m) (bn : n ≤ 9223372036854775807) (bm : m ≤ 9223372036854775807) :
    Calls Try.prog 10 #[.slice A n c, .slice B m d, .int .u8 b] w fun e w' => e = .returned (.bool true) ∧ Below w.heap.size w w' := by
  have aw := awake22_any
  by_cases h1 : 60 < n
  · have z1 : (60 : Int) < n := by omega
    clear h
    go_enter Try.func10, Try.ntmps10
    go_wp2_with (go_at_call 52; (with_reducible refine (aw _).mono ?_); rintro e w' ⟨rfl, rfl⟩)
    go_ret
    exact ⟨rfl, Below.refl _ _⟩
  · have z1 : ¬ (60 : Int) < n := by omega
    have z2 : (60 : Int) < m := by omega
    clear h
    go_enter Try.func10, Try.ntmps10
    go_wp2_with (go_at_call 52; (with_reducible refine (aw _).mono ?_); rintro e w' ⟨rfl, rfl⟩)
    go_ret
    exact ⟨rfl, Below.refl _ _⟩
theorem turn_k (b n : Nat) (hb : b < 256) (hn : 0 < n) : ((b : Int)).tmod (n : Int) = ((b % n : Nat) : Int) := by
  rw [Int.tmod_eq_emod_of_nonneg (by omega)]; exact (Int.natCast_emod b n).symm
set_option maxRecDepth 100000 in
set_option maxHeartbeats 20000000 in
theorem tallies_near (A B : Option Addr) (n c m d : Nat) (l r : List (List UInt8)) (b : Nat) (hb : b < 256) (w : World) (hn : n ≤ 60) (hm : m ≤ 60) (hA : RowC w A n c l) (hB : RowC w B m d r) :
    Calls Try.prog 10 #[.slice A n c, .slice B m d, .int .u8 b] w fun e w' => e = .returned (.bool true) ∧ Below w.heap.size w w' := by
  have aw := fun W => same_belowZ (awake22_any W)
  have z1 : ¬ (60 : Int) < n := by omega
  have z2 : ¬ (60 : Int) < m := by omega
  obtain ⟨k, hk, hkv⟩ : ∃ k : Nat, (k < n ∨ (k = 0 ∧ n = 0)) ∧ (0 < n → k = b % n) := by
    by_cases h : 0 < n
    · exact ⟨b % n, .inl (Nat.mod_lt _ h), fun _ => rfl⟩
    · exact ⟨0, .inr ⟨rfl, by omega⟩, fun h2 => absurd h2 h⟩
  obtain ⟨A1, c1, A2, c2, s1, s2, hA1, hA2, rd, rt⟩ := hA.parts k hk
  have hll := hA.1.1
  have hrl := hB.1.1
  obtain ⟨tp, tq, t1, t2, lt⟩ := LetZ.mk_ (talZ l)
  obtain ⟨up, uq, u1, u2, lu⟩ := LetZ.mk_ (talZ r)
  obtain ⟨bp, bq, b1, b2, lb⟩ := LetZ.mk_ (gmulZ (talZ l) (talZ r))
  have cT : ∀ W, RowR W A n l → Calls Try.prog 55 #[.slice A n c] W fun e w' => e = .returned (.complex .f64 t1 t2) ∧ Below W.heap.size W w' := fun W h => by
    have := gtally_any A n c l W h
    rwa [lt.cz] at this
  have cU : ∀ W, RowR W B m r → Calls Try.prog 55 #[.slice B m d] W fun e w' => e = .returned (.complex .f64 u1 u2) ∧ Below W.heap.size W w' := fun W h => by
    have := gtally_any B m d r W h
    rwa [lu.cz] at this
  have cRT : ∀ W, RowR W A n l → Calls Try.prog 58 #[.slice A n c] W fun e w' => e = .returned (.agg #[.int .i64 tp, .int .i64 tq]) ∧ Below W.heap.size W w' := fun W h => by
    have := rtally22_any A n c l W h
    rwa [lt.pz] at this
  have cB : ∀ W A' n' c', RowR W A' n' (l ++ r) → Calls Try.prog 55 #[.slice A' n' c'] W fun e w' => e = .returned (.complex .f64 b1 b2) ∧ Below W.heap.size W w' := fun W A' n' c' h => by
    have := gtally_any A' n' c' _ W h
    rwa [talZ_append, lb.cz] at this
  have cV : ∀ W A' n' c', RowR W A' n' (l.drop k ++ l.take k) → Calls Try.prog 55 #[.slice A' n' c'] W fun e w' => e = .returned (.complex .f64 t1 t2) ∧ Below W.heap.size W w' := fun W A' n' c' h => by
    have := gtally_any A' n' c' _ W h
    rwa [talZ_turn, lt.cz] at this
  have nT := lt.number
  have qT := lt.eq (talZ_res l)
  have qB := lb.eq (gmulZ_res _ _)
  have cM := fun W => same_belowZ (gmul_any (talZ l) (talZ r) (talZ_res _) (talZ_res _) W)
  rw [lt.cz, lu.cz, lb.cz] at cM
  have h32 : ∀ a ∈ l, a.length = 32 := hA.1.2.2.1
  have r32 : ∀ a ∈ r, a.length = 32 := hB.1.2.2.1
  have hwb : IntKind.i64.wrap (b : Int) = b := by rw [IntKind.wrap_i64]; omega
  have HA := hid hA.1
  have HB := hid hB.1
  have HL := hid hll
  have HR := hid hrl
  have HD := hid rd
  have HT := hid rt
  have H32 := hid h32
  have R32 := hid r32
  have HNM := hid (And.intro hn hm)
  have HA1 := hid hA1
  have HA2 := hid hA2
  have HRA : A = none → n = 0 ∧ c = 0 := fun h => by
    rcases hA.2 with ⟨_, h1, h2⟩ | ⟨⟨a, h1⟩, _, _⟩
    · exact ⟨h1, h2⟩
    · rw [h] at h1; cases h1
  have HRB : B = none → m = 0 ∧ d = 0 := fun h => by
    rcases hB.2 with ⟨_, h1, h2⟩ | ⟨⟨a, h1⟩, _, _⟩
    · exact ⟨h1, h2⟩
    · rw [h] at h1; cases h1
  have HRA2 := hid HRA
  have HRB2 := hid HRB
  have HK := hid hk
  have bel0 := Below.refl w.heap.size w
  clear hA hB hll hrl rd rt lt lu lb h32 r32 hA1 hA2 HRA HRB hn hm hk
  have hu := Try.underlying23
  have hkt : ((0 : Int) < n ∧ ((b : Int)).tmod (n : Int) = k) ∨ (¬ (0 : Int) < n ∧ k = 0) := by
    by_cases h : 0 < n
    · left; exact ⟨by omega, by rw [turn_k b n hb h, hkv h]⟩
    · right
      rcases HK.out with h2 | h2
      · omega
      · exact ⟨by omega, h2.1⟩
  clear hkv
  go_enter Try.func10, Try.ntmps10
  go_upto_region 4 with (fail)
  rcases hkt with ⟨k1, k2⟩ | ⟨k1, rfl⟩
  · have k3 : ¬ (n : Int) = 0 := by omega
    go_wp2_with (first
      | (go_at_call 55; (with_reducible refine (cT _ (HA.out.below bel0)).mono ?_); (rintro e1 w1 ⟨rfl, hb1⟩; have hown := IdOw.made w1; have hs1 := hb1.size; have bel1 := (bel0.trans (hb1.mono bel0.size)).alloc hs1 (.cells #[] 23); have rA := HA.out.below bel1; clear bel0))
      | (at_builtin; refine wpList_append_idw rfl _ _ rfl w1.heap.size _ _ _ rfl hown A n c l rfl HL.out HRA2.out rA.2.2 (by have := HNM.out; omega) (by rw [World.size_alloc]; omega) ?_; intro v2 w2 hown2 hg2; have bel2 := hown.grown hg2 hs1 bel1 bel1.size; rw [Nat.zero_add, List.nil_append] at hown2; have hs2 := hg2.size; rw [World.size_alloc] at hs2; have rB := HB.out.below bel2; clear hown hg2 bel1 rA)
      | (at_builtin; refine wpList_append_idw rfl _ _ rfl w1.heap.size _ _ _ rfl hown2 B m d r rfl HR.out HRB2.out rB.2.2 (by have := HNM.out; omega) (by omega) ?_; intro v3 w3 hown3 hg3; have bel3 := hown2.grown hg3 hs1 bel2 bel2.size; obtain ⟨A3, c3, rfl, hrow⟩ := hown3.row (fun a ha => (List.mem_append.1 ha).elim (H32.out a) (R32.out a)) (by have := HNM.out; omega); clear hown2 hg3 bel2 rB hown3)
      | (go_at_call 55; (with_reducible refine (cB _ _ _ _ hrow).mono ?_); rintro e4 w4 ⟨rfl, hb4⟩; have bel4 := bel3.trans (hb4.mono bel3.size); clear bel3 hrow hb4))
    clear cB
    have bel5 := hid bel4
    clear bel4
    go_loopw [39] (fun i wr => ∃ j : Nat, j ≤ n ∧ i = .int .i64 j ∧ Below w.heap.size w wr) (fun i _ => n - (intOf i).toNat)
    case atStart => exact ⟨0, by omega, rfl, bel5.out⟩
    case round =>
      clear bel5
      obtain ⟨j, hj, rfl, hb⟩ := hrel
      by_cases hlt : j < n
      · obtain ⟨x, hx⟩ : ∃ x, l[j]? = some x := ⟨_, List.getElem?_eq_getElem (by have := HL.out; omega)⟩
        obtain ⟨g, q, hg, lx, hix⟩ := HA.out.2.2.pick c HL.out hx
        have zj : (j : Int) < n := by omega
        have fx := hg.below hb
        have hzx : (Try.prog.info? 23).map (·.size) = some (x.map u8v).length := by rw [List.length_map, lx]; exact sizeId
        obtain ⟨xp, xq, x1, x2, lz⟩ := LetZ.mk_ (idZ x)
        have o1 : ∀ W, Calls Try.prog 56 #[.agg (List.map u8v x).toArray] W fun e w' => e = .returned (.complex .f64 x1 x2) ∧ Below W.heap.size W w' := fun W => by
          have := gof_any x lx W
          rwa [lz.cz] at this
        have o2 : ∀ W, Calls Try.prog 57 #[.agg (List.map u8v x).toArray] W fun e w' => e = .returned (.agg #[.int .i64 xp, .int .i64 xq]) ∧ Below W.heap.size W w' := fun W => by
          have := rof22_any x lx W
          rwa [lz.pz] at this
        have o3 := lz.number
        have qn := lz.neq (idZ_res x)
        have HLT := hid hlt
        have HLX := hid lx
        clear hx hlt hg lx lz
        go_wp2_with (first
          | (with_reducible refine wpList_load_if (by with_unfolding_all rfl) 23 _ rfl _ _ rfl (x.map u8v) _ fx hu rfl hzx ?_)
          | ((with_reducible refine wpList_store_newid rfl _ _ rfl x HLX.out rfl rfl rfl ?_); intro w2 hr2 hb2))
        have hbb := hb.trans (hb2.mono hb.size)
        have f2 := range_later hr2
        refine wp_region_later mixedZ (by kernel_rfl) ?_
        repeat (first
          | ((with_reducible refine wpQuiet_load_if (by with_unfolding_all rfl) 23 _ rfl _ _ rfl (x.map u8v) _ f2 hu (by with_unfolding_all rfl) hzx ?_); simp only [Act.put, List.setIfInBounds_toArray, List.set_cons_zero, List.set_cons_succ])
          | ((with_reducible refine wpQuiet_step (fun K hK => ?_)); go_simp; first | ((with_reducible refine hK _ ?_); clear hK K) | (with_reducible apply Exists.intro; (with_reducible refine ⟨fun P => ?_, hK _ ?_⟩); (first | (go_at_call 56; with_reducible exact later_of (o1 P.w)) | (go_at_call 57; with_reducible exact later_of (o2 P.w)) | (go_at_call 41; with_reducible exact later_of (o3 P.w))); clear hK K)))
        with_reducible refine wpQuiet_nil ?_
        intro _ hw9
        obtain ⟨P9, rfl⟩ := hw9
        have hb9 := hid (hbb.trans (P9.h.mono hbb.size))
        generalize P9.w = w8 at *
        clear hb hb2 hbb f2 fx hr2
        go_wp2
        go_roundw
        case rel => exact ⟨j + 1, HLT.out, by go_num, hb9.out⟩
        case measure => exact meas_z HLT.out
      · obtain rfl : j = n := by omega
        have zj : ¬ (j : Int) < j := by omega
        go_upto_region 14 with (fail)
        generalize hW4 : wr = W4 at *
        have hAr := HA.out.below hb
        have hBr := HB.out.below hb
        have rd4 := HD.out.below hb
        have rt4 := HT.out.below hb
        refine wp_region_held_drew (S := fun W => Below W4.heap.size W4 W) (by kernel_rfl) ?_ (fun hHeld => ?_)
        · exact below_drewZ (Below.refl _ _)
        refine' wpAnyH_take (i := 0) (v := .complex .f64 t1 t2) rfl (by kernel_rfl) (by kernel_rfl) (by kernel_rfl) (fun _ _ _ h => h) (Or.inl ⟨by rfl, fun w' hw' => by go_simp⟩) hHeld ?_
        try simp only [Act.put, List.getElem_toArray, List.getElem_cons_succ, List.getElem_cons_zero, List.setIfInBounds_toArray, List.set_cons_zero, List.set_cons_succ]
        refine' wpAnyH_take (i := 1) (v := .slice A j c) rfl (by kernel_rfl) (by kernel_rfl) (by kernel_rfl) (fun _ _ _ h => h) (Or.inl ⟨by rfl, fun w' hw' => by go_simp⟩) hHeld ?_
        try simp only [Act.put, List.getElem_toArray, List.getElem_cons_succ, List.getElem_cons_zero, List.setIfInBounds_toArray, List.set_cons_zero, List.set_cons_succ]
        refine wpAnyH_ready (rs := [2]) (by kernel_rfl) (by simp) ?_
        refine AllReadyH.cons rfl (fun K hK => ?_) AllReadyH.nil
        go_simp
        (with_reducible refine (cRT _ (hAr.below hHeld)).mono ?_)
        rintro e5 w5 ⟨rfl, hb5⟩
        refine hK.out _ _ (hHeld.trans (hb5.mono hHeld.size)) (fun hHeld => ?_)
        clear hK K hb5
        try simp only [Act.put, List.getElem_toArray, List.getElem_cons_succ, List.getElem_cons_zero, List.setIfInBounds_toArray, List.set_cons_zero, List.set_cons_succ]
        refine wpAnyH_ready (rs := [3]) (by kernel_rfl) (by simp) ?_
        refine AllReadyH.cons rfl (fun K hK => ?_) AllReadyH.nil
        go_simp
        (with_reducible refine (nT _).mono ?_)
        rintro e5 w5 ⟨rfl, hb5⟩
        refine hK.out _ _ (hHeld.trans (hb5.mono hHeld.size)) (fun hHeld => ?_)
        clear hK K hb5
        try simp only [Act.put, List.getElem_toArray, List.getElem_cons_succ, List.getElem_cons_zero, List.setIfInBounds_toArray, List.set_cons_zero, List.set_cons_succ]
        refine' wpAnyH_take (i := 4) (v := .bool true) rfl (by kernel_rfl) (by kernel_rfl) (by kernel_rfl) (fun _ _ _ h => h) (Or.inl ⟨by rfl, fun w' hw' => by have hv := qT w'; go_simp⟩) hHeld ?_
        try simp only [Act.put, List.getElem_toArray, List.getElem_cons_succ, List.getElem_cons_zero, List.setIfInBounds_toArray, List.set_cons_zero, List.set_cons_succ]
        refine' wpAnyH_take (i := 5) (v := .bool true) rfl (by kernel_rfl) (by kernel_rfl) (by kernel_rfl) (fun _ _ _ h => h) (Or.inl ⟨by rfl, fun w' hw' => by go_simp⟩) hHeld ?_
        try simp only [Act.put, List.getElem_toArray, List.getElem_cons_succ, List.getElem_cons_zero, List.setIfInBounds_toArray, List.set_cons_zero, List.set_cons_succ]
        refine' wpAnyH_take (i := 7) (v := .slice A j c) rfl (by kernel_rfl) (by kernel_rfl) (by kernel_rfl) (fun _ _ _ h => h) (Or.inl ⟨by rfl, fun w' hw' => by go_simp⟩) hHeld ?_
        try simp only [Act.put, List.getElem_toArray, List.getElem_cons_succ, List.getElem_cons_zero, List.setIfInBounds_toArray, List.set_cons_zero, List.set_cons_succ]
        refine' wpAnyH_take (i := 8) (v := .int .i64 k) rfl (by kernel_rfl) (by kernel_rfl) (by kernel_rfl) (fun _ _ _ h => h) (Or.inl ⟨by rfl, fun w' hw' => by go_simp⟩) hHeld ?_
        try simp only [Act.put, List.getElem_toArray, List.getElem_cons_succ, List.getElem_cons_zero, List.setIfInBounds_toArray, List.set_cons_zero, List.set_cons_succ]
        refine' wpAnyH_take (i := 9) (v := .slice A1 (j - k) c1) rfl (by kernel_rfl) (by kernel_rfl) (by kernel_rfl) (fun _ _ _ h => h) (Or.inl ⟨by rfl, fun w' hw' => by have hv := s1 w'; go_simp⟩) hHeld ?_
        try simp only [Act.put, List.getElem_toArray, List.getElem_cons_succ, List.getElem_cons_zero, List.setIfInBounds_toArray, List.set_cons_zero, List.set_cons_succ]
        refine' wpAnyH_take (i := 11) (v := .slice A j c) rfl (by kernel_rfl) (by kernel_rfl) (by kernel_rfl) (fun _ _ _ h => h) (Or.inl ⟨by rfl, fun w' hw' => by go_simp⟩) hHeld ?_
        try simp only [Act.put, List.getElem_toArray, List.getElem_cons_succ, List.getElem_cons_zero, List.setIfInBounds_toArray, List.set_cons_zero, List.set_cons_succ]
        refine' wpAnyH_take (i := 12) (v := .int .i64 k) rfl (by kernel_rfl) (by kernel_rfl) (by kernel_rfl) (fun _ _ _ h => h) (Or.inl ⟨by rfl, fun w' hw' => by go_simp⟩) hHeld ?_
        try simp only [Act.put, List.getElem_toArray, List.getElem_cons_succ, List.getElem_cons_zero, List.setIfInBounds_toArray, List.set_cons_zero, List.set_cons_succ]
        refine' wpAnyH_take (i := 13) (v := .slice A2 k c2) rfl (by kernel_rfl) (by kernel_rfl) (by kernel_rfl) (fun _ _ _ h => h) (Or.inl ⟨by rfl, fun w' hw' => by have hv := s2 w'; go_simp⟩) hHeld ?_
        try simp only [Act.put, List.getElem_toArray, List.getElem_cons_succ, List.getElem_cons_zero, List.setIfInBounds_toArray, List.set_cons_zero, List.set_cons_succ]
        refine' wpAnyH_take (i := 16) (v := .complex .f64 t1 t2) rfl (by kernel_rfl) (by kernel_rfl) (by kernel_rfl) (fun _ _ _ h => h) (Or.inl ⟨by rfl, fun w' hw' => by go_simp⟩) hHeld ?_
        try simp only [Act.put, List.getElem_toArray, List.getElem_cons_succ, List.getElem_cons_zero, List.setIfInBounds_toArray, List.set_cons_zero, List.set_cons_succ]
        refine wpAnyH_ready (rs := [6]) (by kernel_rfl) (by simp) ?_
        refine AllReadyH.cons rfl (fun K hK => ?_) AllReadyH.nil
        have hown := IdOw.made w5
        have hal := (Below.refl w5.heap.size w5).alloc (Nat.le_refl _) (.cells #[] 23)
        have hs5 := hHeld.size
        go_simp
        refine hK.out _ _ (hHeld.trans (hal.mono hHeld.size)) (fun hHeld => ?_)
        clear hK K hal
        try simp only [Act.put, List.getElem_toArray, List.getElem_cons_succ, List.getElem_cons_zero, List.setIfInBounds_toArray, List.set_cons_zero, List.set_cons_succ]
        refine wpAnyH_ready (rs := [10]) (by kernel_rfl) (by simp) ?_
        refine AllReadyH.cons rfl (fun K hK => ?_) AllReadyH.nil
        refine wp_append_idw _ _ rfl w5.heap.size _ _ _ rfl hown A1 (j - k) c1 (l.drop k) rfl (by rw [List.length_drop, HL.out]) HA1.out (rd4.below hHeld) (by have := HNM.out; omega) (by rw [World.size_alloc]; omega) ?_
        intro v10 w10 hown10 hg10
        have hh10 := hown.grown hg10 hs5 hHeld hHeld.size
        rw [Nat.zero_add, List.nil_append] at hown10
        have hs10 : w5.heap.size ≤ w10.heap.size := by have := hg10.size; rw [World.size_alloc] at this; omega
        refine hK.out _ _ hh10 (fun hHeld => ?_)
        clear hK K hg10 hown
        try simp only [Act.put, List.getElem_toArray, List.getElem_cons_succ, List.getElem_cons_zero, List.setIfInBounds_toArray, List.set_cons_zero, List.set_cons_succ]
        refine wpAnyH_ready (rs := [14]) (by kernel_rfl) (by simp) ?_
        refine AllReadyH.cons rfl (fun K hK => ?_) AllReadyH.nil
        refine wp_append_idw _ _ rfl w5.heap.size _ _ _ rfl hown10 A2 k c2 (l.take k) rfl (by rw [List.length_take, HL.out]; rcases HK.out with h | h <;> omega) HA2.out (rt4.below hHeld) (by have := HNM.out; rcases HK.out with h | h <;> omega) hs10 ?_
        intro v14 w14 hown14 hg14
        have hh14 := hown10.grown hg14 hs5 hHeld hHeld.size
        obtain ⟨A14, c14, rfl, hrow⟩ := hown14.row (fun a ha => H32.out a ((List.mem_append.1 ha).elim List.mem_of_mem_drop List.mem_of_mem_take)) (by have := HNM.out; rcases HK.out with h | h <;> omega)
        refine hK.out _ _ hh14 (fun hHeld => ?_)
        clear hK K hg14 hown14 hown10
        try simp only [Act.put, List.getElem_toArray, List.getElem_cons_succ, List.getElem_cons_zero, List.setIfInBounds_toArray, List.set_cons_zero, List.set_cons_succ]
        refine wpAnyH_ready (rs := [15]) (by kernel_rfl) (by simp) ?_
        refine AllReadyH.cons rfl (fun K hK => ?_) AllReadyH.nil
        go_simp
        (with_reducible refine (cV _ _ _ _ hrow).mono ?_)
        rintro e5 w5 ⟨rfl, hb5⟩
        clear hrow
        refine hK.out _ _ (hHeld.trans (hb5.mono hHeld.size)) (fun hHeld => ?_)
        clear hK K hb5
        try simp only [Act.put, List.getElem_toArray, List.getElem_cons_succ, List.getElem_cons_zero, List.setIfInBounds_toArray, List.set_cons_zero, List.set_cons_succ]
        refine' wpAnyH_take (i := 17) (v := .bool true) rfl (by kernel_rfl) (by kernel_rfl) (by kernel_rfl) (fun _ _ _ h => h) (Or.inl ⟨by rfl, fun w' hw' => by have hv := qT w'; go_simp⟩) hHeld ?_
        try simp only [Act.put, List.getElem_toArray, List.getElem_cons_succ, List.getElem_cons_zero, List.setIfInBounds_toArray, List.set_cons_zero, List.set_cons_succ]
        refine' wpAnyH_take (i := 18) (v := .bool true) rfl (by kernel_rfl) (by kernel_rfl) (by kernel_rfl) (fun _ _ _ h => h) (Or.inl ⟨by rfl, fun w' hw' => by go_simp⟩) hHeld ?_
        try simp only [Act.put, List.getElem_toArray, List.getElem_cons_succ, List.getElem_cons_zero, List.setIfInBounds_toArray, List.set_cons_zero, List.set_cons_succ]
        refine' wpAnyH_take (i := 19) (v := .bool true) rfl (by kernel_rfl) (by kernel_rfl) (by kernel_rfl) (fun _ _ _ h => h) (Or.inl ⟨by rfl, fun w' hw' => by go_simp⟩) hHeld ?_
        try simp only [Act.put, List.getElem_toArray, List.getElem_cons_succ, List.getElem_cons_zero, List.setIfInBounds_toArray, List.set_cons_zero, List.set_cons_succ]
        refine' wpAnyH_take (i := 20) (v := .complex .f64 b1 b2) rfl (by kernel_rfl) (by kernel_rfl) (by kernel_rfl) (fun _ _ _ h => h) (Or.inl ⟨by rfl, fun w' hw' => by go_simp⟩) hHeld ?_
        try simp only [Act.put, List.getElem_toArray, List.getElem_cons_succ, List.getElem_cons_zero, List.setIfInBounds_toArray, List.set_cons_zero, List.set_cons_succ]
        refine' wpAnyH_take (i := 21) (v := .complex .f64 t1 t2) rfl (by kernel_rfl) (by kernel_rfl) (by kernel_rfl) (fun _ _ _ h => h) (Or.inl ⟨by rfl, fun w' hw' => by go_simp⟩) hHeld ?_
        try simp only [Act.put, List.getElem_toArray, List.getElem_cons_succ, List.getElem_cons_zero, List.setIfInBounds_toArray, List.set_cons_zero, List.set_cons_succ]
        refine' wpAnyH_take (i := 22) (v := .slice B m d) rfl (by kernel_rfl) (by kernel_rfl) (by kernel_rfl) (fun _ _ _ h => h) (Or.inl ⟨by rfl, fun w' hw' => by go_simp⟩) hHeld ?_
        try simp only [Act.put, List.getElem_toArray, List.getElem_cons_succ, List.getElem_cons_zero, List.setIfInBounds_toArray, List.set_cons_zero, List.set_cons_succ]
        refine wpAnyH_ready (rs := [23]) (by kernel_rfl) (by simp) ?_
        refine AllReadyH.cons rfl (fun K hK => ?_) AllReadyH.nil
        go_simp
        (with_reducible refine (cU _ (hBr.below hHeld)).mono ?_)
        rintro e5 w5 ⟨rfl, hb5⟩
        refine hK.out _ _ (hHeld.trans (hb5.mono hHeld.size)) (fun hHeld => ?_)
        clear hK K hb5
        try simp only [Act.put, List.getElem_toArray, List.getElem_cons_succ, List.getElem_cons_zero, List.setIfInBounds_toArray, List.set_cons_zero, List.set_cons_succ]
        refine wpAnyH_ready (rs := [24]) (by kernel_rfl) (by simp) ?_
        refine AllReadyH.cons rfl (fun K hK => ?_) AllReadyH.nil
        go_simp
        (with_reducible refine (cM _).mono ?_)
        rintro e5 w5 ⟨rfl, hb5⟩
        refine hK.out _ _ (hHeld.trans (hb5.mono hHeld.size)) (fun hHeld => ?_)
        clear hK K hb5
        try simp only [Act.put, List.getElem_toArray, List.getElem_cons_succ, List.getElem_cons_zero, List.setIfInBounds_toArray, List.set_cons_zero, List.set_cons_succ]
        refine' wpAnyH_take (i := 25) (v := .bool true) rfl (by kernel_rfl) (by kernel_rfl) (by kernel_rfl) (fun _ _ _ h => h) (Or.inl ⟨by rfl, fun w' hw' => by have hv := qB w'; go_simp⟩) hHeld ?_
        try simp only [Act.put, List.getElem_toArray, List.getElem_cons_succ, List.getElem_cons_zero, List.setIfInBounds_toArray, List.set_cons_zero, List.set_cons_succ]
        refine' wpAnyH_take (i := 26) (v := .bool true) rfl (by kernel_rfl) (by kernel_rfl) (by kernel_rfl) (fun _ _ _ h => h) (Or.inl ⟨by rfl, fun w' hw' => by go_simp⟩) hHeld ?_
        try simp only [Act.put, List.getElem_toArray, List.getElem_cons_succ, List.getElem_cons_zero, List.setIfInBounds_toArray, List.set_cons_zero, List.set_cons_succ]
        refine' wpAnyH_take (i := 27) (v := .bool true) rfl (by kernel_rfl) (by kernel_rfl) (by kernel_rfl) (fun _ _ _ h => h) (Or.inl ⟨by rfl, fun w' hw' => by go_simp⟩) hHeld ?_
        try simp only [Act.put, List.getElem_toArray, List.getElem_cons_succ, List.getElem_cons_zero, List.setIfInBounds_toArray, List.set_cons_zero, List.set_cons_succ]
        refine wpAnyH_ready (rs := [28]) (by kernel_rfl) (by simp) ?_
        refine AllReadyH.cons rfl (fun K hK => ?_) AllReadyH.nil
        go_simp
        (with_reducible refine (aw _).mono ?_)
        rintro e5 w5 ⟨rfl, hb5⟩
        refine hK.out _ _ (hHeld.trans (hb5.mono hHeld.size)) (fun hHeld => ?_)
        clear hK K hb5
        try simp only [Act.put, List.getElem_toArray, List.getElem_cons_succ, List.getElem_cons_zero, List.setIfInBounds_toArray, List.set_cons_zero, List.set_cons_succ]
        refine' wpAnyH_take (i := 29) (v := .bool true) rfl (by kernel_rfl) (by kernel_rfl) (by kernel_rfl) (fun _ _ _ h => h) (Or.inl ⟨by rfl, fun w' hw' => by go_simp⟩) hHeld ?_
        try simp only [Act.put, List.getElem_toArray, List.getElem_cons_succ, List.getElem_cons_zero, List.setIfInBounds_toArray, List.set_cons_zero, List.set_cons_succ]
        refine' wpAnyH_take (i := 30) (v := .bool true) rfl (by kernel_rfl) (by kernel_rfl) (by kernel_rfl) (fun _ _ _ h => h) (Or.inl ⟨by rfl, fun w' hw' => by go_simp⟩) hHeld ?_
        try simp only [Act.put, List.getElem_toArray, List.getElem_cons_succ, List.getElem_cons_zero, List.setIfInBounds_toArray, List.set_cons_zero, List.set_cons_succ]
        refine wpAnyH_done (by kernel_rfl) ?_ _
        go_wp2
        go_ret
        exact ⟨rfl, hb.trans (hHeld.mono hb.size)⟩
  · have s1' : ∀ W, (Instr.sliceAt 48 (.slice A n c) (some (.int .i64 0)) none none).run Try.prog W = .ok (.slice A1 (n - 0) c1) W := s1
    have s2' : ∀ W, (Instr.sliceAt 48 (.slice A n c) none (some (.int .i64 0)) none).run Try.prog W = .ok (.slice A2 0 c2) W := s2
    clear s1 s2
    go_wp2_with (first
      | (go_at_call 55; (with_reducible refine (cT _ (HA.out.below bel0)).mono ?_); (rintro e1 w1 ⟨rfl, hb1⟩; have hown := IdOw.made w1; have hs1 := hb1.size; have bel1 := (bel0.trans (hb1.mono bel0.size)).alloc hs1 (.cells #[] 23); have rA := HA.out.below bel1; clear bel0))
      | (at_builtin; refine wpList_append_idw rfl _ _ rfl w1.heap.size _ _ _ rfl hown A n c l rfl HL.out HRA2.out rA.2.2 (by have := HNM.out; omega) (by rw [World.size_alloc]; omega) ?_; intro v2 w2 hown2 hg2; have bel2 := hown.grown hg2 hs1 bel1 bel1.size; rw [Nat.zero_add, List.nil_append] at hown2; have hs2 := hg2.size; rw [World.size_alloc] at hs2; have rB := HB.out.below bel2; clear hown hg2 bel1 rA)
      | (at_builtin; refine wpList_append_idw rfl _ _ rfl w1.heap.size _ _ _ rfl hown2 B m d r rfl HR.out HRB2.out rB.2.2 (by have := HNM.out; omega) (by omega) ?_; intro v3 w3 hown3 hg3; have bel3 := hown2.grown hg3 hs1 bel2 bel2.size; obtain ⟨A3, c3, rfl, hrow⟩ := hown3.row (fun a ha => (List.mem_append.1 ha).elim (H32.out a) (R32.out a)) (by have := HNM.out; omega); clear hown2 hg3 bel2 rB hown3)
      | (go_at_call 55; (with_reducible refine (cB _ _ _ _ hrow).mono ?_); rintro e4 w4 ⟨rfl, hb4⟩; have bel4 := bel3.trans (hb4.mono bel3.size); clear bel3 hrow hb4))
    clear cB
    have bel5 := hid bel4
    clear bel4
    go_loopw [39] (fun i wr => ∃ j : Nat, j ≤ n ∧ i = .int .i64 j ∧ Below w.heap.size w wr) (fun i _ => n - (intOf i).toNat)
    case atStart => exact ⟨0, by omega, rfl, bel5.out⟩
    case round =>
      clear bel5
      obtain ⟨j, hj, rfl, hb⟩ := hrel
      by_cases hlt : j < n
      · obtain ⟨x, hx⟩ : ∃ x, l[j]? = some x := ⟨_, List.getElem?_eq_getElem (by have := HL.out; omega)⟩
        obtain ⟨g, q, hg, lx, hix⟩ := HA.out.2.2.pick c HL.out hx
        have zj : (j : Int) < n := by omega
        have fx := hg.below hb
        have hzx : (Try.prog.info? 23).map (·.size) = some (x.map u8v).length := by rw [List.length_map, lx]; exact sizeId
        obtain ⟨xp, xq, x1, x2, lz⟩ := LetZ.mk_ (idZ x)
        have o1 : ∀ W, Calls Try.prog 56 #[.agg (List.map u8v x).toArray] W fun e w' => e = .returned (.complex .f64 x1 x2) ∧ Below W.heap.size W w' := fun W => by
          have := gof_any x lx W
          rwa [lz.cz] at this
        have o2 : ∀ W, Calls Try.prog 57 #[.agg (List.map u8v x).toArray] W fun e w' => e = .returned (.agg #[.int .i64 xp, .int .i64 xq]) ∧ Below W.heap.size W w' := fun W => by
          have := rof22_any x lx W
          rwa [lz.pz] at this
        have o3 := lz.number
        have qn := lz.neq (idZ_res x)
        have HLT := hid hlt
        have HLX := hid lx
        clear hx hlt hg lx lz
        go_wp2_with (first
          | (with_reducible refine wpList_load_if (by with_unfolding_all rfl) 23 _ rfl _ _ rfl (x.map u8v) _ fx hu rfl hzx ?_)
          | ((with_reducible refine wpList_store_newid rfl _ _ rfl x HLX.out rfl rfl rfl ?_); intro w2 hr2 hb2))
        have hbb := hb.trans (hb2.mono hb.size)
        have f2 := range_later hr2
        refine wp_region_later mixedZ (by kernel_rfl) ?_
        repeat (first
          | ((with_reducible refine wpQuiet_load_if (by with_unfolding_all rfl) 23 _ rfl _ _ rfl (x.map u8v) _ f2 hu (by with_unfolding_all rfl) hzx ?_); simp only [Act.put, List.setIfInBounds_toArray, List.set_cons_zero, List.set_cons_succ])
          | ((with_reducible refine wpQuiet_step (fun K hK => ?_)); go_simp; first | ((with_reducible refine hK _ ?_); clear hK K) | (with_reducible apply Exists.intro; (with_reducible refine ⟨fun P => ?_, hK _ ?_⟩); (first | (go_at_call 56; with_reducible exact later_of (o1 P.w)) | (go_at_call 57; with_reducible exact later_of (o2 P.w)) | (go_at_call 41; with_reducible exact later_of (o3 P.w))); clear hK K)))
        with_reducible refine wpQuiet_nil ?_
        intro _ hw9
        obtain ⟨P9, rfl⟩ := hw9
        have hb9 := hid (hbb.trans (P9.h.mono hbb.size))
        generalize P9.w = w8 at *
        clear hb hb2 hbb f2 fx hr2
        go_wp2
        go_roundw
        case rel => exact ⟨j + 1, HLT.out, by go_num, hb9.out⟩
        case measure => exact meas_z HLT.out
      · obtain rfl : j = n := by omega
        have zj : ¬ (j : Int) < j := by omega
        go_upto_region 14 with (fail)
        generalize hW4 : wr = W4 at *
        have hAr := HA.out.below hb
        have hBr := HB.out.below hb
        have rd4 := HD.out.below hb
        have rt4 := HT.out.below hb
        refine wp_region_held_drew (S := fun W => Below W4.heap.size W4 W) (by kernel_rfl) ?_ (fun hHeld => ?_)
        · exact below_drewZ (Below.refl _ _)
        refine' wpAnyH_take (i := 0) (v := .complex .f64 t1 t2) rfl (by kernel_rfl) (by kernel_rfl) (by kernel_rfl) (fun _ _ _ h => h) (Or.inl ⟨by rfl, fun w' hw' => by go_simp⟩) hHeld ?_
        try simp only [Act.put, List.getElem_toArray, List.getElem_cons_succ, List.getElem_cons_zero, List.setIfInBounds_toArray, List.set_cons_zero, List.set_cons_succ]
        refine' wpAnyH_take (i := 1) (v := .slice A j c) rfl (by kernel_rfl) (by kernel_rfl) (by kernel_rfl) (fun _ _ _ h => h) (Or.inl ⟨by rfl, fun w' hw' => by go_simp⟩) hHeld ?_
        try simp only [Act.put, List.getElem_toArray, List.getElem_cons_succ, List.getElem_cons_zero, List.setIfInBounds_toArray, List.set_cons_zero, List.set_cons_succ]
        refine wpAnyH_ready (rs := [2]) (by kernel_rfl) (by simp) ?_
        refine AllReadyH.cons rfl (fun K hK => ?_) AllReadyH.nil
        go_simp
        (with_reducible refine (cRT _ (hAr.below hHeld)).mono ?_)
        rintro e5 w5 ⟨rfl, hb5⟩
        refine hK.out _ _ (hHeld.trans (hb5.mono hHeld.size)) (fun hHeld => ?_)
        clear hK K hb5
        try simp only [Act.put, List.getElem_toArray, List.getElem_cons_succ, List.getElem_cons_zero, List.setIfInBounds_toArray, List.set_cons_zero, List.set_cons_succ]
        refine wpAnyH_ready (rs := [3]) (by kernel_rfl) (by simp) ?_
        refine AllReadyH.cons rfl (fun K hK => ?_) AllReadyH.nil
        go_simp
        (with_reducible refine (nT _).mono ?_)
        rintro e5 w5 ⟨rfl, hb5⟩
        refine hK.out _ _ (hHeld.trans (hb5.mono hHeld.size)) (fun hHeld => ?_)
        clear hK K hb5
        try simp only [Act.put, List.getElem_toArray, List.getElem_cons_succ, List.getElem_cons_zero, List.setIfInBounds_toArray, List.set_cons_zero, List.set_cons_succ]
        refine' wpAnyH_take (i := 4) (v := .bool true) rfl (by kernel_rfl) (by kernel_rfl) (by kernel_rfl) (fun _ _ _ h => h) (Or.inl ⟨by rfl, fun w' hw' => by have hv := qT w'; go_simp⟩) hHeld ?_
        try simp only [Act.put, List.getElem_toArray, List.getElem_cons_succ, List.getElem_cons_zero, List.setIfInBounds_toArray, List.set_cons_zero, List.set_cons_succ]
        refine' wpAnyH_take (i := 5) (v := .bool true) rfl (by kernel_rfl) (by kernel_rfl) (by kernel_rfl) (fun _ _ _ h => h) (Or.inl ⟨by rfl, fun w' hw' => by go_simp⟩) hHeld ?_
        try simp only [Act.put, List.getElem_toArray, List.getElem_cons_succ, List.getElem_cons_zero, List.setIfInBounds_toArray, List.set_cons_zero, List.set_cons_succ]
        refine' wpAnyH_take (i := 7) (v := .slice A j c) rfl (by kernel_rfl) (by kernel_rfl) (by kernel_rfl) (fun _ _ _ h => h) (Or.inl ⟨by rfl, fun w' hw' => by go_simp⟩) hHeld ?_
        try simp only [Act.put, List.getElem_toArray, List.getElem_cons_succ, List.getElem_cons_zero, List.setIfInBounds_toArray, List.set_cons_zero, List.set_cons_succ]
        refine' wpAnyH_take (i := 8) (v := .int .i64 0) rfl (by kernel_rfl) (by kernel_rfl) (by kernel_rfl) (fun _ _ _ h => h) (Or.inl ⟨by rfl, fun w' hw' => by go_simp⟩) hHeld ?_
        try simp only [Act.put, List.getElem_toArray, List.getElem_cons_succ, List.getElem_cons_zero, List.setIfInBounds_toArray, List.set_cons_zero, List.set_cons_succ]
        refine' wpAnyH_take (i := 9) (v := .slice A1 (j - 0) c1) rfl (by kernel_rfl) (by kernel_rfl) (by kernel_rfl) (fun _ _ _ h => h) (Or.inl ⟨by rfl, fun w' hw' => by have hv := s1' w'; go_simp⟩) hHeld ?_
        try simp only [Act.put, List.getElem_toArray, List.getElem_cons_succ, List.getElem_cons_zero, List.setIfInBounds_toArray, List.set_cons_zero, List.set_cons_succ]
        refine' wpAnyH_take (i := 11) (v := .slice A j c) rfl (by kernel_rfl) (by kernel_rfl) (by kernel_rfl) (fun _ _ _ h => h) (Or.inl ⟨by rfl, fun w' hw' => by go_simp⟩) hHeld ?_
        try simp only [Act.put, List.getElem_toArray, List.getElem_cons_succ, List.getElem_cons_zero, List.setIfInBounds_toArray, List.set_cons_zero, List.set_cons_succ]
        refine' wpAnyH_take (i := 12) (v := .int .i64 0) rfl (by kernel_rfl) (by kernel_rfl) (by kernel_rfl) (fun _ _ _ h => h) (Or.inl ⟨by rfl, fun w' hw' => by go_simp⟩) hHeld ?_
        try simp only [Act.put, List.getElem_toArray, List.getElem_cons_succ, List.getElem_cons_zero, List.setIfInBounds_toArray, List.set_cons_zero, List.set_cons_succ]
        refine' wpAnyH_take (i := 13) (v := .slice A2 0 c2) rfl (by kernel_rfl) (by kernel_rfl) (by kernel_rfl) (fun _ _ _ h => h) (Or.inl ⟨by rfl, fun w' hw' => by have hv := s2' w'; go_simp⟩) hHeld ?_
        try simp only [Act.put, List.getElem_toArray, List.getElem_cons_succ, List.getElem_cons_zero, List.setIfInBounds_toArray, List.set_cons_zero, List.set_cons_succ]
        refine' wpAnyH_take (i := 16) (v := .complex .f64 t1 t2) rfl (by kernel_rfl) (by kernel_rfl) (by kernel_rfl) (fun _ _ _ h => h) (Or.inl ⟨by rfl, fun w' hw' => by go_simp⟩) hHeld ?_
        try simp only [Act.put, List.getElem_toArray, List.getElem_cons_succ, List.getElem_cons_zero, List.setIfInBounds_toArray, List.set_cons_zero, List.set_cons_succ]
        refine wpAnyH_ready (rs := [6]) (by kernel_rfl) (by simp) ?_
        refine AllReadyH.cons rfl (fun K hK => ?_) AllReadyH.nil
        have hown := IdOw.made w5
        have hal := (Below.refl w5.heap.size w5).alloc (Nat.le_refl _) (.cells #[] 23)
        have hs5 := hHeld.size
        go_simp
        refine hK.out _ _ (hHeld.trans (hal.mono hHeld.size)) (fun hHeld => ?_)
        clear hK K hal
        try simp only [Act.put, List.getElem_toArray, List.getElem_cons_succ, List.getElem_cons_zero, List.setIfInBounds_toArray, List.set_cons_zero, List.set_cons_succ]
        refine wpAnyH_ready (rs := [10]) (by kernel_rfl) (by simp) ?_
        refine AllReadyH.cons rfl (fun K hK => ?_) AllReadyH.nil
        refine wp_append_idw _ _ rfl w5.heap.size _ _ _ rfl hown A1 (j - 0) c1 (l.drop 0) rfl (by rw [List.length_drop, HL.out]) HA1.out (rd4.below hHeld) (by have := HNM.out; omega) (by rw [World.size_alloc]; omega) ?_
        intro v10 w10 hown10 hg10
        have hh10 := hown.grown hg10 hs5 hHeld hHeld.size
        rw [Nat.zero_add, List.nil_append, Nat.sub_zero] at hown10
        have hs10 : w5.heap.size ≤ w10.heap.size := by have := hg10.size; rw [World.size_alloc] at this; omega
        refine hK.out _ _ hh10 (fun hHeld => ?_)
        clear hK K hg10 hown
        try simp only [Act.put, List.getElem_toArray, List.getElem_cons_succ, List.getElem_cons_zero, List.setIfInBounds_toArray, List.set_cons_zero, List.set_cons_succ]
        refine wpAnyH_ready (rs := [14]) (by kernel_rfl) (by simp) ?_
        refine AllReadyH.cons rfl (fun K hK => ?_) AllReadyH.nil
        refine wp_append_idw _ _ rfl w5.heap.size _ _ _ rfl hown10 A2 0 c2 (l.take 0) rfl (by rw [List.length_take, HL.out]; rcases HK.out with h | h <;> omega) (fun h => ⟨rfl, (HA2.out h).2⟩) (rt4.below hHeld) (by have := HNM.out; rcases HK.out with h | h <;> omega) hs10 ?_
        intro v14 w14 hown14 hg14
        have hh14 := hown10.grown hg14 hs5 hHeld hHeld.size
        rw [Nat.add_zero] at hown14; obtain ⟨A14, c14, rfl, hrow⟩ := hown14.row (fun a ha => H32.out a ((List.mem_append.1 ha).elim List.mem_of_mem_drop List.mem_of_mem_take)) (by have := HNM.out; rcases HK.out with h | h <;> omega)
        refine hK.out _ _ hh14 (fun hHeld => ?_)
        clear hK K hg14 hown14 hown10
        try simp only [Act.put, List.getElem_toArray, List.getElem_cons_succ, List.getElem_cons_zero, List.setIfInBounds_toArray, List.set_cons_zero, List.set_cons_succ]
        refine wpAnyH_ready (rs := [15]) (by kernel_rfl) (by simp) ?_
        refine AllReadyH.cons rfl (fun K hK => ?_) AllReadyH.nil
        go_simp
        (with_reducible refine (cV _ _ _ _ hrow).mono ?_)
        rintro e5 w5 ⟨rfl, hb5⟩
        clear hrow
        refine hK.out _ _ (hHeld.trans (hb5.mono hHeld.size)) (fun hHeld => ?_)
        clear hK K hb5
        try simp only [Act.put, List.getElem_toArray, List.getElem_cons_succ, List.getElem_cons_zero, List.setIfInBounds_toArray, List.set_cons_zero, List.set_cons_succ]
        refine' wpAnyH_take (i := 17) (v := .bool true) rfl (by kernel_rfl) (by kernel_rfl) (by kernel_rfl) (fun _ _ _ h => h) (Or.inl ⟨by rfl, fun w' hw' => by have hv := qT w'; go_simp⟩) hHeld ?_
        try simp only [Act.put, List.getElem_toArray, List.getElem_cons_succ, List.getElem_cons_zero, List.setIfInBounds_toArray, List.set_cons_zero, List.set_cons_succ]
        refine' wpAnyH_take (i := 18) (v := .bool true) rfl (by kernel_rfl) (by kernel_rfl) (by kernel_rfl) (fun _ _ _ h => h) (Or.inl ⟨by rfl, fun w' hw' => by go_simp⟩) hHeld ?_
        try simp only [Act.put, List.getElem_toArray, List.getElem_cons_succ, List.getElem_cons_zero, List.setIfInBounds_toArray, List.set_cons_zero, List.set_cons_succ]
        refine' wpAnyH_take (i := 19) (v := .bool true) rfl (by kernel_rfl) (by kernel_rfl) (by kernel_rfl) (fun _ _ _ h => h) (Or.inl ⟨by rfl, fun w' hw' => by go_simp⟩) hHeld ?_
        try simp only [Act.put, List.getElem_toArray, List.getElem_cons_succ, List.getElem_cons_zero, List.setIfInBounds_toArray, List.set_cons_zero, List.set_cons_succ]
        refine' wpAnyH_take (i := 20) (v := .complex .f64 b1 b2) rfl (by kernel_rfl) (by kernel_rfl) (by kernel_rfl) (fun _ _ _ h => h) (Or.inl ⟨by rfl, fun w' hw' => by go_simp⟩) hHeld ?_
        try simp only [Act.put, List.getElem_toArray, List.getElem_cons_succ, List.getElem_cons_zero, List.setIfInBounds_toArray, List.set_cons_zero, List.set_cons_succ]
        refine' wpAnyH_take (i := 21) (v := .complex .f64 t1 t2) rfl (by kernel_rfl) (by kernel_rfl) (by kernel_rfl) (fun _ _ _ h => h) (Or.inl ⟨by rfl, fun w' hw' => by go_simp⟩) hHeld ?_
        try simp only [Act.put, List.getElem_toArray, List.getElem_cons_succ, List.getElem_cons_zero, List.setIfInBounds_toArray, List.set_cons_zero, List.set_cons_succ]
        refine' wpAnyH_take (i := 22) (v := .slice B m d) rfl (by kernel_rfl) (by kernel_rfl) (by kernel_rfl) (fun _ _ _ h => h) (Or.inl ⟨by rfl, fun w' hw' => by go_simp⟩) hHeld ?_
        try simp only [Act.put, List.getElem_toArray, List.getElem_cons_succ, List.getElem_cons_zero, List.setIfInBounds_toArray, List.set_cons_zero, List.set_cons_succ]
        refine wpAnyH_ready (rs := [23]) (by kernel_rfl) (by simp) ?_
        refine AllReadyH.cons rfl (fun K hK => ?_) AllReadyH.nil
        go_simp
        (with_reducible refine (cU _ (hBr.below hHeld)).mono ?_)
        rintro e5 w5 ⟨rfl, hb5⟩
        refine hK.out _ _ (hHeld.trans (hb5.mono hHeld.size)) (fun hHeld => ?_)
        clear hK K hb5
        try simp only [Act.put, List.getElem_toArray, List.getElem_cons_succ, List.getElem_cons_zero, List.setIfInBounds_toArray, List.set_cons_zero, List.set_cons_succ]
        refine wpAnyH_ready (rs := [24]) (by kernel_rfl) (by simp) ?_
        refine AllReadyH.cons rfl (fun K hK => ?_) AllReadyH.nil
        go_simp
        (with_reducible refine (cM _).mono ?_)
        rintro e5 w5 ⟨rfl, hb5⟩
        refine hK.out _ _ (hHeld.trans (hb5.mono hHeld.size)) (fun hHeld => ?_)
        clear hK K hb5
        try simp only [Act.put, List.getElem_toArray, List.getElem_cons_succ, List.getElem_cons_zero, List.setIfInBounds_toArray, List.set_cons_zero, List.set_cons_succ]
        refine' wpAnyH_take (i := 25) (v := .bool true) rfl (by kernel_rfl) (by kernel_rfl) (by kernel_rfl) (fun _ _ _ h => h) (Or.inl ⟨by rfl, fun w' hw' => by have hv := qB w'; go_simp⟩) hHeld ?_
        try simp only [Act.put, List.getElem_toArray, List.getElem_cons_succ, List.getElem_cons_zero, List.setIfInBounds_toArray, List.set_cons_zero, List.set_cons_succ]
        refine' wpAnyH_take (i := 26) (v := .bool true) rfl (by kernel_rfl) (by kernel_rfl) (by kernel_rfl) (fun _ _ _ h => h) (Or.inl ⟨by rfl, fun w' hw' => by go_simp⟩) hHeld ?_
        try simp only [Act.put, List.getElem_toArray, List.getElem_cons_succ, List.getElem_cons_zero, List.setIfInBounds_toArray, List.set_cons_zero, List.set_cons_succ]
        refine' wpAnyH_take (i := 27) (v := .bool true) rfl (by kernel_rfl) (by kernel_rfl) (by kernel_rfl) (fun _ _ _ h => h) (Or.inl ⟨by rfl, fun w' hw' => by go_simp⟩) hHeld ?_
        try simp only [Act.put, List.getElem_toArray, List.getElem_cons_succ, List.getElem_cons_zero, List.setIfInBounds_toArray, List.set_cons_zero, List.set_cons_succ]
        refine wpAnyH_ready (rs := [28]) (by kernel_rfl) (by simp) ?_
        refine AllReadyH.cons rfl (fun K hK => ?_) AllReadyH.nil
        go_simp
        (with_reducible refine (aw _).mono ?_)
        rintro e5 w5 ⟨rfl, hb5⟩
        refine hK.out _ _ (hHeld.trans (hb5.mono hHeld.size)) (fun hHeld => ?_)
        clear hK K hb5
        try simp only [Act.put, List.getElem_toArray, List.getElem_cons_succ, List.getElem_cons_zero, List.setIfInBounds_toArray, List.set_cons_zero, List.set_cons_succ]
        refine' wpAnyH_take (i := 29) (v := .bool true) rfl (by kernel_rfl) (by kernel_rfl) (by kernel_rfl) (fun _ _ _ h => h) (Or.inl ⟨by rfl, fun w' hw' => by go_simp⟩) hHeld ?_
        try simp only [Act.put, List.getElem_toArray, List.getElem_cons_succ, List.getElem_cons_zero, List.setIfInBounds_toArray, List.set_cons_zero, List.set_cons_succ]
        refine' wpAnyH_take (i := 30) (v := .bool true) rfl (by kernel_rfl) (by kernel_rfl) (by kernel_rfl) (fun _ _ _ h => h) (Or.inl ⟨by rfl, fun w' hw' => by go_simp⟩) hHeld ?_
        try simp only [Act.put, List.getElem_toArray, List.getElem_cons_succ, List.getElem_cons_zero, List.setIfInBounds_toArray, List.set_cons_zero, List.set_cons_succ]
        refine wpAnyH_done (by kernel_rfl) ?_ _
        go_wp2
        go_ret
        exact ⟨rfl, hb.trans (hHeld.mono hb.size)⟩

theorem open_capZ {H : Type} {enc : TypeId × Value → H} {P : Program} {w : World} {base : Nat} {sp : Nat → Bool} {hd : Bool} {t e : TypeId} {a : Option Addr} {len cap : Nat} {d : DataW H} {ps : List MemPlace} (ht : P.underlying t = some (.slice e))
    (h : DataW.Trod enc P w base sp hd t (.slice a len cap) d ps) : (a = none ∧ len = 0 ∧ cap = 0) ∨ ((∃ x, a = some x) ∧ len ≤ cap ∧ cap ≤ maxLen) := by
  obtain ⟨fuel, hf⟩ := h
  cases fuel with
  | zero => simp [DataW.trod] at hf
  | succ m =>
    rw [DataW.trod_step] at hf
    unfold DataW.trodStep at hf
    simp only [ht, Value.cells] at hf
    cases a with
    | none =>
      left
      rcases len with _ | len <;> rcases cap with _ | cap <;> first | exact ⟨rfl, rfl, rfl⟩ | (simp at hf)
    | some a =>
      right
      dsimp only at hf
      split at hf
      · rename_i hcond
        exact ⟨⟨a, rfl⟩, hcond.2.1, hcond.2.2⟩
      · cases hf
theorem law_GaussTallies (w : World) (a0 : Option Addr) (l0 c0 : Nat) (z0 : List (List UInt8)) (w0 : IdRow w a0 l0 z0) (a1 : Option Addr) (l1 c1 : Nat) (z1 : List (List UInt8)) (w1 : IdRow w a1 l1 z1) (a2 : Int) (w2 : (Lit.int .u8 a2).wf = true)
    (x0 : (a0 = none ∧ l0 = 0 ∧ c0 = 0) ∨ ((∃ x, a0 = some x) ∧ l0 ≤ c0 ∧ c0 ≤ maxLen)) (x1 : (a1 = none ∧ l1 = 0 ∧ c1 = 0) ∨ ((∃ x, a1 = some x) ∧ l1 ≤ c1 ∧ c1 ≤ maxLen)) :
    Calls Try.prog 10 #[.slice a0 l0 c0, .slice a1 l1 c1, .int .u8 a2] w fun e w' => e = .returned (.bool true) ∧ Below w.heap.size w w' := by
  obtain ⟨b, rfl, hb⟩ := wf_u8 w2
  have m0 : l0 ≤ maxLen := w0.2.1
  have m1 : l1 ≤ maxLen := w1.2.1
  unfold maxLen at m0 m1
  by_cases h : 60 < l0 ∨ 60 < l1
  · exact tallies_far a0 a1 l0 c0 l1 c1 b w h (by omega) (by omega)
  · exact tallies_near a0 a1 l0 c0 l1 c1 z0 z1 b hb w (by omega) (by omega) ⟨⟨w0.1, by omega, w0.2.2⟩, x0⟩ ⟨⟨w1.1, by omega, w1.2.2⟩, x1⟩

open Go.ChangeShapes Go.WideShapes Go.ChangeAt
open Go.ChangeMaps (open_string shut_string)
theorem own_GaussTallies : ownKnob Try.prog.godebug = none := by kernel_rfl
theorem laidOut_GaussTallies : laidOutB Try.prog = true := by kernel_rfl
set_option linter.unusedVariables false in
set_option maxRecDepth 100000 in
theorem lifted_GaussTallies (os : Os) (started : os.Started) (H : Type) (enc : TypeId × Value → H) :
    ReturnsInHanded {} Try.checked os 10 .any (Rows.gaussTalliesSpec.pre6 enc Try.prog Try.f10 Rows.gaussTalliesRow.domain false) (Rows.gaussTalliesSpec.post enc Try.prog Try.f10 false true false false) := by
  refine returnsInHanded_of_change (C := Try.checked) own_GaussTallies started (by kernel_rfl) Try.func10
    (ChangeSpec.witness6 (enc := enc) (C := Try.checked) false ⟨#[], #[.slice none 0 0, .slice none 0 0, .int .u8 0], []⟩ 8 (by kernel_rfl) (by kernel_rfl) (by kernel_rfl) (by kernel_rfl)) ?_
  intro W base args ds gs before hval0 hW hcnd _
  have hval : ∀ (j : Nat) t v, Try.f10.params[j]? = some t → args[j]? = some v → Value.okWide Try.prog W .any base t v := hval0
  have hW' := hW
  obtain ⟨p, q, hA0, hV, rfl, hfz, hnd⟩ := hW
  have hA1 : DataW.TrodAll enc Try.prog W 0 (fun _ => true) true Try.f10.params.toList args.toList ds p := hA0
  have hA : DataW.TrodAll enc Try.prog W 0 (fun _ => true) true Try.f10.params.toList args.toList ds p := hA0
  rw [Try.params10] at hA hval
  obtain ⟨v0, vs0, d0, ds0, p0, q0, hargs, rfl, rfl, h0, r0⟩ := trodAll_cons hA
  obtain ⟨v1, vs1, d1, ds1, p1, q1, rfl, rfl, rfl, h1, r1⟩ := trodAll_cons r0
  obtain ⟨v2, vs2, d2, ds2, p2, q2, rfl, rfl, rfl, h2, r2⟩ := trodAll_cons r1
  obtain ⟨rfl, rfl, rfl⟩ := trodAll_nil r2
  obtain rfl : args = #[v0, v1, v2] := by cases args; simp_all
  obtain ⟨rfl, rfl⟩ := trodVars_none hV
  obtain ⟨a0, l0, c0, z0, rfl, w0⟩ := open_idRow Try.underlying48 Try.underlying23 Try.underlying5 (by kernel_rfl) (by kernel_rfl) (hval 0 48 v0 rfl rfl) h0
  obtain ⟨a1, l1, c1, z1, rfl, w1⟩ := open_idRow Try.underlying48 Try.underlying23 Try.underlying5 (by kernel_rfl) (by kernel_rfl) (hval 1 48 v1 rfl rfl) h1
  obtain ⟨a2, rfl, rfl, rfl, w2⟩ := open_int Try.underlying5 (hval 2 5 v2 rfl rfl) h2
  have x0 := open_capZ Try.underlying48 h0
  have x1 := open_capZ Try.underlying48 h1
  clear hA0 hval0
  refine (law_GaussTallies W a0 l0 c0 z0 w0 a1 l1 c1 z1 w1 a2 w2 x0 x1).mono fun e W' ⟨he, bel⟩ => ?_
  subst he
  exact ⟨_, rfl, _, _, _, [], _, [], hW', trodAll_mk1 (shut_bool Try.underlying4 _), trodAll_stays laidOut_GaussTallies bel (by kernel_rfl) hA1, rfl, bel.frame _, fun h => by cases h⟩

/-- The statement. -/
theorem GaussTallies_holds : Rows.GaussTalliesSaid :=
  OpenClaim.holds_of_wide 10 Try.f10 rfl rfl rfl rfl rfl rfl rfl ⟨rfl, rfl, rfl, rfl, rfl⟩ rfl rfl rfl rfl rfl (by kernel_rfl) Try.func10 (by kernel_rfl)
    (of_decide_eq_true (by kernel_rfl)) (by unfold Func.isWrapper; first | (rw [if_pos (by decide +kernel)]; kernel_rfl) | (rw [if_neg (by decide +kernel)]; exact ⟨rfl, rfl⟩))
    (fun os started H enc _ => lifted_GaussTallies os started H enc)
#print axioms GaussTallies_holds

end Go.Proofs.Ytdkeobpmenaljaa

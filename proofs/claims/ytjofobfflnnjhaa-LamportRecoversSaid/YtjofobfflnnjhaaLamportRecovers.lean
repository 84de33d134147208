
/- Proved: for every sum and two rows, quitclaimlaw06.LamportRecovers returns true and leaves its arguments as they were. No conditions. -/
import Derived.Test.YtjofobfflnnjhaaLam9
namespace Go.Proofs.Ytjofobfflnnjhaa
open Go.RowKit Go.Qc
attribute [local go_sem] txt_size

structure RecS (w : World) (A B : Option Addr) (n : Nat) (l r : List (List UInt8)) (A2 : Option Addr) (L : List (List UInt8)) (w' : World) : Prop where
  a : RowR w' A n l
  b : RowR w' B n r
  l : RowR w' A2 (2 * n) L
  h : Below w.heap.size w w'
theorem RecS.below {w : World} {A B : Option Addr} {n : Nat} {l r : List (List UInt8)} {A2 : Option Addr} {L : List (List UInt8)} {W W' : World} (h : RecS w A B n l r A2 L W) (hb : Below W.heap.size W W') : RecS w A B n l r A2 L W' := ⟨h.a.below hb, h.b.below hb, h.l.below hb, h.h.trans (hb.mono h.h.size)⟩
set_option maxRecDepth 100000 in
set_option maxHeartbeats 40000000 in
set_option linter.unusedSimpArgs false in
theorem lamRecovers_any (m : List UInt8) (hm : m.length = 32) (A B : Option Addr) (n c k d : Nat) (l r : List (List UInt8)) (w : World) (hA0 : IdRow w A n l) (hB0 : IdRow w B k r) :
    Calls Try.prog 10 #[.agg (idVals m), .slice A n c, .slice B k d] w fun e w' => e = .returned (.bool true) ∧ Below w.heap.size w w' := by
  obtain ⟨hln, hn9, hrl⟩ := hA0
  obtain ⟨hrn, hk9, hrr⟩ := hB0
  unfold maxLen at hn9 hk9
  have hu := Try.underlying23
  have hI : (w.alloc (.cells (idVals m) 23)).rangeAt w.heap.size 0 (m.map u8v) := range_blk (Blk.new w 23 (idVals m))
  have hB : Below w.heap.size w (w.alloc (.cells (idVals m) 23)) := (Below.refl _ _).alloc (Nat.le_refl _) _
  have hzm : (Try.prog.info? 23).map (·.size) = some (m.map u8v).length := by rw [List.length_map, hm]; exact sizeId
  have c7 : ∀ W : World, Calls Try.prog 53 #[] W fun e w' => e = .returned (.bool true) ∧ W = w' := awake6_any
  have HM := hid hm
  clear hm
  by_cases h40 : n ≤ 40 ∧ k ≤ 40
  · obtain ⟨hn4, hk4⟩ := h40
    have l1 : ¬ (40 : Int) < n := by omega
    have l2 : ¬ (40 : Int) < k := by omega
    have hRA : RowR w A n l := ⟨hln, by omega, hrl⟩
    have hRB : RowR w B k r := ⟨hrn, by omega, hrr⟩
    obtain ⟨q, hq⟩ : ∃ q, q = rgt n := ⟨_, rfl⟩
    have cR : ∀ W : World, Calls Try.prog 59 #[.int .i64 n] W fun e w' => e = .returned (.bool q) ∧ W = w' := fun W => by rw [hq]; exact rright_any n W
    by_cases hok : n = k ∧ q = true
    · obtain ⟨rfl, rfl⟩ := hok
      have hrg : rgt n = true := hq.symm
      have z1 : ((n : Int) != (n : Int)) = false := by simp
      have hn256 : n ≤ 256 := by omega
      have h32 := sideL_32 (pubF m l r) (pubF_length m l r hRB.2.2.1) n
      have cP : ∀ W : World, Below w.heap.size w W → Calls Try.prog 65 #[.agg (List.map u8v m).toArray, .slice A n c, .slice B n d] W fun e w' => ∃ v, e = .returned (.tuple #[v, .int .i64 0]) ∧ w'.ownsRow W.heap.size 23 32 v (2 * n) (idsV (sideL (pubF m l r) n)) ∧ Below W.heap.size W w' := fun W h => publics_any m HM.out A B n c d l r hn256 hrg W (hRA.below h) (hRB.below h)
      have cV : ∀ W : World, Below w.heap.size w W → Calls Try.prog 64 #[.agg (List.map u8v m).toArray, .slice A n c, .slice B n d] W fun e w' => e = .returned (.tuple #[.agg (idVals (joinB (sideL (pubF m l r) n))), .int .i64 0]) ∧ Below W.heap.size W w' := fun W h => recover_any m HM.out A B n c d l r hn256 hrg W (hRA.below h) (hRB.below h)
      have dP : ∀ W : World, RowR W A n l → RowR W B n r → Calls Try.prog 66 #[.agg (List.map u8v m).toArray, .slice A n c, .slice B n d] W fun e w' => ∃ v, e = .returned v ∧ w'.ownsRow W.heap.size 23 32 v (2 * n) (idsV (sideL (pubF m l r) n)) ∧ Below W.heap.size W w' := fun W hA hB => rpublics_any m HM.out A B n c d l r hn256 W hA hB
      have dV : ∀ W : World, RowR W A n l → RowR W B n r → Calls Try.prog 67 #[.agg (List.map u8v m).toArray, .slice A n c, .slice B n d] W fun e w' => e = .returned (.agg (idVals (joinB (sideL (pubF m l r) n)))) ∧ Below W.heap.size W w' := fun W hA hB => rrecover_any m HM.out A B n c d l r hn256 W hA hB
      generalize sideL (pubF m l r) n = L at *
      obtain ⟨S, hS⟩ : ∃ S, S = joinB L := ⟨_, rfl⟩
      have hSl : S.length = 32 := by rw [hS]; exact joinB_length _
      rw [← hS] at cV dV
      have hzS : (Try.prog.info? 23).map (·.size) = some (S.map u8v).length := by rw [List.length_map, hSl]; exact sizeId
      have eS : ∀ W, (Op.equalIn 10000 23 (.agg (List.map u8v S).toArray) (.agg (idVals S))).run Try.prog W = .ok true W := fun W => (ids_eq W S S hSl hSl).trans (by rw [decide_eq_true rfl])
      have HSL := hid hSl
      have H32 := hid h32
      have HN := hid hn256
      clear hS hSl h32 hn256 hrg hq hln hrn hrl hrr hn9 hk9 hn4 hk4
      go_enter Try.func10, Try.ntmps10
      go_wp2_with (first
        | (with_reducible refine wpList_load_if (by with_unfolding_all rfl) 23 _ rfl _ 0 rfl (m.map u8v) _ hI hu (by with_unfolding_all rfl) hzm ?_)
        | (go_at_call 59; (with_reducible refine (cR _).mono ?_); rintro e1 w1 ⟨rfl, rfl⟩)
        | (go_at_call 65; (with_reducible refine (cP _ hB).mono ?_); rintro e2 w2 ⟨v, rfl, hown, hb2⟩; obtain ⟨A2, k2, rfl, hrow⟩ := RowAt.own hown H32.out (by have := HN.out; omega); replace hI := hI.below hb2; replace hB := hB.trans (hb2.mono hB.size))
        | (go_at_call 64; (with_reducible refine (cV _ hB).mono ?_); rintro e3 w3 ⟨rfl, hb3⟩; replace hI := hI.below hb3; replace hB := hB.trans (hb3.mono hB.size); replace hrow := hrow.below hb3)
        | ((with_reducible refine wpList_store_newid rfl _ _ rfl S HSL.out rfl rfl (by with_unfolding_all rfl) ?_); intro w4 hx4 hb4; replace hI := hI.below hb4; replace hB := hB.trans (hb4.mono hB.size); replace hrow := hrow.below hb4))
      have hS0 : RecS w A B n l r A2 L w4 := ⟨hRA.below hB, hRB.below hB, hrow.r, hB⟩
      clear hown cP cV hRA hRB hrow hb2 hb3 hb4 hB
      obtain ⟨ks, hks⟩ : ∃ ks, ks = w.heap.size := ⟨_, rfl⟩
      rw [← hks] at hI
      simp only [← hks]
      obtain ⟨ka, hka⟩ : ∃ ka, ka = w3.heap.size := ⟨_, rfl⟩
      rw [← hka] at hx4
      simp only [← hka]
      have cP : ∀ W, (W.rangeAt ks 0 (m.map u8v) ∧ W.rangeAt ka 0 (S.map u8v) ∧ RecS w A B n l r A2 L W) → Calls Try.prog 66 #[.agg (List.map u8v m).toArray, .slice A n c, .slice B n d] W fun e w' => ∃ v, e = .returned v ∧ w'.ownsRow W.heap.size 23 32 v (2 * n) (idsV L) ∧ (w'.rangeAt ks 0 (m.map u8v) ∧ w'.rangeAt ka 0 (S.map u8v) ∧ RecS w A B n l r A2 L w') := fun W h => (dP W h.2.2.a h.2.2.b).mono (by rintro e w' ⟨v, h1, h2, h3⟩; exact ⟨v, h1, h2, h.1.below h3, h.2.1.below h3, h.2.2.below h3⟩)
      have cV : ∀ W, (W.rangeAt ks 0 (m.map u8v) ∧ W.rangeAt ka 0 (S.map u8v) ∧ RecS w A B n l r A2 L W) → Calls Try.prog 67 #[.agg (List.map u8v m).toArray, .slice A n c, .slice B n d] W fun e w' => e = .returned (.agg (idVals S)) ∧ (w'.rangeAt ks 0 (m.map u8v) ∧ w'.rangeAt ka 0 (S.map u8v) ∧ RecS w A B n l r A2 L w') := fun W h => (dV W h.2.2.a h.2.2.b).mono (by rintro e w' ⟨h1, h3⟩; exact ⟨h1, h.1.below h3, h.2.1.below h3, h.2.2.below h3⟩)
      have cM : ∀ W A3 c3, (W.rangeAt ks 0 (m.map u8v) ∧ W.rangeAt ka 0 (S.map u8v) ∧ RecS w A B n l r A2 L W) → RowR W A3 (2 * n) L → Calls Try.prog 19 #[.slice A2 (2 * n) k2, .slice A3 (2 * n) c3] W fun e w' => e = .returned (.bool true) ∧ (w'.rangeAt ks 0 (m.map u8v) ∧ w'.rangeAt ka 0 (S.map u8v) ∧ RecS w A B n l r A2 L w') := fun W A3 c3 h h3 => by
        have := rsame_any A2 A3 (2 * n) k2 (2 * n) c3 L L W h.2.2.l h3
        rw [decide_eq_true rfl] at this
        exact this.mono (by rintro e w' ⟨h1, h3⟩; exact ⟨h1, h.1.below h3, h.2.1.below h3, h.2.2.below h3⟩)
      have cW : ∀ W, (W.rangeAt ks 0 (m.map u8v) ∧ W.rangeAt ka 0 (S.map u8v) ∧ RecS w A B n l r A2 L W) → Calls Try.prog 53 #[] W fun e w' => e = .returned (.bool true) ∧ (w'.rangeAt ks 0 (m.map u8v) ∧ w'.rangeAt ka 0 (S.map u8v) ∧ RecS w A B n l r A2 L w') := fun W h => (c7 W).mono (by rintro e w' ⟨h1, rfl⟩; exact ⟨h1, h⟩)
      clear dP dV hks hka
      refine wp_region_held_drew (S := fun w' => (w'.rangeAt ks 0 (m.map u8v) ∧ w'.rangeAt ka 0 (S.map u8v) ∧ RecS w A B n l r A2 L w')) (by kernel_rfl) ?_ (fun hHeld => ?_)
      · exact ⟨hI.below (below_drew1 w4), hx4.below (below_drew1 w4), hS0.below (below_drew1 w4)⟩
      clear hI hx4 hS0
      refine' wpAnyH_take (i := 0) (v := .int .i64 0) rfl (by kernel_rfl) (by kernel_rfl) (by kernel_rfl) (fun _ _ _ h => h) (Or.inl ⟨by rfl, fun w' hw' => by go_simp⟩) hHeld ?_
      try simp only [Act.put, List.getElem_toArray, List.getElem_cons_succ, List.getElem_cons_zero, List.setIfInBounds_toArray, List.set_cons_zero, List.set_cons_succ]
      refine' wpAnyH_take (i := 1) (v := .bool true) rfl (by kernel_rfl) (by kernel_rfl) (by kernel_rfl) (fun _ _ _ h => h) (Or.inl ⟨by rfl, fun w' hw' => by go_simp⟩) hHeld ?_
      try simp only [Act.put, List.getElem_toArray, List.getElem_cons_succ, List.getElem_cons_zero, List.setIfInBounds_toArray, List.set_cons_zero, List.set_cons_succ]
      refine' wpAnyH_take (i := 2) (v := .bool true) rfl (by kernel_rfl) (by kernel_rfl) (by kernel_rfl) (fun _ _ _ h => h) (Or.inl ⟨by rfl, fun w' hw' => by go_simp⟩) hHeld ?_
      try simp only [Act.put, List.getElem_toArray, List.getElem_cons_succ, List.getElem_cons_zero, List.setIfInBounds_toArray, List.set_cons_zero, List.set_cons_succ]
      refine' wpAnyH_take (i := 3) (v := .int .i64 0) rfl (by kernel_rfl) (by kernel_rfl) (by kernel_rfl) (fun _ _ _ h => h) (Or.inl ⟨by rfl, fun w' hw' => by go_simp⟩) hHeld ?_
      try simp only [Act.put, List.getElem_toArray, List.getElem_cons_succ, List.getElem_cons_zero, List.setIfInBounds_toArray, List.set_cons_zero, List.set_cons_succ]
      refine' wpAnyH_take (i := 4) (v := .bool true) rfl (by kernel_rfl) (by kernel_rfl) (by kernel_rfl) (fun _ _ _ h => h) (Or.inl ⟨by rfl, fun w' hw' => by go_simp⟩) hHeld ?_
      try simp only [Act.put, List.getElem_toArray, List.getElem_cons_succ, List.getElem_cons_zero, List.setIfInBounds_toArray, List.set_cons_zero, List.set_cons_succ]
      refine' wpAnyH_take (i := 5) (v := .bool true) rfl (by kernel_rfl) (by kernel_rfl) (by kernel_rfl) (fun _ _ _ h => h) (Or.inl ⟨by rfl, fun w' hw' => by go_simp⟩) hHeld ?_
      try simp only [Act.put, List.getElem_toArray, List.getElem_cons_succ, List.getElem_cons_zero, List.setIfInBounds_toArray, List.set_cons_zero, List.set_cons_succ]
      refine' wpAnyH_take (i := 6) (v := .bool true) rfl (by kernel_rfl) (by kernel_rfl) (by kernel_rfl) (fun _ _ _ h => h) (Or.inl ⟨by rfl, fun w' hw' => by go_simp⟩) hHeld ?_
      try simp only [Act.put, List.getElem_toArray, List.getElem_cons_succ, List.getElem_cons_zero, List.setIfInBounds_toArray, List.set_cons_zero, List.set_cons_succ]
      refine' wpAnyH_take (i := 7) (v := .slice A2 (2 * n) k2) rfl (by kernel_rfl) (by kernel_rfl) (by kernel_rfl) (fun _ _ _ h => h) (Or.inl ⟨by rfl, fun w' hw' => by go_simp⟩) hHeld ?_
      try simp only [Act.put, List.getElem_toArray, List.getElem_cons_succ, List.getElem_cons_zero, List.setIfInBounds_toArray, List.set_cons_zero, List.set_cons_succ]
      refine' wpAnyH_take (i := 8) (v := _) rfl (by kernel_rfl) (by kernel_rfl) (by kernel_rfl) (fun _ _ _ h => h) (yieldsIf_load_mid (by rfl) 23 _ rfl _ _ rfl (m.map u8v) _ (fun w' h => h.1) hu rfl hzm) hHeld ?_
      try simp only [Act.put, List.getElem_toArray, List.getElem_cons_succ, List.getElem_cons_zero, List.setIfInBounds_toArray, List.set_cons_zero, List.set_cons_succ]
      refine' wpAnyH_take (i := 9) (v := .slice A n c) rfl (by kernel_rfl) (by kernel_rfl) (by kernel_rfl) (fun _ _ _ h => h) (Or.inl ⟨by rfl, fun w' hw' => by go_simp⟩) hHeld ?_
      try simp only [Act.put, List.getElem_toArray, List.getElem_cons_succ, List.getElem_cons_zero, List.setIfInBounds_toArray, List.set_cons_zero, List.set_cons_succ]
      refine' wpAnyH_take (i := 10) (v := .slice B n d) rfl (by kernel_rfl) (by kernel_rfl) (by kernel_rfl) (fun _ _ _ h => h) (Or.inl ⟨by rfl, fun w' hw' => by go_simp⟩) hHeld ?_
      try simp only [Act.put, List.getElem_toArray, List.getElem_cons_succ, List.getElem_cons_zero, List.setIfInBounds_toArray, List.set_cons_zero, List.set_cons_succ]
      refine wpAnyH_ready (rs := [11]) (by kernel_rfl) (by simp) ?_
      refine AllReadyH.cons rfl (fun K hK => ?_) AllReadyH.nil
      go_simp
      (with_reducible refine (cP _ hHeld).mono ?_)
      rintro e11 w11 ⟨v3, rfl, hown3, hS11⟩
      obtain ⟨A3, c3, rfl, hrow3⟩ := RowAt.own hown3 H32.out (by have := HN.out; omega)
      refine hK.out _ _ hS11 (fun hHeld => ?_)
      clear hK K
      try simp only [Act.put, List.getElem_toArray, List.getElem_cons_succ, List.getElem_cons_zero, List.setIfInBounds_toArray, List.set_cons_zero, List.set_cons_succ]
      refine wpAnyH_ready (rs := [12]) (by kernel_rfl) (by simp) ?_
      refine AllReadyH.cons rfl (fun K hK => ?_) AllReadyH.nil
      go_simp
      (with_reducible refine (cM _ _ _ hHeld hrow3.r).mono ?_)
      rintro e12 w12 ⟨rfl, hS12⟩
      refine hK.out _ _ hS12 (fun hHeld => ?_)
      clear hK K
      try simp only [Act.put, List.getElem_toArray, List.getElem_cons_succ, List.getElem_cons_zero, List.setIfInBounds_toArray, List.set_cons_zero, List.set_cons_succ]
      refine' wpAnyH_take (i := 13) (v := .bool true) rfl (by kernel_rfl) (by kernel_rfl) (by kernel_rfl) (fun _ _ _ h => h) (Or.inl ⟨by rfl, fun w' hw' => by go_simp⟩) hHeld ?_
      try simp only [Act.put, List.getElem_toArray, List.getElem_cons_succ, List.getElem_cons_zero, List.setIfInBounds_toArray, List.set_cons_zero, List.set_cons_succ]
      refine' wpAnyH_take (i := 14) (v := .bool true) rfl (by kernel_rfl) (by kernel_rfl) (by kernel_rfl) (fun _ _ _ h => h) (Or.inl ⟨by rfl, fun w' hw' => by go_simp⟩) hHeld ?_
      try simp only [Act.put, List.getElem_toArray, List.getElem_cons_succ, List.getElem_cons_zero, List.setIfInBounds_toArray, List.set_cons_zero, List.set_cons_succ]
      refine' wpAnyH_take (i := 15) (v := _) rfl (by kernel_rfl) (by kernel_rfl) (by kernel_rfl) (fun _ _ _ h => h) (yieldsIf_load_mid (by rfl) 23 _ rfl _ _ rfl (S.map u8v) _ (fun w' h => h.2.1) hu rfl hzS) hHeld ?_
      try simp only [Act.put, List.getElem_toArray, List.getElem_cons_succ, List.getElem_cons_zero, List.setIfInBounds_toArray, List.set_cons_zero, List.set_cons_succ]
      refine' wpAnyH_take (i := 16) (v := _) rfl (by kernel_rfl) (by kernel_rfl) (by kernel_rfl) (fun _ _ _ h => h) (yieldsIf_load_mid (by rfl) 23 _ rfl _ _ rfl (m.map u8v) _ (fun w' h => h.1) hu rfl hzm) hHeld ?_
      try simp only [Act.put, List.getElem_toArray, List.getElem_cons_succ, List.getElem_cons_zero, List.setIfInBounds_toArray, List.set_cons_zero, List.set_cons_succ]
      refine' wpAnyH_take (i := 17) (v := .slice A n c) rfl (by kernel_rfl) (by kernel_rfl) (by kernel_rfl) (fun _ _ _ h => h) (Or.inl ⟨by rfl, fun w' hw' => by go_simp⟩) hHeld ?_
      try simp only [Act.put, List.getElem_toArray, List.getElem_cons_succ, List.getElem_cons_zero, List.setIfInBounds_toArray, List.set_cons_zero, List.set_cons_succ]
      refine' wpAnyH_take (i := 18) (v := .slice B n d) rfl (by kernel_rfl) (by kernel_rfl) (by kernel_rfl) (fun _ _ _ h => h) (Or.inl ⟨by rfl, fun w' hw' => by go_simp⟩) hHeld ?_
      try simp only [Act.put, List.getElem_toArray, List.getElem_cons_succ, List.getElem_cons_zero, List.setIfInBounds_toArray, List.set_cons_zero, List.set_cons_succ]
      refine wpAnyH_ready (rs := [19]) (by kernel_rfl) (by simp) ?_
      refine AllReadyH.cons rfl (fun K hK => ?_) AllReadyH.nil
      go_simp
      (with_reducible refine (cV _ hHeld).mono ?_)
      rintro e19 w19 ⟨rfl, hS19⟩
      refine hK.out _ _ hS19 (fun hHeld => ?_)
      clear hK K
      try simp only [Act.put, List.getElem_toArray, List.getElem_cons_succ, List.getElem_cons_zero, List.setIfInBounds_toArray, List.set_cons_zero, List.set_cons_succ]
      refine' wpAnyH_take (i := 20) (v := .bool true) rfl (by kernel_rfl) (by kernel_rfl) (by kernel_rfl) (fun _ _ _ h => h) (Or.inl ⟨by rfl, fun w' hw' => by have hv := eS w'; go_simp⟩) hHeld ?_
      try simp only [Act.put, List.getElem_toArray, List.getElem_cons_succ, List.getElem_cons_zero, List.setIfInBounds_toArray, List.set_cons_zero, List.set_cons_succ]
      refine' wpAnyH_take (i := 21) (v := .bool true) rfl (by kernel_rfl) (by kernel_rfl) (by kernel_rfl) (fun _ _ _ h => h) (Or.inl ⟨by rfl, fun w' hw' => by go_simp⟩) hHeld ?_
      try simp only [Act.put, List.getElem_toArray, List.getElem_cons_succ, List.getElem_cons_zero, List.setIfInBounds_toArray, List.set_cons_zero, List.set_cons_succ]
      refine' wpAnyH_take (i := 22) (v := .bool true) rfl (by kernel_rfl) (by kernel_rfl) (by kernel_rfl) (fun _ _ _ h => h) (Or.inl ⟨by rfl, fun w' hw' => by go_simp⟩) hHeld ?_
      try simp only [Act.put, List.getElem_toArray, List.getElem_cons_succ, List.getElem_cons_zero, List.setIfInBounds_toArray, List.set_cons_zero, List.set_cons_succ]
      refine wpAnyH_ready (rs := [23]) (by kernel_rfl) (by simp) ?_
      refine AllReadyH.cons rfl (fun K hK => ?_) AllReadyH.nil
      go_simp
      (with_reducible refine (cW _ hHeld).mono ?_)
      rintro e23 w23 ⟨rfl, hS23⟩
      refine hK.out _ _ hS23 (fun hHeld => ?_)
      clear hK K
      try simp only [Act.put, List.getElem_toArray, List.getElem_cons_succ, List.getElem_cons_zero, List.setIfInBounds_toArray, List.set_cons_zero, List.set_cons_succ]
      refine wpAnyH_ready (rs := [24]) (by kernel_rfl) (by simp) ?_
      refine AllReadyH.cons rfl (fun K hK => ?_) AllReadyH.nil
      go_simp
      refine hK.out _ _ hHeld (fun hHeld => ?_)
      clear hK K
      try simp only [Act.put, List.getElem_toArray, List.getElem_cons_succ, List.getElem_cons_zero, List.setIfInBounds_toArray, List.set_cons_zero, List.set_cons_succ]
      refine wpAnyH_ready (rs := [25]) (by kernel_rfl) (by simp) ?_
      refine AllReadyH.cons rfl (fun K hK => ?_) AllReadyH.nil
      go_simp
      refine hK.out _ _ hHeld (fun hHeld => ?_)
      clear hK K
      try simp only [Act.put, List.getElem_toArray, List.getElem_cons_succ, List.getElem_cons_zero, List.setIfInBounds_toArray, List.set_cons_zero, List.set_cons_succ]
      refine wpAnyH_done (by kernel_rfl) ?_ _
      go_wp2
      go_ret
      exact ⟨rfl, hHeld.2.2.h⟩
    · have hbad : n ≠ k ∨ rgt n = false := by
        by_cases h1 : n = k
        · right
          cases q with
          | true => exact absurd ⟨h1, rfl⟩ hok
          | false => exact hq.symm
        · exact .inl h1
      have cP : ∀ W : World, Calls Try.prog 65 #[.agg (List.map u8v m).toArray, .slice A n c, .slice B k d] W fun e w' => e = .returned (.tuple #[.slice none 0 0, .int .i64 3]) ∧ Below W.heap.size W w' := fun W => publics_no m A B n c k d hbad W
      have cV : ∀ W : World, Calls Try.prog 64 #[.agg (List.map u8v m).toArray, .slice A n c, .slice B k d] W fun e w' => e = .returned (.tuple #[.agg (idVals zeroB), .int .i64 3]) ∧ Below W.heap.size W w' := fun W => recover_no m HM.out A B n c k d hbad W
      have hzl : zeroB.length = 32 := rfl
      have HZ : (Try.prog.info? 23).map (·.size) = some (zeroB.map u8v).length := sizeId
      have heq := fun W => (ids_eq W zeroB zeroB rfl rfl).trans (by rw [decide_eq_true rfl])
      have heq2 : ∀ W, (Op.equalIn 10000 23 (.agg (List.map u8v zeroB).toArray) (.agg #[.int .u8 0, .int .u8 0, .int .u8 0, .int .u8 0, .int .u8 0, .int .u8 0, .int .u8 0, .int .u8 0, .int .u8 0, .int .u8 0, .int .u8 0, .int .u8 0, .int .u8 0, .int .u8 0, .int .u8 0, .int .u8 0, .int .u8 0, .int .u8 0, .int .u8 0, .int .u8 0, .int .u8 0, .int .u8 0, .int .u8 0, .int .u8 0, .int .u8 0, .int .u8 0, .int .u8 0, .int .u8 0, .int .u8 0, .int .u8 0, .int .u8 0, .int .u8 0])).run Try.prog W = .ok true W := heq
      have HZL := hid hzl
      clear heq hzl hbad hln hrn hrl hrr hn9 hk9 hn4 hk4 hRA hRB hq
      by_cases hnk : n = k
      · have z1 : ((n : Int) != (k : Int)) = false := by rw [hnk]; simp
        obtain rfl : q = false := by
          cases q with
          | true => exact absurd ⟨hnk, rfl⟩ hok
          | false => rfl
        clear hok hnk
        go_enter Try.func10, Try.ntmps10
        go_wp2_with (first
          | (with_reducible refine wpList_load_if (by with_unfolding_all rfl) 23 _ rfl _ 0 rfl (m.map u8v) _ hI hu (by with_unfolding_all rfl) hzm ?_)
          | (go_at_call 59; (with_reducible refine (cR _).mono ?_); rintro e1 w1 ⟨rfl, rfl⟩)
          | (go_at_call 65; (with_reducible refine (cP _).mono ?_); rintro e2 w2 ⟨rfl, hb2⟩; replace hI := hI.below hb2; replace hB := hB.trans (hb2.mono hB.size))
          | (go_at_call 64; (with_reducible refine (cV _).mono ?_); rintro e3 w3 ⟨rfl, hb3⟩; replace hB := hB.trans (hb3.mono hB.size))
          | ((with_reducible refine wpList_store_newid rfl _ _ rfl zeroB HZL.out rfl rfl (by with_unfolding_all rfl) ?_); intro w4 hx4 hb4; replace hB := hB.trans (hb4.mono hB.size))
          | (with_reducible refine wpList_load_if (by with_unfolding_all rfl) 23 _ rfl _ _ rfl (zeroB.map u8v) _ hx4 hu (by with_unfolding_all rfl) HZ ?_)
          | (go_at_call 53; (with_reducible refine (c7 _).mono ?_); rintro e5 w5 ⟨rfl, rfl⟩))
        go_ret
        exact ⟨rfl, hB⟩
      · have z1 : ((n : Int) != (k : Int)) = true := by simp; omega
        clear hok hnk
        go_enter Try.func10, Try.ntmps10
        go_wp2_with (first
          | (with_reducible refine wpList_load_if (by with_unfolding_all rfl) 23 _ rfl _ 0 rfl (m.map u8v) _ hI hu (by with_unfolding_all rfl) hzm ?_)
          | (go_at_call 59; (with_reducible refine (cR _).mono ?_); rintro e1 w1 ⟨rfl, rfl⟩)
          | (go_at_call 65; (with_reducible refine (cP _).mono ?_); rintro e2 w2 ⟨rfl, hb2⟩; replace hI := hI.below hb2; replace hB := hB.trans (hb2.mono hB.size))
          | (go_at_call 64; (with_reducible refine (cV _).mono ?_); rintro e3 w3 ⟨rfl, hb3⟩; replace hB := hB.trans (hb3.mono hB.size))
          | ((with_reducible refine wpList_store_newid rfl _ _ rfl zeroB HZL.out rfl rfl (by with_unfolding_all rfl) ?_); intro w4 hx4 hb4; replace hB := hB.trans (hb4.mono hB.size))
          | (with_reducible refine wpList_load_if (by with_unfolding_all rfl) 23 _ rfl _ _ rfl (zeroB.map u8v) _ hx4 hu (by with_unfolding_all rfl) HZ ?_)
          | (go_at_call 53; (with_reducible refine (c7 _).mono ?_); rintro e5 w5 ⟨rfl, rfl⟩))
        go_ret
        exact ⟨rfl, hB⟩
  · clear hln hrn hrl hrr
    by_cases hn4 : n ≤ 40
    · have l1 : ¬ (40 : Int) < n := by omega
      have l2 : (40 : Int) < k := by
        by_cases hk4 : k ≤ 40
        · exact absurd ⟨hn4, hk4⟩ h40
        · omega
      clear h40 hn4
      go_enter Try.func10, Try.ntmps10
      go_wp2_with (first
        | (go_at_call 53; (with_reducible refine (c7 _).mono ?_); rintro e5 w5 ⟨rfl, rfl⟩))
      go_ret
      exact ⟨rfl, hB⟩
    · have l1 : (40 : Int) < n := by omega
      clear h40 hn4
      go_enter Try.func10, Try.ntmps10
      go_wp2_with (first
        | (go_at_call 53; (with_reducible refine (c7 _).mono ?_); rintro e5 w5 ⟨rfl, rfl⟩))
      go_ret
      exact ⟨rfl, hB⟩
set_option linter.unusedVariables false in
theorem law_LamportRecovers (w : World) (a0 : List UInt8) (w0 : a0.length = 32) (a1 : Option Addr) (l1 c1 : Nat) (z1 : List (List UInt8)) (w1 : IdRow w a1 l1 z1) (a2 : Option Addr) (l2 c2 : Nat) (z2 : List (List UInt8)) (w2 : IdRow w a2 l2 z2) :
    Calls Try.prog 10 #[.agg (idVals a0), .slice a1 l1 c1, .slice a2 l2 c2] w fun e w' => e = .returned (.bool true) ∧ Below w.heap.size w w' := by
  exact lamRecovers_any a0 w0 a1 a2 l1 c1 l2 c2 z1 z2 w w1 w2

open Go.ChangeShapes Go.WideShapes Go.ChangeAt
open Go.ChangeMaps (open_string shut_string)
theorem own_LamportRecovers : ownKnob Try.prog.godebug = none := by kernel_rfl
theorem laidOut_LamportRecovers : laidOutB Try.prog = true := by kernel_rfl
set_option linter.unusedVariables false in
set_option maxRecDepth 100000 in
theorem lifted_LamportRecovers (os : Os) (started : os.Started) (H : Type) (enc : TypeId × Value → H) :
    ReturnsInHanded {} Try.checked os 10 .any (Rows.lamportRecoversSpec.pre6 enc Try.prog Try.f10 Rows.lamportRecoversRow.domain false) (Rows.lamportRecoversSpec.post enc Try.prog Try.f10 false true false false) := by
  refine returnsInHanded_of_change (C := Try.checked) own_LamportRecovers started (by kernel_rfl) Try.func10
    (ChangeSpec.witness6 (enc := enc) (C := Try.checked) false ⟨#[], #[.agg #[.int .u8 0, .int .u8 0, .int .u8 0, .int .u8 0, .int .u8 0, .int .u8 0, .int .u8 0, .int .u8 0, .int .u8 0, .int .u8 0, .int .u8 0, .int .u8 0, .int .u8 0, .int .u8 0, .int .u8 0, .int .u8 0, .int .u8 0, .int .u8 0, .int .u8 0, .int .u8 0, .int .u8 0, .int .u8 0, .int .u8 0, .int .u8 0, .int .u8 0, .int .u8 0, .int .u8 0, .int .u8 0, .int .u8 0, .int .u8 0, .int .u8 0, .int .u8 0], .slice none 0 0, .slice none 0 0], []⟩ 8 (by kernel_rfl) (by kernel_rfl) (by kernel_rfl) (by kernel_rfl)) ?_
  intro W base args ds gs before hval0 hW hcnd _
  have hval : ∀ (j : Nat) t v, Try.f10.params[j]? = some t → args[j]? = some v → Value.okWide Try.prog W .any base t v := hval0
  have hW' := hW
  obtain ⟨p, q, hA0, hV, rfl, hfz, hnd⟩ := hW
  have hA1 : DataW.TrodAll enc Try.prog W 0 (fun _ => true) true Try.f10.params.toList args.toList ds p := hA0
  have hA : DataW.TrodAll enc Try.prog W 0 (fun _ => true) true Try.f10.params.toList args.toList ds p := hA0
  rw [Try.params10] at hA hval
  obtain ⟨v0, vs0, d0, ds0, p0, q0, hargs, rfl, rfl, h0, r0⟩ := trodAll_cons hA
  obtain ⟨v1, vs1, d1, ds1, p1, q1, rfl, rfl, rfl, h1, r1⟩ := trodAll_cons r0
  obtain ⟨v2, vs2, d2, ds2, p2, q2, rfl, rfl, rfl, h2, r2⟩ := trodAll_cons r1
  obtain ⟨rfl, rfl, rfl⟩ := trodAll_nil r2
  obtain rfl : args = #[v0, v1, v2] := by cases args; simp_all
  obtain ⟨rfl, rfl⟩ := trodVars_none hV
  obtain ⟨a0, w0, rfl⟩ := open_id Try.underlying23 Try.underlying5 (by kernel_rfl) (by kernel_rfl) (hval 0 23 v0 rfl rfl) h0
  obtain ⟨a1, l1, c1, z1, rfl, w1⟩ := open_idRow Try.underlying24 Try.underlying23 Try.underlying5 (by kernel_rfl) (by kernel_rfl) (hval 1 24 v1 rfl rfl) h1
  obtain ⟨a2, l2, c2, z2, rfl, w2⟩ := open_idRow Try.underlying24 Try.underlying23 Try.underlying5 (by kernel_rfl) (by kernel_rfl) (hval 2 24 v2 rfl rfl) h2
  clear hA0 hval0
  refine (law_LamportRecovers W a0 w0 a1 l1 c1 z1 w1 a2 l2 c2 z2 w2).mono fun e W' ⟨he, bel⟩ => ?_
  subst he
  exact ⟨_, rfl, _, _, _, [], _, [], hW', trodAll_mk1 (shut_bool Try.underlying4 _), trodAll_stays laidOut_LamportRecovers bel (by kernel_rfl) hA1, rfl, bel.frame _, fun h => by cases h⟩

/-- The statement. -/
theorem LamportRecovers_holds : Rows.LamportRecoversSaid :=
  OpenClaim.holds_of_wide 10 Try.f10 rfl rfl rfl rfl rfl rfl rfl ⟨rfl, rfl, rfl, rfl, rfl⟩ rfl rfl rfl rfl rfl (by kernel_rfl) Try.func10 (by kernel_rfl)
    (of_decide_eq_true (by kernel_rfl)) (by unfold Func.isWrapper; first | (rw [if_pos (by decide +kernel)]; kernel_rfl) | (rw [if_neg (by decide +kernel)]; exact ⟨rfl, rfl⟩))
    (fun os started H enc _ => lifted_LamportRecovers os started H enc)
#print axioms LamportRecovers_holds
end Go.Proofs.Ytjofobfflnnjhaa

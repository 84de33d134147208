
/- lamport: Publics and Recover, of the document. -/
import Derived.Test.YticpdepbgcagaaaGreatLam7
import Derived.Test.YticpdepbgcagaaaGreatTag6
namespace Go.Proofs.YticpdepbgcagaaaGreat
open Go.RowKit Go.Qc
attribute [local go_sem] txt_size

theorem range_lt8 {w : World} {g o : Nat} {l : List UInt8} (h : w.rangeAt g o (l.map u8v)) (hl : 0 < l.length) : g < w.heap.size := by
  cases l with
  | nil => simp at hl
  | cons b t => exact World.block_lt_of_cell? w _ (h 0 (u8v b) rfl)
set_option maxRecDepth 100000 in
set_option maxHeartbeats 40000000 in
set_option linter.unusedSimpArgs false in
theorem rpublics_any (m : List UInt8) (hm : m.length = 32) (A B : Option Addr) (n c d : Nat) (l r : List (List UInt8)) (hn : n ≤ 256) (w : World) (hA : RowR w A n l) (hB : RowR w B n r) :
    Calls Tryz.prog 74 #[.agg (idVals m), .slice A n c, .slice B n d] w fun e w' => ∃ v, e = .returned v ∧ w'.ownsRow w.heap.size 24 32 v (2 * n) (idsV (sideL (pubF m l r) n)) ∧ Below w.heap.size w w' := by
  obtain ⟨j0, hj, hjz, hjs, hjb⟩ := infoId2_parts
  have hu := Tryz.underlying24
  have hI : (w.alloc (.cells (idVals m) 24)).rangeAt w.heap.size 0 (m.map u8v) := range_blk (Blk.new w 24 (idVals m))
  have hB0 : Below w.heap.size w (w.alloc (.cells (idVals m) 24)) := (Below.refl _ _).alloc (Nat.le_refl _) _
  have hk1 : (w.alloc (.cells (idVals m) 24)).heap.size = w.heap.size + 1 := by simp
  have hzm : (Tryz.prog.info? 24).map (·.size) = some (m.map u8v).length := by rw [List.length_map, hm]; exact sizeId
  obtain ⟨hln, _, hAr⟩ := hA.below hB0
  obtain ⟨hrn, _, hBr⟩ := hB.below hB0
  have HN := hid hn
  have HM := hid hm
  have HLN := hid hln
  have HRN := hid hrn
  clear hA hB hm hn hln hrn
  go_enter Tryz.func74, Tryz.ntmps74
  go_wp2
  generalize w.alloc (.cells (idVals m) 24) = w0 at *
  go_loopw [7, 8] (fun v i wr => ∃ k : Nat, k ≤ n ∧ i = .int .i64 k ∧ wr.ownsRow (w.heap.size + 1) 24 32 v (2 * k) (idsV (sideL (pubF m l r) k)) ∧ Below w0.heap.size w0 wr) (fun _ i _ => n - (intOf i).toNat)
  case atStart => exact ⟨0, by omega, rfl, (by have := World.ownsRow_made (base := w.heap.size + 1) (e := 24) (size := 32) w0 #[] 0 (Nat.le_of_eq hk1.symm) (by decide) rfl; rwa [hk1] at this), (Below.refl _ _).alloc (Nat.le_refl _) _⟩
  case round =>
    obtain ⟨k, hk, rfl, hown, hb⟩ := hrel
    by_cases hlt : k < n
    · have b1 : (k : Int) < n := by omega
      obtain ⟨x, hx⟩ : ∃ x, l[k]? = some x := ⟨_, List.getElem?_eq_getElem (by rw [HLN.out]; exact hlt)⟩
      obtain ⟨y, hy⟩ : ∃ y, r[k]? = some y := ⟨_, List.getElem?_eq_getElem (by rw [HRN.out]; exact hlt)⟩
      obtain ⟨ga, oa, hga, lx, hia⟩ := hAr.pick c HLN.out hx
      obtain ⟨gb, ob, hgb, ly, hib⟩ := hBr.pick d HRN.out hy
      have hra := hga.below hb
      have hrb := hgb.below hb
      have hltA : ga < wr.heap.size := range_lt8 hra (by omega)
      have hltB : gb < wr.heap.size := range_lt8 hrb (by omega)
      have hF : sideL (pubF m l r) (k + 1) = sideL (pubF m l r) k ++ (if bitZ m k = 0 then [pubB x, y] else [y, pubB x]) := by
        rw [sideL_succ]
        congr 1
        unfold pubF
        rw [List.getD_eq_getElem?_getD, List.getD_eq_getElem?_getD, hx, hy]
        have hz := bitZ_le m k
        rcases Nat.le_one_iff_eq_zero_or_eq_one.1 hz with h | h <;> rw [h] <;> rfl
      have cB : ∀ W : World, Calls Tryz.prog 19 #[.agg (List.map u8v m).toArray, .int .i64 k] W fun e w' => e = .returned (.int .i64 (bitZ m k : Nat)) ∧ Below W.heap.size W w' := fun W => rbit6_any m HM.out k (by have := HN.out; omega) W
      have cP : ∀ W : World, Calls Tryz.prog 42 #[.agg (List.map u8v x).toArray] W fun e w' => e = .returned (.agg (idVals (pubB x))) ∧ Below W.heap.size W w' := fun W => rpublic_any x lx W
      have hzx : (Tryz.prog.info? 24).map (·.size) = some (x.map u8v).length := by rw [List.length_map, lx]; exact sizeId
      have hzy : (Tryz.prog.info? 24).map (·.size) = some (y.map u8v).length := by rw [List.length_map, ly]; exact sizeId
      have lp := pubB_length x
      have hzX : (Tryz.prog.info? 24).map (·.size) = some ((pubB x).map u8v).length := by rw [List.length_map, lp]; exact sizeId
      generalize hD : bitZ m k = D at *
      generalize pubB x = X at *
      have HLX := hid lp
      have HLY := hid ly
      have HGA := hid hltA
      have HGB := hid hltB
      have HF := hid hF
      have HB := hid hb
      have HOW := hid hown
      clear hx hy hga hgb lx ly lp hltA hltB hF hD hb hown
      by_cases hd0 : D = 0
      · have z0 : ((D : Int) == 0) = true := by rw [hd0]; rfl
        have HF2 := hid (show sideL (pubF m l r) (k + 1) = sideL (pubF m l r) k ++ [X, y] by rw [HF.out, if_pos hd0])
        clear hd0
        go_wp2
        have hS0 : (wr.drew.rangeAt ga oa (x.map u8v) ∧ wr.drew.rangeAt gb ob (y.map u8v) ∧ Below wr.heap.size wr wr.drew) := ⟨hra, hrb, below_drew1 wr⟩
        refine wp_region_held_drew (S := fun w' => (w'.rangeAt ga oa (x.map u8v) ∧ w'.rangeAt gb ob (y.map u8v) ∧ Below wr.heap.size wr w')) (by kernel_rfl) hS0 (fun hHeld => ?_)
        generalize wr.drew = V0 at *
        refine' wpAnyH_take (i := 0) (v := .slice A n c) rfl (by kernel_rfl) (by kernel_rfl) (by kernel_rfl) (fun _ _ _ h => h) (Or.inl ⟨by rfl, fun w' hw' => by go_simp⟩) hHeld ?_
        try simp only [Act.put, List.setIfInBounds_toArray, List.set_cons_zero, List.set_cons_succ]
        refine' wpAnyH_take (i := 1) (v := .int .i64 k) rfl (by kernel_rfl) (by kernel_rfl) (by kernel_rfl) (fun _ _ _ h => h) (Or.inl ⟨by rfl, fun w' hw' => by go_simp⟩) hHeld ?_
        try simp only [Act.put, List.setIfInBounds_toArray, List.set_cons_zero, List.set_cons_succ]
        refine' wpAnyH_take (i := 2) (v := .pointer (some ⟨ga, oa, none⟩)) rfl (by kernel_rfl) (by kernel_rfl) (by kernel_rfl) (fun _ _ _ h => h) (Or.inl ⟨by rfl, fun w' hw' => by have hv := hia w'; go_simp⟩) hHeld ?_
        try simp only [Act.put, List.setIfInBounds_toArray, List.set_cons_zero, List.set_cons_succ]
        refine' wpAnyH_take (i := 3) (v := _) rfl (by kernel_rfl) (by kernel_rfl) (by kernel_rfl) (fun _ _ _ h => h) (yieldsIf_load_mid (by rfl) 24 _ rfl _ _ rfl (x.map u8v) _ (fun w' h => h.1) hu rfl hzx) hHeld ?_
        try simp only [Act.put, List.setIfInBounds_toArray, List.set_cons_zero, List.set_cons_succ]
        refine' wpAnyH_take (i := 5) (v := .slice B n d) rfl (by kernel_rfl) (by kernel_rfl) (by kernel_rfl) (fun _ _ _ h => h) (Or.inl ⟨by rfl, fun w' hw' => by go_simp⟩) hHeld ?_
        try simp only [Act.put, List.setIfInBounds_toArray, List.set_cons_zero, List.set_cons_succ]
        refine' wpAnyH_take (i := 6) (v := .int .i64 k) rfl (by kernel_rfl) (by kernel_rfl) (by kernel_rfl) (fun _ _ _ h => h) (Or.inl ⟨by rfl, fun w' hw' => by go_simp⟩) hHeld ?_
        try simp only [Act.put, List.setIfInBounds_toArray, List.set_cons_zero, List.set_cons_succ]
        refine' wpAnyH_take (i := 7) (v := .pointer (some ⟨gb, ob, none⟩)) rfl (by kernel_rfl) (by kernel_rfl) (by kernel_rfl) (fun _ _ _ h => h) (Or.inl ⟨by rfl, fun w' hw' => by have hv := hib w'; go_simp⟩) hHeld ?_
        try simp only [Act.put, List.setIfInBounds_toArray, List.set_cons_zero, List.set_cons_succ]
        refine' wpAnyH_take (i := 8) (v := _) rfl (by kernel_rfl) (by kernel_rfl) (by kernel_rfl) (fun _ _ _ h => h) (yieldsIf_load_mid (by rfl) 24 _ rfl _ _ rfl (y.map u8v) _ (fun w' h => h.2.1) hu rfl hzy) hHeld ?_
        try simp only [Act.put, List.setIfInBounds_toArray, List.set_cons_zero, List.set_cons_succ]
        refine wpAnyH_ready (rs := [4, 9, 10]) (by kernel_rfl) (by simp) ?_
        refine AllReadyH.cons rfl (fun K hK => ?_) ?_
        · go_simp
          (with_reducible refine (cP _).mono ?_)
          rintro e1 W1 ⟨rfl, hbc⟩
          refine hK.out _ _ ⟨hHeld.1.below hbc, hHeld.2.1.below hbc, hHeld.2.2.trans (hbc.mono hHeld.2.2.size)⟩ (fun hHeld => ?_)
          clear hbc
          clear hK K
          try simp only [Act.put, List.setIfInBounds_toArray, List.set_cons_zero, List.set_cons_succ]
          refine wpAnyH_ready (rs := [9, 10]) (by kernel_rfl) (by simp) ?_
          refine AllReadyH.cons rfl (fun K hK => ?_) ?_
          · go_simp
            have hA := (Below.refl W1.heap.size W1).alloc (Nat.le_refl _) (.cells #[.int .u8 0, .int .u8 0, .int .u8 0, .int .u8 0, .int .u8 0, .int .u8 0, .int .u8 0, .int .u8 0, .int .u8 0, .int .u8 0, .int .u8 0, .int .u8 0, .int .u8 0, .int .u8 0, .int .u8 0, .int .u8 0, .int .u8 0, .int .u8 0, .int .u8 0, .int .u8 0, .int .u8 0, .int .u8 0, .int .u8 0, .int .u8 0, .int .u8 0, .int .u8 0, .int .u8 0, .int .u8 0, .int .u8 0, .int .u8 0, .int .u8 0, .int .u8 0] 24)
            have hP := Blk.new W1 24 #[.int .u8 0, .int .u8 0, .int .u8 0, .int .u8 0, .int .u8 0, .int .u8 0, .int .u8 0, .int .u8 0, .int .u8 0, .int .u8 0, .int .u8 0, .int .u8 0, .int .u8 0, .int .u8 0, .int .u8 0, .int .u8 0, .int .u8 0, .int .u8 0, .int .u8 0, .int .u8 0, .int .u8 0, .int .u8 0, .int .u8 0, .int .u8 0, .int .u8 0, .int .u8 0, .int .u8 0, .int .u8 0, .int .u8 0, .int .u8 0, .int .u8 0, .int .u8 0]
            have hpg := hHeld.2.2.size
            have hS : ((W1.alloc (.cells #[.int .u8 0, .int .u8 0, .int .u8 0, .int .u8 0, .int .u8 0, .int .u8 0, .int .u8 0, .int .u8 0, .int .u8 0, .int .u8 0, .int .u8 0, .int .u8 0, .int .u8 0, .int .u8 0, .int .u8 0, .int .u8 0, .int .u8 0, .int .u8 0, .int .u8 0, .int .u8 0, .int .u8 0, .int .u8 0, .int .u8 0, .int .u8 0, .int .u8 0, .int .u8 0, .int .u8 0, .int .u8 0, .int .u8 0, .int .u8 0, .int .u8 0, .int .u8 0] 24)).rangeAt ga oa (x.map u8v) ∧ (W1.alloc (.cells #[.int .u8 0, .int .u8 0, .int .u8 0, .int .u8 0, .int .u8 0, .int .u8 0, .int .u8 0, .int .u8 0, .int .u8 0, .int .u8 0, .int .u8 0, .int .u8 0, .int .u8 0, .int .u8 0, .int .u8 0, .int .u8 0, .int .u8 0, .int .u8 0, .int .u8 0, .int .u8 0, .int .u8 0, .int .u8 0, .int .u8 0, .int .u8 0, .int .u8 0, .int .u8 0, .int .u8 0, .int .u8 0, .int .u8 0, .int .u8 0, .int .u8 0, .int .u8 0] 24)).rangeAt gb ob (y.map u8v) ∧ Below wr.heap.size wr (W1.alloc (.cells #[.int .u8 0, .int .u8 0, .int .u8 0, .int .u8 0, .int .u8 0, .int .u8 0, .int .u8 0, .int .u8 0, .int .u8 0, .int .u8 0, .int .u8 0, .int .u8 0, .int .u8 0, .int .u8 0, .int .u8 0, .int .u8 0, .int .u8 0, .int .u8 0, .int .u8 0, .int .u8 0, .int .u8 0, .int .u8 0, .int .u8 0, .int .u8 0, .int .u8 0, .int .u8 0, .int .u8 0, .int .u8 0, .int .u8 0, .int .u8 0, .int .u8 0, .int .u8 0] 24))) := ⟨hHeld.1.below hA, hHeld.2.1.below hA, hHeld.2.2.trans (hA.mono hHeld.2.2.size)⟩
            generalize W1.alloc (.cells #[.int .u8 0, .int .u8 0, .int .u8 0, .int .u8 0, .int .u8 0, .int .u8 0, .int .u8 0, .int .u8 0, .int .u8 0, .int .u8 0, .int .u8 0, .int .u8 0, .int .u8 0, .int .u8 0, .int .u8 0, .int .u8 0, .int .u8 0, .int .u8 0, .int .u8 0, .int .u8 0, .int .u8 0, .int .u8 0, .int .u8 0, .int .u8 0, .int .u8 0, .int .u8 0, .int .u8 0, .int .u8 0, .int .u8 0, .int .u8 0, .int .u8 0, .int .u8 0] 24) = W2 at *
            refine hK.out _ _ hS (fun hHeld => ?_)
            clear hA hS
            clear hK K
            try simp only [Act.put, List.setIfInBounds_toArray, List.set_cons_zero, List.set_cons_succ]
            refine wpAnyH_ready (rs := [10]) (by kernel_rfl) (by simp) ?_
            refine AllReadyH.cons rfl (fun K hK => ?_) ?_
            · go_simp
              have hA := (Below.refl W2.heap.size W2).alloc (Nat.le_refl _) (.cells #[.int .u8 0, .int .u8 0, .int .u8 0, .int .u8 0, .int .u8 0, .int .u8 0, .int .u8 0, .int .u8 0, .int .u8 0, .int .u8 0, .int .u8 0, .int .u8 0, .int .u8 0, .int .u8 0, .int .u8 0, .int .u8 0, .int .u8 0, .int .u8 0, .int .u8 0, .int .u8 0, .int .u8 0, .int .u8 0, .int .u8 0, .int .u8 0, .int .u8 0, .int .u8 0, .int .u8 0, .int .u8 0, .int .u8 0, .int .u8 0, .int .u8 0, .int .u8 0] 24)
              have hQ := Blk.new W2 24 #[.int .u8 0, .int .u8 0, .int .u8 0, .int .u8 0, .int .u8 0, .int .u8 0, .int .u8 0, .int .u8 0, .int .u8 0, .int .u8 0, .int .u8 0, .int .u8 0, .int .u8 0, .int .u8 0, .int .u8 0, .int .u8 0, .int .u8 0, .int .u8 0, .int .u8 0, .int .u8 0, .int .u8 0, .int .u8 0, .int .u8 0, .int .u8 0, .int .u8 0, .int .u8 0, .int .u8 0, .int .u8 0, .int .u8 0, .int .u8 0, .int .u8 0, .int .u8 0]
              have hqg := hHeld.2.2.size
              have hord := hP.lt
              replace hP := hP.below hA
              have hS : ((W2.alloc (.cells #[.int .u8 0, .int .u8 0, .int .u8 0, .int .u8 0, .int .u8 0, .int .u8 0, .int .u8 0, .int .u8 0, .int .u8 0, .int .u8 0, .int .u8 0, .int .u8 0, .int .u8 0, .int .u8 0, .int .u8 0, .int .u8 0, .int .u8 0, .int .u8 0, .int .u8 0, .int .u8 0, .int .u8 0, .int .u8 0, .int .u8 0, .int .u8 0, .int .u8 0, .int .u8 0, .int .u8 0, .int .u8 0, .int .u8 0, .int .u8 0, .int .u8 0, .int .u8 0] 24)).rangeAt ga oa (x.map u8v) ∧ (W2.alloc (.cells #[.int .u8 0, .int .u8 0, .int .u8 0, .int .u8 0, .int .u8 0, .int .u8 0, .int .u8 0, .int .u8 0, .int .u8 0, .int .u8 0, .int .u8 0, .int .u8 0, .int .u8 0, .int .u8 0, .int .u8 0, .int .u8 0, .int .u8 0, .int .u8 0, .int .u8 0, .int .u8 0, .int .u8 0, .int .u8 0, .int .u8 0, .int .u8 0, .int .u8 0, .int .u8 0, .int .u8 0, .int .u8 0, .int .u8 0, .int .u8 0, .int .u8 0, .int .u8 0] 24)).rangeAt gb ob (y.map u8v) ∧ Below wr.heap.size wr (W2.alloc (.cells #[.int .u8 0, .int .u8 0, .int .u8 0, .int .u8 0, .int .u8 0, .int .u8 0, .int .u8 0, .int .u8 0, .int .u8 0, .int .u8 0, .int .u8 0, .int .u8 0, .int .u8 0, .int .u8 0, .int .u8 0, .int .u8 0, .int .u8 0, .int .u8 0, .int .u8 0, .int .u8 0, .int .u8 0, .int .u8 0, .int .u8 0, .int .u8 0, .int .u8 0, .int .u8 0, .int .u8 0, .int .u8 0, .int .u8 0, .int .u8 0, .int .u8 0, .int .u8 0] 24))) := ⟨hHeld.1.below hA, hHeld.2.1.below hA, hHeld.2.2.trans (hA.mono hHeld.2.2.size)⟩
              generalize W2.alloc (.cells #[.int .u8 0, .int .u8 0, .int .u8 0, .int .u8 0, .int .u8 0, .int .u8 0, .int .u8 0, .int .u8 0, .int .u8 0, .int .u8 0, .int .u8 0, .int .u8 0, .int .u8 0, .int .u8 0, .int .u8 0, .int .u8 0, .int .u8 0, .int .u8 0, .int .u8 0, .int .u8 0, .int .u8 0, .int .u8 0, .int .u8 0, .int .u8 0, .int .u8 0, .int .u8 0, .int .u8 0, .int .u8 0, .int .u8 0, .int .u8 0, .int .u8 0, .int .u8 0] 24) = W3 at *
              refine hK.out _ _ hS (fun hHeld => ?_)
              clear hA hS
              clear hK K
              try simp only [Act.put, List.setIfInBounds_toArray, List.set_cons_zero, List.set_cons_succ]
              have hpq : W1.heap.size ≠ W2.heap.size := by have h1 := hP.lt; have h2 := hQ.lt; omega
              have hpge : wr.heap.size ≤ W1.heap.size := hpg
              have hqge : wr.heap.size ≤ W2.heap.size := hqg
              refine wpAnyH_ready (rs := [11]) (by kernel_rfl) (by simp) ?_
              refine AllReadyH.cons rfl (fun K hK => ?_) AllReadyH.nil
              rw [if_pos (by rfl)]
              refine wp_store_blk 24 _ _ rfl _ _ (idVals X) 24 hP rfl rfl (by rw [idVals_size, HLX.out]; exact sizeId) (by rw [idVals_size, HLX.out]; rfl) (idVals_one _) ?_
              intro w8 hP8 hg8
              have hQ8 := blk_gb hQ hg8 (fun e => hpq e.symm)
              have hS8 : (w8.rangeAt ga oa (x.map u8v) ∧ w8.rangeAt gb ob (y.map u8v) ∧ Below wr.heap.size wr w8) := ⟨range_gb hHeld.1 hg8 (by have := HGA.out; omega), range_gb hHeld.2.1 hg8 (by have := HGB.out; omega), hHeld.2.2.grown hg8 hHeld.2.2.size (by intro i e; cases e; exact hpge)⟩
              refine hK.out _ _ hS8 (fun hHeld => ?_)
              clear hK K hg8 hS8
              try simp only [Act.put, List.setIfInBounds_toArray, List.set_cons_zero, List.set_cons_succ]
              refine wpAnyH_ready (rs := [12]) (by kernel_rfl) (by simp) ?_
              refine AllReadyH.cons rfl (fun K hK => ?_) AllReadyH.nil
              rw [if_pos (by rfl)]
              refine wp_store_blk 24 _ _ rfl _ _ (y.map u8v).toArray 24 hQ8 rfl rfl (by rw [show (y.map u8v).toArray.size = 32 by rw [List.size_toArray, List.length_map, HLY.out]]; exact sizeId) (by rw [show (y.map u8v).toArray.size = 32 by rw [List.size_toArray, List.length_map, HLY.out]]; rfl) (idVals_one y) ?_
              intro w9 hQ9 hg9
              have hP9 := blk_gb hP8 hg9 hpq
              have hS9 : (w9.rangeAt ga oa (x.map u8v) ∧ w9.rangeAt gb ob (y.map u8v) ∧ Below wr.heap.size wr w9) := ⟨range_gb hHeld.1 hg9 (by have := HGA.out; omega), range_gb hHeld.2.1 hg9 (by have := HGB.out; omega), hHeld.2.2.grown hg9 hHeld.2.2.size (by intro i e; cases e; exact hqge)⟩
              refine hK.out _ _ hS9 (fun hHeld => ?_)
              clear hK K hg9 hS9
              try simp only [Act.put, List.setIfInBounds_toArray, List.set_cons_zero, List.set_cons_succ]
              refine wpAnyH_done (by kernel_rfl) ?_ _
              have rP := range_blk hP9
              have rQ : w9.rangeAt W2.heap.size 0 (y.map u8v) := range_blk hQ9
              have hbw := hHeld.2.2
              have hb9 := HB.out.trans (hbw.mono HB.out.size)
              have hown9 := own_below HOW.out hbw
              have hI9 := hI.below hb9
              clear hP hQ hP8 hQ8 hP9 hQ9 hbw hra hrb hS0
              go_wp2_with (first
                | (with_reducible refine wpList_load_if (by with_unfolding_all rfl) 24 _ rfl _ 0 rfl (m.map u8v) _ hI9 hu (by with_unfolding_all rfl) hzm ?_)
                | (go_at_call 19; (with_reducible refine (cB _).mono ?_); rintro e10 w10 ⟨rfl, hb10⟩; replace hb9 := hb9.trans (hb10.mono hb9.size); replace hown9 := own_below hown9 hb10; replace rP := rP.below hb10; replace rQ := rQ.below hb10)
                | (with_reducible refine wpList_load_if (by with_unfolding_all rfl) 24 _ rfl _ 0 rfl (X.map u8v) _ rP hu (by with_unfolding_all rfl) hzX ?_)
                | (with_reducible refine wpList_load_if (by with_unfolding_all rfl) 24 _ rfl _ 0 rfl (y.map u8v) _ rQ hu (by with_unfolding_all rfl) hzy ?_)
                | ((with_reducible refine wpList_build2 rfl _ _ rfl X y HLX.out HLY.out rfl rfl ?_); intro cs hcs)
                | (at_builtin; refine wpList_append_own _ rfl _ _ 25 rfl (w.heap.size + 1) 24 j0 (.agg (idVals zeroB)) 32 32 Tryz.underlying25 hj hjz hjs hjb rfl (by decide) _ _ _ rfl (hown9.alloc _) ⟨w10.heap.size, 0, none⟩ 2 2 (X.map u8v ++ y.map u8v) rfl ?l1 hcs ?l5 ?l2 ?l3 ?l4 ?_))
              case l1 => rw [List.length_append, List.length_map, List.length_map, HLX.out, HLY.out]
              case l5 => intro u hu; rcases List.mem_append.1 hu with hu | hu <;> exact u8v_one _ u hu
              case l2 => unfold maxLen; have := HN.out; omega
              case l3 => have := HN.out; omega
              case l4 => (try simp); have := hb9.size; omega
              intro v11 w11 hown11 hg11 _
              have hb11 := (hb9.alloc hb9.size _).grown hg11 (hb9.alloc hb9.size _).size (fun k hk => by rw [hk1]; exact (hown9.lt k hk).1)
              clear hg11
              go_wp2
              go_roundw
              case rel => exact ⟨k + 1, hlt, by go_num, (by rw [HF2.out, idsV_append, show idsV [X, y] = X.map u8v ++ y.map u8v by simp [idsV], show 2 * (k + 1) = 2 * k + 2 by omega]; exact hown11), hb11⟩
              case measure => simp [intOf]; omega
            exact AllReadyH.nil
          refine AllReadyH.cons rfl (fun K hK => ?_) ?_
          · go_simp
            have hA := (Below.refl W1.heap.size W1).alloc (Nat.le_refl _) (.cells #[.int .u8 0, .int .u8 0, .int .u8 0, .int .u8 0, .int .u8 0, .int .u8 0, .int .u8 0, .int .u8 0, .int .u8 0, .int .u8 0, .int .u8 0, .int .u8 0, .int .u8 0, .int .u8 0, .int .u8 0, .int .u8 0, .int .u8 0, .int .u8 0, .int .u8 0, .int .u8 0, .int .u8 0, .int .u8 0, .int .u8 0, .int .u8 0, .int .u8 0, .int .u8 0, .int .u8 0, .int .u8 0, .int .u8 0, .int .u8 0, .int .u8 0, .int .u8 0] 24)
            have hQ := Blk.new W1 24 #[.int .u8 0, .int .u8 0, .int .u8 0, .int .u8 0, .int .u8 0, .int .u8 0, .int .u8 0, .int .u8 0, .int .u8 0, .int .u8 0, .int .u8 0, .int .u8 0, .int .u8 0, .int .u8 0, .int .u8 0, .int .u8 0, .int .u8 0, .int .u8 0, .int .u8 0, .int .u8 0, .int .u8 0, .int .u8 0, .int .u8 0, .int .u8 0, .int .u8 0, .int .u8 0, .int .u8 0, .int .u8 0, .int .u8 0, .int .u8 0, .int .u8 0, .int .u8 0]
            have hqg := hHeld.2.2.size
            have hS : ((W1.alloc (.cells #[.int .u8 0, .int .u8 0, .int .u8 0, .int .u8 0, .int .u8 0, .int .u8 0, .int .u8 0, .int .u8 0, .int .u8 0, .int .u8 0, .int .u8 0, .int .u8 0, .int .u8 0, .int .u8 0, .int .u8 0, .int .u8 0, .int .u8 0, .int .u8 0, .int .u8 0, .int .u8 0, .int .u8 0, .int .u8 0, .int .u8 0, .int .u8 0, .int .u8 0, .int .u8 0, .int .u8 0, .int .u8 0, .int .u8 0, .int .u8 0, .int .u8 0, .int .u8 0] 24)).rangeAt ga oa (x.map u8v) ∧ (W1.alloc (.cells #[.int .u8 0, .int .u8 0, .int .u8 0, .int .u8 0, .int .u8 0, .int .u8 0, .int .u8 0, .int .u8 0, .int .u8 0, .int .u8 0, .int .u8 0, .int .u8 0, .int .u8 0, .int .u8 0, .int .u8 0, .int .u8 0, .int .u8 0, .int .u8 0, .int .u8 0, .int .u8 0, .int .u8 0, .int .u8 0, .int .u8 0, .int .u8 0, .int .u8 0, .int .u8 0, .int .u8 0, .int .u8 0, .int .u8 0, .int .u8 0, .int .u8 0, .int .u8 0] 24)).rangeAt gb ob (y.map u8v) ∧ Below wr.heap.size wr (W1.alloc (.cells #[.int .u8 0, .int .u8 0, .int .u8 0, .int .u8 0, .int .u8 0, .int .u8 0, .int .u8 0, .int .u8 0, .int .u8 0, .int .u8 0, .int .u8 0, .int .u8 0, .int .u8 0, .int .u8 0, .int .u8 0, .int .u8 0, .int .u8 0, .int .u8 0, .int .u8 0, .int .u8 0, .int .u8 0, .int .u8 0, .int .u8 0, .int .u8 0, .int .u8 0, .int .u8 0, .int .u8 0, .int .u8 0, .int .u8 0, .int .u8 0, .int .u8 0, .int .u8 0] 24))) := ⟨hHeld.1.below hA, hHeld.2.1.below hA, hHeld.2.2.trans (hA.mono hHeld.2.2.size)⟩
            generalize W1.alloc (.cells #[.int .u8 0, .int .u8 0, .int .u8 0, .int .u8 0, .int .u8 0, .int .u8 0, .int .u8 0, .int .u8 0, .int .u8 0, .int .u8 0, .int .u8 0, .int .u8 0, .int .u8 0, .int .u8 0, .int .u8 0, .int .u8 0, .int .u8 0, .int .u8 0, .int .u8 0, .int .u8 0, .int .u8 0, .int .u8 0, .int .u8 0, .int .u8 0, .int .u8 0, .int .u8 0, .int .u8 0, .int .u8 0, .int .u8 0, .int .u8 0, .int .u8 0, .int .u8 0] 24) = W4 at *
            refine hK.out _ _ hS (fun hHeld => ?_)
            clear hA hS
            clear hK K
            try simp only [Act.put, List.setIfInBounds_toArray, List.set_cons_zero, List.set_cons_succ]
            refine wpAnyH_ready (rs := [9]) (by kernel_rfl) (by simp) ?_
            refine AllReadyH.cons rfl (fun K hK => ?_) ?_
            · go_simp
              have hA := (Below.refl W4.heap.size W4).alloc (Nat.le_refl _) (.cells #[.int .u8 0, .int .u8 0, .int .u8 0, .int .u8 0, .int .u8 0, .int .u8 0, .int .u8 0, .int .u8 0, .int .u8 0, .int .u8 0, .int .u8 0, .int .u8 0, .int .u8 0, .int .u8 0, .int .u8 0, .int .u8 0, .int .u8 0, .int .u8 0, .int .u8 0, .int .u8 0, .int .u8 0, .int .u8 0, .int .u8 0, .int .u8 0, .int .u8 0, .int .u8 0, .int .u8 0, .int .u8 0, .int .u8 0, .int .u8 0, .int .u8 0, .int .u8 0] 24)
              have hP := Blk.new W4 24 #[.int .u8 0, .int .u8 0, .int .u8 0, .int .u8 0, .int .u8 0, .int .u8 0, .int .u8 0, .int .u8 0, .int .u8 0, .int .u8 0, .int .u8 0, .int .u8 0, .int .u8 0, .int .u8 0, .int .u8 0, .int .u8 0, .int .u8 0, .int .u8 0, .int .u8 0, .int .u8 0, .int .u8 0, .int .u8 0, .int .u8 0, .int .u8 0, .int .u8 0, .int .u8 0, .int .u8 0, .int .u8 0, .int .u8 0, .int .u8 0, .int .u8 0, .int .u8 0]
              have hpg := hHeld.2.2.size
              have hord := hQ.lt
              replace hQ := hQ.below hA
              have hS : ((W4.alloc (.cells #[.int .u8 0, .int .u8 0, .int .u8 0, .int .u8 0, .int .u8 0, .int .u8 0, .int .u8 0, .int .u8 0, .int .u8 0, .int .u8 0, .int .u8 0, .int .u8 0, .int .u8 0, .int .u8 0, .int .u8 0, .int .u8 0, .int .u8 0, .int .u8 0, .int .u8 0, .int .u8 0, .int .u8 0, .int .u8 0, .int .u8 0, .int .u8 0, .int .u8 0, .int .u8 0, .int .u8 0, .int .u8 0, .int .u8 0, .int .u8 0, .int .u8 0, .int .u8 0] 24)).rangeAt ga oa (x.map u8v) ∧ (W4.alloc (.cells #[.int .u8 0, .int .u8 0, .int .u8 0, .int .u8 0, .int .u8 0, .int .u8 0, .int .u8 0, .int .u8 0, .int .u8 0, .int .u8 0, .int .u8 0, .int .u8 0, .int .u8 0, .int .u8 0, .int .u8 0, .int .u8 0, .int .u8 0, .int .u8 0, .int .u8 0, .int .u8 0, .int .u8 0, .int .u8 0, .int .u8 0, .int .u8 0, .int .u8 0, .int .u8 0, .int .u8 0, .int .u8 0, .int .u8 0, .int .u8 0, .int .u8 0, .int .u8 0] 24)).rangeAt gb ob (y.map u8v) ∧ Below wr.heap.size wr (W4.alloc (.cells #[.int .u8 0, .int .u8 0, .int .u8 0, .int .u8 0, .int .u8 0, .int .u8 0, .int .u8 0, .int .u8 0, .int .u8 0, .int .u8 0, .int .u8 0, .int .u8 0, .int .u8 0, .int .u8 0, .int .u8 0, .int .u8 0, .int .u8 0, .int .u8 0, .int .u8 0, .int .u8 0, .int .u8 0, .int .u8 0, .int .u8 0, .int .u8 0, .int .u8 0, .int .u8 0, .int .u8 0, .int .u8 0, .int .u8 0, .int .u8 0, .int .u8 0, .int .u8 0] 24))) := ⟨hHeld.1.below hA, hHeld.2.1.below hA, hHeld.2.2.trans (hA.mono hHeld.2.2.size)⟩
              generalize W4.alloc (.cells #[.int .u8 0, .int .u8 0, .int .u8 0, .int .u8 0, .int .u8 0, .int .u8 0, .int .u8 0, .int .u8 0, .int .u8 0, .int .u8 0, .int .u8 0, .int .u8 0, .int .u8 0, .int .u8 0, .int .u8 0, .int .u8 0, .int .u8 0, .int .u8 0, .int .u8 0, .int .u8 0, .int .u8 0, .int .u8 0, .int .u8 0, .int .u8 0, .int .u8 0, .int .u8 0, .int .u8 0, .int .u8 0, .int .u8 0, .int .u8 0, .int .u8 0, .int .u8 0] 24) = W5 at *
              refine hK.out _ _ hS (fun hHeld => ?_)
              clear hA hS
              clear hK K
              try simp only [Act.put, List.setIfInBounds_toArray, List.set_cons_zero, List.set_cons_succ]
              have hpq : W4.heap.size ≠ W1.heap.size := by have h1 := hP.lt; have h2 := hQ.lt; omega
              have hpge : wr.heap.size ≤ W4.heap.size := hpg
              have hqge : wr.heap.size ≤ W1.heap.size := hqg
              refine wpAnyH_ready (rs := [11]) (by kernel_rfl) (by simp) ?_
              refine AllReadyH.cons rfl (fun K hK => ?_) AllReadyH.nil
              rw [if_pos (by rfl)]
              refine wp_store_blk 24 _ _ rfl _ _ (idVals X) 24 hP rfl rfl (by rw [idVals_size, HLX.out]; exact sizeId) (by rw [idVals_size, HLX.out]; rfl) (idVals_one _) ?_
              intro w8 hP8 hg8
              have hQ8 := blk_gb hQ hg8 (fun e => hpq e.symm)
              have hS8 : (w8.rangeAt ga oa (x.map u8v) ∧ w8.rangeAt gb ob (y.map u8v) ∧ Below wr.heap.size wr w8) := ⟨range_gb hHeld.1 hg8 (by have := HGA.out; omega), range_gb hHeld.2.1 hg8 (by have := HGB.out; omega), hHeld.2.2.grown hg8 hHeld.2.2.size (by intro i e; cases e; exact hpge)⟩
              refine hK.out _ _ hS8 (fun hHeld => ?_)
              clear hK K hg8 hS8
              try simp only [Act.put, List.setIfInBounds_toArray, List.set_cons_zero, List.set_cons_succ]
              refine wpAnyH_ready (rs := [12]) (by kernel_rfl) (by simp) ?_
              refine AllReadyH.cons rfl (fun K hK => ?_) AllReadyH.nil
              rw [if_pos (by rfl)]
              refine wp_store_blk 24 _ _ rfl _ _ (y.map u8v).toArray 24 hQ8 rfl rfl (by rw [show (y.map u8v).toArray.size = 32 by rw [List.size_toArray, List.length_map, HLY.out]]; exact sizeId) (by rw [show (y.map u8v).toArray.size = 32 by rw [List.size_toArray, List.length_map, HLY.out]]; rfl) (idVals_one y) ?_
              intro w9 hQ9 hg9
              have hP9 := blk_gb hP8 hg9 hpq
              have hS9 : (w9.rangeAt ga oa (x.map u8v) ∧ w9.rangeAt gb ob (y.map u8v) ∧ Below wr.heap.size wr w9) := ⟨range_gb hHeld.1 hg9 (by have := HGA.out; omega), range_gb hHeld.2.1 hg9 (by have := HGB.out; omega), hHeld.2.2.grown hg9 hHeld.2.2.size (by intro i e; cases e; exact hqge)⟩
              refine hK.out _ _ hS9 (fun hHeld => ?_)
              clear hK K hg9 hS9
              try simp only [Act.put, List.setIfInBounds_toArray, List.set_cons_zero, List.set_cons_succ]
              refine wpAnyH_done (by kernel_rfl) ?_ _
              have rP := range_blk hP9
              have rQ : w9.rangeAt W1.heap.size 0 (y.map u8v) := range_blk hQ9
              have hbw := hHeld.2.2
              have hb9 := HB.out.trans (hbw.mono HB.out.size)
              have hown9 := own_below HOW.out hbw
              have hI9 := hI.below hb9
              clear hP hQ hP8 hQ8 hP9 hQ9 hbw hra hrb hS0
              go_wp2_with (first
                | (with_reducible refine wpList_load_if (by with_unfolding_all rfl) 24 _ rfl _ 0 rfl (m.map u8v) _ hI9 hu (by with_unfolding_all rfl) hzm ?_)
                | (go_at_call 19; (with_reducible refine (cB _).mono ?_); rintro e10 w10 ⟨rfl, hb10⟩; replace hb9 := hb9.trans (hb10.mono hb9.size); replace hown9 := own_below hown9 hb10; replace rP := rP.below hb10; replace rQ := rQ.below hb10)
                | (with_reducible refine wpList_load_if (by with_unfolding_all rfl) 24 _ rfl _ 0 rfl (X.map u8v) _ rP hu (by with_unfolding_all rfl) hzX ?_)
                | (with_reducible refine wpList_load_if (by with_unfolding_all rfl) 24 _ rfl _ 0 rfl (y.map u8v) _ rQ hu (by with_unfolding_all rfl) hzy ?_)
                | ((with_reducible refine wpList_build2 rfl _ _ rfl X y HLX.out HLY.out rfl rfl ?_); intro cs hcs)
                | (at_builtin; refine wpList_append_own _ rfl _ _ 25 rfl (w.heap.size + 1) 24 j0 (.agg (idVals zeroB)) 32 32 Tryz.underlying25 hj hjz hjs hjb rfl (by decide) _ _ _ rfl (hown9.alloc _) ⟨w10.heap.size, 0, none⟩ 2 2 (X.map u8v ++ y.map u8v) rfl ?l1 hcs ?l5 ?l2 ?l3 ?l4 ?_))
              case l1 => rw [List.length_append, List.length_map, List.length_map, HLX.out, HLY.out]
              case l5 => intro u hu; rcases List.mem_append.1 hu with hu | hu <;> exact u8v_one _ u hu
              case l2 => unfold maxLen; have := HN.out; omega
              case l3 => have := HN.out; omega
              case l4 => (try simp); have := hb9.size; omega
              intro v11 w11 hown11 hg11 _
              have hb11 := (hb9.alloc hb9.size _).grown hg11 (hb9.alloc hb9.size _).size (fun k hk => by rw [hk1]; exact (hown9.lt k hk).1)
              clear hg11
              go_wp2
              go_roundw
              case rel => exact ⟨k + 1, hlt, by go_num, (by rw [HF2.out, idsV_append, show idsV [X, y] = X.map u8v ++ y.map u8v by simp [idsV], show 2 * (k + 1) = 2 * k + 2 by omega]; exact hown11), hb11⟩
              case measure => simp [intOf]; omega
            exact AllReadyH.nil
          exact AllReadyH.nil
        refine AllReadyH.cons rfl (fun K hK => ?_) ?_
        · go_simp
          have hA := (Below.refl V0.heap.size V0).alloc (Nat.le_refl _) (.cells #[.int .u8 0, .int .u8 0, .int .u8 0, .int .u8 0, .int .u8 0, .int .u8 0, .int .u8 0, .int .u8 0, .int .u8 0, .int .u8 0, .int .u8 0, .int .u8 0, .int .u8 0, .int .u8 0, .int .u8 0, .int .u8 0, .int .u8 0, .int .u8 0, .int .u8 0, .int .u8 0, .int .u8 0, .int .u8 0, .int .u8 0, .int .u8 0, .int .u8 0, .int .u8 0, .int .u8 0, .int .u8 0, .int .u8 0, .int .u8 0, .int .u8 0, .int .u8 0] 24)
          have hP := Blk.new V0 24 #[.int .u8 0, .int .u8 0, .int .u8 0, .int .u8 0, .int .u8 0, .int .u8 0, .int .u8 0, .int .u8 0, .int .u8 0, .int .u8 0, .int .u8 0, .int .u8 0, .int .u8 0, .int .u8 0, .int .u8 0, .int .u8 0, .int .u8 0, .int .u8 0, .int .u8 0, .int .u8 0, .int .u8 0, .int .u8 0, .int .u8 0, .int .u8 0, .int .u8 0, .int .u8 0, .int .u8 0, .int .u8 0, .int .u8 0, .int .u8 0, .int .u8 0, .int .u8 0]
          have hpg := hHeld.2.2.size
          have hS : ((V0.alloc (.cells #[.int .u8 0, .int .u8 0, .int .u8 0, .int .u8 0, .int .u8 0, .int .u8 0, .int .u8 0, .int .u8 0, .int .u8 0, .int .u8 0, .int .u8 0, .int .u8 0, .int .u8 0, .int .u8 0, .int .u8 0, .int .u8 0, .int .u8 0, .int .u8 0, .int .u8 0, .int .u8 0, .int .u8 0, .int .u8 0, .int .u8 0, .int .u8 0, .int .u8 0, .int .u8 0, .int .u8 0, .int .u8 0, .int .u8 0, .int .u8 0, .int .u8 0, .int .u8 0] 24)).rangeAt ga oa (x.map u8v) ∧ (V0.alloc (.cells #[.int .u8 0, .int .u8 0, .int .u8 0, .int .u8 0, .int .u8 0, .int .u8 0, .int .u8 0, .int .u8 0, .int .u8 0, .int .u8 0, .int .u8 0, .int .u8 0, .int .u8 0, .int .u8 0, .int .u8 0, .int .u8 0, .int .u8 0, .int .u8 0, .int .u8 0, .int .u8 0, .int .u8 0, .int .u8 0, .int .u8 0, .int .u8 0, .int .u8 0, .int .u8 0, .int .u8 0, .int .u8 0, .int .u8 0, .int .u8 0, .int .u8 0, .int .u8 0] 24)).rangeAt gb ob (y.map u8v) ∧ Below wr.heap.size wr (V0.alloc (.cells #[.int .u8 0, .int .u8 0, .int .u8 0, .int .u8 0, .int .u8 0, .int .u8 0, .int .u8 0, .int .u8 0, .int .u8 0, .int .u8 0, .int .u8 0, .int .u8 0, .int .u8 0, .int .u8 0, .int .u8 0, .int .u8 0, .int .u8 0, .int .u8 0, .int .u8 0, .int .u8 0, .int .u8 0, .int .u8 0, .int .u8 0, .int .u8 0, .int .u8 0, .int .u8 0, .int .u8 0, .int .u8 0, .int .u8 0, .int .u8 0, .int .u8 0, .int .u8 0] 24))) := ⟨hHeld.1.below hA, hHeld.2.1.below hA, hHeld.2.2.trans (hA.mono hHeld.2.2.size)⟩
          generalize V0.alloc (.cells #[.int .u8 0, .int .u8 0, .int .u8 0, .int .u8 0, .int .u8 0, .int .u8 0, .int .u8 0, .int .u8 0, .int .u8 0, .int .u8 0, .int .u8 0, .int .u8 0, .int .u8 0, .int .u8 0, .int .u8 0, .int .u8 0, .int .u8 0, .int .u8 0, .int .u8 0, .int .u8 0, .int .u8 0, .int .u8 0, .int .u8 0, .int .u8 0, .int .u8 0, .int .u8 0, .int .u8 0, .int .u8 0, .int .u8 0, .int .u8 0, .int .u8 0, .int .u8 0] 24) = W6 at *
          refine hK.out _ _ hS (fun hHeld => ?_)
          clear hA hS
          clear hK K
          try simp only [Act.put, List.setIfInBounds_toArray, List.set_cons_zero, List.set_cons_succ]
          refine wpAnyH_ready (rs := [4, 10]) (by kernel_rfl) (by simp) ?_
          refine AllReadyH.cons rfl (fun K hK => ?_) ?_
          · go_simp
            (with_reducible refine (cP _).mono ?_)
            rintro e7 W7 ⟨rfl, hbc⟩
            replace hP := hP.below hbc
            refine hK.out _ _ ⟨hHeld.1.below hbc, hHeld.2.1.below hbc, hHeld.2.2.trans (hbc.mono hHeld.2.2.size)⟩ (fun hHeld => ?_)
            clear hbc
            clear hK K
            try simp only [Act.put, List.setIfInBounds_toArray, List.set_cons_zero, List.set_cons_succ]
            refine wpAnyH_ready (rs := [10]) (by kernel_rfl) (by simp) ?_
            refine AllReadyH.cons rfl (fun K hK => ?_) ?_
            · go_simp
              have hA := (Below.refl W7.heap.size W7).alloc (Nat.le_refl _) (.cells #[.int .u8 0, .int .u8 0, .int .u8 0, .int .u8 0, .int .u8 0, .int .u8 0, .int .u8 0, .int .u8 0, .int .u8 0, .int .u8 0, .int .u8 0, .int .u8 0, .int .u8 0, .int .u8 0, .int .u8 0, .int .u8 0, .int .u8 0, .int .u8 0, .int .u8 0, .int .u8 0, .int .u8 0, .int .u8 0, .int .u8 0, .int .u8 0, .int .u8 0, .int .u8 0, .int .u8 0, .int .u8 0, .int .u8 0, .int .u8 0, .int .u8 0, .int .u8 0] 24)
              have hQ := Blk.new W7 24 #[.int .u8 0, .int .u8 0, .int .u8 0, .int .u8 0, .int .u8 0, .int .u8 0, .int .u8 0, .int .u8 0, .int .u8 0, .int .u8 0, .int .u8 0, .int .u8 0, .int .u8 0, .int .u8 0, .int .u8 0, .int .u8 0, .int .u8 0, .int .u8 0, .int .u8 0, .int .u8 0, .int .u8 0, .int .u8 0, .int .u8 0, .int .u8 0, .int .u8 0, .int .u8 0, .int .u8 0, .int .u8 0, .int .u8 0, .int .u8 0, .int .u8 0, .int .u8 0]
              have hqg := hHeld.2.2.size
              have hord := hP.lt
              replace hP := hP.below hA
              have hS : ((W7.alloc (.cells #[.int .u8 0, .int .u8 0, .int .u8 0, .int .u8 0, .int .u8 0, .int .u8 0, .int .u8 0, .int .u8 0, .int .u8 0, .int .u8 0, .int .u8 0, .int .u8 0, .int .u8 0, .int .u8 0, .int .u8 0, .int .u8 0, .int .u8 0, .int .u8 0, .int .u8 0, .int .u8 0, .int .u8 0, .int .u8 0, .int .u8 0, .int .u8 0, .int .u8 0, .int .u8 0, .int .u8 0, .int .u8 0, .int .u8 0, .int .u8 0, .int .u8 0, .int .u8 0] 24)).rangeAt ga oa (x.map u8v) ∧ (W7.alloc (.cells #[.int .u8 0, .int .u8 0, .int .u8 0, .int .u8 0, .int .u8 0, .int .u8 0, .int .u8 0, .int .u8 0, .int .u8 0, .int .u8 0, .int .u8 0, .int .u8 0, .int .u8 0, .int .u8 0, .int .u8 0, .int .u8 0, .int .u8 0, .int .u8 0, .int .u8 0, .int .u8 0, .int .u8 0, .int .u8 0, .int .u8 0, .int .u8 0, .int .u8 0, .int .u8 0, .int .u8 0, .int .u8 0, .int .u8 0, .int .u8 0, .int .u8 0, .int .u8 0] 24)).rangeAt gb ob (y.map u8v) ∧ Below wr.heap.size wr (W7.alloc (.cells #[.int .u8 0, .int .u8 0, .int .u8 0, .int .u8 0, .int .u8 0, .int .u8 0, .int .u8 0, .int .u8 0, .int .u8 0, .int .u8 0, .int .u8 0, .int .u8 0, .int .u8 0, .int .u8 0, .int .u8 0, .int .u8 0, .int .u8 0, .int .u8 0, .int .u8 0, .int .u8 0, .int .u8 0, .int .u8 0, .int .u8 0, .int .u8 0, .int .u8 0, .int .u8 0, .int .u8 0, .int .u8 0, .int .u8 0, .int .u8 0, .int .u8 0, .int .u8 0] 24))) := ⟨hHeld.1.below hA, hHeld.2.1.below hA, hHeld.2.2.trans (hA.mono hHeld.2.2.size)⟩
              generalize W7.alloc (.cells #[.int .u8 0, .int .u8 0, .int .u8 0, .int .u8 0, .int .u8 0, .int .u8 0, .int .u8 0, .int .u8 0, .int .u8 0, .int .u8 0, .int .u8 0, .int .u8 0, .int .u8 0, .int .u8 0, .int .u8 0, .int .u8 0, .int .u8 0, .int .u8 0, .int .u8 0, .int .u8 0, .int .u8 0, .int .u8 0, .int .u8 0, .int .u8 0, .int .u8 0, .int .u8 0, .int .u8 0, .int .u8 0, .int .u8 0, .int .u8 0, .int .u8 0, .int .u8 0] 24) = W8 at *
              refine hK.out _ _ hS (fun hHeld => ?_)
              clear hA hS
              clear hK K
              try simp only [Act.put, List.setIfInBounds_toArray, List.set_cons_zero, List.set_cons_succ]
              have hpq : V0.heap.size ≠ W7.heap.size := by have h1 := hP.lt; have h2 := hQ.lt; omega
              have hpge : wr.heap.size ≤ V0.heap.size := hpg
              have hqge : wr.heap.size ≤ W7.heap.size := hqg
              refine wpAnyH_ready (rs := [11]) (by kernel_rfl) (by simp) ?_
              refine AllReadyH.cons rfl (fun K hK => ?_) AllReadyH.nil
              rw [if_pos (by rfl)]
              refine wp_store_blk 24 _ _ rfl _ _ (idVals X) 24 hP rfl rfl (by rw [idVals_size, HLX.out]; exact sizeId) (by rw [idVals_size, HLX.out]; rfl) (idVals_one _) ?_
              intro w8 hP8 hg8
              have hQ8 := blk_gb hQ hg8 (fun e => hpq e.symm)
              have hS8 : (w8.rangeAt ga oa (x.map u8v) ∧ w8.rangeAt gb ob (y.map u8v) ∧ Below wr.heap.size wr w8) := ⟨range_gb hHeld.1 hg8 (by have := HGA.out; omega), range_gb hHeld.2.1 hg8 (by have := HGB.out; omega), hHeld.2.2.grown hg8 hHeld.2.2.size (by intro i e; cases e; exact hpge)⟩
              refine hK.out _ _ hS8 (fun hHeld => ?_)
              clear hK K hg8 hS8
              try simp only [Act.put, List.setIfInBounds_toArray, List.set_cons_zero, List.set_cons_succ]
              refine wpAnyH_ready (rs := [12]) (by kernel_rfl) (by simp) ?_
              refine AllReadyH.cons rfl (fun K hK => ?_) AllReadyH.nil
              rw [if_pos (by rfl)]
              refine wp_store_blk 24 _ _ rfl _ _ (y.map u8v).toArray 24 hQ8 rfl rfl (by rw [show (y.map u8v).toArray.size = 32 by rw [List.size_toArray, List.length_map, HLY.out]]; exact sizeId) (by rw [show (y.map u8v).toArray.size = 32 by rw [List.size_toArray, List.length_map, HLY.out]]; rfl) (idVals_one y) ?_
              intro w9 hQ9 hg9
              have hP9 := blk_gb hP8 hg9 hpq
              have hS9 : (w9.rangeAt ga oa (x.map u8v) ∧ w9.rangeAt gb ob (y.map u8v) ∧ Below wr.heap.size wr w9) := ⟨range_gb hHeld.1 hg9 (by have := HGA.out; omega), range_gb hHeld.2.1 hg9 (by have := HGB.out; omega), hHeld.2.2.grown hg9 hHeld.2.2.size (by intro i e; cases e; exact hqge)⟩
              refine hK.out _ _ hS9 (fun hHeld => ?_)
              clear hK K hg9 hS9
              try simp only [Act.put, List.setIfInBounds_toArray, List.set_cons_zero, List.set_cons_succ]
              refine wpAnyH_done (by kernel_rfl) ?_ _
              have rP := range_blk hP9
              have rQ : w9.rangeAt W7.heap.size 0 (y.map u8v) := range_blk hQ9
              have hbw := hHeld.2.2
              have hb9 := HB.out.trans (hbw.mono HB.out.size)
              have hown9 := own_below HOW.out hbw
              have hI9 := hI.below hb9
              clear hP hQ hP8 hQ8 hP9 hQ9 hbw hra hrb hS0
              go_wp2_with (first
                | (with_reducible refine wpList_load_if (by with_unfolding_all rfl) 24 _ rfl _ 0 rfl (m.map u8v) _ hI9 hu (by with_unfolding_all rfl) hzm ?_)
                | (go_at_call 19; (with_reducible refine (cB _).mono ?_); rintro e10 w10 ⟨rfl, hb10⟩; replace hb9 := hb9.trans (hb10.mono hb9.size); replace hown9 := own_below hown9 hb10; replace rP := rP.below hb10; replace rQ := rQ.below hb10)
                | (with_reducible refine wpList_load_if (by with_unfolding_all rfl) 24 _ rfl _ 0 rfl (X.map u8v) _ rP hu (by with_unfolding_all rfl) hzX ?_)
                | (with_reducible refine wpList_load_if (by with_unfolding_all rfl) 24 _ rfl _ 0 rfl (y.map u8v) _ rQ hu (by with_unfolding_all rfl) hzy ?_)
                | ((with_reducible refine wpList_build2 rfl _ _ rfl X y HLX.out HLY.out rfl rfl ?_); intro cs hcs)
                | (at_builtin; refine wpList_append_own _ rfl _ _ 25 rfl (w.heap.size + 1) 24 j0 (.agg (idVals zeroB)) 32 32 Tryz.underlying25 hj hjz hjs hjb rfl (by decide) _ _ _ rfl (hown9.alloc _) ⟨w10.heap.size, 0, none⟩ 2 2 (X.map u8v ++ y.map u8v) rfl ?l1 hcs ?l5 ?l2 ?l3 ?l4 ?_))
              case l1 => rw [List.length_append, List.length_map, List.length_map, HLX.out, HLY.out]
              case l5 => intro u hu; rcases List.mem_append.1 hu with hu | hu <;> exact u8v_one _ u hu
              case l2 => unfold maxLen; have := HN.out; omega
              case l3 => have := HN.out; omega
              case l4 => (try simp); have := hb9.size; omega
              intro v11 w11 hown11 hg11 _
              have hb11 := (hb9.alloc hb9.size _).grown hg11 (hb9.alloc hb9.size _).size (fun k hk => by rw [hk1]; exact (hown9.lt k hk).1)
              clear hg11
              go_wp2
              go_roundw
              case rel => exact ⟨k + 1, hlt, by go_num, (by rw [HF2.out, idsV_append, show idsV [X, y] = X.map u8v ++ y.map u8v by simp [idsV], show 2 * (k + 1) = 2 * k + 2 by omega]; exact hown11), hb11⟩
              case measure => simp [intOf]; omega
            exact AllReadyH.nil
          refine AllReadyH.cons rfl (fun K hK => ?_) ?_
          · go_simp
            have hA := (Below.refl W6.heap.size W6).alloc (Nat.le_refl _) (.cells #[.int .u8 0, .int .u8 0, .int .u8 0, .int .u8 0, .int .u8 0, .int .u8 0, .int .u8 0, .int .u8 0, .int .u8 0, .int .u8 0, .int .u8 0, .int .u8 0, .int .u8 0, .int .u8 0, .int .u8 0, .int .u8 0, .int .u8 0, .int .u8 0, .int .u8 0, .int .u8 0, .int .u8 0, .int .u8 0, .int .u8 0, .int .u8 0, .int .u8 0, .int .u8 0, .int .u8 0, .int .u8 0, .int .u8 0, .int .u8 0, .int .u8 0, .int .u8 0] 24)
            have hQ := Blk.new W6 24 #[.int .u8 0, .int .u8 0, .int .u8 0, .int .u8 0, .int .u8 0, .int .u8 0, .int .u8 0, .int .u8 0, .int .u8 0, .int .u8 0, .int .u8 0, .int .u8 0, .int .u8 0, .int .u8 0, .int .u8 0, .int .u8 0, .int .u8 0, .int .u8 0, .int .u8 0, .int .u8 0, .int .u8 0, .int .u8 0, .int .u8 0, .int .u8 0, .int .u8 0, .int .u8 0, .int .u8 0, .int .u8 0, .int .u8 0, .int .u8 0, .int .u8 0, .int .u8 0]
            have hqg := hHeld.2.2.size
            have hord := hP.lt
            replace hP := hP.below hA
            have hS : ((W6.alloc (.cells #[.int .u8 0, .int .u8 0, .int .u8 0, .int .u8 0, .int .u8 0, .int .u8 0, .int .u8 0, .int .u8 0, .int .u8 0, .int .u8 0, .int .u8 0, .int .u8 0, .int .u8 0, .int .u8 0, .int .u8 0, .int .u8 0, .int .u8 0, .int .u8 0, .int .u8 0, .int .u8 0, .int .u8 0, .int .u8 0, .int .u8 0, .int .u8 0, .int .u8 0, .int .u8 0, .int .u8 0, .int .u8 0, .int .u8 0, .int .u8 0, .int .u8 0, .int .u8 0] 24)).rangeAt ga oa (x.map u8v) ∧ (W6.alloc (.cells #[.int .u8 0, .int .u8 0, .int .u8 0, .int .u8 0, .int .u8 0, .int .u8 0, .int .u8 0, .int .u8 0, .int .u8 0, .int .u8 0, .int .u8 0, .int .u8 0, .int .u8 0, .int .u8 0, .int .u8 0, .int .u8 0, .int .u8 0, .int .u8 0, .int .u8 0, .int .u8 0, .int .u8 0, .int .u8 0, .int .u8 0, .int .u8 0, .int .u8 0, .int .u8 0, .int .u8 0, .int .u8 0, .int .u8 0, .int .u8 0, .int .u8 0, .int .u8 0] 24)).rangeAt gb ob (y.map u8v) ∧ Below wr.heap.size wr (W6.alloc (.cells #[.int .u8 0, .int .u8 0, .int .u8 0, .int .u8 0, .int .u8 0, .int .u8 0, .int .u8 0, .int .u8 0, .int .u8 0, .int .u8 0, .int .u8 0, .int .u8 0, .int .u8 0, .int .u8 0, .int .u8 0, .int .u8 0, .int .u8 0, .int .u8 0, .int .u8 0, .int .u8 0, .int .u8 0, .int .u8 0, .int .u8 0, .int .u8 0, .int .u8 0, .int .u8 0, .int .u8 0, .int .u8 0, .int .u8 0, .int .u8 0, .int .u8 0, .int .u8 0] 24))) := ⟨hHeld.1.below hA, hHeld.2.1.below hA, hHeld.2.2.trans (hA.mono hHeld.2.2.size)⟩
            generalize W6.alloc (.cells #[.int .u8 0, .int .u8 0, .int .u8 0, .int .u8 0, .int .u8 0, .int .u8 0, .int .u8 0, .int .u8 0, .int .u8 0, .int .u8 0, .int .u8 0, .int .u8 0, .int .u8 0, .int .u8 0, .int .u8 0, .int .u8 0, .int .u8 0, .int .u8 0, .int .u8 0, .int .u8 0, .int .u8 0, .int .u8 0, .int .u8 0, .int .u8 0, .int .u8 0, .int .u8 0, .int .u8 0, .int .u8 0, .int .u8 0, .int .u8 0, .int .u8 0, .int .u8 0] 24) = W9 at *
            refine hK.out _ _ hS (fun hHeld => ?_)
            clear hA hS
            clear hK K
            try simp only [Act.put, List.setIfInBounds_toArray, List.set_cons_zero, List.set_cons_succ]
            refine wpAnyH_ready (rs := [4]) (by kernel_rfl) (by simp) ?_
            refine AllReadyH.cons rfl (fun K hK => ?_) ?_
            · go_simp
              (with_reducible refine (cP _).mono ?_)
              rintro e10 W10 ⟨rfl, hbc⟩
              replace hP := hP.below hbc
              replace hQ := hQ.below hbc
              refine hK.out _ _ ⟨hHeld.1.below hbc, hHeld.2.1.below hbc, hHeld.2.2.trans (hbc.mono hHeld.2.2.size)⟩ (fun hHeld => ?_)
              clear hbc
              clear hK K
              try simp only [Act.put, List.setIfInBounds_toArray, List.set_cons_zero, List.set_cons_succ]
              have hpq : V0.heap.size ≠ W6.heap.size := by have h1 := hP.lt; have h2 := hQ.lt; omega
              have hpge : wr.heap.size ≤ V0.heap.size := hpg
              have hqge : wr.heap.size ≤ W6.heap.size := hqg
              refine wpAnyH_ready (rs := [11]) (by kernel_rfl) (by simp) ?_
              refine AllReadyH.cons rfl (fun K hK => ?_) AllReadyH.nil
              rw [if_pos (by rfl)]
              refine wp_store_blk 24 _ _ rfl _ _ (idVals X) 24 hP rfl rfl (by rw [idVals_size, HLX.out]; exact sizeId) (by rw [idVals_size, HLX.out]; rfl) (idVals_one _) ?_
              intro w8 hP8 hg8
              have hQ8 := blk_gb hQ hg8 (fun e => hpq e.symm)
              have hS8 : (w8.rangeAt ga oa (x.map u8v) ∧ w8.rangeAt gb ob (y.map u8v) ∧ Below wr.heap.size wr w8) := ⟨range_gb hHeld.1 hg8 (by have := HGA.out; omega), range_gb hHeld.2.1 hg8 (by have := HGB.out; omega), hHeld.2.2.grown hg8 hHeld.2.2.size (by intro i e; cases e; exact hpge)⟩
              refine hK.out _ _ hS8 (fun hHeld => ?_)
              clear hK K hg8 hS8
              try simp only [Act.put, List.setIfInBounds_toArray, List.set_cons_zero, List.set_cons_succ]
              refine wpAnyH_ready (rs := [12]) (by kernel_rfl) (by simp) ?_
              refine AllReadyH.cons rfl (fun K hK => ?_) AllReadyH.nil
              rw [if_pos (by rfl)]
              refine wp_store_blk 24 _ _ rfl _ _ (y.map u8v).toArray 24 hQ8 rfl rfl (by rw [show (y.map u8v).toArray.size = 32 by rw [List.size_toArray, List.length_map, HLY.out]]; exact sizeId) (by rw [show (y.map u8v).toArray.size = 32 by rw [List.size_toArray, List.length_map, HLY.out]]; rfl) (idVals_one y) ?_
              intro w9 hQ9 hg9
              have hP9 := blk_gb hP8 hg9 hpq
              have hS9 : (w9.rangeAt ga oa (x.map u8v) ∧ w9.rangeAt gb ob (y.map u8v) ∧ Below wr.heap.size wr w9) := ⟨range_gb hHeld.1 hg9 (by have := HGA.out; omega), range_gb hHeld.2.1 hg9 (by have := HGB.out; omega), hHeld.2.2.grown hg9 hHeld.2.2.size (by intro i e; cases e; exact hqge)⟩
              refine hK.out _ _ hS9 (fun hHeld => ?_)
              clear hK K hg9 hS9
              try simp only [Act.put, List.setIfInBounds_toArray, List.set_cons_zero, List.set_cons_succ]
              refine wpAnyH_done (by kernel_rfl) ?_ _
              have rP := range_blk hP9
              have rQ : w9.rangeAt W6.heap.size 0 (y.map u8v) := range_blk hQ9
              have hbw := hHeld.2.2
              have hb9 := HB.out.trans (hbw.mono HB.out.size)
              have hown9 := own_below HOW.out hbw
              have hI9 := hI.below hb9
              clear hP hQ hP8 hQ8 hP9 hQ9 hbw hra hrb hS0
              go_wp2_with (first
                | (with_reducible refine wpList_load_if (by with_unfolding_all rfl) 24 _ rfl _ 0 rfl (m.map u8v) _ hI9 hu (by with_unfolding_all rfl) hzm ?_)
                | (go_at_call 19; (with_reducible refine (cB _).mono ?_); rintro e10 w10 ⟨rfl, hb10⟩; replace hb9 := hb9.trans (hb10.mono hb9.size); replace hown9 := own_below hown9 hb10; replace rP := rP.below hb10; replace rQ := rQ.below hb10)
                | (with_reducible refine wpList_load_if (by with_unfolding_all rfl) 24 _ rfl _ 0 rfl (X.map u8v) _ rP hu (by with_unfolding_all rfl) hzX ?_)
                | (with_reducible refine wpList_load_if (by with_unfolding_all rfl) 24 _ rfl _ 0 rfl (y.map u8v) _ rQ hu (by with_unfolding_all rfl) hzy ?_)
                | ((with_reducible refine wpList_build2 rfl _ _ rfl X y HLX.out HLY.out rfl rfl ?_); intro cs hcs)
                | (at_builtin; refine wpList_append_own _ rfl _ _ 25 rfl (w.heap.size + 1) 24 j0 (.agg (idVals zeroB)) 32 32 Tryz.underlying25 hj hjz hjs hjb rfl (by decide) _ _ _ rfl (hown9.alloc _) ⟨w10.heap.size, 0, none⟩ 2 2 (X.map u8v ++ y.map u8v) rfl ?l1 hcs ?l5 ?l2 ?l3 ?l4 ?_))
              case l1 => rw [List.length_append, List.length_map, List.length_map, HLX.out, HLY.out]
              case l5 => intro u hu; rcases List.mem_append.1 hu with hu | hu <;> exact u8v_one _ u hu
              case l2 => unfold maxLen; have := HN.out; omega
              case l3 => have := HN.out; omega
              case l4 => (try simp); have := hb9.size; omega
              intro v11 w11 hown11 hg11 _
              have hb11 := (hb9.alloc hb9.size _).grown hg11 (hb9.alloc hb9.size _).size (fun k hk => by rw [hk1]; exact (hown9.lt k hk).1)
              clear hg11
              go_wp2
              go_roundw
              case rel => exact ⟨k + 1, hlt, by go_num, (by rw [HF2.out, idsV_append, show idsV [X, y] = X.map u8v ++ y.map u8v by simp [idsV], show 2 * (k + 1) = 2 * k + 2 by omega]; exact hown11), hb11⟩
              case measure => simp [intOf]; omega
            exact AllReadyH.nil
          exact AllReadyH.nil
        refine AllReadyH.cons rfl (fun K hK => ?_) ?_
        · go_simp
          have hA := (Below.refl V0.heap.size V0).alloc (Nat.le_refl _) (.cells #[.int .u8 0, .int .u8 0, .int .u8 0, .int .u8 0, .int .u8 0, .int .u8 0, .int .u8 0, .int .u8 0, .int .u8 0, .int .u8 0, .int .u8 0, .int .u8 0, .int .u8 0, .int .u8 0, .int .u8 0, .int .u8 0, .int .u8 0, .int .u8 0, .int .u8 0, .int .u8 0, .int .u8 0, .int .u8 0, .int .u8 0, .int .u8 0, .int .u8 0, .int .u8 0, .int .u8 0, .int .u8 0, .int .u8 0, .int .u8 0, .int .u8 0, .int .u8 0] 24)
          have hQ := Blk.new V0 24 #[.int .u8 0, .int .u8 0, .int .u8 0, .int .u8 0, .int .u8 0, .int .u8 0, .int .u8 0, .int .u8 0, .int .u8 0, .int .u8 0, .int .u8 0, .int .u8 0, .int .u8 0, .int .u8 0, .int .u8 0, .int .u8 0, .int .u8 0, .int .u8 0, .int .u8 0, .int .u8 0, .int .u8 0, .int .u8 0, .int .u8 0, .int .u8 0, .int .u8 0, .int .u8 0, .int .u8 0, .int .u8 0, .int .u8 0, .int .u8 0, .int .u8 0, .int .u8 0]
          have hqg := hHeld.2.2.size
          have hS : ((V0.alloc (.cells #[.int .u8 0, .int .u8 0, .int .u8 0, .int .u8 0, .int .u8 0, .int .u8 0, .int .u8 0, .int .u8 0, .int .u8 0, .int .u8 0, .int .u8 0, .int .u8 0, .int .u8 0, .int .u8 0, .int .u8 0, .int .u8 0, .int .u8 0, .int .u8 0, .int .u8 0, .int .u8 0, .int .u8 0, .int .u8 0, .int .u8 0, .int .u8 0, .int .u8 0, .int .u8 0, .int .u8 0, .int .u8 0, .int .u8 0, .int .u8 0, .int .u8 0, .int .u8 0] 24)).rangeAt ga oa (x.map u8v) ∧ (V0.alloc (.cells #[.int .u8 0, .int .u8 0, .int .u8 0, .int .u8 0, .int .u8 0, .int .u8 0, .int .u8 0, .int .u8 0, .int .u8 0, .int .u8 0, .int .u8 0, .int .u8 0, .int .u8 0, .int .u8 0, .int .u8 0, .int .u8 0, .int .u8 0, .int .u8 0, .int .u8 0, .int .u8 0, .int .u8 0, .int .u8 0, .int .u8 0, .int .u8 0, .int .u8 0, .int .u8 0, .int .u8 0, .int .u8 0, .int .u8 0, .int .u8 0, .int .u8 0, .int .u8 0] 24)).rangeAt gb ob (y.map u8v) ∧ Below wr.heap.size wr (V0.alloc (.cells #[.int .u8 0, .int .u8 0, .int .u8 0, .int .u8 0, .int .u8 0, .int .u8 0, .int .u8 0, .int .u8 0, .int .u8 0, .int .u8 0, .int .u8 0, .int .u8 0, .int .u8 0, .int .u8 0, .int .u8 0, .int .u8 0, .int .u8 0, .int .u8 0, .int .u8 0, .int .u8 0, .int .u8 0, .int .u8 0, .int .u8 0, .int .u8 0, .int .u8 0, .int .u8 0, .int .u8 0, .int .u8 0, .int .u8 0, .int .u8 0, .int .u8 0, .int .u8 0] 24))) := ⟨hHeld.1.below hA, hHeld.2.1.below hA, hHeld.2.2.trans (hA.mono hHeld.2.2.size)⟩
          generalize V0.alloc (.cells #[.int .u8 0, .int .u8 0, .int .u8 0, .int .u8 0, .int .u8 0, .int .u8 0, .int .u8 0, .int .u8 0, .int .u8 0, .int .u8 0, .int .u8 0, .int .u8 0, .int .u8 0, .int .u8 0, .int .u8 0, .int .u8 0, .int .u8 0, .int .u8 0, .int .u8 0, .int .u8 0, .int .u8 0, .int .u8 0, .int .u8 0, .int .u8 0, .int .u8 0, .int .u8 0, .int .u8 0, .int .u8 0, .int .u8 0, .int .u8 0, .int .u8 0, .int .u8 0] 24) = W11 at *
          refine hK.out _ _ hS (fun hHeld => ?_)
          clear hA hS
          clear hK K
          try simp only [Act.put, List.setIfInBounds_toArray, List.set_cons_zero, List.set_cons_succ]
          refine wpAnyH_ready (rs := [4, 9]) (by kernel_rfl) (by simp) ?_
          refine AllReadyH.cons rfl (fun K hK => ?_) ?_
          · go_simp
            (with_reducible refine (cP _).mono ?_)
            rintro e12 W12 ⟨rfl, hbc⟩
            replace hQ := hQ.below hbc
            refine hK.out _ _ ⟨hHeld.1.below hbc, hHeld.2.1.below hbc, hHeld.2.2.trans (hbc.mono hHeld.2.2.size)⟩ (fun hHeld => ?_)
            clear hbc
            clear hK K
            try simp only [Act.put, List.setIfInBounds_toArray, List.set_cons_zero, List.set_cons_succ]
            refine wpAnyH_ready (rs := [9]) (by kernel_rfl) (by simp) ?_
            refine AllReadyH.cons rfl (fun K hK => ?_) ?_
            · go_simp
              have hA := (Below.refl W12.heap.size W12).alloc (Nat.le_refl _) (.cells #[.int .u8 0, .int .u8 0, .int .u8 0, .int .u8 0, .int .u8 0, .int .u8 0, .int .u8 0, .int .u8 0, .int .u8 0, .int .u8 0, .int .u8 0, .int .u8 0, .int .u8 0, .int .u8 0, .int .u8 0, .int .u8 0, .int .u8 0, .int .u8 0, .int .u8 0, .int .u8 0, .int .u8 0, .int .u8 0, .int .u8 0, .int .u8 0, .int .u8 0, .int .u8 0, .int .u8 0, .int .u8 0, .int .u8 0, .int .u8 0, .int .u8 0, .int .u8 0] 24)
              have hP := Blk.new W12 24 #[.int .u8 0, .int .u8 0, .int .u8 0, .int .u8 0, .int .u8 0, .int .u8 0, .int .u8 0, .int .u8 0, .int .u8 0, .int .u8 0, .int .u8 0, .int .u8 0, .int .u8 0, .int .u8 0, .int .u8 0, .int .u8 0, .int .u8 0, .int .u8 0, .int .u8 0, .int .u8 0, .int .u8 0, .int .u8 0, .int .u8 0, .int .u8 0, .int .u8 0, .int .u8 0, .int .u8 0, .int .u8 0, .int .u8 0, .int .u8 0, .int .u8 0, .int .u8 0]
              have hpg := hHeld.2.2.size
              have hord := hQ.lt
              replace hQ := hQ.below hA
              have hS : ((W12.alloc (.cells #[.int .u8 0, .int .u8 0, .int .u8 0, .int .u8 0, .int .u8 0, .int .u8 0, .int .u8 0, .int .u8 0, .int .u8 0, .int .u8 0, .int .u8 0, .int .u8 0, .int .u8 0, .int .u8 0, .int .u8 0, .int .u8 0, .int .u8 0, .int .u8 0, .int .u8 0, .int .u8 0, .int .u8 0, .int .u8 0, .int .u8 0, .int .u8 0, .int .u8 0, .int .u8 0, .int .u8 0, .int .u8 0, .int .u8 0, .int .u8 0, .int .u8 0, .int .u8 0] 24)).rangeAt ga oa (x.map u8v) ∧ (W12.alloc (.cells #[.int .u8 0, .int .u8 0, .int .u8 0, .int .u8 0, .int .u8 0, .int .u8 0, .int .u8 0, .int .u8 0, .int .u8 0, .int .u8 0, .int .u8 0, .int .u8 0, .int .u8 0, .int .u8 0, .int .u8 0, .int .u8 0, .int .u8 0, .int .u8 0, .int .u8 0, .int .u8 0, .int .u8 0, .int .u8 0, .int .u8 0, .int .u8 0, .int .u8 0, .int .u8 0, .int .u8 0, .int .u8 0, .int .u8 0, .int .u8 0, .int .u8 0, .int .u8 0] 24)).rangeAt gb ob (y.map u8v) ∧ Below wr.heap.size wr (W12.alloc (.cells #[.int .u8 0, .int .u8 0, .int .u8 0, .int .u8 0, .int .u8 0, .int .u8 0, .int .u8 0, .int .u8 0, .int .u8 0, .int .u8 0, .int .u8 0, .int .u8 0, .int .u8 0, .int .u8 0, .int .u8 0, .int .u8 0, .int .u8 0, .int .u8 0, .int .u8 0, .int .u8 0, .int .u8 0, .int .u8 0, .int .u8 0, .int .u8 0, .int .u8 0, .int .u8 0, .int .u8 0, .int .u8 0, .int .u8 0, .int .u8 0, .int .u8 0, .int .u8 0] 24))) := ⟨hHeld.1.below hA, hHeld.2.1.below hA, hHeld.2.2.trans (hA.mono hHeld.2.2.size)⟩
              generalize W12.alloc (.cells #[.int .u8 0, .int .u8 0, .int .u8 0, .int .u8 0, .int .u8 0, .int .u8 0, .int .u8 0, .int .u8 0, .int .u8 0, .int .u8 0, .int .u8 0, .int .u8 0, .int .u8 0, .int .u8 0, .int .u8 0, .int .u8 0, .int .u8 0, .int .u8 0, .int .u8 0, .int .u8 0, .int .u8 0, .int .u8 0, .int .u8 0, .int .u8 0, .int .u8 0, .int .u8 0, .int .u8 0, .int .u8 0, .int .u8 0, .int .u8 0, .int .u8 0, .int .u8 0] 24) = W13 at *
              refine hK.out _ _ hS (fun hHeld => ?_)
              clear hA hS
              clear hK K
              try simp only [Act.put, List.setIfInBounds_toArray, List.set_cons_zero, List.set_cons_succ]
              have hpq : W12.heap.size ≠ V0.heap.size := by have h1 := hP.lt; have h2 := hQ.lt; omega
              have hpge : wr.heap.size ≤ W12.heap.size := hpg
              have hqge : wr.heap.size ≤ V0.heap.size := hqg
              refine wpAnyH_ready (rs := [11]) (by kernel_rfl) (by simp) ?_
              refine AllReadyH.cons rfl (fun K hK => ?_) AllReadyH.nil
              rw [if_pos (by rfl)]
              refine wp_store_blk 24 _ _ rfl _ _ (idVals X) 24 hP rfl rfl (by rw [idVals_size, HLX.out]; exact sizeId) (by rw [idVals_size, HLX.out]; rfl) (idVals_one _) ?_
              intro w8 hP8 hg8
              have hQ8 := blk_gb hQ hg8 (fun e => hpq e.symm)
              have hS8 : (w8.rangeAt ga oa (x.map u8v) ∧ w8.rangeAt gb ob (y.map u8v) ∧ Below wr.heap.size wr w8) := ⟨range_gb hHeld.1 hg8 (by have := HGA.out; omega), range_gb hHeld.2.1 hg8 (by have := HGB.out; omega), hHeld.2.2.grown hg8 hHeld.2.2.size (by intro i e; cases e; exact hpge)⟩
              refine hK.out _ _ hS8 (fun hHeld => ?_)
              clear hK K hg8 hS8
              try simp only [Act.put, List.setIfInBounds_toArray, List.set_cons_zero, List.set_cons_succ]
              refine wpAnyH_ready (rs := [12]) (by kernel_rfl) (by simp) ?_
              refine AllReadyH.cons rfl (fun K hK => ?_) AllReadyH.nil
              rw [if_pos (by rfl)]
              refine wp_store_blk 24 _ _ rfl _ _ (y.map u8v).toArray 24 hQ8 rfl rfl (by rw [show (y.map u8v).toArray.size = 32 by rw [List.size_toArray, List.length_map, HLY.out]]; exact sizeId) (by rw [show (y.map u8v).toArray.size = 32 by rw [List.size_toArray, List.length_map, HLY.out]]; rfl) (idVals_one y) ?_
              intro w9 hQ9 hg9
              have hP9 := blk_gb hP8 hg9 hpq
              have hS9 : (w9.rangeAt ga oa (x.map u8v) ∧ w9.rangeAt gb ob (y.map u8v) ∧ Below wr.heap.size wr w9) := ⟨range_gb hHeld.1 hg9 (by have := HGA.out; omega), range_gb hHeld.2.1 hg9 (by have := HGB.out; omega), hHeld.2.2.grown hg9 hHeld.2.2.size (by intro i e; cases e; exact hqge)⟩
              refine hK.out _ _ hS9 (fun hHeld => ?_)
              clear hK K hg9 hS9
              try simp only [Act.put, List.setIfInBounds_toArray, List.set_cons_zero, List.set_cons_succ]
              refine wpAnyH_done (by kernel_rfl) ?_ _
              have rP := range_blk hP9
              have rQ : w9.rangeAt V0.heap.size 0 (y.map u8v) := range_blk hQ9
              have hbw := hHeld.2.2
              have hb9 := HB.out.trans (hbw.mono HB.out.size)
              have hown9 := own_below HOW.out hbw
              have hI9 := hI.below hb9
              clear hP hQ hP8 hQ8 hP9 hQ9 hbw hra hrb hS0
              go_wp2_with (first
                | (with_reducible refine wpList_load_if (by with_unfolding_all rfl) 24 _ rfl _ 0 rfl (m.map u8v) _ hI9 hu (by with_unfolding_all rfl) hzm ?_)
                | (go_at_call 19; (with_reducible refine (cB _).mono ?_); rintro e10 w10 ⟨rfl, hb10⟩; replace hb9 := hb9.trans (hb10.mono hb9.size); replace hown9 := own_below hown9 hb10; replace rP := rP.below hb10; replace rQ := rQ.below hb10)
                | (with_reducible refine wpList_load_if (by with_unfolding_all rfl) 24 _ rfl _ 0 rfl (X.map u8v) _ rP hu (by with_unfolding_all rfl) hzX ?_)
                | (with_reducible refine wpList_load_if (by with_unfolding_all rfl) 24 _ rfl _ 0 rfl (y.map u8v) _ rQ hu (by with_unfolding_all rfl) hzy ?_)
                | ((with_reducible refine wpList_build2 rfl _ _ rfl X y HLX.out HLY.out rfl rfl ?_); intro cs hcs)
                | (at_builtin; refine wpList_append_own _ rfl _ _ 25 rfl (w.heap.size + 1) 24 j0 (.agg (idVals zeroB)) 32 32 Tryz.underlying25 hj hjz hjs hjb rfl (by decide) _ _ _ rfl (hown9.alloc _) ⟨w10.heap.size, 0, none⟩ 2 2 (X.map u8v ++ y.map u8v) rfl ?l1 hcs ?l5 ?l2 ?l3 ?l4 ?_))
              case l1 => rw [List.length_append, List.length_map, List.length_map, HLX.out, HLY.out]
              case l5 => intro u hu; rcases List.mem_append.1 hu with hu | hu <;> exact u8v_one _ u hu
              case l2 => unfold maxLen; have := HN.out; omega
              case l3 => have := HN.out; omega
              case l4 => (try simp); have := hb9.size; omega
              intro v11 w11 hown11 hg11 _
              have hb11 := (hb9.alloc hb9.size _).grown hg11 (hb9.alloc hb9.size _).size (fun k hk => by rw [hk1]; exact (hown9.lt k hk).1)
              clear hg11
              go_wp2
              go_roundw
              case rel => exact ⟨k + 1, hlt, by go_num, (by rw [HF2.out, idsV_append, show idsV [X, y] = X.map u8v ++ y.map u8v by simp [idsV], show 2 * (k + 1) = 2 * k + 2 by omega]; exact hown11), hb11⟩
              case measure => simp [intOf]; omega
            exact AllReadyH.nil
          refine AllReadyH.cons rfl (fun K hK => ?_) ?_
          · go_simp
            have hA := (Below.refl W11.heap.size W11).alloc (Nat.le_refl _) (.cells #[.int .u8 0, .int .u8 0, .int .u8 0, .int .u8 0, .int .u8 0, .int .u8 0, .int .u8 0, .int .u8 0, .int .u8 0, .int .u8 0, .int .u8 0, .int .u8 0, .int .u8 0, .int .u8 0, .int .u8 0, .int .u8 0, .int .u8 0, .int .u8 0, .int .u8 0, .int .u8 0, .int .u8 0, .int .u8 0, .int .u8 0, .int .u8 0, .int .u8 0, .int .u8 0, .int .u8 0, .int .u8 0, .int .u8 0, .int .u8 0, .int .u8 0, .int .u8 0] 24)
            have hP := Blk.new W11 24 #[.int .u8 0, .int .u8 0, .int .u8 0, .int .u8 0, .int .u8 0, .int .u8 0, .int .u8 0, .int .u8 0, .int .u8 0, .int .u8 0, .int .u8 0, .int .u8 0, .int .u8 0, .int .u8 0, .int .u8 0, .int .u8 0, .int .u8 0, .int .u8 0, .int .u8 0, .int .u8 0, .int .u8 0, .int .u8 0, .int .u8 0, .int .u8 0, .int .u8 0, .int .u8 0, .int .u8 0, .int .u8 0, .int .u8 0, .int .u8 0, .int .u8 0, .int .u8 0]
            have hpg := hHeld.2.2.size
            have hord := hQ.lt
            replace hQ := hQ.below hA
            have hS : ((W11.alloc (.cells #[.int .u8 0, .int .u8 0, .int .u8 0, .int .u8 0, .int .u8 0, .int .u8 0, .int .u8 0, .int .u8 0, .int .u8 0, .int .u8 0, .int .u8 0, .int .u8 0, .int .u8 0, .int .u8 0, .int .u8 0, .int .u8 0, .int .u8 0, .int .u8 0, .int .u8 0, .int .u8 0, .int .u8 0, .int .u8 0, .int .u8 0, .int .u8 0, .int .u8 0, .int .u8 0, .int .u8 0, .int .u8 0, .int .u8 0, .int .u8 0, .int .u8 0, .int .u8 0] 24)).rangeAt ga oa (x.map u8v) ∧ (W11.alloc (.cells #[.int .u8 0, .int .u8 0, .int .u8 0, .int .u8 0, .int .u8 0, .int .u8 0, .int .u8 0, .int .u8 0, .int .u8 0, .int .u8 0, .int .u8 0, .int .u8 0, .int .u8 0, .int .u8 0, .int .u8 0, .int .u8 0, .int .u8 0, .int .u8 0, .int .u8 0, .int .u8 0, .int .u8 0, .int .u8 0, .int .u8 0, .int .u8 0, .int .u8 0, .int .u8 0, .int .u8 0, .int .u8 0, .int .u8 0, .int .u8 0, .int .u8 0, .int .u8 0] 24)).rangeAt gb ob (y.map u8v) ∧ Below wr.heap.size wr (W11.alloc (.cells #[.int .u8 0, .int .u8 0, .int .u8 0, .int .u8 0, .int .u8 0, .int .u8 0, .int .u8 0, .int .u8 0, .int .u8 0, .int .u8 0, .int .u8 0, .int .u8 0, .int .u8 0, .int .u8 0, .int .u8 0, .int .u8 0, .int .u8 0, .int .u8 0, .int .u8 0, .int .u8 0, .int .u8 0, .int .u8 0, .int .u8 0, .int .u8 0, .int .u8 0, .int .u8 0, .int .u8 0, .int .u8 0, .int .u8 0, .int .u8 0, .int .u8 0, .int .u8 0] 24))) := ⟨hHeld.1.below hA, hHeld.2.1.below hA, hHeld.2.2.trans (hA.mono hHeld.2.2.size)⟩
            generalize W11.alloc (.cells #[.int .u8 0, .int .u8 0, .int .u8 0, .int .u8 0, .int .u8 0, .int .u8 0, .int .u8 0, .int .u8 0, .int .u8 0, .int .u8 0, .int .u8 0, .int .u8 0, .int .u8 0, .int .u8 0, .int .u8 0, .int .u8 0, .int .u8 0, .int .u8 0, .int .u8 0, .int .u8 0, .int .u8 0, .int .u8 0, .int .u8 0, .int .u8 0, .int .u8 0, .int .u8 0, .int .u8 0, .int .u8 0, .int .u8 0, .int .u8 0, .int .u8 0, .int .u8 0] 24) = W14 at *
            refine hK.out _ _ hS (fun hHeld => ?_)
            clear hA hS
            clear hK K
            try simp only [Act.put, List.setIfInBounds_toArray, List.set_cons_zero, List.set_cons_succ]
            refine wpAnyH_ready (rs := [4]) (by kernel_rfl) (by simp) ?_
            refine AllReadyH.cons rfl (fun K hK => ?_) ?_
            · go_simp
              (with_reducible refine (cP _).mono ?_)
              rintro e15 W15 ⟨rfl, hbc⟩
              replace hP := hP.below hbc
              replace hQ := hQ.below hbc
              refine hK.out _ _ ⟨hHeld.1.below hbc, hHeld.2.1.below hbc, hHeld.2.2.trans (hbc.mono hHeld.2.2.size)⟩ (fun hHeld => ?_)
              clear hbc
              clear hK K
              try simp only [Act.put, List.setIfInBounds_toArray, List.set_cons_zero, List.set_cons_succ]
              have hpq : W11.heap.size ≠ V0.heap.size := by have h1 := hP.lt; have h2 := hQ.lt; omega
              have hpge : wr.heap.size ≤ W11.heap.size := hpg
              have hqge : wr.heap.size ≤ V0.heap.size := hqg
              refine wpAnyH_ready (rs := [11]) (by kernel_rfl) (by simp) ?_
              refine AllReadyH.cons rfl (fun K hK => ?_) AllReadyH.nil
              rw [if_pos (by rfl)]
              refine wp_store_blk 24 _ _ rfl _ _ (idVals X) 24 hP rfl rfl (by rw [idVals_size, HLX.out]; exact sizeId) (by rw [idVals_size, HLX.out]; rfl) (idVals_one _) ?_
              intro w8 hP8 hg8
              have hQ8 := blk_gb hQ hg8 (fun e => hpq e.symm)
              have hS8 : (w8.rangeAt ga oa (x.map u8v) ∧ w8.rangeAt gb ob (y.map u8v) ∧ Below wr.heap.size wr w8) := ⟨range_gb hHeld.1 hg8 (by have := HGA.out; omega), range_gb hHeld.2.1 hg8 (by have := HGB.out; omega), hHeld.2.2.grown hg8 hHeld.2.2.size (by intro i e; cases e; exact hpge)⟩
              refine hK.out _ _ hS8 (fun hHeld => ?_)
              clear hK K hg8 hS8
              try simp only [Act.put, List.setIfInBounds_toArray, List.set_cons_zero, List.set_cons_succ]
              refine wpAnyH_ready (rs := [12]) (by kernel_rfl) (by simp) ?_
              refine AllReadyH.cons rfl (fun K hK => ?_) AllReadyH.nil
              rw [if_pos (by rfl)]
              refine wp_store_blk 24 _ _ rfl _ _ (y.map u8v).toArray 24 hQ8 rfl rfl (by rw [show (y.map u8v).toArray.size = 32 by rw [List.size_toArray, List.length_map, HLY.out]]; exact sizeId) (by rw [show (y.map u8v).toArray.size = 32 by rw [List.size_toArray, List.length_map, HLY.out]]; rfl) (idVals_one y) ?_
              intro w9 hQ9 hg9
              have hP9 := blk_gb hP8 hg9 hpq
              have hS9 : (w9.rangeAt ga oa (x.map u8v) ∧ w9.rangeAt gb ob (y.map u8v) ∧ Below wr.heap.size wr w9) := ⟨range_gb hHeld.1 hg9 (by have := HGA.out; omega), range_gb hHeld.2.1 hg9 (by have := HGB.out; omega), hHeld.2.2.grown hg9 hHeld.2.2.size (by intro i e; cases e; exact hqge)⟩
              refine hK.out _ _ hS9 (fun hHeld => ?_)
              clear hK K hg9 hS9
              try simp only [Act.put, List.setIfInBounds_toArray, List.set_cons_zero, List.set_cons_succ]
              refine wpAnyH_done (by kernel_rfl) ?_ _
              have rP := range_blk hP9
              have rQ : w9.rangeAt V0.heap.size 0 (y.map u8v) := range_blk hQ9
              have hbw := hHeld.2.2
              have hb9 := HB.out.trans (hbw.mono HB.out.size)
              have hown9 := own_below HOW.out hbw
              have hI9 := hI.below hb9
              clear hP hQ hP8 hQ8 hP9 hQ9 hbw hra hrb hS0
              go_wp2_with (first
                | (with_reducible refine wpList_load_if (by with_unfolding_all rfl) 24 _ rfl _ 0 rfl (m.map u8v) _ hI9 hu (by with_unfolding_all rfl) hzm ?_)
                | (go_at_call 19; (with_reducible refine (cB _).mono ?_); rintro e10 w10 ⟨rfl, hb10⟩; replace hb9 := hb9.trans (hb10.mono hb9.size); replace hown9 := own_below hown9 hb10; replace rP := rP.below hb10; replace rQ := rQ.below hb10)
                | (with_reducible refine wpList_load_if (by with_unfolding_all rfl) 24 _ rfl _ 0 rfl (X.map u8v) _ rP hu (by with_unfolding_all rfl) hzX ?_)
                | (with_reducible refine wpList_load_if (by with_unfolding_all rfl) 24 _ rfl _ 0 rfl (y.map u8v) _ rQ hu (by with_unfolding_all rfl) hzy ?_)
                | ((with_reducible refine wpList_build2 rfl _ _ rfl X y HLX.out HLY.out rfl rfl ?_); intro cs hcs)
                | (at_builtin; refine wpList_append_own _ rfl _ _ 25 rfl (w.heap.size + 1) 24 j0 (.agg (idVals zeroB)) 32 32 Tryz.underlying25 hj hjz hjs hjb rfl (by decide) _ _ _ rfl (hown9.alloc _) ⟨w10.heap.size, 0, none⟩ 2 2 (X.map u8v ++ y.map u8v) rfl ?l1 hcs ?l5 ?l2 ?l3 ?l4 ?_))
              case l1 => rw [List.length_append, List.length_map, List.length_map, HLX.out, HLY.out]
              case l5 => intro u hu; rcases List.mem_append.1 hu with hu | hu <;> exact u8v_one _ u hu
              case l2 => unfold maxLen; have := HN.out; omega
              case l3 => have := HN.out; omega
              case l4 => (try simp); have := hb9.size; omega
              intro v11 w11 hown11 hg11 _
              have hb11 := (hb9.alloc hb9.size _).grown hg11 (hb9.alloc hb9.size _).size (fun k hk => by rw [hk1]; exact (hown9.lt k hk).1)
              clear hg11
              go_wp2
              go_roundw
              case rel => exact ⟨k + 1, hlt, by go_num, (by rw [HF2.out, idsV_append, show idsV [X, y] = X.map u8v ++ y.map u8v by simp [idsV], show 2 * (k + 1) = 2 * k + 2 by omega]; exact hown11), hb11⟩
              case measure => simp [intOf]; omega
            exact AllReadyH.nil
          exact AllReadyH.nil
        exact AllReadyH.nil
      · have z0 : ((D : Int) == 0) = false := by rw [beq_eq_false_iff_ne]; omega
        have HF2 := hid (show sideL (pubF m l r) (k + 1) = sideL (pubF m l r) k ++ [y, X] by rw [HF.out, if_neg hd0])
        clear hd0
        go_wp2
        have hS0 : (wr.drew.rangeAt ga oa (x.map u8v) ∧ wr.drew.rangeAt gb ob (y.map u8v) ∧ Below wr.heap.size wr wr.drew) := ⟨hra, hrb, below_drew1 wr⟩
        refine wp_region_held_drew (S := fun w' => (w'.rangeAt ga oa (x.map u8v) ∧ w'.rangeAt gb ob (y.map u8v) ∧ Below wr.heap.size wr w')) (by kernel_rfl) hS0 (fun hHeld => ?_)
        generalize wr.drew = V0 at *
        refine' wpAnyH_take (i := 0) (v := .slice A n c) rfl (by kernel_rfl) (by kernel_rfl) (by kernel_rfl) (fun _ _ _ h => h) (Or.inl ⟨by rfl, fun w' hw' => by go_simp⟩) hHeld ?_
        try simp only [Act.put, List.setIfInBounds_toArray, List.set_cons_zero, List.set_cons_succ]
        refine' wpAnyH_take (i := 1) (v := .int .i64 k) rfl (by kernel_rfl) (by kernel_rfl) (by kernel_rfl) (fun _ _ _ h => h) (Or.inl ⟨by rfl, fun w' hw' => by go_simp⟩) hHeld ?_
        try simp only [Act.put, List.setIfInBounds_toArray, List.set_cons_zero, List.set_cons_succ]
        refine' wpAnyH_take (i := 2) (v := .pointer (some ⟨ga, oa, none⟩)) rfl (by kernel_rfl) (by kernel_rfl) (by kernel_rfl) (fun _ _ _ h => h) (Or.inl ⟨by rfl, fun w' hw' => by have hv := hia w'; go_simp⟩) hHeld ?_
        try simp only [Act.put, List.setIfInBounds_toArray, List.set_cons_zero, List.set_cons_succ]
        refine' wpAnyH_take (i := 3) (v := _) rfl (by kernel_rfl) (by kernel_rfl) (by kernel_rfl) (fun _ _ _ h => h) (yieldsIf_load_mid (by rfl) 24 _ rfl _ _ rfl (x.map u8v) _ (fun w' h => h.1) hu rfl hzx) hHeld ?_
        try simp only [Act.put, List.setIfInBounds_toArray, List.set_cons_zero, List.set_cons_succ]
        refine' wpAnyH_take (i := 5) (v := .slice B n d) rfl (by kernel_rfl) (by kernel_rfl) (by kernel_rfl) (fun _ _ _ h => h) (Or.inl ⟨by rfl, fun w' hw' => by go_simp⟩) hHeld ?_
        try simp only [Act.put, List.setIfInBounds_toArray, List.set_cons_zero, List.set_cons_succ]
        refine' wpAnyH_take (i := 6) (v := .int .i64 k) rfl (by kernel_rfl) (by kernel_rfl) (by kernel_rfl) (fun _ _ _ h => h) (Or.inl ⟨by rfl, fun w' hw' => by go_simp⟩) hHeld ?_
        try simp only [Act.put, List.setIfInBounds_toArray, List.set_cons_zero, List.set_cons_succ]
        refine' wpAnyH_take (i := 7) (v := .pointer (some ⟨gb, ob, none⟩)) rfl (by kernel_rfl) (by kernel_rfl) (by kernel_rfl) (fun _ _ _ h => h) (Or.inl ⟨by rfl, fun w' hw' => by have hv := hib w'; go_simp⟩) hHeld ?_
        try simp only [Act.put, List.setIfInBounds_toArray, List.set_cons_zero, List.set_cons_succ]
        refine' wpAnyH_take (i := 8) (v := _) rfl (by kernel_rfl) (by kernel_rfl) (by kernel_rfl) (fun _ _ _ h => h) (yieldsIf_load_mid (by rfl) 24 _ rfl _ _ rfl (y.map u8v) _ (fun w' h => h.2.1) hu rfl hzy) hHeld ?_
        try simp only [Act.put, List.setIfInBounds_toArray, List.set_cons_zero, List.set_cons_succ]
        refine wpAnyH_ready (rs := [4, 9, 10]) (by kernel_rfl) (by simp) ?_
        refine AllReadyH.cons rfl (fun K hK => ?_) ?_
        · go_simp
          (with_reducible refine (cP _).mono ?_)
          rintro e16 W16 ⟨rfl, hbc⟩
          refine hK.out _ _ ⟨hHeld.1.below hbc, hHeld.2.1.below hbc, hHeld.2.2.trans (hbc.mono hHeld.2.2.size)⟩ (fun hHeld => ?_)
          clear hbc
          clear hK K
          try simp only [Act.put, List.setIfInBounds_toArray, List.set_cons_zero, List.set_cons_succ]
          refine wpAnyH_ready (rs := [9, 10]) (by kernel_rfl) (by simp) ?_
          refine AllReadyH.cons rfl (fun K hK => ?_) ?_
          · go_simp
            have hA := (Below.refl W16.heap.size W16).alloc (Nat.le_refl _) (.cells #[.int .u8 0, .int .u8 0, .int .u8 0, .int .u8 0, .int .u8 0, .int .u8 0, .int .u8 0, .int .u8 0, .int .u8 0, .int .u8 0, .int .u8 0, .int .u8 0, .int .u8 0, .int .u8 0, .int .u8 0, .int .u8 0, .int .u8 0, .int .u8 0, .int .u8 0, .int .u8 0, .int .u8 0, .int .u8 0, .int .u8 0, .int .u8 0, .int .u8 0, .int .u8 0, .int .u8 0, .int .u8 0, .int .u8 0, .int .u8 0, .int .u8 0, .int .u8 0] 24)
            have hP := Blk.new W16 24 #[.int .u8 0, .int .u8 0, .int .u8 0, .int .u8 0, .int .u8 0, .int .u8 0, .int .u8 0, .int .u8 0, .int .u8 0, .int .u8 0, .int .u8 0, .int .u8 0, .int .u8 0, .int .u8 0, .int .u8 0, .int .u8 0, .int .u8 0, .int .u8 0, .int .u8 0, .int .u8 0, .int .u8 0, .int .u8 0, .int .u8 0, .int .u8 0, .int .u8 0, .int .u8 0, .int .u8 0, .int .u8 0, .int .u8 0, .int .u8 0, .int .u8 0, .int .u8 0]
            have hpg := hHeld.2.2.size
            have hS : ((W16.alloc (.cells #[.int .u8 0, .int .u8 0, .int .u8 0, .int .u8 0, .int .u8 0, .int .u8 0, .int .u8 0, .int .u8 0, .int .u8 0, .int .u8 0, .int .u8 0, .int .u8 0, .int .u8 0, .int .u8 0, .int .u8 0, .int .u8 0, .int .u8 0, .int .u8 0, .int .u8 0, .int .u8 0, .int .u8 0, .int .u8 0, .int .u8 0, .int .u8 0, .int .u8 0, .int .u8 0, .int .u8 0, .int .u8 0, .int .u8 0, .int .u8 0, .int .u8 0, .int .u8 0] 24)).rangeAt ga oa (x.map u8v) ∧ (W16.alloc (.cells #[.int .u8 0, .int .u8 0, .int .u8 0, .int .u8 0, .int .u8 0, .int .u8 0, .int .u8 0, .int .u8 0, .int .u8 0, .int .u8 0, .int .u8 0, .int .u8 0, .int .u8 0, .int .u8 0, .int .u8 0, .int .u8 0, .int .u8 0, .int .u8 0, .int .u8 0, .int .u8 0, .int .u8 0, .int .u8 0, .int .u8 0, .int .u8 0, .int .u8 0, .int .u8 0, .int .u8 0, .int .u8 0, .int .u8 0, .int .u8 0, .int .u8 0, .int .u8 0] 24)).rangeAt gb ob (y.map u8v) ∧ Below wr.heap.size wr (W16.alloc (.cells #[.int .u8 0, .int .u8 0, .int .u8 0, .int .u8 0, .int .u8 0, .int .u8 0, .int .u8 0, .int .u8 0, .int .u8 0, .int .u8 0, .int .u8 0, .int .u8 0, .int .u8 0, .int .u8 0, .int .u8 0, .int .u8 0, .int .u8 0, .int .u8 0, .int .u8 0, .int .u8 0, .int .u8 0, .int .u8 0, .int .u8 0, .int .u8 0, .int .u8 0, .int .u8 0, .int .u8 0, .int .u8 0, .int .u8 0, .int .u8 0, .int .u8 0, .int .u8 0] 24))) := ⟨hHeld.1.below hA, hHeld.2.1.below hA, hHeld.2.2.trans (hA.mono hHeld.2.2.size)⟩
            generalize W16.alloc (.cells #[.int .u8 0, .int .u8 0, .int .u8 0, .int .u8 0, .int .u8 0, .int .u8 0, .int .u8 0, .int .u8 0, .int .u8 0, .int .u8 0, .int .u8 0, .int .u8 0, .int .u8 0, .int .u8 0, .int .u8 0, .int .u8 0, .int .u8 0, .int .u8 0, .int .u8 0, .int .u8 0, .int .u8 0, .int .u8 0, .int .u8 0, .int .u8 0, .int .u8 0, .int .u8 0, .int .u8 0, .int .u8 0, .int .u8 0, .int .u8 0, .int .u8 0, .int .u8 0] 24) = W17 at *
            refine hK.out _ _ hS (fun hHeld => ?_)
            clear hA hS
            clear hK K
            try simp only [Act.put, List.setIfInBounds_toArray, List.set_cons_zero, List.set_cons_succ]
            refine wpAnyH_ready (rs := [10]) (by kernel_rfl) (by simp) ?_
            refine AllReadyH.cons rfl (fun K hK => ?_) ?_
            · go_simp
              have hA := (Below.refl W17.heap.size W17).alloc (Nat.le_refl _) (.cells #[.int .u8 0, .int .u8 0, .int .u8 0, .int .u8 0, .int .u8 0, .int .u8 0, .int .u8 0, .int .u8 0, .int .u8 0, .int .u8 0, .int .u8 0, .int .u8 0, .int .u8 0, .int .u8 0, .int .u8 0, .int .u8 0, .int .u8 0, .int .u8 0, .int .u8 0, .int .u8 0, .int .u8 0, .int .u8 0, .int .u8 0, .int .u8 0, .int .u8 0, .int .u8 0, .int .u8 0, .int .u8 0, .int .u8 0, .int .u8 0, .int .u8 0, .int .u8 0] 24)
              have hQ := Blk.new W17 24 #[.int .u8 0, .int .u8 0, .int .u8 0, .int .u8 0, .int .u8 0, .int .u8 0, .int .u8 0, .int .u8 0, .int .u8 0, .int .u8 0, .int .u8 0, .int .u8 0, .int .u8 0, .int .u8 0, .int .u8 0, .int .u8 0, .int .u8 0, .int .u8 0, .int .u8 0, .int .u8 0, .int .u8 0, .int .u8 0, .int .u8 0, .int .u8 0, .int .u8 0, .int .u8 0, .int .u8 0, .int .u8 0, .int .u8 0, .int .u8 0, .int .u8 0, .int .u8 0]
              have hqg := hHeld.2.2.size
              have hord := hP.lt
              replace hP := hP.below hA
              have hS : ((W17.alloc (.cells #[.int .u8 0, .int .u8 0, .int .u8 0, .int .u8 0, .int .u8 0, .int .u8 0, .int .u8 0, .int .u8 0, .int .u8 0, .int .u8 0, .int .u8 0, .int .u8 0, .int .u8 0, .int .u8 0, .int .u8 0, .int .u8 0, .int .u8 0, .int .u8 0, .int .u8 0, .int .u8 0, .int .u8 0, .int .u8 0, .int .u8 0, .int .u8 0, .int .u8 0, .int .u8 0, .int .u8 0, .int .u8 0, .int .u8 0, .int .u8 0, .int .u8 0, .int .u8 0] 24)).rangeAt ga oa (x.map u8v) ∧ (W17.alloc (.cells #[.int .u8 0, .int .u8 0, .int .u8 0, .int .u8 0, .int .u8 0, .int .u8 0, .int .u8 0, .int .u8 0, .int .u8 0, .int .u8 0, .int .u8 0, .int .u8 0, .int .u8 0, .int .u8 0, .int .u8 0, .int .u8 0, .int .u8 0, .int .u8 0, .int .u8 0, .int .u8 0, .int .u8 0, .int .u8 0, .int .u8 0, .int .u8 0, .int .u8 0, .int .u8 0, .int .u8 0, .int .u8 0, .int .u8 0, .int .u8 0, .int .u8 0, .int .u8 0] 24)).rangeAt gb ob (y.map u8v) ∧ Below wr.heap.size wr (W17.alloc (.cells #[.int .u8 0, .int .u8 0, .int .u8 0, .int .u8 0, .int .u8 0, .int .u8 0, .int .u8 0, .int .u8 0, .int .u8 0, .int .u8 0, .int .u8 0, .int .u8 0, .int .u8 0, .int .u8 0, .int .u8 0, .int .u8 0, .int .u8 0, .int .u8 0, .int .u8 0, .int .u8 0, .int .u8 0, .int .u8 0, .int .u8 0, .int .u8 0, .int .u8 0, .int .u8 0, .int .u8 0, .int .u8 0, .int .u8 0, .int .u8 0, .int .u8 0, .int .u8 0] 24))) := ⟨hHeld.1.below hA, hHeld.2.1.below hA, hHeld.2.2.trans (hA.mono hHeld.2.2.size)⟩
              generalize W17.alloc (.cells #[.int .u8 0, .int .u8 0, .int .u8 0, .int .u8 0, .int .u8 0, .int .u8 0, .int .u8 0, .int .u8 0, .int .u8 0, .int .u8 0, .int .u8 0, .int .u8 0, .int .u8 0, .int .u8 0, .int .u8 0, .int .u8 0, .int .u8 0, .int .u8 0, .int .u8 0, .int .u8 0, .int .u8 0, .int .u8 0, .int .u8 0, .int .u8 0, .int .u8 0, .int .u8 0, .int .u8 0, .int .u8 0, .int .u8 0, .int .u8 0, .int .u8 0, .int .u8 0] 24) = W18 at *
              refine hK.out _ _ hS (fun hHeld => ?_)
              clear hA hS
              clear hK K
              try simp only [Act.put, List.setIfInBounds_toArray, List.set_cons_zero, List.set_cons_succ]
              have hpq : W16.heap.size ≠ W17.heap.size := by have h1 := hP.lt; have h2 := hQ.lt; omega
              have hpge : wr.heap.size ≤ W16.heap.size := hpg
              have hqge : wr.heap.size ≤ W17.heap.size := hqg
              refine wpAnyH_ready (rs := [11]) (by kernel_rfl) (by simp) ?_
              refine AllReadyH.cons rfl (fun K hK => ?_) AllReadyH.nil
              rw [if_pos (by rfl)]
              refine wp_store_blk 24 _ _ rfl _ _ (idVals X) 24 hP rfl rfl (by rw [idVals_size, HLX.out]; exact sizeId) (by rw [idVals_size, HLX.out]; rfl) (idVals_one _) ?_
              intro w8 hP8 hg8
              have hQ8 := blk_gb hQ hg8 (fun e => hpq e.symm)
              have hS8 : (w8.rangeAt ga oa (x.map u8v) ∧ w8.rangeAt gb ob (y.map u8v) ∧ Below wr.heap.size wr w8) := ⟨range_gb hHeld.1 hg8 (by have := HGA.out; omega), range_gb hHeld.2.1 hg8 (by have := HGB.out; omega), hHeld.2.2.grown hg8 hHeld.2.2.size (by intro i e; cases e; exact hpge)⟩
              refine hK.out _ _ hS8 (fun hHeld => ?_)
              clear hK K hg8 hS8
              try simp only [Act.put, List.setIfInBounds_toArray, List.set_cons_zero, List.set_cons_succ]
              refine wpAnyH_ready (rs := [12]) (by kernel_rfl) (by simp) ?_
              refine AllReadyH.cons rfl (fun K hK => ?_) AllReadyH.nil
              rw [if_pos (by rfl)]
              refine wp_store_blk 24 _ _ rfl _ _ (y.map u8v).toArray 24 hQ8 rfl rfl (by rw [show (y.map u8v).toArray.size = 32 by rw [List.size_toArray, List.length_map, HLY.out]]; exact sizeId) (by rw [show (y.map u8v).toArray.size = 32 by rw [List.size_toArray, List.length_map, HLY.out]]; rfl) (idVals_one y) ?_
              intro w9 hQ9 hg9
              have hP9 := blk_gb hP8 hg9 hpq
              have hS9 : (w9.rangeAt ga oa (x.map u8v) ∧ w9.rangeAt gb ob (y.map u8v) ∧ Below wr.heap.size wr w9) := ⟨range_gb hHeld.1 hg9 (by have := HGA.out; omega), range_gb hHeld.2.1 hg9 (by have := HGB.out; omega), hHeld.2.2.grown hg9 hHeld.2.2.size (by intro i e; cases e; exact hqge)⟩
              refine hK.out _ _ hS9 (fun hHeld => ?_)
              clear hK K hg9 hS9
              try simp only [Act.put, List.setIfInBounds_toArray, List.set_cons_zero, List.set_cons_succ]
              refine wpAnyH_done (by kernel_rfl) ?_ _
              have rP := range_blk hP9
              have rQ : w9.rangeAt W17.heap.size 0 (y.map u8v) := range_blk hQ9
              have hbw := hHeld.2.2
              have hb9 := HB.out.trans (hbw.mono HB.out.size)
              have hown9 := own_below HOW.out hbw
              have hI9 := hI.below hb9
              clear hP hQ hP8 hQ8 hP9 hQ9 hbw hra hrb hS0
              go_wp2_with (first
                | (with_reducible refine wpList_load_if (by with_unfolding_all rfl) 24 _ rfl _ 0 rfl (m.map u8v) _ hI9 hu (by with_unfolding_all rfl) hzm ?_)
                | (go_at_call 19; (with_reducible refine (cB _).mono ?_); rintro e10 w10 ⟨rfl, hb10⟩; replace hb9 := hb9.trans (hb10.mono hb9.size); replace hown9 := own_below hown9 hb10; replace rP := rP.below hb10; replace rQ := rQ.below hb10)
                | (with_reducible refine wpList_load_if (by with_unfolding_all rfl) 24 _ rfl _ 0 rfl (X.map u8v) _ rP hu (by with_unfolding_all rfl) hzX ?_)
                | (with_reducible refine wpList_load_if (by with_unfolding_all rfl) 24 _ rfl _ 0 rfl (y.map u8v) _ rQ hu (by with_unfolding_all rfl) hzy ?_)
                | ((with_reducible refine wpList_build2 rfl _ _ rfl y X HLY.out HLX.out rfl rfl ?_); intro cs hcs)
                | (at_builtin; refine wpList_append_own _ rfl _ _ 25 rfl (w.heap.size + 1) 24 j0 (.agg (idVals zeroB)) 32 32 Tryz.underlying25 hj hjz hjs hjb rfl (by decide) _ _ _ rfl (hown9.alloc _) ⟨w10.heap.size, 0, none⟩ 2 2 (y.map u8v ++ X.map u8v) rfl ?l1 hcs ?l5 ?l2 ?l3 ?l4 ?_))
              case l1 => rw [List.length_append, List.length_map, List.length_map, HLY.out, HLX.out]
              case l5 => intro u hu; rcases List.mem_append.1 hu with hu | hu <;> exact u8v_one _ u hu
              case l2 => unfold maxLen; have := HN.out; omega
              case l3 => have := HN.out; omega
              case l4 => (try simp); have := hb9.size; omega
              intro v11 w11 hown11 hg11 _
              have hb11 := (hb9.alloc hb9.size _).grown hg11 (hb9.alloc hb9.size _).size (fun k hk => by rw [hk1]; exact (hown9.lt k hk).1)
              clear hg11
              go_wp2
              go_roundw
              case rel => exact ⟨k + 1, hlt, by go_num, (by rw [HF2.out, idsV_append, show idsV [y, X] = y.map u8v ++ X.map u8v by simp [idsV], show 2 * (k + 1) = 2 * k + 2 by omega]; exact hown11), hb11⟩
              case measure => simp [intOf]; omega
            exact AllReadyH.nil
          refine AllReadyH.cons rfl (fun K hK => ?_) ?_
          · go_simp
            have hA := (Below.refl W16.heap.size W16).alloc (Nat.le_refl _) (.cells #[.int .u8 0, .int .u8 0, .int .u8 0, .int .u8 0, .int .u8 0, .int .u8 0, .int .u8 0, .int .u8 0, .int .u8 0, .int .u8 0, .int .u8 0, .int .u8 0, .int .u8 0, .int .u8 0, .int .u8 0, .int .u8 0, .int .u8 0, .int .u8 0, .int .u8 0, .int .u8 0, .int .u8 0, .int .u8 0, .int .u8 0, .int .u8 0, .int .u8 0, .int .u8 0, .int .u8 0, .int .u8 0, .int .u8 0, .int .u8 0, .int .u8 0, .int .u8 0] 24)
            have hQ := Blk.new W16 24 #[.int .u8 0, .int .u8 0, .int .u8 0, .int .u8 0, .int .u8 0, .int .u8 0, .int .u8 0, .int .u8 0, .int .u8 0, .int .u8 0, .int .u8 0, .int .u8 0, .int .u8 0, .int .u8 0, .int .u8 0, .int .u8 0, .int .u8 0, .int .u8 0, .int .u8 0, .int .u8 0, .int .u8 0, .int .u8 0, .int .u8 0, .int .u8 0, .int .u8 0, .int .u8 0, .int .u8 0, .int .u8 0, .int .u8 0, .int .u8 0, .int .u8 0, .int .u8 0]
            have hqg := hHeld.2.2.size
            have hS : ((W16.alloc (.cells #[.int .u8 0, .int .u8 0, .int .u8 0, .int .u8 0, .int .u8 0, .int .u8 0, .int .u8 0, .int .u8 0, .int .u8 0, .int .u8 0, .int .u8 0, .int .u8 0, .int .u8 0, .int .u8 0, .int .u8 0, .int .u8 0, .int .u8 0, .int .u8 0, .int .u8 0, .int .u8 0, .int .u8 0, .int .u8 0, .int .u8 0, .int .u8 0, .int .u8 0, .int .u8 0, .int .u8 0, .int .u8 0, .int .u8 0, .int .u8 0, .int .u8 0, .int .u8 0] 24)).rangeAt ga oa (x.map u8v) ∧ (W16.alloc (.cells #[.int .u8 0, .int .u8 0, .int .u8 0, .int .u8 0, .int .u8 0, .int .u8 0, .int .u8 0, .int .u8 0, .int .u8 0, .int .u8 0, .int .u8 0, .int .u8 0, .int .u8 0, .int .u8 0, .int .u8 0, .int .u8 0, .int .u8 0, .int .u8 0, .int .u8 0, .int .u8 0, .int .u8 0, .int .u8 0, .int .u8 0, .int .u8 0, .int .u8 0, .int .u8 0, .int .u8 0, .int .u8 0, .int .u8 0, .int .u8 0, .int .u8 0, .int .u8 0] 24)).rangeAt gb ob (y.map u8v) ∧ Below wr.heap.size wr (W16.alloc (.cells #[.int .u8 0, .int .u8 0, .int .u8 0, .int .u8 0, .int .u8 0, .int .u8 0, .int .u8 0, .int .u8 0, .int .u8 0, .int .u8 0, .int .u8 0, .int .u8 0, .int .u8 0, .int .u8 0, .int .u8 0, .int .u8 0, .int .u8 0, .int .u8 0, .int .u8 0, .int .u8 0, .int .u8 0, .int .u8 0, .int .u8 0, .int .u8 0, .int .u8 0, .int .u8 0, .int .u8 0, .int .u8 0, .int .u8 0, .int .u8 0, .int .u8 0, .int .u8 0] 24))) := ⟨hHeld.1.below hA, hHeld.2.1.below hA, hHeld.2.2.trans (hA.mono hHeld.2.2.size)⟩
            generalize W16.alloc (.cells #[.int .u8 0, .int .u8 0, .int .u8 0, .int .u8 0, .int .u8 0, .int .u8 0, .int .u8 0, .int .u8 0, .int .u8 0, .int .u8 0, .int .u8 0, .int .u8 0, .int .u8 0, .int .u8 0, .int .u8 0, .int .u8 0, .int .u8 0, .int .u8 0, .int .u8 0, .int .u8 0, .int .u8 0, .int .u8 0, .int .u8 0, .int .u8 0, .int .u8 0, .int .u8 0, .int .u8 0, .int .u8 0, .int .u8 0, .int .u8 0, .int .u8 0, .int .u8 0] 24) = W19 at *
            refine hK.out _ _ hS (fun hHeld => ?_)
            clear hA hS
            clear hK K
            try simp only [Act.put, List.setIfInBounds_toArray, List.set_cons_zero, List.set_cons_succ]
            refine wpAnyH_ready (rs := [9]) (by kernel_rfl) (by simp) ?_
            refine AllReadyH.cons rfl (fun K hK => ?_) ?_
            · go_simp
              have hA := (Below.refl W19.heap.size W19).alloc (Nat.le_refl _) (.cells #[.int .u8 0, .int .u8 0, .int .u8 0, .int .u8 0, .int .u8 0, .int .u8 0, .int .u8 0, .int .u8 0, .int .u8 0, .int .u8 0, .int .u8 0, .int .u8 0, .int .u8 0, .int .u8 0, .int .u8 0, .int .u8 0, .int .u8 0, .int .u8 0, .int .u8 0, .int .u8 0, .int .u8 0, .int .u8 0, .int .u8 0, .int .u8 0, .int .u8 0, .int .u8 0, .int .u8 0, .int .u8 0, .int .u8 0, .int .u8 0, .int .u8 0, .int .u8 0] 24)
              have hP := Blk.new W19 24 #[.int .u8 0, .int .u8 0, .int .u8 0, .int .u8 0, .int .u8 0, .int .u8 0, .int .u8 0, .int .u8 0, .int .u8 0, .int .u8 0, .int .u8 0, .int .u8 0, .int .u8 0, .int .u8 0, .int .u8 0, .int .u8 0, .int .u8 0, .int .u8 0, .int .u8 0, .int .u8 0, .int .u8 0, .int .u8 0, .int .u8 0, .int .u8 0, .int .u8 0, .int .u8 0, .int .u8 0, .int .u8 0, .int .u8 0, .int .u8 0, .int .u8 0, .int .u8 0]
              have hpg := hHeld.2.2.size
              have hord := hQ.lt
              replace hQ := hQ.below hA
              have hS : ((W19.alloc (.cells #[.int .u8 0, .int .u8 0, .int .u8 0, .int .u8 0, .int .u8 0, .int .u8 0, .int .u8 0, .int .u8 0, .int .u8 0, .int .u8 0, .int .u8 0, .int .u8 0, .int .u8 0, .int .u8 0, .int .u8 0, .int .u8 0, .int .u8 0, .int .u8 0, .int .u8 0, .int .u8 0, .int .u8 0, .int .u8 0, .int .u8 0, .int .u8 0, .int .u8 0, .int .u8 0, .int .u8 0, .int .u8 0, .int .u8 0, .int .u8 0, .int .u8 0, .int .u8 0] 24)).rangeAt ga oa (x.map u8v) ∧ (W19.alloc (.cells #[.int .u8 0, .int .u8 0, .int .u8 0, .int .u8 0, .int .u8 0, .int .u8 0, .int .u8 0, .int .u8 0, .int .u8 0, .int .u8 0, .int .u8 0, .int .u8 0, .int .u8 0, .int .u8 0, .int .u8 0, .int .u8 0, .int .u8 0, .int .u8 0, .int .u8 0, .int .u8 0, .int .u8 0, .int .u8 0, .int .u8 0, .int .u8 0, .int .u8 0, .int .u8 0, .int .u8 0, .int .u8 0, .int .u8 0, .int .u8 0, .int .u8 0, .int .u8 0] 24)).rangeAt gb ob (y.map u8v) ∧ Below wr.heap.size wr (W19.alloc (.cells #[.int .u8 0, .int .u8 0, .int .u8 0, .int .u8 0, .int .u8 0, .int .u8 0, .int .u8 0, .int .u8 0, .int .u8 0, .int .u8 0, .int .u8 0, .int .u8 0, .int .u8 0, .int .u8 0, .int .u8 0, .int .u8 0, .int .u8 0, .int .u8 0, .int .u8 0, .int .u8 0, .int .u8 0, .int .u8 0, .int .u8 0, .int .u8 0, .int .u8 0, .int .u8 0, .int .u8 0, .int .u8 0, .int .u8 0, .int .u8 0, .int .u8 0, .int .u8 0] 24))) := ⟨hHeld.1.below hA, hHeld.2.1.below hA, hHeld.2.2.trans (hA.mono hHeld.2.2.size)⟩
              generalize W19.alloc (.cells #[.int .u8 0, .int .u8 0, .int .u8 0, .int .u8 0, .int .u8 0, .int .u8 0, .int .u8 0, .int .u8 0, .int .u8 0, .int .u8 0, .int .u8 0, .int .u8 0, .int .u8 0, .int .u8 0, .int .u8 0, .int .u8 0, .int .u8 0, .int .u8 0, .int .u8 0, .int .u8 0, .int .u8 0, .int .u8 0, .int .u8 0, .int .u8 0, .int .u8 0, .int .u8 0, .int .u8 0, .int .u8 0, .int .u8 0, .int .u8 0, .int .u8 0, .int .u8 0] 24) = W20 at *
              refine hK.out _ _ hS (fun hHeld => ?_)
              clear hA hS
              clear hK K
              try simp only [Act.put, List.setIfInBounds_toArray, List.set_cons_zero, List.set_cons_succ]
              have hpq : W19.heap.size ≠ W16.heap.size := by have h1 := hP.lt; have h2 := hQ.lt; omega
              have hpge : wr.heap.size ≤ W19.heap.size := hpg
              have hqge : wr.heap.size ≤ W16.heap.size := hqg
              refine wpAnyH_ready (rs := [11]) (by kernel_rfl) (by simp) ?_
              refine AllReadyH.cons rfl (fun K hK => ?_) AllReadyH.nil
              rw [if_pos (by rfl)]
              refine wp_store_blk 24 _ _ rfl _ _ (idVals X) 24 hP rfl rfl (by rw [idVals_size, HLX.out]; exact sizeId) (by rw [idVals_size, HLX.out]; rfl) (idVals_one _) ?_
              intro w8 hP8 hg8
              have hQ8 := blk_gb hQ hg8 (fun e => hpq e.symm)
              have hS8 : (w8.rangeAt ga oa (x.map u8v) ∧ w8.rangeAt gb ob (y.map u8v) ∧ Below wr.heap.size wr w8) := ⟨range_gb hHeld.1 hg8 (by have := HGA.out; omega), range_gb hHeld.2.1 hg8 (by have := HGB.out; omega), hHeld.2.2.grown hg8 hHeld.2.2.size (by intro i e; cases e; exact hpge)⟩
              refine hK.out _ _ hS8 (fun hHeld => ?_)
              clear hK K hg8 hS8
              try simp only [Act.put, List.setIfInBounds_toArray, List.set_cons_zero, List.set_cons_succ]
              refine wpAnyH_ready (rs := [12]) (by kernel_rfl) (by simp) ?_
              refine AllReadyH.cons rfl (fun K hK => ?_) AllReadyH.nil
              rw [if_pos (by rfl)]
              refine wp_store_blk 24 _ _ rfl _ _ (y.map u8v).toArray 24 hQ8 rfl rfl (by rw [show (y.map u8v).toArray.size = 32 by rw [List.size_toArray, List.length_map, HLY.out]]; exact sizeId) (by rw [show (y.map u8v).toArray.size = 32 by rw [List.size_toArray, List.length_map, HLY.out]]; rfl) (idVals_one y) ?_
              intro w9 hQ9 hg9
              have hP9 := blk_gb hP8 hg9 hpq
              have hS9 : (w9.rangeAt ga oa (x.map u8v) ∧ w9.rangeAt gb ob (y.map u8v) ∧ Below wr.heap.size wr w9) := ⟨range_gb hHeld.1 hg9 (by have := HGA.out; omega), range_gb hHeld.2.1 hg9 (by have := HGB.out; omega), hHeld.2.2.grown hg9 hHeld.2.2.size (by intro i e; cases e; exact hqge)⟩
              refine hK.out _ _ hS9 (fun hHeld => ?_)
              clear hK K hg9 hS9
              try simp only [Act.put, List.setIfInBounds_toArray, List.set_cons_zero, List.set_cons_succ]
              refine wpAnyH_done (by kernel_rfl) ?_ _
              have rP := range_blk hP9
              have rQ : w9.rangeAt W16.heap.size 0 (y.map u8v) := range_blk hQ9
              have hbw := hHeld.2.2
              have hb9 := HB.out.trans (hbw.mono HB.out.size)
              have hown9 := own_below HOW.out hbw
              have hI9 := hI.below hb9
              clear hP hQ hP8 hQ8 hP9 hQ9 hbw hra hrb hS0
              go_wp2_with (first
                | (with_reducible refine wpList_load_if (by with_unfolding_all rfl) 24 _ rfl _ 0 rfl (m.map u8v) _ hI9 hu (by with_unfolding_all rfl) hzm ?_)
                | (go_at_call 19; (with_reducible refine (cB _).mono ?_); rintro e10 w10 ⟨rfl, hb10⟩; replace hb9 := hb9.trans (hb10.mono hb9.size); replace hown9 := own_below hown9 hb10; replace rP := rP.below hb10; replace rQ := rQ.below hb10)
                | (with_reducible refine wpList_load_if (by with_unfolding_all rfl) 24 _ rfl _ 0 rfl (X.map u8v) _ rP hu (by with_unfolding_all rfl) hzX ?_)
                | (with_reducible refine wpList_load_if (by with_unfolding_all rfl) 24 _ rfl _ 0 rfl (y.map u8v) _ rQ hu (by with_unfolding_all rfl) hzy ?_)
                | ((with_reducible refine wpList_build2 rfl _ _ rfl y X HLY.out HLX.out rfl rfl ?_); intro cs hcs)
                | (at_builtin; refine wpList_append_own _ rfl _ _ 25 rfl (w.heap.size + 1) 24 j0 (.agg (idVals zeroB)) 32 32 Tryz.underlying25 hj hjz hjs hjb rfl (by decide) _ _ _ rfl (hown9.alloc _) ⟨w10.heap.size, 0, none⟩ 2 2 (y.map u8v ++ X.map u8v) rfl ?l1 hcs ?l5 ?l2 ?l3 ?l4 ?_))
              case l1 => rw [List.length_append, List.length_map, List.length_map, HLY.out, HLX.out]
              case l5 => intro u hu; rcases List.mem_append.1 hu with hu | hu <;> exact u8v_one _ u hu
              case l2 => unfold maxLen; have := HN.out; omega
              case l3 => have := HN.out; omega
              case l4 => (try simp); have := hb9.size; omega
              intro v11 w11 hown11 hg11 _
              have hb11 := (hb9.alloc hb9.size _).grown hg11 (hb9.alloc hb9.size _).size (fun k hk => by rw [hk1]; exact (hown9.lt k hk).1)
              clear hg11
              go_wp2
              go_roundw
              case rel => exact ⟨k + 1, hlt, by go_num, (by rw [HF2.out, idsV_append, show idsV [y, X] = y.map u8v ++ X.map u8v by simp [idsV], show 2 * (k + 1) = 2 * k + 2 by omega]; exact hown11), hb11⟩
              case measure => simp [intOf]; omega
            exact AllReadyH.nil
          exact AllReadyH.nil
        refine AllReadyH.cons rfl (fun K hK => ?_) ?_
        · go_simp
          have hA := (Below.refl V0.heap.size V0).alloc (Nat.le_refl _) (.cells #[.int .u8 0, .int .u8 0, .int .u8 0, .int .u8 0, .int .u8 0, .int .u8 0, .int .u8 0, .int .u8 0, .int .u8 0, .int .u8 0, .int .u8 0, .int .u8 0, .int .u8 0, .int .u8 0, .int .u8 0, .int .u8 0, .int .u8 0, .int .u8 0, .int .u8 0, .int .u8 0, .int .u8 0, .int .u8 0, .int .u8 0, .int .u8 0, .int .u8 0, .int .u8 0, .int .u8 0, .int .u8 0, .int .u8 0, .int .u8 0, .int .u8 0, .int .u8 0] 24)
          have hP := Blk.new V0 24 #[.int .u8 0, .int .u8 0, .int .u8 0, .int .u8 0, .int .u8 0, .int .u8 0, .int .u8 0, .int .u8 0, .int .u8 0, .int .u8 0, .int .u8 0, .int .u8 0, .int .u8 0, .int .u8 0, .int .u8 0, .int .u8 0, .int .u8 0, .int .u8 0, .int .u8 0, .int .u8 0, .int .u8 0, .int .u8 0, .int .u8 0, .int .u8 0, .int .u8 0, .int .u8 0, .int .u8 0, .int .u8 0, .int .u8 0, .int .u8 0, .int .u8 0, .int .u8 0]
          have hpg := hHeld.2.2.size
          have hS : ((V0.alloc (.cells #[.int .u8 0, .int .u8 0, .int .u8 0, .int .u8 0, .int .u8 0, .int .u8 0, .int .u8 0, .int .u8 0, .int .u8 0, .int .u8 0, .int .u8 0, .int .u8 0, .int .u8 0, .int .u8 0, .int .u8 0, .int .u8 0, .int .u8 0, .int .u8 0, .int .u8 0, .int .u8 0, .int .u8 0, .int .u8 0, .int .u8 0, .int .u8 0, .int .u8 0, .int .u8 0, .int .u8 0, .int .u8 0, .int .u8 0, .int .u8 0, .int .u8 0, .int .u8 0] 24)).rangeAt ga oa (x.map u8v) ∧ (V0.alloc (.cells #[.int .u8 0, .int .u8 0, .int .u8 0, .int .u8 0, .int .u8 0, .int .u8 0, .int .u8 0, .int .u8 0, .int .u8 0, .int .u8 0, .int .u8 0, .int .u8 0, .int .u8 0, .int .u8 0, .int .u8 0, .int .u8 0, .int .u8 0, .int .u8 0, .int .u8 0, .int .u8 0, .int .u8 0, .int .u8 0, .int .u8 0, .int .u8 0, .int .u8 0, .int .u8 0, .int .u8 0, .int .u8 0, .int .u8 0, .int .u8 0, .int .u8 0, .int .u8 0] 24)).rangeAt gb ob (y.map u8v) ∧ Below wr.heap.size wr (V0.alloc (.cells #[.int .u8 0, .int .u8 0, .int .u8 0, .int .u8 0, .int .u8 0, .int .u8 0, .int .u8 0, .int .u8 0, .int .u8 0, .int .u8 0, .int .u8 0, .int .u8 0, .int .u8 0, .int .u8 0, .int .u8 0, .int .u8 0, .int .u8 0, .int .u8 0, .int .u8 0, .int .u8 0, .int .u8 0, .int .u8 0, .int .u8 0, .int .u8 0, .int .u8 0, .int .u8 0, .int .u8 0, .int .u8 0, .int .u8 0, .int .u8 0, .int .u8 0, .int .u8 0] 24))) := ⟨hHeld.1.below hA, hHeld.2.1.below hA, hHeld.2.2.trans (hA.mono hHeld.2.2.size)⟩
          generalize V0.alloc (.cells #[.int .u8 0, .int .u8 0, .int .u8 0, .int .u8 0, .int .u8 0, .int .u8 0, .int .u8 0, .int .u8 0, .int .u8 0, .int .u8 0, .int .u8 0, .int .u8 0, .int .u8 0, .int .u8 0, .int .u8 0, .int .u8 0, .int .u8 0, .int .u8 0, .int .u8 0, .int .u8 0, .int .u8 0, .int .u8 0, .int .u8 0, .int .u8 0, .int .u8 0, .int .u8 0, .int .u8 0, .int .u8 0, .int .u8 0, .int .u8 0, .int .u8 0, .int .u8 0] 24) = W21 at *
          refine hK.out _ _ hS (fun hHeld => ?_)
          clear hA hS
          clear hK K
          try simp only [Act.put, List.setIfInBounds_toArray, List.set_cons_zero, List.set_cons_succ]
          refine wpAnyH_ready (rs := [4, 10]) (by kernel_rfl) (by simp) ?_
          refine AllReadyH.cons rfl (fun K hK => ?_) ?_
          · go_simp
            (with_reducible refine (cP _).mono ?_)
            rintro e22 W22 ⟨rfl, hbc⟩
            replace hP := hP.below hbc
            refine hK.out _ _ ⟨hHeld.1.below hbc, hHeld.2.1.below hbc, hHeld.2.2.trans (hbc.mono hHeld.2.2.size)⟩ (fun hHeld => ?_)
            clear hbc
            clear hK K
            try simp only [Act.put, List.setIfInBounds_toArray, List.set_cons_zero, List.set_cons_succ]
            refine wpAnyH_ready (rs := [10]) (by kernel_rfl) (by simp) ?_
            refine AllReadyH.cons rfl (fun K hK => ?_) ?_
            · go_simp
              have hA := (Below.refl W22.heap.size W22).alloc (Nat.le_refl _) (.cells #[.int .u8 0, .int .u8 0, .int .u8 0, .int .u8 0, .int .u8 0, .int .u8 0, .int .u8 0, .int .u8 0, .int .u8 0, .int .u8 0, .int .u8 0, .int .u8 0, .int .u8 0, .int .u8 0, .int .u8 0, .int .u8 0, .int .u8 0, .int .u8 0, .int .u8 0, .int .u8 0, .int .u8 0, .int .u8 0, .int .u8 0, .int .u8 0, .int .u8 0, .int .u8 0, .int .u8 0, .int .u8 0, .int .u8 0, .int .u8 0, .int .u8 0, .int .u8 0] 24)
              have hQ := Blk.new W22 24 #[.int .u8 0, .int .u8 0, .int .u8 0, .int .u8 0, .int .u8 0, .int .u8 0, .int .u8 0, .int .u8 0, .int .u8 0, .int .u8 0, .int .u8 0, .int .u8 0, .int .u8 0, .int .u8 0, .int .u8 0, .int .u8 0, .int .u8 0, .int .u8 0, .int .u8 0, .int .u8 0, .int .u8 0, .int .u8 0, .int .u8 0, .int .u8 0, .int .u8 0, .int .u8 0, .int .u8 0, .int .u8 0, .int .u8 0, .int .u8 0, .int .u8 0, .int .u8 0]
              have hqg := hHeld.2.2.size
              have hord := hP.lt
              replace hP := hP.below hA
              have hS : ((W22.alloc (.cells #[.int .u8 0, .int .u8 0, .int .u8 0, .int .u8 0, .int .u8 0, .int .u8 0, .int .u8 0, .int .u8 0, .int .u8 0, .int .u8 0, .int .u8 0, .int .u8 0, .int .u8 0, .int .u8 0, .int .u8 0, .int .u8 0, .int .u8 0, .int .u8 0, .int .u8 0, .int .u8 0, .int .u8 0, .int .u8 0, .int .u8 0, .int .u8 0, .int .u8 0, .int .u8 0, .int .u8 0, .int .u8 0, .int .u8 0, .int .u8 0, .int .u8 0, .int .u8 0] 24)).rangeAt ga oa (x.map u8v) ∧ (W22.alloc (.cells #[.int .u8 0, .int .u8 0, .int .u8 0, .int .u8 0, .int .u8 0, .int .u8 0, .int .u8 0, .int .u8 0, .int .u8 0, .int .u8 0, .int .u8 0, .int .u8 0, .int .u8 0, .int .u8 0, .int .u8 0, .int .u8 0, .int .u8 0, .int .u8 0, .int .u8 0, .int .u8 0, .int .u8 0, .int .u8 0, .int .u8 0, .int .u8 0, .int .u8 0, .int .u8 0, .int .u8 0, .int .u8 0, .int .u8 0, .int .u8 0, .int .u8 0, .int .u8 0] 24)).rangeAt gb ob (y.map u8v) ∧ Below wr.heap.size wr (W22.alloc (.cells #[.int .u8 0, .int .u8 0, .int .u8 0, .int .u8 0, .int .u8 0, .int .u8 0, .int .u8 0, .int .u8 0, .int .u8 0, .int .u8 0, .int .u8 0, .int .u8 0, .int .u8 0, .int .u8 0, .int .u8 0, .int .u8 0, .int .u8 0, .int .u8 0, .int .u8 0, .int .u8 0, .int .u8 0, .int .u8 0, .int .u8 0, .int .u8 0, .int .u8 0, .int .u8 0, .int .u8 0, .int .u8 0, .int .u8 0, .int .u8 0, .int .u8 0, .int .u8 0] 24))) := ⟨hHeld.1.below hA, hHeld.2.1.below hA, hHeld.2.2.trans (hA.mono hHeld.2.2.size)⟩
              generalize W22.alloc (.cells #[.int .u8 0, .int .u8 0, .int .u8 0, .int .u8 0, .int .u8 0, .int .u8 0, .int .u8 0, .int .u8 0, .int .u8 0, .int .u8 0, .int .u8 0, .int .u8 0, .int .u8 0, .int .u8 0, .int .u8 0, .int .u8 0, .int .u8 0, .int .u8 0, .int .u8 0, .int .u8 0, .int .u8 0, .int .u8 0, .int .u8 0, .int .u8 0, .int .u8 0, .int .u8 0, .int .u8 0, .int .u8 0, .int .u8 0, .int .u8 0, .int .u8 0, .int .u8 0] 24) = W23 at *
              refine hK.out _ _ hS (fun hHeld => ?_)
              clear hA hS
              clear hK K
              try simp only [Act.put, List.setIfInBounds_toArray, List.set_cons_zero, List.set_cons_succ]
              have hpq : V0.heap.size ≠ W22.heap.size := by have h1 := hP.lt; have h2 := hQ.lt; omega
              have hpge : wr.heap.size ≤ V0.heap.size := hpg
              have hqge : wr.heap.size ≤ W22.heap.size := hqg
              refine wpAnyH_ready (rs := [11]) (by kernel_rfl) (by simp) ?_
              refine AllReadyH.cons rfl (fun K hK => ?_) AllReadyH.nil
              rw [if_pos (by rfl)]
              refine wp_store_blk 24 _ _ rfl _ _ (idVals X) 24 hP rfl rfl (by rw [idVals_size, HLX.out]; exact sizeId) (by rw [idVals_size, HLX.out]; rfl) (idVals_one _) ?_
              intro w8 hP8 hg8
              have hQ8 := blk_gb hQ hg8 (fun e => hpq e.symm)
              have hS8 : (w8.rangeAt ga oa (x.map u8v) ∧ w8.rangeAt gb ob (y.map u8v) ∧ Below wr.heap.size wr w8) := ⟨range_gb hHeld.1 hg8 (by have := HGA.out; omega), range_gb hHeld.2.1 hg8 (by have := HGB.out; omega), hHeld.2.2.grown hg8 hHeld.2.2.size (by intro i e; cases e; exact hpge)⟩
              refine hK.out _ _ hS8 (fun hHeld => ?_)
              clear hK K hg8 hS8
              try simp only [Act.put, List.setIfInBounds_toArray, List.set_cons_zero, List.set_cons_succ]
              refine wpAnyH_ready (rs := [12]) (by kernel_rfl) (by simp) ?_
              refine AllReadyH.cons rfl (fun K hK => ?_) AllReadyH.nil
              rw [if_pos (by rfl)]
              refine wp_store_blk 24 _ _ rfl _ _ (y.map u8v).toArray 24 hQ8 rfl rfl (by rw [show (y.map u8v).toArray.size = 32 by rw [List.size_toArray, List.length_map, HLY.out]]; exact sizeId) (by rw [show (y.map u8v).toArray.size = 32 by rw [List.size_toArray, List.length_map, HLY.out]]; rfl) (idVals_one y) ?_
              intro w9 hQ9 hg9
              have hP9 := blk_gb hP8 hg9 hpq
              have hS9 : (w9.rangeAt ga oa (x.map u8v) ∧ w9.rangeAt gb ob (y.map u8v) ∧ Below wr.heap.size wr w9) := ⟨range_gb hHeld.1 hg9 (by have := HGA.out; omega), range_gb hHeld.2.1 hg9 (by have := HGB.out; omega), hHeld.2.2.grown hg9 hHeld.2.2.size (by intro i e; cases e; exact hqge)⟩
              refine hK.out _ _ hS9 (fun hHeld => ?_)
              clear hK K hg9 hS9
              try simp only [Act.put, List.setIfInBounds_toArray, List.set_cons_zero, List.set_cons_succ]
              refine wpAnyH_done (by kernel_rfl) ?_ _
              have rP := range_blk hP9
              have rQ : w9.rangeAt W22.heap.size 0 (y.map u8v) := range_blk hQ9
              have hbw := hHeld.2.2
              have hb9 := HB.out.trans (hbw.mono HB.out.size)
              have hown9 := own_below HOW.out hbw
              have hI9 := hI.below hb9
              clear hP hQ hP8 hQ8 hP9 hQ9 hbw hra hrb hS0
              go_wp2_with (first
                | (with_reducible refine wpList_load_if (by with_unfolding_all rfl) 24 _ rfl _ 0 rfl (m.map u8v) _ hI9 hu (by with_unfolding_all rfl) hzm ?_)
                | (go_at_call 19; (with_reducible refine (cB _).mono ?_); rintro e10 w10 ⟨rfl, hb10⟩; replace hb9 := hb9.trans (hb10.mono hb9.size); replace hown9 := own_below hown9 hb10; replace rP := rP.below hb10; replace rQ := rQ.below hb10)
                | (with_reducible refine wpList_load_if (by with_unfolding_all rfl) 24 _ rfl _ 0 rfl (X.map u8v) _ rP hu (by with_unfolding_all rfl) hzX ?_)
                | (with_reducible refine wpList_load_if (by with_unfolding_all rfl) 24 _ rfl _ 0 rfl (y.map u8v) _ rQ hu (by with_unfolding_all rfl) hzy ?_)
                | ((with_reducible refine wpList_build2 rfl _ _ rfl y X HLY.out HLX.out rfl rfl ?_); intro cs hcs)
                | (at_builtin; refine wpList_append_own _ rfl _ _ 25 rfl (w.heap.size + 1) 24 j0 (.agg (idVals zeroB)) 32 32 Tryz.underlying25 hj hjz hjs hjb rfl (by decide) _ _ _ rfl (hown9.alloc _) ⟨w10.heap.size, 0, none⟩ 2 2 (y.map u8v ++ X.map u8v) rfl ?l1 hcs ?l5 ?l2 ?l3 ?l4 ?_))
              case l1 => rw [List.length_append, List.length_map, List.length_map, HLY.out, HLX.out]
              case l5 => intro u hu; rcases List.mem_append.1 hu with hu | hu <;> exact u8v_one _ u hu
              case l2 => unfold maxLen; have := HN.out; omega
              case l3 => have := HN.out; omega
              case l4 => (try simp); have := hb9.size; omega
              intro v11 w11 hown11 hg11 _
              have hb11 := (hb9.alloc hb9.size _).grown hg11 (hb9.alloc hb9.size _).size (fun k hk => by rw [hk1]; exact (hown9.lt k hk).1)
              clear hg11
              go_wp2
              go_roundw
              case rel => exact ⟨k + 1, hlt, by go_num, (by rw [HF2.out, idsV_append, show idsV [y, X] = y.map u8v ++ X.map u8v by simp [idsV], show 2 * (k + 1) = 2 * k + 2 by omega]; exact hown11), hb11⟩
              case measure => simp [intOf]; omega
            exact AllReadyH.nil
          refine AllReadyH.cons rfl (fun K hK => ?_) ?_
          · go_simp
            have hA := (Below.refl W21.heap.size W21).alloc (Nat.le_refl _) (.cells #[.int .u8 0, .int .u8 0, .int .u8 0, .int .u8 0, .int .u8 0, .int .u8 0, .int .u8 0, .int .u8 0, .int .u8 0, .int .u8 0, .int .u8 0, .int .u8 0, .int .u8 0, .int .u8 0, .int .u8 0, .int .u8 0, .int .u8 0, .int .u8 0, .int .u8 0, .int .u8 0, .int .u8 0, .int .u8 0, .int .u8 0, .int .u8 0, .int .u8 0, .int .u8 0, .int .u8 0, .int .u8 0, .int .u8 0, .int .u8 0, .int .u8 0, .int .u8 0] 24)
            have hQ := Blk.new W21 24 #[.int .u8 0, .int .u8 0, .int .u8 0, .int .u8 0, .int .u8 0, .int .u8 0, .int .u8 0, .int .u8 0, .int .u8 0, .int .u8 0, .int .u8 0, .int .u8 0, .int .u8 0, .int .u8 0, .int .u8 0, .int .u8 0, .int .u8 0, .int .u8 0, .int .u8 0, .int .u8 0, .int .u8 0, .int .u8 0, .int .u8 0, .int .u8 0, .int .u8 0, .int .u8 0, .int .u8 0, .int .u8 0, .int .u8 0, .int .u8 0, .int .u8 0, .int .u8 0]
            have hqg := hHeld.2.2.size
            have hord := hP.lt
            replace hP := hP.below hA
            have hS : ((W21.alloc (.cells #[.int .u8 0, .int .u8 0, .int .u8 0, .int .u8 0, .int .u8 0, .int .u8 0, .int .u8 0, .int .u8 0, .int .u8 0, .int .u8 0, .int .u8 0, .int .u8 0, .int .u8 0, .int .u8 0, .int .u8 0, .int .u8 0, .int .u8 0, .int .u8 0, .int .u8 0, .int .u8 0, .int .u8 0, .int .u8 0, .int .u8 0, .int .u8 0, .int .u8 0, .int .u8 0, .int .u8 0, .int .u8 0, .int .u8 0, .int .u8 0, .int .u8 0, .int .u8 0] 24)).rangeAt ga oa (x.map u8v) ∧ (W21.alloc (.cells #[.int .u8 0, .int .u8 0, .int .u8 0, .int .u8 0, .int .u8 0, .int .u8 0, .int .u8 0, .int .u8 0, .int .u8 0, .int .u8 0, .int .u8 0, .int .u8 0, .int .u8 0, .int .u8 0, .int .u8 0, .int .u8 0, .int .u8 0, .int .u8 0, .int .u8 0, .int .u8 0, .int .u8 0, .int .u8 0, .int .u8 0, .int .u8 0, .int .u8 0, .int .u8 0, .int .u8 0, .int .u8 0, .int .u8 0, .int .u8 0, .int .u8 0, .int .u8 0] 24)).rangeAt gb ob (y.map u8v) ∧ Below wr.heap.size wr (W21.alloc (.cells #[.int .u8 0, .int .u8 0, .int .u8 0, .int .u8 0, .int .u8 0, .int .u8 0, .int .u8 0, .int .u8 0, .int .u8 0, .int .u8 0, .int .u8 0, .int .u8 0, .int .u8 0, .int .u8 0, .int .u8 0, .int .u8 0, .int .u8 0, .int .u8 0, .int .u8 0, .int .u8 0, .int .u8 0, .int .u8 0, .int .u8 0, .int .u8 0, .int .u8 0, .int .u8 0, .int .u8 0, .int .u8 0, .int .u8 0, .int .u8 0, .int .u8 0, .int .u8 0] 24))) := ⟨hHeld.1.below hA, hHeld.2.1.below hA, hHeld.2.2.trans (hA.mono hHeld.2.2.size)⟩
            generalize W21.alloc (.cells #[.int .u8 0, .int .u8 0, .int .u8 0, .int .u8 0, .int .u8 0, .int .u8 0, .int .u8 0, .int .u8 0, .int .u8 0, .int .u8 0, .int .u8 0, .int .u8 0, .int .u8 0, .int .u8 0, .int .u8 0, .int .u8 0, .int .u8 0, .int .u8 0, .int .u8 0, .int .u8 0, .int .u8 0, .int .u8 0, .int .u8 0, .int .u8 0, .int .u8 0, .int .u8 0, .int .u8 0, .int .u8 0, .int .u8 0, .int .u8 0, .int .u8 0, .int .u8 0] 24) = W24 at *
            refine hK.out _ _ hS (fun hHeld => ?_)
            clear hA hS
            clear hK K
            try simp only [Act.put, List.setIfInBounds_toArray, List.set_cons_zero, List.set_cons_succ]
            refine wpAnyH_ready (rs := [4]) (by kernel_rfl) (by simp) ?_
            refine AllReadyH.cons rfl (fun K hK => ?_) ?_
            · go_simp
              (with_reducible refine (cP _).mono ?_)
              rintro e25 W25 ⟨rfl, hbc⟩
              replace hP := hP.below hbc
              replace hQ := hQ.below hbc
              refine hK.out _ _ ⟨hHeld.1.below hbc, hHeld.2.1.below hbc, hHeld.2.2.trans (hbc.mono hHeld.2.2.size)⟩ (fun hHeld => ?_)
              clear hbc
              clear hK K
              try simp only [Act.put, List.setIfInBounds_toArray, List.set_cons_zero, List.set_cons_succ]
              have hpq : V0.heap.size ≠ W21.heap.size := by have h1 := hP.lt; have h2 := hQ.lt; omega
              have hpge : wr.heap.size ≤ V0.heap.size := hpg
              have hqge : wr.heap.size ≤ W21.heap.size := hqg
              refine wpAnyH_ready (rs := [11]) (by kernel_rfl) (by simp) ?_
              refine AllReadyH.cons rfl (fun K hK => ?_) AllReadyH.nil
              rw [if_pos (by rfl)]
              refine wp_store_blk 24 _ _ rfl _ _ (idVals X) 24 hP rfl rfl (by rw [idVals_size, HLX.out]; exact sizeId) (by rw [idVals_size, HLX.out]; rfl) (idVals_one _) ?_
              intro w8 hP8 hg8
              have hQ8 := blk_gb hQ hg8 (fun e => hpq e.symm)
              have hS8 : (w8.rangeAt ga oa (x.map u8v) ∧ w8.rangeAt gb ob (y.map u8v) ∧ Below wr.heap.size wr w8) := ⟨range_gb hHeld.1 hg8 (by have := HGA.out; omega), range_gb hHeld.2.1 hg8 (by have := HGB.out; omega), hHeld.2.2.grown hg8 hHeld.2.2.size (by intro i e; cases e; exact hpge)⟩
              refine hK.out _ _ hS8 (fun hHeld => ?_)
              clear hK K hg8 hS8
              try simp only [Act.put, List.setIfInBounds_toArray, List.set_cons_zero, List.set_cons_succ]
              refine wpAnyH_ready (rs := [12]) (by kernel_rfl) (by simp) ?_
              refine AllReadyH.cons rfl (fun K hK => ?_) AllReadyH.nil
              rw [if_pos (by rfl)]
              refine wp_store_blk 24 _ _ rfl _ _ (y.map u8v).toArray 24 hQ8 rfl rfl (by rw [show (y.map u8v).toArray.size = 32 by rw [List.size_toArray, List.length_map, HLY.out]]; exact sizeId) (by rw [show (y.map u8v).toArray.size = 32 by rw [List.size_toArray, List.length_map, HLY.out]]; rfl) (idVals_one y) ?_
              intro w9 hQ9 hg9
              have hP9 := blk_gb hP8 hg9 hpq
              have hS9 : (w9.rangeAt ga oa (x.map u8v) ∧ w9.rangeAt gb ob (y.map u8v) ∧ Below wr.heap.size wr w9) := ⟨range_gb hHeld.1 hg9 (by have := HGA.out; omega), range_gb hHeld.2.1 hg9 (by have := HGB.out; omega), hHeld.2.2.grown hg9 hHeld.2.2.size (by intro i e; cases e; exact hqge)⟩
              refine hK.out _ _ hS9 (fun hHeld => ?_)
              clear hK K hg9 hS9
              try simp only [Act.put, List.setIfInBounds_toArray, List.set_cons_zero, List.set_cons_succ]
              refine wpAnyH_done (by kernel_rfl) ?_ _
              have rP := range_blk hP9
              have rQ : w9.rangeAt W21.heap.size 0 (y.map u8v) := range_blk hQ9
              have hbw := hHeld.2.2
              have hb9 := HB.out.trans (hbw.mono HB.out.size)
              have hown9 := own_below HOW.out hbw
              have hI9 := hI.below hb9
              clear hP hQ hP8 hQ8 hP9 hQ9 hbw hra hrb hS0
              go_wp2_with (first
                | (with_reducible refine wpList_load_if (by with_unfolding_all rfl) 24 _ rfl _ 0 rfl (m.map u8v) _ hI9 hu (by with_unfolding_all rfl) hzm ?_)
                | (go_at_call 19; (with_reducible refine (cB _).mono ?_); rintro e10 w10 ⟨rfl, hb10⟩; replace hb9 := hb9.trans (hb10.mono hb9.size); replace hown9 := own_below hown9 hb10; replace rP := rP.below hb10; replace rQ := rQ.below hb10)
                | (with_reducible refine wpList_load_if (by with_unfolding_all rfl) 24 _ rfl _ 0 rfl (X.map u8v) _ rP hu (by with_unfolding_all rfl) hzX ?_)
                | (with_reducible refine wpList_load_if (by with_unfolding_all rfl) 24 _ rfl _ 0 rfl (y.map u8v) _ rQ hu (by with_unfolding_all rfl) hzy ?_)
                | ((with_reducible refine wpList_build2 rfl _ _ rfl y X HLY.out HLX.out rfl rfl ?_); intro cs hcs)
                | (at_builtin; refine wpList_append_own _ rfl _ _ 25 rfl (w.heap.size + 1) 24 j0 (.agg (idVals zeroB)) 32 32 Tryz.underlying25 hj hjz hjs hjb rfl (by decide) _ _ _ rfl (hown9.alloc _) ⟨w10.heap.size, 0, none⟩ 2 2 (y.map u8v ++ X.map u8v) rfl ?l1 hcs ?l5 ?l2 ?l3 ?l4 ?_))
              case l1 => rw [List.length_append, List.length_map, List.length_map, HLY.out, HLX.out]
              case l5 => intro u hu; rcases List.mem_append.1 hu with hu | hu <;> exact u8v_one _ u hu
              case l2 => unfold maxLen; have := HN.out; omega
              case l3 => have := HN.out; omega
              case l4 => (try simp); have := hb9.size; omega
              intro v11 w11 hown11 hg11 _
              have hb11 := (hb9.alloc hb9.size _).grown hg11 (hb9.alloc hb9.size _).size (fun k hk => by rw [hk1]; exact (hown9.lt k hk).1)
              clear hg11
              go_wp2
              go_roundw
              case rel => exact ⟨k + 1, hlt, by go_num, (by rw [HF2.out, idsV_append, show idsV [y, X] = y.map u8v ++ X.map u8v by simp [idsV], show 2 * (k + 1) = 2 * k + 2 by omega]; exact hown11), hb11⟩
              case measure => simp [intOf]; omega
            exact AllReadyH.nil
          exact AllReadyH.nil
        refine AllReadyH.cons rfl (fun K hK => ?_) ?_
        · go_simp
          have hA := (Below.refl V0.heap.size V0).alloc (Nat.le_refl _) (.cells #[.int .u8 0, .int .u8 0, .int .u8 0, .int .u8 0, .int .u8 0, .int .u8 0, .int .u8 0, .int .u8 0, .int .u8 0, .int .u8 0, .int .u8 0, .int .u8 0, .int .u8 0, .int .u8 0, .int .u8 0, .int .u8 0, .int .u8 0, .int .u8 0, .int .u8 0, .int .u8 0, .int .u8 0, .int .u8 0, .int .u8 0, .int .u8 0, .int .u8 0, .int .u8 0, .int .u8 0, .int .u8 0, .int .u8 0, .int .u8 0, .int .u8 0, .int .u8 0] 24)
          have hQ := Blk.new V0 24 #[.int .u8 0, .int .u8 0, .int .u8 0, .int .u8 0, .int .u8 0, .int .u8 0, .int .u8 0, .int .u8 0, .int .u8 0, .int .u8 0, .int .u8 0, .int .u8 0, .int .u8 0, .int .u8 0, .int .u8 0, .int .u8 0, .int .u8 0, .int .u8 0, .int .u8 0, .int .u8 0, .int .u8 0, .int .u8 0, .int .u8 0, .int .u8 0, .int .u8 0, .int .u8 0, .int .u8 0, .int .u8 0, .int .u8 0, .int .u8 0, .int .u8 0, .int .u8 0]
          have hqg := hHeld.2.2.size
          have hS : ((V0.alloc (.cells #[.int .u8 0, .int .u8 0, .int .u8 0, .int .u8 0, .int .u8 0, .int .u8 0, .int .u8 0, .int .u8 0, .int .u8 0, .int .u8 0, .int .u8 0, .int .u8 0, .int .u8 0, .int .u8 0, .int .u8 0, .int .u8 0, .int .u8 0, .int .u8 0, .int .u8 0, .int .u8 0, .int .u8 0, .int .u8 0, .int .u8 0, .int .u8 0, .int .u8 0, .int .u8 0, .int .u8 0, .int .u8 0, .int .u8 0, .int .u8 0, .int .u8 0, .int .u8 0] 24)).rangeAt ga oa (x.map u8v) ∧ (V0.alloc (.cells #[.int .u8 0, .int .u8 0, .int .u8 0, .int .u8 0, .int .u8 0, .int .u8 0, .int .u8 0, .int .u8 0, .int .u8 0, .int .u8 0, .int .u8 0, .int .u8 0, .int .u8 0, .int .u8 0, .int .u8 0, .int .u8 0, .int .u8 0, .int .u8 0, .int .u8 0, .int .u8 0, .int .u8 0, .int .u8 0, .int .u8 0, .int .u8 0, .int .u8 0, .int .u8 0, .int .u8 0, .int .u8 0, .int .u8 0, .int .u8 0, .int .u8 0, .int .u8 0] 24)).rangeAt gb ob (y.map u8v) ∧ Below wr.heap.size wr (V0.alloc (.cells #[.int .u8 0, .int .u8 0, .int .u8 0, .int .u8 0, .int .u8 0, .int .u8 0, .int .u8 0, .int .u8 0, .int .u8 0, .int .u8 0, .int .u8 0, .int .u8 0, .int .u8 0, .int .u8 0, .int .u8 0, .int .u8 0, .int .u8 0, .int .u8 0, .int .u8 0, .int .u8 0, .int .u8 0, .int .u8 0, .int .u8 0, .int .u8 0, .int .u8 0, .int .u8 0, .int .u8 0, .int .u8 0, .int .u8 0, .int .u8 0, .int .u8 0, .int .u8 0] 24))) := ⟨hHeld.1.below hA, hHeld.2.1.below hA, hHeld.2.2.trans (hA.mono hHeld.2.2.size)⟩
          generalize V0.alloc (.cells #[.int .u8 0, .int .u8 0, .int .u8 0, .int .u8 0, .int .u8 0, .int .u8 0, .int .u8 0, .int .u8 0, .int .u8 0, .int .u8 0, .int .u8 0, .int .u8 0, .int .u8 0, .int .u8 0, .int .u8 0, .int .u8 0, .int .u8 0, .int .u8 0, .int .u8 0, .int .u8 0, .int .u8 0, .int .u8 0, .int .u8 0, .int .u8 0, .int .u8 0, .int .u8 0, .int .u8 0, .int .u8 0, .int .u8 0, .int .u8 0, .int .u8 0, .int .u8 0] 24) = W26 at *
          refine hK.out _ _ hS (fun hHeld => ?_)
          clear hA hS
          clear hK K
          try simp only [Act.put, List.setIfInBounds_toArray, List.set_cons_zero, List.set_cons_succ]
          refine wpAnyH_ready (rs := [4, 9]) (by kernel_rfl) (by simp) ?_
          refine AllReadyH.cons rfl (fun K hK => ?_) ?_
          · go_simp
            (with_reducible refine (cP _).mono ?_)
            rintro e27 W27 ⟨rfl, hbc⟩
            replace hQ := hQ.below hbc
            refine hK.out _ _ ⟨hHeld.1.below hbc, hHeld.2.1.below hbc, hHeld.2.2.trans (hbc.mono hHeld.2.2.size)⟩ (fun hHeld => ?_)
            clear hbc
            clear hK K
            try simp only [Act.put, List.setIfInBounds_toArray, List.set_cons_zero, List.set_cons_succ]
            refine wpAnyH_ready (rs := [9]) (by kernel_rfl) (by simp) ?_
            refine AllReadyH.cons rfl (fun K hK => ?_) ?_
            · go_simp
              have hA := (Below.refl W27.heap.size W27).alloc (Nat.le_refl _) (.cells #[.int .u8 0, .int .u8 0, .int .u8 0, .int .u8 0, .int .u8 0, .int .u8 0, .int .u8 0, .int .u8 0, .int .u8 0, .int .u8 0, .int .u8 0, .int .u8 0, .int .u8 0, .int .u8 0, .int .u8 0, .int .u8 0, .int .u8 0, .int .u8 0, .int .u8 0, .int .u8 0, .int .u8 0, .int .u8 0, .int .u8 0, .int .u8 0, .int .u8 0, .int .u8 0, .int .u8 0, .int .u8 0, .int .u8 0, .int .u8 0, .int .u8 0, .int .u8 0] 24)
              have hP := Blk.new W27 24 #[.int .u8 0, .int .u8 0, .int .u8 0, .int .u8 0, .int .u8 0, .int .u8 0, .int .u8 0, .int .u8 0, .int .u8 0, .int .u8 0, .int .u8 0, .int .u8 0, .int .u8 0, .int .u8 0, .int .u8 0, .int .u8 0, .int .u8 0, .int .u8 0, .int .u8 0, .int .u8 0, .int .u8 0, .int .u8 0, .int .u8 0, .int .u8 0, .int .u8 0, .int .u8 0, .int .u8 0, .int .u8 0, .int .u8 0, .int .u8 0, .int .u8 0, .int .u8 0]
              have hpg := hHeld.2.2.size
              have hord := hQ.lt
              replace hQ := hQ.below hA
              have hS : ((W27.alloc (.cells #[.int .u8 0, .int .u8 0, .int .u8 0, .int .u8 0, .int .u8 0, .int .u8 0, .int .u8 0, .int .u8 0, .int .u8 0, .int .u8 0, .int .u8 0, .int .u8 0, .int .u8 0, .int .u8 0, .int .u8 0, .int .u8 0, .int .u8 0, .int .u8 0, .int .u8 0, .int .u8 0, .int .u8 0, .int .u8 0, .int .u8 0, .int .u8 0, .int .u8 0, .int .u8 0, .int .u8 0, .int .u8 0, .int .u8 0, .int .u8 0, .int .u8 0, .int .u8 0] 24)).rangeAt ga oa (x.map u8v) ∧ (W27.alloc (.cells #[.int .u8 0, .int .u8 0, .int .u8 0, .int .u8 0, .int .u8 0, .int .u8 0, .int .u8 0, .int .u8 0, .int .u8 0, .int .u8 0, .int .u8 0, .int .u8 0, .int .u8 0, .int .u8 0, .int .u8 0, .int .u8 0, .int .u8 0, .int .u8 0, .int .u8 0, .int .u8 0, .int .u8 0, .int .u8 0, .int .u8 0, .int .u8 0, .int .u8 0, .int .u8 0, .int .u8 0, .int .u8 0, .int .u8 0, .int .u8 0, .int .u8 0, .int .u8 0] 24)).rangeAt gb ob (y.map u8v) ∧ Below wr.heap.size wr (W27.alloc (.cells #[.int .u8 0, .int .u8 0, .int .u8 0, .int .u8 0, .int .u8 0, .int .u8 0, .int .u8 0, .int .u8 0, .int .u8 0, .int .u8 0, .int .u8 0, .int .u8 0, .int .u8 0, .int .u8 0, .int .u8 0, .int .u8 0, .int .u8 0, .int .u8 0, .int .u8 0, .int .u8 0, .int .u8 0, .int .u8 0, .int .u8 0, .int .u8 0, .int .u8 0, .int .u8 0, .int .u8 0, .int .u8 0, .int .u8 0, .int .u8 0, .int .u8 0, .int .u8 0] 24))) := ⟨hHeld.1.below hA, hHeld.2.1.below hA, hHeld.2.2.trans (hA.mono hHeld.2.2.size)⟩
              generalize W27.alloc (.cells #[.int .u8 0, .int .u8 0, .int .u8 0, .int .u8 0, .int .u8 0, .int .u8 0, .int .u8 0, .int .u8 0, .int .u8 0, .int .u8 0, .int .u8 0, .int .u8 0, .int .u8 0, .int .u8 0, .int .u8 0, .int .u8 0, .int .u8 0, .int .u8 0, .int .u8 0, .int .u8 0, .int .u8 0, .int .u8 0, .int .u8 0, .int .u8 0, .int .u8 0, .int .u8 0, .int .u8 0, .int .u8 0, .int .u8 0, .int .u8 0, .int .u8 0, .int .u8 0] 24) = W28 at *
              refine hK.out _ _ hS (fun hHeld => ?_)
              clear hA hS
              clear hK K
              try simp only [Act.put, List.setIfInBounds_toArray, List.set_cons_zero, List.set_cons_succ]
              have hpq : W27.heap.size ≠ V0.heap.size := by have h1 := hP.lt; have h2 := hQ.lt; omega
              have hpge : wr.heap.size ≤ W27.heap.size := hpg
              have hqge : wr.heap.size ≤ V0.heap.size := hqg
              refine wpAnyH_ready (rs := [11]) (by kernel_rfl) (by simp) ?_
              refine AllReadyH.cons rfl (fun K hK => ?_) AllReadyH.nil
              rw [if_pos (by rfl)]
              refine wp_store_blk 24 _ _ rfl _ _ (idVals X) 24 hP rfl rfl (by rw [idVals_size, HLX.out]; exact sizeId) (by rw [idVals_size, HLX.out]; rfl) (idVals_one _) ?_
              intro w8 hP8 hg8
              have hQ8 := blk_gb hQ hg8 (fun e => hpq e.symm)
              have hS8 : (w8.rangeAt ga oa (x.map u8v) ∧ w8.rangeAt gb ob (y.map u8v) ∧ Below wr.heap.size wr w8) := ⟨range_gb hHeld.1 hg8 (by have := HGA.out; omega), range_gb hHeld.2.1 hg8 (by have := HGB.out; omega), hHeld.2.2.grown hg8 hHeld.2.2.size (by intro i e; cases e; exact hpge)⟩
              refine hK.out _ _ hS8 (fun hHeld => ?_)
              clear hK K hg8 hS8
              try simp only [Act.put, List.setIfInBounds_toArray, List.set_cons_zero, List.set_cons_succ]
              refine wpAnyH_ready (rs := [12]) (by kernel_rfl) (by simp) ?_
              refine AllReadyH.cons rfl (fun K hK => ?_) AllReadyH.nil
              rw [if_pos (by rfl)]
              refine wp_store_blk 24 _ _ rfl _ _ (y.map u8v).toArray 24 hQ8 rfl rfl (by rw [show (y.map u8v).toArray.size = 32 by rw [List.size_toArray, List.length_map, HLY.out]]; exact sizeId) (by rw [show (y.map u8v).toArray.size = 32 by rw [List.size_toArray, List.length_map, HLY.out]]; rfl) (idVals_one y) ?_
              intro w9 hQ9 hg9
              have hP9 := blk_gb hP8 hg9 hpq
              have hS9 : (w9.rangeAt ga oa (x.map u8v) ∧ w9.rangeAt gb ob (y.map u8v) ∧ Below wr.heap.size wr w9) := ⟨range_gb hHeld.1 hg9 (by have := HGA.out; omega), range_gb hHeld.2.1 hg9 (by have := HGB.out; omega), hHeld.2.2.grown hg9 hHeld.2.2.size (by intro i e; cases e; exact hqge)⟩
              refine hK.out _ _ hS9 (fun hHeld => ?_)
              clear hK K hg9 hS9
              try simp only [Act.put, List.setIfInBounds_toArray, List.set_cons_zero, List.set_cons_succ]
              refine wpAnyH_done (by kernel_rfl) ?_ _
              have rP := range_blk hP9
              have rQ : w9.rangeAt V0.heap.size 0 (y.map u8v) := range_blk hQ9
              have hbw := hHeld.2.2
              have hb9 := HB.out.trans (hbw.mono HB.out.size)
              have hown9 := own_below HOW.out hbw
              have hI9 := hI.below hb9
              clear hP hQ hP8 hQ8 hP9 hQ9 hbw hra hrb hS0
              go_wp2_with (first
                | (with_reducible refine wpList_load_if (by with_unfolding_all rfl) 24 _ rfl _ 0 rfl (m.map u8v) _ hI9 hu (by with_unfolding_all rfl) hzm ?_)
                | (go_at_call 19; (with_reducible refine (cB _).mono ?_); rintro e10 w10 ⟨rfl, hb10⟩; replace hb9 := hb9.trans (hb10.mono hb9.size); replace hown9 := own_below hown9 hb10; replace rP := rP.below hb10; replace rQ := rQ.below hb10)
                | (with_reducible refine wpList_load_if (by with_unfolding_all rfl) 24 _ rfl _ 0 rfl (X.map u8v) _ rP hu (by with_unfolding_all rfl) hzX ?_)
                | (with_reducible refine wpList_load_if (by with_unfolding_all rfl) 24 _ rfl _ 0 rfl (y.map u8v) _ rQ hu (by with_unfolding_all rfl) hzy ?_)
                | ((with_reducible refine wpList_build2 rfl _ _ rfl y X HLY.out HLX.out rfl rfl ?_); intro cs hcs)
                | (at_builtin; refine wpList_append_own _ rfl _ _ 25 rfl (w.heap.size + 1) 24 j0 (.agg (idVals zeroB)) 32 32 Tryz.underlying25 hj hjz hjs hjb rfl (by decide) _ _ _ rfl (hown9.alloc _) ⟨w10.heap.size, 0, none⟩ 2 2 (y.map u8v ++ X.map u8v) rfl ?l1 hcs ?l5 ?l2 ?l3 ?l4 ?_))
              case l1 => rw [List.length_append, List.length_map, List.length_map, HLY.out, HLX.out]
              case l5 => intro u hu; rcases List.mem_append.1 hu with hu | hu <;> exact u8v_one _ u hu
              case l2 => unfold maxLen; have := HN.out; omega
              case l3 => have := HN.out; omega
              case l4 => (try simp); have := hb9.size; omega
              intro v11 w11 hown11 hg11 _
              have hb11 := (hb9.alloc hb9.size _).grown hg11 (hb9.alloc hb9.size _).size (fun k hk => by rw [hk1]; exact (hown9.lt k hk).1)
              clear hg11
              go_wp2
              go_roundw
              case rel => exact ⟨k + 1, hlt, by go_num, (by rw [HF2.out, idsV_append, show idsV [y, X] = y.map u8v ++ X.map u8v by simp [idsV], show 2 * (k + 1) = 2 * k + 2 by omega]; exact hown11), hb11⟩
              case measure => simp [intOf]; omega
            exact AllReadyH.nil
          refine AllReadyH.cons rfl (fun K hK => ?_) ?_
          · go_simp
            have hA := (Below.refl W26.heap.size W26).alloc (Nat.le_refl _) (.cells #[.int .u8 0, .int .u8 0, .int .u8 0, .int .u8 0, .int .u8 0, .int .u8 0, .int .u8 0, .int .u8 0, .int .u8 0, .int .u8 0, .int .u8 0, .int .u8 0, .int .u8 0, .int .u8 0, .int .u8 0, .int .u8 0, .int .u8 0, .int .u8 0, .int .u8 0, .int .u8 0, .int .u8 0, .int .u8 0, .int .u8 0, .int .u8 0, .int .u8 0, .int .u8 0, .int .u8 0, .int .u8 0, .int .u8 0, .int .u8 0, .int .u8 0, .int .u8 0] 24)
            have hP := Blk.new W26 24 #[.int .u8 0, .int .u8 0, .int .u8 0, .int .u8 0, .int .u8 0, .int .u8 0, .int .u8 0, .int .u8 0, .int .u8 0, .int .u8 0, .int .u8 0, .int .u8 0, .int .u8 0, .int .u8 0, .int .u8 0, .int .u8 0, .int .u8 0, .int .u8 0, .int .u8 0, .int .u8 0, .int .u8 0, .int .u8 0, .int .u8 0, .int .u8 0, .int .u8 0, .int .u8 0, .int .u8 0, .int .u8 0, .int .u8 0, .int .u8 0, .int .u8 0, .int .u8 0]
            have hpg := hHeld.2.2.size
            have hord := hQ.lt
            replace hQ := hQ.below hA
            have hS : ((W26.alloc (.cells #[.int .u8 0, .int .u8 0, .int .u8 0, .int .u8 0, .int .u8 0, .int .u8 0, .int .u8 0, .int .u8 0, .int .u8 0, .int .u8 0, .int .u8 0, .int .u8 0, .int .u8 0, .int .u8 0, .int .u8 0, .int .u8 0, .int .u8 0, .int .u8 0, .int .u8 0, .int .u8 0, .int .u8 0, .int .u8 0, .int .u8 0, .int .u8 0, .int .u8 0, .int .u8 0, .int .u8 0, .int .u8 0, .int .u8 0, .int .u8 0, .int .u8 0, .int .u8 0] 24)).rangeAt ga oa (x.map u8v) ∧ (W26.alloc (.cells #[.int .u8 0, .int .u8 0, .int .u8 0, .int .u8 0, .int .u8 0, .int .u8 0, .int .u8 0, .int .u8 0, .int .u8 0, .int .u8 0, .int .u8 0, .int .u8 0, .int .u8 0, .int .u8 0, .int .u8 0, .int .u8 0, .int .u8 0, .int .u8 0, .int .u8 0, .int .u8 0, .int .u8 0, .int .u8 0, .int .u8 0, .int .u8 0, .int .u8 0, .int .u8 0, .int .u8 0, .int .u8 0, .int .u8 0, .int .u8 0, .int .u8 0, .int .u8 0] 24)).rangeAt gb ob (y.map u8v) ∧ Below wr.heap.size wr (W26.alloc (.cells #[.int .u8 0, .int .u8 0, .int .u8 0, .int .u8 0, .int .u8 0, .int .u8 0, .int .u8 0, .int .u8 0, .int .u8 0, .int .u8 0, .int .u8 0, .int .u8 0, .int .u8 0, .int .u8 0, .int .u8 0, .int .u8 0, .int .u8 0, .int .u8 0, .int .u8 0, .int .u8 0, .int .u8 0, .int .u8 0, .int .u8 0, .int .u8 0, .int .u8 0, .int .u8 0, .int .u8 0, .int .u8 0, .int .u8 0, .int .u8 0, .int .u8 0, .int .u8 0] 24))) := ⟨hHeld.1.below hA, hHeld.2.1.below hA, hHeld.2.2.trans (hA.mono hHeld.2.2.size)⟩
            generalize W26.alloc (.cells #[.int .u8 0, .int .u8 0, .int .u8 0, .int .u8 0, .int .u8 0, .int .u8 0, .int .u8 0, .int .u8 0, .int .u8 0, .int .u8 0, .int .u8 0, .int .u8 0, .int .u8 0, .int .u8 0, .int .u8 0, .int .u8 0, .int .u8 0, .int .u8 0, .int .u8 0, .int .u8 0, .int .u8 0, .int .u8 0, .int .u8 0, .int .u8 0, .int .u8 0, .int .u8 0, .int .u8 0, .int .u8 0, .int .u8 0, .int .u8 0, .int .u8 0, .int .u8 0] 24) = W29 at *
            refine hK.out _ _ hS (fun hHeld => ?_)
            clear hA hS
            clear hK K
            try simp only [Act.put, List.setIfInBounds_toArray, List.set_cons_zero, List.set_cons_succ]
            refine wpAnyH_ready (rs := [4]) (by kernel_rfl) (by simp) ?_
            refine AllReadyH.cons rfl (fun K hK => ?_) ?_
            · go_simp
              (with_reducible refine (cP _).mono ?_)
              rintro e30 W30 ⟨rfl, hbc⟩
              replace hP := hP.below hbc
              replace hQ := hQ.below hbc
              refine hK.out _ _ ⟨hHeld.1.below hbc, hHeld.2.1.below hbc, hHeld.2.2.trans (hbc.mono hHeld.2.2.size)⟩ (fun hHeld => ?_)
              clear hbc
              clear hK K
              try simp only [Act.put, List.setIfInBounds_toArray, List.set_cons_zero, List.set_cons_succ]
              have hpq : W26.heap.size ≠ V0.heap.size := by have h1 := hP.lt; have h2 := hQ.lt; omega
              have hpge : wr.heap.size ≤ W26.heap.size := hpg
              have hqge : wr.heap.size ≤ V0.heap.size := hqg
              refine wpAnyH_ready (rs := [11]) (by kernel_rfl) (by simp) ?_
              refine AllReadyH.cons rfl (fun K hK => ?_) AllReadyH.nil
              rw [if_pos (by rfl)]
              refine wp_store_blk 24 _ _ rfl _ _ (idVals X) 24 hP rfl rfl (by rw [idVals_size, HLX.out]; exact sizeId) (by rw [idVals_size, HLX.out]; rfl) (idVals_one _) ?_
              intro w8 hP8 hg8
              have hQ8 := blk_gb hQ hg8 (fun e => hpq e.symm)
              have hS8 : (w8.rangeAt ga oa (x.map u8v) ∧ w8.rangeAt gb ob (y.map u8v) ∧ Below wr.heap.size wr w8) := ⟨range_gb hHeld.1 hg8 (by have := HGA.out; omega), range_gb hHeld.2.1 hg8 (by have := HGB.out; omega), hHeld.2.2.grown hg8 hHeld.2.2.size (by intro i e; cases e; exact hpge)⟩
              refine hK.out _ _ hS8 (fun hHeld => ?_)
              clear hK K hg8 hS8
              try simp only [Act.put, List.setIfInBounds_toArray, List.set_cons_zero, List.set_cons_succ]
              refine wpAnyH_ready (rs := [12]) (by kernel_rfl) (by simp) ?_
              refine AllReadyH.cons rfl (fun K hK => ?_) AllReadyH.nil
              rw [if_pos (by rfl)]
              refine wp_store_blk 24 _ _ rfl _ _ (y.map u8v).toArray 24 hQ8 rfl rfl (by rw [show (y.map u8v).toArray.size = 32 by rw [List.size_toArray, List.length_map, HLY.out]]; exact sizeId) (by rw [show (y.map u8v).toArray.size = 32 by rw [List.size_toArray, List.length_map, HLY.out]]; rfl) (idVals_one y) ?_
              intro w9 hQ9 hg9
              have hP9 := blk_gb hP8 hg9 hpq
              have hS9 : (w9.rangeAt ga oa (x.map u8v) ∧ w9.rangeAt gb ob (y.map u8v) ∧ Below wr.heap.size wr w9) := ⟨range_gb hHeld.1 hg9 (by have := HGA.out; omega), range_gb hHeld.2.1 hg9 (by have := HGB.out; omega), hHeld.2.2.grown hg9 hHeld.2.2.size (by intro i e; cases e; exact hqge)⟩
              refine hK.out _ _ hS9 (fun hHeld => ?_)
              clear hK K hg9 hS9
              try simp only [Act.put, List.setIfInBounds_toArray, List.set_cons_zero, List.set_cons_succ]
              refine wpAnyH_done (by kernel_rfl) ?_ _
              have rP := range_blk hP9
              have rQ : w9.rangeAt V0.heap.size 0 (y.map u8v) := range_blk hQ9
              have hbw := hHeld.2.2
              have hb9 := HB.out.trans (hbw.mono HB.out.size)
              have hown9 := own_below HOW.out hbw
              have hI9 := hI.below hb9
              clear hP hQ hP8 hQ8 hP9 hQ9 hbw hra hrb hS0
              go_wp2_with (first
                | (with_reducible refine wpList_load_if (by with_unfolding_all rfl) 24 _ rfl _ 0 rfl (m.map u8v) _ hI9 hu (by with_unfolding_all rfl) hzm ?_)
                | (go_at_call 19; (with_reducible refine (cB _).mono ?_); rintro e10 w10 ⟨rfl, hb10⟩; replace hb9 := hb9.trans (hb10.mono hb9.size); replace hown9 := own_below hown9 hb10; replace rP := rP.below hb10; replace rQ := rQ.below hb10)
                | (with_reducible refine wpList_load_if (by with_unfolding_all rfl) 24 _ rfl _ 0 rfl (X.map u8v) _ rP hu (by with_unfolding_all rfl) hzX ?_)
                | (with_reducible refine wpList_load_if (by with_unfolding_all rfl) 24 _ rfl _ 0 rfl (y.map u8v) _ rQ hu (by with_unfolding_all rfl) hzy ?_)
                | ((with_reducible refine wpList_build2 rfl _ _ rfl y X HLY.out HLX.out rfl rfl ?_); intro cs hcs)
                | (at_builtin; refine wpList_append_own _ rfl _ _ 25 rfl (w.heap.size + 1) 24 j0 (.agg (idVals zeroB)) 32 32 Tryz.underlying25 hj hjz hjs hjb rfl (by decide) _ _ _ rfl (hown9.alloc _) ⟨w10.heap.size, 0, none⟩ 2 2 (y.map u8v ++ X.map u8v) rfl ?l1 hcs ?l5 ?l2 ?l3 ?l4 ?_))
              case l1 => rw [List.length_append, List.length_map, List.length_map, HLY.out, HLX.out]
              case l5 => intro u hu; rcases List.mem_append.1 hu with hu | hu <;> exact u8v_one _ u hu
              case l2 => unfold maxLen; have := HN.out; omega
              case l3 => have := HN.out; omega
              case l4 => (try simp); have := hb9.size; omega
              intro v11 w11 hown11 hg11 _
              have hb11 := (hb9.alloc hb9.size _).grown hg11 (hb9.alloc hb9.size _).size (fun k hk => by rw [hk1]; exact (hown9.lt k hk).1)
              clear hg11
              go_wp2
              go_roundw
              case rel => exact ⟨k + 1, hlt, by go_num, (by rw [HF2.out, idsV_append, show idsV [y, X] = y.map u8v ++ X.map u8v by simp [idsV], show 2 * (k + 1) = 2 * k + 2 by omega]; exact hown11), hb11⟩
              case measure => simp [intOf]; omega
            exact AllReadyH.nil
          exact AllReadyH.nil
        exact AllReadyH.nil
    · obtain rfl : k = n := by omega
      have b1 : ¬ (k : Int) < k := by omega
      go_wp2
      go_ret
      exact ⟨_, rfl, own_base hown (by omega), hB0.trans (hb.mono hB0.size)⟩
end Go.Proofs.YticpdepbgcagaaaGreat

namespace Go.Proofs.YticpdepbgcagaaaGreat
open Go.RowKit Go.Qc
attribute [local go_sem] txt_size

set_option maxRecDepth 100000 in
set_option maxHeartbeats 4000000 in
theorem rrecover_any (m : List UInt8) (hm : m.length = 32) (A B : Option Addr) (n c d : Nat) (l r : List (List UInt8)) (hn : n ≤ 256) (w : World) (hA : RowR w A n l) (hB : RowR w B n r) :
    Calls Tryz.prog 38 #[.agg (idVals m), .slice A n c, .slice B n d] w fun e w' => e = .returned (.agg (idVals (joinB (sideL (pubF m l r) n)))) ∧ Below w.heap.size w w' := by
  obtain ⟨S, hS⟩ : ∃ S, S = joinB (sideL (pubF m l r) n) := ⟨_, rfl⟩
  have hSl : S.length = 32 := by rw [hS]; exact joinB_length _
  rw [← hS]
  have hu := Tryz.underlying24
  have hzm : (Tryz.prog.info? 24).map (·.size) = some (m.map u8v).length := by rw [List.length_map, hm]; exact sizeId
  have hz1 : (w.alloc (.cells (idVals m) 24)).heap.size = w.heap.size + 1 := by simp
  have hI : ∀ zc, ((w.alloc (.cells (idVals m) 24)).alloc (.cells zc 24)).rangeAt w.heap.size 0 (m.map u8v) := fun zc => range_blk ((Blk.new w 24 (idVals m)).alloc _)
  have hR0 : ∀ zc, Blk ((w.alloc (.cells (idVals m) 24)).alloc (.cells zc 24)) (w.heap.size + 1) 24 zc := fun zc => by
    have := Blk.new (w.alloc (.cells (idVals m) 24)) 24 zc
    rwa [hz1] at this
  have hB0 : ∀ zc, Below w.heap.size w ((w.alloc (.cells (idVals m) 24)).alloc (.cells zc 24)) := fun zc => ((Below.refl _ _).alloc (Nat.le_refl _) _).alloc (by simp) _
  have cP : ∀ W : World, Below w.heap.size w W → Calls Tryz.prog 74 #[.agg (List.map u8v m).toArray, .slice A n c, .slice B n d] W fun e w' => ∃ v, e = .returned v ∧ w'.ownsRow W.heap.size 24 32 v (2 * n) (idsV (sideL (pubF m l r) n)) ∧ Below W.heap.size W w' := fun W h => rpublics_any m hm A B n c d l r hn W (hA.below h) (hB.below h)
  have h32 := sideL_32 (pubF m l r) (pubF_length m l r hB.2.2.1) n
  have hfl := flat_len (pubF m l r) (pubF_length m l r hB.2.2.1) n
  have cJ : ∀ A c W, RowR W A (2 * n) (sideL (pubF m l r) n) → Calls Tryz.prog 73 #[.slice A (2 * n) c] W fun e w' => e = .returned (.string (txt (sideL (pubF m l r) n).flatten)) ∧ Below W.heap.size W w' := fun A c W h => rall_any A (2 * n) c _ W h
  have hof : ∀ W A c, Rd W A ([(sideL (pubF m l r) n).flatten].map strV) → Calls Tryz.prog 50 #[.string ⟨#[108, 101, 97, 102]⟩, .slice A 1 c] W fun e w' => e = .returned (.agg (idVals S)) ∧ Below W.heap.size W w' := fun W A c h => by
    rw [hS]
    exact rof_any leafN (by decide) A 1 c _ rfl (textB_leaf _ (by rw [hfl]; omega)) W h
  clear hfl
  generalize sideL (pubF m l r) n = L at *
  generalize L.flatten = F at *
  have HSL := hid hSl
  have H32 := hid h32
  have HN := hid hn
  have HOF := hid hof
  clear hS hSl h32 hz1 hn hA hB hm hof
  go_enter Tryz.func38, Tryz.ntmps38
  go_wp2_with (first
    | (with_reducible refine wpList_load_if (by with_unfolding_all rfl) 24 _ rfl _ 0 rfl (m.map u8v) _ (hI _) hu (by with_unfolding_all rfl) hzm ?_)
    | (go_at_call 74; (with_reducible refine (cP _ (hB0 _)).mono ?_); rintro e2 w2 ⟨v, rfl, hown, hB2⟩; obtain ⟨A2, cc, rfl, hrow⟩ := RowAt.own hown H32.out (by have := HN.out; omega); have hR := (hR0 _).below hB2; have hB := (hB0 _).trans (hB2.mono (hB0 _).size))
    | (go_at_call 73; (with_reducible refine (cJ _ _ _ hrow.r).mono ?_); rintro e4 w4 ⟨rfl, hB4⟩; replace hR := hR.below hB4; replace hB := hB.trans (hB4.mono hB.size); have hrd := rd_strV w4 F; replace hR := hR.alloc (.cells #[.string (txt F)] 9); replace hB := hB.alloc hB.size (.cells #[.string (txt F)] 9))
    | (go_at_call 50; (with_reducible refine (HOF.out _ _ _ hrd).mono ?_); rintro e7 w7 ⟨rfl, hB7⟩; replace hR := hR.below hB7; replace hB := hB.trans (hB7.mono hB.size))
    | (with_reducible refine wpList_store_blk rfl 24 _ _ rfl (w.heap.size + 1) _ (idVals S) 24 hR rfl rfl ?c2 ?c3 (idVals_one _) ?_))
  case c2 => rw [idVals_size, HSL.out]; exact sizeId
  case c3 => rw [idVals_size, HSL.out]; rfl
  intro w9 hb9 hg9
  go_wp2
  refine bodyPost_ret (results_cell_row rfl _ _ _ _ _ _ _ rfl hb9 Tryz.underlying24 rfl (by rw [idVals_size, HSL.out]; exact sizeId)) rfl ⟨rfl, ?_⟩
  exact hB.grown hg9 hB.size (by intro i e; cases e; omega)
end Go.Proofs.YticpdepbgcagaaaGreat

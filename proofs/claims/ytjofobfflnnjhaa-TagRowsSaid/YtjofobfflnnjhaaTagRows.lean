
/- Proved: for every name, two ids and row of ids, quitclaimlaw03.TagRows returns true and leaves its arguments as they were. No conditions. -/
import Derived.Test.YtjofobfflnnjhaaTag6
namespace Go.Proofs.Ytjofobfflnnjhaa
open Go.RowKit Go.Qc
attribute [local go_sem] txt_size

structure RowsS (w : World) (a b : List UInt8) (A : Option Addr) (n : Nat) (l : List (List UInt8)) (w' : World) : Prop where
  hra : w'.rangeAt w.heap.size 0 (a.map u8v)
  hrb : w'.rangeAt (w.heap.size + 1) 0 (b.map u8v)
  hl : RowR w' A n l
  hB : Below w.heap.size w w'
theorem RowsS.below {w : World} {a b : List UInt8} {A : Option Addr} {n : Nat} {l : List (List UInt8)} {W W' : World} (h : RowsS w a b A n l W) (hb : Below W.heap.size W W') : RowsS w a b A n l W' := ⟨h.hra.below hb, h.hrb.below hb, h.hl.below hb, h.hB.trans (hb.mono h.hB.size)⟩
theorem RowsS.all {w W : World} {a b : List UInt8} {A : Option Addr} {n : Nat} {l : List (List UInt8)} (h : RowsS w a b A n l W) : (W.rangeAt w.heap.size 0 (a.map u8v) ∧ W.rangeAt (w.heap.size + 1) 0 (b.map u8v) ∧ RowsS w a b A n l W) := ⟨h.hra, h.hrb, h⟩
theorem clip_eq (nm : List UInt8) : (txt nm).extract 0 (min (nm.length : Int) 255).toNat = txt (nm.take 255) := by
  rw [txt_extract, List.drop_zero, Nat.sub_zero]
  congr 1
  rw [List.take_eq_take_iff]
  omega
set_option maxRecDepth 100000 in
set_option maxHeartbeats 8000000 in
set_option linter.unusedSimpArgs false in
theorem tagRows_any (nm : List UInt8) (a b : List UInt8) (ha : a.length = 32) (hb : b.length = 32) (A : Option Addr) (n c : Nat) (l : List (List UInt8)) (w : World) (hA0 : IdRow w A n l) :
    Calls Try.prog 3 #[.string (txt nm), .agg (idVals a), .agg (idVals b), .slice A n c] w fun e w' => e = .returned (.bool true) ∧ Below w.heap.size w w' := by
  obtain ⟨hn, hn2, hrl⟩ := hA0
  unfold maxLen at hn2
  have hA := (Blk.new w 23 (idVals a)).alloc (.cells (idVals b) 23)
  have hBk := Blk.new (w.alloc (.cells (idVals a) 23)) 23 (idVals b)
  have hk : (w.alloc (.cells (idVals a) 23)).heap.size = w.heap.size + 1 := by simp
  rw [hk] at hBk
  have hB : Below w.heap.size w ((w.alloc (.cells (idVals a) 23)).alloc (.cells (idVals b) 23)) := two_below w a b
  by_cases hl1 : nm.length ≤ 600
  · have l1 : ¬ (600 : Int) < nm.length := by omega
    by_cases hl2 : n ≤ 40
    · have l2 : ¬ (40 : Int) < n := by omega
      have hS0 : RowsS w a b A n l ((w.alloc (.cells (idVals a) 23)).alloc (.cells (idVals b) 23)) := ⟨range_blk hA, range_blk hBk, RowR.below ⟨hn, by omega, hrl⟩ hB, hB⟩
      obtain ⟨S, hS⟩ : ∃ S, S = tagB (nm.take 255) [a, b] := ⟨_, rfl⟩
      have hSl : S.length = 32 := by rw [hS]; exact tagB_length _ _
      obtain ⟨T, hT⟩ : ∃ T, T = tagB (nm.take 255) [l.flatten] := ⟨_, rfl⟩
      have hTl : T.length = 32 := by rw [hT]; exact tagB_length _ _
      have hfl : l.flatten.length = 32 * n := by rw [flatten_len l hrl.1, hn]
      have cP : ∀ W, (W.rangeAt w.heap.size 0 (a.map u8v) ∧ W.rangeAt (w.heap.size + 1) 0 (b.map u8v) ∧ RowsS w a b A n l W) → Calls Try.prog 12 #[.string (txt nm), .agg (List.map u8v a).toArray, .agg (List.map u8v b).toArray] W fun e w' => e = .returned (.agg (idVals S)) ∧ (w'.rangeAt w.heap.size 0 (a.map u8v) ∧ w'.rangeAt (w.heap.size + 1) 0 (b.map u8v) ∧ RowsS w a b A n l w') := fun W h =>
        (pair_any nm (by omega) a b ha hb W).mono (by rw [← hS]; rintro e w' ⟨h1, h2⟩; exact ⟨h1, (h.2.2.below h2).all⟩)
      have cQ : ∀ W, (W.rangeAt w.heap.size 0 (a.map u8v) ∧ W.rangeAt (w.heap.size + 1) 0 (b.map u8v) ∧ RowsS w a b A n l W) → Calls Try.prog 13 #[.string (txt (nm.take 255)), .agg (List.map u8v a).toArray, .agg (List.map u8v b).toArray] W fun e w' => e = .returned (.agg (idVals S)) ∧ (w'.rangeAt w.heap.size 0 (a.map u8v) ∧ w'.rangeAt (w.heap.size + 1) 0 (b.map u8v) ∧ RowsS w a b A n l w') := fun W h =>
        (rpair_any (nm.take 255) (take_min nm) a b ha hb W).mono (by rw [← hS]; rintro e w' ⟨h1, h2⟩; exact ⟨h1, (h.2.2.below h2).all⟩)
      have cC : ∀ W, (W.rangeAt w.heap.size 0 (a.map u8v) ∧ W.rangeAt (w.heap.size + 1) 0 (b.map u8v) ∧ RowsS w a b A n l W) → Calls Try.prog 14 #[.string (txt nm), .slice A n c] W fun e w' => e = .returned (.agg (idVals T)) ∧ (w'.rangeAt w.heap.size 0 (a.map u8v) ∧ w'.rangeAt (w.heap.size + 1) 0 (b.map u8v) ∧ RowsS w a b A n l w') := fun W h =>
        (chain_any nm (by omega) A n c l W h.2.2.hl (by omega)).mono (by rw [← hT]; rintro e w' ⟨h1, h2⟩; exact ⟨h1, (h.2.2.below h2).all⟩)
      have cA : ∀ W, (W.rangeAt w.heap.size 0 (a.map u8v) ∧ W.rangeAt (w.heap.size + 1) 0 (b.map u8v) ∧ RowsS w a b A n l W) → Calls Try.prog 16 #[.slice A n c] W fun e w' => e = .returned (.string (txt l.flatten)) ∧ (w'.rangeAt w.heap.size 0 (a.map u8v) ∧ w'.rangeAt (w.heap.size + 1) 0 (b.map u8v) ∧ RowsS w a b A n l w') := fun W h =>
        (rall_any A n c l W h.2.2.hl).mono (by rintro e w' ⟨h1, h2⟩; exact ⟨h1, (h.2.2.below h2).all⟩)
      have cO : ∀ W B d, Rd W B ([l.flatten].map strV) → (W.rangeAt w.heap.size 0 (a.map u8v) ∧ W.rangeAt (w.heap.size + 1) 0 (b.map u8v) ∧ RowsS w a b A n l W) → Calls Try.prog 15 #[.string (txt (nm.take 255)), .slice B 1 d] W fun e w' => e = .returned (.agg (idVals T)) ∧ (w'.rangeAt w.heap.size 0 (a.map u8v) ∧ w'.rangeAt (w.heap.size + 1) 0 (b.map u8v) ∧ RowsS w a b A n l w') := fun W B d hr h =>
        (rof_any (nm.take 255) (take_min nm) B 1 d [l.flatten] rfl (textB_ids _ (take_min nm) _ (by simp only [List.map_cons, List.map_nil, List.sum_cons, List.sum_nil, List.length_cons, List.length_nil, hfl]; omega)) W hr).mono (by rw [← hT]; rintro e w' ⟨h1, h2⟩; exact ⟨h1, (h.2.2.below h2).all⟩)
      have cW : ∀ W, (W.rangeAt w.heap.size 0 (a.map u8v) ∧ W.rangeAt (w.heap.size + 1) 0 (b.map u8v) ∧ RowsS w a b A n l W) → Calls Try.prog 11 #[] W fun e w' => e = .returned (.bool true) ∧ (w'.rangeAt w.heap.size 0 (a.map u8v) ∧ w'.rangeAt (w.heap.size + 1) 0 (b.map u8v) ∧ RowsS w a b A n l w') := fun W h =>
        (awake3_any W).mono (by rintro e w' ⟨h1, h2⟩; exact ⟨h1, (h.2.2.below h2).all⟩)
      have eS : ∀ W, (Op.equalIn 10000 23 (.agg (idVals S)) (.agg (idVals S))).run Try.prog W = .ok true W := fun W => (ids_eq W S S hSl hSl).trans (by rw [decide_eq_true rfl])
      have eT : ∀ W, (Op.equalIn 10000 23 (.agg (idVals T)) (.agg (idVals T))).run Try.prog W = .ok true W := fun W => (ids_eq W T T hTl hTl).trans (by rw [decide_eq_true rfl])
      have hu := Try.underlying23
      have hza : (Try.prog.info? 23).map (·.size) = some (a.map u8v).length := by rw [List.length_map, ha]; exact sizeId
      have hzb : (Try.prog.info? 23).map (·.size) = some (b.map u8v).length := by rw [List.length_map, hb]; exact sizeId
      have hcl := clip_eq nm
      clear hA hBk hk hB hS hT hSl hTl hfl ha hb hn hrl
      go_enter Try.func3, Try.ntmps3
      go_wp2_with (fail)
      try rw [hcl]
      generalize ((w.alloc (.cells (idVals a) 23)).alloc (.cells (idVals b) 23)) = w3 at *
      clear hcl
      refine wp_region_held_drew (S := fun w' => (w'.rangeAt w.heap.size 0 (a.map u8v) ∧ w'.rangeAt (w.heap.size + 1) 0 (b.map u8v) ∧ RowsS w a b A n l w')) (by kernel_rfl) ?_ (fun hHeld => ?_)
      · exact (hS0.below (below_drew1 w3)).all
      refine' wpAnyH_take (i := 1) (v := _) rfl (by kernel_rfl) (by kernel_rfl) (by kernel_rfl) (fun _ _ _ h => h) (yieldsIf_load_mid (by rfl) 23 _ rfl _ _ rfl (a.map u8v) _ (fun w' h => h.1) hu rfl hza) hHeld ?_
      try simp only [Act.put, List.setIfInBounds_toArray, List.set_cons_zero, List.set_cons_succ]
      refine' wpAnyH_take (i := 2) (v := _) rfl (by kernel_rfl) (by kernel_rfl) (by kernel_rfl) (fun _ _ _ h => h) (yieldsIf_load_mid (by rfl) 23 _ rfl _ _ rfl (b.map u8v) _ (fun w' h => h.2.1) hu rfl hzb) hHeld ?_
      try simp only [Act.put, List.setIfInBounds_toArray, List.set_cons_zero, List.set_cons_succ]
      refine' wpAnyH_take (i := 5) (v := _) rfl (by kernel_rfl) (by kernel_rfl) (by kernel_rfl) (fun _ _ _ h => h) (yieldsIf_load_mid (by rfl) 23 _ rfl _ _ rfl (a.map u8v) _ (fun w' h => h.1) hu rfl hza) hHeld ?_
      try simp only [Act.put, List.setIfInBounds_toArray, List.set_cons_zero, List.set_cons_succ]
      refine' wpAnyH_take (i := 6) (v := _) rfl (by kernel_rfl) (by kernel_rfl) (by kernel_rfl) (fun _ _ _ h => h) (yieldsIf_load_mid (by rfl) 23 _ rfl _ _ rfl (b.map u8v) _ (fun w' h => h.2.1) hu rfl hzb) hHeld ?_
      try simp only [Act.put, List.setIfInBounds_toArray, List.set_cons_zero, List.set_cons_succ]
      refine' wpAnyH_take (i := 0) (v := .string (txt nm)) rfl (by kernel_rfl) (by kernel_rfl) (by kernel_rfl) (fun _ _ _ h => h) (Or.inl ⟨by rfl, fun w' hw' => by go_simp⟩) hHeld ?_
      try simp only [Act.put, List.setIfInBounds_toArray, List.set_cons_zero, List.set_cons_succ]
      refine' wpAnyH_take (i := 4) (v := .string (txt (nm.take 255))) rfl (by kernel_rfl) (by kernel_rfl) (by kernel_rfl) (fun _ _ _ h => h) (Or.inl ⟨by rfl, fun w' hw' => by go_simp⟩) hHeld ?_
      try simp only [Act.put, List.setIfInBounds_toArray, List.set_cons_zero, List.set_cons_succ]
      refine wpAnyH_ready (rs := [3]) (by kernel_rfl) (by simp) ?_
      refine AllReadyH.cons rfl (fun K hK => ?_) AllReadyH.nil
      go_simp
      (with_reducible refine (cP _ hHeld).mono ?_)
      rintro e3 w3 ⟨rfl, hS3⟩
      refine hK.out _ _ hS3 (fun hHeld => ?_)
      clear hK K
      try simp only [Act.put, List.setIfInBounds_toArray, List.set_cons_zero, List.set_cons_succ]
      refine wpAnyH_ready (rs := [7]) (by kernel_rfl) (by simp) ?_
      refine AllReadyH.cons rfl (fun K hK => ?_) AllReadyH.nil
      go_simp
      (with_reducible refine (cQ _ hHeld).mono ?_)
      rintro e7 w7 ⟨rfl, hS7⟩
      refine hK.out _ _ hS7 (fun hHeld => ?_)
      clear hK K
      try simp only [Act.put, List.setIfInBounds_toArray, List.set_cons_zero, List.set_cons_succ]
      refine' wpAnyH_take (i := 8) (v := .bool true) rfl (by kernel_rfl) (by kernel_rfl) (by kernel_rfl) (fun _ _ _ h => h) (Or.inl ⟨by rfl, fun w' hw' => by have hv := eS w'; go_simp⟩) hHeld ?_
      try simp only [Act.put, List.setIfInBounds_toArray, List.set_cons_zero, List.set_cons_succ]
      refine' wpAnyH_take (i := 9) (v := .bool true) rfl (by kernel_rfl) (by kernel_rfl) (by kernel_rfl) (fun _ _ _ h => h) (Or.inl ⟨by rfl, fun w' hw' => by go_simp⟩) hHeld ?_
      try simp only [Act.put, List.setIfInBounds_toArray, List.set_cons_zero, List.set_cons_succ]
      refine' wpAnyH_take (i := 10) (v := .string (txt nm)) rfl (by kernel_rfl) (by kernel_rfl) (by kernel_rfl) (fun _ _ _ h => h) (Or.inl ⟨by rfl, fun w' hw' => by go_simp⟩) hHeld ?_
      try simp only [Act.put, List.setIfInBounds_toArray, List.set_cons_zero, List.set_cons_succ]
      refine' wpAnyH_take (i := 11) (v := .slice A n c) rfl (by kernel_rfl) (by kernel_rfl) (by kernel_rfl) (fun _ _ _ h => h) (Or.inl ⟨by rfl, fun w' hw' => by go_simp⟩) hHeld ?_
      try simp only [Act.put, List.setIfInBounds_toArray, List.set_cons_zero, List.set_cons_succ]
      refine' wpAnyH_take (i := 13) (v := .string (txt (nm.take 255))) rfl (by kernel_rfl) (by kernel_rfl) (by kernel_rfl) (fun _ _ _ h => h) (Or.inl ⟨by rfl, fun w' hw' => by go_simp⟩) hHeld ?_
      try simp only [Act.put, List.setIfInBounds_toArray, List.set_cons_zero, List.set_cons_succ]
      refine' wpAnyH_take (i := 14) (v := .slice A n c) rfl (by kernel_rfl) (by kernel_rfl) (by kernel_rfl) (fun _ _ _ h => h) (Or.inl ⟨by rfl, fun w' hw' => by go_simp⟩) hHeld ?_
      try simp only [Act.put, List.setIfInBounds_toArray, List.set_cons_zero, List.set_cons_succ]
      refine wpAnyH_ready (rs := [12]) (by kernel_rfl) (by simp) ?_
      refine AllReadyH.cons rfl (fun K hK => ?_) AllReadyH.nil
      go_simp
      (with_reducible refine (cC _ hHeld).mono ?_)
      rintro e12 w12 ⟨rfl, hS12⟩
      refine hK.out _ _ hS12 (fun hHeld => ?_)
      clear hK K
      try simp only [Act.put, List.setIfInBounds_toArray, List.set_cons_zero, List.set_cons_succ]
      refine wpAnyH_ready (rs := [15]) (by kernel_rfl) (by simp) ?_
      refine AllReadyH.cons rfl (fun K hK => ?_) AllReadyH.nil
      go_simp
      (with_reducible refine (cA _ hHeld).mono ?_)
      rintro e15 w15 ⟨rfl, hS15⟩
      refine hK.out _ _ hS15 (fun hHeld => ?_)
      clear hK K
      try simp only [Act.put, List.setIfInBounds_toArray, List.set_cons_zero, List.set_cons_succ]
      refine wpAnyH_ready (rs := [16]) (by kernel_rfl) (by simp) ?_
      refine AllReadyH.cons rfl (fun K hK => ?_) AllReadyH.nil
      go_simp
      have hA := (Below.refl w15.heap.size w15).alloc (Nat.le_refl _) (.cells #[.string (txt l.flatten)] 9)
      have hRd := rd_one w15 l.flatten
      have hS := (hHeld.2.2.below hA).all
      generalize w15.alloc (.cells #[.string (txt l.flatten)] 9) = w16 at *
      refine hK.out _ _ hS (fun hHeld => ?_)
      clear hA hS
      clear hK K
      try simp only [Act.put, List.setIfInBounds_toArray, List.set_cons_zero, List.set_cons_succ]
      refine wpAnyH_ready (rs := [17]) (by kernel_rfl) (by simp) ?_
      refine AllReadyH.cons rfl (fun K hK => ?_) AllReadyH.nil
      go_simp
      (with_reducible refine (cO _ _ _ hRd hHeld).mono ?_)
      rintro e17 w17 ⟨rfl, hS17⟩
      refine hK.out _ _ hS17 (fun hHeld => ?_)
      clear hK K
      try simp only [Act.put, List.setIfInBounds_toArray, List.set_cons_zero, List.set_cons_succ]
      refine' wpAnyH_take (i := 18) (v := .bool true) rfl (by kernel_rfl) (by kernel_rfl) (by kernel_rfl) (fun _ _ _ h => h) (Or.inl ⟨by rfl, fun w' hw' => by have hv := eT w'; go_simp⟩) hHeld ?_
      try simp only [Act.put, List.setIfInBounds_toArray, List.set_cons_zero, List.set_cons_succ]
      refine' wpAnyH_take (i := 19) (v := .bool true) rfl (by kernel_rfl) (by kernel_rfl) (by kernel_rfl) (fun _ _ _ h => h) (Or.inl ⟨by rfl, fun w' hw' => by go_simp⟩) hHeld ?_
      try simp only [Act.put, List.setIfInBounds_toArray, List.set_cons_zero, List.set_cons_succ]
      refine' wpAnyH_take (i := 20) (v := .bool true) rfl (by kernel_rfl) (by kernel_rfl) (by kernel_rfl) (fun _ _ _ h => h) (Or.inl ⟨by rfl, fun w' hw' => by go_simp⟩) hHeld ?_
      try simp only [Act.put, List.setIfInBounds_toArray, List.set_cons_zero, List.set_cons_succ]
      refine wpAnyH_ready (rs := [21]) (by kernel_rfl) (by simp) ?_
      refine AllReadyH.cons rfl (fun K hK => ?_) AllReadyH.nil
      go_simp
      (with_reducible refine (cW _ hHeld).mono ?_)
      rintro e21 w21 ⟨rfl, hS21⟩
      refine hK.out _ _ hS21 (fun hHeld => ?_)
      clear hK K
      try simp only [Act.put, List.setIfInBounds_toArray, List.set_cons_zero, List.set_cons_succ]
      refine wpAnyH_ready (rs := [22]) (by kernel_rfl) (by simp) ?_
      refine AllReadyH.cons rfl (fun K hK => ?_) AllReadyH.nil
      go_simp
      refine hK.out _ _ hHeld (fun hHeld => ?_)
      clear hK K
      try simp only [Act.put, List.setIfInBounds_toArray, List.set_cons_zero, List.set_cons_succ]
      refine wpAnyH_ready (rs := [23]) (by kernel_rfl) (by simp) ?_
      refine AllReadyH.cons rfl (fun K hK => ?_) AllReadyH.nil
      go_simp
      refine hK.out _ _ hHeld (fun hHeld => ?_)
      clear hK K
      try simp only [Act.put, List.setIfInBounds_toArray, List.set_cons_zero, List.set_cons_succ]
      refine wpAnyH_done (by kernel_rfl) ?_ _
      go_wp2
      go_ret
      exact ⟨rfl, hHeld.2.2.hB⟩
    · have l2 : (40 : Int) < n := by omega
      clear hA hBk
      go_enter Try.func3, Try.ntmps3
      go_wp2_with (first
        | (go_at_call 11; (with_reducible refine (awake3_any _).mono ?_); rintro e1 w1 ⟨rfl, hb1⟩))
      go_ret
      exact ⟨rfl, hB.trans (hb1.mono hB.size)⟩
  · have l1 : (600 : Int) < nm.length := by omega
    clear hA hBk
    go_enter Try.func3, Try.ntmps3
    go_wp2_with (first
      | (go_at_call 11; (with_reducible refine (awake3_any _).mono ?_); rintro e1 w1 ⟨rfl, hb1⟩))
    go_ret
    exact ⟨rfl, hB.trans (hb1.mono hB.size)⟩
set_option linter.unusedVariables false in
theorem law_TagRows (w : World) (a0 : ByteArray) (w0 : a0.size ≤ maxLen) (a1 : List UInt8) (w1 : a1.length = 32) (a2 : List UInt8) (w2 : a2.length = 32) (a3 : Option Addr) (l3 c3 : Nat) (z3 : List (List UInt8)) (w3 : IdRow w a3 l3 z3) :
    Calls Try.prog 3 #[.string a0, .agg (idVals a1), .agg (idVals a2), .slice a3 l3 c3] w fun e w' => e = .returned (.bool true) ∧ Below w.heap.size w w' := by
  exact tagRows_any a0.data.toList a1 a2 w1 w2 a3 l3 c3 z3 w w3

open Go.ChangeShapes Go.WideShapes Go.ChangeAt
open Go.ChangeMaps (open_string shut_string)
theorem own_TagRows : ownKnob Try.prog.godebug = none := by kernel_rfl
theorem laidOut_TagRows : laidOutB Try.prog = true := by kernel_rfl
set_option linter.unusedVariables false in
set_option maxRecDepth 100000 in
theorem lifted_TagRows (os : Os) (started : os.Started) (H : Type) (enc : TypeId × Value → H) :
    ReturnsInHanded {} Try.checked os 3 .any (Rows.tagRowsSpec.pre6 enc Try.prog Try.f3 Rows.tagRowsRow.domain false) (Rows.tagRowsSpec.post enc Try.prog Try.f3 false true false false) := by
  refine returnsInHanded_of_change (C := Try.checked) own_TagRows started (by kernel_rfl) Try.func3
    (ChangeSpec.witness6 (enc := enc) (C := Try.checked) false ⟨#[], #[.string ByteArray.empty, .agg #[.int .u8 0, .int .u8 0, .int .u8 0, .int .u8 0, .int .u8 0, .int .u8 0, .int .u8 0, .int .u8 0, .int .u8 0, .int .u8 0, .int .u8 0, .int .u8 0, .int .u8 0, .int .u8 0, .int .u8 0, .int .u8 0, .int .u8 0, .int .u8 0, .int .u8 0, .int .u8 0, .int .u8 0, .int .u8 0, .int .u8 0, .int .u8 0, .int .u8 0, .int .u8 0, .int .u8 0, .int .u8 0, .int .u8 0, .int .u8 0, .int .u8 0, .int .u8 0], .agg #[.int .u8 0, .int .u8 0, .int .u8 0, .int .u8 0, .int .u8 0, .int .u8 0, .int .u8 0, .int .u8 0, .int .u8 0, .int .u8 0, .int .u8 0, .int .u8 0, .int .u8 0, .int .u8 0, .int .u8 0, .int .u8 0, .int .u8 0, .int .u8 0, .int .u8 0, .int .u8 0, .int .u8 0, .int .u8 0, .int .u8 0, .int .u8 0, .int .u8 0, .int .u8 0, .int .u8 0, .int .u8 0, .int .u8 0, .int .u8 0, .int .u8 0, .int .u8 0], .slice none 0 0], []⟩ 8 (by kernel_rfl) (by kernel_rfl) (by kernel_rfl) (by kernel_rfl)) ?_
  intro W base args ds gs before hval0 hW hcnd _
  have hval : ∀ (j : Nat) t v, Try.f3.params[j]? = some t → args[j]? = some v → Value.okWide Try.prog W .any base t v := hval0
  have hW' := hW
  obtain ⟨p, q, hA0, hV, rfl, hfz, hnd⟩ := hW
  have hA1 : DataW.TrodAll enc Try.prog W 0 (fun _ => true) true Try.f3.params.toList args.toList ds p := hA0
  have hA : DataW.TrodAll enc Try.prog W 0 (fun _ => true) true Try.f3.params.toList args.toList ds p := hA0
  rw [Try.params3] at hA hval
  obtain ⟨v0, vs0, d0, ds0, p0, q0, hargs, rfl, rfl, h0, r0⟩ := trodAll_cons hA
  obtain ⟨v1, vs1, d1, ds1, p1, q1, rfl, rfl, rfl, h1, r1⟩ := trodAll_cons r0
  obtain ⟨v2, vs2, d2, ds2, p2, q2, rfl, rfl, rfl, h2, r2⟩ := trodAll_cons r1
  obtain ⟨v3, vs3, d3, ds3, p3, q3, rfl, rfl, rfl, h3, r3⟩ := trodAll_cons r2
  obtain ⟨rfl, rfl, rfl⟩ := trodAll_nil r3
  obtain rfl : args = #[v0, v1, v2, v3] := by cases args; simp_all
  obtain ⟨rfl, rfl⟩ := trodVars_none hV
  obtain ⟨a0, rfl, rfl, rfl, w0⟩ := open_string Try.underlying9 (hval 0 9 v0 rfl rfl) h0
  obtain ⟨a1, w1, rfl⟩ := open_id Try.underlying23 Try.underlying5 (by kernel_rfl) (by kernel_rfl) (hval 1 23 v1 rfl rfl) h1
  obtain ⟨a2, w2, rfl⟩ := open_id Try.underlying23 Try.underlying5 (by kernel_rfl) (by kernel_rfl) (hval 2 23 v2 rfl rfl) h2
  obtain ⟨a3, l3, c3, z3, rfl, w3⟩ := open_idRow Try.underlying24 Try.underlying23 Try.underlying5 (by kernel_rfl) (by kernel_rfl) (hval 3 24 v3 rfl rfl) h3
  clear hA0 hval0
  refine (law_TagRows W a0 w0 a1 w1 a2 w2 a3 l3 c3 z3 w3).mono fun e W' ⟨he, bel⟩ => ?_
  subst he
  exact ⟨_, rfl, _, _, _, [], _, [], hW', trodAll_mk1 (shut_bool Try.underlying4 _), trodAll_stays laidOut_TagRows bel (by kernel_rfl) hA1, rfl, bel.frame _, fun h => by cases h⟩

/-- The statement. -/
theorem TagRows_holds : Rows.TagRowsSaid :=
  OpenClaim.holds_of_wide 3 Try.f3 rfl rfl rfl rfl rfl rfl rfl ⟨rfl, rfl, rfl, rfl, rfl⟩ rfl rfl rfl rfl rfl (by kernel_rfl) Try.func3 (by kernel_rfl)
    (of_decide_eq_true (by kernel_rfl)) (by unfold Func.isWrapper; first | (rw [if_pos (by decide +kernel)]; kernel_rfl) | (rw [if_neg (by decide +kernel)]; exact ⟨rfl, rfl⟩))
    (fun os started H enc _ => lifted_TagRows os started H enc)
#print axioms TagRows_holds

end Go.Proofs.Ytjofobfflnnjhaa

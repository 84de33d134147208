
/- lamport: bits of a sum; what is shown and hidden of it, of the program and of the document. -/
import Derived.Test.YticpdepbgcagaaaGreatLamA
import Derived.Test.YticpdepbgcagaaaGreatKit6
namespace Go.Proofs.YticpdepbgcagaaaGreat
open Go.RowKit Go.Qc
attribute [local go_sem] txt_size txt_append ib_fold

/-! ### bits -/
def bitZ (a : List UInt8) (i : Nat) : Nat := if h : i / 8 < (txt a).size then (bitAt (txt a) i h).toNat else 0
theorem bitZ_ib (a : List UInt8) (i : Nat) (h : i / 8 < (txt a).size) : ib (bitAt (txt a) i h) = (bitZ a i : Nat) := by
  unfold bitZ ib; rw [dif_pos h]
theorem bitZ_le (a : List UInt8) (i : Nat) : bitZ a i ≤ 1 := by
  unfold bitZ
  split
  · unfold bitAt; rw [bit0_nat]; omega
  · omega
theorem ibit_any (a : List UInt8) (ha : a.length = 32) (i : Nat) (hi : i < 256) (w : World) :
    Calls Tryz.prog 33 #[.agg (idVals a), .int .i64 i] w fun e w' => e = .returned (.int .i64 (bitZ a i : Nat)) ∧ Below w.heap.size w w' := by
  have h8 : i / 8 < (txt a).size := by rw [txt_size, ha]; omega
  rw [← bitZ_ib a i h8]
  exact idBit_any a ha i h8 w
set_option maxRecDepth 100000 in
set_option maxHeartbeats 4000000 in
theorem rbit6_any (a : List UInt8) (ha : a.length = 32) (i : Nat) (hi : i < 256) (w : World) :
    Calls Tryz.prog 19 #[.agg (idVals a), .int .i64 i] w fun e w' => e = .returned (.int .i64 (bitZ a i : Nat)) ∧ Below w.heap.size w w' := by
  have h8 : i / 8 < (txt a).size := by rw [txt_size, ha]; omega
  rw [← bitZ_ib a i h8]
  have hu := Tryz.underlying24
  have hI : (w.alloc (.cells (idVals a) 24)).rangeAt w.heap.size 0 (a.map u8v) := range_blk (Blk.new w 24 (idVals a))
  have hB : Below w.heap.size w (w.alloc (.cells (idVals a) 24)) := (Below.refl _ _).alloc (Nat.le_refl _) _
  have hza : (Tryz.prog.info? 24).map (·.size) = some (a.map u8v).length := by rw [List.length_map, ha]; exact sizeId
  have cX : ∀ W : World, Calls Tryz.prog 49 #[.agg (List.map u8v a).toArray] W fun e w' => e = .returned (.string (txt a)) ∧ Below W.heap.size W w' := fun W => rid_any a ha W
  have cY := fun W => rbit_any (txt a) i (by omega) h8 W
  generalize ib (bitAt (txt a) i h8) = D at *
  clear h8 hi ha
  go_enter Tryz.func19, Tryz.ntmps19
  go_wp2_with (first
    | (with_reducible refine wpList_load_if (by with_unfolding_all rfl) 24 _ rfl _ 0 rfl (a.map u8v) _ hI hu (by with_unfolding_all rfl) hza ?_)
    | (go_at_call 49; (with_reducible refine (cX _).mono ?_); rintro e1 w1 ⟨rfl, hB1⟩; replace hB := hB.trans (hB1.mono hB.size))
    | (go_at_call 48; (with_reducible refine (cY _).mono ?_); rintro e2 w2 ⟨rfl, rfl⟩))
  go_ret
  exact ⟨rfl, hB⟩

/-! ### what is shown and hidden -/
def shownX (s : List UInt8) (lf : Int) (m : List UInt8) (b : Nat) : List UInt8 := secB s lf b (bitZ m b : Nat)
def hiddenX (s : List UInt8) (lf : Int) (m : List UInt8) (b : Nat) : List UInt8 := pubB (secB s lf b (1 - ((bitZ m b : Nat) : Int)))
def upTo (F : Nat → List UInt8) (n : Nat) : List (List UInt8) := (List.range n).map F
theorem upTo_succ (F : Nat → List UInt8) (n : Nat) : upTo F (n + 1) = upTo F n ++ [F n] := by simp [upTo, List.range_succ]
theorem upTo_length (F : Nat → List UInt8) (n : Nat) : (upTo F n).length = n := by simp [upTo]
theorem upTo_get (F : Nat → List UInt8) (n k : Nat) (h : k < n) : (upTo F n)[k]? = some (F k) := by simp [upTo, h]
theorem upTo_32 (F : Nat → List UInt8) (hF : ∀ b, (F b).length = 32) (n : Nat) : ∀ x ∈ upTo F n, x.length = 32 := by
  intro x hx
  simp only [upTo, List.mem_map] at hx
  obtain ⟨b, _, rfl⟩ := hx
  exact hF b
theorem shownX_length (s : List UInt8) (lf : Int) (m : List UInt8) (b : Nat) : (shownX s lf m b).length = 32 := secB_length _ _ _ _
theorem hiddenX_length (s : List UInt8) (lf : Int) (m : List UInt8) (b : Nat) : (hiddenX s lf m b).length = 32 := pubB_length _

set_option maxRecDepth 100000 in
set_option maxHeartbeats 20000000 in
theorem sign_any (s : List UInt8) (hs : s.length ≤ 1000) (lf : Int) (h0 : 0 ≤ lf) (hl : lf ≤ 9223372036854775807) (n : Nat) (hn : n ≤ 256) (hr : rgt n = true) (m : List UInt8) (hm : m.length = 32) (w : World) :
    Calls Tryz.prog 55 #[.string (txt s), .int .i64 lf, .int .i64 n, .agg (idVals m)] w fun e w' => ∃ v u, e = .returned (.tuple #[v, u, .int .i64 0]) ∧ w'.ownsRow w.heap.size 24 32 v n (idsV (upTo (shownX s lf m) n)) ∧ w'.ownsRow w.heap.size 24 32 u n (idsV (upTo (hiddenX s lf m) n)) ∧ Below w.heap.size w w' := by
  obtain ⟨j0, hj, hjz, hjs, hjb⟩ := infoId2_parts
  have hu := Tryz.underlying24
  have c1 : ∀ W : World, Calls Tryz.prog 85 #[.int .i64 lf, .int .i64 n] W fun e w' => e = .returned (.bool true) ∧ W = w' := fun W => by
    have := usable_any lf n W
    rw [decide_eq_true h0, hr] at this
    exact this
  have hI : (w.alloc (.cells (idVals m) 24)).rangeAt w.heap.size 0 (m.map u8v) := range_blk (Blk.new w 24 (idVals m))
  have hB0 : Below w.heap.size w (w.alloc (.cells (idVals m) 24)) := (Below.refl _ _).alloc (Nat.le_refl _) _
  have hk1 : (w.alloc (.cells (idVals m) 24)).heap.size = w.heap.size + 1 := by simp
  have hzm : (Tryz.prog.info? 24).map (·.size) = some (m.map u8v).length := by rw [List.length_map, hm]; exact sizeId
  have HN := hid hn
  have HM := hid hm
  have HS := hid hs
  have HL := hid hl
  clear hm hs hl hr h0
  go_enter Tryz.func55, Tryz.ntmps55
  go_wp2_with (first
    | (go_at_call 85; (with_reducible refine (c1 _).mono ?_); rintro e1 w1 ⟨rfl, rfl⟩))
  generalize w.alloc (.cells (idVals m) 24) = w0 at *
  go_loopw [8, 9, 18] (fun v u i wr => ∃ k : Nat, k ≤ n ∧ i = .int .i64 k ∧ wr.ownsRow (w.heap.size + 1) 24 32 v k (idsV (upTo (shownX s lf m) k)) ∧ wr.ownsRow (w.heap.size + 1) 24 32 u k (idsV (upTo (hiddenX s lf m) k)) ∧ Apart v u ∧ Below w0.heap.size w0 wr) (fun _ _ i _ => n - (intOf i).toNat)
  case atStart => exact ⟨0, by omega, rfl, World.ownsRow_nil _ _ _ _, World.ownsRow_nil _ _ _ _, .inl rfl, Below.refl _ _⟩
  case round =>
    obtain ⟨k, hk, rfl, hv, hw, hap, hb⟩ := hrel
    by_cases hlt : k < n
    · have b1 : (k : Int) < n := by omega
      have hIr := hI.below hb
      have cB : ∀ W : World, Calls Tryz.prog 33 #[.agg (List.map u8v m).toArray, .int .i64 k] W fun e w' => e = .returned (.int .i64 (bitZ m k : Nat)) ∧ Below W.heap.size W w' := fun W => ibit_any m HM.out k (by have := HN.out; omega) W
      obtain ⟨X, hX⟩ : ∃ X, X = shownX s lf m k := ⟨_, rfl⟩
      obtain ⟨Y, hY⟩ : ∃ Y, Y = secB s lf k (1 - ((bitZ m k : Nat) : Int)) := ⟨_, rfl⟩
      have lx : X.length = 32 := by rw [hX]; exact shownX_length _ _ _ _
      have ly : Y.length = 32 := by rw [hY]; exact secB_length _ _ _ _
      have cX : ∀ W : World, Calls Tryz.prog 45 #[.string (txt s), .int .i64 lf, .int .i64 k, .int .i64 (bitZ m k : Nat)] W fun e w' => e = .returned (.agg (idVals X)) ∧ Below W.heap.size W w' := fun W => by
        rw [hX]; exact secret_any s HS.out lf k _ HL.out W
      have cY : ∀ W : World, Calls Tryz.prog 45 #[.string (txt s), .int .i64 lf, .int .i64 k, .int .i64 (1 - ((bitZ m k : Nat) : Int))] W fun e w' => e = .returned (.agg (idVals Y)) ∧ Below W.heap.size W w' := fun W => by
        rw [hY]; exact secret_any s HS.out lf k _ HL.out W
      have cP := fun W => public_any Y ly W
      have hs1 := upTo_succ (shownX s lf m) k
      rw [← hX] at hs1
      have hs2 := upTo_succ (hiddenX s lf m) k
      rw [show hiddenX s lf m k = pubB Y by rw [hY]; rfl] at hs2
      have lp := pubB_length Y
      have hbz := bitZ_le m k
      clear hX hY
      generalize pubB Y = Z at *
      generalize bitZ m k = D at *
      have HS1 := hid hs1
      have HS2 := hid hs2
      clear hs1 hs2
      go_wp2_with (first
        | (with_reducible refine wpList_load_if (by with_unfolding_all rfl) 24 _ rfl _ 0 rfl (m.map u8v) _ hIr hu (by with_unfolding_all rfl) hzm ?_)
        | (go_at_call 33; (with_reducible refine (cB _).mono ?_); rintro e2 w2 ⟨rfl, hb2⟩; replace hb := hb.trans (hb2.mono hb.size); replace hv := own_below hv hb2; replace hw := own_below hw hb2)
        | (go_at_call 45; (with_reducible refine (cX _).mono ?_); rintro e3 w3 ⟨rfl, hb3⟩; replace hb := hb.trans (hb3.mono hb.size); replace hv := own_below hv hb3; replace hw := own_below hw hb3)
        | ((with_reducible refine wpList_build1 rfl _ rfl X lx rfl ?_); intro cs hcs)
        | (at_builtin; refine wpList_append_own2 _ rfl _ _ 25 rfl (w.heap.size + 1) 24 j0 (.agg (idVals zeroB)) 32 32 Tryz.underlying25 hj hjz hjs hjb rfl (by decide) _ _ _ rfl (hv.alloc _) ⟨w3.heap.size, 0, none⟩ 1 1 (by decide) (X.map u8v) rfl ?l1 hcs (u8v_one X) ?l2 ?l3 ?l4 ?_))
      case l1 => rw [List.length_map, lx]
      case l2 => unfold maxLen; omega
      case l3 => omega
      case l4 => (try simp); have := hb.size; omega
      intro v8 w8 hv8 hg8 hn8
      have hbA := hb.alloc hb.size (.cells cs 24)
      have hB8 := hbA.grown hg8 hbA.size (fun k hk => by rw [hk1]; exact (hv.lt k hk).1)
      have hwA := hw.alloc (.cells cs 24)
      have hw8 := hap.kept hwA hg8
      have hap8 := hap.grow hwA (by simpa using hn8)
      clear hg8 hn8 hwA hbA hb hv hw hap
      go_wp2_with (first
        | (go_at_call 45; (with_reducible refine (cY _).mono ?_); rintro e3 w13 ⟨rfl, hb3⟩; replace hB8 := hB8.trans (hb3.mono hB8.size); replace hv8 := own_below hv8 hb3; replace hw8 := own_below hw8 hb3)
        | (go_at_call 44; (with_reducible refine (cP _).mono ?_); rintro e4 w14 ⟨rfl, hb4⟩; replace hB8 := hB8.trans (hb4.mono hB8.size); replace hv8 := own_below hv8 hb4; replace hw8 := own_below hw8 hb4)
        | ((with_reducible refine wpList_build1 rfl _ rfl Z lp rfl ?_); intro ds hds)
        | (at_builtin; refine wpList_append_own2 _ rfl _ _ 25 rfl (w.heap.size + 1) 24 j0 (.agg (idVals zeroB)) 32 32 Tryz.underlying25 hj hjz hjs hjb rfl (by decide) _ _ _ rfl (hw8.alloc _) ⟨w14.heap.size, 0, none⟩ 1 1 (by decide) (Z.map u8v) rfl ?l1 hds (u8v_one Z) ?l2 ?l3 ?l4 ?_))
      case l1 => rw [List.length_map, lp]
      case l2 => unfold maxLen; omega
      case l3 => omega
      case l4 => (try simp); have := hB8.size; omega
      intro u9 w9 hw9 hg9 hn9
      have hbA := hB8.alloc hB8.size (.cells ds 24)
      have hB9 := hbA.grown hg9 hbA.size (fun k hk => by rw [hk1]; exact (hw8.lt k hk).1)
      have hvA := hv8.alloc (.cells ds 24)
      have hv9 := hap8.symm.kept hvA hg9
      have hap9 := (hap8.symm.grow hvA (by simpa using hn9)).symm
      clear hg9 hn9 hvA hbA
      go_wp2
      go_roundw
      case rel => exact ⟨k + 1, hlt, by go_num, (by rw [HS1.out, idsV_snoc]; exact hv9), (by rw [HS2.out, idsV_snoc]; exact hw9), hap9, hB9⟩
      case measure => simp [intOf]; omega
    · obtain rfl : k = n := by omega
      have b1 : ¬ (k : Int) < k := by omega
      go_wp2
      go_ret3
      exact ⟨_, _, rfl, own_base hv (by omega), own_base hw (by omega), hB0.trans (hb.mono hB0.size)⟩
theorem own0 (w : World) {k : Nat} (hk : w.heap.size = k) : ((w.alloc (.cells #[] 24)).alloc (.cells #[] 24)).ownsRow k 24 32 (.slice (some ⟨k, 0, none⟩) 0 0) 0 [] := by
  subst hk
  exact (World.ownsRow_made w #[] 0 (Nat.le_refl _) (by decide) rfl).alloc _
theorem own1 (w : World) {k : Nat} (hk : w.heap.size = k) : ((w.alloc (.cells #[] 24)).alloc (.cells #[] 24)).ownsRow k 24 32 (.slice (some ⟨k + 1, 0, none⟩) 0 0) 0 [] := by
  subst hk
  have := World.ownsRow_made (base := w.heap.size) (e := 24) (size := 32) (w.alloc (.cells #[] 24)) #[] 0 (by simp) (by decide) rfl
  rwa [show (w.alloc (.cells #[] 24)).heap.size = w.heap.size + 1 by simp] at this
theorem apart01 (k : Nat) : Apart (.slice (some ⟨k, 0, none⟩) 0 0) (.slice (some ⟨k + 1, 0, none⟩) 0 0) :=
  .inr (.inr fun e => by have e2 : k = k + 1 := Option.some.inj e; omega)
theorem below01 (w : World) : Below w.heap.size w ((w.alloc (.cells #[] 24)).alloc (.cells #[] 24)) := ((Below.refl _ _).alloc (Nat.le_refl _) _).alloc (by simp) _
set_option maxRecDepth 100000 in
set_option maxHeartbeats 20000000 in
theorem rsign_any (s : List UInt8) (hs : s.length ≤ 1000) (lf : Int) (n : Nat) (hn : n ≤ 256) (m : List UInt8) (hm : m.length = 32) (w : World) :
    Calls Tryz.prog 46 #[.string (txt s), .int .i64 lf, .int .i64 n, .agg (idVals m)] w fun e w' => ∃ v u, e = .returned (.tuple #[v, u]) ∧ w'.ownsRow w.heap.size 24 32 v n (idsV (upTo (shownX s lf m) n)) ∧ w'.ownsRow w.heap.size 24 32 u n (idsV (upTo (hiddenX s lf m) n)) ∧ Below w.heap.size w w' := by
  obtain ⟨j0, hj, hjz, hjs, hjb⟩ := infoId2_parts
  have hu := Tryz.underlying24
  have hI : (w.alloc (.cells (idVals m) 24)).rangeAt w.heap.size 0 (m.map u8v) := range_blk (Blk.new w 24 (idVals m))
  have hB0 : Below w.heap.size w (w.alloc (.cells (idVals m) 24)) := (Below.refl _ _).alloc (Nat.le_refl _) _
  have hk1 : (w.alloc (.cells (idVals m) 24)).heap.size = w.heap.size + 1 := by simp
  have hzm : (Tryz.prog.info? 24).map (·.size) = some (m.map u8v).length := by rw [List.length_map, hm]; exact sizeId
  have HN := hid hn
  have HM := hid hm
  have HS := hid hs
  clear hm hs
  go_enter Tryz.func46, Tryz.ntmps46
  go_wp2
  generalize w.alloc (.cells (idVals m) 24) = w0 at *
  go_loopw [10, 11, 12] (fun v u i wr => ∃ k : Nat, k ≤ n ∧ i = .int .i64 k ∧ wr.ownsRow (w.heap.size + 1) 24 32 v k (idsV (upTo (shownX s lf m) k)) ∧ wr.ownsRow (w.heap.size + 1) 24 32 u k (idsV (upTo (hiddenX s lf m) k)) ∧ Apart v u ∧ Below w0.heap.size w0 wr) (fun _ _ i _ => n - (intOf i).toNat)
  case atStart => exact ⟨0, by omega, rfl, own0 w0 hk1, own1 w0 hk1, apart01 _, below01 w0⟩
  case round =>
    obtain ⟨k, hk, rfl, hv, hw, hap, hb⟩ := hrel
    by_cases hlt : k < n
    · have b1 : (k : Int) < n := by omega
      have hIr := hI.below hb
      have cB : ∀ W : World, Calls Tryz.prog 19 #[.agg (List.map u8v m).toArray, .int .i64 k] W fun e w' => e = .returned (.int .i64 (bitZ m k : Nat)) ∧ Below W.heap.size W w' := fun W => rbit6_any m HM.out k (by have := HN.out; omega) W
      obtain ⟨X, hX⟩ : ∃ X, X = shownX s lf m k := ⟨_, rfl⟩
      obtain ⟨Y, hY⟩ : ∃ Y, Y = secB s lf k (1 - ((bitZ m k : Nat) : Int)) := ⟨_, rfl⟩
      have lx : X.length = 32 := by rw [hX]; exact shownX_length _ _ _ _
      have ly : Y.length = 32 := by rw [hY]; exact secB_length _ _ _ _
      have cX : ∀ W : World, Calls Tryz.prog 20 #[.string (txt s), .int .i64 lf, .int .i64 k, .int .i64 (bitZ m k : Nat)] W fun e w' => e = .returned (.agg (idVals X)) ∧ Below W.heap.size W w' := fun W => by
        rw [hX]; exact rsecret_any s HS.out lf k _ W
      have cY : ∀ W : World, Calls Tryz.prog 20 #[.string (txt s), .int .i64 lf, .int .i64 k, .int .i64 (1 - ((bitZ m k : Nat) : Int))] W fun e w' => e = .returned (.agg (idVals Y)) ∧ Below W.heap.size W w' := fun W => by
        rw [hY]; exact rsecret_any s HS.out lf k _ W
      have cP := fun W => rpublic_any Y ly W
      have hs1 := upTo_succ (shownX s lf m) k
      rw [← hX] at hs1
      have hs2 := upTo_succ (hiddenX s lf m) k
      rw [show hiddenX s lf m k = pubB Y by rw [hY]; rfl] at hs2
      have lp := pubB_length Y
      have hbz := bitZ_le m k
      clear hX hY
      generalize pubB Y = Z at *
      generalize bitZ m k = D at *
      have HS1 := hid hs1
      have HS2 := hid hs2
      clear hs1 hs2
      go_wp2_with (first
        | (with_reducible refine wpList_load_if (by with_unfolding_all rfl) 24 _ rfl _ 0 rfl (m.map u8v) _ hIr hu (by with_unfolding_all rfl) hzm ?_)
        | (go_at_call 19; (with_reducible refine (cB _).mono ?_); rintro e2 w2 ⟨rfl, hb2⟩; replace hb := hb.trans (hb2.mono hb.size); replace hv := own_below hv hb2; replace hw := own_below hw hb2)
        | (go_at_call 20; (with_reducible refine (cX _).mono ?_); rintro e3 w3 ⟨rfl, hb3⟩; replace hb := hb.trans (hb3.mono hb.size); replace hv := own_below hv hb3; replace hw := own_below hw hb3)
        | ((with_reducible refine wpList_build1 rfl _ rfl X lx rfl ?_); intro cs hcs)
        | (at_builtin; refine wpList_append_own2 _ rfl _ _ 25 rfl (w.heap.size + 1) 24 j0 (.agg (idVals zeroB)) 32 32 Tryz.underlying25 hj hjz hjs hjb rfl (by decide) _ _ _ rfl (hv.alloc _) ⟨w3.heap.size, 0, none⟩ 1 1 (by decide) (X.map u8v) rfl ?l1 hcs (u8v_one X) ?l2 ?l3 ?l4 ?_))
      case l1 => rw [List.length_map, lx]
      case l2 => unfold maxLen; omega
      case l3 => omega
      case l4 => (try simp); have := hb.size; omega
      intro v8 w8 hv8 hg8 hn8
      have hbA := hb.alloc hb.size (.cells cs 24)
      have hB8 := hbA.grown hg8 hbA.size (fun k hk => by rw [hk1]; exact (hv.lt k hk).1)
      have hwA := hw.alloc (.cells cs 24)
      have hw8 := hap.kept hwA hg8
      have hap8 := hap.grow hwA (by simpa using hn8)
      clear hg8 hn8 hwA hbA hb hv hw hap
      have hIr8 := hI.below hB8
      go_wp2_with (first
        | (with_reducible refine wpList_load_if (by with_unfolding_all rfl) 24 _ rfl _ 0 rfl (m.map u8v) _ hIr8 hu (by with_unfolding_all rfl) hzm ?_)
        | (go_at_call 19; (with_reducible refine (cB _).mono ?_); rintro e2 w12 ⟨rfl, hb2⟩; replace hB8 := hB8.trans (hb2.mono hB8.size); replace hv8 := own_below hv8 hb2; replace hw8 := own_below hw8 hb2)
        | (go_at_call 20; (with_reducible refine (cY _).mono ?_); rintro e3 w13 ⟨rfl, hb3⟩; replace hB8 := hB8.trans (hb3.mono hB8.size); replace hv8 := own_below hv8 hb3; replace hw8 := own_below hw8 hb3)
        | (go_at_call 42; (with_reducible refine (cP _).mono ?_); rintro e4 w14 ⟨rfl, hb4⟩; replace hB8 := hB8.trans (hb4.mono hB8.size); replace hv8 := own_below hv8 hb4; replace hw8 := own_below hw8 hb4)
        | ((with_reducible refine wpList_build1 rfl _ rfl Z lp rfl ?_); intro ds hds)
        | (at_builtin; refine wpList_append_own2 _ rfl _ _ 25 rfl (w.heap.size + 1) 24 j0 (.agg (idVals zeroB)) 32 32 Tryz.underlying25 hj hjz hjs hjb rfl (by decide) _ _ _ rfl (hw8.alloc _) ⟨w14.heap.size, 0, none⟩ 1 1 (by decide) (Z.map u8v) rfl ?l1 hds (u8v_one Z) ?l2 ?l3 ?l4 ?_))
      case l1 => rw [List.length_map, lp]
      case l2 => unfold maxLen; omega
      case l3 => omega
      case l4 => (try simp); have := hB8.size; omega
      intro u9 w9 hw9 hg9 hn9
      have hbA := hB8.alloc hB8.size (.cells ds 24)
      have hB9 := hbA.grown hg9 hbA.size (fun k hk => by rw [hk1]; exact (hw8.lt k hk).1)
      have hvA := hv8.alloc (.cells ds 24)
      have hv9 := hap8.symm.kept hvA hg9
      have hap9 := (hap8.symm.grow hvA (by simpa using hn9)).symm
      clear hg9 hn9 hvA hbA
      go_wp2
      go_roundw
      case rel => exact ⟨k + 1, hlt, by go_num, (by rw [HS1.out, idsV_snoc]; exact hv9), (by rw [HS2.out, idsV_snoc]; exact hw9), hap9, hB9⟩
      case measure => simp [intOf]; omega
    · obtain rfl : k = n := by omega
      have b1 : ¬ (k : Int) < k := by omega
      go_wp2
      go_ret2
      exact ⟨_, _, rfl, own_base hv (by omega), own_base hw (by omega), hB0.trans (hb.mono hB0.size)⟩
end Go.Proofs.YticpdepbgcagaaaGreat

/- The chapter's examples. -/
import Derived.Test.YtilcijknkneicaaKit4
namespace Go.Proofs.Ytilcijknkneicaa
open Go.RowKit Go.Qc
set_option maxRecDepth 100000 in
theorem sumB_nil : (sumB []).take 4 = [0xe3, 0xb0, 0xc4, 0x42] := by decide +kernel
set_option maxRecDepth 100000 in
theorem sumB_abc : (sumB [97, 98, 99]).take 4 = [0xba, 0x78, 0x16, 0xbf] := by decide +kernel

theorem ne_ab : idVals (sumB []) ≠ idVals (sumB [97, 98, 99]) := by
  intro h
  have h2 : (sumB []).map u8v = (sumB [97, 98, 99]).map u8v := by
    have := congrArg Array.toList h
    simpa [idVals] using this
  have h3 := congrArg (List.take 1) h2
  rw [← List.map_take, ← List.map_take, show (sumB []).take 1 = [0xe3] by rw [show (1 : Nat) = min 1 4 from rfl, ← List.take_take, sumB_nil]; rfl, show (sumB [97, 98, 99]).take 1 = [0xba] by rw [show (1 : Nat) = min 1 4 from rfl, ← List.take_take, sumB_abc]; rfl] at h3
  simp [u8v, ib] at h3
set_option maxRecDepth 100000 in
set_option maxHeartbeats 1000000 in
theorem awake2_any (w : World) :
    Calls Try.prog 23 #[] w fun e w' => e = .returned (.bool true) ∧ Below w.heap.size w w' := by
  obtain ⟨A, hA⟩ : ∃ A, A = sumB [] := ⟨_, rfl⟩
  obtain ⟨B, hB⟩ : ∃ B, B = sumB [97, 98, 99] := ⟨_, rfl⟩
  have s1 : ∀ W : World, Calls Try.prog 24 #[.string ⟨#[]⟩] W fun e w' => e = .returned (.agg (idVals A)) ∧ Below W.heap.size W w' := fun W => by rw [hA]; exact sum_any [] (by decide) W
  have s2 : ∀ W : World, Calls Try.prog 24 #[.string ⟨#[97, 98, 99]⟩] W fun e w' => e = .returned (.agg (idVals B)) ∧ Below W.heap.size W w' := fun W => by rw [hB]; exact sum_any [97, 98, 99] (by decide) W
  have hA4 : A.take 4 = [0xe3, 0xb0, 0xc4, 0x42] := by rw [hA]; exact sumB_nil
  have hB4 : B.take 4 = [0xba, 0x78, 0x16, 0xbf] := by rw [hB]; exact sumB_abc
  have hne : idVals A ≠ idVals B := by rw [hA, hB]; exact ne_ab
  have hAl : A.length = 32 := by rw [hA]; exact sumB_length _
  have hBl : B.length = 32 := by rw [hB]; exact sumB_length _
  clear hA hB
  have HS1 := hid s1
  have HS2 := hid s2
  have HA4 := hid hA4
  have HB4 := hid hB4
  have HNE := hid hne
  have HAL := hid hAl
  have HBL := hid hBl
  clear s1 s2 hA4 hB4 hne hAl hBl
  go_enter Try.func23, Try.ntmps23
  go_wp2_with (first
    | (go_at_call 24; (first | (with_reducible refine (HS1.out _).mono ?_) | (with_reducible refine (HS2.out _).mono ?_)); rintro e1 w1 ⟨rfl, hb1⟩)
    | (with_reducible refine wpList_store_blk rfl 44 _ _ rfl _ _ (idVals A) 44 (Blk.alloc (Blk.new _ _ _) _) rfl rfl ?c2 ?c3 (idVals_one _) ?_))
  case c2 => rw [idVals_size, HAL.out]; exact sizeId
  case c3 => rw [idVals_size, HAL.out]; rfl
  intro w2 hA2 hg2
  have hN := Blk.new (w1.alloc (.cells #[.int .u8 0, .int .u8 0, .int .u8 0, .int .u8 0, .int .u8 0, .int .u8 0, .int .u8 0, .int .u8 0, .int .u8 0, .int .u8 0, .int .u8 0, .int .u8 0, .int .u8 0, .int .u8 0, .int .u8 0, .int .u8 0, .int .u8 0, .int .u8 0, .int .u8 0, .int .u8 0, .int .u8 0, .int .u8 0, .int .u8 0, .int .u8 0, .int .u8 0, .int .u8 0, .int .u8 0, .int .u8 0, .int .u8 0, .int .u8 0, .int .u8 0, .int .u8 0] 44)) 44 #[.int .u8 0, .int .u8 0, .int .u8 0, .int .u8 0, .int .u8 0, .int .u8 0, .int .u8 0, .int .u8 0, .int .u8 0, .int .u8 0, .int .u8 0, .int .u8 0, .int .u8 0, .int .u8 0, .int .u8 0, .int .u8 0, .int .u8 0, .int .u8 0, .int .u8 0, .int .u8 0, .int .u8 0, .int .u8 0, .int .u8 0, .int .u8 0, .int .u8 0, .int .u8 0, .int .u8 0, .int .u8 0, .int .u8 0, .int .u8 0, .int .u8 0, .int .u8 0]
  generalize hZ : (#[.int .u8 0, .int .u8 0, .int .u8 0, .int .u8 0, .int .u8 0, .int .u8 0, .int .u8 0, .int .u8 0, .int .u8 0, .int .u8 0, .int .u8 0, .int .u8 0, .int .u8 0, .int .u8 0, .int .u8 0, .int .u8 0, .int .u8 0, .int .u8 0, .int .u8 0, .int .u8 0, .int .u8 0, .int .u8 0, .int .u8 0, .int .u8 0, .int .u8 0, .int .u8 0, .int .u8 0, .int .u8 0, .int .u8 0, .int .u8 0, .int .u8 0, .int .u8 0] : Array Value) = Z at *
  have hzs : Z.size = 32 := by rw [← hZ]; rfl
  have ek : (w1.alloc (.cells Z 44)).heap.size = w1.heap.size + 1 := by simp
  rw [ek] at hN
  have hN2 := blk_gb hN hg2 (by omega)
  have hB : Below w1.heap.size w1 w2 := (((Below.refl _ w1).alloc (Nat.le_refl _) (.cells Z 44)).alloc (by simp) (.cells Z 44)).grown hg2 (by simp; omega) (fun i e => by have := Option.some.inj e; omega)
  have hBw : Below w.heap.size w w1 := (‹Below w.heap.size w _›).trans (hb1.mono (‹Below w.heap.size w _›).size)
  have hBt := hBw.trans (hB.mono hBw.size)
  have hwk := hBw.size
  clear hZ hN hg2 ek hb1 hB hBw
  have HZ := hid hzs
  clear hzs
  generalize w1.heap.size = k at *
  go_wp2_with (with_reducible refine wpList_store_blk rfl 44 _ _ rfl _ _ (idVals B) 44 hN2 rfl rfl ?c2 ?c3 (idVals_one _) ?_)
  case c2 => rw [idVals_size, HBL.out]; exact sizeId
  case c3 => rw [idVals_size, HBL.out]; exact HZ.out
  intro w3 hB3 hg3
  have hA3 := blk_gb hA2 hg3 (by omega)
  clear hA2 hN2
  have hB3' := hBt.grown hg3 hBt.size (fun i e => by have := Option.some.inj e; omega)
  obtain ⟨i0, hi, hz0, hz1, hz2⟩ := info_parts infoByte
  have hs1 := run_slice_hi (P := Try.prog) w3 44 5 k 0 32 4 i0 Try.underlying44 hi hz1 (by decide) .i64
  have hs2 := run_slice_hi (P := Try.prog) w3 44 5 (k + 1) 0 32 4 i0 Try.underlying44 hi hz1 (by decide) .i64
  rw [show ((4 : Nat) : Int) = 4 from rfl] at hs1 hs2
  have hc1 := run_txt (P := Try.prog) w3 54 9 5 (some ⟨k, 0, none⟩) 4 32 (A.take 4) Try.underlying54 Try.underlying5 Try.underlying9 (by rw [HA4.out]; rfl) (Rd.blk hA3 fun j u hu => by
    rw [List.map_take, List.getElem?_take] at hu
    split at hu
    · unfold idVals; rw [List.getElem?_toArray]; exact hu
    · cases hu)
  have hc2 := run_txt (P := Try.prog) w3 54 9 5 (some ⟨k + 1, 0, none⟩) 4 32 (B.take 4) Try.underlying54 Try.underlying5 Try.underlying9 (by rw [HB4.out]; rfl) (Rd.blk hB3 fun j u hu => by
    rw [List.map_take, List.getElem?_take] at hu
    split at hu
    · unfold idVals; rw [List.getElem?_toArray]; exact hu
    · cases hu)
  rw [HA4.out] at hc1
  rw [HB4.out] at hc2
  have heq := ids_eq w3 A B HAL.out HBL.out
  rw [show decide (A = B) = false from decide_eq_false (fun h => HNE.out (by rw [h]))] at heq
  have tl1 : (txt [227, 176, 196, 66]).toList = [227, 176, 196, 66] := by decide +kernel
  have tl2 : (txt [186, 120, 22, 191]).toList = [186, 120, 22, 191] := by decide +kernel
  clear hi hz0 hz1 hz2 hg3 hBt
  go_wp2_with (first
    | (with_reducible refine wpList_load_blk rfl 44 _ rfl k (idVals A) 44 hA3 rfl _ Try.underlying44 rfl ?c1 ?_)
    | (with_reducible refine wpList_load_blk rfl 44 _ rfl (k + 1) (idVals B) 44 hB3 rfl _ Try.underlying44 rfl ?c2 ?_))
  case c1 => rw [idVals_size, HAL.out]; exact sizeId
  case c2 => rw [idVals_size, HBL.out]; exact sizeId
  go_ret
  exact ⟨rfl, hB3'⟩
end Go.Proofs.Ytilcijknkneicaa


/- The contract of padding. -/
import Derived.Test.YticpdepbgcagaaaGreatSha5
import Derived.Test.YticpdepbgcagaaaGreatNums
namespace Go.Proofs.YticpdepbgcagaaaGreat
open Go.RowKit Go.Qc
attribute [local go_sem] txt_size txt_extract

def z128 : Array Value := (List.replicate 128 (Value.int .u8 0)).toArray
theorem z128_info : (Tryz.prog.info? 159).map (fun i => (i.zero, i.size)) = some (some (.agg z128), 128) := by kernel_rfl
def p128 : Array Value := z128.setIfInBounds 0 (.int .u8 128)
theorem p128_get (j : Nat) (hj : j < 128) : p128[j]? = some (u8v (if j = 0 then 128 else 0)) := by
  unfold p128 z128
  rw [Array.getElem?_setIfInBounds]
  by_cases h : j = 0
  · subst h; simp [u8v, ib]
  · rw [if_neg (by omega), List.getElem?_toArray, List.getElem?_replicate, if_pos hj, if_neg h]; rfl

theorem pad_cells {n q : Nat} {cb : List UInt8} (hz : z128.size = 128) (hq : q = (119 - n % 64) % 64) (hc : cb = numB (BitVec.ofNat 64 (n * 8)) 8) (hl : cb.length = 8) (j : Nat) (u : Value) (hu : ((padB n).map u8v)[j]? = some u) :
    (over (z128.setIfInBounds 0 (.int .u8 128)) (1 + q) (cb.map u8v))[j]? = some u := by
  have hfit : 1 + q + (cb.map u8v).length ≤ (z128.setIfInBounds 0 (.int .u8 128)).size := by
    rw [List.length_map, Array.size_setIfInBounds, hz, hl]; omega
  have e : padB n = (128 :: List.replicate q 0) ++ cb := by unfold padB; rw [← hq, ← hc]
  rw [List.getElem?_map] at hu
  obtain ⟨x, hx, rfl⟩ := Option.map_eq_some_iff.1 hu
  rw [e] at hx
  have hlt : j < ((128 :: List.replicate q 0) ++ cb : List UInt8).length := (List.getElem?_eq_some_iff.1 hx).1
  rw [List.length_append, List.length_cons, List.length_replicate, hl] at hlt
  rw [over_get _ _ _ hfit]
  by_cases hj : j < 1 + q
  · rw [if_pos hj]
    rw [List.getElem?_append_left (by rw [List.length_cons, List.length_replicate]; omega)] at hx
    have hp : (z128.setIfInBounds 0 (.int .u8 128))[j]? = _ := p128_get j (by omega)
    rw [hp]
    clear hp
    match j with
    | 0 => simp at hx; subst hx; rfl
    | j + 1 =>
      rw [List.getElem?_cons_succ, List.getElem?_replicate, if_pos (by omega)] at hx
      obtain rfl := Option.some.inj hx; rfl
  · rw [List.getElem?_append_right (by rw [List.length_cons, List.length_replicate]; omega), List.length_cons, List.length_replicate] at hx
    rw [if_neg hj, if_pos (by rw [List.length_map, hl]; omega), List.getElem?_map, show j - (1 + q) = j - (q + 1) by omega, hx]; rfl

theorem number8 (v : BitVec 64) (z : Int) (hz : z = lv v) (cb : List UInt8) (hc : cb = numB v 8) (w : World) :
    Calls Tryz.prog 59 #[.int .u64 z, .int .i64 8] w fun e w' => e = .returned (.tuple #[.string (txt cb), .bool true]) ∧ Below w.heap.size w w' := by
  subst hz
  subst hc
  have h := number_any v 8 (by omega) (by
    apply BitVec.eq_of_toNat_eq
    rw [BitVec.toNat_ushiftRight, Nat.shiftRight_eq_div_pow, Nat.div_eq_of_lt v.isLt]; rfl) w
  exact h

set_option maxRecDepth 100000 in
set_option maxHeartbeats 1000000 in
theorem padding_any (n : Nat) (hn : n ≤ 4000000000000) (w : World) :
    Calls Tryz.prog 102 #[.int .i64 n] w fun e w' => e = .returned (.string (txt (padB n))) ∧ Below w.heap.size w w' := by
  have hz := (zero_of_info z128_info).1
  have hsz : z128.size = 128 := rfl
  obtain ⟨q, hq⟩ : ∃ q, q = (119 - n % 64) % 64 := ⟨_, rfl⟩
  have ez : (119 - (n : Int) % 64) % 64 = (q : Int) := by omega
  have ht : (119 - (n : Int) % 64).tmod 64 = (q : Int) := by rw [Int.tmod_eq_emod_of_nonneg (by omega)]; exact ez
  have hv : (n : Int) * 8 = lv (BitVec.ofNat 64 (n * 8)) := by
    unfold lv; rw [BitVec.toNat_ofNat]; omega
  obtain ⟨cb, hcb⟩ : ∃ cb, cb = numB (BitVec.ofNat 64 (n * 8)) 8 := ⟨_, rfl⟩
  have hl8 : cb.length = 8 := by rw [hcb]; exact numB_length _ _
  have HV := hid hv
  have HQ := hid hq
  have HC := hid hcb
  have q64 : q < 64 := by omega
  obtain ⟨z1, hz1q⟩ : ∃ z1, z1 = 1 + q := ⟨_, rfl⟩
  have ez1 : 1 + (q : Int) = (z1 : Int) := by omega
  have ez2 : (z1 : Int) + 8 = ((z1 + 8 : Nat) : Int) := by omega
  obtain ⟨z2, hz2q⟩ : ∃ z2, z2 = z1 + 8 := ⟨_, rfl⟩
  rw [← hz2q] at ez2
  have hz2b : z2 ≤ 72 := by omega
  have HZ1 := hid hz1q
  have HZ2 := hid hz2q
  have hz1b : z1 ≤ 64 := by omega
  clear hz1q hz2q
  have psz : (Tryz.prog.info? 159).map (·.size) = some (z128.setIfInBounds 0 (.int .u8 128)).size := by rw [Array.size_setIfInBounds, hsz]; exact (zero_of_info z128_info).2
  have PSZ := hid psz
  have HSZ := hid hsz
  clear hv hq hcb psz
  obtain ⟨i0, hi, hz0, hz1, hz2⟩ := info_parts infoByte
  have hsl : ∀ (W : World) (g : Nat), (Instr.sliceAt 159 (.pointer (some ⟨g, 0, none⟩)) (some (.int .i64 (z1 : Int))) none none).run Tryz.prog W = .ok (.slice (some ⟨g, z1, none⟩) (128 - z1) (128 - z1)) W := by
    intro W g
    have h := run_slice_off (P := Tryz.prog) W 159 5 g 0 128 z1 i0 Tryz.underlying159 hi hz1 (by omega) .i64
    rw [if_neg (by omega), Nat.zero_add] at h
    exact h
  have hsh : ∀ (W : World) (g : Nat), (Instr.sliceAt 159 (.pointer (some ⟨g, 0, none⟩)) none (some (.int .i64 (z2 : Int))) none).run Tryz.prog W = .ok (.slice (some ⟨g, 0, none⟩) z2 128) W :=
    fun W g => run_slice_hi (P := Tryz.prog) W 159 5 g 0 128 z2 i0 Tryz.underlying159 hi hz1 (by omega) .i64
  clear hi hz0 hz1 hz2
  go_enter Tryz.func102, Tryz.ntmps102
  go_wp2_with (first
    | (go_at_call 59; (with_reducible refine (number8 (BitVec.ofNat 64 (n * 8)) _ HV.out cb HC.out _).mono ?_); rintro e w1 ⟨rfl, hb1⟩)
    | (with_reducible refine wpList_store_new rfl 159 _ _ rfl (z128.setIfInBounds 0 (.int .u8 128)) rfl rfl PSZ.out ?c2 ?c3 ?_)
    | (with_reducible refine wpList_copy_txt rfl _ _ 97 9 rfl 5 Tryz.underlying97 sizeB _ z1 (128 - z1) (128 - z1) cb rfl rfl _ 159 (Blk.new _ _ _) 8 ?c4 ?c5 ?_))
  case c2 => simp
  case c3 => decide +kernel
  case c4 => rw [hl8]; exact (Nat.min_eq_left (by omega)).symm
  case c5 => simp [HSZ.out]; omega
  have hB : Below w.heap.size w (w1.alloc (.cells (z128.setIfInBounds 0 (.int .u8 128)) 159)) := hb1.alloc hb1.size _
  have hk := hb1.size
  clear hb1
  generalize w1.alloc (.cells (z128.setIfInBounds 0 (.int .u8 128)) 159) = w2 at *
  generalize w1.heap.size = k at *
  intro w3 hb3 hg3
  rw [List.take_of_length_le (l := cb.map u8v) (by rw [List.length_map, hl8]; exact Nat.le_refl _)] at hb3
  have hB3 : Below w.heap.size w w3 := hB.grown hg3 hB.size (by intro i e; cases e; exact hk)
  have hpl : (padB n).length = z2 := by rw [padB_length, ← HQ.out, HZ2.out, HZ1.out]; omega
  have hrd : Rd w3 (some ⟨k, 0, none⟩) ((padB n).map u8v) := Rd.blk hb3 (fun j u hu => by rw [HZ1.out]; exact pad_cells HSZ.out HQ.out HC.out hl8 j u hu)
  have hconv := run_txt (P := Tryz.prog) w3 97 9 5 (some ⟨k, 0, none⟩) z2 128 _ Tryz.underlying97 Tryz.underlying5 Tryz.underlying9 hpl.symm hrd
  clear hB hg3 hrd hpl
  go_wp2
  go_ret
  exact ⟨rfl, hB3⟩
end Go.Proofs.YticpdepbgcagaaaGreat

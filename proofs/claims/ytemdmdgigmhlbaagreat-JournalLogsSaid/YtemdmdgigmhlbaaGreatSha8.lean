/- The contract of padding. -/
import Derived.Test.YtemdmdgigmhlbaaGreatSha5
import Derived.Test.YtemdmdgigmhlbaaGreatTag1
namespace Go.Proofs.YtemdmdgigmhlbaaGreat
open Go.RowKit Go.Qc
attribute [local go_sem] txt_size txt_extract

def z128 : Array Value := (List.replicate 128 (Value.int .u8 0)).toArray
theorem z128_info : (Tryz.prog.info? 158).map (fun i => (i.zero, i.size)) = some (some (.agg z128), 128) := by kernel_rfl
def p128 : Array Value := z128.setIfInBounds 0 (.int .u8 128)
theorem p128_get (j : Nat) (hj : j < 128) : p128[j]? = some (u8v (if j = 0 then 128 else 0)) := by
  unfold p128 z128
  rw [Array.getElem?_setIfInBounds]
  by_cases h : j = 0
  · subst h; simp [u8v, ib]
  · rw [if_neg (by omega), List.getElem?_toArray, List.getElem?_replicate, if_pos hj, if_neg h]; rfl

theorem pad_cells {n q : Nat} {cb : List UInt8} (hz : z128.size = 128) (hq : q = (119 - n % 64) % 64) (hc : cb = numB (BitVec.ofNat 64 (n * 8)) 8) (hl : cb.length = 8) (j : Nat) (u : Value) (hu : ((padB n).map u8v)[j]? = some u) :
    (over (z128.setIfInBounds 0 (.int .u8 128)) (1 + q) (cb.map u8v))[j]? = some u := by
  have hfit : 1 + q + (cb.map u8v).length ≤ (z128.setIfInBounds 0 (.int .u8 128)).size := by
    rw [List.length_map, Array.size_setIfInBounds, hz, hl]; omega
  have e : padB n = (128 :: List.replicate q 0) ++ cb := by unfold padB; rw [← hq, ← hc]
  rw [List.getElem?_map] at hu
  obtain ⟨x, hx, rfl⟩ := Option.map_eq_some_iff.1 hu
  rw [e] at hx
  have hlt : j < ((128 :: List.replicate q 0) ++ cb : List UInt8).length := (List.getElem?_eq_some_iff.1 hx).1
  rw [List.length_append, List.length_cons, List.length_replicate, hl] at hlt
  rw [over_get _ _ _ hfit]
  by_cases hj : j < 1 + q
  · rw [if_pos hj]
    rw [List.getElem?_append_left (by rw [List.length_cons, List.length_replicate]; omega)] at hx
    have hp : (z128.setIfInBounds 0 (.int .u8 128))[j]? = _ := p128_get j (by omega)
    rw [hp]
    clear hp
    match j with
    | 0 => simp at hx; subst hx; rfl
    | j + 1 =>
      rw [List.getElem?_cons_succ, List.getElem?_replicate, if_pos (by omega)] at hx
      obtain rfl := Option.some.inj hx; rfl
  · rw [List.getElem?_append_right (by rw [List.length_cons, List.length_replicate]; omega), List.length_cons, List.length_replicate] at hx
    rw [if_neg hj, if_pos (by rw [List.length_map, hl]; omega), List.getElem?_map, show j - (1 + q) = j - (q + 1) by omega, hx]; rfl

theorem number8 (v : BitVec 64) (z : Int) (hz : z = lv v) (cb : List UInt8) (hc : cb = numB v 8) (w : World) :
    Calls Tryz.prog 76 #[.int .u64 z, .int .i64 8] w fun e w' => e = .returned (.tuple #[.string (txt cb), .bool true]) ∧ Below w.heap.size w w' := by
  subst hz
  subst hc
  have h := number_any v 8 (by omega) (by
    apply BitVec.eq_of_toNat_eq
    rw [BitVec.toNat_ushiftRight, Nat.shiftRight_eq_div_pow, Nat.div_eq_of_lt v.isLt]; rfl) w
  exact h

set_option maxRecDepth 100000 in
set_option maxHeartbeats 1000000 in
theorem padding_any (n : Nat) (hn : n ≤ 4000000000000) (w : World) :
    Calls Tryz.prog 94 #[.int .i64 n] w fun e w' => e = .returned (.string (txt (padB n))) ∧ Below w.heap.size w w' := by
  have hz := (zero_of_info z128_info).1
  have hsz : z128.size = 128 := rfl
  obtain ⟨q, hq⟩ : ∃ q, q = (119 - n % 64) % 64 := ⟨_, rfl⟩
  have ez : (119 - (n : Int) % 64) % 64 = (q : Int) := by omega
  have ht : (119 - (n : Int) % 64).tmod 64 = (q : Int) := by rw [Int.tmod_eq_emod_of_nonneg (by omega)]; exact ez
  have hv : (n : Int) * 8 = lv (BitVec.ofNat 64 (n * 8)) := by
    unfold lv; rw [BitVec.toNat_ofNat]; omega
  obtain ⟨cb, hcb⟩ : ∃ cb, cb = numB (BitVec.ofNat 64 (n * 8)) 8 := ⟨_, rfl⟩
  have hl8 : cb.length = 8 := by rw [hcb]; exact numB_length _ _
  have HV := hid hv
  have HQ := hid hq
  have HC := hid hcb
  have q64 : q < 64 := by omega
  obtain ⟨z1, hz1q⟩ : ∃ z1, z1 = 1 + q := ⟨_, rfl⟩
  have ez1 : 1 + (q : Int) = (z1 : Int) := by omega
  have ez2 : (z1 : Int) + 8 = ((z1 + 8 : Nat) : Int) := by omega
  obtain ⟨z2, hz2q⟩ : ∃ z2, z2 = z1 + 8 := ⟨_, rfl⟩
  rw [← hz2q] at ez2
  have hz2b : z2 ≤ 72 := by omega
  have HZ1 := hid hz1q
  have HZ2 := hid hz2q
  have hz1b : z1 ≤ 64 := by omega
  clear hz1q hz2q
  have psz : (Tryz.prog.info? 158).map (·.size) = some (z128.setIfInBounds 0 (.int .u8 128)).size := by rw [Array.size_setIfInBounds, hsz]; exact (zero_of_info z128_info).2
  have PSZ := hid psz
  have HSZ := hid hsz
  clear hv hq hcb psz
  obtain ⟨i0, hi, hz0, hz1, hz2⟩ := info_parts infoByte
  have hsl : ∀ (W : World) (g : Nat), (Instr.sliceAt 158 (.pointer (some ⟨g, 0, none⟩)) (some (.int .i64 (z1 : Int))) none none).run Tryz.prog W = .ok (.slice (some ⟨g, z1, none⟩) (128 - z1) (128 - z1)) W := by
    intro W g
    have h := run_slice_off (P := Tryz.prog) W 158 5 g 0 128 z1 i0 Tryz.underlying158 hi hz1 (by omega) .i64
    rw [if_neg (by omega), Nat.zero_add] at h
    exact h
  have hsh : ∀ (W : World) (g : Nat), (Instr.sliceAt 158 (.pointer (some ⟨g, 0, none⟩)) none (some (.int .i64 (z2 : Int))) none).run Tryz.prog W = .ok (.slice (some ⟨g, 0, none⟩) z2 128) W :=
    fun W g => run_slice_hi (P := Tryz.prog) W 158 5 g 0 128 z2 i0 Tryz.underlying158 hi hz1 (by omega) .i64
  clear hi hz0 hz1 hz2
  go_enter Tryz.func94, Tryz.ntmps94
  go_wp2_with (first
    | (go_at_call 76; (with_reducible refine (number8 (BitVec.ofNat 64 (n * 8)) _ HV.out cb HC.out _).mono ?_); rintro e w1 ⟨rfl, hb1⟩)
    | (with_reducible refine wpList_store_new rfl 158 _ _ rfl (z128.setIfInBounds 0 (.int .u8 128)) rfl rfl PSZ.out ?c2 ?c3 ?_)
    | (with_reducible refine wpList_copy_txt rfl _ _ 56 9 rfl 5 Tryz.underlying56 sizeB _ z1 (128 - z1) (128 - z1) cb rfl rfl _ 158 (Blk.new _ _ _) 8 ?c4 ?c5 ?_))
  case c2 => simp
  case c3 => decide +kernel
  case c4 => rw [hl8]; exact (Nat.min_eq_left (by omega)).symm
  case c5 => simp [HSZ.out]; omega
  have hB : Below w.heap.size w (w1.alloc (.cells (z128.setIfInBounds 0 (.int .u8 128)) 158)) := hb1.alloc hb1.size _
  have hk := hb1.size
  clear hb1
  generalize w1.alloc (.cells (z128.setIfInBounds 0 (.int .u8 128)) 158) = w2 at *
  generalize w1.heap.size = k at *
  intro w3 hb3 hg3
  rw [List.take_of_length_le (l := cb.map u8v) (by rw [List.length_map, hl8]; exact Nat.le_refl _)] at hb3
  have hB3 : Below w.heap.size w w3 := hB.grown hg3 hB.size (by intro i e; cases e; exact hk)
  have hpl : (padB n).length = z2 := by rw [padB_length, ← HQ.out, HZ2.out, HZ1.out]; omega
  have hrd : Rd w3 (some ⟨k, 0, none⟩) ((padB n).map u8v) := Rd.blk hb3 (fun j u hu => by rw [HZ1.out]; exact pad_cells HSZ.out HQ.out HC.out hl8 j u hu)
  have hconv := run_txt (P := Tryz.prog) w3 56 9 5 (some ⟨k, 0, none⟩) z2 128 _ Tryz.underlying56 Tryz.underlying5 Tryz.underlying9 hpl.symm hrd
  clear hB hg3 hrd hpl
  go_wp2
  go_ret
  exact ⟨rfl, hB3⟩
end Go.Proofs.YtemdmdgigmhlbaaGreat
/- The contracts of a Hash's Sum, and of package sha's Sum. -/
namespace Go.Proofs.YtemdmdgigmhlbaaGreat
open Go.RowKit Go.Qc
attribute [local go_sem] txt_size txt_extract

theorem sizeH : (Tryz.prog.info? 147).map (·.size) = some 73 := (zero_of_info zeroH_info).2
theorem sizeId : (Tryz.prog.info? 42).map (·.size) = some 32 := by kernel_rfl
/-- Thirty-two bytes as the machine has them. -/
def idVals (b : List UInt8) : Array Value := (b.map u8v).toArray
theorem idVals_size (b : List UInt8) : (idVals b).size = b.length := by simp [idVals]
theorem idVals_one (b : List UInt8) : (idVals b).all (·.oneCell') = true := by
  unfold idVals
  rw [← Array.all_toList]
  simp only [List.all_eq_true]
  exact u8v_one b
theorem over_all (cur : Array Value) (b : List UInt8) (h : cur.size = b.length) : over cur 0 (b.map u8v) = idVals b := by
  unfold over idVals
  rw [List.take_zero, List.nil_append, List.drop_of_length_le (by rw [List.length_map, Nat.zero_add, ← h]; simp), List.append_nil]

theorem st_rd {w : World} {g : Nat} {t : TypeId} {cs : Array Value} {st : S8} (hb : Blk w g t cs) (h : ∀ j, j < 8 → cs[j]? = st.vals[j]?) : Rd w (some ⟨g, 0, none⟩) (st.list.map u32v) := by
  refine Rd.blk hb fun j u hu => ?_
  have hj : j < (st.list.map u32v).length := (List.getElem?_eq_some_iff.1 hu).1
  rw [List.length_map] at hj
  rw [h j hj, ← hu]
  match j, hj with
  | 0, _ => rfl
  | 1, _ => rfl
  | 2, _ => rfl
  | 3, _ => rfl
  | 4, _ => rfl
  | 5, _ => rfl
  | 6, _ => rfl
  | 7, _ => rfl
theorem bytes_st (st : S8) (sb : List UInt8) (hs : sb = wordsB st.list) (A : Option Addr) (w : World) (hr : Rd w A (st.list.map u32v)) :
    Calls Tryz.prog 95 #[.slice A 8 8] w fun e w' => e = .returned (.string (txt sb)) ∧ Below w.heap.size w w' := by
  subst hs
  exact bytes_any A 8 8 st.list rfl (by decide) w hr

set_option maxRecDepth 100000 in
set_option maxHeartbeats 1000000 in
theorem hsum_any (w : World) (g : Nat) (cs : Array Value) (l : List UInt8) (hb : Blk w g 147 cs) (hp : HPart cs l l.length) (hl : l.length ≤ 1000000000000) :
    Calls Tryz.prog 80 #[.pointer (some ⟨g, 0, none⟩)] w fun e w' => e = .returned (.agg (idVals (sumB l))) ∧ Below w.heap.size w w' := by
  have hz := (zero_of_info zeroH_info).1
  have hcnt := hb.cell_ hp.count
  have hlt := hb.lt
  have HP := hid hp
  clear hp
  go_enter Tryz.func80, Tryz.ntmps80
  go_wp2_with (first
    | (go_at_call 94; (with_reducible refine (padding_any l.length (by omega) _).mono ?_); rintro e1 w1 ⟨rfl, hb1⟩)
    | (with_reducible refine wpList_load_blk rfl 147 _ rfl g cs 147 (Blk.alloc hb _) rfl _ Tryz.underlying147 rfl ?c1 ?_)
    | (with_reducible refine wpList_store_newk rfl 147 _ _ rfl cs (w.heap.size + 1) rfl rfl ?c0 ?c2 ?c3 HP.out.one ?_))
  case c0 => simp
  case c1 => rw [HP.out.size]; exact sizeH
  case c2 => rw [HP.out.size]; exact sizeH
  case c3 => rw [HP.out.size]; rfl
  generalize hZ : (Obj.cells _ 42) = Z at hb1
  obtain ⟨zc, rfl, hzc⟩ : ∃ zc : Array Value, Z = Obj.cells zc 42 ∧ zc.size = 32 := ⟨_, hZ.symm, rfl⟩
  clear hZ hcnt
  have hL : Blk w1 (w.heap.size + 1) 147 cs := by
    have := (Blk.new (w.alloc (Obj.cells zc 42)) 147 cs).below hb1
    simpa using this
  have hR : Blk w1 w.heap.size 42 zc := ((Blk.new w 42 zc).alloc _).below hb1
  have hB1 : Below w.heap.size w w1 := (((Below.refl _ _).alloc (Nat.le_refl _) _).alloc (by simp) _).trans (hb1.mono (by simp; omega))
  clear hb1 hb hlt
  refine (write_go w1 (w.heap.size + 1) cs l (padB l.length) hL HP.out hl (by rw [padB_length]; omega)).mono ?_
  rintro e2 w2 ⟨rfl, cs2, hL2, hp2, hg2⟩
  have hR2 := blk_gb hR hg2 (by omega)
  have hB2 : Below w.heap.size w w2 := hB1.grown hg2 hB1.size (by intro i e; cases e; omega)
  have hlt2 : w.heap.size + 1 < w2.heap.size := hL2.lt
  obtain ⟨st, hst⟩ : ∃ st, st = sumS l := ⟨_, rfl⟩
  have hstt : ∀ j, j < 8 → cs2[j]? = st.vals[j]? := fun j hj => by rw [hst]; exact hp2.state j hj
  obtain ⟨sb, hsb⟩ : ∃ sb, sb = wordsB st.list := ⟨_, rfl⟩
  have hsbl : sb.length = 32 := by rw [hsb, wordsB_length]; rfl
  have hsum : sb = sumB l := by rw [hsb, hst]; rfl
  have HSB := hid hsb
  have HSL := hid hsbl
  have HSUM := hid hsum
  have HSTT := hid hstt
  clear hL hR hB1 hg2 hp2 hst hsb hsbl hsum hstt
  go_wp2
  generalize hZ : (Obj.cells _ 42) = Z
  obtain ⟨z4, rfl, hz4⟩ : ∃ z4 : Array Value, Z = Obj.cells z4 42 ∧ z4.size = 32 := ⟨_, hZ.symm, rfl⟩
  clear hZ
  have hI := Blk.new w2 42 z4
  have hL3 := hL2.alloc (.cells z4 42)
  have hR3 := hR2.alloc (.cells z4 42)
  have hB3 := hB2.alloc hB2.size (.cells z4 42)
  have HZ4 := hid hz4
  have HZC := hid hzc
  clear hL2 hR2 hB2 hz4 hzc
  generalize w2.alloc (.cells z4 42) = w3 at *
  generalize w2.heap.size = k at *
  go_region_law (first
    | (refine step_copy_txt (by rfl) _ _ 56 9 (by rfl) 5 Tryz.underlying56 sizeB k 0 32 32 sb (by rfl) (by rfl) z4 42 (Blk.below (by exact hI) hb5) 32 (by rw [HSL.out]; rfl) (by rw [HZ4.out]; decide) ?_; intro w6 hb6 hg6)
    | (go_simp; go_at_call 95; refine (bytes_st st sb HSB.out _ _ (st_rd (by exact hL3) HSTT.out)).mono ?_; rintro e5 w5 ⟨rfl, hb5⟩))
  all_goals
    rw [List.take_of_length_le (by rw [HSL.out]; exact Nat.le_refl _), over_all _ _ (by rw [HZ4.out, HSL.out])] at hb6
    have hd : Below w3.heap.size w3 w5 := ⟨hb5.os, hb5.tape, hb5.output, hb5.size, hb5.block⟩
    have hR6 : Blk w6 w.heap.size 42 zc := blk_gb (hR3.below hd) hg6 (by omega)
    have hB5 := hB3.trans (hd.mono hB3.size)
    have hB6 : Below w.heap.size w w6 := hB5.grown hg6 hB5.size (by intro i e; cases e; omega)
    clear hL3 hR3 hB3 hI hb5 hg6 hd hB5
    go_wp2_with (first
      | (with_reducible refine wpList_load_blk rfl 42 _ rfl k (idVals sb) 42 hb6 rfl _ Tryz.underlying42 rfl ?c1 ?_)
      | (with_reducible refine wpList_store_blk rfl 42 _ _ rfl w.heap.size zc (idVals sb) 42 hR6 rfl rfl ?c2 ?c3 (idVals_one _) ?_))
    case c1 => rw [idVals_size, HSL.out]; exact sizeId
    case c2 => rw [idVals_size, HSL.out]; exact sizeId
    case c3 => rw [idVals_size, HSL.out]; exact HZC.out
    intro w7 hb7 hg7
    go_wp2
    refine bodyPost_ret (results_cell_row rfl _ _ _ _ _ _ _ rfl hb7 Tryz.underlying42 rfl (by rw [idVals_size, HSL.out]; exact sizeId)) rfl ⟨?_, ?_⟩
    · rw [HSUM.out]
    · exact hB6.grown hg7 hB6.size (by intro i e; cases e; exact Nat.le_refl _)

set_option maxRecDepth 100000 in
set_option maxHeartbeats 1000000 in
theorem sum_any (l : List UInt8) (hl : l.length ≤ 1000000000000) (w : World) :
    Calls Tryz.prog 59 #[.string (txt l)] w fun e w' => e = .returned (.agg (idVals (sumB l))) ∧ Below w.heap.size w w' := by
  go_enter Tryz.func59, Tryz.ntmps59
  go_wp2_with (fail)
  generalize hZ : (Obj.cells _ 42) = Z
  obtain ⟨zc, rfl, hzc⟩ : ∃ zc : Array Value, Z = Obj.cells zc 42 ∧ zc.size = 32 := ⟨_, hZ.symm, rfl⟩
  clear hZ
  refine (new_any _).mono ?_
  rintro e1 w1 ⟨cs, rfl, hb1, hp1, hB1⟩
  have hR1 : Blk w1 w.heap.size 42 zc := (Blk.new w 42 zc).below hB1
  have hB : Below w.heap.size w w1 := ((Below.refl _ _).alloc (Nat.le_refl _) _).trans (hB1.mono (by simp))
  have ek : (w.alloc (.cells zc 42)).heap.size = w.heap.size + 1 := by simp
  rw [ek] at hb1 ⊢
  clear hB1
  have HZC := hid hzc
  clear hzc
  go_wp2_with (fail)
  refine (write_go w1 (w.heap.size + 1) cs [] l hb1 (by simpa using hp1) (by simp) hl).mono ?_
  rintro e2 w2 ⟨rfl, cs2, hb2, hp2, hg2⟩
  rw [List.nil_append] at hp2
  have hR2 := blk_gb hR1 hg2 (by omega)
  have hB2 : Below w.heap.size w w2 := hB.grown hg2 hB.size (by intro i e; cases e; omega)
  clear hb1 hp1 hR1 hB hg2 ek
  go_wp2_with (fail)
  refine (hsum_any w2 (w.heap.size + 1) cs2 l hb2 hp2 hl).mono ?_
  rintro e3 w3 ⟨rfl, hB3⟩
  have hR3 := hR2.below hB3
  have hB4 := hB2.trans (hB3.mono hB2.size)
  clear hb2 hp2 hR2 hB2 hB3
  have hsl : (sumB l).length = 32 := sumB_length l
  have HSL := hid hsl
  clear hsl
  go_wp2_with (with_reducible refine wpList_store_blk rfl 42 _ _ rfl w.heap.size zc (idVals (sumB l)) 42 hR3 rfl rfl ?c2 ?c3 (idVals_one _) ?_)
  case c2 => rw [idVals_size, HSL.out]; exact sizeId
  case c3 => rw [idVals_size, HSL.out]; exact HZC.out
  intro w7 hb7 hg7
  go_wp2
  refine bodyPost_ret (results_cell_row rfl _ _ _ _ _ _ _ rfl hb7 Tryz.underlying42 rfl (by rw [idVals_size, HSL.out]; exact sizeId)) rfl ⟨?_, ?_⟩
  · rfl
  · exact hB4.grown hg7 hB4.size (by intro i e; cases e; exact Nat.le_refl _)
end Go.Proofs.YtemdmdgigmhlbaaGreat
/- The contracts of the document's table and padding. -/
namespace Go.Proofs.YtemdmdgigmhlbaaGreat
open Go.RowKit Go.Qc

attribute [local go_sem] txt_size txt_append

set_option maxRecDepth 100000 in
set_option maxHeartbeats 400000 in
theorem known_any (w : World) :
    Calls Tryz.prog 81 #[] w fun e w' => ∃ g1 g2, e = .returned (.tuple #[.slice (some ⟨g1, 0, none⟩) 8 8, .slice (some ⟨g2, 0, none⟩) 64 64]) ∧ Rd w' (some ⟨g1, 0, none⟩) (h0.list.map u32v) ∧ Rd w' (some ⟨g2, 0, none⟩) (kList.map u32v) ∧ Below w.heap.size w w' := by
  go_enter Tryz.func81, Tryz.ntmps81
  go_wp2
  go_ret2
  refine ⟨_, _, rfl, ?_, ?_, ((Below.refl _ _).alloc (Nat.le_refl _) _).alloc (by simp) _⟩
  · exact Rd.blk (cs := (h0.list.map u32v).toArray) ((Blk.new w _ _).alloc _) (fun j u hu => by rw [List.getElem?_toArray]; exact hu)
  · have h := Blk.new (w.alloc (.cells #[.int .u32 1779033703, .int .u32 3144134277, .int .u32 1013904242, .int .u32 2773480762, .int .u32 1359893119, .int .u32 2600822924, .int .u32 528734635, .int .u32 1541459225] 143)) 143 (kList.map u32v).toArray
    rw [show (w.alloc (.cells #[.int .u32 1779033703, .int .u32 3144134277, .int .u32 1013904242, .int .u32 2773480762, .int .u32 1359893119, .int .u32 2600822924, .int .u32 528734635, .int .u32 1541459225] 143)).heap.size = w.heap.size + 1 by simp] at h
    exact Rd.blk h (fun j u hu => by rw [List.getElem?_toArray]; exact hu)

theorem rnumber8 (v : BitVec 64) (z : Int) (hz : z = lv v) (cb : List UInt8) (hc : cb = numB v 8) (w : World) :
    Calls Tryz.prog 85 #[.int .u64 z, .int .i64 8] w fun e w' => e = .returned (.tuple #[.string (txt cb), .bool true]) ∧ Below w.heap.size w w' := by
  subst hz
  subst hc
  exact rnumber_any v 8 (by omega) (by
    apply BitVec.eq_of_toNat_eq
    rw [BitVec.toNat_ushiftRight, Nat.shiftRight_eq_div_pow, Nat.div_eq_of_lt v.isLt]; rfl) w

theorem mk_txt1 (b : UInt8) : (⟨#[b]⟩ : ByteArray) = txt [b] := rfl

set_option maxHeartbeats 1000000 in
theorem padded_any (l : List UInt8) (hl : l.length ≤ 1000000000000) (w : World) :
    Calls Tryz.prog 82 #[.string (txt l)] w fun e w' => e = .returned (.string (txt (l ++ padB l.length))) ∧ Below w.heap.size w w' := by
  obtain ⟨q, hq⟩ : ∃ q, q = (119 - l.length % 64) % 64 := ⟨_, rfl⟩
  have hv : (l.length : Int) * 8 = lv (BitVec.ofNat 64 (l.length * 8)) := by
    unfold lv; rw [BitVec.toNat_ofNat]; omega
  obtain ⟨cb, hcb⟩ : ∃ cb, cb = numB (BitVec.ofNat 64 (l.length * 8)) 8 := ⟨_, rfl⟩
  have hl8 : cb.length = 8 := by rw [hcb]; exact numB_length _ _
  have e1 := mk_txt1 128
  have e0 := mk_txt1 0
  have hq64 : q ≤ 63 := by omega
  have HV := hid hv
  have HQ := hid hq
  have HC := hid hcb
  clear hv hq hcb
  have z1 : ¬ 9223372036854775807 < (txt l).size + (txt [128]).size := by rw [txt_size, txt_size]; simp; omega
  go_enter Tryz.func82, Tryz.ntmps82
  go_wp2
  go_loop [3] (fun v => ∃ k : Nat, ∃ o, k ≤ q ∧ v = .string (txt o) ∧ o = l ++ 128 :: List.replicate k 0) (fun v => l.length + 1 + q - (match v with | .string x => x.size | _ => 0))
  case atStart => exact ⟨0, _, by omega, rfl, rfl⟩
  case round =>
    obtain ⟨k, o, hk, rfl, ho⟩ := hrel
    have hol : o.length = l.length + 1 + k := by rw [ho]; simp; omega
    have z2 : ¬ 9223372036854775807 < (txt o).size + (txt [0]).size := by rw [txt_size, txt_size]; simp; omega
    by_cases hlt : k < q
    · have t1 : ((o.length : Int) % 64 == 56) = false := by
        have := HQ.out
        simp; omega
      have t2 : ((o.length : Int) % 64 != 56) = true := by
        have := HQ.out
        simp; omega
      have HO := hid ho
      have HOL := hid hol
      clear ho hol
      go_wp2
      go_round
      case rel => exact ⟨k + 1, _, by omega, rfl, by rw [HO.out, List.append_assoc, List.cons_append, ← List.replicate_succ']⟩
      case measure =>
        have := HOL.out
        show _ - (txt _).size < _ - (txt _).size
        rw [txt_size, txt_size, List.length_append]; simp; omega
    · obtain rfl : k = q := by omega
      have t1 : ((o.length : Int) % 64 == 56) = true := by
        have := HQ.out
        simp; omega
      have t2 : ((o.length : Int) % 64 != 56) = false := by
        have := HQ.out
        simp; omega
      have z3 : ¬ 9223372036854775807 < (txt o).size + (txt cb).size := by rw [txt_size, txt_size]; omega
      have HO := hid ho
      clear ho hol
      go_wp2_with (go_at_call 85; (with_reducible refine (rnumber8 (BitVec.ofNat 64 (l.length * 8)) _ HV.out cb HC.out _).mono ?_); rintro e1 w1 ⟨rfl, hb1⟩)
      go_ret
      refine ⟨?_, hb1⟩
      have e : l ++ padB l.length = o ++ cb := by
        unfold padB; rw [HO.out, ← HQ.out, ← HC.out, List.append_assoc]
      rw [e]
      rfl
end Go.Proofs.YtemdmdgigmhlbaaGreat

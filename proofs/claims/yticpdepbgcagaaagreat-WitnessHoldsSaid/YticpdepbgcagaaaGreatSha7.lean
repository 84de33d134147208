
/- The contracts of a Hash's Sum, and of package sha's Sum. -/
import Derived.Test.YticpdepbgcagaaaGreatSha6
namespace Go.Proofs.YticpdepbgcagaaaGreat
open Go.RowKit Go.Qc
attribute [local go_sem] txt_size txt_extract

theorem sizeH : (Tryz.prog.info? 149).map (·.size) = some 73 := (zero_of_info zeroH_info).2
theorem sizeId : (Tryz.prog.info? 24).map (·.size) = some 32 := by kernel_rfl
/-- Thirty-two bytes as the machine has them. -/
def idVals (b : List UInt8) : Array Value := (b.map u8v).toArray
theorem idVals_size (b : List UInt8) : (idVals b).size = b.length := by simp [idVals]
theorem idVals_one (b : List UInt8) : (idVals b).all (·.oneCell') = true := by
  unfold idVals
  rw [← Array.all_toList]
  simp only [List.all_eq_true]
  exact u8v_one b
theorem over_all (cur : Array Value) (b : List UInt8) (h : cur.size = b.length) : over cur 0 (b.map u8v) = idVals b := by
  unfold over idVals
  rw [List.take_zero, List.nil_append, List.drop_of_length_le (by rw [List.length_map, Nat.zero_add, ← h]; simp), List.append_nil]

theorem st_rd {w : World} {g : Nat} {t : TypeId} {cs : Array Value} {st : S8} (hb : Blk w g t cs) (h : ∀ j, j < 8 → cs[j]? = st.vals[j]?) : Rd w (some ⟨g, 0, none⟩) (st.list.map u32v) := by
  refine Rd.blk hb fun j u hu => ?_
  have hj : j < (st.list.map u32v).length := (List.getElem?_eq_some_iff.1 hu).1
  rw [List.length_map] at hj
  rw [h j hj, ← hu]
  match j, hj with
  | 0, _ => rfl
  | 1, _ => rfl
  | 2, _ => rfl
  | 3, _ => rfl
  | 4, _ => rfl
  | 5, _ => rfl
  | 6, _ => rfl
  | 7, _ => rfl
theorem bytes_st (st : S8) (sb : List UInt8) (hs : sb = wordsB st.list) (A : Option Addr) (w : World) (hr : Rd w A (st.list.map u32v)) :
    Calls Tryz.prog 103 #[.slice A 8 8] w fun e w' => e = .returned (.string (txt sb)) ∧ Below w.heap.size w w' := by
  subst hs
  exact bytes_any A 8 8 st.list rfl (by decide) w hr

set_option maxRecDepth 100000 in
set_option maxHeartbeats 1000000 in
theorem hsum_any (w : World) (g : Nat) (cs : Array Value) (l : List UInt8) (hb : Blk w g 149 cs) (hp : HPart cs l l.length) (hl : l.length ≤ 1000000000000) :
    Calls Tryz.prog 82 #[.pointer (some ⟨g, 0, none⟩)] w fun e w' => e = .returned (.agg (idVals (sumB l))) ∧ Below w.heap.size w w' := by
  have hz := (zero_of_info zeroH_info).1
  have hcnt := hb.cell_ hp.count
  have hlt := hb.lt
  have HP := hid hp
  clear hp
  go_enter Tryz.func82, Tryz.ntmps82
  go_wp2_with (first
    | (go_at_call 102; (with_reducible refine (padding_any l.length (by omega) _).mono ?_); rintro e1 w1 ⟨rfl, hb1⟩)
    | (with_reducible refine wpList_load_blk rfl 149 _ rfl g cs 149 (Blk.alloc hb _) rfl _ Tryz.underlying149 rfl ?c1 ?_)
    | (with_reducible refine wpList_store_newk rfl 149 _ _ rfl cs (w.heap.size + 1) rfl rfl ?c0 ?c2 ?c3 HP.out.one ?_))
  case c0 => simp
  case c1 => rw [HP.out.size]; exact sizeH
  case c2 => rw [HP.out.size]; exact sizeH
  case c3 => rw [HP.out.size]; rfl
  generalize hZ : (Obj.cells _ 24) = Z at hb1
  obtain ⟨zc, rfl, hzc⟩ : ∃ zc : Array Value, Z = Obj.cells zc 24 ∧ zc.size = 32 := ⟨_, hZ.symm, rfl⟩
  clear hZ hcnt
  have hL : Blk w1 (w.heap.size + 1) 149 cs := by
    have := (Blk.new (w.alloc (Obj.cells zc 24)) 149 cs).below hb1
    simpa using this
  have hR : Blk w1 w.heap.size 24 zc := ((Blk.new w 24 zc).alloc _).below hb1
  have hB1 : Below w.heap.size w w1 := (((Below.refl _ _).alloc (Nat.le_refl _) _).alloc (by simp) _).trans (hb1.mono (by simp; omega))
  clear hb1 hb hlt
  refine (write_go w1 (w.heap.size + 1) cs l (padB l.length) hL HP.out hl (by rw [padB_length]; omega)).mono ?_
  rintro e2 w2 ⟨rfl, cs2, hL2, hp2, hg2⟩
  have hR2 := blk_gb hR hg2 (by omega)
  have hB2 : Below w.heap.size w w2 := hB1.grown hg2 hB1.size (by intro i e; cases e; omega)
  have hlt2 : w.heap.size + 1 < w2.heap.size := hL2.lt
  obtain ⟨st, hst⟩ : ∃ st, st = sumS l := ⟨_, rfl⟩
  have hstt : ∀ j, j < 8 → cs2[j]? = st.vals[j]? := fun j hj => by rw [hst]; exact hp2.state j hj
  obtain ⟨sb, hsb⟩ : ∃ sb, sb = wordsB st.list := ⟨_, rfl⟩
  have hsbl : sb.length = 32 := by rw [hsb, wordsB_length]; rfl
  have hsum : sb = sumB l := by rw [hsb, hst]; rfl
  have HSB := hid hsb
  have HSL := hid hsbl
  have HSUM := hid hsum
  have HSTT := hid hstt
  clear hL hR hB1 hg2 hp2 hst hsb hsbl hsum hstt
  go_wp2
  generalize hZ : (Obj.cells _ 24) = Z
  obtain ⟨z4, rfl, hz4⟩ : ∃ z4 : Array Value, Z = Obj.cells z4 24 ∧ z4.size = 32 := ⟨_, hZ.symm, rfl⟩
  clear hZ
  have hI := Blk.new w2 24 z4
  have hL3 := hL2.alloc (.cells z4 24)
  have hR3 := hR2.alloc (.cells z4 24)
  have hB3 := hB2.alloc hB2.size (.cells z4 24)
  have HZ4 := hid hz4
  have HZC := hid hzc
  clear hL2 hR2 hB2 hz4 hzc
  generalize w2.alloc (.cells z4 24) = w3 at *
  generalize w2.heap.size = k at *
  go_region_law (first
    | (refine step_copy_txt (by rfl) _ _ 97 9 (by rfl) 5 Tryz.underlying97 sizeB k 0 32 32 sb (by rfl) (by rfl) z4 24 (Blk.below (by exact hI) hb5) 32 (by rw [HSL.out]; rfl) (by rw [HZ4.out]; decide) ?_; intro w6 hb6 hg6)
    | (go_simp; go_at_call 103; refine (bytes_st st sb HSB.out _ _ (st_rd (by exact hL3) HSTT.out)).mono ?_; rintro e5 w5 ⟨rfl, hb5⟩))
  all_goals
    rw [List.take_of_length_le (by rw [HSL.out]; exact Nat.le_refl _), over_all _ _ (by rw [HZ4.out, HSL.out])] at hb6
    have hd : Below w3.heap.size w3 w5 := ⟨hb5.os, hb5.tape, hb5.output, hb5.size, hb5.block⟩
    have hR6 : Blk w6 w.heap.size 24 zc := blk_gb (hR3.below hd) hg6 (by omega)
    have hB5 := hB3.trans (hd.mono hB3.size)
    have hB6 : Below w.heap.size w w6 := hB5.grown hg6 hB5.size (by intro i e; cases e; omega)
    clear hL3 hR3 hB3 hI hb5 hg6 hd hB5
    go_wp2_with (first
      | (with_reducible refine wpList_load_blk rfl 24 _ rfl k (idVals sb) 24 hb6 rfl _ Tryz.underlying24 rfl ?c1 ?_)
      | (with_reducible refine wpList_store_blk rfl 24 _ _ rfl w.heap.size zc (idVals sb) 24 hR6 rfl rfl ?c2 ?c3 (idVals_one _) ?_))
    case c1 => rw [idVals_size, HSL.out]; exact sizeId
    case c2 => rw [idVals_size, HSL.out]; exact sizeId
    case c3 => rw [idVals_size, HSL.out]; exact HZC.out
    intro w7 hb7 hg7
    go_wp2
    refine bodyPost_ret (results_cell_row rfl _ _ _ _ _ _ _ rfl hb7 Tryz.underlying24 rfl (by rw [idVals_size, HSL.out]; exact sizeId)) rfl ⟨?_, ?_⟩
    · rw [HSUM.out]
    · exact hB6.grown hg7 hB6.size (by intro i e; cases e; exact Nat.le_refl _)

set_option maxRecDepth 100000 in
set_option maxHeartbeats 1000000 in
theorem sum_any (l : List UInt8) (hl : l.length ≤ 1000000000000) (w : World) :
    Calls Tryz.prog 43 #[.string (txt l)] w fun e w' => e = .returned (.agg (idVals (sumB l))) ∧ Below w.heap.size w w' := by
  go_enter Tryz.func43, Tryz.ntmps43
  go_wp2_with (fail)
  generalize hZ : (Obj.cells _ 24) = Z
  obtain ⟨zc, rfl, hzc⟩ : ∃ zc : Array Value, Z = Obj.cells zc 24 ∧ zc.size = 32 := ⟨_, hZ.symm, rfl⟩
  clear hZ
  refine (new_any _).mono ?_
  rintro e1 w1 ⟨cs, rfl, hb1, hp1, hB1⟩
  have hR1 : Blk w1 w.heap.size 24 zc := (Blk.new w 24 zc).below hB1
  have hB : Below w.heap.size w w1 := ((Below.refl _ _).alloc (Nat.le_refl _) _).trans (hB1.mono (by simp))
  have ek : (w.alloc (.cells zc 24)).heap.size = w.heap.size + 1 := by simp
  rw [ek] at hb1 ⊢
  clear hB1
  have HZC := hid hzc
  clear hzc
  go_wp2_with (fail)
  refine (write_go w1 (w.heap.size + 1) cs [] l hb1 (by simpa using hp1) (by simp) hl).mono ?_
  rintro e2 w2 ⟨rfl, cs2, hb2, hp2, hg2⟩
  rw [List.nil_append] at hp2
  have hR2 := blk_gb hR1 hg2 (by omega)
  have hB2 : Below w.heap.size w w2 := hB.grown hg2 hB.size (by intro i e; cases e; omega)
  clear hb1 hp1 hR1 hB hg2 ek
  go_wp2_with (fail)
  refine (hsum_any w2 (w.heap.size + 1) cs2 l hb2 hp2 hl).mono ?_
  rintro e3 w3 ⟨rfl, hB3⟩
  have hR3 := hR2.below hB3
  have hB4 := hB2.trans (hB3.mono hB2.size)
  clear hb2 hp2 hR2 hB2 hB3
  have hsl : (sumB l).length = 32 := sumB_length l
  have HSL := hid hsl
  clear hsl
  go_wp2_with (with_reducible refine wpList_store_blk rfl 24 _ _ rfl w.heap.size zc (idVals (sumB l)) 24 hR3 rfl rfl ?c2 ?c3 (idVals_one _) ?_)
  case c2 => rw [idVals_size, HSL.out]; exact sizeId
  case c3 => rw [idVals_size, HSL.out]; exact HZC.out
  intro w7 hb7 hg7
  go_wp2
  refine bodyPost_ret (results_cell_row rfl _ _ _ _ _ _ _ rfl hb7 Tryz.underlying24 rfl (by rw [idVals_size, HSL.out]; exact sizeId)) rfl ⟨?_, ?_⟩
  · rfl
  · exact hB4.grown hg7 hB4.size (by intro i e; cases e; exact Nat.le_refl _)
end Go.Proofs.YticpdepbgcagaaaGreat


/- disk: put. -/
import Derived.Test.YtemdmdgigmhlbaaGreatDk1
import Derived.Deep.DeepCutAuto
import Derived.Deep.RegionHeld3
set_option linter.unusedSimpArgs false
set_option linter.unusedVariables false
namespace Go.Proofs.YtemdmdgigmhlbaaGreat
open Go.RowKit Go.Qc Go.Shelf
attribute [local go_sem] txt_size txt_append ib_fold
theorem txt_lpD (l : List UInt8) : ∀ (k i : Nat) (r : List UInt8), l.length - i = k → ByteArray.toList.loop (txt l) i r = r.reverse ++ l.drop i := by
  intro k
  induction k with
  | zero =>
    intro i r hk
    unfold ByteArray.toList.loop
    rw [if_neg (by rw [txt_size]; omega), List.drop_eq_nil_of_le (by omega), List.append_nil]
  | succ k ih =>
    intro i r hk
    have hi : i < l.length := by omega
    unfold ByteArray.toList.loop
    rw [if_pos (by rw [txt_size]; exact hi), ih (i + 1) _ (by omega), List.reverse_cons, List.append_assoc]
    congr 1
    rw [List.drop_eq_getElem_cons hi]
    congr 1
    simp [ByteArray.get!, txt, getElem!_pos, hi]
theorem txt_toD (l : List UInt8) : (txt l).toList = l := by
  unfold ByteArray.toList
  rw [txt_lpD l _ 0 [] rfl]
  rfl
theorem txt_someD {t : List UInt8} (h : t ≠ []) : (txt t).toList.isEmpty = false := by
  rw [txt_toD]
  cases t with
  | nil => exact absurd rfl h
  | cons x t => rfl
theorem ByOw.blk {W : World} {base : Nat} {v : Value} {l : List UInt8} (h : ByOw W base v l) (hl : 0 < l.length) : ∃ g c cur, v = .slice (some ⟨g, 0, none⟩) l.length c ∧ Blk W g 5 cur ∧ l.length ≤ c ∧ l.length ≤ cur.size ∧ base ≤ g := by
  rcases h.2 with ⟨_, h0⟩ | ⟨g, c, cur, rfl, hb, hg, hc, _, hs, _⟩
  · omega
  · exact ⟨g, c, cur, rfl, hg, hc, by omega, hb⟩
theorem ByOw.zeros {W : World} {base k : Nat} {v : Value} {l : List UInt8} (h : W.ownsRow base 5 1 v (l.length + k) (l.map u8v ++ List.replicate k (.int .u8 0))) : ByOw W base v (l ++ List.replicate k 0) := by
  unfold ByOw
  rw [List.length_append, List.length_replicate, List.map_append, List.map_replicate]
  exact h
set_option maxRecDepth 100000 in
set_option maxHeartbeats 8000000 in
theorem put_0 (base : Nat) (v : Value) (l : List UInt8) (p : Nat) (W : World) (h : ByOw W base v l) :
    Calls Tryz.prog 50 #[v, .agg #[.int .i64 (p : Int), .string (txt [])]] W fun e w' => e = .returned v ∧ Below W.heap.size W w' := by
  have hb := (Below.refl W.heap.size W).alloc (Nat.le_refl _) (.cells #[.int .i64 (p : Int), .string (txt [])] 72)
  obtain ⟨A, c, rfl⟩ := h.sl
  have hq : txt [] = ⟨#[]⟩ := rfl
  rw [hq] at hb ⊢
  go_enter Tryz.func50, Tryz.ntmps50
  go_wp2_with (fail)
  go_ret
  exact ⟨rfl, hb⟩
/-- What put answers. -/
def PutQ (base : Nat) (v : Value) (r : List UInt8) (W : World) (e : Ending) (w' : World) : Prop :=
  ∃ v', e = .returned v' ∧ ByOw w' base v' r ∧ W.grownBy w' v.ownBlock ∧ (v'.ownBlock = v.ownBlock ∨ ∃ g, v'.ownBlock = some g ∧ W.heap.size ≤ g)
set_option maxRecDepth 100000 in
set_option maxHeartbeats 8000000 in
theorem put_1 (base : Nat) (v : Value) (l : List UInt8) (p : Nat) (t : List UInt8) (ht : t ≠ []) (hl : l.length ≤ 100000000) (hp : p ≤ 100000000) (htl : t.length ≤ 100000000) (W : World) (h : ByOw W base v l) (hbase : base ≤ W.heap.size) (hlong : l.length < p + t.length) :
    Calls Tryz.prog 50 #[v, .agg #[.int .i64 (p : Int), .string (txt t)]] W (PutQ base v (putLd l p t) W) := by
  have hb1 := (Below.refl W.heap.size W).alloc (Nat.le_refl _) (.cells #[.int .i64 (p : Int), .string (txt t)] 72)
  have hx1 := Blk.new W 72 #[.int .i64 (p : Int), .string (txt t)]
  have HO := hid (h.below hb1)
  have he := txt_someD ht
  have hpos : 0 < t.length := List.length_pos_iff.2 ht
  have e1 : wrap64 ((p : Int) + (t.length : Int)) = (p : Int) + (t.length : Int) := by unfold wrap64; omega
  obtain ⟨k, hk⟩ : ∃ k, p + t.length - l.length = k := ⟨_, rfl⟩
  have e2 : wrap64 ((p : Int) + (t.length : Int) - (l.length : Int)) = (k : Int) := by unfold wrap64; omega
  have HK : Hid (0 < k ∧ l.length + k ≤ 1000000000) := hid (by omega)
  have z1 : (0 : Int) < (k : Int) := by omega
  have z1n : 0 < k := by omega
  have HB : Hid (base ≤ (W.alloc (.cells #[.int .i64 (p : Int), .string (txt t)] 72)).heap.size) := hid (Nat.le_trans hbase hb1.size)
  obtain ⟨A, c, rfl⟩ := h.sl
  have HLT := hid (World.ownsRow.lt h)
  have HT := hid ht
  have HLEN := hid (show l.length ≤ 100000000 ∧ p ≤ 100000000 ∧ t.length ≤ 100000000 ∧ 0 < t.length ∧ l.length < p + t.length from by omega)
  have HKK := hid hk
  clear ht hl hp htl hlong hpos h hk
  go_enter Tryz.func50, Tryz.ntmps50
  go_upto_region 4 with (fail)
  have hG : W.grownBy (W.alloc (.cells #[.int .i64 (p : Int), .string (txt t)] 72)) (Value.slice A l.length c).ownBlock := gb_of_below hb1 _
  have hs1 : (W.alloc (.cells #[.int .i64 (p : Int), .string (txt t)] 72)).heap.size = W.heap.size + 1 := by simp
  have HS1 := hid hs1
  clear hs1 hb1
  generalize W.alloc (.cells #[.int .i64 (p : Int), .string (txt t)] 72) = w1 at *
  obtain ⟨gB, hgB⟩ : ∃ g, W.heap.size = g := ⟨_, rfl⟩
  have HGB := hid hgB
  rw [hgB] at hx1
  simp only [hgB]
  clear hgB
  simp only [e2]
  go_upto_region 6 with (at_builtin; go_loud (refine wpList_append_zeros rfl _ _ rfl base _ l.length (l.map u8v) rfl HO.out k rfl HK.out.1 HK.out.2 HB.out ?_); intro v2 w2 hown2 hg2 hv2)
  have hz := ByOw.zeros hown2
  have hG2 := gb_step hG hg2 (.inl rfl)
  have hx2 : Blk w2 gB 72 #[.int .i64 (p : Int), .string (txt t)] := (hg2.block gB hx1.lt (fun e => by
    have h1 := (HLT.out gB e.symm).2
    have := HGB.out
    omega)).trans hx1
  have hv3 : v2.ownBlock = (Value.slice A l.length c).ownBlock ∨ ∃ g, v2.ownBlock = some g ∧ W.heap.size ≤ g := by
    rcases hv2 with e | e
    · exact .inl e
    · exact .inr ⟨_, e, by have := HS1.out; omega⟩
  have hP : putLd l p t = (l ++ List.replicate k 0).take p ++ t ++ (l ++ List.replicate k 0).drop (p + t.length) := by unfold putLd; rw [if_neg HT.out, HKK.out]
  have hzl : (l ++ List.replicate k (0 : UInt8)).length = p + t.length := by have := HKK.out; have := HLEN.out; simp; omega
  generalize l ++ List.replicate k (0 : UInt8) = z at *
  have HP := hid hP
  clear hown2 hg2 hv2 hx1 hP z1 z1n e1 e2 HK HB
  have hzp : 0 < z.length ∧ p < z.length ∧ p + t.length ≤ z.length := by have := HLEN.out; omega
  obtain ⟨g, cz, cur, rfl, hcur, hcz, hcs, hbg⟩ := hz.blk hzp.1
  have HSL : Hid (∀ V, (Instr.sliceAt 56 (.slice (some ⟨g, 0, none⟩) z.length cz) (some (.int .i64 (p : Int))) none none).run Tryz.prog V = .ok (.slice (some ⟨g, p, none⟩) (z.length - p) (cz - p)) V) := hid (fun V => slice_lo_by g z.length cz p hzp.2.1 hcz V)
  have HZP := hid hzp
  have HCS := hid hcs
  have HV9 := hid hv3
  clear hv3
  have hbd := below_drew1 w2
  have hz3 := hz.below hbd
  have hcur3 := hcur.below hbd
  have hx3 := hx2.below hbd
  have hG3 := gb_step hG2 (gb_of_below hbd none) (.inr (.inl rfl))
  clear hz hcur hx2 hG2 hbd hG hzp hcs he hzl
  refine wp_region_held_drew (S := fun V => Blk V gB 72 #[.int .i64 (p : Int), .string (txt t)]) (by kernel_rfl) hx3 (fun hHeld => ?_)
  generalize w2.drew = w3 at *
  refine' wpAnyH_take (i := 0) (v := .slice (some ⟨g, 0, none⟩) z.length cz) rfl (by kernel_rfl) (by kernel_rfl) (by kernel_rfl) (fun _ _ _ h => h) (Or.inl ⟨by rfl, fun w' hw' => by go_simp⟩) hHeld ?_
  try simp only [Act.put, List.getElem_toArray, List.getElem_cons_succ, List.getElem_cons_zero, List.setIfInBounds_toArray, List.set_cons_zero, List.set_cons_succ]
  refine' wpAnyH_take (i := 1) (v := .pointer (some ⟨gB, 0, none⟩)) rfl (by kernel_rfl) (by kernel_rfl) (by kernel_rfl) (fun _ _ _ h => h) (Or.inl ⟨by rfl, fun w' hw' => by go_simp⟩) hHeld ?_
  try simp only [Act.put, List.getElem_toArray, List.getElem_cons_succ, List.getElem_cons_zero, List.setIfInBounds_toArray, List.set_cons_zero, List.set_cons_succ]
  refine' wpAnyH_take (i := 2) (v := .int .i64 (p : Int)) rfl (by kernel_rfl) (by kernel_rfl) (by kernel_rfl) (fun _ _ _ h => h) (Or.inl ⟨by rfl, fun w' hw' => by have hv := hw'.cell_ (i := 0) rfl; go_simp⟩) hHeld ?_
  try simp only [Act.put, List.getElem_toArray, List.getElem_cons_succ, List.getElem_cons_zero, List.setIfInBounds_toArray, List.set_cons_zero, List.set_cons_succ]
  refine' wpAnyH_take (i := 3) (v := .slice (some ⟨g, p, none⟩) (z.length - p) (cz - p)) rfl (by kernel_rfl) (by kernel_rfl) (by kernel_rfl) (fun _ _ _ h => h) (Or.inl ⟨by rfl, fun w' hw' => by have hv := HSL.out w'; go_simp⟩) hHeld ?_
  try simp only [Act.put, List.getElem_toArray, List.getElem_cons_succ, List.getElem_cons_zero, List.setIfInBounds_toArray, List.set_cons_zero, List.set_cons_succ]
  refine' wpAnyH_take (i := 4) (v := .pointer (some ⟨gB, 1, none⟩)) rfl (by kernel_rfl) (by kernel_rfl) (by kernel_rfl) (fun _ _ _ h => h) (Or.inl ⟨by rfl, fun w' hw' => by go_simp⟩) hHeld ?_
  try simp only [Act.put, List.getElem_toArray, List.getElem_cons_succ, List.getElem_cons_zero, List.setIfInBounds_toArray, List.set_cons_zero, List.set_cons_succ]
  refine' wpAnyH_take (i := 5) (v := .string (txt t)) rfl (by kernel_rfl) (by kernel_rfl) (by kernel_rfl) (fun _ _ _ h => h) (Or.inl ⟨by rfl, fun w' hw' => by have hv := hw'.cell_ (i := 1) rfl; go_simp⟩) hHeld ?_
  try simp only [Act.put, List.getElem_toArray, List.getElem_cons_succ, List.getElem_cons_zero, List.setIfInBounds_toArray, List.set_cons_zero, List.set_cons_succ]
  refine wpAnyH_ready (rs := [6]) (by kernel_rfl) (by simp) ?_
  refine AllReadyH.cons rfl (fun K hK => ?_) AllReadyH.nil
  refine wp_copy_txtD _ _ rfl g p (z.length - p) (cz - p) t rfl rfl cur _ hcur3 (by have := HZP.out; omega) (by have := HZP.out; have := HCS.out; omega) ?_
  intro w4 hB4 hg4
  have hz4 := own_over hz3 hcur3 HZP.out.2.2 hB4
  have hG4 := gb_step hG3 hg4 (by rcases HV9.out with e | ⟨q, e, hq⟩ <;> first | exact .inl e | exact .inr (.inr ⟨q, e, hq⟩))
  have hx4 : Blk w4 gB 72 #[.int .i64 (p : Int), .string (txt t)] := blk_gb hx3 hg4 (by rintro rfl; have e := Option.some.inj (hx3.symm.trans hcur3); injection e with _ e2; exact absurd e2 (by decide))
  refine hK.out _ _ hx4 (fun hHeld => ?_)
  clear hK K
  try simp only [Act.put, List.getElem_toArray, List.getElem_cons_succ, List.getElem_cons_zero, List.setIfInBounds_toArray, List.set_cons_zero, List.set_cons_succ]
  refine wpAnyH_done (by kernel_rfl) ?_ _
  go_wp2_with (fail)
  go_ret
  exact ⟨_, rfl, by rw [HP.out]; exact hz4, hG4, HV9.out⟩
set_option maxRecDepth 100000 in
set_option maxHeartbeats 8000000 in
theorem put_2 (base : Nat) (v : Value) (l : List UInt8) (p : Nat) (t : List UInt8) (ht : t ≠ []) (hl : l.length ≤ 100000000) (hp : p ≤ 100000000) (htl : t.length ≤ 100000000) (W : World) (h : ByOw W base v l) (hbase : base ≤ W.heap.size) (hlong : ¬ l.length < p + t.length) :
    Calls Tryz.prog 50 #[v, .agg #[.int .i64 (p : Int), .string (txt t)]] W (PutQ base v (putLd l p t) W) := by
  have hb1 := (Below.refl W.heap.size W).alloc (Nat.le_refl _) (.cells #[.int .i64 (p : Int), .string (txt t)] 72)
  have hx1 := Blk.new W 72 #[.int .i64 (p : Int), .string (txt t)]
  have HO := hid (h.below hb1)
  have he := txt_someD ht
  have hpos : 0 < t.length := List.length_pos_iff.2 ht
  have e1 : wrap64 ((p : Int) + (t.length : Int)) = (p : Int) + (t.length : Int) := by unfold wrap64; omega
  have e2 : wrap64 ((p : Int) + (t.length : Int) - (l.length : Int)) = (p : Int) + (t.length : Int) - (l.length : Int) := by unfold wrap64; omega
  have z1 : ¬ (0 : Int) < (p : Int) + (t.length : Int) - (l.length : Int) := by omega
  obtain ⟨A, c, rfl⟩ := h.sl
  have HLT := hid (World.ownsRow.lt h)
  have HT := hid ht
  have HLEN := hid (show l.length ≤ 100000000 ∧ p ≤ 100000000 ∧ t.length ≤ 100000000 ∧ 0 < t.length ∧ p + t.length ≤ l.length from by omega)
  skip
  clear ht hl hp htl hlong hpos h 
  go_enter Tryz.func50, Tryz.ntmps50
  go_upto_region 4 with (fail)
  have hG : W.grownBy (W.alloc (.cells #[.int .i64 (p : Int), .string (txt t)] 72)) (Value.slice A l.length c).ownBlock := gb_of_below hb1 _
  have hs1 : (W.alloc (.cells #[.int .i64 (p : Int), .string (txt t)] 72)).heap.size = W.heap.size + 1 := by simp
  have HS1 := hid hs1
  clear hs1 hb1
  generalize W.alloc (.cells #[.int .i64 (p : Int), .string (txt t)] 72) = w1 at *
  obtain ⟨gB, hgB⟩ : ∃ g, W.heap.size = g := ⟨_, rfl⟩
  have HGB := hid hgB
  rw [hgB] at hx1
  simp only [hgB]
  clear hgB
  go_upto_region 6 with (fail)
  have hz := HO.out
  obtain ⟨v2, hvv⟩ : ∃ v2, Value.slice A l.length c = v2 := ⟨_, rfl⟩
  have hG2 := hG
  have hx2 := hx1
  obtain ⟨w2, hww⟩ : ∃ u, u = w1 := ⟨_, rfl⟩
  subst hww
  have hv3 : v2.ownBlock = (Value.slice A l.length c).ownBlock ∨ ∃ g, v2.ownBlock = some g ∧ W.heap.size ≤ g := .inl (by rw [hvv])
  have hP : putLd l p t = l.take p ++ t ++ l.drop (p + t.length) := by
    have hk0 : p + t.length - l.length = 0 := by have := HLEN.out; omega
    unfold putLd
    rw [if_neg HT.out, hk0, List.replicate_zero, List.append_nil]
  have hzl : p + t.length ≤ l.length := HLEN.out.2.2.2.2
  obtain ⟨z, hzz⟩ : ∃ z, l = z := ⟨_, rfl⟩
  rw [hzz] at hz hzl
  have HP : Hid (putLd l p t = z.take p ++ t ++ z.drop (p + t.length)) := hid (by rw [hP, hzz])
  have hz9 : ByOw w2 base v2 z := by rw [← hvv, hzz]; exact hz
  have HV3 := hid hv3
  rw [hvv]
  clear hz hx1 hP z1 e1 e2 hzz hvv hv3
  have hv3 := HV3.out
  have hz := hz9
  clear hz9
  have hzp : 0 < z.length ∧ p < z.length ∧ p + t.length ≤ z.length := by have := HLEN.out; omega
  obtain ⟨g, cz, cur, rfl, hcur, hcz, hcs, hbg⟩ := hz.blk hzp.1
  have HSL : Hid (∀ V, (Instr.sliceAt 56 (.slice (some ⟨g, 0, none⟩) z.length cz) (some (.int .i64 (p : Int))) none none).run Tryz.prog V = .ok (.slice (some ⟨g, p, none⟩) (z.length - p) (cz - p)) V) := hid (fun V => slice_lo_by g z.length cz p hzp.2.1 hcz V)
  have HZP := hid hzp
  have HCS := hid hcs
  have HV9 := hid hv3
  clear hv3
  have hbd := below_drew1 w2
  have hz3 := hz.below hbd
  have hcur3 := hcur.below hbd
  have hx3 := hx2.below hbd
  have hG3 := gb_step hG2 (gb_of_below hbd none) (.inr (.inl rfl))
  clear hz hcur hx2 hG2 hbd hG hzp hcs he hzl
  refine wp_region_held_drew (S := fun V => Blk V gB 72 #[.int .i64 (p : Int), .string (txt t)]) (by kernel_rfl) hx3 (fun hHeld => ?_)
  generalize w2.drew = w3 at *
  refine' wpAnyH_take (i := 0) (v := .slice (some ⟨g, 0, none⟩) z.length cz) rfl (by kernel_rfl) (by kernel_rfl) (by kernel_rfl) (fun _ _ _ h => h) (Or.inl ⟨by rfl, fun w' hw' => by go_simp⟩) hHeld ?_
  try simp only [Act.put, List.getElem_toArray, List.getElem_cons_succ, List.getElem_cons_zero, List.setIfInBounds_toArray, List.set_cons_zero, List.set_cons_succ]
  refine' wpAnyH_take (i := 1) (v := .pointer (some ⟨gB, 0, none⟩)) rfl (by kernel_rfl) (by kernel_rfl) (by kernel_rfl) (fun _ _ _ h => h) (Or.inl ⟨by rfl, fun w' hw' => by go_simp⟩) hHeld ?_
  try simp only [Act.put, List.getElem_toArray, List.getElem_cons_succ, List.getElem_cons_zero, List.setIfInBounds_toArray, List.set_cons_zero, List.set_cons_succ]
  refine' wpAnyH_take (i := 2) (v := .int .i64 (p : Int)) rfl (by kernel_rfl) (by kernel_rfl) (by kernel_rfl) (fun _ _ _ h => h) (Or.inl ⟨by rfl, fun w' hw' => by have hv := hw'.cell_ (i := 0) rfl; go_simp⟩) hHeld ?_
  try simp only [Act.put, List.getElem_toArray, List.getElem_cons_succ, List.getElem_cons_zero, List.setIfInBounds_toArray, List.set_cons_zero, List.set_cons_succ]
  refine' wpAnyH_take (i := 3) (v := .slice (some ⟨g, p, none⟩) (z.length - p) (cz - p)) rfl (by kernel_rfl) (by kernel_rfl) (by kernel_rfl) (fun _ _ _ h => h) (Or.inl ⟨by rfl, fun w' hw' => by have hv := HSL.out w'; go_simp⟩) hHeld ?_
  try simp only [Act.put, List.getElem_toArray, List.getElem_cons_succ, List.getElem_cons_zero, List.setIfInBounds_toArray, List.set_cons_zero, List.set_cons_succ]
  refine' wpAnyH_take (i := 4) (v := .pointer (some ⟨gB, 1, none⟩)) rfl (by kernel_rfl) (by kernel_rfl) (by kernel_rfl) (fun _ _ _ h => h) (Or.inl ⟨by rfl, fun w' hw' => by go_simp⟩) hHeld ?_
  try simp only [Act.put, List.getElem_toArray, List.getElem_cons_succ, List.getElem_cons_zero, List.setIfInBounds_toArray, List.set_cons_zero, List.set_cons_succ]
  refine' wpAnyH_take (i := 5) (v := .string (txt t)) rfl (by kernel_rfl) (by kernel_rfl) (by kernel_rfl) (fun _ _ _ h => h) (Or.inl ⟨by rfl, fun w' hw' => by have hv := hw'.cell_ (i := 1) rfl; go_simp⟩) hHeld ?_
  try simp only [Act.put, List.getElem_toArray, List.getElem_cons_succ, List.getElem_cons_zero, List.setIfInBounds_toArray, List.set_cons_zero, List.set_cons_succ]
  refine wpAnyH_ready (rs := [6]) (by kernel_rfl) (by simp) ?_
  refine AllReadyH.cons rfl (fun K hK => ?_) AllReadyH.nil
  refine wp_copy_txtD _ _ rfl g p (z.length - p) (cz - p) t rfl rfl cur _ hcur3 (by have := HZP.out; omega) (by have := HZP.out; have := HCS.out; omega) ?_
  intro w4 hB4 hg4
  have hz4 := own_over hz3 hcur3 HZP.out.2.2 hB4
  have hG4 := gb_step hG3 hg4 (by rcases HV9.out with e | ⟨q, e, hq⟩ <;> first | exact .inl e | exact .inr (.inr ⟨q, e, hq⟩))
  have hx4 : Blk w4 gB 72 #[.int .i64 (p : Int), .string (txt t)] := blk_gb hx3 hg4 (by rintro rfl; have e := Option.some.inj (hx3.symm.trans hcur3); injection e with _ e2; exact absurd e2 (by decide))
  refine hK.out _ _ hx4 (fun hHeld => ?_)
  clear hK K
  try simp only [Act.put, List.getElem_toArray, List.getElem_cons_succ, List.getElem_cons_zero, List.setIfInBounds_toArray, List.set_cons_zero, List.set_cons_succ]
  refine wpAnyH_done (by kernel_rfl) ?_ _
  go_wp2_with (fail)
  go_ret
  exact ⟨_, rfl, by rw [HP.out]; exact hz4, hG4, HV9.out⟩
theorem put_any (base : Nat) (v : Value) (l : List UInt8) (p : Nat) (t : List UInt8) (hl : l.length ≤ 100000000) (hp : p ≤ 100000000) (htl : t.length ≤ 100000000) (W : World) (h : ByOw W base v l) (hbase : base ≤ W.heap.size) :
    Calls Tryz.prog 50 #[v, .agg #[.int .i64 (p : Int), .string (txt t)]] W (PutQ base v (putLd l p t) W) := by
  by_cases ht : t = []
  · subst ht
    rw [putL_nil]
    refine (put_0 base v l p W h).mono ?_
    rintro e w' ⟨rfl, hb⟩
    exact ⟨v, rfl, h.below hb, gb_of_below hb _, .inl rfl⟩
  · by_cases hg : l.length < p + t.length
    · exact put_1 base v l p t ht hl hp htl W h hbase hg
    · exact put_2 base v l p t ht hl hp htl W h hbase hg
end Go.Proofs.YtemdmdgigmhlbaaGreat

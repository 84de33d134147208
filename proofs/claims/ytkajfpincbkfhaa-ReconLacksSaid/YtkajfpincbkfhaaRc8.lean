
/- recon: the law ReconFinds, walked. -/
import Derived.Test.YtkajfpincbkfhaaRcB
set_option linter.unusedSimpArgs false
set_option linter.unusedVariables false
namespace Go.Proofs.Ytkajfpincbkfhaa
open Go.RowKit Go.Qc Go.Shelf
section
attribute [local go_sem] txt_size
set_option maxRecDepth 100000 in
set_option maxHeartbeats 20000000 in
theorem ronly_own (A B : Option Addr) (n c m d : Nat) (l r : List (List UInt8)) (h : Bool) (w : World) (hA : RowAt w A n c l) (hB : RowAt w B m d r) (hN : n ≤ 900000) :
    Calls Try.prog 34 #[.slice A n c, .slice B m d, .bool h] w fun e w' => ∃ v, e = .returned v ∧ w'.ownsRow w.heap.size 24 32 v (l.filter (fun x => decide (x ∈ r) == h)).length (idsV (l.filter (fun x => decide (x ∈ r) == h))) ∧ Below w.heap.size w w' := by
  obtain ⟨hn, hc, bc, bn, hr⟩ := hA
  have hu := Try.underlying24
  obtain ⟨j0, hj, hjz, hjs, hjb⟩ := infoId2_parts
  obtain ⟨p, hp⟩ : ∃ p : List UInt8 → Bool, (fun x => decide (x ∈ r) == h) = p := ⟨_, rfl⟩
  have hpx : ∀ x, (decide (x ∈ r) == h) = p x := fun x => congrFun hp x
  rw [hp]
  clear hp
  go_enter Try.func34, Try.ntmps34
  go_wp2
  go_loopw [7, 8] (fun v i wr => ∃ (k : Nat) (o : List (List UInt8)), k ≤ n ∧ i = .int .i64 k ∧ o.length ≤ k ∧ (∀ x ∈ o, x.length = 32) ∧ (l.take k).filter p = o ∧ wr.ownsRow w.heap.size 24 32 v o.length (idsV o) ∧ Below w.heap.size w wr) (fun _ i _ => n - (intOf i).toNat)
  case atStart => exact ⟨0, [], by omega, rfl, by simp, by simp, rfl, World.ownsRow_made _ _ _ (Nat.le_refl _) (by decide) rfl, (Below.refl _ _).alloc (Nat.le_refl _) _⟩
  case round =>
    obtain ⟨k, o, hk, rfl, hol, ho, hf, hown, hb⟩ := hrel
    have HO := hid ho
    have HF := hid hf
    clear ho hf
    by_cases hlt : k < n
    · obtain ⟨x, hx⟩ : ∃ x, l[k]? = some x := ⟨_, List.getElem?_eq_getElem (by omega)⟩
      obtain ⟨g, q, hg, lx, hix⟩ := hr.pick c hn hx
      have b1 : (k : Int) < n := by omega
      have r1 := hg.below hb
      have hzx : (Try.prog.info? 24).map (·.size) = some (x.map u8v).length := by rw [List.length_map, lx]; exact sizeId
      have hox := u8v_one x
      obtain ⟨t, ht⟩ : ∃ t, decide (x ∈ r) = t := ⟨_, rfl⟩
      have cH : Calls Try.prog 21 #[.slice B m d, .agg (List.map u8v x).toArray] wr fun e w' => e = .returned (.bool t) ∧ Below wr.heap.size wr w' := by
        rw [← ht]
        exact rhas_any B m d r x lx wr (hB.below hb).r
      have hxp := hpx x
      rw [ht] at hxp
      have HS := hid (filter_snoc (p := p) hx)
      have HN := hid hn
      clear hn hx ht
      obtain ⟨z, hz⟩ : ∃ z, p x = z := ⟨_, rfl⟩
      rw [hz] at hxp
      have HZ := hid hz
      clear hz
      cases z with
      | true =>
        have b2 : (t == h) = true := hxp
        clear hxp
        go_wp2_with (first
          | (with_reducible refine wpList_load_if (by with_unfolding_all rfl) 24 _ rfl _ _ rfl (x.map u8v) _ r1 hu (by with_unfolding_all rfl) hzx ?_)
          | (go_at_call 21; (with_reducible refine cH.mono ?_); rintro e1 w1 ⟨rfl, hb2⟩; replace hb := hb.trans (hb2.mono hb.size); replace hown := own_below hown hb2; replace r1 := hg.below hb)
          | (at_builtin; refine wpList_append_own _ rfl _ _ 22 rfl w.heap.size 24 j0 (.agg (idVals zeroB)) 32 32 Try.underlying22 hj hjz hjs hjb rfl (by decide) _ _ _ rfl (hown.alloc _) ⟨w1.heap.size, 0, none⟩ 1 1 (x.map u8v) rfl ?l1 (news_fold w1 x lx) hox ?l2 ?l3 ?l4 ?_))
        try case l1 => rw [List.length_map, lx]
        case l2 => unfold maxLen; omega
        case l3 => omega
        case l4 => (try simp); have := hb.size; omega
        intro v8 w8 hown8 hg8 _
        have hB8 := (hb.alloc hb.size _).grown hg8 (hb.alloc hb.size _).size (fun k hk => (hown.lt k hk).1)
        clear hg8
        go_wp2
        go_roundw
        case rel => exact ⟨k + 1, o ++ [x], by omega, by go_num, by simp; omega, snoc32 HO.out lx, by rw [HS.out, HF.out, if_pos HZ.out], (by rw [List.length_append, idsV_snoc]; exact hown8), hB8⟩
        case measure => simp [intOf]; omega
      | false =>
        have b2 : (t == h) = false := hxp
        clear hxp
        go_wp2_with (first
          | (with_reducible refine wpList_load_if (by with_unfolding_all rfl) 24 _ rfl _ _ rfl (x.map u8v) _ r1 hu (by with_unfolding_all rfl) hzx ?_)
          | (go_at_call 21; (with_reducible refine cH.mono ?_); rintro e1 w1 ⟨rfl, hb2⟩; replace hb := hb.trans (hb2.mono hb.size); replace hown := own_below hown hb2))
        go_roundw
        case rel => exact ⟨k + 1, o, by omega, by go_num, by omega, HO.out, by rw [HS.out, HF.out, if_neg (by rw [HZ.out]; decide), List.append_nil], hown, hb⟩
        case measure => simp [intOf]; omega
    · obtain rfl : k = n := by omega
      have HP := hid (show l.filter p = o by have h := HF.out; rw [List.take_of_length_le (by omega)] at h; exact h)
      have b1 : ¬ (k : Int) < k := by omega
      have HN := hid hn
      clear hn
      go_wp2
      go_ret
      exact ⟨_, rfl, by rw [HP.out]; exact hown, hb⟩
end
attribute [local go_sem] txt_size txt_append ib_fold
theorem IdRd.kept_ {w w' : World} {g : Nat} {l : List (List UInt8)} {row : Option Nat} (h : IdRd w (some ⟨g, 0, none⟩) l) (hg : w.grownBy w' row) (hne : row ≠ some g) (hlt : g < w.heap.size) : IdRd w' (some ⟨g, 0, none⟩) l := by
  refine ⟨h.1, ?_⟩
  rcases h.2 with h1 | ⟨g1, o1, e, hr⟩
  · exact .inl h1
  · cases e
    refine .inr ⟨g, 0, rfl, fun j v hj => ?_⟩
    rw [World.cell?_of_block (hg.block g hlt (fun hk => hne hk.symm))]
    exact hr j v hj
end Go.Proofs.Ytkajfpincbkfhaa

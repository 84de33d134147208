
/- recon: the law ReconFinds, walked. -/
import Derived.Test.YtkajfpincbkfhaaRcB
set_option linter.unusedSimpArgs false
set_option linter.unusedVariables false
namespace Go.Proofs.Ytkajfpincbkfhaa
open Go.RowKit Go.Qc Go.Shelf
section
attribute [local go_sem] txt_size
set_option maxRecDepth 100000 in
set_option maxHeartbeats 20000000 in
theorem ronly_own (A B : Option Addr) (n c m d : Nat) (l r : List (List UInt8)) (h : Bool) (w : World) (hA : RowAt w A n c l) (hB : RowAt w B m d r) (hN : n ≤ 900000) :
    Calls Try.prog 34 #[.slice A n c, .slice B m d, .bool h] w fun e w' => ∃ v, e = .returned v ∧ w'.ownsRow w.heap.size 24 32 v (l.filter (fun x => decide (x ∈ r) == h)).length (idsV (l.filter (fun x => decide (x ∈ r) == h))) ∧ Below w.heap.size w w' := by
  obtain ⟨hn, hc, bc, bn, hr⟩ := hA
  have hu := Try.underlying24
  obtain ⟨j0, hj, hjz, hjs, hjb⟩ := infoId2_parts
  obtain ⟨p, hp⟩ : ∃ p : List UInt8 → Bool, (fun x => decide (x ∈ r) == h) = p := ⟨_, rfl⟩
  have hpx : ∀ x, (decide (x ∈ r) == h) = p x := fun x => congrFun hp x
  rw [hp]
  clear hp
  go_enter Try.func34, Try.ntmps34
  go_wp2
  go_loopw [7, 8] (fun v i wr => ∃ (k : Nat) (o : List (List UInt8)), k ≤ n ∧ i = .int .i64 k ∧ o.length ≤ k ∧ (∀ x ∈ o, x.length = 32) ∧ (l.take k).filter p = o ∧ wr.ownsRow w.heap.size 24 32 v o.length (idsV o) ∧ Below w.heap.size w wr) (fun _ i _ => n - (intOf i).toNat)
  case atStart => exact ⟨0, [], by omega, rfl, by simp, by simp, rfl, World.ownsRow_made _ _ _ (Nat.le_refl _) (by decide) rfl, (Below.refl _ _).alloc (Nat.le_refl _) _⟩
  case round =>
    obtain ⟨k, o, hk, rfl, hol, ho, hf, hown, hb⟩ := hrel
    have HO := hid ho
    have HF := hid hf
    clear ho hf
    by_cases hlt : k < n
    · obtain ⟨x, hx⟩ : ∃ x, l[k]? = some x := ⟨_, List.getElem?_eq_getElem (by omega)⟩
      obtain ⟨g, q, hg, lx, hix⟩ := hr.pick c hn hx
      have b1 : (k : Int) < n := by omega
      have r1 := hg.below hb
      have hzx : (Try.prog.info? 24).map (·.size) = some (x.map u8v).length := by rw [List.length_map, lx]; exact sizeId
      have hox := u8v_one x
      obtain ⟨t, ht⟩ : ∃ t, decide (x ∈ r) = t := ⟨_, rfl⟩
      have cH : Calls Try.prog 21 #[.slice B m d, .agg (List.map u8v x).toArray] wr fun e w' => e = .returned (.bool t) ∧ Below wr.heap.size wr w' := by
        rw [← ht]
        exact rhas_any B m d r x lx wr (hB.below hb).r
      have hxp := hpx x
      rw [ht] at hxp
      have HS := hid (filter_snoc (p := p) hx)
      have HN := hid hn
      clear hn hx ht
      obtain ⟨z, hz⟩ : ∃ z, p x = z := ⟨_, rfl⟩
      rw [hz] at hxp
      have HZ := hid hz
      clear hz
      cases z with
      | true =>
        have b2 : (t == h) = true := hxp
        clear hxp
        go_wp2_with (first
          | (with_reducible refine wpList_load_if (by with_unfolding_all rfl) 24 _ rfl _ _ rfl (x.map u8v) _ r1 hu (by with_unfolding_all rfl) hzx ?_)
          | (go_at_call 21; (with_reducible refine cH.mono ?_); rintro e1 w1 ⟨rfl, hb2⟩; replace hb := hb.trans (hb2.mono hb.size); replace hown := own_below hown hb2; replace r1 := hg.below hb)
          | (at_builtin; refine wpList_append_own _ rfl _ _ 22 rfl w.heap.size 24 j0 (.agg (idVals zeroB)) 32 32 Try.underlying22 hj hjz hjs hjb rfl (by decide) _ _ _ rfl (hown.alloc _) ⟨w1.heap.size, 0, none⟩ 1 1 (x.map u8v) rfl ?l1 (news_fold w1 x lx) hox ?l2 ?l3 ?l4 ?_))
        try case l1 => rw [List.length_map, lx]
        case l2 => unfold maxLen; omega
        case l3 => omega
        case l4 => (try simp); have := hb.size; omega
        intro v8 w8 hown8 hg8 _
        have hB8 := (hb.alloc hb.size _).grown hg8 (hb.alloc hb.size _).size (fun k hk => (hown.lt k hk).1)
        clear hg8
        go_wp2
        go_roundw
        case rel => exact ⟨k + 1, o ++ [x], by omega, by go_num, by simp; omega, snoc32 HO.out lx, by rw [HS.out, HF.out, if_pos HZ.out], (by rw [List.length_append, idsV_snoc]; exact hown8), hB8⟩
        case measure => simp [intOf]; omega
      | false =>
        have b2 : (t == h) = false := hxp
        clear hxp
        go_wp2_with (first
          | (with_reducible refine wpList_load_if (by with_unfolding_all rfl) 24 _ rfl _ _ rfl (x.map u8v) _ r1 hu (by with_unfolding_all rfl) hzx ?_)
          | (go_at_call 21; (with_reducible refine cH.mono ?_); rintro e1 w1 ⟨rfl, hb2⟩; replace hb := hb.trans (hb2.mono hb.size); replace hown := own_below hown hb2))
        go_roundw
        case rel => exact ⟨k + 1, o, by omega, by go_num, by omega, HO.out, by rw [HS.out, HF.out, if_neg (by rw [HZ.out]; decide), List.append_nil], hown, hb⟩
        case measure => simp [intOf]; omega
    · obtain rfl : k = n := by omega
      have HP := hid (show l.filter p = o by have h := HF.out; rw [List.take_of_length_le (by omega)] at h; exact h)
      have b1 : ¬ (k : Int) < k := by omega
      have HN := hid hn
      clear hn
      go_wp2
      go_ret
      exact ⟨_, rfl, by rw [HP.out]; exact hown, hb⟩
end
attribute [local go_sem] txt_size txt_append ib_fold
theorem bkT_snoc (S : List (List UInt8)) (a : List UInt8) (k j : Nat) : bkT (S ++ [a]) k j = if j = bktN a k then gmulZ (bkT S k j) (idZ a) else bkT S k j := by
  have h := bkT_step (l := S ++ [a]) (m := S.length) (x := a) (by simp) k j
  rw [List.take_of_length_le (by simp), List.take_left' rfl] at h
  exact h
theorem unL_self (T : Nat → Int × Int) (n : Nat) : unL T T n = [] := by unfold unL; simp
theorem unL_one {T U : Nat → Int × Int} {b : Nat} (h : ∀ j, j ≠ b → T j = U j) : ∀ n, unL T U n = if b < n ∧ T b ≠ U b then [b] else []
  | 0 => by rw [if_neg (by omega)]; rfl
  | n + 1 => by
    rw [unL_step, unL_one h n]
    by_cases e : n = b
    · subst e
      by_cases e2 : T n = U n
      · rw [if_pos e2, if_neg (fun h3 => Nat.lt_irrefl _ h3.1), if_neg (fun h3 => h3.2 e2)]
      · rw [if_neg e2, if_neg (fun h3 => Nat.lt_irrefl _ h3.1), if_pos ⟨Nat.lt_succ_self _, e2⟩]; rfl
    · rw [if_pos (h n e)]
      by_cases e2 : b < n ∧ T b ≠ U b
      · rw [if_pos e2, if_pos ⟨by omega, e2.2⟩]
      · rw [if_neg e2, if_neg (fun h3 => e2 ⟨by omega, h3.2⟩)]
theorem bk_same (S : List (List UInt8)) (a : List UInt8) (k b : Nat) : bkT S k b = gmulZ (bkT S k b) (idZ a) ↔ idZ a = (1, 0) := by
  have hr : ResZ (bkT S k b) := bkT_res S k b
  have hn : bkT S k b ≠ (0, 0) := talZ_ne _
  generalize bkT S k b = t at *
  constructor
  · intro h
    have h2 := gdiv_back (idZ_res a) hr hn
    rw [gmulZ_comm (idZ a), ← h, ginv_mul hr hn] at h2
    exact h2.symm
  · intro h
    rw [h, gmulZ_one hr]
theorem unL_bk (S : List (List UInt8)) (a : List UInt8) (k : Nat) {N : Nat} (hN : 2 ^ k = N) : unL (bkT S k) (bkT (S ++ [a]) k) N = if idZ a = (1, 0) then [] else [bktN a k] := by
  have hb : bktN a k < N := by rw [← hN]; exact bktN_lt a k
  rw [unL_one (b := bktN a k) (fun j hj => by rw [bkT_snoc, if_neg hj])]
  have hs := bk_same S a k (bktN a k)
  by_cases e : idZ a = (1, 0)
  · rw [if_pos e, if_neg (fun h3 => h3.2 (by rw [bkT_snoc, if_pos rfl]; exact hs.2 e))]
  · rw [if_neg e, if_pos ⟨hb, fun h3 => e (hs.1 (by rw [bkT_snoc, if_pos rfl] at h3; exact h3))⟩]
theorem inL_self (a : List UInt8) (k : Nat) : inL [a] k ((bktN a k : Nat) : Int) = [a] := by unfold inL; simp
theorem IdRd.kept_ {w w' : World} {g : Nat} {l : List (List UInt8)} {row : Option Nat} (h : IdRd w (some ⟨g, 0, none⟩) l) (hg : w.grownBy w' row) (hne : row ≠ some g) (hlt : g < w.heap.size) : IdRd w' (some ⟨g, 0, none⟩) l := by
  refine ⟨h.1, ?_⟩
  rcases h.2 with h1 | ⟨g1, o1, e, hr⟩
  · exact .inl h1
  · cases e
    refine .inr ⟨g, 0, rfl, fun j v hj => ?_⟩
    rw [World.cell?_of_block (hg.block g hlt (fun hk => hne hk.symm))]
    exact hr j v hj
theorem mod9 (b : Nat) : ((b : Int)).tmod 9 = ((b % 9 : Nat) : Int) := by rw [Int.tmod_eq_emod_of_nonneg (by omega)]; omega
set_option maxRecDepth 100000 in
set_option maxHeartbeats 8000000 in
theorem finds_near (A : Option Addr) (n c : Nat) (l : List (List UInt8)) (a : List UInt8) (ha : a.length = 32) (bits : Nat) (hbits : bits < 256) (w : World) (hn : n ≤ 30) (h : RowC w A n c l) :
    Calls Try.prog 9 #[.slice A n c, .agg (idVals a), .int .u8 (bits : Int)] w fun e w' => e = .returned (.bool true) ∧ Below w.heap.size w w' := by
  have mixed : Try.prog.follows .mixedOrders = true := by kernel_rfl
  have hu := Try.underlying24
  have hza : (Try.prog.info? 24).map (·.size) = some (a.map u8v).length := by rw [List.length_map, ha]; exact sizeId
  have z1 : ¬ (30 : Int) < (n : Int) := by omega
  have q9 := mod9 bits
  have qw : wrap64 (bits : Int) = (bits : Int) := by unfold wrap64; omega
  have hk8 : bits % 9 ≤ 8 := by omega
  obtain ⟨k, hk⟩ : ∃ k, bits % 9 = k := ⟨_, rfl⟩
  rw [hk] at q9 hk8
  clear hk
  obtain ⟨N, hN⟩ : ∃ N, 2 ^ k = N := ⟨_, rfl⟩
  have hN9 : N ≤ 256 := by rw [← hN]; exact two_8 hk8
  obtain ⟨S, hS⟩ : ∃ S, minL l [a] = S := ⟨_, rfl⟩
  have h32S : ∀ x ∈ S, x.length = 32 := by rw [← hS]; exact minL_32 _ h.1.2.2.1
  have hsn : S.length ≤ 30 := by have := minL_length l [a]; rw [hS, h.1.1] at this; omega
  have cO : ∀ W g, RowC W A n c l → IdRd W (some ⟨g, 0, none⟩) [a] → Calls Try.prog 34 #[.slice A n c, .slice (some ⟨g, 0, none⟩) 1 1, .bool false] W fun e w' => ∃ A3 c3, e = .returned (.slice A3 S.length c3) ∧ RowC w' A3 S.length c3 S ∧ Below W.heap.size W w' := fun W g h1 h2 => by
    refine (ronly_own A (some ⟨g, 0, none⟩) n c 1 1 l [a] false W h1.at (one_row h2).at (by omega)).mono ?_
    rintro e w' ⟨v, rfl, ho, hb⟩
    have ho2 : w'.ownsRow W.heap.size 24 32 v S.length (idsV S) := by rw [← hS]; exact ho
    obtain ⟨A3, c3, rfl, hr⟩ := own_rowC ho2 h32S (by omega)
    exact ⟨A3, c3, rfl, hr, hb⟩
  obtain ⟨s, hs⟩ : ∃ s, S.length = s := ⟨_, rfl⟩
  rw [hs] at cO hsn
  have cK1 : ∀ W A3 c3, RowR W A3 s S → Calls Try.prog 36 #[.slice A3 s c3, .int .i64 (k : Int)] W fun e w' => ∃ g, W.heap.size ≤ g ∧ e = .returned (.tuple #[.slice (some ⟨g, 0, none⟩) N N, .int .i64 0]) ∧ CxAt w' g N (bkT S k) ∧ Below W.heap.size W w' := fun W A3 c3 h1 => buckets_gen A3 s c3 S k hk8 N hN W h1
  have cK2 : ∀ W A3 c3, RowR W A3 (s + 1) (S ++ [a]) → Calls Try.prog 36 #[.slice A3 (s + 1) c3, .int .i64 (k : Int)] W fun e w' => ∃ g, W.heap.size ≤ g ∧ e = .returned (.tuple #[.slice (some ⟨g, 0, none⟩) N N, .int .i64 0]) ∧ CxAt w' g N (bkT (S ++ [a]) k) ∧ Below W.heap.size W w' := fun W A3 c3 h1 => buckets_gen A3 (s + 1) c3 (S ++ [a]) k hk8 N hN W h1
  have HUN := hid (unL_bk S a k hN)
  have HK8 := hid hk8
  have HN9 := hid hN9
  have HLS := hid hs
  have HLIM : Hid (0 + s ≤ 1000000) := hid (by omega)
  have HLIM2 : Hid (s + 1 ≤ 1000000) := hid (by omega)
  have H32 : Hid (∀ x ∈ S ++ [a], x.length = 32) := hid (fun x hx => (List.mem_append.1 hx).elim (h32S x) (fun h => by rw [List.mem_singleton.1 h]; exact ha))
  clear hN9 hsn hs hS hN h32S hk8
  go_enter Try.func9, Try.ntmps9
  go_upto_region 1 with (fail)
  have hb := (Below.refl w.heap.size w).alloc (Nat.le_refl _) (.cells (idVals a) 24)
  have hbx := range_blk (Blk.new w 24 (idVals a))
  replace h := h.below hb
  generalize w.alloc (.cells (idVals a) 24) = w1 at *
  go_upto_region 5 with (first
    | (with_reducible refine wpList_load_if (by with_unfolding_all rfl) 24 _ rfl _ _ rfl (a.map u8v) _ hbx hu rfl hza ?_)
    | ((with_reducible refine wpList_build1i rfl _ rfl a ha rfl ?_); intro cs hrow; have hal := (Below.refl w1.heap.size w1).alloc (Nat.le_refl _) (.cells cs 24); replace h := h.below hal; replace hbx := hbx.below hal; replace hb := hb.trans (hal.mono hb.size))
    | (go_at_call 34; (with_reducible refine (cO _ _ h hrow).mono ?_); rintro e3 w3 ⟨A3, c3, rfl, hrS, hb3⟩))
  replace hbx := hbx.below hb3
  replace hb := hb.trans (hb3.mono hb.size)
  clear hb3 h hrow hal cO
  have hrS1 : RowR w3 A3 s S := hrS.1
  go_upto_region 6 with (go_at_call 36; (with_reducible refine (cK1 _ _ _ hrS1).mono ?_); rintro e5 w5 ⟨g, hg5, rfl, hC5, hb5⟩)
  replace hbx := hbx.below hb5
  replace hrS := hrS.below hb5
  replace hb5 := hb.trans (hb5.mono hb.size)
  have HNS : Hid (A3 = none → s = 0 ∧ c3 = 0) := hid (by
    intro h0
    rcases hrS.2 with ⟨_, h1, h2⟩ | ⟨⟨x, hx⟩, _⟩
    · exact ⟨h1, h2⟩
    · rw [h0] at hx; cases hx)
  clear hb cK1 hg5 hrS1
  have cUa : ∀ W q, CxAt W g N (bkT S k) → CxAt W q N (bkT (S ++ [a]) k) → Calls Try.prog 40 #[.slice (some ⟨g, 0, none⟩) N N, .slice (some ⟨q, 0, none⟩) N N] W fun e w' => ∃ v, e = .returned (.tuple #[v, .int .i64 0]) ∧ NtOw w' W.heap.size v (unL (bkT S k) (bkT (S ++ [a]) k) N) ∧ Below W.heap.size W w' := fun W q h1 h2 => unlike_any g q N HN9.out _ _ (bkT_res _ _) (bkT_res _ _) W h1 h2
  have cUb : ∀ W, CxAt W g N (bkT S k) → Calls Try.prog 40 #[.slice (some ⟨g, 0, none⟩) N N, .slice (some ⟨g, 0, none⟩) N N] W fun e w' => ∃ v, e = .returned (.tuple #[v, .int .i64 0]) ∧ NtOw w' W.heap.size v [] ∧ Below W.heap.size W w' := fun W h1 => by
    have := unlike_any g g N HN9.out _ _ (bkT_res S k) (bkT_res S k) W h1 h1
    rw [unL_self] at this
    exact this
  obtain ⟨B, hB⟩ : ∃ B, bktN a k = B := ⟨_, rfl⟩
  have cI : ∀ W g, IdRd W (some ⟨g, 0, none⟩) [a] → Calls Try.prog 39 #[.slice (some ⟨g, 0, none⟩) 1 1, .int .i64 (k : Int), .int .i64 (B : Int)] W fun e w' => ∃ A9 c9, e = .returned (.slice A9 1 c9) ∧ Below W.heap.size W w' := fun W g h1 => by
    refine (rin23_any (some ⟨g, 0, none⟩) 1 1 [a] k HK8.out (B : Int) W (one_row h1)).mono ?_
    rintro e w' ⟨v, rfl, ho, hb⟩
    rw [← hB, inL_self] at ho
    obtain ⟨A9, c9, rfl, _⟩ := own_rowC (l := [a]) ho (fun x hx => by rw [List.mem_singleton.1 hx]; exact ha) (show 1 ≤ 1000000 by decide)
    exact ⟨A9, c9, rfl, hb⟩
  have HBK := hid hB
  clear hB
  refine wp_region_held_drew (S := fun W => Below w5.heap.size w5 W) (by kernel_rfl) (below_drew1 w5) (fun hHeld => ?_)
  generalize w5.drew = w6 at *
  refine' wpAnyH_take (i := 1) (v := .slice A3 s c3) rfl (by kernel_rfl) (by kernel_rfl) (by kernel_rfl) (fun _ _ _ h => h) (Or.inl ⟨by rfl, fun w' hw' => by go_simp⟩) hHeld ?_
  try simp only [Act.put, List.getElem_toArray, List.getElem_cons_succ, List.getElem_cons_zero, List.setIfInBounds_toArray, List.set_cons_zero, List.set_cons_succ]
  refine' wpAnyH_take (i := 3) (v := _) rfl (by kernel_rfl) (by kernel_rfl) (by kernel_rfl) (fun _ _ _ h => h) (yieldsIf_load_mid (by rfl) 24 _ rfl _ _ rfl (a.map u8v) _ (fun w' h => hbx.below h) hu rfl hza) hHeld ?_
  try simp only [Act.put, List.getElem_toArray, List.getElem_cons_succ, List.getElem_cons_zero, List.setIfInBounds_toArray, List.set_cons_zero, List.set_cons_succ]
  refine' wpAnyH_take (i := 6) (v := .int .i64 (k : Int)) rfl (by kernel_rfl) (by kernel_rfl) (by kernel_rfl) (fun _ _ _ h => h) (Or.inl ⟨by rfl, fun w' hw' => by go_simp⟩) hHeld ?_
  try simp only [Act.put, List.getElem_toArray, List.getElem_cons_succ, List.getElem_cons_zero, List.setIfInBounds_toArray, List.set_cons_zero, List.set_cons_succ]
  refine wpAnyH_ready (rs := [0, 4]) (by kernel_rfl) (by simp) ?_
  refine AllReadyH.cons rfl (fun K hK => ?_) (AllReadyH.cons rfl (fun K hK => ?_) AllReadyH.nil)
  · go_simp
    have al0 := (Below.refl w6.heap.size w6).alloc (Nat.le_refl _) (.cells #[] 24)
    have HO := hid (show IdOw (w6.alloc (.cells #[] 24)) w5.heap.size (.slice (some ⟨w6.heap.size, 0, none⟩) 0 0) 0 [] from own_base (IdOw.made w6) hHeld.size)
    refine hK.out _ _ (hHeld.trans (al0.mono hHeld.size)) (fun hHeld => ?_)
    clear hK K
    try simp only [Act.put, List.getElem_toArray, List.getElem_cons_succ, List.getElem_cons_zero, List.setIfInBounds_toArray, List.set_cons_zero, List.set_cons_succ]
    have hlz : w6.heap.size < (w6.alloc (.cells #[] 24)).heap.size := by simp
    generalize w6.alloc (.cells #[] 24) = w10 at *
    refine wpAnyH_ready (rs := [2, 4]) (by kernel_rfl) (by simp) ?_
    refine AllReadyH.cons rfl (fun K hK => ?_) (AllReadyH.cons rfl (fun K hK => ?_) AllReadyH.nil)
    · refine wp_append_idw _ _ rfl w5.heap.size _ _ _ rfl HO.out A3 s c3 S rfl HLS.out HNS.out (hrS.below hHeld).1.2.2 HLIM.out hHeld.size ?_
      intro v7 w7 hown7 hg7
      have HO7 := hid (show IdOw w7 w5.heap.size v7 s S by simpa using hown7)
      have hH7 := IdOw.grown HO.out hg7 (Nat.le_refl _) hHeld hHeld.size
      refine hK.out _ _ hH7 (fun hHeld => ?_)
      clear hK K hown7 hg7 hH7
      try simp only [Act.put, List.getElem_toArray, List.getElem_cons_succ, List.getElem_cons_zero, List.setIfInBounds_toArray, List.set_cons_zero, List.set_cons_succ]
      refine wpAnyH_ready (rs := [4]) (by kernel_rfl) (by simp) ?_
      refine AllReadyH.cons rfl (fun K hK => ?_) AllReadyH.nil
      refine wp_build1i _ rfl a ha rfl ?_
      intro cs hrow
      have al4 := (Below.refl w7.heap.size w7).alloc (Nat.le_refl _) (.cells cs 24)
      have hltB : w7.heap.size < (w7.alloc (.cells cs 24)).heap.size := by simp
      have HRW := hid hrow
      replace HO7 := hid (show IdOw _ w5.heap.size _ _ _ from own_below HO7.out al4)
      refine hK.out _ _ (hHeld.trans (al4.mono hHeld.size)) (fun hHeld => ?_)
      clear hK K hrow
      try simp only [Act.put, List.getElem_toArray, List.getElem_cons_succ, List.getElem_cons_zero, List.setIfInBounds_toArray, List.set_cons_zero, List.set_cons_succ]
      refine wpAnyH_ready (rs := [5]) (by kernel_rfl) (by simp) ?_
      refine AllReadyH.cons rfl (fun K hK => ?_) AllReadyH.nil
      refine wp_append_idw _ _ rfl w5.heap.size _ _ _ rfl HO7.out (some ⟨_, 0, none⟩) 1 1 [a] rfl rfl (fun h => by cases h) HRW.out HLIM2.out hHeld.size ?_
      intro v8 w8 hown8 hg8
      have hH8 := IdOw.grown HO7.out hg8 (Nat.le_refl _) hHeld hHeld.size
      obtain ⟨A8, c8, rfl, hr8⟩ := own_rowC (l := S ++ [a]) hown8 H32.out HLIM2.out
      refine hK.out _ _ hH8 (fun hHeld => ?_)
      clear hK K hown8 hg8 hH8
      try simp only [Act.put, List.getElem_toArray, List.getElem_cons_succ, List.getElem_cons_zero, List.setIfInBounds_toArray, List.set_cons_zero, List.set_cons_succ]
      refine wpAnyH_ready (rs := [7]) (by kernel_rfl) (by simp) ?_
      refine AllReadyH.cons rfl (fun K hK => ?_) AllReadyH.nil
      have hr9 : RowR w8 A8 (s + 1) (S ++ [a]) := hr8.1
      go_simp
      (with_reducible refine (cK2 _ _ _ hr9).mono ?_)
      rintro e9 w9 ⟨q, hq, rfl, hC9, hb9⟩
      refine hK.out _ _ (hHeld.trans (hb9.mono hHeld.size)) (fun hHeld => ?_)
      clear hK K hr8 hr9 hb9 HRW HO7 hq
      try simp only [Act.put, List.getElem_toArray, List.getElem_cons_succ, List.getElem_cons_zero, List.setIfInBounds_toArray, List.set_cons_zero, List.set_cons_succ]
      refine' wpAnyH_take (i := 8) (v := .tuple #[.slice (some ⟨q, 0, none⟩) N N, .int .i64 0]) rfl (by kernel_rfl) (by kernel_rfl) (by kernel_rfl) (fun _ _ _ h => h) (Or.inl ⟨by rfl, fun w' hw' => by go_simp⟩) hHeld ?_
      try simp only [Act.put, List.getElem_toArray, List.getElem_cons_succ, List.getElem_cons_zero, List.setIfInBounds_toArray, List.set_cons_zero, List.set_cons_succ]
      refine' wpAnyH_take (i := 9) (v := .slice (some ⟨q, 0, none⟩) N N) rfl (by kernel_rfl) (by kernel_rfl) (by kernel_rfl) (fun _ _ _ h => h) (Or.inl ⟨by rfl, fun w' hw' => by go_simp⟩) hHeld ?_
      try simp only [Act.put, List.getElem_toArray, List.getElem_cons_succ, List.getElem_cons_zero, List.setIfInBounds_toArray, List.set_cons_zero, List.set_cons_succ]
      refine' wpAnyH_take (i := 10) (v := .int .i64 0) rfl (by kernel_rfl) (by kernel_rfl) (by kernel_rfl) (fun _ _ _ h => h) (Or.inl ⟨by rfl, fun w' hw' => by go_simp⟩) hHeld ?_
      try simp only [Act.put, List.getElem_toArray, List.getElem_cons_succ, List.getElem_cons_zero, List.setIfInBounds_toArray, List.set_cons_zero, List.set_cons_succ]
      refine' wpAnyH_take (i := 11) (v := .slice (some ⟨q, 0, none⟩) N N) rfl (by kernel_rfl) (by kernel_rfl) (by kernel_rfl) (fun _ _ _ h => h) (Or.inl ⟨by rfl, fun w' hw' => by go_simp⟩) hHeld ?_
      try simp only [Act.put, List.getElem_toArray, List.getElem_cons_succ, List.getElem_cons_zero, List.setIfInBounds_toArray, List.set_cons_zero, List.set_cons_succ]
      refine' wpAnyH_take (i := 12) (v := .int .i64 0) rfl (by kernel_rfl) (by kernel_rfl) (by kernel_rfl) (fun _ _ _ h => h) (Or.inl ⟨by rfl, fun w' hw' => by go_simp⟩) hHeld ?_
      try simp only [Act.put, List.getElem_toArray, List.getElem_cons_succ, List.getElem_cons_zero, List.setIfInBounds_toArray, List.set_cons_zero, List.set_cons_succ]
      refine wpAnyH_done (by kernel_rfl) ?_ _
      have hCg := hC5.below hHeld
      have hbx9 := hbx.below hHeld
      have hb9 := hb5.trans (hHeld.mono hb5.size)
      clear hHeld hC5 hbx hb5
      go_upto_region 9 with (first
        | (go_at_call 40; (with_reducible refine (cUa _ _ hCg hC9).mono ?_); rintro e10 w10 ⟨v1, rfl, hO1, hb10⟩; replace hCg := hCg.below hb10; replace hbx9 := hbx9.below hb10; replace hb9 := hb9.trans (hb10.mono hb9.size))
        | (go_at_call 40; (with_reducible refine (cUb _ hCg).mono ?_); rintro e11 w11 ⟨v2, rfl, hO2, hb11⟩))
      have h1 : NtOw w11 w9.heap.size v1 (unL (bkT S k) (bkT (S ++ [a]) k) N) := own_below hO1 hb11
      obtain ⟨Au, cu2, rfl⟩ : ∃ A c, v2 = .slice A 0 c := hO2.sl
      replace hbx9 := hbx9.below hb11
      replace hb9 := hb9.trans (hb11.mono hb9.size)
      clear hO1 hO2 hb10 hb11 hCg hC9 cUa cUb
      by_cases hz : idZ a = (1, 0)
      · rw [HUN.out, if_pos hz] at h1
        obtain ⟨Av, cv, rfl⟩ : ∃ A c, v1 = .slice A 0 c := h1.sl
        have cP : ∀ W, Calls Try.prog 41 #[.agg (List.map u8v a).toArray] W fun e w' => e = .returned (.agg #[.int .i64 1, .int .i64 0]) ∧ Below W.heap.size W w' := fun W => by
          have := rof22_any a ha W
          rw [hz] at this
          exact this
        have pe : ∀ W, (Op.equalIn 10000 63 (.agg #[.int .i64 1, .int .i64 0]) (.agg #[.int .i64 1, .int .i64 0])).run Try.prog W = .ok true W := fun W => pair_eqZ 1 0 1 0 W
        clear h1 hz
        go_wp2_with (first
          | (with_reducible refine wpList_load_if (by with_unfolding_all rfl) 24 _ rfl _ _ rfl (a.map u8v) _ hbx9 hu rfl hza ?_)
          | (go_at_call 41; (with_reducible refine (cP _).mono ?_); rintro e12 w12 ⟨rfl, hb12⟩; replace hb9 := hb9.trans (hb12.mono hb9.size))
          | (go_at_call 29; (with_reducible refine (awake23_any _).mono ?_); rintro e13 w13 ⟨rfl, hb13⟩; replace hb9 := hb9.trans (hb13.mono hb9.size)))
        go_ret
        exact ⟨rfl, hb9⟩
      · rw [HUN.out, if_neg hz, HBK.out] at h1
        obtain ⟨gu, cu, rfl, fu⟩ := h1.first
        have x0 : ∀ W, (Instr.indexAt 39 (.slice (some ⟨gu, 0, none⟩) 1 cu) (.int .i64 0)).run Try.prog W = .ok (.pointer (some ⟨gu, 0, none⟩)) W := fun W => nt_index gu 1 cu 0 (by decide) W
        clear h1 hz
        go_upto_region 12 with (fail)
        refine wp_region_held_drew (S := fun W => Below w11.heap.size w11 W) (by kernel_rfl) (below_drew1 w11) (fun hHeld => ?_)
        generalize w11.drew = w12 at *
        refine' wpAnyH_take (i := 0) (v := _) rfl (by kernel_rfl) (by kernel_rfl) (by kernel_rfl) (fun _ _ _ h => h) (yieldsIf_load_mid (by rfl) 24 _ rfl _ _ rfl (a.map u8v) _ (fun w' h => hbx9.below h) hu rfl hza) hHeld ?_
        try simp only [Act.put, List.getElem_toArray, List.getElem_cons_succ, List.getElem_cons_zero, List.setIfInBounds_toArray, List.set_cons_zero, List.set_cons_succ]
        refine' wpAnyH_take (i := 2) (v := .int .i64 (k : Int)) rfl (by kernel_rfl) (by kernel_rfl) (by kernel_rfl) (fun _ _ _ h => h) (Or.inl ⟨by rfl, fun w' hw' => by go_simp⟩) hHeld ?_
        try simp only [Act.put, List.getElem_toArray, List.getElem_cons_succ, List.getElem_cons_zero, List.setIfInBounds_toArray, List.set_cons_zero, List.set_cons_succ]
        refine' wpAnyH_take (i := 3) (v := .slice (some ⟨gu, 0, none⟩) 1 cu) rfl (by kernel_rfl) (by kernel_rfl) (by kernel_rfl) (fun _ _ _ h => h) (Or.inl ⟨by rfl, fun w' hw' => by go_simp⟩) hHeld ?_
        try simp only [Act.put, List.getElem_toArray, List.getElem_cons_succ, List.getElem_cons_zero, List.setIfInBounds_toArray, List.set_cons_zero, List.set_cons_succ]
        refine' wpAnyH_take (i := 4) (v := .pointer (some ⟨gu, 0, none⟩)) rfl (by kernel_rfl) (by kernel_rfl) (by kernel_rfl) (fun _ _ _ h => h) (Or.inl ⟨by rfl, fun w' hw' => by have hv := x0 w'; go_simp⟩) hHeld ?_
        try simp only [Act.put, List.getElem_toArray, List.getElem_cons_succ, List.getElem_cons_zero, List.setIfInBounds_toArray, List.set_cons_zero, List.set_cons_succ]
        refine' wpAnyH_take (i := 5) (v := .int .i64 (B : Int)) rfl (by kernel_rfl) (by kernel_rfl) (by kernel_rfl) (fun _ _ _ h => h) (Or.inl ⟨by rfl, fun w' hw' => by have hv := cell_belM hw' fu; go_simp⟩) hHeld ?_
        try simp only [Act.put, List.getElem_toArray, List.getElem_cons_succ, List.getElem_cons_zero, List.setIfInBounds_toArray, List.set_cons_zero, List.set_cons_succ]
        refine wpAnyH_ready (rs := [1]) (by kernel_rfl) (by simp) ?_
        refine AllReadyH.cons rfl (fun K hK => ?_) AllReadyH.nil
        refine wp_build1i _ rfl a ha rfl ?_
        intro cs2 hrow
        have al4 := (Below.refl w12.heap.size w12).alloc (Nat.le_refl _) (.cells cs2 24)
        refine hK.out _ _ (hHeld.trans (al4.mono hHeld.size)) (fun hHeld => ?_)
        clear hK K
        try simp only [Act.put, List.getElem_toArray, List.getElem_cons_succ, List.getElem_cons_zero, List.setIfInBounds_toArray, List.set_cons_zero, List.set_cons_succ]
        generalize w12.alloc (.cells cs2 24) = w13 at *
        refine wpAnyH_ready (rs := [6]) (by kernel_rfl) (by simp) ?_
        refine AllReadyH.cons rfl (fun K hK => ?_) AllReadyH.nil
        go_simp
        (with_reducible refine (cI _ _ hrow).mono ?_)
        rintro e14 w14 ⟨A9, c9, rfl, hb14⟩
        refine hK.out _ _ (hHeld.trans (hb14.mono hHeld.size)) (fun hHeld => ?_)
        clear hK K hrow hb14
        try simp only [Act.put, List.getElem_toArray, List.getElem_cons_succ, List.getElem_cons_zero, List.setIfInBounds_toArray, List.set_cons_zero, List.set_cons_succ]
        refine' wpAnyH_take (i := 7) (v := .int .i64 1) rfl (by kernel_rfl) (by kernel_rfl) (by kernel_rfl) (fun _ _ _ h => h) (Or.inl ⟨by rfl, fun w' hw' => by go_simp⟩) hHeld ?_
        try simp only [Act.put, List.getElem_toArray, List.getElem_cons_succ, List.getElem_cons_zero, List.setIfInBounds_toArray, List.set_cons_zero, List.set_cons_succ]
        refine' wpAnyH_take (i := 8) (v := .bool true) rfl (by kernel_rfl) (by kernel_rfl) (by kernel_rfl) (fun _ _ _ h => h) (Or.inl ⟨by rfl, fun w' hw' => by go_simp⟩) hHeld ?_
        try simp only [Act.put, List.getElem_toArray, List.getElem_cons_succ, List.getElem_cons_zero, List.setIfInBounds_toArray, List.set_cons_zero, List.set_cons_succ]
        refine' wpAnyH_take (i := 9) (v := .bool true) rfl (by kernel_rfl) (by kernel_rfl) (by kernel_rfl) (fun _ _ _ h => h) (Or.inl ⟨by rfl, fun w' hw' => by go_simp⟩) hHeld ?_
        try simp only [Act.put, List.getElem_toArray, List.getElem_cons_succ, List.getElem_cons_zero, List.setIfInBounds_toArray, List.set_cons_zero, List.set_cons_succ]
        refine wpAnyH_ready (rs := [10]) (by kernel_rfl) (by simp) ?_
        refine AllReadyH.cons rfl (fun K hK => ?_) AllReadyH.nil
        go_simp
        (with_reducible refine (awake23_any _).mono ?_)
        rintro e15 w15 ⟨rfl, hb15⟩
        refine hK.out _ _ (hHeld.trans (hb15.mono hHeld.size)) (fun hHeld => ?_)
        clear hK K hb15
        try simp only [Act.put, List.getElem_toArray, List.getElem_cons_succ, List.getElem_cons_zero, List.setIfInBounds_toArray, List.set_cons_zero, List.set_cons_succ]
        refine' wpAnyH_take (i := 11) (v := .bool true) rfl (by kernel_rfl) (by kernel_rfl) (by kernel_rfl) (fun _ _ _ h => h) (Or.inl ⟨by rfl, fun w' hw' => by go_simp⟩) hHeld ?_
        try simp only [Act.put, List.getElem_toArray, List.getElem_cons_succ, List.getElem_cons_zero, List.setIfInBounds_toArray, List.set_cons_zero, List.set_cons_succ]
        refine' wpAnyH_take (i := 12) (v := .bool true) rfl (by kernel_rfl) (by kernel_rfl) (by kernel_rfl) (fun _ _ _ h => h) (Or.inl ⟨by rfl, fun w' hw' => by go_simp⟩) hHeld ?_
        try simp only [Act.put, List.getElem_toArray, List.getElem_cons_succ, List.getElem_cons_zero, List.setIfInBounds_toArray, List.set_cons_zero, List.set_cons_succ]
        refine wpAnyH_done (by kernel_rfl) ?_ _
        go_wp2_with (fail)
        go_ret
        exact ⟨rfl, hb9.trans (hHeld.mono hb9.size)⟩
    · refine wp_build1i _ rfl a ha rfl ?_
      intro cs hrow
      have al4 := (Below.refl w10.heap.size w10).alloc (Nat.le_refl _) (.cells cs 24)
      have hltB : w10.heap.size < (w10.alloc (.cells cs 24)).heap.size := by simp
      have HRW := hid hrow
      replace HO := hid (show IdOw _ w5.heap.size _ _ _ from own_below HO.out al4)
      refine hK.out _ _ (hHeld.trans (al4.mono hHeld.size)) (fun hHeld => ?_)
      clear hK K hrow
      try simp only [Act.put, List.getElem_toArray, List.getElem_cons_succ, List.getElem_cons_zero, List.setIfInBounds_toArray, List.set_cons_zero, List.set_cons_succ]
      generalize w10.alloc (.cells cs 24) = w11 at *
      refine wpAnyH_ready (rs := [2]) (by kernel_rfl) (by simp) ?_
      refine AllReadyH.cons rfl (fun K hK => ?_) AllReadyH.nil
      refine wp_append_idw _ _ rfl w5.heap.size _ _ _ rfl HO.out A3 s c3 S rfl HLS.out HNS.out (hrS.below hHeld).1.2.2 HLIM.out hHeld.size ?_
      intro v7 w7 hown7 hg7
      have HO7 := hid (show IdOw w7 w5.heap.size v7 s S by simpa using hown7)
      have hH7 := IdOw.grown HO.out hg7 (Nat.le_refl _) hHeld hHeld.size
      replace HRW := hid (IdRd.kept_ HRW.out hg7 (fun e => by have e9 : some w6.heap.size = some w10.heap.size := e; have := Option.some.inj e9; omega) hltB)
      refine hK.out _ _ hH7 (fun hHeld => ?_)
      clear hK K hown7 hg7 hH7
      try simp only [Act.put, List.getElem_toArray, List.getElem_cons_succ, List.getElem_cons_zero, List.setIfInBounds_toArray, List.set_cons_zero, List.set_cons_succ]
      refine wpAnyH_ready (rs := [5]) (by kernel_rfl) (by simp) ?_
      refine AllReadyH.cons rfl (fun K hK => ?_) AllReadyH.nil
      refine wp_append_idw _ _ rfl w5.heap.size _ _ _ rfl HO7.out (some ⟨_, 0, none⟩) 1 1 [a] rfl rfl (fun h => by cases h) HRW.out HLIM2.out hHeld.size ?_
      intro v8 w8 hown8 hg8
      have hH8 := IdOw.grown HO7.out hg8 (Nat.le_refl _) hHeld hHeld.size
      obtain ⟨A8, c8, rfl, hr8⟩ := own_rowC (l := S ++ [a]) hown8 H32.out HLIM2.out
      refine hK.out _ _ hH8 (fun hHeld => ?_)
      clear hK K hown8 hg8 hH8
      try simp only [Act.put, List.getElem_toArray, List.getElem_cons_succ, List.getElem_cons_zero, List.setIfInBounds_toArray, List.set_cons_zero, List.set_cons_succ]
      refine wpAnyH_ready (rs := [7]) (by kernel_rfl) (by simp) ?_
      refine AllReadyH.cons rfl (fun K hK => ?_) AllReadyH.nil
      have hr9 : RowR w8 A8 (s + 1) (S ++ [a]) := hr8.1
      go_simp
      (with_reducible refine (cK2 _ _ _ hr9).mono ?_)
      rintro e9 w9 ⟨q, hq, rfl, hC9, hb9⟩
      refine hK.out _ _ (hHeld.trans (hb9.mono hHeld.size)) (fun hHeld => ?_)
      clear hK K hr8 hr9 hb9 HRW HO7 hq
      try simp only [Act.put, List.getElem_toArray, List.getElem_cons_succ, List.getElem_cons_zero, List.setIfInBounds_toArray, List.set_cons_zero, List.set_cons_succ]
      refine' wpAnyH_take (i := 8) (v := .tuple #[.slice (some ⟨q, 0, none⟩) N N, .int .i64 0]) rfl (by kernel_rfl) (by kernel_rfl) (by kernel_rfl) (fun _ _ _ h => h) (Or.inl ⟨by rfl, fun w' hw' => by go_simp⟩) hHeld ?_
      try simp only [Act.put, List.getElem_toArray, List.getElem_cons_succ, List.getElem_cons_zero, List.setIfInBounds_toArray, List.set_cons_zero, List.set_cons_succ]
      refine' wpAnyH_take (i := 9) (v := .slice (some ⟨q, 0, none⟩) N N) rfl (by kernel_rfl) (by kernel_rfl) (by kernel_rfl) (fun _ _ _ h => h) (Or.inl ⟨by rfl, fun w' hw' => by go_simp⟩) hHeld ?_
      try simp only [Act.put, List.getElem_toArray, List.getElem_cons_succ, List.getElem_cons_zero, List.setIfInBounds_toArray, List.set_cons_zero, List.set_cons_succ]
      refine' wpAnyH_take (i := 10) (v := .int .i64 0) rfl (by kernel_rfl) (by kernel_rfl) (by kernel_rfl) (fun _ _ _ h => h) (Or.inl ⟨by rfl, fun w' hw' => by go_simp⟩) hHeld ?_
      try simp only [Act.put, List.getElem_toArray, List.getElem_cons_succ, List.getElem_cons_zero, List.setIfInBounds_toArray, List.set_cons_zero, List.set_cons_succ]
      refine' wpAnyH_take (i := 11) (v := .slice (some ⟨q, 0, none⟩) N N) rfl (by kernel_rfl) (by kernel_rfl) (by kernel_rfl) (fun _ _ _ h => h) (Or.inl ⟨by rfl, fun w' hw' => by go_simp⟩) hHeld ?_
      try simp only [Act.put, List.getElem_toArray, List.getElem_cons_succ, List.getElem_cons_zero, List.setIfInBounds_toArray, List.set_cons_zero, List.set_cons_succ]
      refine' wpAnyH_take (i := 12) (v := .int .i64 0) rfl (by kernel_rfl) (by kernel_rfl) (by kernel_rfl) (fun _ _ _ h => h) (Or.inl ⟨by rfl, fun w' hw' => by go_simp⟩) hHeld ?_
      try simp only [Act.put, List.getElem_toArray, List.getElem_cons_succ, List.getElem_cons_zero, List.setIfInBounds_toArray, List.set_cons_zero, List.set_cons_succ]
      refine wpAnyH_done (by kernel_rfl) ?_ _
      have hCg := hC5.below hHeld
      have hbx9 := hbx.below hHeld
      have hb9 := hb5.trans (hHeld.mono hb5.size)
      clear hHeld hC5 hbx hb5
      go_upto_region 9 with (first
        | (go_at_call 40; (with_reducible refine (cUa _ _ hCg hC9).mono ?_); rintro e10 w10 ⟨v1, rfl, hO1, hb10⟩; replace hCg := hCg.below hb10; replace hbx9 := hbx9.below hb10; replace hb9 := hb9.trans (hb10.mono hb9.size))
        | (go_at_call 40; (with_reducible refine (cUb _ hCg).mono ?_); rintro e11 w11 ⟨v2, rfl, hO2, hb11⟩))
      have h1 : NtOw w11 w9.heap.size v1 (unL (bkT S k) (bkT (S ++ [a]) k) N) := own_below hO1 hb11
      obtain ⟨Au, cu2, rfl⟩ : ∃ A c, v2 = .slice A 0 c := hO2.sl
      replace hbx9 := hbx9.below hb11
      replace hb9 := hb9.trans (hb11.mono hb9.size)
      clear hO1 hO2 hb10 hb11 hCg hC9 cUa cUb
      by_cases hz : idZ a = (1, 0)
      · rw [HUN.out, if_pos hz] at h1
        obtain ⟨Av, cv, rfl⟩ : ∃ A c, v1 = .slice A 0 c := h1.sl
        have cP : ∀ W, Calls Try.prog 41 #[.agg (List.map u8v a).toArray] W fun e w' => e = .returned (.agg #[.int .i64 1, .int .i64 0]) ∧ Below W.heap.size W w' := fun W => by
          have := rof22_any a ha W
          rw [hz] at this
          exact this
        have pe : ∀ W, (Op.equalIn 10000 63 (.agg #[.int .i64 1, .int .i64 0]) (.agg #[.int .i64 1, .int .i64 0])).run Try.prog W = .ok true W := fun W => pair_eqZ 1 0 1 0 W
        clear h1 hz
        go_wp2_with (first
          | (with_reducible refine wpList_load_if (by with_unfolding_all rfl) 24 _ rfl _ _ rfl (a.map u8v) _ hbx9 hu rfl hza ?_)
          | (go_at_call 41; (with_reducible refine (cP _).mono ?_); rintro e12 w12 ⟨rfl, hb12⟩; replace hb9 := hb9.trans (hb12.mono hb9.size))
          | (go_at_call 29; (with_reducible refine (awake23_any _).mono ?_); rintro e13 w13 ⟨rfl, hb13⟩; replace hb9 := hb9.trans (hb13.mono hb9.size)))
        go_ret
        exact ⟨rfl, hb9⟩
      · rw [HUN.out, if_neg hz, HBK.out] at h1
        obtain ⟨gu, cu, rfl, fu⟩ := h1.first
        have x0 : ∀ W, (Instr.indexAt 39 (.slice (some ⟨gu, 0, none⟩) 1 cu) (.int .i64 0)).run Try.prog W = .ok (.pointer (some ⟨gu, 0, none⟩)) W := fun W => nt_index gu 1 cu 0 (by decide) W
        clear h1 hz
        go_upto_region 12 with (fail)
        refine wp_region_held_drew (S := fun W => Below w11.heap.size w11 W) (by kernel_rfl) (below_drew1 w11) (fun hHeld => ?_)
        generalize w11.drew = w12 at *
        refine' wpAnyH_take (i := 0) (v := _) rfl (by kernel_rfl) (by kernel_rfl) (by kernel_rfl) (fun _ _ _ h => h) (yieldsIf_load_mid (by rfl) 24 _ rfl _ _ rfl (a.map u8v) _ (fun w' h => hbx9.below h) hu rfl hza) hHeld ?_
        try simp only [Act.put, List.getElem_toArray, List.getElem_cons_succ, List.getElem_cons_zero, List.setIfInBounds_toArray, List.set_cons_zero, List.set_cons_succ]
        refine' wpAnyH_take (i := 2) (v := .int .i64 (k : Int)) rfl (by kernel_rfl) (by kernel_rfl) (by kernel_rfl) (fun _ _ _ h => h) (Or.inl ⟨by rfl, fun w' hw' => by go_simp⟩) hHeld ?_
        try simp only [Act.put, List.getElem_toArray, List.getElem_cons_succ, List.getElem_cons_zero, List.setIfInBounds_toArray, List.set_cons_zero, List.set_cons_succ]
        refine' wpAnyH_take (i := 3) (v := .slice (some ⟨gu, 0, none⟩) 1 cu) rfl (by kernel_rfl) (by kernel_rfl) (by kernel_rfl) (fun _ _ _ h => h) (Or.inl ⟨by rfl, fun w' hw' => by go_simp⟩) hHeld ?_
        try simp only [Act.put, List.getElem_toArray, List.getElem_cons_succ, List.getElem_cons_zero, List.setIfInBounds_toArray, List.set_cons_zero, List.set_cons_succ]
        refine' wpAnyH_take (i := 4) (v := .pointer (some ⟨gu, 0, none⟩)) rfl (by kernel_rfl) (by kernel_rfl) (by kernel_rfl) (fun _ _ _ h => h) (Or.inl ⟨by rfl, fun w' hw' => by have hv := x0 w'; go_simp⟩) hHeld ?_
        try simp only [Act.put, List.getElem_toArray, List.getElem_cons_succ, List.getElem_cons_zero, List.setIfInBounds_toArray, List.set_cons_zero, List.set_cons_succ]
        refine' wpAnyH_take (i := 5) (v := .int .i64 (B : Int)) rfl (by kernel_rfl) (by kernel_rfl) (by kernel_rfl) (fun _ _ _ h => h) (Or.inl ⟨by rfl, fun w' hw' => by have hv := cell_belM hw' fu; go_simp⟩) hHeld ?_
        try simp only [Act.put, List.getElem_toArray, List.getElem_cons_succ, List.getElem_cons_zero, List.setIfInBounds_toArray, List.set_cons_zero, List.set_cons_succ]
        refine wpAnyH_ready (rs := [1]) (by kernel_rfl) (by simp) ?_
        refine AllReadyH.cons rfl (fun K hK => ?_) AllReadyH.nil
        refine wp_build1i _ rfl a ha rfl ?_
        intro cs2 hrow
        have al4 := (Below.refl w12.heap.size w12).alloc (Nat.le_refl _) (.cells cs2 24)
        refine hK.out _ _ (hHeld.trans (al4.mono hHeld.size)) (fun hHeld => ?_)
        clear hK K
        try simp only [Act.put, List.getElem_toArray, List.getElem_cons_succ, List.getElem_cons_zero, List.setIfInBounds_toArray, List.set_cons_zero, List.set_cons_succ]
        generalize w12.alloc (.cells cs2 24) = w13 at *
        refine wpAnyH_ready (rs := [6]) (by kernel_rfl) (by simp) ?_
        refine AllReadyH.cons rfl (fun K hK => ?_) AllReadyH.nil
        go_simp
        (with_reducible refine (cI _ _ hrow).mono ?_)
        rintro e14 w14 ⟨A9, c9, rfl, hb14⟩
        refine hK.out _ _ (hHeld.trans (hb14.mono hHeld.size)) (fun hHeld => ?_)
        clear hK K hrow hb14
        try simp only [Act.put, List.getElem_toArray, List.getElem_cons_succ, List.getElem_cons_zero, List.setIfInBounds_toArray, List.set_cons_zero, List.set_cons_succ]
        refine' wpAnyH_take (i := 7) (v := .int .i64 1) rfl (by kernel_rfl) (by kernel_rfl) (by kernel_rfl) (fun _ _ _ h => h) (Or.inl ⟨by rfl, fun w' hw' => by go_simp⟩) hHeld ?_
        try simp only [Act.put, List.getElem_toArray, List.getElem_cons_succ, List.getElem_cons_zero, List.setIfInBounds_toArray, List.set_cons_zero, List.set_cons_succ]
        refine' wpAnyH_take (i := 8) (v := .bool true) rfl (by kernel_rfl) (by kernel_rfl) (by kernel_rfl) (fun _ _ _ h => h) (Or.inl ⟨by rfl, fun w' hw' => by go_simp⟩) hHeld ?_
        try simp only [Act.put, List.getElem_toArray, List.getElem_cons_succ, List.getElem_cons_zero, List.setIfInBounds_toArray, List.set_cons_zero, List.set_cons_succ]
        refine' wpAnyH_take (i := 9) (v := .bool true) rfl (by kernel_rfl) (by kernel_rfl) (by kernel_rfl) (fun _ _ _ h => h) (Or.inl ⟨by rfl, fun w' hw' => by go_simp⟩) hHeld ?_
        try simp only [Act.put, List.getElem_toArray, List.getElem_cons_succ, List.getElem_cons_zero, List.setIfInBounds_toArray, List.set_cons_zero, List.set_cons_succ]
        refine wpAnyH_ready (rs := [10]) (by kernel_rfl) (by simp) ?_
        refine AllReadyH.cons rfl (fun K hK => ?_) AllReadyH.nil
        go_simp
        (with_reducible refine (awake23_any _).mono ?_)
        rintro e15 w15 ⟨rfl, hb15⟩
        refine hK.out _ _ (hHeld.trans (hb15.mono hHeld.size)) (fun hHeld => ?_)
        clear hK K hb15
        try simp only [Act.put, List.getElem_toArray, List.getElem_cons_succ, List.getElem_cons_zero, List.setIfInBounds_toArray, List.set_cons_zero, List.set_cons_succ]
        refine' wpAnyH_take (i := 11) (v := .bool true) rfl (by kernel_rfl) (by kernel_rfl) (by kernel_rfl) (fun _ _ _ h => h) (Or.inl ⟨by rfl, fun w' hw' => by go_simp⟩) hHeld ?_
        try simp only [Act.put, List.getElem_toArray, List.getElem_cons_succ, List.getElem_cons_zero, List.setIfInBounds_toArray, List.set_cons_zero, List.set_cons_succ]
        refine' wpAnyH_take (i := 12) (v := .bool true) rfl (by kernel_rfl) (by kernel_rfl) (by kernel_rfl) (fun _ _ _ h => h) (Or.inl ⟨by rfl, fun w' hw' => by go_simp⟩) hHeld ?_
        try simp only [Act.put, List.getElem_toArray, List.getElem_cons_succ, List.getElem_cons_zero, List.setIfInBounds_toArray, List.set_cons_zero, List.set_cons_succ]
        refine wpAnyH_done (by kernel_rfl) ?_ _
        go_wp2_with (fail)
        go_ret
        exact ⟨rfl, hb9.trans (hHeld.mono hb9.size)⟩
  · refine wp_build1i _ rfl a ha rfl ?_
    intro cs hrow
    have al4 := (Below.refl w6.heap.size w6).alloc (Nat.le_refl _) (.cells cs 24)
    have hltB : w6.heap.size < (w6.alloc (.cells cs 24)).heap.size := by simp
    have HRW := hid hrow
    refine hK.out _ _ (hHeld.trans (al4.mono hHeld.size)) (fun hHeld => ?_)
    clear hK K hrow
    try simp only [Act.put, List.getElem_toArray, List.getElem_cons_succ, List.getElem_cons_zero, List.setIfInBounds_toArray, List.set_cons_zero, List.set_cons_succ]
    generalize w6.alloc (.cells cs 24) = w10 at *
    refine wpAnyH_ready (rs := [0]) (by kernel_rfl) (by simp) ?_
    refine AllReadyH.cons rfl (fun K hK => ?_) AllReadyH.nil
    go_simp
    have al0 := (Below.refl w10.heap.size w10).alloc (Nat.le_refl _) (.cells #[] 24)
    have HO := hid (show IdOw (w10.alloc (.cells #[] 24)) w5.heap.size (.slice (some ⟨w10.heap.size, 0, none⟩) 0 0) 0 [] from own_base (IdOw.made w10) hHeld.size)
    refine hK.out _ _ (hHeld.trans (al0.mono hHeld.size)) (fun hHeld => ?_)
    clear hK K
    try simp only [Act.put, List.getElem_toArray, List.getElem_cons_succ, List.getElem_cons_zero, List.setIfInBounds_toArray, List.set_cons_zero, List.set_cons_succ]
    replace HRW := hid (HRW.out.below al0)
    have hltC := Nat.lt_of_lt_of_le hltB al0.size
    generalize w10.alloc (.cells #[] 24) = w11 at *
    refine wpAnyH_ready (rs := [2]) (by kernel_rfl) (by simp) ?_
    refine AllReadyH.cons rfl (fun K hK => ?_) AllReadyH.nil
    refine wp_append_idw _ _ rfl w5.heap.size _ _ _ rfl HO.out A3 s c3 S rfl HLS.out HNS.out (hrS.below hHeld).1.2.2 HLIM.out hHeld.size ?_
    intro v7 w7 hown7 hg7
    have HO7 := hid (show IdOw w7 w5.heap.size v7 s S by simpa using hown7)
    have hH7 := IdOw.grown HO.out hg7 (Nat.le_refl _) hHeld hHeld.size
    replace HRW := hid (IdRd.kept_ HRW.out hg7 (fun e => by have e9 : some w10.heap.size = some w6.heap.size := e; have := Option.some.inj e9; omega) hltC)
    refine hK.out _ _ hH7 (fun hHeld => ?_)
    clear hK K hown7 hg7 hH7
    try simp only [Act.put, List.getElem_toArray, List.getElem_cons_succ, List.getElem_cons_zero, List.setIfInBounds_toArray, List.set_cons_zero, List.set_cons_succ]
    refine wpAnyH_ready (rs := [5]) (by kernel_rfl) (by simp) ?_
    refine AllReadyH.cons rfl (fun K hK => ?_) AllReadyH.nil
    refine wp_append_idw _ _ rfl w5.heap.size _ _ _ rfl HO7.out (some ⟨_, 0, none⟩) 1 1 [a] rfl rfl (fun h => by cases h) HRW.out HLIM2.out hHeld.size ?_
    intro v8 w8 hown8 hg8
    have hH8 := IdOw.grown HO7.out hg8 (Nat.le_refl _) hHeld hHeld.size
    obtain ⟨A8, c8, rfl, hr8⟩ := own_rowC (l := S ++ [a]) hown8 H32.out HLIM2.out
    refine hK.out _ _ hH8 (fun hHeld => ?_)
    clear hK K hown8 hg8 hH8
    try simp only [Act.put, List.getElem_toArray, List.getElem_cons_succ, List.getElem_cons_zero, List.setIfInBounds_toArray, List.set_cons_zero, List.set_cons_succ]
    refine wpAnyH_ready (rs := [7]) (by kernel_rfl) (by simp) ?_
    refine AllReadyH.cons rfl (fun K hK => ?_) AllReadyH.nil
    have hr9 : RowR w8 A8 (s + 1) (S ++ [a]) := hr8.1
    go_simp
    (with_reducible refine (cK2 _ _ _ hr9).mono ?_)
    rintro e9 w9 ⟨q, hq, rfl, hC9, hb9⟩
    refine hK.out _ _ (hHeld.trans (hb9.mono hHeld.size)) (fun hHeld => ?_)
    clear hK K hr8 hr9 hb9 HRW HO7 hq
    try simp only [Act.put, List.getElem_toArray, List.getElem_cons_succ, List.getElem_cons_zero, List.setIfInBounds_toArray, List.set_cons_zero, List.set_cons_succ]
    refine' wpAnyH_take (i := 8) (v := .tuple #[.slice (some ⟨q, 0, none⟩) N N, .int .i64 0]) rfl (by kernel_rfl) (by kernel_rfl) (by kernel_rfl) (fun _ _ _ h => h) (Or.inl ⟨by rfl, fun w' hw' => by go_simp⟩) hHeld ?_
    try simp only [Act.put, List.getElem_toArray, List.getElem_cons_succ, List.getElem_cons_zero, List.setIfInBounds_toArray, List.set_cons_zero, List.set_cons_succ]
    refine' wpAnyH_take (i := 9) (v := .slice (some ⟨q, 0, none⟩) N N) rfl (by kernel_rfl) (by kernel_rfl) (by kernel_rfl) (fun _ _ _ h => h) (Or.inl ⟨by rfl, fun w' hw' => by go_simp⟩) hHeld ?_
    try simp only [Act.put, List.getElem_toArray, List.getElem_cons_succ, List.getElem_cons_zero, List.setIfInBounds_toArray, List.set_cons_zero, List.set_cons_succ]
    refine' wpAnyH_take (i := 10) (v := .int .i64 0) rfl (by kernel_rfl) (by kernel_rfl) (by kernel_rfl) (fun _ _ _ h => h) (Or.inl ⟨by rfl, fun w' hw' => by go_simp⟩) hHeld ?_
    try simp only [Act.put, List.getElem_toArray, List.getElem_cons_succ, List.getElem_cons_zero, List.setIfInBounds_toArray, List.set_cons_zero, List.set_cons_succ]
    refine' wpAnyH_take (i := 11) (v := .slice (some ⟨q, 0, none⟩) N N) rfl (by kernel_rfl) (by kernel_rfl) (by kernel_rfl) (fun _ _ _ h => h) (Or.inl ⟨by rfl, fun w' hw' => by go_simp⟩) hHeld ?_
    try simp only [Act.put, List.getElem_toArray, List.getElem_cons_succ, List.getElem_cons_zero, List.setIfInBounds_toArray, List.set_cons_zero, List.set_cons_succ]
    refine' wpAnyH_take (i := 12) (v := .int .i64 0) rfl (by kernel_rfl) (by kernel_rfl) (by kernel_rfl) (fun _ _ _ h => h) (Or.inl ⟨by rfl, fun w' hw' => by go_simp⟩) hHeld ?_
    try simp only [Act.put, List.getElem_toArray, List.getElem_cons_succ, List.getElem_cons_zero, List.setIfInBounds_toArray, List.set_cons_zero, List.set_cons_succ]
    refine wpAnyH_done (by kernel_rfl) ?_ _
    have hCg := hC5.below hHeld
    have hbx9 := hbx.below hHeld
    have hb9 := hb5.trans (hHeld.mono hb5.size)
    clear hHeld hC5 hbx hb5
    go_upto_region 9 with (first
      | (go_at_call 40; (with_reducible refine (cUa _ _ hCg hC9).mono ?_); rintro e10 w10 ⟨v1, rfl, hO1, hb10⟩; replace hCg := hCg.below hb10; replace hbx9 := hbx9.below hb10; replace hb9 := hb9.trans (hb10.mono hb9.size))
      | (go_at_call 40; (with_reducible refine (cUb _ hCg).mono ?_); rintro e11 w11 ⟨v2, rfl, hO2, hb11⟩))
    have h1 : NtOw w11 w9.heap.size v1 (unL (bkT S k) (bkT (S ++ [a]) k) N) := own_below hO1 hb11
    obtain ⟨Au, cu2, rfl⟩ : ∃ A c, v2 = .slice A 0 c := hO2.sl
    replace hbx9 := hbx9.below hb11
    replace hb9 := hb9.trans (hb11.mono hb9.size)
    clear hO1 hO2 hb10 hb11 hCg hC9 cUa cUb
    by_cases hz : idZ a = (1, 0)
    · rw [HUN.out, if_pos hz] at h1
      obtain ⟨Av, cv, rfl⟩ : ∃ A c, v1 = .slice A 0 c := h1.sl
      have cP : ∀ W, Calls Try.prog 41 #[.agg (List.map u8v a).toArray] W fun e w' => e = .returned (.agg #[.int .i64 1, .int .i64 0]) ∧ Below W.heap.size W w' := fun W => by
        have := rof22_any a ha W
        rw [hz] at this
        exact this
      have pe : ∀ W, (Op.equalIn 10000 63 (.agg #[.int .i64 1, .int .i64 0]) (.agg #[.int .i64 1, .int .i64 0])).run Try.prog W = .ok true W := fun W => pair_eqZ 1 0 1 0 W
      clear h1 hz
      go_wp2_with (first
        | (with_reducible refine wpList_load_if (by with_unfolding_all rfl) 24 _ rfl _ _ rfl (a.map u8v) _ hbx9 hu rfl hza ?_)
        | (go_at_call 41; (with_reducible refine (cP _).mono ?_); rintro e12 w12 ⟨rfl, hb12⟩; replace hb9 := hb9.trans (hb12.mono hb9.size))
        | (go_at_call 29; (with_reducible refine (awake23_any _).mono ?_); rintro e13 w13 ⟨rfl, hb13⟩; replace hb9 := hb9.trans (hb13.mono hb9.size)))
      go_ret
      exact ⟨rfl, hb9⟩
    · rw [HUN.out, if_neg hz, HBK.out] at h1
      obtain ⟨gu, cu, rfl, fu⟩ := h1.first
      have x0 : ∀ W, (Instr.indexAt 39 (.slice (some ⟨gu, 0, none⟩) 1 cu) (.int .i64 0)).run Try.prog W = .ok (.pointer (some ⟨gu, 0, none⟩)) W := fun W => nt_index gu 1 cu 0 (by decide) W
      clear h1 hz
      go_upto_region 12 with (fail)
      refine wp_region_held_drew (S := fun W => Below w11.heap.size w11 W) (by kernel_rfl) (below_drew1 w11) (fun hHeld => ?_)
      generalize w11.drew = w12 at *
      refine' wpAnyH_take (i := 0) (v := _) rfl (by kernel_rfl) (by kernel_rfl) (by kernel_rfl) (fun _ _ _ h => h) (yieldsIf_load_mid (by rfl) 24 _ rfl _ _ rfl (a.map u8v) _ (fun w' h => hbx9.below h) hu rfl hza) hHeld ?_
      try simp only [Act.put, List.getElem_toArray, List.getElem_cons_succ, List.getElem_cons_zero, List.setIfInBounds_toArray, List.set_cons_zero, List.set_cons_succ]
      refine' wpAnyH_take (i := 2) (v := .int .i64 (k : Int)) rfl (by kernel_rfl) (by kernel_rfl) (by kernel_rfl) (fun _ _ _ h => h) (Or.inl ⟨by rfl, fun w' hw' => by go_simp⟩) hHeld ?_
      try simp only [Act.put, List.getElem_toArray, List.getElem_cons_succ, List.getElem_cons_zero, List.setIfInBounds_toArray, List.set_cons_zero, List.set_cons_succ]
      refine' wpAnyH_take (i := 3) (v := .slice (some ⟨gu, 0, none⟩) 1 cu) rfl (by kernel_rfl) (by kernel_rfl) (by kernel_rfl) (fun _ _ _ h => h) (Or.inl ⟨by rfl, fun w' hw' => by go_simp⟩) hHeld ?_
      try simp only [Act.put, List.getElem_toArray, List.getElem_cons_succ, List.getElem_cons_zero, List.setIfInBounds_toArray, List.set_cons_zero, List.set_cons_succ]
      refine' wpAnyH_take (i := 4) (v := .pointer (some ⟨gu, 0, none⟩)) rfl (by kernel_rfl) (by kernel_rfl) (by kernel_rfl) (fun _ _ _ h => h) (Or.inl ⟨by rfl, fun w' hw' => by have hv := x0 w'; go_simp⟩) hHeld ?_
      try simp only [Act.put, List.getElem_toArray, List.getElem_cons_succ, List.getElem_cons_zero, List.setIfInBounds_toArray, List.set_cons_zero, List.set_cons_succ]
      refine' wpAnyH_take (i := 5) (v := .int .i64 (B : Int)) rfl (by kernel_rfl) (by kernel_rfl) (by kernel_rfl) (fun _ _ _ h => h) (Or.inl ⟨by rfl, fun w' hw' => by have hv := cell_belM hw' fu; go_simp⟩) hHeld ?_
      try simp only [Act.put, List.getElem_toArray, List.getElem_cons_succ, List.getElem_cons_zero, List.setIfInBounds_toArray, List.set_cons_zero, List.set_cons_succ]
      refine wpAnyH_ready (rs := [1]) (by kernel_rfl) (by simp) ?_
      refine AllReadyH.cons rfl (fun K hK => ?_) AllReadyH.nil
      refine wp_build1i _ rfl a ha rfl ?_
      intro cs2 hrow
      have al4 := (Below.refl w12.heap.size w12).alloc (Nat.le_refl _) (.cells cs2 24)
      refine hK.out _ _ (hHeld.trans (al4.mono hHeld.size)) (fun hHeld => ?_)
      clear hK K
      try simp only [Act.put, List.getElem_toArray, List.getElem_cons_succ, List.getElem_cons_zero, List.setIfInBounds_toArray, List.set_cons_zero, List.set_cons_succ]
      generalize w12.alloc (.cells cs2 24) = w13 at *
      refine wpAnyH_ready (rs := [6]) (by kernel_rfl) (by simp) ?_
      refine AllReadyH.cons rfl (fun K hK => ?_) AllReadyH.nil
      go_simp
      (with_reducible refine (cI _ _ hrow).mono ?_)
      rintro e14 w14 ⟨A9, c9, rfl, hb14⟩
      refine hK.out _ _ (hHeld.trans (hb14.mono hHeld.size)) (fun hHeld => ?_)
      clear hK K hrow hb14
      try simp only [Act.put, List.getElem_toArray, List.getElem_cons_succ, List.getElem_cons_zero, List.setIfInBounds_toArray, List.set_cons_zero, List.set_cons_succ]
      refine' wpAnyH_take (i := 7) (v := .int .i64 1) rfl (by kernel_rfl) (by kernel_rfl) (by kernel_rfl) (fun _ _ _ h => h) (Or.inl ⟨by rfl, fun w' hw' => by go_simp⟩) hHeld ?_
      try simp only [Act.put, List.getElem_toArray, List.getElem_cons_succ, List.getElem_cons_zero, List.setIfInBounds_toArray, List.set_cons_zero, List.set_cons_succ]
      refine' wpAnyH_take (i := 8) (v := .bool true) rfl (by kernel_rfl) (by kernel_rfl) (by kernel_rfl) (fun _ _ _ h => h) (Or.inl ⟨by rfl, fun w' hw' => by go_simp⟩) hHeld ?_
      try simp only [Act.put, List.getElem_toArray, List.getElem_cons_succ, List.getElem_cons_zero, List.setIfInBounds_toArray, List.set_cons_zero, List.set_cons_succ]
      refine' wpAnyH_take (i := 9) (v := .bool true) rfl (by kernel_rfl) (by kernel_rfl) (by kernel_rfl) (fun _ _ _ h => h) (Or.inl ⟨by rfl, fun w' hw' => by go_simp⟩) hHeld ?_
      try simp only [Act.put, List.getElem_toArray, List.getElem_cons_succ, List.getElem_cons_zero, List.setIfInBounds_toArray, List.set_cons_zero, List.set_cons_succ]
      refine wpAnyH_ready (rs := [10]) (by kernel_rfl) (by simp) ?_
      refine AllReadyH.cons rfl (fun K hK => ?_) AllReadyH.nil
      go_simp
      (with_reducible refine (awake23_any _).mono ?_)
      rintro e15 w15 ⟨rfl, hb15⟩
      refine hK.out _ _ (hHeld.trans (hb15.mono hHeld.size)) (fun hHeld => ?_)
      clear hK K hb15
      try simp only [Act.put, List.getElem_toArray, List.getElem_cons_succ, List.getElem_cons_zero, List.setIfInBounds_toArray, List.set_cons_zero, List.set_cons_succ]
      refine' wpAnyH_take (i := 11) (v := .bool true) rfl (by kernel_rfl) (by kernel_rfl) (by kernel_rfl) (fun _ _ _ h => h) (Or.inl ⟨by rfl, fun w' hw' => by go_simp⟩) hHeld ?_
      try simp only [Act.put, List.getElem_toArray, List.getElem_cons_succ, List.getElem_cons_zero, List.setIfInBounds_toArray, List.set_cons_zero, List.set_cons_succ]
      refine' wpAnyH_take (i := 12) (v := .bool true) rfl (by kernel_rfl) (by kernel_rfl) (by kernel_rfl) (fun _ _ _ h => h) (Or.inl ⟨by rfl, fun w' hw' => by go_simp⟩) hHeld ?_
      try simp only [Act.put, List.getElem_toArray, List.getElem_cons_succ, List.getElem_cons_zero, List.setIfInBounds_toArray, List.set_cons_zero, List.set_cons_succ]
      refine wpAnyH_done (by kernel_rfl) ?_ _
      go_wp2_with (fail)
      go_ret
      exact ⟨rfl, hb9.trans (hHeld.mono hb9.size)⟩
end Go.Proofs.Ytkajfpincbkfhaa

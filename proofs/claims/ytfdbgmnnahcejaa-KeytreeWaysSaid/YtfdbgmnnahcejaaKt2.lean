
/- keytree: the sum above two; climbing, of the program and of the document. -/
import Derived.Test.YtfdbgmnnahcejaaKt1
import Derived.Test.YtfdbgmnnahcejaaTag6
namespace Go.Proofs.Ytfdbgmnnahcejaa
open Go.RowKit Go.Qc
attribute [local go_sem] txt_size txt_append ib_fold

set_option maxRecDepth 100000 in
set_option maxHeartbeats 4000000 in
theorem node_any (a b : List UInt8) (ha : a.length = 32) (hb : b.length = 32) (w : World) :
    Calls Try.prog 125 #[.agg (idVals a), .agg (idVals b)] w fun e w' => e = .returned (.agg (idVals (nodeB a b))) ∧ Below w.heap.size w w' := by
  have hu := Try.underlying24
  obtain ⟨S, hS⟩ : ∃ S, S = nodeB a b := ⟨_, rfl⟩
  have hSl : S.length = 32 := by rw [hS]; exact nodeB_length _ _
  rw [← hS]
  have cP : ∀ W : World, Calls Try.prog 151 #[.string ⟨#[110, 111, 100, 101]⟩, .agg (List.map u8v a).toArray, .agg (List.map u8v b).toArray] W fun e w' => e = .returned (.agg (idVals S)) ∧ Below W.heap.size W w' := fun W => by
    rw [hS]
    exact pair_any nodeN (by decide) a b ha hb W
  have hk1 : (w.alloc (.cells (idVals a) 24)).heap.size = w.heap.size + 1 := by simp
  have hk2 : ((w.alloc (.cells (idVals a) 24)).alloc (.cells (idVals b) 24)).heap.size = w.heap.size + 1 + 1 := by simp
  have hA : ∀ zc, (((w.alloc (.cells (idVals a) 24)).alloc (.cells (idVals b) 24)).alloc (.cells zc 24)).rangeAt w.heap.size 0 (a.map u8v) := fun zc => range_blk (((Blk.new w 24 (idVals a)).alloc _).alloc _)
  have hB : ∀ zc, (((w.alloc (.cells (idVals a) 24)).alloc (.cells (idVals b) 24)).alloc (.cells zc 24)).rangeAt (w.heap.size + 1) 0 (b.map u8v) := fun zc => by
    have := (Blk.new (w.alloc (.cells (idVals a) 24)) 24 (idVals b)).alloc (.cells zc 24)
    rw [hk1] at this
    exact range_blk this
  have hR : ∀ zc, Blk (((w.alloc (.cells (idVals a) 24)).alloc (.cells (idVals b) 24)).alloc (.cells zc 24)) (w.heap.size + 1 + 1) 24 zc := fun zc => by
    have := Blk.new ((w.alloc (.cells (idVals a) 24)).alloc (.cells (idVals b) 24)) 24 zc
    rwa [hk2] at this
  have hBl : ∀ zc, Below w.heap.size w (((w.alloc (.cells (idVals a) 24)).alloc (.cells (idVals b) 24)).alloc (.cells zc 24)) := fun zc => (((Below.refl _ _).alloc (Nat.le_refl _) _).alloc (by simp) _).alloc (by simp; omega) _
  have hza : (Try.prog.info? 24).map (·.size) = some (a.map u8v).length := by rw [List.length_map, ha]; exact sizeId
  have hzb : (Try.prog.info? 24).map (·.size) = some (b.map u8v).length := by rw [List.length_map, hb]; exact sizeId
  have HSL := hid hSl
  clear hSl hS ha hb hk1 hk2
  go_enter Try.func125, Try.ntmps125
  go_wp2_with (first
    | (with_reducible refine wpList_load_if (by with_unfolding_all rfl) 24 _ rfl _ 0 rfl (a.map u8v) _ (hA _) hu (by with_unfolding_all rfl) hza ?_)
    | (with_reducible refine wpList_load_if (by with_unfolding_all rfl) 24 _ rfl _ 0 rfl (b.map u8v) _ (hB _) hu (by with_unfolding_all rfl) hzb ?_)
    | (go_at_call 151; (with_reducible refine (cP _).mono ?_); rintro e7 w7 ⟨rfl, hB7⟩; replace hR := (hR _).below hB7; replace hBl := (hBl _).trans (hB7.mono (hBl _).size))
    | (with_reducible refine wpList_store_blk rfl 24 _ _ rfl (w.heap.size + 1 + 1) _ (idVals S) 24 hR rfl rfl ?c2 ?c3 (idVals_one _) ?_))
  case c2 => rw [idVals_size, HSL.out]; exact sizeId
  case c3 => rw [idVals_size, HSL.out]; rfl
  intro w9 hb9 hg9
  go_wp2
  refine bodyPost_ret (results_cell_row rfl _ _ _ _ _ _ _ rfl hb9 Try.underlying24 rfl (by rw [idVals_size, HSL.out]; exact sizeId)) rfl ⟨rfl, ?_⟩
  exact hBl.grown hg9 hBl.size (by intro i e; cases e; omega)

/-- What a climb has laid: the sum, and the answer's place. -/
structure ClimbS (w : World) (S : List UInt8) (W : World) : Prop where
  sum : Blk W w.heap.size 24 (idVals S)
  res : ∃ zc : Array Value, Blk W (w.heap.size + 1) 24 zc ∧ zc.size = 32
  bel : Below w.heap.size w W
theorem ClimbS.below {w W W' : World} {S : List UInt8} (h : ClimbS w S W) (hb : Below W.heap.size W W') : ClimbS w S W' :=
  ⟨h.sum.below hb, (h.res.imp fun _ ⟨a, b⟩ => ⟨a.below hb, b⟩), h.bel.trans (hb.mono h.bel.size)⟩
theorem ClimbS.put {w W W' : World} {S T : List UInt8} (h : ClimbS w S W) (hb : Blk W' w.heap.size 24 (idVals T)) (hg : W.grownBy W' (some w.heap.size)) : ClimbS w T W' :=
  ⟨hb, h.res.imp fun _ ⟨a, b⟩ => ⟨blk_gb a hg (by omega), b⟩, h.bel.grown hg h.bel.size (by intro i e; cases e; exact Nat.le_refl _)⟩
theorem ClimbS.new (w : World) (S : List UInt8) (zc : Array Value) (hz : zc.size = 32) : ClimbS w S ((w.alloc (.cells (idVals S) 24)).alloc (.cells zc 24)) := by
  have hk1 : (w.alloc (.cells (idVals S) 24)).heap.size = w.heap.size + 1 := by simp
  have h2 := Blk.new (w.alloc (.cells (idVals S) 24)) 24 zc
  rw [hk1] at h2
  exact ⟨(Blk.new w 24 (idVals S)).alloc _, ⟨zc, h2, hz⟩, ((Below.refl _ _).alloc (Nat.le_refl _) _).alloc (by simp) _⟩
theorem half_facts (m : Nat) : ((m : Int)).tdiv 2 = ((m / 2 : Nat) : Int) ∧ ((m : Int)).tmod 2 = ((m % 2 : Nat) : Int) :=
  ⟨by rw [Int.tdiv_eq_ediv_of_nonneg (by omega)]; rfl, by rw [Int.tmod_eq_emod_of_nonneg (by omega)]; rfl⟩

set_option maxRecDepth 100000 in
set_option maxHeartbeats 8000000 in
theorem climb_any (lf : Int) (hl : lf ≤ 9223372036854775807) (s : List UInt8) (hs : s.length = 32) (A : Option Addr) (n c : Nat) (way : List (List UInt8)) (w : World) (hA : RowR w A n way) :
    Calls Try.prog 59 #[.int .i64 lf, .agg (idVals s), .slice A n c] w fun e w' => e = .returned (.agg (idVals (climbB lf.toNat s way))) ∧ Below w.heap.size w w' := by
  obtain ⟨hn, bn, hr⟩ := hA
  have hu := Try.underlying24
  have hmx : max lf 0 = ((lf.toNat : Nat) : Int) := by omega
  have hNl : lf.toNat ≤ 9223372036854775807 := by omega
  generalize lf.toNat = N at *
  go_enter Try.func59, Try.ntmps59
  go_wp2
  have h0 := ClimbS.new w s _ (show (#[.int .u8 0, .int .u8 0, .int .u8 0, .int .u8 0, .int .u8 0, .int .u8 0, .int .u8 0, .int .u8 0, .int .u8 0, .int .u8 0, .int .u8 0, .int .u8 0, .int .u8 0, .int .u8 0, .int .u8 0, .int .u8 0, .int .u8 0, .int .u8 0, .int .u8 0, .int .u8 0, .int .u8 0, .int .u8 0, .int .u8 0, .int .u8 0, .int .u8 0, .int .u8 0, .int .u8 0, .int .u8 0, .int .u8 0, .int .u8 0, .int .u8 0, .int .u8 0] : Array Value).size = 32 from rfl)
  generalize (w.alloc (.cells (idVals s) 24)).alloc (.cells _ 24) = w0 at *
  go_loopw [0, 13] (fun l i wr => ∃ k : Nat, k ≤ n ∧ i = .int .i64 k ∧ l = .int .i64 (N / 2 ^ k : Nat) ∧ ClimbS w (climbB N s (way.take k)) wr) (fun _ i _ => n - (intOf i).toNat)
  case atStart => exact ⟨0, by omega, rfl, (by simp), h0⟩
  case round =>
    obtain ⟨k, hk, rfl, rfl, hc⟩ := hrel
    by_cases hlt : k < n
    · obtain ⟨x, hx⟩ : ∃ x, way[k]? = some x := ⟨_, List.getElem?_eq_getElem (by omega)⟩
      obtain ⟨g, q, hg, lx, hix⟩ := hr.pick c hn hx
      have b1 : (k : Int) < n := by omega
      have r1 := hg.below hc.bel
      have hzx : (Try.prog.info? 24).map (·.size) = some (x.map u8v).length := by rw [List.length_map, lx]; exact sizeId
      have hT := climbB_take hx N s
      have hSl := climbB_length (way.take k) N s hs
      have hm1 : N / 2 ^ k ≤ 9223372036854775807 := Nat.le_trans (Nat.div_le_self _ _) hNl
      have hm2 := div_pow_succ N k
      generalize climbB N s (way.take k) = S at *
      generalize N / 2 ^ k = m at *
      obtain ⟨hq, hrm⟩ := half_facts m
      have hzs : (Try.prog.info? 24).map (·.size) = some (S.map u8v).length := by rw [List.length_map, hSl]; exact sizeId
      have HT := hid hT
      have HSL := hid hSl
      have HN := hid hn
      have HM := hid hm2
      clear hT hn hx hm2
      by_cases hm : m % 2 = 1
      · have hT2 : nodeB x S = climbB N s (way.take (k + 1)) := by rw [HT.out, stepB, if_pos hm]
        have hmI : ((m % 2 : Nat) : Int) = 1 := by omega
        rw [hmI] at hrm
        obtain ⟨Z, hZ⟩ : ∃ Z, Z = nodeB x S := ⟨_, rfl⟩
        have cN : ∀ W : World, Calls Try.prog 125 #[.agg (List.map u8v x).toArray, .agg (List.map u8v S).toArray] W fun e w' => e = .returned (.agg (idVals Z)) ∧ Below W.heap.size W w' := fun W => by
          rw [hZ]; exact node_any x S lx hSl W
        have hZL : Z.length = 32 := by rw [hZ]; exact nodeB_length _ _
        rw [← hZ] at hT2
        have HZL := hid hZL
        have HT2 := hid hT2
        have HLX := hid lx
        clear hZ hZL hT2 HT hmI hm lx hSl
        go_wp2_with (first
          | (with_reducible refine wpList_load_if (by with_unfolding_all rfl) 24 _ rfl _ _ rfl (x.map u8v) _ r1 hu (by with_unfolding_all rfl) hzx ?_)
          | ((with_reducible refine wpList_store_newid rfl _ _ rfl x HLX.out rfl rfl (by with_unfolding_all rfl) ?_); intro w4 hx4 hb4; replace hc := hc.below hb4; have hs4 := range_blk hc.sum)
          | (with_reducible refine wpList_load_if (by with_unfolding_all rfl) 24 _ rfl _ _ rfl (x.map u8v) _ hx4 hu (by with_unfolding_all rfl) hzx ?_)
          | (with_reducible refine wpList_load_if (by with_unfolding_all rfl) 24 _ rfl _ _ rfl (S.map u8v) _ hs4 hu (by with_unfolding_all rfl) hzs ?_)
          | (go_at_call 125; (with_reducible refine (cN _).mono ?_); rintro e5 w5 ⟨rfl, hb5⟩; replace hc := hc.below hb5)
          | (with_reducible refine wpList_store_blk rfl 24 _ _ rfl w.heap.size _ (idVals Z) 24 hc.sum rfl rfl ?c2 ?c3 (idVals_one _) ?_))
        case c2 => rw [idVals_size, HZL.out]; exact sizeId
        case c3 => rw [idVals_size, idVals_size, HZL.out, HSL.out]
        intro w6 hb6 hg6
        replace hc := hc.put hb6 hg6
        go_wp2
        go_roundw
        case rel => exact ⟨k + 1, by omega, by go_num, (by rw [← HM.out]; first | rfl | simp), by rw [← HT2.out]; exact hc⟩
        case measure => simp [intOf]; omega
      · have hT2 : nodeB S x = climbB N s (way.take (k + 1)) := by rw [HT.out, stepB, if_neg hm]
        have hmI : ((m % 2 : Nat) : Int) = 0 := by omega
        rw [hmI] at hrm
        obtain ⟨Z, hZ⟩ : ∃ Z, Z = nodeB S x := ⟨_, rfl⟩
        have cN : ∀ W : World, Calls Try.prog 125 #[.agg (List.map u8v S).toArray, .agg (List.map u8v x).toArray] W fun e w' => e = .returned (.agg (idVals Z)) ∧ Below W.heap.size W w' := fun W => by
          rw [hZ]; exact node_any S x hSl lx W
        have hZL : Z.length = 32 := by rw [hZ]; exact nodeB_length _ _
        rw [← hZ] at hT2
        have HZL := hid hZL
        have HT2 := hid hT2
        have HLX := hid lx
        clear hZ hZL hT2 HT hmI hm lx hSl
        go_wp2_with (first
          | (with_reducible refine wpList_load_if (by with_unfolding_all rfl) 24 _ rfl _ _ rfl (x.map u8v) _ r1 hu (by with_unfolding_all rfl) hzx ?_)
          | ((with_reducible refine wpList_store_newid rfl _ _ rfl x HLX.out rfl rfl (by with_unfolding_all rfl) ?_); intro w4 hx4 hb4; replace hc := hc.below hb4; have hs4 := range_blk hc.sum)
          | (with_reducible refine wpList_load_if (by with_unfolding_all rfl) 24 _ rfl _ _ rfl (x.map u8v) _ hx4 hu (by with_unfolding_all rfl) hzx ?_)
          | (with_reducible refine wpList_load_if (by with_unfolding_all rfl) 24 _ rfl _ _ rfl (S.map u8v) _ hs4 hu (by with_unfolding_all rfl) hzs ?_)
          | (go_at_call 125; (with_reducible refine (cN _).mono ?_); rintro e5 w5 ⟨rfl, hb5⟩; replace hc := hc.below hb5)
          | (with_reducible refine wpList_store_blk rfl 24 _ _ rfl w.heap.size _ (idVals Z) 24 hc.sum rfl rfl ?c2 ?c3 (idVals_one _) ?_))
        case c2 => rw [idVals_size, HZL.out]; exact sizeId
        case c3 => rw [idVals_size, idVals_size, HZL.out, HSL.out]
        intro w6 hb6 hg6
        replace hc := hc.put hb6 hg6
        go_wp2
        go_roundw
        case rel => exact ⟨k + 1, by omega, by go_num, (by rw [← HM.out]; first | rfl | simp), by rw [← HT2.out]; exact hc⟩
        case measure => simp [intOf]; omega
    · obtain rfl : k = n := by omega
      rw [List.take_of_length_le (by omega)] at hc
      have b1 : ¬ (k : Int) < k := by omega
      have HN := hid hn
      clear hn
      obtain ⟨S, hS⟩ : ∃ S, S = climbB N s way := ⟨_, rfl⟩
      have hSl : S.length = 32 := by rw [hS]; exact climbB_length way N s hs
      rw [← hS] at hc
      have HS := hid hS
      obtain ⟨zc, hzc, hzz⟩ := hc.res
      have hs4 := range_blk hc.sum
      have hzs : (Try.prog.info? 24).map (·.size) = some (S.map u8v).length := by rw [List.length_map, hSl]; exact sizeId
      have HSL := hid hSl
      have HZZ := hid hzz
      clear hS hSl hzz
      generalize N / 2 ^ k = m at *
      go_wp2_with (first
        | (with_reducible refine wpList_load_if (by with_unfolding_all rfl) 24 _ rfl _ _ rfl (S.map u8v) _ hs4 hu (by with_unfolding_all rfl) hzs ?_)
        | (with_reducible refine wpList_store_blk rfl 24 _ _ rfl (w.heap.size + 1) zc (idVals S) 24 hzc rfl rfl ?c2 ?c3 (idVals_one _) ?_))
      case c2 => rw [idVals_size, HSL.out]; try exact sizeId
      case c3 => rw [idVals_size, HSL.out, HZZ.out]
      intro w9 hb9 hg9
      go_wp2
      refine bodyPost_ret (results_cell_row rfl _ _ _ _ _ _ _ rfl hb9 Try.underlying24 rfl (by rw [idVals_size, HSL.out]; exact sizeId)) rfl ⟨congrArg (fun t => Ending.returned (Value.agg (idVals t))) HS.out, ?_⟩
      exact hc.bel.grown hg9 hc.bel.size (by intro i e; cases e; omega)
end Go.Proofs.Ytfdbgmnnahcejaa


/- An id's text by the document; a text's id. -/
import Derived.Test.YtlobagjeiocolaaId2
namespace Go.Proofs.Ytlobagjeiocolaa
open Go.RowKit Go.Qc
attribute [local go_sem] txt_size txt_append ib_fold ib_i64

theorem hex_cut (n : Nat) (h : n < 16) : (⟨#[48, 49, 50, 51, 52, 53, 54, 55, 56, 57, 97, 98, 99, 100, 101, 102]⟩ : ByteArray).extract n (n + 1) = txt [hexD n] := by
  have e : (⟨#[48, 49, 50, 51, 52, 53, 54, 55, 56, 57, 97, 98, 99, 100, 101, 102]⟩ : ByteArray) = txt hexT := rfl
  rw [e, txt_extract]
  congr 1
  rw [show n + 1 - n = 1 by omega]
  match n, h with
  | 0, _ => rfl
  | 1, _ => rfl
  | 2, _ => rfl
  | 3, _ => rfl
  | 4, _ => rfl
  | 5, _ => rfl
  | 6, _ => rfl
  | 7, _ => rfl
  | 8, _ => rfl
  | 9, _ => rfl
  | 10, _ => rfl
  | 11, _ => rfl
  | 12, _ => rfl
  | 13, _ => rfl
  | 14, _ => rfl
  | 15, _ => rfl
  | n + 16, h => exact absurd h (by omega)
theorem quo16 (x : UInt8) : (ib x).tdiv 16 = ((x.toNat / 16 : Nat) : Int) := by rw [Int.tdiv_eq_ediv_of_nonneg (ib_lo x)]; exact shr4 x
theorem rem16 (x : UInt8) : (ib x).tmod 16 = ((x.toNat % 16 : Nat) : Int) := by rw [Int.tmod_eq_emod_of_nonneg (ib_lo x)]; unfold ib; omega
set_option maxRecDepth 100000 in
theorem rhex_any (a : List UInt8) (ha : a.length = 32) (w : World) :
    Calls Try.prog 22 #[.agg (idVals a)] w fun e w' => e = .returned (.string (txt (hexB a))) ∧ Below w.heap.size w w' := by
  have hI := Blk.new w 29 (idVals a)
  have hB0 : Below w.heap.size w (w.alloc (.cells (idVals a) 29)) := (Below.refl _ _).alloc (Nat.le_refl _) _
  go_enter Try.func22, Try.ntmps22
  go_wp2
  generalize w.alloc (.cells (idVals a) 29) = w0 at *
  go_loopw [4, 5] (fun v i wr => ∃ k : Nat, k ≤ 32 ∧ i = .int .i64 k ∧ v = .string (txt (hexB (a.take k))) ∧ ∃ q, wr = w0.drewN q) (fun _ i _ => 32 - (intOf i).toNat)
  case atStart => exact ⟨0, by omega, rfl, rfl, 0, rfl⟩
  case round =>
    obtain ⟨k, hk, rfl, rfl, q, rfl⟩ := hrel
    by_cases hlt : k < 32
    · obtain ⟨x, hx⟩ : ∃ x, a[k]? = some x := ⟨_, List.getElem?_eq_getElem (by rw [ha]; exact hlt)⟩
      have hcell : (w0.drewN q).cell? ⟨w.heap.size, k, none⟩ = some (.int .u8 (ib x)) := hI.cell_ (i := k) (u := .int .u8 (ib x)) (by unfold idVals; rw [List.getElem?_toArray, List.getElem?_map, hx]; rfl)
      have HT := hid (take_snoc hx)
      obtain ⟨p, hp⟩ : ∃ p, p = x.toNat / 16 := ⟨_, rfl⟩
      obtain ⟨r, hr⟩ : ∃ r, r = x.toNat % 16 := ⟨_, rfl⟩
      have e1 : (ib x).tdiv 16 = (p : Int) := by rw [hp]; exact quo16 x
      have e2 : (ib x).tmod 16 = (r : Int) := by rw [hr]; exact rem16 x
      have c1 : p < 16 := by have := x.toNat_lt; omega
      have c2 : r < 16 := by omega
      have f1 := hex_cut p c1
      have f2 := hex_cut r c2
      have c3 : (p : Int) < 16 := by omega
      have c4 : (r : Int) < 16 := by omega
      have HP := hid hp
      have HQ := hid hr
      have hle : (hexB (a.take k)).length ≤ 64 := by rw [hexB_length, List.length_take]; omega
      have b0 : (0 : Int) ≤ k := by omega
      have b1 : (k : Int) < 32 := by omega
      have HK := hid c1
      clear hx hp hr c1 c2 hI
      generalize hV : w0.drewN q = V at *
      have HV := hid hV
      clear hV
      go_wp2
      go_quiet (fail)
      go_wp2
      go_quiet (fail)
      go_wp2
      go_roundw
      case rel =>
        rename_i nq1
        exact ⟨k + 1, hlt, by go_num, by rw [HT.out, hexB_snoc, ← HP.out, ← HQ.out], q + (nq1 + nq), by rw [← HV.out, World.drewN_drewN]⟩
      case measure => simp [intOf]; omega
    · obtain rfl : k = 32 := by omega
      rw [List.take_of_length_le (by omega)]
      clear hI
      generalize hV : w0.drewN q = V at *
      have HV := hid hV
      clear hV
      go_wp2
      go_ret
      exact ⟨rfl, by rw [← HV.out]; exact below_drewN hB0 _⟩

/-! ### a text's id -/
theorem run_index_txt (l : List UInt8) (n : Nat) (x : UInt8) (hx : l[n]? = some x) (z : Int) (hz : z = n) (w : World) : (Instr.index 9 (.string (txt l)) (.int .i64 z)).run Try.prog w = .ok (.int .u8 (ib x)) w := by
  subst hz
  have hn : n < l.length := (List.getElem?_eq_some_iff.1 hx).1
  have h1 : (0 : Int) ≤ (n : Int) ∧ (n : Int) < ((txt l).size : Nat) := by rw [txt_size]; omega
  have hg : (txt l)[n]? = some x := by
    rw [getElem?_pos (txt l) n (by rw [txt_size]; exact hn)]
    congr 1
    exact txt_get rfl hx _
  simp [Instr.index, asIntOf, run_underlying Try.underlying9, h1, hg]
  rfl
def dig (s : List UInt8) (i : Nat) : Int := digV (s.getD i 0)
theorem dig_lo (c : UInt8) : -1 ≤ digV c := by unfold digV; split; · omega
                                               · split <;> omega
theorem dig_hi (c : UInt8) : digV c < 16 := by unfold digV; split; · omega
                                               · split <;> omega
theorem or16_fin : ∀ a b : Fin 16, bits .or .i64 ((a.val : Int) * 16) (b.val : Int) % 256 = ((a.val * 16 + b.val : Nat) : Int) := by decide +kernel
theorem or16 (X Y : Int) (h1 : 0 ≤ X) (h2 : X < 16) (h3 : 0 ≤ Y) (h4 : Y < 16) : bits .or .i64 (X * 16) Y % 256 = ib (UInt8.ofNat (X.toNat * 16 + Y.toNat)) := by
  have h := or16_fin ⟨X.toNat, by omega⟩ ⟨Y.toNat, by omega⟩
  simp only [Int.toNat_of_nonneg h1, Int.toNat_of_nonneg h3] at h
  rw [h]
  unfold ib
  rw [UInt8.toNat_ofNat']
  omega
theorem add16 (X Y : Int) (h1 : 0 ≤ X) (h2 : X < 16) (h3 : 0 ≤ Y) (h4 : Y < 16) : 16 * X + Y = ib (UInt8.ofNat (X.toNat * 16 + Y.toNat)) := by
  unfold ib
  rw [UInt8.toNat_ofNat']
  omega
def unhexAt (s : List UInt8) (i : Nat) : UInt8 := UInt8.ofNat ((dig s (2 * i)).toNat * 16 + (dig s (2 * i + 1)).toNat)
def unhex (s : List UInt8) : List UInt8 := (List.range 32).map (unhexAt s)
def hexOk (s : List UInt8) : Prop := s.length = 64 ∧ ∀ i, i < 32 → 0 ≤ dig s (2 * i) ∧ 0 ≤ dig s (2 * i + 1)
instance (s : List UInt8) : Decidable (hexOk s) := by unfold hexOk; exact inferInstance
theorem unhex_length (s : List UInt8) : (unhex s).length = 32 := by simp [unhex]
set_option maxRecDepth 100000 in
theorem parse_short (s : List UInt8) (hl : ¬ s.length = 64) (w : World) :
    Calls Try.prog 21 #[.string (txt s)] w fun e w' => e = .returned (.tuple #[.agg (idVals zeroB), .int .i64 3]) ∧ Below w.heap.size w w' := by
  have hl2 : (((s.length : Nat) : Int) != 64) = true := by simp only [bne_iff_ne, ne_eq]; omega
  clear hl
  go_enter Try.func21, Try.ntmps21
  go_wp2_with (with_reducible refine wpList_store_blk rfl 29 _ _ rfl w.heap.size _ _ 29 (Blk.new _ _ _) rfl rfl ?c2 ?c3 ?c4 ?_)
  case c2 => exact sizeId
  case c3 => rfl
  case c4 => rw [← zeroB_vals]; exact idVals_one _
  intro w7 hb7 hg7
  have hB7 := below_new hg7
  go_wp2
  refine bodyPost_ret (results_cellt rfl _ _ _ _ _ _ rfl hb7 Try.underlying29 rfl sizeId) rfl ⟨?_, hB7⟩
  rw [zeroB_vals]; rfl
set_option maxRecDepth 100000 in
set_option maxHeartbeats 8000000 in
theorem parse_any (s : List UInt8) (w : World) :
    Calls Try.prog 21 #[.string (txt s)] w fun e w' => e = .returned (.tuple #[.agg (idVals (if hexOk s then unhex s else zeroB)), .int .i64 (if hexOk s then 0 else 3)]) ∧ Below w.heap.size w w' := by
  obtain ⟨U, hU⟩ : ∃ U, U = if hexOk s then unhex s else zeroB := ⟨_, rfl⟩
  obtain ⟨E, hE⟩ : ∃ E : Int, E = if hexOk s then 0 else 3 := ⟨_, rfl⟩
  rw [← hU, ← hE]
  have HU := hid hU
  have HE := hid hE
  clear hU hE
  by_cases hl : s.length = 64
  · have hl2 : ((s.length : Nat) : Int) = 64 := by omega
    have HL := hid hl
    clear hl
    go_enter Try.func21, Try.ntmps21
    go_wp2_with (fail)
    generalize hZ : (#[.int .u8 0, .int .u8 0, .int .u8 0, .int .u8 0, .int .u8 0, .int .u8 0, .int .u8 0, .int .u8 0, .int .u8 0, .int .u8 0, .int .u8 0, .int .u8 0, .int .u8 0, .int .u8 0, .int .u8 0, .int .u8 0, .int .u8 0, .int .u8 0, .int .u8 0, .int .u8 0, .int .u8 0, .int .u8 0, .int .u8 0, .int .u8 0, .int .u8 0, .int .u8 0, .int .u8 0, .int .u8 0, .int .u8 0, .int .u8 0, .int .u8 0, .int .u8 0] : Array Value) = Z
    have hzs : Z.size = 32 := by rw [← hZ]; rfl
    clear hZ
    have hR := (Blk.new w 29 Z).alloc (.cells Z 29)
    have hA := Blk.new (w.alloc (.cells Z 29)) 29 Z
    have hk : (w.alloc (.cells Z 29)).heap.size = w.heap.size + 1 := by simp
    have hB0 : Below w.heap.size w ((w.alloc (.cells Z 29)).alloc (.cells Z 29)) := ((Below.refl _ w).alloc (Nat.le_refl _) _).alloc (by simp) _
    rw [hk] at hA
    generalize (w.alloc (.cells Z 29)).alloc (.cells Z 29) = w0 at *
    have HZ := hid hzs
    clear hk hzs
    go_loopw [12] (fun i wr => ∃ (k : Nat) (cs : Array Value), k ≤ 32 ∧ i = .int .i64 k ∧ (∀ i, i < k → 0 ≤ dig s (2 * i) ∧ 0 ≤ dig s (2 * i + 1)) ∧ Blk wr w.heap.size 29 Z ∧ Blk wr (w.heap.size + 1) 29 cs ∧ cs.size = 32 ∧ (∀ i, i < k → cs[i]? = some (u8v (unhexAt s i))) ∧ Below w.heap.size w wr) (fun i _ => 32 - (intOf i).toNat)
    case atStart => exact ⟨0, Z, by omega, rfl, fun i h => absurd h (Nat.not_lt_zero _), hR, hA, HZ.out, fun i h => absurd h (Nat.not_lt_zero _), hB0⟩
    case round =>
      obtain ⟨k, cs, hk, rfl, hok, hR2, hA2, hcs, hin, hB⟩ := hrel
      clear hR hA hB0
      by_cases hlt : k < 32
      · obtain ⟨x, hx⟩ : ∃ x, s[2 * k]? = some x := ⟨_, List.getElem?_eq_getElem (by have := HL.out; omega)⟩
        obtain ⟨y, hy⟩ : ∃ y, s[2 * k + 1]? = some y := ⟨_, List.getElem?_eq_getElem (by have := HL.out; omega)⟩
        have f1 := run_index_txt s (2 * k) x hx (2 * (k : Int)) (by omega)
        have f2 := run_index_txt s (2 * k + 1) y hy (2 * (k : Int) + 1) (by omega)
        have d1 : dig s (2 * k) = digV x := by unfold dig; rw [List.getD_eq_getElem?_getD, hx]; rfl
        have d2 : dig s (2 * k + 1) = digV y := by unfold dig; rw [List.getD_eq_getElem?_getD, hy]; rfl
        have l1 := dig_lo x
        have l2 := dig_hi x
        have l3 := dig_lo y
        have l4 := dig_hi y
        have D1 := hid d1
        have D2 := hid d2
        have HOK := hid hok
        have HIN := hid hin
        have HCS := hid hcs
        have b0 : (0 : Int) ≤ k := by omega
        have b1 : (k : Int) < 32 := by omega
        clear hx hy d1 d2 hok hin hcs
        by_cases hg : 0 ≤ digV x ∧ 0 ≤ digV y
        · obtain ⟨g1, g2⟩ := hg
          have n1 : ¬ digV x < 0 := by omega
          have n2 : ¬ digV y < 0 := by omega
          have hcl := hA2.cell_ (i := k) (Array.getElem?_eq_getElem (by rw [HCS.out]; exact hlt))
          have hfz := hA2.frozen k
          go_wp2
          go_quiet ((go_at_call 53; first | exact quiet_same_l (digit_any _ _) | exact quiet_more_l (digit_any _ _)))
          go_wp2
          go_roundw
          case rel =>
            refine ⟨k + 1, cs.setIfInBounds k (u8v (unhexAt s k)), hlt, by go_num, fun i hi => ?_, ?_, ?_, by rw [Array.size_setIfInBounds]; exact HCS.out, fun i hi => ?_, ?_⟩
            · by_cases e : i < k
              · exact HOK.out i e
              · obtain rfl : i = k := by omega
                rw [D1.out, D2.out]; exact ⟨g1, g2⟩
            · exact (hR2.drewN nq).far (by simp) _
            · rw [or16 _ _ g1 l2 g2 l4]
              have h := (hA2.drewN nq).set k (u8v (unhexAt s k))
              unfold unhexAt at h ⊢
              rw [D1.out, D2.out] at h ⊢
              exact h
            · rw [Array.getElem?_setIfInBounds]
              by_cases e : k = i
              · subst e; rw [if_pos rfl, if_pos (by rw [HCS.out]; exact hlt)]
              · rw [if_neg e]; exact HIN.out i (by omega)
            · exact (below_drewN hB nq).setCell (p := ⟨w.heap.size + 1, k, none⟩) (Nat.le_succ _) _
          case measure => simp [intOf]; omega
        · have hbad : ¬ hexOk s := fun h => hg (by have := h.2 k hlt; rw [D1.out, D2.out] at this; exact this)
          have HBAD := hid hbad
          have hg2 : digV x < 0 ∨ (¬ digV x < 0 ∧ digV y < 0) := by omega
          clear hg hbad
          rcases hg2 with hg2 | ⟨hg1, hg2⟩
          · go_wp2
            go_quiet ((go_at_call 53; first | exact quiet_same_l (digit_any _ _) | exact quiet_more_l (digit_any _ _)))
            go_wp2_with (with_reducible refine wpList_store_blk rfl 29 _ _ rfl w.heap.size Z _ 29 (hR2.drewN nq) rfl rfl ?c2 ?c3 ?c4 ?_)
            case c2 => exact sizeId
            case c3 => exact HZ.out
            case c4 => rw [← zeroB_vals]; exact idVals_one _
            intro w7 hb7 hg7
            go_wp2
            refine bodyPost_ret (results_cellt rfl _ _ _ _ _ _ rfl hb7 Try.underlying29 rfl sizeId) rfl ⟨?_, ?_⟩
            · rw [HU.out, HE.out, if_neg HBAD.out, if_neg HBAD.out, zeroB_vals]; rfl
            · exact (below_drewN hB nq).grown hg7 (below_drewN hB nq).size (by intro i e; cases e; exact Nat.le_refl _)
          · go_wp2
            go_quiet ((go_at_call 53; first | exact quiet_same_l (digit_any _ _) | exact quiet_more_l (digit_any _ _)))
            go_wp2_with (with_reducible refine wpList_store_blk rfl 29 _ _ rfl w.heap.size Z _ 29 (hR2.drewN nq) rfl rfl ?c2 ?c3 ?c4 ?_)
            case c2 => exact sizeId
            case c3 => exact HZ.out
            case c4 => rw [← zeroB_vals]; exact idVals_one _
            intro w7 hb7 hg7
            go_wp2
            refine bodyPost_ret (results_cellt rfl _ _ _ _ _ _ rfl hb7 Try.underlying29 rfl sizeId) rfl ⟨?_, ?_⟩
            · rw [HU.out, HE.out, if_neg HBAD.out, if_neg HBAD.out, zeroB_vals]; rfl
            · exact (below_drewN hB nq).grown hg7 (below_drewN hB nq).size (by intro i e; cases e; exact Nat.le_refl _)
      · obtain rfl : k = 32 := by omega
        have hgood : hexOk s := ⟨HL.out, hok⟩
        have hcu : cs = idVals (unhex s) := by
          apply Array.ext_getElem?
          intro i
          by_cases hi : i < 32
          · rw [hin i hi]; unfold idVals unhex; rw [List.getElem?_toArray, List.getElem?_map, List.getElem?_map, List.getElem?_range hi]; rfl
          · rw [Array.getElem?_eq_none (by omega), Array.getElem?_eq_none (by rw [idVals_size, unhex_length]; omega)]
        subst hcu
        have hRg := range_blk hA2
        have hza : (Try.prog.info? 29).map (·.size) = some ((unhex s).map u8v).length := by rw [List.length_map, unhex_length]; exact sizeId
        have hu := Try.underlying29
        have HG := hid hgood
        clear hok hin hcs hA2 hgood
        go_wp2_with (first
          | (with_reducible refine wpList_load_if (by with_unfolding_all rfl) 29 _ rfl _ 0 rfl ((unhex s).map u8v) _ hRg hu (by with_unfolding_all rfl) hza ?_)
          | (with_reducible refine wpList_store_blk rfl 29 _ _ rfl w.heap.size Z _ 29 hR2 rfl rfl ?c2 ?c3 ?c4 ?_))
        case c2 => rw [List.size_toArray]; exact hza
        case c3 => show Z.size = ((unhex s).map u8v).toArray.size; rw [HZ.out]; simp [unhex_length]
        case c4 => exact idVals_one (unhex s)
        intro w7 hb7 hg7
        go_wp2
        refine bodyPost_ret (results_cellt rfl _ _ _ _ _ _ rfl hb7 Try.underlying29 rfl (by rw [List.size_toArray]; exact hza)) rfl ⟨?_, ?_⟩
        · rw [HU.out, HE.out, if_pos HG.out, if_pos HG.out]; rfl
        · exact hB.grown hg7 hB.size (by intro i e; cases e; exact Nat.le_refl _)
  · have HBAD := hid (show ¬ hexOk s from fun h => hl h.1)
    refine (parse_short s hl w).mono ?_
    rintro e w' ⟨rfl, hb⟩
    refine ⟨?_, hb⟩
    rw [HU.out, HE.out, if_neg HBAD.out, if_neg HBAD.out]

set_option maxRecDepth 100000 in
theorem rparse_short (s : List UInt8) (hl : ¬ s.length = 64) (w : World) :
    Calls Try.prog 25 #[.string (txt s)] w fun e w' => e = .returned (.tuple #[.agg (idVals zeroB), .bool false]) ∧ Below w.heap.size w w' := by
  have hl2 : (((s.length : Nat) : Int) != 64) = true := by simp only [bne_iff_ne, ne_eq]; omega
  clear hl
  have hk : (w.alloc (.cells (idVals zeroB) 29)).heap.size = w.heap.size + 1 := by simp
  have hA := Blk.new (w.alloc (.cells (idVals zeroB) 29)) 29 (idVals zeroB)
  have hR := (Blk.new w 29 (idVals zeroB)).alloc (.cells (idVals zeroB) 29)
  rw [hk] at hA
  have hRg := range_blk hA
  have hB : Below w.heap.size w ((w.alloc (.cells (idVals zeroB) 29)).alloc (.cells (idVals zeroB) 29)) := ((Below.refl _ w).alloc (Nat.le_refl _) _).alloc (by simp) _
  rw [zeroB_vals] at hRg hR hB
  clear hA hk
  have hza : (Try.prog.info? 29).map (·.size) = some (zeroB.map u8v).length := sizeId
  have hu := Try.underlying29
  have HZ := hid (show (#[.int .u8 0, .int .u8 0, .int .u8 0, .int .u8 0, .int .u8 0, .int .u8 0, .int .u8 0, .int .u8 0, .int .u8 0, .int .u8 0, .int .u8 0, .int .u8 0, .int .u8 0, .int .u8 0, .int .u8 0, .int .u8 0, .int .u8 0, .int .u8 0, .int .u8 0, .int .u8 0, .int .u8 0, .int .u8 0, .int .u8 0, .int .u8 0, .int .u8 0, .int .u8 0, .int .u8 0, .int .u8 0, .int .u8 0, .int .u8 0, .int .u8 0, .int .u8 0] : Array Value).size = ((zeroB.map u8v).toArray).size from rfl)
  go_enter Try.func25, Try.ntmps25
  go_wp2_with (first
    | (with_reducible refine wpList_load_if (by with_unfolding_all rfl) 29 _ rfl _ 0 rfl (zeroB.map u8v) _ hRg hu (by with_unfolding_all rfl) hza ?_)
    | (with_reducible refine wpList_store_blk rfl 29 _ _ rfl w.heap.size _ _ 29 hR rfl rfl ?c2 ?c3 ?c4 ?_))
  case c2 => exact sizeId
  case c3 => exact HZ.out
  case c4 => exact idVals_one zeroB
  intro w7 hb7 hg7
  have hB7 : Below w.heap.size w w7 := hB.grown hg7 hB.size (by intro i e; cases e; exact Nat.le_refl _)
  clear hB hR hRg hg7
  go_wp2
  refine bodyPost_ret (results_cellt rfl _ _ _ _ _ _ rfl hb7 Try.underlying29 rfl sizeId) rfl ⟨?_, hB7⟩
  rfl

set_option maxRecDepth 100000 in
set_option maxHeartbeats 8000000 in
theorem rparse_any (s : List UInt8) (w : World) :
    Calls Try.prog 25 #[.string (txt s)] w fun e w' => e = .returned (.tuple #[.agg (idVals (if hexOk s then unhex s else zeroB)), .bool (decide (hexOk s))]) ∧ Below w.heap.size w w' := by
  obtain ⟨U, hU⟩ : ∃ U, U = if hexOk s then unhex s else zeroB := ⟨_, rfl⟩
  obtain ⟨E, hE⟩ : ∃ E : Bool, E = decide (hexOk s) := ⟨_, rfl⟩
  rw [← hU, ← hE]
  have HU := hid hU
  have HE := hid hE
  clear hU hE
  by_cases hl : s.length = 64
  · have hl2 : ((s.length : Nat) : Int) = 64 := by omega
    have HL := hid hl
    clear hl
    go_enter Try.func25, Try.ntmps25
    go_wp2_with (fail)
    generalize hZ : (#[.int .u8 0, .int .u8 0, .int .u8 0, .int .u8 0, .int .u8 0, .int .u8 0, .int .u8 0, .int .u8 0, .int .u8 0, .int .u8 0, .int .u8 0, .int .u8 0, .int .u8 0, .int .u8 0, .int .u8 0, .int .u8 0, .int .u8 0, .int .u8 0, .int .u8 0, .int .u8 0, .int .u8 0, .int .u8 0, .int .u8 0, .int .u8 0, .int .u8 0, .int .u8 0, .int .u8 0, .int .u8 0, .int .u8 0, .int .u8 0, .int .u8 0, .int .u8 0] : Array Value) = Z
    have hzs : Z.size = 32 := by rw [← hZ]; rfl
    clear hZ
    have hR := (Blk.new w 29 Z).alloc (.cells Z 29)
    have hA := Blk.new (w.alloc (.cells Z 29)) 29 Z
    have hk : (w.alloc (.cells Z 29)).heap.size = w.heap.size + 1 := by simp
    have hB0 : Below w.heap.size w ((w.alloc (.cells Z 29)).alloc (.cells Z 29)) := ((Below.refl _ w).alloc (Nat.le_refl _) _).alloc (by simp) _
    rw [hk] at hA
    generalize (w.alloc (.cells Z 29)).alloc (.cells Z 29) = w0 at *
    have HZ := hid hzs
    clear hk hzs
    go_loopw [5] (fun i wr => ∃ (k : Nat) (cs : Array Value), k ≤ 32 ∧ i = .int .i64 k ∧ (∀ i, i < k → 0 ≤ dig s (2 * i) ∧ 0 ≤ dig s (2 * i + 1)) ∧ Blk wr w.heap.size 29 Z ∧ Blk wr (w.heap.size + 1) 29 cs ∧ cs.size = 32 ∧ (∀ i, i < k → cs[i]? = some (u8v (unhexAt s i))) ∧ Below w.heap.size w wr) (fun i _ => 32 - (intOf i).toNat)
    case atStart => exact ⟨0, Z, by omega, rfl, fun i h => absurd h (Nat.not_lt_zero _), hR, hA, HZ.out, fun i h => absurd h (Nat.not_lt_zero _), hB0⟩
    case round =>
      obtain ⟨k, cs, hk, rfl, hok, hR2, hA2, hcs, hin, hB⟩ := hrel
      clear hR hA hB0
      by_cases hlt : k < 32
      · obtain ⟨x, hx⟩ : ∃ x, s[2 * k]? = some x := ⟨_, List.getElem?_eq_getElem (by have := HL.out; omega)⟩
        obtain ⟨y, hy⟩ : ∃ y, s[2 * k + 1]? = some y := ⟨_, List.getElem?_eq_getElem (by have := HL.out; omega)⟩
        have f1 := run_index_txt s (2 * k) x hx (2 * (k : Int)) (by omega)
        have f2 := run_index_txt s (2 * k + 1) y hy (2 * (k : Int) + 1) (by omega)
        have d1 : dig s (2 * k) = digV x := by unfold dig; rw [List.getD_eq_getElem?_getD, hx]; rfl
        have d2 : dig s (2 * k + 1) = digV y := by unfold dig; rw [List.getD_eq_getElem?_getD, hy]; rfl
        have l1 := dig_lo x
        have l2 := dig_hi x
        have l3 := dig_lo y
        have l4 := dig_hi y
        have D1 := hid d1
        have D2 := hid d2
        have HOK := hid hok
        have HIN := hid hin
        have HCS := hid hcs
        have b0 : (0 : Int) ≤ k := by omega
        have b1 : (k : Int) < 32 := by omega
        clear hx hy d1 d2 hok hin hcs
        by_cases hg : 0 ≤ digV x ∧ 0 ≤ digV y
        · obtain ⟨g1, g2⟩ := hg
          have n1 : ¬ digV x < 0 := by omega
          have n2 : ¬ digV y < 0 := by omega
          have hcl := hA2.cell_ (i := k) (Array.getElem?_eq_getElem (by rw [HCS.out]; exact hlt))
          have hfz := hA2.frozen k
          go_wp2
          go_quiet ((go_at_call 55; first | exact quiet_same_l (rdigit_any _ _) | exact quiet_more_l (rdigit_any _ _)))
          go_wp2
          go_roundw
          case rel =>
            refine ⟨k + 1, cs.setIfInBounds k (u8v (unhexAt s k)), hlt, by go_num, fun i hi => ?_, ?_, ?_, by rw [Array.size_setIfInBounds]; exact HCS.out, fun i hi => ?_, ?_⟩
            · by_cases e : i < k
              · exact HOK.out i e
              · obtain rfl : i = k := by omega
                rw [D1.out, D2.out]; exact ⟨g1, g2⟩
            · exact (hR2.drewN nq).far (by simp) _
            · rw [add16 _ _ g1 l2 g2 l4]
              have h := (hA2.drewN nq).set k (u8v (unhexAt s k))
              unfold unhexAt at h ⊢
              rw [D1.out, D2.out] at h ⊢
              exact h
            · rw [Array.getElem?_setIfInBounds]
              by_cases e : k = i
              · subst e; rw [if_pos rfl, if_pos (by rw [HCS.out]; exact hlt)]
              · rw [if_neg e]; exact HIN.out i (by omega)
            · exact (below_drewN hB nq).setCell (p := ⟨w.heap.size + 1, k, none⟩) (Nat.le_succ _) _
          case measure => simp [intOf]; omega
        · have hbad : ¬ hexOk s := fun h => hg (by have := h.2 k hlt; rw [D1.out, D2.out] at this; exact this)
          have HBAD := hid hbad
          have hg2 : digV x < 0 ∨ (¬ digV x < 0 ∧ digV y < 0) := by omega
          clear hg hbad
          rcases hg2 with hg2 | ⟨hg1, hg2⟩
          · go_wp2
            go_quiet ((go_at_call 55; first | exact quiet_same_l (rdigit_any _ _) | exact quiet_more_l (rdigit_any _ _)))
            go_wp2_with (with_reducible refine wpList_store_blk rfl 29 _ _ rfl w.heap.size Z _ 29 (hR2.drewN nq) rfl rfl ?c2 ?c3 ?c4 ?_)
            case c2 => exact sizeId
            case c3 => exact HZ.out
            case c4 => rw [← zeroB_vals]; exact idVals_one _
            intro w7 hb7 hg7
            go_wp2
            refine bodyPost_ret (results_cellt rfl _ _ _ _ _ _ rfl hb7 Try.underlying29 rfl sizeId) rfl ⟨?_, ?_⟩
            · rw [HU.out, HE.out, if_neg HBAD.out, decide_eq_false HBAD.out, zeroB_vals]; rfl
            · exact (below_drewN hB nq).grown hg7 (below_drewN hB nq).size (by intro i e; cases e; exact Nat.le_refl _)
          · go_wp2
            go_quiet ((go_at_call 55; first | exact quiet_same_l (rdigit_any _ _) | exact quiet_more_l (rdigit_any _ _)))
            go_wp2_with (with_reducible refine wpList_store_blk rfl 29 _ _ rfl w.heap.size Z _ 29 (hR2.drewN nq) rfl rfl ?c2 ?c3 ?c4 ?_)
            case c2 => exact sizeId
            case c3 => exact HZ.out
            case c4 => rw [← zeroB_vals]; exact idVals_one _
            intro w7 hb7 hg7
            go_wp2
            refine bodyPost_ret (results_cellt rfl _ _ _ _ _ _ rfl hb7 Try.underlying29 rfl sizeId) rfl ⟨?_, ?_⟩
            · rw [HU.out, HE.out, if_neg HBAD.out, decide_eq_false HBAD.out, zeroB_vals]; rfl
            · exact (below_drewN hB nq).grown hg7 (below_drewN hB nq).size (by intro i e; cases e; exact Nat.le_refl _)
      · obtain rfl : k = 32 := by omega
        have hgood : hexOk s := ⟨HL.out, hok⟩
        have hcu : cs = idVals (unhex s) := by
          apply Array.ext_getElem?
          intro i
          by_cases hi : i < 32
          · rw [hin i hi]; unfold idVals unhex; rw [List.getElem?_toArray, List.getElem?_map, List.getElem?_map, List.getElem?_range hi]; rfl
          · rw [Array.getElem?_eq_none (by omega), Array.getElem?_eq_none (by rw [idVals_size, unhex_length]; omega)]
        subst hcu
        have hRg := range_blk hA2
        have hza : (Try.prog.info? 29).map (·.size) = some ((unhex s).map u8v).length := by rw [List.length_map, unhex_length]; exact sizeId
        have hu := Try.underlying29
        have HG := hid hgood
        clear hok hin hcs hA2 hgood
        go_wp2_with (first
          | (with_reducible refine wpList_load_if (by with_unfolding_all rfl) 29 _ rfl _ 0 rfl ((unhex s).map u8v) _ hRg hu (by with_unfolding_all rfl) hza ?_)
          | (with_reducible refine wpList_store_blk rfl 29 _ _ rfl w.heap.size Z _ 29 hR2 rfl rfl ?c2 ?c3 ?c4 ?_))
        case c2 => rw [List.size_toArray]; exact hza
        case c3 => show Z.size = ((unhex s).map u8v).toArray.size; rw [HZ.out]; simp [unhex_length]
        case c4 => exact idVals_one (unhex s)
        intro w7 hb7 hg7
        go_wp2
        refine bodyPost_ret (results_cellt rfl _ _ _ _ _ _ rfl hb7 Try.underlying29 rfl (by rw [List.size_toArray]; exact hza)) rfl ⟨?_, ?_⟩
        · rw [HU.out, HE.out, if_pos HG.out, decide_eq_true HG.out]; rfl
        · exact hB.grown hg7 hB.size (by intro i e; cases e; exact Nat.le_refl _)
  · have HBAD := hid (show ¬ hexOk s from fun h => hl h.1)
    refine (rparse_short s hl w).mono ?_
    rintro e w' ⟨rfl, hb⟩
    refine ⟨?_, hb⟩
    rw [HU.out, HE.out, if_neg HBAD.out, decide_eq_false HBAD.out]
end Go.Proofs.Ytlobagjeiocolaa


/- grant: Keys. -/
import Derived.Test.YtapgiagpjplpdaaGreatGr9
import Derived.Test.YtapgiagpjplpdaaGreatId17
import Derived.Test.YtapgiagpjplpdaaGreatId10
import Derived.ChangeShapes
import Derived.Deep.DeepCutAuto
set_option linter.unusedSimpArgs false
set_option linter.unusedVariables false
namespace Go.Proofs.YtapgiagpjplpdaaGreat
open Go.RowKit Go.Qc Go.Shelf
attribute [local go_sem] txt_size txt_append ib_fold txt_toL

theorem fold_size_id : ∀ (l : List Value) (k : Nat) (Z : Array Value), (List.foldl (fun cs x => cs.setIfInBounds x.snd x.fst) Z (l.zipIdx k)).size = Z.size
  | [], k, Z => rfl
  | v :: l, k, Z => by
    rw [List.zipIdx_cons, List.foldl_cons, fold_size_id l (k + 1), Array.size_setIfInBounds]
theorem own_one {W : World} {base g : Nat} {cur : Array Value} {b : List UInt8} (hb : b.length = 32) (hB : Blk W g 23 cur) (hsz : cur.size = 32) (hc : ∀ (j : Nat) (u : Value), (b.map u8v)[j]? = some u → cur[j]? = some u) (hg : base ≤ g) : W.ownsRow base 23 32 (.slice (some ⟨g, 0, none⟩) 1 1) 1 (idsV [b]) := by
  refine ⟨by simp [idsV, hb], .inr ⟨g, 1, cur, rfl, hg, hB, Nat.le_refl _, by decide, by rw [hsz], ?_⟩⟩
  apply List.ext_getElem?
  intro t
  have e : idsV [b] = b.map u8v := by simp [idsV]
  rw [e, List.getElem?_take]
  by_cases ht : t < 1 * 32
  · rw [if_pos ht, Array.getElem?_toList]
    obtain ⟨u, hu⟩ : ∃ u, (b.map u8v)[t]? = some u := ⟨_, List.getElem?_eq_getElem (by rw [List.length_map, hb]; omega)⟩
    rw [hu, hc t u hu]
  · rw [if_neg ht, List.getElem?_eq_none (by rw [List.length_map, hb]; omega)]
/-- The root, and the keys of the grants that cover. -/
def rowK (root : List UInt8) (Xs : List GrD) (s : List UInt8) : List (List UInt8) := root :: (Xs.filter (fun X => covB X.p s)).map (·.k)
def keysG (root : List UInt8) (Xs : List GrD) (s : List UInt8) : List (List UInt8) := if preR s = true then sortL (rowK root Xs s) else []
theorem rowK_len (root : List UInt8) (Xs : List GrD) (s : List UInt8) : (rowK root Xs s).length ≤ Xs.length + 1 := by
  unfold rowK
  rw [List.length_cons, List.length_map]
  have := List.length_filter_le (fun X => covB X.p s) Xs
  omega
theorem rowK_snoc (root s : List UInt8) {Xs : List GrD} {k : Nat} {X : GrD} (h : Xs[k]? = some X) : rowK root (Xs.take (k + 1)) s = rowK root (Xs.take k) s ++ (if covB X.p s = true then [X.k] else []) := by
  unfold rowK
  rw [List.take_add_one, h]
  by_cases hc : covB X.p s = true
  · simp [hc]
  · simp [hc]
theorem rowK_32 (root s : List UInt8) (hR : root.length = 32) {Xs : List GrD} (hK : ∀ X ∈ Xs, X.ok) : ∀ a ∈ rowK root Xs s, a.length = 32 := by
  intro a ha
  unfold rowK at ha
  rcases List.mem_cons.1 ha with rfl | ha
  · exact hR
  · obtain ⟨X, hX, rfl⟩ := List.mem_map.1 ha
    exact (hK X (List.mem_filter.1 hX).1).1

set_option maxRecDepth 100000 in
set_option maxHeartbeats 20000000 in
theorem gkeys_no (tb : Nat) (root : List UInt8) (hR : root.length = 32) (Xs : List GrD) (bn : Xs.length ≤ 900) (s : List UInt8) (w : World) (hs : TbS w tb root Xs) (hp : preR s = false) :
    Calls Tryz.prog 20 #[.pointer (some ⟨tb, 0, none⟩), .string (txt s)] w fun e w' => ∃ A2 n2 c2, e = .returned (.slice A2 n2 c2) ∧ RowR w' A2 n2 (keysG root Xs s) ∧ Below w.heap.size w w' := by
  have cP := prefix_any s w
  rw [hp] at cP
  go_enter Tryz.func20, Tryz.ntmps20
  go_wp2_with (go_at_call 36; (with_reducible refine cP.mono ?_); rintro e1 w1 ⟨rfl, hb1⟩)
  go_ret
  refine ⟨none, 0, 0, rfl, ?_, hb1⟩
  unfold keysG
  rw [if_neg (by rw [hp]; decide)]
  exact ⟨rfl, by decide, IdRd.nil_ _ _⟩

set_option maxRecDepth 100000 in
set_option maxHeartbeats 20000000 in
theorem gkeys_yes (tb : Nat) (root : List UInt8) (hR : root.length = 32) (Xs : List GrD) (bn : Xs.length ≤ 900) (s : List UInt8) (w : World) (hs : TbS w tb root Xs) (hp : preR s = true) :
    Calls Tryz.prog 20 #[.pointer (some ⟨tb, 0, none⟩), .string (txt s)] w fun e w' => ∃ A2 n2 c2, e = .returned (.slice A2 n2 c2) ∧ RowR w' A2 n2 (keysG root Xs s) ∧ Below w.heap.size w w' := by
  have cP := prefix_any s w
  rw [hp] at cP
  have hu := Tryz.underlying23
  have hzr : (Tryz.prog.info? 23).map (·.size) = some (root.map u8v).length := by rw [List.length_map, hR]; exact sizeId
  obtain ⟨j0, hj, hjz, hjs, hjb⟩ := infoId2_parts
  obtain ⟨AG, C, ht, hNC, hA, hr⟩ := hs.open_
  have HOK := hid hs.ok
  obtain ⟨n, hn⟩ : ∃ n, Xs.length = n := ⟨_, rfl⟩
  rw [hn] at bn ht hNC hA
  have HN := hid hn
  have bn9 : n ≤ 9223372036854775807 := by omega
  have fr := ht.key
  have x32 := ht.row hR
  clear hn hs hA
  go_enter Tryz.func20, Tryz.ntmps20
  go_upto_region 4 with (first
    | (go_at_call 36; (with_reducible refine cP.mono ?_); rintro e1 w1 ⟨rfl, hb1⟩; replace fr := fr.below hb1; replace x32 := gr_cell hb1 x32)
    | (with_reducible refine wpList_load_if (by with_unfolding_all rfl) 23 _ rfl _ _ rfl (root.map u8v) _ fr hu rfl hzr ?_))
  generalize hZ : (World.alloc w1 _) = w2
  obtain ⟨cur, hw2, hcs, hcg⟩ : ∃ cur : Array Value, w2 = w1.alloc (.cells cur 23) ∧ cur.size = 32 ∧ ∀ (j : Nat) (u : Value), (root.map u8v)[j]? = some u → cur[j]? = some u := by
    refine ⟨_, hZ.symm, ?_, ?_⟩
    · rw [fold_size_id]; rfl
    · intro j u hj
      have hlt : j < 32 := by have := (List.getElem?_eq_some_iff.1 hj).1; rwa [List.length_map, hR] at this
      rw [fold_get _ 0 _ j (by rw [List.length_map, hR]; decide), if_pos (by rw [List.length_map, hR]; omega), Nat.sub_zero]
      exact hj
  clear hZ
  have hal := (Below.refl w1.heap.size w1).alloc (Nat.le_refl _) (.cells cur 23)
  have ho0 : w2.ownsRow w.heap.size 23 32 (.slice (some ⟨w1.heap.size, 0, none⟩) 1 1) 1 (idsV [root]) := by
    rw [hw2]
    exact own_one hR (Blk.new _ _ _) hcs hcg hb1.size
  rw [← hw2] at hal
  have hb2 := hb1.trans (hal.mono hb1.size)
  replace x32 := gr_cell hal x32
  clear hcs hcg hw2 fr cP
  go_wp2_with (fail)
  go_loopw [5, 21] (fun v i wr => ∃ (k : Nat) (o : List (List UInt8)), k ≤ n ∧ i = .int .i64 k ∧ Hid (o = rowK root (Xs.take k) s) ∧ wr.ownsRow w.heap.size 23 32 v o.length (idsV o) ∧ Below w.heap.size w wr) (fun _ i _ => n - (intOf i).toNat)
  case atStart => exact ⟨0, [root], by omega, rfl, hid rfl, ho0, hb2⟩
  case round =>
    clear ho0 hb2 x32
    obtain ⟨k, o, hkn, rfl, HO, hown, hb⟩ := hrel
    by_cases hlt : k < n
    · obtain ⟨X, hX⟩ : ∃ X, Xs[k]? = some X := ⟨_, List.getElem?_eq_getElem (by have := HN.out; omega)⟩
      obtain ⟨g, q, hg, hXo, hix⟩ := hr.pick C HN.out hX
      have b1 : (k : Int) < n := by omega
      have fX := hg.below hb
      have hnw := GrX.new wr X
      have hba := (Below.refl wr.heap.size wr).alloc (Nat.le_refl _) (.cells X.cs 70)
      have c0 := hnw.c0
      have fy := hnw.key
      have hzx : (Tryz.prog.info? 23).map (·.size) = some (X.k.map u8v).length := by rw [List.length_map, hXo.1]; exact sizeId
      have hox := u8v_one X.k
      have lk : X.k.length = 32 := hXo.1
      obtain ⟨cv, hcv⟩ : ∃ cv, covB X.p s = cv := ⟨_, rfl⟩
      have cC : ∀ W, Calls Tryz.prog 38 #[.string (txt X.p), .string (txt s)] W fun e w' => e = .returned (.bool cv) ∧ Below W.heap.size W w' := fun W => by
        refine (gcov_any X.p s W).mono ?_
        rintro e w' ⟨rfl, rfl⟩
        exact ⟨by rw [hcv], Below.refl _ _⟩
      have HSN := hid (rowK_snoc root s hX)
      have HCV := hid hcv
      have HL := hid (show o.length ≤ k + 1 by
        have := rowK_len root (Xs.take k) s
        rw [← HO.out, List.length_take] at this
        omega)
      have HLT := hid (show k + 1 ≤ n from hlt)
      have hbA := hb.alloc hb.size (.cells X.cs 70)
      have howA := hown.alloc (.cells X.cs 70)
      clear hX hg hcv hba hlt
      cases cv with
      | true =>
        go_wp2_with (first
          | (with_reducible refine wpList_load_grr (by with_unfolding_all rfl) _ rfl _ _ rfl fX hXo ?_)
          | (with_reducible refine wpList_store_grn rfl _ _ rfl rfl rfl hXo (by with_unfolding_all rfl) ?_)
          | (go_at_call 38; (with_reducible refine (cC _).mono ?_); rintro e3 w3 ⟨rfl, hb3⟩; replace fy := fy.below hb3; replace hbA := hbA.trans (hb3.mono hbA.size); replace howA := own_below howA hb3)
          | (with_reducible refine wpList_load_if (by with_unfolding_all rfl) 23 _ rfl _ _ rfl (X.k.map u8v) _ fy hu rfl hzx ?_)
          | (at_builtin; refine wpList_append_own _ rfl _ _ 48 rfl w.heap.size 23 j0 (.agg (idVals zeroB)) 32 32 Tryz.underlying48 hj hjz hjs hjb rfl (by decide) _ _ _ rfl (howA.alloc _) ⟨w3.heap.size, 0, none⟩ 1 1 (X.k.map u8v) rfl ?l1 (news_fold w3 X.k hXo.1) hox ?l2 ?l3 ?l4 ?_))
        try case l1 => rw [List.length_map, hXo.1]
        case l2 => have := HL.out; unfold maxLen; omega
        case l3 => have := HL.out; omega
        case l4 => (try simp); have := hbA.size; omega
        intro v8 w8 hown8 hg8 _
        have hB8 := (hbA.alloc hbA.size _).grown hg8 (hbA.alloc hbA.size _).size (fun k hk => (howA.lt k hk).1)
        clear hg8
        go_wp2_with (fail)
        go_roundw
        case rel => exact ⟨k + 1, o ++ [X.k], HLT.out, by go_num, hid (by rw [HSN.out, HCV.out, ← HO.out]; simp), (by rw [List.length_append, idsV_snoc]; exact hown8), hB8⟩
        case measure => exact meas_k1 HLT.out
      | false =>
        go_wp2_with (first
          | (with_reducible refine wpList_load_grr (by with_unfolding_all rfl) _ rfl _ _ rfl fX hXo ?_)
          | (with_reducible refine wpList_store_grn rfl _ _ rfl rfl rfl hXo (by with_unfolding_all rfl) ?_)
          | (go_at_call 38; (with_reducible refine (cC _).mono ?_); rintro e3 w3 ⟨rfl, hb3⟩; replace fy := fy.below hb3; replace hbA := hbA.trans (hb3.mono hbA.size); replace howA := own_below howA hb3))
        go_roundw
        case rel => exact ⟨k + 1, o, HLT.out, by go_num, hid (by rw [HSN.out, HCV.out, ← HO.out]; simp), howA, hbA⟩
        case measure => exact meas_k1 HLT.out
    · obtain rfl : k = n := by omega
      have c1 : ¬ (k : Int) < k := by omega
      have HQ := hid (show o = rowK root Xs s by rw [HO.out, List.take_of_length_le (by rw [HN.out]; exact Nat.le_refl _)])
      have h32 : ∀ a ∈ o, a.length = 32 := by rw [HQ.out]; exact rowK_32 root s hR HOK.out
      have hL : o.length ≤ 1000000 := by have := rowK_len root Xs s; have h2 := HN.out; rw [HQ.out]; omega
      obtain ⟨A1, c1', rfl, hra⟩ := RowAt.own hown h32 hL
      have cS := sort_any A1 o.length c1' o wr ⟨rfl, hL, hra.2.2.2.2⟩
      have HE := hid (show keysG root Xs s = sortL o by unfold keysG; rw [if_pos hp, HQ.out])
      clear hra hown HO
      go_wp2_with (go_at_call 39; (with_reducible refine cS.mono ?_); rintro e5 w5 ⟨A2, n2, c2, rfl, hR2, hb5⟩)
      go_ret
      exact ⟨A2, n2, c2, rfl, by rw [HE.out]; exact hR2, hb.trans (hb5.mono hb.size)⟩
theorem gkeys_any (tb : Nat) (root : List UInt8) (hR : root.length = 32) (Xs : List GrD) (bn : Xs.length ≤ 900) (s : List UInt8) (w : World) (hs : TbS w tb root Xs) :
    Calls Tryz.prog 20 #[.pointer (some ⟨tb, 0, none⟩), .string (txt s)] w fun e w' => ∃ A2 n2 c2, e = .returned (.slice A2 n2 c2) ∧ RowR w' A2 n2 (keysG root Xs s) ∧ Below w.heap.size w w' := by
  cases hp : preR s with
  | false => exact gkeys_no tb root hR Xs bn s w hs hp
  | true => exact gkeys_yes tb root hR Xs bn s w hs hp

end Go.Proofs.YtapgiagpjplpdaaGreat

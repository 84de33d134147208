
/- Rows of ids: the document's Put, Sort, Only; id.Same. -/
import Derived.Test.YtbdlpdajdlpncaaId8
namespace Go.Proofs.Ytbdlpdajdlpncaa
open Go.RowKit Go.Qc
attribute [local go_sem] txt_size

theorem RowAt.below {w w' : World} {A : Option Addr} {n c : Nat} {l : List (List UInt8)} (h : RowAt w A n c l) (hb : Below w.heap.size w w') : RowAt w' A n c l := ⟨h.1, h.2.1, h.2.2.1, h.2.2.2.1, h.2.2.2.2.below hb⟩
theorem RowAt.own {w : World} {base n : Nat} {e : TypeId} {v : Value} {ids : List (List UInt8)} (h : w.ownsRow base e 32 v n (idsV ids)) (h32 : ∀ a ∈ ids, a.length = 32) (hm : n ≤ 1000000) : ∃ A c, v = .slice A n c ∧ RowAt w A n c ids := by
  obtain ⟨A, c, hv, hl, hr⟩ := IdRd.own h h32
  rcases h.2 with ⟨h1, h2⟩ | ⟨g, cap, cur, h1, _, _, h3, h4, _⟩
  · rw [hv] at h1
    injection h1 with _ h5 h6
    exact ⟨A, c, hv, hl, by omega, by unfold maxLen; omega, hm, hr⟩
  · rw [hv] at h1
    injection h1 with _ h5 h6
    exact ⟨A, c, hv, hl, by omega, by omega, hm, hr⟩
theorem RowAt.own1 {w : World} {base n : Nat} {e : TypeId} {v : Value} {ids : List (List UInt8)} (h : w.ownsRow base e 32 v n (idsV ids)) (h32 : ∀ a ∈ ids, a.length = 32) (hm : n ≤ 1000000) (h0 : 0 < n) : ∃ ad c, v = .slice (some ad) n c ∧ RowAt w (some ad) n c ids := by
  obtain ⟨A, c, hv, hr⟩ := RowAt.own h h32 hm
  rcases h.2 with ⟨h1, h2⟩ | ⟨g, cap, cur, h1, _, _, h3, h4, _⟩
  · omega
  · rw [hv] at h1
    injection h1 with h5 h6 h7
    subst h5
    exact ⟨_, c, hv, hr⟩
def insL (a : List UInt8) : List (List UInt8) → List (List UInt8)
  | [] => [a]
  | x :: t => if ltB a x = true then a :: x :: t else x :: insL a t
def putL (l : List (List UInt8)) (a : List UInt8) : List (List UInt8) := if a ∈ l then l else insL a l
def sortL (l : List (List UInt8)) : List (List UInt8) := l.foldl putL []
theorem insL_length (a : List UInt8) : ∀ l : List (List UInt8), (insL a l).length = l.length + 1
  | [] => rfl
  | x :: t => by
    rw [insL]
    split
    · rfl
    · simp [insL_length a t]
theorem putL_le (l : List (List UInt8)) (a : List UInt8) : (putL l a).length ≤ l.length + 1 := by
  unfold putL
  split
  · omega
  · rw [insL_length]; exact Nat.le_refl _
theorem foldl_put_le : ∀ (l o : List (List UInt8)), (l.foldl putL o).length ≤ o.length + l.length
  | [], o => by simp
  | x :: t, o => by
    have h1 := foldl_put_le t (putL o x)
    have h2 := putL_le o x
    simp only [List.foldl_cons, List.length_cons]
    omega
theorem sortL_le (l : List (List UInt8)) : (sortL l).length ≤ l.length := by have := foldl_put_le l []; simpa [sortL] using this
theorem sortL_snoc {l : List (List UInt8)} {k : Nat} {x : List UInt8} (hx : l[k]? = some x) : sortL (l.take (k + 1)) = putL (sortL (l.take k)) x := by
  rw [List.take_add_one, hx]
  simp [sortL]
theorem drop_cons {l : List (List UInt8)} {k : Nat} {x : List UInt8} (hx : l[k]? = some x) : l.drop k = x :: l.drop (k + 1) := by
  obtain ⟨h, rfl⟩ := List.getElem?_eq_some_iff.1 hx
  exact List.drop_eq_getElem_cons h
theorem put_t {a x : List UInt8} {l o : List (List UInt8)} {k : Nat} (hx : l[k]? = some x) (h : o ++ (if true = true then l.drop k else insL a (l.drop k)) = insL a l) : o ++ [x] ++ (if true = true then l.drop (k + 1) else insL a (l.drop (k + 1))) = insL a l := by
  rw [if_pos rfl, drop_cons hx] at h
  rw [if_pos rfl, ← h, List.append_assoc]; rfl
theorem put_lt {a x : List UInt8} {l o : List (List UInt8)} {k : Nat} (hx : l[k]? = some x) (hl : ltB a x = true) (h : o ++ (if false = true then l.drop k else insL a (l.drop k)) = insL a l) : o ++ [a] ++ [x] ++ (if true = true then l.drop (k + 1) else insL a (l.drop (k + 1))) = insL a l := by
  rw [if_neg (by decide), drop_cons hx, insL, if_pos hl] at h
  rw [if_pos rfl, ← h, List.append_assoc, List.append_assoc]; rfl
theorem put_ge {a x : List UInt8} {l o : List (List UInt8)} {k : Nat} (hx : l[k]? = some x) (hl : ltB a x = false) (h : o ++ (if false = true then l.drop k else insL a (l.drop k)) = insL a l) : o ++ [x] ++ (if false = true then l.drop (k + 1) else insL a (l.drop (k + 1))) = insL a l := by
  rw [if_neg (by decide), drop_cons hx, insL, if_neg (by rw [hl]; decide)] at h
  rw [if_neg (by decide), ← h, List.append_assoc]; rfl
set_option maxRecDepth 100000 in
set_option maxHeartbeats 20000000 in
theorem rput_any (ad : Addr) (n c : Nat) (l : List (List UInt8)) (a : List UInt8) (ha : a.length = 32) (w : World) (hA : RowAt w (some ad) n c l) (hN : n + 1 ≤ 1000000) :
    Calls Try.prog 38 #[.slice (some ad) n c, .agg (idVals a)] w fun e w' => ∃ ad' n' c', e = .returned (.slice (some ad') n' c') ∧ RowAt w' (some ad') n' c' (putL l a) ∧ Below w.heap.size w w' := by
  have hI := Blk.new w 24 (idVals a)
  have hra0 := range_blk hI
  have hB0 : Below w.heap.size w (w.alloc (.cells (idVals a) 24)) := (Below.refl _ _).alloc (Nat.le_refl _) _
  have hu := Try.underlying24
  obtain ⟨j0, hj, hjz, hjs, hjb⟩ := infoId2_parts
  have hza : (Try.prog.info? 24).map (·.size) = some (a.map u8v).length := by rw [List.length_map, ha]; exact sizeId
  have hoa := u8v_one a
  have mixed : Try.prog.follows .mixedOrders = true := by kernel_rfl
  have cH : Calls Try.prog 15 #[.slice (some ad) n c, .agg (a.map u8v).toArray] (w.alloc (.cells (idVals a) 24)) fun e w' => e = .returned (.bool (decide (a ∈ l))) ∧ Below (w.alloc (.cells (idVals a) 24)).heap.size (w.alloc (.cells (idVals a) 24)) w' := rhas_any (some ad) n c l a ha _ (hA.below hB0).r
  clear hI
  obtain ⟨t, ht⟩ : ∃ t, decide (a ∈ l) = t := ⟨_, rfl⟩
  rw [ht] at cH
  cases t with
  | true =>
    have HT := hid (show putL l a = l by unfold putL; rw [if_pos (of_decide_eq_true ht)])
    clear ht
    go_enter Try.func38, Try.ntmps38
    go_wp2_with (first
      | (with_reducible refine wpList_load_if (by with_unfolding_all rfl) 24 _ rfl _ _ rfl (a.map u8v) _ hra0 hu (by with_unfolding_all rfl) hza ?_)
      | (go_at_call 15; (with_reducible refine cH.mono ?_); rintro e1 w1 ⟨rfl, hb1⟩))
    go_ret
    have hB1 := hB0.trans (hb1.mono hB0.size)
    exact ⟨ad, n, c, rfl, by rw [HT.out]; exact hA.below hB1, hB1⟩
  | false =>
    have HT := hid (show putL l a = insL a l by unfold putL; rw [if_neg (of_decide_eq_false ht)])
    clear ht
    go_enter Try.func38, Try.ntmps38
    go_wp2_with (first
      | (with_reducible refine wpList_load_if (by with_unfolding_all rfl) 24 _ rfl _ _ rfl (a.map u8v) _ hra0 hu (by with_unfolding_all rfl) hza ?_)
      | (go_at_call 15; (with_reducible refine cH.mono ?_); rintro e1 w1 ⟨rfl, hb1⟩))
    have hB1 := hB0.trans (hb1.mono hB0.size)
    have hra1 := hra0.below hb1
    have hA1 := hA.below hB1
    clear hra0 hB0 cH hb1 hA
    obtain ⟨hn, hc, bc, bn, hr⟩ := hA1
    go_loopw [5, 6, 7] (fun v d i wr => ∃ (k : Nat) (b : Bool) (o : List (List UInt8)), k ≤ n ∧ d = .bool b ∧ i = .int .i64 k ∧ (∀ x ∈ o, x.length = 32) ∧ o.length ≤ k + 1 ∧ (b = false → o.length ≤ k) ∧ o ++ (if b = true then l.drop k else insL a (l.drop k)) = insL a l ∧ wr.ownsRow w1.heap.size 24 32 v o.length (idsV o) ∧ Below w1.heap.size w1 wr) (fun _ _ i _ => n - (intOf i).toNat)
    case atStart => exact ⟨0, false, [], by omega, rfl, rfl, by simp, by simp, by simp, rfl, World.ownsRow_made _ _ _ (Nat.le_refl _) (by decide) rfl, (Below.refl _ _).alloc (Nat.le_refl _) _⟩
    case round =>
      obtain ⟨k, b, o, hk, rfl, rfl, ho, hol, hob, heq, hown, hb⟩ := hrel
      have HO := hid ho
      have HE := hid heq
      clear ho heq
      by_cases hlt : k < n
      · obtain ⟨x, hx⟩ : ∃ x, l[k]? = some x := ⟨_, List.getElem?_eq_getElem (by omega)⟩
        obtain ⟨g, q, hg, lx, hix⟩ := hr.pick c hn hx
        have b1 : (k : Int) < n := by omega
        have fx := range_later (hg.below hb)
        have fa := range_later (hra1.below hb)
        have hzx : (Try.prog.info? 24).map (·.size) = some (x.map u8v).length := by rw [List.length_map, lx]; exact sizeId
        have hox := u8v_one x
        have HN := hid hn
        have HX := hid hx
        obtain ⟨L, hL⟩ : ∃ L, ltB a x = L := ⟨_, rfl⟩
        have hless : ∀ W : World, Calls Try.prog 16 #[.agg (List.map u8v a).toArray, .agg (List.map u8v x).toArray] W fun e w' => e = .returned (.bool L) ∧ Below W.heap.size W w' := fun W => by rw [← hL]; exact rless_any a x ha lx W
        have HL := hid hL
        clear hn hx hL
        cases b with
        | true =>
          clear hob
          go_wp2
          refine wp_region_later mixed (by kernel_rfl) ?_
          repeat (first
            | ((with_reducible refine wpQuiet_skip (by with_unfolding_all rfl) ?_); simp only [Act.put, List.setIfInBounds_toArray, List.set_cons_zero, List.set_cons_succ])
            | ((with_reducible refine wpQuiet_load_if (by with_unfolding_all rfl) 24 _ rfl _ _ rfl (x.map u8v) _ fx hu (by with_unfolding_all rfl) hzx ?_); simp only [Act.put, List.setIfInBounds_toArray, List.set_cons_zero, List.set_cons_succ])
            | ((with_reducible refine wpQuiet_load_if (by with_unfolding_all rfl) 24 _ rfl _ _ rfl (a.map u8v) _ fa hu (by with_unfolding_all rfl) hza ?_); simp only [Act.put, List.setIfInBounds_toArray, List.set_cons_zero, List.set_cons_succ])
            | ((with_reducible refine wpQuiet_step (fun K hK => ?_)); go_simp; first | ((with_reducible refine hK _ ?_); clear hK K) | (with_reducible apply Exists.intro; (with_reducible refine ⟨fun _ => ?_, hK _ ?_⟩); ((first | (go_at_call 16; exact later_of (hless _)))); clear hK K)))
          with_reducible refine wpQuiet_nil ?_
          intro _ hw'
          obtain ⟨p, rfl⟩ := hw'
          have hp := p.h
          generalize p.w = wq at *
          replace hb := hb.trans (hp.mono hb.size)
          replace hown := own_below hown hp
          have r1 := hg.below hb
          clear fx fa hp
          go_wp2_with (first
            | (with_reducible refine wpList_load_if (by with_unfolding_all rfl) 24 _ rfl _ _ rfl (x.map u8v) _ r1 hu (by with_unfolding_all rfl) hzx ?_)
            | (at_builtin; refine wpList_append_own _ rfl _ _ 22 rfl w1.heap.size 24 j0 (.agg (idVals zeroB)) 32 32 Try.underlying22 hj hjz hjs hjb rfl (by decide) _ _ _ rfl (hown.alloc _) ⟨wq.heap.size, 0, none⟩ 1 1 (x.map u8v) rfl ?l1 (news_fold wq x lx) hox ?l2 ?l3 ?l4 ?_))
          try case l1 => rw [List.length_map, lx]
          case l2 => unfold maxLen; omega
          case l3 => omega
          case l4 => (try simp); have := hb.size; omega
          intro v8 w8 hown8 hg8 _
          have hB8 := (hb.alloc hb.size _).grown hg8 (hb.alloc hb.size _).size (fun k hk => (hown.lt k hk).1)
          clear hg8
          go_wp2
          go_roundw
          case rel => exact ⟨k + 1, true, o ++ [x], by omega, rfl, by go_num, snoc32 HO.out lx, by simp; omega, by simp, put_t HX.out HE.out, (by rw [List.length_append, idsV_snoc]; exact hown8), hB8⟩
          case measure => simp [intOf]; omega
        | false =>
          have hol2 := hob rfl
          clear hob
          cases L with
          | true =>
            go_wp2
            refine wp_region_later mixed (by kernel_rfl) ?_
            repeat (first
              | ((with_reducible refine wpQuiet_skip (by with_unfolding_all rfl) ?_); simp only [Act.put, List.setIfInBounds_toArray, List.set_cons_zero, List.set_cons_succ])
              | ((with_reducible refine wpQuiet_load_if (by with_unfolding_all rfl) 24 _ rfl _ _ rfl (x.map u8v) _ fx hu (by with_unfolding_all rfl) hzx ?_); simp only [Act.put, List.setIfInBounds_toArray, List.set_cons_zero, List.set_cons_succ])
              | ((with_reducible refine wpQuiet_load_if (by with_unfolding_all rfl) 24 _ rfl _ _ rfl (a.map u8v) _ fa hu (by with_unfolding_all rfl) hza ?_); simp only [Act.put, List.setIfInBounds_toArray, List.set_cons_zero, List.set_cons_succ])
              | ((with_reducible refine wpQuiet_step (fun K hK => ?_)); go_simp; first | ((with_reducible refine hK _ ?_); clear hK K) | (with_reducible apply Exists.intro; (with_reducible refine ⟨fun _ => ?_, hK _ ?_⟩); ((first | (go_at_call 16; exact later_of (hless _)))); clear hK K)))
            with_reducible refine wpQuiet_nil ?_
            intro _ hw'
            obtain ⟨p, rfl⟩ := hw'
            have hp := p.h
            generalize p.w = wq at *
            replace hb := hb.trans (hp.mono hb.size)
            replace hown := own_below hown hp
            have r1 := hg.below hb
            have ra := hra1.below hb
            clear fx fa hp
            go_wp2_with (first
              | (with_reducible refine wpList_load_if (by with_unfolding_all rfl) 24 _ rfl _ _ rfl (a.map u8v) _ ra hu (by with_unfolding_all rfl) hza ?_)
              | (at_builtin; refine wpList_append_own _ rfl _ _ 22 rfl w1.heap.size 24 j0 (.agg (idVals zeroB)) 32 32 Try.underlying22 hj hjz hjs hjb rfl (by decide) _ _ _ rfl (hown.alloc _) ⟨wq.heap.size, 0, none⟩ 1 1 (a.map u8v) rfl ?l1 (news_fold wq a ha) hoa ?l2 ?l3 ?l4 ?_))
            try case l1 => rw [List.length_map, ha]
            case l2 => unfold maxLen; omega
            case l3 => omega
            case l4 => (try simp); have := hb.size; omega
            intro v8 w8 hown8 hg8 _
            have hB8 := (hb.alloc hb.size _).grown hg8 (hb.alloc hb.size _).size (fun k hk => (hown.lt k hk).1)
            clear hg8
            have r2 := hg.below hB8
            go_wp2_with (first
              | (with_reducible refine wpList_load_if (by with_unfolding_all rfl) 24 _ rfl _ _ rfl (x.map u8v) _ r2 hu (by with_unfolding_all rfl) hzx ?_)
              | (at_builtin; refine wpList_append_own _ rfl _ _ 22 rfl w1.heap.size 24 j0 (.agg (idVals zeroB)) 32 32 Try.underlying22 hj hjz hjs hjb rfl (by decide) _ _ _ rfl (hown8.alloc _) ⟨w8.heap.size, 0, none⟩ 1 1 (x.map u8v) rfl ?l1 (news_fold w8 x lx) hox ?l2 ?l3 ?l4 ?_))
            try case l1 => rw [List.length_map, lx]
            case l2 => unfold maxLen; omega
            case l3 => omega
            case l4 => (try simp); have := hB8.size; omega
            intro v9 w9 hown9 hg9 _
            have hB9 := (hB8.alloc hB8.size _).grown hg9 (hB8.alloc hB8.size _).size (fun k hk => (hown8.lt k hk).1)
            clear hg9
            go_wp2
            go_roundw
            case rel => exact ⟨k + 1, true, o ++ [a] ++ [x], by omega, rfl, by go_num, snoc32 (snoc32 HO.out ha) lx, by simp; omega, by simp, put_lt HX.out HL.out HE.out, (by rw [List.length_append, List.length_append, idsV_snoc, idsV_snoc, List.append_assoc]; exact hown9), hB9⟩
            case measure => simp [intOf]; omega
          | false =>
            go_wp2
            refine wp_region_later mixed (by kernel_rfl) ?_
            repeat (first
              | ((with_reducible refine wpQuiet_skip (by with_unfolding_all rfl) ?_); simp only [Act.put, List.setIfInBounds_toArray, List.set_cons_zero, List.set_cons_succ])
              | ((with_reducible refine wpQuiet_load_if (by with_unfolding_all rfl) 24 _ rfl _ _ rfl (x.map u8v) _ fx hu (by with_unfolding_all rfl) hzx ?_); simp only [Act.put, List.setIfInBounds_toArray, List.set_cons_zero, List.set_cons_succ])
              | ((with_reducible refine wpQuiet_load_if (by with_unfolding_all rfl) 24 _ rfl _ _ rfl (a.map u8v) _ fa hu (by with_unfolding_all rfl) hza ?_); simp only [Act.put, List.setIfInBounds_toArray, List.set_cons_zero, List.set_cons_succ])
              | ((with_reducible refine wpQuiet_step (fun K hK => ?_)); go_simp; first | ((with_reducible refine hK _ ?_); clear hK K) | (with_reducible apply Exists.intro; (with_reducible refine ⟨fun _ => ?_, hK _ ?_⟩); ((first | (go_at_call 16; exact later_of (hless _)))); clear hK K)))
            with_reducible refine wpQuiet_nil ?_
            intro _ hw'
            obtain ⟨p, rfl⟩ := hw'
            have hp := p.h
            generalize p.w = wq at *
            replace hb := hb.trans (hp.mono hb.size)
            replace hown := own_below hown hp
            have r1 := hg.below hb
            clear fx fa hp
            go_wp2_with (first
              | (with_reducible refine wpList_load_if (by with_unfolding_all rfl) 24 _ rfl _ _ rfl (x.map u8v) _ r1 hu (by with_unfolding_all rfl) hzx ?_)
              | (at_builtin; refine wpList_append_own _ rfl _ _ 22 rfl w1.heap.size 24 j0 (.agg (idVals zeroB)) 32 32 Try.underlying22 hj hjz hjs hjb rfl (by decide) _ _ _ rfl (hown.alloc _) ⟨wq.heap.size, 0, none⟩ 1 1 (x.map u8v) rfl ?l1 (news_fold wq x lx) hox ?l2 ?l3 ?l4 ?_))
            try case l1 => rw [List.length_map, lx]
            case l2 => unfold maxLen; omega
            case l3 => omega
            case l4 => (try simp); have := hb.size; omega
            intro v8 w8 hown8 hg8 _
            have hB8 := (hb.alloc hb.size _).grown hg8 (hb.alloc hb.size _).size (fun k hk => (hown.lt k hk).1)
            clear hg8
            go_wp2
            go_roundw
            case rel => exact ⟨k + 1, false, o ++ [x], by omega, rfl, by go_num, snoc32 HO.out lx, by simp; omega, by simp; omega, put_ge HX.out HL.out HE.out, (by rw [List.length_append, idsV_snoc]; exact hown8), hB8⟩
            case measure => simp [intOf]; omega
      · obtain rfl : k = n := by omega
        have HD := hid (show l.drop k = [] from List.drop_eq_nil_of_le (by omega))
        have HN := hid hn
        have b1 : ¬ (k : Int) < k := by omega
        clear hn
        cases b with
        | true =>
          have HF := hid (show o = insL a l by have h := HE.out; rw [if_pos rfl, HD.out, List.append_nil] at h; exact h)
          have h0 : 0 < o.length := by rw [HF.out, insL_length]; omega
          obtain ⟨ad2, c2, rfl, hR⟩ := RowAt.own1 hown HO.out (by omega) h0
          go_wp2
          go_ret
          exact ⟨ad2, _, c2, rfl, by rw [HT.out, ← HF.out]; exact hR, hB1.trans (hb.mono hB1.size)⟩
        | false =>
          have hol2 := hob rfl
          have HF := hid (show o ++ [a] = insL a l by have h := HE.out; rw [if_neg (by decide), HD.out, insL] at h; exact h)
          have ra := hra1.below hb
          go_wp2_with (first
            | (with_reducible refine wpList_load_if (by with_unfolding_all rfl) 24 _ rfl _ _ rfl (a.map u8v) _ ra hu (by with_unfolding_all rfl) hza ?_)
            | (at_builtin; refine wpList_append_own _ rfl _ _ 22 rfl w1.heap.size 24 j0 (.agg (idVals zeroB)) 32 32 Try.underlying22 hj hjz hjs hjb rfl (by decide) _ _ _ rfl (hown.alloc _) ⟨wr.heap.size, 0, none⟩ 1 1 (a.map u8v) rfl ?l1 (news_fold wr a ha) hoa ?l2 ?l3 ?l4 ?_))
          try case l1 => rw [List.length_map, ha]
          case l2 => unfold maxLen; omega
          case l3 => omega
          case l4 => (try simp); have := hb.size; omega
          intro v8 w8 hown8 hg8 _
          have hB8 := (hb.alloc hb.size _).grown hg8 (hb.alloc hb.size _).size (fun k hk => (hown.lt k hk).1)
          clear hg8
          obtain ⟨ad2, c2, rfl, hR⟩ := RowAt.own1 (ids := o ++ [a]) (by rw [idsV_snoc]; exact hown8) (snoc32 HO.out ha) (by omega) (by omega)
          go_wp2
          go_ret
          exact ⟨ad2, _, c2, rfl, by rw [HT.out, ← HF.out]; exact hR, hB1.trans (hB8.mono hB1.size)⟩
end Go.Proofs.Ytbdlpdajdlpncaa

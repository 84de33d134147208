
/- hunk: lines with a hunk, by the document. -/
import Derived.Test.YtodfaakodgedbaaPhA
set_option linter.unusedSimpArgs false
set_option linter.unusedVariables false
namespace Go.Proofs.Ytodfaakodgedbaa
open Go.RowKit Go.Qc Go.Shelf
attribute [local go_sem] txt_size txt_append ib_fold txt_toL

theorem rd_get {w : World} {A : Option Addr} {ps : List (List UInt8)} {j : Nat} {p : List UInt8} (h : Rd w A (ps.map strV)) (hp : ps[j]? = some p) : ∃ ad, A = some ad ∧ w.cell? (ad.add j) = some (.string (txt p)) :=
  rd_in h j (strV p) (by rw [List.getElem?_map, hp]; rfl)
theorem fit_no1 {l old : List (List UInt8)} {a i : Nat} (hi : i < old.length) (h : l.length ≤ a + i) : fitR l old a = false := by
  unfold fitR; rw [decide_eq_false (by omega)]; rfl
theorem fit_no2 {l old : List (List UInt8)} {a i : Nat} {p q : List UInt8} (hp : l[a + i]? = some p) (hq : old[i]? = some q) (h : p ≠ q) : fitR l old a = false := by
  unfold fitR
  have : ¬ (l.drop a).take old.length = old := fun e => by
    have h1 : ((l.drop a).take old.length)[i]? = some p := by
      have hi := (List.getElem?_eq_some_iff.1 hq).1
      rw [List.getElem?_take, if_pos hi, List.getElem?_drop, hp]
    rw [e, hq] at h1
    exact h (Option.some.inj h1).symm
  rw [decide_eq_false this, Bool.and_false]
theorem fit_yes {l old : List (List UInt8)} {a : Nat} (h : a + old.length ≤ l.length) (he : (l.drop a).take old.length = old.take old.length) : fitR l old a = true := by
  unfold fitR
  rw [List.take_length] at he
  rw [decide_eq_true h, decide_eq_true he]; rfl
set_option maxRecDepth 100000 in
set_option maxHeartbeats 8000000 in
theorem rapply_form (L : Option Addr) (k e : Nat) (at' : Int) (A : Option Addr) (n c : Nat) (B : Option Addr) (m d : Nat) (P Q : Bool) (hPQ : P = false ∨ Q = false) (w : World)
    (cL : ∀ W, Below w.heap.size w W → Calls Try.prog 49 #[.slice L k e] W fun e w' => e = .returned (.bool P) ∧ W = w')
    (cR : ∀ W, Below w.heap.size w W → Calls Try.prog 50 #[.agg #[.int .i64 at', .slice A n c, .slice B m d]] W fun e w' => e = .returned (.bool Q) ∧ Below W.heap.size W w') :
    Calls Try.prog 32 #[.slice L k e, .agg #[.int .i64 at', .slice A n c, .slice B m d]] w fun e w' => e = .returned (.tuple #[.slice none 0 0, .int .i64 3]) ∧ Below w.heap.size w w' := by
  have hX : Below w.heap.size w (w.alloc (.cells #[.int .i64 at', .slice A n c, .slice B m d] 73)) := (Below.refl _ w).alloc (Nat.le_refl _) _
  cases P with
  | false =>
    go_enter Try.func32, Try.ntmps32
    go_wp2_with (go_at_call 49; (with_reducible refine (cL _ hX).mono ?_); rintro e1 w1 ⟨rfl, rfl⟩)
    go_ret2
    exact ⟨rfl, hX⟩
  | true =>
    obtain rfl : Q = false := by rcases hPQ with h | h; · cases h
                                 · exact h
    go_enter Try.func32, Try.ntmps32
    go_wp2_with (first
      | (go_at_call 49; (with_reducible refine (cL _ hX).mono ?_); rintro e1 w1 ⟨rfl, rfl⟩)
      | (go_at_call 50; (with_reducible refine (cR _ hX).mono ?_); rintro e1 w1 ⟨rfl, hb⟩; replace hX := hX.trans (hb.mono hX.size); clear hb))
    go_ret2
    exact ⟨rfl, hX⟩
set_option maxRecDepth 100000 in
set_option maxHeartbeats 16000000 in
theorem rapply_ok (L : Option Addr) (k e : Nat) (ls : List (List UInt8)) (hk : ls.length = k) (bk : k ≤ 1000) (a : Nat) (ba : a ≤ 1000) (A : Option Addr) (n c : Nat) (old : List (List UInt8)) (hn : old.length = n) (bn : n ≤ 1000) (B : Option Addr) (m d : Nat) (new : List (List UInt8)) (hm : new.length = m) (bm : m ≤ 1000) (w : World)
    (hL : Rd w L (ls.map strV)) (hA : Rd w A (old.map strV)) (hB : Rd w B (new.map strV))
    (cL : ∀ W, Below w.heap.size w W → Calls Try.prog 49 #[.slice L k e] W fun e w' => e = .returned (.bool true) ∧ W = w')
    (cR : ∀ W, Below w.heap.size w W → Calls Try.prog 50 #[.agg #[.int .i64 (a : Int), .slice A n c, .slice B m d]] W fun e w' => e = .returned (.bool true) ∧ Below W.heap.size W w')
    (R : List (List UInt8)) (z : Int) (hR : (R, z) = if k < a then ([], 5) else if fitR ls old a = false then ([], 12) else if 1000 < k - n + m then ([], 4) else (ls.take a ++ (new ++ ls.drop (a + n)), 0)) :
    Calls Try.prog 32 #[.slice L k e, .agg #[.int .i64 (a : Int), .slice A n c, .slice B m d]] w fun e w' => ∃ v, e = .returned (.tuple #[v, .int .i64 z]) ∧ w'.ownsRow w.heap.size 9 1 v R.length (R.map strV) ∧ Below w.heap.size w w' := by
  obtain ⟨j0, hj, hjz, hjs, hjb⟩ := info_parts infoString
  have hX : Below w.heap.size w (w.alloc (.cells #[.int .i64 (a : Int), .slice A n c, .slice B m d] 73)) := (Below.refl _ w).alloc (Nat.le_refl _) _
  have hh := Hk.new w 73 (a : Int) (.slice A n c) (.slice B m d)
  have HL := hid hL
  have HA := hid hA
  have HB := hid hB
  have HR := hid hR
  have HN := hid hn
  have HM := hid hm
  have HK := hid hk
  clear hL hA hB hR hn hm hk
  by_cases hka : k < a
  · have z1 : (k : Int) < a := by omega
    have hr := HR.out
    rw [if_pos hka] at hr
    obtain ⟨rfl, rfl⟩ := Prod.mk.inj hr
    clear HR hr
    go_enter Try.func32, Try.ntmps32
    go_wp2_with (first
      | (go_at_call 49; (with_reducible refine (cL _ hX).mono ?_); rintro e1 w1 ⟨rfl, rfl⟩)
      | (go_at_call 50; (with_reducible refine (cR _ hX).mono ?_); rintro e1 w1 ⟨rfl, hb⟩; replace hh := hh.below hb; have c0 := hh.c0; replace hX := hX.trans (hb.mono hX.size); clear hb))
    go_ret2
    exact ⟨_, rfl, World.ownsRow_nil _ _ _ _, hX⟩
  have z1 : ¬ (k : Int) < a := by omega
  go_enter Try.func32, Try.ntmps32
  go_wp2_with (first
    | (go_at_call 49; (with_reducible refine (cL _ hX).mono ?_); rintro e1 w1 ⟨rfl, rfl⟩)
    | (go_at_call 50; (with_reducible refine (cR _ hX).mono ?_); rintro e1 W1 ⟨rfl, hb⟩; replace hh := hh.below hb; have c0 := hh.c0; replace hX := hX.trans (hb.mono hX.size); clear hb))
  have h0 : (W1.alloc (.cells #[] 9)).ownsRow W1.heap.size 9 1 (.slice (some ⟨W1.heap.size, 0, none⟩) 0 0) 0 [] := World.ownsRow_made W1 #[] 0 (Nat.le_refl _) (by decide) rfl
  have hB0 : Below W1.heap.size W1 (W1.alloc (.cells #[] 9)) := (Below.refl _ W1).alloc (Nat.le_refl _) _
  have HX := hid hX
  clear c0 cL cR hX
  go_loopw [6, 7] (fun v i wr => ∃ (j : Nat) (Q : List (List UInt8)), j ≤ a ∧ i = .int .i64 j ∧ Q = ls.take j ∧ wr.ownsRow W1.heap.size 9 1 v Q.length (Q.map strV) ∧ Below W1.heap.size W1 wr) (fun _ i _ => a - (intOf i).toNat)
  case atStart => exact ⟨0, [], by omega, rfl, by simp, h0, hB0⟩
  case round =>
    clear h0 hB0
    obtain ⟨j, Q, hja, rfl, hQ, hown, hB⟩ := hrel
    have hwz := hB.size
    have HQL : Hid (Q.length ≤ 1000) := hid (by rw [hQ, List.length_take]; omega)
    have HQ := hid hQ
    clear hQ
    have c0 := (hh.below hB).c0
    by_cases hlt : j < a
    · have b1 : (j : Int) < a := by omega
      obtain ⟨p, hp⟩ : ∃ p, ls[j]? = some p := ⟨_, List.getElem?_eq_getElem (by have := HK.out; omega)⟩
      obtain ⟨ad, rfl, hcell⟩ := rd_get (HL.out.below (HX.out.trans (hB.mono HX.out.size))) hp
      have HP := hid hp
      have b2 : (j : Int) < k := by omega
      clear hp
      go_wp2_with (at_builtin; refine wpList_append_new rfl _ _ 36 rfl W1.heap.size 9 j0 (.string ⟨#[]⟩) 16 Try.underlying36 hj hjz hjs hjb rfl _ _ _ rfl hown 1 _ rfl rfl ?l1 ?l2 ?l3 hwz ?_)
      case l1 => simp [Value.oneCell']
      case l2 => have := HQL.out; unfold maxLen; omega
      case l3 => have := HQL.out; omega
      intro v8 w8 hown8 hb8
      go_wp2
      go_roundw
      case rel => exact ⟨j + 1, Q ++ [p], by omega, by go_num, by rw [take_snoc HP.out, HQ.out], (by rw [List.length_append, List.map_append]; exact hown8), hB.trans (hb8.mono (Nat.le_refl _))⟩
      case measure => simp [intOf]; omega
    · obtain rfl : a = j := by omega
      have b1 : ¬ (a : Int) < a := by omega
      clear c0
      have c0 := (hh.below hB).c0
      go_wp2
      go_loopw [6, 8] (fun v i wr => ∃ (j : Nat) (Q : List (List UInt8)), j ≤ m ∧ i = .int .i64 j ∧ Q = ls.take a ++ new.take j ∧ wr.ownsRow W1.heap.size 9 1 v Q.length (Q.map strV) ∧ Below W1.heap.size W1 wr) (fun _ i _ => m - (intOf i).toNat)
      case atStart => exact ⟨0, Q, by omega, rfl, by rw [HQ.out]; simp, hown, hB⟩
      case round =>
        clear HQ HQL hown hwz hB c0 b1
        obtain ⟨j, Q, hjm, rfl, hQ, hown, hB⟩ := hrel
        have hwz := hB.size
        have HQL : Hid (Q.length ≤ 2000) := hid (by rw [hQ, List.length_append, List.length_take, List.length_take]; omega)
        have HQ := hid hQ
        clear hQ
        have c2 := (hh.below hB).c2
        by_cases hlt : j < m
        · have b1 : (j : Int) < m := by omega
          obtain ⟨p, hp⟩ : ∃ p, new[j]? = some p := ⟨_, List.getElem?_eq_getElem (by have := HM.out; omega)⟩
          obtain ⟨ad, rfl, hcell⟩ := rd_get (HB.out.below (HX.out.trans (hB.mono HX.out.size))) hp
          have HP := hid hp
          clear hp
          go_wp2_with (at_builtin; refine wpList_append_new rfl _ _ 36 rfl W1.heap.size 9 j0 (.string ⟨#[]⟩) 16 Try.underlying36 hj hjz hjs hjb rfl _ _ _ rfl hown 1 _ rfl rfl ?l1 ?l2 ?l3 hwz ?_)
          case l1 => simp [Value.oneCell']
          case l2 => have := HQL.out; unfold maxLen; omega
          case l3 => have := HQL.out; omega
          intro v8 w8 hown8 hb8
          go_wp2
          go_roundw
          case rel => exact ⟨j + 1, Q ++ [p], by omega, by go_num, by rw [take_snoc HP.out, HQ.out, List.append_assoc], (by rw [List.length_append, List.map_append]; exact hown8), hB.trans (hb8.mono (Nat.le_refl _))⟩
          case measure => simp [intOf]; omega
        · obtain rfl : m = j := by omega
          have b1 : ¬ (m : Int) < m := by omega
          have cc := (hh.below hB).c1
          have HQ2 := hid (show Q = ls.take a ++ new by rw [HQ.out]; congr 1; exact List.take_of_length_le (by have := HM.out; omega))
          clear HQ
          go_wp2
          go_loopw [9] (fun i wr => ∃ (j : Nat), j ≤ n ∧ i = .int .i64 j ∧ a + j ≤ k ∧ (ls.drop a).take j = old.take j ∧ wr.ownsRow W1.heap.size 9 1 u6 Q.length (Q.map strV) ∧ Below W1.heap.size W1 wr) (fun i _ => n - (intOf i).toNat)
          case atStart => exact ⟨0, by omega, rfl, by omega, by simp, hown, hB⟩
          case round =>
            clear hown hwz hB b1 cc c2
            obtain ⟨j, hjn, rfl, hajk, heq, hown, hB⟩ := hrel
            have hwz := hB.size
            have HE := hid heq
            clear heq
            have c0 := (hh.below hB).c0
            have c1 := (hh.below hB).c1
            by_cases hlt : j < n
            · have b1 : (j : Int) < n := by omega
              have hw : wrap64 ((a : Int) + j) = (a : Int) + j := by unfold wrap64; omega
              by_cases hover : k ≤ a + j
              · have b2 : (k : Int) ≤ (a : Int) + j := by omega
                have hr := HR.out
                rw [if_neg hka, if_pos (fit_no1 (i := j) (by have := HN.out; omega) (by have := HK.out; omega))] at hr
                obtain ⟨rfl, rfl⟩ := Prod.mk.inj hr
                clear HR hr
                go_wp2
                go_quiet (fail)
                go_wp2
                go_ret2
                exact ⟨_, rfl, World.ownsRow_nil _ _ _ _, HX.out.trans ((below_drewN hB _).mono HX.out.size)⟩
              · have b2 : ¬ (k : Int) ≤ (a : Int) + j := by omega
                have b6 : decide ((k : Int) ≤ (a : Int) + j) = false := decide_eq_false b2
                have b3 : (a : Int) + j < k := by omega
                have b4 : (0 : Int) ≤ (a : Int) + j := by omega
                have b5 : ((a : Int) + j).toNat = a + j := by omega
                obtain ⟨p, hp⟩ : ∃ p, ls[a + j]? = some p := ⟨_, List.getElem?_eq_getElem (by have := HK.out; omega)⟩
                obtain ⟨q, hq⟩ : ∃ q, old[j]? = some q := ⟨_, List.getElem?_eq_getElem (by have := HN.out; omega)⟩
                obtain ⟨ad, rfl, hcell⟩ := rd_get (HL.out.below (HX.out.trans (hB.mono HX.out.size))) hp
                obtain ⟨ad2, rfl, hcell2⟩ := rd_get (HA.out.below (HX.out.trans (hB.mono HX.out.size))) hq
                have HP := hid hp
                have HO := hid hq
                clear hp hq
                by_cases hpq : p = q
                · subst hpq
                  go_wp2
                  go_quiet (fail)
                  go_wp2
                  go_roundw
                  case rel => exact ⟨j + 1, hlt, by go_num, by omega, by rw [take_snoc HO.out, take_snoc (by rw [List.getElem?_drop]; exact HP.out), HE.out], hown, below_drewN hB _⟩
                  case measure => simp [intOf]; omega
                · have hb2 : (p == q) = false := beq_eq_false_iff_ne.2 hpq
                  have hr := HR.out
                  rw [if_neg hka, if_pos (fit_no2 HP.out HO.out hpq)] at hr
                  obtain ⟨rfl, rfl⟩ := Prod.mk.inj hr
                  clear HR hr
                  go_wp2
                  go_quiet (fail)
                  go_wp2
                  go_ret2
                  exact ⟨_, rfl, World.ownsRow_nil _ _ _ _, HX.out.trans ((below_drewN hB _).mono HX.out.size)⟩
            · obtain rfl : n = j := by omega
              have b1 : ¬ (n : Int) < n := by omega
              have hw : wrap64 ((a : Int) + n) = (a : Int) + n := by unfold wrap64; omega
              have hfit : fitR ls old a = true := fit_yes (by have := HN.out; have := HK.out; omega) (by rw [HN.out]; exact HE.out)
              have hr := HR.out
              rw [if_neg hka, if_neg (by rw [hfit]; simp)] at hr
              have HR2 := hid hr
              clear HR hr hfit
              go_wp2
              go_loopw [6, 10] (fun v i wr => ∃ (j : Nat) (Q : List (List UInt8)), j ≤ k ∧ a + n ≤ j ∧ i = .int .i64 j ∧ Q = ls.take a ++ (new ++ (ls.drop (a + n)).take (j - (a + n))) ∧ wr.ownsRow W1.heap.size 9 1 v Q.length (Q.map strV) ∧ Below W1.heap.size W1 wr) (fun _ i _ => k - (intOf i).toNat)
              case atStart => exact ⟨a + n, Q, by omega, by omega, by go_num, by rw [HQ2.out]; simp, hown, hB⟩
              case round =>
                clear hown hwz hB b1 c0 c1 HQ2 HQL hw
                obtain ⟨j, Q, hjk, hanj, rfl, hQ, hown, hB⟩ := hrel
                have hwz := hB.size
                have hlenQ : Q.length = a + (m + (j - (a + n))) := by
                  rw [hQ, List.length_append, List.length_append, List.length_take, List.length_take, List.length_drop, HM.out, HK.out]; omega
                have HQL : Hid (Q.length ≤ 4000) := hid (by omega)
                have HQ := hid hQ
                clear hQ
                by_cases hlt : j < k
                · have b1 : (j : Int) < k := by omega
                  obtain ⟨p, hp⟩ : ∃ p, ls[j]? = some p := ⟨_, List.getElem?_eq_getElem (by have := HK.out; omega)⟩
                  obtain ⟨ad, rfl, hcell⟩ := rd_get (HL.out.below (HX.out.trans (hB.mono HX.out.size))) hp
                  have HP := hid hp
                  have HLQ := hid hlenQ
                  clear hp hlenQ
                  go_wp2_with (at_builtin; refine wpList_append_new rfl _ _ 36 rfl W1.heap.size 9 j0 (.string ⟨#[]⟩) 16 Try.underlying36 hj hjz hjs hjb rfl _ _ _ rfl hown 1 _ rfl rfl ?l1 ?l2 ?l3 hwz ?_)
                  case l1 => simp [Value.oneCell']
                  case l2 => have := HQL.out; unfold maxLen; omega
                  case l3 => have := HQL.out; omega
                  intro v8 w8 hown8 hb8
                  go_wp2
                  go_roundw
                  case rel =>
                    refine ⟨j + 1, Q ++ [p], by omega, by omega, by go_num, ?_, (by rw [List.length_append, List.map_append]; exact hown8), hB.trans (hb8.mono (Nat.le_refl _))⟩
                    rw [show j + 1 - (a + n) = (j - (a + n)) + 1 by omega, take_snoc (by rw [List.getElem?_drop, show a + n + (j - (a + n)) = j by omega]; exact HP.out), HQ.out]
                    simp
                  case measure => simp [intOf]; omega
                · obtain rfl : k = j := by omega
                  have b1 : ¬ (k : Int) < k := by omega
                  have hr := HR2.out
                  have hfull : Q = ls.take a ++ (new ++ ls.drop (a + n)) := by
                    have e2 := List.take_of_length_le (l := ls.drop (a + n)) (i := k - (a + n)) (by rw [List.length_drop, HK.out]; omega)
                    rw [HQ.out, e2]
                  by_cases hlong : 1000 < k - n + m
                  · rw [if_pos hlong] at hr
                    obtain ⟨rfl, rfl⟩ := Prod.mk.inj hr
                    have z2 : (1000 : Int) < Q.length := by omega
                    obtain ⟨A6, c6, e6⟩ : ∃ A6 c6, u6 = .slice A6 Q.length c6 := by obtain ⟨_, A6, c6, e, _⟩ := rowRd hown; exact ⟨A6, c6, e⟩
                    subst e6
                    clear HR2 hr hfull HQ hlenQ
                    go_wp2
                    go_ret2
                    exact ⟨_, rfl, World.ownsRow_nil _ _ _ _, HX.out.trans (hB.mono HX.out.size)⟩
                  · rw [if_neg hlong, ← hfull] at hr
                    obtain ⟨rfl, rfl⟩ := Prod.mk.inj hr
                    have z2 : ¬ (1000 : Int) < R.length := by omega
                    obtain ⟨A6, c6, e6⟩ : ∃ A6 c6, u6 = .slice A6 R.length c6 := by obtain ⟨_, A6, c6, e, _⟩ := rowRd hown; exact ⟨A6, c6, e⟩
                    subst e6
                    clear HR2 hr hfull HQ hlenQ
                    go_wp2
                    go_ret2
                    exact ⟨_, rfl, own_base hown HX.out.size, HX.out.trans (hB.mono HX.out.size)⟩
end Go.Proofs.Ytodfaakodgedbaa

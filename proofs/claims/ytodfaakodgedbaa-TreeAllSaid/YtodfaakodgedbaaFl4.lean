
/- The document's trees: Apply, All, Same. -/
import Derived.Test.YtodfaakodgedbaaFl3
set_option linter.unusedSimpArgs false
set_option linter.unusedVariables false
namespace Go.Proofs.Ytodfaakodgedbaa
open Go.RowKit Go.Qc Go.Shelf
attribute [local go_sem] txt_size txt_append ib_fold txt_toL

theorem rapply14_q (FA : Option Addr) (fn fc : Nat) (Xs : List FlV) (D : OpD) (A : Option Addr) (n c : Nat) (B : Option Addr) (m d : Nat) (w : World) (hn : Xs.length = fn) (bn : fn ≤ 300) (hr : FlRd w FA Xs) (hX : ∀ X ∈ Xs, FlOk w X) (hR : OpR w D A n B m) :
    Calls Try.prog 15 #[.slice FA fn fc, .agg (opC D A n c B m d)] w fun e w' => ApQ w w' (Xs.map FlV.D) D e := by
  by_cases hE : opE D = 0
  · have hk6 : 1 ≤ D.k ∧ D.k ≤ 6 := by
      by_cases h : 1 ≤ D.k ∧ D.k ≤ 6
      · exact h
      · unfold opE at hE; rw [if_neg h] at hE; cases hE
    by_cases h4 : 4 < D.k
    · exact ap_policy FA fn fc Xs D A n c B m d w hn bn hr hX hR hE h4
    · by_cases h1 : D.k = 1
      · by_cases hroom : roomV (Xs.map FlV.D) D.p = 0
        · by_cases h2 : 200 ≤ fn
          · exact ap_create_full FA fn fc Xs D A n c B m d w hn bn hr hX hR hE h1 _ rfl hroom h2
          · exact ap_create_ok FA fn fc Xs D A n c B m d w hn bn hr hX hR hE h1 _ rfl hroom h2
        · exact ap_create_no FA fn fc Xs D A n c B m d w hn bn hr hX hR hE h1 _ rfl _ rfl hroom
      · rcases atV_nat (Xs.map FlV.D) D.p with hat | ⟨i, x, hat, hx⟩
        · exact ap_gone FA fn fc Xs D A n c B m d w hn bn hr hX hR hE (by omega) hat
        · obtain ⟨X, hXi⟩ : ∃ X, Xs[i]? = some X := by
            rw [List.getElem?_map] at hx
            cases hq : Xs[i]? with
            | none => rw [hq] at hx; cases hx
            | some X => exact ⟨X, rfl⟩
          by_cases h2 : D.k = 2
          · cases hs : decide (X.l = D.o) with
            | true => exact ap_delete_ok FA fn fc Xs D A n c B m d w hn bn hr hX hR hE h2 i X hat hXi hs
            | false => exact ap_delete_no FA fn fc Xs D A n c B m d w hn bn hr hX hR hE h2 i X hat hXi hs
          · by_cases h3 : D.k = 3
            · by_cases hs : (apR X.l D.a D.o D.n).2 = 0
              · exact ap_edit_ok FA fn fc Xs D A n c B m d w hn bn hr hX hR hE h3 i X hat hXi hs
              · exact ap_edit_no FA fn fc Xs D A n c B m d w hn bn hr hX hR hE h3 i X hat hXi _ rfl hs
            · have h4' : D.k = 4 := by omega
              by_cases hroom : roomV ((Xs.eraseIdx i).map FlV.D) D.t = 0
              · exact ap_move_ok FA fn fc Xs D A n c B m d w hn bn hr hX hR hE h4' i X hat hXi hroom
              · exact ap_move_no FA fn fc Xs D A n c B m d w hn bn hr hX hR hE h4' i X hat hXi _ rfl hroom
  · exact ap_wrong FA fn fc Xs D A n c B m d w hn bn hr hX hR _ rfl hE
/-- What Apply tells, as two values. -/
def ApR (w w' : World) (L : List FD) (o : OpD) (v : Value) (r : Int) : Prop :=
  (∃ Ys A n c, v = .slice A n c ∧ r = 0 ∧ applyF L o = .ok (Ys.map FlV.D) ∧ Ys.length = n ∧ n ≤ 300 ∧ FlRd w' A Ys ∧ ∀ Y ∈ Ys, FlOk w' Y) ∨ (v = .slice none 0 0 ∧ applyF L o = .error r ∧ ¬ r = 0)
theorem rapply14_any (FA : Option Addr) (fn fc : Nat) (Xs : List FlV) (D : OpD) (A : Option Addr) (n c : Nat) (B : Option Addr) (m d : Nat) (w : World) (hn : Xs.length = fn) (bn : fn ≤ 300) (hr : FlRd w FA Xs) (hX : ∀ X ∈ Xs, FlOk w X) (hR : OpR w D A n B m) :
    Calls Try.prog 15 #[.slice FA fn fc, .agg (opC D A n c B m d)] w fun e w' => ∃ (v : Value) (r : Int), e = .returned (.tuple #[v, .int .i64 r]) ∧ ApR w w' (Xs.map FlV.D) D v r ∧ Below w.heap.size w w' := by
  refine (rapply14_q FA fn fc Xs D A n c B m d w hn bn hr hX hR).mono ?_
  rintro e w' (⟨Ys, A4, n4, c4, rfl, h1, h2, h3, h4, h5, hb⟩ | ⟨r, rfl, h1, h2, hb⟩)
  · exact ⟨_, _, rfl, .inl ⟨Ys, A4, n4, c4, rfl, rfl, h1, h2, h3, h4, h5⟩, hb⟩
  · exact ⟨_, _, rfl, .inr ⟨rfl, h1, h2⟩, hb⟩
/-- All operations applied. -/
def allF : Nat → List FD → List OpD → Except (Nat × Int) (List FD)
  | _, L, [] => .ok L
  | k, L, x :: xs => match applyF L x with
    | .ok L' => allF (k + 1) L' xs
    | .error e => .error (k, e)
/-- What All tells. -/
def AlR (w w' : World) (FA : Option Addr) (fn fc m : Nat) (L : List FD) (os : List OpD) (v i r : Value) : Prop :=
  (∃ Ys A n c, v = .slice A n c ∧ i = .int .i64 (m : Int) ∧ r = .int .i64 0 ∧ allF 0 L os = .ok (Ys.map FlV.D) ∧ Ys.length = n ∧ n ≤ 300 ∧ FlRd w' A Ys ∧ ∀ Y ∈ Ys, FlOk w' Y) ∨ (∃ (k : Nat) (e : Int), v = .slice FA fn fc ∧ i = .int .i64 (k : Int) ∧ r = .int .i64 e ∧ allF 0 L os = .error (k, e) ∧ ¬ e = 0)

set_option maxRecDepth 100000 in
set_option maxHeartbeats 40000000 in
theorem rall14_any (FA : Option Addr) (fn fc : Nat) (Xs : List FlV) (B : Option Addr) (m d : Nat) (Os : List OpV) (w : World) (hn : Xs.length = fn) (bn : fn ≤ 300) (hr : FlRd w FA Xs) (hX : ∀ X ∈ Xs, FlOk w X) (hm : Os.length = m) (bm : m ≤ 1000) (hs : OpRd w B Os) (hO : ∀ X ∈ Os, OpR w X.D X.A X.n X.B X.m) :
    Calls Try.prog 7 #[.slice FA fn fc, .slice B m d] w fun e w' => ∃ v i r, e = .returned (.tuple #[v, i, r]) ∧ AlR w w' FA fn fc m (Xs.map FlV.D) (Os.map OpV.D) v i r ∧ Below w.heap.size w w' := by
  have bm9 : m ≤ 9223372036854775807 := by omega
  have HM := hid hm
  have HO := hid hO
  have H0 := hid (And.intro hn (And.intro bn (And.intro hr hX)))
  clear hn bn hr hX hm hO
  go_enter Try.func7, Try.ntmps7
  go_wp2
  go_loopw [7, 8] (fun u i wr => ∃ (k : Nat) (Ys : List FlV) (A' : Option Addr) (n' c' : Nat), k ≤ m ∧ i = .int .i64 k ∧ u = .slice A' n' c' ∧ Hid (Ys.length = n' ∧ n' ≤ 300 ∧ FlRd wr A' Ys ∧ (∀ Y ∈ Ys, FlOk wr Y) ∧ allF 0 (Xs.map FlV.D) (Os.map OpV.D) = allF k (Ys.map FlV.D) ((Os.drop k).map OpV.D)) ∧ Below w.heap.size w wr) (fun _ i _ => m - (intOf i).toNat)
  case atStart => exact ⟨0, Xs, FA, fn, fc, by omega, rfl, rfl, hid ⟨H0.out.1, H0.out.2.1, H0.out.2.2.1, H0.out.2.2.2, by rw [List.drop_zero]⟩, Below.refl _ _⟩
  case round =>
    obtain ⟨k, Ys, A', n', c', hk, rfl, rfl, HI, hb⟩ := hrel
    by_cases hlt : k < m
    · obtain ⟨X, hXk⟩ : ∃ X, Os[k]? = some X := ⟨_, List.getElem?_eq_getElem (by rw [HM.out]; exact hlt)⟩
      obtain ⟨g, q, hg, hK, hix⟩ := hs.pick d HM.out hXk
      unfold OpV.cs at hg
      replace hg := hg.below hb
      have cP := rapply14_any A' n' c' Ys X.D X.A X.n X.c X.B X.m X.d wr HI.out.1 HI.out.2.1 HI.out.2.2.1 HI.out.2.2.2.1 ((HO.out X (List.mem_of_getElem? hXk)).below hb)
      have hdr : Os.drop k = X :: Os.drop (k + 1) := by
        obtain ⟨h1, h2⟩ := List.getElem?_eq_some_iff.1 hXk
        rw [List.drop_eq_getElem_cons h1, h2]
      have HD := hid hdr
      have b1 : (k : Int) < m := by omega
      clear hXk hdr
      go_upto_region 6 with (first
        | (with_reducible refine wpList_load_opr (by with_unfolding_all rfl) _ rfl _ _ rfl hg hK ?_)
        | (go_at_call 15; (with_reducible refine cP.mono ?_); rintro e1 w1 ⟨v1, r1, rfl, HQ, hb1⟩; replace HQ := hid HQ))
      have hb2 := hb.trans (hb1.mono hb.size)
      clear cP hg hix hb1
      rcases HQ.out with ⟨Zs, A1, n1, c1, rfl, rfl, e1, e2⟩ | ⟨rfl, e1, e2⟩
      · clear HQ
        have HZ := hid (And.intro e1 e2)
        clear e1 e2
        go_wp2
        go_roundw
        case rel => exact ⟨k + 1, Zs, A1, n1, c1, hlt, by go_num, rfl, hid ⟨HZ.out.2.1, HZ.out.2.2.1, HZ.out.2.2.2.1, HZ.out.2.2.2.2, by rw [HI.out.2.2.2.2, HD.out, List.map_cons, allF, HZ.out.1]⟩, hb2⟩
        case measure => simp [intOf]; omega
      · clear HQ
        have HZ := hid e1
        clear e1
        go_wp2
        go_ret3
        exact ⟨_, _, _, rfl, .inr ⟨k, r1, rfl, rfl, rfl, by rw [HI.out.2.2.2.2, HD.out, List.map_cons, allF, HZ.out], e2⟩, hb2⟩
    · obtain rfl : k = m := by omega
      have c1 : ¬ (k : Int) < k := by omega
      go_wp2
      go_ret3
      refine ⟨_, _, _, rfl, .inl ⟨Ys, A', n', c', rfl, rfl, rfl, ?_, HI.out.1, HI.out.2.1, HI.out.2.2.1, HI.out.2.2.2.1⟩, hb⟩
      rw [HI.out.2.2.2.2, List.drop_of_length_le (by rw [HM.out]; exact Nat.le_refl _), List.map_nil, allF]

set_option maxRecDepth 100000 in
set_option maxHeartbeats 40000000 in
theorem rsame14_eq (A : Option Addr) (n c : Nat) (Xs : List FlV) (B : Option Addr) (d : Nat) (Ys : List FlV) (w : World) (hn : Xs.length = n) (bn : n ≤ 1000) (hr : FlRd w A Xs) (hX : ∀ X ∈ Xs, FlOk w X) (hs : FlRd w B Ys) (hY : ∀ X ∈ Ys, FlOk w X) (hD : Xs.map FlV.D = Ys.map FlV.D) :
    Calls Try.prog 8 #[.slice A n c, .slice B n d] w fun e w' => e = .returned (.bool true) ∧ Below w.heap.size w w' := by
  have bn9 : n ≤ 9223372036854775807 := by omega
  have hm : Ys.length = n := by
    have := congrArg List.length hD
    rw [List.length_map, List.length_map, hn] at this
    exact this.symm
  have HN := hid hn
  have HM := hid hm
  have HD := hid hD
  have HX := hid hX
  have HY := hid hY
  clear hn hm hD hX hY
  go_enter Try.func8, Try.ntmps8
  go_wp2
  go_loopw [5] (fun i wr => ∃ k : Nat, k ≤ n ∧ i = .int .i64 k ∧ Below w.heap.size w wr) (fun i _ => n - (intOf i).toNat)
  case atStart => exact ⟨0, by omega, rfl, Below.refl _ _⟩
  case round =>
    obtain ⟨k, hk, rfl, hb⟩ := hrel
    by_cases hlt : k < n
    · obtain ⟨X, hXk⟩ : ∃ X, Xs[k]? = some X := ⟨_, List.getElem?_eq_getElem (by rw [HN.out]; exact hlt)⟩
      obtain ⟨Y, hYk⟩ : ∃ Y, Ys[k]? = some Y := ⟨_, List.getElem?_eq_getElem (by rw [HM.out]; exact hlt)⟩
      have hXY : Y.D = X.D := by
        have := congrArg (fun l => l[k]?) HD.out
        simp only [List.getElem?_map, hXk, hYk, Option.map_some, Option.some.injEq] at this
        exact this.symm
      obtain ⟨g, q, hg, -, -, hix⟩ := hr.pick c HN.out hXk
      obtain ⟨g2, q2, hg2, -, -, hix2⟩ := hs.pick d HM.out hYk
      have qX := HX.out X (List.mem_of_getElem? hXk)
      have qY := HY.out Y (List.mem_of_getElem? hYk)
      have HP : Hid (Y.p = X.p) := hid (congrArg Prod.fst hXY)
      have hl : X.l = Y.l := (congrArg Prod.snd hXY).symm
      have cS : ∀ W, Below w.heap.size w W → Calls Try.prog 16 #[.slice X.A X.n X.c, .slice Y.A Y.n Y.c] W fun e w' => e = .returned (.bool true) ∧ Below W.heap.size W w' := fun W h => by
        have := same_any X.A Y.A X.n Y.n X.c Y.c X.l Y.l qX.ln qY.ln (by have := qX.bn; omega) (by have := qY.bn; omega) W (qX.rA.below h) (qY.rA.below h)
        rwa [decide_eq_true hl] at this
      have b1 : (k : Int) < n := by omega
      clear hXk hYk hXY qX qY hl
      go_wp2_with (fail)
      refine wp_region_held_drew (S := fun W => Below w.heap.size w W) (by kernel_rfl) (hb.trans ((below_drew10 _).mono hb.size)) (fun hHeld => ?_)
      replace hb := hb.trans ((below_drew10 _).mono hb.size)
      generalize World.drew _ = V1 at *
      refine' wpAnyH_take (i := 0) (v := .slice A n c) rfl (by kernel_rfl) (by kernel_rfl) (by kernel_rfl) (fun _ _ _ h => h) (Or.inl ⟨by rfl, fun w' hw' => by go_simp⟩) hHeld ?_
      try simp only [Act.put, List.getElem_toArray, List.getElem_cons_succ, List.getElem_cons_zero, List.setIfInBounds_toArray, List.set_cons_zero, List.set_cons_succ]
      refine' wpAnyH_take (i := 1) (v := .int .i64 k) rfl (by kernel_rfl) (by kernel_rfl) (by kernel_rfl) (fun _ _ _ h => h) (Or.inl ⟨by rfl, fun w' hw' => by go_simp⟩) hHeld ?_
      try simp only [Act.put, List.getElem_toArray, List.getElem_cons_succ, List.getElem_cons_zero, List.setIfInBounds_toArray, List.set_cons_zero, List.set_cons_succ]
      refine' wpAnyH_take (i := 2) (v := .pointer (some ⟨g, q, none⟩)) rfl (by kernel_rfl) (by kernel_rfl) (by kernel_rfl) (fun _ _ _ h => h) (Or.inl ⟨by rfl, fun w' hw' => by go_simp⟩) hHeld ?_
      try simp only [Act.put, List.getElem_toArray, List.getElem_cons_succ, List.getElem_cons_zero, List.setIfInBounds_toArray, List.set_cons_zero, List.set_cons_succ]
      refine' wpAnyH_take (i := 3) (v := .pointer (some ⟨g, q, none⟩)) rfl (by kernel_rfl) (by kernel_rfl) (by kernel_rfl) (fun _ _ _ h => h) (Or.inl ⟨by rfl, fun w' hw' => by go_simp⟩) hHeld ?_
      try simp only [Act.put, List.getElem_toArray, List.getElem_cons_succ, List.getElem_cons_zero, List.setIfInBounds_toArray, List.set_cons_zero, List.set_cons_succ]
      refine' wpAnyH_take (i := 4) (v := .string (txt X.p)) rfl (by kernel_rfl) (by kernel_rfl) (by kernel_rfl) (fun _ _ _ h => h) (Or.inl ⟨by rfl, fun w' hw' => by have y := (hg.below hw') 0 _ rfl; rw [Nat.add_zero] at y; go_simp⟩) hHeld ?_
      try simp only [Act.put, List.getElem_toArray, List.getElem_cons_succ, List.getElem_cons_zero, List.setIfInBounds_toArray, List.set_cons_zero, List.set_cons_succ]
      refine' wpAnyH_take (i := 5) (v := .slice B n d) rfl (by kernel_rfl) (by kernel_rfl) (by kernel_rfl) (fun _ _ _ h => h) (Or.inl ⟨by rfl, fun w' hw' => by go_simp⟩) hHeld ?_
      try simp only [Act.put, List.getElem_toArray, List.getElem_cons_succ, List.getElem_cons_zero, List.setIfInBounds_toArray, List.set_cons_zero, List.set_cons_succ]
      refine' wpAnyH_take (i := 6) (v := .int .i64 k) rfl (by kernel_rfl) (by kernel_rfl) (by kernel_rfl) (fun _ _ _ h => h) (Or.inl ⟨by rfl, fun w' hw' => by go_simp⟩) hHeld ?_
      try simp only [Act.put, List.getElem_toArray, List.getElem_cons_succ, List.getElem_cons_zero, List.setIfInBounds_toArray, List.set_cons_zero, List.set_cons_succ]
      refine' wpAnyH_take (i := 7) (v := .pointer (some ⟨g2, q2, none⟩)) rfl (by kernel_rfl) (by kernel_rfl) (by kernel_rfl) (fun _ _ _ h => h) (Or.inl ⟨by rfl, fun w' hw' => by go_simp⟩) hHeld ?_
      try simp only [Act.put, List.getElem_toArray, List.getElem_cons_succ, List.getElem_cons_zero, List.setIfInBounds_toArray, List.set_cons_zero, List.set_cons_succ]
      refine' wpAnyH_take (i := 8) (v := .pointer (some ⟨g2, q2, none⟩)) rfl (by kernel_rfl) (by kernel_rfl) (by kernel_rfl) (fun _ _ _ h => h) (Or.inl ⟨by rfl, fun w' hw' => by go_simp⟩) hHeld ?_
      try simp only [Act.put, List.getElem_toArray, List.getElem_cons_succ, List.getElem_cons_zero, List.setIfInBounds_toArray, List.set_cons_zero, List.set_cons_succ]
      refine' wpAnyH_take (i := 9) (v := .string (txt X.p)) rfl (by kernel_rfl) (by kernel_rfl) (by kernel_rfl) (fun _ _ _ h => h) (Or.inl ⟨by rfl, fun w' hw' => by have y := (hg2.below hw') 0 _ rfl; rw [Nat.add_zero, HP.out] at y; go_simp⟩) hHeld ?_
      try simp only [Act.put, List.getElem_toArray, List.getElem_cons_succ, List.getElem_cons_zero, List.setIfInBounds_toArray, List.set_cons_zero, List.set_cons_succ]
      refine' wpAnyH_take (i := 10) (v := .bool false) rfl (by kernel_rfl) (by kernel_rfl) (by kernel_rfl) (fun _ _ _ h => h) (Or.inl ⟨by rfl, fun w' hw' => by go_simp⟩) hHeld ?_
      try simp only [Act.put, List.getElem_toArray, List.getElem_cons_succ, List.getElem_cons_zero, List.setIfInBounds_toArray, List.set_cons_zero, List.set_cons_succ]
      refine' wpAnyH_take (i := 11) (v := .bool false) rfl (by kernel_rfl) (by kernel_rfl) (by kernel_rfl) (fun _ _ _ h => h) (Or.inl ⟨by rfl, fun w' hw' => by go_simp⟩) hHeld ?_
      try simp only [Act.put, List.getElem_toArray, List.getElem_cons_succ, List.getElem_cons_zero, List.setIfInBounds_toArray, List.set_cons_zero, List.set_cons_succ]
      refine' wpAnyH_take (i := 12) (v := .slice A n c) rfl (by kernel_rfl) (by kernel_rfl) (by kernel_rfl) (fun _ _ _ h => h) (Or.inl ⟨by rfl, fun w' hw' => by go_simp⟩) hHeld ?_
      try simp only [Act.put, List.getElem_toArray, List.getElem_cons_succ, List.getElem_cons_zero, List.setIfInBounds_toArray, List.set_cons_zero, List.set_cons_succ]
      refine' wpAnyH_take (i := 13) (v := .int .i64 k) rfl (by kernel_rfl) (by kernel_rfl) (by kernel_rfl) (fun _ _ _ h => h) (Or.inl ⟨by rfl, fun w' hw' => by go_simp⟩) hHeld ?_
      try simp only [Act.put, List.getElem_toArray, List.getElem_cons_succ, List.getElem_cons_zero, List.setIfInBounds_toArray, List.set_cons_zero, List.set_cons_succ]
      refine' wpAnyH_take (i := 14) (v := .pointer (some ⟨g, q, none⟩)) rfl (by kernel_rfl) (by kernel_rfl) (by kernel_rfl) (fun _ _ _ h => h) (Or.inl ⟨by rfl, fun w' hw' => by go_simp⟩) hHeld ?_
      try simp only [Act.put, List.getElem_toArray, List.getElem_cons_succ, List.getElem_cons_zero, List.setIfInBounds_toArray, List.set_cons_zero, List.set_cons_succ]
      refine' wpAnyH_take (i := 15) (v := .pointer (some ⟨g, q + 1, none⟩)) rfl (by kernel_rfl) (by kernel_rfl) (by kernel_rfl) (fun _ _ _ h => h) (Or.inl ⟨by rfl, fun w' hw' => by go_simp⟩) hHeld ?_
      try simp only [Act.put, List.getElem_toArray, List.getElem_cons_succ, List.getElem_cons_zero, List.setIfInBounds_toArray, List.set_cons_zero, List.set_cons_succ]
      refine' wpAnyH_take (i := 16) (v := .slice X.A X.n X.c) rfl (by kernel_rfl) (by kernel_rfl) (by kernel_rfl) (fun _ _ _ h => h) (Or.inl ⟨by rfl, fun w' hw' => by have y := (hg.below hw') 1 _ rfl; go_simp⟩) hHeld ?_
      try simp only [Act.put, List.getElem_toArray, List.getElem_cons_succ, List.getElem_cons_zero, List.setIfInBounds_toArray, List.set_cons_zero, List.set_cons_succ]
      refine' wpAnyH_take (i := 17) (v := .slice B n d) rfl (by kernel_rfl) (by kernel_rfl) (by kernel_rfl) (fun _ _ _ h => h) (Or.inl ⟨by rfl, fun w' hw' => by go_simp⟩) hHeld ?_
      try simp only [Act.put, List.getElem_toArray, List.getElem_cons_succ, List.getElem_cons_zero, List.setIfInBounds_toArray, List.set_cons_zero, List.set_cons_succ]
      refine' wpAnyH_take (i := 18) (v := .int .i64 k) rfl (by kernel_rfl) (by kernel_rfl) (by kernel_rfl) (fun _ _ _ h => h) (Or.inl ⟨by rfl, fun w' hw' => by go_simp⟩) hHeld ?_
      try simp only [Act.put, List.getElem_toArray, List.getElem_cons_succ, List.getElem_cons_zero, List.setIfInBounds_toArray, List.set_cons_zero, List.set_cons_succ]
      refine' wpAnyH_take (i := 19) (v := .pointer (some ⟨g2, q2, none⟩)) rfl (by kernel_rfl) (by kernel_rfl) (by kernel_rfl) (fun _ _ _ h => h) (Or.inl ⟨by rfl, fun w' hw' => by go_simp⟩) hHeld ?_
      try simp only [Act.put, List.getElem_toArray, List.getElem_cons_succ, List.getElem_cons_zero, List.setIfInBounds_toArray, List.set_cons_zero, List.set_cons_succ]
      refine' wpAnyH_take (i := 20) (v := .pointer (some ⟨g2, q2 + 1, none⟩)) rfl (by kernel_rfl) (by kernel_rfl) (by kernel_rfl) (fun _ _ _ h => h) (Or.inl ⟨by rfl, fun w' hw' => by go_simp⟩) hHeld ?_
      try simp only [Act.put, List.getElem_toArray, List.getElem_cons_succ, List.getElem_cons_zero, List.setIfInBounds_toArray, List.set_cons_zero, List.set_cons_succ]
      refine' wpAnyH_take (i := 21) (v := .slice Y.A Y.n Y.c) rfl (by kernel_rfl) (by kernel_rfl) (by kernel_rfl) (fun _ _ _ h => h) (Or.inl ⟨by rfl, fun w' hw' => by have y := (hg2.below hw') 1 _ rfl; go_simp⟩) hHeld ?_
      try simp only [Act.put, List.getElem_toArray, List.getElem_cons_succ, List.getElem_cons_zero, List.setIfInBounds_toArray, List.set_cons_zero, List.set_cons_succ]
      refine wpAnyH_ready (rs := [22]) (by kernel_rfl) (by simp) ?_
      refine AllReadyH.cons rfl (fun K hK => ?_) AllReadyH.nil
      go_simp
      (with_reducible refine (cS _ hHeld).mono ?_)
      rintro e9 V2 ⟨rfl, hb9⟩
      replace hb := hb.trans (hb9.mono hb.size)
      refine hK.out _ _ hb (fun hHeld => ?_)
      clear hK K hb9
      try simp only [Act.put, List.getElem_toArray, List.getElem_cons_succ, List.getElem_cons_zero, List.setIfInBounds_toArray, List.set_cons_zero, List.set_cons_succ]
      refine' wpAnyH_take (i := 23) (v := .bool false) rfl (by kernel_rfl) (by kernel_rfl) (by kernel_rfl) (fun _ _ _ h => h) (Or.inl ⟨by rfl, fun w' hw' => by go_simp⟩) hHeld ?_
      try simp only [Act.put, List.getElem_toArray, List.getElem_cons_succ, List.getElem_cons_zero, List.setIfInBounds_toArray, List.set_cons_zero, List.set_cons_succ]
      refine' wpAnyH_take (i := 24) (v := .bool false) rfl (by kernel_rfl) (by kernel_rfl) (by kernel_rfl) (fun _ _ _ h => h) (Or.inl ⟨by rfl, fun w' hw' => by go_simp⟩) hHeld ?_
      try simp only [Act.put, List.getElem_toArray, List.getElem_cons_succ, List.getElem_cons_zero, List.setIfInBounds_toArray, List.set_cons_zero, List.set_cons_succ]
      refine wpAnyH_done (by kernel_rfl) ?_ _
      go_wp2
      go_roundw
      case rel => exact ⟨k + 1, hlt, by go_num, hb⟩
      case measure => simp [intOf]; omega
    · obtain rfl : k = n := by omega
      have c1 : ¬ (k : Int) < k := by omega
      go_wp2
      go_ret
      exact ⟨rfl, hb⟩


end Go.Proofs.Ytodfaakodgedbaa


/- merkle: two texts of one sum; Apart. -/
import Derived.Test.YtkbokffonnjjiaaMa1
set_option linter.unusedSimpArgs false
set_option linter.unusedVariables false
namespace Go.Proofs.Ytkbokffonnjjiaa
open Go.RowKit Go.Qc Go.Shelf
attribute [local go_sem] txt_size txt_append ib_fold
/-- What two texts are, so far up. -/
def MeI (l r : List (List UInt8)) (n k : Nat) (x y : List UInt8) (i : Nat) (S T : List UInt8) : Prop :=
  S ≠ T ∧ S.length ≤ 1000 ∧ T.length ≤ 1000 ∧ (sumB S = sumB T ∨ (sumB S = upL n k (wayL l n k) x i ∧ sumB T = upL n k (wayL r n k) y i))
theorem text2_len (a b : List UInt8) (ha : a.length = 32) (hb : b.length = 32) : (textB joinN [a, b]).length ≤ 1000 := by
  simp [textB, partB, numB_length, ha, hb, joinN]
theorem text1_len (a : List UInt8) (ha : a.length = 32) : (textB itemN [a]).length ≤ 1000 := by
  simp [textB, partB, numB_length, ha, itemN]
theorem text2_ne {a b c d : List UInt8} (ha : a.length = 32) (hb : b.length = 32) (hc : c.length = 32) (hd : d.length = 32) (h : ¬ (a = c ∧ b = d)) : textB joinN [a, b] ≠ textB joinN [c, d] := by
  intro e
  rw [textB_inj joinN joinN [a, b] [c, d] (by decide) (by decide) (by intro p hp; simp at hp; rcases hp with rfl | rfl <;> omega) (by intro p hp; simp at hp; rcases hp with rfl | rfl <;> omega)] at e
  have := e.2
  simp at this
  exact h this
theorem text1_ne {a c : List UInt8} (ha : a.length = 32) (hc : c.length = 32) (h : a ≠ c) : textB itemN [a] ≠ textB itemN [c] := by
  intro e
  rw [textB_inj itemN itemN [a] [c] (by decide) (by decide) (by intro p hp; simp at hp; rw [hp]; omega) (by intro p hp; simp at hp; rw [hp]; omega)] at e
  have := e.2
  simp at this
  exact h this
theorem hfnM4 : ∀ args W, (callFunc 107 args).run Try.prog W = .ok (.enter 107 args) W := fun args W => by
  have h1 : decide (Try.f107.name = "runtime.NumGoroutine") = false := by kernel_rfl
  have h2 : Try.f107.body.isNone = false := by kernel_rfl
  have h1' := of_decide_eq_false h1
  have h2' : ¬ Try.f107.body = none := fun e => by rw [e] at h2; cases h2
  simp [callFunc, Try.func107, h1', h2']
theorem up_next {l : List (List UInt8)} {n k i : Nat} {x : List UInt8} {p : Nat × Nat} (hp : (partsL 0 n k)[i]? = some p) : upL n k (wayL l n k) x (i + 1) = stepC (decide (k < p.1)) (upL n k (wayL l n k) x i) (partR l p) :=
  upL_step (by rw [lowsL_length, wayL_length]) (by unfold lowsL; rw [List.getElem?_map, hp]; rfl) (by rw [wayL_map, List.getElem?_map, hp]; rfl)
theorem meet_all (w0 : World) (ga gb gl gm gt : Nat) (A : Option Addr) (n c : Nat) (B : Option Addr) (d k : Nat) (l r : List (List UInt8)) (hl : RowC w0 A n c l) (hr : RowC w0 B n d r) (x y : List UInt8) (hx : l[k]? = some x) (hy : r[k]? = some y) (hne : x ≠ y) (hroot : rootM l = rootM r) (W : World)
    (HS : MeS w0 ga gb gl gm gt A n c B n d (k : Int) (textB itemN [x]) (textB itemN [y]) W) :
    Calls Try.prog 51 #[.int .i64 0, .int .i64 (n : Int), .int .i64 (k : Int), .func (.func 107) #[] #[.pointer (some ⟨ga, 0, none⟩), .pointer (some ⟨gb, 0, none⟩), .pointer (some ⟨gl, 0, none⟩), .pointer (some ⟨gm, 0, none⟩), .pointer (some ⟨gt, 0, none⟩)]] W fun e w' => e = .returned (.tuple #[]) ∧ ∃ S T, MeS w0 ga gb gl gm gt A n c B n d (k : Int) S T w' ∧ S ≠ T ∧ sumB S = sumB T ∧ S.length ≤ 1000 ∧ T.length ≤ 1000 := by
  have hk : k < n := by rw [← hl.1.1]; exact (List.getElem?_eq_some_iff.1 hx).1
  have hn6 := hl.1.2.1
  have hx32 := hl.1.2.2.1 x (List.mem_of_getElem? hx)
  have hy32 := hr.1.2.2.1 y (List.mem_of_getElem? hy)
  have cP := parted_any 107 hfnM4 #[.pointer (some ⟨ga, 0, none⟩), .pointer (some ⟨gb, 0, none⟩), .pointer (some ⟨gl, 0, none⟩), .pointer (some ⟨gm, 0, none⟩), .pointer (some ⟨gt, 0, none⟩)]
    (fun i W => ∃ S T, MeS w0 ga gb gl gm gt A n c B n d (k : Int) S T W ∧ MeI l r n k x y i S T) n 0 n k (by omega) (by omega) (by omega) (by omega) (fun i p V hp hJ => by
      obtain ⟨S, T, HS, hST, hS, hT, hor⟩ := hJ
      obtain ⟨p1, p2, p3⟩ := partsL_in 0 n k p (List.mem_of_getElem? hp)
      by_cases hE : sumB S = sumB T
      · refine (meet1_same w0 ga gb gl gm gt A n c B n d k S T hS hT p.1 p.2 hE V HS).mono ?_
        rintro e w' ⟨rfl, HQ⟩
        exact ⟨rfl, S, T, HQ, hST, hS, hT, .inl hE⟩
      · obtain ⟨h1, h2⟩ := hor.resolve_left hE
        have hU : (sumB S).length = 32 := sumB_length S
        have hV : (sumB T).length = 32 := sumB_length T
        have hP : (partR l p).length = 32 := rootM_length _
        have hQ : (partR r p).length = 32 := rootM_length _
        have u1 := up_next (l := l) (x := x) hp
        have u2 := up_next (l := r) (x := y) hp
        rw [← h1] at u1
        rw [← h2] at u2
        rcases partsL_apart 0 n k (by omega) hk p (List.mem_of_getElem? hp) with h3 | h3
        · rw [decide_eq_true h3] at u1 u2
          refine (meet1_low w0 ga gb gl gm gt A n c B n d k S T hS hT p.1 p.2 p2 p3 p3 (by omega) l r hl hr hE V HS).mono ?_
          rintro e w' ⟨rfl, HQ⟩
          exact ⟨rfl, _, _, HQ, text2_ne hU hP hV hQ (fun h => hE h.1), text2_len _ _ hU hP, text2_len _ _ hV hQ, .inr ⟨u1.symm, u2.symm⟩⟩
        · rw [decide_eq_false (by omega)] at u1 u2
          refine (meet1_high w0 ga gb gl gm gt A n c B n d k S T hS hT p.1 p.2 p2 p3 p3 (by omega) l r hl hr hE V HS).mono ?_
          rintro e w' ⟨rfl, HQ⟩
          exact ⟨rfl, _, _, HQ, text2_ne hP hU hQ hV (fun h => hE h.2), text2_len _ _ hP hU, text2_len _ _ hQ hV, .inr ⟨u1.symm, u2.symm⟩⟩) W
    ⟨_, _, HS, text1_ne hx32 hy32 hne, text1_len x hx32, text1_len y hy32, .inr ⟨rfl, rfl⟩⟩
  refine cP.mono ?_
  rintro e w' ⟨rfl, S, T, HQ, hST, hS, hT, hor⟩
  refine ⟨rfl, S, T, HQ, hST, ?_, hS, hT⟩
  rcases hor with h | ⟨h1, h2⟩
  · exact h
  · have e1 := up_root hx
    have e2 := up_root hy
    rw [hl.1.1] at e1
    rw [hr.1.1] at e2
    rw [h1, h2, e1, e2, hroot]
/-- What meet answers. -/
def MeQ (w : World) (e : Ending) (w' : World) : Prop :=
  ∃ S T, e = .returned (.tuple #[.string (txt S), .string (txt T)]) ∧ S ≠ T ∧ sumB S = sumB T ∧ S.length ≤ 1000 ∧ T.length ≤ 1000 ∧ Below w.heap.size w w'
theorem me_new (w : World) (A : Option Addr) (n c : Nat) (B : Option Addr) (m d : Nat) (k : Int) :
    MeS w (w.heap.size + 1 + 1 + 1) (w.heap.size + 1 + 1 + 1 + 1) w.heap.size (w.heap.size + 1) (w.heap.size + 1 + 1) A n c B m d k [] [] (((((w.alloc (.cells #[.slice A n c] 22)).alloc (.cells #[.slice B m d] 22)).alloc (.cells #[.int .i64 k] 3)).alloc (.cells #[.string ⟨#[]⟩] 9)).alloc (.cells #[.string ⟨#[]⟩] 9)) := by
  have b1 := Blk.new w 22 #[.slice A n c]
  have b2 := Blk.new (w.alloc (.cells #[.slice A n c] 22)) 22 #[.slice B m d]
  have b3 := Blk.new ((w.alloc (.cells #[.slice A n c] 22)).alloc (.cells #[.slice B m d] 22)) 3 #[.int .i64 k]
  have b4 := Blk.new (((w.alloc (.cells #[.slice A n c] 22)).alloc (.cells #[.slice B m d] 22)).alloc (.cells #[.int .i64 k] 3)) 9 #[.string ⟨#[]⟩]
  have b5 := Blk.new ((((w.alloc (.cells #[.slice A n c] 22)).alloc (.cells #[.slice B m d] 22)).alloc (.cells #[.int .i64 k] 3)).alloc (.cells #[.string ⟨#[]⟩] 9)) 9 #[.string ⟨#[]⟩]
  simp only [World.size_alloc] at b2 b3 b4 b5
  exact ⟨b4.alloc _, b5, (((b1.alloc _).alloc _).alloc _).alloc _, ((b2.alloc _).alloc _).alloc _, (b3.alloc _).alloc _,
    (((((Below.refl w.heap.size w).alloc (Nat.le_refl _) _).alloc (by simp) _).alloc (by simp; omega) _).alloc (by simp; omega) _).alloc (by simp; omega) _, by omega, by omega, by omega⟩
attribute [local go_sem] txt_inj txt_toList
/-- What Apart answers of two rows of one sum. -/
def ApQY (w : World) (e : Ending) (w' : World) : Prop :=
  ∃ S T, e = .returned (.tuple #[.string (txt S), .string (txt T), .bool true]) ∧ S ≠ T ∧ sumB S = sumB T ∧ S.length ≤ 1000 ∧ T.length ≤ 1000 ∧ Below w.heap.size w w'
theorem first_diff : ∀ (l r : List (List UInt8)), l.length = r.length → l ≠ r → ∃ (q : Nat) (x y : List UInt8), l[q]? = some x ∧ r[q]? = some y ∧ x ≠ y ∧ ∀ j, j < q → l[j]? = r[j]?
  | [], [], _, h => absurd rfl h
  | [], _ :: _, h, _ => by simp at h
  | _ :: _, [], h, _ => by simp at h
  | x :: l, y :: r, h, hne => by
    by_cases e : x = y
    · subst e
      obtain ⟨q, a, b, h1, h2, h3, h4⟩ := first_diff l r (by simpa using h) (fun e => hne (by rw [e]))
      refine ⟨q + 1, a, b, by simpa using h1, by simpa using h2, h3, fun j hj => ?_⟩
      cases j with
      | zero => rfl
      | succ j => simpa using h4 j (by omega)
    · exact ⟨0, x, y, rfl, rfl, e, fun j hj => by omega⟩
theorem cnt_inj {a b : Nat} (ha : a ≤ 1000000000000) (hb : b ≤ 1000000000000) (h : cntB (a : Int) = cntB (b : Int)) : a = b := by
  unfold cntB at h
  exact numB8_inj a b ha hb h
theorem set_same {n m : Nat} {x y : List UInt8} (hn : n ≤ 1000000) (hm : m ≤ 1000000) (hx : x.length = 32) (hy : y.length = 32) (h : textB setN [cntB (n : Int), x] = textB setN [cntB (m : Int), y]) : n = m ∧ x = y := by
  have l1 : (cntB (n : Int)).length = 8 := by unfold cntB; exact numB_length _ _
  have l2 : (cntB (m : Int)).length = 8 := by unfold cntB; exact numB_length _ _
  rw [textB_inj setN setN _ _ (by decide) (by decide) (by intro p hp; simp at hp; rcases hp with rfl | rfl <;> omega) (by intro p hp; simp at hp; rcases hp with rfl | rfl <;> omega)] at h
  have := h.2
  simp at this
  exact ⟨cnt_inj (by omega) (by omega) this.1, this.2⟩
set_option maxRecDepth 100000 in
set_option maxHeartbeats 16000000 in
theorem meet_any (A : Option Addr) (n c : Nat) (B : Option Addr) (d k : Nat) (l r : List (List UInt8)) (x y : List UInt8) (hx : l[k]? = some x) (hy : r[k]? = some y) (hne : x ≠ y) (hroot : rootM l = rootM r) (w : World) (hl : RowC w A n c l) (hr : RowC w B n d r) :
    Calls Try.prog 66 #[.slice A n c, .slice B n d, .int .i64 (k : Int)] w (MeQ w) := by
  have hu := Try.underlying24
  obtain ⟨gx, qx, fx, lx, hix⟩ := hl.1.2.2.pick (k := k) (a := x) c hl.1.1 hx
  obtain ⟨gy, qy, fy, ly, hiy⟩ := hr.1.2.2.pick (k := k) (a := y) d hr.1.1 hy
  have hzx : (Try.prog.info? 24).map (·.size) = some (x.map u8v).length := by rw [List.length_map, lx]; exact sizeId
  have hzy : (Try.prog.info? 24).map (·.size) = some (y.map u8v).length := by rw [List.length_map, ly]; exact sizeId
  have HA := hid (meet_all w · · · · · A n c B d k l r hl hr x y hx hy hne hroot ·)
  have HI : Hid (∀ W, Calls Try.prog 96 #[.agg (List.map u8v x).toArray] W fun e w' => e = .returned (.string (txt (textB itemN [x]))) ∧ Below W.heap.size W w') := hid (fun W => mitem_any x lx W)
  have HJ : Hid (∀ W, Calls Try.prog 96 #[.agg (List.map u8v y).toArray] W fun e w' => e = .returned (.string (txt (textB itemN [y]))) ∧ Below W.heap.size W w') := hid (fun W => mitem_any y ly W)
  generalize textB itemN [x] = S at *
  generalize textB itemN [y] = T at *
  have HIX := hid hix
  have HIY := hid hiy
  clear hl hr hx hy hne hroot hix hiy
  go_enter Try.func66, Try.ntmps66
  go_upto_region 1 with (fail)
  have HM := hid (me_new w A n c B n d (k : Int))
  generalize (((((w.alloc (.cells #[.slice A n c] 22)).alloc (.cells #[.slice B n d] 22)).alloc (.cells #[.int .i64 (k : Int)] 3)).alloc (.cells #[.string ⟨#[]⟩] 9)).alloc (.cells #[.string ⟨#[]⟩] 9)) = w1 at *
  generalize w.heap.size + 1 + 1 + 1 + 1 = gb at *
  generalize w.heap.size + 1 + 1 + 1 = ga at *
  generalize w.heap.size + 1 + 1 = gt at *
  generalize w.heap.size + 1 = gm at *
  obtain ⟨gl, hgl⟩ : ∃ g, w.heap.size = g := ⟨_, rfl⟩
  have HM1 : Hid (MeS w ga gb gl gm gt A n c B n d (k : Int) [] [] w1) := hid (by have := HM.out; rw [hgl] at this; exact this)
  simp only [hgl]
  clear HM
  have HGL := hid hgl
  clear hgl
  have hbd := below_drew1 w1
  refine wp_region_held_drew (S := fun V => ∃ S T, MeS w ga gb gl gm gt A n c B n d (k : Int) S T V) (by kernel_rfl) ⟨_, _, HM1.out.below hbd⟩ (fun hHeld => ?_)
  replace HM1 := hid (HM1.out.below hbd)
  clear hbd
  generalize w1.drew = V0 at *
  refine' wpAnyH_take (i := 0) (v := .slice A n c) rfl (by kernel_rfl) (by kernel_rfl) (by kernel_rfl) (fun _ _ _ h => h) (Or.inl ⟨by rfl, fun w' hw' => by obtain ⟨_, _, h⟩ := hw'; have hv := h.l.cell_ (i := 0) rfl; go_simp⟩) hHeld ?_
  try simp only [Act.put, List.getElem_toArray, List.getElem_cons_succ, List.getElem_cons_zero, List.setIfInBounds_toArray, List.set_cons_zero, List.set_cons_succ]
  refine' wpAnyH_take (i := 1) (v := .int .i64 (k : Int)) rfl (by kernel_rfl) (by kernel_rfl) (by kernel_rfl) (fun _ _ _ h => h) (Or.inl ⟨by rfl, fun w' hw' => by obtain ⟨_, _, h⟩ := hw'; have hv := h.t.cell_ (i := 0) rfl; go_simp⟩) hHeld ?_
  try simp only [Act.put, List.getElem_toArray, List.getElem_cons_succ, List.getElem_cons_zero, List.setIfInBounds_toArray, List.set_cons_zero, List.set_cons_succ]
  refine' wpAnyH_take (i := 2) (v := .pointer (some ⟨gx, qx, none⟩)) rfl (by kernel_rfl) (by kernel_rfl) (by kernel_rfl) (fun _ _ _ h => h) (Or.inl ⟨by rfl, fun w' hw' => by have hv := HIX.out w'; go_simp⟩) hHeld ?_
  try simp only [Act.put, List.getElem_toArray, List.getElem_cons_succ, List.getElem_cons_zero, List.setIfInBounds_toArray, List.set_cons_zero, List.set_cons_succ]
  refine' wpAnyH_take (i := 3) (v := _) rfl (by kernel_rfl) (by kernel_rfl) (by kernel_rfl) (fun _ _ _ h => h) (yieldsIf_load_mid (by rfl) 24 _ rfl _ _ rfl (x.map u8v) _ (fun w' h => by obtain ⟨_, _, h⟩ := h; exact fx.below h.q) hu rfl hzx) hHeld ?_
  try simp only [Act.put, List.getElem_toArray, List.getElem_cons_succ, List.getElem_cons_zero, List.setIfInBounds_toArray, List.set_cons_zero, List.set_cons_succ]
  refine' wpAnyH_take (i := 5) (v := .slice B n d) rfl (by kernel_rfl) (by kernel_rfl) (by kernel_rfl) (fun _ _ _ h => h) (Or.inl ⟨by rfl, fun w' hw' => by obtain ⟨_, _, h⟩ := hw'; have hv := h.m.cell_ (i := 0) rfl; go_simp⟩) hHeld ?_
  try simp only [Act.put, List.getElem_toArray, List.getElem_cons_succ, List.getElem_cons_zero, List.setIfInBounds_toArray, List.set_cons_zero, List.set_cons_succ]
  refine' wpAnyH_take (i := 6) (v := .int .i64 (k : Int)) rfl (by kernel_rfl) (by kernel_rfl) (by kernel_rfl) (fun _ _ _ h => h) (Or.inl ⟨by rfl, fun w' hw' => by obtain ⟨_, _, h⟩ := hw'; have hv := h.t.cell_ (i := 0) rfl; go_simp⟩) hHeld ?_
  try simp only [Act.put, List.getElem_toArray, List.getElem_cons_succ, List.getElem_cons_zero, List.setIfInBounds_toArray, List.set_cons_zero, List.set_cons_succ]
  refine' wpAnyH_take (i := 7) (v := .pointer (some ⟨gy, qy, none⟩)) rfl (by kernel_rfl) (by kernel_rfl) (by kernel_rfl) (fun _ _ _ h => h) (Or.inl ⟨by rfl, fun w' hw' => by have hv := HIY.out w'; go_simp⟩) hHeld ?_
  try simp only [Act.put, List.getElem_toArray, List.getElem_cons_succ, List.getElem_cons_zero, List.setIfInBounds_toArray, List.set_cons_zero, List.set_cons_succ]
  refine' wpAnyH_take (i := 8) (v := _) rfl (by kernel_rfl) (by kernel_rfl) (by kernel_rfl) (fun _ _ _ h => h) (yieldsIf_load_mid (by rfl) 24 _ rfl _ _ rfl (y.map u8v) _ (fun w' h => by obtain ⟨_, _, h⟩ := h; exact fy.below h.q) hu rfl hzy) hHeld ?_
  try simp only [Act.put, List.getElem_toArray, List.getElem_cons_succ, List.getElem_cons_zero, List.setIfInBounds_toArray, List.set_cons_zero, List.set_cons_succ]
  refine wpAnyH_ready (rs := [4]) (by kernel_rfl) (by simp) ?_
  refine AllReadyH.cons rfl (fun K hK => ?_) AllReadyH.nil
  go_simp
  (with_reducible refine (HI.out _).mono ?_)
  rintro e9 V9 ⟨rfl, hb9⟩
  replace HM1 := hid (HM1.out.below hb9)
  refine hK.out _ _ ⟨_, _, HM1.out⟩ (fun hHeld => ?_)
  clear hK K hb9
  try simp only [Act.put, List.getElem_toArray, List.getElem_cons_succ, List.getElem_cons_zero, List.setIfInBounds_toArray, List.set_cons_zero, List.set_cons_succ]
  refine wpAnyH_ready (rs := [9]) (by kernel_rfl) (by simp) ?_
  refine AllReadyH.cons rfl (fun K hK => ?_) AllReadyH.nil
  go_simp
  (with_reducible refine (HJ.out _).mono ?_)
  rintro e9 V9 ⟨rfl, hb9⟩
  replace HM1 := hid (HM1.out.below hb9)
  refine hK.out _ _ ⟨_, _, HM1.out⟩ (fun hHeld => ?_)
  clear hK K hb9
  try simp only [Act.put, List.getElem_toArray, List.getElem_cons_succ, List.getElem_cons_zero, List.setIfInBounds_toArray, List.set_cons_zero, List.set_cons_succ]
  refine wpAnyH_ready (rs := [10]) (by kernel_rfl) (by simp) ?_
  refine AllReadyH.cons rfl (fun K hK => ?_) AllReadyH.nil
  refine wp_store_stM _ _ rfl ga _ HM1.out.a (txt S) rfl rfl ?_
  intro V10 hB10 hg10
  replace HM1 := hid (HM1.out.putA hB10 hg10)
  refine hK.out _ _ ⟨_, _, HM1.out⟩ (fun hHeld => ?_)
  clear hK K hB10 hg10
  try simp only [Act.put, List.getElem_toArray, List.getElem_cons_succ, List.getElem_cons_zero, List.setIfInBounds_toArray, List.set_cons_zero, List.set_cons_succ]
  refine wpAnyH_ready (rs := [11]) (by kernel_rfl) (by simp) ?_
  refine AllReadyH.cons rfl (fun K hK => ?_) AllReadyH.nil
  refine wp_store_stM _ _ rfl gb _ HM1.out.b (txt T) rfl rfl ?_
  intro V10 hB10 hg10
  replace HM1 := hid (HM1.out.putB hB10 hg10)
  refine hK.out _ _ ⟨_, _, HM1.out⟩ (fun hHeld => ?_)
  clear hK K hB10 hg10
  try simp only [Act.put, List.getElem_toArray, List.getElem_cons_succ, List.getElem_cons_zero, List.setIfInBounds_toArray, List.set_cons_zero, List.set_cons_succ]
  refine wpAnyH_done (by kernel_rfl) ?_ _
  clear hHeld
  have fl := HM1.out.l.cell_ (i := 0) rfl
  have ft := HM1.out.t.cell_ (i := 0) rfl
  have cA := HA.out _ _ _ _ _ _ HM1.out
  go_upto_region 3 with (go_at_call 51; (with_reducible refine cA.mono ?_); rintro e5 w5 ⟨rfl, S5, T5, H5, hST, hE5, hS5, hT5⟩)
  clear fl ft cA HA
  have HQ := hid (show S5 ≠ T5 ∧ sumB S5 = sumB T5 ∧ S5.length ≤ 1000 ∧ T5.length ≤ 1000 from ⟨hST, hE5, hS5, hT5⟩)
  clear hST hE5 hS5 hT5
  have HM5 := hid (H5.below (below_drew1 _))
  clear H5
  refine wp_region_held_drew (S := fun V => MeS w ga gb gl gm gt A n c B n d (k : Int) S5 T5 V) (by kernel_rfl) HM5.out (fun hHeld => ?_)
  generalize World.drew _ = V5 at *
  refine' wpAnyH_take (i := 0) (v := .string (txt S5)) rfl (by kernel_rfl) (by kernel_rfl) (by kernel_rfl) (fun _ _ _ h => h) (Or.inl ⟨by rfl, fun w' hw' => by have hv := hw'.a.cell_ (i := 0) rfl; go_simp⟩) hHeld ?_
  try simp only [Act.put, List.getElem_toArray, List.getElem_cons_succ, List.getElem_cons_zero, List.setIfInBounds_toArray, List.set_cons_zero, List.set_cons_succ]
  refine' wpAnyH_take (i := 1) (v := .string (txt T5)) rfl (by kernel_rfl) (by kernel_rfl) (by kernel_rfl) (fun _ _ _ h => h) (Or.inl ⟨by rfl, fun w' hw' => by have hv := hw'.b.cell_ (i := 0) rfl; go_simp⟩) hHeld ?_
  try simp only [Act.put, List.getElem_toArray, List.getElem_cons_succ, List.getElem_cons_zero, List.setIfInBounds_toArray, List.set_cons_zero, List.set_cons_succ]
  refine wpAnyH_ready (rs := [2]) (by kernel_rfl) (by simp) ?_
  refine AllReadyH.cons rfl (fun K hK => ?_) AllReadyH.nil
  refine wp_store_stM _ _ rfl ga _ HM5.out.a (txt S5) rfl rfl ?_
  intro V10 hB10 hg10
  replace HM5 := hid (HM5.out.putA hB10 hg10)
  refine hK.out _ _ HM5.out (fun hHeld => ?_)
  clear hK K hB10 hg10
  try simp only [Act.put, List.getElem_toArray, List.getElem_cons_succ, List.getElem_cons_zero, List.setIfInBounds_toArray, List.set_cons_zero, List.set_cons_succ]
  refine wpAnyH_ready (rs := [3]) (by kernel_rfl) (by simp) ?_
  refine AllReadyH.cons rfl (fun K hK => ?_) AllReadyH.nil
  refine wp_store_stM _ _ rfl gb _ HM5.out.b (txt T5) rfl rfl ?_
  intro V10 hB10 hg10
  replace HM5 := hid (HM5.out.putB hB10 hg10)
  refine hK.out _ _ HM5.out (fun hHeld => ?_)
  clear hK K hB10 hg10
  try simp only [Act.put, List.getElem_toArray, List.getElem_cons_succ, List.getElem_cons_zero, List.setIfInBounds_toArray, List.set_cons_zero, List.set_cons_succ]
  refine wpAnyH_done (by kernel_rfl) ?_ _
  go_wp2_with (fail)
  have fa := HM5.out.a.cell_ (i := 0) rfl
  have fb := HM5.out.b.cell_ (i := 0) rfl
  refine bodyPost_ret (v := .tuple #[.string (txt S5), .string (txt T5)]) (by simp [results, Try.f66, go_sem, fa, fb]) rfl ?_
  exact ⟨S5, T5, rfl, HQ.out.1, HQ.out.2.1, HQ.out.2.2.1, HQ.out.2.2.2, HM5.out.q⟩
set_option maxRecDepth 100000 in
set_option maxHeartbeats 16000000 in
theorem apart_no1 (A : Option Addr) (n c : Nat) (B : Option Addr) (m d : Nat) (l r : List (List UInt8)) (w : World) (hl : RowC w A n c l) (hr : RowC w B m d r) (h1 : ¬ Steps l n) :
    Calls Try.prog 22 #[.slice A n c, .slice B m d] w fun e w' => e = .returned (.tuple #[.string ⟨#[]⟩, .string ⟨#[]⟩, .bool false]) ∧ Below w.heap.size w w' := by
  have c1 : ∀ W, RowC W A n c l → Calls Try.prog 45 #[.slice A n c] W fun e w' => e = .returned (.bool false) ∧ Below W.heap.size W w' := fun W hW => (rises_any A n c l W hW.1).mono (by
    rintro e w' ⟨v, rfl, ⟨t, rfl, ht⟩, hb⟩
    cases t
    · exact ⟨rfl, hb⟩
    · exact ⟨absurd (ht.1 rfl) h1, hb⟩)
  clear h1
  go_enter Try.func22, Try.ntmps22
  go_wp2_with (first
    | (go_at_call 45; (with_reducible refine (c1 _ hl).mono ?_); rintro e1 w1 ⟨rfl, hb1⟩; have hl1 := hl.below hb1; have hr1 := hr.below hb1; clear c1))
  go_ret3
  exact ⟨rfl, hb1⟩
set_option maxRecDepth 100000 in
set_option maxHeartbeats 16000000 in
theorem apart_no2 (A : Option Addr) (n c : Nat) (B : Option Addr) (m d : Nat) (l r : List (List UInt8)) (w : World) (hl : RowC w A n c l) (hr : RowC w B m d r) (h1 : Steps l n) (h2 : ¬ Steps r m) :
    Calls Try.prog 22 #[.slice A n c, .slice B m d] w fun e w' => e = .returned (.tuple #[.string ⟨#[]⟩, .string ⟨#[]⟩, .bool false]) ∧ Below w.heap.size w w' := by
  have c1 : ∀ W, RowC W A n c l → Calls Try.prog 45 #[.slice A n c] W fun e w' => e = .returned (.bool true) ∧ Below W.heap.size W w' := fun W hW => (rises_any A n c l W hW.1).mono (by
    rintro e w' ⟨v, rfl, ⟨t, rfl, ht⟩, hb⟩
    cases t
    · exact ⟨absurd (ht.2 h1) (by decide), hb⟩
    · exact ⟨rfl, hb⟩)
  have c2 : ∀ W, RowC W B m d r → Calls Try.prog 45 #[.slice B m d] W fun e w' => e = .returned (.bool false) ∧ Below W.heap.size W w' := fun W hW => (rises_any B m d r W hW.1).mono (by
    rintro e w' ⟨v, rfl, ⟨t, rfl, ht⟩, hb⟩
    cases t
    · exact ⟨rfl, hb⟩
    · exact ⟨absurd (ht.1 rfl) h2, hb⟩)
  clear h1 h2
  go_enter Try.func22, Try.ntmps22
  go_wp2_with (first
    | (go_at_call 45; (with_reducible refine (c1 _ hl).mono ?_); rintro e1 w1 ⟨rfl, hb1⟩; have hl1 := hl.below hb1; have hr1 := hr.below hb1; clear c1)
    | (go_at_call 45; (with_reducible refine (c2 _ hr1).mono ?_); rintro e2 w2 ⟨rfl, hb2⟩; have hl2 := hl1.below hb2; have hr2 := hr1.below hb2; clear c2))
  go_ret3
  exact ⟨rfl, hb1.trans (hb2.mono hb1.size)⟩
set_option maxRecDepth 100000 in
set_option maxHeartbeats 16000000 in
theorem apart_no3 (A : Option Addr) (n c : Nat) (B : Option Addr) (m d : Nat) (l r : List (List UInt8)) (w : World) (hl : RowC w A n c l) (hr : RowC w B m d r) (h1 : Steps l n) (h2 : Steps r m) (h3 : l = r) :
    Calls Try.prog 22 #[.slice A n c, .slice B m d] w fun e w' => e = .returned (.tuple #[.string ⟨#[]⟩, .string ⟨#[]⟩, .bool false]) ∧ Below w.heap.size w w' := by
  have c1 : ∀ W, RowC W A n c l → Calls Try.prog 45 #[.slice A n c] W fun e w' => e = .returned (.bool true) ∧ Below W.heap.size W w' := fun W hW => (rises_any A n c l W hW.1).mono (by
    rintro e w' ⟨v, rfl, ⟨t, rfl, ht⟩, hb⟩
    cases t
    · exact ⟨absurd (ht.2 h1) (by decide), hb⟩
    · exact ⟨rfl, hb⟩)
  have c2 : ∀ W, RowC W B m d r → Calls Try.prog 45 #[.slice B m d] W fun e w' => e = .returned (.bool true) ∧ Below W.heap.size W w' := fun W hW => (rises_any B m d r W hW.1).mono (by
    rintro e w' ⟨v, rfl, ⟨t, rfl, ht⟩, hb⟩
    cases t
    · exact ⟨absurd (ht.2 h2) (by decide), hb⟩
    · exact ⟨rfl, hb⟩)
  have c3 : ∀ W, RowC W A n c l → RowC W B m d r → Calls Try.prog 63 #[.slice A n c, .slice B m d] W fun e w' => e = .returned (.bool true) ∧ Below W.heap.size W w' := fun W hW hV => by
    have := isame_any A B n c m d l r W hW.1 hV.1
    rw [decide_eq_true h3] at this
    exact this
  clear h1 h2 h3
  go_enter Try.func22, Try.ntmps22
  go_wp2_with (first
    | (go_at_call 45; (with_reducible refine (c1 _ hl).mono ?_); rintro e1 w1 ⟨rfl, hb1⟩; have hl1 := hl.below hb1; have hr1 := hr.below hb1; clear c1)
    | (go_at_call 45; (with_reducible refine (c2 _ hr1).mono ?_); rintro e2 w2 ⟨rfl, hb2⟩; have hl2 := hl1.below hb2; have hr2 := hr1.below hb2; clear c2)
    | (go_at_call 63; (with_reducible refine (c3 _ hl2 hr2).mono ?_); rintro e3 w3 ⟨rfl, hb3⟩; have hl3 := hl2.below hb3; have hr3 := hr2.below hb3; clear c3))
  go_ret3
  exact ⟨rfl, hb1.trans ((hb2.trans (hb3.mono hb2.size)).mono hb1.size)⟩
set_option maxRecDepth 100000 in
set_option maxHeartbeats 16000000 in
theorem apart_no4 (A : Option Addr) (n c : Nat) (B : Option Addr) (m d : Nat) (l r : List (List UInt8)) (w : World) (hl : RowC w A n c l) (hr : RowC w B m d r) (h1 : Steps l n) (h2 : Steps r m) (h3 : l ≠ r) (h4 : wholeM (n : Int) (rootM l) ≠ wholeM (m : Int) (rootM r)) :
    Calls Try.prog 22 #[.slice A n c, .slice B m d] w fun e w' => e = .returned (.tuple #[.string ⟨#[]⟩, .string ⟨#[]⟩, .bool false]) ∧ Below w.heap.size w w' := by
  have c1 : ∀ W, RowC W A n c l → Calls Try.prog 45 #[.slice A n c] W fun e w' => e = .returned (.bool true) ∧ Below W.heap.size W w' := fun W hW => (rises_any A n c l W hW.1).mono (by
    rintro e w' ⟨v, rfl, ⟨t, rfl, ht⟩, hb⟩
    cases t
    · exact ⟨absurd (ht.2 h1) (by decide), hb⟩
    · exact ⟨rfl, hb⟩)
  have c2 : ∀ W, RowC W B m d r → Calls Try.prog 45 #[.slice B m d] W fun e w' => e = .returned (.bool true) ∧ Below W.heap.size W w' := fun W hW => (rises_any B m d r W hW.1).mono (by
    rintro e w' ⟨v, rfl, ⟨t, rfl, ht⟩, hb⟩
    cases t
    · exact ⟨absurd (ht.2 h2) (by decide), hb⟩
    · exact ⟨rfl, hb⟩)
  have c3 : ∀ W, RowC W A n c l → RowC W B m d r → Calls Try.prog 63 #[.slice A n c, .slice B m d] W fun e w' => e = .returned (.bool false) ∧ Below W.heap.size W w' := fun W hW hV => by
    have := isame_any A B n c m d l r W hW.1 hV.1
    rw [decide_eq_false h3] at this
    exact this
  have c4 : ∀ W, RowC W A n c l → Calls Try.prog 50 #[.slice A n c] W fun e w' => e = .returned (.agg (idVals (rootM l))) ∧ Below W.heap.size W w' := fun W hW => mroot_any l.length l (Nat.le_refl _) A n c W hW
  have c5 : ∀ W, RowC W B m d r → Calls Try.prog 50 #[.slice B m d] W fun e w' => e = .returned (.agg (idVals (rootM r))) ∧ Below W.heap.size W w' := fun W hW => mroot_any r.length r (Nat.le_refl _) B m d W hW
  have hn0 : (n : Int) < 9223372036854775808 := by have := hl.1.2.1; omega
  have hm0 : (m : Int) < 9223372036854775808 := by have := hr.1.2.1; omega
  have hTl : (textB setN [cntB (n : Int), rootM l]).length ≤ 1000 := by simp [textB, partB, numB_length, cntB, rootM_length, setN]
  have hTr : (textB setN [cntB (m : Int), rootM r]).length ≤ 1000 := by simp [textB, partB, numB_length, cntB, rootM_length, setN]
  have c6 : ∀ W, Calls Try.prog 64 #[.int .i64 (n : Int), .agg (idVals (rootM l))] W fun e w' => e = .returned (.string (txt (textB setN [cntB (n : Int), rootM l]))) ∧ Below W.heap.size W w' := fun W => whole_any (n : Int) hn0 (rootM l) (rootM_length l) W
  have c7 : ∀ W, Calls Try.prog 64 #[.int .i64 (m : Int), .agg (idVals (rootM r))] W fun e w' => e = .returned (.string (txt (textB setN [cntB (m : Int), rootM r]))) ∧ Below W.heap.size W w' := fun W => whole_any (m : Int) hm0 (rootM r) (rootM_length r) W
  have c8 : ∀ W, Calls Try.prog 65 #[.string (txt (textB setN [cntB (n : Int), rootM l]))] W fun e w' => e = .returned (.agg (idVals (wholeM (n : Int) (rootM l)))) ∧ Below W.heap.size W w' := fun W => sum_any _ (by omega) W
  have c9 : ∀ W, Calls Try.prog 65 #[.string (txt (textB setN [cntB (m : Int), rootM r]))] W fun e w' => e = .returned (.agg (idVals (wholeM (m : Int) (rootM r)))) ∧ Below W.heap.size W w' := fun W => sum_any _ (by omega) W
  have hSl : (wholeM (n : Int) (rootM l)).length = 32 := tagB_length _ _
  have hTl2 : (wholeM (m : Int) (rootM r)).length = 32 := tagB_length _ _
  have heq : ∀ W, (Op.equalIn 10000 24 (.agg (idVals (wholeM (n : Int) (rootM l)))) (.agg (idVals (wholeM (m : Int) (rootM r))))).run Try.prog W = .ok (decide (wholeM (n : Int) (rootM l) = wholeM (m : Int) (rootM r))) W := fun W => ids_eq W _ _ hSl hTl2
  rw [decide_eq_false h4] at heq
  clear h4 hn0 hm0 hTl hTr hSl hTl2
  generalize wholeM (n : Int) (rootM l) = X at *
  generalize wholeM (m : Int) (rootM r) = Y at *
  generalize textB setN [cntB (n : Int), rootM l] = S at *
  generalize textB setN [cntB (m : Int), rootM r] = T at *
  generalize rootM l = R at *
  generalize rootM r = Q at *
  clear h1 h2 h3
  go_enter Try.func22, Try.ntmps22
  go_wp2_with (first
    | (go_at_call 45; (with_reducible refine (c1 _ hl).mono ?_); rintro e1 w1 ⟨rfl, hb1⟩; have hl1 := hl.below hb1; have hr1 := hr.below hb1; clear c1)
    | (go_at_call 45; (with_reducible refine (c2 _ hr1).mono ?_); rintro e2 w2 ⟨rfl, hb2⟩; have hl2 := hl1.below hb2; have hr2 := hr1.below hb2; clear c2)
    | (go_at_call 63; (with_reducible refine (c3 _ hl2 hr2).mono ?_); rintro e3 w3 ⟨rfl, hb3⟩; have hl3 := hl2.below hb3; have hr3 := hr2.below hb3; clear c3)
    | (go_at_call 50; (with_reducible refine (c4 _ hl3).mono ?_); rintro e4 w4 ⟨rfl, hb4⟩; have hr4 := hr3.below hb4; clear c4)
    | (go_at_call 64; (with_reducible refine (c6 _).mono ?_); rintro e5 w5 ⟨rfl, hb5⟩; have hr5 := hr4.below hb5; clear c6)
    | (go_at_call 50; (with_reducible refine (c5 _ hr5).mono ?_); rintro e6 w6 ⟨rfl, hb6⟩; have hr6 := hr5.below hb6; clear c5)
    | (go_at_call 64; (with_reducible refine (c7 _).mono ?_); rintro e7 w7 ⟨rfl, hb7⟩; clear c7)
    | (go_at_call 65; (with_reducible refine (c8 _).mono ?_); rintro e8 w8 ⟨rfl, hb8⟩; clear c8)
    | (go_at_call 65; (with_reducible refine (c9 _).mono ?_); rintro e9 w9 ⟨rfl, hb9⟩))
  go_ret3
  exact ⟨rfl, hb1.trans ((hb2.trans ((hb3.trans ((hb4.trans ((hb5.trans ((hb6.trans ((hb7.trans ((hb8.trans (hb9.mono hb8.size)).mono hb7.size)).mono hb6.size)).mono hb5.size)).mono hb4.size)).mono hb3.size)).mono hb2.size)).mono hb1.size)⟩
set_option maxRecDepth 100000 in
set_option maxHeartbeats 16000000 in
theorem apart_yes1 (A : Option Addr) (n c : Nat) (B : Option Addr) (m d : Nat) (l r : List (List UInt8)) (w : World) (hl : RowC w A n c l) (hr : RowC w B m d r) (h1 : Steps l n) (h2 : Steps r m) (h3 : l ≠ r) (h4 : wholeM (n : Int) (rootM l) = wholeM (m : Int) (rootM r)) (h5 : textB setN [cntB (n : Int), rootM l] ≠ textB setN [cntB (m : Int), rootM r]) :
    Calls Try.prog 22 #[.slice A n c, .slice B m d] w (ApQY w) := by
  have c1 : ∀ W, RowC W A n c l → Calls Try.prog 45 #[.slice A n c] W fun e w' => e = .returned (.bool true) ∧ Below W.heap.size W w' := fun W hW => (rises_any A n c l W hW.1).mono (by
    rintro e w' ⟨v, rfl, ⟨t, rfl, ht⟩, hb⟩
    cases t
    · exact ⟨absurd (ht.2 h1) (by decide), hb⟩
    · exact ⟨rfl, hb⟩)
  have c2 : ∀ W, RowC W B m d r → Calls Try.prog 45 #[.slice B m d] W fun e w' => e = .returned (.bool true) ∧ Below W.heap.size W w' := fun W hW => (rises_any B m d r W hW.1).mono (by
    rintro e w' ⟨v, rfl, ⟨t, rfl, ht⟩, hb⟩
    cases t
    · exact ⟨absurd (ht.2 h2) (by decide), hb⟩
    · exact ⟨rfl, hb⟩)
  have c3 : ∀ W, RowC W A n c l → RowC W B m d r → Calls Try.prog 63 #[.slice A n c, .slice B m d] W fun e w' => e = .returned (.bool false) ∧ Below W.heap.size W w' := fun W hW hV => by
    have := isame_any A B n c m d l r W hW.1 hV.1
    rw [decide_eq_false h3] at this
    exact this
  have c4 : ∀ W, RowC W A n c l → Calls Try.prog 50 #[.slice A n c] W fun e w' => e = .returned (.agg (idVals (rootM l))) ∧ Below W.heap.size W w' := fun W hW => mroot_any l.length l (Nat.le_refl _) A n c W hW
  have c5 : ∀ W, RowC W B m d r → Calls Try.prog 50 #[.slice B m d] W fun e w' => e = .returned (.agg (idVals (rootM r))) ∧ Below W.heap.size W w' := fun W hW => mroot_any r.length r (Nat.le_refl _) B m d W hW
  have hn0 : (n : Int) < 9223372036854775808 := by have := hl.1.2.1; omega
  have hm0 : (m : Int) < 9223372036854775808 := by have := hr.1.2.1; omega
  have hTl : (textB setN [cntB (n : Int), rootM l]).length ≤ 1000 := by simp [textB, partB, numB_length, cntB, rootM_length, setN]
  have hTr : (textB setN [cntB (m : Int), rootM r]).length ≤ 1000 := by simp [textB, partB, numB_length, cntB, rootM_length, setN]
  have c6 : ∀ W, Calls Try.prog 64 #[.int .i64 (n : Int), .agg (idVals (rootM l))] W fun e w' => e = .returned (.string (txt (textB setN [cntB (n : Int), rootM l]))) ∧ Below W.heap.size W w' := fun W => whole_any (n : Int) hn0 (rootM l) (rootM_length l) W
  have c7 : ∀ W, Calls Try.prog 64 #[.int .i64 (m : Int), .agg (idVals (rootM r))] W fun e w' => e = .returned (.string (txt (textB setN [cntB (m : Int), rootM r]))) ∧ Below W.heap.size W w' := fun W => whole_any (m : Int) hm0 (rootM r) (rootM_length r) W
  have c8 : ∀ W, Calls Try.prog 65 #[.string (txt (textB setN [cntB (n : Int), rootM l]))] W fun e w' => e = .returned (.agg (idVals (wholeM (n : Int) (rootM l)))) ∧ Below W.heap.size W w' := fun W => sum_any _ (by omega) W
  have c9 : ∀ W, Calls Try.prog 65 #[.string (txt (textB setN [cntB (m : Int), rootM r]))] W fun e w' => e = .returned (.agg (idVals (wholeM (m : Int) (rootM r)))) ∧ Below W.heap.size W w' := fun W => sum_any _ (by omega) W
  have hSl : (wholeM (n : Int) (rootM l)).length = 32 := tagB_length _ _
  have hTl2 : (wholeM (m : Int) (rootM r)).length = 32 := tagB_length _ _
  have heq : ∀ W, (Op.equalIn 10000 24 (.agg (idVals (wholeM (n : Int) (rootM l)))) (.agg (idVals (wholeM (m : Int) (rootM r))))).run Try.prog W = .ok (decide (wholeM (n : Int) (rootM l) = wholeM (m : Int) (rootM r))) W := fun W => ids_eq W _ _ hSl hTl2
  rw [decide_eq_true h4] at heq
  have hq1 : sumB (textB setN [cntB (n : Int), rootM l]) = sumB (textB setN [cntB (m : Int), rootM r]) := h4
  clear h4 hn0 hm0 hSl hTl2
  generalize wholeM (n : Int) (rootM l) = X at *
  generalize wholeM (m : Int) (rootM r) = Y at *
  generalize textB setN [cntB (n : Int), rootM l] = S at *
  generalize textB setN [cntB (m : Int), rootM r] = T at *
  generalize rootM l = R at *
  generalize rootM r = Q at *
  have HQ := hid (show S ≠ T ∧ sumB S = sumB T ∧ S.length ≤ 1000 ∧ T.length ≤ 1000 from ⟨h5, hq1, hTl, hTr⟩)
  have hst : ¬ S = T := h5
  have hst2 : (S == T) = false := by simpa using hst
  have hst3 : (S != T) = true := by simpa using hst
  have hst4 : decide (S = T) = false := by simpa using hst
  clear h5 hq1 hTl hTr
  clear h1 h2 h3
  go_enter Try.func22, Try.ntmps22
  go_wp2_with (first
    | (go_at_call 45; (with_reducible refine (c1 _ hl).mono ?_); rintro e1 w1 ⟨rfl, hb1⟩; have hl1 := hl.below hb1; have hr1 := hr.below hb1; clear c1)
    | (go_at_call 45; (with_reducible refine (c2 _ hr1).mono ?_); rintro e2 w2 ⟨rfl, hb2⟩; have hl2 := hl1.below hb2; have hr2 := hr1.below hb2; clear c2)
    | (go_at_call 63; (with_reducible refine (c3 _ hl2 hr2).mono ?_); rintro e3 w3 ⟨rfl, hb3⟩; have hl3 := hl2.below hb3; have hr3 := hr2.below hb3; clear c3)
    | (go_at_call 50; (with_reducible refine (c4 _ hl3).mono ?_); rintro e4 w4 ⟨rfl, hb4⟩; have hr4 := hr3.below hb4; clear c4)
    | (go_at_call 64; (with_reducible refine (c6 _).mono ?_); rintro e5 w5 ⟨rfl, hb5⟩; have hr5 := hr4.below hb5; clear c6)
    | (go_at_call 50; (with_reducible refine (c5 _ hr5).mono ?_); rintro e6 w6 ⟨rfl, hb6⟩; have hr6 := hr5.below hb6; clear c5)
    | (go_at_call 64; (with_reducible refine (c7 _).mono ?_); rintro e7 w7 ⟨rfl, hb7⟩; clear c7)
    | (go_at_call 65; (with_reducible refine (c8 _).mono ?_); rintro e8 w8 ⟨rfl, hb8⟩; clear c8)
    | (go_at_call 65; (with_reducible refine (c9 _).mono ?_); rintro e9 w9 ⟨rfl, hb9⟩))
  go_ret3
  exact ⟨S, T, rfl, HQ.out.1, HQ.out.2.1, HQ.out.2.2.1, HQ.out.2.2.2, hb1.trans ((hb2.trans ((hb3.trans ((hb4.trans ((hb5.trans ((hb6.trans ((hb7.trans ((hb8.trans (hb9.mono hb8.size)).mono hb7.size)).mono hb6.size)).mono hb5.size)).mono hb4.size)).mono hb3.size)).mono hb2.size)).mono hb1.size)⟩
set_option maxRecDepth 100000 in
set_option maxHeartbeats 16000000 in
theorem apart_yes2 (A : Option Addr) (n c : Nat) (B : Option Addr) (m d : Nat) (l r : List (List UInt8)) (w : World) (hl : RowC w A n c l) (hr : RowC w B m d r) (h1 : Steps l n) (h2 : Steps r m) (h3 : l ≠ r) (h4 : wholeM (n : Int) (rootM l) = wholeM (m : Int) (rootM r)) (h5 : textB setN [cntB (n : Int), rootM l] = textB setN [cntB (m : Int), rootM r]) :
    Calls Try.prog 22 #[.slice A n c, .slice B m d] w (ApQY w) := by
  have hu := Try.underlying24
  have mixed : Try.prog.follows .mixedOrders = true := by kernel_rfl
  obtain ⟨hnm, hroot⟩ := set_same hl.1.2.1 hr.1.2.1 (rootM_length l) (rootM_length r) h5
  obtain ⟨q, xq, yq, hxq, hyq, hneq, hlow⟩ := first_diff l r (by rw [hl.1.1, hr.1.1, hnm]) h3
  subst hnm
  have HME : Hid (∀ W, RowC W A n c l → RowC W B n d r → Calls Try.prog 66 #[.slice A n c, .slice B n d, .int .i64 (q : Int)] W (MeQ W)) := hid (fun W hW hV => meet_any A n c B d q l r xq yq hxq hyq hneq hroot W hW hV)
  have hqn : q < n := by rw [← hl.1.1]; exact (List.getElem?_eq_some_iff.1 hxq).1
  have hn6 := hl.1.2.1
  have c1 : ∀ W, RowC W A n c l → Calls Try.prog 45 #[.slice A n c] W fun e w' => e = .returned (.bool true) ∧ Below W.heap.size W w' := fun W hW => (rises_any A n c l W hW.1).mono (by
    rintro e w' ⟨v, rfl, ⟨t, rfl, ht⟩, hb⟩
    cases t
    · exact ⟨absurd (ht.2 h1) (by decide), hb⟩
    · exact ⟨rfl, hb⟩)
  have c2 : ∀ W, RowC W B n d r → Calls Try.prog 45 #[.slice B n d] W fun e w' => e = .returned (.bool true) ∧ Below W.heap.size W w' := fun W hW => (rises_any B n d r W hW.1).mono (by
    rintro e w' ⟨v, rfl, ⟨t, rfl, ht⟩, hb⟩
    cases t
    · exact ⟨absurd (ht.2 h2) (by decide), hb⟩
    · exact ⟨rfl, hb⟩)
  have c3 : ∀ W, RowC W A n c l → RowC W B n d r → Calls Try.prog 63 #[.slice A n c, .slice B n d] W fun e w' => e = .returned (.bool false) ∧ Below W.heap.size W w' := fun W hW hV => by
    have := isame_any A B n c n d l r W hW.1 hV.1
    rw [decide_eq_false h3] at this
    exact this
  have c4 : ∀ W, RowC W A n c l → Calls Try.prog 50 #[.slice A n c] W fun e w' => e = .returned (.agg (idVals (rootM l))) ∧ Below W.heap.size W w' := fun W hW => mroot_any l.length l (Nat.le_refl _) A n c W hW
  have c5 : ∀ W, RowC W B n d r → Calls Try.prog 50 #[.slice B n d] W fun e w' => e = .returned (.agg (idVals (rootM r))) ∧ Below W.heap.size W w' := fun W hW => mroot_any r.length r (Nat.le_refl _) B n d W hW
  have hn0 : (n : Int) < 9223372036854775808 := by have := hl.1.2.1; omega
  have hm0 : (n : Int) < 9223372036854775808 := by have := hr.1.2.1; omega
  have hTl : (textB setN [cntB (n : Int), rootM l]).length ≤ 1000 := by simp [textB, partB, numB_length, cntB, rootM_length, setN]
  have hTr : (textB setN [cntB (n : Int), rootM r]).length ≤ 1000 := by simp [textB, partB, numB_length, cntB, rootM_length, setN]
  have c6 : ∀ W, Calls Try.prog 64 #[.int .i64 (n : Int), .agg (idVals (rootM l))] W fun e w' => e = .returned (.string (txt (textB setN [cntB (n : Int), rootM l]))) ∧ Below W.heap.size W w' := fun W => whole_any (n : Int) hn0 (rootM l) (rootM_length l) W
  have c7 : ∀ W, Calls Try.prog 64 #[.int .i64 (n : Int), .agg (idVals (rootM r))] W fun e w' => e = .returned (.string (txt (textB setN [cntB (n : Int), rootM r]))) ∧ Below W.heap.size W w' := fun W => whole_any (n : Int) hm0 (rootM r) (rootM_length r) W
  have c8 : ∀ W, Calls Try.prog 65 #[.string (txt (textB setN [cntB (n : Int), rootM l]))] W fun e w' => e = .returned (.agg (idVals (wholeM (n : Int) (rootM l)))) ∧ Below W.heap.size W w' := fun W => sum_any _ (by omega) W
  have c9 : ∀ W, Calls Try.prog 65 #[.string (txt (textB setN [cntB (n : Int), rootM r]))] W fun e w' => e = .returned (.agg (idVals (wholeM (n : Int) (rootM r)))) ∧ Below W.heap.size W w' := fun W => sum_any _ (by omega) W
  have hSl : (wholeM (n : Int) (rootM l)).length = 32 := tagB_length _ _
  have hTl2 : (wholeM (n : Int) (rootM r)).length = 32 := tagB_length _ _
  have heq : ∀ W, (Op.equalIn 10000 24 (.agg (idVals (wholeM (n : Int) (rootM l)))) (.agg (idVals (wholeM (n : Int) (rootM r))))).run Try.prog W = .ok (decide (wholeM (n : Int) (rootM l) = wholeM (n : Int) (rootM r))) W := fun W => ids_eq W _ _ hSl hTl2
  rw [decide_eq_true h4] at heq
  rw [← h4] at c9 heq
  rw [← h5] at c7 c9
  clear h4 h5 hn0 hm0 hSl hTl2 hTl hTr
  rw [← hroot] at c5 c7
  generalize wholeM (n : Int) (rootM l) = X at *
  generalize textB setN [cntB (n : Int), rootM l] = S at *
  clear hroot
  generalize rootM l = R at *
  clear h1 h2 h3
  go_enter Try.func22, Try.ntmps22
  have z7 : (S != S) = false := by simp
  go_wp2_with (first
    | (go_at_call 45; (with_reducible refine (c1 _ hl).mono ?_); rintro e1 w1 ⟨rfl, hb1⟩; have hl1 := hl.below hb1; have hr1 := hr.below hb1; clear c1)
    | (go_at_call 45; (with_reducible refine (c2 _ hr1).mono ?_); rintro e2 w2 ⟨rfl, hb2⟩; have hl2 := hl1.below hb2; have hr2 := hr1.below hb2; clear c2)
    | (go_at_call 63; (with_reducible refine (c3 _ hl2 hr2).mono ?_); rintro e3 w3 ⟨rfl, hb3⟩; have hl3 := hl2.below hb3; have hr3 := hr2.below hb3; clear c3)
    | (go_at_call 50; (with_reducible refine (c4 _ hl3).mono ?_); rintro e4 w4 ⟨rfl, hb4⟩; have hr4 := hr3.below hb4; clear c4)
    | (go_at_call 64; (with_reducible refine (c6 _).mono ?_); rintro e5 w5 ⟨rfl, hb5⟩; have hr5 := hr4.below hb5; clear c6)
    | (go_at_call 50; (with_reducible refine (c5 _ hr5).mono ?_); rintro e6 w6 ⟨rfl, hb6⟩; have hr6 := hr5.below hb6; clear c5)
    | (go_at_call 64; (with_reducible refine (c7 _).mono ?_); rintro e7 w7 ⟨rfl, hb7⟩; clear c7)
    | (go_at_call 65; (with_reducible refine (c8 _).mono ?_); rintro e8 w8 ⟨rfl, hb8⟩; clear c8)
    | (go_at_call 65; (with_reducible refine (c9 _).mono ?_); rintro e9 w9 ⟨rfl, hb9⟩))
  have HB9 := hid (hb1.trans ((hb2.trans ((hb3.trans ((hb4.trans ((hb5.trans ((hb6.trans ((hb7.trans ((hb8.trans (hb9.mono hb8.size)).mono hb7.size)).mono hb6.size)).mono hb5.size)).mono hb4.size)).mono hb3.size)).mono hb2.size)).mono hb1.size))
  have HL9 := hid (hl3.below (hb4.trans ((hb5.trans ((hb6.trans ((hb7.trans ((hb8.trans (hb9.mono hb8.size)).mono hb7.size)).mono hb6.size)).mono hb5.size)).mono hb4.size)))
  have HR9 := hid (hr3.below (hb4.trans ((hb5.trans ((hb6.trans ((hb7.trans ((hb8.trans (hb9.mono hb8.size)).mono hb7.size)).mono hb6.size)).mono hb5.size)).mono hb4.size)))
  have HLOW := hid hlow
  have HQN := hid hqn
  have HN6 := hid hn6
  have HXQ := hid hxq
  have HYQ := hid hyq
  have HNE := hid hneq
  clear hb1 hb2 hb3 hb4 hb5 hb6 hb7 hb8 hb9 hl hr hl1 hl2 hl3 hr1 hr2 hr3 hr4 hr5 hr6 hlow hqn hn6 hxq hyq hneq heq z7 c9
  go_loopw [7] (fun v wr => ∃ j : Nat, j ≤ q ∧ v = .int .i64 (j : Int) ∧ Hid (Below w9.heap.size w9 wr)) (fun v _ => q - (intOf v).toNat)
  case atStart => exact ⟨0, Nat.zero_le _, rfl, hid (Below.refl _ _)⟩
  case round =>
    obtain ⟨j, hj, rfl, HBJ⟩ := hrel
    obtain ⟨wj, hwj⟩ : ∃ u, u = wr := ⟨_, rfl⟩
    subst hwj
    have hlj := HL9.out.below HBJ.out
    have hrj := HR9.out.below HBJ.out
    have q9 := pv_q1 (p := j) (by have := HQN.out; have := HN6.out; omega)
    by_cases hlt : j < q
    · obtain ⟨x, hx⟩ : ∃ x, l[j]? = some x := ⟨_, List.getElem?_eq_getElem (by have := HL9.out.1.1; have := HQN.out; omega)⟩
      have hy : r[j]? = some x := by rw [← HLOW.out j hlt]; exact hx
      obtain ⟨gx, qx, fx, lx, hix⟩ := hlj.1.2.2.pick (k := j) (a := x) c hlj.1.1 hx
      obtain ⟨gy, qy, fy, ly, hiy⟩ := hrj.1.2.2.pick (k := j) (a := x) d hrj.1.1 hy
      have hzx : (Try.prog.info? 24).map (·.size) = some (x.map u8v).length := by rw [List.length_map, lx]; exact sizeId
      have heX : ∀ W, (Op.equalIn 10000 24 (.agg (List.map u8v x).toArray) (.agg (List.map u8v x).toArray)).run Try.prog W = .ok true W := fun W => (ids_eq W x x lx lx).trans (by rw [decide_eq_true rfl])
      have HLT := hid hlt
      have fX := range_later fx
      have fY := range_later fy
      clear hlt hj hx hy fx fy lx ly hlj hrj
      go_upto_region 9 with (fail)
      refine wp_region_later mixed (by kernel_rfl) ?_
      repeat (first
        | ((with_reducible refine wpQuiet_skip (by with_unfolding_all rfl) ?_); simp only [Act.put, List.setIfInBounds_toArray, List.set_cons_zero, List.set_cons_succ])
        | ((with_reducible refine wpQuiet_load_if (by with_unfolding_all rfl) 24 _ rfl _ _ rfl (x.map u8v) _ fX hu (by with_unfolding_all rfl) hzx ?_); simp only [Act.put, List.setIfInBounds_toArray, List.set_cons_zero, List.set_cons_succ])
        | ((with_reducible refine wpQuiet_load_if (by with_unfolding_all rfl) 24 _ rfl _ _ rfl (x.map u8v) _ fY hu (by with_unfolding_all rfl) hzx ?_); simp only [Act.put, List.setIfInBounds_toArray, List.set_cons_zero, List.set_cons_succ])
        | ((with_reducible refine wpQuiet_step (fun K hK => ?_)); go_simp; first | ((with_reducible refine hK _ ?_); clear hK K)))
      with_reducible refine wpQuiet_nil ?_
      intro _ hw'
      obtain ⟨p9, rfl⟩ := hw'
      have hp9 := p9.h
      generalize p9.w = w10 at *
      have HB10 := hid (HBJ.out.trans (hp9.mono HBJ.out.size))
      clear hp9 fX fY hix hiy heX
      go_wp2_with (fail)
      go_roundw
      case rel => exact ⟨j + 1, HLT.out, by go_num, HB10⟩
      case measure => first | exact pv_meas2 HLT.out | (rw [q9]; exact pv_meas2 HLT.out)
    · obtain rfl : q = j := by omega
      obtain ⟨gx, qx, fx, lx, hix⟩ := hlj.1.2.2.pick (k := q) (a := xq) c hlj.1.1 HXQ.out
      obtain ⟨gy, qy, fy, ly, hiy⟩ := hrj.1.2.2.pick (k := q) (a := yq) d hrj.1.1 HYQ.out
      have hzx : (Try.prog.info? 24).map (·.size) = some (xq.map u8v).length := by rw [List.length_map, lx]; exact sizeId
      have hzy : (Try.prog.info? 24).map (·.size) = some (yq.map u8v).length := by rw [List.length_map, ly]; exact sizeId
      have heX : ∀ W, (Op.equalIn 10000 24 (.agg (List.map u8v xq).toArray) (.agg (List.map u8v yq).toArray)).run Try.prog W = .ok false W := fun W => (ids_eq W xq yq lx ly).trans (by rw [decide_eq_false HNE.out])
      have fX := range_later fx
      have fY := range_later fy
      have HLJ := hid hlj
      have HRJ := hid hrj
      clear hlt hj fx fy lx ly hlj hrj
      go_upto_region 9 with (fail)
      refine wp_region_later mixed (by kernel_rfl) ?_
      repeat (first
        | ((with_reducible refine wpQuiet_skip (by with_unfolding_all rfl) ?_); simp only [Act.put, List.setIfInBounds_toArray, List.set_cons_zero, List.set_cons_succ])
        | ((with_reducible refine wpQuiet_load_if (by with_unfolding_all rfl) 24 _ rfl _ _ rfl (xq.map u8v) _ fX hu (by with_unfolding_all rfl) hzx ?_); simp only [Act.put, List.setIfInBounds_toArray, List.set_cons_zero, List.set_cons_succ])
        | ((with_reducible refine wpQuiet_load_if (by with_unfolding_all rfl) 24 _ rfl _ _ rfl (yq.map u8v) _ fY hu (by with_unfolding_all rfl) hzy ?_); simp only [Act.put, List.setIfInBounds_toArray, List.set_cons_zero, List.set_cons_succ])
        | ((with_reducible refine wpQuiet_step (fun K hK => ?_)); go_simp; first | ((with_reducible refine hK _ ?_); clear hK K)))
      with_reducible refine wpQuiet_nil ?_
      intro _ hw'
      obtain ⟨p9, rfl⟩ := hw'
      have hp9 := p9.h
      generalize p9.w = w10 at *
      have HB10 := hid (HBJ.out.trans (hp9.mono HBJ.out.size))
      have cM := HME.out _ (HLJ.out.below hp9) (HRJ.out.below hp9)
      clear hp9 fX fY hix hiy heX
      go_wp2_with (go_at_call 66; (with_reducible refine cM.mono ?_); rintro e11 w11 ⟨S5, T5, rfl, k1, k2, k3, k4, hb11⟩; have HK := hid (show S5 ≠ T5 ∧ sumB S5 = sumB T5 ∧ S5.length ≤ 1000 ∧ T5.length ≤ 1000 from ⟨k1, k2, k3, k4⟩); clear k1 k2 k3 k4)
      go_ret3
      exact ⟨S5, T5, rfl, HK.out.1, HK.out.2.1, HK.out.2.2.1, HK.out.2.2.2, HB9.out.trans ((HB10.out.trans (hb11.mono HB10.out.size)).mono HB9.out.size)⟩
end Go.Proofs.Ytkbokffonnjjiaa

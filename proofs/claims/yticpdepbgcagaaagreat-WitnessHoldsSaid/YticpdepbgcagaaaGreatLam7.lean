
/- lamport: public sums of what is shown and hidden; what they recover. -/
import Derived.Test.YticpdepbgcagaaaGreatLam6
namespace Go.Proofs.YticpdepbgcagaaaGreat
open Go.RowKit Go.Qc
attribute [local go_sem] txt_size txt_append ib_fold

def pubF (m : List UInt8) (l r : List (List UInt8)) (b sd : Nat) : List UInt8 := if sd = bitZ m b then pubB (l.getD b zeroB) else r.getD b zeroB
theorem pubF_length (m : List UInt8) (l r : List (List UInt8)) (hr : ∀ x ∈ r, x.length = 32) (b sd : Nat) : (pubF m l r b sd).length = 32 := by
  unfold pubF
  split
  · exact pubB_length _
  · rw [List.getD_eq_getElem?_getD]
    cases h : r[b]? with
    | none => rfl
    | some x => exact hr x (List.mem_of_getElem? h)
set_option maxRecDepth 100000 in
set_option maxHeartbeats 4000000 in
theorem publics1_any (m : List UInt8) (hm : m.length = 32) (p1 p2 p3 : Nat) (A B : Option Addr) (n c d : Nat) (l r : List (List UInt8)) (hn : n ≤ 256) (w : World) (h1 : w.rangeAt p1 0 (m.map u8v)) (h2 : w.cell? ⟨p2, 0, none⟩ = some (.slice A n c)) (h3 : w.cell? ⟨p3, 0, none⟩ = some (.slice B n d))
    (hA : RowR w A n l) (hB : RowR w B n r) (b sd : Nat) (hb : b < n) (q : Int) (hq : q = sd) :
    Calls Tryz.prog 92 #[.int .i64 b, .int .i64 q, .pointer (some ⟨p1, 0, none⟩), .pointer (some ⟨p2, 0, none⟩), .pointer (some ⟨p3, 0, none⟩)] w fun e w' => e = .returned (.agg (idVals (pubF m l r b sd))) ∧ Below w.heap.size w w' := by
  obtain ⟨hln, _, hAr⟩ := hA
  obtain ⟨hrn, _, hBr⟩ := hB
  obtain ⟨x, hx⟩ : ∃ x, l[b]? = some x := ⟨_, List.getElem?_eq_getElem (by omega)⟩
  obtain ⟨y, hy⟩ : ∃ y, r[b]? = some y := ⟨_, List.getElem?_eq_getElem (by omega)⟩
  obtain ⟨ga, oa, hga, lx, hia⟩ := hAr.pick c hln hx
  obtain ⟨gb, ob, hgb, ly, hib⟩ := hBr.pick d hrn hy
  have hF : pubF m l r b sd = if sd = bitZ m b then pubB x else y := by
    unfold pubF
    rw [List.getD_eq_getElem?_getD, List.getD_eq_getElem?_getD, hx, hy]; rfl
  rw [hF]
  have hu := Tryz.underlying24
  have hB0 : ∀ zc, Below w.heap.size w (w.alloc (.cells zc 24)) := fun zc => (Below.refl _ _).alloc (Nat.le_refl _) _
  have hI : ∀ zc, (w.alloc (.cells zc 24)).rangeAt p1 0 (m.map u8v) := fun zc => h1.below (hB0 zc)
  have hR0 : ∀ zc, Blk (w.alloc (.cells zc 24)) w.heap.size 24 zc := fun zc => Blk.new _ _ _
  have cB : ∀ W : World, Calls Tryz.prog 33 #[.agg (List.map u8v m).toArray, .int .i64 b] W fun e w' => e = .returned (.int .i64 (bitZ m b : Nat)) ∧ Below W.heap.size W w' := fun W => ibit_any m hm b (by omega) W
  have cP : ∀ W : World, Calls Tryz.prog 44 #[.agg (List.map u8v x).toArray] W fun e w' => e = .returned (.agg (idVals (pubB x))) ∧ Below W.heap.size W w' := fun W => public_any x lx W
  have hzm : (Tryz.prog.info? 24).map (·.size) = some (m.map u8v).length := by rw [List.length_map, hm]; exact sizeId
  have hzx : (Tryz.prog.info? 24).map (·.size) = some (x.map u8v).length := by rw [List.length_map, lx]; exact sizeId
  have hzy : (Tryz.prog.info? 24).map (·.size) = some (y.map u8v).length := by rw [List.length_map, ly]; exact sizeId
  have lp := pubB_length x
  have HLP := hid lp
  have HLY := hid ly
  have HQ := hid hq
  generalize hD : bitZ m b = D at *
  generalize pubB x = X at *
  clear hF hm hx hy hln hrn hAr hBr h1 lx ly lp hn hD hq
  by_cases he : sd = D
  · have hz : (q == (D : Int)) = true := by rw [HQ.out, he]; exact beq_self_eq_true _
    rw [if_pos he]
    clear he
    go_enter Tryz.func92, Tryz.ntmps92
    go_wp2_with (first
      | (with_reducible refine wpList_load_if (by with_unfolding_all rfl) 24 _ rfl _ 0 rfl (m.map u8v) _ (hI _) hu (by with_unfolding_all rfl) hzm ?_)
      | (go_at_call 33; (with_reducible refine (cB _).mono ?_); rintro e1 w1 ⟨rfl, hb1⟩; have hB := (hB0 _).trans (hb1.mono (hB0 _).size); have hR := (hR0 _).below hb1; have k2 := Below.keep hB h2; have hg := hga.below hB)
      | (with_reducible refine wpList_load_if (by with_unfolding_all rfl) 24 _ rfl _ _ rfl (x.map u8v) _ hg hu (by with_unfolding_all rfl) hzx ?_)
      | (go_at_call 44; (with_reducible refine (cP _).mono ?_); rintro e2 w2 ⟨rfl, hb2⟩; replace hR := hR.below hb2; replace hB := hB.trans (hb2.mono hB.size))
      | (with_reducible refine wpList_store_blk rfl 24 _ _ rfl w.heap.size _ (idVals X) 24 hR rfl rfl ?c2 ?c3 (idVals_one _) ?_))
    case c2 => rw [idVals_size, HLP.out]; exact sizeId
    case c3 => rw [idVals_size, HLP.out]; rfl
    intro w9 hb9 hg9
    go_wp2
    refine bodyPost_ret (results_cell_row rfl _ _ _ _ _ _ _ rfl hb9 Tryz.underlying24 rfl (by rw [idVals_size, HLP.out]; exact sizeId)) rfl ⟨rfl, ?_⟩
    exact hB.grown hg9 hB.size (by intro i e; cases e; exact Nat.le_refl _)
  · have hz : (q == (D : Int)) = false := by rw [HQ.out, beq_eq_false_iff_ne]; omega
    rw [if_neg he]
    clear he
    go_enter Tryz.func92, Tryz.ntmps92
    go_wp2_with (first
      | (with_reducible refine wpList_load_if (by with_unfolding_all rfl) 24 _ rfl _ 0 rfl (m.map u8v) _ (hI _) hu (by with_unfolding_all rfl) hzm ?_)
      | (go_at_call 33; (with_reducible refine (cB _).mono ?_); rintro e1 w1 ⟨rfl, hb1⟩; have hB := (hB0 _).trans (hb1.mono (hB0 _).size); have hR := (hR0 _).below hb1; have k3 := Below.keep hB h3; have hg := hgb.below hB)
      | (with_reducible refine wpList_load_if (by with_unfolding_all rfl) 24 _ rfl _ _ rfl (y.map u8v) _ hg hu (by with_unfolding_all rfl) hzy ?_)
      | (with_reducible refine wpList_store_blk rfl 24 _ _ rfl w.heap.size _ (y.map u8v).toArray 24 hR rfl rfl ?c2 ?c3 ?c4 ?_))
    case c2 => rw [show (y.map u8v).toArray.size = 32 by rw [List.size_toArray, List.length_map, HLY.out]]; exact sizeId
    case c3 => rw [show (y.map u8v).toArray.size = 32 by rw [List.size_toArray, List.length_map, HLY.out]]; rfl
    case c4 => exact idVals_one y
    intro w9 hb9 hg9
    go_wp2
    refine bodyPost_ret (results_cell_row rfl _ _ _ _ _ _ _ rfl hb9 Tryz.underlying24 rfl (by rw [show (y.map u8v).toArray.size = 32 by rw [List.size_toArray, List.length_map, HLY.out]]; exact sizeId)) rfl ⟨rfl, ?_⟩
    exact hB.grown hg9 hB.size (by intro i e; cases e; exact Nat.le_refl _)

/-- The world behind the three variables of Publics. -/
def wP (w : World) (m : List UInt8) (A B : Option Addr) (n c k d : Nat) : World := ((w.alloc (.cells (idVals m) 24)).alloc (.cells #[.slice A n c] 25)).alloc (.cells #[.slice B k d] 25)
theorem wP_facts (w : World) (m : List UInt8) (A B : Option Addr) (n c k d : Nat) :
    (wP w m A B n c k d).rangeAt w.heap.size 0 (m.map u8v) ∧ (wP w m A B n c k d).cell? ⟨w.heap.size + 1, 0, none⟩ = some (.slice A n c) ∧ (wP w m A B n c k d).cell? ⟨w.heap.size + 1 + 1, 0, none⟩ = some (.slice B k d) ∧ Below w.heap.size w (wP w m A B n c k d) := by
  have hz1 : (w.alloc (.cells (idVals m) 24)).heap.size = w.heap.size + 1 := by simp
  have hz2 : ((w.alloc (.cells (idVals m) 24)).alloc (.cells #[.slice A n c] 25)).heap.size = w.heap.size + 1 + 1 := by simp
  have b2 := (Blk.new (w.alloc (.cells (idVals m) 24)) 25 #[.slice A n c]).alloc (.cells #[.slice B k d] 25)
  rw [hz1] at b2
  have b3 := Blk.new ((w.alloc (.cells (idVals m) 24)).alloc (.cells #[.slice A n c] 25)) 25 #[.slice B k d]
  rw [hz2] at b3
  exact ⟨range_blk (((Blk.new w 24 (idVals m)).alloc _).alloc _), b2.cell_ rfl, b3.cell_ rfl, (((Below.refl _ _).alloc (Nat.le_refl _) _).alloc (by simp) _).alloc (by simp; omega) _⟩
set_option maxRecDepth 100000 in
set_option maxHeartbeats 4000000 in
theorem publics_any (m : List UInt8) (hm : m.length = 32) (A B : Option Addr) (n c d : Nat) (l r : List (List UInt8)) (hn : n ≤ 256) (hr : rgt n = true) (w : World) (hA : RowR w A n l) (hB : RowR w B n r) :
    Calls Tryz.prog 61 #[.agg (idVals m), .slice A n c, .slice B n d] w fun e w' => ∃ v, e = .returned (.tuple #[v, .int .i64 0]) ∧ w'.ownsRow w.heap.size 24 32 v (2 * n) (idsV (sideL (pubF m l r) n)) ∧ Below w.heap.size w w' := by
  obtain ⟨f1, f2, f3, fB⟩ := wP_facts w m A B n c n d
  have k2 : wP w m A B n c n d = ((w.alloc (.cells (idVals m) 24)).alloc (.cells #[.slice A n c] 25)).alloc (.cells #[.slice B n d] 25) := rfl
  have cR : ∀ W : World, Calls Tryz.prog 53 #[.int .i64 n] W fun e w' => e = .returned (.bool true) ∧ W = w' := fun W => by rw [← hr]; exact lright_any n W
  have cS : Calls Tryz.prog 91 #[.int .i64 n, .func (.func 92) #[] #[.pointer (some ⟨w.heap.size, 0, none⟩), .pointer (some ⟨w.heap.size + 1, 0, none⟩), .pointer (some ⟨w.heap.size + 1 + 1, 0, none⟩)]] (wP w m A B n c n d) fun e w' => ∃ v, e = .returned v ∧ w'.ownsRow (wP w m A B n c n d).heap.size 24 32 v (2 * n) (idsV (sideL (pubF m l r) n)) ∧ Below (wP w m A B n c n d).heap.size (wP w m A B n c n d) w' :=
    sides_any _ _ (pubF m l r) (pubF_length m l r hB.2.2.1) n (by omega) _ (enters_of Tryz.func92 (by kernel_rfl) rfl) (fun W hW b hb => by
      have hWw := fB.trans (hW.mono fB.size)
      exact ⟨publics1_any m hm _ _ _ A B n c d l r hn W (f1.below hW) (Below.keep hW f2) (Below.keep hW f3) (hA.below hWw) (hB.below hWw) b 0 hb 0 rfl, publics1_any m hm _ _ _ A B n c d l r hn W (f1.below hW) (Below.keep hW f2) (Below.keep hW f3) (hA.below hWw) (hB.below hWw) b 1 hb 1 rfl⟩)
  rw [k2] at f2 f3
  have HFB := hid fB
  clear fB f1 hr hA hB hm hn
  go_enter Tryz.func61, Tryz.ntmps61
  go_wp2_with (first
    | (go_at_call 53; (with_reducible refine (cR _).mono ?_); rintro e1 w1 ⟨rfl, rfl⟩)
    | (go_at_call 91; rw [← k2]; (with_reducible refine cS.mono ?_); rintro e2 w2 ⟨v, rfl, hown, hB2⟩))
  go_ret2
  exact ⟨_, rfl, own_base hown HFB.out.size, HFB.out.trans (hB2.mono HFB.out.size)⟩
/-! ### Recover -/
set_option maxRecDepth 100000 in
set_option maxHeartbeats 4000000 in
theorem recover_any (m : List UInt8) (hm : m.length = 32) (A B : Option Addr) (n c d : Nat) (l r : List (List UInt8)) (hn : n ≤ 256) (hr : rgt n = true) (w : World) (hA : RowR w A n l) (hB : RowR w B n r) :
    Calls Tryz.prog 57 #[.agg (idVals m), .slice A n c, .slice B n d] w fun e w' => e = .returned (.tuple #[.agg (idVals (joinB (sideL (pubF m l r) n))), .int .i64 0]) ∧ Below w.heap.size w w' := by
  obtain ⟨S, hS⟩ : ∃ S, S = joinB (sideL (pubF m l r) n) := ⟨_, rfl⟩
  have hSl : S.length = 32 := by rw [hS]; exact joinB_length _
  rw [← hS]
  have hu := Tryz.underlying24
  have hzm : (Tryz.prog.info? 24).map (·.size) = some (m.map u8v).length := by rw [List.length_map, hm]; exact sizeId
  have hz1 : (w.alloc (.cells (idVals m) 24)).heap.size = w.heap.size + 1 := by simp
  have hI : ∀ zc, ((w.alloc (.cells (idVals m) 24)).alloc (.cells zc 24)).rangeAt w.heap.size 0 (m.map u8v) := fun zc => range_blk ((Blk.new w 24 (idVals m)).alloc _)
  have hR0 : ∀ zc, Blk ((w.alloc (.cells (idVals m) 24)).alloc (.cells zc 24)) (w.heap.size + 1) 24 zc := fun zc => by
    have := Blk.new (w.alloc (.cells (idVals m) 24)) 24 zc
    rwa [hz1] at this
  have hB0 : ∀ zc, Below w.heap.size w ((w.alloc (.cells (idVals m) 24)).alloc (.cells zc 24)) := fun zc => ((Below.refl _ _).alloc (Nat.le_refl _) _).alloc (by simp) _
  have cP : ∀ W : World, Below w.heap.size w W → Calls Tryz.prog 61 #[.agg (List.map u8v m).toArray, .slice A n c, .slice B n d] W fun e w' => ∃ v, e = .returned (.tuple #[v, .int .i64 0]) ∧ w'.ownsRow W.heap.size 24 32 v (2 * n) (idsV (sideL (pubF m l r) n)) ∧ Below W.heap.size W w' := fun W h => publics_any m hm A B n c d l r hn hr W (hA.below h) (hB.below h)
  have h32 := sideL_32 (pubF m l r) (pubF_length m l r hB.2.2.1) n
  have cJ : ∀ A c W, RowR W A (2 * n) (sideL (pubF m l r) n) → Calls Tryz.prog 88 #[.slice A (2 * n) c] W fun e w' => e = .returned (.agg (idVals S)) ∧ Below W.heap.size W w' := fun A c W h => by
    rw [hS]; exact joined_any A (2 * n) c _ W h (by omega)
  generalize sideL (pubF m l r) n = L at *
  have HSL := hid hSl
  have H32 := hid h32
  have HN := hid hn
  clear hS hSl h32 hz1 hn hr hA hB hm
  go_enter Tryz.func57, Tryz.ntmps57
  go_wp2_with (first
    | (with_reducible refine wpList_load_if (by with_unfolding_all rfl) 24 _ rfl _ 0 rfl (m.map u8v) _ (hI _) hu (by with_unfolding_all rfl) hzm ?_)
    | (go_at_call 61; (with_reducible refine (cP _ (hB0 _)).mono ?_); rintro e2 w2 ⟨v, rfl, hown, hB2⟩; obtain ⟨A2, cc, rfl, hrow⟩ := RowAt.own hown H32.out (by have := HN.out; omega); have hR := (hR0 _).below hB2; have hB := (hB0 _).trans (hB2.mono (hB0 _).size))
    | (go_at_call 88; (with_reducible refine (cJ _ _ _ hrow.r).mono ?_); rintro e4 w4 ⟨rfl, hB4⟩; replace hR := hR.below hB4; replace hB := hB.trans (hB4.mono hB.size))
    | (with_reducible refine wpList_store_blk rfl 24 _ _ rfl (w.heap.size + 1) _ (idVals S) 24 hR rfl rfl ?c2 ?c3 (idVals_one _) ?_))
  case c2 => rw [idVals_size, HSL.out]; exact sizeId
  case c3 => rw [idVals_size, HSL.out]; rfl
  intro w9 hb9 hg9
  go_wp2
  refine bodyPost_ret (results_cellt rfl _ _ _ _ _ _ rfl hb9 Tryz.underlying24 rfl (by rw [idVals_size, HSL.out]; exact sizeId)) rfl ⟨rfl, ?_⟩
  exact hB.grown hg9 hB.size (by intro i e; cases e; omega)
/-! ### what was signed -/
end Go.Proofs.YticpdepbgcagaaaGreat

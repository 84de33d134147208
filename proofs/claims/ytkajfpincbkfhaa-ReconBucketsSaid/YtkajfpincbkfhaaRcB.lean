
/- recon: buckets, Unlike, the document's In -/
import Derived.Test.YtkajfpincbkfhaaRcA
import Derived.Test.YtkajfpincbkfhaaLam6
set_option linter.unusedSimpArgs false
set_option linter.unusedVariables false
namespace Go.Proofs.Ytkajfpincbkfhaa
open Go.RowKit Go.Qc Go.Shelf
attribute [local go_sem] txt_size txt_append ib_fold
/-- The bucket of an id by so many bits. -/
def bktN (a : List UInt8) : Nat → Nat
  | 0 => 0
  | k + 1 => 2 * bktN a k + bitZ a k
theorem bktN_lt (a : List UInt8) : ∀ k, bktN a k < 2 ^ k
  | 0 => by show 0 < 1; decide
  | k + 1 => by
    have h1 := bktN_lt a k
    have h2 := bitZ_le a k
    rw [Nat.pow_succ]
    unfold bktN
    omega
theorem two_8 {k : Nat} (hk : k ≤ 8) : 2 ^ k ≤ 256 := Nat.pow_le_pow_right (by omega) hk
theorem bk_step {a : List UInt8} {i : Nat} (hi : i < 8) : wrap64 (2 * (bktN a i : Int)) = 2 * (bktN a i : Int) ∧ wrap64 (2 * (bktN a i : Int) + (bitZ a i : Nat)) = ((bktN a (i + 1) : Nat) : Int) ∧ wrap64 ((i : Int) + 1) = (i : Int) + 1 := by
  have h1 := bktN_lt a i
  have h2 := two_8 (k := i) (by omega)
  have h3 := bitZ_le a i
  have h4 : bktN a (i + 1) = 2 * bktN a i + bitZ a i := rfl
  rw [h4]
  refine ⟨?_, ?_, ?_⟩ <;> (unfold wrap64; omega)
theorem bk_meas {i k : Nat} (h : i < k) : k - (((i : Nat) : Int) + 1).toNat < k - ((i : Nat) : Int).toNat := by omega
set_option maxRecDepth 100000 in
set_option maxHeartbeats 8000000 in
theorem bucket_any (a : List UInt8) (ha : a.length = 32) (k : Nat) (hk : k ≤ 8) (w : World) :
    Calls Try.prog 86 #[.agg (idVals a), .int .i64 (k : Int)] w fun e w' => e = .returned (.int .i64 ((bktN a k : Nat) : Int)) ∧ Below w.heap.size w w' := by
  have hu := Try.underlying24
  have hza : (Try.prog.info? 24).map (·.size) = some (a.map u8v).length := by rw [List.length_map, ha]; exact sizeId
  have HA := hid ha
  have HK := hid hk
  clear ha hk
  go_enter Try.func86, Try.ntmps86
  go_upto_region 1 with (fail)
  have hb0 := (Below.refl w.heap.size w).alloc (Nat.le_refl _) (.cells (idVals a) 24)
  have hbx := range_blk (Blk.new w 24 (idVals a))
  generalize w.alloc (.cells (idVals a) 24) = w1 at *
  go_wp2_with (fail)
  go_loopw [5, 8] (fun u v wr => ∃ i : Nat, i ≤ k ∧ u = .int .i64 ((bktN a i : Nat) : Int) ∧ v = .int .i64 (i : Int) ∧ Below w1.heap.size w1 wr) (fun _ v _ => k - (intOf v).toNat)
  case atStart => exact ⟨0, Nat.zero_le _, rfl, rfl, Below.refl _ _⟩
  case round =>
    obtain ⟨i, hi, rfl, rfl, hb⟩ := hrel
    by_cases hlt : i < k
    · have hi8 : i < 8 := by have := HK.out; omega
      obtain ⟨q1, q2, q3⟩ := bk_step (a := a) hi8
      have cB : ∀ W, Calls Try.prog 122 #[.agg (List.map u8v a).toArray, .int .i64 (i : Int)] W fun e w' => e = .returned (.int .i64 (bitZ a i : Nat)) ∧ Below W.heap.size W w' := fun W => ibit_any a HA.out i (by omega) W
      have fa := hbx.below hb
      have z1 : (i : Int) < (k : Int) := by omega
      have HLT := hid hlt
      have HBB := hid hb
      obtain ⟨N1, hN1⟩ : ∃ N, bktN a (i + 1) = N := ⟨_, rfl⟩
      have HN1 := hid hN1
      rw [hN1] at q2
      generalize bktN a i = N at *
      generalize bitZ a i = D at *
      clear hlt hi hb hi8 hN1
      go_wp2_with (first
        | (with_reducible refine wpList_load_if (by with_unfolding_all rfl) 24 _ rfl _ _ rfl (a.map u8v) _ fa hu rfl hza ?_)
        | (go_at_call 122; (with_reducible refine (cB _).mono ?_); rintro e3 w3 ⟨rfl, hb3⟩))
      go_roundw
      case rel => exact ⟨i + 1, HLT.out, by rw [q2, HN1.out], by go_num, HBB.out.trans (hb3.mono HBB.out.size)⟩
      case measure => rw [q3]; exact bk_meas HLT.out
    · obtain rfl : i = k := by omega
      have z1 : ¬ (i : Int) < (i : Int) := by omega
      have hbw := hb0.trans (hb.mono hb0.size)
      clear hb
      go_wp2_with (fail)
      go_ret
      exact ⟨rfl, hbw⟩
set_option maxRecDepth 100000 in
set_option maxHeartbeats 8000000 in
theorem maybe_any (v : Int) (w : World) :
    Calls Try.prog 85 #[.int .i64 v] w fun e w' => e = .returned (.bool (decide (0 ≤ v ∧ v ≤ 8))) ∧ w = w' := by
  by_cases h1 : 0 ≤ v
  · by_cases h2 : v ≤ 8
    · rw [decide_eq_true ⟨h1, h2⟩]
      go_enter Try.func85, Try.ntmps85
      go_wp2_with (fail)
      go_ret
      exact ⟨rfl, rfl⟩
    · rw [decide_eq_false (fun h => h2 h.2)]
      go_enter Try.func85, Try.ntmps85
      go_wp2_with (fail)
      go_ret
      exact ⟨rfl, rfl⟩
  · rw [decide_eq_false (fun h => h1 h.1)]
    go_enter Try.func85, Try.ntmps85
    go_wp2_with (fail)
    go_ret
    exact ⟨rfl, rfl⟩
/-- A block of so many residues. -/
def CxAt (W : World) (g n : Nat) (T : Nat → Int × Int) : Prop := ∃ cs : Array Value, Blk W g 54 cs ∧ cs.size = n ∧ ∀ j, j < n → cs[j]? = some (cz (T j))
theorem CxAt.below {W W' : World} {g n : Nat} {T : Nat → Int × Int} (h : CxAt W g n T) (hb : Below W.heap.size W W') : CxAt W' g n T := by
  obtain ⟨cs, h1, h2⟩ := h
  exact ⟨cs, h1.below hb, h2⟩
theorem CxAt.lt {W : World} {g n : Nat} {T : Nat → Int × Int} (h : CxAt W g n T) : g < W.heap.size := by
  obtain ⟨cs, h1, _⟩ := h
  exact h1.lt
theorem CxAt.cell {W : World} {g n : Nat} {T : Nat → Int × Int} (h : CxAt W g n T) {j : Nat} (hj : j < n) : W.cell? ⟨g, j, none⟩ = some (cz (T j)) := by
  obtain ⟨cs, h1, _, h2⟩ := h
  exact h1.cell_ (h2 j hj)
theorem CxAt.ext {W : World} {g n : Nat} {T U : Nat → Int × Int} (h : CxAt W g n T) (he : ∀ j, j < n → T j = U j) : CxAt W g n U := by
  obtain ⟨cs, h1, h3, h2⟩ := h
  exact ⟨cs, h1, h3, fun j hj => by rw [← he j hj]; exact h2 j hj⟩
theorem infoCx : (Try.prog.info? 54).map (·.size) = some 1 := by kernel_rfl
theorem cx_index (g n c i : Nat) (hi : i < n) (W : World) : (Instr.indexAt 69 (.slice (some ⟨g, 0, none⟩) n c) (.int .i64 (i : Int))).run Try.prog W = .ok (.pointer (some ⟨g, i, none⟩)) W := by
  obtain ⟨i0, hi0, h1⟩ : ∃ i0, Try.prog.info? 54 = some i0 ∧ i0.size = 1 := by
    have h := infoCx
    cases hq : Try.prog.info? 54 with
    | none => rw [hq] at h; cases h
    | some i => rw [hq] at h; simp at h; exact ⟨i, rfl, h⟩
  have h2 : (0 : Int) ≤ (i : Int) ∧ (i : Int) < (n : Int) := by omega
  simp [Instr.indexAt, run_underlying Try.underlying69, asIntOf, h2, sizeOf, typeInfo, hi0, h1, Addr.add_lit, Int.toNat_natCast]
  intro h; omega
theorem wp_store_cx {w : World} {o : Oper} {a : Act} {K : Act → World → Prop} {Q : Exit → Act → World → Prop} (x y : Operand) (ho : o.op = .store 54 x y)
    (g n i : Nat) (T : Nat → Int × Int) (hg : CxAt w g n T) (hi : i < n) (v : Int × Int) (hx : a.eval x = .pointer (some ⟨g, i, none⟩)) (hy : a.eval y = cz v)
    (h : ∀ w', CxAt w' g n (fun j => if j = i then v else T j) → w.grownBy w' (some g) → K (a.put o.dst undef) w') : o.wp Try.prog a w K Q := by
  obtain ⟨cs, h1, h3, h2⟩ := hg
  refine wp_store_cellM 54 x y ho g i cs 54 h1 (cz v) hx hy infoCx (by omega) rfl rfl fun w' hb hgr => h w' ⟨_, hb, by rw [over_size _ _ _ (by simp; omega), h3], fun j hj => ?_⟩ hgr
  show _ = some (cz (if j = i then v else T j))
  rw [over_get _ _ _ (by simp; omega)]
  by_cases e1 : j < i
  · rw [if_pos e1, if_neg (by omega), h2 j hj]
  · rw [if_neg e1]
    by_cases e2 : j = i
    · subst e2
      rw [if_pos (by simp), if_pos rfl, Nat.sub_self]
      rfl
    · rw [if_neg (by simp; omega), if_neg e2, h2 j hj]
theorem wpList_store_cx {w : World} {ops : Array Oper} {rest : List Oper} {o : Oper} {a : Act} {Q : Exit → Act → World → Prop} (hgd : o.guard = none) (x y : Operand) (ho : o.op = .store 54 x y)
    (g n i : Nat) (T : Nat → Int × Int) (hg : CxAt w g n T) (hi : i < n) (v : Int × Int) (hx : a.eval x = .pointer (some ⟨g, i, none⟩)) (hy : a.eval y = cz v)
    (h : ∀ w', CxAt w' g n (fun j => if j = i then v else T j) → w.grownBy w' (some g) → wpList Try.prog ops Q rest (a.put o.dst undef) w') : wpList Try.prog ops Q (o :: rest) a w :=
  wpList_plain hgd fun _ hK => wp_store_cx x y ho g n i T hg hi v hx hy fun w' h1 h2 => hK _ _ (h w' h1 h2)
theorem cx_made (w : World) (n : Nat) : CxAt (w.alloc (.cells (madeCells #[.complex .f64 0 0] n) 54)) w.heap.size n (fun _ => (0, 0)) := by
  refine ⟨_, Blk.new w _ _, ?_, fun j hj => ?_⟩
  · simp [madeCells]
  · rw [← cz_zero]
    simp [madeCells, hj, Nat.mod_one]
theorem run_make_cx (n : Nat) (hn : n ≤ 256) (w : World) : (Instr.makeSlice 69 (.int .i64 (n : Int)) (.int .i64 (n : Int))).run Try.prog w = .ok (.slice (some ⟨w.heap.size, 0, none⟩) n n) (w.alloc (.cells (madeCells #[.complex .f64 0 0] n) 54)) := by
  have h : (Try.prog.info? 54).map (fun i => (i.zero, i.size, i.bytes)) = some (some (.complex .f64 0 0), 1, 16) := by kernel_rfl
  cases hq : Try.prog.info? 54 with
  | none => rw [hq] at h; cases h
  | some i =>
    rw [hq] at h
    simp only [Option.map_some, Option.some.injEq, Prod.mk.injEq] at h
    obtain ⟨h1, h2, h3⟩ := h
    exact run_make_n 69 54 i (.complex .f64 0 0) Try.underlying69 hq h1 h2 .i64 .i64 n (by rw [h3]; omega) (by omega) w
/-- The tallies of a row's buckets. -/
def bkT (l : List (List UInt8)) (k i : Nat) : Int × Int := talZ (l.filter (fun a => decide (bktN a k = i)))
end Go.Proofs.Ytkajfpincbkfhaa

namespace Go.Proofs.Ytkajfpincbkfhaa
open Go.RowKit Go.Qc Go.Shelf
attribute [local go_sem] txt_size txt_append ib_fold
theorem wrap_two {k : Nat} (hk : k ≤ 8) : wrap64 (2 ^ k) = ((2 ^ k : Nat) : Int) := by
  have h := two_8 hk
  have e : ((2 ^ k : Nat) : Int) = (2 : Int) ^ k := by simp
  rw [← e]
  generalize 2 ^ k = q at *
  unfold wrap64
  omega
theorem bkT_step {l : List (List UInt8)} {m : Nat} {x : List UInt8} (h : l[m]? = some x) (k i : Nat) : bkT (l.take (m + 1)) k i = if i = bktN x k then gmulZ (bkT (l.take m) k i) (idZ x) else bkT (l.take m) k i := by
  unfold bkT
  rw [List.take_add_one, h, List.filter_append]
  show talZ (List.filter _ (l.take m) ++ List.filter _ [x]) = _
  by_cases e : i = bktN x k
  · rw [if_pos e]
    have e1 : List.filter (fun a => decide (bktN a k = i)) [x] = [x] := by simp [e]
    rw [e1, talZ_snoc]
  · rw [if_neg e]
    have e1 : List.filter (fun a => decide (bktN a k = i)) [x] = [] := by simp; omega
    rw [e1, List.append_nil]
theorem bkT_res (l : List (List UInt8)) (k i : Nat) : ResZ (bkT l k i) := talZ_res _
/-- The state of the second walk. -/
structure BkS (w0 : World) (g n : Nat) (T : Nat → Int × Int) (W : World) : Prop where
  t : CxAt W g n T
  b : Below w0.heap.size w0 W
  n1 : w0.heap.size ≤ g
theorem BkS.below {w0 : World} {g n : Nat} {T : Nat → Int × Int} {W W' : World} (h : BkS w0 g n T W) (hb : Below W.heap.size W W') : BkS w0 g n T W' := ⟨h.t.below hb, h.b.trans (hb.mono h.b.size), h.n1⟩
theorem BkS.ext {w0 : World} {g n : Nat} {T U : Nat → Int × Int} {W : World} (h : BkS w0 g n T W) (he : ∀ j, j < n → T j = U j) : BkS w0 g n U W := ⟨h.t.ext he, h.b, h.n1⟩
theorem BkS.put {w0 : World} {g n : Nat} {T U : Nat → Int × Int} {W W' : World} (h : BkS w0 g n T W) (ht : CxAt W' g n U) (hg : W.grownBy W' (some g)) : BkS w0 g n U W' := ⟨ht, below_gM h.b hg h.n1, h.n1⟩
set_option maxRecDepth 100000 in
set_option maxHeartbeats 8000000 in
theorem buckets_gen (A : Option Addr) (n c : Nat) (l : List (List UInt8)) (k : Nat) (hk : k ≤ 8) (N : Nat) (hN : 2 ^ k = N) (w : World) (h : RowR w A n l) :
    Calls Try.prog 36 #[.slice A n c, .int .i64 (k : Int)] w fun e w' => ∃ g, w.heap.size ≤ g ∧ e = .returned (.tuple #[.slice (some ⟨g, 0, none⟩) N N, .int .i64 0]) ∧ CxAt w' g N (bkT l k) ∧ Below w.heap.size w w' := by
  have hN9 : N ≤ 256 := by rw [← hN]; exact two_8 hk
  have hmk := run_make_cx N hN9
  have hw2 := wrap_two hk
  have hn6 := h.2.1
  have hu := Try.underlying24
  rw [hN] at hw2
  have cM : ∀ W, Calls Try.prog 85 #[.int .i64 (k : Int)] W fun e w' => e = .returned (.bool true) ∧ W = w' := fun W => by
    have := maybe_any (k : Int) W
    rw [decide_eq_true ⟨by omega, by omega⟩] at this
    exact this
  have cT : ∀ W, Calls Try.prog 79 #[.slice none 0 0] W fun e w' => e = .returned (cz (1, 0)) ∧ Below W.heap.size W w' := fun W => gtally_any none 0 0 [] W ⟨rfl, by decide, IdRd.nil_ _ _⟩
  have HB : Hid (∀ x, bktN x k < N) := hid (fun x => by rw [← hN]; exact bktN_lt x k)
  have HK := hid hk
  have HN9 := hid hN9
  clear hN hN9
  have H := hid h
  clear h
  go_enter Try.func36, Try.ntmps36
  go_upto_region 4 with (go_at_call 85; (with_reducible refine (cM _).mono ?_); rintro e2 w2 ⟨rfl, rfl⟩)
  have hS0 : BkS w w.heap.size N (fun _ => (0, 0)) (w.alloc (.cells (madeCells #[.complex .f64 0 0] N) 54)) := ⟨cx_made w N, (Below.refl w.heap.size w).alloc (Nat.le_refl _) _, Nat.le_refl _⟩
  obtain ⟨g, hg⟩ : ∃ g, w.heap.size = g := ⟨_, rfl⟩
  have hwg : w.heap.size ≤ g := by omega
  rw [hg] at hS0
  have HW := hid hwg
  simp only [hg]
  clear hwg hmk hw2 cM hk
  generalize w.alloc (.cells (madeCells #[.complex .f64 0 0] N) 54) = w1 at *
  have HG := hid hg
  clear hg
  go_wp2_with (fail)
  go_loopw [19] (fun v wr => ∃ i : Nat, i ≤ N ∧ v = .int .i64 (i : Int) ∧ Hid (BkS w g N (fun j => if j < i then (1, 0) else (0, 0)) wr)) (fun v _ => N - (intOf v).toNat)
  case atStart => exact ⟨0, Nat.zero_le _, rfl, hid ⟨hS0.t.ext (fun j _ => by rw [if_neg (by omega)]), hS0.b, hS0.n1⟩⟩
  case round =>
    clear hS0
    obtain ⟨i, hi, rfl, HS⟩ := hrel
    by_cases hlt : i < N
    · have z1 : (i : Int) < (N : Int) := by omega
      have hq := fun W => cx_index g N N i hlt W
      have q9 := pv_q1 (p := i) (by have := HN9.out; omega)
      have HLT := hid hlt
      clear hlt hi
      go_wp2_with (first
        | (go_at_call 79; (with_reducible refine (cT _).mono ?_); rintro e3 w3 ⟨rfl, hb3⟩; replace HS := hid (HS.out.below hb3))
        | ((with_reducible refine wpList_store_cx rfl _ _ rfl g N i _ HS.out.t HLT.out (1, 0) rfl rfl ?_); intro w9 hB9 hg9))
      go_roundw
      case rel => exact ⟨i + 1, HLT.out, by go_num, hid (HS.out.put (hB9.ext (fun j _ => by by_cases e : j = i <;> by_cases e2 : j < i <;> simp [e, e2] <;> omega)) hg9)⟩
      case measure => first | exact meas_k9 HLT.out | (rw [q9]; exact meas_k9 HLT.out)
    · obtain rfl : i = N := by omega
      have z1 : ¬ (i : Int) < (i : Int) := by omega
      have HS2 : Hid (BkS w g i (bkT (l.take 0) k) wr) := hid ⟨HS.out.t.ext (fun j hj => by rw [if_pos hj]; rfl), HS.out.b, HS.out.n1⟩
      clear HS hlt hi cT
      obtain ⟨w5, hw5⟩ : ∃ u, u = wr := ⟨_, rfl⟩
      subst hw5
      go_wp2_with (fail)
      go_loopw [29] (fun v wr => ∃ m : Nat, m ≤ n ∧ v = .int .i64 (m : Int) ∧ Hid (BkS w g i (bkT (l.take m) k) wr)) (fun v _ => n - (intOf v).toNat)
      case atStart => exact ⟨0, Nat.zero_le _, rfl, HS2⟩
      case round =>
        clear HS2
        obtain ⟨m, hm, rfl, HS⟩ := hrel
        by_cases hlt : m < n
        · have hln := H.out.1
          obtain ⟨x, hx⟩ : ∃ x, l[m]? = some x := ⟨_, List.getElem?_eq_getElem (by omega)⟩
          obtain ⟨gi, q, hgi, lx, hix⟩ := H.out.2.2.pick (k := m) (a := x) c hln hx
          have fg := hgi.below HS.out.b
          have hzx : (Try.prog.info? 24).map (·.size) = some (x.map u8v).length := by rw [List.length_map, lx]; exact sizeId
          have z2 : (m : Int) < (n : Int) := by omega
          have q9 := pv_q1 (p := m) (by omega)
          have HLT := hid hlt
          have HX := hid hx
          have cB : ∀ W, Calls Try.prog 86 #[.agg (List.map u8v x).toArray, .int .i64 (k : Int)] W fun e w' => e = .returned (.int .i64 ((bktN x k : Nat) : Int)) ∧ Below W.heap.size W w' := fun W => bucket_any x lx k HK.out W
          have HBN := hid (HB.out x)
          have HT : Hid (∀ j, (if j = bktN x k then gmulZ (bkT (l.take m) k (bktN x k)) (idZ x) else bkT (l.take m) k j) = bkT (l.take (m + 1)) k j) := hid (fun j => by
            rw [bkT_step hx]
            by_cases e : j = bktN x k
            · rw [if_pos e, if_pos e, e]
            · rw [if_neg e, if_neg e])
          have cO : ∀ W, Calls Try.prog 88 #[.agg (List.map u8v x).toArray] W fun e w' => e = .returned (cz (idZ x)) ∧ Below W.heap.size W w' := fun W => gof_any x lx W
          have cM : ∀ W, Calls Try.prog 87 #[cz (bkT (l.take m) k (bktN x k)), cz (idZ x)] W fun e w' => e = .returned (cz (gmulZ (bkT (l.take m) k (bktN x k)) (idZ x))) ∧ W = w' := fun W => gmul_any _ _ (bkT_res _ _ _) (idZ_res _) W
          obtain ⟨T0, hT0⟩ : ∃ T, bkT (l.take m) k = T := ⟨_, rfl⟩
          obtain ⟨Z, hZ⟩ : ∃ Z, idZ x = Z := ⟨_, rfl⟩
          obtain ⟨B, hB⟩ : ∃ B, bktN x k = B := ⟨_, rfl⟩
          rw [hT0, hZ, hB] at cM HT
          rw [hT0] at HS
          rw [hB] at cB HBN
          rw [hZ] at cO
          have HGX : Hid (g < wr.heap.size) := hid HS.out.t.lt
          clear hlt hm hx hgi hln hT0 hZ hB
          go_upto_region 13 with (first
            | (with_reducible refine wpList_load_if (by with_unfolding_all rfl) 24 _ rfl _ _ rfl (x.map u8v) _ fg hu rfl hzx ?_)
            | ((with_reducible refine wpList_store_newid rfl _ _ rfl x lx rfl rfl (by with_unfolding_all rfl) ?_); intro w3 hx3 hb3)
            | (with_reducible refine wpList_load_if (by with_unfolding_all rfl) 24 _ rfl _ _ rfl (x.map u8v) _ hx3 hu rfl hzx ?_)
            | (go_at_call 86; (with_reducible refine (cB _).mono ?_); rintro e4 w4 ⟨rfl, hb4⟩))
          replace hx3 := (hx3.below hb4).below (below_drew1 w4)
          have HSd := hid (((HS.out.below hb3).below hb4).below (below_drew1 w4))
          obtain ⟨gx, hgx⟩ : ∃ gx, wr.heap.size = gx := ⟨_, rfl⟩
          rw [hgx] at hx3 HGX
          simp only [hgx]
          clear HS hb3 hb4 hgx fg
          refine wp_region_held_drew (S := fun W => W.rangeAt gx 0 (x.map u8v)) (by kernel_rfl) ?_ (fun hHeld => ?_)
          · exact hx3
          refine' wpAnyH_take (i := 0) (v := .slice (some ⟨g, 0, none⟩) i i) rfl (by kernel_rfl) (by kernel_rfl) (by kernel_rfl) (fun _ _ _ h => h) (Or.inl ⟨by rfl, fun w' hw' => by go_simp⟩) hHeld ?_
          try simp only [Act.put, List.getElem_toArray, List.getElem_cons_succ, List.getElem_cons_zero, List.setIfInBounds_toArray, List.set_cons_zero, List.set_cons_succ]
          refine' wpAnyH_take (i := 1) (v := .int .i64 (B : Int)) rfl (by kernel_rfl) (by kernel_rfl) (by kernel_rfl) (fun _ _ _ h => h) (Or.inl ⟨by rfl, fun w' hw' => by go_simp⟩) hHeld ?_
          try simp only [Act.put, List.getElem_toArray, List.getElem_cons_succ, List.getElem_cons_zero, List.setIfInBounds_toArray, List.set_cons_zero, List.set_cons_succ]
          refine' wpAnyH_take (i := 2) (v := .slice (some ⟨g, 0, none⟩) i i) rfl (by kernel_rfl) (by kernel_rfl) (by kernel_rfl) (fun _ _ _ h => h) (Or.inl ⟨by rfl, fun w' hw' => by go_simp⟩) hHeld ?_
          try simp only [Act.put, List.getElem_toArray, List.getElem_cons_succ, List.getElem_cons_zero, List.setIfInBounds_toArray, List.set_cons_zero, List.set_cons_succ]
          refine' wpAnyH_take (i := 3) (v := .int .i64 (B : Int)) rfl (by kernel_rfl) (by kernel_rfl) (by kernel_rfl) (fun _ _ _ h => h) (Or.inl ⟨by rfl, fun w' hw' => by go_simp⟩) hHeld ?_
          try simp only [Act.put, List.getElem_toArray, List.getElem_cons_succ, List.getElem_cons_zero, List.setIfInBounds_toArray, List.set_cons_zero, List.set_cons_succ]
          refine' wpAnyH_take (i := 4) (v := .pointer (some ⟨g, B, none⟩)) rfl (by kernel_rfl) (by kernel_rfl) (by kernel_rfl) (fun _ _ _ h => h) (Or.inl ⟨by rfl, fun w' hw' => by have hv := cx_index g i i B HBN.out w'; go_simp⟩) hHeld ?_
          try simp only [Act.put, List.getElem_toArray, List.getElem_cons_succ, List.getElem_cons_zero, List.setIfInBounds_toArray, List.set_cons_zero, List.set_cons_succ]
          refine' wpAnyH_take (i := 6) (v := _) rfl (by kernel_rfl) (by kernel_rfl) (by kernel_rfl) (fun _ _ _ h => h) (yieldsIf_load_mid (by rfl) 24 _ rfl _ _ rfl (x.map u8v) _ (fun w' h => h) hu rfl hzx) hHeld ?_
          try simp only [Act.put, List.getElem_toArray, List.getElem_cons_succ, List.getElem_cons_zero, List.setIfInBounds_toArray, List.set_cons_zero, List.set_cons_succ]
          refine wpAnyH_ready (rs := [5, 7]) (by kernel_rfl) (by simp) ?_
          refine AllReadyH.cons rfl (fun K hK => ?_) (AllReadyH.cons rfl (fun K hK => ?_) AllReadyH.nil)
          · have fA := HSd.out.t.cell HBN.out
            go_simp
            refine hK.out _ _ hHeld (fun hHeld => ?_)
            clear hK K fA
            try simp only [Act.put, List.getElem_toArray, List.getElem_cons_succ, List.getElem_cons_zero, List.setIfInBounds_toArray, List.set_cons_zero, List.set_cons_succ]
            refine wpAnyH_ready (rs := [7]) (by kernel_rfl) (by simp) ?_
            refine AllReadyH.cons rfl (fun K hK => ?_) AllReadyH.nil
            go_simp
            (with_reducible refine (cO _).mono ?_)
            rintro e6 w6 ⟨rfl, hb6⟩
            replace HSd := hid (HSd.out.below hb6)
            refine hK.out _ _ (hHeld.below hb6) (fun hHeld => ?_)
            clear hK K hb6
            try simp only [Act.put, List.getElem_toArray, List.getElem_cons_succ, List.getElem_cons_zero, List.setIfInBounds_toArray, List.set_cons_zero, List.set_cons_succ]
            refine wpAnyH_ready (rs := [8]) (by kernel_rfl) (by simp) ?_
            refine AllReadyH.cons rfl (fun K hK => ?_) AllReadyH.nil
            go_simp
            (with_reducible refine (cM _).mono ?_)
            rintro e7 w7 ⟨rfl, rfl⟩
            refine hK.out _ _ hHeld (fun hHeld => ?_)
            clear hK K
            try simp only [Act.put, List.getElem_toArray, List.getElem_cons_succ, List.getElem_cons_zero, List.setIfInBounds_toArray, List.set_cons_zero, List.set_cons_succ]
            refine' wpAnyH_take (i := 9) (v := .pointer (some ⟨g, B, none⟩)) rfl (by kernel_rfl) (by kernel_rfl) (by kernel_rfl) (fun _ _ _ h => h) (Or.inl ⟨by rfl, fun w' hw' => by have hv := cx_index g i i B HBN.out w'; go_simp⟩) hHeld ?_
            try simp only [Act.put, List.getElem_toArray, List.getElem_cons_succ, List.getElem_cons_zero, List.setIfInBounds_toArray, List.set_cons_zero, List.set_cons_succ]
            refine wpAnyH_ready (rs := [10]) (by kernel_rfl) (by simp) ?_
            refine AllReadyH.cons rfl (fun K hK => ?_) AllReadyH.nil
            refine wp_store_cx _ _ rfl g i B _ HSd.out.t HBN.out (gmulZ (T0 B) Z) rfl rfl ?_
            intro w10 ho10 hg10
            replace HSd := hid (HSd.out.put ho10 hg10)
            refine hK.out _ _ (range_gM hHeld hg10 HGX.out) (fun hHeld => ?_)
            clear hK K ho10 hg10
            try simp only [Act.put, List.getElem_toArray, List.getElem_cons_succ, List.getElem_cons_zero, List.setIfInBounds_toArray, List.set_cons_zero, List.set_cons_succ]
            refine wpAnyH_done (by kernel_rfl) ?_ _
            go_wp2_with (fail)
            go_roundw
            case rel => exact ⟨m + 1, HLT.out, by go_num, hid (HSd.out.ext (fun j hj => HT.out j))⟩
            case measure => first | exact meas_k9 HLT.out | (rw [q9]; exact meas_k9 HLT.out)
          · go_simp
            (with_reducible refine (cO _).mono ?_)
            rintro e6 w6 ⟨rfl, hb6⟩
            replace HSd := hid (HSd.out.below hb6)
            refine hK.out _ _ (hHeld.below hb6) (fun hHeld => ?_)
            clear hK K hb6
            try simp only [Act.put, List.getElem_toArray, List.getElem_cons_succ, List.getElem_cons_zero, List.setIfInBounds_toArray, List.set_cons_zero, List.set_cons_succ]
            refine wpAnyH_ready (rs := [5]) (by kernel_rfl) (by simp) ?_
            refine AllReadyH.cons rfl (fun K hK => ?_) AllReadyH.nil
            have fA := HSd.out.t.cell HBN.out
            go_simp
            refine hK.out _ _ hHeld (fun hHeld => ?_)
            clear hK K fA
            try simp only [Act.put, List.getElem_toArray, List.getElem_cons_succ, List.getElem_cons_zero, List.setIfInBounds_toArray, List.set_cons_zero, List.set_cons_succ]
            refine wpAnyH_ready (rs := [8]) (by kernel_rfl) (by simp) ?_
            refine AllReadyH.cons rfl (fun K hK => ?_) AllReadyH.nil
            go_simp
            (with_reducible refine (cM _).mono ?_)
            rintro e7 w7 ⟨rfl, rfl⟩
            refine hK.out _ _ hHeld (fun hHeld => ?_)
            clear hK K
            try simp only [Act.put, List.getElem_toArray, List.getElem_cons_succ, List.getElem_cons_zero, List.setIfInBounds_toArray, List.set_cons_zero, List.set_cons_succ]
            refine' wpAnyH_take (i := 9) (v := .pointer (some ⟨g, B, none⟩)) rfl (by kernel_rfl) (by kernel_rfl) (by kernel_rfl) (fun _ _ _ h => h) (Or.inl ⟨by rfl, fun w' hw' => by have hv := cx_index g i i B HBN.out w'; go_simp⟩) hHeld ?_
            try simp only [Act.put, List.getElem_toArray, List.getElem_cons_succ, List.getElem_cons_zero, List.setIfInBounds_toArray, List.set_cons_zero, List.set_cons_succ]
            refine wpAnyH_ready (rs := [10]) (by kernel_rfl) (by simp) ?_
            refine AllReadyH.cons rfl (fun K hK => ?_) AllReadyH.nil
            refine wp_store_cx _ _ rfl g i B _ HSd.out.t HBN.out (gmulZ (T0 B) Z) rfl rfl ?_
            intro w10 ho10 hg10
            replace HSd := hid (HSd.out.put ho10 hg10)
            refine hK.out _ _ (range_gM hHeld hg10 HGX.out) (fun hHeld => ?_)
            clear hK K ho10 hg10
            try simp only [Act.put, List.getElem_toArray, List.getElem_cons_succ, List.getElem_cons_zero, List.setIfInBounds_toArray, List.set_cons_zero, List.set_cons_succ]
            refine wpAnyH_done (by kernel_rfl) ?_ _
            go_wp2_with (fail)
            go_roundw
            case rel => exact ⟨m + 1, HLT.out, by go_num, hid (HSd.out.ext (fun j hj => HT.out j))⟩
            case measure => first | exact meas_k9 HLT.out | (rw [q9]; exact meas_k9 HLT.out)
        · obtain rfl : m = n := by omega
          have z2 : ¬ (m : Int) < (m : Int) := by omega
          have HF : Hid (BkS w g i (bkT l k) wr) := hid (by
            have := HS.out
            rw [← H.out.1, List.take_length] at this
            exact this)
          clear HS hlt hm
          go_wp2_with (fail)
          go_ret2
          exact ⟨g, HW.out, rfl, HF.out.t, HF.out.b⟩
end Go.Proofs.Ytkajfpincbkfhaa

namespace Go.Proofs.Ytkajfpincbkfhaa
open Go.RowKit Go.Qc Go.Shelf
attribute [local go_sem] txt_size txt_append ib_fold
theorem run_cz_neq (t : TypeId) (x y : Int × Int) (hx : ResZ x) (hy : ResZ y) (w : World) : (binOp .neq t (cz x) (cz y)).run Try.prog w = .ok (.bool (!decide (x = y))) w := by
  obtain ⟨x0, x1, x2, x3⟩ := hx
  obtain ⟨y0, y1, y2, y3⟩ := hy
  unfold cz
  rw [run_neq_complex, fl_eqb _ _ (by omega) (by omega), fl_eqb _ _ (by omega) (by omega)]
  congr 3
  obtain ⟨a, b⟩ := x
  obtain ⟨c, d⟩ := y
  by_cases h1 : a = c
  · by_cases h2 : b = d <;> simp [h1, h2]
  · simp [h1]
/-- A row of numbers of one's own. -/
def ntV (L : List Nat) : List Value := L.map fun (i : Nat) => Value.int .i64 (i : Int)
def NtOw (W : World) (base : Nat) (v : Value) (L : List Nat) : Prop := W.ownsRow base 3 1 v L.length (ntV L)
theorem NtOw.nil (W : World) (base : Nat) : NtOw W base (.slice none 0 0) [] := ⟨rfl, .inl ⟨rfl, rfl⟩⟩
theorem NtOw.sl {W : World} {base : Nat} {v : Value} {L : List Nat} (h : NtOw W base v L) : ∃ A c, v = .slice A L.length c := by
  rcases h.2 with ⟨rfl, h0⟩ | ⟨g, c, cur, rfl, _⟩
  · exact ⟨none, 0, by rw [h0]⟩
  · exact ⟨_, _, rfl⟩
theorem NtOw.first {W : World} {base : Nat} {v : Value} {i : Nat} (h : NtOw W base v [i]) : ∃ g c, v = .slice (some ⟨g, 0, none⟩) 1 c ∧ W.cell? ⟨g, 0, none⟩ = some (.int .i64 (i : Int)) := by
  rcases h.2 with ⟨rfl, h0⟩ | ⟨g, c, cur, rfl, _, hg, h3, _, _, ht⟩
  · cases h0
  · refine ⟨g, c, rfl, ?_⟩
    have h9 : (cur.toList.take 1)[0]? = some (.int .i64 (i : Int)) := by
      have : cur.toList.take (1 * 1) = ntV [i] := ht
      rw [show (1 * 1 : Nat) = 1 from rfl] at this
      rw [this]; rfl
    rw [List.getElem?_take, if_pos (by decide), Array.getElem?_toList] at h9
    rw [cell_of_row W g 0 cur _ _ hg]
    exact h9
theorem infoNt : (Try.prog.info? 3).map (fun i => (i.zero, i.size, i.bytes)) = some (some (.int .i64 0), 1, 8) := by kernel_rfl
theorem infoNt_parts : ∃ i, Try.prog.info? 3 = some i ∧ i.zero = some (.int .i64 0) ∧ i.size = 1 ∧ i.bytes = 8 := by
  have h := infoNt
  cases hq : Try.prog.info? 3 with
  | none => rw [hq] at h; cases h
  | some i =>
    rw [hq] at h
    simp only [Option.map_some, Option.some.injEq, Prod.mk.injEq] at h
    exact ⟨i, rfl, h.1, h.2.1, h.2.2⟩
theorem nt_index (g n c i : Nat) (hi : i < n) (W : World) : (Instr.indexAt 39 (.slice (some ⟨g, 0, none⟩) n c) (.int .i64 (i : Int))).run Try.prog W = .ok (.pointer (some ⟨g, i, none⟩)) W := by
  obtain ⟨i0, hi0, _, h1, _⟩ := infoNt_parts
  have h2 : (0 : Int) ≤ (i : Int) ∧ (i : Int) < (n : Int) := by omega
  simp [Instr.indexAt, run_underlying Try.underlying39, asIntOf, h2, sizeOf, typeInfo, hi0, h1, Addr.add_lit, Int.toNat_natCast]
  intro h; omega
theorem wpList_append_nt {w : World} {ops : Array Oper} {rest : List Oper} {o : Oper} {a : Act} {Q : Exit → Act → World → Prop} (hgd : o.guard = none) (s x : Operand)
    (ho : o.op = .call { callee := .builtin .append, args := #[s, x], argTypes := #[39, 39] })
    (base : Nat) (v : Value) (L : List Nat) (hs : a.eval s = v) (hown : NtOw w base v L) (g i : Nat) (hx : a.eval x = .slice (some ⟨g, 0, none⟩) 1 1) (hc : w.cell? ⟨g, 0, none⟩ = some (.int .i64 (i : Int)))
    (hn : L.length + 1 ≤ 1000000) (hbase : base ≤ w.heap.size)
    (h : ∀ v' w', NtOw w' base v' (L ++ [i]) → w.grownBy w' v.ownBlock → wpList Try.prog ops Q rest (a.put o.dst v') w') : wpList Try.prog ops Q (o :: rest) a w := by
  obtain ⟨j0, hj, hjz, hjs, hjb⟩ := infoNt_parts
  refine wpList_append_own _ hgd s x 39 ho base 3 j0 (.int .i64 0) 1 8 Try.underlying39 hj hjz hjs hjb rfl (by decide) v L.length (ntV L) hs hown ⟨g, 0, none⟩ 1 1 [.int .i64 (i : Int)] hx rfl ?_ (by intro u hu; rw [List.mem_singleton.1 hu]; rfl) (by unfold maxLen; omega) (by omega) hbase (fun v' w' h1 h2 _ => h v' w' ?_ h2)
  · intro j u hj'
    have : j = 0 := by have := (List.getElem?_eq_some_iff.1 hj').1; simp at this; omega
    subst this
    rw [Addr.add_lit]
    rw [← hj']
    exact hc
  · unfold NtOw ntV
    rw [List.length_append, List.map_append]
    exact h1
theorem NtOw.grown {W W' : World} {base B : Nat} {v : Value} {L : List Nat} (h : NtOw W base v L) (hg : W.grownBy W' v.ownBlock) (hB : B ≤ base) {w : World} (hb : Below B w W) (hs : B ≤ W.heap.size) : Below B w W' :=
  hb.grown hg hs (by intro k hk; have := (World.ownsRow.lt h k hk).1; omega)
/-- The places where two rows differ. -/
def unL (T U : Nat → Int × Int) (n : Nat) : List Nat := (List.range n).filter fun i => !decide (T i = U i)
theorem unL_step (T U : Nat → Int × Int) (n : Nat) : unL T U (n + 1) = if T n = U n then unL T U n else unL T U n ++ [n] := by
  unfold unL
  rw [List.range_succ, List.filter_append]
  by_cases e : T n = U n
  · rw [if_pos e]; simp [e]
  · rw [if_neg e]; simp [e]
theorem unL_len (T U : Nat → Int × Int) (n : Nat) : (unL T U n).length ≤ n := Nat.le_trans (List.length_filter_le _ _) (by rw [List.length_range]; omega)
set_option maxRecDepth 100000 in
set_option maxHeartbeats 8000000 in
theorem unlike_no (A B : Option Addr) (n c m d : Nat) (hnm : n ≠ m) (w : World) :
    Calls Try.prog 40 #[.slice A n c, .slice B m d] w fun e w' => e = .returned (.tuple #[.slice none 0 0, .int .i64 3]) ∧ w = w' := by
  have z1 : ((n : Int) != (m : Int)) = true := by simp; omega
  go_enter Try.func40, Try.ntmps40
  go_wp2_with (fail)
  go_ret2
  exact ⟨rfl, rfl⟩
set_option maxRecDepth 100000 in
set_option maxHeartbeats 8000000 in
theorem unlike_any (g q n : Nat) (hn : n ≤ 256) (T U : Nat → Int × Int) (hT : ∀ i, ResZ (T i)) (hU : ∀ i, ResZ (U i)) (w : World) (h1 : CxAt w g n T) (h2 : CxAt w q n U) :
    Calls Try.prog 40 #[.slice (some ⟨g, 0, none⟩) n n, .slice (some ⟨q, 0, none⟩) n n] w fun e w' => ∃ v, e = .returned (.tuple #[v, .int .i64 0]) ∧ NtOw w' w.heap.size v (unL T U n) ∧ Below w.heap.size w w' := by
  have mixed : Try.prog.follows .mixedOrders = true := by kernel_rfl
  have H1 := hid h1
  have H2 := hid h2
  have HT := hid hT
  have HU := hid hU
  have HN := hid hn
  clear h1 h2 hT hU hn
  go_enter Try.func40, Try.ntmps40
  go_wp2_with (fail)
  go_loopw [6, 15] (fun u v wr => ∃ (i : Nat) (u9 : Value), i ≤ n ∧ u9 = u ∧ v = .int .i64 (i : Int) ∧ Hid (NtOw wr w.heap.size u9 (unL T U i)) ∧ Below w.heap.size w wr) (fun _ v _ => n - (intOf v).toNat)
  case atStart => exact ⟨0, _, Nat.zero_le _, rfl, rfl, hid (NtOw.nil _ _), Below.refl _ _⟩
  case round =>
    obtain ⟨i, uu, hi, rfl, rfl, HO, hb⟩ := hrel
    by_cases hlt : i < n
    · have z1 : (i : Int) < (n : Int) := by omega
      have q9 := pv_q1 (p := i) (by have := HN.out; omega)
      have f1 : ∀ p : LaterW wr, p.w.cell? ⟨g, i, none⟩ = some (cz (T i)) := fun p => ((H1.out.below hb).below p.h).cell hlt
      have f2 : ∀ p : LaterW wr, p.w.cell? ⟨q, i, none⟩ = some (cz (U i)) := fun p => ((H2.out.below hb).below p.h).cell hlt
      have x1 := fun W => cx_index g n n i hlt W
      have x2 := fun W => cx_index q n n i hlt W
      obtain ⟨t, ht⟩ : ∃ t, decide (T i = U i) = t := ⟨_, rfl⟩
      have he1 : ∀ W, (binOp .neq 54 (cz (T i)) (cz (U i))).run Try.prog W = .ok (.bool (!t)) W := fun W => by rw [← ht]; exact run_cz_neq 54 _ _ (HT.out i) (HU.out i) W
      have he0 : ∀ W a b, (eqGuard .neq 54 a b (cz (T i)) (cz (U i))).run Try.prog W = .ok () W := fun W a b => guard_cz .neq 54 a b _ _ W
      have HLT := hid hlt
      have HBB := hid hb
      have HL := hid (unL_len T U i)
      have HD : Hid (decide (T i = U i) = t) := hid ht
      generalize cz (T i) = TV at *
      generalize cz (U i) = UV at *
      clear hlt hi hb ht
      cases t with
      | true =>
        have HS : Hid (unL T U (i + 1) = unL T U i) := hid (by rw [unL_step, if_pos (of_decide_eq_true HD.out)])
        go_upto_region 7 with (fail)
        refine wp_region_later mixed (by kernel_rfl) ?_
        repeat (first
          | ((with_reducible refine wpQuiet_skip (by with_unfolding_all rfl) ?_); simp only [Act.put, List.setIfInBounds_toArray, List.set_cons_zero, List.set_cons_succ])
          | ((with_reducible refine wpQuiet_step (fun K hK => ?_)); go_simp; first | ((with_reducible refine hK _ ?_); clear hK K)))
        with_reducible refine wpQuiet_nil ?_
        intro _ hw'
        obtain ⟨p9, rfl⟩ := hw'
        have hp9 := p9.h
        generalize p9.w = w3 at *
        have HP9 := hid hp9
        replace hp9 := HBB.out.trans (hp9.mono HBB.out.size)
        clear f1 f2 he0 he1 x1 x2
        go_wp2_with (fail)
        go_roundw
        case rel => exact ⟨i + 1, _, HLT.out, rfl, by go_num, hid (by rw [HS.out]; exact own_below HO.out HP9.out), hp9⟩
        case measure => first | exact meas_k9 HLT.out | (rw [q9]; exact meas_k9 HLT.out)
      | false =>
        have HS : Hid (unL T U (i + 1) = unL T U i ++ [i]) := hid (by rw [unL_step, if_neg (of_decide_eq_false HD.out)])
        go_upto_region 7 with (fail)
        refine wp_region_later mixed (by kernel_rfl) ?_
        repeat (first
          | ((with_reducible refine wpQuiet_skip (by with_unfolding_all rfl) ?_); simp only [Act.put, List.setIfInBounds_toArray, List.set_cons_zero, List.set_cons_succ])
          | ((with_reducible refine wpQuiet_step (fun K hK => ?_)); go_simp; first | ((with_reducible refine hK _ ?_); clear hK K)))
        with_reducible refine wpQuiet_nil ?_
        intro _ hw'
        obtain ⟨p9, rfl⟩ := hw'
        have hp9 := p9.h
        generalize p9.w = w3 at *
        have HO3 : Hid (NtOw w3 w.heap.size uu (unL T U i)) := hid (own_below HO.out hp9)
        replace hp9 := HBB.out.trans (hp9.mono HBB.out.size)
        have hb3 := hp9.size
        have HP := hid hp9
        clear f1 f2 he0 he1 x1 x2 hp9
        have HLIM : (unL T U i).length + 1 ≤ 1000000 := by have := HL.out; have := HN.out; have := HLT.out; omega
        have hal := (Below.refl w3.heap.size w3).alloc (Nat.le_refl _) (.cells #[.int .i64 (i : Int)] 3)
        have hc9 : (w3.alloc (.cells #[.int .i64 (i : Int)] 3)).cell? ⟨w3.heap.size, 0, none⟩ = some (.int .i64 (i : Int)) := (Blk.new w3 3 #[.int .i64 (i : Int)]).cell_ rfl
        have HO4 : NtOw (w3.alloc (.cells #[.int .i64 (i : Int)] 3)) w.heap.size uu (unL T U i) := own_below HO3.out hal
        have hb4 : w.heap.size ≤ (w3.alloc (.cells #[.int .i64 (i : Int)] 3)).heap.size := Nat.le_trans hb3 hal.size
        have HA := hid hal
        have HO5 := hid HO4
        have HC5 := hid hc9
        have HL5 := hid HLIM
        have HB5 := hid hb4
        clear hal HO4 hc9 HLIM hb4
        go_wp2_with (first
          | (at_builtin; refine wpList_append_nt rfl _ _ rfl w.heap.size _ _ rfl HO5.out _ i rfl HC5.out HL5.out HB5.out ?_; intro v8 w8 hown8 hg8))
        go_roundw
        case rel => exact ⟨i + 1, _, HLT.out, rfl, by go_num, hid (by rw [HS.out]; exact hown8), NtOw.grown HO5.out hg8 (Nat.le_refl _) (HP.out.trans (HA.out.mono HP.out.size)) HB5.out⟩
        case measure => first | exact meas_k9 HLT.out | (rw [q9]; exact meas_k9 HLT.out)
    · obtain rfl : i = n := by omega
      have z1 : ¬ (i : Int) < (i : Int) := by omega
      have HBB := hid hb
      clear hlt hi hb
      go_wp2_with (fail)
      go_ret2
      exact ⟨_, rfl, HO.out, HBB.out⟩
end Go.Proofs.Ytkajfpincbkfhaa

namespace Go.Proofs.Ytkajfpincbkfhaa
open Go.RowKit Go.Qc Go.Shelf
attribute [local go_sem] txt_size txt_append ib_fold
/-- The ids of a bucket. -/
def inL (l : List (List UInt8)) (k : Nat) (t : Int) : List (List UInt8) := l.filter fun a => decide (((bktN a k : Nat) : Int) = t)
theorem inL_step {l : List (List UInt8)} {m : Nat} {x : List UInt8} (h : l[m]? = some x) (k : Nat) (t : Int) : inL (l.take (m + 1)) k t = if ((bktN x k : Nat) : Int) = t then inL (l.take m) k t ++ [x] else inL (l.take m) k t := by
  unfold inL
  rw [List.take_add_one, h, List.filter_append]
  show _ ++ List.filter _ [x] = _
  by_cases e : ((bktN x k : Nat) : Int) = t
  · rw [if_pos e]; simp [e]
  · rw [if_neg e]; simp [e]
theorem inL_len (l : List (List UInt8)) (m k : Nat) (t : Int) : (inL (l.take m) k t).length ≤ m := Nat.le_trans (List.length_filter_le _ _) (by rw [List.length_take]; omega)
theorem inL_32 {l : List (List UInt8)} (k : Nat) (t : Int) (h : ∀ a ∈ l, a.length = 32) : ∀ a ∈ inL l k t, a.length = 32 := fun a ha => h a (List.mem_filter.1 ha).1
set_option maxRecDepth 100000 in
set_option maxHeartbeats 8000000 in
theorem rin23_any (A : Option Addr) (n c : Nat) (l : List (List UInt8)) (k : Nat) (hk : k ≤ 8) (t : Int) (w : World) (h : RowC w A n c l) :
    Calls Try.prog 39 #[.slice A n c, .int .i64 (k : Int), .int .i64 t] w fun e w' => ∃ v, e = .returned v ∧ IdOw w' w.heap.size v (inL l k t).length (inL l k t) ∧ Below w.heap.size w w' := by
  have hu := Try.underlying24
  have hn6 := h.1.2.1
  have H := hid h
  have HK := hid hk
  clear h hk
  go_enter Try.func39, Try.ntmps39
  go_upto_region 2 with (fail)
  have hO0 : Hid (IdOw (w.alloc (.cells #[] 24)) w.heap.size (.slice (some ⟨w.heap.size, 0, none⟩) 0 0) 0 []) := hid (IdOw.made w)
  have hb0 : Hid (Below w.heap.size w (w.alloc (.cells #[] 24))) := hid ((Below.refl _ _).alloc (Nat.le_refl _) _)
  generalize w.alloc (.cells #[] 24) = w1 at *
  go_wp2_with (fail)
  go_loopw [7, 8] (fun u v wr => ∃ (m : Nat) (u9 : Value), m ≤ n ∧ u9 = u ∧ v = .int .i64 (m : Int) ∧ Hid (IdOw wr w.heap.size u9 (inL (l.take m) k t).length (inL (l.take m) k t)) ∧ Hid (Below w.heap.size w wr)) (fun _ v _ => n - (intOf v).toNat)
  case atStart => exact ⟨0, _, Nat.zero_le _, rfl, rfl, hO0, hb0⟩
  case round =>
    clear hO0 hb0
    obtain ⟨m, u9, hm, rfl, rfl, HO, HB⟩ := hrel
    obtain ⟨w5, hw5⟩ : ∃ u, u = wr := ⟨_, rfl⟩
    subst hw5
    by_cases hlt : m < n
    · have hln := H.out.1.1
      obtain ⟨x, hx⟩ : ∃ x, l[m]? = some x := ⟨_, List.getElem?_eq_getElem (by omega)⟩
      obtain ⟨gi, q, hgi, lx, hix⟩ := H.out.1.2.2.pick (k := m) (a := x) c hln hx
      have hzx : (Try.prog.info? 24).map (·.size) = some (x.map u8v).length := by rw [List.length_map, lx]; exact sizeId
      have fg := hgi.below HB.out
      have z2 : (m : Int) < (n : Int) := by omega
      have q9 := pv_q1 (p := m) (by omega)
      have HLT := hid hlt
      have HX := hid hx
      have HL := hid (inL_len l m k t)
      have HGI := hid hgi
      clear hlt hm hx hgi hln
      go_wp2_with (fail)
      go_loopw [9, 10] (fun u v wr => ∃ b : Nat, b ≤ k ∧ u = .int .i64 ((bktN x b : Nat) : Int) ∧ v = .int .i64 (b : Int) ∧ Hid (Below w5.heap.size w5 wr)) (fun _ v _ => k - (intOf v).toNat)
      case atStart => exact ⟨0, Nat.zero_le _, rfl, rfl, hid (Below.refl _ _)⟩
      case round =>
        obtain ⟨b, hb, rfl, rfl, HB2⟩ := hrel
        have fg2 := fg.below HB2.out
        by_cases hlt : b < k
        · have hb8 : b < 8 := by have := HK.out; omega
          obtain ⟨q1, q2, q3⟩ := bk_step (a := x) hb8
          have cB : ∀ W, Calls Try.prog 89 #[.agg (List.map u8v x).toArray, .int .i64 (b : Int)] W fun e w' => e = .returned (.int .i64 (bitZ x b : Nat)) ∧ Below W.heap.size W w' := fun W => rbit6_any x lx b (Nat.lt_of_lt_of_le hb8 (by decide)) W
          have z1 : (b : Int) < (k : Int) := Int.ofNat_lt.2 hlt
          have HLB := hid hlt
          obtain ⟨N1, hN1⟩ : ∃ N, bktN x (b + 1) = N := ⟨_, rfl⟩
          have HN1 := hid hN1
          rw [hN1] at q2
          generalize bktN x b = N at *
          generalize bitZ x b = D at *
          clear hlt hb hb8 hN1 fg
          go_wp2_with (first
            | (with_reducible refine wpList_load_if (by with_unfolding_all rfl) 24 _ rfl _ _ rfl (x.map u8v) _ fg2 hu rfl hzx ?_)
            | (go_at_call 89; (with_reducible refine (cB _).mono ?_); rintro e3 w3 ⟨rfl, hb3⟩))
          go_roundw
          case rel => exact ⟨b + 1, HLB.out, by rw [HN1.out]; first | rw [q2] | rfl, by go_num, hid (HB2.out.trans (hb3.mono HB2.out.size))⟩
          case measure => first | exact bk_meas HLB.out | (rw [q3]; exact bk_meas HLB.out)
        · obtain rfl : b = k := by omega
          have z1 : ¬ (b : Int) < (b : Int) := by omega
          have HB3 : Hid (Below w.heap.size w wr) := hid (HB.out.trans (HB2.out.mono HB.out.size))
          have HO3 : Hid (IdOw wr w.heap.size u9 (inL (l.take m) b t).length (inL (l.take m) b t)) := hid (own_below HO.out HB2.out)
          have hsz := HB3.out.size
          clear HB HO hlt hb fg HB2
          by_cases e : ((bktN x b : Nat) : Int) = t
          · have HS : Hid (inL (l.take (m + 1)) b t = inL (l.take m) b t ++ [x]) := hid (by rw [inL_step HX.out, if_pos e])
            have HE : Hid ((inL (l.take (m + 1)) b t).length = (inL (l.take m) b t).length + 1) := hid (by rw [HS.out, List.length_append]; rfl)
            have HLM : Hid ((inL (l.take m) b t).length + 1 ≤ 1000000) := hid (by have := HL.out; have := HLT.out; omega)
            generalize inL (l.take m) b t = M at *
            obtain ⟨ML, hML⟩ : ∃ L, M.length = L := ⟨_, rfl⟩
            rw [hML] at HO3 HE HLM
            clear hML
            go_wp2_with (first
              | (with_reducible refine wpList_load_if (by with_unfolding_all rfl) 24 _ rfl _ _ rfl (x.map u8v) _ fg2 hu rfl hzx ?_)
              | ((with_reducible refine wpList_build1i rfl _ rfl x lx rfl ?_); intro cs hrow; have HAL := hid ((Below.refl wr.heap.size wr).alloc (Nat.le_refl _) (.cells cs 24)); have HO4 : Hid (IdOw (wr.alloc (.cells cs 24)) w.heap.size u9 ML M) := hid (own_below HO3.out HAL.out); have HRO := hid hrow; clear hrow)
              | (at_builtin; refine wpList_append_idw rfl _ _ rfl w.heap.size _ _ _ rfl HO4.out (some ⟨wr.heap.size, 0, none⟩) 1 1 [x] rfl rfl (fun h => by cases h) HRO.out HLM.out (Nat.le_trans hsz HAL.out.size) ?_; intro v8 w8 hown8 hg8; have HB8 := hid (IdOw.grown HO4.out hg8 (Nat.le_refl _) (HB3.out.trans (HAL.out.mono hsz)) (Nat.le_trans hsz HAL.out.size)); have HO8 := hid hown8; clear hown8 hg8))
            go_roundw
            case rel => exact ⟨m + 1, _, HLT.out, rfl, by go_num, by rw [HE.out, HS.out]; exact HO8, HB8⟩
            case measure => first | exact meas_k9 HLT.out | (rw [q9]; exact meas_k9 HLT.out)
          · have HS : Hid (inL (l.take (m + 1)) b t = inL (l.take m) b t) := hid (by rw [inL_step HX.out, if_neg e])
            go_wp2_with (fail)
            go_roundw
            case rel => exact ⟨m + 1, _, HLT.out, rfl, by go_num, by rw [HS.out]; exact HO3, HB3⟩
            case measure => first | exact meas_k9 HLT.out | (rw [q9]; exact meas_k9 HLT.out)
    · obtain rfl : m = n := by omega
      have z2 : ¬ (m : Int) < (m : Int) := by omega
      have HF : Hid (IdOw w5 w.heap.size u9 (inL l k t).length (inL l k t)) := hid (by
        have := HO.out
        rw [← H.out.1.1, List.take_length] at this
        exact this)
      clear HO hlt hm
      go_wp2_with (fail)
      go_ret
      exact ⟨_, rfl, HF.out, HB.out⟩
end Go.Proofs.Ytkajfpincbkfhaa

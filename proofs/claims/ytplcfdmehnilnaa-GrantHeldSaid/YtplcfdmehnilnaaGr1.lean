
/- grant: covers, depth, Depth. -/
import Derived.Test.YtplcfdmehnilnaaGr0
set_option linter.unusedSimpArgs false
set_option linter.unusedVariables false
namespace Go.Proofs.Ytplcfdmehnilnaa
open Go.RowKit Go.Qc Go.Shelf
attribute [local go_sem] txt_size txt_append ib_fold txt_toL

set_option maxRecDepth 100000 in
set_option maxHeartbeats 20000000 in
theorem gcov_gen (p s T : List UInt8) (H K : Bool)
    (cC : ∀ W, Calls Try.prog 81 #[.string (txt s), .string (txt p)] W fun e w' => e = .returned (.tuple #[.string (txt T), .bool H]) ∧ W = w')
    (cH : ∀ W, Calls Try.prog 82 #[.string (txt T), .string ⟨#[47]⟩] W fun e w' => e = .returned (.bool K) ∧ W = w') (w : World) :
    Calls Try.prog 56 #[.string (txt p), .string (txt s)] w fun e w' => e = .returned (.bool (H && (p.isEmpty || (T.isEmpty || K)))) ∧ w = w' := by
  obtain ⟨E1, h1⟩ : ∃ E1, E1 = p.isEmpty := ⟨_, rfl⟩
  obtain ⟨E2, h2⟩ : ∃ E2, E2 = T.isEmpty := ⟨_, rfl⟩
  have f1 : (p = []) = (E1 = true) := by rw [h1, List.isEmpty_iff]
  have f2 : (T = []) = (E2 = true) := by rw [h2, List.isEmpty_iff]
  rw [← h1, ← h2]
  replace h1 := h1.symm
  replace h2 := h2.symm
  go_enter Try.func56, Try.ntmps56
  cases H <;> cases E1 <;> cases E2 <;> cases K
  all_goals go_wp2_with (first
    | (go_at_call 81; (with_reducible refine (cC _).mono ?_); rintro e3 w3 ⟨rfl, rfl⟩)
    | (go_at_call 82; (with_reducible refine (cH _).mono ?_); rintro e4 w4 ⟨rfl, rfl⟩))
  all_goals go_ret
  all_goals exact ⟨rfl, rfl⟩
theorem gcov_any (p s : List UInt8) (w : World) :
    Calls Try.prog 56 #[.string (txt p), .string (txt s)] w fun e w' => e = .returned (.bool (covB p s)) ∧ w = w' := by
  have := gcov_gen p s (Lib.trimPrefix s p) (Lib.hasPrefix s p) (Lib.hasPrefix (Lib.trimPrefix s p) [47]) (fun W => cutPrefix_any s p W) (fun W => hasPrefix_any _ W) w
  rwa [covB_of] at this

/-- A key's depth by grants. -/
def depG (d : Int) (key s : List UInt8) (X : GrD) : Int := if X.k = key ∧ covB X.p s = true then max d X.d else d
def depS (Xs : List GrD) (key s : List UInt8) : Int := Xs.foldl (fun d X => depG d key s X) (-1)
def depV (root : List UInt8) (Xs : List GrD) (key s : List UInt8) : Int := if key = root then 9 else depS Xs key s
theorem depS_snoc {Xs : List GrD} {k : Nat} {X : GrD} (key s : List UInt8) (h : Xs[k]? = some X) : depS (Xs.take (k + 1)) key s = depG (depS (Xs.take k) key s) key s X := by
  unfold depS
  rw [List.take_add_one, h]
  simp
/-- A table's box. -/
structure TbX (W : World) (g : Nat) (root : List UInt8) (v : Value) : Prop where
  b : Blk W g 83 (idVals root ++ #[v])
theorem TbX.below {W W' : World} {g : Nat} {root : List UInt8} {v : Value} (h : TbX W g root v) (hb : Below W.heap.size W W') : TbX W' g root v := ⟨h.b.below hb⟩
theorem TbX.key {W : World} {g : Nat} {root : List UInt8} {v : Value} (h : TbX W g root v) : W.rangeAt g 0 (root.map u8v) := fun j u hj => h.b.cell_ (by
  rw [Nat.zero_add, Array.getElem?_append_left (by have := (List.getElem?_eq_some_iff.1 hj).1; rw [List.length_map] at this; rw [idVals_size]; exact this)]
  unfold idVals
  rw [List.getElem?_toArray]
  exact hj)
theorem TbX.row {W : World} {g : Nat} {root : List UInt8} {v : Value} (h : TbX W g root v) (hR : root.length = 32) : W.cell? ⟨g, 32, none⟩ = some v := h.b.cell_ (by
  rw [Array.getElem?_append_right (by rw [idVals_size, hR]; exact Nat.le_refl _), idVals_size, hR]
  rfl)

theorem meas_k1 {k n : Nat} (h : k + 1 ≤ n) : n - (intOf (Value.int .i64 ((k : Int) + 1))).toNat < n - (intOf (Value.int .i64 (k : Int))).toNat := by
  simp only [intOf]
  omega

set_option maxRecDepth 100000 in
set_option maxHeartbeats 20000000 in
theorem gdepth_any (tb : Nat) (root : List UInt8) (hR : root.length = 32) (V : Value) (A : Option Addr) (n c : Nat) (Xs : List GrD) (hn : Xs.length = n) (bn : n ≤ 1000) (key : List UInt8) (hk : key.length = 32) (s : List UInt8) (w : World) (ht : TbX w tb root V) (hr : GrRd w A Xs) :
    Calls Try.prog 38 #[.pointer (some ⟨tb, 0, none⟩), .slice A n c, .agg (idVals key), .string (txt s)] w fun e w' => e = .returned (.int .i64 (depV root Xs key s)) ∧ Below w.heap.size w w' := by
  have hK0 := range_blk (Blk.new w 45 (idVals key))
  have hB0 : Below w.heap.size w (w.alloc (.cells (idVals key) 45)) := (Below.refl _ _).alloc (Nat.le_refl _) _
  have hu := Try.underlying45
  have hzk : (Try.prog.info? 45).map (·.size) = some (key.map u8v).length := by rw [List.length_map, hk]; exact sizeId
  have hzr : (Try.prog.info? 45).map (·.size) = some (root.map u8v).length := by rw [List.length_map, hR]; exact sizeId
  have fr0 := (ht.below hB0).key
  have fr := range_later fr0
  have fk := range_later hK0
  obtain ⟨t, hte⟩ : ∃ t, decide (key = root) = t := ⟨_, rfl⟩
  have heq : ∀ W, (Op.equalIn 10000 45 (.agg (List.map u8v key).toArray) (.agg (List.map u8v root).toArray)).run Try.prog W = .ok t W := fun W => (ids_eq W key root hk hR).trans (by rw [hte])
  have HT := hid hte
  have HN := hid hn
  have bn9 : n ≤ 9223372036854775807 := by omega
  have hsz := hB0.size
  clear hte hn ht fr0
  go_enter Try.func38, Try.ntmps38
  go_wp2
  generalize w.alloc (.cells (idVals key) 45) = w0 at *
  refine wp_region_later mixed10 (by kernel_rfl) ?_
  repeat (first
    | ((with_reducible refine wpQuiet_load_if (by with_unfolding_all rfl) 45 _ rfl _ _ rfl (key.map u8v) _ fk hu (by with_unfolding_all rfl) hzk ?_); simp only [Act.put, List.setIfInBounds_toArray, List.set_cons_zero, List.set_cons_succ])
    | ((with_reducible refine wpQuiet_load_if (by with_unfolding_all rfl) 45 _ rfl _ _ rfl (root.map u8v) _ fr hu (by with_unfolding_all rfl) hzr ?_); simp only [Act.put, List.setIfInBounds_toArray, List.set_cons_zero, List.set_cons_succ])
    | ((with_reducible refine wpQuiet_step (fun K hK => ?_)); go_simp; first | ((with_reducible refine hK _ ?_); clear hK K) | (with_reducible apply Exists.intro; (with_reducible refine ⟨fun P => ?_, hK _ ?_⟩); ((fail)); clear hK K))
    | ((with_reducible refine BigFrame.wpQuiet_skip (by first | kernel_rfl | with_unfolding_all rfl) ?_); simp only [Act.put, List.setIfInBounds_toArray, List.set_cons_zero, List.set_cons_succ]))
  with_reducible refine wpQuiet_nil ?_
  intro _ hw9
  obtain ⟨P9, rfl⟩ := hw9
  have hp := P9.h
  generalize P9.w = w1 at *
  have hb1 := hB0.trans (hp.mono hsz)
  have hK1 := hK0.below hp
  clear fr fk heq hp
  cases t with
  | true =>
    go_wp2
    go_ret
    exact ⟨by unfold depV; rw [if_pos (of_decide_eq_true HT.out)]; rfl, hb1⟩
  | false =>
    go_wp2
    go_loopw [9, 20] (fun d i wr => ∃ k : Nat, k ≤ n ∧ i = .int .i64 k ∧ d = .int .i64 (depS (Xs.take k) key s) ∧ Below w1.heap.size w1 wr) (fun _ i _ => n - (intOf i).toNat)
    case atStart => exact ⟨0, by omega, rfl, rfl, Below.refl _ _⟩
    case round =>
      obtain ⟨k, hkn, rfl, rfl, hb⟩ := hrel
      by_cases hlt : k < n
      · obtain ⟨X, hX⟩ : ∃ X, Xs[k]? = some X := ⟨_, List.getElem?_eq_getElem (by have := HN.out; omega)⟩
        obtain ⟨g, q, hg, hXo, hix⟩ := hr.pick c HN.out hX
        have b1 : (k : Int) < n := by omega
        have fX := (hg.below hb1).below hb
        have fk1 := hK1.below hb
        have hnw := GrX.new wr X
        have hba := (Below.refl wr.heap.size wr).alloc (Nat.le_refl _) (.cells X.cs 58)
        have fk2 := fk1.below hba
        have c0 := hnw.c0
        have c65 := hnw.c65 hXo
        have fy := hnw.key
        have hzx : (Try.prog.info? 45).map (·.size) = some (X.k.map u8v).length := by rw [List.length_map, hXo.1]; exact sizeId
        obtain ⟨t, hte⟩ : ∃ t, decide (X.k = key) = t := ⟨_, rfl⟩
        obtain ⟨cv, hcv⟩ : ∃ cv, covB X.p s = cv := ⟨_, rfl⟩
        have heq : ∀ W, (Op.equalIn 10000 45 (.agg (List.map u8v X.k).toArray) (.agg (List.map u8v key).toArray)).run Try.prog W = .ok t W := fun W => (ids_eq W X.k key hXo.1 hk).trans (by rw [hte])
        have cC := fun W => gcov_any X.p s W
        rw [hcv] at cC
        have HD := hid (depS_snoc key s hX)
        have HTE := hid hte
        have HCV := hid hcv
        have HB := hid (hb.trans (hba.mono hb.size))
        clear hX hg hte hcv hb hba
        generalize depS (Xs.take k) key s = d0 at *
        have hs1 : depG d0 key s X = (if t = true ∧ cv = true then max d0 X.d else d0) := by unfold depG; rw [← HTE.out, ← HCV.out]; simp
        rw [hs1] at HD
        have HLT := hid (show k + 1 ≤ n from hlt)
        clear hs1
        cases t with
        | false =>
          go_wp2_with (first
            | (with_reducible refine wpList_load_grr (by with_unfolding_all rfl) _ rfl _ _ rfl fX hXo ?_)
            | (with_reducible refine wpList_store_grn rfl _ _ rfl rfl rfl hXo (by with_unfolding_all rfl) ?_)
            | (with_reducible refine wpList_load_if (by with_unfolding_all rfl) 45 _ rfl _ _ rfl (X.k.map u8v) _ fy hu rfl hzx ?_)
            | (with_reducible refine wpList_load_if (by with_unfolding_all rfl) 45 _ rfl _ _ rfl (key.map u8v) _ fk2 hu rfl hzk ?_)
            | (go_at_call 56; (with_reducible refine (cC _).mono ?_); rintro e3 w3 ⟨rfl, rfl⟩))
          go_roundw
          case rel => exact ⟨k + 1, HLT.out, by go_num, by rw [HD.out]; rfl, HB.out⟩
          case measure => exact meas_k1 HLT.out
        | true =>
          cases cv with
          | false =>
            go_wp2_with (first
              | (with_reducible refine wpList_load_grr (by with_unfolding_all rfl) _ rfl _ _ rfl fX hXo ?_)
              | (with_reducible refine wpList_store_grn rfl _ _ rfl rfl rfl hXo (by with_unfolding_all rfl) ?_)
              | (with_reducible refine wpList_load_if (by with_unfolding_all rfl) 45 _ rfl _ _ rfl (X.k.map u8v) _ fy hu rfl hzx ?_)
              | (with_reducible refine wpList_load_if (by with_unfolding_all rfl) 45 _ rfl _ _ rfl (key.map u8v) _ fk2 hu rfl hzk ?_)
              | (go_at_call 56; (with_reducible refine (cC _).mono ?_); rintro e3 w3 ⟨rfl, rfl⟩))
            go_roundw
            case rel => exact ⟨k + 1, HLT.out, by go_num, by rw [HD.out]; rfl, HB.out⟩
            case measure => exact meas_k1 HLT.out
          | true =>
            go_wp2_with (first
              | (with_reducible refine wpList_load_grr (by with_unfolding_all rfl) _ rfl _ _ rfl fX hXo ?_)
              | (with_reducible refine wpList_store_grn rfl _ _ rfl rfl rfl hXo (by with_unfolding_all rfl) ?_)
              | (with_reducible refine wpList_load_if (by with_unfolding_all rfl) 45 _ rfl _ _ rfl (X.k.map u8v) _ fy hu rfl hzx ?_)
              | (with_reducible refine wpList_load_if (by with_unfolding_all rfl) 45 _ rfl _ _ rfl (key.map u8v) _ fk2 hu rfl hzk ?_)
              | (go_at_call 56; (with_reducible refine (cC _).mono ?_); rintro e3 w3 ⟨rfl, rfl⟩))
            go_roundw
            case rel => exact ⟨k + 1, HLT.out, by go_num, by rw [HD.out]; rfl, HB.out⟩
            case measure => exact meas_k1 HLT.out
      · obtain rfl : k = n := by omega
        have c1 : ¬ (k : Int) < k := by omega
        have hd : depS (Xs.take k) key s = depV root Xs key s := by unfold depV; rw [if_neg (of_decide_eq_false HT.out), List.take_of_length_le (by rw [HN.out]; exact Nat.le_refl _)]
        rw [hd]
        clear hd
        go_wp2
        go_ret
        exact ⟨rfl, hb1.trans (hb.mono hb1.size)⟩

end Go.Proofs.Ytplcfdmehnilnaa

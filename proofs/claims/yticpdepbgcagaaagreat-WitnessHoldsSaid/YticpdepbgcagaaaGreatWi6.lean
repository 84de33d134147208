
/- witness: texts (the closure is made), unlike (the first place that is). -/
import Derived.Test.YticpdepbgcagaaaGreatWi5
import Derived.OwnWalk
set_option linter.unusedSimpArgs false
set_option linter.unusedVariables false
namespace Go.Proofs.YticpdepbgcagaaaGreat
open Go.RowKit Go.Qc Go.Shelf
attribute [local go_sem] txt_size txt_append ib_fold

set_option maxRecDepth 100000 in
set_option maxHeartbeats 20000000 in
theorem wtexts_any (n H L : Nat) (hn : n ≤ 256) (hr : rgt n = true) (a : List UInt8) (ha : a.length = 32) (A B C : Option Addr) (c1 c2 c3 : Nat) (l r way : List (List UInt8)) (w : World) (hA : RowR w A n l) (hB : RowR w B n r) (hC : RowR w C H way) :
    Calls Tryz.prog 31 #[.agg #[.int .i64 n, .int .i64 H], .agg (idVals a), .agg #[.int .i64 L, .slice A n c1, .slice B n c2, .slice C H c3]] w fun e w' => ∃ pb pp px pl Ap cp, e = .returned (.func (.func 63) #[] #[.pointer (some ⟨pb, 0, none⟩), .pointer (some ⟨pp, 0, none⟩), .pointer (some ⟨px, 0, none⟩), .pointer (some ⟨pl, 0, none⟩)]) ∧ TxS w' pb pp px pl Ap cp C c3 n H L (sideL (pubF a l r) n) (recB a l r n) way ∧ Below w.heap.size w w' := by
  have hu := Tryz.underlying24
  have hza : (Tryz.prog.info? 24).map (·.size) = some (a.map u8v).length := by rw [List.length_map, ha]; exact sizeId
  have h1 := (Below.refl w.heap.size w).alloc (Nat.le_refl _) (.cells #[.int .i64 n, .int .i64 H] 29)
  have h2 := h1.alloc h1.size (.cells (idVals a) 24)
  have h3 := h2.alloc h2.size (.cells #[.int .i64 L, .slice A n c1, .slice B n c2, .slice C H c3] 27)
  have B2 := (Blk.new (w.alloc (.cells #[.int .i64 n, .int .i64 H] 29)) 24 (idVals a)).alloc (.cells #[.int .i64 L, .slice A n c1, .slice B n c2, .slice C H c3] 27)
  have B3 := Blk.new ((w.alloc (.cells #[.int .i64 n, .int .i64 H] 29)).alloc (.cells (idVals a) 24)) 27 #[.int .i64 L, .slice A n c1, .slice B n c2, .slice C H c3]
  have B1 := ((Blk.new w 29 #[.int .i64 n, .int .i64 H]).alloc (.cells (idVals a) 24)).alloc (.cells #[.int .i64 L, .slice A n c1, .slice B n c2, .slice C H c3] 27)
  rw [World.size_alloc] at B2
  rw [World.size_alloc, World.size_alloc] at B3
  have fa := range_blk B2
  have s1 := B3.cell_ (i := 1) rfl
  have s2 := B3.cell_ (i := 2) rfl
  have hF := sideL_32 (pubF a l r) (pubF_length a l r hB.2.2.1) n
  have cP : Calls Tryz.prog 61 #[.agg (List.map u8v a).toArray, .slice A n c1, .slice B n c2] (((w.alloc (.cells #[.int .i64 n, .int .i64 H] 29)).alloc (.cells (idVals a) 24)).alloc (.cells #[.int .i64 L, .slice A n c1, .slice B n c2, .slice C H c3] 27)) fun e w' => ∃ v, e = .returned (.tuple #[v, .int .i64 0]) ∧ w'.ownsRow (((w.alloc (.cells #[.int .i64 n, .int .i64 H] 29)).alloc (.cells (idVals a) 24)).alloc (.cells #[.int .i64 L, .slice A n c1, .slice B n c2, .slice C H c3] 27)).heap.size 24 32 v (2 * n) (idsV (sideL (pubF a l r) n)) ∧ Below (((w.alloc (.cells #[.int .i64 n, .int .i64 H] 29)).alloc (.cells (idVals a) 24)).alloc (.cells #[.int .i64 L, .slice A n c1, .slice B n c2, .slice C H c3] 27)).heap.size (((w.alloc (.cells #[.int .i64 n, .int .i64 H] 29)).alloc (.cells (idVals a) 24)).alloc (.cells #[.int .i64 L, .slice A n c1, .slice B n c2, .slice C H c3] 27)) w' := publics_any a ha A B n c1 c2 l r hn hr _ (hA.below h3) (hB.below h3)
  have cC : ∀ W Ap cp, RowR W Ap (2 * n) (sideL (pubF a l r) n) → Calls Tryz.prog 62 #[.string ⟨#[108, 101, 97, 102]⟩, .slice Ap (2 * n) cp] W fun e w' => e = .returned (.agg (idVals (recB a l r n))) ∧ Below W.heap.size W w' := fun W Ap cp h => chain_any leafN (by decide) Ap (2 * n) cp _ W h (by omega)
  have hlf := recB_length a l r n
  have HW := hid (hC.below h3)
  have HB1 := hid B1
  have HB3 := hid B3
  have HB := hid h3
  have HF := hid hF
  have HN := hid (show 2 * n ≤ 1000000 by omega)
  clear hA hB hC h1 h2 h3 B1 B2 B3 hF hr hn
  generalize sideL (pubF a l r) n = P at *
  generalize recB a l r n = R at *
  have hzR2 : (Tryz.prog.info? 24).map (·.size) = some (idVals R).size := by rw [idVals_size, hlf]; exact sizeId
  have h1R := idVals_one R
  have sR : (idVals R).size = 32 := by rw [idVals_size, hlf]
  go_enter Tryz.func31, Tryz.ntmps31
  go_upto_region 1 with (fail)
  generalize ((w.alloc (.cells #[.int .i64 n, .int .i64 H] 29)).alloc (.cells (idVals a) 24)).alloc (.cells #[.int .i64 L, .slice A n c1, .slice B n c2, .slice C H c3] 27) = w1 at *
  go_wp2_with (first
    | (with_reducible refine wpList_load_if (by with_unfolding_all rfl) 24 _ rfl _ _ rfl (a.map u8v) _ fa hu rfl hza ?_)
    | (go_at_call 61; (with_reducible refine cP.mono ?_); rintro e2 w2 ⟨v2, rfl, hown2, hb2⟩; obtain ⟨Ap, cp, rfl, hrow2⟩ := RowAt.own hown2 HF.out HN.out; have HR := hid (RowAt.r hrow2); clear hown2 hrow2; have h4 := (Below.refl w2.heap.size w2).alloc (Nat.le_refl _) (.cells #[.slice Ap (2 * n) cp] 25); have HQ := hid (Blk.new w2 25 #[.slice Ap (2 * n) cp]); have k0 := HQ.out.cell_ (i := 0) rfl)
    | (go_at_call 62; (with_reducible refine (cC _ _ _ (HR.out.below h4)).mono ?_); rintro e3 w3 ⟨rfl, hb3⟩)
    | (with_reducible refine wpList_store_new rfl 24 _ _ rfl (idVals R) rfl rfl hzR2 (Eq.trans (b := 32) (by with_unfolding_all rfl) sR.symm) h1R ?_))
  go_ret
  have h5 := (Below.refl w3.heap.size w3).alloc (Nat.le_refl _) (.cells (idVals R) 24)
  have h45 := h4.trans (hb3.mono h4.size)
  have h46 := h45.trans (h5.mono h45.size)
  have h26 := hb2.trans (h46.mono hb2.size)
  have hX := HB3.out.below h26
  have hP := HB1.out.below h26
  have hQ := (HQ.out.below hb3).below h5
  refine ⟨_, _, _, _, Ap, cp, rfl, ⟨hQ.cell_ (i := 0) rfl, HR.out.below h46, hP.cell_ (i := 0) rfl, hP.cell_ (i := 1) rfl, hX.cell_ (i := 0) rfl, hX.cell_ (i := 3) rfl, HW.out.below h26, range_blk (Blk.new w3 24 (idVals R))⟩, HB.out.trans (h26.mono HB.out.size)⟩

/-- Where the search stands. -/
def UnI (T U : Nat → List UInt8) (m : Nat) (z : Int) : Prop := -1 ≤ z ∧ z ≤ m ∧ unlW T U (m + 1) = unlW T U (z + 1).toNat
/-- What it answers. -/
def unR (T U : Nat → List UInt8) : Option Nat → Value
  | none => .tuple #[.string ⟨#[]⟩, .string ⟨#[]⟩, .bool false]
  | some k => .tuple #[.string (txt (T k)), .string (txt (U k)), .bool true]
theorem UnI.yes {T U : Nat → List UInt8} {m p : Nat} (h : UnI T U m p) (e : ¬ T p = U p) : unlW T U (m + 1) = some p := by
  rw [h.2.2, show ((p : Int) + 1).toNat = p + 1 by omega, unlW, if_neg e]
theorem UnI.no {T U : Nat → List UInt8} {m p : Nat} (h : UnI T U m p) (e : T p = U p) : UnI T U m ((p : Int) - 1) := by
  have h1 := h.1
  have h2 := h.2.1
  refine ⟨by omega, by omega, ?_⟩
  rw [h.2.2, show ((p : Int) + 1).toNat = p + 1 by omega, unlW, if_pos e, show ((p : Int) - 1 + 1).toNat = p by omega]
theorem meas_un {z : Int} (h : 0 ≤ z) : ((intOf (Value.int .i64 (z - 1))) + 1).toNat < ((intOf (Value.int .i64 z)) + 1).toNat := by
  simp only [intOf]
  omega
theorem txt_lpW (l : List UInt8) : ∀ (k i : Nat) (r : List UInt8), l.length - i = k → ByteArray.toList.loop (txt l) i r = r.reverse ++ l.drop i := by
  intro k
  induction k with
  | zero =>
    intro i r hk
    unfold ByteArray.toList.loop
    rw [if_neg (by rw [txt_size]; omega), List.drop_eq_nil_of_le (by omega), List.append_nil]
  | succ k ih =>
    intro i r hk
    have hi : i < l.length := by omega
    unfold ByteArray.toList.loop
    rw [if_pos (by rw [txt_size]; exact hi), ih (i + 1) _ (by omega), List.reverse_cons, List.append_assoc]
    congr 1
    rw [List.drop_eq_getElem_cons hi]
    congr 1
    simp [ByteArray.get!, txt, getElem!_pos, hi]
theorem txt_toW (l : List UInt8) : (txt l).toList = l := by
  unfold ByteArray.toList
  rw [txt_lpW l _ 0 [] rfl]
  rfl

set_option maxRecDepth 100000 in
set_option maxHeartbeats 20000000 in
theorem wunlike_any (f g : FuncId) (hf : ∀ args W, (callFunc f args).run Tryz.prog W = .ok (.enter f args) W) (hg : ∀ args W, (callFunc g args).run Tryz.prog W = .ok (.enter g args) W) (cf cg : Array Value) (T U : Nat → List UInt8) (m : Nat) (hm : m ≤ 1000) (w0 : World)
    (cF : ∀ p : Nat, p ≤ m → ∀ W, Below w0.heap.size w0 W → Calls Tryz.prog f (#[.int .i64 p] ++ cf) W fun e w' => e = .returned (.string (txt (T p))) ∧ Below W.heap.size W w') (cG : ∀ p : Nat, p ≤ m → ∀ W, Below w0.heap.size w0 W → Calls Tryz.prog g (#[.int .i64 p] ++ cg) W fun e w' => e = .returned (.string (txt (U p))) ∧ Below W.heap.size W w') :
    Calls Tryz.prog 30 #[.int .i64 m, .func (.func f) #[] cf, .func (.func g) #[] cg] w0 fun e w' => e = .returned (unR T U (unlW T U (m + 1))) ∧ Below w0.heap.size w0 w' := by
  have H0 := hid (show UnI T U m m from ⟨by omega, Int.le_refl _, by rw [show ((m : Int) + 1).toNat = m + 1 by omega]⟩)
  go_enter Tryz.func30, Tryz.ntmps30
  go_wp2_with (fail)
  go_loopw [6, 7, 9] (fun x6 x7 i wr => ∃ z : Int, i = .int .i64 z ∧ Hid (UnI T U m z) ∧ Below w0.heap.size w0 wr) (fun _ _ i _ => (intOf i + 1).toNat)
  case atStart => exact ⟨_, rfl, H0, Below.refl _ _⟩
  case round =>
    clear H0
    obtain ⟨z, rfl, HU, hb⟩ := hrel
    by_cases hz : 0 ≤ z
    · obtain ⟨p, rfl⟩ : ∃ p : Nat, z = p := ⟨z.toNat, by omega⟩
      have hpm : p ≤ m := by have := HU.out.2.1; omega
      have c1 := cF p hpm wr hb
      have d1 := fun W (hW : Below wr.heap.size wr W) => cG p hpm W (hb.trans (Below.mono hW hb.size))
      have v1 : wrap64 ((p : Int) - 1) = (p : Int) - 1 := by unfold wrap64; omega
      by_cases he : T p = U p
      · have HN := hid (HU.out.no he)
        rw [← he] at d1
        clear he
        generalize txt (T p) = x at *
        go_wp2_with (first
          | ((with_reducible refine c1.mono ?_); rintro e3 w3 ⟨rfl, hb3⟩)
          | ((with_reducible refine (d1 _ hb3).mono ?_); rintro e4 w4 ⟨rfl, hb4⟩))
        go_roundw
        case rel => exact ⟨_, rfl, HN, (hb.trans (hb3.mono hb.size)).trans (hb4.mono (hb.trans (hb3.mono hb.size)).size)⟩
        case measure => exact meas_un hz
      · have hyes := HU.out.yes he
        obtain ⟨x, hx⟩ : ∃ x, txt (T p) = x := ⟨_, rfl⟩
        obtain ⟨y, hy⟩ : ∃ y, txt (U p) = y := ⟨_, rfl⟩
        rw [hx] at c1
        rw [hy] at d1
        have hne2 : (x.toList == y.toList) = false := by rw [← hx, ← hy, txt_toW, txt_toW]; simpa using he
        have HY := hid (show unR T U (unlW T U (m + 1)) = .tuple #[.string x, .string y, .bool true] by rw [hyes, ← hx, ← hy]; rfl)
        clear he hx hy hyes
        go_wp2_with (first
          | ((with_reducible refine c1.mono ?_); rintro e3 w3 ⟨rfl, hb3⟩)
          | ((with_reducible refine (d1 _ hb3).mono ?_); rintro e4 w4 ⟨rfl, hb4⟩))
        go_ret3
        exact ⟨by rw [HY.out]; rfl, (hb.trans (hb3.mono hb.size)).trans (hb4.mono (hb.trans (hb3.mono hb.size)).size)⟩
    · have HE := hid (show unlW T U (m + 1) = none by
        rw [HU.out.2.2, show (z + 1).toNat = 0 by have := HU.out.1; omega]; rfl)
      have hz2 : ¬ z ≥ 0 := hz
      go_wp2_with (fail)
      go_ret3
      exact ⟨by rw [HE.out]; rfl, hb⟩

end Go.Proofs.YticpdepbgcagaaaGreat

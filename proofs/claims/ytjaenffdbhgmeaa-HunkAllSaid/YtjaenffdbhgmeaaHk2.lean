
/- hunk: pieces of rows of texts; a row's own copy. -/
import Derived.Test.YtjaenffdbhgmeaaHk1
import Derived.Shelf.Spec.SlicesGrow
set_option linter.unusedSimpArgs false
set_option linter.unusedVariables false
namespace Go.Proofs.Ytjaenffdbhgmeaa
open Go.RowKit Go.Qc Go.Shelf
attribute [local go_sem] txt_size txt_append ib_fold txt_toL

/-- Where a piece of a row begins. -/
def pcA (A : Option Addr) (l m : Nat) : Option Addr := if m = l then A else A.map (·.add l)
theorem rd_piece {w : World} {A : Option Addr} {xs : List Value} (h : Rd w A xs) (l k m : Nat) (hm : k ≤ m - l) : Rd w (pcA A l m) ((xs.drop l).take k) := by
  unfold pcA
  by_cases he : m = l
  · rw [if_pos he]
    have : k = 0 := by omega
    subst this
    exact .inl (by simp)
  · rw [if_neg he]
    rcases h with rfl | ⟨ad, rfl, hc⟩
    · exact .inl (by simp)
    · refine .inr ⟨ad.add l, rfl, fun j u hu => ?_⟩
      have hk : j < k := by
        have := (List.getElem?_eq_some_iff.1 hu).1
        rw [List.length_take] at this; omega
      rw [List.getElem?_take, if_pos hk, List.getElem?_drop] at hu
      have := hc (l + j) u hu
      have e : (ad.add l).add j = ad.add (l + j) := by
        unfold Addr.add
        by_cases h1 : l = 0 <;> by_cases h2 : j = 0 <;> simp [h1, h2, Nat.add_assoc]
      rw [e]; exact this
theorem sliced_pc (A : Option Addr) (l h m : Nat) : sliced A l h m 1 = .slice (pcA A l m) (h - l) (m - l) := by
  unfold sliced pcA
  cases A <;> simp <;> split <;> rfl
theorem sl_lh (A : Option Addr) (n c l h : Nat) (h1 : l ≤ h) (h2 : h ≤ c) (W : World) :
    (Instr.sliceAt 37 (.slice A n c) (some (.int .i64 (l : Int))) (some (.int .i64 (h : Int))) none).run Try.prog W = .ok (.slice (pcA A l c) (h - l) (c - l)) W := by
  obtain ⟨i0, hi, _, hs, _⟩ := info_parts infoString
  have b1 : (l : Int) ≤ h := by omega
  have b2 : (h : Int) ≤ c := by omega
  rw [← sliced_pc]
  simp [Instr.sliceAt, Instr.slice, Instr.sliceBounds, run_underlying Try.underlying37, run_sliceBound, b1, b2, sizeOf, typeInfo, hi, hs, Int.toNat_natCast, sliced]
theorem sl_hm (A : Option Addr) (n c h m : Nat) (h1 : h ≤ m) (h2 : m ≤ c) (W : World) :
    (Instr.sliceAt 37 (.slice A n c) none (some (.int .i64 (h : Int))) (some (.int .i64 (m : Int)))).run Try.prog W = .ok (.slice (pcA A 0 m) h m) W := by
  obtain ⟨i0, hi, _, _, _⟩ := info_parts infoString
  have b1 : (h : Int) ≤ m := by omega
  have b2 : (m : Int) ≤ c := by omega
  have := sliced_pc A 0 h m
  rw [Nat.sub_zero, Nat.sub_zero] at this
  rw [← this]
  simp [Instr.sliceAt, Instr.slice, Instr.sliceBounds, run_underlying Try.underlying37, run_sliceBound, b1, b2, sizeOf, typeInfo, hi, Int.toNat_natCast, sliced]
theorem sl_lhm (A : Option Addr) (n c l h m : Nat) (h0 : l ≤ h) (h1 : h ≤ m) (h2 : m ≤ c) (W : World) :
    (Instr.sliceAt 37 (.slice A n c) (some (.int .i64 (l : Int))) (some (.int .i64 (h : Int))) (some (.int .i64 (m : Int)))).run Try.prog W = .ok (.slice (pcA A l m) (h - l) (m - l)) W := by
  obtain ⟨i0, hi, _, hs, _⟩ := info_parts infoString
  have b0 : (l : Int) ≤ h := by omega
  have b1 : (h : Int) ≤ m := by omega
  have b2 : (m : Int) ≤ c := by omega
  rw [← sliced_pc]
  simp [Instr.sliceAt, Instr.slice, Instr.sliceBounds, run_underlying Try.underlying37, run_sliceBound, b0, b1, b2, sizeOf, typeInfo, hi, hs, Int.toNat_natCast, sliced]
/-- A struct of three cells in a block. -/
structure Hk (w : World) (g : Nat) (t : TypeId) (at' : Int) (u v : Value) : Prop where
  b : Blk w g t #[.int .i64 at', u, v]
theorem Hk.c0 {w : World} {g : Nat} {t : TypeId} {at' : Int} {u v : Value} (h : Hk w g t at' u v) : w.cell? ⟨g, 0, none⟩ = some (.int .i64 at') := h.b.cell_ rfl
theorem Hk.c1 {w : World} {g : Nat} {t : TypeId} {at' : Int} {u v : Value} (h : Hk w g t at' u v) : w.cell? ⟨g, 1, none⟩ = some u := h.b.cell_ rfl
theorem Hk.c2 {w : World} {g : Nat} {t : TypeId} {at' : Int} {u v : Value} (h : Hk w g t at' u v) : w.cell? ⟨g, 2, none⟩ = some v := h.b.cell_ rfl
theorem Hk.below {w w' : World} {g : Nat} {t : TypeId} {at' : Int} {u v : Value} (h : Hk w g t at' u v) (hb : Below w.heap.size w w') : Hk w' g t at' u v := ⟨h.b.below hb⟩
theorem Hk.new (w : World) (t : TypeId) (at' : Int) (u v : Value) : Hk (w.alloc (.cells #[.int .i64 at', u, v] t)) w.heap.size t at' u v := ⟨Blk.new _ _ _⟩
theorem behind_any (at' : Int) (A : Option Addr) (n c : Nat) (B : Option Addr) (m d : Nat) (z : Int) (hz : wrap64 (at' + n) = z) (w : World) :
    Calls Try.prog 82 #[.agg #[.int .i64 at', .slice A n c, .slice B m d]] w fun e w' => e = .returned (.int .i64 z) ∧ Below w.heap.size w w' := by
  go_enter Try.func82, Try.ntmps82
  go_wp2
  go_ret
  exact ⟨by simp [hz], (Below.refl _ w).alloc (Nat.le_refl _) _⟩
theorem infoHunk : (Try.prog.info? 42).map (·.size) = some 3 := by kernel_rfl
/-- Whether a hunk fits lines (at 0 to so many). -/
def fitR (l old : List (List UInt8)) (at' : Nat) : Bool := decide (at' + old.length ≤ l.length) && decide ((l.drop at').take old.length = old)
set_option maxHeartbeats 4000000 in
theorem fits_any (L : Option Addr) (k e : Nat) (ls : List (List UInt8)) (hk : ls.length = k) (hke : k ≤ e) (bk : k ≤ 1000000) (at' : Nat) (ba : at' ≤ 1000000) (A : Option Addr) (n c : Nat) (old : List (List UInt8)) (hn : old.length = n) (bn : n ≤ 1000000) (B : Option Addr) (m d : Nat) (w : World)
    (hL : Rd w L (ls.map strV)) (hA : Rd w A (old.map strV)) :
    Calls Try.prog 81 #[.slice L k e, .agg #[.int .i64 (at' : Int), .slice A n c, .slice B m d]] w fun e w' => e = .returned (.bool (fitR ls old at')) ∧ Below w.heap.size w w' := by
  have hB0 : Below w.heap.size w (w.alloc (.cells #[.int .i64 (at' : Int), .slice A n c, .slice B m d] 42)) := (Below.refl _ w).alloc (Nat.le_refl _) _
  have hw : wrap64 ((at' : Int) + n) = ((at' + n : Nat) : Int) := by unfold wrap64; omega
  have cB := behind_any (at' : Int) A n c B m d _ hw
  have hh := Hk.new w 42 (at' : Int) (.slice A n c) (.slice B m d)
  generalize hW : w.alloc (.cells #[.int .i64 (at' : Int), .slice A n c, .slice B m d] 42) = W0 at *
  have c0 : ∀ p : LtW W0, p.w.cell? ⟨w.heap.size, 0, none⟩ = some (.int .i64 (at' : Int)) := fun p => (hh.below p.h).c0
  have c1 : ∀ p : LtW W0, p.w.cell? ⟨w.heap.size, 1, none⟩ = some (.slice A n c) := fun p => (hh.below p.h).c1
  have c2 : ∀ p : LtW W0, p.w.cell? ⟨w.heap.size, 2, none⟩ = some (.slice B m d) := fun p => (hh.below p.h).c2
  unfold fitR
  rw [hk, hn]
  by_cases hle : at' + n ≤ k
  · have z1 : ((at' + n : Nat) : Int) ≤ k := by omega
    have z2 : (at' : Int) + n ≤ k := by omega
    rw [decide_eq_true hle, Bool.true_and]
    have hs := sl_lh L k e at' (at' + n) (by omega) (by omega)
    rw [show at' + n - at' = n by omega, show ((at' + n : Nat) : Int) = (at' : Int) + n by omega] at hs
    have cE : ∀ p : LtW W0, Calls Try.prog 85 #[.slice (pcA L at' e) n (e - at'), .slice A n c] p.w fun e w' => e = .returned (.bool (decide ((ls.drop at').take n = old))) ∧ Below p.w.heap.size p.w w' := fun p => by
      have hB1 := hB0.trans (p.h.mono hB0.size)
      have hr := rd_piece (hL.below hB1) at' n e (by omega)
      rw [← List.map_drop, ← List.map_take] at hr
      exact sequal_any (pcA L at' e) A n n (e - at') c ((ls.drop at').take n) old (by rw [List.length_take, List.length_drop]; omega) hn (by omega) (by omega) p.w hr (hA.below hB1)
    generalize decide ((ls.drop at').take n = old) = V at *
    go_enter Try.func81, Try.ntmps81
    go_wp2_with (fail)
    try rw [hW]
    refine wp_region_lt mixed10 (by kernel_rfl) ?_
    repeat (first
      | ((with_reducible refine wpQuiet_skip (by with_unfolding_all rfl) ?_); simp only [Act.put, List.setIfInBounds_toArray, List.set_cons_zero, List.set_cons_succ])
      | ((with_reducible refine wpQuiet_step (fun K hK => ?_)); go_simp; first | ((with_reducible refine hK _ ?_); clear hK K) | (with_reducible apply Exists.intro; (with_reducible refine ⟨fun _ => ?_, hK _ ?_⟩); ((first | (go_at_call 82; exact lt_of (cB _)) | (go_at_call 85; exact lt_of (cE _)))); clear hK K)))
    with_reducible refine wpQuiet_nil ?_
    intro _ hw'
    obtain ⟨p, rfl⟩ := hw'
    have hp := p.h
    generalize p.w = w4 at *
    go_wp2
    go_ret
    exact ⟨by simp, hB0.trans (hp.mono hB0.size)⟩
  · have z1 : ¬ ((at' + n : Nat) : Int) ≤ k := by omega
    have z2 : ¬ (at' : Int) + n ≤ k := by omega
    have z4 : decide ((at' : Int) + n ≤ k) = false := decide_eq_false z2
    rw [decide_eq_false hle, Bool.false_and]
    clear z1
    go_enter Try.func81, Try.ntmps81
    go_wp2_with (fail)
    try rw [hW]
    refine wp_region_lt mixed10 (by kernel_rfl) ?_
    repeat (first
      | ((with_reducible refine wpQuiet_skip (by with_unfolding_all rfl) ?_); simp only [Act.put, List.setIfInBounds_toArray, List.set_cons_zero, List.set_cons_succ])
      | ((with_reducible refine wpQuiet_step (fun K hK => ?_)); go_simp; first | ((with_reducible refine hK _ ?_); clear hK K) | (with_reducible apply Exists.intro; (with_reducible refine ⟨fun _ => ?_, hK _ ?_⟩); (go_at_call 82; exact lt_of (cB _)); clear hK K) | (rw [if_neg z2]; (with_reducible refine hK _ ?_); clear hK K)))
    with_reducible refine wpQuiet_nil ?_
    intro _ hw'
    obtain ⟨p, rfl⟩ := hw'
    have hp := p.h
    generalize p.w = w4 at *
    go_wp2
    go_ret
    exact ⟨by simp, hB0.trans (hp.mono hB0.size)⟩
/-! ### a row of the call's own, made with room -/
def laysNm84_ren : Go.Shelf.Ren := ⟨fun | 4 => 113 | n => n, fun | 22 => 37 | 25 => 9 | 3 => 3 | 4 => 4 | 9 => 9 | 20 => 20 | 0 => 0 | n => n, fun | n => n⟩
theorem laysNm84 : Go.Proofs.Lays8.n4 Try.prog laysNm84_ren := {
  mixed := by kernel_rfl
  f4 := ⟨Try.f113.name, by decide, Try.func113.trans (congrArg some (by kernel_rfl))⟩
  t0 := Try.underlying0
  a0 := Try.isAgg0
  z0 := Try.sizeOf0
  v0 := Try.zeroValue0
  t3 := Try.underlying3
  a3 := Try.isAgg3
  z3 := Try.sizeOf3
  v3 := Try.zeroValue3
  t4 := Try.underlying4
  a4 := Try.isAgg4
  z4 := Try.sizeOf4
  v4 := Try.zeroValue4
  t9 := Try.underlying9
  a9 := Try.isAgg9
  z9 := Try.sizeOf9
  v9 := Try.zeroValue9
  t20 := Try.underlying20
  a20 := Try.isAgg20
  z20 := Try.sizeOf20
  v20 := Try.zeroValue20
  t22 := Try.underlying37
  a22 := Try.isAgg37
  z22 := Try.sizeOf37
  v22 := Try.zeroValue37 }
theorem grow_any (k : Nat) (hk : k ≤ 100000000) (w : World) :
    Calls Try.prog 113 #[.slice none 0 0, .int .i64 k] w fun e w' => ∃ v, e = .returned v ∧ w'.ownsRow w.heap.size 9 1 v 0 [] ∧ Below w.heap.size w w' := by
  by_cases h0 : k = 0
  · subst h0
    exact (Any8.slices_Grow_room laysNm84 none 0 0 0 w (Nat.le_refl _) (by decide) (by decide) (Nat.le_refl _)).mono (by rintro e w' ⟨rfl, rfl⟩; exact ⟨_, rfl, World.ownsRow_nil _ _ _ _, Below.refl _ _⟩)
  · obtain ⟨i0, hi, hz, hs, hb⟩ := info_parts infoString
    refine (Any8.slices_Grow_grow laysNm84 i0 (.string ⟨#[]⟩) hi hz (by omega) none 0 0 k [] w (Nat.le_refl _) (by omega) (by rw [hb]; omega) (by omega) (by simp) (fun _ => rfl) (fun a h => by cases h)).mono ?_
    rintro e w' ⟨rfl, rfl⟩
    refine ⟨_, rfl, ?_, (below_drew10 w).trans ((Below.refl w.heap.size w.drew).alloc (Nat.le_refl _) _)⟩
    have h1 := grownCap_ge w (0 + k) 0 (laysNm84_ren.t 25)
    have h2 := grownCap_le_maxLen w (0 + k) 0 (laysNm84_ren.t 25) (by unfold maxLen; omega)
    generalize grownCap w (0 + k) 0 (laysNm84_ren.t 25) = G at *
    refine World.ownsRow_made w.drew _ _ (Nat.le_refl _) h2 ?_
    simp only [Array.size_append, size_zeroCells, Value.cells, List.size_toArray, List.length_nil]
    simp
    omega
end Go.Proofs.Ytjaenffdbhgmeaa

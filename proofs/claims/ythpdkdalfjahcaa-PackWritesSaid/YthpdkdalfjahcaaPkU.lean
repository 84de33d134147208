
/- pack: a reader's rows, bytes, ids, texts; reading back -/
import Derived.Test.YthpdkdalfjahcaaPkW
import Derived.Test.YthpdkdalfjahcaaId7
import Derived.Test.YthpdkdalfjahcaaLamA
set_option linter.unusedSimpArgs false
set_option linter.unusedVariables false
namespace Go.Proofs.Ythpdkdalfjahcaa
open Go.RowKit Go.Qc Go.Shelf
attribute [local go_sem] txt_size txt_append ib_fold

/-! ### a byte -/
def byteR (l : List UInt8) : Except Int (UInt8 × Nat) := match l with | [] => .error 2 | x :: _ => .ok (x, 1)
theorem byteR_at {s : List UInt8} {a : Nat} {x : UInt8} (h : s[a]? = some x) : byteR (s.drop a) = .ok (x, 1) := by
  have hlt : a < s.length := (List.getElem?_eq_some_iff.1 h).1
  rw [List.drop_eq_getElem_cons hlt]
  rw [List.getElem?_eq_getElem hlt] at h
  rw [Option.some.inj h]; rfl
theorem byteR_end {s : List UInt8} {a : Nat} (h : s.length ≤ a) : byteR (s.drop a) = .error 2 := by rw [List.drop_of_length_le h]; rfl
set_option maxHeartbeats 4000000 in
theorem pkByteR_any (g : Nat) (s : List UInt8) (a : Nat) (hs : s.length ≤ 1000000000000) (ha : a ≤ s.length) (w : World) (hr : Rdr g s a 0 w) :
    Calls Try.prog 34 #[.pointer (some ⟨g, 0, none⟩)] w fun o w' => ReadPost u8v (.int .u8 0) g s a w (byteR (s.drop a)) o w' := by
  have hg := enters_of Try.func70 (by kernel_rfl) rfl
  have c1 := hr.c1
  have c2 := hr.c2
  have cR : Calls Try.prog 69 #[.pointer (some ⟨g, 0, none⟩), .func (.func 70) #[.pointer (some ⟨g, 0, none⟩)] #[]] w fun o w' => ReadPost u8v (.int .u8 0) g s a w (byteR (s.drop a)) o w' := by
    by_cases hlt : a < s.length
    · obtain ⟨x, hx⟩ : ∃ x, s[a]? = some x := ⟨_, List.getElem?_eq_getElem hlt⟩
      rw [byteR_at hx]
      have cN := pkOctet_ok g s a 0 x hx hs w hr
      clear hx hlt
      go_enter Try.func69, Try.ntmps69
      go_wp2_with (first
        | ((with_reducible refine cN.mono ?_); rintro o1 w1 ⟨rfl, h1⟩; have c3 := h1.r.c2))
      go_ret
      exact ⟨rfl, h1⟩
    · obtain rfl : a = s.length := by omega
      rw [byteR_end (Nat.le_refl _)]
      have cN := pkOctet_no g s 0 hs w hr
      clear hlt
      go_enter Try.func69, Try.ntmps69
      go_wp2_with (first
        | ((with_reducible refine cN.mono ?_); rintro o1 w1 ⟨rfl, h1⟩; have h2 : Step g s s.length 2 w w1 := h1; have c3 := h2.r.c2; have c4 := h2.r.c1; have f1 := h2.r.f 1))
      go_ret
      exact ⟨rfl, by decide, h2.r.setA s.length, gb_set h2.gb 1 _⟩
  cases hb : byteR (s.drop a) with
  | ok p =>
    obtain ⟨v, n⟩ := p
    rw [hb] at cR
    clear hb c1 c2
    go_enter Try.func34, Try.ntmps34
    go_wp2_with (first
      | (go_at_call 69; (with_reducible refine cR.mono ?_); rintro o1 w1 ⟨rfl, h1⟩))
    go_ret
    exact ⟨rfl, h1⟩
  | error e =>
    rw [hb] at cR
    clear hb c1 c2
    go_enter Try.func34, Try.ntmps34
    go_wp2_with (first
      | (go_at_call 69; (with_reducible refine cR.mono ?_); rintro o1 w1 ⟨rfl, he, h1⟩))
    go_ret
    exact ⟨rfl, he, h1⟩

/-! ### a truth -/
def truthR (l : List UInt8) : Except Int (Bool × Nat) := match l with | [] => .error 2 | x :: _ => if 1 < x.toNat then .error 3 else .ok (decide (x.toNat = 1), 1)
theorem truthR_at {s : List UInt8} {a : Nat} {x : UInt8} (h : s[a]? = some x) : truthR (s.drop a) = if 1 < x.toNat then .error 3 else .ok (decide (x.toNat = 1), 1) := by
  have hlt : a < s.length := (List.getElem?_eq_some_iff.1 h).1
  rw [List.drop_eq_getElem_cons hlt]
  rw [List.getElem?_eq_getElem hlt] at h
  rw [Option.some.inj h]; rfl
theorem truthR_end {s : List UInt8} {a : Nat} (h : s.length ≤ a) : truthR (s.drop a) = .error 2 := by rw [List.drop_of_length_le h]; rfl
def boolV (v : Bool) : Value := .bool v
/-- What the closure leaves. -/
def TruthPost (g : Nat) (s : List UInt8) (a : Nat) (w : World) (r : Except Int (Bool × Nat)) (o : Ending) (w' : World) : Prop :=
  match r with
  | .ok (t, n) => o = .returned (boolV t) ∧ Step g s (a + n) 0 w w'
  | .error e => ∃ (a' : Nat) (v : Bool), o = .returned (.bool v) ∧ a' ≤ s.length ∧ e ≠ 0 ∧ Step g s a' e w w'
set_option maxHeartbeats 4000000 in
theorem pkTruth1_any (g : Nat) (s : List UInt8) (a : Nat) (hs : s.length ≤ 1000000000000) (ha : a ≤ s.length) (w : World) (hr : Rdr g s a 0 w) :
    Calls Try.prog 81 #[.pointer (some ⟨g, 0, none⟩)] w fun o w' => TruthPost g s a w (truthR (s.drop a)) o w' := by
  by_cases hlt : a < s.length
  · obtain ⟨x, hx⟩ : ∃ x, s[a]? = some x := ⟨_, List.getElem?_eq_getElem hlt⟩
    rw [truthR_at hx]
    have cN := pkOctet_ok g s a 0 x hx hs w hr
    have hxi : ib x = (x.toNat : Int) := rfl
    by_cases h1 : 1 < x.toNat
    · rw [if_pos h1]
      have b1 : (1 : Int) < ib x := by rw [hxi]; omega
      have HL := hid hlt
      clear hx h1 hxi hlt
      go_enter Try.func81, Try.ntmps81
      go_wp2_with (first
        | (go_at_call 70; (with_reducible refine cN.mono ?_); rintro o1 w1 ⟨rfl, h1⟩; have hz := h1.r)
        | (go_at_call 102; (with_reducible refine (pkFail_new g s _ 3 _ hz).mono ?_); rintro o2 w2 ⟨rfl, hn, hgr⟩))
      go_ret
      exact ⟨_, _, rfl, HL.out, by decide, h1.trans ⟨hn, hgr⟩⟩
    · rw [if_neg h1]
      have b1 : ¬ (1 : Int) < ib x := by rw [hxi]; omega
      have b2 : (ib x == 1) = decide (x.toNat = 1) := by
        rw [hxi, Bool.eq_iff_iff, beq_iff_eq, decide_eq_true_iff]; omega
      generalize decide (x.toNat = 1) = D at *
      clear hx h1 hxi hlt
      go_enter Try.func81, Try.ntmps81
      go_wp2_with (first
        | (go_at_call 70; (with_reducible refine cN.mono ?_); rintro o1 w1 ⟨rfl, h1⟩))
      go_ret
      exact ⟨rfl, h1⟩
  · obtain rfl : a = s.length := by omega
    rw [truthR_end (Nat.le_refl _)]
    have cN := pkOctet_no g s 0 hs w hr
    clear hlt
    go_enter Try.func81, Try.ntmps81
    go_wp2_with (first
      | (go_at_call 70; (with_reducible refine cN.mono ?_); rintro o1 w1 ⟨rfl, h1⟩))
    go_ret
    exact ⟨_, _, rfl, Nat.le_refl _, by decide, h1⟩
set_option maxHeartbeats 4000000 in
theorem pkTruthR_any (g : Nat) (s : List UInt8) (a : Nat) (hs : s.length ≤ 1000000000000) (ha : a ≤ s.length) (w : World) (hr : Rdr g s a 0 w) :
    Calls Try.prog 38 #[.pointer (some ⟨g, 0, none⟩)] w fun o w' => ReadPost boolV (.bool false) g s a w (truthR (s.drop a)) o w' := by
  have hg := enters_of Try.func81 (by kernel_rfl) rfl
  have c1 := hr.c1
  have c2 := hr.c2
  have cN := pkTruth1_any g s a hs ha w hr
  cases hb : truthR (s.drop a) with
  | ok p =>
    obtain ⟨v, n⟩ := p
    rw [hb] at cN
    have cR : Calls Try.prog 80 #[.pointer (some ⟨g, 0, none⟩), .func (.func 81) #[.pointer (some ⟨g, 0, none⟩)] #[]] w fun o w' => o = .returned (boolV v) ∧ Step g s (a + n) 0 w w' := by
      clear hb
      go_enter Try.func80, Try.ntmps80
      go_wp2_with (first
        | ((with_reducible refine cN.mono ?_); rintro o1 w1 ⟨rfl, h1⟩; have c3 := h1.r.c2))
      go_ret
      exact ⟨rfl, h1⟩
    clear hb c1 c2 cN
    go_enter Try.func38, Try.ntmps38
    go_wp2_with (first
      | (go_at_call 80; (with_reducible refine cR.mono ?_); rintro o1 w1 ⟨rfl, h1⟩))
    go_ret
    exact ⟨rfl, h1⟩
  | error e =>
    rw [hb] at cN
    have cR : Calls Try.prog 80 #[.pointer (some ⟨g, 0, none⟩), .func (.func 81) #[.pointer (some ⟨g, 0, none⟩)] #[]] w fun o w' => o = .returned (.bool false) ∧ e ≠ 0 ∧ Step g s a e w w' := by
      clear hb
      go_enter Try.func80, Try.ntmps80
      go_wp2_with (first
        | ((with_reducible refine cN.mono ?_); rintro o1 w1 ⟨a', v, rfl, ha', he, h1⟩; have c3 := h1.r.c2; have c4 := h1.r.c1; have f1 := h1.r.f 1; have hne : (e != 0) = true := (by simpa using he)))
      go_ret
      exact ⟨rfl, he, h1.r.setA a, gb_set h1.gb 1 _⟩
    clear hb c1 c2 cN
    go_enter Try.func38, Try.ntmps38
    go_wp2_with (first
      | (go_at_call 80; (with_reducible refine cR.mono ?_); rintro o1 w1 ⟨rfl, he, h1⟩))
    go_ret
    exact ⟨rfl, he, h1⟩
end Go.Proofs.Ythpdkdalfjahcaa

namespace Go.Proofs.Ythpdkdalfjahcaa
open Go.RowKit Go.Qc Go.Shelf
attribute [local go_sem] txt_size txt_append ib_fold

theorem Step.new {g k : Nat} {s : List UInt8} {a : Nat} {e : Int} {w w1 w2 : World} (h : Step g s a e w w1) (hg : w1.grownBy w2 (some k)) (hk : w.heap.size ≤ k) (hl : g < w.heap.size) : Step g s a e w w2 :=
  ⟨blk_gb h.r hg (by omega), ⟨hg.os.trans h.gb.os, hg.tape.trans h.gb.tape, hg.output.trans h.gb.output, Nat.le_trans h.gb.size hg.size, fun i hi hne =>
    (hg.block i (Nat.lt_of_lt_of_le hi h.gb.size) (fun e => by have := Option.some.inj e; omega)).trans (h.gb.block i hi hne)⟩⟩
def idR (l : List UInt8) : Except Int (List UInt8 × Nat) := if 32 ≤ l.length then .ok (l.take 32, 32) else .error 2
def idV (l : List UInt8) : Value := .agg (idVals l)
set_option maxRecDepth 100000 in
set_option maxHeartbeats 4000000 in
theorem pkSum_gen (g : Nat) (s : List UInt8) (a a' : Nat) (e k : Int) (T R : List UInt8) (hR : R.length = 32) (w : World) (hr : Rdr g s a 0 w)
    (cT : ∀ W, Rdr g s a 0 W → Calls Try.prog 76 #[.pointer (some ⟨g, 0, none⟩), .int .i64 32] W fun o w' => o = .returned (.string (txt T)) ∧ Step g s a' e W w')
    (cB : ∀ W : World, Calls Try.prog 114 #[.string (txt T)] W fun o w' => o = .returned (.tuple #[.agg (idVals R), .int .i64 k]) ∧ Below W.heap.size W w') :
    Calls Try.prog 79 #[.pointer (some ⟨g, 0, none⟩)] w fun o w' => o = .returned (idV R) ∧ Step g s a' e w w' := by
  have hu := Try.underlying24
  have HRL := hid hR
  have HZ : (Try.prog.info? 24).map (·.size) = some (R.map u8v).length := by rw [List.length_map, hR]; exact sizeId
  have hlt := hr.lt
  clear hR
  go_enter Try.func79, Try.ntmps79
  go_wp2_with (fail)
  generalize hZ : (Obj.cells _ 24) = Z
  obtain ⟨zc, rfl, hzc⟩ : ∃ zc : Array Value, Z = Obj.cells zc 24 ∧ zc.size = 32 := ⟨_, hZ.symm, rfl⟩
  clear hZ
  have hRb := Blk.new w 24 zc
  have hr0 : Rdr g s a 0 (w.alloc (.cells zc 24)) := Blk.alloc hr _
  have hst0 : Step g s a 0 w (w.alloc (.cells zc 24)) := (Step.same hr).below ((Below.refl _ _).alloc (Nat.le_refl _) _)
  have HZC := hid hzc
  clear hzc
  refine (cT _ hr0).mono ?_
  rintro o1 w1 ⟨rfl, h1⟩
  have hR1 := blk_gb hRb h1.gb (by omega)
  have hs1 := hst0.trans h1
  go_wp2_with (first
    | (go_at_call 114; (with_reducible refine (cB _).mono ?_); rintro o2 w2 ⟨rfl, hB2⟩; replace hR1 := hR1.below hB2; replace hs1 := hs1.below hB2)
    | ((with_reducible refine wpList_store_newid rfl _ _ rfl R HRL.out rfl rfl (by with_unfolding_all rfl) ?_); intro w8 hx8 hb8; replace hR1 := hR1.below hb8; replace hs1 := hs1.below hb8)
    | (with_reducible refine wpList_load_if (by with_unfolding_all rfl) 24 _ rfl _ _ rfl (R.map u8v) _ hx8 hu (by with_unfolding_all rfl) HZ ?_)
    | (with_reducible refine wpList_store_blk rfl 24 _ _ rfl w.heap.size zc (R.map u8v).toArray 24 hR1 rfl rfl ?c2 ?c3 ?c4 ?_))
  case c2 => rw [show (R.map u8v).toArray.size = 32 by rw [List.size_toArray, List.length_map, HRL.out]]; exact sizeId
  case c3 => rw [show (R.map u8v).toArray.size = 32 by rw [List.size_toArray, List.length_map, HRL.out]]; exact HZC.out
  case c4 => exact idVals_one R
  intro w9 hb9 hg9
  go_wp2
  refine bodyPost_ret (results_cell_row rfl _ _ _ _ _ _ _ rfl hb9 Try.underlying24 rfl (by rw [show (R.map u8v).toArray.size = 32 by rw [List.size_toArray, List.length_map, HRL.out]]; exact sizeId)) rfl ⟨rfl, ?_⟩
  exact hs1.new hg9 (Nat.le_refl _) hlt
def SumPost (g : Nat) (s : List UInt8) (a : Nat) (w : World) (r : Except Int (List UInt8 × Nat)) (o : Ending) (w' : World) : Prop :=
  match r with
  | .ok (t, n) => o = .returned (idV t) ∧ t.length = 32 ∧ Step g s (a + n) 0 w w'
  | .error e => o = .returned (idV zeroB) ∧ e ≠ 0 ∧ Step g s a e w w'
theorem pkSum_any (g : Nat) (s : List UInt8) (a : Nat) (hs : s.length ≤ 1000000000000) (ha : a ≤ s.length) (w : World) (hr : Rdr g s a 0 w) :
    Calls Try.prog 79 #[.pointer (some ⟨g, 0, none⟩)] w fun o w' => SumPost g s a w (idR (s.drop a)) o w' := by
  unfold idR
  by_cases h : 32 ≤ (s.drop a).length
  · rw [if_pos h]
    have hl : a + 32 ≤ s.length := by rw [List.length_drop] at h; omega
    have h32 : ((s.drop a).take 32).length = 32 := by rw [List.length_take]; omega
    refine (pkSum_gen g s a (a + 32) 0 0 ((s.drop a).take 32) ((s.drop a).take 32) h32 w hr (fun W h => pkTake_ok g s a 32 0 hl hs W h) (fun W => idBytes_ok _ h32 W)).mono ?_
    rintro o w' ⟨h1, h2⟩
    exact ⟨h1, h32, h2⟩
  · rw [if_neg h]
    have hl : s.length < a + 32 := by rw [List.length_drop] at h; omega
    refine (pkSum_gen g s a a 2 3 [] zeroB rfl w hr (fun W h => pkTake_short g s a 32 0 hl ha hs W h) (fun W => idBytes_no [] (by decide) W)).mono ?_
    rintro o w' ⟨h1, h2⟩
    exact ⟨h1, by decide, h2⟩
set_option maxRecDepth 100000 in
set_option maxHeartbeats 8000000 in
theorem pkReadId_any (g : Nat) (s : List UInt8) (a : Nat) (hs : s.length ≤ 1000000000000) (ha : a ≤ s.length) (w : World) (hr : Rdr g s a 0 w) :
    Calls Try.prog 78 #[.pointer (some ⟨g, 0, none⟩), .func (.func 79) #[.pointer (some ⟨g, 0, none⟩)] #[]] w fun o w' => ReadPost idV (idV zeroB) g s a w (idR (s.drop a)) o w' := by
  have hg := enters_of Try.func79 (by kernel_rfl) rfl
  have hu := Try.underlying24
  have hlt := hr.lt
  have hk : (w.alloc (.cells (idVals zeroB) 24)).heap.size = w.heap.size + 1 := by simp
  have hz := zeroB_vals
  have hA := (Blk.new w 24 (idVals zeroB)).alloc (.cells (idVals zeroB) 24)
  have hBk := Blk.new (w.alloc (.cells (idVals zeroB) 24)) 24 (idVals zeroB)
  rw [hk] at hBk
  have hr0 : Rdr g s a 0 ((w.alloc (.cells (idVals zeroB) 24)).alloc (.cells (idVals zeroB) 24)) := (Blk.alloc hr _).alloc _
  have hst0 : Step g s a 0 w ((w.alloc (.cells (idVals zeroB) 24)).alloc (.cells (idVals zeroB) 24)) := (Step.same hr).below (((Below.refl _ _).alloc (Nat.le_refl _) _).alloc (by simp) _)
  have hHZ : (Try.prog.info? 24).map (·.size) = some (zeroB.map u8v).length := sizeId
  rw [hz] at hA hBk hr0 hst0
  have c1 := hr0.c1
  have c2 := hr0.c2
  have cN := fun W h => pkSum_any g s a hs ha W h
  clear hr hk
  cases hb : idR (s.drop a) with
  | ok p =>
    obtain ⟨R, n⟩ := p
    rw [hb] at cN
    clear hb
    go_enter Try.func78, Try.ntmps78
    go_wp2_with (first
      | ((with_reducible refine (cN _ hr0).mono ?_); rintro o1 w1 ⟨rfl, hRl, h1⟩; have hA1 := blk_gb hA h1.gb (by omega); have hs1 := hst0.trans h1; have HRL := hid hRl; have HZ : (Try.prog.info? 24).map (·.size) = some (R.map u8v).length := (by rw [List.length_map, hRl]; exact sizeId); clear hRl)
      | ((with_reducible refine wpList_store_newid rfl _ _ rfl R HRL.out rfl rfl (by with_unfolding_all rfl) ?_); intro w8 hx8 hb8; replace hA1 := hA1.below hb8; replace hs1 := hs1.below hb8; have c3 := hs1.r.c2)
      | (with_reducible refine wpList_load_if (by with_unfolding_all rfl) 24 _ rfl _ _ rfl (R.map u8v) _ hx8 hu (by with_unfolding_all rfl) HZ ?_)
      | (with_reducible refine wpList_store_blk rfl 24 _ _ rfl w.heap.size _ (R.map u8v).toArray 24 hA1 rfl rfl ?c2 ?c3 ?c4 ?_))
    case c2 => rw [show (R.map u8v).toArray.size = 32 by rw [List.size_toArray, List.length_map, HRL.out]]; exact sizeId
    case c3 => rw [show (R.map u8v).toArray.size = 32 by rw [List.size_toArray, List.length_map, HRL.out]]; rfl
    case c4 => exact idVals_one R
    intro w9 hb9 hg9
    go_wp2
    refine bodyPost_ret (results_cell_row rfl _ _ _ _ _ _ _ rfl hb9 Try.underlying24 rfl (by rw [show (R.map u8v).toArray.size = 32 by rw [List.size_toArray, List.length_map, HRL.out]]; exact sizeId)) rfl ⟨rfl, ?_⟩
    exact hs1.new hg9 (Nat.le_refl _) hlt
  | error e =>
    rw [hb] at cN
    clear hb
    have hzl : zeroB.length = 32 := rfl
    have HZL := hid hzl
    clear hzl
    have hBr : ∀ W, Blk W (w.heap.size + 1) 24 (idVals zeroB) → W.rangeAt (w.heap.size + 1) 0 (zeroB.map u8v) := fun W h => range_blk h
    go_enter Try.func78, Try.ntmps78
    go_wp2_with (first
      | ((with_reducible refine (cN _ hr0).mono ?_); rintro o1 w1 ⟨rfl, he, h1⟩; have hA1 := blk_gb hA h1.gb (by omega); have hB1 := blk_gb hBk h1.gb (by omega); have hs1 := hst0.trans h1; have hne : (e != 0) = true := (by simpa using he))
      | ((with_reducible refine wpList_store_newid rfl _ _ rfl zeroB HZL.out rfl rfl (by with_unfolding_all rfl) ?_); intro w8 hx8 hb8; replace hA1 := hA1.below hb8; replace hB1 := hB1.below hb8; replace hs1 := hs1.below hb8; have c3 := hs1.r.c2; have c4 := hs1.r.c1; have f1 := hs1.r.f 1; have hA2 := blk_gb hA1 (gb_set (gb_refl w8 (some g)) 1 (.int .i64 a)) (by omega); have hB2 := hBr _ (blk_gb hB1 (gb_set (gb_refl w8 (some g)) 1 (.int .i64 a)) (by omega)); have hs2 : Step g s a e w (w8.setCell ⟨g, 1, none⟩ (.int .i64 a)) := ⟨hs1.r.setA a, gb_set hs1.gb 1 _⟩)
      | (with_reducible refine wpList_load_if (by with_unfolding_all rfl) 24 _ rfl _ _ rfl (zeroB.map u8v) _ hB2 hu (by with_unfolding_all rfl) hHZ ?_)
      | (with_reducible refine wpList_store_blk rfl 24 _ _ rfl w.heap.size _ (zeroB.map u8v).toArray 24 hA2 rfl rfl ?c2 ?c3 ?c4 ?_))
    case c2 => exact sizeId
    case c3 => rfl
    case c4 => exact idVals_one zeroB
    intro w9 hb9 hg9
    go_wp2
    refine bodyPost_ret (results_cell_row rfl _ _ _ _ _ _ _ rfl hb9 Try.underlying24 rfl sizeId) rfl ⟨rfl, he, ?_⟩
    exact hs2.new hg9 (Nat.le_refl _) hlt
end Go.Proofs.Ythpdkdalfjahcaa

namespace Go.Proofs.Ythpdkdalfjahcaa
open Go.RowKit Go.Qc Go.Shelf
attribute [local go_sem] txt_size txt_append ib_fold

set_option maxRecDepth 100000 in
set_option maxHeartbeats 4000000 in
theorem pkIdR_any (g : Nat) (s : List UInt8) (a : Nat) (hs : s.length ≤ 1000000000000) (ha : a ≤ s.length) (w : World) (hr : Rdr g s a 0 w) :
    Calls Try.prog 37 #[.pointer (some ⟨g, 0, none⟩)] w fun o w' => ReadPost idV (idV zeroB) g s a w (idR (s.drop a)) o w' := by
  have hlt := hr.lt
  have cN := fun W h => pkReadId_any g s a hs ha W h
  have hst : ∀ zc, Step g s a 0 w (w.alloc (.cells zc 24)) := fun zc => (Step.same hr).below ((Below.refl _ _).alloc (Nat.le_refl _) _)
  have hk : ∀ R n, idR (s.drop a) = .ok (R, n) → R.length = 32 := fun R n h => by
    unfold idR at h
    split at h
    · rename_i h1
      injection h with h
      injection h with h2 h3
      rw [← h2, List.length_take]; omega
    · cases h
  cases hb : idR (s.drop a) with
  | ok p =>
    obtain ⟨R, n⟩ := p
    have hRl := hk R n hb
    rw [hb] at cN
    have HRL := hid hRl
    clear hb hRl hr hk
    go_enter Try.func37, Try.ntmps37
    go_wp2_with (first
      | (go_at_call 78; (with_reducible refine (cN _ (hst _).r).mono ?_); rintro o1 w1 ⟨rfl, h1⟩; have hR1 := blk_gb (Blk.new w 24 _) h1.gb (by omega); have hs1 := (hst _).trans h1)
      | (with_reducible refine wpList_store_blk rfl 24 _ _ rfl w.heap.size _ (idVals R) 24 hR1 rfl rfl ?c2 ?c3 (idVals_one _) ?_))
    case c2 => rw [idVals_size, HRL.out]; exact sizeId
    case c3 => rw [idVals_size, HRL.out]; rfl
    intro w9 hb9 hg9
    go_wp2
    refine bodyPost_ret (results_cell_row rfl _ _ _ _ _ _ _ rfl hb9 Try.underlying24 rfl (by rw [idVals_size, HRL.out]; exact sizeId)) rfl ⟨rfl, ?_⟩
    exact hs1.new hg9 (Nat.le_refl _) hlt
  | error e =>
    rw [hb] at cN
    clear hb hr hk
    go_enter Try.func37, Try.ntmps37
    go_wp2_with (first
      | (go_at_call 78; (with_reducible refine (cN _ (hst _).r).mono ?_); rintro o1 w1 ⟨rfl, he, h1⟩; have hR1 := blk_gb (Blk.new w 24 _) h1.gb (by omega); have hs1 := (hst _).trans h1)
      | (with_reducible refine wpList_store_blk rfl 24 _ _ rfl w.heap.size _ (idVals zeroB) 24 hR1 rfl rfl ?c2 ?c3 (idVals_one _) ?_))
    case c2 => exact sizeId
    case c3 => rfl
    intro w9 hb9 hg9
    go_wp2
    refine bodyPost_ret (results_cell_row rfl _ _ _ _ _ _ _ rfl hb9 Try.underlying24 rfl sizeId) rfl ⟨rfl, he, ?_⟩
    exact hs1.new hg9 (Nat.le_refl _) hlt

/-! ### rows -/
/-- So many items, one behind the other, each as one is read. -/
def rowR {α : Type} (item : List UInt8 → Except Int (α × Nat)) : Nat → List UInt8 → Except Int (List α × Nat)
  | 0, _ => .ok ([], 0)
  | n + 1, l =>
    match item l with
    | .error e => .error e
    | .ok (x, k) =>
      match rowR item n (l.drop k) with
      | .error e => .error e
      | .ok (xs, m) => .ok (x :: xs, k + m)
/-- A row: how many of at most so many, and the items. -/
def rowsR {α : Type} (item : List UInt8 → Except Int (α × Nat)) (most : Int) (l : List UInt8) : Except Int (List α × Nat) :=
  match cntN most l with
  | .error e => .error e
  | .ok (n, k) =>
    match rowR item n (l.drop k) with
    | .error e => .error e
    | .ok (xs, m) => .ok (xs, k + m)
/-- What is left of a row, behind so many items. -/
def leftR {α : Type} (xs : List α) (p : Nat) (r : Except Int (List α × Nat)) : Except Int (List α × Nat) :=
  match r with
  | .error e => .error e
  | .ok (ys, m) => .ok (xs ++ ys, p + m)
theorem rowsR_ok {α : Type} (item : List UInt8 → Except Int (α × Nat)) (most : Int) (l : List UInt8) (n k : Nat) (h : cntN most l = .ok (n, k)) : rowsR item most l = leftR [] k (rowR item n (l.drop k)) := by
  unfold rowsR
  rw [h]
  simp only
  cases rowR item n (l.drop k) <;> rfl
theorem rowsR_bad {α : Type} (item : List UInt8 → Except Int (α × Nat)) (most : Int) (l : List UInt8) (e : Int) (h : cntN most l = .error e) : rowsR item most l = .error e := by
  unfold rowsR
  rw [h]
theorem leftR_step {α : Type} (item : List UInt8 → Except Int (α × Nat)) (n : Nat) (xs : List α) (p k : Nat) (x : α) (l : List UInt8) (h : item l = .ok (x, k)) :
    leftR xs p (rowR item (n + 1) l) = leftR (xs ++ [x]) (p + k) (rowR item n (l.drop k)) := by
  rw [rowR, h]
  simp only
  cases rowR item n (l.drop k) with
  | error e => rfl
  | ok q =>
    obtain ⟨ys, m⟩ := q
    simp [leftR, Nat.add_assoc]
theorem leftR_bad {α : Type} (item : List UInt8 → Except Int (α × Nat)) (n : Nat) (xs : List α) (p : Nat) (e : Int) (l : List UInt8) (h : item l = .error e) :
    leftR xs p (rowR item (n + 1) l) = .error e := by
  rw [rowR, h]; rfl
theorem gb_new {w w1 w2 : World} {g : Nat} {row : Option Nat} (h : w.grownBy w1 (some g)) (hg : w1.grownBy w2 row) (hrow : ∀ k, row = some k → w.heap.size ≤ k) : w.grownBy w2 (some g) :=
  ⟨hg.os.trans h.os, hg.tape.trans h.tape, hg.output.trans h.output, Nat.le_trans h.size hg.size, fun i hi hne =>
    (hg.block i (Nat.lt_of_lt_of_le hi h.size) (fun e => by have := hrow i e.symm; omega)).trans (h.block i hi hne)⟩
theorem Step.row {g : Nat} {s : List UInt8} {a : Nat} {e : Int} {w w1 w2 : World} {row : Option Nat} (h : Step g s a e w w1) (hg : w1.grownBy w2 row) (hrow : ∀ k, row = some k → w.heap.size ≤ k) (hl : g < w.heap.size) : Step g s a e w w2 :=
  ⟨(hg.block g h.r.lt (fun e => by have := hrow g e.symm; omega)).trans h.r, gb_new h.gb hg hrow⟩
theorem own_ne_low {w : World} {base n g : Nat} {e : TypeId} {size : Nat} {v : Value} {xs : List Value} (h : w.ownsRow base e size v n xs) (hl : g < base) : v.ownBlock = none ∨ v.ownBlock ≠ some g :=
  .inr fun e => by have := (h.lt g e).1; omega
def RowPost (g : Nat) (s : List UInt8) (a : Nat) (w : World) (r : Except Int (List (List UInt8) × Nat)) (o : Ending) (w' : World) : Prop :=
  match r with
  | .ok (L, n) => ∃ v, o = .returned v ∧ w'.ownsRow w.heap.size 24 32 v L.length (idsV L) ∧ (∀ x ∈ L, x.length = 32) ∧ a + n ≤ s.length ∧ Step g s (a + n) 0 w w'
  | .error e => ∃ a' v, o = .returned v ∧ a' ≤ s.length ∧ e ≠ 0 ∧ Step g s a' e w w'
set_option maxRecDepth 100000 in
set_option maxHeartbeats 20000000 in
theorem pkRowId_any (g : Nat) (s : List UInt8) (a : Nat) (most : Int) (hs : s.length ≤ 1000000000000) (ha : a ≤ s.length) (w : World) (hr : Rdr g s a 0 w) :
    Calls Try.prog 84 #[.pointer (some ⟨g, 0, none⟩), .int .i64 most, .func (.func 79) #[.pointer (some ⟨g, 0, none⟩)] #[]] w fun o w' => RowPost g s a w (rowsR idR most (s.drop a)) o w' := by
  have hg := enters_of Try.func79 (by kernel_rfl) rfl
  obtain ⟨j0, hj, hjz, hjs, hjb⟩ := infoId2_parts
  have hlt := hr.lt
  have cC := pkCount_any g s a most hs ha w hr
  cases hc : cntN most (s.drop a) with
  | error e =>
    rw [hc] at cC
    rw [rowsR_bad _ _ _ _ hc]
    clear hc
    have cL : ∀ W a', a' ≤ s.length → Rdr g s a' e W → Calls Try.prog 89 #[.pointer (some ⟨g, 0, none⟩)] W fun e w' => e = .returned (.int .i64 (s.length - a' : Nat)) ∧ ∃ n, w' = W.drewN n := fun W a' h1 h => pkLeft_any g s a' e h1 hs W h
    clear hr
    go_enter Try.func84, Try.ntmps84
    go_wp2_with (first
      | (go_at_call 77; (with_reducible refine cC.mono ?_); rintro o1 w1 ⟨a', rfl, ha', he, h1⟩; obtain ⟨Lf, hLf⟩ : ∃ Lf : Nat, Lf = s.length - a' := ⟨_, rfl⟩; have cL2 := cL w1 a' ha' h1.r; rw [← hLf] at cL2; have hLb : Lf ≤ 1000000000000 := (by omega); have hq : ((Lf : Int)).tdiv 32 = (Lf : Int) / 32 := Int.tdiv_eq_ediv_of_nonneg (by omega); clear hLf)
      | (go_at_call 89; (with_reducible refine cL2.mono ?_); rintro o2 w2 ⟨rfl, nq, rfl⟩)
      | (at_make; refine wpList_make_own _ rfl _ _ 22 rfl w.heap.size 24 j0 (.agg (idVals zeroB)) 32 Try.underlying22 hj hjz hjs _ _ _ 0 rfl rfl ?m1 ?m2 ?m3 ?m4 ?_))
    case m1 => omega
    case m2 => rw [hjb]; omega
    case m3 => unfold maxLen; omega
    case m4 => exact h1.gb.size
    intro w3 hown3 hg3
    have hs3 : Step g s a' e w w3 := (h1.trans (Step.drew h1.r nq)).row hg3 (by intro k e; cases e) hlt
    clear hown3 hg3 cL2 cL cC
    go_wp2
    go_loopw [8, 19] (fun _ i wr => i = .int .i64 0 ∧ Step g s a' e w wr) (fun _ _ _ => 0)
    case atStart => exact ⟨rfl, hs3⟩
    case round =>
      obtain ⟨rfl, hst⟩ := hrel
      go_wp2
      go_ret
      exact ⟨_, _, rfl, ha', he, hst⟩
  | ok q =>
    obtain ⟨n, k⟩ := q
    rw [hc] at cC
    rw [rowsR_ok _ _ _ _ _ hc, List.drop_drop]
    have hka : a + k ≤ s.length := by
      unfold cntN at hc
      cases hs2 : scanN 0 0 (s.drop a) with
      | ok pr =>
        obtain ⟨v2, n2⟩ := pr
        rw [hs2] at hc
        simp only at hc
        split at hc
        · cases hc
        · injection hc with e1
          injection e1 with e2 e3
          rw [← e3]
          exact scanN_len s a v2 n2 hs2 ha
      | error e => rw [hs2] at hc; cases hc
    clear hc
    obtain ⟨R0, hR0⟩ : ∃ R0, R0 = leftR [] k (rowR idR n (s.drop (a + k))) := ⟨_, rfl⟩
    rw [← hR0]
    obtain ⟨Lf, hLf⟩ : ∃ Lf : Nat, Lf = s.length - (a + k) := ⟨_, rfl⟩
    have cL : ∀ W, Rdr g s (a + k) 0 W → Calls Try.prog 89 #[.pointer (some ⟨g, 0, none⟩)] W fun e w' => e = .returned (.int .i64 Lf) ∧ ∃ n, w' = W.drewN n := fun W h => by rw [hLf]; exact pkLeft_any g s (a + k) 0 hka hs W h
    have hLb : Lf ≤ 1000000000000 := by omega
    have hq : ((Lf : Int)).tdiv 32 = (Lf : Int) / 32 := Int.tdiv_eq_ediv_of_nonneg (by omega)
    have HR0 := hid hR0
    clear hR0 hLf hr
    go_enter Try.func84, Try.ntmps84
    go_wp2_with (first
      | (go_at_call 77; (with_reducible refine cC.mono ?_); rintro o1 w1 ⟨rfl, h1⟩)
      | (go_at_call 89; (with_reducible refine (cL _ h1.r).mono ?_); rintro o2 w2 ⟨rfl, nq, rfl⟩)
      | (at_make; refine wpList_make_own _ rfl _ _ 22 rfl w.heap.size 24 j0 (.agg (idVals zeroB)) 32 Try.underlying22 hj hjz hjs _ _ _ (min n (Lf / 32)) rfl rfl ?m1 ?m2 ?m3 ?m4 ?_))
    case m1 => omega
    case m2 => rw [hjb]; omega
    case m3 => unfold maxLen; omega
    case m4 => exact h1.gb.size
    intro w3 hown3 hg3
    have hs3 : Step g s (a + k) 0 w w3 := (h1.trans (Step.drew h1.r nq)).row hg3 (by intro k e; cases e) hlt
    go_wp2
    go_loopw [8, 19] (fun v i wr => ∃ (c p : Nat) (xs : List (List UInt8)), c ≤ n ∧ i = .int .i64 c ∧ xs.length = c ∧ p = k + 32 * c ∧ a + p ≤ s.length ∧ (∀ x ∈ xs, x.length = 32) ∧ R0 = leftR xs p (rowR idR (n - c) (s.drop (a + p))) ∧ wr.ownsRow w.heap.size 24 32 v c (idsV xs) ∧ Step g s (a + p) 0 w wr) (fun _ i _ => n - (intOf i).toNat)
    case atStart => exact ⟨0, k, [], Nat.zero_le _, rfl, rfl, rfl, hka, by simp, HR0.out, hown3, hs3⟩
    case round =>
      obtain ⟨c, p, xs, hc, rfl, hxl, hp, hap, hx32, hR, hown, hst⟩ := hrel
      clear hown3 hs3 hg3 h1 cC cL HR0
      by_cases hcn : c < n
      · have b1 : (c : Int) < n := by omega
        have hnc : n - c = (n - (c + 1)) + 1 := by omega
        rw [hnc] at hR
        have cS := pkSum_any g s (a + p) hs hap wr hst.r
        cases hi : idR (s.drop (a + p)) with
        | ok q =>
          obtain ⟨X, m⟩ := q
          rw [hi] at cS
          have hstep := leftR_step idR (n - (c + 1)) xs p m X _ hi
          rw [List.drop_drop] at hstep
          rw [hstep] at hR
          have hm : m = 32 ∧ a + p + 32 ≤ s.length := by
            unfold idR at hi
            split at hi
            · rename_i h5
              injection hi with hi
              injection hi with _ h6
              rw [List.length_drop] at h5
              exact ⟨h6.symm, by omega⟩
            · cases hi
          obtain ⟨rfl, hm2⟩ := hm
          have HR := hid hR
          have HXL := hid hxl
          have HX32 := hid hx32
          clear hi hstep hR hxl hx32
          have hc30 : c ≤ 100000000000 := by omega
          go_wp2_with (first
            | ((with_reducible refine cS.mono ?_); rintro o4 w4 ⟨rfl, hXl, h4⟩; have hown4 := hown.kept h4.gb (own_ne_low hown hlt); have hst4 := hst.trans h4)
            | ((with_reducible refine wpList_build1 rfl _ rfl X hXl rfl ?_); intro cs hcs)
            | (at_builtin; refine wpList_append_own _ rfl _ _ 22 rfl w.heap.size 24 j0 (.agg (idVals zeroB)) 32 32 Try.underlying22 hj hjz hjs hjb rfl (by decide) _ _ _ rfl (hown4.alloc _) ⟨w4.heap.size, 0, none⟩ 1 1 (X.map u8v) rfl ?l1 hcs (u8v_one X) ?l2 ?l3 ?l4 ?_))
          case l1 => rw [List.length_map, hXl]
          case l2 => unfold maxLen; omega
          case l3 => omega
          case l4 => (try simp); have := hst4.gb.size; omega
          intro v8 w8 hown8 hg8 _
          have hstA : Step g s (a + p + 32) 0 w (w4.alloc (.cells cs 24)) := hst4.below ((Below.refl _ _).alloc (Nat.le_refl _) _)
          have hst8 := hstA.row hg8 (fun k hk => (hown4.lt k hk).1) hlt
          have c2 := hst8.r.c2
          clear hg8 hstA
          go_wp2
          go_roundw
          case rel => exact ⟨c + 1, p + 32, xs ++ [X], hcn, by go_num, by rw [List.length_append, HXL.out]; rfl, by omega, by omega, snoc32 HX32.out hXl, by rw [← Nat.add_assoc]; exact HR.out, (by rw [idsV_snoc]; exact hown8), hst8⟩
          case measure => simp [intOf]; omega
        | error e =>
          rw [hi] at cS
          rw [leftR_bad idR _ xs p e _ hi] at hR
          have HR := hid hR
          have hzl : zeroB.length = 32 := rfl
          have hc30 : c ≤ 100000000000 := by omega
          clear hi hR
          go_wp2_with (first
            | ((with_reducible refine cS.mono ?_); rintro o4 w4 ⟨rfl, he, h4⟩; have hown4 := hown.kept h4.gb (own_ne_low hown hlt); have hst4 := hst.trans h4; have hne : (e != 0) = true := (by simpa using he))
            | ((with_reducible refine wpList_build1 rfl _ rfl zeroB hzl rfl ?_); intro cs hcs)
            | (at_builtin; refine wpList_append_own _ rfl _ _ 22 rfl w.heap.size 24 j0 (.agg (idVals zeroB)) 32 32 Try.underlying22 hj hjz hjs hjb rfl (by decide) _ _ _ rfl (hown4.alloc _) ⟨w4.heap.size, 0, none⟩ 1 1 (zeroB.map u8v) rfl ?l1 hcs (u8v_one zeroB) ?l2 ?l3 ?l4 ?_))
          case l1 => rw [List.length_map, hzl]
          case l2 => unfold maxLen; omega
          case l3 => omega
          case l4 => (try simp); have := hst4.gb.size; omega
          intro v8 w8 hown8 hg8 _
          have hstA : Step g s (a + p) e w (w4.alloc (.cells cs 24)) := hst4.below ((Below.refl _ _).alloc (Nat.le_refl _) _)
          have hst8 := hstA.row hg8 (fun k hk => (hown4.lt k hk).1) hlt
          have c2 := hst8.r.c2
          clear hg8 hstA
          go_wp2
          go_ret
          rw [HR.out]
          exact ⟨_, _, rfl, hap, he, hst8⟩
      · obtain rfl : c = n := by omega
        rw [Nat.sub_self, rowR] at hR
        have b1 : ¬ (c : Int) < c := by omega
        have HR := hid hR
        clear hR
        go_wp2
        go_ret
        rw [HR.out]
        exact ⟨_, rfl, (by rw [List.append_nil, hxl]; exact hown), (by rw [List.append_nil]; exact hx32), (by rw [Nat.add_zero]; exact hap), hst⟩
end Go.Proofs.Ythpdkdalfjahcaa

namespace Go.Proofs.Ythpdkdalfjahcaa
open Go.RowKit Go.Qc Go.Shelf
attribute [local go_sem] txt_size txt_append ib_fold

def RowsPost (g : Nat) (s : List UInt8) (a : Nat) (w : World) (r : Except Int (List (List UInt8) × Nat)) (o : Ending) (w' : World) : Prop :=
  match r with
  | .ok (L, n) => ∃ v, o = .returned v ∧ w'.ownsRow w.heap.size 24 32 v L.length (idsV L) ∧ (∀ x ∈ L, x.length = 32) ∧ a + n ≤ s.length ∧ Step g s (a + n) 0 w w'
  | .error e => o = .returned (.slice none 0 0) ∧ e ≠ 0 ∧ Step g s a e w w'
theorem pkIds1_any (g : Nat) (s : List UInt8) (a : Nat) (most : Int) (hs : s.length ≤ 1000000000000) (ha : a ≤ s.length) (p q : Nat) (w : World) (hr : Rdr g s a 0 w) (h1 : w.cell? ⟨p, 0, none⟩ = some (.pointer (some ⟨g, 0, none⟩))) (h2 : w.cell? ⟨q, 0, none⟩ = some (.int .i64 most)) :
    Calls Try.prog 83 #[.pointer (some ⟨p, 0, none⟩), .pointer (some ⟨q, 0, none⟩)] w fun o w' => RowPost g s a w (rowsR idR most (s.drop a)) o w' := by
  have cR := pkRowId_any g s a most hs ha w hr
  clear hr
  cases hb : rowsR idR most (s.drop a) with
  | ok z =>
    obtain ⟨L, n⟩ := z
    rw [hb] at cR
    clear hb
    go_enter Try.func83, Try.ntmps83
    go_wp2_with (first
      | (go_at_call 84; (with_reducible refine cR.mono ?_); rintro o1 w1 ⟨v, rfl, h3, h4, h5, h6⟩))
    go_ret
    exact ⟨_, rfl, h3, h4, h5, h6⟩
  | error e =>
    rw [hb] at cR
    clear hb
    go_enter Try.func83, Try.ntmps83
    go_wp2_with (first
      | (go_at_call 84; (with_reducible refine cR.mono ?_); rintro o1 w1 ⟨a', v, rfl, h3, h4, h5⟩))
    go_ret
    exact ⟨_, _, rfl, h3, h4, h5⟩
set_option maxHeartbeats 4000000 in
theorem pkReadIds_any (g : Nat) (s : List UInt8) (a : Nat) (most : Int) (hs : s.length ≤ 1000000000000) (ha : a ≤ s.length) (p q : Nat) (w : World) (hr : Rdr g s a 0 w) (h1 : w.cell? ⟨p, 0, none⟩ = some (.pointer (some ⟨g, 0, none⟩))) (h2 : w.cell? ⟨q, 0, none⟩ = some (.int .i64 most)) :
    Calls Try.prog 82 #[.pointer (some ⟨g, 0, none⟩), .func (.func 83) #[] #[.pointer (some ⟨p, 0, none⟩), .pointer (some ⟨q, 0, none⟩)]] w fun o w' => RowsPost g s a w (rowsR idR most (s.drop a)) o w' := by
  have hg := enters_of Try.func83 (by kernel_rfl) rfl
  have cN := pkIds1_any g s a most hs ha p q w hr h1 h2
  have c1 := hr.c1
  have c2 := hr.c2
  clear h1 h2
  cases hb : rowsR idR most (s.drop a) with
  | ok z =>
    obtain ⟨L, n⟩ := z
    rw [hb] at cN
    clear hb
    go_enter Try.func82, Try.ntmps82
    go_wp2_with (first
      | ((with_reducible refine cN.mono ?_); rintro o1 w1 ⟨v, rfl, h3, h4, h5, h6⟩; have c3 := h6.r.c2))
    go_ret
    exact ⟨_, rfl, h3, h4, h5, h6⟩
  | error e =>
    rw [hb] at cN
    clear hb
    go_enter Try.func82, Try.ntmps82
    go_wp2_with (first
      | ((with_reducible refine cN.mono ?_); rintro o1 w1 ⟨a', v, rfl, ha', he, h1⟩; have c3 := h1.r.c2; have c4 := h1.r.c1; have f1 := h1.r.f 1; have hne : (e != 0) = true := (by simpa using he)))
    go_ret
    exact ⟨rfl, he, h1.r.setA a, gb_set h1.gb 1 _⟩
set_option maxHeartbeats 4000000 in
theorem pkIdsR_any (g : Nat) (s : List UInt8) (a : Nat) (most : Int) (hs : s.length ≤ 1000000000000) (ha : a ≤ s.length) (w : World) (hr : Rdr g s a 0 w) :
    Calls Try.prog 39 #[.pointer (some ⟨g, 0, none⟩), .int .i64 most] w fun o w' => RowsPost g s a w (rowsR idR most (s.drop a)) o w' := by
  have hk : (w.alloc (.cells #[.pointer (some ⟨g, 0, none⟩)] 51)).heap.size = w.heap.size + 1 := by simp
  have b1 := (Blk.new w 51 #[.pointer (some ⟨g, 0, none⟩)]).alloc (.cells #[.int .i64 most] 3)
  have b2 := Blk.new (w.alloc (.cells #[.pointer (some ⟨g, 0, none⟩)] 51)) 3 #[.int .i64 most]
  rw [hk] at b2
  have hr2 : Rdr g s a 0 ((w.alloc (.cells #[.pointer (some ⟨g, 0, none⟩)] 51)).alloc (.cells #[.int .i64 most] 3)) := (Blk.alloc hr _).alloc _
  have hB : Below w.heap.size w ((w.alloc (.cells #[.pointer (some ⟨g, 0, none⟩)] 51)).alloc (.cells #[.int .i64 most] 3)) := ((Below.refl _ w).alloc (Nat.le_refl _) _).alloc (by simp) _
  have hst : Step g s a 0 w ((w.alloc (.cells #[.pointer (some ⟨g, 0, none⟩)] 51)).alloc (.cells #[.int .i64 most] 3)) := (Step.same hr).below hB
  have cR := pkReadIds_any g s a most hs ha w.heap.size (w.heap.size + 1) _ hr2 (b1.cell_ (i := 0) rfl) (b2.cell_ (i := 0) rfl)
  have e1 : ((w.alloc (.cells #[.pointer (some ⟨g, 0, none⟩)] 51)).alloc (.cells #[.int .i64 most] 3)).cell? ⟨w.heap.size, 0, none⟩ = some (.pointer (some ⟨g, 0, none⟩)) := b1.cell_ rfl
  have HBS := hid hB.size
  clear b1 b2 hr2 hk hr hB
  cases hb : rowsR idR most (s.drop a) with
  | ok z =>
    obtain ⟨L, n⟩ := z
    rw [hb] at cR
    clear hb
    go_enter Try.func39, Try.ntmps39
    go_wp2_with (first
      | (go_at_call 82; (with_reducible refine cR.mono ?_); rintro o1 w1 ⟨v, rfl, h3, h4, h5, h6⟩))
    go_ret
    exact ⟨_, rfl, own_base h3 HBS.out, h4, h5, hst.trans h6⟩
  | error e =>
    rw [hb] at cR
    clear hb
    go_enter Try.func39, Try.ntmps39
    go_wp2_with (first
      | (go_at_call 82; (with_reducible refine cR.mono ?_); rintro o1 w1 ⟨rfl, he, h6⟩))
    go_ret
    exact ⟨rfl, he, hst.trans h6⟩
end Go.Proofs.Ythpdkdalfjahcaa

namespace Go.Proofs.Ythpdkdalfjahcaa
open Go.RowKit Go.Qc Go.Shelf
attribute [local go_sem] txt_size txt_append ib_fold

theorem infoStr : (Try.prog.info? 9).map (fun i => (i.zero, i.size, i.bytes)) = some (some (.string ⟨#[]⟩), 1, 16) := by kernel_rfl
theorem Step.old {g : Nat} {s : List UInt8} {a : Nat} {e : Int} {w w1 w2 : World} (h : Step g s a e w w1) (hb : Below w.heap.size w1 w2) (hl : g < w.heap.size) : Step g s a e w w2 :=
  ⟨(hb.block g hl).trans h.r, ⟨hb.os.trans h.gb.os, hb.tape.trans h.gb.tape, hb.output.trans h.gb.output, Nat.le_trans h.gb.size hb.size, fun i hi hne => (hb.block i hi).trans (h.gb.block i hi hne)⟩⟩
theorem textR_len {long : Int} {s : List UInt8} {a : Nat} {t : List UInt8} {m : Nat} (h : textR long (s.drop a) = .ok (t, m)) (ha : a ≤ s.length) : 1 ≤ m ∧ a + m ≤ s.length := by
  unfold textR cntN at h
  cases hsc : scanN 0 0 (s.drop a) with
  | error e => rw [hsc] at h; cases h
  | ok p =>
    obtain ⟨v, k0⟩ := p
    rw [hsc] at h
    obtain ⟨k, X, hn, hk, hkl, _⟩ := scanN_back _ _ _ _ _ hsc
    simp only at h
    split at h
    · rename_i v2 n2 heq
      split at heq
      · cases heq
      · injection heq with heq
        injection heq with q1 q2
        subst q1 q2
        split at h
        · rename_i hle
          injection h with h
          injection h with q3 q4
          rw [List.length_drop] at hle
          omega
        · cases h
    · rename_i heq
      split at heq
      · injection heq with heq; subst heq; cases h
      · cases heq
theorem pkTexts2_any (g : Nat) (s : List UInt8) (a : Nat) (long : Int) (hs : s.length ≤ 1000000000000) (ha : a ≤ s.length) (p q : Nat) (w : World) (hr : Rdr g s a 0 w) (h1 : w.cell? ⟨p, 0, none⟩ = some (.pointer (some ⟨g, 0, none⟩))) (h2 : w.cell? ⟨q, 0, none⟩ = some (.int .i64 long)) :
    Calls Try.prog 88 #[.pointer (some ⟨p, 0, none⟩), .pointer (some ⟨q, 0, none⟩)] w fun o w' => ReadPost strT (.string ⟨#[]⟩) g s a w (textR long (s.drop a)) o w' := by
  have cR := pkText_any g s a long hs ha w hr
  clear hr
  cases hb : textR long (s.drop a) with
  | ok z =>
    obtain ⟨L, n⟩ := z
    rw [hb] at cR
    clear hb
    go_enter Try.func88, Try.ntmps88
    go_wp2_with (first
      | (go_at_call 36; (with_reducible refine cR.mono ?_); rintro o1 w1 ⟨rfl, h3⟩))
    go_ret
    exact ⟨rfl, h3⟩
  | error e =>
    rw [hb] at cR
    clear hb
    go_enter Try.func88, Try.ntmps88
    go_wp2_with (first
      | (go_at_call 36; (with_reducible refine cR.mono ?_); rintro o1 w1 ⟨rfl, he, h3⟩))
    go_ret
    exact ⟨rfl, he, h3⟩
def StrsPost (g : Nat) (s : List UInt8) (a : Nat) (w : World) (r : Except Int (List (List UInt8) × Nat)) (o : Ending) (w' : World) : Prop :=
  match r with
  | .ok (L, n) => ∃ v, o = .returned v ∧ w'.ownsRow w.heap.size 9 1 v L.length (L.map strV) ∧ a + n ≤ s.length ∧ Step g s (a + n) 0 w w'
  | .error e => ∃ a' v, o = .returned v ∧ a' ≤ s.length ∧ e ≠ 0 ∧ Step g s a' e w w'
set_option maxRecDepth 100000 in
set_option maxHeartbeats 20000000 in
theorem pkRowTexts_any (g : Nat) (s : List UInt8) (a : Nat) (most long : Int) (hs : s.length ≤ 1000000000000) (ha : a ≤ s.length) (p0 q0 : Nat) (hp0 : p0 ≠ g) (hq0 : q0 ≠ g) (w : World) (hr : Rdr g s a 0 w) (h1p : w.cell? ⟨p0, 0, none⟩ = some (.pointer (some ⟨g, 0, none⟩))) (h2q : w.cell? ⟨q0, 0, none⟩ = some (.int .i64 long)) :
    Calls Try.prog 87 #[.pointer (some ⟨g, 0, none⟩), .int .i64 most, .func (.func 88) #[] #[.pointer (some ⟨p0, 0, none⟩), .pointer (some ⟨q0, 0, none⟩)]] w fun o w' => StrsPost g s a w (rowsR (textR long) most (s.drop a)) o w' := by
  have hg := enters_of Try.func88 (by kernel_rfl) rfl
  obtain ⟨j0, hj, hjz, hjs, hjb⟩ := info_parts infoStr
  have hlt := hr.lt
  have cC := pkCount_any g s a most hs ha w hr
  have cX : ∀ wr b, b ≤ s.length → Rdr g s b 0 wr → w.grownBy wr (some g) → Calls Try.prog 88 #[.pointer (some ⟨p0, 0, none⟩), .pointer (some ⟨q0, 0, none⟩)] wr fun o w' => ReadPost strT (.string ⟨#[]⟩) g s b wr (textR long (s.drop b)) o w' := fun wr b hb h hgb => pkTexts2_any g s b long hs hb p0 q0 wr h (cell_gb h1p hgb hp0) (cell_gb h2q hgb hq0)
  clear h1p h2q
  cases hc : cntN most (s.drop a) with
  | error e =>
    rw [hc] at cC
    rw [rowsR_bad _ _ _ _ hc]
    clear hc
    have cL : ∀ W a', a' ≤ s.length → Rdr g s a' e W → Calls Try.prog 89 #[.pointer (some ⟨g, 0, none⟩)] W fun e w' => e = .returned (.int .i64 (s.length - a' : Nat)) ∧ ∃ n, w' = W.drewN n := fun W a' h1 h => pkLeft_any g s a' e h1 hs W h
    clear hr cX
    go_enter Try.func87, Try.ntmps87
    go_wp2_with (first
      | (go_at_call 77; (with_reducible refine cC.mono ?_); rintro o1 w1 ⟨a', rfl, ha', he, h1⟩; obtain ⟨Lf, hLf⟩ : ∃ Lf : Nat, Lf = s.length - a' := ⟨_, rfl⟩; have cL2 := cL w1 a' ha' h1.r; rw [← hLf] at cL2; have hLb : Lf ≤ 1000000000000 := (by omega); have hq : ((Lf : Int)).tdiv 32 = (Lf : Int) / 32 := Int.tdiv_eq_ediv_of_nonneg (by omega); clear hLf)
      | (go_at_call 89; (with_reducible refine cL2.mono ?_); rintro o2 w2 ⟨rfl, nq, rfl⟩)
      | (at_make; refine wpList_make_own _ rfl _ _ 32 rfl w.heap.size 9 j0 (.string ⟨#[]⟩) 1 Try.underlying32 hj hjz hjs _ _ _ 0 rfl rfl ?m1 ?m2 ?m3 ?m4 ?_))
    case m1 => omega
    case m2 => rw [hjb]; omega
    case m3 => unfold maxLen; omega
    case m4 => exact h1.gb.size
    intro w3 hown3 hg3
    have hs3 : Step g s a' e w w3 := (h1.trans (Step.drew h1.r nq)).row hg3 (by intro k e; cases e) hlt
    clear hown3 hg3 cL2 cL cC
    go_wp2
    go_loopw [8, 19] (fun _ i wr => i = .int .i64 0 ∧ Step g s a' e w wr) (fun _ _ _ => 0)
    case atStart => exact ⟨rfl, hs3⟩
    case round =>
      obtain ⟨rfl, hst⟩ := hrel
      go_wp2
      go_ret
      exact ⟨_, _, rfl, ha', he, hst⟩
  | ok q =>
    obtain ⟨n, k⟩ := q
    rw [hc] at cC
    rw [rowsR_ok _ _ _ _ _ hc, List.drop_drop]
    have hka : a + k ≤ s.length := by
      unfold cntN at hc
      cases hs2 : scanN 0 0 (s.drop a) with
      | ok pr =>
        obtain ⟨v2, n2⟩ := pr
        rw [hs2] at hc
        simp only at hc
        split at hc
        · cases hc
        · injection hc with e1
          injection e1 with e2 e3
          rw [← e3]
          exact scanN_len s a v2 n2 hs2 ha
      | error e => rw [hs2] at hc; cases hc
    clear hc
    obtain ⟨R0, hR0⟩ : ∃ R0, R0 = leftR [] k (rowR (textR long) n (s.drop (a + k))) := ⟨_, rfl⟩
    rw [← hR0]
    obtain ⟨Lf, hLf⟩ : ∃ Lf : Nat, Lf = s.length - (a + k) := ⟨_, rfl⟩
    have cL : ∀ W, Rdr g s (a + k) 0 W → Calls Try.prog 89 #[.pointer (some ⟨g, 0, none⟩)] W fun e w' => e = .returned (.int .i64 Lf) ∧ ∃ n, w' = W.drewN n := fun W h => by rw [hLf]; exact pkLeft_any g s (a + k) 0 hka hs W h
    have hLb : Lf ≤ 1000000000000 := by omega
    have hq : ((Lf : Int)).tdiv 32 = (Lf : Int) / 32 := Int.tdiv_eq_ediv_of_nonneg (by omega)
    have HR0 := hid hR0
    clear hR0 hLf hr
    go_enter Try.func87, Try.ntmps87
    go_wp2_with (first
      | (go_at_call 77; (with_reducible refine cC.mono ?_); rintro o1 w1 ⟨rfl, h1⟩)
      | (go_at_call 89; (with_reducible refine (cL _ h1.r).mono ?_); rintro o2 w2 ⟨rfl, nq, rfl⟩)
      | (at_make; refine wpList_make_own _ rfl _ _ 32 rfl w.heap.size 9 j0 (.string ⟨#[]⟩) 1 Try.underlying32 hj hjz hjs _ _ _ (min n (Lf / 32)) rfl rfl ?m1 ?m2 ?m3 ?m4 ?_))
    case m1 => omega
    case m2 => rw [hjb]; omega
    case m3 => unfold maxLen; omega
    case m4 => exact h1.gb.size
    intro w3 hown3 hg3
    have hs3 : Step g s (a + k) 0 w w3 := (h1.trans (Step.drew h1.r nq)).row hg3 (by intro k e; cases e) hlt
    go_wp2
    go_loopw [8, 19] (fun v i wr => ∃ (c p : Nat) (xs : List (List UInt8)), c ≤ n ∧ i = .int .i64 c ∧ xs.length = c ∧ c ≤ p ∧ a + p ≤ s.length ∧ R0 = leftR xs p (rowR (textR long) (n - c) (s.drop (a + p))) ∧ wr.ownsRow w.heap.size 9 1 v c (xs.map strV) ∧ Step g s (a + p) 0 w wr) (fun _ i _ => n - (intOf i).toNat)
    case atStart => exact ⟨0, k, [], Nat.zero_le _, rfl, rfl, Nat.zero_le _, hka, HR0.out, hown3, hs3⟩
    case round =>
      obtain ⟨c, p, xs, hc, rfl, hxl, hp, hap, hR, hown, hst⟩ := hrel
      clear hown3 hs3 hg3 h1 cC cL HR0
      by_cases hcn : c < n
      · have b1 : (c : Int) < n := by omega
        have hnc : n - c = (n - (c + 1)) + 1 := by omega
        rw [hnc] at hR
        have cS := cX wr (a + p) hap hst.r hst.gb
        have hc30 : c ≤ 1000000000000 := by omega
        have hwz := hst.gb.size
        clear cX
        cases hi : textR long (s.drop (a + p)) with
        | ok q =>
          obtain ⟨X, m⟩ := q
          rw [hi] at cS
          dsimp only [ReadPost, strT] at cS
          have hstep := leftR_step (textR long) (n - (c + 1)) xs p m X _ hi
          rw [List.drop_drop] at hstep
          rw [hstep] at hR
          obtain ⟨hm1, hm2⟩ := textR_len hi hap
          have HR := hid hR
          have HXL := hid hxl
          clear hi hstep hR hxl
          go_wp2_with (first
            | ((with_reducible refine cS.mono ?_); rintro o4 w4 ⟨rfl, h4⟩; have hown4 := hown.kept h4.gb (own_ne_low hown hlt); have hst4 := hst.trans h4; have hw4 := hst4.gb.size)
            | (at_builtin; refine wpList_append_new rfl _ _ 32 rfl w.heap.size 9 j0 (.string ⟨#[]⟩) 16 Try.underlying32 hj hjz hjs hjb rfl _ _ _ rfl hown4 1 _ rfl rfl ?l1 ?l2 ?l3 hw4 ?_))
          case l1 => simp [Value.oneCell']
          case l2 => unfold maxLen; omega
          case l3 => omega
          intro v8 w8 hown8 hb8
          have hst8 := hst4.old hb8 hlt
          have c2 := hst8.r.c2
          clear hb8
          go_wp2
          go_roundw
          case rel => exact ⟨c + 1, p + m, xs ++ [X], hcn, by go_num, by rw [List.length_append, HXL.out]; rfl, by omega, by omega, by rw [← Nat.add_assoc]; exact HR.out, (by rw [List.map_append]; exact hown8), (by rw [← Nat.add_assoc]; exact hst8)⟩
          case measure => simp [intOf]; omega
        | error e =>
          rw [hi] at cS
          dsimp only [ReadPost, strT] at cS
          rw [leftR_bad (textR long) _ xs p e _ hi] at hR
          have HR := hid hR
          clear hi hR
          go_wp2_with (first
            | ((with_reducible refine cS.mono ?_); rintro o4 w4 ⟨rfl, he, h4⟩; have hown4 := hown.kept h4.gb (own_ne_low hown hlt); have hst4 := hst.trans h4; have hw4 := hst4.gb.size; have hne : (e != 0) = true := (by simpa using he))
            | (at_builtin; refine wpList_append_new rfl _ _ 32 rfl w.heap.size 9 j0 (.string ⟨#[]⟩) 16 Try.underlying32 hj hjz hjs hjb rfl _ _ _ rfl hown4 1 _ rfl rfl ?l1 ?l2 ?l3 hw4 ?_))
          case l1 => simp [Value.oneCell']
          case l2 => unfold maxLen; omega
          case l3 => omega
          intro v8 w8 hown8 hb8
          have hst8 := hst4.old hb8 hlt
          have c2 := hst8.r.c2
          clear hb8
          go_wp2
          go_ret
          rw [HR.out]
          exact ⟨_, _, rfl, hap, he, hst8⟩
      · obtain rfl : c = n := by omega
        rw [Nat.sub_self, rowR] at hR
        have b1 : ¬ (c : Int) < c := by omega
        have HR := hid hR
        clear hR
        go_wp2
        go_ret
        rw [HR.out]
        exact ⟨_, rfl, (by rw [List.append_nil, hxl]; exact hown), (by rw [Nat.add_zero]; exact hap), hst⟩
end Go.Proofs.Ythpdkdalfjahcaa

namespace Go.Proofs.Ythpdkdalfjahcaa
open Go.RowKit Go.Qc Go.Shelf
attribute [local go_sem] txt_size txt_append ib_fold

def TextsPost (g : Nat) (s : List UInt8) (a : Nat) (w : World) (r : Except Int (List (List UInt8) × Nat)) (o : Ending) (w' : World) : Prop :=
  match r with
  | .ok (L, n) => ∃ v, o = .returned v ∧ w'.ownsRow w.heap.size 9 1 v L.length (L.map strV) ∧ a + n ≤ s.length ∧ Step g s (a + n) 0 w w'
  | .error e => o = .returned (.slice none 0 0) ∧ e ≠ 0 ∧ Step g s a e w w'
theorem pkTexts1_any (g : Nat) (s : List UInt8) (a : Nat) (most long : Int) (hs : s.length ≤ 1000000000000) (ha : a ≤ s.length) (p q u : Nat) (hp : p ≠ g) (hu : u ≠ g) (w : World) (hr : Rdr g s a 0 w) (h1 : w.cell? ⟨p, 0, none⟩ = some (.pointer (some ⟨g, 0, none⟩))) (h2 : w.cell? ⟨q, 0, none⟩ = some (.int .i64 most)) (h3 : w.cell? ⟨u, 0, none⟩ = some (.int .i64 long)) :
    Calls Try.prog 86 #[.pointer (some ⟨p, 0, none⟩), .pointer (some ⟨q, 0, none⟩), .pointer (some ⟨u, 0, none⟩)] w fun o w' => StrsPost g s a w (rowsR (textR long) most (s.drop a)) o w' := by
  have cR := pkRowTexts_any g s a most long hs ha p u hp hu w hr h1 h3
  clear hr
  cases hb : rowsR (textR long) most (s.drop a) with
  | ok z =>
    obtain ⟨L, n⟩ := z
    rw [hb] at cR
    clear hb
    go_enter Try.func86, Try.ntmps86
    go_wp2_with (first
      | (go_at_call 87; (with_reducible refine cR.mono ?_); rintro o1 w1 ⟨v, rfl, h4, h5, h6⟩))
    go_ret
    exact ⟨_, rfl, h4, h5, h6⟩
  | error e =>
    rw [hb] at cR
    clear hb
    go_enter Try.func86, Try.ntmps86
    go_wp2_with (first
      | (go_at_call 87; (with_reducible refine cR.mono ?_); rintro o1 w1 ⟨a', v, rfl, h3, h4, h5⟩))
    go_ret
    exact ⟨_, _, rfl, h3, h4, h5⟩
set_option maxHeartbeats 4000000 in
theorem pkReadTexts_any (g : Nat) (s : List UInt8) (a : Nat) (most long : Int) (hs : s.length ≤ 1000000000000) (ha : a ≤ s.length) (p q u : Nat) (hp : p ≠ g) (hu : u ≠ g) (w : World) (hr : Rdr g s a 0 w) (h1 : w.cell? ⟨p, 0, none⟩ = some (.pointer (some ⟨g, 0, none⟩))) (h2 : w.cell? ⟨q, 0, none⟩ = some (.int .i64 most)) (h3 : w.cell? ⟨u, 0, none⟩ = some (.int .i64 long)) :
    Calls Try.prog 85 #[.pointer (some ⟨g, 0, none⟩), .func (.func 86) #[] #[.pointer (some ⟨p, 0, none⟩), .pointer (some ⟨q, 0, none⟩), .pointer (some ⟨u, 0, none⟩)]] w fun o w' => TextsPost g s a w (rowsR (textR long) most (s.drop a)) o w' := by
  have hg := enters_of Try.func86 (by kernel_rfl) rfl
  have cN := pkTexts1_any g s a most long hs ha p q u hp hu w hr h1 h2 h3
  have c1 := hr.c1
  have c2 := hr.c2
  clear h1 h2 h3
  cases hb : rowsR (textR long) most (s.drop a) with
  | ok z =>
    obtain ⟨L, n⟩ := z
    rw [hb] at cN
    clear hb
    go_enter Try.func85, Try.ntmps85
    go_wp2_with (first
      | ((with_reducible refine cN.mono ?_); rintro o1 w1 ⟨v, rfl, h3, h5, h6⟩; have c3 := h6.r.c2))
    go_ret
    exact ⟨_, rfl, h3, h5, h6⟩
  | error e =>
    rw [hb] at cN
    clear hb
    go_enter Try.func85, Try.ntmps85
    go_wp2_with (first
      | ((with_reducible refine cN.mono ?_); rintro o1 w1 ⟨a', v, rfl, ha', he, h1⟩; have c3 := h1.r.c2; have c4 := h1.r.c1; have f1 := h1.r.f 1; have hne : (e != 0) = true := (by simpa using he)))
    go_ret
    exact ⟨rfl, he, h1.r.setA a, gb_set h1.gb 1 _⟩
set_option maxHeartbeats 4000000 in
theorem pkTextsR_any (g : Nat) (s : List UInt8) (a : Nat) (most long : Int) (hs : s.length ≤ 1000000000000) (ha : a ≤ s.length) (w : World) (hr : Rdr g s a 0 w) :
    Calls Try.prog 41 #[.pointer (some ⟨g, 0, none⟩), .int .i64 most, .int .i64 long] w fun o w' => TextsPost g s a w (rowsR (textR long) most (s.drop a)) o w' := by
  have hlt := hr.lt
  have hk1 : (w.alloc (.cells #[.pointer (some ⟨g, 0, none⟩)] 51)).heap.size = w.heap.size + 1 := by simp
  have hk2 : ((w.alloc (.cells #[.pointer (some ⟨g, 0, none⟩)] 51)).alloc (.cells #[.int .i64 most] 3)).heap.size = w.heap.size + 1 + 1 := by simp
  have b1 := ((Blk.new w 51 #[.pointer (some ⟨g, 0, none⟩)]).alloc (.cells #[.int .i64 most] 3)).alloc (.cells #[.int .i64 long] 3)
  have b2 := (Blk.new (w.alloc (.cells #[.pointer (some ⟨g, 0, none⟩)] 51)) 3 #[.int .i64 most]).alloc (.cells #[.int .i64 long] 3)
  have b3 := Blk.new ((w.alloc (.cells #[.pointer (some ⟨g, 0, none⟩)] 51)).alloc (.cells #[.int .i64 most] 3)) 3 #[.int .i64 long]
  rw [hk1] at b2
  rw [hk2] at b3
  have hr2 : Rdr g s a 0 (((w.alloc (.cells #[.pointer (some ⟨g, 0, none⟩)] 51)).alloc (.cells #[.int .i64 most] 3)).alloc (.cells #[.int .i64 long] 3)) := ((Blk.alloc hr _).alloc _).alloc _
  have hB : Below w.heap.size w (((w.alloc (.cells #[.pointer (some ⟨g, 0, none⟩)] 51)).alloc (.cells #[.int .i64 most] 3)).alloc (.cells #[.int .i64 long] 3)) := (((Below.refl _ w).alloc (Nat.le_refl _) _).alloc (by simp) _).alloc (by simp; omega) _
  have hst : Step g s a 0 w (((w.alloc (.cells #[.pointer (some ⟨g, 0, none⟩)] 51)).alloc (.cells #[.int .i64 most] 3)).alloc (.cells #[.int .i64 long] 3)) := (Step.same hr).below hB
  have cR := pkReadTexts_any g s a most long hs ha w.heap.size (w.heap.size + 1) (w.heap.size + 1 + 1) (by omega) (by omega) _ hr2 (b1.cell_ (i := 0) rfl) (b2.cell_ (i := 0) rfl) (b3.cell_ (i := 0) rfl)
  have e1 : (((w.alloc (.cells #[.pointer (some ⟨g, 0, none⟩)] 51)).alloc (.cells #[.int .i64 most] 3)).alloc (.cells #[.int .i64 long] 3)).cell? ⟨w.heap.size, 0, none⟩ = some (.pointer (some ⟨g, 0, none⟩)) := b1.cell_ rfl
  have HBS := hid hB.size
  clear b1 b2 b3 hr2 hk1 hk2 hr hB
  cases hb : rowsR (textR long) most (s.drop a) with
  | ok z =>
    obtain ⟨L, n⟩ := z
    rw [hb] at cR
    clear hb
    go_enter Try.func41, Try.ntmps41
    go_wp2_with (first
      | (go_at_call 85; (with_reducible refine cR.mono ?_); rintro o1 w1 ⟨v, rfl, h3, h5, h6⟩))
    go_ret
    exact ⟨_, rfl, own_base h3 HBS.out, h5, hst.trans h6⟩
  | error e =>
    rw [hb] at cR
    clear hb
    go_enter Try.func41, Try.ntmps41
    go_wp2_with (first
      | (go_at_call 85; (with_reducible refine cR.mono ?_); rintro o1 w1 ⟨rfl, he, h6⟩))
    go_ret
    exact ⟨rfl, he, hst.trans h6⟩
end Go.Proofs.Ythpdkdalfjahcaa

namespace Go.Proofs.Ythpdkdalfjahcaa
open Go.RowKit Go.Qc Go.Shelf
attribute [local go_sem] txt_size txt_append ib_fold

theorem scanN_back0 (x : Nat) (hx : x ≤ 4611686018427387904) (rest : List UInt8) : scanN 0 0 (numE x ++ rest) = .ok (x, (numE x).length) := by
  have := scanN_write x x (Nat.le_refl _) rest 0 0 (by simpa using hx) (by simp)
  simpa using this
theorem cntN_back (most : Int) (x : Nat) (hx : x ≤ 4611686018427387904) (hm : (x : Int) ≤ most) (rest : List UInt8) : cntN most (numE x ++ rest) = .ok (x, (numE x).length) := by
  unfold cntN
  rw [scanN_back0 x hx rest]
  simp only
  rw [if_neg (by omega)]
theorem textR_back (most : Int) (t : List UInt8) (ht : t.length ≤ 4611686018427387904) (hm : (t.length : Int) ≤ most) (rest : List UInt8) : textR most (textE t ++ rest) = .ok (t, (textE t).length) := by
  unfold textR textE
  rw [List.append_assoc, cntN_back most t.length ht hm]
  simp only
  rw [if_pos (by simp only [List.length_append]; omega), List.drop_left, List.take_left, List.length_append]
theorem idR_back (a : List UInt8) (ha : a.length = 32) (rest : List UInt8) : idR (a ++ rest) = .ok (a, 32) := by
  unfold idR
  rw [if_pos (by rw [List.length_append]; omega), List.take_left' ha]
theorem truthR_back (v : Bool) (rest : List UInt8) : truthR (truthE v ++ rest) = .ok (v, 1) := by
  cases v <;> rfl
theorem byteR_back (x : UInt8) (rest : List UInt8) : byteR ([x] ++ rest) = .ok (x, 1) := rfl
theorem rowR_back {α : Type} (item : List UInt8 → Except Int (α × Nat)) (enc : α → List UInt8) : ∀ (l : List α) (rest : List UInt8), (∀ x ∈ l, ∀ r, item (enc x ++ r) = .ok (x, (enc x).length)) →
    rowR item l.length (l.flatMap enc ++ rest) = .ok (l, (l.flatMap enc).length)
  | [], _, _ => rfl
  | x :: l, rest, h => by
    rw [List.flatMap_cons, List.append_assoc, List.length_cons, rowR, h x (by simp)]
    simp only
    rw [List.drop_left, rowR_back item enc l rest (fun y hy => h y (by simp [hy]))]
    simp only [List.length_append]
theorem rowsR_back {α : Type} (item : List UInt8 → Except Int (α × Nat)) (enc : α → List UInt8) (most : Int) (l : List α) (hl : l.length ≤ 4611686018427387904) (hm : (l.length : Int) ≤ most) (rest : List UInt8) (h : ∀ x ∈ l, ∀ r, item (enc x ++ r) = .ok (x, (enc x).length)) :
    rowsR item most ((numE l.length ++ l.flatMap enc) ++ rest) = .ok (l, (numE l.length ++ l.flatMap enc).length) := by
  unfold rowsR
  rw [List.append_assoc, cntN_back most l.length hl hm]
  simp only
  rw [List.drop_left, rowR_back item enc l rest h]
  simp only [List.length_append]
theorem idsR_back (most : Int) (l : List (List UInt8)) (hl : l.length ≤ 4611686018427387904) (hm : (l.length : Int) ≤ most) (h32 : ∀ x ∈ l, x.length = 32) (rest : List UInt8) : rowsR idR most (idsE l ++ rest) = .ok (l, (idsE l).length) := by
  have hf : l.flatten = l.flatMap id := by simp [List.flatMap_id]
  unfold idsE
  rw [hf]
  exact rowsR_back idR id most l hl hm rest (fun x hx r => by rw [id, idR_back x (h32 x hx) r, h32 x hx])
theorem textsR_back (most long : Int) (m : List (List UInt8)) (hl : m.length ≤ 4611686018427387904) (hm : (m.length : Int) ≤ most) (hx : ∀ x ∈ m, x.length ≤ 4611686018427387904 ∧ (x.length : Int) ≤ long) (rest : List UInt8) : rowsR (textR long) most (textsE m ++ rest) = .ok (m, (textsE m).length) := by
  unfold textsE
  exact rowsR_back (textR long) textE most m hl hm rest (fun x h r => textR_back long x (hx x h).1 (hx x h).2 r)
theorem pkPlace_any (g : Nat) (s : List UInt8) (a : Nat) (e : Int) (w : World) (h : Rdr g s a e w) :
    Calls Try.prog 43 #[.pointer (some ⟨g, 0, none⟩)] w fun o w' => o = .returned (.int .i64 (a : Int)) ∧ w = w' := by
  have c1 := h.c1
  go_enter Try.func43, Try.ntmps43
  go_wp2
  go_ret
  exact ⟨rfl, rfl⟩
/-- Where a piece stands. -/
theorem drop_at {s pre seg post : List UInt8} {a : Nat} (h : s = pre ++ (seg ++ post)) (ha : a = pre.length) : s.drop a = seg ++ post := by
  rw [h, ha, List.drop_left]
end Go.Proofs.Ythpdkdalfjahcaa

/- gauss: an id's residue, by the program and by the document. -/
import Derived.Test.YtkajfpincbkfhaaGs5
import Derived.Test.YtkajfpincbkfhaaKit4
import Derived.Deep.RegionHeld3
import Derived.Test.YtkajfpincbkfhaaId8
import Derived.Deep.DeepCutAuto
set_option linter.unusedSimpArgs false
set_option linter.unusedVariables false
namespace Go.Proofs.Ytkajfpincbkfhaa
open Go.RowKit Go.Qc

theorem byte_val (b : UInt8) : 0 ≤ ib b ∧ ib b < 256 := by
  unfold ib
  have := b.toNat_lt
  omega
/-- A residue of four bytes. -/
def byZ (x y z t : Int) : Int × Int := zred (256 * x + y, 256 * z + t)
def ofZ (p : Int × Int) : Int × Int := if p = (0, 0) then (1, 0) else p
theorem ofZ_res {p : Int × Int} (h : ResZ p) : ResZ (ofZ p) := by
  unfold ofZ
  split
  · exact oneZ_res
  · exact h
/-- An id's residue. -/
def idZ (a : List UInt8) : Int × Int := ofZ (byZ (ib (a.getD 0 0)) (ib (a.getD 1 0)) (ib (a.getD 2 0)) (ib (a.getD 3 0)))
theorem idZ_res (a : List UInt8) : ResZ (idZ a) := ofZ_res (zred_res _)
theorem fl_256 : fl 256 = 4643211215818981376 := by decide +kernel
set_option maxRecDepth 100000 in
theorem gpair_any (h l : Int) (h0 : 0 ≤ h) (h1 : h < 256) (l0 : 0 ≤ l) (l1 : l < 256) (w : World) : Calls Try.prog 125 #[.int .u8 h, .int .u8 l] w fun e w' => e = .returned (.float .f64 (fl (256 * h + l))) ∧ w = w' := by
  have hd : ∀ (w : World) (m : Int), (convert 5 117 (.int .u8 m)).run Try.prog w = .ok (.float .f64 (fl m)) w := fun w m => run_convert_int_float w _ _ .u8 .f64 m (by kernel_rfl) (by kernel_rfl)
  have hm : ∀ w, (binOp .mul 117 (.float .f64 (fl h)) (.float .f64 4643211215818981376)).run Try.prog w = .ok (.float .f64 (fl (h * 256))) w := fun w => by
    rw [← fl_256]
    exact run_float_arith w .mul _ .f64 _ _ _ (fl_mul h 256 (by omega) (by decide) (by omega) h0 (by decide))
  have hs : ∀ w, (binOp .add 117 (.float .f64 (fl (h * 256))) (.float .f64 (fl l))).run Try.prog w = .ok (.float .f64 (fl (256 * h + l))) w := fun w => by
    rw [Int.mul_comm 256 h]
    exact run_float_arith w .add _ .f64 _ _ _ (fl_add _ _ (by omega) (by omega) (by omega))
  generalize fl (256 * h + l) = r at *
  generalize fl (h * 256) = p at *
  clear h0 h1 l0 l1
  go_enter Try.func125, Try.ntmps125
  go_wp2
  go_ret
  exact ⟨rfl, rfl⟩
theorem id_cells (a : List UInt8) (ha : a.length = 32) : ∃ x0 x1 x2 x3 : Int, (0 ≤ x0 ∧ x0 < 256) ∧ (0 ≤ x1 ∧ x1 < 256) ∧ (0 ≤ x2 ∧ x2 < 256) ∧ (0 ≤ x3 ∧ x3 < 256) ∧ (idVals a)[0]? = some (.int .u8 x0) ∧ (idVals a)[1]? = some (.int .u8 x1) ∧ (idVals a)[2]? = some (.int .u8 x2) ∧ (idVals a)[3]? = some (.int .u8 x3) ∧ idZ a = ofZ (byZ x0 x1 x2 x3) := by
  obtain ⟨b0, b1, b2, b3, l, rfl⟩ : ∃ b0 b1 b2 b3 l, a = b0 :: b1 :: b2 :: b3 :: l := by
    rcases a with _ | ⟨b0, _ | ⟨b1, _ | ⟨b2, _ | ⟨b3, l⟩⟩⟩⟩
    · exact absurd ha (by decide)
    · simp at ha
    · simp at ha
    · simp at ha
    · exact ⟨_, _, _, _, _, rfl⟩
  exact ⟨ib b0, ib b1, ib b2, ib b3, byte_val _, byte_val _, byte_val _, byte_val _, rfl, rfl, rfl, rfl, rfl⟩
set_option maxRecDepth 100000 in
set_option maxHeartbeats 4000000 in
theorem gof_any (a : List UInt8) (ha : a.length = 32) (w : World) : Calls Try.prog 88 #[.agg (idVals a)] w fun e w' => e = .returned (cz (idZ a)) ∧ Below w.heap.size w w' := by
  obtain ⟨x0, x1, x2, x3, ⟨l0, h0⟩, ⟨l1, h1⟩, ⟨l2, h2⟩, ⟨l3, h3⟩, e0, e1, e2, e3, he⟩ := id_cells a ha
  rw [he]
  have p1 := gpair_any x0 x1 l0 h0 l1 h1
  have p2 := gpair_any x2 x3 l2 h2 l3 h3
  have rd := gred_any (fl (256 * x0 + x1)) (fl (256 * x2 + x3)) (256 * x0 + x1) (256 * x2 + x3) (fl_int _ (by omega)) (fl_int _ (by omega)) (by omega) (by omega) (by omega) (by omega)
  have hres := zred_res (256 * x0 + x1, 256 * x2 + x3)
  unfold byZ
  generalize zred (256 * x0 + x1, 256 * x2 + x3) = r at *
  generalize fl (256 * x0 + x1) = u at *
  generalize fl (256 * x2 + x3) = v at *
  obtain ⟨r1, r2, R1, R2, lr⟩ := LetZ.mk_ r
  rw [lr.cz] at rd
  have qz := fun W => run_cz_zero 54 r hres W
  rw [lr.cz] at qz
  have hkb := Blk.new w 24 (idVals a)
  have hbel := (Below.refl w.heap.size w).alloc (Nat.le_refl _) (.cells (idVals a) 24)
  have p1' := fun W => same_belowZ (p1 W)
  have p2' := fun W => same_belowZ (p2 W)
  have rd' := fun W => same_belowZ (rd W)
  clear p1 p2 rd l0 h0 l1 h1 l2 h2 l3 h3 he
  obtain ⟨Z, hZ⟩ : ∃ Z, cz (ofZ r) = Z := ⟨_, rfl⟩
  rw [hZ]
  have HZ := hid hZ
  clear hZ
  go_enter Try.func88, Try.ntmps88
  go_upto_region 1 with (fail)
  generalize w.alloc (.cells (idVals a) 24) = W0 at *
  have f0 : ∀ P : LaterZ W0, P.w.cell? ⟨w.heap.size, 0, none⟩ = some (.int .u8 x0) := fun P => (hkb.below P.h).cell_ e0
  have f1 : ∀ P : LaterZ W0, P.w.cell? ⟨w.heap.size, 1, none⟩ = some (.int .u8 x1) := fun P => (hkb.below P.h).cell_ e1
  have f2 : ∀ P : LaterZ W0, P.w.cell? ⟨w.heap.size, 2, none⟩ = some (.int .u8 x2) := fun P => (hkb.below P.h).cell_ e2
  have f3 : ∀ P : LaterZ W0, P.w.cell? ⟨w.heap.size, 3, none⟩ = some (.int .u8 x3) := fun P => (hkb.below P.h).cell_ e3
  refine wp_region_laterZ mixedZ (by kernel_rfl) ?_
  repeat (first
    | ((with_reducible refine wpQuiet_step (fun K hK => ?_)); go_simp; first | ((with_reducible refine hK _ ?_); clear hK K) | (with_reducible apply Exists.intro; (with_reducible refine ⟨fun P => ?_, hK _ ?_⟩); (first | (go_at_call 125; with_reducible exact later_ofZ (p1' P.w)) | (go_at_call 125; with_reducible exact later_ofZ (p2' P.w)) | (go_at_call 124; with_reducible exact later_ofZ (rd' P.w))); clear hK K)))
  with_reducible refine wpQuiet_nil ?_
  intro _ hw9
  obtain ⟨P9, rfl⟩ := hw9
  have hb9 := hbel.trans (P9.h.mono hbel.size)
  by_cases hz : r = (0, 0)
  · have qy : ∀ W, (binOp .eql 54 (.complex .f64 R1 R2) (.complex .f64 0 0)).run Try.prog W = .ok (.bool true) W := fun W => by rw [qz W, decide_eq_true hz]
    have HC := hid (show cz (ofZ r) = .complex .f64 4607182418800017408 0 by unfold ofZ; rw [if_pos hz, cz_one])
    clear qz f0 f1 f2 f3 hz
    go_wp2
    go_ret
    exact ⟨by rw [← HZ.out, HC.out]; rfl, hb9⟩
  · have qy : ∀ W, (binOp .eql 54 (.complex .f64 R1 R2) (.complex .f64 0 0)).run Try.prog W = .ok (.bool false) W := fun W => by rw [qz W, decide_eq_false hz]
    have HC := hid (show cz (ofZ r) = .complex .f64 R1 R2 by unfold ofZ; rw [if_neg hz, lr.cz])
    clear qz f0 f1 f2 f3 hz
    go_wp2
    go_ret
    exact ⟨by rw [← HZ.out, HC.out]; rfl, hb9⟩

theorem cell_allocZ {w : World} {o : Obj} {a : Addr} {v : Value} (h : w.cell? a = some v) : (w.alloc o).cell? a = some v := by
  exact Below.keep (Below.alloc (Below.refl _ _) (Nat.le_refl _) o) h
theorem ofZ_pz (p : Int × Int) (r1 r2 : Int) (h1 : p.1 = r1) (h2 : p.2 = r2) : (r1 = 0 ∧ r2 = 0 ∧ pz (ofZ p) = .agg #[.int .i64 1, .int .i64 0]) ∨ (r1 ≠ 0 ∧ pz (ofZ p) = .agg #[.int .i64 r1, .int .i64 r2]) ∨ (r1 = 0 ∧ r2 ≠ 0 ∧ pz (ofZ p) = .agg #[.int .i64 r1, .int .i64 r2]) := by
  obtain ⟨a, b⟩ := p
  dsimp only at h1 h2
  subst h1 h2
  unfold ofZ pz
  by_cases ha : a = 0
  · by_cases hb : b = 0
    · left; subst ha hb; exact ⟨rfl, rfl, rfl⟩
    · right; right
      have : ¬ ((a, b) : Int × Int) = (0, 0) := fun h => hb (congrArg Prod.snd h)
      rw [if_neg this]
      exact ⟨ha, hb, rfl⟩
  · right; left
    have : ¬ ((a, b) : Int × Int) = (0, 0) := fun h => ha (congrArg Prod.fst h)
    rw [if_neg this]
    exact ⟨ha, rfl⟩
set_option maxRecDepth 100000 in
set_option maxHeartbeats 4000000 in
theorem rof22_any (a : List UInt8) (ha : a.length = 32) (w : World) : Calls Try.prog 41 #[.agg (idVals a)] w fun e w' => e = .returned (pz (idZ a)) ∧ Below w.heap.size w w' := by
  obtain ⟨x0, x1, x2, x3, ⟨l0, h0⟩, ⟨l1, h1⟩, ⟨l2, h2⟩, ⟨l3, h3⟩, e0, e1, e2, e3, he⟩ := id_cells a ha
  rw [he]
  have q1 : ∀ w, Calls Try.prog 90 #[.int .i64 (256 * x0 + x1)] w fun e w' => e = .returned (.int .i64 ((256 * x0 + x1) % 65519)) ∧ w = w' := fun w => (rmod22_any (256 * x0 + x1) (by omega) (by omega) w).mono fun _ _ h => ⟨h.1, h.2.symm⟩
  have q2 : ∀ w, Calls Try.prog 90 #[.int .i64 (256 * x2 + x3)] w fun e w' => e = .returned (.int .i64 ((256 * x2 + x3) % 65519)) ∧ w = w' := fun w => (rmod22_any (256 * x2 + x3) (by omega) (by omega) w).mono fun _ _ h => ⟨h.1, h.2.symm⟩
  have i0 : IntKind.i64.wrap x0 = x0 := by rw [IntKind.wrap_i64]; omega
  have i1 : IntKind.i64.wrap x1 = x1 := by rw [IntKind.wrap_i64]; omega
  have i2 : IntKind.i64.wrap x2 = x2 := by rw [IntKind.wrap_i64]; omega
  have i3 : IntKind.i64.wrap x3 = x3 := by rw [IntKind.wrap_i64]; omega
  have m0 : IntKind.i64.wrap (256 * x0) = 256 * x0 := by rw [IntKind.wrap_i64]; omega
  have m2 : IntKind.i64.wrap (256 * x2) = 256 * x2 := by rw [IntKind.wrap_i64]; omega
  have s1 : IntKind.i64.wrap (256 * x0 + x1) = 256 * x0 + x1 := by rw [IntKind.wrap_i64]; omega
  have s3 : IntKind.i64.wrap (256 * x2 + x3) = 256 * x2 + x3 := by rw [IntKind.wrap_i64]; omega
  have hc := ofZ_pz (byZ x0 x1 x2 x3) ((256 * x0 + x1) % 65519) ((256 * x2 + x3) % 65519) rfl rfl
  generalize (256 * x0 + x1) % 65519 = r1 at *
  generalize (256 * x2 + x3) % 65519 = r2 at *
  obtain ⟨Z, hZ⟩ : ∃ Z, pz (ofZ (byZ x0 x1 x2 x3)) = Z := ⟨_, rfl⟩
  rw [hZ]
  rw [hZ] at hc
  have HC := hid hc
  have hkb := (Blk.new w 24 (idVals a)).alloc (.cells #[.int .i64 0, .int .i64 0] 63)
  have hkr := blk_p1 w (.cells (idVals a) 24) 63 #[.int .i64 0, .int .i64 0]
  have hbel := ((Below.refl w.heap.size w).alloc (Nat.le_refl _) (.cells (idVals a) 24)).alloc (by rw [World.size_alloc]; omega) (.cells #[.int .i64 0, .int .i64 0] 63)
  have hsz : ((w.alloc (.cells (idVals a) 24)).alloc (.cells #[.int .i64 0, .int .i64 0] 63)).heap.size = w.heap.size + 1 + 1 := by rw [World.size_alloc, World.size_alloc]
  clear l0 h0 l1 h1 l2 h2 l3 h3 he hc hZ
  go_enter Try.func41, Try.ntmps41
  go_upto_region 1 with (fail)
  generalize (w.alloc (.cells (idVals a) 24)).alloc (.cells #[.int .i64 0, .int .i64 0] 63) = W0 at *
  have f0 : W0.cell? ⟨w.heap.size, 0, none⟩ = some (.int .u8 x0) := hkb.cell_ e0
  have f1 : W0.cell? ⟨w.heap.size, 1, none⟩ = some (.int .u8 x1) := hkb.cell_ e1
  have f2 : W0.cell? ⟨w.heap.size, 2, none⟩ = some (.int .u8 x2) := hkb.cell_ e2
  have f3 : W0.cell? ⟨w.heap.size, 3, none⟩ = some (.int .u8 x3) := hkb.cell_ e3
  go_region_held3 (fun w' => w'.cell? ⟨w.heap.size, 0, none⟩ = some (.int .u8 x0) ∧ w'.cell? ⟨w.heap.size, 1, none⟩ = some (.int .u8 x1) ∧ w'.cell? ⟨w.heap.size, 2, none⟩ = some (.int .u8 x2) ∧ w'.cell? ⟨w.heap.size, 3, none⟩ = some (.int .u8 x3)) (first | assumption | (refine ⟨?_, ?_, ?_, ?_⟩ <;> first | assumption | (refine cell_allocZ ?_; assumption))) (first
    | ((with_reducible refine (q1 _).mono ?_); rintro e5 w5 ⟨rfl, rfl⟩)
    | ((with_reducible refine (q2 _).mono ?_); rintro e5 w5 ⟨rfl, rfl⟩))
  all_goals
    have hkp := Blk.new W0 63 #[.int .i64 r1, .int .i64 r2]
    rw [hsz] at hkp
    have hkp2 : Blk (W0.alloc (.cells #[.int .i64 r1, .int .i64 r2] 63)).drew (w.heap.size + 1 + 1) 63 #[.int .i64 r1, .int .i64 r2] := blk_heap rfl hkp
    have hkr2 : Blk (W0.alloc (.cells #[.int .i64 r1, .int .i64 r2] 63)).drew (w.heap.size + 1) 63 #[.int .i64 0, .int .i64 0] := blk_heap rfl (hkr.alloc _)
    have hb2 : Below w.heap.size w (W0.alloc (.cells #[.int .i64 r1, .int .i64 r2] 63)).drew := below_drewZ (hbel.alloc hbel.size _)
    generalize (W0.alloc (.cells #[.int .i64 r1, .int .i64 r2] 63)).drew = W1 at *
    clear hkp hkr hkb f0 f1 f2 f3 hbel hsz q1 q2 i0 i1 i2 i3 m0 m2 s1 s3 e0 e1 e2 e3
    rcases HC.out with ⟨z1, z2, hZ⟩ | ⟨z1, hZ⟩ | ⟨z1, z2, hZ⟩
    · subst z1 z2
      have HZ := hid hZ
      clear hZ HC
      have c0 := hkp2.cell_ (i := 0) rfl
      have c1 := hkp2.cell_ (i := 1) rfl
      go_wp2_with (first
        | ((with_reducible refine wpList_store_blk rfl 63 _ _ rfl _ _ _ _ hkr2 rfl rfl (by with_unfolding_all exact infoPairZ) (by with_unfolding_all rfl) (by with_unfolding_all rfl) ?_); intro w2 hk2 hg2))
      refine bodyPost_ret (ret_pair rfl _ _ _ _ _ rfl hk2) rfl ⟨by rw [HZ.out], below_grownZ hb2 hg2 (by omega)⟩
    · have z2 : (r1 == 0) = false := by simpa using z1
      have HZ := hid hZ
      clear hZ HC
      have c0 := hkp2.cell_ (i := 0) rfl
      have c1 := hkp2.cell_ (i := 1) rfl
      go_wp2_with (first
        | ((with_reducible refine wpList_store_blk rfl 63 _ _ rfl _ _ _ _ hkr2 rfl rfl (by with_unfolding_all exact infoPairZ) (by with_unfolding_all rfl) (by with_unfolding_all rfl) ?_); intro w2 hk2 hg2))
      refine bodyPost_ret (ret_pair rfl _ _ _ _ _ rfl hk2) rfl ⟨by rw [HZ.out], below_grownZ hb2 hg2 (by omega)⟩
    · subst z1
      have z3 : (r2 == 0) = false := by simpa using z2
      have HZ := hid hZ
      clear hZ HC
      have c0 := hkp2.cell_ (i := 0) rfl
      have c1 := hkp2.cell_ (i := 1) rfl
      go_wp2_with (first
        | ((with_reducible refine wpList_store_blk rfl 63 _ _ rfl _ _ _ _ hkr2 rfl rfl (by with_unfolding_all exact infoPairZ) (by with_unfolding_all rfl) (by with_unfolding_all rfl) ?_); intro w2 hk2 hg2))
      refine bodyPost_ret (ret_pair rfl _ _ _ _ _ rfl hk2) rfl ⟨by rw [HZ.out], below_grownZ hb2 hg2 (by omega)⟩
end Go.Proofs.Ytkajfpincbkfhaa
/- gauss: tallies, by the program and by the document. -/
set_option linter.unusedSimpArgs false
set_option linter.unusedVariables false
namespace Go.Proofs.Ytkajfpincbkfhaa
open Go.RowKit Go.Qc

/-- The tally of ids. -/
def talZ (l : List (List UInt8)) : Int × Int := gtalZ (l.map idZ)
theorem talZ_res (l : List (List UInt8)) : ResZ (talZ l) := gfold_res _ _ oneZ_res
theorem talZ_snoc (l : List (List UInt8)) (a : List UInt8) : talZ (l ++ [a]) = gmulZ (talZ l) (idZ a) := by
  unfold talZ gtalZ
  rw [List.map_append, List.foldl_append]
  rfl
theorem talZ_take {l : List (List UInt8)} {k : Nat} {a : List UInt8} (h : l[k]? = some a) : talZ (l.take (k + 1)) = gmulZ (talZ (l.take k)) (idZ a) := by
  rw [List.take_add_one, h]
  exact talZ_snoc _ _
theorem talZ_append (l m : List (List UInt8)) : talZ (l ++ m) = gmulZ (talZ l) (talZ m) := by
  unfold talZ
  rw [List.map_append, gtal_append]
theorem wp_store_wholeZ {P : Program} {w : World} {o : Oper} {a : Act} {K : Act → World → Prop} {Q : Exit → Act → World → Prop} (ty : TypeId) (x y : Operand) (ho : o.op = .store ty x y)
    (g : Nat) (old cs : Array Value) (t : TypeId) (hg : Blk w g t old) (hx : a.eval x = .pointer (some ⟨g, 0, none⟩)) (hy : a.eval y = .agg cs) (hi : (P.info? ty).map (·.size) = some cs.size) (hs : old.size = cs.size) (h1 : cs.all (·.oneCell') = true)
    (h : ∀ w', Blk w' g t cs → w.grownBy w' (some g) → K (a.put o.dst undef) w') : o.wp P a w K Q := by
  have hr : (Instr.storeAt ty (.pointer (some ⟨g, 0, none⟩)) (.agg cs)).run P w = .ok () (w.setRow g cs) := by
    simp only [Instr.storeAt, Instr.sureAddr, Sem.run_bind, Sem.run_pure, Result.andThen]
    exact run_storeVar_row _ g t ty old cs hg hi hs h1
  obtain ⟨hb, hgr⟩ := blk_over hg cs
  unfold Oper.wp
  simp [execOp, ho, hx, hy, hr]
  exact h _ hb hgr
theorem range_ltZ {w : World} {g q : Nat} {x : List UInt8} (h : w.rangeAt g q (x.map u8v)) (hx : x.length = 32) : g < w.heap.size := by
  obtain ⟨b, hb⟩ : ∃ b, x[0]? = some b := ⟨_, List.getElem?_eq_getElem (by omega)⟩
  exact World.block_lt_of_cell? w _ (h 0 (u8v b) (by rw [List.getElem?_map, hb]; rfl))
set_option maxRecDepth 100000 in
set_option maxHeartbeats 8000000 in
theorem gtally_any (A : Option Addr) (n c : Nat) (l : List (List UInt8)) (w : World) (hA : RowR w A n l) :
    Calls Try.prog 79 #[.slice A n c] w fun e w' => e = .returned (cz (talZ l)) ∧ Below w.heap.size w w' := by
  obtain ⟨hn, bn, hr⟩ := hA
  have hu := Try.underlying24
  have cO : ∀ (a : List UInt8), a.length = 32 → ∀ W, Calls Try.prog 88 #[.agg (List.map u8v a).toArray] W fun e w' => e = .returned (cz (idZ a)) ∧ Below W.heap.size W w' := fun a ha W => gof_any a ha W
  have h1 := cz_one
  obtain ⟨Z, hZ⟩ : ∃ Z, cz (talZ l) = Z := ⟨_, rfl⟩
  rw [hZ]
  have HZ := hid hZ
  clear hZ
  go_enter Try.func79, Try.ntmps79
  go_wp2
  rw [h1]
  clear h1
  go_loopw [3, 8] (fun t i wr => ∃ k : Nat, k ≤ n ∧ i = .int .i64 k ∧ t = cz (talZ (l.take k)) ∧ Below w.heap.size w wr) (fun _ i _ => n - (intOf i).toNat)
  case atStart => exact ⟨0, by omega, rfl, rfl, Below.refl _ _⟩
  case round =>
    obtain ⟨k, hk, rfl, rfl, hb⟩ := hrel
    by_cases hlt : k < n
    · obtain ⟨x, hx⟩ : ∃ x, l[k]? = some x := ⟨_, List.getElem?_eq_getElem (by omega)⟩
      obtain ⟨g, q, hg, lx, hix⟩ := hr.pick c hn hx
      have b1 : (k : Int) < n := by omega
      have fx := hg.below hb
      have hzx : (Try.prog.info? 24).map (·.size) = some (x.map u8v).length := by rw [List.length_map, lx]; exact sizeId
      have HT := hid (talZ_take hx)
      have cX := cO x lx
      have cM := gmul_any (talZ (l.take k)) (idZ x) (talZ_res _) (idZ_res _)
      rw [← HT.out] at cM
      have HLT := hid hlt
      have HN := hid hn
      have HLX := hid lx
      clear hn hx hlt hg lx cO hr
      go_wp2_with (first
        | (with_reducible refine wpList_load_if (by with_unfolding_all rfl) 24 _ rfl _ _ rfl (x.map u8v) _ fx hu rfl hzx ?_)
        | ((with_reducible refine wpList_store_newid rfl _ _ rfl x HLX.out rfl rfl rfl ?_); intro w2 hr2 hb2)
        | (with_reducible refine wpList_load_if (by with_unfolding_all rfl) 24 _ rfl _ _ rfl (x.map u8v) _ hr2 hu rfl hzx ?_)
        | (go_at_call 88; (with_reducible refine (cX _).mono ?_); rintro e3 w3 ⟨rfl, hb3⟩)
        | (go_at_call 87; (with_reducible refine (cM _).mono ?_); rintro e4 w4 ⟨rfl, rfl⟩))
      go_roundw
      case rel => exact ⟨k + 1, HLT.out, by go_num, rfl, hb.trans ((hb2.trans (hb3.mono hb2.size)).mono hb.size)⟩
      case measure => exact meas_z HLT.out
    · obtain rfl : k = n := by omega
      have b1 : ¬ (k : Int) < k := by omega
      have HE := hid (show talZ (l.take k) = talZ l by rw [← hn, List.take_length])
      clear hn hr cO
      go_wp2
      go_ret
      exact ⟨by rw [← HZ.out, ← HE.out]; rfl, hb⟩
set_option maxRecDepth 100000 in
set_option maxHeartbeats 8000000 in
theorem rtally22_any (A : Option Addr) (n c : Nat) (l : List (List UInt8)) (w : World) (hA : RowR w A n l) :
    Calls Try.prog 33 #[.slice A n c] w fun e w' => e = .returned (pz (talZ l)) ∧ Below w.heap.size w w' := by
  obtain ⟨hn, bn, hr⟩ := hA
  have hu := Try.underlying24
  have hup := Try.underlying63
  have cO : ∀ (a : List UInt8), a.length = 32 → ∀ W, Calls Try.prog 41 #[.agg (List.map u8v a).toArray] W fun e w' => e = .returned (pz (idZ a)) ∧ Below W.heap.size W w' := fun a ha W => rof22_any a ha W
  have hk1 := (Blk.new w 63 #[.int .i64 0, .int .i64 0]).alloc (.cells #[.int .i64 1, .int .i64 0] 63)
  have hk2 := blk_p1 w (.cells #[.int .i64 0, .int .i64 0] 63) 63 #[.int .i64 1, .int .i64 0]
  have hb0 := ((Below.refl w.heap.size w).alloc (Nat.le_refl _) (.cells #[.int .i64 0, .int .i64 0] 63)).alloc (by rw [World.size_alloc]; omega) (.cells #[.int .i64 1, .int .i64 0] 63)
  obtain ⟨Z, hZ⟩ : ∃ Z, pz (talZ l) = Z := ⟨_, rfl⟩
  rw [hZ]
  have HZ := hid hZ
  clear hZ
  go_enter Try.func33, Try.ntmps33
  go_upto_region 2 with (fail)
  generalize (w.alloc (.cells #[.int .i64 0, .int .i64 0] 63)).alloc (.cells #[.int .i64 1, .int .i64 0] 63) = W0 at *
  go_wp2
  go_loopw [4] (fun i wr => ∃ (k : Nat) (p1 p2 : Int), k ≤ n ∧ i = .int .i64 k ∧ Hid (talZ (l.take k) = (p1, p2)) ∧ Blk wr w.heap.size 63 #[.int .i64 0, .int .i64 0] ∧ Blk wr (w.heap.size + 1) 63 #[.int .i64 p1, .int .i64 p2] ∧ Below w.heap.size w wr) (fun i _ => n - (intOf i).toNat)
  case atStart => exact ⟨0, 1, 0, by omega, rfl, hid rfl, hk1, hk2, hb0⟩
  case round =>
    clear hk1 hk2 hb0
    obtain ⟨k, p1, p2, hk, rfl, HT, h1, h2, hb⟩ := hrel
    by_cases hlt : k < n
    · obtain ⟨x, hx⟩ : ∃ x, l[k]? = some x := ⟨_, List.getElem?_eq_getElem (by omega)⟩
      obtain ⟨g, q, hg, lx, hix⟩ := hr.pick c hn hx
      have b1 : (k : Int) < n := by omega
      have fx := hg.below hb
      have hgl := range_ltZ hg lx
      have hzx : (Try.prog.info? 24).map (·.size) = some (x.map u8v).length := by rw [List.length_map, lx]; exact sizeId
      have HT2 := talZ_take hx
      rw [HT.out] at HT2
      obtain ⟨y1, y2, hy⟩ : ∃ y1 y2, idZ x = (y1, y2) := ⟨_, _, rfl⟩
      obtain ⟨z1, z2, hz⟩ : ∃ z1 z2, talZ (l.take (k + 1)) = (z1, z2) := ⟨_, _, rfl⟩
      have cX : ∀ W, Calls Try.prog 41 #[.agg (List.map u8v x).toArray] W fun e w' => e = .returned (.agg #[.int .i64 y1, .int .i64 y2]) ∧ Below W.heap.size W w' := fun W => by
        have := cO x lx W
        rw [hy] at this
        exact this
      have cM : ∀ W, Calls Try.prog 82 #[.agg #[.int .i64 p1, .int .i64 p2], .agg #[.int .i64 y1, .int .i64 y2]] W fun e w' => e = .returned (.agg #[.int .i64 z1, .int .i64 z2]) ∧ Below W.heap.size W w' := fun W => by
        have := rmul22_any (p1, p2) (y1, y2) (by rw [← HT.out]; exact talZ_res _) (by rw [← hy]; exact idZ_res _) W
        rw [hy, hz] at HT2
        rw [← HT2] at this
        exact this
      have HZ2 := hid hz
      have HLT := hid hlt
      have c0 := h2.cell_ (i := 0) rfl
      have c1 := h2.cell_ (i := 1) rfl
      have hbb := Below.refl wr.heap.size wr
      clear hn hx hlt hg lx cO hr HT HT2 hy hz HZ
      go_wp2_with (fail)
      have k2 : Blk wr.drew (w.heap.size + 1) 63 #[.int .i64 p1, .int .i64 p2] := blk_heap rfl h2
      refine wp_region_held_drew (S := fun W => W.rangeAt g q (x.map u8v) ∧ Blk W w.heap.size 63 #[.int .i64 0, .int .i64 0] ∧ Below w.heap.size w W) (by kernel_rfl) ?_ (fun hHeld => ?_)
      · exact ⟨fx, blk_heap rfl h1, below_drewZ hb⟩
      clear h1 h2 hb c0 c1 hbb fx
      refine' wpAnyH_take (i := 1) (v := .slice A n c) rfl (by kernel_rfl) (by kernel_rfl) (by kernel_rfl) (fun _ _ _ h => h) (Or.inl ⟨by rfl, fun w' hw' => by go_simp⟩) hHeld ?_
      try simp only [Act.put, List.getElem_toArray, List.getElem_cons_succ, List.getElem_cons_zero, List.setIfInBounds_toArray, List.set_cons_zero, List.set_cons_succ]
      refine' wpAnyH_take (i := 2) (v := .int .i64 k) rfl (by kernel_rfl) (by kernel_rfl) (by kernel_rfl) (fun _ _ _ h => h) (Or.inl ⟨by rfl, fun w' hw' => by go_simp⟩) hHeld ?_
      try simp only [Act.put, List.getElem_toArray, List.getElem_cons_succ, List.getElem_cons_zero, List.setIfInBounds_toArray, List.set_cons_zero, List.set_cons_succ]
      refine' wpAnyH_take (i := 3) (v := .pointer (some ⟨g, q, none⟩)) rfl (by kernel_rfl) (by kernel_rfl) (by kernel_rfl) (fun _ _ _ h => h) (Or.inl ⟨by rfl, fun w' hw' => by have hv := hix w'; go_simp⟩) hHeld ?_
      try simp only [Act.put, List.getElem_toArray, List.getElem_cons_succ, List.getElem_cons_zero, List.setIfInBounds_toArray, List.set_cons_zero, List.set_cons_succ]
      refine' wpAnyH_take (i := 4) (v := _) rfl (by kernel_rfl) (by kernel_rfl) (by kernel_rfl) (fun _ _ _ h => h) (yieldsIf_load_mid (by rfl) 24 _ rfl _ _ rfl (x.map u8v) _ (fun w' h => h.1) hu rfl hzx) hHeld ?_
      try simp only [Act.put, List.getElem_toArray, List.getElem_cons_succ, List.getElem_cons_zero, List.setIfInBounds_toArray, List.set_cons_zero, List.set_cons_succ]
      refine wpAnyH_ready (rs := [0, 5]) (by kernel_rfl) (by simp) ?_
      refine AllReadyH.cons rfl (fun K hK => ?_) (AllReadyH.cons rfl (fun K hK => ?_) AllReadyH.nil)
      · have d0 := k2.cell_ (i := 0) rfl
        have d1 := k2.cell_ (i := 1) rfl
        go_simp
        refine hK.out _ _ hHeld (fun hHeld => ?_)
        clear hK K d0 d1
        try simp only [Act.put, List.getElem_toArray, List.getElem_cons_succ, List.getElem_cons_zero, List.setIfInBounds_toArray, List.set_cons_zero, List.set_cons_succ]
        refine wpAnyH_ready (rs := [5]) (by kernel_rfl) (by simp) ?_
        refine AllReadyH.cons rfl (fun K hK => ?_) AllReadyH.nil
        go_simp
        (with_reducible refine (cX _).mono ?_)
        rintro e5 w5 ⟨rfl, hb5⟩
        replace k2 := k2.below hb5
        refine hK.out _ _ ⟨hHeld.1.below hb5, hHeld.2.1.below hb5, hHeld.2.2.trans (hb5.mono hHeld.2.2.size)⟩ (fun hHeld => ?_)
        clear hK K hb5
        try simp only [Act.put, List.getElem_toArray, List.getElem_cons_succ, List.getElem_cons_zero, List.setIfInBounds_toArray, List.set_cons_zero, List.set_cons_succ]
        refine wpAnyH_ready (rs := [6]) (by kernel_rfl) (by simp) ?_
        refine AllReadyH.cons rfl (fun K hK => ?_) AllReadyH.nil
        go_simp
        (with_reducible refine (cM _).mono ?_)
        rintro e5 w5 ⟨rfl, hb5⟩
        replace k2 := k2.below hb5
        refine hK.out _ _ ⟨hHeld.1.below hb5, hHeld.2.1.below hb5, hHeld.2.2.trans (hb5.mono hHeld.2.2.size)⟩ (fun hHeld => ?_)
        clear hK K hb5
        try simp only [Act.put, List.getElem_toArray, List.getElem_cons_succ, List.getElem_cons_zero, List.setIfInBounds_toArray, List.set_cons_zero, List.set_cons_succ]
        refine wpAnyH_ready (rs := [7]) (by kernel_rfl) (by simp) ?_
        refine AllReadyH.cons rfl (fun K hK => ?_) AllReadyH.nil
        refine wp_store_wholeZ 63 _ _ rfl (w.heap.size + 1) _ #[.int .i64 z1, .int .i64 z2] 63 k2 rfl rfl infoPairZ rfl (by simp [Value.oneCell']) ?_
        intro w8 k8 hg8
        replace k2 := k8
        refine hK.out _ _ ⟨range_gb hHeld.1 hg8 (by omega), blk_grownZ hHeld.2.1 hg8 (by omega), below_grownZ hHeld.2.2 hg8 (by omega)⟩ (fun hHeld => ?_)
        clear hK K hg8 k8
        try simp only [Act.put, List.getElem_toArray, List.getElem_cons_succ, List.getElem_cons_zero, List.setIfInBounds_toArray, List.set_cons_zero, List.set_cons_succ]
        refine wpAnyH_done (by kernel_rfl) ?_ _
        go_wp2
        go_roundw
        case rel => exact ⟨k + 1, z1, z2, HLT.out, by go_num, HZ2, hHeld.2.1, k2, hHeld.2.2⟩
        case measure => exact meas_z HLT.out
      · go_simp
        (with_reducible refine (cX _).mono ?_)
        rintro e5 w5 ⟨rfl, hb5⟩
        replace k2 := k2.below hb5
        refine hK.out _ _ ⟨hHeld.1.below hb5, hHeld.2.1.below hb5, hHeld.2.2.trans (hb5.mono hHeld.2.2.size)⟩ (fun hHeld => ?_)
        clear hK K hb5
        try simp only [Act.put, List.getElem_toArray, List.getElem_cons_succ, List.getElem_cons_zero, List.setIfInBounds_toArray, List.set_cons_zero, List.set_cons_succ]
        refine wpAnyH_ready (rs := [0]) (by kernel_rfl) (by simp) ?_
        refine AllReadyH.cons rfl (fun K hK => ?_) AllReadyH.nil
        have d0 := k2.cell_ (i := 0) rfl
        have d1 := k2.cell_ (i := 1) rfl
        go_simp
        refine hK.out _ _ hHeld (fun hHeld => ?_)
        clear hK K d0 d1
        try simp only [Act.put, List.getElem_toArray, List.getElem_cons_succ, List.getElem_cons_zero, List.setIfInBounds_toArray, List.set_cons_zero, List.set_cons_succ]
        refine wpAnyH_ready (rs := [6]) (by kernel_rfl) (by simp) ?_
        refine AllReadyH.cons rfl (fun K hK => ?_) AllReadyH.nil
        go_simp
        (with_reducible refine (cM _).mono ?_)
        rintro e5 w5 ⟨rfl, hb5⟩
        replace k2 := k2.below hb5
        refine hK.out _ _ ⟨hHeld.1.below hb5, hHeld.2.1.below hb5, hHeld.2.2.trans (hb5.mono hHeld.2.2.size)⟩ (fun hHeld => ?_)
        clear hK K hb5
        try simp only [Act.put, List.getElem_toArray, List.getElem_cons_succ, List.getElem_cons_zero, List.setIfInBounds_toArray, List.set_cons_zero, List.set_cons_succ]
        refine wpAnyH_ready (rs := [7]) (by kernel_rfl) (by simp) ?_
        refine AllReadyH.cons rfl (fun K hK => ?_) AllReadyH.nil
        refine wp_store_wholeZ 63 _ _ rfl (w.heap.size + 1) _ #[.int .i64 z1, .int .i64 z2] 63 k2 rfl rfl infoPairZ rfl (by simp [Value.oneCell']) ?_
        intro w8 k8 hg8
        replace k2 := k8
        refine hK.out _ _ ⟨range_gb hHeld.1 hg8 (by omega), blk_grownZ hHeld.2.1 hg8 (by omega), below_grownZ hHeld.2.2 hg8 (by omega)⟩ (fun hHeld => ?_)
        clear hK K hg8 k8
        try simp only [Act.put, List.getElem_toArray, List.getElem_cons_succ, List.getElem_cons_zero, List.setIfInBounds_toArray, List.set_cons_zero, List.set_cons_succ]
        refine wpAnyH_done (by kernel_rfl) ?_ _
        go_wp2
        go_roundw
        case rel => exact ⟨k + 1, z1, z2, HLT.out, by go_num, HZ2, hHeld.2.1, k2, hHeld.2.2⟩
        case measure => exact meas_z HLT.out
    · obtain rfl : k = n := by omega
      have b1 : ¬ (k : Int) < k := by omega
      have HE := hid (show talZ l = (p1, p2) by rw [← HT.out, ← hn, List.take_length])
      have c0 := h2.cell_ (i := 0) rfl
      have c1 := h2.cell_ (i := 1) rfl
      clear hn hr cO HT
      go_wp2_with (first
        | ((with_reducible refine wpList_store_blk rfl 63 _ _ rfl _ _ _ _ h1 rfl rfl (by with_unfolding_all exact infoPairZ) (by with_unfolding_all rfl) (by with_unfolding_all rfl) ?_); intro w2 k1' hg2; replace hb := below_grownZ hb hg2 (by omega); clear hg2))
      refine bodyPost_ret (ret_pair rfl _ _ _ _ _ rfl k1') rfl ⟨by rw [← HZ.out, HE.out]; rfl, hb⟩
end Go.Proofs.Ytkajfpincbkfhaa

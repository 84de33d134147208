
/- Proved: for all texts, quitclaimlaw13.OpGets returns true and leaves its argument as it was. No conditions. -/
import Derived.Test.YthpdkdalfjahcaaOpBytes
set_option linter.unusedSimpArgs false
set_option linter.unusedVariables false
namespace Go.Proofs.Ythpdkdalfjahcaa
open Go.RowKit Go.Qc Go.Shelf
attribute [local go_sem] txt_size txt_append ib_fold txt_toL

set_option maxHeartbeats 4000000 in
theorem ogt_long (s : List UInt8) (h : 1200 < s.length) (w : World) :
    Calls Try.prog 7 #[.string (txt s)] w fun e w' => e = .returned (.bool true) ∧ Below w.heap.size w w' := by
  have z1 : (1200 : Int) < s.length := by omega
  have z2 : decide ((1200 : Int) < s.length) = true := decide_eq_true z1
  go_enter Try.func7, Try.ntmps7
  go_wp2_with (first
    | (go_at_call 52; (with_reducible refine (awake13_any _).mono ?_); rintro o2 w2 ⟨rfl, hb2⟩))
  go_ret
  exact ⟨rfl, hb2⟩
set_option maxRecDepth 100000 in
set_option maxHeartbeats 40000000 in
theorem ogt_err (s : List UInt8) (h : ¬ 1200 < s.length) (he : (opG s 0 0).2 ≠ 0) (w : World) :
    Calls Try.prog 7 #[.string (txt s)] w fun e w' => e = .returned (.bool true) ∧ Below w.heap.size w w' := by
  have z1 : ¬ (1200 : Int) < s.length := by omega
  have z2 : decide ((1200 : Int) < s.length) = false := decide_eq_false z1
  have mixed : Try.prog.follows .mixedOrders = true := by kernel_rfl
  have hle := opG_le s 0 0 (Nat.zero_le _)
  obtain ⟨V, hV⟩ : ∃ V, V = opGV s 0 0 := ⟨_, rfl⟩
  obtain ⟨a, e, hq⟩ : ∃ a e, opG s 0 0 = (a, e) := ⟨_, _, rfl⟩
  have cN : ∀ W, Calls Try.prog 33 #[.string (txt s)] W fun o w' => ∃ g, o = .returned (.pointer (some ⟨g, 0, none⟩)) ∧ W.heap.size ≤ g ∧ Rdr g s 0 0 w' ∧ Below W.heap.size W w' := fun W => new_gO _ W
  have cG : ∀ (g : Nat) (W : World), Rdr g s 0 0 W → Calls Try.prog 55 #[.pointer (some ⟨g, 0, none⟩)] W fun o w' => OgP g s a e V W o w' := fun g W h => by
    have z := oget_any g s 0 0 (by omega) (Nat.zero_le _) W h
    rwa [hq, ← hV] at z
  have cR : ∀ (W : World), Calls Try.prog 58 #[.agg #[.string (txt s), .int .i64 0, .int .i64 0]] W fun o w' => RgP s a e V W o w' := fun W => by
    have z := rg13_any s 0 0 (by omega) (Nat.zero_le _) W
    rwa [hq, ← hV] at z
  rw [hq] at he hle
  simp only at he hle
  have hen : (e != 0) = true := by simpa using he
  clear hV hq
  have cM : ∀ (W : World) (A2 : Option Addr) (n2 c2 : Nat) (B2 : Option Addr) (m2 d2 : Nat) (A3 : Option Addr) (n3 c3 : Nat) (B3 : Option Addr) (m3 d3 : Nat), OpR W V A2 n2 B2 m2 → OpR W V A3 n3 B3 m3 → Calls Try.prog 57 #[.agg (opC V A2 n2 c2 B2 m2 d2), .agg (opC V A3 n3 c3 B3 m3 d3)] W fun o w' => o = .returned (.bool true) ∧ Below W.heap.size W w' := fun W A2 n2 c2 B2 m2 d2 A3 n3 c3 B3 m3 d3 h1 h2 => rsame13_eq V A2 n2 c2 B2 m2 d2 A3 n3 c3 B3 m3 d3 W h1 h2
  have cE : ∀ (g : Nat) (W : World), Rdr g s a e W → Calls Try.prog 50 #[.pointer (some ⟨g, 0, none⟩)] W fun o w' => o = .returned (.int .i64 e) ∧ Below W.heap.size W w' := fun g W h => (pkErr_any g s a e W h).mono fun _ _ ⟨a, b⟩ => ⟨a, b ▸ Below.refl _ _⟩
  have cP : ∀ (g : Nat) (W : World), Rdr g s a e W → Calls Try.prog 43 #[.pointer (some ⟨g, 0, none⟩)] W fun o w' => o = .returned (.int .i64 a) ∧ Below W.heap.size W w' := fun g W h => (pkPlace_any g s a e W h).mono fun _ _ ⟨a, b⟩ => ⟨a, b ▸ Below.refl _ _⟩
  have hbxL : ∀ W : World, Blk ((W.alloc (.cells #[.string ⟨#[]⟩, .int .i64 0, .int .i64 0] 69)).alloc (.cells (opC ⟨0, [], [], 0, [], [], zeroB, 0⟩ none 0 0 none 0 0) 74)) W.heap.size 69 #[.string ⟨#[]⟩, .int .i64 0, .int .i64 0] := fun W => (Blk.new _ _ _).alloc _
  have hboL : ∀ W : World, Blk ((W.alloc (.cells #[.string ⟨#[]⟩, .int .i64 0, .int .i64 0] 69)).alloc (.cells (opC ⟨0, [], [], 0, [], [], zeroB, 0⟩ none 0 0 none 0 0) 74)) (W.heap.size + 1) 74 (opC ⟨0, [], [], 0, [], [], zeroB, 0⟩ none 0 0 none 0 0) := fun W => by
    have z := Blk.new (W.alloc (.cells #[.string ⟨#[]⟩, .int .i64 0, .int .i64 0] 69)) 74 (opC ⟨0, [], [], 0, [], [], zeroB, 0⟩ none 0 0 none 0 0)
    rwa [show (W.alloc (.cells #[.string ⟨#[]⟩, .int .i64 0, .int .i64 0] 69)).heap.size = W.heap.size + 1 by simp] at z
  go_enter Try.func7, Try.ntmps7
  go_wp2_with (first
    | (go_at_call 33; (with_reducible refine (cN _).mono ?_); rintro o1 w1 ⟨g, rfl, hg, hRd, hb1⟩)
    | (go_at_call 55; (with_reducible refine (cG _ _ hRd).mono ?_); rintro o2 w2 ⟨A2, n2, c2, B2, m2, d2, rfl, hR2, hst⟩; have hB := step_lowO hb1 hb1.size hst hg; have hRe := hst.r; have hK := hR2.hK; clear hst hRd hb1; have hIS : ∀ A n c B m d, (Try.prog.info? 74).map (·.size) = some (opC V A n c B m d).size := fun _ _ _ _ _ _ => by rw [opC_size _ _ _ _ _ _ _ hK]; exact infoOp)
    | (with_reducible refine wpList_store_new rfl 74 _ _ rfl (opC V A2 n2 c2 B2 m2 d2) rfl rfl (hIS _ _ _ _ _ _) ?s3 (opC_one _ _ _ _ _ _ _) ?_)
    | (go_at_call 58; (with_reducible refine (cR _).mono ?_); rintro o3 w3 ⟨A3, n3, c3, B3, m3, d3, rfl, hR3, hb3⟩; have hbx := hbxL w3; have hbo := hboL w3)
    | (rw [← opC_lit 0]; (with_reducible refine wpList_store_rv rfl _ _ rfl w3.heap.size _ _ _ _ hbx rfl rfl rfl ?_); intro v1 x1 y1; have hbo1 := blk_gb hbo y1 (by omega); clear hbx hbo)
    | (with_reducible refine wpList_store_blk rfl 74 _ _ rfl (w3.heap.size + 1) _ (opC V A3 n3 c3 B3 m3 d3) 74 hbo1 rfl rfl (hIS _ _ _ _ _ _) ((opC_size _ _ _ _ _ _ _ rfl).trans (opC_size _ _ _ _ _ _ _ hK).symm) (opC_one _ _ _ _ _ _ _) ?_))
  case s3 => exact (opC_size _ _ _ _ _ _ _ hK).symm ▸ rfl
  intro w9 hb9 hg9
  have hX0 := OpX.new w2 V A2 n2 c2 B2 m2 d2
  have hb2 := (Below.refl w2.heap.size w2).alloc (Nat.le_refl _) (.cells (opC V A2 n2 c2 B2 m2 d2) 74)
  have hk3 : (w3.alloc (.cells #[.string ⟨#[]⟩, .int .i64 0, .int .i64 0] 69)).heap.size = w3.heap.size + 1 := by simp
  have h33 := ((Below.refl w3.heap.size w3).alloc (Nat.le_refl _) (.cells #[.string ⟨#[]⟩, .int .i64 0, .int .i64 0] 69)).alloc (by rw [hk3]; omega) (.cells (opC ⟨0, [], [], 0, [], [], zeroB, 0⟩ none 0 0 none 0 0) 74)
  have h34 := h33.grown y1 h33.size (fun k hk => by cases hk; exact Nat.le_refl _)
  have h39 := h34.grown hg9 h34.size (fun k hk => by cases hk; omega)
  have hZ : OpX w9 (w3.heap.size + 1) V A3 n3 c3 B3 m3 d3 := ⟨hb9⟩
  have hQ := blk_gb x1 hg9 (by omega)
  replace hR3 := hR3.below h39
  have h29 := hb3.trans (h39.mono hb3.size)
  have hX := hX0.below h29
  replace hR2 := (hR2.alloc (.cells (opC V A2 n2 c2 B2 m2 d2) 74)).below h29
  have hRr : Rdr g s a e w9 := Blk.below (Blk.alloc hRe _) h29
  replace hB := (hB.trans (hb2.mono hB.size)).trans (h29.mono (hB.trans (hb2.mono hB.size)).size)
  clear hX0 hb2 hk3 h33 h34 h39 h29 hb3 hRe hbo1 x1 y1 hb9 hg9 hbxL hboL
  generalize w3.heap.size = gx at *
  generalize w2.heap.size = gy at *
  go_wp2_with (fail)
  have lR : ∀ P : LaterW w9, Rdr g s a e P.w := fun P => Blk.below hRr P.h
  have l1 : ∀ P : LaterW w9, P.w.cell? ⟨gx, 1, none⟩ = some (.int .i64 a) := fun P => (hQ.below P.h).cell_ (i := 1) rfl
  have l2 : ∀ P : LaterW w9, P.w.cell? ⟨gx, 2, none⟩ = some (.int .i64 e) := fun P => (hQ.below P.h).cell_ (i := 2) rfl
  have lM : ∀ P : LaterW w9, _ := fun P => cM P.w A2 n2 c2 B2 m2 d2 A3 n3 c3 B3 m3 d3 (hR2.below P.h) (hR3.below P.h)
  refine wp_region_later mixed (by kernel_rfl) ?_
  repeat (first
    | ((with_reducible refine wpQuiet_skip (by with_unfolding_all rfl) ?_); simp only [Act.put, List.setIfInBounds_toArray, List.set_cons_zero, List.set_cons_succ])
    | ((with_reducible refine wpQuiet_load_opx (by with_unfolding_all rfl) _ rfl _ rfl hX hK ?_); simp only [Act.put, List.setIfInBounds_toArray, List.set_cons_zero, List.set_cons_succ])
    | ((with_reducible refine wpQuiet_load_opx (by with_unfolding_all rfl) _ rfl _ rfl hZ hK ?_); simp only [Act.put, List.setIfInBounds_toArray, List.set_cons_zero, List.set_cons_succ])
    | ((with_reducible refine wpQuiet_step (fun K hK' => ?_)); go_simp; first | ((with_reducible refine hK' _ ?_); clear hK' K) | (rw [if_neg (by first | decide | (intro h; cases h))]; (with_reducible refine hK' _ ?_); clear hK' K) | (with_reducible apply Exists.intro; (with_reducible refine ⟨fun P => ?_, hK' _ ?_⟩); (first | (go_at_call 57; exact later_of (lM P)) | (go_at_call 50; exact later_of (cE _ _ (lR P))) | (go_at_call 43; exact later_of (cP _ _ (lR P)))); clear hK' K)))
  with_reducible refine wpQuiet_nil ?_
  intro _ hw'
  obtain ⟨P, rfl⟩ := hw'
  have hP := P.h
  replace hB := hB.trans (hP.mono hB.size)
  have x2 := l2 P
  have x1 := l1 P
  clear lR l1 l2 lM
  generalize P.w = w10 at *
  go_wp2_with (first
    | (go_at_call 52; (with_reducible refine (awake13_any _).mono ?_); rintro o5 w5 ⟨rfl, hb⟩; replace hB := hB.trans (hb.mono hB.size)))
  go_ret
  exact ⟨rfl, hB⟩
set_option maxRecDepth 100000 in
set_option maxHeartbeats 40000000 in
theorem ogt_ok (s : List UInt8) (h : ¬ 1200 < s.length) (he : (opG s 0 0).2 = 0) (w : World) :
    Calls Try.prog 7 #[.string (txt s)] w fun e w' => e = .returned (.bool true) ∧ Below w.heap.size w w' := by
  have z1 : ¬ (1200 : Int) < s.length := by omega
  have z2 : decide ((1200 : Int) < s.length) = false := decide_eq_false z1
  have mixed : Try.prog.follows .mixedOrders = true := by kernel_rfl
  have hle := opG_le s 0 0 (Nat.zero_le _)
  obtain ⟨hF, hE⟩ := opG_fore (Nat.zero_le _) he
  have hT := hF.2.2.2
  rw [List.take_zero, List.nil_append] at hT
  obtain ⟨V, hV⟩ : ∃ V, V = opGV s 0 0 := ⟨_, rfl⟩
  obtain ⟨a, e, hq⟩ : ∃ a e, opG s 0 0 = (a, e) := ⟨_, _, rfl⟩
  have cN : ∀ W, Calls Try.prog 33 #[.string (txt s)] W fun o w' => ∃ g, o = .returned (.pointer (some ⟨g, 0, none⟩)) ∧ W.heap.size ≤ g ∧ Rdr g s 0 0 w' ∧ Below W.heap.size W w' := fun W => new_gO _ W
  have cG : ∀ (g : Nat) (W : World), Rdr g s 0 0 W → Calls Try.prog 55 #[.pointer (some ⟨g, 0, none⟩)] W fun o w' => OgP g s a e V W o w' := fun g W h => by
    have z := oget_any g s 0 0 (by omega) (Nat.zero_le _) W h
    rwa [hq, ← hV] at z
  have cR : ∀ (W : World), Calls Try.prog 58 #[.agg #[.string (txt s), .int .i64 0, .int .i64 0]] W fun o w' => RgP s a e V W o w' := fun W => by
    have z := rg13_any s 0 0 (by omega) (Nat.zero_le _) W
    rwa [hq, ← hV] at z
  rw [hq] at he hle hT
  simp only at he hle hT
  rw [← hV] at hT hE
  subst he
  have hsl : (txt s).extract 0 a = txt (opB V) := by rw [txt_extract, List.drop_zero, Nat.sub_zero, hT]
  clear hT hF
  clear hV hq
  have cM : ∀ (W : World) (A2 : Option Addr) (n2 c2 : Nat) (B2 : Option Addr) (m2 d2 : Nat) (A3 : Option Addr) (n3 c3 : Nat) (B3 : Option Addr) (m3 d3 : Nat), OpR W V A2 n2 B2 m2 → OpR W V A3 n3 B3 m3 → Calls Try.prog 57 #[.agg (opC V A2 n2 c2 B2 m2 d2), .agg (opC V A3 n3 c3 B3 m3 d3)] W fun o w' => o = .returned (.bool true) ∧ Below W.heap.size W w' := fun W A2 n2 c2 B2 m2 d2 A3 n3 c3 B3 m3 d3 h1 h2 => rsame13_eq V A2 n2 c2 B2 m2 d2 A3 n3 c3 B3 m3 d3 W h1 h2
  have cE : ∀ (g : Nat) (W : World), Rdr g s a 0 W → Calls Try.prog 50 #[.pointer (some ⟨g, 0, none⟩)] W fun o w' => o = .returned (.int .i64 0) ∧ Below W.heap.size W w' := fun g W h => (pkErr_any g s a 0 W h).mono fun _ _ ⟨a, b⟩ => ⟨a, b ▸ Below.refl _ _⟩
  have cP : ∀ (g : Nat) (W : World), Rdr g s a 0 W → Calls Try.prog 43 #[.pointer (some ⟨g, 0, none⟩)] W fun o w' => o = .returned (.int .i64 a) ∧ Below W.heap.size W w' := fun g W h => (pkPlace_any g s a 0 W h).mono fun _ _ ⟨a, b⟩ => ⟨a, b ▸ Below.refl _ _⟩
  have hbxL : ∀ W : World, Blk ((W.alloc (.cells #[.string ⟨#[]⟩, .int .i64 0, .int .i64 0] 69)).alloc (.cells (opC ⟨0, [], [], 0, [], [], zeroB, 0⟩ none 0 0 none 0 0) 74)) W.heap.size 69 #[.string ⟨#[]⟩, .int .i64 0, .int .i64 0] := fun W => (Blk.new _ _ _).alloc _
  have hboL : ∀ W : World, Blk ((W.alloc (.cells #[.string ⟨#[]⟩, .int .i64 0, .int .i64 0] 69)).alloc (.cells (opC ⟨0, [], [], 0, [], [], zeroB, 0⟩ none 0 0 none 0 0) 74)) (W.heap.size + 1) 74 (opC ⟨0, [], [], 0, [], [], zeroB, 0⟩ none 0 0 none 0 0) := fun W => by
    have z := Blk.new (W.alloc (.cells #[.string ⟨#[]⟩, .int .i64 0, .int .i64 0] 69)) 74 (opC ⟨0, [], [], 0, [], [], zeroB, 0⟩ none 0 0 none 0 0)
    rwa [show (W.alloc (.cells #[.string ⟨#[]⟩, .int .i64 0, .int .i64 0] 69)).heap.size = W.heap.size + 1 by simp] at z
  go_enter Try.func7, Try.ntmps7
  go_wp2_with (first
    | (go_at_call 33; (with_reducible refine (cN _).mono ?_); rintro o1 w1 ⟨g, rfl, hg, hRd, hb1⟩)
    | (go_at_call 55; (with_reducible refine (cG _ _ hRd).mono ?_); rintro o2 w2 ⟨A2, n2, c2, B2, m2, d2, rfl, hR2, hst⟩; have hB := step_lowO hb1 hb1.size hst hg; have hRe := hst.r; have hK := hR2.hK; clear hst hRd hb1; have hIS : ∀ A n c B m d, (Try.prog.info? 74).map (·.size) = some (opC V A n c B m d).size := fun _ _ _ _ _ _ => by rw [opC_size _ _ _ _ _ _ _ hK]; exact infoOp)
    | (with_reducible refine wpList_store_new rfl 74 _ _ rfl (opC V A2 n2 c2 B2 m2 d2) rfl rfl (hIS _ _ _ _ _ _) ?s3 (opC_one _ _ _ _ _ _ _) ?_)
    | (go_at_call 58; (with_reducible refine (cR _).mono ?_); rintro o3 w3 ⟨A3, n3, c3, B3, m3, d3, rfl, hR3, hb3⟩; have hbx := hbxL w3; have hbo := hboL w3)
    | (rw [← opC_lit 0]; (with_reducible refine wpList_store_rv rfl _ _ rfl w3.heap.size _ _ _ _ hbx rfl rfl rfl ?_); intro v1 x1 y1; have hbo1 := blk_gb hbo y1 (by omega); clear hbx hbo)
    | (with_reducible refine wpList_store_blk rfl 74 _ _ rfl (w3.heap.size + 1) _ (opC V A3 n3 c3 B3 m3 d3) 74 hbo1 rfl rfl (hIS _ _ _ _ _ _) ((opC_size _ _ _ _ _ _ _ rfl).trans (opC_size _ _ _ _ _ _ _ hK).symm) (opC_one _ _ _ _ _ _ _) ?_))
  case s3 => exact (opC_size _ _ _ _ _ _ _ hK).symm ▸ rfl
  intro w9 hb9 hg9
  have hX0 := OpX.new w2 V A2 n2 c2 B2 m2 d2
  have hb2 := (Below.refl w2.heap.size w2).alloc (Nat.le_refl _) (.cells (opC V A2 n2 c2 B2 m2 d2) 74)
  have hk3 : (w3.alloc (.cells #[.string ⟨#[]⟩, .int .i64 0, .int .i64 0] 69)).heap.size = w3.heap.size + 1 := by simp
  have h33 := ((Below.refl w3.heap.size w3).alloc (Nat.le_refl _) (.cells #[.string ⟨#[]⟩, .int .i64 0, .int .i64 0] 69)).alloc (by rw [hk3]; omega) (.cells (opC ⟨0, [], [], 0, [], [], zeroB, 0⟩ none 0 0 none 0 0) 74)
  have h34 := h33.grown y1 h33.size (fun k hk => by cases hk; exact Nat.le_refl _)
  have h39 := h34.grown hg9 h34.size (fun k hk => by cases hk; omega)
  have hZ : OpX w9 (w3.heap.size + 1) V A3 n3 c3 B3 m3 d3 := ⟨hb9⟩
  have hQ := blk_gb x1 hg9 (by omega)
  replace hR3 := hR3.below h39
  have h29 := hb3.trans (h39.mono hb3.size)
  have hX := hX0.below h29
  replace hR2 := (hR2.alloc (.cells (opC V A2 n2 c2 B2 m2 d2) 74)).below h29
  have hRr : Rdr g s a 0 w9 := Blk.below (Blk.alloc hRe _) h29
  replace hB := (hB.trans (hb2.mono hB.size)).trans (h29.mono (hB.trans (hb2.mono hB.size)).size)
  clear hX0 hb2 hk3 h33 h34 h39 h29 hb3 hRe hbo1 x1 y1 hb9 hg9 hbxL hboL
  generalize w3.heap.size = gx at *
  generalize w2.heap.size = gy at *
  go_wp2_with (fail)
  have lR : ∀ P : LaterW w9, Rdr g s a 0 P.w := fun P => Blk.below hRr P.h
  have l1 : ∀ P : LaterW w9, P.w.cell? ⟨gx, 1, none⟩ = some (.int .i64 a) := fun P => (hQ.below P.h).cell_ (i := 1) rfl
  have l2 : ∀ P : LaterW w9, P.w.cell? ⟨gx, 2, none⟩ = some (.int .i64 0) := fun P => (hQ.below P.h).cell_ (i := 2) rfl
  have lM : ∀ P : LaterW w9, _ := fun P => cM P.w A2 n2 c2 B2 m2 d2 A3 n3 c3 B3 m3 d3 (hR2.below P.h) (hR3.below P.h)
  refine wp_region_later mixed (by kernel_rfl) ?_
  repeat (first
    | ((with_reducible refine wpQuiet_skip (by with_unfolding_all rfl) ?_); simp only [Act.put, List.setIfInBounds_toArray, List.set_cons_zero, List.set_cons_succ])
    | ((with_reducible refine wpQuiet_load_opx (by with_unfolding_all rfl) _ rfl _ rfl hX hK ?_); simp only [Act.put, List.setIfInBounds_toArray, List.set_cons_zero, List.set_cons_succ])
    | ((with_reducible refine wpQuiet_load_opx (by with_unfolding_all rfl) _ rfl _ rfl hZ hK ?_); simp only [Act.put, List.setIfInBounds_toArray, List.set_cons_zero, List.set_cons_succ])
    | ((with_reducible refine wpQuiet_step (fun K hK' => ?_)); go_simp; first | ((with_reducible refine hK' _ ?_); clear hK' K) | (rw [if_neg (by first | decide | (intro h; cases h))]; (with_reducible refine hK' _ ?_); clear hK' K) | (with_reducible apply Exists.intro; (with_reducible refine ⟨fun P => ?_, hK' _ ?_⟩); (first | (go_at_call 57; exact later_of (lM P)) | (go_at_call 50; exact later_of (cE _ _ (lR P))) | (go_at_call 43; exact later_of (cP _ _ (lR P)))); clear hK' K)))
  with_reducible refine wpQuiet_nil ?_
  intro _ hw'
  obtain ⟨P, rfl⟩ := hw'
  have hP := P.h
  replace hB := hB.trans (hP.mono hB.size)
  have x2 := l2 P
  have x1 := l1 P
  clear lR l1 l2 lM
  replace hX := hX.below hP
  replace hR2 := hR2.below hP
  have hQ := hQ.below hP
  clear hZ hR3 hRr
  generalize P.w = w10 at *
  have hb0 := (Below.refl w10.heap.size w10).alloc (Nat.le_refl _) (.cells #[.slice none 0 0] 36)
  have cPut : Calls Try.prog 53 #[.pointer (some ⟨w10.heap.size, 0, none⟩), .agg (opC V A2 n2 c2 B2 m2 d2)] (w10.alloc (.cells #[.slice none 0 0] 36)) fun o w' => o = .returned (.int .i64 0) ∧ Wrt w10.heap.size (opB V) w' ∧ Below w10.heap.size (w10.alloc (.cells #[.slice none 0 0] 36)) w' ∧ KpW (w10.alloc (.cells #[.slice none 0 0] 36)) w' := by
    have z := oput_any w10.heap.size [] V hK A2 n2 c2 hR2.lo hR2.bn B2 m2 d2 hR2.ln hR2.bm (by simp) w10 _ (Nat.le_refl _) hb0 hR2.rA hR2.rB (Wrt.new w10)
    rwa [hE, if_pos rfl, List.nil_append] at z
  have hX1 := hX.alloc (.cells #[.slice none 0 0] 36)
  have cS : ∀ (b : Nat) (S : List UInt8) (W : World), Wrt b S W → Calls Try.prog 32 #[.pointer (some ⟨b, 0, none⟩)] W fun o w' => o = .returned (.string (txt S)) ∧ Below W.heap.size W w' := fun b S W h => (pkWString_any _ S W h).mono fun _ _ ⟨a, b⟩ => ⟨a, b ▸ Below.refl _ _⟩
  have z7 : (a : Int) ≤ s.length := by omega
  have z8 : (0 : Int) ≤ a := by omega
  have z9 : a ≤ s.length := hle
  generalize opB V = S at *
  go_wp2_with (first
    | (with_reducible refine wpList_load_opx (by with_unfolding_all rfl) _ rfl _ rfl hX1 hK ?_)
    | (go_at_call 53; (with_reducible refine cPut.mono ?_); rintro o6 w11 ⟨rfl, hW, hb6, _⟩; clear cPut))
  replace hb6 := hb0.trans hb6
  replace hQ := hQ.below hb6
  replace hB := hB.trans (hb6.mono hB.size)
  have lW : ∀ P : LaterW w11, Wrt w10.heap.size S P.w := fun P => hW.below P.h
  have l1 : ∀ P : LaterW w11, P.w.cell? ⟨gx, 1, none⟩ = some (.int .i64 a) := fun P => (hQ.below P.h).cell_ (i := 1) rfl
  clear x1 x2 hX hX1 hR2 hb6 hb0
  refine wp_region_later mixed (by kernel_rfl) ?_
  repeat (first
    | ((with_reducible refine wpQuiet_skip (by with_unfolding_all rfl) ?_); simp only [Act.put, List.setIfInBounds_toArray, List.set_cons_zero, List.set_cons_succ])
    | ((with_reducible refine wpQuiet_step (fun K hK' => ?_)); go_simp; first | ((with_reducible refine hK' _ ?_); clear hK' K) | (rw [if_neg (by first | decide | (intro h; cases h))]; (with_reducible refine hK' _ ?_); clear hK' K) | (with_reducible apply Exists.intro; (with_reducible refine ⟨fun P => ?_, hK' _ ?_⟩); (first | (go_at_call 32; exact later_of (cS _ _ _ (lW P))) | (go_at_call 52; exact later_of (awake13_any _))); clear hK' K)))
  with_reducible refine wpQuiet_nil ?_
  intro _ hw'
  obtain ⟨P, rfl⟩ := hw'
  have hP := P.h
  generalize P.w = w12 at *
  go_wp2
  go_ret
  exact ⟨rfl, hB.trans (hP.mono hB.size)⟩
theorem opGets_any (s : List UInt8) (w : World) :
    Calls Try.prog 7 #[.string (txt s)] w fun e w' => e = .returned (.bool true) ∧ Below w.heap.size w w' := by
  by_cases h : 1200 < s.length
  · exact ogt_long s h w
  · by_cases he : (opG s 0 0).2 = 0
    · exact ogt_ok s h he w
    · exact ogt_err s h he w

section
open Go.ChangeShapes Go.WideShapes Go.ChangeAt
open Go.ChangeMaps (open_string shut_string)
theorem own_OpGets : ownKnob Try.prog.godebug = none := by kernel_rfl
theorem laidOut_OpGets : laidOutB Try.prog = true := by kernel_rfl
set_option linter.unusedVariables false in
set_option maxRecDepth 100000 in
theorem lifted_OpGets (os : Os) (started : os.Started) (H : Type) (enc : TypeId × Value → H) :
    ReturnsInHanded {} Try.checked os 7 .any (Rows.opGetsSpec.pre6 enc Try.prog Try.f7 Rows.opGetsRow.domain false) (Rows.opGetsSpec.post enc Try.prog Try.f7 false true false false) := by
  refine returnsInHanded_of_change (C := Try.checked) own_OpGets started (by kernel_rfl) Try.func7
    (ChangeSpec.witness6 (enc := enc) (C := Try.checked) false ⟨#[], #[.string ByteArray.empty], []⟩ 8 (by kernel_rfl) (by kernel_rfl) (by kernel_rfl) (by kernel_rfl)) ?_
  intro W base args ds gs before hval0 hW hcnd _
  have hval : ∀ (j : Nat) t v, Try.f7.params[j]? = some t → args[j]? = some v → Value.okWide Try.prog W .any base t v := hval0
  have hW' := hW
  obtain ⟨p, q, hA0, hV, rfl, hfz, hnd⟩ := hW
  have hA1 : DataW.TrodAll enc Try.prog W 0 (fun _ => true) true Try.f7.params.toList args.toList ds p := hA0
  have hA : DataW.TrodAll enc Try.prog W 0 (fun _ => true) true Try.f7.params.toList args.toList ds p := hA0
  rw [Try.params7] at hA hval
  obtain ⟨v0, vs0, d0, ds0, p0, q0, hargs, rfl, rfl, h0, r0⟩ := trodAll_cons hA
  obtain ⟨rfl, rfl, rfl⟩ := trodAll_nil r0
  obtain rfl : args = #[v0] := by cases args; simp_all
  obtain ⟨rfl, rfl⟩ := trodVars_none hV
  obtain ⟨a0, rfl, rfl, rfl, w1⟩ := open_string Try.underlying9 (hval 0 9 v0 rfl rfl) h0
  clear hA0 hval0
  refine (opGets_any a0.data.toList W).mono fun e W' ⟨he, bel⟩ => ?_
  subst he
  exact ⟨_, rfl, _, _, _, [], _, [], hW', trodAll_mk1 (shut_bool Try.underlying4 _), trodAll_stays laidOut_OpGets bel (by kernel_rfl) hA1, rfl, bel.frame _, fun h => by cases h⟩

/-- The statement. -/
theorem OpGets_holds : Rows.OpGetsSaid :=
  OpenClaim.holds_of_wide 7 Try.f7 rfl rfl rfl rfl rfl rfl rfl ⟨rfl, rfl, rfl, rfl, rfl⟩ rfl rfl rfl rfl rfl (by kernel_rfl) Try.func7 (by kernel_rfl)
    (of_decide_eq_true (by kernel_rfl)) (by unfold Func.isWrapper; first | (rw [if_pos (by decide +kernel)]; kernel_rfl) | (rw [if_neg (by decide +kernel)]; exact ⟨rfl, rfl⟩))
    (fun os started H enc _ => lifted_OpGets os started H enc)
end
#print axioms OpGets_holds
end Go.Proofs.Ythpdkdalfjahcaa


/- JournalScans: whatever bytes there are, the program scans the frames that the document says, up to the same end and to the same chain, and the frames' bytes are the text's beginning. No condition. -/
import Derived.Test.YtfckbonblfcmnaaJs4
import Derived.Test.YtfckbonblfcmnaaJn19
set_option linter.unusedSimpArgs false
set_option linter.unusedVariables false
namespace Go.Proofs.Ytfckbonblfcmnaa
open Go.RowKit Go.Qc Go.Shelf
attribute [local go_sem] txt_size txt_append ib_fold
set_option maxRecDepth 100000 in
set_option maxHeartbeats 20000000 in
theorem rsame25_len (A : Option Addr) (n c : Nat) (B : Option Addr) (m d : Nat) (hne : n ≠ m) (w : World) :
    Calls Try.prog 15 #[.slice A n c, .slice B m d] w fun e w' => e = .returned (.bool false) ∧ Below w.heap.size w w' := by
  have z1 : ¬ ((n : Int) = (m : Int)) := by omega
  clear hne
  go_enter Try.func15, Try.ntmps15
  go_wp2
  go_ret
  exact ⟨rfl, Below.refl _ _⟩
theorem txt_dataJ (s : ByteArray) : txt s.data.toList = s := by
  apply ByteArray.ext
  simp [txt]
/-- What plain and Same come to: Ys is what plain keeps. -/
theorem plain_js (L : List FmD) (hn : L.length ≤ 1000) : ∃ (Ys : List FmD) (bq bp : Bool), (bq = true ∨ ∃ X ∈ L, 300 < X.p.length) ∧
    (∀ A c W, FjRd W A L → Calls Try.prog 5 #[.slice A L.length c] W fun e w' => ∃ B d, e = .returned (.tuple #[.slice B Ys.length d, .bool bp]) ∧ FrRd w' B Ys ∧ Below W.heap.size W w') ∧
    (∀ A c B d W, FrRd W A Ys → FrRd W B L → Calls Try.prog 15 #[.slice A Ys.length c, .slice B L.length d] W fun e w' => e = .returned (.bool bq) ∧ Below W.heap.size W w') := by
  by_cases hp : ∃ X ∈ L, 300 < X.p.length
  · have hne : (0 : Nat) ≠ L.length := by
      obtain ⟨X, hX, _⟩ := hp
      have := List.length_pos_of_mem hX
      omega
    refine ⟨[], false, false, .inr hp, fun A c W h => ?_, fun A c B d W _ _ => rsame25_len A 0 c B L.length d hne W⟩
    exact (plain_no A L.length c L rfl (by omega) hp W h).mono fun e w' ⟨h1, h2⟩ => ⟨none, 0, h1, FrRd.nil_ _ _, h2⟩
  · have hp2 : ∀ X ∈ L, X.p.length ≤ 300 := fun X hX => by
      rcases Nat.lt_or_ge 300 X.p.length with h | h
      · exact (hp ⟨X, hX, h⟩).elim
      · exact h
    refine ⟨L, true, decide ((L.length : Int) ≤ 12), .inl rfl, fun A c W h => ?_, fun A c B d W h1 h2 => ?_⟩
    · exact (plain_yes A L.length c L rfl (by omega) hp2 W h).mono fun e w' ⟨v, h1, h2, h3⟩ => by
        obtain ⟨B, d, rfl, _, _, _, h4⟩ := h2.rd (FmD.all_ok _)
        exact ⟨B, d, h1, h4, h3⟩
    · exact (rsame25_any A L.length c B L.length d L L rfl rfl (by omega) W h1 h2).mono fun e w' ⟨b, h3, h4, h5⟩ => by
        rw [h4 rfl] at h3
        exact ⟨h3, h5⟩
set_option maxRecDepth 100000 in
set_option maxHeartbeats 8000000 in
theorem js_far (s : List UInt8) (hs : 2000 < s.length) (w : World) :
    Calls Try.prog 4 #[.string (txt s)] w fun e w' => e = .returned (.bool true) ∧ Below w.heap.size w w' := by
  have z1 : (2000 : Int) < (s.length : Int) := by omega
  clear hs
  go_enter Try.func4, Try.ntmps4
  go_wp2_with (first
    | (go_at_call 6; (with_reducible refine (awake25_any _).mono ?_); rintro e3 w3 ⟨rfl, hb3⟩))
  go_ret
  exact ⟨rfl, hb3⟩
set_option maxRecDepth 100000 in
set_option maxHeartbeats 20000000 in
theorem js_near (s : List UInt8) (hs : ¬ 2000 < s.length) (w : World) :
    Calls Try.prog 4 #[.string (txt s)] w fun e w' => e = .returned (.bool true) ∧ Below w.heap.size w w' := by
  have z1 : ¬ ((2000 : Int) < (s.length : Int)) := by omega
  have cA := awake25_any
  obtain ⟨h1, h2, h3, h4, h5, h6⟩ := scJ_bytes s
  have h7 := stJ_chain (scJ s).1
  rw [← h6] at h7
  obtain ⟨Ys, bq, bp, hbq, cP, cSm⟩ := plain_js (scJ s).1 (by omega)
  have hb3 : bq = true ∨ ¬ (s.length : Int) < 300 := by
    rcases hbq with h | ⟨X, hX, h⟩
    · exact .inl h
    · have := h4 X hX
      exact .inr (by omega)
  have cS : ∀ W, Calls Try.prog 13 #[.string (txt s)] W fun e w' => ∃ A c, e = .returned (.tuple #[.slice A (scJ s).1.length c, .int .i64 ((scJ s).2.1 : Int), .agg (idVals (scJ s).2.2)]) ∧ FjRd w' A (scJ s).1 ∧ Below W.heap.size W w' := fun W =>
    (scan_any s (by omega) W).mono fun e w' ⟨v, g1, g2, g3⟩ => by
      obtain ⟨A, c, rfl, _, _, _, g4⟩ := g2.rd (FmD.all_ok _)
      exact ⟨A, c, g1, g4, g3⟩
  have cR : ∀ W, Calls Try.prog 16 #[.string (txt s)] W fun e w' => ∃ A c, e = .returned (.tuple #[.slice A (scJ s).1.length c, .int .i64 ((scJ s).2.1 : Int), .agg (idVals (scJ s).2.2)]) ∧ FrRd w' A (scJ s).1 ∧ Below W.heap.size W w' := fun W =>
    (rscan25_any s (by omega) W).mono fun e w' ⟨v, g1, g2, g3⟩ => by
      obtain ⟨A, c, rfl, _, _, _, g4⟩ := g2.rd (FmD.all_ok _)
      exact ⟨A, c, g1, g4, g3⟩
  have cAll : ∀ A c W, FjRd W A (scJ s).1 → Calls Try.prog 12 #[.slice A (scJ s).1.length c] W fun e w' => e = .returned (.tuple #[.string (txt (s.take (scJ s).2.1)), .int .i64 0]) ∧ Below W.heap.size W w' := fun A c W h => by
    have := jall_any A _ c (scJ s).1 rfl (by omega) (fun X hX => Nat.le_trans (h4 X hX) (by omega)) W h
    rw [badJ_ok h1, show allB (scJ s).1 = (stJ (scJ s).1).1 by unfold allB; rw [if_pos h1], h2] at this
    exact this
  have hex : (txt s).extract 0 (scJ s).2.1 = txt (s.take (scJ s).2.1) := by rw [txt_extract]; simp
  have q1 : (0 : Int) ≤ ((scJ s).2.1 : Int) := by omega
  have q2 : ((scJ s).2.1 : Int) ≤ (s.length : Int) := by omega
  generalize s.take (scJ s).2.1 = T at *
  generalize (scJ s).1 = L at *
  generalize (scJ s).2.1 = E at *
  generalize (scJ s).2.2 = C at *
  have hu := Try.underlying23
  have hI2 : (Try.prog.info? 23).map (·.size) = some (idVals C).size := by rw [idVals_size, h7]; exact sizeId
  have hL2 : (Try.prog.info? 23).map (·.size) = some (C.map u8v).length := by rw [List.length_map, h7]; exact sizeId
  have h1d := idVals_one C
  have heq : ∀ W, (Op.equalIn 10000 23 (.agg (List.map u8v C).toArray) (.agg (List.map u8v C).toArray)).run Try.prog W = .ok true W := fun W => (ids_eq W C C h7 h7).trans (by rw [decide_eq_true rfl])
  have HSL := hid h7
  have hN3 : ∀ (V : World) (cs : Array Value), Blk (V.alloc (.cells cs 23)) V.heap.size 23 cs := fun V cs => Blk.new _ _ _
  clear h1 h2 h3 h4 h5 h6 h7 hs hbq
  generalize L.length = n at *
  generalize Ys.length = m at *
  cases bq with
  | true =>
    clear hb3
    go_enter Try.func4, Try.ntmps4
    go_wp2_with (first
      | (go_at_call 13; (with_reducible refine (cS _).mono ?_); rintro e1 w1 ⟨A1, c1, rfl, hA1, hb1⟩)
      | (with_reducible refine wpList_store_blk rfl 23 _ _ rfl w1.heap.size _ (idVals C) 23 (hN3 _ _) rfl rfl hI2 ?c4 h1d ?_))
    case c4 => rw [idVals_size, HSL.out]; rfl
    intro w2 hz2 hg2
    have hn2 := below_new hg2
    replace hA1 := hA1.below hn2
    have hb := hb1.trans (hn2.mono hb1.size)
    clear hg2 hn2 hb1 cS
    go_wp2_with (first
      | (go_at_call 16; (with_reducible refine (cR _).mono ?_); rintro e3 w3 ⟨A3, c3, rfl, hA3, hb3⟩; replace hA1 := hA1.below hb3; replace hz2 := hz2.below hb3; replace hb := hb.trans (hb3.mono hb.size); clear hb3)
      | (with_reducible refine wpList_store_blk rfl 23 _ _ rfl w3.heap.size _ (idVals C) 23 (hN3 _ _) rfl rfl hI2 ?c5 h1d ?_))
    case c5 => rw [idVals_size, HSL.out]; rfl
    intro w4 hz4 hg4
    have hn4 := below_new hg4
    replace hA1 := hA1.below hn4
    replace hA3 := hA3.below hn4
    replace hz2 := hz2.below hn4
    replace hb := hb.trans (hn4.mono hb.size)
    clear hg4 hn4 cR hN3 hI2 h1d
    go_upto_region 6 with (first
      | (go_at_call 5; (with_reducible refine (cP _ _ _ hA1).mono ?_); rintro e5 w5 ⟨B5, d5, rfl, hM, hb5⟩; replace hA1 := hA1.below hb5; replace hA3 := hA3.below hb5; replace hz2 := hz2.below hb5; replace hz4 := hz4.below hb5; replace hb := hb.trans (hb5.mono hb.size); clear hb5))
    go_upto_region 8 with (first
      | (go_at_call 15; (with_reducible refine (cSm _ _ _ _ _ hM hA3).mono ?_); rintro e6 w6 ⟨rfl, hb6⟩; replace hA1 := hA1.below hb6; have r2 := range_blk (hz2.below hb6); have r4 := range_blk (hz4.below hb6); replace hb := hb.trans (hb6.mono hb.size); clear hb6)
      | (with_reducible refine wpList_load_if (by with_unfolding_all rfl) 23 _ rfl _ _ rfl (C.map u8v) _ r2 hu rfl hL2 ?_)
      | (with_reducible refine wpList_load_if (by with_unfolding_all rfl) 23 _ rfl _ _ rfl (C.map u8v) _ r4 hu rfl hL2 ?_))
    clear r2 r4 hz2 hz4 hM hA3 cP cSm heq
    go_wp2_with (first
      | (go_at_call 12; (with_reducible refine (cAll _ _ _ hA1).mono ?_); rintro e7 w7 ⟨rfl, hb7⟩; replace hb := hb.trans (hb7.mono hb.size); clear hb7)
      | (go_at_call 6; (with_reducible refine (cA _).mono ?_); rintro e8 w8 ⟨rfl, hb8⟩; replace hb := hb.trans (hb8.mono hb.size); clear hb8))
    go_ret
    exact ⟨rfl, hb⟩
  | false =>
    have z3 : ¬ (s.length : Int) < 300 := hb3.resolve_left (by decide)
    have z4 : decide ((s.length : Int) < 300) = false := decide_eq_false z3
    clear hb3
    go_enter Try.func4, Try.ntmps4
    go_wp2_with (first
      | (go_at_call 13; (with_reducible refine (cS _).mono ?_); rintro e1 w1 ⟨A1, c1, rfl, hA1, hb1⟩)
      | (with_reducible refine wpList_store_blk rfl 23 _ _ rfl w1.heap.size _ (idVals C) 23 (hN3 _ _) rfl rfl hI2 ?c4 h1d ?_))
    case c4 => rw [idVals_size, HSL.out]; rfl
    intro w2 hz2 hg2
    have hn2 := below_new hg2
    replace hA1 := hA1.below hn2
    have hb := hb1.trans (hn2.mono hb1.size)
    clear hg2 hn2 hb1 cS
    go_wp2_with (first
      | (go_at_call 16; (with_reducible refine (cR _).mono ?_); rintro e3 w3 ⟨A3, c3, rfl, hA3, hb3⟩; replace hA1 := hA1.below hb3; replace hz2 := hz2.below hb3; replace hb := hb.trans (hb3.mono hb.size); clear hb3)
      | (with_reducible refine wpList_store_blk rfl 23 _ _ rfl w3.heap.size _ (idVals C) 23 (hN3 _ _) rfl rfl hI2 ?c5 h1d ?_))
    case c5 => rw [idVals_size, HSL.out]; rfl
    intro w4 hz4 hg4
    have hn4 := below_new hg4
    replace hA1 := hA1.below hn4
    replace hA3 := hA3.below hn4
    replace hz2 := hz2.below hn4
    replace hb := hb.trans (hn4.mono hb.size)
    clear hg4 hn4 cR hN3 hI2 h1d
    go_upto_region 6 with (first
      | (go_at_call 5; (with_reducible refine (cP _ _ _ hA1).mono ?_); rintro e5 w5 ⟨B5, d5, rfl, hM, hb5⟩; replace hA1 := hA1.below hb5; replace hA3 := hA3.below hb5; replace hz2 := hz2.below hb5; replace hz4 := hz4.below hb5; replace hb := hb.trans (hb5.mono hb.size); clear hb5))
    go_upto_region 8 with (first
      | (go_at_call 15; (with_reducible refine (cSm _ _ _ _ _ hM hA3).mono ?_); rintro e6 w6 ⟨rfl, hb6⟩; replace hA1 := hA1.below hb6; have r2 := range_blk (hz2.below hb6); have r4 := range_blk (hz4.below hb6); replace hb := hb.trans (hb6.mono hb.size); clear hb6)
      | (with_reducible refine wpList_load_if (by with_unfolding_all rfl) 23 _ rfl _ _ rfl (C.map u8v) _ r2 hu rfl hL2 ?_)
      | (with_reducible refine wpList_load_if (by with_unfolding_all rfl) 23 _ rfl _ _ rfl (C.map u8v) _ r4 hu rfl hL2 ?_))
    clear r2 r4 hz2 hz4 hM hA3 cP cSm heq
    go_wp2_with (first
      | (go_at_call 12; (with_reducible refine (cAll _ _ _ hA1).mono ?_); rintro e7 w7 ⟨rfl, hb7⟩; replace hb := hb.trans (hb7.mono hb.size); clear hb7)
      | (go_at_call 6; (with_reducible refine (cA _).mono ?_); rintro e8 w8 ⟨rfl, hb8⟩; replace hb := hb.trans (hb8.mono hb.size); clear hb8))
    go_ret
    exact ⟨rfl, hb⟩
set_option linter.unusedVariables false in
theorem law_JournalScans (w : World) (a0 : ByteArray) (w0 : a0.size ≤ maxLen) :
    Calls Try.prog 4 #[.string a0] w fun e w' => e = .returned (.bool true) ∧ Below w.heap.size w w' := by
  rw [← txt_dataJ a0]
  by_cases h : 2000 < a0.data.toList.length
  · exact js_far _ h w
  · exact js_near _ h w
open Go.ChangeShapes Go.WideShapes Go.ChangeAt
open Go.ChangeMaps (open_string shut_string)
theorem own_JournalScans : ownKnob Try.prog.godebug = none := by kernel_rfl
theorem laidOut_JournalScans : laidOutB Try.prog = true := by kernel_rfl
set_option linter.unusedVariables false in
set_option maxRecDepth 100000 in
theorem lifted_JournalScans (os : Os) (started : os.Started) (H : Type) (enc : TypeId × Value → H) :
    ReturnsInHanded {} Try.checked os 4 .any (Rows.journalScansSpec.pre6 enc Try.prog Try.f4 Rows.journalScansRow.domain false) (Rows.journalScansSpec.post enc Try.prog Try.f4 false true false false) := by
  refine returnsInHanded_of_change (C := Try.checked) own_JournalScans started (by kernel_rfl) Try.func4
    (ChangeSpec.witness6 (enc := enc) (C := Try.checked) false ⟨#[], #[.string ByteArray.empty], []⟩ 8 (by kernel_rfl) (by kernel_rfl) (by kernel_rfl) (by kernel_rfl)) ?_
  intro W base args ds gs before hval0 hW hcnd _
  have hval : ∀ (j : Nat) t v, Try.f4.params[j]? = some t → args[j]? = some v → Value.okWide Try.prog W .any base t v := hval0
  have hW' := hW
  obtain ⟨p, q, hA0, hV, rfl, hfz, hnd⟩ := hW
  have hA1 : DataW.TrodAll enc Try.prog W 0 (fun _ => true) true Try.f4.params.toList args.toList ds p := hA0
  have hA : DataW.TrodAll enc Try.prog W 0 (fun _ => true) true Try.f4.params.toList args.toList ds p := hA0
  rw [Try.params4] at hA hval
  obtain ⟨v0, vs0, d0, ds0, p0, q0, hargs, rfl, rfl, h0, r0⟩ := trodAll_cons hA
  obtain ⟨rfl, rfl, rfl⟩ := trodAll_nil r0
  obtain rfl : args = #[v0] := by cases args; simp_all
  obtain ⟨rfl, rfl⟩ := trodVars_none hV
  obtain ⟨a0, rfl, rfl, rfl, w0⟩ := open_string Try.underlying9 (hval 0 9 v0 rfl rfl) h0
  clear hA0 hval0
  refine (law_JournalScans W a0 w0).mono fun e W' ⟨he, bel⟩ => ?_
  subst he
  exact ⟨_, rfl, _, _, _, [], _, [], hW', trodAll_mk1 (shut_bool Try.underlying4 _), trodAll_stays laidOut_JournalScans bel (by kernel_rfl) hA1, rfl, bel.frame _, fun h => by cases h⟩

/-- The statement. -/
theorem JournalScans_holds : Rows.JournalScansSaid :=
  OpenClaim.holds_of_wide 4 Try.f4 rfl rfl rfl rfl rfl rfl rfl ⟨rfl, rfl, rfl, rfl, rfl⟩ rfl rfl rfl rfl rfl (by kernel_rfl) Try.func4 (by kernel_rfl)
    (of_decide_eq_true (by kernel_rfl)) (by unfold Func.isWrapper; first | (rw [if_pos (by decide +kernel)]; kernel_rfl) | (rw [if_neg (by decide +kernel)]; exact ⟨rfl, rfl⟩))
    (fun os started H enc _ => lifted_JournalScans os started H enc)
#print axioms JournalScans_holds
end Go.Proofs.Ytfckbonblfcmnaa

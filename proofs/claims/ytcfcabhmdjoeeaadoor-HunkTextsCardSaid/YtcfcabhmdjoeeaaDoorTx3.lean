
/- Lines of a text: Split, of the program and of the document. -/
import Derived.Test.YtcfcabhmdjoeeaaDoorTx2
set_option linter.unusedSimpArgs false
set_option linter.unusedVariables false
namespace Go.Proofs.YtcfcabhmdjoeeaaDoor
open Go.RowKit Go.Qc Go.Shelf
attribute [local go_sem] txt_size txt_append ib_fold txt_toL
theorem txt_list (l : List UInt8) : (txt l).data.toList = l := by simp [txt]
theorem infoStr3 : (Tryd.prog.info? 9).map (fun i => (i.zero, i.size, i.bytes)) = some (some (.string ByteArray.empty), 1, 16) := by kernel_rfl
theorem pcs_count (s : List UInt8) : Lib.count s [10] ≤ s.length := by rw [Lib.count_one]; exact List.count_le_length
theorem gsplit_nl (s : List UInt8) (hs : s.length < 4294967281) (w : World) :
    Calls Tryd.prog 24 #[.string (txt s), .string ⟨#[10]⟩, .int .i64 0, .int .i64 (-1)] w fun e w' => ∃ c, e = .returned (.slice (some ⟨w.heap.size, 0, none⟩) (pcs s).length c) ∧ Rd w' (some ⟨w.heap.size, 0, none⟩) ((pcs s).map strV) ∧ Below w.heap.size w w' := by
  have hcn : Lib.countB (txt s) ⟨#[10]⟩ = Lib.count s [10] := by show Lib.count (txt s).data.toList [10] = _; rw [txt_list]
  have hle := pcs_count s
  have c := Any.strings_genSplit_core hlays221 infoStr3 (txt s) ⟨#[10]⟩ 0 (-1) (Lib.count s [10] + 1) w (by rw [txt_size]; exact hs) (by decide) (Nat.zero_le _)
    (fun x c hx => by
      have := Any.strings_Index_one { hlays221 with } x 10 (w.alloc (.cells c (hlays221_ren.t 9)))
      rw [show Lib.indexB x ⟨#[10]⟩ = Lib.indexByte x.data.toList 10 from Lib.index_one _ _]
      exact this)
    (by
      have := Any.strings_Count_one { hlays221 with } (txt s) 10 w
      rw [hcn]
      rw [txt_list] at this
      rw [Lib.count_one]
      exact this)
    (by decide) (by decide) (by
      rw [hcn, if_pos (by decide), txt_size]
      omega)
  have hsz : ((Lib.splitB ⟨#[10]⟩ 0 (Lib.count s [10]) (txt s)).map (·.data.toList)) = pcs s := by
    rw [Lib.splitB_data, txt_list]
    exact splitK_pcs s
  refine c.mono ?_
  rw [Nat.add_sub_cancel]
  generalize Lib.splitB ⟨#[10]⟩ 0 (Lib.count s [10]) (txt s) = R at hsz ⊢
  rintro e w' ⟨rfl, rfl⟩
  have hl : R.length = (pcs s).length := by rw [← hsz, List.length_map]
  refine ⟨_, by rw [hl], .inr ⟨_, rfl, fun j u hu => ?_⟩, (Below.refl _ _).alloc (Nat.le_refl _) _⟩
  rw [Addr.add_lit, Nat.zero_add, cell_of_row _ _ _ _ _ _ (heap_alloc_new w _)]
  rw [← hsz, List.map_map, List.getElem?_map] at hu
  unfold Lib.cellsOf
  rw [List.getElem?_toArray]
  cases hq : R[j]? with
  | none => rw [hq] at hu; cases hu
  | some x =>
    rw [hq] at hu
    have hlt := (List.getElem?_eq_some_iff.1 hq).1
    rw [List.getElem?_append_left (by rw [List.length_map]; exact hlt), List.getElem?_map, hq]
    rw [← hu]
    simp only [Option.map_some, Function.comp, strV]
    congr 2

set_option maxRecDepth 100000 in
set_option maxHeartbeats 40000000 in
theorem split_nl (s : List UInt8) (hs : s.length < 4294967281) (w : World) :
    Calls Tryd.prog 14 #[.string (txt s), .string ⟨#[10]⟩] w fun e w' => ∃ A c, e = .returned (.slice A (pcs s).length c) ∧ Rd w' A ((pcs s).map strV) ∧ Below w.heap.size w w' := by
  have c := gsplit_nl s hs w
  go_enter Tryd.func14, Tryd.ntmps14
  go_wp2_with (go_at_call 24; (with_reducible refine c.mono ?_); rintro e w' ⟨c', rfl, hR, hb⟩)
  go_ret
  exact ⟨_, c', rfl, hR, hb⟩
theorem cut_end (r : List UInt8) (hs : (r ++ [10]).length ≤ 9223372036854775807) (w : World) :
    Calls Tryd.prog 12 #[.string (txt (r ++ [10])), .string ⟨#[10]⟩] w fun e w' => e = .returned (.tuple #[.string (txt r), .bool true]) ∧ w = w' := by
  have := Any.strings_CutSuffix hlays104 (txt (r ++ [10])) ⟨#[10]⟩ w (by rw [txt_size]; exact hs)
  rw [txt_list] at this
  have h1 : Lib.hasSuffix (r ++ [10]) (⟨#[10]⟩ : ByteArray).data.toList = true := by
    unfold Lib.hasSuffix
    rw [List.isSuffixOf_iff_suffix]
    exact ⟨r, rfl⟩
  unfold Lib.trimSuffix at this
  rw [h1, if_pos rfl] at this
  refine this.mono fun e w' ⟨h, hw⟩ => ⟨?_, hw.symm⟩
  rw [h]
  have : (r ++ [10]).take ((r ++ [10]).length - (⟨#[10]⟩ : ByteArray).data.toList.length) = r := by
    show (r ++ [10]).take ((r ++ [10]).length - 1) = r
    rw [List.length_append, List.length_singleton, Nat.add_sub_cancel, List.take_left]
  rw [this]
  rfl
theorem cut_open (s : List UInt8) (h : ∀ r, s ≠ r ++ [10]) (hs : s.length ≤ 9223372036854775807) (w : World) :
    Calls Tryd.prog 12 #[.string (txt s), .string ⟨#[10]⟩] w fun e w' => ∃ x, e = .returned (.tuple #[.string x, .bool false]) ∧ w = w' := by
  have := Any.strings_CutSuffix hlays104 (txt s) ⟨#[10]⟩ w (by rw [txt_size]; exact hs)
  rw [txt_list] at this
  have h1 : Lib.hasSuffix s (⟨#[10]⟩ : ByteArray).data.toList = false := by
    unfold Lib.hasSuffix
    rw [Bool.eq_false_iff]
    intro hc
    rw [List.isSuffixOf_iff_suffix] at hc
    obtain ⟨r, hr⟩ := hc
    exact h r hr.symm
  rw [h1] at this
  exact this.mono fun e w' ⟨h, hw⟩ => ⟨_, h, hw.symm⟩
theorem count_nl (r : List UInt8) (w : World) : Calls Tryd.prog 13 #[.string (txt r), .string ⟨#[10]⟩] w fun e w' => e = .returned (.int .i64 ((Lib.count r [10] : Nat) : Int)) ∧ w = w' := by
  have := Any.strings_Count_one hlays138 (txt r) 10 w
  rw [txt_list] at this
  rw [Lib.count_one]
  exact this.mono fun e w' ⟨h, hw⟩ => ⟨h, hw.symm⟩
/-- What the document's Split tells of a text. -/
def RsQ (w w' : World) (s : List UInt8) (e : Ending) : Prop := ∃ A n c, e = .returned (.tuple #[.slice A n c, .bool (splD s).2]) ∧ (splD s).1.length = n ∧ Rd w' A ((splD s).1.map strV) ∧ Below w.heap.size w w'
/-- What Split tells of a text. -/
def SpQ (w w' : World) (s : List UInt8) (e : Ending) : Prop := ∃ A n c, e = .returned (.tuple #[.slice A n c, .int .i64 (if (splD s).2 = true then 0 else 3)]) ∧ (if (splD s).2 = true then (splD s).1 else []).length = n ∧ Rd w' A ((if (splD s).2 = true then (splD s).1 else []).map strV) ∧ Below w.heap.size w w'

set_option maxRecDepth 100000 in
set_option maxHeartbeats 40000000 in
theorem hsplit_nil (w : World) : Calls Tryd.prog 6 #[.string (txt [])] w fun e w' => SpQ w w' [] e := by
  have e0 : txt [] = ⟨#[]⟩ := rfl
  go_enter Tryd.func6, Tryd.ntmps6
  go_wp2
  go_ret2
  exact ⟨none, 0, 0, by rw [splD_nil]; rfl, by rw [splD_nil]; rfl, by rw [splD_nil]; exact .inl rfl, Below.refl _ _⟩
set_option maxRecDepth 100000 in
set_option maxHeartbeats 40000000 in
theorem hsplit_open (s : List UInt8) (h0 : s ≠ []) (h : ∀ r, s ≠ r ++ [10]) (hs : s.length ≤ 9223372036854775807) (w : World) : Calls Tryd.prog 6 #[.string (txt s)] w fun e w' => SpQ w w' s e := by
  have hD := hid (splD_open h0 h)
  have hc := cut_open s h hs
  have HH := hid h
  clear h
  have h9 : s.isEmpty = false := by simpa using h0
  go_enter Tryd.func6, Tryd.ntmps6
  go_wp2_with (go_at_call 12; (with_reducible refine (hc _).mono ?_); rintro e1 w1 ⟨x, rfl, rfl⟩)
  go_ret2
  exact ⟨none, 0, 0, by rw [hD.out]; rfl, by rw [hD.out]; rfl, by rw [hD.out]; exact .inl rfl, Below.refl _ _⟩
set_option maxRecDepth 100000 in
set_option maxHeartbeats 40000000 in
theorem hsplit_many (r : List UInt8) (hr : r.length < 4294967281) (hm : 1000 ≤ Lib.count r [10]) (w : World) : Calls Tryd.prog 6 #[.string (txt (r ++ [10]))] w fun e w' => SpQ w w' (r ++ [10]) e := by
  have hD : Hid ((splD (r ++ [10])).2 = false) := hid (by
    rw [splD_end]
    show linesR (pcs r) = false
    unfold linesR
    rw [decide_eq_false (by rw [pcs_len]; omega)]
    rfl)
  have hs : (r ++ [10]).length ≤ 9223372036854775807 := by rw [List.length_append]; simp; omega
  have h9 : (r ++ [10]).isEmpty = false := by simp
  have b1 : (1000 : Int) ≤ (Lib.count r [10] : Nat) := by omega
  have cN := count_nl r
  generalize Lib.count r [10] = N at *
  go_enter Tryd.func6, Tryd.ntmps6
  go_wp2_with (first
    | (go_at_call 12; (with_reducible refine (cut_end r hs _).mono ?_); rintro e1 w1 ⟨rfl, rfl⟩)
    | (go_at_call 13; (with_reducible refine (cN _).mono ?_); rintro e2 w2 ⟨rfl, rfl⟩))
  go_ret2
  exact ⟨none, 0, 0, by rw [hD.out]; rfl, by rw [hD.out]; rfl, by rw [hD.out]; exact .inl rfl, Below.refl _ _⟩
set_option maxRecDepth 100000 in
set_option maxHeartbeats 40000000 in
theorem hsplit_end (r : List UInt8) (hr : r.length < 4294967281) (hm : ¬ 1000 ≤ Lib.count r [10]) (L : Bool) (hL : linesR (pcs r) = L) (w : World) : Calls Tryd.prog 6 #[.string (txt (r ++ [10]))] w fun e w' => SpQ w w' (r ++ [10]) e := by
  have hD : Hid (splD (r ++ [10]) = (pcs r, L)) := hid (by rw [splD_end, hL])
  have hs : (r ++ [10]).length ≤ 9223372036854775807 := by rw [List.length_append]; simp; omega
  have h9 : (r ++ [10]).isEmpty = false := by simp
  have hbn : (pcs r).length ≤ 9223372036854775807 := by rw [pcs_len]; omega
  have b1 : ¬ (1000 : Int) ≤ (Lib.count r [10] : Nat) := by omega
  have cN := count_nl r
  have cS := fun W => split_nl r hr W
  have cL := fun (A : Option Addr) (c : Nat) (W : World) hR => lines_any A _ c (pcs r) rfl hbn W hR
  rw [hL] at cL
  clear hL hm
  generalize Lib.count r [10] = N at *
  generalize hp : pcs r = P at *
  have HP := hid hp
  clear hp
  generalize hn : P.length = n at *
  have HN := hid hn
  clear hn
  cases L with
  | true =>
    go_enter Tryd.func6, Tryd.ntmps6
    go_wp2_with (first
      | (go_at_call 12; (with_reducible refine (cut_end r hs _).mono ?_); rintro e1 w1 ⟨rfl, rfl⟩)
      | (go_at_call 13; (with_reducible refine (cN _).mono ?_); rintro e2 w2 ⟨rfl, rfl⟩)
      | (go_at_call 14; (with_reducible refine (cS _).mono ?_); rintro e3 w3 ⟨A3, c3, rfl, hR, hb⟩)
      | (go_at_call 15; (with_reducible refine (cL A3 c3 _ hR).mono ?_); rintro e4 w4 ⟨rfl, rfl⟩))
    go_ret2
    exact ⟨A3, n, c3, by rw [hD.out]; rfl, by rw [hD.out]; exact HN.out, by rw [hD.out]; exact hR, hb⟩
  | false =>
    go_enter Tryd.func6, Tryd.ntmps6
    go_wp2_with (first
      | (go_at_call 12; (with_reducible refine (cut_end r hs _).mono ?_); rintro e1 w1 ⟨rfl, rfl⟩)
      | (go_at_call 13; (with_reducible refine (cN _).mono ?_); rintro e2 w2 ⟨rfl, rfl⟩)
      | (go_at_call 14; (with_reducible refine (cS _).mono ?_); rintro e3 w3 ⟨A3, c3, rfl, hR, hb⟩)
      | (go_at_call 15; (with_reducible refine (cL A3 c3 _ hR).mono ?_); rintro e4 w4 ⟨rfl, rfl⟩))
    go_ret2
    exact ⟨none, 0, 0, by rw [hD.out]; rfl, by rw [hD.out]; rfl, by rw [hD.out]; exact .inl rfl, hb⟩
theorem hsplit_any (s : List UInt8) (hs : s.length < 4294967281) (w : World) : Calls Tryd.prog 6 #[.string (txt s)] w fun e w' => SpQ w w' s e := by
  by_cases h0 : s = []
  · subst h0; exact hsplit_nil w
  · by_cases h : ∃ r, s = r ++ [10]
    · obtain ⟨r, rfl⟩ := h
      have hr : r.length < 4294967281 := by rw [List.length_append] at hs; omega
      by_cases hm : 1000 ≤ Lib.count r [10]
      · exact hsplit_many r hr hm w
      · exact hsplit_end r hr hm _ rfl w
    · exact hsplit_open s h0 (fun r e => h ⟨r, e⟩) (by omega) w
theorem stp_short : ∀ (s : List UInt8) (r : List (List UInt8) × List UInt8) (N : Nat), (∀ x ∈ r.1, x.length ≤ N) → r.2.length + s.length ≤ N → ∀ x ∈ (s.foldl stp r).1, x.length ≤ N
  | [], r, N, h, _ => h
  | c :: s, r, N, h, hN => by
    rw [List.foldl_cons]
    rw [List.length_cons] at hN
    refine stp_short s (stp r c) N (fun x hx => ?_) ?_
    · unfold stp at hx
      split at hx
      · rcases List.mem_append.1 hx with hx | hx
        · exact h x hx
        · rw [List.mem_singleton.1 hx]; omega
      · exact h x hx
    · unfold stp
      split
      · simp; omega
      · simp; omega

set_option maxRecDepth 100000 in
set_option maxHeartbeats 40000000 in
theorem rsplit11_any (s : List UInt8) (hl : s.length ≤ 1000000) (w : World) :
    Calls Tryd.prog 7 #[.string (txt s)] w fun e w' => RsQ w w' s e := by
  obtain ⟨j0, hj, hjz, hjs, hjb⟩ := info_parts infoString
  have hsh := hid (stp_short s ([], []) 1000000 (by simp) (by simpa using hl))
  go_enter Tryd.func7, Tryd.ntmps7
  go_wp2
  have h0 : (w.alloc (.cells #[] 9)).ownsRow w.heap.size 9 1 (.slice (some ⟨w.heap.size, 0, none⟩) 0 0) 0 [] := World.ownsRow_made w #[] 0 (Nat.le_refl _) (by decide) rfl
  have hB0 : Below w.heap.size w (w.alloc (.cells #[] 9)) := (Below.refl _ w).alloc (Nat.le_refl _) _
  go_loopw [4, 5, 6] (fun v f i wr => ∃ (k : Nat) (xs : List (List UInt8)) (now : List UInt8), k ≤ s.length ∧ i = .int .i64 k ∧ f = .string (txt now) ∧ xs.length ≤ k ∧ now.length ≤ k ∧ Hid ((s.take k).foldl stp ([], []) = (xs, now)) ∧ wr.ownsRow w.heap.size 9 1 v xs.length (xs.map strV) ∧ Below w.heap.size w wr) (fun _ _ i _ => s.length - (intOf i).toNat)
  case atStart => exact ⟨0, [], [], by omega, rfl, rfl, by simp, by simp, hid (by simp), h0, hB0⟩
  case round =>
    obtain ⟨k, xs, now, hk, rfl, rfl, hxl, hnl, HI, hown, hB⟩ := hrel
    have hwz := hB.size
    have HXL := hid hxl
    clear h0 hB0 hxl
    by_cases hlt : k < s.length
    · obtain ⟨x, hx⟩ : ∃ x, s[k]? = some x := ⟨_, List.getElem?_eq_getElem (by omega)⟩
      have f1 := run_index_str s k x hx k rfl
      have b1 : (k : Int) < s.length := by omega
      have hcl : cutL s k (k + 1) = [x] := by rw [cutL_snoc s k k x (Nat.le_refl _) hx]; simp [cutL]
      have HX := hid (take_snoc hx)
      clear hx
      by_cases h10 : x = 10
      · subst h10
        have e10 : ib 10 = 10 := rfl
        rw [e10] at f1
        have hlx := HXL.out
        clear hcl
        go_wp2_with (at_builtin; refine wpList_append_new rfl _ _ 22 rfl w.heap.size 9 j0 (.string ⟨#[]⟩) 16 Tryd.underlying22 hj hjz hjs hjb rfl _ _ _ rfl hown 1 _ rfl rfl ?l1 ?l2 ?l3 hwz ?_)
        case l1 => simp [Value.oneCell']
        case l2 => unfold maxLen; omega
        case l3 => omega
        intro v8 w8 hown8 hb8
        go_wp2
        go_roundw
        case rel =>
          refine ⟨k + 1, xs ++ [now], [], hlt, by go_num, rfl, by simp; omega, by simp, hid (by rw [HX.out, List.foldl_append, HI.out]; rfl), ?_, hB.trans (hb8.mono (Nat.le_refl _))⟩
          rw [List.length_append, List.map_append]; exact hown8
        case measure => simp [intOf]; omega
      · have hne : ¬ ib x = 10 := by
          intro h
          apply h10
          have e10 : ib 10 = 10 := rfl
          rw [← e10, ib_inj] at h
          exact h
        have s1 : (txt s).extract k (k + 1) = txt [x] := by rw [slice_mid, hcl]
        have c2 : (k : Int) ≤ (k : Int) + 1 := by omega
        have c3 : (k : Int) + 1 ≤ s.length := by omega
        have l1 : ¬ (9223372036854775807 : Int) < now.length + 1 := by omega
        have H10 := hid h10
        clear h10 hcl
        go_wp2
        go_roundw
        case rel => exact ⟨k + 1, xs, now ++ [x], hlt, by go_num, rfl, by have := HXL.out; omega, by simp; omega, hid (by rw [HX.out, List.foldl_append, HI.out]; simp [stp, H10.out]), hown, hB⟩
        case measure => simp [intOf]; omega
    · obtain rfl : k = s.length := by omega
      have b1 : ¬ (s.length : Int) < s.length := by omega
      obtain ⟨hz, A5, c5, rfl, rd5⟩ := rowRd hown
      have hD : Hid (splD s = (xs, now.isEmpty && linesR xs)) := hid (by
        have := HI.out
        rw [List.take_of_length_le (Nat.le_refl _)] at this
        unfold splD
        rw [this])
      have hS := hsh.out
      have hI := HI.out
      rw [List.take_of_length_le (Nat.le_refl _)] at hI
      rw [hI] at hS
      have cL := fun (W : World) (hR : Rd W A5 (xs.map strV)) => rlines_any A5 xs.length c5 xs rfl (by have := HXL.out; omega) (fun y hy => Nat.le_trans (hS y hy) (by decide)) W hR
      clear hI hS hsh HI
      generalize hm : xs.length = m at *
      have HM := hid hm
      clear hm
      cases now with
      | nil =>
        have e0 : txt [] = ⟨#[]⟩ := rfl
        go_wp2_with (go_at_call 16; (with_reducible refine (cL _ rd5).mono ?_); rintro e4 w4 ⟨rfl, rfl⟩)
        go_ret2
        exact ⟨A5, m, c5, by rw [hD.out]; rfl, by rw [hD.out]; exact HM.out, by rw [hD.out]; exact rd5, hB⟩
      | cons a t =>
        have e0 : ¬ (a :: t = []) := by simp
        go_wp2
        go_ret2
        exact ⟨A5, m, c5, by rw [hD.out]; rfl, by rw [hD.out]; exact HM.out, by rw [hD.out]; exact rd5, hB⟩


end Go.Proofs.YtcfcabhmdjoeeaaDoor


/- grant's document: Apply. grant: a table's clone; its root. -/
import Derived.Test.YtdkeobpmenaljaaRk11
set_option linter.unusedSimpArgs false
set_option linter.unusedVariables false
namespace Go.Proofs.Ytdkeobpmenaljaa
open Go.RowKit Go.Qc Go.Shelf
attribute [local go_sem] txt_size txt_append ib_fold txt_toL

theorem rapply19_any (root : List UInt8) (hR : root.length = 32) (A : Option Addr) (n c : Nat) (Xs : List GrD) (hn : Xs.length = n) (bn : n ≤ 900) (hP : ∀ X ∈ Xs, X.p.length ≤ 1000000) (key : List UInt8) (hk : key.length = 32) (D : OpD) (hK : D.K.length = 32) (A' : Option Addr) (n' c' : Nat) (hlo : D.o.length = n') (bno : n' ≤ 1000000) (B' : Option Addr) (m' d' : Nat) (hln : D.n.length = m') (bmo : m' ≤ 1000000) (bp : D.p.length ≤ 1000000) (bt : D.t.length ≤ 1000000) (bo : ∀ x ∈ D.o, x.length ≤ 1000000000000) (bnn : ∀ x ∈ D.n, x.length ≤ 1000000000000) (w : World) (hr : GrRd w A Xs) (rA : Rd w A' (D.o.map strV)) (rB : Rd w B' (D.n.map strV)) :
    Calls Try.prog 16 #[.agg (tbC root (.slice A n c)), .agg (idVals key), .agg (opC D A' n' c' B' m' d')] w (ApR root (applyD19 root Xs key D) w) := by
  by_cases he : opE D = 0
  · by_cases hk5 : D.k < 5
    · exact rapply19_kind root hR A n c Xs hn bn hP key hk D hK A' n' c' hlo bno B' m' d' hln bmo bp bt bo bnn w hr rA rB he hk5
    · by_cases h5 : D.k = 5
      · by_cases hd : depV root Xs key D.p ≤ D.d
        · exact rapply19_low root hR A n c Xs hn bn hP key hk D hK A' n' c' hlo bno B' m' d' hln bmo bp bt bo bnn w hr rA rB he h5 hd
        · exact rapply19_grant root hR A n c Xs hn bn hP key hk D hK A' n' c' hlo bno B' m' d' hln bmo bp bt bo bnn w hr rA rB he h5 hd
      · have h6 : D.k = 6 := by have := opE_kind he; omega
        by_cases hd : depV root Xs key D.p < 1
        · exact rapply19_low6 root hR A n c Xs hn bn hP key hk D hK A' n' c' hlo bno B' m' d' hln bmo bp bt bo bnn w hr rA rB he h6 hd
        · exact rapply19_revoke root hR A n c Xs hn bn hP key hk D hK A' n' c' hlo bno B' m' d' hln bmo bp bt bo bnn w hr rA rB he h6 hd
  · exact rapply19_wrong root hR A n c Xs hn bn hP key hk D hK A' n' c' hlo bno B' m' d' hln bmo bp bt bo bnn w hr rA rB he
theorem build_gtb (root : List UInt8) (hR : root.length = 32) (A : Option Addr) (n c : Nat) (W : World) : (Instr.build 102 #[(0, .agg (List.map u8v root).toArray), (1, .slice A n c)]).run Try.prog W = .ok (.agg (idVals root ++ #[.slice A n c])) W := by
  obtain ⟨x0, x1, x2, x3, x4, x5, x6, x7, x8, x9, x10, x11, x12, x13, x14, x15, x16, x17, x18, x19, x20, x21, x22, x23, x24, x25, x26, x27, x28, x29, x30, x31, rfl⟩ := list32g root hR
  kernel_rfl
theorem pre_len {p : List UInt8} (h : preR p = true) : p.length ≤ 200 := by
  unfold preR pathR at h
  cases p with
  | nil => exact Nat.zero_le _
  | cons x p => simp only [List.isEmpty_cons, Bool.false_or, Bool.and_eq_true, decide_eq_true_eq] at h; exact h.1
theorem row_str (l : List UInt8) (A : Option Addr) (n c : Nat) (i : Nat) (s : ByteArray) : (idVals l ++ #[Value.slice A n c])[i]? ≠ some (.string s) := fun h => by
  have h := Array.mem_of_getElem? h
  rw [Array.mem_append] at h
  rcases h with h | h
  · unfold idVals at h
    rw [List.mem_toArray, List.mem_map] at h
    obtain ⟨b, _, e⟩ := h
    cases e
  · rw [List.mem_toArray, List.mem_singleton] at h
    cases h
/-- A row of grants stays as it is where a block without strings is written. -/
theorem RkT.apart {W W' : World} {v : Value} {Ys : List GrD} (h : RkT W v Ys) {b : Nat} {t : TypeId} {cs : Array Value} (hb : Blk W b t cs) (hs : ∀ (i : Nat) (s : ByteArray), cs[i]? ≠ some (Value.string s)) (hg : W.grownBy W' (some b)) : RkT W' v Ys := by
  obtain ⟨A, c, e, h1, h2⟩ := h
  refine ⟨A, c, e, h1, ?_⟩
  cases Ys with
  | nil => exact .inl rfl
  | cons X Ys =>
    rcases h2 with h2 | ⟨g, o, e2, hr⟩
    · cases h2
    · refine .inr ⟨g, o, e2, range_gb hr hg fun e3 => ?_⟩
      subst e3
      have h0 := hr 0 (.string (txt X.p)) (by unfold grsV; rw [List.flatMap_cons, List.getElem?_append_left (by rw [Array.length_toList, GrD.size (h1 X (by simp))]; omega), Array.getElem?_toList]; exact X.c0)
      rw [hb.cell] at h0
      exact hs _ _ h0
/-- A table stays as it is where a block of another kind is written. -/
theorem TbS.apart {W W' : World} {tb : Nat} {root : List UInt8} {Xs : List GrD} (h : TbS W tb root Xs) {b : Nat} {t : TypeId} {cs : Array Value} (hb : Blk W b t cs) (ht : t ≠ 113) (hne : tb ≠ b) (hg : W.grownBy W' (some b)) : TbS W' tb root Xs := by
  obtain ⟨⟨V, base, h1, h2, h3⟩, h4⟩ := h
  refine ⟨⟨V, base, World.ownsRow.kept h1 hg ?_, ⟨blk_grown h2.b hg hne⟩, h3⟩, h4⟩
  rcases h1.2 with ⟨e, _⟩ | ⟨g, cap, cur, e, _, hgg, _⟩
  · left; rw [e]; rfl
  · right
    rw [e]
    intro e2
    have e3 : g = b := by simpa [Value.ownBlock] using e2
    subst e3
    unfold Blk at hb
    rw [hgg] at hb
    have e4 := Option.some.inj hb
    injection e4 with _ e5
    exact ht e5.symm
theorem TbS.blk {W : World} {tb : Nat} {root : List UInt8} {Xs : List GrD} (h : TbS W tb root Xs) : ∃ A n c, Blk W tb 102 (idVals root ++ #[.slice A n c]) := by
  obtain ⟨A, C, h1, _⟩ := h.open_
  exact ⟨A, _, C, h1.b⟩
theorem ret_idc {fn : Func} {p : Tmp} (hf : fn.results = #[.cell p 23]) (tmps : Array Value) (w : World) (g : Nat) (l : List UInt8) (hL : l.length = 32) (hp : tmps.getD p undef = .pointer (some ⟨g, 0, none⟩)) (hg : Blk w g 23 (List.map u8v l).toArray) :
    (results fn tmps).run Try.prog w = .ok (.agg (List.map u8v l).toArray) w := results_cell_row hf tmps w g _ _ _ _ hp hg Try.underlying23 rfl (by rw [List.size_toArray, List.length_map, hL]; exact sizeId)
set_option maxRecDepth 100000 in
set_option maxHeartbeats 20000000 in
theorem groot_any (tb : Nat) (root : List UInt8) (hR : root.length = 32) (Xs : List GrD) (w : World) (hs : TbS w tb root Xs) :
    Calls Try.prog 21 #[.pointer (some ⟨tb, 0, none⟩)] w fun e w' => e = .returned (.agg (List.map u8v root).toArray) ∧ Below w.heap.size w w' := by
  obtain ⟨A, C, h1, _⟩ := hs.open_
  have hu := Try.underlying23
  have hzr : (Try.prog.info? 23).map (·.size) = some (root.map u8v).length := by rw [List.length_map, hR]; exact sizeId
  go_enter Try.func21, Try.ntmps21
  go_upto_region 1 with (fail)
  generalize hZ : (Obj.cells _ 23) = Z
  obtain ⟨zc, rfl, hzc⟩ : ∃ zc : Array Value, Z = Obj.cells zc 23 ∧ zc.size = 32 := ⟨_, hZ.symm, rfl⟩
  clear hZ
  have hal := (Below.refl w.heap.size w).alloc (Nat.le_refl _) (.cells zc 23)
  have hb2 := (Below.refl w.heap.size w).alloc (Nat.le_refl _) (.cells (idVals root) 23)
  have fr := (h1.below hal).key
  have hk := Blk.new w 23 (idVals root)
  have h1c := idVals_one root
  have hsz : zc.size = (List.map u8v root).toArray.size := by rw [hzc]; simp [hR]
  have hzi : (Try.prog.info? 23).map (·.size) = some (List.map u8v root).toArray.size := by rw [List.size_toArray]; exact hzr
  unfold idVals at hk hb2 h1c
  go_wp2_with (first
    | (with_reducible refine wpList_load_if (by with_unfolding_all rfl) 23 _ rfl _ _ rfl (root.map u8v) _ fr hu rfl hzr ?_)
    | (with_reducible refine wpList_store_new rfl 23 _ _ rfl (List.map u8v root).toArray rfl rfl hzi hsz h1c ?_))
  refine bodyPost_ret (ret_idc rfl _ _ _ root hR rfl hk) rfl ⟨rfl, hb2⟩
theorem own_ne {W : World} {base n : Nat} {v : Value} {Xs : List GrD} (h : GrOw W base v n Xs) : v.ownBlock ≠ some W.heap.size := fun e => by
  have := (World.ownsRow.lt h _ e).2
  omega
set_option maxRecDepth 100000 in
set_option maxHeartbeats 20000000 in
theorem gtclone_any (tb : Nat) (root : List UInt8) (hR : root.length = 32) (Xs : List GrD) (bn : Xs.length ≤ 1000) (w : World) (hs : TbS w tb root Xs) :
    Calls Try.prog 17 #[.pointer (some ⟨tb, 0, none⟩)] w fun e w' => ∃ cb, e = .returned (.pointer (some ⟨cb, 0, none⟩)) ∧ w.heap.size ≤ cb ∧ TbS w' cb root Xs ∧ Below w.heap.size w w' := by
  have hu := Try.underlying23
  have hzr : (Try.prog.info? 23).map (·.size) = some (root.map u8v).length := by rw [List.length_map, hR]; exact sizeId
  have hbd := below_drew10 w
  have HOK := hid hs.ok
  go_enter Try.func17, Try.ntmps17
  go_wp2_with (fail)
  have hs2 := hs.below (below_drew10 w)
  obtain ⟨A, C, h1, _⟩ := hs2.open_
  have H1 := hid h1
  clear h1
  refine wp_region_held_drew (S := fun W => W.rangeAt tb 0 (root.map u8v)) (by kernel_rfl) ?_ (fun hHeld => ?_)
  · exact H1.out.key
  refine' wpAnyH_take (i := 0) (v := .pointer (some ⟨tb, 0, none⟩)) rfl (by kernel_rfl) (by kernel_rfl) (by kernel_rfl) (fun _ _ _ h => h) (Or.inl ⟨by rfl, fun w' hw' => by go_simp⟩) hHeld ?_
  try simp only [Act.put, List.getElem_toArray, List.getElem_cons_succ, List.getElem_cons_zero, List.setIfInBounds_toArray, List.set_cons_zero, List.set_cons_succ]
  refine' wpAnyH_take (i := 1) (v := .pointer (some ⟨tb, 0, none⟩)) rfl (by kernel_rfl) (by kernel_rfl) (by kernel_rfl) (fun _ _ _ h => h) (Or.inl ⟨by rfl, fun w' hw' => by go_simp⟩) hHeld ?_
  try simp only [Act.put, List.getElem_toArray, List.getElem_cons_succ, List.getElem_cons_zero, List.setIfInBounds_toArray, List.set_cons_zero, List.set_cons_succ]
  refine' wpAnyH_take (i := 2) (v := .pointer (some ⟨tb, 0, none⟩)) rfl (by kernel_rfl) (by kernel_rfl) (by kernel_rfl) (fun _ _ _ h => h) (Or.inl ⟨by rfl, fun w' hw' => by go_simp⟩) hHeld ?_
  try simp only [Act.put, List.getElem_toArray, List.getElem_cons_succ, List.getElem_cons_zero, List.setIfInBounds_toArray, List.set_cons_zero, List.set_cons_succ]
  refine' wpAnyH_take (i := 3) (v := _) rfl (by kernel_rfl) (by kernel_rfl) (by kernel_rfl) (fun _ _ _ h => h) (yieldsIf_load_mid (by rfl) 23 _ rfl _ _ rfl (root.map u8v) _ (fun w' h => h) hu rfl hzr) hHeld ?_
  try simp only [Act.put, List.getElem_toArray, List.getElem_cons_succ, List.getElem_cons_zero, List.setIfInBounds_toArray, List.set_cons_zero, List.set_cons_succ]
  refine' wpAnyH_take (i := 4) (v := .pointer (some ⟨tb, 0, none⟩)) rfl (by kernel_rfl) (by kernel_rfl) (by kernel_rfl) (fun _ _ _ h => h) (Or.inl ⟨by rfl, fun w' hw' => by go_simp⟩) hHeld ?_
  try simp only [Act.put, List.getElem_toArray, List.getElem_cons_succ, List.getElem_cons_zero, List.setIfInBounds_toArray, List.set_cons_zero, List.set_cons_succ]
  refine wpAnyH_ready (rs := [5]) (by kernel_rfl) (by simp) ?_
  refine AllReadyH.cons rfl (fun K hK => ?_) AllReadyH.nil
  go_simp
  (with_reducible refine (ggrants_any tb root hR Xs bn _ hs2).mono ?_)
  rintro e5 w5 ⟨v5, rfl, hown5, hb5⟩
  obtain ⟨A5, c5, rfl, _, _, _, _⟩ := hown5.rd HOK.out
  refine hK.out _ _ (H1.out.below hb5).key (fun hHeld => ?_)
  clear hK K
  try simp only [Act.put, List.getElem_toArray, List.getElem_cons_succ, List.getElem_cons_zero, List.setIfInBounds_toArray, List.set_cons_zero, List.set_cons_succ]
  refine' wpAnyH_take (i := 6) (v := .agg (idVals root ++ #[.slice A5 Xs.length c5])) rfl (by kernel_rfl) (by kernel_rfl) (by kernel_rfl) (fun _ _ _ h => h) (yieldsIf_build_by (by rfl) _ _ rfl _ _ (build_gtb root hR A5 Xs.length c5) (by with_unfolding_all rfl)) hHeld ?_
  try simp only [Act.put, List.getElem_toArray, List.getElem_cons_succ, List.getElem_cons_zero, List.setIfInBounds_toArray, List.set_cons_zero, List.set_cons_succ]
  have hal := (Below.refl w5.heap.size w5).alloc (Nat.le_refl _) (.cells (idVals root ++ #[.slice A5 Xs.length c5]) 102)
  have hbk := Blk.new w5 102 (idVals root ++ #[.slice A5 Xs.length c5])
  refine wpAnyH_ready (rs := [7]) (by kernel_rfl) (by simp) ?_
  refine AllReadyH.cons rfl (fun K hK => ?_) AllReadyH.nil
  go_simp
  refine hK.out _ _ ((H1.out.below hb5).below hal).key (fun hHeld => ?_)
  clear hK K
  try simp only [Act.put, List.getElem_toArray, List.getElem_cons_succ, List.getElem_cons_zero, List.setIfInBounds_toArray, List.set_cons_zero, List.set_cons_succ]
  refine' wpAnyH_take (i := 8) (v := .pointer (some ⟨w5.heap.size, 0, none⟩)) rfl (by kernel_rfl) (by kernel_rfl) (by kernel_rfl) (fun _ _ _ h => h) (Or.inl ⟨by rfl, fun w' hw' => by go_simp⟩) hHeld ?_
  try simp only [Act.put, List.getElem_toArray, List.getElem_cons_succ, List.getElem_cons_zero, List.setIfInBounds_toArray, List.set_cons_zero, List.set_cons_succ]
  refine wpAnyH_done (by kernel_rfl) ?_ _
  go_wp2
  go_ret
  exact ⟨w5.heap.size, rfl, hbd.trans hb5 |>.size, ⟨⟨_, _, hown5.below hal, ⟨hbk⟩, own_ne hown5⟩, HOK.out⟩, (hbd.trans (hb5.mono hbd.size)).trans (hal.mono (hbd.trans (hb5.mono hbd.size)).size)⟩
end Go.Proofs.Ytdkeobpmenaljaa

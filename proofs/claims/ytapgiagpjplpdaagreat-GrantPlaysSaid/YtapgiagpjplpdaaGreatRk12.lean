
/- grant's document: Apply. grant: a table's clone; its root. -/
import Derived.Test.YtapgiagpjplpdaaGreatRk11
set_option linter.unusedSimpArgs false
set_option linter.unusedVariables false
namespace Go.Proofs.YtapgiagpjplpdaaGreat
open Go.RowKit Go.Qc Go.Shelf
attribute [local go_sem] txt_size txt_append ib_fold txt_toL

theorem rapply19_any (root : List UInt8) (hR : root.length = 32) (A : Option Addr) (n c : Nat) (Xs : List GrD) (hn : Xs.length = n) (bn : n ≤ 900) (hP : ∀ X ∈ Xs, X.p.length ≤ 1000000) (key : List UInt8) (hk : key.length = 32) (D : OpD) (hK : D.K.length = 32) (A' : Option Addr) (n' c' : Nat) (hlo : D.o.length = n') (bno : n' ≤ 1000000) (B' : Option Addr) (m' d' : Nat) (hln : D.n.length = m') (bmo : m' ≤ 1000000) (bp : D.p.length ≤ 1000000) (bt : D.t.length ≤ 1000000) (bo : ∀ x ∈ D.o, x.length ≤ 1000000000000) (bnn : ∀ x ∈ D.n, x.length ≤ 1000000000000) (w : World) (hr : GrRd w A Xs) (rA : Rd w A' (D.o.map strV)) (rB : Rd w B' (D.n.map strV)) :
    Calls Tryz.prog 10 #[.agg (tbC root (.slice A n c)), .agg (idVals key), .agg (opC D A' n' c' B' m' d')] w (ApR root (applyD19 root Xs key D) w) := by
  by_cases he : opE D = 0
  · by_cases hk5 : D.k < 5
    · exact rapply19_kind root hR A n c Xs hn bn hP key hk D hK A' n' c' hlo bno B' m' d' hln bmo bp bt bo bnn w hr rA rB he hk5
    · by_cases h5 : D.k = 5
      · by_cases hd : depV root Xs key D.p ≤ D.d
        · exact rapply19_low root hR A n c Xs hn bn hP key hk D hK A' n' c' hlo bno B' m' d' hln bmo bp bt bo bnn w hr rA rB he h5 hd
        · exact rapply19_grant root hR A n c Xs hn bn hP key hk D hK A' n' c' hlo bno B' m' d' hln bmo bp bt bo bnn w hr rA rB he h5 hd
      · have h6 : D.k = 6 := by have := opE_kind he; omega
        by_cases hd : depV root Xs key D.p < 1
        · exact rapply19_low6 root hR A n c Xs hn bn hP key hk D hK A' n' c' hlo bno B' m' d' hln bmo bp bt bo bnn w hr rA rB he h6 hd
        · exact rapply19_revoke root hR A n c Xs hn bn hP key hk D hK A' n' c' hlo bno B' m' d' hln bmo bp bt bo bnn w hr rA rB he h6 hd
  · exact rapply19_wrong root hR A n c Xs hn bn hP key hk D hK A' n' c' hlo bno B' m' d' hln bmo bp bt bo bnn w hr rA rB he
theorem pre_len {p : List UInt8} (h : preR p = true) : p.length ≤ 200 := by
  unfold preR pathR at h
  cases p with
  | nil => exact Nat.zero_le _
  | cons x p => simp only [List.isEmpty_cons, Bool.false_or, Bool.and_eq_true, decide_eq_true_eq] at h; exact h.1
theorem row_str (l : List UInt8) (A : Option Addr) (n c : Nat) (i : Nat) (s : ByteArray) : (idVals l ++ #[Value.slice A n c])[i]? ≠ some (.string s) := fun h => by
  have h := Array.mem_of_getElem? h
  rw [Array.mem_append] at h
  rcases h with h | h
  · unfold idVals at h
    rw [List.mem_toArray, List.mem_map] at h
    obtain ⟨b, _, e⟩ := h
    cases e
  · rw [List.mem_toArray, List.mem_singleton] at h
    cases h
/-- A row of grants stays as it is where a block without strings is written. -/
theorem RkT.apart {W W' : World} {v : Value} {Ys : List GrD} (h : RkT W v Ys) {b : Nat} {t : TypeId} {cs : Array Value} (hb : Blk W b t cs) (hs : ∀ (i : Nat) (s : ByteArray), cs[i]? ≠ some (Value.string s)) (hg : W.grownBy W' (some b)) : RkT W' v Ys := by
  obtain ⟨A, c, e, h1, h2⟩ := h
  refine ⟨A, c, e, h1, ?_⟩
  cases Ys with
  | nil => exact .inl rfl
  | cons X Ys =>
    rcases h2 with h2 | ⟨g, o, e2, hr⟩
    · cases h2
    · refine .inr ⟨g, o, e2, range_gb hr hg fun e3 => ?_⟩
      subst e3
      have h0 := hr 0 (.string (txt X.p)) (by unfold grsV; rw [List.flatMap_cons, List.getElem?_append_left (by rw [Array.length_toList, GrD.size (h1 X (by simp))]; omega), Array.getElem?_toList]; exact X.c0)
      rw [hb.cell] at h0
      exact hs _ _ h0
/-- A table stays as it is where a block of another kind is written. -/
theorem TbS.apart {W W' : World} {tb : Nat} {root : List UInt8} {Xs : List GrD} (h : TbS W tb root Xs) {b : Nat} {t : TypeId} {cs : Array Value} (hb : Blk W b t cs) (ht : t ≠ 70) (hne : tb ≠ b) (hg : W.grownBy W' (some b)) : TbS W' tb root Xs := by
  obtain ⟨⟨V, base, h1, h2, h3⟩, h4⟩ := h
  refine ⟨⟨V, base, World.ownsRow.kept h1 hg ?_, ⟨blk_grown h2.b hg hne⟩, h3⟩, h4⟩
  rcases h1.2 with ⟨e, _⟩ | ⟨g, cap, cur, e, _, hgg, _⟩
  · left; rw [e]; rfl
  · right
    rw [e]
    intro e2
    have e3 : g = b := by simpa [Value.ownBlock] using e2
    subst e3
    unfold Blk at hb
    rw [hgg] at hb
    have e4 := Option.some.inj hb
    injection e4 with _ e5
    exact ht e5.symm
theorem TbS.blk {W : World} {tb : Nat} {root : List UInt8} {Xs : List GrD} (h : TbS W tb root Xs) : ∃ A n c, Blk W tb 60 (idVals root ++ #[.slice A n c]) := by
  obtain ⟨A, C, h1, _⟩ := h.open_
  exact ⟨A, _, C, h1.b⟩
theorem ret_idc {fn : Func} {p : Tmp} (hf : fn.results = #[.cell p 23]) (tmps : Array Value) (w : World) (g : Nat) (l : List UInt8) (hL : l.length = 32) (hp : tmps.getD p undef = .pointer (some ⟨g, 0, none⟩)) (hg : Blk w g 23 (List.map u8v l).toArray) :
    (results fn tmps).run Tryz.prog w = .ok (.agg (List.map u8v l).toArray) w := results_cell_row hf tmps w g _ _ _ _ hp hg Tryz.underlying23 rfl (by rw [List.size_toArray, List.length_map, hL]; exact sizeId)
set_option maxRecDepth 100000 in
set_option maxHeartbeats 20000000 in
theorem groot_any (tb : Nat) (root : List UInt8) (hR : root.length = 32) (Xs : List GrD) (w : World) (hs : TbS w tb root Xs) :
    Calls Tryz.prog 6 #[.pointer (some ⟨tb, 0, none⟩)] w fun e w' => e = .returned (.agg (List.map u8v root).toArray) ∧ Below w.heap.size w w' := by
  obtain ⟨A, C, h1, _⟩ := hs.open_
  have hu := Tryz.underlying23
  have hzr : (Tryz.prog.info? 23).map (·.size) = some (root.map u8v).length := by rw [List.length_map, hR]; exact sizeId
  go_enter Tryz.func6, Tryz.ntmps6
  go_upto_region 1 with (fail)
  generalize hZ : (Obj.cells _ 23) = Z
  obtain ⟨zc, rfl, hzc⟩ : ∃ zc : Array Value, Z = Obj.cells zc 23 ∧ zc.size = 32 := ⟨_, hZ.symm, rfl⟩
  clear hZ
  have hal := (Below.refl w.heap.size w).alloc (Nat.le_refl _) (.cells zc 23)
  have hb2 := (Below.refl w.heap.size w).alloc (Nat.le_refl _) (.cells (idVals root) 23)
  have fr := (h1.below hal).key
  have hk := Blk.new w 23 (idVals root)
  have h1c := idVals_one root
  have hsz : zc.size = (List.map u8v root).toArray.size := by rw [hzc]; simp [hR]
  have hzi : (Tryz.prog.info? 23).map (·.size) = some (List.map u8v root).toArray.size := by rw [List.size_toArray]; exact hzr
  unfold idVals at hk hb2 h1c
  go_wp2_with (first
    | (with_reducible refine wpList_load_if (by with_unfolding_all rfl) 23 _ rfl _ _ rfl (root.map u8v) _ fr hu rfl hzr ?_)
    | (with_reducible refine wpList_store_new rfl 23 _ _ rfl (List.map u8v root).toArray rfl rfl hzi hsz h1c ?_))
  refine bodyPost_ret (ret_idc rfl _ _ _ root hR rfl hk) rfl ⟨rfl, hb2⟩
end Go.Proofs.YtapgiagpjplpdaaGreat

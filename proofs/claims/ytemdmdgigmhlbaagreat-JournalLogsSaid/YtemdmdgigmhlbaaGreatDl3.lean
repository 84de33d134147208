
/- disk: Cut, Sync and Crash, with what they leave alone. -/
import Derived.Test.YtemdmdgigmhlbaaGreatDl2
import Derived.Test.YtemdmdgigmhlbaaGreatDk10
set_option linter.unusedSimpArgs false
set_option linter.unusedVariables false
namespace Go.Proofs.YtemdmdgigmhlbaaGreat
open Go.RowKit Go.Qc Go.Shelf
attribute [local go_sem] txt_size txt_append ib_fold
/-- What a cut answers. -/
def ECutQ (base D : Nat) (s : List UInt8) (m : Nat) (W : World) (e : Ending) (w' : World) : Prop :=
  e = .returned (.int .i64 0) ∧ ∃ kv' sv', DkS base D kv' sv' (.slice none 0 0) (s.take m) (s.take m) [] false w' ∧ BlD base W w'
set_option maxRecDepth 100000 in
set_option maxHeartbeats 16000000 in
theorem ecutn_any (m : Nat) (base D : Nat) (kv sv wv : Value) (k s : List UInt8) (ws : List WrD) (hs : s.length ≤ 10000000) (hk : k.length ≤ 10000000) (hw : ∀ x ∈ ws, x.p + x.t.length ≤ 10000000) (hn : ws.length ≤ 1000) (hinv : applyW k ws = s) (hm : m ≤ s.length) (W : World) (h : DkS base D kv sv wv k s ws false W) :
    Calls Tryz.prog 42 #[.pointer (some ⟨D, 0, none⟩), .int .i64 (m : Int)] W (ECutQ base D s m W) := by
  have cB := dburn_any _ _ _ _ _ _ _ _ _ _ h
  have HS := hid h
  have HB2 : Hid (BlD base W W) := hid (BlD.refl base W)
  have HBD := hid h.bd
  have HINV := hid hinv
  have HW := hid hw
  have HKL := hid (applyW_len hk hw)
  have HSL := hid hs
  have f1 := h.x.cell_ (i := 1) rfl
  have f2 := h.x.cell_ (i := 2) rfl
  obtain ⟨As, cs, rfl, hslice⟩ := h.r.s.sl3 m hm
  obtain ⟨Aw, cw, rfl, _, _, _, _⟩ := h.r.q.rd (WrD.all_ok ws)
  obtain ⟨n, hnn⟩ : ∃ n, ws.length = n := ⟨_, rfl⟩
  obtain ⟨p, hpp⟩ : ∃ p, s.length = p := ⟨_, rfl⟩
  have HNN := hid hnn
  have HPP := hid hpp
  have HSLC := hid hslice
  have HN := hid hn
  rw [hnn] at f2 HS HN
  rw [hpp] at f1 HS HSLC hs
  have z1 : ¬ (m : Int) < 0 := by omega
  have z2 : ¬ (p : Int) < (m : Int) := by omega
  have HM := hid (show m ≤ s.length by omega)
  clear h hs hk hw hinv hnn hpp hslice hn hm
  go_enter Tryz.func42, Tryz.ntmps42
  go_wp2_with (go_at_call 52; (with_reducible refine cB.mono ?_); rintro e1 w1 ⟨rfl, rfl⟩)
  clear cB f1 f2 z1 z2
  go_loopw [29] (fun v wr => ∃ (i : Nat) (kv9 : Value), i ≤ n ∧ v = .int .i64 (i : Int) ∧ Hid (DkS base D kv9 (.slice As p cs) (.slice Aw n cw) (applyW k (ws.take i)) s ws false wr) ∧ Hid (BlD base W wr)) (fun v _ => n - (intOf v).toNat)
  case atStart => exact ⟨0, _, Nat.zero_le _, rfl, HS, HB2⟩
  case round =>
    clear HS HB2
    obtain ⟨i, kv9, hi, rfl, HS, HB2⟩ := hrel
    obtain ⟨wo, hwo⟩ : ∃ u, u = wr := ⟨_, rfl⟩
    subst hwo
    by_cases hlt : i < n
    · obtain ⟨X, hX⟩ : ∃ X, ws[i]? = some X := ⟨_, List.getElem?_eq_getElem (by have := HNN.out; omega)⟩
      obtain ⟨A', c', e', hlen', _, _, hrd⟩ := WrOw.rd HS.out.r.q (WrD.all_ok ws)
      injection e' with ea eb ec
      subst ea ec
      obtain ⟨g, q, fx, hok, hix⟩ := hrd.pick (k := i) cw HNN.out hX
      have hput : ∀ (V : World) (v : Value), ByOw V base v (applyW k (ws.take i)) → base ≤ V.heap.size → Calls Tryz.prog 50 #[v, .agg X.cs] V (PutQ base v (applyW k (ws.take (i + 1))) V) := fun V v hv hb => by
        rw [applyW_step hX]
        exact put_any base v _ X.p X.t (by have := HKL.out i; omega) (by have := HW.out X (List.mem_of_getElem? hX); omega) (by have := HW.out X (List.mem_of_getElem? hX); omega) V hv hb
      have CP := hid hput
      have z3 : (i : Int) < (n : Int) := Int.ofNat_lt.2 hlt
      have q9 : wrap64 ((i : Int) + 1) = (i : Int) + 1 := by have := HN.out; unfold wrap64; omega
      have HLT := hid hlt
      clear hlt hi hX hrd hput hlen' eb
      go_upto_region 9 with (first
        | (with_reducible refine wpList_load_wrr (by with_unfolding_all rfl) _ rfl g q rfl fx hok ?_)
        | (with_reducible refine wpList_store_wrn rfl _ _ rfl rfl rfl hok rfl ?_))
      have hx5 := Blk.new wo 72 X.cs
      have hb5 := (Below.refl wo.heap.size wo).alloc (Nat.le_refl _) (.cells X.cs 72)
      replace HB2 := hid (HB2.out.bel hb5 HS.out.r.bs)
      replace HS := hid (HS.out.below hb5)
      clear hb5 fx hix hok
      generalize wo.alloc (.cells X.cs 72) = w5 at *
      obtain ⟨gB, hgB⟩ : ∃ g, wo.heap.size = g := ⟨_, rfl⟩
      rw [hgB] at hx5
      simp only [hgB]
      clear hgB
      replace hx5 := hx5.below (below_drew1 w5)
      replace HB2 := hid (HB2.out.bel (below_drew1 w5) HS.out.r.bs)
      replace HS := hid (HS.out.below (below_drew1 w5))
      refine wp_region_held_drew (S := fun V => Blk V gB 72 X.cs) (by kernel_rfl) hx5 (fun hHeld => ?_)
      clear hx5
      generalize w5.drew = w6 at *
      refine' wpAnyH_take (i := 0) (v := .pointer (some ⟨D, 0, none⟩)) rfl (by kernel_rfl) (by kernel_rfl) (by kernel_rfl) (fun _ _ _ h => h) (Or.inl ⟨by rfl, fun w' hw' => by go_simp⟩) hHeld ?_
      try simp only [Act.put, List.getElem_toArray, List.getElem_cons_succ, List.getElem_cons_zero, List.setIfInBounds_toArray, List.set_cons_zero, List.set_cons_succ]
      refine' wpAnyH_take (i := 1) (v := .pointer (some ⟨D, 0, none⟩)) rfl (by kernel_rfl) (by kernel_rfl) (by kernel_rfl) (fun _ _ _ h => h) (Or.inl ⟨by rfl, fun w' hw' => by go_simp⟩) hHeld ?_
      try simp only [Act.put, List.getElem_toArray, List.getElem_cons_succ, List.getElem_cons_zero, List.setIfInBounds_toArray, List.set_cons_zero, List.set_cons_succ]
      refine' wpAnyH_take (i := 2) (v := .pointer (some ⟨D, 0, none⟩)) rfl (by kernel_rfl) (by kernel_rfl) (by kernel_rfl) (fun _ _ _ h => h) (Or.inl ⟨by rfl, fun w' hw' => by go_simp⟩) hHeld ?_
      try simp only [Act.put, List.getElem_toArray, List.getElem_cons_succ, List.getElem_cons_zero, List.setIfInBounds_toArray, List.set_cons_zero, List.set_cons_succ]
      refine' wpAnyH_take (i := 3) (v := .pointer (some ⟨D, 0, none⟩)) rfl (by kernel_rfl) (by kernel_rfl) (by kernel_rfl) (fun _ _ _ h => h) (Or.inl ⟨by rfl, fun w' hw' => by go_simp⟩) hHeld ?_
      try simp only [Act.put, List.getElem_toArray, List.getElem_cons_succ, List.getElem_cons_zero, List.setIfInBounds_toArray, List.set_cons_zero, List.set_cons_succ]
      refine' wpAnyH_take (i := 5) (v := .agg X.cs) rfl (by kernel_rfl) (by kernel_rfl) (by kernel_rfl) (fun _ _ _ h => h) (yields_wr (by rfl) _ rfl gB 0 rfl X rfl (fun w' h => WrX.range h)) hHeld ?_
      try simp only [Act.put, List.getElem_toArray, List.getElem_cons_succ, List.getElem_cons_zero, List.setIfInBounds_toArray, List.set_cons_zero, List.set_cons_succ]
      refine wpAnyH_ready (rs := [4]) (by kernel_rfl) (by simp) ?_
      refine AllReadyH.cons rfl (fun K hK => ?_) AllReadyH.nil
      have fA := HS.out.x.cell_ (i := 0) rfl
      go_simp
      refine hK.out _ _ hHeld (fun hHeld => ?_)
      clear hK K fA
      try simp only [Act.put, List.getElem_toArray, List.getElem_cons_succ, List.getElem_cons_zero, List.setIfInBounds_toArray, List.set_cons_zero, List.set_cons_succ]
      refine wpAnyH_ready (rs := [6]) (by kernel_rfl) (by simp) ?_
      refine AllReadyH.cons rfl (fun K hK => ?_) AllReadyH.nil
      go_simp
      (with_reducible refine (CP.out _ _ HS.out.r.k HS.out.r.bs).mono ?_)
      rintro e6 V6 ⟨v6, rfl, ho6, hg6, hv6⟩
      have hx6 := HS.out.boxed (blk_off HS.out.x HS.out.r.k (by decide)) hg6
      have hr6 := HS.out.r.kept hg6 ho6 hv6
      have hB6 : Blk V6 gB 72 X.cs := (hg6.block gB hHeld.lt (blk_off hHeld HS.out.r.k (by decide))).trans hHeld
      replace HB2 := hid (HB2.out.row hg6 HS.out.r.k (by simp [dts]) HS.out.r.bs)
      obtain ⟨A6, c6, hv66⟩ := ho6.sl
      subst hv66
      have HX6 := hid hx6
      have HR6 := hid hr6
      refine hK.out _ _ hB6 (fun hHeld => ?_)
      clear hK K hg6 hv6 ho6 hx6 hr6 hB6
      try simp only [Act.put, List.getElem_toArray, List.getElem_cons_succ, List.getElem_cons_zero, List.setIfInBounds_toArray, List.set_cons_zero, List.set_cons_succ]
      refine' wpAnyH_take (i := 7) (v := .pointer (some ⟨D, 0, none⟩)) rfl (by kernel_rfl) (by kernel_rfl) (by kernel_rfl) (fun _ _ _ h => h) (Or.inl ⟨by rfl, fun w' hw' => by go_simp⟩) hHeld ?_
      try simp only [Act.put, List.getElem_toArray, List.getElem_cons_succ, List.getElem_cons_zero, List.setIfInBounds_toArray, List.set_cons_zero, List.set_cons_succ]
      refine' wpAnyH_take (i := 8) (v := .pointer (some ⟨D, 0, none⟩)) rfl (by kernel_rfl) (by kernel_rfl) (by kernel_rfl) (fun _ _ _ h => h) (Or.inl ⟨by rfl, fun w' hw' => by go_simp⟩) hHeld ?_
      try simp only [Act.put, List.getElem_toArray, List.getElem_cons_succ, List.getElem_cons_zero, List.setIfInBounds_toArray, List.set_cons_zero, List.set_cons_succ]
      refine wpAnyH_ready (rs := [9]) (by kernel_rfl) (by simp) ?_
      refine AllReadyH.cons rfl (fun K hK => ?_) AllReadyH.nil
      refine wp_store_d0 _ _ rfl D _ _ _ _ HX6.out A6 _ c6 rfl rfl ?_
      intro V9 hB9 hg9
      have hr9 := HR6.out.box HX6.out hg9
      have hB6 : Blk V9 gB 72 X.cs := blk_gb hHeld hg9 (by rintro rfl; have e := Option.some.inj (HX6.out.symm.trans hHeld); injection e with _ e2; exact absurd e2 (by decide))
      replace HB2 := hid (HB2.out.box hg9 HX6.out HBD.out HR6.out.bs)
      have HS2 := hid (DkS.mk (dn := false) hB9 hr9 HBD.out)
      refine hK.out _ _ hB6 (fun hHeld => ?_)
      clear hK K hg9 hr9 hB6 hB9 HX6 HR6 HS
      try simp only [Act.put, List.getElem_toArray, List.getElem_cons_succ, List.getElem_cons_zero, List.setIfInBounds_toArray, List.set_cons_zero, List.set_cons_succ]
      refine wpAnyH_done (by kernel_rfl) ?_ _
      clear hHeld
      go_wp2_with (fail)
      go_roundw
      case rel => exact ⟨i + 1, _, HLT.out, by go_num, HS2, HB2⟩
      case measure => first | exact pvd_meas2 HLT.out | (rw [q9]; exact pvd_meas2 HLT.out)
    · obtain rfl : n = i := by omega
      have z3 : ¬ (n : Int) < (n : Int) := by omega
      have hall : applyW k (ws.take n) = s := by rw [← HNN.out, applyW_all]; exact HINV.out
      rw [hall] at HS
      clear hlt hi hall
      obtain ⟨Ak, ck, hkk, hks⟩ := HS.out.r.k.sl3 m HM.out
      rw [HPP.out] at hks hkk
      subst hkk
      have HKS := hid hks
      clear hks
      go_upto_region 11 with (fail)
      replace HB2 := hid (HB2.out.bel (below_drew1 wo) HS.out.r.bs)
      replace HS := hid (HS.out.below (below_drew1 wo))
      refine wp_region_held_drew (S := fun V => True) (by kernel_rfl) trivial (fun hHeld => ?_)
      generalize wo.drew = w6 at *
      refine' wpAnyH_take (i := 0) (v := .pointer (some ⟨D, 0, none⟩)) rfl (by kernel_rfl) (by kernel_rfl) (by kernel_rfl) (fun _ _ _ h => h) (Or.inl ⟨by rfl, fun w' hw' => by go_simp⟩) hHeld ?_
      try simp only [Act.put, List.getElem_toArray, List.getElem_cons_succ, List.getElem_cons_zero, List.setIfInBounds_toArray, List.set_cons_zero, List.set_cons_succ]
      refine' wpAnyH_take (i := 1) (v := .pointer (some ⟨D, 0, none⟩)) rfl (by kernel_rfl) (by kernel_rfl) (by kernel_rfl) (fun _ _ _ h => h) (Or.inl ⟨by rfl, fun w' hw' => by go_simp⟩) hHeld ?_
      try simp only [Act.put, List.getElem_toArray, List.getElem_cons_succ, List.getElem_cons_zero, List.setIfInBounds_toArray, List.set_cons_zero, List.set_cons_succ]
      refine' wpAnyH_take (i := 2) (v := .pointer (some ⟨D, 0, none⟩)) rfl (by kernel_rfl) (by kernel_rfl) (by kernel_rfl) (fun _ _ _ h => h) (Or.inl ⟨by rfl, fun w' hw' => by go_simp⟩) hHeld ?_
      try simp only [Act.put, List.getElem_toArray, List.getElem_cons_succ, List.getElem_cons_zero, List.setIfInBounds_toArray, List.set_cons_zero, List.set_cons_succ]
      refine' wpAnyH_take (i := 3) (v := .pointer (some ⟨D, 0, none⟩)) rfl (by kernel_rfl) (by kernel_rfl) (by kernel_rfl) (fun _ _ _ h => h) (Or.inl ⟨by rfl, fun w' hw' => by go_simp⟩) hHeld ?_
      try simp only [Act.put, List.getElem_toArray, List.getElem_cons_succ, List.getElem_cons_zero, List.setIfInBounds_toArray, List.set_cons_zero, List.set_cons_succ]
      refine' wpAnyH_take (i := 4) (v := .pointer (some ⟨D, 0, none⟩)) rfl (by kernel_rfl) (by kernel_rfl) (by kernel_rfl) (fun _ _ _ h => h) (Or.inl ⟨by rfl, fun w' hw' => by go_simp⟩) hHeld ?_
      try simp only [Act.put, List.getElem_toArray, List.getElem_cons_succ, List.getElem_cons_zero, List.setIfInBounds_toArray, List.set_cons_zero, List.set_cons_succ]
      refine' wpAnyH_take (i := 5) (v := .pointer (some ⟨D, 0, none⟩)) rfl (by kernel_rfl) (by kernel_rfl) (by kernel_rfl) (fun _ _ _ h => h) (Or.inl ⟨by rfl, fun w' hw' => by go_simp⟩) hHeld ?_
      try simp only [Act.put, List.getElem_toArray, List.getElem_cons_succ, List.getElem_cons_zero, List.setIfInBounds_toArray, List.set_cons_zero, List.set_cons_succ]
      refine' wpAnyH_take (i := 7) (v := .int .i64 (m : Int)) rfl (by kernel_rfl) (by kernel_rfl) (by kernel_rfl) (fun _ _ _ h => h) (Or.inl ⟨by rfl, fun w' hw' => by go_simp⟩) hHeld ?_
      try simp only [Act.put, List.getElem_toArray, List.getElem_cons_succ, List.getElem_cons_zero, List.setIfInBounds_toArray, List.set_cons_zero, List.set_cons_succ]
      refine' wpAnyH_take (i := 9) (v := .pointer (some ⟨D, 0, none⟩)) rfl (by kernel_rfl) (by kernel_rfl) (by kernel_rfl) (fun _ _ _ h => h) (Or.inl ⟨by rfl, fun w' hw' => by go_simp⟩) hHeld ?_
      try simp only [Act.put, List.getElem_toArray, List.getElem_cons_succ, List.getElem_cons_zero, List.setIfInBounds_toArray, List.set_cons_zero, List.set_cons_succ]
      refine' wpAnyH_take (i := 10) (v := .pointer (some ⟨D, 0, none⟩)) rfl (by kernel_rfl) (by kernel_rfl) (by kernel_rfl) (fun _ _ _ h => h) (Or.inl ⟨by rfl, fun w' hw' => by go_simp⟩) hHeld ?_
      try simp only [Act.put, List.getElem_toArray, List.getElem_cons_succ, List.getElem_cons_zero, List.setIfInBounds_toArray, List.set_cons_zero, List.set_cons_succ]
      refine' wpAnyH_take (i := 11) (v := .pointer (some ⟨D, 1, none⟩)) rfl (by kernel_rfl) (by kernel_rfl) (by kernel_rfl) (fun _ _ _ h => h) (Or.inl ⟨by rfl, fun w' hw' => by go_simp⟩) hHeld ?_
      try simp only [Act.put, List.getElem_toArray, List.getElem_cons_succ, List.getElem_cons_zero, List.setIfInBounds_toArray, List.set_cons_zero, List.set_cons_succ]
      refine' wpAnyH_take (i := 13) (v := .int .i64 (m : Int)) rfl (by kernel_rfl) (by kernel_rfl) (by kernel_rfl) (fun _ _ _ h => h) (Or.inl ⟨by rfl, fun w' hw' => by go_simp⟩) hHeld ?_
      try simp only [Act.put, List.getElem_toArray, List.getElem_cons_succ, List.getElem_cons_zero, List.setIfInBounds_toArray, List.set_cons_zero, List.set_cons_succ]
      refine wpAnyH_ready (rs := [6, 12]) (by kernel_rfl) (by simp) ?_
      refine AllReadyH.cons rfl (fun K hK => ?_) (AllReadyH.cons rfl (fun K hK => ?_) AllReadyH.nil)
      · as_aux_lemma =>
          have fA := HS.out.x.cell_ (i := 0) rfl
          go_simp
          refine hK.out _ _ hHeld (fun hHeld => ?_)
          clear hK K fA
          try simp only [Act.put, List.getElem_toArray, List.getElem_cons_succ, List.getElem_cons_zero, List.setIfInBounds_toArray, List.set_cons_zero, List.set_cons_succ]
          refine' wpAnyH_take (i := 8) (v := .slice Ak m ck) rfl (by kernel_rfl) (by kernel_rfl) (by kernel_rfl) (fun _ _ _ h => h) (Or.inl ⟨by rfl, fun w' hw' => by have hv := HKS.out w'; go_simp⟩) hHeld ?_
          try simp only [Act.put, List.getElem_toArray, List.getElem_cons_succ, List.getElem_cons_zero, List.setIfInBounds_toArray, List.set_cons_zero, List.set_cons_succ]
          refine wpAnyH_ready (rs := [12]) (by kernel_rfl) (by simp) ?_
          refine AllReadyH.cons rfl (fun K hK => ?_) AllReadyH.nil
          have fA := HS.out.x.cell_ (i := 1) rfl
          go_simp
          refine hK.out _ _ hHeld (fun hHeld => ?_)
          clear hK K fA
          try simp only [Act.put, List.getElem_toArray, List.getElem_cons_succ, List.getElem_cons_zero, List.setIfInBounds_toArray, List.set_cons_zero, List.set_cons_succ]
          refine' wpAnyH_take (i := 14) (v := .slice As m cs) rfl (by kernel_rfl) (by kernel_rfl) (by kernel_rfl) (fun _ _ _ h => h) (Or.inl ⟨by rfl, fun w' hw' => by have hv := HSLC.out w'; go_simp⟩) hHeld ?_
          try simp only [Act.put, List.getElem_toArray, List.getElem_cons_succ, List.getElem_cons_zero, List.setIfInBounds_toArray, List.set_cons_zero, List.set_cons_succ]
          refine' wpAnyH_take (i := 15) (v := .pointer (some ⟨D, 0, none⟩)) rfl (by kernel_rfl) (by kernel_rfl) (by kernel_rfl) (fun _ _ _ h => h) (Or.inl ⟨by rfl, fun w' hw' => by go_simp⟩) hHeld ?_
          try simp only [Act.put, List.getElem_toArray, List.getElem_cons_succ, List.getElem_cons_zero, List.setIfInBounds_toArray, List.set_cons_zero, List.set_cons_succ]
          refine' wpAnyH_take (i := 16) (v := .pointer (some ⟨D, 0, none⟩)) rfl (by kernel_rfl) (by kernel_rfl) (by kernel_rfl) (fun _ _ _ h => h) (Or.inl ⟨by rfl, fun w' hw' => by go_simp⟩) hHeld ?_
          try simp only [Act.put, List.getElem_toArray, List.getElem_cons_succ, List.getElem_cons_zero, List.setIfInBounds_toArray, List.set_cons_zero, List.set_cons_succ]
          refine wpAnyH_ready (rs := [17]) (by kernel_rfl) (by simp) ?_
          refine AllReadyH.cons rfl (fun K hK => ?_) AllReadyH.nil
          refine wp_store_d0 _ _ rfl D _ _ _ _ HS.out.x Ak m ck rfl rfl ?_
          intro V9 hB9 hg9
          have hr9 := HS.out.r.box HS.out.x hg9
          replace HB2 := hid (HB2.out.box hg9 HS.out.x HBD.out HS.out.r.bs)
          replace HS := hid (DkS.mk (dn := false) hB9 (hr9.cutK HM.out) HBD.out)
          refine hK.out _ _ trivial (fun hHeld => ?_)
          clear hK K hg9 hr9 hB9
          try simp only [Act.put, List.getElem_toArray, List.getElem_cons_succ, List.getElem_cons_zero, List.setIfInBounds_toArray, List.set_cons_zero, List.set_cons_succ]
          refine' wpAnyH_take (i := 18) (v := .pointer (some ⟨D, 0, none⟩)) rfl (by kernel_rfl) (by kernel_rfl) (by kernel_rfl) (fun _ _ _ h => h) (Or.inl ⟨by rfl, fun w' hw' => by go_simp⟩) hHeld ?_
          try simp only [Act.put, List.getElem_toArray, List.getElem_cons_succ, List.getElem_cons_zero, List.setIfInBounds_toArray, List.set_cons_zero, List.set_cons_succ]
          refine' wpAnyH_take (i := 19) (v := .pointer (some ⟨D, 1, none⟩)) rfl (by kernel_rfl) (by kernel_rfl) (by kernel_rfl) (fun _ _ _ h => h) (Or.inl ⟨by rfl, fun w' hw' => by go_simp⟩) hHeld ?_
          try simp only [Act.put, List.getElem_toArray, List.getElem_cons_succ, List.getElem_cons_zero, List.setIfInBounds_toArray, List.set_cons_zero, List.set_cons_succ]
          refine wpAnyH_ready (rs := [20]) (by kernel_rfl) (by simp) ?_
          refine AllReadyH.cons rfl (fun K hK => ?_) AllReadyH.nil
          refine wp_store_d1 _ _ rfl D _ _ _ _ HS.out.x As m cs rfl rfl ?_
          intro V9 hB9 hg9
          have hr9 := HS.out.r.box HS.out.x hg9
          replace HB2 := hid (HB2.out.box hg9 HS.out.x HBD.out HS.out.r.bs)
          replace HS := hid (DkS.mk (dn := false) hB9 (hr9.cutS HM.out) HBD.out)
          refine hK.out _ _ trivial (fun hHeld => ?_)
          clear hK K hg9 hr9 hB9
          try simp only [Act.put, List.getElem_toArray, List.getElem_cons_succ, List.getElem_cons_zero, List.setIfInBounds_toArray, List.set_cons_zero, List.set_cons_succ]
          refine' wpAnyH_take (i := 21) (v := .pointer (some ⟨D, 0, none⟩)) rfl (by kernel_rfl) (by kernel_rfl) (by kernel_rfl) (fun _ _ _ h => h) (Or.inl ⟨by rfl, fun w' hw' => by go_simp⟩) hHeld ?_
          try simp only [Act.put, List.getElem_toArray, List.getElem_cons_succ, List.getElem_cons_zero, List.setIfInBounds_toArray, List.set_cons_zero, List.set_cons_succ]
          refine' wpAnyH_take (i := 22) (v := .pointer (some ⟨D, 2, none⟩)) rfl (by kernel_rfl) (by kernel_rfl) (by kernel_rfl) (fun _ _ _ h => h) (Or.inl ⟨by rfl, fun w' hw' => by go_simp⟩) hHeld ?_
          try simp only [Act.put, List.getElem_toArray, List.getElem_cons_succ, List.getElem_cons_zero, List.setIfInBounds_toArray, List.set_cons_zero, List.set_cons_succ]
          refine wpAnyH_ready (rs := [23]) (by kernel_rfl) (by simp) ?_
          refine AllReadyH.cons rfl (fun K hK => ?_) AllReadyH.nil
          refine wp_store_d2 _ _ rfl D _ _ _ _ HS.out.x none 0 0 rfl rfl ?_
          intro V9 hB9 hg9
          have hr9 := HS.out.r.box HS.out.x hg9
          replace HB2 := hid (HB2.out.box hg9 HS.out.x HBD.out HS.out.r.bs)
          have HS3 := hid (DkS.mk (dn := false) hB9 (hr9.waits (ws' := []) (gb_of_below (Below.refl _ _) _) (WrOw.nil _ _)) HBD.out)
          refine hK.out _ _ trivial (fun hHeld => ?_)
          clear hK K hg9 hr9 hB9
          try simp only [Act.put, List.getElem_toArray, List.getElem_cons_succ, List.getElem_cons_zero, List.setIfInBounds_toArray, List.set_cons_zero, List.set_cons_succ]
          refine wpAnyH_done (by kernel_rfl) ?_ _
          clear hHeld HS
          go_wp2_with (fail)
          go_ret
          exact ⟨rfl, _, _, HS3.out, HB2.out⟩
      · as_aux_lemma =>
          have fA := HS.out.x.cell_ (i := 1) rfl
          go_simp
          refine hK.out _ _ hHeld (fun hHeld => ?_)
          clear hK K fA
          try simp only [Act.put, List.getElem_toArray, List.getElem_cons_succ, List.getElem_cons_zero, List.setIfInBounds_toArray, List.set_cons_zero, List.set_cons_succ]
          refine' wpAnyH_take (i := 14) (v := .slice As m cs) rfl (by kernel_rfl) (by kernel_rfl) (by kernel_rfl) (fun _ _ _ h => h) (Or.inl ⟨by rfl, fun w' hw' => by have hv := HSLC.out w'; go_simp⟩) hHeld ?_
          try simp only [Act.put, List.getElem_toArray, List.getElem_cons_succ, List.getElem_cons_zero, List.setIfInBounds_toArray, List.set_cons_zero, List.set_cons_succ]
          refine wpAnyH_ready (rs := [6]) (by kernel_rfl) (by simp) ?_
          refine AllReadyH.cons rfl (fun K hK => ?_) AllReadyH.nil
          have fA := HS.out.x.cell_ (i := 0) rfl
          go_simp
          refine hK.out _ _ hHeld (fun hHeld => ?_)
          clear hK K fA
          try simp only [Act.put, List.getElem_toArray, List.getElem_cons_succ, List.getElem_cons_zero, List.setIfInBounds_toArray, List.set_cons_zero, List.set_cons_succ]
          refine' wpAnyH_take (i := 8) (v := .slice Ak m ck) rfl (by kernel_rfl) (by kernel_rfl) (by kernel_rfl) (fun _ _ _ h => h) (Or.inl ⟨by rfl, fun w' hw' => by have hv := HKS.out w'; go_simp⟩) hHeld ?_
          try simp only [Act.put, List.getElem_toArray, List.getElem_cons_succ, List.getElem_cons_zero, List.setIfInBounds_toArray, List.set_cons_zero, List.set_cons_succ]
          refine' wpAnyH_take (i := 15) (v := .pointer (some ⟨D, 0, none⟩)) rfl (by kernel_rfl) (by kernel_rfl) (by kernel_rfl) (fun _ _ _ h => h) (Or.inl ⟨by rfl, fun w' hw' => by go_simp⟩) hHeld ?_
          try simp only [Act.put, List.getElem_toArray, List.getElem_cons_succ, List.getElem_cons_zero, List.setIfInBounds_toArray, List.set_cons_zero, List.set_cons_succ]
          refine' wpAnyH_take (i := 16) (v := .pointer (some ⟨D, 0, none⟩)) rfl (by kernel_rfl) (by kernel_rfl) (by kernel_rfl) (fun _ _ _ h => h) (Or.inl ⟨by rfl, fun w' hw' => by go_simp⟩) hHeld ?_
          try simp only [Act.put, List.getElem_toArray, List.getElem_cons_succ, List.getElem_cons_zero, List.setIfInBounds_toArray, List.set_cons_zero, List.set_cons_succ]
          refine wpAnyH_ready (rs := [17]) (by kernel_rfl) (by simp) ?_
          refine AllReadyH.cons rfl (fun K hK => ?_) AllReadyH.nil
          refine wp_store_d0 _ _ rfl D _ _ _ _ HS.out.x Ak m ck rfl rfl ?_
          intro V9 hB9 hg9
          have hr9 := HS.out.r.box HS.out.x hg9
          replace HB2 := hid (HB2.out.box hg9 HS.out.x HBD.out HS.out.r.bs)
          replace HS := hid (DkS.mk (dn := false) hB9 (hr9.cutK HM.out) HBD.out)
          refine hK.out _ _ trivial (fun hHeld => ?_)
          clear hK K hg9 hr9 hB9
          try simp only [Act.put, List.getElem_toArray, List.getElem_cons_succ, List.getElem_cons_zero, List.setIfInBounds_toArray, List.set_cons_zero, List.set_cons_succ]
          refine' wpAnyH_take (i := 18) (v := .pointer (some ⟨D, 0, none⟩)) rfl (by kernel_rfl) (by kernel_rfl) (by kernel_rfl) (fun _ _ _ h => h) (Or.inl ⟨by rfl, fun w' hw' => by go_simp⟩) hHeld ?_
          try simp only [Act.put, List.getElem_toArray, List.getElem_cons_succ, List.getElem_cons_zero, List.setIfInBounds_toArray, List.set_cons_zero, List.set_cons_succ]
          refine' wpAnyH_take (i := 19) (v := .pointer (some ⟨D, 1, none⟩)) rfl (by kernel_rfl) (by kernel_rfl) (by kernel_rfl) (fun _ _ _ h => h) (Or.inl ⟨by rfl, fun w' hw' => by go_simp⟩) hHeld ?_
          try simp only [Act.put, List.getElem_toArray, List.getElem_cons_succ, List.getElem_cons_zero, List.setIfInBounds_toArray, List.set_cons_zero, List.set_cons_succ]
          refine wpAnyH_ready (rs := [20]) (by kernel_rfl) (by simp) ?_
          refine AllReadyH.cons rfl (fun K hK => ?_) AllReadyH.nil
          refine wp_store_d1 _ _ rfl D _ _ _ _ HS.out.x As m cs rfl rfl ?_
          intro V9 hB9 hg9
          have hr9 := HS.out.r.box HS.out.x hg9
          replace HB2 := hid (HB2.out.box hg9 HS.out.x HBD.out HS.out.r.bs)
          replace HS := hid (DkS.mk (dn := false) hB9 (hr9.cutS HM.out) HBD.out)
          refine hK.out _ _ trivial (fun hHeld => ?_)
          clear hK K hg9 hr9 hB9
          try simp only [Act.put, List.getElem_toArray, List.getElem_cons_succ, List.getElem_cons_zero, List.setIfInBounds_toArray, List.set_cons_zero, List.set_cons_succ]
          refine' wpAnyH_take (i := 21) (v := .pointer (some ⟨D, 0, none⟩)) rfl (by kernel_rfl) (by kernel_rfl) (by kernel_rfl) (fun _ _ _ h => h) (Or.inl ⟨by rfl, fun w' hw' => by go_simp⟩) hHeld ?_
          try simp only [Act.put, List.getElem_toArray, List.getElem_cons_succ, List.getElem_cons_zero, List.setIfInBounds_toArray, List.set_cons_zero, List.set_cons_succ]
          refine' wpAnyH_take (i := 22) (v := .pointer (some ⟨D, 2, none⟩)) rfl (by kernel_rfl) (by kernel_rfl) (by kernel_rfl) (fun _ _ _ h => h) (Or.inl ⟨by rfl, fun w' hw' => by go_simp⟩) hHeld ?_
          try simp only [Act.put, List.getElem_toArray, List.getElem_cons_succ, List.getElem_cons_zero, List.setIfInBounds_toArray, List.set_cons_zero, List.set_cons_succ]
          refine wpAnyH_ready (rs := [23]) (by kernel_rfl) (by simp) ?_
          refine AllReadyH.cons rfl (fun K hK => ?_) AllReadyH.nil
          refine wp_store_d2 _ _ rfl D _ _ _ _ HS.out.x none 0 0 rfl rfl ?_
          intro V9 hB9 hg9
          have hr9 := HS.out.r.box HS.out.x hg9
          replace HB2 := hid (HB2.out.box hg9 HS.out.x HBD.out HS.out.r.bs)
          have HS3 := hid (DkS.mk (dn := false) hB9 (hr9.waits (ws' := []) (gb_of_below (Below.refl _ _) _) (WrOw.nil _ _)) HBD.out)
          refine hK.out _ _ trivial (fun hHeld => ?_)
          clear hK K hg9 hr9 hB9
          try simp only [Act.put, List.getElem_toArray, List.getElem_cons_succ, List.getElem_cons_zero, List.setIfInBounds_toArray, List.set_cons_zero, List.set_cons_succ]
          refine wpAnyH_done (by kernel_rfl) ?_ _
          clear hHeld HS
          go_wp2_with (fail)
          go_ret
          exact ⟨rfl, _, _, HS3.out, HB2.out⟩
set_option maxRecDepth 100000 in
set_option maxHeartbeats 8000000 in
theorem epowI_any (m : Nat) (base D : Nat) (kv sv wv : Value) (k s : List UInt8) (ws : List WrD) (hs : s.length ≤ 10000000) (hk : k.length ≤ 10000000) (hw : ∀ x ∈ ws, x.p + x.t.length ≤ 10000000) (hn : ws.length ≤ 1000) (hinv : applyW k ws = s) (hm : m ≤ s.length) (W : World) (h : DkS base D kv sv wv k s ws false W) :
    Calls Tryz.prog 41 #[.pointer (some ⟨D, 0, none⟩), .func (.func 42) #[.pointer (some ⟨D, 0, none⟩)] #[], .int .i64 (m : Int)] W (ECutQ base D s m W) := by
  have cW := ecutn_any m base D kv sv wv k s ws hs hk hw hn hinv hm W h
  have f4 := h.x.cell_ (i := 4) rfl
  clear h hs hk hw hn hinv hm
  go_enter Tryz.func41, Tryz.ntmps41
  go_wp2_with (go_at_call 42; (with_reducible refine cW.mono ?_); rintro e3 w3 ⟨rfl, kv', sv', hs3, hb3⟩)
  go_ret
  exact ⟨rfl, kv', sv', hs3, hb3⟩
set_option maxRecDepth 100000 in
set_option maxHeartbeats 8000000 in
theorem eCut_any (m : Nat) (base D : Nat) (kv sv wv : Value) (k s : List UInt8) (ws : List WrD) (hs : s.length ≤ 10000000) (hk : k.length ≤ 10000000) (hw : ∀ x ∈ ws, x.p + x.t.length ≤ 10000000) (hn : ws.length ≤ 1000) (hinv : applyW k ws = s) (hm : m ≤ s.length) (W : World) (h : DkS base D kv sv wv k s ws false W) :
    Calls Tryz.prog 26 #[.pointer (some ⟨D, 0, none⟩), .int .i64 (m : Int)] W (ECutQ base D s m W) := by
  have cW := epowI_any m base D kv sv wv k s ws hs hk hw hn hinv hm W h
  clear h hs hk hw hn hinv hm
  go_enter Tryz.func26, Tryz.ntmps26
  go_wp2_with (go_at_call 41; (with_reducible refine cW.mono ?_); rintro e3 w3 ⟨rfl, kv', sv', hs3, hb3⟩)
  go_ret
  exact ⟨rfl, kv', sv', hs3, hb3⟩
set_option maxRecDepth 100000 in
set_option maxHeartbeats 8000000 in
theorem eSync_any (base D : Nat) (kv sv wv : Value) (k s : List UInt8) (ws : List WrD) (hs : s.length ≤ 10000000) (hk : k.length ≤ 10000000) (hw : ∀ x ∈ ws, x.p + x.t.length ≤ 10000000) (hn : ws.length ≤ 1000) (hinv : applyW k ws = s) (W : World) (h : DkS base D kv sv wv k s ws false W) :
    Calls Tryz.prog 33 #[.pointer (some ⟨D, 0, none⟩)] W (ECutQ base D s s.length W) := by
  have cW := epowI_any s.length base D kv sv wv k s ws hs hk hw hn hinv (Nat.le_refl _) W h
  have f1 := h.x.cell_ (i := 1) rfl
  obtain ⟨As, cs, rfl⟩ := h.r.s.sl
  clear h hs hk hw hn hinv
  go_enter Tryz.func33, Tryz.ntmps33
  go_wp2_with (go_at_call 41; (with_reducible refine cW.mono ?_); rintro e3 w3 ⟨rfl, kv', sv', hs3, hb3⟩)
  go_ret
  exact ⟨rfl, kv', sv', hs3, hb3⟩
/-- A crash by nothing: what was kept is left. -/
theorem eCrash_any (base D : Nat) (kv sv wv : Value) (k s : List UInt8) (ws : List WrD) (hk : k.length ≤ 10000000) (hw : ∀ x ∈ ws, x.p + x.t.length ≤ 10000000) (hn : ws.length ≤ 1000) (W : World) (h : DkS base D kv sv wv k s ws false W) :
    Calls Tryz.prog 20 #[.pointer (some ⟨D, 0, none⟩), .int .u64 0, .int .i64 0] W fun e w' => e = .returned (.tuple #[]) ∧ ∃ kv' sv', DkS base D kv' sv' (.slice none 0 0) k k [] true w' ∧ BlD base W w' := by
  refine (dCrash_any base D kv sv wv k s ws hk hw hn 0 0 W h).mono ?_
  rintro e w' ⟨h1, kv', sv', h2, h3⟩
  rw [crS_none] at h2
  refine ⟨h1, kv', sv', h2, fr_below h3 h.bd (fun g hg => (World.ownsRow.lt h.r.k g hg).1) h.r.bs, fun g cs T fz h0 t1 => ?_⟩
  rw [h3.block g (Array.getElem?_eq_some_iff.1 h0).1 (fun e => ?_) (fun e => ?_)]
  · exact h0
  · subst e
    have e1 := Option.some.inj (h0.symm.trans h.x)
    injection e1 with _ e2 _
    exact t1 (by rw [e2]; simp [dts])
  · rcases h.r.k.2 with ⟨hv, _⟩ | ⟨g2, cap, cur, hv, _, h5, _⟩
    · rw [hv] at e; cases e
    · rw [hv] at e
      obtain rfl : g = g2 := Option.some.inj e
      have e1 := Option.some.inj (h0.symm.trans h5)
      injection e1 with _ e2 _
      exact t1 (by rw [e2]; simp [dts])
end Go.Proofs.YtemdmdgigmhlbaaGreat

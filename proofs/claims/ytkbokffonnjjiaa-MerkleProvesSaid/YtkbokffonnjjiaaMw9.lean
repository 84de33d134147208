
/- merkle: rows of numbers; an honest proof's places are climbed, and it is checked. -/
import Derived.Test.YtkbokffonnjjiaaMw8
set_option linter.unusedSimpArgs false
set_option linter.unusedVariables false
namespace Go.Proofs.Ytkbokffonnjjiaa
open Go.RowKit Go.Qc Go.Shelf
attribute [local go_sem] txt_size txt_append ib_fold
/-- A row of numbers of one's own. -/
def nmV (L : List Nat) : List Value := L.map fun (i : Nat) => Value.int .i64 (i : Int)
def NmOw (W : World) (base : Nat) (v : Value) (L : List Nat) : Prop := W.ownsRow base 3 1 v L.length (nmV L)
theorem NmOw.nil (W : World) (base : Nat) : NmOw W base (.slice none 0 0) [] := ⟨rfl, .inl ⟨rfl, rfl⟩⟩
theorem NmOw.first {W : World} {base : Nat} {v : Value} {i : Nat} (h : NmOw W base v [i]) : ∃ g c, v = .slice (some ⟨g, 0, none⟩) 1 c ∧ W.cell? ⟨g, 0, none⟩ = some (.int .i64 (i : Int)) := by
  rcases h.2 with ⟨rfl, h0⟩ | ⟨g, c, cur, rfl, _, hg, h3, _, _, ht⟩
  · cases h0
  · refine ⟨g, c, rfl, ?_⟩
    have h9 : (cur.toList.take 1)[0]? = some (.int .i64 (i : Int)) := by
      have : cur.toList.take (1 * 1) = nmV [i] := ht
      rw [show (1 * 1 : Nat) = 1 from rfl] at this
      rw [this]; rfl
    rw [List.getElem?_take, if_pos (by decide), Array.getElem?_toList] at h9
    rw [cell_of_row W g 0 cur _ _ hg]
    exact h9
theorem infoNm : (Try.prog.info? 3).map (fun i => (i.zero, i.size, i.bytes)) = some (some (.int .i64 0), 1, 8) := by kernel_rfl
theorem infoNm_parts : ∃ i, Try.prog.info? 3 = some i ∧ i.zero = some (.int .i64 0) ∧ i.size = 1 ∧ i.bytes = 8 := by
  have h := infoNm
  cases hq : Try.prog.info? 3 with
  | none => rw [hq] at h; cases h
  | some i =>
    rw [hq] at h
    simp only [Option.map_some, Option.some.injEq, Prod.mk.injEq] at h
    exact ⟨i, rfl, h.1, h.2.1, h.2.2⟩
theorem nm_index (g n c i : Nat) (hi : i < n) (W : World) : (Instr.indexAt 34 (.slice (some ⟨g, 0, none⟩) n c) (.int .i64 (i : Int))).run Try.prog W = .ok (.pointer (some ⟨g, i, none⟩)) W := by
  obtain ⟨i0, hi0, _, h1, _⟩ := infoNm_parts
  have h2 : (0 : Int) ≤ (i : Int) ∧ (i : Int) < (n : Int) := by omega
  simp [Instr.indexAt, run_underlying Try.underlying34, asIntOf, h2, sizeOf, typeInfo, hi0, h1, Addr.add_lit, Int.toNat_natCast]
  intro h; omega
theorem wpList_append_nm {w : World} {ops : Array Oper} {rest : List Oper} {o : Oper} {a : Act} {Q : Exit → Act → World → Prop} (hgd : o.guard = none) (s x : Operand)
    (ho : o.op = .call { callee := .builtin .append, args := #[s, x], argTypes := #[34, 34] })
    (base : Nat) (v : Value) (L : List Nat) (hs : a.eval s = v) (hown : NmOw w base v L) (g i : Nat) (hx : a.eval x = .slice (some ⟨g, 0, none⟩) 1 1) (hc : w.cell? ⟨g, 0, none⟩ = some (.int .i64 (i : Int)))
    (hn : L.length + 1 ≤ 1000000) (hbase : base ≤ w.heap.size)
    (h : ∀ v' w', NmOw w' base v' (L ++ [i]) → w.grownBy w' v.ownBlock → wpList Try.prog ops Q rest (a.put o.dst v') w') : wpList Try.prog ops Q (o :: rest) a w := by
  obtain ⟨j0, hj, hjz, hjs, hjb⟩ := infoNm_parts
  refine wpList_append_own _ hgd s x 34 ho base 3 j0 (.int .i64 0) 1 8 Try.underlying34 hj hjz hjs hjb rfl (by decide) v L.length (nmV L) hs hown ⟨g, 0, none⟩ 1 1 [.int .i64 (i : Int)] hx rfl ?_ (by intro u hu; rw [List.mem_singleton.1 hu]; rfl) (by unfold maxLen; omega) (by omega) hbase (fun v' w' h1 h2 _ => h v' w' ?_ h2)
  · intro j u hj'
    have : j = 0 := by have := (List.getElem?_eq_some_iff.1 hj').1; simp at this; omega
    subst this
    rw [Addr.add_lit]
    rw [← hj']
    exact hc
  · unfold NmOw nmV
    rw [List.length_append, List.map_append]
    exact h1
theorem NmOw.grown {W W' : World} {base B : Nat} {v : Value} {L : List Nat} (h : NmOw W base v L) (hg : W.grownBy W' v.ownBlock) (hB : B ≤ base) {w : World} (hb : Below B w W) (hs : B ≤ W.heap.size) : Below B w W' :=
  hb.grown hg hs (by intro k hk; have := (World.ownsRow.lt h k hk).1; omega)
theorem NmOw.at_ {W : World} {base : Nat} {v : Value} {L : List Nat} (h : NmOw W base v L) : ∃ A c, v = .slice A L.length c ∧ ∀ (j i : Nat), L[j]? = some i → ∃ g, A = some ⟨g, 0, none⟩ ∧ W.cell? ⟨g, j, none⟩ = some (.int .i64 (i : Int)) := by
  rcases h.2 with ⟨rfl, h0⟩ | ⟨g, c, cur, rfl, _, hg, h3, _, _, ht⟩
  · exact ⟨none, 0, by rw [h0], fun j i hj => by
      have := (List.getElem?_eq_some_iff.1 hj).1
      omega⟩
  · refine ⟨_, c, rfl, fun j i hj => ⟨g, rfl, ?_⟩⟩
    have hlt := (List.getElem?_eq_some_iff.1 hj).1
    have h9 : (cur.toList.take (L.length * 1))[j]? = some (.int .i64 (i : Int)) := by
      rw [ht]
      unfold nmV
      rw [List.getElem?_map, hj]
      rfl
    rw [List.getElem?_take, if_pos (by omega), Array.getElem?_toList] at h9
    rw [cell_of_row W g j cur _ _ hg]
    exact h9
/-- A place of an honest proof leads to the row's root. -/
theorem climb_ok {W : World} {b : Nat} {l : List (List UInt8)} {n k : Nat} {X : PlD} (h : PlOk W b l n k X) (hl : l.length = n) (hn : n ≤ 1000000) :
    Calls Try.prog 14 #[.int .i64 (n : Int), .agg X.cs] W fun e w' => e = .returned (.tuple #[.agg (idVals (rootM l)), .bool true]) ∧ Below W.heap.size W w' := by
  have hk : k < n := by rw [← hl]; exact (List.getElem?_eq_some_iff.1 h.fi).1
  have hlen := partsL_len 0 n k
  obtain ⟨A, c, e, hr⟩ := own_rowW h.fw (wayL_32 l n k) (by rw [h.fn]; omega)
  injection e with e1 e2 e3
  subst e1 e3
  have hX : X = ⟨X.a, (k : Int), X.A, X.n, X.c⟩ := by rw [← h.ft]
  rw [hX]
  have := climb_yes n k hk (by omega) X.a h.fo X.A X.n X.c (wayL l n k) h.fn.symm W hr
  rw [h.fn] at this
  have hu := up_root h.fi
  rw [hl] at hu
  rw [hu] at this
  rw [h.fn]
  exact this
/-- All places of an honest proof: lead tells true. -/
theorem lead_ok {W : World} {b : Nat} {l : List (List UInt8)} {n f m d : Nat} {B : Option Addr} {Xs : List PlD} (hl : l.length = n) (hn : n ≤ 1000000) (hm : Xs.length = m) (h0 : 0 < m) (h1 : m ≤ 1000) (hP : PlRd W B Xs) (ho : ∀ (j : Nat) (X : PlD), Xs[j]? = some X → PlOk W b l n (f + j) X) :
    ∀ V, Below W.heap.size W V → Calls Try.prog 59 #[.agg (idVals (wholeM (n : Int) (rootM l))), .agg #[.int .i64 (n : Int), .slice B m d]] V fun e w' => e = .returned (.bool true) ∧ Below V.heap.size V w' := fun V hb =>
  lead_any n m d B Xs (rootM l) _ (rootM_length l) rfl (by omega) hm h0 h1 V (hP.below hb) fun k X hX U hU => climb_ok ((ho k X hX).below (hb.trans (hU.mono hb.size))) hl hn
theorem ltB_of {a b : List UInt8} (h : Lt a b) : ltB a b = true := by unfold ltB; exact decide_eq_true h
theorem ltB_not {a b : List UInt8} (h : ¬ Lt a b) : ltB a b = false := by unfold ltB; exact decide_eq_false h
theorem cuts_here {l : List (List UInt8)} {a x : List UInt8} {f : Nat} (hri : Rising l) (hm : a ∈ l) (hc : Cuts l a f) (hx : l[f]? = some x) : x = a := by
  obtain ⟨q, hq⟩ := List.getElem?_of_mem hm
  rcases Nat.lt_trichotomy q f with e | e | e
  · exact absurd (hc.2.1 q a e hq) (fun h => Lt.irr h)
  · subst e; rw [hx] at hq; exact Option.some.inj hq
  · exact absurd (rising_get hri e hx hq) (hc.2.2 f x (Nat.le_refl _) hx)
theorem check_ok_in {W : World} {b : Nat} {l : List (List UInt8)} {n f d : Nat} {B : Option Addr} {Xs : List PlD} {a : List UInt8} (ha : a.length = 32) (hl : l.length = n) (hn : n ≤ 1000000) (hri : Rising l) (hm : Xs.length = 1) (hin : a ∈ l) (hc : Cuts l a f) (hP : PlRd W B Xs) (ho : ∀ (j : Nat) (X : PlD), Xs[j]? = some X → PlOk W b l n (f + j) X) :
    Calls Try.prog 18 #[.agg (idVals (wholeM (n : Int) (rootM l))), .agg (idVals a), .agg #[.int .i64 (n : Int), .slice B 1 d]] W fun e w' => e = .returned (.tuple #[.bool true, .bool true]) ∧ Below W.heap.size W w' := by
  have hL := lead_ok (d := d) hl hn hm (by decide) (by decide) hP ho
  match Xs, hm with
  | [X], _ =>
    have hX := ho 0 X rfl
    have hfn := (List.getElem?_eq_some_iff.1 hX.fi).1
    exact check_in n d B X _ a (tagB_length _ _) ha (by omega) (by omega) W hP (cuts_here hri hin hc hX.fi) hL
theorem check_ok_out {W : World} {b : Nat} {l : List (List UInt8)} {n p f t m d : Nat} {B : Option Addr} {Xs : List PlD} {a : List UInt8} (ha : a.length = 32) (hl : l.length = n) (hn : n ≤ 1000000) (hri : Rising l) (hm : Xs.length = m) (hin : a ∉ l) (hc : Cuts l a p) (hf : f = p - 1) (ht : t = min (p + 1) n) (hfm : f + m = t) (hP : PlRd W B Xs) (ho : ∀ (j : Nat) (X : PlD), Xs[j]? = some X → PlOk W b l n (f + j) X) :
    Calls Try.prog 18 #[.agg (idVals (wholeM (n : Int) (rootM l))), .agg (idVals a), .agg #[.int .i64 (n : Int), .slice B m d]] W fun e w' => e = .returned (.tuple #[.bool false, .bool true]) ∧ Below W.heap.size W w' := by
  have hpn : p ≤ n := by rw [← hl]; exact hc.1
  by_cases h0 : n = 0
  · subst h0
    have hl0 : l = [] := List.eq_nil_of_length_eq_zero hl
    subst hl0
    obtain rfl : m = 0 := by omega
    exact check_zero d B _ a rfl ha W
  · have hL := lead_ok (d := d) hl hn hm (by omega) (by omega) hP ho
    by_cases hp0 : p = 0
    · obtain rfl : m = 1 := by omega
      match Xs, hm with
      | [X], _ =>
        have hX := ho 0 X rfl
        have e0 : f + 0 = 0 := by omega
        rw [e0] at hX
        have h1 := hc.2.2 0 X.a (by omega) hX.fi
        have hne : X.a ≠ a := fun e => hin (by rw [← e]; exact List.mem_of_getElem? hX.fi)
        exact check_first n d B X _ a (tagB_length _ _) ha (by omega) (by omega) W hP hne (by rw [hX.ft]; rfl) (ltB_of (lt_of_not h1 hne)) hL
    · by_cases hpe : p = n
      · obtain rfl : m = 1 := by omega
        match Xs, hm with
        | [X], _ =>
          have hX := ho 0 X rfl
          have e0 : f + 0 = n - 1 := by omega
          rw [e0] at hX
          have h1 := hc.2.1 (n - 1) X.a (by omega) hX.fi
          have hne : X.a ≠ a := h1.ne
          exact check_last n d B X _ a (tagB_length _ _) ha (by omega) (by omega) W hP hne (by rw [hX.ft]; omega) (ltB_of h1) (ltB_not (fun h => Lt.irr (h.tr h1))) hL
      · obtain rfl : m = 2 := by omega
        match Xs, hm with
        | [X, Y], _ =>
          have hX := ho 0 X rfl
          have hY := ho 1 Y rfl
          have h1 := hc.2.1 (f + 0) X.a (by omega) hX.fi
          have h2 := hc.2.2 (f + 1) Y.a (by omega) hY.fi
          have hne : Y.a ≠ a := fun e => hin (by rw [← e]; exact List.mem_of_getElem? hY.fi)
          exact check_two n d B X Y _ a (tagB_length _ _) ha (by omega) (by omega) W hP f (by omega) (by rw [hX.ft]; rfl) (by rw [hY.ft]; omega) (ltB_of h1) (ltB_of (lt_of_not h2 hne)) hL
end Go.Proofs.Ytkbokffonnjjiaa


/- keytree: Fold, of the program. -/
import Derived.Test.YtfdbgmnnahcejaaKt3
namespace Go.Proofs.Ytfdbgmnnahcejaa
open Go.RowKit Go.Qc
attribute [local go_sem] txt_size txt_append ib_fold

/-! ### slices.Clone at ids -/
set_option maxRecDepth 100000 in
set_option maxHeartbeats 4000000 in
theorem clone_any (A : Option Addr) (n c : Nat) (l : List (List UInt8)) (w : World) (hA : RowR w A n l) :
    Calls Try.prog 87 #[.slice A n c] w fun e w' => ∃ v, e = .returned v ∧ w'.ownsRow w.heap.size 24 32 v n (idsV l) ∧ Below w.heap.size w w' := by
  obtain ⟨hn, bn, h32, hr⟩ := hA
  obtain ⟨j0, hj, hjz, hjs, hjb⟩ := infoId2_parts
  have hlen := idsV_length l h32
  rw [hn] at hlen
  have qN : ∀ (W : World) (a : Option Addr) (n c n' c' : Nat), (binOp .eql 22 (.slice a n c) (.slice none n' c')).run Try.prog W = .ok (.bool a.isNone) W := fun W a n c n' c' => Lib.run_eql_slice_nil W _ _ a n c n' c' Try.underlying22
  cases A with
  | none =>
    obtain rfl : l = [] := by rcases hr with h | ⟨g, o, h, _⟩; exact h; cases h
    obtain rfl : n = 0 := hn.symm
    go_enter Try.func87, Try.ntmps87
    go_wp2
    go_ret
    exact ⟨_, rfl, World.ownsRow_nil _ _ _ _, Below.refl _ _⟩
  | some ad =>
    have hc : ∀ j u, (idsV l)[j]? = some u → w.cell? (ad.add j) = some u := by
      rcases hr with rfl | ⟨g, o, h, hr⟩
      · intro j u h; simp [idsV] at h
      · cases h
        intro j u hju
        rw [Addr.add_lit]
        exact hr j u hju
    have h1 : ∀ u ∈ idsV l, u.oneCell' = true := by
      intro u hu
      simp only [idsV, List.mem_flatMap] at hu
      obtain ⟨a, _, hu⟩ := hu
      exact u8v_one a u hu
    clear hr hn h32
    go_enter Try.func87, Try.ntmps87
    go_wp2_with (at_builtin; refine wpList_append_own _ rfl _ _ 22 rfl w.heap.size 24 j0 (.agg (idVals zeroB)) 32 32 Try.underlying22 hj hjz hjs hjb rfl (by decide) _ _ _ rfl (World.ownsRow_made w #[] 0 (Nat.le_refl _) (by decide) rfl) ad n c (idsV l) rfl ?l1 ?l6 h1 ?l2 ?l3 ?l4 ?_)
    case l1 => exact hlen
    case l6 => intro j u hju; exact Lib.cell?_alloc_some _ (hc j u hju)
    case l2 => unfold maxLen; omega
    case l3 => omega
    case l4 => simp
    intro v' w1 hown hgrow _
    go_wp2
    go_ret
    exact ⟨v', rfl, by simpa using hown, ((Below.refl _ w).alloc (Nat.le_refl _) _).grown hgrow (by simp) (by intro k hk; simp [Value.ownBlock] at hk; omega)⟩

/-! ### rows of rows -/
/-- So many rows, each half as long as the one before, each of what stands above. -/
def FoldR (W : World) (base : Nat) (f : Nat → List UInt8) (k m : Nat) (vs : List Value) : Prop :=
  vs.length = m ∧ ∀ j, j < m → ∃ v, vs[j]? = some v ∧ W.ownsRow base 24 32 v (2 ^ (k - j)) (idsV (upTo (ndB f j) (2 ^ (k - j))))
theorem FoldR.below {W W' : World} {base k m : Nat} {f : Nat → List UInt8} {vs : List Value} (h : FoldR W base f k m vs) (hb : Below W.heap.size W W') : FoldR W' base f k m vs :=
  ⟨h.1, fun j hj => (h.2 j hj).imp fun _ ⟨a, b⟩ => ⟨a, own_below b hb⟩⟩
theorem own_two {W W' : World} {b1 b2 n m : Nat} {v u : Value} {xs ys : List Value} (h : W.ownsRow b1 24 32 v n xs) (hw : W.ownsRow b2 22 1 u m ys) (hg : W.grownBy W' u.ownBlock) : W'.ownsRow b1 24 32 v n xs := by
  refine h.kept hg ?_
  rcases h.2 with ⟨rfl, _⟩ | ⟨g, cap, cur, rfl, _, hb, _⟩
  · exact .inl rfl
  · right
    rcases hw.2 with ⟨rfl, _⟩ | ⟨g2, cap2, cur2, rfl, _, hb2, _⟩
    · simp [Value.ownBlock]
    · intro e
      simp only [Value.ownBlock, Option.some.injEq] at e
      subst e
      rw [hb] at hb2
      injection hb2 with e
      injection e with _ e
      exact absurd e (by decide)
theorem FoldR.grow {W W' : World} {base b2 k m n : Nat} {f : Nat → List UInt8} {vs ys : List Value} {u : Value} (h : FoldR W base f k m vs) (hw : W.ownsRow b2 22 1 u n ys) (hg : W.grownBy W' u.ownBlock) : FoldR W' base f k m vs :=
  ⟨h.1, fun j hj => (h.2 j hj).imp fun _ ⟨a, b⟩ => ⟨a, own_two b hw hg⟩⟩
theorem FoldR.snoc {W : World} {base k m : Nat} {f : Nat → List UInt8} {vs : List Value} {v : Value} (h : FoldR W base f k m vs) (hv : W.ownsRow base 24 32 v (2 ^ (k - m)) (idsV (upTo (ndB f m) (2 ^ (k - m))))) : FoldR W base f k (m + 1) (vs ++ [v]) := by
  refine ⟨by rw [List.length_append, h.1]; rfl, fun j hj => ?_⟩
  by_cases hjm : j < m
  · obtain ⟨u, h1, h2⟩ := h.2 j hjm
    exact ⟨u, by rw [List.getElem?_append_left (by rw [h.1]; exact hjm)]; exact h1, h2⟩
  · obtain rfl : j = m := by omega
    exact ⟨v, by rw [List.getElem?_append_right (by rw [h.1]; exact Nat.le_refl _), h.1]; simp, hv⟩
theorem infoRow_parts : ∃ i, Try.prog.info? 22 = some i ∧ i.zero = some (.slice none 0 0) ∧ i.size = 1 ∧ i.bytes = 24 :=
  info_parts (by kernel_rfl)
theorem and_facts (k : Nat) (hk : k ≤ 5) : (bits BinOp.and IntKind.i64 ((2 ^ k : Nat) : Int) (((2 ^ k : Nat) : Int) - 1) != 0) = false := by
  obtain rfl | rfl | rfl | rfl | rfl | rfl : k = 0 ∨ k = 1 ∨ k = 2 ∨ k = 3 ∨ k = 4 ∨ k = 5 := by omega
  all_goals decide
/-- append of values that the statement itself lists: what else there is, but for the row's block, stays. -/
theorem wpList_append_newk {P : Program} {w : World} {ops : Array Oper} {rest : List Oper} {o : Oper} {a : Act} {Q : Exit → Act → World → Prop} (hgd : o.guard = none) (s x : Operand) (t : TypeId)
    (ho : o.op = .call { callee := .builtin .append, args := #[s, x], argTypes := #[t, t] })
    (base : Nat) (e : TypeId) (i : TypeInfo) (z : Value) (bytes : Nat) (ht : P.underlying t = some (.slice e)) (hi : P.info? e = some i) (hz : i.zero = some z)
    (hsize : i.size = 1) (hby : i.bytes = bytes) (hzs : z.cells.size = 1)
    (v : Value) (n : Nat) (xs : List Value) (hs : a.eval s = v) (hown : w.ownsRow base e 1 v n xs)
    (m : Nat) (cs : Array Value) (hm : cs.size = m) (hx : a.eval x = .slice (some ⟨w.heap.size, 0, none⟩) m m) (h1 : ∀ u ∈ cs.toList, u.oneCell' = true)
    (h63 : n + m ≤ maxLen) (hbytes : (n + m) * bytes ≤ 140737488355328) (hbase : base ≤ w.heap.size)
    (h : ∀ v' w', w'.ownsRow base e 1 v' (n + m) (xs ++ cs.toList) → (w.alloc (.cells cs e)).grownBy w' v.ownBlock → wpList P ops Q rest (a.put o.dst v') w') :
    wpList P ops Q (o :: rest) a (w.alloc (.cells cs e)) := by
  have hnew : ∀ j u, cs.toList[j]? = some u → (w.alloc (.cells cs e)).cell? ((⟨w.heap.size, 0, none⟩ : Addr).add j) = some u := by
    intro j u hu
    have hadd : (⟨w.heap.size, 0, none⟩ : Addr).add j = ⟨w.heap.size, j, none⟩ := by unfold Addr.add; split <;> simp_all
    rw [hadd, cell_of_row (w.alloc (.cells cs e)) w.heap.size j cs e (0, 0) (heap_alloc_new w _)]
    simpa using hu
  refine wpList_append_own (w.alloc (.cells cs e)) hgd s x t ho base e i z 1 bytes ht hi hz hsize hby hzs (by decide) v n xs hs (hown.alloc _) ⟨w.heap.size, 0, none⟩ m m cs.toList hx (by simpa using hm) hnew h1 h63 hbytes (by simp; omega) ?_
  intro v' w' h2 h3 _
  exact h v' w' h2 h3
theorem own_mono {w : World} {b b' n : Nat} {e : TypeId} {size : Nat} {v : Value} {xs : List Value} (h : w.ownsRow b e size v n xs) (hb : b' ≤ b) : w.ownsRow b' e size v n xs :=
  ⟨h.1, h.2.imp id fun ⟨g, cap, cur, h1, h2, h3⟩ => ⟨g, cap, cur, h1, Nat.le_trans hb h2, h3⟩⟩
theorem own_gbl {w w' : World} {b g n : Nat} {e : TypeId} {size : Nat} {v : Value} {xs : List Value} (h : w.ownsRow b e size v n xs) (hg : w.grownBy w' (some g)) (hb : g < b) : w'.ownsRow b e size v n xs := by
  refine h.kept hg ?_
  rcases h.2 with ⟨rfl, _⟩ | ⟨g2, cap, cur, rfl, h2, _⟩
  · exact .inl rfl
  · right
    intro e
    simp only [Value.ownBlock, Option.some.injEq] at e
    omega
theorem FoldR.mono {W : World} {b b' k m : Nat} {f : Nat → List UInt8} {vs : List Value} (h : FoldR W b f k m vs) (hb : b' ≤ b) : FoldR W b' f k m vs :=
  ⟨h.1, fun j hj => (h.2 j hj).imp fun _ ⟨x, y⟩ => ⟨x, own_mono y hb⟩⟩
theorem FoldR.gb {W W' : World} {b g k m : Nat} {f : Nat → List UInt8} {vs : List Value} (h : FoldR W b f k m vs) (hg : W.grownBy W' (some g)) (hb : g < b) : FoldR W' b f k m vs :=
  ⟨h.1, fun j hj => (h.2 j hj).imp fun _ ⟨x, y⟩ => ⟨x, own_gbl y hg hb⟩⟩
/-- Where a fold stands: j rows above the first. -/
structure FoldS (w : World) (f : Nat → List UInt8) (k j : Nat) (r v : Value) (W : World) : Prop where
  res : ∃ zc : Array Value, Blk W w.heap.size 24 zc ∧ zc.size = 32
  bel : Below w.heap.size w W
  lt : w.heap.size < W.heap.size
  rows : ∃ vs, W.ownsRow (w.heap.size + 1) 22 1 v (j + 1) vs ∧ FoldR W (w.heap.size + 1) f k (j + 1) vs ∧ vs[j]? = some r
theorem FoldS.below {w W W' : World} {f : Nat → List UInt8} {k j : Nat} {r v : Value} (h : FoldS w f k j r v W) (hb : Below W.heap.size W W') : FoldS w f k j r v W' :=
  ⟨h.res.imp fun _ ⟨x, y⟩ => ⟨x.below hb, y⟩, h.bel.trans (hb.mono h.bel.size), Nat.lt_of_lt_of_le h.lt hb.size, h.rows.imp fun _ ⟨x, y, z⟩ => ⟨own_below x hb, y.below hb, z⟩⟩
theorem FoldS.row {w W : World} {f : Nat → List UInt8} {k j : Nat} {r v : Value} (h : FoldS w f k j r v W) : W.ownsRow (w.heap.size + 1) 24 32 r (2 ^ (k - j)) (idsV (upTo (ndB f j) (2 ^ (k - j)))) := by
  obtain ⟨vs, _, h2, h3⟩ := h.rows
  obtain ⟨u, h4, h5⟩ := h2.2 j (Nat.lt_succ_self _)
  rw [h3] at h4
  cases h4
  exact h5
theorem one_slice (A : Option Addr) (n c : Nat) : ∀ u ∈ (#[Value.slice A n c] : Array Value).toList, u.oneCell' = true := by
  intro u hu
  simp at hu
  rw [hu]; rfl
theorem pow_half {k j : Nat} (h : j < k) : 2 ^ (k - j) = 2 * 2 ^ (k - (j + 1)) := by
  rw [show k - j = (k - (j + 1)) + 1 by omega, Nat.pow_succ, Nat.mul_comm]
set_option maxRecDepth 100000 in
set_option maxHeartbeats 8000000 in
theorem fold_any (A : Option Addr) (c : Nat) (l : List (List UInt8)) (k : Nat) (hk : k ≤ 5) (w : World) (hA : RowR w A (2 ^ k) l) :
    Calls Try.prog 62 #[.slice A (2 ^ k) c] w fun e w' => ∃ v vs, e = .returned (.tuple #[.agg (idVals (ndB (getB l) k 0)), v]) ∧ w'.ownsRow w.heap.size 22 1 v (k + 1) vs ∧ FoldR w' w.heap.size (getB l) k (k + 1) vs ∧ Below w.heap.size w w' := by
  have hu := Try.underlying24
  obtain ⟨r0, hr, hrz, hrs, hrb⟩ := infoRow_parts
  have h32 := hA.2.2.1
  have hln := hA.1
  have hf := getB_length h32
  have hl0 : l = upTo (ndB (getB l) 0) (2 ^ (k - 0)) := by
    rw [Nat.sub_zero, ← hln]; exact (upTo_getB l).symm
  have hand := and_facts k hk
  have hP32 : 2 ^ k ≤ 32 := by
    obtain rfl | rfl | rfl | rfl | rfl | rfl : k = 0 ∨ k = 1 ∨ k = 2 ∨ k = 3 ∨ k = 4 ∨ k = 5 := by omega
    all_goals decide
  have hP1 : 1 ≤ 2 ^ k := Nat.one_le_two_pow
  have hPz : (2 ^ (k - 0)) = 2 ^ k := rfl
  obtain ⟨P, hP⟩ : ∃ P, P = 2 ^ k := ⟨_, rfl⟩
  rw [← hP] at hA hand hP32 hP1 hln ⊢
  obtain ⟨f, hF⟩ : ∃ f, f = getB l := ⟨_, rfl⟩
  rw [← hF] at hf hl0 ⊢
  have cC : ∀ W, RowR W A P l → Calls Try.prog 87 #[.slice A P c] W fun e w' => ∃ v, e = .returned v ∧ w'.ownsRow W.heap.size 24 32 v P (idsV l) ∧ Below W.heap.size W w' := fun W h => clone_any A P c l W h
  have HP := hid hP
  have HF := hid hF
  have HL0 := hid hl0
  have H32 := hid h32
  have HLN := hid hln
  clear hP hF hl0 h32 hln hPz
  have z1 : ((P : Int) == 0) = false := by simp; omega
  have hA1 : ∀ o, RowR (w.alloc o) A P l := fun o => hA.below ((Below.refl _ w).alloc (Nat.le_refl _) o)
  go_enter Try.func62, Try.ntmps62
  go_wp2_with (first
    | (go_at_call 87; (with_reducible refine (cC _ (hA1 _)).mono ?_); rintro e1 w1 ⟨v1, rfl, hown1, hb1⟩; obtain ⟨A1, c1, rfl, hrow1⟩ := RowAt.own hown1 H32.out (by omega)))
  have h0 : FoldS w f k 0 (.slice A1 P c1) (.slice (some ⟨w1.heap.size, 0, none⟩) 1 1) (w1.alloc (.cells #[.slice A1 P c1] 22)) := by
    have hk1 : ∀ o, (w.alloc o).heap.size = w.heap.size + 1 := fun o => by simp
    rw [hk1] at hown1 hb1
    have hR := (Blk.new w 24 #[.int .u8 0, .int .u8 0, .int .u8 0, .int .u8 0, .int .u8 0, .int .u8 0, .int .u8 0, .int .u8 0, .int .u8 0, .int .u8 0, .int .u8 0, .int .u8 0, .int .u8 0, .int .u8 0, .int .u8 0, .int .u8 0, .int .u8 0, .int .u8 0, .int .u8 0, .int .u8 0, .int .u8 0, .int .u8 0, .int .u8 0, .int .u8 0, .int .u8 0, .int .u8 0, .int .u8 0, .int .u8 0, .int .u8 0, .int .u8 0, .int .u8 0, .int .u8 0]).below (by rw [hk1]; exact hb1)
    have hB : Below w.heap.size w w1 := ((Below.refl _ w).alloc (Nat.le_refl _) _).trans (hb1.mono (Nat.le_succ _))
    have hs1 : w.heap.size + 1 ≤ w1.heap.size := by have := hb1.size; rw [hk1] at this; exact this
    refine ⟨⟨_, hR.alloc _, rfl⟩, hB.alloc hB.size _, by simp; omega, [.slice A1 P c1], World.ownsRow_lit w1 _ 1 hs1 (by decide) rfl, ⟨rfl, fun j hj => ?_⟩, rfl⟩
    obtain rfl : j = 0 := by omega
    refine ⟨_, rfl, ?_⟩
    have e1 : 2 ^ (k - 0) = P := HP.out.symm
    have e2 : upTo (ndB f 0) P = l := by rw [← e1]; exact HL0.out.symm
    rw [e1, e2]
    exact hown1.alloc _
  clear hown1 hb1 hrow1 hA1 cC
  generalize w1.alloc (.cells #[.slice A1 P c1] 22) = w2 at *
  go_loopw [4, 5] (fun r v wr => ∃ j, j ≤ k ∧ FoldS w f k j r v wr) (fun r _ _ => match r with | .slice _ n _ => n | _ => 0)
  case atStart => exact ⟨0, by omega, h0⟩
  case round =>
    obtain ⟨j, hj, hs⟩ := hrel
    have hrow := hs.row
    obtain ⟨A2, c2, rfl, hr2⟩ := RowAt.own hrow (upTo_32 _ (ndB_length f hf j) _) (by have : 2 ^ (k - j) ≤ 2 ^ k := Nat.pow_le_pow_right (by omega) (by omega); have := HP.out; omega)
    by_cases hjk : j < k
    · have hph := pow_half hjk
      have hQ2 : 2 ^ (k - j) ≤ P := by rw [HP.out]; exact Nat.pow_le_pow_right (by omega) (by omega)
      have hlev := above_level f j (2 ^ (k - (j + 1)))
      have h32' := upTo_32 _ (ndB_length f hf (j + 1)) (2 ^ (k - (j + 1)))
      have cA := above_any A2 (2 ^ (k - j)) c2 _ (by omega) wr hr2.r
      have hQ1 : 1 ≤ 2 ^ (k - (j + 1)) := Nat.one_le_two_pow
      obtain ⟨Q, hQ⟩ : ∃ Q, Q = 2 ^ (k - (j + 1)) := ⟨_, rfl⟩
      rw [hph] at cA hr2 hs hQ2 ⊢
      rw [← hQ] at cA hr2 hs hlev h32' hQ1 hQ2 ⊢
      rw [Nat.mul_div_cancel_left _ (by decide), hlev] at cA
      have b1 : (1 : Int) < ((2 * Q : Nat) : Int) := by omega
      have hkj : j ≤ 5 := by omega
      obtain ⟨M, hM⟩ : ∃ M, M = upTo (ndB f (j + 1)) Q := ⟨_, rfl⟩
      rw [← hM] at cA h32'
      have HQ := hid hQ
      have HM := hid hM
      have H32' := hid h32'
      clear hQ hM h32' hlev hr2 hph hrow
      go_wp2_with (first
        | (go_at_call 128; (with_reducible refine cA.mono ?_); rintro e3 w3 ⟨v3, rfl, hown3, hb3⟩; obtain ⟨A3, c3, rfl, hrow3⟩ := RowAt.own hown3 H32'.out (by omega); obtain ⟨vs, hv3, hf3, hvs3⟩ := (hs.below hb3).rows)
        | (at_builtin; refine wpList_append_newk rfl _ _ 79 rfl (w.heap.size + 1) 22 r0 (.slice none 0 0) 24 Try.underlying79 hr hrz hrs hrb rfl _ _ _ rfl hv3 1 #[.slice A3 Q c3] rfl rfl (one_slice A3 Q c3) ?l1 ?l2 ?l3 ?_))
      case l1 => unfold maxLen; omega
      case l2 => omega
      case l3 => exact (hs.below hb3).lt
      intro v5 w5 hv5 hg5
      have hs3 := hs.below hb3
      have hlt3 := hs3.lt
      have hbA := hs3.bel.alloc hs3.bel.size (.cells #[.slice A3 Q c3] 22)
      have hown4 := (own_mono hown3 (show w.heap.size + 1 ≤ wr.heap.size from hs.lt)).alloc (.cells #[.slice A3 Q c3] 22)
      have hs5 : FoldS w f k (j + 1) (.slice A3 Q c3) v5 w5 := by
        refine ⟨?_, hbA.grown hg5 hbA.size (fun b hb => by have := (hv3.lt b hb).1; omega), Nat.lt_of_lt_of_le hlt3 (Nat.le_trans (by simp) hg5.size), vs ++ [.slice A3 Q c3], hv5, ((hf3.below ((Below.refl _ _).alloc (Nat.le_refl _) _)).grow (hv3.alloc _) hg5).snoc ?_, ?_⟩
        · obtain ⟨zc, hz1, hz2⟩ := hs3.res
          refine ⟨zc, (hg5.block _ (by simp; omega) ?_).trans (hz1.alloc _), hz2⟩
          intro e
          have := (hv3.lt _ e.symm).1
          omega
        · rw [← HQ.out, ← HM.out]
          exact own_two hown4 (hv3.alloc _) hg5
        · rw [List.getElem?_append_right (by rw [hf3.1]; exact Nat.le_refl _), hf3.1, Nat.sub_self]
          rfl
      go_wp2
      go_roundw
      case rel => exact ⟨j + 1, by omega, hs5⟩
      case measure => show Q < 2 * Q; omega
    · obtain rfl : j = k := by omega
      rw [Nat.sub_self, Nat.pow_zero] at hrow hr2 hs ⊢
      obtain ⟨X, hX⟩ : ∃ X, X = ndB f j 0 := ⟨_, rfl⟩
      have lx : X.length = 32 := by rw [hX]; exact ndB_length f hf _ _
      have hx0 : (upTo (ndB f j) 1)[0]? = some X := by rw [hX]; exact upTo_get _ _ _ (by omega)
      obtain ⟨g, q, hg, _, hix⟩ := hr2.2.2.2.2.pick c2 (upTo_length _ _) hx0
      rw [show ((0 : Nat) : Int) = 0 from rfl] at hix
      have hzx : (Try.prog.info? 24).map (·.size) = some (X.map u8v).length := by rw [List.length_map, lx]; exact sizeId
      obtain ⟨zc, hz1, hz2⟩ := hs.res
      obtain ⟨vs, hv3, hf3, _⟩ := hs.rows
      have hb := hs.bel
      have HX := hid hX
      have HLX := hid lx
      have HZ := hid hz2
      clear hX lx hz2 hrow hr2 hs hx0
      go_wp2_with (first
        | (with_reducible refine wpList_load_if (by with_unfolding_all rfl) 24 _ rfl _ _ rfl (X.map u8v) _ hg hu (by with_unfolding_all rfl) hzx ?_)
        | (with_reducible refine wpList_store_blk rfl 24 _ _ rfl w.heap.size zc (idVals X) 24 hz1 rfl rfl ?c2 ?c3 (idVals_one _) ?_))
      case c2 => rw [idVals_size, HLX.out]; try exact sizeId
      case c3 => rw [idVals_size, HLX.out]; try exact HZ.out
      intro w9 hb9 hg9
      go_wp2
      refine bodyPost_ret (results_cellt rfl _ _ _ _ _ _ rfl hb9 Try.underlying24 rfl (by rw [idVals_size, HLX.out]; exact sizeId)) rfl ⟨_, vs, by rw [← HX.out]; rfl, own_mono (own_gbl hv3 hg9 (Nat.lt_succ_self _)) (Nat.le_succ _), (hf3.gb hg9 (Nat.lt_succ_self _)).mono (Nat.le_succ _), ?_⟩
      exact hb.grown hg9 hb.size (by intro i e; cases e; omega)
end Go.Proofs.Ytfdbgmnnahcejaa

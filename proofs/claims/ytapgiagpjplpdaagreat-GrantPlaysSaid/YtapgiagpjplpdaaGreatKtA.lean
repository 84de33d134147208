
/- keytree: trees of sums, climbing, rows that are filled, Fold. -/
import Derived.Test.YtapgiagpjplpdaaGreatLam6
import Derived.Test.YtapgiagpjplpdaaGreatTag6
namespace Go.Proofs.YtapgiagpjplpdaaGreat
open Go.RowKit Go.Qc

/-- "node" -/
def nodeN : List UInt8 := [110, 111, 100, 101]
def nodeB (a b : List UInt8) : List UInt8 := tagB nodeN [a, b]
/-- The sum so many levels up, the i-th one. -/
def ndB (f : Nat → List UInt8) : Nat → Nat → List UInt8
  | 0, i => f i
  | j + 1, i => nodeB (ndB f j (2 * i)) (ndB f j (2 * i + 1))
end Go.Proofs.YtapgiagpjplpdaaGreat

namespace Go.Proofs.YtapgiagpjplpdaaGreat
open Go.RowKit Go.Qc
attribute [local go_sem] txt_size txt_append ib_fold

/-- What a climb has laid: the sum, and the answer's place. -/
structure ClimbS (w : World) (S : List UInt8) (W : World) : Prop where
  sum : Blk W w.heap.size 23 (idVals S)
  res : ∃ zc : Array Value, Blk W (w.heap.size + 1) 23 zc ∧ zc.size = 32
  bel : Below w.heap.size w W
theorem ClimbS.below {w W W' : World} {S : List UInt8} (h : ClimbS w S W) (hb : Below W.heap.size W W') : ClimbS w S W' :=
  ⟨h.sum.below hb, (h.res.imp fun _ ⟨a, b⟩ => ⟨a.below hb, b⟩), h.bel.trans (hb.mono h.bel.size)⟩
theorem ClimbS.put {w W W' : World} {S T : List UInt8} (h : ClimbS w S W) (hb : Blk W' w.heap.size 23 (idVals T)) (hg : W.grownBy W' (some w.heap.size)) : ClimbS w T W' :=
  ⟨hb, h.res.imp fun _ ⟨a, b⟩ => ⟨blk_gb a hg (by omega), b⟩, h.bel.grown hg h.bel.size (by intro i e; cases e; exact Nat.le_refl _)⟩
theorem ClimbS.new (w : World) (S : List UInt8) (zc : Array Value) (hz : zc.size = 32) : ClimbS w S ((w.alloc (.cells (idVals S) 23)).alloc (.cells zc 23)) := by
  have hk1 : (w.alloc (.cells (idVals S) 23)).heap.size = w.heap.size + 1 := by simp
  have h2 := Blk.new (w.alloc (.cells (idVals S) 23)) 23 zc
  rw [hk1] at h2
  exact ⟨(Blk.new w 23 (idVals S)).alloc _, ⟨zc, h2, hz⟩, ((Below.refl _ _).alloc (Nat.le_refl _) _).alloc (by simp) _⟩
end Go.Proofs.YtapgiagpjplpdaaGreat

namespace Go.Proofs.YtapgiagpjplpdaaGreat
open Go.RowKit Go.Qc
attribute [local go_sem] txt_size txt_append ib_fold

/-! ### a row that is made, then filled -/
theorem wp_store_at {P : Program} {w : World} {o : Oper} {a : Act} {K : Act → World → Prop} {Q : Exit → Act → World → Prop} (ty : TypeId) (x y : Operand) (ho : o.op = .store ty x y)
    (g off : Nat) (old cs : Array Value) (t : TypeId) (hg : Blk w g t old) (hx : a.eval x = .pointer (some ⟨g, off, none⟩)) (hy : a.eval y = .agg cs) (hi : (P.info? ty).map (·.size) = some cs.size) (hs : off + cs.size ≤ old.size) (h1 : cs.all (·.oneCell') = true)
    (h : ∀ w', Blk w' g t (over old off cs.toList) → w.grownBy w' (some g) → K (a.put o.dst undef) w') : o.wp P a w K Q := by
  have hone : ∀ v ∈ cs.toList, v.oneCell' = true := fun v hv => (Array.all_eq_true_iff_forall_mem.1 h1) v (by simpa using hv)
  have hcells : (Value.agg cs).cells = cs := rfl
  have hst := run_storeCells_at P g off t cs.toList 0 old w hg (by simpa using hs) hone
  simp only [Nat.add_zero] at hst
  have hr : (Instr.storeAt ty (.pointer (some ⟨g, off, none⟩)) (.agg cs)).run P w = .ok () (w.setRow g (over old off cs.toList)) := by
    cases hq : P.info? ty with
    | none => simp [hq] at hi
    | some i =>
      have hsz : i.size = cs.size := by simpa [hq] using hi
      simp [Instr.storeAt, Instr.sureAddr, storeVar, sizeOf, typeInfo, hq, hcells, hsz]
      rw [hst]; simp [over]
  obtain ⟨hb, hgr⟩ := blk_over hg (over old off cs.toList)
  unfold Oper.wp
  simp only [execOp, ho, hx, hy]
  simp only [Sem.run_bind, hr, Result.andThen, Sem.run_pure]
  exact h _ hb hgr
/-- A row of n at block g, the first k filled. -/
structure MadeP (w : World) (n g : Nat) (F : Nat → List UInt8) (k : Nat) (W : World) : Prop where
  base : w.heap.size ≤ g
  blk : ∃ cs : Array Value, Blk W g 23 cs ∧ cs.size = n * 32 ∧ cs.toList.take (k * 32) = idsV (upTo F k)
  bel : Below w.heap.size w W
theorem MadeP.below {w W W' : World} {n g : Nat} {F : Nat → List UInt8} {k : Nat} (h : MadeP w n g F k W) (hb : Below W.heap.size W W') : MadeP w n g F k W' :=
  ⟨h.base, h.blk.imp fun _ ⟨a, b⟩ => ⟨a.below hb, b⟩, h.bel.trans (hb.mono h.bel.size)⟩
theorem MadeP.put {w W W' : World} {n g : Nat} {F : Nat → List UInt8} {k : Nat} {cs : Array Value} {Z : List UInt8} (h : MadeP w n g F k W) (_ : Blk W g 23 cs) (hs : cs.size = n * 32) (ht : cs.toList.take (k * 32) = idsV (upTo F k))
    (hb : Blk W' g 23 (over cs (k * 32) (idVals Z).toList)) (hg : W.grownBy W' (some g)) (hk : k < n) (hz : Z.length = 32) (hZ : Z = F k) : MadeP w n g F (k + 1) W' := by
  have hl : (idVals Z).toList.length = 32 := by unfold idVals; simp [hz]
  refine ⟨h.base, ⟨_, hb, ?_, ?_⟩, h.bel.grown hg h.bel.size (by intro i e; cases e; exact h.base)⟩
  · rw [over_size _ _ _ (by rw [hl, hs]; omega), hs]
  · unfold over
    rw [List.toList_toArray, List.append_assoc, List.take_append, List.take_of_length_le (by rw [List.length_take]; omega), List.length_take, Array.length_toList, hs, Nat.min_eq_left (by omega), show (k + 1) * 32 - k * 32 = (idVals Z).toList.length by rw [hl]; omega, List.take_left, ht, upTo_succ, idsV_snoc, hZ]
    unfold idVals
    simp
theorem MadeP.own {w W : World} {n g : Nat} {F : Nat → List UInt8} (h : MadeP w n g F n W) (hm : n ≤ maxLen) (hF : ∀ b, (F b).length = 32) : W.ownsRow w.heap.size 23 32 (.slice (some ⟨g, 0, none⟩) n n) n (idsV (upTo F n)) := by
  obtain ⟨cs, h1, h2, h3⟩ := h.blk
  exact ⟨by rw [idsV_length _ (upTo_32 F hF n), upTo_length], .inr ⟨g, n, cs, rfl, h.base, h1, Nat.le_refl _, hm, h2, h3⟩⟩
theorem MadeP.start {w W : World} {n g : Nat} {F : Nat → List UInt8} {xs : List Value} (h : W.ownsRow w.heap.size 23 32 (.slice (some ⟨g, 0, none⟩) n n) n xs) (hb : Below w.heap.size w W) : MadeP w n g F 0 W := by
  rcases h.2 with ⟨h1, _⟩ | ⟨g', cap, cur, h1, h2, h3, _, _, h4, _⟩
  · cases h1
  · injection h1 with q1 q2 q3
    injection q1 with q1
    injection q1 with q1
    subst q1 q3
    exact ⟨h2, ⟨cur, h3, h4, by simp [upTo, idsV]⟩, hb⟩
/-! ### what stands above a row's pairs -/
end Go.Proofs.YtapgiagpjplpdaaGreat

namespace Go.Proofs.YtapgiagpjplpdaaGreat
open Go.RowKit Go.Qc
attribute [local go_sem] txt_size txt_append ib_fold

/-! ### slices.Clone at ids -/
set_option maxRecDepth 100000 in
set_option maxHeartbeats 4000000 in
theorem clone_any (A : Option Addr) (n c : Nat) (l : List (List UInt8)) (w : World) (hA : RowR w A n l) :
    Calls Tryz.prog 57 #[.slice A n c] w fun e w' => ∃ v, e = .returned v ∧ w'.ownsRow w.heap.size 23 32 v n (idsV l) ∧ Below w.heap.size w w' := by
  obtain ⟨hn, bn, h32, hr⟩ := hA
  obtain ⟨j0, hj, hjz, hjs, hjb⟩ := infoId2_parts
  have hlen := idsV_length l h32
  rw [hn] at hlen
  have qN : ∀ (W : World) (a : Option Addr) (n c n' c' : Nat), (binOp .eql 48 (.slice a n c) (.slice none n' c')).run Tryz.prog W = .ok (.bool a.isNone) W := fun W a n c n' c' => Lib.run_eql_slice_nil W _ _ a n c n' c' Tryz.underlying48
  cases A with
  | none =>
    obtain rfl : l = [] := by rcases hr with h | ⟨g, o, h, _⟩; exact h; cases h
    obtain rfl : n = 0 := hn.symm
    go_enter Tryz.func57, Tryz.ntmps57
    go_wp2
    go_ret
    exact ⟨_, rfl, World.ownsRow_nil _ _ _ _, Below.refl _ _⟩
  | some ad =>
    have hc : ∀ j u, (idsV l)[j]? = some u → w.cell? (ad.add j) = some u := by
      rcases hr with rfl | ⟨g, o, h, hr⟩
      · intro j u h; simp [idsV] at h
      · cases h
        intro j u hju
        rw [Addr.add_lit]
        exact hr j u hju
    have h1 : ∀ u ∈ idsV l, u.oneCell' = true := by
      intro u hu
      simp only [idsV, List.mem_flatMap] at hu
      obtain ⟨a, _, hu⟩ := hu
      exact u8v_one a u hu
    clear hr hn h32
    go_enter Tryz.func57, Tryz.ntmps57
    go_wp2_with (at_builtin; refine wpList_append_own _ rfl _ _ 48 rfl w.heap.size 23 j0 (.agg (idVals zeroB)) 32 32 Tryz.underlying48 hj hjz hjs hjb rfl (by decide) _ _ _ rfl (World.ownsRow_made w #[] 0 (Nat.le_refl _) (by decide) rfl) ad n c (idsV l) rfl ?l1 ?l6 h1 ?l2 ?l3 ?l4 ?_)
    case l1 => exact hlen
    case l6 => intro j u hju; exact Lib.cell?_alloc_some _ (hc j u hju)
    case l2 => unfold maxLen; omega
    case l3 => omega
    case l4 => simp
    intro v' w1 hown hgrow _
    go_wp2
    go_ret
    exact ⟨v', rfl, by simpa using hown, ((Below.refl _ w).alloc (Nat.le_refl _) _).grown hgrow (by simp) (by intro k hk; simp [Value.ownBlock] at hk; omega)⟩

/-! ### rows of rows -/
/-- So many rows, each half as long as the one before, each of what stands above. -/
def FoldR (W : World) (base : Nat) (f : Nat → List UInt8) (k m : Nat) (vs : List Value) : Prop :=
  vs.length = m ∧ ∀ j, j < m → ∃ v, vs[j]? = some v ∧ W.ownsRow base 23 32 v (2 ^ (k - j)) (idsV (upTo (ndB f j) (2 ^ (k - j))))
theorem FoldR.below {W W' : World} {base k m : Nat} {f : Nat → List UInt8} {vs : List Value} (h : FoldR W base f k m vs) (hb : Below W.heap.size W W') : FoldR W' base f k m vs :=
  ⟨h.1, fun j hj => (h.2 j hj).imp fun _ ⟨a, b⟩ => ⟨a, own_below b hb⟩⟩
theorem own_two {W W' : World} {b1 b2 n m : Nat} {v u : Value} {xs ys : List Value} (h : W.ownsRow b1 23 32 v n xs) (hw : W.ownsRow b2 48 1 u m ys) (hg : W.grownBy W' u.ownBlock) : W'.ownsRow b1 23 32 v n xs := by
  refine h.kept hg ?_
  rcases h.2 with ⟨rfl, _⟩ | ⟨g, cap, cur, rfl, _, hb, _⟩
  · exact .inl rfl
  · right
    rcases hw.2 with ⟨rfl, _⟩ | ⟨g2, cap2, cur2, rfl, _, hb2, _⟩
    · simp [Value.ownBlock]
    · intro e
      simp only [Value.ownBlock, Option.some.injEq] at e
      subst e
      rw [hb] at hb2
      injection hb2 with e
      injection e with _ e
      exact absurd e (by decide)
theorem FoldR.grow {W W' : World} {base b2 k m n : Nat} {f : Nat → List UInt8} {vs ys : List Value} {u : Value} (h : FoldR W base f k m vs) (hw : W.ownsRow b2 48 1 u n ys) (hg : W.grownBy W' u.ownBlock) : FoldR W' base f k m vs :=
  ⟨h.1, fun j hj => (h.2 j hj).imp fun _ ⟨a, b⟩ => ⟨a, own_two b hw hg⟩⟩
theorem own_mono {w : World} {b b' n : Nat} {e : TypeId} {size : Nat} {v : Value} {xs : List Value} (h : w.ownsRow b e size v n xs) (hb : b' ≤ b) : w.ownsRow b' e size v n xs :=
  ⟨h.1, h.2.imp id fun ⟨g, cap, cur, h1, h2, h3⟩ => ⟨g, cap, cur, h1, Nat.le_trans hb h2, h3⟩⟩
theorem own_gbl {w w' : World} {b g n : Nat} {e : TypeId} {size : Nat} {v : Value} {xs : List Value} (h : w.ownsRow b e size v n xs) (hg : w.grownBy w' (some g)) (hb : g < b) : w'.ownsRow b e size v n xs := by
  refine h.kept hg ?_
  rcases h.2 with ⟨rfl, _⟩ | ⟨g2, cap, cur, rfl, h2, _⟩
  · exact .inl rfl
  · right
    intro e
    simp only [Value.ownBlock, Option.some.injEq] at e
    omega
theorem FoldR.mono {W : World} {b b' k m : Nat} {f : Nat → List UInt8} {vs : List Value} (h : FoldR W b f k m vs) (hb : b' ≤ b) : FoldR W b' f k m vs :=
  ⟨h.1, fun j hj => (h.2 j hj).imp fun _ ⟨x, y⟩ => ⟨x, own_mono y hb⟩⟩
theorem FoldR.gb {W W' : World} {b g k m : Nat} {f : Nat → List UInt8} {vs : List Value} (h : FoldR W b f k m vs) (hg : W.grownBy W' (some g)) (hb : g < b) : FoldR W' b f k m vs :=
  ⟨h.1, fun j hj => (h.2 j hj).imp fun _ ⟨x, y⟩ => ⟨x, own_gbl y hg hb⟩⟩
/-- Where a fold stands: j rows above the first. -/
structure FoldS (w : World) (f : Nat → List UInt8) (k j : Nat) (r v : Value) (W : World) : Prop where
  res : ∃ zc : Array Value, Blk W w.heap.size 23 zc ∧ zc.size = 32
  bel : Below w.heap.size w W
  lt : w.heap.size < W.heap.size
  rows : ∃ vs, W.ownsRow (w.heap.size + 1) 48 1 v (j + 1) vs ∧ FoldR W (w.heap.size + 1) f k (j + 1) vs ∧ vs[j]? = some r
theorem FoldS.below {w W W' : World} {f : Nat → List UInt8} {k j : Nat} {r v : Value} (h : FoldS w f k j r v W) (hb : Below W.heap.size W W') : FoldS w f k j r v W' :=
  ⟨h.res.imp fun _ ⟨x, y⟩ => ⟨x.below hb, y⟩, h.bel.trans (hb.mono h.bel.size), Nat.lt_of_lt_of_le h.lt hb.size, h.rows.imp fun _ ⟨x, y, z⟩ => ⟨own_below x hb, y.below hb, z⟩⟩
theorem FoldS.row {w W : World} {f : Nat → List UInt8} {k j : Nat} {r v : Value} (h : FoldS w f k j r v W) : W.ownsRow (w.heap.size + 1) 23 32 r (2 ^ (k - j)) (idsV (upTo (ndB f j) (2 ^ (k - j)))) := by
  obtain ⟨vs, _, h2, h3⟩ := h.rows
  obtain ⟨u, h4, h5⟩ := h2.2 j (Nat.lt_succ_self _)
  rw [h3] at h4
  cases h4
  exact h5
end Go.Proofs.YtapgiagpjplpdaaGreat

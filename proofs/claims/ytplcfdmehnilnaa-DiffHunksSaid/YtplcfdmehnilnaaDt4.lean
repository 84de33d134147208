
/- diff, of the document: hunks that are gathered, one at a time: the state of Of. -/
import Derived.Test.YtplcfdmehnilnaaDt2
import Derived.Test.YtplcfdmehnilnaaDf7
set_option linter.unusedSimpArgs false
set_option linter.unusedVariables false
namespace Go.Proofs.Ytplcfdmehnilnaa
open Go.RowKit Go.Qc Go.Shelf
attribute [local go_sem] txt_size txt_append ib_fold txt_toL

/-- The document's hunks of one's own. -/
def HOwnR (W : World) (base : Nat) (v : Value) (ds : List HD) : Prop := ∃ ts : List Hc, W.ownsRow base 40 3 v ds.length (ts.flatMap hcCells) ∧ HcsOwn W base ts (ds.map hdI)
theorem own_blk {W W' : World} {base n s p : Nat} {e t : TypeId} {v : Value} {xs : List Value} {cs : Array Value} (h : W.ownsRow base e s v n xs) (hk : Blk W p t cs) (hne : e ≠ t) (hg : W.grownBy W' (some p)) : W'.ownsRow base e s v n xs := by
  refine h.kept hg ?_
  rcases h.2 with ⟨rfl, _⟩ | ⟨g, cap, cur, rfl, _, hb, _⟩
  · exact .inl rfl
  · refine .inr (fun e' => ?_)
    simp only [Value.ownBlock, Option.some.injEq] at e'
    subst e'
    unfold Blk at hk
    rw [hk] at hb
    cases hb
    exact hne rfl
/-- The hunk that is gathered, in its box. -/
structure NowS (W : World) (b0 p at' : Nat) (D E : List (List UInt8)) (u v : Value) : Prop where
  k : Blk W p 40 #[.int .i64 at', u, v]
  o : W.ownsRow b0 9 1 u D.length (D.map strV)
  n : W.ownsRow b0 9 1 v E.length (E.map strV)
  ap : Apart u v
/-- What was gathered ahead lies as it lay. -/
theorem HOwnR.stay {W W' : World} {base p : Nat} {v : Value} {ds : List HD} {cs : Array Value} (h : HOwnR W base v ds) (hk : Blk W p 40 cs) (hp : v.ownBlock ≠ some p) (hg : W.grownBy W' (some p)) : HOwnR W' base v ds := by
  obtain ⟨ts, h1, h2⟩ := h
  exact ⟨ts, h1.kept hg (.inr hp), h2.step fun v n xs h => own_blk h hk (by decide) hg⟩
/-- One hunk more. -/
theorem HOwnR.more {W W2 W3 : World} {base b0 p at' : Nat} {v v' : Value} {ds : List HD} {ts : List Hc} {D E : List (List UInt8)} {u1 u2 : Value} (hts : HcsOwn W base ts (ds.map hdI)) (hs : NowS W b0 p at' D E u1 u2) (hb : base ≤ b0) (bD : D.length ≤ 1000) (bE : E.length ≤ 1000)
    (hW2 : Below W.heap.size W W2) (hrow : W2.ownsRow base 40 3 v ds.length (ts.flatMap hcCells)) (hown : W3.ownsRow base 40 3 v' (ds.length + 1) (ts.flatMap hcCells ++ [.int .i64 at', u1, u2])) (hg : W2.grownBy W3 v.ownBlock) :
    HOwnR W3 base v' (ds ++ [(at', D, E)]) := by
  have kst : ∀ v n xs, W.ownsRow base 9 1 v n xs → W3.ownsRow base 9 1 v n xs := fun v n xs h => own_apart (by decide) (own_below h hW2) hrow hg
  refine ⟨ts ++ [((at' : Int), u1, u2)], ?_, ?_⟩
  · rw [List.flatMap_append, List.length_append]
    simpa [hcCells] using hown
  · rw [List.map_append]
    exact (hts.step kst).snoc ⟨rfl, kst _ _ _ (own_le hs.o hb), kst _ _ _ (own_le hs.n hb), bD, bE⟩
/-- Behind so many lines: what is gathered, and what is still to come. -/
structure OfI (w1 : World) (p : Nat) (x y : List (List UInt8)) (V : Value) (i j : Nat) (at' : Nat) (ds : List HD) (D E : List (List UInt8)) (u v : Value) (Wb wr : World) : Prop where
  own : HOwnR Wb w1.heap.size V ds
  far : V.ownBlock ≠ some p
  box : ∃ cs, Blk Wb p 40 cs
  grow : Wb.grownBy wr (some p)
  now : NowS wr Wb.heap.size p at' D E u v
  eq : dfG x y 0 0 [] [] = ds ++ dfG (x.drop i) (y.drop j) at' j D E
  lo : w1.heap.size + 2 ≤ Wb.heap.size
  b1 : ds.length ≤ i
  b2 : D.length ≤ i
  b3 : E.length ≤ j
  low : Below w1.heap.size w1 wr
/-- A line of the old ones more. -/
theorem OfI.left {w1 : World} {p : Nat} {x y : List (List UInt8)} {V : Value} {i j at' : Nat} {ds : List HD} {D E : List (List UInt8)} {u v u' : Value} {Wb wr W2 W3 W4 : World} {a : List UInt8} (h : OfI w1 p x y V i j at' ds D E u v Wb wr) (hp : p = w1.heap.size + 1)
    (e : dfG (x.drop i) (y.drop j) at' j D E = dfG (x.drop (i + 1)) (y.drop j) at' j (D ++ [a]) E)
    (hW2 : Below wr.heap.size wr W2) (hown : W3.ownsRow Wb.heap.size 9 1 u' (D.length + 1) (D.map strV ++ [strV a])) (hg : W2.grownBy W3 u.ownBlock) (hb : u'.ownBlock = u.ownBlock ∨ u'.ownBlock = some W2.heap.size) (h4 : W4 = W3.setCell ⟨p, 1, none⟩ u') :
    OfI w1 p x y V (i + 1) j at' ds (D ++ [a]) E u' v Wb W4 := by
  have hlo := h.lo
  have hwb := h.grow.size
  have hg2 : Wb.grownBy W2 (some p) := h.grow.trans (gb_below hW2)
  have hu : ∀ k, u.ownBlock = some k → Wb.heap.size ≤ k := fun k hk => (h.now.o.lt k hk).1
  have hg3 : Wb.grownBy W3 (some p) := hg2.andThen hg (fun k hk => .inl (hu k hk))
  have hk2 := h.now.k.below hW2
  have hkp : u.ownBlock ≠ some p := fun e => by have := hu p e; omega
  have hk3 : Blk W3 p 40 #[.int .i64 at', u, v] := (hg.block p hk2.lt (fun e => hkp e.symm)).trans hk2
  subst h4
  have hgs := gb_set W3 ⟨p, 1, none⟩ u'
  have hpb : p < Wb.heap.size := by omega
  have hne : ∀ {n : Nat} {t : Value} {xs : List Value}, W3.ownsRow Wb.heap.size 9 1 t n xs → (W3.setCell ⟨p, 1, none⟩ u').ownsRow Wb.heap.size 9 1 t n xs := fun hr => own_blk hr hk3 (by decide) hgs
  have hv2 := own_below h.now.n hW2
  have hv3 := Apart.kept h.now.ap hv2 hg
  have hlow2 : Below w1.heap.size w1 W2 := h.low.trans (hW2.mono h.low.size)
  have hlow3 : Below w1.heap.size w1 W3 := hlow2.grown hg hlow2.size (fun k hk => by have := hu k hk; omega)
  exact ⟨h.own, h.far, h.box, hg3.trans hgs, ⟨hk3.set 1 u', by rw [List.length_append, List.map_append]; exact hne hown, hne hv3, Apart.grow h.now.ap hv2 hb⟩, by rw [h.eq, e], h.lo, by have := h.b1; omega, by rw [List.length_append, List.length_singleton]; have := h.b2; omega, h.b3, hlow3.setCell (by simp only; omega) u'⟩
/-- A line of the new ones more. -/
theorem OfI.right {w1 : World} {p : Nat} {x y : List (List UInt8)} {V : Value} {i j at' : Nat} {ds : List HD} {D E : List (List UInt8)} {u v v' : Value} {Wb wr W2 W3 W4 : World} {b : List UInt8} (h : OfI w1 p x y V i j at' ds D E u v Wb wr) (hp : p = w1.heap.size + 1)
    (e : dfG (x.drop i) (y.drop j) at' j D E = dfG (x.drop i) (y.drop (j + 1)) at' (j + 1) D (E ++ [b]))
    (hW2 : Below wr.heap.size wr W2) (hown : W3.ownsRow Wb.heap.size 9 1 v' (E.length + 1) (E.map strV ++ [strV b])) (hg : W2.grownBy W3 v.ownBlock) (hb : v'.ownBlock = v.ownBlock ∨ v'.ownBlock = some W2.heap.size) (h4 : W4 = W3.setCell ⟨p, 2, none⟩ v') :
    OfI w1 p x y V i (j + 1) at' ds D (E ++ [b]) u v' Wb W4 := by
  have hlo := h.lo
  have hwb := h.grow.size
  have hg2 : Wb.grownBy W2 (some p) := h.grow.trans (gb_below hW2)
  have hu : ∀ k, v.ownBlock = some k → Wb.heap.size ≤ k := fun k hk => (h.now.n.lt k hk).1
  have hg3 : Wb.grownBy W3 (some p) := hg2.andThen hg (fun k hk => .inl (hu k hk))
  have hk2 := h.now.k.below hW2
  have hkp : v.ownBlock ≠ some p := fun e => by have := hu p e; omega
  have hk3 : Blk W3 p 40 #[.int .i64 at', u, v] := (hg.block p hk2.lt (fun e => hkp e.symm)).trans hk2
  subst h4
  have hgs := gb_set W3 ⟨p, 2, none⟩ v'
  have hne : ∀ {n : Nat} {t : Value} {xs : List Value}, W3.ownsRow Wb.heap.size 9 1 t n xs → (W3.setCell ⟨p, 2, none⟩ v').ownsRow Wb.heap.size 9 1 t n xs := fun hr => own_blk hr hk3 (by decide) hgs
  have hv2 := own_below h.now.o hW2
  have hv3 := Apart.kept h.now.ap.symm hv2 hg
  have hlow2 : Below w1.heap.size w1 W2 := h.low.trans (hW2.mono h.low.size)
  have hlow3 : Below w1.heap.size w1 W3 := hlow2.grown hg hlow2.size (fun k hk => by have := hu k hk; omega)
  exact ⟨h.own, h.far, h.box, hg3.trans hgs, ⟨hk3.set 2 v', hne hv3, by rw [List.length_append, List.map_append]; exact hne hown, (Apart.grow h.now.ap.symm hv2 hb).symm⟩, by rw [h.eq, e], h.lo, h.b1, h.b2, by rw [List.length_append, List.length_singleton]; have := h.b3; omega, hlow3.setCell (by simp only; omega) v'⟩
/-- The hunks gathered so far, as they lie now. -/
theorem OfI.row {w1 : World} {p : Nat} {x y : List (List UInt8)} {V : Value} {i j at' : Nat} {ds : List HD} {D E : List (List UInt8)} {u v : Value} {Wb wr : World} (h : OfI w1 p x y V i j at' ds D E u v Wb wr) : HOwnR wr w1.heap.size V ds := by
  obtain ⟨cs, hk⟩ := h.box
  exact h.own.stay hk h.far h.grow
/-- What was gathered is set aside, and a new place begins. -/
theorem OfI.begin {w1 : World} {p : Nat} {x y : List (List UInt8)} {V : Value} {i j : Nat} {ds : List HD} {W3 W4 : World} {cs : Array Value} (hp : p = w1.heap.size + 1) (ho : HOwnR W3 w1.heap.size V ds) (hf : V.ownBlock ≠ some p) (hk : Blk W3 p 40 cs) (hcs : cs.size = 3) (hl : Below w1.heap.size w1 W3)
    (eq : dfG x y 0 0 [] [] = ds ++ dfG (x.drop i) (y.drop j) j j [] []) (b1 : ds.length ≤ i) (h4 : W4 = ((W3.setCell ⟨p, 0, none⟩ (.int .i64 j)).setCell ⟨p, 1, none⟩ (.slice none 0 0)).setCell ⟨p, 2, none⟩ (.slice none 0 0)) :
    OfI w1 p x y V i j j ds [] [] (.slice none 0 0) (.slice none 0 0) W4 W4 := by
  have g1 := gb_set W3 ⟨p, 0, none⟩ (.int .i64 j)
  have g2 := gb_set (W3.setCell ⟨p, 0, none⟩ (.int .i64 j)) ⟨p, 1, none⟩ (.slice none 0 0)
  have g3 := gb_set ((W3.setCell ⟨p, 0, none⟩ (.int .i64 j)).setCell ⟨p, 1, none⟩ (.slice none 0 0)) ⟨p, 2, none⟩ (.slice none 0 0)
  have hg : W3.grownBy W4 (some p) := by rw [h4]; exact (g1.trans g2).trans g3
  have hk4 : Blk W4 p 40 #[.int .i64 j, .slice none 0 0, .slice none 0 0] := by
    rw [h4]
    have := ((hk.set 0 (.int .i64 j)).set 1 (.slice none 0 0)).set 2 (.slice none 0 0)
    match cs, hcs with
    | ⟨[a, b, c]⟩, _ => exact this
  have hlt := hk.lt
  refine ⟨ho.stay hk hf hg, hf, ⟨_, hk4⟩, World.grownBy.refl _ _, ⟨hk4, World.ownsRow_nil _ _ _ _, World.ownsRow_nil _ _ _ _, .inl rfl⟩, eq, by have := hg.size; omega, b1, by simp, by simp, ?_⟩
  exact hl.grown hg hl.size (fun k e => by cases e; omega)
end Go.Proofs.Ytplcfdmehnilnaa

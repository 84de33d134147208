
/- disk: a disk as data; what reads it; a step of no fuse; what is kept of a write. -/
import Derived.Test.YtkbokffonnjjiaaDk4
set_option linter.unusedSimpArgs false
set_option linter.unusedVariables false
namespace Go.Proofs.Ytkbokffonnjjiaa
open Go.RowKit Go.Qc Go.Shelf
attribute [local go_sem] txt_size txt_append ib_fold
theorem own_apart2 {W : World} {b1 b2 n m s1 s2 : Nat} {e1 e2 : TypeId} {v u : Value} {xs ys : List Value} (h : W.ownsRow b1 e1 s1 v n xs) (k : W.ownsRow b2 e2 s2 u m ys) (he : e1 ≠ e2) : v.ownBlock = none ∨ v.ownBlock ≠ u.ownBlock := by
  rcases h.2 with ⟨rfl, _⟩ | ⟨g, c, cur, rfl, _, hg, _⟩
  · exact .inl rfl
  · right
    rcases k.2 with ⟨rfl, _⟩ | ⟨g', c', cur', rfl, _, hg', _⟩
    · intro e; cases e
    · intro e
      have e2 : g = g' := Option.some.inj e
      subst e2
      have e3 := Option.some.inj (hg.symm.trans hg')
      injection e3 with _ e4 _
      exact he e4
theorem blk_off {W : World} {D b n s : Nat} {T e : TypeId} {cs : Array Value} {v : Value} {xs : List Value} (h : Blk W D T cs) (k : W.ownsRow b e s v n xs) (he : T ≠ e) : some D ≠ v.ownBlock := by
  rcases k.2 with ⟨rfl, _⟩ | ⟨g', c', cur', rfl, _, hg', _⟩
  · intro e; cases e
  · intro e
    have e2 : D = g' := Option.some.inj e
    subst e2
    have e3 := Option.some.inj (h.symm.trans hg')
    injection e3 with _ e4 _
    exact he e4
/-- The rows of a disk. -/
structure DkR (base : Nat) (kv sv wv : Value) (k s : List UInt8) (ws : List WrD) (W : World) : Prop where
  k : ByOw W base kv k
  s : ByOw W base sv s
  q : WrOw W base wv ws.length ws
  ap : kv.ownBlock = none ∨ kv.ownBlock ≠ sv.ownBlock
  bs : base ≤ W.heap.size
/-- A disk without a fuse. -/
structure DkS (base D : Nat) (kv sv wv : Value) (k s : List UInt8) (ws : List WrD) (dn : Bool) (W : World) : Prop where
  x : Blk W D 111 #[kv, sv, wv, .pointer none, .bool dn]
  r : DkR base kv sv wv k s ws W
  bd : base ≤ D
section
variable {base D : Nat} {kv sv wv kv' sv' wv' : Value} {k s k' s' : List UInt8} {ws ws' : List WrD} {dn dn' : Bool} {W W' : World}
theorem DkR.below (h : DkR base kv sv wv k s ws W) (hb : Below W.heap.size W W') : DkR base kv sv wv k s ws W' := ⟨h.k.below hb, h.s.below hb, h.q.below hb, h.ap, Nat.le_trans h.bs hb.size⟩
theorem DkS.below (h : DkS base D kv sv wv k s ws dn W) (hb : Below W.heap.size W W') : DkS base D kv sv wv k s ws dn W' := ⟨h.x.below hb, h.r.below hb, h.bd⟩
/-- Another row of what is seen. -/
theorem DkR.seen (h : DkR base kv sv wv k s ws W) (hg : W.grownBy W' sv.ownBlock) (hs : ByOw W' base sv' s') (hv : sv'.ownBlock = sv.ownBlock ∨ ∃ g, sv'.ownBlock = some g ∧ W.heap.size ≤ g) : DkR base kv sv' wv k s' ws W' :=
  ⟨World.ownsRow.kept h.k hg h.ap, hs, World.ownsRow.kept h.q hg (own_apart2 h.q h.s (by decide)), by
    rcases h.ap with e | e
    · exact .inl e
    · rcases hv with hv | ⟨g, hv, hgg⟩
      · right; rw [hv]; exact e
      · right
        rw [hv]
        intro e2
        have := (World.ownsRow.lt h.k g e2).2
        omega, Nat.le_trans h.bs hg.size⟩
/-- Another row of what is kept. -/
theorem DkR.kept (h : DkR base kv sv wv k s ws W) (hg : W.grownBy W' kv.ownBlock) (hk : ByOw W' base kv' k') (hv : kv'.ownBlock = kv.ownBlock ∨ ∃ g, kv'.ownBlock = some g ∧ W.heap.size ≤ g) : DkR base kv' sv wv k' s ws W' := by
  have hap : sv.ownBlock = none ∨ sv.ownBlock ≠ kv.ownBlock := by
    rcases h.ap with e | e
    · by_cases h0 : sv.ownBlock = none
      · exact .inl h0
      · right; rw [e]; exact h0
    · exact .inr e.symm
  refine ⟨hk, World.ownsRow.kept h.s hg hap, World.ownsRow.kept h.q hg (own_apart2 h.q h.k (by decide)), ?_, Nat.le_trans h.bs hg.size⟩
  rcases hv with hv | ⟨g, hv, hgg⟩
  · rw [hv]; exact h.ap
  · right
    rw [hv]
    intro e2
    have := (World.ownsRow.lt h.s g e2.symm).2
    omega
/-- Another row of what waits. -/
theorem DkR.waits (h : DkR base kv sv wv k s ws W) (hg : W.grownBy W' wv.ownBlock) (hq : WrOw W' base wv' ws'.length ws') : DkR base kv sv wv' k s ws' W' :=
  ⟨World.ownsRow.kept h.k hg (own_apart2 h.k h.q (by decide)), World.ownsRow.kept h.s hg (own_apart2 h.s h.q (by decide)), hq, h.ap, Nat.le_trans h.bs hg.size⟩
/-- The disk's own cells are stored. -/
theorem DkR.box (h : DkR base kv sv wv k s ws W) {cs : Array Value} (hx : Blk W D 111 cs) (hg : W.grownBy W' (some D)) : DkR base kv sv wv k s ws W' := by
  have a1 := blk_off hx h.k (by decide)
  have a2 := blk_off hx h.s (by decide)
  have a3 := blk_off hx h.q (by decide)
  exact ⟨World.ownsRow.kept h.k hg (.inr a1.symm), World.ownsRow.kept h.s hg (.inr a2.symm), World.ownsRow.kept h.q hg (.inr a3.symm), h.ap, Nat.le_trans h.bs hg.size⟩
theorem DkS.boxed (h : DkS base D kv sv wv k s ws dn W) {r : Option Nat} (hr : some D ≠ r) (hg : W.grownBy W' r) : Blk W' D 111 #[kv, sv, wv, .pointer none, .bool dn] := (hg.block D h.x.lt hr).trans h.x
end
/-- Only what is from a block on may have changed. -/
theorem below_of_gbr {base : Nat} {W W' : World} {r : Option Nat} (hg : W.grownBy W' r) (hr : ∀ g, r = some g → base ≤ g) (hb : base ≤ W.heap.size) : Below base W W' :=
  ⟨hg.os, hg.tape, hg.output, hg.size, fun i hi => hg.block i (by omega) (fun e => by have := hr i e.symm; omega)⟩
set_option maxRecDepth 100000 in
set_option maxHeartbeats 8000000 in
theorem dlen_any (base D : Nat) (kv sv wv : Value) (k s : List UInt8) (ws : List WrD) (dn : Bool) (W : World) (h : DkS base D kv sv wv k s ws dn W) :
    Calls Try.prog 28 #[.pointer (some ⟨D, 0, none⟩)] W fun e w' => e = .returned (.int .i64 (s.length : Int)) ∧ W = w' := by
  have f1 := h.x.cell_ (i := 1) rfl
  obtain ⟨A, c, rfl⟩ := h.r.s.sl
  clear h
  go_enter Try.func28, Try.ntmps28
  go_wp2_with (fail)
  go_ret
  exact ⟨rfl, rfl⟩
theorem by_text {W : World} {base : Nat} {v : Value} {l : List UInt8} (h : ByOw W base v l) : (convert 107 9 v).run Try.prog W = .ok (.string (txt l)) W := by
  rcases h.2 with ⟨rfl, h0⟩ | ⟨g, c, cur, rfl, _⟩
  · obtain rfl : l = [] := List.eq_nil_of_length_eq_zero h0
    exact run_txt (P := Try.prog) W 107 9 5 _ 0 0 [] Try.underlying107 Try.underlying5 Try.underlying9 rfl (.inl rfl)
  · exact run_txt (P := Try.prog) W 107 9 5 _ l.length c l Try.underlying107 Try.underlying5 Try.underlying9 rfl (.inr ⟨⟨g, 0, none⟩, rfl, fun j u hj => World.ownsRow.cells h rfl j u hj⟩)
set_option maxRecDepth 100000 in
set_option maxHeartbeats 8000000 in
theorem dall_any (base D : Nat) (kv sv wv : Value) (k s : List UInt8) (ws : List WrD) (dn : Bool) (W : World) (h : DkS base D kv sv wv k s ws dn W) :
    Calls Try.prog 32 #[.pointer (some ⟨D, 0, none⟩)] W fun e w' => e = .returned (.string (txt s)) ∧ W = w' := by
  have f1 := h.x.cell_ (i := 1) rfl
  have hc := by_text h.r.s
  clear h
  generalize txt s = S at *
  go_enter Try.func32, Try.ntmps32
  go_wp2_with (fail)
  go_ret
  exact ⟨rfl, rfl⟩
set_option maxRecDepth 100000 in
set_option maxHeartbeats 8000000 in
theorem dkept_any (base D : Nat) (kv sv wv : Value) (k s : List UInt8) (ws : List WrD) (dn : Bool) (W : World) (h : DkS base D kv sv wv k s ws dn W) :
    Calls Try.prog 30 #[.pointer (some ⟨D, 0, none⟩)] W fun e w' => e = .returned (.string (txt k)) ∧ W = w' := by
  have f1 := h.x.cell_ (i := 0) rfl
  have hc := by_text h.r.k
  clear h
  generalize txt k = S at *
  go_enter Try.func30, Try.ntmps30
  go_wp2_with (fail)
  go_ret
  exact ⟨rfl, rfl⟩
set_option maxRecDepth 100000 in
set_option maxHeartbeats 8000000 in
theorem ddown_any (base D : Nat) (kv sv wv : Value) (k s : List UInt8) (ws : List WrD) (dn : Bool) (W : World) (h : DkS base D kv sv wv k s ws dn W) :
    Calls Try.prog 71 #[.pointer (some ⟨D, 0, none⟩)] W fun e w' => e = .returned (.bool dn) ∧ W = w' := by
  have f1 := h.x.cell_ (i := 4) rfl
  clear h
  go_enter Try.func71, Try.ntmps71
  go_wp2_with (fail)
  go_ret
  exact ⟨rfl, rfl⟩
set_option maxRecDepth 100000 in
set_option maxHeartbeats 8000000 in
theorem dburn_any (base D : Nat) (kv sv wv : Value) (k s : List UInt8) (ws : List WrD) (dn : Bool) (W : World) (h : DkS base D kv sv wv k s ws dn W) :
    Calls Try.prog 112 #[.pointer (some ⟨D, 0, none⟩)] W fun e w' => e = .returned (.int .i64 0) ∧ W = w' := by
  have f1 := h.x.cell_ (i := 3) rfl
  clear h
  go_enter Try.func112, Try.ntmps112
  go_wp2_with (fail)
  go_ret
  exact ⟨rfl, rfl⟩
set_option maxRecDepth 100000 in
set_option maxHeartbeats 8000000 in
theorem dnew_any (W : World) :
    Calls Try.prog 25 #[] W fun e w' => ∃ D, e = .returned (.pointer (some ⟨D, 0, none⟩)) ∧ DkS W.heap.size D (.slice none 0 0) (.slice none 0 0) (.slice none 0 0) [] [] [] false w' ∧ Below W.heap.size W w' := by
  go_enter Try.func25, Try.ntmps25
  go_wp2_with (fail)
  go_ret
  exact ⟨_, rfl, ⟨Blk.new _ _ _, ⟨ByOw.nil _ _, ByOw.nil _ _, WrOw.nil _ _, .inl rfl, by simp⟩, Nat.le_refl _⟩, (Below.refl _ _).alloc (Nat.le_refl _) _⟩
/-- How many bytes are left of a write. -/
def keepN (cnt : Int) (size : Nat) (torn : Bool) : Nat := if torn then 0 else min (max cnt 0).toNat size
set_option maxRecDepth 100000 in
set_option maxHeartbeats 8000000 in
theorem keeps_any (m : Value) (cnt : Int) (size : Nat) (torn : Bool) (W : World) (h1 : m.oneCell' = true) (hm : m.cells = #[m]) :
    Calls Try.prog 113 #[.agg #[m, .int .i64 cnt], .int .i64 (size : Int), .bool torn] W fun e w' => e = .returned (.int .i64 (keepN cnt size torn : Int)) ∧ Below W.heap.size W w' := by
  have hb := (Below.refl W.heap.size W).alloc (Nat.le_refl _) (.cells #[m, .int .i64 cnt] 122)
  have e1 : min (max cnt 0) (size : Int) = (keepN cnt size false : Int) := by unfold keepN; simp only [Bool.false_eq_true, if_false]; omega
  cases torn
  · go_enter Try.func113, Try.ntmps113
    go_wp2_with (fail)
    go_ret
    exact ⟨rfl, hb⟩
  · go_enter Try.func113, Try.ntmps113
    go_wp2_with (fail)
    go_ret
    exact ⟨rfl, hb⟩
end Go.Proofs.Ytkbokffonnjjiaa

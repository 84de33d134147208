
/- signer, bytes: readings of the program and of the document; what is written; reading back. -/
import Derived.Test.YthpdkdalfjahcaaRrA
import Derived.Test.YthpdkdalfjahcaaPkW
import Derived.Lib.AppendStr
import Derived.Lib.Builder
import Derived.Test.YthpdkdalfjahcaaPkT
set_option linter.unusedSimpArgs false
set_option linter.unusedVariables false
namespace Go.Proofs.Ythpdkdalfjahcaa
open Go.RowKit Go.Qc Go.Shelf
attribute [local go_sem] txt_size txt_append ib_fold

/-- Where a reader is, and what is wrong, behind a number, a row of ids; what is read. -/
def stN (s : List UInt8) (a : Nat) (e : Int) : Nat × Int := if e = 0 then (match scanN 0 0 (s.drop a) with | .ok (_, n) => (a + n, 0) | .error e' => (a, e')) else (a, e)
def vaN (s : List UInt8) (a : Nat) (e : Int) : Nat := if e = 0 then (match scanN 0 0 (s.drop a) with | .ok (v, _) => v | .error _ => 0) else 0
def stI (most : Int) (s : List UInt8) (a : Nat) (e : Int) : Nat × Int := if e = 0 then (match rowsR idR most (s.drop a) with | .ok (_, n) => (a + n, 0) | .error e' => (a, e')) else (a, e)
def vaI (most : Int) (s : List UInt8) (a : Nat) (e : Int) : List (List UInt8) := if e = 0 then (match rowsR idR most (s.drop a) with | .ok (L, _) => L | .error _ => []) else []
theorem pkNum_old (g : Nat) (s : List UInt8) (a : Nat) (e : Int) (he : e ≠ 0) (w : World) (hr : Rdr g s a e w) :
    Calls Try.prog 35 #[.pointer (some ⟨g, 0, none⟩)] w fun o w' => o = .returned (.int .i64 0) ∧ Step g s a e w w' := by
  have hg := enters_of Try.func72 (by kernel_rfl) rfl
  have c2 := hr.c2
  have hne : (e != 0) = true := by simpa using he
  have cR : Calls Try.prog 71 #[.pointer (some ⟨g, 0, none⟩), .func (.func 72) #[.pointer (some ⟨g, 0, none⟩)] #[]] w fun o w' => o = .returned (.int .i64 0) ∧ Step g s a e w w' := by
    go_enter Try.func71, Try.ntmps71
    go_wp2
    go_ret
    exact ⟨rfl, Step.same hr⟩
  go_enter Try.func35, Try.ntmps35
  go_wp2_with (first
    | (go_at_call 71; (with_reducible refine cR.mono ?_); rintro o1 w1 ⟨rfl, h1⟩))
  go_ret
  exact ⟨rfl, h1⟩
set_option maxHeartbeats 4000000 in
theorem pkIds_old (g : Nat) (s : List UInt8) (a : Nat) (e most : Int) (he : e ≠ 0) (w : World) (hr : Rdr g s a e w) :
    Calls Try.prog 39 #[.pointer (some ⟨g, 0, none⟩), .int .i64 most] w fun o w' => o = .returned (.slice none 0 0) ∧ Step g s a e w w' := by
  have hne : (e != 0) = true := by simpa using he
  have hk : (w.alloc (.cells #[.pointer (some ⟨g, 0, none⟩)] 51)).heap.size = w.heap.size + 1 := by simp
  have b1 := (Blk.new w 51 #[.pointer (some ⟨g, 0, none⟩)]).alloc (.cells #[.int .i64 most] 3)
  have hr2 : Rdr g s a e ((w.alloc (.cells #[.pointer (some ⟨g, 0, none⟩)] 51)).alloc (.cells #[.int .i64 most] 3)) := (Blk.alloc hr _).alloc _
  have hB : Below w.heap.size w ((w.alloc (.cells #[.pointer (some ⟨g, 0, none⟩)] 51)).alloc (.cells #[.int .i64 most] 3)) := ((Below.refl _ w).alloc (Nat.le_refl _) _).alloc (by simp) _
  have hst : Step g s a e w ((w.alloc (.cells #[.pointer (some ⟨g, 0, none⟩)] 51)).alloc (.cells #[.int .i64 most] 3)) := (Step.same hr).below hB
  have cR : Calls Try.prog 82 #[.pointer (some ⟨g, 0, none⟩), .func (.func 83) #[] #[.pointer (some ⟨w.heap.size, 0, none⟩), .pointer (some ⟨w.heap.size + 1, 0, none⟩)]] ((w.alloc (.cells #[.pointer (some ⟨g, 0, none⟩)] 51)).alloc (.cells #[.int .i64 most] 3)) fun o w' => o = .returned (.slice none 0 0) ∧ Step g s a e ((w.alloc (.cells #[.pointer (some ⟨g, 0, none⟩)] 51)).alloc (.cells #[.int .i64 most] 3)) w' := by
    generalize (w.alloc (.cells #[.pointer (some ⟨g, 0, none⟩)] 51)).alloc (.cells #[.int .i64 most] 3) = W at *
    have c2 := hr2.c2
    go_enter Try.func82, Try.ntmps82
    go_wp2
    go_ret
    exact ⟨rfl, Step.same hr2⟩
  have e1 : ((w.alloc (.cells #[.pointer (some ⟨g, 0, none⟩)] 51)).alloc (.cells #[.int .i64 most] 3)).cell? ⟨w.heap.size, 0, none⟩ = some (.pointer (some ⟨g, 0, none⟩)) := b1.cell_ rfl
  clear b1 hr2 hk hB
  go_enter Try.func39, Try.ntmps39
  go_wp2_with (first
    | (go_at_call 82; (with_reducible refine cR.mono ?_); rintro o1 w1 ⟨rfl, h1⟩))
  go_ret
  exact ⟨rfl, hst.trans h1⟩
theorem stN_le (s : List UInt8) (a : Nat) (e : Int) (ha : a ≤ s.length) : (stN s a e).1 ≤ s.length := by
  unfold stN
  split
  · cases h : scanN 0 0 (s.drop a) with
    | ok p => exact scanN_len s a p.1 p.2 h ha
    | error e => exact ha
  · exact ha
theorem pkNumT (g : Nat) (s : List UInt8) (a : Nat) (e : Int) (hs : s.length ≤ 1000000000000) (ha : a ≤ s.length) (w : World) (hr : Rdr g s a e w) :
    Calls Try.prog 35 #[.pointer (some ⟨g, 0, none⟩)] w fun o w' => o = .returned (.int .i64 (vaN s a e)) ∧ Step g s (stN s a e).1 (stN s a e).2 w w' := by
  unfold vaN stN
  by_cases he : e = 0
  · subst he
    rw [if_pos rfl, if_pos rfl]
    have := pkNum_any g s a hs ha w hr
    cases h : scanN 0 0 (s.drop a) with
    | ok p => rw [h] at this; exact this
    | error e => rw [h] at this; exact this.mono (by rintro o w' ⟨h1, _, h2⟩; exact ⟨h1, h2⟩)
  · rw [if_neg he, if_neg he]
    exact pkNum_old g s a e he w hr
theorem rowR_len (item : List UInt8 → Except Int (List UInt8 × Nat)) : ∀ (n : Nat) (l : List UInt8) (L : List (List UInt8)) (k : Nat), rowR item n l = .ok (L, k) → L.length = n := by
  intro n
  induction n with
  | zero => intro l L k h; rw [rowR] at h; injection h with h; injection h with h1 _; subst h1; rfl
  | succ n ih =>
    intro l L k h
    rw [rowR] at h
    split at h
    · cases h
    · rename_i x m _
      split at h
      · cases h
      · rename_i xs m2 h2
        injection h with h
        injection h with h1 _
        subst h1
        rw [List.length_cons, ih _ _ _ h2]
theorem pkIdsT (g : Nat) (s : List UInt8) (a : Nat) (e most : Int) (hs : s.length ≤ 1000000000000) (ha : a ≤ s.length) (w : World) (hr : Rdr g s a e w) :
    Calls Try.prog 39 #[.pointer (some ⟨g, 0, none⟩), .int .i64 most] w fun o w' => ∃ v, o = .returned v ∧ w'.ownsRow w.heap.size 24 32 v (vaI most s a e).length (idsV (vaI most s a e)) ∧ (∀ x ∈ vaI most s a e, x.length = 32) ∧ (stI most s a e).1 ≤ s.length ∧ Step g s (stI most s a e).1 (stI most s a e).2 w w' := by
  unfold vaI stI
  by_cases he : e = 0
  · subst he
    rw [if_pos rfl, if_pos rfl]
    have := pkIdsR_any g s a most hs ha w hr
    cases h : rowsR idR most (s.drop a) with
    | ok p => rw [h] at this; exact this
    | error e => rw [h] at this; exact this.mono (by rintro o w' ⟨h1, _, h2⟩; exact ⟨_, h1, World.ownsRow_nil _ _ _ _, by simp, ha, h2⟩)
  · rw [if_neg he, if_neg he]
    exact (pkIds_old g s a e most he w hr).mono (by rintro o w' ⟨h1, h2⟩; exact ⟨_, h1, World.ownsRow_nil _ _ _ _, by simp, ha, h2⟩)
theorem rGetNumT (s : List UInt8) (a : Nat) (e : Int) (hs : s.length ≤ 1000000000000) (ha : a ≤ s.length) (w : World) :
    Calls Try.prog 92 #[rv s a e] w fun o w' => o = .returned (.tuple #[rv s (stN s a e).1 (stN s a e).2, .int .i64 (vaN s a e)]) ∧ Below w.heap.size w w' := by
  unfold vaN stN
  by_cases he : e = 0
  · subst he
    rw [if_pos rfl, if_pos rfl]
    have := rGetNum_any s a hs ha w
    cases h : scanN 0 0 (s.drop a) with
    | ok p => rw [h] at this; exact this
    | error e => rw [h] at this; exact this.mono (by rintro o w' ⟨h1, _, h2⟩; exact ⟨h1, h2⟩)
  · rw [if_neg he, if_neg he]
    exact rGetNum_old s a e he w
theorem rGetIdsT (s : List UInt8) (a : Nat) (e most : Int) (hs : s.length ≤ 1000000000000) (ha : a ≤ s.length) (w : World) :
    Calls Try.prog 93 #[rv s a e, .int .i64 most] w fun o w' => ∃ v, o = .returned (.tuple #[rv s (stI most s a e).1 (stI most s a e).2, v]) ∧ w'.ownsRow w.heap.size 24 32 v (vaI most s a e).length (idsV (vaI most s a e)) ∧ (∀ x ∈ vaI most s a e, x.length = 32) ∧ (stI most s a e).1 ≤ s.length ∧ Below w.heap.size w w' := by
  unfold vaI stI
  by_cases he : e = 0
  · subst he
    rw [if_pos rfl, if_pos rfl]
    have := rGetIds_any s a most hs ha w
    cases h : rowsR idR most (s.drop a) with
    | ok p => rw [h] at this; exact this
    | error e => rw [h] at this; exact this.mono (by rintro o w' ⟨h1, _, h2⟩; exact ⟨_, h1, World.ownsRow_nil _ _ _ _, by simp, ha, h2⟩)
  · rw [if_neg he, if_neg he]
    exact (rGetIds_old s a e most he w).mono (by rintro o w' ⟨h1, h2⟩; exact ⟨_, h1, World.ownsRow_nil _ _ _ _, by simp, ha, h2⟩)
end Go.Proofs.Ythpdkdalfjahcaa

namespace Go.Proofs.Ythpdkdalfjahcaa
open Go.RowKit Go.Qc Go.Shelf
attribute [local go_sem] txt_size txt_append ib_fold

def q1 (s : List UInt8) (a : Nat) := stN s a 0
def q2 (s : List UInt8) (a : Nat) := stI 256 s (q1 s a).1 (q1 s a).2
def q3 (s : List UInt8) (a : Nat) := stI 256 s (q2 s a).1 (q2 s a).2
def q4 (s : List UInt8) (a : Nat) := stI 10 s (q3 s a).1 (q3 s a).2
def sbL (s : List UInt8) (a : Nat) := vaN s a 0
def sbA (s : List UInt8) (a : Nat) := vaI 256 s (q1 s a).1 (q1 s a).2
def sbB (s : List UInt8) (a : Nat) := vaI 256 s (q2 s a).1 (q2 s a).2
def sbC (s : List UInt8) (a : Nat) := vaI 10 s (q3 s a).1 (q3 s a).2
theorem own_sl {W : World} {base n : Nat} {v : Value} {L : List (List UInt8)} (h : W.ownsRow base 24 32 v n (idsV L)) : ∃ A c, v = .slice A n c := by
  rcases h.2 with ⟨rfl, h0⟩ | ⟨g, cap, cur, rfl, _⟩
  · subst h0; exact ⟨_, _, rfl⟩
  · exact ⟨_, _, rfl⟩
theorem infoSig4 : (Try.prog.info? 63).map (·.size) = some 4 := by kernel_rfl
theorem wpList_store_sg {w : World} {ops : Array Oper} {rest : List Oper} {o : Oper} {a : Act} {Q : Exit → Act → World → Prop} (hgd : o.guard = none) (x y : Operand) (ho : o.op = .store 63 x y) (g : Nat) (old : Array Value) (u : Int) (A B C : Option Addr) (n c m d p q : Nat)
    (hg : Blk w g 63 old) (hold : old.size = 4) (hx : a.eval x = .pointer (some ⟨g, 0, none⟩)) (hy : a.eval y = .agg #[.int .i64 u, .slice A n c, .slice B m d, .slice C p q])
    (h : ∀ w', Blk w' g 63 #[.int .i64 u, .slice A n c, .slice B m d, .slice C p q] → w.grownBy w' (some g) → wpList Try.prog ops Q rest (a.put o.dst undef) w') : wpList Try.prog ops Q (o :: rest) a w :=
  wpList_store_blk hgd 63 x y ho g old _ 63 hg hx hy infoSig4 (by rw [hold]; rfl) (by simp [Value.oneCell']) h
theorem own_sg {W W' : World} {base n g : Nat} {v : Value} {xs : List Value} {cs : Array Value} (h : W.ownsRow base 24 32 v n xs) (hb : Blk W g 63 cs) (hg : W.grownBy W' (some g)) : W'.ownsRow base 24 32 v n xs := by
  refine h.kept hg ?_
  rcases h.2 with ⟨rfl, _⟩ | ⟨g2, cap, cur, rfl, _, h2, _⟩
  · exact .inl rfl
  · right
    intro e
    obtain rfl : g2 = g := by simpa [Value.ownBlock] using e
    have := h2.symm.trans (show W.heap[g2]? = _ from hb)
    simp at this
/-- What a reading of a signature leaves: what was read, or zeros. -/
def SgP (g : Nat) (s : List UInt8) (xL : Nat) (xA xB xC : List (List UInt8)) (a4 : Nat) (e4 : Int) (w : World) (o : Ending) (w' : World) : Prop :=
  ∃ A c B d C q, o = .returned (.agg (if e4 = 0 then #[.int .i64 xL, .slice A xA.length c, .slice B xB.length d, .slice C xC.length q] else #[.int .i64 0, .slice none 0 0, .slice none 0 0, .slice none 0 0])) ∧ w'.ownsRow w.heap.size 24 32 (.slice A xA.length c) xA.length (idsV xA) ∧ w'.ownsRow w.heap.size 24 32 (.slice B xB.length d) xB.length (idsV xB) ∧ w'.ownsRow w.heap.size 24 32 (.slice C xC.length q) xC.length (idsV xC) ∧ ((∀ x ∈ xA, x.length = 32) ∧ (∀ x ∈ xB, x.length = 32) ∧ (∀ x ∈ xC, x.length = 32)) ∧ a4 ≤ s.length ∧ Step g s a4 e4 w w'
set_option maxHeartbeats 40000000 in
theorem sget_any (g : Nat) (s : List UInt8) (a : Nat) (hs : s.length ≤ 1000000000000) (ha : a ≤ s.length) (w : World) (hr : Rdr g s a 0 w) :
    Calls Try.prog 46 #[.pointer (some ⟨g, 0, none⟩)] w fun o w' => SgP g s (sbL s a) (sbA s a) (sbB s a) (sbC s a) (q4 s a).1 (q4 s a).2 w o w' := by
  have hgl := hr.lt
  have r0 : Rdr g s a 0 (w.alloc (.cells #[.int .i64 0, .slice none 0 0, .slice none 0 0, .slice none 0 0] 63)) := Blk.alloc hr _
  have b0 := Blk.new w 63 #[.int .i64 0, .slice none 0 0, .slice none 0 0, .slice none 0 0]
  have hz0 : (w.alloc (.cells #[.int .i64 0, .slice none 0 0, .slice none 0 0, .slice none 0 0] 63)).heap.size = w.heap.size + 1 := by simp
  have s0 : Step g s a 0 w (w.alloc (.cells #[.int .i64 0, .slice none 0 0, .slice none 0 0, .slice none 0 0] 63)) := (Step.same hr).below ((Below.refl _ w).alloc (Nat.le_refl _) _)
  have c1 := pkNumT g s a 0 hs ha _ r0
  have c2 := fun W h => pkIdsT g s (q1 s a).1 (q1 s a).2 256 hs (stN_le s a 0 ha) W h
  have c3 := fun W hl h => pkIdsT g s (q2 s a).1 (q2 s a).2 256 hs hl W h
  have c4 := fun W hl h => pkIdsT g s (q3 s a).1 (q3 s a).2 10 hs hl W h
  rw [show vaN s a 0 = sbL s a from rfl, show stN s a 0 = q1 s a from rfl] at c1
  rw [show stI 256 s (q1 s a).1 (q1 s a).2 = q2 s a from rfl, show vaI 256 s (q1 s a).1 (q1 s a).2 = sbA s a from rfl] at c2
  rw [show stI 256 s (q2 s a).1 (q2 s a).2 = q3 s a from rfl, show vaI 256 s (q2 s a).1 (q2 s a).2 = sbB s a from rfl] at c3
  rw [show stI 10 s (q3 s a).1 (q3 s a).2 = q4 s a from rfl, show vaI 10 s (q3 s a).1 (q3 s a).2 = sbC s a from rfl] at c4
  generalize q1 s a = p1 at *
  generalize q2 s a = p2 at *
  generalize q3 s a = p3 at *
  generalize q4 s a = p4 at *
  generalize sbL s a = xL at *
  generalize sbA s a = xA at *
  generalize sbB s a = xB at *
  generalize sbC s a = xC at *
  obtain ⟨a4, e4⟩ := p4
  simp only
  go_enter Try.func46, Try.ntmps46
  go_wp2_with (first
    | (go_at_call 35; (with_reducible refine c1.mono ?_); rintro o1 w1 ⟨rfl, h1⟩; have t1 := s0.trans h1; have d1 := blk_gb b0 h1.gb (by omega); have c2' := c2 w1 h1.r)
    | (go_at_call 39; (with_reducible refine c2'.mono ?_); rintro o2 w2 ⟨v2, rfl, ho2, h32a, hl2, h2⟩; obtain ⟨A2, n2, rfl⟩ := own_sl ho2; replace ho2 := own_base ho2 t1.gb.size; have t2 := t1.trans h2; have d2 := blk_gb d1 h2.gb (by omega); have c3' := c3 w2 hl2 h2.r)
    | (go_at_call 39; (with_reducible refine c3'.mono ?_); rintro o3 w3 ⟨v3, rfl, ho3, h32b, hl3, h3⟩; obtain ⟨A3, n3, rfl⟩ := own_sl ho3; replace ho3 := own_base ho3 t2.gb.size; have ho2b := ho2.kept h3.gb (own_ne_low ho2 hgl); have t3 := t2.trans h3; have d3 := blk_gb d2 h3.gb (by omega); have c4' := c4 w3 hl3 h3.r)
    | (go_at_call 39; (with_reducible refine c4'.mono ?_); rintro o4 w4 ⟨v4, rfl, ho4, h32c, hl4, h4⟩; obtain ⟨A4, n4, rfl⟩ := own_sl ho4; replace ho4 := own_base ho4 t3.gb.size; have ho2c := ho2b.kept h4.gb (own_ne_low ho2b hgl); have ho3c := ho3.kept h4.gb (own_ne_low ho3 hgl); have t4 : Step g s a4 e4 w w4 := t3.trans h4; have d4 := blk_gb d3 h4.gb (by omega); have hE : Rdr g s a4 e4 w4 := h4.r)
    | (go_at_call 50; fail))
  have hE' : Rdr g s a4 e4 (w4.alloc (.cells #[.int .i64 xL, .slice A2 xA.length n2, .slice A3 xB.length n3, .slice A4 xC.length n4] 63)) := Blk.alloc hE _
  have d4' := d4.alloc (.cells #[.int .i64 xL, .slice A2 xA.length n2, .slice A3 xB.length n3, .slice A4 xC.length n4] 63)
  have t4' : Step g s a4 e4 w (w4.alloc (.cells #[.int .i64 xL, .slice A2 xA.length n2, .slice A3 xB.length n3, .slice A4 xC.length n4] 63)) := t4.below ((Below.refl _ w4).alloc (Nat.le_refl _) _)
  have ho2d := ho2c.alloc (.cells #[.int .i64 xL, .slice A2 xA.length n2, .slice A3 xB.length n3, .slice A4 xC.length n4] 63)
  have ho3d := ho3c.alloc (.cells #[.int .i64 xL, .slice A2 xA.length n2, .slice A3 xB.length n3, .slice A4 xC.length n4] 63)
  have ho4d := ho4.alloc (.cells #[.int .i64 xL, .slice A2 xA.length n2, .slice A3 xB.length n3, .slice A4 xC.length n4] 63)
  have cE := pkErr_any g s a4 e4 _ hE'
  by_cases he : e4 = 0
  · subst he
    go_wp2_with (first
      | (go_at_call 50; (with_reducible refine cE.mono ?_); rintro o5 w5 ⟨rfl, rfl⟩)
      | ((with_reducible refine wpList_store_sg rfl _ _ rfl w.heap.size _ _ _ _ _ _ _ _ _ _ _ d4' rfl rfl rfl ?_); intro w9 hb9 hg9))
    refine bodyPost_ret (results_cell_row rfl _ _ _ _ _ _ _ rfl hb9 Try.underlying63 rfl infoSig4) rfl ?_
    exact ⟨A2, n2, A3, n3, A4, n4, by rw [if_pos rfl], own_sg ho2d d4' hg9, own_sg ho3d d4' hg9, own_sg ho4d d4' hg9, ⟨h32a, h32b, h32c⟩, hl4, t4'.new hg9 (Nat.le_refl _) hgl⟩
  · have he1 : (e4 != 0) = true := by simpa using he
    go_wp2_with (first
      | (go_at_call 50; (with_reducible refine cE.mono ?_); rintro o5 w5 ⟨rfl, rfl⟩)
      | ((with_reducible refine wpList_store_sg rfl _ _ rfl w.heap.size _ _ _ _ _ _ _ _ _ _ _ d4' rfl rfl rfl ?_); intro w9 hb9 hg9))
    refine bodyPost_ret (results_cell_row rfl _ _ _ _ _ _ _ rfl hb9 Try.underlying63 rfl infoSig4) rfl ?_
    exact ⟨A2, n2, A3, n3, A4, n4, by rw [if_neg he], own_sg ho2d d4' hg9, own_sg ho3d d4' hg9, own_sg ho4d d4' hg9, ⟨h32a, h32b, h32c⟩, hl4, t4'.new hg9 (Nat.le_refl _) hgl⟩
end Go.Proofs.Ythpdkdalfjahcaa

namespace Go.Proofs.Ythpdkdalfjahcaa
open Go.RowKit Go.Qc Go.Shelf
attribute [local go_sem] txt_size txt_append ib_fold

structure RG (w W : World) (c0 : Array Value) : Prop where
  b0 : Blk W w.heap.size 69 c0
  b1 : Blk W (w.heap.size + 1) 69 #[.string ⟨#[]⟩, .int .i64 0, .int .i64 0]
  b2 : Blk W (w.heap.size + 1 + 1) 63 #[.int .i64 0, .slice none 0 0, .slice none 0 0, .slice none 0 0]
  x : Below w.heap.size w W
theorem RG.start (w : World) (c0 : Array Value) : RG w (((w.alloc (.cells c0 69)).alloc (.cells #[.string ⟨#[]⟩, .int .i64 0, .int .i64 0] 69)).alloc (.cells #[.int .i64 0, .slice none 0 0, .slice none 0 0, .slice none 0 0] 63)) c0 := by
  have hk : (w.alloc (.cells c0 69)).heap.size = w.heap.size + 1 := by simp
  have hk2 : ((w.alloc (.cells c0 69)).alloc (.cells #[.string ⟨#[]⟩, .int .i64 0, .int .i64 0] 69)).heap.size = w.heap.size + 1 + 1 := by simp
  have h1 := Blk.new (w.alloc (.cells c0 69)) 69 #[.string ⟨#[]⟩, .int .i64 0, .int .i64 0]
  have h2 := Blk.new ((w.alloc (.cells c0 69)).alloc (.cells #[.string ⟨#[]⟩, .int .i64 0, .int .i64 0] 69)) 63 #[.int .i64 0, .slice none 0 0, .slice none 0 0, .slice none 0 0]
  rw [hk] at h1
  rw [hk2] at h2
  exact ⟨((Blk.new w 69 c0).alloc _).alloc _, h1.alloc _, h2, (((Below.refl _ w).alloc (Nat.le_refl _) _).alloc (by simp) _).alloc (by simp; omega) _⟩
theorem RG.below {w W W' : World} {c0 : Array Value} (h : RG w W c0) (hb : Below W.heap.size W W') : RG w W' c0 := ⟨h.b0.below hb, h.b1.below hb, h.b2.below hb, h.x.trans (hb.mono h.x.size)⟩
theorem RG.set {w W W' : World} {c0 c1 : Array Value} (h : RG w W c0) (hb : Blk W' w.heap.size 69 c1) (hg : W.grownBy W' (some w.heap.size)) : RG w W' c1 :=
  ⟨hb, blk_gb h.b1 hg (by omega), blk_gb h.b2 hg (by omega), h.x.grown hg h.x.size (fun k hk => by cases hk; omega)⟩
/-- What the document's reading of a signature tells. -/
def SrP (s : List UInt8) (xL : Nat) (xA xB xC : List (List UInt8)) (a4 : Nat) (e4 : Int) (w : World) (o : Ending) (w' : World) : Prop :=
  ∃ A c B d C q, o = .returned (.tuple #[rv s a4 e4, .agg (if e4 = 0 then #[.int .i64 xL, .slice A xA.length c, .slice B xB.length d, .slice C xC.length q] else #[.int .i64 0, .slice none 0 0, .slice none 0 0, .slice none 0 0])]) ∧ w'.ownsRow w.heap.size 24 32 (.slice A xA.length c) xA.length (idsV xA) ∧ w'.ownsRow w.heap.size 24 32 (.slice B xB.length d) xB.length (idsV xB) ∧ w'.ownsRow w.heap.size 24 32 (.slice C xC.length q) xC.length (idsV xC) ∧ ((∀ x ∈ xA, x.length = 32) ∧ (∀ x ∈ xB, x.length = 32) ∧ (∀ x ∈ xC, x.length = 32)) ∧ Below w.heap.size w w'
set_option maxRecDepth 100000 in
set_option maxHeartbeats 40000000 in
theorem rget8_any (s : List UInt8) (a : Nat) (hs : s.length ≤ 1000000000000) (ha : a ≤ s.length) (w : World) :
    Calls Try.prog 49 #[rv s a 0] w fun o w' => SrP s (sbL s a) (sbA s a) (sbB s a) (sbC s a) (q4 s a).1 (q4 s a).2 w o w' := by
  have hR := RG.start w #[.string (txt s), .int .i64 a, .int .i64 0]
  have c1 := fun W => rGetNumT s a 0 hs ha W
  have c2 := fun W => rGetIdsT s (q1 s a).1 (q1 s a).2 256 hs (stN_le s a 0 ha) W
  have c3 := fun hl W => rGetIdsT s (q2 s a).1 (q2 s a).2 256 hs hl W
  have c4 := fun hl W => rGetIdsT s (q3 s a).1 (q3 s a).2 10 hs hl W
  rw [show vaN s a 0 = sbL s a from rfl, show stN s a 0 = q1 s a from rfl] at c1
  rw [show stI 256 s (q1 s a).1 (q1 s a).2 = q2 s a from rfl, show vaI 256 s (q1 s a).1 (q1 s a).2 = sbA s a from rfl] at c2
  rw [show stI 256 s (q2 s a).1 (q2 s a).2 = q3 s a from rfl, show vaI 256 s (q2 s a).1 (q2 s a).2 = sbB s a from rfl] at c3
  rw [show stI 10 s (q3 s a).1 (q3 s a).2 = q4 s a from rfl, show vaI 10 s (q3 s a).1 (q3 s a).2 = sbC s a from rfl] at c4
  generalize q1 s a = p1 at *
  generalize q2 s a = p2 at *
  generalize q3 s a = p3 at *
  generalize q4 s a = p4 at *
  generalize sbL s a = xL at *
  generalize sbA s a = xA at *
  generalize sbB s a = xB at *
  generalize sbC s a = xC at *
  obtain ⟨a1, e1⟩ := p1
  obtain ⟨a2, e2⟩ := p2
  obtain ⟨a3, e3⟩ := p3
  obtain ⟨a4, e4⟩ := p4
  simp only [rv] at c1 c2 c3 c4 ⊢
  have c1' := c1 (((w.alloc (.cells #[.string (txt s), .int .i64 a, .int .i64 0] 69)).alloc (.cells #[.string ⟨#[]⟩, .int .i64 0, .int .i64 0] 69)).alloc (.cells #[.int .i64 0, .slice none 0 0, .slice none 0 0, .slice none 0 0] 63))
  have hc : e4 = 0 ∨ (e4 ≠ 0 ∧ (e4 != 0) = true) := by
    by_cases he : e4 = 0
    · exact .inl he
    · exact .inr ⟨he, by simpa using he⟩
  rcases hc with rfl | ⟨he, he1⟩
  all_goals
   go_enter Try.func49, Try.ntmps49
   go_wp2_with (first
     | (go_at_call 92; (with_reducible refine c1'.mono ?_); rintro o1 w1 ⟨rfl, h1⟩; have m1 := hR.below h1)
     | ((with_reducible refine wpList_store_rv rfl _ _ rfl w.heap.size _ _ _ _ m1.b0 rfl rfl rfl ?_); intro v1 x1 y1; have n1 := m1.set x1 y1; have k0 := blk_c n1.b0 0 _ rfl; have k1 := blk_c n1.b0 1 _ rfl; have k2 := blk_c n1.b0 2 _ rfl)
     | (go_at_call 93; (with_reducible refine (c2 v1).mono ?_); rintro o2 w2 ⟨u2, rfl, ho2, h32a, hl2, h2⟩; obtain ⟨A2, z2, rfl⟩ := own_sl ho2; replace ho2 := own_base ho2 n1.x.size; have m2 := n1.below h2)
     | ((with_reducible refine wpList_store_rv rfl _ _ rfl w.heap.size _ _ _ _ m2.b0 rfl rfl rfl ?_); intro v2 x2 y2; have n2 := m2.set x2 y2; have k0 := blk_c n2.b0 0 _ rfl; have k1 := blk_c n2.b0 1 _ rfl; have k2 := blk_c n2.b0 2 _ rfl; have g2 := own_rdr ho2 m2.b0 y2)
     | (go_at_call 93; (with_reducible refine (c3 hl2 v2).mono ?_); rintro o3 w3 ⟨u3, rfl, ho3, h32b, hl3, h3⟩; obtain ⟨A3, z3, rfl⟩ := own_sl ho3; replace ho3 := own_base ho3 n2.x.size; have m3 := n2.below h3; have f2 := own_below g2 h3)
     | ((with_reducible refine wpList_store_rv rfl _ _ rfl w.heap.size _ _ _ _ m3.b0 rfl rfl rfl ?_); intro v3 x3 y3; have n3 := m3.set x3 y3; have k0 := blk_c n3.b0 0 _ rfl; have k1 := blk_c n3.b0 1 _ rfl; have k2 := blk_c n3.b0 2 _ rfl; have g3 := own_rdr ho3 m3.b0 y3; have g2b := own_rdr f2 m3.b0 y3)
     | (go_at_call 93; (with_reducible refine (c4 hl3 v3).mono ?_); rintro o4 w4 ⟨u4, rfl, ho4, h32c, hl4, h4⟩; obtain ⟨A4, z4, rfl⟩ := own_sl ho4; replace ho4 := own_base ho4 n3.x.size; have m4 := n3.below h4; have f3 := own_below g3 h4; have f2b := own_below g2b h4)
     | ((with_reducible refine wpList_store_rv rfl _ _ rfl w.heap.size _ _ _ _ m4.b0 rfl rfl rfl ?_); intro v4 x4 y4; have n4 := m4.set x4 y4; have k0 := blk_c n4.b0 0 _ rfl; have k1 := blk_c n4.b0 1 _ rfl; have k2 := blk_c n4.b0 2 _ rfl; have g4 := own_rdr ho4 m4.b0 y4; have g3b := own_rdr f3 m4.b0 y4; have g2c := own_rdr f2b m4.b0 y4)
     | ((with_reducible refine wpList_store_rv rfl _ _ rfl (w.heap.size + 1) _ _ _ _ n4.b1 rfl rfl rfl ?_); intro v5 x5 y5; have b25 := blk_gb n4.b2 y5 (by omega); have hX5 := n4.x.grown y5 n4.x.size (fun k hk => by cases hk; omega); have g45 := own_rdr g4 n4.b1 y5; have g35 := own_rdr g3b n4.b1 y5; have g25 := own_rdr g2c n4.b1 y5)
     | ((with_reducible refine wpList_store_sg rfl _ _ rfl (w.heap.size + 1 + 1) _ _ _ _ _ _ _ _ _ _ _ b25 rfl rfl rfl ?_); intro v6 x6 y6; have b15 := blk_gb x5 y6 (by omega)))
   refine bodyPost_ret (results_rows rfl _ _ _ _ _ _ _ _ _ _ _ _ rfl b15 Try.underlying69 rfl infoR3 rfl x6 Try.underlying63 rfl infoSig4) rfl ?_
   refine ⟨A2, z2, A3, z3, A4, z4, ?_, own_sg g25 b25 y6, own_sg g35 b25 y6, own_sg g45 b25 y6, ⟨h32a, h32b, h32c⟩, hX5.grown y6 hX5.size (fun k hk => by cases hk; omega)⟩
   first | (rw [if_pos rfl]; rfl) | (rw [if_neg he]; rfl)
end Go.Proofs.Ythpdkdalfjahcaa

namespace Go.Proofs.Ythpdkdalfjahcaa
open Go.RowKit Go.Qc
attribute [local go_sem] txt_size txt_append ib_fold

/-- Blocks of other types stay. -/
def KpW (w w' : World) : Prop := ∀ (g : Nat) (t : TypeId) (cs : Array Value), t ≠ 5 → t ≠ 36 → Blk w g t cs → Blk w' g t cs
theorem KpW.refl (w : World) : KpW w w := fun _ _ _ _ _ h => h
theorem KpW.trans {a b c : World} (h : KpW a b) (k : KpW b c) : KpW a c := fun g t cs h1 h2 hb => k g t cs h1 h2 (h g t cs h1 h2 hb)
theorem KpW.later {w w' : World} (h : Below w.heap.size w w') : KpW w w' := fun _ _ _ _ _ hb => hb.below h
theorem KpW.row {w w' : World} {b n : Nat} {v : Value} {xs : List Value} (ho : w.ownsRow b 5 1 v n xs) (hg : w.grownBy w' v.ownBlock) : KpW w w' := fun g t cs h1 _ h => by
  refine (hg.block g h.lt ?_).trans h
  rcases ho.2 with ⟨rfl, _⟩ | ⟨g2, cap, cur, rfl, _, hgb, _⟩
  · simp [Value.ownBlock]
  · intro e'
    obtain rfl : g = g2 := by simpa [Value.ownBlock] using e'
    have := (show w.heap[g]? = _ from h).symm.trans hgb
    simp at this
    exact h1 this.2
theorem KpW.put {w : World} {b : Nat} {cs0 : Array Value} (hb : Blk w b 36 cs0) (v : Value) : KpW w (w.setCell ⟨b, 0, none⟩ v) := fun g t cs _ h2 h => by
  refine blk_gb h (gb_set (gb_refl w (some b)) 0 v) ?_
  rintro rfl
  have := (show w.heap[g]? = _ from h).symm.trans (show w.heap[g]? = _ from hb)
  simp at this
  exact h2 this.2
set_option maxRecDepth 100000 in
set_option maxHeartbeats 2000000 in
theorem wByte_any (b : Nat) (l : List UInt8) (x : UInt8) (hl : l.length ≤ 1000000000000) (w : World) (h : Wrt b l w) :
    Calls Try.prog 19 #[.pointer (some ⟨b, 0, none⟩), .int .u8 (ib x)] w fun o w' => o = .returned (.tuple #[]) ∧ Wrt b (l ++ [x]) w' ∧ Below b w w' ∧ KpW w w' := by
  obtain ⟨i0, hi, hz0, hz1, hz2⟩ := info_parts infoByte
  obtain ⟨v, hbk, hown, hne⟩ := h
  have hlt := hbk.lt
  have c0 : w.cell? ⟨b, 0, none⟩ = some v := hbk.cell_ rfl
  have hlx : ([x] : List UInt8).length = 1 := rfl
  go_enter Try.func19, Try.ntmps19
  have hnew : ∀ j u, ([x].map u8v)[j]? = some u → (w.alloc (.cells #[.int .u8 (ib x)] 5)).cell? ((⟨w.heap.size, 0, none⟩ : Addr).add j) = some u := fun j u hj => by
    rw [Addr.add_lit, Nat.zero_add, (Blk.new w 5 #[.int .u8 (ib x)]).cell]
    rw [List.getElem?_toArray]
    exact hj
  go_wp2_with (at_builtin; refine wpList_append_own2 _ rfl _ _ 34 rfl b 5 i0 (.int .u8 0) 1 1 Try.underlying34 hi hz0 hz1 hz2 rfl (by decide) _ _ _ rfl (hown.alloc _) ⟨w.heap.size, 0, none⟩ 1 1 (by decide) ([x].map u8v) rfl rfl hnew (u8v_one [x]) ?c2 ?c3 ?c4 ?_)
  case c2 => unfold maxLen; omega
  case c3 => omega
  case c4 => simp; omega
  intro v8 w8 hv8 hg8 hn8
  have hb0 : Below b w (w.alloc (.cells #[.int .u8 (ib x)] 5)) := (Below.refl _ _).alloc (Nat.le_of_lt hlt) _
  have hb8 : Below b w w8 := hb0.grown hg8 (Nat.le_trans (Nat.le_of_lt hlt) hb0.size) (fun k hk => (hown.lt k hk).1)
  have hbk8 : Blk w8 b 36 #[v] := (hg8.block b (by simp; omega) (fun e => hne e.symm)).trans (hbk.alloc _)
  have hne8 : v8.ownBlock ≠ some b := fun e => by
    rcases hn8 with h | h
    · exact hne (h.symm.trans e)
    · rw [h] at e
      have e2 := Option.some.inj e
      (try simp at e2)
      omega
  have f0 := hbk8.frozen 0
  have d0 : w8.cell? ⟨b, 0, none⟩ = some v := hbk8.cell_ rfl
  have hsl : ∃ ao n' cap, v8 = .slice ao n' cap := by
    rcases hv8.2 with ⟨hv, _⟩ | ⟨g, cap, cur, hv, _⟩
    · exact ⟨_, _, _, hv⟩
    · exact ⟨_, _, _, hv⟩
  have hset : Blk (w8.setCell ⟨b, 0, none⟩ v8) b 36 #[v8] := hbk8.set 0 v8
  have hv9 := hv8.kept (gb_set (gb_refl w8 (some b)) 0 v8) (.inr hne8)
  have hk8 : KpW w w8 := (KpW.later ((Below.refl _ w).alloc (Nat.le_refl _) (.cells #[.int .u8 (ib x)] 5))).trans (KpW.row (hown.alloc _) hg8)
  clear hnew hb0 hg8 hn8 hown hbk
  obtain ⟨ao, n', cap, rfl⟩ := hsl
  go_wp2
  go_end0
  exact ⟨rfl, ⟨_, hset, (by rw [List.length_append, List.map_append]; exact hv9), hne8⟩, hb8.setCell (p := ⟨b, 0, none⟩) (Nat.le_refl _) _, hk8.trans (KpW.put hbk8 _)⟩

set_option maxRecDepth 100000 in
set_option maxHeartbeats 4000000 in
theorem wNum_any (b : Nat) (l : List UInt8) (v : Nat) (hv : v ≤ 4611686018427387904) (hl : l.length + 100 ≤ 1000000000000) (w : World) (h : Wrt b l w) :
    Calls Try.prog 20 #[.pointer (some ⟨b, 0, none⟩), .int .i64 v] w fun o w' => o = .returned (.bool true) ∧ Wrt b (l ++ numE v) w' ∧ Below b w w' ∧ KpW w w' := by
  have v0 : ¬ (v : Int) < 0 := by omega
  have v1 : ¬ (4611686018427387904 : Int) < v := by omega
  have hbw := Nat.le_of_lt h.lt
  go_enter Try.func20, Try.ntmps20
  go_wp2
  refine wp_scope_label 0 (fun a' w' => ∃ (x : Nat) (pre : List UInt8) (u5 u6 u7 u8 u9 u10 u11 u12 u13 u14 u15 u16 u17 u18 u19 u20 u21 u22 u23 : Value), a' = { tmps := #[.pointer (some ⟨b, 0, none⟩), .int .i64 x, undef, undef, .bool false, u5, u6, u7, u8, u9, u10, u11, u12, u13, u14, u15, u16, u17, u18, u19, u20, u21, u22, u23], defers := [] } ∧ Wrt b (l ++ pre) w' ∧ pre ++ numE x = numE v ∧ x ≤ v ∧ (Below b w w' ∧ KpW w w')) (fun a' _ => (intOf (a'.tmps.getD 1 undef)).toNat) rfl (fun a' w' hJ => ?pass) (fun hrest => ?first)
  case first =>
    refine wp_seq (wp_mono (Q := fun e a' w' => e = .normal ∧ w' = w ∧ a' = { tmps := #[.pointer (some ⟨b, 0, none⟩), .int .i64 v, undef, undef, .bool false, .int .i64 v, .bool false, .bool false, .int .i64 v, .bool false, .bool false, undef, undef, undef, undef, undef, undef, undef, undef, undef, undef, undef, undef, undef], defers := [] }) ?_ ?_)
    · go_wp2
    · rintro e a' w' ⟨rfl, rfl, rfl⟩
      refine wp_seq ?_
      apply wp_label
      exact hrest _ _ ⟨v, [], _, _, _, _, _, _, _, _, _, _, _, _, _, _, _, _, _, _, _, rfl, by rw [List.append_nil]; exact h, rfl, Nat.le_refl _, Below.refl _ _, KpW.refl _⟩
  case pass =>
    obtain ⟨x, pre, u5, u6, u7, u8, u9, u10, u11, u12, u13, u14, u15, u16, u17, u18, u19, u20, u21, u22, u23, rfl, hW, hpre, hxv, hB⟩ := hJ
    have hlen : (l ++ pre).length ≤ 1000000000000 := by
      have h1 := numE_len 8 v (Nat.lt_of_le_of_lt hv (by decide))
      have h2 := congrArg List.length hpre
      rw [List.length_append] at h2 ⊢
      omega
    have HLEN := hid hlen
    have HPRE := hid hpre
    clear hlen hpre
    by_cases hx : x < 128
    · have hby := fun W h => wByte_any b (l ++ pre) (UInt8.ofNat x) HLEN.out W h
      rw [← ib_of_nat x (by omega)] at hby
      have b1 : ¬ (128 : Int) ≤ x := by omega
      have hE := numE_lt hx
      have HE := hid hE
      have HB := hid hB
      clear hE hB
      go_wp2_with (first
        | (go_at_call 19; (with_reducible refine (hby _ hW).mono ?_); rintro o1 w1 ⟨rfl, h1, h2, k2⟩))
      (try simp only [Exit.jump])
      go_ret
      exact ⟨rfl, by rw [← HPRE.out, HE.out, ← List.append_assoc]; exact h1, HB.out.1.trans h2, HB.out.2.trans k2⟩
    · have hby := fun W h => wByte_any b (l ++ pre) (UInt8.ofNat (x % 128 + 128)) HLEN.out W h
      have hor : bits .or .u8 128 ((x : Int) % 256) = ib (UInt8.ofNat (x % 128 + 128)) := by
        have := or128 (x % 256) (by omega)
        rw [show x % 256 % 128 = x % 128 by omega, Int.natCast_emod] at this
        exact this
      have b1 : (128 : Int) ≤ x := by omega
      have hE := numE_ge hx
      generalize UInt8.ofNat (x % 128 + 128) = y at *
      have HE := hid hE
      have HB := hid hB
      clear hE hB
      go_wp2_with (first
        | (go_at_call 19; (with_reducible refine (hby _ hW).mono ?_); rintro o1 w1 ⟨rfl, h1, h2, k2⟩))
      go_step3
      refine ⟨rfl, ⟨x / 128, pre ++ [y], _, _, _, _, _, _, _, _, _, _, _, _, _, _, _, _, _, _, _, rfl, by rw [← List.append_assoc]; exact h1, by rw [← HPRE.out, HE.out, List.append_assoc]; rfl, by omega, HB.out.1.trans h2, HB.out.2.trans k2⟩, ?_⟩
      simp [intOf]; omega
set_option maxRecDepth 100000 in
set_option maxHeartbeats 8000000 in
set_option linter.unusedSimpArgs false in
theorem wId_any (b : Nat) (l a : List UInt8) (ha : a.length = 32) (hl : l.length ≤ 1000000000000) (w : World) (h : Wrt b l w) :
    Calls Try.prog 22 #[.pointer (some ⟨b, 0, none⟩), .agg (idVals a)] w fun o w' => o = .returned (.tuple #[]) ∧ Wrt b (l ++ a) w' ∧ Below b w w' ∧ KpW w w' := by
  obtain ⟨i0, hi, hz0, hz1, hz2⟩ := info_parts infoByte
  have hs := fun W g => run_slice_whole (P := Try.prog) W 24 5 g 0 32 i0 Try.underlying24 hi hz1 (by decide)
  obtain ⟨v, hbk0, hown0, hne⟩ := h
  have hlt := hbk0.lt
  have hbk : Blk (w.alloc (.cells (idVals a) 24)).drew b 36 #[v] := (hbk0.alloc _).drewN 1
  have hown : (w.alloc (.cells (idVals a) 24)).drew.ownsRow b 5 1 v l.length (l.map u8v) := hown0.alloc _
  have hrg : (w.alloc (.cells (idVals a) 24)).drew.rangeAt w.heap.size 0 (a.map u8v) := (range_blk (Blk.new w 24 (idVals a))).below (below_drew1 _)
  have hnew := range_add hrg
  have c0 : (w.alloc (.cells (idVals a) 24)).drew.cell? ⟨b, 0, none⟩ = some v := hbk.cell_ rfl
  have hBW : Below b w (w.alloc (.cells (idVals a) 24)).drew := below_drewN ((Below.refl b w).alloc (Nat.le_of_lt hlt) _) 1
  have hq1 : l.length + 32 ≤ maxLen := by unfold maxLen; omega
  have hq2 : (l.length + 32) * 1 ≤ 140737488355328 := by omega
  have hq3 : b ≤ (w.alloc (.cells (idVals a) 24)).drew.heap.size := Nat.le_of_lt hbk.lt
  have hk0 : KpW w (w.alloc (.cells (idVals a) 24)).drew := KpW.later (below_drewN ((Below.refl _ w).alloc (Nat.le_refl _) _) 1)
  have HLA := hid ha
  clear hbk0 hown0 hrg ha hlt
  go_enter Try.func22, Try.ntmps22
  go_wp2_with (fail)
  refine wp_region_held_drew (S := fun _ => True) (by kernel_rfl) trivial (fun hHeld => ?_)
  generalize (w.alloc (.cells (idVals a) 24)).drew = W0 at *
  refine' wpAnyH_take (i := 0) (v := .pointer (some ⟨b, 0, none⟩)) rfl (by kernel_rfl) (by kernel_rfl) (by kernel_rfl) (fun _ _ _ h => h) (Or.inl ⟨by rfl, fun w' hw' => by go_simp⟩) hHeld ?_
  try simp only [Act.put, List.getElem_toArray, List.getElem_cons_succ, List.getElem_cons_zero, List.setIfInBounds_toArray, List.set_cons_zero, List.set_cons_succ]
  refine' wpAnyH_take (i := 1) (v := .pointer (some ⟨b, 0, none⟩)) rfl (by kernel_rfl) (by kernel_rfl) (by kernel_rfl) (fun _ _ _ h => h) (Or.inl ⟨by rfl, fun w' hw' => by go_simp⟩) hHeld ?_
  try simp only [Act.put, List.getElem_toArray, List.getElem_cons_succ, List.getElem_cons_zero, List.setIfInBounds_toArray, List.set_cons_zero, List.set_cons_succ]
  refine' wpAnyH_take (i := 2) (v := .pointer (some ⟨b, 0, none⟩)) rfl (by kernel_rfl) (by kernel_rfl) (by kernel_rfl) (fun _ _ _ h => h) (Or.inl ⟨by rfl, fun w' hw' => by go_simp⟩) hHeld ?_
  try simp only [Act.put, List.getElem_toArray, List.getElem_cons_succ, List.getElem_cons_zero, List.setIfInBounds_toArray, List.set_cons_zero, List.set_cons_succ]
  refine' wpAnyH_take (i := 3) (v := .pointer (some ⟨b, 0, none⟩)) rfl (by kernel_rfl) (by kernel_rfl) (by kernel_rfl) (fun _ _ _ h => h) (Or.inl ⟨by rfl, fun w' hw' => by go_simp⟩) hHeld ?_
  try simp only [Act.put, List.getElem_toArray, List.getElem_cons_succ, List.getElem_cons_zero, List.setIfInBounds_toArray, List.set_cons_zero, List.set_cons_succ]
  refine' wpAnyH_take (i := 5) (v := .slice (some ⟨w.heap.size, 0, none⟩) 32 32) rfl (by kernel_rfl) (by kernel_rfl) (by kernel_rfl) (fun _ _ _ h => h) (Or.inl ⟨by rfl, fun w' hw' => by have hv := hs w' w.heap.size; go_simp⟩) hHeld ?_
  try simp only [Act.put, List.getElem_toArray, List.getElem_cons_succ, List.getElem_cons_zero, List.setIfInBounds_toArray, List.set_cons_zero, List.set_cons_succ]
  refine wpAnyH_ready (rs := [4]) (by kernel_rfl) (by simp) ?_
  refine AllReadyH.cons rfl (fun K hK => ?_) AllReadyH.nil
  go_simp
  refine hK.out _ _ trivial (fun hHeld => ?_)
  clear hK K
  try simp only [Act.put, List.getElem_toArray, List.getElem_cons_succ, List.getElem_cons_zero, List.setIfInBounds_toArray, List.set_cons_zero, List.set_cons_succ]
  refine wpAnyH_ready (rs := [6]) (by kernel_rfl) (by simp) ?_
  refine AllReadyH.cons rfl (fun K hK => ?_) AllReadyH.nil
  rw [if_pos (by rfl)]
  refine wp_append_own _ _ _ 34 rfl b 5 i0 (.int .u8 0) 1 1 Try.underlying34 hi hz0 hz1 hz2 rfl (by decide) v l.length (l.map u8v) rfl hown ⟨w.heap.size, 0, none⟩ 32 32 (a.map u8v) rfl (by rw [List.length_map, HLA.out]) hnew (u8v_one a) hq1 hq2 hq3 ?_
  intro v8 w8 hv8 hg8 _
  rw [show l.length + 32 = (l ++ a).length by rw [List.length_append, HLA.out], ← List.map_append] at hv8
  have hb8 : Below b W0 w8 := (Below.refl b W0).grown hg8 hq3 (fun k hk => (hown.lt k hk).1)
  have hbk8 : Blk w8 b 36 #[v] := (hg8.block b hbk.lt (fun e => hne e.symm)).trans hbk
  have hne8 : v8.ownBlock ≠ some b := Lib.ownBlock_ne hv8 hbk8 (by decide)
  have f0 := hbk8.frozen 0
  have d0 : w8.cell? ⟨b, 0, none⟩ = some v := hbk8.cell_ rfl
  have hsl : ∃ ao n' cap, v8 = .slice ao n' cap := by
    rcases hv8.2 with ⟨hv, _⟩ | ⟨g, cap, cur, hv, _⟩
    · exact ⟨_, _, _, hv⟩
    · exact ⟨_, _, _, hv⟩
  have hset : Blk (w8.setCell ⟨b, 0, none⟩ v8) b 36 #[v8] := hbk8.set 0 v8
  have hv9 := hv8.kept (gb_set (gb_refl w8 (some b)) 0 v8) (.inr hne8)
  refine hK.out _ _ trivial (fun hHeld => ?_)
  have hk8 := hk0.trans (KpW.row hown hg8)
  clear hK K hg8 hv8
  obtain ⟨ao, n', cap, rfl⟩ := hsl
  try simp only [Act.put, List.getElem_toArray, List.getElem_cons_succ, List.getElem_cons_zero, List.setIfInBounds_toArray, List.set_cons_zero, List.set_cons_succ]
  refine' wpAnyH_take (i := 7) (v := .pointer (some ⟨b, 0, none⟩)) rfl (by kernel_rfl) (by kernel_rfl) (by kernel_rfl) (fun _ _ _ h => h) (Or.inl ⟨by rfl, fun w' hw' => by go_simp⟩) hHeld ?_
  try simp only [Act.put, List.getElem_toArray, List.getElem_cons_succ, List.getElem_cons_zero, List.setIfInBounds_toArray, List.set_cons_zero, List.set_cons_succ]
  refine' wpAnyH_take (i := 8) (v := .pointer (some ⟨b, 0, none⟩)) rfl (by kernel_rfl) (by kernel_rfl) (by kernel_rfl) (fun _ _ _ h => h) (Or.inl ⟨by rfl, fun w' hw' => by go_simp⟩) hHeld ?_
  try simp only [Act.put, List.getElem_toArray, List.getElem_cons_succ, List.getElem_cons_zero, List.setIfInBounds_toArray, List.set_cons_zero, List.set_cons_succ]
  refine wpAnyH_ready (rs := [9]) (by kernel_rfl) (by simp) ?_
  refine AllReadyH.cons rfl (fun K hK => ?_) AllReadyH.nil
  go_simp
  refine hK.out _ _ trivial (fun hHeld => ?_)
  clear hK K
  refine wpAnyH_done (by kernel_rfl) ?_ _
  go_wp2
  go_end0
  exact ⟨rfl, ⟨_, hset, hv9, hne8⟩, (hBW.trans hb8).setCell (p := ⟨b, 0, none⟩) (Nat.le_refl _) _, hk8.trans (KpW.put hbk8 _)⟩

set_option maxHeartbeats 8000000 in
theorem wIds_any (b : Nat) (l : List UInt8) (A : Option Addr) (n c : Nat) (r : List (List UInt8)) (hn : n ≤ 1000) (hl : l.length ≤ 100000000) (w0 w : World) (h0 : w0.heap.size ≤ b) (hw0 : Below w0.heap.size w0 w) (hA : RowR w0 A n r) (h : Wrt b l w) :
    Calls Try.prog 24 #[.pointer (some ⟨b, 0, none⟩), .slice A n c] w fun o w' => o = .returned (.tuple #[]) ∧ Wrt b (l ++ idsE r) w' ∧ Below b w w' ∧ KpW w w' := by
  have hu := Try.underlying24
  have hnl := numE_len9 n (Nat.le_trans hn (by decide))
  have cN := fun W h => wNum_any b l n (Nat.le_trans hn (by decide)) (by omega) W h
  have hWr : Calls Try.prog 66 #[.pointer (some ⟨b, 0, none⟩), .slice A n c, .func (.func 22) #[.pointer (some ⟨b, 0, none⟩)] #[]] w fun o w' => o = .returned (.tuple #[]) ∧ Wrt b (l ++ idsE r) w' ∧ Below b w w' ∧ KpW w w' := by
    obtain ⟨hrn, _, hrr⟩ := hA
    have hg := enters_of Try.func22 (by kernel_rfl) rfl
    unfold idsE
    rw [hrn]
    obtain ⟨L, hL⟩ : ∃ L, L = l ++ numE n := ⟨_, rfl⟩
    have hLl : L.length ≤ 100000009 := by rw [hL, List.length_append]; omega
    rw [← hL] at cN
    rw [← List.append_assoc, ← hL]
    have hbw := Nat.le_of_lt h.lt
    have HRN := hid hrn
    clear hL hnl hrn
    go_enter Try.func66, Try.ntmps66
    go_wp2_with (first
      | (go_at_call 20; (with_reducible refine (cN _ h).mono ?_); rintro o1 w1 ⟨rfl, hW1, hB1, hK1⟩))
    go_loopw [14] (fun i wr => ∃ k : Nat, k ≤ n ∧ i = .int .i64 k ∧ Wrt b (L ++ (r.take k).flatten) wr ∧ Below b w wr ∧ KpW w wr) (fun i _ => n - (intOf i).toNat)
    case atStart => exact ⟨0, by omega, rfl, by rw [List.take_zero, List.flatten_nil, List.append_nil]; exact hW1, hB1, hK1⟩
    case round =>
      obtain ⟨k, hk, rfl, hW, hB, hKK⟩ := hrel
      clear hW1 hB1 hK1
      by_cases hlt : k < n
      · obtain ⟨x, hx⟩ : ∃ x, r[k]? = some x := ⟨_, List.getElem?_eq_getElem (by rw [HRN.out]; exact hlt)⟩
        obtain ⟨g, q, hgx, lx, hix⟩ := hrr.pick c HRN.out hx
        have r1 := hgx.below (hw0.trans (hB.mono h0))
        have hzx : (Try.prog.info? 24).map (·.size) = some (x.map u8v).length := by rw [List.length_map, lx]; exact sizeId
        have hfl : (L ++ (r.take k).flatten).length ≤ 1000000000000 := by
          rw [List.length_append, flatten_len _ (fun a ha => hrr.1 a (List.mem_of_mem_take ha)), List.length_take, HRN.out]
          omega
        have cI : ∀ W, Wrt b (L ++ (r.take k).flatten) W → Calls Try.prog 22 #[.pointer (some ⟨b, 0, none⟩), .agg (List.map u8v x).toArray] W fun o w' => o = .returned (.tuple #[]) ∧ Wrt b (L ++ (r.take k).flatten ++ x) w' ∧ Below b W w' ∧ KpW W w' := fun W h => wId_any b _ x lx hfl W h
        have HS := hid (flatten_snoc hx)
        generalize (r.take k).flatten = Q at *
        have b1 : (k : Int) < n := by omega
        have HLX := hid lx
        clear hx hfl lx
        go_wp2_with (first
          | (with_reducible refine wpList_load_if (by with_unfolding_all rfl) 24 _ rfl _ _ rfl (x.map u8v) _ r1 hu (by with_unfolding_all rfl) hzx ?_)
          | ((with_reducible refine wpList_store_newid rfl _ _ rfl x HLX.out rfl rfl (by with_unfolding_all rfl) ?_); intro w3 hx3 hb3; have hW3 := hW.below hb3; have hBX := hB.trans (hb3.mono (Nat.le_trans hbw hB.size)); have hKX := hKK.trans (KpW.later hb3))
          | (with_reducible refine wpList_load_if (by with_unfolding_all rfl) 24 _ rfl _ _ rfl (x.map u8v) _ hx3 hu (by with_unfolding_all rfl) hzx ?_)
          | ((with_reducible refine (cI _ hW3).mono ?_); rintro o4 w4 ⟨rfl, hW4, hB4, hK4⟩))
        go_roundw
        case rel => exact ⟨k + 1, hlt, by go_num, by rw [HS.out, ← List.append_assoc]; exact hW4, hBX.trans hB4, hKX.trans hK4⟩
        case measure => simp [intOf]; omega
      · obtain rfl : k = n := by omega
        rw [List.take_of_length_le (by rw [HRN.out]; exact Nat.le_refl _)] at hW
        have b1 : ¬ (k : Int) < k := by omega
        go_wp2
        go_end0
        exact ⟨rfl, hW, hB, hKK⟩
  clear cN
  go_enter Try.func24, Try.ntmps24
  go_wp2_with (first
    | (go_at_call 66; (with_reducible refine hWr.mono ?_); rintro o1 w1 ⟨rfl, hW1, hB1, hK1⟩))
  go_end0
  exact ⟨rfl, hW1, hB1, hK1⟩
end Go.Proofs.Ythpdkdalfjahcaa

namespace Go.Proofs.Ythpdkdalfjahcaa
open Go.RowKit Go.Qc Go.Shelf
attribute [local go_sem] txt_size txt_append ib_fold

/-- The leaf as it is written: 0 where there is no number of it. -/
def leafW (L : Int) : Nat := if 0 ≤ L ∧ L ≤ 4611686018427387904 then L.toNat else 0
theorem leafW_le (L : Int) : leafW L ≤ 4611686018427387904 := by unfold leafW; split <;> omega
theorem leafW_nat (v : Nat) (hv : v ≤ 4611686018427387904) : leafW (v : Int) = v := by unfold leafW; rw [if_pos (by omega)]; rfl
theorem leafW_no (L : Int) (h : L < 0 ∨ 4611686018427387904 < L) : leafW L = 0 := by unfold leafW; rw [if_neg (by omega)]
theorem idsE_len (l : List (List UInt8)) (n : Nat) (h : l.length = n) (hn : n ≤ 1000) (h32 : ∀ a ∈ l, a.length = 32) : (idsE l).length ≤ 32009 := by
  have h9 := numE_len9 l.length (by omega)
  rw [idsE, List.length_append, flatten_len l h32]; omega
theorem leaf_cases (L : Int) : (∃ v : Nat, L = v ∧ v ≤ 4611686018427387904) ∨ (L < 0 ∨ 4611686018427387904 < L) := by
  by_cases h : L < 0 ∨ 4611686018427387904 < L
  · exact .inr h
  · exact .inl ⟨L.toNat, by omega, by omega⟩
/-- What is written of a signature. -/
def sigE (L : Int) (xA xB xC : List (List UInt8)) : List UInt8 := numE (leafW L) ++ idsE xA ++ idsE xB ++ idsE xC
set_option maxRecDepth 100000 in
set_option maxHeartbeats 40000000 in
theorem sput_yes (b : Nat) (l : List UInt8) (L : Int) (A B C : Option Addr) (na ca nb cb nc cc : Nat) (xA xB xC : List (List UInt8)) (hna : na ≤ 1000) (hnb : nb ≤ 1000) (hnc : nc ≤ 1000) (hl : l.length ≤ 10000000) (w0 w : World) (h0 : w0.heap.size ≤ b) (hw0 : Below w0.heap.size w0 w) (hA : RowR w0 A na xA) (hB : RowR w0 B nb xB) (hC : RowR w0 C nc xC) (h : Wrt b l w) (N : Nat) (hL : L = N) (hN : N ≤ 4611686018427387904) :
    Calls Try.prog 45 #[.pointer (some ⟨b, 0, none⟩), .agg #[.int .i64 L, .slice A na ca, .slice B nb cb, .slice C nc cc]] w fun o w' => o = .returned (.tuple #[]) ∧ Wrt b (l ++ sigE L xA xB xC) w' ∧ Below b w w' ∧ KpW w w' := by
  have hz := leafW_nat N hN
  subst hL
  have hbw := Nat.le_of_lt h.lt
  have la := idsE_len xA na hA.1 hna hA.2.2.1
  have lb := idsE_len xB nb hB.1 hnb hB.2.2.1
  have lN := numE_len9 N hN
  have hx0 : Below b w (w.alloc (.cells #[.int .i64 (N : Int), .slice A na ca, .slice B nb cb, .slice C nc cc] 63)) := (Below.refl _ w).alloc hbw _
  have hk0 : KpW w (w.alloc (.cells #[.int .i64 (N : Int), .slice A na ca, .slice B nb cb, .slice C nc cc] 63)) := KpW.later ((Below.refl _ w).alloc (Nat.le_refl _) _)
  have hW0 : Wrt b l (w.alloc (.cells #[.int .i64 (N : Int), .slice A na ca, .slice B nb cb, .slice C nc cc] 63)) := h.below ((Below.refl _ w).alloc (Nat.le_refl _) _)
  have hbx0 := Blk.new w 63 #[.int .i64 (N : Int), .slice A na ca, .slice B nb cb, .slice C nc cc]
  have cN := wNum_any b l N hN (by omega) _ hW0
  have cA := fun W hb hW => wIds_any b (l ++ numE N) A na ca xA hna (by rw [List.length_append]; omega) w0 W h0 hb hA hW
  have cB := fun W hb hW => wIds_any b (l ++ numE N ++ idsE xA) B nb cb xB hnb (by rw [List.length_append, List.length_append]; omega) w0 W h0 hb hB hW
  have cC := fun W hb hW => wIds_any b (l ++ numE N ++ idsE xA ++ idsE xB) C nc cc xC hnc (by rw [List.length_append, List.length_append, List.length_append]; omega) w0 W h0 hb hC hW
  clear la lb lN
  go_enter Try.func45, Try.ntmps45
  go_wp2_with (first
    | (go_at_call 20; (with_reducible refine cN.mono ?_); rintro o1 w1 ⟨rfl, hW1, hB1, hK1⟩; have hbx1 := hK1 _ _ _ (by decide) (by decide) hbx0; have hX1 := hx0.trans hB1; have hKX1 := hk0.trans hK1; have hbw1 := hw0.trans (hX1.mono h0); have f11 := hbx1.cell_ (i := 1) rfl; have f12 := hbx1.cell_ (i := 2) rfl; have f13 := hbx1.cell_ (i := 3) rfl)
    | (go_at_call 24; (with_reducible refine (cA w1 hbw1 hW1).mono ?_); rintro o2 w2 ⟨rfl, hW2, hB2, hK2⟩; have hbx2 := hK2 _ _ _ (by decide) (by decide) hbx1; have hX2 := hX1.trans hB2; have hKX2 := hKX1.trans hK2; have hbw2 := hw0.trans (hX2.mono h0); have f21 := hbx2.cell_ (i := 1) rfl; have f22 := hbx2.cell_ (i := 2) rfl; have f23 := hbx2.cell_ (i := 3) rfl)
    | (go_at_call 24; (with_reducible refine (cB w2 hbw2 hW2).mono ?_); rintro o3 w3 ⟨rfl, hW3, hB3, hK3⟩; have hbx3 := hK3 _ _ _ (by decide) (by decide) hbx2; have hX3 := hX2.trans hB3; have hKX3 := hKX2.trans hK3; have hbw3 := hw0.trans (hX3.mono h0); have f31 := hbx3.cell_ (i := 1) rfl; have f32 := hbx3.cell_ (i := 2) rfl; have f33 := hbx3.cell_ (i := 3) rfl)
    | (go_at_call 24; (with_reducible refine (cC w3 hbw3 hW3).mono ?_); rintro o4 w4 ⟨rfl, hW4, hB4, hK4⟩; have hbx4 := hK4 _ _ _ (by decide) (by decide) hbx3; have hX4 := hX3.trans hB4; have hKX4 := hKX3.trans hK4; have hbw4 := hw0.trans (hX4.mono h0); have f41 := hbx4.cell_ (i := 1) rfl; have f42 := hbx4.cell_ (i := 2) rfl; have f43 := hbx4.cell_ (i := 3) rfl))
  go_end0
  refine ⟨rfl, ?_, hX4, hKX4⟩
  simpa [sigE, hz, List.append_assoc] using hW4
set_option maxRecDepth 100000 in
set_option maxHeartbeats 40000000 in
theorem sput_no (b : Nat) (l : List UInt8) (L : Int) (A B C : Option Addr) (na ca nb cb nc cc : Nat) (xA xB xC : List (List UInt8)) (hna : na ≤ 1000) (hnb : nb ≤ 1000) (hnc : nc ≤ 1000) (hl : l.length ≤ 10000000) (w0 w : World) (h0 : w0.heap.size ≤ b) (hw0 : Below w0.heap.size w0 w) (hA : RowR w0 A na xA) (hB : RowR w0 B nb xB) (hC : RowR w0 C nc xC) (h : Wrt b l w) (hL : L < 0 ∨ 4611686018427387904 < L) :
    Calls Try.prog 45 #[.pointer (some ⟨b, 0, none⟩), .agg #[.int .i64 L, .slice A na ca, .slice B nb cb, .slice C nc cc]] w fun o w' => o = .returned (.tuple #[]) ∧ Wrt b (l ++ sigE L xA xB xC) w' ∧ Below b w w' ∧ KpW w w' := by
  have hz := leafW_no L hL
  obtain ⟨N, hN0⟩ : ∃ N : Nat, N = 0 := ⟨0, rfl⟩
  have hN : N ≤ 4611686018427387904 := by omega
  have cZ := pkWNum_no b L hL (w.alloc (.cells #[.int .i64 L, .slice A na ca, .slice B nb cb, .slice C nc cc] 63))
  have hz' : leafW L = N := hz.trans hN0.symm
  have HN := hid (show (N : Int) = 0 by omega)
  have hLL := hid hL
  clear hL hN0 hz
  have hbw := Nat.le_of_lt h.lt
  have la := idsE_len xA na hA.1 hna hA.2.2.1
  have lb := idsE_len xB nb hB.1 hnb hB.2.2.1
  have lN := numE_len9 N hN
  have hx0 : Below b w (w.alloc (.cells #[.int .i64 L, .slice A na ca, .slice B nb cb, .slice C nc cc] 63)) := (Below.refl _ w).alloc hbw _
  have hk0 : KpW w (w.alloc (.cells #[.int .i64 L, .slice A na ca, .slice B nb cb, .slice C nc cc] 63)) := KpW.later ((Below.refl _ w).alloc (Nat.le_refl _) _)
  have hW0 : Wrt b l (w.alloc (.cells #[.int .i64 L, .slice A na ca, .slice B nb cb, .slice C nc cc] 63)) := h.below ((Below.refl _ w).alloc (Nat.le_refl _) _)
  have hbx0 := Blk.new w 63 #[.int .i64 L, .slice A na ca, .slice B nb cb, .slice C nc cc]
  have cN := wNum_any b l N hN (by omega) _ hW0
  have cA := fun W hb hW => wIds_any b (l ++ numE N) A na ca xA hna (by rw [List.length_append]; omega) w0 W h0 hb hA hW
  have cB := fun W hb hW => wIds_any b (l ++ numE N ++ idsE xA) B nb cb xB hnb (by rw [List.length_append, List.length_append]; omega) w0 W h0 hb hB hW
  have cC := fun W hb hW => wIds_any b (l ++ numE N ++ idsE xA ++ idsE xB) C nc cc xC hnc (by rw [List.length_append, List.length_append, List.length_append]; omega) w0 W h0 hb hC hW
  clear la lb lN
  go_enter Try.func45, Try.ntmps45
  go_wp2_with (first
    | (go_at_call 20; (with_reducible refine cZ.mono ?_); rintro o0 w1 ⟨rfl, rfl⟩; clear cZ; rw [HN.out] at cN)
    | (go_at_call 20; (with_reducible refine cN.mono ?_); rintro o1 w1 ⟨rfl, hW1, hB1, hK1⟩; have hbx1 := hK1 _ _ _ (by decide) (by decide) hbx0; have hX1 := hx0.trans hB1; have hKX1 := hk0.trans hK1; have hbw1 := hw0.trans (hX1.mono h0); have f11 := hbx1.cell_ (i := 1) rfl; have f12 := hbx1.cell_ (i := 2) rfl; have f13 := hbx1.cell_ (i := 3) rfl)
    | (go_at_call 24; (with_reducible refine (cA w1 hbw1 hW1).mono ?_); rintro o2 w2 ⟨rfl, hW2, hB2, hK2⟩; have hbx2 := hK2 _ _ _ (by decide) (by decide) hbx1; have hX2 := hX1.trans hB2; have hKX2 := hKX1.trans hK2; have hbw2 := hw0.trans (hX2.mono h0); have f21 := hbx2.cell_ (i := 1) rfl; have f22 := hbx2.cell_ (i := 2) rfl; have f23 := hbx2.cell_ (i := 3) rfl)
    | (go_at_call 24; (with_reducible refine (cB w2 hbw2 hW2).mono ?_); rintro o3 w3 ⟨rfl, hW3, hB3, hK3⟩; have hbx3 := hK3 _ _ _ (by decide) (by decide) hbx2; have hX3 := hX2.trans hB3; have hKX3 := hKX2.trans hK3; have hbw3 := hw0.trans (hX3.mono h0); have f31 := hbx3.cell_ (i := 1) rfl; have f32 := hbx3.cell_ (i := 2) rfl; have f33 := hbx3.cell_ (i := 3) rfl)
    | (go_at_call 24; (with_reducible refine (cC w3 hbw3 hW3).mono ?_); rintro o4 w4 ⟨rfl, hW4, hB4, hK4⟩; have hbx4 := hK4 _ _ _ (by decide) (by decide) hbx3; have hX4 := hX3.trans hB4; have hKX4 := hKX3.trans hK4; have hbw4 := hw0.trans (hX4.mono h0); have f41 := hbx4.cell_ (i := 1) rfl; have f42 := hbx4.cell_ (i := 2) rfl; have f43 := hbx4.cell_ (i := 3) rfl))
  go_end0
  refine ⟨rfl, ?_, hX4, hKX4⟩
  simpa [sigE, hz', List.append_assoc] using hW4
theorem sput_any (b : Nat) (l : List UInt8) (L : Int) (A B C : Option Addr) (na ca nb cb nc cc : Nat) (xA xB xC : List (List UInt8)) (hna : na ≤ 1000) (hnb : nb ≤ 1000) (hnc : nc ≤ 1000) (hl : l.length ≤ 10000000) (w0 w : World) (h0 : w0.heap.size ≤ b) (hw0 : Below w0.heap.size w0 w) (hA : RowR w0 A na xA) (hB : RowR w0 B nb xB) (hC : RowR w0 C nc xC) (h : Wrt b l w) :
    Calls Try.prog 45 #[.pointer (some ⟨b, 0, none⟩), .agg #[.int .i64 L, .slice A na ca, .slice B nb cb, .slice C nc cc]] w fun o w' => o = .returned (.tuple #[]) ∧ Wrt b (l ++ sigE L xA xB xC) w' ∧ Below b w w' ∧ KpW w w' := by
  rcases leaf_cases L with ⟨N, hL, hN⟩ | hL
  · exact sput_yes b l L A B C na ca nb cb nc cc xA xB xC hna hnb hnc hl w0 w h0 hw0 hA hB hC h N hL hN
  · exact sput_no b l L A B C na ca nb cb nc cc xA xB xC hna hnb hnc hl w0 w h0 hw0 hA hB hC h hL
set_option maxRecDepth 100000 in
set_option maxHeartbeats 40000000 in
theorem rbytes8_yes (L : Int) (A B C : Option Addr) (na ca nb cb nc cc : Nat) (xA xB xC : List (List UInt8)) (hna : na ≤ 1000) (hnb : nb ≤ 1000) (hnc : nc ≤ 1000) (w : World) (hA : RowR w A na xA) (hB : RowR w B nb xB) (hC : RowR w C nc xC) (N : Nat) (hL : L = N) (hN : N ≤ 4611686018427387904) :
    Calls Try.prog 47 #[.agg #[.int .i64 L, .slice A na ca, .slice B nb cb, .slice C nc cc]] w fun o w' => o = .returned (.string (txt (sigE L xA xB xC))) ∧ Below w.heap.size w w' := by
  have hz := leafW_nat N hN
  subst hL
  have v0 : ¬ (N : Int) < 0 := by omega
  have v1 : ¬ (4611686018427387904 : Int) < N := by omega
  have mixed : Try.prog.follows .mixedOrders = true := by kernel_rfl
  have la := idsE_len xA na hA.1 hna hA.2.2.1
  have lb := idsE_len xB nb hB.1 hnb hB.2.2.1
  have lc := idsE_len xC nc hC.1 hnc hC.2.2.1
  have lN := numE_len9 N hN
  have hx : Below w.heap.size w (w.alloc (.cells #[.int .i64 (N : Int), .slice A na ca, .slice B nb cb, .slice C nc cc] 63)) := (Below.refl _ w).alloc (Nat.le_refl _) _
  have hbx := Blk.new w 63 #[.int .i64 (N : Int), .slice A na ca, .slice B nb cb, .slice C nc cc]
  have hcN := fun W => rPkNum_any N hN W
  have hcA := fun W (hb : Below w.heap.size w W) => rPkIds_any A na ca xA hna W (hA.below hb)
  have hcB := fun W (hb : Below w.heap.size w W) => rPkIds_any B nb cb xB hnb W (hB.below hb)
  have hcC := fun W (hb : Below w.heap.size w W) => rPkIds_any C nc cc xC hnc W (hC.below hb)
  unfold sigE
  rw [hz]
  generalize numE N = E at *
  generalize idsE xA = F at *
  generalize idsE xB = G at *
  generalize idsE xC = H at *
  have z1 : ¬ (9223372036854775807 : Int) < E.length + F.length := by omega
  have z2 : ¬ (9223372036854775807 : Int) < E.length + (F.length + G.length) := by omega
  have z3 : ¬ (9223372036854775807 : Int) < E.length + (F.length + (G.length + H.length)) := by omega
  have y2 : ¬ (9223372036854775807 : Int) < E.length + F.length + G.length := by omega
  have y3 : ¬ (9223372036854775807 : Int) < E.length + F.length + G.length + H.length := by omega
  have u1 : ¬ (9223372036854775807 : Nat) < E.length + F.length := by omega
  have u2 : ¬ (9223372036854775807 : Nat) < E.length + (F.length + G.length) := by omega
  have u3 : ¬ (9223372036854775807 : Nat) < E.length + (F.length + (G.length + H.length)) := by omega
  have i2 : ¬ (9223372036854775807 : Nat) < E.length + F.length + G.length := by omega
  have j3 : ¬ (9223372036854775807 : Nat) < E.length + (F.length + G.length) + H.length := by omega
  have i3 : ¬ (9223372036854775807 : Nat) < E.length + F.length + G.length + H.length := by omega
  clear la lb lc lN hA hB hC
  go_enter Try.func47, Try.ntmps47
  go_wp2_with (fail)
  have HBX := hid hbx
  generalize hW : w.alloc (.cells #[.int .i64 (N : Int), .slice A na ca, .slice B nb cb, .slice C nc cc] 63) = W0 at *
  have f1 : ∀ P : LaterW W0, P.w.cell? ⟨w.heap.size, 1, none⟩ = some (.slice A na ca) := fun P => (HBX.out.below P.h).cell_ rfl
  have f2 : ∀ P : LaterW W0, P.w.cell? ⟨w.heap.size, 2, none⟩ = some (.slice B nb cb) := fun P => (HBX.out.below P.h).cell_ rfl
  have f3 : ∀ P : LaterW W0, P.w.cell? ⟨w.heap.size, 3, none⟩ = some (.slice C nc cc) := fun P => (HBX.out.below P.h).cell_ rfl
  have hXp : ∀ P : LaterW W0, Below w.heap.size w P.w := fun P => hx.trans (P.h.mono hx.size)
  clear hbx
  refine wp_region_later mixed (by kernel_rfl) ?_
  repeat (first
    | ((with_reducible refine wpQuiet_skip (by with_unfolding_all rfl) ?_); simp only [Act.put, List.setIfInBounds_toArray, List.set_cons_zero, List.set_cons_succ])
    | ((with_reducible refine wpQuiet_step (fun K hK => ?_)); go_simp; first | ((with_reducible refine hK _ ?_); clear hK K) | (with_reducible apply Exists.intro; (with_reducible refine ⟨fun P => ?_, hK _ ?_⟩); (first | (go_at_call 26; exact later_of (hcN _)) | (go_at_call 30; exact later_of (hcA _ (hXp P))) | (go_at_call 30; exact later_of (hcB _ (hXp P))) | (go_at_call 30; exact later_of (hcC _ (hXp P)))); clear hK K)))
  with_reducible refine wpQuiet_nil ?_
  intro _ hw'
  obtain ⟨P, rfl⟩ := hw'
  have hB := hXp P
  clear f1 f2 f3 hXp
  generalize P.w = w2 at *
  go_wp2
  go_ret
  exact ⟨by rw [show E ++ F ++ G ++ H = E ++ (F ++ (G ++ H)) by simp]; rfl, hB⟩
set_option maxRecDepth 100000 in
set_option maxHeartbeats 40000000 in
theorem rbytes8_neg (L : Int) (A B C : Option Addr) (na ca nb cb nc cc : Nat) (xA xB xC : List (List UInt8)) (hna : na ≤ 1000) (hnb : nb ≤ 1000) (hnc : nc ≤ 1000) (w : World) (hA : RowR w A na xA) (hB : RowR w B nb xB) (hC : RowR w C nc xC) (hL : L < 0) :
    Calls Try.prog 47 #[.agg #[.int .i64 L, .slice A na ca, .slice B nb cb, .slice C nc cc]] w fun o w' => o = .returned (.string (txt (sigE L xA xB xC))) ∧ Below w.heap.size w w' := by
  obtain ⟨N, hN0⟩ : ∃ N : Nat, N = 0 := ⟨0, rfl⟩
  have hz : leafW L = N := (leafW_no L (.inl hL)).trans hN0.symm
  have hN : N ≤ 4611686018427387904 := by omega
  have HN := hid hN0
  clear hN0
  have mixed : Try.prog.follows .mixedOrders = true := by kernel_rfl
  have la := idsE_len xA na hA.1 hna hA.2.2.1
  have lb := idsE_len xB nb hB.1 hnb hB.2.2.1
  have lc := idsE_len xC nc hC.1 hnc hC.2.2.1
  have lN := numE_len9 N hN
  have hx : Below w.heap.size w (w.alloc (.cells #[.int .i64 L, .slice A na ca, .slice B nb cb, .slice C nc cc] 63)) := (Below.refl _ w).alloc (Nat.le_refl _) _
  have hbx := Blk.new w 63 #[.int .i64 L, .slice A na ca, .slice B nb cb, .slice C nc cc]
  have hcN := fun W => rPkNum_any N hN W
  have hcA := fun W (hb : Below w.heap.size w W) => rPkIds_any A na ca xA hna W (hA.below hb)
  have hcB := fun W (hb : Below w.heap.size w W) => rPkIds_any B nb cb xB hnb W (hB.below hb)
  have hcC := fun W (hb : Below w.heap.size w W) => rPkIds_any C nc cc xC hnc W (hC.below hb)
  unfold sigE
  rw [hz]
  generalize numE N = E at *
  generalize idsE xA = F at *
  generalize idsE xB = G at *
  generalize idsE xC = H at *
  have z1 : ¬ (9223372036854775807 : Int) < E.length + F.length := by omega
  have z2 : ¬ (9223372036854775807 : Int) < E.length + (F.length + G.length) := by omega
  have z3 : ¬ (9223372036854775807 : Int) < E.length + (F.length + (G.length + H.length)) := by omega
  have y2 : ¬ (9223372036854775807 : Int) < E.length + F.length + G.length := by omega
  have y3 : ¬ (9223372036854775807 : Int) < E.length + F.length + G.length + H.length := by omega
  have u1 : ¬ (9223372036854775807 : Nat) < E.length + F.length := by omega
  have u2 : ¬ (9223372036854775807 : Nat) < E.length + (F.length + G.length) := by omega
  have u3 : ¬ (9223372036854775807 : Nat) < E.length + (F.length + (G.length + H.length)) := by omega
  have i2 : ¬ (9223372036854775807 : Nat) < E.length + F.length + G.length := by omega
  have j3 : ¬ (9223372036854775807 : Nat) < E.length + (F.length + G.length) + H.length := by omega
  have i3 : ¬ (9223372036854775807 : Nat) < E.length + F.length + G.length + H.length := by omega
  clear la lb lc lN hA hB hC
  go_enter Try.func47, Try.ntmps47
  go_wp2_with (fail)
  rw [show (Value.int .i64 0 : Value) = .int .i64 (N : Int) by rw [HN.out]; rfl]
  have HBX := hid hbx
  generalize hW : w.alloc (.cells #[.int .i64 L, .slice A na ca, .slice B nb cb, .slice C nc cc] 63) = W0 at *
  have f1 : ∀ P : LaterW W0, P.w.cell? ⟨w.heap.size, 1, none⟩ = some (.slice A na ca) := fun P => (HBX.out.below P.h).cell_ rfl
  have f2 : ∀ P : LaterW W0, P.w.cell? ⟨w.heap.size, 2, none⟩ = some (.slice B nb cb) := fun P => (HBX.out.below P.h).cell_ rfl
  have f3 : ∀ P : LaterW W0, P.w.cell? ⟨w.heap.size, 3, none⟩ = some (.slice C nc cc) := fun P => (HBX.out.below P.h).cell_ rfl
  have hXp : ∀ P : LaterW W0, Below w.heap.size w P.w := fun P => hx.trans (P.h.mono hx.size)
  clear hbx
  refine wp_region_later mixed (by kernel_rfl) ?_
  repeat (first
    | ((with_reducible refine wpQuiet_skip (by with_unfolding_all rfl) ?_); simp only [Act.put, List.setIfInBounds_toArray, List.set_cons_zero, List.set_cons_succ])
    | ((with_reducible refine wpQuiet_step (fun K hK => ?_)); go_simp; first | ((with_reducible refine hK _ ?_); clear hK K) | (with_reducible apply Exists.intro; (with_reducible refine ⟨fun P => ?_, hK _ ?_⟩); (first | (go_at_call 26; exact later_of (hcN _)) | (go_at_call 30; exact later_of (hcA _ (hXp P))) | (go_at_call 30; exact later_of (hcB _ (hXp P))) | (go_at_call 30; exact later_of (hcC _ (hXp P)))); clear hK K)))
  with_reducible refine wpQuiet_nil ?_
  intro _ hw'
  obtain ⟨P, rfl⟩ := hw'
  have hB := hXp P
  clear f1 f2 f3 hXp
  generalize P.w = w2 at *
  go_wp2
  go_ret
  exact ⟨by rw [show E ++ F ++ G ++ H = E ++ (F ++ (G ++ H)) by simp]; rfl, hB⟩
set_option maxRecDepth 100000 in
set_option maxHeartbeats 40000000 in
theorem rbytes8_big (L : Int) (A B C : Option Addr) (na ca nb cb nc cc : Nat) (xA xB xC : List (List UInt8)) (hna : na ≤ 1000) (hnb : nb ≤ 1000) (hnc : nc ≤ 1000) (w : World) (hA : RowR w A na xA) (hB : RowR w B nb xB) (hC : RowR w C nc xC) (hL : 4611686018427387904 < L) :
    Calls Try.prog 47 #[.agg #[.int .i64 L, .slice A na ca, .slice B nb cb, .slice C nc cc]] w fun o w' => o = .returned (.string (txt (sigE L xA xB xC))) ∧ Below w.heap.size w w' := by
  obtain ⟨N, hN0⟩ : ∃ N : Nat, N = 0 := ⟨0, rfl⟩
  have hz : leafW L = N := (leafW_no L (.inr hL)).trans hN0.symm
  have hN : N ≤ 4611686018427387904 := by omega
  have v0 : ¬ L < 0 := by omega
  have HN := hid hN0
  clear hN0
  have mixed : Try.prog.follows .mixedOrders = true := by kernel_rfl
  have la := idsE_len xA na hA.1 hna hA.2.2.1
  have lb := idsE_len xB nb hB.1 hnb hB.2.2.1
  have lc := idsE_len xC nc hC.1 hnc hC.2.2.1
  have lN := numE_len9 N hN
  have hx : Below w.heap.size w (w.alloc (.cells #[.int .i64 L, .slice A na ca, .slice B nb cb, .slice C nc cc] 63)) := (Below.refl _ w).alloc (Nat.le_refl _) _
  have hbx := Blk.new w 63 #[.int .i64 L, .slice A na ca, .slice B nb cb, .slice C nc cc]
  have hcN := fun W => rPkNum_any N hN W
  have hcA := fun W (hb : Below w.heap.size w W) => rPkIds_any A na ca xA hna W (hA.below hb)
  have hcB := fun W (hb : Below w.heap.size w W) => rPkIds_any B nb cb xB hnb W (hB.below hb)
  have hcC := fun W (hb : Below w.heap.size w W) => rPkIds_any C nc cc xC hnc W (hC.below hb)
  unfold sigE
  rw [hz]
  generalize numE N = E at *
  generalize idsE xA = F at *
  generalize idsE xB = G at *
  generalize idsE xC = H at *
  have z1 : ¬ (9223372036854775807 : Int) < E.length + F.length := by omega
  have z2 : ¬ (9223372036854775807 : Int) < E.length + (F.length + G.length) := by omega
  have z3 : ¬ (9223372036854775807 : Int) < E.length + (F.length + (G.length + H.length)) := by omega
  have y2 : ¬ (9223372036854775807 : Int) < E.length + F.length + G.length := by omega
  have y3 : ¬ (9223372036854775807 : Int) < E.length + F.length + G.length + H.length := by omega
  have u1 : ¬ (9223372036854775807 : Nat) < E.length + F.length := by omega
  have u2 : ¬ (9223372036854775807 : Nat) < E.length + (F.length + G.length) := by omega
  have u3 : ¬ (9223372036854775807 : Nat) < E.length + (F.length + (G.length + H.length)) := by omega
  have i2 : ¬ (9223372036854775807 : Nat) < E.length + F.length + G.length := by omega
  have j3 : ¬ (9223372036854775807 : Nat) < E.length + (F.length + G.length) + H.length := by omega
  have i3 : ¬ (9223372036854775807 : Nat) < E.length + F.length + G.length + H.length := by omega
  clear la lb lc lN hA hB hC
  go_enter Try.func47, Try.ntmps47
  go_wp2_with (fail)
  rw [show (Value.int .i64 0 : Value) = .int .i64 (N : Int) by rw [HN.out]; rfl]
  have HBX := hid hbx
  generalize hW : w.alloc (.cells #[.int .i64 L, .slice A na ca, .slice B nb cb, .slice C nc cc] 63) = W0 at *
  have f1 : ∀ P : LaterW W0, P.w.cell? ⟨w.heap.size, 1, none⟩ = some (.slice A na ca) := fun P => (HBX.out.below P.h).cell_ rfl
  have f2 : ∀ P : LaterW W0, P.w.cell? ⟨w.heap.size, 2, none⟩ = some (.slice B nb cb) := fun P => (HBX.out.below P.h).cell_ rfl
  have f3 : ∀ P : LaterW W0, P.w.cell? ⟨w.heap.size, 3, none⟩ = some (.slice C nc cc) := fun P => (HBX.out.below P.h).cell_ rfl
  have hXp : ∀ P : LaterW W0, Below w.heap.size w P.w := fun P => hx.trans (P.h.mono hx.size)
  clear hbx
  refine wp_region_later mixed (by kernel_rfl) ?_
  repeat (first
    | ((with_reducible refine wpQuiet_skip (by with_unfolding_all rfl) ?_); simp only [Act.put, List.setIfInBounds_toArray, List.set_cons_zero, List.set_cons_succ])
    | ((with_reducible refine wpQuiet_step (fun K hK => ?_)); go_simp; first | ((with_reducible refine hK _ ?_); clear hK K) | (with_reducible apply Exists.intro; (with_reducible refine ⟨fun P => ?_, hK _ ?_⟩); (first | (go_at_call 26; exact later_of (hcN _)) | (go_at_call 30; exact later_of (hcA _ (hXp P))) | (go_at_call 30; exact later_of (hcB _ (hXp P))) | (go_at_call 30; exact later_of (hcC _ (hXp P)))); clear hK K)))
  with_reducible refine wpQuiet_nil ?_
  intro _ hw'
  obtain ⟨P, rfl⟩ := hw'
  have hB := hXp P
  clear f1 f2 f3 hXp
  generalize P.w = w2 at *
  go_wp2
  go_ret
  exact ⟨by rw [show E ++ F ++ G ++ H = E ++ (F ++ (G ++ H)) by simp]; rfl, hB⟩
theorem rbytes8_any (L : Int) (A B C : Option Addr) (na ca nb cb nc cc : Nat) (xA xB xC : List (List UInt8)) (hna : na ≤ 1000) (hnb : nb ≤ 1000) (hnc : nc ≤ 1000) (w : World) (hA : RowR w A na xA) (hB : RowR w B nb xB) (hC : RowR w C nc xC) :
    Calls Try.prog 47 #[.agg #[.int .i64 L, .slice A na ca, .slice B nb cb, .slice C nc cc]] w fun o w' => o = .returned (.string (txt (sigE L xA xB xC))) ∧ Below w.heap.size w w' := by
  rcases leaf_cases L with ⟨N, hL, hN⟩ | hL | hL
  · exact rbytes8_yes L A B C na ca nb cb nc cc xA xB xC hna hnb hnc w hA hB hC N hL hN
  · exact rbytes8_neg L A B C na ca nb cb nc cc xA xB xC hna hnb hnc w hA hB hC hL
  · exact rbytes8_big L A B C na ca nb cb nc cc xA xB xC hna hnb hnc w hA hB hC hL
set_option maxRecDepth 100000 in
set_option maxHeartbeats 40000000 in
theorem rsame8_any (L : Int) (A B C : Option Addr) (na ca nb cb nc cc : Nat) (xA xB xC : List (List UInt8)) (M : Int) (A2 B2 C2 : Option Addr) (ma da mb db mc dc : Nat) (yA yB yC : List (List UInt8)) (w : World) (hA : RowR w A na xA) (hB : RowR w B nb xB) (hC : RowR w C nc xC) (kA : RowR w A2 ma yA) (kB : RowR w B2 mb yB) (kC : RowR w C2 mc yC) :
    Calls Try.prog 48 #[.agg #[.int .i64 L, .slice A na ca, .slice B nb cb, .slice C nc cc], .agg #[.int .i64 M, .slice A2 ma da, .slice B2 mb db, .slice C2 mc dc]] w fun o w' => o = .returned (.bool (decide (L = M ∧ xA = yA ∧ xB = yB ∧ xC = yC))) ∧ Below w.heap.size w w' := by
  have cA := fun W (hb : Below w.heap.size w W) => rsame_any A A2 na ca ma da xA yA W (hA.below hb) (kA.below hb)
  have cB := fun W (hb : Below w.heap.size w W) => rsame_any B B2 nb cb mb db xB yB W (hB.below hb) (kB.below hb)
  have cC := fun W (hb : Below w.heap.size w W) => rsame_any C C2 nc cc mc dc xC yC W (hC.below hb) (kC.below hb)
  clear hA hB hC kA kB kC
  have hx : Below w.heap.size w ((w.alloc (.cells #[.int .i64 L, .slice A na ca, .slice B nb cb, .slice C nc cc] 63)).alloc (.cells #[.int .i64 M, .slice A2 ma da, .slice B2 mb db, .slice C2 mc dc] 63)) := ((Below.refl _ w).alloc (Nat.le_refl _) _).alloc (by simp) _
  have hb1 : Blk ((w.alloc (.cells #[.int .i64 L, .slice A na ca, .slice B nb cb, .slice C nc cc] 63)).alloc (.cells #[.int .i64 M, .slice A2 ma da, .slice B2 mb db, .slice C2 mc dc] 63)) w.heap.size 63 #[.int .i64 L, .slice A na ca, .slice B nb cb, .slice C nc cc] := (Blk.new w 63 #[.int .i64 L, .slice A na ca, .slice B nb cb, .slice C nc cc]).alloc _
  have hb2 : Blk ((w.alloc (.cells #[.int .i64 L, .slice A na ca, .slice B nb cb, .slice C nc cc] 63)).alloc (.cells #[.int .i64 M, .slice A2 ma da, .slice B2 mb db, .slice C2 mc dc] 63)) (w.heap.size + 1) 63 #[.int .i64 M, .slice A2 ma da, .slice B2 mb db, .slice C2 mc dc] := by
    have h := Blk.new (w.alloc (.cells #[.int .i64 L, .slice A na ca, .slice B nb cb, .slice C nc cc] 63)) 63 #[.int .i64 M, .slice A2 ma da, .slice B2 mb db, .slice C2 mc dc]
    rw [show (w.alloc (.cells #[.int .i64 L, .slice A na ca, .slice B nb cb, .slice C nc cc] 63)).heap.size = w.heap.size + 1 by simp] at h
    exact h
  have d : decide (L = M ∧ xA = yA ∧ xB = yB ∧ xC = yC) = (decide (L = M) && (decide (xA = yA) && (decide (xB = yB) && decide (xC = yC)))) := by simp
  rw [d]
  clear d
  go_enter Try.func48, Try.ntmps48
  by_cases e0 : L = M
  · subst e0
    generalize decide (xA = yA) = p1 at *
    generalize decide (xB = yB) = p2 at *
    generalize decide (xC = yC) = p3 at *
    cases p1 <;> cases p2 <;> cases p3 <;> (
      go_wp2_with (first
        | (go_at_call 10; (with_reducible refine (cA _ hx).mono ?_); rintro o1 w1 ⟨rfl, h1⟩; have hx1 := hx.trans (h1.mono hx.size); have b1 := hb1.below h1; have b2 := hb2.below h1; have f2 := b1.cell_ (i := 2) rfl; have f3 := b1.cell_ (i := 3) rfl; have k2 := b2.cell_ (i := 2) rfl; have k3 := b2.cell_ (i := 3) rfl; clear cA)
        | (go_at_call 10; (with_reducible refine (cB _ hx1).mono ?_); rintro o2 w2 ⟨rfl, h2⟩; have hx2 := hx1.trans (h2.mono hx1.size); have b1' := b1.below h2; have b2' := b2.below h2; have g3 := b1'.cell_ (i := 3) rfl; have j3 := b2'.cell_ (i := 3) rfl; clear cB)
        | (go_at_call 10; (with_reducible refine (cC _ hx2).mono ?_); rintro o3 w3 ⟨rfl, h3⟩; have hx3 := hx2.trans (h3.mono hx2.size)))
      go_ret
      first | exact ⟨rfl, hx3⟩ | exact ⟨rfl, hx2⟩ | exact ⟨rfl, hx1⟩)
  · have d0 : decide (L = M) = false := by simpa using e0
    rw [d0]
    go_wp2_with (fail)
    go_ret
    exact ⟨rfl, hx⟩
end Go.Proofs.Ythpdkdalfjahcaa

namespace Go.Proofs.Ythpdkdalfjahcaa
open Go.RowKit Go.Qc Go.Shelf

theorem own_rowR {w : World} {base n : Nat} {v : Value} {l : List (List UInt8)} (h : w.ownsRow base 24 32 v n (idsV l)) (h32 : ∀ x ∈ l, x.length = 32) (hn : n ≤ 1000000) : ∃ A c, v = .slice A n c ∧ RowR w A n l := by
  obtain ⟨A, c, h2, h1, h3⟩ := IdRd.own h h32
  exact ⟨A, c, h2, h1, hn, h3⟩
theorem rowR_nil (w : World) : RowR w none 0 [] := ⟨rfl, Nat.zero_le _, IdRd.nil_ _ _⟩
/-- A value that is a signature whose rows are read. -/
def SigR (W : World) (v : Value) (M : Nat) (yA yB yC : List (List UInt8)) : Prop := ∃ A n c B m d C k q, v = .agg #[.int .i64 M, .slice A n c, .slice B m d, .slice C k q] ∧ RowR W A n yA ∧ RowR W B m yB ∧ RowR W C k yC
def rdL (e : Int) (x : Nat) : Nat := if e = 0 then x else 0
def rdR (e : Int) (l : List (List UInt8)) : List (List UInt8) := if e = 0 then l else []
theorem vaI_len (most : Int) (s : List UInt8) (a : Nat) (e : Int) (k : Nat) (hk : most ≤ k) : (vaI most s a e).length ≤ k := by
  unfold vaI
  split
  · cases h : rowsR idR most (s.drop a) with
    | error e => exact Nat.zero_le _
    | ok p =>
      obtain ⟨L, n⟩ := p
      unfold rowsR cntN at h
      cases h1 : scanN 0 0 (s.drop a) with
      | error e => rw [h1] at h; cases h
      | ok p =>
        rw [h1] at h
        simp only at h
        by_cases hm : most < (p.1 : Int)
        · rw [if_pos hm] at h; cases h
        · rw [if_neg hm] at h
          simp only at h
          split at h
          · cases h
          · rename_i xs m h2
            injection h with h
            injection h with h3 _
            have := rowR_len _ _ _ _ _ h2
            subst h3
            show xs.length ≤ k
            omega
  · exact Nat.zero_le _
theorem sigR_of (w w' : World) (e : Int) (xL : Nat) (xA xB xC : List (List UInt8)) (nA : xA.length ≤ 1000000) (nB : xB.length ≤ 1000000) (nC : xC.length ≤ 1000000) (A B C : Option Addr) (c d q : Nat)
    (hA : w'.ownsRow w.heap.size 24 32 (.slice A xA.length c) xA.length (idsV xA)) (hB : w'.ownsRow w.heap.size 24 32 (.slice B xB.length d) xB.length (idsV xB)) (hC : w'.ownsRow w.heap.size 24 32 (.slice C xC.length q) xC.length (idsV xC))
    (h32 : (∀ x ∈ xA, x.length = 32) ∧ (∀ x ∈ xB, x.length = 32) ∧ (∀ x ∈ xC, x.length = 32)) :
    SigR w' (.agg (if e = 0 then #[.int .i64 xL, .slice A xA.length c, .slice B xB.length d, .slice C xC.length q] else #[.int .i64 0, .slice none 0 0, .slice none 0 0, .slice none 0 0])) (rdL e xL) (rdR e xA) (rdR e xB) (rdR e xC) := by
  unfold SigR rdL rdR
  obtain ⟨h1, h2, h3⟩ := h32
  by_cases he : e = 0
  · subst he
    obtain ⟨A', c', eA, rA⟩ := own_rowR hA h1 nA
    obtain ⟨B', d', eB, rB⟩ := own_rowR hB h2 nB
    obtain ⟨C', q', eC, rC⟩ := own_rowR hC h3 nC
    cases eA; cases eB; cases eC
    simp only [if_pos]
    exact ⟨A, _, c, B, _, d, C, _, q, rfl, rA, rB, rC⟩
  · simp only [if_neg he]
    exact ⟨none, 0, 0, none, 0, 0, none, 0, 0, rfl, rowR_nil _, rowR_nil _, rowR_nil _⟩
theorem sigLens (s : List UInt8) (a : Nat) : (sbA s a).length ≤ 1000000 ∧ (sbB s a).length ≤ 1000000 ∧ (sbC s a).length ≤ 1000000 :=
  ⟨Nat.le_trans (vaI_len 256 _ _ _ 256 (by decide)) (by decide), Nat.le_trans (vaI_len 256 _ _ _ 256 (by decide)) (by decide), Nat.le_trans (vaI_len 10 _ _ _ 256 (by decide)) (by decide)⟩
theorem sget_R (g : Nat) (s : List UInt8) (a : Nat) (hs : s.length ≤ 1000000000000) (ha : a ≤ s.length) (w : World) (hr : Rdr g s a 0 w) :
    Calls Try.prog 46 #[.pointer (some ⟨g, 0, none⟩)] w fun o w' => ∃ v, o = .returned v ∧ SigR w' v (rdL (q4 s a).2 (sbL s a)) (rdR (q4 s a).2 (sbA s a)) (rdR (q4 s a).2 (sbB s a)) (rdR (q4 s a).2 (sbC s a)) ∧ (q4 s a).1 ≤ s.length ∧ Step g s (q4 s a).1 (q4 s a).2 w w' := by
  refine (sget_any g s a hs ha w hr).mono fun o w' h => ?_
  obtain ⟨l1, l2, l3⟩ := sigLens s a
  obtain ⟨A, c, B, d, C, q, ho, hA, hB, hC, h32, hl, hst⟩ := h
  exact ⟨_, ho, sigR_of w w' _ _ _ _ _ l1 l2 l3 A B C c d q hA hB hC h32, hl, hst⟩
theorem rget8_R (s : List UInt8) (a : Nat) (hs : s.length ≤ 1000000000000) (ha : a ≤ s.length) (w : World) :
    Calls Try.prog 49 #[rv s a 0] w fun o w' => ∃ v, o = .returned (.tuple #[rv s (q4 s a).1 (q4 s a).2, v]) ∧ SigR w' v (rdL (q4 s a).2 (sbL s a)) (rdR (q4 s a).2 (sbA s a)) (rdR (q4 s a).2 (sbB s a)) (rdR (q4 s a).2 (sbC s a)) ∧ Below w.heap.size w w' := by
  refine (rget8_any s a hs ha w).mono fun o w' h => ?_
  obtain ⟨l1, l2, l3⟩ := sigLens s a
  obtain ⟨A, c, B, d, C, q, ho, hA, hB, hC, h32, hst⟩ := h
  exact ⟨_, ho, sigR_of w w' _ _ _ _ _ l1 l2 l3 A B C c d q hA hB hC h32, hst⟩
theorem stN_back (x : Nat) (hx : x ≤ 4611686018427387904) (rest : List UInt8) : stN (numE x ++ rest) 0 0 = ((numE x).length, 0) ∧ vaN (numE x ++ rest) 0 0 = x := by
  unfold stN vaN
  rw [if_pos rfl, if_pos rfl, List.drop_zero, scanN_back0 x hx rest]
  exact ⟨by simp, rfl⟩
theorem stI_back (most : Int) (l : List (List UInt8)) (hl : l.length ≤ 4611686018427387904) (hm : (l.length : Int) ≤ most) (h32 : ∀ x ∈ l, x.length = 32) (p rest : List UInt8) :
    stI most (p ++ (idsE l ++ rest)) p.length 0 = ((p ++ idsE l).length, 0) ∧ vaI most (p ++ (idsE l ++ rest)) p.length 0 = l := by
  unfold stI vaI
  rw [if_pos rfl, if_pos rfl, List.drop_left, idsR_back most l hl hm h32 rest]
  exact ⟨by simp, rfl⟩
/-- What was written of a signature is read back. -/
theorem sig_back (L : Int) (xA xB xC : List (List UInt8)) (hA : xA.length ≤ 256) (hB : xB.length ≤ 256) (hC : xC.length ≤ 10) (h1 : ∀ x ∈ xA, x.length = 32) (h2 : ∀ x ∈ xB, x.length = 32) (h3 : ∀ x ∈ xC, x.length = 32) :
    q4 (sigE L xA xB xC) 0 = ((sigE L xA xB xC).length, 0) ∧ sbL (sigE L xA xB xC) 0 = leafW L ∧ sbA (sigE L xA xB xC) 0 = xA ∧ sbB (sigE L xA xB xC) 0 = xB ∧ sbC (sigE L xA xB xC) 0 = xC := by
  have n1 := stN_back (leafW L) (leafW_le L) (idsE xA ++ (idsE xB ++ idsE xC))
  have n2 := stI_back 256 xA (by omega) (by omega) h1 (numE (leafW L)) (idsE xB ++ idsE xC)
  have n3 := stI_back 256 xB (by omega) (by omega) h2 (numE (leafW L) ++ idsE xA) (idsE xC)
  have n4 := stI_back 10 xC (by omega) (by omega) h3 (numE (leafW L) ++ idsE xA ++ idsE xB) []
  have e1 : sigE L xA xB xC = numE (leafW L) ++ (idsE xA ++ (idsE xB ++ idsE xC)) := by simp [sigE, List.append_assoc]
  have e3 : (numE (leafW L) ++ idsE xA) ++ (idsE xB ++ idsE xC) = sigE L xA xB xC := by simp [sigE, List.append_assoc]
  have e4 : (numE (leafW L) ++ idsE xA ++ idsE xB) ++ (idsE xC ++ []) = sigE L xA xB xC := by simp [sigE, List.append_assoc]
  rw [← e1] at n1 n2
  rw [e3] at n3
  rw [e4] at n4
  have hq1 : q1 (sigE L xA xB xC) 0 = ((numE (leafW L)).length, 0) := n1.1
  have hq2 : q2 (sigE L xA xB xC) 0 = ((numE (leafW L) ++ idsE xA).length, 0) := by unfold q2; rw [hq1]; exact n2.1
  have hq3 : q3 (sigE L xA xB xC) 0 = ((numE (leafW L) ++ idsE xA ++ idsE xB).length, 0) := by unfold q3; rw [hq2]; exact n3.1
  have hq4 : q4 (sigE L xA xB xC) 0 = ((sigE L xA xB xC).length, 0) := by unfold q4; rw [hq3]; exact n4.1
  refine ⟨hq4, n1.2, ?_, ?_, ?_⟩
  · unfold sbA; rw [hq1]; exact n2.2
  · unfold sbB; rw [hq2]; exact n3.2
  · unfold sbC; rw [hq3]; exact n4.2
theorem step_below {g : Nat} {s : List UInt8} {a : Nat} {e : Int} {w w' : World} (hr : Rdr g s a e w) (h : Step g s a e w w') : Below w.heap.size w w' := by
  refine ⟨h.gb.os, h.gb.tape, h.gb.output, h.gb.size, fun k hk => ?_⟩
  by_cases hkg : k = g
  · subst hkg
    exact (show w'.heap[k]? = _ from h.r).trans (show w.heap[k]? = _ from hr).symm
  · exact h.gb.block k hk (fun e => hkg (Option.some.inj e))
end Go.Proofs.Ythpdkdalfjahcaa

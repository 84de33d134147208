/- journal: readings as total functions; a frame that is read, as data. -/
import Derived.Test.YtemdmdgigmhlbaaGreatJn9
import Derived.Test.YtemdmdgigmhlbaaGreatPkU
set_option linter.unusedSimpArgs false
set_option linter.unusedVariables false
namespace Go.Proofs.YtemdmdgigmhlbaaGreat
open Go.RowKit Go.Qc Go.Shelf
attribute [local go_sem] txt_size txt_append ib_fold
set_option maxHeartbeats 4000000 in
theorem pkText_oldJ (g : Nat) (s : List UInt8) (a : Nat) (e most : Int) (he : e ≠ 0) (w : World) (hr : Rdr g s a e w) :
    Calls Tryz.prog 56 #[.pointer (some ⟨g, 0, none⟩), .int .i64 most] w fun o w' => o = .returned (.string ⟨#[]⟩) ∧ Step g s a e w w' := by
  have hne : (e != 0) = true := by simpa using he
  have hk : (w.alloc (.cells #[.pointer (some ⟨g, 0, none⟩)] 78)).heap.size = w.heap.size + 1 := by simp
  have b1 := (Blk.new w 78 #[.pointer (some ⟨g, 0, none⟩)]).alloc (.cells #[.int .i64 most] 3)
  have hr2 : Rdr g s a e ((w.alloc (.cells #[.pointer (some ⟨g, 0, none⟩)] 78)).alloc (.cells #[.int .i64 most] 3)) := (Blk.alloc hr _).alloc _
  have hB : Below w.heap.size w ((w.alloc (.cells #[.pointer (some ⟨g, 0, none⟩)] 78)).alloc (.cells #[.int .i64 most] 3)) := ((Below.refl _ w).alloc (Nat.le_refl _) _).alloc (by simp) _
  have hst : Step g s a e w ((w.alloc (.cells #[.pointer (some ⟨g, 0, none⟩)] 78)).alloc (.cells #[.int .i64 most] 3)) := (Step.same hr).below hB
  have cR : Calls Tryz.prog 69 #[.pointer (some ⟨g, 0, none⟩), .func (.func 70) #[] #[.pointer (some ⟨w.heap.size, 0, none⟩), .pointer (some ⟨w.heap.size + 1, 0, none⟩)]] ((w.alloc (.cells #[.pointer (some ⟨g, 0, none⟩)] 78)).alloc (.cells #[.int .i64 most] 3)) fun o w' => o = .returned (.string ⟨#[]⟩) ∧ Step g s a e ((w.alloc (.cells #[.pointer (some ⟨g, 0, none⟩)] 78)).alloc (.cells #[.int .i64 most] 3)) w' := by
    generalize (w.alloc (.cells #[.pointer (some ⟨g, 0, none⟩)] 78)).alloc (.cells #[.int .i64 most] 3) = W at *
    have c2 := hr2.c2
    go_enter Tryz.func69, Tryz.ntmps69
    go_wp2
    go_ret
    exact ⟨rfl, Step.same hr2⟩
  have e1 : ((w.alloc (.cells #[.pointer (some ⟨g, 0, none⟩)] 78)).alloc (.cells #[.int .i64 most] 3)).cell? ⟨w.heap.size, 0, none⟩ = some (.pointer (some ⟨g, 0, none⟩)) := b1.cell_ rfl
  clear b1 hr2 hk hB
  go_enter Tryz.func56, Tryz.ntmps56
  go_wp2_with (first
    | (go_at_call 69; (with_reducible refine cR.mono ?_); rintro o1 w1 ⟨rfl, h1⟩))
  go_ret
  exact ⟨rfl, hst.trans h1⟩
def stTJ (most : Int) (s : List UInt8) (a : Nat) (e : Int) : Nat × Int := if e = 0 then (match textR most (s.drop a) with | .ok (_, n) => (a + n, 0) | .error e' => (a, e')) else (a, e)
def vaTJ (most : Int) (s : List UInt8) (a : Nat) (e : Int) : List UInt8 := if e = 0 then (match textR most (s.drop a) with | .ok (v, _) => v | .error _ => []) else []
theorem stT_leJ (most : Int) (s : List UInt8) (a : Nat) (e : Int) (ha : a ≤ s.length) : (stTJ most s a e).1 ≤ s.length := by
  unfold stTJ
  split
  · cases h : textR most (s.drop a) with
    | ok p => exact (textR_len h ha).2
    | error e => exact ha
  · exact ha
theorem pkTextTJ (g : Nat) (s : List UInt8) (a : Nat) (e most : Int) (hs : s.length ≤ 1000000000000) (ha : a ≤ s.length) (w : World) (hr : Rdr g s a e w) :
    Calls Tryz.prog 56 #[.pointer (some ⟨g, 0, none⟩), .int .i64 most] w fun o w' => o = .returned (.string (txt (vaTJ most s a e))) ∧ Step g s (stTJ most s a e).1 (stTJ most s a e).2 w w' := by
  unfold vaTJ stTJ
  by_cases he : e = 0
  · subst he
    rw [if_pos rfl, if_pos rfl]
    have := pkText_any g s a most hs ha w hr
    cases h : textR most (s.drop a) with
    | ok p => rw [h] at this; exact this
    | error e => rw [h] at this; exact this.mono (by rintro o w' ⟨h1, _, h2⟩; exact ⟨h1, h2⟩)
  · rw [if_neg he, if_neg he]
    exact pkText_oldJ g s a e most he w hr
set_option maxHeartbeats 4000000 in
theorem pkByte_oldJ (g : Nat) (s : List UInt8) (a : Nat) (e : Int) (he : e ≠ 0) (w : World) (hr : Rdr g s a e w) :
    Calls Tryz.prog 55 #[.pointer (some ⟨g, 0, none⟩)] w fun o w' => o = .returned (.int .u8 0) ∧ Step g s a e w w' := by
  have hg := enters_of Tryz.func68 (by kernel_rfl) rfl
  have c2 := hr.c2
  have hne : (e != 0) = true := by simpa using he
  have cR : Calls Tryz.prog 67 #[.pointer (some ⟨g, 0, none⟩), .func (.func 68) #[.pointer (some ⟨g, 0, none⟩)] #[]] w fun o w' => o = .returned (.int .u8 0) ∧ Step g s a e w w' := by
    go_enter Tryz.func67, Tryz.ntmps67
    go_wp2
    go_ret
    exact ⟨rfl, Step.same hr⟩
  go_enter Tryz.func55, Tryz.ntmps55
  go_wp2_with (first
    | (go_at_call 67; (with_reducible refine cR.mono ?_); rintro o1 w1 ⟨rfl, h1⟩))
  go_ret
  exact ⟨rfl, h1⟩
def stBJ (s : List UInt8) (a : Nat) (e : Int) : Nat × Int := if e = 0 then (match byteR (s.drop a) with | .ok (_, n) => (a + n, 0) | .error e' => (a, e')) else (a, e)
def vaBJ (s : List UInt8) (a : Nat) (e : Int) : UInt8 := if e = 0 then (match byteR (s.drop a) with | .ok (v, _) => v | .error _ => 0) else 0
theorem pkByteTJ (g : Nat) (s : List UInt8) (a : Nat) (e : Int) (hs : s.length ≤ 1000000000000) (ha : a ≤ s.length) (w : World) (hr : Rdr g s a e w) :
    Calls Tryz.prog 55 #[.pointer (some ⟨g, 0, none⟩)] w fun o w' => o = .returned (u8v (vaBJ s a e)) ∧ Step g s (stBJ s a e).1 (stBJ s a e).2 w w' := by
  unfold vaBJ stBJ
  by_cases he : e = 0
  · subst he
    rw [if_pos rfl, if_pos rfl]
    have := pkByteR_any g s a hs ha w hr
    cases h : byteR (s.drop a) with
    | ok p => rw [h] at this; exact this
    | error e => rw [h] at this; exact this.mono (by rintro o w' ⟨h1, _, h2⟩; exact ⟨h1, h2⟩)
  · rw [if_neg he, if_neg he]
    exact pkByte_oldJ g s a e he w hr
theorem stB_leJ (s : List UInt8) (a : Nat) (e : Int) (ha : a ≤ s.length) : (stBJ s a e).1 ≤ s.length := by
  unfold stBJ
  split
  · by_cases h : a < s.length
    · rw [byteR_at (List.getElem?_eq_getElem h)]; exact h
    · rw [byteR_end (by omega)]; exact ha
  · exact ha
/-- Eight bytes that are read, so many of them. -/
def slJ (s : List UInt8) (a : Nat) (e : Int) : Nat → List UInt8 × Nat × Int
  | 0 => ([], a, e)
  | k + 1 => ((slJ s a e k).1 ++ [vaBJ s (slJ s a e k).2.1 (slJ s a e k).2.2], stBJ s (slJ s a e k).2.1 (slJ s a e k).2.2)
theorem slJ_len (s : List UInt8) (a : Nat) (e : Int) : ∀ k, (slJ s a e k).1.length = k
  | 0 => rfl
  | k + 1 => by rw [slJ, List.length_append, slJ_len s a e k]; rfl
theorem slJ_le (s : List UInt8) (a : Nat) (e : Int) (ha : a ≤ s.length) : ∀ k, (slJ s a e k).2.1 ≤ s.length
  | 0 => ha
  | k + 1 => by rw [slJ]; exact stB_leJ _ _ _ (slJ_le s a e ha k)
/-- A frame that is read at a place: it, and the place behind it. -/
def kJ (s : List UInt8) (a : Nat) : UInt8 := vaBJ s (stBJ s a 0).1 (stBJ s a 0).2
def kS (s : List UInt8) (a : Nat) : Nat × Int := stBJ s (stBJ s a 0).1 (stBJ s a 0).2
def pJ (s : List UInt8) (a : Nat) : List UInt8 := vaTJ 4194304 s (kS s a).1 (kS s a).2
def pS (s : List UInt8) (a : Nat) : Nat × Int := stTJ 4194304 s (kS s a).1 (kS s a).2
def sJ (s : List UInt8) (a : Nat) : List UInt8 × Nat × Int := slJ s (pS s a).1 (pS s a).2 8
def fJ (s : List UInt8) (a : Nat) : FmD := ⟨((kJ s a).toNat : Int), pJ s a⟩
def frR (s C : List UInt8) (a : Nat) : Option (FmD × Nat) :=
  if vaBJ s a 0 ≠ 74 then none else if (sJ s a).2.2 ≠ 0 then none else if ¬ (fJ s a).okF then none else if (sJ s a).1 ≠ (nxtB C (fJ s a)).take 8 then none else some (fJ s a, (sJ s a).2.1)
end Go.Proofs.YtemdmdgigmhlbaaGreat
/- journal: a frame is read, the walk. -/
set_option linter.unusedSimpArgs false
set_option linter.unusedVariables false
namespace Go.Proofs.YtemdmdgigmhlbaaGreat
open Go.RowKit Go.Qc Go.Shelf
attribute [local go_sem] txt_size txt_append ib_fold
theorem results_cct {P : Program} {fn : Func} {t p u : Tmp} {ty tz : TypeId} (h : fn.results = #[.cell t ty, .cell p tz, .tmp u]) (tmps : Array Value) (w : World) (g1 g2 : Nat) (t1 t2 : TypeId) (cs ds : Array Value) (d1 d2 : TypeDesc)
    (hp1 : tmps.getD t undef = .pointer (some ⟨g1, 0, none⟩)) (hg1 : Blk w g1 t1 cs) (hu1 : P.underlying ty = some d1) (hd1 : (match d1 with | .struct _ | .array _ _ => true | _ => false) = true) (hi1 : (P.info? ty).map (·.size) = some cs.size)
    (hp2 : tmps.getD p undef = .pointer (some ⟨g2, 0, none⟩)) (hg2 : Blk w g2 t2 ds) (hu2 : P.underlying tz = some d2) (hd2 : (match d2 with | .struct _ | .array _ _ => true | _ => false) = true) (hi2 : (P.info? tz).map (·.size) = some ds.size) :
    (results fn tmps).run P w = .ok (.tuple #[.agg cs, .agg ds, tmps.getD u undef]) w := by
  have q1 : tmps[t]?.getD undef = .pointer (some ⟨g1, 0, none⟩) := by simpa using hp1
  have q2 : tmps[p]?.getD undef = .pointer (some ⟨g2, 0, none⟩) := by simpa using hp2
  simp only [results, h]
  simp [Sem.run_bind, q1, q2, asAddr, run_loadVar_row w g1 t1 ty cs (0, 0) d1 hg1 hu1 hd1 hi1, run_loadVar_row w g2 t2 tz ds (0, 0) d2 hg2 hu2 hd2 hi2, Result.andThen]
/-- A frame that is read: the chain's box, the frame's place, the chain's place behind it. -/
structure FmS (w : World) (g : Nat) (s : List UInt8) (a : Nat) (e : Int) (c : List UInt8) (fc zc : Array Value) (W : World) : Prop where
  bc : Blk W w.heap.size 42 (idVals c)
  bf : Blk W (w.heap.size + 1) 34 fc
  bz : Blk W (w.heap.size + 1 + 1) 42 zc
  sf : fc.size = 2
  sz : zc.size = 32
  gt : g < w.heap.size
  st : Step g s a e w W
theorem FmS.start {w : World} {g : Nat} {s : List UInt8} {a : Nat} {e : Int} (hr : Rdr g s a e w) (c : List UInt8) (fc zc : Array Value) (sf : fc.size = 2) (sz : zc.size = 32) :
    FmS w g s a e c fc zc (((w.alloc (.cells (idVals c) 42)).alloc (.cells fc 34)).alloc (.cells zc 42)) := by
  have h1 : (w.alloc (.cells (idVals c) 42)).heap.size = w.heap.size + 1 := by simp
  have h2 : ((w.alloc (.cells (idVals c) 42)).alloc (.cells fc 34)).heap.size = w.heap.size + 1 + 1 := by simp
  have b1 := (Blk.new (w.alloc (.cells (idVals c) 42)) 34 fc).alloc (.cells zc 42)
  have b2 := Blk.new ((w.alloc (.cells (idVals c) 42)).alloc (.cells fc 34)) 42 zc
  rw [h1] at b1
  rw [h2] at b2
  exact ⟨((Blk.new w 42 (idVals c)).alloc _).alloc _, b1, b2, sf, sz, hr.lt, (Step.same hr).below ((((Below.refl _ _).alloc (Nat.le_refl _) _).alloc (by simp) _).alloc (by simp; omega) _)⟩
section
variable {w : World} {g : Nat} {s : List UInt8} {a a' : Nat} {e e' : Int} {c : List UInt8} {fc zc : Array Value} {W W' : World}
theorem FmS.below (h : FmS w g s a e c fc zc W) (b : Below W.heap.size W W') : FmS w g s a e c fc zc W' :=
  ⟨h.bc.below b, h.bf.below b, h.bz.below b, h.sf, h.sz, h.gt, h.st.below b⟩
theorem FmS.step (h : FmS w g s a e c fc zc W) (k : Step g s a' e' W W') : FmS w g s a' e' c fc zc W' :=
  ⟨(k.gb.block _ h.bc.lt (by intro x; have := Option.some.inj x; have := h.gt; omega)).trans h.bc, (k.gb.block _ h.bf.lt (by intro x; have := Option.some.inj x; have := h.gt; omega)).trans h.bf, (k.gb.block _ h.bz.lt (by intro x; have := Option.some.inj x; have := h.gt; omega)).trans h.bz, h.sf, h.sz, h.gt, h.st.trans k⟩
theorem Step.own {p : Nat} (h : Step g s a e w W) (k : W.grownBy W' (some p)) (hp : w.heap.size ≤ p) (hg : g < w.heap.size) : Step g s a e w W' :=
  ⟨(k.block _ (Rdr.lt h.r) (by intro x; have := Option.some.inj x; omega)).trans h.r, k.os.trans h.gb.os, k.tape.trans h.gb.tape, k.output.trans h.gb.output, Nat.le_trans h.gb.size k.size, fun i hi hne => (k.block i (Nat.lt_of_lt_of_le hi h.gb.size) (by intro x; have := Option.some.inj x; omega)).trans (h.gb.block i hi hne)⟩
theorem FmS.putf {fc' : Array Value} (h : FmS w g s a e c fc zc W) (k : W.grownBy W' (some (w.heap.size + 1))) (hb : Blk W' (w.heap.size + 1) 34 fc') (hs : fc'.size = 2) : FmS w g s a e c fc' zc W' :=
  ⟨(k.block _ h.bc.lt (by intro x; have := Option.some.inj x; omega)).trans h.bc, hb, (k.block _ h.bz.lt (by intro x; have := Option.some.inj x; omega)).trans h.bz, hs, h.sz, h.gt, h.st.own k (by omega) h.gt⟩
theorem FmS.putz {zc' : Array Value} (h : FmS w g s a e c fc zc W) (k : W.grownBy W' (some (w.heap.size + 1 + 1))) (hb : Blk W' (w.heap.size + 1 + 1) 42 zc') (hs : zc'.size = 32) : FmS w g s a e c fc zc' W' :=
  ⟨(k.block _ h.bc.lt (by intro x; have := Option.some.inj x; omega)).trans h.bc, (k.block _ h.bf.lt (by intro x; have := Option.some.inj x; omega)).trans h.bf, hb, h.sf, hs, h.gt, h.st.own k (by omega) h.gt⟩
theorem FmS.puts {p : Nat} (h : FmS w g s a e c fc zc W) (k : W.grownBy W' (some p)) (hp : w.heap.size + 1 + 1 < p) : FmS w g s a e c fc zc W' :=
  ⟨(k.block _ h.bc.lt (by intro x; have := Option.some.inj x; omega)).trans h.bc, (k.block _ h.bf.lt (by intro x; have := Option.some.inj x; omega)).trans h.bf, (k.block _ h.bz.lt (by intro x; have := Option.some.inj x; omega)).trans h.bz, h.sf, h.sz, h.gt, h.st.own k (by omega) h.gt⟩
end
def zF : Array Value := #[.int .i64 0, .string ⟨#[]⟩]
/-- What a frame's reading answers. -/
def FmP (g : Nat) (s C : List UInt8) (a : Nat) (w : World) (o : Ending) (w' : World) : Prop :=
  match frR s C a with
  | some (X, b) => o = .returned (.tuple #[.agg X.cs, .agg (idVals (nxtB C X)), .bool true]) ∧ Step g s b 0 w w'
  | none => o = .returned (.tuple #[.agg zF, .agg (idVals zeroB), .bool false]) ∧ ∃ b e, Step g s b e w w'
theorem next_yes (c : List UInt8) (hc : c.length = 32) (X : FmD) (h : X.okF) (hp : X.p.length ≤ 5000) (w : World) :
    Calls Tryz.prog 43 #[.agg (List.map u8v c).toArray, .agg X.cs] w fun e w' => e = .returned (.tuple #[.agg (idVals (nxtB c X)), .int .i64 0]) ∧ Below w.heap.size w w' := by
  obtain ⟨n, h1, h2, h3⟩ := h.nat
  rw [h3]
  exact next_ok c hc n h1 h2 X.p hp w
theorem next_no (c : List UInt8) (X : FmD) (h : ¬ X.okF) (w : World) :
    Calls Tryz.prog 43 #[.agg (List.map u8v c).toArray, .agg X.cs] w fun e w' => e = .returned (.tuple #[.agg (idVals zeroB), .int .i64 1]) ∧ Below w.heap.size w w' := next_arg c X.k X.p (FmD.okF.no h) w
/-- The end of a frame that isn't whole: zeros, false. -/
theorem fr_zeros {w : World} {g : Nat} {s C : List UInt8} {a b : Nat} {e : Int} {W : World} {tmps : Array Value} (h : FmS w g s b e C zF (idVals zeroB) W) (hn : frR s C a = none)
    (h4 : tmps.getD 4 undef = .pointer (some ⟨w.heap.size + 1, 0, none⟩)) (h5 : tmps.getD 5 undef = .pointer (some ⟨w.heap.size + 1 + 1, 0, none⟩)) (h6 : tmps.getD 6 undef = .bool false) :
    (results Tryz.f37 tmps).run Tryz.prog W = .ok (.tuple #[.agg zF, .agg (idVals zeroB), .bool false]) W := by
  have := results_cct (P := Tryz.prog) (fn := Tryz.f37) (t := 4) (p := 5) (u := 6) (by rfl) tmps W _ _ _ _ zF (idVals zeroB) _ _ h4 h.bf Tryz.underlying34 rfl Fj_infoN h5 h.bz Tryz.underlying42 rfl (by rw [idVals_size]; exact sizeId)
  rw [h6] at this
  exact this
theorem fr_none {w : World} {g : Nat} {s C : List UInt8} {a b : Nat} {e : Int} {W : World} {fc zc : Array Value} (h : FmS w g s b e C fc zc W) (hn : frR s C a = none) : FmP g s C a w (.returned (.tuple #[.agg zF, .agg (idVals zeroB), .bool false])) W := by
  unfold FmP
  rw [hn]
  exact ⟨rfl, b, e, h.st⟩
end Go.Proofs.YtemdmdgigmhlbaaGreat


/- op: an operation is read, by the program -/
import Derived.Test.YthpdkdalfjahcaaOpA
import Derived.Test.YthpdkdalfjahcaaOp1
set_option linter.unusedSimpArgs false
set_option linter.unusedVariables false
namespace Go.Proofs.Ythpdkdalfjahcaa
open Go.RowKit Go.Qc Go.Shelf
attribute [local go_sem] txt_size txt_append ib_fold txt_toL

theorem opC_lit (k : Int) : opC ⟨k, [], [], 0, [], [], zeroB, 0⟩ none 0 0 none 0 0 = #[.int .i64 k, .string ⟨#[]⟩, .string ⟨#[]⟩, .int .i64 0, .slice none 0 0, .slice none 0 0, .int .u8 0, .int .u8 0, .int .u8 0, .int .u8 0, .int .u8 0, .int .u8 0, .int .u8 0, .int .u8 0, .int .u8 0, .int .u8 0, .int .u8 0, .int .u8 0, .int .u8 0, .int .u8 0, .int .u8 0, .int .u8 0, .int .u8 0, .int .u8 0, .int .u8 0, .int .u8 0, .int .u8 0, .int .u8 0, .int .u8 0, .int .u8 0, .int .u8 0, .int .u8 0, .int .u8 0, .int .u8 0, .int .u8 0, .int .u8 0, .int .u8 0, .int .u8 0, .int .i64 0] := by
  unfold opC; rw [zeroB_vals]; simp; rfl
theorem opC_set1 (D : OpD) (hK : D.K.length = 32) (A : Option Addr) (n c : Nat) (B : Option Addr) (m d : Nat) (q : List UInt8) : (opC D A n c B m d).setIfInBounds 1 (.string (txt q)) = opC { D with p := q } A n c B m d := by
  unfold opC idVals
  simp
theorem opC_set2 (D : OpD) (hK : D.K.length = 32) (A : Option Addr) (n c : Nat) (B : Option Addr) (m d : Nat) (q : List UInt8) : (opC D A n c B m d).setIfInBounds 2 (.string (txt q)) = opC { D with t := q } A n c B m d := by
  unfold opC idVals
  simp
theorem opC_set3 (D : OpD) (hK : D.K.length = 32) (A : Option Addr) (n c : Nat) (B : Option Addr) (m d : Nat) (q : Int) : (opC D A n c B m d).setIfInBounds 3 (.int .i64 q) = opC { D with a := q } A n c B m d := by
  unfold opC idVals
  simp
theorem opC_set38 (D : OpD) (hK : D.K.length = 32) (A : Option Addr) (n c : Nat) (B : Option Addr) (m d : Nat) (q : Int) : (opC D A n c B m d).setIfInBounds 38 (.int .i64 q) = opC { D with d := q } A n c B m d := by
  unfold opC idVals
  rw [Array.setIfInBounds_append_right (by simp [hK])]
  simp [hK]
theorem opC_set4 (D : OpD) (hK : D.K.length = 32) (A : Option Addr) (n c : Nat) (B : Option Addr) (m d : Nat) (q : List (List UInt8)) (A2 : Option Addr) (n2 c2 : Nat) : (opC D A n c B m d).setIfInBounds 4 (.slice A2 n2 c2) = opC { D with o := q } A2 n2 c2 B m d := by
  unfold opC idVals
  simp
theorem opC_set5 (D : OpD) (hK : D.K.length = 32) (A : Option Addr) (n c : Nat) (B : Option Addr) (m d : Nat) (q : List (List UInt8)) (B2 : Option Addr) (m2 d2 : Nat) : (opC D A n c B m d).setIfInBounds 5 (.slice B2 m2 d2) = opC { D with n := q } A n c B2 m2 d2 := by
  unfold opC idVals
  simp
theorem opC_setK (D : OpD) (hK : D.K.length = 32) (A : Option Addr) (n c : Nat) (B : Option Addr) (m d : Nat) (q : List UInt8) (hq : q.length = 32) : over (opC D A n c B m d) 6 (q.map u8v) = opC { D with K := q } A n c B m d := by
  obtain ⟨k, p, t, a, o, nn, K, dd⟩ := D
  have hK' : (K.map u8v).length = 32 := by rw [List.length_map]; exact hK
  unfold over opC idVals
  simp only [Array.toList_append, List.length_map, hq]
  have e1 : (#[Value.int .i64 k, .string (txt p), .string (txt t), .int .i64 a, .slice A n c, .slice B m d].toList ++ (K.map u8v).toArray.toList ++ #[Value.int .i64 dd].toList).take 6 = [Value.int .i64 k, .string (txt p), .string (txt t), .int .i64 a, .slice A n c, .slice B m d] := rfl
  have e2 : (#[Value.int .i64 k, .string (txt p), .string (txt t), .int .i64 a, .slice A n c, .slice B m d].toList ++ (K.map u8v).toArray.toList ++ #[Value.int .i64 dd].toList).drop (6 + 32) = [Value.int .i64 dd] := by
    rw [List.drop_left' (by simp [hK'])]
  rw [e1, e2]
  simp
/-- What stands while an operation is read: the reader, the operation's box, the result's box. -/
structure GetS (w W : World) (g : Nat) (s : List UInt8) (a : Nat) (e : Int) (ox : Nat) (D : OpD) (A : Option Addr) (n c : Nat) (B : Option Addr) (m d : Nat) : Prop where
  st : Step g s a e w W
  box : OpX W ox D A n c B m d
  res : Blk W w.heap.size 74 (opC opZ none 0 0 none 0 0)
  own1 : W.ownsRow w.heap.size 9 1 (.slice A n c) n (D.o.map strV)
  own2 : W.ownsRow w.heap.size 9 1 (.slice B m d) m (D.n.map strV)
  hox : w.heap.size < ox
  hg : g < w.heap.size
  hK : D.K.length = 32
section
variable {w W W' : World} {g : Nat} {s : List UInt8} {a : Nat} {e : Int} {ox : Nat} {D : OpD} {A : Option Addr} {n c : Nat} {B : Option Addr} {m d : Nat}
theorem GetS.step {a' : Nat} {e' : Int} (h : GetS w W g s a e ox D A n c B m d) (k : Step g s a' e' W W') : GetS w W' g s a' e' ox D A n c B m d :=
  ⟨h.st.trans k, ⟨blk_gb h.box.b k.gb (by have := h.hox; have := h.hg; omega)⟩, blk_gb h.res k.gb (by have := h.hg; omega), h.own1.kept k.gb (own_ne_low h.own1 h.hg), h.own2.kept k.gb (own_ne_low h.own2 h.hg), h.hox, h.hg, h.hK⟩
theorem GetS.below (h : GetS w W g s a e ox D A n c B m d) (hb : Below W.heap.size W W') : GetS w W' g s a e ox D A n c B m d :=
  ⟨h.st.below hb, h.box.below hb, h.res.below hb, own_below h.own1 hb, own_below h.own2 hb, h.hox, h.hg, h.hK⟩
theorem GetS.grown (h : GetS w W g s a e ox D A n c B m d) {cs : Array Value} {D' : OpD} {A' : Option Addr} {n' c' : Nat} {B' : Option Addr} {m' d' : Nat} (hg : W.grownBy W' (some ox)) (hb : Blk W' ox 74 cs) (hcs : cs = opC D' A' n' c' B' m' d') (hK : D'.K.length = 32)
    (o1 : W.ownsRow w.heap.size 9 1 (.slice A' n' c') n' (D'.o.map strV)) (o2 : W.ownsRow w.heap.size 9 1 (.slice B' m' d') m' (D'.n.map strV)) : GetS w W' g s a e ox D' A' n' c' B' m' d' :=
  ⟨h.st.new hg (Nat.le_of_lt h.hox) h.hg, ⟨hcs ▸ hb⟩, blk_gb h.res hg (by have := h.hox; omega), o1.kept hg (.inr (Lib.ownBlock_ne o1 h.box.b (by decide))), o2.kept hg (.inr (Lib.ownBlock_ne o2 h.box.b (by decide))), h.hox, h.hg, hK⟩
theorem GetS.set1 (h : GetS w W g s a e ox D A n c B m d) (q : List UInt8) : GetS w (W.setCell ⟨ox, 1, none⟩ (.string (txt q))) g s a e ox { D with p := q } A n c B m d :=
  h.grown (gb_set (gb_refl W (some ox)) 1 _) (h.box.b.set 1 _) (opC_set1 D h.hK A n c B m d q) h.hK h.own1 h.own2
theorem GetS.set2 (h : GetS w W g s a e ox D A n c B m d) (q : List UInt8) : GetS w (W.setCell ⟨ox, 2, none⟩ (.string (txt q))) g s a e ox { D with t := q } A n c B m d :=
  h.grown (gb_set (gb_refl W (some ox)) 2 _) (h.box.b.set 2 _) (opC_set2 D h.hK A n c B m d q) h.hK h.own1 h.own2
theorem GetS.set3 (h : GetS w W g s a e ox D A n c B m d) (q : Int) : GetS w (W.setCell ⟨ox, 3, none⟩ (.int .i64 q)) g s a e ox { D with a := q } A n c B m d :=
  h.grown (gb_set (gb_refl W (some ox)) 3 _) (h.box.b.set 3 _) (opC_set3 D h.hK A n c B m d q) h.hK h.own1 h.own2
theorem GetS.set38 (h : GetS w W g s a e ox D A n c B m d) (q : Int) : GetS w (W.setCell ⟨ox, 38, none⟩ (.int .i64 q)) g s a e ox { D with d := q } A n c B m d :=
  h.grown (gb_set (gb_refl W (some ox)) 38 _) (h.box.b.set 38 _) (opC_set38 D h.hK A n c B m d q) h.hK h.own1 h.own2
theorem GetS.set4 (h : GetS w W g s a e ox D A n c B m d) (q : List (List UInt8)) (A2 : Option Addr) (n2 c2 : Nat) (ho : W.ownsRow w.heap.size 9 1 (.slice A2 n2 c2) n2 (q.map strV)) : GetS w (W.setCell ⟨ox, 4, none⟩ (.slice A2 n2 c2)) g s a e ox { D with o := q } A2 n2 c2 B m d :=
  h.grown (gb_set (gb_refl W (some ox)) 4 _) (h.box.b.set 4 _) (opC_set4 D h.hK A n c B m d q A2 n2 c2) h.hK ho h.own2
theorem GetS.set5 (h : GetS w W g s a e ox D A n c B m d) (q : List (List UInt8)) (B2 : Option Addr) (m2 d2 : Nat) (ho : W.ownsRow w.heap.size 9 1 (.slice B2 m2 d2) m2 (q.map strV)) : GetS w (W.setCell ⟨ox, 5, none⟩ (.slice B2 m2 d2)) g s a e ox { D with n := q } A n c B2 m2 d2 :=
  h.grown (gb_set (gb_refl W (some ox)) 5 _) (h.box.b.set 5 _) (opC_set5 D h.hK A n c B m d q B2 m2 d2) h.hK h.own1 ho
theorem GetS.setK (h : GetS w W g s a e ox D A n c B m d) (q : List UInt8) (hq : q.length = 32) (hb : Blk W' ox 74 (over (opC D A n c B m d) 6 (q.map u8v))) (hg : W.grownBy W' (some ox)) : GetS w W' g s a e ox { D with K := q } A n c B m d :=
  h.grown hg hb (opC_setK D h.hK A n c B m d q hq) hq h.own1 h.own2
theorem GetS.r (h : GetS w W g s a e ox D A n c B m d) : Rdr g s a e W := h.st.r
theorem own_str {base n' : Nat} {v : Value} {xs : List Value} (h : W.ownsRow base 9 1 v n' xs) : ∃ A' c', v = .slice A' n' c' := by
  rcases h.2 with ⟨rfl, h0⟩ | ⟨g', cap, cur, rfl, _⟩
  · subst h0; exact ⟨_, _, rfl⟩
  · exact ⟨_, _, rfl⟩
theorem own_rd {base n' c' : Nat} {A' : Option Addr} {L : List (List UInt8)} (h : W.ownsRow base 9 1 (.slice A' n' c') n' (L.map strV)) : L.length = n' ∧ Rd W A' (L.map strV) := by
  obtain ⟨h1, A2, c2, h2, h3⟩ := rowRd h
  injection h2 with q1 q2 q3
  subst q1
  exact ⟨by rw [← h1, List.length_map], h3⟩
end
end Go.Proofs.Ythpdkdalfjahcaa

namespace Go.Proofs.Ythpdkdalfjahcaa
open Go.RowKit Go.Qc Go.Shelf
attribute [local go_sem] txt_size txt_append ib_fold txt_toL

/-- An operation's rows, read. -/
structure OpR (W : World) (D : OpD) (A : Option Addr) (n : Nat) (B : Option Addr) (m : Nat) : Prop where
  lo : D.o.length = n
  bn : n ≤ 1000
  bo : ∀ x ∈ D.o, x.length ≤ 1000
  ln : D.n.length = m
  bm : m ≤ 1000
  bx : ∀ x ∈ D.n, x.length ≤ 1000
  rA : Rd W A (D.o.map strV)
  rB : Rd W B (D.n.map strV)
  hK : D.K.length = 32
  bp : D.p.length ≤ 1000
  bt : D.t.length ≤ 1000
theorem OpR.below {W W' : World} {D : OpD} {A : Option Addr} {n : Nat} {B : Option Addr} {m : Nat} (h : OpR W D A n B m) (hb : Below W.heap.size W W') : OpR W' D A n B m :=
  ⟨h.lo, h.bn, h.bo, h.ln, h.bm, h.bx, h.rA.below hb, h.rB.below hb, h.hK, h.bp, h.bt⟩
theorem OpR.zero (W : World) : OpR W opZ none 0 none 0 := ⟨rfl, by decide, by simp [opZ], rfl, by decide, by simp [opZ], .inl rfl, .inl rfl, rfl, by simp [opZ], by simp [opZ]⟩
set_option maxRecDepth 100000 in
set_option maxHeartbeats 8000000 in
theorem build_op (k : Int) (W : World) : (Instr.build 74 #[(0, .int .i64 k)]).run Try.prog W = .ok (.agg (opC ⟨k, [], [], 0, [], [], zeroB, 0⟩ none 0 0 none 0 0)) W := by
  rw [opC_lit]
  kernel_rfl
set_option maxRecDepth 100000 in
set_option maxHeartbeats 8000000 in
theorem build_op0 (W : World) : (Instr.build 74 #[]).run Try.prog W = .ok (.agg (opC opZ none 0 0 none 0 0)) W := by
  rw [show (opZ : OpD) = ⟨0, [], [], 0, [], [], zeroB, 0⟩ from rfl, opC_lit]
  kernel_rfl
theorem wpList_build_op {w : World} {ops : Array Oper} {rest : List Oper} {o : Oper} {a : Act} {Q : Exit → Act → World → Prop} (hgd : o.guard = none) (parts : Array (Nat × Operand)) (ho : o.op = .build 74 parts)
    (k : Int) (hp : (parts.map fun (i, x) => (i, a.eval x)) = #[(0, .int .i64 k)])
    (h : wpList Try.prog ops Q rest (a.put o.dst (.agg (opC ⟨k, [], [], 0, [], [], zeroB, 0⟩ none 0 0 none 0 0))) w) : wpList Try.prog ops Q (o :: rest) a w := by
  refine wpList_plain hgd fun K' hK' => ?_
  have hr := build_op k w
  rw [← hp] at hr
  unfold Oper.wp
  simp only [execOp, ho]
  simp only [Sem.run_bind, hr, Result.andThen, Sem.run_pure]
  exact hK' _ _ h
theorem wpList_build_op0 {w : World} {ops : Array Oper} {rest : List Oper} {o : Oper} {a : Act} {Q : Exit → Act → World → Prop} (hgd : o.guard = none) (ho : o.op = .build 74 #[])
    (h : wpList Try.prog ops Q rest (a.put o.dst (.agg (opC opZ none 0 0 none 0 0))) w) : wpList Try.prog ops Q (o :: rest) a w := by
  refine wpList_plain hgd fun K' hK' => ?_
  have hr := build_op0 w
  unfold Oper.wp
  simp only [execOp, ho]
  simp only [Sem.run_bind, List.map_toArray, List.map_nil, hr, Result.andThen, Sem.run_pure]
  exact hK' _ _ h
/-- What a reading of an operation leaves. -/
def OgP (g : Nat) (s : List UInt8) (a : Nat) (e : Int) (D : OpD) (w : World) (o : Ending) (w' : World) : Prop :=
  ∃ A n c B m d, o = .returned (.agg (opC D A n c B m d)) ∧ OpR w' D A n B m ∧ Step g s a e w w'
set_option maxRecDepth 100000 in
set_option maxHeartbeats 40000000 in
theorem og_1_i (g : Nat) (s : List UInt8) (a : Nat) (e : Int) (w : World) (hr : Rdr g s a e w) (a0 : Nat) (e0 : Int) (cB : ∀ W, Rdr g s a e W → Calls Try.prog 34 #[.pointer (some ⟨g, 0, none⟩)] W fun o w' => o = .returned (.int .u8 1) ∧ Step g s a0 e0 W w') (P : List UInt8) (a1 : Nat) (e1 : Int) (lP : P.length ≤ 200) (c1 : ∀ W, Rdr g s a0 e0 W → Calls Try.prog 36 #[.pointer (some ⟨g, 0, none⟩), .int .i64 200] W fun o w' => o = .returned (.string (txt P)) ∧ Step g s a1 e1 W w') (E : Int) (hE : opE ⟨1, P, [], 0, [], [], zeroB, 0⟩ = E) (hE0 : E ≠ 0) :
    Calls Try.prog 55 #[.pointer (some ⟨g, 0, none⟩)] w fun o w' => OgP g s a1 (stopB e1 3) opZ w o w' := by
  have hgl := hr.lt
  have hk0 : (w.alloc (.cells (opC opZ none 0 0 none 0 0) 74)).heap.size = w.heap.size + 1 := by simp
  have hr0 : Rdr g s a e (w.alloc (.cells (opC opZ none 0 0 none 0 0) 74)) := Blk.alloc hr _
  have hs0 : Step g s a e w (w.alloc (.cells (opC opZ none 0 0 none 0 0) 74)) := (Step.same hr).below ((Below.refl _ w).alloc (Nat.le_refl _) _)
  have hres := Blk.new w 74 (opC opZ none 0 0 none 0 0)
  have cKn : ∀ W, Calls Try.prog 101 #[.int .i64 1] W fun o w' => o = .returned (.bool true) ∧ W = w' := fun W => oknown_any 1 W
  have cH : ∀ W, Calls Try.prog 95 #[.int .i64 1] W fun o w' => o = .returned (.agg #[.bool false, .bool false, .bool false, .bool false, .bool false, .bool false]) ∧ Below W.heap.size W w' := fun W => has_any 1 W
  have cR : ∀ (W : World) , Calls Try.prog 94 #[.agg (opC ⟨1, P, [], 0, [], [], zeroB, 0⟩ none 0 0 none 0 0)] W fun o w' => o = .returned (.int .i64 E) ∧ Below W.heap.size W w' := fun W => by
    have q := oright_any ⟨1, P, [], 0, [], [], zeroB, 0⟩ rfl none 0 0 rfl (by decide) none 0 0 rfl (by decide) W (Rd.nil_ _ _) (Rd.nil_ _ _)
    rwa [hE] at q
  have hEn : (E != 0) = true := by simpa using hE0
  have hst : stopB e1 3 ≠ 0 := by unfold stopB; split <;> first | decide | assumption
  obtain ⟨ef, hef⟩ : ∃ ef, ef = stopB e1 3 := ⟨_, rfl⟩
  have hen : (ef != 0) = true := by rw [hef]; simpa using hst
  have cF : ∀ W, Rdr g s a1 e1 W → Calls Try.prog 102 #[.pointer (some ⟨g, 0, none⟩), .int .i64 3] W fun o w' => o = .returned (.tuple #[]) ∧ Step g s a1 ef W w' := fun W h => by rw [hef]; exact pkFail_any g s a1 e1 3 W h
  rw [← hef]
  clear hef hst
  clear hE hr
  go_enter Try.func55, Try.ntmps55
  go_wp2_with (fail)
  rw [← opC_lit 0, show (⟨0, [], [], 0, [], [], zeroB, 0⟩ : OpD) = opZ from rfl]
  generalize w.alloc (.cells (opC opZ none 0 0 none 0 0) 74) = W0 at *
  refine (cB _ hr0).mono ?_
  rintro o1 w1 ⟨rfl, h1⟩
  have hr1 := hs0.trans h1
  have hres1 := blk_gb hres h1.gb (by omega)
  have hsz := h1.gb.size
  rw [hk0] at hsz
  clear h1 hs0 hres hr0 cB hk0
  have x0 : (w1.alloc (.cells (opC ⟨1, [], [], 0, [], [], zeroB, 0⟩ none 0 0 none 0 0) 74)).cell? ⟨w1.heap.size, 0, none⟩ = some (.int .i64 1) := (OpX.new w1 ⟨1, [], [], 0, [], [], zeroB, 0⟩ none 0 0 none 0 0).c0
  go_wp2_with (first
    | (with_reducible refine wpList_build_op rfl _ rfl 1 (by with_unfolding_all rfl) ?_)
    | (with_reducible refine wpList_store_new rfl 74 _ _ rfl (opC ⟨1, [], [], 0, [], [], zeroB, 0⟩ none 0 0 none 0 0) rfl rfl ?s2 ?s3 (opC_one _ _ _ _ _ _ _) ?_))
  case s2 => rw [opC_size _ _ _ _ _ _ _ rfl]; exact infoOp
  case s3 => rw [opC_size _ _ _ _ _ _ _ rfl]; rfl
  have hS : GetS w (w1.alloc (.cells (opC ⟨1, [], [], 0, [], [], zeroB, 0⟩ none 0 0 none 0 0) 74)) g s a0 e0 w1.heap.size ⟨1, [], [], 0, [], [], zeroB, 0⟩ none 0 0 none 0 0 :=
    ⟨hr1.below ((Below.refl _ w1).alloc (Nat.le_refl _) _), OpX.new _ _ _ _ _ _ _ _, hres1.alloc _, World.ownsRow_nil _ _ _ _, World.ownsRow_nil _ _ _ _, by omega, hgl, rfl⟩
  generalize w1.alloc (.cells (opC ⟨1, [], [], 0, [], [], zeroB, 0⟩ none 0 0 none 0 0) 74) = W1 at *
  clear hr1 hres1 x0
  generalize w1.heap.size = ox at *
  have x0 : W1.cell? ⟨ox, 0, none⟩ = some (.int .i64 1) := hS.box.c0
  go_wp2_with (first
    | (go_at_call 101; (with_reducible refine (cKn _).mono ?_); rintro o1 w1 ⟨rfl, rfl⟩)
    | (go_at_call 36; (with_reducible refine (c1 _ hS.r).mono ?_); rintro o1 w1 ⟨rfl, h1⟩; replace hS := hS.step h1; clear x0; have y := hS.box.c1; have y' := hS.box.b.frozen 1; clear h1; replace hS : GetS w _ g s _ _ ox ⟨1, P, [], 0, [], [], zeroB, 0⟩ none 0 0 none 0 0 := hS.set1 P; have x0 : _ = some (Value.int .i64 1) := hS.box.c0)
    | (go_at_call 95; (with_reducible refine (cH _).mono ?_); rintro o1 w1 ⟨rfl, hb⟩; have hF := Blk.new w1 121 #[.bool false, .bool false, .bool false, .bool false, .bool false, .bool false]; have hlt := Nat.lt_of_lt_of_le hS.box.b.lt hb.size; replace hb := hb.alloc hb.size (.cells #[.bool false, .bool false, .bool false, .bool false, .bool false, .bool false] 121); replace hS := hS.below hb; clear hb x0; have f0 := hF.cell_ (i := 0) rfl; have f1 := hF.cell_ (i := 1) rfl; have f2 := hF.cell_ (i := 2) rfl; have f3 := hF.cell_ (i := 3) rfl; have f4 := hF.cell_ (i := 4) rfl; have f5 := hF.cell_ (i := 5) rfl; have x0 : _ = some (Value.int .i64 1) := hS.box.c0)
    | (with_reducible refine wpList_load_opx (by with_unfolding_all rfl) _ rfl _ rfl hS.box hS.hK ?_)
    | (go_at_call 94; (with_reducible refine (cR _).mono ?_); rintro o1 w1 ⟨rfl, hb⟩; replace hS := hS.below hb; clear hb x0 f0 f1 f2 f3 f4 f5)
    | (go_at_call 102; (with_reducible refine (cF _ hS.r).mono ?_); rintro o1 w1 ⟨rfl, h1⟩; replace hS := hS.step h1; clear h1)
    | (go_at_call 50; (with_reducible refine (pkErr_any g s _ _ _ hS.r).mono ?_); rintro o1 w1 ⟨rfl, rfl⟩)
    | (with_reducible refine wpList_build_op0 rfl rfl ?_)
    | (with_reducible refine wpList_store_blk rfl 74 _ _ rfl w.heap.size _ _ 74 hS.res rfl rfl ?c2 ?c3 ?c4 ?_))
  case c2 => rw [opC_size _ _ _ _ _ _ _ rfl]; exact infoOp
  case c3 => exact (opC_size _ _ _ _ _ _ _ rfl).trans (opC_size _ _ _ _ _ _ _ rfl).symm
  case c4 => exact opC_one _ _ _ _ _ _ _
  intro w9 hb9 hg9
  go_wp2
  refine bodyPost_ret (results_cell_row rfl _ _ _ _ _ _ _ rfl hb9 Try.underlying74 rfl (by rw [opC_size _ _ _ _ _ _ _ rfl]; exact infoOp)) rfl ?_
  exact ⟨none, 0, 0, none, 0, 0, rfl, OpR.zero _, hS.st.new hg9 (Nat.le_refl _) hS.hg⟩

set_option maxRecDepth 100000 in
set_option maxHeartbeats 40000000 in
theorem og_1_ii (g : Nat) (s : List UInt8) (a : Nat) (e : Int) (w : World) (hr : Rdr g s a e w) (a0 : Nat) (e0 : Int) (cB : ∀ W, Rdr g s a e W → Calls Try.prog 34 #[.pointer (some ⟨g, 0, none⟩)] W fun o w' => o = .returned (.int .u8 1) ∧ Step g s a0 e0 W w') (P : List UInt8) (a1 : Nat) (e1 : Int) (lP : P.length ≤ 200) (c1 : ∀ W, Rdr g s a0 e0 W → Calls Try.prog 36 #[.pointer (some ⟨g, 0, none⟩), .int .i64 200] W fun o w' => o = .returned (.string (txt P)) ∧ Step g s a1 e1 W w') (hE : opE ⟨1, P, [], 0, [], [], zeroB, 0⟩ = 0) (he : e1 ≠ 0) :
    Calls Try.prog 55 #[.pointer (some ⟨g, 0, none⟩)] w fun o w' => OgP g s a1 e1 opZ w o w' := by
  have hgl := hr.lt
  have hk0 : (w.alloc (.cells (opC opZ none 0 0 none 0 0) 74)).heap.size = w.heap.size + 1 := by simp
  have hr0 : Rdr g s a e (w.alloc (.cells (opC opZ none 0 0 none 0 0) 74)) := Blk.alloc hr _
  have hs0 : Step g s a e w (w.alloc (.cells (opC opZ none 0 0 none 0 0) 74)) := (Step.same hr).below ((Below.refl _ w).alloc (Nat.le_refl _) _)
  have hres := Blk.new w 74 (opC opZ none 0 0 none 0 0)
  have cKn : ∀ W, Calls Try.prog 101 #[.int .i64 1] W fun o w' => o = .returned (.bool true) ∧ W = w' := fun W => oknown_any 1 W
  have cH : ∀ W, Calls Try.prog 95 #[.int .i64 1] W fun o w' => o = .returned (.agg #[.bool false, .bool false, .bool false, .bool false, .bool false, .bool false]) ∧ Below W.heap.size W w' := fun W => has_any 1 W
  have cR : ∀ (W : World) , Calls Try.prog 94 #[.agg (opC ⟨1, P, [], 0, [], [], zeroB, 0⟩ none 0 0 none 0 0)] W fun o w' => o = .returned (.int .i64 0) ∧ Below W.heap.size W w' := fun W => by
    have q := oright_any ⟨1, P, [], 0, [], [], zeroB, 0⟩ rfl none 0 0 rfl (by decide) none 0 0 rfl (by decide) W (Rd.nil_ _ _) (Rd.nil_ _ _)
    rwa [hE] at q
  have hen : (e1 != 0) = true := by simpa using he
  clear hE hr
  go_enter Try.func55, Try.ntmps55
  go_wp2_with (fail)
  rw [← opC_lit 0, show (⟨0, [], [], 0, [], [], zeroB, 0⟩ : OpD) = opZ from rfl]
  generalize w.alloc (.cells (opC opZ none 0 0 none 0 0) 74) = W0 at *
  refine (cB _ hr0).mono ?_
  rintro o1 w1 ⟨rfl, h1⟩
  have hr1 := hs0.trans h1
  have hres1 := blk_gb hres h1.gb (by omega)
  have hsz := h1.gb.size
  rw [hk0] at hsz
  clear h1 hs0 hres hr0 cB hk0
  have x0 : (w1.alloc (.cells (opC ⟨1, [], [], 0, [], [], zeroB, 0⟩ none 0 0 none 0 0) 74)).cell? ⟨w1.heap.size, 0, none⟩ = some (.int .i64 1) := (OpX.new w1 ⟨1, [], [], 0, [], [], zeroB, 0⟩ none 0 0 none 0 0).c0
  go_wp2_with (first
    | (with_reducible refine wpList_build_op rfl _ rfl 1 (by with_unfolding_all rfl) ?_)
    | (with_reducible refine wpList_store_new rfl 74 _ _ rfl (opC ⟨1, [], [], 0, [], [], zeroB, 0⟩ none 0 0 none 0 0) rfl rfl ?s2 ?s3 (opC_one _ _ _ _ _ _ _) ?_))
  case s2 => rw [opC_size _ _ _ _ _ _ _ rfl]; exact infoOp
  case s3 => rw [opC_size _ _ _ _ _ _ _ rfl]; rfl
  have hS : GetS w (w1.alloc (.cells (opC ⟨1, [], [], 0, [], [], zeroB, 0⟩ none 0 0 none 0 0) 74)) g s a0 e0 w1.heap.size ⟨1, [], [], 0, [], [], zeroB, 0⟩ none 0 0 none 0 0 :=
    ⟨hr1.below ((Below.refl _ w1).alloc (Nat.le_refl _) _), OpX.new _ _ _ _ _ _ _ _, hres1.alloc _, World.ownsRow_nil _ _ _ _, World.ownsRow_nil _ _ _ _, by omega, hgl, rfl⟩
  generalize w1.alloc (.cells (opC ⟨1, [], [], 0, [], [], zeroB, 0⟩ none 0 0 none 0 0) 74) = W1 at *
  clear hr1 hres1 x0
  generalize w1.heap.size = ox at *
  have x0 : W1.cell? ⟨ox, 0, none⟩ = some (.int .i64 1) := hS.box.c0
  go_wp2_with (first
    | (go_at_call 101; (with_reducible refine (cKn _).mono ?_); rintro o1 w1 ⟨rfl, rfl⟩)
    | (go_at_call 36; (with_reducible refine (c1 _ hS.r).mono ?_); rintro o1 w1 ⟨rfl, h1⟩; replace hS := hS.step h1; clear x0; have y := hS.box.c1; have y' := hS.box.b.frozen 1; clear h1; replace hS : GetS w _ g s _ _ ox ⟨1, P, [], 0, [], [], zeroB, 0⟩ none 0 0 none 0 0 := hS.set1 P; have x0 : _ = some (Value.int .i64 1) := hS.box.c0)
    | (go_at_call 95; (with_reducible refine (cH _).mono ?_); rintro o1 w1 ⟨rfl, hb⟩; have hF := Blk.new w1 121 #[.bool false, .bool false, .bool false, .bool false, .bool false, .bool false]; have hlt := Nat.lt_of_lt_of_le hS.box.b.lt hb.size; replace hb := hb.alloc hb.size (.cells #[.bool false, .bool false, .bool false, .bool false, .bool false, .bool false] 121); replace hS := hS.below hb; clear hb x0; have f0 := hF.cell_ (i := 0) rfl; have f1 := hF.cell_ (i := 1) rfl; have f2 := hF.cell_ (i := 2) rfl; have f3 := hF.cell_ (i := 3) rfl; have f4 := hF.cell_ (i := 4) rfl; have f5 := hF.cell_ (i := 5) rfl; have x0 : _ = some (Value.int .i64 1) := hS.box.c0)
    | (with_reducible refine wpList_load_opx (by with_unfolding_all rfl) _ rfl _ rfl hS.box hS.hK ?_)
    | (go_at_call 94; (with_reducible refine (cR _).mono ?_); rintro o1 w1 ⟨rfl, hb⟩; replace hS := hS.below hb; clear hb x0 f0 f1 f2 f3 f4 f5)
    | (go_at_call 50; (with_reducible refine (pkErr_any g s _ _ _ hS.r).mono ?_); rintro o1 w1 ⟨rfl, rfl⟩)
    | (with_reducible refine wpList_build_op0 rfl rfl ?_)
    | (with_reducible refine wpList_store_blk rfl 74 _ _ rfl w.heap.size _ _ 74 hS.res rfl rfl ?c2 ?c3 ?c4 ?_))
  case c2 => rw [opC_size _ _ _ _ _ _ _ rfl]; exact infoOp
  case c3 => exact (opC_size _ _ _ _ _ _ _ rfl).trans (opC_size _ _ _ _ _ _ _ rfl).symm
  case c4 => exact opC_one _ _ _ _ _ _ _
  intro w9 hb9 hg9
  go_wp2
  refine bodyPost_ret (results_cell_row rfl _ _ _ _ _ _ _ rfl hb9 Try.underlying74 rfl (by rw [opC_size _ _ _ _ _ _ _ rfl]; exact infoOp)) rfl ?_
  exact ⟨none, 0, 0, none, 0, 0, rfl, OpR.zero _, hS.st.new hg9 (Nat.le_refl _) hS.hg⟩

set_option maxRecDepth 100000 in
set_option maxHeartbeats 40000000 in
theorem og_1_iii (g : Nat) (s : List UInt8) (a : Nat) (e : Int) (w : World) (hr : Rdr g s a e w) (a0 : Nat) (e0 : Int) (cB : ∀ W, Rdr g s a e W → Calls Try.prog 34 #[.pointer (some ⟨g, 0, none⟩)] W fun o w' => o = .returned (.int .u8 1) ∧ Step g s a0 e0 W w') (P : List UInt8) (a1 : Nat) (e1 : Int) (lP : P.length ≤ 200) (c1 : ∀ W, Rdr g s a0 e0 W → Calls Try.prog 36 #[.pointer (some ⟨g, 0, none⟩), .int .i64 200] W fun o w' => o = .returned (.string (txt P)) ∧ Step g s a1 e1 W w') (hE : opE ⟨1, P, [], 0, [], [], zeroB, 0⟩ = 0) (he : e1 = 0) :
    Calls Try.prog 55 #[.pointer (some ⟨g, 0, none⟩)] w fun o w' => OgP g s a1 e1 (⟨1, P, [], 0, [], [], zeroB, 0⟩ : OpD) w o w' := by
  have hgl := hr.lt
  have hk0 : (w.alloc (.cells (opC opZ none 0 0 none 0 0) 74)).heap.size = w.heap.size + 1 := by simp
  have hr0 : Rdr g s a e (w.alloc (.cells (opC opZ none 0 0 none 0 0) 74)) := Blk.alloc hr _
  have hs0 : Step g s a e w (w.alloc (.cells (opC opZ none 0 0 none 0 0) 74)) := (Step.same hr).below ((Below.refl _ w).alloc (Nat.le_refl _) _)
  have hres := Blk.new w 74 (opC opZ none 0 0 none 0 0)
  have cKn : ∀ W, Calls Try.prog 101 #[.int .i64 1] W fun o w' => o = .returned (.bool true) ∧ W = w' := fun W => oknown_any 1 W
  have cH : ∀ W, Calls Try.prog 95 #[.int .i64 1] W fun o w' => o = .returned (.agg #[.bool false, .bool false, .bool false, .bool false, .bool false, .bool false]) ∧ Below W.heap.size W w' := fun W => has_any 1 W
  have cR : ∀ (W : World) , Calls Try.prog 94 #[.agg (opC ⟨1, P, [], 0, [], [], zeroB, 0⟩ none 0 0 none 0 0)] W fun o w' => o = .returned (.int .i64 0) ∧ Below W.heap.size W w' := fun W => by
    have q := oright_any ⟨1, P, [], 0, [], [], zeroB, 0⟩ rfl none 0 0 rfl (by decide) none 0 0 rfl (by decide) W (Rd.nil_ _ _) (Rd.nil_ _ _)
    rwa [hE] at q
  subst he
  clear hE hr
  go_enter Try.func55, Try.ntmps55
  go_wp2_with (fail)
  rw [← opC_lit 0, show (⟨0, [], [], 0, [], [], zeroB, 0⟩ : OpD) = opZ from rfl]
  generalize w.alloc (.cells (opC opZ none 0 0 none 0 0) 74) = W0 at *
  refine (cB _ hr0).mono ?_
  rintro o1 w1 ⟨rfl, h1⟩
  have hr1 := hs0.trans h1
  have hres1 := blk_gb hres h1.gb (by omega)
  have hsz := h1.gb.size
  rw [hk0] at hsz
  clear h1 hs0 hres hr0 cB hk0
  have x0 : (w1.alloc (.cells (opC ⟨1, [], [], 0, [], [], zeroB, 0⟩ none 0 0 none 0 0) 74)).cell? ⟨w1.heap.size, 0, none⟩ = some (.int .i64 1) := (OpX.new w1 ⟨1, [], [], 0, [], [], zeroB, 0⟩ none 0 0 none 0 0).c0
  go_wp2_with (first
    | (with_reducible refine wpList_build_op rfl _ rfl 1 (by with_unfolding_all rfl) ?_)
    | (with_reducible refine wpList_store_new rfl 74 _ _ rfl (opC ⟨1, [], [], 0, [], [], zeroB, 0⟩ none 0 0 none 0 0) rfl rfl ?s2 ?s3 (opC_one _ _ _ _ _ _ _) ?_))
  case s2 => rw [opC_size _ _ _ _ _ _ _ rfl]; exact infoOp
  case s3 => rw [opC_size _ _ _ _ _ _ _ rfl]; rfl
  have hS : GetS w (w1.alloc (.cells (opC ⟨1, [], [], 0, [], [], zeroB, 0⟩ none 0 0 none 0 0) 74)) g s a0 e0 w1.heap.size ⟨1, [], [], 0, [], [], zeroB, 0⟩ none 0 0 none 0 0 :=
    ⟨hr1.below ((Below.refl _ w1).alloc (Nat.le_refl _) _), OpX.new _ _ _ _ _ _ _ _, hres1.alloc _, World.ownsRow_nil _ _ _ _, World.ownsRow_nil _ _ _ _, by omega, hgl, rfl⟩
  generalize w1.alloc (.cells (opC ⟨1, [], [], 0, [], [], zeroB, 0⟩ none 0 0 none 0 0) 74) = W1 at *
  clear hr1 hres1 x0
  generalize w1.heap.size = ox at *
  have x0 : W1.cell? ⟨ox, 0, none⟩ = some (.int .i64 1) := hS.box.c0
  go_wp2_with (first
    | (go_at_call 101; (with_reducible refine (cKn _).mono ?_); rintro o1 w1 ⟨rfl, rfl⟩)
    | (go_at_call 36; (with_reducible refine (c1 _ hS.r).mono ?_); rintro o1 w1 ⟨rfl, h1⟩; replace hS := hS.step h1; clear x0; have y := hS.box.c1; have y' := hS.box.b.frozen 1; clear h1; replace hS : GetS w _ g s _ _ ox ⟨1, P, [], 0, [], [], zeroB, 0⟩ none 0 0 none 0 0 := hS.set1 P; have x0 : _ = some (Value.int .i64 1) := hS.box.c0)
    | (go_at_call 95; (with_reducible refine (cH _).mono ?_); rintro o1 w1 ⟨rfl, hb⟩; have hF := Blk.new w1 121 #[.bool false, .bool false, .bool false, .bool false, .bool false, .bool false]; have hlt := Nat.lt_of_lt_of_le hS.box.b.lt hb.size; replace hb := hb.alloc hb.size (.cells #[.bool false, .bool false, .bool false, .bool false, .bool false, .bool false] 121); replace hS := hS.below hb; clear hb x0; have f0 := hF.cell_ (i := 0) rfl; have f1 := hF.cell_ (i := 1) rfl; have f2 := hF.cell_ (i := 2) rfl; have f3 := hF.cell_ (i := 3) rfl; have f4 := hF.cell_ (i := 4) rfl; have f5 := hF.cell_ (i := 5) rfl; have x0 : _ = some (Value.int .i64 1) := hS.box.c0)
    | (with_reducible refine wpList_load_opx (by with_unfolding_all rfl) _ rfl _ rfl hS.box hS.hK ?_)
    | (go_at_call 94; (with_reducible refine (cR _).mono ?_); rintro o1 w1 ⟨rfl, hb⟩; replace hS := hS.below hb; clear hb x0 f0 f1 f2 f3 f4 f5)
    | (go_at_call 50; (with_reducible refine (pkErr_any g s _ _ _ hS.r).mono ?_); rintro o1 w1 ⟨rfl, rfl⟩)
    | (with_reducible refine wpList_store_blk rfl 74 _ _ rfl w.heap.size _ _ 74 hS.res rfl rfl ?c2 ?c3 ?c4 ?_))
  case c2 => rw [opC_size _ _ _ _ _ _ _ hS.hK]; exact infoOp
  case c3 => rw [opC_size _ _ _ _ _ _ _ hS.hK]; exact opC_size _ _ _ _ _ _ _ rfl
  case c4 => exact opC_one _ _ _ _ _ _ _
  intro w9 hb9 hg9
  go_wp2
  refine bodyPost_ret (results_cell_row rfl _ _ _ _ _ _ _ rfl hb9 Try.underlying74 rfl (by rw [opC_size _ _ _ _ _ _ _ hS.hK]; exact infoOp)) rfl ?_
  have ow1 := hS.own1.kept hg9 (.inr (Lib.ownBlock_ne hS.own1 hS.res (by decide)))
  have ow2 := hS.own2.kept hg9 (.inr (Lib.ownBlock_ne hS.own2 hS.res (by decide)))
  refine ⟨_, _, _, _, _, _, rfl, ⟨(own_rd ow1).1, ?_, ?_, (own_rd ow2).1, ?_, ?_, (own_rd ow1).2, (own_rd ow2).2, hS.hK, ?_, ?_⟩, hS.st.new hg9 (Nat.le_refl _) hS.hg⟩
  · decide
  · simp
  · decide
  · simp
  · exact Nat.le_trans lP (by decide)
  · simp

set_option maxRecDepth 100000 in
set_option maxHeartbeats 40000000 in
theorem og_2_i (g : Nat) (s : List UInt8) (a : Nat) (e : Int) (w : World) (hr : Rdr g s a e w) (a0 : Nat) (e0 : Int) (cB : ∀ W, Rdr g s a e W → Calls Try.prog 34 #[.pointer (some ⟨g, 0, none⟩)] W fun o w' => o = .returned (.int .u8 2) ∧ Step g s a0 e0 W w') (P : List UInt8) (a1 : Nat) (e1 : Int) (lP : P.length ≤ 200) (c1 : ∀ W, Rdr g s a0 e0 W → Calls Try.prog 36 #[.pointer (some ⟨g, 0, none⟩), .int .i64 200] W fun o w' => o = .returned (.string (txt P)) ∧ Step g s a1 e1 W w') (O : List (List UInt8)) (a2 : Nat) (e2 : Int) (lO : O.length ≤ 1000 ∧ ∀ y ∈ O, y.length ≤ 200) (c2 : ∀ W, Rdr g s a1 e1 W → Calls Try.prog 41 #[.pointer (some ⟨g, 0, none⟩), .int .i64 1000, .int .i64 200] W fun o w' => ∃ v, o = .returned v ∧ w'.ownsRow W.heap.size 9 1 v O.length (O.map strV) ∧ Step g s a2 e2 W w') (E : Int) (hE : opE ⟨2, P, [], 0, O, [], zeroB, 0⟩ = E) (hE0 : E ≠ 0) :
    Calls Try.prog 55 #[.pointer (some ⟨g, 0, none⟩)] w fun o w' => OgP g s a2 (stopB e2 3) opZ w o w' := by
  have hgl := hr.lt
  have hk0 : (w.alloc (.cells (opC opZ none 0 0 none 0 0) 74)).heap.size = w.heap.size + 1 := by simp
  have hr0 : Rdr g s a e (w.alloc (.cells (opC opZ none 0 0 none 0 0) 74)) := Blk.alloc hr _
  have hs0 : Step g s a e w (w.alloc (.cells (opC opZ none 0 0 none 0 0) 74)) := (Step.same hr).below ((Below.refl _ w).alloc (Nat.le_refl _) _)
  have hres := Blk.new w 74 (opC opZ none 0 0 none 0 0)
  have cKn : ∀ W, Calls Try.prog 101 #[.int .i64 2] W fun o w' => o = .returned (.bool true) ∧ W = w' := fun W => oknown_any 2 W
  have cH : ∀ W, Calls Try.prog 95 #[.int .i64 2] W fun o w' => o = .returned (.agg #[.bool false, .bool false, .bool true, .bool false, .bool false, .bool false]) ∧ Below W.heap.size W w' := fun W => has_any 2 W
  have cR : ∀ (W : World) (A1 : Option Addr) (c1 : Nat) (h1 : Rd W A1 (O.map strV)), Calls Try.prog 94 #[.agg (opC ⟨2, P, [], 0, O, [], zeroB, 0⟩ A1 O.length c1 none 0 0)] W fun o w' => o = .returned (.int .i64 E) ∧ Below W.heap.size W w' := fun W A1 c1 h1 => by
    have q := oright_any ⟨2, P, [], 0, O, [], zeroB, 0⟩ rfl A1 O.length c1 rfl (by omega) none 0 0 rfl (by decide) W h1 (Rd.nil_ _ _)
    rwa [hE] at q
  have hEn : (E != 0) = true := by simpa using hE0
  have hst : stopB e2 3 ≠ 0 := by unfold stopB; split <;> first | decide | assumption
  obtain ⟨ef, hef⟩ : ∃ ef, ef = stopB e2 3 := ⟨_, rfl⟩
  have hen : (ef != 0) = true := by rw [hef]; simpa using hst
  have cF : ∀ W, Rdr g s a2 e2 W → Calls Try.prog 102 #[.pointer (some ⟨g, 0, none⟩), .int .i64 3] W fun o w' => o = .returned (.tuple #[]) ∧ Step g s a2 ef W w' := fun W h => by rw [hef]; exact pkFail_any g s a2 e2 3 W h
  rw [← hef]
  clear hef hst
  clear hE hr
  go_enter Try.func55, Try.ntmps55
  go_wp2_with (fail)
  rw [← opC_lit 0, show (⟨0, [], [], 0, [], [], zeroB, 0⟩ : OpD) = opZ from rfl]
  generalize w.alloc (.cells (opC opZ none 0 0 none 0 0) 74) = W0 at *
  refine (cB _ hr0).mono ?_
  rintro o1 w1 ⟨rfl, h1⟩
  have hr1 := hs0.trans h1
  have hres1 := blk_gb hres h1.gb (by omega)
  have hsz := h1.gb.size
  rw [hk0] at hsz
  clear h1 hs0 hres hr0 cB hk0
  have x0 : (w1.alloc (.cells (opC ⟨2, [], [], 0, [], [], zeroB, 0⟩ none 0 0 none 0 0) 74)).cell? ⟨w1.heap.size, 0, none⟩ = some (.int .i64 2) := (OpX.new w1 ⟨2, [], [], 0, [], [], zeroB, 0⟩ none 0 0 none 0 0).c0
  go_wp2_with (first
    | (with_reducible refine wpList_build_op rfl _ rfl 2 (by with_unfolding_all rfl) ?_)
    | (with_reducible refine wpList_store_new rfl 74 _ _ rfl (opC ⟨2, [], [], 0, [], [], zeroB, 0⟩ none 0 0 none 0 0) rfl rfl ?s2 ?s3 (opC_one _ _ _ _ _ _ _) ?_))
  case s2 => rw [opC_size _ _ _ _ _ _ _ rfl]; exact infoOp
  case s3 => rw [opC_size _ _ _ _ _ _ _ rfl]; rfl
  have hS : GetS w (w1.alloc (.cells (opC ⟨2, [], [], 0, [], [], zeroB, 0⟩ none 0 0 none 0 0) 74)) g s a0 e0 w1.heap.size ⟨2, [], [], 0, [], [], zeroB, 0⟩ none 0 0 none 0 0 :=
    ⟨hr1.below ((Below.refl _ w1).alloc (Nat.le_refl _) _), OpX.new _ _ _ _ _ _ _ _, hres1.alloc _, World.ownsRow_nil _ _ _ _, World.ownsRow_nil _ _ _ _, by omega, hgl, rfl⟩
  generalize w1.alloc (.cells (opC ⟨2, [], [], 0, [], [], zeroB, 0⟩ none 0 0 none 0 0) 74) = W1 at *
  clear hr1 hres1 x0
  generalize w1.heap.size = ox at *
  have x0 : W1.cell? ⟨ox, 0, none⟩ = some (.int .i64 2) := hS.box.c0
  go_wp2_with (first
    | (go_at_call 101; (with_reducible refine (cKn _).mono ?_); rintro o1 w1 ⟨rfl, rfl⟩)
    | (go_at_call 36; (with_reducible refine (c1 _ hS.r).mono ?_); rintro o1 w1 ⟨rfl, h1⟩; replace hS := hS.step h1; clear x0; have y := hS.box.c1; have y' := hS.box.b.frozen 1; clear h1; replace hS : GetS w _ g s _ _ ox ⟨2, P, [], 0, [], [], zeroB, 0⟩ none 0 0 none 0 0 := hS.set1 P; have x0 : _ = some (Value.int .i64 2) := hS.box.c0)
    | (go_at_call 41; (with_reducible refine (c2 _ hS.r).mono ?_); rintro o1 w1 ⟨v, rfl, ho, h1⟩; obtain ⟨A1, c1, rfl⟩ := own_str ho; replace ho := own_base ho hS.st.gb.size; replace hS := hS.step h1; replace hF := blk_gb hF h1.gb (by omega); clear x0 f0 f1 f2 f3 f4 f5; have y := hS.box.c4; have y' := hS.box.b.frozen 4; clear h1; replace hS : GetS w _ g s _ _ ox ⟨2, P, [], 0, O, [], zeroB, 0⟩ A1 O.length c1 none 0 0 := hS.set4 O A1 O.length c1 ho; replace hF := hF.far (p := ⟨ox, 4, none⟩) (by simp; omega) (.slice A1 O.length c1); have f0 := hF.cell_ (i := 0) rfl; have f1 := hF.cell_ (i := 1) rfl; have f2 := hF.cell_ (i := 2) rfl; have f3 := hF.cell_ (i := 3) rfl; have f4 := hF.cell_ (i := 4) rfl; have f5 := hF.cell_ (i := 5) rfl; have x0 : _ = some (Value.int .i64 2) := hS.box.c0)
    | (go_at_call 95; (with_reducible refine (cH _).mono ?_); rintro o1 w1 ⟨rfl, hb⟩; have hF := Blk.new w1 121 #[.bool false, .bool false, .bool true, .bool false, .bool false, .bool false]; have hlt := Nat.lt_of_lt_of_le hS.box.b.lt hb.size; replace hb := hb.alloc hb.size (.cells #[.bool false, .bool false, .bool true, .bool false, .bool false, .bool false] 121); replace hS := hS.below hb; clear hb x0; have f0 := hF.cell_ (i := 0) rfl; have f1 := hF.cell_ (i := 1) rfl; have f2 := hF.cell_ (i := 2) rfl; have f3 := hF.cell_ (i := 3) rfl; have f4 := hF.cell_ (i := 4) rfl; have f5 := hF.cell_ (i := 5) rfl; have x0 : _ = some (Value.int .i64 2) := hS.box.c0)
    | (with_reducible refine wpList_load_opx (by with_unfolding_all rfl) _ rfl _ rfl hS.box hS.hK ?_)
    | (go_at_call 94; (with_reducible refine (cR _ _ _ (own_rd hS.own1).2).mono ?_); rintro o1 w1 ⟨rfl, hb⟩; replace hS := hS.below hb; clear hb x0 f0 f1 f2 f3 f4 f5)
    | (go_at_call 102; (with_reducible refine (cF _ hS.r).mono ?_); rintro o1 w1 ⟨rfl, h1⟩; replace hS := hS.step h1; clear h1)
    | (go_at_call 50; (with_reducible refine (pkErr_any g s _ _ _ hS.r).mono ?_); rintro o1 w1 ⟨rfl, rfl⟩)
    | (with_reducible refine wpList_build_op0 rfl rfl ?_)
    | (with_reducible refine wpList_store_blk rfl 74 _ _ rfl w.heap.size _ _ 74 hS.res rfl rfl ?c2 ?c3 ?c4 ?_))
  case c2 => rw [opC_size _ _ _ _ _ _ _ rfl]; exact infoOp
  case c3 => exact (opC_size _ _ _ _ _ _ _ rfl).trans (opC_size _ _ _ _ _ _ _ rfl).symm
  case c4 => exact opC_one _ _ _ _ _ _ _
  intro w9 hb9 hg9
  go_wp2
  refine bodyPost_ret (results_cell_row rfl _ _ _ _ _ _ _ rfl hb9 Try.underlying74 rfl (by rw [opC_size _ _ _ _ _ _ _ rfl]; exact infoOp)) rfl ?_
  exact ⟨none, 0, 0, none, 0, 0, rfl, OpR.zero _, hS.st.new hg9 (Nat.le_refl _) hS.hg⟩

set_option maxRecDepth 100000 in
set_option maxHeartbeats 40000000 in
theorem og_2_ii (g : Nat) (s : List UInt8) (a : Nat) (e : Int) (w : World) (hr : Rdr g s a e w) (a0 : Nat) (e0 : Int) (cB : ∀ W, Rdr g s a e W → Calls Try.prog 34 #[.pointer (some ⟨g, 0, none⟩)] W fun o w' => o = .returned (.int .u8 2) ∧ Step g s a0 e0 W w') (P : List UInt8) (a1 : Nat) (e1 : Int) (lP : P.length ≤ 200) (c1 : ∀ W, Rdr g s a0 e0 W → Calls Try.prog 36 #[.pointer (some ⟨g, 0, none⟩), .int .i64 200] W fun o w' => o = .returned (.string (txt P)) ∧ Step g s a1 e1 W w') (O : List (List UInt8)) (a2 : Nat) (e2 : Int) (lO : O.length ≤ 1000 ∧ ∀ y ∈ O, y.length ≤ 200) (c2 : ∀ W, Rdr g s a1 e1 W → Calls Try.prog 41 #[.pointer (some ⟨g, 0, none⟩), .int .i64 1000, .int .i64 200] W fun o w' => ∃ v, o = .returned v ∧ w'.ownsRow W.heap.size 9 1 v O.length (O.map strV) ∧ Step g s a2 e2 W w') (hE : opE ⟨2, P, [], 0, O, [], zeroB, 0⟩ = 0) (he : e2 ≠ 0) :
    Calls Try.prog 55 #[.pointer (some ⟨g, 0, none⟩)] w fun o w' => OgP g s a2 e2 opZ w o w' := by
  have hgl := hr.lt
  have hk0 : (w.alloc (.cells (opC opZ none 0 0 none 0 0) 74)).heap.size = w.heap.size + 1 := by simp
  have hr0 : Rdr g s a e (w.alloc (.cells (opC opZ none 0 0 none 0 0) 74)) := Blk.alloc hr _
  have hs0 : Step g s a e w (w.alloc (.cells (opC opZ none 0 0 none 0 0) 74)) := (Step.same hr).below ((Below.refl _ w).alloc (Nat.le_refl _) _)
  have hres := Blk.new w 74 (opC opZ none 0 0 none 0 0)
  have cKn : ∀ W, Calls Try.prog 101 #[.int .i64 2] W fun o w' => o = .returned (.bool true) ∧ W = w' := fun W => oknown_any 2 W
  have cH : ∀ W, Calls Try.prog 95 #[.int .i64 2] W fun o w' => o = .returned (.agg #[.bool false, .bool false, .bool true, .bool false, .bool false, .bool false]) ∧ Below W.heap.size W w' := fun W => has_any 2 W
  have cR : ∀ (W : World) (A1 : Option Addr) (c1 : Nat) (h1 : Rd W A1 (O.map strV)), Calls Try.prog 94 #[.agg (opC ⟨2, P, [], 0, O, [], zeroB, 0⟩ A1 O.length c1 none 0 0)] W fun o w' => o = .returned (.int .i64 0) ∧ Below W.heap.size W w' := fun W A1 c1 h1 => by
    have q := oright_any ⟨2, P, [], 0, O, [], zeroB, 0⟩ rfl A1 O.length c1 rfl (by omega) none 0 0 rfl (by decide) W h1 (Rd.nil_ _ _)
    rwa [hE] at q
  have hen : (e2 != 0) = true := by simpa using he
  clear hE hr
  go_enter Try.func55, Try.ntmps55
  go_wp2_with (fail)
  rw [← opC_lit 0, show (⟨0, [], [], 0, [], [], zeroB, 0⟩ : OpD) = opZ from rfl]
  generalize w.alloc (.cells (opC opZ none 0 0 none 0 0) 74) = W0 at *
  refine (cB _ hr0).mono ?_
  rintro o1 w1 ⟨rfl, h1⟩
  have hr1 := hs0.trans h1
  have hres1 := blk_gb hres h1.gb (by omega)
  have hsz := h1.gb.size
  rw [hk0] at hsz
  clear h1 hs0 hres hr0 cB hk0
  have x0 : (w1.alloc (.cells (opC ⟨2, [], [], 0, [], [], zeroB, 0⟩ none 0 0 none 0 0) 74)).cell? ⟨w1.heap.size, 0, none⟩ = some (.int .i64 2) := (OpX.new w1 ⟨2, [], [], 0, [], [], zeroB, 0⟩ none 0 0 none 0 0).c0
  go_wp2_with (first
    | (with_reducible refine wpList_build_op rfl _ rfl 2 (by with_unfolding_all rfl) ?_)
    | (with_reducible refine wpList_store_new rfl 74 _ _ rfl (opC ⟨2, [], [], 0, [], [], zeroB, 0⟩ none 0 0 none 0 0) rfl rfl ?s2 ?s3 (opC_one _ _ _ _ _ _ _) ?_))
  case s2 => rw [opC_size _ _ _ _ _ _ _ rfl]; exact infoOp
  case s3 => rw [opC_size _ _ _ _ _ _ _ rfl]; rfl
  have hS : GetS w (w1.alloc (.cells (opC ⟨2, [], [], 0, [], [], zeroB, 0⟩ none 0 0 none 0 0) 74)) g s a0 e0 w1.heap.size ⟨2, [], [], 0, [], [], zeroB, 0⟩ none 0 0 none 0 0 :=
    ⟨hr1.below ((Below.refl _ w1).alloc (Nat.le_refl _) _), OpX.new _ _ _ _ _ _ _ _, hres1.alloc _, World.ownsRow_nil _ _ _ _, World.ownsRow_nil _ _ _ _, by omega, hgl, rfl⟩
  generalize w1.alloc (.cells (opC ⟨2, [], [], 0, [], [], zeroB, 0⟩ none 0 0 none 0 0) 74) = W1 at *
  clear hr1 hres1 x0
  generalize w1.heap.size = ox at *
  have x0 : W1.cell? ⟨ox, 0, none⟩ = some (.int .i64 2) := hS.box.c0
  go_wp2_with (first
    | (go_at_call 101; (with_reducible refine (cKn _).mono ?_); rintro o1 w1 ⟨rfl, rfl⟩)
    | (go_at_call 36; (with_reducible refine (c1 _ hS.r).mono ?_); rintro o1 w1 ⟨rfl, h1⟩; replace hS := hS.step h1; clear x0; have y := hS.box.c1; have y' := hS.box.b.frozen 1; clear h1; replace hS : GetS w _ g s _ _ ox ⟨2, P, [], 0, [], [], zeroB, 0⟩ none 0 0 none 0 0 := hS.set1 P; have x0 : _ = some (Value.int .i64 2) := hS.box.c0)
    | (go_at_call 41; (with_reducible refine (c2 _ hS.r).mono ?_); rintro o1 w1 ⟨v, rfl, ho, h1⟩; obtain ⟨A1, c1, rfl⟩ := own_str ho; replace ho := own_base ho hS.st.gb.size; replace hS := hS.step h1; replace hF := blk_gb hF h1.gb (by omega); clear x0 f0 f1 f2 f3 f4 f5; have y := hS.box.c4; have y' := hS.box.b.frozen 4; clear h1; replace hS : GetS w _ g s _ _ ox ⟨2, P, [], 0, O, [], zeroB, 0⟩ A1 O.length c1 none 0 0 := hS.set4 O A1 O.length c1 ho; replace hF := hF.far (p := ⟨ox, 4, none⟩) (by simp; omega) (.slice A1 O.length c1); have f0 := hF.cell_ (i := 0) rfl; have f1 := hF.cell_ (i := 1) rfl; have f2 := hF.cell_ (i := 2) rfl; have f3 := hF.cell_ (i := 3) rfl; have f4 := hF.cell_ (i := 4) rfl; have f5 := hF.cell_ (i := 5) rfl; have x0 : _ = some (Value.int .i64 2) := hS.box.c0)
    | (go_at_call 95; (with_reducible refine (cH _).mono ?_); rintro o1 w1 ⟨rfl, hb⟩; have hF := Blk.new w1 121 #[.bool false, .bool false, .bool true, .bool false, .bool false, .bool false]; have hlt := Nat.lt_of_lt_of_le hS.box.b.lt hb.size; replace hb := hb.alloc hb.size (.cells #[.bool false, .bool false, .bool true, .bool false, .bool false, .bool false] 121); replace hS := hS.below hb; clear hb x0; have f0 := hF.cell_ (i := 0) rfl; have f1 := hF.cell_ (i := 1) rfl; have f2 := hF.cell_ (i := 2) rfl; have f3 := hF.cell_ (i := 3) rfl; have f4 := hF.cell_ (i := 4) rfl; have f5 := hF.cell_ (i := 5) rfl; have x0 : _ = some (Value.int .i64 2) := hS.box.c0)
    | (with_reducible refine wpList_load_opx (by with_unfolding_all rfl) _ rfl _ rfl hS.box hS.hK ?_)
    | (go_at_call 94; (with_reducible refine (cR _ _ _ (own_rd hS.own1).2).mono ?_); rintro o1 w1 ⟨rfl, hb⟩; replace hS := hS.below hb; clear hb x0 f0 f1 f2 f3 f4 f5)
    | (go_at_call 50; (with_reducible refine (pkErr_any g s _ _ _ hS.r).mono ?_); rintro o1 w1 ⟨rfl, rfl⟩)
    | (with_reducible refine wpList_build_op0 rfl rfl ?_)
    | (with_reducible refine wpList_store_blk rfl 74 _ _ rfl w.heap.size _ _ 74 hS.res rfl rfl ?c2 ?c3 ?c4 ?_))
  case c2 => rw [opC_size _ _ _ _ _ _ _ rfl]; exact infoOp
  case c3 => exact (opC_size _ _ _ _ _ _ _ rfl).trans (opC_size _ _ _ _ _ _ _ rfl).symm
  case c4 => exact opC_one _ _ _ _ _ _ _
  intro w9 hb9 hg9
  go_wp2
  refine bodyPost_ret (results_cell_row rfl _ _ _ _ _ _ _ rfl hb9 Try.underlying74 rfl (by rw [opC_size _ _ _ _ _ _ _ rfl]; exact infoOp)) rfl ?_
  exact ⟨none, 0, 0, none, 0, 0, rfl, OpR.zero _, hS.st.new hg9 (Nat.le_refl _) hS.hg⟩

set_option maxRecDepth 100000 in
set_option maxHeartbeats 40000000 in
theorem og_2_iii (g : Nat) (s : List UInt8) (a : Nat) (e : Int) (w : World) (hr : Rdr g s a e w) (a0 : Nat) (e0 : Int) (cB : ∀ W, Rdr g s a e W → Calls Try.prog 34 #[.pointer (some ⟨g, 0, none⟩)] W fun o w' => o = .returned (.int .u8 2) ∧ Step g s a0 e0 W w') (P : List UInt8) (a1 : Nat) (e1 : Int) (lP : P.length ≤ 200) (c1 : ∀ W, Rdr g s a0 e0 W → Calls Try.prog 36 #[.pointer (some ⟨g, 0, none⟩), .int .i64 200] W fun o w' => o = .returned (.string (txt P)) ∧ Step g s a1 e1 W w') (O : List (List UInt8)) (a2 : Nat) (e2 : Int) (lO : O.length ≤ 1000 ∧ ∀ y ∈ O, y.length ≤ 200) (c2 : ∀ W, Rdr g s a1 e1 W → Calls Try.prog 41 #[.pointer (some ⟨g, 0, none⟩), .int .i64 1000, .int .i64 200] W fun o w' => ∃ v, o = .returned v ∧ w'.ownsRow W.heap.size 9 1 v O.length (O.map strV) ∧ Step g s a2 e2 W w') (hE : opE ⟨2, P, [], 0, O, [], zeroB, 0⟩ = 0) (he : e2 = 0) :
    Calls Try.prog 55 #[.pointer (some ⟨g, 0, none⟩)] w fun o w' => OgP g s a2 e2 (⟨2, P, [], 0, O, [], zeroB, 0⟩ : OpD) w o w' := by
  have hgl := hr.lt
  have hk0 : (w.alloc (.cells (opC opZ none 0 0 none 0 0) 74)).heap.size = w.heap.size + 1 := by simp
  have hr0 : Rdr g s a e (w.alloc (.cells (opC opZ none 0 0 none 0 0) 74)) := Blk.alloc hr _
  have hs0 : Step g s a e w (w.alloc (.cells (opC opZ none 0 0 none 0 0) 74)) := (Step.same hr).below ((Below.refl _ w).alloc (Nat.le_refl _) _)
  have hres := Blk.new w 74 (opC opZ none 0 0 none 0 0)
  have cKn : ∀ W, Calls Try.prog 101 #[.int .i64 2] W fun o w' => o = .returned (.bool true) ∧ W = w' := fun W => oknown_any 2 W
  have cH : ∀ W, Calls Try.prog 95 #[.int .i64 2] W fun o w' => o = .returned (.agg #[.bool false, .bool false, .bool true, .bool false, .bool false, .bool false]) ∧ Below W.heap.size W w' := fun W => has_any 2 W
  have cR : ∀ (W : World) (A1 : Option Addr) (c1 : Nat) (h1 : Rd W A1 (O.map strV)), Calls Try.prog 94 #[.agg (opC ⟨2, P, [], 0, O, [], zeroB, 0⟩ A1 O.length c1 none 0 0)] W fun o w' => o = .returned (.int .i64 0) ∧ Below W.heap.size W w' := fun W A1 c1 h1 => by
    have q := oright_any ⟨2, P, [], 0, O, [], zeroB, 0⟩ rfl A1 O.length c1 rfl (by omega) none 0 0 rfl (by decide) W h1 (Rd.nil_ _ _)
    rwa [hE] at q
  subst he
  clear hE hr
  go_enter Try.func55, Try.ntmps55
  go_wp2_with (fail)
  rw [← opC_lit 0, show (⟨0, [], [], 0, [], [], zeroB, 0⟩ : OpD) = opZ from rfl]
  generalize w.alloc (.cells (opC opZ none 0 0 none 0 0) 74) = W0 at *
  refine (cB _ hr0).mono ?_
  rintro o1 w1 ⟨rfl, h1⟩
  have hr1 := hs0.trans h1
  have hres1 := blk_gb hres h1.gb (by omega)
  have hsz := h1.gb.size
  rw [hk0] at hsz
  clear h1 hs0 hres hr0 cB hk0
  have x0 : (w1.alloc (.cells (opC ⟨2, [], [], 0, [], [], zeroB, 0⟩ none 0 0 none 0 0) 74)).cell? ⟨w1.heap.size, 0, none⟩ = some (.int .i64 2) := (OpX.new w1 ⟨2, [], [], 0, [], [], zeroB, 0⟩ none 0 0 none 0 0).c0
  go_wp2_with (first
    | (with_reducible refine wpList_build_op rfl _ rfl 2 (by with_unfolding_all rfl) ?_)
    | (with_reducible refine wpList_store_new rfl 74 _ _ rfl (opC ⟨2, [], [], 0, [], [], zeroB, 0⟩ none 0 0 none 0 0) rfl rfl ?s2 ?s3 (opC_one _ _ _ _ _ _ _) ?_))
  case s2 => rw [opC_size _ _ _ _ _ _ _ rfl]; exact infoOp
  case s3 => rw [opC_size _ _ _ _ _ _ _ rfl]; rfl
  have hS : GetS w (w1.alloc (.cells (opC ⟨2, [], [], 0, [], [], zeroB, 0⟩ none 0 0 none 0 0) 74)) g s a0 e0 w1.heap.size ⟨2, [], [], 0, [], [], zeroB, 0⟩ none 0 0 none 0 0 :=
    ⟨hr1.below ((Below.refl _ w1).alloc (Nat.le_refl _) _), OpX.new _ _ _ _ _ _ _ _, hres1.alloc _, World.ownsRow_nil _ _ _ _, World.ownsRow_nil _ _ _ _, by omega, hgl, rfl⟩
  generalize w1.alloc (.cells (opC ⟨2, [], [], 0, [], [], zeroB, 0⟩ none 0 0 none 0 0) 74) = W1 at *
  clear hr1 hres1 x0
  generalize w1.heap.size = ox at *
  have x0 : W1.cell? ⟨ox, 0, none⟩ = some (.int .i64 2) := hS.box.c0
  go_wp2_with (first
    | (go_at_call 101; (with_reducible refine (cKn _).mono ?_); rintro o1 w1 ⟨rfl, rfl⟩)
    | (go_at_call 36; (with_reducible refine (c1 _ hS.r).mono ?_); rintro o1 w1 ⟨rfl, h1⟩; replace hS := hS.step h1; clear x0; have y := hS.box.c1; have y' := hS.box.b.frozen 1; clear h1; replace hS : GetS w _ g s _ _ ox ⟨2, P, [], 0, [], [], zeroB, 0⟩ none 0 0 none 0 0 := hS.set1 P; have x0 : _ = some (Value.int .i64 2) := hS.box.c0)
    | (go_at_call 41; (with_reducible refine (c2 _ hS.r).mono ?_); rintro o1 w1 ⟨v, rfl, ho, h1⟩; obtain ⟨A1, c1, rfl⟩ := own_str ho; replace ho := own_base ho hS.st.gb.size; replace hS := hS.step h1; replace hF := blk_gb hF h1.gb (by omega); clear x0 f0 f1 f2 f3 f4 f5; have y := hS.box.c4; have y' := hS.box.b.frozen 4; clear h1; replace hS : GetS w _ g s _ _ ox ⟨2, P, [], 0, O, [], zeroB, 0⟩ A1 O.length c1 none 0 0 := hS.set4 O A1 O.length c1 ho; replace hF := hF.far (p := ⟨ox, 4, none⟩) (by simp; omega) (.slice A1 O.length c1); have f0 := hF.cell_ (i := 0) rfl; have f1 := hF.cell_ (i := 1) rfl; have f2 := hF.cell_ (i := 2) rfl; have f3 := hF.cell_ (i := 3) rfl; have f4 := hF.cell_ (i := 4) rfl; have f5 := hF.cell_ (i := 5) rfl; have x0 : _ = some (Value.int .i64 2) := hS.box.c0)
    | (go_at_call 95; (with_reducible refine (cH _).mono ?_); rintro o1 w1 ⟨rfl, hb⟩; have hF := Blk.new w1 121 #[.bool false, .bool false, .bool true, .bool false, .bool false, .bool false]; have hlt := Nat.lt_of_lt_of_le hS.box.b.lt hb.size; replace hb := hb.alloc hb.size (.cells #[.bool false, .bool false, .bool true, .bool false, .bool false, .bool false] 121); replace hS := hS.below hb; clear hb x0; have f0 := hF.cell_ (i := 0) rfl; have f1 := hF.cell_ (i := 1) rfl; have f2 := hF.cell_ (i := 2) rfl; have f3 := hF.cell_ (i := 3) rfl; have f4 := hF.cell_ (i := 4) rfl; have f5 := hF.cell_ (i := 5) rfl; have x0 : _ = some (Value.int .i64 2) := hS.box.c0)
    | (with_reducible refine wpList_load_opx (by with_unfolding_all rfl) _ rfl _ rfl hS.box hS.hK ?_)
    | (go_at_call 94; (with_reducible refine (cR _ _ _ (own_rd hS.own1).2).mono ?_); rintro o1 w1 ⟨rfl, hb⟩; replace hS := hS.below hb; clear hb x0 f0 f1 f2 f3 f4 f5)
    | (go_at_call 50; (with_reducible refine (pkErr_any g s _ _ _ hS.r).mono ?_); rintro o1 w1 ⟨rfl, rfl⟩)
    | (with_reducible refine wpList_store_blk rfl 74 _ _ rfl w.heap.size _ _ 74 hS.res rfl rfl ?c2 ?c3 ?c4 ?_))
  case c2 => rw [opC_size _ _ _ _ _ _ _ hS.hK]; exact infoOp
  case c3 => rw [opC_size _ _ _ _ _ _ _ hS.hK]; exact opC_size _ _ _ _ _ _ _ rfl
  case c4 => exact opC_one _ _ _ _ _ _ _
  intro w9 hb9 hg9
  go_wp2
  refine bodyPost_ret (results_cell_row rfl _ _ _ _ _ _ _ rfl hb9 Try.underlying74 rfl (by rw [opC_size _ _ _ _ _ _ _ hS.hK]; exact infoOp)) rfl ?_
  have ow1 := hS.own1.kept hg9 (.inr (Lib.ownBlock_ne hS.own1 hS.res (by decide)))
  have ow2 := hS.own2.kept hg9 (.inr (Lib.ownBlock_ne hS.own2 hS.res (by decide)))
  refine ⟨_, _, _, _, _, _, rfl, ⟨(own_rd ow1).1, ?_, ?_, (own_rd ow2).1, ?_, ?_, (own_rd ow1).2, (own_rd ow2).2, hS.hK, ?_, ?_⟩, hS.st.new hg9 (Nat.le_refl _) hS.hg⟩
  · exact lO.1
  · exact fun y hy => Nat.le_trans (lO.2 y hy) (by decide)
  · decide
  · simp
  · exact Nat.le_trans lP (by decide)
  · simp

set_option maxRecDepth 100000 in
set_option maxHeartbeats 40000000 in
theorem og_3_i (g : Nat) (s : List UInt8) (a : Nat) (e : Int) (w : World) (hr : Rdr g s a e w) (a0 : Nat) (e0 : Int) (cB : ∀ W, Rdr g s a e W → Calls Try.prog 34 #[.pointer (some ⟨g, 0, none⟩)] W fun o w' => o = .returned (.int .u8 3) ∧ Step g s a0 e0 W w') (P : List UInt8) (a1 : Nat) (e1 : Int) (lP : P.length ≤ 200) (c1 : ∀ W, Rdr g s a0 e0 W → Calls Try.prog 36 #[.pointer (some ⟨g, 0, none⟩), .int .i64 200] W fun o w' => o = .returned (.string (txt P)) ∧ Step g s a1 e1 W w') (N : Nat) (a2 : Nat) (e2 : Int) (lN : N ≤ 4611686018427387904) (c2 : ∀ W, Rdr g s a1 e1 W → Calls Try.prog 35 #[.pointer (some ⟨g, 0, none⟩)] W fun o w' => o = .returned (.int .i64 N) ∧ Step g s a2 e2 W w') (O : List (List UInt8)) (a3 : Nat) (e3 : Int) (lO : O.length ≤ 1000 ∧ ∀ y ∈ O, y.length ≤ 200) (c3 : ∀ W, Rdr g s a2 e2 W → Calls Try.prog 41 #[.pointer (some ⟨g, 0, none⟩), .int .i64 1000, .int .i64 200] W fun o w' => ∃ v, o = .returned v ∧ w'.ownsRow W.heap.size 9 1 v O.length (O.map strV) ∧ Step g s a3 e3 W w') (Q : List (List UInt8)) (a4 : Nat) (e4 : Int) (lQ : Q.length ≤ 1000 ∧ ∀ y ∈ Q, y.length ≤ 200) (c4 : ∀ W, Rdr g s a3 e3 W → Calls Try.prog 41 #[.pointer (some ⟨g, 0, none⟩), .int .i64 1000, .int .i64 200] W fun o w' => ∃ v, o = .returned v ∧ w'.ownsRow W.heap.size 9 1 v Q.length (Q.map strV) ∧ Step g s a4 e4 W w') (E : Int) (hE : opE ⟨3, P, [], (N : Int), O, Q, zeroB, 0⟩ = E) (hE0 : E ≠ 0) :
    Calls Try.prog 55 #[.pointer (some ⟨g, 0, none⟩)] w fun o w' => OgP g s a4 (stopB e4 3) opZ w o w' := by
  have hgl := hr.lt
  have hk0 : (w.alloc (.cells (opC opZ none 0 0 none 0 0) 74)).heap.size = w.heap.size + 1 := by simp
  have hr0 : Rdr g s a e (w.alloc (.cells (opC opZ none 0 0 none 0 0) 74)) := Blk.alloc hr _
  have hs0 : Step g s a e w (w.alloc (.cells (opC opZ none 0 0 none 0 0) 74)) := (Step.same hr).below ((Below.refl _ w).alloc (Nat.le_refl _) _)
  have hres := Blk.new w 74 (opC opZ none 0 0 none 0 0)
  have cKn : ∀ W, Calls Try.prog 101 #[.int .i64 3] W fun o w' => o = .returned (.bool true) ∧ W = w' := fun W => oknown_any 3 W
  have cH : ∀ W, Calls Try.prog 95 #[.int .i64 3] W fun o w' => o = .returned (.agg #[.bool false, .bool true, .bool true, .bool true, .bool false, .bool false]) ∧ Below W.heap.size W w' := fun W => has_any 3 W
  have cR : ∀ (W : World) (A1 : Option Addr) (c1 : Nat) (A2 : Option Addr) (c2 : Nat) (h1 : Rd W A1 (O.map strV)) (h2 : Rd W A2 (Q.map strV)), Calls Try.prog 94 #[.agg (opC ⟨3, P, [], (N : Int), O, Q, zeroB, 0⟩ A1 O.length c1 A2 Q.length c2)] W fun o w' => o = .returned (.int .i64 E) ∧ Below W.heap.size W w' := fun W A1 c1 A2 c2 h1 h2 => by
    have q := oright_any ⟨3, P, [], (N : Int), O, Q, zeroB, 0⟩ rfl A1 O.length c1 rfl (by omega) A2 Q.length c2 rfl (by omega) W h1 h2
    rwa [hE] at q
  have hEn : (E != 0) = true := by simpa using hE0
  have hst : stopB e4 3 ≠ 0 := by unfold stopB; split <;> first | decide | assumption
  obtain ⟨ef, hef⟩ : ∃ ef, ef = stopB e4 3 := ⟨_, rfl⟩
  have hen : (ef != 0) = true := by rw [hef]; simpa using hst
  have cF : ∀ W, Rdr g s a4 e4 W → Calls Try.prog 102 #[.pointer (some ⟨g, 0, none⟩), .int .i64 3] W fun o w' => o = .returned (.tuple #[]) ∧ Step g s a4 ef W w' := fun W h => by rw [hef]; exact pkFail_any g s a4 e4 3 W h
  rw [← hef]
  clear hef hst
  clear hE hr
  go_enter Try.func55, Try.ntmps55
  go_wp2_with (fail)
  rw [← opC_lit 0, show (⟨0, [], [], 0, [], [], zeroB, 0⟩ : OpD) = opZ from rfl]
  generalize w.alloc (.cells (opC opZ none 0 0 none 0 0) 74) = W0 at *
  refine (cB _ hr0).mono ?_
  rintro o1 w1 ⟨rfl, h1⟩
  have hr1 := hs0.trans h1
  have hres1 := blk_gb hres h1.gb (by omega)
  have hsz := h1.gb.size
  rw [hk0] at hsz
  clear h1 hs0 hres hr0 cB hk0
  have x0 : (w1.alloc (.cells (opC ⟨3, [], [], 0, [], [], zeroB, 0⟩ none 0 0 none 0 0) 74)).cell? ⟨w1.heap.size, 0, none⟩ = some (.int .i64 3) := (OpX.new w1 ⟨3, [], [], 0, [], [], zeroB, 0⟩ none 0 0 none 0 0).c0
  go_wp2_with (first
    | (with_reducible refine wpList_build_op rfl _ rfl 3 (by with_unfolding_all rfl) ?_)
    | (with_reducible refine wpList_store_new rfl 74 _ _ rfl (opC ⟨3, [], [], 0, [], [], zeroB, 0⟩ none 0 0 none 0 0) rfl rfl ?s2 ?s3 (opC_one _ _ _ _ _ _ _) ?_))
  case s2 => rw [opC_size _ _ _ _ _ _ _ rfl]; exact infoOp
  case s3 => rw [opC_size _ _ _ _ _ _ _ rfl]; rfl
  have hS : GetS w (w1.alloc (.cells (opC ⟨3, [], [], 0, [], [], zeroB, 0⟩ none 0 0 none 0 0) 74)) g s a0 e0 w1.heap.size ⟨3, [], [], 0, [], [], zeroB, 0⟩ none 0 0 none 0 0 :=
    ⟨hr1.below ((Below.refl _ w1).alloc (Nat.le_refl _) _), OpX.new _ _ _ _ _ _ _ _, hres1.alloc _, World.ownsRow_nil _ _ _ _, World.ownsRow_nil _ _ _ _, by omega, hgl, rfl⟩
  generalize w1.alloc (.cells (opC ⟨3, [], [], 0, [], [], zeroB, 0⟩ none 0 0 none 0 0) 74) = W1 at *
  clear hr1 hres1 x0
  generalize w1.heap.size = ox at *
  have x0 : W1.cell? ⟨ox, 0, none⟩ = some (.int .i64 3) := hS.box.c0
  go_wp2_with (first
    | (go_at_call 101; (with_reducible refine (cKn _).mono ?_); rintro o1 w1 ⟨rfl, rfl⟩)
    | (go_at_call 36; (with_reducible refine (c1 _ hS.r).mono ?_); rintro o1 w1 ⟨rfl, h1⟩; replace hS := hS.step h1; clear x0; have y := hS.box.c1; have y' := hS.box.b.frozen 1; clear h1; replace hS : GetS w _ g s _ _ ox ⟨3, P, [], 0, [], [], zeroB, 0⟩ none 0 0 none 0 0 := hS.set1 P; have x0 : _ = some (Value.int .i64 3) := hS.box.c0)
    | (go_at_call 35; (with_reducible refine (c2 _ hS.r).mono ?_); rintro o1 w1 ⟨rfl, h1⟩; replace hS := hS.step h1; replace hF := blk_gb hF h1.gb (by omega); clear x0 f0 f1 f2 f3 f4 f5; have y := hS.box.c3; have y' := hS.box.b.frozen 3; clear h1; replace hS : GetS w _ g s _ _ ox ⟨3, P, [], (N : Int), [], [], zeroB, 0⟩ none 0 0 none 0 0 := hS.set3 (N : Int); replace hF := hF.far (p := ⟨ox, 3, none⟩) (by simp; omega) (.int .i64 (N : Int)); have f0 := hF.cell_ (i := 0) rfl; have f1 := hF.cell_ (i := 1) rfl; have f2 := hF.cell_ (i := 2) rfl; have f3 := hF.cell_ (i := 3) rfl; have f4 := hF.cell_ (i := 4) rfl; have f5 := hF.cell_ (i := 5) rfl; have x0 : _ = some (Value.int .i64 3) := hS.box.c0)
    | (go_at_call 41; (with_reducible refine (c3 _ hS.r).mono ?_); rintro o1 w1 ⟨v, rfl, ho, h1⟩; obtain ⟨A1, c1, rfl⟩ := own_str ho; replace ho := own_base ho hS.st.gb.size; replace hS := hS.step h1; replace hF := blk_gb hF h1.gb (by omega); clear x0 f0 f1 f2 f3 f4 f5; have y := hS.box.c4; have y' := hS.box.b.frozen 4; clear h1; replace hS : GetS w _ g s _ _ ox ⟨3, P, [], (N : Int), O, [], zeroB, 0⟩ A1 O.length c1 none 0 0 := hS.set4 O A1 O.length c1 ho; replace hF := hF.far (p := ⟨ox, 4, none⟩) (by simp; omega) (.slice A1 O.length c1); have f0 := hF.cell_ (i := 0) rfl; have f1 := hF.cell_ (i := 1) rfl; have f2 := hF.cell_ (i := 2) rfl; have f3 := hF.cell_ (i := 3) rfl; have f4 := hF.cell_ (i := 4) rfl; have f5 := hF.cell_ (i := 5) rfl; have x0 : _ = some (Value.int .i64 3) := hS.box.c0)
    | (go_at_call 41; (with_reducible refine (c4 _ hS.r).mono ?_); rintro o1 w1 ⟨v, rfl, ho, h1⟩; obtain ⟨A2, c2, rfl⟩ := own_str ho; replace ho := own_base ho hS.st.gb.size; replace hS := hS.step h1; replace hF := blk_gb hF h1.gb (by omega); clear x0 f0 f1 f2 f3 f4 f5; have y := hS.box.c5; have y' := hS.box.b.frozen 5; clear h1; replace hS : GetS w _ g s _ _ ox ⟨3, P, [], (N : Int), O, Q, zeroB, 0⟩ A1 O.length c1 A2 Q.length c2 := hS.set5 Q A2 Q.length c2 ho; replace hF := hF.far (p := ⟨ox, 5, none⟩) (by simp; omega) (.slice A2 Q.length c2); have f0 := hF.cell_ (i := 0) rfl; have f1 := hF.cell_ (i := 1) rfl; have f2 := hF.cell_ (i := 2) rfl; have f3 := hF.cell_ (i := 3) rfl; have f4 := hF.cell_ (i := 4) rfl; have f5 := hF.cell_ (i := 5) rfl; have x0 : _ = some (Value.int .i64 3) := hS.box.c0)
    | (go_at_call 95; (with_reducible refine (cH _).mono ?_); rintro o1 w1 ⟨rfl, hb⟩; have hF := Blk.new w1 121 #[.bool false, .bool true, .bool true, .bool true, .bool false, .bool false]; have hlt := Nat.lt_of_lt_of_le hS.box.b.lt hb.size; replace hb := hb.alloc hb.size (.cells #[.bool false, .bool true, .bool true, .bool true, .bool false, .bool false] 121); replace hS := hS.below hb; clear hb x0; have f0 := hF.cell_ (i := 0) rfl; have f1 := hF.cell_ (i := 1) rfl; have f2 := hF.cell_ (i := 2) rfl; have f3 := hF.cell_ (i := 3) rfl; have f4 := hF.cell_ (i := 4) rfl; have f5 := hF.cell_ (i := 5) rfl; have x0 : _ = some (Value.int .i64 3) := hS.box.c0)
    | (with_reducible refine wpList_load_opx (by with_unfolding_all rfl) _ rfl _ rfl hS.box hS.hK ?_)
    | (go_at_call 94; (with_reducible refine (cR _ _ _ _ _ (own_rd hS.own1).2 (own_rd hS.own2).2).mono ?_); rintro o1 w1 ⟨rfl, hb⟩; replace hS := hS.below hb; clear hb x0 f0 f1 f2 f3 f4 f5)
    | (go_at_call 102; (with_reducible refine (cF _ hS.r).mono ?_); rintro o1 w1 ⟨rfl, h1⟩; replace hS := hS.step h1; clear h1)
    | (go_at_call 50; (with_reducible refine (pkErr_any g s _ _ _ hS.r).mono ?_); rintro o1 w1 ⟨rfl, rfl⟩)
    | (with_reducible refine wpList_build_op0 rfl rfl ?_)
    | (with_reducible refine wpList_store_blk rfl 74 _ _ rfl w.heap.size _ _ 74 hS.res rfl rfl ?c2 ?c3 ?c4 ?_))
  case c2 => rw [opC_size _ _ _ _ _ _ _ rfl]; exact infoOp
  case c3 => exact (opC_size _ _ _ _ _ _ _ rfl).trans (opC_size _ _ _ _ _ _ _ rfl).symm
  case c4 => exact opC_one _ _ _ _ _ _ _
  intro w9 hb9 hg9
  go_wp2
  refine bodyPost_ret (results_cell_row rfl _ _ _ _ _ _ _ rfl hb9 Try.underlying74 rfl (by rw [opC_size _ _ _ _ _ _ _ rfl]; exact infoOp)) rfl ?_
  exact ⟨none, 0, 0, none, 0, 0, rfl, OpR.zero _, hS.st.new hg9 (Nat.le_refl _) hS.hg⟩

set_option maxRecDepth 100000 in
set_option maxHeartbeats 40000000 in
theorem og_3_ii (g : Nat) (s : List UInt8) (a : Nat) (e : Int) (w : World) (hr : Rdr g s a e w) (a0 : Nat) (e0 : Int) (cB : ∀ W, Rdr g s a e W → Calls Try.prog 34 #[.pointer (some ⟨g, 0, none⟩)] W fun o w' => o = .returned (.int .u8 3) ∧ Step g s a0 e0 W w') (P : List UInt8) (a1 : Nat) (e1 : Int) (lP : P.length ≤ 200) (c1 : ∀ W, Rdr g s a0 e0 W → Calls Try.prog 36 #[.pointer (some ⟨g, 0, none⟩), .int .i64 200] W fun o w' => o = .returned (.string (txt P)) ∧ Step g s a1 e1 W w') (N : Nat) (a2 : Nat) (e2 : Int) (lN : N ≤ 4611686018427387904) (c2 : ∀ W, Rdr g s a1 e1 W → Calls Try.prog 35 #[.pointer (some ⟨g, 0, none⟩)] W fun o w' => o = .returned (.int .i64 N) ∧ Step g s a2 e2 W w') (O : List (List UInt8)) (a3 : Nat) (e3 : Int) (lO : O.length ≤ 1000 ∧ ∀ y ∈ O, y.length ≤ 200) (c3 : ∀ W, Rdr g s a2 e2 W → Calls Try.prog 41 #[.pointer (some ⟨g, 0, none⟩), .int .i64 1000, .int .i64 200] W fun o w' => ∃ v, o = .returned v ∧ w'.ownsRow W.heap.size 9 1 v O.length (O.map strV) ∧ Step g s a3 e3 W w') (Q : List (List UInt8)) (a4 : Nat) (e4 : Int) (lQ : Q.length ≤ 1000 ∧ ∀ y ∈ Q, y.length ≤ 200) (c4 : ∀ W, Rdr g s a3 e3 W → Calls Try.prog 41 #[.pointer (some ⟨g, 0, none⟩), .int .i64 1000, .int .i64 200] W fun o w' => ∃ v, o = .returned v ∧ w'.ownsRow W.heap.size 9 1 v Q.length (Q.map strV) ∧ Step g s a4 e4 W w') (hE : opE ⟨3, P, [], (N : Int), O, Q, zeroB, 0⟩ = 0) (he : e4 ≠ 0) :
    Calls Try.prog 55 #[.pointer (some ⟨g, 0, none⟩)] w fun o w' => OgP g s a4 e4 opZ w o w' := by
  have hgl := hr.lt
  have hk0 : (w.alloc (.cells (opC opZ none 0 0 none 0 0) 74)).heap.size = w.heap.size + 1 := by simp
  have hr0 : Rdr g s a e (w.alloc (.cells (opC opZ none 0 0 none 0 0) 74)) := Blk.alloc hr _
  have hs0 : Step g s a e w (w.alloc (.cells (opC opZ none 0 0 none 0 0) 74)) := (Step.same hr).below ((Below.refl _ w).alloc (Nat.le_refl _) _)
  have hres := Blk.new w 74 (opC opZ none 0 0 none 0 0)
  have cKn : ∀ W, Calls Try.prog 101 #[.int .i64 3] W fun o w' => o = .returned (.bool true) ∧ W = w' := fun W => oknown_any 3 W
  have cH : ∀ W, Calls Try.prog 95 #[.int .i64 3] W fun o w' => o = .returned (.agg #[.bool false, .bool true, .bool true, .bool true, .bool false, .bool false]) ∧ Below W.heap.size W w' := fun W => has_any 3 W
  have cR : ∀ (W : World) (A1 : Option Addr) (c1 : Nat) (A2 : Option Addr) (c2 : Nat) (h1 : Rd W A1 (O.map strV)) (h2 : Rd W A2 (Q.map strV)), Calls Try.prog 94 #[.agg (opC ⟨3, P, [], (N : Int), O, Q, zeroB, 0⟩ A1 O.length c1 A2 Q.length c2)] W fun o w' => o = .returned (.int .i64 0) ∧ Below W.heap.size W w' := fun W A1 c1 A2 c2 h1 h2 => by
    have q := oright_any ⟨3, P, [], (N : Int), O, Q, zeroB, 0⟩ rfl A1 O.length c1 rfl (by omega) A2 Q.length c2 rfl (by omega) W h1 h2
    rwa [hE] at q
  have hen : (e4 != 0) = true := by simpa using he
  clear hE hr
  go_enter Try.func55, Try.ntmps55
  go_wp2_with (fail)
  rw [← opC_lit 0, show (⟨0, [], [], 0, [], [], zeroB, 0⟩ : OpD) = opZ from rfl]
  generalize w.alloc (.cells (opC opZ none 0 0 none 0 0) 74) = W0 at *
  refine (cB _ hr0).mono ?_
  rintro o1 w1 ⟨rfl, h1⟩
  have hr1 := hs0.trans h1
  have hres1 := blk_gb hres h1.gb (by omega)
  have hsz := h1.gb.size
  rw [hk0] at hsz
  clear h1 hs0 hres hr0 cB hk0
  have x0 : (w1.alloc (.cells (opC ⟨3, [], [], 0, [], [], zeroB, 0⟩ none 0 0 none 0 0) 74)).cell? ⟨w1.heap.size, 0, none⟩ = some (.int .i64 3) := (OpX.new w1 ⟨3, [], [], 0, [], [], zeroB, 0⟩ none 0 0 none 0 0).c0
  go_wp2_with (first
    | (with_reducible refine wpList_build_op rfl _ rfl 3 (by with_unfolding_all rfl) ?_)
    | (with_reducible refine wpList_store_new rfl 74 _ _ rfl (opC ⟨3, [], [], 0, [], [], zeroB, 0⟩ none 0 0 none 0 0) rfl rfl ?s2 ?s3 (opC_one _ _ _ _ _ _ _) ?_))
  case s2 => rw [opC_size _ _ _ _ _ _ _ rfl]; exact infoOp
  case s3 => rw [opC_size _ _ _ _ _ _ _ rfl]; rfl
  have hS : GetS w (w1.alloc (.cells (opC ⟨3, [], [], 0, [], [], zeroB, 0⟩ none 0 0 none 0 0) 74)) g s a0 e0 w1.heap.size ⟨3, [], [], 0, [], [], zeroB, 0⟩ none 0 0 none 0 0 :=
    ⟨hr1.below ((Below.refl _ w1).alloc (Nat.le_refl _) _), OpX.new _ _ _ _ _ _ _ _, hres1.alloc _, World.ownsRow_nil _ _ _ _, World.ownsRow_nil _ _ _ _, by omega, hgl, rfl⟩
  generalize w1.alloc (.cells (opC ⟨3, [], [], 0, [], [], zeroB, 0⟩ none 0 0 none 0 0) 74) = W1 at *
  clear hr1 hres1 x0
  generalize w1.heap.size = ox at *
  have x0 : W1.cell? ⟨ox, 0, none⟩ = some (.int .i64 3) := hS.box.c0
  go_wp2_with (first
    | (go_at_call 101; (with_reducible refine (cKn _).mono ?_); rintro o1 w1 ⟨rfl, rfl⟩)
    | (go_at_call 36; (with_reducible refine (c1 _ hS.r).mono ?_); rintro o1 w1 ⟨rfl, h1⟩; replace hS := hS.step h1; clear x0; have y := hS.box.c1; have y' := hS.box.b.frozen 1; clear h1; replace hS : GetS w _ g s _ _ ox ⟨3, P, [], 0, [], [], zeroB, 0⟩ none 0 0 none 0 0 := hS.set1 P; have x0 : _ = some (Value.int .i64 3) := hS.box.c0)
    | (go_at_call 35; (with_reducible refine (c2 _ hS.r).mono ?_); rintro o1 w1 ⟨rfl, h1⟩; replace hS := hS.step h1; replace hF := blk_gb hF h1.gb (by omega); clear x0 f0 f1 f2 f3 f4 f5; have y := hS.box.c3; have y' := hS.box.b.frozen 3; clear h1; replace hS : GetS w _ g s _ _ ox ⟨3, P, [], (N : Int), [], [], zeroB, 0⟩ none 0 0 none 0 0 := hS.set3 (N : Int); replace hF := hF.far (p := ⟨ox, 3, none⟩) (by simp; omega) (.int .i64 (N : Int)); have f0 := hF.cell_ (i := 0) rfl; have f1 := hF.cell_ (i := 1) rfl; have f2 := hF.cell_ (i := 2) rfl; have f3 := hF.cell_ (i := 3) rfl; have f4 := hF.cell_ (i := 4) rfl; have f5 := hF.cell_ (i := 5) rfl; have x0 : _ = some (Value.int .i64 3) := hS.box.c0)
    | (go_at_call 41; (with_reducible refine (c3 _ hS.r).mono ?_); rintro o1 w1 ⟨v, rfl, ho, h1⟩; obtain ⟨A1, c1, rfl⟩ := own_str ho; replace ho := own_base ho hS.st.gb.size; replace hS := hS.step h1; replace hF := blk_gb hF h1.gb (by omega); clear x0 f0 f1 f2 f3 f4 f5; have y := hS.box.c4; have y' := hS.box.b.frozen 4; clear h1; replace hS : GetS w _ g s _ _ ox ⟨3, P, [], (N : Int), O, [], zeroB, 0⟩ A1 O.length c1 none 0 0 := hS.set4 O A1 O.length c1 ho; replace hF := hF.far (p := ⟨ox, 4, none⟩) (by simp; omega) (.slice A1 O.length c1); have f0 := hF.cell_ (i := 0) rfl; have f1 := hF.cell_ (i := 1) rfl; have f2 := hF.cell_ (i := 2) rfl; have f3 := hF.cell_ (i := 3) rfl; have f4 := hF.cell_ (i := 4) rfl; have f5 := hF.cell_ (i := 5) rfl; have x0 : _ = some (Value.int .i64 3) := hS.box.c0)
    | (go_at_call 41; (with_reducible refine (c4 _ hS.r).mono ?_); rintro o1 w1 ⟨v, rfl, ho, h1⟩; obtain ⟨A2, c2, rfl⟩ := own_str ho; replace ho := own_base ho hS.st.gb.size; replace hS := hS.step h1; replace hF := blk_gb hF h1.gb (by omega); clear x0 f0 f1 f2 f3 f4 f5; have y := hS.box.c5; have y' := hS.box.b.frozen 5; clear h1; replace hS : GetS w _ g s _ _ ox ⟨3, P, [], (N : Int), O, Q, zeroB, 0⟩ A1 O.length c1 A2 Q.length c2 := hS.set5 Q A2 Q.length c2 ho; replace hF := hF.far (p := ⟨ox, 5, none⟩) (by simp; omega) (.slice A2 Q.length c2); have f0 := hF.cell_ (i := 0) rfl; have f1 := hF.cell_ (i := 1) rfl; have f2 := hF.cell_ (i := 2) rfl; have f3 := hF.cell_ (i := 3) rfl; have f4 := hF.cell_ (i := 4) rfl; have f5 := hF.cell_ (i := 5) rfl; have x0 : _ = some (Value.int .i64 3) := hS.box.c0)
    | (go_at_call 95; (with_reducible refine (cH _).mono ?_); rintro o1 w1 ⟨rfl, hb⟩; have hF := Blk.new w1 121 #[.bool false, .bool true, .bool true, .bool true, .bool false, .bool false]; have hlt := Nat.lt_of_lt_of_le hS.box.b.lt hb.size; replace hb := hb.alloc hb.size (.cells #[.bool false, .bool true, .bool true, .bool true, .bool false, .bool false] 121); replace hS := hS.below hb; clear hb x0; have f0 := hF.cell_ (i := 0) rfl; have f1 := hF.cell_ (i := 1) rfl; have f2 := hF.cell_ (i := 2) rfl; have f3 := hF.cell_ (i := 3) rfl; have f4 := hF.cell_ (i := 4) rfl; have f5 := hF.cell_ (i := 5) rfl; have x0 : _ = some (Value.int .i64 3) := hS.box.c0)
    | (with_reducible refine wpList_load_opx (by with_unfolding_all rfl) _ rfl _ rfl hS.box hS.hK ?_)
    | (go_at_call 94; (with_reducible refine (cR _ _ _ _ _ (own_rd hS.own1).2 (own_rd hS.own2).2).mono ?_); rintro o1 w1 ⟨rfl, hb⟩; replace hS := hS.below hb; clear hb x0 f0 f1 f2 f3 f4 f5)
    | (go_at_call 50; (with_reducible refine (pkErr_any g s _ _ _ hS.r).mono ?_); rintro o1 w1 ⟨rfl, rfl⟩)
    | (with_reducible refine wpList_build_op0 rfl rfl ?_)
    | (with_reducible refine wpList_store_blk rfl 74 _ _ rfl w.heap.size _ _ 74 hS.res rfl rfl ?c2 ?c3 ?c4 ?_))
  case c2 => rw [opC_size _ _ _ _ _ _ _ rfl]; exact infoOp
  case c3 => exact (opC_size _ _ _ _ _ _ _ rfl).trans (opC_size _ _ _ _ _ _ _ rfl).symm
  case c4 => exact opC_one _ _ _ _ _ _ _
  intro w9 hb9 hg9
  go_wp2
  refine bodyPost_ret (results_cell_row rfl _ _ _ _ _ _ _ rfl hb9 Try.underlying74 rfl (by rw [opC_size _ _ _ _ _ _ _ rfl]; exact infoOp)) rfl ?_
  exact ⟨none, 0, 0, none, 0, 0, rfl, OpR.zero _, hS.st.new hg9 (Nat.le_refl _) hS.hg⟩

set_option maxRecDepth 100000 in
set_option maxHeartbeats 40000000 in
theorem og_3_iii (g : Nat) (s : List UInt8) (a : Nat) (e : Int) (w : World) (hr : Rdr g s a e w) (a0 : Nat) (e0 : Int) (cB : ∀ W, Rdr g s a e W → Calls Try.prog 34 #[.pointer (some ⟨g, 0, none⟩)] W fun o w' => o = .returned (.int .u8 3) ∧ Step g s a0 e0 W w') (P : List UInt8) (a1 : Nat) (e1 : Int) (lP : P.length ≤ 200) (c1 : ∀ W, Rdr g s a0 e0 W → Calls Try.prog 36 #[.pointer (some ⟨g, 0, none⟩), .int .i64 200] W fun o w' => o = .returned (.string (txt P)) ∧ Step g s a1 e1 W w') (N : Nat) (a2 : Nat) (e2 : Int) (lN : N ≤ 4611686018427387904) (c2 : ∀ W, Rdr g s a1 e1 W → Calls Try.prog 35 #[.pointer (some ⟨g, 0, none⟩)] W fun o w' => o = .returned (.int .i64 N) ∧ Step g s a2 e2 W w') (O : List (List UInt8)) (a3 : Nat) (e3 : Int) (lO : O.length ≤ 1000 ∧ ∀ y ∈ O, y.length ≤ 200) (c3 : ∀ W, Rdr g s a2 e2 W → Calls Try.prog 41 #[.pointer (some ⟨g, 0, none⟩), .int .i64 1000, .int .i64 200] W fun o w' => ∃ v, o = .returned v ∧ w'.ownsRow W.heap.size 9 1 v O.length (O.map strV) ∧ Step g s a3 e3 W w') (Q : List (List UInt8)) (a4 : Nat) (e4 : Int) (lQ : Q.length ≤ 1000 ∧ ∀ y ∈ Q, y.length ≤ 200) (c4 : ∀ W, Rdr g s a3 e3 W → Calls Try.prog 41 #[.pointer (some ⟨g, 0, none⟩), .int .i64 1000, .int .i64 200] W fun o w' => ∃ v, o = .returned v ∧ w'.ownsRow W.heap.size 9 1 v Q.length (Q.map strV) ∧ Step g s a4 e4 W w') (hE : opE ⟨3, P, [], (N : Int), O, Q, zeroB, 0⟩ = 0) (he : e4 = 0) :
    Calls Try.prog 55 #[.pointer (some ⟨g, 0, none⟩)] w fun o w' => OgP g s a4 e4 (⟨3, P, [], (N : Int), O, Q, zeroB, 0⟩ : OpD) w o w' := by
  have hgl := hr.lt
  have hk0 : (w.alloc (.cells (opC opZ none 0 0 none 0 0) 74)).heap.size = w.heap.size + 1 := by simp
  have hr0 : Rdr g s a e (w.alloc (.cells (opC opZ none 0 0 none 0 0) 74)) := Blk.alloc hr _
  have hs0 : Step g s a e w (w.alloc (.cells (opC opZ none 0 0 none 0 0) 74)) := (Step.same hr).below ((Below.refl _ w).alloc (Nat.le_refl _) _)
  have hres := Blk.new w 74 (opC opZ none 0 0 none 0 0)
  have cKn : ∀ W, Calls Try.prog 101 #[.int .i64 3] W fun o w' => o = .returned (.bool true) ∧ W = w' := fun W => oknown_any 3 W
  have cH : ∀ W, Calls Try.prog 95 #[.int .i64 3] W fun o w' => o = .returned (.agg #[.bool false, .bool true, .bool true, .bool true, .bool false, .bool false]) ∧ Below W.heap.size W w' := fun W => has_any 3 W
  have cR : ∀ (W : World) (A1 : Option Addr) (c1 : Nat) (A2 : Option Addr) (c2 : Nat) (h1 : Rd W A1 (O.map strV)) (h2 : Rd W A2 (Q.map strV)), Calls Try.prog 94 #[.agg (opC ⟨3, P, [], (N : Int), O, Q, zeroB, 0⟩ A1 O.length c1 A2 Q.length c2)] W fun o w' => o = .returned (.int .i64 0) ∧ Below W.heap.size W w' := fun W A1 c1 A2 c2 h1 h2 => by
    have q := oright_any ⟨3, P, [], (N : Int), O, Q, zeroB, 0⟩ rfl A1 O.length c1 rfl (by omega) A2 Q.length c2 rfl (by omega) W h1 h2
    rwa [hE] at q
  subst he
  clear hE hr
  go_enter Try.func55, Try.ntmps55
  go_wp2_with (fail)
  rw [← opC_lit 0, show (⟨0, [], [], 0, [], [], zeroB, 0⟩ : OpD) = opZ from rfl]
  generalize w.alloc (.cells (opC opZ none 0 0 none 0 0) 74) = W0 at *
  refine (cB _ hr0).mono ?_
  rintro o1 w1 ⟨rfl, h1⟩
  have hr1 := hs0.trans h1
  have hres1 := blk_gb hres h1.gb (by omega)
  have hsz := h1.gb.size
  rw [hk0] at hsz
  clear h1 hs0 hres hr0 cB hk0
  have x0 : (w1.alloc (.cells (opC ⟨3, [], [], 0, [], [], zeroB, 0⟩ none 0 0 none 0 0) 74)).cell? ⟨w1.heap.size, 0, none⟩ = some (.int .i64 3) := (OpX.new w1 ⟨3, [], [], 0, [], [], zeroB, 0⟩ none 0 0 none 0 0).c0
  go_wp2_with (first
    | (with_reducible refine wpList_build_op rfl _ rfl 3 (by with_unfolding_all rfl) ?_)
    | (with_reducible refine wpList_store_new rfl 74 _ _ rfl (opC ⟨3, [], [], 0, [], [], zeroB, 0⟩ none 0 0 none 0 0) rfl rfl ?s2 ?s3 (opC_one _ _ _ _ _ _ _) ?_))
  case s2 => rw [opC_size _ _ _ _ _ _ _ rfl]; exact infoOp
  case s3 => rw [opC_size _ _ _ _ _ _ _ rfl]; rfl
  have hS : GetS w (w1.alloc (.cells (opC ⟨3, [], [], 0, [], [], zeroB, 0⟩ none 0 0 none 0 0) 74)) g s a0 e0 w1.heap.size ⟨3, [], [], 0, [], [], zeroB, 0⟩ none 0 0 none 0 0 :=
    ⟨hr1.below ((Below.refl _ w1).alloc (Nat.le_refl _) _), OpX.new _ _ _ _ _ _ _ _, hres1.alloc _, World.ownsRow_nil _ _ _ _, World.ownsRow_nil _ _ _ _, by omega, hgl, rfl⟩
  generalize w1.alloc (.cells (opC ⟨3, [], [], 0, [], [], zeroB, 0⟩ none 0 0 none 0 0) 74) = W1 at *
  clear hr1 hres1 x0
  generalize w1.heap.size = ox at *
  have x0 : W1.cell? ⟨ox, 0, none⟩ = some (.int .i64 3) := hS.box.c0
  go_wp2_with (first
    | (go_at_call 101; (with_reducible refine (cKn _).mono ?_); rintro o1 w1 ⟨rfl, rfl⟩)
    | (go_at_call 36; (with_reducible refine (c1 _ hS.r).mono ?_); rintro o1 w1 ⟨rfl, h1⟩; replace hS := hS.step h1; clear x0; have y := hS.box.c1; have y' := hS.box.b.frozen 1; clear h1; replace hS : GetS w _ g s _ _ ox ⟨3, P, [], 0, [], [], zeroB, 0⟩ none 0 0 none 0 0 := hS.set1 P; have x0 : _ = some (Value.int .i64 3) := hS.box.c0)
    | (go_at_call 35; (with_reducible refine (c2 _ hS.r).mono ?_); rintro o1 w1 ⟨rfl, h1⟩; replace hS := hS.step h1; replace hF := blk_gb hF h1.gb (by omega); clear x0 f0 f1 f2 f3 f4 f5; have y := hS.box.c3; have y' := hS.box.b.frozen 3; clear h1; replace hS : GetS w _ g s _ _ ox ⟨3, P, [], (N : Int), [], [], zeroB, 0⟩ none 0 0 none 0 0 := hS.set3 (N : Int); replace hF := hF.far (p := ⟨ox, 3, none⟩) (by simp; omega) (.int .i64 (N : Int)); have f0 := hF.cell_ (i := 0) rfl; have f1 := hF.cell_ (i := 1) rfl; have f2 := hF.cell_ (i := 2) rfl; have f3 := hF.cell_ (i := 3) rfl; have f4 := hF.cell_ (i := 4) rfl; have f5 := hF.cell_ (i := 5) rfl; have x0 : _ = some (Value.int .i64 3) := hS.box.c0)
    | (go_at_call 41; (with_reducible refine (c3 _ hS.r).mono ?_); rintro o1 w1 ⟨v, rfl, ho, h1⟩; obtain ⟨A1, c1, rfl⟩ := own_str ho; replace ho := own_base ho hS.st.gb.size; replace hS := hS.step h1; replace hF := blk_gb hF h1.gb (by omega); clear x0 f0 f1 f2 f3 f4 f5; have y := hS.box.c4; have y' := hS.box.b.frozen 4; clear h1; replace hS : GetS w _ g s _ _ ox ⟨3, P, [], (N : Int), O, [], zeroB, 0⟩ A1 O.length c1 none 0 0 := hS.set4 O A1 O.length c1 ho; replace hF := hF.far (p := ⟨ox, 4, none⟩) (by simp; omega) (.slice A1 O.length c1); have f0 := hF.cell_ (i := 0) rfl; have f1 := hF.cell_ (i := 1) rfl; have f2 := hF.cell_ (i := 2) rfl; have f3 := hF.cell_ (i := 3) rfl; have f4 := hF.cell_ (i := 4) rfl; have f5 := hF.cell_ (i := 5) rfl; have x0 : _ = some (Value.int .i64 3) := hS.box.c0)
    | (go_at_call 41; (with_reducible refine (c4 _ hS.r).mono ?_); rintro o1 w1 ⟨v, rfl, ho, h1⟩; obtain ⟨A2, c2, rfl⟩ := own_str ho; replace ho := own_base ho hS.st.gb.size; replace hS := hS.step h1; replace hF := blk_gb hF h1.gb (by omega); clear x0 f0 f1 f2 f3 f4 f5; have y := hS.box.c5; have y' := hS.box.b.frozen 5; clear h1; replace hS : GetS w _ g s _ _ ox ⟨3, P, [], (N : Int), O, Q, zeroB, 0⟩ A1 O.length c1 A2 Q.length c2 := hS.set5 Q A2 Q.length c2 ho; replace hF := hF.far (p := ⟨ox, 5, none⟩) (by simp; omega) (.slice A2 Q.length c2); have f0 := hF.cell_ (i := 0) rfl; have f1 := hF.cell_ (i := 1) rfl; have f2 := hF.cell_ (i := 2) rfl; have f3 := hF.cell_ (i := 3) rfl; have f4 := hF.cell_ (i := 4) rfl; have f5 := hF.cell_ (i := 5) rfl; have x0 : _ = some (Value.int .i64 3) := hS.box.c0)
    | (go_at_call 95; (with_reducible refine (cH _).mono ?_); rintro o1 w1 ⟨rfl, hb⟩; have hF := Blk.new w1 121 #[.bool false, .bool true, .bool true, .bool true, .bool false, .bool false]; have hlt := Nat.lt_of_lt_of_le hS.box.b.lt hb.size; replace hb := hb.alloc hb.size (.cells #[.bool false, .bool true, .bool true, .bool true, .bool false, .bool false] 121); replace hS := hS.below hb; clear hb x0; have f0 := hF.cell_ (i := 0) rfl; have f1 := hF.cell_ (i := 1) rfl; have f2 := hF.cell_ (i := 2) rfl; have f3 := hF.cell_ (i := 3) rfl; have f4 := hF.cell_ (i := 4) rfl; have f5 := hF.cell_ (i := 5) rfl; have x0 : _ = some (Value.int .i64 3) := hS.box.c0)
    | (with_reducible refine wpList_load_opx (by with_unfolding_all rfl) _ rfl _ rfl hS.box hS.hK ?_)
    | (go_at_call 94; (with_reducible refine (cR _ _ _ _ _ (own_rd hS.own1).2 (own_rd hS.own2).2).mono ?_); rintro o1 w1 ⟨rfl, hb⟩; replace hS := hS.below hb; clear hb x0 f0 f1 f2 f3 f4 f5)
    | (go_at_call 50; (with_reducible refine (pkErr_any g s _ _ _ hS.r).mono ?_); rintro o1 w1 ⟨rfl, rfl⟩)
    | (with_reducible refine wpList_store_blk rfl 74 _ _ rfl w.heap.size _ _ 74 hS.res rfl rfl ?c2 ?c3 ?c4 ?_))
  case c2 => rw [opC_size _ _ _ _ _ _ _ hS.hK]; exact infoOp
  case c3 => rw [opC_size _ _ _ _ _ _ _ hS.hK]; exact opC_size _ _ _ _ _ _ _ rfl
  case c4 => exact opC_one _ _ _ _ _ _ _
  intro w9 hb9 hg9
  go_wp2
  refine bodyPost_ret (results_cell_row rfl _ _ _ _ _ _ _ rfl hb9 Try.underlying74 rfl (by rw [opC_size _ _ _ _ _ _ _ hS.hK]; exact infoOp)) rfl ?_
  have ow1 := hS.own1.kept hg9 (.inr (Lib.ownBlock_ne hS.own1 hS.res (by decide)))
  have ow2 := hS.own2.kept hg9 (.inr (Lib.ownBlock_ne hS.own2 hS.res (by decide)))
  refine ⟨_, _, _, _, _, _, rfl, ⟨(own_rd ow1).1, ?_, ?_, (own_rd ow2).1, ?_, ?_, (own_rd ow1).2, (own_rd ow2).2, hS.hK, ?_, ?_⟩, hS.st.new hg9 (Nat.le_refl _) hS.hg⟩
  · exact lO.1
  · exact fun y hy => Nat.le_trans (lO.2 y hy) (by decide)
  · exact lQ.1
  · exact fun y hy => Nat.le_trans (lQ.2 y hy) (by decide)
  · exact Nat.le_trans lP (by decide)
  · simp

set_option maxRecDepth 100000 in
set_option maxHeartbeats 40000000 in
theorem og_4_i (g : Nat) (s : List UInt8) (a : Nat) (e : Int) (w : World) (hr : Rdr g s a e w) (a0 : Nat) (e0 : Int) (cB : ∀ W, Rdr g s a e W → Calls Try.prog 34 #[.pointer (some ⟨g, 0, none⟩)] W fun o w' => o = .returned (.int .u8 4) ∧ Step g s a0 e0 W w') (P : List UInt8) (a1 : Nat) (e1 : Int) (lP : P.length ≤ 200) (c1 : ∀ W, Rdr g s a0 e0 W → Calls Try.prog 36 #[.pointer (some ⟨g, 0, none⟩), .int .i64 200] W fun o w' => o = .returned (.string (txt P)) ∧ Step g s a1 e1 W w') (T : List UInt8) (a2 : Nat) (e2 : Int) (lT : T.length ≤ 200) (c2 : ∀ W, Rdr g s a1 e1 W → Calls Try.prog 36 #[.pointer (some ⟨g, 0, none⟩), .int .i64 200] W fun o w' => o = .returned (.string (txt T)) ∧ Step g s a2 e2 W w') (E : Int) (hE : opE ⟨4, P, T, 0, [], [], zeroB, 0⟩ = E) (hE0 : E ≠ 0) :
    Calls Try.prog 55 #[.pointer (some ⟨g, 0, none⟩)] w fun o w' => OgP g s a2 (stopB e2 3) opZ w o w' := by
  have hgl := hr.lt
  have hk0 : (w.alloc (.cells (opC opZ none 0 0 none 0 0) 74)).heap.size = w.heap.size + 1 := by simp
  have hr0 : Rdr g s a e (w.alloc (.cells (opC opZ none 0 0 none 0 0) 74)) := Blk.alloc hr _
  have hs0 : Step g s a e w (w.alloc (.cells (opC opZ none 0 0 none 0 0) 74)) := (Step.same hr).below ((Below.refl _ w).alloc (Nat.le_refl _) _)
  have hres := Blk.new w 74 (opC opZ none 0 0 none 0 0)
  have cKn : ∀ W, Calls Try.prog 101 #[.int .i64 4] W fun o w' => o = .returned (.bool true) ∧ W = w' := fun W => oknown_any 4 W
  have cH : ∀ W, Calls Try.prog 95 #[.int .i64 4] W fun o w' => o = .returned (.agg #[.bool true, .bool false, .bool false, .bool false, .bool false, .bool false]) ∧ Below W.heap.size W w' := fun W => has_any 4 W
  have cR : ∀ (W : World) , Calls Try.prog 94 #[.agg (opC ⟨4, P, T, 0, [], [], zeroB, 0⟩ none 0 0 none 0 0)] W fun o w' => o = .returned (.int .i64 E) ∧ Below W.heap.size W w' := fun W => by
    have q := oright_any ⟨4, P, T, 0, [], [], zeroB, 0⟩ rfl none 0 0 rfl (by decide) none 0 0 rfl (by decide) W (Rd.nil_ _ _) (Rd.nil_ _ _)
    rwa [hE] at q
  have hEn : (E != 0) = true := by simpa using hE0
  have hst : stopB e2 3 ≠ 0 := by unfold stopB; split <;> first | decide | assumption
  obtain ⟨ef, hef⟩ : ∃ ef, ef = stopB e2 3 := ⟨_, rfl⟩
  have hen : (ef != 0) = true := by rw [hef]; simpa using hst
  have cF : ∀ W, Rdr g s a2 e2 W → Calls Try.prog 102 #[.pointer (some ⟨g, 0, none⟩), .int .i64 3] W fun o w' => o = .returned (.tuple #[]) ∧ Step g s a2 ef W w' := fun W h => by rw [hef]; exact pkFail_any g s a2 e2 3 W h
  rw [← hef]
  clear hef hst
  clear hE hr
  go_enter Try.func55, Try.ntmps55
  go_wp2_with (fail)
  rw [← opC_lit 0, show (⟨0, [], [], 0, [], [], zeroB, 0⟩ : OpD) = opZ from rfl]
  generalize w.alloc (.cells (opC opZ none 0 0 none 0 0) 74) = W0 at *
  refine (cB _ hr0).mono ?_
  rintro o1 w1 ⟨rfl, h1⟩
  have hr1 := hs0.trans h1
  have hres1 := blk_gb hres h1.gb (by omega)
  have hsz := h1.gb.size
  rw [hk0] at hsz
  clear h1 hs0 hres hr0 cB hk0
  have x0 : (w1.alloc (.cells (opC ⟨4, [], [], 0, [], [], zeroB, 0⟩ none 0 0 none 0 0) 74)).cell? ⟨w1.heap.size, 0, none⟩ = some (.int .i64 4) := (OpX.new w1 ⟨4, [], [], 0, [], [], zeroB, 0⟩ none 0 0 none 0 0).c0
  go_wp2_with (first
    | (with_reducible refine wpList_build_op rfl _ rfl 4 (by with_unfolding_all rfl) ?_)
    | (with_reducible refine wpList_store_new rfl 74 _ _ rfl (opC ⟨4, [], [], 0, [], [], zeroB, 0⟩ none 0 0 none 0 0) rfl rfl ?s2 ?s3 (opC_one _ _ _ _ _ _ _) ?_))
  case s2 => rw [opC_size _ _ _ _ _ _ _ rfl]; exact infoOp
  case s3 => rw [opC_size _ _ _ _ _ _ _ rfl]; rfl
  have hS : GetS w (w1.alloc (.cells (opC ⟨4, [], [], 0, [], [], zeroB, 0⟩ none 0 0 none 0 0) 74)) g s a0 e0 w1.heap.size ⟨4, [], [], 0, [], [], zeroB, 0⟩ none 0 0 none 0 0 :=
    ⟨hr1.below ((Below.refl _ w1).alloc (Nat.le_refl _) _), OpX.new _ _ _ _ _ _ _ _, hres1.alloc _, World.ownsRow_nil _ _ _ _, World.ownsRow_nil _ _ _ _, by omega, hgl, rfl⟩
  generalize w1.alloc (.cells (opC ⟨4, [], [], 0, [], [], zeroB, 0⟩ none 0 0 none 0 0) 74) = W1 at *
  clear hr1 hres1 x0
  generalize w1.heap.size = ox at *
  have x0 : W1.cell? ⟨ox, 0, none⟩ = some (.int .i64 4) := hS.box.c0
  go_wp2_with (first
    | (go_at_call 101; (with_reducible refine (cKn _).mono ?_); rintro o1 w1 ⟨rfl, rfl⟩)
    | (go_at_call 36; (with_reducible refine (c1 _ hS.r).mono ?_); rintro o1 w1 ⟨rfl, h1⟩; replace hS := hS.step h1; clear x0; have y := hS.box.c1; have y' := hS.box.b.frozen 1; clear h1; replace hS : GetS w _ g s _ _ ox ⟨4, P, [], 0, [], [], zeroB, 0⟩ none 0 0 none 0 0 := hS.set1 P; have x0 : _ = some (Value.int .i64 4) := hS.box.c0)
    | (go_at_call 36; (with_reducible refine (c2 _ hS.r).mono ?_); rintro o1 w1 ⟨rfl, h1⟩; replace hS := hS.step h1; replace hF := blk_gb hF h1.gb (by omega); clear x0 f0 f1 f2 f3 f4 f5; have y := hS.box.c2; have y' := hS.box.b.frozen 2; clear h1; replace hS : GetS w _ g s _ _ ox ⟨4, P, T, 0, [], [], zeroB, 0⟩ none 0 0 none 0 0 := hS.set2 T; replace hF := hF.far (p := ⟨ox, 2, none⟩) (by simp; omega) (.string (txt T)); have f0 := hF.cell_ (i := 0) rfl; have f1 := hF.cell_ (i := 1) rfl; have f2 := hF.cell_ (i := 2) rfl; have f3 := hF.cell_ (i := 3) rfl; have f4 := hF.cell_ (i := 4) rfl; have f5 := hF.cell_ (i := 5) rfl; have x0 : _ = some (Value.int .i64 4) := hS.box.c0)
    | (go_at_call 95; (with_reducible refine (cH _).mono ?_); rintro o1 w1 ⟨rfl, hb⟩; have hF := Blk.new w1 121 #[.bool true, .bool false, .bool false, .bool false, .bool false, .bool false]; have hlt := Nat.lt_of_lt_of_le hS.box.b.lt hb.size; replace hb := hb.alloc hb.size (.cells #[.bool true, .bool false, .bool false, .bool false, .bool false, .bool false] 121); replace hS := hS.below hb; clear hb x0; have f0 := hF.cell_ (i := 0) rfl; have f1 := hF.cell_ (i := 1) rfl; have f2 := hF.cell_ (i := 2) rfl; have f3 := hF.cell_ (i := 3) rfl; have f4 := hF.cell_ (i := 4) rfl; have f5 := hF.cell_ (i := 5) rfl; have x0 : _ = some (Value.int .i64 4) := hS.box.c0)
    | (with_reducible refine wpList_load_opx (by with_unfolding_all rfl) _ rfl _ rfl hS.box hS.hK ?_)
    | (go_at_call 94; (with_reducible refine (cR _).mono ?_); rintro o1 w1 ⟨rfl, hb⟩; replace hS := hS.below hb; clear hb x0 f0 f1 f2 f3 f4 f5)
    | (go_at_call 102; (with_reducible refine (cF _ hS.r).mono ?_); rintro o1 w1 ⟨rfl, h1⟩; replace hS := hS.step h1; clear h1)
    | (go_at_call 50; (with_reducible refine (pkErr_any g s _ _ _ hS.r).mono ?_); rintro o1 w1 ⟨rfl, rfl⟩)
    | (with_reducible refine wpList_build_op0 rfl rfl ?_)
    | (with_reducible refine wpList_store_blk rfl 74 _ _ rfl w.heap.size _ _ 74 hS.res rfl rfl ?c2 ?c3 ?c4 ?_))
  case c2 => rw [opC_size _ _ _ _ _ _ _ rfl]; exact infoOp
  case c3 => exact (opC_size _ _ _ _ _ _ _ rfl).trans (opC_size _ _ _ _ _ _ _ rfl).symm
  case c4 => exact opC_one _ _ _ _ _ _ _
  intro w9 hb9 hg9
  go_wp2
  refine bodyPost_ret (results_cell_row rfl _ _ _ _ _ _ _ rfl hb9 Try.underlying74 rfl (by rw [opC_size _ _ _ _ _ _ _ rfl]; exact infoOp)) rfl ?_
  exact ⟨none, 0, 0, none, 0, 0, rfl, OpR.zero _, hS.st.new hg9 (Nat.le_refl _) hS.hg⟩

set_option maxRecDepth 100000 in
set_option maxHeartbeats 40000000 in
theorem og_4_ii (g : Nat) (s : List UInt8) (a : Nat) (e : Int) (w : World) (hr : Rdr g s a e w) (a0 : Nat) (e0 : Int) (cB : ∀ W, Rdr g s a e W → Calls Try.prog 34 #[.pointer (some ⟨g, 0, none⟩)] W fun o w' => o = .returned (.int .u8 4) ∧ Step g s a0 e0 W w') (P : List UInt8) (a1 : Nat) (e1 : Int) (lP : P.length ≤ 200) (c1 : ∀ W, Rdr g s a0 e0 W → Calls Try.prog 36 #[.pointer (some ⟨g, 0, none⟩), .int .i64 200] W fun o w' => o = .returned (.string (txt P)) ∧ Step g s a1 e1 W w') (T : List UInt8) (a2 : Nat) (e2 : Int) (lT : T.length ≤ 200) (c2 : ∀ W, Rdr g s a1 e1 W → Calls Try.prog 36 #[.pointer (some ⟨g, 0, none⟩), .int .i64 200] W fun o w' => o = .returned (.string (txt T)) ∧ Step g s a2 e2 W w') (hE : opE ⟨4, P, T, 0, [], [], zeroB, 0⟩ = 0) (he : e2 ≠ 0) :
    Calls Try.prog 55 #[.pointer (some ⟨g, 0, none⟩)] w fun o w' => OgP g s a2 e2 opZ w o w' := by
  have hgl := hr.lt
  have hk0 : (w.alloc (.cells (opC opZ none 0 0 none 0 0) 74)).heap.size = w.heap.size + 1 := by simp
  have hr0 : Rdr g s a e (w.alloc (.cells (opC opZ none 0 0 none 0 0) 74)) := Blk.alloc hr _
  have hs0 : Step g s a e w (w.alloc (.cells (opC opZ none 0 0 none 0 0) 74)) := (Step.same hr).below ((Below.refl _ w).alloc (Nat.le_refl _) _)
  have hres := Blk.new w 74 (opC opZ none 0 0 none 0 0)
  have cKn : ∀ W, Calls Try.prog 101 #[.int .i64 4] W fun o w' => o = .returned (.bool true) ∧ W = w' := fun W => oknown_any 4 W
  have cH : ∀ W, Calls Try.prog 95 #[.int .i64 4] W fun o w' => o = .returned (.agg #[.bool true, .bool false, .bool false, .bool false, .bool false, .bool false]) ∧ Below W.heap.size W w' := fun W => has_any 4 W
  have cR : ∀ (W : World) , Calls Try.prog 94 #[.agg (opC ⟨4, P, T, 0, [], [], zeroB, 0⟩ none 0 0 none 0 0)] W fun o w' => o = .returned (.int .i64 0) ∧ Below W.heap.size W w' := fun W => by
    have q := oright_any ⟨4, P, T, 0, [], [], zeroB, 0⟩ rfl none 0 0 rfl (by decide) none 0 0 rfl (by decide) W (Rd.nil_ _ _) (Rd.nil_ _ _)
    rwa [hE] at q
  have hen : (e2 != 0) = true := by simpa using he
  clear hE hr
  go_enter Try.func55, Try.ntmps55
  go_wp2_with (fail)
  rw [← opC_lit 0, show (⟨0, [], [], 0, [], [], zeroB, 0⟩ : OpD) = opZ from rfl]
  generalize w.alloc (.cells (opC opZ none 0 0 none 0 0) 74) = W0 at *
  refine (cB _ hr0).mono ?_
  rintro o1 w1 ⟨rfl, h1⟩
  have hr1 := hs0.trans h1
  have hres1 := blk_gb hres h1.gb (by omega)
  have hsz := h1.gb.size
  rw [hk0] at hsz
  clear h1 hs0 hres hr0 cB hk0
  have x0 : (w1.alloc (.cells (opC ⟨4, [], [], 0, [], [], zeroB, 0⟩ none 0 0 none 0 0) 74)).cell? ⟨w1.heap.size, 0, none⟩ = some (.int .i64 4) := (OpX.new w1 ⟨4, [], [], 0, [], [], zeroB, 0⟩ none 0 0 none 0 0).c0
  go_wp2_with (first
    | (with_reducible refine wpList_build_op rfl _ rfl 4 (by with_unfolding_all rfl) ?_)
    | (with_reducible refine wpList_store_new rfl 74 _ _ rfl (opC ⟨4, [], [], 0, [], [], zeroB, 0⟩ none 0 0 none 0 0) rfl rfl ?s2 ?s3 (opC_one _ _ _ _ _ _ _) ?_))
  case s2 => rw [opC_size _ _ _ _ _ _ _ rfl]; exact infoOp
  case s3 => rw [opC_size _ _ _ _ _ _ _ rfl]; rfl
  have hS : GetS w (w1.alloc (.cells (opC ⟨4, [], [], 0, [], [], zeroB, 0⟩ none 0 0 none 0 0) 74)) g s a0 e0 w1.heap.size ⟨4, [], [], 0, [], [], zeroB, 0⟩ none 0 0 none 0 0 :=
    ⟨hr1.below ((Below.refl _ w1).alloc (Nat.le_refl _) _), OpX.new _ _ _ _ _ _ _ _, hres1.alloc _, World.ownsRow_nil _ _ _ _, World.ownsRow_nil _ _ _ _, by omega, hgl, rfl⟩
  generalize w1.alloc (.cells (opC ⟨4, [], [], 0, [], [], zeroB, 0⟩ none 0 0 none 0 0) 74) = W1 at *
  clear hr1 hres1 x0
  generalize w1.heap.size = ox at *
  have x0 : W1.cell? ⟨ox, 0, none⟩ = some (.int .i64 4) := hS.box.c0
  go_wp2_with (first
    | (go_at_call 101; (with_reducible refine (cKn _).mono ?_); rintro o1 w1 ⟨rfl, rfl⟩)
    | (go_at_call 36; (with_reducible refine (c1 _ hS.r).mono ?_); rintro o1 w1 ⟨rfl, h1⟩; replace hS := hS.step h1; clear x0; have y := hS.box.c1; have y' := hS.box.b.frozen 1; clear h1; replace hS : GetS w _ g s _ _ ox ⟨4, P, [], 0, [], [], zeroB, 0⟩ none 0 0 none 0 0 := hS.set1 P; have x0 : _ = some (Value.int .i64 4) := hS.box.c0)
    | (go_at_call 36; (with_reducible refine (c2 _ hS.r).mono ?_); rintro o1 w1 ⟨rfl, h1⟩; replace hS := hS.step h1; replace hF := blk_gb hF h1.gb (by omega); clear x0 f0 f1 f2 f3 f4 f5; have y := hS.box.c2; have y' := hS.box.b.frozen 2; clear h1; replace hS : GetS w _ g s _ _ ox ⟨4, P, T, 0, [], [], zeroB, 0⟩ none 0 0 none 0 0 := hS.set2 T; replace hF := hF.far (p := ⟨ox, 2, none⟩) (by simp; omega) (.string (txt T)); have f0 := hF.cell_ (i := 0) rfl; have f1 := hF.cell_ (i := 1) rfl; have f2 := hF.cell_ (i := 2) rfl; have f3 := hF.cell_ (i := 3) rfl; have f4 := hF.cell_ (i := 4) rfl; have f5 := hF.cell_ (i := 5) rfl; have x0 : _ = some (Value.int .i64 4) := hS.box.c0)
    | (go_at_call 95; (with_reducible refine (cH _).mono ?_); rintro o1 w1 ⟨rfl, hb⟩; have hF := Blk.new w1 121 #[.bool true, .bool false, .bool false, .bool false, .bool false, .bool false]; have hlt := Nat.lt_of_lt_of_le hS.box.b.lt hb.size; replace hb := hb.alloc hb.size (.cells #[.bool true, .bool false, .bool false, .bool false, .bool false, .bool false] 121); replace hS := hS.below hb; clear hb x0; have f0 := hF.cell_ (i := 0) rfl; have f1 := hF.cell_ (i := 1) rfl; have f2 := hF.cell_ (i := 2) rfl; have f3 := hF.cell_ (i := 3) rfl; have f4 := hF.cell_ (i := 4) rfl; have f5 := hF.cell_ (i := 5) rfl; have x0 : _ = some (Value.int .i64 4) := hS.box.c0)
    | (with_reducible refine wpList_load_opx (by with_unfolding_all rfl) _ rfl _ rfl hS.box hS.hK ?_)
    | (go_at_call 94; (with_reducible refine (cR _).mono ?_); rintro o1 w1 ⟨rfl, hb⟩; replace hS := hS.below hb; clear hb x0 f0 f1 f2 f3 f4 f5)
    | (go_at_call 50; (with_reducible refine (pkErr_any g s _ _ _ hS.r).mono ?_); rintro o1 w1 ⟨rfl, rfl⟩)
    | (with_reducible refine wpList_build_op0 rfl rfl ?_)
    | (with_reducible refine wpList_store_blk rfl 74 _ _ rfl w.heap.size _ _ 74 hS.res rfl rfl ?c2 ?c3 ?c4 ?_))
  case c2 => rw [opC_size _ _ _ _ _ _ _ rfl]; exact infoOp
  case c3 => exact (opC_size _ _ _ _ _ _ _ rfl).trans (opC_size _ _ _ _ _ _ _ rfl).symm
  case c4 => exact opC_one _ _ _ _ _ _ _
  intro w9 hb9 hg9
  go_wp2
  refine bodyPost_ret (results_cell_row rfl _ _ _ _ _ _ _ rfl hb9 Try.underlying74 rfl (by rw [opC_size _ _ _ _ _ _ _ rfl]; exact infoOp)) rfl ?_
  exact ⟨none, 0, 0, none, 0, 0, rfl, OpR.zero _, hS.st.new hg9 (Nat.le_refl _) hS.hg⟩

set_option maxRecDepth 100000 in
set_option maxHeartbeats 40000000 in
theorem og_4_iii (g : Nat) (s : List UInt8) (a : Nat) (e : Int) (w : World) (hr : Rdr g s a e w) (a0 : Nat) (e0 : Int) (cB : ∀ W, Rdr g s a e W → Calls Try.prog 34 #[.pointer (some ⟨g, 0, none⟩)] W fun o w' => o = .returned (.int .u8 4) ∧ Step g s a0 e0 W w') (P : List UInt8) (a1 : Nat) (e1 : Int) (lP : P.length ≤ 200) (c1 : ∀ W, Rdr g s a0 e0 W → Calls Try.prog 36 #[.pointer (some ⟨g, 0, none⟩), .int .i64 200] W fun o w' => o = .returned (.string (txt P)) ∧ Step g s a1 e1 W w') (T : List UInt8) (a2 : Nat) (e2 : Int) (lT : T.length ≤ 200) (c2 : ∀ W, Rdr g s a1 e1 W → Calls Try.prog 36 #[.pointer (some ⟨g, 0, none⟩), .int .i64 200] W fun o w' => o = .returned (.string (txt T)) ∧ Step g s a2 e2 W w') (hE : opE ⟨4, P, T, 0, [], [], zeroB, 0⟩ = 0) (he : e2 = 0) :
    Calls Try.prog 55 #[.pointer (some ⟨g, 0, none⟩)] w fun o w' => OgP g s a2 e2 (⟨4, P, T, 0, [], [], zeroB, 0⟩ : OpD) w o w' := by
  have hgl := hr.lt
  have hk0 : (w.alloc (.cells (opC opZ none 0 0 none 0 0) 74)).heap.size = w.heap.size + 1 := by simp
  have hr0 : Rdr g s a e (w.alloc (.cells (opC opZ none 0 0 none 0 0) 74)) := Blk.alloc hr _
  have hs0 : Step g s a e w (w.alloc (.cells (opC opZ none 0 0 none 0 0) 74)) := (Step.same hr).below ((Below.refl _ w).alloc (Nat.le_refl _) _)
  have hres := Blk.new w 74 (opC opZ none 0 0 none 0 0)
  have cKn : ∀ W, Calls Try.prog 101 #[.int .i64 4] W fun o w' => o = .returned (.bool true) ∧ W = w' := fun W => oknown_any 4 W
  have cH : ∀ W, Calls Try.prog 95 #[.int .i64 4] W fun o w' => o = .returned (.agg #[.bool true, .bool false, .bool false, .bool false, .bool false, .bool false]) ∧ Below W.heap.size W w' := fun W => has_any 4 W
  have cR : ∀ (W : World) , Calls Try.prog 94 #[.agg (opC ⟨4, P, T, 0, [], [], zeroB, 0⟩ none 0 0 none 0 0)] W fun o w' => o = .returned (.int .i64 0) ∧ Below W.heap.size W w' := fun W => by
    have q := oright_any ⟨4, P, T, 0, [], [], zeroB, 0⟩ rfl none 0 0 rfl (by decide) none 0 0 rfl (by decide) W (Rd.nil_ _ _) (Rd.nil_ _ _)
    rwa [hE] at q
  subst he
  clear hE hr
  go_enter Try.func55, Try.ntmps55
  go_wp2_with (fail)
  rw [← opC_lit 0, show (⟨0, [], [], 0, [], [], zeroB, 0⟩ : OpD) = opZ from rfl]
  generalize w.alloc (.cells (opC opZ none 0 0 none 0 0) 74) = W0 at *
  refine (cB _ hr0).mono ?_
  rintro o1 w1 ⟨rfl, h1⟩
  have hr1 := hs0.trans h1
  have hres1 := blk_gb hres h1.gb (by omega)
  have hsz := h1.gb.size
  rw [hk0] at hsz
  clear h1 hs0 hres hr0 cB hk0
  have x0 : (w1.alloc (.cells (opC ⟨4, [], [], 0, [], [], zeroB, 0⟩ none 0 0 none 0 0) 74)).cell? ⟨w1.heap.size, 0, none⟩ = some (.int .i64 4) := (OpX.new w1 ⟨4, [], [], 0, [], [], zeroB, 0⟩ none 0 0 none 0 0).c0
  go_wp2_with (first
    | (with_reducible refine wpList_build_op rfl _ rfl 4 (by with_unfolding_all rfl) ?_)
    | (with_reducible refine wpList_store_new rfl 74 _ _ rfl (opC ⟨4, [], [], 0, [], [], zeroB, 0⟩ none 0 0 none 0 0) rfl rfl ?s2 ?s3 (opC_one _ _ _ _ _ _ _) ?_))
  case s2 => rw [opC_size _ _ _ _ _ _ _ rfl]; exact infoOp
  case s3 => rw [opC_size _ _ _ _ _ _ _ rfl]; rfl
  have hS : GetS w (w1.alloc (.cells (opC ⟨4, [], [], 0, [], [], zeroB, 0⟩ none 0 0 none 0 0) 74)) g s a0 e0 w1.heap.size ⟨4, [], [], 0, [], [], zeroB, 0⟩ none 0 0 none 0 0 :=
    ⟨hr1.below ((Below.refl _ w1).alloc (Nat.le_refl _) _), OpX.new _ _ _ _ _ _ _ _, hres1.alloc _, World.ownsRow_nil _ _ _ _, World.ownsRow_nil _ _ _ _, by omega, hgl, rfl⟩
  generalize w1.alloc (.cells (opC ⟨4, [], [], 0, [], [], zeroB, 0⟩ none 0 0 none 0 0) 74) = W1 at *
  clear hr1 hres1 x0
  generalize w1.heap.size = ox at *
  have x0 : W1.cell? ⟨ox, 0, none⟩ = some (.int .i64 4) := hS.box.c0
  go_wp2_with (first
    | (go_at_call 101; (with_reducible refine (cKn _).mono ?_); rintro o1 w1 ⟨rfl, rfl⟩)
    | (go_at_call 36; (with_reducible refine (c1 _ hS.r).mono ?_); rintro o1 w1 ⟨rfl, h1⟩; replace hS := hS.step h1; clear x0; have y := hS.box.c1; have y' := hS.box.b.frozen 1; clear h1; replace hS : GetS w _ g s _ _ ox ⟨4, P, [], 0, [], [], zeroB, 0⟩ none 0 0 none 0 0 := hS.set1 P; have x0 : _ = some (Value.int .i64 4) := hS.box.c0)
    | (go_at_call 36; (with_reducible refine (c2 _ hS.r).mono ?_); rintro o1 w1 ⟨rfl, h1⟩; replace hS := hS.step h1; replace hF := blk_gb hF h1.gb (by omega); clear x0 f0 f1 f2 f3 f4 f5; have y := hS.box.c2; have y' := hS.box.b.frozen 2; clear h1; replace hS : GetS w _ g s _ _ ox ⟨4, P, T, 0, [], [], zeroB, 0⟩ none 0 0 none 0 0 := hS.set2 T; replace hF := hF.far (p := ⟨ox, 2, none⟩) (by simp; omega) (.string (txt T)); have f0 := hF.cell_ (i := 0) rfl; have f1 := hF.cell_ (i := 1) rfl; have f2 := hF.cell_ (i := 2) rfl; have f3 := hF.cell_ (i := 3) rfl; have f4 := hF.cell_ (i := 4) rfl; have f5 := hF.cell_ (i := 5) rfl; have x0 : _ = some (Value.int .i64 4) := hS.box.c0)
    | (go_at_call 95; (with_reducible refine (cH _).mono ?_); rintro o1 w1 ⟨rfl, hb⟩; have hF := Blk.new w1 121 #[.bool true, .bool false, .bool false, .bool false, .bool false, .bool false]; have hlt := Nat.lt_of_lt_of_le hS.box.b.lt hb.size; replace hb := hb.alloc hb.size (.cells #[.bool true, .bool false, .bool false, .bool false, .bool false, .bool false] 121); replace hS := hS.below hb; clear hb x0; have f0 := hF.cell_ (i := 0) rfl; have f1 := hF.cell_ (i := 1) rfl; have f2 := hF.cell_ (i := 2) rfl; have f3 := hF.cell_ (i := 3) rfl; have f4 := hF.cell_ (i := 4) rfl; have f5 := hF.cell_ (i := 5) rfl; have x0 : _ = some (Value.int .i64 4) := hS.box.c0)
    | (with_reducible refine wpList_load_opx (by with_unfolding_all rfl) _ rfl _ rfl hS.box hS.hK ?_)
    | (go_at_call 94; (with_reducible refine (cR _).mono ?_); rintro o1 w1 ⟨rfl, hb⟩; replace hS := hS.below hb; clear hb x0 f0 f1 f2 f3 f4 f5)
    | (go_at_call 50; (with_reducible refine (pkErr_any g s _ _ _ hS.r).mono ?_); rintro o1 w1 ⟨rfl, rfl⟩)
    | (with_reducible refine wpList_store_blk rfl 74 _ _ rfl w.heap.size _ _ 74 hS.res rfl rfl ?c2 ?c3 ?c4 ?_))
  case c2 => rw [opC_size _ _ _ _ _ _ _ hS.hK]; exact infoOp
  case c3 => rw [opC_size _ _ _ _ _ _ _ hS.hK]; exact opC_size _ _ _ _ _ _ _ rfl
  case c4 => exact opC_one _ _ _ _ _ _ _
  intro w9 hb9 hg9
  go_wp2
  refine bodyPost_ret (results_cell_row rfl _ _ _ _ _ _ _ rfl hb9 Try.underlying74 rfl (by rw [opC_size _ _ _ _ _ _ _ hS.hK]; exact infoOp)) rfl ?_
  have ow1 := hS.own1.kept hg9 (.inr (Lib.ownBlock_ne hS.own1 hS.res (by decide)))
  have ow2 := hS.own2.kept hg9 (.inr (Lib.ownBlock_ne hS.own2 hS.res (by decide)))
  refine ⟨_, _, _, _, _, _, rfl, ⟨(own_rd ow1).1, ?_, ?_, (own_rd ow2).1, ?_, ?_, (own_rd ow1).2, (own_rd ow2).2, hS.hK, ?_, ?_⟩, hS.st.new hg9 (Nat.le_refl _) hS.hg⟩
  · decide
  · simp
  · decide
  · simp
  · exact Nat.le_trans lP (by decide)
  · exact Nat.le_trans lT (by decide)

set_option maxRecDepth 100000 in
set_option maxHeartbeats 40000000 in
theorem og_5_i (g : Nat) (s : List UInt8) (a : Nat) (e : Int) (w : World) (hr : Rdr g s a e w) (a0 : Nat) (e0 : Int) (cB : ∀ W, Rdr g s a e W → Calls Try.prog 34 #[.pointer (some ⟨g, 0, none⟩)] W fun o w' => o = .returned (.int .u8 5) ∧ Step g s a0 e0 W w') (P : List UInt8) (a1 : Nat) (e1 : Int) (lP : P.length ≤ 200) (c1 : ∀ W, Rdr g s a0 e0 W → Calls Try.prog 36 #[.pointer (some ⟨g, 0, none⟩), .int .i64 200] W fun o w' => o = .returned (.string (txt P)) ∧ Step g s a1 e1 W w') (K : List UInt8) (a2 : Nat) (e2 : Int) (lK : K.length = 32) (c2 : ∀ W, Rdr g s a1 e1 W → Calls Try.prog 37 #[.pointer (some ⟨g, 0, none⟩)] W fun o w' => o = .returned (.agg (K.map u8v).toArray) ∧ Step g s a2 e2 W w') (M : Nat) (a3 : Nat) (e3 : Int) (lM : M ≤ 4611686018427387904) (c3 : ∀ W, Rdr g s a2 e2 W → Calls Try.prog 35 #[.pointer (some ⟨g, 0, none⟩)] W fun o w' => o = .returned (.int .i64 M) ∧ Step g s a3 e3 W w') (E : Int) (hE : opE ⟨5, P, [], 0, [], [], K, (M : Int)⟩ = E) (hE0 : E ≠ 0) :
    Calls Try.prog 55 #[.pointer (some ⟨g, 0, none⟩)] w fun o w' => OgP g s a3 (stopB e3 3) opZ w o w' := by
  have hgl := hr.lt
  have hk0 : (w.alloc (.cells (opC opZ none 0 0 none 0 0) 74)).heap.size = w.heap.size + 1 := by simp
  have hr0 : Rdr g s a e (w.alloc (.cells (opC opZ none 0 0 none 0 0) 74)) := Blk.alloc hr _
  have hs0 : Step g s a e w (w.alloc (.cells (opC opZ none 0 0 none 0 0) 74)) := (Step.same hr).below ((Below.refl _ w).alloc (Nat.le_refl _) _)
  have hres := Blk.new w 74 (opC opZ none 0 0 none 0 0)
  have cKn : ∀ W, Calls Try.prog 101 #[.int .i64 5] W fun o w' => o = .returned (.bool true) ∧ W = w' := fun W => oknown_any 5 W
  have cH : ∀ W, Calls Try.prog 95 #[.int .i64 5] W fun o w' => o = .returned (.agg #[.bool false, .bool false, .bool false, .bool false, .bool true, .bool true]) ∧ Below W.heap.size W w' := fun W => has_any 5 W
  have cR : ∀ (W : World) , Calls Try.prog 94 #[.agg (opC ⟨5, P, [], 0, [], [], K, (M : Int)⟩ none 0 0 none 0 0)] W fun o w' => o = .returned (.int .i64 E) ∧ Below W.heap.size W w' := fun W => by
    have q := oright_any ⟨5, P, [], 0, [], [], K, (M : Int)⟩ lK none 0 0 rfl (by decide) none 0 0 rfl (by decide) W (Rd.nil_ _ _) (Rd.nil_ _ _)
    rwa [hE] at q
  have hEn : (E != 0) = true := by simpa using hE0
  have hst : stopB e3 3 ≠ 0 := by unfold stopB; split <;> first | decide | assumption
  obtain ⟨ef, hef⟩ : ∃ ef, ef = stopB e3 3 := ⟨_, rfl⟩
  have hen : (ef != 0) = true := by rw [hef]; simpa using hst
  have cF : ∀ W, Rdr g s a3 e3 W → Calls Try.prog 102 #[.pointer (some ⟨g, 0, none⟩), .int .i64 3] W fun o w' => o = .returned (.tuple #[]) ∧ Step g s a3 ef W w' := fun W h => by rw [hef]; exact pkFail_any g s a3 e3 3 W h
  rw [← hef]
  clear hef hst
  clear hE hr
  have hHZ : (Try.prog.info? 24).map (·.size) = some (K.map u8v).toArray.size := by rw [List.size_toArray, List.length_map, lK]; exact sizeId
  have hK6 : 6 + (K.map u8v).toArray.size ≤ 39 := by rw [List.size_toArray, List.length_map, lK]; decide
  have h1K : ((K.map u8v).toArray).all (·.oneCell') = true := idVals_one K
  go_enter Try.func55, Try.ntmps55
  go_wp2_with (fail)
  rw [← opC_lit 0, show (⟨0, [], [], 0, [], [], zeroB, 0⟩ : OpD) = opZ from rfl]
  generalize w.alloc (.cells (opC opZ none 0 0 none 0 0) 74) = W0 at *
  refine (cB _ hr0).mono ?_
  rintro o1 w1 ⟨rfl, h1⟩
  have hr1 := hs0.trans h1
  have hres1 := blk_gb hres h1.gb (by omega)
  have hsz := h1.gb.size
  rw [hk0] at hsz
  clear h1 hs0 hres hr0 cB hk0
  have x0 : (w1.alloc (.cells (opC ⟨5, [], [], 0, [], [], zeroB, 0⟩ none 0 0 none 0 0) 74)).cell? ⟨w1.heap.size, 0, none⟩ = some (.int .i64 5) := (OpX.new w1 ⟨5, [], [], 0, [], [], zeroB, 0⟩ none 0 0 none 0 0).c0
  go_wp2_with (first
    | (with_reducible refine wpList_build_op rfl _ rfl 5 (by with_unfolding_all rfl) ?_)
    | (with_reducible refine wpList_store_new rfl 74 _ _ rfl (opC ⟨5, [], [], 0, [], [], zeroB, 0⟩ none 0 0 none 0 0) rfl rfl ?s2 ?s3 (opC_one _ _ _ _ _ _ _) ?_))
  case s2 => rw [opC_size _ _ _ _ _ _ _ rfl]; exact infoOp
  case s3 => rw [opC_size _ _ _ _ _ _ _ rfl]; rfl
  have hS : GetS w (w1.alloc (.cells (opC ⟨5, [], [], 0, [], [], zeroB, 0⟩ none 0 0 none 0 0) 74)) g s a0 e0 w1.heap.size ⟨5, [], [], 0, [], [], zeroB, 0⟩ none 0 0 none 0 0 :=
    ⟨hr1.below ((Below.refl _ w1).alloc (Nat.le_refl _) _), OpX.new _ _ _ _ _ _ _ _, hres1.alloc _, World.ownsRow_nil _ _ _ _, World.ownsRow_nil _ _ _ _, by omega, hgl, rfl⟩
  generalize w1.alloc (.cells (opC ⟨5, [], [], 0, [], [], zeroB, 0⟩ none 0 0 none 0 0) 74) = W1 at *
  clear hr1 hres1 x0
  generalize w1.heap.size = ox at *
  have x0 : W1.cell? ⟨ox, 0, none⟩ = some (.int .i64 5) := hS.box.c0
  go_wp2_with (first
    | (go_at_call 101; (with_reducible refine (cKn _).mono ?_); rintro o1 w1 ⟨rfl, rfl⟩)
    | (go_at_call 36; (with_reducible refine (c1 _ hS.r).mono ?_); rintro o1 w1 ⟨rfl, h1⟩; replace hS := hS.step h1; clear x0; have y := hS.box.c1; have y' := hS.box.b.frozen 1; clear h1; replace hS : GetS w _ g s _ _ ox ⟨5, P, [], 0, [], [], zeroB, 0⟩ none 0 0 none 0 0 := hS.set1 P; have x0 : _ = some (Value.int .i64 5) := hS.box.c0)
    | (go_at_call 37; (with_reducible refine (c2 _ hS.r).mono ?_); rintro o1 w1 ⟨rfl, h1⟩; replace hS := hS.step h1; replace hF := blk_gb hF h1.gb (by omega); clear x0 f0 f1 f2 f3 f4 f5; have f0 := hF.cell_ (i := 0) rfl; have f1 := hF.cell_ (i := 1) rfl; have f2 := hF.cell_ (i := 2) rfl; have f3 := hF.cell_ (i := 3) rfl; have f4 := hF.cell_ (i := 4) rfl; have f5 := hF.cell_ (i := 5) rfl; have x0 : _ = some (Value.int .i64 5) := hS.box.c0; clear h1)
    | ((with_reducible refine wpList_store_at rfl 24 _ _ rfl ox 6 _ (K.map u8v).toArray 74 hS.box.b rfl rfl hHZ (by rw [opC_size _ _ _ _ _ _ _ hS.hK]; exact hK6) h1K ?_); intro w2 hb2 hg2; rw [List.toList_toArray] at hb2; replace hF := blk_gb hF hg2 (by omega); replace hS : GetS w _ g s _ _ ox ⟨5, P, [], 0, [], [], K, 0⟩ none 0 0 none 0 0 := hS.setK K lK hb2 hg2; clear x0 f0 f1 f2 f3 f4 f5 hb2 hg2; have f0 := hF.cell_ (i := 0) rfl; have f1 := hF.cell_ (i := 1) rfl; have f2 := hF.cell_ (i := 2) rfl; have f3 := hF.cell_ (i := 3) rfl; have f4 := hF.cell_ (i := 4) rfl; have f5 := hF.cell_ (i := 5) rfl; have x0 : _ = some (Value.int .i64 5) := hS.box.c0)
    | (go_at_call 35; (with_reducible refine (c3 _ hS.r).mono ?_); rintro o1 w1 ⟨rfl, h1⟩; replace hS := hS.step h1; replace hF := blk_gb hF h1.gb (by omega); clear x0 f0 f1 f2 f3 f4 f5; have y := hS.box.c38 hS.hK; have y' := hS.box.b.frozen 38; clear h1; replace hS : GetS w _ g s _ _ ox ⟨5, P, [], 0, [], [], K, (M : Int)⟩ none 0 0 none 0 0 := hS.set38 (M : Int); replace hF := hF.far (p := ⟨ox, 38, none⟩) (by simp; omega) (.int .i64 (M : Int)); have f0 := hF.cell_ (i := 0) rfl; have f1 := hF.cell_ (i := 1) rfl; have f2 := hF.cell_ (i := 2) rfl; have f3 := hF.cell_ (i := 3) rfl; have f4 := hF.cell_ (i := 4) rfl; have f5 := hF.cell_ (i := 5) rfl; have x0 : _ = some (Value.int .i64 5) := hS.box.c0)
    | (go_at_call 95; (with_reducible refine (cH _).mono ?_); rintro o1 w1 ⟨rfl, hb⟩; have hF := Blk.new w1 121 #[.bool false, .bool false, .bool false, .bool false, .bool true, .bool true]; have hlt := Nat.lt_of_lt_of_le hS.box.b.lt hb.size; replace hb := hb.alloc hb.size (.cells #[.bool false, .bool false, .bool false, .bool false, .bool true, .bool true] 121); replace hS := hS.below hb; clear hb x0; have f0 := hF.cell_ (i := 0) rfl; have f1 := hF.cell_ (i := 1) rfl; have f2 := hF.cell_ (i := 2) rfl; have f3 := hF.cell_ (i := 3) rfl; have f4 := hF.cell_ (i := 4) rfl; have f5 := hF.cell_ (i := 5) rfl; have x0 : _ = some (Value.int .i64 5) := hS.box.c0)
    | (with_reducible refine wpList_load_opx (by with_unfolding_all rfl) _ rfl _ rfl hS.box hS.hK ?_)
    | (go_at_call 94; (with_reducible refine (cR _).mono ?_); rintro o1 w1 ⟨rfl, hb⟩; replace hS := hS.below hb; clear hb x0 f0 f1 f2 f3 f4 f5)
    | (go_at_call 102; (with_reducible refine (cF _ hS.r).mono ?_); rintro o1 w1 ⟨rfl, h1⟩; replace hS := hS.step h1; clear h1)
    | (go_at_call 50; (with_reducible refine (pkErr_any g s _ _ _ hS.r).mono ?_); rintro o1 w1 ⟨rfl, rfl⟩)
    | (with_reducible refine wpList_build_op0 rfl rfl ?_)
    | (with_reducible refine wpList_store_blk rfl 74 _ _ rfl w.heap.size _ _ 74 hS.res rfl rfl ?c2 ?c3 ?c4 ?_))
  case c2 => rw [opC_size _ _ _ _ _ _ _ rfl]; exact infoOp
  case c3 => exact (opC_size _ _ _ _ _ _ _ rfl).trans (opC_size _ _ _ _ _ _ _ rfl).symm
  case c4 => exact opC_one _ _ _ _ _ _ _
  intro w9 hb9 hg9
  go_wp2
  refine bodyPost_ret (results_cell_row rfl _ _ _ _ _ _ _ rfl hb9 Try.underlying74 rfl (by rw [opC_size _ _ _ _ _ _ _ rfl]; exact infoOp)) rfl ?_
  exact ⟨none, 0, 0, none, 0, 0, rfl, OpR.zero _, hS.st.new hg9 (Nat.le_refl _) hS.hg⟩

set_option maxRecDepth 100000 in
set_option maxHeartbeats 40000000 in
theorem og_5_ii (g : Nat) (s : List UInt8) (a : Nat) (e : Int) (w : World) (hr : Rdr g s a e w) (a0 : Nat) (e0 : Int) (cB : ∀ W, Rdr g s a e W → Calls Try.prog 34 #[.pointer (some ⟨g, 0, none⟩)] W fun o w' => o = .returned (.int .u8 5) ∧ Step g s a0 e0 W w') (P : List UInt8) (a1 : Nat) (e1 : Int) (lP : P.length ≤ 200) (c1 : ∀ W, Rdr g s a0 e0 W → Calls Try.prog 36 #[.pointer (some ⟨g, 0, none⟩), .int .i64 200] W fun o w' => o = .returned (.string (txt P)) ∧ Step g s a1 e1 W w') (K : List UInt8) (a2 : Nat) (e2 : Int) (lK : K.length = 32) (c2 : ∀ W, Rdr g s a1 e1 W → Calls Try.prog 37 #[.pointer (some ⟨g, 0, none⟩)] W fun o w' => o = .returned (.agg (K.map u8v).toArray) ∧ Step g s a2 e2 W w') (M : Nat) (a3 : Nat) (e3 : Int) (lM : M ≤ 4611686018427387904) (c3 : ∀ W, Rdr g s a2 e2 W → Calls Try.prog 35 #[.pointer (some ⟨g, 0, none⟩)] W fun o w' => o = .returned (.int .i64 M) ∧ Step g s a3 e3 W w') (hE : opE ⟨5, P, [], 0, [], [], K, (M : Int)⟩ = 0) (he : e3 ≠ 0) :
    Calls Try.prog 55 #[.pointer (some ⟨g, 0, none⟩)] w fun o w' => OgP g s a3 e3 opZ w o w' := by
  have hgl := hr.lt
  have hk0 : (w.alloc (.cells (opC opZ none 0 0 none 0 0) 74)).heap.size = w.heap.size + 1 := by simp
  have hr0 : Rdr g s a e (w.alloc (.cells (opC opZ none 0 0 none 0 0) 74)) := Blk.alloc hr _
  have hs0 : Step g s a e w (w.alloc (.cells (opC opZ none 0 0 none 0 0) 74)) := (Step.same hr).below ((Below.refl _ w).alloc (Nat.le_refl _) _)
  have hres := Blk.new w 74 (opC opZ none 0 0 none 0 0)
  have cKn : ∀ W, Calls Try.prog 101 #[.int .i64 5] W fun o w' => o = .returned (.bool true) ∧ W = w' := fun W => oknown_any 5 W
  have cH : ∀ W, Calls Try.prog 95 #[.int .i64 5] W fun o w' => o = .returned (.agg #[.bool false, .bool false, .bool false, .bool false, .bool true, .bool true]) ∧ Below W.heap.size W w' := fun W => has_any 5 W
  have cR : ∀ (W : World) , Calls Try.prog 94 #[.agg (opC ⟨5, P, [], 0, [], [], K, (M : Int)⟩ none 0 0 none 0 0)] W fun o w' => o = .returned (.int .i64 0) ∧ Below W.heap.size W w' := fun W => by
    have q := oright_any ⟨5, P, [], 0, [], [], K, (M : Int)⟩ lK none 0 0 rfl (by decide) none 0 0 rfl (by decide) W (Rd.nil_ _ _) (Rd.nil_ _ _)
    rwa [hE] at q
  have hen : (e3 != 0) = true := by simpa using he
  clear hE hr
  have hHZ : (Try.prog.info? 24).map (·.size) = some (K.map u8v).toArray.size := by rw [List.size_toArray, List.length_map, lK]; exact sizeId
  have hK6 : 6 + (K.map u8v).toArray.size ≤ 39 := by rw [List.size_toArray, List.length_map, lK]; decide
  have h1K : ((K.map u8v).toArray).all (·.oneCell') = true := idVals_one K
  go_enter Try.func55, Try.ntmps55
  go_wp2_with (fail)
  rw [← opC_lit 0, show (⟨0, [], [], 0, [], [], zeroB, 0⟩ : OpD) = opZ from rfl]
  generalize w.alloc (.cells (opC opZ none 0 0 none 0 0) 74) = W0 at *
  refine (cB _ hr0).mono ?_
  rintro o1 w1 ⟨rfl, h1⟩
  have hr1 := hs0.trans h1
  have hres1 := blk_gb hres h1.gb (by omega)
  have hsz := h1.gb.size
  rw [hk0] at hsz
  clear h1 hs0 hres hr0 cB hk0
  have x0 : (w1.alloc (.cells (opC ⟨5, [], [], 0, [], [], zeroB, 0⟩ none 0 0 none 0 0) 74)).cell? ⟨w1.heap.size, 0, none⟩ = some (.int .i64 5) := (OpX.new w1 ⟨5, [], [], 0, [], [], zeroB, 0⟩ none 0 0 none 0 0).c0
  go_wp2_with (first
    | (with_reducible refine wpList_build_op rfl _ rfl 5 (by with_unfolding_all rfl) ?_)
    | (with_reducible refine wpList_store_new rfl 74 _ _ rfl (opC ⟨5, [], [], 0, [], [], zeroB, 0⟩ none 0 0 none 0 0) rfl rfl ?s2 ?s3 (opC_one _ _ _ _ _ _ _) ?_))
  case s2 => rw [opC_size _ _ _ _ _ _ _ rfl]; exact infoOp
  case s3 => rw [opC_size _ _ _ _ _ _ _ rfl]; rfl
  have hS : GetS w (w1.alloc (.cells (opC ⟨5, [], [], 0, [], [], zeroB, 0⟩ none 0 0 none 0 0) 74)) g s a0 e0 w1.heap.size ⟨5, [], [], 0, [], [], zeroB, 0⟩ none 0 0 none 0 0 :=
    ⟨hr1.below ((Below.refl _ w1).alloc (Nat.le_refl _) _), OpX.new _ _ _ _ _ _ _ _, hres1.alloc _, World.ownsRow_nil _ _ _ _, World.ownsRow_nil _ _ _ _, by omega, hgl, rfl⟩
  generalize w1.alloc (.cells (opC ⟨5, [], [], 0, [], [], zeroB, 0⟩ none 0 0 none 0 0) 74) = W1 at *
  clear hr1 hres1 x0
  generalize w1.heap.size = ox at *
  have x0 : W1.cell? ⟨ox, 0, none⟩ = some (.int .i64 5) := hS.box.c0
  go_wp2_with (first
    | (go_at_call 101; (with_reducible refine (cKn _).mono ?_); rintro o1 w1 ⟨rfl, rfl⟩)
    | (go_at_call 36; (with_reducible refine (c1 _ hS.r).mono ?_); rintro o1 w1 ⟨rfl, h1⟩; replace hS := hS.step h1; clear x0; have y := hS.box.c1; have y' := hS.box.b.frozen 1; clear h1; replace hS : GetS w _ g s _ _ ox ⟨5, P, [], 0, [], [], zeroB, 0⟩ none 0 0 none 0 0 := hS.set1 P; have x0 : _ = some (Value.int .i64 5) := hS.box.c0)
    | (go_at_call 37; (with_reducible refine (c2 _ hS.r).mono ?_); rintro o1 w1 ⟨rfl, h1⟩; replace hS := hS.step h1; replace hF := blk_gb hF h1.gb (by omega); clear x0 f0 f1 f2 f3 f4 f5; have f0 := hF.cell_ (i := 0) rfl; have f1 := hF.cell_ (i := 1) rfl; have f2 := hF.cell_ (i := 2) rfl; have f3 := hF.cell_ (i := 3) rfl; have f4 := hF.cell_ (i := 4) rfl; have f5 := hF.cell_ (i := 5) rfl; have x0 : _ = some (Value.int .i64 5) := hS.box.c0; clear h1)
    | ((with_reducible refine wpList_store_at rfl 24 _ _ rfl ox 6 _ (K.map u8v).toArray 74 hS.box.b rfl rfl hHZ (by rw [opC_size _ _ _ _ _ _ _ hS.hK]; exact hK6) h1K ?_); intro w2 hb2 hg2; rw [List.toList_toArray] at hb2; replace hF := blk_gb hF hg2 (by omega); replace hS : GetS w _ g s _ _ ox ⟨5, P, [], 0, [], [], K, 0⟩ none 0 0 none 0 0 := hS.setK K lK hb2 hg2; clear x0 f0 f1 f2 f3 f4 f5 hb2 hg2; have f0 := hF.cell_ (i := 0) rfl; have f1 := hF.cell_ (i := 1) rfl; have f2 := hF.cell_ (i := 2) rfl; have f3 := hF.cell_ (i := 3) rfl; have f4 := hF.cell_ (i := 4) rfl; have f5 := hF.cell_ (i := 5) rfl; have x0 : _ = some (Value.int .i64 5) := hS.box.c0)
    | (go_at_call 35; (with_reducible refine (c3 _ hS.r).mono ?_); rintro o1 w1 ⟨rfl, h1⟩; replace hS := hS.step h1; replace hF := blk_gb hF h1.gb (by omega); clear x0 f0 f1 f2 f3 f4 f5; have y := hS.box.c38 hS.hK; have y' := hS.box.b.frozen 38; clear h1; replace hS : GetS w _ g s _ _ ox ⟨5, P, [], 0, [], [], K, (M : Int)⟩ none 0 0 none 0 0 := hS.set38 (M : Int); replace hF := hF.far (p := ⟨ox, 38, none⟩) (by simp; omega) (.int .i64 (M : Int)); have f0 := hF.cell_ (i := 0) rfl; have f1 := hF.cell_ (i := 1) rfl; have f2 := hF.cell_ (i := 2) rfl; have f3 := hF.cell_ (i := 3) rfl; have f4 := hF.cell_ (i := 4) rfl; have f5 := hF.cell_ (i := 5) rfl; have x0 : _ = some (Value.int .i64 5) := hS.box.c0)
    | (go_at_call 95; (with_reducible refine (cH _).mono ?_); rintro o1 w1 ⟨rfl, hb⟩; have hF := Blk.new w1 121 #[.bool false, .bool false, .bool false, .bool false, .bool true, .bool true]; have hlt := Nat.lt_of_lt_of_le hS.box.b.lt hb.size; replace hb := hb.alloc hb.size (.cells #[.bool false, .bool false, .bool false, .bool false, .bool true, .bool true] 121); replace hS := hS.below hb; clear hb x0; have f0 := hF.cell_ (i := 0) rfl; have f1 := hF.cell_ (i := 1) rfl; have f2 := hF.cell_ (i := 2) rfl; have f3 := hF.cell_ (i := 3) rfl; have f4 := hF.cell_ (i := 4) rfl; have f5 := hF.cell_ (i := 5) rfl; have x0 : _ = some (Value.int .i64 5) := hS.box.c0)
    | (with_reducible refine wpList_load_opx (by with_unfolding_all rfl) _ rfl _ rfl hS.box hS.hK ?_)
    | (go_at_call 94; (with_reducible refine (cR _).mono ?_); rintro o1 w1 ⟨rfl, hb⟩; replace hS := hS.below hb; clear hb x0 f0 f1 f2 f3 f4 f5)
    | (go_at_call 50; (with_reducible refine (pkErr_any g s _ _ _ hS.r).mono ?_); rintro o1 w1 ⟨rfl, rfl⟩)
    | (with_reducible refine wpList_build_op0 rfl rfl ?_)
    | (with_reducible refine wpList_store_blk rfl 74 _ _ rfl w.heap.size _ _ 74 hS.res rfl rfl ?c2 ?c3 ?c4 ?_))
  case c2 => rw [opC_size _ _ _ _ _ _ _ rfl]; exact infoOp
  case c3 => exact (opC_size _ _ _ _ _ _ _ rfl).trans (opC_size _ _ _ _ _ _ _ rfl).symm
  case c4 => exact opC_one _ _ _ _ _ _ _
  intro w9 hb9 hg9
  go_wp2
  refine bodyPost_ret (results_cell_row rfl _ _ _ _ _ _ _ rfl hb9 Try.underlying74 rfl (by rw [opC_size _ _ _ _ _ _ _ rfl]; exact infoOp)) rfl ?_
  exact ⟨none, 0, 0, none, 0, 0, rfl, OpR.zero _, hS.st.new hg9 (Nat.le_refl _) hS.hg⟩

set_option maxRecDepth 100000 in
set_option maxHeartbeats 40000000 in
theorem og_5_iii (g : Nat) (s : List UInt8) (a : Nat) (e : Int) (w : World) (hr : Rdr g s a e w) (a0 : Nat) (e0 : Int) (cB : ∀ W, Rdr g s a e W → Calls Try.prog 34 #[.pointer (some ⟨g, 0, none⟩)] W fun o w' => o = .returned (.int .u8 5) ∧ Step g s a0 e0 W w') (P : List UInt8) (a1 : Nat) (e1 : Int) (lP : P.length ≤ 200) (c1 : ∀ W, Rdr g s a0 e0 W → Calls Try.prog 36 #[.pointer (some ⟨g, 0, none⟩), .int .i64 200] W fun o w' => o = .returned (.string (txt P)) ∧ Step g s a1 e1 W w') (K : List UInt8) (a2 : Nat) (e2 : Int) (lK : K.length = 32) (c2 : ∀ W, Rdr g s a1 e1 W → Calls Try.prog 37 #[.pointer (some ⟨g, 0, none⟩)] W fun o w' => o = .returned (.agg (K.map u8v).toArray) ∧ Step g s a2 e2 W w') (M : Nat) (a3 : Nat) (e3 : Int) (lM : M ≤ 4611686018427387904) (c3 : ∀ W, Rdr g s a2 e2 W → Calls Try.prog 35 #[.pointer (some ⟨g, 0, none⟩)] W fun o w' => o = .returned (.int .i64 M) ∧ Step g s a3 e3 W w') (hE : opE ⟨5, P, [], 0, [], [], K, (M : Int)⟩ = 0) (he : e3 = 0) :
    Calls Try.prog 55 #[.pointer (some ⟨g, 0, none⟩)] w fun o w' => OgP g s a3 e3 (⟨5, P, [], 0, [], [], K, (M : Int)⟩ : OpD) w o w' := by
  have hgl := hr.lt
  have hk0 : (w.alloc (.cells (opC opZ none 0 0 none 0 0) 74)).heap.size = w.heap.size + 1 := by simp
  have hr0 : Rdr g s a e (w.alloc (.cells (opC opZ none 0 0 none 0 0) 74)) := Blk.alloc hr _
  have hs0 : Step g s a e w (w.alloc (.cells (opC opZ none 0 0 none 0 0) 74)) := (Step.same hr).below ((Below.refl _ w).alloc (Nat.le_refl _) _)
  have hres := Blk.new w 74 (opC opZ none 0 0 none 0 0)
  have cKn : ∀ W, Calls Try.prog 101 #[.int .i64 5] W fun o w' => o = .returned (.bool true) ∧ W = w' := fun W => oknown_any 5 W
  have cH : ∀ W, Calls Try.prog 95 #[.int .i64 5] W fun o w' => o = .returned (.agg #[.bool false, .bool false, .bool false, .bool false, .bool true, .bool true]) ∧ Below W.heap.size W w' := fun W => has_any 5 W
  have cR : ∀ (W : World) , Calls Try.prog 94 #[.agg (opC ⟨5, P, [], 0, [], [], K, (M : Int)⟩ none 0 0 none 0 0)] W fun o w' => o = .returned (.int .i64 0) ∧ Below W.heap.size W w' := fun W => by
    have q := oright_any ⟨5, P, [], 0, [], [], K, (M : Int)⟩ lK none 0 0 rfl (by decide) none 0 0 rfl (by decide) W (Rd.nil_ _ _) (Rd.nil_ _ _)
    rwa [hE] at q
  subst he
  clear hE hr
  have hHZ : (Try.prog.info? 24).map (·.size) = some (K.map u8v).toArray.size := by rw [List.size_toArray, List.length_map, lK]; exact sizeId
  have hK6 : 6 + (K.map u8v).toArray.size ≤ 39 := by rw [List.size_toArray, List.length_map, lK]; decide
  have h1K : ((K.map u8v).toArray).all (·.oneCell') = true := idVals_one K
  go_enter Try.func55, Try.ntmps55
  go_wp2_with (fail)
  rw [← opC_lit 0, show (⟨0, [], [], 0, [], [], zeroB, 0⟩ : OpD) = opZ from rfl]
  generalize w.alloc (.cells (opC opZ none 0 0 none 0 0) 74) = W0 at *
  refine (cB _ hr0).mono ?_
  rintro o1 w1 ⟨rfl, h1⟩
  have hr1 := hs0.trans h1
  have hres1 := blk_gb hres h1.gb (by omega)
  have hsz := h1.gb.size
  rw [hk0] at hsz
  clear h1 hs0 hres hr0 cB hk0
  have x0 : (w1.alloc (.cells (opC ⟨5, [], [], 0, [], [], zeroB, 0⟩ none 0 0 none 0 0) 74)).cell? ⟨w1.heap.size, 0, none⟩ = some (.int .i64 5) := (OpX.new w1 ⟨5, [], [], 0, [], [], zeroB, 0⟩ none 0 0 none 0 0).c0
  go_wp2_with (first
    | (with_reducible refine wpList_build_op rfl _ rfl 5 (by with_unfolding_all rfl) ?_)
    | (with_reducible refine wpList_store_new rfl 74 _ _ rfl (opC ⟨5, [], [], 0, [], [], zeroB, 0⟩ none 0 0 none 0 0) rfl rfl ?s2 ?s3 (opC_one _ _ _ _ _ _ _) ?_))
  case s2 => rw [opC_size _ _ _ _ _ _ _ rfl]; exact infoOp
  case s3 => rw [opC_size _ _ _ _ _ _ _ rfl]; rfl
  have hS : GetS w (w1.alloc (.cells (opC ⟨5, [], [], 0, [], [], zeroB, 0⟩ none 0 0 none 0 0) 74)) g s a0 e0 w1.heap.size ⟨5, [], [], 0, [], [], zeroB, 0⟩ none 0 0 none 0 0 :=
    ⟨hr1.below ((Below.refl _ w1).alloc (Nat.le_refl _) _), OpX.new _ _ _ _ _ _ _ _, hres1.alloc _, World.ownsRow_nil _ _ _ _, World.ownsRow_nil _ _ _ _, by omega, hgl, rfl⟩
  generalize w1.alloc (.cells (opC ⟨5, [], [], 0, [], [], zeroB, 0⟩ none 0 0 none 0 0) 74) = W1 at *
  clear hr1 hres1 x0
  generalize w1.heap.size = ox at *
  have x0 : W1.cell? ⟨ox, 0, none⟩ = some (.int .i64 5) := hS.box.c0
  go_wp2_with (first
    | (go_at_call 101; (with_reducible refine (cKn _).mono ?_); rintro o1 w1 ⟨rfl, rfl⟩)
    | (go_at_call 36; (with_reducible refine (c1 _ hS.r).mono ?_); rintro o1 w1 ⟨rfl, h1⟩; replace hS := hS.step h1; clear x0; have y := hS.box.c1; have y' := hS.box.b.frozen 1; clear h1; replace hS : GetS w _ g s _ _ ox ⟨5, P, [], 0, [], [], zeroB, 0⟩ none 0 0 none 0 0 := hS.set1 P; have x0 : _ = some (Value.int .i64 5) := hS.box.c0)
    | (go_at_call 37; (with_reducible refine (c2 _ hS.r).mono ?_); rintro o1 w1 ⟨rfl, h1⟩; replace hS := hS.step h1; replace hF := blk_gb hF h1.gb (by omega); clear x0 f0 f1 f2 f3 f4 f5; have f0 := hF.cell_ (i := 0) rfl; have f1 := hF.cell_ (i := 1) rfl; have f2 := hF.cell_ (i := 2) rfl; have f3 := hF.cell_ (i := 3) rfl; have f4 := hF.cell_ (i := 4) rfl; have f5 := hF.cell_ (i := 5) rfl; have x0 : _ = some (Value.int .i64 5) := hS.box.c0; clear h1)
    | ((with_reducible refine wpList_store_at rfl 24 _ _ rfl ox 6 _ (K.map u8v).toArray 74 hS.box.b rfl rfl hHZ (by rw [opC_size _ _ _ _ _ _ _ hS.hK]; exact hK6) h1K ?_); intro w2 hb2 hg2; rw [List.toList_toArray] at hb2; replace hF := blk_gb hF hg2 (by omega); replace hS : GetS w _ g s _ _ ox ⟨5, P, [], 0, [], [], K, 0⟩ none 0 0 none 0 0 := hS.setK K lK hb2 hg2; clear x0 f0 f1 f2 f3 f4 f5 hb2 hg2; have f0 := hF.cell_ (i := 0) rfl; have f1 := hF.cell_ (i := 1) rfl; have f2 := hF.cell_ (i := 2) rfl; have f3 := hF.cell_ (i := 3) rfl; have f4 := hF.cell_ (i := 4) rfl; have f5 := hF.cell_ (i := 5) rfl; have x0 : _ = some (Value.int .i64 5) := hS.box.c0)
    | (go_at_call 35; (with_reducible refine (c3 _ hS.r).mono ?_); rintro o1 w1 ⟨rfl, h1⟩; replace hS := hS.step h1; replace hF := blk_gb hF h1.gb (by omega); clear x0 f0 f1 f2 f3 f4 f5; have y := hS.box.c38 hS.hK; have y' := hS.box.b.frozen 38; clear h1; replace hS : GetS w _ g s _ _ ox ⟨5, P, [], 0, [], [], K, (M : Int)⟩ none 0 0 none 0 0 := hS.set38 (M : Int); replace hF := hF.far (p := ⟨ox, 38, none⟩) (by simp; omega) (.int .i64 (M : Int)); have f0 := hF.cell_ (i := 0) rfl; have f1 := hF.cell_ (i := 1) rfl; have f2 := hF.cell_ (i := 2) rfl; have f3 := hF.cell_ (i := 3) rfl; have f4 := hF.cell_ (i := 4) rfl; have f5 := hF.cell_ (i := 5) rfl; have x0 : _ = some (Value.int .i64 5) := hS.box.c0)
    | (go_at_call 95; (with_reducible refine (cH _).mono ?_); rintro o1 w1 ⟨rfl, hb⟩; have hF := Blk.new w1 121 #[.bool false, .bool false, .bool false, .bool false, .bool true, .bool true]; have hlt := Nat.lt_of_lt_of_le hS.box.b.lt hb.size; replace hb := hb.alloc hb.size (.cells #[.bool false, .bool false, .bool false, .bool false, .bool true, .bool true] 121); replace hS := hS.below hb; clear hb x0; have f0 := hF.cell_ (i := 0) rfl; have f1 := hF.cell_ (i := 1) rfl; have f2 := hF.cell_ (i := 2) rfl; have f3 := hF.cell_ (i := 3) rfl; have f4 := hF.cell_ (i := 4) rfl; have f5 := hF.cell_ (i := 5) rfl; have x0 : _ = some (Value.int .i64 5) := hS.box.c0)
    | (with_reducible refine wpList_load_opx (by with_unfolding_all rfl) _ rfl _ rfl hS.box hS.hK ?_)
    | (go_at_call 94; (with_reducible refine (cR _).mono ?_); rintro o1 w1 ⟨rfl, hb⟩; replace hS := hS.below hb; clear hb x0 f0 f1 f2 f3 f4 f5)
    | (go_at_call 50; (with_reducible refine (pkErr_any g s _ _ _ hS.r).mono ?_); rintro o1 w1 ⟨rfl, rfl⟩)
    | (with_reducible refine wpList_store_blk rfl 74 _ _ rfl w.heap.size _ _ 74 hS.res rfl rfl ?c2 ?c3 ?c4 ?_))
  case c2 => rw [opC_size _ _ _ _ _ _ _ hS.hK]; exact infoOp
  case c3 => rw [opC_size _ _ _ _ _ _ _ hS.hK]; exact opC_size _ _ _ _ _ _ _ rfl
  case c4 => exact opC_one _ _ _ _ _ _ _
  intro w9 hb9 hg9
  go_wp2
  refine bodyPost_ret (results_cell_row rfl _ _ _ _ _ _ _ rfl hb9 Try.underlying74 rfl (by rw [opC_size _ _ _ _ _ _ _ hS.hK]; exact infoOp)) rfl ?_
  have ow1 := hS.own1.kept hg9 (.inr (Lib.ownBlock_ne hS.own1 hS.res (by decide)))
  have ow2 := hS.own2.kept hg9 (.inr (Lib.ownBlock_ne hS.own2 hS.res (by decide)))
  refine ⟨_, _, _, _, _, _, rfl, ⟨(own_rd ow1).1, ?_, ?_, (own_rd ow2).1, ?_, ?_, (own_rd ow1).2, (own_rd ow2).2, hS.hK, ?_, ?_⟩, hS.st.new hg9 (Nat.le_refl _) hS.hg⟩
  · decide
  · simp
  · decide
  · simp
  · exact Nat.le_trans lP (by decide)
  · simp

set_option maxRecDepth 100000 in
set_option maxHeartbeats 40000000 in
theorem og_6_i (g : Nat) (s : List UInt8) (a : Nat) (e : Int) (w : World) (hr : Rdr g s a e w) (a0 : Nat) (e0 : Int) (cB : ∀ W, Rdr g s a e W → Calls Try.prog 34 #[.pointer (some ⟨g, 0, none⟩)] W fun o w' => o = .returned (.int .u8 6) ∧ Step g s a0 e0 W w') (P : List UInt8) (a1 : Nat) (e1 : Int) (lP : P.length ≤ 200) (c1 : ∀ W, Rdr g s a0 e0 W → Calls Try.prog 36 #[.pointer (some ⟨g, 0, none⟩), .int .i64 200] W fun o w' => o = .returned (.string (txt P)) ∧ Step g s a1 e1 W w') (K : List UInt8) (a2 : Nat) (e2 : Int) (lK : K.length = 32) (c2 : ∀ W, Rdr g s a1 e1 W → Calls Try.prog 37 #[.pointer (some ⟨g, 0, none⟩)] W fun o w' => o = .returned (.agg (K.map u8v).toArray) ∧ Step g s a2 e2 W w') (E : Int) (hE : opE ⟨6, P, [], 0, [], [], K, 0⟩ = E) (hE0 : E ≠ 0) :
    Calls Try.prog 55 #[.pointer (some ⟨g, 0, none⟩)] w fun o w' => OgP g s a2 (stopB e2 3) opZ w o w' := by
  have hgl := hr.lt
  have hk0 : (w.alloc (.cells (opC opZ none 0 0 none 0 0) 74)).heap.size = w.heap.size + 1 := by simp
  have hr0 : Rdr g s a e (w.alloc (.cells (opC opZ none 0 0 none 0 0) 74)) := Blk.alloc hr _
  have hs0 : Step g s a e w (w.alloc (.cells (opC opZ none 0 0 none 0 0) 74)) := (Step.same hr).below ((Below.refl _ w).alloc (Nat.le_refl _) _)
  have hres := Blk.new w 74 (opC opZ none 0 0 none 0 0)
  have cKn : ∀ W, Calls Try.prog 101 #[.int .i64 6] W fun o w' => o = .returned (.bool true) ∧ W = w' := fun W => oknown_any 6 W
  have cH : ∀ W, Calls Try.prog 95 #[.int .i64 6] W fun o w' => o = .returned (.agg #[.bool false, .bool false, .bool false, .bool false, .bool true, .bool false]) ∧ Below W.heap.size W w' := fun W => has_any 6 W
  have cR : ∀ (W : World) , Calls Try.prog 94 #[.agg (opC ⟨6, P, [], 0, [], [], K, 0⟩ none 0 0 none 0 0)] W fun o w' => o = .returned (.int .i64 E) ∧ Below W.heap.size W w' := fun W => by
    have q := oright_any ⟨6, P, [], 0, [], [], K, 0⟩ lK none 0 0 rfl (by decide) none 0 0 rfl (by decide) W (Rd.nil_ _ _) (Rd.nil_ _ _)
    rwa [hE] at q
  have hEn : (E != 0) = true := by simpa using hE0
  have hst : stopB e2 3 ≠ 0 := by unfold stopB; split <;> first | decide | assumption
  obtain ⟨ef, hef⟩ : ∃ ef, ef = stopB e2 3 := ⟨_, rfl⟩
  have hen : (ef != 0) = true := by rw [hef]; simpa using hst
  have cF : ∀ W, Rdr g s a2 e2 W → Calls Try.prog 102 #[.pointer (some ⟨g, 0, none⟩), .int .i64 3] W fun o w' => o = .returned (.tuple #[]) ∧ Step g s a2 ef W w' := fun W h => by rw [hef]; exact pkFail_any g s a2 e2 3 W h
  rw [← hef]
  clear hef hst
  clear hE hr
  have hHZ : (Try.prog.info? 24).map (·.size) = some (K.map u8v).toArray.size := by rw [List.size_toArray, List.length_map, lK]; exact sizeId
  have hK6 : 6 + (K.map u8v).toArray.size ≤ 39 := by rw [List.size_toArray, List.length_map, lK]; decide
  have h1K : ((K.map u8v).toArray).all (·.oneCell') = true := idVals_one K
  go_enter Try.func55, Try.ntmps55
  go_wp2_with (fail)
  rw [← opC_lit 0, show (⟨0, [], [], 0, [], [], zeroB, 0⟩ : OpD) = opZ from rfl]
  generalize w.alloc (.cells (opC opZ none 0 0 none 0 0) 74) = W0 at *
  refine (cB _ hr0).mono ?_
  rintro o1 w1 ⟨rfl, h1⟩
  have hr1 := hs0.trans h1
  have hres1 := blk_gb hres h1.gb (by omega)
  have hsz := h1.gb.size
  rw [hk0] at hsz
  clear h1 hs0 hres hr0 cB hk0
  have x0 : (w1.alloc (.cells (opC ⟨6, [], [], 0, [], [], zeroB, 0⟩ none 0 0 none 0 0) 74)).cell? ⟨w1.heap.size, 0, none⟩ = some (.int .i64 6) := (OpX.new w1 ⟨6, [], [], 0, [], [], zeroB, 0⟩ none 0 0 none 0 0).c0
  go_wp2_with (first
    | (with_reducible refine wpList_build_op rfl _ rfl 6 (by with_unfolding_all rfl) ?_)
    | (with_reducible refine wpList_store_new rfl 74 _ _ rfl (opC ⟨6, [], [], 0, [], [], zeroB, 0⟩ none 0 0 none 0 0) rfl rfl ?s2 ?s3 (opC_one _ _ _ _ _ _ _) ?_))
  case s2 => rw [opC_size _ _ _ _ _ _ _ rfl]; exact infoOp
  case s3 => rw [opC_size _ _ _ _ _ _ _ rfl]; rfl
  have hS : GetS w (w1.alloc (.cells (opC ⟨6, [], [], 0, [], [], zeroB, 0⟩ none 0 0 none 0 0) 74)) g s a0 e0 w1.heap.size ⟨6, [], [], 0, [], [], zeroB, 0⟩ none 0 0 none 0 0 :=
    ⟨hr1.below ((Below.refl _ w1).alloc (Nat.le_refl _) _), OpX.new _ _ _ _ _ _ _ _, hres1.alloc _, World.ownsRow_nil _ _ _ _, World.ownsRow_nil _ _ _ _, by omega, hgl, rfl⟩
  generalize w1.alloc (.cells (opC ⟨6, [], [], 0, [], [], zeroB, 0⟩ none 0 0 none 0 0) 74) = W1 at *
  clear hr1 hres1 x0
  generalize w1.heap.size = ox at *
  have x0 : W1.cell? ⟨ox, 0, none⟩ = some (.int .i64 6) := hS.box.c0
  go_wp2_with (first
    | (go_at_call 101; (with_reducible refine (cKn _).mono ?_); rintro o1 w1 ⟨rfl, rfl⟩)
    | (go_at_call 36; (with_reducible refine (c1 _ hS.r).mono ?_); rintro o1 w1 ⟨rfl, h1⟩; replace hS := hS.step h1; clear x0; have y := hS.box.c1; have y' := hS.box.b.frozen 1; clear h1; replace hS : GetS w _ g s _ _ ox ⟨6, P, [], 0, [], [], zeroB, 0⟩ none 0 0 none 0 0 := hS.set1 P; have x0 : _ = some (Value.int .i64 6) := hS.box.c0)
    | (go_at_call 37; (with_reducible refine (c2 _ hS.r).mono ?_); rintro o1 w1 ⟨rfl, h1⟩; replace hS := hS.step h1; replace hF := blk_gb hF h1.gb (by omega); clear x0 f0 f1 f2 f3 f4 f5; have f0 := hF.cell_ (i := 0) rfl; have f1 := hF.cell_ (i := 1) rfl; have f2 := hF.cell_ (i := 2) rfl; have f3 := hF.cell_ (i := 3) rfl; have f4 := hF.cell_ (i := 4) rfl; have f5 := hF.cell_ (i := 5) rfl; have x0 : _ = some (Value.int .i64 6) := hS.box.c0; clear h1)
    | ((with_reducible refine wpList_store_at rfl 24 _ _ rfl ox 6 _ (K.map u8v).toArray 74 hS.box.b rfl rfl hHZ (by rw [opC_size _ _ _ _ _ _ _ hS.hK]; exact hK6) h1K ?_); intro w2 hb2 hg2; rw [List.toList_toArray] at hb2; replace hF := blk_gb hF hg2 (by omega); replace hS : GetS w _ g s _ _ ox ⟨6, P, [], 0, [], [], K, 0⟩ none 0 0 none 0 0 := hS.setK K lK hb2 hg2; clear x0 f0 f1 f2 f3 f4 f5 hb2 hg2; have f0 := hF.cell_ (i := 0) rfl; have f1 := hF.cell_ (i := 1) rfl; have f2 := hF.cell_ (i := 2) rfl; have f3 := hF.cell_ (i := 3) rfl; have f4 := hF.cell_ (i := 4) rfl; have f5 := hF.cell_ (i := 5) rfl; have x0 : _ = some (Value.int .i64 6) := hS.box.c0)
    | (go_at_call 95; (with_reducible refine (cH _).mono ?_); rintro o1 w1 ⟨rfl, hb⟩; have hF := Blk.new w1 121 #[.bool false, .bool false, .bool false, .bool false, .bool true, .bool false]; have hlt := Nat.lt_of_lt_of_le hS.box.b.lt hb.size; replace hb := hb.alloc hb.size (.cells #[.bool false, .bool false, .bool false, .bool false, .bool true, .bool false] 121); replace hS := hS.below hb; clear hb x0; have f0 := hF.cell_ (i := 0) rfl; have f1 := hF.cell_ (i := 1) rfl; have f2 := hF.cell_ (i := 2) rfl; have f3 := hF.cell_ (i := 3) rfl; have f4 := hF.cell_ (i := 4) rfl; have f5 := hF.cell_ (i := 5) rfl; have x0 : _ = some (Value.int .i64 6) := hS.box.c0)
    | (with_reducible refine wpList_load_opx (by with_unfolding_all rfl) _ rfl _ rfl hS.box hS.hK ?_)
    | (go_at_call 94; (with_reducible refine (cR _).mono ?_); rintro o1 w1 ⟨rfl, hb⟩; replace hS := hS.below hb; clear hb x0 f0 f1 f2 f3 f4 f5)
    | (go_at_call 102; (with_reducible refine (cF _ hS.r).mono ?_); rintro o1 w1 ⟨rfl, h1⟩; replace hS := hS.step h1; clear h1)
    | (go_at_call 50; (with_reducible refine (pkErr_any g s _ _ _ hS.r).mono ?_); rintro o1 w1 ⟨rfl, rfl⟩)
    | (with_reducible refine wpList_build_op0 rfl rfl ?_)
    | (with_reducible refine wpList_store_blk rfl 74 _ _ rfl w.heap.size _ _ 74 hS.res rfl rfl ?c2 ?c3 ?c4 ?_))
  case c2 => rw [opC_size _ _ _ _ _ _ _ rfl]; exact infoOp
  case c3 => exact (opC_size _ _ _ _ _ _ _ rfl).trans (opC_size _ _ _ _ _ _ _ rfl).symm
  case c4 => exact opC_one _ _ _ _ _ _ _
  intro w9 hb9 hg9
  go_wp2
  refine bodyPost_ret (results_cell_row rfl _ _ _ _ _ _ _ rfl hb9 Try.underlying74 rfl (by rw [opC_size _ _ _ _ _ _ _ rfl]; exact infoOp)) rfl ?_
  exact ⟨none, 0, 0, none, 0, 0, rfl, OpR.zero _, hS.st.new hg9 (Nat.le_refl _) hS.hg⟩

set_option maxRecDepth 100000 in
set_option maxHeartbeats 40000000 in
theorem og_6_ii (g : Nat) (s : List UInt8) (a : Nat) (e : Int) (w : World) (hr : Rdr g s a e w) (a0 : Nat) (e0 : Int) (cB : ∀ W, Rdr g s a e W → Calls Try.prog 34 #[.pointer (some ⟨g, 0, none⟩)] W fun o w' => o = .returned (.int .u8 6) ∧ Step g s a0 e0 W w') (P : List UInt8) (a1 : Nat) (e1 : Int) (lP : P.length ≤ 200) (c1 : ∀ W, Rdr g s a0 e0 W → Calls Try.prog 36 #[.pointer (some ⟨g, 0, none⟩), .int .i64 200] W fun o w' => o = .returned (.string (txt P)) ∧ Step g s a1 e1 W w') (K : List UInt8) (a2 : Nat) (e2 : Int) (lK : K.length = 32) (c2 : ∀ W, Rdr g s a1 e1 W → Calls Try.prog 37 #[.pointer (some ⟨g, 0, none⟩)] W fun o w' => o = .returned (.agg (K.map u8v).toArray) ∧ Step g s a2 e2 W w') (hE : opE ⟨6, P, [], 0, [], [], K, 0⟩ = 0) (he : e2 ≠ 0) :
    Calls Try.prog 55 #[.pointer (some ⟨g, 0, none⟩)] w fun o w' => OgP g s a2 e2 opZ w o w' := by
  have hgl := hr.lt
  have hk0 : (w.alloc (.cells (opC opZ none 0 0 none 0 0) 74)).heap.size = w.heap.size + 1 := by simp
  have hr0 : Rdr g s a e (w.alloc (.cells (opC opZ none 0 0 none 0 0) 74)) := Blk.alloc hr _
  have hs0 : Step g s a e w (w.alloc (.cells (opC opZ none 0 0 none 0 0) 74)) := (Step.same hr).below ((Below.refl _ w).alloc (Nat.le_refl _) _)
  have hres := Blk.new w 74 (opC opZ none 0 0 none 0 0)
  have cKn : ∀ W, Calls Try.prog 101 #[.int .i64 6] W fun o w' => o = .returned (.bool true) ∧ W = w' := fun W => oknown_any 6 W
  have cH : ∀ W, Calls Try.prog 95 #[.int .i64 6] W fun o w' => o = .returned (.agg #[.bool false, .bool false, .bool false, .bool false, .bool true, .bool false]) ∧ Below W.heap.size W w' := fun W => has_any 6 W
  have cR : ∀ (W : World) , Calls Try.prog 94 #[.agg (opC ⟨6, P, [], 0, [], [], K, 0⟩ none 0 0 none 0 0)] W fun o w' => o = .returned (.int .i64 0) ∧ Below W.heap.size W w' := fun W => by
    have q := oright_any ⟨6, P, [], 0, [], [], K, 0⟩ lK none 0 0 rfl (by decide) none 0 0 rfl (by decide) W (Rd.nil_ _ _) (Rd.nil_ _ _)
    rwa [hE] at q
  have hen : (e2 != 0) = true := by simpa using he
  clear hE hr
  have hHZ : (Try.prog.info? 24).map (·.size) = some (K.map u8v).toArray.size := by rw [List.size_toArray, List.length_map, lK]; exact sizeId
  have hK6 : 6 + (K.map u8v).toArray.size ≤ 39 := by rw [List.size_toArray, List.length_map, lK]; decide
  have h1K : ((K.map u8v).toArray).all (·.oneCell') = true := idVals_one K
  go_enter Try.func55, Try.ntmps55
  go_wp2_with (fail)
  rw [← opC_lit 0, show (⟨0, [], [], 0, [], [], zeroB, 0⟩ : OpD) = opZ from rfl]
  generalize w.alloc (.cells (opC opZ none 0 0 none 0 0) 74) = W0 at *
  refine (cB _ hr0).mono ?_
  rintro o1 w1 ⟨rfl, h1⟩
  have hr1 := hs0.trans h1
  have hres1 := blk_gb hres h1.gb (by omega)
  have hsz := h1.gb.size
  rw [hk0] at hsz
  clear h1 hs0 hres hr0 cB hk0
  have x0 : (w1.alloc (.cells (opC ⟨6, [], [], 0, [], [], zeroB, 0⟩ none 0 0 none 0 0) 74)).cell? ⟨w1.heap.size, 0, none⟩ = some (.int .i64 6) := (OpX.new w1 ⟨6, [], [], 0, [], [], zeroB, 0⟩ none 0 0 none 0 0).c0
  go_wp2_with (first
    | (with_reducible refine wpList_build_op rfl _ rfl 6 (by with_unfolding_all rfl) ?_)
    | (with_reducible refine wpList_store_new rfl 74 _ _ rfl (opC ⟨6, [], [], 0, [], [], zeroB, 0⟩ none 0 0 none 0 0) rfl rfl ?s2 ?s3 (opC_one _ _ _ _ _ _ _) ?_))
  case s2 => rw [opC_size _ _ _ _ _ _ _ rfl]; exact infoOp
  case s3 => rw [opC_size _ _ _ _ _ _ _ rfl]; rfl
  have hS : GetS w (w1.alloc (.cells (opC ⟨6, [], [], 0, [], [], zeroB, 0⟩ none 0 0 none 0 0) 74)) g s a0 e0 w1.heap.size ⟨6, [], [], 0, [], [], zeroB, 0⟩ none 0 0 none 0 0 :=
    ⟨hr1.below ((Below.refl _ w1).alloc (Nat.le_refl _) _), OpX.new _ _ _ _ _ _ _ _, hres1.alloc _, World.ownsRow_nil _ _ _ _, World.ownsRow_nil _ _ _ _, by omega, hgl, rfl⟩
  generalize w1.alloc (.cells (opC ⟨6, [], [], 0, [], [], zeroB, 0⟩ none 0 0 none 0 0) 74) = W1 at *
  clear hr1 hres1 x0
  generalize w1.heap.size = ox at *
  have x0 : W1.cell? ⟨ox, 0, none⟩ = some (.int .i64 6) := hS.box.c0
  go_wp2_with (first
    | (go_at_call 101; (with_reducible refine (cKn _).mono ?_); rintro o1 w1 ⟨rfl, rfl⟩)
    | (go_at_call 36; (with_reducible refine (c1 _ hS.r).mono ?_); rintro o1 w1 ⟨rfl, h1⟩; replace hS := hS.step h1; clear x0; have y := hS.box.c1; have y' := hS.box.b.frozen 1; clear h1; replace hS : GetS w _ g s _ _ ox ⟨6, P, [], 0, [], [], zeroB, 0⟩ none 0 0 none 0 0 := hS.set1 P; have x0 : _ = some (Value.int .i64 6) := hS.box.c0)
    | (go_at_call 37; (with_reducible refine (c2 _ hS.r).mono ?_); rintro o1 w1 ⟨rfl, h1⟩; replace hS := hS.step h1; replace hF := blk_gb hF h1.gb (by omega); clear x0 f0 f1 f2 f3 f4 f5; have f0 := hF.cell_ (i := 0) rfl; have f1 := hF.cell_ (i := 1) rfl; have f2 := hF.cell_ (i := 2) rfl; have f3 := hF.cell_ (i := 3) rfl; have f4 := hF.cell_ (i := 4) rfl; have f5 := hF.cell_ (i := 5) rfl; have x0 : _ = some (Value.int .i64 6) := hS.box.c0; clear h1)
    | ((with_reducible refine wpList_store_at rfl 24 _ _ rfl ox 6 _ (K.map u8v).toArray 74 hS.box.b rfl rfl hHZ (by rw [opC_size _ _ _ _ _ _ _ hS.hK]; exact hK6) h1K ?_); intro w2 hb2 hg2; rw [List.toList_toArray] at hb2; replace hF := blk_gb hF hg2 (by omega); replace hS : GetS w _ g s _ _ ox ⟨6, P, [], 0, [], [], K, 0⟩ none 0 0 none 0 0 := hS.setK K lK hb2 hg2; clear x0 f0 f1 f2 f3 f4 f5 hb2 hg2; have f0 := hF.cell_ (i := 0) rfl; have f1 := hF.cell_ (i := 1) rfl; have f2 := hF.cell_ (i := 2) rfl; have f3 := hF.cell_ (i := 3) rfl; have f4 := hF.cell_ (i := 4) rfl; have f5 := hF.cell_ (i := 5) rfl; have x0 : _ = some (Value.int .i64 6) := hS.box.c0)
    | (go_at_call 95; (with_reducible refine (cH _).mono ?_); rintro o1 w1 ⟨rfl, hb⟩; have hF := Blk.new w1 121 #[.bool false, .bool false, .bool false, .bool false, .bool true, .bool false]; have hlt := Nat.lt_of_lt_of_le hS.box.b.lt hb.size; replace hb := hb.alloc hb.size (.cells #[.bool false, .bool false, .bool false, .bool false, .bool true, .bool false] 121); replace hS := hS.below hb; clear hb x0; have f0 := hF.cell_ (i := 0) rfl; have f1 := hF.cell_ (i := 1) rfl; have f2 := hF.cell_ (i := 2) rfl; have f3 := hF.cell_ (i := 3) rfl; have f4 := hF.cell_ (i := 4) rfl; have f5 := hF.cell_ (i := 5) rfl; have x0 : _ = some (Value.int .i64 6) := hS.box.c0)
    | (with_reducible refine wpList_load_opx (by with_unfolding_all rfl) _ rfl _ rfl hS.box hS.hK ?_)
    | (go_at_call 94; (with_reducible refine (cR _).mono ?_); rintro o1 w1 ⟨rfl, hb⟩; replace hS := hS.below hb; clear hb x0 f0 f1 f2 f3 f4 f5)
    | (go_at_call 50; (with_reducible refine (pkErr_any g s _ _ _ hS.r).mono ?_); rintro o1 w1 ⟨rfl, rfl⟩)
    | (with_reducible refine wpList_build_op0 rfl rfl ?_)
    | (with_reducible refine wpList_store_blk rfl 74 _ _ rfl w.heap.size _ _ 74 hS.res rfl rfl ?c2 ?c3 ?c4 ?_))
  case c2 => rw [opC_size _ _ _ _ _ _ _ rfl]; exact infoOp
  case c3 => exact (opC_size _ _ _ _ _ _ _ rfl).trans (opC_size _ _ _ _ _ _ _ rfl).symm
  case c4 => exact opC_one _ _ _ _ _ _ _
  intro w9 hb9 hg9
  go_wp2
  refine bodyPost_ret (results_cell_row rfl _ _ _ _ _ _ _ rfl hb9 Try.underlying74 rfl (by rw [opC_size _ _ _ _ _ _ _ rfl]; exact infoOp)) rfl ?_
  exact ⟨none, 0, 0, none, 0, 0, rfl, OpR.zero _, hS.st.new hg9 (Nat.le_refl _) hS.hg⟩

set_option maxRecDepth 100000 in
set_option maxHeartbeats 40000000 in
theorem og_6_iii (g : Nat) (s : List UInt8) (a : Nat) (e : Int) (w : World) (hr : Rdr g s a e w) (a0 : Nat) (e0 : Int) (cB : ∀ W, Rdr g s a e W → Calls Try.prog 34 #[.pointer (some ⟨g, 0, none⟩)] W fun o w' => o = .returned (.int .u8 6) ∧ Step g s a0 e0 W w') (P : List UInt8) (a1 : Nat) (e1 : Int) (lP : P.length ≤ 200) (c1 : ∀ W, Rdr g s a0 e0 W → Calls Try.prog 36 #[.pointer (some ⟨g, 0, none⟩), .int .i64 200] W fun o w' => o = .returned (.string (txt P)) ∧ Step g s a1 e1 W w') (K : List UInt8) (a2 : Nat) (e2 : Int) (lK : K.length = 32) (c2 : ∀ W, Rdr g s a1 e1 W → Calls Try.prog 37 #[.pointer (some ⟨g, 0, none⟩)] W fun o w' => o = .returned (.agg (K.map u8v).toArray) ∧ Step g s a2 e2 W w') (hE : opE ⟨6, P, [], 0, [], [], K, 0⟩ = 0) (he : e2 = 0) :
    Calls Try.prog 55 #[.pointer (some ⟨g, 0, none⟩)] w fun o w' => OgP g s a2 e2 (⟨6, P, [], 0, [], [], K, 0⟩ : OpD) w o w' := by
  have hgl := hr.lt
  have hk0 : (w.alloc (.cells (opC opZ none 0 0 none 0 0) 74)).heap.size = w.heap.size + 1 := by simp
  have hr0 : Rdr g s a e (w.alloc (.cells (opC opZ none 0 0 none 0 0) 74)) := Blk.alloc hr _
  have hs0 : Step g s a e w (w.alloc (.cells (opC opZ none 0 0 none 0 0) 74)) := (Step.same hr).below ((Below.refl _ w).alloc (Nat.le_refl _) _)
  have hres := Blk.new w 74 (opC opZ none 0 0 none 0 0)
  have cKn : ∀ W, Calls Try.prog 101 #[.int .i64 6] W fun o w' => o = .returned (.bool true) ∧ W = w' := fun W => oknown_any 6 W
  have cH : ∀ W, Calls Try.prog 95 #[.int .i64 6] W fun o w' => o = .returned (.agg #[.bool false, .bool false, .bool false, .bool false, .bool true, .bool false]) ∧ Below W.heap.size W w' := fun W => has_any 6 W
  have cR : ∀ (W : World) , Calls Try.prog 94 #[.agg (opC ⟨6, P, [], 0, [], [], K, 0⟩ none 0 0 none 0 0)] W fun o w' => o = .returned (.int .i64 0) ∧ Below W.heap.size W w' := fun W => by
    have q := oright_any ⟨6, P, [], 0, [], [], K, 0⟩ lK none 0 0 rfl (by decide) none 0 0 rfl (by decide) W (Rd.nil_ _ _) (Rd.nil_ _ _)
    rwa [hE] at q
  subst he
  clear hE hr
  have hHZ : (Try.prog.info? 24).map (·.size) = some (K.map u8v).toArray.size := by rw [List.size_toArray, List.length_map, lK]; exact sizeId
  have hK6 : 6 + (K.map u8v).toArray.size ≤ 39 := by rw [List.size_toArray, List.length_map, lK]; decide
  have h1K : ((K.map u8v).toArray).all (·.oneCell') = true := idVals_one K
  go_enter Try.func55, Try.ntmps55
  go_wp2_with (fail)
  rw [← opC_lit 0, show (⟨0, [], [], 0, [], [], zeroB, 0⟩ : OpD) = opZ from rfl]
  generalize w.alloc (.cells (opC opZ none 0 0 none 0 0) 74) = W0 at *
  refine (cB _ hr0).mono ?_
  rintro o1 w1 ⟨rfl, h1⟩
  have hr1 := hs0.trans h1
  have hres1 := blk_gb hres h1.gb (by omega)
  have hsz := h1.gb.size
  rw [hk0] at hsz
  clear h1 hs0 hres hr0 cB hk0
  have x0 : (w1.alloc (.cells (opC ⟨6, [], [], 0, [], [], zeroB, 0⟩ none 0 0 none 0 0) 74)).cell? ⟨w1.heap.size, 0, none⟩ = some (.int .i64 6) := (OpX.new w1 ⟨6, [], [], 0, [], [], zeroB, 0⟩ none 0 0 none 0 0).c0
  go_wp2_with (first
    | (with_reducible refine wpList_build_op rfl _ rfl 6 (by with_unfolding_all rfl) ?_)
    | (with_reducible refine wpList_store_new rfl 74 _ _ rfl (opC ⟨6, [], [], 0, [], [], zeroB, 0⟩ none 0 0 none 0 0) rfl rfl ?s2 ?s3 (opC_one _ _ _ _ _ _ _) ?_))
  case s2 => rw [opC_size _ _ _ _ _ _ _ rfl]; exact infoOp
  case s3 => rw [opC_size _ _ _ _ _ _ _ rfl]; rfl
  have hS : GetS w (w1.alloc (.cells (opC ⟨6, [], [], 0, [], [], zeroB, 0⟩ none 0 0 none 0 0) 74)) g s a0 e0 w1.heap.size ⟨6, [], [], 0, [], [], zeroB, 0⟩ none 0 0 none 0 0 :=
    ⟨hr1.below ((Below.refl _ w1).alloc (Nat.le_refl _) _), OpX.new _ _ _ _ _ _ _ _, hres1.alloc _, World.ownsRow_nil _ _ _ _, World.ownsRow_nil _ _ _ _, by omega, hgl, rfl⟩
  generalize w1.alloc (.cells (opC ⟨6, [], [], 0, [], [], zeroB, 0⟩ none 0 0 none 0 0) 74) = W1 at *
  clear hr1 hres1 x0
  generalize w1.heap.size = ox at *
  have x0 : W1.cell? ⟨ox, 0, none⟩ = some (.int .i64 6) := hS.box.c0
  go_wp2_with (first
    | (go_at_call 101; (with_reducible refine (cKn _).mono ?_); rintro o1 w1 ⟨rfl, rfl⟩)
    | (go_at_call 36; (with_reducible refine (c1 _ hS.r).mono ?_); rintro o1 w1 ⟨rfl, h1⟩; replace hS := hS.step h1; clear x0; have y := hS.box.c1; have y' := hS.box.b.frozen 1; clear h1; replace hS : GetS w _ g s _ _ ox ⟨6, P, [], 0, [], [], zeroB, 0⟩ none 0 0 none 0 0 := hS.set1 P; have x0 : _ = some (Value.int .i64 6) := hS.box.c0)
    | (go_at_call 37; (with_reducible refine (c2 _ hS.r).mono ?_); rintro o1 w1 ⟨rfl, h1⟩; replace hS := hS.step h1; replace hF := blk_gb hF h1.gb (by omega); clear x0 f0 f1 f2 f3 f4 f5; have f0 := hF.cell_ (i := 0) rfl; have f1 := hF.cell_ (i := 1) rfl; have f2 := hF.cell_ (i := 2) rfl; have f3 := hF.cell_ (i := 3) rfl; have f4 := hF.cell_ (i := 4) rfl; have f5 := hF.cell_ (i := 5) rfl; have x0 : _ = some (Value.int .i64 6) := hS.box.c0; clear h1)
    | ((with_reducible refine wpList_store_at rfl 24 _ _ rfl ox 6 _ (K.map u8v).toArray 74 hS.box.b rfl rfl hHZ (by rw [opC_size _ _ _ _ _ _ _ hS.hK]; exact hK6) h1K ?_); intro w2 hb2 hg2; rw [List.toList_toArray] at hb2; replace hF := blk_gb hF hg2 (by omega); replace hS : GetS w _ g s _ _ ox ⟨6, P, [], 0, [], [], K, 0⟩ none 0 0 none 0 0 := hS.setK K lK hb2 hg2; clear x0 f0 f1 f2 f3 f4 f5 hb2 hg2; have f0 := hF.cell_ (i := 0) rfl; have f1 := hF.cell_ (i := 1) rfl; have f2 := hF.cell_ (i := 2) rfl; have f3 := hF.cell_ (i := 3) rfl; have f4 := hF.cell_ (i := 4) rfl; have f5 := hF.cell_ (i := 5) rfl; have x0 : _ = some (Value.int .i64 6) := hS.box.c0)
    | (go_at_call 95; (with_reducible refine (cH _).mono ?_); rintro o1 w1 ⟨rfl, hb⟩; have hF := Blk.new w1 121 #[.bool false, .bool false, .bool false, .bool false, .bool true, .bool false]; have hlt := Nat.lt_of_lt_of_le hS.box.b.lt hb.size; replace hb := hb.alloc hb.size (.cells #[.bool false, .bool false, .bool false, .bool false, .bool true, .bool false] 121); replace hS := hS.below hb; clear hb x0; have f0 := hF.cell_ (i := 0) rfl; have f1 := hF.cell_ (i := 1) rfl; have f2 := hF.cell_ (i := 2) rfl; have f3 := hF.cell_ (i := 3) rfl; have f4 := hF.cell_ (i := 4) rfl; have f5 := hF.cell_ (i := 5) rfl; have x0 : _ = some (Value.int .i64 6) := hS.box.c0)
    | (with_reducible refine wpList_load_opx (by with_unfolding_all rfl) _ rfl _ rfl hS.box hS.hK ?_)
    | (go_at_call 94; (with_reducible refine (cR _).mono ?_); rintro o1 w1 ⟨rfl, hb⟩; replace hS := hS.below hb; clear hb x0 f0 f1 f2 f3 f4 f5)
    | (go_at_call 50; (with_reducible refine (pkErr_any g s _ _ _ hS.r).mono ?_); rintro o1 w1 ⟨rfl, rfl⟩)
    | (with_reducible refine wpList_store_blk rfl 74 _ _ rfl w.heap.size _ _ 74 hS.res rfl rfl ?c2 ?c3 ?c4 ?_))
  case c2 => rw [opC_size _ _ _ _ _ _ _ hS.hK]; exact infoOp
  case c3 => rw [opC_size _ _ _ _ _ _ _ hS.hK]; exact opC_size _ _ _ _ _ _ _ rfl
  case c4 => exact opC_one _ _ _ _ _ _ _
  intro w9 hb9 hg9
  go_wp2
  refine bodyPost_ret (results_cell_row rfl _ _ _ _ _ _ _ rfl hb9 Try.underlying74 rfl (by rw [opC_size _ _ _ _ _ _ _ hS.hK]; exact infoOp)) rfl ?_
  have ow1 := hS.own1.kept hg9 (.inr (Lib.ownBlock_ne hS.own1 hS.res (by decide)))
  have ow2 := hS.own2.kept hg9 (.inr (Lib.ownBlock_ne hS.own2 hS.res (by decide)))
  refine ⟨_, _, _, _, _, _, rfl, ⟨(own_rd ow1).1, ?_, ?_, (own_rd ow2).1, ?_, ?_, (own_rd ow1).2, (own_rd ow2).2, hS.hK, ?_, ?_⟩, hS.st.new hg9 (Nat.le_refl _) hS.hg⟩
  · decide
  · simp
  · decide
  · simp
  · exact Nat.le_trans lP (by decide)
  · simp

set_option maxRecDepth 100000 in
set_option maxHeartbeats 40000000 in
theorem og_z_i (g : Nat) (s : List UInt8) (a : Nat) (e : Int) (w : World) (hr : Rdr g s a e w) (z : Int) (hz1 : ¬ (1 ≤ z ∧ z ≤ 6)) (hz0 : 0 ≤ z) (hz2 : z < 256) (a0 : Nat) (e0 : Int) (cB : ∀ W, Rdr g s a e W → Calls Try.prog 34 #[.pointer (some ⟨g, 0, none⟩)] W fun o w' => o = .returned (.int .u8 z) ∧ Step g s a0 e0 W w') (P : List UInt8) (a1 : Nat) (e1 : Int) (lP : P.length ≤ 200) (c1 : ∀ W, Rdr g s a0 (stopB e0 3) W → Calls Try.prog 36 #[.pointer (some ⟨g, 0, none⟩), .int .i64 200] W fun o w' => o = .returned (.string (txt P)) ∧ Step g s a1 e1 W w') (E : Int) (hE : opE ⟨z, P, [], 0, [], [], zeroB, 0⟩ = E) (hE0 : E ≠ 0) :
    Calls Try.prog 55 #[.pointer (some ⟨g, 0, none⟩)] w fun o w' => OgP g s a1 (stopB e1 3) opZ w o w' := by
  have hgl := hr.lt
  have hk0 : (w.alloc (.cells (opC opZ none 0 0 none 0 0) 74)).heap.size = w.heap.size + 1 := by simp
  have hr0 : Rdr g s a e (w.alloc (.cells (opC opZ none 0 0 none 0 0) 74)) := Blk.alloc hr _
  have hs0 : Step g s a e w (w.alloc (.cells (opC opZ none 0 0 none 0 0) 74)) := (Step.same hr).below ((Below.refl _ w).alloc (Nat.le_refl _) _)
  have hres := Blk.new w 74 (opC opZ none 0 0 none 0 0)
  have cKn : ∀ W, Calls Try.prog 101 #[.int .i64 z] W fun o w' => o = .returned (.bool false) ∧ W = w' := fun W => by have q := oknown_any z W; rwa [decide_eq_false hz1] at q
  have hwz : IntKind.i64.wrap z = z := wrapI hz0 (by omega)
  have hwz2 : wrap64 z = z := by unfold wrap64; omega
  have cH : ∀ W, Calls Try.prog 95 #[.int .i64 z] W fun o w' => o = .returned (.agg #[.bool false, .bool false, .bool false, .bool false, .bool false, .bool false]) ∧ Below W.heap.size W w' := fun W => by have q := has_any z W; rwa [show hasV z = #[.bool false, .bool false, .bool false, .bool false, .bool false, .bool false] from (by unfold hasV; simp only [show ¬ z = 4 by omega, show ¬ z = 3 by omega, show ¬ z = 2 by omega, show ¬ z = 5 by omega, show ¬ z = 6 by omega, decide_false, Bool.or_false])] at q
  have cR : ∀ (W : World) , Calls Try.prog 94 #[.agg (opC ⟨z, P, [], 0, [], [], zeroB, 0⟩ none 0 0 none 0 0)] W fun o w' => o = .returned (.int .i64 E) ∧ Below W.heap.size W w' := fun W => by
    have q := oright_any ⟨z, P, [], 0, [], [], zeroB, 0⟩ rfl none 0 0 rfl (by decide) none 0 0 rfl (by decide) W (Rd.nil_ _ _) (Rd.nil_ _ _)
    rwa [hE] at q
  have hEn : (E != 0) = true := by simpa using hE0
  have hst : stopB e1 3 ≠ 0 := by unfold stopB; split <;> first | decide | assumption
  obtain ⟨ef, hef⟩ : ∃ ef, ef = stopB e1 3 := ⟨_, rfl⟩
  have hen : (ef != 0) = true := by rw [hef]; simpa using hst
  have cF : ∀ W, Rdr g s a1 e1 W → Calls Try.prog 102 #[.pointer (some ⟨g, 0, none⟩), .int .i64 3] W fun o w' => o = .returned (.tuple #[]) ∧ Step g s a1 ef W w' := fun W h => by rw [hef]; exact pkFail_any g s a1 e1 3 W h
  rw [← hef]
  clear hef hst
  have cF0 : ∀ W, Rdr g s a0 e0 W → Calls Try.prog 102 #[.pointer (some ⟨g, 0, none⟩), .int .i64 3] W fun o w' => o = .returned (.tuple #[]) ∧ Step g s a0 (stopB e0 3) W w' := fun W h => pkFail_any g s a0 e0 3 W h
  generalize stopB e0 3 = e0' at *
  clear hE hr
  go_enter Try.func55, Try.ntmps55
  go_wp2_with (fail)
  rw [← opC_lit 0, show (⟨0, [], [], 0, [], [], zeroB, 0⟩ : OpD) = opZ from rfl]
  generalize w.alloc (.cells (opC opZ none 0 0 none 0 0) 74) = W0 at *
  refine (cB _ hr0).mono ?_
  rintro o1 w1 ⟨rfl, h1⟩
  have hr1 := hs0.trans h1
  have hres1 := blk_gb hres h1.gb (by omega)
  have hsz := h1.gb.size
  rw [hk0] at hsz
  clear h1 hs0 hres hr0 cB hk0
  have x0 : (w1.alloc (.cells (opC ⟨z, [], [], 0, [], [], zeroB, 0⟩ none 0 0 none 0 0) 74)).cell? ⟨w1.heap.size, 0, none⟩ = some (.int .i64 z) := (OpX.new w1 ⟨z, [], [], 0, [], [], zeroB, 0⟩ none 0 0 none 0 0).c0
  go_wp2_with (first
    | (with_reducible refine wpList_build_op rfl _ rfl z (by with_unfolding_all rfl) ?_)
    | (with_reducible refine wpList_store_new rfl 74 _ _ rfl (opC ⟨z, [], [], 0, [], [], zeroB, 0⟩ none 0 0 none 0 0) rfl rfl ?s2 ?s3 (opC_one _ _ _ _ _ _ _) ?_))
  case s2 => rw [opC_size _ _ _ _ _ _ _ rfl]; exact infoOp
  case s3 => rw [opC_size _ _ _ _ _ _ _ rfl]; rfl
  have hS : GetS w (w1.alloc (.cells (opC ⟨z, [], [], 0, [], [], zeroB, 0⟩ none 0 0 none 0 0) 74)) g s a0 e0 w1.heap.size ⟨z, [], [], 0, [], [], zeroB, 0⟩ none 0 0 none 0 0 :=
    ⟨hr1.below ((Below.refl _ w1).alloc (Nat.le_refl _) _), OpX.new _ _ _ _ _ _ _ _, hres1.alloc _, World.ownsRow_nil _ _ _ _, World.ownsRow_nil _ _ _ _, by omega, hgl, rfl⟩
  generalize w1.alloc (.cells (opC ⟨z, [], [], 0, [], [], zeroB, 0⟩ none 0 0 none 0 0) 74) = W1 at *
  clear hr1 hres1 x0
  generalize w1.heap.size = ox at *
  have x0 : W1.cell? ⟨ox, 0, none⟩ = some (.int .i64 z) := hS.box.c0
  go_wp2_with (first
    | (go_at_call 101; (with_reducible refine (cKn _).mono ?_); rintro o1 w1 ⟨rfl, rfl⟩)
    | (go_at_call 102; (with_reducible refine (cF0 _ hS.r).mono ?_); rintro o1 w1 ⟨rfl, h1⟩; replace hS := hS.step h1; clear x0 h1; have x0 : _ = some (Value.int .i64 z) := hS.box.c0)
    | (go_at_call 36; (with_reducible refine (c1 _ hS.r).mono ?_); rintro o1 w1 ⟨rfl, h1⟩; replace hS := hS.step h1; clear x0; have y := hS.box.c1; have y' := hS.box.b.frozen 1; clear h1; replace hS : GetS w _ g s _ _ ox ⟨z, P, [], 0, [], [], zeroB, 0⟩ none 0 0 none 0 0 := hS.set1 P; have x0 : _ = some (Value.int .i64 z) := hS.box.c0)
    | (go_at_call 95; (with_reducible refine (cH _).mono ?_); rintro o1 w1 ⟨rfl, hb⟩; have hF := Blk.new w1 121 #[.bool false, .bool false, .bool false, .bool false, .bool false, .bool false]; have hlt := Nat.lt_of_lt_of_le hS.box.b.lt hb.size; replace hb := hb.alloc hb.size (.cells #[.bool false, .bool false, .bool false, .bool false, .bool false, .bool false] 121); replace hS := hS.below hb; clear hb x0; have f0 := hF.cell_ (i := 0) rfl; have f1 := hF.cell_ (i := 1) rfl; have f2 := hF.cell_ (i := 2) rfl; have f3 := hF.cell_ (i := 3) rfl; have f4 := hF.cell_ (i := 4) rfl; have f5 := hF.cell_ (i := 5) rfl; have x0 : _ = some (Value.int .i64 z) := hS.box.c0)
    | (with_reducible refine wpList_load_opx (by with_unfolding_all rfl) _ rfl _ rfl hS.box hS.hK ?_)
    | (go_at_call 94; (with_reducible refine (cR _).mono ?_); rintro o1 w1 ⟨rfl, hb⟩; replace hS := hS.below hb; clear hb x0 f0 f1 f2 f3 f4 f5)
    | (go_at_call 102; (with_reducible refine (cF _ hS.r).mono ?_); rintro o1 w1 ⟨rfl, h1⟩; replace hS := hS.step h1; clear h1)
    | (go_at_call 50; (with_reducible refine (pkErr_any g s _ _ _ hS.r).mono ?_); rintro o1 w1 ⟨rfl, rfl⟩)
    | (with_reducible refine wpList_build_op0 rfl rfl ?_)
    | (with_reducible refine wpList_store_blk rfl 74 _ _ rfl w.heap.size _ _ 74 hS.res rfl rfl ?c2 ?c3 ?c4 ?_))
  case c2 => rw [opC_size _ _ _ _ _ _ _ rfl]; exact infoOp
  case c3 => exact (opC_size _ _ _ _ _ _ _ rfl).trans (opC_size _ _ _ _ _ _ _ rfl).symm
  case c4 => exact opC_one _ _ _ _ _ _ _
  intro w9 hb9 hg9
  go_wp2
  refine bodyPost_ret (results_cell_row rfl _ _ _ _ _ _ _ rfl hb9 Try.underlying74 rfl (by rw [opC_size _ _ _ _ _ _ _ rfl]; exact infoOp)) rfl ?_
  exact ⟨none, 0, 0, none, 0, 0, rfl, OpR.zero _, hS.st.new hg9 (Nat.le_refl _) hS.hg⟩
end Go.Proofs.Ythpdkdalfjahcaa


/- op: an operation is read, by the document -/
import Derived.Test.YthpdkdalfjahcaaOpG
import Derived.Test.YthpdkdalfjahcaaOp5
import Derived.Test.YthpdkdalfjahcaaOrd
set_option linter.unusedSimpArgs false
set_option linter.unusedVariables false
namespace Go.Proofs.Ythpdkdalfjahcaa
open Go.RowKit Go.Qc Go.Shelf
attribute [local go_sem] txt_size txt_append ib_fold txt_toL

/-- What the document's reading of an operation tells. -/
def RgP (s : List UInt8) (a : Nat) (e : Int) (D : OpD) (w : World) (o : Ending) (w' : World) : Prop :=
  ∃ A n c B m d, o = .returned (.tuple #[.agg #[.string (txt s), .int .i64 a, .int .i64 e], .agg (opC D A n c B m d)]) ∧ OpR w' D A n B m ∧ Below w.heap.size w w'
/-- The document's three boxes. -/
structure RgI (w W : World) (s : List UInt8) (a : Nat) (e : Int) : Prop where
  x : Below w.heap.size w W
  rb : Blk W w.heap.size 69 #[.string (txt s), .int .i64 a, .int .i64 e]
  r1 : Blk W (w.heap.size + 1) 69 #[.string ⟨#[]⟩, .int .i64 0, .int .i64 0]
  r2 : Blk W (w.heap.size + 1 + 1) 74 (opC opZ none 0 0 none 0 0)
  sz : w.heap.size + 1 + 1 < W.heap.size
structure RgS (w W : World) (s : List UInt8) (a : Nat) (e : Int) (ox : Nat) (D : OpD) (A : Option Addr) (n c : Nat) (B : Option Addr) (m d : Nat) : Prop where
  x : Below w.heap.size w W
  rb : Blk W w.heap.size 69 #[.string (txt s), .int .i64 a, .int .i64 e]
  r1 : Blk W (w.heap.size + 1) 69 #[.string ⟨#[]⟩, .int .i64 0, .int .i64 0]
  r2 : Blk W (w.heap.size + 1 + 1) 74 (opC opZ none 0 0 none 0 0)
  box : OpX W ox D A n c B m d
  own1 : W.ownsRow w.heap.size 9 1 (.slice A n c) n (D.o.map strV)
  own2 : W.ownsRow w.heap.size 9 1 (.slice B m d) m (D.n.map strV)
  hox : w.heap.size + 1 + 1 < ox
  hK : D.K.length = 32
theorem RgI.start (s : List UInt8) (a : Nat) (e : Int) (w : World) : RgI w (((w.alloc (.cells #[.string (txt s), .int .i64 a, .int .i64 e] 69)).alloc (.cells #[.string ⟨#[]⟩, .int .i64 0, .int .i64 0] 69)).alloc (.cells (opC opZ none 0 0 none 0 0) 74)) s a e := by
  have k1 : (w.alloc (.cells #[.string (txt s), .int .i64 a, .int .i64 e] 69)).heap.size = w.heap.size + 1 := by simp
  have k2 : ((w.alloc (.cells #[.string (txt s), .int .i64 a, .int .i64 e] 69)).alloc (.cells #[.string ⟨#[]⟩, .int .i64 0, .int .i64 0] 69)).heap.size = w.heap.size + 1 + 1 := by simp
  refine ⟨(((Below.refl _ w).alloc (Nat.le_refl _) _).alloc (by simp) _).alloc (by simp; omega) _, ((Blk.new w _ _).alloc _).alloc _, ?_, ?_, by simp⟩
  · have := (Blk.new (w.alloc (.cells #[.string (txt s), .int .i64 a, .int .i64 e] 69)) 69 #[.string ⟨#[]⟩, .int .i64 0, .int .i64 0]).alloc (.cells (opC opZ none 0 0 none 0 0) 74)
    rwa [k1] at this
  · have := Blk.new ((w.alloc (.cells #[.string (txt s), .int .i64 a, .int .i64 e] 69)).alloc (.cells #[.string ⟨#[]⟩, .int .i64 0, .int .i64 0] 69)) 74 (opC opZ none 0 0 none 0 0)
    rwa [k2] at this
section
variable {w W W' : World} {s : List UInt8} {a : Nat} {e : Int} {ox : Nat} {D : OpD} {A : Option Addr} {n c : Nat} {B : Option Addr} {m d : Nat}
theorem RgI.below (h : RgI w W s a e) (hb : Below W.heap.size W W') : RgI w W' s a e := ⟨h.x.trans (hb.mono h.x.size), h.rb.below hb, h.r1.below hb, h.r2.below hb, Nat.lt_of_lt_of_le h.sz hb.size⟩
theorem RgI.setr {a' : Nat} {e' : Int} (h : RgI w W s a e) (hb : Blk W' w.heap.size 69 #[.string (txt s), .int .i64 a', .int .i64 e']) (hg : W.grownBy W' (some w.heap.size)) : RgI w W' s a' e' :=
  ⟨h.x.grown hg h.x.size (fun k hk => by cases hk; exact Nat.le_refl _), hb, blk_gb h.r1 hg (by omega), blk_gb h.r2 hg (by omega), Nat.lt_of_lt_of_le h.sz hg.size⟩
theorem RgI.open_ (h : RgI w W s a e) (k : Int) : RgS w (W.alloc (.cells (opC ⟨k, [], [], 0, [], [], zeroB, 0⟩ none 0 0 none 0 0) 74)) s a e W.heap.size ⟨k, [], [], 0, [], [], zeroB, 0⟩ none 0 0 none 0 0 :=
  ⟨h.x.alloc h.x.size _, h.rb.alloc _, h.r1.alloc _, h.r2.alloc _, OpX.new _ _ _ _ _ _ _ _, World.ownsRow_nil _ _ _ _, World.ownsRow_nil _ _ _ _, h.sz, rfl⟩
theorem RgS.below (h : RgS w W s a e ox D A n c B m d) (hb : Below W.heap.size W W') : RgS w W' s a e ox D A n c B m d :=
  ⟨h.x.trans (hb.mono h.x.size), h.rb.below hb, h.r1.below hb, h.r2.below hb, h.box.below hb, own_below h.own1 hb, own_below h.own2 hb, h.hox, h.hK⟩
theorem RgS.setr {a' : Nat} {e' : Int} (h : RgS w W s a e ox D A n c B m d) (hb : Blk W' w.heap.size 69 #[.string (txt s), .int .i64 a', .int .i64 e']) (hg : W.grownBy W' (some w.heap.size)) : RgS w W' s a' e' ox D A n c B m d :=
  ⟨h.x.grown hg h.x.size (fun k hk => by cases hk; exact Nat.le_refl _), hb, blk_gb h.r1 hg (by omega), blk_gb h.r2 hg (by omega), ⟨blk_gb h.box.b hg (by have := h.hox; omega)⟩, h.own1.kept hg (.inr (Lib.ownBlock_ne h.own1 h.rb (by decide))), h.own2.kept hg (.inr (Lib.ownBlock_ne h.own2 h.rb (by decide))), h.hox, h.hK⟩
theorem RgS.last {a' : Nat} {e' : Int} (h : RgS w W s a e ox D A n c B m d) (hb : Blk W' (w.heap.size + 1) 69 #[.string (txt s), .int .i64 a', .int .i64 e']) (hg : W.grownBy W' (some (w.heap.size + 1))) :
    Blk W' (w.heap.size + 1) 69 #[.string (txt s), .int .i64 a', .int .i64 e'] ∧ Blk W' (w.heap.size + 1 + 1) 74 (opC opZ none 0 0 none 0 0) ∧ W'.ownsRow w.heap.size 9 1 (.slice A n c) n (D.o.map strV) ∧ W'.ownsRow w.heap.size 9 1 (.slice B m d) m (D.n.map strV) ∧ Below w.heap.size w W' :=
  ⟨hb, blk_gb h.r2 hg (by omega), h.own1.kept hg (.inr (Lib.ownBlock_ne h.own1 h.r1 (by decide))), h.own2.kept hg (.inr (Lib.ownBlock_ne h.own2 h.r1 (by decide))), h.x.grown hg h.x.size (fun k hk => by cases hk; omega)⟩
theorem RgS.grown (h : RgS w W s a e ox D A n c B m d) {cs : Array Value} {D' : OpD} {A' : Option Addr} {n' c' : Nat} {B' : Option Addr} {m' d' : Nat} (hg : W.grownBy W' (some ox)) (hb : Blk W' ox 74 cs) (hcs : cs = opC D' A' n' c' B' m' d') (hK : D'.K.length = 32)
    (o1 : W.ownsRow w.heap.size 9 1 (.slice A' n' c') n' (D'.o.map strV)) (o2 : W.ownsRow w.heap.size 9 1 (.slice B' m' d') m' (D'.n.map strV)) : RgS w W' s a e ox D' A' n' c' B' m' d' :=
  ⟨h.x.grown hg h.x.size (fun k hk => by cases hk; have := h.hox; omega), blk_gb h.rb hg (by have := h.hox; omega), blk_gb h.r1 hg (by have := h.hox; omega), blk_gb h.r2 hg (by have := h.hox; omega), ⟨hcs ▸ hb⟩, o1.kept hg (.inr (Lib.ownBlock_ne o1 h.box.b (by decide))), o2.kept hg (.inr (Lib.ownBlock_ne o2 h.box.b (by decide))), h.hox, hK⟩
theorem RgS.set1 (h : RgS w W s a e ox D A n c B m d) (q : List UInt8) : RgS w (W.setCell ⟨ox, 1, none⟩ (.string (txt q))) s a e ox { D with p := q } A n c B m d :=
  h.grown (gb_set (gb_refl W (some ox)) 1 _) (h.box.b.set 1 _) (opC_set1 D h.hK A n c B m d q) h.hK h.own1 h.own2
theorem RgS.set2 (h : RgS w W s a e ox D A n c B m d) (q : List UInt8) : RgS w (W.setCell ⟨ox, 2, none⟩ (.string (txt q))) s a e ox { D with t := q } A n c B m d :=
  h.grown (gb_set (gb_refl W (some ox)) 2 _) (h.box.b.set 2 _) (opC_set2 D h.hK A n c B m d q) h.hK h.own1 h.own2
theorem RgS.set3 (h : RgS w W s a e ox D A n c B m d) (q : Int) : RgS w (W.setCell ⟨ox, 3, none⟩ (.int .i64 q)) s a e ox { D with a := q } A n c B m d :=
  h.grown (gb_set (gb_refl W (some ox)) 3 _) (h.box.b.set 3 _) (opC_set3 D h.hK A n c B m d q) h.hK h.own1 h.own2
theorem RgS.set38 (h : RgS w W s a e ox D A n c B m d) (q : Int) : RgS w (W.setCell ⟨ox, 38, none⟩ (.int .i64 q)) s a e ox { D with d := q } A n c B m d :=
  h.grown (gb_set (gb_refl W (some ox)) 38 _) (h.box.b.set 38 _) (opC_set38 D h.hK A n c B m d q) h.hK h.own1 h.own2
theorem RgS.set4 (h : RgS w W s a e ox D A n c B m d) (q : List (List UInt8)) (A2 : Option Addr) (n2 c2 : Nat) (ho : W.ownsRow w.heap.size 9 1 (.slice A2 n2 c2) n2 (q.map strV)) : RgS w (W.setCell ⟨ox, 4, none⟩ (.slice A2 n2 c2)) s a e ox { D with o := q } A2 n2 c2 B m d :=
  h.grown (gb_set (gb_refl W (some ox)) 4 _) (h.box.b.set 4 _) (opC_set4 D h.hK A n c B m d q A2 n2 c2) h.hK ho h.own2
theorem RgS.set5 (h : RgS w W s a e ox D A n c B m d) (q : List (List UInt8)) (B2 : Option Addr) (m2 d2 : Nat) (ho : W.ownsRow w.heap.size 9 1 (.slice B2 m2 d2) m2 (q.map strV)) : RgS w (W.setCell ⟨ox, 5, none⟩ (.slice B2 m2 d2)) s a e ox { D with n := q } A n c B2 m2 d2 :=
  h.grown (gb_set (gb_refl W (some ox)) 5 _) (h.box.b.set 5 _) (opC_set5 D h.hK A n c B m d q B2 m2 d2) h.hK h.own1 ho
theorem RgS.setK (h : RgS w W s a e ox D A n c B m d) (q : List UInt8) (hq : q.length = 32) (hb : Blk W' ox 74 (over (opC D A n c B m d) 6 (q.map u8v))) (hg : W.grownBy W' (some ox)) : RgS w W' s a e ox { D with K := q } A n c B m d :=
  h.grown hg hb (opC_setK D h.hK A n c B m d q hq) hq h.own1 h.own2
end
end Go.Proofs.Ythpdkdalfjahcaa

namespace Go.Proofs.Ythpdkdalfjahcaa
open Go.RowKit Go.Qc Go.Shelf
attribute [local go_sem] txt_size txt_append ib_fold txt_toL

set_option maxRecDepth 100000 in
set_option maxHeartbeats 40000000 in
theorem rg_1_i (s : List UInt8) (a : Nat) (e : Int) (w : World) (a0 : Nat) (e0 : Int) (cB : ∀ W, Calls Try.prog 103 #[.agg #[.string (txt s), .int .i64 a, .int .i64 e]] W fun o w' => o = .returned (.tuple #[.agg #[.string (txt s), .int .i64 a0, .int .i64 e0], .int .i64 1]) ∧ Below W.heap.size W w') (P : List UInt8) (a1 : Nat) (e1 : Int) (lP : P.length ≤ 200) (c1 : ∀ W, Calls Try.prog 105 #[.agg #[.string (txt s), .int .i64 a0, .int .i64 e0], .int .i64 200] W fun o w' => o = .returned (.tuple #[.agg #[.string (txt s), .int .i64 a1, .int .i64 e1], .string (txt P)]) ∧ Below W.heap.size W w') (E : Int) (hE : opE ⟨1, P, [], 0, [], [], zeroB, 0⟩ = E) (hE0 : E ≠ 0) :
    Calls Try.prog 58 #[.agg #[.string (txt s), .int .i64 a, .int .i64 e]] w fun o w' => RgP s a1 (stopB e1 3) opZ w o w' := by
  have hI := RgI.start s a e w
  have cR : ∀ (W : World) , Calls Try.prog 54 #[.agg (opC ⟨1, P, [], 0, [], [], zeroB, 0⟩ none 0 0 none 0 0)] W fun o w' => o = .returned (.int .i64 E) ∧ Below W.heap.size W w' := fun W => by
    have q := rr13_any ⟨1, P, [], 0, [], [], zeroB, 0⟩ rfl none 0 0 rfl (by decide) none 0 0 rfl (by decide) (Nat.le_trans lP (by decide)) (by simp) (by simp) (by simp) W (Rd.nil_ _ _) (Rd.nil_ _ _)
    rwa [hE] at q
  have hEn : (E != 0) = true := by simpa using hE0
  have hst : stopB e1 3 ≠ 0 := by unfold stopB; split <;> first | decide | assumption
  obtain ⟨ef, hef⟩ : ∃ ef, ef = stopB e1 3 := ⟨_, rfl⟩
  have hen : (ef != 0) = true := by rw [hef]; simpa using hst
  have cF : ∀ W, Calls Try.prog 104 #[.agg #[.string (txt s), .int .i64 a1, .int .i64 e1], .int .i64 3] W fun o w' => o = .returned (.agg #[.string (txt s), .int .i64 a1, .int .i64 ef]) ∧ Below W.heap.size W w' := fun W => by rw [hef]; exact rFail_any s a1 e1 3 W
  rw [← hef]
  clear hef hst
  clear hE
  have hIS : ∀ A n c B m d, (Try.prog.info? 74).map (·.size) = some (opC opZ A n c B m d).size := fun _ _ _ _ _ _ => by rw [opC_size _ _ _ _ _ _ _ rfl]; exact infoOp
  have hOS : ∀ A n c B m d, (opC opZ none 0 0 none 0 0).size = (opC opZ A n c B m d).size := fun _ _ _ _ _ _ => (opC_size _ _ _ _ _ _ _ rfl).trans (opC_size _ _ _ _ _ _ _ rfl).symm
  go_enter Try.func58, Try.ntmps58
  go_wp2_with (fail)
  rw [← opC_lit 0, show (⟨0, [], [], 0, [], [], zeroB, 0⟩ : OpD) = opZ from rfl]
  generalize ((w.alloc (.cells #[.string (txt s), .int .i64 a, .int .i64 e] 69)).alloc (.cells #[.string ⟨#[]⟩, .int .i64 0, .int .i64 0] 69)).alloc (.cells (opC opZ none 0 0 none 0 0) 74) = W0 at *
  refine (cB W0).mono ?_
  rintro o1 w1 ⟨rfl, h1⟩
  replace hI := hI.below h1
  clear h1 cB
  go_wp2_with (first
    | ((with_reducible refine wpList_store_rv rfl _ _ rfl w.heap.size _ _ _ _ hI.rb rfl rfl rfl ?_); intro v1 x1 y1; replace hI := hI.setr x1 y1; have hS := hI.open_ 1; clear x1 y1; have x0 := hS.box.c0; have k0 := hS.rb.cell_ (i := 0) rfl; have k1 := hS.rb.cell_ (i := 1) rfl; have k2 := hS.rb.cell_ (i := 2) rfl)
    | (with_reducible refine wpList_build_op rfl _ rfl 1 (by with_unfolding_all rfl) ?_)
    | (with_reducible refine wpList_store_new rfl 74 _ _ rfl (opC ⟨1, [], [], 0, [], [], zeroB, 0⟩ none 0 0 none 0 0) rfl rfl ?s2 ?s3 (opC_one _ _ _ _ _ _ _) ?_))
  case s2 => first | (rw [opC_size _ _ _ _ _ _ _ rfl]; exact infoOp) | (obtain ⟨i, hi, hz⟩ := Option.map_eq_some_iff.1 infoOp; exact ⟨i, hi, by rw [opC_size _ _ _ _ _ _ _ rfl]; exact hz⟩)
  case s3 => first | done | (rw [opC_size _ _ _ _ _ _ _ rfl]; done) | (rw [opC_size _ _ _ _ _ _ _ rfl]; rfl)
  clear x0 k0 k1 k2 hI
  generalize v1.alloc (.cells (opC ⟨1, [], [], 0, [], [], zeroB, 0⟩ none 0 0 none 0 0) 74) = W1 at *
  generalize v1.heap.size = ox at *
  have k0 := hS.rb.cell_ (i := 0) rfl
  have k1 := hS.rb.cell_ (i := 1) rfl
  have k2 := hS.rb.cell_ (i := 2) rfl
  go_wp2_with (first
    | (go_at_call 105; (with_reducible refine (c1 _).mono ?_); rintro o1 w1 ⟨rfl, hb⟩; replace hS := hS.below hb; clear hb; clear k0 k1 k2)
    | ((with_reducible refine wpList_store_rv rfl _ _ rfl w.heap.size _ _ a1 e1 hS.rb rfl rfl rfl ?_); intro v1 x1 y1; replace hS := hS.setr x1 y1; clear x1 y1; have y := hS.box.c1; have y' := hS.box.b.frozen 1; replace hS : RgS w _ s _ _ ox ⟨1, P, [], 0, [], [], zeroB, 0⟩ none 0 0 none 0 0 := hS.set1 P; have k0 := hS.rb.cell_ (i := 0) rfl; have k1 := hS.rb.cell_ (i := 1) rfl; have k2 := hS.rb.cell_ (i := 2) rfl)
    | (with_reducible refine wpList_load_opx (by with_unfolding_all rfl) _ rfl _ rfl hS.box hS.hK ?_)
    | (go_at_call 54; (with_reducible refine (cR _).mono ?_); rintro o1 w1 ⟨rfl, hb⟩; replace hS := hS.below hb; clear hb; clear k0 k1 k2; have k0 := hS.rb.cell_ (i := 0) rfl; have k1 := hS.rb.cell_ (i := 1) rfl; have k2 := hS.rb.cell_ (i := 2) rfl)
    | (go_at_call 104; (with_reducible refine (cF _).mono ?_); rintro o1 w1 ⟨rfl, hb⟩; replace hS := hS.below hb; clear hb; clear k0 k1 k2)
    | ((with_reducible refine wpList_store_rv rfl _ _ rfl w.heap.size _ _ _ ef hS.rb rfl rfl rfl ?_); intro v1 x1 y1; replace hS := hS.setr x1 y1; clear x1 y1; have k0 := hS.rb.cell_ (i := 0) rfl; have k1 := hS.rb.cell_ (i := 1) rfl; have k2 := hS.rb.cell_ (i := 2) rfl)
    | (with_reducible refine wpList_build_op0 rfl rfl ?_)
    | ((with_reducible refine wpList_store_rv rfl _ _ rfl (w.heap.size + 1) _ _ _ _ hS.r1 rfl rfl rfl ?_); intro v8 x8 y8; have hT := hS.last x8 y8; have hX8 := blk_gb hS.box.b y8 (by have := hS.hox; omega); clear k0 k1 k2)
    | (with_reducible refine wpList_store_blk rfl 74 _ _ rfl (w.heap.size + 1 + 1) _ _ 74 hT.2.1 rfl rfl (hIS _ _ _ _ _ _) (hOS _ _ _ _ _ _) (opC_one _ _ _ _ _ _ _) ?_))
  intro w9 hb9 hg9
  go_wp2
  have hb8 := blk_gb hT.1 hg9 (by omega)
  refine bodyPost_ret (results_rows rfl _ _ _ _ _ _ _ _ _ _ _ _ rfl hb8 Try.underlying69 rfl infoR3 rfl hb9 Try.underlying74 rfl (hIS _ _ _ _ _ _)) rfl ?_
  exact ⟨none, 0, 0, none, 0, 0, rfl, OpR.zero _, hT.2.2.2.2.grown hg9 hT.2.2.2.2.size (fun k hk => by cases hk; omega)⟩

set_option maxRecDepth 100000 in
set_option maxHeartbeats 40000000 in
theorem rg_1_ii (s : List UInt8) (a : Nat) (e : Int) (w : World) (a0 : Nat) (e0 : Int) (cB : ∀ W, Calls Try.prog 103 #[.agg #[.string (txt s), .int .i64 a, .int .i64 e]] W fun o w' => o = .returned (.tuple #[.agg #[.string (txt s), .int .i64 a0, .int .i64 e0], .int .i64 1]) ∧ Below W.heap.size W w') (P : List UInt8) (a1 : Nat) (e1 : Int) (lP : P.length ≤ 200) (c1 : ∀ W, Calls Try.prog 105 #[.agg #[.string (txt s), .int .i64 a0, .int .i64 e0], .int .i64 200] W fun o w' => o = .returned (.tuple #[.agg #[.string (txt s), .int .i64 a1, .int .i64 e1], .string (txt P)]) ∧ Below W.heap.size W w') (hE : opE ⟨1, P, [], 0, [], [], zeroB, 0⟩ = 0) (he : e1 ≠ 0) :
    Calls Try.prog 58 #[.agg #[.string (txt s), .int .i64 a, .int .i64 e]] w fun o w' => RgP s a1 e1 opZ w o w' := by
  have hI := RgI.start s a e w
  have cR : ∀ (W : World) , Calls Try.prog 54 #[.agg (opC ⟨1, P, [], 0, [], [], zeroB, 0⟩ none 0 0 none 0 0)] W fun o w' => o = .returned (.int .i64 0) ∧ Below W.heap.size W w' := fun W => by
    have q := rr13_any ⟨1, P, [], 0, [], [], zeroB, 0⟩ rfl none 0 0 rfl (by decide) none 0 0 rfl (by decide) (Nat.le_trans lP (by decide)) (by simp) (by simp) (by simp) W (Rd.nil_ _ _) (Rd.nil_ _ _)
    rwa [hE] at q
  have hen : (e1 != 0) = true := by simpa using he
  clear hE
  have hIS : ∀ A n c B m d, (Try.prog.info? 74).map (·.size) = some (opC opZ A n c B m d).size := fun _ _ _ _ _ _ => by rw [opC_size _ _ _ _ _ _ _ rfl]; exact infoOp
  have hOS : ∀ A n c B m d, (opC opZ none 0 0 none 0 0).size = (opC opZ A n c B m d).size := fun _ _ _ _ _ _ => (opC_size _ _ _ _ _ _ _ rfl).trans (opC_size _ _ _ _ _ _ _ rfl).symm
  go_enter Try.func58, Try.ntmps58
  go_wp2_with (fail)
  rw [← opC_lit 0, show (⟨0, [], [], 0, [], [], zeroB, 0⟩ : OpD) = opZ from rfl]
  generalize ((w.alloc (.cells #[.string (txt s), .int .i64 a, .int .i64 e] 69)).alloc (.cells #[.string ⟨#[]⟩, .int .i64 0, .int .i64 0] 69)).alloc (.cells (opC opZ none 0 0 none 0 0) 74) = W0 at *
  refine (cB W0).mono ?_
  rintro o1 w1 ⟨rfl, h1⟩
  replace hI := hI.below h1
  clear h1 cB
  go_wp2_with (first
    | ((with_reducible refine wpList_store_rv rfl _ _ rfl w.heap.size _ _ _ _ hI.rb rfl rfl rfl ?_); intro v1 x1 y1; replace hI := hI.setr x1 y1; have hS := hI.open_ 1; clear x1 y1; have x0 := hS.box.c0; have k0 := hS.rb.cell_ (i := 0) rfl; have k1 := hS.rb.cell_ (i := 1) rfl; have k2 := hS.rb.cell_ (i := 2) rfl)
    | (with_reducible refine wpList_build_op rfl _ rfl 1 (by with_unfolding_all rfl) ?_)
    | (with_reducible refine wpList_store_new rfl 74 _ _ rfl (opC ⟨1, [], [], 0, [], [], zeroB, 0⟩ none 0 0 none 0 0) rfl rfl ?s2 ?s3 (opC_one _ _ _ _ _ _ _) ?_))
  case s2 => first | (rw [opC_size _ _ _ _ _ _ _ rfl]; exact infoOp) | (obtain ⟨i, hi, hz⟩ := Option.map_eq_some_iff.1 infoOp; exact ⟨i, hi, by rw [opC_size _ _ _ _ _ _ _ rfl]; exact hz⟩)
  case s3 => first | done | (rw [opC_size _ _ _ _ _ _ _ rfl]; done) | (rw [opC_size _ _ _ _ _ _ _ rfl]; rfl)
  clear x0 k0 k1 k2 hI
  generalize v1.alloc (.cells (opC ⟨1, [], [], 0, [], [], zeroB, 0⟩ none 0 0 none 0 0) 74) = W1 at *
  generalize v1.heap.size = ox at *
  have k0 := hS.rb.cell_ (i := 0) rfl
  have k1 := hS.rb.cell_ (i := 1) rfl
  have k2 := hS.rb.cell_ (i := 2) rfl
  go_wp2_with (first
    | (go_at_call 105; (with_reducible refine (c1 _).mono ?_); rintro o1 w1 ⟨rfl, hb⟩; replace hS := hS.below hb; clear hb; clear k0 k1 k2)
    | ((with_reducible refine wpList_store_rv rfl _ _ rfl w.heap.size _ _ a1 e1 hS.rb rfl rfl rfl ?_); intro v1 x1 y1; replace hS := hS.setr x1 y1; clear x1 y1; have y := hS.box.c1; have y' := hS.box.b.frozen 1; replace hS : RgS w _ s _ _ ox ⟨1, P, [], 0, [], [], zeroB, 0⟩ none 0 0 none 0 0 := hS.set1 P; have k0 := hS.rb.cell_ (i := 0) rfl; have k1 := hS.rb.cell_ (i := 1) rfl; have k2 := hS.rb.cell_ (i := 2) rfl)
    | (with_reducible refine wpList_load_opx (by with_unfolding_all rfl) _ rfl _ rfl hS.box hS.hK ?_)
    | (go_at_call 54; (with_reducible refine (cR _).mono ?_); rintro o1 w1 ⟨rfl, hb⟩; replace hS := hS.below hb; clear hb; clear k0 k1 k2; have k0 := hS.rb.cell_ (i := 0) rfl; have k1 := hS.rb.cell_ (i := 1) rfl; have k2 := hS.rb.cell_ (i := 2) rfl)
    | (with_reducible refine wpList_build_op0 rfl rfl ?_)
    | ((with_reducible refine wpList_store_rv rfl _ _ rfl (w.heap.size + 1) _ _ _ _ hS.r1 rfl rfl rfl ?_); intro v8 x8 y8; have hT := hS.last x8 y8; have hX8 := blk_gb hS.box.b y8 (by have := hS.hox; omega); clear k0 k1 k2)
    | (with_reducible refine wpList_store_blk rfl 74 _ _ rfl (w.heap.size + 1 + 1) _ _ 74 hT.2.1 rfl rfl (hIS _ _ _ _ _ _) (hOS _ _ _ _ _ _) (opC_one _ _ _ _ _ _ _) ?_))
  intro w9 hb9 hg9
  go_wp2
  have hb8 := blk_gb hT.1 hg9 (by omega)
  refine bodyPost_ret (results_rows rfl _ _ _ _ _ _ _ _ _ _ _ _ rfl hb8 Try.underlying69 rfl infoR3 rfl hb9 Try.underlying74 rfl (hIS _ _ _ _ _ _)) rfl ?_
  exact ⟨none, 0, 0, none, 0, 0, rfl, OpR.zero _, hT.2.2.2.2.grown hg9 hT.2.2.2.2.size (fun k hk => by cases hk; omega)⟩

set_option maxRecDepth 100000 in
set_option maxHeartbeats 40000000 in
theorem rg_1_iii (s : List UInt8) (a : Nat) (e : Int) (w : World) (a0 : Nat) (e0 : Int) (cB : ∀ W, Calls Try.prog 103 #[.agg #[.string (txt s), .int .i64 a, .int .i64 e]] W fun o w' => o = .returned (.tuple #[.agg #[.string (txt s), .int .i64 a0, .int .i64 e0], .int .i64 1]) ∧ Below W.heap.size W w') (P : List UInt8) (a1 : Nat) (e1 : Int) (lP : P.length ≤ 200) (c1 : ∀ W, Calls Try.prog 105 #[.agg #[.string (txt s), .int .i64 a0, .int .i64 e0], .int .i64 200] W fun o w' => o = .returned (.tuple #[.agg #[.string (txt s), .int .i64 a1, .int .i64 e1], .string (txt P)]) ∧ Below W.heap.size W w') (hE : opE ⟨1, P, [], 0, [], [], zeroB, 0⟩ = 0) (he : e1 = 0) :
    Calls Try.prog 58 #[.agg #[.string (txt s), .int .i64 a, .int .i64 e]] w fun o w' => RgP s a1 e1 (⟨1, P, [], 0, [], [], zeroB, 0⟩ : OpD) w o w' := by
  have hI := RgI.start s a e w
  have cR : ∀ (W : World) , Calls Try.prog 54 #[.agg (opC ⟨1, P, [], 0, [], [], zeroB, 0⟩ none 0 0 none 0 0)] W fun o w' => o = .returned (.int .i64 0) ∧ Below W.heap.size W w' := fun W => by
    have q := rr13_any ⟨1, P, [], 0, [], [], zeroB, 0⟩ rfl none 0 0 rfl (by decide) none 0 0 rfl (by decide) (Nat.le_trans lP (by decide)) (by simp) (by simp) (by simp) W (Rd.nil_ _ _) (Rd.nil_ _ _)
    rwa [hE] at q
  subst he
  clear hE
  have hIS : ∀ A n c B m d, (Try.prog.info? 74).map (·.size) = some (opC ⟨1, P, [], 0, [], [], zeroB, 0⟩ A n c B m d).size := fun _ _ _ _ _ _ => by rw [opC_size _ _ _ _ _ _ _ rfl]; exact infoOp
  have hOS : ∀ A n c B m d, (opC opZ none 0 0 none 0 0).size = (opC ⟨1, P, [], 0, [], [], zeroB, 0⟩ A n c B m d).size := fun _ _ _ _ _ _ => (opC_size _ _ _ _ _ _ _ rfl).trans (opC_size _ _ _ _ _ _ _ rfl).symm
  go_enter Try.func58, Try.ntmps58
  go_wp2_with (fail)
  rw [← opC_lit 0, show (⟨0, [], [], 0, [], [], zeroB, 0⟩ : OpD) = opZ from rfl]
  generalize ((w.alloc (.cells #[.string (txt s), .int .i64 a, .int .i64 e] 69)).alloc (.cells #[.string ⟨#[]⟩, .int .i64 0, .int .i64 0] 69)).alloc (.cells (opC opZ none 0 0 none 0 0) 74) = W0 at *
  refine (cB W0).mono ?_
  rintro o1 w1 ⟨rfl, h1⟩
  replace hI := hI.below h1
  clear h1 cB
  go_wp2_with (first
    | ((with_reducible refine wpList_store_rv rfl _ _ rfl w.heap.size _ _ _ _ hI.rb rfl rfl rfl ?_); intro v1 x1 y1; replace hI := hI.setr x1 y1; have hS := hI.open_ 1; clear x1 y1; have x0 := hS.box.c0; have k0 := hS.rb.cell_ (i := 0) rfl; have k1 := hS.rb.cell_ (i := 1) rfl; have k2 := hS.rb.cell_ (i := 2) rfl)
    | (with_reducible refine wpList_build_op rfl _ rfl 1 (by with_unfolding_all rfl) ?_)
    | (with_reducible refine wpList_store_new rfl 74 _ _ rfl (opC ⟨1, [], [], 0, [], [], zeroB, 0⟩ none 0 0 none 0 0) rfl rfl ?s2 ?s3 (opC_one _ _ _ _ _ _ _) ?_))
  case s2 => first | (rw [opC_size _ _ _ _ _ _ _ rfl]; exact infoOp) | (obtain ⟨i, hi, hz⟩ := Option.map_eq_some_iff.1 infoOp; exact ⟨i, hi, by rw [opC_size _ _ _ _ _ _ _ rfl]; exact hz⟩)
  case s3 => first | done | (rw [opC_size _ _ _ _ _ _ _ rfl]; done) | (rw [opC_size _ _ _ _ _ _ _ rfl]; rfl)
  clear x0 k0 k1 k2 hI
  generalize v1.alloc (.cells (opC ⟨1, [], [], 0, [], [], zeroB, 0⟩ none 0 0 none 0 0) 74) = W1 at *
  generalize v1.heap.size = ox at *
  have k0 := hS.rb.cell_ (i := 0) rfl
  have k1 := hS.rb.cell_ (i := 1) rfl
  have k2 := hS.rb.cell_ (i := 2) rfl
  go_wp2_with (first
    | (go_at_call 105; (with_reducible refine (c1 _).mono ?_); rintro o1 w1 ⟨rfl, hb⟩; replace hS := hS.below hb; clear hb; clear k0 k1 k2)
    | ((with_reducible refine wpList_store_rv rfl _ _ rfl w.heap.size _ _ a1 0 hS.rb rfl rfl rfl ?_); intro v1 x1 y1; replace hS := hS.setr x1 y1; clear x1 y1; have y := hS.box.c1; have y' := hS.box.b.frozen 1; replace hS : RgS w _ s _ _ ox ⟨1, P, [], 0, [], [], zeroB, 0⟩ none 0 0 none 0 0 := hS.set1 P; have k0 := hS.rb.cell_ (i := 0) rfl; have k1 := hS.rb.cell_ (i := 1) rfl; have k2 := hS.rb.cell_ (i := 2) rfl)
    | (with_reducible refine wpList_load_opx (by with_unfolding_all rfl) _ rfl _ rfl hS.box hS.hK ?_)
    | (go_at_call 54; (with_reducible refine (cR _).mono ?_); rintro o1 w1 ⟨rfl, hb⟩; replace hS := hS.below hb; clear hb; clear k0 k1 k2; have k0 := hS.rb.cell_ (i := 0) rfl; have k1 := hS.rb.cell_ (i := 1) rfl; have k2 := hS.rb.cell_ (i := 2) rfl))
  refine wp_region_each (by kernel_rfl) [[0, 1, 2, 3], [0, 2, 1, 3], [1, 0, 2, 3]] (by kernel_rfl) (by kernel_rfl) ?_
  replace hS := hS.below (below_drew1 _)
  clear k0 k1 k2
  generalize w1.drew = W5 at *
  have k0 := hS.rb.cell_ (i := 0) rfl
  have k1 := hS.rb.cell_ (i := 1) rfl
  have k2 := hS.rb.cell_ (i := 2) rfl
  intro os hos
  simp [listsOf] at hos
  rcases hos with rfl | rfl | rfl
  all_goals
    go_wp2_with (first
      | (with_reducible refine wpList_load_opx (by with_unfolding_all rfl) _ rfl _ rfl hS.box hS.hK ?_)
      | (with_reducible refine wpList_load_opx (by with_unfolding_all rfl) _ rfl _ rfl (OpX.mk hX8) hS.hK ?_)
      | ((with_reducible refine wpList_store_rv rfl _ _ rfl (w.heap.size + 1) _ _ _ _ hS.r1 rfl rfl rfl ?_); intro v8 x8 y8; have hT := hS.last x8 y8; have hX8 := blk_gb hS.box.b y8 (by have := hS.hox; omega); clear k0 k1 k2)
      | (with_reducible refine wpList_store_blk rfl 74 _ _ rfl (w.heap.size + 1 + 1) _ _ 74 hT.2.1 rfl rfl (hIS _ _ _ _ _ _) (hOS _ _ _ _ _ _) (opC_one _ _ _ _ _ _ _) ?_))
    intro w9 hb9 hg9
    go_wp2
    have hb8 := blk_gb hT.1 hg9 (by omega)
    refine bodyPost_ret (results_rows rfl _ _ _ _ _ _ _ _ _ _ _ _ rfl hb8 Try.underlying69 rfl infoR3 rfl hb9 Try.underlying74 rfl (hIS _ _ _ _ _ _)) rfl ?_
    have ow1 := hT.2.2.1.kept hg9 (.inr (Lib.ownBlock_ne hT.2.2.1 hT.2.1 (by decide)))
    have ow2 := hT.2.2.2.1.kept hg9 (.inr (Lib.ownBlock_ne hT.2.2.2.1 hT.2.1 (by decide)))
    refine ⟨_, _, _, _, _, _, rfl, ⟨(own_rd ow1).1, ?_, ?_, (own_rd ow2).1, ?_, ?_, (own_rd ow1).2, (own_rd ow2).2, hS.hK, ?_, ?_⟩, hT.2.2.2.2.grown hg9 hT.2.2.2.2.size (fun k hk => by cases hk; omega)⟩
    · decide
    · simp
    · decide
    · simp
    · exact Nat.le_trans lP (by decide)
    · simp

set_option maxRecDepth 100000 in
set_option maxHeartbeats 40000000 in
theorem rg_2_i (s : List UInt8) (a : Nat) (e : Int) (w : World) (a0 : Nat) (e0 : Int) (cB : ∀ W, Calls Try.prog 103 #[.agg #[.string (txt s), .int .i64 a, .int .i64 e]] W fun o w' => o = .returned (.tuple #[.agg #[.string (txt s), .int .i64 a0, .int .i64 e0], .int .i64 2]) ∧ Below W.heap.size W w') (P : List UInt8) (a1 : Nat) (e1 : Int) (lP : P.length ≤ 200) (c1 : ∀ W, Calls Try.prog 105 #[.agg #[.string (txt s), .int .i64 a0, .int .i64 e0], .int .i64 200] W fun o w' => o = .returned (.tuple #[.agg #[.string (txt s), .int .i64 a1, .int .i64 e1], .string (txt P)]) ∧ Below W.heap.size W w') (O : List (List UInt8)) (a2 : Nat) (e2 : Int) (lO : O.length ≤ 1000 ∧ ∀ y ∈ O, y.length ≤ 200) (c2 : ∀ W, Calls Try.prog 106 #[.agg #[.string (txt s), .int .i64 a1, .int .i64 e1], .int .i64 1000, .int .i64 200] W fun o w' => ∃ v, o = .returned (.tuple #[.agg #[.string (txt s), .int .i64 a2, .int .i64 e2], v]) ∧ w'.ownsRow W.heap.size 9 1 v O.length (O.map strV) ∧ Below W.heap.size W w') (E : Int) (hE : opE ⟨2, P, [], 0, O, [], zeroB, 0⟩ = E) (hE0 : E ≠ 0) :
    Calls Try.prog 58 #[.agg #[.string (txt s), .int .i64 a, .int .i64 e]] w fun o w' => RgP s a2 (stopB e2 3) opZ w o w' := by
  have hI := RgI.start s a e w
  have cR : ∀ (W : World) (A1 : Option Addr) (c1 : Nat) (h1 : Rd W A1 (O.map strV)), Calls Try.prog 54 #[.agg (opC ⟨2, P, [], 0, O, [], zeroB, 0⟩ A1 O.length c1 none 0 0)] W fun o w' => o = .returned (.int .i64 E) ∧ Below W.heap.size W w' := fun W A1 c1 h1 => by
    have q := rr13_any ⟨2, P, [], 0, O, [], zeroB, 0⟩ rfl A1 O.length c1 rfl (by omega) none 0 0 rfl (by decide) (Nat.le_trans lP (by decide)) (by simp) (fun y hy => Nat.le_trans (lO.2 y hy) (by decide)) (by simp) W h1 (Rd.nil_ _ _)
    rwa [hE] at q
  have hEn : (E != 0) = true := by simpa using hE0
  have hst : stopB e2 3 ≠ 0 := by unfold stopB; split <;> first | decide | assumption
  obtain ⟨ef, hef⟩ : ∃ ef, ef = stopB e2 3 := ⟨_, rfl⟩
  have hen : (ef != 0) = true := by rw [hef]; simpa using hst
  have cF : ∀ W, Calls Try.prog 104 #[.agg #[.string (txt s), .int .i64 a2, .int .i64 e2], .int .i64 3] W fun o w' => o = .returned (.agg #[.string (txt s), .int .i64 a2, .int .i64 ef]) ∧ Below W.heap.size W w' := fun W => by rw [hef]; exact rFail_any s a2 e2 3 W
  rw [← hef]
  clear hef hst
  clear hE
  have hIS : ∀ A n c B m d, (Try.prog.info? 74).map (·.size) = some (opC opZ A n c B m d).size := fun _ _ _ _ _ _ => by rw [opC_size _ _ _ _ _ _ _ rfl]; exact infoOp
  have hOS : ∀ A n c B m d, (opC opZ none 0 0 none 0 0).size = (opC opZ A n c B m d).size := fun _ _ _ _ _ _ => (opC_size _ _ _ _ _ _ _ rfl).trans (opC_size _ _ _ _ _ _ _ rfl).symm
  go_enter Try.func58, Try.ntmps58
  go_wp2_with (fail)
  rw [← opC_lit 0, show (⟨0, [], [], 0, [], [], zeroB, 0⟩ : OpD) = opZ from rfl]
  generalize ((w.alloc (.cells #[.string (txt s), .int .i64 a, .int .i64 e] 69)).alloc (.cells #[.string ⟨#[]⟩, .int .i64 0, .int .i64 0] 69)).alloc (.cells (opC opZ none 0 0 none 0 0) 74) = W0 at *
  refine (cB W0).mono ?_
  rintro o1 w1 ⟨rfl, h1⟩
  replace hI := hI.below h1
  clear h1 cB
  go_wp2_with (first
    | ((with_reducible refine wpList_store_rv rfl _ _ rfl w.heap.size _ _ _ _ hI.rb rfl rfl rfl ?_); intro v1 x1 y1; replace hI := hI.setr x1 y1; have hS := hI.open_ 2; clear x1 y1; have x0 := hS.box.c0; have k0 := hS.rb.cell_ (i := 0) rfl; have k1 := hS.rb.cell_ (i := 1) rfl; have k2 := hS.rb.cell_ (i := 2) rfl)
    | (with_reducible refine wpList_build_op rfl _ rfl 2 (by with_unfolding_all rfl) ?_)
    | (with_reducible refine wpList_store_new rfl 74 _ _ rfl (opC ⟨2, [], [], 0, [], [], zeroB, 0⟩ none 0 0 none 0 0) rfl rfl ?s2 ?s3 (opC_one _ _ _ _ _ _ _) ?_))
  case s2 => first | (rw [opC_size _ _ _ _ _ _ _ rfl]; exact infoOp) | (obtain ⟨i, hi, hz⟩ := Option.map_eq_some_iff.1 infoOp; exact ⟨i, hi, by rw [opC_size _ _ _ _ _ _ _ rfl]; exact hz⟩)
  case s3 => first | done | (rw [opC_size _ _ _ _ _ _ _ rfl]; done) | (rw [opC_size _ _ _ _ _ _ _ rfl]; rfl)
  clear x0 k0 k1 k2 hI
  generalize v1.alloc (.cells (opC ⟨2, [], [], 0, [], [], zeroB, 0⟩ none 0 0 none 0 0) 74) = W1 at *
  generalize v1.heap.size = ox at *
  have k0 := hS.rb.cell_ (i := 0) rfl
  have k1 := hS.rb.cell_ (i := 1) rfl
  have k2 := hS.rb.cell_ (i := 2) rfl
  go_wp2_with (first
    | (go_at_call 105; (with_reducible refine (c1 _).mono ?_); rintro o1 w1 ⟨rfl, hb⟩; replace hS := hS.below hb; clear hb; clear k0 k1 k2)
    | ((with_reducible refine wpList_store_rv rfl _ _ rfl w.heap.size _ _ a1 e1 hS.rb rfl rfl rfl ?_); intro v1 x1 y1; replace hS := hS.setr x1 y1; clear x1 y1; have y := hS.box.c1; have y' := hS.box.b.frozen 1; replace hS : RgS w _ s _ _ ox ⟨2, P, [], 0, [], [], zeroB, 0⟩ none 0 0 none 0 0 := hS.set1 P; have k0 := hS.rb.cell_ (i := 0) rfl; have k1 := hS.rb.cell_ (i := 1) rfl; have k2 := hS.rb.cell_ (i := 2) rfl)
    | (go_at_call 106; (with_reducible refine (c2 _).mono ?_); rintro o1 w1 ⟨v, rfl, ho, hb⟩; obtain ⟨A1, c1, rfl⟩ := own_str ho; replace ho := own_base ho hS.x.size; replace hS := hS.below hb; clear hb; clear k0 k1 k2)
    | ((with_reducible refine wpList_store_rv rfl _ _ rfl w.heap.size _ _ a2 e2 hS.rb rfl rfl rfl ?_); intro v1 x1 y1; replace ho := ho.kept y1 (.inr (Lib.ownBlock_ne ho hS.rb (by decide))); replace hS := hS.setr x1 y1; clear x1 y1; have y := hS.box.c4; have y' := hS.box.b.frozen 4; replace hS : RgS w _ s _ _ ox ⟨2, P, [], 0, O, [], zeroB, 0⟩ A1 O.length c1 none 0 0 := hS.set4 O A1 O.length c1 ho; have k0 := hS.rb.cell_ (i := 0) rfl; have k1 := hS.rb.cell_ (i := 1) rfl; have k2 := hS.rb.cell_ (i := 2) rfl)
    | (with_reducible refine wpList_load_opx (by with_unfolding_all rfl) _ rfl _ rfl hS.box hS.hK ?_)
    | (go_at_call 54; (with_reducible refine (cR _ _ _ (own_rd hS.own1).2).mono ?_); rintro o1 w1 ⟨rfl, hb⟩; replace hS := hS.below hb; clear hb; clear k0 k1 k2; have k0 := hS.rb.cell_ (i := 0) rfl; have k1 := hS.rb.cell_ (i := 1) rfl; have k2 := hS.rb.cell_ (i := 2) rfl)
    | (go_at_call 104; (with_reducible refine (cF _).mono ?_); rintro o1 w1 ⟨rfl, hb⟩; replace hS := hS.below hb; clear hb; clear k0 k1 k2)
    | ((with_reducible refine wpList_store_rv rfl _ _ rfl w.heap.size _ _ _ ef hS.rb rfl rfl rfl ?_); intro v1 x1 y1; replace hS := hS.setr x1 y1; clear x1 y1; have k0 := hS.rb.cell_ (i := 0) rfl; have k1 := hS.rb.cell_ (i := 1) rfl; have k2 := hS.rb.cell_ (i := 2) rfl)
    | (with_reducible refine wpList_build_op0 rfl rfl ?_)
    | ((with_reducible refine wpList_store_rv rfl _ _ rfl (w.heap.size + 1) _ _ _ _ hS.r1 rfl rfl rfl ?_); intro v8 x8 y8; have hT := hS.last x8 y8; have hX8 := blk_gb hS.box.b y8 (by have := hS.hox; omega); clear k0 k1 k2)
    | (with_reducible refine wpList_store_blk rfl 74 _ _ rfl (w.heap.size + 1 + 1) _ _ 74 hT.2.1 rfl rfl (hIS _ _ _ _ _ _) (hOS _ _ _ _ _ _) (opC_one _ _ _ _ _ _ _) ?_))
  intro w9 hb9 hg9
  go_wp2
  have hb8 := blk_gb hT.1 hg9 (by omega)
  refine bodyPost_ret (results_rows rfl _ _ _ _ _ _ _ _ _ _ _ _ rfl hb8 Try.underlying69 rfl infoR3 rfl hb9 Try.underlying74 rfl (hIS _ _ _ _ _ _)) rfl ?_
  exact ⟨none, 0, 0, none, 0, 0, rfl, OpR.zero _, hT.2.2.2.2.grown hg9 hT.2.2.2.2.size (fun k hk => by cases hk; omega)⟩

set_option maxRecDepth 100000 in
set_option maxHeartbeats 40000000 in
theorem rg_2_ii (s : List UInt8) (a : Nat) (e : Int) (w : World) (a0 : Nat) (e0 : Int) (cB : ∀ W, Calls Try.prog 103 #[.agg #[.string (txt s), .int .i64 a, .int .i64 e]] W fun o w' => o = .returned (.tuple #[.agg #[.string (txt s), .int .i64 a0, .int .i64 e0], .int .i64 2]) ∧ Below W.heap.size W w') (P : List UInt8) (a1 : Nat) (e1 : Int) (lP : P.length ≤ 200) (c1 : ∀ W, Calls Try.prog 105 #[.agg #[.string (txt s), .int .i64 a0, .int .i64 e0], .int .i64 200] W fun o w' => o = .returned (.tuple #[.agg #[.string (txt s), .int .i64 a1, .int .i64 e1], .string (txt P)]) ∧ Below W.heap.size W w') (O : List (List UInt8)) (a2 : Nat) (e2 : Int) (lO : O.length ≤ 1000 ∧ ∀ y ∈ O, y.length ≤ 200) (c2 : ∀ W, Calls Try.prog 106 #[.agg #[.string (txt s), .int .i64 a1, .int .i64 e1], .int .i64 1000, .int .i64 200] W fun o w' => ∃ v, o = .returned (.tuple #[.agg #[.string (txt s), .int .i64 a2, .int .i64 e2], v]) ∧ w'.ownsRow W.heap.size 9 1 v O.length (O.map strV) ∧ Below W.heap.size W w') (hE : opE ⟨2, P, [], 0, O, [], zeroB, 0⟩ = 0) (he : e2 ≠ 0) :
    Calls Try.prog 58 #[.agg #[.string (txt s), .int .i64 a, .int .i64 e]] w fun o w' => RgP s a2 e2 opZ w o w' := by
  have hI := RgI.start s a e w
  have cR : ∀ (W : World) (A1 : Option Addr) (c1 : Nat) (h1 : Rd W A1 (O.map strV)), Calls Try.prog 54 #[.agg (opC ⟨2, P, [], 0, O, [], zeroB, 0⟩ A1 O.length c1 none 0 0)] W fun o w' => o = .returned (.int .i64 0) ∧ Below W.heap.size W w' := fun W A1 c1 h1 => by
    have q := rr13_any ⟨2, P, [], 0, O, [], zeroB, 0⟩ rfl A1 O.length c1 rfl (by omega) none 0 0 rfl (by decide) (Nat.le_trans lP (by decide)) (by simp) (fun y hy => Nat.le_trans (lO.2 y hy) (by decide)) (by simp) W h1 (Rd.nil_ _ _)
    rwa [hE] at q
  have hen : (e2 != 0) = true := by simpa using he
  clear hE
  have hIS : ∀ A n c B m d, (Try.prog.info? 74).map (·.size) = some (opC opZ A n c B m d).size := fun _ _ _ _ _ _ => by rw [opC_size _ _ _ _ _ _ _ rfl]; exact infoOp
  have hOS : ∀ A n c B m d, (opC opZ none 0 0 none 0 0).size = (opC opZ A n c B m d).size := fun _ _ _ _ _ _ => (opC_size _ _ _ _ _ _ _ rfl).trans (opC_size _ _ _ _ _ _ _ rfl).symm
  go_enter Try.func58, Try.ntmps58
  go_wp2_with (fail)
  rw [← opC_lit 0, show (⟨0, [], [], 0, [], [], zeroB, 0⟩ : OpD) = opZ from rfl]
  generalize ((w.alloc (.cells #[.string (txt s), .int .i64 a, .int .i64 e] 69)).alloc (.cells #[.string ⟨#[]⟩, .int .i64 0, .int .i64 0] 69)).alloc (.cells (opC opZ none 0 0 none 0 0) 74) = W0 at *
  refine (cB W0).mono ?_
  rintro o1 w1 ⟨rfl, h1⟩
  replace hI := hI.below h1
  clear h1 cB
  go_wp2_with (first
    | ((with_reducible refine wpList_store_rv rfl _ _ rfl w.heap.size _ _ _ _ hI.rb rfl rfl rfl ?_); intro v1 x1 y1; replace hI := hI.setr x1 y1; have hS := hI.open_ 2; clear x1 y1; have x0 := hS.box.c0; have k0 := hS.rb.cell_ (i := 0) rfl; have k1 := hS.rb.cell_ (i := 1) rfl; have k2 := hS.rb.cell_ (i := 2) rfl)
    | (with_reducible refine wpList_build_op rfl _ rfl 2 (by with_unfolding_all rfl) ?_)
    | (with_reducible refine wpList_store_new rfl 74 _ _ rfl (opC ⟨2, [], [], 0, [], [], zeroB, 0⟩ none 0 0 none 0 0) rfl rfl ?s2 ?s3 (opC_one _ _ _ _ _ _ _) ?_))
  case s2 => first | (rw [opC_size _ _ _ _ _ _ _ rfl]; exact infoOp) | (obtain ⟨i, hi, hz⟩ := Option.map_eq_some_iff.1 infoOp; exact ⟨i, hi, by rw [opC_size _ _ _ _ _ _ _ rfl]; exact hz⟩)
  case s3 => first | done | (rw [opC_size _ _ _ _ _ _ _ rfl]; done) | (rw [opC_size _ _ _ _ _ _ _ rfl]; rfl)
  clear x0 k0 k1 k2 hI
  generalize v1.alloc (.cells (opC ⟨2, [], [], 0, [], [], zeroB, 0⟩ none 0 0 none 0 0) 74) = W1 at *
  generalize v1.heap.size = ox at *
  have k0 := hS.rb.cell_ (i := 0) rfl
  have k1 := hS.rb.cell_ (i := 1) rfl
  have k2 := hS.rb.cell_ (i := 2) rfl
  go_wp2_with (first
    | (go_at_call 105; (with_reducible refine (c1 _).mono ?_); rintro o1 w1 ⟨rfl, hb⟩; replace hS := hS.below hb; clear hb; clear k0 k1 k2)
    | ((with_reducible refine wpList_store_rv rfl _ _ rfl w.heap.size _ _ a1 e1 hS.rb rfl rfl rfl ?_); intro v1 x1 y1; replace hS := hS.setr x1 y1; clear x1 y1; have y := hS.box.c1; have y' := hS.box.b.frozen 1; replace hS : RgS w _ s _ _ ox ⟨2, P, [], 0, [], [], zeroB, 0⟩ none 0 0 none 0 0 := hS.set1 P; have k0 := hS.rb.cell_ (i := 0) rfl; have k1 := hS.rb.cell_ (i := 1) rfl; have k2 := hS.rb.cell_ (i := 2) rfl)
    | (go_at_call 106; (with_reducible refine (c2 _).mono ?_); rintro o1 w1 ⟨v, rfl, ho, hb⟩; obtain ⟨A1, c1, rfl⟩ := own_str ho; replace ho := own_base ho hS.x.size; replace hS := hS.below hb; clear hb; clear k0 k1 k2)
    | ((with_reducible refine wpList_store_rv rfl _ _ rfl w.heap.size _ _ a2 e2 hS.rb rfl rfl rfl ?_); intro v1 x1 y1; replace ho := ho.kept y1 (.inr (Lib.ownBlock_ne ho hS.rb (by decide))); replace hS := hS.setr x1 y1; clear x1 y1; have y := hS.box.c4; have y' := hS.box.b.frozen 4; replace hS : RgS w _ s _ _ ox ⟨2, P, [], 0, O, [], zeroB, 0⟩ A1 O.length c1 none 0 0 := hS.set4 O A1 O.length c1 ho; have k0 := hS.rb.cell_ (i := 0) rfl; have k1 := hS.rb.cell_ (i := 1) rfl; have k2 := hS.rb.cell_ (i := 2) rfl)
    | (with_reducible refine wpList_load_opx (by with_unfolding_all rfl) _ rfl _ rfl hS.box hS.hK ?_)
    | (go_at_call 54; (with_reducible refine (cR _ _ _ (own_rd hS.own1).2).mono ?_); rintro o1 w1 ⟨rfl, hb⟩; replace hS := hS.below hb; clear hb; clear k0 k1 k2; have k0 := hS.rb.cell_ (i := 0) rfl; have k1 := hS.rb.cell_ (i := 1) rfl; have k2 := hS.rb.cell_ (i := 2) rfl)
    | (with_reducible refine wpList_build_op0 rfl rfl ?_)
    | ((with_reducible refine wpList_store_rv rfl _ _ rfl (w.heap.size + 1) _ _ _ _ hS.r1 rfl rfl rfl ?_); intro v8 x8 y8; have hT := hS.last x8 y8; have hX8 := blk_gb hS.box.b y8 (by have := hS.hox; omega); clear k0 k1 k2)
    | (with_reducible refine wpList_store_blk rfl 74 _ _ rfl (w.heap.size + 1 + 1) _ _ 74 hT.2.1 rfl rfl (hIS _ _ _ _ _ _) (hOS _ _ _ _ _ _) (opC_one _ _ _ _ _ _ _) ?_))
  intro w9 hb9 hg9
  go_wp2
  have hb8 := blk_gb hT.1 hg9 (by omega)
  refine bodyPost_ret (results_rows rfl _ _ _ _ _ _ _ _ _ _ _ _ rfl hb8 Try.underlying69 rfl infoR3 rfl hb9 Try.underlying74 rfl (hIS _ _ _ _ _ _)) rfl ?_
  exact ⟨none, 0, 0, none, 0, 0, rfl, OpR.zero _, hT.2.2.2.2.grown hg9 hT.2.2.2.2.size (fun k hk => by cases hk; omega)⟩

set_option maxRecDepth 100000 in
set_option maxHeartbeats 40000000 in
theorem rg_2_iii (s : List UInt8) (a : Nat) (e : Int) (w : World) (a0 : Nat) (e0 : Int) (cB : ∀ W, Calls Try.prog 103 #[.agg #[.string (txt s), .int .i64 a, .int .i64 e]] W fun o w' => o = .returned (.tuple #[.agg #[.string (txt s), .int .i64 a0, .int .i64 e0], .int .i64 2]) ∧ Below W.heap.size W w') (P : List UInt8) (a1 : Nat) (e1 : Int) (lP : P.length ≤ 200) (c1 : ∀ W, Calls Try.prog 105 #[.agg #[.string (txt s), .int .i64 a0, .int .i64 e0], .int .i64 200] W fun o w' => o = .returned (.tuple #[.agg #[.string (txt s), .int .i64 a1, .int .i64 e1], .string (txt P)]) ∧ Below W.heap.size W w') (O : List (List UInt8)) (a2 : Nat) (e2 : Int) (lO : O.length ≤ 1000 ∧ ∀ y ∈ O, y.length ≤ 200) (c2 : ∀ W, Calls Try.prog 106 #[.agg #[.string (txt s), .int .i64 a1, .int .i64 e1], .int .i64 1000, .int .i64 200] W fun o w' => ∃ v, o = .returned (.tuple #[.agg #[.string (txt s), .int .i64 a2, .int .i64 e2], v]) ∧ w'.ownsRow W.heap.size 9 1 v O.length (O.map strV) ∧ Below W.heap.size W w') (hE : opE ⟨2, P, [], 0, O, [], zeroB, 0⟩ = 0) (he : e2 = 0) :
    Calls Try.prog 58 #[.agg #[.string (txt s), .int .i64 a, .int .i64 e]] w fun o w' => RgP s a2 e2 (⟨2, P, [], 0, O, [], zeroB, 0⟩ : OpD) w o w' := by
  have hI := RgI.start s a e w
  have cR : ∀ (W : World) (A1 : Option Addr) (c1 : Nat) (h1 : Rd W A1 (O.map strV)), Calls Try.prog 54 #[.agg (opC ⟨2, P, [], 0, O, [], zeroB, 0⟩ A1 O.length c1 none 0 0)] W fun o w' => o = .returned (.int .i64 0) ∧ Below W.heap.size W w' := fun W A1 c1 h1 => by
    have q := rr13_any ⟨2, P, [], 0, O, [], zeroB, 0⟩ rfl A1 O.length c1 rfl (by omega) none 0 0 rfl (by decide) (Nat.le_trans lP (by decide)) (by simp) (fun y hy => Nat.le_trans (lO.2 y hy) (by decide)) (by simp) W h1 (Rd.nil_ _ _)
    rwa [hE] at q
  subst he
  clear hE
  have hIS : ∀ A n c B m d, (Try.prog.info? 74).map (·.size) = some (opC ⟨2, P, [], 0, O, [], zeroB, 0⟩ A n c B m d).size := fun _ _ _ _ _ _ => by rw [opC_size _ _ _ _ _ _ _ rfl]; exact infoOp
  have hOS : ∀ A n c B m d, (opC opZ none 0 0 none 0 0).size = (opC ⟨2, P, [], 0, O, [], zeroB, 0⟩ A n c B m d).size := fun _ _ _ _ _ _ => (opC_size _ _ _ _ _ _ _ rfl).trans (opC_size _ _ _ _ _ _ _ rfl).symm
  go_enter Try.func58, Try.ntmps58
  go_wp2_with (fail)
  rw [← opC_lit 0, show (⟨0, [], [], 0, [], [], zeroB, 0⟩ : OpD) = opZ from rfl]
  generalize ((w.alloc (.cells #[.string (txt s), .int .i64 a, .int .i64 e] 69)).alloc (.cells #[.string ⟨#[]⟩, .int .i64 0, .int .i64 0] 69)).alloc (.cells (opC opZ none 0 0 none 0 0) 74) = W0 at *
  refine (cB W0).mono ?_
  rintro o1 w1 ⟨rfl, h1⟩
  replace hI := hI.below h1
  clear h1 cB
  go_wp2_with (first
    | ((with_reducible refine wpList_store_rv rfl _ _ rfl w.heap.size _ _ _ _ hI.rb rfl rfl rfl ?_); intro v1 x1 y1; replace hI := hI.setr x1 y1; have hS := hI.open_ 2; clear x1 y1; have x0 := hS.box.c0; have k0 := hS.rb.cell_ (i := 0) rfl; have k1 := hS.rb.cell_ (i := 1) rfl; have k2 := hS.rb.cell_ (i := 2) rfl)
    | (with_reducible refine wpList_build_op rfl _ rfl 2 (by with_unfolding_all rfl) ?_)
    | (with_reducible refine wpList_store_new rfl 74 _ _ rfl (opC ⟨2, [], [], 0, [], [], zeroB, 0⟩ none 0 0 none 0 0) rfl rfl ?s2 ?s3 (opC_one _ _ _ _ _ _ _) ?_))
  case s2 => first | (rw [opC_size _ _ _ _ _ _ _ rfl]; exact infoOp) | (obtain ⟨i, hi, hz⟩ := Option.map_eq_some_iff.1 infoOp; exact ⟨i, hi, by rw [opC_size _ _ _ _ _ _ _ rfl]; exact hz⟩)
  case s3 => first | done | (rw [opC_size _ _ _ _ _ _ _ rfl]; done) | (rw [opC_size _ _ _ _ _ _ _ rfl]; rfl)
  clear x0 k0 k1 k2 hI
  generalize v1.alloc (.cells (opC ⟨2, [], [], 0, [], [], zeroB, 0⟩ none 0 0 none 0 0) 74) = W1 at *
  generalize v1.heap.size = ox at *
  have k0 := hS.rb.cell_ (i := 0) rfl
  have k1 := hS.rb.cell_ (i := 1) rfl
  have k2 := hS.rb.cell_ (i := 2) rfl
  go_wp2_with (first
    | (go_at_call 105; (with_reducible refine (c1 _).mono ?_); rintro o1 w1 ⟨rfl, hb⟩; replace hS := hS.below hb; clear hb; clear k0 k1 k2)
    | ((with_reducible refine wpList_store_rv rfl _ _ rfl w.heap.size _ _ a1 e1 hS.rb rfl rfl rfl ?_); intro v1 x1 y1; replace hS := hS.setr x1 y1; clear x1 y1; have y := hS.box.c1; have y' := hS.box.b.frozen 1; replace hS : RgS w _ s _ _ ox ⟨2, P, [], 0, [], [], zeroB, 0⟩ none 0 0 none 0 0 := hS.set1 P; have k0 := hS.rb.cell_ (i := 0) rfl; have k1 := hS.rb.cell_ (i := 1) rfl; have k2 := hS.rb.cell_ (i := 2) rfl)
    | (go_at_call 106; (with_reducible refine (c2 _).mono ?_); rintro o1 w1 ⟨v, rfl, ho, hb⟩; obtain ⟨A1, c1, rfl⟩ := own_str ho; replace ho := own_base ho hS.x.size; replace hS := hS.below hb; clear hb; clear k0 k1 k2)
    | ((with_reducible refine wpList_store_rv rfl _ _ rfl w.heap.size _ _ a2 0 hS.rb rfl rfl rfl ?_); intro v1 x1 y1; replace ho := ho.kept y1 (.inr (Lib.ownBlock_ne ho hS.rb (by decide))); replace hS := hS.setr x1 y1; clear x1 y1; have y := hS.box.c4; have y' := hS.box.b.frozen 4; replace hS : RgS w _ s _ _ ox ⟨2, P, [], 0, O, [], zeroB, 0⟩ A1 O.length c1 none 0 0 := hS.set4 O A1 O.length c1 ho; have k0 := hS.rb.cell_ (i := 0) rfl; have k1 := hS.rb.cell_ (i := 1) rfl; have k2 := hS.rb.cell_ (i := 2) rfl)
    | (with_reducible refine wpList_load_opx (by with_unfolding_all rfl) _ rfl _ rfl hS.box hS.hK ?_)
    | (go_at_call 54; (with_reducible refine (cR _ _ _ (own_rd hS.own1).2).mono ?_); rintro o1 w1 ⟨rfl, hb⟩; replace hS := hS.below hb; clear hb; clear k0 k1 k2; have k0 := hS.rb.cell_ (i := 0) rfl; have k1 := hS.rb.cell_ (i := 1) rfl; have k2 := hS.rb.cell_ (i := 2) rfl))
  refine wp_region_each (by kernel_rfl) [[0, 1, 2, 3], [0, 2, 1, 3], [1, 0, 2, 3]] (by kernel_rfl) (by kernel_rfl) ?_
  replace hS := hS.below (below_drew1 _)
  clear k0 k1 k2
  generalize w1.drew = W5 at *
  have k0 := hS.rb.cell_ (i := 0) rfl
  have k1 := hS.rb.cell_ (i := 1) rfl
  have k2 := hS.rb.cell_ (i := 2) rfl
  intro os hos
  simp [listsOf] at hos
  rcases hos with rfl | rfl | rfl
  all_goals
    go_wp2_with (first
      | (with_reducible refine wpList_load_opx (by with_unfolding_all rfl) _ rfl _ rfl hS.box hS.hK ?_)
      | (with_reducible refine wpList_load_opx (by with_unfolding_all rfl) _ rfl _ rfl (OpX.mk hX8) hS.hK ?_)
      | ((with_reducible refine wpList_store_rv rfl _ _ rfl (w.heap.size + 1) _ _ _ _ hS.r1 rfl rfl rfl ?_); intro v8 x8 y8; have hT := hS.last x8 y8; have hX8 := blk_gb hS.box.b y8 (by have := hS.hox; omega); clear k0 k1 k2)
      | (with_reducible refine wpList_store_blk rfl 74 _ _ rfl (w.heap.size + 1 + 1) _ _ 74 hT.2.1 rfl rfl (hIS _ _ _ _ _ _) (hOS _ _ _ _ _ _) (opC_one _ _ _ _ _ _ _) ?_))
    intro w9 hb9 hg9
    go_wp2
    have hb8 := blk_gb hT.1 hg9 (by omega)
    refine bodyPost_ret (results_rows rfl _ _ _ _ _ _ _ _ _ _ _ _ rfl hb8 Try.underlying69 rfl infoR3 rfl hb9 Try.underlying74 rfl (hIS _ _ _ _ _ _)) rfl ?_
    have ow1 := hT.2.2.1.kept hg9 (.inr (Lib.ownBlock_ne hT.2.2.1 hT.2.1 (by decide)))
    have ow2 := hT.2.2.2.1.kept hg9 (.inr (Lib.ownBlock_ne hT.2.2.2.1 hT.2.1 (by decide)))
    refine ⟨_, _, _, _, _, _, rfl, ⟨(own_rd ow1).1, ?_, ?_, (own_rd ow2).1, ?_, ?_, (own_rd ow1).2, (own_rd ow2).2, hS.hK, ?_, ?_⟩, hT.2.2.2.2.grown hg9 hT.2.2.2.2.size (fun k hk => by cases hk; omega)⟩
    · exact lO.1
    · exact fun y hy => Nat.le_trans (lO.2 y hy) (by decide)
    · decide
    · simp
    · exact Nat.le_trans lP (by decide)
    · simp

end Go.Proofs.Ythpdkdalfjahcaa

namespace Go.Proofs.Ythpdkdalfjahcaa
open Go.RowKit Go.Qc Go.Shelf
attribute [local go_sem] txt_size txt_append ib_fold txt_toL

set_option maxRecDepth 100000 in
set_option maxHeartbeats 40000000 in
theorem rg_3_i (s : List UInt8) (a : Nat) (e : Int) (w : World) (a0 : Nat) (e0 : Int) (cB : ∀ W, Calls Try.prog 103 #[.agg #[.string (txt s), .int .i64 a, .int .i64 e]] W fun o w' => o = .returned (.tuple #[.agg #[.string (txt s), .int .i64 a0, .int .i64 e0], .int .i64 3]) ∧ Below W.heap.size W w') (P : List UInt8) (a1 : Nat) (e1 : Int) (lP : P.length ≤ 200) (c1 : ∀ W, Calls Try.prog 105 #[.agg #[.string (txt s), .int .i64 a0, .int .i64 e0], .int .i64 200] W fun o w' => o = .returned (.tuple #[.agg #[.string (txt s), .int .i64 a1, .int .i64 e1], .string (txt P)]) ∧ Below W.heap.size W w') (N : Nat) (a2 : Nat) (e2 : Int) (c2 : ∀ W, Calls Try.prog 92 #[.agg #[.string (txt s), .int .i64 a1, .int .i64 e1]] W fun o w' => o = .returned (.tuple #[.agg #[.string (txt s), .int .i64 a2, .int .i64 e2], .int .i64 N]) ∧ Below W.heap.size W w') (O : List (List UInt8)) (a3 : Nat) (e3 : Int) (lO : O.length ≤ 1000 ∧ ∀ y ∈ O, y.length ≤ 200) (c3 : ∀ W, Calls Try.prog 106 #[.agg #[.string (txt s), .int .i64 a2, .int .i64 e2], .int .i64 1000, .int .i64 200] W fun o w' => ∃ v, o = .returned (.tuple #[.agg #[.string (txt s), .int .i64 a3, .int .i64 e3], v]) ∧ w'.ownsRow W.heap.size 9 1 v O.length (O.map strV) ∧ Below W.heap.size W w') (Q : List (List UInt8)) (a4 : Nat) (e4 : Int) (lQ : Q.length ≤ 1000 ∧ ∀ y ∈ Q, y.length ≤ 200) (c4 : ∀ W, Calls Try.prog 106 #[.agg #[.string (txt s), .int .i64 a3, .int .i64 e3], .int .i64 1000, .int .i64 200] W fun o w' => ∃ v, o = .returned (.tuple #[.agg #[.string (txt s), .int .i64 a4, .int .i64 e4], v]) ∧ w'.ownsRow W.heap.size 9 1 v Q.length (Q.map strV) ∧ Below W.heap.size W w') (E : Int) (hE : opE ⟨3, P, [], (N : Int), O, Q, zeroB, 0⟩ = E) (hE0 : E ≠ 0) :
    Calls Try.prog 58 #[.agg #[.string (txt s), .int .i64 a, .int .i64 e]] w fun o w' => RgP s a4 (stopB e4 3) opZ w o w' := by
  have hI := RgI.start s a e w
  have cR : ∀ (W : World) (A1 : Option Addr) (c1 : Nat) (A2 : Option Addr) (c2 : Nat) (h1 : Rd W A1 (O.map strV)) (h2 : Rd W A2 (Q.map strV)), Calls Try.prog 54 #[.agg (opC ⟨3, P, [], (N : Int), O, Q, zeroB, 0⟩ A1 O.length c1 A2 Q.length c2)] W fun o w' => o = .returned (.int .i64 E) ∧ Below W.heap.size W w' := fun W A1 c1 A2 c2 h1 h2 => by
    have q := rr13_any ⟨3, P, [], (N : Int), O, Q, zeroB, 0⟩ rfl A1 O.length c1 rfl (by omega) A2 Q.length c2 rfl (by omega) (Nat.le_trans lP (by decide)) (by simp) (fun y hy => Nat.le_trans (lO.2 y hy) (by decide)) (fun y hy => Nat.le_trans (lQ.2 y hy) (by decide)) W h1 h2
    rwa [hE] at q
  have hEn : (E != 0) = true := by simpa using hE0
  have hst : stopB e4 3 ≠ 0 := by unfold stopB; split <;> first | decide | assumption
  obtain ⟨ef, hef⟩ : ∃ ef, ef = stopB e4 3 := ⟨_, rfl⟩
  have hen : (ef != 0) = true := by rw [hef]; simpa using hst
  have cF : ∀ W, Calls Try.prog 104 #[.agg #[.string (txt s), .int .i64 a4, .int .i64 e4], .int .i64 3] W fun o w' => o = .returned (.agg #[.string (txt s), .int .i64 a4, .int .i64 ef]) ∧ Below W.heap.size W w' := fun W => by rw [hef]; exact rFail_any s a4 e4 3 W
  rw [← hef]
  clear hef hst
  clear hE
  have hIS : ∀ A n c B m d, (Try.prog.info? 74).map (·.size) = some (opC opZ A n c B m d).size := fun _ _ _ _ _ _ => by rw [opC_size _ _ _ _ _ _ _ rfl]; exact infoOp
  have hOS : ∀ A n c B m d, (opC opZ none 0 0 none 0 0).size = (opC opZ A n c B m d).size := fun _ _ _ _ _ _ => (opC_size _ _ _ _ _ _ _ rfl).trans (opC_size _ _ _ _ _ _ _ rfl).symm
  go_enter Try.func58, Try.ntmps58
  go_wp2_with (fail)
  rw [← opC_lit 0, show (⟨0, [], [], 0, [], [], zeroB, 0⟩ : OpD) = opZ from rfl]
  generalize ((w.alloc (.cells #[.string (txt s), .int .i64 a, .int .i64 e] 69)).alloc (.cells #[.string ⟨#[]⟩, .int .i64 0, .int .i64 0] 69)).alloc (.cells (opC opZ none 0 0 none 0 0) 74) = W0 at *
  refine (cB W0).mono ?_
  rintro o1 w1 ⟨rfl, h1⟩
  replace hI := hI.below h1
  clear h1 cB
  go_wp2_with (first
    | ((with_reducible refine wpList_store_rv rfl _ _ rfl w.heap.size _ _ _ _ hI.rb rfl rfl rfl ?_); intro v1 x1 y1; replace hI := hI.setr x1 y1; have hS := hI.open_ 3; clear x1 y1; have x0 := hS.box.c0; have k0 := hS.rb.cell_ (i := 0) rfl; have k1 := hS.rb.cell_ (i := 1) rfl; have k2 := hS.rb.cell_ (i := 2) rfl)
    | (with_reducible refine wpList_build_op rfl _ rfl 3 (by with_unfolding_all rfl) ?_)
    | (with_reducible refine wpList_store_new rfl 74 _ _ rfl (opC ⟨3, [], [], 0, [], [], zeroB, 0⟩ none 0 0 none 0 0) rfl rfl ?s2 ?s3 (opC_one _ _ _ _ _ _ _) ?_))
  case s2 => first | (rw [opC_size _ _ _ _ _ _ _ rfl]; exact infoOp) | (obtain ⟨i, hi, hz⟩ := Option.map_eq_some_iff.1 infoOp; exact ⟨i, hi, by rw [opC_size _ _ _ _ _ _ _ rfl]; exact hz⟩)
  case s3 => first | done | (rw [opC_size _ _ _ _ _ _ _ rfl]; done) | (rw [opC_size _ _ _ _ _ _ _ rfl]; rfl)
  clear x0 k0 k1 k2 hI
  generalize v1.alloc (.cells (opC ⟨3, [], [], 0, [], [], zeroB, 0⟩ none 0 0 none 0 0) 74) = W1 at *
  generalize v1.heap.size = ox at *
  have k0 := hS.rb.cell_ (i := 0) rfl
  have k1 := hS.rb.cell_ (i := 1) rfl
  have k2 := hS.rb.cell_ (i := 2) rfl
  go_wp2_with (first
    | (go_at_call 105; (with_reducible refine (c1 _).mono ?_); rintro o1 w1 ⟨rfl, hb⟩; replace hS := hS.below hb; clear hb; clear k0 k1 k2)
    | ((with_reducible refine wpList_store_rv rfl _ _ rfl w.heap.size _ _ a1 e1 hS.rb rfl rfl rfl ?_); intro v1 x1 y1; replace hS := hS.setr x1 y1; clear x1 y1; have y := hS.box.c1; have y' := hS.box.b.frozen 1; replace hS : RgS w _ s _ _ ox ⟨3, P, [], 0, [], [], zeroB, 0⟩ none 0 0 none 0 0 := hS.set1 P; have k0 := hS.rb.cell_ (i := 0) rfl; have k1 := hS.rb.cell_ (i := 1) rfl; have k2 := hS.rb.cell_ (i := 2) rfl)
    | (go_at_call 92; (with_reducible refine (c2 _).mono ?_); rintro o1 w1 ⟨rfl, hb⟩; replace hS := hS.below hb; clear hb; clear k0 k1 k2)
    | ((with_reducible refine wpList_store_rv rfl _ _ rfl w.heap.size _ _ a2 e2 hS.rb rfl rfl rfl ?_); intro v1 x1 y1; replace hS := hS.setr x1 y1; clear x1 y1; have y := hS.box.c3; have y' := hS.box.b.frozen 3; replace hS : RgS w _ s _ _ ox ⟨3, P, [], (N : Int), [], [], zeroB, 0⟩ none 0 0 none 0 0 := hS.set3 (N : Int); have k0 := hS.rb.cell_ (i := 0) rfl; have k1 := hS.rb.cell_ (i := 1) rfl; have k2 := hS.rb.cell_ (i := 2) rfl)
    | (go_at_call 106; (with_reducible refine (c3 _).mono ?_); rintro o1 w1 ⟨v, rfl, ho, hb⟩; obtain ⟨A1, c1, rfl⟩ := own_str ho; replace ho := own_base ho hS.x.size; replace hS := hS.below hb; clear hb; clear k0 k1 k2)
    | ((with_reducible refine wpList_store_rv rfl _ _ rfl w.heap.size _ _ a3 e3 hS.rb rfl rfl rfl ?_); intro v1 x1 y1; replace ho := ho.kept y1 (.inr (Lib.ownBlock_ne ho hS.rb (by decide))); replace hS := hS.setr x1 y1; clear x1 y1; have y := hS.box.c4; have y' := hS.box.b.frozen 4; replace hS : RgS w _ s _ _ ox ⟨3, P, [], (N : Int), O, [], zeroB, 0⟩ A1 O.length c1 none 0 0 := hS.set4 O A1 O.length c1 ho; have k0 := hS.rb.cell_ (i := 0) rfl; have k1 := hS.rb.cell_ (i := 1) rfl; have k2 := hS.rb.cell_ (i := 2) rfl)
    | (go_at_call 106; (with_reducible refine (c4 _).mono ?_); rintro o1 w1 ⟨v, rfl, ho, hb⟩; obtain ⟨A2, c2, rfl⟩ := own_str ho; replace ho := own_base ho hS.x.size; replace hS := hS.below hb; clear hb; clear k0 k1 k2)
    | ((with_reducible refine wpList_store_rv rfl _ _ rfl w.heap.size _ _ a4 e4 hS.rb rfl rfl rfl ?_); intro v1 x1 y1; replace ho := ho.kept y1 (.inr (Lib.ownBlock_ne ho hS.rb (by decide))); replace hS := hS.setr x1 y1; clear x1 y1; have y := hS.box.c5; have y' := hS.box.b.frozen 5; replace hS : RgS w _ s _ _ ox ⟨3, P, [], (N : Int), O, Q, zeroB, 0⟩ A1 O.length c1 A2 Q.length c2 := hS.set5 Q A2 Q.length c2 ho; have k0 := hS.rb.cell_ (i := 0) rfl; have k1 := hS.rb.cell_ (i := 1) rfl; have k2 := hS.rb.cell_ (i := 2) rfl)
    | (with_reducible refine wpList_load_opx (by with_unfolding_all rfl) _ rfl _ rfl hS.box hS.hK ?_)
    | (go_at_call 54; (with_reducible refine (cR _ _ _ _ _ (own_rd hS.own1).2 (own_rd hS.own2).2).mono ?_); rintro o1 w1 ⟨rfl, hb⟩; replace hS := hS.below hb; clear hb; clear k0 k1 k2; have k0 := hS.rb.cell_ (i := 0) rfl; have k1 := hS.rb.cell_ (i := 1) rfl; have k2 := hS.rb.cell_ (i := 2) rfl)
    | (go_at_call 104; (with_reducible refine (cF _).mono ?_); rintro o1 w1 ⟨rfl, hb⟩; replace hS := hS.below hb; clear hb; clear k0 k1 k2)
    | ((with_reducible refine wpList_store_rv rfl _ _ rfl w.heap.size _ _ _ ef hS.rb rfl rfl rfl ?_); intro v1 x1 y1; replace hS := hS.setr x1 y1; clear x1 y1; have k0 := hS.rb.cell_ (i := 0) rfl; have k1 := hS.rb.cell_ (i := 1) rfl; have k2 := hS.rb.cell_ (i := 2) rfl)
    | (with_reducible refine wpList_build_op0 rfl rfl ?_)
    | ((with_reducible refine wpList_store_rv rfl _ _ rfl (w.heap.size + 1) _ _ _ _ hS.r1 rfl rfl rfl ?_); intro v8 x8 y8; have hT := hS.last x8 y8; have hX8 := blk_gb hS.box.b y8 (by have := hS.hox; omega); clear k0 k1 k2)
    | (with_reducible refine wpList_store_blk rfl 74 _ _ rfl (w.heap.size + 1 + 1) _ _ 74 hT.2.1 rfl rfl (hIS _ _ _ _ _ _) (hOS _ _ _ _ _ _) (opC_one _ _ _ _ _ _ _) ?_))
  intro w9 hb9 hg9
  go_wp2
  have hb8 := blk_gb hT.1 hg9 (by omega)
  refine bodyPost_ret (results_rows rfl _ _ _ _ _ _ _ _ _ _ _ _ rfl hb8 Try.underlying69 rfl infoR3 rfl hb9 Try.underlying74 rfl (hIS _ _ _ _ _ _)) rfl ?_
  exact ⟨none, 0, 0, none, 0, 0, rfl, OpR.zero _, hT.2.2.2.2.grown hg9 hT.2.2.2.2.size (fun k hk => by cases hk; omega)⟩

set_option maxRecDepth 100000 in
set_option maxHeartbeats 40000000 in
theorem rg_3_ii (s : List UInt8) (a : Nat) (e : Int) (w : World) (a0 : Nat) (e0 : Int) (cB : ∀ W, Calls Try.prog 103 #[.agg #[.string (txt s), .int .i64 a, .int .i64 e]] W fun o w' => o = .returned (.tuple #[.agg #[.string (txt s), .int .i64 a0, .int .i64 e0], .int .i64 3]) ∧ Below W.heap.size W w') (P : List UInt8) (a1 : Nat) (e1 : Int) (lP : P.length ≤ 200) (c1 : ∀ W, Calls Try.prog 105 #[.agg #[.string (txt s), .int .i64 a0, .int .i64 e0], .int .i64 200] W fun o w' => o = .returned (.tuple #[.agg #[.string (txt s), .int .i64 a1, .int .i64 e1], .string (txt P)]) ∧ Below W.heap.size W w') (N : Nat) (a2 : Nat) (e2 : Int) (c2 : ∀ W, Calls Try.prog 92 #[.agg #[.string (txt s), .int .i64 a1, .int .i64 e1]] W fun o w' => o = .returned (.tuple #[.agg #[.string (txt s), .int .i64 a2, .int .i64 e2], .int .i64 N]) ∧ Below W.heap.size W w') (O : List (List UInt8)) (a3 : Nat) (e3 : Int) (lO : O.length ≤ 1000 ∧ ∀ y ∈ O, y.length ≤ 200) (c3 : ∀ W, Calls Try.prog 106 #[.agg #[.string (txt s), .int .i64 a2, .int .i64 e2], .int .i64 1000, .int .i64 200] W fun o w' => ∃ v, o = .returned (.tuple #[.agg #[.string (txt s), .int .i64 a3, .int .i64 e3], v]) ∧ w'.ownsRow W.heap.size 9 1 v O.length (O.map strV) ∧ Below W.heap.size W w') (Q : List (List UInt8)) (a4 : Nat) (e4 : Int) (lQ : Q.length ≤ 1000 ∧ ∀ y ∈ Q, y.length ≤ 200) (c4 : ∀ W, Calls Try.prog 106 #[.agg #[.string (txt s), .int .i64 a3, .int .i64 e3], .int .i64 1000, .int .i64 200] W fun o w' => ∃ v, o = .returned (.tuple #[.agg #[.string (txt s), .int .i64 a4, .int .i64 e4], v]) ∧ w'.ownsRow W.heap.size 9 1 v Q.length (Q.map strV) ∧ Below W.heap.size W w') (hE : opE ⟨3, P, [], (N : Int), O, Q, zeroB, 0⟩ = 0) (he : e4 ≠ 0) :
    Calls Try.prog 58 #[.agg #[.string (txt s), .int .i64 a, .int .i64 e]] w fun o w' => RgP s a4 e4 opZ w o w' := by
  have hI := RgI.start s a e w
  have cR : ∀ (W : World) (A1 : Option Addr) (c1 : Nat) (A2 : Option Addr) (c2 : Nat) (h1 : Rd W A1 (O.map strV)) (h2 : Rd W A2 (Q.map strV)), Calls Try.prog 54 #[.agg (opC ⟨3, P, [], (N : Int), O, Q, zeroB, 0⟩ A1 O.length c1 A2 Q.length c2)] W fun o w' => o = .returned (.int .i64 0) ∧ Below W.heap.size W w' := fun W A1 c1 A2 c2 h1 h2 => by
    have q := rr13_any ⟨3, P, [], (N : Int), O, Q, zeroB, 0⟩ rfl A1 O.length c1 rfl (by omega) A2 Q.length c2 rfl (by omega) (Nat.le_trans lP (by decide)) (by simp) (fun y hy => Nat.le_trans (lO.2 y hy) (by decide)) (fun y hy => Nat.le_trans (lQ.2 y hy) (by decide)) W h1 h2
    rwa [hE] at q
  have hen : (e4 != 0) = true := by simpa using he
  clear hE
  have hIS : ∀ A n c B m d, (Try.prog.info? 74).map (·.size) = some (opC opZ A n c B m d).size := fun _ _ _ _ _ _ => by rw [opC_size _ _ _ _ _ _ _ rfl]; exact infoOp
  have hOS : ∀ A n c B m d, (opC opZ none 0 0 none 0 0).size = (opC opZ A n c B m d).size := fun _ _ _ _ _ _ => (opC_size _ _ _ _ _ _ _ rfl).trans (opC_size _ _ _ _ _ _ _ rfl).symm
  go_enter Try.func58, Try.ntmps58
  go_wp2_with (fail)
  rw [← opC_lit 0, show (⟨0, [], [], 0, [], [], zeroB, 0⟩ : OpD) = opZ from rfl]
  generalize ((w.alloc (.cells #[.string (txt s), .int .i64 a, .int .i64 e] 69)).alloc (.cells #[.string ⟨#[]⟩, .int .i64 0, .int .i64 0] 69)).alloc (.cells (opC opZ none 0 0 none 0 0) 74) = W0 at *
  refine (cB W0).mono ?_
  rintro o1 w1 ⟨rfl, h1⟩
  replace hI := hI.below h1
  clear h1 cB
  go_wp2_with (first
    | ((with_reducible refine wpList_store_rv rfl _ _ rfl w.heap.size _ _ _ _ hI.rb rfl rfl rfl ?_); intro v1 x1 y1; replace hI := hI.setr x1 y1; have hS := hI.open_ 3; clear x1 y1; have x0 := hS.box.c0; have k0 := hS.rb.cell_ (i := 0) rfl; have k1 := hS.rb.cell_ (i := 1) rfl; have k2 := hS.rb.cell_ (i := 2) rfl)
    | (with_reducible refine wpList_build_op rfl _ rfl 3 (by with_unfolding_all rfl) ?_)
    | (with_reducible refine wpList_store_new rfl 74 _ _ rfl (opC ⟨3, [], [], 0, [], [], zeroB, 0⟩ none 0 0 none 0 0) rfl rfl ?s2 ?s3 (opC_one _ _ _ _ _ _ _) ?_))
  case s2 => first | (rw [opC_size _ _ _ _ _ _ _ rfl]; exact infoOp) | (obtain ⟨i, hi, hz⟩ := Option.map_eq_some_iff.1 infoOp; exact ⟨i, hi, by rw [opC_size _ _ _ _ _ _ _ rfl]; exact hz⟩)
  case s3 => first | done | (rw [opC_size _ _ _ _ _ _ _ rfl]; done) | (rw [opC_size _ _ _ _ _ _ _ rfl]; rfl)
  clear x0 k0 k1 k2 hI
  generalize v1.alloc (.cells (opC ⟨3, [], [], 0, [], [], zeroB, 0⟩ none 0 0 none 0 0) 74) = W1 at *
  generalize v1.heap.size = ox at *
  have k0 := hS.rb.cell_ (i := 0) rfl
  have k1 := hS.rb.cell_ (i := 1) rfl
  have k2 := hS.rb.cell_ (i := 2) rfl
  go_wp2_with (first
    | (go_at_call 105; (with_reducible refine (c1 _).mono ?_); rintro o1 w1 ⟨rfl, hb⟩; replace hS := hS.below hb; clear hb; clear k0 k1 k2)
    | ((with_reducible refine wpList_store_rv rfl _ _ rfl w.heap.size _ _ a1 e1 hS.rb rfl rfl rfl ?_); intro v1 x1 y1; replace hS := hS.setr x1 y1; clear x1 y1; have y := hS.box.c1; have y' := hS.box.b.frozen 1; replace hS : RgS w _ s _ _ ox ⟨3, P, [], 0, [], [], zeroB, 0⟩ none 0 0 none 0 0 := hS.set1 P; have k0 := hS.rb.cell_ (i := 0) rfl; have k1 := hS.rb.cell_ (i := 1) rfl; have k2 := hS.rb.cell_ (i := 2) rfl)
    | (go_at_call 92; (with_reducible refine (c2 _).mono ?_); rintro o1 w1 ⟨rfl, hb⟩; replace hS := hS.below hb; clear hb; clear k0 k1 k2)
    | ((with_reducible refine wpList_store_rv rfl _ _ rfl w.heap.size _ _ a2 e2 hS.rb rfl rfl rfl ?_); intro v1 x1 y1; replace hS := hS.setr x1 y1; clear x1 y1; have y := hS.box.c3; have y' := hS.box.b.frozen 3; replace hS : RgS w _ s _ _ ox ⟨3, P, [], (N : Int), [], [], zeroB, 0⟩ none 0 0 none 0 0 := hS.set3 (N : Int); have k0 := hS.rb.cell_ (i := 0) rfl; have k1 := hS.rb.cell_ (i := 1) rfl; have k2 := hS.rb.cell_ (i := 2) rfl)
    | (go_at_call 106; (with_reducible refine (c3 _).mono ?_); rintro o1 w1 ⟨v, rfl, ho, hb⟩; obtain ⟨A1, c1, rfl⟩ := own_str ho; replace ho := own_base ho hS.x.size; replace hS := hS.below hb; clear hb; clear k0 k1 k2)
    | ((with_reducible refine wpList_store_rv rfl _ _ rfl w.heap.size _ _ a3 e3 hS.rb rfl rfl rfl ?_); intro v1 x1 y1; replace ho := ho.kept y1 (.inr (Lib.ownBlock_ne ho hS.rb (by decide))); replace hS := hS.setr x1 y1; clear x1 y1; have y := hS.box.c4; have y' := hS.box.b.frozen 4; replace hS : RgS w _ s _ _ ox ⟨3, P, [], (N : Int), O, [], zeroB, 0⟩ A1 O.length c1 none 0 0 := hS.set4 O A1 O.length c1 ho; have k0 := hS.rb.cell_ (i := 0) rfl; have k1 := hS.rb.cell_ (i := 1) rfl; have k2 := hS.rb.cell_ (i := 2) rfl)
    | (go_at_call 106; (with_reducible refine (c4 _).mono ?_); rintro o1 w1 ⟨v, rfl, ho, hb⟩; obtain ⟨A2, c2, rfl⟩ := own_str ho; replace ho := own_base ho hS.x.size; replace hS := hS.below hb; clear hb; clear k0 k1 k2)
    | ((with_reducible refine wpList_store_rv rfl _ _ rfl w.heap.size _ _ a4 e4 hS.rb rfl rfl rfl ?_); intro v1 x1 y1; replace ho := ho.kept y1 (.inr (Lib.ownBlock_ne ho hS.rb (by decide))); replace hS := hS.setr x1 y1; clear x1 y1; have y := hS.box.c5; have y' := hS.box.b.frozen 5; replace hS : RgS w _ s _ _ ox ⟨3, P, [], (N : Int), O, Q, zeroB, 0⟩ A1 O.length c1 A2 Q.length c2 := hS.set5 Q A2 Q.length c2 ho; have k0 := hS.rb.cell_ (i := 0) rfl; have k1 := hS.rb.cell_ (i := 1) rfl; have k2 := hS.rb.cell_ (i := 2) rfl)
    | (with_reducible refine wpList_load_opx (by with_unfolding_all rfl) _ rfl _ rfl hS.box hS.hK ?_)
    | (go_at_call 54; (with_reducible refine (cR _ _ _ _ _ (own_rd hS.own1).2 (own_rd hS.own2).2).mono ?_); rintro o1 w1 ⟨rfl, hb⟩; replace hS := hS.below hb; clear hb; clear k0 k1 k2; have k0 := hS.rb.cell_ (i := 0) rfl; have k1 := hS.rb.cell_ (i := 1) rfl; have k2 := hS.rb.cell_ (i := 2) rfl)
    | (with_reducible refine wpList_build_op0 rfl rfl ?_)
    | ((with_reducible refine wpList_store_rv rfl _ _ rfl (w.heap.size + 1) _ _ _ _ hS.r1 rfl rfl rfl ?_); intro v8 x8 y8; have hT := hS.last x8 y8; have hX8 := blk_gb hS.box.b y8 (by have := hS.hox; omega); clear k0 k1 k2)
    | (with_reducible refine wpList_store_blk rfl 74 _ _ rfl (w.heap.size + 1 + 1) _ _ 74 hT.2.1 rfl rfl (hIS _ _ _ _ _ _) (hOS _ _ _ _ _ _) (opC_one _ _ _ _ _ _ _) ?_))
  intro w9 hb9 hg9
  go_wp2
  have hb8 := blk_gb hT.1 hg9 (by omega)
  refine bodyPost_ret (results_rows rfl _ _ _ _ _ _ _ _ _ _ _ _ rfl hb8 Try.underlying69 rfl infoR3 rfl hb9 Try.underlying74 rfl (hIS _ _ _ _ _ _)) rfl ?_
  exact ⟨none, 0, 0, none, 0, 0, rfl, OpR.zero _, hT.2.2.2.2.grown hg9 hT.2.2.2.2.size (fun k hk => by cases hk; omega)⟩

set_option maxRecDepth 100000 in
set_option maxHeartbeats 40000000 in
theorem rg_3_iii (s : List UInt8) (a : Nat) (e : Int) (w : World) (a0 : Nat) (e0 : Int) (cB : ∀ W, Calls Try.prog 103 #[.agg #[.string (txt s), .int .i64 a, .int .i64 e]] W fun o w' => o = .returned (.tuple #[.agg #[.string (txt s), .int .i64 a0, .int .i64 e0], .int .i64 3]) ∧ Below W.heap.size W w') (P : List UInt8) (a1 : Nat) (e1 : Int) (lP : P.length ≤ 200) (c1 : ∀ W, Calls Try.prog 105 #[.agg #[.string (txt s), .int .i64 a0, .int .i64 e0], .int .i64 200] W fun o w' => o = .returned (.tuple #[.agg #[.string (txt s), .int .i64 a1, .int .i64 e1], .string (txt P)]) ∧ Below W.heap.size W w') (N : Nat) (a2 : Nat) (e2 : Int) (c2 : ∀ W, Calls Try.prog 92 #[.agg #[.string (txt s), .int .i64 a1, .int .i64 e1]] W fun o w' => o = .returned (.tuple #[.agg #[.string (txt s), .int .i64 a2, .int .i64 e2], .int .i64 N]) ∧ Below W.heap.size W w') (O : List (List UInt8)) (a3 : Nat) (e3 : Int) (lO : O.length ≤ 1000 ∧ ∀ y ∈ O, y.length ≤ 200) (c3 : ∀ W, Calls Try.prog 106 #[.agg #[.string (txt s), .int .i64 a2, .int .i64 e2], .int .i64 1000, .int .i64 200] W fun o w' => ∃ v, o = .returned (.tuple #[.agg #[.string (txt s), .int .i64 a3, .int .i64 e3], v]) ∧ w'.ownsRow W.heap.size 9 1 v O.length (O.map strV) ∧ Below W.heap.size W w') (Q : List (List UInt8)) (a4 : Nat) (e4 : Int) (lQ : Q.length ≤ 1000 ∧ ∀ y ∈ Q, y.length ≤ 200) (c4 : ∀ W, Calls Try.prog 106 #[.agg #[.string (txt s), .int .i64 a3, .int .i64 e3], .int .i64 1000, .int .i64 200] W fun o w' => ∃ v, o = .returned (.tuple #[.agg #[.string (txt s), .int .i64 a4, .int .i64 e4], v]) ∧ w'.ownsRow W.heap.size 9 1 v Q.length (Q.map strV) ∧ Below W.heap.size W w') (hE : opE ⟨3, P, [], (N : Int), O, Q, zeroB, 0⟩ = 0) (he : e4 = 0) :
    Calls Try.prog 58 #[.agg #[.string (txt s), .int .i64 a, .int .i64 e]] w fun o w' => RgP s a4 e4 (⟨3, P, [], (N : Int), O, Q, zeroB, 0⟩ : OpD) w o w' := by
  have hI := RgI.start s a e w
  have cR : ∀ (W : World) (A1 : Option Addr) (c1 : Nat) (A2 : Option Addr) (c2 : Nat) (h1 : Rd W A1 (O.map strV)) (h2 : Rd W A2 (Q.map strV)), Calls Try.prog 54 #[.agg (opC ⟨3, P, [], (N : Int), O, Q, zeroB, 0⟩ A1 O.length c1 A2 Q.length c2)] W fun o w' => o = .returned (.int .i64 0) ∧ Below W.heap.size W w' := fun W A1 c1 A2 c2 h1 h2 => by
    have q := rr13_any ⟨3, P, [], (N : Int), O, Q, zeroB, 0⟩ rfl A1 O.length c1 rfl (by omega) A2 Q.length c2 rfl (by omega) (Nat.le_trans lP (by decide)) (by simp) (fun y hy => Nat.le_trans (lO.2 y hy) (by decide)) (fun y hy => Nat.le_trans (lQ.2 y hy) (by decide)) W h1 h2
    rwa [hE] at q
  subst he
  clear hE
  have hIS : ∀ A n c B m d, (Try.prog.info? 74).map (·.size) = some (opC ⟨3, P, [], (N : Int), O, Q, zeroB, 0⟩ A n c B m d).size := fun _ _ _ _ _ _ => by rw [opC_size _ _ _ _ _ _ _ rfl]; exact infoOp
  have hOS : ∀ A n c B m d, (opC opZ none 0 0 none 0 0).size = (opC ⟨3, P, [], (N : Int), O, Q, zeroB, 0⟩ A n c B m d).size := fun _ _ _ _ _ _ => (opC_size _ _ _ _ _ _ _ rfl).trans (opC_size _ _ _ _ _ _ _ rfl).symm
  go_enter Try.func58, Try.ntmps58
  go_wp2_with (fail)
  rw [← opC_lit 0, show (⟨0, [], [], 0, [], [], zeroB, 0⟩ : OpD) = opZ from rfl]
  generalize ((w.alloc (.cells #[.string (txt s), .int .i64 a, .int .i64 e] 69)).alloc (.cells #[.string ⟨#[]⟩, .int .i64 0, .int .i64 0] 69)).alloc (.cells (opC opZ none 0 0 none 0 0) 74) = W0 at *
  refine (cB W0).mono ?_
  rintro o1 w1 ⟨rfl, h1⟩
  replace hI := hI.below h1
  clear h1 cB
  go_wp2_with (first
    | ((with_reducible refine wpList_store_rv rfl _ _ rfl w.heap.size _ _ _ _ hI.rb rfl rfl rfl ?_); intro v1 x1 y1; replace hI := hI.setr x1 y1; have hS := hI.open_ 3; clear x1 y1; have x0 := hS.box.c0; have k0 := hS.rb.cell_ (i := 0) rfl; have k1 := hS.rb.cell_ (i := 1) rfl; have k2 := hS.rb.cell_ (i := 2) rfl)
    | (with_reducible refine wpList_build_op rfl _ rfl 3 (by with_unfolding_all rfl) ?_)
    | (with_reducible refine wpList_store_new rfl 74 _ _ rfl (opC ⟨3, [], [], 0, [], [], zeroB, 0⟩ none 0 0 none 0 0) rfl rfl ?s2 ?s3 (opC_one _ _ _ _ _ _ _) ?_))
  case s2 => first | (rw [opC_size _ _ _ _ _ _ _ rfl]; exact infoOp) | (obtain ⟨i, hi, hz⟩ := Option.map_eq_some_iff.1 infoOp; exact ⟨i, hi, by rw [opC_size _ _ _ _ _ _ _ rfl]; exact hz⟩)
  case s3 => first | done | (rw [opC_size _ _ _ _ _ _ _ rfl]; done) | (rw [opC_size _ _ _ _ _ _ _ rfl]; rfl)
  clear x0 k0 k1 k2 hI
  generalize v1.alloc (.cells (opC ⟨3, [], [], 0, [], [], zeroB, 0⟩ none 0 0 none 0 0) 74) = W1 at *
  generalize v1.heap.size = ox at *
  have k0 := hS.rb.cell_ (i := 0) rfl
  have k1 := hS.rb.cell_ (i := 1) rfl
  have k2 := hS.rb.cell_ (i := 2) rfl
  go_wp2_with (first
    | (go_at_call 105; (with_reducible refine (c1 _).mono ?_); rintro o1 w1 ⟨rfl, hb⟩; replace hS := hS.below hb; clear hb; clear k0 k1 k2)
    | ((with_reducible refine wpList_store_rv rfl _ _ rfl w.heap.size _ _ a1 e1 hS.rb rfl rfl rfl ?_); intro v1 x1 y1; replace hS := hS.setr x1 y1; clear x1 y1; have y := hS.box.c1; have y' := hS.box.b.frozen 1; replace hS : RgS w _ s _ _ ox ⟨3, P, [], 0, [], [], zeroB, 0⟩ none 0 0 none 0 0 := hS.set1 P; have k0 := hS.rb.cell_ (i := 0) rfl; have k1 := hS.rb.cell_ (i := 1) rfl; have k2 := hS.rb.cell_ (i := 2) rfl)
    | (go_at_call 92; (with_reducible refine (c2 _).mono ?_); rintro o1 w1 ⟨rfl, hb⟩; replace hS := hS.below hb; clear hb; clear k0 k1 k2)
    | ((with_reducible refine wpList_store_rv rfl _ _ rfl w.heap.size _ _ a2 e2 hS.rb rfl rfl rfl ?_); intro v1 x1 y1; replace hS := hS.setr x1 y1; clear x1 y1; have y := hS.box.c3; have y' := hS.box.b.frozen 3; replace hS : RgS w _ s _ _ ox ⟨3, P, [], (N : Int), [], [], zeroB, 0⟩ none 0 0 none 0 0 := hS.set3 (N : Int); have k0 := hS.rb.cell_ (i := 0) rfl; have k1 := hS.rb.cell_ (i := 1) rfl; have k2 := hS.rb.cell_ (i := 2) rfl)
    | (go_at_call 106; (with_reducible refine (c3 _).mono ?_); rintro o1 w1 ⟨v, rfl, ho, hb⟩; obtain ⟨A1, c1, rfl⟩ := own_str ho; replace ho := own_base ho hS.x.size; replace hS := hS.below hb; clear hb; clear k0 k1 k2)
    | ((with_reducible refine wpList_store_rv rfl _ _ rfl w.heap.size _ _ a3 e3 hS.rb rfl rfl rfl ?_); intro v1 x1 y1; replace ho := ho.kept y1 (.inr (Lib.ownBlock_ne ho hS.rb (by decide))); replace hS := hS.setr x1 y1; clear x1 y1; have y := hS.box.c4; have y' := hS.box.b.frozen 4; replace hS : RgS w _ s _ _ ox ⟨3, P, [], (N : Int), O, [], zeroB, 0⟩ A1 O.length c1 none 0 0 := hS.set4 O A1 O.length c1 ho; have k0 := hS.rb.cell_ (i := 0) rfl; have k1 := hS.rb.cell_ (i := 1) rfl; have k2 := hS.rb.cell_ (i := 2) rfl)
    | (go_at_call 106; (with_reducible refine (c4 _).mono ?_); rintro o1 w1 ⟨v, rfl, ho, hb⟩; obtain ⟨A2, c2, rfl⟩ := own_str ho; replace ho := own_base ho hS.x.size; replace hS := hS.below hb; clear hb; clear k0 k1 k2)
    | ((with_reducible refine wpList_store_rv rfl _ _ rfl w.heap.size _ _ a4 0 hS.rb rfl rfl rfl ?_); intro v1 x1 y1; replace ho := ho.kept y1 (.inr (Lib.ownBlock_ne ho hS.rb (by decide))); replace hS := hS.setr x1 y1; clear x1 y1; have y := hS.box.c5; have y' := hS.box.b.frozen 5; replace hS : RgS w _ s _ _ ox ⟨3, P, [], (N : Int), O, Q, zeroB, 0⟩ A1 O.length c1 A2 Q.length c2 := hS.set5 Q A2 Q.length c2 ho; have k0 := hS.rb.cell_ (i := 0) rfl; have k1 := hS.rb.cell_ (i := 1) rfl; have k2 := hS.rb.cell_ (i := 2) rfl)
    | (with_reducible refine wpList_load_opx (by with_unfolding_all rfl) _ rfl _ rfl hS.box hS.hK ?_)
    | (go_at_call 54; (with_reducible refine (cR _ _ _ _ _ (own_rd hS.own1).2 (own_rd hS.own2).2).mono ?_); rintro o1 w1 ⟨rfl, hb⟩; replace hS := hS.below hb; clear hb; clear k0 k1 k2; have k0 := hS.rb.cell_ (i := 0) rfl; have k1 := hS.rb.cell_ (i := 1) rfl; have k2 := hS.rb.cell_ (i := 2) rfl))
  refine wp_region_each (by kernel_rfl) [[0, 1, 2, 3], [0, 2, 1, 3], [1, 0, 2, 3]] (by kernel_rfl) (by kernel_rfl) ?_
  replace hS := hS.below (below_drew1 _)
  clear k0 k1 k2
  generalize w1.drew = W5 at *
  have k0 := hS.rb.cell_ (i := 0) rfl
  have k1 := hS.rb.cell_ (i := 1) rfl
  have k2 := hS.rb.cell_ (i := 2) rfl
  intro os hos
  simp [listsOf] at hos
  rcases hos with rfl | rfl | rfl
  all_goals
    go_wp2_with (first
      | (with_reducible refine wpList_load_opx (by with_unfolding_all rfl) _ rfl _ rfl hS.box hS.hK ?_)
      | (with_reducible refine wpList_load_opx (by with_unfolding_all rfl) _ rfl _ rfl (OpX.mk hX8) hS.hK ?_)
      | ((with_reducible refine wpList_store_rv rfl _ _ rfl (w.heap.size + 1) _ _ _ _ hS.r1 rfl rfl rfl ?_); intro v8 x8 y8; have hT := hS.last x8 y8; have hX8 := blk_gb hS.box.b y8 (by have := hS.hox; omega); clear k0 k1 k2)
      | (with_reducible refine wpList_store_blk rfl 74 _ _ rfl (w.heap.size + 1 + 1) _ _ 74 hT.2.1 rfl rfl (hIS _ _ _ _ _ _) (hOS _ _ _ _ _ _) (opC_one _ _ _ _ _ _ _) ?_))
    intro w9 hb9 hg9
    go_wp2
    have hb8 := blk_gb hT.1 hg9 (by omega)
    refine bodyPost_ret (results_rows rfl _ _ _ _ _ _ _ _ _ _ _ _ rfl hb8 Try.underlying69 rfl infoR3 rfl hb9 Try.underlying74 rfl (hIS _ _ _ _ _ _)) rfl ?_
    have ow1 := hT.2.2.1.kept hg9 (.inr (Lib.ownBlock_ne hT.2.2.1 hT.2.1 (by decide)))
    have ow2 := hT.2.2.2.1.kept hg9 (.inr (Lib.ownBlock_ne hT.2.2.2.1 hT.2.1 (by decide)))
    refine ⟨_, _, _, _, _, _, rfl, ⟨(own_rd ow1).1, ?_, ?_, (own_rd ow2).1, ?_, ?_, (own_rd ow1).2, (own_rd ow2).2, hS.hK, ?_, ?_⟩, hT.2.2.2.2.grown hg9 hT.2.2.2.2.size (fun k hk => by cases hk; omega)⟩
    · exact lO.1
    · exact fun y hy => Nat.le_trans (lO.2 y hy) (by decide)
    · exact lQ.1
    · exact fun y hy => Nat.le_trans (lQ.2 y hy) (by decide)
    · exact Nat.le_trans lP (by decide)
    · simp

end Go.Proofs.Ythpdkdalfjahcaa

namespace Go.Proofs.Ythpdkdalfjahcaa
open Go.RowKit Go.Qc Go.Shelf
attribute [local go_sem] txt_size txt_append ib_fold txt_toL

set_option maxRecDepth 100000 in
set_option maxHeartbeats 40000000 in
theorem rg_4_i (s : List UInt8) (a : Nat) (e : Int) (w : World) (a0 : Nat) (e0 : Int) (cB : ∀ W, Calls Try.prog 103 #[.agg #[.string (txt s), .int .i64 a, .int .i64 e]] W fun o w' => o = .returned (.tuple #[.agg #[.string (txt s), .int .i64 a0, .int .i64 e0], .int .i64 4]) ∧ Below W.heap.size W w') (P : List UInt8) (a1 : Nat) (e1 : Int) (lP : P.length ≤ 200) (c1 : ∀ W, Calls Try.prog 105 #[.agg #[.string (txt s), .int .i64 a0, .int .i64 e0], .int .i64 200] W fun o w' => o = .returned (.tuple #[.agg #[.string (txt s), .int .i64 a1, .int .i64 e1], .string (txt P)]) ∧ Below W.heap.size W w') (T : List UInt8) (a2 : Nat) (e2 : Int) (lT : T.length ≤ 200) (c2 : ∀ W, Calls Try.prog 105 #[.agg #[.string (txt s), .int .i64 a1, .int .i64 e1], .int .i64 200] W fun o w' => o = .returned (.tuple #[.agg #[.string (txt s), .int .i64 a2, .int .i64 e2], .string (txt T)]) ∧ Below W.heap.size W w') (E : Int) (hE : opE ⟨4, P, T, 0, [], [], zeroB, 0⟩ = E) (hE0 : E ≠ 0) :
    Calls Try.prog 58 #[.agg #[.string (txt s), .int .i64 a, .int .i64 e]] w fun o w' => RgP s a2 (stopB e2 3) opZ w o w' := by
  have hI := RgI.start s a e w
  have cR : ∀ (W : World) , Calls Try.prog 54 #[.agg (opC ⟨4, P, T, 0, [], [], zeroB, 0⟩ none 0 0 none 0 0)] W fun o w' => o = .returned (.int .i64 E) ∧ Below W.heap.size W w' := fun W => by
    have q := rr13_any ⟨4, P, T, 0, [], [], zeroB, 0⟩ rfl none 0 0 rfl (by decide) none 0 0 rfl (by decide) (Nat.le_trans lP (by decide)) (Nat.le_trans lT (by decide)) (by simp) (by simp) W (Rd.nil_ _ _) (Rd.nil_ _ _)
    rwa [hE] at q
  have hEn : (E != 0) = true := by simpa using hE0
  have hst : stopB e2 3 ≠ 0 := by unfold stopB; split <;> first | decide | assumption
  obtain ⟨ef, hef⟩ : ∃ ef, ef = stopB e2 3 := ⟨_, rfl⟩
  have hen : (ef != 0) = true := by rw [hef]; simpa using hst
  have cF : ∀ W, Calls Try.prog 104 #[.agg #[.string (txt s), .int .i64 a2, .int .i64 e2], .int .i64 3] W fun o w' => o = .returned (.agg #[.string (txt s), .int .i64 a2, .int .i64 ef]) ∧ Below W.heap.size W w' := fun W => by rw [hef]; exact rFail_any s a2 e2 3 W
  rw [← hef]
  clear hef hst
  clear hE
  have hIS : ∀ A n c B m d, (Try.prog.info? 74).map (·.size) = some (opC opZ A n c B m d).size := fun _ _ _ _ _ _ => by rw [opC_size _ _ _ _ _ _ _ rfl]; exact infoOp
  have hOS : ∀ A n c B m d, (opC opZ none 0 0 none 0 0).size = (opC opZ A n c B m d).size := fun _ _ _ _ _ _ => (opC_size _ _ _ _ _ _ _ rfl).trans (opC_size _ _ _ _ _ _ _ rfl).symm
  go_enter Try.func58, Try.ntmps58
  go_wp2_with (fail)
  rw [← opC_lit 0, show (⟨0, [], [], 0, [], [], zeroB, 0⟩ : OpD) = opZ from rfl]
  generalize ((w.alloc (.cells #[.string (txt s), .int .i64 a, .int .i64 e] 69)).alloc (.cells #[.string ⟨#[]⟩, .int .i64 0, .int .i64 0] 69)).alloc (.cells (opC opZ none 0 0 none 0 0) 74) = W0 at *
  refine (cB W0).mono ?_
  rintro o1 w1 ⟨rfl, h1⟩
  replace hI := hI.below h1
  clear h1 cB
  go_wp2_with (first
    | ((with_reducible refine wpList_store_rv rfl _ _ rfl w.heap.size _ _ _ _ hI.rb rfl rfl rfl ?_); intro v1 x1 y1; replace hI := hI.setr x1 y1; have hS := hI.open_ 4; clear x1 y1; have x0 := hS.box.c0; have k0 := hS.rb.cell_ (i := 0) rfl; have k1 := hS.rb.cell_ (i := 1) rfl; have k2 := hS.rb.cell_ (i := 2) rfl)
    | (with_reducible refine wpList_build_op rfl _ rfl 4 (by with_unfolding_all rfl) ?_)
    | (with_reducible refine wpList_store_new rfl 74 _ _ rfl (opC ⟨4, [], [], 0, [], [], zeroB, 0⟩ none 0 0 none 0 0) rfl rfl ?s2 ?s3 (opC_one _ _ _ _ _ _ _) ?_))
  case s2 => first | (rw [opC_size _ _ _ _ _ _ _ rfl]; exact infoOp) | (obtain ⟨i, hi, hz⟩ := Option.map_eq_some_iff.1 infoOp; exact ⟨i, hi, by rw [opC_size _ _ _ _ _ _ _ rfl]; exact hz⟩)
  case s3 => first | done | (rw [opC_size _ _ _ _ _ _ _ rfl]; done) | (rw [opC_size _ _ _ _ _ _ _ rfl]; rfl)
  clear x0 k0 k1 k2 hI
  generalize v1.alloc (.cells (opC ⟨4, [], [], 0, [], [], zeroB, 0⟩ none 0 0 none 0 0) 74) = W1 at *
  generalize v1.heap.size = ox at *
  have k0 := hS.rb.cell_ (i := 0) rfl
  have k1 := hS.rb.cell_ (i := 1) rfl
  have k2 := hS.rb.cell_ (i := 2) rfl
  go_wp2_with (first
    | (go_at_call 105; (with_reducible refine (c1 _).mono ?_); rintro o1 w1 ⟨rfl, hb⟩; replace hS := hS.below hb; clear hb; clear k0 k1 k2)
    | ((with_reducible refine wpList_store_rv rfl _ _ rfl w.heap.size _ _ a1 e1 hS.rb rfl rfl rfl ?_); intro v1 x1 y1; replace hS := hS.setr x1 y1; clear x1 y1; have y := hS.box.c1; have y' := hS.box.b.frozen 1; replace hS : RgS w _ s _ _ ox ⟨4, P, [], 0, [], [], zeroB, 0⟩ none 0 0 none 0 0 := hS.set1 P; have k0 := hS.rb.cell_ (i := 0) rfl; have k1 := hS.rb.cell_ (i := 1) rfl; have k2 := hS.rb.cell_ (i := 2) rfl)
    | (go_at_call 105; (with_reducible refine (c2 _).mono ?_); rintro o1 w1 ⟨rfl, hb⟩; replace hS := hS.below hb; clear hb; clear k0 k1 k2)
    | ((with_reducible refine wpList_store_rv rfl _ _ rfl w.heap.size _ _ a2 e2 hS.rb rfl rfl rfl ?_); intro v1 x1 y1; replace hS := hS.setr x1 y1; clear x1 y1; have y := hS.box.c2; have y' := hS.box.b.frozen 2; replace hS : RgS w _ s _ _ ox ⟨4, P, T, 0, [], [], zeroB, 0⟩ none 0 0 none 0 0 := hS.set2 T; have k0 := hS.rb.cell_ (i := 0) rfl; have k1 := hS.rb.cell_ (i := 1) rfl; have k2 := hS.rb.cell_ (i := 2) rfl)
    | (with_reducible refine wpList_load_opx (by with_unfolding_all rfl) _ rfl _ rfl hS.box hS.hK ?_)
    | (go_at_call 54; (with_reducible refine (cR _).mono ?_); rintro o1 w1 ⟨rfl, hb⟩; replace hS := hS.below hb; clear hb; clear k0 k1 k2; have k0 := hS.rb.cell_ (i := 0) rfl; have k1 := hS.rb.cell_ (i := 1) rfl; have k2 := hS.rb.cell_ (i := 2) rfl)
    | (go_at_call 104; (with_reducible refine (cF _).mono ?_); rintro o1 w1 ⟨rfl, hb⟩; replace hS := hS.below hb; clear hb; clear k0 k1 k2)
    | ((with_reducible refine wpList_store_rv rfl _ _ rfl w.heap.size _ _ _ ef hS.rb rfl rfl rfl ?_); intro v1 x1 y1; replace hS := hS.setr x1 y1; clear x1 y1; have k0 := hS.rb.cell_ (i := 0) rfl; have k1 := hS.rb.cell_ (i := 1) rfl; have k2 := hS.rb.cell_ (i := 2) rfl)
    | (with_reducible refine wpList_build_op0 rfl rfl ?_)
    | ((with_reducible refine wpList_store_rv rfl _ _ rfl (w.heap.size + 1) _ _ _ _ hS.r1 rfl rfl rfl ?_); intro v8 x8 y8; have hT := hS.last x8 y8; have hX8 := blk_gb hS.box.b y8 (by have := hS.hox; omega); clear k0 k1 k2)
    | (with_reducible refine wpList_store_blk rfl 74 _ _ rfl (w.heap.size + 1 + 1) _ _ 74 hT.2.1 rfl rfl (hIS _ _ _ _ _ _) (hOS _ _ _ _ _ _) (opC_one _ _ _ _ _ _ _) ?_))
  intro w9 hb9 hg9
  go_wp2
  have hb8 := blk_gb hT.1 hg9 (by omega)
  refine bodyPost_ret (results_rows rfl _ _ _ _ _ _ _ _ _ _ _ _ rfl hb8 Try.underlying69 rfl infoR3 rfl hb9 Try.underlying74 rfl (hIS _ _ _ _ _ _)) rfl ?_
  exact ⟨none, 0, 0, none, 0, 0, rfl, OpR.zero _, hT.2.2.2.2.grown hg9 hT.2.2.2.2.size (fun k hk => by cases hk; omega)⟩

set_option maxRecDepth 100000 in
set_option maxHeartbeats 40000000 in
theorem rg_4_ii (s : List UInt8) (a : Nat) (e : Int) (w : World) (a0 : Nat) (e0 : Int) (cB : ∀ W, Calls Try.prog 103 #[.agg #[.string (txt s), .int .i64 a, .int .i64 e]] W fun o w' => o = .returned (.tuple #[.agg #[.string (txt s), .int .i64 a0, .int .i64 e0], .int .i64 4]) ∧ Below W.heap.size W w') (P : List UInt8) (a1 : Nat) (e1 : Int) (lP : P.length ≤ 200) (c1 : ∀ W, Calls Try.prog 105 #[.agg #[.string (txt s), .int .i64 a0, .int .i64 e0], .int .i64 200] W fun o w' => o = .returned (.tuple #[.agg #[.string (txt s), .int .i64 a1, .int .i64 e1], .string (txt P)]) ∧ Below W.heap.size W w') (T : List UInt8) (a2 : Nat) (e2 : Int) (lT : T.length ≤ 200) (c2 : ∀ W, Calls Try.prog 105 #[.agg #[.string (txt s), .int .i64 a1, .int .i64 e1], .int .i64 200] W fun o w' => o = .returned (.tuple #[.agg #[.string (txt s), .int .i64 a2, .int .i64 e2], .string (txt T)]) ∧ Below W.heap.size W w') (hE : opE ⟨4, P, T, 0, [], [], zeroB, 0⟩ = 0) (he : e2 ≠ 0) :
    Calls Try.prog 58 #[.agg #[.string (txt s), .int .i64 a, .int .i64 e]] w fun o w' => RgP s a2 e2 opZ w o w' := by
  have hI := RgI.start s a e w
  have cR : ∀ (W : World) , Calls Try.prog 54 #[.agg (opC ⟨4, P, T, 0, [], [], zeroB, 0⟩ none 0 0 none 0 0)] W fun o w' => o = .returned (.int .i64 0) ∧ Below W.heap.size W w' := fun W => by
    have q := rr13_any ⟨4, P, T, 0, [], [], zeroB, 0⟩ rfl none 0 0 rfl (by decide) none 0 0 rfl (by decide) (Nat.le_trans lP (by decide)) (Nat.le_trans lT (by decide)) (by simp) (by simp) W (Rd.nil_ _ _) (Rd.nil_ _ _)
    rwa [hE] at q
  have hen : (e2 != 0) = true := by simpa using he
  clear hE
  have hIS : ∀ A n c B m d, (Try.prog.info? 74).map (·.size) = some (opC opZ A n c B m d).size := fun _ _ _ _ _ _ => by rw [opC_size _ _ _ _ _ _ _ rfl]; exact infoOp
  have hOS : ∀ A n c B m d, (opC opZ none 0 0 none 0 0).size = (opC opZ A n c B m d).size := fun _ _ _ _ _ _ => (opC_size _ _ _ _ _ _ _ rfl).trans (opC_size _ _ _ _ _ _ _ rfl).symm
  go_enter Try.func58, Try.ntmps58
  go_wp2_with (fail)
  rw [← opC_lit 0, show (⟨0, [], [], 0, [], [], zeroB, 0⟩ : OpD) = opZ from rfl]
  generalize ((w.alloc (.cells #[.string (txt s), .int .i64 a, .int .i64 e] 69)).alloc (.cells #[.string ⟨#[]⟩, .int .i64 0, .int .i64 0] 69)).alloc (.cells (opC opZ none 0 0 none 0 0) 74) = W0 at *
  refine (cB W0).mono ?_
  rintro o1 w1 ⟨rfl, h1⟩
  replace hI := hI.below h1
  clear h1 cB
  go_wp2_with (first
    | ((with_reducible refine wpList_store_rv rfl _ _ rfl w.heap.size _ _ _ _ hI.rb rfl rfl rfl ?_); intro v1 x1 y1; replace hI := hI.setr x1 y1; have hS := hI.open_ 4; clear x1 y1; have x0 := hS.box.c0; have k0 := hS.rb.cell_ (i := 0) rfl; have k1 := hS.rb.cell_ (i := 1) rfl; have k2 := hS.rb.cell_ (i := 2) rfl)
    | (with_reducible refine wpList_build_op rfl _ rfl 4 (by with_unfolding_all rfl) ?_)
    | (with_reducible refine wpList_store_new rfl 74 _ _ rfl (opC ⟨4, [], [], 0, [], [], zeroB, 0⟩ none 0 0 none 0 0) rfl rfl ?s2 ?s3 (opC_one _ _ _ _ _ _ _) ?_))
  case s2 => first | (rw [opC_size _ _ _ _ _ _ _ rfl]; exact infoOp) | (obtain ⟨i, hi, hz⟩ := Option.map_eq_some_iff.1 infoOp; exact ⟨i, hi, by rw [opC_size _ _ _ _ _ _ _ rfl]; exact hz⟩)
  case s3 => first | done | (rw [opC_size _ _ _ _ _ _ _ rfl]; done) | (rw [opC_size _ _ _ _ _ _ _ rfl]; rfl)
  clear x0 k0 k1 k2 hI
  generalize v1.alloc (.cells (opC ⟨4, [], [], 0, [], [], zeroB, 0⟩ none 0 0 none 0 0) 74) = W1 at *
  generalize v1.heap.size = ox at *
  have k0 := hS.rb.cell_ (i := 0) rfl
  have k1 := hS.rb.cell_ (i := 1) rfl
  have k2 := hS.rb.cell_ (i := 2) rfl
  go_wp2_with (first
    | (go_at_call 105; (with_reducible refine (c1 _).mono ?_); rintro o1 w1 ⟨rfl, hb⟩; replace hS := hS.below hb; clear hb; clear k0 k1 k2)
    | ((with_reducible refine wpList_store_rv rfl _ _ rfl w.heap.size _ _ a1 e1 hS.rb rfl rfl rfl ?_); intro v1 x1 y1; replace hS := hS.setr x1 y1; clear x1 y1; have y := hS.box.c1; have y' := hS.box.b.frozen 1; replace hS : RgS w _ s _ _ ox ⟨4, P, [], 0, [], [], zeroB, 0⟩ none 0 0 none 0 0 := hS.set1 P; have k0 := hS.rb.cell_ (i := 0) rfl; have k1 := hS.rb.cell_ (i := 1) rfl; have k2 := hS.rb.cell_ (i := 2) rfl)
    | (go_at_call 105; (with_reducible refine (c2 _).mono ?_); rintro o1 w1 ⟨rfl, hb⟩; replace hS := hS.below hb; clear hb; clear k0 k1 k2)
    | ((with_reducible refine wpList_store_rv rfl _ _ rfl w.heap.size _ _ a2 e2 hS.rb rfl rfl rfl ?_); intro v1 x1 y1; replace hS := hS.setr x1 y1; clear x1 y1; have y := hS.box.c2; have y' := hS.box.b.frozen 2; replace hS : RgS w _ s _ _ ox ⟨4, P, T, 0, [], [], zeroB, 0⟩ none 0 0 none 0 0 := hS.set2 T; have k0 := hS.rb.cell_ (i := 0) rfl; have k1 := hS.rb.cell_ (i := 1) rfl; have k2 := hS.rb.cell_ (i := 2) rfl)
    | (with_reducible refine wpList_load_opx (by with_unfolding_all rfl) _ rfl _ rfl hS.box hS.hK ?_)
    | (go_at_call 54; (with_reducible refine (cR _).mono ?_); rintro o1 w1 ⟨rfl, hb⟩; replace hS := hS.below hb; clear hb; clear k0 k1 k2; have k0 := hS.rb.cell_ (i := 0) rfl; have k1 := hS.rb.cell_ (i := 1) rfl; have k2 := hS.rb.cell_ (i := 2) rfl)
    | (with_reducible refine wpList_build_op0 rfl rfl ?_)
    | ((with_reducible refine wpList_store_rv rfl _ _ rfl (w.heap.size + 1) _ _ _ _ hS.r1 rfl rfl rfl ?_); intro v8 x8 y8; have hT := hS.last x8 y8; have hX8 := blk_gb hS.box.b y8 (by have := hS.hox; omega); clear k0 k1 k2)
    | (with_reducible refine wpList_store_blk rfl 74 _ _ rfl (w.heap.size + 1 + 1) _ _ 74 hT.2.1 rfl rfl (hIS _ _ _ _ _ _) (hOS _ _ _ _ _ _) (opC_one _ _ _ _ _ _ _) ?_))
  intro w9 hb9 hg9
  go_wp2
  have hb8 := blk_gb hT.1 hg9 (by omega)
  refine bodyPost_ret (results_rows rfl _ _ _ _ _ _ _ _ _ _ _ _ rfl hb8 Try.underlying69 rfl infoR3 rfl hb9 Try.underlying74 rfl (hIS _ _ _ _ _ _)) rfl ?_
  exact ⟨none, 0, 0, none, 0, 0, rfl, OpR.zero _, hT.2.2.2.2.grown hg9 hT.2.2.2.2.size (fun k hk => by cases hk; omega)⟩

set_option maxRecDepth 100000 in
set_option maxHeartbeats 40000000 in
theorem rg_4_iii (s : List UInt8) (a : Nat) (e : Int) (w : World) (a0 : Nat) (e0 : Int) (cB : ∀ W, Calls Try.prog 103 #[.agg #[.string (txt s), .int .i64 a, .int .i64 e]] W fun o w' => o = .returned (.tuple #[.agg #[.string (txt s), .int .i64 a0, .int .i64 e0], .int .i64 4]) ∧ Below W.heap.size W w') (P : List UInt8) (a1 : Nat) (e1 : Int) (lP : P.length ≤ 200) (c1 : ∀ W, Calls Try.prog 105 #[.agg #[.string (txt s), .int .i64 a0, .int .i64 e0], .int .i64 200] W fun o w' => o = .returned (.tuple #[.agg #[.string (txt s), .int .i64 a1, .int .i64 e1], .string (txt P)]) ∧ Below W.heap.size W w') (T : List UInt8) (a2 : Nat) (e2 : Int) (lT : T.length ≤ 200) (c2 : ∀ W, Calls Try.prog 105 #[.agg #[.string (txt s), .int .i64 a1, .int .i64 e1], .int .i64 200] W fun o w' => o = .returned (.tuple #[.agg #[.string (txt s), .int .i64 a2, .int .i64 e2], .string (txt T)]) ∧ Below W.heap.size W w') (hE : opE ⟨4, P, T, 0, [], [], zeroB, 0⟩ = 0) (he : e2 = 0) :
    Calls Try.prog 58 #[.agg #[.string (txt s), .int .i64 a, .int .i64 e]] w fun o w' => RgP s a2 e2 (⟨4, P, T, 0, [], [], zeroB, 0⟩ : OpD) w o w' := by
  have hI := RgI.start s a e w
  have cR : ∀ (W : World) , Calls Try.prog 54 #[.agg (opC ⟨4, P, T, 0, [], [], zeroB, 0⟩ none 0 0 none 0 0)] W fun o w' => o = .returned (.int .i64 0) ∧ Below W.heap.size W w' := fun W => by
    have q := rr13_any ⟨4, P, T, 0, [], [], zeroB, 0⟩ rfl none 0 0 rfl (by decide) none 0 0 rfl (by decide) (Nat.le_trans lP (by decide)) (Nat.le_trans lT (by decide)) (by simp) (by simp) W (Rd.nil_ _ _) (Rd.nil_ _ _)
    rwa [hE] at q
  subst he
  clear hE
  have hIS : ∀ A n c B m d, (Try.prog.info? 74).map (·.size) = some (opC ⟨4, P, T, 0, [], [], zeroB, 0⟩ A n c B m d).size := fun _ _ _ _ _ _ => by rw [opC_size _ _ _ _ _ _ _ rfl]; exact infoOp
  have hOS : ∀ A n c B m d, (opC opZ none 0 0 none 0 0).size = (opC ⟨4, P, T, 0, [], [], zeroB, 0⟩ A n c B m d).size := fun _ _ _ _ _ _ => (opC_size _ _ _ _ _ _ _ rfl).trans (opC_size _ _ _ _ _ _ _ rfl).symm
  go_enter Try.func58, Try.ntmps58
  go_wp2_with (fail)
  rw [← opC_lit 0, show (⟨0, [], [], 0, [], [], zeroB, 0⟩ : OpD) = opZ from rfl]
  generalize ((w.alloc (.cells #[.string (txt s), .int .i64 a, .int .i64 e] 69)).alloc (.cells #[.string ⟨#[]⟩, .int .i64 0, .int .i64 0] 69)).alloc (.cells (opC opZ none 0 0 none 0 0) 74) = W0 at *
  refine (cB W0).mono ?_
  rintro o1 w1 ⟨rfl, h1⟩
  replace hI := hI.below h1
  clear h1 cB
  go_wp2_with (first
    | ((with_reducible refine wpList_store_rv rfl _ _ rfl w.heap.size _ _ _ _ hI.rb rfl rfl rfl ?_); intro v1 x1 y1; replace hI := hI.setr x1 y1; have hS := hI.open_ 4; clear x1 y1; have x0 := hS.box.c0; have k0 := hS.rb.cell_ (i := 0) rfl; have k1 := hS.rb.cell_ (i := 1) rfl; have k2 := hS.rb.cell_ (i := 2) rfl)
    | (with_reducible refine wpList_build_op rfl _ rfl 4 (by with_unfolding_all rfl) ?_)
    | (with_reducible refine wpList_store_new rfl 74 _ _ rfl (opC ⟨4, [], [], 0, [], [], zeroB, 0⟩ none 0 0 none 0 0) rfl rfl ?s2 ?s3 (opC_one _ _ _ _ _ _ _) ?_))
  case s2 => first | (rw [opC_size _ _ _ _ _ _ _ rfl]; exact infoOp) | (obtain ⟨i, hi, hz⟩ := Option.map_eq_some_iff.1 infoOp; exact ⟨i, hi, by rw [opC_size _ _ _ _ _ _ _ rfl]; exact hz⟩)
  case s3 => first | done | (rw [opC_size _ _ _ _ _ _ _ rfl]; done) | (rw [opC_size _ _ _ _ _ _ _ rfl]; rfl)
  clear x0 k0 k1 k2 hI
  generalize v1.alloc (.cells (opC ⟨4, [], [], 0, [], [], zeroB, 0⟩ none 0 0 none 0 0) 74) = W1 at *
  generalize v1.heap.size = ox at *
  have k0 := hS.rb.cell_ (i := 0) rfl
  have k1 := hS.rb.cell_ (i := 1) rfl
  have k2 := hS.rb.cell_ (i := 2) rfl
  go_wp2_with (first
    | (go_at_call 105; (with_reducible refine (c1 _).mono ?_); rintro o1 w1 ⟨rfl, hb⟩; replace hS := hS.below hb; clear hb; clear k0 k1 k2)
    | ((with_reducible refine wpList_store_rv rfl _ _ rfl w.heap.size _ _ a1 e1 hS.rb rfl rfl rfl ?_); intro v1 x1 y1; replace hS := hS.setr x1 y1; clear x1 y1; have y := hS.box.c1; have y' := hS.box.b.frozen 1; replace hS : RgS w _ s _ _ ox ⟨4, P, [], 0, [], [], zeroB, 0⟩ none 0 0 none 0 0 := hS.set1 P; have k0 := hS.rb.cell_ (i := 0) rfl; have k1 := hS.rb.cell_ (i := 1) rfl; have k2 := hS.rb.cell_ (i := 2) rfl)
    | (go_at_call 105; (with_reducible refine (c2 _).mono ?_); rintro o1 w1 ⟨rfl, hb⟩; replace hS := hS.below hb; clear hb; clear k0 k1 k2)
    | ((with_reducible refine wpList_store_rv rfl _ _ rfl w.heap.size _ _ a2 0 hS.rb rfl rfl rfl ?_); intro v1 x1 y1; replace hS := hS.setr x1 y1; clear x1 y1; have y := hS.box.c2; have y' := hS.box.b.frozen 2; replace hS : RgS w _ s _ _ ox ⟨4, P, T, 0, [], [], zeroB, 0⟩ none 0 0 none 0 0 := hS.set2 T; have k0 := hS.rb.cell_ (i := 0) rfl; have k1 := hS.rb.cell_ (i := 1) rfl; have k2 := hS.rb.cell_ (i := 2) rfl)
    | (with_reducible refine wpList_load_opx (by with_unfolding_all rfl) _ rfl _ rfl hS.box hS.hK ?_)
    | (go_at_call 54; (with_reducible refine (cR _).mono ?_); rintro o1 w1 ⟨rfl, hb⟩; replace hS := hS.below hb; clear hb; clear k0 k1 k2; have k0 := hS.rb.cell_ (i := 0) rfl; have k1 := hS.rb.cell_ (i := 1) rfl; have k2 := hS.rb.cell_ (i := 2) rfl))
  refine wp_region_each (by kernel_rfl) [[0, 1, 2, 3], [0, 2, 1, 3], [1, 0, 2, 3]] (by kernel_rfl) (by kernel_rfl) ?_
  replace hS := hS.below (below_drew1 _)
  clear k0 k1 k2
  generalize w1.drew = W5 at *
  have k0 := hS.rb.cell_ (i := 0) rfl
  have k1 := hS.rb.cell_ (i := 1) rfl
  have k2 := hS.rb.cell_ (i := 2) rfl
  intro os hos
  simp [listsOf] at hos
  rcases hos with rfl | rfl | rfl
  all_goals
    go_wp2_with (first
      | (with_reducible refine wpList_load_opx (by with_unfolding_all rfl) _ rfl _ rfl hS.box hS.hK ?_)
      | (with_reducible refine wpList_load_opx (by with_unfolding_all rfl) _ rfl _ rfl (OpX.mk hX8) hS.hK ?_)
      | ((with_reducible refine wpList_store_rv rfl _ _ rfl (w.heap.size + 1) _ _ _ _ hS.r1 rfl rfl rfl ?_); intro v8 x8 y8; have hT := hS.last x8 y8; have hX8 := blk_gb hS.box.b y8 (by have := hS.hox; omega); clear k0 k1 k2)
      | (with_reducible refine wpList_store_blk rfl 74 _ _ rfl (w.heap.size + 1 + 1) _ _ 74 hT.2.1 rfl rfl (hIS _ _ _ _ _ _) (hOS _ _ _ _ _ _) (opC_one _ _ _ _ _ _ _) ?_))
    intro w9 hb9 hg9
    go_wp2
    have hb8 := blk_gb hT.1 hg9 (by omega)
    refine bodyPost_ret (results_rows rfl _ _ _ _ _ _ _ _ _ _ _ _ rfl hb8 Try.underlying69 rfl infoR3 rfl hb9 Try.underlying74 rfl (hIS _ _ _ _ _ _)) rfl ?_
    have ow1 := hT.2.2.1.kept hg9 (.inr (Lib.ownBlock_ne hT.2.2.1 hT.2.1 (by decide)))
    have ow2 := hT.2.2.2.1.kept hg9 (.inr (Lib.ownBlock_ne hT.2.2.2.1 hT.2.1 (by decide)))
    refine ⟨_, _, _, _, _, _, rfl, ⟨(own_rd ow1).1, ?_, ?_, (own_rd ow2).1, ?_, ?_, (own_rd ow1).2, (own_rd ow2).2, hS.hK, ?_, ?_⟩, hT.2.2.2.2.grown hg9 hT.2.2.2.2.size (fun k hk => by cases hk; omega)⟩
    · decide
    · simp
    · decide
    · simp
    · exact Nat.le_trans lP (by decide)
    · exact Nat.le_trans lT (by decide)

set_option maxRecDepth 100000 in
set_option maxHeartbeats 40000000 in
theorem rg_5_i (s : List UInt8) (a : Nat) (e : Int) (w : World) (a0 : Nat) (e0 : Int) (cB : ∀ W, Calls Try.prog 103 #[.agg #[.string (txt s), .int .i64 a, .int .i64 e]] W fun o w' => o = .returned (.tuple #[.agg #[.string (txt s), .int .i64 a0, .int .i64 e0], .int .i64 5]) ∧ Below W.heap.size W w') (P : List UInt8) (a1 : Nat) (e1 : Int) (lP : P.length ≤ 200) (c1 : ∀ W, Calls Try.prog 105 #[.agg #[.string (txt s), .int .i64 a0, .int .i64 e0], .int .i64 200] W fun o w' => o = .returned (.tuple #[.agg #[.string (txt s), .int .i64 a1, .int .i64 e1], .string (txt P)]) ∧ Below W.heap.size W w') (K : List UInt8) (a2 : Nat) (e2 : Int) (lK : K.length = 32) (c2 : ∀ W, Calls Try.prog 107 #[.agg #[.string (txt s), .int .i64 a1, .int .i64 e1]] W fun o w' => o = .returned (.tuple #[.agg #[.string (txt s), .int .i64 a2, .int .i64 e2], .agg (K.map u8v).toArray]) ∧ Below W.heap.size W w') (M : Nat) (a3 : Nat) (e3 : Int) (c3 : ∀ W, Calls Try.prog 92 #[.agg #[.string (txt s), .int .i64 a2, .int .i64 e2]] W fun o w' => o = .returned (.tuple #[.agg #[.string (txt s), .int .i64 a3, .int .i64 e3], .int .i64 M]) ∧ Below W.heap.size W w') (E : Int) (hE : opE ⟨5, P, [], 0, [], [], K, (M : Int)⟩ = E) (hE0 : E ≠ 0) :
    Calls Try.prog 58 #[.agg #[.string (txt s), .int .i64 a, .int .i64 e]] w fun o w' => RgP s a3 (stopB e3 3) opZ w o w' := by
  have hI := RgI.start s a e w
  have cR : ∀ (W : World) , Calls Try.prog 54 #[.agg (opC ⟨5, P, [], 0, [], [], K, (M : Int)⟩ none 0 0 none 0 0)] W fun o w' => o = .returned (.int .i64 E) ∧ Below W.heap.size W w' := fun W => by
    have q := rr13_any ⟨5, P, [], 0, [], [], K, (M : Int)⟩ lK none 0 0 rfl (by decide) none 0 0 rfl (by decide) (Nat.le_trans lP (by decide)) (by simp) (by simp) (by simp) W (Rd.nil_ _ _) (Rd.nil_ _ _)
    rwa [hE] at q
  have hEn : (E != 0) = true := by simpa using hE0
  have hst : stopB e3 3 ≠ 0 := by unfold stopB; split <;> first | decide | assumption
  obtain ⟨ef, hef⟩ : ∃ ef, ef = stopB e3 3 := ⟨_, rfl⟩
  have hen : (ef != 0) = true := by rw [hef]; simpa using hst
  have cF : ∀ W, Calls Try.prog 104 #[.agg #[.string (txt s), .int .i64 a3, .int .i64 e3], .int .i64 3] W fun o w' => o = .returned (.agg #[.string (txt s), .int .i64 a3, .int .i64 ef]) ∧ Below W.heap.size W w' := fun W => by rw [hef]; exact rFail_any s a3 e3 3 W
  rw [← hef]
  clear hef hst
  clear hE
  have hHZ : (Try.prog.info? 24).map (·.size) = some (K.map u8v).toArray.size := by rw [List.size_toArray, List.length_map, lK]; exact sizeId
  have hK6 : 6 + (K.map u8v).toArray.size ≤ 39 := by rw [List.size_toArray, List.length_map, lK]; decide
  have h1K : ((K.map u8v).toArray).all (·.oneCell') = true := idVals_one K
  have hIS : ∀ A n c B m d, (Try.prog.info? 74).map (·.size) = some (opC opZ A n c B m d).size := fun _ _ _ _ _ _ => by rw [opC_size _ _ _ _ _ _ _ rfl]; exact infoOp
  have hOS : ∀ A n c B m d, (opC opZ none 0 0 none 0 0).size = (opC opZ A n c B m d).size := fun _ _ _ _ _ _ => (opC_size _ _ _ _ _ _ _ rfl).trans (opC_size _ _ _ _ _ _ _ rfl).symm
  go_enter Try.func58, Try.ntmps58
  go_wp2_with (fail)
  rw [← opC_lit 0, show (⟨0, [], [], 0, [], [], zeroB, 0⟩ : OpD) = opZ from rfl]
  generalize ((w.alloc (.cells #[.string (txt s), .int .i64 a, .int .i64 e] 69)).alloc (.cells #[.string ⟨#[]⟩, .int .i64 0, .int .i64 0] 69)).alloc (.cells (opC opZ none 0 0 none 0 0) 74) = W0 at *
  refine (cB W0).mono ?_
  rintro o1 w1 ⟨rfl, h1⟩
  replace hI := hI.below h1
  clear h1 cB
  go_wp2_with (first
    | ((with_reducible refine wpList_store_rv rfl _ _ rfl w.heap.size _ _ _ _ hI.rb rfl rfl rfl ?_); intro v1 x1 y1; replace hI := hI.setr x1 y1; have hS := hI.open_ 5; clear x1 y1; have x0 := hS.box.c0; have k0 := hS.rb.cell_ (i := 0) rfl; have k1 := hS.rb.cell_ (i := 1) rfl; have k2 := hS.rb.cell_ (i := 2) rfl)
    | (with_reducible refine wpList_build_op rfl _ rfl 5 (by with_unfolding_all rfl) ?_)
    | (with_reducible refine wpList_store_new rfl 74 _ _ rfl (opC ⟨5, [], [], 0, [], [], zeroB, 0⟩ none 0 0 none 0 0) rfl rfl ?s2 ?s3 (opC_one _ _ _ _ _ _ _) ?_))
  case s2 => first | (rw [opC_size _ _ _ _ _ _ _ rfl]; exact infoOp) | (obtain ⟨i, hi, hz⟩ := Option.map_eq_some_iff.1 infoOp; exact ⟨i, hi, by rw [opC_size _ _ _ _ _ _ _ rfl]; exact hz⟩)
  case s3 => first | done | (rw [opC_size _ _ _ _ _ _ _ rfl]; done) | (rw [opC_size _ _ _ _ _ _ _ rfl]; rfl)
  clear x0 k0 k1 k2 hI
  generalize v1.alloc (.cells (opC ⟨5, [], [], 0, [], [], zeroB, 0⟩ none 0 0 none 0 0) 74) = W1 at *
  generalize v1.heap.size = ox at *
  have k0 := hS.rb.cell_ (i := 0) rfl
  have k1 := hS.rb.cell_ (i := 1) rfl
  have k2 := hS.rb.cell_ (i := 2) rfl
  go_wp2_with (first
    | (go_at_call 105; (with_reducible refine (c1 _).mono ?_); rintro o1 w1 ⟨rfl, hb⟩; replace hS := hS.below hb; clear hb; clear k0 k1 k2)
    | ((with_reducible refine wpList_store_rv rfl _ _ rfl w.heap.size _ _ a1 e1 hS.rb rfl rfl rfl ?_); intro v1 x1 y1; replace hS := hS.setr x1 y1; clear x1 y1; have y := hS.box.c1; have y' := hS.box.b.frozen 1; replace hS : RgS w _ s _ _ ox ⟨5, P, [], 0, [], [], zeroB, 0⟩ none 0 0 none 0 0 := hS.set1 P; have k0 := hS.rb.cell_ (i := 0) rfl; have k1 := hS.rb.cell_ (i := 1) rfl; have k2 := hS.rb.cell_ (i := 2) rfl)
    | (go_at_call 107; (with_reducible refine (c2 _).mono ?_); rintro o1 w1 ⟨rfl, hb⟩; replace hS := hS.below hb; clear hb; clear k0 k1 k2)
    | ((with_reducible refine wpList_store_rv rfl _ _ rfl w.heap.size _ _ a2 e2 hS.rb rfl rfl rfl ?_); intro v1 x1 y1; replace hS := hS.setr x1 y1; clear x1 y1)
    | ((with_reducible refine wpList_store_at rfl 24 _ _ rfl ox 6 _ (K.map u8v).toArray 74 hS.box.b rfl rfl hHZ (by rw [opC_size _ _ _ _ _ _ _ hS.hK]; exact hK6) h1K ?_); intro w2 hb2 hg2; rw [List.toList_toArray] at hb2; replace hS : RgS w _ s _ _ ox ⟨5, P, [], 0, [], [], K, 0⟩ none 0 0 none 0 0 := hS.setK K lK hb2 hg2; clear hb2 hg2; have k0 := hS.rb.cell_ (i := 0) rfl; have k1 := hS.rb.cell_ (i := 1) rfl; have k2 := hS.rb.cell_ (i := 2) rfl)
    | (go_at_call 92; (with_reducible refine (c3 _).mono ?_); rintro o1 w1 ⟨rfl, hb⟩; replace hS := hS.below hb; clear hb; clear k0 k1 k2)
    | ((with_reducible refine wpList_store_rv rfl _ _ rfl w.heap.size _ _ a3 e3 hS.rb rfl rfl rfl ?_); intro v1 x1 y1; replace hS := hS.setr x1 y1; clear x1 y1; have y := hS.box.c38 hS.hK; have y' := hS.box.b.frozen 38; replace hS : RgS w _ s _ _ ox ⟨5, P, [], 0, [], [], K, (M : Int)⟩ none 0 0 none 0 0 := hS.set38 (M : Int); have k0 := hS.rb.cell_ (i := 0) rfl; have k1 := hS.rb.cell_ (i := 1) rfl; have k2 := hS.rb.cell_ (i := 2) rfl)
    | (with_reducible refine wpList_load_opx (by with_unfolding_all rfl) _ rfl _ rfl hS.box hS.hK ?_)
    | (go_at_call 54; (with_reducible refine (cR _).mono ?_); rintro o1 w1 ⟨rfl, hb⟩; replace hS := hS.below hb; clear hb; clear k0 k1 k2; have k0 := hS.rb.cell_ (i := 0) rfl; have k1 := hS.rb.cell_ (i := 1) rfl; have k2 := hS.rb.cell_ (i := 2) rfl)
    | (go_at_call 104; (with_reducible refine (cF _).mono ?_); rintro o1 w1 ⟨rfl, hb⟩; replace hS := hS.below hb; clear hb; clear k0 k1 k2)
    | ((with_reducible refine wpList_store_rv rfl _ _ rfl w.heap.size _ _ _ ef hS.rb rfl rfl rfl ?_); intro v1 x1 y1; replace hS := hS.setr x1 y1; clear x1 y1; have k0 := hS.rb.cell_ (i := 0) rfl; have k1 := hS.rb.cell_ (i := 1) rfl; have k2 := hS.rb.cell_ (i := 2) rfl)
    | (with_reducible refine wpList_build_op0 rfl rfl ?_)
    | ((with_reducible refine wpList_store_rv rfl _ _ rfl (w.heap.size + 1) _ _ _ _ hS.r1 rfl rfl rfl ?_); intro v8 x8 y8; have hT := hS.last x8 y8; have hX8 := blk_gb hS.box.b y8 (by have := hS.hox; omega); clear k0 k1 k2)
    | (with_reducible refine wpList_store_blk rfl 74 _ _ rfl (w.heap.size + 1 + 1) _ _ 74 hT.2.1 rfl rfl (hIS _ _ _ _ _ _) (hOS _ _ _ _ _ _) (opC_one _ _ _ _ _ _ _) ?_))
  intro w9 hb9 hg9
  go_wp2
  have hb8 := blk_gb hT.1 hg9 (by omega)
  refine bodyPost_ret (results_rows rfl _ _ _ _ _ _ _ _ _ _ _ _ rfl hb8 Try.underlying69 rfl infoR3 rfl hb9 Try.underlying74 rfl (hIS _ _ _ _ _ _)) rfl ?_
  exact ⟨none, 0, 0, none, 0, 0, rfl, OpR.zero _, hT.2.2.2.2.grown hg9 hT.2.2.2.2.size (fun k hk => by cases hk; omega)⟩

set_option maxRecDepth 100000 in
set_option maxHeartbeats 40000000 in
theorem rg_5_ii (s : List UInt8) (a : Nat) (e : Int) (w : World) (a0 : Nat) (e0 : Int) (cB : ∀ W, Calls Try.prog 103 #[.agg #[.string (txt s), .int .i64 a, .int .i64 e]] W fun o w' => o = .returned (.tuple #[.agg #[.string (txt s), .int .i64 a0, .int .i64 e0], .int .i64 5]) ∧ Below W.heap.size W w') (P : List UInt8) (a1 : Nat) (e1 : Int) (lP : P.length ≤ 200) (c1 : ∀ W, Calls Try.prog 105 #[.agg #[.string (txt s), .int .i64 a0, .int .i64 e0], .int .i64 200] W fun o w' => o = .returned (.tuple #[.agg #[.string (txt s), .int .i64 a1, .int .i64 e1], .string (txt P)]) ∧ Below W.heap.size W w') (K : List UInt8) (a2 : Nat) (e2 : Int) (lK : K.length = 32) (c2 : ∀ W, Calls Try.prog 107 #[.agg #[.string (txt s), .int .i64 a1, .int .i64 e1]] W fun o w' => o = .returned (.tuple #[.agg #[.string (txt s), .int .i64 a2, .int .i64 e2], .agg (K.map u8v).toArray]) ∧ Below W.heap.size W w') (M : Nat) (a3 : Nat) (e3 : Int) (c3 : ∀ W, Calls Try.prog 92 #[.agg #[.string (txt s), .int .i64 a2, .int .i64 e2]] W fun o w' => o = .returned (.tuple #[.agg #[.string (txt s), .int .i64 a3, .int .i64 e3], .int .i64 M]) ∧ Below W.heap.size W w') (hE : opE ⟨5, P, [], 0, [], [], K, (M : Int)⟩ = 0) (he : e3 ≠ 0) :
    Calls Try.prog 58 #[.agg #[.string (txt s), .int .i64 a, .int .i64 e]] w fun o w' => RgP s a3 e3 opZ w o w' := by
  have hI := RgI.start s a e w
  have cR : ∀ (W : World) , Calls Try.prog 54 #[.agg (opC ⟨5, P, [], 0, [], [], K, (M : Int)⟩ none 0 0 none 0 0)] W fun o w' => o = .returned (.int .i64 0) ∧ Below W.heap.size W w' := fun W => by
    have q := rr13_any ⟨5, P, [], 0, [], [], K, (M : Int)⟩ lK none 0 0 rfl (by decide) none 0 0 rfl (by decide) (Nat.le_trans lP (by decide)) (by simp) (by simp) (by simp) W (Rd.nil_ _ _) (Rd.nil_ _ _)
    rwa [hE] at q
  have hen : (e3 != 0) = true := by simpa using he
  clear hE
  have hHZ : (Try.prog.info? 24).map (·.size) = some (K.map u8v).toArray.size := by rw [List.size_toArray, List.length_map, lK]; exact sizeId
  have hK6 : 6 + (K.map u8v).toArray.size ≤ 39 := by rw [List.size_toArray, List.length_map, lK]; decide
  have h1K : ((K.map u8v).toArray).all (·.oneCell') = true := idVals_one K
  have hIS : ∀ A n c B m d, (Try.prog.info? 74).map (·.size) = some (opC opZ A n c B m d).size := fun _ _ _ _ _ _ => by rw [opC_size _ _ _ _ _ _ _ rfl]; exact infoOp
  have hOS : ∀ A n c B m d, (opC opZ none 0 0 none 0 0).size = (opC opZ A n c B m d).size := fun _ _ _ _ _ _ => (opC_size _ _ _ _ _ _ _ rfl).trans (opC_size _ _ _ _ _ _ _ rfl).symm
  go_enter Try.func58, Try.ntmps58
  go_wp2_with (fail)
  rw [← opC_lit 0, show (⟨0, [], [], 0, [], [], zeroB, 0⟩ : OpD) = opZ from rfl]
  generalize ((w.alloc (.cells #[.string (txt s), .int .i64 a, .int .i64 e] 69)).alloc (.cells #[.string ⟨#[]⟩, .int .i64 0, .int .i64 0] 69)).alloc (.cells (opC opZ none 0 0 none 0 0) 74) = W0 at *
  refine (cB W0).mono ?_
  rintro o1 w1 ⟨rfl, h1⟩
  replace hI := hI.below h1
  clear h1 cB
  go_wp2_with (first
    | ((with_reducible refine wpList_store_rv rfl _ _ rfl w.heap.size _ _ _ _ hI.rb rfl rfl rfl ?_); intro v1 x1 y1; replace hI := hI.setr x1 y1; have hS := hI.open_ 5; clear x1 y1; have x0 := hS.box.c0; have k0 := hS.rb.cell_ (i := 0) rfl; have k1 := hS.rb.cell_ (i := 1) rfl; have k2 := hS.rb.cell_ (i := 2) rfl)
    | (with_reducible refine wpList_build_op rfl _ rfl 5 (by with_unfolding_all rfl) ?_)
    | (with_reducible refine wpList_store_new rfl 74 _ _ rfl (opC ⟨5, [], [], 0, [], [], zeroB, 0⟩ none 0 0 none 0 0) rfl rfl ?s2 ?s3 (opC_one _ _ _ _ _ _ _) ?_))
  case s2 => first | (rw [opC_size _ _ _ _ _ _ _ rfl]; exact infoOp) | (obtain ⟨i, hi, hz⟩ := Option.map_eq_some_iff.1 infoOp; exact ⟨i, hi, by rw [opC_size _ _ _ _ _ _ _ rfl]; exact hz⟩)
  case s3 => first | done | (rw [opC_size _ _ _ _ _ _ _ rfl]; done) | (rw [opC_size _ _ _ _ _ _ _ rfl]; rfl)
  clear x0 k0 k1 k2 hI
  generalize v1.alloc (.cells (opC ⟨5, [], [], 0, [], [], zeroB, 0⟩ none 0 0 none 0 0) 74) = W1 at *
  generalize v1.heap.size = ox at *
  have k0 := hS.rb.cell_ (i := 0) rfl
  have k1 := hS.rb.cell_ (i := 1) rfl
  have k2 := hS.rb.cell_ (i := 2) rfl
  go_wp2_with (first
    | (go_at_call 105; (with_reducible refine (c1 _).mono ?_); rintro o1 w1 ⟨rfl, hb⟩; replace hS := hS.below hb; clear hb; clear k0 k1 k2)
    | ((with_reducible refine wpList_store_rv rfl _ _ rfl w.heap.size _ _ a1 e1 hS.rb rfl rfl rfl ?_); intro v1 x1 y1; replace hS := hS.setr x1 y1; clear x1 y1; have y := hS.box.c1; have y' := hS.box.b.frozen 1; replace hS : RgS w _ s _ _ ox ⟨5, P, [], 0, [], [], zeroB, 0⟩ none 0 0 none 0 0 := hS.set1 P; have k0 := hS.rb.cell_ (i := 0) rfl; have k1 := hS.rb.cell_ (i := 1) rfl; have k2 := hS.rb.cell_ (i := 2) rfl)
    | (go_at_call 107; (with_reducible refine (c2 _).mono ?_); rintro o1 w1 ⟨rfl, hb⟩; replace hS := hS.below hb; clear hb; clear k0 k1 k2)
    | ((with_reducible refine wpList_store_rv rfl _ _ rfl w.heap.size _ _ a2 e2 hS.rb rfl rfl rfl ?_); intro v1 x1 y1; replace hS := hS.setr x1 y1; clear x1 y1)
    | ((with_reducible refine wpList_store_at rfl 24 _ _ rfl ox 6 _ (K.map u8v).toArray 74 hS.box.b rfl rfl hHZ (by rw [opC_size _ _ _ _ _ _ _ hS.hK]; exact hK6) h1K ?_); intro w2 hb2 hg2; rw [List.toList_toArray] at hb2; replace hS : RgS w _ s _ _ ox ⟨5, P, [], 0, [], [], K, 0⟩ none 0 0 none 0 0 := hS.setK K lK hb2 hg2; clear hb2 hg2; have k0 := hS.rb.cell_ (i := 0) rfl; have k1 := hS.rb.cell_ (i := 1) rfl; have k2 := hS.rb.cell_ (i := 2) rfl)
    | (go_at_call 92; (with_reducible refine (c3 _).mono ?_); rintro o1 w1 ⟨rfl, hb⟩; replace hS := hS.below hb; clear hb; clear k0 k1 k2)
    | ((with_reducible refine wpList_store_rv rfl _ _ rfl w.heap.size _ _ a3 e3 hS.rb rfl rfl rfl ?_); intro v1 x1 y1; replace hS := hS.setr x1 y1; clear x1 y1; have y := hS.box.c38 hS.hK; have y' := hS.box.b.frozen 38; replace hS : RgS w _ s _ _ ox ⟨5, P, [], 0, [], [], K, (M : Int)⟩ none 0 0 none 0 0 := hS.set38 (M : Int); have k0 := hS.rb.cell_ (i := 0) rfl; have k1 := hS.rb.cell_ (i := 1) rfl; have k2 := hS.rb.cell_ (i := 2) rfl)
    | (with_reducible refine wpList_load_opx (by with_unfolding_all rfl) _ rfl _ rfl hS.box hS.hK ?_)
    | (go_at_call 54; (with_reducible refine (cR _).mono ?_); rintro o1 w1 ⟨rfl, hb⟩; replace hS := hS.below hb; clear hb; clear k0 k1 k2; have k0 := hS.rb.cell_ (i := 0) rfl; have k1 := hS.rb.cell_ (i := 1) rfl; have k2 := hS.rb.cell_ (i := 2) rfl)
    | (with_reducible refine wpList_build_op0 rfl rfl ?_)
    | ((with_reducible refine wpList_store_rv rfl _ _ rfl (w.heap.size + 1) _ _ _ _ hS.r1 rfl rfl rfl ?_); intro v8 x8 y8; have hT := hS.last x8 y8; have hX8 := blk_gb hS.box.b y8 (by have := hS.hox; omega); clear k0 k1 k2)
    | (with_reducible refine wpList_store_blk rfl 74 _ _ rfl (w.heap.size + 1 + 1) _ _ 74 hT.2.1 rfl rfl (hIS _ _ _ _ _ _) (hOS _ _ _ _ _ _) (opC_one _ _ _ _ _ _ _) ?_))
  intro w9 hb9 hg9
  go_wp2
  have hb8 := blk_gb hT.1 hg9 (by omega)
  refine bodyPost_ret (results_rows rfl _ _ _ _ _ _ _ _ _ _ _ _ rfl hb8 Try.underlying69 rfl infoR3 rfl hb9 Try.underlying74 rfl (hIS _ _ _ _ _ _)) rfl ?_
  exact ⟨none, 0, 0, none, 0, 0, rfl, OpR.zero _, hT.2.2.2.2.grown hg9 hT.2.2.2.2.size (fun k hk => by cases hk; omega)⟩

set_option maxRecDepth 100000 in
set_option maxHeartbeats 40000000 in
theorem rg_5_iii (s : List UInt8) (a : Nat) (e : Int) (w : World) (a0 : Nat) (e0 : Int) (cB : ∀ W, Calls Try.prog 103 #[.agg #[.string (txt s), .int .i64 a, .int .i64 e]] W fun o w' => o = .returned (.tuple #[.agg #[.string (txt s), .int .i64 a0, .int .i64 e0], .int .i64 5]) ∧ Below W.heap.size W w') (P : List UInt8) (a1 : Nat) (e1 : Int) (lP : P.length ≤ 200) (c1 : ∀ W, Calls Try.prog 105 #[.agg #[.string (txt s), .int .i64 a0, .int .i64 e0], .int .i64 200] W fun o w' => o = .returned (.tuple #[.agg #[.string (txt s), .int .i64 a1, .int .i64 e1], .string (txt P)]) ∧ Below W.heap.size W w') (K : List UInt8) (a2 : Nat) (e2 : Int) (lK : K.length = 32) (c2 : ∀ W, Calls Try.prog 107 #[.agg #[.string (txt s), .int .i64 a1, .int .i64 e1]] W fun o w' => o = .returned (.tuple #[.agg #[.string (txt s), .int .i64 a2, .int .i64 e2], .agg (K.map u8v).toArray]) ∧ Below W.heap.size W w') (M : Nat) (a3 : Nat) (e3 : Int) (c3 : ∀ W, Calls Try.prog 92 #[.agg #[.string (txt s), .int .i64 a2, .int .i64 e2]] W fun o w' => o = .returned (.tuple #[.agg #[.string (txt s), .int .i64 a3, .int .i64 e3], .int .i64 M]) ∧ Below W.heap.size W w') (hE : opE ⟨5, P, [], 0, [], [], K, (M : Int)⟩ = 0) (he : e3 = 0) :
    Calls Try.prog 58 #[.agg #[.string (txt s), .int .i64 a, .int .i64 e]] w fun o w' => RgP s a3 e3 (⟨5, P, [], 0, [], [], K, (M : Int)⟩ : OpD) w o w' := by
  have hI := RgI.start s a e w
  have cR : ∀ (W : World) , Calls Try.prog 54 #[.agg (opC ⟨5, P, [], 0, [], [], K, (M : Int)⟩ none 0 0 none 0 0)] W fun o w' => o = .returned (.int .i64 0) ∧ Below W.heap.size W w' := fun W => by
    have q := rr13_any ⟨5, P, [], 0, [], [], K, (M : Int)⟩ lK none 0 0 rfl (by decide) none 0 0 rfl (by decide) (Nat.le_trans lP (by decide)) (by simp) (by simp) (by simp) W (Rd.nil_ _ _) (Rd.nil_ _ _)
    rwa [hE] at q
  subst he
  clear hE
  have hHZ : (Try.prog.info? 24).map (·.size) = some (K.map u8v).toArray.size := by rw [List.size_toArray, List.length_map, lK]; exact sizeId
  have hK6 : 6 + (K.map u8v).toArray.size ≤ 39 := by rw [List.size_toArray, List.length_map, lK]; decide
  have h1K : ((K.map u8v).toArray).all (·.oneCell') = true := idVals_one K
  have hIS : ∀ A n c B m d, (Try.prog.info? 74).map (·.size) = some (opC ⟨5, P, [], 0, [], [], K, (M : Int)⟩ A n c B m d).size := fun _ _ _ _ _ _ => by rw [opC_size _ _ _ _ _ _ _ lK]; exact infoOp
  have hOS : ∀ A n c B m d, (opC opZ none 0 0 none 0 0).size = (opC ⟨5, P, [], 0, [], [], K, (M : Int)⟩ A n c B m d).size := fun _ _ _ _ _ _ => (opC_size _ _ _ _ _ _ _ rfl).trans (opC_size _ _ _ _ _ _ _ lK).symm
  go_enter Try.func58, Try.ntmps58
  go_wp2_with (fail)
  rw [← opC_lit 0, show (⟨0, [], [], 0, [], [], zeroB, 0⟩ : OpD) = opZ from rfl]
  generalize ((w.alloc (.cells #[.string (txt s), .int .i64 a, .int .i64 e] 69)).alloc (.cells #[.string ⟨#[]⟩, .int .i64 0, .int .i64 0] 69)).alloc (.cells (opC opZ none 0 0 none 0 0) 74) = W0 at *
  refine (cB W0).mono ?_
  rintro o1 w1 ⟨rfl, h1⟩
  replace hI := hI.below h1
  clear h1 cB
  go_wp2_with (first
    | ((with_reducible refine wpList_store_rv rfl _ _ rfl w.heap.size _ _ _ _ hI.rb rfl rfl rfl ?_); intro v1 x1 y1; replace hI := hI.setr x1 y1; have hS := hI.open_ 5; clear x1 y1; have x0 := hS.box.c0; have k0 := hS.rb.cell_ (i := 0) rfl; have k1 := hS.rb.cell_ (i := 1) rfl; have k2 := hS.rb.cell_ (i := 2) rfl)
    | (with_reducible refine wpList_build_op rfl _ rfl 5 (by with_unfolding_all rfl) ?_)
    | (with_reducible refine wpList_store_new rfl 74 _ _ rfl (opC ⟨5, [], [], 0, [], [], zeroB, 0⟩ none 0 0 none 0 0) rfl rfl ?s2 ?s3 (opC_one _ _ _ _ _ _ _) ?_))
  case s2 => first | (rw [opC_size _ _ _ _ _ _ _ rfl]; exact infoOp) | (obtain ⟨i, hi, hz⟩ := Option.map_eq_some_iff.1 infoOp; exact ⟨i, hi, by rw [opC_size _ _ _ _ _ _ _ rfl]; exact hz⟩)
  case s3 => first | done | (rw [opC_size _ _ _ _ _ _ _ rfl]; done) | (rw [opC_size _ _ _ _ _ _ _ rfl]; rfl)
  clear x0 k0 k1 k2 hI
  generalize v1.alloc (.cells (opC ⟨5, [], [], 0, [], [], zeroB, 0⟩ none 0 0 none 0 0) 74) = W1 at *
  generalize v1.heap.size = ox at *
  have k0 := hS.rb.cell_ (i := 0) rfl
  have k1 := hS.rb.cell_ (i := 1) rfl
  have k2 := hS.rb.cell_ (i := 2) rfl
  go_wp2_with (first
    | (go_at_call 105; (with_reducible refine (c1 _).mono ?_); rintro o1 w1 ⟨rfl, hb⟩; replace hS := hS.below hb; clear hb; clear k0 k1 k2)
    | ((with_reducible refine wpList_store_rv rfl _ _ rfl w.heap.size _ _ a1 e1 hS.rb rfl rfl rfl ?_); intro v1 x1 y1; replace hS := hS.setr x1 y1; clear x1 y1; have y := hS.box.c1; have y' := hS.box.b.frozen 1; replace hS : RgS w _ s _ _ ox ⟨5, P, [], 0, [], [], zeroB, 0⟩ none 0 0 none 0 0 := hS.set1 P; have k0 := hS.rb.cell_ (i := 0) rfl; have k1 := hS.rb.cell_ (i := 1) rfl; have k2 := hS.rb.cell_ (i := 2) rfl)
    | (go_at_call 107; (with_reducible refine (c2 _).mono ?_); rintro o1 w1 ⟨rfl, hb⟩; replace hS := hS.below hb; clear hb; clear k0 k1 k2)
    | ((with_reducible refine wpList_store_rv rfl _ _ rfl w.heap.size _ _ a2 e2 hS.rb rfl rfl rfl ?_); intro v1 x1 y1; replace hS := hS.setr x1 y1; clear x1 y1)
    | ((with_reducible refine wpList_store_at rfl 24 _ _ rfl ox 6 _ (K.map u8v).toArray 74 hS.box.b rfl rfl hHZ (by rw [opC_size _ _ _ _ _ _ _ hS.hK]; exact hK6) h1K ?_); intro w2 hb2 hg2; rw [List.toList_toArray] at hb2; replace hS : RgS w _ s _ _ ox ⟨5, P, [], 0, [], [], K, 0⟩ none 0 0 none 0 0 := hS.setK K lK hb2 hg2; clear hb2 hg2; have k0 := hS.rb.cell_ (i := 0) rfl; have k1 := hS.rb.cell_ (i := 1) rfl; have k2 := hS.rb.cell_ (i := 2) rfl)
    | (go_at_call 92; (with_reducible refine (c3 _).mono ?_); rintro o1 w1 ⟨rfl, hb⟩; replace hS := hS.below hb; clear hb; clear k0 k1 k2)
    | ((with_reducible refine wpList_store_rv rfl _ _ rfl w.heap.size _ _ a3 0 hS.rb rfl rfl rfl ?_); intro v1 x1 y1; replace hS := hS.setr x1 y1; clear x1 y1; have y := hS.box.c38 hS.hK; have y' := hS.box.b.frozen 38; replace hS : RgS w _ s _ _ ox ⟨5, P, [], 0, [], [], K, (M : Int)⟩ none 0 0 none 0 0 := hS.set38 (M : Int); have k0 := hS.rb.cell_ (i := 0) rfl; have k1 := hS.rb.cell_ (i := 1) rfl; have k2 := hS.rb.cell_ (i := 2) rfl)
    | (with_reducible refine wpList_load_opx (by with_unfolding_all rfl) _ rfl _ rfl hS.box hS.hK ?_)
    | (go_at_call 54; (with_reducible refine (cR _).mono ?_); rintro o1 w1 ⟨rfl, hb⟩; replace hS := hS.below hb; clear hb; clear k0 k1 k2; have k0 := hS.rb.cell_ (i := 0) rfl; have k1 := hS.rb.cell_ (i := 1) rfl; have k2 := hS.rb.cell_ (i := 2) rfl))
  refine wp_region_each (by kernel_rfl) [[0, 1, 2, 3], [0, 2, 1, 3], [1, 0, 2, 3]] (by kernel_rfl) (by kernel_rfl) ?_
  replace hS := hS.below (below_drew1 _)
  clear k0 k1 k2
  generalize w1.drew = W5 at *
  have k0 := hS.rb.cell_ (i := 0) rfl
  have k1 := hS.rb.cell_ (i := 1) rfl
  have k2 := hS.rb.cell_ (i := 2) rfl
  intro os hos
  simp [listsOf] at hos
  rcases hos with rfl | rfl | rfl
  all_goals
    go_wp2_with (first
      | (with_reducible refine wpList_load_opx (by with_unfolding_all rfl) _ rfl _ rfl hS.box hS.hK ?_)
      | (with_reducible refine wpList_load_opx (by with_unfolding_all rfl) _ rfl _ rfl (OpX.mk hX8) hS.hK ?_)
      | ((with_reducible refine wpList_store_rv rfl _ _ rfl (w.heap.size + 1) _ _ _ _ hS.r1 rfl rfl rfl ?_); intro v8 x8 y8; have hT := hS.last x8 y8; have hX8 := blk_gb hS.box.b y8 (by have := hS.hox; omega); clear k0 k1 k2)
      | (with_reducible refine wpList_store_blk rfl 74 _ _ rfl (w.heap.size + 1 + 1) _ _ 74 hT.2.1 rfl rfl (hIS _ _ _ _ _ _) (hOS _ _ _ _ _ _) (opC_one _ _ _ _ _ _ _) ?_))
    intro w9 hb9 hg9
    go_wp2
    have hb8 := blk_gb hT.1 hg9 (by omega)
    refine bodyPost_ret (results_rows rfl _ _ _ _ _ _ _ _ _ _ _ _ rfl hb8 Try.underlying69 rfl infoR3 rfl hb9 Try.underlying74 rfl (hIS _ _ _ _ _ _)) rfl ?_
    have ow1 := hT.2.2.1.kept hg9 (.inr (Lib.ownBlock_ne hT.2.2.1 hT.2.1 (by decide)))
    have ow2 := hT.2.2.2.1.kept hg9 (.inr (Lib.ownBlock_ne hT.2.2.2.1 hT.2.1 (by decide)))
    refine ⟨_, _, _, _, _, _, rfl, ⟨(own_rd ow1).1, ?_, ?_, (own_rd ow2).1, ?_, ?_, (own_rd ow1).2, (own_rd ow2).2, hS.hK, ?_, ?_⟩, hT.2.2.2.2.grown hg9 hT.2.2.2.2.size (fun k hk => by cases hk; omega)⟩
    · decide
    · simp
    · decide
    · simp
    · exact Nat.le_trans lP (by decide)
    · simp

end Go.Proofs.Ythpdkdalfjahcaa

namespace Go.Proofs.Ythpdkdalfjahcaa
open Go.RowKit Go.Qc Go.Shelf
attribute [local go_sem] txt_size txt_append ib_fold txt_toL

set_option maxRecDepth 100000 in
set_option maxHeartbeats 40000000 in
theorem rg_6_i (s : List UInt8) (a : Nat) (e : Int) (w : World) (a0 : Nat) (e0 : Int) (cB : ∀ W, Calls Try.prog 103 #[.agg #[.string (txt s), .int .i64 a, .int .i64 e]] W fun o w' => o = .returned (.tuple #[.agg #[.string (txt s), .int .i64 a0, .int .i64 e0], .int .i64 6]) ∧ Below W.heap.size W w') (P : List UInt8) (a1 : Nat) (e1 : Int) (lP : P.length ≤ 200) (c1 : ∀ W, Calls Try.prog 105 #[.agg #[.string (txt s), .int .i64 a0, .int .i64 e0], .int .i64 200] W fun o w' => o = .returned (.tuple #[.agg #[.string (txt s), .int .i64 a1, .int .i64 e1], .string (txt P)]) ∧ Below W.heap.size W w') (K : List UInt8) (a2 : Nat) (e2 : Int) (lK : K.length = 32) (c2 : ∀ W, Calls Try.prog 107 #[.agg #[.string (txt s), .int .i64 a1, .int .i64 e1]] W fun o w' => o = .returned (.tuple #[.agg #[.string (txt s), .int .i64 a2, .int .i64 e2], .agg (K.map u8v).toArray]) ∧ Below W.heap.size W w') (E : Int) (hE : opE ⟨6, P, [], 0, [], [], K, 0⟩ = E) (hE0 : E ≠ 0) :
    Calls Try.prog 58 #[.agg #[.string (txt s), .int .i64 a, .int .i64 e]] w fun o w' => RgP s a2 (stopB e2 3) opZ w o w' := by
  have hI := RgI.start s a e w
  have cR : ∀ (W : World) , Calls Try.prog 54 #[.agg (opC ⟨6, P, [], 0, [], [], K, 0⟩ none 0 0 none 0 0)] W fun o w' => o = .returned (.int .i64 E) ∧ Below W.heap.size W w' := fun W => by
    have q := rr13_any ⟨6, P, [], 0, [], [], K, 0⟩ lK none 0 0 rfl (by decide) none 0 0 rfl (by decide) (Nat.le_trans lP (by decide)) (by simp) (by simp) (by simp) W (Rd.nil_ _ _) (Rd.nil_ _ _)
    rwa [hE] at q
  have hEn : (E != 0) = true := by simpa using hE0
  have hst : stopB e2 3 ≠ 0 := by unfold stopB; split <;> first | decide | assumption
  obtain ⟨ef, hef⟩ : ∃ ef, ef = stopB e2 3 := ⟨_, rfl⟩
  have hen : (ef != 0) = true := by rw [hef]; simpa using hst
  have cF : ∀ W, Calls Try.prog 104 #[.agg #[.string (txt s), .int .i64 a2, .int .i64 e2], .int .i64 3] W fun o w' => o = .returned (.agg #[.string (txt s), .int .i64 a2, .int .i64 ef]) ∧ Below W.heap.size W w' := fun W => by rw [hef]; exact rFail_any s a2 e2 3 W
  rw [← hef]
  clear hef hst
  clear hE
  have hHZ : (Try.prog.info? 24).map (·.size) = some (K.map u8v).toArray.size := by rw [List.size_toArray, List.length_map, lK]; exact sizeId
  have hK6 : 6 + (K.map u8v).toArray.size ≤ 39 := by rw [List.size_toArray, List.length_map, lK]; decide
  have h1K : ((K.map u8v).toArray).all (·.oneCell') = true := idVals_one K
  have hIS : ∀ A n c B m d, (Try.prog.info? 74).map (·.size) = some (opC opZ A n c B m d).size := fun _ _ _ _ _ _ => by rw [opC_size _ _ _ _ _ _ _ rfl]; exact infoOp
  have hOS : ∀ A n c B m d, (opC opZ none 0 0 none 0 0).size = (opC opZ A n c B m d).size := fun _ _ _ _ _ _ => (opC_size _ _ _ _ _ _ _ rfl).trans (opC_size _ _ _ _ _ _ _ rfl).symm
  go_enter Try.func58, Try.ntmps58
  go_wp2_with (fail)
  rw [← opC_lit 0, show (⟨0, [], [], 0, [], [], zeroB, 0⟩ : OpD) = opZ from rfl]
  generalize ((w.alloc (.cells #[.string (txt s), .int .i64 a, .int .i64 e] 69)).alloc (.cells #[.string ⟨#[]⟩, .int .i64 0, .int .i64 0] 69)).alloc (.cells (opC opZ none 0 0 none 0 0) 74) = W0 at *
  refine (cB W0).mono ?_
  rintro o1 w1 ⟨rfl, h1⟩
  replace hI := hI.below h1
  clear h1 cB
  go_wp2_with (first
    | ((with_reducible refine wpList_store_rv rfl _ _ rfl w.heap.size _ _ _ _ hI.rb rfl rfl rfl ?_); intro v1 x1 y1; replace hI := hI.setr x1 y1; have hS := hI.open_ 6; clear x1 y1; have x0 := hS.box.c0; have k0 := hS.rb.cell_ (i := 0) rfl; have k1 := hS.rb.cell_ (i := 1) rfl; have k2 := hS.rb.cell_ (i := 2) rfl)
    | (with_reducible refine wpList_build_op rfl _ rfl 6 (by with_unfolding_all rfl) ?_)
    | (with_reducible refine wpList_store_new rfl 74 _ _ rfl (opC ⟨6, [], [], 0, [], [], zeroB, 0⟩ none 0 0 none 0 0) rfl rfl ?s2 ?s3 (opC_one _ _ _ _ _ _ _) ?_))
  case s2 => first | (rw [opC_size _ _ _ _ _ _ _ rfl]; exact infoOp) | (obtain ⟨i, hi, hz⟩ := Option.map_eq_some_iff.1 infoOp; exact ⟨i, hi, by rw [opC_size _ _ _ _ _ _ _ rfl]; exact hz⟩)
  case s3 => first | done | (rw [opC_size _ _ _ _ _ _ _ rfl]; done) | (rw [opC_size _ _ _ _ _ _ _ rfl]; rfl)
  clear x0 k0 k1 k2 hI
  generalize v1.alloc (.cells (opC ⟨6, [], [], 0, [], [], zeroB, 0⟩ none 0 0 none 0 0) 74) = W1 at *
  generalize v1.heap.size = ox at *
  have k0 := hS.rb.cell_ (i := 0) rfl
  have k1 := hS.rb.cell_ (i := 1) rfl
  have k2 := hS.rb.cell_ (i := 2) rfl
  go_wp2_with (first
    | (go_at_call 105; (with_reducible refine (c1 _).mono ?_); rintro o1 w1 ⟨rfl, hb⟩; replace hS := hS.below hb; clear hb; clear k0 k1 k2)
    | ((with_reducible refine wpList_store_rv rfl _ _ rfl w.heap.size _ _ a1 e1 hS.rb rfl rfl rfl ?_); intro v1 x1 y1; replace hS := hS.setr x1 y1; clear x1 y1; have y := hS.box.c1; have y' := hS.box.b.frozen 1; replace hS : RgS w _ s _ _ ox ⟨6, P, [], 0, [], [], zeroB, 0⟩ none 0 0 none 0 0 := hS.set1 P; have k0 := hS.rb.cell_ (i := 0) rfl; have k1 := hS.rb.cell_ (i := 1) rfl; have k2 := hS.rb.cell_ (i := 2) rfl)
    | (go_at_call 107; (with_reducible refine (c2 _).mono ?_); rintro o1 w1 ⟨rfl, hb⟩; replace hS := hS.below hb; clear hb; clear k0 k1 k2)
    | ((with_reducible refine wpList_store_rv rfl _ _ rfl w.heap.size _ _ a2 e2 hS.rb rfl rfl rfl ?_); intro v1 x1 y1; replace hS := hS.setr x1 y1; clear x1 y1)
    | ((with_reducible refine wpList_store_at rfl 24 _ _ rfl ox 6 _ (K.map u8v).toArray 74 hS.box.b rfl rfl hHZ (by rw [opC_size _ _ _ _ _ _ _ hS.hK]; exact hK6) h1K ?_); intro w2 hb2 hg2; rw [List.toList_toArray] at hb2; replace hS : RgS w _ s _ _ ox ⟨6, P, [], 0, [], [], K, 0⟩ none 0 0 none 0 0 := hS.setK K lK hb2 hg2; clear hb2 hg2; have k0 := hS.rb.cell_ (i := 0) rfl; have k1 := hS.rb.cell_ (i := 1) rfl; have k2 := hS.rb.cell_ (i := 2) rfl)
    | (with_reducible refine wpList_load_opx (by with_unfolding_all rfl) _ rfl _ rfl hS.box hS.hK ?_)
    | (go_at_call 54; (with_reducible refine (cR _).mono ?_); rintro o1 w1 ⟨rfl, hb⟩; replace hS := hS.below hb; clear hb; clear k0 k1 k2; have k0 := hS.rb.cell_ (i := 0) rfl; have k1 := hS.rb.cell_ (i := 1) rfl; have k2 := hS.rb.cell_ (i := 2) rfl)
    | (go_at_call 104; (with_reducible refine (cF _).mono ?_); rintro o1 w1 ⟨rfl, hb⟩; replace hS := hS.below hb; clear hb; clear k0 k1 k2)
    | ((with_reducible refine wpList_store_rv rfl _ _ rfl w.heap.size _ _ _ ef hS.rb rfl rfl rfl ?_); intro v1 x1 y1; replace hS := hS.setr x1 y1; clear x1 y1; have k0 := hS.rb.cell_ (i := 0) rfl; have k1 := hS.rb.cell_ (i := 1) rfl; have k2 := hS.rb.cell_ (i := 2) rfl)
    | (with_reducible refine wpList_build_op0 rfl rfl ?_)
    | ((with_reducible refine wpList_store_rv rfl _ _ rfl (w.heap.size + 1) _ _ _ _ hS.r1 rfl rfl rfl ?_); intro v8 x8 y8; have hT := hS.last x8 y8; have hX8 := blk_gb hS.box.b y8 (by have := hS.hox; omega); clear k0 k1 k2)
    | (with_reducible refine wpList_store_blk rfl 74 _ _ rfl (w.heap.size + 1 + 1) _ _ 74 hT.2.1 rfl rfl (hIS _ _ _ _ _ _) (hOS _ _ _ _ _ _) (opC_one _ _ _ _ _ _ _) ?_))
  intro w9 hb9 hg9
  go_wp2
  have hb8 := blk_gb hT.1 hg9 (by omega)
  refine bodyPost_ret (results_rows rfl _ _ _ _ _ _ _ _ _ _ _ _ rfl hb8 Try.underlying69 rfl infoR3 rfl hb9 Try.underlying74 rfl (hIS _ _ _ _ _ _)) rfl ?_
  exact ⟨none, 0, 0, none, 0, 0, rfl, OpR.zero _, hT.2.2.2.2.grown hg9 hT.2.2.2.2.size (fun k hk => by cases hk; omega)⟩

set_option maxRecDepth 100000 in
set_option maxHeartbeats 40000000 in
theorem rg_6_ii (s : List UInt8) (a : Nat) (e : Int) (w : World) (a0 : Nat) (e0 : Int) (cB : ∀ W, Calls Try.prog 103 #[.agg #[.string (txt s), .int .i64 a, .int .i64 e]] W fun o w' => o = .returned (.tuple #[.agg #[.string (txt s), .int .i64 a0, .int .i64 e0], .int .i64 6]) ∧ Below W.heap.size W w') (P : List UInt8) (a1 : Nat) (e1 : Int) (lP : P.length ≤ 200) (c1 : ∀ W, Calls Try.prog 105 #[.agg #[.string (txt s), .int .i64 a0, .int .i64 e0], .int .i64 200] W fun o w' => o = .returned (.tuple #[.agg #[.string (txt s), .int .i64 a1, .int .i64 e1], .string (txt P)]) ∧ Below W.heap.size W w') (K : List UInt8) (a2 : Nat) (e2 : Int) (lK : K.length = 32) (c2 : ∀ W, Calls Try.prog 107 #[.agg #[.string (txt s), .int .i64 a1, .int .i64 e1]] W fun o w' => o = .returned (.tuple #[.agg #[.string (txt s), .int .i64 a2, .int .i64 e2], .agg (K.map u8v).toArray]) ∧ Below W.heap.size W w') (hE : opE ⟨6, P, [], 0, [], [], K, 0⟩ = 0) (he : e2 ≠ 0) :
    Calls Try.prog 58 #[.agg #[.string (txt s), .int .i64 a, .int .i64 e]] w fun o w' => RgP s a2 e2 opZ w o w' := by
  have hI := RgI.start s a e w
  have cR : ∀ (W : World) , Calls Try.prog 54 #[.agg (opC ⟨6, P, [], 0, [], [], K, 0⟩ none 0 0 none 0 0)] W fun o w' => o = .returned (.int .i64 0) ∧ Below W.heap.size W w' := fun W => by
    have q := rr13_any ⟨6, P, [], 0, [], [], K, 0⟩ lK none 0 0 rfl (by decide) none 0 0 rfl (by decide) (Nat.le_trans lP (by decide)) (by simp) (by simp) (by simp) W (Rd.nil_ _ _) (Rd.nil_ _ _)
    rwa [hE] at q
  have hen : (e2 != 0) = true := by simpa using he
  clear hE
  have hHZ : (Try.prog.info? 24).map (·.size) = some (K.map u8v).toArray.size := by rw [List.size_toArray, List.length_map, lK]; exact sizeId
  have hK6 : 6 + (K.map u8v).toArray.size ≤ 39 := by rw [List.size_toArray, List.length_map, lK]; decide
  have h1K : ((K.map u8v).toArray).all (·.oneCell') = true := idVals_one K
  have hIS : ∀ A n c B m d, (Try.prog.info? 74).map (·.size) = some (opC opZ A n c B m d).size := fun _ _ _ _ _ _ => by rw [opC_size _ _ _ _ _ _ _ rfl]; exact infoOp
  have hOS : ∀ A n c B m d, (opC opZ none 0 0 none 0 0).size = (opC opZ A n c B m d).size := fun _ _ _ _ _ _ => (opC_size _ _ _ _ _ _ _ rfl).trans (opC_size _ _ _ _ _ _ _ rfl).symm
  go_enter Try.func58, Try.ntmps58
  go_wp2_with (fail)
  rw [← opC_lit 0, show (⟨0, [], [], 0, [], [], zeroB, 0⟩ : OpD) = opZ from rfl]
  generalize ((w.alloc (.cells #[.string (txt s), .int .i64 a, .int .i64 e] 69)).alloc (.cells #[.string ⟨#[]⟩, .int .i64 0, .int .i64 0] 69)).alloc (.cells (opC opZ none 0 0 none 0 0) 74) = W0 at *
  refine (cB W0).mono ?_
  rintro o1 w1 ⟨rfl, h1⟩
  replace hI := hI.below h1
  clear h1 cB
  go_wp2_with (first
    | ((with_reducible refine wpList_store_rv rfl _ _ rfl w.heap.size _ _ _ _ hI.rb rfl rfl rfl ?_); intro v1 x1 y1; replace hI := hI.setr x1 y1; have hS := hI.open_ 6; clear x1 y1; have x0 := hS.box.c0; have k0 := hS.rb.cell_ (i := 0) rfl; have k1 := hS.rb.cell_ (i := 1) rfl; have k2 := hS.rb.cell_ (i := 2) rfl)
    | (with_reducible refine wpList_build_op rfl _ rfl 6 (by with_unfolding_all rfl) ?_)
    | (with_reducible refine wpList_store_new rfl 74 _ _ rfl (opC ⟨6, [], [], 0, [], [], zeroB, 0⟩ none 0 0 none 0 0) rfl rfl ?s2 ?s3 (opC_one _ _ _ _ _ _ _) ?_))
  case s2 => first | (rw [opC_size _ _ _ _ _ _ _ rfl]; exact infoOp) | (obtain ⟨i, hi, hz⟩ := Option.map_eq_some_iff.1 infoOp; exact ⟨i, hi, by rw [opC_size _ _ _ _ _ _ _ rfl]; exact hz⟩)
  case s3 => first | done | (rw [opC_size _ _ _ _ _ _ _ rfl]; done) | (rw [opC_size _ _ _ _ _ _ _ rfl]; rfl)
  clear x0 k0 k1 k2 hI
  generalize v1.alloc (.cells (opC ⟨6, [], [], 0, [], [], zeroB, 0⟩ none 0 0 none 0 0) 74) = W1 at *
  generalize v1.heap.size = ox at *
  have k0 := hS.rb.cell_ (i := 0) rfl
  have k1 := hS.rb.cell_ (i := 1) rfl
  have k2 := hS.rb.cell_ (i := 2) rfl
  go_wp2_with (first
    | (go_at_call 105; (with_reducible refine (c1 _).mono ?_); rintro o1 w1 ⟨rfl, hb⟩; replace hS := hS.below hb; clear hb; clear k0 k1 k2)
    | ((with_reducible refine wpList_store_rv rfl _ _ rfl w.heap.size _ _ a1 e1 hS.rb rfl rfl rfl ?_); intro v1 x1 y1; replace hS := hS.setr x1 y1; clear x1 y1; have y := hS.box.c1; have y' := hS.box.b.frozen 1; replace hS : RgS w _ s _ _ ox ⟨6, P, [], 0, [], [], zeroB, 0⟩ none 0 0 none 0 0 := hS.set1 P; have k0 := hS.rb.cell_ (i := 0) rfl; have k1 := hS.rb.cell_ (i := 1) rfl; have k2 := hS.rb.cell_ (i := 2) rfl)
    | (go_at_call 107; (with_reducible refine (c2 _).mono ?_); rintro o1 w1 ⟨rfl, hb⟩; replace hS := hS.below hb; clear hb; clear k0 k1 k2)
    | ((with_reducible refine wpList_store_rv rfl _ _ rfl w.heap.size _ _ a2 e2 hS.rb rfl rfl rfl ?_); intro v1 x1 y1; replace hS := hS.setr x1 y1; clear x1 y1)
    | ((with_reducible refine wpList_store_at rfl 24 _ _ rfl ox 6 _ (K.map u8v).toArray 74 hS.box.b rfl rfl hHZ (by rw [opC_size _ _ _ _ _ _ _ hS.hK]; exact hK6) h1K ?_); intro w2 hb2 hg2; rw [List.toList_toArray] at hb2; replace hS : RgS w _ s _ _ ox ⟨6, P, [], 0, [], [], K, 0⟩ none 0 0 none 0 0 := hS.setK K lK hb2 hg2; clear hb2 hg2; have k0 := hS.rb.cell_ (i := 0) rfl; have k1 := hS.rb.cell_ (i := 1) rfl; have k2 := hS.rb.cell_ (i := 2) rfl)
    | (with_reducible refine wpList_load_opx (by with_unfolding_all rfl) _ rfl _ rfl hS.box hS.hK ?_)
    | (go_at_call 54; (with_reducible refine (cR _).mono ?_); rintro o1 w1 ⟨rfl, hb⟩; replace hS := hS.below hb; clear hb; clear k0 k1 k2; have k0 := hS.rb.cell_ (i := 0) rfl; have k1 := hS.rb.cell_ (i := 1) rfl; have k2 := hS.rb.cell_ (i := 2) rfl)
    | (with_reducible refine wpList_build_op0 rfl rfl ?_)
    | ((with_reducible refine wpList_store_rv rfl _ _ rfl (w.heap.size + 1) _ _ _ _ hS.r1 rfl rfl rfl ?_); intro v8 x8 y8; have hT := hS.last x8 y8; have hX8 := blk_gb hS.box.b y8 (by have := hS.hox; omega); clear k0 k1 k2)
    | (with_reducible refine wpList_store_blk rfl 74 _ _ rfl (w.heap.size + 1 + 1) _ _ 74 hT.2.1 rfl rfl (hIS _ _ _ _ _ _) (hOS _ _ _ _ _ _) (opC_one _ _ _ _ _ _ _) ?_))
  intro w9 hb9 hg9
  go_wp2
  have hb8 := blk_gb hT.1 hg9 (by omega)
  refine bodyPost_ret (results_rows rfl _ _ _ _ _ _ _ _ _ _ _ _ rfl hb8 Try.underlying69 rfl infoR3 rfl hb9 Try.underlying74 rfl (hIS _ _ _ _ _ _)) rfl ?_
  exact ⟨none, 0, 0, none, 0, 0, rfl, OpR.zero _, hT.2.2.2.2.grown hg9 hT.2.2.2.2.size (fun k hk => by cases hk; omega)⟩

set_option maxRecDepth 100000 in
set_option maxHeartbeats 40000000 in
theorem rg_6_iii (s : List UInt8) (a : Nat) (e : Int) (w : World) (a0 : Nat) (e0 : Int) (cB : ∀ W, Calls Try.prog 103 #[.agg #[.string (txt s), .int .i64 a, .int .i64 e]] W fun o w' => o = .returned (.tuple #[.agg #[.string (txt s), .int .i64 a0, .int .i64 e0], .int .i64 6]) ∧ Below W.heap.size W w') (P : List UInt8) (a1 : Nat) (e1 : Int) (lP : P.length ≤ 200) (c1 : ∀ W, Calls Try.prog 105 #[.agg #[.string (txt s), .int .i64 a0, .int .i64 e0], .int .i64 200] W fun o w' => o = .returned (.tuple #[.agg #[.string (txt s), .int .i64 a1, .int .i64 e1], .string (txt P)]) ∧ Below W.heap.size W w') (K : List UInt8) (a2 : Nat) (e2 : Int) (lK : K.length = 32) (c2 : ∀ W, Calls Try.prog 107 #[.agg #[.string (txt s), .int .i64 a1, .int .i64 e1]] W fun o w' => o = .returned (.tuple #[.agg #[.string (txt s), .int .i64 a2, .int .i64 e2], .agg (K.map u8v).toArray]) ∧ Below W.heap.size W w') (hE : opE ⟨6, P, [], 0, [], [], K, 0⟩ = 0) (he : e2 = 0) :
    Calls Try.prog 58 #[.agg #[.string (txt s), .int .i64 a, .int .i64 e]] w fun o w' => RgP s a2 e2 (⟨6, P, [], 0, [], [], K, 0⟩ : OpD) w o w' := by
  have hI := RgI.start s a e w
  have cR : ∀ (W : World) , Calls Try.prog 54 #[.agg (opC ⟨6, P, [], 0, [], [], K, 0⟩ none 0 0 none 0 0)] W fun o w' => o = .returned (.int .i64 0) ∧ Below W.heap.size W w' := fun W => by
    have q := rr13_any ⟨6, P, [], 0, [], [], K, 0⟩ lK none 0 0 rfl (by decide) none 0 0 rfl (by decide) (Nat.le_trans lP (by decide)) (by simp) (by simp) (by simp) W (Rd.nil_ _ _) (Rd.nil_ _ _)
    rwa [hE] at q
  subst he
  clear hE
  have hHZ : (Try.prog.info? 24).map (·.size) = some (K.map u8v).toArray.size := by rw [List.size_toArray, List.length_map, lK]; exact sizeId
  have hK6 : 6 + (K.map u8v).toArray.size ≤ 39 := by rw [List.size_toArray, List.length_map, lK]; decide
  have h1K : ((K.map u8v).toArray).all (·.oneCell') = true := idVals_one K
  have hIS : ∀ A n c B m d, (Try.prog.info? 74).map (·.size) = some (opC ⟨6, P, [], 0, [], [], K, 0⟩ A n c B m d).size := fun _ _ _ _ _ _ => by rw [opC_size _ _ _ _ _ _ _ lK]; exact infoOp
  have hOS : ∀ A n c B m d, (opC opZ none 0 0 none 0 0).size = (opC ⟨6, P, [], 0, [], [], K, 0⟩ A n c B m d).size := fun _ _ _ _ _ _ => (opC_size _ _ _ _ _ _ _ rfl).trans (opC_size _ _ _ _ _ _ _ lK).symm
  go_enter Try.func58, Try.ntmps58
  go_wp2_with (fail)
  rw [← opC_lit 0, show (⟨0, [], [], 0, [], [], zeroB, 0⟩ : OpD) = opZ from rfl]
  generalize ((w.alloc (.cells #[.string (txt s), .int .i64 a, .int .i64 e] 69)).alloc (.cells #[.string ⟨#[]⟩, .int .i64 0, .int .i64 0] 69)).alloc (.cells (opC opZ none 0 0 none 0 0) 74) = W0 at *
  refine (cB W0).mono ?_
  rintro o1 w1 ⟨rfl, h1⟩
  replace hI := hI.below h1
  clear h1 cB
  go_wp2_with (first
    | ((with_reducible refine wpList_store_rv rfl _ _ rfl w.heap.size _ _ _ _ hI.rb rfl rfl rfl ?_); intro v1 x1 y1; replace hI := hI.setr x1 y1; have hS := hI.open_ 6; clear x1 y1; have x0 := hS.box.c0; have k0 := hS.rb.cell_ (i := 0) rfl; have k1 := hS.rb.cell_ (i := 1) rfl; have k2 := hS.rb.cell_ (i := 2) rfl)
    | (with_reducible refine wpList_build_op rfl _ rfl 6 (by with_unfolding_all rfl) ?_)
    | (with_reducible refine wpList_store_new rfl 74 _ _ rfl (opC ⟨6, [], [], 0, [], [], zeroB, 0⟩ none 0 0 none 0 0) rfl rfl ?s2 ?s3 (opC_one _ _ _ _ _ _ _) ?_))
  case s2 => first | (rw [opC_size _ _ _ _ _ _ _ rfl]; exact infoOp) | (obtain ⟨i, hi, hz⟩ := Option.map_eq_some_iff.1 infoOp; exact ⟨i, hi, by rw [opC_size _ _ _ _ _ _ _ rfl]; exact hz⟩)
  case s3 => first | done | (rw [opC_size _ _ _ _ _ _ _ rfl]; done) | (rw [opC_size _ _ _ _ _ _ _ rfl]; rfl)
  clear x0 k0 k1 k2 hI
  generalize v1.alloc (.cells (opC ⟨6, [], [], 0, [], [], zeroB, 0⟩ none 0 0 none 0 0) 74) = W1 at *
  generalize v1.heap.size = ox at *
  have k0 := hS.rb.cell_ (i := 0) rfl
  have k1 := hS.rb.cell_ (i := 1) rfl
  have k2 := hS.rb.cell_ (i := 2) rfl
  go_wp2_with (first
    | (go_at_call 105; (with_reducible refine (c1 _).mono ?_); rintro o1 w1 ⟨rfl, hb⟩; replace hS := hS.below hb; clear hb; clear k0 k1 k2)
    | ((with_reducible refine wpList_store_rv rfl _ _ rfl w.heap.size _ _ a1 e1 hS.rb rfl rfl rfl ?_); intro v1 x1 y1; replace hS := hS.setr x1 y1; clear x1 y1; have y := hS.box.c1; have y' := hS.box.b.frozen 1; replace hS : RgS w _ s _ _ ox ⟨6, P, [], 0, [], [], zeroB, 0⟩ none 0 0 none 0 0 := hS.set1 P; have k0 := hS.rb.cell_ (i := 0) rfl; have k1 := hS.rb.cell_ (i := 1) rfl; have k2 := hS.rb.cell_ (i := 2) rfl)
    | (go_at_call 107; (with_reducible refine (c2 _).mono ?_); rintro o1 w1 ⟨rfl, hb⟩; replace hS := hS.below hb; clear hb; clear k0 k1 k2)
    | ((with_reducible refine wpList_store_rv rfl _ _ rfl w.heap.size _ _ a2 0 hS.rb rfl rfl rfl ?_); intro v1 x1 y1; replace hS := hS.setr x1 y1; clear x1 y1)
    | ((with_reducible refine wpList_store_at rfl 24 _ _ rfl ox 6 _ (K.map u8v).toArray 74 hS.box.b rfl rfl hHZ (by rw [opC_size _ _ _ _ _ _ _ hS.hK]; exact hK6) h1K ?_); intro w2 hb2 hg2; rw [List.toList_toArray] at hb2; replace hS : RgS w _ s _ _ ox ⟨6, P, [], 0, [], [], K, 0⟩ none 0 0 none 0 0 := hS.setK K lK hb2 hg2; clear hb2 hg2; have k0 := hS.rb.cell_ (i := 0) rfl; have k1 := hS.rb.cell_ (i := 1) rfl; have k2 := hS.rb.cell_ (i := 2) rfl)
    | (with_reducible refine wpList_load_opx (by with_unfolding_all rfl) _ rfl _ rfl hS.box hS.hK ?_)
    | (go_at_call 54; (with_reducible refine (cR _).mono ?_); rintro o1 w1 ⟨rfl, hb⟩; replace hS := hS.below hb; clear hb; clear k0 k1 k2; have k0 := hS.rb.cell_ (i := 0) rfl; have k1 := hS.rb.cell_ (i := 1) rfl; have k2 := hS.rb.cell_ (i := 2) rfl))
  refine wp_region_each (by kernel_rfl) [[0, 1, 2, 3], [0, 2, 1, 3], [1, 0, 2, 3]] (by kernel_rfl) (by kernel_rfl) ?_
  replace hS := hS.below (below_drew1 _)
  clear k0 k1 k2
  generalize w1.drew = W5 at *
  have k0 := hS.rb.cell_ (i := 0) rfl
  have k1 := hS.rb.cell_ (i := 1) rfl
  have k2 := hS.rb.cell_ (i := 2) rfl
  intro os hos
  simp [listsOf] at hos
  rcases hos with rfl | rfl | rfl
  all_goals
    go_wp2_with (first
      | (with_reducible refine wpList_load_opx (by with_unfolding_all rfl) _ rfl _ rfl hS.box hS.hK ?_)
      | (with_reducible refine wpList_load_opx (by with_unfolding_all rfl) _ rfl _ rfl (OpX.mk hX8) hS.hK ?_)
      | ((with_reducible refine wpList_store_rv rfl _ _ rfl (w.heap.size + 1) _ _ _ _ hS.r1 rfl rfl rfl ?_); intro v8 x8 y8; have hT := hS.last x8 y8; have hX8 := blk_gb hS.box.b y8 (by have := hS.hox; omega); clear k0 k1 k2)
      | (with_reducible refine wpList_store_blk rfl 74 _ _ rfl (w.heap.size + 1 + 1) _ _ 74 hT.2.1 rfl rfl (hIS _ _ _ _ _ _) (hOS _ _ _ _ _ _) (opC_one _ _ _ _ _ _ _) ?_))
    intro w9 hb9 hg9
    go_wp2
    have hb8 := blk_gb hT.1 hg9 (by omega)
    refine bodyPost_ret (results_rows rfl _ _ _ _ _ _ _ _ _ _ _ _ rfl hb8 Try.underlying69 rfl infoR3 rfl hb9 Try.underlying74 rfl (hIS _ _ _ _ _ _)) rfl ?_
    have ow1 := hT.2.2.1.kept hg9 (.inr (Lib.ownBlock_ne hT.2.2.1 hT.2.1 (by decide)))
    have ow2 := hT.2.2.2.1.kept hg9 (.inr (Lib.ownBlock_ne hT.2.2.2.1 hT.2.1 (by decide)))
    refine ⟨_, _, _, _, _, _, rfl, ⟨(own_rd ow1).1, ?_, ?_, (own_rd ow2).1, ?_, ?_, (own_rd ow1).2, (own_rd ow2).2, hS.hK, ?_, ?_⟩, hT.2.2.2.2.grown hg9 hT.2.2.2.2.size (fun k hk => by cases hk; omega)⟩
    · decide
    · simp
    · decide
    · simp
    · exact Nat.le_trans lP (by decide)
    · simp

set_option maxRecDepth 100000 in
set_option maxHeartbeats 40000000 in
theorem rg_z0_i (s : List UInt8) (a : Nat) (e : Int) (w : World) (z : Int) (hz : z = 0) (a0 : Nat) (e0 : Int) (cB : ∀ W, Calls Try.prog 103 #[.agg #[.string (txt s), .int .i64 a, .int .i64 e]] W fun o w' => o = .returned (.tuple #[.agg #[.string (txt s), .int .i64 a0, .int .i64 e0], .int .i64 z]) ∧ Below W.heap.size W w') (P : List UInt8) (a1 : Nat) (e1 : Int) (lP : P.length ≤ 200) (c1 : ∀ W, Calls Try.prog 105 #[.agg #[.string (txt s), .int .i64 a0, .int .i64 (stopB e0 3)], .int .i64 200] W fun o w' => o = .returned (.tuple #[.agg #[.string (txt s), .int .i64 a1, .int .i64 e1], .string (txt P)]) ∧ Below W.heap.size W w') (E : Int) (hE : opE ⟨z, P, [], 0, [], [], zeroB, 0⟩ = E) (hE0 : E ≠ 0) :
    Calls Try.prog 58 #[.agg #[.string (txt s), .int .i64 a, .int .i64 e]] w fun o w' => RgP s a1 (stopB e1 3) opZ w o w' := by
  have hI := RgI.start s a e w
  have q3 : (z == 3) = false := by simp; omega
  have q2 : (z == 2) = false := by simp; omega
  have q4 : (z == 4) = false := by simp; omega
  have q5 : (z == 5) = false := by simp; omega
  have q1 : decide (z < 1) = true := decide_eq_true (by omega)
  have q6 : decide (5 ≤ z) = false := decide_eq_false (by omega)
  have q7 : ¬ 5 ≤ z := by omega
  have q8 : z < 1 := by omega
  have cR : ∀ (W : World) , Calls Try.prog 54 #[.agg (opC ⟨z, P, [], 0, [], [], zeroB, 0⟩ none 0 0 none 0 0)] W fun o w' => o = .returned (.int .i64 E) ∧ Below W.heap.size W w' := fun W => by
    have q := rr13_any ⟨z, P, [], 0, [], [], zeroB, 0⟩ rfl none 0 0 rfl (by decide) none 0 0 rfl (by decide) (Nat.le_trans lP (by decide)) (by simp) (by simp) (by simp) W (Rd.nil_ _ _) (Rd.nil_ _ _)
    rwa [hE] at q
  have hEn : (E != 0) = true := by simpa using hE0
  have hst : stopB e1 3 ≠ 0 := by unfold stopB; split <;> first | decide | assumption
  obtain ⟨ef, hef⟩ : ∃ ef, ef = stopB e1 3 := ⟨_, rfl⟩
  have hen : (ef != 0) = true := by rw [hef]; simpa using hst
  have cF : ∀ W, Calls Try.prog 104 #[.agg #[.string (txt s), .int .i64 a1, .int .i64 e1], .int .i64 3] W fun o w' => o = .returned (.agg #[.string (txt s), .int .i64 a1, .int .i64 ef]) ∧ Below W.heap.size W w' := fun W => by rw [hef]; exact rFail_any s a1 e1 3 W
  rw [← hef]
  clear hef hst
  have cF0 : ∀ W, Calls Try.prog 104 #[.agg #[.string (txt s), .int .i64 a0, .int .i64 e0], .int .i64 3] W fun o w' => o = .returned (.agg #[.string (txt s), .int .i64 a0, .int .i64 (stopB e0 3)]) ∧ Below W.heap.size W w' := fun W => rFail_any s a0 e0 3 W
  generalize stopB e0 3 = e0' at *
  clear hE
  clear hz
  have hIS : ∀ A n c B m d, (Try.prog.info? 74).map (·.size) = some (opC opZ A n c B m d).size := fun _ _ _ _ _ _ => by rw [opC_size _ _ _ _ _ _ _ rfl]; exact infoOp
  have hOS : ∀ A n c B m d, (opC opZ none 0 0 none 0 0).size = (opC opZ A n c B m d).size := fun _ _ _ _ _ _ => (opC_size _ _ _ _ _ _ _ rfl).trans (opC_size _ _ _ _ _ _ _ rfl).symm
  go_enter Try.func58, Try.ntmps58
  go_wp2_with (fail)
  rw [← opC_lit 0, show (⟨0, [], [], 0, [], [], zeroB, 0⟩ : OpD) = opZ from rfl]
  generalize ((w.alloc (.cells #[.string (txt s), .int .i64 a, .int .i64 e] 69)).alloc (.cells #[.string ⟨#[]⟩, .int .i64 0, .int .i64 0] 69)).alloc (.cells (opC opZ none 0 0 none 0 0) 74) = W0 at *
  refine (cB W0).mono ?_
  rintro o1 w1 ⟨rfl, h1⟩
  replace hI := hI.below h1
  clear h1 cB
  go_wp2_with (first
    | ((with_reducible refine wpList_store_rv rfl _ _ rfl w.heap.size _ _ _ _ hI.rb rfl rfl rfl ?_); intro v1 x1 y1; replace hI := hI.setr x1 y1; have hS := hI.open_ z; clear x1 y1; have x0 := hS.box.c0; have k0 := hS.rb.cell_ (i := 0) rfl; have k1 := hS.rb.cell_ (i := 1) rfl; have k2 := hS.rb.cell_ (i := 2) rfl)
    | (with_reducible refine wpList_build_op rfl _ rfl z (by with_unfolding_all rfl) ?_)
    | (with_reducible refine wpList_store_new rfl 74 _ _ rfl (opC ⟨z, [], [], 0, [], [], zeroB, 0⟩ none 0 0 none 0 0) rfl rfl ?s2 ?s3 (opC_one _ _ _ _ _ _ _) ?_))
  case s2 => first | (rw [opC_size _ _ _ _ _ _ _ rfl]; exact infoOp) | (obtain ⟨i, hi, hz⟩ := Option.map_eq_some_iff.1 infoOp; exact ⟨i, hi, by rw [opC_size _ _ _ _ _ _ _ rfl]; exact hz⟩)
  case s3 => first | done | (rw [opC_size _ _ _ _ _ _ _ rfl]; done) | (rw [opC_size _ _ _ _ _ _ _ rfl]; rfl)
  clear x0 k0 k1 k2 hI
  generalize v1.alloc (.cells (opC ⟨z, [], [], 0, [], [], zeroB, 0⟩ none 0 0 none 0 0) 74) = W1 at *
  generalize v1.heap.size = ox at *
  have k0 := hS.rb.cell_ (i := 0) rfl
  have k1 := hS.rb.cell_ (i := 1) rfl
  have k2 := hS.rb.cell_ (i := 2) rfl
  go_wp2_with (first
    | (go_at_call 104; (with_reducible refine (cF0 _).mono ?_); rintro o1 w1 ⟨rfl, hb⟩; replace hS := hS.below hb; clear hb; clear k0 k1 k2)
    | ((with_reducible refine wpList_store_rv rfl _ _ rfl w.heap.size _ _ a0 e0' hS.rb rfl rfl rfl ?_); intro v1 x1 y1; replace hS := hS.setr x1 y1; clear x1 y1; have k0 := hS.rb.cell_ (i := 0) rfl; have k1 := hS.rb.cell_ (i := 1) rfl; have k2 := hS.rb.cell_ (i := 2) rfl)
    | (go_at_call 105; (with_reducible refine (c1 _).mono ?_); rintro o1 w1 ⟨rfl, hb⟩; replace hS := hS.below hb; clear hb; clear k0 k1 k2)
    | ((with_reducible refine wpList_store_rv rfl _ _ rfl w.heap.size _ _ a1 e1 hS.rb rfl rfl rfl ?_); intro v1 x1 y1; replace hS := hS.setr x1 y1; clear x1 y1; have y := hS.box.c1; have y' := hS.box.b.frozen 1; replace hS : RgS w _ s _ _ ox ⟨z, P, [], 0, [], [], zeroB, 0⟩ none 0 0 none 0 0 := hS.set1 P; have k0 := hS.rb.cell_ (i := 0) rfl; have k1 := hS.rb.cell_ (i := 1) rfl; have k2 := hS.rb.cell_ (i := 2) rfl)
    | (with_reducible refine wpList_load_opx (by with_unfolding_all rfl) _ rfl _ rfl hS.box hS.hK ?_)
    | (go_at_call 54; (with_reducible refine (cR _).mono ?_); rintro o1 w1 ⟨rfl, hb⟩; replace hS := hS.below hb; clear hb; clear k0 k1 k2; have k0 := hS.rb.cell_ (i := 0) rfl; have k1 := hS.rb.cell_ (i := 1) rfl; have k2 := hS.rb.cell_ (i := 2) rfl)
    | (go_at_call 104; (with_reducible refine (cF _).mono ?_); rintro o1 w1 ⟨rfl, hb⟩; replace hS := hS.below hb; clear hb; clear k0 k1 k2)
    | ((with_reducible refine wpList_store_rv rfl _ _ rfl w.heap.size _ _ _ ef hS.rb rfl rfl rfl ?_); intro v1 x1 y1; replace hS := hS.setr x1 y1; clear x1 y1; have k0 := hS.rb.cell_ (i := 0) rfl; have k1 := hS.rb.cell_ (i := 1) rfl; have k2 := hS.rb.cell_ (i := 2) rfl)
    | (with_reducible refine wpList_build_op0 rfl rfl ?_)
    | ((with_reducible refine wpList_store_rv rfl _ _ rfl (w.heap.size + 1) _ _ _ _ hS.r1 rfl rfl rfl ?_); intro v8 x8 y8; have hT := hS.last x8 y8; have hX8 := blk_gb hS.box.b y8 (by have := hS.hox; omega); clear k0 k1 k2)
    | (with_reducible refine wpList_store_blk rfl 74 _ _ rfl (w.heap.size + 1 + 1) _ _ 74 hT.2.1 rfl rfl (hIS _ _ _ _ _ _) (hOS _ _ _ _ _ _) (opC_one _ _ _ _ _ _ _) ?_))
  intro w9 hb9 hg9
  go_wp2
  have hb8 := blk_gb hT.1 hg9 (by omega)
  refine bodyPost_ret (results_rows rfl _ _ _ _ _ _ _ _ _ _ _ _ rfl hb8 Try.underlying69 rfl infoR3 rfl hb9 Try.underlying74 rfl (hIS _ _ _ _ _ _)) rfl ?_
  exact ⟨none, 0, 0, none, 0, 0, rfl, OpR.zero _, hT.2.2.2.2.grown hg9 hT.2.2.2.2.size (fun k hk => by cases hk; omega)⟩

set_option maxRecDepth 100000 in
set_option maxHeartbeats 40000000 in
theorem rg_z7_i (s : List UInt8) (a : Nat) (e : Int) (w : World) (z : Int) (hz : 7 ≤ z) (a0 : Nat) (e0 : Int) (cB : ∀ W, Calls Try.prog 103 #[.agg #[.string (txt s), .int .i64 a, .int .i64 e]] W fun o w' => o = .returned (.tuple #[.agg #[.string (txt s), .int .i64 a0, .int .i64 e0], .int .i64 z]) ∧ Below W.heap.size W w') (P : List UInt8) (a1 : Nat) (e1 : Int) (lP : P.length ≤ 200) (c1 : ∀ W, Calls Try.prog 105 #[.agg #[.string (txt s), .int .i64 a0, .int .i64 (stopB e0 3)], .int .i64 200] W fun o w' => o = .returned (.tuple #[.agg #[.string (txt s), .int .i64 a1, .int .i64 e1], .string (txt P)]) ∧ Below W.heap.size W w') (K : List UInt8) (a2 : Nat) (e2 : Int) (lK : K.length = 32) (c2 : ∀ W, Calls Try.prog 107 #[.agg #[.string (txt s), .int .i64 a1, .int .i64 e1]] W fun o w' => o = .returned (.tuple #[.agg #[.string (txt s), .int .i64 a2, .int .i64 e2], .agg (K.map u8v).toArray]) ∧ Below W.heap.size W w') (E : Int) (hE : opE ⟨z, P, [], 0, [], [], K, 0⟩ = E) (hE0 : E ≠ 0) :
    Calls Try.prog 58 #[.agg #[.string (txt s), .int .i64 a, .int .i64 e]] w fun o w' => RgP s a2 (stopB e2 3) opZ w o w' := by
  have hI := RgI.start s a e w
  have q3 : (z == 3) = false := by simp; omega
  have q2 : (z == 2) = false := by simp; omega
  have q4 : (z == 4) = false := by simp; omega
  have q5 : (z == 5) = false := by simp; omega
  have q1 : decide (z < 1) = false := decide_eq_false (by omega)
  have q9 : decide (6 < z) = true := decide_eq_true (by omega)
  have q6 : decide (5 ≤ z) = true := decide_eq_true (by omega)
  have q7 : 5 ≤ z := by omega
  have q8 : ¬ z < 1 := by omega
  have q0 : 6 < z := by omega
  have cR : ∀ (W : World) , Calls Try.prog 54 #[.agg (opC ⟨z, P, [], 0, [], [], K, 0⟩ none 0 0 none 0 0)] W fun o w' => o = .returned (.int .i64 E) ∧ Below W.heap.size W w' := fun W => by
    have q := rr13_any ⟨z, P, [], 0, [], [], K, 0⟩ lK none 0 0 rfl (by decide) none 0 0 rfl (by decide) (Nat.le_trans lP (by decide)) (by simp) (by simp) (by simp) W (Rd.nil_ _ _) (Rd.nil_ _ _)
    rwa [hE] at q
  have hEn : (E != 0) = true := by simpa using hE0
  have hst : stopB e2 3 ≠ 0 := by unfold stopB; split <;> first | decide | assumption
  obtain ⟨ef, hef⟩ : ∃ ef, ef = stopB e2 3 := ⟨_, rfl⟩
  have hen : (ef != 0) = true := by rw [hef]; simpa using hst
  have cF : ∀ W, Calls Try.prog 104 #[.agg #[.string (txt s), .int .i64 a2, .int .i64 e2], .int .i64 3] W fun o w' => o = .returned (.agg #[.string (txt s), .int .i64 a2, .int .i64 ef]) ∧ Below W.heap.size W w' := fun W => by rw [hef]; exact rFail_any s a2 e2 3 W
  rw [← hef]
  clear hef hst
  have cF0 : ∀ W, Calls Try.prog 104 #[.agg #[.string (txt s), .int .i64 a0, .int .i64 e0], .int .i64 3] W fun o w' => o = .returned (.agg #[.string (txt s), .int .i64 a0, .int .i64 (stopB e0 3)]) ∧ Below W.heap.size W w' := fun W => rFail_any s a0 e0 3 W
  generalize stopB e0 3 = e0' at *
  clear hE
  clear hz
  have hHZ : (Try.prog.info? 24).map (·.size) = some (K.map u8v).toArray.size := by rw [List.size_toArray, List.length_map, lK]; exact sizeId
  have hK6 : 6 + (K.map u8v).toArray.size ≤ 39 := by rw [List.size_toArray, List.length_map, lK]; decide
  have h1K : ((K.map u8v).toArray).all (·.oneCell') = true := idVals_one K
  have hIS : ∀ A n c B m d, (Try.prog.info? 74).map (·.size) = some (opC opZ A n c B m d).size := fun _ _ _ _ _ _ => by rw [opC_size _ _ _ _ _ _ _ rfl]; exact infoOp
  have hOS : ∀ A n c B m d, (opC opZ none 0 0 none 0 0).size = (opC opZ A n c B m d).size := fun _ _ _ _ _ _ => (opC_size _ _ _ _ _ _ _ rfl).trans (opC_size _ _ _ _ _ _ _ rfl).symm
  go_enter Try.func58, Try.ntmps58
  go_wp2_with (fail)
  rw [← opC_lit 0, show (⟨0, [], [], 0, [], [], zeroB, 0⟩ : OpD) = opZ from rfl]
  generalize ((w.alloc (.cells #[.string (txt s), .int .i64 a, .int .i64 e] 69)).alloc (.cells #[.string ⟨#[]⟩, .int .i64 0, .int .i64 0] 69)).alloc (.cells (opC opZ none 0 0 none 0 0) 74) = W0 at *
  refine (cB W0).mono ?_
  rintro o1 w1 ⟨rfl, h1⟩
  replace hI := hI.below h1
  clear h1 cB
  go_wp2_with (first
    | ((with_reducible refine wpList_store_rv rfl _ _ rfl w.heap.size _ _ _ _ hI.rb rfl rfl rfl ?_); intro v1 x1 y1; replace hI := hI.setr x1 y1; have hS := hI.open_ z; clear x1 y1; have x0 := hS.box.c0; have k0 := hS.rb.cell_ (i := 0) rfl; have k1 := hS.rb.cell_ (i := 1) rfl; have k2 := hS.rb.cell_ (i := 2) rfl)
    | (with_reducible refine wpList_build_op rfl _ rfl z (by with_unfolding_all rfl) ?_)
    | (with_reducible refine wpList_store_new rfl 74 _ _ rfl (opC ⟨z, [], [], 0, [], [], zeroB, 0⟩ none 0 0 none 0 0) rfl rfl ?s2 ?s3 (opC_one _ _ _ _ _ _ _) ?_))
  case s2 => first | (rw [opC_size _ _ _ _ _ _ _ rfl]; exact infoOp) | (obtain ⟨i, hi, hz⟩ := Option.map_eq_some_iff.1 infoOp; exact ⟨i, hi, by rw [opC_size _ _ _ _ _ _ _ rfl]; exact hz⟩)
  case s3 => first | done | (rw [opC_size _ _ _ _ _ _ _ rfl]; done) | (rw [opC_size _ _ _ _ _ _ _ rfl]; rfl)
  clear x0 k0 k1 k2 hI
  generalize v1.alloc (.cells (opC ⟨z, [], [], 0, [], [], zeroB, 0⟩ none 0 0 none 0 0) 74) = W1 at *
  generalize v1.heap.size = ox at *
  have k0 := hS.rb.cell_ (i := 0) rfl
  have k1 := hS.rb.cell_ (i := 1) rfl
  have k2 := hS.rb.cell_ (i := 2) rfl
  go_wp2_with (first
    | (go_at_call 104; (with_reducible refine (cF0 _).mono ?_); rintro o1 w1 ⟨rfl, hb⟩; replace hS := hS.below hb; clear hb; clear k0 k1 k2)
    | ((with_reducible refine wpList_store_rv rfl _ _ rfl w.heap.size _ _ a0 e0' hS.rb rfl rfl rfl ?_); intro v1 x1 y1; replace hS := hS.setr x1 y1; clear x1 y1; have k0 := hS.rb.cell_ (i := 0) rfl; have k1 := hS.rb.cell_ (i := 1) rfl; have k2 := hS.rb.cell_ (i := 2) rfl)
    | (go_at_call 105; (with_reducible refine (c1 _).mono ?_); rintro o1 w1 ⟨rfl, hb⟩; replace hS := hS.below hb; clear hb; clear k0 k1 k2)
    | ((with_reducible refine wpList_store_rv rfl _ _ rfl w.heap.size _ _ a1 e1 hS.rb rfl rfl rfl ?_); intro v1 x1 y1; replace hS := hS.setr x1 y1; clear x1 y1; have y := hS.box.c1; have y' := hS.box.b.frozen 1; replace hS : RgS w _ s _ _ ox ⟨z, P, [], 0, [], [], zeroB, 0⟩ none 0 0 none 0 0 := hS.set1 P; have k0 := hS.rb.cell_ (i := 0) rfl; have k1 := hS.rb.cell_ (i := 1) rfl; have k2 := hS.rb.cell_ (i := 2) rfl)
    | (go_at_call 107; (with_reducible refine (c2 _).mono ?_); rintro o1 w1 ⟨rfl, hb⟩; replace hS := hS.below hb; clear hb; clear k0 k1 k2)
    | ((with_reducible refine wpList_store_rv rfl _ _ rfl w.heap.size _ _ a2 e2 hS.rb rfl rfl rfl ?_); intro v1 x1 y1; replace hS := hS.setr x1 y1; clear x1 y1)
    | ((with_reducible refine wpList_store_at rfl 24 _ _ rfl ox 6 _ (K.map u8v).toArray 74 hS.box.b rfl rfl hHZ (by rw [opC_size _ _ _ _ _ _ _ hS.hK]; exact hK6) h1K ?_); intro w2 hb2 hg2; rw [List.toList_toArray] at hb2; replace hS : RgS w _ s _ _ ox ⟨z, P, [], 0, [], [], K, 0⟩ none 0 0 none 0 0 := hS.setK K lK hb2 hg2; clear hb2 hg2; have k0 := hS.rb.cell_ (i := 0) rfl; have k1 := hS.rb.cell_ (i := 1) rfl; have k2 := hS.rb.cell_ (i := 2) rfl)
    | (with_reducible refine wpList_load_opx (by with_unfolding_all rfl) _ rfl _ rfl hS.box hS.hK ?_)
    | (go_at_call 54; (with_reducible refine (cR _).mono ?_); rintro o1 w1 ⟨rfl, hb⟩; replace hS := hS.below hb; clear hb; clear k0 k1 k2; have k0 := hS.rb.cell_ (i := 0) rfl; have k1 := hS.rb.cell_ (i := 1) rfl; have k2 := hS.rb.cell_ (i := 2) rfl)
    | (go_at_call 104; (with_reducible refine (cF _).mono ?_); rintro o1 w1 ⟨rfl, hb⟩; replace hS := hS.below hb; clear hb; clear k0 k1 k2)
    | ((with_reducible refine wpList_store_rv rfl _ _ rfl w.heap.size _ _ _ ef hS.rb rfl rfl rfl ?_); intro v1 x1 y1; replace hS := hS.setr x1 y1; clear x1 y1; have k0 := hS.rb.cell_ (i := 0) rfl; have k1 := hS.rb.cell_ (i := 1) rfl; have k2 := hS.rb.cell_ (i := 2) rfl)
    | (with_reducible refine wpList_build_op0 rfl rfl ?_)
    | ((with_reducible refine wpList_store_rv rfl _ _ rfl (w.heap.size + 1) _ _ _ _ hS.r1 rfl rfl rfl ?_); intro v8 x8 y8; have hT := hS.last x8 y8; have hX8 := blk_gb hS.box.b y8 (by have := hS.hox; omega); clear k0 k1 k2)
    | (with_reducible refine wpList_store_blk rfl 74 _ _ rfl (w.heap.size + 1 + 1) _ _ 74 hT.2.1 rfl rfl (hIS _ _ _ _ _ _) (hOS _ _ _ _ _ _) (opC_one _ _ _ _ _ _ _) ?_))
  intro w9 hb9 hg9
  go_wp2
  have hb8 := blk_gb hT.1 hg9 (by omega)
  refine bodyPost_ret (results_rows rfl _ _ _ _ _ _ _ _ _ _ _ _ rfl hb8 Try.underlying69 rfl infoR3 rfl hb9 Try.underlying74 rfl (hIS _ _ _ _ _ _)) rfl ?_
  exact ⟨none, 0, 0, none, 0, 0, rfl, OpR.zero _, hT.2.2.2.2.grown hg9 hT.2.2.2.2.size (fun k hk => by cases hk; omega)⟩
end Go.Proofs.Ythpdkdalfjahcaa

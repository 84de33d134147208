
/- pack: a reader's own steps: what is wrong, what is left, some bytes, one byte. -/
import Derived.Test.YtemdmdgigmhlbaaGreatTag2
import Derived.ScopeJumps
import Derived.WalkMore
namespace Go.Qc
open Go.RowKit

/-- A scope whose label the run comes to first by going on, then by jumps. -/
theorem wp_scope_label {P : Program} {a : Act} {w : World} {Q : Exit → Act → World → Prop} {c X : Code} (l : Nat) (J : Act → World → Prop) (μ : Act → World → Nat) (hf : findLabel c l = some (Code.skip.seq X))
    (pass : ∀ a w, J a w → X.wp P (Exit.jump l (fun a' w' => J a' w' ∧ μ a' w' < μ a w) Q) a w)
    (first : (∀ a w, J a w → X.wp P (Exit.jump l J Q) a w) → c.wp P (Exit.jump l J Q) a w) : (Code.scope c).wp P Q a w :=
  wp_scope_jumps l J μ hf (first fun a w h => wp_mono (pass a w h) fun e a w hq => by
    cases e <;> first | exact hq | exact ⟨hq.1, hq.2.1⟩) fun a w h => wp_seq (wp_skip (pass a w h))
end Go.Qc
namespace Go.Proofs.YtemdmdgigmhlbaaGreat
open Go.RowKit Go.Qc
attribute [local go_sem] txt_size txt_append ib_fold

/-- A reader that lies at block g: its bytes, its place, what is wrong. -/
def Rdr (g : Nat) (s : List UInt8) (a : Nat) (e : Int) (w : World) : Prop := Blk w g 103 #[.string (txt s), .int .i64 a, .int .i64 e]
theorem Rdr.lt {g : Nat} {s : List UInt8} {a : Nat} {e : Int} {w : World} (h : Rdr g s a e w) : g < w.heap.size := Blk.lt h
theorem Rdr.c0 {g : Nat} {s : List UInt8} {a : Nat} {e : Int} {w : World} (h : Rdr g s a e w) : w.cell? ⟨g, 0, none⟩ = some (.string (txt s)) := Blk.cell_ h rfl
theorem Rdr.c1 {g : Nat} {s : List UInt8} {a : Nat} {e : Int} {w : World} (h : Rdr g s a e w) : w.cell? ⟨g, 1, none⟩ = some (.int .i64 a) := Blk.cell_ h rfl
theorem Rdr.c2 {g : Nat} {s : List UInt8} {a : Nat} {e : Int} {w : World} (h : Rdr g s a e w) : w.cell? ⟨g, 2, none⟩ = some (.int .i64 e) := Blk.cell_ h rfl
theorem Rdr.f {g : Nat} {s : List UInt8} {a : Nat} {e : Int} {w : World} (h : Rdr g s a e w) (i : Nat) : w.frozen? ⟨g, i, none⟩ = false := Blk.frozen h i
theorem Rdr.setE {g : Nat} {s : List UInt8} {a : Nat} {e : Int} {w : World} (h : Rdr g s a e w) (x : Int) : Rdr g s a x (w.setCell ⟨g, 2, none⟩ (.int .i64 x)) := Blk.set h 2 (.int .i64 x)
theorem Rdr.setA {g : Nat} {s : List UInt8} {a : Nat} {e : Int} {w : World} (h : Rdr g s a e w) (x : Nat) : Rdr g s x e (w.setCell ⟨g, 1, none⟩ (.int .i64 x)) := Blk.set h 1 (.int .i64 x)
theorem Rdr.drewN {g : Nat} {s : List UInt8} {a : Nat} {e : Int} {w : World} (h : Rdr g s a e w) (n : Nat) : Rdr g s a e (w.drewN n) := h

theorem pkFail_new (g : Nat) (s : List UInt8) (a : Nat) (x : Int) (w : World) (h : Rdr g s a 0 w) :
    Calls Tryz.prog 89 #[.pointer (some ⟨g, 0, none⟩), .int .i64 x] w fun e w' => e = .returned (.tuple #[]) ∧ Rdr g s a x w' ∧ w.grownBy w' (some g) := by
  have c2 := h.c2
  have f2 := h.f 2
  have h1 := h.setE x
  go_enter Tryz.func89, Tryz.ntmps89
  go_wp2
  go_end0
  exact ⟨rfl, h1, gb_set (gb_refl w (some g)) 2 _⟩
theorem pkFail_old (g : Nat) (s : List UInt8) (a : Nat) (y x : Int) (hy : y ≠ 0) (w : World) (h : Rdr g s a y w) :
    Calls Tryz.prog 89 #[.pointer (some ⟨g, 0, none⟩), .int .i64 x] w fun e w' => e = .returned (.tuple #[]) ∧ w = w' := by
  have c2 := h.c2
  have b : (y == 0) = false := beq_false_of_ne hy
  clear hy
  go_enter Tryz.func89, Tryz.ntmps89
  go_wp2
  go_end0
  exact ⟨rfl, rfl⟩
theorem pkLeft_any (g : Nat) (s : List UInt8) (a : Nat) (e : Int) (ha : a ≤ s.length) (hs : s.length ≤ 1000000000000) (w : World) (h : Rdr g s a e w) :
    Calls Tryz.prog 88 #[.pointer (some ⟨g, 0, none⟩)] w fun e w' => e = .returned (.int .i64 (s.length - a : Nat)) ∧ ∃ n, w' = w.drewN n := by
  have c0 := fun n => (h.drewN n).c0
  have c1 := fun n => (h.drewN n).c1
  rw [show ((s.length - a : Nat) : Int) = (s.length : Int) - a by omega]
  have hw : wrap64 ((s.length : Int) - a) = (s.length : Int) - a := by unfold wrap64; omega
  have HW := hid hw
  clear h hw
  go_enter Tryz.func88, Tryz.ntmps88
  go_wp2
  go_quiet (fail)
  go_wp2
  go_ret
  refine ⟨?_, _, rfl⟩
  rw [← HW.out]; rfl

/-- Behind a reader's step: its new state, all else as it was. -/
structure Step (g : Nat) (s : List UInt8) (a : Nat) (e : Int) (w w' : World) : Prop where
  r : Rdr g s a e w'
  gb : w.grownBy w' (some g)
theorem Step.trans {g : Nat} {s : List UInt8} {a b : Nat} {e f : Int} {w w1 w2 : World} (h : Step g s a e w w1) (k : Step g s b f w1 w2) : Step g s b f w w2 := ⟨k.r, gb_trans h.gb k.gb⟩
theorem Step.drew {g : Nat} {s : List UInt8} {a : Nat} {e : Int} {w : World} (h : Rdr g s a e w) (n : Nat) : Step g s a e w (w.drewN n) := ⟨h, gb_drewN (gb_refl w (some g)) n⟩
theorem Step.same {g : Nat} {s : List UInt8} {a : Nat} {e : Int} {w : World} (h : Rdr g s a e w) : Step g s a e w w := ⟨h, gb_refl w (some g)⟩
def stopB (e x : Int) : Int := if e = 0 then x else e
theorem pkFail_any (g : Nat) (s : List UInt8) (a : Nat) (e x : Int) (w : World) (h : Rdr g s a e w) :
    Calls Tryz.prog 89 #[.pointer (some ⟨g, 0, none⟩), .int .i64 x] w fun o w' => o = .returned (.tuple #[]) ∧ Step g s a (stopB e x) w w' := by
  unfold stopB
  by_cases he : e = 0
  · subst he
    rw [if_pos rfl]
    exact (pkFail_new g s a x w h).mono fun _ _ ⟨h1, h2, h3⟩ => ⟨h1, h2, h3⟩
  · rw [if_neg he]
    exact (pkFail_old g s a e x he w h).mono fun _ _ ⟨h1, h2⟩ => ⟨h1, h2 ▸ Step.same h⟩

theorem slice_txt (s : List UInt8) (a c : Nat) : (txt s).extract a (a + c) = txt ((s.drop a).take c) := by
  rw [txt_extract]; congr 2; omega
set_option maxHeartbeats 1000000 in
theorem pkTake_ok (g : Nat) (s : List UInt8) (a c : Nat) (e : Int) (h : a + c ≤ s.length) (hs : s.length ≤ 1000000000000) (w : World) (hr : Rdr g s a e w) :
    Calls Tryz.prog 71 #[.pointer (some ⟨g, 0, none⟩), .int .i64 c] w fun o w' => o = .returned (.string (txt ((s.drop a).take c))) ∧ Step g s (a + c) e w w' := by
  have hl : a ≤ s.length := by omega
  obtain ⟨L, hL⟩ : ∃ L : Int, L = ((s.length - a : Nat) : Int) := ⟨_, rfl⟩
  have h1 : ¬ L < c := by omega
  have cl : ∀ W : World, Rdr g s a e W → Calls Tryz.prog 88 #[.pointer (some ⟨g, 0, none⟩)] W fun e w' => e = .returned (.int .i64 L) ∧ ∃ n, w' = W.drewN n := fun W hW => by rw [hL]; exact pkLeft_any g s a e hl hs W hW
  have HH0 := hid h
  clear h hL
  rw [← slice_txt]
  go_enter Tryz.func71, Tryz.ntmps71
  go_wp2_with (first
    | (go_at_call 88; (with_reducible refine (cl _ hr).mono ?_); rintro o1 w1 ⟨rfl, n1, rfl⟩))
  have c0 := hr.c0
  have c1 := hr.c1
  have f1 := hr.f 1
  have h := HH0.out
  have hw : wrap64 ((a : Int) + (c : Int)) = ((a + c : Nat) : Int) := by unfold wrap64; omega
  have b1 : (a : Int) ≤ ((a + c : Nat) : Int) := by omega
  have b2 : ((a + c : Nat) : Int) ≤ s.length := by omega
  have b3 : (0 : Int) ≤ ((a + c : Nat) : Int) := by omega
  clear h1 cl h
  go_quiet (fail)
  go_wp2
  go_ret
  refine ⟨rfl, ?_⟩
  have h1 := (hr.drewN (n1 + nq)).setA (a + c)
  rw [Int.natCast_add] at h1
  exact ⟨h1, gb_set (gb_drewN (gb_refl w (some g)) (n1 + nq)) 1 _⟩
set_option maxHeartbeats 1000000 in
theorem pkTake_short (g : Nat) (s : List UInt8) (a c : Nat) (e : Int) (h : s.length < a + c) (hl : a ≤ s.length) (hs : s.length ≤ 1000000000000) (w : World) (hr : Rdr g s a e w) :
    Calls Tryz.prog 71 #[.pointer (some ⟨g, 0, none⟩), .int .i64 c] w fun o w' => o = .returned (.string ⟨#[]⟩) ∧ Step g s a (stopB e 2) w w' := by
  obtain ⟨L, hL⟩ : ∃ L : Int, L = ((s.length - a : Nat) : Int) := ⟨_, rfl⟩
  have h1 : L < c := by omega
  have cl : ∀ W : World, Rdr g s a e W → Calls Tryz.prog 88 #[.pointer (some ⟨g, 0, none⟩)] W fun e w' => e = .returned (.int .i64 L) ∧ ∃ n, w' = W.drewN n := fun W hW => by rw [hL]; exact pkLeft_any g s a e hl hs W hW
  clear h hL
  go_enter Tryz.func71, Tryz.ntmps71
  go_wp2_with (first
    | (go_at_call 88; (with_reducible refine (cl _ hr).mono ?_); rintro o1 w1 ⟨rfl, n1, rfl⟩)
    | (go_at_call 89; (with_reducible refine (pkFail_any g s a e 2 _ (hr.drewN n1)).mono ?_); rintro o2 w2 ⟨rfl, h2⟩))
  go_ret
  exact ⟨rfl, (Step.drew hr n1).trans h2⟩
theorem drop_one {s : List UInt8} {a : Nat} {x : UInt8} (h : s[a]? = some x) : (s.drop a).take 1 = [x] := by
  have hlt : a < s.length := (List.getElem?_eq_some_iff.1 h).1
  rw [List.drop_eq_getElem_cons hlt, List.take_succ_cons, List.take_zero]
  congr 1
  rw [List.getElem?_eq_getElem hlt] at h
  exact Option.some.inj h
theorem pkOctet_ok (g : Nat) (s : List UInt8) (a : Nat) (e : Int) (x : UInt8) (h : s[a]? = some x) (hs : s.length ≤ 1000000000000) (w : World) (hr : Rdr g s a e w) :
    Calls Tryz.prog 68 #[.pointer (some ⟨g, 0, none⟩)] w fun o w' => o = .returned (.int .u8 (ib x)) ∧ Step g s (a + 1) e w w' := by
  have hlt : a < s.length := (List.getElem?_eq_some_iff.1 h).1
  have ct : ∀ W : World, Rdr g s a e W → Calls Tryz.prog 71 #[.pointer (some ⟨g, 0, none⟩), .int .i64 1] W fun o w' => o = .returned (.string (txt [x])) ∧ Step g s (a + 1) e W w' := fun W hW => by
    rw [← drop_one h]; exact pkTake_ok g s a 1 e hlt hs W hW
  have hsz : (txt [x]).size = 1 := by rw [txt_size]; rfl
  have hne : (txt [x]).toList.isEmpty = false := by simp [ByteArray.toList, ByteArray.toList.loop, hsz]
  have hix : ∀ W : World, (Instr.index 9 (.string (txt [x])) (.int .i64 0)).run Tryz.prog W = .ok (.int .u8 (ib x)) W := fun W => by
    simp [Instr.index, run_underlying Tryz.underlying9]
    rfl
  clear h hlt
  go_enter Tryz.func68, Tryz.ntmps68
  go_wp2_with (first
    | (go_at_call 71; (with_reducible refine (ct _ hr).mono ?_); rintro o1 w1 ⟨rfl, h1⟩))
  go_ret
  exact ⟨rfl, h1⟩
theorem pkOctet_no (g : Nat) (s : List UInt8) (e : Int) (hs : s.length ≤ 1000000000000) (w : World) (hr : Rdr g s s.length e w) :
    Calls Tryz.prog 68 #[.pointer (some ⟨g, 0, none⟩)] w fun o w' => o = .returned (.int .u8 0) ∧ Step g s s.length (stopB e 2) w w' := by
  have ct : ∀ W : World, Rdr g s s.length e W → Calls Tryz.prog 71 #[.pointer (some ⟨g, 0, none⟩), .int .i64 1] W fun o w' => o = .returned (.string ⟨#[]⟩) ∧ Step g s s.length (stopB e 2) W w' := fun W hW =>
    pkTake_short g s s.length 1 e (by omega) (Nat.le_refl _) hs W hW
  go_enter Tryz.func68, Tryz.ntmps68
  go_wp2_with (first
    | (go_at_call 71; (with_reducible refine (ct _ hr).mono ?_); rintro o1 w1 ⟨rfl, h1⟩))
  go_ret
  exact ⟨rfl, h1⟩
end Go.Proofs.YtemdmdgigmhlbaaGreat

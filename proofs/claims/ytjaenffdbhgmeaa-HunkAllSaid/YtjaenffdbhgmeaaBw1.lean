
/- hunk: the iterator of hunks from the last one on. -/
import Derived.Test.YtjaenffdbhgmeaaHk16
import Derived.Test.YtjaenffdbhgmeaaPa3
set_option linter.unusedSimpArgs false
set_option linter.unusedVariables false
namespace Go.Proofs.Ytjaenffdbhgmeaa
open Go.RowKit Go.Qc Go.Shelf
attribute [local go_sem] txt_size txt_append ib_fold txt_toL
attribute [local go_sem] Oper.semAt_some

/-- A hunk's three cells, as values. -/
abbrev Hc := Int × Value × Value
def hcV (h : Hc) : Value := .agg #[.int .i64 h.1, h.2.1, h.2.2]
def HcAt (w : World) (p : Addr) (h : Hc) : Prop := w.cell? ⟨p.block, p.off, none⟩ = some (.int .i64 h.1) ∧ w.cell? ⟨p.block, p.off + 1, none⟩ = some h.2.1 ∧ w.cell? ⟨p.block, p.off + 2, none⟩ = some h.2.2
/-- What lay below stays. -/
def OldK (M : Nat) (A B : World) : Prop := ∀ p u, p.block < M → A.cell? p = some u → B.cell? p = some u
theorem OldK.trans {M : Nat} {A B C : World} (h : OldK M A B) (k : OldK M B C) : OldK M A C := fun p u hp hu => k p u hp (h p u hp hu)
theorem OldK.below {M : Nat} {A B : World} (h : Below M A B) : OldK M A B := fun p u hp hu => (h.cell hp).trans hu
/-- What lay below stays, and a box. -/
def KpB (M Bn : Nat) (A B : World) : Prop := OldK M A B ∧ ∀ u, A.cell? ⟨Bn, 0, none⟩ = some u → B.cell? ⟨Bn, 0, none⟩ = some u
theorem KpB.trans {M Bn : Nat} {A B C : World} (h : KpB M Bn A B) (k : KpB M Bn B C) : KpB M Bn A C := ⟨h.1.trans k.1, fun u hu => k.2 u (h.2 u hu)⟩
theorem KpB.put {M Bn : Nat} (W : World) (l : Nat) (o : Obj) (h1 : M ≤ l) (h2 : Bn < l) : KpB M Bn W (W.putObj l o) :=
  ⟨fun p u hp hu => (grownBy_putObj' W l o).cell hu (fun e => by have := Option.some.inj e; omega), fun u hu => (grownBy_putObj' W l o).cell hu (fun e => by have := Option.some.inj e; simp at this; omega)⟩
theorem cell_lt {w : World} {p : Addr} {u : Value} (h : w.cell? p = some u) : p.block < w.heap.size := by
  unfold World.cell? at h
  split at h
  · rename_i heq
    exact (Array.getElem?_eq_some_iff.1 heq).1
  · cases h

def hbIn (w : World) (A : Option Addr) (hs : List Hc) : Prop := ∀ j h, hs[j]? = some h → ∃ g o, A = some ⟨g, o, none⟩ ∧ HcAt w ⟨g, o + j * 3, none⟩ h
theorem hbIn.old {w w' : World} {A : Option Addr} {hs : List Hc} {M : Nat} (h : hbIn w A hs) (hM : w.heap.size ≤ M) (hb : OldK M w w') : hbIn w' A hs := by
  intro j x hx
  obtain ⟨g, o, rfl, h1⟩ := h j x hx
  refine ⟨g, o, rfl, ?_⟩
  exact ⟨hb _ _ (Nat.lt_of_lt_of_le (cell_lt h1.1) hM) h1.1, hb _ _ (Nat.lt_of_lt_of_le (cell_lt h1.2.1) hM) h1.2.1, hb _ _ (Nat.lt_of_lt_of_le (cell_lt h1.2.2) hM) h1.2.2⟩
/-- What the iterator hands on: a place, and what stands there. -/
def hbEnc (hs : List Hc) (x : Nat) : Array Value := #[.int .i64 (x : Int), hcV (hs.getD x (0, undef, undef))]
set_option maxRecDepth 100000 in
set_option maxHeartbeats 4000000 in
theorem hb1_in (n : Nat) (hn : 1 ≤ n) (l Bn : Nat) (A : Option Addr) (N c : Nat) (hs : List Hc) (hN : hs.length = N) (bN : N ≤ 1000000) (M : Nat) (w0 : World) (hM : w0.heap.size ≤ M) (hA : hbIn w0 A hs) (J Jx : List (Fin N) → World → Prop) (W : World) (hW0 : OldK M w0 W)
    (hBn : W.cell? ⟨Bn, 0, none⟩ = some (.slice A N c))
    (hY : ∀ pre (x : Fin N) W, J pre W → pre.length < N → YieldAt Fence.wide (n - 1) Try.prog l (hbEnc hs x.val) W fun e W' =>
      (e = .returned (.bool true) ∧ J (pre ++ [x]) W' ∧ KpB M Bn W W') ∨ (e = .returned (.bool false) ∧ Jx (pre ++ [x]) W'))
    (h0 : J [] W) :
    CallsIn Fence.wide n Try.prog 84 #[.func (.yield l) #[] #[], .pointer (some ⟨Bn, 0, none⟩)] W fun e W' => (∃ v, e = .returned v) ∧
      ((∃ ys : List (Fin N), ys.map (·.val) = (List.range N).reverse ∧ J ys W') ∨ (∃ pre : List (Fin N), pre.length ≤ N ∧ Jx pre W')) := by
  unfold hbEnc hcV at hY
  have HA := hid hA
  have HN := hid hN
  clear hA hN
  refine callsIn_of_wp Try.func84 rfl trivial ?_ rfl
  simp only [Try.ntmps84, List.size_toArray, List.length_cons, List.length_nil, Nat.reduceAdd, Nat.reduceSub, Array.replicate_succ, Array.replicate_zero, List.push_toArray, List.append_toArray, List.nil_append, List.cons_append]
  gi_wp2
  gi_loopw [3] (fun i wr => ∃ (k : Nat) (pre : List (Fin N)), k ≤ N ∧ i = .int .i64 ((k : Int) - 1) ∧ pre.map (·.val) ++ (List.range k).reverse = (List.range N).reverse ∧ Hid (OldK M w0 wr) ∧ wr.cell? ⟨Bn, 0, none⟩ = some (.slice A N c) ∧ J pre wr)
    (fun i _ => (intOf i + 1).toNat)
  case atStart =>
    exact ⟨N, [], Nat.le_refl _, (by first | rfl | (congr 1; go_num) | simp), by simp, hid hW0, hBn, h0⟩
  case round =>
    obtain ⟨k, pre, hk, rfl, hpre, hO, hB, hJ⟩ := hrel
    cases k with
    | zero =>
      simp only [List.range_zero, List.reverse_nil, List.append_nil] at hpre
      have hz : ((0 : Nat) : Int) - 1 = -1 := rfl
      rw [hz]
      have hP := hid hpre
      clear hpre
      gi_wp2
      go_end0
      exact ⟨⟨_, rfl⟩, .inl ⟨pre, hP.out, hJ⟩⟩
    | succ j =>
      have hz : ((j + 1 : Nat) : Int) - 1 = (j : Int) := by omega
      rw [hz]
      obtain ⟨h, hx⟩ : ∃ h, hs[j]? = some h := ⟨_, List.getElem?_eq_getElem (by rw [HN.out]; omega)⟩
      obtain ⟨g, o, rfl, hat⟩ := HA.out j h hx
      have hlen : pre.length < N := by
        have := congrArg List.length hpre
        simp only [List.length_append, List.length_map, List.length_reverse, List.length_range] at this
        omega
      have hnext : (pre ++ [(⟨j, by omega⟩ : Fin N)]).map (·.val) ++ (List.range j).reverse = (List.range N).reverse := by
        rw [← hpre, List.range_succ, List.reverse_append, List.map_append]
        simp
      have HNX := hid hnext
      have hjN : (j : Int) < N := by omega
      have hj0 : (0 : Int) ≤ j := by omega
      obtain ⟨fn, tmps, assign, body, hy, hR⟩ := hY pre ⟨j, by omega⟩ wr hJ hlen
      have hget : hs.getD j (0, undef, undef) = h := by rw [List.getD_eq_getElem?_getD, hx]; rfl
      simp only [hget] at hy
      have p0 := hO.out _ _ (Nat.lt_of_lt_of_le (cell_lt hat.1) hM) hat.1
      have p1 := hO.out _ _ (Nat.lt_of_lt_of_le (cell_lt hat.2.1) hM) hat.2.1
      have p2 := hO.out _ _ (Nat.lt_of_lt_of_le (cell_lt hat.2.2) hM) hat.2.2
      have ho : (o : Int) + j * 3 = ((o + j * 3 : Nat) : Int) := by omega
      clear hat hx hget hnext hpre hlen
      gi_wp2
      refine hR.mono ?_
      rintro e W3 (⟨rfl, hJ3, hK3⟩ | ⟨rfl, hJx3⟩)
      · have hB3 := hK3.2 _ hB
        gi_wp2
        go_roundw
        case rel => exact ⟨j, _, by omega, rfl, HNX.out, hid (hO.out.trans hK3.1), hB3, hJ3⟩
        case measure => simp [intOf] <;> omega
      · gi_wp2
        refine bodyPost_ret (v := .tuple #[]) (by simp [results, Try.f84, go_sem]) rfl ?_
        refine ⟨⟨_, rfl⟩, .inr ⟨_, ?_, hJx3⟩⟩
        have := congrArg List.length HNX.out
        simp only [List.length_append, List.length_map, List.length_reverse, List.length_range] at this
        simp only [List.length_append]
        omega
end Go.Proofs.Ytjaenffdbhgmeaa

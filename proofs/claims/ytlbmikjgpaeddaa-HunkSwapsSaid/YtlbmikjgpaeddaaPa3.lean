
/- path: the iterator of a text's pieces. -/
import Derived.Test.YtlbmikjgpaeddaaPa2
import Derived.RangeFuncNested
import Derived.RangeFuncCalls
import Derived.RangeFuncLeaves
import Derived.RangeFuncBox
import Derived.Maps.AppendAt
import Derived.Shelf.Abstract
import Derived.Shelf.RegionOpen
import Derived.WalkKit
import Derived.OwnWalkIn
import Derived.TacticsInMore
import Derived.LoopNIn
import Derived.LoopIn
namespace Go.Proofs.Ytlbmikjgpaeddaa
open Go.RowKit Go.Qc Go.Shelf
attribute [local go_sem] txt_size txt_append ib_fold txt_toL
attribute [local go_sem] Oper.semAt_some

theorem grown_none {a b : World} (h : Below a.heap.size a b) : a.grownBy b none := ⟨h.os, h.tape, h.output, h.size, fun k hk _ => h.block k hk⟩
def sizeV : Value → Nat
  | .string s => s.size
  | _ => 0
def flagV : Value → Nat
  | .bool true => 1
  | _ => 0
/-- A text of no more bytes than a machine has. -/
abbrev PS := { x : List UInt8 // x.length ≤ 1000000000000 }
set_option maxRecDepth 100000 in
set_option maxHeartbeats 2000000 in
theorem pieces1_in (n : Nat) (hn : 1 ≤ n) (l Bn : Nat) (s : List UInt8) (hs : s.length ≤ 1000000000000) (J Jx : List PS → World → Prop) (W : World) (hJ : AbidesFrom W.heap.size J)
    (hY : ∀ pre x W, J pre W → pre.length < (splitS s).length → YieldAt Fence.wide (n - 1) Try.prog l #[strV x.1] W fun e W' =>
      (e = .returned (.bool true) ∧ J (pre ++ [x]) W' ∧ True) ∨ (e = .returned (.bool false) ∧ Jx (pre ++ [x]) W'))
    (hBn : W.cell? ⟨Bn, 0, none⟩ = some (.string (txt s))) (h0 : J [] W) :
    CallsIn Fence.wide n Try.prog 63 #[.func (.yield l) #[] #[], .pointer (some ⟨Bn, 0, none⟩)] W fun e W' => (∃ v, e = .returned v) ∧
      ((∃ ys : List PS, ys.map (·.1) = splitS s ∧ J ys W') ∨ (∃ pre : List PS, pre.map (·.1) <+: splitS s ∧ Jx pre W')) := by
  unfold strV at hY
  have cC := cut_any s hs
  refine callsIn_of_wp Try.func63 rfl trivial ?_ rfl
  simp only [Try.ntmps63, List.size_toArray, List.length_cons, List.length_nil, Nat.reduceAdd, Nat.reduceSub, Array.replicate_succ, Array.replicate_zero, List.push_toArray, List.append_toArray, List.nil_append, List.cons_append]
  gi_wp2_with (refine ⟨trivial, ?_⟩; gi_at_call 64; refine (callsIn_wide.2 (cC _)).mono ?_; rintro e1 w1 ⟨rfl, hB1⟩)
  have h1 : J [] w1 := hJ _ _ _ none h0 (grown_none hB1) (fun r e => by cases e)
  have hAb : ∀ pre W2 W3, J pre W2 → Below W2.heap.size W2 W3 → J pre W3 := fun pre W2 W3 h hb => hJ _ _ _ none h (grown_none hb) (fun r e => by cases e)
  gi_loopw [3, 4, 5] (fun p r m wr => ∃ (pre : List PS) (a : PS) (b : List UInt8) (t : Bool), p = .string (txt a.1) ∧ r = .string (txt b) ∧ m = .bool t ∧ b.length ≤ s.length ∧ splitS s = pre.map (·.1) ++ (if t then a.1 :: splitS b else [a.1]) ∧ J pre wr)
    (fun _ r m _ => sizeV r + flagV m)
  case atStart =>
    exact ⟨[], ⟨cutA s, Nat.le_trans (cutA_len s) hs⟩, cutR s, cutM s, rfl, rfl, rfl, by have := cutR_len s; omega, by rw [List.map_nil, List.nil_append]; exact splitS_eq s, h1⟩
  case round =>
    obtain ⟨pre, a, b, t, rfl, rfl, rfl, hbl, hsp, hJs⟩ := hrel
    obtain ⟨fn, tmps, assign, body, hy, hR⟩ := hY pre a wr hJs (by rw [hsp]; cases t <;> simp)
    have cD := cut_any b (by omega)
    have HSP := hid hsp
    clear hsp
    gi_wp2
    refine hR.mono ?_
    rintro e W3 (⟨rfl, hJ3, _⟩ | ⟨rfl, hJx3⟩)
    · cases t with
      | true =>
        gi_wp2_with (refine ⟨trivial, ?_⟩; gi_at_call 64; refine (callsIn_wide.2 (cD _)).mono ?_; rintro e1 w1 ⟨rfl, hB1⟩)
        go_roundw
        case rel =>
          have hl := cutR_len b
          exact ⟨pre ++ [a], ⟨cutA b, Nat.le_trans (cutA_len b) (by omega)⟩, cutR b, cutM b, rfl, rfl, rfl, by omega, by rw [HSP.out, splitS_eq b, List.map_append, List.append_assoc]; rfl, hAb _ _ _ hJ3 hB1⟩
        case measure =>
          have hl := cutR_len b
          simp only [sizeV, flagV, txt_size]
          cases hm : cutM b
          · rw [hm] at hl; simp at hl ⊢; omega
          · rw [hm] at hl; simp at hl ⊢; omega
      | false =>
        gi_wp2
        go_end0
        exact ⟨⟨_, rfl⟩, .inl ⟨pre ++ [a], by rw [HSP.out, List.map_append]; rfl, hJ3⟩⟩
    · gi_wp2
      go_end0
      exact ⟨⟨_, rfl⟩, .inr ⟨pre ++ [a], by rw [HSP.out]; cases t <;> simp, hJx3⟩⟩
end Go.Proofs.Ytlbmikjgpaeddaa

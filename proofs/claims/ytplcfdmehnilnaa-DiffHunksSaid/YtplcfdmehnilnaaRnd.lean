
/- A region whose order is drawn, in the body of a range over a function: what is shown of it outside such a body holds there too. Of no program. -/
import Derived.Test.YtplcfdmehnilnaaKit6
import Derived.OrdersIn
import Derived.TacticsIn
import Derived.Tactics
import Derived.StillTailTactics
import Derived.OrdersHeld
import Derived.OwnWalkIn
import Derived.RangeFuncCalls
set_option linter.unusedVariables false
set_option linter.unusedSimpArgs false
namespace Go.Qc
open Go.RowKit

/-- None of a region's operations is a defer statement. -/
def noDefer (ops : Array Oper) : Bool := ops.toList.all fun o => match o.op with | .defer _ => false | _ => true
theorem noDefer_spec {ops : Array Oper} (h : noDefer ops = true) {i : Nat} {o : Oper} (ho : ops[i]? = some o) : ∀ c, o.op ≠ .defer c := by
  intro c e
  have hm : o ∈ ops.toList := by
    obtain ⟨hi, rfl⟩ := Array.getElem?_eq_some_iff.1 ho
    simp
  have := List.all_eq_true.1 h o hm
  rw [e] at this
  cases this
theorem rowsIn_round {P : Program} {row : String} {args : Array Value} {w : World} {R : Value → World → Prop} (l n : Nat) (h : Rows P row args w R) : RowsIn (Fence.wide.inRound l) n P row args w R :=
  fun c cs _ => let ⟨v, w', r, s⟩ := h c cs; ⟨v, w', r, stepsIn_wide.2 s⟩
theorem oper_in_round {P : Program} {o : Oper} {a : Act} {w : World} {K : Act → World → Prop} {Q : Exit → Act → World → Prop} (l n : Nat) (hd : ∀ c, o.op ≠ .defer c) (h : o.wp P a w K Q) : o.wpIn (Fence.wide.inRound l) n P a w K Q := by
  unfold Oper.wpIn
  refine ⟨fun _ _ => trivial, ?_⟩
  rw [Oper.semAt_plain _ _ _ hd]
  unfold Oper.wp at h
  generalize (execOp a.eval o).run P w = x at *
  cases x with
  | ok y w' =>
    cases y <;> simp only [Oper.upon] at h <;> simp only [Oper.uponIn]
    case value => exact h
    case skip => exact h
    case defer => exact h
    case enter f args => exact ⟨fun e => (by cases e), CallsIn.inRound l (callsIn_wide.2 h)⟩
    case row => exact ⟨fun e => (by cases e), rowsIn_round l _ h⟩
  | halt y w' =>
    cases y <;> simp only [Oper.upon] at h <;> simp only [Oper.uponIn]
    case panic => exact h
theorem wpOp_in_round {P : Program} {ops : Array Oper} {i : Nat} {a : Act} {w : World} {K : Act → World → Prop} {Q : Exit → Act → World → Prop} (l n : Nat) (hd : noDefer ops = true) (hL : ¬ LetsOut Q) (h : wpOp P ops Q i K a w) : wpOpIn (Fence.wide.inRound l) n P ops Q i K a w := by
  unfold wpOp at h
  unfold wpOpIn
  split
  · rename_i ho; simp only [ho] at h; exact h
  · rename_i o ho
    simp only [ho] at h
    split
    · rename_i hw
      simp only [hw, if_true] at h
      rcases h with h | ⟨_, h⟩
      · exact oper_in_round l n (noDefer_spec hd ho) h
      · exact absurd h hL
    · rename_i hw
      simp only [hw] at h
      exact ⟨fun _ _ => trivial, h⟩
theorem wpAny_in_round {P : Program} {md : Region.Mode} {ops : Array Oper} {Q : Exit → Act → World → Prop} (l n : Nat) (hd : noDefer ops = true) (hL : ¬ LetsOut Q) : ∀ (fuel : Nat) (listed : Array Bool) (a : Act) (w : World), wpAny P md ops Q fuel listed a w → wpAnyIn (Fence.wide.inRound l) n P md ops Q fuel listed a w
  | 0, _, _, _, h => h
  | fuel + 1, _, _, _, h => ⟨h.1, fun i hi => wpOpIn_mono (fun _ _ h' => wpAny_in_round l n hd hL fuel _ _ _ h') (wpOp_in_round l n hd hL (h.2 i hi))⟩
/-- The walk outside serves inside. -/
theorem wpIn_region_round {P : Program} {id : Nat} {l : List Oper} {Q : Exit → Act → World → Prop} {a : Act} {w : World} {r n : Nat} (hm : P.follows .mixedOrders = true) (hd : noDefer l.toArray = true) (hL : ¬ LetsOut Q)
    (h : wpAny P .any l.toArray Q l.toArray.size (Array.replicate l.toArray.size false) a w.drew) : (Code.region id l.toArray true).wpIn (Fence.wide.inRound r) n P Q a w :=
  wpIn_region_any hm (wpAny_in_round r n hd hL _ _ _ _ h)
/-- What reads comes first, in the text's order; then the tail. -/
theorem wpIn_round_tail {P : Program} {id : Nat} {l : List Oper} {Q : Exit → Act → World → Prop} {a : Act} {w : World} {r n : Nat} (k : Nat) (hm : P.follows .mixedOrders = true) (hd : noDefer l.toArray = true) (hB : Region.lexTailB .any l.toArray k = true) (hL : ¬ LetsOut Q)
    (h : wpStill P l.toArray w.drew (fun a' => wpList P l.toArray Q (l.drop k) a' w.drew) (l.take k) a) : (Code.region id l.toArray true).wpIn (Fence.wide.inRound r) n P Q a w := by
  refine wpIn_region_round hm hd hL ?_
  simp only [Region.lexTailB, Bool.and_eq_true, decide_eq_true_eq] at hB
  obtain ⟨⟨⟨⟨hsel, hk⟩, hs⟩, hc⟩, hlex⟩ := hB
  have hk' : k < l.length := by simpa using hk
  have ht : (l.take k).length = k := by rw [List.length_take]; omega
  have hr : (l.drop k).length = l.toArray.size - k := by rw [List.length_drop, List.size_toArray]
  have start : HeadInv .any l.toArray k (Array.replicate l.toArray.size false) := by
    refine ⟨Array.size_replicate, fun j oj _ e => ?_, fun t _ h2 => getD_in (by rw [Array.size_replicate]; exact h2) (getD_replicate_false _ _)⟩
    rw [getD_replicate_false] at e
    cases e
  have hW := wpAnyL_lex (P := P) (w := w.drew) (md := .any) (g := l.toArray.size - k) (Lq := fun a' => wpList P l.toArray Q (l.drop k) a' w.drew) hsel hs hc hk (l.take k) 0 (Array.replicate l.toArray.size false) a
    (fun j hj => by rw [ht] at hj; rw [Nat.zero_add, List.getElem?_toArray, List.getElem?_take, if_pos hj]) (by rw [Nat.zero_add, ht]) start (by rw [ht]; exact hlex) h
  have hA := wpAny_of_head (P := P) (Q' := Q) (g := l.toArray.size - k) (fun listed a' (hq : Region.seqB .any l.toArray (l.toArray.size - k) k listed = true ∧ wpList P l.toArray Q (l.drop k) a' w.drew) => by
    have := wpAny_of_seq (P := P) (md := .any) (ops := l.toArray) (Q' := Q) (l.drop k) k listed a' w.drew (fun j => by rw [List.getElem?_drop, List.getElem?_toArray]) (by rw [hr]; exact hq.1) hq.2
    rw [hr] at this
    exact this) _ _ _ hW
  have e : (l.take k).length + (l.toArray.size - k) = l.toArray.size := by rw [ht]; omega
  rw [e] at hA
  exact hA
end Go.Qc

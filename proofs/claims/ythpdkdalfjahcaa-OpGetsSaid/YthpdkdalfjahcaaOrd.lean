
/- A region whose order is drawn: each of its few orders, one by one, as a list. Of no program. -/
import Derived.Test.YthpdkdalfjahcaaKit6
import Derived.OrdersIn
import Derived.TacticsIn
import Derived.Tactics
set_option linter.unusedVariables false
set_option linter.unusedSimpArgs false
namespace Go.Qc
open Go.RowKit

/-- All orders in which a region's operations may come. -/
def ordersFrom (md : Region.Mode) (ops : Array Oper) : Nat → Array Bool → List (List Nat)
  | 0, _ => [[]]
  | fuel + 1, listed =>
    match Region.ready md ops listed with
    | [] => [[]]
    | x :: xs => (x :: xs).flatMap fun i => (ordersFrom md ops fuel (listed.setIfInBounds i true)).map (i :: ·)
theorem order_mem (md : Region.Mode) (ops : Array Oper) : ∀ (fuel t : Nat) (listed : Array Bool), Region.linearise.go md ops fuel t listed [] ∈ ordersFrom md ops fuel listed := by
  intro fuel
  induction fuel with
  | zero => intro t listed; simp [Region.linearise.go, ordersFrom]
  | succ fuel ih =>
    intro t listed
    simp only [ordersFrom]
    rw [Region.linearise.go]
    change (match (Region.ready md ops listed)[t % (Region.ready md ops listed).length]? with
      | some i => Region.linearise.go md ops fuel (t / (Region.ready md ops listed).length) (listed.setIfInBounds i true) [i]
      | none => [].reverse) ∈ _
    cases hr : Region.ready md ops listed with
    | nil => simp
    | cons x xs =>
      simp only
      have hlt : t % (x :: xs).length < (x :: xs).length := Nat.mod_lt _ (by simp)
      rw [List.getElem?_eq_getElem hlt]
      simp only
      rw [linearise_go_acc, List.reverse_singleton, List.singleton_append]
      exact List.mem_flatMap.2 ⟨_, List.getElem_mem hlt, List.mem_map.2 ⟨_, ih _ _, rfl⟩⟩
/-- Each order as a list of operations. -/
def listsOf (ops : Array Oper) (l : List (List Nat)) : List (List Oper) := l.map fun is => is.filterMap fun i => ops[i]?
def ordersOk (ops : Array Oper) (l : List (List Nat)) : Bool := l.all fun is => is.all fun i => decide (i < ops.size)
theorem wpOps_orders {P : Program} {ops : Array Oper} {Q : Exit → Act → World → Prop} : ∀ (is : List Nat) (os : List Oper), is.map (fun i => ops[i]?) = os.map some → wpOps P ops Q is = wpList P ops Q os
  | [], [], _ => by funext a w; simp [wpOps, wpList]
  | [], _ :: _, h => by simp at h
  | _ :: _, [], h => by simp at h
  | i :: is, o :: os, h => by
    rw [List.map_cons, List.map_cons] at h
    injection h with h0 h1
    have ih := wpOps_orders (P := P) (Q := Q) is os h1
    funext a w
    simp only [wpOps, h0, wpList, ih]
/-- A drawn region: each order, in the walk's own lists. -/
theorem wp_region_each {P : Program} {id : Nat} {l : List Oper} {Q : Exit → Act → World → Prop} {a : Act} {w : World} (hm : P.follows .mixedOrders = true) (is : List (List Nat))
    (h1 : ordersFrom .any l.toArray l.length (Array.replicate l.length false) = is) (h2 : ordersOk l.toArray is = true)
    (h : ∀ os ∈ listsOf l.toArray is, wpList P l.toArray Q os a w.drew) : (Code.region id l.toArray true).wp P Q a w := by
  refine wp_region_draw fun t => ?_
  simp only [Region.schedule, hm, Bool.true_or, if_true]
  have hmem := order_mem .any l.toArray l.toArray.size t (Array.replicate l.toArray.size false)
  rw [List.size_toArray] at hmem
  rw [h1] at hmem
  have hmem2 : Region.linearise .any l.toArray t ∈ is := by
    unfold Region.linearise
    rw [List.size_toArray]
    exact hmem
  generalize Region.linearise .any l.toArray t = js at hmem2
  have hok := List.all_eq_true.1 h2 js hmem2
  rw [List.all_eq_true] at hok
  have := h (js.filterMap fun i => l.toArray[i]?) (List.mem_map.2 ⟨js, hmem2, rfl⟩)
  rw [wpOps_orders js (js.filterMap fun i => l.toArray[i]?)]
  · exact this
  · clear this hmem hmem2 h h1 h2
    induction js with
    | nil => rfl
    | cons j js ih =>
      have hj := of_decide_eq_true (hok j (by simp))
      rw [List.map_cons, List.filterMap_cons, Array.getElem?_eq_getElem hj]
      simp only [List.map_cons]
      rw [ih (fun x hx => hok x (by simp [hx]))]
end Go.Qc


/- diff: how many lines are in common, from each place of both on. -/
import Derived.Test.YtplcfdmehnilnaaDf2
import Derived.Test.YtplcfdmehnilnaaBw2
import Derived.Test.YtplcfdmehnilnaaRnd
import Derived.Test.YtplcfdmehnilnaaPhA
import Derived.Deep.RegionHeld3
import Derived.Maps.AppendAt
import Derived.Maps.Range
import Derived.Shelf.Abstract
set_option linter.unusedSimpArgs false
set_option linter.unusedVariables false
namespace Go.Proofs.Ytplcfdmehnilnaa
open Go.RowKit Go.Qc
attribute [local go_sem] txt_size txt_append ib_fold txt_toL
attribute [local go_sem] Oper.semAt_some

theorem below_drewD (w : World) : Below w.heap.size w w.drew := ⟨(Below.refl w.heap.size w).os, (Below.refl w.heap.size w).tape, (Below.refl w.heap.size w).output, (Below.refl w.heap.size w).size, (Below.refl w.heap.size w).block⟩
/-- One count, out of the three beside it. -/
def cellU (x y : List (List UInt8)) (i j : Nat) (T : Nat → Nat → Int) : Nat → Nat → Int := fun r c =>
  if r = i ∧ c = j then (if x.getD i [] = y.getD j [] then IntKind.i16.wrap (T (i + 1) (j + 1) + 1) else max (T (i + 1) j) (T i (j + 1))) else T r c
def rowU (x y : List (List UInt8)) (i : Nat) (js : List Nat) (T : Nat → Nat → Int) : Nat → Nat → Int := js.foldl (fun T j => cellU x y i j T) T
def tabU (x y : List (List UInt8)) (m : Nat) (is : List Nat) (T : Nat → Nat → Int) : Nat → Nat → Int := is.foldl (fun T i => rowU x y i (List.range m).reverse T) T
theorem rowU_snoc (x y : List (List UInt8)) (i : Nat) (js : List Nat) (j : Nat) (T : Nat → Nat → Int) : rowU x y i (js ++ [j]) T = cellU x y i j (rowU x y i js T) := by simp [rowU]
theorem tabU_snoc (x y : List (List UInt8)) (m : Nat) (is : List Nat) (i : Nat) (T : Nat → Nat → Int) : tabU x y m (is ++ [i]) T = rowU x y i (List.range m).reverse (tabU x y m is T) := by simp [tabU]

/-- A table of counts lies in block g. -/
def TabAt (W : World) (g n m : Nat) (T : Nat → Nat → Int) : Prop := ∃ cs : Array Value, Blk W g 100 cs ∧ cs.size = (n + 1) * (m + 1) ∧ ∀ r c, r ≤ n → c ≤ m → cs[r * (m + 1) + c]? = some (.int .i16 (T r c))
theorem TabAt.cell {W : World} {g n m : Nat} {T : Nat → Nat → Int} (h : TabAt W g n m T) {r c : Nat} (hr : r ≤ n) (hc : c ≤ m) : W.cell? ⟨g, r * (m + 1) + c, none⟩ = some (.int .i16 (T r c)) := by
  obtain ⟨cs, hb, _, h⟩ := h
  exact hb.cell_ (h r c hr hc)
theorem TabAt.frozen {W : World} {g n m : Nat} {T : Nat → Nat → Int} (h : TabAt W g n m T) (k : Nat) : W.frozen? ⟨g, k, none⟩ = false := by
  obtain ⟨cs, hb, _, h⟩ := h
  exact hb.frozen k
theorem TabAt.lt {W : World} {g n m : Nat} {T : Nat → Nat → Int} (h : TabAt W g n m T) : g < W.heap.size := by
  obtain ⟨cs, hb, _, h⟩ := h
  exact hb.lt
theorem TabAt.cells {W : World} {g n m : Nat} {T : Nat → Nat → Int} (h : TabAt W g n m T) : ∃ o : Obj, W.heap[g]? = some o ∧ o.isCells = true := by
  obtain ⟨cs, hb, _, h⟩ := h
  exact ⟨_, hb, rfl⟩
theorem TabAt.kept {W W' : World} {g n m : Nat} {T : Nat → Nat → Int} (h : TabAt W g n m T) (hb : W'.heap[g]? = W.heap[g]?) : TabAt W' g n m T := by
  obtain ⟨cs, h1, h2, h3⟩ := h
  exact ⟨cs, hb.trans h1, h2, h3⟩
theorem TabAt.below {W W' : World} {g n m : Nat} {T : Nat → Nat → Int} (h : TabAt W g n m T) (hb : Below W.heap.size W W') : TabAt W' g n m T := h.kept (hb.block g h.lt)
theorem TabAt.far {W : World} {g n m : Nat} {T : Nat → Nat → Int} (h : TabAt W g n m T) {p : Addr} (hp : g ≠ p.block) (u : Value) : TabAt (W.setCell p u) g n m T := by
  obtain ⟨cs, h1, h2, h3⟩ := h
  exact ⟨cs, h1.far hp u, h2, h3⟩
theorem idx_inj {m r c i j : Nat} (hc : c ≤ m) (hj : j ≤ m) (h : r * (m + 1) + c = i * (m + 1) + j) : r = i ∧ c = j := by
  have h1 : (r * (m + 1) + c) / (m + 1) = r := by rw [Nat.mul_comm, Nat.mul_add_div (by omega), Nat.div_eq_of_lt (by omega), Nat.add_zero]
  have h2 : (i * (m + 1) + j) / (m + 1) = i := by rw [Nat.mul_comm, Nat.mul_add_div (by omega), Nat.div_eq_of_lt (by omega), Nat.add_zero]
  rw [h, h2] at h1
  subst h1
  exact ⟨rfl, by omega⟩
theorem idx_lt {n m r c : Nat} (hr : r ≤ n) (hc : c ≤ m) : r * (m + 1) + c < (n + 1) * (m + 1) := by
  have := Nat.mul_le_mul_right (m + 1) hr
  rw [Nat.add_mul, Nat.one_mul]
  omega
theorem TabAt.put {W : World} {g n m : Nat} {T T' : Nat → Nat → Int} (h : TabAt W g n m T) {i j : Nat} (hi : i ≤ n) (hj : j ≤ m) (v : Int) (h1 : T' i j = v) (h2 : ∀ r c, ¬ (r = i ∧ c = j) → T' r c = T r c) :
    TabAt (W.setCell ⟨g, i * (m + 1) + j, none⟩ (.int .i16 v)) g n m T' := by
  obtain ⟨cs, hb, hs, h⟩ := h
  refine ⟨_, hb.set _ _, by rw [Array.size_setIfInBounds]; exact hs, fun r c hr hc => ?_⟩
  rw [Array.getElem?_setIfInBounds]
  by_cases he : r = i ∧ c = j
  · obtain ⟨rfl, rfl⟩ := he
    rw [if_pos rfl, if_pos (by rw [hs]; exact idx_lt hi hj), h1]
  · rw [if_neg (fun e => he (idx_inj hc hj e.symm)), h r c hr hc, h2 r c he]
theorem tab_new (w : World) (n m N : Nat) (hN : (n + 1) * (m + 1) = N) : TabAt (w.alloc (.cells (madeCells #[.int .i16 0] N) 100)) w.heap.size n m (fun _ _ => 0) := by
  subst hN
  refine ⟨_, Blk.new w _ _, size_madeCells _ _, fun r c hr hc => ?_⟩
  have hl := toList_madeCells_one (.int .i16 0) ((n + 1) * (m + 1))
  rw [← Array.getElem?_toList, hl, List.getElem?_replicate, if_pos (idx_lt hr hc)]
theorem infoI16 : (Try.prog.info? 100).map (fun i => (i.zero, i.size, i.bytes)) = some (some (.int .i16 0), 1, 2) := by kernel_rfl
theorem gb_below {a b : World} {row : Option Nat} (h : Below a.heap.size a b) : a.grownBy b row := ⟨h.os, h.tape, h.output, h.size, fun k hk _ => h.block k hk⟩
theorem gb_keeps {a b : World} {g B : Nat} (h : a.grownBy b (some g)) (hB : g < B) : KeepsFrom B a b := KeepsFrom.of_grownBy h (fun j e => by cases e; exact hB)
theorem gb_kp {a b : World} {g M Bn : Nat} (h : a.grownBy b (some g)) (h1 : M ≤ g) (h2 : Bn ≠ g) : KpB M Bn a b :=
  ⟨fun p u hp hu => h.cell hu (fun e => by have := Option.some.inj e; omega), fun u hu => h.cell hu (fun e => h2 (Option.some.inj e))⟩
theorem gb_set (W : World) (p : Addr) (u : Value) : W.grownBy (W.setCell p u) (some p.block) := ⟨rfl, rfl, rfl, by simp [World.setCell], fun k _ hne => Below.heap_setCell _ _ _ _ (fun e => hne (by rw [e]))⟩
theorem gb_blk {a b : World} {g k : Nat} {t : TypeId} {cs : Array Value} (h : Blk a k t cs) (hg : a.grownBy b (some g)) (hne : k ≠ g) : Blk b k t cs := (hg.block k h.lt (by simpa using hne)).trans h
theorem gb_own {V X Y : World} {g : Nat} {row : Option Nat} (h : V.grownBy X (some g)) (k : X.grownBy Y row) (hr : ∀ r, row = some r → V.heap.size ≤ r) : V.grownBy Y (some g) := h.andThen k (fun j e => .inl (hr j e))
theorem tab_own {X Y : World} {g n m : Nat} {T : Nat → Nat → Int} {row : Option Nat} (h : TabAt X g n m T) (k : X.grownBy Y row) (hr : ∀ r, row = some r → ∃ o : Obj, X.heap[r]? = some o ∧ o.isCells = false) : TabAt Y g n m T :=
  h.kept (k.block g h.lt (fun e => by
    obtain ⟨o, ho, hc⟩ := hr g e.symm
    obtain ⟨o', ho', hc'⟩ := h.cells
    rw [ho] at ho'; cases ho'; rw [hc] at hc'; cases hc'))
/-- The table in block g, and all else as it was. -/
theorem tabI_own {V : World} {g n m B : Nat} (hB : V.heap.size ≤ B) {β : Type} (T : β → Nat → Nat → Int) : OwnFrom B (fun (s : β) W => TabAt W g n m (T s) ∧ V.grownBy W (some g)) :=
  fun s X Y row h k hr => ⟨tab_own h.1 k (fun r e => (hr r e).2), gb_own h.2 k (fun r e => Nat.le_trans hB (hr r e).1)⟩
/-- Behind the table's making. -/
def Reg1 (N : Nat) (A : Option Addr) (n c : Nat) (B : Option Addr) (m d : Nat) (w W1 : World) : Exit → Act → World → Prop
  | .normal, a', w' => ∃ g p, a' = { tmps := ((Value.slice A n c) :: (Value.slice B m d) :: undef :: (Value.pointer (some ⟨w.heap.size, 0, none⟩)) :: (Value.pointer (some ⟨w.heap.size + 1, 0, none⟩)) :: (Value.pointer (some ⟨p, 0, none⟩)) :: undef :: undef :: undef :: undef :: undef :: undef :: (Value.slice B m d) :: (Value.int .i64 m) :: (Value.int .i64 ((m : Int) + 1)) :: (Value.slice A n c) :: (Value.int .i64 n) :: (Value.int .i64 ((n : Int) + 1)) :: (Value.slice B m d) :: (Value.int .i64 m) :: (Value.int .i64 ((m : Int) + 1)) :: (Value.int .i64 N) :: (Value.slice (some ⟨g, 0, none⟩) N N) :: (Value.agg #[.int .i64 ((m : Int) + 1), .slice (some ⟨g, 0, none⟩) N N]) :: undef :: undef :: undef :: undef :: undef :: undef :: undef :: undef :: undef :: undef :: undef :: undef :: undef :: undef :: undef :: undef :: undef :: undef :: undef :: undef :: undef :: undef :: undef :: undef :: undef :: undef :: undef :: undef :: undef :: undef :: undef :: undef :: undef :: undef :: undef :: undef :: undef :: undef :: undef :: undef :: undef :: []).toArray, defers := [] } ∧ w.heap.size + 2 ≤ g ∧ w.heap.size + 2 ≤ p ∧ g ≠ p ∧ TabAt w' g n m (fun _ _ => 0) ∧ Blk w' p 76 #[.int .i64 ((m : Int) + 1), .slice (some ⟨g, 0, none⟩) N N] ∧ Below W1.heap.size W1 w'
  | _, _, _ => False
/-- The frame behind the outer loop's assignment. -/
def Fr2 (A : Option Addr) (n c : Nat) (B : Option Addr) (m d N : Nat) (w : World) (g p bo q i : Nat) (z : List UInt8) : Act := { tmps := ((Value.slice A n c) :: (Value.slice B m d) :: undef :: (Value.pointer (some ⟨w.heap.size, 0, none⟩)) :: (Value.pointer (some ⟨w.heap.size + 1, 0, none⟩)) :: (Value.pointer (some ⟨p, 0, none⟩)) :: (Value.int .i64 i) :: (Value.pointer (some ⟨q, 0, none⟩)) :: undef :: undef :: undef :: undef :: (Value.slice B m d) :: (Value.int .i64 m) :: (Value.int .i64 ((m : Int) + 1)) :: (Value.slice A n c) :: (Value.int .i64 n) :: (Value.int .i64 ((n : Int) + 1)) :: (Value.slice B m d) :: (Value.int .i64 m) :: (Value.int .i64 ((m : Int) + 1)) :: (Value.int .i64 N) :: (Value.slice (some ⟨g, 0, none⟩) N N) :: (Value.agg #[.int .i64 ((m : Int) + 1), .slice (some ⟨g, 0, none⟩) N N]) :: (Value.slice A n c) :: (Value.func (.func 65) #[] #[.pointer (some ⟨bo, 0, none⟩)]) :: (Value.int .i64 i) :: (Value.string (txt z)) :: undef :: undef :: undef :: undef :: undef :: undef :: undef :: undef :: undef :: undef :: undef :: undef :: undef :: undef :: undef :: undef :: undef :: undef :: undef :: undef :: undef :: undef :: undef :: undef :: undef :: undef :: undef :: undef :: undef :: undef :: undef :: undef :: undef :: undef :: undef :: undef :: undef :: []).toArray, defers := [] }
/-- The frame behind region 5. -/
def Fr5 (A : Option Addr) (n c : Nat) (B : Option Addr) (m d N : Nat) (w : World) (g p bo q i : Nat) (z : List UInt8) (P0 P1 r8 r9 : Nat) : Act := { tmps := ((Value.slice A n c) :: (Value.slice B m d) :: undef :: (Value.pointer (some ⟨w.heap.size, 0, none⟩)) :: (Value.pointer (some ⟨w.heap.size + 1, 0, none⟩)) :: (Value.pointer (some ⟨p, 0, none⟩)) :: (Value.int .i64 i) :: (Value.pointer (some ⟨q, 0, none⟩)) :: (Value.pointer (some ⟨r8, 0, none⟩)) :: (Value.pointer (some ⟨r9, 0, none⟩)) :: undef :: undef :: (Value.slice B m d) :: (Value.int .i64 m) :: (Value.int .i64 ((m : Int) + 1)) :: (Value.slice A n c) :: (Value.int .i64 n) :: (Value.int .i64 ((n : Int) + 1)) :: (Value.slice B m d) :: (Value.int .i64 m) :: (Value.int .i64 ((m : Int) + 1)) :: (Value.int .i64 N) :: (Value.slice (some ⟨g, 0, none⟩) N N) :: (Value.agg #[.int .i64 ((m : Int) + 1), .slice (some ⟨g, 0, none⟩) N N]) :: (Value.slice A n c) :: (Value.func (.func 65) #[] #[.pointer (some ⟨bo, 0, none⟩)]) :: (Value.int .i64 i) :: (Value.string (txt z)) :: (Value.agg #[.int .i64 ((m : Int) + 1), .slice (some ⟨g, 0, none⟩) N N]) :: (Value.int .i64 i) :: (Value.slice (some ⟨g, P0, none⟩) (m + 1) (N - P0)) :: (Value.agg #[.int .i64 ((m : Int) + 1), .slice (some ⟨g, 0, none⟩) N N]) :: (Value.int .i64 i) :: (Value.int .i64 ((i : Int) + 1)) :: (Value.slice (some ⟨g, P1, none⟩) (m + 1) (N - P1)) :: undef :: undef :: undef :: undef :: undef :: undef :: undef :: undef :: undef :: undef :: undef :: undef :: undef :: undef :: undef :: undef :: undef :: undef :: undef :: undef :: undef :: undef :: undef :: undef :: undef :: undef :: undef :: undef :: undef :: undef :: []).toArray, defers := [] }
/-- The frame behind the inner loop's assignment. -/
def Fr6 (A : Option Addr) (n c : Nat) (B : Option Addr) (m d N : Nat) (w : World) (g p bo q i : Nat) (z : List UInt8) (P0 P1 r8 r9 bi j : Nat) (u : List UInt8) : Act := { tmps := ((Value.slice A n c) :: (Value.slice B m d) :: undef :: (Value.pointer (some ⟨w.heap.size, 0, none⟩)) :: (Value.pointer (some ⟨w.heap.size + 1, 0, none⟩)) :: (Value.pointer (some ⟨p, 0, none⟩)) :: (Value.int .i64 i) :: (Value.pointer (some ⟨q, 0, none⟩)) :: (Value.pointer (some ⟨r8, 0, none⟩)) :: (Value.pointer (some ⟨r9, 0, none⟩)) :: (Value.int .i64 j) :: (Value.string (txt u)) :: (Value.slice B m d) :: (Value.int .i64 m) :: (Value.int .i64 ((m : Int) + 1)) :: (Value.slice A n c) :: (Value.int .i64 n) :: (Value.int .i64 ((n : Int) + 1)) :: (Value.slice B m d) :: (Value.int .i64 m) :: (Value.int .i64 ((m : Int) + 1)) :: (Value.int .i64 N) :: (Value.slice (some ⟨g, 0, none⟩) N N) :: (Value.agg #[.int .i64 ((m : Int) + 1), .slice (some ⟨g, 0, none⟩) N N]) :: (Value.slice A n c) :: (Value.func (.func 65) #[] #[.pointer (some ⟨bo, 0, none⟩)]) :: (Value.int .i64 i) :: (Value.string (txt z)) :: (Value.agg #[.int .i64 ((m : Int) + 1), .slice (some ⟨g, 0, none⟩) N N]) :: (Value.int .i64 i) :: (Value.slice (some ⟨g, P0, none⟩) (m + 1) (N - P0)) :: (Value.agg #[.int .i64 ((m : Int) + 1), .slice (some ⟨g, 0, none⟩) N N]) :: (Value.int .i64 i) :: (Value.int .i64 ((i : Int) + 1)) :: (Value.slice (some ⟨g, P1, none⟩) (m + 1) (N - P1)) :: (Value.slice B m d) :: (Value.func (.func 65) #[] #[.pointer (some ⟨bi, 0, none⟩)]) :: (Value.int .i64 j) :: (Value.string (txt u)) :: undef :: undef :: undef :: undef :: undef :: undef :: undef :: undef :: undef :: undef :: undef :: undef :: undef :: undef :: undef :: undef :: undef :: undef :: undef :: undef :: undef :: undef :: undef :: undef :: undef :: undef :: []).toArray, defers := [] }
/-- Behind region 5: two boxes hold the rows. -/
def Reg5 (A : Option Addr) (n c : Nat) (B : Option Addr) (m d N : Nat) (w : World) (g p bo q i : Nat) (z : List UInt8) (P0 P1 : Nat) (W : World) : Exit → Act → World → Prop
  | .normal, a', w' => ∃ r8 r9, a' = Fr5 A n c B m d N w g p bo q i z P0 P1 r8 r9 ∧ W.heap.size ≤ r8 ∧ W.heap.size ≤ r9 ∧ r8 ≠ r9 ∧ Blk w' r8 74 #[.slice (some ⟨g, P0, none⟩) (m + 1) (N - P0)] ∧ Blk w' r9 74 #[.slice (some ⟨g, P1, none⟩) (m + 1) (N - P1)] ∧ Below W.heap.size W w'
  | _, _, _ => False
set_option maxRecDepth 100000 in
set_option maxHeartbeats 8000000 in
theorem countsOf_any (A B : Option Addr) (n c m d : Nat) (x y : List (List UInt8)) (hn : x.length = n) (hm : y.length = m) (bn : n ≤ 1000) (bm : m ≤ 1000) (N : Nat) (hN : (n + 1) * (m + 1) = N) (w : World) (hr : Rd w A (x.map strV)) (hs : Rd w B (y.map strV)) :
    Calls Try.prog 30 #[.slice A n c, .slice B m d] w fun e w' => ∃ g, e = .returned (.agg #[.int .i64 ((m : Int) + 1), .slice (some ⟨g, 0, none⟩) N N]) ∧ TabAt w' g n m (tabU x y m (List.range n).reverse (fun _ _ => 0)) ∧ Below w.heap.size w w' := by
  refine (callsIn_wide (n := 6)).1 ?_
  obtain ⟨i0, hi, hz0, hz1, hz2⟩ := info_parts infoI16
  have bN : N ≤ 1002001 := by rw [← hN]; have := Nat.mul_le_mul (Nat.add_le_add_right bn 1) (Nat.add_le_add_right bm 1); omega
  have HR := hid hr
  have HS := hid hs
  clear hr hs
  refine callsIn_of_wp_marks Try.func30 rfl trivial ?_ rfl
  simp only [Try.ntmps30, List.size_toArray, List.length_cons, List.length_nil, Nat.reduceAdd, Nat.reduceSub, Array.replicate_succ, Array.replicate_zero, List.push_toArray, List.append_toArray, List.nil_append, List.cons_append]
  gi_wp2_with (fail)
  have hb3 := (Blk.new w 22 #[.slice B m d]).alloc (.cells #[.int .i64 0, .slice none 0 0] 76)
  have hb4 := Blk.new (w.alloc (.cells #[.slice B m d] 22)) 76 #[.int .i64 0, .slice none 0 0]
  have hB1 : Below w.heap.size w ((w.alloc (.cells #[.slice B m d] 22)).alloc (.cells #[.int .i64 0, .slice none 0 0] 76)) := ((Below.refl _ w).alloc (Nat.le_refl _) _).alloc (by simp) _
  have hsz1 : ((w.alloc (.cells #[.slice B m d] 22)).alloc (.cells #[.int .i64 0, .slice none 0 0] 76)).heap.size = w.heap.size + 2 := by simp
  simp only [World.size_alloc] at hb4
  generalize (w.alloc (.cells #[.slice B m d] 22)).alloc (.cells #[.int .i64 0, .slice none 0 0] 76) = W1 at *
  refine wpIn_mono (Q := Reg1 N A n c B m d w W1) ?reg1 ?rest1
  case reg1 =>
    have hv1 : IntKind.i64.wrap ((m : Int) + 1) = (m : Int) + 1 := by rw [IntKind.wrap_i64]; omega
    have hv2 : IntKind.i64.wrap ((n : Int) + 1) = (n : Int) + 1 := by rw [IntKind.wrap_i64]; omega
    have hNi : ((n : Int) + 1) * ((m : Int) + 1) = (N : Int) := by rw [← hN, Int.natCast_mul]; rfl
    have hv3 : IntKind.i64.wrap (((n : Int) + 1) * ((m : Int) + 1)) = (N : Int) := by rw [hNi, IntKind.wrap_i64]; omega
    have HN := hid hN
    clear hN hNi
    refine wpIn_wide.2 ?_
    refine wp_region_held_drew (S := fun W => Below W1.drew.heap.size W1.drew W) (by kernel_rfl) (Below.refl _ _) (fun hHeld => ?_)
    have hBd := below_drewD W1
    have HSZ : Hid (W1.drew.heap.size = w.heap.size + 2) := hid hsz1
    have hb3 : Blk W1.drew w.heap.size 22 #[.slice B m d] := hb3
    generalize W1.drew = Wd at *
    refine' wpAnyH_take (i := 0) (v := .slice B m d) rfl (by kernel_rfl) (by kernel_rfl) (by kernel_rfl) (fun _ _ _ h => h) (Or.inl ⟨by rfl, fun w' hw' => by have hcc := (hb3.below hw').cell_ (i := 0) rfl; go_simp⟩) hHeld ?_
    try simp only [Act.put, List.getElem_toArray, List.getElem_cons_succ, List.getElem_cons_zero, List.setIfInBounds_toArray, List.set_cons_zero, List.set_cons_succ]
    refine' wpAnyH_take (i := 1) (v := .int .i64 m) rfl (by kernel_rfl) (by kernel_rfl) (by kernel_rfl) (fun _ _ _ h => h) (Or.inl ⟨by rfl, fun w' hw' => by go_simp⟩) hHeld ?_
    try simp only [Act.put, List.getElem_toArray, List.getElem_cons_succ, List.getElem_cons_zero, List.setIfInBounds_toArray, List.set_cons_zero, List.set_cons_succ]
    refine' wpAnyH_take (i := 2) (v := .int .i64 ((m : Int) + 1)) rfl (by kernel_rfl) (by kernel_rfl) (by kernel_rfl) (fun _ _ _ h => h) (Or.inl ⟨by rfl, fun w' hw' => by go_simp⟩) hHeld ?_
    try simp only [Act.put, List.getElem_toArray, List.getElem_cons_succ, List.getElem_cons_zero, List.setIfInBounds_toArray, List.set_cons_zero, List.set_cons_succ]
    refine' wpAnyH_take (i := 3) (v := .slice A n c) rfl (by kernel_rfl) (by kernel_rfl) (by kernel_rfl) (fun _ _ _ h => h) (Or.inl ⟨by rfl, fun w' hw' => by go_simp⟩) hHeld ?_
    try simp only [Act.put, List.getElem_toArray, List.getElem_cons_succ, List.getElem_cons_zero, List.setIfInBounds_toArray, List.set_cons_zero, List.set_cons_succ]
    refine' wpAnyH_take (i := 4) (v := .int .i64 n) rfl (by kernel_rfl) (by kernel_rfl) (by kernel_rfl) (fun _ _ _ h => h) (Or.inl ⟨by rfl, fun w' hw' => by go_simp⟩) hHeld ?_
    try simp only [Act.put, List.getElem_toArray, List.getElem_cons_succ, List.getElem_cons_zero, List.setIfInBounds_toArray, List.set_cons_zero, List.set_cons_succ]
    refine' wpAnyH_take (i := 5) (v := .int .i64 ((n : Int) + 1)) rfl (by kernel_rfl) (by kernel_rfl) (by kernel_rfl) (fun _ _ _ h => h) (Or.inl ⟨by rfl, fun w' hw' => by go_simp⟩) hHeld ?_
    try simp only [Act.put, List.getElem_toArray, List.getElem_cons_succ, List.getElem_cons_zero, List.setIfInBounds_toArray, List.set_cons_zero, List.set_cons_succ]
    refine' wpAnyH_take (i := 6) (v := .slice B m d) rfl (by kernel_rfl) (by kernel_rfl) (by kernel_rfl) (fun _ _ _ h => h) (Or.inl ⟨by rfl, fun w' hw' => by have hcc := (hb3.below hw').cell_ (i := 0) rfl; go_simp⟩) hHeld ?_
    try simp only [Act.put, List.getElem_toArray, List.getElem_cons_succ, List.getElem_cons_zero, List.setIfInBounds_toArray, List.set_cons_zero, List.set_cons_succ]
    refine' wpAnyH_take (i := 7) (v := .int .i64 m) rfl (by kernel_rfl) (by kernel_rfl) (by kernel_rfl) (fun _ _ _ h => h) (Or.inl ⟨by rfl, fun w' hw' => by go_simp⟩) hHeld ?_
    try simp only [Act.put, List.getElem_toArray, List.getElem_cons_succ, List.getElem_cons_zero, List.setIfInBounds_toArray, List.set_cons_zero, List.set_cons_succ]
    refine' wpAnyH_take (i := 8) (v := .int .i64 ((m : Int) + 1)) rfl (by kernel_rfl) (by kernel_rfl) (by kernel_rfl) (fun _ _ _ h => h) (Or.inl ⟨by rfl, fun w' hw' => by go_simp⟩) hHeld ?_
    try simp only [Act.put, List.getElem_toArray, List.getElem_cons_succ, List.getElem_cons_zero, List.setIfInBounds_toArray, List.set_cons_zero, List.set_cons_succ]
    refine' wpAnyH_take (i := 9) (v := .int .i64 N) rfl (by kernel_rfl) (by kernel_rfl) (by kernel_rfl) (fun _ _ _ h => h) (Or.inl ⟨by rfl, fun w' hw' => by go_simp⟩) hHeld ?_
    try simp only [Act.put, List.getElem_toArray, List.getElem_cons_succ, List.getElem_cons_zero, List.setIfInBounds_toArray, List.set_cons_zero, List.set_cons_succ]
    refine wpAnyH_ready (rs := [10, 12]) (by kernel_rfl) (by simp) ?_
    refine AllReadyH.cons rfl (fun K hK => ?_) (AllReadyH.cons rfl (fun K hK => ?_) AllReadyH.nil)
    · as_aux_lemma =>
        have hmk := run_make_n (P := Try.prog) 74 100 i0 (.int .i16 0) Try.underlying74 hi hz0 hz1 .i64 .i64 N (by rw [hz2]; omega) (by omega) Wd
        simp only [Value.cells] at hmk
        go_simp
        have hNV1 : Below Wd.heap.size Wd (Wd.alloc (.cells (madeCells #[.int .i16 0] N) 100)) := hHeld.alloc hHeld.size _
        have hgV1 := tab_new Wd n m N HN.out
        refine hK.out _ _ hNV1 (fun hHeld => ?_)
        clear hK K
        try simp only [Act.put, List.getElem_toArray, List.getElem_cons_succ, List.getElem_cons_zero, List.setIfInBounds_toArray, List.set_cons_zero, List.set_cons_succ]
        refine wpAnyH_ready (rs := [11, 12]) (by kernel_rfl) (by simp) ?_
        refine AllReadyH.cons rfl (fun K hK => ?_) (AllReadyH.cons rfl (fun K hK => ?_) AllReadyH.nil)
        · as_aux_lemma =>
            go_simp
            refine hK.out _ _ hHeld (fun hHeld => ?_)
            clear hK K
            try simp only [Act.put, List.getElem_toArray, List.getElem_cons_succ, List.getElem_cons_zero, List.setIfInBounds_toArray, List.set_cons_zero, List.set_cons_succ]
            refine wpAnyH_ready (rs := [12]) (by kernel_rfl) (by simp) ?_
            refine AllReadyH.cons rfl (fun K hK => ?_) AllReadyH.nil
            go_simp
            have hNV2 : Below Wd.heap.size Wd ((Wd.alloc (.cells (madeCells #[.int .i16 0] N) 100)).alloc (.cells #[.int .i64 0, .slice none 0 0] 76)) := hHeld.alloc hHeld.size _
            have hpV2 := Blk.new (Wd.alloc (.cells (madeCells #[.int .i16 0] N) 100)) 76 #[.int .i64 0, .slice none 0 0]
            have hgV2 := hgV1.below ((Below.refl (Wd.alloc (.cells (madeCells #[.int .i16 0] N) 100)).heap.size (Wd.alloc (.cells (madeCells #[.int .i16 0] N) 100))).alloc (Nat.le_refl _) (.cells #[.int .i64 0, .slice none 0 0] 76))
            refine hK.out _ _ hNV2 (fun hHeld => ?_)
            clear hK K
            try simp only [Act.put, List.getElem_toArray, List.getElem_cons_succ, List.getElem_cons_zero, List.setIfInBounds_toArray, List.set_cons_zero, List.set_cons_succ]
            refine wpAnyH_ready (rs := [13]) (by kernel_rfl) (by simp) ?_
            refine AllReadyH.cons rfl (fun K hK => ?_) AllReadyH.nil
            simp only [World.size_alloc] at hpV2 hgV2
            have hpb := hpV2
            have hgb := hgV2
            clear hpV2 hgV2
            generalize ((Wd.alloc (.cells (madeCells #[.int .i16 0] N) 100)).alloc (.cells #[.int .i64 0, .slice none 0 0] 76)) = V at *
            have k0 := hpb.cell_ (i := 0) rfl
            have k1 := hpb.cell_ (i := 1) rfl
            have f0 := hpb.frozen 0
            have f1 := hpb.frozen 1
            go_simp
            have hBV := (hHeld.setCell (p := ⟨Wd.heap.size + 1, 0, none⟩) (by simp) (.int .i64 ((m : Int) + 1))).setCell (p := ⟨Wd.heap.size + 1, 1, none⟩) (by simp) (.slice (some ⟨Wd.heap.size, 0, none⟩) N N)
            refine hK.out _ _ hBV (fun hHeld => ?_)
            clear hK K
            try simp only [Act.put, List.getElem_toArray, List.getElem_cons_succ, List.getElem_cons_zero, List.setIfInBounds_toArray, List.set_cons_zero, List.set_cons_succ]
            exact wpAnyH_done (by kernel_rfl) ⟨Wd.heap.size, Wd.heap.size + 1, rfl, by have := HSZ.out; omega, by have := HSZ.out; omega, by omega, (hgb.far (p := ⟨Wd.heap.size + 1, 0, none⟩) (by simp) _).far (p := ⟨Wd.heap.size + 1, 1, none⟩) (by simp) _, (hpb.set 0 (.int .i64 ((m : Int) + 1))).set 1 (.slice (some ⟨Wd.heap.size, 0, none⟩) N N), hBd.trans (hBV.mono hBd.size)⟩ _
        · as_aux_lemma =>
            go_simp
            have hNV3 : Below Wd.heap.size Wd ((Wd.alloc (.cells (madeCells #[.int .i16 0] N) 100)).alloc (.cells #[.int .i64 0, .slice none 0 0] 76)) := hHeld.alloc hHeld.size _
            have hpV3 := Blk.new (Wd.alloc (.cells (madeCells #[.int .i16 0] N) 100)) 76 #[.int .i64 0, .slice none 0 0]
            have hgV3 := hgV1.below ((Below.refl (Wd.alloc (.cells (madeCells #[.int .i16 0] N) 100)).heap.size (Wd.alloc (.cells (madeCells #[.int .i16 0] N) 100))).alloc (Nat.le_refl _) (.cells #[.int .i64 0, .slice none 0 0] 76))
            refine hK.out _ _ hNV3 (fun hHeld => ?_)
            clear hK K
            try simp only [Act.put, List.getElem_toArray, List.getElem_cons_succ, List.getElem_cons_zero, List.setIfInBounds_toArray, List.set_cons_zero, List.set_cons_succ]
            refine wpAnyH_ready (rs := [11]) (by kernel_rfl) (by simp) ?_
            refine AllReadyH.cons rfl (fun K hK => ?_) AllReadyH.nil
            go_simp
            refine hK.out _ _ hHeld (fun hHeld => ?_)
            clear hK K
            try simp only [Act.put, List.getElem_toArray, List.getElem_cons_succ, List.getElem_cons_zero, List.setIfInBounds_toArray, List.set_cons_zero, List.set_cons_succ]
            refine wpAnyH_ready (rs := [13]) (by kernel_rfl) (by simp) ?_
            refine AllReadyH.cons rfl (fun K hK => ?_) AllReadyH.nil
            simp only [World.size_alloc] at hpV3 hgV3
            have hpb := hpV3
            have hgb := hgV3
            clear hpV3 hgV3
            generalize ((Wd.alloc (.cells (madeCells #[.int .i16 0] N) 100)).alloc (.cells #[.int .i64 0, .slice none 0 0] 76)) = V at *
            have k0 := hpb.cell_ (i := 0) rfl
            have k1 := hpb.cell_ (i := 1) rfl
            have f0 := hpb.frozen 0
            have f1 := hpb.frozen 1
            go_simp
            have hBV := (hHeld.setCell (p := ⟨Wd.heap.size + 1, 0, none⟩) (by simp) (.int .i64 ((m : Int) + 1))).setCell (p := ⟨Wd.heap.size + 1, 1, none⟩) (by simp) (.slice (some ⟨Wd.heap.size, 0, none⟩) N N)
            refine hK.out _ _ hBV (fun hHeld => ?_)
            clear hK K
            try simp only [Act.put, List.getElem_toArray, List.getElem_cons_succ, List.getElem_cons_zero, List.setIfInBounds_toArray, List.set_cons_zero, List.set_cons_succ]
            exact wpAnyH_done (by kernel_rfl) ⟨Wd.heap.size, Wd.heap.size + 1, rfl, by have := HSZ.out; omega, by have := HSZ.out; omega, by omega, (hgb.far (p := ⟨Wd.heap.size + 1, 0, none⟩) (by simp) _).far (p := ⟨Wd.heap.size + 1, 1, none⟩) (by simp) _, (hpb.set 0 (.int .i64 ((m : Int) + 1))).set 1 (.slice (some ⟨Wd.heap.size, 0, none⟩) N N), hBd.trans (hBV.mono hBd.size)⟩ _
    · as_aux_lemma =>
        go_simp
        have hNV4 : Below Wd.heap.size Wd (Wd.alloc (.cells #[.int .i64 0, .slice none 0 0] 76)) := hHeld.alloc hHeld.size _
        have hpV4 := Blk.new Wd 76 #[.int .i64 0, .slice none 0 0]
        refine hK.out _ _ hNV4 (fun hHeld => ?_)
        clear hK K
        try simp only [Act.put, List.getElem_toArray, List.getElem_cons_succ, List.getElem_cons_zero, List.setIfInBounds_toArray, List.set_cons_zero, List.set_cons_succ]
        refine wpAnyH_ready (rs := [10]) (by kernel_rfl) (by simp) ?_
        refine AllReadyH.cons rfl (fun K hK => ?_) AllReadyH.nil
        have hmk := run_make_n (P := Try.prog) 74 100 i0 (.int .i16 0) Try.underlying74 hi hz0 hz1 .i64 .i64 N (by rw [hz2]; omega) (by omega) (Wd.alloc (.cells #[.int .i64 0, .slice none 0 0] 76))
        simp only [Value.cells] at hmk
        go_simp
        have hNV5 : Below Wd.heap.size Wd ((Wd.alloc (.cells #[.int .i64 0, .slice none 0 0] 76)).alloc (.cells (madeCells #[.int .i16 0] N) 100)) := hHeld.alloc hHeld.size _
        have hgV5 := tab_new (Wd.alloc (.cells #[.int .i64 0, .slice none 0 0] 76)) n m N HN.out
        have hpV5 := hpV4.alloc (.cells (madeCells #[.int .i16 0] N) 100)
        refine hK.out _ _ hNV5 (fun hHeld => ?_)
        clear hK K
        try simp only [Act.put, List.getElem_toArray, List.getElem_cons_succ, List.getElem_cons_zero, List.setIfInBounds_toArray, List.set_cons_zero, List.set_cons_succ]
        refine wpAnyH_ready (rs := [11]) (by kernel_rfl) (by simp) ?_
        refine AllReadyH.cons rfl (fun K hK => ?_) AllReadyH.nil
        go_simp
        refine hK.out _ _ hHeld (fun hHeld => ?_)
        clear hK K
        try simp only [Act.put, List.getElem_toArray, List.getElem_cons_succ, List.getElem_cons_zero, List.setIfInBounds_toArray, List.set_cons_zero, List.set_cons_succ]
        refine wpAnyH_ready (rs := [13]) (by kernel_rfl) (by simp) ?_
        refine AllReadyH.cons rfl (fun K hK => ?_) AllReadyH.nil
        simp only [World.size_alloc] at hpV5 hgV5
        have hpb := hpV5
        have hgb := hgV5
        clear hpV5 hgV5
        generalize ((Wd.alloc (.cells #[.int .i64 0, .slice none 0 0] 76)).alloc (.cells (madeCells #[.int .i16 0] N) 100)) = V at *
        have k0 := hpb.cell_ (i := 0) rfl
        have k1 := hpb.cell_ (i := 1) rfl
        have f0 := hpb.frozen 0
        have f1 := hpb.frozen 1
        go_simp
        have hBV := (hHeld.setCell (p := ⟨Wd.heap.size, 0, none⟩) (by simp) (.int .i64 ((m : Int) + 1))).setCell (p := ⟨Wd.heap.size, 1, none⟩) (by simp) (.slice (some ⟨Wd.heap.size + 1, 0, none⟩) N N)
        refine hK.out _ _ hBV (fun hHeld => ?_)
        clear hK K
        try simp only [Act.put, List.getElem_toArray, List.getElem_cons_succ, List.getElem_cons_zero, List.setIfInBounds_toArray, List.set_cons_zero, List.set_cons_succ]
        exact wpAnyH_done (by kernel_rfl) ⟨Wd.heap.size + 1, Wd.heap.size, rfl, by have := HSZ.out; omega, by have := HSZ.out; omega, by omega, (hgb.far (p := ⟨Wd.heap.size, 0, none⟩) (by simp) _).far (p := ⟨Wd.heap.size, 1, none⟩) (by simp) _, (hpb.set 0 (.int .i64 ((m : Int) + 1))).set 1 (.slice (some ⟨Wd.heap.size + 1, 0, none⟩) N N), hBd.trans (hBV.mono hBd.size)⟩ _
  case rest1 =>
    clear hi hz0 hz1 hz2 i0
    rintro e a' w' hq
    cases e <;> try exact hq.elim
    obtain ⟨g, p, rfl, hg2, hp2, hgp, hT, hpb, hBW⟩ := hq
    have bo_lt := hT.lt
    gi_wp2_with (first
      | (refine ⟨trivial, ?_⟩; gi_at_call 49; refine (callsIn_wide.2 (sbackward_any _ _ _ _)).mono ?_; rintro e1 w1 ⟨rfl, rfl⟩))
    have hBV : Below W1.heap.size W1 (w'.alloc (.cells #[.slice A n c] 22)) := hBW.alloc hBW.size _
    have hbo := Blk.new w' 22 #[.slice A n c]
    replace hT := hT.below ((Below.refl w'.heap.size w').alloc (Nat.le_refl _) (.cells #[.slice A n c] 22))
    replace hpb := hpb.alloc (.cells #[.slice A n c] 22)
    have hBw : Below w.heap.size w (w'.alloc (.cells #[.slice A n c] 22)) := hB1.trans (hBV.mono hB1.size)
    replace hb3 := hb3.below hBV
    replace hb4 := hb4.below hBV
    have hszV : (w'.alloc (.cells #[.slice A n c] 22)).heap.size = w'.heap.size + 1 := by simp
    obtain ⟨bo, ebo⟩ : ∃ bo, bo = w'.heap.size := ⟨_, rfl⟩
    rw [← ebo] at hbo hszV bo_lt ⊢
    clear hBW hBV
    have hbsz : w.heap.size + 2 ≤ bo := by omega
    generalize w'.alloc (.cells #[.slice A n c] 22) = V0 at *
    clear ebo hB1 hsz1
    refine wpIn_rangeFunc_ownH rfl (by omega) (gf := 65) (lb := #[.pointer (some ⟨bo, 0, none⟩)]) rfl trivial (enters_of Try.func65 (by kernel_rfl) rfl)
      (sb_stops (6 - 1) (by omega) bo w.heap.size A n c x hn (by omega) w V0 rfl (by omega) (OldK.below hBw) (by omega) (hbo.cell_ (i := 0) rfl) HR.out) (fun h k => KpB.trans h k) (fun W l o o' hl _ _ _ => KpB.put W l o' (by omega) (by omega)) (Below.refl _ _) (fun _ => rfl)
      (fun pre W => TabAt W g n m (tabU x y m (pre.map (·.val)) (fun _ _ => 0)) ∧ V0.grownBy W (some g))
      (fun _ _ _ => False)
      (tabI_own (Nat.le_refl _) _) (fun _ _ _ _ _ hs _ _ => hs) ⟨hT, World.grownBy.refl _ _⟩
      (fun xi a' W => ∃ q, a' = Fr2 A n c B m d N w g p bo q xi.val (x.getD xi.val []) ∧ bo < q ∧ Blk W q 9 #[.string (txt (x.getD xi.val []))]) ?ax ?assign ?body ?done ?stop
    case ax =>
      rintro xi a' _ X Y row ⟨q, ha, hq, hb⟩ hg hrow
      refine ⟨q, ha, hq, (hg.block q hb.lt (fun e => ?_)).trans hb⟩
      obtain ⟨o, ho, hc⟩ := (hrow q e.symm).2
      rw [show X.heap[q]? = _ from hb] at ho; cases ho; cases hc
    case assign =>
      rintro l pre xi W K ⟨hTW, hGW⟩ hK
      unfold Fr2 at hK
      have HK := hid hK
      clear hK
      unfold sbEnc strV
      generalize x.getD xi.val [] = z at *
      generalize xi.val = i at *
      have hn9 := Blk.new W 9 #[.string (txt z)]
      have hBn : Below W.heap.size W (W.alloc (.cells #[.string (txt z)] 9)) := (Below.refl _ W).alloc (Nat.le_refl _) _
      have hsW := hGW.size
      gi_wp2
      exact HK.out _ _ (gb_keeps (g := g) (B := V0.heap.size) (gb_below hBn) (by omega)) (KpB.later hBn) ⟨hTW.below hBn, hGW.trans (gb_below hBn)⟩ ⟨W.heap.size, rfl, by omega, hn9⟩
    case body =>
      rintro l pre xi a' W hl ⟨rc, hrc⟩ ⟨hTW, hGW⟩ ⟨q, rfl, hq, hbq⟩ hlt
      have hpW := gb_blk hpb hGW (by omega)
      have h3W := gb_blk hb3 hGW (by omega)
      have hBwW : Below w.heap.size w W := hBw.grown hGW (by have := hBw.size; omega) (fun k e => by cases e; omega)
      have hin := xi.isLt
      unfold Fr2
      generalize hz : x.getD xi.val [] = z at *
      have hpre : pre.map (·.val) ++ [xi.val] = (pre ++ [xi]).map (·.val) := by simp
      generalize hT0 : tabU x y m (pre.map (·.val)) (fun _ _ => 0) = T0 at *
      have HPO : Hid (∀ W', TabAt W' g n m (rowU x y xi.val (List.range m).reverse T0) → TabAt W' g n m (tabU x y m ((pre ++ [xi]).map (·.val)) (fun _ _ => 0))) := hid (fun W' h => by rw [← hpre, tabU_snoc, hT0]; exact h)
      clear hpre hT0
      generalize xi.val = i at *
      have hP1N : (i + 1) * (m + 1) + (m + 1) ≤ N := by
        have := Nat.mul_le_mul_right (m + 1) (show i + 2 ≤ n + 1 by omega)
        rw [hN] at this
        rw [Nat.add_mul i 2] at this
        rw [Nat.add_mul i 1]
        omega
      have HP01 : Hid ((i + 1) * (m + 1) = i * (m + 1) + (m + 1)) := hid (by rw [Nat.add_mul, Nat.one_mul])
      have c2 : ∀ W', Calls Try.prog 50 #[.agg #[.int .i64 ((m : Int) + 1), .slice (some ⟨g, 0, none⟩) N N], .int .i64 i] W' fun e w' => e = .returned (.slice (some ⟨g, i * (m + 1), none⟩) (m + 1) (N - i * (m + 1))) ∧ Below W'.heap.size W' w' := fun W' => by
        have := row_any (m + 1) g N N i (by omega) (by omega) (Nat.le_refl _) (by omega) W'
        rwa [show ((m + 1 : Nat) : Int) = (m : Int) + 1 from rfl] at this
      have c6 : ∀ W', Calls Try.prog 50 #[.agg #[.int .i64 ((m : Int) + 1), .slice (some ⟨g, 0, none⟩) N N], .int .i64 ((i : Int) + 1)] W' fun e w' => e = .returned (.slice (some ⟨g, (i + 1) * (m + 1), none⟩) (m + 1) (N - (i + 1) * (m + 1))) ∧ Below W'.heap.size W' w' := fun W' => by
        have := row_any (m + 1) g N N (i + 1) (by omega) (by rw [Nat.add_mul (i + 1), Nat.one_mul]; omega) (Nat.le_refl _) (by omega) W'
        rwa [show ((m + 1 : Nat) : Int) = (m : Int) + 1 from rfl, show ((i + 1 : Nat) : Int) = (i : Int) + 1 from rfl] at this
      have HCU : Hid (∀ (T : Nat → Nat → Int) (j : Nat) (u : List UInt8), y.getD j [] = u → cellU x y i j T i j = if z = u then IntKind.i16.wrap (T (i + 1) (j + 1) + 1) else max (T (i + 1) j) (T i (j + 1))) := hid (fun T j u e => by unfold cellU; rw [if_pos ⟨rfl, rfl⟩, hz, e])
      clear hz
      have HT0 : Hid (∀ (W' : World) (T : Nat → Nat → Int) (j : Nat), TabAt W' g n m T → j < m → W'.cell? ⟨g, (i + 1) * (m + 1) + (j + 1), none⟩ = some (.int .i16 (T (i + 1) (j + 1))) ∧ W'.cell? ⟨g, (i + 1) * (m + 1) + j, none⟩ = some (.int .i16 (T (i + 1) j)) ∧ W'.cell? ⟨g, i * (m + 1) + (j + 1), none⟩ = some (.int .i16 (T i (j + 1))) ∧ W'.cell? ⟨g, i * (m + 1) + j, none⟩ = some (.int .i16 (T i j))) := hid (fun W' T j h hj => ⟨h.cell (by omega) (by omega), h.cell (by omega) (by omega), h.cell (by omega) (by omega), h.cell (by omega) (by omega)⟩)
      have HTP : Hid (∀ (W' : World) (T : Nat → Nat → Int) (j : Nat) (v : Int), TabAt W' g n m T → j < m → cellU x y i j T i j = v → TabAt (W'.setCell ⟨g, i * (m + 1) + j, none⟩ (.int .i16 v)) g n m (cellU x y i j T)) := hid (fun W' T j v h hj e => h.put (by omega) (by omega) v e (fun r c hne => by unfold cellU; rw [if_neg hne]))
      generalize (i + 1) * (m + 1) = P1 at *
      generalize i * (m + 1) = P0 at *
      gi_wp2_with (fail)
      refine wpIn_mono (Q := Reg5 A n c B m d N w g p bo q i z P0 P1 W) ?reg5 ?rest5
      case reg5 =>
        have hv5 : IntKind.i64.wrap ((i : Int) + 1) = (i : Int) + 1 := by rw [IntKind.wrap_i64]; omega
        refine wpIn_region_round (by kernel_rfl) (by kernel_rfl) (fun ⟨_, _, h⟩ => h) ?_
        have hBd5 := below_drewD W
        have HSZW : Hid (W.heap.size = W.drew.heap.size) := hid rfl
        have hpW : Blk W.drew p 76 #[.int .i64 ((m : Int) + 1), .slice (some ⟨g, 0, none⟩) N N] := hpW
        clear hTW hGW hbq h3W hBwW hrc HT0 HTP HPO hb3 hb4 hbo hpb hT hBw
        generalize W.drew = Wd at *
        obtain ⟨M5, hM5⟩ : ∃ M5, Wd.heap.size = M5 := ⟨_, rfl⟩
        have hHeld : Below M5 Wd Wd := Below.refl _ _
        have HM5 := hid hM5
        clear hM5
        refine wpAny_of_held (S := fun W' => Below M5 Wd W') _ _ _ _ ?_
        refine' wpAnyH_take (i := 0) (v := .agg #[.int .i64 ((m : Int) + 1), .slice (some ⟨g, 0, none⟩) N N]) rfl (by kernel_rfl) (by kernel_rfl) (by kernel_rfl) (fun _ _ _ h => h) (Or.inl ⟨by rfl, fun w' hw' => by have hw6 : Below Wd.heap.size Wd w' := (by rw [HM5.out]; exact hw'); have k0 := (hpW.below hw6).cell_ (i := 0) rfl; have k1 := (hpW.below hw6).cell_ (i := 1) rfl; go_simp⟩) hHeld ?_
        try simp only [Act.put, List.getElem_toArray, List.getElem_cons_succ, List.getElem_cons_zero, List.setIfInBounds_toArray, List.set_cons_zero, List.set_cons_succ]
        refine' wpAnyH_take (i := 1) (v := .int .i64 i) rfl (by kernel_rfl) (by kernel_rfl) (by kernel_rfl) (fun _ _ _ h => h) (Or.inl ⟨by rfl, fun w' hw' => by go_simp⟩) hHeld ?_
        try simp only [Act.put, List.getElem_toArray, List.getElem_cons_succ, List.getElem_cons_zero, List.setIfInBounds_toArray, List.set_cons_zero, List.set_cons_succ]
        refine' wpAnyH_take (i := 3) (v := .agg #[.int .i64 ((m : Int) + 1), .slice (some ⟨g, 0, none⟩) N N]) rfl (by kernel_rfl) (by kernel_rfl) (by kernel_rfl) (fun _ _ _ h => h) (Or.inl ⟨by rfl, fun w' hw' => by have hw6 : Below Wd.heap.size Wd w' := (by rw [HM5.out]; exact hw'); have k0 := (hpW.below hw6).cell_ (i := 0) rfl; have k1 := (hpW.below hw6).cell_ (i := 1) rfl; go_simp⟩) hHeld ?_
        try simp only [Act.put, List.getElem_toArray, List.getElem_cons_succ, List.getElem_cons_zero, List.setIfInBounds_toArray, List.set_cons_zero, List.set_cons_succ]
        refine' wpAnyH_take (i := 4) (v := .int .i64 i) rfl (by kernel_rfl) (by kernel_rfl) (by kernel_rfl) (fun _ _ _ h => h) (Or.inl ⟨by rfl, fun w' hw' => by go_simp⟩) hHeld ?_
        try simp only [Act.put, List.getElem_toArray, List.getElem_cons_succ, List.getElem_cons_zero, List.setIfInBounds_toArray, List.set_cons_zero, List.set_cons_succ]
        refine' wpAnyH_take (i := 5) (v := .int .i64 ((i : Int) + 1)) rfl (by kernel_rfl) (by kernel_rfl) (by kernel_rfl) (fun _ _ _ h => h) (Or.inl ⟨by rfl, fun w' hw' => by go_simp⟩) hHeld ?_
        try simp only [Act.put, List.getElem_toArray, List.getElem_cons_succ, List.getElem_cons_zero, List.setIfInBounds_toArray, List.set_cons_zero, List.set_cons_succ]
        refine wpAnyH_ready (rs := [2, 7, 8]) (by kernel_rfl) (by simp) ?_
        refine AllReadyH.cons rfl (fun K hK => ?_) (AllReadyH.cons rfl (fun K hK => ?_) (AllReadyH.cons rfl (fun K hK => ?_) AllReadyH.nil))
        · as_aux_lemma =>
            go_simp
            (with_reducible refine (c2 _).mono ?_)
            rintro e XV1 ⟨rfl, hbc⟩
            refine hK.out _ _ (hHeld.trans (hbc.mono (by have := hHeld.size; have := HM5.out; omega))) (fun hHeld => ?_)
            clear hbc hK K
            try simp only [Act.put, List.getElem_toArray, List.getElem_cons_succ, List.getElem_cons_zero, List.setIfInBounds_toArray, List.set_cons_zero, List.set_cons_succ]
            refine wpAnyH_ready (rs := [6, 7, 8]) (by kernel_rfl) (by simp) ?_
            refine AllReadyH.cons rfl (fun K hK => ?_) (AllReadyH.cons rfl (fun K hK => ?_) (AllReadyH.cons rfl (fun K hK => ?_) AllReadyH.nil))
            · as_aux_lemma =>
                go_simp
                (with_reducible refine (c6 _).mono ?_)
                rintro e XV2 ⟨rfl, hbc⟩
                refine hK.out _ _ (hHeld.trans (hbc.mono (by have := hHeld.size; have := HM5.out; omega))) (fun hHeld => ?_)
                clear hbc hK K
                try simp only [Act.put, List.getElem_toArray, List.getElem_cons_succ, List.getElem_cons_zero, List.setIfInBounds_toArray, List.set_cons_zero, List.set_cons_succ]
                refine wpAnyH_ready (rs := [7, 8]) (by kernel_rfl) (by simp) ?_
                refine AllReadyH.cons rfl (fun K hK => ?_) (AllReadyH.cons rfl (fun K hK => ?_) AllReadyH.nil)
                · as_aux_lemma =>
                    go_simp
                    have h8 := Blk.new XV2 74 #[.slice none 0 0]
                    have hlr8 : M5 ≤ XV2.heap.size := (by have := hHeld.size; have := HM5.out; omega)
                    have hHN := hHeld.alloc hlr8 (.cells #[.slice none 0 0] 74)
                    refine hK.out _ _ hHN (fun hHeld => ?_)
                    clear hHN hK K
                    try simp only [Act.put, List.getElem_toArray, List.getElem_cons_succ, List.getElem_cons_zero, List.setIfInBounds_toArray, List.set_cons_zero, List.set_cons_succ]
                    obtain ⟨r8, er8⟩ : ∃ r8, XV2.heap.size = r8 := ⟨_, rfl⟩
                    rw [er8] at h8 hlr8
                    simp only [er8]
                    generalize XV2.alloc (.cells #[.slice none 0 0] 74) = YV3 at *
                    refine wpAnyH_ready (rs := [8]) (by kernel_rfl) (by simp) ?_
                    refine AllReadyH.cons rfl (fun K hK => ?_) AllReadyH.nil
                    go_simp
                    have h9 := Blk.new YV3 74 #[.slice none 0 0]
                    have hlr9 : M5 ≤ YV3.heap.size := (by have := hHeld.size; have := HM5.out; omega)
                    have hHN := hHeld.alloc hlr9 (.cells #[.slice none 0 0] 74)
                    have hne := h8.lt
                    replace h8 := h8.alloc (.cells #[.slice none 0 0] 74)
                    refine hK.out _ _ hHN (fun hHeld => ?_)
                    clear hHN hK K
                    try simp only [Act.put, List.getElem_toArray, List.getElem_cons_succ, List.getElem_cons_zero, List.setIfInBounds_toArray, List.set_cons_zero, List.set_cons_succ]
                    obtain ⟨r9, er9⟩ : ∃ r9, YV3.heap.size = r9 := ⟨_, rfl⟩
                    rw [er9] at h9 hlr9 hne
                    simp only [er9]
                    generalize YV3.alloc (.cells #[.slice none 0 0] 74) = YV4 at *
                    refine wpAnyH_ready (rs := [9]) (by kernel_rfl) (by simp) ?_
                    refine AllReadyH.cons rfl (fun K hK => ?_) AllReadyH.nil
                    have k0 := h8.cell_ (i := 0) rfl
                    have f0 := h8.frozen 0
                    go_simp
                    have hHN := hHeld.setCell (p := ⟨r8, 0, none⟩) hlr8 (.slice (some ⟨g, P0, none⟩) (m + 1) (N - P0))
                    replace h8 := h8.set 0 (.slice (some ⟨g, P0, none⟩) (m + 1) (N - P0))
                    replace h9 := h9.far (p := ⟨r8, 0, none⟩) (by simp only; omega) (.slice (some ⟨g, P0, none⟩) (m + 1) (N - P0))
                    clear k0 f0
                    refine hK.out _ _ hHN (fun hHeld => ?_)
                    clear hHN hK K
                    try simp only [Act.put, List.getElem_toArray, List.getElem_cons_succ, List.getElem_cons_zero, List.setIfInBounds_toArray, List.set_cons_zero, List.set_cons_succ]
                    generalize YV4.setCell ⟨r8, 0, none⟩ (.slice (some ⟨g, P0, none⟩) (m + 1) (N - P0)) = ZV5 at *
                    refine wpAnyH_ready (rs := [10]) (by kernel_rfl) (by simp) ?_
                    refine AllReadyH.cons rfl (fun K hK => ?_) AllReadyH.nil
                    have k0 := h9.cell_ (i := 0) rfl
                    have f0 := h9.frozen 0
                    go_simp
                    have hHN := hHeld.setCell (p := ⟨r9, 0, none⟩) hlr9 (.slice (some ⟨g, P1, none⟩) (m + 1) (N - P1))
                    replace h9 := h9.set 0 (.slice (some ⟨g, P1, none⟩) (m + 1) (N - P1))
                    replace h8 := h8.far (p := ⟨r9, 0, none⟩) (by simp only; omega) (.slice (some ⟨g, P1, none⟩) (m + 1) (N - P1))
                    clear k0 f0
                    refine hK.out _ _ hHN (fun hHeld => ?_)
                    clear hHN hK K
                    try simp only [Act.put, List.getElem_toArray, List.getElem_cons_succ, List.getElem_cons_zero, List.setIfInBounds_toArray, List.set_cons_zero, List.set_cons_succ]
                    generalize ZV5.setCell ⟨r9, 0, none⟩ (.slice (some ⟨g, P1, none⟩) (m + 1) (N - P1)) = ZV6 at *
                    exact wpAnyH_done (by kernel_rfl) ⟨r8, r9, rfl, by have := HSZW.out; have := HM5.out; omega, by have := HSZW.out; have := HM5.out; omega, by omega, h8, h9, hBd5.trans (hHeld.mono (by have := HSZW.out; have := HM5.out; omega))⟩ _
                · as_aux_lemma =>
                    go_simp
                    have h9 := Blk.new XV2 74 #[.slice none 0 0]
                    have hlr9 : M5 ≤ XV2.heap.size := (by have := hHeld.size; have := HM5.out; omega)
                    have hHN := hHeld.alloc hlr9 (.cells #[.slice none 0 0] 74)
                    refine hK.out _ _ hHN (fun hHeld => ?_)
                    clear hHN hK K
                    try simp only [Act.put, List.getElem_toArray, List.getElem_cons_succ, List.getElem_cons_zero, List.setIfInBounds_toArray, List.set_cons_zero, List.set_cons_succ]
                    obtain ⟨r9, er9⟩ : ∃ r9, XV2.heap.size = r9 := ⟨_, rfl⟩
                    rw [er9] at h9 hlr9
                    simp only [er9]
                    generalize XV2.alloc (.cells #[.slice none 0 0] 74) = YV7 at *
                    refine wpAnyH_ready (rs := [7]) (by kernel_rfl) (by simp) ?_
                    refine AllReadyH.cons rfl (fun K hK => ?_) AllReadyH.nil
                    go_simp
                    have h8 := Blk.new YV7 74 #[.slice none 0 0]
                    have hlr8 : M5 ≤ YV7.heap.size := (by have := hHeld.size; have := HM5.out; omega)
                    have hHN := hHeld.alloc hlr8 (.cells #[.slice none 0 0] 74)
                    have hne := h9.lt
                    replace h9 := h9.alloc (.cells #[.slice none 0 0] 74)
                    refine hK.out _ _ hHN (fun hHeld => ?_)
                    clear hHN hK K
                    try simp only [Act.put, List.getElem_toArray, List.getElem_cons_succ, List.getElem_cons_zero, List.setIfInBounds_toArray, List.set_cons_zero, List.set_cons_succ]
                    obtain ⟨r8, er8⟩ : ∃ r8, YV7.heap.size = r8 := ⟨_, rfl⟩
                    rw [er8] at h8 hlr8 hne
                    simp only [er8]
                    generalize YV7.alloc (.cells #[.slice none 0 0] 74) = YV8 at *
                    refine wpAnyH_ready (rs := [9]) (by kernel_rfl) (by simp) ?_
                    refine AllReadyH.cons rfl (fun K hK => ?_) AllReadyH.nil
                    have k0 := h8.cell_ (i := 0) rfl
                    have f0 := h8.frozen 0
                    go_simp
                    have hHN := hHeld.setCell (p := ⟨r8, 0, none⟩) hlr8 (.slice (some ⟨g, P0, none⟩) (m + 1) (N - P0))
                    replace h8 := h8.set 0 (.slice (some ⟨g, P0, none⟩) (m + 1) (N - P0))
                    replace h9 := h9.far (p := ⟨r8, 0, none⟩) (by simp only; omega) (.slice (some ⟨g, P0, none⟩) (m + 1) (N - P0))
                    clear k0 f0
                    refine hK.out _ _ hHN (fun hHeld => ?_)
                    clear hHN hK K
                    try simp only [Act.put, List.getElem_toArray, List.getElem_cons_succ, List.getElem_cons_zero, List.setIfInBounds_toArray, List.set_cons_zero, List.set_cons_succ]
                    generalize YV8.setCell ⟨r8, 0, none⟩ (.slice (some ⟨g, P0, none⟩) (m + 1) (N - P0)) = ZV9 at *
                    refine wpAnyH_ready (rs := [10]) (by kernel_rfl) (by simp) ?_
                    refine AllReadyH.cons rfl (fun K hK => ?_) AllReadyH.nil
                    have k0 := h9.cell_ (i := 0) rfl
                    have f0 := h9.frozen 0
                    go_simp
                    have hHN := hHeld.setCell (p := ⟨r9, 0, none⟩) hlr9 (.slice (some ⟨g, P1, none⟩) (m + 1) (N - P1))
                    replace h9 := h9.set 0 (.slice (some ⟨g, P1, none⟩) (m + 1) (N - P1))
                    replace h8 := h8.far (p := ⟨r9, 0, none⟩) (by simp only; omega) (.slice (some ⟨g, P1, none⟩) (m + 1) (N - P1))
                    clear k0 f0
                    refine hK.out _ _ hHN (fun hHeld => ?_)
                    clear hHN hK K
                    try simp only [Act.put, List.getElem_toArray, List.getElem_cons_succ, List.getElem_cons_zero, List.setIfInBounds_toArray, List.set_cons_zero, List.set_cons_succ]
                    generalize ZV9.setCell ⟨r9, 0, none⟩ (.slice (some ⟨g, P1, none⟩) (m + 1) (N - P1)) = ZV10 at *
                    exact wpAnyH_done (by kernel_rfl) ⟨r8, r9, rfl, by have := HSZW.out; have := HM5.out; omega, by have := HSZW.out; have := HM5.out; omega, by omega, h8, h9, hBd5.trans (hHeld.mono (by have := HSZW.out; have := HM5.out; omega))⟩ _
            · as_aux_lemma =>
                go_simp
                have h8 := Blk.new XV1 74 #[.slice none 0 0]
                have hlr8 : M5 ≤ XV1.heap.size := (by have := hHeld.size; have := HM5.out; omega)
                have hHN := hHeld.alloc hlr8 (.cells #[.slice none 0 0] 74)
                refine hK.out _ _ hHN (fun hHeld => ?_)
                clear hHN hK K
                try simp only [Act.put, List.getElem_toArray, List.getElem_cons_succ, List.getElem_cons_zero, List.setIfInBounds_toArray, List.set_cons_zero, List.set_cons_succ]
                obtain ⟨r8, er8⟩ : ∃ r8, XV1.heap.size = r8 := ⟨_, rfl⟩
                rw [er8] at h8 hlr8
                simp only [er8]
                generalize XV1.alloc (.cells #[.slice none 0 0] 74) = YV11 at *
                refine wpAnyH_ready (rs := [6, 8]) (by kernel_rfl) (by simp) ?_
                refine AllReadyH.cons rfl (fun K hK => ?_) (AllReadyH.cons rfl (fun K hK => ?_) AllReadyH.nil)
                · as_aux_lemma =>
                    go_simp
                    (with_reducible refine (c6 _).mono ?_)
                    rintro e XV12 ⟨rfl, hbc⟩
                    replace h8 := h8.below hbc
                    refine hK.out _ _ (hHeld.trans (hbc.mono (by have := hHeld.size; have := HM5.out; omega))) (fun hHeld => ?_)
                    clear hbc hK K
                    try simp only [Act.put, List.getElem_toArray, List.getElem_cons_succ, List.getElem_cons_zero, List.setIfInBounds_toArray, List.set_cons_zero, List.set_cons_succ]
                    refine wpAnyH_ready (rs := [8]) (by kernel_rfl) (by simp) ?_
                    refine AllReadyH.cons rfl (fun K hK => ?_) AllReadyH.nil
                    go_simp
                    have h9 := Blk.new XV12 74 #[.slice none 0 0]
                    have hlr9 : M5 ≤ XV12.heap.size := (by have := hHeld.size; have := HM5.out; omega)
                    have hHN := hHeld.alloc hlr9 (.cells #[.slice none 0 0] 74)
                    have hne := h8.lt
                    replace h8 := h8.alloc (.cells #[.slice none 0 0] 74)
                    refine hK.out _ _ hHN (fun hHeld => ?_)
                    clear hHN hK K
                    try simp only [Act.put, List.getElem_toArray, List.getElem_cons_succ, List.getElem_cons_zero, List.setIfInBounds_toArray, List.set_cons_zero, List.set_cons_succ]
                    obtain ⟨r9, er9⟩ : ∃ r9, XV12.heap.size = r9 := ⟨_, rfl⟩
                    rw [er9] at h9 hlr9 hne
                    simp only [er9]
                    generalize XV12.alloc (.cells #[.slice none 0 0] 74) = YV13 at *
                    refine wpAnyH_ready (rs := [9]) (by kernel_rfl) (by simp) ?_
                    refine AllReadyH.cons rfl (fun K hK => ?_) AllReadyH.nil
                    have k0 := h8.cell_ (i := 0) rfl
                    have f0 := h8.frozen 0
                    go_simp
                    have hHN := hHeld.setCell (p := ⟨r8, 0, none⟩) hlr8 (.slice (some ⟨g, P0, none⟩) (m + 1) (N - P0))
                    replace h8 := h8.set 0 (.slice (some ⟨g, P0, none⟩) (m + 1) (N - P0))
                    replace h9 := h9.far (p := ⟨r8, 0, none⟩) (by simp only; omega) (.slice (some ⟨g, P0, none⟩) (m + 1) (N - P0))
                    clear k0 f0
                    refine hK.out _ _ hHN (fun hHeld => ?_)
                    clear hHN hK K
                    try simp only [Act.put, List.getElem_toArray, List.getElem_cons_succ, List.getElem_cons_zero, List.setIfInBounds_toArray, List.set_cons_zero, List.set_cons_succ]
                    generalize YV13.setCell ⟨r8, 0, none⟩ (.slice (some ⟨g, P0, none⟩) (m + 1) (N - P0)) = ZV14 at *
                    refine wpAnyH_ready (rs := [10]) (by kernel_rfl) (by simp) ?_
                    refine AllReadyH.cons rfl (fun K hK => ?_) AllReadyH.nil
                    have k0 := h9.cell_ (i := 0) rfl
                    have f0 := h9.frozen 0
                    go_simp
                    have hHN := hHeld.setCell (p := ⟨r9, 0, none⟩) hlr9 (.slice (some ⟨g, P1, none⟩) (m + 1) (N - P1))
                    replace h9 := h9.set 0 (.slice (some ⟨g, P1, none⟩) (m + 1) (N - P1))
                    replace h8 := h8.far (p := ⟨r9, 0, none⟩) (by simp only; omega) (.slice (some ⟨g, P1, none⟩) (m + 1) (N - P1))
                    clear k0 f0
                    refine hK.out _ _ hHN (fun hHeld => ?_)
                    clear hHN hK K
                    try simp only [Act.put, List.getElem_toArray, List.getElem_cons_succ, List.getElem_cons_zero, List.setIfInBounds_toArray, List.set_cons_zero, List.set_cons_succ]
                    generalize ZV14.setCell ⟨r9, 0, none⟩ (.slice (some ⟨g, P1, none⟩) (m + 1) (N - P1)) = ZV15 at *
                    exact wpAnyH_done (by kernel_rfl) ⟨r8, r9, rfl, by have := HSZW.out; have := HM5.out; omega, by have := HSZW.out; have := HM5.out; omega, by omega, h8, h9, hBd5.trans (hHeld.mono (by have := HSZW.out; have := HM5.out; omega))⟩ _
                · as_aux_lemma =>
                    go_simp
                    have h9 := Blk.new YV11 74 #[.slice none 0 0]
                    have hlr9 : M5 ≤ YV11.heap.size := (by have := hHeld.size; have := HM5.out; omega)
                    have hHN := hHeld.alloc hlr9 (.cells #[.slice none 0 0] 74)
                    have hne := h8.lt
                    replace h8 := h8.alloc (.cells #[.slice none 0 0] 74)
                    refine hK.out _ _ hHN (fun hHeld => ?_)
                    clear hHN hK K
                    try simp only [Act.put, List.getElem_toArray, List.getElem_cons_succ, List.getElem_cons_zero, List.setIfInBounds_toArray, List.set_cons_zero, List.set_cons_succ]
                    obtain ⟨r9, er9⟩ : ∃ r9, YV11.heap.size = r9 := ⟨_, rfl⟩
                    rw [er9] at h9 hlr9 hne
                    simp only [er9]
                    generalize YV11.alloc (.cells #[.slice none 0 0] 74) = YV16 at *
                    refine wpAnyH_ready (rs := [6]) (by kernel_rfl) (by simp) ?_
                    refine AllReadyH.cons rfl (fun K hK => ?_) AllReadyH.nil
                    go_simp
                    (with_reducible refine (c6 _).mono ?_)
                    rintro e XV17 ⟨rfl, hbc⟩
                    replace h8 := h8.below hbc
                    replace h9 := h9.below hbc
                    refine hK.out _ _ (hHeld.trans (hbc.mono (by have := hHeld.size; have := HM5.out; omega))) (fun hHeld => ?_)
                    clear hbc hK K
                    try simp only [Act.put, List.getElem_toArray, List.getElem_cons_succ, List.getElem_cons_zero, List.setIfInBounds_toArray, List.set_cons_zero, List.set_cons_succ]
                    refine wpAnyH_ready (rs := [9]) (by kernel_rfl) (by simp) ?_
                    refine AllReadyH.cons rfl (fun K hK => ?_) AllReadyH.nil
                    have k0 := h8.cell_ (i := 0) rfl
                    have f0 := h8.frozen 0
                    go_simp
                    have hHN := hHeld.setCell (p := ⟨r8, 0, none⟩) hlr8 (.slice (some ⟨g, P0, none⟩) (m + 1) (N - P0))
                    replace h8 := h8.set 0 (.slice (some ⟨g, P0, none⟩) (m + 1) (N - P0))
                    replace h9 := h9.far (p := ⟨r8, 0, none⟩) (by simp only; omega) (.slice (some ⟨g, P0, none⟩) (m + 1) (N - P0))
                    clear k0 f0
                    refine hK.out _ _ hHN (fun hHeld => ?_)
                    clear hHN hK K
                    try simp only [Act.put, List.getElem_toArray, List.getElem_cons_succ, List.getElem_cons_zero, List.setIfInBounds_toArray, List.set_cons_zero, List.set_cons_succ]
                    generalize XV17.setCell ⟨r8, 0, none⟩ (.slice (some ⟨g, P0, none⟩) (m + 1) (N - P0)) = ZV18 at *
                    refine wpAnyH_ready (rs := [10]) (by kernel_rfl) (by simp) ?_
                    refine AllReadyH.cons rfl (fun K hK => ?_) AllReadyH.nil
                    have k0 := h9.cell_ (i := 0) rfl
                    have f0 := h9.frozen 0
                    go_simp
                    have hHN := hHeld.setCell (p := ⟨r9, 0, none⟩) hlr9 (.slice (some ⟨g, P1, none⟩) (m + 1) (N - P1))
                    replace h9 := h9.set 0 (.slice (some ⟨g, P1, none⟩) (m + 1) (N - P1))
                    replace h8 := h8.far (p := ⟨r9, 0, none⟩) (by simp only; omega) (.slice (some ⟨g, P1, none⟩) (m + 1) (N - P1))
                    clear k0 f0
                    refine hK.out _ _ hHN (fun hHeld => ?_)
                    clear hHN hK K
                    try simp only [Act.put, List.getElem_toArray, List.getElem_cons_succ, List.getElem_cons_zero, List.setIfInBounds_toArray, List.set_cons_zero, List.set_cons_succ]
                    generalize ZV18.setCell ⟨r9, 0, none⟩ (.slice (some ⟨g, P1, none⟩) (m + 1) (N - P1)) = ZV19 at *
                    exact wpAnyH_done (by kernel_rfl) ⟨r8, r9, rfl, by have := HSZW.out; have := HM5.out; omega, by have := HSZW.out; have := HM5.out; omega, by omega, h8, h9, hBd5.trans (hHeld.mono (by have := HSZW.out; have := HM5.out; omega))⟩ _
            · as_aux_lemma =>
                go_simp
                have h9 := Blk.new XV1 74 #[.slice none 0 0]
                have hlr9 : M5 ≤ XV1.heap.size := (by have := hHeld.size; have := HM5.out; omega)
                have hHN := hHeld.alloc hlr9 (.cells #[.slice none 0 0] 74)
                refine hK.out _ _ hHN (fun hHeld => ?_)
                clear hHN hK K
                try simp only [Act.put, List.getElem_toArray, List.getElem_cons_succ, List.getElem_cons_zero, List.setIfInBounds_toArray, List.set_cons_zero, List.set_cons_succ]
                obtain ⟨r9, er9⟩ : ∃ r9, XV1.heap.size = r9 := ⟨_, rfl⟩
                rw [er9] at h9 hlr9
                simp only [er9]
                generalize XV1.alloc (.cells #[.slice none 0 0] 74) = YV20 at *
                refine wpAnyH_ready (rs := [6, 7]) (by kernel_rfl) (by simp) ?_
                refine AllReadyH.cons rfl (fun K hK => ?_) (AllReadyH.cons rfl (fun K hK => ?_) AllReadyH.nil)
                · as_aux_lemma =>
                    go_simp
                    (with_reducible refine (c6 _).mono ?_)
                    rintro e XV21 ⟨rfl, hbc⟩
                    replace h9 := h9.below hbc
                    refine hK.out _ _ (hHeld.trans (hbc.mono (by have := hHeld.size; have := HM5.out; omega))) (fun hHeld => ?_)
                    clear hbc hK K
                    try simp only [Act.put, List.getElem_toArray, List.getElem_cons_succ, List.getElem_cons_zero, List.setIfInBounds_toArray, List.set_cons_zero, List.set_cons_succ]
                    refine wpAnyH_ready (rs := [7]) (by kernel_rfl) (by simp) ?_
                    refine AllReadyH.cons rfl (fun K hK => ?_) AllReadyH.nil
                    go_simp
                    have h8 := Blk.new XV21 74 #[.slice none 0 0]
                    have hlr8 : M5 ≤ XV21.heap.size := (by have := hHeld.size; have := HM5.out; omega)
                    have hHN := hHeld.alloc hlr8 (.cells #[.slice none 0 0] 74)
                    have hne := h9.lt
                    replace h9 := h9.alloc (.cells #[.slice none 0 0] 74)
                    refine hK.out _ _ hHN (fun hHeld => ?_)
                    clear hHN hK K
                    try simp only [Act.put, List.getElem_toArray, List.getElem_cons_succ, List.getElem_cons_zero, List.setIfInBounds_toArray, List.set_cons_zero, List.set_cons_succ]
                    obtain ⟨r8, er8⟩ : ∃ r8, XV21.heap.size = r8 := ⟨_, rfl⟩
                    rw [er8] at h8 hlr8 hne
                    simp only [er8]
                    generalize XV21.alloc (.cells #[.slice none 0 0] 74) = YV22 at *
                    refine wpAnyH_ready (rs := [9]) (by kernel_rfl) (by simp) ?_
                    refine AllReadyH.cons rfl (fun K hK => ?_) AllReadyH.nil
                    have k0 := h8.cell_ (i := 0) rfl
                    have f0 := h8.frozen 0
                    go_simp
                    have hHN := hHeld.setCell (p := ⟨r8, 0, none⟩) hlr8 (.slice (some ⟨g, P0, none⟩) (m + 1) (N - P0))
                    replace h8 := h8.set 0 (.slice (some ⟨g, P0, none⟩) (m + 1) (N - P0))
                    replace h9 := h9.far (p := ⟨r8, 0, none⟩) (by simp only; omega) (.slice (some ⟨g, P0, none⟩) (m + 1) (N - P0))
                    clear k0 f0
                    refine hK.out _ _ hHN (fun hHeld => ?_)
                    clear hHN hK K
                    try simp only [Act.put, List.getElem_toArray, List.getElem_cons_succ, List.getElem_cons_zero, List.setIfInBounds_toArray, List.set_cons_zero, List.set_cons_succ]
                    generalize YV22.setCell ⟨r8, 0, none⟩ (.slice (some ⟨g, P0, none⟩) (m + 1) (N - P0)) = ZV23 at *
                    refine wpAnyH_ready (rs := [10]) (by kernel_rfl) (by simp) ?_
                    refine AllReadyH.cons rfl (fun K hK => ?_) AllReadyH.nil
                    have k0 := h9.cell_ (i := 0) rfl
                    have f0 := h9.frozen 0
                    go_simp
                    have hHN := hHeld.setCell (p := ⟨r9, 0, none⟩) hlr9 (.slice (some ⟨g, P1, none⟩) (m + 1) (N - P1))
                    replace h9 := h9.set 0 (.slice (some ⟨g, P1, none⟩) (m + 1) (N - P1))
                    replace h8 := h8.far (p := ⟨r9, 0, none⟩) (by simp only; omega) (.slice (some ⟨g, P1, none⟩) (m + 1) (N - P1))
                    clear k0 f0
                    refine hK.out _ _ hHN (fun hHeld => ?_)
                    clear hHN hK K
                    try simp only [Act.put, List.getElem_toArray, List.getElem_cons_succ, List.getElem_cons_zero, List.setIfInBounds_toArray, List.set_cons_zero, List.set_cons_succ]
                    generalize ZV23.setCell ⟨r9, 0, none⟩ (.slice (some ⟨g, P1, none⟩) (m + 1) (N - P1)) = ZV24 at *
                    exact wpAnyH_done (by kernel_rfl) ⟨r8, r9, rfl, by have := HSZW.out; have := HM5.out; omega, by have := HSZW.out; have := HM5.out; omega, by omega, h8, h9, hBd5.trans (hHeld.mono (by have := HSZW.out; have := HM5.out; omega))⟩ _
                · as_aux_lemma =>
                    go_simp
                    have h8 := Blk.new YV20 74 #[.slice none 0 0]
                    have hlr8 : M5 ≤ YV20.heap.size := (by have := hHeld.size; have := HM5.out; omega)
                    have hHN := hHeld.alloc hlr8 (.cells #[.slice none 0 0] 74)
                    have hne := h9.lt
                    replace h9 := h9.alloc (.cells #[.slice none 0 0] 74)
                    refine hK.out _ _ hHN (fun hHeld => ?_)
                    clear hHN hK K
                    try simp only [Act.put, List.getElem_toArray, List.getElem_cons_succ, List.getElem_cons_zero, List.setIfInBounds_toArray, List.set_cons_zero, List.set_cons_succ]
                    obtain ⟨r8, er8⟩ : ∃ r8, YV20.heap.size = r8 := ⟨_, rfl⟩
                    rw [er8] at h8 hlr8 hne
                    simp only [er8]
                    generalize YV20.alloc (.cells #[.slice none 0 0] 74) = YV25 at *
                    refine wpAnyH_ready (rs := [6]) (by kernel_rfl) (by simp) ?_
                    refine AllReadyH.cons rfl (fun K hK => ?_) AllReadyH.nil
                    go_simp
                    (with_reducible refine (c6 _).mono ?_)
                    rintro e XV26 ⟨rfl, hbc⟩
                    replace h8 := h8.below hbc
                    replace h9 := h9.below hbc
                    refine hK.out _ _ (hHeld.trans (hbc.mono (by have := hHeld.size; have := HM5.out; omega))) (fun hHeld => ?_)
                    clear hbc hK K
                    try simp only [Act.put, List.getElem_toArray, List.getElem_cons_succ, List.getElem_cons_zero, List.setIfInBounds_toArray, List.set_cons_zero, List.set_cons_succ]
                    refine wpAnyH_ready (rs := [9]) (by kernel_rfl) (by simp) ?_
                    refine AllReadyH.cons rfl (fun K hK => ?_) AllReadyH.nil
                    have k0 := h8.cell_ (i := 0) rfl
                    have f0 := h8.frozen 0
                    go_simp
                    have hHN := hHeld.setCell (p := ⟨r8, 0, none⟩) hlr8 (.slice (some ⟨g, P0, none⟩) (m + 1) (N - P0))
                    replace h8 := h8.set 0 (.slice (some ⟨g, P0, none⟩) (m + 1) (N - P0))
                    replace h9 := h9.far (p := ⟨r8, 0, none⟩) (by simp only; omega) (.slice (some ⟨g, P0, none⟩) (m + 1) (N - P0))
                    clear k0 f0
                    refine hK.out _ _ hHN (fun hHeld => ?_)
                    clear hHN hK K
                    try simp only [Act.put, List.getElem_toArray, List.getElem_cons_succ, List.getElem_cons_zero, List.setIfInBounds_toArray, List.set_cons_zero, List.set_cons_succ]
                    generalize XV26.setCell ⟨r8, 0, none⟩ (.slice (some ⟨g, P0, none⟩) (m + 1) (N - P0)) = ZV27 at *
                    refine wpAnyH_ready (rs := [10]) (by kernel_rfl) (by simp) ?_
                    refine AllReadyH.cons rfl (fun K hK => ?_) AllReadyH.nil
                    have k0 := h9.cell_ (i := 0) rfl
                    have f0 := h9.frozen 0
                    go_simp
                    have hHN := hHeld.setCell (p := ⟨r9, 0, none⟩) hlr9 (.slice (some ⟨g, P1, none⟩) (m + 1) (N - P1))
                    replace h9 := h9.set 0 (.slice (some ⟨g, P1, none⟩) (m + 1) (N - P1))
                    replace h8 := h8.far (p := ⟨r9, 0, none⟩) (by simp only; omega) (.slice (some ⟨g, P1, none⟩) (m + 1) (N - P1))
                    clear k0 f0
                    refine hK.out _ _ hHN (fun hHeld => ?_)
                    clear hHN hK K
                    try simp only [Act.put, List.getElem_toArray, List.getElem_cons_succ, List.getElem_cons_zero, List.setIfInBounds_toArray, List.set_cons_zero, List.set_cons_succ]
                    generalize ZV27.setCell ⟨r9, 0, none⟩ (.slice (some ⟨g, P1, none⟩) (m + 1) (N - P1)) = ZV28 at *
                    exact wpAnyH_done (by kernel_rfl) ⟨r8, r9, rfl, by have := HSZW.out; have := HM5.out; omega, by have := HSZW.out; have := HM5.out; omega, by omega, h8, h9, hBd5.trans (hHeld.mono (by have := HSZW.out; have := HM5.out; omega))⟩ _
        · as_aux_lemma =>
            go_simp
            have h8 := Blk.new Wd 74 #[.slice none 0 0]
            have hlr8 : M5 ≤ Wd.heap.size := (by have := hHeld.size; have := HM5.out; omega)
            have hHN := hHeld.alloc hlr8 (.cells #[.slice none 0 0] 74)
            refine hK.out _ _ hHN (fun hHeld => ?_)
            clear hHN hK K
            try simp only [Act.put, List.getElem_toArray, List.getElem_cons_succ, List.getElem_cons_zero, List.setIfInBounds_toArray, List.set_cons_zero, List.set_cons_succ]
            obtain ⟨r8, er8⟩ : ∃ r8, Wd.heap.size = r8 := ⟨_, rfl⟩
            rw [er8] at h8 hlr8
            simp only [er8]
            generalize Wd.alloc (.cells #[.slice none 0 0] 74) = YV29 at *
            refine wpAnyH_ready (rs := [2, 8]) (by kernel_rfl) (by simp) ?_
            refine AllReadyH.cons rfl (fun K hK => ?_) (AllReadyH.cons rfl (fun K hK => ?_) AllReadyH.nil)
            · as_aux_lemma =>
                go_simp
                (with_reducible refine (c2 _).mono ?_)
                rintro e XV30 ⟨rfl, hbc⟩
                replace h8 := h8.below hbc
                refine hK.out _ _ (hHeld.trans (hbc.mono (by have := hHeld.size; have := HM5.out; omega))) (fun hHeld => ?_)
                clear hbc hK K
                try simp only [Act.put, List.getElem_toArray, List.getElem_cons_succ, List.getElem_cons_zero, List.setIfInBounds_toArray, List.set_cons_zero, List.set_cons_succ]
                refine wpAnyH_ready (rs := [6, 8]) (by kernel_rfl) (by simp) ?_
                refine AllReadyH.cons rfl (fun K hK => ?_) (AllReadyH.cons rfl (fun K hK => ?_) AllReadyH.nil)
                · as_aux_lemma =>
                    go_simp
                    (with_reducible refine (c6 _).mono ?_)
                    rintro e XV31 ⟨rfl, hbc⟩
                    replace h8 := h8.below hbc
                    refine hK.out _ _ (hHeld.trans (hbc.mono (by have := hHeld.size; have := HM5.out; omega))) (fun hHeld => ?_)
                    clear hbc hK K
                    try simp only [Act.put, List.getElem_toArray, List.getElem_cons_succ, List.getElem_cons_zero, List.setIfInBounds_toArray, List.set_cons_zero, List.set_cons_succ]
                    refine wpAnyH_ready (rs := [8]) (by kernel_rfl) (by simp) ?_
                    refine AllReadyH.cons rfl (fun K hK => ?_) AllReadyH.nil
                    go_simp
                    have h9 := Blk.new XV31 74 #[.slice none 0 0]
                    have hlr9 : M5 ≤ XV31.heap.size := (by have := hHeld.size; have := HM5.out; omega)
                    have hHN := hHeld.alloc hlr9 (.cells #[.slice none 0 0] 74)
                    have hne := h8.lt
                    replace h8 := h8.alloc (.cells #[.slice none 0 0] 74)
                    refine hK.out _ _ hHN (fun hHeld => ?_)
                    clear hHN hK K
                    try simp only [Act.put, List.getElem_toArray, List.getElem_cons_succ, List.getElem_cons_zero, List.setIfInBounds_toArray, List.set_cons_zero, List.set_cons_succ]
                    obtain ⟨r9, er9⟩ : ∃ r9, XV31.heap.size = r9 := ⟨_, rfl⟩
                    rw [er9] at h9 hlr9 hne
                    simp only [er9]
                    generalize XV31.alloc (.cells #[.slice none 0 0] 74) = YV32 at *
                    refine wpAnyH_ready (rs := [9]) (by kernel_rfl) (by simp) ?_
                    refine AllReadyH.cons rfl (fun K hK => ?_) AllReadyH.nil
                    have k0 := h8.cell_ (i := 0) rfl
                    have f0 := h8.frozen 0
                    go_simp
                    have hHN := hHeld.setCell (p := ⟨r8, 0, none⟩) hlr8 (.slice (some ⟨g, P0, none⟩) (m + 1) (N - P0))
                    replace h8 := h8.set 0 (.slice (some ⟨g, P0, none⟩) (m + 1) (N - P0))
                    replace h9 := h9.far (p := ⟨r8, 0, none⟩) (by simp only; omega) (.slice (some ⟨g, P0, none⟩) (m + 1) (N - P0))
                    clear k0 f0
                    refine hK.out _ _ hHN (fun hHeld => ?_)
                    clear hHN hK K
                    try simp only [Act.put, List.getElem_toArray, List.getElem_cons_succ, List.getElem_cons_zero, List.setIfInBounds_toArray, List.set_cons_zero, List.set_cons_succ]
                    generalize YV32.setCell ⟨r8, 0, none⟩ (.slice (some ⟨g, P0, none⟩) (m + 1) (N - P0)) = ZV33 at *
                    refine wpAnyH_ready (rs := [10]) (by kernel_rfl) (by simp) ?_
                    refine AllReadyH.cons rfl (fun K hK => ?_) AllReadyH.nil
                    have k0 := h9.cell_ (i := 0) rfl
                    have f0 := h9.frozen 0
                    go_simp
                    have hHN := hHeld.setCell (p := ⟨r9, 0, none⟩) hlr9 (.slice (some ⟨g, P1, none⟩) (m + 1) (N - P1))
                    replace h9 := h9.set 0 (.slice (some ⟨g, P1, none⟩) (m + 1) (N - P1))
                    replace h8 := h8.far (p := ⟨r9, 0, none⟩) (by simp only; omega) (.slice (some ⟨g, P1, none⟩) (m + 1) (N - P1))
                    clear k0 f0
                    refine hK.out _ _ hHN (fun hHeld => ?_)
                    clear hHN hK K
                    try simp only [Act.put, List.getElem_toArray, List.getElem_cons_succ, List.getElem_cons_zero, List.setIfInBounds_toArray, List.set_cons_zero, List.set_cons_succ]
                    generalize ZV33.setCell ⟨r9, 0, none⟩ (.slice (some ⟨g, P1, none⟩) (m + 1) (N - P1)) = ZV34 at *
                    exact wpAnyH_done (by kernel_rfl) ⟨r8, r9, rfl, by have := HSZW.out; have := HM5.out; omega, by have := HSZW.out; have := HM5.out; omega, by omega, h8, h9, hBd5.trans (hHeld.mono (by have := HSZW.out; have := HM5.out; omega))⟩ _
                · as_aux_lemma =>
                    go_simp
                    have h9 := Blk.new XV30 74 #[.slice none 0 0]
                    have hlr9 : M5 ≤ XV30.heap.size := (by have := hHeld.size; have := HM5.out; omega)
                    have hHN := hHeld.alloc hlr9 (.cells #[.slice none 0 0] 74)
                    have hne := h8.lt
                    replace h8 := h8.alloc (.cells #[.slice none 0 0] 74)
                    refine hK.out _ _ hHN (fun hHeld => ?_)
                    clear hHN hK K
                    try simp only [Act.put, List.getElem_toArray, List.getElem_cons_succ, List.getElem_cons_zero, List.setIfInBounds_toArray, List.set_cons_zero, List.set_cons_succ]
                    obtain ⟨r9, er9⟩ : ∃ r9, XV30.heap.size = r9 := ⟨_, rfl⟩
                    rw [er9] at h9 hlr9 hne
                    simp only [er9]
                    generalize XV30.alloc (.cells #[.slice none 0 0] 74) = YV35 at *
                    refine wpAnyH_ready (rs := [6]) (by kernel_rfl) (by simp) ?_
                    refine AllReadyH.cons rfl (fun K hK => ?_) AllReadyH.nil
                    go_simp
                    (with_reducible refine (c6 _).mono ?_)
                    rintro e XV36 ⟨rfl, hbc⟩
                    replace h8 := h8.below hbc
                    replace h9 := h9.below hbc
                    refine hK.out _ _ (hHeld.trans (hbc.mono (by have := hHeld.size; have := HM5.out; omega))) (fun hHeld => ?_)
                    clear hbc hK K
                    try simp only [Act.put, List.getElem_toArray, List.getElem_cons_succ, List.getElem_cons_zero, List.setIfInBounds_toArray, List.set_cons_zero, List.set_cons_succ]
                    refine wpAnyH_ready (rs := [9]) (by kernel_rfl) (by simp) ?_
                    refine AllReadyH.cons rfl (fun K hK => ?_) AllReadyH.nil
                    have k0 := h8.cell_ (i := 0) rfl
                    have f0 := h8.frozen 0
                    go_simp
                    have hHN := hHeld.setCell (p := ⟨r8, 0, none⟩) hlr8 (.slice (some ⟨g, P0, none⟩) (m + 1) (N - P0))
                    replace h8 := h8.set 0 (.slice (some ⟨g, P0, none⟩) (m + 1) (N - P0))
                    replace h9 := h9.far (p := ⟨r8, 0, none⟩) (by simp only; omega) (.slice (some ⟨g, P0, none⟩) (m + 1) (N - P0))
                    clear k0 f0
                    refine hK.out _ _ hHN (fun hHeld => ?_)
                    clear hHN hK K
                    try simp only [Act.put, List.getElem_toArray, List.getElem_cons_succ, List.getElem_cons_zero, List.setIfInBounds_toArray, List.set_cons_zero, List.set_cons_succ]
                    generalize XV36.setCell ⟨r8, 0, none⟩ (.slice (some ⟨g, P0, none⟩) (m + 1) (N - P0)) = ZV37 at *
                    refine wpAnyH_ready (rs := [10]) (by kernel_rfl) (by simp) ?_
                    refine AllReadyH.cons rfl (fun K hK => ?_) AllReadyH.nil
                    have k0 := h9.cell_ (i := 0) rfl
                    have f0 := h9.frozen 0
                    go_simp
                    have hHN := hHeld.setCell (p := ⟨r9, 0, none⟩) hlr9 (.slice (some ⟨g, P1, none⟩) (m + 1) (N - P1))
                    replace h9 := h9.set 0 (.slice (some ⟨g, P1, none⟩) (m + 1) (N - P1))
                    replace h8 := h8.far (p := ⟨r9, 0, none⟩) (by simp only; omega) (.slice (some ⟨g, P1, none⟩) (m + 1) (N - P1))
                    clear k0 f0
                    refine hK.out _ _ hHN (fun hHeld => ?_)
                    clear hHN hK K
                    try simp only [Act.put, List.getElem_toArray, List.getElem_cons_succ, List.getElem_cons_zero, List.setIfInBounds_toArray, List.set_cons_zero, List.set_cons_succ]
                    generalize ZV37.setCell ⟨r9, 0, none⟩ (.slice (some ⟨g, P1, none⟩) (m + 1) (N - P1)) = ZV38 at *
                    exact wpAnyH_done (by kernel_rfl) ⟨r8, r9, rfl, by have := HSZW.out; have := HM5.out; omega, by have := HSZW.out; have := HM5.out; omega, by omega, h8, h9, hBd5.trans (hHeld.mono (by have := HSZW.out; have := HM5.out; omega))⟩ _
            · as_aux_lemma =>
                go_simp
                have h9 := Blk.new YV29 74 #[.slice none 0 0]
                have hlr9 : M5 ≤ YV29.heap.size := (by have := hHeld.size; have := HM5.out; omega)
                have hHN := hHeld.alloc hlr9 (.cells #[.slice none 0 0] 74)
                have hne := h8.lt
                replace h8 := h8.alloc (.cells #[.slice none 0 0] 74)
                refine hK.out _ _ hHN (fun hHeld => ?_)
                clear hHN hK K
                try simp only [Act.put, List.getElem_toArray, List.getElem_cons_succ, List.getElem_cons_zero, List.setIfInBounds_toArray, List.set_cons_zero, List.set_cons_succ]
                obtain ⟨r9, er9⟩ : ∃ r9, YV29.heap.size = r9 := ⟨_, rfl⟩
                rw [er9] at h9 hlr9 hne
                simp only [er9]
                generalize YV29.alloc (.cells #[.slice none 0 0] 74) = YV39 at *
                refine wpAnyH_ready (rs := [2]) (by kernel_rfl) (by simp) ?_
                refine AllReadyH.cons rfl (fun K hK => ?_) AllReadyH.nil
                go_simp
                (with_reducible refine (c2 _).mono ?_)
                rintro e XV40 ⟨rfl, hbc⟩
                replace h8 := h8.below hbc
                replace h9 := h9.below hbc
                refine hK.out _ _ (hHeld.trans (hbc.mono (by have := hHeld.size; have := HM5.out; omega))) (fun hHeld => ?_)
                clear hbc hK K
                try simp only [Act.put, List.getElem_toArray, List.getElem_cons_succ, List.getElem_cons_zero, List.setIfInBounds_toArray, List.set_cons_zero, List.set_cons_succ]
                refine wpAnyH_ready (rs := [6]) (by kernel_rfl) (by simp) ?_
                refine AllReadyH.cons rfl (fun K hK => ?_) AllReadyH.nil
                go_simp
                (with_reducible refine (c6 _).mono ?_)
                rintro e XV41 ⟨rfl, hbc⟩
                replace h8 := h8.below hbc
                replace h9 := h9.below hbc
                refine hK.out _ _ (hHeld.trans (hbc.mono (by have := hHeld.size; have := HM5.out; omega))) (fun hHeld => ?_)
                clear hbc hK K
                try simp only [Act.put, List.getElem_toArray, List.getElem_cons_succ, List.getElem_cons_zero, List.setIfInBounds_toArray, List.set_cons_zero, List.set_cons_succ]
                refine wpAnyH_ready (rs := [9]) (by kernel_rfl) (by simp) ?_
                refine AllReadyH.cons rfl (fun K hK => ?_) AllReadyH.nil
                have k0 := h8.cell_ (i := 0) rfl
                have f0 := h8.frozen 0
                go_simp
                have hHN := hHeld.setCell (p := ⟨r8, 0, none⟩) hlr8 (.slice (some ⟨g, P0, none⟩) (m + 1) (N - P0))
                replace h8 := h8.set 0 (.slice (some ⟨g, P0, none⟩) (m + 1) (N - P0))
                replace h9 := h9.far (p := ⟨r8, 0, none⟩) (by simp only; omega) (.slice (some ⟨g, P0, none⟩) (m + 1) (N - P0))
                clear k0 f0
                refine hK.out _ _ hHN (fun hHeld => ?_)
                clear hHN hK K
                try simp only [Act.put, List.getElem_toArray, List.getElem_cons_succ, List.getElem_cons_zero, List.setIfInBounds_toArray, List.set_cons_zero, List.set_cons_succ]
                generalize XV41.setCell ⟨r8, 0, none⟩ (.slice (some ⟨g, P0, none⟩) (m + 1) (N - P0)) = ZV42 at *
                refine wpAnyH_ready (rs := [10]) (by kernel_rfl) (by simp) ?_
                refine AllReadyH.cons rfl (fun K hK => ?_) AllReadyH.nil
                have k0 := h9.cell_ (i := 0) rfl
                have f0 := h9.frozen 0
                go_simp
                have hHN := hHeld.setCell (p := ⟨r9, 0, none⟩) hlr9 (.slice (some ⟨g, P1, none⟩) (m + 1) (N - P1))
                replace h9 := h9.set 0 (.slice (some ⟨g, P1, none⟩) (m + 1) (N - P1))
                replace h8 := h8.far (p := ⟨r9, 0, none⟩) (by simp only; omega) (.slice (some ⟨g, P1, none⟩) (m + 1) (N - P1))
                clear k0 f0
                refine hK.out _ _ hHN (fun hHeld => ?_)
                clear hHN hK K
                try simp only [Act.put, List.getElem_toArray, List.getElem_cons_succ, List.getElem_cons_zero, List.setIfInBounds_toArray, List.set_cons_zero, List.set_cons_succ]
                generalize ZV42.setCell ⟨r9, 0, none⟩ (.slice (some ⟨g, P1, none⟩) (m + 1) (N - P1)) = ZV43 at *
                exact wpAnyH_done (by kernel_rfl) ⟨r8, r9, rfl, by have := HSZW.out; have := HM5.out; omega, by have := HSZW.out; have := HM5.out; omega, by omega, h8, h9, hBd5.trans (hHeld.mono (by have := HSZW.out; have := HM5.out; omega))⟩ _
        · as_aux_lemma =>
            go_simp
            have h9 := Blk.new Wd 74 #[.slice none 0 0]
            have hlr9 : M5 ≤ Wd.heap.size := (by have := hHeld.size; have := HM5.out; omega)
            have hHN := hHeld.alloc hlr9 (.cells #[.slice none 0 0] 74)
            refine hK.out _ _ hHN (fun hHeld => ?_)
            clear hHN hK K
            try simp only [Act.put, List.getElem_toArray, List.getElem_cons_succ, List.getElem_cons_zero, List.setIfInBounds_toArray, List.set_cons_zero, List.set_cons_succ]
            obtain ⟨r9, er9⟩ : ∃ r9, Wd.heap.size = r9 := ⟨_, rfl⟩
            rw [er9] at h9 hlr9
            simp only [er9]
            generalize Wd.alloc (.cells #[.slice none 0 0] 74) = YV44 at *
            refine wpAnyH_ready (rs := [2, 7]) (by kernel_rfl) (by simp) ?_
            refine AllReadyH.cons rfl (fun K hK => ?_) (AllReadyH.cons rfl (fun K hK => ?_) AllReadyH.nil)
            · as_aux_lemma =>
                go_simp
                (with_reducible refine (c2 _).mono ?_)
                rintro e XV45 ⟨rfl, hbc⟩
                replace h9 := h9.below hbc
                refine hK.out _ _ (hHeld.trans (hbc.mono (by have := hHeld.size; have := HM5.out; omega))) (fun hHeld => ?_)
                clear hbc hK K
                try simp only [Act.put, List.getElem_toArray, List.getElem_cons_succ, List.getElem_cons_zero, List.setIfInBounds_toArray, List.set_cons_zero, List.set_cons_succ]
                refine wpAnyH_ready (rs := [6, 7]) (by kernel_rfl) (by simp) ?_
                refine AllReadyH.cons rfl (fun K hK => ?_) (AllReadyH.cons rfl (fun K hK => ?_) AllReadyH.nil)
                · as_aux_lemma =>
                    go_simp
                    (with_reducible refine (c6 _).mono ?_)
                    rintro e XV46 ⟨rfl, hbc⟩
                    replace h9 := h9.below hbc
                    refine hK.out _ _ (hHeld.trans (hbc.mono (by have := hHeld.size; have := HM5.out; omega))) (fun hHeld => ?_)
                    clear hbc hK K
                    try simp only [Act.put, List.getElem_toArray, List.getElem_cons_succ, List.getElem_cons_zero, List.setIfInBounds_toArray, List.set_cons_zero, List.set_cons_succ]
                    refine wpAnyH_ready (rs := [7]) (by kernel_rfl) (by simp) ?_
                    refine AllReadyH.cons rfl (fun K hK => ?_) AllReadyH.nil
                    go_simp
                    have h8 := Blk.new XV46 74 #[.slice none 0 0]
                    have hlr8 : M5 ≤ XV46.heap.size := (by have := hHeld.size; have := HM5.out; omega)
                    have hHN := hHeld.alloc hlr8 (.cells #[.slice none 0 0] 74)
                    have hne := h9.lt
                    replace h9 := h9.alloc (.cells #[.slice none 0 0] 74)
                    refine hK.out _ _ hHN (fun hHeld => ?_)
                    clear hHN hK K
                    try simp only [Act.put, List.getElem_toArray, List.getElem_cons_succ, List.getElem_cons_zero, List.setIfInBounds_toArray, List.set_cons_zero, List.set_cons_succ]
                    obtain ⟨r8, er8⟩ : ∃ r8, XV46.heap.size = r8 := ⟨_, rfl⟩
                    rw [er8] at h8 hlr8 hne
                    simp only [er8]
                    generalize XV46.alloc (.cells #[.slice none 0 0] 74) = YV47 at *
                    refine wpAnyH_ready (rs := [9]) (by kernel_rfl) (by simp) ?_
                    refine AllReadyH.cons rfl (fun K hK => ?_) AllReadyH.nil
                    have k0 := h8.cell_ (i := 0) rfl
                    have f0 := h8.frozen 0
                    go_simp
                    have hHN := hHeld.setCell (p := ⟨r8, 0, none⟩) hlr8 (.slice (some ⟨g, P0, none⟩) (m + 1) (N - P0))
                    replace h8 := h8.set 0 (.slice (some ⟨g, P0, none⟩) (m + 1) (N - P0))
                    replace h9 := h9.far (p := ⟨r8, 0, none⟩) (by simp only; omega) (.slice (some ⟨g, P0, none⟩) (m + 1) (N - P0))
                    clear k0 f0
                    refine hK.out _ _ hHN (fun hHeld => ?_)
                    clear hHN hK K
                    try simp only [Act.put, List.getElem_toArray, List.getElem_cons_succ, List.getElem_cons_zero, List.setIfInBounds_toArray, List.set_cons_zero, List.set_cons_succ]
                    generalize YV47.setCell ⟨r8, 0, none⟩ (.slice (some ⟨g, P0, none⟩) (m + 1) (N - P0)) = ZV48 at *
                    refine wpAnyH_ready (rs := [10]) (by kernel_rfl) (by simp) ?_
                    refine AllReadyH.cons rfl (fun K hK => ?_) AllReadyH.nil
                    have k0 := h9.cell_ (i := 0) rfl
                    have f0 := h9.frozen 0
                    go_simp
                    have hHN := hHeld.setCell (p := ⟨r9, 0, none⟩) hlr9 (.slice (some ⟨g, P1, none⟩) (m + 1) (N - P1))
                    replace h9 := h9.set 0 (.slice (some ⟨g, P1, none⟩) (m + 1) (N - P1))
                    replace h8 := h8.far (p := ⟨r9, 0, none⟩) (by simp only; omega) (.slice (some ⟨g, P1, none⟩) (m + 1) (N - P1))
                    clear k0 f0
                    refine hK.out _ _ hHN (fun hHeld => ?_)
                    clear hHN hK K
                    try simp only [Act.put, List.getElem_toArray, List.getElem_cons_succ, List.getElem_cons_zero, List.setIfInBounds_toArray, List.set_cons_zero, List.set_cons_succ]
                    generalize ZV48.setCell ⟨r9, 0, none⟩ (.slice (some ⟨g, P1, none⟩) (m + 1) (N - P1)) = ZV49 at *
                    exact wpAnyH_done (by kernel_rfl) ⟨r8, r9, rfl, by have := HSZW.out; have := HM5.out; omega, by have := HSZW.out; have := HM5.out; omega, by omega, h8, h9, hBd5.trans (hHeld.mono (by have := HSZW.out; have := HM5.out; omega))⟩ _
                · as_aux_lemma =>
                    go_simp
                    have h8 := Blk.new XV45 74 #[.slice none 0 0]
                    have hlr8 : M5 ≤ XV45.heap.size := (by have := hHeld.size; have := HM5.out; omega)
                    have hHN := hHeld.alloc hlr8 (.cells #[.slice none 0 0] 74)
                    have hne := h9.lt
                    replace h9 := h9.alloc (.cells #[.slice none 0 0] 74)
                    refine hK.out _ _ hHN (fun hHeld => ?_)
                    clear hHN hK K
                    try simp only [Act.put, List.getElem_toArray, List.getElem_cons_succ, List.getElem_cons_zero, List.setIfInBounds_toArray, List.set_cons_zero, List.set_cons_succ]
                    obtain ⟨r8, er8⟩ : ∃ r8, XV45.heap.size = r8 := ⟨_, rfl⟩
                    rw [er8] at h8 hlr8 hne
                    simp only [er8]
                    generalize XV45.alloc (.cells #[.slice none 0 0] 74) = YV50 at *
                    refine wpAnyH_ready (rs := [6]) (by kernel_rfl) (by simp) ?_
                    refine AllReadyH.cons rfl (fun K hK => ?_) AllReadyH.nil
                    go_simp
                    (with_reducible refine (c6 _).mono ?_)
                    rintro e XV51 ⟨rfl, hbc⟩
                    replace h8 := h8.below hbc
                    replace h9 := h9.below hbc
                    refine hK.out _ _ (hHeld.trans (hbc.mono (by have := hHeld.size; have := HM5.out; omega))) (fun hHeld => ?_)
                    clear hbc hK K
                    try simp only [Act.put, List.getElem_toArray, List.getElem_cons_succ, List.getElem_cons_zero, List.setIfInBounds_toArray, List.set_cons_zero, List.set_cons_succ]
                    refine wpAnyH_ready (rs := [9]) (by kernel_rfl) (by simp) ?_
                    refine AllReadyH.cons rfl (fun K hK => ?_) AllReadyH.nil
                    have k0 := h8.cell_ (i := 0) rfl
                    have f0 := h8.frozen 0
                    go_simp
                    have hHN := hHeld.setCell (p := ⟨r8, 0, none⟩) hlr8 (.slice (some ⟨g, P0, none⟩) (m + 1) (N - P0))
                    replace h8 := h8.set 0 (.slice (some ⟨g, P0, none⟩) (m + 1) (N - P0))
                    replace h9 := h9.far (p := ⟨r8, 0, none⟩) (by simp only; omega) (.slice (some ⟨g, P0, none⟩) (m + 1) (N - P0))
                    clear k0 f0
                    refine hK.out _ _ hHN (fun hHeld => ?_)
                    clear hHN hK K
                    try simp only [Act.put, List.getElem_toArray, List.getElem_cons_succ, List.getElem_cons_zero, List.setIfInBounds_toArray, List.set_cons_zero, List.set_cons_succ]
                    generalize XV51.setCell ⟨r8, 0, none⟩ (.slice (some ⟨g, P0, none⟩) (m + 1) (N - P0)) = ZV52 at *
                    refine wpAnyH_ready (rs := [10]) (by kernel_rfl) (by simp) ?_
                    refine AllReadyH.cons rfl (fun K hK => ?_) AllReadyH.nil
                    have k0 := h9.cell_ (i := 0) rfl
                    have f0 := h9.frozen 0
                    go_simp
                    have hHN := hHeld.setCell (p := ⟨r9, 0, none⟩) hlr9 (.slice (some ⟨g, P1, none⟩) (m + 1) (N - P1))
                    replace h9 := h9.set 0 (.slice (some ⟨g, P1, none⟩) (m + 1) (N - P1))
                    replace h8 := h8.far (p := ⟨r9, 0, none⟩) (by simp only; omega) (.slice (some ⟨g, P1, none⟩) (m + 1) (N - P1))
                    clear k0 f0
                    refine hK.out _ _ hHN (fun hHeld => ?_)
                    clear hHN hK K
                    try simp only [Act.put, List.getElem_toArray, List.getElem_cons_succ, List.getElem_cons_zero, List.setIfInBounds_toArray, List.set_cons_zero, List.set_cons_succ]
                    generalize ZV52.setCell ⟨r9, 0, none⟩ (.slice (some ⟨g, P1, none⟩) (m + 1) (N - P1)) = ZV53 at *
                    exact wpAnyH_done (by kernel_rfl) ⟨r8, r9, rfl, by have := HSZW.out; have := HM5.out; omega, by have := HSZW.out; have := HM5.out; omega, by omega, h8, h9, hBd5.trans (hHeld.mono (by have := HSZW.out; have := HM5.out; omega))⟩ _
            · as_aux_lemma =>
                go_simp
                have h8 := Blk.new YV44 74 #[.slice none 0 0]
                have hlr8 : M5 ≤ YV44.heap.size := (by have := hHeld.size; have := HM5.out; omega)
                have hHN := hHeld.alloc hlr8 (.cells #[.slice none 0 0] 74)
                have hne := h9.lt
                replace h9 := h9.alloc (.cells #[.slice none 0 0] 74)
                refine hK.out _ _ hHN (fun hHeld => ?_)
                clear hHN hK K
                try simp only [Act.put, List.getElem_toArray, List.getElem_cons_succ, List.getElem_cons_zero, List.setIfInBounds_toArray, List.set_cons_zero, List.set_cons_succ]
                obtain ⟨r8, er8⟩ : ∃ r8, YV44.heap.size = r8 := ⟨_, rfl⟩
                rw [er8] at h8 hlr8 hne
                simp only [er8]
                generalize YV44.alloc (.cells #[.slice none 0 0] 74) = YV54 at *
                refine wpAnyH_ready (rs := [2]) (by kernel_rfl) (by simp) ?_
                refine AllReadyH.cons rfl (fun K hK => ?_) AllReadyH.nil
                go_simp
                (with_reducible refine (c2 _).mono ?_)
                rintro e XV55 ⟨rfl, hbc⟩
                replace h8 := h8.below hbc
                replace h9 := h9.below hbc
                refine hK.out _ _ (hHeld.trans (hbc.mono (by have := hHeld.size; have := HM5.out; omega))) (fun hHeld => ?_)
                clear hbc hK K
                try simp only [Act.put, List.getElem_toArray, List.getElem_cons_succ, List.getElem_cons_zero, List.setIfInBounds_toArray, List.set_cons_zero, List.set_cons_succ]
                refine wpAnyH_ready (rs := [6]) (by kernel_rfl) (by simp) ?_
                refine AllReadyH.cons rfl (fun K hK => ?_) AllReadyH.nil
                go_simp
                (with_reducible refine (c6 _).mono ?_)
                rintro e XV56 ⟨rfl, hbc⟩
                replace h8 := h8.below hbc
                replace h9 := h9.below hbc
                refine hK.out _ _ (hHeld.trans (hbc.mono (by have := hHeld.size; have := HM5.out; omega))) (fun hHeld => ?_)
                clear hbc hK K
                try simp only [Act.put, List.getElem_toArray, List.getElem_cons_succ, List.getElem_cons_zero, List.setIfInBounds_toArray, List.set_cons_zero, List.set_cons_succ]
                refine wpAnyH_ready (rs := [9]) (by kernel_rfl) (by simp) ?_
                refine AllReadyH.cons rfl (fun K hK => ?_) AllReadyH.nil
                have k0 := h8.cell_ (i := 0) rfl
                have f0 := h8.frozen 0
                go_simp
                have hHN := hHeld.setCell (p := ⟨r8, 0, none⟩) hlr8 (.slice (some ⟨g, P0, none⟩) (m + 1) (N - P0))
                replace h8 := h8.set 0 (.slice (some ⟨g, P0, none⟩) (m + 1) (N - P0))
                replace h9 := h9.far (p := ⟨r8, 0, none⟩) (by simp only; omega) (.slice (some ⟨g, P0, none⟩) (m + 1) (N - P0))
                clear k0 f0
                refine hK.out _ _ hHN (fun hHeld => ?_)
                clear hHN hK K
                try simp only [Act.put, List.getElem_toArray, List.getElem_cons_succ, List.getElem_cons_zero, List.setIfInBounds_toArray, List.set_cons_zero, List.set_cons_succ]
                generalize XV56.setCell ⟨r8, 0, none⟩ (.slice (some ⟨g, P0, none⟩) (m + 1) (N - P0)) = ZV57 at *
                refine wpAnyH_ready (rs := [10]) (by kernel_rfl) (by simp) ?_
                refine AllReadyH.cons rfl (fun K hK => ?_) AllReadyH.nil
                have k0 := h9.cell_ (i := 0) rfl
                have f0 := h9.frozen 0
                go_simp
                have hHN := hHeld.setCell (p := ⟨r9, 0, none⟩) hlr9 (.slice (some ⟨g, P1, none⟩) (m + 1) (N - P1))
                replace h9 := h9.set 0 (.slice (some ⟨g, P1, none⟩) (m + 1) (N - P1))
                replace h8 := h8.far (p := ⟨r9, 0, none⟩) (by simp only; omega) (.slice (some ⟨g, P1, none⟩) (m + 1) (N - P1))
                clear k0 f0
                refine hK.out _ _ hHN (fun hHeld => ?_)
                clear hHN hK K
                try simp only [Act.put, List.getElem_toArray, List.getElem_cons_succ, List.getElem_cons_zero, List.setIfInBounds_toArray, List.set_cons_zero, List.set_cons_succ]
                generalize ZV57.setCell ⟨r9, 0, none⟩ (.slice (some ⟨g, P1, none⟩) (m + 1) (N - P1)) = ZV58 at *
                exact wpAnyH_done (by kernel_rfl) ⟨r8, r9, rfl, by have := HSZW.out; have := HM5.out; omega, by have := HSZW.out; have := HM5.out; omega, by omega, h8, h9, hBd5.trans (hHeld.mono (by have := HSZW.out; have := HM5.out; omega))⟩ _
      case rest5 =>
        clear c2 c6
        rintro e a' w5 hq5
        cases e <;> try exact hq5.elim
        obtain ⟨r8, r9, rfl, hr8, hr9, hr89, h8, h9, hB5⟩ := hq5
        unfold Fr5
        have hTr := hT.lt
        have hTlt := hTW.lt
        have hWb := hGW.size
        replace h3W := h3W.below hB5
        have h3c := h3W.cell_ (i := 0) rfl
        gi_wp2_with (first
          | (refine ⟨trivial, ?_⟩; gi_at_call 49; refine (CallsIn.inRound l (callsIn_wide.2 (sbackward_any _ _ _ _))).mono ?_; rintro e1 w1 ⟨rfl, rfl⟩))
        clear h3c
        have hA1 : Below w5.heap.size w5 (w5.alloc (.cells #[.slice B m d] 22)) := (Below.refl _ w5).alloc (Nat.le_refl _) _
        have hB1 : Below W.heap.size W (w5.alloc (.cells #[.slice B m d] 22)) := hB5.trans (hA1.mono hB5.size)
        have hbi := Blk.new w5 22 #[.slice B m d]
        replace h8 := h8.below hA1
        replace h9 := h9.below hA1
        have hq1 := hbq.below hB1
        have hrc1 : (w5.alloc (.cells #[.slice B m d] 22)).heap[l]? = some (.loop rc) := (hB1.block l (Array.getElem?_eq_some_iff.1 hrc).1).trans hrc
        have hT1 := hTW.below hB1
        have hBw1 : Below w.heap.size w (w5.alloc (.cells #[.slice B m d] 22)) := hBwW.trans (hB1.mono hBwW.size)
        obtain ⟨bi, ebi⟩ : ∃ bi, bi = w5.heap.size := ⟨_, rfl⟩
        have hbi5 := hB5.size
        have hszi : (w5.alloc (.cells #[.slice B m d] 22)).heap.size = w5.heap.size + 1 := by simp
        rw [← ebi] at hbi hszi hbi5 ⊢
        have hql := hbq.lt
        clear hA1 hB5 hbq hrc h3W hpW
        generalize w5.alloc (.cells #[.slice B m d] 22) = V1 at *
        clear ebi
        refine wpIn_rangeFunc_ownN (l₀ := l) (r₀ := rc) rfl hrc1 (by omega) (gf := 65) (lb := #[.pointer (some ⟨bi, 0, none⟩)]) rfl trivial (enters_of Try.func65 (by kernel_rfl) rfl)
          ((sb_stops (6 - 1 - 1 - 1) (by omega) bi w.heap.size B m d y hm (by omega) w V1 rfl (by omega) (OldK.below hBw1) (by omega) (hbi.cell_ (i := 0) rfl) HS.out).inRound l) (fun h k => KpB.trans h k) (fun W l o o' hl _ _ _ => KpB.put W l o' (by omega) (by omega)) (Below.refl _ _) (fun _ => rfl)
          (fun pre' W' => TabAt W' g n m (rowU x y i (pre'.map (·.val)) T0) ∧ V1.grownBy W' (some g))
          (fun _ _ _ => False)
          (tabI_own (Nat.le_refl _) _) (fun _ _ _ _ _ hs _ _ => hs) ⟨hT1, World.grownBy.refl _ _⟩
          (fun yj a'' _ => a'' = Fr6 A n c B m d N w g p bo q i z P0 P1 r8 r9 bi yj.val (y.getD yj.val []))
          (fun _ _ _ _ _ _ hs _ _ => hs)
          ?assign2 ?body2 ?done2 ?stop2
        case assign2 =>
          rintro l2 pre' yj W' K hi2 hK
          unfold Fr6 at hK
          have HK := hid hK
          clear hK
          unfold sbEnc strV
          generalize y.getD yj.val [] = u at *
          generalize yj.val = j at *
          gi_wp2
          exact HK.out _ _ (KeepsFrom.refl _ _) ⟨fun _ _ _ h => h, fun _ h => h⟩ hi2 rfl
        case body2 =>
          rintro l2 pre' yj a'' W' _ _ ⟨hT2, hG2⟩ rfl _
          have hjm := yj.isLt
          have h82 := gb_blk h8 hG2 (by omega)
          have h92 := gb_blk h9 hG2 (by omega)
          have hq2 := gb_blk hq1 hG2 (by omega)
          have HPI : Hid (∀ W'', TabAt W'' g n m (cellU x y i yj.val (rowU x y i (pre'.map (·.val)) T0)) → TabAt W'' g n m (rowU x y i ((pre' ++ [yj]).map (·.val)) T0)) := hid (fun W'' h => by rw [List.map_append]; exact (rowU_snoc x y i (pre'.map (·.val)) yj.val T0) ▸ h)
          generalize rowU x y i (pre'.map (·.val)) T0 = T2 at *
          unfold Fr6
          generalize hu9 : y.getD yj.val [] = u at *
          generalize yj.val = j at *
          have hcu := HCU.out T2 j u hu9
          obtain ⟨e11, e10, e01, e00⟩ := HT0.out W' T2 j hT2 hjm
          have hput := HTP.out W'.drew T2 j
          have f00 := hT2.frozen (P0 + j)
          generalize cellU x y i j T2 i j = v at *
          generalize T2 (i + 1) (j + 1) = t11 at *
          generalize T2 (i + 1) j = t10 at *
          generalize T2 i (j + 1) = t01 at *
          generalize T2 i j = t00 at *
          have hgb : W'.grownBy (W'.drew.setCell ⟨g, P0 + j, none⟩ (.int .i16 v)) (some g) := World.grownBy.trans (gb_below (below_drewD W')) (gb_set _ ⟨g, P0 + j, none⟩ _)
          have hfin : ownPostG V1.heap.size (KpB w.heap.size bi) (fun (pre' : List (Fin m)) W' => TabAt W' g n m (rowU x y i (pre'.map (·.val)) T0) ∧ V1.grownBy W' (some g)) (fun _ _ _ => False) (pre' ++ [yj]) W' .normal { tmps := #[], defers := [] } (W'.drew.setCell ⟨g, P0 + j, none⟩ (.int .i16 v)) :=
            ⟨gb_keeps hgb (by omega), gb_kp hgb (by omega) (by omega), HPI.out _ (hput v hT2 hjm rfl), World.grownBy.trans hG2 hgb⟩
          have HFIN := hid hfin
          have hj0 : (j : Int) < (m : Int) + 1 := by omega
          have hj1 : (j : Int) < (m : Int) := by omega
          have hj2 : (0 : Int) ≤ (j : Int) + 1 := by omega
          have hj3 : ((j : Int) + 1).toNat = j + 1 := by omega
          have hji : IntKind.i64.wrap ((j : Int) + 1) = (j : Int) + 1 := by rw [IntKind.wrap_i64]; omega
          have k8 := h82.cell_ (i := 0) rfl
          have k9 := h92.cell_ (i := 0) rfl
          have kq := hq2.cell_ (i := 0) rfl
          clear hfin hgb hput HPI HT0 HTP HPO HCU hu9 hT2 hG2 h82 h92 hq2 hl hrc1 hT1 hbi hq1 hBw1 h8 h9 hBwW hTW hGW hBw hT hpb hbo hb3 hb4 HP01
          by_cases hzu : z = u
          · subst hzu
            rw [if_pos rfl] at hcu
            subst hcu
            gi_wp2_with (fail)
            refine wpIn_round_tail 9 (by kernel_rfl) (by kernel_rfl) (by kernel_rfl) (fun ⟨_, _, h⟩ => h) ?_
            simp only [List.take_succ_cons, List.take_zero, List.drop_succ_cons, List.drop_zero]
            repeat still_step
            refine wpStill_nil ?_
            go_wp2_with (fail)
            exact HFIN.out
          · rw [if_neg hzu] at hcu
            subst hcu
            have hne : (z == u) = false := beq_eq_false_iff_ne.2 hzu
            gi_wp2_with (fail)
            refine wpIn_round_tail 13 (by kernel_rfl) (by kernel_rfl) (by kernel_rfl) (fun ⟨_, _, h⟩ => h) ?_
            simp only [List.take_succ_cons, List.take_zero, List.drop_succ_cons, List.drop_zero]
            repeat still_step
            refine wpStill_nil ?_
            go_wp2_with (fail)
            exact HFIN.out
        case done2 =>
          rintro ys W' hys ⟨hT2, hG2⟩
          have hWW : W.grownBy W' (some g) := World.grownBy.trans (gb_below hB1) hG2
          rw [hys] at hT2
          gi_wp2
          exact ⟨gb_keeps hWW (by omega), gb_kp hWW (by omega) (by omega), HPO.out _ hT2, World.grownBy.trans hGW hWW⟩
        case stop2 =>
          rintro c1 pre' W' _ h
          exact h.elim
    case done =>
      rintro D zs W hD hzs ⟨hT3, hG3⟩ hK
      have hp3 := gb_blk hpb hG3 (by omega)
      have h43 := gb_blk hb4 hG3 (by omega)
      have k0 := hp3.cell_ (i := 0) rfl
      have k1 := hp3.cell_ (i := 1) rfl
      have j0 := h43.cell_ (i := 0) rfl
      have j1 := h43.cell_ (i := 1) rfl
      have f0 := h43.frozen 0
      have f1 := h43.frozen 1
      have hBG : Below w.heap.size w W := hBw.grown hG3 (by have := hBw.size; omega) (fun k e => by cases e; omega)
      rw [hzs] at hT3
      gi_wp2
      have hb4n := (h43.set 0 (.int .i64 ((m : Int) + 1))).set 1 (.slice (some ⟨g, 0, none⟩) N N)
      have hTn := (hT3.far (p := ⟨w.heap.size + 1, 0, none⟩) (by simp only; omega) (.int .i64 ((m : Int) + 1))).far (p := ⟨w.heap.size + 1, 1, none⟩) (by simp only; omega) (.slice (some ⟨g, 0, none⟩) N N)
      have hBn := (hBG.setCell (p := ⟨w.heap.size + 1, 0, none⟩) (by simp) (.int .i64 ((m : Int) + 1))).setCell (p := ⟨w.heap.size + 1, 1, none⟩) (by simp) (.slice (some ⟨g, 0, none⟩) N N)
      have hD1 : D ≠ w.heap.size + 1 := by omega
      have hKn : ((W.setCell ⟨w.heap.size + 1, 0, none⟩ (.int .i64 ((m : Int) + 1))).setCell ⟨w.heap.size + 1, 1, none⟩ (.slice (some ⟨g, 0, none⟩) N N)).heap[D]? = some (.deferred (some [])) :=
        (Below.heap_setCell _ _ _ _ (by simp only; omega)).trans ((Below.heap_setCell _ _ _ _ (by simp only; omega)).trans hK)
      generalize (W.setCell ⟨w.heap.size + 1, 0, none⟩ (.int .i64 ((m : Int) + 1))).setCell ⟨w.heap.size + 1, 1, none⟩ (.slice (some ⟨g, 0, none⟩) N N) = Wf at *
      refine ⟨by simp, .inl ⟨_, _, rfl, run_takeDeferred hKn, ?_⟩⟩
      have hg4 := gb_blk hb4n (grownBy_putObj' Wf D (.deferred none)) (by omega)
      refine ⟨_, results_cell_row rfl _ _ (w.heap.size + 1) 76 _ (0, 0) _ rfl hg4 Try.underlying76 rfl (by kernel_rfl), g, rfl, ?_, ?_⟩
      · exact hTn.kept ((grownBy_putObj' Wf D (.deferred none)).block g hTn.lt (by simp only [ne_eq, Option.some.injEq]; omega))
      · exact hBn.trans (belowK_b (w := w) (Nat.le_refl _) Wf D _ _ (by omega) hKn rfl rfl)
    case stop =>
      rintro D c pre W _ _ h _
      exact h.elim
end Go.Proofs.Ytplcfdmehnilnaa

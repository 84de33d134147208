
/- lamport: the public sums of both sides of each bit, as a function tells them; the leaf's sum of them. -/
import Derived.Test.YtfdbgmnnahcejaaLam2
import Derived.Test.YtfdbgmnnahcejaaTag4
import Derived.Great.BuildSlice
namespace Go.Proofs.Ytfdbgmnnahcejaa
open Go.RowKit Go.Qc
attribute [local go_sem] txt_size txt_append ib_fold

/-- Both sides of each bit. -/
def sideL (F : Nat → Nat → List UInt8) (n : Nat) : List (List UInt8) := (List.range n).flatMap fun b => [F b 0, F b 1]
theorem sideL_succ (F : Nat → Nat → List UInt8) (n : Nat) : sideL F (n + 1) = sideL F n ++ [F n 0, F n 1] := by
  simp [sideL, List.range_succ, List.flatMap_append]
theorem sideL_length (F : Nat → Nat → List UInt8) (n : Nat) : (sideL F n).length = 2 * n := by
  induction n with
  | zero => rfl
  | succ n ih => rw [sideL_succ, List.length_append, ih]; simp; omega
theorem sideL_32 (F : Nat → Nat → List UInt8) (hF : ∀ b s, (F b s).length = 32) (n : Nat) : ∀ x ∈ sideL F n, x.length = 32 := by
  intro x hx
  simp only [sideL, List.mem_flatMap, List.mem_cons, List.not_mem_nil, or_false] at hx
  obtain ⟨b, _, h | h⟩ := hx <;> rw [h] <;> exact hF _ _

/-! ### a slice literal of ids -/
theorem put_get (off : Nat) : ∀ (l : List Value) (k : Nat) (cs : Array Value), off + k + l.length ≤ cs.size →
    ((l.zipIdx k).foldl (fun cs x => cs.setIfInBounds (off + x.2) x.1) cs).size = cs.size ∧ ∀ i, ((l.zipIdx k).foldl (fun cs x => cs.setIfInBounds (off + x.2) x.1) cs)[i]? = if off + k ≤ i ∧ i < off + k + l.length then l[i - off - k]? else cs[i]?
  | [], k, cs, _ => ⟨rfl, fun i => by simp; omega⟩
  | v :: l, k, cs, h => by
    simp only [List.length_cons] at h
    obtain ⟨h1, h2⟩ := put_get off l (k + 1) (cs.setIfInBounds (off + k) v) (by simp; omega)
    rw [List.zipIdx_cons, List.foldl_cons]
    refine ⟨by rw [h1]; simp, fun i => ?_⟩
    rw [h2]
    simp only [List.length_cons]
    by_cases c1 : off + (k + 1) ≤ i ∧ i < off + (k + 1) + l.length
    · rw [if_pos c1, if_pos (by omega), show i - off - k = (i - off - (k + 1)) + 1 by omega, List.getElem?_cons_succ]
    · rw [if_neg c1, Array.getElem?_setIfInBounds]
      by_cases c2 : off + k = i
      · subst c2
        rw [if_pos rfl, if_pos (by omega), if_pos (by omega), show off + k - off - k = 0 by omega]; rfl
      · rw [if_neg c2, if_neg (by omega)]
theorem put_get_arr (off : Nat) (X : List UInt8) (cs : Array Value) (h : off + X.length ≤ cs.size) :
    ((idVals X).zipIdx.foldl (fun cs (c, j) => cs.setIfInBounds (off + j) c) cs).size = cs.size ∧ ∀ i, ((idVals X).zipIdx.foldl (fun cs (c, j) => cs.setIfInBounds (off + j) c) cs)[i]? = if off ≤ i ∧ i < off + X.length then (X.map u8v)[i - off]? else cs[i]? := by
  have := put_get off (X.map u8v) 0 cs (by rw [List.length_map]; omega)
  rw [List.length_map, Nat.add_zero, show ((X.map u8v).zipIdx 0).foldl (fun cs x => cs.setIfInBounds (off + x.2) x.1) cs = (idVals X).zipIdx.foldl (fun cs (c, j) => cs.setIfInBounds (off + j) c) cs by unfold idVals; simp] at this
  exact this
theorem wpList_build2 {w : World} {ops : Array Oper} {rest : List Oper} {o : Oper} {a : Act} {Q : Exit → Act → World → Prop} (hgd : o.guard = none) (x y : Operand) (ho : o.op = .buildSlice 22 2 #[(0, x), (1, y)])
    (X Y : List UInt8) (lx : X.length = 32) (ly : Y.length = 32) (hx : a.eval x = .agg (idVals X)) (hy : a.eval y = .agg (idVals Y))
    (h : ∀ cs, (∀ j u, (X.map u8v ++ Y.map u8v)[j]? = some u → (w.alloc (.cells cs 24)).cell? ((⟨w.heap.size, 0, none⟩ : Addr).add j) = some u) → wpList Try.prog ops Q rest (a.put o.dst (.slice (some ⟨w.heap.size, 0, none⟩) 2 2)) (w.alloc (.cells cs 24))) :
    wpList Try.prog ops Q (o :: rest) a w := by
  obtain ⟨j0, hj, hjz, hjs, hjb⟩ := infoId2_parts
  obtain ⟨zs, hzs⟩ : ∃ zs : Array Value, zs = (Array.range (2 * j0.size)).map ((Value.agg (idVals zeroB)).cells[· % (Value.agg (idVals zeroB)).cells.size]!) := ⟨_, rfl⟩
  have hz : zs.size = 64 := by rw [hzs, hjs]; simp
  obtain ⟨s1, g1⟩ := put_get_arr 0 X zs (by rw [hz, lx]; decide)
  generalize hc1 : (idVals X).zipIdx.foldl (fun cs (c, j) => cs.setIfInBounds (0 + j) c) zs = c1 at s1 g1
  obtain ⟨s2, g2⟩ := put_get_arr 32 Y c1 (by rw [s1, hz, ly]; decide)
  generalize hc2 : (idVals Y).zipIdx.foldl (fun cs (c, j) => cs.setIfInBounds (32 + j) c) c1 = c2 at s2 g2
  refine wpList_buildSlice hgd 22 24 2 #[(0, x), (1, y)] ho c2 j0 (.agg (idVals zeroB)) Try.underlying22 hj hjz (by rw [hjs]; decide) (by rw [hjs]; decide) ?_ (h c2 ?_)
  · rw [← hzs, hjs]
    have e1 : (Value.agg (idVals X)).cells = idVals X := rfl
    have e2 : (Value.agg (idVals Y)).cells = idVals Y := rfl
    simp only [List.map_toArray, List.map_cons, List.map_nil, hx, hy, Instr.fill, e1, e2, idVals_size, lx, ly, hz]
    rw [if_neg (by decide)]
    simp only [Nat.zero_mul, Nat.one_mul]
    rw [hc1, s1, hz, if_neg (by decide), hc2]
  · intro j u hj'
    have hlt : j < 64 := by have := (List.getElem?_eq_some_iff.1 hj').1; simp [lx, ly] at this; omega
    rw [Addr.add_lit, Nat.zero_add, cell_of_row _ _ j _ _ _ (heap_alloc_new w _), g2, ly]
    by_cases c : 32 ≤ j
    · rw [if_pos (by omega), ← hj', List.getElem?_append_right (by rw [List.length_map, lx]; exact c), List.length_map, lx]
    · rw [if_neg (by omega), g1, lx, if_pos (by omega), ← hj', List.getElem?_append_left (by rw [List.length_map, lx]; omega), Nat.sub_zero]
theorem wpList_build1 {w : World} {ops : Array Oper} {rest : List Oper} {o : Oper} {a : Act} {Q : Exit → Act → World → Prop} (hgd : o.guard = none) (x : Operand) (ho : o.op = .buildSlice 22 1 #[(0, x)])
    (X : List UInt8) (lx : X.length = 32) (hx : a.eval x = .agg (idVals X))
    (h : ∀ cs, (∀ j u, (X.map u8v)[j]? = some u → (w.alloc (.cells cs 24)).cell? ((⟨w.heap.size, 0, none⟩ : Addr).add j) = some u) → wpList Try.prog ops Q rest (a.put o.dst (.slice (some ⟨w.heap.size, 0, none⟩) 1 1)) (w.alloc (.cells cs 24))) :
    wpList Try.prog ops Q (o :: rest) a w := by
  obtain ⟨j0, hj, hjz, hjs, hjb⟩ := infoId2_parts
  obtain ⟨zs, hzs⟩ : ∃ zs : Array Value, zs = (Array.range (1 * j0.size)).map ((Value.agg (idVals zeroB)).cells[· % (Value.agg (idVals zeroB)).cells.size]!) := ⟨_, rfl⟩
  have hz : zs.size = 32 := by rw [hzs, hjs]; simp
  obtain ⟨s1, g1⟩ := put_get_arr 0 X zs (by rw [hz, lx]; decide)
  generalize hc1 : (idVals X).zipIdx.foldl (fun cs (c, j) => cs.setIfInBounds (0 + j) c) zs = c1 at s1 g1
  refine wpList_buildSlice hgd 22 24 1 #[(0, x)] ho c1 j0 (.agg (idVals zeroB)) Try.underlying22 hj hjz (by rw [hjs]; decide) (by rw [hjs]; decide) ?_ (h c1 ?_)
  · rw [← hzs, hjs]
    have e1 : (Value.agg (idVals X)).cells = idVals X := rfl
    simp only [List.map_toArray, List.map_cons, List.map_nil, hx, Instr.fill, e1, idVals_size, lx, hz]
    rw [if_neg (by decide)]
    simp only [Nat.zero_mul]
    rw [hc1]
  · intro j u hj'
    have hlt : j < 32 := by have := (List.getElem?_eq_some_iff.1 hj').1; simp [lx] at this; omega
    rw [Addr.add_lit, Nat.zero_add, cell_of_row _ _ j _ _ _ (heap_alloc_new w _), g1, lx, if_pos (by omega), ← hj', Nat.sub_zero]

set_option maxRecDepth 100000 in
set_option maxHeartbeats 20000000 in
theorem sides_any (g : Nat) (cap : Array Value) (F : Nat → Nat → List UInt8) (hF32 : ∀ b s, (F b s).length = 32) (n : Nat) (hn : n ≤ 1000) (w : World) (hg : ∀ args W, (callFunc g args).run Try.prog W = .ok (.enter g args) W)
    (hF : ∀ W, Below w.heap.size w W → ∀ b : Nat, b < n → (Calls Try.prog g (#[.int .i64 b, .int .i64 0] ++ cap) W fun e w' => e = .returned (.agg (idVals (F b 0))) ∧ Below W.heap.size W w') ∧ (Calls Try.prog g (#[.int .i64 b, .int .i64 1] ++ cap) W fun e w' => e = .returned (.agg (idVals (F b 1))) ∧ Below W.heap.size W w')) :
    Calls Try.prog 183 #[.int .i64 n, .func (.func g) #[] cap] w fun e w' => ∃ v, e = .returned v ∧ w'.ownsRow w.heap.size 24 32 v (2 * n) (idsV (sideL F n)) ∧ Below w.heap.size w w' := by
  obtain ⟨j0, hj, hjz, hjs, hjb⟩ := infoId2_parts
  go_enter Try.func183, Try.ntmps183
  go_wp2_with (at_make; refine wpList_make_own _ rfl _ _ 22 rfl w.heap.size 24 j0 (.agg (idVals zeroB)) 32 Try.underlying22 hj hjz hjs _ _ _ (2 * n) rfl rfl ?c1 ?c2 ?c3 (Nat.le_refl _) ?_)
  case c1 => omega
  case c2 => rw [hjb]; omega
  case c3 => unfold maxLen; omega
  intro w1 hown1 hg1
  have hb1 : Below w.heap.size w w1 := (Below.refl _ w).grown hg1 (Nat.le_refl _) (by intro i e; cases e)
  clear hg1
  go_wp2
  go_loopw [5, 11] (fun v i wr => ∃ k : Nat, k ≤ n ∧ i = .int .i64 k ∧ wr.ownsRow w.heap.size 24 32 v (2 * k) (idsV (sideL F k)) ∧ Below w.heap.size w wr) (fun _ i _ => n - (intOf i).toNat)
  case atStart => exact ⟨0, by omega, rfl, hown1, hb1⟩
  case round =>
    obtain ⟨k, hk, rfl, hown, hb⟩ := hrel
    clear hown1 hb1
    by_cases hlt : k < n
    · have b1 : (k : Int) < n := by omega
      have c0 := (hF wr hb k hlt).1
      obtain ⟨X, hX⟩ : ∃ X, X = F k 0 := ⟨_, rfl⟩
      obtain ⟨Y, hY⟩ : ∃ Y, Y = F k 1 := ⟨_, rfl⟩
      have lx : X.length = 32 := by rw [hX]; exact hF32 _ _
      have ly : Y.length = 32 := by rw [hY]; exact hF32 _ _
      have c1 := fun W h => (hF W h k hlt).2
      rw [← hX] at c0
      rw [← hY] at c1
      have hS := sideL_succ F k
      rw [← hX, ← hY] at hS
      have HS := hid hS
      clear hS hX hY
      go_wp2_with (first
        | ((with_reducible refine c0.mono ?_); rintro e2 w2 ⟨rfl, hb2⟩; replace hb := hb.trans (hb2.mono hb.size); replace hown := own_below hown hb2)
        | ((with_reducible refine (c1 _ hb).mono ?_); rintro e3 w3 ⟨rfl, hb3⟩; replace hb := hb.trans (hb3.mono hb.size); replace hown := own_below hown hb3)
        | ((with_reducible refine wpList_build2 rfl _ _ rfl X Y lx ly rfl rfl ?_); intro cs hcs)
        | (at_builtin; refine wpList_append_own _ rfl _ _ 22 rfl w.heap.size 24 j0 (.agg (idVals zeroB)) 32 32 Try.underlying22 hj hjz hjs hjb rfl (by decide) _ _ _ rfl (hown.alloc _) ⟨w3.heap.size, 0, none⟩ 2 2 (X.map u8v ++ Y.map u8v) rfl ?l1 hcs ?l5 ?l2 ?l3 ?l4 ?_))
      case l1 => rw [List.length_append, List.length_map, List.length_map, lx, ly]
      case l5 => intro u hu; rcases List.mem_append.1 hu with hu | hu <;> exact u8v_one _ u hu
      case l2 => unfold maxLen; omega
      case l3 => omega
      case l4 => (try simp); have := hb.size; omega
      intro v8 w8 hown8 hg8 _
      have hB8 := (hb.alloc hb.size _).grown hg8 (hb.alloc hb.size _).size (fun k hk => (hown.lt k hk).1)
      clear hg8
      go_wp2
      go_roundw
      case rel => exact ⟨k + 1, hlt, by go_num, (by rw [HS.out, idsV_append, show idsV [X, Y] = X.map u8v ++ Y.map u8v by simp [idsV], show 2 * (k + 1) = 2 * k + 2 by omega]; exact hown8), hB8⟩
      case measure => simp [intOf]; omega
    · obtain rfl : k = n := by omega
      have b1 : ¬ (k : Int) < k := by omega
      go_wp2
      go_ret
      exact ⟨_, rfl, hown, hb⟩
end Go.Proofs.Ytfdbgmnnahcejaa

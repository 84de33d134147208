
/- disk: bytes of 0 put behind a row of one's own. -/
import Derived.Test.YtkbokffonnjjiaaId7
set_option linter.unusedSimpArgs false
set_option linter.unusedVariables false
namespace Go.Proofs.Ytkbokffonnjjiaa
open Go.RowKit Go.Qc Go.Shelf
theorem zeroCells_list (z : Value) (n : Nat) : (Builtin.zeroCells #[z] n).toList = List.replicate n z := by
  apply List.ext_getElem?
  intro j
  by_cases h : j < n
  · simp [Builtin.zeroCells, List.getElem?_replicate, List.getElem?_range h, Nat.mod_one, h]
  · simp [Builtin.zeroCells, List.getElem?_replicate, List.getElem?_eq_none (show (List.range n).length ≤ j by simp; omega), h]
section
variable (w : World)
theorem wrap_k {k : Nat} (h : k ≤ 1000000000000) : IntKind.i64.wrap (k : Int) = (k : Int) := by rw [IntKind.wrap_i64]; omega
theorem run_zeros_nil (ty : TypeId) (k : Nat) (hk : 0 < k) (hb : k ≤ 1000000000) :
    (Builtin.append_ #[107, 3] ty #[.slice none 0 0, .int .i64 (k : Int)]).run Try.prog w =
      .ok (.slice (some ⟨w.heap.size, 0, none⟩) k (grownCap w k 0 5)) (w.drew.alloc (.cells (Builtin.zeroCells #[.int .u8 0] k ++ Builtin.zeroCells #[.int .u8 0] (grownCap w k 0 5 - k)) 5)) := by
  obtain ⟨i0, hi, hz, hs, hby⟩ := info_parts infoByte
  have hn : k ≠ 0 := by omega
  have h63 : ¬ (9223372036854775807 < (k : Int)) := by omega
  have h48 : ¬ (281474976710656 < Builtin.nextslicecap k 0) := by rw [nextslicecap_zero hk]; omega
  have hw := wrap_k (k := k) (by omega)
  have h0 : ¬ ((k : Int) < 0) := by omega
  have h4 : ¬ ((281474976710656 : Int) < (k : Int)) := by omega
  simp [Builtin.append_, run_underlying Try.underlying107, run_underlying Try.underlying3, sizeOf, typeInfo, zeroValue, hi, hz, hs, hby, asInt, asIntOf, hw, h0, h4, hn, h63, h48, Question.forced, run_firstCells_none, newRow, grownCap, Value.cells]
theorem run_zeros_room (ty : TypeId) (g n c : Nat) (cur : Array Value) (hg : w.heap[g]? = some (.cells cur 5 (0, 0))) (k : Nat) (hk : 0 < k) (hb : k ≤ 1000000000) (hroom : n + k ≤ c) (hfit : n + k ≤ cur.size) :
    (Builtin.append_ #[107, 3] ty #[.slice (some ⟨g, 0, none⟩) n c, .int .i64 (k : Int)]).run Try.prog w =
      .ok (.slice (some ⟨g, 0, none⟩) (n + k) c) (w.setRow g (cur.toList.take n ++ List.replicate k (Value.int .u8 0) ++ cur.toList.drop (n + k)).toArray) := by
  obtain ⟨i0, hi, hz, hs, hby⟩ := info_parts infoByte
  have hn : k ≠ 0 := by omega
  have hw := wrap_k (k := k) (by omega)
  have h0 : ¬ ((k : Int) < 0) := by omega
  have h4 : ¬ ((281474976710656 : Int) < (k : Int)) := by omega
  have hst := run_storeCells_at Try.prog g n 5 (List.replicate k (.int .u8 0)) 0 cur w hg (by simpa using hfit) (by intro u hu; rw [List.eq_of_mem_replicate hu]; rfl)
  simp only [Nat.add_zero] at hst
  simp [Builtin.append_, run_underlying Try.underlying107, run_underlying Try.underlying3, sizeOf, typeInfo, zeroValue, hi, hz, hs, hby, asInt, asIntOf, hw, h0, h4, hn, hroom, Addr.add_lit, Value.cells, zeroCells_list, hst]
theorem run_zeros_grow (ty : TypeId) (g n c : Nat) (olds : List Value) (hlo : olds.length = n) (holds : ∀ j v, olds[j]? = some v → w.cell? ((⟨g, 0, none⟩ : Addr).add j) = some v) (k : Nat) (hk : 0 < k) (hb : n + k ≤ 1000000000) (hroom : c < n + k) :
    (Builtin.append_ #[107, 3] ty #[.slice (some ⟨g, 0, none⟩) n c, .int .i64 (k : Int)]).run Try.prog w =
      .ok (.slice (some ⟨w.heap.size, 0, none⟩) (n + k) (grownCap w (n + k) c 5)) (w.drew.alloc (.cells (olds.toArray ++ Builtin.zeroCells #[.int .u8 0] k ++ Builtin.zeroCells #[.int .u8 0] (grownCap w (n + k) c 5 - (n + k))) 5)) := by
  obtain ⟨i0, hi, hz, hs, hby⟩ := info_parts infoByte
  have hn : k ≠ 0 := by omega
  have hnc : ¬ (n + k ≤ c) := by omega
  have hw := wrap_k (k := k) (by omega)
  have h0 : ¬ ((k : Int) < 0) := by omega
  have h4 : ¬ ((281474976710656 : Int) < (k : Int)) := by omega
  have h63 : ¬ (9223372036854775807 < ((n : Int) + (k : Int))) := by omega
  have h48 : ¬ (281474976710656 < Builtin.nextslicecap (n + k) c) := by
    have := growslice_fits (need := n + k) (old := c) (bytes := 1) hroom (by omega)
    omega
  have hfo := run_firstCells_some (P := Try.prog) w.drew 1 n ⟨g, 0, none⟩ n c olds (by omega) (by simpa using holds)
  simp [Builtin.append_, run_underlying Try.underlying107, run_underlying Try.underlying3, sizeOf, typeInfo, zeroValue, hi, hz, hs, hby, asInt, asIntOf, hw, h0, h4, hn, hnc, h63, h48, Question.forced, hfo, newRow, grownCap, Value.cells]
/-- So many bytes of 0 put behind a row of one's own. -/
theorem run_zeros_own (ty : TypeId) (base : Nat) (v : Value) (n : Nat) (xs : List Value) (hown : w.ownsRow base 5 1 v n xs) (k : Nat) (hk : 0 < k) (hb : n + k ≤ 1000000000) (hbase : base ≤ w.heap.size) :
    ∃ v' w', (Builtin.append_ #[107, 3] ty #[v, .int .i64 (k : Int)]).run Try.prog w = .ok v' w' ∧ w'.ownsRow base 5 1 v' (n + k) (xs ++ List.replicate k (.int .u8 0)) ∧ w.grownBy w' v.ownBlock ∧ (v'.ownBlock = v.ownBlock ∨ v'.ownBlock = some w.heap.size) := by
  have hx : xs.length = n := by have := hown.1; omega
  have hlen : (xs ++ List.replicate k (Value.int .u8 0)).length = (n + k) * 1 := by simp [hx]
  have grown : ∀ (old : Nat) (row : Option Nat) (cells : Array Value), old < n + k → cells.toList = xs ++ List.replicate k (Value.int .u8 0) → 
      (w.drew.alloc (.cells (cells ++ Builtin.zeroCells #[.int .u8 0] (grownCap w (n + k) old 5 - (n + k))) 5)).ownsRow base 5 1 (.slice (some ⟨w.heap.size, 0, none⟩) (n + k) (grownCap w (n + k) old 5)) (n + k) (xs ++ List.replicate k (.int .u8 0)) ∧
      w.grownBy (w.drew.alloc (.cells (cells ++ Builtin.zeroCells #[.int .u8 0] (grownCap w (n + k) old 5 - (n + k))) 5)) row := by
    intro old row cells ho hc
    have hge := grownCap_ge w (n + k) old 5
    have hcm : grownCap w (n + k) old 5 ≤ maxLen := grownCap_le_maxLen w (n + k) old _ (by unfold maxLen; omega)
    have hsz : cells.size = n + k := by rw [← Array.length_toList, hc, hlen]; omega
    refine ⟨⟨hlen, .inr ⟨w.heap.size, _, _, rfl, hbase, heap_alloc_new w.drew _, hge, hcm, ?_, ?_⟩⟩, ⟨rfl, rfl, rfl, by simp, fun j hj _ => heap_alloc_old w.drew _ hj⟩⟩
    · simp only [Array.size_append, size_zeroCells, hsz]
      simp
      omega
    · simp only [Array.toList_append, hc]
      rw [← hlen]
      exact List.take_left
  rcases hown.2 with ⟨rfl, rfl⟩ | ⟨g, cap, cur, rfl, hbg, hg, hnc, hcm, hcs, htake⟩
  · have hx0 : xs = [] := List.eq_nil_of_length_eq_zero hx
    subst hx0
    have hr := run_zeros_nil w ty k hk (by omega)
    have hgr := grown 0 (Value.ownBlock (.slice none 0 0)) (Builtin.zeroCells #[.int .u8 0] k) (by omega) (by rw [zeroCells_list]; rfl)
    simp only [Nat.zero_add] at hgr ⊢
    exact ⟨_, _, hr, hgr.1, hgr.2, .inr rfl⟩
  · by_cases hroom : n + k ≤ cap
    · have hfit : n + k ≤ cur.size := by rw [hcs]; omega
      have hr := run_zeros_room w ty g n cap cur hg k hk (by omega) hroom hfit
      refine ⟨_, _, hr, ⟨hlen, .inr ⟨g, cap, _, rfl, hbg, setRow_heap w g cur _ _ _ hg, hroom, hcm, ?_, ?_⟩⟩, ⟨rfl, rfl, rfl, by simp, fun k _ hk => setRow_other w g k _ (fun e => hk (by simp [Value.ownBlock, e]))⟩, .inl rfl⟩
      · simp only [List.size_toArray, List.length_append, List.length_take, List.length_drop, Array.length_toList, List.length_replicate]
        omega
      · have h9 : cur.toList.take n = xs := by rw [← htake, Nat.mul_one]
        rw [h9, ← hlen]
        exact List.take_left
    · have holds : ∀ j u, xs[j]? = some u → w.cell? ((⟨g, 0, none⟩ : Addr).add j) = some u := hown.cells (g := g) rfl
      have hr := run_zeros_grow w ty g n cap xs hx holds k hk hb (by omega)
      have hgr := grown cap (Value.ownBlock (.slice (some ⟨g, 0, none⟩) n cap)) (xs.toArray ++ Builtin.zeroCells #[.int .u8 0] k) (by omega) (by rw [Array.toList_append, zeroCells_list])
      exact ⟨_, _, hr, hgr.1, hgr.2, .inr rfl⟩
end
theorem wpList_append_zeros {w : World} {ops : Array Oper} {rest : List Oper} {o : Oper} {a : Act} {Q : Exit → Act → World → Prop} (hgd : o.guard = none) (s x : Operand)
    (ho : o.op = .call { callee := .builtin .append, args := #[s, x], argTypes := #[107, 3] })
    (base : Nat) (v : Value) (n : Nat) (xs : List Value) (hs : a.eval s = v) (hown : w.ownsRow base 5 1 v n xs) (k : Nat) (hx : a.eval x = .int .i64 (k : Int)) (hk : 0 < k) (hb : n + k ≤ 1000000000) (hbase : base ≤ w.heap.size)
    (h : ∀ v' w', w'.ownsRow base 5 1 v' (n + k) (xs ++ List.replicate k (.int .u8 0)) → w.grownBy w' v.ownBlock → (v'.ownBlock = v.ownBlock ∨ v'.ownBlock = some w.heap.size) → wpList Try.prog ops Q rest (a.put o.dst v') w') : wpList Try.prog ops Q (o :: rest) a w := by
  refine wpList_plain hgd fun K hK => ?_
  obtain ⟨v', w', hr, h2, h3, h4⟩ := run_zeros_own w o.type base v n xs hown k hk hb hbase
  unfold Oper.wp execOp
  simp only [ho, resolve, invoke, builtin, Sem.run_bind, Sem.run_pure, Result.andThen_ok, List.map_toArray, List.map_cons, List.map_nil, hs, hx, hr]
  exact hK _ _ (h v' w' h2 h3 h4)
end Go.Proofs.Ytkbokffonnjjiaa

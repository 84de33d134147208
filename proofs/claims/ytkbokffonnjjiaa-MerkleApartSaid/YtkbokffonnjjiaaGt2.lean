
/- ids: rows that are cut anywhere, and put behind one's own. -/
import Derived.Test.YtkbokffonnjjiaaGs1
import Derived.Deep.DeepCutAuto
import Derived.Laws.StructEq
import Derived.Test.YtkbokffonnjjiaaKit4
import Derived.Deep.RegionHeld3
import Derived.Test.YtkbokffonnjjiaaId8
import Derived.Test.YtkbokffonnjjiaaId9
set_option linter.unusedSimpArgs false
set_option linter.unusedVariables false
namespace Go.Proofs.Ytkbokffonnjjiaa
open Go.RowKit Go.Qc

/-- A row that came in: it is read, and its cap is known. -/
def RowC (w : World) (A : Option Addr) (n c : Nat) (l : List (List UInt8)) : Prop := RowR w A n l ∧ ((A = none ∧ n = 0 ∧ c = 0) ∨ ((∃ a, A = some a) ∧ n ≤ c ∧ c ≤ maxLen))
theorem RowC.below {w w' : World} {A : Option Addr} {n c : Nat} {l : List (List UInt8)} (h : RowC w A n c l) (hb : Below w.heap.size w w') : RowC w' A n c l := ⟨h.1.below hb, h.2⟩
theorem slice_nil_lo (W : World) : (Instr.sliceAt 22 (.slice none 0 0) (some (.int .i64 0)) none none).run Try.prog W = .ok (.slice none 0 0) W := by
  obtain ⟨i0, hi, h32, _⟩ := infoId_parts
  simp [Instr.sliceAt, Instr.slice, Instr.sliceBounds, run_underlying Try.underlying22, run_sliceBound, sizeOf, typeInfo, hi, h32]
theorem slice_nil_hi (W : World) : (Instr.sliceAt 22 (.slice none 0 0) none (some (.int .i64 0)) none).run Try.prog W = .ok (.slice none 0 0) W := by
  obtain ⟨i0, hi, h32, _⟩ := infoId_parts
  simp [Instr.sliceAt, Instr.slice, Instr.sliceBounds, run_underlying Try.underlying22, run_sliceBound, sizeOf, typeInfo, hi, h32]
theorem slice_zero_lo (a : Addr) (c : Nat) : ∃ X : Addr, ∀ W : World, (Instr.sliceAt 22 (.slice (some a) 0 c) (some (.int .i64 0)) none none).run Try.prog W = .ok (.slice (some X) 0 c) W := by
  obtain ⟨i0, hi, h32, _⟩ := infoId_parts
  by_cases h : c = 0
  · subst h
    refine ⟨a, fun W => ?_⟩
    simp [Instr.sliceAt, Instr.slice, Instr.sliceBounds, run_underlying Try.underlying22, run_sliceBound, sizeOf, typeInfo, hi, h32]
  · have h2 : ¬ 0 = c := by omega
    refine ⟨a.add 0, fun W => ?_⟩
    simp [Instr.sliceAt, Instr.slice, Instr.sliceBounds, run_underlying Try.underlying22, run_sliceBound, sizeOf, typeInfo, hi, h32, h, h2]
theorem slice_zero_hi (a : Addr) (c : Nat) : ∃ X : Addr, ∀ W : World, (Instr.sliceAt 22 (.slice (some a) 0 c) none (some (.int .i64 0)) none).run Try.prog W = .ok (.slice (some X) 0 c) W := by
  obtain ⟨i0, hi, h32, _⟩ := infoId_parts
  by_cases h : c = 0
  · subst h
    refine ⟨a, fun W => ?_⟩
    simp [Instr.sliceAt, Instr.slice, Instr.sliceBounds, run_underlying Try.underlying22, run_sliceBound, sizeOf, typeInfo, hi, h32]
  · have h2 : ¬ 0 = c := by omega
    refine ⟨a.add 0, fun W => ?_⟩
    simp [Instr.sliceAt, Instr.slice, Instr.sliceBounds, run_underlying Try.underlying22, run_sliceBound, sizeOf, typeInfo, hi, h32, h, h2]
theorem slice_hi_ids (g o n c m : Nat) (hm : m ≤ c) (W : World) : (Instr.sliceAt 22 (.slice (some ⟨g, o, none⟩) n c) none (some (.int .i64 (m : Int))) none).run Try.prog W = .ok (.slice (some ⟨g, o, none⟩) m c) W := by
  obtain ⟨i0, hi, _, _⟩ := infoId_parts
  have h1 : (0 : Int) ≤ (m : Int) ∧ (m : Int) ≤ (c : Int) := by omega
  simp [Instr.sliceAt, Instr.slice, Instr.sliceBounds, run_underlying Try.underlying22, run_sliceBound, h1, sizeOf, typeInfo, hi, Addr.add_lit, Int.toNat_natCast]
theorem slice_lo_ids (g o n c m : Nat) (hm : m < n) (hc : n ≤ c) (W : World) : (Instr.sliceAt 22 (.slice (some ⟨g, o, none⟩) n c) (some (.int .i64 (m : Int))) none none).run Try.prog W = .ok (.slice (some ⟨g, o + m * 32, none⟩) (n - m) (c - m)) W := by
  obtain ⟨i0, hi, h32, _⟩ := infoId_parts
  have h1 : (0 : Int) ≤ (m : Int) ∧ (m : Int) ≤ (n : Int) := by omega
  have h2 : ¬ (m = c) := by omega
  simp [Instr.sliceAt, Instr.slice, Instr.sliceBounds, run_underlying Try.underlying22, run_sliceBound, h1, sizeOf, typeInfo, hi, h32, Addr.add_lit, Int.toNat_natCast]
  omega
/-- A row's end and its beginning. -/
theorem RowC.parts {w : World} {A : Option Addr} {n c : Nat} {l : List (List UInt8)} (h : RowC w A n c l) (k : Nat) (hk : k < n ∨ (k = 0 ∧ n = 0)) :
    ∃ A1 c1 A2 c2, (∀ W, (Instr.sliceAt 22 (.slice A n c) (some (.int .i64 (k : Int))) none none).run Try.prog W = .ok (.slice A1 (n - k) c1) W) ∧ (∀ W, (Instr.sliceAt 22 (.slice A n c) none (some (.int .i64 (k : Int))) none).run Try.prog W = .ok (.slice A2 k c2) W) ∧
      (A1 = none → n - k = 0 ∧ c1 = 0) ∧ (A2 = none → k = 0 ∧ c2 = 0) ∧ IdRd w A1 (l.drop k) ∧ IdRd w A2 (l.take k) := by
  obtain ⟨⟨hl, hn, h32, hr⟩, hc⟩ := h
  have d32 : ∀ a ∈ l.drop k, a.length = 32 := fun a ha => h32 a (List.mem_of_mem_drop ha)
  have t32 : ∀ a ∈ l.take k, a.length = 32 := fun a ha => h32 a (List.mem_of_mem_take ha)
  rcases hk with hk | ⟨rfl, rfl⟩
  · rcases hr with rfl | ⟨g, o, rfl, hr⟩
    · simp at hl; omega
    · rcases hc with ⟨hA, _⟩ | ⟨_, hnc, hcm⟩
      · cases hA
      · have e : idsV l = idsV (l.take k) ++ idsV (l.drop k) := by rw [← idsV_append, List.take_append_drop]
        have l1 : (idsV (l.take k)).length = k * 32 := by rw [idsV_length _ t32, List.length_take, Nat.min_eq_left (by omega)]
        refine ⟨some ⟨g, o + k * 32, none⟩, c - k, some ⟨g, o, none⟩, c, fun W => slice_lo_ids g o n c k hk hnc W, fun W => slice_hi_ids g o n c k (by omega) W, (fun h => by cases h), (fun h => by cases h), ⟨d32, .inr ⟨g, o + k * 32, rfl, fun j v hj => ?_⟩⟩, ⟨t32, .inr ⟨g, o, rfl, fun j v hj => hr j v ?_⟩⟩⟩
        · rw [Nat.add_assoc]
          refine hr _ v ?_
          rw [e, List.getElem?_append_right (by omega), l1, show k * 32 + j - k * 32 = j by omega]
          exact hj
        · rw [e, List.getElem?_append_left (List.getElem?_eq_some_iff.1 hj).1]; exact hj
  · obtain rfl : l = [] := List.eq_nil_of_length_eq_zero hl
    rcases hc with ⟨rfl, _, rfl⟩ | ⟨⟨a, rfl⟩, _, _⟩
    · exact ⟨none, 0, none, 0, slice_nil_lo, slice_nil_hi, fun _ => ⟨rfl, rfl⟩, fun _ => ⟨rfl, rfl⟩, IdRd.nil_ _ _, IdRd.nil_ _ _⟩
    · obtain ⟨X, hX⟩ := slice_zero_lo a c
      obtain ⟨Y, hY⟩ := slice_zero_hi a c
      exact ⟨some X, c, some Y, c, hX, hY, (fun h => by cases h), (fun h => by cases h), IdRd.nil_ _ _, IdRd.nil_ _ _⟩
/-- A row of one's own. -/
def IdOw (W : World) (base : Nat) (v : Value) (n : Nat) (l : List (List UInt8)) : Prop := W.ownsRow base 24 32 v n (idsV l)
theorem idsV_ones (ids : List (List UInt8)) : ∀ u ∈ idsV ids, u.oneCell' = true := by
  intro u hu
  simp only [idsV, List.mem_flatMap, List.mem_map] at hu
  obtain ⟨a, _, b, _, rfl⟩ := hu
  rfl
theorem wp_append_idw {w : World} {o : Oper} {a : Act} {K : Act → World → Prop} {Q : Exit → Act → World → Prop} (s x : Operand)
    (ho : o.op = .call { callee := .builtin .append, args := #[s, x], argTypes := #[22, 22] })
    (base : Nat) (v : Value) (n : Nat) (Os : List (List UInt8)) (hs : a.eval s = v) (hown : IdOw w base v n Os)
    (A : Option Addr) (m c : Nat) (Xs : List (List UInt8)) (hx : a.eval x = .slice A m c) (hm : Xs.length = m) (hA : A = none → m = 0 ∧ c = 0) (hr : IdRd w A Xs) (hn : n + m ≤ 1000000) (hbase : base ≤ w.heap.size)
    (h : ∀ v' w', IdOw w' base v' (n + m) (Os ++ Xs) → w.grownBy w' v.ownBlock → K (a.put o.dst v') w') : o.wp Try.prog a w K Q := by
  obtain ⟨j0, hj, hjz, hjs, hjb⟩ := infoId2_parts
  cases A with
  | none =>
    obtain ⟨rfl, rfl⟩ := hA rfl
    obtain rfl : Xs = [] := List.eq_nil_of_length_eq_zero hm
    have hrun := run_append_owned_none (P := Try.prog) w base 22 o.type 24 j0 32 Try.underlying22 hj v n (idsV Os) hown
    unfold Oper.wp execOp
    simp only [ho, resolve, invoke, builtin, Sem.run_bind, Sem.run_pure, Result.andThen_ok, List.map_toArray, List.map_cons, List.map_nil, hs, hx, hrun]
    exact h v w (by rw [List.append_nil]; exact hown) ⟨rfl, rfl, rfl, Nat.le_refl _, fun _ _ _ => rfl⟩
  | some ad =>
    have hlen := idsV_length Xs hr.1
    rw [hm] at hlen
    refine wp_append_own w s x 22 ho base 24 j0 (.agg (idVals zeroB)) 32 32 Try.underlying22 hj hjz hjs hjb rfl (by decide) v n (idsV Os) hs hown ad m c (idsV Xs) hx hlen ?_ (idsV_ones Xs) (by unfold maxLen; omega) (by omega) hbase (fun v' w' h1 h2 _ => h v' w' (by unfold IdOw; rw [idsV_append]; exact h1) h2)
    rcases hr.2 with rfl | ⟨g, o, h, hr2⟩
    · intro j u h; simp [idsV] at h
    · cases h
      intro j u hju
      rw [Addr.add_lit]
      exact hr2 j u hju
theorem IdOw.grown {W W' : World} {base n B : Nat} {v : Value} {l : List (List UInt8)} (h : IdOw W base v n l) (hg : W.grownBy W' v.ownBlock) (hB : B ≤ base) {w : World} (hb : Below B w W) (hs : B ≤ W.heap.size) : Below B w W' :=
  hb.grown hg hs (by intro k hk; have := (h.lt k hk).1; omega)
theorem IdOw.row {w : World} {base n : Nat} {v : Value} {l : List (List UInt8)} (h : IdOw w base v n l) (h32 : ∀ a ∈ l, a.length = 32) (hm : n ≤ 1000000) : ∃ A c, v = .slice A n c ∧ RowR w A n l := by
  obtain ⟨A, c, rfl, hr⟩ := RowAt.own h h32 hm
  exact ⟨A, c, rfl, hr.r⟩
end Go.Proofs.Ytkbokffonnjjiaa

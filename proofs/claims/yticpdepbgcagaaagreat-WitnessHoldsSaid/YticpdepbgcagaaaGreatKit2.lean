
/- More small facts that import nothing of the program: steps of a region. -/
import Derived.Test.YticpdepbgcagaaaGreatKit
import Derived.Deep.RegionLaw
namespace Go.Qc
open Go.RowKit

/-- b[:h] of an array. -/
theorem run_slice_hi {P : Program} (w : World) (t e : TypeId) (g o N h : Nat) (i : TypeInfo) (ht : P.underlying t = some (.array N e)) (hi : P.info? e = some i) (hs : i.size = 1) (hh : h ≤ N) (k : IntKind) :
    (Instr.sliceAt t (.pointer (some ⟨g, o, none⟩)) none (some (.int k (h : Int))) none).run P w = .ok (.slice (some ⟨g, o, none⟩) h N) w := by
  have h1 : P.arrayLen t = N := by simp [Program.arrayLen, ht]
  have h2 : P.elem t = e := by simp [Program.elem, ht]
  have hr := run_sliceAt_array_h (P := P) w t ⟨g, o, none⟩ (by rw [h1, h2, ht]) k (h : Int) (by omega) (by rw [h1]; omega)
  rw [hr, h1, h2]
  have hz : (sizeOf e).run P w = .ok 1 w := by simp [sizeOf, typeInfo, hi, hs]
  have ha : (⟨g, o, none⟩ : Addr).add 0 = ⟨g, o, none⟩ := by unfold Addr.add; simp
  rw [hz]
  simp only [Result.andThen_ok, slicedAt, Int.toNat_natCast, Nat.zero_mul, ha, Nat.sub_zero]
  congr 3
  split <;> rfl

/-- copy out of a text into a known block, as one step of a region. -/
theorem step_copy_txt {P : Program} {ops : Array Oper} {o : Oper} {a : Act} {w : World} {K : Act → World → Prop} {Q : Exit → Act → World → Prop} {E : Prop} (hgd : o.guard = none) (d s : Operand) (dT sT : TypeId)
    (ho : o.op = .call { callee := .builtin .copy, args := #[d, s], argTypes := #[dT, sT] }) (elem : TypeId) (hu : P.underlying dT = some (.slice elem)) (hsz : (P.info? elem).map (·.size) = some 1)
    (g off dLen dCap : Nat) (l : List UInt8) (hd : a.eval d = .slice (some ⟨g, off, none⟩) dLen dCap) (hs : a.eval s = .string (txt l))
    (cur : Array Value) (t : TypeId) (hg : Blk w g t cur) (n : Nat) (hn : n = Nat.min l.length dLen) (hfit : off + n ≤ cur.size)
    (h : ∀ w', Blk w' g t (over cur off ((l.take n).map u8v)) → w.grownBy w' (some g) → K (a.put o.dst (.int .i64 (n : Int))) w') :
    if Region.wanted o (yielded ops a.tmps) = true then Oper.wp P o a w K Q else E := by
  have hw : Region.wanted o (yielded ops a.tmps) = true := by simp [Region.wanted, hgd]
  rw [if_pos hw]
  have hmin : Nat.min l.length dLen ≤ l.length := Nat.min_le_left _ _
  obtain ⟨cs, hcs⟩ : ∃ cs, cs = (l.take n).map u8v := ⟨_, rfl⟩
  rw [← hcs] at h
  have hlen : cs.length = n := by rw [hcs, List.length_map, List.length_take]; omega
  have hst := run_storeCells_at P g off t cs 0 cur w hg (by rw [hlen]; omega) (fun v hv => by
    rw [hcs] at hv
    obtain ⟨b, _, rfl⟩ := List.mem_map.1 hv; rfl)
  simp only [Nat.add_zero] at hst
  have htk : List.take n (List.map (fun b : UInt8 => Value.int IntKind.u8 (b.toNat : Int)) l) = cs := by
    rw [hcs, List.map_take]; rfl
  have hrun : (Builtin.copy_ #[dT, sT] o.type #[.slice (some ⟨g, off, none⟩) dLen dCap, .string (txt l)]).run P w = .ok (goInt n) (w.setRow g (over cur off cs)) := by
    have hz : (txt l).size = l.length := txt_size l
    have hd' : (txt l).data.toList = l := by simp [txt]
    cases hq : P.info? elem with
    | none => simp [hq] at hsz
    | some i =>
      simp [Builtin.copy_, run_underlying hu, Builtin.lenOf, Builtin.firstCells, sizeOf, typeInfo, hq, hz, ← hn, hd']
      rw [htk, hst]
      simp [Result.andThen, over]
  unfold Oper.wp
  simp only [execOp, ho]
  simp [resolve, invoke, builtin, hd, hs, hrun, Result.andThen]
  obtain ⟨hb, hgr⟩ := blk_over hg (over cur off cs)
  exact h _ hb hgr

/-- A whole array stored into the newest block, its number given apart. -/
theorem wpList_store_newk {P : Program} {w : World} {ops : Array Oper} {rest : List Oper} {o : Oper} {a : Act} {Q : Exit → Act → World → Prop} {old : Array Value} (hgd : o.guard = none) (ty : TypeId) (x y : Operand) (ho : o.op = .store ty x y)
    (cs : Array Value) (k : Nat) (hx : a.eval x = .pointer (some ⟨k, 0, none⟩)) (hy : a.eval y = .agg cs) (hk : k = w.heap.size) (hi : (P.info? ty).map (·.size) = some cs.size) (hs : old.size = cs.size) (h1 : cs.all (·.oneCell') = true)
    (h : wpList P ops Q rest (a.put o.dst undef) (w.alloc (.cells cs ty))) : wpList P ops Q (o :: rest) a (w.alloc (.cells old ty)) := by
  subst hk
  exact wpList_store_new hgd ty x y ho cs hx hy hi hs h1 h

/-- Eight stores are one. -/
theorem over8 (cs : Array Value) (h : 8 ≤ cs.size) (a b c d e f g i : Value) :
    (((((((cs.setIfInBounds 0 a).setIfInBounds 1 b).setIfInBounds 2 c).setIfInBounds 3 d).setIfInBounds 4 e).setIfInBounds 5 f).setIfInBounds 6 g).setIfInBounds 7 i = over cs 0 [a, b, c, d, e, f, g, i] := by
  apply Array.ext_getElem?
  intro j
  rw [over_get _ _ _ (by simpa using h), if_neg (by omega)]
  simp only [Array.getElem?_setIfInBounds, Array.size_setIfInBounds, List.length_cons, List.length_nil, Nat.zero_add, Nat.sub_zero]
  have h0 : 0 < cs.size := by omega
  have h1 : 1 < cs.size := by omega
  have h2 : 2 < cs.size := by omega
  have h3 : 3 < cs.size := by omega
  have h4 : 4 < cs.size := by omega
  have h5 : 5 < cs.size := by omega
  have h6 : 6 < cs.size := by omega
  have h7 : 7 < cs.size := by omega
  by_cases hj : j < 8
  · rw [if_pos hj]
    match j, hj with
    | 0, _ => simp [h0]
    | 1, _ => simp [h1]
    | 2, _ => simp [h2]
    | 3, _ => simp [h3]
    | 4, _ => simp [h4]
    | 5, _ => simp [h5]
    | 6, _ => simp [h6]
    | 7, _ => simp [h7]
  · rw [if_neg hj, if_neg (by omega), if_neg (by omega), if_neg (by omega), if_neg (by omega), if_neg (by omega), if_neg (by omega), if_neg (by omega), if_neg (by omega)]
theorem st8 {w : World} {g : Nat} {t : TypeId} {cs : Array Value} (hb : Blk w g t cs) (h : 8 ≤ cs.size) (a b c d e f k i : Value) :
    Blk ((((((((w.setCell ⟨g, 0, none⟩ a).setCell ⟨g, 1, none⟩ b).setCell ⟨g, 2, none⟩ c).setCell ⟨g, 3, none⟩ d).setCell ⟨g, 4, none⟩ e).setCell ⟨g, 5, none⟩ f).setCell ⟨g, 6, none⟩ k).setCell ⟨g, 7, none⟩ i) g t (over cs 0 [a, b, c, d, e, f, k, i]) ∧
    w.grownBy ((((((((w.setCell ⟨g, 0, none⟩ a).setCell ⟨g, 1, none⟩ b).setCell ⟨g, 2, none⟩ c).setCell ⟨g, 3, none⟩ d).setCell ⟨g, 4, none⟩ e).setCell ⟨g, 5, none⟩ f).setCell ⟨g, 6, none⟩ k).setCell ⟨g, 7, none⟩ i) (some g) := by
  refine ⟨?_, gb_set (gb_set (gb_set (gb_set (gb_set (gb_set (gb_set (gb_set (gb_refl _ _) _ _) _ _) _ _) _ _) _ _) _ _) _ _) _ _⟩
  rw [← over8 cs h]
  exact (((((((hb.set 0 a).set 1 b).set 2 c).set 3 d).set 4 e).set 5 f).set 6 k).set 7 i
end Go.Qc

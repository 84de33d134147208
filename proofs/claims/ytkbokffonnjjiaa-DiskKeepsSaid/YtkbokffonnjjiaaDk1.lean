
/- disk: a text put into bytes. -/
import Derived.Test.YtkbokffonnjjiaaDk0
set_option linter.unusedSimpArgs false
set_option linter.unusedVariables false
namespace Go.Proofs.Ytkbokffonnjjiaa
open Go.RowKit Go.Qc Go.Shelf
attribute [local go_sem] txt_size txt_append ib_fold
/-- A text put into bytes at a place, with bytes of 0 where there are none ahead of it. -/
def putL (l : List UInt8) (p : Nat) (t : List UInt8) : List UInt8 :=
  if t = [] then l else (l ++ List.replicate (p + t.length - l.length) 0).take p ++ t ++ (l ++ List.replicate (p + t.length - l.length) 0).drop (p + t.length)
theorem putL_nil (l : List UInt8) (p : Nat) : putL l p [] = l := by unfold putL; rw [if_pos rfl]
theorem putL_length (l : List UInt8) (p : Nat) (t : List UInt8) : (putL l p t).length = if t = [] then l.length else max l.length (p + t.length) := by
  unfold putL
  split
  · rfl
  · simp only [List.length_append, List.length_take, List.length_drop, List.length_replicate]
    omega
/-- What is ahead of the place stays. -/
theorem putL_ahead {l s : List UInt8} {p : Nat} {t : List UInt8} (hp : s.length ≤ p) (hs : l.take s.length = s) : (putL l p t).take s.length = s := by
  have hl : s.length ≤ l.length := by
    have := congrArg List.length hs
    rw [List.length_take] at this
    omega
  unfold putL
  split
  · exact hs
  · rw [List.append_assoc, List.take_append_of_le_length (by simp; omega), List.take_take, Nat.min_eq_left hp, List.take_append_of_le_length hl]
    exact hs
theorem putL_end (l t : List UInt8) : putL l l.length t = l ++ t := by
  unfold putL
  split
  · next h => rw [h, List.append_nil]
  · rw [List.take_append_of_le_length (Nat.le_refl _), List.take_length, List.drop_eq_nil_of_le (by simp), List.append_nil]
/-- Bytes of one's own. -/
def ByOw (W : World) (base : Nat) (v : Value) (l : List UInt8) : Prop := W.ownsRow base 5 1 v l.length (l.map u8v)
theorem ByOw.nil (W : World) (base : Nat) : ByOw W base (.slice none 0 0) [] := ⟨rfl, .inl ⟨rfl, rfl⟩⟩
theorem ByOw.below {W W' : World} {base : Nat} {v : Value} {l : List UInt8} (h : ByOw W base v l) (hb : Below W.heap.size W W') : ByOw W' base v l := own_below h hb
theorem ByOw.sl {W : World} {base : Nat} {v : Value} {l : List UInt8} (h : ByOw W base v l) : ∃ A c, v = .slice A l.length c := by
  rcases h.2 with ⟨rfl, h0⟩ | ⟨g, c, cur, rfl, _⟩
  · exact ⟨none, 0, by rw [h0]⟩
  · exact ⟨_, _, rfl⟩
theorem infoByteN : (Try.prog.info? 5).map (·.size) = some 1 := by kernel_rfl
theorem slice_lo_by (g n c p : Nat) (hp : p < n) (hc : n ≤ c) (W : World) : (Instr.sliceAt 107 (.slice (some ⟨g, 0, none⟩) n c) (some (.int .i64 (p : Int))) none none).run Try.prog W = .ok (.slice (some ⟨g, p, none⟩) (n - p) (c - p)) W := by
  obtain ⟨i0, hi, _, h1, _⟩ := info_parts infoByte
  have h2 : (0 : Int) ≤ (p : Int) ∧ (p : Int) ≤ (n : Int) := by omega
  have h3 : ¬ (p = c) := by omega
  simp [Instr.sliceAt, Instr.slice, Instr.sliceBounds, run_underlying Try.underlying107, run_sliceBound, h2, sizeOf, typeInfo, hi, h1, Addr.add_lit, Int.toNat_natCast]
  omega
theorem wp_copy_txtD {w : World} {o : Oper} {a : Act} {K : Act → World → Prop} {Q : Exit → Act → World → Prop} (d s : Operand)
    (ho : o.op = .call { callee := .builtin .copy, args := #[d, s], argTypes := #[107, 9] })
    (g off dLen dCap : Nat) (l : List UInt8) (hd : a.eval d = .slice (some ⟨g, off, none⟩) dLen dCap) (hs : a.eval s = .string (txt l))
    (cur : Array Value) (t : TypeId) (hg : Blk w g t cur) (hl : l.length ≤ dLen) (hfit : off + l.length ≤ cur.size)
    (h : ∀ w', Blk w' g t (over cur off (l.map u8v)) → w.grownBy w' (some g) → K (a.put o.dst (.int .i64 (l.length : Int))) w') : o.wp Try.prog a w K Q := by
  have hsz := infoByteN
  have hst := run_storeCells_at Try.prog g off t (l.map u8v) 0 cur w hg (by rw [List.length_map]; omega) (fun v hv => by
    obtain ⟨b, _, rfl⟩ := List.mem_map.1 hv; rfl)
  simp only [Nat.add_zero] at hst
  have htk : (List.map (fun b : UInt8 => Value.int IntKind.u8 (b.toNat : Int)) l) = l.map u8v := rfl
  have hmin : Nat.min l.length dLen = l.length := Nat.min_eq_left hl
  have hrun : (Builtin.copy_ #[107, 9] o.type #[.slice (some ⟨g, off, none⟩) dLen dCap, .string (txt l)]).run Try.prog w = .ok (goInt l.length) (w.setRow g (over cur off (l.map u8v))) := by
    have hz : (txt l).size = l.length := txt_size l
    have hd' : (txt l).data.toList = l := by simp [txt]
    cases hq : Try.prog.info? 5 with
    | none => simp [hq] at hsz
    | some i =>
      simp [Builtin.copy_, run_underlying Try.underlying107, Builtin.lenOf, Builtin.firstCells, sizeOf, typeInfo, hq, hz, hmin, hd']
      rw [List.take_of_length_le (by simp), htk, hst]
      simp [Result.andThen, over]
  unfold Oper.wp
  simp only [execOp, ho]
  simp [resolve, invoke, builtin, hd, hs, hrun, Result.andThen]
  obtain ⟨hb, hgr⟩ := blk_over hg (over cur off (l.map u8v))
  exact h _ hb hgr
/-- A row of one's own, written over from a place on. -/
theorem own_over {W W' : World} {base g c off : Nat} {l t : List UInt8} {cur : Array Value} (h : ByOw W base (.slice (some ⟨g, 0, none⟩) l.length c) l) (hg : Blk W g 5 cur) (hoff : off + t.length ≤ l.length) (hb : Blk W' g 5 (over cur off (t.map u8v))) :
    ByOw W' base (.slice (some ⟨g, 0, none⟩) l.length c) (l.take off ++ t ++ l.drop (off + t.length)) := by
  have hlen : (l.take off ++ t ++ l.drop (off + t.length)).length = l.length := by simp; omega
  unfold ByOw
  rw [hlen]
  rcases h.2 with ⟨e, _⟩ | ⟨g', c', cur', e, hbg, hgg, hnc, hcm, hcs, htake⟩
  · cases e
  · injection e with e1 e2 e3
    injection e1 with e1
    injection e1 with e1 _ _
    subst e1 e3
    have hcur : cur' = cur := by
      have := Option.some.inj (hgg.symm.trans hg)
      injection this
    subst hcur
    rw [Nat.mul_one] at htake hcs
    refine ⟨by simp; omega, .inr ⟨g, c, _, rfl, hbg, hb, hnc, hcm, by rw [over_size _ _ _ (by simp; omega)]; omega, ?_⟩⟩
    apply List.ext_getElem?
    intro j
    rw [Nat.mul_one, List.getElem?_take]
    by_cases hj : j < l.length
    · rw [if_pos hj, Array.getElem?_toList, over_get _ _ _ (by simp; omega)]
      have hcj : ∀ i, i < l.length → cur'[i]? = (l.map u8v)[i]? := fun i hi => by rw [← htake, List.getElem?_take, if_pos hi, Array.getElem?_toList]
      rw [hcj j hj]
      simp only [List.map_append, List.map_take, List.map_drop, List.length_map]
      by_cases h1 : j < off
      · rw [if_pos h1, List.append_assoc, List.getElem?_append_left (by simp; omega), List.getElem?_take, if_pos h1]
      · rw [if_neg h1]
        by_cases h2 : j < off + t.length
        · rw [if_pos h2, List.append_assoc, List.getElem?_append_right (by simp; omega), List.getElem?_append_left (by simp; omega)]
          congr 1
          simp
          omega
        · rw [if_neg h2, List.getElem?_append_right (by simp; omega), List.getElem?_drop]
          congr 1
          simp
          omega
    · rw [if_neg hj, List.getElem?_eq_none (by simp; omega)]
theorem gb_step {a b c : World} {r r' : Option Nat} (h : a.grownBy b r) (k : b.grownBy c r') (hr : r' = r ∨ r' = none ∨ ∃ g, r' = some g ∧ a.heap.size ≤ g) : a.grownBy c r :=
  ⟨k.os.trans h.os, k.tape.trans h.tape, k.output.trans h.output, Nat.le_trans h.size k.size, fun i hi hn => (k.block i (Nat.lt_of_lt_of_le hi h.size) (by
    rcases hr with rfl | rfl | ⟨g, rfl, hg⟩
    · exact hn
    · simp
    · intro e; have := Option.some.inj e; omega)).trans (h.block i hi hn)⟩
theorem gb_of_below {a b : World} (h : Below a.heap.size a b) (r : Option Nat) : a.grownBy b r := ⟨h.os, h.tape, h.output, h.size, fun k hk _ => h.block k hk⟩
end Go.Proofs.Ytkbokffonnjjiaa

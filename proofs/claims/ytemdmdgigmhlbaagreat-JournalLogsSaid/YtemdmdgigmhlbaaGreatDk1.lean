/- disk: bytes of 0 put behind a row of one's own. -/
import Derived.Test.YtemdmdgigmhlbaaGreatId7
set_option linter.unusedSimpArgs false
set_option linter.unusedVariables false
namespace Go.Proofs.YtemdmdgigmhlbaaGreat
open Go.RowKit Go.Qc Go.Shelf
theorem zeroCells_list (z : Value) (n : Nat) : (Builtin.zeroCells #[z] n).toList = List.replicate n z := by
  apply List.ext_getElem?
  intro j
  by_cases h : j < n
  · simp [Builtin.zeroCells, List.getElem?_replicate, List.getElem?_range h, Nat.mod_one, h]
  · simp [Builtin.zeroCells, List.getElem?_replicate, List.getElem?_eq_none (show (List.range n).length ≤ j by simp; omega), h]
section
variable (w : World)
theorem wrap_k {k : Nat} (h : k ≤ 1000000000000) : IntKind.i64.wrap (k : Int) = (k : Int) := by rw [IntKind.wrap_i64]; omega
theorem run_zeros_nil (ty : TypeId) (k : Nat) (hk : 0 < k) (hb : k ≤ 1000000000) :
    (Builtin.append_ #[56, 3] ty #[.slice none 0 0, .int .i64 (k : Int)]).run Tryz.prog w =
      .ok (.slice (some ⟨w.heap.size, 0, none⟩) k (grownCap w k 0 5)) (w.drew.alloc (.cells (Builtin.zeroCells #[.int .u8 0] k ++ Builtin.zeroCells #[.int .u8 0] (grownCap w k 0 5 - k)) 5)) := by
  obtain ⟨i0, hi, hz, hs, hby⟩ := info_parts infoByte
  have hn : k ≠ 0 := by omega
  have h63 : ¬ (9223372036854775807 < (k : Int)) := by omega
  have h48 : ¬ (281474976710656 < Builtin.nextslicecap k 0) := by rw [nextslicecap_zero hk]; omega
  have hw := wrap_k (k := k) (by omega)
  have h0 : ¬ ((k : Int) < 0) := by omega
  have h4 : ¬ ((281474976710656 : Int) < (k : Int)) := by omega
  simp [Builtin.append_, run_underlying Tryz.underlying56, run_underlying Tryz.underlying3, sizeOf, typeInfo, zeroValue, hi, hz, hs, hby, asInt, asIntOf, hw, h0, h4, hn, h63, h48, Question.forced, run_firstCells_none, newRow, grownCap, Value.cells]
theorem run_zeros_room (ty : TypeId) (g n c : Nat) (cur : Array Value) (hg : w.heap[g]? = some (.cells cur 5 (0, 0))) (k : Nat) (hk : 0 < k) (hb : k ≤ 1000000000) (hroom : n + k ≤ c) (hfit : n + k ≤ cur.size) :
    (Builtin.append_ #[56, 3] ty #[.slice (some ⟨g, 0, none⟩) n c, .int .i64 (k : Int)]).run Tryz.prog w =
      .ok (.slice (some ⟨g, 0, none⟩) (n + k) c) (w.setRow g (cur.toList.take n ++ List.replicate k (Value.int .u8 0) ++ cur.toList.drop (n + k)).toArray) := by
  obtain ⟨i0, hi, hz, hs, hby⟩ := info_parts infoByte
  have hn : k ≠ 0 := by omega
  have hw := wrap_k (k := k) (by omega)
  have h0 : ¬ ((k : Int) < 0) := by omega
  have h4 : ¬ ((281474976710656 : Int) < (k : Int)) := by omega
  have hst := run_storeCells_at Tryz.prog g n 5 (List.replicate k (.int .u8 0)) 0 cur w hg (by simpa using hfit) (by intro u hu; rw [List.eq_of_mem_replicate hu]; rfl)
  simp only [Nat.add_zero] at hst
  simp [Builtin.append_, run_underlying Tryz.underlying56, run_underlying Tryz.underlying3, sizeOf, typeInfo, zeroValue, hi, hz, hs, hby, asInt, asIntOf, hw, h0, h4, hn, hroom, Addr.add_lit, Value.cells, zeroCells_list, hst]
theorem run_zeros_grow (ty : TypeId) (g n c : Nat) (olds : List Value) (hlo : olds.length = n) (holds : ∀ j v, olds[j]? = some v → w.cell? ((⟨g, 0, none⟩ : Addr).add j) = some v) (k : Nat) (hk : 0 < k) (hb : n + k ≤ 1000000000) (hroom : c < n + k) :
    (Builtin.append_ #[56, 3] ty #[.slice (some ⟨g, 0, none⟩) n c, .int .i64 (k : Int)]).run Tryz.prog w =
      .ok (.slice (some ⟨w.heap.size, 0, none⟩) (n + k) (grownCap w (n + k) c 5)) (w.drew.alloc (.cells (olds.toArray ++ Builtin.zeroCells #[.int .u8 0] k ++ Builtin.zeroCells #[.int .u8 0] (grownCap w (n + k) c 5 - (n + k))) 5)) := by
  obtain ⟨i0, hi, hz, hs, hby⟩ := info_parts infoByte
  have hn : k ≠ 0 := by omega
  have hnc : ¬ (n + k ≤ c) := by omega
  have hw := wrap_k (k := k) (by omega)
  have h0 : ¬ ((k : Int) < 0) := by omega
  have h4 : ¬ ((281474976710656 : Int) < (k : Int)) := by omega
  have h63 : ¬ (9223372036854775807 < ((n : Int) + (k : Int))) := by omega
  have h48 : ¬ (281474976710656 < Builtin.nextslicecap (n + k) c) := by
    have := growslice_fits (need := n + k) (old := c) (bytes := 1) hroom (by omega)
    omega
  have hfo := run_firstCells_some (P := Tryz.prog) w.drew 1 n ⟨g, 0, none⟩ n c olds (by omega) (by simpa using holds)
  simp [Builtin.append_, run_underlying Tryz.underlying56, run_underlying Tryz.underlying3, sizeOf, typeInfo, zeroValue, hi, hz, hs, hby, asInt, asIntOf, hw, h0, h4, hn, hnc, h63, h48, Question.forced, hfo, newRow, grownCap, Value.cells]
/-- So many bytes of 0 put behind a row of one's own. -/
theorem run_zeros_own (ty : TypeId) (base : Nat) (v : Value) (n : Nat) (xs : List Value) (hown : w.ownsRow base 5 1 v n xs) (k : Nat) (hk : 0 < k) (hb : n + k ≤ 1000000000) (hbase : base ≤ w.heap.size) :
    ∃ v' w', (Builtin.append_ #[56, 3] ty #[v, .int .i64 (k : Int)]).run Tryz.prog w = .ok v' w' ∧ w'.ownsRow base 5 1 v' (n + k) (xs ++ List.replicate k (.int .u8 0)) ∧ w.grownBy w' v.ownBlock ∧ (v'.ownBlock = v.ownBlock ∨ v'.ownBlock = some w.heap.size) := by
  have hx : xs.length = n := by have := hown.1; omega
  have hlen : (xs ++ List.replicate k (Value.int .u8 0)).length = (n + k) * 1 := by simp [hx]
  have grown : ∀ (old : Nat) (row : Option Nat) (cells : Array Value), old < n + k → cells.toList = xs ++ List.replicate k (Value.int .u8 0) → 
      (w.drew.alloc (.cells (cells ++ Builtin.zeroCells #[.int .u8 0] (grownCap w (n + k) old 5 - (n + k))) 5)).ownsRow base 5 1 (.slice (some ⟨w.heap.size, 0, none⟩) (n + k) (grownCap w (n + k) old 5)) (n + k) (xs ++ List.replicate k (.int .u8 0)) ∧
      w.grownBy (w.drew.alloc (.cells (cells ++ Builtin.zeroCells #[.int .u8 0] (grownCap w (n + k) old 5 - (n + k))) 5)) row := by
    intro old row cells ho hc
    have hge := grownCap_ge w (n + k) old 5
    have hcm : grownCap w (n + k) old 5 ≤ maxLen := grownCap_le_maxLen w (n + k) old _ (by unfold maxLen; omega)
    have hsz : cells.size = n + k := by rw [← Array.length_toList, hc, hlen]; omega
    refine ⟨⟨hlen, .inr ⟨w.heap.size, _, _, rfl, hbase, heap_alloc_new w.drew _, hge, hcm, ?_, ?_⟩⟩, ⟨rfl, rfl, rfl, by simp, fun j hj _ => heap_alloc_old w.drew _ hj⟩⟩
    · simp only [Array.size_append, size_zeroCells, hsz]
      simp
      omega
    · simp only [Array.toList_append, hc]
      rw [← hlen]
      exact List.take_left
  rcases hown.2 with ⟨rfl, rfl⟩ | ⟨g, cap, cur, rfl, hbg, hg, hnc, hcm, hcs, htake⟩
  · have hx0 : xs = [] := List.eq_nil_of_length_eq_zero hx
    subst hx0
    have hr := run_zeros_nil w ty k hk (by omega)
    have hgr := grown 0 (Value.ownBlock (.slice none 0 0)) (Builtin.zeroCells #[.int .u8 0] k) (by omega) (by rw [zeroCells_list]; rfl)
    simp only [Nat.zero_add] at hgr ⊢
    exact ⟨_, _, hr, hgr.1, hgr.2, .inr rfl⟩
  · by_cases hroom : n + k ≤ cap
    · have hfit : n + k ≤ cur.size := by rw [hcs]; omega
      have hr := run_zeros_room w ty g n cap cur hg k hk (by omega) hroom hfit
      refine ⟨_, _, hr, ⟨hlen, .inr ⟨g, cap, _, rfl, hbg, setRow_heap w g cur _ _ _ hg, hroom, hcm, ?_, ?_⟩⟩, ⟨rfl, rfl, rfl, by simp, fun k _ hk => setRow_other w g k _ (fun e => hk (by simp [Value.ownBlock, e]))⟩, .inl rfl⟩
      · simp only [List.size_toArray, List.length_append, List.length_take, List.length_drop, Array.length_toList, List.length_replicate]
        omega
      · have h9 : cur.toList.take n = xs := by rw [← htake, Nat.mul_one]
        rw [h9, ← hlen]
        exact List.take_left
    · have holds : ∀ j u, xs[j]? = some u → w.cell? ((⟨g, 0, none⟩ : Addr).add j) = some u := hown.cells (g := g) rfl
      have hr := run_zeros_grow w ty g n cap xs hx holds k hk hb (by omega)
      have hgr := grown cap (Value.ownBlock (.slice (some ⟨g, 0, none⟩) n cap)) (xs.toArray ++ Builtin.zeroCells #[.int .u8 0] k) (by omega) (by rw [Array.toList_append, zeroCells_list])
      exact ⟨_, _, hr, hgr.1, hgr.2, .inr rfl⟩
end
theorem wpList_append_zeros {w : World} {ops : Array Oper} {rest : List Oper} {o : Oper} {a : Act} {Q : Exit → Act → World → Prop} (hgd : o.guard = none) (s x : Operand)
    (ho : o.op = .call { callee := .builtin .append, args := #[s, x], argTypes := #[56, 3] })
    (base : Nat) (v : Value) (n : Nat) (xs : List Value) (hs : a.eval s = v) (hown : w.ownsRow base 5 1 v n xs) (k : Nat) (hx : a.eval x = .int .i64 (k : Int)) (hk : 0 < k) (hb : n + k ≤ 1000000000) (hbase : base ≤ w.heap.size)
    (h : ∀ v' w', w'.ownsRow base 5 1 v' (n + k) (xs ++ List.replicate k (.int .u8 0)) → w.grownBy w' v.ownBlock → (v'.ownBlock = v.ownBlock ∨ v'.ownBlock = some w.heap.size) → wpList Tryz.prog ops Q rest (a.put o.dst v') w') : wpList Tryz.prog ops Q (o :: rest) a w := by
  refine wpList_plain hgd fun K hK => ?_
  obtain ⟨v', w', hr, h2, h3, h4⟩ := run_zeros_own w o.type base v n xs hown k hk hb hbase
  unfold Oper.wp execOp
  simp only [ho, resolve, invoke, builtin, Sem.run_bind, Sem.run_pure, Result.andThen_ok, List.map_toArray, List.map_cons, List.map_nil, hs, hx, hr]
  exact hK _ _ (h v' w' h2 h3 h4)
end Go.Proofs.YtemdmdgigmhlbaaGreat
/- disk: a text put into bytes. -/
set_option linter.unusedSimpArgs false
set_option linter.unusedVariables false
namespace Go.Proofs.YtemdmdgigmhlbaaGreat
open Go.RowKit Go.Qc Go.Shelf
attribute [local go_sem] txt_size txt_append ib_fold
/-- A text put into bytes at a place, with bytes of 0 where there are none ahead of it. -/
def putLd (l : List UInt8) (p : Nat) (t : List UInt8) : List UInt8 :=
  if t = [] then l else (l ++ List.replicate (p + t.length - l.length) 0).take p ++ t ++ (l ++ List.replicate (p + t.length - l.length) 0).drop (p + t.length)
theorem putL_nil (l : List UInt8) (p : Nat) : putLd l p [] = l := by unfold putLd; rw [if_pos rfl]
theorem putL_length (l : List UInt8) (p : Nat) (t : List UInt8) : (putLd l p t).length = if t = [] then l.length else max l.length (p + t.length) := by
  unfold putLd
  split
  · rfl
  · simp only [List.length_append, List.length_take, List.length_drop, List.length_replicate]
    omega
theorem putL_end (l t : List UInt8) : putLd l l.length t = l ++ t := by
  unfold putLd
  split
  · next h => rw [h, List.append_nil]
  · rw [List.take_append_of_le_length (Nat.le_refl _), List.take_length, List.drop_eq_nil_of_le (by simp), List.append_nil]
/-- Bytes of one's own. -/
def ByOw (W : World) (base : Nat) (v : Value) (l : List UInt8) : Prop := W.ownsRow base 5 1 v l.length (l.map u8v)
theorem ByOw.nil (W : World) (base : Nat) : ByOw W base (.slice none 0 0) [] := ⟨rfl, .inl ⟨rfl, rfl⟩⟩
theorem ByOw.below {W W' : World} {base : Nat} {v : Value} {l : List UInt8} (h : ByOw W base v l) (hb : Below W.heap.size W W') : ByOw W' base v l := own_below h hb
theorem ByOw.sl {W : World} {base : Nat} {v : Value} {l : List UInt8} (h : ByOw W base v l) : ∃ A c, v = .slice A l.length c := by
  rcases h.2 with ⟨rfl, h0⟩ | ⟨g, c, cur, rfl, _⟩
  · exact ⟨none, 0, by rw [h0]⟩
  · exact ⟨_, _, rfl⟩
theorem infoByteN : (Tryz.prog.info? 5).map (·.size) = some 1 := by kernel_rfl
theorem slice_lo_by (g n c p : Nat) (hp : p < n) (hc : n ≤ c) (W : World) : (Instr.sliceAt 56 (.slice (some ⟨g, 0, none⟩) n c) (some (.int .i64 (p : Int))) none none).run Tryz.prog W = .ok (.slice (some ⟨g, p, none⟩) (n - p) (c - p)) W := by
  obtain ⟨i0, hi, _, h1, _⟩ := info_parts infoByte
  have h2 : (0 : Int) ≤ (p : Int) ∧ (p : Int) ≤ (n : Int) := by omega
  have h3 : ¬ (p = c) := by omega
  simp [Instr.sliceAt, Instr.slice, Instr.sliceBounds, run_underlying Tryz.underlying56, run_sliceBound, h2, sizeOf, typeInfo, hi, h1, Addr.add_lit, Int.toNat_natCast]
  omega
theorem wp_copy_txtD {w : World} {o : Oper} {a : Act} {K : Act → World → Prop} {Q : Exit → Act → World → Prop} (d s : Operand)
    (ho : o.op = .call { callee := .builtin .copy, args := #[d, s], argTypes := #[56, 9] })
    (g off dLen dCap : Nat) (l : List UInt8) (hd : a.eval d = .slice (some ⟨g, off, none⟩) dLen dCap) (hs : a.eval s = .string (txt l))
    (cur : Array Value) (t : TypeId) (hg : Blk w g t cur) (hl : l.length ≤ dLen) (hfit : off + l.length ≤ cur.size)
    (h : ∀ w', Blk w' g t (over cur off (l.map u8v)) → w.grownBy w' (some g) → K (a.put o.dst (.int .i64 (l.length : Int))) w') : o.wp Tryz.prog a w K Q := by
  have hsz := infoByteN
  have hst := run_storeCells_at Tryz.prog g off t (l.map u8v) 0 cur w hg (by rw [List.length_map]; omega) (fun v hv => by
    obtain ⟨b, _, rfl⟩ := List.mem_map.1 hv; rfl)
  simp only [Nat.add_zero] at hst
  have htk : (List.map (fun b : UInt8 => Value.int IntKind.u8 (b.toNat : Int)) l) = l.map u8v := rfl
  have hmin : Nat.min l.length dLen = l.length := Nat.min_eq_left hl
  have hrun : (Builtin.copy_ #[56, 9] o.type #[.slice (some ⟨g, off, none⟩) dLen dCap, .string (txt l)]).run Tryz.prog w = .ok (goInt l.length) (w.setRow g (over cur off (l.map u8v))) := by
    have hz : (txt l).size = l.length := txt_size l
    have hd' : (txt l).data.toList = l := by simp [txt]
    cases hq : Tryz.prog.info? 5 with
    | none => simp [hq] at hsz
    | some i =>
      simp [Builtin.copy_, run_underlying Tryz.underlying56, Builtin.lenOf, Builtin.firstCells, sizeOf, typeInfo, hq, hz, hmin, hd']
      rw [List.take_of_length_le (by simp), htk, hst]
      simp [Result.andThen, over]
  unfold Oper.wp
  simp only [execOp, ho]
  simp [resolve, invoke, builtin, hd, hs, hrun, Result.andThen]
  obtain ⟨hb, hgr⟩ := blk_over hg (over cur off (l.map u8v))
  exact h _ hb hgr
/-- A row of one's own, written over from a place on. -/
theorem own_over {W W' : World} {base g c off : Nat} {l t : List UInt8} {cur : Array Value} (h : ByOw W base (.slice (some ⟨g, 0, none⟩) l.length c) l) (hg : Blk W g 5 cur) (hoff : off + t.length ≤ l.length) (hb : Blk W' g 5 (over cur off (t.map u8v))) :
    ByOw W' base (.slice (some ⟨g, 0, none⟩) l.length c) (l.take off ++ t ++ l.drop (off + t.length)) := by
  have hlen : (l.take off ++ t ++ l.drop (off + t.length)).length = l.length := by simp; omega
  unfold ByOw
  rw [hlen]
  rcases h.2 with ⟨e, _⟩ | ⟨g', c', cur', e, hbg, hgg, hnc, hcm, hcs, htake⟩
  · cases e
  · injection e with e1 e2 e3
    injection e1 with e1
    injection e1 with e1 _ _
    subst e1 e3
    have hcur : cur' = cur := by
      have := Option.some.inj (hgg.symm.trans hg)
      injection this
    subst hcur
    rw [Nat.mul_one] at htake hcs
    refine ⟨by simp; omega, .inr ⟨g, c, _, rfl, hbg, hb, hnc, hcm, by rw [over_size _ _ _ (by simp; omega)]; omega, ?_⟩⟩
    apply List.ext_getElem?
    intro j
    rw [Nat.mul_one, List.getElem?_take]
    by_cases hj : j < l.length
    · rw [if_pos hj, Array.getElem?_toList, over_get _ _ _ (by simp; omega)]
      have hcj : ∀ i, i < l.length → cur'[i]? = (l.map u8v)[i]? := fun i hi => by rw [← htake, List.getElem?_take, if_pos hi, Array.getElem?_toList]
      rw [hcj j hj]
      simp only [List.map_append, List.map_take, List.map_drop, List.length_map]
      by_cases h1 : j < off
      · rw [if_pos h1, List.append_assoc, List.getElem?_append_left (by simp; omega), List.getElem?_take, if_pos h1]
      · rw [if_neg h1]
        by_cases h2 : j < off + t.length
        · rw [if_pos h2, List.append_assoc, List.getElem?_append_right (by simp; omega), List.getElem?_append_left (by simp; omega)]
          congr 1
          simp
          omega
        · rw [if_neg h2, List.getElem?_append_right (by simp; omega), List.getElem?_drop]
          congr 1
          simp
          omega
    · rw [if_neg hj, List.getElem?_eq_none (by simp; omega)]
theorem gb_step {a b c : World} {r r' : Option Nat} (h : a.grownBy b r) (k : b.grownBy c r') (hr : r' = r ∨ r' = none ∨ ∃ g, r' = some g ∧ a.heap.size ≤ g) : a.grownBy c r :=
  ⟨k.os.trans h.os, k.tape.trans h.tape, k.output.trans h.output, Nat.le_trans h.size k.size, fun i hi hn => (k.block i (Nat.lt_of_lt_of_le hi h.size) (by
    rcases hr with rfl | rfl | ⟨g, rfl, hg⟩
    · exact hn
    · simp
    · intro e; have := Option.some.inj e; omega)).trans (h.block i hi hn)⟩
theorem gb_of_below {a b : World} (h : Below a.heap.size a b) (r : Option Nat) : a.grownBy b r := ⟨h.os, h.tape, h.output, h.size, fun k hk _ => h.block k hk⟩
end Go.Proofs.YtemdmdgigmhlbaaGreat

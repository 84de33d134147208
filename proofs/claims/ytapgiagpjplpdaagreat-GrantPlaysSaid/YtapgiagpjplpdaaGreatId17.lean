/- Rows of ids that are sorted and thinned in place: what stands in the block; a sorted row, each kept once, is the document's. No walk. -/
import Derived.Test.YtapgiagpjplpdaaGreatIdL
import Derived.Test.YtapgiagpjplpdaaGreatId10
import Derived.Lib.SlicesCompact
import Derived.Shelf.SlSortCmp.WholeK
import Derived.Test.YtapgiagpjplpdaaGreatKtA
import Derived.Deep.RegionHeld3
import Derived.Deep.DeepCutAuto
import Derived.Shelf.SlLaysF0
set_option linter.unusedVariables false
set_option linter.unusedSimpArgs false
namespace Go.Proofs.YtapgiagpjplpdaaGreat
open Go.RowKit Go.Qc Go.Sort Go.Lib

/-- An id, as its 32 bytes. -/
abbrev IdT := {l : List UInt8 // l.length = 32}
instance : Inhabited IdT := ⟨⟨List.replicate 32 0, rfl⟩⟩
def encT (x : IdT) : List Value := x.1.map u8v
def cfT (x y : IdT) : Int := Lib.compareBytes x.1 y.1
def valsT (d : Array IdT) : List (List UInt8) := d.toList.map (fun x => x.1)
theorem encT_len (x : IdT) : (encT x).length = 32 := by unfold encT; rw [List.length_map]; exact x.2
theorem encT_one : ∀ x : IdT, ∀ v ∈ encT x, v.oneCell' = true := fun x v hv => u8v_one x.1 v hv
theorem valsT_32 (d : Array IdT) : ∀ a ∈ valsT d, a.length = 32 := by
  intro a ha
  obtain ⟨x, _, rfl⟩ := List.mem_map.1 ha
  exact x.2
theorem valsT_len (d : Array IdT) : (valsT d).length = d.size := by unfold valsT; simp
theorem valsT_get {d : Array IdT} {i : Nat} (hi : i < d.size) : (valsT d)[i]? = some d[i]!.1 := by
  unfold valsT
  rw [List.getElem?_map, Array.getElem?_toList, Array.getElem?_eq_getElem hi, getElem!_pos d i hi]
  rfl
theorem lt_cf (x y : IdT) : ltOf cfT x y = true ↔ Lt x.1 y.1 := by
  unfold ltOf cfT Lt
  exact decide_eq_true_iff
theorem nlt_cf (x y : IdT) : ltOf cfT x y = false ↔ ¬ Lt x.1 y.1 := by
  rw [← lt_cf, Bool.not_eq_true]
theorem swoT : SWO (ltOf cfT) where
  irrefl x := (nlt_cf x x).2 (fun h => Lt.irr h)
  trans x y z h1 h2 := (lt_cf x z).2 (((lt_cf x y).1 h1).tr ((lt_cf y z).1 h2))
  ntrans x y z h1 h2 := by
    rw [nlt_cf] at *
    intro h
    by_cases e : x.1 = y.1
    · exact h2 (e ▸ h)
    · exact h2 ((lt_of_not h1 e).tr h)
/-- A row of ids at the head of block g. -/
structure RowG (g c : Nat) (d : Array IdT) (W : World) : Prop where
  le : d.size ≤ c
  cap : c ≤ maxLen
  blk : ∃ cs : Array Value, Blk W g 23 cs ∧ cs.size = c * 32 ∧ cs.toList.take (d.size * 32) = idsV (valsT d)
theorem RowG.below {g c : Nat} {d : Array IdT} {W W' : World} (h : RowG g c d W) (hb : Below W.heap.size W W') : RowG g c d W' :=
  ⟨h.le, h.cap, h.blk.imp fun _ ⟨a, b⟩ => ⟨a.below hb, b⟩⟩
theorem RowG.lt {g c : Nat} {d : Array IdT} {W : World} (h : RowG g c d W) : g < W.heap.size := by
  obtain ⟨cs, h1, _⟩ := h.blk
  exact h1.lt
theorem RowG.cell {g c : Nat} {d : Array IdT} {W : World} (h : RowG g c d W) {t : Nat} {v : Value} (hv : (idsV (valsT d))[t]? = some v) : W.cell? ⟨g, t, none⟩ = some v := by
  obtain ⟨cs, h1, h2, h3⟩ := h.blk
  refine h1.cell_ ?_
  rw [← h3, List.getElem?_take] at hv
  split at hv
  · rwa [Array.getElem?_toList] at hv
  · cases hv
theorem RowG.range {g c : Nat} {d : Array IdT} {W : World} (h : RowG g c d W) {i : Nat} (hi : i < d.size) : W.rangeAt g (i * 32) (d[i]!.1.map u8v) := fun j v hj =>
  h.cell (idsV_get _ i _ j v (valsT_32 d) (valsT_get hi) hj)
theorem flat_get {d : Array IdT} {t : Nat} (ht : t < d.size * 32) : (idsV (valsT d))[t]? = some ((flatK encT 32 d)[t]!) := by
  have hd : t / 32 < d.size := by omega
  rw [get_flatK _ _ _ _ ht]
  have hl : t % 32 < (encT d[t / 32]!).length := by rw [encT_len]; omega
  have := idsV_get (valsT d) (t / 32) d[t / 32]!.1 (t % 32) (encT d[t / 32]!)[t % 32]! (valsT_32 d) (valsT_get hd) (by
    have h1 := List.getElem?_eq_getElem hl
    rw [getElem!_pos (encT d[t / 32]!) (t % 32) hl]
    exact h1)
  rw [show t / 32 * 32 + t % 32 = t by omega] at this
  exact this
theorem RowG.holds {g c : Nat} {d : Array IdT} {W : World} (h : RowG g c d W) : HoldsK encT 32 W g 0 d := by
  intro j hj
  rw [size_flatK] at hj
  rw [Nat.zero_add]
  refine ⟨h.cell (flat_get hj), ?_⟩
  obtain ⟨cs, h1, _⟩ := h.blk
  exact h1.frozen j
theorem RowG.sorted {g c : Nat} {d d' : Array IdT} {W : World} (h : RowG g c d W) (hs : d'.size = d.size) (m : Nat) (os : Array Obj) : RowG g c d' (sortWorldK encT 32 W g 0 m d' os) ∧ W.grownBy (sortWorldK encT 32 W g 0 m d' os) (some g) := by
  obtain ⟨cs, h1, h2, h3⟩ := h.blk
  have hlt := h1.lt
  have hle := h.le
  have hsz : (mapBlock (Sort.ahead W m) g (putCells id 0 (flatK encT 32 d'))).heap.size = W.heap.size := by
    unfold mapBlock; simp [Sort.ahead]
  have hb : Blk (sortWorldK encT 32 W g 0 m d' os) g 23 (putCells id 0 (flatK encT 32 d') cs) := by
    unfold Blk at *
    unfold sortWorldK putRowK putRow
    rw [heap_grow_old _ _ (by rw [hsz]; exact hlt)]
    unfold mapBlock
    rw [Array.getElem?_modify, if_pos rfl]
    rw [show (Sort.ahead W m).heap[g]? = W.heap[g]? from rfl, h1]
    rfl
  refine ⟨⟨by rw [hs]; exact hle, h.cap, _, hb, by unfold putCells; rw [Array.size_mapIdx]; exact h2, ?_⟩, rfl, rfl, rfl, ?_, fun k hk hne => ?_⟩
  · apply List.ext_getElem?
    intro t
    rw [List.getElem?_take]
    by_cases ht : t < d'.size * 32
    · rw [if_pos ht, flat_get ht, Array.getElem?_toList]
      unfold putCells
      have hc : t < cs.size := by rw [h2]; have := Nat.mul_le_mul_right 32 hle; omega
      rw [Array.getElem?_mapIdx, Array.getElem?_eq_getElem hc, Option.map_some, if_pos ⟨Nat.zero_le _, by rw [size_flatK, Nat.zero_add]; exact ht⟩]
      rfl
    · rw [if_neg ht, List.getElem?_eq_none]
      rw [idsV_length _ (valsT_32 d'), valsT_len]
      omega
  · unfold sortWorldK putRowK putRow Go.Sort.grow
    rw [Array.size_append, hsz]
    exact Nat.le_add_right _ _
  · unfold sortWorldK putRowK putRow
    rw [heap_grow_old _ _ (by rw [hsz]; exact hk)]
    unfold mapBlock
    rw [Array.getElem?_modify, if_neg (fun e => hne (by rw [e]))]
    rfl
theorem take_three {P V R : List Value} {a n : Nat} (hP : P.length = a) (hV : V.length = 32) (hn : a + 32 ≤ n) : (P ++ V ++ R).take n = P ++ V ++ R.take (n - (a + 32)) := by
  rw [List.take_append, List.take_of_length_le (l := P ++ V) (by rw [List.length_append, hP, hV]; exact hn), List.length_append, hP, hV]
theorem RowG.put {g c k : Nat} {d : Array IdT} {W W' : World} {cs : Array Value} (h : RowG g c d W) (hcs : cs.size = c * 32) (ht : cs.toList.take (d.size * 32) = idsV (valsT d)) (hk : k < d.size) (x : IdT)
    (hb : Blk W' g 23 (over cs (k * 32) (idVals x.1).toList)) : RowG g c (d.setIfInBounds k x) W' := by
  have hl : (idVals x.1).toList.length = 32 := by unfold idVals; simp [x.2]
  have hle := h.le
  have hm : k * 32 + 32 ≤ d.size * 32 := by omega
  have hm2 : d.size * 32 ≤ c * 32 := Nat.mul_le_mul_right 32 hle
  refine ⟨by rw [Array.size_setIfInBounds]; exact hle, h.cap, _, hb, ?_, ?_⟩
  · rw [over_size _ _ _ (by rw [hl, hcs]; omega), hcs]
  · have e1 : valsT (d.setIfInBounds k x) = (valsT d).take k ++ [x.1] ++ (valsT d).drop (k + 1) := by
      apply List.ext_getElem?
      intro i
      unfold valsT
      rw [Array.toList_setIfInBounds, List.map_set, List.getElem?_set]
      have hlen : (d.toList.map (fun x => x.1)).length = d.size := by simp
      rw [List.append_assoc, List.getElem?_append, List.length_take, hlen, Nat.min_eq_left (by omega)]
      by_cases h1 : i < k
      · rw [if_pos h1, if_neg (by omega), List.getElem?_take, if_pos h1]
      · rw [if_neg h1]
        by_cases h2 : k = i
        · subst h2
          rw [if_pos rfl, if_pos (by first | exact hk | (rw [hlen]; exact hk)), Nat.sub_self]
          rfl
        · rw [if_neg h2, List.getElem?_append_right (by rw [List.length_singleton]; omega), List.length_singleton, List.getElem?_drop, show k + 1 + (i - k - 1) = i by omega]
    have e2 : idsV ((valsT d).take k) = cs.toList.take (k * 32) := by
      have := congrArg (List.take (k * 32)) ht
      rw [List.take_take, Nat.min_eq_left (by omega)] at this
      rw [this]
      conv => rhs; rw [← List.take_append_drop k (valsT d), idsV_append]
      have hq : (idsV ((valsT d).take k)).length = k * 32 := by
        rw [idsV_length _ (fun a ha => valsT_32 d a (List.mem_of_mem_take ha)), List.length_take, valsT_len, Nat.min_eq_left (by omega)]
      rw [List.take_left' hq]
    have e3 : idsV ((valsT d).drop (k + 1)) = (cs.toList.drop (k * 32 + 32)).take (d.size * 32 - (k * 32 + 32)) := by
      have := congrArg (List.drop (k * 32 + 32)) ht
      rw [List.drop_take] at this
      rw [this]
      conv => rhs; rw [← List.take_append_drop (k + 1) (valsT d), idsV_append]
      have hq : (idsV ((valsT d).take (k + 1))).length = k * 32 + 32 := by
        rw [idsV_length _ (fun a ha => valsT_32 d a (List.mem_of_mem_take ha)), List.length_take, valsT_len, Nat.min_eq_left (by omega)]
        omega
      rw [List.drop_left' hq]
    rw [Array.size_setIfInBounds, e1, idsV_append, idsV_append, e2, e3]
    unfold over
    have hq : (cs.toList.take (k * 32)).length = k * 32 := by
      rw [List.length_take, Array.length_toList, hcs, Nat.min_eq_left (by omega)]
    rw [hl, List.toList_toArray, take_three hq hl hm]
    congr 1
    congr 1
    unfold idVals idsV
    simp
theorem RowG.rd {g c m : Nat} {d : Array IdT} {W : World} (h : RowG g c d W) (hm : m ≤ d.size) : IdRd W (some ⟨g, 0, none⟩) ((valsT d).take m) :=
  ⟨fun a ha => valsT_32 d a (List.mem_of_mem_take ha), .inr ⟨g, 0, rfl, fun j v hj => by
    rw [Nat.zero_add]
    refine h.cell ?_
    rw [← List.take_append_drop m (valsT d), idsV_append, List.getElem?_append_left (List.getElem?_eq_some_iff.1 hj).1]
    exact hj⟩⟩
theorem RowG.own {w : World} {base n c : Nat} {A : Option Addr} {l : List (List UInt8)} (h : w.ownsRow base 23 32 (.slice A n c) n (idsV l)) (h32 : ∀ a ∈ l, a.length = 32) :
    (A = none ∧ n = 0 ∧ c = 0 ∧ l = []) ∨ ∃ (g : Nat) (d : Array IdT), A = some ⟨g, 0, none⟩ ∧ base ≤ g ∧ d.size = n ∧ valsT d = l ∧ RowG g c d w := by
  have hl0 := h.1
  rw [idsV_length l h32] at hl0
  have hn : l.length = n := by omega
  rcases h.2 with ⟨h1, rfl⟩ | ⟨g, cap, cur, h1, hg, hb, hnc, hcm, hsz, htk⟩
  · injection h1 with q1 q2 q3
    exact .inl ⟨q1, rfl, q3, List.eq_nil_of_length_eq_zero hn⟩
  · injection h1 with q1 q2 q3
    subst q3
    have hv : valsT (l.attach.map (fun x => (⟨x.1, h32 x.1 x.2⟩ : IdT))).toArray = l := by
      unfold valsT
      rw [List.toList_toArray, List.map_map]
      exact List.attach_map_subtype_val l
    have hs : (l.attach.map (fun x => (⟨x.1, h32 x.1 x.2⟩ : IdT))).toArray.size = n := by
      rw [← valsT_len, hv, hn]
    exact .inr ⟨g, _, q1, hg, hs, hv, by rw [hs]; exact hnc, hcm, cur, hb, hsz, by rw [hs, hv]; exact htk⟩

/-! ### each once -/
theorem mem_valsT {d : Array IdT} {x : List UInt8} : x ∈ valsT d ↔ ∃ i, i < d.size ∧ d[i]!.1 = x := by
  constructor
  · intro h
    obtain ⟨i, hi⟩ := List.getElem?_of_mem h
    have hl : i < d.size := by
      have := (List.getElem?_eq_some_iff.1 hi).1
      rwa [valsT_len] at this
    rw [valsT_get hl] at hi
    cases hi
    exact ⟨i, hl, rfl⟩
  · rintro ⟨i, hi, rfl⟩
    exact List.mem_of_getElem? (valsT_get hi)
theorem kept_of (d : Array IdT) : ∀ i, ∃ j, j ≤ i ∧ keeps d j = true ∧ d[j]! = d[i]!
  | 0 => ⟨0, Nat.le_refl _, by simp [keeps], rfl⟩
  | i + 1 => by
    by_cases h : d[i + 1]! = d[i]!
    · obtain ⟨j, h1, h2, h3⟩ := kept_of d i
      exact ⟨j, by omega, h2, h3.trans h.symm⟩
    · exact ⟨i + 1, Nat.le_refl _, keeps_pos h, rfl⟩
/-- What is kept of the first m places. -/
def keptT (d : Array IdT) (m : Nat) : List (List UInt8) := (compactUpTo d m).map (fun x => x.1)
theorem compact_sort {d : Array IdT} {l : List (List UInt8)} (hs : SortedIn (ltOf cfT) 0 d.size d) (hm : ∀ x, x ∈ valsT d ↔ x ∈ l) : keptT d d.size = sortL l := by
  unfold keptT
  have step : ∀ i j, i < j → j < d.size → keeps d j = true → Lt d[i]!.1 d[j]!.1 := by
    intro i j hij hj hk
    have hne : d[j]! ≠ d[j - 1]! := by
      rcases of_decide_eq_true hk with h | h
      · omega
      · exact h
    have h1 : Lt d[j - 1]!.1 d[j]!.1 := lt_of_not ((nlt_cf _ _).1 (hs (j - 1) j (Nat.zero_le _) (by omega) hj)) (fun e => hne (Subtype.ext e))
    by_cases e : i = j - 1
    · rw [e]; exact h1
    · have h2 := (nlt_cf _ _).1 (hs i (j - 1) (Nat.zero_le _) (by omega) (by omega))
      by_cases e2 : d[j - 1]!.1 = d[i]!.1
      · rw [← e2]; exact h1
      · exact (lt_of_not h2 e2).tr h1
  refine rising_ext _ _ ?_ (rising_sortL l) (fun x => ?_)
  · unfold compactUpTo Rising
    rw [List.pairwise_map, List.pairwise_map]
    refine List.Pairwise.imp_of_mem (R := fun i j => i < j) (fun {a b} ha hb hab => ?_) (List.Pairwise.filter _ List.pairwise_lt_range)
    obtain ⟨hb1, hb2⟩ := List.mem_filter.1 hb
    exact step a b hab (List.mem_range.1 hb1) hb2
  · rw [mem_sortL, ← hm, mem_valsT]
    unfold compactUpTo
    constructor
    · intro h
      obtain ⟨y, hy, rfl⟩ := List.mem_map.1 h
      obtain ⟨i, hi, rfl⟩ := List.mem_map.1 hy
      exact ⟨i, List.mem_range.1 (List.mem_filter.1 hi).1, rfl⟩
    · rintro ⟨i, hi, rfl⟩
      obtain ⟨j, h1, h2, h3⟩ := kept_of d i
      exact List.mem_map.2 ⟨_, List.mem_map.2 ⟨j, List.mem_filter.2 ⟨List.mem_range.2 (by omega), h2⟩, h3⟩, rfl⟩
theorem perm_mem {d d' : Array IdT} (h : PermIn 0 d.size d d') : ∀ x, x ∈ valsT d' ↔ x ∈ valsT d := by
  obtain ⟨h1, _, h3⟩ := h
  have e1 : d.extract 0 d.size = d := Array.extract_size
  have e2 : d'.extract 0 d.size = d' := by rw [← h1]; exact Array.extract_size
  rw [e1, e2] at h3
  intro x
  unfold valsT
  exact (h3.map (fun x : IdT => x.1)).mem_iff
end Go.Proofs.YtapgiagpjplpdaaGreat
/- slices.Compact at ids: in place; what is kept stands at the row's head. -/
set_option linter.unusedVariables false
set_option linter.unusedSimpArgs false
namespace Go.Proofs.YtapgiagpjplpdaaGreat
open Go.RowKit Go.Qc Go.Sort Go.Lib
attribute [local go_sem] txt_size

theorem wpList_store_row {P : Program} {w : World} {ops : Array Oper} {rest : List Oper} {o : Oper} {a : Act} {Q : Exit → Act → World → Prop} (hgd : o.guard = none) (ty : TypeId) (x y : Operand) (ho : o.op = .store ty x y)
    (g off : Nat) (old cs : Array Value) (t : TypeId) (hg : Blk w g t old) (hx : a.eval x = .pointer (some ⟨g, off, none⟩)) (hy : a.eval y = .agg cs) (hi : (P.info? ty).map (·.size) = some cs.size) (hs : off + cs.size ≤ old.size) (h1 : cs.all (·.oneCell') = true)
    (h : ∀ w', Blk w' g t (over old off cs.toList) → w.grownBy w' (some g) → wpList P ops Q rest (a.put o.dst undef) w') : wpList P ops Q (o :: rest) a w :=
  wpList_plain hgd fun K hK => wp_store_at ty x y ho g off old cs t hg hx hy hi hs h1 (fun w' hb hgr => hK _ _ (h w' hb hgr))
theorem idgb_below {w W W' : World} {r : Option Nat} (h : w.grownBy W r) (hb : Below W.heap.size W W') : w.grownBy W' r :=
  ⟨hb.os.trans h.os, hb.tape.trans h.tape, hb.output.trans h.output, Nat.le_trans h.size hb.size, fun k hk hne => (hb.block k (Nat.lt_of_lt_of_le hk h.size)).trans (h.block k hk hne)⟩
theorem idgb_trans {w W W' : World} {r : Option Nat} (h : w.grownBy W r) (g : W.grownBy W' r) : w.grownBy W' r :=
  ⟨g.os.trans h.os, g.tape.trans h.tape, g.output.trans h.output, Nat.le_trans h.size g.size, fun k hk hne => (g.block k (Nat.lt_of_lt_of_le hk h.size) hne).trans (h.block k hk hne)⟩
theorem index_row (g o n c k : Nat) (hk : k < n) (W : World) : (Instr.indexAt 48 (.slice (some ⟨g, o, none⟩) n c) (.int .i64 (k : Int))).run Tryz.prog W = .ok (.pointer (some ⟨g, o + k * 32, none⟩)) W := by
  obtain ⟨i0, hi, h32, _⟩ := infoId_parts
  have h1 : (0 : Int) ≤ (k : Int) ∧ (k : Int) < (n : Int) := by omega
  simp [Instr.indexAt, run_underlying Tryz.underlying48, asIntOf, h1, sizeOf, typeInfo, hi, h32, Addr.add_lit, Int.toNat_natCast]
  intro h2; omega
theorem idslice_from (g n c k : Nat) (hk : k < n) (hc : n ≤ c) (W : World) : (Instr.sliceAt 48 (.slice (some ⟨g, 0, none⟩) n c) (some (.int .i64 (k : Int))) none none).run Tryz.prog W = .ok (.slice (some ⟨g, k * 32, none⟩) (n - k) (c - k)) W := by
  obtain ⟨i0, hi, h32, _⟩ := infoId_parts
  have h1 : (0 : Int) ≤ (k : Int) ∧ (k : Int) ≤ (n : Int) := by omega
  have h2 : c ≠ k := by omega
  simp [Instr.sliceAt, Instr.slice, Instr.sliceBounds, run_underlying Tryz.underlying48, run_sliceBound, h1, sizeOf, typeInfo, hi, h32, Addr.add_lit, Int.toNat_natCast, h2]
  all_goals first | omega | skip
theorem idslice_to (g n c k : Nat) (hk : k ≤ n) (hc : n ≤ c) (W : World) : (Instr.sliceAt 48 (.slice (some ⟨g, 0, none⟩) n c) none (some (.int .i64 (k : Int))) none).run Tryz.prog W = .ok (.slice (some ⟨g, 0, none⟩) k c) W := by
  obtain ⟨i0, hi, h32, _⟩ := infoId_parts
  have h1 : (0 : Int) ≤ (k : Int) ∧ (k : Int) ≤ (c : Int) := by omega
  simp [Instr.sliceAt, Instr.slice, Instr.sliceBounds, run_underlying Tryz.underlying48, run_sliceBound, h1, sizeOf, typeInfo, hi, h32, Addr.add_lit, Int.toNat_natCast]
  all_goals first | omega | skip
theorem zero_id (W : World) : (zeroValue 23).run Tryz.prog W = .ok (.agg (idVals zeroB)) W := by
  obtain ⟨j0, hj, hjz, hjs, hjb⟩ := infoId2_parts
  simp [zeroValue, typeInfo, hj, hjz]
theorem clear_row {g c k : Nat} {d : Array IdT} {W : World} (h : RowG g c d W) (hk : k < d.size) :
    ∃ W', (∀ ty, (Builtin.clear_ #[48] ty #[.slice (some ⟨g, k * 32, none⟩) (d.size - k) (c - k)]).run Tryz.prog W = .ok (.tuple #[]) W') ∧ IdRd W' (some ⟨g, 0, none⟩) ((valsT d).take k) ∧ W.grownBy W' (some g) := by
  obtain ⟨cs, h1, h2, h3⟩ := h.blk
  have hle := h.le
  have hm : d.size * 32 ≤ c * 32 := Nat.mul_le_mul_right 32 hle
  obtain ⟨zv, hzv, hz⟩ : ∃ zv : Value, (∀ W, (zeroValue 23).run Tryz.prog W = .ok zv W) ∧ zv.cells = idVals zeroB := ⟨_, zero_id, rfl⟩
  have hz32 : (idVals zeroB).size = 32 := by rw [idVals_size]; rfl
  have hlen : (Builtin.zeroCells (idVals zeroB) (d.size - k)).toList.length = (d.size - k) * 32 := by
    unfold Builtin.zeroCells
    simp [hz32]
  have hone : ∀ v ∈ (Builtin.zeroCells (idVals zeroB) (d.size - k)).toList, v.oneCell' = true := by
    intro v hv
    unfold Builtin.zeroCells at hv
    simp only [Array.toList_map, List.mem_map] at hv
    obtain ⟨i, _, rfl⟩ := hv
    have hlt : i % (idVals zeroB).size < (idVals zeroB).size := Nat.mod_lt _ (by rw [hz32]; decide)
    rw [getElem!_pos (idVals zeroB) _ hlt]
    exact (Array.all_eq_true_iff_forall_mem.1 (idVals_one zeroB)) _ (Array.getElem_mem hlt)
  have hst := run_storeCells_at Tryz.prog g (k * 32) 23 (Builtin.zeroCells (idVals zeroB) (d.size - k)).toList 0 cs W h1 (by rw [hlen, h2]; omega) hone
  simp only [Nat.add_zero] at hst
  obtain ⟨hb, hgr⟩ := blk_over h1 (over cs (k * 32) (Builtin.zeroCells (idVals zeroB) (d.size - k)).toList)
  obtain ⟨m, hm2⟩ : ∃ m, d.size - k = m + 1 := ⟨d.size - k - 1, by omega⟩
  refine ⟨_, fun ty => ?_, ⟨fun a ha => valsT_32 d a (List.mem_of_mem_take ha), .inr ⟨g, 0, rfl, fun j v hj => ?_⟩⟩, hgr⟩
  · rw [hm2] at hst ⊢
    simp [Builtin.clear_, run_underlying Tryz.underlying48, hzv, hz, hst]
    simp [over]
  · rw [Nat.zero_add]
    have hjl := (List.getElem?_eq_some_iff.1 hj).1
    rw [idsV_length _ (fun a ha => valsT_32 d a (List.mem_of_mem_take ha)), List.length_take, valsT_len, Nat.min_eq_left (by omega)] at hjl
    refine hb.cell_ ?_
    rw [over_get _ _ _ (by rw [hlen, h2]; omega), if_pos hjl]
    have hq : (idsV (valsT d))[j]? = some v := by
      rw [← List.take_append_drop k (valsT d), idsV_append, List.getElem?_append_left (List.getElem?_eq_some_iff.1 hj).1]
      exact hj
    rw [← h3, List.getElem?_take] at hq
    split at hq
    · rwa [Array.getElem?_toList] at hq
    · cases hq
theorem comp_take {d dk : Array IdT} {n k : Nat} (h : CompInv d n k dk) (hk : k ≤ dk.size) : (valsT dk).take k = keptT d n := by
  unfold keptT
  apply List.ext_getElem?
  intro i
  rw [List.getElem?_take, List.getElem?_map]
  by_cases hi : i < k
  · rw [if_pos hi, h.low i hi, valsT_get (by omega)]
    rfl
  · rw [if_neg hi, List.getElem?_eq_none (by rw [h.len]; omega)]
    rfl
set_option maxRecDepth 100000 in
set_option maxHeartbeats 40000000 in
theorem compact_any (g c : Nat) (d : Array IdT) (hn9 : d.size ≤ 1000000) (w : World) (hR : RowG g c d w) :
    Calls Tryz.prog 60 #[.slice (some ⟨g, 0, none⟩) d.size c] w fun e w' => ∃ m, e = .returned (.slice (some ⟨g, 0, none⟩) m c) ∧ RowR w' (some ⟨g, 0, none⟩) m (keptT d d.size) ∧ w.grownBy w' (some g) := by
  have hu := Tryz.underlying23
  have mixed : Tryz.prog.follows .mixedOrders = true := by kernel_rfl
  have hle := hR.le
  have whole : (∀ j, j < d.size → keeps d j = true) → ∀ wr, Below w.heap.size w wr → ∃ m, (Ending.returned (.slice (some ⟨g, 0, none⟩) d.size c)) = .returned (.slice (some ⟨g, 0, none⟩) m c) ∧ RowR wr (some ⟨g, 0, none⟩) m (keptT d d.size) ∧ w.grownBy wr (some g) := by
    intro hall wr hb
    refine ⟨d.size, rfl, ?_, ⟨hb.os, hb.tape, hb.output, hb.size, fun k hk _ => hb.block k hk⟩⟩
    unfold keptT
    rw [compactUpTo_all d _ hall, range_map_get]
    have := (hR.below hb).rd (Nat.le_refl d.size)
    rw [List.take_of_length_le (by rw [valsT_len]; exact Nat.le_refl _)] at this
    exact ⟨by simp, hn9, this⟩
  obtain ⟨n, hn⟩ : ∃ n, n = d.size := ⟨_, rfl⟩
  have HWH := hid whole
  clear whole
  rw [← hn] at HWH hle hn9 ⊢
  by_cases h2 : n < 2
  · have HN := hid hn
    have b1 : (n : Int) < 2 := by omega
    clear hn
    go_enter Tryz.func60, Tryz.ntmps60
    go_wp2
    go_ret
    exact HWH.out (fun j hj => by
      have := HN.out
      exact keeps_lt_one d j (by omega)) _ (Below.refl _ _)
  · have b1 : ¬ (n : Int) < 2 := by omega
    have HN := hid hn
    clear hn
    go_enter Tryz.func60, Tryz.ntmps60
    go_wp2
    go_loopw [3] (fun i wr => ∃ j : Nat, j + 1 ≤ n ∧ i = .int .i64 ((j : Int) + 1) ∧ (∀ i, i < j + 1 → keeps d i = true) ∧ Below w.heap.size w wr) (fun i _ => n + 1 - (intOf i).toNat)
    case atStart => exact ⟨0, by omega, rfl, fun i hi => keeps_lt_one d i (by omega), Below.refl _ _⟩
    case round =>
      obtain ⟨j, hj, rfl, hall, hb⟩ := hrel
      by_cases hlt : j + 1 < n
      · have hj1 : j + 1 < d.size := by rw [← HN.out]; exact hlt
        have hj0 : j < d.size := by omega
        have RBk := hR.below hb
        obtain ⟨x, hx⟩ : ∃ x, d[j + 1]! = x := ⟨_, rfl⟩
        obtain ⟨y, hy⟩ : ∃ y, d[j]! = y := ⟨_, rfl⟩
        have rx := RBk.range hj1
        have ry := RBk.range hj0
        rw [hx] at rx
        rw [hy] at ry
        have hix := index_row g 0 n c (j + 1) hlt
        have hiy := index_row g 0 n c j (by omega)
        rw [show ((j + 1 : Nat) : Int) = (j : Int) + 1 by omega, Nat.zero_add] at hix
        rw [Nat.zero_add] at hiy
        have b2 : (j : Int) + 1 < n := by omega
        have b3 : (0 : Int) ≤ j := by omega
        have b4 : IntKind.i64.wrap (j : Int) = j := by
          rw [IntKind.wrap_i64]; omega
        have fx := range_later rx
        have fy := range_later ry
        have hzx : (Tryz.prog.info? 23).map (·.size) = some (x.1.map u8v).length := by rw [List.length_map, x.2]; exact sizeId
        have hzy : (Tryz.prog.info? 23).map (·.size) = some (y.1.map u8v).length := by rw [List.length_map, y.2]; exact sizeId
        obtain ⟨t, ht⟩ : ∃ t, decide (x.1 = y.1) = t := ⟨_, rfl⟩
        have heq : ∀ W, (Op.equalIn 10000 23 (.agg (List.map u8v x.1).toArray) (.agg (List.map u8v y.1).toArray)).run Tryz.prog W = .ok t W := fun W => (ids_eq W x.1 y.1 x.2 y.2).trans (by rw [ht])
        obtain ⟨o, ho⟩ : ∃ o, o = (j + 1) * 32 := ⟨_, rfl⟩
        obtain ⟨m, hm⟩ : ∃ m, m = n - (j + 1) := ⟨_, rfl⟩
        obtain ⟨c2, hc2⟩ : ∃ c2, c2 = c - (j + 1) := ⟨_, rfl⟩
        have hsl := idslice_from g n c (j + 1) hlt hle
        rw [show ((j + 1 : Nat) : Int) = (j : Int) + 1 by omega, ← ho, ← hm, ← hc2] at hsl
        rw [← ho] at hix fx
        have HO := hid ho
        have HM := hid hm
        have HC2 := hid hc2
        have HX := hid hx
        have HY := hid hy
        have HT := hid ht
        have HALL := hid hall
        clear ho hm hc2 hx hy ht hall rx ry RBk
        go_wp2
        refine wp_region_later mixed (by kernel_rfl) ?_
        repeat (first
          | ((with_reducible refine wpQuiet_skip (by with_unfolding_all rfl) ?_); simp only [Act.put, List.setIfInBounds_toArray, List.set_cons_zero, List.set_cons_succ])
          | ((with_reducible refine wpQuiet_load_if (by with_unfolding_all rfl) 23 _ rfl _ _ rfl (x.1.map u8v) _ fx hu (by with_unfolding_all rfl) hzx ?_); simp only [Act.put, List.setIfInBounds_toArray, List.set_cons_zero, List.set_cons_succ])
          | ((with_reducible refine wpQuiet_load_if (by with_unfolding_all rfl) 23 _ rfl _ _ rfl (y.1.map u8v) _ fy hu (by with_unfolding_all rfl) hzy ?_); simp only [Act.put, List.setIfInBounds_toArray, List.set_cons_zero, List.set_cons_succ])
          | ((with_reducible refine wpQuiet_step (fun K hK => ?_)); go_simp; first | ((with_reducible refine hK _ ?_); clear hK K) | (with_reducible apply Exists.intro; (with_reducible refine ⟨fun _ => ?_, hK _ ?_⟩); ((fail)); clear hK K)))
        with_reducible refine wpQuiet_nil ?_
        intro _ hw'
        obtain ⟨p, rfl⟩ := hw'
        have hp := p.h
        generalize p.w = wq at *
        replace hb := hb.trans (hp.mono hb.size)
        clear hp fx fy hzx hzy heq hix hiy
        cases t with
        | false =>
          go_wp2
          go_roundw
          case rel => exact ⟨j + 1, by omega, by go_num, (fun i hi => by
            by_cases e : i = j + 1
            · subst e
              refine keeps_pos ?_
              rw [HX.out, show j + 1 - 1 = j from rfl, HY.out]
              exact fun e => of_decide_eq_false HT.out (congrArg Subtype.val e)
            · exact HALL.out i (by omega)), hb⟩
          case measure => simp [intOf]; omega
        | true =>
          have hI : CompInv d (j + 1 + 1) (j + 1) d := CompInv.start HALL.out (keeps_neg (by omega) (by rw [HX.out, show j + 1 - 1 = j from rfl, HY.out]; exact Subtype.ext (of_decide_eq_true HT.out)))
          have hg0 : w.grownBy wq (some g) := ⟨hb.os, hb.tape, hb.output, hb.size, fun k hk _ => hb.block k hk⟩
          have hR0 := hR.below hb
          clear hb
          go_wp2
          go_loopw [3, 5] (fun s3 s5 wr => ∃ (kk i : Nat) (dk : Array IdT), s3 = .int .i64 kk ∧ s5 = .int .i64 ((i : Int) + 1) ∧ i + 1 ≤ m ∧ RowG g c dk wr ∧ CompInv d (j + 1 + (i + 1)) kk dk ∧ w.grownBy wr (some g)) (fun _ s5 _ => m + 1 - (intOf s5).toNat)
          case atStart => exact ⟨j + 1, 0, d, by go_num, rfl, by have := HM.out; omega, hR0, hI, hg0⟩
          case round =>
            clear hI hg0 hR0
            obtain ⟨kk, i, dk, rfl, rfl, hi1, hRk, hI, hgr⟩ := hrel
            have hkk := hI.lt
            have hdk := hI.size
            have em := HM.out
            have en := HN.out
            by_cases hlt2 : i + 1 < m
            · have hk1 : j + 1 + (i + 1) < dk.size := by omega
              have hk0 : j + 1 + i < dk.size := by omega
              have hkz : kk < dk.size := by omega
              obtain ⟨u, hU⟩ : ∃ u, d[j + 1 + (i + 1)]! = u := ⟨_, rfl⟩
              obtain ⟨v, hv⟩ : ∃ v, d[j + 1 + i]! = v := ⟨_, rfl⟩
              have ru := hRk.range hk1
              have rv := hRk.range hk0
              rw [hI.high _ (by omega), hU, show (j + 1 + (i + 1)) * 32 = o + (i + 1) * 32 by have := HO.out; omega] at ru
              rw [hI.high _ (by omega), hv, show (j + 1 + i) * 32 = o + i * 32 by have := HO.out; omega] at rv
              have hiu := index_row g o m c2 (i + 1) hlt2
              have hiv := index_row g o m c2 i (by omega)
              rw [show ((i + 1 : Nat) : Int) = (i : Int) + 1 by omega] at hiu
              have hik := index_row g 0 n c kk (by omega)
              rw [Nat.zero_add] at hik
              have d2 : (i : Int) + 1 < m := by omega
              have d3 : (0 : Int) ≤ i := by omega
              have d4 : IntKind.i64.wrap (i : Int) = i := by
                rw [IntKind.wrap_i64]; omega
              have d5 : (kk : Int) ≤ 1000000 := by omega
              have d7 : (m : Int) ≤ 1000000 := by omega
              have d6 : (0 : Int) ≤ kk := by omega
              have fu := range_later ru
              have fv := range_later rv
              have hzu : (Tryz.prog.info? 23).map (·.size) = some (u.1.map u8v).length := by rw [List.length_map, u.2]; exact sizeId
              have hzv : (Tryz.prog.info? 23).map (·.size) = some (v.1.map u8v).length := by rw [List.length_map, v.2]; exact sizeId
              obtain ⟨t2, ht2⟩ : ∃ t2, decide (u.1 = v.1) = t2 := ⟨_, rfl⟩
              have heq2 : ∀ W, (Op.equalIn 10000 23 (.agg (List.map u8v u.1).toArray) (.agg (List.map u8v v.1).toArray)).run Tryz.prog W = .ok t2 W := fun W => (ids_eq W u.1 v.1 u.2 v.2).trans (by rw [ht2])
              obtain ⟨cs, q1, q2, q3⟩ := hRk.blk
              have HU := hid hU
              have HV := hid hv
              have HT2 := hid ht2
              have HI := hid hI
              have HKZ := hid hkz
              have HK1 := hid hk1
              have HQ2 := hid q2
              have HQ3 := hid q3
              have HEM := hid em
              have HEN := hid en
              have HDK := hid hdk
              clear hU hv ht2 hI ru rv hk1 hk0 hkz q2 q3 em en hdk
              go_wp2
              refine wp_region_later mixed (by kernel_rfl) ?_
              repeat (first
                | ((with_reducible refine wpQuiet_skip (by with_unfolding_all rfl) ?_); simp only [Act.put, List.setIfInBounds_toArray, List.set_cons_zero, List.set_cons_succ])
                | ((with_reducible refine wpQuiet_load_if (by with_unfolding_all rfl) 23 _ rfl _ _ rfl (u.1.map u8v) _ fu hu (by with_unfolding_all rfl) hzu ?_); simp only [Act.put, List.setIfInBounds_toArray, List.set_cons_zero, List.set_cons_succ])
                | ((with_reducible refine wpQuiet_load_if (by with_unfolding_all rfl) 23 _ rfl _ _ rfl (v.1.map u8v) _ fv hu (by with_unfolding_all rfl) hzv ?_); simp only [Act.put, List.setIfInBounds_toArray, List.set_cons_zero, List.set_cons_succ])
                | ((with_reducible refine wpQuiet_step (fun K hK => ?_)); go_simp; first | ((with_reducible refine hK _ ?_); clear hK K) | (with_reducible apply Exists.intro; (with_reducible refine ⟨fun _ => ?_, hK _ ?_⟩); ((fail)); clear hK K)))
              with_reducible refine wpQuiet_nil ?_
              intro _ hw'
              obtain ⟨p, rfl⟩ := hw'
              have hp := p.h
              have q1b := q1.below hp
              have fu2 : p.w.rangeAt g (o + (i + 1) * 32) (u.1.map u8v) := fu p.w ⟨p, rfl⟩
              generalize p.w = wz at *
              have hRz := hRk.below hp
              have hgz := idgb_below hgr hp
              clear hp fu fv hzv heq2 hiv q1
              cases t2 with
              | true =>
                go_wp2
                go_roundw
                case rel => exact ⟨kk, i + 1, dk, rfl, by go_num, by omega, hRz, HI.out.skip (keeps_neg (by omega) (by rw [HU.out, show j + 1 + (i + 1) - 1 = j + 1 + i from rfl, HV.out]; exact Subtype.ext (of_decide_eq_true HT2.out))), hgz⟩
                case measure => simp [intOf]; omega
              | false =>
                go_wp2_with (first
                  | (with_reducible refine wpList_load_if (by with_unfolding_all rfl) 23 _ rfl _ _ rfl (u.1.map u8v) _ fu2 hu (by with_unfolding_all rfl) hzu ?_)
                  | ((with_reducible refine wpList_store_row rfl 23 _ _ rfl g (kk * 32) cs (idVals u.1) 23 q1b rfl rfl (by rw [idVals_size, u.2]; exact sizeId) (by rw [idVals_size, u.2, HQ2.out]; have := HKZ.out; have := HDK.out; have := HEN.out; omega) (idVals_one _) ?_); intro w8 hb8 hg8))
                go_roundw
                case rel =>
                  refine ⟨kk + 1, i + 1, dk.setIfInBounds kk u, by go_num, by go_num, by omega, hRz.put HQ2.out HQ3.out HKZ.out u hb8, ?_, idgb_trans hgz hg8⟩
                  have := HI.out.keep (by have := HK1.out; have := HDK.out; omega) (keeps_pos (by rw [HU.out, show j + 1 + (i + 1) - 1 = j + 1 + i from rfl, HV.out]; exact fun e => of_decide_eq_false HT2.out (congrArg Subtype.val e)))
                  rw [HU.out] at this
                  exact this
                case measure => simp [intOf]; omega
            · have him : i + 1 = m := by omega
              have d2 : ¬ (i : Int) + 1 < m := by omega
              have e2 : j + 1 + (i + 1) = d.size := by omega
              have hkz : kk < dk.size := by omega
              obtain ⟨w5, hcl, hrd, hg5⟩ := clear_row hRk hkz
              rw [hdk, ← en] at hcl
              have hs1 := idslice_from g n c kk (by omega) hle
              have hs2 := idslice_to g n c kk (by omega) hle
              have d6 : (0 : Int) ≤ kk := by omega
              have hgf := idgb_trans hgr hg5
              rw [e2] at hI
              have hct := comp_take hI (by omega)
              rw [hct] at hrd
              have HL : Hid ((keptT d d.size).length = kk) := hid (by unfold keptT; rw [List.length_map]; exact hI.len)
              have HIR := hid hrd
              have HKN : Hid (kk ≤ 1000000) := hid (by omega)
              clear hI hct hrd hkz hdk e2 em en him hkk
              go_wp2
              go_ret
              exact ⟨kk, rfl, by rw [HN.out]; exact ⟨HL.out, HKN.out, HIR.out⟩, hgf⟩
      · obtain rfl : n = j + 1 := by omega
        have b2 : ¬ (j : Int) + 1 < ((j + 1 : Nat) : Int) := by omega
        have HALL := hid hall
        clear hall
        go_wp2
        go_ret
        exact HWH.out (fun i hi => HALL.out i hi) _ hb
end Go.Proofs.YtapgiagpjplpdaaGreat
/- id.Sort: the document's row; THE LAW IdRows. -/
set_option linter.unusedVariables false
set_option linter.unusedSimpArgs false
namespace Go.Proofs.YtapgiagpjplpdaaGreat
open Go.RowKit Go.Qc Go.Sort Go.Lib Go.Shelf
attribute [local go_sem] txt_size
def srt_ren : Go.Shelf.Ren := ⟨fun | 6 => 58 | 15 => 82 | 14 => 81 | 28 => 101 | 29 => 102 | 20 => 93 | 21 => 94 | 22 => 95 | 23 => 96 | 24 => 97 | 25 => 98 | 26 => 99 | 27 => 100 | 46 => 107 | 47 => 108 | 48 => 109 | 49 => 110 | 50 => 111 | 57 => 113 | n => n, fun | 22 => 48 | 24 => 23 | 25 => 92 | 3 => 3 | 39 => 115 | 0 => 0 | 53 => 129 | 55 => 131 | 4 => 4 | 46 => 123 | 45 => 122 | 50 => 97 | 5 => 5 | 9 => 9 | 66 => 133 | 70 => 137 | 76 => 139 | 77 => 140 | n => n, fun | n => n⟩
theorem srt : Go.Proofs.SlLaysF0.n6 Tryz.prog srt_ren := {
  mixed := by kernel_rfl
  f6 := ⟨Tryz.f58.name, by decide, Tryz.func58.trans (congrArg some (by kernel_rfl))⟩
  f14 := ⟨Tryz.f81.name, by decide, Tryz.func81.trans (congrArg some (by kernel_rfl))⟩
  f15 := Tryz.func82.trans (congrArg some (by kernel_rfl))
  f20 := ⟨Tryz.f93.name, by decide, Tryz.func93.trans (congrArg some (by kernel_rfl))⟩
  f21 := ⟨Tryz.f94.name, by decide, Tryz.func94.trans (congrArg some (by kernel_rfl))⟩
  f22 := ⟨Tryz.f95.name, by decide, Tryz.func95.trans (congrArg some (by kernel_rfl))⟩
  f23 := ⟨Tryz.f96.name, by decide, Tryz.func96.trans (congrArg some (by kernel_rfl))⟩
  f24 := ⟨Tryz.f97.name, by decide, Tryz.func97.trans (congrArg some (by kernel_rfl))⟩
  f25 := ⟨Tryz.f98.name, by decide, Tryz.func98.trans (congrArg some (by kernel_rfl))⟩
  f26 := ⟨Tryz.f99.name, by decide, Tryz.func99.trans (congrArg some (by kernel_rfl))⟩
  f27 := ⟨Tryz.f100.name, by decide, Tryz.func100.trans (congrArg some (by kernel_rfl))⟩
  f28 := Tryz.func101.trans (congrArg some (by kernel_rfl))
  f29 := Tryz.func102.trans (congrArg some (by kernel_rfl))
  f46 := ⟨Tryz.f107.name, by decide, Tryz.func107.trans (congrArg some (by kernel_rfl))⟩
  f47 := Tryz.func108.trans (congrArg some (by kernel_rfl))
  f48 := Tryz.func109.trans (congrArg some (by kernel_rfl))
  f49 := ⟨Tryz.f110.name, by decide, Tryz.func110.trans (congrArg some (by kernel_rfl))⟩
  f50 := ⟨Tryz.f111.name, by decide, Tryz.func111.trans (congrArg some (by kernel_rfl))⟩
  f57 := ⟨Tryz.f113.name, by decide, Tryz.func113.trans (congrArg some (by kernel_rfl))⟩
  t0 := Tryz.underlying0
  a0 := Tryz.isAgg0
  z0 := Tryz.sizeOf0
  v0 := Tryz.zeroValue0
  t3 := Tryz.underlying3
  a3 := Tryz.isAgg3
  z3 := Tryz.sizeOf3
  v3 := Tryz.zeroValue3
  t4 := Tryz.underlying4
  a4 := Tryz.isAgg4
  z4 := Tryz.sizeOf4
  v4 := Tryz.zeroValue4
  t5 := Tryz.underlying5
  a5 := Tryz.isAgg5
  z5 := Tryz.sizeOf5
  v5 := Tryz.zeroValue5
  t9 := Tryz.underlying9
  a9 := Tryz.isAgg9
  z9 := Tryz.sizeOf9
  v9 := Tryz.zeroValue9
  t22 := Tryz.underlying48
  a22 := Tryz.isAgg48
  z22 := Tryz.sizeOf48
  v22 := Tryz.zeroValue48
  t25 := Tryz.underlying92
  a25 := Tryz.isAgg92
  z25 := Tryz.sizeOf92
  v25 := Tryz.zeroValue92
  t39 := Tryz.underlying115
  a39 := Tryz.isAgg115
  z39 := Tryz.sizeOf115
  v39 := Tryz.zeroValue115
  t45 := Tryz.underlying122
  a45 := Tryz.isAgg122
  z45 := Tryz.sizeOf122
  v45 := Tryz.zeroValue122
  t46 := Tryz.underlying123
  a46 := Tryz.isAgg123
  z46 := Tryz.sizeOf123
  v46 := Tryz.zeroValue123
  t50 := Tryz.underlying97
  a50 := Tryz.isAgg97
  z50 := Tryz.sizeOf97
  v50 := Tryz.zeroValue97
  t53 := Tryz.underlying129
  a53 := Tryz.isAgg129
  z53 := Tryz.sizeOf129
  v53 := Tryz.zeroValue129
  t55 := Tryz.underlying131
  a55 := Tryz.isAgg131
  z55 := Tryz.sizeOf131
  v55 := Tryz.zeroValue131
  t66 := Tryz.underlying133
  a66 := Tryz.isAgg133
  z66 := Tryz.sizeOf133
  v66 := Tryz.zeroValue133
  t70 := Tryz.underlying137
  a70 := Tryz.isAgg137
  z70 := Tryz.sizeOf137
  v70 := Tryz.zeroValue137
  t76 := Tryz.underlying139
  a76 := Tryz.isAgg139
  z76 := Tryz.sizeOf139
  v76 := Tryz.zeroValue139
  t77 := Tryz.underlying140
  a77 := Tryz.isAgg140
  z77 := Tryz.sizeOf140
  v77 := Tryz.zeroValue140 }
theorem cmpT (g c size : Nat) (w : World) : CmpLays Tryz.prog 59 #[] encT 32 cfT g 0 size w :=
  fun _ _ _ _ x y => order_grow x.1 y.1 x.2 y.2 _
set_option maxHeartbeats 4000000 in
theorem sort_row (g c : Nat) (d : Array IdT) (w : World) (hR : RowG g c d w) (hn9 : d.size ≤ 1000000) :
    Calls Tryz.prog 58 #[.slice (some ⟨g, 0, none⟩) d.size c, .func (.func 59) #[] #[]] w fun e w' =>
      e = .returned (.tuple #[]) ∧ ∃ d' : Array IdT, d'.size = d.size ∧ SortedIn (ltOf cfT) 0 d'.size d' ∧ (∀ x, x ∈ valsT d' ↔ x ∈ valsT d) ∧ RowG g c d' w' ∧ w.grownBy w' (some g) := by
  have eg : ∀ args w, (callFunc 59 args).run Tryz.prog w = .ok (.enter 59 args) w := enters_of Tryz.func59 (by kernel_rfl) rfl
  have h := AnyQ.slices_SortFunc srt 32 Tryz.isAgg23 Tryz.sizeOf23 encT encT_len encT_one cfT swoT 59 #[] g 0 c d w eg (cmpT g c d.size w) hR.holds hR.lt (by omega)
  change Calls Tryz.prog 58 _ _ _ at h
  refine h.mono ?_
  rintro e w' ⟨rfl, d', n, os, hp, hs, rfl⟩
  obtain ⟨h1, h2⟩ := hR.sorted hp.1 n os
  exact ⟨rfl, d', hp.1, by rw [hp.1]; exact hs, perm_mem hp, h1, h2⟩
set_option maxHeartbeats 2000000 in
theorem ins_none (w : World) (fv : Value) : Calls Tryz.prog 93 #[.slice none 0 0, .int .i64 0, .int .i64 0, fv] w fun e w' => e = .returned (.tuple #[]) ∧ w' = w := by
  go_enter Tryz.func93, Tryz.ntmps93
  go_wp2
  refine wp_loop_rounds 1 ?_
  rw [rounds_succ]
  go_wp2
  go_end0
  exact ⟨rfl, rfl⟩
set_option maxHeartbeats 2000000 in
theorem pdq_none (w : World) (lim : Int) (fv : Value) : Calls Tryz.prog 81 #[.slice none 0 0, .int .i64 0, .int .i64 0, .int .i64 lim, fv] w fun e w' => e = .returned (.tuple #[]) ∧ w' = w := by
  have hi := fun W => ins_none W fv
  go_enter Tryz.func81, Tryz.ntmps81
  go_wp2
  refine wp_loop_rounds 1 ?_
  rw [rounds_succ]
  go_wp2_with (go_at_call 93; refine (hi _).mono ?_; rintro e w' ⟨rfl, rfl⟩)
  (try simp only [Exit.inBlock, Exit.then]); refine bodyPost_ret (results_none rfl _ _ _) rfl ?_
  exact ⟨rfl, rfl⟩
set_option maxHeartbeats 2000000 in
theorem sort_none (w : World) (fv : Value) : Calls Tryz.prog 58 #[.slice none 0 0, fv] w fun e w' => e = .returned (.tuple #[]) ∧ w' = w := by
  have hp := fun lim W => pdq_none W lim fv
  have hl : ∀ W, Calls Tryz.prog 82 #[.int .u64 0] W fun e w' => e = .returned (.int .i64 (Lib.bitLen 0 : Nat)) ∧ w' = W := fun W =>
    Any.bits_Len (SlLaysF0.n15.bits (P := Tryz.prog) (ρ := srt_ren) { srt with }) 0 W (by omega) (by omega)
  go_enter Tryz.func58, Tryz.ntmps58
  go_wp2_with (first | (go_at_call 82; refine (hl _).mono ?_; rintro e w' ⟨rfl, rfl⟩) | (go_at_call 81; refine (hp _ _).mono ?_; rintro e w' ⟨rfl, rfl⟩))
  go_end0
  exact ⟨rfl, rfl⟩
theorem compact_none (w : World) : Calls Tryz.prog 60 #[.slice none 0 0] w fun e w' => e = .returned (.slice none 0 0) ∧ w' = w := by
  go_enter Tryz.func60, Tryz.ntmps60
  go_wp2
  go_ret
  exact ⟨rfl, rfl⟩
set_option maxRecDepth 100000 in
set_option maxHeartbeats 4000000 in
theorem sort_any (A : Option Addr) (n c : Nat) (l : List (List UInt8)) (w : World) (hA : RowR w A n l) :
    Calls Tryz.prog 39 #[.slice A n c] w fun e w' => ∃ A2 n2 c2, e = .returned (.slice A2 n2 c2) ∧ RowR w' A2 n2 (sortL l) ∧ Below w.heap.size w w' := by
  have hC := clone_any A n c l w hA
  have h32 := hA.2.2.1
  have hn9 := hA.2.1
  clear hA
  go_enter Tryz.func39, Tryz.ntmps39
  go_upto_region 2 with (go_at_call 57; (with_reducible refine hC.mono ?_); rintro e1 w1 ⟨v, rfl, hown, hb1⟩)
  obtain ⟨A1, c1, rfl, hl1, hrd1⟩ := IdRd.own hown h32
  rcases RowG.own hown h32 with ⟨rfl, rfl, rfl, rfl⟩ | ⟨g, d, rfl, hg, hds, hv, hR⟩
  · clear hown hrd1 hC
    go_wp2_with (first
      | (go_at_call 58; (with_reducible refine (sort_none _ _).mono ?_); rintro e2 w2 ⟨rfl, rfl⟩)
      | (go_at_call 60; (with_reducible refine (compact_none _).mono ?_); rintro e3 w3 ⟨rfl, rfl⟩))
    go_ret
    exact ⟨none, 0, 0, rfl, ⟨rfl, by decide, IdRd.nil_ _ _⟩, hb1⟩
  · subst hds
    have hS := sort_row g c1 d w1 hR hn9
    have hK : ∀ (d' : Array IdT) (W : World), d'.size = d.size → RowG g c1 d' W → Calls Tryz.prog 60 #[.slice (some ⟨g, 0, none⟩) d.size c1] W fun e w' => ∃ m, e = .returned (.slice (some ⟨g, 0, none⟩) m c1) ∧ RowR w' (some ⟨g, 0, none⟩) m (keptT d' d'.size) ∧ W.grownBy w' (some g) := fun d' W h1 h2 => by
      have := compact_any g c1 d' (by rw [h1]; exact hn9) W h2
      rw [h1] at this ⊢
      exact this
    clear hown hrd1 hC hR
    go_wp2_with (first
      | (go_at_call 58; (with_reducible refine hS.mono ?_); rintro e2 w2 ⟨rfl, d2, hs2, hso, hmem, hR2, hg2⟩)
      | (go_at_call 60; (with_reducible refine (hK d2 _ hs2 hR2).mono ?_); rintro e3 w3 ⟨m, rfl, hrow, hg3⟩))
    go_ret
    rw [compact_sort hso (fun x => (hmem x).trans (by rw [hv]))] at hrow
    exact ⟨_, _, _, rfl, hrow, hb1.grown (idgb_trans hg2 hg3) hb1.size (by intro i e; cases e; exact hg)⟩
end Go.Proofs.YtapgiagpjplpdaaGreat


/- Rows of ids that are sorted and thinned in place: what stands in the block; a sorted row, each kept once, is the document's. No walk. -/
import Derived.Test.YtbdlpdajdlpncaaId14
import Derived.Test.YtbdlpdajdlpncaaId10
import Derived.Lib.SlicesCompact
import Derived.Shelf.SlSortCmp.WholeK
set_option linter.unusedVariables false
set_option linter.unusedSimpArgs false
namespace Go.Proofs.Ytbdlpdajdlpncaa
open Go.RowKit Go.Qc Go.Sort Go.Lib

/-- An id, as its 32 bytes. -/
abbrev IdT := {l : List UInt8 // l.length = 32}
instance : Inhabited IdT := ⟨⟨List.replicate 32 0, rfl⟩⟩
def encT (x : IdT) : List Value := x.1.map u8v
def cfT (x y : IdT) : Int := Lib.compareBytes x.1 y.1
def valsT (d : Array IdT) : List (List UInt8) := d.toList.map (fun x => x.1)
theorem encT_len (x : IdT) : (encT x).length = 32 := by unfold encT; rw [List.length_map]; exact x.2
theorem encT_one : ∀ x : IdT, ∀ v ∈ encT x, v.oneCell' = true := fun x v hv => u8v_one x.1 v hv
theorem valsT_32 (d : Array IdT) : ∀ a ∈ valsT d, a.length = 32 := by
  intro a ha
  obtain ⟨x, _, rfl⟩ := List.mem_map.1 ha
  exact x.2
theorem valsT_len (d : Array IdT) : (valsT d).length = d.size := by unfold valsT; simp
theorem valsT_get {d : Array IdT} {i : Nat} (hi : i < d.size) : (valsT d)[i]? = some d[i]!.1 := by
  unfold valsT
  rw [List.getElem?_map, Array.getElem?_toList, Array.getElem?_eq_getElem hi, getElem!_pos d i hi]
  rfl
theorem lt_cf (x y : IdT) : ltOf cfT x y = true ↔ Lt x.1 y.1 := by
  unfold ltOf cfT Lt
  exact decide_eq_true_iff
theorem nlt_cf (x y : IdT) : ltOf cfT x y = false ↔ ¬ Lt x.1 y.1 := by
  rw [← lt_cf, Bool.not_eq_true]
theorem swoT : SWO (ltOf cfT) where
  irrefl x := (nlt_cf x x).2 (fun h => Lt.irr h)
  trans x y z h1 h2 := (lt_cf x z).2 (((lt_cf x y).1 h1).tr ((lt_cf y z).1 h2))
  ntrans x y z h1 h2 := by
    rw [nlt_cf] at *
    intro h
    by_cases e : x.1 = y.1
    · exact h2 (e ▸ h)
    · exact h2 ((lt_of_not h1 e).tr h)
/-- A row of ids at the head of block g. -/
structure RowG (g c : Nat) (d : Array IdT) (W : World) : Prop where
  le : d.size ≤ c
  cap : c ≤ maxLen
  blk : ∃ cs : Array Value, Blk W g 24 cs ∧ cs.size = c * 32 ∧ cs.toList.take (d.size * 32) = idsV (valsT d)
theorem RowG.below {g c : Nat} {d : Array IdT} {W W' : World} (h : RowG g c d W) (hb : Below W.heap.size W W') : RowG g c d W' :=
  ⟨h.le, h.cap, h.blk.imp fun _ ⟨a, b⟩ => ⟨a.below hb, b⟩⟩
theorem RowG.lt {g c : Nat} {d : Array IdT} {W : World} (h : RowG g c d W) : g < W.heap.size := by
  obtain ⟨cs, h1, _⟩ := h.blk
  exact h1.lt
theorem RowG.cell {g c : Nat} {d : Array IdT} {W : World} (h : RowG g c d W) {t : Nat} {v : Value} (hv : (idsV (valsT d))[t]? = some v) : W.cell? ⟨g, t, none⟩ = some v := by
  obtain ⟨cs, h1, h2, h3⟩ := h.blk
  refine h1.cell_ ?_
  rw [← h3, List.getElem?_take] at hv
  split at hv
  · rwa [Array.getElem?_toList] at hv
  · cases hv
theorem RowG.range {g c : Nat} {d : Array IdT} {W : World} (h : RowG g c d W) {i : Nat} (hi : i < d.size) : W.rangeAt g (i * 32) (d[i]!.1.map u8v) := fun j v hj =>
  h.cell (idsV_get _ i _ j v (valsT_32 d) (valsT_get hi) hj)
theorem flat_get {d : Array IdT} {t : Nat} (ht : t < d.size * 32) : (idsV (valsT d))[t]? = some ((flatK encT 32 d)[t]!) := by
  have hd : t / 32 < d.size := by omega
  rw [get_flatK _ _ _ _ ht]
  have hl : t % 32 < (encT d[t / 32]!).length := by rw [encT_len]; omega
  have := idsV_get (valsT d) (t / 32) d[t / 32]!.1 (t % 32) (encT d[t / 32]!)[t % 32]! (valsT_32 d) (valsT_get hd) (by
    have h1 := List.getElem?_eq_getElem hl
    rw [getElem!_pos (encT d[t / 32]!) (t % 32) hl]
    exact h1)
  rw [show t / 32 * 32 + t % 32 = t by omega] at this
  exact this
theorem RowG.holds {g c : Nat} {d : Array IdT} {W : World} (h : RowG g c d W) : HoldsK encT 32 W g 0 d := by
  intro j hj
  rw [size_flatK] at hj
  rw [Nat.zero_add]
  refine ⟨h.cell (flat_get hj), ?_⟩
  obtain ⟨cs, h1, _⟩ := h.blk
  exact h1.frozen j
theorem RowG.sorted {g c : Nat} {d d' : Array IdT} {W : World} (h : RowG g c d W) (hs : d'.size = d.size) (m : Nat) (os : Array Obj) : RowG g c d' (sortWorldK encT 32 W g 0 m d' os) ∧ W.grownBy (sortWorldK encT 32 W g 0 m d' os) (some g) := by
  obtain ⟨cs, h1, h2, h3⟩ := h.blk
  have hlt := h1.lt
  have hle := h.le
  have hsz : (mapBlock (Sort.ahead W m) g (putCells id 0 (flatK encT 32 d'))).heap.size = W.heap.size := by
    unfold mapBlock; simp [Sort.ahead]
  have hb : Blk (sortWorldK encT 32 W g 0 m d' os) g 24 (putCells id 0 (flatK encT 32 d') cs) := by
    unfold Blk at *
    unfold sortWorldK putRowK putRow
    rw [heap_grow_old _ _ (by rw [hsz]; exact hlt)]
    unfold mapBlock
    rw [Array.getElem?_modify, if_pos rfl]
    rw [show (Sort.ahead W m).heap[g]? = W.heap[g]? from rfl, h1]
    rfl
  refine ⟨⟨by rw [hs]; exact hle, h.cap, _, hb, by unfold putCells; rw [Array.size_mapIdx]; exact h2, ?_⟩, rfl, rfl, rfl, ?_, fun k hk hne => ?_⟩
  · apply List.ext_getElem?
    intro t
    rw [List.getElem?_take]
    by_cases ht : t < d'.size * 32
    · rw [if_pos ht, flat_get ht, Array.getElem?_toList]
      unfold putCells
      have hc : t < cs.size := by rw [h2]; have := Nat.mul_le_mul_right 32 hle; omega
      rw [Array.getElem?_mapIdx, Array.getElem?_eq_getElem hc, Option.map_some, if_pos ⟨Nat.zero_le _, by rw [size_flatK, Nat.zero_add]; exact ht⟩]
      rfl
    · rw [if_neg ht, List.getElem?_eq_none]
      rw [idsV_length _ (valsT_32 d'), valsT_len]
      omega
  · unfold sortWorldK putRowK putRow Go.Sort.grow
    rw [Array.size_append, hsz]
    exact Nat.le_add_right _ _
  · unfold sortWorldK putRowK putRow
    rw [heap_grow_old _ _ (by rw [hsz]; exact hk)]
    unfold mapBlock
    rw [Array.getElem?_modify, if_neg (fun e => hne (by rw [e]))]
    rfl
theorem take_three {P V R : List Value} {a n : Nat} (hP : P.length = a) (hV : V.length = 32) (hn : a + 32 ≤ n) : (P ++ V ++ R).take n = P ++ V ++ R.take (n - (a + 32)) := by
  rw [List.take_append, List.take_of_length_le (l := P ++ V) (by rw [List.length_append, hP, hV]; exact hn), List.length_append, hP, hV]
theorem RowG.put {g c k : Nat} {d : Array IdT} {W W' : World} {cs : Array Value} (h : RowG g c d W) (hcs : cs.size = c * 32) (ht : cs.toList.take (d.size * 32) = idsV (valsT d)) (hk : k < d.size) (x : IdT)
    (hb : Blk W' g 24 (over cs (k * 32) (idVals x.1).toList)) : RowG g c (d.setIfInBounds k x) W' := by
  have hl : (idVals x.1).toList.length = 32 := by unfold idVals; simp [x.2]
  have hle := h.le
  have hm : k * 32 + 32 ≤ d.size * 32 := by omega
  have hm2 : d.size * 32 ≤ c * 32 := Nat.mul_le_mul_right 32 hle
  refine ⟨by rw [Array.size_setIfInBounds]; exact hle, h.cap, _, hb, ?_, ?_⟩
  · rw [over_size _ _ _ (by rw [hl, hcs]; omega), hcs]
  · have e1 : valsT (d.setIfInBounds k x) = (valsT d).take k ++ [x.1] ++ (valsT d).drop (k + 1) := by
      apply List.ext_getElem?
      intro i
      unfold valsT
      rw [Array.toList_setIfInBounds, List.map_set, List.getElem?_set]
      have hlen : (d.toList.map (fun x => x.1)).length = d.size := by simp
      rw [List.append_assoc, List.getElem?_append, List.length_take, hlen, Nat.min_eq_left (by omega)]
      by_cases h1 : i < k
      · rw [if_pos h1, if_neg (by omega), List.getElem?_take, if_pos h1]
      · rw [if_neg h1]
        by_cases h2 : k = i
        · subst h2
          rw [if_pos rfl, if_pos (by first | exact hk | (rw [hlen]; exact hk)), Nat.sub_self]
          rfl
        · rw [if_neg h2, List.getElem?_append_right (by rw [List.length_singleton]; omega), List.length_singleton, List.getElem?_drop, show k + 1 + (i - k - 1) = i by omega]
    have e2 : idsV ((valsT d).take k) = cs.toList.take (k * 32) := by
      have := congrArg (List.take (k * 32)) ht
      rw [List.take_take, Nat.min_eq_left (by omega)] at this
      rw [this]
      conv => rhs; rw [← List.take_append_drop k (valsT d), idsV_append]
      have hq : (idsV ((valsT d).take k)).length = k * 32 := by
        rw [idsV_length _ (fun a ha => valsT_32 d a (List.mem_of_mem_take ha)), List.length_take, valsT_len, Nat.min_eq_left (by omega)]
      rw [List.take_left' hq]
    have e3 : idsV ((valsT d).drop (k + 1)) = (cs.toList.drop (k * 32 + 32)).take (d.size * 32 - (k * 32 + 32)) := by
      have := congrArg (List.drop (k * 32 + 32)) ht
      rw [List.drop_take] at this
      rw [this]
      conv => rhs; rw [← List.take_append_drop (k + 1) (valsT d), idsV_append]
      have hq : (idsV ((valsT d).take (k + 1))).length = k * 32 + 32 := by
        rw [idsV_length _ (fun a ha => valsT_32 d a (List.mem_of_mem_take ha)), List.length_take, valsT_len, Nat.min_eq_left (by omega)]
        omega
      rw [List.drop_left' hq]
    rw [Array.size_setIfInBounds, e1, idsV_append, idsV_append, e2, e3]
    unfold over
    have hq : (cs.toList.take (k * 32)).length = k * 32 := by
      rw [List.length_take, Array.length_toList, hcs, Nat.min_eq_left (by omega)]
    rw [hl, List.toList_toArray, take_three hq hl hm]
    congr 1
    congr 1
    unfold idVals idsV
    simp
theorem RowG.rd {g c m : Nat} {d : Array IdT} {W : World} (h : RowG g c d W) (hm : m ≤ d.size) : IdRd W (some ⟨g, 0, none⟩) ((valsT d).take m) :=
  ⟨fun a ha => valsT_32 d a (List.mem_of_mem_take ha), .inr ⟨g, 0, rfl, fun j v hj => by
    rw [Nat.zero_add]
    refine h.cell ?_
    rw [← List.take_append_drop m (valsT d), idsV_append, List.getElem?_append_left (List.getElem?_eq_some_iff.1 hj).1]
    exact hj⟩⟩
theorem RowG.own {w : World} {base n c : Nat} {A : Option Addr} {l : List (List UInt8)} (h : w.ownsRow base 24 32 (.slice A n c) n (idsV l)) (h32 : ∀ a ∈ l, a.length = 32) :
    (A = none ∧ n = 0 ∧ c = 0 ∧ l = []) ∨ ∃ (g : Nat) (d : Array IdT), A = some ⟨g, 0, none⟩ ∧ base ≤ g ∧ d.size = n ∧ valsT d = l ∧ RowG g c d w := by
  have hl0 := h.1
  rw [idsV_length l h32] at hl0
  have hn : l.length = n := by omega
  rcases h.2 with ⟨h1, rfl⟩ | ⟨g, cap, cur, h1, hg, hb, hnc, hcm, hsz, htk⟩
  · injection h1 with q1 q2 q3
    exact .inl ⟨q1, rfl, q3, List.eq_nil_of_length_eq_zero hn⟩
  · injection h1 with q1 q2 q3
    subst q3
    have hv : valsT (l.attach.map (fun x => (⟨x.1, h32 x.1 x.2⟩ : IdT))).toArray = l := by
      unfold valsT
      rw [List.toList_toArray, List.map_map]
      exact List.attach_map_subtype_val l
    have hs : (l.attach.map (fun x => (⟨x.1, h32 x.1 x.2⟩ : IdT))).toArray.size = n := by
      rw [← valsT_len, hv, hn]
    exact .inr ⟨g, _, q1, hg, hs, hv, by rw [hs]; exact hnc, hcm, cur, hb, hsz, by rw [hs, hv]; exact htk⟩

/-! ### each once -/
theorem mem_valsT {d : Array IdT} {x : List UInt8} : x ∈ valsT d ↔ ∃ i, i < d.size ∧ d[i]!.1 = x := by
  constructor
  · intro h
    obtain ⟨i, hi⟩ := List.getElem?_of_mem h
    have hl : i < d.size := by
      have := (List.getElem?_eq_some_iff.1 hi).1
      rwa [valsT_len] at this
    rw [valsT_get hl] at hi
    cases hi
    exact ⟨i, hl, rfl⟩
  · rintro ⟨i, hi, rfl⟩
    exact List.mem_of_getElem? (valsT_get hi)
theorem kept_of (d : Array IdT) : ∀ i, ∃ j, j ≤ i ∧ keeps d j = true ∧ d[j]! = d[i]!
  | 0 => ⟨0, Nat.le_refl _, by simp [keeps], rfl⟩
  | i + 1 => by
    by_cases h : d[i + 1]! = d[i]!
    · obtain ⟨j, h1, h2, h3⟩ := kept_of d i
      exact ⟨j, by omega, h2, h3.trans h.symm⟩
    · exact ⟨i + 1, Nat.le_refl _, keeps_pos h, rfl⟩
/-- What is kept of the first m places. -/
def keptT (d : Array IdT) (m : Nat) : List (List UInt8) := (compactUpTo d m).map (fun x => x.1)
theorem compact_sort {d : Array IdT} {l : List (List UInt8)} (hs : SortedIn (ltOf cfT) 0 d.size d) (hm : ∀ x, x ∈ valsT d ↔ x ∈ l) : keptT d d.size = sortL l := by
  unfold keptT
  have step : ∀ i j, i < j → j < d.size → keeps d j = true → Lt d[i]!.1 d[j]!.1 := by
    intro i j hij hj hk
    have hne : d[j]! ≠ d[j - 1]! := by
      rcases of_decide_eq_true hk with h | h
      · omega
      · exact h
    have h1 : Lt d[j - 1]!.1 d[j]!.1 := lt_of_not ((nlt_cf _ _).1 (hs (j - 1) j (Nat.zero_le _) (by omega) hj)) (fun e => hne (Subtype.ext e))
    by_cases e : i = j - 1
    · rw [e]; exact h1
    · have h2 := (nlt_cf _ _).1 (hs i (j - 1) (Nat.zero_le _) (by omega) (by omega))
      by_cases e2 : d[j - 1]!.1 = d[i]!.1
      · rw [← e2]; exact h1
      · exact (lt_of_not h2 e2).tr h1
  refine rising_ext _ _ ?_ (rising_sortL l) (fun x => ?_)
  · unfold compactUpTo Rising
    rw [List.pairwise_map, List.pairwise_map]
    refine List.Pairwise.imp_of_mem (R := fun i j => i < j) (fun {a b} ha hb hab => ?_) (List.Pairwise.filter _ List.pairwise_lt_range)
    obtain ⟨hb1, hb2⟩ := List.mem_filter.1 hb
    exact step a b hab (List.mem_range.1 hb1) hb2
  · rw [mem_sortL, ← hm, mem_valsT]
    unfold compactUpTo
    constructor
    · intro h
      obtain ⟨y, hy, rfl⟩ := List.mem_map.1 h
      obtain ⟨i, hi, rfl⟩ := List.mem_map.1 hy
      exact ⟨i, List.mem_range.1 (List.mem_filter.1 hi).1, rfl⟩
    · rintro ⟨i, hi, rfl⟩
      obtain ⟨j, h1, h2, h3⟩ := kept_of d i
      exact List.mem_map.2 ⟨_, List.mem_map.2 ⟨j, List.mem_filter.2 ⟨List.mem_range.2 (by omega), h2⟩, h3⟩, rfl⟩
theorem perm_mem {d d' : Array IdT} (h : PermIn 0 d.size d d') : ∀ x, x ∈ valsT d' ↔ x ∈ valsT d := by
  obtain ⟨h1, _, h3⟩ := h
  have e1 : d.extract 0 d.size = d := Array.extract_size
  have e2 : d'.extract 0 d.size = d' := by rw [← h1]; exact Array.extract_size
  rw [e1, e2] at h3
  intro x
  unfold valsT
  exact (h3.map (fun x : IdT => x.1)).mem_iff
end Go.Proofs.Ytbdlpdajdlpncaa

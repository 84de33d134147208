
/- keytree: trees of sums, climbing, rows that are filled, Fold. -/
import Derived.Test.YticpdepbgcagaaaGreatLam6
import Derived.Test.YticpdepbgcagaaaGreatTag6
namespace Go.Proofs.YticpdepbgcagaaaGreat
open Go.RowKit Go.Qc

/-- "node" -/
def nodeN : List UInt8 := [110, 111, 100, 101]
def nodeB (a b : List UInt8) : List UInt8 := tagB nodeN [a, b]
theorem nodeB_length (a b : List UInt8) : (nodeB a b).length = 32 := tagB_length _ _
/-- One step up. -/
def stepB (n : Nat) (s x : List UInt8) : List UInt8 := if n % 2 = 1 then nodeB x s else nodeB s x
theorem stepB_length (n : Nat) (s x : List UInt8) : (stepB n s x).length = 32 := by unfold stepB; split <;> exact nodeB_length _ _
def climbB : Nat → List UInt8 → List (List UInt8) → List UInt8
  | _, s, [] => s
  | n, s, x :: xs => climbB (n / 2) (stepB n s x) xs
theorem climbB_length (xs : List (List UInt8)) : ∀ (n : Nat) (s : List UInt8), s.length = 32 → (climbB n s xs).length = 32 := by
  induction xs with
  | nil => intro n s h; exact h
  | cons x xs ih => intro n s _; exact ih _ _ (stepB_length _ _ _)
theorem climbB_snoc (x : List UInt8) : ∀ (xs : List (List UInt8)) (n : Nat) (s : List UInt8), climbB n s (xs ++ [x]) = stepB (n / 2 ^ xs.length) (climbB n s xs) x
  | [], n, s => by simp [climbB]
  | y :: xs, n, s => by
    rw [List.cons_append, climbB, climbB_snoc x xs, climbB, List.length_cons, Nat.pow_succ, Nat.mul_comm (2 ^ xs.length) 2, Nat.div_div_eq_div_mul]
theorem climbB_take {way : List (List UInt8)} {k : Nat} {x : List UInt8} (h : way[k]? = some x) (n : Nat) (s : List UInt8) :
    climbB n s (way.take (k + 1)) = stepB (n / 2 ^ k) (climbB n s (way.take k)) x := by
  have hk := (List.getElem?_eq_some_iff.1 h).1
  rw [List.take_add_one, h]
  show climbB n s (way.take k ++ [x]) = _
  rw [climbB_snoc, List.length_take, Nat.min_eq_left (by omega)]
theorem div_pow_succ (n k : Nat) : n / 2 ^ k / 2 = n / 2 ^ (k + 1) := by rw [Nat.div_div_eq_div_mul, Nat.pow_succ]

/-- The sum so many levels up, the i-th one. -/
def ndB (f : Nat → List UInt8) : Nat → Nat → List UInt8
  | 0, i => f i
  | j + 1, i => nodeB (ndB f j (2 * i)) (ndB f j (2 * i + 1))
theorem ndB_length (f : Nat → List UInt8) (hf : ∀ i, (f i).length = 32) : ∀ j i, (ndB f j i).length = 32
  | 0, i => hf i
  | _ + 1, _ => nodeB_length _ _
theorem ndB_congr {f g : Nat → List UInt8} : ∀ (j i : Nat), (∀ x, i * 2 ^ j ≤ x → x < (i + 1) * 2 ^ j → f x = g x) → ndB f j i = ndB g j i
  | 0, i, h => h i (by simp) (by simp)
  | j + 1, i, h => by
    have e : 2 ^ (j + 1) = 2 * 2 ^ j := by rw [Nat.pow_succ, Nat.mul_comm]
    have e1 : i * 2 ^ (j + 1) = 2 * i * 2 ^ j := by rw [e, ← Nat.mul_assoc, Nat.mul_comm i 2]
    have e2 : (i + 1) * 2 ^ (j + 1) = (2 * i + 1 + 1) * 2 ^ j := by rw [e, ← Nat.mul_assoc, show (i + 1) * 2 = 2 * i + 1 + 1 by omega]
    have f1 : ndB f j (2 * i) = ndB g j (2 * i) := ndB_congr j (2 * i) fun x h1 h2 => h x (by rw [e1]; exact h1) (by rw [e2]; exact Nat.lt_of_lt_of_le h2 (Nat.mul_le_mul_right _ (by omega)))
    have f2 : ndB f j (2 * i + 1) = ndB g j (2 * i + 1) := ndB_congr j (2 * i + 1) fun x h1 h2 => h x (by rw [e1]; exact Nat.le_trans (Nat.mul_le_mul_right _ (by omega)) h1) (by rw [e2]; exact h2)
    rw [ndB, ndB, f1, f2]
/-- A row's elements, as a function. -/
def getB (l : List (List UInt8)) (i : Nat) : List UInt8 := (l[i]?).getD zeroB
theorem getB_some {l : List (List UInt8)} {i : Nat} {x : List UInt8} (h : l[i]? = some x) : getB l i = x := by rw [getB, h]; rfl
theorem getB_at {l : List (List UInt8)} {i : Nat} (h : i < l.length) : l[i]? = some (getB l i) := by rw [getB, List.getElem?_eq_getElem h]; rfl
theorem getB_length {l : List (List UInt8)} (h : ∀ x ∈ l, x.length = 32) (i : Nat) : (getB l i).length = 32 := by
  unfold getB
  cases hx : l[i]? with
  | none => rfl
  | some x => exact h x (List.mem_of_getElem? hx)
theorem getB_upTo (f : Nat → List UInt8) {n i : Nat} (h : i < n) : getB (upTo f n) i = f i := getB_some (upTo_get f n i h)
theorem upTo_getB (l : List (List UInt8)) : upTo (getB l) l.length = l := by
  apply List.ext_getElem?
  intro i
  by_cases h : i < l.length
  · rw [upTo_get _ _ _ h, getB_at h]
  · rw [List.getElem?_eq_none (by rw [upTo_length]; omega), List.getElem?_eq_none (by omega)]
/-- What stands above a row's pairs. -/
def aboveB (l : List (List UInt8)) (i : Nat) : List UInt8 := nodeB (getB l (2 * i)) (getB l (2 * i + 1))
theorem aboveB_length (l : List (List UInt8)) (i : Nat) : (aboveB l i).length = 32 := nodeB_length _ _
theorem upTo_congr {f g : Nat → List UInt8} (n : Nat) (h : ∀ i, i < n → f i = g i) : upTo f n = upTo g n := by
  apply List.ext_getElem?
  intro i
  by_cases hi : i < n
  · rw [upTo_get _ _ _ hi, upTo_get _ _ _ hi, h i hi]
  · rw [List.getElem?_eq_none (by rw [upTo_length]; omega), List.getElem?_eq_none (by rw [upTo_length]; omega)]
theorem above_level (f : Nat → List UInt8) (j m : Nat) : upTo (aboveB (upTo (ndB f j) (2 * m))) m = upTo (ndB f (j + 1)) m :=
  upTo_congr m fun i hi => by rw [aboveB, getB_upTo _ (by omega), getB_upTo _ (by omega), ndB]

/-- A leaf's way. -/
def besideN (i : Nat) : Nat := if i % 2 = 1 then i - 1 else i + 1
def wayF (f : Nat → List UInt8) (i : Nat) (j : Nat) : List UInt8 := ndB f j (besideN (i / 2 ^ j))
end Go.Proofs.YticpdepbgcagaaaGreat

namespace Go.Proofs.YticpdepbgcagaaaGreat
open Go.RowKit Go.Qc
attribute [local go_sem] txt_size txt_append ib_fold

set_option maxRecDepth 100000 in
set_option maxHeartbeats 4000000 in
theorem node_any (a b : List UInt8) (ha : a.length = 32) (hb : b.length = 32) (w : World) :
    Calls Tryz.prog 89 #[.agg (idVals a), .agg (idVals b)] w fun e w' => e = .returned (.agg (idVals (nodeB a b))) ∧ Below w.heap.size w w' := by
  have hu := Tryz.underlying24
  obtain ⟨S, hS⟩ : ∃ S, S = nodeB a b := ⟨_, rfl⟩
  have hSl : S.length = 32 := by rw [hS]; exact nodeB_length _ _
  rw [← hS]
  have cP : ∀ W : World, Calls Tryz.prog 107 #[.string ⟨#[110, 111, 100, 101]⟩, .agg (List.map u8v a).toArray, .agg (List.map u8v b).toArray] W fun e w' => e = .returned (.agg (idVals S)) ∧ Below W.heap.size W w' := fun W => by
    rw [hS]
    exact pair_any nodeN (by decide) a b ha hb W
  have hk1 : (w.alloc (.cells (idVals a) 24)).heap.size = w.heap.size + 1 := by simp
  have hk2 : ((w.alloc (.cells (idVals a) 24)).alloc (.cells (idVals b) 24)).heap.size = w.heap.size + 1 + 1 := by simp
  have hA : ∀ zc, (((w.alloc (.cells (idVals a) 24)).alloc (.cells (idVals b) 24)).alloc (.cells zc 24)).rangeAt w.heap.size 0 (a.map u8v) := fun zc => range_blk (((Blk.new w 24 (idVals a)).alloc _).alloc _)
  have hB : ∀ zc, (((w.alloc (.cells (idVals a) 24)).alloc (.cells (idVals b) 24)).alloc (.cells zc 24)).rangeAt (w.heap.size + 1) 0 (b.map u8v) := fun zc => by
    have := (Blk.new (w.alloc (.cells (idVals a) 24)) 24 (idVals b)).alloc (.cells zc 24)
    rw [hk1] at this
    exact range_blk this
  have hR : ∀ zc, Blk (((w.alloc (.cells (idVals a) 24)).alloc (.cells (idVals b) 24)).alloc (.cells zc 24)) (w.heap.size + 1 + 1) 24 zc := fun zc => by
    have := Blk.new ((w.alloc (.cells (idVals a) 24)).alloc (.cells (idVals b) 24)) 24 zc
    rwa [hk2] at this
  have hBl : ∀ zc, Below w.heap.size w (((w.alloc (.cells (idVals a) 24)).alloc (.cells (idVals b) 24)).alloc (.cells zc 24)) := fun zc => (((Below.refl _ _).alloc (Nat.le_refl _) _).alloc (by simp) _).alloc (by simp; omega) _
  have hza : (Tryz.prog.info? 24).map (·.size) = some (a.map u8v).length := by rw [List.length_map, ha]; exact sizeId
  have hzb : (Tryz.prog.info? 24).map (·.size) = some (b.map u8v).length := by rw [List.length_map, hb]; exact sizeId
  have HSL := hid hSl
  clear hSl hS ha hb hk1 hk2
  go_enter Tryz.func89, Tryz.ntmps89
  go_wp2_with (first
    | (with_reducible refine wpList_load_if (by with_unfolding_all rfl) 24 _ rfl _ 0 rfl (a.map u8v) _ (hA _) hu (by with_unfolding_all rfl) hza ?_)
    | (with_reducible refine wpList_load_if (by with_unfolding_all rfl) 24 _ rfl _ 0 rfl (b.map u8v) _ (hB _) hu (by with_unfolding_all rfl) hzb ?_)
    | (go_at_call 107; (with_reducible refine (cP _).mono ?_); rintro e7 w7 ⟨rfl, hB7⟩; replace hR := (hR _).below hB7; replace hBl := (hBl _).trans (hB7.mono (hBl _).size))
    | (with_reducible refine wpList_store_blk rfl 24 _ _ rfl (w.heap.size + 1 + 1) _ (idVals S) 24 hR rfl rfl ?c2 ?c3 (idVals_one _) ?_))
  case c2 => rw [idVals_size, HSL.out]; exact sizeId
  case c3 => rw [idVals_size, HSL.out]; rfl
  intro w9 hb9 hg9
  go_wp2
  refine bodyPost_ret (results_cell_row rfl _ _ _ _ _ _ _ rfl hb9 Tryz.underlying24 rfl (by rw [idVals_size, HSL.out]; exact sizeId)) rfl ⟨rfl, ?_⟩
  exact hBl.grown hg9 hBl.size (by intro i e; cases e; omega)

/-- What a climb has laid: the sum, and the answer's place. -/
structure ClimbS (w : World) (S : List UInt8) (W : World) : Prop where
  sum : Blk W w.heap.size 24 (idVals S)
  res : ∃ zc : Array Value, Blk W (w.heap.size + 1) 24 zc ∧ zc.size = 32
  bel : Below w.heap.size w W
theorem ClimbS.below {w W W' : World} {S : List UInt8} (h : ClimbS w S W) (hb : Below W.heap.size W W') : ClimbS w S W' :=
  ⟨h.sum.below hb, (h.res.imp fun _ ⟨a, b⟩ => ⟨a.below hb, b⟩), h.bel.trans (hb.mono h.bel.size)⟩
theorem ClimbS.put {w W W' : World} {S T : List UInt8} (h : ClimbS w S W) (hb : Blk W' w.heap.size 24 (idVals T)) (hg : W.grownBy W' (some w.heap.size)) : ClimbS w T W' :=
  ⟨hb, h.res.imp fun _ ⟨a, b⟩ => ⟨blk_gb a hg (by omega), b⟩, h.bel.grown hg h.bel.size (by intro i e; cases e; exact Nat.le_refl _)⟩
theorem ClimbS.new (w : World) (S : List UInt8) (zc : Array Value) (hz : zc.size = 32) : ClimbS w S ((w.alloc (.cells (idVals S) 24)).alloc (.cells zc 24)) := by
  have hk1 : (w.alloc (.cells (idVals S) 24)).heap.size = w.heap.size + 1 := by simp
  have h2 := Blk.new (w.alloc (.cells (idVals S) 24)) 24 zc
  rw [hk1] at h2
  exact ⟨(Blk.new w 24 (idVals S)).alloc _, ⟨zc, h2, hz⟩, ((Below.refl _ _).alloc (Nat.le_refl _) _).alloc (by simp) _⟩
theorem half_facts (m : Nat) : ((m : Int)).tdiv 2 = ((m / 2 : Nat) : Int) ∧ ((m : Int)).tmod 2 = ((m % 2 : Nat) : Int) :=
  ⟨by rw [Int.tdiv_eq_ediv_of_nonneg (by omega)]; rfl, by rw [Int.tmod_eq_emod_of_nonneg (by omega)]; rfl⟩

set_option maxRecDepth 100000 in
set_option maxHeartbeats 8000000 in
theorem climb_any (lf : Int) (hl : lf ≤ 9223372036854775807) (s : List UInt8) (hs : s.length = 32) (A : Option Addr) (n c : Nat) (way : List (List UInt8)) (w : World) (hA : RowR w A n way) :
    Calls Tryz.prog 58 #[.int .i64 lf, .agg (idVals s), .slice A n c] w fun e w' => e = .returned (.agg (idVals (climbB lf.toNat s way))) ∧ Below w.heap.size w w' := by
  obtain ⟨hn, bn, hr⟩ := hA
  have hu := Tryz.underlying24
  have hmx : max lf 0 = ((lf.toNat : Nat) : Int) := by omega
  have hNl : lf.toNat ≤ 9223372036854775807 := by omega
  generalize lf.toNat = N at *
  go_enter Tryz.func58, Tryz.ntmps58
  go_wp2
  have h0 := ClimbS.new w s _ (show (#[.int .u8 0, .int .u8 0, .int .u8 0, .int .u8 0, .int .u8 0, .int .u8 0, .int .u8 0, .int .u8 0, .int .u8 0, .int .u8 0, .int .u8 0, .int .u8 0, .int .u8 0, .int .u8 0, .int .u8 0, .int .u8 0, .int .u8 0, .int .u8 0, .int .u8 0, .int .u8 0, .int .u8 0, .int .u8 0, .int .u8 0, .int .u8 0, .int .u8 0, .int .u8 0, .int .u8 0, .int .u8 0, .int .u8 0, .int .u8 0, .int .u8 0, .int .u8 0] : Array Value).size = 32 from rfl)
  generalize (w.alloc (.cells (idVals s) 24)).alloc (.cells _ 24) = w0 at *
  go_loopw [0, 13] (fun l i wr => ∃ k : Nat, k ≤ n ∧ i = .int .i64 k ∧ l = .int .i64 (N / 2 ^ k : Nat) ∧ ClimbS w (climbB N s (way.take k)) wr) (fun _ i _ => n - (intOf i).toNat)
  case atStart => exact ⟨0, by omega, rfl, (by simp), h0⟩
  case round =>
    obtain ⟨k, hk, rfl, rfl, hc⟩ := hrel
    by_cases hlt : k < n
    · obtain ⟨x, hx⟩ : ∃ x, way[k]? = some x := ⟨_, List.getElem?_eq_getElem (by omega)⟩
      obtain ⟨g, q, hg, lx, hix⟩ := hr.pick c hn hx
      have b1 : (k : Int) < n := by omega
      have r1 := hg.below hc.bel
      have hzx : (Tryz.prog.info? 24).map (·.size) = some (x.map u8v).length := by rw [List.length_map, lx]; exact sizeId
      have hT := climbB_take hx N s
      have hSl := climbB_length (way.take k) N s hs
      have hm1 : N / 2 ^ k ≤ 9223372036854775807 := Nat.le_trans (Nat.div_le_self _ _) hNl
      have hm2 := div_pow_succ N k
      generalize climbB N s (way.take k) = S at *
      generalize N / 2 ^ k = m at *
      obtain ⟨hq, hrm⟩ := half_facts m
      have hzs : (Tryz.prog.info? 24).map (·.size) = some (S.map u8v).length := by rw [List.length_map, hSl]; exact sizeId
      have HT := hid hT
      have HSL := hid hSl
      have HN := hid hn
      have HM := hid hm2
      clear hT hn hx hm2
      by_cases hm : m % 2 = 1
      · have hT2 : nodeB x S = climbB N s (way.take (k + 1)) := by rw [HT.out, stepB, if_pos hm]
        have hmI : ((m % 2 : Nat) : Int) = 1 := by omega
        rw [hmI] at hrm
        obtain ⟨Z, hZ⟩ : ∃ Z, Z = nodeB x S := ⟨_, rfl⟩
        have cN : ∀ W : World, Calls Tryz.prog 89 #[.agg (List.map u8v x).toArray, .agg (List.map u8v S).toArray] W fun e w' => e = .returned (.agg (idVals Z)) ∧ Below W.heap.size W w' := fun W => by
          rw [hZ]; exact node_any x S lx hSl W
        have hZL : Z.length = 32 := by rw [hZ]; exact nodeB_length _ _
        rw [← hZ] at hT2
        have HZL := hid hZL
        have HT2 := hid hT2
        have HLX := hid lx
        clear hZ hZL hT2 HT hmI hm lx hSl
        go_wp2_with (first
          | (with_reducible refine wpList_load_if (by with_unfolding_all rfl) 24 _ rfl _ _ rfl (x.map u8v) _ r1 hu (by with_unfolding_all rfl) hzx ?_)
          | ((with_reducible refine wpList_store_newid rfl _ _ rfl x HLX.out rfl rfl (by with_unfolding_all rfl) ?_); intro w4 hx4 hb4; replace hc := hc.below hb4; have hs4 := range_blk hc.sum)
          | (with_reducible refine wpList_load_if (by with_unfolding_all rfl) 24 _ rfl _ _ rfl (x.map u8v) _ hx4 hu (by with_unfolding_all rfl) hzx ?_)
          | (with_reducible refine wpList_load_if (by with_unfolding_all rfl) 24 _ rfl _ _ rfl (S.map u8v) _ hs4 hu (by with_unfolding_all rfl) hzs ?_)
          | (go_at_call 89; (with_reducible refine (cN _).mono ?_); rintro e5 w5 ⟨rfl, hb5⟩; replace hc := hc.below hb5)
          | (with_reducible refine wpList_store_blk rfl 24 _ _ rfl w.heap.size _ (idVals Z) 24 hc.sum rfl rfl ?c2 ?c3 (idVals_one _) ?_))
        case c2 => rw [idVals_size, HZL.out]; exact sizeId
        case c3 => rw [idVals_size, idVals_size, HZL.out, HSL.out]
        intro w6 hb6 hg6
        replace hc := hc.put hb6 hg6
        go_wp2
        go_roundw
        case rel => exact ⟨k + 1, by omega, by go_num, (by rw [← HM.out]; first | rfl | simp), by rw [← HT2.out]; exact hc⟩
        case measure => simp [intOf]; omega
      · have hT2 : nodeB S x = climbB N s (way.take (k + 1)) := by rw [HT.out, stepB, if_neg hm]
        have hmI : ((m % 2 : Nat) : Int) = 0 := by omega
        rw [hmI] at hrm
        obtain ⟨Z, hZ⟩ : ∃ Z, Z = nodeB S x := ⟨_, rfl⟩
        have cN : ∀ W : World, Calls Tryz.prog 89 #[.agg (List.map u8v S).toArray, .agg (List.map u8v x).toArray] W fun e w' => e = .returned (.agg (idVals Z)) ∧ Below W.heap.size W w' := fun W => by
          rw [hZ]; exact node_any S x hSl lx W
        have hZL : Z.length = 32 := by rw [hZ]; exact nodeB_length _ _
        rw [← hZ] at hT2
        have HZL := hid hZL
        have HT2 := hid hT2
        have HLX := hid lx
        clear hZ hZL hT2 HT hmI hm lx hSl
        go_wp2_with (first
          | (with_reducible refine wpList_load_if (by with_unfolding_all rfl) 24 _ rfl _ _ rfl (x.map u8v) _ r1 hu (by with_unfolding_all rfl) hzx ?_)
          | ((with_reducible refine wpList_store_newid rfl _ _ rfl x HLX.out rfl rfl (by with_unfolding_all rfl) ?_); intro w4 hx4 hb4; replace hc := hc.below hb4; have hs4 := range_blk hc.sum)
          | (with_reducible refine wpList_load_if (by with_unfolding_all rfl) 24 _ rfl _ _ rfl (x.map u8v) _ hx4 hu (by with_unfolding_all rfl) hzx ?_)
          | (with_reducible refine wpList_load_if (by with_unfolding_all rfl) 24 _ rfl _ _ rfl (S.map u8v) _ hs4 hu (by with_unfolding_all rfl) hzs ?_)
          | (go_at_call 89; (with_reducible refine (cN _).mono ?_); rintro e5 w5 ⟨rfl, hb5⟩; replace hc := hc.below hb5)
          | (with_reducible refine wpList_store_blk rfl 24 _ _ rfl w.heap.size _ (idVals Z) 24 hc.sum rfl rfl ?c2 ?c3 (idVals_one _) ?_))
        case c2 => rw [idVals_size, HZL.out]; exact sizeId
        case c3 => rw [idVals_size, idVals_size, HZL.out, HSL.out]
        intro w6 hb6 hg6
        replace hc := hc.put hb6 hg6
        go_wp2
        go_roundw
        case rel => exact ⟨k + 1, by omega, by go_num, (by rw [← HM.out]; first | rfl | simp), by rw [← HT2.out]; exact hc⟩
        case measure => simp [intOf]; omega
    · obtain rfl : k = n := by omega
      rw [List.take_of_length_le (by omega)] at hc
      have b1 : ¬ (k : Int) < k := by omega
      have HN := hid hn
      clear hn
      obtain ⟨S, hS⟩ : ∃ S, S = climbB N s way := ⟨_, rfl⟩
      have hSl : S.length = 32 := by rw [hS]; exact climbB_length way N s hs
      rw [← hS] at hc
      have HS := hid hS
      obtain ⟨zc, hzc, hzz⟩ := hc.res
      have hs4 := range_blk hc.sum
      have hzs : (Tryz.prog.info? 24).map (·.size) = some (S.map u8v).length := by rw [List.length_map, hSl]; exact sizeId
      have HSL := hid hSl
      have HZZ := hid hzz
      clear hS hSl hzz
      generalize N / 2 ^ k = m at *
      go_wp2_with (first
        | (with_reducible refine wpList_load_if (by with_unfolding_all rfl) 24 _ rfl _ _ rfl (S.map u8v) _ hs4 hu (by with_unfolding_all rfl) hzs ?_)
        | (with_reducible refine wpList_store_blk rfl 24 _ _ rfl (w.heap.size + 1) zc (idVals S) 24 hzc rfl rfl ?c2 ?c3 (idVals_one _) ?_))
      case c2 => rw [idVals_size, HSL.out]; try exact sizeId
      case c3 => rw [idVals_size, HSL.out, HZZ.out]
      intro w9 hb9 hg9
      go_wp2
      refine bodyPost_ret (results_cell_row rfl _ _ _ _ _ _ _ rfl hb9 Tryz.underlying24 rfl (by rw [idVals_size, HSL.out]; exact sizeId)) rfl ⟨congrArg (fun t => Ending.returned (Value.agg (idVals t))) HS.out, ?_⟩
      exact hc.bel.grown hg9 hc.bel.size (by intro i e; cases e; omega)
end Go.Proofs.YticpdepbgcagaaaGreat

namespace Go.Proofs.YticpdepbgcagaaaGreat
open Go.RowKit Go.Qc
attribute [local go_sem] txt_size txt_append ib_fold

/-! ### a row that is made, then filled -/
theorem wp_store_at {P : Program} {w : World} {o : Oper} {a : Act} {K : Act → World → Prop} {Q : Exit → Act → World → Prop} (ty : TypeId) (x y : Operand) (ho : o.op = .store ty x y)
    (g off : Nat) (old cs : Array Value) (t : TypeId) (hg : Blk w g t old) (hx : a.eval x = .pointer (some ⟨g, off, none⟩)) (hy : a.eval y = .agg cs) (hi : (P.info? ty).map (·.size) = some cs.size) (hs : off + cs.size ≤ old.size) (h1 : cs.all (·.oneCell') = true)
    (h : ∀ w', Blk w' g t (over old off cs.toList) → w.grownBy w' (some g) → K (a.put o.dst undef) w') : o.wp P a w K Q := by
  have hone : ∀ v ∈ cs.toList, v.oneCell' = true := fun v hv => (Array.all_eq_true_iff_forall_mem.1 h1) v (by simpa using hv)
  have hcells : (Value.agg cs).cells = cs := rfl
  have hst := run_storeCells_at P g off t cs.toList 0 old w hg (by simpa using hs) hone
  simp only [Nat.add_zero] at hst
  have hr : (Instr.storeAt ty (.pointer (some ⟨g, off, none⟩)) (.agg cs)).run P w = .ok () (w.setRow g (over old off cs.toList)) := by
    cases hq : P.info? ty with
    | none => simp [hq] at hi
    | some i =>
      have hsz : i.size = cs.size := by simpa [hq] using hi
      simp [Instr.storeAt, Instr.sureAddr, storeVar, sizeOf, typeInfo, hq, hcells, hsz]
      rw [hst]; simp [over]
  obtain ⟨hb, hgr⟩ := blk_over hg (over old off cs.toList)
  unfold Oper.wp
  simp only [execOp, ho, hx, hy]
  simp only [Sem.run_bind, hr, Result.andThen, Sem.run_pure]
  exact h _ hb hgr
/-- A row of n at block g, the first k filled. -/
structure MadeP (w : World) (n g : Nat) (F : Nat → List UInt8) (k : Nat) (W : World) : Prop where
  base : w.heap.size ≤ g
  blk : ∃ cs : Array Value, Blk W g 24 cs ∧ cs.size = n * 32 ∧ cs.toList.take (k * 32) = idsV (upTo F k)
  bel : Below w.heap.size w W
theorem MadeP.below {w W W' : World} {n g : Nat} {F : Nat → List UInt8} {k : Nat} (h : MadeP w n g F k W) (hb : Below W.heap.size W W') : MadeP w n g F k W' :=
  ⟨h.base, h.blk.imp fun _ ⟨a, b⟩ => ⟨a.below hb, b⟩, h.bel.trans (hb.mono h.bel.size)⟩
theorem MadeP.put {w W W' : World} {n g : Nat} {F : Nat → List UInt8} {k : Nat} {cs : Array Value} {Z : List UInt8} (h : MadeP w n g F k W) (_ : Blk W g 24 cs) (hs : cs.size = n * 32) (ht : cs.toList.take (k * 32) = idsV (upTo F k))
    (hb : Blk W' g 24 (over cs (k * 32) (idVals Z).toList)) (hg : W.grownBy W' (some g)) (hk : k < n) (hz : Z.length = 32) (hZ : Z = F k) : MadeP w n g F (k + 1) W' := by
  have hl : (idVals Z).toList.length = 32 := by unfold idVals; simp [hz]
  refine ⟨h.base, ⟨_, hb, ?_, ?_⟩, h.bel.grown hg h.bel.size (by intro i e; cases e; exact h.base)⟩
  · rw [over_size _ _ _ (by rw [hl, hs]; omega), hs]
  · unfold over
    rw [List.toList_toArray, List.append_assoc, List.take_append, List.take_of_length_le (by rw [List.length_take]; omega), List.length_take, Array.length_toList, hs, Nat.min_eq_left (by omega), show (k + 1) * 32 - k * 32 = (idVals Z).toList.length by rw [hl]; omega, List.take_left, ht, upTo_succ, idsV_snoc, hZ]
    unfold idVals
    simp
theorem MadeP.pred {w W : World} {n g : Nat} {F : Nat → List UInt8} {k : Nat} (hF : ∀ b, (F b).length = 32) (h : MadeP w n g F (k + 1) W) : MadeP w n g F k W := by
  obtain ⟨cs, h1, h2, h3⟩ := h.blk
  refine ⟨h.base, ⟨cs, h1, h2, ?_⟩, h.bel⟩
  have := congrArg (List.take (k * 32)) h3
  rw [List.take_take, Nat.min_eq_left (by omega), upTo_succ, idsV_snoc] at this
  rw [this, List.take_left' (by rw [idsV_length _ (upTo_32 F hF k), upTo_length])]
theorem MadeP.own {w W : World} {n g : Nat} {F : Nat → List UInt8} (h : MadeP w n g F n W) (hm : n ≤ maxLen) (hF : ∀ b, (F b).length = 32) : W.ownsRow w.heap.size 24 32 (.slice (some ⟨g, 0, none⟩) n n) n (idsV (upTo F n)) := by
  obtain ⟨cs, h1, h2, h3⟩ := h.blk
  exact ⟨by rw [idsV_length _ (upTo_32 F hF n), upTo_length], .inr ⟨g, n, cs, rfl, h.base, h1, Nat.le_refl _, hm, h2, h3⟩⟩
theorem MadeP.start {w W : World} {n g : Nat} {F : Nat → List UInt8} {xs : List Value} (h : W.ownsRow w.heap.size 24 32 (.slice (some ⟨g, 0, none⟩) n n) n xs) (hb : Below w.heap.size w W) : MadeP w n g F 0 W := by
  rcases h.2 with ⟨h1, _⟩ | ⟨g', cap, cur, h1, h2, h3, _, _, h4, _⟩
  · cases h1
  · injection h1 with q1 q2 q3
    injection q1 with q1
    injection q1 with q1
    subst q1 q3
    exact ⟨h2, ⟨cur, h3, h4, by simp [upTo, idsV]⟩, hb⟩
theorem index_own (g m k : Nat) (hk : k < m) (W : World) : (Instr.indexAt 25 (.slice (some ⟨g, 0, none⟩) m m) (.int .i64 (k : Int))).run Tryz.prog W = .ok (.pointer (some ⟨g, k * 32, none⟩)) W := by
  obtain ⟨i0, hi, h32, _⟩ := infoId_parts
  have h1 : (0 : Int) ≤ (k : Int) ∧ (k : Int) < (m : Int) := by omega
  simp [Instr.indexAt, run_underlying Tryz.underlying25, asIntOf, h1, sizeOf, typeInfo, hi, h32, Addr.add_lit, Int.toNat_natCast]
  intro h2; omega

/-! ### what stands above a row's pairs -/
set_option maxRecDepth 100000 in
set_option maxHeartbeats 8000000 in
set_option linter.unusedSimpArgs false in
theorem above_any (A : Option Addr) (n c : Nat) (l : List (List UInt8)) (hN : n ≤ 100000) (w : World) (hA : RowR w A n l) :
    Calls Tryz.prog 105 #[.slice A n c] w fun e w' => ∃ v, e = .returned v ∧ w'.ownsRow w.heap.size 24 32 v (n / 2) (idsV (upTo (aboveB l) (n / 2))) ∧ Below w.heap.size w w' := by
  obtain ⟨hn, bn, hr⟩ := hA
  have hu := Tryz.underlying24
  obtain ⟨j0, hj, hjz, hjs, hjb⟩ := infoId2_parts
  have hq : ((n : Int)).tdiv 2 = ((n / 2 : Nat) : Int) := (half_facts n).1
  go_enter Tryz.func105, Tryz.ntmps105
  go_wp2_with (at_make; refine wpList_make_full _ rfl _ _ 25 rfl w.heap.size 24 j0 (.agg (idVals zeroB)) 32 Tryz.underlying25 hj hjz hjs _ _ _ _ (n / 2) rfl rfl ?c0 ?c1 ?c2 ?c3 (Nat.le_refl _) ?_)
  case c0 => first | exact hq | (rw [hq]) | omega
  case c1 => first | exact hq | (rw [hq]) | omega
  case c2 => rw [hjb]; omega
  case c3 => unfold maxLen; omega
  intro w1 hown1 hg1
  have hb1 : Below w.heap.size w w1 := (Below.refl _ w).grown hg1 (Nat.le_refl _) (by intro i e; cases e)
  have hm1 : MadeP w (n / 2) w.heap.size (aboveB l) 0 w1 := MadeP.start hown1 hb1
  clear hown1 hb1 hg1
  go_wp2
  go_loopw [12] (fun i wr => ∃ k : Nat, k ≤ n / 2 ∧ i = .int .i64 k ∧ MadeP w (n / 2) w.heap.size (aboveB l) k wr) (fun i _ => n / 2 - (intOf i).toNat)
  case atStart => exact ⟨0, by omega, rfl, hm1⟩
  case round =>
    obtain ⟨k, hk, rfl, hm⟩ := hrel
    by_cases hlt : k < n / 2
    · obtain ⟨x, hx⟩ : ∃ x, l[2 * k]? = some x := ⟨_, List.getElem?_eq_getElem (by omega)⟩
      obtain ⟨y, hy⟩ : ∃ y, l[2 * k + 1]? = some y := ⟨_, List.getElem?_eq_getElem (by omega)⟩
      obtain ⟨gx, qx, hgx, lx, hix⟩ := hr.pick c hn hx
      obtain ⟨gy, qy, hgy, ly, hiy⟩ := hr.pick c hn hy
      rw [show ((2 * k : Nat) : Int) = 2 * (k : Int) by omega] at hix
      rw [show ((2 * k + 1 : Nat) : Int) = 2 * (k : Int) + 1 by omega] at hiy
      have hio := index_own w.heap.size (n / 2) k hlt
      have hw1 : IntKind.i64.wrap (2 * (k : Int)) = 2 * (k : Int) := by rw [IntKind.wrap_i64]; omega
      have hw2 : IntKind.i64.wrap (2 * (k : Int) + 1) = 2 * (k : Int) + 1 := by rw [IntKind.wrap_i64]; omega
      have ngx := range_lt hgx lx
      have ngy := range_lt hgy ly
      have b1 : (k : Int) < (n / 2 : Nat) := by omega
      have hzx : (Tryz.prog.info? 24).map (·.size) = some (x.map u8v).length := by rw [List.length_map, lx]; exact sizeId
      have hzy : (Tryz.prog.info? 24).map (·.size) = some (y.map u8v).length := by rw [List.length_map, ly]; exact sizeId
      obtain ⟨Z, hZ⟩ : ∃ Z, Z = aboveB l k := ⟨_, rfl⟩
      have hZL : Z.length = 32 := by rw [hZ]; exact aboveB_length _ _
      have cN : ∀ W : World, Calls Tryz.prog 89 #[.agg (List.map u8v x).toArray, .agg (List.map u8v y).toArray] W fun e w' => e = .returned (.agg (idVals Z)) ∧ Below W.heap.size W w' := fun W => by
        have := node_any x y lx ly W
        rw [hZ, aboveB, getB_some hx, getB_some hy]
        exact this
      have HZL := hid hZL
      have HZ := hid hZ
      have HN := hid hn
      clear hZ hZL hn hx hy lx ly hm1
      go_wp2
      refine wp_region_held_drew (S := fun W => W.rangeAt gx qx (x.map u8v) ∧ W.rangeAt gy qy (y.map u8v) ∧ MadeP w (n / 2) w.heap.size (aboveB l) k W) (by kernel_rfl) ?_ (fun hHeld => ?_)
      · exact ⟨hgx.below (hm.bel.trans ((below_drew1 wr).mono hm.bel.size)), hgy.below (hm.bel.trans ((below_drew1 wr).mono hm.bel.size)), hm.below (below_drew1 wr)⟩
      refine' wpAnyH_take (i := 0) (v := .slice (some ⟨w.heap.size, 0, none⟩) (n / 2) (n / 2)) rfl (by kernel_rfl) (by kernel_rfl) (by kernel_rfl) (fun _ _ _ h => h) (Or.inl ⟨by rfl, fun w' hw' => by go_simp⟩) hHeld ?_
      try simp only [Act.put, List.getElem_toArray, List.getElem_cons_succ, List.getElem_cons_zero, List.setIfInBounds_toArray, List.set_cons_zero, List.set_cons_succ]
      refine' wpAnyH_take (i := 1) (v := .int .i64 k) rfl (by kernel_rfl) (by kernel_rfl) (by kernel_rfl) (fun _ _ _ h => h) (Or.inl ⟨by rfl, fun w' hw' => by go_simp⟩) hHeld ?_
      try simp only [Act.put, List.getElem_toArray, List.getElem_cons_succ, List.getElem_cons_zero, List.setIfInBounds_toArray, List.set_cons_zero, List.set_cons_succ]
      refine' wpAnyH_take (i := 2) (v := .slice A n c) rfl (by kernel_rfl) (by kernel_rfl) (by kernel_rfl) (fun _ _ _ h => h) (Or.inl ⟨by rfl, fun w' hw' => by go_simp⟩) hHeld ?_
      try simp only [Act.put, List.getElem_toArray, List.getElem_cons_succ, List.getElem_cons_zero, List.setIfInBounds_toArray, List.set_cons_zero, List.set_cons_succ]
      refine' wpAnyH_take (i := 3) (v := .int .i64 k) rfl (by kernel_rfl) (by kernel_rfl) (by kernel_rfl) (fun _ _ _ h => h) (Or.inl ⟨by rfl, fun w' hw' => by go_simp⟩) hHeld ?_
      try simp only [Act.put, List.getElem_toArray, List.getElem_cons_succ, List.getElem_cons_zero, List.setIfInBounds_toArray, List.set_cons_zero, List.set_cons_succ]
      refine' wpAnyH_take (i := 4) (v := .int .i64 (2 * (k : Int))) rfl (by kernel_rfl) (by kernel_rfl) (by kernel_rfl) (fun _ _ _ h => h) (Or.inl ⟨by rfl, fun w' hw' => by go_simp⟩) hHeld ?_
      try simp only [Act.put, List.getElem_toArray, List.getElem_cons_succ, List.getElem_cons_zero, List.setIfInBounds_toArray, List.set_cons_zero, List.set_cons_succ]
      refine' wpAnyH_take (i := 5) (v := .pointer (some ⟨gx, qx, none⟩)) rfl (by kernel_rfl) (by kernel_rfl) (by kernel_rfl) (fun _ _ _ h => h) (Or.inl ⟨by rfl, fun w' hw' => by have hv := hix w'; go_simp⟩) hHeld ?_
      try simp only [Act.put, List.getElem_toArray, List.getElem_cons_succ, List.getElem_cons_zero, List.setIfInBounds_toArray, List.set_cons_zero, List.set_cons_succ]
      refine' wpAnyH_take (i := 6) (v := _) rfl (by kernel_rfl) (by kernel_rfl) (by kernel_rfl) (fun _ _ _ h => h) (yieldsIf_load_mid (by rfl) 24 _ rfl _ _ rfl (x.map u8v) _ (fun w' h => h.1) hu rfl hzx) hHeld ?_
      try simp only [Act.put, List.getElem_toArray, List.getElem_cons_succ, List.getElem_cons_zero, List.setIfInBounds_toArray, List.set_cons_zero, List.set_cons_succ]
      refine' wpAnyH_take (i := 7) (v := .slice A n c) rfl (by kernel_rfl) (by kernel_rfl) (by kernel_rfl) (fun _ _ _ h => h) (Or.inl ⟨by rfl, fun w' hw' => by go_simp⟩) hHeld ?_
      try simp only [Act.put, List.getElem_toArray, List.getElem_cons_succ, List.getElem_cons_zero, List.setIfInBounds_toArray, List.set_cons_zero, List.set_cons_succ]
      refine' wpAnyH_take (i := 8) (v := .int .i64 k) rfl (by kernel_rfl) (by kernel_rfl) (by kernel_rfl) (fun _ _ _ h => h) (Or.inl ⟨by rfl, fun w' hw' => by go_simp⟩) hHeld ?_
      try simp only [Act.put, List.getElem_toArray, List.getElem_cons_succ, List.getElem_cons_zero, List.setIfInBounds_toArray, List.set_cons_zero, List.set_cons_succ]
      refine' wpAnyH_take (i := 9) (v := .int .i64 (2 * (k : Int))) rfl (by kernel_rfl) (by kernel_rfl) (by kernel_rfl) (fun _ _ _ h => h) (Or.inl ⟨by rfl, fun w' hw' => by go_simp⟩) hHeld ?_
      try simp only [Act.put, List.getElem_toArray, List.getElem_cons_succ, List.getElem_cons_zero, List.setIfInBounds_toArray, List.set_cons_zero, List.set_cons_succ]
      refine' wpAnyH_take (i := 10) (v := .int .i64 (2 * (k : Int) + 1)) rfl (by kernel_rfl) (by kernel_rfl) (by kernel_rfl) (fun _ _ _ h => h) (Or.inl ⟨by rfl, fun w' hw' => by go_simp⟩) hHeld ?_
      try simp only [Act.put, List.getElem_toArray, List.getElem_cons_succ, List.getElem_cons_zero, List.setIfInBounds_toArray, List.set_cons_zero, List.set_cons_succ]
      refine' wpAnyH_take (i := 11) (v := .pointer (some ⟨gy, qy, none⟩)) rfl (by kernel_rfl) (by kernel_rfl) (by kernel_rfl) (fun _ _ _ h => h) (Or.inl ⟨by rfl, fun w' hw' => by have hv := hiy w'; go_simp⟩) hHeld ?_
      try simp only [Act.put, List.getElem_toArray, List.getElem_cons_succ, List.getElem_cons_zero, List.setIfInBounds_toArray, List.set_cons_zero, List.set_cons_succ]
      refine' wpAnyH_take (i := 12) (v := _) rfl (by kernel_rfl) (by kernel_rfl) (by kernel_rfl) (fun _ _ _ h => h) (yieldsIf_load_mid (by rfl) 24 _ rfl _ _ rfl (y.map u8v) _ (fun w' h => h.2.1) hu rfl hzy) hHeld ?_
      try simp only [Act.put, List.getElem_toArray, List.getElem_cons_succ, List.getElem_cons_zero, List.setIfInBounds_toArray, List.set_cons_zero, List.set_cons_succ]
      refine wpAnyH_ready (rs := [13]) (by kernel_rfl) (by simp) ?_
      refine AllReadyH.cons rfl (fun K hK => ?_) AllReadyH.nil
      go_simp
      (with_reducible refine (cN _).mono ?_)
      rintro e5 w5 ⟨rfl, hb5⟩
      refine hK.out _ _ ⟨hHeld.1.below (hb5), hHeld.2.1.below hb5, hHeld.2.2.below hb5⟩ (fun hHeld => ?_)
      clear hK K
      try simp only [Act.put, List.getElem_toArray, List.getElem_cons_succ, List.getElem_cons_zero, List.setIfInBounds_toArray, List.set_cons_zero, List.set_cons_succ]
      refine' wpAnyH_take (i := 14) (v := .pointer (some ⟨w.heap.size, k * 32, none⟩)) rfl (by kernel_rfl) (by kernel_rfl) (by kernel_rfl) (fun _ _ _ h => h) (Or.inl ⟨by rfl, fun w' hw' => by have hv := hio w'; go_simp⟩) hHeld ?_
      try simp only [Act.put, List.getElem_toArray, List.getElem_cons_succ, List.getElem_cons_zero, List.setIfInBounds_toArray, List.set_cons_zero, List.set_cons_succ]
      refine wpAnyH_ready (rs := [15]) (by kernel_rfl) (by simp) ?_
      refine AllReadyH.cons rfl (fun K hK => ?_) AllReadyH.nil
      obtain ⟨cs, hC, hCs, hCt⟩ := hHeld.2.2.blk
      refine wp_store_at 24 _ _ rfl w.heap.size (k * 32) cs (idVals Z) 24 hC rfl rfl (by rw [idVals_size, HZL.out]; exact sizeId) (by rw [idVals_size, HZL.out, hCs]; omega) (idVals_one _) ?_
      intro w8 hb8 hg8
      have hm8 := hHeld.2.2.put hC hCs hCt hb8 hg8 (by omega) HZL.out HZ.out
      refine hK.out _ _ ⟨range_gb hHeld.1 hg8 (by have := hHeld.2.2.base; omega), range_gb hHeld.2.1 hg8 (by have := hHeld.2.2.base; omega), (hm8.pred (aboveB_length l))⟩ (fun hHeld => ?_)
      clear hK K
      try simp only [Act.put, List.getElem_toArray, List.getElem_cons_succ, List.getElem_cons_zero, List.setIfInBounds_toArray, List.set_cons_zero, List.set_cons_succ]
      refine wpAnyH_done (by kernel_rfl) ?_ _
      go_wp2
      go_roundw
      case rel => exact ⟨k + 1, by omega, by go_num, hm8⟩
      case measure => simp [intOf]; omega
    · obtain rfl : k = n / 2 := by omega
      have b1 : ¬ ((n / 2 : Nat) : Int) < (n / 2 : Nat) := by omega
      go_wp2
      go_ret
      exact ⟨_, rfl, hm.own (by unfold maxLen; omega) (aboveB_length l), hm.bel⟩
end Go.Proofs.YticpdepbgcagaaaGreat

namespace Go.Proofs.YticpdepbgcagaaaGreat
open Go.RowKit Go.Qc
attribute [local go_sem] txt_size txt_append ib_fold

/-! ### slices.Clone at ids -/
set_option maxRecDepth 100000 in
set_option maxHeartbeats 4000000 in
theorem clone_any (A : Option Addr) (n c : Nat) (l : List (List UInt8)) (w : World) (hA : RowR w A n l) :
    Calls Tryz.prog 104 #[.slice A n c] w fun e w' => ∃ v, e = .returned v ∧ w'.ownsRow w.heap.size 24 32 v n (idsV l) ∧ Below w.heap.size w w' := by
  obtain ⟨hn, bn, h32, hr⟩ := hA
  obtain ⟨j0, hj, hjz, hjs, hjb⟩ := infoId2_parts
  have hlen := idsV_length l h32
  rw [hn] at hlen
  have qN : ∀ (W : World) (a : Option Addr) (n c n' c' : Nat), (binOp .eql 25 (.slice a n c) (.slice none n' c')).run Tryz.prog W = .ok (.bool a.isNone) W := fun W a n c n' c' => Lib.run_eql_slice_nil W _ _ a n c n' c' Tryz.underlying25
  cases A with
  | none =>
    obtain rfl : l = [] := by rcases hr with h | ⟨g, o, h, _⟩; exact h; cases h
    obtain rfl : n = 0 := hn.symm
    go_enter Tryz.func104, Tryz.ntmps104
    go_wp2
    go_ret
    exact ⟨_, rfl, World.ownsRow_nil _ _ _ _, Below.refl _ _⟩
  | some ad =>
    have hc : ∀ j u, (idsV l)[j]? = some u → w.cell? (ad.add j) = some u := by
      rcases hr with rfl | ⟨g, o, h, hr⟩
      · intro j u h; simp [idsV] at h
      · cases h
        intro j u hju
        rw [Addr.add_lit]
        exact hr j u hju
    have h1 : ∀ u ∈ idsV l, u.oneCell' = true := by
      intro u hu
      simp only [idsV, List.mem_flatMap] at hu
      obtain ⟨a, _, hu⟩ := hu
      exact u8v_one a u hu
    clear hr hn h32
    go_enter Tryz.func104, Tryz.ntmps104
    go_wp2_with (at_builtin; refine wpList_append_own _ rfl _ _ 25 rfl w.heap.size 24 j0 (.agg (idVals zeroB)) 32 32 Tryz.underlying25 hj hjz hjs hjb rfl (by decide) _ _ _ rfl (World.ownsRow_made w #[] 0 (Nat.le_refl _) (by decide) rfl) ad n c (idsV l) rfl ?l1 ?l6 h1 ?l2 ?l3 ?l4 ?_)
    case l1 => exact hlen
    case l6 => intro j u hju; exact Lib.cell?_alloc_some _ (hc j u hju)
    case l2 => unfold maxLen; omega
    case l3 => omega
    case l4 => simp
    intro v' w1 hown hgrow _
    go_wp2
    go_ret
    exact ⟨v', rfl, by simpa using hown, ((Below.refl _ w).alloc (Nat.le_refl _) _).grown hgrow (by simp) (by intro k hk; simp [Value.ownBlock] at hk; omega)⟩

/-! ### rows of rows -/
/-- So many rows, each half as long as the one before, each of what stands above. -/
def FoldR (W : World) (base : Nat) (f : Nat → List UInt8) (k m : Nat) (vs : List Value) : Prop :=
  vs.length = m ∧ ∀ j, j < m → ∃ v, vs[j]? = some v ∧ W.ownsRow base 24 32 v (2 ^ (k - j)) (idsV (upTo (ndB f j) (2 ^ (k - j))))
theorem FoldR.below {W W' : World} {base k m : Nat} {f : Nat → List UInt8} {vs : List Value} (h : FoldR W base f k m vs) (hb : Below W.heap.size W W') : FoldR W' base f k m vs :=
  ⟨h.1, fun j hj => (h.2 j hj).imp fun _ ⟨a, b⟩ => ⟨a, own_below b hb⟩⟩
theorem own_two {W W' : World} {b1 b2 n m : Nat} {v u : Value} {xs ys : List Value} (h : W.ownsRow b1 24 32 v n xs) (hw : W.ownsRow b2 25 1 u m ys) (hg : W.grownBy W' u.ownBlock) : W'.ownsRow b1 24 32 v n xs := by
  refine h.kept hg ?_
  rcases h.2 with ⟨rfl, _⟩ | ⟨g, cap, cur, rfl, _, hb, _⟩
  · exact .inl rfl
  · right
    rcases hw.2 with ⟨rfl, _⟩ | ⟨g2, cap2, cur2, rfl, _, hb2, _⟩
    · simp [Value.ownBlock]
    · intro e
      simp only [Value.ownBlock, Option.some.injEq] at e
      subst e
      rw [hb] at hb2
      injection hb2 with e
      injection e with _ e
      exact absurd e (by decide)
theorem FoldR.grow {W W' : World} {base b2 k m n : Nat} {f : Nat → List UInt8} {vs ys : List Value} {u : Value} (h : FoldR W base f k m vs) (hw : W.ownsRow b2 25 1 u n ys) (hg : W.grownBy W' u.ownBlock) : FoldR W' base f k m vs :=
  ⟨h.1, fun j hj => (h.2 j hj).imp fun _ ⟨a, b⟩ => ⟨a, own_two b hw hg⟩⟩
theorem FoldR.snoc {W : World} {base k m : Nat} {f : Nat → List UInt8} {vs : List Value} {v : Value} (h : FoldR W base f k m vs) (hv : W.ownsRow base 24 32 v (2 ^ (k - m)) (idsV (upTo (ndB f m) (2 ^ (k - m))))) : FoldR W base f k (m + 1) (vs ++ [v]) := by
  refine ⟨by rw [List.length_append, h.1]; rfl, fun j hj => ?_⟩
  by_cases hjm : j < m
  · obtain ⟨u, h1, h2⟩ := h.2 j hjm
    exact ⟨u, by rw [List.getElem?_append_left (by rw [h.1]; exact hjm)]; exact h1, h2⟩
  · obtain rfl : j = m := by omega
    exact ⟨v, by rw [List.getElem?_append_right (by rw [h.1]; exact Nat.le_refl _), h.1]; simp, hv⟩
theorem infoRow_parts : ∃ i, Tryz.prog.info? 25 = some i ∧ i.zero = some (.slice none 0 0) ∧ i.size = 1 ∧ i.bytes = 24 :=
  info_parts (by kernel_rfl)
theorem and_facts (k : Nat) (hk : k ≤ 5) : (bits BinOp.and IntKind.i64 ((2 ^ k : Nat) : Int) (((2 ^ k : Nat) : Int) - 1) != 0) = false := by
  obtain rfl | rfl | rfl | rfl | rfl | rfl : k = 0 ∨ k = 1 ∨ k = 2 ∨ k = 3 ∨ k = 4 ∨ k = 5 := by omega
  all_goals decide
/-- append of values that the statement itself lists: what else there is, but for the row's block, stays. -/
theorem wpList_append_newk {P : Program} {w : World} {ops : Array Oper} {rest : List Oper} {o : Oper} {a : Act} {Q : Exit → Act → World → Prop} (hgd : o.guard = none) (s x : Operand) (t : TypeId)
    (ho : o.op = .call { callee := .builtin .append, args := #[s, x], argTypes := #[t, t] })
    (base : Nat) (e : TypeId) (i : TypeInfo) (z : Value) (bytes : Nat) (ht : P.underlying t = some (.slice e)) (hi : P.info? e = some i) (hz : i.zero = some z)
    (hsize : i.size = 1) (hby : i.bytes = bytes) (hzs : z.cells.size = 1)
    (v : Value) (n : Nat) (xs : List Value) (hs : a.eval s = v) (hown : w.ownsRow base e 1 v n xs)
    (m : Nat) (cs : Array Value) (hm : cs.size = m) (hx : a.eval x = .slice (some ⟨w.heap.size, 0, none⟩) m m) (h1 : ∀ u ∈ cs.toList, u.oneCell' = true)
    (h63 : n + m ≤ maxLen) (hbytes : (n + m) * bytes ≤ 140737488355328) (hbase : base ≤ w.heap.size)
    (h : ∀ v' w', w'.ownsRow base e 1 v' (n + m) (xs ++ cs.toList) → (w.alloc (.cells cs e)).grownBy w' v.ownBlock → wpList P ops Q rest (a.put o.dst v') w') :
    wpList P ops Q (o :: rest) a (w.alloc (.cells cs e)) := by
  have hnew : ∀ j u, cs.toList[j]? = some u → (w.alloc (.cells cs e)).cell? ((⟨w.heap.size, 0, none⟩ : Addr).add j) = some u := by
    intro j u hu
    have hadd : (⟨w.heap.size, 0, none⟩ : Addr).add j = ⟨w.heap.size, j, none⟩ := by unfold Addr.add; split <;> simp_all
    rw [hadd, cell_of_row (w.alloc (.cells cs e)) w.heap.size j cs e (0, 0) (heap_alloc_new w _)]
    simpa using hu
  refine wpList_append_own (w.alloc (.cells cs e)) hgd s x t ho base e i z 1 bytes ht hi hz hsize hby hzs (by decide) v n xs hs (hown.alloc _) ⟨w.heap.size, 0, none⟩ m m cs.toList hx (by simpa using hm) hnew h1 h63 hbytes (by simp; omega) ?_
  intro v' w' h2 h3 _
  exact h v' w' h2 h3
theorem own_mono {w : World} {b b' n : Nat} {e : TypeId} {size : Nat} {v : Value} {xs : List Value} (h : w.ownsRow b e size v n xs) (hb : b' ≤ b) : w.ownsRow b' e size v n xs :=
  ⟨h.1, h.2.imp id fun ⟨g, cap, cur, h1, h2, h3⟩ => ⟨g, cap, cur, h1, Nat.le_trans hb h2, h3⟩⟩
theorem own_gbl {w w' : World} {b g n : Nat} {e : TypeId} {size : Nat} {v : Value} {xs : List Value} (h : w.ownsRow b e size v n xs) (hg : w.grownBy w' (some g)) (hb : g < b) : w'.ownsRow b e size v n xs := by
  refine h.kept hg ?_
  rcases h.2 with ⟨rfl, _⟩ | ⟨g2, cap, cur, rfl, h2, _⟩
  · exact .inl rfl
  · right
    intro e
    simp only [Value.ownBlock, Option.some.injEq] at e
    omega
theorem FoldR.mono {W : World} {b b' k m : Nat} {f : Nat → List UInt8} {vs : List Value} (h : FoldR W b f k m vs) (hb : b' ≤ b) : FoldR W b' f k m vs :=
  ⟨h.1, fun j hj => (h.2 j hj).imp fun _ ⟨x, y⟩ => ⟨x, own_mono y hb⟩⟩
theorem FoldR.gb {W W' : World} {b g k m : Nat} {f : Nat → List UInt8} {vs : List Value} (h : FoldR W b f k m vs) (hg : W.grownBy W' (some g)) (hb : g < b) : FoldR W' b f k m vs :=
  ⟨h.1, fun j hj => (h.2 j hj).imp fun _ ⟨x, y⟩ => ⟨x, own_gbl y hg hb⟩⟩
/-- Where a fold stands: j rows above the first. -/
structure FoldS (w : World) (f : Nat → List UInt8) (k j : Nat) (r v : Value) (W : World) : Prop where
  res : ∃ zc : Array Value, Blk W w.heap.size 24 zc ∧ zc.size = 32
  bel : Below w.heap.size w W
  lt : w.heap.size < W.heap.size
  rows : ∃ vs, W.ownsRow (w.heap.size + 1) 25 1 v (j + 1) vs ∧ FoldR W (w.heap.size + 1) f k (j + 1) vs ∧ vs[j]? = some r
theorem FoldS.below {w W W' : World} {f : Nat → List UInt8} {k j : Nat} {r v : Value} (h : FoldS w f k j r v W) (hb : Below W.heap.size W W') : FoldS w f k j r v W' :=
  ⟨h.res.imp fun _ ⟨x, y⟩ => ⟨x.below hb, y⟩, h.bel.trans (hb.mono h.bel.size), Nat.lt_of_lt_of_le h.lt hb.size, h.rows.imp fun _ ⟨x, y, z⟩ => ⟨own_below x hb, y.below hb, z⟩⟩
theorem FoldS.row {w W : World} {f : Nat → List UInt8} {k j : Nat} {r v : Value} (h : FoldS w f k j r v W) : W.ownsRow (w.heap.size + 1) 24 32 r (2 ^ (k - j)) (idsV (upTo (ndB f j) (2 ^ (k - j)))) := by
  obtain ⟨vs, _, h2, h3⟩ := h.rows
  obtain ⟨u, h4, h5⟩ := h2.2 j (Nat.lt_succ_self _)
  rw [h3] at h4
  cases h4
  exact h5
theorem one_slice (A : Option Addr) (n c : Nat) : ∀ u ∈ (#[Value.slice A n c] : Array Value).toList, u.oneCell' = true := by
  intro u hu
  simp at hu
  rw [hu]; rfl
theorem pow_half {k j : Nat} (h : j < k) : 2 ^ (k - j) = 2 * 2 ^ (k - (j + 1)) := by
  rw [show k - j = (k - (j + 1)) + 1 by omega, Nat.pow_succ, Nat.mul_comm]
set_option maxRecDepth 100000 in
set_option maxHeartbeats 8000000 in
theorem fold_any (A : Option Addr) (c : Nat) (l : List (List UInt8)) (k : Nat) (hk : k ≤ 5) (w : World) (hA : RowR w A (2 ^ k) l) :
    Calls Tryz.prog 86 #[.slice A (2 ^ k) c] w fun e w' => ∃ v vs, e = .returned (.tuple #[.agg (idVals (ndB (getB l) k 0)), v]) ∧ w'.ownsRow w.heap.size 25 1 v (k + 1) vs ∧ FoldR w' w.heap.size (getB l) k (k + 1) vs ∧ Below w.heap.size w w' := by
  have hu := Tryz.underlying24
  obtain ⟨r0, hr, hrz, hrs, hrb⟩ := infoRow_parts
  have h32 := hA.2.2.1
  have hln := hA.1
  have hf := getB_length h32
  have hl0 : l = upTo (ndB (getB l) 0) (2 ^ (k - 0)) := by
    rw [Nat.sub_zero, ← hln]; exact (upTo_getB l).symm
  have hand := and_facts k hk
  have hP32 : 2 ^ k ≤ 32 := by
    obtain rfl | rfl | rfl | rfl | rfl | rfl : k = 0 ∨ k = 1 ∨ k = 2 ∨ k = 3 ∨ k = 4 ∨ k = 5 := by omega
    all_goals decide
  have hP1 : 1 ≤ 2 ^ k := Nat.one_le_two_pow
  have hPz : (2 ^ (k - 0)) = 2 ^ k := rfl
  obtain ⟨P, hP⟩ : ∃ P, P = 2 ^ k := ⟨_, rfl⟩
  rw [← hP] at hA hand hP32 hP1 hln ⊢
  obtain ⟨f, hF⟩ : ∃ f, f = getB l := ⟨_, rfl⟩
  rw [← hF] at hf hl0 ⊢
  have cC : ∀ W, RowR W A P l → Calls Tryz.prog 104 #[.slice A P c] W fun e w' => ∃ v, e = .returned v ∧ w'.ownsRow W.heap.size 24 32 v P (idsV l) ∧ Below W.heap.size W w' := fun W h => clone_any A P c l W h
  have HP := hid hP
  have HF := hid hF
  have HL0 := hid hl0
  have H32 := hid h32
  have HLN := hid hln
  clear hP hF hl0 h32 hln hPz
  have z1 : ((P : Int) == 0) = false := by simp; omega
  have hA1 : ∀ o, RowR (w.alloc o) A P l := fun o => hA.below ((Below.refl _ w).alloc (Nat.le_refl _) o)
  go_enter Tryz.func86, Tryz.ntmps86
  go_wp2_with (first
    | (go_at_call 104; (with_reducible refine (cC _ (hA1 _)).mono ?_); rintro e1 w1 ⟨v1, rfl, hown1, hb1⟩; obtain ⟨A1, c1, rfl, hrow1⟩ := RowAt.own hown1 H32.out (by omega)))
  have h0 : FoldS w f k 0 (.slice A1 P c1) (.slice (some ⟨w1.heap.size, 0, none⟩) 1 1) (w1.alloc (.cells #[.slice A1 P c1] 25)) := by
    have hk1 : ∀ o, (w.alloc o).heap.size = w.heap.size + 1 := fun o => by simp
    rw [hk1] at hown1 hb1
    have hR := (Blk.new w 24 #[.int .u8 0, .int .u8 0, .int .u8 0, .int .u8 0, .int .u8 0, .int .u8 0, .int .u8 0, .int .u8 0, .int .u8 0, .int .u8 0, .int .u8 0, .int .u8 0, .int .u8 0, .int .u8 0, .int .u8 0, .int .u8 0, .int .u8 0, .int .u8 0, .int .u8 0, .int .u8 0, .int .u8 0, .int .u8 0, .int .u8 0, .int .u8 0, .int .u8 0, .int .u8 0, .int .u8 0, .int .u8 0, .int .u8 0, .int .u8 0, .int .u8 0, .int .u8 0]).below (by rw [hk1]; exact hb1)
    have hB : Below w.heap.size w w1 := ((Below.refl _ w).alloc (Nat.le_refl _) _).trans (hb1.mono (Nat.le_succ _))
    have hs1 : w.heap.size + 1 ≤ w1.heap.size := by have := hb1.size; rw [hk1] at this; exact this
    refine ⟨⟨_, hR.alloc _, rfl⟩, hB.alloc hB.size _, by simp; omega, [.slice A1 P c1], World.ownsRow_lit w1 _ 1 hs1 (by decide) rfl, ⟨rfl, fun j hj => ?_⟩, rfl⟩
    obtain rfl : j = 0 := by omega
    refine ⟨_, rfl, ?_⟩
    have e1 : 2 ^ (k - 0) = P := HP.out.symm
    have e2 : upTo (ndB f 0) P = l := by rw [← e1]; exact HL0.out.symm
    rw [e1, e2]
    exact hown1.alloc _
  clear hown1 hb1 hrow1 hA1 cC
  generalize w1.alloc (.cells #[.slice A1 P c1] 25) = w2 at *
  go_loopw [4, 5] (fun r v wr => ∃ j, j ≤ k ∧ FoldS w f k j r v wr) (fun r _ _ => match r with | .slice _ n _ => n | _ => 0)
  case atStart => exact ⟨0, by omega, h0⟩
  case round =>
    obtain ⟨j, hj, hs⟩ := hrel
    have hrow := hs.row
    obtain ⟨A2, c2, rfl, hr2⟩ := RowAt.own hrow (upTo_32 _ (ndB_length f hf j) _) (by have : 2 ^ (k - j) ≤ 2 ^ k := Nat.pow_le_pow_right (by omega) (by omega); have := HP.out; omega)
    by_cases hjk : j < k
    · have hph := pow_half hjk
      have hQ2 : 2 ^ (k - j) ≤ P := by rw [HP.out]; exact Nat.pow_le_pow_right (by omega) (by omega)
      have hlev := above_level f j (2 ^ (k - (j + 1)))
      have h32' := upTo_32 _ (ndB_length f hf (j + 1)) (2 ^ (k - (j + 1)))
      have cA := above_any A2 (2 ^ (k - j)) c2 _ (by omega) wr hr2.r
      have hQ1 : 1 ≤ 2 ^ (k - (j + 1)) := Nat.one_le_two_pow
      obtain ⟨Q, hQ⟩ : ∃ Q, Q = 2 ^ (k - (j + 1)) := ⟨_, rfl⟩
      rw [hph] at cA hr2 hs hQ2 ⊢
      rw [← hQ] at cA hr2 hs hlev h32' hQ1 hQ2 ⊢
      rw [Nat.mul_div_cancel_left _ (by decide), hlev] at cA
      have b1 : (1 : Int) < ((2 * Q : Nat) : Int) := by omega
      have hkj : j ≤ 5 := by omega
      obtain ⟨M, hM⟩ : ∃ M, M = upTo (ndB f (j + 1)) Q := ⟨_, rfl⟩
      rw [← hM] at cA h32'
      have HQ := hid hQ
      have HM := hid hM
      have H32' := hid h32'
      clear hQ hM h32' hlev hr2 hph hrow
      go_wp2_with (first
        | (go_at_call 105; (with_reducible refine cA.mono ?_); rintro e3 w3 ⟨v3, rfl, hown3, hb3⟩; obtain ⟨A3, c3, rfl, hrow3⟩ := RowAt.own hown3 H32'.out (by omega); obtain ⟨vs, hv3, hf3, hvs3⟩ := (hs.below hb3).rows)
        | (at_builtin; refine wpList_append_newk rfl _ _ 120 rfl (w.heap.size + 1) 25 r0 (.slice none 0 0) 24 Tryz.underlying120 hr hrz hrs hrb rfl _ _ _ rfl hv3 1 #[.slice A3 Q c3] rfl rfl (one_slice A3 Q c3) ?l1 ?l2 ?l3 ?_))
      case l1 => unfold maxLen; omega
      case l2 => omega
      case l3 => exact (hs.below hb3).lt
      intro v5 w5 hv5 hg5
      have hs3 := hs.below hb3
      have hlt3 := hs3.lt
      have hbA := hs3.bel.alloc hs3.bel.size (.cells #[.slice A3 Q c3] 25)
      have hown4 := (own_mono hown3 (show w.heap.size + 1 ≤ wr.heap.size from hs.lt)).alloc (.cells #[.slice A3 Q c3] 25)
      have hs5 : FoldS w f k (j + 1) (.slice A3 Q c3) v5 w5 := by
        refine ⟨?_, hbA.grown hg5 hbA.size (fun b hb => by have := (hv3.lt b hb).1; omega), Nat.lt_of_lt_of_le hlt3 (Nat.le_trans (by simp) hg5.size), vs ++ [.slice A3 Q c3], hv5, ((hf3.below ((Below.refl _ _).alloc (Nat.le_refl _) _)).grow (hv3.alloc _) hg5).snoc ?_, ?_⟩
        · obtain ⟨zc, hz1, hz2⟩ := hs3.res
          refine ⟨zc, (hg5.block _ (by simp; omega) ?_).trans (hz1.alloc _), hz2⟩
          intro e
          have := (hv3.lt _ e.symm).1
          omega
        · rw [← HQ.out, ← HM.out]
          exact own_two hown4 (hv3.alloc _) hg5
        · rw [List.getElem?_append_right (by rw [hf3.1]; exact Nat.le_refl _), hf3.1, Nat.sub_self]
          rfl
      go_wp2
      go_roundw
      case rel => exact ⟨j + 1, by omega, hs5⟩
      case measure => show Q < 2 * Q; omega
    · obtain rfl : j = k := by omega
      rw [Nat.sub_self, Nat.pow_zero] at hrow hr2 hs ⊢
      obtain ⟨X, hX⟩ : ∃ X, X = ndB f j 0 := ⟨_, rfl⟩
      have lx : X.length = 32 := by rw [hX]; exact ndB_length f hf _ _
      have hx0 : (upTo (ndB f j) 1)[0]? = some X := by rw [hX]; exact upTo_get _ _ _ (by omega)
      obtain ⟨g, q, hg, _, hix⟩ := hr2.2.2.2.2.pick c2 (upTo_length _ _) hx0
      rw [show ((0 : Nat) : Int) = 0 from rfl] at hix
      have hzx : (Tryz.prog.info? 24).map (·.size) = some (X.map u8v).length := by rw [List.length_map, lx]; exact sizeId
      obtain ⟨zc, hz1, hz2⟩ := hs.res
      obtain ⟨vs, hv3, hf3, _⟩ := hs.rows
      have hb := hs.bel
      have HX := hid hX
      have HLX := hid lx
      have HZ := hid hz2
      clear hX lx hz2 hrow hr2 hs hx0
      go_wp2_with (first
        | (with_reducible refine wpList_load_if (by with_unfolding_all rfl) 24 _ rfl _ _ rfl (X.map u8v) _ hg hu (by with_unfolding_all rfl) hzx ?_)
        | (with_reducible refine wpList_store_blk rfl 24 _ _ rfl w.heap.size zc (idVals X) 24 hz1 rfl rfl ?c2 ?c3 (idVals_one _) ?_))
      case c2 => rw [idVals_size, HLX.out]; try exact sizeId
      case c3 => rw [idVals_size, HLX.out]; try exact HZ.out
      intro w9 hb9 hg9
      go_wp2
      refine bodyPost_ret (results_cellt rfl _ _ _ _ _ _ rfl hb9 Tryz.underlying24 rfl (by rw [idVals_size, HLX.out]; exact sizeId)) rfl ⟨_, vs, by rw [← HX.out]; rfl, own_mono (own_gbl hv3 hg9 (Nat.lt_succ_self _)) (Nat.le_succ _), (hf3.gb hg9 (Nat.lt_succ_self _)).mono (Nat.le_succ _), ?_⟩
      exact hb.grown hg9 hb.size (by intro i e; cases e; omega)
end Go.Proofs.YticpdepbgcagaaaGreat

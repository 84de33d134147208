
/- Two rows merged. -/
import Derived.Test.YtkajfpincbkfhaaIdA
import Derived.Shelf.SlSortCmp.QuietGrown
namespace Go.Proofs.Ytkajfpincbkfhaa
open Go.RowKit Go.Qc
attribute [local go_sem] txt_size txt_append ib_fold ib_i64

/-- What the two rows make, one id at a time. -/
def mergeL (f : Bool → Bool → Bool) : List (List UInt8) → List (List UInt8) → List (List UInt8)
  | [], [] => []
  | a :: l, [] => (if f true false then [a] else []) ++ mergeL f l []
  | [], b :: m => (if f false true then [b] else []) ++ mergeL f [] m
  | a :: l, b :: m =>
    if Lib.compareBytes a b ≤ 0 then
      if Lib.compareBytes b a ≤ 0 then (if f true true then [b] else []) ++ mergeL f l m
      else (if f true false then [a] else []) ++ mergeL f l (b :: m)
    else (if f false true then [b] else []) ++ mergeL f (a :: l) m
termination_by l m => l.length + m.length
theorem infoId : (Try.prog.info? 24).map (fun i => (i.size, i.bytes)) = some (32, 32) := by kernel_rfl
theorem infoId2 : (Try.prog.info? 24).map (fun i => (i.zero, i.size, i.bytes)) = some (some (.agg (idVals zeroB)), 32, 32) := by kernel_rfl
theorem infoId2_parts : ∃ i, Try.prog.info? 24 = some i ∧ i.zero = some (.agg (idVals zeroB)) ∧ i.size = 32 ∧ i.bytes = 32 := by
  have h := infoId2
  cases hq : Try.prog.info? 24 with
  | none => rw [hq] at h; cases h
  | some i => rw [hq] at h; simp at h; exact ⟨i, rfl, h.1, h.2.1, h.2.2⟩
theorem infoId_parts : ∃ i, Try.prog.info? 24 = some i ∧ i.size = 32 ∧ i.bytes = 32 := by
  have h := infoId
  cases hq : Try.prog.info? 24 with
  | none => rw [hq] at h; cases h
  | some i => rw [hq] at h; simp at h; exact ⟨i, rfl, h.1, h.2⟩
theorem run_slice_next (g o n c : Nat) (hn : 1 ≤ n) (hc : n ≤ c) (_hm : c ≤ maxLen) : ∃ X : Addr, (1 < n → X = ⟨g, o + 32, none⟩) ∧ ∀ W : World, (Instr.sliceAt 22 (.slice (some ⟨g, o, none⟩) n c) (some (.int .i64 1)) none none).run Try.prog W = .ok (.slice (some X) (n - 1) (c - 1)) W := by
  refine ⟨if c = 1 then ⟨g, o, none⟩ else ⟨g, o + 32, none⟩, fun h => by rw [if_neg (by omega)], fun W => ?_⟩
  obtain ⟨i0, hi, h32, _⟩ := infoId_parts
  have h1 : (0 : Int) ≤ 1 ∧ (1 : Int) ≤ (n : Int) := by omega
  simp [Instr.sliceAt, Instr.slice, Instr.sliceBounds, run_underlying Try.underlying22, run_sliceBound, h1, sizeOf, typeInfo, hi, h32, Addr.add_lit]
  split <;> rfl
theorem IdRd.uncons {w : World} {A : Option Addr} {a : List UInt8} {t : List (List UInt8)} (h : IdRd w A (a :: t)) (n c : Nat) (hn : (a :: t).length = n) (hc : n ≤ c) (hm : c ≤ maxLen) :
    ∃ g o X, A = some ⟨g, o, none⟩ ∧ w.rangeAt g o (a.map u8v) ∧ a.length = 32 ∧ (∀ W : World, (Instr.sliceAt 22 (.slice (some ⟨g, o, none⟩) n c) (some (.int .i64 1)) none none).run Try.prog W = .ok (.slice (some X) (n - 1) (c - 1)) W) ∧ IdRd w (some X) t := by
  obtain ⟨h1, h2⟩ := h
  rcases h2 with h2 | ⟨g, o, rfl, hr⟩
  · cases h2
  · have ha := h1 a (by simp)
    obtain ⟨X, hX, hrun⟩ := run_slice_next g o n c (by rw [← hn]; simp) hc hm
    refine ⟨g, o, X, rfl, fun j v hj => hr j v ?_, ha, hrun, fun x hx => h1 x (by simp [hx]), ?_⟩
    · rw [idsV_cons, List.getElem?_append_left (List.getElem?_eq_some_iff.1 hj).1]; exact hj
    · cases t with
      | nil => exact .inl rfl
      | cons b t =>
        refine .inr ⟨g, o + 32, congrArg some (hX (by rw [← hn]; simp)), fun j v hj => ?_⟩
        rw [Nat.add_assoc]
        refine hr _ v ?_
        rw [idsV_cons, List.getElem?_append_right (by rw [List.length_map, ha]; omega), List.length_map, ha, show 32 + j - 32 = j by omega]
        exact hj
theorem cmp_anti : ∀ (a b : List UInt8), ¬ Lib.compareBytes a b ≤ 0 → Lib.compareBytes b a ≤ 0
  | [], [], h => by simp [Lib.compareBytes] at h
  | [], _ :: _, h => by simp [Lib.compareBytes] at h
  | _ :: _, [], h => by simp [Lib.compareBytes]
  | x :: a, y :: b, h => by
    rw [Lib.compareBytes] at h ⊢
    by_cases h1 : x < y
    · rw [if_pos h1] at h; omega
    · rw [if_neg h1] at h
      by_cases h2 : y < x
      · rw [if_pos h2]; omega
      · rw [if_neg h2] at h ⊢
        rw [if_neg h1]
        exact cmp_anti a b h
theorem two_grow (w : World) (a b : List UInt8) : two w a b = Go.Sort.grow w #[.cells (idVals a) 24, .cells (idVals b) 24] := by
  unfold two
  rw [Go.Sort.alloc_eq_grow, Go.Sort.alloc_eq_grow, Go.Sort.grow_grow]
  rfl
theorem order_grow (a b : List UInt8) (ha : a.length = 32) (hb : b.length = 32) (w : World) :
    Calls Try.prog 100 #[.agg (a.map u8v).toArray, .agg (b.map u8v).toArray] w fun e w' => e = .returned (.int .i64 (Lib.compareBytes a b)) ∧ ∃ q os, w' = Go.Sort.grow (w.drewN q) os :=
  (order_any a b ha hb w).mono (by
    rintro e w' ⟨h1, q, rfl⟩
    exact ⟨h1, q, _, by rw [two_grow]; rfl⟩)
theorem range_grown {w : World} {g o : Nat} {cs : List Value} (h : w.rangeAt g o cs) : ∀ w', (∃ p : GrownBy, w' = Go.Sort.grow (w.drewN p.n) p.os) → w'.rangeAt g o cs := by
  rintro w' ⟨p, rfl⟩ j v hj
  have hc := h j v hj
  exact cell_grown (World.block_lt_of_cell? w _ hc) hc p.n p.os
theorem below_grown2 {w : World} (n : Nat) (os : Array Obj) : Below w.heap.size w (Go.Sort.grow (w.drewN n) os) :=
  ⟨(Below.refl w.heap.size w).os, (Below.refl w.heap.size w).tape, (Below.refl w.heap.size w).output, by simp [Go.Sort.grow], fun j hj => Go.Sort.heap_grow_old (w.drewN n) os hj⟩
theorem wpQuiet_skip {P : Program} {ops : Array Oper} {C : World → Prop} {Q : Act → Prop} {rest : List Oper} {o : Oper} {a : Act} (hw : Region.wanted o (yielded ops a.tmps) = false)
    (h : wpQuiet P ops C Q rest (a.put o.dst undef)) : wpQuiet P ops C Q (o :: rest) a :=
  wpQuiet_step fun K hK => by
    rw [if_neg (by rw [hw]; decide)]
    exact hK _ h
/-- A row of cells loaded in a region that only reads. -/
theorem wpQuiet_load_if {P : Program} {ops : Array Oper} {C : World → Prop} {Q : Act → Prop} {rest : List Oper} {o : Oper} {a : Act} (hw : Region.wanted o (yielded ops a.tmps) = true) (ty : TypeId) (x : Operand) (ho : o.op = .load ty x)
    (b off : Nat) (hx : a.eval x = .pointer (some ⟨b, off, none⟩)) (cs : List Value) (d : TypeDesc) (hc : ∀ w, C w → w.rangeAt b off cs)
    (hu : P.underlying ty = some d) (hd : d.isRow = true) (hi : (P.info? ty).map (·.size) = some cs.length)
    (h : wpQuiet P ops C Q rest (a.put o.dst (.agg cs.toArray))) : wpQuiet P ops C Q (o :: rest) a :=
  wpQuiet_step fun K hK => by
    rw [if_pos hw]
    refine ⟨_, fun w hw' => ?_, hK _ h⟩
    unfold Oper.quietAt execOp
    simp only [ho, hx, Instr.loadAt, Instr.sureAddr, Sem.run_bind, Sem.run_pure, Result.andThen_ok, run_loadVar_mid w b off ty cs d (hc w hw') hu hd hi]
    exact ⟨rfl, rfl⟩
theorem range_lt {w : World} {g o : Nat} {a : List UInt8} (h : w.rangeAt g o (a.map u8v)) (ha : a.length = 32) : g < w.heap.size := by
  obtain ⟨x, hx⟩ : ∃ x, a[0]? = some x := ⟨_, List.getElem?_eq_getElem (by omega)⟩
  exact World.block_lt_of_cell? w _ (h 0 (u8v x) (by rw [List.getElem?_map, hx]; rfl))
theorem gb_cells {a : World} {g : Nat} : ∀ (vs : List Value) (o : Nat) (b : World), a.grownBy b (some g) → a.grownBy (b.setCells g o vs) (some g)
  | [], _, _, h => h
  | v :: vs, o, b, h => gb_cells vs (o + 1) (b.setCell ⟨g, o, none⟩ v) (gb_set h o v)
theorem gb_drew {a b : World} {row : Option Nat} (h : a.grownBy b row) : a.grownBy b.drew row := ⟨h.os, h.tape, h.output, h.size, h.block⟩
theorem own_gb {w w' : World} {base n k : Nat} {e : TypeId} {size : Nat} {v : Value} {xs : List Value} (h : w.ownsRow base e size v n xs) (hg : w.grownBy w' (some k)) (hne : v.ownBlock ≠ some k) : w'.ownsRow base e size v n xs := h.kept hg (.inr hne)
theorem own_fresh {w : World} {base n : Nat} {e : TypeId} {size : Nat} {v : Value} {xs : List Value} (h : w.ownsRow base e size v n xs) : v.ownBlock ≠ some w.heap.size := fun he => by
  have := (h.lt _ he).2
  omega
theorem range_gb {w w' : World} {g o k : Nat} {cs : List Value} (h : w.rangeAt g o cs) (hg : w.grownBy w' (some k)) (hne : g ≠ k) : w'.rangeAt g o cs := fun j v hj => by
  have hc := h j v hj
  have hlt := World.block_lt_of_cell? w _ hc
  have := hg.block g hlt (by simpa using hne)
  unfold World.cell? at hc ⊢
  simp only [this]
  exact hc
theorem fold_get : ∀ (l : List Value) (k : Nat) (Z : Array Value) (i : Nat), k + l.length ≤ Z.size → (List.foldl (fun cs x => cs.setIfInBounds x.snd x.fst) Z (l.zipIdx k))[i]? = if k ≤ i ∧ i < k + l.length then l[i - k]? else Z[i]?
  | [], k, Z, i, _ => by rw [if_neg (by simp)]; rfl
  | v :: l, k, Z, i, h => by
    rw [List.zipIdx_cons, List.foldl_cons, fold_get l (k + 1) _ i (by simp at h ⊢; omega)]
    simp only [List.length_cons] at h ⊢
    by_cases h1 : k + 1 ≤ i ∧ i < k + 1 + l.length
    · rw [if_pos h1, if_pos (by omega), show i - k = (i - (k + 1)) + 1 by omega, List.getElem?_cons_succ]
    · rw [if_neg h1, Array.getElem?_setIfInBounds]
      by_cases h2 : k = i
      · subst h2
        rw [if_pos rfl, if_pos (by omega), if_pos (by omega), Nat.sub_self]; rfl
      · rw [if_neg h2, if_neg (by omega)]
theorem news_fold (W : World) (b : List UInt8) (hb : b.length = 32) : ∀ j u, (b.map u8v)[j]? = some u → (W.alloc (.cells (List.foldl (fun cs x => cs.setIfInBounds x.snd x.fst) #[.int .u8 0, .int .u8 0, .int .u8 0, .int .u8 0, .int .u8 0, .int .u8 0, .int .u8 0, .int .u8 0, .int .u8 0, .int .u8 0, .int .u8 0, .int .u8 0, .int .u8 0, .int .u8 0, .int .u8 0, .int .u8 0, .int .u8 0, .int .u8 0, .int .u8 0, .int .u8 0, .int .u8 0, .int .u8 0, .int .u8 0, .int .u8 0, .int .u8 0, .int .u8 0, .int .u8 0, .int .u8 0, .int .u8 0, .int .u8 0, .int .u8 0, .int .u8 0] (b.map u8v).zipIdx) 24)).cell? ((⟨W.heap.size, 0, none⟩ : Addr).add j) = some u := by
  intro j u hj
  have hlt : j < 32 := by have := (List.getElem?_eq_some_iff.1 hj).1; rwa [List.length_map, hb] at this
  rw [Addr.add_lit, Nat.zero_add, cell_of_row _ _ j _ _ _ (heap_alloc_new W _), fold_get _ 0 _ j (by rw [List.length_map, hb]; decide), if_pos (by rw [List.length_map, hb]; omega), Nat.sub_zero]
  exact hj
theorem snoc32 {out : List (List UInt8)} {b : List UInt8} (h : ∀ x ∈ out, x.length = 32) (hb : b.length = 32) : ∀ x ∈ out ++ [b], x.length = 32 := by
  intro x hx
  rcases List.mem_append.1 hx with hx | hx
  · exact h x hx
  · simp at hx; rw [hx]; exact hb
theorem there_blk {w : World} {g : Nat} {t : TypeId} {cs : Array Value} {n : Nat} (h : Blk w g t cs) (hn : cs.size = n) : w.there g 0 n := fun j hj => by
  rw [Nat.zero_add]
  exact ⟨by rw [h.cell]; simp [hn, hj], h.frozen j⟩
set_option maxRecDepth 100000 in
set_option maxHeartbeats 20000000 in
theorem merged_any (g : Nat) (F : Bool → Bool → Bool) (hg : ∀ args W, (callFunc g args).run Try.prog W = .ok (.enter g args) W) (hF : ∀ W x y, Calls Try.prog g #[.bool x, .bool y] W fun e w' => e = .returned (.bool (F x y)) ∧ W = w')
    (A B : Option Addr) (n c m d : Nat) (l r : List (List UInt8)) (hn : l.length = n) (hm : r.length = m) (hc : n ≤ c) (hd : m ≤ d) (bc : c ≤ maxLen) (bd : d ≤ maxLen) (bn : n ≤ 1000000) (bm : m ≤ 1000000) (w : World) (hA : IdRd w A l) (hB : IdRd w B r) :
    Calls Try.prog 152 #[.slice A n c, .slice B m d, .func (.func g) #[] #[]] w fun e w' => ∃ v, e = .returned v ∧ w'.ownsRow w.heap.size 24 32 v (mergeL F l r).length (idsV (mergeL F l r)) ∧ Below w.heap.size w w' := by
  go_enter Try.func152, Try.ntmps152
  go_wp2
  go_loopw [0, 1, 7] (fun a b o wr => ∃ (A' B' : Option Addr) (n' c' m' d' : Nat) (l' r' out : List (List UInt8)), a = .slice A' n' c' ∧ b = .slice B' m' d' ∧ l'.length = n' ∧ r'.length = m' ∧ n' ≤ c' ∧ m' ≤ d' ∧ c' ≤ maxLen ∧ d' ≤ maxLen ∧ IdRd w A' l' ∧ IdRd w B' r' ∧ out.length + n' + m' ≤ 2000000 ∧ (∀ x ∈ out, x.length = 32) ∧ mergeL F l r = out ++ mergeL F l' r' ∧ wr.ownsRow w.heap.size 24 32 o out.length (idsV out) ∧ Below w.heap.size w wr) (fun a b _ _ => (match a with | .slice _ n _ => n | _ => 0) + (match b with | .slice _ n _ => n | _ => 0))
  case atStart => exact ⟨A, B, n, c, m, d, l, r, [], rfl, rfl, hn, hm, hc, hd, bc, bd, hA, hB, by simp; omega, by simp, rfl, ⟨rfl, .inl ⟨rfl, rfl⟩⟩, Below.refl _ _⟩
  case round =>
    obtain ⟨A', B', n', c', m', d', l', r', out, rfl, rfl, hn', hm', hc', hd', bc', bd', hA', hB', hN0, ho, hmg, hown, hb⟩ := hrel
    clear hn hm hc hd bc bd hA hB
    have hu := Try.underlying24
    obtain ⟨j0, hj, hjz, hjs, hjb⟩ := infoId2_parts
    have mixed : Try.prog.follows .mixedOrders = true := by kernel_rfl
    cases l' with
    | nil =>
      obtain rfl : n' = 0 := by simpa using hn'.symm
      cases r' with
      | nil =>
        obtain rfl : m' = 0 := by simpa using hm'.symm
        rw [mergeL, List.append_nil] at hmg
        subst hmg
        go_wp2
        go_ret
        exact ⟨_, rfl, hown, hb⟩
      | cons b s =>
        obtain ⟨gb, ob, Y, rfl, hrb, lb, hsb, hXb⟩ := hB'.uncons m' d' hm' hd' bd'
        have p1 : 0 < m' := by rw [← hm']; simp
        have b1 : decide (0 < m') = true := decide_eq_true p1
        have z1 : ((m' : Int) == 0) = false := by rw [beq_eq_false_iff_ne]; omega
        have r0b := hrb.below hb
        have hzb : (Try.prog.info? 24).map (·.size) = some (b.map u8v).length := by rw [List.length_map, lb]; exact sizeId
        have hob := u8v_one b
        have hlb : (b.map u8v).length = 32 := by rw [List.length_map]; exact lb
        rw [mergeL] at hmg
        have HMG := hid hmg
        clear hmg
        have fb := range_grown r0b
        go_wp2
        refine wp_region_quiet_grown mixed (by kernel_rfl) ?_
        repeat (first
          | ((with_reducible refine wpQuiet_skip (by with_unfolding_all rfl) ?_); simp only [Act.put, List.setIfInBounds_toArray, List.set_cons_zero, List.set_cons_succ])
          | ((with_reducible refine wpQuiet_load_if (by with_unfolding_all rfl) 24 _ rfl gb ob rfl (b.map u8v) _ fb hu (by with_unfolding_all rfl) hzb ?_); simp only [Act.put, List.setIfInBounds_toArray, List.set_cons_zero, List.set_cons_succ])
          | ((with_reducible refine wpQuiet_step (fun K hK => ?_)); go_simp; first | ((with_reducible refine hK _ ?_); clear hK K) | (with_reducible apply Exists.intro; (with_reducible refine ⟨fun _ => ?_, hK _ ?_⟩); ((fail)); clear hK K)))
        with_reducible refine wpQuiet_nil ?_
        intro _ hw'
        obtain ⟨⟨nq, osq⟩, hw''⟩ := hw'
        subst hw''
        have hq := below_grown2 (w := wr) nq osq
        generalize Go.Sort.grow (wr.drewN nq) osq = V1 at *
        clear fb
        have r1b := r0b.below hq
        have hown1 := own_below hown hq
        have hB1 := hb.trans (hq.mono hb.size)
        clear hq hown hb r0b
        have fb := range_grown r1b
        go_wp2
        refine wp_region_quiet_grown mixed (by kernel_rfl) ?_
        repeat (first
          | ((with_reducible refine wpQuiet_skip (by with_unfolding_all rfl) ?_); simp only [Act.put, List.setIfInBounds_toArray, List.set_cons_zero, List.set_cons_succ])
          | ((with_reducible refine wpQuiet_load_if (by with_unfolding_all rfl) 24 _ rfl gb ob rfl (b.map u8v) _ fb hu (by with_unfolding_all rfl) hzb ?_); simp only [Act.put, List.setIfInBounds_toArray, List.set_cons_zero, List.set_cons_succ])
          | ((with_reducible refine wpQuiet_step (fun K hK => ?_)); go_simp; first | ((with_reducible refine hK _ ?_); clear hK K) | (with_reducible apply Exists.intro; (with_reducible refine ⟨fun _ => ?_, hK _ ?_⟩); ((fail)); clear hK K)))
        with_reducible refine wpQuiet_nil ?_
        intro _ hw'
        obtain ⟨⟨nq, osq⟩, hw''⟩ := hw'
        subst hw''
        have hq := below_grown2 (w := V1) nq osq
        generalize Go.Sort.grow (V1.drewN nq) osq = V2 at *
        clear fb
        have r2b := r1b.below hq
        have hown2 := own_below hown1 hq
        have hB2 := hB1.trans (hq.mono hB1.size)
        clear hq hown1 hB1 r1b
        go_wp2
        have ltb := range_lt r2b lb
        have r3b := World.rangeAt_alloc r2b (Obj.cells #[.int .u8 0, .int .u8 0, .int .u8 0, .int .u8 0, .int .u8 0, .int .u8 0, .int .u8 0, .int .u8 0, .int .u8 0, .int .u8 0, .int .u8 0, .int .u8 0, .int .u8 0, .int .u8 0, .int .u8 0, .int .u8 0, .int .u8 0, .int .u8 0, .int .u8 0, .int .u8 0, .int .u8 0, .int .u8 0, .int .u8 0, .int .u8 0, .int .u8 0, .int .u8 0, .int .u8 0, .int .u8 0, .int .u8 0, .int .u8 0, .int .u8 0, .int .u8 0] 24)
        have hown3 := hown2.alloc (Obj.cells #[.int .u8 0, .int .u8 0, .int .u8 0, .int .u8 0, .int .u8 0, .int .u8 0, .int .u8 0, .int .u8 0, .int .u8 0, .int .u8 0, .int .u8 0, .int .u8 0, .int .u8 0, .int .u8 0, .int .u8 0, .int .u8 0, .int .u8 0, .int .u8 0, .int .u8 0, .int .u8 0, .int .u8 0, .int .u8 0, .int .u8 0, .int .u8 0, .int .u8 0, .int .u8 0, .int .u8 0, .int .u8 0, .int .u8 0, .int .u8 0, .int .u8 0, .int .u8 0] 24)
        have hB3 := hB2.alloc hB2.size (Obj.cells #[.int .u8 0, .int .u8 0, .int .u8 0, .int .u8 0, .int .u8 0, .int .u8 0, .int .u8 0, .int .u8 0, .int .u8 0, .int .u8 0, .int .u8 0, .int .u8 0, .int .u8 0, .int .u8 0, .int .u8 0, .int .u8 0, .int .u8 0, .int .u8 0, .int .u8 0, .int .u8 0, .int .u8 0, .int .u8 0, .int .u8 0, .int .u8 0, .int .u8 0, .int .u8 0, .int .u8 0, .int .u8 0, .int .u8 0, .int .u8 0, .int .u8 0, .int .u8 0] 24)
        have hN := Blk.new V2 24 #[.int .u8 0, .int .u8 0, .int .u8 0, .int .u8 0, .int .u8 0, .int .u8 0, .int .u8 0, .int .u8 0, .int .u8 0, .int .u8 0, .int .u8 0, .int .u8 0, .int .u8 0, .int .u8 0, .int .u8 0, .int .u8 0, .int .u8 0, .int .u8 0, .int .u8 0, .int .u8 0, .int .u8 0, .int .u8 0, .int .u8 0, .int .u8 0, .int .u8 0, .int .u8 0, .int .u8 0, .int .u8 0, .int .u8 0, .int .u8 0, .int .u8 0, .int .u8 0]
        have hok := own_fresh hown2
        have hkB := hB2.size
        generalize hZZ : V2.alloc (Obj.cells #[.int .u8 0, .int .u8 0, .int .u8 0, .int .u8 0, .int .u8 0, .int .u8 0, .int .u8 0, .int .u8 0, .int .u8 0, .int .u8 0, .int .u8 0, .int .u8 0, .int .u8 0, .int .u8 0, .int .u8 0, .int .u8 0, .int .u8 0, .int .u8 0, .int .u8 0, .int .u8 0, .int .u8 0, .int .u8 0, .int .u8 0, .int .u8 0, .int .u8 0, .int .u8 0, .int .u8 0, .int .u8 0, .int .u8 0, .int .u8 0, .int .u8 0, .int .u8 0] 24) = V3 at *
        have hth := there_blk hN rfl
        generalize V2.heap.size = k at *
        clear hown2 hB2 hZZ hN r2b
        go_region_held3 (fun w' => w'.rangeAt gb ob (b.map u8v) ∧ w'.there k 0 32) (first | go_keep_ranges | (exact ⟨r3b, hth⟩)) (fail)
        have hg : V3.grownBy (V3.drew.setCells k 0 (b.map u8v)) (some k) := gb_cells _ _ _ (gb_drew (gb_refl V3 _))
        have hx4 : (V3.drew.setCells k 0 (b.map u8v)).rangeAt k 0 (b.map u8v) := World.rangeAt_setCells_same _ _ _ _ (by rw [hlb]; exact hth)
        have hth4 : (V3.drew.setCells k 0 (b.map u8v)).there k 0 32 := World.there_setCells (show V3.drew.there k 0 32 from hth) _ _ _
        generalize V3.drew.setCells k 0 (b.map u8v) = V4 at *
        have r4b := range_gb r3b hg (by omega)
        have hown4 := own_gb hown3 hg hok
        have hB4 := hB3.grown hg hB3.size (by intro i e; cases e; exact hkB)
        clear hth hg hown3 hB3 r3b
        have hth := hth4
        clear hth4
        go_wp2
        obtain ⟨fv, hfv⟩ : ∃ fv, F false true = fv := ⟨_, rfl⟩
        have hFx := fun W => hF W false true
        rw [hfv] at hFx
        have HFV := hid hfv
        clear hF hfv
        cases fv with
        | false =>
          go_wp2_with (first | ((with_reducible refine (hFx _).mono ?_); rintro e7 w7 ⟨rfl, rfl⟩))
          go_roundw
          case rel => exact ⟨A', some Y, 0, c', m' - 1, d' - 1, [], s, out, rfl, rfl, rfl, by rw [← hm']; simp, by omega, by omega, by omega, by omega, hA', hXb, by omega, ho, by rw [HMG.out, HFV.out]; rfl, hown4, hB4⟩
          case measure => simp; omega
        | true =>
          go_wp2_with (first
            | ((with_reducible refine (hFx _).mono ?_); rintro e7 w7 ⟨rfl, rfl⟩)
            | (with_reducible refine wpList_load_if (by with_unfolding_all rfl) 24 _ rfl k 0 rfl (b.map u8v) _ hx4 hu (by with_unfolding_all rfl) hzb ?_)
            | (at_builtin; refine wpList_append_own _ rfl _ _ 22 rfl w.heap.size 24 j0 (.agg (idVals zeroB)) 32 32 Try.underlying22 hj hjz hjs hjb rfl (by decide) _ _ _ rfl (hown4.alloc _) ⟨V4.heap.size, 0, none⟩ 1 1 (b.map u8v) rfl ?l1 (news_fold V4 b lb) hob ?l2 ?l3 ?l4 ?_))
          case l1 => rw [hlb]
          case l2 => unfold maxLen; omega
          case l3 => omega
          case l4 => simp; have := hB4.size; omega
          intro v8 w8 hown8 hg8 _
          have hB8 := (hB4.alloc hB4.size _).grown hg8 (hB4.alloc hB4.size _).size (fun k hk => (hown4.lt k hk).1)
          go_wp2
          go_roundw
          case rel => exact ⟨A', some Y, 0, c', m' - 1, d' - 1, [], s, out ++ [b], rfl, rfl, rfl, by rw [← hm']; simp, by omega, by omega, by omega, by omega, hA', hXb, by simp; omega, snoc32 ho lb, by rw [HMG.out, HFV.out, List.append_assoc]; rfl, (by rw [List.length_append, idsV_snoc]; exact hown8), hB8⟩
          case measure => simp; omega
    | cons a t =>
      cases r' with
      | nil =>
        obtain rfl : m' = 0 := by simpa using hm'.symm
        obtain ⟨ga, oa, X, rfl, hra, la, hsa, hXa⟩ := hA'.uncons n' c' hn' hc' bc'
        have p0 : 0 < n' := by rw [← hn']; simp
        have b0 : decide (0 < n') = true := decide_eq_true p0
        have z0 : ((n' : Int) == 0) = false := by rw [beq_eq_false_iff_ne]; omega
        have r0a := hra.below hb
        have hza : (Try.prog.info? 24).map (·.size) = some (a.map u8v).length := by rw [List.length_map, la]; exact sizeId
        have hoa := u8v_one a
        have hla : (a.map u8v).length = 32 := by rw [List.length_map]; exact la
        rw [mergeL] at hmg
        have HMG := hid hmg
        clear hmg
        have fa := range_grown r0a
        go_wp2
        refine wp_region_quiet_grown mixed (by kernel_rfl) ?_
        repeat (first
          | ((with_reducible refine wpQuiet_skip (by with_unfolding_all rfl) ?_); simp only [Act.put, List.setIfInBounds_toArray, List.set_cons_zero, List.set_cons_succ])
          | ((with_reducible refine wpQuiet_load_if (by with_unfolding_all rfl) 24 _ rfl ga oa rfl (a.map u8v) _ fa hu (by with_unfolding_all rfl) hza ?_); simp only [Act.put, List.setIfInBounds_toArray, List.set_cons_zero, List.set_cons_succ])
          | ((with_reducible refine wpQuiet_step (fun K hK => ?_)); go_simp; first | ((with_reducible refine hK _ ?_); clear hK K) | (with_reducible apply Exists.intro; (with_reducible refine ⟨fun _ => ?_, hK _ ?_⟩); ((fail)); clear hK K)))
        with_reducible refine wpQuiet_nil ?_
        intro _ hw'
        obtain ⟨⟨nq, osq⟩, hw''⟩ := hw'
        subst hw''
        have hq := below_grown2 (w := wr) nq osq
        generalize Go.Sort.grow (wr.drewN nq) osq = V1 at *
        clear fa
        have r1a := r0a.below hq
        have hown1 := own_below hown hq
        have hB1 := hb.trans (hq.mono hb.size)
        clear hq hown hb r0a
        have fa := range_grown r1a
        go_wp2
        refine wp_region_quiet_grown mixed (by kernel_rfl) ?_
        repeat (first
          | ((with_reducible refine wpQuiet_skip (by with_unfolding_all rfl) ?_); simp only [Act.put, List.setIfInBounds_toArray, List.set_cons_zero, List.set_cons_succ])
          | ((with_reducible refine wpQuiet_load_if (by with_unfolding_all rfl) 24 _ rfl ga oa rfl (a.map u8v) _ fa hu (by with_unfolding_all rfl) hza ?_); simp only [Act.put, List.setIfInBounds_toArray, List.set_cons_zero, List.set_cons_succ])
          | ((with_reducible refine wpQuiet_step (fun K hK => ?_)); go_simp; first | ((with_reducible refine hK _ ?_); clear hK K) | (with_reducible apply Exists.intro; (with_reducible refine ⟨fun _ => ?_, hK _ ?_⟩); ((fail)); clear hK K)))
        with_reducible refine wpQuiet_nil ?_
        intro _ hw'
        obtain ⟨⟨nq, osq⟩, hw''⟩ := hw'
        subst hw''
        have hq := below_grown2 (w := V1) nq osq
        generalize Go.Sort.grow (V1.drewN nq) osq = V2 at *
        clear fa
        have r2a := r1a.below hq
        have hown2 := own_below hown1 hq
        have hB2 := hB1.trans (hq.mono hB1.size)
        clear hq hown1 hB1 r1a
        go_wp2
        have lta := range_lt r2a la
        have r3a := World.rangeAt_alloc r2a (Obj.cells #[.int .u8 0, .int .u8 0, .int .u8 0, .int .u8 0, .int .u8 0, .int .u8 0, .int .u8 0, .int .u8 0, .int .u8 0, .int .u8 0, .int .u8 0, .int .u8 0, .int .u8 0, .int .u8 0, .int .u8 0, .int .u8 0, .int .u8 0, .int .u8 0, .int .u8 0, .int .u8 0, .int .u8 0, .int .u8 0, .int .u8 0, .int .u8 0, .int .u8 0, .int .u8 0, .int .u8 0, .int .u8 0, .int .u8 0, .int .u8 0, .int .u8 0, .int .u8 0] 24)
        have hown3 := hown2.alloc (Obj.cells #[.int .u8 0, .int .u8 0, .int .u8 0, .int .u8 0, .int .u8 0, .int .u8 0, .int .u8 0, .int .u8 0, .int .u8 0, .int .u8 0, .int .u8 0, .int .u8 0, .int .u8 0, .int .u8 0, .int .u8 0, .int .u8 0, .int .u8 0, .int .u8 0, .int .u8 0, .int .u8 0, .int .u8 0, .int .u8 0, .int .u8 0, .int .u8 0, .int .u8 0, .int .u8 0, .int .u8 0, .int .u8 0, .int .u8 0, .int .u8 0, .int .u8 0, .int .u8 0] 24)
        have hB3 := hB2.alloc hB2.size (Obj.cells #[.int .u8 0, .int .u8 0, .int .u8 0, .int .u8 0, .int .u8 0, .int .u8 0, .int .u8 0, .int .u8 0, .int .u8 0, .int .u8 0, .int .u8 0, .int .u8 0, .int .u8 0, .int .u8 0, .int .u8 0, .int .u8 0, .int .u8 0, .int .u8 0, .int .u8 0, .int .u8 0, .int .u8 0, .int .u8 0, .int .u8 0, .int .u8 0, .int .u8 0, .int .u8 0, .int .u8 0, .int .u8 0, .int .u8 0, .int .u8 0, .int .u8 0, .int .u8 0] 24)
        have hN := Blk.new V2 24 #[.int .u8 0, .int .u8 0, .int .u8 0, .int .u8 0, .int .u8 0, .int .u8 0, .int .u8 0, .int .u8 0, .int .u8 0, .int .u8 0, .int .u8 0, .int .u8 0, .int .u8 0, .int .u8 0, .int .u8 0, .int .u8 0, .int .u8 0, .int .u8 0, .int .u8 0, .int .u8 0, .int .u8 0, .int .u8 0, .int .u8 0, .int .u8 0, .int .u8 0, .int .u8 0, .int .u8 0, .int .u8 0, .int .u8 0, .int .u8 0, .int .u8 0, .int .u8 0]
        have hok := own_fresh hown2
        have hkB := hB2.size
        generalize hZZ : V2.alloc (Obj.cells #[.int .u8 0, .int .u8 0, .int .u8 0, .int .u8 0, .int .u8 0, .int .u8 0, .int .u8 0, .int .u8 0, .int .u8 0, .int .u8 0, .int .u8 0, .int .u8 0, .int .u8 0, .int .u8 0, .int .u8 0, .int .u8 0, .int .u8 0, .int .u8 0, .int .u8 0, .int .u8 0, .int .u8 0, .int .u8 0, .int .u8 0, .int .u8 0, .int .u8 0, .int .u8 0, .int .u8 0, .int .u8 0, .int .u8 0, .int .u8 0, .int .u8 0, .int .u8 0] 24) = V3 at *
        have hth := there_blk hN rfl
        generalize V2.heap.size = k at *
        clear hown2 hB2 hZZ hN r2a
        go_region_held3 (fun w' => w'.rangeAt ga oa (a.map u8v) ∧ w'.there k 0 32) (first | go_keep_ranges | (exact ⟨r3a, hth⟩)) (fail)
        have hg : V3.grownBy (V3.drew.setCells k 0 (a.map u8v)) (some k) := gb_cells _ _ _ (gb_drew (gb_refl V3 _))
        have hx4 : (V3.drew.setCells k 0 (a.map u8v)).rangeAt k 0 (a.map u8v) := World.rangeAt_setCells_same _ _ _ _ (by rw [hla]; exact hth)
        have hth4 : (V3.drew.setCells k 0 (a.map u8v)).there k 0 32 := World.there_setCells (show V3.drew.there k 0 32 from hth) _ _ _
        generalize V3.drew.setCells k 0 (a.map u8v) = V4 at *
        have r4a := range_gb r3a hg (by omega)
        have hown4 := own_gb hown3 hg hok
        have hB4 := hB3.grown hg hB3.size (by intro i e; cases e; exact hkB)
        clear hth hg hown3 hB3 r3a
        have hth := hth4
        clear hth4
        go_wp2
        obtain ⟨fv, hfv⟩ : ∃ fv, F true false = fv := ⟨_, rfl⟩
        have hFx := fun W => hF W true false
        rw [hfv] at hFx
        have HFV := hid hfv
        clear hF hfv
        cases fv with
        | false =>
          go_wp2_with (first | ((with_reducible refine (hFx _).mono ?_); rintro e7 w7 ⟨rfl, rfl⟩))
          go_roundw
          case rel => exact ⟨some X, B', n' - 1, c' - 1, 0, d', t, [], out, rfl, rfl, by rw [← hn']; simp, rfl, by omega, by omega, by omega, by omega, hXa, hB', by omega, ho, by rw [HMG.out, HFV.out]; rfl, hown4, hB4⟩
          case measure => simp; omega
        | true =>
          go_wp2_with (first
            | ((with_reducible refine (hFx _).mono ?_); rintro e7 w7 ⟨rfl, rfl⟩)
            | (with_reducible refine wpList_load_if (by with_unfolding_all rfl) 24 _ rfl k 0 rfl (a.map u8v) _ hx4 hu (by with_unfolding_all rfl) hza ?_)
            | (at_builtin; refine wpList_append_own _ rfl _ _ 22 rfl w.heap.size 24 j0 (.agg (idVals zeroB)) 32 32 Try.underlying22 hj hjz hjs hjb rfl (by decide) _ _ _ rfl (hown4.alloc _) ⟨V4.heap.size, 0, none⟩ 1 1 (a.map u8v) rfl ?l1 (news_fold V4 a la) hoa ?l2 ?l3 ?l4 ?_))
          case l1 => rw [hla]
          case l2 => unfold maxLen; omega
          case l3 => omega
          case l4 => simp; have := hB4.size; omega
          intro v8 w8 hown8 hg8 _
          have hB8 := (hB4.alloc hB4.size _).grown hg8 (hB4.alloc hB4.size _).size (fun k hk => (hown4.lt k hk).1)
          go_wp2
          go_roundw
          case rel => exact ⟨some X, B', n' - 1, c' - 1, 0, d', t, [], out ++ [a], rfl, rfl, by rw [← hn']; simp, rfl, by omega, by omega, by omega, by omega, hXa, hB', by simp; omega, snoc32 ho la, by rw [HMG.out, HFV.out, List.append_assoc]; rfl, (by rw [List.length_append, idsV_snoc]; exact hown8), hB8⟩
          case measure => simp; omega
      | cons b s =>
        have hA2 := hA'
        have hB2' := hB'
        obtain ⟨ga, oa, X, rfl, hra, la, hsa, hXa⟩ := hA'.uncons n' c' hn' hc' bc'
        have p0 : 0 < n' := by rw [← hn']; simp
        have b0 : decide (0 < n') = true := decide_eq_true p0
        have z0 : ((n' : Int) == 0) = false := by rw [beq_eq_false_iff_ne]; omega
        have r0a := hra.below hb
        have hza : (Try.prog.info? 24).map (·.size) = some (a.map u8v).length := by rw [List.length_map, la]; exact sizeId
        have hoa := u8v_one a
        have hla : (a.map u8v).length = 32 := by rw [List.length_map]; exact la
        obtain ⟨gb, ob, Y, rfl, hrb, lb, hsb, hXb⟩ := hB'.uncons m' d' hm' hd' bd'
        have p1 : 0 < m' := by rw [← hm']; simp
        have b1 : decide (0 < m') = true := decide_eq_true p1
        have z1 : ((m' : Int) == 0) = false := by rw [beq_eq_false_iff_ne]; omega
        have r0b := hrb.below hb
        have hzb : (Try.prog.info? 24).map (·.size) = some (b.map u8v).length := by rw [List.length_map, lb]; exact sizeId
        have hob := u8v_one b
        have hlb : (b.map u8v).length = 32 := by rw [List.length_map]; exact lb
        by_cases h1 : Lib.compareBytes a b ≤ 0
        · have q1 : decide (Lib.compareBytes a b ≤ 0) = true := decide_eq_true h1
          by_cases h2 : Lib.compareBytes b a ≤ 0
          · have q2 : decide (Lib.compareBytes b a ≤ 0) = true := decide_eq_true h2
            rw [mergeL, if_pos h1, if_pos h2] at hmg
            have HMG := hid hmg
            clear hmg h1 h2
            have fa := range_grown r0a
            have fb := range_grown r0b
            go_wp2
            refine wp_region_quiet_grown mixed (by kernel_rfl) ?_
            repeat (first
              | ((with_reducible refine wpQuiet_skip (by with_unfolding_all rfl) ?_); simp only [Act.put, List.setIfInBounds_toArray, List.set_cons_zero, List.set_cons_succ])
              | ((with_reducible refine wpQuiet_load_if (by with_unfolding_all rfl) 24 _ rfl ga oa rfl (a.map u8v) _ fa hu (by with_unfolding_all rfl) hza ?_); simp only [Act.put, List.setIfInBounds_toArray, List.set_cons_zero, List.set_cons_succ])
              | ((with_reducible refine wpQuiet_load_if (by with_unfolding_all rfl) 24 _ rfl gb ob rfl (b.map u8v) _ fb hu (by with_unfolding_all rfl) hzb ?_); simp only [Act.put, List.setIfInBounds_toArray, List.set_cons_zero, List.set_cons_succ])
              | ((with_reducible refine wpQuiet_step (fun K hK => ?_)); go_simp; first | ((with_reducible refine hK _ ?_); clear hK K) | (with_reducible apply Exists.intro; (with_reducible refine ⟨fun _ => ?_, hK _ ?_⟩); ((go_at_call 100; exact Calls.grown_of (order_grow _ _ la lb _))); clear hK K)))
            with_reducible refine wpQuiet_nil ?_
            intro _ hw'
            obtain ⟨⟨nq, osq⟩, hw''⟩ := hw'
            subst hw''
            have hq := below_grown2 (w := wr) nq osq
            generalize Go.Sort.grow (wr.drewN nq) osq = V1 at *
            clear fa fb
            have r1a := r0a.below hq
            have r1b := r0b.below hq
            have hown1 := own_below hown hq
            have hB1 := hb.trans (hq.mono hb.size)
            clear hq hown hb r0a r0b
            have fa := range_grown r1a
            have fb := range_grown r1b
            go_wp2
            refine wp_region_quiet_grown mixed (by kernel_rfl) ?_
            repeat (first
              | ((with_reducible refine wpQuiet_skip (by with_unfolding_all rfl) ?_); simp only [Act.put, List.setIfInBounds_toArray, List.set_cons_zero, List.set_cons_succ])
              | ((with_reducible refine wpQuiet_load_if (by with_unfolding_all rfl) 24 _ rfl ga oa rfl (a.map u8v) _ fa hu (by with_unfolding_all rfl) hza ?_); simp only [Act.put, List.setIfInBounds_toArray, List.set_cons_zero, List.set_cons_succ])
              | ((with_reducible refine wpQuiet_load_if (by with_unfolding_all rfl) 24 _ rfl gb ob rfl (b.map u8v) _ fb hu (by with_unfolding_all rfl) hzb ?_); simp only [Act.put, List.setIfInBounds_toArray, List.set_cons_zero, List.set_cons_succ])
              | ((with_reducible refine wpQuiet_step (fun K hK => ?_)); go_simp; first | ((with_reducible refine hK _ ?_); clear hK K) | (with_reducible apply Exists.intro; (with_reducible refine ⟨fun _ => ?_, hK _ ?_⟩); ((go_at_call 100; exact Calls.grown_of (order_grow _ _ lb la _))); clear hK K)))
            with_reducible refine wpQuiet_nil ?_
            intro _ hw'
            obtain ⟨⟨nq, osq⟩, hw''⟩ := hw'
            subst hw''
            have hq := below_grown2 (w := V1) nq osq
            generalize Go.Sort.grow (V1.drewN nq) osq = V2 at *
            clear fa fb
            have r2a := r1a.below hq
            have r2b := r1b.below hq
            have hown2 := own_below hown1 hq
            have hB2 := hB1.trans (hq.mono hB1.size)
            clear hq hown1 hB1 r1a r1b
            go_wp2
            have lta := range_lt r2a la
            have ltb := range_lt r2b lb
            have r3a := World.rangeAt_alloc r2a (Obj.cells #[.int .u8 0, .int .u8 0, .int .u8 0, .int .u8 0, .int .u8 0, .int .u8 0, .int .u8 0, .int .u8 0, .int .u8 0, .int .u8 0, .int .u8 0, .int .u8 0, .int .u8 0, .int .u8 0, .int .u8 0, .int .u8 0, .int .u8 0, .int .u8 0, .int .u8 0, .int .u8 0, .int .u8 0, .int .u8 0, .int .u8 0, .int .u8 0, .int .u8 0, .int .u8 0, .int .u8 0, .int .u8 0, .int .u8 0, .int .u8 0, .int .u8 0, .int .u8 0] 24)
            have r3b := World.rangeAt_alloc r2b (Obj.cells #[.int .u8 0, .int .u8 0, .int .u8 0, .int .u8 0, .int .u8 0, .int .u8 0, .int .u8 0, .int .u8 0, .int .u8 0, .int .u8 0, .int .u8 0, .int .u8 0, .int .u8 0, .int .u8 0, .int .u8 0, .int .u8 0, .int .u8 0, .int .u8 0, .int .u8 0, .int .u8 0, .int .u8 0, .int .u8 0, .int .u8 0, .int .u8 0, .int .u8 0, .int .u8 0, .int .u8 0, .int .u8 0, .int .u8 0, .int .u8 0, .int .u8 0, .int .u8 0] 24)
            have hown3 := hown2.alloc (Obj.cells #[.int .u8 0, .int .u8 0, .int .u8 0, .int .u8 0, .int .u8 0, .int .u8 0, .int .u8 0, .int .u8 0, .int .u8 0, .int .u8 0, .int .u8 0, .int .u8 0, .int .u8 0, .int .u8 0, .int .u8 0, .int .u8 0, .int .u8 0, .int .u8 0, .int .u8 0, .int .u8 0, .int .u8 0, .int .u8 0, .int .u8 0, .int .u8 0, .int .u8 0, .int .u8 0, .int .u8 0, .int .u8 0, .int .u8 0, .int .u8 0, .int .u8 0, .int .u8 0] 24)
            have hB3 := hB2.alloc hB2.size (Obj.cells #[.int .u8 0, .int .u8 0, .int .u8 0, .int .u8 0, .int .u8 0, .int .u8 0, .int .u8 0, .int .u8 0, .int .u8 0, .int .u8 0, .int .u8 0, .int .u8 0, .int .u8 0, .int .u8 0, .int .u8 0, .int .u8 0, .int .u8 0, .int .u8 0, .int .u8 0, .int .u8 0, .int .u8 0, .int .u8 0, .int .u8 0, .int .u8 0, .int .u8 0, .int .u8 0, .int .u8 0, .int .u8 0, .int .u8 0, .int .u8 0, .int .u8 0, .int .u8 0] 24)
            have hN := Blk.new V2 24 #[.int .u8 0, .int .u8 0, .int .u8 0, .int .u8 0, .int .u8 0, .int .u8 0, .int .u8 0, .int .u8 0, .int .u8 0, .int .u8 0, .int .u8 0, .int .u8 0, .int .u8 0, .int .u8 0, .int .u8 0, .int .u8 0, .int .u8 0, .int .u8 0, .int .u8 0, .int .u8 0, .int .u8 0, .int .u8 0, .int .u8 0, .int .u8 0, .int .u8 0, .int .u8 0, .int .u8 0, .int .u8 0, .int .u8 0, .int .u8 0, .int .u8 0, .int .u8 0]
            have hok := own_fresh hown2
            have hkB := hB2.size
            generalize hZZ : V2.alloc (Obj.cells #[.int .u8 0, .int .u8 0, .int .u8 0, .int .u8 0, .int .u8 0, .int .u8 0, .int .u8 0, .int .u8 0, .int .u8 0, .int .u8 0, .int .u8 0, .int .u8 0, .int .u8 0, .int .u8 0, .int .u8 0, .int .u8 0, .int .u8 0, .int .u8 0, .int .u8 0, .int .u8 0, .int .u8 0, .int .u8 0, .int .u8 0, .int .u8 0, .int .u8 0, .int .u8 0, .int .u8 0, .int .u8 0, .int .u8 0, .int .u8 0, .int .u8 0, .int .u8 0] 24) = V3 at *
            have hth := there_blk hN rfl
            generalize V2.heap.size = k at *
            clear hown2 hB2 hZZ hN r2a r2b
            go_region_held3 (fun w' => w'.rangeAt ga oa (a.map u8v) ∧ w'.there k 0 32) (first | go_keep_ranges | (exact ⟨r3a, hth⟩)) (fail)
            have hg : V3.grownBy (V3.drew.setCells k 0 (a.map u8v)) (some k) := gb_cells _ _ _ (gb_drew (gb_refl V3 _))
            have hx4 : (V3.drew.setCells k 0 (a.map u8v)).rangeAt k 0 (a.map u8v) := World.rangeAt_setCells_same _ _ _ _ (by rw [hla]; exact hth)
            have hth4 : (V3.drew.setCells k 0 (a.map u8v)).there k 0 32 := World.there_setCells (show V3.drew.there k 0 32 from hth) _ _ _
            generalize V3.drew.setCells k 0 (a.map u8v) = V4 at *
            have r4a := range_gb r3a hg (by omega)
            have r4b := range_gb r3b hg (by omega)
            have hown4 := own_gb hown3 hg hok
            have hB4 := hB3.grown hg hB3.size (by intro i e; cases e; exact hkB)
            clear hth hg hown3 hB3 r3a r3b
            have hth := hth4
            clear hth4
            go_wp2
            go_region_held3 (fun w' => w'.rangeAt gb ob (b.map u8v) ∧ w'.there k 0 32) (first | go_keep_ranges | (exact ⟨r4b, hth⟩)) (fail)
            have hg : V4.grownBy (V4.drew.setCells k 0 (b.map u8v)) (some k) := gb_cells _ _ _ (gb_drew (gb_refl V4 _))
            have hx5 : (V4.drew.setCells k 0 (b.map u8v)).rangeAt k 0 (b.map u8v) := World.rangeAt_setCells_same _ _ _ _ (by rw [hlb]; exact hth)
            have hth5 : (V4.drew.setCells k 0 (b.map u8v)).there k 0 32 := World.there_setCells (show V4.drew.there k 0 32 from hth) _ _ _
            generalize V4.drew.setCells k 0 (b.map u8v) = V5 at *
            have r5a := range_gb r4a hg (by omega)
            have r5b := range_gb r4b hg (by omega)
            have hown5 := own_gb hown4 hg hok
            have hB5 := hB4.grown hg hB4.size (by intro i e; cases e; exact hkB)
            clear hth hg hown4 hB4 r4a r4b hx4
            have hth := hth5
            clear hth5
            go_wp2
            obtain ⟨fv, hfv⟩ : ∃ fv, F true true = fv := ⟨_, rfl⟩
            have hFx := fun W => hF W true true
            rw [hfv] at hFx
            have HFV := hid hfv
            clear hF hfv
            cases fv with
            | false =>
              go_wp2_with (first | ((with_reducible refine (hFx _).mono ?_); rintro e7 w7 ⟨rfl, rfl⟩))
              go_roundw
              case rel => exact ⟨some X, some Y, n' - 1, c' - 1, m' - 1, d' - 1, t, s, out, rfl, rfl, by rw [← hn']; simp, by rw [← hm']; simp, by omega, by omega, by omega, by omega, hXa, hXb, by omega, ho, by rw [HMG.out, HFV.out]; rfl, hown5, hB5⟩
              case measure => simp; omega
            | true =>
              go_wp2_with (first
                | ((with_reducible refine (hFx _).mono ?_); rintro e7 w7 ⟨rfl, rfl⟩)
                | (with_reducible refine wpList_load_if (by with_unfolding_all rfl) 24 _ rfl k 0 rfl (b.map u8v) _ hx5 hu (by with_unfolding_all rfl) hzb ?_)
                | (at_builtin; refine wpList_append_own _ rfl _ _ 22 rfl w.heap.size 24 j0 (.agg (idVals zeroB)) 32 32 Try.underlying22 hj hjz hjs hjb rfl (by decide) _ _ _ rfl (hown5.alloc _) ⟨V5.heap.size, 0, none⟩ 1 1 (b.map u8v) rfl ?l1 (news_fold V5 b lb) hob ?l2 ?l3 ?l4 ?_))
              case l1 => rw [hlb]
              case l2 => unfold maxLen; omega
              case l3 => omega
              case l4 => simp; have := hB5.size; omega
              intro v8 w8 hown8 hg8 _
              have hB8 := (hB5.alloc hB5.size _).grown hg8 (hB5.alloc hB5.size _).size (fun k hk => (hown5.lt k hk).1)
              go_wp2
              go_roundw
              case rel => exact ⟨some X, some Y, n' - 1, c' - 1, m' - 1, d' - 1, t, s, out ++ [b], rfl, rfl, by rw [← hn']; simp, by rw [← hm']; simp, by omega, by omega, by omega, by omega, hXa, hXb, by simp; omega, snoc32 ho lb, by rw [HMG.out, HFV.out, List.append_assoc]; rfl, (by rw [List.length_append, idsV_snoc]; exact hown8), hB8⟩
              case measure => simp; omega
          · have q2 : decide (Lib.compareBytes b a ≤ 0) = false := decide_eq_false h2
            rw [mergeL, if_pos h1, if_neg h2] at hmg
            have HMG := hid hmg
            clear hmg h1 h2
            have fa := range_grown r0a
            have fb := range_grown r0b
            go_wp2
            refine wp_region_quiet_grown mixed (by kernel_rfl) ?_
            repeat (first
              | ((with_reducible refine wpQuiet_skip (by with_unfolding_all rfl) ?_); simp only [Act.put, List.setIfInBounds_toArray, List.set_cons_zero, List.set_cons_succ])
              | ((with_reducible refine wpQuiet_load_if (by with_unfolding_all rfl) 24 _ rfl ga oa rfl (a.map u8v) _ fa hu (by with_unfolding_all rfl) hza ?_); simp only [Act.put, List.setIfInBounds_toArray, List.set_cons_zero, List.set_cons_succ])
              | ((with_reducible refine wpQuiet_load_if (by with_unfolding_all rfl) 24 _ rfl gb ob rfl (b.map u8v) _ fb hu (by with_unfolding_all rfl) hzb ?_); simp only [Act.put, List.setIfInBounds_toArray, List.set_cons_zero, List.set_cons_succ])
              | ((with_reducible refine wpQuiet_step (fun K hK => ?_)); go_simp; first | ((with_reducible refine hK _ ?_); clear hK K) | (with_reducible apply Exists.intro; (with_reducible refine ⟨fun _ => ?_, hK _ ?_⟩); ((go_at_call 100; exact Calls.grown_of (order_grow _ _ la lb _))); clear hK K)))
            with_reducible refine wpQuiet_nil ?_
            intro _ hw'
            obtain ⟨⟨nq, osq⟩, hw''⟩ := hw'
            subst hw''
            have hq := below_grown2 (w := wr) nq osq
            generalize Go.Sort.grow (wr.drewN nq) osq = V1 at *
            clear fa fb
            have r1a := r0a.below hq
            have r1b := r0b.below hq
            have hown1 := own_below hown hq
            have hB1 := hb.trans (hq.mono hb.size)
            clear hq hown hb r0a r0b
            have fa := range_grown r1a
            have fb := range_grown r1b
            go_wp2
            refine wp_region_quiet_grown mixed (by kernel_rfl) ?_
            repeat (first
              | ((with_reducible refine wpQuiet_skip (by with_unfolding_all rfl) ?_); simp only [Act.put, List.setIfInBounds_toArray, List.set_cons_zero, List.set_cons_succ])
              | ((with_reducible refine wpQuiet_load_if (by with_unfolding_all rfl) 24 _ rfl ga oa rfl (a.map u8v) _ fa hu (by with_unfolding_all rfl) hza ?_); simp only [Act.put, List.setIfInBounds_toArray, List.set_cons_zero, List.set_cons_succ])
              | ((with_reducible refine wpQuiet_load_if (by with_unfolding_all rfl) 24 _ rfl gb ob rfl (b.map u8v) _ fb hu (by with_unfolding_all rfl) hzb ?_); simp only [Act.put, List.setIfInBounds_toArray, List.set_cons_zero, List.set_cons_succ])
              | ((with_reducible refine wpQuiet_step (fun K hK => ?_)); go_simp; first | ((with_reducible refine hK _ ?_); clear hK K) | (with_reducible apply Exists.intro; (with_reducible refine ⟨fun _ => ?_, hK _ ?_⟩); ((go_at_call 100; exact Calls.grown_of (order_grow _ _ lb la _))); clear hK K)))
            with_reducible refine wpQuiet_nil ?_
            intro _ hw'
            obtain ⟨⟨nq, osq⟩, hw''⟩ := hw'
            subst hw''
            have hq := below_grown2 (w := V1) nq osq
            generalize Go.Sort.grow (V1.drewN nq) osq = V2 at *
            clear fa fb
            have r2a := r1a.below hq
            have r2b := r1b.below hq
            have hown2 := own_below hown1 hq
            have hB2 := hB1.trans (hq.mono hB1.size)
            clear hq hown1 hB1 r1a r1b
            go_wp2
            have lta := range_lt r2a la
            have ltb := range_lt r2b lb
            have r3a := World.rangeAt_alloc r2a (Obj.cells #[.int .u8 0, .int .u8 0, .int .u8 0, .int .u8 0, .int .u8 0, .int .u8 0, .int .u8 0, .int .u8 0, .int .u8 0, .int .u8 0, .int .u8 0, .int .u8 0, .int .u8 0, .int .u8 0, .int .u8 0, .int .u8 0, .int .u8 0, .int .u8 0, .int .u8 0, .int .u8 0, .int .u8 0, .int .u8 0, .int .u8 0, .int .u8 0, .int .u8 0, .int .u8 0, .int .u8 0, .int .u8 0, .int .u8 0, .int .u8 0, .int .u8 0, .int .u8 0] 24)
            have r3b := World.rangeAt_alloc r2b (Obj.cells #[.int .u8 0, .int .u8 0, .int .u8 0, .int .u8 0, .int .u8 0, .int .u8 0, .int .u8 0, .int .u8 0, .int .u8 0, .int .u8 0, .int .u8 0, .int .u8 0, .int .u8 0, .int .u8 0, .int .u8 0, .int .u8 0, .int .u8 0, .int .u8 0, .int .u8 0, .int .u8 0, .int .u8 0, .int .u8 0, .int .u8 0, .int .u8 0, .int .u8 0, .int .u8 0, .int .u8 0, .int .u8 0, .int .u8 0, .int .u8 0, .int .u8 0, .int .u8 0] 24)
            have hown3 := hown2.alloc (Obj.cells #[.int .u8 0, .int .u8 0, .int .u8 0, .int .u8 0, .int .u8 0, .int .u8 0, .int .u8 0, .int .u8 0, .int .u8 0, .int .u8 0, .int .u8 0, .int .u8 0, .int .u8 0, .int .u8 0, .int .u8 0, .int .u8 0, .int .u8 0, .int .u8 0, .int .u8 0, .int .u8 0, .int .u8 0, .int .u8 0, .int .u8 0, .int .u8 0, .int .u8 0, .int .u8 0, .int .u8 0, .int .u8 0, .int .u8 0, .int .u8 0, .int .u8 0, .int .u8 0] 24)
            have hB3 := hB2.alloc hB2.size (Obj.cells #[.int .u8 0, .int .u8 0, .int .u8 0, .int .u8 0, .int .u8 0, .int .u8 0, .int .u8 0, .int .u8 0, .int .u8 0, .int .u8 0, .int .u8 0, .int .u8 0, .int .u8 0, .int .u8 0, .int .u8 0, .int .u8 0, .int .u8 0, .int .u8 0, .int .u8 0, .int .u8 0, .int .u8 0, .int .u8 0, .int .u8 0, .int .u8 0, .int .u8 0, .int .u8 0, .int .u8 0, .int .u8 0, .int .u8 0, .int .u8 0, .int .u8 0, .int .u8 0] 24)
            have hN := Blk.new V2 24 #[.int .u8 0, .int .u8 0, .int .u8 0, .int .u8 0, .int .u8 0, .int .u8 0, .int .u8 0, .int .u8 0, .int .u8 0, .int .u8 0, .int .u8 0, .int .u8 0, .int .u8 0, .int .u8 0, .int .u8 0, .int .u8 0, .int .u8 0, .int .u8 0, .int .u8 0, .int .u8 0, .int .u8 0, .int .u8 0, .int .u8 0, .int .u8 0, .int .u8 0, .int .u8 0, .int .u8 0, .int .u8 0, .int .u8 0, .int .u8 0, .int .u8 0, .int .u8 0]
            have hok := own_fresh hown2
            have hkB := hB2.size
            generalize hZZ : V2.alloc (Obj.cells #[.int .u8 0, .int .u8 0, .int .u8 0, .int .u8 0, .int .u8 0, .int .u8 0, .int .u8 0, .int .u8 0, .int .u8 0, .int .u8 0, .int .u8 0, .int .u8 0, .int .u8 0, .int .u8 0, .int .u8 0, .int .u8 0, .int .u8 0, .int .u8 0, .int .u8 0, .int .u8 0, .int .u8 0, .int .u8 0, .int .u8 0, .int .u8 0, .int .u8 0, .int .u8 0, .int .u8 0, .int .u8 0, .int .u8 0, .int .u8 0, .int .u8 0, .int .u8 0] 24) = V3 at *
            have hth := there_blk hN rfl
            generalize V2.heap.size = k at *
            clear hown2 hB2 hZZ hN r2a r2b
            go_region_held3 (fun w' => w'.rangeAt ga oa (a.map u8v) ∧ w'.there k 0 32) (first | go_keep_ranges | (exact ⟨r3a, hth⟩)) (fail)
            have hg : V3.grownBy (V3.drew.setCells k 0 (a.map u8v)) (some k) := gb_cells _ _ _ (gb_drew (gb_refl V3 _))
            have hx4 : (V3.drew.setCells k 0 (a.map u8v)).rangeAt k 0 (a.map u8v) := World.rangeAt_setCells_same _ _ _ _ (by rw [hla]; exact hth)
            have hth4 : (V3.drew.setCells k 0 (a.map u8v)).there k 0 32 := World.there_setCells (show V3.drew.there k 0 32 from hth) _ _ _
            generalize V3.drew.setCells k 0 (a.map u8v) = V4 at *
            have r4a := range_gb r3a hg (by omega)
            have r4b := range_gb r3b hg (by omega)
            have hown4 := own_gb hown3 hg hok
            have hB4 := hB3.grown hg hB3.size (by intro i e; cases e; exact hkB)
            clear hth hg hown3 hB3 r3a r3b
            have hth := hth4
            clear hth4
            go_wp2
            obtain ⟨fv, hfv⟩ : ∃ fv, F true false = fv := ⟨_, rfl⟩
            have hFx := fun W => hF W true false
            rw [hfv] at hFx
            have HFV := hid hfv
            clear hF hfv
            cases fv with
            | false =>
              go_wp2_with (first | ((with_reducible refine (hFx _).mono ?_); rintro e7 w7 ⟨rfl, rfl⟩))
              go_roundw
              case rel => exact ⟨some X, some ⟨gb, ob, none⟩, n' - 1, c' - 1, m', d', t, b :: s, out, rfl, rfl, by rw [← hn']; simp, hm', by omega, by omega, by omega, by omega, hXa, hB2', by omega, ho, by rw [HMG.out, HFV.out]; rfl, hown4, hB4⟩
              case measure => simp; omega
            | true =>
              go_wp2_with (first
                | ((with_reducible refine (hFx _).mono ?_); rintro e7 w7 ⟨rfl, rfl⟩)
                | (with_reducible refine wpList_load_if (by with_unfolding_all rfl) 24 _ rfl k 0 rfl (a.map u8v) _ hx4 hu (by with_unfolding_all rfl) hza ?_)
                | (at_builtin; refine wpList_append_own _ rfl _ _ 22 rfl w.heap.size 24 j0 (.agg (idVals zeroB)) 32 32 Try.underlying22 hj hjz hjs hjb rfl (by decide) _ _ _ rfl (hown4.alloc _) ⟨V4.heap.size, 0, none⟩ 1 1 (a.map u8v) rfl ?l1 (news_fold V4 a la) hoa ?l2 ?l3 ?l4 ?_))
              case l1 => rw [hla]
              case l2 => unfold maxLen; omega
              case l3 => omega
              case l4 => simp; have := hB4.size; omega
              intro v8 w8 hown8 hg8 _
              have hB8 := (hB4.alloc hB4.size _).grown hg8 (hB4.alloc hB4.size _).size (fun k hk => (hown4.lt k hk).1)
              go_wp2
              go_roundw
              case rel => exact ⟨some X, some ⟨gb, ob, none⟩, n' - 1, c' - 1, m', d', t, b :: s, out ++ [a], rfl, rfl, by rw [← hn']; simp, hm', by omega, by omega, by omega, by omega, hXa, hB2', by simp; omega, snoc32 ho la, by rw [HMG.out, HFV.out, List.append_assoc]; rfl, (by rw [List.length_append, idsV_snoc]; exact hown8), hB8⟩
              case measure => simp; omega
        · have h2 : Lib.compareBytes b a ≤ 0 := cmp_anti a b h1
          have q1 : decide (Lib.compareBytes a b ≤ 0) = false := decide_eq_false h1
          have q2 : decide (Lib.compareBytes b a ≤ 0) = true := decide_eq_true h2
          rw [mergeL, if_neg h1] at hmg
          have HMG := hid hmg
          clear hmg h1 h2
          have fa := range_grown r0a
          have fb := range_grown r0b
          go_wp2
          refine wp_region_quiet_grown mixed (by kernel_rfl) ?_
          repeat (first
            | ((with_reducible refine wpQuiet_skip (by with_unfolding_all rfl) ?_); simp only [Act.put, List.setIfInBounds_toArray, List.set_cons_zero, List.set_cons_succ])
            | ((with_reducible refine wpQuiet_load_if (by with_unfolding_all rfl) 24 _ rfl ga oa rfl (a.map u8v) _ fa hu (by with_unfolding_all rfl) hza ?_); simp only [Act.put, List.setIfInBounds_toArray, List.set_cons_zero, List.set_cons_succ])
            | ((with_reducible refine wpQuiet_load_if (by with_unfolding_all rfl) 24 _ rfl gb ob rfl (b.map u8v) _ fb hu (by with_unfolding_all rfl) hzb ?_); simp only [Act.put, List.setIfInBounds_toArray, List.set_cons_zero, List.set_cons_succ])
            | ((with_reducible refine wpQuiet_step (fun K hK => ?_)); go_simp; first | ((with_reducible refine hK _ ?_); clear hK K) | (with_reducible apply Exists.intro; (with_reducible refine ⟨fun _ => ?_, hK _ ?_⟩); ((go_at_call 100; exact Calls.grown_of (order_grow _ _ la lb _))); clear hK K)))
          with_reducible refine wpQuiet_nil ?_
          intro _ hw'
          obtain ⟨⟨nq, osq⟩, hw''⟩ := hw'
          subst hw''
          have hq := below_grown2 (w := wr) nq osq
          generalize Go.Sort.grow (wr.drewN nq) osq = V1 at *
          clear fa fb
          have r1a := r0a.below hq
          have r1b := r0b.below hq
          have hown1 := own_below hown hq
          have hB1 := hb.trans (hq.mono hb.size)
          clear hq hown hb r0a r0b
          have fa := range_grown r1a
          have fb := range_grown r1b
          go_wp2
          refine wp_region_quiet_grown mixed (by kernel_rfl) ?_
          repeat (first
            | ((with_reducible refine wpQuiet_skip (by with_unfolding_all rfl) ?_); simp only [Act.put, List.setIfInBounds_toArray, List.set_cons_zero, List.set_cons_succ])
            | ((with_reducible refine wpQuiet_load_if (by with_unfolding_all rfl) 24 _ rfl ga oa rfl (a.map u8v) _ fa hu (by with_unfolding_all rfl) hza ?_); simp only [Act.put, List.setIfInBounds_toArray, List.set_cons_zero, List.set_cons_succ])
            | ((with_reducible refine wpQuiet_load_if (by with_unfolding_all rfl) 24 _ rfl gb ob rfl (b.map u8v) _ fb hu (by with_unfolding_all rfl) hzb ?_); simp only [Act.put, List.setIfInBounds_toArray, List.set_cons_zero, List.set_cons_succ])
            | ((with_reducible refine wpQuiet_step (fun K hK => ?_)); go_simp; first | ((with_reducible refine hK _ ?_); clear hK K) | (with_reducible apply Exists.intro; (with_reducible refine ⟨fun _ => ?_, hK _ ?_⟩); ((go_at_call 100; exact Calls.grown_of (order_grow _ _ lb la _))); clear hK K)))
          with_reducible refine wpQuiet_nil ?_
          intro _ hw'
          obtain ⟨⟨nq, osq⟩, hw''⟩ := hw'
          subst hw''
          have hq := below_grown2 (w := V1) nq osq
          generalize Go.Sort.grow (V1.drewN nq) osq = V2 at *
          clear fa fb
          have r2a := r1a.below hq
          have r2b := r1b.below hq
          have hown2 := own_below hown1 hq
          have hB2 := hB1.trans (hq.mono hB1.size)
          clear hq hown1 hB1 r1a r1b
          go_wp2
          have lta := range_lt r2a la
          have ltb := range_lt r2b lb
          have r3a := World.rangeAt_alloc r2a (Obj.cells #[.int .u8 0, .int .u8 0, .int .u8 0, .int .u8 0, .int .u8 0, .int .u8 0, .int .u8 0, .int .u8 0, .int .u8 0, .int .u8 0, .int .u8 0, .int .u8 0, .int .u8 0, .int .u8 0, .int .u8 0, .int .u8 0, .int .u8 0, .int .u8 0, .int .u8 0, .int .u8 0, .int .u8 0, .int .u8 0, .int .u8 0, .int .u8 0, .int .u8 0, .int .u8 0, .int .u8 0, .int .u8 0, .int .u8 0, .int .u8 0, .int .u8 0, .int .u8 0] 24)
          have r3b := World.rangeAt_alloc r2b (Obj.cells #[.int .u8 0, .int .u8 0, .int .u8 0, .int .u8 0, .int .u8 0, .int .u8 0, .int .u8 0, .int .u8 0, .int .u8 0, .int .u8 0, .int .u8 0, .int .u8 0, .int .u8 0, .int .u8 0, .int .u8 0, .int .u8 0, .int .u8 0, .int .u8 0, .int .u8 0, .int .u8 0, .int .u8 0, .int .u8 0, .int .u8 0, .int .u8 0, .int .u8 0, .int .u8 0, .int .u8 0, .int .u8 0, .int .u8 0, .int .u8 0, .int .u8 0, .int .u8 0] 24)
          have hown3 := hown2.alloc (Obj.cells #[.int .u8 0, .int .u8 0, .int .u8 0, .int .u8 0, .int .u8 0, .int .u8 0, .int .u8 0, .int .u8 0, .int .u8 0, .int .u8 0, .int .u8 0, .int .u8 0, .int .u8 0, .int .u8 0, .int .u8 0, .int .u8 0, .int .u8 0, .int .u8 0, .int .u8 0, .int .u8 0, .int .u8 0, .int .u8 0, .int .u8 0, .int .u8 0, .int .u8 0, .int .u8 0, .int .u8 0, .int .u8 0, .int .u8 0, .int .u8 0, .int .u8 0, .int .u8 0] 24)
          have hB3 := hB2.alloc hB2.size (Obj.cells #[.int .u8 0, .int .u8 0, .int .u8 0, .int .u8 0, .int .u8 0, .int .u8 0, .int .u8 0, .int .u8 0, .int .u8 0, .int .u8 0, .int .u8 0, .int .u8 0, .int .u8 0, .int .u8 0, .int .u8 0, .int .u8 0, .int .u8 0, .int .u8 0, .int .u8 0, .int .u8 0, .int .u8 0, .int .u8 0, .int .u8 0, .int .u8 0, .int .u8 0, .int .u8 0, .int .u8 0, .int .u8 0, .int .u8 0, .int .u8 0, .int .u8 0, .int .u8 0] 24)
          have hN := Blk.new V2 24 #[.int .u8 0, .int .u8 0, .int .u8 0, .int .u8 0, .int .u8 0, .int .u8 0, .int .u8 0, .int .u8 0, .int .u8 0, .int .u8 0, .int .u8 0, .int .u8 0, .int .u8 0, .int .u8 0, .int .u8 0, .int .u8 0, .int .u8 0, .int .u8 0, .int .u8 0, .int .u8 0, .int .u8 0, .int .u8 0, .int .u8 0, .int .u8 0, .int .u8 0, .int .u8 0, .int .u8 0, .int .u8 0, .int .u8 0, .int .u8 0, .int .u8 0, .int .u8 0]
          have hok := own_fresh hown2
          have hkB := hB2.size
          generalize hZZ : V2.alloc (Obj.cells #[.int .u8 0, .int .u8 0, .int .u8 0, .int .u8 0, .int .u8 0, .int .u8 0, .int .u8 0, .int .u8 0, .int .u8 0, .int .u8 0, .int .u8 0, .int .u8 0, .int .u8 0, .int .u8 0, .int .u8 0, .int .u8 0, .int .u8 0, .int .u8 0, .int .u8 0, .int .u8 0, .int .u8 0, .int .u8 0, .int .u8 0, .int .u8 0, .int .u8 0, .int .u8 0, .int .u8 0, .int .u8 0, .int .u8 0, .int .u8 0, .int .u8 0, .int .u8 0] 24) = V3 at *
          have hth := there_blk hN rfl
          generalize V2.heap.size = k at *
          clear hown2 hB2 hZZ hN r2a r2b
          go_region_held3 (fun w' => w'.rangeAt gb ob (b.map u8v) ∧ w'.there k 0 32) (first | go_keep_ranges | (exact ⟨r3b, hth⟩)) (fail)
          have hg : V3.grownBy (V3.drew.setCells k 0 (b.map u8v)) (some k) := gb_cells _ _ _ (gb_drew (gb_refl V3 _))
          have hx4 : (V3.drew.setCells k 0 (b.map u8v)).rangeAt k 0 (b.map u8v) := World.rangeAt_setCells_same _ _ _ _ (by rw [hlb]; exact hth)
          have hth4 : (V3.drew.setCells k 0 (b.map u8v)).there k 0 32 := World.there_setCells (show V3.drew.there k 0 32 from hth) _ _ _
          generalize V3.drew.setCells k 0 (b.map u8v) = V4 at *
          have r4a := range_gb r3a hg (by omega)
          have r4b := range_gb r3b hg (by omega)
          have hown4 := own_gb hown3 hg hok
          have hB4 := hB3.grown hg hB3.size (by intro i e; cases e; exact hkB)
          clear hth hg hown3 hB3 r3a r3b
          have hth := hth4
          clear hth4
          go_wp2
          obtain ⟨fv, hfv⟩ : ∃ fv, F false true = fv := ⟨_, rfl⟩
          have hFx := fun W => hF W false true
          rw [hfv] at hFx
          have HFV := hid hfv
          clear hF hfv
          cases fv with
          | false =>
            go_wp2_with (first | ((with_reducible refine (hFx _).mono ?_); rintro e7 w7 ⟨rfl, rfl⟩))
            go_roundw
            case rel => exact ⟨some ⟨ga, oa, none⟩, some Y, n', c', m' - 1, d' - 1, a :: t, s, out, rfl, rfl, hn', by rw [← hm']; simp, by omega, by omega, by omega, by omega, hA2, hXb, by omega, ho, by rw [HMG.out, HFV.out]; rfl, hown4, hB4⟩
            case measure => simp; omega
          | true =>
            go_wp2_with (first
              | ((with_reducible refine (hFx _).mono ?_); rintro e7 w7 ⟨rfl, rfl⟩)
              | (with_reducible refine wpList_load_if (by with_unfolding_all rfl) 24 _ rfl k 0 rfl (b.map u8v) _ hx4 hu (by with_unfolding_all rfl) hzb ?_)
              | (at_builtin; refine wpList_append_own _ rfl _ _ 22 rfl w.heap.size 24 j0 (.agg (idVals zeroB)) 32 32 Try.underlying22 hj hjz hjs hjb rfl (by decide) _ _ _ rfl (hown4.alloc _) ⟨V4.heap.size, 0, none⟩ 1 1 (b.map u8v) rfl ?l1 (news_fold V4 b lb) hob ?l2 ?l3 ?l4 ?_))
            case l1 => rw [hlb]
            case l2 => unfold maxLen; omega
            case l3 => omega
            case l4 => simp; have := hB4.size; omega
            intro v8 w8 hown8 hg8 _
            have hB8 := (hB4.alloc hB4.size _).grown hg8 (hB4.alloc hB4.size _).size (fun k hk => (hown4.lt k hk).1)
            go_wp2
            go_roundw
            case rel => exact ⟨some ⟨ga, oa, none⟩, some Y, n', c', m' - 1, d' - 1, a :: t, s, out ++ [b], rfl, rfl, hn', by rw [← hm']; simp, by omega, by omega, by omega, by omega, hA2, hXb, by simp; omega, snoc32 ho lb, by rw [HMG.out, HFV.out, List.append_assoc]; rfl, (by rw [List.length_append, idsV_snoc]; exact hown8), hB8⟩
            case measure => simp; omega
end Go.Proofs.Ytkajfpincbkfhaa

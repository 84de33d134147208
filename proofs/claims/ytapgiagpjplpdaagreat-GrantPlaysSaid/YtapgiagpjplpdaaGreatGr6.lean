/- grant: without, revoked. -/
import Derived.Test.YtapgiagpjplpdaaGreatGr2
import Derived.Test.YtapgiagpjplpdaaGreatIdA
import Derived.Test.YtapgiagpjplpdaaGreatPhA
import Derived.Shelf.Small.Strs
import Derived.Shelf.Small.Wraps
import Derived.StillTailTactics
import Derived.Shelf.Spec.SlicesGrow
set_option linter.unusedSimpArgs false
set_option linter.unusedVariables false
namespace Go.Proofs.YtapgiagpjplpdaaGreat
open Go.RowKit Go.Qc Go.Shelf
attribute [local go_sem] txt_size txt_append ib_fold txt_toL
theorem gr_cell {w W : World} (hb : Below w.heap.size w W) {p : Addr} {u : Value} (h : w.cell? p = some u) : W.cell? p = some u := (hb.cell (World.block_lt_of_cell? w p h)).trans h

set_option maxRecDepth 100000 in
set_option maxHeartbeats 20000000 in
theorem gwithout_any (fn : FuncId) (hfn : ∀ args W, (callFunc fn args).run Tryz.prog W = .ok (.enter fn args) W) (cap : Array Value) (goes : GrD → Bool) (A : Option Addr) (n c : Nat) (Xs : List GrD) (w : World) (hn : Xs.length = n) (bn : n ≤ 1000) (hA : A = none → n = 0 ∧ c = 0) (hr : GrRd w A Xs)
    (cF : ∀ X ∈ Xs, ∀ W, Below w.heap.size w W → Calls Tryz.prog fn (#[.agg X.cs] ++ cap) W fun e w' => e = .returned (.bool (goes X)) ∧ Below W.heap.size W w') :
    Calls Tryz.prog 63 #[.slice A n c, .func (.func fn) #[] cap] w fun e w' => ∃ v, e = .returned v ∧ GrOw w' w.heap.size v (Xs.filter (fun X => !goes X)).length (Xs.filter (fun X => !goes X)) ∧ Below w.heap.size w w' := by
  have cC := gclone_any A n c Xs w hn bn hA hr
  have hK := hr.1
  go_enter Tryz.func63, Tryz.ntmps63
  go_wp2_with (fail)
  refine cC.mono ?_
  rintro e1 w1 ⟨v, rfl, hown, hb1⟩
  have cD := gdel_any fn hfn cap goes w.heap.size w v n Xs w1 hK bn hown hb1 hb1.size cF
  go_wp2_with (fail)
  refine cD.mono ?_
  rintro e2 w2 ⟨v2, rfl, hown2, hb2⟩
  go_wp2_with (fail)
  go_ret
  exact ⟨_, rfl, hown2, hb2⟩

set_option maxRecDepth 100000 in
set_option maxHeartbeats 20000000 in
theorem grev1_any (D : OpD) (hK : D.K.length = 32) (A : Option Addr) (n c : Nat) (B : Option Addr) (m d : Nat) (X : GrD) (hX : X.ok) (gb : Nat) (w : World) (ho : OpX w gb D A n c B m d) :
    Calls Tryz.prog 64 #[.agg X.cs, .pointer (some ⟨gb, 0, none⟩)] w fun e w' => e = .returned (.bool (decide (X.k = D.K) && covB D.p X.p)) ∧ Below w.heap.size w w' := by
  have hnw := GrX.new w X
  have hba := (Below.refl w.heap.size w).alloc (Nat.le_refl _) (.cells X.cs 70)
  have ho2 := ho.below hba
  have hu := Tryz.underlying23
  have hzx : (Tryz.prog.info? 23).map (·.size) = some (X.k.map u8v).length := by rw [List.length_map, hX.1]; exact sizeId
  have hzd : (Tryz.prog.info? 23).map (·.size) = some (D.K.map u8v).length := by rw [List.length_map, hK]; exact sizeId
  have fx := hnw.key
  have fd := ho2.key
  have c0 := hnw.c0
  have d1 := ho2.c1
  obtain ⟨t, hte⟩ : ∃ t, decide (X.k = D.K) = t := ⟨_, rfl⟩
  obtain ⟨cv, hcv⟩ : ∃ cv, covB D.p X.p = cv := ⟨_, rfl⟩
  have heq : ∀ W, (Op.equalIn 10000 23 (.agg (List.map u8v X.k).toArray) (.agg (List.map u8v D.K).toArray)).run Tryz.prog W = .ok t W := fun W => (ids_eq W X.k D.K hX.1 hK).trans (by rw [hte])
  have cC := fun W => gcov_any D.p X.p W
  rw [hcv] at cC
  rw [hte, hcv]
  clear hte hcv ho hnw ho2
  go_enter Tryz.func64, Tryz.ntmps64
  cases t with
  | false =>
    go_wp2_with (first | (with_reducible refine wpList_load_if (by with_unfolding_all rfl) 23 _ rfl _ _ rfl (X.k.map u8v) _ fx hu rfl hzx ?_) | (with_reducible refine wpList_load_if (by with_unfolding_all rfl) 23 _ rfl _ _ rfl (D.K.map u8v) _ fd hu rfl hzd ?_) | (go_at_call 38; (with_reducible refine (cC _).mono ?_); rintro e3 w3 ⟨rfl, rfl⟩))
    go_ret
    exact ⟨rfl, hba⟩
  | true =>
    go_wp2_with (first | (with_reducible refine wpList_load_if (by with_unfolding_all rfl) 23 _ rfl _ _ rfl (X.k.map u8v) _ fx hu rfl hzx ?_) | (with_reducible refine wpList_load_if (by with_unfolding_all rfl) 23 _ rfl _ _ rfl (D.K.map u8v) _ fd hu rfl hzd ?_) | (go_at_call 38; (with_reducible refine (cC _).mono ?_); rintro e3 w3 ⟨rfl, rfl⟩))
    go_ret
    exact ⟨rfl, hba⟩

set_option maxRecDepth 100000 in
set_option maxHeartbeats 20000000 in
theorem grev2_any (root : List UInt8) (hR : root.length = 32) (tb pt pl : Nat) (V : Value) (L : Option Addr) (k cl : Nat) (Ls : List GrD) (hl : Ls.length = k) (bk : k ≤ 1000) (X : GrD) (hX : X.ok) (w : World) (ht : TbX w tb root V) (hp : w.cell? ⟨pt, 0, none⟩ = some (.pointer (some ⟨tb, 0, none⟩))) (hq : w.cell? ⟨pl, 0, none⟩ = some (.slice L k cl)) (hr : GrRd w L Ls) :
    Calls Tryz.prog 65 #[.agg X.cs, .pointer (some ⟨pt, 0, none⟩), .pointer (some ⟨pl, 0, none⟩)] w fun e w' => e = .returned (.bool (decide (depV root Ls X.b X.p ≤ X.d))) ∧ Below w.heap.size w w' := by
  have hnw := GrX.new w X
  have hba := (Below.refl w.heap.size w).alloc (Nat.le_refl _) (.cells X.cs 70)
  have ht2 := ht.below hba
  have hu := Tryz.underlying23
  have hzb : (Tryz.prog.info? 23).map (·.size) = some (X.b.map u8v).length := by rw [List.length_map, hX.2]; exact sizeId
  have hr2 := hr.below hba
  have hp2 := gr_cell hba hp
  have hq2 := gr_cell hba hq
  obtain ⟨z, hz⟩ : ∃ z, depV root Ls X.b X.p = z := ⟨_, rfl⟩
  rw [hz]
  have hsz := hba.size
  clear hp hq ht hr
  go_enter Tryz.func65, Tryz.ntmps65
  go_wp2
  generalize w.alloc (.cells X.cs 70) = w0 at *
  have f1 : ∀ P : LaterW w0, P.w.cell? ⟨pt, 0, none⟩ = some (.pointer (some ⟨tb, 0, none⟩)) := fun P => gr_cell P.h hp2
  have f2 : ∀ P : LaterW w0, P.w.cell? ⟨pl, 0, none⟩ = some (.slice L k cl) := fun P => gr_cell P.h hq2
  have f3 : ∀ P : LaterW w0, P.w.cell? ⟨w.heap.size, 0, none⟩ = some (.string (txt X.p)) := fun P => (hnw.below P.h).c0
  have f4 : ∀ P : LaterW w0, P.w.cell? ⟨w.heap.size, 65, none⟩ = some (.int .i64 X.d) := fun P => (hnw.below P.h).c65 hX
  have f5 := range_later (hnw.by_ hX)
  have cD := fun P : LaterW w0 => gdepth_any tb root hR V L k cl Ls hl bk X.b hX.2 X.p P.w (ht2.below P.h) (hr2.below P.h)
  rw [hz] at cD
  unfold idVals at cD
  refine wp_region_later mixed10 (by kernel_rfl) ?_
  repeat (first
    | ((with_reducible refine wpQuiet_load_if (by with_unfolding_all rfl) 23 _ rfl _ _ rfl (X.b.map u8v) _ f5 hu (by with_unfolding_all rfl) hzb ?_); simp only [Act.put, List.setIfInBounds_toArray, List.set_cons_zero, List.set_cons_succ])
    | ((with_reducible refine wpQuiet_step (fun K hK => ?_)); go_simp; first | ((with_reducible refine hK _ ?_); clear hK K) | (with_reducible apply Exists.intro; (with_reducible refine ⟨fun P => ?_, hK _ ?_⟩); ((go_at_call 37; exact later_of (cD P))); clear hK K))
    | ((with_reducible refine BigFrame.wpQuiet_skip (by first | kernel_rfl | with_unfolding_all rfl) ?_); simp only [Act.put, List.setIfInBounds_toArray, List.set_cons_zero, List.set_cons_succ]))
  with_reducible refine wpQuiet_nil ?_
  intro _ hw9
  obtain ⟨P9, rfl⟩ := hw9
  have hb9 := hba.trans (P9.h.mono hsz)
  generalize P9.w = w1 at *
  go_wp2
  go_ret
  exact ⟨rfl, hb9⟩

/-- One walk: only those that are held; again and again. -/
def heldB (root : List UInt8) (Ls : List GrD) (X : GrD) : Bool := !decide (depV root Ls X.b X.p ≤ X.d)
def holdG (root : List UInt8) (Ls : List GrD) : List GrD := Ls.filter (heldB root Ls)
def iterH (root : List UInt8) : Nat → List GrD → List GrD
  | 0, l => l
  | m + 1, l => iterH root m (holdG root l)
theorem iterH_snoc (root : List UInt8) : ∀ (m : Nat) (l : List GrD), iterH root (m + 1) l = holdG root (iterH root m l)
  | 0, l => rfl
  | m + 1, l => iterH_snoc root m (holdG root l)
theorem holdG_len (root : List UInt8) (l : List GrD) : (holdG root l).length ≤ l.length := List.length_filter_le _ _
theorem holdG_fix {root : List UInt8} {l : List GrD} (h : (holdG root l).length = l.length) : holdG root l = l := List.filter_eq_self.2 (List.length_filter_eq_length_iff.1 h)
theorem iterH_fix {root : List UInt8} {l : List GrD} (h : holdG root l = l) : ∀ m, iterH root m l = l
  | 0 => rfl
  | m + 1 => by rw [iterH, h]; exact iterH_fix h m
theorem iterH_add (root : List UInt8) : ∀ (m k : Nat) (l : List GrD), iterH root (m + k) l = iterH root k (iterH root m l)
  | 0, k, l => by rw [Nat.zero_add]; rfl
  | m + 1, k, l => by rw [Nat.succ_add]; exact iterH_add root m k (holdG root l)
theorem iterH_stop {root : List UInt8} {l : List GrD} {m N : Nat} (h : (holdG root (iterH root m l)).length = (iterH root m l).length) (hm : m ≤ N) : iterH root N l = iterH root m l := by
  obtain ⟨k, rfl⟩ : ∃ k, N = m + k := ⟨N - m, by omega⟩
  rw [iterH_add]
  exact iterH_fix (holdG_fix h) k
/-- Those that a Revoke leaves ahead of the walks. -/
def leftG (K p : List UInt8) (Xs : List GrD) : List GrD := Xs.filter (fun X => !(decide (X.k = K) && covB p X.p))

theorem hfn1 : ∀ args W, (callFunc 64 args).run Tryz.prog W = .ok (.enter 64 args) W := fun args W => by
  have h1 : decide (Tryz.f64.name = "runtime.NumGoroutine") = false := by kernel_rfl
  have h2 : Tryz.f64.body.isNone = false := by kernel_rfl
  have h1' := of_decide_eq_false h1
  have h2' : ¬ Tryz.f64.body = none := fun e => by rw [e] at h2; cases h2
  simp [callFunc, Tryz.func64, h1', h2']
theorem hfn2 : ∀ args W, (callFunc 65 args).run Tryz.prog W = .ok (.enter 65 args) W := fun args W => by
  have h1 : decide (Tryz.f65.name = "runtime.NumGoroutine") = false := by kernel_rfl
  have h2 : Tryz.f65.body.isNone = false := by kernel_rfl
  have h1' := of_decide_eq_false h1
  have h2' : ¬ Tryz.f65.body = none := fun e => by rw [e] at h2; cases h2
  simp [callFunc, Tryz.func65, h1', h2']
theorem gr_own_blk {W W' : World} {base n p : Nat} {t : TypeId} {v : Value} {Xs : List GrD} {cs : Array Value} (h : GrOw W base v n Xs) (hk : Blk W p t cs) (hne : 70 ≠ t) (hg : W.grownBy W' (some p)) : GrOw W' base v n Xs := by
  refine World.ownsRow.kept h hg ?_
  rcases h.2 with ⟨rfl, _⟩ | ⟨g, cap, cur, rfl, _, hb, _⟩
  · exact .inl rfl
  · refine .inr (fun e' => ?_)
    simp only [Value.ownBlock, Option.some.injEq] at e'
    subst e'
    unfold Blk at hk
    rw [hk] at hb
    cases hb
    exact hne rfl
theorem gb_setG (w : World) (p : Addr) (u : Value) : w.grownBy (w.setCell p u) (some p.block) :=
  ⟨rfl, rfl, rfl, by simp [World.setCell], fun k _ hne => Below.heap_setCell _ _ _ _ (fun e => hne (by rw [e]))⟩
/-- What stands when so many walks are done. -/
structure RvI (w : World) (base pl tb : Nat) (root : List UInt8) (VT : Value) (L0 : List GrD) (v : Value) (m : Nat) (Ls : List GrD) (wr : World) : Prop where
  own : GrOw wr base v Ls.length Ls
  ok : ∀ X ∈ Ls, X.ok
  eq : Ls = iterH root m L0
  le : m + Ls.length ≤ L0.length
  box : Blk wr pl 46 #[v]
  tbx : TbX wr tb root VT
  ptr : wr.cell? ⟨w.heap.size, 0, none⟩ = some (.pointer (some ⟨tb, 0, none⟩))
  low : Below w.heap.size w wr
/-- What revoked answers. -/
def RvQ (N : Nat) (root : List UInt8) (L0 : List GrD) (base : Nat) (e : Ending) (w' : World) : Prop := (L0.length = N ∧ e = .returned (.tuple #[.slice none 0 0, .int .i64 6])) ∨ (L0.length ≠ N ∧ ∃ v, e = .returned (.tuple #[v, .int .i64 0]) ∧ GrOw w' base v (iterH root N L0).length (iterH root N L0))
def lenAt (W : World) (p : Nat) : Nat := match W.cell? ⟨p, 0, none⟩ with | some (.slice _ n _) => n | _ => 0

set_option maxRecDepth 100000 in
set_option maxHeartbeats 20000000 in
theorem grevoked_any (D : OpD) (hK : D.K.length = 32) (A : Option Addr) (n c : Nat) (B : Option Addr) (m d : Nat) (root : List UInt8) (hR : root.length = 32) (tb : Nat) (AG : Option Addr) (N C : Nat) (Xs : List GrD) (hn : Xs.length = N) (bn : N ≤ 1000) (hA : AG = none → N = 0 ∧ C = 0) (w : World) (ht : TbX w tb root (.slice AG N C)) (hr : GrRd w AG Xs) :
    Calls Tryz.prog 41 #[.pointer (some ⟨tb, 0, none⟩), .agg (opC D A n c B m d)] w fun e w' => RvQ N root (leftG D.K D.p Xs) w.heap.size e w' ∧ Below w.heap.size w w' := by
  have hk0 := Blk.new w 26 #[.pointer (some ⟨tb, 0, none⟩)]
  have hba := (Below.refl w.heap.size w).alloc (Nat.le_refl _) (.cells #[.pointer (some ⟨tb, 0, none⟩)] 26)
  have hbo := hba.alloc hba.size (.cells (opC D A n c B m d) 34)
  have hox := OpX.new (w.alloc (.cells #[.pointer (some ⟨tb, 0, none⟩)] 26)) D A n c B m d
  have hk1 := hk0.alloc (.cells (opC D A n c B m d) 34)
  rw [World.size_alloc] at hox
  have hs1 : ((w.alloc (.cells #[.pointer (some ⟨tb, 0, none⟩)] 26)).alloc (.cells (opC D A n c B m d) 34)).heap.size = w.heap.size + 2 := by rw [World.size_alloc, World.size_alloc]
  have ht2 := ht.below hbo
  have hr2 := hr.below hbo
  have htb := ht.b.lt
  have x32 := ht2.row hR
  have xp := hk1.cell_ (i := 0) rfl
  have hK0 := hr.1
  have hL0 : (leftG D.K D.p Xs).length ≤ N := by rw [← hn]; exact List.length_filter_le _ _
  have hLK : ∀ X ∈ leftG D.K D.p Xs, X.ok := fun X hX => hK0 X (List.mem_filter.1 hX).1
  generalize hGL : leftG D.K D.p Xs = L0 at *
  have HGL := hid hGL
  clear hk0 hba ht hr hGL
  go_enter Tryz.func41, Tryz.ntmps41
  go_wp2_with (fail)
  generalize (w.alloc (.cells #[.pointer (some ⟨tb, 0, none⟩)] 26)).alloc (.cells (opC D A n c B m d) 34) = w1 at *
  have cW := gwithout_any 64 hfn1 #[.pointer (some ⟨w.heap.size + 1, 0, none⟩)] (fun X => decide (X.k = D.K) && covB D.p X.p) AG N C Xs w1 hn bn hA hr2 (fun X hX W hW => grev1_any D hK A n c B m d X (hK0 X hX) (w.heap.size + 1) W (hox.below hW))
  refine cW.mono ?_
  rintro e2 w2 ⟨v, rfl, hown, hb2⟩
  have hL : leftG D.K D.p Xs = Xs.filter (fun X => !(decide (X.k = D.K) && covB D.p X.p)) := rfl
  rw [← hL, HGL.out] at hown
  obtain ⟨A1, c1, rfl, _, _, hA1, _⟩ := hown.rd hLK
  have hb12 := hbo.trans (hb2.mono hbo.size)
  have hal := (Below.refl w2.heap.size w2).alloc (Nat.le_refl _) (.cells #[.slice A1 L0.length c1] 46)
  have hpl := Blk.new w2 46 #[.slice A1 L0.length c1]
  have hI := hid (show RvI w w1.heap.size w2.heap.size tb root (.slice AG N C) L0 (.slice A1 L0.length c1) 0 L0 (w2.alloc (.cells #[.slice A1 L0.length c1] 46)) from ⟨hown.below hal, hLK, rfl, by omega, hpl, (ht2.below hb2).below hal, gr_cell hal (gr_cell hb2 xp), hb12.trans (hal.mono hb12.size)⟩)
  have y0 := hI.out.ptr
  have y1 := hI.out.tbx.row hR
  have y2 := hpl.cell_ (i := 0) rfl
  have hs2 : w.heap.size + 2 ≤ w2.heap.size := by have := hb2.size; omega
  have hs3 : w.heap.size ≤ w1.heap.size := hbo.size
  have hs4 : w1.heap.size ≤ w2.heap.size := hb2.size
  have HN := hid hn
  clear cW hown hb2 hbo hal hr2 ht2 hox hk1 x32 xp hL hpl hn
  go_wp2_with (fail)
  generalize w2.alloc (.cells #[.slice A1 L0.length c1] 46) = w3 at *
  refine wp_region_quiet_lit mixed10 (by kernel_rfl) ?_
  repeat (first
    | ((with_reducible refine wpQuiet_step (fun K hK => ?_)); go_simp; first | ((with_reducible refine hK _ ?_); clear hK K))
    | ((with_reducible refine BigFrame.wpQuiet_skip (by first | kernel_rfl | with_unfolding_all rfl) ?_); simp only [Act.put, List.setIfInBounds_toArray, List.set_cons_zero, List.set_cons_succ]))
  with_reducible refine wpQuiet_nil ?_
  intro _ hw9
  obtain ⟨nq, rfl⟩ := hw9
  replace hI := hid (show RvI w w1.heap.size w2.heap.size tb root (.slice AG N C) L0 (.slice A1 L0.length c1) 0 L0 (w3.drewN nq) from ⟨hI.out.own, hI.out.ok, hI.out.eq, hI.out.le, hI.out.box, ⟨hI.out.tbx.b⟩, hI.out.ptr, below_drewN hI.out.low nq⟩)
  generalize w3.drewN nq = w4 at *
  clear y0 y1 y2
  by_cases hlen : L0.length = N
  · have z1 : (L0.length : Int) = N := by omega
    go_wp2_with (fail)
    go_ret2
    exact ⟨.inl ⟨hlen, rfl⟩, hI.out.low⟩
  · have z1 : ¬ (L0.length : Int) = N := by omega
    have z2 : ((L0.length : Int) == (N : Int)) = false := by rw [beq_eq_false_iff_ne]; exact z1
    go_wp2_with (fail)
    rw [z2]
    go_loopw [] (fun wr => ∃ (mm : Nat) (Ls : List GrD) (v : Value), Hid (RvI w w1.heap.size w2.heap.size tb root (.slice AG N C) L0 v mm Ls wr)) (fun wr => lenAt wr w2.heap.size)
    case atStart => exact ⟨0, L0, _, hI⟩
    case round =>
      clear hI
      obtain ⟨mm, Ls, v, HI⟩ := hrel
      obtain ⟨A2, c2, rfl, _, _, hA2, hr2⟩ := HI.out.own.rd HI.out.ok
      have hmN : mm + Ls.length ≤ N := Nat.le_trans HI.out.le hL0
      have y2 := HI.out.box.cell_ (i := 0) rfl
      have cW := gwithout_any 65 hfn2 #[.pointer (some ⟨w.heap.size, 0, none⟩), .pointer (some ⟨w2.heap.size, 0, none⟩)] (fun X => decide (depV root Ls X.b X.p ≤ X.d)) A2 Ls.length c2 Ls wr rfl (by omega) hA2 hr2 (fun X hX W hW => grev2_any root hR tb w.heap.size w2.heap.size _ A2 Ls.length c2 Ls rfl (by omega) X (HI.out.ok X hX) W (HI.out.tbx.below hW) (gr_cell hW HI.out.ptr) (gr_cell hW y2) (hr2.below hW))
      have hH : holdG root Ls = Ls.filter (fun X => !decide (depV root Ls X.b X.p ≤ X.d)) := rfl
      rw [← hH] at cW
      clear hr2 hH
      go_wp2_with (fail)
      refine cW.mono ?_
      rintro e5 w5 ⟨v5, rfl, hown5, hb5⟩
      have hK5 : ∀ X ∈ holdG root Ls, X.ok := fun X hX => HI.out.ok X (List.mem_filter.1 hX).1
      have hl5 : (holdG root Ls).length ≤ Ls.length := List.length_filter_le _ _
      obtain ⟨A5, c5, rfl, _, _, _, _⟩ := hown5.rd hK5
      have hbx := HI.out.box.below hb5
      have y5 := hbx.cell_ (i := 0) rfl
      have fz := hbx.frozen 0
      have hm1 : lenAt wr w2.heap.size = Ls.length := by unfold lenAt; rw [y2]; rfl
      have hlow := HI.out.low.trans (hb5.mono HI.out.low.size)
      have hsr : w2.heap.size < wr.heap.size := HI.out.box.lt
      clear cW y2
      by_cases hq : (holdG root Ls).length = Ls.length
      · have z3 : ((holdG root Ls).length : Int) = Ls.length := by omega
        have hst : iterH root N L0 = Ls := by
          have h := HI.out.eq
          have e : (holdG root (iterH root mm L0)).length = (iterH root mm L0).length := by rw [← h]; exact hq
          rw [iterH_stop e (by omega), ← h]
        go_wp2_with (fail)
        go_ret2
        exact ⟨.inr ⟨hlen, by rw [hst]; exact ⟨_, rfl, (HI.out.own.below hb5).le hs3⟩⟩, hlow⟩
      · have z3 : ¬ ((holdG root Ls).length : Int) = Ls.length := by omega
        have z4 : (((holdG root Ls).length : Int) == (Ls.length : Int)) = false := by rw [beq_eq_false_iff_ne]; exact z3
        have gs := gb_setG w5 ⟨w2.heap.size, 0, none⟩ (.slice A5 (holdG root Ls).length c5)
        have hbx2 := hbx.set 0 (.slice A5 (holdG root Ls).length c5)
        have hne : 70 ≠ 46 := by decide
        have hnew : RvI w w1.heap.size w2.heap.size tb root (.slice AG N C) L0 (.slice A5 (holdG root Ls).length c5) (mm + 1) (holdG root Ls) (w5.setCell ⟨w2.heap.size, 0, none⟩ (.slice A5 (holdG root Ls).length c5)) :=
          ⟨gr_own_blk (hown5.le (Nat.le_trans hs4 (Nat.le_of_lt hsr))) hbx hne gs, hK5, by rw [iterH_snoc, ← HI.out.eq], by have := HI.out.le; omega, hbx2, ⟨(gs.block tb (HI.out.tbx.below hb5).b.lt (by intro e; have := Option.some.inj e; simp only at this; omega)).trans (HI.out.tbx.below hb5).b⟩, (World.cell?_setCell_far _ _ _ _ (by simp only; omega)).trans (gr_cell hb5 HI.out.ptr), hlow.grown gs hlow.size (by intro k e; cases e; show w.heap.size ≤ w2.heap.size; omega)⟩
        have hm2 : lenAt (w5.setCell ⟨w2.heap.size, 0, none⟩ (.slice A5 (holdG root Ls).length c5)) w2.heap.size = (holdG root Ls).length := by unfold lenAt; rw [hbx2.cell_ (i := 0) rfl]; rfl
        have HNEW := hid hnew
        clear hnew gs hbx2
        go_wp2_with (fail)
        go_roundw
        case rel => exact ⟨_, _, _, HNEW⟩
        case measure => rw [hm1, hm2]; omega

end Go.Proofs.YtapgiagpjplpdaaGreat
/- grant: the order of grants; where one stands. -/
set_option linter.unusedSimpArgs false
set_option linter.unusedVariables false
namespace Go.Proofs.YtapgiagpjplpdaaGreat
open Go.RowKit Go.Qc Go.Shelf
attribute [local go_sem] txt_size txt_append ib_fold txt_toL

def lays106g_ren : Go.Shelf.Ren := ⟨fun | 106 => 69 | 213 => 84 | 265 => 104 | n => n, fun | 9 => 9 | 3 => 3 | n => n, fun | n => n⟩
theorem lays106g : Go.Proofs.Lays.n106 Tryz.prog lays106g_ren := {
  mixed := by kernel_rfl
  f106 := Tryz.func69.trans (congrArg some (by kernel_rfl))
  f213 := Tryz.func84.trans (congrArg some (by kernel_rfl))
  f265 := Tryz.func104.trans (congrArg some (by kernel_rfl))
  t3 := Tryz.underlying3
  a3 := Tryz.isAgg3
  z3 := Tryz.sizeOf3
  v3 := Tryz.zeroValue3
  t9 := Tryz.underlying9
  a9 := Tryz.isAgg9
  z9 := Tryz.sizeOf9
  v9 := Tryz.zeroValue9 }
def lays122g_ren : Go.Shelf.Ren := ⟨fun | 122 => 71 | 215 => 86 | n => n, fun | 3 => 3 | 4 => 4 | n => n, fun | n => n⟩
theorem lays122g : Go.Proofs.Lays.n122 Tryz.prog lays122g_ren := {
  mixed := by kernel_rfl
  f122 := Tryz.func71.trans (congrArg some (by kernel_rfl))
  f215 := Tryz.func86.trans (congrArg some (by kernel_rfl))
  t3 := Tryz.underlying3
  a3 := Tryz.isAgg3
  z3 := Tryz.sizeOf3
  v3 := Tryz.zeroValue3
  t4 := Tryz.underlying4
  a4 := Tryz.isAgg4
  z4 := Tryz.sizeOf4
  v4 := Tryz.zeroValue4 }

theorem gscmp_any (s t : List UInt8) (w : World) : Calls Tryz.prog 69 #[.string (txt s), .string (txt t)] w fun e w' => e = .returned (.int .i64 (Lib.compareBytes s t)) ∧ w' = w := by
  have := Any.strings_Compare lays106g (txt s) (txt t) w
  rw [txt_data, txt_data] at this
  exact this
theorem gicmp_any (x y : Int) (w : World) : Calls Tryz.prog 71 #[.int .i64 x, .int .i64 y] w fun e w' => e = .returned (.int .i64 (Lib.compareInt x y)) ∧ w' = w := Any.cmp_Compare_int lays122g x y w
theorem wp_tail_drewG {P : Program} {id : Nat} {Q : Exit → Act → World → Prop} {a : Act} {w : World} {l : List Oper} (n : Nat) (hm : P.follows .mixedOrders = true) (hB : Region.lexTailB .any l.toArray n = true)
    (h : wpStill P l.toArray w.drew (fun a' => wpList P l.toArray Q (l.drop n) a' w.drew) (l.take n) a) : (Code.region id l.toArray true).wp P Q a w := wp_region_still_tail n hm hB h
/-- The first that isn't 0. -/
def orI : List Int → Int
  | [] => 0
  | z :: zs => if z = 0 then orI zs else z
theorem orI_drop {zs : List Int} : ∀ {k : Nat}, (∀ z ∈ zs.take k, z = 0) → orI zs = orI (zs.drop k) := by
  induction zs with
  | nil => intro k _; simp
  | cons z zs ih =>
    intro k h
    cases k with
    | zero => rfl
    | succ k =>
      rw [orI, if_pos (h z (by simp)), List.drop_succ_cons]
      exact ih (fun y hy => h y (by simp [hy]))
/-- How a grant stands to another one. -/
def cmpG (X Y : GrD) : Int := orI [Lib.compareBytes X.p Y.p, Lib.compareBytes X.k Y.k, Lib.compareBytes X.b Y.b, Lib.compareInt X.d Y.d]

set_option maxRecDepth 100000 in
set_option maxHeartbeats 20000000 in
theorem gor_any (A : Option Addr) (n c : Nat) (zs : List Int) (hn : zs.length = n) (bn : n ≤ 1000) (w : World) (hr : Rd w A (zs.map fun z => .int .i64 z)) :
    Calls Tryz.prog 68 #[.slice A n c] w fun e w' => e = .returned (.int .i64 (orI zs)) ∧ Below w.heap.size w w' := by
  have HN := hid hn
  have bn9 : n ≤ 9223372036854775807 := by omega
  clear hn
  go_enter Tryz.func68, Tryz.ntmps68
  go_wp2
  go_loopw [8] (fun i wr => ∃ k : Nat, k ≤ n ∧ i = .int .i64 k ∧ (∀ z ∈ zs.take k, z = 0) ∧ Below w.heap.size w wr) (fun i _ => n - (intOf i).toNat)
  case atStart => exact ⟨0, by omega, rfl, by simp, Below.refl _ _⟩
  case round =>
    obtain ⟨k, hkn, rfl, hall, hb⟩ := hrel
    have HO := hid (orI_drop hall)
    by_cases hlt : k < n
    · obtain ⟨z, hz⟩ : ∃ z, zs[k]? = some z := ⟨_, List.getElem?_eq_getElem (by have := HN.out; omega)⟩
      obtain ⟨ad, rfl, p0⟩ := rd_in (hr.below hb) k (.int .i64 z) (by rw [List.getElem?_map, hz]; rfl)
      have b1 : (k : Int) < n := by omega
      have HZ := hid hz
      have HALL := hid hall
      have HLT := hid (show k + 1 ≤ n from hlt)
      have hd : zs.drop k = z :: zs.drop (k + 1) := by
        obtain ⟨h1, h2⟩ := List.getElem?_eq_some_iff.1 hz
        rw [List.drop_eq_getElem_cons h1, h2]
      have HD := hid hd
      clear hz hall hd
      by_cases h0 : z = 0
      · subst h0
        go_wp2
        go_roundw
        case rel => exact ⟨k + 1, HLT.out, by go_num, fun y hy => by
          rw [List.take_add_one, HZ.out] at hy
          rcases List.mem_append.1 hy with hy | hy
          · exact HALL.out y hy
          · simpa using hy, hb⟩
        case measure => exact meas_k1 HLT.out
      · have h1 : (z == 0) = false := by rw [beq_eq_false_iff_ne]; exact h0
        go_wp2
        go_ret
        exact ⟨by rw [HO.out, HD.out, orI, if_neg h0]; rfl, hb⟩
    · obtain rfl : k = n := by omega
      have c1 : ¬ (k : Int) < k := by omega
      have h0 : orI zs = 0 := by rw [HO.out, List.drop_of_length_le (by rw [HN.out]; exact Nat.le_refl _)]; rfl
      go_wp2
      go_ret
      exact ⟨rfl, hb⟩

theorem gr_four (W : World) (a b c d : Int) : Rd (W.alloc (.cells #[.int .i64 a, .int .i64 b, .int .i64 c, .int .i64 d] 3)) (some ⟨W.heap.size, 0, none⟩) ([a, b, c, d].map fun z => .int .i64 z) := by
  refine .inr ⟨⟨W.heap.size, 0, none⟩, rfl, fun j v hj => ?_⟩
  have hk := Blk.new W 3 #[.int .i64 a, .int .i64 b, .int .i64 c, .int .i64 d]
  rw [Addr.add_lit, Nat.zero_add]
  refine hk.cell_ ?_
  simpa using hj
set_option maxRecDepth 100000 in
set_option maxHeartbeats 20000000 in
theorem gcmp_any (X Y : GrD) (hX : X.ok) (hY : Y.ok) (w : World) :
    Calls Tryz.prog 67 #[.agg X.cs, .agg Y.cs] w fun e w' => e = .returned (.int .i64 (cmpG X Y)) ∧ Below w.heap.size w w' := by
  obtain ⟨i0, hi, hz0, hz1, hz2⟩ := info_parts infoByte
  have h1 := (GrX.new w X).alloc (.cells Y.cs 70)
  have h2 := GrX.new (w.alloc (.cells X.cs 70)) Y
  rw [World.size_alloc] at h2
  have hb : Below w.heap.size w ((w.alloc (.cells X.cs 70)).alloc (.cells Y.cs 70)) := ((Below.refl _ _).alloc (Nat.le_refl _) _).alloc (by simp) _
  have hs := fun W g o => run_slice_whole (P := Tryz.prog) W 23 5 g o 32 i0 Tryz.underlying23 hi hz1 (by decide)
  go_enter Tryz.func67, Tryz.ntmps67
  go_wp2
  generalize (w.alloc (.cells X.cs 70)).alloc (.cells Y.cs 70) = W at *
  have hb2 := hb.trans ((below_drew10 W).mono hb.size)
  have x0 : W.drew.cell? ⟨w.heap.size, 0, none⟩ = some (.string (txt X.p)) := h1.c0
  have y0 : W.drew.cell? ⟨w.heap.size + 1, 0, none⟩ = some (.string (txt Y.p)) := h2.c0
  have x65 : W.drew.cell? ⟨w.heap.size, 65, none⟩ = some (.int .i64 X.d) := h1.c65 hX
  have y65 : W.drew.cell? ⟨w.heap.size + 1, 65, none⟩ = some (.int .i64 Y.d) := h2.c65 hY
  have xk : W.drew.rangeAt w.heap.size 1 (X.k.map u8v) := h1.key
  have yk : W.drew.rangeAt (w.heap.size + 1) 1 (Y.k.map u8v) := h2.key
  have xb : W.drew.rangeAt w.heap.size 33 (X.b.map u8v) := h1.by_ hX
  have yb : W.drew.rangeAt (w.heap.size + 1) 33 (Y.b.map u8v) := h2.by_ hY
  have q1 := gscmp_any X.p Y.p W.drew
  have q2 : Calls Tryz.prog 70 #[.slice (some ⟨w.heap.size, 1, none⟩) 32 32, .slice (some ⟨w.heap.size + 1, 1, none⟩) 32 32] W.drew fun e w' => e = .returned (.int .i64 (Lib.compareBytes X.k Y.k)) ∧ w' = W.drew := (bytesCompare_any W.drew _ _ 1 1 32 32 32 32 X.k Y.k hX.1 hY.1 xk yk).mono (by rintro _ _ ⟨h, rfl⟩; exact ⟨h, rfl⟩)
  have q3 : Calls Tryz.prog 70 #[.slice (some ⟨w.heap.size, 33, none⟩) 32 32, .slice (some ⟨w.heap.size + 1, 33, none⟩) 32 32] W.drew fun e w' => e = .returned (.int .i64 (Lib.compareBytes X.b Y.b)) ∧ w' = W.drew := (bytesCompare_any W.drew _ _ 33 33 32 32 32 32 X.b Y.b hX.2 hY.2 xb yb).mono (by rintro _ _ ⟨h, rfl⟩; exact ⟨h, rfl⟩)
  have q4 := gicmp_any X.d Y.d W.drew
  clear xk yk xb yb
  obtain ⟨za, hza⟩ : ∃ z, Lib.compareBytes X.p Y.p = z := ⟨_, rfl⟩
  obtain ⟨zb, hzb⟩ : ∃ z, Lib.compareBytes X.k Y.k = z := ⟨_, rfl⟩
  obtain ⟨zc, hzc⟩ : ∃ z, Lib.compareBytes X.b Y.b = z := ⟨_, rfl⟩
  obtain ⟨zd, hzd⟩ : ∃ z, Lib.compareInt X.d Y.d = z := ⟨_, rfl⟩
  rw [hza] at q1
  rw [hzb] at q2
  rw [hzc] at q3
  rw [hzd] at q4
  have HC := hid (show cmpG X Y = orI [za, zb, zc, zd] by unfold cmpG; rw [hza, hzb, hzc, hzd])
  clear hza hzb hzc hzd
  refine wp_tail_drewG 20 mixed10 (by kernel_rfl) ?_
  simp only [List.take_succ_cons, List.take_zero, List.drop_succ_cons, List.drop_zero]
  repeat (first | still_step | still_call q1 | still_call q2 | still_call q3 | still_call q4)
  refine wpStill_nil ?_
  have hal := (Below.refl W.drew.heap.size W.drew).alloc (Nat.le_refl _) (.cells #[.int .i64 za, .int .i64 zb, .int .i64 zc, .int .i64 zd] 3)
  have hrd := gr_four W.drew za zb zc zd
  go_wp2_with (fail)
  refine (gor_any _ 4 4 [za, zb, zc, zd] rfl (by decide) _ hrd).mono ?_
  rintro e1 w1 ⟨rfl, hb1⟩
  go_wp2
  go_ret
  exact ⟨by rw [HC.out]; rfl, hb2.trans ((hal.trans (hb1.mono hal.size)).mono hb2.size)⟩

end Go.Proofs.YtapgiagpjplpdaaGreat
/- grant: where a grant stands among others: slices.BinarySearchFunc. -/
set_option linter.unusedSimpArgs false
set_option linter.unusedVariables false
namespace Go.Proofs.YtapgiagpjplpdaaGreat
open Go.RowKit Go.Qc Go.Shelf
attribute [local go_sem] txt_size txt_append ib_fold txt_toL

theorem lo_at {Xs : List GrD} {Y X : GrD} {h : Nat} (hx : Xs[h]? = some X) (hz : cmpG X Y < 0) : ∀ k, h + 1 = k + 1 → ∃ X, Xs[k]? = some X ∧ cmpG X Y < 0 := fun k e => by
  obtain rfl : h = k := by omega
  exact ⟨X, hx, hz⟩
theorem wpQuiet_load_gr {ops : Array Oper} {C : World → Prop} {Q : Act → Prop} {rest : List Oper} {o : Oper} {a : Act} (hw : Region.wanted o (yielded ops a.tmps) = true) (x : Operand) (ho : o.op = .load 70 x)
    (b off : Nat) (hx : a.eval x = .pointer (some ⟨b, off, none⟩)) (X : GrD) (hc : ∀ w, C w → w.rangeAt b off X.cs.toList) (hK : X.ok)
    (h : wpQuiet Tryz.prog ops C Q rest (a.put o.dst (.agg X.cs))) : wpQuiet Tryz.prog ops C Q (o :: rest) a := by
  refine wpQuiet_load_if hw 70 x ho b off hx X.cs.toList _ hc Tryz.underlying70 rfl ?_ ?_
  · rw [Array.length_toList]; exact Gr_info X hK
  · rw [Array.toArray_toList]; exact h
theorem GrX.range {W : World} {g : Nat} {X : GrD} (h : GrX W g X) : W.rangeAt g 0 X.cs.toList := fun j v hj => by rw [Nat.zero_add]; exact h.b.cell_ (by rw [← Array.getElem?_toList]; exact hj)
/-- A place among grants: what stands ahead of it is less, what stands at it isn't. -/
structure PlG (Xs : List GrD) (Y : GrD) (p : Nat) : Prop where
  le : p ≤ Xs.length
  lo : ∀ k, p = k + 1 → ∃ X, Xs[k]? = some X ∧ cmpG X Y < 0
  hi : ∀ X, Xs[p]? = some X → ¬ cmpG X Y < 0
def cmpAt (Xs : List GrD) (Y : GrD) (h : Nat) : Int := match Xs[h]? with | some X => cmpG X Y | none => 0
def bsF (Xs : List GrD) (Y : GrD) : Nat → Nat → Nat → Nat
  | 0, p, _ => p
  | m + 1, p, q => if p < q then (if cmpAt Xs Y ((p + q) / 2) < 0 then bsF Xs Y m ((p + q) / 2 + 1) q else bsF Xs Y m p ((p + q) / 2)) else p
/-- The place that the search tells. -/
def plG (Xs : List GrD) (Y : GrD) : Nat := bsF Xs Y Xs.length 0 Xs.length
theorem bsF_same (Xs : List GrD) (Y : GrD) (p : Nat) : ∀ m, bsF Xs Y m p p = p
  | 0 => rfl
  | m + 1 => by rw [bsF, if_neg (Nat.lt_irrefl _)]
theorem bsF_ok (Xs : List GrD) (Y : GrD) : ∀ (m p q : Nat), q - p ≤ m → p ≤ q → q ≤ Xs.length → (∀ k, p = k + 1 → ∃ X, Xs[k]? = some X ∧ cmpG X Y < 0) → (∀ X, Xs[q]? = some X → ¬ cmpG X Y < 0) → PlG Xs Y (bsF Xs Y m p q)
  | 0, p, q, hm, hpq, hq, hlo, hhi => by
    obtain rfl : p = q := by omega
    exact ⟨hq, hlo, hhi⟩
  | m + 1, p, q, hm, hpq, hq, hlo, hhi => by
    rw [bsF]
    by_cases hlt : p < q
    · rw [if_pos hlt]
      obtain ⟨X, hx⟩ : ∃ X, Xs[(p + q) / 2]? = some X := ⟨_, List.getElem?_eq_getElem (by omega)⟩
      have hc : cmpAt Xs Y ((p + q) / 2) = cmpG X Y := by unfold cmpAt; rw [hx]
      rw [hc]
      by_cases hz : cmpG X Y < 0
      · rw [if_pos hz]
        exact bsF_ok Xs Y m _ q (by omega) (by omega) hq (lo_at hx hz) hhi
      · rw [if_neg hz]
        exact bsF_ok Xs Y m p _ (by omega) (by omega) (by omega) hlo (fun X' e => by rw [hx] at e; cases e; exact hz)
    · obtain rfl : p = q := by omega
      rw [if_neg hlt]
      exact ⟨hq, hlo, hhi⟩
theorem plG_ok (Xs : List GrD) (Y : GrD) : PlG Xs Y (plG Xs Y) := bsF_ok Xs Y _ _ _ (by omega) (by omega) (Nat.le_refl _) (fun k h => by omega) (fun X h => by have := (List.getElem?_eq_some_iff.1 h).1; omega)
theorem bsF_hi {Xs : List GrD} {Y X : GrD} {m p q h P : Nat} (hb : bsF Xs Y m p q = P) (hm : q - p ≤ m) (hlt : p < q) (hh : (p + q) / 2 = h) (hx : Xs[h]? = some X) (hz : cmpG X Y < 0) : ∃ m, q - (h + 1) ≤ m ∧ bsF Xs Y m (h + 1) q = P := by
  cases m with
  | zero => omega
  | succ m =>
    have hc : cmpAt Xs Y ((p + q) / 2) = cmpG X Y := by unfold cmpAt; rw [hh, hx]
    rw [bsF, if_pos hlt, hc, if_pos hz, hh] at hb
    exact ⟨m, by omega, hb⟩
theorem bsF_lo {Xs : List GrD} {Y X : GrD} {m p q h P : Nat} (hb : bsF Xs Y m p q = P) (hm : q - p ≤ m) (hlt : p < q) (hh : (p + q) / 2 = h) (hx : Xs[h]? = some X) (hz : ¬ cmpG X Y < 0) : ∃ m, h - p ≤ m ∧ bsF Xs Y m p h = P := by
  cases m with
  | zero => omega
  | succ m =>
    have hc : cmpAt Xs Y ((p + q) / 2) = cmpG X Y := by unfold cmpAt; rw [hh, hx]
    rw [bsF, if_pos hlt, hc, if_neg hz, hh] at hb
    exact ⟨m, by omega, hb⟩
def thereB (Xs : List GrD) (Y : GrD) (p : Nat) : Bool := match Xs[p]? with | some X => cmpG X Y == 0 | none => false

set_option maxRecDepth 100000 in
set_option maxHeartbeats 20000000 in
theorem gbs_any (A : Option Addr) (n c : Nat) (Xs : List GrD) (Y : GrD) (hY : Y.ok) (w : World) (hn : Xs.length = n) (bn : n ≤ 1000) (hr : GrRd w A Xs) :
    Calls Tryz.prog 66 #[.slice A n c, .agg Y.cs, .func (.func 67) #[] #[]] w fun e w' => e = .returned (.tuple #[.int .i64 (plG Xs Y : Nat), .bool (thereB Xs Y (plG Xs Y))]) ∧ Below w.heap.size w w' := by
  obtain ⟨PP, hPP⟩ : ∃ P, P = plG Xs Y := ⟨_, rfl⟩
  rw [← hPP]
  have HPP := hid (show bsF Xs Y n 0 n = PP by rw [hPP, ← hn]; rfl)
  clear hPP
  have hX : Below w.heap.size w (w.alloc (.cells Y.cs 70)) := (Below.refl _ w).alloc (Nat.le_refl _) _
  have hbx := (GrX.new w Y).range
  have hN := hid hn
  go_enter Tryz.func66, Tryz.ntmps66
  go_wp2_with (fail)
  generalize w.alloc (.cells Y.cs 70) = W0 at *
  go_loopw [9, 10] (fun i j wr => ∃ p q : Nat, i = .int .i64 p ∧ j = .int .i64 q ∧ p ≤ q ∧ q ≤ n ∧ Hid (∃ m, q - p ≤ m ∧ bsF Xs Y m p q = PP) ∧ Below W0.heap.size W0 wr) (fun i j _ => (intOf j).toNat - (intOf i).toNat)
  case atStart => exact ⟨0, n, rfl, rfl, by omega, by omega, hid ⟨n, by omega, HPP.out⟩, Below.refl _ _⟩
  case round =>
    obtain ⟨p, q, rfl, rfl, hpq, hq, HB, hb⟩ := hrel
    by_cases hlt : p < q
    · have b1 : (p : Int) < q := by omega
      obtain ⟨h, hh, h1, h2⟩ : ∃ h : Nat, ((p : Int) + (q : Int)) / 2 = (h : Int) ∧ p ≤ h ∧ h < q := ⟨(p + q) / 2, by omega, by omega, by omega⟩
      obtain ⟨X, hx⟩ : ∃ X, Xs[h]? = some X := ⟨_, List.getElem?_eq_getElem (by omega)⟩
      obtain ⟨g, oo, hg, hXo, hix⟩ := hr.pick c hN.out hx
      have fx := range_later ((hg.below hX).below hb)
      have fa := range_later (hbx.below hb)
      obtain ⟨z, hz⟩ : ∃ z, cmpG X Y = z := ⟨_, rfl⟩
      have HH := hid (show (p + q) / 2 = h by omega)
      have hord : ∀ W : World, Calls Tryz.prog 67 #[.agg X.cs, .agg Y.cs] W fun e w' => e = .returned (.int .i64 z) ∧ Below W.heap.size W w' := fun W => by rw [← hz]; exact gcmp_any X Y hXo hY W
      have HZ := hid hz
      have HX := hid hx
      clear hz hx hn hg
      go_wp2
      try simp only [hh]
      refine wp_region_later mixed10 (by kernel_rfl) ?_
      repeat (first
        | ((with_reducible refine wpQuiet_load_gr (by with_unfolding_all rfl) _ rfl _ _ rfl X fx hXo ?_); simp only [Act.put, List.setIfInBounds_toArray, List.set_cons_zero, List.set_cons_succ])
        | ((with_reducible refine wpQuiet_load_gr (by with_unfolding_all rfl) _ rfl _ _ rfl Y fa hY ?_); simp only [Act.put, List.setIfInBounds_toArray, List.set_cons_zero, List.set_cons_succ])
        | ((with_reducible refine wpQuiet_step (fun K hK => ?_)); go_simp; first | ((with_reducible refine hK _ ?_); clear hK K) | (with_reducible apply Exists.intro; (with_reducible refine ⟨fun P => ?_, hK _ ?_⟩); ((go_at_call 67; exact later_of (hord _))); clear hK K))
        | ((with_reducible refine BigFrame.wpQuiet_skip (by first | kernel_rfl | with_unfolding_all rfl) ?_); simp only [Act.put, List.setIfInBounds_toArray, List.set_cons_zero, List.set_cons_succ]))
      with_reducible refine wpQuiet_nil ?_
      intro _ hw9
      obtain ⟨P9, rfl⟩ := hw9
      have hp := P9.h
      generalize P9.w = wq at *
      replace hb := hb.trans (hp.mono hb.size)
      by_cases zz : z < 0
      · go_wp2
        go_roundw
        case rel => exact ⟨h + 1, q, by go_num, by first | rfl | trivial, by omega, hq, hid (by obtain ⟨m, hm, hbm⟩ := HB.out; exact bsF_hi hbm hm hlt HH.out HX.out (by rw [HZ.out]; exact zz)), hb⟩
        case measure => simp [intOf]; omega
      · go_wp2
        go_roundw
        case rel => exact ⟨p, h, by first | rfl | trivial, by first | rfl | trivial, h1, by omega, hid (by obtain ⟨m, hm, hbm⟩ := HB.out; exact bsF_lo hbm hm hlt HH.out HX.out (by rw [HZ.out]; exact Int.not_lt.2 (Int.not_lt.1 zz))), hb⟩
        case measure => simp [intOf]; omega
    · obtain rfl : p = q := by omega
      have b1 : ¬ (p : Int) < p := by omega
      have hPp : PP = p := by obtain ⟨m, _, hbm⟩ := HB.out; rw [bsF_same] at hbm; exact hbm.symm
      replace hPp := hPp.symm
      subst hPp
      by_cases hlt2 : p < n
      · have b2 : (p : Int) < n := by omega
        obtain ⟨X, hx⟩ : ∃ X, Xs[p]? = some X := ⟨_, List.getElem?_eq_getElem (by omega)⟩
        obtain ⟨g, oo, hg, hXo, hix⟩ := hr.pick c hN.out hx
        have fx := range_later ((hg.below hX).below hb)
        have fa := range_later (hbx.below hb)
        obtain ⟨z, hz⟩ : ∃ z, cmpG X Y = z := ⟨_, rfl⟩
        have hord : ∀ W : World, Calls Tryz.prog 67 #[.agg X.cs, .agg Y.cs] W fun e w' => e = .returned (.int .i64 z) ∧ Below W.heap.size W w' := fun W => by rw [← hz]; exact gcmp_any X Y hXo hY W
        have HT := hid (show thereB Xs Y p = (z == 0) by unfold thereB; rw [hx, ← hz])
        clear hz hx hn hg
        go_wp2
        refine wp_region_later mixed10 (by kernel_rfl) ?_
        repeat (first
          | ((with_reducible refine wpQuiet_load_gr (by with_unfolding_all rfl) _ rfl _ _ rfl X fx hXo ?_); simp only [Act.put, List.setIfInBounds_toArray, List.set_cons_zero, List.set_cons_succ])
          | ((with_reducible refine wpQuiet_load_gr (by with_unfolding_all rfl) _ rfl _ _ rfl Y fa hY ?_); simp only [Act.put, List.setIfInBounds_toArray, List.set_cons_zero, List.set_cons_succ])
          | ((with_reducible refine wpQuiet_step (fun K hK => ?_)); go_simp; first | ((with_reducible refine hK _ ?_); clear hK K) | (with_reducible apply Exists.intro; (with_reducible refine ⟨fun P => ?_, hK _ ?_⟩); ((go_at_call 67; exact later_of (hord _))); clear hK K))
          | ((with_reducible refine BigFrame.wpQuiet_skip (by first | kernel_rfl | with_unfolding_all rfl) ?_); simp only [Act.put, List.setIfInBounds_toArray, List.set_cons_zero, List.set_cons_succ]))
        with_reducible refine wpQuiet_nil ?_
        intro _ hw9
        obtain ⟨P9, rfl⟩ := hw9
        have hp := P9.h
        generalize P9.w = wq at *
        replace hb := hb.trans (hp.mono hb.size)
        go_wp2
        go_ret2
        exact ⟨by rw [HT.out]; rfl, hX.trans (hb.mono hX.size)⟩
      · obtain rfl : p = n := by omega
        have HT := hid (show thereB Xs Y p = false by unfold thereB; rw [List.getElem?_eq_none (by rw [hN.out]; exact Nat.le_refl _)])
        have b2 : ¬ (p : Int) < p := by omega
        clear hn
        go_wp2
        refine wp_region_later mixed10 (by kernel_rfl) ?_
        repeat (first
          | ((with_reducible refine wpQuiet_step (fun K hK => ?_)); go_simp; first | ((with_reducible refine hK _ ?_); clear hK K) | (with_reducible apply Exists.intro; (with_reducible refine ⟨fun P => ?_, hK _ ?_⟩); ((fail)); clear hK K))
          | ((with_reducible refine BigFrame.wpQuiet_skip (by first | kernel_rfl | with_unfolding_all rfl) ?_); simp only [Act.put, List.setIfInBounds_toArray, List.set_cons_zero, List.set_cons_succ]))
        with_reducible refine wpQuiet_nil ?_
        intro _ hw9
        obtain ⟨P9, rfl⟩ := hw9
        have hp := P9.h
        generalize P9.w = wq at *
        replace hb := hb.trans (hp.mono hb.size)
        go_wp2
        go_ret2
        exact ⟨by rw [HT.out]; rfl, hX.trans (hb.mono hX.size)⟩

end Go.Proofs.YtapgiagpjplpdaaGreat
/- grant: slices.Grow, slices.Concat at grants; granted. -/
set_option linter.unusedSimpArgs false
set_option linter.unusedVariables false
namespace Go.Proofs.YtapgiagpjplpdaaGreat
open Go.RowKit Go.Qc Go.Shelf
attribute [local go_sem] txt_size txt_append ib_fold txt_toL

def laysGr84_ren : Go.Shelf.Ren := ⟨fun | 4 => 87 | n => n, fun | 22 => 46 | 25 => 70 | 3 => 3 | 4 => 4 | 9 => 9 | 20 => 20 | 0 => 0 | n => n, fun | n => n⟩
theorem laysGr84 : Go.Proofs.Lays8.n4 Tryz.prog laysGr84_ren := {
  mixed := by kernel_rfl
  f4 := ⟨Tryz.f87.name, by decide, Tryz.func87.trans (congrArg some (by kernel_rfl))⟩
  t0 := Tryz.underlying0
  a0 := Tryz.isAgg0
  z0 := Tryz.sizeOf0
  v0 := Tryz.zeroValue0
  t3 := Tryz.underlying3
  a3 := Tryz.isAgg3
  z3 := Tryz.sizeOf3
  v3 := Tryz.zeroValue3
  t4 := Tryz.underlying4
  a4 := Tryz.isAgg4
  z4 := Tryz.sizeOf4
  v4 := Tryz.zeroValue4
  t9 := Tryz.underlying9
  a9 := Tryz.isAgg9
  z9 := Tryz.sizeOf9
  v9 := Tryz.zeroValue9
  t20 := Tryz.underlying20
  a20 := Tryz.isAgg20
  z20 := Tryz.sizeOf20
  v20 := Tryz.zeroValue20
  t22 := Tryz.underlying46
  a22 := Tryz.isAgg46
  z22 := Tryz.sizeOf46
  v22 := Tryz.zeroValue46 }

theorem ggrow_any (k : Nat) (hk : k ≤ 1000) (w : World) :
    Calls Tryz.prog 87 #[.slice none 0 0, .int .i64 k] w fun e w' => ∃ v, e = .returned v ∧ GrOw w' w.heap.size v 0 [] ∧ Below w.heap.size w w' := by
  by_cases h0 : k = 0
  · subst h0
    exact (Any8.slices_Grow_room laysGr84 none 0 0 0 w (Nat.le_refl _) (by decide) (by decide) (Nat.le_refl _)).mono (by rintro e w' ⟨rfl, rfl⟩; exact ⟨_, rfl, GrOw.none_ _ _, Below.refl _ _⟩)
  · obtain ⟨i0, Z, hi, hz, hs, hZ, hb⟩ := Gr_info4
    refine (Any8.slices_Grow_grow laysGr84 i0 (.agg Z) hi hz (by omega) none 0 0 k [] w (Nat.le_refl _) (by omega) (Nat.le_trans (Nat.mul_le_mul (show 0 + k ≤ 1000 by omega) hb) (by decide)) (by omega) (by simp) (fun _ => rfl) (fun a h => by cases h)).mono ?_
    rintro e w' ⟨rfl, rfl⟩
    refine ⟨_, rfl, ?_, (below_drew10 w).trans ((Below.refl w.heap.size w.drew).alloc (Nat.le_refl _) _)⟩
    have h1 := grownCap_ge w (0 + k) 0 (laysGr84_ren.t 25)
    have h2 := grownCap_le_maxLen w (0 + k) 0 (laysGr84_ren.t 25) (by unfold maxLen; omega)
    generalize grownCap w (0 + k) 0 (laysGr84_ren.t 25) = G at *
    refine World.ownsRow_made w.drew _ _ (Nat.le_refl _) h2 ?_
    simp only [Array.size_append, size_zeroCells, Value.cells, List.size_toArray, List.length_nil]
    rw [hZ]
    simp
    omega
/-- A slice that reads as a row of grants. -/
def GSl (w : World) (v : Value) (r : List GrD) : Prop := ∃ A n c, v = .slice A n c ∧ r.length = n ∧ (A = none → n = 0 ∧ c = 0) ∧ GrRd w A r
theorem GSl.below {w w' : World} {v : Value} {r : List GrD} (h : GSl w v r) (hb : Below w.heap.size w w') : GSl w' v r := by
  obtain ⟨A, n, c, rfl, h1, h0, h2⟩ := h
  exact ⟨A, n, c, rfl, h1, h0, h2.below hb⟩
theorem gsnoc {α : Type} {l : List α} {k : Nat} {x : α} (h : l[k]? = some x) : l.take (k + 1) = l.take k ++ [x] := by rw [List.take_add_one, h]; rfl

set_option maxRecDepth 100000 in
set_option maxHeartbeats 20000000 in
theorem gconcat_any (ad : Addr) (N cc : Nat) (ss : List (Value × List GrD)) (hN : ss.length = N) (bN : N ≤ 10) (hall : (ss.flatMap (·.2)).length ≤ 1000) (w : World)
    (hc : ∀ W, Below w.heap.size w W → ∀ j x, ss[j]? = some x → W.cell? (ad.add j) = some x.1 ∧ GSl W x.1 x.2) :
    Calls Tryz.prog 72 #[.slice (some ad) N cc] w fun e w' => ∃ v, e = .returned v ∧ GrOw w' w.heap.size v (ss.flatMap (·.2)).length (ss.flatMap (·.2)) ∧ Below w.heap.size w w' := by
  have hsum : ∀ k, ((ss.take k).flatMap (·.2)).length ≤ 1000 := fun k => by
    have e : ss.flatMap (·.2) = (ss.take k).flatMap (·.2) ++ (ss.drop k).flatMap (·.2) := by rw [← List.flatMap_append, List.take_append_drop]
    rw [e, List.length_append] at hall
    omega
  have hB0 := Below.refl w.heap.size w
  obtain ⟨R, hR⟩ : ∃ R, R = ss.flatMap (·.2) := ⟨_, rfl⟩
  rw [← hR]
  have HR := hid hR
  clear hR hall
  have HC := hid hc
  have HSUM := hid hsum
  clear hc hsum
  go_enter Tryz.func72, Tryz.ntmps72
  go_wp2
  go_loopw [3, 11] (fun z i wr => ∃ (k S : Nat), k ≤ N ∧ i = .int .i64 k ∧ z = .int .i64 S ∧ S = ((ss.take k).flatMap (·.2)).length ∧ w = wr) (fun _ i _ => N - (intOf i).toNat)
  case atStart => exact ⟨0, 0, by omega, rfl, rfl, by simp, by first | rfl | trivial⟩
  case round =>
    obtain ⟨k, S, hk, rfl, rfl, hT, rfl⟩ := hrel
    have hTb : S ≤ 1000 := by have := HSUM.out k; omega
    have HT := hid hT
    clear hT
    by_cases hlt : k < N
    · obtain ⟨x, hx⟩ : ∃ x, ss[k]? = some x := ⟨_, List.getElem?_eq_getElem (by omega)⟩
      obtain ⟨hcell, A, n, c, hv, hn, _, _⟩ := HC.out w hB0 k x hx
      have hxl : n ≤ 1000 := by
        have := HSUM.out (k + 1)
        rw [gsnoc hx, List.flatMap_append, List.length_append] at this
        have e : (([x] : List (Value × List GrD)).flatMap (·.2)).length = n := by simp [hn]
        rw [e] at this
        omega
      rw [hv] at hcell
      have HX := hid hx
      have b1 : (k : Int) < N := by omega
      have b2 : ¬ ((S : Int) + n) < 0 := by omega
      have hw : wrap64 ((S : Int) + n) = (S : Int) + n := by unfold wrap64; omega
      clear hx
      go_wp2
      go_roundw
      case rel =>
        refine ⟨k + 1, S + n, hlt, by go_num, by go_num, ?_, by first | rfl | trivial⟩
        rw [gsnoc HX.out, List.flatMap_append, List.length_append, HT.out, ← hn]
        simp
      case measure => simp [intOf]; omega
    · obtain rfl : N = k := by omega
      have b1 : ¬ (N : Int) < N := by omega
      clear HT
      go_wp2_with (go_at_call 87; (with_reducible refine (ggrow_any S (by omega) _).mono ?_); rintro e1 w1 ⟨v, rfl, hown, hB⟩)
      go_loopw [6, 27] (fun v i wr => ∃ (k : Nat), k ≤ N ∧ i = .int .i64 k ∧ GrOw wr w.heap.size v ((ss.take k).flatMap (·.2)).length ((ss.take k).flatMap (·.2)) ∧ Below w.heap.size w wr) (fun _ i _ => N - (intOf i).toNat)
      case atStart => exact ⟨0, by omega, rfl, by simpa using hown, hB⟩
      case round =>
        clear hown hB
        obtain ⟨k, hk, rfl, hown, hB⟩ := hrel
        have hwz := hB.size
        have hlen := HSUM.out k
        have hlen2 := HSUM.out (k + 1)
        obtain ⟨Q, hQ⟩ : ∃ Q, Q = (ss.take k).flatMap (·.2) := ⟨_, rfl⟩
        rw [← hQ] at hown hlen
        have HQ := hid hQ
        clear hQ
        by_cases hlt : k < N
        · obtain ⟨x, hx⟩ : ∃ x, ss[k]? = some x := ⟨_, List.getElem?_eq_getElem (by omega)⟩
          obtain ⟨hcell, A, n, c, hv, hn, hz, hrd⟩ := HC.out wr hB k x hx
          rw [hv] at hcell
          have HX := hid hx
          have b1 : (k : Int) < N := by omega
          have hstep : (ss.take (k + 1)).flatMap (·.2) = Q ++ x.2 := by
            rw [gsnoc hx, List.flatMap_append, HQ.out]; simp
          rw [hstep, List.length_append, hn] at hlen2
          have HS := hid hstep
          clear hstep hx
          go_wp2_with (at_builtin; refine wpList_append_gr rfl _ _ rfl w.heap.size _ _ Q rfl hown A n c x.2 rfl hn hz hrd hlen2 hwz ?_; intro v8 w8 hown8 hg8)
          have hB8 : Below w.heap.size w w8 := hB.grown hg8 hwz (fun q hq => (hown.lt q hq).1)
          go_roundw
          case rel =>
            refine ⟨k + 1, hlt, by go_num, ?_, hB8⟩
            rw [HS.out, List.length_append, hn]
            exact hown8
          case measure => simp [intOf]; omega
        · obtain rfl : k = N := by omega
          have b1 : ¬ (k : Int) < k := by omega
          have hQR : Q = R := by rw [HQ.out, HR.out, List.take_of_length_le (by omega)]
          subst hQR
          clear hlen
          go_wp2
          go_ret
          exact ⟨_, rfl, hown, hB⟩

end Go.Proofs.YtapgiagpjplpdaaGreat

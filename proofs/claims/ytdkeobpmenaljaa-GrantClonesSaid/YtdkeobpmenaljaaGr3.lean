
/- grant: without, revoked. -/
import Derived.Test.YtdkeobpmenaljaaGr2
set_option linter.unusedSimpArgs false
set_option linter.unusedVariables false
namespace Go.Proofs.Ytdkeobpmenaljaa
open Go.RowKit Go.Qc Go.Shelf
attribute [local go_sem] txt_size txt_append ib_fold txt_toL
theorem gr_cell {w W : World} (hb : Below w.heap.size w W) {p : Addr} {u : Value} (h : w.cell? p = some u) : W.cell? p = some u := (hb.cell (World.block_lt_of_cell? w p h)).trans h

set_option maxRecDepth 100000 in
set_option maxHeartbeats 20000000 in
theorem gwithout_any (fn : FuncId) (hfn : ∀ args W, (callFunc fn args).run Try.prog W = .ok (.enter fn args) W) (cap : Array Value) (goes : GrD → Bool) (A : Option Addr) (n c : Nat) (Xs : List GrD) (w : World) (hn : Xs.length = n) (bn : n ≤ 1000) (hA : A = none → n = 0 ∧ c = 0) (hr : GrRd w A Xs)
    (cF : ∀ X ∈ Xs, ∀ W, Below w.heap.size w W → Calls Try.prog fn (#[.agg X.cs] ++ cap) W fun e w' => e = .returned (.bool (goes X)) ∧ Below W.heap.size W w') :
    Calls Try.prog 136 #[.slice A n c, .func (.func fn) #[] cap] w fun e w' => ∃ v, e = .returned v ∧ GrOw w' w.heap.size v (Xs.filter (fun X => !goes X)).length (Xs.filter (fun X => !goes X)) ∧ Below w.heap.size w w' := by
  have cC := gclone_any A n c Xs w hn bn hA hr
  have hK := hr.1
  go_enter Try.func136, Try.ntmps136
  go_wp2_with (fail)
  refine cC.mono ?_
  rintro e1 w1 ⟨v, rfl, hown, hb1⟩
  have cD := gdel_any fn hfn cap goes w.heap.size w v n Xs w1 hK bn hown hb1 hb1.size cF
  go_wp2_with (fail)
  refine cD.mono ?_
  rintro e2 w2 ⟨v2, rfl, hown2, hb2⟩
  go_wp2_with (fail)
  go_ret
  exact ⟨_, rfl, hown2, hb2⟩

set_option maxRecDepth 100000 in
set_option maxHeartbeats 20000000 in
theorem grev1_any (D : OpD) (hK : D.K.length = 32) (A : Option Addr) (n c : Nat) (B : Option Addr) (m d : Nat) (X : GrD) (hX : X.ok) (gb : Nat) (w : World) (ho : OpX w gb D A n c B m d) :
    Calls Try.prog 137 #[.agg X.cs, .pointer (some ⟨gb, 0, none⟩)] w fun e w' => e = .returned (.bool (decide (X.k = D.K) && covB D.p X.p)) ∧ Below w.heap.size w w' := by
  have hnw := GrX.new w X
  have hba := (Below.refl w.heap.size w).alloc (Nat.le_refl _) (.cells X.cs 113)
  have ho2 := ho.below hba
  have hu := Try.underlying23
  have hzx : (Try.prog.info? 23).map (·.size) = some (X.k.map u8v).length := by rw [List.length_map, hX.1]; exact sizeId
  have hzd : (Try.prog.info? 23).map (·.size) = some (D.K.map u8v).length := by rw [List.length_map, hK]; exact sizeId
  have fx := hnw.key
  have fd := ho2.key
  have c0 := hnw.c0
  have d1 := ho2.c1
  obtain ⟨t, hte⟩ : ∃ t, decide (X.k = D.K) = t := ⟨_, rfl⟩
  obtain ⟨cv, hcv⟩ : ∃ cv, covB D.p X.p = cv := ⟨_, rfl⟩
  have heq : ∀ W, (Op.equalIn 10000 23 (.agg (List.map u8v X.k).toArray) (.agg (List.map u8v D.K).toArray)).run Try.prog W = .ok t W := fun W => (ids_eq W X.k D.K hX.1 hK).trans (by rw [hte])
  have cC := fun W => gcov_any D.p X.p W
  rw [hcv] at cC
  rw [hte, hcv]
  clear hte hcv ho hnw ho2
  go_enter Try.func137, Try.ntmps137
  cases t with
  | false =>
    go_wp2_with (first | (with_reducible refine wpList_load_if (by with_unfolding_all rfl) 23 _ rfl _ _ rfl (X.k.map u8v) _ fx hu rfl hzx ?_) | (with_reducible refine wpList_load_if (by with_unfolding_all rfl) 23 _ rfl _ _ rfl (D.K.map u8v) _ fd hu rfl hzd ?_) | (go_at_call 135; (with_reducible refine (cC _).mono ?_); rintro e3 w3 ⟨rfl, rfl⟩))
    go_ret
    exact ⟨rfl, hba⟩
  | true =>
    go_wp2_with (first | (with_reducible refine wpList_load_if (by with_unfolding_all rfl) 23 _ rfl _ _ rfl (X.k.map u8v) _ fx hu rfl hzx ?_) | (with_reducible refine wpList_load_if (by with_unfolding_all rfl) 23 _ rfl _ _ rfl (D.K.map u8v) _ fd hu rfl hzd ?_) | (go_at_call 135; (with_reducible refine (cC _).mono ?_); rintro e3 w3 ⟨rfl, rfl⟩))
    go_ret
    exact ⟨rfl, hba⟩

set_option maxRecDepth 100000 in
set_option maxHeartbeats 20000000 in
theorem grev2_any (root : List UInt8) (hR : root.length = 32) (tb pt pl : Nat) (V : Value) (L : Option Addr) (k cl : Nat) (Ls : List GrD) (hl : Ls.length = k) (bk : k ≤ 1000) (X : GrD) (hX : X.ok) (w : World) (ht : TbX w tb root V) (hp : w.cell? ⟨pt, 0, none⟩ = some (.pointer (some ⟨tb, 0, none⟩))) (hq : w.cell? ⟨pl, 0, none⟩ = some (.slice L k cl)) (hr : GrRd w L Ls) :
    Calls Try.prog 138 #[.agg X.cs, .pointer (some ⟨pt, 0, none⟩), .pointer (some ⟨pl, 0, none⟩)] w fun e w' => e = .returned (.bool (decide (depV root Ls X.b X.p ≤ X.d))) ∧ Below w.heap.size w w' := by
  have hnw := GrX.new w X
  have hba := (Below.refl w.heap.size w).alloc (Nat.le_refl _) (.cells X.cs 113)
  have ht2 := ht.below hba
  have hu := Try.underlying23
  have hzb : (Try.prog.info? 23).map (·.size) = some (X.b.map u8v).length := by rw [List.length_map, hX.2]; exact sizeId
  have hr2 := hr.below hba
  have hp2 := gr_cell hba hp
  have hq2 := gr_cell hba hq
  obtain ⟨z, hz⟩ : ∃ z, depV root Ls X.b X.p = z := ⟨_, rfl⟩
  rw [hz]
  have hsz := hba.size
  clear hp hq ht hr
  go_enter Try.func138, Try.ntmps138
  go_wp2
  generalize w.alloc (.cells X.cs 113) = w0 at *
  have f1 : ∀ P : LaterW w0, P.w.cell? ⟨pt, 0, none⟩ = some (.pointer (some ⟨tb, 0, none⟩)) := fun P => gr_cell P.h hp2
  have f2 : ∀ P : LaterW w0, P.w.cell? ⟨pl, 0, none⟩ = some (.slice L k cl) := fun P => gr_cell P.h hq2
  have f3 : ∀ P : LaterW w0, P.w.cell? ⟨w.heap.size, 0, none⟩ = some (.string (txt X.p)) := fun P => (hnw.below P.h).c0
  have f4 : ∀ P : LaterW w0, P.w.cell? ⟨w.heap.size, 65, none⟩ = some (.int .i64 X.d) := fun P => (hnw.below P.h).c65 hX
  have f5 := range_later (hnw.by_ hX)
  have cD := fun P : LaterW w0 => gdepth_any tb root hR V L k cl Ls hl bk X.b hX.2 X.p P.w (ht2.below P.h) (hr2.below P.h)
  rw [hz] at cD
  unfold idVals at cD
  refine wp_region_later mixed10 (by kernel_rfl) ?_
  repeat (first
    | ((with_reducible refine wpQuiet_load_if (by with_unfolding_all rfl) 23 _ rfl _ _ rfl (X.b.map u8v) _ f5 hu (by with_unfolding_all rfl) hzb ?_); simp only [Act.put, List.setIfInBounds_toArray, List.set_cons_zero, List.set_cons_succ])
    | ((with_reducible refine wpQuiet_step (fun K hK => ?_)); go_simp; first | ((with_reducible refine hK _ ?_); clear hK K) | (with_reducible apply Exists.intro; (with_reducible refine ⟨fun P => ?_, hK _ ?_⟩); ((go_at_call 102; exact later_of (cD P))); clear hK K))
    | ((with_reducible refine BigFrame.wpQuiet_skip (by first | kernel_rfl | with_unfolding_all rfl) ?_); simp only [Act.put, List.setIfInBounds_toArray, List.set_cons_zero, List.set_cons_succ]))
  with_reducible refine wpQuiet_nil ?_
  intro _ hw9
  obtain ⟨P9, rfl⟩ := hw9
  have hb9 := hba.trans (P9.h.mono hsz)
  generalize P9.w = w1 at *
  go_wp2
  go_ret
  exact ⟨rfl, hb9⟩

/-- One walk: only those that are held; again and again. -/
def heldB (root : List UInt8) (Ls : List GrD) (X : GrD) : Bool := !decide (depV root Ls X.b X.p ≤ X.d)
def holdG (root : List UInt8) (Ls : List GrD) : List GrD := Ls.filter (heldB root Ls)
def iterH (root : List UInt8) : Nat → List GrD → List GrD
  | 0, l => l
  | m + 1, l => iterH root m (holdG root l)
theorem iterH_snoc (root : List UInt8) : ∀ (m : Nat) (l : List GrD), iterH root (m + 1) l = holdG root (iterH root m l)
  | 0, l => rfl
  | m + 1, l => iterH_snoc root m (holdG root l)
theorem holdG_len (root : List UInt8) (l : List GrD) : (holdG root l).length ≤ l.length := List.length_filter_le _ _
theorem holdG_fix {root : List UInt8} {l : List GrD} (h : (holdG root l).length = l.length) : holdG root l = l := List.filter_eq_self.2 (List.length_filter_eq_length_iff.1 h)
theorem iterH_fix {root : List UInt8} {l : List GrD} (h : holdG root l = l) : ∀ m, iterH root m l = l
  | 0 => rfl
  | m + 1 => by rw [iterH, h]; exact iterH_fix h m
theorem iterH_add (root : List UInt8) : ∀ (m k : Nat) (l : List GrD), iterH root (m + k) l = iterH root k (iterH root m l)
  | 0, k, l => by rw [Nat.zero_add]; rfl
  | m + 1, k, l => by rw [Nat.succ_add]; exact iterH_add root m k (holdG root l)
theorem iterH_stop {root : List UInt8} {l : List GrD} {m N : Nat} (h : (holdG root (iterH root m l)).length = (iterH root m l).length) (hm : m ≤ N) : iterH root N l = iterH root m l := by
  obtain ⟨k, rfl⟩ : ∃ k, N = m + k := ⟨N - m, by omega⟩
  rw [iterH_add]
  exact iterH_fix (holdG_fix h) k
/-- Those that a Revoke leaves ahead of the walks. -/
def leftG (K p : List UInt8) (Xs : List GrD) : List GrD := Xs.filter (fun X => !(decide (X.k = K) && covB p X.p))

theorem hfn1 : ∀ args W, (callFunc 137 args).run Try.prog W = .ok (.enter 137 args) W := fun args W => by
  have h1 : decide (Try.f137.name = "runtime.NumGoroutine") = false := by kernel_rfl
  have h2 : Try.f137.body.isNone = false := by kernel_rfl
  have h1' := of_decide_eq_false h1
  have h2' : ¬ Try.f137.body = none := fun e => by rw [e] at h2; cases h2
  simp [callFunc, Try.func137, h1', h2']
theorem hfn2 : ∀ args W, (callFunc 138 args).run Try.prog W = .ok (.enter 138 args) W := fun args W => by
  have h1 : decide (Try.f138.name = "runtime.NumGoroutine") = false := by kernel_rfl
  have h2 : Try.f138.body.isNone = false := by kernel_rfl
  have h1' := of_decide_eq_false h1
  have h2' : ¬ Try.f138.body = none := fun e => by rw [e] at h2; cases h2
  simp [callFunc, Try.func138, h1', h2']
theorem gr_own_blk {W W' : World} {base n p : Nat} {t : TypeId} {v : Value} {Xs : List GrD} {cs : Array Value} (h : GrOw W base v n Xs) (hk : Blk W p t cs) (hne : 113 ≠ t) (hg : W.grownBy W' (some p)) : GrOw W' base v n Xs := by
  refine World.ownsRow.kept h hg ?_
  rcases h.2 with ⟨rfl, _⟩ | ⟨g, cap, cur, rfl, _, hb, _⟩
  · exact .inl rfl
  · refine .inr (fun e' => ?_)
    simp only [Value.ownBlock, Option.some.injEq] at e'
    subst e'
    unfold Blk at hk
    rw [hk] at hb
    cases hb
    exact hne rfl
theorem gb_setG (w : World) (p : Addr) (u : Value) : w.grownBy (w.setCell p u) (some p.block) :=
  ⟨rfl, rfl, rfl, by simp [World.setCell], fun k _ hne => Below.heap_setCell _ _ _ _ (fun e => hne (by rw [e]))⟩
/-- What stands when so many walks are done. -/
structure RvI (w : World) (base pl tb : Nat) (root : List UInt8) (VT : Value) (L0 : List GrD) (v : Value) (m : Nat) (Ls : List GrD) (wr : World) : Prop where
  own : GrOw wr base v Ls.length Ls
  ok : ∀ X ∈ Ls, X.ok
  eq : Ls = iterH root m L0
  le : m + Ls.length ≤ L0.length
  box : Blk wr pl 44 #[v]
  tbx : TbX wr tb root VT
  ptr : wr.cell? ⟨w.heap.size, 0, none⟩ = some (.pointer (some ⟨tb, 0, none⟩))
  low : Below w.heap.size w wr
/-- What revoked answers. -/
def RvQ (N : Nat) (root : List UInt8) (L0 : List GrD) (base : Nat) (e : Ending) (w' : World) : Prop := (L0.length = N ∧ e = .returned (.tuple #[.slice none 0 0, .int .i64 6])) ∨ (L0.length ≠ N ∧ ∃ v, e = .returned (.tuple #[v, .int .i64 0]) ∧ GrOw w' base v (iterH root N L0).length (iterH root N L0))
def lenAt (W : World) (p : Nat) : Nat := match W.cell? ⟨p, 0, none⟩ with | some (.slice _ n _) => n | _ => 0

set_option maxRecDepth 100000 in
set_option maxHeartbeats 20000000 in
theorem grevoked_any (D : OpD) (hK : D.K.length = 32) (A : Option Addr) (n c : Nat) (B : Option Addr) (m d : Nat) (root : List UInt8) (hR : root.length = 32) (tb : Nat) (AG : Option Addr) (N C : Nat) (Xs : List GrD) (hn : Xs.length = N) (bn : N ≤ 1000) (hA : AG = none → N = 0 ∧ C = 0) (w : World) (ht : TbX w tb root (.slice AG N C)) (hr : GrRd w AG Xs) :
    Calls Try.prog 103 #[.pointer (some ⟨tb, 0, none⟩), .agg (opC D A n c B m d)] w fun e w' => RvQ N root (leftG D.K D.p Xs) w.heap.size e w' ∧ Below w.heap.size w w' := by
  have hk0 := Blk.new w 26 #[.pointer (some ⟨tb, 0, none⟩)]
  have hba := (Below.refl w.heap.size w).alloc (Nat.le_refl _) (.cells #[.pointer (some ⟨tb, 0, none⟩)] 26)
  have hbo := hba.alloc hba.size (.cells (opC D A n c B m d) 33)
  have hox := OpX.new (w.alloc (.cells #[.pointer (some ⟨tb, 0, none⟩)] 26)) D A n c B m d
  have hk1 := hk0.alloc (.cells (opC D A n c B m d) 33)
  rw [World.size_alloc] at hox
  have hs1 : ((w.alloc (.cells #[.pointer (some ⟨tb, 0, none⟩)] 26)).alloc (.cells (opC D A n c B m d) 33)).heap.size = w.heap.size + 2 := by rw [World.size_alloc, World.size_alloc]
  have ht2 := ht.below hbo
  have hr2 := hr.below hbo
  have htb := ht.b.lt
  have x32 := ht2.row hR
  have xp := hk1.cell_ (i := 0) rfl
  have hK0 := hr.1
  have hL0 : (leftG D.K D.p Xs).length ≤ N := by rw [← hn]; exact List.length_filter_le _ _
  have hLK : ∀ X ∈ leftG D.K D.p Xs, X.ok := fun X hX => hK0 X (List.mem_filter.1 hX).1
  generalize hGL : leftG D.K D.p Xs = L0 at *
  have HGL := hid hGL
  clear hk0 hba ht hr hGL
  go_enter Try.func103, Try.ntmps103
  go_wp2_with (fail)
  generalize (w.alloc (.cells #[.pointer (some ⟨tb, 0, none⟩)] 26)).alloc (.cells (opC D A n c B m d) 33) = w1 at *
  have cW := gwithout_any 137 hfn1 #[.pointer (some ⟨w.heap.size + 1, 0, none⟩)] (fun X => decide (X.k = D.K) && covB D.p X.p) AG N C Xs w1 hn bn hA hr2 (fun X hX W hW => grev1_any D hK A n c B m d X (hK0 X hX) (w.heap.size + 1) W (hox.below hW))
  refine cW.mono ?_
  rintro e2 w2 ⟨v, rfl, hown, hb2⟩
  have hL : leftG D.K D.p Xs = Xs.filter (fun X => !(decide (X.k = D.K) && covB D.p X.p)) := rfl
  rw [← hL, HGL.out] at hown
  obtain ⟨A1, c1, rfl, _, _, hA1, _⟩ := hown.rd hLK
  have hb12 := hbo.trans (hb2.mono hbo.size)
  have hal := (Below.refl w2.heap.size w2).alloc (Nat.le_refl _) (.cells #[.slice A1 L0.length c1] 44)
  have hpl := Blk.new w2 44 #[.slice A1 L0.length c1]
  have hI := hid (show RvI w w1.heap.size w2.heap.size tb root (.slice AG N C) L0 (.slice A1 L0.length c1) 0 L0 (w2.alloc (.cells #[.slice A1 L0.length c1] 44)) from ⟨hown.below hal, hLK, rfl, by omega, hpl, (ht2.below hb2).below hal, gr_cell hal (gr_cell hb2 xp), hb12.trans (hal.mono hb12.size)⟩)
  have y0 := hI.out.ptr
  have y1 := hI.out.tbx.row hR
  have y2 := hpl.cell_ (i := 0) rfl
  have hs2 : w.heap.size + 2 ≤ w2.heap.size := by have := hb2.size; omega
  have hs3 : w.heap.size ≤ w1.heap.size := hbo.size
  have hs4 : w1.heap.size ≤ w2.heap.size := hb2.size
  have HN := hid hn
  clear cW hown hb2 hbo hal hr2 ht2 hox hk1 x32 xp hL hpl hn
  go_wp2_with (fail)
  generalize w2.alloc (.cells #[.slice A1 L0.length c1] 44) = w3 at *
  refine wp_region_quiet_lit mixed10 (by kernel_rfl) ?_
  repeat (first
    | ((with_reducible refine wpQuiet_step (fun K hK => ?_)); go_simp; first | ((with_reducible refine hK _ ?_); clear hK K))
    | ((with_reducible refine BigFrame.wpQuiet_skip (by first | kernel_rfl | with_unfolding_all rfl) ?_); simp only [Act.put, List.setIfInBounds_toArray, List.set_cons_zero, List.set_cons_succ]))
  with_reducible refine wpQuiet_nil ?_
  intro _ hw9
  obtain ⟨nq, rfl⟩ := hw9
  replace hI := hid (show RvI w w1.heap.size w2.heap.size tb root (.slice AG N C) L0 (.slice A1 L0.length c1) 0 L0 (w3.drewN nq) from ⟨hI.out.own, hI.out.ok, hI.out.eq, hI.out.le, hI.out.box, ⟨hI.out.tbx.b⟩, hI.out.ptr, below_drewN hI.out.low nq⟩)
  generalize w3.drewN nq = w4 at *
  clear y0 y1 y2
  by_cases hlen : L0.length = N
  · have z1 : (L0.length : Int) = N := by omega
    go_wp2_with (fail)
    go_ret2
    exact ⟨.inl ⟨hlen, rfl⟩, hI.out.low⟩
  · have z1 : ¬ (L0.length : Int) = N := by omega
    have z2 : ((L0.length : Int) == (N : Int)) = false := by rw [beq_eq_false_iff_ne]; exact z1
    go_wp2_with (fail)
    rw [z2]
    go_loopw [] (fun wr => ∃ (mm : Nat) (Ls : List GrD) (v : Value), Hid (RvI w w1.heap.size w2.heap.size tb root (.slice AG N C) L0 v mm Ls wr)) (fun wr => lenAt wr w2.heap.size)
    case atStart => exact ⟨0, L0, _, hI⟩
    case round =>
      clear hI
      obtain ⟨mm, Ls, v, HI⟩ := hrel
      obtain ⟨A2, c2, rfl, _, _, hA2, hr2⟩ := HI.out.own.rd HI.out.ok
      have hmN : mm + Ls.length ≤ N := Nat.le_trans HI.out.le hL0
      have y2 := HI.out.box.cell_ (i := 0) rfl
      have cW := gwithout_any 138 hfn2 #[.pointer (some ⟨w.heap.size, 0, none⟩), .pointer (some ⟨w2.heap.size, 0, none⟩)] (fun X => decide (depV root Ls X.b X.p ≤ X.d)) A2 Ls.length c2 Ls wr rfl (by omega) hA2 hr2 (fun X hX W hW => grev2_any root hR tb w.heap.size w2.heap.size _ A2 Ls.length c2 Ls rfl (by omega) X (HI.out.ok X hX) W (HI.out.tbx.below hW) (gr_cell hW HI.out.ptr) (gr_cell hW y2) (hr2.below hW))
      have hH : holdG root Ls = Ls.filter (fun X => !decide (depV root Ls X.b X.p ≤ X.d)) := rfl
      rw [← hH] at cW
      clear hr2 hH
      go_wp2_with (fail)
      refine cW.mono ?_
      rintro e5 w5 ⟨v5, rfl, hown5, hb5⟩
      have hK5 : ∀ X ∈ holdG root Ls, X.ok := fun X hX => HI.out.ok X (List.mem_filter.1 hX).1
      have hl5 : (holdG root Ls).length ≤ Ls.length := List.length_filter_le _ _
      obtain ⟨A5, c5, rfl, _, _, _, _⟩ := hown5.rd hK5
      have hbx := HI.out.box.below hb5
      have y5 := hbx.cell_ (i := 0) rfl
      have fz := hbx.frozen 0
      have hm1 : lenAt wr w2.heap.size = Ls.length := by unfold lenAt; rw [y2]; rfl
      have hlow := HI.out.low.trans (hb5.mono HI.out.low.size)
      have hsr : w2.heap.size < wr.heap.size := HI.out.box.lt
      clear cW y2
      by_cases hq : (holdG root Ls).length = Ls.length
      · have z3 : ((holdG root Ls).length : Int) = Ls.length := by omega
        have hst : iterH root N L0 = Ls := by
          have h := HI.out.eq
          have e : (holdG root (iterH root mm L0)).length = (iterH root mm L0).length := by rw [← h]; exact hq
          rw [iterH_stop e (by omega), ← h]
        go_wp2_with (fail)
        go_ret2
        exact ⟨.inr ⟨hlen, by rw [hst]; exact ⟨_, rfl, (HI.out.own.below hb5).le hs3⟩⟩, hlow⟩
      · have z3 : ¬ ((holdG root Ls).length : Int) = Ls.length := by omega
        have z4 : (((holdG root Ls).length : Int) == (Ls.length : Int)) = false := by rw [beq_eq_false_iff_ne]; exact z3
        have gs := gb_setG w5 ⟨w2.heap.size, 0, none⟩ (.slice A5 (holdG root Ls).length c5)
        have hbx2 := hbx.set 0 (.slice A5 (holdG root Ls).length c5)
        have hne : 113 ≠ 44 := by decide
        have hnew : RvI w w1.heap.size w2.heap.size tb root (.slice AG N C) L0 (.slice A5 (holdG root Ls).length c5) (mm + 1) (holdG root Ls) (w5.setCell ⟨w2.heap.size, 0, none⟩ (.slice A5 (holdG root Ls).length c5)) :=
          ⟨gr_own_blk (hown5.le (Nat.le_trans hs4 (Nat.le_of_lt hsr))) hbx hne gs, hK5, by rw [iterH_snoc, ← HI.out.eq], by have := HI.out.le; omega, hbx2, ⟨(gs.block tb (HI.out.tbx.below hb5).b.lt (by intro e; have := Option.some.inj e; simp only at this; omega)).trans (HI.out.tbx.below hb5).b⟩, (World.cell?_setCell_far _ _ _ _ (by simp only; omega)).trans (gr_cell hb5 HI.out.ptr), hlow.grown gs hlow.size (by intro k e; cases e; show w.heap.size ≤ w2.heap.size; omega)⟩
        have hm2 : lenAt (w5.setCell ⟨w2.heap.size, 0, none⟩ (.slice A5 (holdG root Ls).length c5)) w2.heap.size = (holdG root Ls).length := by unfold lenAt; rw [hbx2.cell_ (i := 0) rfl]; rfl
        have HNEW := hid hnew
        clear hnew gs hbx2
        go_wp2_with (fail)
        go_roundw
        case rel => exact ⟨_, _, _, HNEW⟩
        case measure => rw [hm1, hm2]; omega

end Go.Proofs.Ytdkeobpmenaljaa

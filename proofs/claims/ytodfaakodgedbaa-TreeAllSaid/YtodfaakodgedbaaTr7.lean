/- tree: a file more; one less. -/
import Derived.Test.YtodfaakodgedbaaTr4
set_option linter.unusedSimpArgs false
set_option linter.unusedVariables false
namespace Go.Proofs.Ytodfaakodgedbaa
open Go.RowKit Go.Qc Go.Shelf
attribute [local go_sem] txt_size txt_append ib_fold txt_toL

theorem RwT.one (W : World) (f : FlV) : RwT (W.alloc (.cells #[.string (txt f.p), .slice f.A f.n f.c] 54)) (some ⟨W.heap.size, 0, none⟩) 1 1 [f] :=
  ⟨rfl, Nat.le_refl _, (fun h => by cases h), .inr ⟨W.heap.size, 0, rfl, fun j v hj => FlV.range (Blk.new W 54 _) j v (by simpa [flsV] using hj)⟩⟩
theorem putF_at : ∀ (Xs : List FlV) (f : FlV) (p : Nat), FindP Xs f.p p → (∀ X ∈ Xs, X.p ≠ f.p) → putF Xs f = Xs.take p ++ (f :: Xs.drop p)
  | [], f, p, h, _ => by simp [putF]
  | x :: xs, f, 0, h, hn => by
    have h1 := h.hi 0 x (Nat.le_refl _) rfl
    rw [putF, if_pos (bl_tot _ _ h1 (hn x (by simp)))]
    rfl
  | x :: xs, f, p + 1, h, hn => by
    have h1 := h.lo 0 x (by omega) rfl
    have h2 : ¬ Go.Op.bytesLess f.p x.p = true := fun e => by
      have := bl_trans _ _ _ e h1
      rw [bl_irr] at this
      cases this
    have hf : FindP xs f.p p := ⟨by have := h.le; simp at this; exact this, fun k X hk hX => h.lo (k + 1) X (by omega) (by rw [List.getElem?_cons_succ]; exact hX), fun k X hk hX => h.hi (k + 1) X (by omega) (by rw [List.getElem?_cons_succ]; exact hX)⟩
    rw [putF, if_neg h2, putF_at xs f p hf (fun X hX => hn X (by simp [hX]))]
    rfl
theorem put_same_at : ∀ (Xs : List FlV) (f : FlV) (i : Nat) (X : FlV), SortF (Xs.map FlV.D) → Xs[i]? = some X → X.p = f.p → putF (Xs.eraseIdx i) f = Xs.take i ++ (f :: Xs.drop (i + 1))
  | [], f, i, X, _, h, _ => by simp at h
  | x :: xs, f, 0, X, hs, h, he => by
    simp at h
    subst h
    rw [List.eraseIdx_zero, List.tail_cons]
    cases xs with
    | nil => rfl
    | cons y ys =>
      have := sort_get (Xs := x :: y :: ys) hs (show 0 < 1 by omega) rfl rfl
      rw [he] at this
      rw [putF, if_pos this]
      rfl
  | x :: xs, f, i + 1, X, hs, h, he => by
    have hx := sort_get (Xs := x :: xs) hs (show 0 < i + 1 by omega) rfl h
    rw [List.getElem?_cons_succ] at h
    have hs2 : SortF (xs.map FlV.D) := (List.pairwise_cons.1 hs).2
    have h2 : ¬ Go.Op.bytesLess f.p x.p = true := fun e => by
      rw [he] at hx
      have := bl_trans _ _ _ e hx
      rw [bl_irr] at this
      cases this
    rw [List.eraseIdx_cons_succ, putF, if_neg h2, put_same_at xs f i X hs2 h he]
    rfl
/-- A tree: its files, and their lines. -/
structure FlT (w : World) (Y : FlV) : Prop where
  ok : FlOk w Y
  nc : Y.n ≤ Y.c
  nn : Y.A = none → Y.n = 0 ∧ Y.c = 0
theorem FlT.below {w w' : World} {Y : FlV} (h : FlT w Y) (hb : Below w.heap.size w w') : FlT w' Y := ⟨h.ok.below hb, h.nc, h.nn⟩
structure TrS (w : World) (A : Option Addr) (n c : Nat) (Ys : List FlV) : Prop where
  rw_ : RwT w A n c Ys
  ok : ∀ Y ∈ Ys, FlT w Y
theorem TrS.below {w w' : World} {A : Option Addr} {n c : Nat} {Ys : List FlV} (h : TrS w A n c Ys) (hb : Below w.heap.size w w') : TrS w' A n c Ys := ⟨h.rw_.below hb, fun Y hY => (h.ok Y hY).below hb⟩
/-- A tree's box is written: what it isn't stays. -/
theorem zs_ne {W : World} {g : Nat} {A : Option Addr} {n c : Nat} (h : Blk W g 27 #[.slice A n c]) {ad : Addr} {s : ByteArray} (hc : W.cell? ad = some (.string s)) : ad.block ≠ g := by
  rintro rfl
  unfold Blk at h
  unfold World.cell? at hc
  rw [h] at hc
  simp only at hc
  split at hc
  · cases hc
  · cases ho : ad.off with
    | zero => rw [ho] at hc; simp at hc
    | succ k => rw [ho] at hc; simp at hc
theorem Rd.zs {W W' : World} {g : Nat} {A : Option Addr} {n c : Nat} {B : Option Addr} {l : List (List UInt8)} (hr : Rd W B (l.map strV)) (h : Blk W g 27 #[.slice A n c]) (hg : W.grownBy W' (some g)) : Rd W' B (l.map strV) := by
  cases l with
  | nil => exact .inl rfl
  | cons x l =>
    refine rd_gb hr hg (fun ad e => ?_)
    rcases hr with hr | ⟨ad', e', hc⟩
    · simp at hr
    · rw [e] at e'
      cases e'
      have := hc 0 _ rfl
      have hne := zs_ne h this
      rwa [add_block] at hne
theorem FlRd.zs {W W' : World} {g : Nat} {A : Option Addr} {n c : Nat} {B : Option Addr} {Xs : List FlV} (hr : FlRd W B Xs) (h : Blk W g 27 #[.slice A n c]) (hg : W.grownBy W' (some g)) : FlRd W' B Xs := by
  cases Xs with
  | nil => exact .inl rfl
  | cons X Xs =>
    rcases hr with hr | ⟨q, o, e, hc⟩
    · cases hr
    · have h0 := hc 0 (.string (txt X.p)) rfl
      have hne := zs_ne h h0
      exact .inr ⟨q, o, e, fun j v hv => hg.cell (hc j v hv) (fun e => hne (by have := Option.some.inj e; simpa using this))⟩
theorem RwT.zs {W W' : World} {g : Nat} {A : Option Addr} {n c : Nat} {B : Option Addr} {m d : Nat} {Xs : List FlV} (hr : RwT W B m d Xs) (h : Blk W g 27 #[.slice A n c]) (hg : W.grownBy W' (some g)) : RwT W' B m d Xs := ⟨hr.ln, hr.nc, hr.nn, hr.rd.zs h hg⟩
theorem FlT.zs {W W' : World} {g : Nat} {A : Option Addr} {n c : Nat} {Y : FlV} (hr : FlT W Y) (h : Blk W g 27 #[.slice A n c]) (hg : W.grownBy W' (some g)) : FlT W' Y := ⟨⟨hr.ok.ln, hr.ok.bn, hr.ok.bx, hr.ok.bp, Rd.zs hr.ok.rA h hg⟩, hr.nc, hr.nn⟩
theorem TrS.zs {W W' : World} {g : Nat} {A : Option Addr} {n c : Nat} {B : Option Addr} {m d : Nat} {Xs : List FlV} (hr : TrS W B m d Xs) (h : Blk W g 27 #[.slice A n c]) (hg : W.grownBy W' (some g)) : TrS W' B m d Xs := ⟨hr.rw_.zs h hg, fun Y hY => (hr.ok Y hY).zs h hg⟩
/-- What is told of a tree that is made, or of an error. -/
def TrR (w w' : World) (r : Except Int (List FD)) (e : Ending) : Prop :=
  (∃ Ys A n c, e = .returned (.tuple #[.agg #[.slice A n c], .int .i64 0]) ∧ r = .ok (Ys.map FlV.D) ∧ TrS w' A n c Ys ∧ Below w.heap.size w w') ∨
  (∃ k : Int, e = .returned (.tuple #[.agg #[.slice none 0 0], .int .i64 k]) ∧ r = .error k ∧ ¬ k = 0 ∧ Below w.heap.size w w')

set_option maxRecDepth 100000 in
set_option maxHeartbeats 20000000 in
theorem twith_any (A : Option Addr) (n c : Nat) (Xs : List FlV) (f : FlV) (w : World) (hX : RwT w A n c Xs) (bn : n ≤ 900) (hs : SortF (Xs.map FlV.D)) :
    Calls Try.prog 41 #[.agg #[.slice A n c], .agg #[.string (txt f.p), .slice f.A f.n f.c]] w fun e w' => ∃ p A' n' c', FindP Xs f.p p ∧ e = .returned (.agg #[.slice A' n' c']) ∧ RwT w' A' n' c' (Xs.take p ++ (f :: Xs.drop p)) ∧ Below w.heap.size w w' := by
  have b1 := (Below.refl w.heap.size w).alloc (Nat.le_refl _) (.cells #[.slice A n c] 27)
  have b2 := b1.alloc b1.size (.cells #[.string (txt f.p), .slice f.A f.n f.c] 54)
  have b3 := b2.alloc b2.size (.cells #[.slice none 0 0] 27)
  have h2 := ((Blk.new w 27 #[.slice A n c]).alloc (.cells #[.string (txt f.p), .slice f.A f.n f.c] 54)).alloc (.cells #[.slice none 0 0] 27)
  have h3 := (Blk.new (w.alloc (.cells #[.slice A n c] 27)) 54 #[.string (txt f.p), .slice f.A f.n f.c]).alloc (.cells #[.slice none 0 0] 27)
  have hz := Blk.new ((w.alloc (.cells #[.slice A n c] 27)).alloc (.cells #[.string (txt f.p), .slice f.A f.n f.c] 54)) 27 #[.slice none 0 0]
  rw [World.size_alloc] at h3
  rw [World.size_alloc, World.size_alloc] at hz
  have HX := hid hX
  have HS := hid hs
  clear hX hs b1 b2
  go_enter Try.func41, Try.ntmps41
  go_upto_region 1 with (fail)
  generalize ((w.alloc (.cells #[.slice A n c] 27)).alloc (.cells #[.string (txt f.p), .slice f.A f.n f.c] 54)).alloc (.cells #[.slice none 0 0] 27) = W0 at *
  have hb := Below.refl W0.heap.size W0
  have y0 : ∀ W, Below W0.heap.size W0 W → W.cell? ⟨w.heap.size + 1, 0, none⟩ = some (.string (txt f.p)) := fun W h => (h3.below h).cell_ rfl
  go_upto_region 2 with (first
    | (with_reducible refine wpList_load_tree (by with_unfolding_all rfl) _ rfl _ rfl (h2.below hb) ?_)
    | (go_at_call 18; (with_reducible refine (tfind_any A n c Xs f.p _ HX.out.ln (by omega) ((HX.out.below b3).below hb).rd HS.out).mono ?_); rintro e1 w1 ⟨p, rfl, hp, hb1⟩; replace hp := hid hp; replace hb := hb.trans (hb1.mono hb.size); clear hb1))
  have pn : p ≤ n := by have := hp.out.le; rw [HX.out.ln] at this; exact this
  have pn0 : p + 0 ≤ n := pn
  have hzp := hz.below hb
  have hbA := hb.alloc hb.size (.cells #[.string (txt f.p), .slice f.A f.n f.c] 54)
  have hzA := hzp.alloc (.cells #[.string (txt f.p), .slice f.A f.n f.c] 54)
  have cP := tput_any A n c Xs p 0 0 rfl (some ⟨w1.heap.size, 0, none⟩) 1 1 [f] (w1.alloc (.cells #[.string (txt f.p), .slice f.A f.n f.c] 54)) ((HX.out.below b3).below hbA) (RwT.one w1 f) pn0 (by omega)
  go_wp2_with (first
    | (with_reducible refine wpList_load_tree (by with_unfolding_all rfl) _ rfl _ rfl (h2.below hb) ?_)
    | (with_reducible refine wpList_load_tf (by with_unfolding_all rfl) _ rfl _ _ rfl f (FlV.range (h3.below hb)) ?_)
    | (go_at_call 43; (with_reducible refine cP.mono ?_); rintro e2 w2 ⟨A9, n9, c9, rfl, hrw, hb2⟩; replace hzA := hzA.below hb2; replace hbA := hbA.trans (hb2.mono hbA.size); clear hb2)
    | (with_reducible refine wpList_store_blk rfl 27 _ _ rfl (w.heap.size + 1 + 1) _ #[.slice A9 n9 c9] 27 hzA rfl rfl ?c2 ?c3 ?c4 ?_))
  case c2 => kernel_rfl
  case c3 => rfl
  case c4 => simp [Value.oneCell']
  intro W9 hb9 hg9
  go_wp2
  refine bodyPost_ret (results_cell_row rfl _ _ _ _ _ _ _ rfl hb9 Try.underlying27 rfl (by kernel_rfl)) rfl ?_
  have hs3 := b3.size
  have hb7 : Below w.heap.size w2 W9 := below_of_gb hg9 (by omega) (Nat.le_trans hs3 hbA.size)
  refine ⟨p, A9, n9, c9, hp.out, rfl, ?_, (b3.trans (hbA.mono b3.size)).trans hb7⟩
  have := hrw.zs hzA hg9
  rwa [Nat.add_zero] at this

set_option maxRecDepth 100000 in
set_option maxHeartbeats 20000000 in
theorem tcreated_any (A : Option Addr) (n c : Nat) (Xs : List FlV) (s : List UInt8) (w : World) (hX : TrS w A n c Xs) (hg : GoodF (Xs.map FlV.D)) (hp : pathR s = true) :
    Calls Try.prog 22 #[.agg #[.slice A n c], .string (txt s)] w fun e w' => TrR w w' (if roomV (Xs.map FlV.D) s = 0 then (if 200 ≤ (Xs.map FlV.D).length then .error 14 else .ok (putD (Xs.map FlV.D) (s, []))) else .error (roomV (Xs.map FlV.D) s)) e := by
  generalize hRR : (if roomV (Xs.map FlV.D) s = 0 then (if 200 ≤ (Xs.map FlV.D).length then Except.error (14 : Int) else .ok (putD (Xs.map FlV.D) (s, []))) else .error (roomV (Xs.map FlV.D) s)) = RR
  have HRR := hid hRR
  clear hRR
  have hn200 : n ≤ 200 := by have := hg.n; rw [List.length_map, hX.rw_.ln] at this; exact this
  have b1 := (Below.refl w.heap.size w).alloc (Nat.le_refl _) (.cells #[.slice A n c] 27)
  have b3 := b1.alloc b1.size (.cells #[.slice none 0 0] 27)
  have h2 := (Blk.new w 27 #[.slice A n c]).alloc (.cells #[.slice none 0 0] 27)
  have hz := Blk.new (w.alloc (.cells #[.slice A n c] 27)) 27 #[.slice none 0 0]
  rw [World.size_alloc] at hz
  have hr := fun X (h : X ∈ Xs) => hg.r X.D (List.mem_map_of_mem h)
  have ls : s.length ≤ 200 := by unfold pathR at hp; simp only [Bool.and_eq_true, decide_eq_true_eq] at hp; exact hp.1
  have HX := hid hX
  have HG := hid hg
  have HR := hid hr
  have HP := hid hp
  obtain ⟨rv, hrv⟩ : ∃ r, roomV (Xs.map FlV.D) s = r := ⟨_, rfl⟩
  have cR := fun W (h : Below w.heap.size w W) => troom_any A n c Xs s W (hX.rw_.below h) (by omega) hg.s hr hp
  rw [hrv] at cR
  have HRV := hid hrv
  clear hX hg hr b1 hp hrv
  by_cases h0 : rv = 0
  · subst h0
    by_cases h2' : 200 ≤ n
    · have e1 : (200 : Int) ≤ n := by omega
      have HL := hid (show 200 ≤ (Xs.map FlV.D).length by rw [List.length_map, HX.out.rw_.ln]; exact h2')
      go_enter Try.func22, Try.ntmps22
      go_upto_region 1 with (fail)
      generalize (w.alloc (.cells #[.slice A n c] 27)).alloc (.cells #[.slice none 0 0] 27) = W0 at *
      have hb := Below.refl W0.heap.size W0
      go_wp2_with (first
        | (with_reducible refine wpList_load_tree (by with_unfolding_all rfl) _ rfl _ rfl (h2.below hb) ?_)
        | (go_at_call 40; (with_reducible refine (cR _ (b3.trans (hb.mono b3.size))).mono ?_); rintro e1 w1 ⟨rfl, hb1⟩; replace hb := hb.trans (hb1.mono hb.size); clear hb1)
        | (go_at_call 11; (with_reducible refine (tlen_any A n c _).mono ?_); rintro e3 w3 ⟨rfl, hb3⟩; replace hb := hb.trans (hb3.mono hb.size); clear hb3)
        | (with_reducible refine wpList_store_blk rfl 27 _ _ rfl (w.heap.size + 1) _ #[.slice none 0 0] 27 (hz.below hb) rfl rfl ?c2 ?c3 ?c4 ?_))
      case c2 => kernel_rfl
      case c3 => rfl
      case c4 => simp [Value.oneCell']
      intro W9 hb9 hg9
      go_wp2
      refine bodyPost_ret (results_cellt rfl _ _ _ _ _ _ rfl hb9 Try.underlying27 rfl (by kernel_rfl)) rfl ?_
      refine .inr ⟨14, rfl, by rw [← HRR.out, HRV.out, if_pos rfl, if_pos HL.out], by decide, (b3.trans (hb.mono b3.size)).trans (below_of_gb hg9 (by omega) (Nat.le_trans b3.size hb.size))⟩
    · have e1 : ¬ (200 : Int) ≤ n := by omega
      have HL := hid (show ¬ 200 ≤ (Xs.map FlV.D).length by rw [List.length_map, HX.out.rw_.ln]; exact h2')
      go_enter Try.func22, Try.ntmps22
      go_upto_region 1 with (fail)
      generalize (w.alloc (.cells #[.slice A n c] 27)).alloc (.cells #[.slice none 0 0] 27) = W0 at *
      have hb := Below.refl W0.heap.size W0
      go_wp2_with (first
        | (with_reducible refine wpList_load_tree (by with_unfolding_all rfl) _ rfl _ rfl (h2.below hb) ?_)
        | (go_at_call 40; (with_reducible refine (cR _ (b3.trans (hb.mono b3.size))).mono ?_); rintro e1 w1 ⟨rfl, hb1⟩; replace hb := hb.trans (hb1.mono hb.size); clear hb1)
        | (go_at_call 11; (with_reducible refine (tlen_any A n c _).mono ?_); rintro e3 w3 ⟨rfl, hb3⟩; replace hb := hb.trans (hb3.mono hb.size); clear hb3)
        | (go_at_call 41; (with_reducible refine (twith_any A n c Xs ⟨s, [], none, 0, 0⟩ _ ((HX.out.rw_.below b3).below hb) (by omega) HG.out.s).mono ?_); rintro e4 w4 ⟨p, A9, n9, c9, hp, rfl, hrw, hb4⟩; replace hb := hb.trans (hb4.mono hb.size); clear hb4)
        | (with_reducible refine wpList_store_blk rfl 27 _ _ rfl (w.heap.size + 1) _ #[.slice A9 n9 c9] 27 (hz.below hb) rfl rfl ?c2 ?c3 ?c4 ?_))
      case c2 => kernel_rfl
      case c3 => rfl
      case c4 => simp [Value.oneCell']
      intro W9 hb9 hg9
      go_wp2
      refine bodyPost_ret (results_cellt rfl _ _ _ _ _ _ rfl hb9 Try.underlying27 rfl (by kernel_rfl)) rfl ?_
      have hb7 := below_of_gb hg9 (show w.heap.size ≤ w.heap.size + 1 by omega) (Nat.le_trans b3.size hb.size)
      have hne : ∀ X ∈ Xs, X.p ≠ s := fun X hX e => (look_hit Xs s).1 (room_look HRV.out) ⟨X, hX, e⟩
      have hf : FlT w4 ⟨s, [], none, 0, 0⟩ := ⟨⟨rfl, (show (0 : Nat) ≤ 1000 by decide), (fun x h => by simp at h), (show s.length ≤ 1000 by omega), .inl rfl⟩, Nat.le_refl _, fun _ => ⟨rfl, rfl⟩⟩
      have hS : TrS w4 A9 n9 c9 (Xs.take p ++ ((⟨s, [], none, 0, 0⟩ : FlV) :: Xs.drop p)) := ⟨hrw, fun Y hY => by
        rcases List.mem_append.1 hY with h | h
        · exact ((HX.out.below b3).below hb).ok Y (List.mem_of_mem_take h)
        · rcases List.mem_cons.1 h with rfl | h
          · exact hf
          · exact ((HX.out.below b3).below hb).ok Y (List.mem_of_mem_drop h)⟩
      refine .inl ⟨_, A9, n9, c9, rfl, ?_, hS.zs (hz.below hb) hg9, (b3.trans (hb.mono b3.size)).trans hb7⟩
      rw [← HRR.out, HRV.out, if_pos rfl, if_neg HL.out, ← putF_at Xs ⟨s, [], none, 0, 0⟩ p hp hne, putF_map]
      rfl
  · have HL := hid h0
    go_enter Try.func22, Try.ntmps22
    go_upto_region 1 with (fail)
    generalize (w.alloc (.cells #[.slice A n c] 27)).alloc (.cells #[.slice none 0 0] 27) = W0 at *
    have hb := Below.refl W0.heap.size W0
    go_wp2_with (first
      | (with_reducible refine wpList_load_tree (by with_unfolding_all rfl) _ rfl _ rfl (h2.below hb) ?_)
      | (go_at_call 40; (with_reducible refine (cR _ (b3.trans (hb.mono b3.size))).mono ?_); rintro e1 w1 ⟨rfl, hb1⟩; replace hb := hb.trans (hb1.mono hb.size); clear hb1)
      | (with_reducible refine wpList_store_blk rfl 27 _ _ rfl (w.heap.size + 1) _ #[.slice none 0 0] 27 (hz.below hb) rfl rfl ?c2 ?c3 ?c4 ?_))
    case c2 => kernel_rfl
    case c3 => rfl
    case c4 => simp [Value.oneCell']
    intro W9 hb9 hg9
    go_wp2
    refine bodyPost_ret (results_cellt rfl _ _ _ _ _ _ rfl hb9 Try.underlying27 rfl (by kernel_rfl)) rfl ?_
    refine .inr ⟨rv, rfl, by rw [← HRR.out, HRV.out, if_neg HL.out], HL.out, (b3.trans (hb.mono b3.size)).trans (below_of_gb hg9 (by omega) (Nat.le_trans b3.size hb.size))⟩
end Go.Proofs.Ytodfaakodgedbaa
/- tree: a file less; a file with other lines. -/
set_option linter.unusedSimpArgs false
set_option linter.unusedVariables false
namespace Go.Proofs.Ytodfaakodgedbaa
open Go.RowKit Go.Qc Go.Shelf
attribute [local go_sem] txt_size txt_append ib_fold txt_toL

theorem GoodF.bn {w : World} {A : Option Addr} {n c : Nat} {Xs : List FlV} (hg : GoodF (Xs.map FlV.D)) (hX : RwT w A n c Xs) : n ≤ 200 := by
  have := hg.n
  rw [List.length_map, hX.ln] at this
  exact this
theorem erase_two (Xs : List FlV) (i : Nat) : Xs.take i ++ ([] ++ Xs.drop (i + 1)) = Xs.eraseIdx i := by rw [List.nil_append, List.eraseIdx_eq_take_drop_succ]

set_option maxRecDepth 100000 in
set_option maxHeartbeats 20000000 in
theorem tremoved_any (A : Option Addr) (n c : Nat) (Xs : List FlV) (i : Nat) (X : FlV) (B : Option Addr) (m d : Nat) (old : List (List UInt8)) (w : World) (hX : TrS w A n c Xs) (hg : GoodF (Xs.map FlV.D)) (hi : Xs[i]? = some X) (hm : old.length = m) (bm : m ≤ 1000) (hB : Rd w B (old.map strV)) :
    Calls Try.prog 23 #[.agg #[.slice A n c], .int .i64 (i : Int), .slice B m d] w fun e w' => TrR w w' (if X.l = old then .ok ((Xs.map FlV.D).eraseIdx i) else .error 12) e := by
  have hlt : i < n := by rw [← hX.rw_.ln]; exact (List.getElem?_eq_some_iff.1 hi).1
  have hn200 := hg.bn hX.rw_
  have b1 := (Below.refl w.heap.size w).alloc (Nat.le_refl _) (.cells #[.slice A n c] 27)
  have b3 := b1.alloc b1.size (.cells #[.slice none 0 0] 27)
  have h2 := (Blk.new w 27 #[.slice A n c]).alloc (.cells #[.slice none 0 0] 27)
  have hz := Blk.new (w.alloc (.cells #[.slice A n c] 27)) 27 #[.slice none 0 0]
  rw [World.size_alloc] at hz
  obtain ⟨g, q, -, -, h9, hix⟩ := (hX.rw_.rd.below b3).pickT c hX.rw_.ln hi
  have oX := hX.ok X (List.mem_of_getElem? hi)
  obtain ⟨z, hz0⟩ : ∃ z, decide (X.l = old) = z := ⟨_, rfl⟩
  have cS := fun W (h : Below w.heap.size w W) => sequal_any X.A B X.n m X.c d X.l old oX.ok.ln hm (by have := oX.ok.bn; omega) (by omega) W (oX.ok.rA.below h) (hB.below h)
  rw [hz0] at cS
  have HZ := hid hz0
  have HX := hid hX
  have HI := hid hi
  generalize hRR : (if X.l = old then Except.ok ((Xs.map FlV.D).eraseIdx i) else Except.error (12 : Int)) = RR
  have HRR := hid hRR
  clear hRR hX hi b1 hm hB hz0
  cases z with
  | true =>
    go_enter Try.func23, Try.ntmps23
    go_upto_region 1 with (fail)
    generalize (w.alloc (.cells #[.slice A n c] 27)).alloc (.cells #[.slice none 0 0] 27) = W0 at *
    have hb := Below.refl W0.heap.size W0
    have x4 : W0.cell? ⟨w.heap.size, 0, none⟩ = some (.slice A n c) := h2.cell_ rfl
    go_wp2_with (first
      | (with_reducible refine wpList_load_tree (by with_unfolding_all rfl) _ rfl _ rfl (h2.below hb) ?_)
      | (go_at_call 42; (with_reducible refine (cS _ (b3.trans (hb.mono b3.size))).mono ?_); rintro e1 w1 ⟨rfl, hb1⟩; replace hb := hb.trans (hb1.mono hb.size); clear hb1)
      | (go_at_call 43; (with_reducible refine (tput_any A n c Xs i 1 1 rfl none 0 0 [] _ ((HX.out.rw_.below b3).below hb) (RwT.nil_ _) (by omega) (by omega)).mono ?_); rintro e4 w4 ⟨A9, n9, c9, rfl, hrw, hb4⟩; replace hb := hb.trans (hb4.mono hb.size); clear hb4)
      | (with_reducible refine wpList_store_blk rfl 27 _ _ rfl (w.heap.size + 1) _ #[.slice A9 n9 c9] 27 (hz.below hb) rfl rfl ?c2 ?c3 ?c4 ?_))
    case c2 => kernel_rfl
    case c3 => rfl
    case c4 => simp [Value.oneCell']
    intro W9 hb9 hg9
    go_wp2
    refine bodyPost_ret (results_cellt rfl _ _ _ _ _ _ rfl hb9 Try.underlying27 rfl (by kernel_rfl)) rfl ?_
    have hb7 := below_of_gb hg9 (show w.heap.size ≤ w.heap.size + 1 by omega) (Nat.le_trans b3.size hb.size)
    rw [erase_two] at hrw
    have hS : TrS w4 A9 n9 c9 (Xs.eraseIdx i) := ⟨hrw, fun Y hY => ((HX.out.below b3).below hb).ok Y (List.mem_of_mem_eraseIdx hY)⟩
    refine .inl ⟨_, A9, n9, c9, rfl, ?_, hS.zs (hz.below hb) hg9, (b3.trans (hb.mono b3.size)).trans hb7⟩
    rw [← HRR.out, if_pos (of_decide_eq_true HZ.out), erase_map]
  | false =>
    go_enter Try.func23, Try.ntmps23
    go_upto_region 1 with (fail)
    generalize (w.alloc (.cells #[.slice A n c] 27)).alloc (.cells #[.slice none 0 0] 27) = W0 at *
    have hb := Below.refl W0.heap.size W0
    have x4 : W0.cell? ⟨w.heap.size, 0, none⟩ = some (.slice A n c) := h2.cell_ rfl
    go_wp2_with (first
      | (go_at_call 42; (with_reducible refine (cS _ (b3.trans (hb.mono b3.size))).mono ?_); rintro e1 w1 ⟨rfl, hb1⟩; replace hb := hb.trans (hb1.mono hb.size); clear hb1)
      | (with_reducible refine wpList_store_blk rfl 27 _ _ rfl (w.heap.size + 1) _ #[.slice none 0 0] 27 (hz.below hb) rfl rfl ?c2 ?c3 ?c4 ?_))
    case c2 => kernel_rfl
    case c3 => rfl
    case c4 => simp [Value.oneCell']
    intro W9 hb9 hg9
    go_wp2
    refine bodyPost_ret (results_cellt rfl _ _ _ _ _ _ rfl hb9 Try.underlying27 rfl (by kernel_rfl)) rfl ?_
    refine .inr ⟨12, rfl, by rw [← HRR.out, if_neg (of_decide_eq_false HZ.out)], by decide, (b3.trans (hb.mono b3.size)).trans (below_of_gb hg9 (by omega) (Nat.le_trans b3.size hb.size))⟩

theorem happly_any (L : Option Addr) (k e : Nat) (ls : List (List UInt8)) (hk : ls.length = k) (hke : k ≤ e) (hL0 : L = none → e = 0) (bk : k ≤ 1000) (at' : Int) (A : Option Addr) (n c : Nat) (old : List (List UInt8)) (hn : old.length = n) (bn : n ≤ 1000) (B : Option Addr) (m d : Nat) (new : List (List UInt8)) (hm : new.length = m) (bm : m ≤ 1000) (hB0 : B = none → d = 0) (w : World)
    (hL : Rd w L (ls.map strV)) (hA : Rd w A (old.map strV)) (hB : Rd w B (new.map strV)) :
    Calls Try.prog 44 #[.slice L k e, .agg #[.int .i64 at', .slice A n c, .slice B m d]] w fun e w' => ∃ v, e = .returned (.tuple #[v, .int .i64 (apR ls at' old new).2]) ∧ w'.ownsRow w.heap.size 9 1 v (apR ls at' old new).1.length ((apR ls at' old new).1.map strV) ∧ Below w.heap.size w w' := by
  have := apply_any L k e ls hk hke hL0 bk at' A n c old hn bn B m d new hm bm hB0 w hL hA hB
  rw [← apR_snd, ← apR_fst] at this
  exact this
/-- A row of texts of one's own is a file's lines. -/
theorem own_lines {W : World} {base : Nat} {v : Value} {n : Nat} {l : List (List UInt8)} (h : W.ownsRow base 9 1 v n (l.map strV)) : ∃ A c, v = .slice A n c ∧ l.length = n ∧ n ≤ c ∧ (A = none → n = 0 ∧ c = 0) ∧ Rd W A (l.map strV) := by
  obtain ⟨hl, A, c, e, hr⟩ := rowRd h
  rw [List.length_map] at hl
  rcases h.2 with ⟨e2, h0⟩ | ⟨g, cap, cur, e2, _, _, h3, _⟩
  · rw [e2] at e
    cases e
    exact ⟨none, 0, e2, hl, by omega, fun _ => ⟨h0, rfl⟩, hr⟩
  · rw [e2] at e
    cases e
    exact ⟨_, _, e2, hl, h3, (fun e => by cases e), hr⟩
theorem apR_shortT (ls : List (List UInt8)) (at' : Int) (old new : List (List UInt8)) (N : Nat) (h0 : (apR ls at' old new).2 = 0) (h1 : ∀ x ∈ ls, x.length ≤ N) (h2 : ∀ x ∈ new, x.length ≤ N) : ∀ x ∈ (apR ls at' old new).1, x.length ≤ N := by
  obtain ⟨P, S, _, e2, e3, _, _⟩ := apR_get h0
  rw [e3]
  intro x hx
  rcases List.mem_append.1 hx with h | h
  · exact h1 x (by rw [e2]; exact List.mem_append_left _ h)
  · rcases List.mem_append.1 h with h | h
    · exact h2 x h
    · exact h1 x (by rw [e2]; exact List.mem_append_right _ (List.mem_append_right _ h))
theorem wpList_load_hkt {ops : Array Oper} {rest : List Oper} {o : Oper} {a : Act} {w : World} {Q : Exit → Act → World → Prop} (hw : Region.wanted o (yielded ops a.tmps) = true) (x : Operand) (ho : o.op = .load 64 x)
    (g : Nat) (hx : a.eval x = .pointer (some ⟨g, 0, none⟩)) {u v z : Value} (hX : Blk w g 64 #[u, v, z])
    (h : wpList Try.prog ops Q rest (a.put o.dst (.agg #[u, v, z])) w) : wpList Try.prog ops Q (o :: rest) a w :=
  wpList_load_if hw 64 x ho g 0 hx [u, v, z] _ (fun j v hj => by rw [Nat.zero_add]; exact hX.cell_ (by rw [← Array.getElem?_toList]; exact hj)) Try.underlying64 rfl (by kernel_rfl) h

set_option maxRecDepth 100000 in
set_option maxHeartbeats 20000000 in
theorem tedited_any (A : Option Addr) (n c : Nat) (Xs : List FlV) (i : Nat) (X : FlV) (at' : Int) (OA : Option Addr) (n1 c1 : Nat) (old : List (List UInt8)) (NB : Option Addr) (m1 d1 : Nat) (new : List (List UInt8)) (w : World) (hX : TrS w A n c Xs) (hg : GoodF (Xs.map FlV.D)) (hi : Xs[i]? = some X)
    (hn1 : old.length = n1) (bn1 : n1 ≤ 1000) (hm1 : new.length = m1) (bm1 : m1 ≤ 1000) (hB0 : NB = none → d1 = 0) (hA : Rd w OA (old.map strV)) (hB : Rd w NB (new.map strV)) (hbx : ∀ x ∈ new, x.length ≤ 1000) :
    Calls Try.prog 24 #[.agg #[.slice A n c], .int .i64 (i : Int), .agg #[.int .i64 at', .slice OA n1 c1, .slice NB m1 d1]] w fun e w' => TrR w w' (if (apR X.l at' old new).2 = 0 then .ok (putD ((Xs.map FlV.D).eraseIdx i) (X.p, (apR X.l at' old new).1)) else .error (apR X.l at' old new).2) e := by
  have hlt : i < n := by rw [← hX.rw_.ln]; exact (List.getElem?_eq_some_iff.1 hi).1
  have hn200 := hg.bn hX.rw_
  have b1 := (Below.refl w.heap.size w).alloc (Nat.le_refl _) (.cells #[.slice A n c] 27)
  have b2 := b1.alloc b1.size (.cells #[.int .i64 at', .slice OA n1 c1, .slice NB m1 d1] 64)
  have b3 := b2.alloc b2.size (.cells #[.slice none 0 0] 27)
  have h2 := ((Blk.new w 27 #[.slice A n c]).alloc (.cells #[.int .i64 at', .slice OA n1 c1, .slice NB m1 d1] 64)).alloc (.cells #[.slice none 0 0] 27)
  have h3 := (Blk.new (w.alloc (.cells #[.slice A n c] 27)) 64 #[.int .i64 at', .slice OA n1 c1, .slice NB m1 d1]).alloc (.cells #[.slice none 0 0] 27)
  have hz := Blk.new ((w.alloc (.cells #[.slice A n c] 27)).alloc (.cells #[.int .i64 at', .slice OA n1 c1, .slice NB m1 d1] 64)) 27 #[.slice none 0 0]
  rw [World.size_alloc] at h3
  rw [World.size_alloc, World.size_alloc] at hz
  obtain ⟨g, q, hrX, -, -, hix⟩ := (hX.rw_.rd.below b3).pickT c hX.rw_.ln hi
  have oX := hX.ok X (List.mem_of_getElem? hi)
  have cA := fun W (h : Below w.heap.size w W) => happly_any X.A X.n X.c X.l oX.ok.ln oX.nc (fun e => (oX.nn e).2) oX.ok.bn at' OA n1 c1 old hn1 bn1 NB m1 d1 new hm1 bm1 hB0 W (oX.ok.rA.below h) (hA.below h) (hB.below h)
  have hsh := fun h0 => apR_shortT X.l at' old new 1000 h0 oX.ok.bx hbx
  have hbk := fun h0 => (apR_back X.l at' old new h0).2
  generalize hRR : (if (apR X.l at' old new).2 = 0 then Except.ok (putD ((Xs.map FlV.D).eraseIdx i) (X.p, (apR X.l at' old new).1)) else Except.error (apR X.l at' old new).2) = RR
  obtain ⟨nl, hnl⟩ : ∃ l, (apR X.l at' old new).1 = l := ⟨_, rfl⟩
  obtain ⟨ev, hev⟩ : ∃ l, (apR X.l at' old new).2 = l := ⟨_, rfl⟩
  rw [hnl, hev] at cA hRR
  rw [hnl, hev] at hsh
  rw [hnl, hev] at hbk
  have HRR := hid hRR
  have HX := hid hX
  have HI := hid hi
  have HG := hid hg
  have HSH := hid hsh
  have HBK := hid hbk
  have bXp := oX.ok.bp
  clear hRR hX hi b1 b2 hA hB hB0 hn1 hm1 hbx hg hsh hbk hnl hev
  by_cases h0 : ev = 0
  · subst h0
    go_enter Try.func24, Try.ntmps24
    go_upto_region 1 with (fail)
    generalize ((w.alloc (.cells #[.slice A n c] 27)).alloc (.cells #[.int .i64 at', .slice OA n1 c1, .slice NB m1 d1] 64)).alloc (.cells #[.slice none 0 0] 27) = W0 at *
    have x4 : W0.cell? ⟨w.heap.size, 0, none⟩ = some (.slice A n c) := h2.cell_ rfl
    go_upto_region 2 with (first
      | (with_reducible refine wpList_load_tf (by with_unfolding_all rfl) _ rfl _ _ rfl X hrX ?_))
    have hb := (Below.refl W0.heap.size W0).alloc (Nat.le_refl _) (.cells #[.string (txt X.p), .slice X.A X.n X.c] 54)
    have hf := Blk.new W0 54 #[.string (txt X.p), .slice X.A X.n X.c]
    generalize W0.alloc (.cells #[.string (txt X.p), .slice X.A X.n X.c] 54) = W1 at *
    have x5 : W1.cell? ⟨W0.heap.size, 1, none⟩ = some (.slice X.A X.n X.c) := hf.cell_ rfl
    go_upto_region 3 with (first
      | (with_reducible refine wpList_load_hkt (by with_unfolding_all rfl) _ rfl _ rfl (h3.below hb) ?_)
      | (go_at_call 44; (with_reducible refine (cA _ (b3.trans (hb.mono b3.size))).mono ?_); rintro e1 w1 ⟨v1, rfl, hown, hb1⟩; replace hf := hf.below hb1; replace hb := hb.trans (hb1.mono hb.size); clear hb1))
    have x6 : w1.cell? ⟨W0.heap.size, 0, none⟩ = some (.string (txt X.p)) := hf.cell_ rfl
    obtain ⟨A7, c7, rfl, hl7, hc7, hz7, hr7⟩ := own_lines hown
    have hbA := hb.alloc hb.size (.cells #[.string (txt X.p), .slice A7 nl.length c7] 54)
    have hzA := (hz.below hb).alloc (.cells #[.string (txt X.p), .slice A7 nl.length c7] 54)
    have hrA := hr7.below ((Below.refl w1.heap.size w1).alloc (Nat.le_refl _) (.cells #[.string (txt X.p), .slice A7 nl.length c7] 54))
    have cP := tput_any A n c Xs i 1 1 rfl (some ⟨w1.heap.size, 0, none⟩) 1 1 [⟨X.p, nl, A7, nl.length, c7⟩] (w1.alloc (.cells #[.string (txt X.p), .slice A7 nl.length c7] 54)) ((HX.out.rw_.below b3).below hbA) (RwT.one w1 ⟨X.p, nl, A7, nl.length, c7⟩) (by omega) (by omega)
    go_wp2_with (first
      | (with_reducible refine wpList_load_tree (by with_unfolding_all rfl) _ rfl _ rfl (h2.below hb) ?_)
      | (go_at_call 43; (with_reducible refine cP.mono ?_); rintro e4 w4 ⟨A9, n9, c9, rfl, hrw, hb4⟩; replace hzA := hzA.below hb4; replace hrA := hrA.below hb4; replace hbA := hbA.trans (hb4.mono hbA.size); clear hb4)
      | (with_reducible refine wpList_store_blk rfl 27 _ _ rfl (w.heap.size + 1 + 1) _ #[.slice A9 n9 c9] 27 hzA rfl rfl ?c2 ?c3 ?c4 ?_))
    case c2 => kernel_rfl
    case c3 => rfl
    case c4 => simp [Value.oneCell']
    intro W9 hb9 hg9
    go_wp2
    refine bodyPost_ret (results_cellt rfl _ _ _ _ _ _ rfl hb9 Try.underlying27 rfl (by kernel_rfl)) rfl ?_
    have hb7 := below_of_gb hg9 (show w.heap.size ≤ w.heap.size + 1 + 1 by omega) (Nat.le_trans b3.size hbA.size)
    have hf9 : FlT w4 ⟨X.p, nl, A7, nl.length, c7⟩ := ⟨⟨rfl, HBK.out (by trivial), HSH.out (by trivial), bXp, hrA⟩, hc7, hz7⟩
    have hS : TrS w4 A9 n9 c9 (Xs.take i ++ ((⟨X.p, nl, A7, nl.length, c7⟩ : FlV) :: Xs.drop (i + 1))) := ⟨hrw, fun Y hY => by
      rcases List.mem_append.1 hY with h | h
      · exact ((HX.out.below b3).below hbA).ok Y (List.mem_of_mem_take h)
      · rcases List.mem_cons.1 h with rfl | h
        · exact hf9
        · exact ((HX.out.below b3).below hbA).ok Y (List.mem_of_mem_drop h)⟩
    refine .inl ⟨_, A9, n9, c9, rfl, ?_, hS.zs hzA hg9, (b3.trans (hbA.mono b3.size)).trans hb7⟩
    rw [← HRR.out, if_pos (by trivial), ← put_same_at Xs ⟨X.p, nl, A7, nl.length, c7⟩ i X HG.out.s HI.out rfl, putF_map, erase_map]
    rfl
  · have HNE := hid h0
    go_enter Try.func24, Try.ntmps24
    go_upto_region 1 with (fail)
    generalize ((w.alloc (.cells #[.slice A n c] 27)).alloc (.cells #[.int .i64 at', .slice OA n1 c1, .slice NB m1 d1] 64)).alloc (.cells #[.slice none 0 0] 27) = W0 at *
    have x4 : W0.cell? ⟨w.heap.size, 0, none⟩ = some (.slice A n c) := h2.cell_ rfl
    go_upto_region 2 with (first
      | (with_reducible refine wpList_load_tf (by with_unfolding_all rfl) _ rfl _ _ rfl X hrX ?_))
    have hb := (Below.refl W0.heap.size W0).alloc (Nat.le_refl _) (.cells #[.string (txt X.p), .slice X.A X.n X.c] 54)
    have hf := Blk.new W0 54 #[.string (txt X.p), .slice X.A X.n X.c]
    generalize W0.alloc (.cells #[.string (txt X.p), .slice X.A X.n X.c] 54) = W1 at *
    have x5 : W1.cell? ⟨W0.heap.size, 1, none⟩ = some (.slice X.A X.n X.c) := hf.cell_ rfl
    go_upto_region 3 with (first
      | (with_reducible refine wpList_load_hkt (by with_unfolding_all rfl) _ rfl _ rfl (h3.below hb) ?_)
      | (go_at_call 44; (with_reducible refine (cA _ (b3.trans (hb.mono b3.size))).mono ?_); rintro e1 w1 ⟨v1, rfl, hown, hb1⟩; replace hf := hf.below hb1; replace hb := hb.trans (hb1.mono hb.size); clear hb1))
    go_wp2_with (first
      | (with_reducible refine wpList_store_blk rfl 27 _ _ rfl (w.heap.size + 1 + 1) _ #[.slice none 0 0] 27 (hz.below hb) rfl rfl ?c2 ?c3 ?c4 ?_))
    case c2 => kernel_rfl
    case c3 => rfl
    case c4 => simp [Value.oneCell']
    intro W9 hb9 hg9
    go_wp2
    refine bodyPost_ret (results_cellt rfl _ _ _ _ _ _ rfl hb9 Try.underlying27 rfl (by kernel_rfl)) rfl ?_
    have hb7 := below_of_gb hg9 (show w.heap.size ≤ w.heap.size + 1 + 1 by omega) (Nat.le_trans b3.size hb.size)
    refine .inr ⟨ev, rfl, by rw [← HRR.out, if_neg HNE.out], HNE.out, (b3.trans (hb.mono b3.size)).trans hb7⟩
end Go.Proofs.Ytodfaakodgedbaa
/- tree: a file elsewhere. -/
set_option linter.unusedSimpArgs false
set_option linter.unusedVariables false
namespace Go.Proofs.Ytodfaakodgedbaa
open Go.RowKit Go.Qc Go.Shelf
attribute [local go_sem] txt_size txt_append ib_fold txt_toL

theorem yields_tree {ops : Array Oper} {S : World → Prop} {op : Oper} {a : Act} (hw : Region.wanted op (yielded ops a.tmps) = true) (x : Operand) (ho : op.op = .load 27 x) (b : Nat) (hx : a.eval x = .pointer (some ⟨b, 0, none⟩)) {A : Option Addr} {n c : Nat} (hS : ∀ w, S w → w.cell? ⟨b, 0, none⟩ = some (.slice A n c)) : YieldsIf Try.prog ops S op (.agg #[.slice A n c]) a :=
  yieldsIf_load_mid (P := Try.prog) (ops := ops) (S := S) hw 27 x ho b 0 hx [.slice A n c] _ (fun w hs j v hj => by
    cases j with
    | zero => simp at hj; rw [← hj]; exact hS w hs
    | succ j => simp at hj) Try.underlying27 rfl infoTree
theorem erase_good {L : List FD} {i : Nat} (h : GoodF L) : GoodF (L.eraseIdx i) :=
  ⟨erase_sort h.s, fun x hx y hy => h.a x (List.mem_of_mem_eraseIdx hx) y (List.mem_of_mem_eraseIdx hy), Nat.le_trans (List.length_eraseIdx_le ..) h.n, fun x hx => h.r x (List.mem_of_mem_eraseIdx hx)⟩

set_option maxRecDepth 100000 in
set_option maxHeartbeats 20000000 in
theorem tmoved_any (A : Option Addr) (n c : Nat) (Xs : List FlV) (i : Nat) (X : FlV) (t : List UInt8) (w : World) (hX : TrS w A n c Xs) (hg : GoodF (Xs.map FlV.D)) (hi : Xs[i]? = some X) (ht : pathR t = true) :
    Calls Try.prog 26 #[.agg #[.slice A n c], .int .i64 (i : Int), .string (txt t)] w fun e w' => TrR w w' (if roomV ((Xs.map FlV.D).eraseIdx i) t = 0 then .ok (putD ((Xs.map FlV.D).eraseIdx i) (t, X.l)) else .error (roomV ((Xs.map FlV.D).eraseIdx i) t)) e := by
  have hlt : i < n := by rw [← hX.rw_.ln]; exact (List.getElem?_eq_some_iff.1 hi).1
  have hn200 := hg.bn hX.rw_
  have b1 := (Below.refl w.heap.size w).alloc (Nat.le_refl _) (.cells #[.slice A n c] 27)
  have b3 := b1.alloc b1.size (.cells #[.slice none 0 0] 27)
  have h2 := (Blk.new w 27 #[.slice A n c]).alloc (.cells #[.slice none 0 0] 27)
  have hz := Blk.new (w.alloc (.cells #[.slice A n c] 27)) 27 #[.slice none 0 0]
  rw [World.size_alloc] at hz
  have lt : t.length ≤ 200 := by unfold pathR at ht; simp only [Bool.and_eq_true, decide_eq_true_eq] at ht; exact ht.1
  have oX := hX.ok X (List.mem_of_getElem? hi)
  obtain ⟨g, q, hrX, -, -, hix⟩ := (hX.rw_.rd.below b3).pickT c hX.rw_.ln hi
  have hgE := erase_good (i := i) hg
  rw [← erase_map] at hgE ⊢
  have hrE : ∀ Y ∈ Xs.eraseIdx i, pathR Y.p = true := fun Y h => hgE.r Y.D (List.mem_map_of_mem h)
  obtain ⟨rv, hrv⟩ : ∃ r, roomV ((Xs.eraseIdx i).map FlV.D) t = r := ⟨_, rfl⟩
  generalize hRR : (if roomV ((Xs.eraseIdx i).map FlV.D) t = 0 then Except.ok (putD ((Xs.eraseIdx i).map FlV.D) (t, X.l)) else Except.error (roomV ((Xs.eraseIdx i).map FlV.D) t)) = RR
  rw [hrv] at hRR
  have cR := fun A9 n9 c9 W (h : RwT W A9 n9 c9 (Xs.eraseIdx i)) (hn : n9 ≤ 1000) => troom_any A9 n9 c9 (Xs.eraseIdx i) t W h hn hgE.s hrE ht
  rw [hrv] at cR
  have HRV := hid hrv
  have HRR := hid hRR
  have HX := hid hX
  have HI := hid hi
  have HG := hid hgE
  clear hRR hX hi b1 ht hrv hrE hgE hg
  go_enter Try.func26, Try.ntmps26
  go_upto_region 1 with (fail)
  generalize (w.alloc (.cells #[.slice A n c] 27)).alloc (.cells #[.slice none 0 0] 27) = W0 at *
  have hb := Below.refl W0.heap.size W0
  go_upto_region 2 with (first
    | (with_reducible refine wpList_load_tree (by with_unfolding_all rfl) _ rfl _ rfl (h2.below hb) ?_)
    | (go_at_call 43; (with_reducible refine (tput_any A n c Xs i 1 1 rfl none 0 0 [] _ ((HX.out.rw_.below b3).below hb) (RwT.nil_ _) (by omega) (by omega)).mono ?_); rintro e4 w1 ⟨A9, n9, c9, rfl, hrw, hb1⟩; replace hb := hb.trans (hb1.mono hb.size); clear hb1))
  rw [erase_two] at hrw
  have n9le : n9 ≤ 200 := HG.out.bn hrw
  have hbA := hb.alloc hb.size (.cells #[.slice A9 n9 c9] 27)
  have h3 := Blk.new w1 27 #[.slice A9 n9 c9]
  have hw1 : W0.heap.size ≤ w1.heap.size := hb.size
  have hne1 : w1.heap.size ≠ w.heap.size + 1 := by have := hz.lt; omega
  have hne2 : g ≠ w.heap.size + 1 := zs_ne hz (hrX 0 _ rfl)
  have hrw1 := hrw.below ((Below.refl w1.heap.size w1).alloc (Nat.le_refl _) (.cells #[.slice A9 n9 c9] 27))
  have hz1 := (hz.below hb).alloc (.cells #[.slice A9 n9 c9] 27)
  generalize w1.alloc (.cells #[.slice A9 n9 c9] 27) = W1 at *
  clear hb hrw
  have hb2 := Below.refl W1.heap.size W1
  by_cases h0 : rv = 0
  · subst h0
    go_upto_region 5 with (first
      | (with_reducible refine wpList_load_tree (by with_unfolding_all rfl) _ rfl _ rfl (h3.below hb2) ?_)
      | (go_at_call 40; (with_reducible refine (cR A9 n9 c9 _ (hrw1.below hb2) (by omega)).mono ?_); rintro e1 w2 ⟨rfl, hb1⟩; replace hb2 := hb2.trans (hb1.mono hb2.size); clear hb1))
    refine wp_region_held_drew (S := fun W => W.cell? ⟨w1.heap.size, 0, none⟩ = some (.slice A9 n9 c9) ∧ W.cell? ⟨w.heap.size, 0, none⟩ = some (.slice A n c) ∧ W.rangeAt g q X.cs) (by kernel_rfl) ?_ (fun hHeld => ?_)
    · have hd := below_drew10 w2
      exact ⟨((h3.below hb2).below hd).cell_ rfl, (((h2.below hbA).below hb2).below hd).cell_ rfl, ((hrX.below hbA).below hb2).below hd⟩
    replace hb2 := hb2.trans ((below_drew10 w2).mono hb2.size)
    generalize w2.drew = W2 at *
    have hb := hbA.trans (hb2.mono hbA.size)
    replace h3 := h3.below hb2
    have h2d := h2.below hb
    replace hrX := hrX.below hb
    have hz3 := hz1.below hb2
    have hS3 : TrS W2 A n c Xs := (HX.out.below b3).below hb
    have cW := twith_any A9 n9 c9 (Xs.eraseIdx i) ⟨t, X.l, X.A, X.n, X.c⟩ W2 (hrw1.below hb2) (by omega) HG.out.s
    clear hrw1 hz1 hbA
    refine' wpAnyH_take (i := 0) (v := .agg #[.slice A9 n9 c9]) rfl (by kernel_rfl) (by kernel_rfl) (by kernel_rfl) (fun _ _ _ h => h) (yields_tree (by rfl) _ rfl _ rfl (fun w' hw' => hw'.1)) hHeld ?_
    try simp only [Act.put, List.getElem_toArray, List.getElem_cons_succ, List.getElem_cons_zero, List.setIfInBounds_toArray, List.set_cons_zero, List.set_cons_succ]
    refine' wpAnyH_take (i := 1) (v := .string (txt t)) rfl (by kernel_rfl) (by kernel_rfl) (by kernel_rfl) (fun _ _ _ h => h) (Or.inl ⟨by rfl, fun w' hw' => by go_simp⟩) hHeld ?_
    try simp only [Act.put, List.getElem_toArray, List.getElem_cons_succ, List.getElem_cons_zero, List.setIfInBounds_toArray, List.set_cons_zero, List.set_cons_succ]
    refine' wpAnyH_take (i := 2) (v := .pointer (some ⟨w.heap.size, 0, none⟩)) rfl (by kernel_rfl) (by kernel_rfl) (by kernel_rfl) (fun _ _ _ h => h) (Or.inl ⟨by rfl, fun w' hw' => by go_simp⟩) hHeld ?_
    try simp only [Act.put, List.getElem_toArray, List.getElem_cons_succ, List.getElem_cons_zero, List.setIfInBounds_toArray, List.set_cons_zero, List.set_cons_succ]
    refine' wpAnyH_take (i := 3) (v := .slice A n c) rfl (by kernel_rfl) (by kernel_rfl) (by kernel_rfl) (fun _ _ _ h => h) (Or.inl ⟨by rfl, fun w' hw' => by (have y := hw'.2.1; go_simp)⟩) hHeld ?_
    try simp only [Act.put, List.getElem_toArray, List.getElem_cons_succ, List.getElem_cons_zero, List.setIfInBounds_toArray, List.set_cons_zero, List.set_cons_succ]
    refine' wpAnyH_take (i := 4) (v := .int .i64 (i : Int)) rfl (by kernel_rfl) (by kernel_rfl) (by kernel_rfl) (fun _ _ _ h => h) (Or.inl ⟨by rfl, fun w' hw' => by go_simp⟩) hHeld ?_
    try simp only [Act.put, List.getElem_toArray, List.getElem_cons_succ, List.getElem_cons_zero, List.setIfInBounds_toArray, List.set_cons_zero, List.set_cons_succ]
    refine' wpAnyH_take (i := 5) (v := .pointer (some ⟨g, q, none⟩)) rfl (by kernel_rfl) (by kernel_rfl) (by kernel_rfl) (fun _ _ _ h => h) (Or.inl ⟨by rfl, fun w' hw' => by go_simp⟩) hHeld ?_
    try simp only [Act.put, List.getElem_toArray, List.getElem_cons_succ, List.getElem_cons_zero, List.setIfInBounds_toArray, List.set_cons_zero, List.set_cons_succ]
    refine' wpAnyH_take (i := 6) (v := .pointer (some ⟨g, q + 1, none⟩)) rfl (by kernel_rfl) (by kernel_rfl) (by kernel_rfl) (fun _ _ _ h => h) (Or.inl ⟨by rfl, fun w' hw' => by go_simp⟩) hHeld ?_
    try simp only [Act.put, List.getElem_toArray, List.getElem_cons_succ, List.getElem_cons_zero, List.setIfInBounds_toArray, List.set_cons_zero, List.set_cons_succ]
    refine' wpAnyH_take (i := 7) (v := .slice X.A X.n X.c) rfl (by kernel_rfl) (by kernel_rfl) (by kernel_rfl) (fun _ _ _ h => h) (Or.inl ⟨by rfl, fun w' hw' => by (have y := hw'.2.2 1 _ rfl; go_simp)⟩) hHeld ?_
    try simp only [Act.put, List.getElem_toArray, List.getElem_cons_succ, List.getElem_cons_zero, List.setIfInBounds_toArray, List.set_cons_zero, List.set_cons_succ]
    refine' wpAnyH_take (i := 8) (v := .agg #[.string (txt t), .slice X.A X.n X.c]) rfl (by kernel_rfl) (by kernel_rfl) (by kernel_rfl) (fun _ _ _ h => h) (Or.inl ⟨by rfl, fun w' hw' => by go_simp⟩) hHeld ?_
    try simp only [Act.put, List.getElem_toArray, List.getElem_cons_succ, List.getElem_cons_zero, List.setIfInBounds_toArray, List.set_cons_zero, List.set_cons_succ]
    refine wpAnyH_ready (rs := [9]) (by kernel_rfl) (by simp) ?_
    refine AllReadyH.cons rfl (fun K hK => ?_) AllReadyH.nil
    go_simp
    (with_reducible refine cW.mono ?_)
    rintro e4 w4 ⟨p, A8, n8, c8, hp, rfl, hrw, hb4⟩
    replace hp := hid hp
    have hz4 := hz3.below hb4
    have hS4 := hS3.below hb4
    have k4 := (h3.below hb4)
    have k5 := h2d.below hb4
    have k6 := hrX.below hb4
    replace hb := hb.trans (hb4.mono hb.size)
    refine hK.out _ _ ⟨k4.cell_ rfl, k5.cell_ rfl, k6⟩ (fun hHeld => ?_)
    clear hK K
    try simp only [Act.put, List.getElem_toArray, List.getElem_cons_succ, List.getElem_cons_zero, List.setIfInBounds_toArray, List.set_cons_zero, List.set_cons_succ]
    refine wpAnyH_ready (rs := [10]) (by kernel_rfl) (by simp) ?_
    refine AllReadyH.cons rfl (fun K hK => ?_) AllReadyH.nil
    refine (if_pos (by kernel_rfl)).mpr ?_
    refine wp_store_whole 27 _ _ rfl (w.heap.size + 1) _ #[.slice A8 n8 c8] 27 hz4 rfl rfl ?c2 ?c3 ?c4 ?_
    case c2 => kernel_rfl
    case c3 => rfl
    case c4 => simp [Value.oneCell']
    intro W9 hb9 hg9
    refine hK.out _ _ ⟨(blk_gb k4 hg9 hne1).cell_ rfl, (blk_gb k5 hg9 (by omega)).cell_ rfl, fun j v hv => hg9.cell (k6 j v hv) (fun e => hne2 (by have := Option.some.inj e; simpa using this))⟩ (fun hHeld => ?_)
    clear hK K
    try simp only [Act.put, List.getElem_toArray, List.getElem_cons_succ, List.getElem_cons_zero, List.setIfInBounds_toArray, List.set_cons_zero, List.set_cons_succ]
    refine wpAnyH_ready (rs := [11]) (by kernel_rfl) (by simp) ?_
    refine AllReadyH.cons rfl (fun K hK => ?_) AllReadyH.nil
    go_simp
    refine hK.out _ _ hHeld (fun hHeld => ?_)
    clear hK K
    try simp only [Act.put, List.getElem_toArray, List.getElem_cons_succ, List.getElem_cons_zero, List.setIfInBounds_toArray, List.set_cons_zero, List.set_cons_succ]
    refine wpAnyH_done (by kernel_rfl) ?_ _
    go_wp2
    refine bodyPost_ret (results_cellt rfl _ _ _ _ _ _ rfl hb9 Try.underlying27 rfl (by kernel_rfl)) rfl ?_
    have hs3 := b3.size
    have hb7 := below_of_gb hg9 (show w.heap.size ≤ w.heap.size + 1 by omega) (Nat.le_trans hs3 hb.size)
    have hf9 : FlT w4 ⟨t, X.l, X.A, X.n, X.c⟩ := by
      have oX := hS4.ok X (List.mem_of_getElem? HI.out)
      exact ⟨⟨oX.ok.ln, oX.ok.bn, oX.ok.bx, (show t.length ≤ 1000 by omega), oX.ok.rA⟩, oX.nc, oX.nn⟩
    have hS : TrS w4 A8 n8 c8 ((Xs.eraseIdx i).take p ++ ((⟨t, X.l, X.A, X.n, X.c⟩ : FlV) :: (Xs.eraseIdx i).drop p)) := ⟨hrw, fun Y hY => by
      rcases List.mem_append.1 hY with h | h
      · exact hS4.ok Y (List.mem_of_mem_eraseIdx (List.mem_of_mem_take h))
      · rcases List.mem_cons.1 h with rfl | h
        · exact hf9
        · exact hS4.ok Y (List.mem_of_mem_eraseIdx (List.mem_of_mem_drop h))⟩
    refine .inl ⟨_, A8, n8, c8, rfl, ?_, hS.zs hz4 hg9, (b3.trans (hb.mono b3.size)).trans hb7⟩
    have hne : ∀ Y ∈ Xs.eraseIdx i, Y.p ≠ t := fun Y hY e => (look_hit (Xs.eraseIdx i) t).1 (room_look HRV.out) ⟨Y, hY, e⟩
    rw [← HRR.out, if_pos (by trivial), ← putF_at (Xs.eraseIdx i) ⟨t, X.l, X.A, X.n, X.c⟩ p hp.out hne, putF_map]
    rfl
  · have HNE := hid h0
    go_wp2_with (first
      | (with_reducible refine wpList_load_tree (by with_unfolding_all rfl) _ rfl _ rfl (h3.below hb2) ?_)
      | (go_at_call 40; (with_reducible refine (cR A9 n9 c9 _ (hrw1.below hb2) (by omega)).mono ?_); rintro e1 w2 ⟨rfl, hb1⟩; replace hb2 := hb2.trans (hb1.mono hb2.size); clear hb1)
      | (with_reducible refine wpList_store_blk rfl 27 _ _ rfl (w.heap.size + 1) _ #[.slice none 0 0] 27 (hz1.below hb2) rfl rfl ?c2 ?c3 ?c4 ?_))
    case c2 => kernel_rfl
    case c3 => rfl
    case c4 => simp [Value.oneCell']
    intro W9 hb9 hg9
    go_wp2
    refine bodyPost_ret (results_cellt rfl _ _ _ _ _ _ rfl hb9 Try.underlying27 rfl (by kernel_rfl)) rfl ?_
    have hb := hbA.trans (hb2.mono hbA.size)
    have hs3 := b3.size
    refine .inr ⟨rv, rfl, by rw [← HRR.out, if_neg HNE.out], HNE.out, (b3.trans (hb.mono b3.size)).trans (below_of_gb hg9 (by omega) (Nat.le_trans hs3 hb.size))⟩
end Go.Proofs.Ytodfaakodgedbaa

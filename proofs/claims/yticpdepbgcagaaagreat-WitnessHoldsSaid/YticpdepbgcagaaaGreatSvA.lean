
/- signer: what fits, Root, Verify; the document's Key. -/
import Derived.Test.YticpdepbgcagaaaGreatSgA
import Derived.Test.YticpdepbgcagaaaGreatLamR
import Derived.Test.YticpdepbgcagaaaGreatKtA
namespace Go.Proofs.YticpdepbgcagaaaGreat
open Go.RowKit Go.Qc
attribute [local go_sem] txt_size

/-- Params and a signature. -/
structure PxS (w : World) (b h L : Int) (v1 v2 v3 : Value) (W : World) : Prop where
  par : Blk W w.heap.size 29 #[.int .i64 b, .int .i64 h]
  sig : Blk W (w.heap.size + 1) 27 #[.int .i64 L, v1, v2, v3]
  bel : Below w.heap.size w W
theorem PxS.below {w W W' : World} {b h L : Int} {v1 v2 v3 : Value} (k : PxS w b h L v1 v2 v3 W) (hb : Below W.heap.size W W') : PxS w b h L v1 v2 v3 W' :=
  ⟨k.par.below hb, k.sig.below hb, k.bel.trans (hb.mono k.bel.size)⟩
theorem PxS.new (w : World) (b h L : Int) (v1 v2 v3 : Value) : PxS w b h L v1 v2 v3 ((w.alloc (.cells #[.int .i64 b, .int .i64 h] 29)).alloc (.cells #[.int .i64 L, v1, v2, v3] 27)) := by
  have hk1 : (w.alloc (.cells #[.int .i64 b, .int .i64 h] 29)).heap.size = w.heap.size + 1 := by simp
  have h2 := Blk.new (w.alloc (.cells #[.int .i64 b, .int .i64 h] 29)) 27 #[.int .i64 L, v1, v2, v3]
  rw [hk1] at h2
  exact ⟨(Blk.new w 29 _).alloc _, h2, ((Below.refl _ _).alloc (Nat.le_refl _) _).alloc (by simp) _⟩
/-- What fits. -/
def fitsP (b h L : Int) (k1 k2 k3 : Nat) : Prop := rgtP b h = true ∧ 0 ≤ L ∧ L < (lvs b h : Nat) ∧ (k1 : Int) = b ∧ (k2 : Int) = b ∧ (k3 : Int) = h
set_option maxRecDepth 100000 in
set_option maxHeartbeats 8000000 in
theorem fits_yes (b h L : Int) (A B C : Option Addr) (k1 k2 k3 c1 c2 c3 : Nat) (hf : fitsP b h L k1 k2 k3) (w : World) :
    Calls Tryz.prog 25 #[.agg #[.int .i64 b, .int .i64 h], .agg #[.int .i64 L, .slice A k1 c1, .slice B k2 c2, .slice C k3 c3]] w fun e w' => e = .returned (.bool true) ∧ Below w.heap.size w w' := by
  have mixed : Tryz.prog.follows .mixedOrders = true := by kernel_rfl
  have cR := fun W => kright_any b h W
  obtain ⟨hr, h1, h2, h3, h4, h5⟩ := hf
  have cL := fun W => kleaves_any b h W
  rw [hr] at cR
  have z1 : decide (0 ≤ L) = true := decide_eq_true h1
  have z2 : decide (L < (lvs b h : Nat)) = true := decide_eq_true h2
  generalize lvs b h = P at *
  have z3 : ((k1 : Int) == b) = true := by simp; omega
  have z4 : ((k2 : Int) == b) = true := by simp; omega
  have z5 : ((k3 : Int) == h) = true := by simp; omega
  clear hr h3 h4 h5
  go_enter Tryz.func25, Tryz.ntmps25
  go_wp2
  have h0 := PxS.new w b h L (.slice A k1 c1) (.slice B k2 c2) (.slice C k3 c3)
  generalize (w.alloc (.cells #[.int .i64 b, .int .i64 h] 29)).alloc (.cells #[.int .i64 L, .slice A k1 c1, .slice B k2 c2, .slice C k3 c3] 27) = w0 at *
  have p0 : ∀ p : LaterW w0, p.w.cell? ⟨w.heap.size, 0, none⟩ = some (.int .i64 b) := fun p => (h0.below p.h).par.cell_ (i := 0) rfl
  have p1 : ∀ p : LaterW w0, p.w.cell? ⟨w.heap.size, 1, none⟩ = some (.int .i64 h) := fun p => (h0.below p.h).par.cell_ (i := 1) rfl
  have x0 : ∀ p : LaterW w0, p.w.cell? ⟨w.heap.size + 1, 0, none⟩ = some (.int .i64 L) := fun p => (h0.below p.h).sig.cell_ (i := 0) rfl
  have x1 : ∀ p : LaterW w0, p.w.cell? ⟨w.heap.size + 1, 1, none⟩ = some (.slice A k1 c1) := fun p => (h0.below p.h).sig.cell_ (i := 1) rfl
  have x2 : ∀ p : LaterW w0, p.w.cell? ⟨w.heap.size + 1, 2, none⟩ = some (.slice B k2 c2) := fun p => (h0.below p.h).sig.cell_ (i := 2) rfl
  have x3 : ∀ p : LaterW w0, p.w.cell? ⟨w.heap.size + 1, 3, none⟩ = some (.slice C k3 c3) := fun p => (h0.below p.h).sig.cell_ (i := 3) rfl
  refine wp_region_later mixed (by kernel_rfl) ?_
  repeat (first
    | ((with_reducible refine wpQuiet_skip (by with_unfolding_all rfl) ?_); simp only [Act.put, List.setIfInBounds_toArray, List.set_cons_zero, List.set_cons_succ])
    | ((with_reducible refine wpQuiet_step (fun K hK => ?_)); go_simp; first | ((with_reducible refine hK _ ?_); clear hK K) | (with_reducible apply Exists.intro; (with_reducible refine ⟨fun _ => ?_, hK _ ?_⟩); ((first | (go_at_call 24; exact later_of (cR _)) | (go_at_call 54; exact later_of (cL _)))); clear hK K)))
  with_reducible refine wpQuiet_nil ?_
  intro _ hw'
  obtain ⟨p, rfl⟩ := hw'
  have hp := p.h
  generalize p.w = w5 at *
  go_wp2
  go_ret
  exact ⟨rfl, h0.bel.trans (hp.mono h0.bel.size)⟩
end Go.Proofs.YticpdepbgcagaaaGreat

namespace Go.Proofs.YticpdepbgcagaaaGreat
open Go.RowKit Go.Qc
attribute [local go_sem] txt_size

/-- What a signature leads to. -/
def recB (a : List UInt8) (l r : List (List UInt8)) (n : Nat) : List UInt8 := joinB (sideL (pubF a l r) n)
theorem recB_length (a : List UInt8) (l r : List (List UInt8)) (n : Nat) : (recB a l r n).length = 32 := joinB_length _
def rootB (a : List UInt8) (l r way : List (List UInt8)) (n L : Nat) : List UInt8 := climbB L (recB a l r n) way
theorem rootB_length (a : List UInt8) (l r way : List (List UInt8)) (n L : Nat) : (rootB a l r way n L).length = 32 := climbB_length _ _ _ (recB_length _ _ _ _)
/-- Params, a sum, a signature, the answer's place. -/
structure RtS (w : World) (b h L : Int) (a : List UInt8) (v1 v2 v3 : Value) (W : World) : Prop where
  par : Blk W w.heap.size 29 #[.int .i64 b, .int .i64 h]
  sum : Blk W (w.heap.size + 1) 24 (idVals a)
  sig : Blk W (w.heap.size + 1 + 1) 27 #[.int .i64 L, v1, v2, v3]
  res : ∃ zc : Array Value, Blk W (w.heap.size + 1 + 1 + 1) 24 zc ∧ zc.size = 32
  bel : Below w.heap.size w W
theorem RtS.below {w W W' : World} {b h L : Int} {a : List UInt8} {v1 v2 v3 : Value} (k : RtS w b h L a v1 v2 v3 W) (hb : Below W.heap.size W W') : RtS w b h L a v1 v2 v3 W' :=
  ⟨k.par.below hb, k.sum.below hb, k.sig.below hb, k.res.imp fun _ ⟨x, y⟩ => ⟨x.below hb, y⟩, k.bel.trans (hb.mono k.bel.size)⟩
theorem RtS.put {w W W' : World} {b h L : Int} {a S : List UInt8} {v1 v2 v3 : Value} (k : RtS w b h L a v1 v2 v3 W) (hb : Blk W' (w.heap.size + 1 + 1 + 1) 24 (idVals S)) (hs : S.length = 32) (hg : W.grownBy W' (some (w.heap.size + 1 + 1 + 1))) : RtS w b h L a v1 v2 v3 W' :=
  ⟨blk_gb k.par hg (by omega), blk_gb k.sum hg (by omega), blk_gb k.sig hg (by omega), ⟨_, hb, by rw [idVals_size, hs]⟩, k.bel.grown hg k.bel.size (by intro i e; cases e; omega)⟩
theorem RtS.new (w : World) (b h L : Int) (a : List UInt8) (v1 v2 v3 : Value) (zc : Array Value) (hz : zc.size = 32) : RtS w b h L a v1 v2 v3 ((((w.alloc (.cells #[.int .i64 b, .int .i64 h] 29)).alloc (.cells (idVals a) 24)).alloc (.cells #[.int .i64 L, v1, v2, v3] 27)).alloc (.cells zc 24)) := by
  have hk1 : (w.alloc (.cells #[.int .i64 b, .int .i64 h] 29)).heap.size = w.heap.size + 1 := by simp
  have hk2 : ((w.alloc (.cells #[.int .i64 b, .int .i64 h] 29)).alloc (.cells (idVals a) 24)).heap.size = w.heap.size + 1 + 1 := by simp
  have hk3 : (((w.alloc (.cells #[.int .i64 b, .int .i64 h] 29)).alloc (.cells (idVals a) 24)).alloc (.cells #[.int .i64 L, v1, v2, v3] 27)).heap.size = w.heap.size + 1 + 1 + 1 := by simp
  have h2 := Blk.new (w.alloc (.cells #[.int .i64 b, .int .i64 h] 29)) 24 (idVals a)
  rw [hk1] at h2
  have h3 := Blk.new ((w.alloc (.cells #[.int .i64 b, .int .i64 h] 29)).alloc (.cells (idVals a) 24)) 27 #[.int .i64 L, v1, v2, v3]
  rw [hk2] at h3
  have h4 := Blk.new (((w.alloc (.cells #[.int .i64 b, .int .i64 h] 29)).alloc (.cells (idVals a) 24)).alloc (.cells #[.int .i64 L, v1, v2, v3] 27)) 24 zc
  rw [hk3] at h4
  exact ⟨(((Blk.new w 29 _).alloc _).alloc _).alloc _, (h2.alloc _).alloc _, h3.alloc _, ⟨zc, h4, hz⟩, ((((Below.refl _ _).alloc (Nat.le_refl _) _).alloc (by simp) _).alloc (by simp; omega) _).alloc (by simp; omega) _⟩
set_option maxRecDepth 100000 in
set_option maxHeartbeats 8000000 in
theorem root_yes (n t : Nat) (a : List UInt8) (ha : a.length = 32) (L : Nat) (A B C : Option Addr) (c1 c2 c3 : Nat) (l r way : List (List UInt8)) (hf : fitsP n t L n n t) (w : World) (hA : RowR w A n l) (hB : RowR w B n r) (hC : RowR w C t way) :
    Calls Tryz.prog 27 #[.agg #[.int .i64 n, .int .i64 t], .agg (idVals a), .agg #[.int .i64 L, .slice A n c1, .slice B n c2, .slice C t c3]] w fun e w' => e = .returned (.tuple #[.agg (idVals (rootB a l r way n L)), .int .i64 0]) ∧ Below w.heap.size w w' := by
  have hu := Tryz.underlying24
  obtain ⟨hr, _, hL, _⟩ := id hf
  have hp := rgtP_parts hr
  have hn8 : n ≤ 256 := by have := rgt_le9 hp.1; omega
  have hLb : (L : Int) ≤ 9223372036854775807 := by
    rw [lvs_ok hr] at hL
    have : 2 ^ t ≤ 2 ^ 10 := Nat.pow_le_pow_right (by decide) (by omega)
    omega
  have cF := fun W => fits_yes n t L A B C n n t c1 c2 c3 hf W
  obtain ⟨J, hJ⟩ : ∃ J, J = recB a l r n := ⟨_, rfl⟩
  have lJ : J.length = 32 := by rw [hJ]; exact recB_length _ _ _ _
  obtain ⟨S, hS⟩ : ∃ S, S = rootB a l r way n L := ⟨_, rfl⟩
  have lS : S.length = 32 := by rw [hS]; exact rootB_length _ _ _ _ _ _
  have hSJ : S = climbB L J way := by rw [hS, hJ]; rfl
  have cR : ∀ W, Below w.heap.size w W → Calls Tryz.prog 57 #[.agg (List.map u8v a).toArray, .slice A n c1, .slice B n c2] W fun e w' => e = .returned (.tuple #[.agg (idVals J), .int .i64 0]) ∧ Below W.heap.size W w' := fun W h => by
    rw [hJ]; exact recover_any a ha A B n c1 c2 l r hn8 hp.1 W (hA.below h) (hB.below h)
  have cC : ∀ W, Below w.heap.size w W → Calls Tryz.prog 58 #[.int .i64 L, .agg (List.map u8v J).toArray, .slice C t c3] W fun e w' => e = .returned (.agg (idVals S)) ∧ Below W.heap.size W w' := fun W h => by
    have := climb_any L hLb J lJ C t c3 way W (hC.below h)
    rw [Int.toNat_natCast] at this
    rw [hSJ]; exact this
  rw [← hS]
  have hza : (Tryz.prog.info? 24).map (·.size) = some (a.map u8v).length := by rw [List.length_map, ha]; exact sizeId
  have hzJ : (Tryz.prog.info? 24).map (·.size) = some (J.map u8v).length := by rw [List.length_map, lJ]; exact sizeId
  have HJ := hid lJ
  have HS := hid lS
  clear hJ hS lJ lS hSJ hr hp hL hLb hf ha hA hB hC hn8
  go_enter Tryz.func27, Tryz.ntmps27
  go_wp2_with (fail)
  have h0 := RtS.new w n t L a (.slice A n c1) (.slice B n c2) (.slice C t c3) #[.int .u8 0, .int .u8 0, .int .u8 0, .int .u8 0, .int .u8 0, .int .u8 0, .int .u8 0, .int .u8 0, .int .u8 0, .int .u8 0, .int .u8 0, .int .u8 0, .int .u8 0, .int .u8 0, .int .u8 0, .int .u8 0, .int .u8 0, .int .u8 0, .int .u8 0, .int .u8 0, .int .u8 0, .int .u8 0, .int .u8 0, .int .u8 0, .int .u8 0, .int .u8 0, .int .u8 0, .int .u8 0, .int .u8 0, .int .u8 0, .int .u8 0, .int .u8 0] rfl
  generalize (((w.alloc (.cells #[.int .i64 (n : Int), .int .i64 (t : Int)] 29)).alloc (.cells (idVals a) 24)).alloc (.cells #[.int .i64 (L : Int), .slice A n c1, .slice B n c2, .slice C t c3] 27)).alloc (.cells _ 24) = w0 at *
  refine (cF _).mono ?_
  rintro e1 w1 ⟨rfl, hb1⟩
  have hk := h0.below hb1
  clear h0 hb1
  have p0 := hk.par.cell_ (i := 0) rfl; have p1 := hk.par.cell_ (i := 1) rfl; have x0 := hk.sig.cell_ (i := 0) rfl; have x1 := hk.sig.cell_ (i := 1) rfl; have x2 := hk.sig.cell_ (i := 2) rfl; have x3 := hk.sig.cell_ (i := 3) rfl; have hxs := range_blk hk.sum
  go_wp2_with (first
    | (with_reducible refine wpList_load_if (by with_unfolding_all rfl) 24 _ rfl _ _ rfl (a.map u8v) _ hxs hu (by with_unfolding_all rfl) hza ?_)
    | (go_at_call 57; (with_reducible refine (cR _ hk.bel).mono ?_); rintro e2 w2 ⟨rfl, hb2⟩; replace hk := hk.below hb2; clear hb2; clear p0 p1 x0 x1 x2 x3 hxs; have p0 := hk.par.cell_ (i := 0) rfl; have p1 := hk.par.cell_ (i := 1) rfl; have x0 := hk.sig.cell_ (i := 0) rfl; have x1 := hk.sig.cell_ (i := 1) rfl; have x2 := hk.sig.cell_ (i := 2) rfl; have x3 := hk.sig.cell_ (i := 3) rfl; have hxs := range_blk hk.sum)
    | ((with_reducible refine wpList_store_newid rfl _ _ rfl J HJ.out rfl rfl (by with_unfolding_all rfl) ?_); intro w3 hx3 hb3; replace hk := hk.below hb3; clear hb3; clear p0 p1 x0 x1 x2 x3 hxs; have p0 := hk.par.cell_ (i := 0) rfl; have p1 := hk.par.cell_ (i := 1) rfl; have x0 := hk.sig.cell_ (i := 0) rfl; have x1 := hk.sig.cell_ (i := 1) rfl; have x2 := hk.sig.cell_ (i := 2) rfl; have x3 := hk.sig.cell_ (i := 3) rfl; have hxs := range_blk hk.sum)
    | (with_reducible refine wpList_load_if (by with_unfolding_all rfl) 24 _ rfl _ _ rfl (J.map u8v) _ hx3 hu (by with_unfolding_all rfl) hzJ ?_)
    | (go_at_call 58; (with_reducible refine (cC _ hk.bel).mono ?_); rintro e4 w4 ⟨rfl, hb4⟩; replace hk := hk.below hb4; obtain ⟨zc, hzc, hzz⟩ := hk.res)
    | (with_reducible refine wpList_store_blk rfl 24 _ _ rfl (w.heap.size + 1 + 1 + 1) zc (idVals S) 24 hzc rfl rfl ?d2 ?d3 (idVals_one _) ?_))
  case d2 => rw [idVals_size, HS.out]; try exact sizeId
  case d3 => rw [idVals_size, HS.out, hzz]
  intro w9 hb9 hg9
  go_wp2
  refine bodyPost_ret (results_cellt rfl _ _ _ _ _ _ rfl hb9 Tryz.underlying24 rfl (by rw [idVals_size, HS.out]; exact sizeId)) rfl ⟨rfl, ?_⟩
  exact hk.bel.grown hg9 hk.bel.size (by intro i e; cases e; omega)
/-- Params, a key, a sum, a signature. -/
structure VrS (w : World) (b h L : Int) (q a : List UInt8) (v1 v2 v3 : Value) (W : World) : Prop where
  par : Blk W w.heap.size 29 #[.int .i64 b, .int .i64 h]
  key : Blk W (w.heap.size + 1) 24 (idVals q)
  sum : Blk W (w.heap.size + 1 + 1) 24 (idVals a)
  sig : Blk W (w.heap.size + 1 + 1 + 1) 27 #[.int .i64 L, v1, v2, v3]
  bel : Below w.heap.size w W
theorem VrS.below {w W W' : World} {b h L : Int} {q a : List UInt8} {v1 v2 v3 : Value} (k : VrS w b h L q a v1 v2 v3 W) (hb : Below W.heap.size W W') : VrS w b h L q a v1 v2 v3 W' :=
  ⟨k.par.below hb, k.key.below hb, k.sum.below hb, k.sig.below hb, k.bel.trans (hb.mono k.bel.size)⟩
theorem VrS.new (w : World) (b h L : Int) (q a : List UInt8) (v1 v2 v3 : Value) : VrS w b h L q a v1 v2 v3 ((((w.alloc (.cells #[.int .i64 b, .int .i64 h] 29)).alloc (.cells (idVals q) 24)).alloc (.cells (idVals a) 24)).alloc (.cells #[.int .i64 L, v1, v2, v3] 27)) := by
  have hk1 : (w.alloc (.cells #[.int .i64 b, .int .i64 h] 29)).heap.size = w.heap.size + 1 := by simp
  have hk2 : ((w.alloc (.cells #[.int .i64 b, .int .i64 h] 29)).alloc (.cells (idVals q) 24)).heap.size = w.heap.size + 1 + 1 := by simp
  have hk3 : (((w.alloc (.cells #[.int .i64 b, .int .i64 h] 29)).alloc (.cells (idVals q) 24)).alloc (.cells (idVals a) 24)).heap.size = w.heap.size + 1 + 1 + 1 := by simp
  have h2 := Blk.new (w.alloc (.cells #[.int .i64 b, .int .i64 h] 29)) 24 (idVals q)
  rw [hk1] at h2
  have h3 := Blk.new ((w.alloc (.cells #[.int .i64 b, .int .i64 h] 29)).alloc (.cells (idVals q) 24)) 24 (idVals a)
  rw [hk2] at h3
  have h4 := Blk.new (((w.alloc (.cells #[.int .i64 b, .int .i64 h] 29)).alloc (.cells (idVals q) 24)).alloc (.cells (idVals a) 24)) 27 #[.int .i64 L, v1, v2, v3]
  rw [hk3] at h4
  exact ⟨(((Blk.new w 29 _).alloc _).alloc _).alloc _, (h2.alloc _).alloc _, h3.alloc _, h4, ((((Below.refl _ _).alloc (Nat.le_refl _) _).alloc (by simp) _).alloc (by simp; omega) _).alloc (by simp; omega) _⟩
set_option maxRecDepth 100000 in
set_option maxHeartbeats 8000000 in
theorem verify_yes (q : List UInt8) (hq : q.length = 32) (n t : Nat) (a : List UInt8) (ha : a.length = 32) (L : Nat) (A B C : Option Addr) (c1 c2 c3 : Nat) (l r way : List (List UInt8)) (hf : fitsP n t L n n t) (w : World) (hA : RowR w A n l) (hB : RowR w B n r) (hC : RowR w C t way) :
    Calls Tryz.prog 29 #[.agg #[.int .i64 n, .int .i64 t], .agg (idVals q), .agg (idVals a), .agg #[.int .i64 L, .slice A n c1, .slice B n c2, .slice C t c3]] w fun e w' => e = .returned (.int .i64 (if keyB n t (rootB a l r way n L) = q then 0 else 9)) ∧ Below w.heap.size w w' := by
  have hu := Tryz.underlying24
  obtain ⟨hr, _, hL, _⟩ := id hf
  have cR : ∀ W, Below w.heap.size w W → Calls Tryz.prog 27 #[.agg #[.int .i64 n, .int .i64 t], .agg (List.map u8v a).toArray, .agg #[.int .i64 L, .slice A n c1, .slice B n c2, .slice C t c3]] W fun e w' => e = .returned (.tuple #[.agg (idVals (rootB a l r way n L)), .int .i64 0]) ∧ Below W.heap.size W w' := fun W h => root_yes n t a ha L A B C c1 c2 c3 l r way hf W (hA.below h) (hB.below h) (hC.below h)
  have lS := rootB_length a l r way n L
  generalize rootB a l r way n L = S at *
  have cK : ∀ W : World, Calls Tryz.prog 28 #[.agg #[.int .i64 n, .int .i64 t], .agg (List.map u8v S).toArray] W fun e w' => e = .returned (.tuple #[.agg (idVals (keyB n t S)), .int .i64 0]) ∧ Below W.heap.size W w' := fun W => key_any n t hr S lS W
  have lT := keyB_length n t S
  generalize keyB n t S = T at *
  obtain ⟨z, hz⟩ : ∃ z, decide (T = q) = z := ⟨_, rfl⟩
  have heq : ∀ W, (Op.equalIn 10000 24 (.agg (List.map u8v T).toArray) (.agg (List.map u8v q).toArray)).run Tryz.prog W = .ok z W := fun W => (ids_eq W T q lT hq).trans (by rw [hz])
  have hza : (Tryz.prog.info? 24).map (·.size) = some (a.map u8v).length := by rw [List.length_map, ha]; exact sizeId
  have hzq : (Tryz.prog.info? 24).map (·.size) = some (q.map u8v).length := by rw [List.length_map, hq]; exact sizeId
  have hzS : (Tryz.prog.info? 24).map (·.size) = some (S.map u8v).length := by rw [List.length_map, lS]; exact sizeId
  have hzT : (Tryz.prog.info? 24).map (·.size) = some (T.map u8v).length := by rw [List.length_map, lT]; exact sizeId
  have HS := hid lS
  have HT := hid lT
  have HZ := hid hz
  clear lS lT hz hr hL hf hA hB hC hq ha
  cases z with
  | true =>
    rw [if_pos (of_decide_eq_true HZ.out)]
    have hk := VrS.new w n t L q a (.slice A n c1) (.slice B n c2) (.slice C t c3)
    have hx0 := range_blk hk.sum
    go_enter Tryz.func29, Tryz.ntmps29
    go_wp2_with (first
      | (with_reducible refine wpList_load_if (by with_unfolding_all rfl) 24 _ rfl _ _ rfl (a.map u8v) _ hx0 hu (by with_unfolding_all rfl) hza ?_)
      | (go_at_call 27; (with_reducible refine (cR _ hk.bel).mono ?_); rintro e1 w1 ⟨rfl, hb1⟩; replace hk := hk.below hb1; clear hb1 hx0; have p0 := hk.par.cell_ (i := 0) rfl; have p1 := hk.par.cell_ (i := 1) rfl; have x0 := hk.sig.cell_ (i := 0) rfl; have x1 := hk.sig.cell_ (i := 1) rfl; have x2 := hk.sig.cell_ (i := 2) rfl; have x3 := hk.sig.cell_ (i := 3) rfl; have hxs := range_blk hk.sum; have hxq := range_blk hk.key)
      | ((with_reducible refine wpList_store_newid rfl _ _ rfl S HS.out rfl rfl (by with_unfolding_all rfl) ?_); intro w3 hx3 hb3; replace hk := hk.below hb3; clear hb3; clear p0 p1 x0 x1 x2 x3 hxs hxq; have p0 := hk.par.cell_ (i := 0) rfl; have p1 := hk.par.cell_ (i := 1) rfl; have x0 := hk.sig.cell_ (i := 0) rfl; have x1 := hk.sig.cell_ (i := 1) rfl; have x2 := hk.sig.cell_ (i := 2) rfl; have x3 := hk.sig.cell_ (i := 3) rfl; have hxs := range_blk hk.sum; have hxq := range_blk hk.key)
      | (with_reducible refine wpList_load_if (by with_unfolding_all rfl) 24 _ rfl _ _ rfl (S.map u8v) _ hx3 hu (by with_unfolding_all rfl) hzS ?_)
      | (go_at_call 28; (with_reducible refine (cK _).mono ?_); rintro e4 w4 ⟨rfl, hb4⟩; replace hk := hk.below hb4; clear hb4; clear p0 p1 x0 x1 x2 x3 hxs hxq; have p0 := hk.par.cell_ (i := 0) rfl; have p1 := hk.par.cell_ (i := 1) rfl; have x0 := hk.sig.cell_ (i := 0) rfl; have x1 := hk.sig.cell_ (i := 1) rfl; have x2 := hk.sig.cell_ (i := 2) rfl; have x3 := hk.sig.cell_ (i := 3) rfl; have hxs := range_blk hk.sum; have hxq := range_blk hk.key)
      | ((with_reducible refine wpList_store_newid rfl _ _ rfl T HT.out rfl rfl (by with_unfolding_all rfl) ?_); intro w5 hx5 hb5; replace hk := hk.below hb5; clear hb5; clear p0 p1 x0 x1 x2 x3 hxs hxq; have p0 := hk.par.cell_ (i := 0) rfl; have p1 := hk.par.cell_ (i := 1) rfl; have x0 := hk.sig.cell_ (i := 0) rfl; have x1 := hk.sig.cell_ (i := 1) rfl; have x2 := hk.sig.cell_ (i := 2) rfl; have x3 := hk.sig.cell_ (i := 3) rfl; have hxs := range_blk hk.sum; have hxq := range_blk hk.key)
      | (with_reducible refine wpList_load_if (by with_unfolding_all rfl) 24 _ rfl _ _ rfl (T.map u8v) _ hx5 hu (by with_unfolding_all rfl) hzT ?_)
      | (with_reducible refine wpList_load_if (by with_unfolding_all rfl) 24 _ rfl _ _ rfl (q.map u8v) _ hxq hu (by with_unfolding_all rfl) hzq ?_))
    go_ret
    exact ⟨rfl, hk.bel⟩
  | false =>
    rw [if_neg (of_decide_eq_false HZ.out)]
    have hk := VrS.new w n t L q a (.slice A n c1) (.slice B n c2) (.slice C t c3)
    have hx0 := range_blk hk.sum
    go_enter Tryz.func29, Tryz.ntmps29
    go_wp2_with (first
      | (with_reducible refine wpList_load_if (by with_unfolding_all rfl) 24 _ rfl _ _ rfl (a.map u8v) _ hx0 hu (by with_unfolding_all rfl) hza ?_)
      | (go_at_call 27; (with_reducible refine (cR _ hk.bel).mono ?_); rintro e1 w1 ⟨rfl, hb1⟩; replace hk := hk.below hb1; clear hb1 hx0; have p0 := hk.par.cell_ (i := 0) rfl; have p1 := hk.par.cell_ (i := 1) rfl; have x0 := hk.sig.cell_ (i := 0) rfl; have x1 := hk.sig.cell_ (i := 1) rfl; have x2 := hk.sig.cell_ (i := 2) rfl; have x3 := hk.sig.cell_ (i := 3) rfl; have hxs := range_blk hk.sum; have hxq := range_blk hk.key)
      | ((with_reducible refine wpList_store_newid rfl _ _ rfl S HS.out rfl rfl (by with_unfolding_all rfl) ?_); intro w3 hx3 hb3; replace hk := hk.below hb3; clear hb3; clear p0 p1 x0 x1 x2 x3 hxs hxq; have p0 := hk.par.cell_ (i := 0) rfl; have p1 := hk.par.cell_ (i := 1) rfl; have x0 := hk.sig.cell_ (i := 0) rfl; have x1 := hk.sig.cell_ (i := 1) rfl; have x2 := hk.sig.cell_ (i := 2) rfl; have x3 := hk.sig.cell_ (i := 3) rfl; have hxs := range_blk hk.sum; have hxq := range_blk hk.key)
      | (with_reducible refine wpList_load_if (by with_unfolding_all rfl) 24 _ rfl _ _ rfl (S.map u8v) _ hx3 hu (by with_unfolding_all rfl) hzS ?_)
      | (go_at_call 28; (with_reducible refine (cK _).mono ?_); rintro e4 w4 ⟨rfl, hb4⟩; replace hk := hk.below hb4; clear hb4; clear p0 p1 x0 x1 x2 x3 hxs hxq; have p0 := hk.par.cell_ (i := 0) rfl; have p1 := hk.par.cell_ (i := 1) rfl; have x0 := hk.sig.cell_ (i := 0) rfl; have x1 := hk.sig.cell_ (i := 1) rfl; have x2 := hk.sig.cell_ (i := 2) rfl; have x3 := hk.sig.cell_ (i := 3) rfl; have hxs := range_blk hk.sum; have hxq := range_blk hk.key)
      | ((with_reducible refine wpList_store_newid rfl _ _ rfl T HT.out rfl rfl (by with_unfolding_all rfl) ?_); intro w5 hx5 hb5; replace hk := hk.below hb5; clear hb5; clear p0 p1 x0 x1 x2 x3 hxs hxq; have p0 := hk.par.cell_ (i := 0) rfl; have p1 := hk.par.cell_ (i := 1) rfl; have x0 := hk.sig.cell_ (i := 0) rfl; have x1 := hk.sig.cell_ (i := 1) rfl; have x2 := hk.sig.cell_ (i := 2) rfl; have x3 := hk.sig.cell_ (i := 3) rfl; have hxs := range_blk hk.sum; have hxq := range_blk hk.key)
      | (with_reducible refine wpList_load_if (by with_unfolding_all rfl) 24 _ rfl _ _ rfl (T.map u8v) _ hx5 hu (by with_unfolding_all rfl) hzT ?_)
      | (with_reducible refine wpList_load_if (by with_unfolding_all rfl) 24 _ rfl _ _ rfl (q.map u8v) _ hxq hu (by with_unfolding_all rfl) hzq ?_))
    go_ret
    exact ⟨rfl, hk.bel⟩
end Go.Proofs.YticpdepbgcagaaaGreat


/- Proved: for all params, keys, sums and signatures, quitclaimlaw08.SignerVerifies returns true and leaves its arguments as they were. No conditions. -/
import Derived.Test.YtfdbgmnnahcejaaSvA
namespace Go.Proofs.Ytfdbgmnnahcejaa
open Go.RowKit Go.Qc
open Go.ChangeShapes Go.WideShapes Go.ChangeAt
attribute [local go_sem] txt_size

set_option maxRecDepth 100000 in
set_option maxHeartbeats 8000000 in
theorem vers_long1 (q a : List UInt8) (b h L : Int) (A B C : Option Addr) (k1 k2 k3 c1 c2 c3 : Nat) (h1 : 20 < k1) (w : World) :
    Calls Try.prog 9 #[.agg #[.int .i64 b, .int .i64 h], .agg (idVals q), .agg (idVals a), .agg #[.int .i64 L, .slice A k1 c1, .slice B k2 c2, .slice C k3 c3]] w fun e w' => e = .returned (.bool true) ∧ Below w.heap.size w w' := by
  have hk := VrS.new w b h L q a (.slice A k1 c1) (.slice B k2 c2) (.slice C k3 c3)
  have z1 : (20 : Int) < k1 := by omega
  go_enter Try.func9, Try.ntmps9
  go_wp2_with (first
    | (go_at_call 66; (with_reducible refine (awake8_any _).mono ?_); rintro e9 w9 ⟨rfl, hb9⟩))
  go_ret
  exact ⟨rfl, hk.bel.trans (hb9.mono hk.bel.size)⟩
set_option maxRecDepth 100000 in
set_option maxHeartbeats 8000000 in
theorem vers_long2 (q a : List UInt8) (b h L : Int) (A B C : Option Addr) (k1 k2 k3 c1 c2 c3 : Nat) (h1 : ¬ 20 < k1) (h2 : 20 < k2) (w : World) :
    Calls Try.prog 9 #[.agg #[.int .i64 b, .int .i64 h], .agg (idVals q), .agg (idVals a), .agg #[.int .i64 L, .slice A k1 c1, .slice B k2 c2, .slice C k3 c3]] w fun e w' => e = .returned (.bool true) ∧ Below w.heap.size w w' := by
  have hk := VrS.new w b h L q a (.slice A k1 c1) (.slice B k2 c2) (.slice C k3 c3)
  have z1 : ¬ (20 : Int) < k1 := by omega
  have z2 : (20 : Int) < k2 := by omega
  go_enter Try.func9, Try.ntmps9
  go_wp2_with (first
    | (go_at_call 66; (with_reducible refine (awake8_any _).mono ?_); rintro e9 w9 ⟨rfl, hb9⟩))
  go_ret
  exact ⟨rfl, hk.bel.trans (hb9.mono hk.bel.size)⟩
set_option maxRecDepth 100000 in
set_option maxHeartbeats 8000000 in
theorem vers_long3 (q a : List UInt8) (b h L : Int) (A B C : Option Addr) (k1 k2 k3 c1 c2 c3 : Nat) (h1 : ¬ 20 < k1) (h2 : ¬ 20 < k2) (h3 : 12 < k3) (w : World) :
    Calls Try.prog 9 #[.agg #[.int .i64 b, .int .i64 h], .agg (idVals q), .agg (idVals a), .agg #[.int .i64 L, .slice A k1 c1, .slice B k2 c2, .slice C k3 c3]] w fun e w' => e = .returned (.bool true) ∧ Below w.heap.size w w' := by
  have hk := VrS.new w b h L q a (.slice A k1 c1) (.slice B k2 c2) (.slice C k3 c3)
  have z1 : ¬ (20 : Int) < k1 := by omega
  have z2 : ¬ (20 : Int) < k2 := by omega
  have z3 : (12 : Int) < k3 := by omega
  go_enter Try.func9, Try.ntmps9
  go_wp2_with (first
    | (go_at_call 66; (with_reducible refine (awake8_any _).mono ?_); rintro e9 w9 ⟨rfl, hb9⟩))
  go_ret
  exact ⟨rfl, hk.bel.trans (hb9.mono hk.bel.size)⟩
set_option maxRecDepth 100000 in
set_option maxHeartbeats 40000000 in
theorem vers_unfit (q a : List UInt8) (hq : q.length = 32) (ha : a.length = 32) (b h L : Int) (A B C : Option Addr) (k1 k2 k3 c1 c2 c3 : Nat) (hf : ¬ fitsP b h L k1 k2 k3) (h1 : ¬ 20 < k1) (h2 : ¬ 20 < k2) (h3 : ¬ 12 < k3) (w : World) :
    Calls Try.prog 9 #[.agg #[.int .i64 b, .int .i64 h], .agg (idVals q), .agg (idVals a), .agg #[.int .i64 L, .slice A k1 c1, .slice B k2 c2, .slice C k3 c3]] w fun e w' => e = .returned (.bool true) ∧ Below w.heap.size w w' := by
  have z1 : ¬ (20 : Int) < k1 := by omega
  have z2 : ¬ (20 : Int) < k2 := by omega
  have z3 : ¬ (12 : Int) < k3 := by omega
  have cF := fun W => fits_no b h L A B C k1 k2 k3 c1 c2 c3 hf W
  have cG := fun W => rfits_no b h L A B C k1 k2 k3 c1 c2 c3 hf W
  have cR : ∀ W, Below w.heap.size w W → Calls Try.prog 77 #[.agg #[.int .i64 b, .int .i64 h], .agg (List.map u8v a).toArray, .agg #[.int .i64 L, .slice A k1 c1, .slice B k2 c2, .slice C k3 c3]] W fun e w' => e = .returned (.tuple #[.agg (idVals zeroB), .int .i64 3]) ∧ Below W.heap.size W w' := fun W _ => root_no b h L a A B C k1 k2 k3 c1 c2 c3 hf W
  have cV1 : ∀ W, Below w.heap.size w W → Calls Try.prog 76 #[.agg #[.int .i64 b, .int .i64 h], .agg (List.map u8v q).toArray, .agg (List.map u8v a).toArray, .agg #[.int .i64 L, .slice A k1 c1, .slice B k2 c2, .slice C k3 c3]] W fun e w' => e = .returned (.int .i64 3) ∧ Below W.heap.size W w' := fun W _ => verify_no q b h L a ha A B C k1 k2 k3 c1 c2 c3 hf W
  have lS : zeroB.length = 32 := rfl
  have heqZ : ∀ W, (Op.equalIn 10000 24 (.agg (List.map u8v zeroB).toArray) (.agg #[.int .u8 0, .int .u8 0, .int .u8 0, .int .u8 0, .int .u8 0, .int .u8 0, .int .u8 0, .int .u8 0, .int .u8 0, .int .u8 0, .int .u8 0, .int .u8 0, .int .u8 0, .int .u8 0, .int .u8 0, .int .u8 0, .int .u8 0, .int .u8 0, .int .u8 0, .int .u8 0, .int .u8 0, .int .u8 0, .int .u8 0, .int .u8 0, .int .u8 0, .int .u8 0, .int .u8 0, .int .u8 0, .int .u8 0, .int .u8 0, .int .u8 0, .int .u8 0])).run Try.prog W = .ok true W := fun W => (ids_eq W zeroB zeroB rfl rfl).trans (by rw [decide_eq_true rfl])
  have hza : (Try.prog.info? 24).map (·.size) = some (a.map u8v).length := by rw [List.length_map, ha]; exact sizeId
  have hzq : (Try.prog.info? 24).map (·.size) = some (q.map u8v).length := by rw [List.length_map, hq]; exact sizeId
  have hzS : (Try.prog.info? 24).map (·.size) = some (zeroB.map u8v).length := sizeId
  have hu := Try.underlying24
  have mixed : Try.prog.follows .mixedOrders = true := by kernel_rfl
  have HS := hid lS
  clear lS hf hq ha h1 h2 h3
  have hk := VrS.new w b h L q a (.slice A k1 c1) (.slice B k2 c2) (.slice C k3 c3)
  have p0 := hk.par.cell_ (i := 0) rfl; have p1 := hk.par.cell_ (i := 1) rfl; have x0 := hk.sig.cell_ (i := 0) rfl; have x1 := hk.sig.cell_ (i := 1) rfl; have x2 := hk.sig.cell_ (i := 2) rfl; have x3 := hk.sig.cell_ (i := 3) rfl; have hxs := range_blk hk.sum; have hxq := range_blk hk.key
  go_enter Try.func9, Try.ntmps9
  go_wp2_with (first
    | (with_reducible refine wpList_load_if (by with_unfolding_all rfl) 24 _ rfl _ _ rfl (a.map u8v) _ hxs hu (by with_unfolding_all rfl) hza ?_)
    | (with_reducible refine wpList_load_if (by with_unfolding_all rfl) 24 _ rfl _ _ rfl (q.map u8v) _ hxq hu (by with_unfolding_all rfl) hzq ?_)
    | (go_at_call 77; (with_reducible refine (cR _ hk.bel).mono ?_); rintro e1 w1 ⟨rfl, hb1⟩; replace hk := hk.below hb1; clear hb1; clear p0 p1 x0 x1 x2 x3 hxs hxq; have p0 := hk.par.cell_ (i := 0) rfl; have p1 := hk.par.cell_ (i := 1) rfl; have x0 := hk.sig.cell_ (i := 0) rfl; have x1 := hk.sig.cell_ (i := 1) rfl; have x2 := hk.sig.cell_ (i := 2) rfl; have x3 := hk.sig.cell_ (i := 3) rfl; have hxs := range_blk hk.sum; have hxq := range_blk hk.key)
    | ((with_reducible refine wpList_store_newid rfl _ _ rfl zeroB HS.out rfl rfl (by with_unfolding_all rfl) ?_); intro w2 hx2 hb2; replace hk := hk.below hb2; clear hb2; clear p0 p1 x0 x1 x2 x3 hxs hxq; have p0 := hk.par.cell_ (i := 0) rfl; have p1 := hk.par.cell_ (i := 1) rfl; have x0 := hk.sig.cell_ (i := 0) rfl; have x1 := hk.sig.cell_ (i := 1) rfl; have x2 := hk.sig.cell_ (i := 2) rfl; have x3 := hk.sig.cell_ (i := 3) rfl; have hxs := range_blk hk.sum; have hxq := range_blk hk.key)
    | (go_at_call 76; (with_reducible refine (cV1 _ hk.bel).mono ?_); rintro e3 w3 ⟨rfl, hb3⟩; replace hk := hk.below hb3; replace hx2 := hx2.below hb3; clear hb3; clear p0 p1 x0 x1 x2 x3 hxs hxq; have p0 := hk.par.cell_ (i := 0) rfl; have p1 := hk.par.cell_ (i := 1) rfl; have x0 := hk.sig.cell_ (i := 0) rfl; have x1 := hk.sig.cell_ (i := 1) rfl; have x2 := hk.sig.cell_ (i := 2) rfl; have x3 := hk.sig.cell_ (i := 3) rfl; have hxs := range_blk hk.sum; have hxq := range_blk hk.key))
  have lp0 : ∀ p : LaterW w3, p.w.cell? ⟨w.heap.size, 0, none⟩ = some (.int .i64 b) := fun p => (hk.below p.h).par.cell_ (i := 0) rfl
  have lp1 : ∀ p : LaterW w3, p.w.cell? ⟨w.heap.size, 1, none⟩ = some (.int .i64 h) := fun p => (hk.below p.h).par.cell_ (i := 1) rfl
  have lx0 : ∀ p : LaterW w3, p.w.cell? ⟨w.heap.size + 1 + 1 + 1, 0, none⟩ = some (.int .i64 L) := fun p => (hk.below p.h).sig.cell_ (i := 0) rfl
  have lx1 : ∀ p : LaterW w3, p.w.cell? ⟨w.heap.size + 1 + 1 + 1, 1, none⟩ = some (.slice A k1 c1) := fun p => (hk.below p.h).sig.cell_ (i := 1) rfl
  have lx2 : ∀ p : LaterW w3, p.w.cell? ⟨w.heap.size + 1 + 1 + 1, 2, none⟩ = some (.slice B k2 c2) := fun p => (hk.below p.h).sig.cell_ (i := 2) rfl
  have lx3 : ∀ p : LaterW w3, p.w.cell? ⟨w.heap.size + 1 + 1 + 1, 3, none⟩ = some (.slice C k3 c3) := fun p => (hk.below p.h).sig.cell_ (i := 3) rfl
  refine wp_region_later mixed (by kernel_rfl) ?_
  repeat (first
    | ((with_reducible refine wpQuiet_skip (by with_unfolding_all rfl) ?_); simp only [Act.put, List.setIfInBounds_toArray, List.set_cons_zero, List.set_cons_succ])
    | ((with_reducible refine wpQuiet_step (fun K hK => ?_)); go_simp; first | ((with_reducible refine hK _ ?_); clear hK K) | (with_reducible apply Exists.intro; (with_reducible refine ⟨fun _ => ?_, hK _ ?_⟩); ((first | (go_at_call 78; exact later_of (cF _)) | (go_at_call 79; exact later_of (cG _)))); clear hK K)))
  with_reducible refine wpQuiet_nil ?_
  intro _ hw'
  obtain ⟨p, rfl⟩ := hw'
  have hp := p.h
  generalize p.w = w4 at *
  replace hk := hk.below hp
  replace hx2 := hx2.below hp
  clear hp
  clear lp0 lp1 lx0 lx1 lx2 lx3
  clear p0 p1 x0 x1 x2 x3 hxs hxq; have p0 := hk.par.cell_ (i := 0) rfl; have p1 := hk.par.cell_ (i := 1) rfl; have x0 := hk.sig.cell_ (i := 0) rfl; have x1 := hk.sig.cell_ (i := 1) rfl; have x2 := hk.sig.cell_ (i := 2) rfl; have x3 := hk.sig.cell_ (i := 3) rfl; have hxs := range_blk hk.sum; have hxq := range_blk hk.key
  go_wp2_with (first
    | (go_at_call 79; (with_reducible refine (cG _).mono ?_); rintro e5 w5 ⟨rfl, hb5⟩; replace hk := hk.below hb5; replace hx2 := hx2.below hb5; clear hb5; clear p0 p1 x0 x1 x2 x3 hxs hxq; have p0 := hk.par.cell_ (i := 0) rfl; have p1 := hk.par.cell_ (i := 1) rfl; have x0 := hk.sig.cell_ (i := 0) rfl; have x1 := hk.sig.cell_ (i := 1) rfl; have x2 := hk.sig.cell_ (i := 2) rfl; have x3 := hk.sig.cell_ (i := 3) rfl; have hxs := range_blk hk.sum; have hxq := range_blk hk.key)
    | (with_reducible refine wpList_load_if (by with_unfolding_all rfl) 24 _ rfl _ _ rfl (zeroB.map u8v) _ hx2 hu (by with_unfolding_all rfl) hzS ?_)
    | (go_at_call 66; (with_reducible refine (awake8_any _).mono ?_); rintro e9 w9 ⟨rfl, hb9⟩))
  go_ret
  exact ⟨rfl, hk.bel.trans (hb9.mono hk.bel.size)⟩
set_option maxRecDepth 100000 in
set_option maxHeartbeats 40000000 in
theorem vers_fit (q a : List UInt8) (hq : q.length = 32) (ha : a.length = 32) (n t L : Nat) (A B C : Option Addr) (c1 c2 c3 : Nat) (l r way : List (List UInt8)) (hf : fitsP n t L n n t) (h1 : ¬ 20 < n) (h3 : ¬ 12 < t) (w : World) (hA : RowR w A n l) (hB : RowR w B n r) (hC : RowR w C t way) :
    Calls Try.prog 9 #[.agg #[.int .i64 (n : Int), .int .i64 (t : Int)], .agg (idVals q), .agg (idVals a), .agg #[.int .i64 L, .slice A n c1, .slice B n c2, .slice C t c3]] w fun e w' => e = .returned (.bool true) ∧ Below w.heap.size w w' := by
  have z1 : ¬ (20 : Int) < n := by omega
  have z3 : ¬ (12 : Int) < t := by omega
  obtain ⟨hr, _⟩ := id hf
  have cF := fun W => fits_yes n t L A B C n n t c1 c2 c3 hf W
  have cG := fun W => rfits_yes n t L A B C n n t c1 c2 c3 hf W
  have cR : ∀ W, Below w.heap.size w W → Calls Try.prog 77 #[.agg #[.int .i64 n, .int .i64 t], .agg (List.map u8v a).toArray, .agg #[.int .i64 L, .slice A n c1, .slice B n c2, .slice C t c3]] W fun e w' => e = .returned (.tuple #[.agg (idVals (rootB a l r way n L)), .int .i64 0]) ∧ Below W.heap.size W w' := fun W h => root_yes n t a ha L A B C c1 c2 c3 l r way hf W (hA.below h) (hB.below h) (hC.below h)
  have cV : ∀ (q : List UInt8) (W : World), q.length = 32 → Below w.heap.size w W → Calls Try.prog 76 #[.agg #[.int .i64 n, .int .i64 t], .agg (List.map u8v q).toArray, .agg (List.map u8v a).toArray, .agg #[.int .i64 L, .slice A n c1, .slice B n c2, .slice C t c3]] W fun e w' => e = .returned (.int .i64 (if keyB n t (rootB a l r way n L) = q then 0 else 9)) ∧ Below W.heap.size W w' := fun q W hq h => verify_yes q hq n t a ha L A B C c1 c2 c3 l r way hf W (hA.below h) (hB.below h) (hC.below h)
  have cK8 : ∀ W, Below w.heap.size w W → Calls Try.prog 80 #[.agg #[.int .i64 n, .int .i64 t], .agg (List.map u8v a).toArray, .agg #[.int .i64 L, .slice A n c1, .slice B n c2, .slice C t c3]] W fun e w' => e = .returned (.agg (idVals (keyB n t (rootB a l r way n L)))) ∧ Below W.heap.size W w' := fun W h => rkey8_any n t a ha L A B C c1 c2 c3 l r way hf W (hA.below h) (hB.below h) (hC.below h)
  have lS := rootB_length a l r way n L
  generalize rootB a l r way n L = S at *
  have cK : ∀ W : World, Calls Try.prog 56 #[.agg #[.int .i64 n, .int .i64 t], .agg (List.map u8v S).toArray] W fun e w' => e = .returned (.agg (idVals (keyB n t S))) ∧ Below W.heap.size W w' := fun W => rkey_any n t hr S lS W
  have lT := keyB_length n t S
  generalize keyB n t S = T at *
  have cV1 := fun W h => cV q W hq h
  have cV2 := fun W h => cV T W lT h
  rw [if_pos rfl] at cV2
  obtain ⟨z, hz⟩ : ∃ z, decide (T = q) = z := ⟨_, rfl⟩
  have heq : ∀ W, (Op.equalIn 10000 24 (.agg (List.map u8v T).toArray) (.agg (List.map u8v q).toArray)).run Try.prog W = .ok z W := fun W => (ids_eq W T q lT hq).trans (by rw [hz])
  have heqT : ∀ W, (Op.equalIn 10000 24 (.agg (idVals T)) (.agg (List.map u8v T).toArray)).run Try.prog W = .ok true W := fun W => (ids_eq W T T lT lT).trans (by rw [decide_eq_true rfl])
  have hza : (Try.prog.info? 24).map (·.size) = some (a.map u8v).length := by rw [List.length_map, ha]; exact sizeId
  have hzq : (Try.prog.info? 24).map (·.size) = some (q.map u8v).length := by rw [List.length_map, hq]; exact sizeId
  have hzS : (Try.prog.info? 24).map (·.size) = some (S.map u8v).length := by rw [List.length_map, lS]; exact sizeId
  have hzT : (Try.prog.info? 24).map (·.size) = some (T.map u8v).length := by rw [List.length_map, lT]; exact sizeId
  have hu := Try.underlying24
  have mixed : Try.prog.follows .mixedOrders = true := by kernel_rfl
  have HS := hid lS
  have HT := hid lT
  have HZ := hid hz
  clear lS lT hz hr hf hA hB hC hq ha h1 h3 cV
  cases z with
  | true =>
    rw [if_pos (of_decide_eq_true HZ.out)] at cV1
    have hk := VrS.new w (n : Int) (t : Int) L q a (.slice A n c1) (.slice B n c2) (.slice C t c3)
    have p0 := hk.par.cell_ (i := 0) rfl; have p1 := hk.par.cell_ (i := 1) rfl; have x0 := hk.sig.cell_ (i := 0) rfl; have x1 := hk.sig.cell_ (i := 1) rfl; have x2 := hk.sig.cell_ (i := 2) rfl; have x3 := hk.sig.cell_ (i := 3) rfl; have hxs := range_blk hk.sum; have hxq := range_blk hk.key
    go_enter Try.func9, Try.ntmps9
    go_wp2_with (first
      | (with_reducible refine wpList_load_if (by with_unfolding_all rfl) 24 _ rfl _ _ rfl (a.map u8v) _ hxs hu (by with_unfolding_all rfl) hza ?_)
      | (with_reducible refine wpList_load_if (by with_unfolding_all rfl) 24 _ rfl _ _ rfl (q.map u8v) _ hxq hu (by with_unfolding_all rfl) hzq ?_)
      | (go_at_call 77; (with_reducible refine (cR _ hk.bel).mono ?_); rintro e1 w1 ⟨rfl, hb1⟩; replace hk := hk.below hb1; clear hb1; clear p0 p1 x0 x1 x2 x3 hxs hxq; have p0 := hk.par.cell_ (i := 0) rfl; have p1 := hk.par.cell_ (i := 1) rfl; have x0 := hk.sig.cell_ (i := 0) rfl; have x1 := hk.sig.cell_ (i := 1) rfl; have x2 := hk.sig.cell_ (i := 2) rfl; have x3 := hk.sig.cell_ (i := 3) rfl; have hxs := range_blk hk.sum; have hxq := range_blk hk.key)
      | ((with_reducible refine wpList_store_newid rfl _ _ rfl S HS.out rfl rfl (by with_unfolding_all rfl) ?_); intro w2 hx2 hb2; replace hk := hk.below hb2; clear hb2; clear p0 p1 x0 x1 x2 x3 hxs hxq; have p0 := hk.par.cell_ (i := 0) rfl; have p1 := hk.par.cell_ (i := 1) rfl; have x0 := hk.sig.cell_ (i := 0) rfl; have x1 := hk.sig.cell_ (i := 1) rfl; have x2 := hk.sig.cell_ (i := 2) rfl; have x3 := hk.sig.cell_ (i := 3) rfl; have hxs := range_blk hk.sum; have hxq := range_blk hk.key)
      | (go_at_call 76; (with_reducible refine (cV1 _ hk.bel).mono ?_); rintro e3 w3 ⟨rfl, hb3⟩; replace hk := hk.below hb3; replace hx2 := hx2.below hb3; clear hb3; clear p0 p1 x0 x1 x2 x3 hxs hxq; have p0 := hk.par.cell_ (i := 0) rfl; have p1 := hk.par.cell_ (i := 1) rfl; have x0 := hk.sig.cell_ (i := 0) rfl; have x1 := hk.sig.cell_ (i := 1) rfl; have x2 := hk.sig.cell_ (i := 2) rfl; have x3 := hk.sig.cell_ (i := 3) rfl; have hxs := range_blk hk.sum; have hxq := range_blk hk.key))
    have lp0 : ∀ p : LaterW w3, p.w.cell? ⟨w.heap.size, 0, none⟩ = some (.int .i64 (n : Int)) := fun p => (hk.below p.h).par.cell_ (i := 0) rfl
    have lp1 : ∀ p : LaterW w3, p.w.cell? ⟨w.heap.size, 1, none⟩ = some (.int .i64 (t : Int)) := fun p => (hk.below p.h).par.cell_ (i := 1) rfl
    have lx0 : ∀ p : LaterW w3, p.w.cell? ⟨w.heap.size + 1 + 1 + 1, 0, none⟩ = some (.int .i64 L) := fun p => (hk.below p.h).sig.cell_ (i := 0) rfl
    have lx1 : ∀ p : LaterW w3, p.w.cell? ⟨w.heap.size + 1 + 1 + 1, 1, none⟩ = some (.slice A n c1) := fun p => (hk.below p.h).sig.cell_ (i := 1) rfl
    have lx2 : ∀ p : LaterW w3, p.w.cell? ⟨w.heap.size + 1 + 1 + 1, 2, none⟩ = some (.slice B n c2) := fun p => (hk.below p.h).sig.cell_ (i := 2) rfl
    have lx3 : ∀ p : LaterW w3, p.w.cell? ⟨w.heap.size + 1 + 1 + 1, 3, none⟩ = some (.slice C t c3) := fun p => (hk.below p.h).sig.cell_ (i := 3) rfl
    refine wp_region_later mixed (by kernel_rfl) ?_
    repeat (first
      | ((with_reducible refine wpQuiet_skip (by with_unfolding_all rfl) ?_); simp only [Act.put, List.setIfInBounds_toArray, List.set_cons_zero, List.set_cons_succ])
      | ((with_reducible refine wpQuiet_step (fun K hK => ?_)); go_simp; first | ((with_reducible refine hK _ ?_); clear hK K) | (with_reducible apply Exists.intro; (with_reducible refine ⟨fun _ => ?_, hK _ ?_⟩); ((first | (go_at_call 78; exact later_of (cF _)) | (go_at_call 79; exact later_of (cG _)))); clear hK K)))
    with_reducible refine wpQuiet_nil ?_
    intro _ hw'
    obtain ⟨p, rfl⟩ := hw'
    have hp := p.h
    generalize p.w = w4 at *
    replace hk := hk.below hp
    replace hx2 := hx2.below hp
    clear hp
    clear lp0 lp1 lx0 lx1 lx2 lx3
    clear p0 p1 x0 x1 x2 x3 hxs hxq; have p0 := hk.par.cell_ (i := 0) rfl; have p1 := hk.par.cell_ (i := 1) rfl; have x0 := hk.sig.cell_ (i := 0) rfl; have x1 := hk.sig.cell_ (i := 1) rfl; have x2 := hk.sig.cell_ (i := 2) rfl; have x3 := hk.sig.cell_ (i := 3) rfl; have hxs := range_blk hk.sum; have hxq := range_blk hk.key
    go_wp2_with (first
      | (go_at_call 79; (with_reducible refine (cG _).mono ?_); rintro e5 w5 ⟨rfl, hb5⟩; replace hk := hk.below hb5; replace hx2 := hx2.below hb5; clear hb5; clear p0 p1 x0 x1 x2 x3 hxs hxq; have p0 := hk.par.cell_ (i := 0) rfl; have p1 := hk.par.cell_ (i := 1) rfl; have x0 := hk.sig.cell_ (i := 0) rfl; have x1 := hk.sig.cell_ (i := 1) rfl; have x2 := hk.sig.cell_ (i := 2) rfl; have x3 := hk.sig.cell_ (i := 3) rfl; have hxs := range_blk hk.sum; have hxq := range_blk hk.key)
      | (with_reducible refine wpList_load_if (by with_unfolding_all rfl) 24 _ rfl _ _ rfl (a.map u8v) _ hxs hu (by with_unfolding_all rfl) hza ?_)
      | (go_at_call 80; (with_reducible refine (cK8 _ hk.bel).mono ?_); rintro e6 w6 ⟨rfl, hb6⟩; replace hk := hk.below hb6; replace hx2 := hx2.below hb6; clear hb6; clear p0 p1 x0 x1 x2 x3 hxs hxq; have p0 := hk.par.cell_ (i := 0) rfl; have p1 := hk.par.cell_ (i := 1) rfl; have x0 := hk.sig.cell_ (i := 0) rfl; have x1 := hk.sig.cell_ (i := 1) rfl; have x2 := hk.sig.cell_ (i := 2) rfl; have x3 := hk.sig.cell_ (i := 3) rfl; have hxs := range_blk hk.sum; have hxq := range_blk hk.key)
      | ((with_reducible refine wpList_store_newid rfl _ _ rfl T HT.out rfl rfl (by with_unfolding_all rfl) ?_); intro w7 hx7 hb7; replace hk := hk.below hb7; replace hx2 := hx2.below hb7; clear hb7; clear p0 p1 x0 x1 x2 x3 hxs hxq; have p0 := hk.par.cell_ (i := 0) rfl; have p1 := hk.par.cell_ (i := 1) rfl; have x0 := hk.sig.cell_ (i := 0) rfl; have x1 := hk.sig.cell_ (i := 1) rfl; have x2 := hk.sig.cell_ (i := 2) rfl; have x3 := hk.sig.cell_ (i := 3) rfl; have hxs := range_blk hk.sum; have hxq := range_blk hk.key))
    have lp0 : ∀ p : LaterW w7, p.w.cell? ⟨w.heap.size, 0, none⟩ = some (.int .i64 (n : Int)) := fun p => (hk.below p.h).par.cell_ (i := 0) rfl
    have lp1 : ∀ p : LaterW w7, p.w.cell? ⟨w.heap.size, 1, none⟩ = some (.int .i64 (t : Int)) := fun p => (hk.below p.h).par.cell_ (i := 1) rfl
    have lx0 : ∀ p : LaterW w7, p.w.cell? ⟨w.heap.size + 1 + 1 + 1, 0, none⟩ = some (.int .i64 L) := fun p => (hk.below p.h).sig.cell_ (i := 0) rfl
    have lx1 : ∀ p : LaterW w7, p.w.cell? ⟨w.heap.size + 1 + 1 + 1, 1, none⟩ = some (.slice A n c1) := fun p => (hk.below p.h).sig.cell_ (i := 1) rfl
    have lx2 : ∀ p : LaterW w7, p.w.cell? ⟨w.heap.size + 1 + 1 + 1, 2, none⟩ = some (.slice B n c2) := fun p => (hk.below p.h).sig.cell_ (i := 2) rfl
    have lx3 : ∀ p : LaterW w7, p.w.cell? ⟨w.heap.size + 1 + 1 + 1, 3, none⟩ = some (.slice C t c3) := fun p => (hk.below p.h).sig.cell_ (i := 3) rfl
    have fS := range_later hx2
    have fT := range_later hx7
    have fq := range_later hxq
    have fa := range_later hxs
    have lV := fun (p : LaterW w7) => cV2 p.w (hk.below p.h).bel
    generalize w6.heap.size = g6 at *
    generalize w1.heap.size = g1 at *
    refine wp_region_later mixed (by kernel_rfl) ?_
    repeat (first
      | ((with_reducible refine wpQuiet_skip (by with_unfolding_all rfl) ?_); simp only [Act.put, List.setIfInBounds_toArray, List.set_cons_zero, List.set_cons_succ])
      | ((with_reducible refine wpQuiet_load_if (by with_unfolding_all rfl) 24 _ rfl _ _ rfl (S.map u8v) _ fS hu (by with_unfolding_all rfl) hzS ?_); simp only [Act.put, List.setIfInBounds_toArray, List.set_cons_zero, List.set_cons_succ])
      | ((with_reducible refine wpQuiet_load_if (by with_unfolding_all rfl) 24 _ rfl _ _ rfl (T.map u8v) _ fT hu (by with_unfolding_all rfl) hzT ?_); simp only [Act.put, List.setIfInBounds_toArray, List.set_cons_zero, List.set_cons_succ])
      | ((with_reducible refine wpQuiet_load_if (by with_unfolding_all rfl) 24 _ rfl _ _ rfl (q.map u8v) _ fq hu (by with_unfolding_all rfl) hzq ?_); simp only [Act.put, List.setIfInBounds_toArray, List.set_cons_zero, List.set_cons_succ])
      | ((with_reducible refine wpQuiet_load_if (by with_unfolding_all rfl) 24 _ rfl _ _ rfl (a.map u8v) _ fa hu (by with_unfolding_all rfl) hza ?_); simp only [Act.put, List.setIfInBounds_toArray, List.set_cons_zero, List.set_cons_succ])
      | ((with_reducible refine wpQuiet_step (fun K hK => ?_)); go_simp; first | ((with_reducible refine hK _ ?_); clear hK K) | (with_reducible apply Exists.intro; (with_reducible refine ⟨fun _ => ?_, hK _ ?_⟩); ((first | (go_at_call 56; exact later_of (cK _)) | (go_at_call 76; exact later_of (lV _)) | (go_at_call 66; exact later_of (awake8_any _)))); clear hK K)))
    with_reducible refine wpQuiet_nil ?_
    intro _ hw'
    obtain ⟨p, rfl⟩ := hw'
    have hp := p.h
    generalize p.w = w8 at *
    go_wp2
    go_ret
    exact ⟨rfl, hk.bel.trans (hp.mono hk.bel.size)⟩
  | false =>
    rw [if_neg (of_decide_eq_false HZ.out)] at cV1
    have hk := VrS.new w (n : Int) (t : Int) L q a (.slice A n c1) (.slice B n c2) (.slice C t c3)
    have p0 := hk.par.cell_ (i := 0) rfl; have p1 := hk.par.cell_ (i := 1) rfl; have x0 := hk.sig.cell_ (i := 0) rfl; have x1 := hk.sig.cell_ (i := 1) rfl; have x2 := hk.sig.cell_ (i := 2) rfl; have x3 := hk.sig.cell_ (i := 3) rfl; have hxs := range_blk hk.sum; have hxq := range_blk hk.key
    go_enter Try.func9, Try.ntmps9
    go_wp2_with (first
      | (with_reducible refine wpList_load_if (by with_unfolding_all rfl) 24 _ rfl _ _ rfl (a.map u8v) _ hxs hu (by with_unfolding_all rfl) hza ?_)
      | (with_reducible refine wpList_load_if (by with_unfolding_all rfl) 24 _ rfl _ _ rfl (q.map u8v) _ hxq hu (by with_unfolding_all rfl) hzq ?_)
      | (go_at_call 77; (with_reducible refine (cR _ hk.bel).mono ?_); rintro e1 w1 ⟨rfl, hb1⟩; replace hk := hk.below hb1; clear hb1; clear p0 p1 x0 x1 x2 x3 hxs hxq; have p0 := hk.par.cell_ (i := 0) rfl; have p1 := hk.par.cell_ (i := 1) rfl; have x0 := hk.sig.cell_ (i := 0) rfl; have x1 := hk.sig.cell_ (i := 1) rfl; have x2 := hk.sig.cell_ (i := 2) rfl; have x3 := hk.sig.cell_ (i := 3) rfl; have hxs := range_blk hk.sum; have hxq := range_blk hk.key)
      | ((with_reducible refine wpList_store_newid rfl _ _ rfl S HS.out rfl rfl (by with_unfolding_all rfl) ?_); intro w2 hx2 hb2; replace hk := hk.below hb2; clear hb2; clear p0 p1 x0 x1 x2 x3 hxs hxq; have p0 := hk.par.cell_ (i := 0) rfl; have p1 := hk.par.cell_ (i := 1) rfl; have x0 := hk.sig.cell_ (i := 0) rfl; have x1 := hk.sig.cell_ (i := 1) rfl; have x2 := hk.sig.cell_ (i := 2) rfl; have x3 := hk.sig.cell_ (i := 3) rfl; have hxs := range_blk hk.sum; have hxq := range_blk hk.key)
      | (go_at_call 76; (with_reducible refine (cV1 _ hk.bel).mono ?_); rintro e3 w3 ⟨rfl, hb3⟩; replace hk := hk.below hb3; replace hx2 := hx2.below hb3; clear hb3; clear p0 p1 x0 x1 x2 x3 hxs hxq; have p0 := hk.par.cell_ (i := 0) rfl; have p1 := hk.par.cell_ (i := 1) rfl; have x0 := hk.sig.cell_ (i := 0) rfl; have x1 := hk.sig.cell_ (i := 1) rfl; have x2 := hk.sig.cell_ (i := 2) rfl; have x3 := hk.sig.cell_ (i := 3) rfl; have hxs := range_blk hk.sum; have hxq := range_blk hk.key))
    have lp0 : ∀ p : LaterW w3, p.w.cell? ⟨w.heap.size, 0, none⟩ = some (.int .i64 (n : Int)) := fun p => (hk.below p.h).par.cell_ (i := 0) rfl
    have lp1 : ∀ p : LaterW w3, p.w.cell? ⟨w.heap.size, 1, none⟩ = some (.int .i64 (t : Int)) := fun p => (hk.below p.h).par.cell_ (i := 1) rfl
    have lx0 : ∀ p : LaterW w3, p.w.cell? ⟨w.heap.size + 1 + 1 + 1, 0, none⟩ = some (.int .i64 L) := fun p => (hk.below p.h).sig.cell_ (i := 0) rfl
    have lx1 : ∀ p : LaterW w3, p.w.cell? ⟨w.heap.size + 1 + 1 + 1, 1, none⟩ = some (.slice A n c1) := fun p => (hk.below p.h).sig.cell_ (i := 1) rfl
    have lx2 : ∀ p : LaterW w3, p.w.cell? ⟨w.heap.size + 1 + 1 + 1, 2, none⟩ = some (.slice B n c2) := fun p => (hk.below p.h).sig.cell_ (i := 2) rfl
    have lx3 : ∀ p : LaterW w3, p.w.cell? ⟨w.heap.size + 1 + 1 + 1, 3, none⟩ = some (.slice C t c3) := fun p => (hk.below p.h).sig.cell_ (i := 3) rfl
    refine wp_region_later mixed (by kernel_rfl) ?_
    repeat (first
      | ((with_reducible refine wpQuiet_skip (by with_unfolding_all rfl) ?_); simp only [Act.put, List.setIfInBounds_toArray, List.set_cons_zero, List.set_cons_succ])
      | ((with_reducible refine wpQuiet_step (fun K hK => ?_)); go_simp; first | ((with_reducible refine hK _ ?_); clear hK K) | (with_reducible apply Exists.intro; (with_reducible refine ⟨fun _ => ?_, hK _ ?_⟩); ((first | (go_at_call 78; exact later_of (cF _)) | (go_at_call 79; exact later_of (cG _)))); clear hK K)))
    with_reducible refine wpQuiet_nil ?_
    intro _ hw'
    obtain ⟨p, rfl⟩ := hw'
    have hp := p.h
    generalize p.w = w4 at *
    replace hk := hk.below hp
    replace hx2 := hx2.below hp
    clear hp
    clear lp0 lp1 lx0 lx1 lx2 lx3
    clear p0 p1 x0 x1 x2 x3 hxs hxq; have p0 := hk.par.cell_ (i := 0) rfl; have p1 := hk.par.cell_ (i := 1) rfl; have x0 := hk.sig.cell_ (i := 0) rfl; have x1 := hk.sig.cell_ (i := 1) rfl; have x2 := hk.sig.cell_ (i := 2) rfl; have x3 := hk.sig.cell_ (i := 3) rfl; have hxs := range_blk hk.sum; have hxq := range_blk hk.key
    go_wp2_with (first
      | (go_at_call 79; (with_reducible refine (cG _).mono ?_); rintro e5 w5 ⟨rfl, hb5⟩; replace hk := hk.below hb5; replace hx2 := hx2.below hb5; clear hb5; clear p0 p1 x0 x1 x2 x3 hxs hxq; have p0 := hk.par.cell_ (i := 0) rfl; have p1 := hk.par.cell_ (i := 1) rfl; have x0 := hk.sig.cell_ (i := 0) rfl; have x1 := hk.sig.cell_ (i := 1) rfl; have x2 := hk.sig.cell_ (i := 2) rfl; have x3 := hk.sig.cell_ (i := 3) rfl; have hxs := range_blk hk.sum; have hxq := range_blk hk.key)
      | (with_reducible refine wpList_load_if (by with_unfolding_all rfl) 24 _ rfl _ _ rfl (a.map u8v) _ hxs hu (by with_unfolding_all rfl) hza ?_)
      | (go_at_call 80; (with_reducible refine (cK8 _ hk.bel).mono ?_); rintro e6 w6 ⟨rfl, hb6⟩; replace hk := hk.below hb6; replace hx2 := hx2.below hb6; clear hb6; clear p0 p1 x0 x1 x2 x3 hxs hxq; have p0 := hk.par.cell_ (i := 0) rfl; have p1 := hk.par.cell_ (i := 1) rfl; have x0 := hk.sig.cell_ (i := 0) rfl; have x1 := hk.sig.cell_ (i := 1) rfl; have x2 := hk.sig.cell_ (i := 2) rfl; have x3 := hk.sig.cell_ (i := 3) rfl; have hxs := range_blk hk.sum; have hxq := range_blk hk.key)
      | ((with_reducible refine wpList_store_newid rfl _ _ rfl T HT.out rfl rfl (by with_unfolding_all rfl) ?_); intro w7 hx7 hb7; replace hk := hk.below hb7; replace hx2 := hx2.below hb7; clear hb7; clear p0 p1 x0 x1 x2 x3 hxs hxq; have p0 := hk.par.cell_ (i := 0) rfl; have p1 := hk.par.cell_ (i := 1) rfl; have x0 := hk.sig.cell_ (i := 0) rfl; have x1 := hk.sig.cell_ (i := 1) rfl; have x2 := hk.sig.cell_ (i := 2) rfl; have x3 := hk.sig.cell_ (i := 3) rfl; have hxs := range_blk hk.sum; have hxq := range_blk hk.key))
    have lp0 : ∀ p : LaterW w7, p.w.cell? ⟨w.heap.size, 0, none⟩ = some (.int .i64 (n : Int)) := fun p => (hk.below p.h).par.cell_ (i := 0) rfl
    have lp1 : ∀ p : LaterW w7, p.w.cell? ⟨w.heap.size, 1, none⟩ = some (.int .i64 (t : Int)) := fun p => (hk.below p.h).par.cell_ (i := 1) rfl
    have lx0 : ∀ p : LaterW w7, p.w.cell? ⟨w.heap.size + 1 + 1 + 1, 0, none⟩ = some (.int .i64 L) := fun p => (hk.below p.h).sig.cell_ (i := 0) rfl
    have lx1 : ∀ p : LaterW w7, p.w.cell? ⟨w.heap.size + 1 + 1 + 1, 1, none⟩ = some (.slice A n c1) := fun p => (hk.below p.h).sig.cell_ (i := 1) rfl
    have lx2 : ∀ p : LaterW w7, p.w.cell? ⟨w.heap.size + 1 + 1 + 1, 2, none⟩ = some (.slice B n c2) := fun p => (hk.below p.h).sig.cell_ (i := 2) rfl
    have lx3 : ∀ p : LaterW w7, p.w.cell? ⟨w.heap.size + 1 + 1 + 1, 3, none⟩ = some (.slice C t c3) := fun p => (hk.below p.h).sig.cell_ (i := 3) rfl
    have fS := range_later hx2
    have fT := range_later hx7
    have fq := range_later hxq
    have fa := range_later hxs
    have lV := fun (p : LaterW w7) => cV2 p.w (hk.below p.h).bel
    generalize w6.heap.size = g6 at *
    generalize w1.heap.size = g1 at *
    refine wp_region_later mixed (by kernel_rfl) ?_
    repeat (first
      | ((with_reducible refine wpQuiet_skip (by with_unfolding_all rfl) ?_); simp only [Act.put, List.setIfInBounds_toArray, List.set_cons_zero, List.set_cons_succ])
      | ((with_reducible refine wpQuiet_load_if (by with_unfolding_all rfl) 24 _ rfl _ _ rfl (S.map u8v) _ fS hu (by with_unfolding_all rfl) hzS ?_); simp only [Act.put, List.setIfInBounds_toArray, List.set_cons_zero, List.set_cons_succ])
      | ((with_reducible refine wpQuiet_load_if (by with_unfolding_all rfl) 24 _ rfl _ _ rfl (T.map u8v) _ fT hu (by with_unfolding_all rfl) hzT ?_); simp only [Act.put, List.setIfInBounds_toArray, List.set_cons_zero, List.set_cons_succ])
      | ((with_reducible refine wpQuiet_load_if (by with_unfolding_all rfl) 24 _ rfl _ _ rfl (q.map u8v) _ fq hu (by with_unfolding_all rfl) hzq ?_); simp only [Act.put, List.setIfInBounds_toArray, List.set_cons_zero, List.set_cons_succ])
      | ((with_reducible refine wpQuiet_load_if (by with_unfolding_all rfl) 24 _ rfl _ _ rfl (a.map u8v) _ fa hu (by with_unfolding_all rfl) hza ?_); simp only [Act.put, List.setIfInBounds_toArray, List.set_cons_zero, List.set_cons_succ])
      | ((with_reducible refine wpQuiet_step (fun K hK => ?_)); go_simp; first | ((with_reducible refine hK _ ?_); clear hK K) | (with_reducible apply Exists.intro; (with_reducible refine ⟨fun _ => ?_, hK _ ?_⟩); ((first | (go_at_call 56; exact later_of (cK _)) | (go_at_call 76; exact later_of (lV _)) | (go_at_call 66; exact later_of (awake8_any _)))); clear hK K)))
    with_reducible refine wpQuiet_nil ?_
    intro _ hw'
    obtain ⟨p, rfl⟩ := hw'
    have hp := p.h
    generalize p.w = w8 at *
    go_wp2
    go_ret
    exact ⟨rfl, hk.bel.trans (hp.mono hk.bel.size)⟩
section
variable {H : Type} {enc : TypeId × Value → H} {P : Program} {w : World} {r : Reach} {base b0 : Nat} {sp : Nat → Bool} {hd : Bool}
theorem open_idRowS {t e q : TypeId} {a0 : Option Addr} {len0 cap0 : Nat} {d : DataW H} {ps : List MemPlace} (ht : P.underlying t = some (.slice e)) (he : P.underlying e = some (.array 32 q)) (hq : P.underlying q = some (.int .u8)) (hc : P.cellsOf q = 1) (hn : P.cellsOf e = 32)
    (h : DataW.Trod enc P w base sp hd t (.slice a0 len0 cap0) d ps) : ∃ a len cap ids, Value.slice a0 len0 cap0 = .slice a len cap ∧ IdRow w a len ids := by
  obtain ⟨fuel, hf⟩ := h
  cases fuel with
  | zero => simp [DataW.trod] at hf
  | succ m =>
    rw [DataW.trod_step] at hf
    unfold DataW.trodStep at hf
    simp only [ht, Value.cells] at hf
    cases a0 with
    | none =>
      rcases len0 with _ | len0
      · exact ⟨none, 0, cap0, [], rfl, rfl, Nat.zero_le _, IdRd.nil_ _ _⟩
      · simp at hf
    | some a =>
      simp only [hn] at hf
      split at hf
      · rename_i hcond
        simp only [Option.bind_eq_some_iff] at hf
        obtain ⟨ys, hy, _⟩ := hf
        have hy2 := mapM_each _ _ hy
        have hall : ∀ i, i < len0 → ∃ l : List UInt8, l.length = 32 ∧ ∀ j v, (l.map u8v)[j]? = some v → w.cell? ((a.add (i * 32)).add j) = some v := fun i hi => by
          obtain ⟨y, hy⟩ := hy2 i (List.mem_range.2 hi)
          simp only [Option.bind_eq_some_iff] at hy
          obtain ⟨cs, hcs, htr⟩ := hy
          obtain ⟨l, hl, rfl⟩ := trod_id he hq hc hn htr
          refine ⟨l, hl, fun j v hj => ?_⟩
          have hj32 : j < 32 := by have := (List.getElem?_eq_some_iff.1 hj).1; rw [List.length_map, hl] at this; exact this
          exact ((World.cells?_some hcs).2.2 j hj32).trans hj
        by_cases h0 : len0 = 0
        · subst h0
          exact ⟨_, _, _, [], rfl, rfl, Nat.zero_le _, IdRd.nil_ _ _⟩
        · have hsp : a.spot = none := by
            obtain ⟨l, hl, hr⟩ := hall 0 (by omega)
            obtain ⟨v, hv⟩ : ∃ v, (l.map u8v)[0]? = some v := ⟨_, List.getElem?_eq_getElem (by rw [List.length_map]; omega)⟩
            have := hr 0 v hv
            cases hs : a.spot with
            | none => rfl
            | some s => simp [Addr.add, World.cell?, hs] at this; split at this <;> simp_all
          obtain ⟨g, o, sp⟩ := a
          obtain rfl : sp = none := hsp
          obtain ⟨ids, h1, h2, h3⟩ := all_ids (w := w) (g := g) (o := o) len0 (fun i hi => by
            obtain ⟨l, hl, hr⟩ := hall i hi
            refine ⟨l, hl, fun j v hj => ?_⟩
            have := hr j v hj
            rwa [Addr.add_lit, Addr.add_lit] at this)
          exact ⟨_, _, _, ids, rfl, h1, by omega, h2, .inr ⟨g, o, rfl, h3⟩⟩
      · cases hf
theorem trod_idRow {t e q : TypeId} {fuel : Nat} {cs : List Value} {x : DataW H × List MemPlace} (ht : P.underlying t = some (.slice e)) (he : P.underlying e = some (.array 32 q)) (hq : P.underlying q = some (.int .u8)) (hc : P.cellsOf q = 1) (hn : P.cellsOf e = 32)
    (h : DataW.trod enc P w base sp hd fuel t cs = some x) : ∃ a len cap ids, cs = [.slice a len cap] ∧ IdRow w a len ids := by
  obtain ⟨d, ps⟩ := x
  rcases DataW.trod_slice ht h with ⟨rfl, _⟩ | ⟨a, len, cap, _, _, _, _, rfl, _⟩
  · exact ⟨none, 0, 0, [], rfl, rfl, Nat.zero_le _, IdRd.nil_ _ _⟩
  · obtain ⟨a1, l1, c1, ids, e, hi⟩ := open_idRowS (d := d) (ps := ps) ht he hq hc hn ⟨fuel, h⟩
    exact ⟨a1, l1, c1, ids, by rw [e], hi⟩
end
section
variable {H : Type} {enc : TypeId × Value → H} {w : World} {r : Reach} {base b0 : Nat} {sp : Nat → Bool} {hd : Bool}
set_option maxRecDepth 100000 in
/-- Params that came in. -/
theorem open_params {v : Value} {d : DataW H} {ps : List MemPlace} (hv : Value.okWide Try.prog w r b0 63 v) (h : DataW.Trod enc Try.prog w base sp hd 63 v d ps) :
    ∃ b h : Int, v = .agg #[.int .i64 b, .int .i64 h] ∧ (Lit.int .i64 b).wf = true ∧ (Lit.int .i64 h).wf = true := by
  simp only [Value.okWide, Try.underlying63] at hv
  obtain ⟨cs, rfl, hsz, _⟩ := hv
  obtain ⟨fuel, hf⟩ := h
  cases fuel with
  | zero => simp [DataW.trod] at hf
  | succ k =>
    rw [DataW.trod_step] at hf
    unfold DataW.trodStep at hf
    simp only [Try.underlying63, Value.cells] at hf
    have hc2 : Try.prog.cellsOf 63 = 2 := by kernel_rfl
    have hc1 : Try.prog.cellsOf 3 = 1 := by kernel_rfl
    rw [hc2] at hsz
    rw [if_pos (by rw [hc2, Array.length_toList, hsz])] at hf
    simp only [Option.map_eq_some_iff] at hf
    obtain ⟨xs, hx, _⟩ := hf
    have hy := mapM_each _ _ hx
    obtain ⟨y0, h0⟩ := hy _ (List.mem_cons_self)
    obtain ⟨y1, h1⟩ := hy _ (List.mem_cons_of_mem _ (List.mem_cons_self))
    simp only [hc1] at h0 h1
    obtain ⟨b, e0, _, w0⟩ := DataW.trod_int Try.underlying3 h0
    obtain ⟨h, e1, _, w1⟩ := DataW.trod_int Try.underlying3 h1
    refine ⟨b, h, ?_, w0, w1⟩
    obtain ⟨x, y, hxy⟩ : ∃ x y, cs = #[x, y] := by
      obtain ⟨l⟩ := cs
      simp at hsz
      match l, hsz with
      | [x, y], _ => exact ⟨x, y, rfl⟩
    subst hxy
    simp at e0 e1
    rw [e0, e1]
end
section
variable {H : Type} {enc : TypeId × Value → H} {w : World} {r : Reach} {base b0 : Nat} {sp : Nat → Bool} {hd : Bool}
set_option maxRecDepth 100000 in
/-- A signature that came in. -/
theorem open_sig {v : Value} {d : DataW H} {ps : List MemPlace} (hv : Value.okWide Try.prog w r b0 90 v) (h : DataW.Trod enc Try.prog w base sp hd 90 v d ps) :
    ∃ (L : Int) (A B C : Option Addr) (k1 k2 k3 c1 c2 c3 : Nat) (l r way : List (List UInt8)), v = .agg #[.int .i64 L, .slice A k1 c1, .slice B k2 c2, .slice C k3 c3] ∧ (Lit.int .i64 L).wf = true ∧ IdRow w A k1 l ∧ IdRow w B k2 r ∧ IdRow w C k3 way := by
  simp only [Value.okWide, Try.underlying90] at hv
  obtain ⟨cs, rfl, hsz, _⟩ := hv
  obtain ⟨fuel, hf⟩ := h
  obtain ⟨xs, k, _, _, hl, hxl, hx⟩ := DataW.trod_struct Try.underlying90 hf
  have hc4 : Try.prog.cellsOf 90 = 4 := by kernel_rfl
  have hc1 : Try.prog.cellsOf 3 = 1 := by kernel_rfl
  have hcr : Try.prog.cellsOf 22 = 1 := by kernel_rfl
  rw [hc4] at hsz
  obtain ⟨x, y, z, u, hxy⟩ : ∃ x y z u, cs = #[x, y, z, u] := by
    obtain ⟨l⟩ := cs
    simp at hsz
    match l, hsz with
    | [x, y, z, u], _ => exact ⟨x, y, z, u, rfl⟩
  subst hxy
  have h0 := hx 0 _ rfl
  have h1 := hx 1 _ rfl
  have h2 := hx 2 _ rfl
  have h3 := hx 3 _ rfl
  have g : ∀ i : Nat, i < 4 → ∃ y, xs[i]? = some y := fun i hi => ⟨_, List.getElem?_eq_getElem (by rw [hxl]; exact hi)⟩
  obtain ⟨y0, e0⟩ := g 0 (by decide)
  obtain ⟨y1, e1⟩ := g 1 (by decide)
  obtain ⟨y2, e2⟩ := g 2 (by decide)
  obtain ⟨y3, e3⟩ := g 3 (by decide)
  rw [e0] at h0
  rw [e1] at h1
  rw [e2] at h2
  rw [e3] at h3
  simp only [Value.cells] at h0 h1 h2 h3
  obtain ⟨L, q0, _, w0⟩ := DataW.trod_int Try.underlying3 h0
  obtain ⟨A, k1, c1, l, q1, w1⟩ := trod_idRow Try.underlying22 Try.underlying24 Try.underlying5 (by kernel_rfl) (by kernel_rfl) h1
  obtain ⟨B, k2, c2, r, q2, w2⟩ := trod_idRow Try.underlying22 Try.underlying24 Try.underlying5 (by kernel_rfl) (by kernel_rfl) h2
  obtain ⟨C, k3, c3, way, q3, w3⟩ := trod_idRow Try.underlying22 Try.underlying24 Try.underlying5 (by kernel_rfl) (by kernel_rfl) h3
  simp [hc1] at q0
  simp [hcr] at q1 q2 q3
  exact ⟨L, A, B, C, k1, k2, k3, c1, c2, c3, l, r, way, by rw [q0, q1, q2, q3], w0, w1, w2, w3⟩
end
theorem signerVerifies_any (q a : List UInt8) (hq : q.length = 32) (ha : a.length = 32) (b h L : Int) (A B C : Option Addr) (k1 k2 k3 c1 c2 c3 : Nat) (l r way : List (List UInt8)) (w : World) (hA : IdRow w A k1 l) (hB : IdRow w B k2 r) (hC : IdRow w C k3 way) :
    Calls Try.prog 9 #[.agg #[.int .i64 b, .int .i64 h], .agg (idVals q), .agg (idVals a), .agg #[.int .i64 L, .slice A k1 c1, .slice B k2 c2, .slice C k3 c3]] w fun e w' => e = .returned (.bool true) ∧ Below w.heap.size w w' := by
  by_cases h1 : 20 < k1
  · exact vers_long1 q a b h L A B C k1 k2 k3 c1 c2 c3 h1 w
  · by_cases h2 : 20 < k2
    · exact vers_long2 q a b h L A B C k1 k2 k3 c1 c2 c3 h1 h2 w
    · by_cases h3 : 12 < k3
      · exact vers_long3 q a b h L A B C k1 k2 k3 c1 c2 c3 h1 h2 h3 w
      · by_cases hf : fitsP b h L k1 k2 k3
        · obtain ⟨_, e2, _, e4, e5, e6⟩ := id hf
          subst e4
          obtain rfl : k1 = k2 := by omega
          subst e6
          obtain ⟨m, rfl⟩ : ∃ m : Nat, L = m := ⟨L.toNat, by omega⟩
          exact vers_fit q a hq ha k1 k3 m A B C c1 c2 c3 l r way hf h1 h3 w ⟨hA.1, by omega, hA.2.2⟩ ⟨hB.1, by omega, hB.2.2⟩ ⟨hC.1, by omega, hC.2.2⟩
        · exact vers_unfit q a hq ha b h L A B C k1 k2 k3 c1 c2 c3 hf h1 h2 h3 w
set_option linter.unusedVariables false in
theorem law_SignerVerifies (w : World) (a0 : Int) (w0 : (Lit.int .i64 a0).wf = true) (x0 : Int) (u0 : (Lit.int .i64 x0).wf = true) (a1 : List UInt8) (w1 : a1.length = 32) (a2 : List UInt8) (w2 : a2.length = 32) (a3 : Int) (A B C : Option Addr) (k1 k2 k3 c1 c2 c3 : Nat) (l r way : List (List UInt8)) (w3 : (Lit.int .i64 a3).wf = true) (y1 : IdRow w A k1 l) (y2 : IdRow w B k2 r) (y3 : IdRow w C k3 way) :
    Calls Try.prog 9 #[.agg #[.int .i64 a0, .int .i64 x0], .agg (idVals a1), .agg (idVals a2), .agg #[.int .i64 a3, .slice A k1 c1, .slice B k2 c2, .slice C k3 c3]] w fun e w' => e = .returned (.bool true) ∧ Below w.heap.size w w' := by
  exact signerVerifies_any a1 a2 w1 w2 a0 x0 a3 A B C k1 k2 k3 c1 c2 c3 l r way w y1 y2 y3

open Go.ChangeShapes Go.WideShapes Go.ChangeAt
open Go.ChangeMaps (open_string shut_string)
theorem own_SignerVerifies : ownKnob Try.prog.godebug = none := by kernel_rfl
theorem laidOut_SignerVerifies : laidOutB Try.prog = true := by kernel_rfl
set_option linter.unusedVariables false in
set_option maxRecDepth 100000 in
theorem lifted_SignerVerifies (os : Os) (started : os.Started) (H : Type) (enc : TypeId × Value → H) :
    ReturnsInHanded {} Try.checked os 9 .any (Rows.signerVerifiesSpec.pre6 enc Try.prog Try.f9 Rows.signerVerifiesRow.domain false) (Rows.signerVerifiesSpec.post enc Try.prog Try.f9 false true false false) := by
  refine returnsInHanded_of_change (C := Try.checked) own_SignerVerifies started (by kernel_rfl) Try.func9
    (ChangeSpec.witness6 (enc := enc) (C := Try.checked) false ⟨#[], #[.agg #[.int .i64 0, .int .i64 0], .agg #[.int .u8 0, .int .u8 0, .int .u8 0, .int .u8 0, .int .u8 0, .int .u8 0, .int .u8 0, .int .u8 0, .int .u8 0, .int .u8 0, .int .u8 0, .int .u8 0, .int .u8 0, .int .u8 0, .int .u8 0, .int .u8 0, .int .u8 0, .int .u8 0, .int .u8 0, .int .u8 0, .int .u8 0, .int .u8 0, .int .u8 0, .int .u8 0, .int .u8 0, .int .u8 0, .int .u8 0, .int .u8 0, .int .u8 0, .int .u8 0, .int .u8 0, .int .u8 0], .agg #[.int .u8 0, .int .u8 0, .int .u8 0, .int .u8 0, .int .u8 0, .int .u8 0, .int .u8 0, .int .u8 0, .int .u8 0, .int .u8 0, .int .u8 0, .int .u8 0, .int .u8 0, .int .u8 0, .int .u8 0, .int .u8 0, .int .u8 0, .int .u8 0, .int .u8 0, .int .u8 0, .int .u8 0, .int .u8 0, .int .u8 0, .int .u8 0, .int .u8 0, .int .u8 0, .int .u8 0, .int .u8 0, .int .u8 0, .int .u8 0, .int .u8 0, .int .u8 0], .agg #[.int .i64 0, .slice none 0 0, .slice none 0 0, .slice none 0 0]], []⟩ 8 (by kernel_rfl) (by kernel_rfl) (by kernel_rfl) (by kernel_rfl)) ?_
  intro W base args ds gs before hval0 hW hcnd _
  have hval : ∀ (j : Nat) t v, Try.f9.params[j]? = some t → args[j]? = some v → Value.okWide Try.prog W .any base t v := hval0
  have hW' := hW
  obtain ⟨p, q, hA0, hV, rfl, hfz, hnd⟩ := hW
  have hA1 : DataW.TrodAll enc Try.prog W 0 (fun _ => true) true Try.f9.params.toList args.toList ds p := hA0
  have hA : DataW.TrodAll enc Try.prog W 0 (fun _ => true) true Try.f9.params.toList args.toList ds p := hA0
  rw [Try.params9] at hA hval
  obtain ⟨v0, vs0, d0, ds0, p0, q0, hargs, rfl, rfl, h0, r0⟩ := trodAll_cons hA
  obtain ⟨v1, vs1, d1, ds1, p1, q1, rfl, rfl, rfl, h1, r1⟩ := trodAll_cons r0
  obtain ⟨v2, vs2, d2, ds2, p2, q2, rfl, rfl, rfl, h2, r2⟩ := trodAll_cons r1
  obtain ⟨v3, vs3, d3, ds3, p3, q3, rfl, rfl, rfl, h3, r3⟩ := trodAll_cons r2
  obtain ⟨rfl, rfl, rfl⟩ := trodAll_nil r3
  obtain rfl : args = #[v0, v1, v2, v3] := by cases args; simp_all
  obtain ⟨rfl, rfl⟩ := trodVars_none hV
  obtain ⟨a0, x0, rfl, w0, u0⟩ := open_params (hval 0 63 v0 rfl rfl) h0
  obtain ⟨a1, w1, rfl⟩ := open_id Try.underlying24 Try.underlying5 (by kernel_rfl) (by kernel_rfl) (hval 1 24 v1 rfl rfl) h1
  obtain ⟨a2, w2, rfl⟩ := open_id Try.underlying24 Try.underlying5 (by kernel_rfl) (by kernel_rfl) (hval 2 24 v2 rfl rfl) h2
  obtain ⟨a3, A, B, C, k1, k2, k3, c1, c2, c3, l, r, way, rfl, w3, y1, y2, y3⟩ := open_sig (hval 3 90 v3 rfl rfl) h3
  clear hA0 hval0
  refine (law_SignerVerifies W a0 w0 x0 u0 a1 w1 a2 w2 a3 A B C k1 k2 k3 c1 c2 c3 l r way w3 y1 y2 y3).mono fun e W' ⟨he, bel⟩ => ?_
  subst he
  exact ⟨_, rfl, _, _, _, [], _, [], hW', trodAll_mk1 (shut_bool Try.underlying4 _), trodAll_stays laidOut_SignerVerifies bel (by kernel_rfl) hA1, rfl, bel.frame _, fun h => by cases h⟩

/-- The statement. -/
theorem SignerVerifies_holds : Rows.SignerVerifiesSaid :=
  OpenClaim.holds_of_wide 9 Try.f9 rfl rfl rfl rfl rfl rfl rfl ⟨rfl, rfl, rfl, rfl, rfl⟩ rfl rfl rfl rfl rfl (by kernel_rfl) Try.func9 (by kernel_rfl)
    (of_decide_eq_true (by kernel_rfl)) (by unfold Func.isWrapper; first | (rw [if_pos (by decide +kernel)]; kernel_rfl) | (rw [if_neg (by decide +kernel)]; exact ⟨rfl, rfl⟩))
    (fun os started H enc _ => lifted_SignerVerifies os started H enc)
#print axioms SignerVerifies_holds
end Go.Proofs.Ytfdbgmnnahcejaa

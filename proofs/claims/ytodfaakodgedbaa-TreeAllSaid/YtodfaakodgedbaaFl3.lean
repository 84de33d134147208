
/- The document's trees: an operation applied. -/
import Derived.Test.YtodfaakodgedbaaFl2
import Derived.Test.YtodfaakodgedbaaHk9
import Derived.Test.YtodfaakodgedbaaHk14
set_option linter.unusedSimpArgs false
set_option linter.unusedVariables false
namespace Go.Proofs.Ytodfaakodgedbaa
open Go.RowKit Go.Qc Go.Shelf
attribute [local go_sem] txt_size txt_append ib_fold txt_toL

def putD : List FD → FD → List FD
  | [], f => [f]
  | x :: xs, f => if Go.Op.bytesLess f.1 x.1 = true then f :: x :: xs else x :: putD xs f
theorem putF_map : ∀ (Xs : List FlV) (f : FlV), (putF Xs f).map FlV.D = putD (Xs.map FlV.D) f.D
  | [], f => rfl
  | x :: xs, f => by
    rw [putF, List.map_cons, putD]
    by_cases h : Go.Op.bytesLess f.p x.p = true
    · rw [if_pos h, if_pos (by exact h)]; rfl
    · rw [if_neg h, if_neg (by exact h), List.map_cons, putF_map xs f]
theorem putF_len : ∀ (Xs : List FlV) (f : FlV), (putF Xs f).length = Xs.length + 1
  | [], f => rfl
  | x :: xs, f => by
    rw [putF]
    split
    · rfl
    · rw [List.length_cons, putF_len xs f]; rfl
theorem putF_mem : ∀ (Xs : List FlV) (f : FlV) (Y : FlV), Y ∈ putF Xs f → Y = f ∨ Y ∈ Xs
  | [], f, Y, h => by simp [putF] at h; exact .inl h
  | x :: xs, f, Y, h => by
    rw [putF] at h
    split at h
    · rcases List.mem_cons.1 h with h | h
      · exact .inl h
      · exact .inr h
    · rcases List.mem_cons.1 h with h | h
      · exact .inr (by rw [h]; simp)
      · exact (putF_mem xs f Y h).imp id (fun h => by simp [h])
/-- An operation applied to files. -/
def applyF (L : List FD) (o : OpD) : Except Int (List FD) :=
  if opE o = 0 then
    if 4 < o.k then .ok L
    else if o.k = 1 then (if roomV L o.p = 0 then (if 200 ≤ L.length then .error 14 else .ok (putD L (o.p, []))) else .error (roomV L o.p))
    else if atV L o.p < 0 then .error 6
    else match L[(atV L o.p).toNat]? with
      | none => .error 6
      | some f =>
        if o.k = 2 then (if f.2 = o.o then .ok (L.eraseIdx (atV L o.p).toNat) else .error 12)
        else if o.k = 3 then (if (apR f.2 o.a o.o o.n).2 = 0 then .ok (putD (L.eraseIdx (atV L o.p).toNat) (o.p, (apR f.2 o.a o.o o.n).1)) else .error (apR f.2 o.a o.o o.n).2)
        else if roomV (L.eraseIdx (atV L o.p).toNat) o.t = 0 then .ok (putD (L.eraseIdx (atV L o.p).toNat) (o.t, f.2)) else .error (roomV (L.eraseIdx (atV L o.p).toNat) o.t)
  else .error (opE o)
/-- What Apply tells. -/
def ApQ (w w' : World) (L : List FD) (o : OpD) (e : Ending) : Prop :=
  (∃ Ys A n c, e = .returned (.tuple #[.slice A n c, .int .i64 0]) ∧ applyF L o = .ok (Ys.map FlV.D) ∧ Ys.length = n ∧ n ≤ 300 ∧ FlRd w' A Ys ∧ (∀ Y ∈ Ys, FlOk w' Y) ∧ Below w.heap.size w w') ∨
  (∃ r : Int, e = .returned (.tuple #[.slice none 0 0, .int .i64 r]) ∧ applyF L o = .error r ∧ ¬ r = 0 ∧ Below w.heap.size w w')
theorem rput_s (A : Option Addr) (n c : Nat) (Xs : List FlV) (f : FlV) (w : World) (hn : Xs.length = n) (bn : n ≤ 900) (hr : FlRd w A Xs) :
    Calls Try.prog 30 #[.slice A n c, .agg #[.string (txt f.p), .slice f.A f.n f.c]] w fun e w' => ∃ A4 c4, e = .returned (.slice A4 (n + 1) c4) ∧ FlRd w' A4 (putF Xs f) ∧ Below w.heap.size w w' := by
  refine (rput14_any A n c Xs f w hn bn hr).mono ?_
  rintro e w' ⟨v, m, rfl, hown, hb⟩
  obtain ⟨A4, c4, rfl, l4, r4⟩ := hown.rd
  rw [putF_len, hn] at l4
  subst l4
  exact ⟨A4, c4, rfl, r4, hb⟩
theorem rdrop_s (A : Option Addr) (n c : Nat) (Xs : List FlV) (i : Nat) (w : World) (hn : Xs.length = n) (bn : n ≤ 900) (hi : i < n) (hr : FlRd w A Xs) :
    Calls Try.prog 31 #[.slice A n c, .int .i64 (i : Int)] w fun e w' => ∃ A4 c4, e = .returned (.slice A4 (n - 1) c4) ∧ FlRd w' A4 (Xs.eraseIdx i) ∧ Below w.heap.size w w' := by
  refine (rdrop_any A n c Xs i w hn bn hr).mono ?_
  rintro e w' ⟨v, m, rfl, hown, hb⟩
  obtain ⟨A4, c4, rfl, l4, r4⟩ := hown.rd
  rw [List.length_eraseIdx, if_pos (by omega), hn] at l4
  subst l4
  exact ⟨A4, c4, rfl, r4, hb⟩
theorem erase_map (Xs : List FlV) (i : Nat) : (Xs.eraseIdx i).map FlV.D = (Xs.map FlV.D).eraseIdx i := by
  rw [List.eraseIdx_eq_take_drop_succ, List.eraseIdx_eq_take_drop_succ, List.map_append, List.map_take, List.map_drop]
theorem erase_mem {Xs : List FlV} {i : Nat} {Y : FlV} (h : Y ∈ Xs.eraseIdx i) : Y ∈ Xs := List.mem_of_mem_eraseIdx h
theorem atV_nat : ∀ (L : List FD) (s : List UInt8), atV L s = -1 ∨ ∃ i x, atV L s = (i : Nat) ∧ L[i]? = some x
  | [], _ => .inl rfl
  | x :: xs, s => by
    rw [atV]
    split
    · exact .inr ⟨0, x, rfl, rfl⟩
    · rcases atV_nat xs s with h | ⟨i, y, h, hy⟩
      · rw [h]; exact .inl rfl
      · rw [h, if_neg (by omega)]
        exact .inr ⟨i + 1, y, by omega, hy⟩

set_option maxRecDepth 100000 in
set_option maxHeartbeats 40000000 in
theorem ap_wrong (FA : Option Addr) (fn fc : Nat) (Xs : List FlV) (D : OpD) (A : Option Addr) (n c : Nat) (B : Option Addr) (m d : Nat) (w : World) (hn : Xs.length = fn) (bn : fn ≤ 300) (hr : FlRd w FA Xs) (hX : ∀ X ∈ Xs, FlOk w X) (hR : OpR w D A n B m) (r : Int) (hE : opE D = r) (h0 : ¬ r = 0) :
    Calls Try.prog 15 #[.slice FA fn fc, .agg (opC D A n c B m d)] w fun e w' => ApQ w w' (Xs.map FlV.D) D e := by
  have HA : Hid (applyF (Xs.map FlV.D) D = .error r) := hid (by unfold applyF; rw [if_neg (by rw [hE]; exact h0), hE])
  have cE : ∀ W, Below w.heap.size w W → Calls Try.prog 27 #[.agg (opC D A n c B m d)] W fun e w' => e = .returned (.int .i64 r) ∧ Below W.heap.size W w' := fun W h => by
    rw [← hE]
    exact rr13_any D hR.hK A n c hR.lo (by have := hR.bn; omega) B m d hR.ln (by have := hR.bm; omega) (by have := hR.bp; omega) (by have := hR.bt; omega) (fun x hx => Nat.le_trans (hR.bo x hx) (by decide)) (fun x hx => Nat.le_trans (hR.bx x hx) (by decide)) W (hR.rA.below h) (hR.rB.below h)
  have KK := hR.hK
  have bn9 : fn ≤ 9223372036854775807 := by omega
  have hx := OpX.new w D A n c B m d
  have hz := (Below.refl w.heap.size w).alloc (Nat.le_refl _) (.cells (opC D A n c B m d) 40)
  have HE := hid hE
  have HN := hid hn
  have HX := hid hX
  have HR := hid hR
  have q0 := hx.c0
  have q1 := hx.c1
  have q2 := hx.c2
  clear hE hn hX hR
  go_enter Try.func15, Try.ntmps15
  go_upto_region 1 with (fail)
  generalize w.alloc (.cells (opC D A n c B m d) 40) = W0 at *
  have hb := Below.refl W0.heap.size W0
  go_wp2_with (first
    | (with_reducible refine wpList_load_opx (by with_unfolding_all rfl) _ rfl _ rfl (hx.below hb) KK ?_)
    | (go_at_call 27; (with_reducible refine (cE _ hz).mono ?_); rintro o1 w1 ⟨rfl, hb1⟩; replace hb := hb.trans (hb1.mono hb.size); replace hz := hz.trans (hb1.mono hz.size); clear hb1; replace q0 := (hx.below hb).c0; replace q1 := (hx.below hb).c1; replace q2 := (hx.below hb).c2))
  go_ret2
  exact .inr ⟨r, rfl, HA.out, h0, hz⟩

set_option maxRecDepth 100000 in
set_option maxHeartbeats 40000000 in
theorem ap_policy (FA : Option Addr) (fn fc : Nat) (Xs : List FlV) (D : OpD) (A : Option Addr) (n c : Nat) (B : Option Addr) (m d : Nat) (w : World) (hn : Xs.length = fn) (bn : fn ≤ 300) (hr : FlRd w FA Xs) (hX : ∀ X ∈ Xs, FlOk w X) (hR : OpR w D A n B m) (hE : opE D = 0) (hk4 : 4 < D.k) :
    Calls Try.prog 15 #[.slice FA fn fc, .agg (opC D A n c B m d)] w fun e w' => ApQ w w' (Xs.map FlV.D) D e := by
  have HA : Hid (applyF (Xs.map FlV.D) D = .ok (Xs.map FlV.D)) := hid (by unfold applyF; rw [if_pos hE, if_pos hk4])
  have cE : ∀ W, Below w.heap.size w W → Calls Try.prog 27 #[.agg (opC D A n c B m d)] W fun e w' => e = .returned (.int .i64 0) ∧ Below W.heap.size W w' := fun W h => by
    rw [← hE]
    exact rr13_any D hR.hK A n c hR.lo (by have := hR.bn; omega) B m d hR.ln (by have := hR.bm; omega) (by have := hR.bp; omega) (by have := hR.bt; omega) (fun x hx => Nat.le_trans (hR.bo x hx) (by decide)) (fun x hx => Nat.le_trans (hR.bx x hx) (by decide)) W (hR.rA.below h) (hR.rB.below h)
  have KK := hR.hK
  have bn9 : fn ≤ 9223372036854775807 := by omega
  have hx := OpX.new w D A n c B m d
  have hz := (Below.refl w.heap.size w).alloc (Nat.le_refl _) (.cells (opC D A n c B m d) 40)
  have HE := hid hE
  have HN := hid hn
  have HX := hid hX
  have HR := hid hR
  have q0 := hx.c0
  have q1 := hx.c1
  have q2 := hx.c2
  clear hE hn hX hR
  go_enter Try.func15, Try.ntmps15
  go_upto_region 1 with (fail)
  generalize w.alloc (.cells (opC D A n c B m d) 40) = W0 at *
  have hb := Below.refl W0.heap.size W0
  go_wp2_with (first
    | (with_reducible refine wpList_load_opx (by with_unfolding_all rfl) _ rfl _ rfl (hx.below hb) KK ?_)
    | (go_at_call 27; (with_reducible refine (cE _ hz).mono ?_); rintro o1 w1 ⟨rfl, hb1⟩; replace hb := hb.trans (hb1.mono hb.size); replace hz := hz.trans (hb1.mono hz.size); clear hb1; replace q0 := (hx.below hb).c0; replace q1 := (hx.below hb).c1; replace q2 := (hx.below hb).c2))
  go_ret2
  exact .inl ⟨Xs, FA, fn, fc, rfl, HA.out, HN.out, bn, hr.below hz, fun Y hY => (HX.out Y hY).below hz, hz⟩

set_option maxRecDepth 100000 in
set_option maxHeartbeats 40000000 in
theorem ap_create_no (FA : Option Addr) (fn fc : Nat) (Xs : List FlV) (D : OpD) (A : Option Addr) (n c : Nat) (B : Option Addr) (m d : Nat) (w : World) (hn : Xs.length = fn) (bn : fn ≤ 300) (hr : FlRd w FA Xs) (hX : ∀ X ∈ Xs, FlOk w X) (hR : OpR w D A n B m) (hE : opE D = 0) (hk : D.k = 1) (a : Int) (hat : atV (Xs.map FlV.D) D.p = a) (r : Int) (hroom : roomV (Xs.map FlV.D) D.p = r) (h0 : ¬ r = 0) :
    Calls Try.prog 15 #[.slice FA fn fc, .agg (opC D A n c B m d)] w fun e w' => ApQ w w' (Xs.map FlV.D) D e := by
  have HA : Hid (applyF (Xs.map FlV.D) D = .error r) := hid (by unfold applyF; rw [if_pos hE, if_neg (by omega), if_pos hk, if_neg (by rw [hroom]; exact h0), hroom])
  have cA : ∀ W, Below w.heap.size w W → Calls Try.prog 28 #[.slice FA fn fc, .string (txt D.p)] W fun e w' => e = .returned (.int .i64 a) ∧ Below W.heap.size W w' := fun W h => by
    rw [← hat]
    exact rat_any FA fn fc Xs D.p W hn (by omega) (hr.below h)
  have cM : ∀ W, Below w.heap.size w W → Calls Try.prog 29 #[.slice FA fn fc, .string (txt D.p)] W fun e w' => e = .returned (.int .i64 r) ∧ Below W.heap.size W w' := fun W h => by
    rw [← hroom]
    exact rroom_any FA fn fc Xs D.p W hn (by omega) (hr.below h) (fun X hx => (hX X hx).bp) hR.bp
  clear hat hroom
  have cE : ∀ W, Below w.heap.size w W → Calls Try.prog 27 #[.agg (opC D A n c B m d)] W fun e w' => e = .returned (.int .i64 0) ∧ Below W.heap.size W w' := fun W h => by
    rw [← hE]
    exact rr13_any D hR.hK A n c hR.lo (by have := hR.bn; omega) B m d hR.ln (by have := hR.bm; omega) (by have := hR.bp; omega) (by have := hR.bt; omega) (fun x hx => Nat.le_trans (hR.bo x hx) (by decide)) (fun x hx => Nat.le_trans (hR.bx x hx) (by decide)) W (hR.rA.below h) (hR.rB.below h)
  have KK := hR.hK
  have bn9 : fn ≤ 9223372036854775807 := by omega
  have hx := OpX.new w D A n c B m d
  have hz := (Below.refl w.heap.size w).alloc (Nat.le_refl _) (.cells (opC D A n c B m d) 40)
  have HE := hid hE
  have HN := hid hn
  have HX := hid hX
  have HR := hid hR
  have q0 := hx.c0; rw [hk] at q0
  have q1 := hx.c1
  have q2 := hx.c2
  have HK := hid hk
  clear hk
  clear hE hn hX hR
  go_enter Try.func15, Try.ntmps15
  go_upto_region 1 with (fail)
  generalize w.alloc (.cells (opC D A n c B m d) 40) = W0 at *
  have hb := Below.refl W0.heap.size W0
  go_wp2_with (first
    | (with_reducible refine wpList_load_opx (by with_unfolding_all rfl) _ rfl _ rfl (hx.below hb) KK ?_)
    | (go_at_call 27; (with_reducible refine (cE _ hz).mono ?_); rintro o1 w1 ⟨rfl, hb1⟩; replace hb := hb.trans (hb1.mono hb.size); replace hz := hz.trans (hb1.mono hz.size); clear hb1; replace q0 := (hx.below hb).c0; rw [HK.out] at q0; replace q1 := (hx.below hb).c1; replace q2 := (hx.below hb).c2)
    | (go_at_call 28; (with_reducible refine (cA _ hz).mono ?_); rintro o2 w2 ⟨rfl, hb1⟩; replace hb := hb.trans (hb1.mono hb.size); replace hz := hz.trans (hb1.mono hz.size); clear hb1; replace q0 := (hx.below hb).c0; rw [HK.out] at q0; replace q1 := (hx.below hb).c1; replace q2 := (hx.below hb).c2)
    | (go_at_call 29; (with_reducible refine (cM _ hz).mono ?_); rintro o3 w3 ⟨rfl, hb1⟩; replace hb := hb.trans (hb1.mono hb.size); replace hz := hz.trans (hb1.mono hz.size); clear hb1; replace q0 := (hx.below hb).c0; rw [HK.out] at q0; replace q1 := (hx.below hb).c1; replace q2 := (hx.below hb).c2))
  go_ret2
  exact .inr ⟨r, rfl, HA.out, h0, hz⟩

set_option maxRecDepth 100000 in
set_option maxHeartbeats 40000000 in
theorem ap_create_full (FA : Option Addr) (fn fc : Nat) (Xs : List FlV) (D : OpD) (A : Option Addr) (n c : Nat) (B : Option Addr) (m d : Nat) (w : World) (hn : Xs.length = fn) (bn : fn ≤ 300) (hr : FlRd w FA Xs) (hX : ∀ X ∈ Xs, FlOk w X) (hR : OpR w D A n B m) (hE : opE D = 0) (hk : D.k = 1) (a : Int) (hat : atV (Xs.map FlV.D) D.p = a) (hroom : roomV (Xs.map FlV.D) D.p = 0) (h2 : 200 ≤ fn) :
    Calls Try.prog 15 #[.slice FA fn fc, .agg (opC D A n c B m d)] w fun e w' => ApQ w w' (Xs.map FlV.D) D e := by
  have HA : Hid (applyF (Xs.map FlV.D) D = .error 14) := hid (by unfold applyF; rw [if_pos hE, if_neg (by omega), if_pos hk, if_pos hroom, if_pos (by rw [List.length_map, hn]; exact h2)])
  have cA : ∀ W, Below w.heap.size w W → Calls Try.prog 28 #[.slice FA fn fc, .string (txt D.p)] W fun e w' => e = .returned (.int .i64 a) ∧ Below W.heap.size W w' := fun W h => by
    rw [← hat]
    exact rat_any FA fn fc Xs D.p W hn (by omega) (hr.below h)
  have cM : ∀ W, Below w.heap.size w W → Calls Try.prog 29 #[.slice FA fn fc, .string (txt D.p)] W fun e w' => e = .returned (.int .i64 0) ∧ Below W.heap.size W w' := fun W h => by
    rw [← hroom]
    exact rroom_any FA fn fc Xs D.p W hn (by omega) (hr.below h) (fun X hx => (hX X hx).bp) hR.bp
  clear hat hroom
  have h2' : (200 : Int) ≤ fn := by omega
  have cE : ∀ W, Below w.heap.size w W → Calls Try.prog 27 #[.agg (opC D A n c B m d)] W fun e w' => e = .returned (.int .i64 0) ∧ Below W.heap.size W w' := fun W h => by
    rw [← hE]
    exact rr13_any D hR.hK A n c hR.lo (by have := hR.bn; omega) B m d hR.ln (by have := hR.bm; omega) (by have := hR.bp; omega) (by have := hR.bt; omega) (fun x hx => Nat.le_trans (hR.bo x hx) (by decide)) (fun x hx => Nat.le_trans (hR.bx x hx) (by decide)) W (hR.rA.below h) (hR.rB.below h)
  have KK := hR.hK
  have bn9 : fn ≤ 9223372036854775807 := by omega
  have hx := OpX.new w D A n c B m d
  have hz := (Below.refl w.heap.size w).alloc (Nat.le_refl _) (.cells (opC D A n c B m d) 40)
  have HE := hid hE
  have HN := hid hn
  have HX := hid hX
  have HR := hid hR
  have q0 := hx.c0; rw [hk] at q0
  have q1 := hx.c1
  have q2 := hx.c2
  have HK := hid hk
  clear hk
  clear hE hn hX hR
  go_enter Try.func15, Try.ntmps15
  go_upto_region 1 with (fail)
  generalize w.alloc (.cells (opC D A n c B m d) 40) = W0 at *
  have hb := Below.refl W0.heap.size W0
  go_wp2_with (first
    | (with_reducible refine wpList_load_opx (by with_unfolding_all rfl) _ rfl _ rfl (hx.below hb) KK ?_)
    | (go_at_call 27; (with_reducible refine (cE _ hz).mono ?_); rintro o1 w1 ⟨rfl, hb1⟩; replace hb := hb.trans (hb1.mono hb.size); replace hz := hz.trans (hb1.mono hz.size); clear hb1; replace q0 := (hx.below hb).c0; rw [HK.out] at q0; replace q1 := (hx.below hb).c1; replace q2 := (hx.below hb).c2)
    | (go_at_call 28; (with_reducible refine (cA _ hz).mono ?_); rintro o2 w2 ⟨rfl, hb1⟩; replace hb := hb.trans (hb1.mono hb.size); replace hz := hz.trans (hb1.mono hz.size); clear hb1; replace q0 := (hx.below hb).c0; rw [HK.out] at q0; replace q1 := (hx.below hb).c1; replace q2 := (hx.below hb).c2)
    | (go_at_call 29; (with_reducible refine (cM _ hz).mono ?_); rintro o3 w3 ⟨rfl, hb1⟩; replace hb := hb.trans (hb1.mono hb.size); replace hz := hz.trans (hb1.mono hz.size); clear hb1; replace q0 := (hx.below hb).c0; rw [HK.out] at q0; replace q1 := (hx.below hb).c1; replace q2 := (hx.below hb).c2))
  go_ret2
  exact .inr ⟨14, rfl, HA.out, by decide, hz⟩

set_option maxRecDepth 100000 in
set_option maxHeartbeats 40000000 in
theorem ap_create_ok (FA : Option Addr) (fn fc : Nat) (Xs : List FlV) (D : OpD) (A : Option Addr) (n c : Nat) (B : Option Addr) (m d : Nat) (w : World) (hn : Xs.length = fn) (bn : fn ≤ 300) (hr : FlRd w FA Xs) (hX : ∀ X ∈ Xs, FlOk w X) (hR : OpR w D A n B m) (hE : opE D = 0) (hk : D.k = 1) (a : Int) (hat : atV (Xs.map FlV.D) D.p = a) (hroom : roomV (Xs.map FlV.D) D.p = 0) (h2 : ¬ 200 ≤ fn) :
    Calls Try.prog 15 #[.slice FA fn fc, .agg (opC D A n c B m d)] w fun e w' => ApQ w w' (Xs.map FlV.D) D e := by
  have HA : Hid (applyF (Xs.map FlV.D) D = .ok ((putF Xs ⟨D.p, [], none, 0, 0⟩).map FlV.D)) := hid (by unfold applyF; rw [if_pos hE, if_neg (by omega), if_pos hk, if_pos hroom, if_neg (by rw [List.length_map, hn]; exact h2), putF_map]; rfl)
  have cA : ∀ W, Below w.heap.size w W → Calls Try.prog 28 #[.slice FA fn fc, .string (txt D.p)] W fun e w' => e = .returned (.int .i64 a) ∧ Below W.heap.size W w' := fun W h => by
    rw [← hat]
    exact rat_any FA fn fc Xs D.p W hn (by omega) (hr.below h)
  have cM : ∀ W, Below w.heap.size w W → Calls Try.prog 29 #[.slice FA fn fc, .string (txt D.p)] W fun e w' => e = .returned (.int .i64 0) ∧ Below W.heap.size W w' := fun W h => by
    rw [← hroom]
    exact rroom_any FA fn fc Xs D.p W hn (by omega) (hr.below h) (fun X hx => (hX X hx).bp) hR.bp
  clear hat hroom
  have h2' : ¬ (200 : Int) ≤ fn := by omega
  have b9 : fn ≤ 900 := by omega
  have H2 := hid h2
  clear h2
  have cE : ∀ W, Below w.heap.size w W → Calls Try.prog 27 #[.agg (opC D A n c B m d)] W fun e w' => e = .returned (.int .i64 0) ∧ Below W.heap.size W w' := fun W h => by
    rw [← hE]
    exact rr13_any D hR.hK A n c hR.lo (by have := hR.bn; omega) B m d hR.ln (by have := hR.bm; omega) (by have := hR.bp; omega) (by have := hR.bt; omega) (fun x hx => Nat.le_trans (hR.bo x hx) (by decide)) (fun x hx => Nat.le_trans (hR.bx x hx) (by decide)) W (hR.rA.below h) (hR.rB.below h)
  have KK := hR.hK
  have bn9 : fn ≤ 9223372036854775807 := by omega
  have hx := OpX.new w D A n c B m d
  have hz := (Below.refl w.heap.size w).alloc (Nat.le_refl _) (.cells (opC D A n c B m d) 40)
  have HE := hid hE
  have HN := hid hn
  have HX := hid hX
  have HR := hid hR
  have q0 := hx.c0; rw [hk] at q0
  have q1 := hx.c1
  have q2 := hx.c2
  have HK := hid hk
  clear hk
  clear hE hn hX hR
  go_enter Try.func15, Try.ntmps15
  go_upto_region 1 with (fail)
  generalize w.alloc (.cells (opC D A n c B m d) 40) = W0 at *
  have hb := Below.refl W0.heap.size W0
  go_wp2_with (first
    | (with_reducible refine wpList_load_opx (by with_unfolding_all rfl) _ rfl _ rfl (hx.below hb) KK ?_)
    | (go_at_call 27; (with_reducible refine (cE _ hz).mono ?_); rintro o1 w1 ⟨rfl, hb1⟩; replace hb := hb.trans (hb1.mono hb.size); replace hz := hz.trans (hb1.mono hz.size); clear hb1; replace q0 := (hx.below hb).c0; rw [HK.out] at q0; replace q1 := (hx.below hb).c1; replace q2 := (hx.below hb).c2)
    | (go_at_call 28; (with_reducible refine (cA _ hz).mono ?_); rintro o2 w2 ⟨rfl, hb1⟩; replace hb := hb.trans (hb1.mono hb.size); replace hz := hz.trans (hb1.mono hz.size); clear hb1; replace q0 := (hx.below hb).c0; rw [HK.out] at q0; replace q1 := (hx.below hb).c1; replace q2 := (hx.below hb).c2)
    | (go_at_call 29; (with_reducible refine (cM _ hz).mono ?_); rintro o3 w3 ⟨rfl, hb1⟩; replace hb := hb.trans (hb1.mono hb.size); replace hz := hz.trans (hb1.mono hz.size); clear hb1; replace q0 := (hx.below hb).c0; rw [HK.out] at q0; replace q1 := (hx.below hb).c1; replace q2 := (hx.below hb).c2)
    | (go_at_call 30; (with_reducible refine (rput_s FA fn fc Xs ⟨D.p, [], none, 0, 0⟩ _ HN.out b9 (hr.below hz)).mono ?_); rintro o4 w4 ⟨A4, c4, rfl, r4, hb1⟩; replace hb := hb.trans (hb1.mono hb.size); replace hz := hz.trans (hb1.mono hz.size); clear hb1; replace q0 := (hx.below hb).c0; rw [HK.out] at q0; replace q1 := (hx.below hb).c1; replace q2 := (hx.below hb).c2; have r4' := r4))
  go_ret2
  refine .inl ⟨putF Xs ⟨D.p, [], none, 0, 0⟩, A4, fn + 1, c4, rfl, HA.out, by rw [putF_len, HN.out], by have := H2.out; omega, r4, fun Y hY => ?_, hz⟩
  rcases putF_mem _ _ _ hY with rfl | hY
  · exact ⟨rfl, Nat.zero_le _, by simp, HR.out.bp, .inl rfl⟩
  · exact (HX.out Y hY).below hz

set_option maxRecDepth 100000 in
set_option maxHeartbeats 40000000 in
theorem ap_gone (FA : Option Addr) (fn fc : Nat) (Xs : List FlV) (D : OpD) (A : Option Addr) (n c : Nat) (B : Option Addr) (m d : Nat) (w : World) (hn : Xs.length = fn) (bn : fn ≤ 300) (hr : FlRd w FA Xs) (hX : ∀ X ∈ Xs, FlOk w X) (hR : OpR w D A n B m) (hE : opE D = 0) (hk : D.k = 2 ∨ D.k = 3 ∨ D.k = 4) (hat : atV (Xs.map FlV.D) D.p = -1) :
    Calls Try.prog 15 #[.slice FA fn fc, .agg (opC D A n c B m d)] w fun e w' => ApQ w w' (Xs.map FlV.D) D e := by
  have HA : Hid (applyF (Xs.map FlV.D) D = .error 6) := hid (by unfold applyF; rw [if_pos hE, if_neg (by omega), if_neg (by omega), if_pos (by rw [hat]; decide)])
  have k1 : ¬ 4 < D.k := by omega
  have k2 : ¬ D.k = 1 := by omega
  clear hk
  have cA : ∀ W, Below w.heap.size w W → Calls Try.prog 28 #[.slice FA fn fc, .string (txt D.p)] W fun e w' => e = .returned (.int .i64 (-1)) ∧ Below W.heap.size W w' := fun W h => by
    rw [← hat]
    exact rat_any FA fn fc Xs D.p W hn (by omega) (hr.below h)
  clear hat
  have cE : ∀ W, Below w.heap.size w W → Calls Try.prog 27 #[.agg (opC D A n c B m d)] W fun e w' => e = .returned (.int .i64 0) ∧ Below W.heap.size W w' := fun W h => by
    rw [← hE]
    exact rr13_any D hR.hK A n c hR.lo (by have := hR.bn; omega) B m d hR.ln (by have := hR.bm; omega) (by have := hR.bp; omega) (by have := hR.bt; omega) (fun x hx => Nat.le_trans (hR.bo x hx) (by decide)) (fun x hx => Nat.le_trans (hR.bx x hx) (by decide)) W (hR.rA.below h) (hR.rB.below h)
  have KK := hR.hK
  have bn9 : fn ≤ 9223372036854775807 := by omega
  have hx := OpX.new w D A n c B m d
  have hz := (Below.refl w.heap.size w).alloc (Nat.le_refl _) (.cells (opC D A n c B m d) 40)
  have HE := hid hE
  have HN := hid hn
  have HX := hid hX
  have HR := hid hR
  have q0 := hx.c0
  have q1 := hx.c1
  have q2 := hx.c2
  clear hE hn hX hR
  go_enter Try.func15, Try.ntmps15
  go_upto_region 1 with (fail)
  generalize w.alloc (.cells (opC D A n c B m d) 40) = W0 at *
  have hb := Below.refl W0.heap.size W0
  go_wp2_with (first
    | (with_reducible refine wpList_load_opx (by with_unfolding_all rfl) _ rfl _ rfl (hx.below hb) KK ?_)
    | (go_at_call 27; (with_reducible refine (cE _ hz).mono ?_); rintro o1 w1 ⟨rfl, hb1⟩; replace hb := hb.trans (hb1.mono hb.size); replace hz := hz.trans (hb1.mono hz.size); clear hb1; replace q0 := (hx.below hb).c0; replace q1 := (hx.below hb).c1; replace q2 := (hx.below hb).c2)
    | (go_at_call 28; (with_reducible refine (cA _ hz).mono ?_); rintro o2 w2 ⟨rfl, hb1⟩; replace hb := hb.trans (hb1.mono hb.size); replace hz := hz.trans (hb1.mono hz.size); clear hb1; replace q0 := (hx.below hb).c0; replace q1 := (hx.below hb).c1; replace q2 := (hx.below hb).c2))
  go_ret2
  exact .inr ⟨6, rfl, HA.out, by decide, hz⟩

set_option maxRecDepth 100000 in
set_option maxHeartbeats 40000000 in
theorem ap_delete_no (FA : Option Addr) (fn fc : Nat) (Xs : List FlV) (D : OpD) (A : Option Addr) (n c : Nat) (B : Option Addr) (m d : Nat) (w : World) (hn : Xs.length = fn) (bn : fn ≤ 300) (hr : FlRd w FA Xs) (hX : ∀ X ∈ Xs, FlOk w X) (hR : OpR w D A n B m) (hE : opE D = 0) (hk : D.k = 2) (i : Nat) (X : FlV) (hat : atV (Xs.map FlV.D) D.p = (i : Nat)) (hXi : Xs[i]? = some X) (hs : decide (X.l = D.o) = false) :
    Calls Try.prog 15 #[.slice FA fn fc, .agg (opC D A n c B m d)] w fun e w' => ApQ w w' (Xs.map FlV.D) D e := by
  have hi : i < fn := by rw [← hn]; exact (List.getElem?_eq_some_iff.1 hXi).1
  have hi2 : ¬ (i : Int) < 0 := by omega
  have hi3 : ¬ atV (Xs.map FlV.D) D.p < 0 := by rw [hat]; exact hi2
  have hi4 : (Xs.map FlV.D)[(atV (Xs.map FlV.D) D.p).toNat]? = some X.D := by rw [hat, Int.toNat_natCast, List.getElem?_map, hXi]; rfl
  have hi5 : (Xs.map FlV.D).eraseIdx (atV (Xs.map FlV.D) D.p).toNat = (Xs.eraseIdx i).map FlV.D := by rw [hat, Int.toNat_natCast, erase_map]
  have HA : Hid (applyF (Xs.map FlV.D) D = .error 12) := hid (by unfold applyF; rw [if_pos hE, if_neg (by omega), if_neg (by omega), if_neg hi3, hi4, hi5]; simp only; rw [if_pos hk, if_neg (by exact of_decide_eq_false hs)])
  have cA : ∀ W, Below w.heap.size w W → Calls Try.prog 28 #[.slice FA fn fc, .string (txt D.p)] W fun e w' => e = .returned (.int .i64 (i : Int)) ∧ Below W.heap.size W w' := fun W h => by
    rw [← hat]
    exact rat_any FA fn fc Xs D.p W hn (by omega) (hr.below h)
  obtain ⟨g, q, hg, -, -, hix⟩ := hr.pick fc hn hXi
  have hXo := hX X (List.mem_of_getElem? hXi)
  have b9 : fn ≤ 900 := by omega
  have cW : ∀ W, Below w.heap.size w W → Calls Try.prog 16 #[.slice X.A X.n X.c, .slice A n c] W fun e w' => e = .returned (.bool false) ∧ Below W.heap.size W w' := fun W h => by
    rw [← hs]
    exact same_any X.A A X.n n X.c c X.l D.o hXo.ln hR.lo (by have := hXo.bn; omega) (by have := hR.bn; omega) W (hXo.rA.below h) (hR.rA.below h)
  have HXI := hid hXi
  have HXO := hid hXo

  clear hat hXi hi3 hi4 hi5 hXo
  clear hs
  have cE : ∀ W, Below w.heap.size w W → Calls Try.prog 27 #[.agg (opC D A n c B m d)] W fun e w' => e = .returned (.int .i64 0) ∧ Below W.heap.size W w' := fun W h => by
    rw [← hE]
    exact rr13_any D hR.hK A n c hR.lo (by have := hR.bn; omega) B m d hR.ln (by have := hR.bm; omega) (by have := hR.bp; omega) (by have := hR.bt; omega) (fun x hx => Nat.le_trans (hR.bo x hx) (by decide)) (fun x hx => Nat.le_trans (hR.bx x hx) (by decide)) W (hR.rA.below h) (hR.rB.below h)
  have KK := hR.hK
  have bn9 : fn ≤ 9223372036854775807 := by omega
  have hx := OpX.new w D A n c B m d
  have hz := (Below.refl w.heap.size w).alloc (Nat.le_refl _) (.cells (opC D A n c B m d) 40)
  have HE := hid hE
  have HN := hid hn
  have HX := hid hX
  have HR := hid hR
  have q0 := hx.c0; rw [hk] at q0
  have q1 := hx.c1
  have q2 := hx.c2
  have HK := hid hk
  clear hk
  clear hE hn hX hR
  go_enter Try.func15, Try.ntmps15
  go_upto_region 1 with (fail)
  generalize w.alloc (.cells (opC D A n c B m d) 40) = W0 at *
  have hb := Below.refl W0.heap.size W0
  go_wp2_with (first
    | (with_reducible refine wpList_load_opx (by with_unfolding_all rfl) _ rfl _ rfl (hx.below hb) KK ?_)
    | (go_at_call 27; (with_reducible refine (cE _ hz).mono ?_); rintro o1 w1 ⟨rfl, hb1⟩; replace hb := hb.trans (hb1.mono hb.size); replace hz := hz.trans (hb1.mono hz.size); clear hb1; replace q0 := (hx.below hb).c0; rw [HK.out] at q0; replace q1 := (hx.below hb).c1; replace q2 := (hx.below hb).c2)
    | (go_at_call 28; (with_reducible refine (cA _ hz).mono ?_); rintro o2 w2 ⟨rfl, hb1⟩; replace hb := hb.trans (hb1.mono hb.size); replace hz := hz.trans (hb1.mono hz.size); clear hb1; replace q0 := (hx.below hb).c0; rw [HK.out] at q0; replace q1 := (hx.below hb).c1; replace q2 := (hx.below hb).c2)
    | (go_at_call 31; (with_reducible refine (rdrop_s FA fn fc Xs i _ HN.out b9 hi (hr.below hz)).mono ?_); rintro o5 w5 ⟨A3, c3, rfl, r3, hb1⟩; replace hb := hb.trans (hb1.mono hb.size); replace hz := hz.trans (hb1.mono hz.size); clear hb1; replace q0 := (hx.below hb).c0; rw [HK.out] at q0; replace q1 := (hx.below hb).c1; replace q2 := (hx.below hb).c2))
  refine wp_region_held_drew (S := fun W => Below w.heap.size w W ∧ OpX W w.heap.size D A n c B m d) (by kernel_rfl) ⟨hz.trans ((below_drew10 _).mono hz.size), (hx.below hb).below (below_drew10 _)⟩ (fun hHeld => ?_)
  replace hz := hz.trans ((below_drew10 _).mono hz.size)
  replace r3 := r3.below (below_drew10 _)
  clear hb q0 q1 q2
  generalize World.drew _ = V1 at *
  refine' wpAnyH_take (i := 0) (v := .slice FA fn fc) rfl (by kernel_rfl) (by kernel_rfl) (by kernel_rfl) (fun _ _ _ h => h) (Or.inl ⟨by rfl, fun w' hw' => by go_simp⟩) hHeld ?_
  try simp only [Act.put, List.getElem_toArray, List.getElem_cons_succ, List.getElem_cons_zero, List.setIfInBounds_toArray, List.set_cons_zero, List.set_cons_succ]
  refine' wpAnyH_take (i := 1) (v := .int .i64 (i : Int)) rfl (by kernel_rfl) (by kernel_rfl) (by kernel_rfl) (fun _ _ _ h => h) (Or.inl ⟨by rfl, fun w' hw' => by go_simp⟩) hHeld ?_
  try simp only [Act.put, List.getElem_toArray, List.getElem_cons_succ, List.getElem_cons_zero, List.setIfInBounds_toArray, List.set_cons_zero, List.set_cons_succ]
  refine' wpAnyH_take (i := 2) (v := .pointer (some ⟨g, q, none⟩)) rfl (by kernel_rfl) (by kernel_rfl) (by kernel_rfl) (fun _ _ _ h => h) (Or.inl ⟨by rfl, fun w' hw' => by go_simp⟩) hHeld ?_
  try simp only [Act.put, List.getElem_toArray, List.getElem_cons_succ, List.getElem_cons_zero, List.setIfInBounds_toArray, List.set_cons_zero, List.set_cons_succ]
  refine' wpAnyH_take (i := 3) (v := .pointer (some ⟨g, q + 1, none⟩)) rfl (by kernel_rfl) (by kernel_rfl) (by kernel_rfl) (fun _ _ _ h => h) (Or.inl ⟨by rfl, fun w' hw' => by go_simp⟩) hHeld ?_
  try simp only [Act.put, List.getElem_toArray, List.getElem_cons_succ, List.getElem_cons_zero, List.setIfInBounds_toArray, List.set_cons_zero, List.set_cons_succ]
  refine' wpAnyH_take (i := 4) (v := .slice X.A X.n X.c) rfl (by kernel_rfl) (by kernel_rfl) (by kernel_rfl) (fun _ _ _ h => h) (Or.inl ⟨by rfl, fun w' hw' => by have y := (hg.below hw'.1) 1 _ rfl; go_simp⟩) hHeld ?_
  try simp only [Act.put, List.getElem_toArray, List.getElem_cons_succ, List.getElem_cons_zero, List.setIfInBounds_toArray, List.set_cons_zero, List.set_cons_succ]
  refine' wpAnyH_take (i := 5) (v := .pointer (some ⟨w.heap.size, 4, none⟩)) rfl (by kernel_rfl) (by kernel_rfl) (by kernel_rfl) (fun _ _ _ h => h) (Or.inl ⟨by rfl, fun w' hw' => by go_simp⟩) hHeld ?_
  try simp only [Act.put, List.getElem_toArray, List.getElem_cons_succ, List.getElem_cons_zero, List.setIfInBounds_toArray, List.set_cons_zero, List.set_cons_succ]
  refine' wpAnyH_take (i := 6) (v := .slice A n c) rfl (by kernel_rfl) (by kernel_rfl) (by kernel_rfl) (fun _ _ _ h => h) (Or.inl ⟨by rfl, fun w' hw' => by have y := hw'.2.c4; go_simp⟩) hHeld ?_
  try simp only [Act.put, List.getElem_toArray, List.getElem_cons_succ, List.getElem_cons_zero, List.setIfInBounds_toArray, List.set_cons_zero, List.set_cons_succ]
  refine wpAnyH_ready (rs := [7]) (by kernel_rfl) (by simp) ?_
  refine AllReadyH.cons rfl (fun K hK => ?_) AllReadyH.nil
  go_simp
  (with_reducible refine (cW _ hHeld.1).mono ?_)
  rintro e9 V2 ⟨rfl, hb9⟩
  replace hz := hz.trans (hb9.mono hz.size)
  replace r3 := r3.below hb9
  refine hK.out _ _ ⟨hz, hHeld.2.below hb9⟩ (fun hHeld => ?_)
  clear hK K hb9
  try simp only [Act.put, List.getElem_toArray, List.getElem_cons_succ, List.getElem_cons_zero, List.setIfInBounds_toArray, List.set_cons_zero, List.set_cons_succ]
  refine' wpAnyH_take (i := 8) (v := .bool true) rfl (by kernel_rfl) (by kernel_rfl) (by kernel_rfl) (fun _ _ _ h => h) (Or.inl ⟨by rfl, fun w' hw' => by go_simp⟩) hHeld ?_
  try simp only [Act.put, List.getElem_toArray, List.getElem_cons_succ, List.getElem_cons_zero, List.setIfInBounds_toArray, List.set_cons_zero, List.set_cons_succ]
  refine wpAnyH_done (by kernel_rfl) ?_ _
  go_wp2
  go_ret2
  exact .inr ⟨12, rfl, HA.out, by decide, hz⟩

set_option maxRecDepth 100000 in
set_option maxHeartbeats 40000000 in
theorem ap_delete_ok (FA : Option Addr) (fn fc : Nat) (Xs : List FlV) (D : OpD) (A : Option Addr) (n c : Nat) (B : Option Addr) (m d : Nat) (w : World) (hn : Xs.length = fn) (bn : fn ≤ 300) (hr : FlRd w FA Xs) (hX : ∀ X ∈ Xs, FlOk w X) (hR : OpR w D A n B m) (hE : opE D = 0) (hk : D.k = 2) (i : Nat) (X : FlV) (hat : atV (Xs.map FlV.D) D.p = (i : Nat)) (hXi : Xs[i]? = some X) (hs : decide (X.l = D.o) = true) :
    Calls Try.prog 15 #[.slice FA fn fc, .agg (opC D A n c B m d)] w fun e w' => ApQ w w' (Xs.map FlV.D) D e := by
  have hi : i < fn := by rw [← hn]; exact (List.getElem?_eq_some_iff.1 hXi).1
  have hi2 : ¬ (i : Int) < 0 := by omega
  have hi3 : ¬ atV (Xs.map FlV.D) D.p < 0 := by rw [hat]; exact hi2
  have hi4 : (Xs.map FlV.D)[(atV (Xs.map FlV.D) D.p).toNat]? = some X.D := by rw [hat, Int.toNat_natCast, List.getElem?_map, hXi]; rfl
  have hi5 : (Xs.map FlV.D).eraseIdx (atV (Xs.map FlV.D) D.p).toNat = (Xs.eraseIdx i).map FlV.D := by rw [hat, Int.toNat_natCast, erase_map]
  have HA : Hid (applyF (Xs.map FlV.D) D = .ok ((Xs.eraseIdx i).map FlV.D)) := hid (by unfold applyF; rw [if_pos hE, if_neg (by omega), if_neg (by omega), if_neg hi3, hi4, hi5]; simp only; rw [if_pos hk, if_pos (by exact of_decide_eq_true hs)])
  have cA : ∀ W, Below w.heap.size w W → Calls Try.prog 28 #[.slice FA fn fc, .string (txt D.p)] W fun e w' => e = .returned (.int .i64 (i : Int)) ∧ Below W.heap.size W w' := fun W h => by
    rw [← hat]
    exact rat_any FA fn fc Xs D.p W hn (by omega) (hr.below h)
  obtain ⟨g, q, hg, -, -, hix⟩ := hr.pick fc hn hXi
  have hXo := hX X (List.mem_of_getElem? hXi)
  have b9 : fn ≤ 900 := by omega
  have cW : ∀ W, Below w.heap.size w W → Calls Try.prog 16 #[.slice X.A X.n X.c, .slice A n c] W fun e w' => e = .returned (.bool true) ∧ Below W.heap.size W w' := fun W h => by
    rw [← hs]
    exact same_any X.A A X.n n X.c c X.l D.o hXo.ln hR.lo (by have := hXo.bn; omega) (by have := hR.bn; omega) W (hXo.rA.below h) (hR.rA.below h)
  have HXI := hid hXi
  have HXO := hid hXo

  clear hat hXi hi3 hi4 hi5 hXo
  clear hs
  have cE : ∀ W, Below w.heap.size w W → Calls Try.prog 27 #[.agg (opC D A n c B m d)] W fun e w' => e = .returned (.int .i64 0) ∧ Below W.heap.size W w' := fun W h => by
    rw [← hE]
    exact rr13_any D hR.hK A n c hR.lo (by have := hR.bn; omega) B m d hR.ln (by have := hR.bm; omega) (by have := hR.bp; omega) (by have := hR.bt; omega) (fun x hx => Nat.le_trans (hR.bo x hx) (by decide)) (fun x hx => Nat.le_trans (hR.bx x hx) (by decide)) W (hR.rA.below h) (hR.rB.below h)
  have KK := hR.hK
  have bn9 : fn ≤ 9223372036854775807 := by omega
  have hx := OpX.new w D A n c B m d
  have hz := (Below.refl w.heap.size w).alloc (Nat.le_refl _) (.cells (opC D A n c B m d) 40)
  have HE := hid hE
  have HN := hid hn
  have HX := hid hX
  have HR := hid hR
  have q0 := hx.c0; rw [hk] at q0
  have q1 := hx.c1
  have q2 := hx.c2
  have HK := hid hk
  clear hk
  clear hE hn hX hR
  go_enter Try.func15, Try.ntmps15
  go_upto_region 1 with (fail)
  generalize w.alloc (.cells (opC D A n c B m d) 40) = W0 at *
  have hb := Below.refl W0.heap.size W0
  go_wp2_with (first
    | (with_reducible refine wpList_load_opx (by with_unfolding_all rfl) _ rfl _ rfl (hx.below hb) KK ?_)
    | (go_at_call 27; (with_reducible refine (cE _ hz).mono ?_); rintro o1 w1 ⟨rfl, hb1⟩; replace hb := hb.trans (hb1.mono hb.size); replace hz := hz.trans (hb1.mono hz.size); clear hb1; replace q0 := (hx.below hb).c0; rw [HK.out] at q0; replace q1 := (hx.below hb).c1; replace q2 := (hx.below hb).c2)
    | (go_at_call 28; (with_reducible refine (cA _ hz).mono ?_); rintro o2 w2 ⟨rfl, hb1⟩; replace hb := hb.trans (hb1.mono hb.size); replace hz := hz.trans (hb1.mono hz.size); clear hb1; replace q0 := (hx.below hb).c0; rw [HK.out] at q0; replace q1 := (hx.below hb).c1; replace q2 := (hx.below hb).c2)
    | (go_at_call 31; (with_reducible refine (rdrop_s FA fn fc Xs i _ HN.out b9 hi (hr.below hz)).mono ?_); rintro o5 w5 ⟨A3, c3, rfl, r3, hb1⟩; replace hb := hb.trans (hb1.mono hb.size); replace hz := hz.trans (hb1.mono hz.size); clear hb1; replace q0 := (hx.below hb).c0; rw [HK.out] at q0; replace q1 := (hx.below hb).c1; replace q2 := (hx.below hb).c2))
  refine wp_region_held_drew (S := fun W => Below w.heap.size w W ∧ OpX W w.heap.size D A n c B m d) (by kernel_rfl) ⟨hz.trans ((below_drew10 _).mono hz.size), (hx.below hb).below (below_drew10 _)⟩ (fun hHeld => ?_)
  replace hz := hz.trans ((below_drew10 _).mono hz.size)
  replace r3 := r3.below (below_drew10 _)
  clear hb q0 q1 q2
  generalize World.drew _ = V1 at *
  refine' wpAnyH_take (i := 0) (v := .slice FA fn fc) rfl (by kernel_rfl) (by kernel_rfl) (by kernel_rfl) (fun _ _ _ h => h) (Or.inl ⟨by rfl, fun w' hw' => by go_simp⟩) hHeld ?_
  try simp only [Act.put, List.getElem_toArray, List.getElem_cons_succ, List.getElem_cons_zero, List.setIfInBounds_toArray, List.set_cons_zero, List.set_cons_succ]
  refine' wpAnyH_take (i := 1) (v := .int .i64 (i : Int)) rfl (by kernel_rfl) (by kernel_rfl) (by kernel_rfl) (fun _ _ _ h => h) (Or.inl ⟨by rfl, fun w' hw' => by go_simp⟩) hHeld ?_
  try simp only [Act.put, List.getElem_toArray, List.getElem_cons_succ, List.getElem_cons_zero, List.setIfInBounds_toArray, List.set_cons_zero, List.set_cons_succ]
  refine' wpAnyH_take (i := 2) (v := .pointer (some ⟨g, q, none⟩)) rfl (by kernel_rfl) (by kernel_rfl) (by kernel_rfl) (fun _ _ _ h => h) (Or.inl ⟨by rfl, fun w' hw' => by go_simp⟩) hHeld ?_
  try simp only [Act.put, List.getElem_toArray, List.getElem_cons_succ, List.getElem_cons_zero, List.setIfInBounds_toArray, List.set_cons_zero, List.set_cons_succ]
  refine' wpAnyH_take (i := 3) (v := .pointer (some ⟨g, q + 1, none⟩)) rfl (by kernel_rfl) (by kernel_rfl) (by kernel_rfl) (fun _ _ _ h => h) (Or.inl ⟨by rfl, fun w' hw' => by go_simp⟩) hHeld ?_
  try simp only [Act.put, List.getElem_toArray, List.getElem_cons_succ, List.getElem_cons_zero, List.setIfInBounds_toArray, List.set_cons_zero, List.set_cons_succ]
  refine' wpAnyH_take (i := 4) (v := .slice X.A X.n X.c) rfl (by kernel_rfl) (by kernel_rfl) (by kernel_rfl) (fun _ _ _ h => h) (Or.inl ⟨by rfl, fun w' hw' => by have y := (hg.below hw'.1) 1 _ rfl; go_simp⟩) hHeld ?_
  try simp only [Act.put, List.getElem_toArray, List.getElem_cons_succ, List.getElem_cons_zero, List.setIfInBounds_toArray, List.set_cons_zero, List.set_cons_succ]
  refine' wpAnyH_take (i := 5) (v := .pointer (some ⟨w.heap.size, 4, none⟩)) rfl (by kernel_rfl) (by kernel_rfl) (by kernel_rfl) (fun _ _ _ h => h) (Or.inl ⟨by rfl, fun w' hw' => by go_simp⟩) hHeld ?_
  try simp only [Act.put, List.getElem_toArray, List.getElem_cons_succ, List.getElem_cons_zero, List.setIfInBounds_toArray, List.set_cons_zero, List.set_cons_succ]
  refine' wpAnyH_take (i := 6) (v := .slice A n c) rfl (by kernel_rfl) (by kernel_rfl) (by kernel_rfl) (fun _ _ _ h => h) (Or.inl ⟨by rfl, fun w' hw' => by have y := hw'.2.c4; go_simp⟩) hHeld ?_
  try simp only [Act.put, List.getElem_toArray, List.getElem_cons_succ, List.getElem_cons_zero, List.setIfInBounds_toArray, List.set_cons_zero, List.set_cons_succ]
  refine wpAnyH_ready (rs := [7]) (by kernel_rfl) (by simp) ?_
  refine AllReadyH.cons rfl (fun K hK => ?_) AllReadyH.nil
  go_simp
  (with_reducible refine (cW _ hHeld.1).mono ?_)
  rintro e9 V2 ⟨rfl, hb9⟩
  replace hz := hz.trans (hb9.mono hz.size)
  replace r3 := r3.below hb9
  refine hK.out _ _ ⟨hz, hHeld.2.below hb9⟩ (fun hHeld => ?_)
  clear hK K hb9
  try simp only [Act.put, List.getElem_toArray, List.getElem_cons_succ, List.getElem_cons_zero, List.setIfInBounds_toArray, List.set_cons_zero, List.set_cons_succ]
  refine' wpAnyH_take (i := 8) (v := .bool false) rfl (by kernel_rfl) (by kernel_rfl) (by kernel_rfl) (fun _ _ _ h => h) (Or.inl ⟨by rfl, fun w' hw' => by go_simp⟩) hHeld ?_
  try simp only [Act.put, List.getElem_toArray, List.getElem_cons_succ, List.getElem_cons_zero, List.setIfInBounds_toArray, List.set_cons_zero, List.set_cons_succ]
  refine wpAnyH_done (by kernel_rfl) ?_ _
  go_wp2
  go_ret2
  exact .inl ⟨Xs.eraseIdx i, A3, fn - 1, c3, rfl, HA.out, by rw [List.length_eraseIdx, if_pos (by rw [HN.out]; exact hi), HN.out], by omega, r3, fun Y hY => (HX.out Y (erase_mem hY)).below hz, hz⟩

/-- Lines that are read. -/
def NwL (W : World) (A : Option Addr) (n : Nat) (l : List (List UInt8)) : Prop := l.length = n ∧ n ≤ 1000 ∧ (∀ x ∈ l, x.length ≤ 1000) ∧ Rd W A (l.map strV)
theorem apR_len9 (ls : List (List UInt8)) (at' : Int) (old new : List (List UInt8)) : (apR ls at' old new).1.length ≤ 1000 := by
  by_cases h : (apR ls at' old new).2 = 0
  · exact (apR_back ls at' old new h).2
  · have : (apR ls at' old new).1 = [] := by
      revert h; unfold apR appR; repeat' split
      all_goals simp
    rw [this]; decide
theorem apR_short9 (ls : List (List UInt8)) (at' : Int) (old new : List (List UInt8)) (N : Nat) (h1 : ∀ x ∈ ls, x.length ≤ N) (h2 : ∀ x ∈ new, x.length ≤ N) : ∀ x ∈ (apR ls at' old new).1, x.length ≤ N := by
  by_cases h : (apR ls at' old new).2 = 0
  · obtain ⟨P, S, _, e2, e3, _, _⟩ := apR_get h
    rw [e3]
    intro x hx
    simp only [List.mem_append] at hx
    rcases hx with hx | hx | hx
    · exact h1 x (by rw [e2]; simp [hx])
    · exact h2 x hx
    · exact h1 x (by rw [e2]; simp [hx])
  · have : (apR ls at' old new).1 = [] := by
      revert h; unfold apR appR; repeat' split
      all_goals simp
    rw [this]
    intro x hx
    cases hx
theorem redit_any (L : Option Addr) (k e : Nat) (ls : List (List UInt8)) (hk : ls.length = k) (bk : k ≤ 1000) (l8 : ∀ x ∈ ls, x.length ≤ 1000) (at' : Int) (A : Option Addr) (n c : Nat) (old : List (List UInt8)) (hn : old.length = n) (bn : n ≤ 1000) (o8 : ∀ x ∈ old, x.length ≤ 1000) (B : Option Addr) (m d : Nat) (new : List (List UInt8)) (hm : new.length = m) (bm : m ≤ 1000) (n8 : ∀ x ∈ new, x.length ≤ 1000) (w : World)
    (hL : Rd w L (ls.map strV)) (hA : Rd w A (old.map strV)) (hB : Rd w B (new.map strV)) :
    Calls Try.prog 32 #[.slice L k e, .agg #[.int .i64 at', .slice A n c, .slice B m d]] w fun e w' => ∃ A5 n5 c5, e = .returned (.tuple #[.slice A5 n5 c5, .int .i64 (apR ls at' old new).2]) ∧ NwL w' A5 n5 (apR ls at' old new).1 ∧ Below w.heap.size w w' := by
  refine (rapply_any L k e ls hk bk at' A n c old hn bn B m d new hm bm (fun x hx => Nat.le_trans (l8 x hx) (by decide)) (fun x hx => Nat.le_trans (o8 x hx) (by decide)) (fun x hx => Nat.le_trans (n8 x hx) (by decide)) w hL hA hB).mono ?_
  rintro e w' ⟨v, rfl, ho, hb⟩
  rw [← apR_snd]
  rw [← apR_fst] at ho
  obtain ⟨h1, A5, c5, rfl, h2⟩ := rowRd ho
  exact ⟨A5, _, c5, rfl, ⟨rfl, apR_len9 _ _ _ _, apR_short9 _ _ _ _ 1000 l8 n8, h2⟩, hb⟩

set_option maxRecDepth 100000 in
set_option maxHeartbeats 40000000 in
theorem ap_edit_no (FA : Option Addr) (fn fc : Nat) (Xs : List FlV) (D : OpD) (A : Option Addr) (n c : Nat) (B : Option Addr) (m d : Nat) (w : World) (hn : Xs.length = fn) (bn : fn ≤ 300) (hr : FlRd w FA Xs) (hX : ∀ X ∈ Xs, FlOk w X) (hR : OpR w D A n B m) (hE : opE D = 0) (hk : D.k = 3) (i : Nat) (X : FlV) (hat : atV (Xs.map FlV.D) D.p = (i : Nat)) (hXi : Xs[i]? = some X) (r : Int) (hs : (apR X.l D.a D.o D.n).2 = r) (h0 : ¬ r = 0) :
    Calls Try.prog 15 #[.slice FA fn fc, .agg (opC D A n c B m d)] w fun e w' => ApQ w w' (Xs.map FlV.D) D e := by
  have hi : i < fn := by rw [← hn]; exact (List.getElem?_eq_some_iff.1 hXi).1
  have hi2 : ¬ (i : Int) < 0 := by omega
  have hi3 : ¬ atV (Xs.map FlV.D) D.p < 0 := by rw [hat]; exact hi2
  have hi4 : (Xs.map FlV.D)[(atV (Xs.map FlV.D) D.p).toNat]? = some X.D := by rw [hat, Int.toNat_natCast, List.getElem?_map, hXi]; rfl
  have hi5 : (Xs.map FlV.D).eraseIdx (atV (Xs.map FlV.D) D.p).toNat = (Xs.eraseIdx i).map FlV.D := by rw [hat, Int.toNat_natCast, erase_map]
  have HA : Hid (applyF (Xs.map FlV.D) D = .error r) := hid (by unfold applyF; rw [if_pos hE, if_neg (by omega), if_neg (by omega), if_neg hi3, hi4, hi5]; simp only; rw [if_neg (by omega), if_pos hk, if_neg (by rw [show X.D.2 = X.l from rfl, hs]; exact h0), show X.D.2 = X.l from rfl, hs])
  have cA : ∀ W, Below w.heap.size w W → Calls Try.prog 28 #[.slice FA fn fc, .string (txt D.p)] W fun e w' => e = .returned (.int .i64 (i : Int)) ∧ Below W.heap.size W w' := fun W h => by
    rw [← hat]
    exact rat_any FA fn fc Xs D.p W hn (by omega) (hr.below h)
  obtain ⟨g, q, hg, -, -, hix⟩ := hr.pick fc hn hXi
  have hXo := hX X (List.mem_of_getElem? hXi)
  have b9 : fn ≤ 900 := by omega
  have cV : ∀ W, Below w.heap.size w W → Calls Try.prog 32 #[.slice X.A X.n X.c, .agg #[.int .i64 D.a, .slice A n c, .slice B m d]] W fun e w' => ∃ A5 n5 c5, e = .returned (.tuple #[.slice A5 n5 c5, .int .i64 r]) ∧ NwL w' A5 n5 (apR X.l D.a D.o D.n).1 ∧ Below W.heap.size W w' := fun W h => by
    rw [← hs]
    exact redit_any X.A X.n X.c X.l hXo.ln hXo.bn hXo.bx D.a A n c D.o hR.lo hR.bn hR.bo B m d D.n hR.ln hR.bm hR.bx W (hXo.rA.below h) (hR.rA.below h) (hR.rB.below h)
  have HXI := hid hXi
  have HXO := hid hXo

  clear hat hXi hi3 hi4 hi5 hXo
  clear hs
  have cE : ∀ W, Below w.heap.size w W → Calls Try.prog 27 #[.agg (opC D A n c B m d)] W fun e w' => e = .returned (.int .i64 0) ∧ Below W.heap.size W w' := fun W h => by
    rw [← hE]
    exact rr13_any D hR.hK A n c hR.lo (by have := hR.bn; omega) B m d hR.ln (by have := hR.bm; omega) (by have := hR.bp; omega) (by have := hR.bt; omega) (fun x hx => Nat.le_trans (hR.bo x hx) (by decide)) (fun x hx => Nat.le_trans (hR.bx x hx) (by decide)) W (hR.rA.below h) (hR.rB.below h)
  have KK := hR.hK
  have bn9 : fn ≤ 9223372036854775807 := by omega
  have hx := OpX.new w D A n c B m d
  have hz := (Below.refl w.heap.size w).alloc (Nat.le_refl _) (.cells (opC D A n c B m d) 40)
  have HE := hid hE
  have HN := hid hn
  have HX := hid hX
  have HR := hid hR
  have q0 := hx.c0; rw [hk] at q0
  have q1 := hx.c1
  have q2 := hx.c2
  have HK := hid hk
  clear hk
  clear hE hn hX hR
  go_enter Try.func15, Try.ntmps15
  go_upto_region 1 with (fail)
  generalize w.alloc (.cells (opC D A n c B m d) 40) = W0 at *
  have hb := Below.refl W0.heap.size W0
  go_wp2_with (first
    | (with_reducible refine wpList_load_opx (by with_unfolding_all rfl) _ rfl _ rfl (hx.below hb) KK ?_)
    | (go_at_call 27; (with_reducible refine (cE _ hz).mono ?_); rintro o1 w1 ⟨rfl, hb1⟩; replace hb := hb.trans (hb1.mono hb.size); replace hz := hz.trans (hb1.mono hz.size); clear hb1; replace q0 := (hx.below hb).c0; rw [HK.out] at q0; replace q1 := (hx.below hb).c1; replace q2 := (hx.below hb).c2)
    | (go_at_call 28; (with_reducible refine (cA _ hz).mono ?_); rintro o2 w2 ⟨rfl, hb1⟩; replace hb := hb.trans (hb1.mono hb.size); replace hz := hz.trans (hb1.mono hz.size); clear hb1; replace q0 := (hx.below hb).c0; rw [HK.out] at q0; replace q1 := (hx.below hb).c1; replace q2 := (hx.below hb).c2)
    | (go_at_call 31; (with_reducible refine (rdrop_s FA fn fc Xs i _ HN.out b9 hi (hr.below hz)).mono ?_); rintro o5 w5 ⟨A3, c3, rfl, r3, hb1⟩; replace hb := hb.trans (hb1.mono hb.size); replace hz := hz.trans (hb1.mono hz.size); clear hb1; replace q0 := (hx.below hb).c0; rw [HK.out] at q0; replace q1 := (hx.below hb).c1; replace q2 := (hx.below hb).c2))
  refine wp_region_held_drew (S := fun W => Below w.heap.size w W ∧ OpX W w.heap.size D A n c B m d) (by kernel_rfl) ⟨hz.trans ((below_drew10 _).mono hz.size), (hx.below hb).below (below_drew10 _)⟩ (fun hHeld => ?_)
  replace hz := hz.trans ((below_drew10 _).mono hz.size)
  replace r3 := r3.below (below_drew10 _)
  clear hb q0 q1 q2
  generalize World.drew _ = V1 at *
  refine' wpAnyH_take (i := 0) (v := .slice FA fn fc) rfl (by kernel_rfl) (by kernel_rfl) (by kernel_rfl) (fun _ _ _ h => h) (Or.inl ⟨by rfl, fun w' hw' => by go_simp⟩) hHeld ?_
  try simp only [Act.put, List.getElem_toArray, List.getElem_cons_succ, List.getElem_cons_zero, List.setIfInBounds_toArray, List.set_cons_zero, List.set_cons_succ]
  refine' wpAnyH_take (i := 1) (v := .int .i64 (i : Int)) rfl (by kernel_rfl) (by kernel_rfl) (by kernel_rfl) (fun _ _ _ h => h) (Or.inl ⟨by rfl, fun w' hw' => by go_simp⟩) hHeld ?_
  try simp only [Act.put, List.getElem_toArray, List.getElem_cons_succ, List.getElem_cons_zero, List.setIfInBounds_toArray, List.set_cons_zero, List.set_cons_succ]
  refine' wpAnyH_take (i := 2) (v := .pointer (some ⟨g, q, none⟩)) rfl (by kernel_rfl) (by kernel_rfl) (by kernel_rfl) (fun _ _ _ h => h) (Or.inl ⟨by rfl, fun w' hw' => by go_simp⟩) hHeld ?_
  try simp only [Act.put, List.getElem_toArray, List.getElem_cons_succ, List.getElem_cons_zero, List.setIfInBounds_toArray, List.set_cons_zero, List.set_cons_succ]
  refine' wpAnyH_take (i := 3) (v := .pointer (some ⟨g, q + 1, none⟩)) rfl (by kernel_rfl) (by kernel_rfl) (by kernel_rfl) (fun _ _ _ h => h) (Or.inl ⟨by rfl, fun w' hw' => by go_simp⟩) hHeld ?_
  try simp only [Act.put, List.getElem_toArray, List.getElem_cons_succ, List.getElem_cons_zero, List.setIfInBounds_toArray, List.set_cons_zero, List.set_cons_succ]
  refine' wpAnyH_take (i := 4) (v := .slice X.A X.n X.c) rfl (by kernel_rfl) (by kernel_rfl) (by kernel_rfl) (fun _ _ _ h => h) (Or.inl ⟨by rfl, fun w' hw' => by have y := (hg.below hw'.1) 1 _ rfl; go_simp⟩) hHeld ?_
  try simp only [Act.put, List.getElem_toArray, List.getElem_cons_succ, List.getElem_cons_zero, List.setIfInBounds_toArray, List.set_cons_zero, List.set_cons_succ]
  refine' wpAnyH_take (i := 5) (v := .pointer (some ⟨w.heap.size, 3, none⟩)) rfl (by kernel_rfl) (by kernel_rfl) (by kernel_rfl) (fun _ _ _ h => h) (Or.inl ⟨by rfl, fun w' hw' => by go_simp⟩) hHeld ?_
  try simp only [Act.put, List.getElem_toArray, List.getElem_cons_succ, List.getElem_cons_zero, List.setIfInBounds_toArray, List.set_cons_zero, List.set_cons_succ]
  refine' wpAnyH_take (i := 6) (v := .int .i64 D.a) rfl (by kernel_rfl) (by kernel_rfl) (by kernel_rfl) (fun _ _ _ h => h) (Or.inl ⟨by rfl, fun w' hw' => by have y := hw'.2.c3; go_simp⟩) hHeld ?_
  try simp only [Act.put, List.getElem_toArray, List.getElem_cons_succ, List.getElem_cons_zero, List.setIfInBounds_toArray, List.set_cons_zero, List.set_cons_succ]
  refine' wpAnyH_take (i := 7) (v := .pointer (some ⟨w.heap.size, 4, none⟩)) rfl (by kernel_rfl) (by kernel_rfl) (by kernel_rfl) (fun _ _ _ h => h) (Or.inl ⟨by rfl, fun w' hw' => by go_simp⟩) hHeld ?_
  try simp only [Act.put, List.getElem_toArray, List.getElem_cons_succ, List.getElem_cons_zero, List.setIfInBounds_toArray, List.set_cons_zero, List.set_cons_succ]
  refine' wpAnyH_take (i := 8) (v := .slice A n c) rfl (by kernel_rfl) (by kernel_rfl) (by kernel_rfl) (fun _ _ _ h => h) (Or.inl ⟨by rfl, fun w' hw' => by have y := hw'.2.c4; go_simp⟩) hHeld ?_
  try simp only [Act.put, List.getElem_toArray, List.getElem_cons_succ, List.getElem_cons_zero, List.setIfInBounds_toArray, List.set_cons_zero, List.set_cons_succ]
  refine' wpAnyH_take (i := 9) (v := .pointer (some ⟨w.heap.size, 5, none⟩)) rfl (by kernel_rfl) (by kernel_rfl) (by kernel_rfl) (fun _ _ _ h => h) (Or.inl ⟨by rfl, fun w' hw' => by go_simp⟩) hHeld ?_
  try simp only [Act.put, List.getElem_toArray, List.getElem_cons_succ, List.getElem_cons_zero, List.setIfInBounds_toArray, List.set_cons_zero, List.set_cons_succ]
  refine' wpAnyH_take (i := 10) (v := .slice B m d) rfl (by kernel_rfl) (by kernel_rfl) (by kernel_rfl) (fun _ _ _ h => h) (Or.inl ⟨by rfl, fun w' hw' => by have y := hw'.2.c5; go_simp⟩) hHeld ?_
  try simp only [Act.put, List.getElem_toArray, List.getElem_cons_succ, List.getElem_cons_zero, List.setIfInBounds_toArray, List.set_cons_zero, List.set_cons_succ]
  refine' wpAnyH_take (i := 11) (v := .agg #[.int .i64 D.a, .slice A n c, .slice B m d]) rfl (by kernel_rfl) (by kernel_rfl) (by kernel_rfl) (fun _ _ _ h => h) (Or.inl ⟨by rfl, fun w' hw' => by go_simp⟩) hHeld ?_
  try simp only [Act.put, List.getElem_toArray, List.getElem_cons_succ, List.getElem_cons_zero, List.setIfInBounds_toArray, List.set_cons_zero, List.set_cons_succ]
  refine wpAnyH_ready (rs := [12]) (by kernel_rfl) (by simp) ?_
  refine AllReadyH.cons rfl (fun K hK => ?_) AllReadyH.nil
  go_simp
  (with_reducible refine (cV _ hHeld.1).mono ?_)
  rintro e9 V2 ⟨A5, n5, c5, rfl, hN5, hb9⟩
  replace hz := hz.trans (hb9.mono hz.size)
  replace r3 := r3.below hb9
  refine hK.out _ _ ⟨hz, hHeld.2.below hb9⟩ (fun hHeld => ?_)
  clear hK K hb9
  try simp only [Act.put, List.getElem_toArray, List.getElem_cons_succ, List.getElem_cons_zero, List.setIfInBounds_toArray, List.set_cons_zero, List.set_cons_succ]
  refine' wpAnyH_take (i := 13) (v := .tuple #[.slice A5 n5 c5, .int .i64 r]) rfl (by kernel_rfl) (by kernel_rfl) (by kernel_rfl) (fun _ _ _ h => h) (Or.inl ⟨by rfl, fun w' hw' => by go_simp⟩) hHeld ?_
  try simp only [Act.put, List.getElem_toArray, List.getElem_cons_succ, List.getElem_cons_zero, List.setIfInBounds_toArray, List.set_cons_zero, List.set_cons_succ]
  refine' wpAnyH_take (i := 14) (v := .slice A5 n5 c5) rfl (by kernel_rfl) (by kernel_rfl) (by kernel_rfl) (fun _ _ _ h => h) (Or.inl ⟨by rfl, fun w' hw' => by go_simp⟩) hHeld ?_
  try simp only [Act.put, List.getElem_toArray, List.getElem_cons_succ, List.getElem_cons_zero, List.setIfInBounds_toArray, List.set_cons_zero, List.set_cons_succ]
  refine' wpAnyH_take (i := 15) (v := .int .i64 r) rfl (by kernel_rfl) (by kernel_rfl) (by kernel_rfl) (fun _ _ _ h => h) (Or.inl ⟨by rfl, fun w' hw' => by go_simp⟩) hHeld ?_
  try simp only [Act.put, List.getElem_toArray, List.getElem_cons_succ, List.getElem_cons_zero, List.setIfInBounds_toArray, List.set_cons_zero, List.set_cons_succ]
  refine' wpAnyH_take (i := 16) (v := .slice A5 n5 c5) rfl (by kernel_rfl) (by kernel_rfl) (by kernel_rfl) (fun _ _ _ h => h) (Or.inl ⟨by rfl, fun w' hw' => by go_simp⟩) hHeld ?_
  try simp only [Act.put, List.getElem_toArray, List.getElem_cons_succ, List.getElem_cons_zero, List.setIfInBounds_toArray, List.set_cons_zero, List.set_cons_succ]
  refine' wpAnyH_take (i := 17) (v := .int .i64 r) rfl (by kernel_rfl) (by kernel_rfl) (by kernel_rfl) (fun _ _ _ h => h) (Or.inl ⟨by rfl, fun w' hw' => by go_simp⟩) hHeld ?_
  try simp only [Act.put, List.getElem_toArray, List.getElem_cons_succ, List.getElem_cons_zero, List.setIfInBounds_toArray, List.set_cons_zero, List.set_cons_succ]
  refine wpAnyH_done (by kernel_rfl) ?_ _
  clear hN5 r3
  go_wp2
  go_ret2
  exact .inr ⟨r, rfl, HA.out, h0, hz⟩

set_option maxRecDepth 100000 in
set_option maxHeartbeats 40000000 in
theorem ap_edit_ok (FA : Option Addr) (fn fc : Nat) (Xs : List FlV) (D : OpD) (A : Option Addr) (n c : Nat) (B : Option Addr) (m d : Nat) (w : World) (hn : Xs.length = fn) (bn : fn ≤ 300) (hr : FlRd w FA Xs) (hX : ∀ X ∈ Xs, FlOk w X) (hR : OpR w D A n B m) (hE : opE D = 0) (hk : D.k = 3) (i : Nat) (X : FlV) (hat : atV (Xs.map FlV.D) D.p = (i : Nat)) (hXi : Xs[i]? = some X) (hs : (apR X.l D.a D.o D.n).2 = 0) :
    Calls Try.prog 15 #[.slice FA fn fc, .agg (opC D A n c B m d)] w fun e w' => ApQ w w' (Xs.map FlV.D) D e := by
  have hi : i < fn := by rw [← hn]; exact (List.getElem?_eq_some_iff.1 hXi).1
  have hi2 : ¬ (i : Int) < 0 := by omega
  have hi3 : ¬ atV (Xs.map FlV.D) D.p < 0 := by rw [hat]; exact hi2
  have hi4 : (Xs.map FlV.D)[(atV (Xs.map FlV.D) D.p).toNat]? = some X.D := by rw [hat, Int.toNat_natCast, List.getElem?_map, hXi]; rfl
  have hi5 : (Xs.map FlV.D).eraseIdx (atV (Xs.map FlV.D) D.p).toNat = (Xs.eraseIdx i).map FlV.D := by rw [hat, Int.toNat_natCast, erase_map]
  have HA : Hid (∀ f : FlV, f.D = (D.p, (apR X.l D.a D.o D.n).1) → applyF (Xs.map FlV.D) D = .ok ((putF (Xs.eraseIdx i) f).map FlV.D)) := hid (fun f hf => by unfold applyF; rw [if_pos hE, if_neg (by omega), if_neg (by omega), if_neg hi3, hi4, hi5]; simp only; rw [if_neg (by omega), if_pos hk, if_pos (by exact hs), putF_map, hf]; rfl)
  have cA : ∀ W, Below w.heap.size w W → Calls Try.prog 28 #[.slice FA fn fc, .string (txt D.p)] W fun e w' => e = .returned (.int .i64 (i : Int)) ∧ Below W.heap.size W w' := fun W h => by
    rw [← hat]
    exact rat_any FA fn fc Xs D.p W hn (by omega) (hr.below h)
  obtain ⟨g, q, hg, -, -, hix⟩ := hr.pick fc hn hXi
  have hXo := hX X (List.mem_of_getElem? hXi)
  have b9 : fn ≤ 900 := by omega
  have cV : ∀ W, Below w.heap.size w W → Calls Try.prog 32 #[.slice X.A X.n X.c, .agg #[.int .i64 D.a, .slice A n c, .slice B m d]] W fun e w' => ∃ A5 n5 c5, e = .returned (.tuple #[.slice A5 n5 c5, .int .i64 0]) ∧ NwL w' A5 n5 (apR X.l D.a D.o D.n).1 ∧ Below W.heap.size W w' := fun W h => by
    rw [← hs]
    exact redit_any X.A X.n X.c X.l hXo.ln hXo.bn hXo.bx D.a A n c D.o hR.lo hR.bn hR.bo B m d D.n hR.ln hR.bm hR.bx W (hXo.rA.below h) (hR.rA.below h) (hR.rB.below h)
  have HXI := hid hXi
  have HXO := hid hXo

  clear hat hXi hi3 hi4 hi5 hXo
  clear hs
  have cE : ∀ W, Below w.heap.size w W → Calls Try.prog 27 #[.agg (opC D A n c B m d)] W fun e w' => e = .returned (.int .i64 0) ∧ Below W.heap.size W w' := fun W h => by
    rw [← hE]
    exact rr13_any D hR.hK A n c hR.lo (by have := hR.bn; omega) B m d hR.ln (by have := hR.bm; omega) (by have := hR.bp; omega) (by have := hR.bt; omega) (fun x hx => Nat.le_trans (hR.bo x hx) (by decide)) (fun x hx => Nat.le_trans (hR.bx x hx) (by decide)) W (hR.rA.below h) (hR.rB.below h)
  have KK := hR.hK
  have bn9 : fn ≤ 9223372036854775807 := by omega
  have hx := OpX.new w D A n c B m d
  have hz := (Below.refl w.heap.size w).alloc (Nat.le_refl _) (.cells (opC D A n c B m d) 40)
  have HE := hid hE
  have HN := hid hn
  have HX := hid hX
  have HR := hid hR
  have q0 := hx.c0; rw [hk] at q0
  have q1 := hx.c1
  have q2 := hx.c2
  have HK := hid hk
  clear hk
  clear hE hn hX hR
  go_enter Try.func15, Try.ntmps15
  go_upto_region 1 with (fail)
  generalize w.alloc (.cells (opC D A n c B m d) 40) = W0 at *
  have hb := Below.refl W0.heap.size W0
  go_wp2_with (first
    | (with_reducible refine wpList_load_opx (by with_unfolding_all rfl) _ rfl _ rfl (hx.below hb) KK ?_)
    | (go_at_call 27; (with_reducible refine (cE _ hz).mono ?_); rintro o1 w1 ⟨rfl, hb1⟩; replace hb := hb.trans (hb1.mono hb.size); replace hz := hz.trans (hb1.mono hz.size); clear hb1; replace q0 := (hx.below hb).c0; rw [HK.out] at q0; replace q1 := (hx.below hb).c1; replace q2 := (hx.below hb).c2)
    | (go_at_call 28; (with_reducible refine (cA _ hz).mono ?_); rintro o2 w2 ⟨rfl, hb1⟩; replace hb := hb.trans (hb1.mono hb.size); replace hz := hz.trans (hb1.mono hz.size); clear hb1; replace q0 := (hx.below hb).c0; rw [HK.out] at q0; replace q1 := (hx.below hb).c1; replace q2 := (hx.below hb).c2)
    | (go_at_call 31; (with_reducible refine (rdrop_s FA fn fc Xs i _ HN.out b9 hi (hr.below hz)).mono ?_); rintro o5 w5 ⟨A3, c3, rfl, r3, hb1⟩; replace hb := hb.trans (hb1.mono hb.size); replace hz := hz.trans (hb1.mono hz.size); clear hb1; replace q0 := (hx.below hb).c0; rw [HK.out] at q0; replace q1 := (hx.below hb).c1; replace q2 := (hx.below hb).c2))
  refine wp_region_held_drew (S := fun W => Below w.heap.size w W ∧ OpX W w.heap.size D A n c B m d) (by kernel_rfl) ⟨hz.trans ((below_drew10 _).mono hz.size), (hx.below hb).below (below_drew10 _)⟩ (fun hHeld => ?_)
  replace hz := hz.trans ((below_drew10 _).mono hz.size)
  replace r3 := r3.below (below_drew10 _)
  clear hb q0 q1 q2
  generalize World.drew _ = V1 at *
  refine' wpAnyH_take (i := 0) (v := .slice FA fn fc) rfl (by kernel_rfl) (by kernel_rfl) (by kernel_rfl) (fun _ _ _ h => h) (Or.inl ⟨by rfl, fun w' hw' => by go_simp⟩) hHeld ?_
  try simp only [Act.put, List.getElem_toArray, List.getElem_cons_succ, List.getElem_cons_zero, List.setIfInBounds_toArray, List.set_cons_zero, List.set_cons_succ]
  refine' wpAnyH_take (i := 1) (v := .int .i64 (i : Int)) rfl (by kernel_rfl) (by kernel_rfl) (by kernel_rfl) (fun _ _ _ h => h) (Or.inl ⟨by rfl, fun w' hw' => by go_simp⟩) hHeld ?_
  try simp only [Act.put, List.getElem_toArray, List.getElem_cons_succ, List.getElem_cons_zero, List.setIfInBounds_toArray, List.set_cons_zero, List.set_cons_succ]
  refine' wpAnyH_take (i := 2) (v := .pointer (some ⟨g, q, none⟩)) rfl (by kernel_rfl) (by kernel_rfl) (by kernel_rfl) (fun _ _ _ h => h) (Or.inl ⟨by rfl, fun w' hw' => by go_simp⟩) hHeld ?_
  try simp only [Act.put, List.getElem_toArray, List.getElem_cons_succ, List.getElem_cons_zero, List.setIfInBounds_toArray, List.set_cons_zero, List.set_cons_succ]
  refine' wpAnyH_take (i := 3) (v := .pointer (some ⟨g, q + 1, none⟩)) rfl (by kernel_rfl) (by kernel_rfl) (by kernel_rfl) (fun _ _ _ h => h) (Or.inl ⟨by rfl, fun w' hw' => by go_simp⟩) hHeld ?_
  try simp only [Act.put, List.getElem_toArray, List.getElem_cons_succ, List.getElem_cons_zero, List.setIfInBounds_toArray, List.set_cons_zero, List.set_cons_succ]
  refine' wpAnyH_take (i := 4) (v := .slice X.A X.n X.c) rfl (by kernel_rfl) (by kernel_rfl) (by kernel_rfl) (fun _ _ _ h => h) (Or.inl ⟨by rfl, fun w' hw' => by have y := (hg.below hw'.1) 1 _ rfl; go_simp⟩) hHeld ?_
  try simp only [Act.put, List.getElem_toArray, List.getElem_cons_succ, List.getElem_cons_zero, List.setIfInBounds_toArray, List.set_cons_zero, List.set_cons_succ]
  refine' wpAnyH_take (i := 5) (v := .pointer (some ⟨w.heap.size, 3, none⟩)) rfl (by kernel_rfl) (by kernel_rfl) (by kernel_rfl) (fun _ _ _ h => h) (Or.inl ⟨by rfl, fun w' hw' => by go_simp⟩) hHeld ?_
  try simp only [Act.put, List.getElem_toArray, List.getElem_cons_succ, List.getElem_cons_zero, List.setIfInBounds_toArray, List.set_cons_zero, List.set_cons_succ]
  refine' wpAnyH_take (i := 6) (v := .int .i64 D.a) rfl (by kernel_rfl) (by kernel_rfl) (by kernel_rfl) (fun _ _ _ h => h) (Or.inl ⟨by rfl, fun w' hw' => by have y := hw'.2.c3; go_simp⟩) hHeld ?_
  try simp only [Act.put, List.getElem_toArray, List.getElem_cons_succ, List.getElem_cons_zero, List.setIfInBounds_toArray, List.set_cons_zero, List.set_cons_succ]
  refine' wpAnyH_take (i := 7) (v := .pointer (some ⟨w.heap.size, 4, none⟩)) rfl (by kernel_rfl) (by kernel_rfl) (by kernel_rfl) (fun _ _ _ h => h) (Or.inl ⟨by rfl, fun w' hw' => by go_simp⟩) hHeld ?_
  try simp only [Act.put, List.getElem_toArray, List.getElem_cons_succ, List.getElem_cons_zero, List.setIfInBounds_toArray, List.set_cons_zero, List.set_cons_succ]
  refine' wpAnyH_take (i := 8) (v := .slice A n c) rfl (by kernel_rfl) (by kernel_rfl) (by kernel_rfl) (fun _ _ _ h => h) (Or.inl ⟨by rfl, fun w' hw' => by have y := hw'.2.c4; go_simp⟩) hHeld ?_
  try simp only [Act.put, List.getElem_toArray, List.getElem_cons_succ, List.getElem_cons_zero, List.setIfInBounds_toArray, List.set_cons_zero, List.set_cons_succ]
  refine' wpAnyH_take (i := 9) (v := .pointer (some ⟨w.heap.size, 5, none⟩)) rfl (by kernel_rfl) (by kernel_rfl) (by kernel_rfl) (fun _ _ _ h => h) (Or.inl ⟨by rfl, fun w' hw' => by go_simp⟩) hHeld ?_
  try simp only [Act.put, List.getElem_toArray, List.getElem_cons_succ, List.getElem_cons_zero, List.setIfInBounds_toArray, List.set_cons_zero, List.set_cons_succ]
  refine' wpAnyH_take (i := 10) (v := .slice B m d) rfl (by kernel_rfl) (by kernel_rfl) (by kernel_rfl) (fun _ _ _ h => h) (Or.inl ⟨by rfl, fun w' hw' => by have y := hw'.2.c5; go_simp⟩) hHeld ?_
  try simp only [Act.put, List.getElem_toArray, List.getElem_cons_succ, List.getElem_cons_zero, List.setIfInBounds_toArray, List.set_cons_zero, List.set_cons_succ]
  refine' wpAnyH_take (i := 11) (v := .agg #[.int .i64 D.a, .slice A n c, .slice B m d]) rfl (by kernel_rfl) (by kernel_rfl) (by kernel_rfl) (fun _ _ _ h => h) (Or.inl ⟨by rfl, fun w' hw' => by go_simp⟩) hHeld ?_
  try simp only [Act.put, List.getElem_toArray, List.getElem_cons_succ, List.getElem_cons_zero, List.setIfInBounds_toArray, List.set_cons_zero, List.set_cons_succ]
  refine wpAnyH_ready (rs := [12]) (by kernel_rfl) (by simp) ?_
  refine AllReadyH.cons rfl (fun K hK => ?_) AllReadyH.nil
  go_simp
  (with_reducible refine (cV _ hHeld.1).mono ?_)
  rintro e9 V2 ⟨A5, n5, c5, rfl, hN5, hb9⟩
  have HN5 := hid hN5
  clear hN5
  replace hz := hz.trans (hb9.mono hz.size)
  replace r3 := r3.below hb9
  refine hK.out _ _ ⟨hz, hHeld.2.below hb9⟩ (fun hHeld => ?_)
  clear hK K hb9
  try simp only [Act.put, List.getElem_toArray, List.getElem_cons_succ, List.getElem_cons_zero, List.setIfInBounds_toArray, List.set_cons_zero, List.set_cons_succ]
  refine' wpAnyH_take (i := 13) (v := .tuple #[.slice A5 n5 c5, .int .i64 0]) rfl (by kernel_rfl) (by kernel_rfl) (by kernel_rfl) (fun _ _ _ h => h) (Or.inl ⟨by rfl, fun w' hw' => by go_simp⟩) hHeld ?_
  try simp only [Act.put, List.getElem_toArray, List.getElem_cons_succ, List.getElem_cons_zero, List.setIfInBounds_toArray, List.set_cons_zero, List.set_cons_succ]
  refine' wpAnyH_take (i := 14) (v := .slice A5 n5 c5) rfl (by kernel_rfl) (by kernel_rfl) (by kernel_rfl) (fun _ _ _ h => h) (Or.inl ⟨by rfl, fun w' hw' => by go_simp⟩) hHeld ?_
  try simp only [Act.put, List.getElem_toArray, List.getElem_cons_succ, List.getElem_cons_zero, List.setIfInBounds_toArray, List.set_cons_zero, List.set_cons_succ]
  refine' wpAnyH_take (i := 15) (v := .int .i64 0) rfl (by kernel_rfl) (by kernel_rfl) (by kernel_rfl) (fun _ _ _ h => h) (Or.inl ⟨by rfl, fun w' hw' => by go_simp⟩) hHeld ?_
  try simp only [Act.put, List.getElem_toArray, List.getElem_cons_succ, List.getElem_cons_zero, List.setIfInBounds_toArray, List.set_cons_zero, List.set_cons_succ]
  refine' wpAnyH_take (i := 16) (v := .slice A5 n5 c5) rfl (by kernel_rfl) (by kernel_rfl) (by kernel_rfl) (fun _ _ _ h => h) (Or.inl ⟨by rfl, fun w' hw' => by go_simp⟩) hHeld ?_
  try simp only [Act.put, List.getElem_toArray, List.getElem_cons_succ, List.getElem_cons_zero, List.setIfInBounds_toArray, List.set_cons_zero, List.set_cons_succ]
  refine' wpAnyH_take (i := 17) (v := .int .i64 0) rfl (by kernel_rfl) (by kernel_rfl) (by kernel_rfl) (fun _ _ _ h => h) (Or.inl ⟨by rfl, fun w' hw' => by go_simp⟩) hHeld ?_
  try simp only [Act.put, List.getElem_toArray, List.getElem_cons_succ, List.getElem_cons_zero, List.setIfInBounds_toArray, List.set_cons_zero, List.set_cons_succ]
  refine wpAnyH_done (by kernel_rfl) ?_ _
  have q1 := hHeld.2.c1
  have l3 : (Xs.eraseIdx i).length = fn - 1 := by rw [List.length_eraseIdx, if_pos (by rw [HN.out]; exact hi), HN.out]
  have LL := hid l3
  clear l3
  obtain ⟨f, Hf, hf1, hf2⟩ : ∃ f : FlV, Hid (f.D = (D.p, (apR X.l D.a D.o D.n).1) ∧ f.n = n5 ∧ f.A = A5 ∧ f.c = c5) ∧ f.p = D.p ∧ Value.slice f.A f.n f.c = .slice A5 n5 c5 := ⟨⟨D.p, _, A5, n5, c5⟩, hid ⟨rfl, rfl, rfl, rfl⟩, rfl, rfl⟩
  have cP := rput_s A3 (fn - 1) c3 (Xs.eraseIdx i) f V2 LL.out (by omega) r3
  rw [hf1, hf2] at cP
  clear hf1 hf2
  go_wp2_with (go_at_call 30; (with_reducible refine cP.mono ?_); rintro o4 w4 ⟨A4, c4, rfl, r4, hb1⟩)
  go_ret2
  have hz4 := hz.trans (hb1.mono hz.size)
  obtain ⟨e1, e2, e3, e4⟩ := Hf.out
  obtain ⟨z1, z2, z3, z4⟩ := HN5.out
  refine .inl ⟨putF (Xs.eraseIdx i) f, A4, fn - 1 + 1, c4, rfl, HA.out f e1, by rw [putF_len, LL.out], by omega, r4, fun Y hY => ?_, hz4⟩
  rcases putF_mem _ _ _ hY with rfl | hY
  · have ep : Y.p = D.p := congrArg Prod.fst e1
    have el : Y.l = (apR X.l D.a D.o D.n).1 := congrArg Prod.snd e1
    exact ⟨by rw [el, e2]; exact z1, by rw [e2]; exact z2, by rw [el]; exact z3, by rw [ep]; exact HR.out.bp, by rw [el, e3]; exact z4.below hb1⟩
  · exact (HX.out Y (erase_mem hY)).below hz4

set_option maxRecDepth 100000 in
set_option maxHeartbeats 40000000 in
theorem ap_move_no (FA : Option Addr) (fn fc : Nat) (Xs : List FlV) (D : OpD) (A : Option Addr) (n c : Nat) (B : Option Addr) (m d : Nat) (w : World) (hn : Xs.length = fn) (bn : fn ≤ 300) (hr : FlRd w FA Xs) (hX : ∀ X ∈ Xs, FlOk w X) (hR : OpR w D A n B m) (hE : opE D = 0) (hk : D.k = 4) (i : Nat) (X : FlV) (hat : atV (Xs.map FlV.D) D.p = (i : Nat)) (hXi : Xs[i]? = some X) (r : Int) (hroom : roomV ((Xs.eraseIdx i).map FlV.D) D.t = r) (h0 : ¬ r = 0) :
    Calls Try.prog 15 #[.slice FA fn fc, .agg (opC D A n c B m d)] w fun e w' => ApQ w w' (Xs.map FlV.D) D e := by
  have hi : i < fn := by rw [← hn]; exact (List.getElem?_eq_some_iff.1 hXi).1
  have hi2 : ¬ (i : Int) < 0 := by omega
  have hi3 : ¬ atV (Xs.map FlV.D) D.p < 0 := by rw [hat]; exact hi2
  have hi4 : (Xs.map FlV.D)[(atV (Xs.map FlV.D) D.p).toNat]? = some X.D := by rw [hat, Int.toNat_natCast, List.getElem?_map, hXi]; rfl
  have hi5 : (Xs.map FlV.D).eraseIdx (atV (Xs.map FlV.D) D.p).toNat = (Xs.eraseIdx i).map FlV.D := by rw [hat, Int.toNat_natCast, erase_map]
  have HA : Hid (applyF (Xs.map FlV.D) D = .error r) := hid (by unfold applyF; rw [if_pos hE, if_neg (by omega), if_neg (by omega), if_neg hi3, hi4, hi5]; simp only; rw [if_neg (by omega), if_neg (by omega), hroom, if_neg h0])
  have cA : ∀ W, Below w.heap.size w W → Calls Try.prog 28 #[.slice FA fn fc, .string (txt D.p)] W fun e w' => e = .returned (.int .i64 (i : Int)) ∧ Below W.heap.size W w' := fun W h => by
    rw [← hat]
    exact rat_any FA fn fc Xs D.p W hn (by omega) (hr.below h)
  obtain ⟨g, q, hg, -, -, hix⟩ := hr.pick fc hn hXi
  have hXo := hX X (List.mem_of_getElem? hXi)
  have b9 : fn ≤ 900 := by omega
  have l3 : (Xs.eraseIdx i).length = fn - 1 := by rw [List.length_eraseIdx, if_pos (by rw [hn]; exact hi), hn]
  have cM : ∀ W A3 c3, Below w.heap.size w W → FlRd W A3 (Xs.eraseIdx i) → Calls Try.prog 29 #[.slice A3 (fn - 1) c3, .string (txt D.t)] W fun e w' => e = .returned (.int .i64 r) ∧ Below W.heap.size W w' := fun W A3 c3 h h3 => by
    rw [← hroom]
    exact rroom_any A3 (fn - 1) c3 (Xs.eraseIdx i) D.t W l3 (by omega) h3 (fun X hx => (hX X (erase_mem hx)).bp) hR.bt
  have HXI := hid hXi
  have HXO := hid hXo

  clear hat hXi hi3 hi4 hi5 hXo
  clear hroom l3
  have cE : ∀ W, Below w.heap.size w W → Calls Try.prog 27 #[.agg (opC D A n c B m d)] W fun e w' => e = .returned (.int .i64 0) ∧ Below W.heap.size W w' := fun W h => by
    rw [← hE]
    exact rr13_any D hR.hK A n c hR.lo (by have := hR.bn; omega) B m d hR.ln (by have := hR.bm; omega) (by have := hR.bp; omega) (by have := hR.bt; omega) (fun x hx => Nat.le_trans (hR.bo x hx) (by decide)) (fun x hx => Nat.le_trans (hR.bx x hx) (by decide)) W (hR.rA.below h) (hR.rB.below h)
  have KK := hR.hK
  have bn9 : fn ≤ 9223372036854775807 := by omega
  have hx := OpX.new w D A n c B m d
  have hz := (Below.refl w.heap.size w).alloc (Nat.le_refl _) (.cells (opC D A n c B m d) 40)
  have HE := hid hE
  have HN := hid hn
  have HX := hid hX
  have HR := hid hR
  have q0 := hx.c0; rw [hk] at q0
  have q1 := hx.c1
  have q2 := hx.c2
  have HK := hid hk
  clear hk
  clear hE hn hX hR
  go_enter Try.func15, Try.ntmps15
  go_upto_region 1 with (fail)
  generalize w.alloc (.cells (opC D A n c B m d) 40) = W0 at *
  have hb := Below.refl W0.heap.size W0
  go_wp2_with (first
    | (with_reducible refine wpList_load_opx (by with_unfolding_all rfl) _ rfl _ rfl (hx.below hb) KK ?_)
    | (go_at_call 27; (with_reducible refine (cE _ hz).mono ?_); rintro o1 w1 ⟨rfl, hb1⟩; replace hb := hb.trans (hb1.mono hb.size); replace hz := hz.trans (hb1.mono hz.size); clear hb1; replace q0 := (hx.below hb).c0; rw [HK.out] at q0; replace q1 := (hx.below hb).c1; replace q2 := (hx.below hb).c2)
    | (go_at_call 28; (with_reducible refine (cA _ hz).mono ?_); rintro o2 w2 ⟨rfl, hb1⟩; replace hb := hb.trans (hb1.mono hb.size); replace hz := hz.trans (hb1.mono hz.size); clear hb1; replace q0 := (hx.below hb).c0; rw [HK.out] at q0; replace q1 := (hx.below hb).c1; replace q2 := (hx.below hb).c2)
    | (go_at_call 31; (with_reducible refine (rdrop_s FA fn fc Xs i _ HN.out b9 hi (hr.below hz)).mono ?_); rintro o5 w5 ⟨A3, c3, rfl, r3, hb1⟩; replace hb := hb.trans (hb1.mono hb.size); replace hz := hz.trans (hb1.mono hz.size); clear hb1; replace q0 := (hx.below hb).c0; rw [HK.out] at q0; replace q1 := (hx.below hb).c1; replace q2 := (hx.below hb).c2)
    | (go_at_call 29; (with_reducible refine (cM _ _ _ hz r3).mono ?_); rintro o3 w3 ⟨rfl, hb1⟩; replace r3 := r3.below hb1; replace hb := hb.trans (hb1.mono hb.size); replace hz := hz.trans (hb1.mono hz.size); clear hb1; replace q0 := (hx.below hb).c0; rw [HK.out] at q0; replace q1 := (hx.below hb).c1; replace q2 := (hx.below hb).c2))
  go_ret2
  exact .inr ⟨r, rfl, HA.out, h0, hz⟩

set_option maxRecDepth 100000 in
set_option maxHeartbeats 40000000 in
theorem ap_move_ok (FA : Option Addr) (fn fc : Nat) (Xs : List FlV) (D : OpD) (A : Option Addr) (n c : Nat) (B : Option Addr) (m d : Nat) (w : World) (hn : Xs.length = fn) (bn : fn ≤ 300) (hr : FlRd w FA Xs) (hX : ∀ X ∈ Xs, FlOk w X) (hR : OpR w D A n B m) (hE : opE D = 0) (hk : D.k = 4) (i : Nat) (X : FlV) (hat : atV (Xs.map FlV.D) D.p = (i : Nat)) (hXi : Xs[i]? = some X) (hroom : roomV ((Xs.eraseIdx i).map FlV.D) D.t = 0) :
    Calls Try.prog 15 #[.slice FA fn fc, .agg (opC D A n c B m d)] w fun e w' => ApQ w w' (Xs.map FlV.D) D e := by
  have hi : i < fn := by rw [← hn]; exact (List.getElem?_eq_some_iff.1 hXi).1
  have hi2 : ¬ (i : Int) < 0 := by omega
  have hi3 : ¬ atV (Xs.map FlV.D) D.p < 0 := by rw [hat]; exact hi2
  have hi4 : (Xs.map FlV.D)[(atV (Xs.map FlV.D) D.p).toNat]? = some X.D := by rw [hat, Int.toNat_natCast, List.getElem?_map, hXi]; rfl
  have hi5 : (Xs.map FlV.D).eraseIdx (atV (Xs.map FlV.D) D.p).toNat = (Xs.eraseIdx i).map FlV.D := by rw [hat, Int.toNat_natCast, erase_map]
  have HA : Hid (applyF (Xs.map FlV.D) D = .ok ((putF (Xs.eraseIdx i) ⟨D.t, X.l, X.A, X.n, X.c⟩).map FlV.D)) := hid (by unfold applyF; rw [if_pos hE, if_neg (by omega), if_neg (by omega), if_neg hi3, hi4, hi5]; simp only; rw [if_neg (by omega), if_neg (by omega), if_pos hroom, putF_map]; rfl)
  have cA : ∀ W, Below w.heap.size w W → Calls Try.prog 28 #[.slice FA fn fc, .string (txt D.p)] W fun e w' => e = .returned (.int .i64 (i : Int)) ∧ Below W.heap.size W w' := fun W h => by
    rw [← hat]
    exact rat_any FA fn fc Xs D.p W hn (by omega) (hr.below h)
  obtain ⟨g, q, hg, -, -, hix⟩ := hr.pick fc hn hXi
  have hXo := hX X (List.mem_of_getElem? hXi)
  have b9 : fn ≤ 900 := by omega
  have l3 : (Xs.eraseIdx i).length = fn - 1 := by rw [List.length_eraseIdx, if_pos (by rw [hn]; exact hi), hn]
  have cM : ∀ W A3 c3, Below w.heap.size w W → FlRd W A3 (Xs.eraseIdx i) → Calls Try.prog 29 #[.slice A3 (fn - 1) c3, .string (txt D.t)] W fun e w' => e = .returned (.int .i64 0) ∧ Below W.heap.size W w' := fun W A3 c3 h h3 => by
    rw [← hroom]
    exact rroom_any A3 (fn - 1) c3 (Xs.eraseIdx i) D.t W l3 (by omega) h3 (fun X hx => (hX X (erase_mem hx)).bp) hR.bt
  have HXI := hid hXi
  have HXO := hid hXo

  clear hat hXi hi3 hi4 hi5 hXo
  have LL := hid l3
  clear hroom l3
  have cE : ∀ W, Below w.heap.size w W → Calls Try.prog 27 #[.agg (opC D A n c B m d)] W fun e w' => e = .returned (.int .i64 0) ∧ Below W.heap.size W w' := fun W h => by
    rw [← hE]
    exact rr13_any D hR.hK A n c hR.lo (by have := hR.bn; omega) B m d hR.ln (by have := hR.bm; omega) (by have := hR.bp; omega) (by have := hR.bt; omega) (fun x hx => Nat.le_trans (hR.bo x hx) (by decide)) (fun x hx => Nat.le_trans (hR.bx x hx) (by decide)) W (hR.rA.below h) (hR.rB.below h)
  have KK := hR.hK
  have bn9 : fn ≤ 9223372036854775807 := by omega
  have hx := OpX.new w D A n c B m d
  have hz := (Below.refl w.heap.size w).alloc (Nat.le_refl _) (.cells (opC D A n c B m d) 40)
  have HE := hid hE
  have HN := hid hn
  have HX := hid hX
  have HR := hid hR
  have q0 := hx.c0; rw [hk] at q0
  have q1 := hx.c1
  have q2 := hx.c2
  have HK := hid hk
  clear hk
  clear hE hn hX hR
  go_enter Try.func15, Try.ntmps15
  go_upto_region 1 with (fail)
  generalize w.alloc (.cells (opC D A n c B m d) 40) = W0 at *
  have hb := Below.refl W0.heap.size W0
  go_wp2_with (first
    | (with_reducible refine wpList_load_opx (by with_unfolding_all rfl) _ rfl _ rfl (hx.below hb) KK ?_)
    | (go_at_call 27; (with_reducible refine (cE _ hz).mono ?_); rintro o1 w1 ⟨rfl, hb1⟩; replace hb := hb.trans (hb1.mono hb.size); replace hz := hz.trans (hb1.mono hz.size); clear hb1; replace q0 := (hx.below hb).c0; rw [HK.out] at q0; replace q1 := (hx.below hb).c1; replace q2 := (hx.below hb).c2)
    | (go_at_call 28; (with_reducible refine (cA _ hz).mono ?_); rintro o2 w2 ⟨rfl, hb1⟩; replace hb := hb.trans (hb1.mono hb.size); replace hz := hz.trans (hb1.mono hz.size); clear hb1; replace q0 := (hx.below hb).c0; rw [HK.out] at q0; replace q1 := (hx.below hb).c1; replace q2 := (hx.below hb).c2)
    | (go_at_call 31; (with_reducible refine (rdrop_s FA fn fc Xs i _ HN.out b9 hi (hr.below hz)).mono ?_); rintro o5 w5 ⟨A3, c3, rfl, r3, hb1⟩; replace hb := hb.trans (hb1.mono hb.size); replace hz := hz.trans (hb1.mono hz.size); clear hb1; replace q0 := (hx.below hb).c0; rw [HK.out] at q0; replace q1 := (hx.below hb).c1; replace q2 := (hx.below hb).c2)
    | (go_at_call 29; (with_reducible refine (cM _ _ _ hz r3).mono ?_); rintro o3 w3 ⟨rfl, hb1⟩; replace r3 := r3.below hb1; replace hb := hb.trans (hb1.mono hb.size); replace hz := hz.trans (hb1.mono hz.size); clear hb1; replace q0 := (hx.below hb).c0; rw [HK.out] at q0; replace q1 := (hx.below hb).c1; replace q2 := (hx.below hb).c2))
  refine wp_region_held_drew (S := fun W => Below w.heap.size w W ∧ OpX W w.heap.size D A n c B m d) (by kernel_rfl) ⟨hz.trans ((below_drew10 _).mono hz.size), (hx.below hb).below (below_drew10 _)⟩ (fun hHeld => ?_)
  replace hz := hz.trans ((below_drew10 _).mono hz.size)
  replace r3 := r3.below (below_drew10 _)
  clear hb q0 q1 q2
  generalize World.drew _ = V1 at *
  refine' wpAnyH_take (i := 0) (v := .slice A3 (fn - 1) c3) rfl (by kernel_rfl) (by kernel_rfl) (by kernel_rfl) (fun _ _ _ h => h) (Or.inl ⟨by rfl, fun w' hw' => by go_simp⟩) hHeld ?_
  try simp only [Act.put, List.getElem_toArray, List.getElem_cons_succ, List.getElem_cons_zero, List.setIfInBounds_toArray, List.set_cons_zero, List.set_cons_succ]
  refine' wpAnyH_take (i := 1) (v := .pointer (some ⟨w.heap.size, 2, none⟩)) rfl (by kernel_rfl) (by kernel_rfl) (by kernel_rfl) (fun _ _ _ h => h) (Or.inl ⟨by rfl, fun w' hw' => by go_simp⟩) hHeld ?_
  try simp only [Act.put, List.getElem_toArray, List.getElem_cons_succ, List.getElem_cons_zero, List.setIfInBounds_toArray, List.set_cons_zero, List.set_cons_succ]
  refine' wpAnyH_take (i := 2) (v := .string (txt D.t)) rfl (by kernel_rfl) (by kernel_rfl) (by kernel_rfl) (fun _ _ _ h => h) (Or.inl ⟨by rfl, fun w' hw' => by have y := hw'.2.c2; go_simp⟩) hHeld ?_
  try simp only [Act.put, List.getElem_toArray, List.getElem_cons_succ, List.getElem_cons_zero, List.setIfInBounds_toArray, List.set_cons_zero, List.set_cons_succ]
  refine' wpAnyH_take (i := 3) (v := .slice FA fn fc) rfl (by kernel_rfl) (by kernel_rfl) (by kernel_rfl) (fun _ _ _ h => h) (Or.inl ⟨by rfl, fun w' hw' => by go_simp⟩) hHeld ?_
  try simp only [Act.put, List.getElem_toArray, List.getElem_cons_succ, List.getElem_cons_zero, List.setIfInBounds_toArray, List.set_cons_zero, List.set_cons_succ]
  refine' wpAnyH_take (i := 4) (v := .int .i64 (i : Int)) rfl (by kernel_rfl) (by kernel_rfl) (by kernel_rfl) (fun _ _ _ h => h) (Or.inl ⟨by rfl, fun w' hw' => by go_simp⟩) hHeld ?_
  try simp only [Act.put, List.getElem_toArray, List.getElem_cons_succ, List.getElem_cons_zero, List.setIfInBounds_toArray, List.set_cons_zero, List.set_cons_succ]
  refine' wpAnyH_take (i := 5) (v := .pointer (some ⟨g, q, none⟩)) rfl (by kernel_rfl) (by kernel_rfl) (by kernel_rfl) (fun _ _ _ h => h) (Or.inl ⟨by rfl, fun w' hw' => by go_simp⟩) hHeld ?_
  try simp only [Act.put, List.getElem_toArray, List.getElem_cons_succ, List.getElem_cons_zero, List.setIfInBounds_toArray, List.set_cons_zero, List.set_cons_succ]
  refine' wpAnyH_take (i := 6) (v := .pointer (some ⟨g, q + 1, none⟩)) rfl (by kernel_rfl) (by kernel_rfl) (by kernel_rfl) (fun _ _ _ h => h) (Or.inl ⟨by rfl, fun w' hw' => by go_simp⟩) hHeld ?_
  try simp only [Act.put, List.getElem_toArray, List.getElem_cons_succ, List.getElem_cons_zero, List.setIfInBounds_toArray, List.set_cons_zero, List.set_cons_succ]
  refine' wpAnyH_take (i := 7) (v := .slice X.A X.n X.c) rfl (by kernel_rfl) (by kernel_rfl) (by kernel_rfl) (fun _ _ _ h => h) (Or.inl ⟨by rfl, fun w' hw' => by have y := (hg.below hw'.1) 1 _ rfl; go_simp⟩) hHeld ?_
  try simp only [Act.put, List.getElem_toArray, List.getElem_cons_succ, List.getElem_cons_zero, List.setIfInBounds_toArray, List.set_cons_zero, List.set_cons_succ]
  refine' wpAnyH_take (i := 8) (v := .agg #[.string (txt D.t), .slice X.A X.n X.c]) rfl (by kernel_rfl) (by kernel_rfl) (by kernel_rfl) (fun _ _ _ h => h) (Or.inl ⟨by rfl, fun w' hw' => by go_simp⟩) hHeld ?_
  try simp only [Act.put, List.getElem_toArray, List.getElem_cons_succ, List.getElem_cons_zero, List.setIfInBounds_toArray, List.set_cons_zero, List.set_cons_succ]
  refine wpAnyH_ready (rs := [9]) (by kernel_rfl) (by simp) ?_
  refine AllReadyH.cons rfl (fun K hK => ?_) AllReadyH.nil
  go_simp
  (with_reducible refine (rput_s A3 (fn - 1) c3 (Xs.eraseIdx i) ⟨D.t, X.l, X.A, X.n, X.c⟩ _ LL.out (by omega) r3).mono ?_)
  rintro e9 V2 ⟨A4, c4, rfl, r4, hb9⟩
  replace hz := hz.trans (hb9.mono hz.size)
  refine hK.out _ _ ⟨hz, hHeld.2.below hb9⟩ (fun hHeld => ?_)
  clear hK K hb9
  try simp only [Act.put, List.getElem_toArray, List.getElem_cons_succ, List.getElem_cons_zero, List.setIfInBounds_toArray, List.set_cons_zero, List.set_cons_succ]
  refine' wpAnyH_take (i := 10) (v := .slice A4 (fn - 1 + 1) c4) rfl (by kernel_rfl) (by kernel_rfl) (by kernel_rfl) (fun _ _ _ h => h) (Or.inl ⟨by rfl, fun w' hw' => by go_simp⟩) hHeld ?_
  try simp only [Act.put, List.getElem_toArray, List.getElem_cons_succ, List.getElem_cons_zero, List.setIfInBounds_toArray, List.set_cons_zero, List.set_cons_succ]
  refine' wpAnyH_take (i := 11) (v := .int .i64 0) rfl (by kernel_rfl) (by kernel_rfl) (by kernel_rfl) (fun _ _ _ h => h) (Or.inl ⟨by rfl, fun w' hw' => by go_simp⟩) hHeld ?_
  try simp only [Act.put, List.getElem_toArray, List.getElem_cons_succ, List.getElem_cons_zero, List.setIfInBounds_toArray, List.set_cons_zero, List.set_cons_succ]
  refine wpAnyH_done (by kernel_rfl) ?_ _
  go_wp2
  go_ret2
  refine .inl ⟨putF (Xs.eraseIdx i) ⟨D.t, X.l, X.A, X.n, X.c⟩, A4, fn - 1 + 1, c4, rfl, HA.out, by rw [putF_len, LL.out], by omega, r4, fun Y hY => ?_, hz⟩
  rcases putF_mem _ _ _ hY with rfl | hY
  · exact ⟨HXO.out.ln, HXO.out.bn, HXO.out.bx, HR.out.bt, HXO.out.rA.below hz⟩
  · exact (HX.out Y (erase_mem hY)).below hz


end Go.Proofs.Ytodfaakodgedbaa

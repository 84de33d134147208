
/- lamport: a leaf's sum, of the program and of the document. -/
import Derived.Test.YtfdbgmnnahcejaaLam4
namespace Go.Proofs.Ytfdbgmnnahcejaa
open Go.RowKit Go.Qc
attribute [local go_sem] txt_size txt_append ib_fold

theorem usable_any (lf b : Int) (w : World) :
    Calls Try.prog 154 #[.int .i64 lf, .int .i64 b] w fun e w' => e = .returned (.bool (decide (0 ≤ lf) && rgt b)) ∧ w = w' := by
  obtain ⟨q, hq⟩ : ∃ q, q = rgt b := ⟨_, rfl⟩
  have c1 := fun W => lright_any b W
  rw [← hq] at c1 ⊢
  clear hq
  by_cases h : 0 ≤ lf
  · rw [decide_eq_true h, Bool.true_and]
    go_enter Try.func154, Try.ntmps154
    go_wp2_with (first
      | (go_at_call 120; (with_reducible refine (c1 _).mono ?_); rintro e1 w1 ⟨rfl, rfl⟩))
    go_ret
    exact ⟨rfl, rfl⟩
  · rw [decide_eq_false h, Bool.false_and]
    go_enter Try.func154, Try.ntmps154
    go_wp2_with (first
      | (go_at_call 120; (with_reducible refine (c1 _).mono ?_); rintro e1 w1 ⟨rfl, rfl⟩))
    go_ret
    exact ⟨rfl, rfl⟩

def leafN : List UInt8 := [108, 101, 97, 102]
def joinB (l : List (List UInt8)) : List UInt8 := tagB leafN [l.flatten]
theorem joinB_length (l : List (List UInt8)) : (joinB l).length = 32 := tagB_length _ _
set_option maxRecDepth 100000 in
set_option maxHeartbeats 4000000 in
theorem joined_any (A : Option Addr) (n c : Nat) (l : List (List UInt8)) (w : World) (hA : RowR w A n l) (hN : n ≤ 1000) :
    Calls Try.prog 160 #[.slice A n c] w fun e w' => e = .returned (.agg (idVals (joinB l))) ∧ Below w.heap.size w w' := by
  obtain ⟨S, hS⟩ : ∃ S, S = joinB l := ⟨_, rfl⟩
  have hSl : S.length = 32 := by rw [hS]; exact joinB_length _
  have cC : ∀ W : World, RowR W A n l → Calls Try.prog 193 #[.string ⟨#[108, 101, 97, 102]⟩, .slice A n c] W fun e w' => e = .returned (.agg (idVals S)) ∧ Below W.heap.size W w' := fun W h => by
    rw [hS]
    exact chain_any leafN (by decide) A n c l W h hN
  rw [← hS]
  have HSL := hid hSl
  have HC := hid cC
  have HA := hid hA
  clear hS hSl cC hA
  go_enter Try.func160, Try.ntmps160
  go_wp2_with (fail)
  generalize hZ : (Obj.cells _ 24) = Z
  obtain ⟨zc, rfl, hzc⟩ : ∃ zc : Array Value, Z = Obj.cells zc 24 ∧ zc.size = 32 := ⟨_, hZ.symm, rfl⟩
  clear hZ
  have hR := Blk.new w 24 zc
  have hB : Below w.heap.size w (w.alloc (.cells zc 24)) := (Below.refl _ _).alloc (Nat.le_refl _) _
  have HZC := hid hzc
  clear hzc
  refine (HC.out _ (HA.out.below hB)).mono ?_
  rintro e1 w1 ⟨rfl, hB1⟩
  replace hR := hR.below hB1
  replace hB := hB.trans (hB1.mono hB.size)
  clear hB1
  go_wp2_with (with_reducible refine wpList_store_blk rfl 24 _ _ rfl w.heap.size zc (idVals S) 24 hR rfl rfl ?c2 ?c3 (idVals_one _) ?_)
  case c2 => rw [idVals_size, HSL.out]; exact sizeId
  case c3 => rw [idVals_size, HSL.out]; exact HZC.out
  intro w9 hb9 hg9
  go_wp2
  refine bodyPost_ret (results_cell_row rfl _ _ _ _ _ _ _ rfl hb9 Try.underlying24 rfl (by rw [idVals_size, HSL.out]; exact sizeId)) rfl ⟨rfl, ?_⟩
  exact hB.grown hg9 hB.size (by intro i e; cases e; exact Nat.le_refl _)

/-! ### the leaf's own public sums -/
def leafF (s : List UInt8) (lf : Int) (b sd : Nat) : List UInt8 := pubB (secB s lf b sd)
theorem leafF_length (s : List UInt8) (lf : Int) (b sd : Nat) : (leafF s lf b sd).length = 32 := pubB_length _
set_option maxRecDepth 100000 in
set_option maxHeartbeats 4000000 in
theorem leaf1_any (s : List UInt8) (hs : s.length ≤ 1000) (lf : Int) (hl : lf ≤ 9223372036854775807) (b sd : Nat) (q : Int) (hq : q = sd) (p1 p2 : Nat) (w : World) (h1 : w.cell? ⟨p1, 0, none⟩ = some (.string (txt s))) (h2 : w.cell? ⟨p2, 0, none⟩ = some (.int .i64 lf)) :
    Calls Try.prog 184 #[.int .i64 b, .int .i64 q, .pointer (some ⟨p1, 0, none⟩), .pointer (some ⟨p2, 0, none⟩)] w fun e w' => e = .returned (.agg (idVals (leafF s lf b sd))) ∧ Below w.heap.size w w' := by
  obtain ⟨S, hS⟩ : ∃ S, S = secB s lf b sd := ⟨_, rfl⟩
  have hSl : S.length = 32 := by rw [hS]; exact secB_length _ _ _ _
  have c1 : ∀ W : World, Calls Try.prog 156 #[.string (txt s), .int .i64 lf, .int .i64 b, .int .i64 q] W fun e w' => e = .returned (.agg (idVals S)) ∧ Below W.heap.size W w' := fun W => by
    rw [hS, hq]
    exact secret_any s hs lf b sd hl W
  have c2 := fun W => public_any S hSl W
  have hT : leafF s lf b sd = pubB S := by rw [hS]; rfl
  rw [hT]
  have hTl := pubB_length S
  clear hS hT hq
  generalize pubB S = T at *
  have hk1 : ∀ zc, (w.alloc (.cells zc 24)).cell? ⟨p1, 0, none⟩ = some (.string (txt s)) := fun zc => Below.keep ((Below.refl _ _).alloc (Nat.le_refl _) _) h1
  have hk2 : ∀ zc, (w.alloc (.cells zc 24)).cell? ⟨p2, 0, none⟩ = some (.int .i64 lf) := fun zc => Below.keep ((Below.refl _ _).alloc (Nat.le_refl _) _) h2
  have HTL := hid hTl
  clear hTl h1 h2 hs hl
  go_enter Try.func184, Try.ntmps184
  go_wp2_with (fail)
  generalize hZ : (Obj.cells _ 24) = Z
  obtain ⟨zc, rfl, hzc⟩ : ∃ zc : Array Value, Z = Obj.cells zc 24 ∧ zc.size = 32 := ⟨_, hZ.symm, rfl⟩
  clear hZ
  have hR := Blk.new w 24 zc
  have hB : Below w.heap.size w (w.alloc (.cells zc 24)) := (Below.refl _ _).alloc (Nat.le_refl _) _
  have HZC := hid hzc
  clear hzc hk1 hk2
  refine (c1 _).mono ?_
  rintro e1 w1 ⟨rfl, hB1⟩
  replace hR := hR.below hB1
  replace hB := hB.trans (hB1.mono hB.size)
  clear hB1
  go_wp2_with (first
    | (go_at_call 157; (with_reducible refine (c2 _).mono ?_); rintro e2 w2 ⟨rfl, hB2⟩; replace hR := hR.below hB2; replace hB := hB.trans (hB2.mono hB.size))
    | (with_reducible refine wpList_store_blk rfl 24 _ _ rfl w.heap.size zc (idVals T) 24 hR rfl rfl ?c2 ?c3 (idVals_one _) ?_))
  case c2 => rw [idVals_size, HTL.out]; exact sizeId
  case c3 => rw [idVals_size, HTL.out]; exact HZC.out
  intro w9 hb9 hg9
  go_wp2
  refine bodyPost_ret (results_cell_row rfl _ _ _ _ _ _ _ rfl hb9 Try.underlying24 rfl (by rw [idVals_size, HTL.out]; exact sizeId)) rfl ⟨rfl, ?_⟩
  exact hB.grown hg9 hB.size (by intro i e; cases e; exact Nat.le_refl _)

def leafB (s : List UInt8) (lf : Int) (n : Nat) : List UInt8 := joinB (sideL (leafF s lf) n)
theorem leafB_length (s : List UInt8) (lf : Int) (n : Nat) : (leafB s lf n).length = 32 := joinB_length _
/-- The worlds behind Leaf's three variables. -/
def w3 (w : World) (s : List UInt8) (lf : Int) (zc : Array Value) : World := ((w.alloc (.cells #[.string (txt s)] 9)).alloc (.cells #[.int .i64 lf] 3)).alloc (.cells zc 24)
set_option maxRecDepth 100000 in
set_option maxHeartbeats 4000000 in
theorem leaf_any (s : List UInt8) (hs : s.length ≤ 1000) (lf : Int) (h0 : 0 ≤ lf) (hl : lf ≤ 9223372036854775807) (n : Nat) (hn : n ≤ 256) (hr : rgt n = true) (w : World) :
    Calls Try.prog 147 #[.string (txt s), .int .i64 lf, .int .i64 n] w fun e w' => e = .returned (.tuple #[.agg (idVals (leafB s lf n)), .int .i64 0]) ∧ Below w.heap.size w w' := by
  obtain ⟨S, hS⟩ : ∃ S, S = leafB s lf n := ⟨_, rfl⟩
  have hSl : S.length = 32 := by rw [hS]; exact leafB_length _ _ _
  rw [← hS]
  have c1 : ∀ W : World, Calls Try.prog 154 #[.int .i64 lf, .int .i64 n] W fun e w' => e = .returned (.bool true) ∧ W = w' := fun W => by
    have := usable_any lf n W
    rw [decide_eq_true h0, hr] at this
    exact this
  have k2 : ∀ zc, w3 w s lf zc = ((w.alloc (.cells #[.string (txt s)] 9)).alloc (.cells #[.int .i64 lf] 3)).alloc (.cells zc 24) := fun _ => rfl
  have hz1 : (w.alloc (.cells #[.string (txt s)] 9)).heap.size = w.heap.size + 1 := by simp
  have hz2 : ((w.alloc (.cells #[.string (txt s)] 9)).alloc (.cells #[.int .i64 lf] 3)).heap.size = w.heap.size + 1 + 1 := by simp
  have b1 : ∀ zc, Blk (w3 w s lf zc) w.heap.size 9 #[.string (txt s)] := fun zc => ((Blk.new w 9 _).alloc _).alloc _
  have b2 : ∀ zc, Blk (w3 w s lf zc) (w.heap.size + 1) 3 #[.int .i64 lf] := fun zc => by
    have := (Blk.new (w.alloc (.cells #[.string (txt s)] 9)) 3 #[.int .i64 lf]).alloc (.cells zc 24)
    rw [hz1] at this; exact this
  have b3 : ∀ zc, Blk (w3 w s lf zc) (w.heap.size + 1 + 1) 24 zc := fun zc => by
    have := Blk.new ((w.alloc (.cells #[.string (txt s)] 9)).alloc (.cells #[.int .i64 lf] 3)) 24 zc
    rw [hz2] at this; exact this
  have bB : ∀ zc, Below w.heap.size w (w3 w s lf zc) := fun zc => (((Below.refl _ _).alloc (Nat.le_refl _) _).alloc (by simp) _).alloc (by simp; omega) _
  have e2 : ∀ zc, (((w.alloc (.cells #[.string (txt s)] 9)).alloc (.cells #[.int .i64 lf] 3)).alloc (.cells zc 24)).cell? ⟨w.heap.size + 1, 0, none⟩ = some (.int .i64 lf) := fun zc => (b2 zc).cell_ rfl
  have cS : ∀ zc, Calls Try.prog 183 #[.int .i64 n, .func (.func 184) #[] #[.pointer (some ⟨w.heap.size, 0, none⟩), .pointer (some ⟨w.heap.size + 1, 0, none⟩)]] (w3 w s lf zc) fun e w' => ∃ v, e = .returned v ∧ w'.ownsRow (w3 w s lf zc).heap.size 24 32 v (2 * n) (idsV (sideL (leafF s lf) n)) ∧ Below (w3 w s lf zc).heap.size (w3 w s lf zc) w' := fun zc =>
    sides_any _ _ (leafF s lf) (leafF_length s lf) n (by omega) _ (enters_of Try.func184 (by kernel_rfl) rfl) (fun W hW b hb => by
      have d1 := Below.keep hW ((b1 zc).cell_ (i := 0) rfl)
      have d2 := Below.keep hW ((b2 zc).cell_ (i := 0) rfl)
      exact ⟨leaf1_any s hs lf hl b 0 0 rfl _ _ W d1 d2, leaf1_any s hs lf hl b 1 1 rfl _ _ W d1 d2⟩)
  have cJ := fun A c W h => joined_any A (2 * n) c (sideL (leafF s lf) n) W h (by omega)
  have h32 := sideL_32 (leafF s lf) (leafF_length s lf) n
  rw [show joinB (sideL (leafF s lf) n) = S from hS.symm] at cJ
  generalize sideL (leafF s lf) n = L at *
  have HSL := hid hSl
  have H32 := hid h32
  have HN := hid hn
  clear hS hSl h32 hz1 hz2 b1 b2 hn hr hs hl h0
  go_enter Try.func147, Try.ntmps147
  go_wp2_with (first
    | (go_at_call 154; (with_reducible refine (c1 _).mono ?_); rintro e1 w1 ⟨rfl, rfl⟩)
    | (go_at_call 183; rw [← k2]; (with_reducible refine (cS _).mono ?_); rintro e2 w2 ⟨v, rfl, hown, hB2⟩; obtain ⟨A2, cc, rfl, hrow⟩ := RowAt.own hown H32.out (by have := HN.out; omega); have hR := (b3 _).below hB2; have hB := (bB _).trans (hB2.mono (bB _).size))
    | (go_at_call 160; (with_reducible refine (cJ _ _ _ hrow.r).mono ?_); rintro e4 w4 ⟨rfl, hB4⟩; replace hR := hR.below hB4; replace hB := hB.trans (hB4.mono hB.size))
    | (with_reducible refine wpList_store_blk rfl 24 _ _ rfl (w.heap.size + 1 + 1) _ (idVals S) 24 hR rfl rfl ?c2 ?c3 (idVals_one _) ?_))
  case c2 => rw [idVals_size, HSL.out]; exact sizeId
  case c3 => rw [idVals_size, HSL.out]; rfl
  intro w9 hb9 hg9
  go_wp2
  refine bodyPost_ret (results_cellt rfl _ _ _ _ _ _ rfl hb9 Try.underlying24 rfl (by rw [idVals_size, HSL.out]; exact sizeId)) rfl ⟨rfl, ?_⟩
  exact hB.grown hg9 hB.size (by intro i e; cases e; omega)
set_option maxRecDepth 100000 in
set_option maxHeartbeats 4000000 in
theorem leaf_no (s : List UInt8) (lf b : Int) (hr : (decide (0 ≤ lf) && rgt b) = false) (w : World) :
    Calls Try.prog 147 #[.string (txt s), .int .i64 lf, .int .i64 b] w fun e w' => e = .returned (.tuple #[.agg (idVals zeroB), .int .i64 1]) ∧ Below w.heap.size w w' := by
  have c1 : ∀ W : World, Calls Try.prog 154 #[.int .i64 lf, .int .i64 b] W fun e w' => e = .returned (.bool false) ∧ W = w' := fun W => by
    have := usable_any lf b W
    rw [hr] at this
    exact this
  have hz1 : (w.alloc (.cells #[.string (txt s)] 9)).heap.size = w.heap.size + 1 := by simp
  have hz2 : ((w.alloc (.cells #[.string (txt s)] 9)).alloc (.cells #[.int .i64 lf] 3)).heap.size = w.heap.size + 1 + 1 := by simp
  have b3 : ∀ zc, Blk (((w.alloc (.cells #[.string (txt s)] 9)).alloc (.cells #[.int .i64 lf] 3)).alloc (.cells zc 24)) (w.heap.size + 1 + 1) 24 zc := fun zc => by
    have := Blk.new ((w.alloc (.cells #[.string (txt s)] 9)).alloc (.cells #[.int .i64 lf] 3)) 24 zc
    rw [hz2] at this; exact this
  have bB : ∀ zc, Below w.heap.size w (((w.alloc (.cells #[.string (txt s)] 9)).alloc (.cells #[.int .i64 lf] 3)).alloc (.cells zc 24)) := fun zc => (((Below.refl _ _).alloc (Nat.le_refl _) _).alloc (by simp) _).alloc (by simp; omega) _
  have e2 : ∀ zc, (((w.alloc (.cells #[.string (txt s)] 9)).alloc (.cells #[.int .i64 lf] 3)).alloc (.cells zc 24)).cell? ⟨w.heap.size + 1, 0, none⟩ = some (.int .i64 lf) := fun zc => by
    have := (Blk.new (w.alloc (.cells #[.string (txt s)] 9)) 3 #[.int .i64 lf]).alloc (.cells zc 24)
    rw [hz1] at this; exact this.cell_ rfl
  clear hr hz1 hz2
  go_enter Try.func147, Try.ntmps147
  go_wp2_with (first
    | (go_at_call 154; (with_reducible refine (c1 _).mono ?_); rintro e1 w1 ⟨rfl, rfl⟩)
    | (with_reducible refine wpList_store_blk rfl 24 _ _ rfl (w.heap.size + 1 + 1) _ _ 24 (b3 _) rfl rfl ?c2 ?c3 ?c4 ?_))
  case c2 => exact sizeId
  case c3 => rfl
  case c4 => rw [← zeroB_vals]; exact idVals_one _
  intro w7 hb7 hg7
  go_wp2
  refine bodyPost_ret (results_cellt rfl _ _ _ _ _ _ rfl hb7 Try.underlying24 rfl sizeId) rfl ⟨?_, ?_⟩
  · rw [zeroB_vals]; rfl
  · exact (bB _).grown hg7 (bB _).size (by intro i e; cases e; omega)

/-! ### the document's -/
theorem flat_side (F : Nat → Nat → List UInt8) (k : Nat) : (sideL F (k + 1)).flatten = (sideL F k).flatten ++ (F k 0 ++ F k 1) := by
  rw [sideL_succ, List.flatten_append]; simp
theorem flat_len (F : Nat → Nat → List UInt8) (hF : ∀ b s, (F b s).length = 32) (k : Nat) : (sideL F k).flatten.length = 64 * k := by
  rw [flatten_len _ (sideL_32 F hF k), sideL_length]; omega
theorem textB_leaf (q : List UInt8) (h : q.length ≤ 90000) : (textB leafN [q]).length ≤ 1000000000000 :=
  textB_ids leafN (by decide) _ (by simp only [List.map_cons, List.map_nil, List.sum_cons, List.sum_nil, List.length_cons, List.length_nil]; omega)
set_option maxRecDepth 100000 in
set_option maxHeartbeats 4000000 in
theorem rleaf_any (s : List UInt8) (hs : s.length ≤ 1000) (lf : Int) (n : Nat) (hn : n ≤ 256) (w : World) :
    Calls Try.prog 60 #[.string (txt s), .int .i64 lf, .int .i64 n] w fun e w' => e = .returned (.agg (idVals (leafB s lf n))) ∧ Below w.heap.size w w' := by
  obtain ⟨S, hS⟩ : ∃ S, S = leafB s lf n := ⟨_, rfl⟩
  have hSl : S.length = 32 := by rw [hS]; exact leafB_length _ _ _
  rw [← hS]
  have hof : ∀ W A c, Rd W A ([(sideL (leafF s lf) n).flatten].map strV) → Calls Try.prog 123 #[.string ⟨#[108, 101, 97, 102]⟩, .slice A 1 c] W fun e w' => e = .returned (.agg (idVals S)) ∧ Below W.heap.size W w' := fun W A c h => by
    rw [hS]
    exact rof_any leafN (by decide) A 1 c _ rfl (textB_leaf _ (by rw [flat_len _ (leafF_length s lf)]; omega)) W h
  have HSL := hid hSl
  have HOF := hid hof
  clear hS hSl hof
  go_enter Try.func60, Try.ntmps60
  go_wp2_with (fail)
  generalize hZ : (Obj.cells _ 24) = Z
  obtain ⟨zc, rfl, hzc⟩ : ∃ zc : Array Value, Z = Obj.cells zc 24 ∧ zc.size = 32 := ⟨_, hZ.symm, rfl⟩
  clear hZ
  have hR0 := Blk.new w 24 zc
  have hB0 : Below w.heap.size w (w.alloc (.cells zc 24)) := (Below.refl _ _).alloc (Nat.le_refl _) _
  have HZC := hid hzc
  clear hzc
  generalize w.alloc (.cells zc 24) = w0 at *
  go_loopw [7, 8] (fun v i wr => ∃ k : Nat, k ≤ n ∧ i = .int .i64 k ∧ v = .string (txt (sideL (leafF s lf) k).flatten) ∧ Below w0.heap.size w0 wr) (fun _ i _ => n - (intOf i).toNat)
  case atStart => exact ⟨0, by omega, rfl, rfl, Below.refl _ _⟩
  case round =>
    obtain ⟨k, hk, rfl, rfl, hB⟩ := hrel
    by_cases hlt : k < n
    · have b1 : (k : Int) < n := by omega
      have ql := flat_len _ (leafF_length s lf) k
      have HS := hid (flat_side (leafF s lf) k)
      obtain ⟨X, hX⟩ : ∃ X, X = secB s lf k ((0 : Nat) : Int) := ⟨_, rfl⟩
      obtain ⟨Y, hY⟩ : ∃ Y, Y = secB s lf k ((1 : Nat) : Int) := ⟨_, rfl⟩
      have lx : X.length = 32 := by rw [hX]; exact secB_length _ _ _ _
      have ly : Y.length = 32 := by rw [hY]; exact secB_length _ _ _ _
      have c0 : ∀ W : World, Calls Try.prog 127 #[.string (txt s), .int .i64 lf, .int .i64 k, .int .i64 0] W fun e w' => e = .returned (.agg (idVals X)) ∧ Below W.heap.size W w' := fun W => by
        rw [hX]; exact rsecret_any s hs lf k ((0 : Nat) : Int) W
      have c1 : ∀ W : World, Calls Try.prog 127 #[.string (txt s), .int .i64 lf, .int .i64 k, .int .i64 1] W fun e w' => e = .returned (.agg (idVals Y)) ∧ Below W.heap.size W w' := fun W => by
        rw [hY]; exact rsecret_any s hs lf k ((1 : Nat) : Int) W
      have p0 := fun W => rpublic_any X lx W
      have p1 := fun W => rpublic_any Y ly W
      have lpx := pubB_length X
      have lpy := pubB_length Y
      have f0 : leafF s lf k 0 = pubB X := by rw [hX]; rfl
      have f1 : leafF s lf k 1 = pubB Y := by rw [hY]; rfl
      rw [f0, f1] at HS
      clear hX hY f0 f1
      generalize pubB X = PX at *
      generalize pubB Y = PY at *
      have t0 := fun W => rid_any PX lpx W
      have t1 := fun W => rid_any PY lpy W
      generalize hQ : (sideL (leafF s lf) k).flatten = Q at *
      have HQ := hid hQ
      have z1 : ¬ (9223372036854775807 : Int) < PX.length + PY.length := by omega
      have z2 : ¬ (9223372036854775807 : Int) < Q.length + (PX.length + PY.length) := by omega
      clear hQ ql lpx lpy lx ly
      go_wp2_with (first
        | (go_at_call 127; first | ((with_reducible refine (c0 _).mono ?_); rintro e1 w1 ⟨rfl, hb1⟩; replace hB := hB.trans (hb1.mono hB.size)) | ((with_reducible refine (c1 _).mono ?_); rintro e2 w2 ⟨rfl, hb2⟩; replace hB := hB.trans (hb2.mono hB.size)))
        | (go_at_call 126; first | ((with_reducible refine (p0 _).mono ?_); rintro e1 w1 ⟨rfl, hb1⟩; replace hB := hB.trans (hb1.mono hB.size)) | ((with_reducible refine (p1 _).mono ?_); rintro e2 w2 ⟨rfl, hb2⟩; replace hB := hB.trans (hb2.mono hB.size)))
        | (go_at_call 32; first | ((with_reducible refine (t0 _).mono ?_); rintro e1 w1 ⟨rfl, hb1⟩; replace hB := hB.trans (hb1.mono hB.size)) | ((with_reducible refine (t1 _).mono ?_); rintro e2 w2 ⟨rfl, hb2⟩; replace hB := hB.trans (hb2.mono hB.size))))
      go_roundw
      case rel => exact ⟨k + 1, hlt, by go_num, by rw [HS.out], hB⟩
      case measure => simp [intOf]; omega
    · obtain rfl : k = n := by omega
      have b1 : ¬ (k : Int) < k := by omega
      generalize (sideL (leafF s lf) k).flatten = Q at *
      have hrd := rd_strV wr Q
      have hBw := hB0.trans (hB.mono hB0.size)
      have hR := (hR0.below hB).alloc (.cells #[.string (txt Q)] 9)
      have hB9 := hBw.alloc hBw.size (.cells #[.string (txt Q)] 9)
      go_wp2_with (first
        | (go_at_call 123; (with_reducible refine (HOF.out _ _ _ hrd).mono ?_); rintro e7 w7 ⟨rfl, hB7⟩; replace hR := hR.below hB7; replace hB9 := hB9.trans (hB7.mono hB9.size))
        | (with_reducible refine wpList_store_blk rfl 24 _ _ rfl w.heap.size zc (idVals S) 24 hR rfl rfl ?c2 ?c3 (idVals_one _) ?_))
      case c2 => rw [idVals_size, HSL.out]; exact sizeId
      case c3 => rw [idVals_size, HSL.out]; exact HZC.out
      intro w9 hb9 hg9
      go_wp2
      refine bodyPost_ret (results_cell_row rfl _ _ _ _ _ _ _ rfl hb9 Try.underlying24 rfl (by rw [idVals_size, HSL.out]; exact sizeId)) rfl ⟨rfl, ?_⟩
      exact hB9.grown hg9 hB9.size (by intro i e; cases e; exact Nat.le_refl _)
end Go.Proofs.Ytfdbgmnnahcejaa

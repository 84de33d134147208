/- journal: the frame with which a text begins, of the document. -/
import Derived.Test.YtfckbonblfcmnaaJs1
set_option linter.unusedSimpArgs false
set_option linter.unusedVariables false
namespace Go.Proofs.Ytfckbonblfcmnaa
open Go.RowKit Go.Qc Go.Shelf
/-- A frame is read just if its bytes stand there. -/
theorem frR_iff {s C : List UInt8} {a b : Nat} {X : FmD} (hs : s.length ≤ 5000) (ha : a ≤ s.length) : frR s C a = some (X, b) ↔ X.okF ∧ ∃ r, s.drop a = frB C X ++ r ∧ b = a + (frB C X).length := by
  constructor
  · intro h
    obtain ⟨g1, g2, g3, g4⟩ := frR_some h ha
    have hb := frR_bytes h
    have hl := congrArg List.length hb
    rw [List.length_append, List.length_drop, List.length_drop] at hl
    exact ⟨g3, _, hb, by omega⟩
  · rintro ⟨h1, r, h2, rfl⟩
    have hl := congrArg List.length h2
    have : X.p.length ≤ (frB C X).length := by simp [frB, textE]; omega
    rw [List.length_append, List.length_drop] at hl
    exact frR_back h1 (by omega) h2
theorem frR_drop {s C : List UInt8} {a b : Nat} {X : FmD} (hs : s.length ≤ 5000) (ha : a ≤ s.length) : frR (s.drop a) C 0 = some (X, b) ↔ frR s C a = some (X, a + b) := by
  rw [frR_iff (by rw [List.length_drop]; omega) (Nat.zero_le _), frR_iff hs ha, List.drop_zero]
  constructor
  · rintro ⟨h1, r, h2, h3⟩; exact ⟨h1, r, h2, by omega⟩
  · rintro ⟨h1, r, h2, h3⟩; exact ⟨h1, r, h2, by omega⟩
theorem frR_drop_none {s C : List UInt8} {a : Nat} (hs : s.length ≤ 5000) (ha : a ≤ s.length) (h : frR s C a = none) : frR (s.drop a) C 0 = none := by
  cases hf : frR (s.drop a) C 0 with
  | none => rfl
  | some p => obtain ⟨X, b⟩ := p; rw [(frR_drop hs ha).1 hf] at h; cases h
theorem kB_ne {X : FmD} (h : X.okF) : kB X ≠ 0 := by
  intro e
  have := kB_nat h
  rw [e] at this
  unfold FmD.okF at h
  simp at this
  omega
/-- What a frame that is read says of the text. -/
theorem fr_inv {T C : List UInt8} {b : Nat} {X : FmD} (hT : T.length ≤ 5000) (h : frR T C 0 = some (X, b)) :
    ∃ rest, T = 74 :: kB X :: rest ∧ kB X ≠ 0 ∧ textR 4194304 rest = .ok (X.p, (textE X.p).length) ∧ (rest.drop (textE X.p).length).take 8 = (nxtB C X).take 8 := by
  obtain ⟨h1, r, h2, h3⟩ := (frR_iff hT (Nat.zero_le _)).1 h
  have hl := congrArg List.length h2
  have hp : X.p.length ≤ (frB C X).length := by simp [frB, textE]; omega
  rw [List.drop_zero] at h2
  rw [List.length_append, List.drop_zero] at hl
  refine ⟨textE X.p ++ ((nxtB C X).take 8 ++ r), by rw [h2]; simp [frB], kB_ne h1, textR_back 4194304 X.p (by omega) (by omega) _, ?_⟩
  rw [List.drop_left]
  have : ((nxtB C X).take 8).length = 8 := by rw [List.length_take, nxtB_length]; rfl
  rw [List.take_append_of_le_length (by omega), List.take_of_length_le (by omega)]
theorem fr_yes {T C rest t : List UInt8} {k : UInt8} {n : Nat} (hT : T.length ≤ 5000) (h1 : T = 74 :: k :: rest) (hk : k ≠ 0) (ht : textR 4194304 rest = .ok (t, n)) (h8 : n + 8 ≤ rest.length) (hn : (rest.drop n).take 8 = (nxtB C ⟨ib k, t⟩).take 8) :
    frR T C 0 = some (⟨ib k, t⟩, 2 + n + 8) := by
  obtain ⟨hnl, hr⟩ := textR_once ht
  have hl := congrArg List.length hr
  rw [List.length_append, List.length_drop] at hl
  have hne : (textE t).length = n := by omega
  have hk2 : k.toNat ≠ 0 := fun e => hk (UInt8.toNat_inj.1 (by simpa using e))
  have hk3 := k.toNat_lt
  have ei : ib k = (k.toNat : Int) := rfl
  have hok : (⟨ib k, t⟩ : FmD).okF := by unfold FmD.okF; simp only; omega
  have hkB : kB ⟨ib k, t⟩ = k := by
    have := kB_nat hok
    apply UInt8.toNat_inj.1
    have e2 : (⟨ib k, t⟩ : FmD).k = (k.toNat : Int) := rfl
    omega
  have hfl : (frB C ⟨ib k, t⟩).length = 2 + n + 8 := by
    simp only [frB, List.length_cons, List.length_append, List.length_take, nxtB_length]
    have : (textE (⟨ib k, t⟩ : FmD).p).length = n := hne
    omega
  refine (frR_iff hT (Nat.zero_le _)).2 ⟨hok, rest.drop (n + 8), ?_, by omega⟩
  rw [List.drop_zero, h1]
  unfold frB
  rw [hkB, ← hn]
  simp only [List.cons_append, List.append_assoc]
  congr 2
  rw [← List.drop_drop, List.take_append_drop]
  exact hr
theorem js_w1 (L A : Nat) (h : L ≤ 10000) (g : A ≤ 10000) : wrap64 ((L : Int) - (A : Int)) = (L : Int) - (A : Int) := by unfold wrap64; omega
theorem js_w2 (A B : Nat) (h : A ≤ 10000) (hB : B = A + 8) : wrap64 ((A : Int) + 8) = (B : Int) := by unfold wrap64; omega
theorem js_w3 (A B : Nat) (h : A ≤ 10000) (hB : B = A + 8) : IntKind.i64.wrap ((A : Int) + 8) = (B : Int) := by rw [IntKind.wrap_i64]; omega
theorem js_wk (k : UInt8) : IntKind.i64.wrap (ib k) = ib k := by
  have h1 := k.toNat_lt
  have h2 : ib k = (k.toNat : Int) := rfl
  rw [IntKind.wrap_i64]
  omega
theorem js_s (A B L : Nat) (hB : B = A + 8) (h : B ≤ L) : (0 : Int) ≤ (A : Int) ∧ (A : Int) ≤ (B : Int) ∧ (B : Int) ≤ (L : Int) ∧ (0 : Int) ≤ (B : Int) ∧ ¬ ((L : Int) - (A : Int) < 8) := by omega
theorem js_lt (A L : Nat) (h : L < A + 8) : (L : Int) - (A : Int) < 8 := by omega
/-- What one answers. -/
def OnQ (T C : List UInt8) (w : World) (o : Ending) (w' : World) : Prop := match frR T C 0 with
  | some (X, b) => o = .returned (.tuple #[.agg X.cs, .int .i64 (b : Int)]) ∧ Below w.heap.size w w'
  | none => o = .returned (.tuple #[.agg zF, .int .i64 0]) ∧ Below w.heap.size w w'
theorem OnQ.no {T C : List UInt8} {w w' : World} {o : Ending} (h : frR T C 0 = none) (h2 : o = .returned (.tuple #[.agg zF, .int .i64 0]) ∧ Below w.heap.size w w') : OnQ T C w o w' := by unfold OnQ; rw [h]; exact h2
theorem OnQ.yes {T C : List UInt8} {X : FmD} {b : Nat} {w w' : World} {o : Ending} (h : frR T C 0 = some (X, b)) (h2 : o = .returned (.tuple #[.agg X.cs, .int .i64 (b : Int)]) ∧ Below w.heap.size w w') : OnQ T C w o w' := by unfold OnQ; rw [h]; exact h2
/-- The chain's box and the answer's. -/
structure OnS (w : World) (C : List UInt8) (W : World) : Prop where
  bc : Blk W w.heap.size 23 (idVals C)
  br : Blk W (w.heap.size + 1) 37 zF
  hb : Below w.heap.size w W
theorem OnS.start (w : World) (C : List UInt8) : OnS w C ((w.alloc (.cells (idVals C) 23)).alloc (.cells zF 37)) := by
  have h1 : (w.alloc (.cells (idVals C) 23)).heap.size = w.heap.size + 1 := by simp
  have b1 := Blk.new (w.alloc (.cells (idVals C) 23)) 37 zF
  rw [h1] at b1
  exact ⟨(Blk.new w 23 (idVals C)).alloc _, b1, ((Below.refl _ _).alloc (Nat.le_refl _) _).alloc (by simp) _⟩
theorem OnS.below {w : World} {C : List UInt8} {W W' : World} (h : OnS w C W) (g : Below W.heap.size W W') : OnS w C W' := ⟨h.bc.below g, h.br.below g, h.hb.trans (g.mono h.hb.size)⟩
/-- The same, with the frame's box and the reader's, kept along. -/
structure OnH (w : World) (g8 g6 : Nat) (X : FmD) (rs : Array Value) (W : World) : Prop where
  f : Blk W g8 37 X.cs
  r : Blk W g6 89 rs
  z : ∃ cs, cs.size = 2 ∧ Blk W (w.heap.size + 1) 37 cs
  hb : Below w.heap.size w W
theorem OnH.below {w : World} {g8 g6 : Nat} {X : FmD} {rs : Array Value} {W W' : World} (h : OnH w g8 g6 X rs W) (g : Below W.heap.size W W') : OnH w g8 g6 X rs W' :=
  ⟨h.f.below g, h.r.below g, h.z.elim fun cs hc => ⟨cs, hc.1, hc.2.below g⟩, h.hb.trans (g.mono h.hb.size)⟩
attribute [local go_sem] txt_size txt_append ib_fold
set_option maxRecDepth 100000 in
set_option maxHeartbeats 8000000 in
theorem one_short (T C : List UInt8) (hT : T.length ≤ 5000) (hC : C.length = 32) (h2 : T.length < 2) (w : World) :
    Calls Try.prog 29 #[.string (txt T), .agg (idVals C)] w (OnQ T C w) := by
  have HNO := hid (show frR T C 0 = none by
    cases hf : frR T C 0 with
    | none => rfl
    | some p => obtain ⟨X, b⟩ := p; obtain ⟨r, h, _⟩ := fr_inv hT hf; rw [h] at h2; simp only [List.length_cons] at h2; exfalso; omega)
  have z1 : (T.length : Int) < 2 := by omega
  have hIf : (Try.prog.info? 37).map (·.size) = some zF.size := Fr_infoN
  have hzF : zF.all (·.oneCell') = true := by unfold zF; simp [Value.oneCell']
  have bz : ∀ W, (Instr.build 37 #[]).run Try.prog W = .ok (.agg zF) W := fun W => by kernel_rfl
  go_enter Try.func29, Try.ntmps29
  go_upto_region 1 with (fail)
  have HZ : zF = #[.int .i64 0, .string ⟨#[]⟩] := rfl
  rw [← HZ]
  have hS := OnS.start w C
  clear HZ
  generalize (w.alloc (.cells (idVals C) 23)).alloc (.cells zF 37) = W at *
  have hbr := hS.br
  have hb := hS.hb
  clear hS
  go_wp2_with (first
    | (with_reducible refine wpList_build_byM rfl _ _ rfl _ _ bz (by with_unfolding_all rfl) ?_)
    | (with_reducible refine wpList_store_blk rfl 37 _ _ rfl (w.heap.size + 1) _ zF 37 hbr rfl rfl hIf ?c1 hzF ?_))
  case c1 => rfl
  intro w9 hb9 hg9
  go_wp2
  exact bodyPost_ret (results_cellt rfl _ _ _ _ _ _ rfl hb9 Try.underlying37 rfl hIf) rfl (OnQ.no HNO.out ⟨rfl, hb.grown hg9 hb.size (by intro i e; cases e; omega)⟩)
set_option maxRecDepth 100000 in
set_option maxHeartbeats 8000000 in
theorem one_head (x k : UInt8) (rest C : List UInt8) (hT : (x :: k :: rest).length ≤ 5000) (hC : C.length = 32) (hx : ¬ (x = 74 ∧ k ≠ 0)) (w : World) :
    Calls Try.prog 29 #[.string (txt (x :: k :: rest)), .agg (idVals C)] w (OnQ (x :: k :: rest) C w) := by
  have HNO := hid (show frR (x :: k :: rest) C 0 = none by
    cases hf : frR (x :: k :: rest) C 0 with
    | none => rfl
    | some p =>
      obtain ⟨X, b⟩ := p
      obtain ⟨r, h, h2, _⟩ := fr_inv hT hf
      injection h with q1 q2
      injection q2 with q3 q4
      exact (hx ⟨q1, by rw [q3]; exact h2⟩).elim)
  have i0 := fun W => run_index_txt (x :: k :: rest) 0 x rfl 0 rfl W
  have i1 := fun W => run_index_txt (x :: k :: rest) 1 k rfl 1 rfl W
  have hl2 : 2 ≤ (x :: k :: rest).length := by simp
  generalize (x :: k :: rest) = T at *
  have z1 : ¬ ((T.length : Int) < 2) := by omega
  have hx0 : ib x = 74 → x = 74 := fun h => by
    have e : ib x = (x.toNat : Int) := rfl
    exact UInt8.toNat_inj.1 (by have : x.toNat = 74 := by omega
                                simpa using this)
  have hk0 : k = 0 → ib k = 0 := fun h => by rw [h]; rfl
  generalize ib x = x0 at *
  generalize ib k = k0 at *
  have hIf : (Try.prog.info? 37).map (·.size) = some zF.size := Fr_infoN
  have hzF : zF.all (·.oneCell') = true := by unfold zF; simp [Value.oneCell']
  have bz : ∀ W, (Instr.build 37 #[]).run Try.prog W = .ok (.agg zF) W := fun W => by kernel_rfl
  by_cases h74 : x0 = 74
  · have hk : k0 = 0 := by
      rcases Classical.em (k = 0) with h | h
      · exact hk0 h
      · exact (hx ⟨hx0 h74, h⟩).elim
    subst h74 hk
    clear hx hx0 hk0
    go_enter Try.func29, Try.ntmps29
    go_upto_region 1 with (fail)
    have HZ : zF = #[.int .i64 0, .string ⟨#[]⟩] := rfl
    rw [← HZ]
    have hS := OnS.start w C
    clear HZ
    generalize (w.alloc (.cells (idVals C) 23)).alloc (.cells zF 37) = W at *
    have hbr := hS.br
    have hb := hS.hb
    clear hS
    go_wp2_with (first
      | (with_reducible refine wpList_build_byM rfl _ _ rfl _ _ bz (by with_unfolding_all rfl) ?_)
      | (with_reducible refine wpList_store_blk rfl 37 _ _ rfl (w.heap.size + 1) _ zF 37 hbr rfl rfl hIf ?c1 hzF ?_))
    case c1 => rfl
    intro w9 hb9 hg9
    go_wp2
    exact bodyPost_ret (results_cellt rfl _ _ _ _ _ _ rfl hb9 Try.underlying37 rfl hIf) rfl (OnQ.no HNO.out ⟨rfl, hb.grown hg9 hb.size (by intro i e; cases e; omega)⟩)
  · clear hx hx0 hk0
    go_enter Try.func29, Try.ntmps29
    go_upto_region 1 with (fail)
    have HZ : zF = #[.int .i64 0, .string ⟨#[]⟩] := rfl
    rw [← HZ]
    have hS := OnS.start w C
    clear HZ
    generalize (w.alloc (.cells (idVals C) 23)).alloc (.cells zF 37) = W at *
    have hbr := hS.br
    have hb := hS.hb
    clear hS
    go_wp2_with (first
      | (with_reducible refine wpList_build_byM rfl _ _ rfl _ _ bz (by with_unfolding_all rfl) ?_)
      | (with_reducible refine wpList_store_blk rfl 37 _ _ rfl (w.heap.size + 1) _ zF 37 hbr rfl rfl hIf ?c1 hzF ?_))
    case c1 => rfl
    intro w9 hb9 hg9
    go_wp2
    exact bodyPost_ret (results_cellt rfl _ _ _ _ _ _ rfl hb9 Try.underlying37 rfl hIf) rfl (OnQ.no HNO.out ⟨rfl, hb.grown hg9 hb.size (by intro i e; cases e; omega)⟩)
set_option maxRecDepth 100000 in
set_option maxHeartbeats 8000000 in
theorem one_text (k : UInt8) (rest C : List UInt8) (e : Int) (hT : (74 :: k :: rest).length ≤ 5000) (hC : C.length = 32) (hk : k ≠ 0) (he : textR 4194304 rest = .error e) (w : World) :
    Calls Try.prog 29 #[.string (txt (74 :: k :: rest)), .agg (idVals C)] w (OnQ (74 :: k :: rest) C w) := by
  have HNO := hid (show frR (74 :: k :: rest) C 0 = none by
    cases hf : frR (74 :: k :: rest) C 0 with
    | none => rfl
    | some p =>
      obtain ⟨X, b⟩ := p
      obtain ⟨r, h, h2, h3, _⟩ := fr_inv hT hf
      injection h with q1 q2
      injection q2 with q3 q4
      rw [q4, h3] at he
      cases he)
  have he0 := textR_errJ he
  have i0 := fun W => run_index_txt (74 :: k :: rest) 0 74 rfl 0 rfl W
  have i1 := fun W => run_index_txt (74 :: k :: rest) 1 k rfl 1 rfl W
  have e74 : ib 74 = 74 := rfl
  rw [e74] at i0
  have hl2 : 2 ≤ (74 :: k :: rest).length := by simp
  have hd2 : (74 :: k :: rest).drop 2 = rest := rfl
  have cT := fun W => rGetText_any (74 :: k :: rest) 2 4194304 (by omega) hl2 W
  rw [hd2, he] at cT
  generalize (74 :: k :: rest) = T at *
  replace cT : ∀ W, Calls Try.prog 42 #[.agg #[.string (txt T), .int .i64 2, .int .i64 0], .int .i64 4194304] W fun o w' => o = .returned (.tuple #[.agg #[.string (txt T), .int .i64 2, .int .i64 e], .string ⟨#[]⟩]) ∧ e ≠ 0 ∧ Below W.heap.size W w' := cT
  have z1 : ¬ ((T.length : Int) < 2) := by omega
  have hk0 : ¬ (ib k = 0) := fun h => hk (by
    have e : ib k = (k.toNat : Int) := rfl
    exact UInt8.toNat_inj.1 (by have : k.toNat = 0 := by omega
                                simpa using this))
  have b2 : ∀ W, (Instr.build 89 #[(0, .string (txt T)), (1, .int .i64 2)]).run Try.prog W = .ok (.agg #[.string (txt T), .int .i64 2, .int .i64 0]) W := fun W => by kernel_rfl
  have z5 : (e != 0) = true := by simpa using he0
  have hIf : (Try.prog.info? 37).map (·.size) = some zF.size := Fr_infoN
  have hzF : zF.all (·.oneCell') = true := by unfold zF; simp [Value.oneCell']
  have bz : ∀ W, (Instr.build 37 #[]).run Try.prog W = .ok (.agg zF) W := fun W => by kernel_rfl
  clear hk he hd2 hl2 hT
  go_enter Try.func29, Try.ntmps29
  go_upto_region 1 with (fail)
  have HZ : zF = #[.int .i64 0, .string ⟨#[]⟩] := rfl
  rw [← HZ]
  have hS := OnS.start w C
  clear HZ
  generalize (w.alloc (.cells (idVals C) 23)).alloc (.cells zF 37) = W at *
  go_upto_region 4 with (first
    | (with_reducible refine wpList_build_byM rfl _ _ rfl _ _ b2 (by with_unfolding_all rfl) ?_)
    | (go_at_call 42; (with_reducible refine (cT _).mono ?_); rintro o3 w3 ⟨rfl, _, hb3⟩)
    | (with_reducible refine wpList_store_new rfl 89 _ _ rfl #[.string (txt T), .int .i64 2, .int .i64 e] rfl rfl infoR3 rfl (by simp [Value.oneCell']) ?_))
  replace hS := hS.below hb3
  have hal := (Below.refl w3.heap.size w3).alloc (Nat.le_refl _) (.cells #[.string (txt T), .int .i64 2, .int .i64 e] 89)
  have bx := Blk.new w3 89 #[.string (txt T), .int .i64 2, .int .i64 e]
  replace hS := hS.below hal
  have c1 := bx.cell_ (i := 1) rfl
  have c2 := bx.cell_ (i := 2) rfl
  have hbr := hS.br
  have hb := hS.hb
  clear hS hal bx hb3 cT b2 i0 i1
  go_wp2_with (first
    | (with_reducible refine wpList_build_byM rfl _ _ rfl _ _ bz (by with_unfolding_all rfl) ?_)
    | (with_reducible refine wpList_store_blk rfl 37 _ _ rfl (w.heap.size + 1) _ zF 37 hbr rfl rfl hIf ?c1 hzF ?_))
  case c1 => rfl
  intro w9 hb9 hg9
  go_wp2
  exact bodyPost_ret (results_cellt rfl _ _ _ _ _ _ rfl hb9 Try.underlying37 rfl hIf) rfl (OnQ.no HNO.out ⟨rfl, hb.grown hg9 hb.size (by intro i e; cases e; omega)⟩)
set_option maxRecDepth 100000 in
set_option maxHeartbeats 8000000 in
theorem one_seal (k : UInt8) (rest C t : List UInt8) (n : Nat) (hT : (74 :: k :: rest).length ≤ 5000) (hC : C.length = 32) (hk : k ≠ 0) (ht : textR 4194304 rest = .ok (t, n)) (h8 : ¬ n + 8 ≤ rest.length) (w : World) :
    Calls Try.prog 29 #[.string (txt (74 :: k :: rest)), .agg (idVals C)] w (OnQ (74 :: k :: rest) C w) := by
  have hnl := (textR_once ht).1
  have HNO := hid (show frR (74 :: k :: rest) C 0 = none by
    cases hf : frR (74 :: k :: rest) C 0 with
    | none => rfl
    | some p =>
      obtain ⟨X, b⟩ := p
      obtain ⟨r, h, h2, h3, h4⟩ := fr_inv hT hf
      injection h with q1 q2
      injection q2 with q3 q4
      rw [← q4, ht] at h3
      injection h3 with h3
      injection h3 with q5 q6
      rw [← q4, ← q6] at h4
      have hl := congrArg List.length h4
      rw [List.length_take, List.length_take, List.length_drop, nxtB_length] at hl
      exfalso
      have : min 8 32 = 8 := rfl
      omega)
  have i0 := fun W => run_index_txt (74 :: k :: rest) 0 74 rfl 0 rfl W
  have i1 := fun W => run_index_txt (74 :: k :: rest) 1 k rfl 1 rfl W
  have e74 : ib 74 = 74 := rfl
  rw [e74] at i0
  have hl2 : 2 ≤ (74 :: k :: rest).length := by simp
  have hd2 : (74 :: k :: rest).drop 2 = rest := rfl
  have hlr : (74 :: k :: rest).length = rest.length + 2 := rfl
  have cT := fun W => rGetText_any (74 :: k :: rest) 2 4194304 (by omega) hl2 W
  rw [hd2, ht] at cT
  generalize (74 :: k :: rest) = T at *
  obtain ⟨A, hA⟩ : ∃ A : Nat, A = 2 + n := ⟨_, rfl⟩
  replace cT : ∀ W, Calls Try.prog 42 #[.agg #[.string (txt T), .int .i64 2, .int .i64 0], .int .i64 4194304] W fun o w' => o = .returned (.tuple #[.agg #[.string (txt T), .int .i64 (A : Int), .int .i64 0], .string (txt t)]) ∧ Below W.heap.size W w' := by rw [hA]; exact cT
  have z1 : ¬ ((T.length : Int) < 2) := by omega
  have hk0 : ¬ (ib k = 0) := fun h => hk (by
    have e : ib k = (k.toNat : Int) := rfl
    exact UInt8.toNat_inj.1 (by have : k.toNat = 0 := by omega
                                simpa using this))
  have b2 : ∀ W, (Instr.build 89 #[(0, .string (txt T)), (1, .int .i64 2)]).run Try.prog W = .ok (.agg #[.string (txt T), .int .i64 2, .int .i64 0]) W := fun W => by kernel_rfl
  have z5 : (T.length : Int) - (A : Int) < 8 := js_lt A T.length (by omega)
  have z6 : wrap64 ((T.length : Int) - (A : Int)) = (T.length : Int) - (A : Int) := js_w1 _ _ (by omega) (by omega)
  have hIf : (Try.prog.info? 37).map (·.size) = some zF.size := Fr_infoN
  have hzF : zF.all (·.oneCell') = true := by unfold zF; simp [Value.oneCell']
  have bz : ∀ W, (Instr.build 37 #[]).run Try.prog W = .ok (.agg zF) W := fun W => by kernel_rfl
  clear hk ht hd2 hl2 hlr hnl h8 hA
  go_enter Try.func29, Try.ntmps29
  go_upto_region 1 with (fail)
  have HZ : zF = #[.int .i64 0, .string ⟨#[]⟩] := rfl
  rw [← HZ]
  have hS := OnS.start w C
  clear HZ
  generalize (w.alloc (.cells (idVals C) 23)).alloc (.cells zF 37) = W at *
  go_upto_region 4 with (first
    | (with_reducible refine wpList_build_byM rfl _ _ rfl _ _ b2 (by with_unfolding_all rfl) ?_)
    | (go_at_call 42; (with_reducible refine (cT _).mono ?_); rintro o3 w3 ⟨rfl, hb3⟩)
    | (with_reducible refine wpList_store_new rfl 89 _ _ rfl #[.string (txt T), .int .i64 (A : Int), .int .i64 0] rfl rfl infoR3 rfl (by simp [Value.oneCell']) ?_))
  replace hS := hS.below hb3
  have hal := (Below.refl w3.heap.size w3).alloc (Nat.le_refl _) (.cells #[.string (txt T), .int .i64 (A : Int), .int .i64 0] 89)
  have bx := Blk.new w3 89 #[.string (txt T), .int .i64 (A : Int), .int .i64 0]
  replace hS := hS.below hal
  have c1 := bx.cell_ (i := 1) rfl
  have c2 := bx.cell_ (i := 2) rfl
  have hbr := hS.br
  have hb := hS.hb
  clear hS hal bx hb3 cT b2 i0 i1
  go_wp2_with (first
    | (with_reducible refine wpList_build_byM rfl _ _ rfl _ _ bz (by with_unfolding_all rfl) ?_)
    | (with_reducible refine wpList_store_blk rfl 37 _ _ rfl (w.heap.size + 1) _ zF 37 hbr rfl rfl hIf ?c1 hzF ?_))
  case c1 => rfl
  intro w9 hb9 hg9
  go_wp2
  exact bodyPost_ret (results_cellt rfl _ _ _ _ _ _ rfl hb9 Try.underlying37 rfl hIf) rfl (OnQ.no HNO.out ⟨rfl, hb.grown hg9 hb.size (by intro i e; cases e; omega)⟩)
end Go.Proofs.Ytfckbonblfcmnaa
/- journal: the frame with which a text begins, of the document: where the seal is compared. -/
set_option linter.unusedSimpArgs false
set_option linter.unusedVariables false
namespace Go.Proofs.Ytfckbonblfcmnaa
open Go.RowKit Go.Qc Go.Shelf
attribute [local go_sem] txt_size txt_append ib_fold
set_option maxRecDepth 100000 in
set_option maxHeartbeats 8000000 in
theorem one_whole (k : UInt8) (rest C t : List UInt8) (n : Nat) (hT : (74 :: k :: rest).length ≤ 5000) (hC : C.length = 32) (hk : k ≠ 0) (ht : textR 4194304 rest = .ok (t, n)) (h8 : n + 8 ≤ rest.length) (w : World) :
    Calls Try.prog 29 #[.string (txt (74 :: k :: rest)), .agg (idVals C)] w (OnQ (74 :: k :: rest) C w) := by
  obtain ⟨hnl, hr⟩ := textR_once ht
  have hlr : (74 :: k :: rest).length = rest.length + 2 := rfl
  have htl : t.length ≤ 5000 := by
    have hl := congrArg List.length hr
    rw [List.length_append, textE, List.length_append] at hl
    omega
  have hk2 : k.toNat ≠ 0 := fun e => hk (UInt8.toNat_inj.1 (by simpa using e))
  have hk3 := k.toNat_lt
  have hok : (⟨ib k, t⟩ : FmD).okF := by
    have ei : ib k = (k.toNat : Int) := rfl
    unfold FmD.okF; simp only; omega
  have hYES := fun hn => fr_yes (C := C) hT rfl hk ht h8 hn
  have hNO : (rest.drop n).take 8 ≠ (nxtB C ⟨ib k, t⟩).take 8 → frR (74 :: k :: rest) C 0 = none := fun hne => by
    cases hf : frR (74 :: k :: rest) C 0 with
    | none => rfl
    | some p =>
      obtain ⟨X, b⟩ := p
      obtain ⟨r, h, h2, h3, h4⟩ := fr_inv hT hf
      have hXk := kB_nat (frR_some hf (Nat.zero_le _)).2.2.1
      injection h with q1 q2
      injection q2 with q3 q4
      rw [← q4, ht] at h3
      injection h3 with h3
      injection h3 with q5 q6
      rw [← q4, ← q6] at h4
      exfalso
      apply hne
      rw [h4]
      have eX : (⟨ib k, t⟩ : FmD) = X := by
        obtain ⟨Xk, Xp⟩ := X
        simp only at q5 hXk
        rw [← q3] at hXk
        rw [q5]
        have ei : ib k = (k.toNat : Int) := rfl
        rw [ei, hXk]
      rw [eX]
  have i0 := fun W => run_index_txt (74 :: k :: rest) 0 74 rfl 0 rfl W
  have i1 := fun W => run_index_txt (74 :: k :: rest) 1 k rfl 1 rfl W
  have e74 : ib 74 = 74 := rfl
  rw [e74] at i0
  have hl2 : 2 ≤ (74 :: k :: rest).length := by simp
  have hd2 : (74 :: k :: rest).drop 2 = rest := rfl
  have cT := fun W => rGetText_any (74 :: k :: rest) 2 4194304 (by omega) hl2 W
  rw [hd2, ht] at cT
  have hE8 : (txt (74 :: k :: rest)).extract (2 + n) (2 + n + 8) = txt ((rest.drop n).take 8) := by
    rw [txt_extract, show 2 + n + 8 - (2 + n) = 8 by omega, show 2 + n = n + 2 by omega]
    rfl
  obtain ⟨X, hX⟩ : ∃ X : FmD, X = ⟨ib k, t⟩ := ⟨_, rfl⟩
  have cN : ∀ W, Calls Try.prog 10 #[.agg (List.map u8v C).toArray, .agg X.cs] W fun e w' => e = .returned (.agg (idVals (nxtB C X))) ∧ Below W.heap.size W w' := fun W => rnext_yes C hC X (by rw [hX]; exact hok) (by rw [hX]; exact htl) W
  have hXc : (#[.int .i64 (ib k), .string (txt t)] : Array Value) = X.cs := by rw [hX]; rfl
  rw [← hX] at hYES hNO
  have hSl := nxtB_length C X
  generalize nxtB C X = S at *
  have cB : ∀ W, Calls Try.prog 22 #[.agg (idVals S)] W fun e w' => e = .returned (.string (txt S)) ∧ Below W.heap.size W w' := fun W => rid_any S hSl W
  have hS8 := txt_to8 S
  have zS8 : (8 : Int) ≤ (S.length : Int) := by omega
  generalize S.take 8 = S8 at *
  generalize (rest.drop n).take 8 = E8 at *
  have HYES := hid hYES
  have HNOH := hid hNO
  generalize (74 :: k :: rest) = T at *
  obtain ⟨A, hA⟩ : ∃ A : Nat, A = 2 + n := ⟨_, rfl⟩
  obtain ⟨B, hB⟩ : ∃ B : Nat, B = A + 8 := ⟨_, rfl⟩
  replace cT : ∀ W, Calls Try.prog 42 #[.agg #[.string (txt T), .int .i64 2, .int .i64 0], .int .i64 4194304] W fun o w' => o = .returned (.tuple #[.agg #[.string (txt T), .int .i64 (A : Int), .int .i64 0], .string (txt t)]) ∧ Below W.heap.size W w' := by rw [hA]; exact cT
  rw [← hA] at hE8
  rw [← hB] at hE8
  have z1 : ¬ ((T.length : Int) < 2) := by omega
  have hk0 : ¬ (ib k = 0) := fun h => hk (by
    have e : ib k = (k.toNat : Int) := rfl
    exact UInt8.toNat_inj.1 (by have : k.toNat = 0 := by omega
                                simpa using this))
  have b2 : ∀ W, (Instr.build 89 #[(0, .string (txt T)), (1, .int .i64 2)]).run Try.prog W = .ok (.agg #[.string (txt T), .int .i64 2, .int .i64 0]) W := fun W => by kernel_rfl
  have hA5 : A ≤ 10000 := by omega
  have hBT : B ≤ T.length := by omega
  have HB := hid (show B = 2 + n + 8 by omega)
  obtain ⟨s1, s2, s3, s4, z5⟩ := js_s A B T.length hB hBT
  have z6 := js_w1 T.length A (by omega) hA5
  have v2 := js_w2 A B hA5 hB
  have v3 := js_w3 A B hA5 hB
  have z1 : ¬ ((T.length : Int) < 2) := by omega
  have hwb := ib_wrap64 k
  have hwc := js_wk k
  have hu := Try.underlying23
  have huR := Try.underlying37
  have hLc : (Try.prog.info? 23).map (·.size) = some (C.map u8v).length := by rw [List.length_map, hC]; exact sizeId
  have hLf : (Try.prog.info? 37).map (·.size) = some X.cs.toList.length := by rw [Fr_info X rfl, Array.length_toList]
  have bF : ∀ W, (Instr.build 37 #[(0, .int .i64 (ib k)), (1, .string (txt t))]).run Try.prog W = .ok (.agg X.cs) W := fun W => by rw [← hXc]; kernel_rfl
  have hIf : (Try.prog.info? 37).map (·.size) = some zF.size := Fr_infoN
  have hzF : zF.all (·.oneCell') = true := by unfold zF; simp [Value.oneCell']
  have bz : ∀ W, (Instr.build 37 #[]).run Try.prog W = .ok (.agg zF) W := fun W => by kernel_rfl
  clear hk ht hd2 hl2 hlr hnl h8 hr htl hk2 hk3 hok hYES hNO hSl hX hXc hA hB hT hA5 hBT
  go_enter Try.func29, Try.ntmps29
  go_upto_region 1 with (fail)
  have HZ : zF = #[.int .i64 0, .string ⟨#[]⟩] := rfl
  rw [← HZ]
  have hS := OnS.start w C
  clear HZ
  generalize (w.alloc (.cells (idVals C) 23)).alloc (.cells zF 37) = W at *
  go_upto_region 4 with (first
    | (with_reducible refine wpList_build_byM rfl _ _ rfl _ _ b2 (by with_unfolding_all rfl) ?_)
    | (go_at_call 42; (with_reducible refine (cT _).mono ?_); rintro o3 w3 ⟨rfl, hb3⟩)
    | (with_reducible refine wpList_store_new rfl 89 _ _ rfl #[.string (txt T), .int .i64 (A : Int), .int .i64 0] rfl rfl infoR3 rfl (by simp [Value.oneCell']) ?_))
  have hS0lt := hid hS.br.lt
  replace hS := hS.below hb3
  have hal := (Below.refl w3.heap.size w3).alloc (Nat.le_refl _) (.cells #[.string (txt T), .int .i64 (A : Int), .int .i64 0] 89)
  have bx := Blk.new w3 89 #[.string (txt T), .int .i64 (A : Int), .int .i64 0]
  replace hS := hS.below hal
  obtain ⟨g6, hg6⟩ : ∃ g6, w3.heap.size = g6 := ⟨_, rfl⟩
  have HLT6 := hid (show w.heap.size + 1 < g6 by have := hS0lt.out; have := hb3.size; omega)
  rw [hg6] at bx ⊢
  generalize w3.alloc (.cells #[.string (txt T), .int .i64 (A : Int), .int .i64 0] 89) = w4 at *
  clear hal hb3 cT b2 hg6
  have c1 := bx.cell_ (i := 1) rfl
  have c2 := bx.cell_ (i := 2) rfl
  go_upto_region 7 with (first
    | (with_reducible refine wpList_build_byM rfl _ _ rfl _ _ bF (by with_unfolding_all rfl) ?_)
    | (with_reducible refine wpList_store_frn rfl _ _ rfl rfl rfl (FmD.all_ok [X] X (by simp)) rfl ?_))
  have hal := (Below.refl w4.heap.size w4).alloc (Nat.le_refl _) (.cells X.cs 37)
  have bf := Blk.new w4 37 X.cs
  replace hS := hS.below hal
  have bx4lt := hid bx.lt
  replace bx := bx.below hal
  obtain ⟨g8, hg8⟩ : ∃ g8, w4.heap.size = g8 := ⟨_, rfl⟩
  have HLT8 := hid (show w.heap.size + 1 < g8 by have := HLT6.out; have := bx4lt.out; omega)
  rw [hg8] at bf ⊢
  generalize w4.alloc (.cells X.cs 37) = w5 at *
  clear hal c1 c2 i0 i1 bF hg8
  have f61 : ∀ P : LaterW w5, P.w.cell? ⟨g6, 1, none⟩ = some (.int .i64 (A : Int)) := fun P => (bx.below P.h).cell_ (i := 1) rfl
  have r1 := range_later (range_blk hS.bc)
  have r2 := range_later (blk_range bf)
  obtain ⟨q, hq⟩ : ∃ q, decide (E8 = S8) = q := ⟨_, rfl⟩
  have hne : ((txt E8).toList == (txt S8).toList) = q := by
    rw [txt_toL, txt_toL, ← hq, Bool.eq_iff_iff]
    simp
  have HQ := hid hq
  clear hq
  refine wp_region_later mixedJ (by kernel_rfl) ?_
  repeat (first
    | ((with_reducible refine wpQuiet_skip (by with_unfolding_all rfl) ?_); simp only [Act.put, List.setIfInBounds_toArray, List.set_cons_zero, List.set_cons_succ])
    | ((with_reducible refine wpQuiet_load_if (by with_unfolding_all rfl) 23 _ rfl _ _ rfl (C.map u8v) _ r1 hu (by with_unfolding_all rfl) hLc ?_); simp only [Act.put, List.setIfInBounds_toArray, List.set_cons_zero, List.set_cons_succ])
    | ((with_reducible refine wpQuiet_load_if (by with_unfolding_all rfl) 37 _ rfl _ _ rfl X.cs.toList _ r2 huR (by with_unfolding_all rfl) hLf ?_); simp only [Act.put, List.setIfInBounds_toArray, List.set_cons_zero, List.set_cons_succ])
    | ((with_reducible refine wpQuiet_step (fun K hK => ?_)); go_simp; first | ((with_reducible refine hK _ ?_); clear hK K) | (with_reducible apply Exists.intro; (with_reducible refine ⟨fun _ => ?_, hK _ ?_⟩); ((first | (go_at_call 10; exact later_of (cN _)) | (go_at_call 22; exact later_of (cB _)))); clear hK K)))
  with_reducible refine wpQuiet_nil ?_
  intro _ hw'
  obtain ⟨p9, rfl⟩ := hw'
  have hp9 := p9.h
  generalize p9.w = w6 at *
  replace hS := hS.below hp9
  replace bx := bx.below hp9
  replace bf := bf.below hp9
  clear r1 r2 f61 hp9 cN cB
  cases q with
  | false =>
    have HNO := hid (HNOH.out (of_decide_eq_false HQ.out))
    have hbr := hS.br
    have hb := hS.hb
    clear hS bx bf
    go_wp2_with (first
      | (with_reducible refine wpList_build_byM rfl _ _ rfl _ _ bz (by with_unfolding_all rfl) ?_)
      | (with_reducible refine wpList_store_blk rfl 37 _ _ rfl (w.heap.size + 1) _ zF 37 hbr rfl rfl hIf ?c1 hzF ?_))
    case c1 => rfl
    intro w9 hb9 hg9
    go_wp2
    exact bodyPost_ret (results_cellt rfl _ _ _ _ _ _ rfl hb9 Try.underlying37 rfl hIf) rfl (OnQ.no HNO.out ⟨rfl, hb.grown hg9 hb.size (by intro i e; cases e; omega)⟩)
  | true =>
    have HY := hid (HYES.out (of_decide_eq_true HQ.out))
    have hH : OnH w g8 g6 X #[.string (txt T), .int .i64 (A : Int), .int .i64 0] w6 := ⟨bf, bx, ⟨zF, rfl, hS.br⟩, hS.hb⟩
    clear hS bx bf hne HNOH HYES
    go_upto_region 9 with (fail)
    refine wp_region_held_drew (S := OnH w g8 g6 X #[.string (txt T), .int .i64 (A : Int), .int .i64 0]) (by kernel_rfl) (hH.below (below_drew1 _)) (fun hHeld => ?_)
    clear hH
    generalize w6.drew = V at *
    refine' wpAnyH_take (i := 0) (v := .agg X.cs) rfl (by kernel_rfl) (by kernel_rfl) (by kernel_rfl) (fun _ _ _ h => h) (yields_fr (by rfl) _ rfl g8 0 rfl X (FmD.all_ok [X] X (by simp)) (fun w' hw' => blk_range hw'.f)) hHeld ?_
    try simp only [Act.put, List.getElem_toArray, List.getElem_cons_succ, List.getElem_cons_zero, List.setIfInBounds_toArray, List.set_cons_zero, List.set_cons_succ]
    refine' wpAnyH_take (i := 1) (v := .pointer (some ⟨g6, 1, none⟩)) rfl (by kernel_rfl) (by kernel_rfl) (by kernel_rfl) (fun _ _ _ h => h) (Or.inl ⟨by rfl, fun w' hw' => by go_simp⟩) hHeld ?_
    try simp only [Act.put, List.getElem_toArray, List.getElem_cons_succ, List.getElem_cons_zero, List.setIfInBounds_toArray, List.set_cons_zero, List.set_cons_succ]
    refine' wpAnyH_take (i := 2) (v := .int .i64 (A : Int)) rfl (by kernel_rfl) (by kernel_rfl) (by kernel_rfl) (fun _ _ _ h => h) (Or.inl ⟨by rfl, fun w' hw' => by have c1 := hw'.r.cell_ (i := 1) rfl; go_simp⟩) hHeld ?_
    try simp only [Act.put, List.getElem_toArray, List.getElem_cons_succ, List.getElem_cons_zero, List.setIfInBounds_toArray, List.set_cons_zero, List.set_cons_succ]
    refine' wpAnyH_take (i := 3) (v := .int .i64 (B : Int)) rfl (by kernel_rfl) (by kernel_rfl) (by kernel_rfl) (fun _ _ _ h => h) (Or.inl ⟨by rfl, fun w' hw' => by go_simp⟩) hHeld ?_
    try simp only [Act.put, List.getElem_toArray, List.getElem_cons_succ, List.getElem_cons_zero, List.setIfInBounds_toArray, List.set_cons_zero, List.set_cons_succ]
    refine wpAnyH_ready (rs := [4]) (by kernel_rfl) (by simp) ?_
    refine AllReadyH.cons rfl (fun K hK => ?_) AllReadyH.nil
    obtain ⟨cs9, hc9, hz9⟩ := hHeld.z
    refine wp_store_blk 37 _ _ rfl (w.heap.size + 1) _ X.cs 37 hz9 rfl rfl (Fr_info X rfl) (hc9.trans (FmD.size (X := X) rfl).symm) X.one ?_
    intro w8 hb8 hg8
    refine hK.out _ _ ⟨(hg8.block _ hHeld.f.lt (by intro e; have := Option.some.inj e; have := HLT8.out; omega)).trans hHeld.f, (hg8.block _ hHeld.r.lt (by intro e; have := Option.some.inj e; have := HLT6.out; omega)).trans hHeld.r, ⟨_, FmD.size (X := X) rfl, hb8⟩, hHeld.hb.grown hg8 hHeld.hb.size (by intro i e; cases e; omega)⟩ (fun hHeld => ?_)
    clear hK K
    try simp only [Act.put, List.getElem_toArray, List.getElem_cons_succ, List.getElem_cons_zero, List.setIfInBounds_toArray, List.set_cons_zero, List.set_cons_succ]
    refine wpAnyH_ready (rs := [5]) (by kernel_rfl) (by simp) ?_
    refine AllReadyH.cons rfl (fun K hK => ?_) AllReadyH.nil
    go_simp
    refine hK.out _ _ hHeld (fun hHeld => ?_)
    clear hK K
    try simp only [Act.put, List.getElem_toArray, List.getElem_cons_succ, List.getElem_cons_zero, List.setIfInBounds_toArray, List.set_cons_zero, List.set_cons_succ]
    refine wpAnyH_done (by kernel_rfl) ?_ _
    go_wp2
    exact bodyPost_ret (results_cellt rfl _ _ _ _ _ _ rfl hb8 Try.underlying37 rfl (Fr_info X rfl)) rfl (OnQ.yes HY.out ⟨by rw [HB.out]; rfl, hHeld.hb⟩)
/-- The frame with which a text begins. -/
theorem rone25_any (T C : List UInt8) (hT : T.length ≤ 5000) (hC : C.length = 32) (w : World) :
    Calls Try.prog 29 #[.string (txt T), .agg (idVals C)] w (OnQ T C w) := by
  rcases T with _ | ⟨x, _ | ⟨k, rest⟩⟩
  · exact one_short [] C hT hC (by decide) w
  · exact one_short [x] C hT hC (by simp) w
  ·
    by_cases hx : x = 74 ∧ k ≠ 0
    · obtain ⟨rfl, hk⟩ := hx
      cases ht : textR 4194304 rest with
      | error e => exact one_text k rest C e hT hC hk ht w
      | ok p =>
        obtain ⟨t, n⟩ := p
        by_cases h8 : n + 8 ≤ rest.length
        · exact one_whole k rest C t n hT hC hk ht h8 w
        · exact one_seal k rest C t n hT hC hk ht h8 w
    · exact one_head x k rest C hT hC hx w
end Go.Proofs.Ytfckbonblfcmnaa

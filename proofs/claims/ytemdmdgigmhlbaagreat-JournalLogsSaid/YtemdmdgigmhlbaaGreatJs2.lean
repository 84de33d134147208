
/- journal: the frame with which a text begins, of the document. -/
import Derived.Test.YtemdmdgigmhlbaaGreatJs1
set_option linter.unusedSimpArgs false
set_option linter.unusedVariables false
namespace Go.Proofs.YtemdmdgigmhlbaaGreat
open Go.RowKit Go.Qc Go.Shelf
/-- A frame is read just if its bytes stand there. -/
theorem frR_iff {s C : List UInt8} {a b : Nat} {X : FmD} (hs : s.length ≤ 5000) (ha : a ≤ s.length) : frR s C a = some (X, b) ↔ X.okF ∧ ∃ r, s.drop a = frB C X ++ r ∧ b = a + (frB C X).length := by
  constructor
  · intro h
    obtain ⟨g1, g2, g3, g4⟩ := frR_some h ha
    have hb := frR_bytes h
    have hl := congrArg List.length hb
    rw [List.length_append, List.length_drop, List.length_drop] at hl
    exact ⟨g3, _, hb, by omega⟩
  · rintro ⟨h1, r, h2, rfl⟩
    have hl := congrArg List.length h2
    have : X.p.length ≤ (frB C X).length := by simp [frB, textE]; omega
    rw [List.length_append, List.length_drop] at hl
    exact frR_back h1 (by omega) h2
theorem frR_drop {s C : List UInt8} {a b : Nat} {X : FmD} (hs : s.length ≤ 5000) (ha : a ≤ s.length) : frR (s.drop a) C 0 = some (X, b) ↔ frR s C a = some (X, a + b) := by
  rw [frR_iff (by rw [List.length_drop]; omega) (Nat.zero_le _), frR_iff hs ha, List.drop_zero]
  constructor
  · rintro ⟨h1, r, h2, h3⟩; exact ⟨h1, r, h2, by omega⟩
  · rintro ⟨h1, r, h2, h3⟩; exact ⟨h1, r, h2, by omega⟩
theorem frR_drop_none {s C : List UInt8} {a : Nat} (hs : s.length ≤ 5000) (ha : a ≤ s.length) (h : frR s C a = none) : frR (s.drop a) C 0 = none := by
  cases hf : frR (s.drop a) C 0 with
  | none => rfl
  | some p => obtain ⟨X, b⟩ := p; rw [(frR_drop hs ha).1 hf] at h; cases h
theorem kB_ne {X : FmD} (h : X.okF) : kB X ≠ 0 := by
  intro e
  have := kB_nat h
  rw [e] at this
  unfold FmD.okF at h
  simp at this
  omega
/-- What a frame that is read says of the text. -/
theorem fr_inv {T C : List UInt8} {b : Nat} {X : FmD} (hT : T.length ≤ 5000) (h : frR T C 0 = some (X, b)) :
    ∃ rest, T = 74 :: kB X :: rest ∧ kB X ≠ 0 ∧ textR 4194304 rest = .ok (X.p, (textE X.p).length) ∧ (rest.drop (textE X.p).length).take 8 = (nxtB C X).take 8 := by
  obtain ⟨h1, r, h2, h3⟩ := (frR_iff hT (Nat.zero_le _)).1 h
  have hl := congrArg List.length h2
  have hp : X.p.length ≤ (frB C X).length := by simp [frB, textE]; omega
  rw [List.drop_zero] at h2
  rw [List.length_append, List.drop_zero] at hl
  refine ⟨textE X.p ++ ((nxtB C X).take 8 ++ r), by rw [h2]; simp [frB], kB_ne h1, textR_back 4194304 X.p (by omega) (by omega) _, ?_⟩
  rw [List.drop_left]
  have : ((nxtB C X).take 8).length = 8 := by rw [List.length_take, nxtB_length]; rfl
  rw [List.take_append_of_le_length (by omega), List.take_of_length_le (by omega)]
theorem fr_yes {T C rest t : List UInt8} {k : UInt8} {n : Nat} (hT : T.length ≤ 5000) (h1 : T = 74 :: k :: rest) (hk : k ≠ 0) (ht : textR 4194304 rest = .ok (t, n)) (h8 : n + 8 ≤ rest.length) (hn : (rest.drop n).take 8 = (nxtB C ⟨ib k, t⟩).take 8) :
    frR T C 0 = some (⟨ib k, t⟩, 2 + n + 8) := by
  obtain ⟨hnl, hr⟩ := textR_once ht
  have hl := congrArg List.length hr
  rw [List.length_append, List.length_drop] at hl
  have hne : (textE t).length = n := by omega
  have hk2 : k.toNat ≠ 0 := fun e => hk (UInt8.toNat_inj.1 (by simpa using e))
  have hk3 := k.toNat_lt
  have ei : ib k = (k.toNat : Int) := rfl
  have hok : (⟨ib k, t⟩ : FmD).okF := by unfold FmD.okF; simp only; omega
  have hkB : kB ⟨ib k, t⟩ = k := by
    have := kB_nat hok
    apply UInt8.toNat_inj.1
    have e2 : (⟨ib k, t⟩ : FmD).k = (k.toNat : Int) := rfl
    omega
  have hfl : (frB C ⟨ib k, t⟩).length = 2 + n + 8 := by
    simp only [frB, List.length_cons, List.length_append, List.length_take, nxtB_length]
    have : (textE (⟨ib k, t⟩ : FmD).p).length = n := hne
    omega
  refine (frR_iff hT (Nat.zero_le _)).2 ⟨hok, rest.drop (n + 8), ?_, by omega⟩
  rw [List.drop_zero, h1]
  unfold frB
  rw [hkB, ← hn]
  simp only [List.cons_append, List.append_assoc]
  congr 2
  rw [← List.drop_drop, List.take_append_drop]
  exact hr
theorem js_w1 (L A : Nat) (h : L ≤ 10000) (g : A ≤ 10000) : wrap64 ((L : Int) - (A : Int)) = (L : Int) - (A : Int) := by unfold wrap64; omega
theorem js_w2 (A B : Nat) (h : A ≤ 10000) (hB : B = A + 8) : wrap64 ((A : Int) + 8) = (B : Int) := by unfold wrap64; omega
theorem js_w3 (A B : Nat) (h : A ≤ 10000) (hB : B = A + 8) : IntKind.i64.wrap ((A : Int) + 8) = (B : Int) := by rw [IntKind.wrap_i64]; omega
theorem js_wk (k : UInt8) : IntKind.i64.wrap (ib k) = ib k := by
  have h1 := k.toNat_lt
  have h2 : ib k = (k.toNat : Int) := rfl
  rw [IntKind.wrap_i64]
  omega
theorem js_s (A B L : Nat) (hB : B = A + 8) (h : B ≤ L) : (0 : Int) ≤ (A : Int) ∧ (A : Int) ≤ (B : Int) ∧ (B : Int) ≤ (L : Int) ∧ (0 : Int) ≤ (B : Int) ∧ ¬ ((L : Int) - (A : Int) < 8) := by omega
theorem js_lt (A L : Nat) (h : L < A + 8) : (L : Int) - (A : Int) < 8 := by omega
/-- What one answers. -/
def OnQ (T C : List UInt8) (w : World) (o : Ending) (w' : World) : Prop := match frR T C 0 with
  | some (X, b) => o = .returned (.tuple #[.agg X.cs, .int .i64 (b : Int)]) ∧ Below w.heap.size w w'
  | none => o = .returned (.tuple #[.agg zF, .int .i64 0]) ∧ Below w.heap.size w w'
theorem OnQ.no {T C : List UInt8} {w w' : World} {o : Ending} (h : frR T C 0 = none) (h2 : o = .returned (.tuple #[.agg zF, .int .i64 0]) ∧ Below w.heap.size w w') : OnQ T C w o w' := by unfold OnQ; rw [h]; exact h2
theorem OnQ.yes {T C : List UInt8} {X : FmD} {b : Nat} {w w' : World} {o : Ending} (h : frR T C 0 = some (X, b)) (h2 : o = .returned (.tuple #[.agg X.cs, .int .i64 (b : Int)]) ∧ Below w.heap.size w w') : OnQ T C w o w' := by unfold OnQ; rw [h]; exact h2
/-- The chain's box and the answer's. -/
structure OnS (w : World) (C : List UInt8) (W : World) : Prop where
  bc : Blk W w.heap.size 42 (idVals C)
  br : Blk W (w.heap.size + 1) 36 zF
  hb : Below w.heap.size w W
theorem OnS.start (w : World) (C : List UInt8) : OnS w C ((w.alloc (.cells (idVals C) 42)).alloc (.cells zF 36)) := by
  have h1 : (w.alloc (.cells (idVals C) 42)).heap.size = w.heap.size + 1 := by simp
  have b1 := Blk.new (w.alloc (.cells (idVals C) 42)) 36 zF
  rw [h1] at b1
  exact ⟨(Blk.new w 42 (idVals C)).alloc _, b1, ((Below.refl _ _).alloc (Nat.le_refl _) _).alloc (by simp) _⟩
theorem OnS.below {w : World} {C : List UInt8} {W W' : World} (h : OnS w C W) (g : Below W.heap.size W W') : OnS w C W' := ⟨h.bc.below g, h.br.below g, h.hb.trans (g.mono h.hb.size)⟩
/-- The same, with the frame's box and the reader's, kept along. -/
structure OnH (w : World) (g8 g6 : Nat) (X : FmD) (rs : Array Value) (W : World) : Prop where
  f : Blk W g8 36 X.cs
  r : Blk W g6 96 rs
  z : ∃ cs, cs.size = 2 ∧ Blk W (w.heap.size + 1) 36 cs
  hb : Below w.heap.size w W
theorem OnH.below {w : World} {g8 g6 : Nat} {X : FmD} {rs : Array Value} {W W' : World} (h : OnH w g8 g6 X rs W) (g : Below W.heap.size W W') : OnH w g8 g6 X rs W' :=
  ⟨h.f.below g, h.r.below g, h.z.elim fun cs hc => ⟨cs, hc.1, hc.2.below g⟩, h.hb.trans (g.mono h.hb.size)⟩
attribute [local go_sem] txt_size txt_append ib_fold
set_option maxRecDepth 100000 in
set_option maxHeartbeats 8000000 in
theorem one_short (T C : List UInt8) (hT : T.length ≤ 5000) (hC : C.length = 32) (h2 : T.length < 2) (w : World) :
    Calls Tryz.prog 30 #[.string (txt T), .agg (idVals C)] w (OnQ T C w) := by
  have HNO := hid (show frR T C 0 = none by
    cases hf : frR T C 0 with
    | none => rfl
    | some p => obtain ⟨X, b⟩ := p; obtain ⟨r, h, _⟩ := fr_inv hT hf; rw [h] at h2; simp only [List.length_cons] at h2; exfalso; omega)
  have z1 : (T.length : Int) < 2 := by omega
  have hIf : (Tryz.prog.info? 36).map (·.size) = some zF.size := Fr_infoN
  have hzF : zF.all (·.oneCell') = true := by unfold zF; simp [Value.oneCell']
  have bz : ∀ W, (Instr.build 36 #[]).run Tryz.prog W = .ok (.agg zF) W := fun W => by kernel_rfl
  go_enter Tryz.func30, Tryz.ntmps30
  go_upto_region 1 with (fail)
  have HZ : zF = #[.int .i64 0, .string ⟨#[]⟩] := rfl
  rw [← HZ]
  have hS := OnS.start w C
  clear HZ
  generalize (w.alloc (.cells (idVals C) 42)).alloc (.cells zF 36) = W at *
  have hbr := hS.br
  have hb := hS.hb
  clear hS
  go_wp2_with (first
    | (with_reducible refine wpList_build_byM rfl _ _ rfl _ _ bz (by with_unfolding_all rfl) ?_)
    | (with_reducible refine wpList_store_blk rfl 36 _ _ rfl (w.heap.size + 1) _ zF 36 hbr rfl rfl hIf ?c1 hzF ?_))
  case c1 => rfl
  intro w9 hb9 hg9
  go_wp2
  exact bodyPost_ret (results_cellt rfl _ _ _ _ _ _ rfl hb9 Tryz.underlying36 rfl hIf) rfl (OnQ.no HNO.out ⟨rfl, hb.grown hg9 hb.size (by intro i e; cases e; omega)⟩)
set_option maxRecDepth 100000 in
set_option maxHeartbeats 8000000 in
theorem one_head (x k : UInt8) (rest C : List UInt8) (hT : (x :: k :: rest).length ≤ 5000) (hC : C.length = 32) (hx : ¬ (x = 74 ∧ k ≠ 0)) (w : World) :
    Calls Tryz.prog 30 #[.string (txt (x :: k :: rest)), .agg (idVals C)] w (OnQ (x :: k :: rest) C w) := by
  have HNO := hid (show frR (x :: k :: rest) C 0 = none by
    cases hf : frR (x :: k :: rest) C 0 with
    | none => rfl
    | some p =>
      obtain ⟨X, b⟩ := p
      obtain ⟨r, h, h2, _⟩ := fr_inv hT hf
      injection h with q1 q2
      injection q2 with q3 q4
      exact (hx ⟨q1, by rw [q3]; exact h2⟩).elim)
  have i0 := fun W => run_index_txt (x :: k :: rest) 0 x rfl 0 rfl W
  have i1 := fun W => run_index_txt (x :: k :: rest) 1 k rfl 1 rfl W
  have hl2 : 2 ≤ (x :: k :: rest).length := by simp
  generalize (x :: k :: rest) = T at *
  have z1 : ¬ ((T.length : Int) < 2) := by omega
  have hx0 : ib x = 74 → x = 74 := fun h => by
    have e : ib x = (x.toNat : Int) := rfl
    exact UInt8.toNat_inj.1 (by have : x.toNat = 74 := by omega
                                simpa using this)
  have hk0 : k = 0 → ib k = 0 := fun h => by rw [h]; rfl
  generalize ib x = x0 at *
  generalize ib k = k0 at *
  have hIf : (Tryz.prog.info? 36).map (·.size) = some zF.size := Fr_infoN
  have hzF : zF.all (·.oneCell') = true := by unfold zF; simp [Value.oneCell']
  have bz : ∀ W, (Instr.build 36 #[]).run Tryz.prog W = .ok (.agg zF) W := fun W => by kernel_rfl
  by_cases h74 : x0 = 74
  · have hk : k0 = 0 := by
      rcases Classical.em (k = 0) with h | h
      · exact hk0 h
      · exact (hx ⟨hx0 h74, h⟩).elim
    subst h74 hk
    clear hx hx0 hk0
    go_enter Tryz.func30, Tryz.ntmps30
    go_upto_region 1 with (fail)
    have HZ : zF = #[.int .i64 0, .string ⟨#[]⟩] := rfl
    rw [← HZ]
    have hS := OnS.start w C
    clear HZ
    generalize (w.alloc (.cells (idVals C) 42)).alloc (.cells zF 36) = W at *
    have hbr := hS.br
    have hb := hS.hb
    clear hS
    go_wp2_with (first
      | (with_reducible refine wpList_build_byM rfl _ _ rfl _ _ bz (by with_unfolding_all rfl) ?_)
      | (with_reducible refine wpList_store_blk rfl 36 _ _ rfl (w.heap.size + 1) _ zF 36 hbr rfl rfl hIf ?c1 hzF ?_))
    case c1 => rfl
    intro w9 hb9 hg9
    go_wp2
    exact bodyPost_ret (results_cellt rfl _ _ _ _ _ _ rfl hb9 Tryz.underlying36 rfl hIf) rfl (OnQ.no HNO.out ⟨rfl, hb.grown hg9 hb.size (by intro i e; cases e; omega)⟩)
  · clear hx hx0 hk0
    go_enter Tryz.func30, Tryz.ntmps30
    go_upto_region 1 with (fail)
    have HZ : zF = #[.int .i64 0, .string ⟨#[]⟩] := rfl
    rw [← HZ]
    have hS := OnS.start w C
    clear HZ
    generalize (w.alloc (.cells (idVals C) 42)).alloc (.cells zF 36) = W at *
    have hbr := hS.br
    have hb := hS.hb
    clear hS
    go_wp2_with (first
      | (with_reducible refine wpList_build_byM rfl _ _ rfl _ _ bz (by with_unfolding_all rfl) ?_)
      | (with_reducible refine wpList_store_blk rfl 36 _ _ rfl (w.heap.size + 1) _ zF 36 hbr rfl rfl hIf ?c1 hzF ?_))
    case c1 => rfl
    intro w9 hb9 hg9
    go_wp2
    exact bodyPost_ret (results_cellt rfl _ _ _ _ _ _ rfl hb9 Tryz.underlying36 rfl hIf) rfl (OnQ.no HNO.out ⟨rfl, hb.grown hg9 hb.size (by intro i e; cases e; omega)⟩)
set_option maxRecDepth 100000 in
set_option maxHeartbeats 8000000 in
theorem one_text (k : UInt8) (rest C : List UInt8) (e : Int) (hT : (74 :: k :: rest).length ≤ 5000) (hC : C.length = 32) (hk : k ≠ 0) (he : textR 4194304 rest = .error e) (w : World) :
    Calls Tryz.prog 30 #[.string (txt (74 :: k :: rest)), .agg (idVals C)] w (OnQ (74 :: k :: rest) C w) := by
  have HNO := hid (show frR (74 :: k :: rest) C 0 = none by
    cases hf : frR (74 :: k :: rest) C 0 with
    | none => rfl
    | some p =>
      obtain ⟨X, b⟩ := p
      obtain ⟨r, h, h2, h3, _⟩ := fr_inv hT hf
      injection h with q1 q2
      injection q2 with q3 q4
      rw [q4, h3] at he
      cases he)
  have he0 := textR_errJ he
  have i0 := fun W => run_index_txt (74 :: k :: rest) 0 74 rfl 0 rfl W
  have i1 := fun W => run_index_txt (74 :: k :: rest) 1 k rfl 1 rfl W
  have e74 : ib 74 = 74 := rfl
  rw [e74] at i0
  have hl2 : 2 ≤ (74 :: k :: rest).length := by simp
  have hd2 : (74 :: k :: rest).drop 2 = rest := rfl
  have cT := fun W => rGetText_any (74 :: k :: rest) 2 4194304 (by omega) hl2 W
  rw [hd2, he] at cT
  generalize (74 :: k :: rest) = T at *
  replace cT : ∀ W, Calls Tryz.prog 49 #[.agg #[.string (txt T), .int .i64 2, .int .i64 0], .int .i64 4194304] W fun o w' => o = .returned (.tuple #[.agg #[.string (txt T), .int .i64 2, .int .i64 e], .string ⟨#[]⟩]) ∧ e ≠ 0 ∧ Below W.heap.size W w' := cT
  have z1 : ¬ ((T.length : Int) < 2) := by omega
  have hk0 : ¬ (ib k = 0) := fun h => hk (by
    have e : ib k = (k.toNat : Int) := rfl
    exact UInt8.toNat_inj.1 (by have : k.toNat = 0 := by omega
                                simpa using this))
  have b2 : ∀ W, (Instr.build 96 #[(0, .string (txt T)), (1, .int .i64 2)]).run Tryz.prog W = .ok (.agg #[.string (txt T), .int .i64 2, .int .i64 0]) W := fun W => by kernel_rfl
  have z5 : (e != 0) = true := by simpa using he0
  have hIf : (Tryz.prog.info? 36).map (·.size) = some zF.size := Fr_infoN
  have hzF : zF.all (·.oneCell') = true := by unfold zF; simp [Value.oneCell']
  have bz : ∀ W, (Instr.build 36 #[]).run Tryz.prog W = .ok (.agg zF) W := fun W => by kernel_rfl
  clear hk he hd2 hl2 hT
  go_enter Tryz.func30, Tryz.ntmps30
  go_upto_region 1 with (fail)
  have HZ : zF = #[.int .i64 0, .string ⟨#[]⟩] := rfl
  rw [← HZ]
  have hS := OnS.start w C
  clear HZ
  generalize (w.alloc (.cells (idVals C) 42)).alloc (.cells zF 36) = W at *
  go_upto_region 4 with (first
    | (with_reducible refine wpList_build_byM rfl _ _ rfl _ _ b2 (by with_unfolding_all rfl) ?_)
    | (go_at_call 49; (with_reducible refine (cT _).mono ?_); rintro o3 w3 ⟨rfl, _, hb3⟩)
    | (with_reducible refine wpList_store_new rfl 96 _ _ rfl #[.string (txt T), .int .i64 2, .int .i64 e] rfl rfl infoR3 rfl (by simp [Value.oneCell']) ?_))
  replace hS := hS.below hb3
  have hal := (Below.refl w3.heap.size w3).alloc (Nat.le_refl _) (.cells #[.string (txt T), .int .i64 2, .int .i64 e] 96)
  have bx := Blk.new w3 96 #[.string (txt T), .int .i64 2, .int .i64 e]
  replace hS := hS.below hal
  have c1 := bx.cell_ (i := 1) rfl
  have c2 := bx.cell_ (i := 2) rfl
  have hbr := hS.br
  have hb := hS.hb
  clear hS hal bx hb3 cT b2 i0 i1
  go_wp2_with (first
    | (with_reducible refine wpList_build_byM rfl _ _ rfl _ _ bz (by with_unfolding_all rfl) ?_)
    | (with_reducible refine wpList_store_blk rfl 36 _ _ rfl (w.heap.size + 1) _ zF 36 hbr rfl rfl hIf ?c1 hzF ?_))
  case c1 => rfl
  intro w9 hb9 hg9
  go_wp2
  exact bodyPost_ret (results_cellt rfl _ _ _ _ _ _ rfl hb9 Tryz.underlying36 rfl hIf) rfl (OnQ.no HNO.out ⟨rfl, hb.grown hg9 hb.size (by intro i e; cases e; omega)⟩)
set_option maxRecDepth 100000 in
set_option maxHeartbeats 8000000 in
theorem one_seal (k : UInt8) (rest C t : List UInt8) (n : Nat) (hT : (74 :: k :: rest).length ≤ 5000) (hC : C.length = 32) (hk : k ≠ 0) (ht : textR 4194304 rest = .ok (t, n)) (h8 : ¬ n + 8 ≤ rest.length) (w : World) :
    Calls Tryz.prog 30 #[.string (txt (74 :: k :: rest)), .agg (idVals C)] w (OnQ (74 :: k :: rest) C w) := by
  have hnl := (textR_once ht).1
  have HNO := hid (show frR (74 :: k :: rest) C 0 = none by
    cases hf : frR (74 :: k :: rest) C 0 with
    | none => rfl
    | some p =>
      obtain ⟨X, b⟩ := p
      obtain ⟨r, h, h2, h3, h4⟩ := fr_inv hT hf
      injection h with q1 q2
      injection q2 with q3 q4
      rw [← q4, ht] at h3
      injection h3 with h3
      injection h3 with q5 q6
      rw [← q4, ← q6] at h4
      have hl := congrArg List.length h4
      rw [List.length_take, List.length_take, List.length_drop, nxtB_length] at hl
      exfalso
      have : min 8 32 = 8 := rfl
      omega)
  have i0 := fun W => run_index_txt (74 :: k :: rest) 0 74 rfl 0 rfl W
  have i1 := fun W => run_index_txt (74 :: k :: rest) 1 k rfl 1 rfl W
  have e74 : ib 74 = 74 := rfl
  rw [e74] at i0
  have hl2 : 2 ≤ (74 :: k :: rest).length := by simp
  have hd2 : (74 :: k :: rest).drop 2 = rest := rfl
  have hlr : (74 :: k :: rest).length = rest.length + 2 := rfl
  have cT := fun W => rGetText_any (74 :: k :: rest) 2 4194304 (by omega) hl2 W
  rw [hd2, ht] at cT
  generalize (74 :: k :: rest) = T at *
  obtain ⟨A, hA⟩ : ∃ A : Nat, A = 2 + n := ⟨_, rfl⟩
  replace cT : ∀ W, Calls Tryz.prog 49 #[.agg #[.string (txt T), .int .i64 2, .int .i64 0], .int .i64 4194304] W fun o w' => o = .returned (.tuple #[.agg #[.string (txt T), .int .i64 (A : Int), .int .i64 0], .string (txt t)]) ∧ Below W.heap.size W w' := by rw [hA]; exact cT
  have z1 : ¬ ((T.length : Int) < 2) := by omega
  have hk0 : ¬ (ib k = 0) := fun h => hk (by
    have e : ib k = (k.toNat : Int) := rfl
    exact UInt8.toNat_inj.1 (by have : k.toNat = 0 := by omega
                                simpa using this))
  have b2 : ∀ W, (Instr.build 96 #[(0, .string (txt T)), (1, .int .i64 2)]).run Tryz.prog W = .ok (.agg #[.string (txt T), .int .i64 2, .int .i64 0]) W := fun W => by kernel_rfl
  have z5 : (T.length : Int) - (A : Int) < 8 := js_lt A T.length (by omega)
  have z6 : wrap64 ((T.length : Int) - (A : Int)) = (T.length : Int) - (A : Int) := js_w1 _ _ (by omega) (by omega)
  have hIf : (Tryz.prog.info? 36).map (·.size) = some zF.size := Fr_infoN
  have hzF : zF.all (·.oneCell') = true := by unfold zF; simp [Value.oneCell']
  have bz : ∀ W, (Instr.build 36 #[]).run Tryz.prog W = .ok (.agg zF) W := fun W => by kernel_rfl
  clear hk ht hd2 hl2 hlr hnl h8 hA
  go_enter Tryz.func30, Tryz.ntmps30
  go_upto_region 1 with (fail)
  have HZ : zF = #[.int .i64 0, .string ⟨#[]⟩] := rfl
  rw [← HZ]
  have hS := OnS.start w C
  clear HZ
  generalize (w.alloc (.cells (idVals C) 42)).alloc (.cells zF 36) = W at *
  go_upto_region 4 with (first
    | (with_reducible refine wpList_build_byM rfl _ _ rfl _ _ b2 (by with_unfolding_all rfl) ?_)
    | (go_at_call 49; (with_reducible refine (cT _).mono ?_); rintro o3 w3 ⟨rfl, hb3⟩)
    | (with_reducible refine wpList_store_new rfl 96 _ _ rfl #[.string (txt T), .int .i64 (A : Int), .int .i64 0] rfl rfl infoR3 rfl (by simp [Value.oneCell']) ?_))
  replace hS := hS.below hb3
  have hal := (Below.refl w3.heap.size w3).alloc (Nat.le_refl _) (.cells #[.string (txt T), .int .i64 (A : Int), .int .i64 0] 96)
  have bx := Blk.new w3 96 #[.string (txt T), .int .i64 (A : Int), .int .i64 0]
  replace hS := hS.below hal
  have c1 := bx.cell_ (i := 1) rfl
  have c2 := bx.cell_ (i := 2) rfl
  have hbr := hS.br
  have hb := hS.hb
  clear hS hal bx hb3 cT b2 i0 i1
  go_wp2_with (first
    | (with_reducible refine wpList_build_byM rfl _ _ rfl _ _ bz (by with_unfolding_all rfl) ?_)
    | (with_reducible refine wpList_store_blk rfl 36 _ _ rfl (w.heap.size + 1) _ zF 36 hbr rfl rfl hIf ?c1 hzF ?_))
  case c1 => rfl
  intro w9 hb9 hg9
  go_wp2
  exact bodyPost_ret (results_cellt rfl _ _ _ _ _ _ rfl hb9 Tryz.underlying36 rfl hIf) rfl (OnQ.no HNO.out ⟨rfl, hb.grown hg9 hb.size (by intro i e; cases e; omega)⟩)
end Go.Proofs.YtemdmdgigmhlbaaGreat

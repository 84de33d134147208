
/- pack: a reader's rows of texts; reading back what was written. -/
import Derived.Test.YthpdkdalfjahcaaPkR
import Derived.Test.YthpdkdalfjahcaaPkW
set_option linter.unusedSimpArgs false
set_option linter.unusedVariables false
namespace Go.Proofs.Ythpdkdalfjahcaa
open Go.RowKit Go.Qc Go.Shelf
attribute [local go_sem] txt_size txt_append ib_fold

theorem infoStr : (Try.prog.info? 9).map (fun i => (i.zero, i.size, i.bytes)) = some (some (.string ⟨#[]⟩), 1, 16) := by kernel_rfl
theorem Step.old {g : Nat} {s : List UInt8} {a : Nat} {e : Int} {w w1 w2 : World} (h : Step g s a e w w1) (hb : Below w.heap.size w1 w2) (hl : g < w.heap.size) : Step g s a e w w2 :=
  ⟨(hb.block g hl).trans h.r, ⟨hb.os.trans h.gb.os, hb.tape.trans h.gb.tape, hb.output.trans h.gb.output, Nat.le_trans h.gb.size hb.size, fun i hi hne => (hb.block i hi).trans (h.gb.block i hi hne)⟩⟩
theorem textR_len {long : Int} {s : List UInt8} {a : Nat} {t : List UInt8} {m : Nat} (h : textR long (s.drop a) = .ok (t, m)) (ha : a ≤ s.length) : 1 ≤ m ∧ a + m ≤ s.length := by
  unfold textR cntN at h
  cases hsc : scanN 0 0 (s.drop a) with
  | error e => rw [hsc] at h; cases h
  | ok p =>
    obtain ⟨v, k0⟩ := p
    rw [hsc] at h
    obtain ⟨k, X, hn, hk, hkl, _⟩ := scanN_back _ _ _ _ _ hsc
    simp only at h
    split at h
    · rename_i v2 n2 heq
      split at heq
      · cases heq
      · injection heq with heq
        injection heq with q1 q2
        subst q1 q2
        split at h
        · rename_i hle
          injection h with h
          injection h with q3 q4
          rw [List.length_drop] at hle
          omega
        · cases h
    · rename_i heq
      split at heq
      · injection heq with heq; subst heq; cases h
      · cases heq
theorem pkTexts2_any (g : Nat) (s : List UInt8) (a : Nat) (long : Int) (hs : s.length ≤ 1000000000000) (ha : a ≤ s.length) (p q : Nat) (w : World) (hr : Rdr g s a 0 w) (h1 : w.cell? ⟨p, 0, none⟩ = some (.pointer (some ⟨g, 0, none⟩))) (h2 : w.cell? ⟨q, 0, none⟩ = some (.int .i64 long)) :
    Calls Try.prog 88 #[.pointer (some ⟨p, 0, none⟩), .pointer (some ⟨q, 0, none⟩)] w fun o w' => ReadPost strT (.string ⟨#[]⟩) g s a w (textR long (s.drop a)) o w' := by
  have cR := pkText_any g s a long hs ha w hr
  clear hr
  cases hb : textR long (s.drop a) with
  | ok z =>
    obtain ⟨L, n⟩ := z
    rw [hb] at cR
    clear hb
    go_enter Try.func88, Try.ntmps88
    go_wp2_with (first
      | (go_at_call 36; (with_reducible refine cR.mono ?_); rintro o1 w1 ⟨rfl, h3⟩))
    go_ret
    exact ⟨rfl, h3⟩
  | error e =>
    rw [hb] at cR
    clear hb
    go_enter Try.func88, Try.ntmps88
    go_wp2_with (first
      | (go_at_call 36; (with_reducible refine cR.mono ?_); rintro o1 w1 ⟨rfl, he, h3⟩))
    go_ret
    exact ⟨rfl, he, h3⟩
def StrsPost (g : Nat) (s : List UInt8) (a : Nat) (w : World) (r : Except Int (List (List UInt8) × Nat)) (o : Ending) (w' : World) : Prop :=
  match r with
  | .ok (L, n) => ∃ v, o = .returned v ∧ w'.ownsRow w.heap.size 9 1 v L.length (L.map strV) ∧ a + n ≤ s.length ∧ Step g s (a + n) 0 w w'
  | .error e => ∃ a' v, o = .returned v ∧ a' ≤ s.length ∧ e ≠ 0 ∧ Step g s a' e w w'
set_option maxRecDepth 100000 in
set_option maxHeartbeats 20000000 in
theorem pkRowTexts_any (g : Nat) (s : List UInt8) (a : Nat) (most long : Int) (hs : s.length ≤ 1000000000000) (ha : a ≤ s.length) (p0 q0 : Nat) (hp0 : p0 ≠ g) (hq0 : q0 ≠ g) (w : World) (hr : Rdr g s a 0 w) (h1p : w.cell? ⟨p0, 0, none⟩ = some (.pointer (some ⟨g, 0, none⟩))) (h2q : w.cell? ⟨q0, 0, none⟩ = some (.int .i64 long)) :
    Calls Try.prog 87 #[.pointer (some ⟨g, 0, none⟩), .int .i64 most, .func (.func 88) #[] #[.pointer (some ⟨p0, 0, none⟩), .pointer (some ⟨q0, 0, none⟩)]] w fun o w' => StrsPost g s a w (rowsR (textR long) most (s.drop a)) o w' := by
  have hg := enters_of Try.func88 (by kernel_rfl) rfl
  obtain ⟨j0, hj, hjz, hjs, hjb⟩ := info_parts infoStr
  have hlt := hr.lt
  have cC := pkCount_any g s a most hs ha w hr
  have cX : ∀ wr b, b ≤ s.length → Rdr g s b 0 wr → w.grownBy wr (some g) → Calls Try.prog 88 #[.pointer (some ⟨p0, 0, none⟩), .pointer (some ⟨q0, 0, none⟩)] wr fun o w' => ReadPost strT (.string ⟨#[]⟩) g s b wr (textR long (s.drop b)) o w' := fun wr b hb h hgb => pkTexts2_any g s b long hs hb p0 q0 wr h (cell_gb h1p hgb hp0) (cell_gb h2q hgb hq0)
  clear h1p h2q
  cases hc : cntN most (s.drop a) with
  | error e =>
    rw [hc] at cC
    rw [rowsR_bad _ _ _ _ hc]
    clear hc
    have cL : ∀ W a', a' ≤ s.length → Rdr g s a' e W → Calls Try.prog 89 #[.pointer (some ⟨g, 0, none⟩)] W fun e w' => e = .returned (.int .i64 (s.length - a' : Nat)) ∧ ∃ n, w' = W.drewN n := fun W a' h1 h => pkLeft_any g s a' e h1 hs W h
    clear hr cX
    go_enter Try.func87, Try.ntmps87
    go_wp2_with (first
      | (go_at_call 77; (with_reducible refine cC.mono ?_); rintro o1 w1 ⟨a', rfl, ha', he, h1⟩; obtain ⟨Lf, hLf⟩ : ∃ Lf : Nat, Lf = s.length - a' := ⟨_, rfl⟩; have cL2 := cL w1 a' ha' h1.r; rw [← hLf] at cL2; have hLb : Lf ≤ 1000000000000 := (by omega); have hq : ((Lf : Int)).tdiv 32 = (Lf : Int) / 32 := Int.tdiv_eq_ediv_of_nonneg (by omega); clear hLf)
      | (go_at_call 89; (with_reducible refine cL2.mono ?_); rintro o2 w2 ⟨rfl, nq, rfl⟩)
      | (at_make; refine wpList_make_own _ rfl _ _ 32 rfl w.heap.size 9 j0 (.string ⟨#[]⟩) 1 Try.underlying32 hj hjz hjs _ _ _ 0 rfl rfl ?m1 ?m2 ?m3 ?m4 ?_))
    case m1 => omega
    case m2 => rw [hjb]; omega
    case m3 => unfold maxLen; omega
    case m4 => exact h1.gb.size
    intro w3 hown3 hg3
    have hs3 : Step g s a' e w w3 := (h1.trans (Step.drew h1.r nq)).row hg3 (by intro k e; cases e) hlt
    clear hown3 hg3 cL2 cL cC
    go_wp2
    go_loopw [8, 19] (fun _ i wr => i = .int .i64 0 ∧ Step g s a' e w wr) (fun _ _ _ => 0)
    case atStart => exact ⟨rfl, hs3⟩
    case round =>
      obtain ⟨rfl, hst⟩ := hrel
      go_wp2
      go_ret
      exact ⟨_, _, rfl, ha', he, hst⟩
  | ok q =>
    obtain ⟨n, k⟩ := q
    rw [hc] at cC
    rw [rowsR_ok _ _ _ _ _ hc, List.drop_drop]
    have hka : a + k ≤ s.length := by
      unfold cntN at hc
      cases hs2 : scanN 0 0 (s.drop a) with
      | ok pr =>
        obtain ⟨v2, n2⟩ := pr
        rw [hs2] at hc
        simp only at hc
        split at hc
        · cases hc
        · injection hc with e1
          injection e1 with e2 e3
          rw [← e3]
          exact scanN_len s a v2 n2 hs2 ha
      | error e => rw [hs2] at hc; cases hc
    clear hc
    obtain ⟨R0, hR0⟩ : ∃ R0, R0 = leftR [] k (rowR (textR long) n (s.drop (a + k))) := ⟨_, rfl⟩
    rw [← hR0]
    obtain ⟨Lf, hLf⟩ : ∃ Lf : Nat, Lf = s.length - (a + k) := ⟨_, rfl⟩
    have cL : ∀ W, Rdr g s (a + k) 0 W → Calls Try.prog 89 #[.pointer (some ⟨g, 0, none⟩)] W fun e w' => e = .returned (.int .i64 Lf) ∧ ∃ n, w' = W.drewN n := fun W h => by rw [hLf]; exact pkLeft_any g s (a + k) 0 hka hs W h
    have hLb : Lf ≤ 1000000000000 := by omega
    have hq : ((Lf : Int)).tdiv 32 = (Lf : Int) / 32 := Int.tdiv_eq_ediv_of_nonneg (by omega)
    have HR0 := hid hR0
    clear hR0 hLf hr
    go_enter Try.func87, Try.ntmps87
    go_wp2_with (first
      | (go_at_call 77; (with_reducible refine cC.mono ?_); rintro o1 w1 ⟨rfl, h1⟩)
      | (go_at_call 89; (with_reducible refine (cL _ h1.r).mono ?_); rintro o2 w2 ⟨rfl, nq, rfl⟩)
      | (at_make; refine wpList_make_own _ rfl _ _ 32 rfl w.heap.size 9 j0 (.string ⟨#[]⟩) 1 Try.underlying32 hj hjz hjs _ _ _ (min n (Lf / 32)) rfl rfl ?m1 ?m2 ?m3 ?m4 ?_))
    case m1 => omega
    case m2 => rw [hjb]; omega
    case m3 => unfold maxLen; omega
    case m4 => exact h1.gb.size
    intro w3 hown3 hg3
    have hs3 : Step g s (a + k) 0 w w3 := (h1.trans (Step.drew h1.r nq)).row hg3 (by intro k e; cases e) hlt
    go_wp2
    go_loopw [8, 19] (fun v i wr => ∃ (c p : Nat) (xs : List (List UInt8)), c ≤ n ∧ i = .int .i64 c ∧ xs.length = c ∧ c ≤ p ∧ a + p ≤ s.length ∧ R0 = leftR xs p (rowR (textR long) (n - c) (s.drop (a + p))) ∧ wr.ownsRow w.heap.size 9 1 v c (xs.map strV) ∧ Step g s (a + p) 0 w wr) (fun _ i _ => n - (intOf i).toNat)
    case atStart => exact ⟨0, k, [], Nat.zero_le _, rfl, rfl, Nat.zero_le _, hka, HR0.out, hown3, hs3⟩
    case round =>
      obtain ⟨c, p, xs, hc, rfl, hxl, hp, hap, hR, hown, hst⟩ := hrel
      clear hown3 hs3 hg3 h1 cC cL HR0
      by_cases hcn : c < n
      · have b1 : (c : Int) < n := by omega
        have hnc : n - c = (n - (c + 1)) + 1 := by omega
        rw [hnc] at hR
        have cS := cX wr (a + p) hap hst.r hst.gb
        have hc30 : c ≤ 1000000000000 := by omega
        have hwz := hst.gb.size
        clear cX
        cases hi : textR long (s.drop (a + p)) with
        | ok q =>
          obtain ⟨X, m⟩ := q
          rw [hi] at cS
          dsimp only [ReadPost, strT] at cS
          have hstep := leftR_step (textR long) (n - (c + 1)) xs p m X _ hi
          rw [List.drop_drop] at hstep
          rw [hstep] at hR
          obtain ⟨hm1, hm2⟩ := textR_len hi hap
          have HR := hid hR
          have HXL := hid hxl
          clear hi hstep hR hxl
          go_wp2_with (first
            | ((with_reducible refine cS.mono ?_); rintro o4 w4 ⟨rfl, h4⟩; have hown4 := hown.kept h4.gb (own_ne_low hown hlt); have hst4 := hst.trans h4; have hw4 := hst4.gb.size)
            | (at_builtin; refine wpList_append_new rfl _ _ 32 rfl w.heap.size 9 j0 (.string ⟨#[]⟩) 16 Try.underlying32 hj hjz hjs hjb rfl _ _ _ rfl hown4 1 _ rfl rfl ?l1 ?l2 ?l3 hw4 ?_))
          case l1 => simp [Value.oneCell']
          case l2 => unfold maxLen; omega
          case l3 => omega
          intro v8 w8 hown8 hb8
          have hst8 := hst4.old hb8 hlt
          have c2 := hst8.r.c2
          clear hb8
          go_wp2
          go_roundw
          case rel => exact ⟨c + 1, p + m, xs ++ [X], hcn, by go_num, by rw [List.length_append, HXL.out]; rfl, by omega, by omega, by rw [← Nat.add_assoc]; exact HR.out, (by rw [List.map_append]; exact hown8), (by rw [← Nat.add_assoc]; exact hst8)⟩
          case measure => simp [intOf]; omega
        | error e =>
          rw [hi] at cS
          dsimp only [ReadPost, strT] at cS
          rw [leftR_bad (textR long) _ xs p e _ hi] at hR
          have HR := hid hR
          clear hi hR
          go_wp2_with (first
            | ((with_reducible refine cS.mono ?_); rintro o4 w4 ⟨rfl, he, h4⟩; have hown4 := hown.kept h4.gb (own_ne_low hown hlt); have hst4 := hst.trans h4; have hw4 := hst4.gb.size; have hne : (e != 0) = true := (by simpa using he))
            | (at_builtin; refine wpList_append_new rfl _ _ 32 rfl w.heap.size 9 j0 (.string ⟨#[]⟩) 16 Try.underlying32 hj hjz hjs hjb rfl _ _ _ rfl hown4 1 _ rfl rfl ?l1 ?l2 ?l3 hw4 ?_))
          case l1 => simp [Value.oneCell']
          case l2 => unfold maxLen; omega
          case l3 => omega
          intro v8 w8 hown8 hb8
          have hst8 := hst4.old hb8 hlt
          have c2 := hst8.r.c2
          clear hb8
          go_wp2
          go_ret
          rw [HR.out]
          exact ⟨_, _, rfl, hap, he, hst8⟩
      · obtain rfl : c = n := by omega
        rw [Nat.sub_self, rowR] at hR
        have b1 : ¬ (c : Int) < c := by omega
        have HR := hid hR
        clear hR
        go_wp2
        go_ret
        rw [HR.out]
        exact ⟨_, rfl, (by rw [List.append_nil, hxl]; exact hown), (by rw [Nat.add_zero]; exact hap), hst⟩
end Go.Proofs.Ythpdkdalfjahcaa

namespace Go.Proofs.Ythpdkdalfjahcaa
open Go.RowKit Go.Qc Go.Shelf
attribute [local go_sem] txt_size txt_append ib_fold

def TextsPost (g : Nat) (s : List UInt8) (a : Nat) (w : World) (r : Except Int (List (List UInt8) × Nat)) (o : Ending) (w' : World) : Prop :=
  match r with
  | .ok (L, n) => ∃ v, o = .returned v ∧ w'.ownsRow w.heap.size 9 1 v L.length (L.map strV) ∧ a + n ≤ s.length ∧ Step g s (a + n) 0 w w'
  | .error e => o = .returned (.slice none 0 0) ∧ e ≠ 0 ∧ Step g s a e w w'
theorem pkTexts1_any (g : Nat) (s : List UInt8) (a : Nat) (most long : Int) (hs : s.length ≤ 1000000000000) (ha : a ≤ s.length) (p q u : Nat) (hp : p ≠ g) (hu : u ≠ g) (w : World) (hr : Rdr g s a 0 w) (h1 : w.cell? ⟨p, 0, none⟩ = some (.pointer (some ⟨g, 0, none⟩))) (h2 : w.cell? ⟨q, 0, none⟩ = some (.int .i64 most)) (h3 : w.cell? ⟨u, 0, none⟩ = some (.int .i64 long)) :
    Calls Try.prog 86 #[.pointer (some ⟨p, 0, none⟩), .pointer (some ⟨q, 0, none⟩), .pointer (some ⟨u, 0, none⟩)] w fun o w' => StrsPost g s a w (rowsR (textR long) most (s.drop a)) o w' := by
  have cR := pkRowTexts_any g s a most long hs ha p u hp hu w hr h1 h3
  clear hr
  cases hb : rowsR (textR long) most (s.drop a) with
  | ok z =>
    obtain ⟨L, n⟩ := z
    rw [hb] at cR
    clear hb
    go_enter Try.func86, Try.ntmps86
    go_wp2_with (first
      | (go_at_call 87; (with_reducible refine cR.mono ?_); rintro o1 w1 ⟨v, rfl, h4, h5, h6⟩))
    go_ret
    exact ⟨_, rfl, h4, h5, h6⟩
  | error e =>
    rw [hb] at cR
    clear hb
    go_enter Try.func86, Try.ntmps86
    go_wp2_with (first
      | (go_at_call 87; (with_reducible refine cR.mono ?_); rintro o1 w1 ⟨a', v, rfl, h3, h4, h5⟩))
    go_ret
    exact ⟨_, _, rfl, h3, h4, h5⟩
set_option maxHeartbeats 4000000 in
theorem pkReadTexts_any (g : Nat) (s : List UInt8) (a : Nat) (most long : Int) (hs : s.length ≤ 1000000000000) (ha : a ≤ s.length) (p q u : Nat) (hp : p ≠ g) (hu : u ≠ g) (w : World) (hr : Rdr g s a 0 w) (h1 : w.cell? ⟨p, 0, none⟩ = some (.pointer (some ⟨g, 0, none⟩))) (h2 : w.cell? ⟨q, 0, none⟩ = some (.int .i64 most)) (h3 : w.cell? ⟨u, 0, none⟩ = some (.int .i64 long)) :
    Calls Try.prog 85 #[.pointer (some ⟨g, 0, none⟩), .func (.func 86) #[] #[.pointer (some ⟨p, 0, none⟩), .pointer (some ⟨q, 0, none⟩), .pointer (some ⟨u, 0, none⟩)]] w fun o w' => TextsPost g s a w (rowsR (textR long) most (s.drop a)) o w' := by
  have hg := enters_of Try.func86 (by kernel_rfl) rfl
  have cN := pkTexts1_any g s a most long hs ha p q u hp hu w hr h1 h2 h3
  have c1 := hr.c1
  have c2 := hr.c2
  clear h1 h2 h3
  cases hb : rowsR (textR long) most (s.drop a) with
  | ok z =>
    obtain ⟨L, n⟩ := z
    rw [hb] at cN
    clear hb
    go_enter Try.func85, Try.ntmps85
    go_wp2_with (first
      | ((with_reducible refine cN.mono ?_); rintro o1 w1 ⟨v, rfl, h3, h5, h6⟩; have c3 := h6.r.c2))
    go_ret
    exact ⟨_, rfl, h3, h5, h6⟩
  | error e =>
    rw [hb] at cN
    clear hb
    go_enter Try.func85, Try.ntmps85
    go_wp2_with (first
      | ((with_reducible refine cN.mono ?_); rintro o1 w1 ⟨a', v, rfl, ha', he, h1⟩; have c3 := h1.r.c2; have c4 := h1.r.c1; have f1 := h1.r.f 1; have hne : (e != 0) = true := (by simpa using he)))
    go_ret
    exact ⟨rfl, he, h1.r.setA a, gb_set h1.gb 1 _⟩
set_option maxHeartbeats 4000000 in
theorem pkTextsR_any (g : Nat) (s : List UInt8) (a : Nat) (most long : Int) (hs : s.length ≤ 1000000000000) (ha : a ≤ s.length) (w : World) (hr : Rdr g s a 0 w) :
    Calls Try.prog 41 #[.pointer (some ⟨g, 0, none⟩), .int .i64 most, .int .i64 long] w fun o w' => TextsPost g s a w (rowsR (textR long) most (s.drop a)) o w' := by
  have hlt := hr.lt
  have hk1 : (w.alloc (.cells #[.pointer (some ⟨g, 0, none⟩)] 51)).heap.size = w.heap.size + 1 := by simp
  have hk2 : ((w.alloc (.cells #[.pointer (some ⟨g, 0, none⟩)] 51)).alloc (.cells #[.int .i64 most] 3)).heap.size = w.heap.size + 1 + 1 := by simp
  have b1 := ((Blk.new w 51 #[.pointer (some ⟨g, 0, none⟩)]).alloc (.cells #[.int .i64 most] 3)).alloc (.cells #[.int .i64 long] 3)
  have b2 := (Blk.new (w.alloc (.cells #[.pointer (some ⟨g, 0, none⟩)] 51)) 3 #[.int .i64 most]).alloc (.cells #[.int .i64 long] 3)
  have b3 := Blk.new ((w.alloc (.cells #[.pointer (some ⟨g, 0, none⟩)] 51)).alloc (.cells #[.int .i64 most] 3)) 3 #[.int .i64 long]
  rw [hk1] at b2
  rw [hk2] at b3
  have hr2 : Rdr g s a 0 (((w.alloc (.cells #[.pointer (some ⟨g, 0, none⟩)] 51)).alloc (.cells #[.int .i64 most] 3)).alloc (.cells #[.int .i64 long] 3)) := ((Blk.alloc hr _).alloc _).alloc _
  have hB : Below w.heap.size w (((w.alloc (.cells #[.pointer (some ⟨g, 0, none⟩)] 51)).alloc (.cells #[.int .i64 most] 3)).alloc (.cells #[.int .i64 long] 3)) := (((Below.refl _ w).alloc (Nat.le_refl _) _).alloc (by simp) _).alloc (by simp; omega) _
  have hst : Step g s a 0 w (((w.alloc (.cells #[.pointer (some ⟨g, 0, none⟩)] 51)).alloc (.cells #[.int .i64 most] 3)).alloc (.cells #[.int .i64 long] 3)) := (Step.same hr).below hB
  have cR := pkReadTexts_any g s a most long hs ha w.heap.size (w.heap.size + 1) (w.heap.size + 1 + 1) (by omega) (by omega) _ hr2 (b1.cell_ (i := 0) rfl) (b2.cell_ (i := 0) rfl) (b3.cell_ (i := 0) rfl)
  have e1 : (((w.alloc (.cells #[.pointer (some ⟨g, 0, none⟩)] 51)).alloc (.cells #[.int .i64 most] 3)).alloc (.cells #[.int .i64 long] 3)).cell? ⟨w.heap.size, 0, none⟩ = some (.pointer (some ⟨g, 0, none⟩)) := b1.cell_ rfl
  have HBS := hid hB.size
  clear b1 b2 b3 hr2 hk1 hk2 hr hB
  cases hb : rowsR (textR long) most (s.drop a) with
  | ok z =>
    obtain ⟨L, n⟩ := z
    rw [hb] at cR
    clear hb
    go_enter Try.func41, Try.ntmps41
    go_wp2_with (first
      | (go_at_call 85; (with_reducible refine cR.mono ?_); rintro o1 w1 ⟨v, rfl, h3, h5, h6⟩))
    go_ret
    exact ⟨_, rfl, own_base h3 HBS.out, h5, hst.trans h6⟩
  | error e =>
    rw [hb] at cR
    clear hb
    go_enter Try.func41, Try.ntmps41
    go_wp2_with (first
      | (go_at_call 85; (with_reducible refine cR.mono ?_); rintro o1 w1 ⟨rfl, he, h6⟩))
    go_ret
    exact ⟨rfl, he, hst.trans h6⟩
end Go.Proofs.Ythpdkdalfjahcaa

namespace Go.Proofs.Ythpdkdalfjahcaa
open Go.RowKit Go.Qc Go.Shelf
attribute [local go_sem] txt_size txt_append ib_fold

theorem scanN_back0 (x : Nat) (hx : x ≤ 4611686018427387904) (rest : List UInt8) : scanN 0 0 (numE x ++ rest) = .ok (x, (numE x).length) := by
  have := scanN_write x x (Nat.le_refl _) rest 0 0 (by simpa using hx) (by simp)
  simpa using this
theorem cntN_back (most : Int) (x : Nat) (hx : x ≤ 4611686018427387904) (hm : (x : Int) ≤ most) (rest : List UInt8) : cntN most (numE x ++ rest) = .ok (x, (numE x).length) := by
  unfold cntN
  rw [scanN_back0 x hx rest]
  simp only
  rw [if_neg (by omega)]
theorem textR_back (most : Int) (t : List UInt8) (ht : t.length ≤ 4611686018427387904) (hm : (t.length : Int) ≤ most) (rest : List UInt8) : textR most (textE t ++ rest) = .ok (t, (textE t).length) := by
  unfold textR textE
  rw [List.append_assoc, cntN_back most t.length ht hm]
  simp only
  rw [if_pos (by simp only [List.length_append]; omega), List.drop_left, List.take_left, List.length_append]
theorem idR_back (a : List UInt8) (ha : a.length = 32) (rest : List UInt8) : idR (a ++ rest) = .ok (a, 32) := by
  unfold idR
  rw [if_pos (by rw [List.length_append]; omega), List.take_left' ha]
theorem truthR_back (v : Bool) (rest : List UInt8) : truthR (truthE v ++ rest) = .ok (v, 1) := by
  cases v <;> rfl
theorem byteR_back (x : UInt8) (rest : List UInt8) : byteR ([x] ++ rest) = .ok (x, 1) := rfl
theorem rowR_back {α : Type} (item : List UInt8 → Except Int (α × Nat)) (enc : α → List UInt8) : ∀ (l : List α) (rest : List UInt8), (∀ x ∈ l, ∀ r, item (enc x ++ r) = .ok (x, (enc x).length)) →
    rowR item l.length (l.flatMap enc ++ rest) = .ok (l, (l.flatMap enc).length)
  | [], _, _ => rfl
  | x :: l, rest, h => by
    rw [List.flatMap_cons, List.append_assoc, List.length_cons, rowR, h x (by simp)]
    simp only
    rw [List.drop_left, rowR_back item enc l rest (fun y hy => h y (by simp [hy]))]
    simp only [List.length_append]
theorem rowsR_back {α : Type} (item : List UInt8 → Except Int (α × Nat)) (enc : α → List UInt8) (most : Int) (l : List α) (hl : l.length ≤ 4611686018427387904) (hm : (l.length : Int) ≤ most) (rest : List UInt8) (h : ∀ x ∈ l, ∀ r, item (enc x ++ r) = .ok (x, (enc x).length)) :
    rowsR item most ((numE l.length ++ l.flatMap enc) ++ rest) = .ok (l, (numE l.length ++ l.flatMap enc).length) := by
  unfold rowsR
  rw [List.append_assoc, cntN_back most l.length hl hm]
  simp only
  rw [List.drop_left, rowR_back item enc l rest h]
  simp only [List.length_append]
theorem idsR_back (most : Int) (l : List (List UInt8)) (hl : l.length ≤ 4611686018427387904) (hm : (l.length : Int) ≤ most) (h32 : ∀ x ∈ l, x.length = 32) (rest : List UInt8) : rowsR idR most (idsE l ++ rest) = .ok (l, (idsE l).length) := by
  have hf : l.flatten = l.flatMap id := by simp [List.flatMap_id]
  unfold idsE
  rw [hf]
  exact rowsR_back idR id most l hl hm rest (fun x hx r => by rw [id, idR_back x (h32 x hx) r, h32 x hx])
theorem textsR_back (most long : Int) (m : List (List UInt8)) (hl : m.length ≤ 4611686018427387904) (hm : (m.length : Int) ≤ most) (hx : ∀ x ∈ m, x.length ≤ 4611686018427387904 ∧ (x.length : Int) ≤ long) (rest : List UInt8) : rowsR (textR long) most (textsE m ++ rest) = .ok (m, (textsE m).length) := by
  unfold textsE
  exact rowsR_back (textR long) textE most m hl hm rest (fun x h r => textR_back long x (hx x h).1 (hx x h).2 r)
theorem pkPlace_any (g : Nat) (s : List UInt8) (a : Nat) (e : Int) (w : World) (h : Rdr g s a e w) :
    Calls Try.prog 43 #[.pointer (some ⟨g, 0, none⟩)] w fun o w' => o = .returned (.int .i64 (a : Int)) ∧ w = w' := by
  have c1 := h.c1
  go_enter Try.func43, Try.ntmps43
  go_wp2
  go_ret
  exact ⟨rfl, rfl⟩
/-- Where a piece stands. -/
theorem drop_at {s pre seg post : List UInt8} {a : Nat} (h : s = pre ++ (seg ++ post)) (ha : a = pre.length) : s.drop a = seg ++ post := by
  rw [h, ha, List.drop_left]
end Go.Proofs.Ythpdkdalfjahcaa

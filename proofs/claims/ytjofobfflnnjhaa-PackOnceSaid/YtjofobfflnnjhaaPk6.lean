
/- pack: a text that is read. -/
import Derived.Test.YtjofobfflnnjhaaPk5
namespace Go.Proofs.Ytjofobfflnnjhaa
open Go.RowKit Go.Qc Go.Shelf
attribute [local go_sem] txt_size txt_append ib_fold

/-- A text of at most so many bytes, read from the front on: it, and how many bytes were. -/
def textR (most : Int) (l : List UInt8) : Except Int (List UInt8 × Nat) :=
  match cntN most l with
  | .ok (v, n) => if n + v ≤ l.length then .ok ((l.drop n).take v, n + v) else .error 2
  | .error e => .error e
def strT (l : List UInt8) : Value := .string (txt l)
/-- What the closure leaves. -/
def TextPost (g : Nat) (s : List UInt8) (a : Nat) (w : World) (r : Except Int (List UInt8 × Nat)) (o : Ending) (w' : World) : Prop :=
  match r with
  | .ok (t, n) => o = .returned (strT t) ∧ Step g s (a + n) 0 w w'
  | .error e => ∃ a', o = .returned (.string ⟨#[]⟩) ∧ a' ≤ s.length ∧ e ≠ 0 ∧ Step g s a' e w w'
theorem cell_gb {w w' : World} {g p i : Nat} {u : Value} (h : w.cell? ⟨p, i, none⟩ = some u) (hg : w.grownBy w' (some g)) (hne : p ≠ g) : w'.cell? ⟨p, i, none⟩ = some u :=
  hg.cell h (fun e => hne (Option.some.inj e))
theorem Step.below {g : Nat} {s : List UInt8} {a : Nat} {e : Int} {w w1 w2 : World} (h : Step g s a e w w1) (hb : Below w1.heap.size w1 w2) : Step g s a e w w2 :=
  ⟨Blk.below h.r hb, gb_below h.gb hb⟩
set_option maxRecDepth 100000 in
set_option maxHeartbeats 8000000 in
theorem pkText1_gen (g : Nat) (s : List UInt8) (a : Nat) (most : Int) (p q : Nat) (hp : p ≠ g) (hq : q ≠ g) (w : World) (hr : Rdr g s a 0 w) (h1 : w.cell? ⟨p, 0, none⟩ = some (.pointer (some ⟨g, 0, none⟩))) (h2 : w.cell? ⟨q, 0, none⟩ = some (.int .i64 most))
    (K e1 e2 : Int) (T : ByteArray) (A1 A2 : Nat → Prop) (hT : T.size ≤ 1000000000000)
    (c1 : ∀ W, Rdr g s a 0 W → Calls Try.prog 94 #[.pointer (some ⟨g, 0, none⟩), .int .i64 most] W fun o w' => o = .returned (.int .i64 K) ∧ ∃ a1, A1 a1 ∧ Step g s a1 e1 W w')
    (c2 : ∀ W a1, A1 a1 → Rdr g s a1 e1 W → Calls Try.prog 93 #[.pointer (some ⟨g, 0, none⟩), .int .i64 K] W fun o w' => o = .returned (.string T) ∧ ∃ a2, A2 a2 ∧ Step g s a2 e2 W w') :
    Calls Try.prog 91 #[.pointer (some ⟨p, 0, none⟩), .pointer (some ⟨q, 0, none⟩)] w fun o w' => o = .returned (.string T) ∧ ∃ a2, A2 a2 ∧ Step g s a2 e2 w w' := by
  have d1 : ∀ W, (W.cell? ⟨p, 0, none⟩ = some (.pointer (some ⟨g, 0, none⟩)) ∧ W.cell? ⟨q, 0, none⟩ = some (.int .i64 most)) → Rdr g s a 0 W → Calls Try.prog 94 #[.pointer (some ⟨g, 0, none⟩), .int .i64 most] W fun o w' => o = .returned (.int .i64 K) ∧ (∃ a1, A1 a1 ∧ Step g s a1 e1 W w') ∧ (w'.cell? ⟨p, 0, none⟩ = some (.pointer (some ⟨g, 0, none⟩)) ∧ w'.cell? ⟨q, 0, none⟩ = some (.int .i64 most)) := fun W hS h =>
    (c1 W h).mono (by rintro o w' ⟨h3, a1, h4, h5⟩; exact ⟨h3, ⟨a1, h4, h5⟩, cell_gb hS.1 h5.gb hp, cell_gb hS.2 h5.gb hq⟩)
  have d2 : ∀ W a1, (W.cell? ⟨p, 0, none⟩ = some (.pointer (some ⟨g, 0, none⟩)) ∧ W.cell? ⟨q, 0, none⟩ = some (.int .i64 most)) → A1 a1 → Rdr g s a1 e1 W → Calls Try.prog 93 #[.pointer (some ⟨g, 0, none⟩), .int .i64 K] W fun o w' => o = .returned (.string T) ∧ (∃ a2, A2 a2 ∧ Step g s a2 e2 W w') ∧ (w'.cell? ⟨p, 0, none⟩ = some (.pointer (some ⟨g, 0, none⟩)) ∧ w'.cell? ⟨q, 0, none⟩ = some (.int .i64 most)) := fun W a1 hS hA h =>
    (c2 W a1 hA h).mono (by rintro o w' ⟨h3, a2, h4, h5⟩; exact ⟨h3, ⟨a2, h4, h5⟩, cell_gb hS.1 h5.gb hp, cell_gb hS.2 h5.gb hq⟩)
  have d3 : ∀ W, (W.cell? ⟨p, 0, none⟩ = some (.pointer (some ⟨g, 0, none⟩)) ∧ W.cell? ⟨q, 0, none⟩ = some (.int .i64 most)) → Calls Try.prog 92 #[.string T] W fun o w' => o = .returned (.string T) ∧ Below W.heap.size W w' ∧ (w'.cell? ⟨p, 0, none⟩ = some (.pointer (some ⟨g, 0, none⟩)) ∧ w'.cell? ⟨q, 0, none⟩ = some (.int .i64 most)) := fun W hS =>
    (pkClone_any T hT W).mono (by rintro o w' ⟨h3, h4⟩; exact ⟨h3, h4, Below.keep h4 hS.1, Below.keep h4 hS.2⟩)
  have hS0 : w.drew.cell? ⟨p, 0, none⟩ = some (.pointer (some ⟨g, 0, none⟩)) ∧ w.drew.cell? ⟨q, 0, none⟩ = some (.int .i64 most) := ⟨h1, h2⟩
  have hr0 : Rdr g s a 0 w.drew := hr
  have hst0 : Step g s a 0 w w.drew := Step.drew hr 1
  clear c1 c2 hr h1 h2
  go_enter Try.func91, Try.ntmps91
  go_wp2
  go_region_held3 (fun w' => w'.cell? ⟨p, 0, none⟩ = some (.pointer (some ⟨g, 0, none⟩)) ∧ w'.cell? ⟨q, 0, none⟩ = some (.int .i64 most)) (assumption)
    (first
      | (go_at_call 94; refine (d1 _ (by assumption) hr0).mono ?_; rintro o1 w1 ⟨rfl, ⟨a1, hA1, hs1⟩, hS1⟩)
      | (go_at_call 93; refine (d2 _ a1 (by assumption) hA1 hs1.r).mono ?_; rintro o2 w2 ⟨rfl, ⟨a2, hA2, hs2⟩, hS2⟩)
      | (go_at_call 92; refine (d3 _ (by assumption)).mono ?_; rintro o3 w3 ⟨rfl, hB3, hS3⟩))
  go_wp2
  go_ret
  exact ⟨rfl, a2, hA2, ((hst0.trans hs1).trans hs2).below hB3⟩
theorem pkText1_any (g : Nat) (s : List UInt8) (a : Nat) (most : Int) (hs : s.length ≤ 1000000000000) (ha : a ≤ s.length) (p q : Nat) (hp : p ≠ g) (hq : q ≠ g) (w : World) (hr : Rdr g s a 0 w) (h1 : w.cell? ⟨p, 0, none⟩ = some (.pointer (some ⟨g, 0, none⟩))) (h2 : w.cell? ⟨q, 0, none⟩ = some (.int .i64 most)) :
    Calls Try.prog 91 #[.pointer (some ⟨p, 0, none⟩), .pointer (some ⟨q, 0, none⟩)] w fun o w' => TextPost g s a w (textR most (s.drop a)) o w' := by
  have cC : ∀ W, Rdr g s a 0 W → Calls Try.prog 94 #[.pointer (some ⟨g, 0, none⟩), .int .i64 most] W fun o w' => CntPost g s a W (cntN most (s.drop a)) o w' := fun W h => pkCount_any g s a most hs ha W h
  unfold textR
  cases hsc : cntN most (s.drop a) with
  | ok pr =>
    obtain ⟨v, n⟩ := pr
    rw [hsc] at cC
    have hln : a + n ≤ s.length := by
      unfold cntN at hsc
      cases hs2 : scanN 0 0 (s.drop a) with
      | ok pr =>
        obtain ⟨v2, n2⟩ := pr
        rw [hs2] at hsc
        simp only at hsc
        split at hsc
        · cases hsc
        · injection hsc with e1
          injection e1 with e2 e3
          rw [← e3]
          exact scanN_len s a v2 n2 hs2 ha
      | error e => rw [hs2] at hsc; cases hsc
    clear hsc
    have hdl : (s.drop a).length = s.length - a := List.length_drop
    by_cases hle : n + v ≤ (s.drop a).length
    · simp only [if_pos hle]
      have := pkText1_gen g s a most p q hp hq w hr h1 h2 v 0 0 (txt (((s.drop a).drop n).take v)) (fun x => x = a + n) (fun x => x = a + (n + v)) (by rw [txt_size, List.length_take, List.length_drop, List.length_drop]; omega)
        (fun W h => (cC W h).mono (by rintro o w' ⟨h3, h4⟩; exact ⟨h3, _, rfl, h4⟩))
        (fun W a1 hA h => by
          subst hA
          rw [List.drop_drop]
          refine (pkTake_ok g s (a + n) v 0 (by omega) hs W h).mono ?_
          rintro o w' ⟨h3, h4⟩
          exact ⟨h3, _, Nat.add_assoc a n v, h4⟩)
      refine this.mono ?_
      rintro o w' ⟨h3, a2, rfl, h4⟩
      exact ⟨h3, h4⟩
    · simp only [if_neg hle]
      have := pkText1_gen g s a most p q hp hq w hr h1 h2 v 0 2 ⟨#[]⟩ (fun x => x = a + n) (fun x => x = a + n) (by decide)
        (fun W h => (cC W h).mono (by rintro o w' ⟨h3, h4⟩; exact ⟨h3, _, rfl, h4⟩))
        (fun W a1 hA h => by
          subst hA
          refine (pkTake_short g s (a + n) v 0 (by omega) hln hs W h).mono ?_
          rintro o w' ⟨h3, h4⟩
          exact ⟨h3, _, rfl, h4⟩)
      refine this.mono ?_
      rintro o w' ⟨h3, a2, rfl, h4⟩
      exact ⟨_, h3, hln, by decide, h4⟩
  | error e =>
    rw [hsc] at cC
    clear hsc
    by_cases he : e = 0
    · subst he
      exact (pkText1_gen g s a most p q hp hq w hr h1 h2 0 0 0 ⟨#[]⟩ (fun _ => False) (fun _ => False) (by decide)
        (fun W h => (cC W h).mono (by rintro o w' ⟨a', h3, h4, h5, h6⟩; exact absurd rfl h5))
        (fun W a1 hA h => hA.elim)).mono (by rintro o w' ⟨h3, a2, h4, h5⟩; exact h4.elim)
    · have := pkText1_gen g s a most p q hp hq w hr h1 h2 0 e e ⟨#[]⟩ (fun x => x ≤ s.length) (fun x => x ≤ s.length) (by decide)
        (fun W h => (cC W h).mono (by rintro o w' ⟨a', h3, h4, h5, h6⟩; exact ⟨h3, a', h4, h6⟩))
        (fun W a1 hA h => by
          have := pkTake_ok g s a1 0 e (by omega) hs W h
          refine this.mono ?_
          rintro o w' ⟨h3, h4⟩
          exact ⟨h3, _, hA, h4⟩)
      refine this.mono ?_
      rintro o w' ⟨h3, a2, h4, h5⟩
      exact ⟨a2, h3, h4, he, h5⟩

set_option maxHeartbeats 4000000 in
theorem pkReadText_any (g : Nat) (s : List UInt8) (a : Nat) (most : Int) (hs : s.length ≤ 1000000000000) (ha : a ≤ s.length) (p q : Nat) (hp : p ≠ g) (hq : q ≠ g) (w : World) (hr : Rdr g s a 0 w) (h1 : w.cell? ⟨p, 0, none⟩ = some (.pointer (some ⟨g, 0, none⟩))) (h2 : w.cell? ⟨q, 0, none⟩ = some (.int .i64 most)) :
    Calls Try.prog 90 #[.pointer (some ⟨g, 0, none⟩), .func (.func 91) #[] #[.pointer (some ⟨p, 0, none⟩), .pointer (some ⟨q, 0, none⟩)]] w fun o w' => ReadPost strT (.string ⟨#[]⟩) g s a w (textR most (s.drop a)) o w' := by
  have hg := enters_of Try.func91 (by kernel_rfl) rfl
  have cN := pkText1_any g s a most hs ha p q hp hq w hr h1 h2
  have c1 := hr.c1
  have c2 := hr.c2
  clear h1 h2
  cases hsc : textR most (s.drop a) with
  | ok pr =>
    obtain ⟨v, n⟩ := pr
    rw [hsc] at cN
    clear hsc
    go_enter Try.func90, Try.ntmps90
    go_wp2_with (first
      | ((with_reducible refine cN.mono ?_); rintro o1 w1 ⟨rfl, h1⟩; have c3 := h1.r.c2))
    go_ret
    exact ⟨rfl, h1⟩
  | error e =>
    rw [hsc] at cN
    clear hsc
    go_enter Try.func90, Try.ntmps90
    go_wp2_with (first
      | ((with_reducible refine cN.mono ?_); rintro o1 w1 ⟨a', rfl, ha', he, h1⟩; have c3 := h1.r.c2; have c4 := h1.r.c1; have f1 := h1.r.f 1; have hne : (e != 0) = true := (by simpa using he)))
    go_ret
    exact ⟨rfl, he, h1.r.setA a, gb_set h1.gb 1 _⟩
set_option maxHeartbeats 4000000 in
theorem pkText_any (g : Nat) (s : List UInt8) (a : Nat) (most : Int) (hs : s.length ≤ 1000000000000) (ha : a ≤ s.length) (w : World) (hr : Rdr g s a 0 w) :
    Calls Try.prog 45 #[.pointer (some ⟨g, 0, none⟩), .int .i64 most] w fun o w' => ReadPost strT (.string ⟨#[]⟩) g s a w (textR most (s.drop a)) o w' := by
  have hlt := hr.lt
  have hk : (w.alloc (.cells #[.pointer (some ⟨g, 0, none⟩)] 55)).heap.size = w.heap.size + 1 := by simp
  have b1 := (Blk.new w 55 #[.pointer (some ⟨g, 0, none⟩)]).alloc (.cells #[.int .i64 most] 3)
  have b2 := Blk.new (w.alloc (.cells #[.pointer (some ⟨g, 0, none⟩)] 55)) 3 #[.int .i64 most]
  rw [hk] at b2
  have hr2 : Rdr g s a 0 ((w.alloc (.cells #[.pointer (some ⟨g, 0, none⟩)] 55)).alloc (.cells #[.int .i64 most] 3)) := (Blk.alloc hr _).alloc _
  have hst : Step g s a 0 w ((w.alloc (.cells #[.pointer (some ⟨g, 0, none⟩)] 55)).alloc (.cells #[.int .i64 most] 3)) := (Step.same hr).below (((Below.refl _ w).alloc (Nat.le_refl _) _).alloc (by simp) _)
  have cR := pkReadText_any g s a most hs ha w.heap.size (w.heap.size + 1) (by omega) (by omega) _ hr2 (b1.cell_ (i := 0) rfl) (b2.cell_ (i := 0) rfl)
  have e1 : ((w.alloc (.cells #[.pointer (some ⟨g, 0, none⟩)] 55)).alloc (.cells #[.int .i64 most] 3)).cell? ⟨w.heap.size, 0, none⟩ = some (.pointer (some ⟨g, 0, none⟩)) := b1.cell_ rfl
  clear b1 b2 hr2 hk hr
  cases hsc : textR most (s.drop a) with
  | ok pr =>
    obtain ⟨v, n⟩ := pr
    rw [hsc] at cR
    clear hsc
    go_enter Try.func45, Try.ntmps45
    go_wp2_with (first
      | (go_at_call 90; (with_reducible refine cR.mono ?_); rintro o1 w1 ⟨rfl, h1⟩))
    go_ret
    exact ⟨rfl, hst.trans h1⟩
  | error e =>
    rw [hsc] at cR
    clear hsc
    go_enter Try.func45, Try.ntmps45
    go_wp2_with (first
      | (go_at_call 90; (with_reducible refine cR.mono ?_); rintro o1 w1 ⟨rfl, he, h1⟩))
    go_ret
    exact ⟨rfl, he, hst.trans h1⟩
end Go.Proofs.Ytjofobfflnnjhaa


/- pack: a reader: new, a number, a text, its end. -/
import Derived.Test.YtjofobfflnnjhaaPk4
import Derived.Shelf.Pu.Clone
import Derived.Shelf.SlSortCmp.QuietGrown
namespace Go.Proofs.Ytjofobfflnnjhaa
open Go.RowKit Go.Qc Go.Shelf
attribute [local go_sem] txt_size txt_append ib_fold

/-! ### a text cloned -/
def lays25_ren : Go.Shelf.Ren := ⟨fun | 25 => 134 | n => n, fun | 0 => 0 | 3 => 3 | 4 => 4 | 5 => 5 | 9 => 9 | 37 => 39 | 47 => 133 | n => n, fun | n => n⟩
theorem lays25 : Go.Proofs.LaysPu.n25 Try.prog lays25_ren := {
  mixed := by kernel_rfl
  f25 := Try.func134.trans (congrArg some (by kernel_rfl))
  t0 := Try.underlying0
  a0 := Try.isAgg0
  z0 := Try.sizeOf0
  v0 := Try.zeroValue0
  i0 := by kernel_rfl
  t3 := Try.underlying3
  a3 := Try.isAgg3
  z3 := Try.sizeOf3
  v3 := Try.zeroValue3
  i3 := by kernel_rfl
  t4 := Try.underlying4
  a4 := Try.isAgg4
  z4 := Try.sizeOf4
  v4 := Try.zeroValue4
  i4 := by kernel_rfl
  t5 := Try.underlying5
  a5 := Try.isAgg5
  z5 := Try.sizeOf5
  v5 := Try.zeroValue5
  i5 := by kernel_rfl
  t9 := Try.underlying9
  a9 := Try.isAgg9
  z9 := Try.sizeOf9
  v9 := Try.zeroValue9
  i9 := by kernel_rfl
  t37 := Try.underlying39
  a37 := Try.isAgg39
  z37 := Try.sizeOf39
  v37 := Try.zeroValue39
  i37 := by kernel_rfl
  t47 := Try.underlying133
  a47 := Try.isAgg133
  z47 := Try.sizeOf133
  v47 := Try.zeroValue133
  i47 := by kernel_rfl }
theorem pkClone_any (s : ByteArray) (hs : s.size ≤ 1000000000000) (w : World) :
    Calls Try.prog 92 #[.string s] w fun o w' => o = .returned (.string s) ∧ Below w.heap.size w w' := by
  have c : ∀ W : World, Calls Try.prog 134 #[.string s] W fun o w' => o = .returned (.string s) ∧ Below W.heap.size W w' := fun W => AnyPu.stringslite_Clone lays25 s W (by omega)
  go_enter Try.func92, Try.ntmps92
  go_wp2_with (first
    | (go_at_call 134; (with_reducible refine (c _).mono ?_); rintro o1 w1 ⟨rfl, hB⟩))
  go_ret
  exact ⟨rfl, hB⟩

/-! ### new, end -/
theorem pkNew_any (s : List UInt8) (w : World) :
    Calls Try.prog 42 #[.string (txt s)] w fun o w' => o = .returned (.pointer (some ⟨w.heap.size, 0, none⟩)) ∧ Rdr w.heap.size s 0 0 w' ∧ Below w.heap.size w w' := by
  have h1 : Rdr w.heap.size s 0 0 (w.alloc (.cells #[.string (txt s), .int .i64 0, .int .i64 0] 108)) := Blk.new _ _ _
  have h2 : Below w.heap.size w (w.alloc (.cells #[.string (txt s), .int .i64 0, .int .i64 0] 108)) := (Below.refl _ _).alloc (Nat.le_refl _) _
  go_enter Try.func42, Try.ntmps42
  go_wp2
  go_ret
  exact ⟨rfl, h1, h2⟩
theorem pkErr_any (g : Nat) (s : List UInt8) (a : Nat) (e : Int) (w : World) (h : Rdr g s a e w) :
    Calls Try.prog 83 #[.pointer (some ⟨g, 0, none⟩)] w fun o w' => o = .returned (.int .i64 e) ∧ w = w' := by
  have c2 := h.c2
  go_enter Try.func83, Try.ntmps83
  go_wp2
  go_ret
  exact ⟨rfl, rfl⟩
/-- What End tells. -/
def endE (s : List UInt8) (a : Nat) (e : Int) : Int := if e = 0 then (if a < s.length then 3 else 0) else e
theorem pkEnd_any (g : Nat) (s : List UInt8) (a : Nat) (e : Int) (ha : a ≤ s.length) (hs : s.length ≤ 1000000000000) (w : World) (h : Rdr g s a e w) :
    Calls Try.prog 51 #[.pointer (some ⟨g, 0, none⟩)] w fun o w' => o = .returned (.int .i64 (endE s a e)) ∧ Step g s a e w w' := by
  have cl := fun W hW => pkLeft_any g s a e ha hs W hW
  obtain ⟨L, hL⟩ : ∃ L : Int, L = ((s.length - a : Nat) : Int) := ⟨_, rfl⟩
  rw [← hL] at cl
  have c2 := h.c2
  unfold endE
  by_cases he : e = 0
  · subst he
    rw [if_pos rfl]
    by_cases h1 : a < s.length
    · rw [if_pos h1]
      have l1 : (0 : Int) < L := by omega
      clear hL h1
      go_enter Try.func51, Try.ntmps51
      go_wp2_with (first
        | (go_at_call 106; (with_reducible refine (cl _ h).mono ?_); rintro o1 w1 ⟨rfl, n, rfl⟩))
      go_ret
      exact ⟨rfl, Step.drew h n⟩
    · rw [if_neg h1]
      have l1 : ¬ (0 : Int) < L := by omega
      clear hL h1
      go_enter Try.func51, Try.ntmps51
      go_wp2_with (first
        | (go_at_call 106; (with_reducible refine (cl _ h).mono ?_); rintro o1 w1 ⟨rfl, n, rfl⟩; have c3 := (h.drewN n).c2))
      go_ret
      exact ⟨rfl, Step.drew h n⟩
  · rw [if_neg he]
    have b : (e == 0) = false := beq_false_of_ne he
    clear he
    go_enter Try.func51, Try.ntmps51
    go_wp2_with (first
      | (go_at_call 106; (with_reducible refine (cl _ h).mono ?_); rintro o1 w1 ⟨rfl, n, rfl⟩))
    go_ret
    exact ⟨rfl, Step.same h⟩

/-! ### a number -/
/-- What a whole reading leaves: what was read, and how many bytes were; or nothing, and what is wrong. -/
def ReadPost {α : Type} (val : α → Value) (zero : Value) (g : Nat) (s : List UInt8) (a : Nat) (w : World) (r : Except Int (α × Nat)) (o : Ending) (w' : World) : Prop :=
  match r with
  | .ok (v, n) => o = .returned (val v) ∧ Step g s (a + n) 0 w w'
  | .error e => o = .returned zero ∧ e ≠ 0 ∧ Step g s a e w w'
def intV (v : Nat) : Value := .int .i64 v
set_option maxHeartbeats 4000000 in
theorem pkReadInt_any (g : Nat) (s : List UInt8) (a : Nat) (hs : s.length ≤ 1000000000000) (ha : a ≤ s.length) (w : World) (hr : Rdr g s a 0 w) :
    Calls Try.prog 88 #[.pointer (some ⟨g, 0, none⟩), .func (.func 89) #[.pointer (some ⟨g, 0, none⟩)] #[]] w fun o w' => ReadPost intV (.int .i64 0) g s a w (scanN 0 0 (s.drop a)) o w' := by
  have hg := enters_of Try.func89 (by kernel_rfl) rfl
  have cN := pkNumber_any g s a hs w hr ha
  have c1 := hr.c1
  have c2 := hr.c2
  cases hsc : scanN 0 0 (s.drop a) with
  | ok p =>
    obtain ⟨v, n⟩ := p
    rw [hsc] at cN
    clear hsc
    go_enter Try.func88, Try.ntmps88
    go_wp2_with (first
      | ((with_reducible refine cN.mono ?_); rintro o1 w1 ⟨rfl, h1⟩; have c3 := h1.r.c2))
    go_ret
    exact ⟨rfl, h1⟩
  | error e =>
    rw [hsc] at cN
    clear hsc
    go_enter Try.func88, Try.ntmps88
    go_wp2_with (first
      | ((with_reducible refine cN.mono ?_); rintro o1 w1 ⟨v, a', rfl, ha', he, h1⟩; have c3 := h1.r.c2; have c4 := h1.r.c1; have f1 := h1.r.f 1; have hne : (e != 0) = true := (by simpa using he)))
    go_ret
    exact ⟨rfl, he, h1.r.setA a, gb_set h1.gb 1 _⟩
theorem pkNum_any (g : Nat) (s : List UInt8) (a : Nat) (hs : s.length ≤ 1000000000000) (ha : a ≤ s.length) (w : World) (hr : Rdr g s a 0 w) :
    Calls Try.prog 44 #[.pointer (some ⟨g, 0, none⟩)] w fun o w' => ReadPost intV (.int .i64 0) g s a w (scanN 0 0 (s.drop a)) o w' := by
  have cR := pkReadInt_any g s a hs ha w hr
  cases hsc : scanN 0 0 (s.drop a) with
  | ok p =>
    obtain ⟨v, n⟩ := p
    rw [hsc] at cR
    clear hsc
    go_enter Try.func44, Try.ntmps44
    go_wp2_with (first
      | (go_at_call 88; (with_reducible refine cR.mono ?_); rintro o1 w1 ⟨rfl, h1⟩))
    go_ret
    exact ⟨rfl, h1⟩
  | error e =>
    rw [hsc] at cR
    clear hsc
    go_enter Try.func44, Try.ntmps44
    go_wp2_with (first
      | (go_at_call 88; (with_reducible refine cR.mono ?_); rintro o1 w1 ⟨rfl, he, h1⟩))
    go_ret
    exact ⟨rfl, he, h1⟩

/-! ### how many there are -/
def cntN (most : Int) (l : List UInt8) : Except Int (Nat × Nat) :=
  match scanN 0 0 l with
  | .ok (v, n) => if most < v then .error 4 else .ok (v, n)
  | .error e => .error e
/-- What counting leaves: the place is of no account where something is wrong. -/
def CntPost (g : Nat) (s : List UInt8) (a : Nat) (w : World) (r : Except Int (Nat × Nat)) (o : Ending) (w' : World) : Prop :=
  match r with
  | .ok (v, n) => o = .returned (.int .i64 v) ∧ Step g s (a + n) 0 w w'
  | .error e => ∃ a', o = .returned (.int .i64 0) ∧ a' ≤ s.length ∧ e ≠ 0 ∧ Step g s a' e w w'
theorem scanN_len (s : List UInt8) (a v n : Nat) (h : scanN 0 0 (s.drop a) = .ok (v, n)) (ha : a ≤ s.length) : a + n ≤ s.length := by
  obtain ⟨k, X, hn, _, hkl, _⟩ := scanN_back _ _ _ _ _ h
  rw [List.length_drop] at hkl
  omega
set_option maxHeartbeats 4000000 in
theorem pkCount_any (g : Nat) (s : List UInt8) (a : Nat) (most : Int) (hs : s.length ≤ 1000000000000) (ha : a ≤ s.length) (w : World) (hr : Rdr g s a 0 w) :
    Calls Try.prog 94 #[.pointer (some ⟨g, 0, none⟩), .int .i64 most] w fun o w' => CntPost g s a w (cntN most (s.drop a)) o w' := by
  have cN := pkNumber_any g s a hs w hr ha
  unfold cntN
  cases hsc : scanN 0 0 (s.drop a) with
  | ok p =>
    obtain ⟨v, n⟩ := p
    have hln := scanN_len s a v n hsc ha
    rw [hsc] at cN
    clear hsc
    by_cases hm : most < v
    · simp only [if_pos hm]
      go_enter Try.func94, Try.ntmps94
      go_wp2_with (first
        | (go_at_call 89; (with_reducible refine cN.mono ?_); rintro o1 w1 ⟨rfl, h1⟩; have hz := h1.r)
        | (go_at_call 133; (with_reducible refine (pkFail_new g s _ 4 _ hz).mono ?_); rintro o2 w2 ⟨rfl, hn, hg⟩; have c2 := hn.c2))
      go_ret
      exact ⟨_, rfl, hln, by decide, h1.trans ⟨hn, hg⟩⟩
    · simp only [if_neg hm]
      go_enter Try.func94, Try.ntmps94
      go_wp2_with (first
        | (go_at_call 89; (with_reducible refine cN.mono ?_); rintro o1 w1 ⟨rfl, h1⟩; have c2 := h1.r.c2))
      go_ret
      exact ⟨rfl, h1⟩
  | error e =>
    rw [hsc] at cN
    clear hsc
    go_enter Try.func94, Try.ntmps94
    go_wp2_with (first
      | (go_at_call 89; (with_reducible refine cN.mono ?_); rintro o1 w1 ⟨v, a', rfl, ha', he, h1⟩; have c2 := h1.r.c2; have hn := h1.r; have hne : (e != 0) = true := (by simpa using he))
      | (go_at_call 133; (with_reducible refine (pkFail_old g s _ e 4 he _ hn).mono ?_); rintro o2 w2 ⟨rfl, rfl⟩))
    all_goals (
      go_ret
      exact ⟨_, rfl, ha', he, h1⟩)
end Go.Proofs.Ytjofobfflnnjhaa


/- pack: a reader's rows, bytes, ids, texts; reading back -/
import Derived.Test.YtemdmdgigmhlbaaGreatPkW
import Derived.Test.YtemdmdgigmhlbaaGreatId7
import Derived.Test.YtemdmdgigmhlbaaGreatLamA
set_option linter.unusedSimpArgs false
set_option linter.unusedVariables false
namespace Go.Proofs.YtemdmdgigmhlbaaGreat
open Go.RowKit Go.Qc Go.Shelf
attribute [local go_sem] txt_size txt_append ib_fold

/-! ### a byte -/
def byteR (l : List UInt8) : Except Int (UInt8 × Nat) := match l with | [] => .error 2 | x :: _ => .ok (x, 1)
theorem byteR_at {s : List UInt8} {a : Nat} {x : UInt8} (h : s[a]? = some x) : byteR (s.drop a) = .ok (x, 1) := by
  have hlt : a < s.length := (List.getElem?_eq_some_iff.1 h).1
  rw [List.drop_eq_getElem_cons hlt]
  rw [List.getElem?_eq_getElem hlt] at h
  rw [Option.some.inj h]; rfl
theorem byteR_end {s : List UInt8} {a : Nat} (h : s.length ≤ a) : byteR (s.drop a) = .error 2 := by rw [List.drop_of_length_le h]; rfl
set_option maxHeartbeats 4000000 in
theorem pkByteR_any (g : Nat) (s : List UInt8) (a : Nat) (hs : s.length ≤ 1000000000000) (ha : a ≤ s.length) (w : World) (hr : Rdr g s a 0 w) :
    Calls Tryz.prog 55 #[.pointer (some ⟨g, 0, none⟩)] w fun o w' => ReadPost u8v (.int .u8 0) g s a w (byteR (s.drop a)) o w' := by
  have hg := enters_of Tryz.func68 (by kernel_rfl) rfl
  have c1 := hr.c1
  have c2 := hr.c2
  have cR : Calls Tryz.prog 67 #[.pointer (some ⟨g, 0, none⟩), .func (.func 68) #[.pointer (some ⟨g, 0, none⟩)] #[]] w fun o w' => ReadPost u8v (.int .u8 0) g s a w (byteR (s.drop a)) o w' := by
    by_cases hlt : a < s.length
    · obtain ⟨x, hx⟩ : ∃ x, s[a]? = some x := ⟨_, List.getElem?_eq_getElem hlt⟩
      rw [byteR_at hx]
      have cN := pkOctet_ok g s a 0 x hx hs w hr
      clear hx hlt
      go_enter Tryz.func67, Tryz.ntmps67
      go_wp2_with (first
        | ((with_reducible refine cN.mono ?_); rintro o1 w1 ⟨rfl, h1⟩; have c3 := h1.r.c2))
      go_ret
      exact ⟨rfl, h1⟩
    · obtain rfl : a = s.length := by omega
      rw [byteR_end (Nat.le_refl _)]
      have cN := pkOctet_no g s 0 hs w hr
      clear hlt
      go_enter Tryz.func67, Tryz.ntmps67
      go_wp2_with (first
        | ((with_reducible refine cN.mono ?_); rintro o1 w1 ⟨rfl, h1⟩; have h2 : Step g s s.length 2 w w1 := h1; have c3 := h2.r.c2; have c4 := h2.r.c1; have f1 := h2.r.f 1))
      go_ret
      exact ⟨rfl, by decide, h2.r.setA s.length, gb_set h2.gb 1 _⟩
  cases hb : byteR (s.drop a) with
  | ok p =>
    obtain ⟨v, n⟩ := p
    rw [hb] at cR
    clear hb c1 c2
    go_enter Tryz.func55, Tryz.ntmps55
    go_wp2_with (first
      | (go_at_call 67; (with_reducible refine cR.mono ?_); rintro o1 w1 ⟨rfl, h1⟩))
    go_ret
    exact ⟨rfl, h1⟩
  | error e =>
    rw [hb] at cR
    clear hb c1 c2
    go_enter Tryz.func55, Tryz.ntmps55
    go_wp2_with (first
      | (go_at_call 67; (with_reducible refine cR.mono ?_); rintro o1 w1 ⟨rfl, he, h1⟩))
    go_ret
    exact ⟨rfl, he, h1⟩

/-! ### a truth -/
end Go.Proofs.YtemdmdgigmhlbaaGreat

namespace Go.Proofs.YtemdmdgigmhlbaaGreat
open Go.RowKit Go.Qc Go.Shelf
attribute [local go_sem] txt_size txt_append ib_fold

theorem Step.new {g k : Nat} {s : List UInt8} {a : Nat} {e : Int} {w w1 w2 : World} (h : Step g s a e w w1) (hg : w1.grownBy w2 (some k)) (hk : w.heap.size ≤ k) (hl : g < w.heap.size) : Step g s a e w w2 :=
  ⟨blk_gb h.r hg (by omega), ⟨hg.os.trans h.gb.os, hg.tape.trans h.gb.tape, hg.output.trans h.gb.output, Nat.le_trans h.gb.size hg.size, fun i hi hne =>
    (hg.block i (Nat.lt_of_lt_of_le hi h.gb.size) (fun e => by have := Option.some.inj e; omega)).trans (h.gb.block i hi hne)⟩⟩
def idR (l : List UInt8) : Except Int (List UInt8 × Nat) := if 32 ≤ l.length then .ok (l.take 32, 32) else .error 2
end Go.Proofs.YtemdmdgigmhlbaaGreat

namespace Go.Proofs.YtemdmdgigmhlbaaGreat
open Go.RowKit Go.Qc Go.Shelf
attribute [local go_sem] txt_size txt_append ib_fold

/-! ### rows -/
/-- So many items, one behind the other, each as one is read. -/
def rowR {α : Type} (item : List UInt8 → Except Int (α × Nat)) : Nat → List UInt8 → Except Int (List α × Nat)
  | 0, _ => .ok ([], 0)
  | n + 1, l =>
    match item l with
    | .error e => .error e
    | .ok (x, k) =>
      match rowR item n (l.drop k) with
      | .error e => .error e
      | .ok (xs, m) => .ok (x :: xs, k + m)
/-- A row: how many of at most so many, and the items. -/
def rowsR {α : Type} (item : List UInt8 → Except Int (α × Nat)) (most : Int) (l : List UInt8) : Except Int (List α × Nat) :=
  match cntN most l with
  | .error e => .error e
  | .ok (n, k) =>
    match rowR item n (l.drop k) with
    | .error e => .error e
    | .ok (xs, m) => .ok (xs, k + m)
theorem gb_new {w w1 w2 : World} {g : Nat} {row : Option Nat} (h : w.grownBy w1 (some g)) (hg : w1.grownBy w2 row) (hrow : ∀ k, row = some k → w.heap.size ≤ k) : w.grownBy w2 (some g) :=
  ⟨hg.os.trans h.os, hg.tape.trans h.tape, hg.output.trans h.output, Nat.le_trans h.size hg.size, fun i hi hne =>
    (hg.block i (Nat.lt_of_lt_of_le hi h.size) (fun e => by have := hrow i e.symm; omega)).trans (h.block i hi hne)⟩
theorem Step.row {g : Nat} {s : List UInt8} {a : Nat} {e : Int} {w w1 w2 : World} {row : Option Nat} (h : Step g s a e w w1) (hg : w1.grownBy w2 row) (hrow : ∀ k, row = some k → w.heap.size ≤ k) (hl : g < w.heap.size) : Step g s a e w w2 :=
  ⟨(hg.block g h.r.lt (fun e => by have := hrow g e.symm; omega)).trans h.r, gb_new h.gb hg hrow⟩
end Go.Proofs.YtemdmdgigmhlbaaGreat

namespace Go.Proofs.YtemdmdgigmhlbaaGreat
open Go.RowKit Go.Qc Go.Shelf
attribute [local go_sem] txt_size txt_append ib_fold

end Go.Proofs.YtemdmdgigmhlbaaGreat

namespace Go.Proofs.YtemdmdgigmhlbaaGreat
open Go.RowKit Go.Qc Go.Shelf
attribute [local go_sem] txt_size txt_append ib_fold

theorem Step.old {g : Nat} {s : List UInt8} {a : Nat} {e : Int} {w w1 w2 : World} (h : Step g s a e w w1) (hb : Below w.heap.size w1 w2) (hl : g < w.heap.size) : Step g s a e w w2 :=
  ⟨(hb.block g hl).trans h.r, ⟨hb.os.trans h.gb.os, hb.tape.trans h.gb.tape, hb.output.trans h.gb.output, Nat.le_trans h.gb.size hb.size, fun i hi hne => (hb.block i hi).trans (h.gb.block i hi hne)⟩⟩
theorem textR_len {long : Int} {s : List UInt8} {a : Nat} {t : List UInt8} {m : Nat} (h : textR long (s.drop a) = .ok (t, m)) (ha : a ≤ s.length) : 1 ≤ m ∧ a + m ≤ s.length := by
  unfold textR cntN at h
  cases hsc : scanN 0 0 (s.drop a) with
  | error e => rw [hsc] at h; cases h
  | ok p =>
    obtain ⟨v, k0⟩ := p
    rw [hsc] at h
    obtain ⟨k, X, hn, hk, hkl, _⟩ := scanN_back _ _ _ _ _ hsc
    simp only at h
    split at h
    · rename_i v2 n2 heq
      split at heq
      · cases heq
      · injection heq with heq
        injection heq with q1 q2
        subst q1 q2
        split at h
        · rename_i hle
          injection h with h
          injection h with q3 q4
          rw [List.length_drop] at hle
          omega
        · cases h
    · rename_i heq
      split at heq
      · injection heq with heq; subst heq; cases h
      · cases heq
end Go.Proofs.YtemdmdgigmhlbaaGreat

namespace Go.Proofs.YtemdmdgigmhlbaaGreat
open Go.RowKit Go.Qc Go.Shelf
attribute [local go_sem] txt_size txt_append ib_fold

end Go.Proofs.YtemdmdgigmhlbaaGreat

namespace Go.Proofs.YtemdmdgigmhlbaaGreat
open Go.RowKit Go.Qc Go.Shelf
attribute [local go_sem] txt_size txt_append ib_fold

theorem scanN_back0 (x : Nat) (hx : x ≤ 4611686018427387904) (rest : List UInt8) : scanN 0 0 (numE x ++ rest) = .ok (x, (numE x).length) := by
  have := scanN_write x x (Nat.le_refl _) rest 0 0 (by simpa using hx) (by simp)
  simpa using this
theorem cntN_back (most : Int) (x : Nat) (hx : x ≤ 4611686018427387904) (hm : (x : Int) ≤ most) (rest : List UInt8) : cntN most (numE x ++ rest) = .ok (x, (numE x).length) := by
  unfold cntN
  rw [scanN_back0 x hx rest]
  simp only
  rw [if_neg (by omega)]
theorem textR_back (most : Int) (t : List UInt8) (ht : t.length ≤ 4611686018427387904) (hm : (t.length : Int) ≤ most) (rest : List UInt8) : textR most (textE t ++ rest) = .ok (t, (textE t).length) := by
  unfold textR textE
  rw [List.append_assoc, cntN_back most t.length ht hm]
  simp only
  rw [if_pos (by simp only [List.length_append]; omega), List.drop_left, List.take_left, List.length_append]
theorem pkPlace_any (g : Nat) (s : List UInt8) (a : Nat) (e : Int) (w : World) (h : Rdr g s a e w) :
    Calls Tryz.prog 38 #[.pointer (some ⟨g, 0, none⟩)] w fun o w' => o = .returned (.int .i64 (a : Int)) ∧ w = w' := by
  have c1 := h.c1
  go_enter Tryz.func38, Tryz.ntmps38
  go_wp2
  go_ret
  exact ⟨rfl, rfl⟩
end Go.Proofs.YtemdmdgigmhlbaaGreat

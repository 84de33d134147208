
/- path: what is called of the library: a text cut at its first slash, its last slash, a prefix cut off, rows of texts compared. -/
import Derived.Test.YtjaenffdbhgmeaaPa1
import Derived.Shelf.Strings.Search3
import Derived.Shelf.Strings.LastIndex
import Derived.Shelf.Small.Wraps
import Derived.Shelf.Slices.Equal
import Derived.Shelf.Slices.Empties2
namespace Go.Proofs.Ytjaenffdbhgmeaa
open Go.RowKit Go.Qc Go.Shelf
attribute [local go_sem] txt_size txt_append ib_fold txt_toL
def lays219_ren : Go.Shelf.Ren := ⟨fun | 219 => 136 | 217 => 145 | 225 => 146 | 224 => 147 | 267 => 148 | 266 => 152 | 314 => 153 | n => n, fun | 9 => 9 | 3 => 3 | 4 => 4 | 5 => 5 | 46 => 189 | 146 => 204 | 51 => 186 | n => n, fun | 1 => 0 | n => n⟩
theorem lays219 : Go.Proofs.Lays.n219 Try.prog lays219_ren := {
  mixed := by kernel_rfl
  f217 := Try.func145.trans (congrArg some (by kernel_rfl))
  f219 := Try.func136.trans (congrArg some (by kernel_rfl))
  f224 := Try.func147.trans (congrArg some (by kernel_rfl))
  f225 := Try.func146.trans (congrArg some (by kernel_rfl))
  f266 := Try.func152.trans (congrArg some (by kernel_rfl))
  f267 := Try.func148.trans (congrArg some (by kernel_rfl))
  f314 := Try.func153.trans (congrArg some (by kernel_rfl))
  t3 := Try.underlying3
  a3 := Try.isAgg3
  z3 := Try.sizeOf3
  v3 := Try.zeroValue3
  t4 := Try.underlying4
  a4 := Try.isAgg4
  z4 := Try.sizeOf4
  v4 := Try.zeroValue4
  t5 := Try.underlying5
  a5 := Try.isAgg5
  z5 := Try.sizeOf5
  v5 := Try.zeroValue5
  t9 := Try.underlying9
  a9 := Try.isAgg9
  z9 := Try.sizeOf9
  v9 := Try.zeroValue9
  t46 := Try.underlying189
  a46 := Try.isAgg189
  z46 := Try.sizeOf189
  v46 := Try.zeroValue189
  t51 := Try.underlying186
  a51 := Try.isAgg186
  z51 := Try.sizeOf186
  v51 := Try.zeroValue186
  t146 := Try.underlying204
  a146 := Try.isAgg204
  z146 := Try.sizeOf204
  v146 := Try.zeroValue204
  g1 := by kernel_rfl }
def lays144_ren : Go.Shelf.Ren := ⟨fun | 144 => 79 | 143 => 112 | 219 => 136 | 217 => 145 | 225 => 146 | 224 => 147 | 267 => 148 | 266 => 152 | 314 => 153 | n => n, fun | 9 => 9 | 4 => 4 | 3 => 3 | 5 => 5 | 46 => 189 | 146 => 204 | 51 => 186 | n => n, fun | 1 => 0 | n => n⟩
theorem lays144 : Go.Proofs.Lays.n144 Try.prog lays144_ren := {
  mixed := by kernel_rfl
  f143 := Try.func112.trans (congrArg some (by kernel_rfl))
  f144 := Try.func79.trans (congrArg some (by kernel_rfl))
  f217 := Try.func145.trans (congrArg some (by kernel_rfl))
  f219 := Try.func136.trans (congrArg some (by kernel_rfl))
  f224 := Try.func147.trans (congrArg some (by kernel_rfl))
  f225 := Try.func146.trans (congrArg some (by kernel_rfl))
  f266 := Try.func152.trans (congrArg some (by kernel_rfl))
  f267 := Try.func148.trans (congrArg some (by kernel_rfl))
  f314 := Try.func153.trans (congrArg some (by kernel_rfl))
  t3 := Try.underlying3
  a3 := Try.isAgg3
  z3 := Try.sizeOf3
  v3 := Try.zeroValue3
  t4 := Try.underlying4
  a4 := Try.isAgg4
  z4 := Try.sizeOf4
  v4 := Try.zeroValue4
  t5 := Try.underlying5
  a5 := Try.isAgg5
  z5 := Try.sizeOf5
  v5 := Try.zeroValue5
  t9 := Try.underlying9
  a9 := Try.isAgg9
  z9 := Try.sizeOf9
  v9 := Try.zeroValue9
  t46 := Try.underlying189
  a46 := Try.isAgg189
  z46 := Try.sizeOf189
  v46 := Try.zeroValue189
  t51 := Try.underlying186
  a51 := Try.isAgg186
  z51 := Try.sizeOf186
  v51 := Try.zeroValue186
  t146 := Try.underlying204
  a146 := Try.isAgg204
  z146 := Try.sizeOf204
  v146 := Try.zeroValue204
  g1 := by kernel_rfl }
def lays193_ren : Go.Shelf.Ren := ⟨fun | 193 => 85 | n => n, fun | 31 => 37 | 9 => 9 | 4 => 4 | 3 => 3 | 0 => 0 | n => n, fun | n => n⟩
theorem lays193 : Go.Proofs.Lays.n193 Try.prog lays193_ren := {
  mixed := by kernel_rfl
  f193 := Try.func85.trans (congrArg some (by kernel_rfl))
  t0 := Try.underlying0
  a0 := Try.isAgg0
  z0 := Try.sizeOf0
  v0 := Try.zeroValue0
  t3 := Try.underlying3
  a3 := Try.isAgg3
  z3 := Try.sizeOf3
  v3 := Try.zeroValue3
  t4 := Try.underlying4
  a4 := Try.isAgg4
  z4 := Try.sizeOf4
  v4 := Try.zeroValue4
  t9 := Try.underlying9
  a9 := Try.isAgg9
  z9 := Try.sizeOf9
  v9 := Try.zeroValue9
  t31 := Try.underlying37
  a31 := Try.isAgg37
  z31 := Try.sizeOf37
  v31 := Try.zeroValue37 }

theorem txt_data (l : List UInt8) : (txt l).data.toList = l := by simp [txt]
/-! ### a text in parts -/
def splitS : List UInt8 → List (List UInt8)
  | [] => [[]]
  | b :: l => if b = 47 then [] :: splitS l else match splitS l with
    | [] => [[b]]
    | x :: xs => (b :: x) :: xs
theorem splitS_ne (l : List UInt8) : splitS l ≠ [] := by
  cases l with
  | nil => simp [splitS]
  | cons b l =>
    rw [splitS]
    split
    · simp
    · split <;> simp
/-- The first slash: there is none, and the text is its only part; or it parts the text. -/
theorem splitS_cut (l : List UInt8) : (Lib.indexByte l 47 = -1 ∧ splitS l = [l]) ∨ ∃ i : Nat, i < l.length ∧ Lib.indexByte l 47 = i ∧ splitS l = l.take i :: splitS (l.drop (i + 1)) := by
  induction l with
  | nil => exact .inl ⟨rfl, rfl⟩
  | cons b l ih =>
    by_cases hb : b = 47
    · subst hb
      refine .inr ⟨0, by simp, by simp [Lib.indexByte], ?_⟩
      rw [splitS, if_pos rfl]; rfl
    · have h1 : (b == 47) = false := beq_eq_false_iff_ne.2 hb
      rcases ih with ⟨h, hs⟩ | ⟨i, hi, h, hs⟩
      · refine .inl ⟨by simp [Lib.indexByte, h1, h], ?_⟩
        rw [splitS, if_neg hb, hs]
      · refine .inr ⟨i + 1, by simp; omega, ?_, ?_⟩
        · have h2 : ((i : Int) == -1) = false := by rw [beq_eq_false_iff_ne]; omega
          simp [Lib.indexByte, h1, h, h2]
        · rw [splitS, if_neg hb, hs]; simp
theorem index_any (l : List UInt8) (w : World) :
    Calls Try.prog 136 #[.string (txt l), .string ⟨#[47]⟩] w fun e w' => e = .returned (.int .i64 (Lib.indexByte l 47)) ∧ w = w' := by
  have := Any.stringslite_Index_one lays219 (txt l) 47 w
  rw [txt_data] at this
  exact this.mono (by rintro e w' ⟨h, rfl⟩; exact ⟨h, rfl⟩)
theorem slice_to (l : List UInt8) (i : Nat) : (txt l).extract 0 i = txt (l.take i) := by
  rw [txt_extract]; simp
theorem slice_from (l : List UInt8) (i : Nat) : (txt l).extract i (txt l).size = txt (l.drop i) := by
  rw [txt_extract, txt_size, List.take_of_length_le (by rw [List.length_drop]; omega)]
/-- What Cut tells of a text: its first part, what is behind, whether there is more. -/
def cutA (l : List UInt8) : List UInt8 := if Lib.indexByte l 47 = -1 then l else l.take (Lib.indexByte l 47).toNat
def cutR (l : List UInt8) : List UInt8 := if Lib.indexByte l 47 = -1 then [] else l.drop ((Lib.indexByte l 47).toNat + 1)
def cutM (l : List UInt8) : Bool := !decide (Lib.indexByte l 47 = -1)
theorem splitS_eq (l : List UInt8) : splitS l = if cutM l then cutA l :: splitS (cutR l) else [cutA l] := by
  unfold cutA cutR cutM
  rcases splitS_cut l with ⟨h, hs⟩ | ⟨i, hi, h, hs⟩
  · rw [if_pos h, if_pos h, decide_eq_true h, hs]; rfl
  · have hn : ¬ Lib.indexByte l 47 = -1 := by omega
    rw [if_neg hn, if_neg hn, decide_eq_false hn, h, hs]; rfl
theorem cutR_len (l : List UInt8) : (cutR l).length + (if cutM l then 1 else 0) ≤ l.length := by
  unfold cutR cutM
  rcases splitS_cut l with ⟨h, _⟩ | ⟨i, hi, h, _⟩
  · rw [if_pos h, decide_eq_true h]; simp
  · have hn : ¬ Lib.indexByte l 47 = -1 := by omega
    rw [if_neg hn, decide_eq_false hn, h]; simp; omega
theorem cutA_len (l : List UInt8) : (cutA l).length ≤ l.length := by
  unfold cutA; split
  · exact Nat.le_refl _
  · rw [List.length_take]; omega
theorem splitS_len (l : List UInt8) : ∀ x ∈ splitS l, x.length ≤ l.length := by
  induction l with
  | nil => simp [splitS]
  | cons b l ih =>
    rw [splitS]
    split
    · intro x hx
      simp at hx
      rcases hx with rfl | hx
      · simp
      · have := ih x hx; simp; omega
    · split
      · rename_i h; exact absurd h (splitS_ne l)
      · rename_i y ys h
        intro x hx
        simp at hx
        rcases hx with rfl | hx
        · have := ih y (by rw [h]; simp); simp; omega
        · have := ih x (by rw [h]; simp [hx]); simp; omega
end Go.Proofs.Ytjaenffdbhgmeaa


/- Proved: for every two names and rows of parts, quitclaimlaw03.TagApart returns true and leaves its arguments as they were. No conditions. -/
import Derived.Test.YtkbokffonnjjiaaTag2
import Derived.Test.YtkbokffonnjjiaaKit4
namespace Go.Proofs.Ytkbokffonnjjiaa
open Go.RowKit Go.Qc
theorem txt_loop (l : List UInt8) : ∀ (k i : Nat) (r : List UInt8), l.length - i = k → ByteArray.toList.loop (txt l) i r = r.reverse ++ l.drop i := by
  intro k
  induction k with
  | zero =>
    intro i r h
    unfold ByteArray.toList.loop
    rw [if_neg (by rw [txt_size]; omega), List.drop_of_length_le (by omega), List.append_nil]
  | succ k ih =>
    intro i r h
    unfold ByteArray.toList.loop
    rw [if_pos (by rw [txt_size]; omega), ih (i + 1) _ (by omega), List.reverse_cons, List.append_assoc]
    have hi : i < l.length := by omega
    have hg : (txt l).get! i = l[i] := by
      show l.toArray[i]! = l[i]
      simp [hi]
    rw [hg, List.drop_eq_getElem_cons hi]
    rfl
theorem txt_toList (l : List UInt8) : (txt l).toList = l := by
  unfold ByteArray.toList
  rw [txt_loop l _ 0 [] rfl]
  rfl
attribute [local go_sem] txt_size txt_inj txt_toList

theorem numB8_inj (a b : Nat) (ha : a ≤ 1000000000000) (hb : b ≤ 1000000000000) (h : numB (BitVec.ofNat 64 a) 8 = numB (BitVec.ofNat 64 b) 8) : a = b := by
  have e := valB_num (BitVec.ofNat 64 a) 8
  have f := valB_num (BitVec.ofNat 64 b) 8
  have z : ∀ n : Nat, BitVec.ofNat 64 n >>> (8 * 8) = 0#64 := fun n => by rw [fits_iff]; exact (BitVec.ofNat 64 n).isLt
  rw [z] at e f
  rw [h, f] at e
  have := congrArg BitVec.toNat e
  rw [BitVec.toNat_ofNat, BitVec.toNat_ofNat] at this
  omega
theorem parts_inj : ∀ (ps qs : List (List UInt8)), (∀ p ∈ ps, p.length ≤ 1000000000000) → (∀ p ∈ qs, p.length ≤ 1000000000000) → ps.flatMap partB = qs.flatMap partB → ps = qs
  | [], [], _, _, _ => rfl
  | [], q :: qs, _, _, h => by have := congrArg List.length h; rw [List.flatMap_cons, List.length_append, partB_length] at this; simp only [List.flatMap_nil, List.length_nil] at this; omega
  | p :: ps, [], _, _, h => by have := congrArg List.length h; rw [List.flatMap_cons, List.length_append, partB_length] at this; simp only [List.flatMap_nil, List.length_nil] at this; omega
  | p :: ps, q :: qs, hp, hq, h => by
    rw [List.flatMap_cons, List.flatMap_cons, partB, partB, List.append_assoc, List.append_assoc] at h
    obtain ⟨h1, h2⟩ := List.append_inj h (by rw [numB_length, numB_length])
    have hl := numB8_inj _ _ (hp p (by simp)) (hq q (by simp)) h1
    obtain ⟨h3, h4⟩ := List.append_inj h2 hl
    rw [h3, parts_inj ps qs (fun x hx => hp x (by simp [hx])) (fun x hx => hq x (by simp [hx])) h4]
theorem textB_inj (nm om : List UInt8) (ps qs : List (List UInt8)) (h1 : nm.length ≤ 255) (h2 : om.length ≤ 255) (hp : ∀ p ∈ ps, p.length ≤ 1000000000000) (hq : ∀ p ∈ qs, p.length ≤ 1000000000000) :
    (textB nm ps = textB om qs) = (nm = om ∧ ps = qs) := by
  apply propext
  constructor
  · intro h
    rw [textB, textB, List.append_assoc, List.append_assoc] at h
    obtain ⟨ha, hb⟩ := List.append_inj h (by simp)
    have hl : nm.length = om.length := by
      have := List.head_eq_of_cons_eq ha
      have := congrArg UInt8.toNat this
      rw [UInt8.toNat_ofNat', UInt8.toNat_ofNat'] at this
      omega
    obtain ⟨hc, hd⟩ := List.append_inj hb hl
    exact ⟨hc, parts_inj ps qs hp hq hd⟩
  · rintro ⟨rfl, rfl⟩; rfl
open Go.ChangeShapes Go.WideShapes Go.ChangeAt
open Go.ChangeMaps (open_string shut_string)
end Go.Proofs.Ytkbokffonnjjiaa

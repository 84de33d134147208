
/- The plain mathematics of layer 2: words that grow, rounds, blocks, sums. -/
import Derived.Test.YticpdepbgcagaaaGreatWords
namespace Go.Proofs.YticpdepbgcagaaaGreat
open Go.RowKit Go.Qc

/-- Turned to the right. -/
def rotr (x : BitVec 32) (k : Nat) : BitVec 32 := rotl x (32 - k)
def sg0 (x : BitVec 32) : BitVec 32 := rotr x 7 ^^^ rotr x 18 ^^^ x >>> 3
def sg1 (x : BitVec 32) : BitVec 32 := rotr x 17 ^^^ rotr x 19 ^^^ x >>> 10
def kList : List (BitVec 32) := [0x428a2f98#32, 0x71374491#32, 0xb5c0fbcf#32, 0xe9b5dba5#32, 0x3956c25b#32, 0x59f111f1#32, 0x923f82a4#32, 0xab1c5ed5#32, 0xd807aa98#32, 0x12835b01#32, 0x243185be#32, 0x550c7dc3#32, 0x72be5d74#32, 0x80deb1fe#32, 0x9bdc06a7#32, 0xc19bf174#32, 0xe49b69c1#32, 0xefbe4786#32, 0x0fc19dc6#32, 0x240ca1cc#32, 0x2de92c6f#32, 0x4a7484aa#32, 0x5cb0a9dc#32, 0x76f988da#32, 0x983e5152#32, 0xa831c66d#32, 0xb00327c8#32, 0xbf597fc7#32, 0xc6e00bf3#32, 0xd5a79147#32, 0x06ca6351#32, 0x14292967#32, 0x27b70a85#32, 0x2e1b2138#32, 0x4d2c6dfc#32, 0x53380d13#32, 0x650a7354#32, 0x766a0abb#32, 0x81c2c92e#32, 0x92722c85#32, 0xa2bfe8a1#32, 0xa81a664b#32, 0xc24b8b70#32, 0xc76c51a3#32, 0xd192e819#32, 0xd6990624#32, 0xf40e3585#32, 0x106aa070#32, 0x19a4c116#32, 0x1e376c08#32, 0x2748774c#32, 0x34b0bcb5#32, 0x391c0cb3#32, 0x4ed8aa4a#32, 0x5b9cca4f#32, 0x682e6ff3#32, 0x748f82ee#32, 0x78a5636f#32, 0x84c87814#32, 0x8cc70208#32, 0x90befffa#32, 0xa4506ceb#32, 0xbef9a3f7#32, 0xc67178f2#32]
/-- One word more, out of those that there are (sixteen at least). -/
def more (l : List (BitVec 32)) : BitVec 32 := l.getD (l.length - 16) 0#32 + sg0 (l.getD (l.length - 15) 0#32) + l.getD (l.length - 7) 0#32 + sg1 (l.getD (l.length - 2) 0#32)
def grow (m : List (BitVec 32)) : Nat → List (BitVec 32)
  | 0 => m
  | n + 1 => grow m n ++ [more (grow m n)]
theorem grow_length (m : List (BitVec 32)) : ∀ n, (grow m n).length = m.length + n
  | 0 => rfl
  | n + 1 => by rw [grow, List.length_append, grow_length m n]; rfl

/-- The eight words. -/
structure S8 where
  (a b c d e f g h : BitVec 32)
def S8.list (s : S8) : List (BitVec 32) := [s.a, s.b, s.c, s.d, s.e, s.f, s.g, s.h]
def S8.add (s t : S8) : S8 := ⟨s.a + t.a, s.b + t.b, s.c + t.c, s.d + t.d, s.e + t.e, s.f + t.f, s.g + t.g, s.h + t.h⟩
def xOf (s : S8) (k w : BitVec 32) : BitVec 32 := s.h + (rotr s.e 6 ^^^ rotr s.e 11 ^^^ rotr s.e 25) + (s.e &&& s.f ^^^ ~~~s.e &&& s.g) + k + w
def yOf (s : S8) : BitVec 32 := rotr s.a 2 ^^^ rotr s.a 13 ^^^ rotr s.a 22
def zOf (s : S8) : BitVec 32 := s.a &&& s.b ^^^ s.a &&& s.c ^^^ s.b &&& s.c
def rnd (s : S8) (k w : BitVec 32) : S8 := ⟨xOf s k w + (yOf s + zOf s), s.a, s.b, s.c, s.d + xOf s k w, s.e, s.f, s.g⟩
def rnds (s : S8) (w : List (BitVec 32)) : Nat → S8
  | 0 => s
  | n + 1 => rnd (rnds s w n) (kList.getD n 0#32) (w.getD n 0#32)
/-- A block of sixteen words taken in. -/
def blk (s : S8) (m : List (BitVec 32)) : S8 := s.add (rnds s (grow m 48) 64)
def h0 : S8 := ⟨0x6a09e667#32, 0xbb67ae85#32, 0x3c6ef372#32, 0xa54ff53a#32, 0x510e527f#32, 0x9b05688c#32, 0x1f83d9ab#32, 0x5be0cd19#32⟩

/-- Bytes as words. -/
def unW : Nat → List UInt8 → List (BitVec 32)
  | 0, _ => []
  | n + 1, l => mk4 (l.getD 0 0) (l.getD 1 0) (l.getD 2 0) (l.getD 3 0) :: unW n (l.drop 4)
theorem unW_length : ∀ n l, (unW n l).length = n
  | 0, _ => rfl
  | n + 1, l => by rw [unW, List.length_cons, unW_length n]
theorem wordsB_unW : ∀ (n : Nat) (l : List UInt8), l.length = 4 * n → wordsB (unW n l) = l
  | 0, l, h => by rw [List.eq_nil_of_length_eq_zero (show l.length = 0 by omega)]; rfl
  | n + 1, l, h => by
    match l, h with
    | b0 :: b1 :: b2 :: b3 :: l, h =>
      have ih := wordsB_unW n l (by simp at h; omega)
      rw [unW]
      show wordsB (mk4 b0 b1 b2 b3 :: unW n l) = _
      rw [show wordsB (mk4 b0 b1 b2 b3 :: unW n l) = wordB (mk4 b0 b1 b2 b3) ++ wordsB (unW n l) by simp [wordsB], wordB_mk4, ih]; rfl
    | [], h => simp at h
    | [_], h => simp at h; omega
    | [_, _], h => simp at h; omega
    | [_, _, _], h => simp at h; omega

/-- All whole blocks of some bytes, taken in. -/
def feedN (s : S8) (l : List UInt8) : Nat → S8
  | 0 => s
  | n + 1 => blk (feedN s l n) (unW 16 ((l.drop (64 * n)).take 64))
def feed (s : S8) (l : List UInt8) : S8 := feedN s l (l.length / 64)
theorem feedN_pre (s : S8) (l r : List UInt8) : ∀ n, 64 * n ≤ l.length → feedN s (l ++ r) n = feedN s l n
  | 0, _ => rfl
  | n + 1, h => by
    rw [feedN, feedN, feedN_pre s l r n (by omega), List.drop_append_of_le_length (by omega), List.take_append_of_le_length (by rw [List.length_drop]; omega)]
/-- The rest behind the whole blocks. -/
def rest (l : List UInt8) : List UInt8 := l.drop (64 * (l.length / 64))
theorem rest_length (l : List UInt8) : (rest l).length = l.length % 64 := by unfold rest; rw [List.length_drop]; omega
theorem feed_short (s : S8) (l r : List UInt8) (h : l.length % 64 + r.length < 64) : feed s (l ++ r) = feed s l := by
  unfold feed
  rw [List.length_append, show (l.length + r.length) / 64 = l.length / 64 by omega, feedN_pre s l r _ (by omega)]
theorem rest_short (l r : List UInt8) (h : l.length % 64 + r.length < 64) : rest (l ++ r) = rest l ++ r := by
  unfold rest
  rw [List.length_append, show (l.length + r.length) / 64 = l.length / 64 by omega, List.drop_append_of_le_length (by omega)]
theorem feed_full (s : S8) (l r : List UInt8) (h : l.length % 64 + r.length = 64) : feed s (l ++ r) = blk (feed s l) (unW 16 (rest l ++ r)) := by
  unfold feed
  rw [List.length_append, show (l.length + r.length) / 64 = l.length / 64 + 1 by omega, feedN, feedN_pre s l r _ (by omega), List.drop_append_of_le_length (by omega)]
  rw [List.take_of_length_le]
  · rfl
  · rw [List.length_append, List.length_drop]; omega
theorem rest_full (l r : List UInt8) (h : (l.length + r.length) % 64 = 0) : rest (l ++ r) = [] := by
  apply List.eq_nil_of_length_eq_zero
  rw [rest_length, List.length_append, h]

/-- What a text of so many bytes is padded with; its sum. -/
def padB (n : Nat) : List UInt8 := 128 :: List.replicate ((119 - n % 64) % 64) 0 ++ numB (BitVec.ofNat 64 (n * 8)) 8
def sumS (l : List UInt8) : S8 := feed h0 (l ++ padB l.length)
def sumB (l : List UInt8) : List UInt8 := wordsB (sumS l).list
theorem padB_length (n : Nat) : (padB n).length = 9 + (119 - n % 64) % 64 := by
  unfold padB; rw [List.length_append, List.length_cons, List.length_replicate, numB_length]; omega
theorem pad_whole (l : List UInt8) : (l ++ padB l.length).length % 64 = 0 := by
  rw [List.length_append, padB_length]; omega
theorem sumB_length (l : List UInt8) : (sumB l).length = 32 := by
  unfold sumB; rw [wordsB_length]; rfl

/-! ### the same, as the document has it -/
theorem ch_or (e f g : BitVec 32) : e &&& f ||| ~~~e &&& g = e &&& f ^^^ ~~~e &&& g := by
  apply BitVec.eq_of_getLsbD_eq
  intro i hi
  simp only [BitVec.getLsbD_or, BitVec.getLsbD_xor, BitVec.getLsbD_and, BitVec.getLsbD_not, hi, decide_true, Bool.true_and]
  cases e.getLsbD i <;> simp
theorem maj_or (a b c : BitVec 32) : a &&& b ||| a &&& c ||| b &&& c = a &&& b ^^^ a &&& c ^^^ b &&& c := by
  apply BitVec.eq_of_getLsbD_eq
  intro i hi
  simp only [BitVec.getLsbD_or, BitVec.getLsbD_xor, BitVec.getLsbD_and]
  cases a.getLsbD i <;> cases b.getLsbD i <;> cases c.getLsbD i <;> rfl
end Go.Proofs.YticpdepbgcagaaaGreat

/- The plain mathematics of layer 2: words that grow, rounds, blocks, sums. -/
import Derived.Test.YtodfaakodgedbaaWords
import Derived.StillTailTactics
import Derived.Test.YtodfaakodgedbaaKit
import Derived.Deep.RegionLaw
import Derived.Deep.RegionHeld3
import Derived.Deep.AppendLies
namespace Go.Proofs.Ytodfaakodgedbaa
open Go.RowKit Go.Qc

/-- Turned to the right. -/
def rotr (x : BitVec 32) (k : Nat) : BitVec 32 := rotl x (32 - k)
def sg0 (x : BitVec 32) : BitVec 32 := rotr x 7 ^^^ rotr x 18 ^^^ x >>> 3
def sg1 (x : BitVec 32) : BitVec 32 := rotr x 17 ^^^ rotr x 19 ^^^ x >>> 10
def kList : List (BitVec 32) := [0x428a2f98#32, 0x71374491#32, 0xb5c0fbcf#32, 0xe9b5dba5#32, 0x3956c25b#32, 0x59f111f1#32, 0x923f82a4#32, 0xab1c5ed5#32, 0xd807aa98#32, 0x12835b01#32, 0x243185be#32, 0x550c7dc3#32, 0x72be5d74#32, 0x80deb1fe#32, 0x9bdc06a7#32, 0xc19bf174#32, 0xe49b69c1#32, 0xefbe4786#32, 0x0fc19dc6#32, 0x240ca1cc#32, 0x2de92c6f#32, 0x4a7484aa#32, 0x5cb0a9dc#32, 0x76f988da#32, 0x983e5152#32, 0xa831c66d#32, 0xb00327c8#32, 0xbf597fc7#32, 0xc6e00bf3#32, 0xd5a79147#32, 0x06ca6351#32, 0x14292967#32, 0x27b70a85#32, 0x2e1b2138#32, 0x4d2c6dfc#32, 0x53380d13#32, 0x650a7354#32, 0x766a0abb#32, 0x81c2c92e#32, 0x92722c85#32, 0xa2bfe8a1#32, 0xa81a664b#32, 0xc24b8b70#32, 0xc76c51a3#32, 0xd192e819#32, 0xd6990624#32, 0xf40e3585#32, 0x106aa070#32, 0x19a4c116#32, 0x1e376c08#32, 0x2748774c#32, 0x34b0bcb5#32, 0x391c0cb3#32, 0x4ed8aa4a#32, 0x5b9cca4f#32, 0x682e6ff3#32, 0x748f82ee#32, 0x78a5636f#32, 0x84c87814#32, 0x8cc70208#32, 0x90befffa#32, 0xa4506ceb#32, 0xbef9a3f7#32, 0xc67178f2#32]
/-- One word more, out of those that there are (sixteen at least). -/
def more (l : List (BitVec 32)) : BitVec 32 := l.getD (l.length - 16) 0#32 + sg0 (l.getD (l.length - 15) 0#32) + l.getD (l.length - 7) 0#32 + sg1 (l.getD (l.length - 2) 0#32)
def grow (m : List (BitVec 32)) : Nat → List (BitVec 32)
  | 0 => m
  | n + 1 => grow m n ++ [more (grow m n)]
theorem grow_length (m : List (BitVec 32)) : ∀ n, (grow m n).length = m.length + n
  | 0 => rfl
  | n + 1 => by rw [grow, List.length_append, grow_length m n]; rfl

/-- The eight words. -/
structure S8 where
  (a b c d e f g h : BitVec 32)
def S8.add (s t : S8) : S8 := ⟨s.a + t.a, s.b + t.b, s.c + t.c, s.d + t.d, s.e + t.e, s.f + t.f, s.g + t.g, s.h + t.h⟩
def xOf (s : S8) (k w : BitVec 32) : BitVec 32 := s.h + (rotr s.e 6 ^^^ rotr s.e 11 ^^^ rotr s.e 25) + (s.e &&& s.f ^^^ ~~~s.e &&& s.g) + k + w
def yOf (s : S8) : BitVec 32 := rotr s.a 2 ^^^ rotr s.a 13 ^^^ rotr s.a 22
def zOf (s : S8) : BitVec 32 := s.a &&& s.b ^^^ s.a &&& s.c ^^^ s.b &&& s.c
def rnd (s : S8) (k w : BitVec 32) : S8 := ⟨xOf s k w + (yOf s + zOf s), s.a, s.b, s.c, s.d + xOf s k w, s.e, s.f, s.g⟩
def rnds (s : S8) (w : List (BitVec 32)) : Nat → S8
  | 0 => s
  | n + 1 => rnd (rnds s w n) (kList.getD n 0#32) (w.getD n 0#32)
/-- A block of sixteen words taken in. -/
def blk (s : S8) (m : List (BitVec 32)) : S8 := s.add (rnds s (grow m 48) 64)
def h0 : S8 := ⟨0x6a09e667#32, 0xbb67ae85#32, 0x3c6ef372#32, 0xa54ff53a#32, 0x510e527f#32, 0x9b05688c#32, 0x1f83d9ab#32, 0x5be0cd19#32⟩

/-- Bytes as words. -/
def unW : Nat → List UInt8 → List (BitVec 32)
  | 0, _ => []
  | n + 1, l => mk4 (l.getD 0 0) (l.getD 1 0) (l.getD 2 0) (l.getD 3 0) :: unW n (l.drop 4)
/-- All whole blocks of some bytes, taken in. -/
def feedN (s : S8) (l : List UInt8) : Nat → S8
  | 0 => s
  | n + 1 => blk (feedN s l n) (unW 16 ((l.drop (64 * n)).take 64))
def feed (s : S8) (l : List UInt8) : S8 := feedN s l (l.length / 64)
theorem feedN_pre (s : S8) (l r : List UInt8) : ∀ n, 64 * n ≤ l.length → feedN s (l ++ r) n = feedN s l n
  | 0, _ => rfl
  | n + 1, h => by
    rw [feedN, feedN, feedN_pre s l r n (by omega), List.drop_append_of_le_length (by omega), List.take_append_of_le_length (by rw [List.length_drop]; omega)]
/-- The rest behind the whole blocks. -/
def rest (l : List UInt8) : List UInt8 := l.drop (64 * (l.length / 64))
theorem rest_length (l : List UInt8) : (rest l).length = l.length % 64 := by unfold rest; rw [List.length_drop]; omega
theorem feed_short (s : S8) (l r : List UInt8) (h : l.length % 64 + r.length < 64) : feed s (l ++ r) = feed s l := by
  unfold feed
  rw [List.length_append, show (l.length + r.length) / 64 = l.length / 64 by omega, feedN_pre s l r _ (by omega)]
theorem rest_short (l r : List UInt8) (h : l.length % 64 + r.length < 64) : rest (l ++ r) = rest l ++ r := by
  unfold rest
  rw [List.length_append, show (l.length + r.length) / 64 = l.length / 64 by omega, List.drop_append_of_le_length (by omega)]
theorem feed_full (s : S8) (l r : List UInt8) (h : l.length % 64 + r.length = 64) : feed s (l ++ r) = blk (feed s l) (unW 16 (rest l ++ r)) := by
  unfold feed
  rw [List.length_append, show (l.length + r.length) / 64 = l.length / 64 + 1 by omega, feedN, feedN_pre s l r _ (by omega), List.drop_append_of_le_length (by omega)]
  rw [List.take_of_length_le]
  · rfl
  · rw [List.length_append, List.length_drop]; omega
theorem rest_full (l r : List UInt8) (h : (l.length + r.length) % 64 = 0) : rest (l ++ r) = [] := by
  apply List.eq_nil_of_length_eq_zero
  rw [rest_length, List.length_append, h]

/-! ### the same, as the document has it -/
end Go.Proofs.Ytodfaakodgedbaa
/- The contract of grown. -/
namespace Go.Proofs.Ytodfaakodgedbaa
open Go.RowKit Go.Qc
attribute [local go_sem] iv_add iv_and iv_or iv_xor iv_not iv_shl iv_shr iv_inj iv_div3 iv_div10

def GrownIn (cs : Array Value) (m : List (BitVec 32)) (n : Nat) : Prop := cs.size = 64 ∧ ∀ (j : Nat) (u : BitVec 32), (grow m n)[j]? = some u → cs[j]? = some (u32v u)
theorem GrownIn.at_ {cs : Array Value} {m : List (BitVec 32)} {n : Nat} (h : GrownIn cs m n) (hm : m.length = 16) (j : Nat) (hj : j < 16 + n) : ∃ x, (grow m n)[j]? = some x ∧ cs[j]? = some (u32v x) := by
  have hl : j < (grow m n).length := by rw [grow_length]; omega
  exact ⟨_, List.getElem?_eq_getElem hl, h.2 j _ (List.getElem?_eq_getElem hl)⟩
end Go.Proofs.Ytodfaakodgedbaa
/- The contract of mix: a block taken in. -/
namespace Go.Proofs.Ytodfaakodgedbaa
open Go.RowKit Go.Qc
attribute [local go_sem] iv_add iv_and iv_or iv_xor iv_not iv_bnot iv_shl iv_shr iv_inj iv_div3 iv_div10

/-- The eight words as the machine has them. -/
def S8.vals (s : S8) : Array Value := #[.int .u32 (iv s.a), .int .u32 (iv s.b), .int .u32 (iv s.c), .int .u32 (iv s.d), .int .u32 (iv s.e), .int .u32 (iv s.f), .int .u32 (iv s.g), .int .u32 (iv s.h)]
theorem S8.vals_one (s : S8) : s.vals.all (·.oneCell') = true := by simp [S8.vals, Value.oneCell']
/-- The first k words have grown. -/
def AddIn (cs : Array Value) (s t : S8) (k : Nat) : Prop := cs.size = 8 ∧ (∀ j, j < k → cs[j]? = (s.add t).vals[j]?) ∧ ∀ j, k ≤ j → cs[j]? = s.vals[j]?
theorem vals_add (s t : S8) (k : Nat) (hk : k < 8) : ∃ x y, s.vals[k]? = some (u32v x) ∧ t.vals[k]? = some (u32v y) ∧ (s.add t).vals[k]? = some (u32v (x + y)) := by
  match k, hk with
  | 0, _ => exact ⟨_, _, rfl, rfl, rfl⟩
  | 1, _ => exact ⟨_, _, rfl, rfl, rfl⟩
  | 2, _ => exact ⟨_, _, rfl, rfl, rfl⟩
  | 3, _ => exact ⟨_, _, rfl, rfl, rfl⟩
  | 4, _ => exact ⟨_, _, rfl, rfl, rfl⟩
  | 5, _ => exact ⟨_, _, rfl, rfl, rfl⟩
  | 6, _ => exact ⟨_, _, rfl, rfl, rfl⟩
  | 7, _ => exact ⟨_, _, rfl, rfl, rfl⟩
theorem AddIn.at_ {cs : Array Value} {s t : S8} {k : Nat} (h : AddIn cs s t k) (hk : k < 8) : ∃ x y, cs[k]? = some (u32v x) ∧ t.vals[k]? = some (u32v y) := by
  obtain ⟨x, y, hx, hy, _⟩ := vals_add s t k hk
  exact ⟨x, y, (h.2.2 k (Nat.le_refl _)).trans hx, hy⟩
end Go.Proofs.Ytodfaakodgedbaa
/- The contracts of a Hash's calls. -/
namespace Go.Proofs.Ytodfaakodgedbaa
open Go.RowKit Go.Qc
attribute [local go_sem] txt_size txt_extract

/-- The cells of a Hash that has taken in p, and says that it has n bytes. -/
structure HPart (cs : Array Value) (p : List UInt8) (n : Nat) : Prop where
  size : cs.size = 73
  one : cs.all (·.oneCell') = true
  state : ∀ j, j < 8 → cs[j]? = (feed h0 p).vals[j]?
  tail : ∀ (j : Nat) (b : UInt8), (rest p)[j]? = some b → cs[8 + j]? = some (u8v b)
  count : cs[72]? = some (.int .i64 n)

/-- Bytes laid behind the rest; they don't fill it. -/
theorem HPart.short {cs : Array Value} {p b : List UInt8} {n : Nat} (h : HPart cs p n) (hk : p.length % 64 + b.length < 64) : HPart (over cs (8 + p.length % 64) (b.map u8v)) (p ++ b) n := by
  have hfit : 8 + p.length % 64 + (b.map u8v).length ≤ cs.size := by rw [List.length_map, h.size]; omega
  refine ⟨by rw [over_size _ _ _ hfit]; exact h.size, over_one _ _ _ h.one (u8v_one b), fun j hj => ?_, fun j x hx => ?_, ?_⟩
  · rw [over_get _ _ _ hfit, if_pos (by omega), feed_short _ _ _ hk]; exact h.state j hj
  · rw [rest_short _ _ hk] at hx
    rw [over_get _ _ _ hfit]
    by_cases hj : j < p.length % 64
    · rw [if_pos (by omega)]
      rw [List.getElem?_append_left (by rw [rest_length]; exact hj)] at hx
      exact h.tail j x hx
    · rw [List.getElem?_append_right (by rw [rest_length]; omega), rest_length] at hx
      have hl : j - p.length % 64 < b.length := (List.getElem?_eq_some_iff.1 hx).1
      rw [if_neg (by omega), if_pos (by rw [List.length_map]; omega), List.getElem?_map, show 8 + j - (8 + p.length % 64) = j - p.length % 64 by omega, hx]; rfl
  · rw [over_get _ _ _ hfit, if_neg (by omega), if_neg (by rw [List.length_map]; omega)]; exact h.count

/-- A block taken in. -/
theorem HPart.block {cs : Array Value} {p b : List UInt8} {n : Nat} {s : S8} (hz : cs.size = 73) (h1 : cs.all (·.oneCell') = true) (hc : cs[72]? = some (.int .i64 n)) (hs : s = feed h0 (p ++ b)) (hr : (p.length + b.length) % 64 = 0) :
    HPart (over cs 0 s.vals.toList) (p ++ b) n := by
  have hl : s.vals.toList.length = 8 := rfl
  have hfit : 0 + s.vals.toList.length ≤ cs.size := by rw [hl, hz]; omega
  refine ⟨by rw [over_size _ _ _ hfit]; exact hz, over_one _ _ _ h1 (fun v hv => (Array.all_eq_true_iff_forall_mem.1 s.vals_one) v (by simpa using hv)), fun j hj => ?_, fun j x hx => ?_, ?_⟩
  · rw [over_get _ _ _ hfit, if_neg (by omega), if_pos (by rw [hl]; omega), hs]; simp
  · rw [rest_full _ _ hr] at hx; simp at hx
  · rw [over_get _ _ _ hfit, if_neg (by omega), if_neg (by rw [hl]; omega)]; exact hc
/-- What a Write has taken in so far. -/
structure Mid (cs : Array Value) (l p r : List UInt8) (n : Nat) : Prop where
  part : HPart cs p n
  all : p ++ r = l
  whole : p.length % 64 = 0 ∨ r = []
theorem Mid.step {cs cs' : Array Value} {l p r : List UInt8} {n : Nat} (h : Mid cs l p r n) (hr : 64 ≤ r.length) (hc : cs' = over cs 0 (blk (feed h0 p) (unW 16 (r.take 64))).vals.toList) : Mid cs' l (p ++ r.take 64) (r.drop 64) n := by
  have hw : p.length % 64 = 0 := by
    rcases h.whole with hw | rfl
    · exact hw
    · simp at hr
  have ht : (r.take 64).length = 64 := by rw [List.length_take]; omega
  have hrest : rest p = [] := List.eq_nil_of_length_eq_zero (by rw [rest_length, hw])
  subst hc
  refine ⟨HPart.block h.part.size h.part.one h.part.count ?_ (by rw [ht]; omega), by rw [List.append_assoc, List.take_append_drop]; exact h.all, .inl (by rw [List.length_append, ht]; omega)⟩
  rw [feed_full _ _ _ (by rw [ht, hw]), hrest, List.nil_append]
theorem Mid.last {cs : Array Value} {l p r : List UInt8} {n : Nat} (h : Mid cs l p r n) (hr : r.length < 64) : HPart (over cs 8 (r.map u8v)) l n := by
  rcases h.whole with hw | rfl
  · have := h.part.short (b := r) (by omega)
    rw [hw, h.all] at this; exact this
  · rw [List.map_nil, over_nil _ _ (by rw [h.part.size]; omega)]
    have := h.all
    rw [List.append_nil] at this
    rw [← this]; exact h.part
end Go.Proofs.Ytodfaakodgedbaa
/- The contract of a Hash's Write. -/
namespace Go.Proofs.Ytodfaakodgedbaa
open Go.RowKit Go.Qc
attribute [local go_sem] txt_size txt_extract

theorem HPart.cells {w : World} {g : Nat} {t : TypeId} {cs : Array Value} {p : List UInt8} {n : Nat} (hb : Blk w g t cs) (h : HPart cs p n) {st : S8} (hs : feed h0 p = st) :
    w.cell? ⟨g, 0, none⟩ = some (.int .u32 (iv st.a)) ∧ w.cell? ⟨g, 1, none⟩ = some (.int .u32 (iv st.b)) ∧ w.cell? ⟨g, 2, none⟩ = some (.int .u32 (iv st.c)) ∧ w.cell? ⟨g, 3, none⟩ = some (.int .u32 (iv st.d)) ∧
    w.cell? ⟨g, 4, none⟩ = some (.int .u32 (iv st.e)) ∧ w.cell? ⟨g, 5, none⟩ = some (.int .u32 (iv st.f)) ∧ w.cell? ⟨g, 6, none⟩ = some (.int .u32 (iv st.g)) ∧ w.cell? ⟨g, 7, none⟩ = some (.int .u32 (iv st.h)) := by
  subst hs
  exact ⟨hb.cell_ (h.state 0 (by decide)), hb.cell_ (h.state 1 (by decide)), hb.cell_ (h.state 2 (by decide)), hb.cell_ (h.state 3 (by decide)), hb.cell_ (h.state 4 (by decide)), hb.cell_ (h.state 5 (by decide)), hb.cell_ (h.state 6 (by decide)), hb.cell_ (h.state 7 (by decide))⟩
theorem HPart.kept {w w2 : World} {g : Nat} {t : TypeId} {cs : Array Value} {p : List UInt8} {n : Nat} (hb : Blk w g t cs) (h : HPart cs p n) {st : S8} (hs : feed h0 p = st) (h2 : Below w.heap.size w w2) :
    w2.cell? ⟨g, 0, none⟩ = some (.int .u32 (iv st.a)) ∧ w2.cell? ⟨g, 1, none⟩ = some (.int .u32 (iv st.b)) ∧ w2.cell? ⟨g, 2, none⟩ = some (.int .u32 (iv st.c)) ∧ w2.cell? ⟨g, 3, none⟩ = some (.int .u32 (iv st.d)) ∧
    w2.cell? ⟨g, 4, none⟩ = some (.int .u32 (iv st.e)) ∧ w2.cell? ⟨g, 5, none⟩ = some (.int .u32 (iv st.f)) ∧ w2.cell? ⟨g, 6, none⟩ = some (.int .u32 (iv st.g)) ∧ w2.cell? ⟨g, 7, none⟩ = some (.int .u32 (iv st.h)) ∧
    w2.frozen? ⟨g, 0, none⟩ = false ∧ w2.frozen? ⟨g, 1, none⟩ = false ∧ w2.frozen? ⟨g, 2, none⟩ = false ∧ w2.frozen? ⟨g, 3, none⟩ = false ∧ w2.frozen? ⟨g, 4, none⟩ = false ∧ w2.frozen? ⟨g, 5, none⟩ = false ∧ w2.frozen? ⟨g, 6, none⟩ = false ∧ w2.frozen? ⟨g, 7, none⟩ = false := by
  have hb2 := hb.below h2
  obtain ⟨k0, k1, k2, k3, k4, k5, k6, k7⟩ := HPart.cells hb2 h hs
  exact ⟨k0, k1, k2, k3, k4, k5, k6, k7, hb2.frozen _, hb2.frozen _, hb2.frozen _, hb2.frozen _, hb2.frozen _, hb2.frozen _, hb2.frozen _, hb2.frozen _⟩
end Go.Proofs.Ytodfaakodgedbaa
/- The contracts of a Hash's Sum, and of package sha's Sum. -/
namespace Go.Proofs.Ytodfaakodgedbaa
open Go.RowKit Go.Qc
attribute [local go_sem] txt_size txt_extract

theorem sizeId : (Try.prog.info? 38).map (·.size) = some 32 := by kernel_rfl
/-- Thirty-two bytes as the machine has them. -/
def idVals (b : List UInt8) : Array Value := (b.map u8v).toArray
theorem idVals_size (b : List UInt8) : (idVals b).size = b.length := by simp [idVals]
theorem idVals_one (b : List UInt8) : (idVals b).all (·.oneCell') = true := by
  unfold idVals
  rw [← Array.all_toList]
  simp only [List.all_eq_true]
  exact u8v_one b
end Go.Proofs.Ytodfaakodgedbaa
/- The contract of the document's block. -/
namespace Go.Proofs.Ytodfaakodgedbaa
open Go.RowKit Go.Qc
attribute [local go_sem] iv_add iv_and iv_or iv_xor iv_not iv_bnot iv_shl iv_shr iv_inj iv_div3 iv_div10

def up32 (x : BitVec 32) : BitVec 64 := BitVec.ofNat 64 x.toNat
theorem up32_lo (x : BitVec 32) : IntKind.u32.wrap (lv (up32 x)) = iv x := by
  have := x.isLt
  unfold lv iv up32; rw [IntKind.wrap_u32', BitVec.toNat_ofNat]; omega
attribute [local go_sem] up32_lo

end Go.Proofs.Ytodfaakodgedbaa


/- Small facts that import nothing of the program: words of 32 bits as the machine's integers, rows of cells that are read, appending to a row of the call's own. -/
import Derived.WalkKit
import Derived.WalkSpells
import Derived.WalkLawsBesides
import Derived.Deep.QuietTactic
import Derived.BigQuiet
import Derived.Laws.OwnMore
import Derived.ProofKit
import Derived.OpenShut
import Derived.ShutString
import Derived.ChangeOld
import Derived.Carry
import Derived.SliceStrings
import Derived.Laws.BytesArg
import Derived.Laws.MakeOwn
import Derived.Deep.WholeRow
import Derived.Laws.CopyOwn
import Derived.Laws.Tables
import Derived.StillTailTactics
namespace Go.Qc
open Go.RowKit

/-- A fact put out of the walk's sight. -/
theorem hid {p : Prop} (h : p) : Hid p := h

/-! ### words -/
/-- A word as the machine's integer. -/
def iv (x : BitVec 32) : Int := (x.toNat : Int)
theorem iv_lo (x : BitVec 32) : 0 ≤ iv x := by unfold iv; omega
theorem iv_hi (x : BitVec 32) : iv x < 4294967296 := by unfold iv; have := x.isLt; omega
theorem iv_inj (x y : BitVec 32) : (iv x = iv y) = (x = y) := by
  unfold iv; rw [Int.ofNat_inj, BitVec.toNat_inj]
theorem iv_of (n : Int) (h0 : 0 ≤ n) (h1 : n < 4294967296) : n = iv (BitVec.ofNat 32 n.toNat) := by
  unfold iv; rw [BitVec.toNat_ofNat]; omega
theorem iv_ex (n : Int) (h0 : 0 ≤ n) (h1 : n < 4294967296) : ∃ x, n = iv x := ⟨_, iv_of n h0 h1⟩
theorem iv_add (x y : BitVec 32) : IntKind.u32.wrap (iv x + iv y) = iv (x + y) := by
  unfold iv; rw [IntKind.wrap_u32', BitVec.toNat_add]; omega
theorem iv_and (x y : BitVec 32) : bits .and .u32 (iv x) (iv y) = iv (x &&& y) := by
  unfold iv; rw [u32_and_nat _ _ x.isLt y.isLt, BitVec.toNat_and]
theorem iv_or (x y : BitVec 32) : bits .or .u32 (iv x) (iv y) = iv (x ||| y) := by
  unfold iv; rw [u32_or_nat _ _ x.isLt y.isLt, BitVec.toNat_or]
theorem iv_xor (x y : BitVec 32) : bits .xor .u32 (iv x) (iv y) = iv (x ^^^ y) := by
  unfold iv; rw [u32_xor_nat _ _ x.isLt y.isLt, BitVec.toNat_xor]
theorem iv_not (x : BitVec 32) : IntKind.u32.wrap ((4294967295 : Int) - iv x) = iv (~~~x) := by
  have := x.isLt
  unfold iv; rw [IntKind.wrap_u32', BitVec.toNat_not]; omega
theorem iv_bnot (x : BitVec 32) : bits .xor .u32 (if IntKind.u32.signed = true then (-1 : Int) else IntKind.u32.max) (iv x) = iv (~~~x) := by
  have e : (if IntKind.u32.signed = true then (-1 : Int) else IntKind.u32.max) = iv (BitVec.allOnes 32) := by decide
  rw [e, iv_xor, BitVec.allOnes_xor]
theorem iv_shl (x : BitVec 32) (n : Nat) : iv x * (2 : Int) ^ n % (4294967296 : Int) = iv (x <<< n) := by
  unfold iv; rw [BitVec.toNat_shiftLeft, Nat.shiftLeft_eq]; simp
theorem iv_shr (x : BitVec 32) (n : Nat) : iv x / (2 : Int) ^ n = iv (x >>> n) := by
  unfold iv; rw [BitVec.toNat_ushiftRight, Nat.shiftRight_eq_div_pow]; simp
theorem iv_i64 (x : BitVec 32) : IntKind.i64.wrap (iv x) = iv x := by
  have := iv_lo x; have := iv_hi x; rw [IntKind.wrap_i64]; omega
theorem iv_mod2 (x : BitVec 32) : (iv x).tmod 2 = iv (x &&& 1#32) := by
  unfold iv
  rw [BitVec.toNat_and, Int.tmod_eq_emod_of_nonneg (by omega)]
  have : (1#32).toNat = 1 := rfl
  rw [this, nat_mask1]; omega

/-! ### bytes -/
/-- A byte as the machine's integer. -/
def ib (b : UInt8) : Int := (b.toNat : Int)
theorem ib_fold (b : UInt8) : ((b.toNat : Nat) : Int) = ib b := rfl
theorem ib_lo (b : UInt8) : 0 ≤ ib b := by unfold ib; omega
theorem ib_hi (b : UInt8) : ib b < 256 := by unfold ib; have := b.toNat_lt; omega
theorem ib_inj (x y : UInt8) : (ib x = ib y) = (x = y) := by
  unfold ib; rw [Int.ofNat_inj, UInt8.toNat_inj]
theorem ib_of (n : Int) (h0 : 0 ≤ n) (h1 : n < 256) : n = ib (UInt8.ofNat n.toNat) := by
  unfold ib; rw [UInt8.toNat_ofNat']; omega
theorem ib_ex (n : Int) (h0 : 0 ≤ n) (h1 : n < 256) : ∃ x, n = ib x := ⟨_, ib_of n h0 h1⟩
/-- A word's lowest byte; a byte as a word. -/
def loB (x : BitVec 32) : UInt8 := UInt8.ofNat x.toNat
def upW (b : UInt8) : BitVec 32 := BitVec.ofNat 32 b.toNat
theorem ib_lo_of (x : BitVec 32) : IntKind.u8.wrap (iv x) = ib (loB x) := by
  unfold iv ib loB; rw [IntKind.wrap_u8', UInt8.toNat_ofNat']; omega
theorem ib_lo_mod (x : BitVec 32) : IntKind.u8.wrap (iv x % 256) = ib (loB x) := by
  unfold iv ib loB; rw [IntKind.wrap_u8', UInt8.toNat_ofNat']; omega
theorem iv_mod256 (x : BitVec 32) : iv x % 256 = ib (loB x) := by
  unfold iv ib loB; rw [UInt8.toNat_ofNat']; omega
theorem iv_tmod256 (x : BitVec 32) : (iv x).tmod 256 = ib (loB x) := by
  rw [Int.tmod_eq_emod_of_nonneg (iv_lo x), iv_mod256]
theorem ib_u8 (b : UInt8) : IntKind.u8.wrap (ib b) = ib b := by
  have := ib_lo b; have := ib_hi b; rw [IntKind.wrap_u8']; omega
theorem iv_up_of (b : UInt8) : IntKind.u32.wrap (ib b) = iv (upW b) := by
  have := b.toNat_lt
  unfold iv ib upW; rw [IntKind.wrap_u32', BitVec.toNat_ofNat]; omega
theorem iv_div (x : BitVec 32) (k : Nat) (n : Int) (h : n = 2 ^ k) : iv x / n = iv (x >>> k) := by rw [h, iv_shr]
theorem iv_div3 (x : BitVec 32) : iv x / (8 : Int) = iv (x >>> 3) := iv_div x 3 _ (by decide)
theorem iv_div10 (x : BitVec 32) : iv x / (1024 : Int) = iv (x >>> 10) := iv_div x 10 _ (by decide)
theorem iv_div8 (x : BitVec 32) : iv x / (256 : Int) = iv (x >>> 8) := iv_div x 8 _ (by decide)
theorem iv_div16 (x : BitVec 32) : iv x / (65536 : Int) = iv (x >>> 16) := iv_div x 16 _ (by decide)
theorem iv_div24 (x : BitVec 32) : iv x / (16777216 : Int) = iv (x >>> 24) := iv_div x 24 _ (by decide)
theorem iv_shl8 (x : BitVec 32) : iv x * (256 : Int) % (4294967296 : Int) = iv (x <<< 8) := iv_shl x 8
def u32v (x : BitVec 32) : Value := .int .u32 (iv x)
def u8v (b : UInt8) : Value := .int .u8 (ib b)
/-- The text of some bytes. -/
def txt (l : List UInt8) : ByteArray := ⟨l.toArray⟩
theorem txt_size (l : List UInt8) : (txt l).size = l.length := by simp [txt, ByteArray.size]
theorem txt_extract (l : List UInt8) (a b : Nat) : (txt l).extract a b = txt ((l.drop a).take (b - a)) := by
  apply ByteArray.ext
  simp [txt, ByteArray.data_extract]
theorem txt_append (a b : List UInt8) : txt a ++ txt b = txt (a ++ b) := by
  apply ByteArray.ext; simp [txt]
theorem txt_get {s : ByteArray} {l : List UInt8} {i : Nat} {b : UInt8} (hs : s = txt l) (hb : l[i]? = some b) (h : i < s.size) : s[i]'h = b := by
  subst hs
  obtain ⟨hi, rfl⟩ := List.getElem?_eq_some_iff.1 hb
  rfl

/-! ### numbers of 64 bits, and more on bytes -/
def lv (x : BitVec 64) : Int := (x.toNat : Int)
theorem lv_lo (x : BitVec 64) : 0 ≤ lv x := by unfold lv; omega
theorem lv_hi (x : BitVec 64) : lv x ≤ 18446744073709551615 := by unfold lv; have := x.isLt; omega
theorem lv_inj (x y : BitVec 64) : (lv x = lv y) = (x = y) := by
  unfold lv; rw [Int.ofNat_inj, BitVec.toNat_inj]
def lo64 (x : BitVec 64) : UInt8 := UInt8.ofNat x.toNat
def up64 (b : UInt8) : BitVec 64 := BitVec.ofNat 64 b.toNat
theorem lv_add (x y : BitVec 64) : IntKind.u64.wrap (lv x + lv y) = lv (x + y) := by
  unfold lv; rw [IntKind.wrap_u64, BitVec.toNat_add]; omega
theorem lv_mul (k : Nat) (x : BitVec 64) (n : Int) (h : n = k) (hk : k < 18446744073709551616) : IntKind.u64.wrap (n * lv x) = lv (BitVec.ofNat 64 k * x) := by
  unfold lv; subst h; rw [IntKind.wrap_u64, BitVec.toNat_mul, BitVec.toNat_ofNat, Nat.mod_eq_of_lt hk]
  rw [← Int.natCast_mul]
  omega
theorem lv_mul256 (x : BitVec 64) : IntKind.u64.wrap ((256 : Int) * lv x) = lv (256#64 * x) := lv_mul 256 x _ rfl (by decide)
theorem lv_or (x y : BitVec 64) : bits .or .u64 (lv x) (lv y) = lv (x ||| y) := by
  unfold lv; rw [u64_or_nat _ _ x.isLt y.isLt, BitVec.toNat_or]
theorem lv_shr (x : BitVec 64) (n : Nat) : lv x / (2 : Int) ^ n = lv (x >>> n) := by
  unfold lv; rw [BitVec.toNat_ushiftRight, Nat.shiftRight_eq_div_pow]; simp
theorem lv_div256 (x : BitVec 64) : lv x / (256 : Int) = lv (x >>> 8) := lv_shr x 8
theorem lv_shl8 (x : BitVec 64) : IntKind.u64.wrap (lv x * (256 : Int)) = lv (x <<< 8) := by
  unfold lv; rw [IntKind.wrap_u64, BitVec.toNat_shiftLeft, Nat.shiftLeft_eq]; omega
theorem lv_tdiv256 (x : BitVec 64) : (lv x).tdiv 256 = lv (x >>> 8) := by
  rw [Int.tdiv_eq_ediv_of_nonneg (lv_lo x), lv_div256]
theorem lv_mod256 (x : BitVec 64) : lv x % (256 : Int) = ib (lo64 x) := by
  unfold lv ib lo64; rw [UInt8.toNat_ofNat']; omega
theorem lv_tmod256 (x : BitVec 64) : (lv x).tmod 256 = ib (lo64 x) := by
  rw [Int.tmod_eq_emod_of_nonneg (lv_lo x), lv_mod256]
theorem lv_u8 (x : BitVec 64) : IntKind.u8.wrap (lv x) = ib (lo64 x) := by
  unfold lv ib lo64; rw [IntKind.wrap_u8', UInt8.toNat_ofNat']; omega
theorem lv_w64 (x : BitVec 64) : IntKind.u64.wrap (lv x) = lv x := by
  have := lv_lo x; have := lv_hi x; rw [IntKind.wrap_u64]; omega
theorem lv_up (b : UInt8) : IntKind.u64.wrap (ib b) = lv (up64 b) := by
  have := b.toNat_lt
  unfold lv ib up64; rw [IntKind.wrap_u64, BitVec.toNat_ofNat]; omega
def shrB (b : UInt8) (n : Nat) : UInt8 := UInt8.ofNat (b.toNat / 2 ^ n)
def bit0 (b : UInt8) : UInt8 := UInt8.ofNat (b.toNat % 2)
theorem shrB_nat (b : UInt8) (n : Nat) : (shrB b n).toNat = b.toNat / 2 ^ n := by
  unfold shrB; rw [UInt8.toNat_ofNat']
  have := b.toNat_lt
  have h : b.toNat / 2 ^ n ≤ b.toNat := Nat.div_le_self _ _
  exact Nat.mod_eq_of_lt (by omega)
theorem ib_shr (b : UInt8) (n : Nat) : ib b / (2 : Int) ^ n = ib (shrB b n) := by
  unfold ib; rw [shrB_nat]; simp
theorem ib_div2 (b : UInt8) : ib b / (2 : Int) = ib (shrB b 1) := ib_shr b 1
theorem ib_tdiv2 (b : UInt8) : (ib b).tdiv 2 = ib (shrB b 1) := by rw [Int.tdiv_eq_ediv_of_nonneg (ib_lo b), ib_div2]
theorem bit0_nat (b : UInt8) : (bit0 b).toNat = b.toNat % 2 := by unfold bit0; rw [UInt8.toNat_ofNat']; omega
theorem ib_mod2 (b : UInt8) : ib b % (2 : Int) = ib (bit0 b) := by unfold ib; rw [bit0_nat]; omega
theorem ib_tmod2 (b : UInt8) : (ib b).tmod 2 = ib (bit0 b) := by rw [Int.tmod_eq_emod_of_nonneg (ib_lo b), ib_mod2]
theorem ib_and1 (b : UInt8) : bits .and .u8 (ib b) 1 = ib (bit0 b) := by
  have h := u8_and_nat b.toNat 1 b.toNat_lt (by decide)
  unfold ib
  rw [show (1 : Int) = ((1 : Nat) : Int) from rfl, h, nat_mask1, bit0_nat]
theorem ib_i64 (b : UInt8) : IntKind.i64.wrap (ib b) = ib b := by
  have := ib_lo b; have := ib_hi b; rw [IntKind.wrap_i64]; omega
theorem ib_w64 (b : UInt8) : wrap64 (ib b) = ib b := by
  have := ib_lo b; have := ib_hi b; unfold wrap64; omega
/-! ### rows of cells -/
theorem add_block (a : Addr) (n : Nat) : (a.add n).block = a.block := by unfold Addr.add; split <;> rfl

/-- The cells from an address on are these; a row without cells needs no address. -/
def Rd (w : World) (A : Option Addr) (xs : List Value) : Prop :=
  xs = [] ∨ ∃ ad, A = some ad ∧ ∀ j u, xs[j]? = some u → w.cell? (ad.add j) = some u

theorem Rd.nil_ (w : World) (A : Option Addr) : Rd w A [] := .inl rfl
theorem Rd.at_ {w : World} {A : Option Addr} {xs : List Value} (h : Rd w A xs) {k : Nat} (hk : k < xs.length) :
    ∃ ad, A = some ad ∧ w.cell? (ad.add k) = some xs[k] := by
  rcases h with rfl | ⟨ad, rfl, hc⟩
  · simp at hk
  · exact ⟨ad, rfl, hc k _ (List.getElem?_eq_getElem hk)⟩
theorem take_snoc {α : Type} {l : List α} {k : Nat} {x : α} (h : l[k]? = some x) : l.take (k + 1) = l.take k ++ [x] := by
  obtain ⟨hk, rfl⟩ := List.getElem?_eq_some_iff.1 h
  rw [List.take_succ_eq_append_getElem hk]
theorem Rd.keep {w w' : World} {A : Option Addr} {xs : List Value} (h : Rd w A xs) (hk : ∀ p u, w.cell? p = some u → w'.cell? p = some u) : Rd w' A xs := by
  rcases h with rfl | ⟨ad, rfl, hc⟩
  · exact .inl rfl
  · exact .inr ⟨ad, rfl, fun j u hu => hk _ _ (hc j u hu)⟩
theorem Below.keep {w w' : World} (hb : Below w.heap.size w w') {p : Addr} {u : Value} (h : w.cell? p = some u) : w'.cell? p = some u :=
  (hb.cell (World.block_lt_of_cell? w p h)).trans h
theorem Rd.below {w w' : World} {A : Option Addr} {xs : List Value} (h : Rd w A xs) (hb : Below w.heap.size w w') : Rd w' A xs := h.keep fun _ _ => Below.keep hb
theorem Rd.drewN {w : World} {A : Option Addr} {xs : List Value} (h : Rd w A xs) (n : Nat) : Rd (w.drewN n) A xs := h
theorem Rd.own {w : World} {base n : Nat} {e : TypeId} {v : Value} {xs : List Value} (h : w.ownsRow base e 1 v n xs) :
    xs.length = n ∧ ∃ A c, v = .slice A n c ∧ Rd w A xs := by
  have hl : xs.length = n := by simpa using h.1
  refine ⟨hl, ?_⟩
  have h' := h
  rcases h.2 with ⟨rfl, rfl⟩ | ⟨g, cap, cur, rfl, _, _, _, _, _, _⟩
  · exact ⟨_, _, rfl, .inl (List.eq_nil_of_length_eq_zero hl)⟩
  · exact ⟨_, _, rfl, .inr ⟨_, rfl, h'.cells (g := g) rfl⟩⟩
theorem own_below {w w' : World} {base n : Nat} {e : TypeId} {size : Nat} {v : Value} {xs : List Value} (h : w.ownsRow base e size v n xs) (hb : Below w.heap.size w w') : w'.ownsRow base e size v n xs := by
  refine h.kept (row := none) ⟨hb.os, hb.tape, hb.output, hb.size, fun k hk _ => hb.block k hk⟩ ?_
  rcases hv : v.ownBlock with _ | k
  · exact .inl rfl
  · exact .inr (by simp)
theorem own_base {w : World} {base base' n : Nat} {e : TypeId} {size : Nat} {v : Value} {xs : List Value} (h : w.ownsRow base e size v n xs) (hb : base' ≤ base) : w.ownsRow base' e size v n xs := by
  refine ⟨h.1, ?_⟩
  rcases h.2 with hn | ⟨g, cap, cur, e1, e2, rest⟩
  · exact .inl hn
  · exact .inr ⟨g, cap, cur, e1, by omega, rest⟩
theorem below_drewN {B : Nat} {a w : World} (h : Below B a w) (n : Nat) : Below B a (w.drewN n) := ⟨h.os, h.tape, h.output, h.size, h.block⟩
theorem below_grown {w w' : World} {base n : Nat} {e : TypeId} {size : Nat} {v : Value} {xs : List Value} (h : w.ownsRow base e size v n xs) (hB : base ≤ w.heap.size) (hg : w.grownBy w' v.ownBlock) : Below base w w' :=
  ⟨hg.os, hg.tape, hg.output, hg.size, fun k hk => hg.block k (by omega) (fun e => by have := (h.lt k e.symm).1; omega)⟩

/-- Block g is just these cells. -/
def Blk (w : World) (g : Nat) (t : TypeId) (cs : Array Value) : Prop := w.heap[g]? = some (.cells cs t (0, 0))
theorem Blk.lt {w : World} {g : Nat} {t : TypeId} {cs : Array Value} (h : Blk w g t cs) : g < w.heap.size := (Array.getElem?_eq_some_iff.1 h).1
theorem Blk.cell {w : World} {g : Nat} {t : TypeId} {cs : Array Value} (h : Blk w g t cs) (i : Nat) : w.cell? ⟨g, i, none⟩ = cs[i]? := cell_of_row w g i cs t (0, 0) h
theorem Blk.cell_ {w : World} {g : Nat} {t : TypeId} {cs : Array Value} (h : Blk w g t cs) {i : Nat} {u : Value} (hu : cs[i]? = some u) : w.cell? ⟨g, i, none⟩ = some u := (h.cell i).trans hu
theorem Blk.frozen {w : World} {g : Nat} {t : TypeId} {cs : Array Value} (h : Blk w g t cs) (i : Nat) : w.frozen? ⟨g, i, none⟩ = false := by
  unfold Blk at h; simp [World.frozen?, h]
theorem Blk.new (w : World) (t : TypeId) (cs : Array Value) : Blk (w.alloc (.cells cs t)) w.heap.size t cs := heap_alloc_new w _
theorem Blk.alloc {w : World} {g : Nat} {t : TypeId} {cs : Array Value} (h : Blk w g t cs) (o : Obj) : Blk (w.alloc o) g t cs := (Below.heap_alloc w o g h.lt).trans h
theorem Blk.drewN {w : World} {g : Nat} {t : TypeId} {cs : Array Value} (h : Blk w g t cs) (n : Nat) : Blk (w.drewN n) g t cs := h
theorem Blk.set {w : World} {g : Nat} {t : TypeId} {cs : Array Value} (h : Blk w g t cs) (i : Nat) (u : Value) : Blk (w.setCell ⟨g, i, none⟩ u) g t (cs.setIfInBounds i u) := by
  unfold Blk at h ⊢
  simp [World.setCell, Array.getElem?_modify, h]
theorem Blk.below {w w' : World} {g : Nat} {t : TypeId} {cs : Array Value} (h : Blk w g t cs) (hb : Below w.heap.size w w') : Blk w' g t cs := (hb.block g h.lt).trans h
theorem Blk.far {w : World} {g : Nat} {t : TypeId} {cs : Array Value} (h : Blk w g t cs) {p : Addr} (hp : g ≠ p.block) (u : Value) : Blk (w.setCell p u) g t cs := (Below.heap_setCell w p u g hp).trans h
theorem add_lit0 (g i : Nat) : (⟨g, 0, none⟩ : Addr).add i = ⟨g, i, none⟩ := by unfold Addr.add; split <;> simp_all
theorem Rd.blk {w : World} {g : Nat} {t : TypeId} {cs : Array Value} {xs : List Value} (h : Blk w g t cs) (hx : ∀ (j : Nat) (u : Value), xs[j]? = some u → cs[j]? = some u) : Rd w (some ⟨g, 0, none⟩) xs :=
  .inr ⟨_, rfl, fun j u hu => by rw [add_lit0, h.cell]; exact hx j u hu⟩

/-- append of values that the statement itself lists: they lie in the newest block. -/
theorem wpList_append_new {P : Program} {w : World} {ops : Array Oper} {rest : List Oper} {o : Oper} {a : Act} {Q : Exit → Act → World → Prop} (hgd : o.guard = none) (s x : Operand) (t : TypeId)
    (ho : o.op = .call { callee := .builtin .append, args := #[s, x], argTypes := #[t, t] })
    (base : Nat) (e : TypeId) (i : TypeInfo) (z : Value) (bytes : Nat) (ht : P.underlying t = some (.slice e)) (hi : P.info? e = some i) (hz : i.zero = some z)
    (hsize : i.size = 1) (hby : i.bytes = bytes) (hzs : z.cells.size = 1)
    (v : Value) (n : Nat) (xs : List Value) (hs : a.eval s = v) (hown : w.ownsRow base e 1 v n xs)
    (m : Nat) (cs : Array Value) (hm : cs.size = m) (hx : a.eval x = .slice (some ⟨w.heap.size, 0, none⟩) m m) (h1 : ∀ u ∈ cs.toList, u.oneCell' = true)
    (h63 : n + m ≤ maxLen) (hbytes : (n + m) * bytes ≤ 140737488355328) (hbase : base ≤ w.heap.size)
    (h : ∀ v' w', w'.ownsRow base e 1 v' (n + m) (xs ++ cs.toList) → Below base w w' → wpList P ops Q rest (a.put o.dst v') w') :
    wpList P ops Q (o :: rest) a (w.alloc (.cells cs e)) := by
  have hnew : ∀ j u, cs.toList[j]? = some u → (w.alloc (.cells cs e)).cell? ((⟨w.heap.size, 0, none⟩ : Addr).add j) = some u := by
    intro j u hu
    have hadd : (⟨w.heap.size, 0, none⟩ : Addr).add j = ⟨w.heap.size, j, none⟩ := by unfold Addr.add; split <;> simp_all
    rw [hadd, cell_of_row (w.alloc (.cells cs e)) w.heap.size j cs e (0, 0) (heap_alloc_new w _)]
    simpa using hu
  refine wpList_append_own (w.alloc (.cells cs e)) hgd s x t ho base e i z 1 bytes ht hi hz hsize hby hzs (by decide) v n xs hs (hown.alloc _) ⟨w.heap.size, 0, none⟩ m m cs.toList hx (by simpa using hm) hnew h1 h63 hbytes (by simp; omega) ?_
  intro v' w' h2 h3 _
  refine h v' w' h2 ?_
  have hb1 : Below base w (w.alloc (.cells cs e)) := (Below.refl _ _).alloc hbase _
  exact hb1.trans (below_grown (hown.alloc _) (by simp; omega) h3)

/-! ### whole arrays -/
/-- A whole array stored into the newest block. -/
theorem wpList_store_new {P : Program} {w : World} {ops : Array Oper} {rest : List Oper} {o : Oper} {a : Act} {Q : Exit → Act → World → Prop} {old : Array Value} (hgd : o.guard = none) (ty : TypeId) (x y : Operand) (ho : o.op = .store ty x y)
    (cs : Array Value) (hx : a.eval x = .pointer (some ⟨w.heap.size, 0, none⟩)) (hy : a.eval y = .agg cs) (hi : (P.info? ty).map (·.size) = some cs.size) (hs : old.size = cs.size) (h1 : cs.all (·.oneCell') = true)
    (h : wpList P ops Q rest (a.put o.dst undef) (w.alloc (.cells cs ty))) : wpList P ops Q (o :: rest) a (w.alloc (.cells old ty)) := by
  refine wpList_plain hgd fun K hK => ?_
  unfold Oper.wp
  simp [execOp, ho, hx, hy, run_storeAt_new (P := P) w ty old cs hi hs h1]
  exact hK _ _ h

theorem blk_over {w : World} {g : Nat} {t : TypeId} {cur : Array Value} (hg : Blk w g t cur) (cs : Array Value) : Blk (w.setRow g cs) g t cs ∧ w.grownBy (w.setRow g cs) (some g) :=
  ⟨setRow_heap w g _ _ t _ hg, rfl, rfl, rfl, by simp, fun k _ hne => setRow_other w g k cs (fun e => hne (by rw [e]))⟩

/-- A whole array stored into a known block, and read out of one. -/
theorem wpList_store_blk {P : Program} {w : World} {ops : Array Oper} {rest : List Oper} {o : Oper} {a : Act} {Q : Exit → Act → World → Prop} (hgd : o.guard = none) (ty : TypeId) (x y : Operand) (ho : o.op = .store ty x y)
    (g : Nat) (old cs : Array Value) (t : TypeId) (hg : Blk w g t old) (hx : a.eval x = .pointer (some ⟨g, 0, none⟩)) (hy : a.eval y = .agg cs) (hi : (P.info? ty).map (·.size) = some cs.size) (hs : old.size = cs.size) (h1 : cs.all (·.oneCell') = true)
    (h : ∀ w', Blk w' g t cs → w.grownBy w' (some g) → wpList P ops Q rest (a.put o.dst undef) w') : wpList P ops Q (o :: rest) a w := by
  refine wpList_plain hgd fun K hK => ?_
  have hr : (Instr.storeAt ty (.pointer (some ⟨g, 0, none⟩)) (.agg cs)).run P w = .ok () (w.setRow g cs) := by
    simp only [Instr.storeAt, Instr.sureAddr, Sem.run_bind, Sem.run_pure, Result.andThen]
    exact run_storeVar_row _ g t ty old cs hg hi hs h1
  obtain ⟨hb, hgr⟩ := blk_over hg cs
  unfold Oper.wp
  simp [execOp, ho, hx, hy, hr]
  exact hK _ _ (h _ hb hgr)
/-- Cells laid over others from a place on. -/
def over (cur : Array Value) (off : Nat) (cs : List Value) : Array Value := (cur.toList.take off ++ cs ++ cur.toList.drop (off + cs.length)).toArray
theorem over_size (cur : Array Value) (off : Nat) (cs : List Value) (h : off + cs.length ≤ cur.size) : (over cur off cs).size = cur.size := by
  unfold over; simp; omega
theorem over_get (cur : Array Value) (off : Nat) (cs : List Value) (h : off + cs.length ≤ cur.size) (i : Nat) :
    (over cur off cs)[i]? = if i < off then cur[i]? else if i < off + cs.length then cs[i - off]? else cur[i]? := by
  obtain ⟨L, rfl⟩ : ∃ L : List Value, cur = L.toArray := ⟨cur.toList, by simp⟩
  have hl : off + cs.length ≤ L.length := by simpa using h
  unfold over
  simp only [List.getElem?_toArray, List.append_assoc]
  by_cases h1 : i < off
  · rw [if_pos h1, List.getElem?_append_left (by rw [List.length_take]; omega), List.getElem?_take, if_pos h1]
  · rw [if_neg h1, List.getElem?_append_right (by rw [List.length_take]; omega), List.length_take, Nat.min_eq_left (by omega)]
    by_cases h2 : i < off + cs.length
    · rw [if_pos h2, List.getElem?_append_left (by omega)]
    · rw [if_neg h2, List.getElem?_append_right (by omega), List.getElem?_drop, show off + cs.length + (i - off - cs.length) = i by omega]
theorem over_nil (cur : Array Value) (off : Nat) (h : off ≤ cur.size) : over cur off [] = cur := by
  apply Array.ext_getElem?
  intro i
  rw [over_get _ _ _ (by simpa using h)]
  split
  · rfl
  · rw [if_neg (by simp; omega)]
theorem over_one (cur : Array Value) (off : Nat) (cs : List Value) (h : cur.all (·.oneCell') = true) (hc : ∀ v ∈ cs, v.oneCell' = true) : (over cur off cs).all (·.oneCell') = true := by
  rw [← Array.all_toList] at h ⊢
  unfold over
  rw [List.all_eq_true] at h ⊢
  intro v hv
  simp only [List.mem_append] at hv
  rcases hv with (hv | hv) | hv
  · exact h v (List.mem_of_mem_take hv)
  · exact hc v hv
  · exact h v (List.mem_of_mem_drop hv)
theorem u8v_one (l : List UInt8) : ∀ v ∈ l.map u8v, v.oneCell' = true := by
  intro v hv
  obtain ⟨b, _, rfl⟩ := List.mem_map.1 hv; rfl

/-! ### what only one block, and what is new, may have turned -/
theorem gb_set {a b : World} {g : Nat} (h : a.grownBy b (some g)) (i : Nat) (u : Value) : a.grownBy (b.setCell ⟨g, i, none⟩ u) (some g) :=
  ⟨h.os, h.tape, h.output, by simpa [World.setCell] using h.size, fun k hk hn => (Below.heap_setCell b _ u k (fun e => hn (by rw [e]))).trans (h.block k hk hn)⟩
theorem gb_refl (w : World) (row : Option Nat) : w.grownBy w row := World.grownBy.refl w row
theorem below_of_gb {a b : World} {g B : Nat} (h : a.grownBy b (some g)) (hB : B ≤ g) (hs : B ≤ a.heap.size) : Below B a b :=
  ⟨h.os, h.tape, h.output, h.size, fun k hk => h.block k (by omega) (by simp; omega)⟩
theorem blk_gb {a b : World} {g k : Nat} {t : TypeId} {cs : Array Value} (h : Blk a k t cs) (hg : a.grownBy b (some g)) (hne : k ≠ g) : Blk b k t cs := (hg.block k h.lt (by simpa using hne)).trans h
theorem rd_gb {a b : World} {g : Nat} {A : Option Addr} {xs : List Value} (h : Rd a A xs) (hg : a.grownBy b (some g)) (hne : ∀ ad, A = some ad → ad.block ≠ g) : Rd b A xs := by
  rcases h with rfl | ⟨ad, rfl, hc⟩
  · exact .inl rfl
  · refine .inr ⟨ad, rfl, fun j u hu => ?_⟩
    exact hg.cell (hc j u hu) (by rw [add_block]; simpa using hne ad rfl)

/-! ### a region that reads, and writes at its end -/
/-! ### a quiet region's calls -/
/-! ### what an argument reads as, and that it reads so behind the call -/
open Go.ChangeShapes Go.WideShapes Go.ChangeAt
section
variable {H : Type} {enc : TypeId × Value → H} {P : Program} {w : World} {r : Reach} {base b0 : Nat} {sp : Nat → Bool} {hd : Bool}

/-- A slice of integers that came in: its elements. -/
def IntRow (k : IntKind) (w : World) (a : Option Addr) (len : Nat) (zs : List Int) : Prop :=
  zs.length = len ∧ len ≤ maxLen ∧ Rd w a (zs.map (Value.int k)) ∧ ∀ n ∈ zs, (Lit.int k n).wf = true

theorem IntRow.words {w : World} {a : Option Addr} {len : Nat} {zs : List Int} (h : IntRow .u32 w a len zs) : ∃ ws : List (BitVec 32), ws.length = len ∧ Rd w a (ws.map u32v) := by
  obtain ⟨hl, _, hr, hw⟩ := h
  have hz : ∃ ws : List (BitVec 32), zs = ws.map iv := by
    clear hr hl
    induction zs with
    | nil => exact ⟨[], rfl⟩
    | cons z zs ih =>
      obtain ⟨ws, rfl⟩ := ih (fun n hn => hw n (List.mem_cons_of_mem _ hn))
      obtain ⟨h0, h1⟩ := bounds_u32 (hw z (List.mem_cons_self ..))
      obtain ⟨x, rfl⟩ := iv_ex z h0 (by omega)
      exact ⟨x :: ws, rfl⟩
  obtain ⟨ws, rfl⟩ := hz
  refine ⟨ws, by simpa using hl, ?_⟩
  rw [List.map_map] at hr
  exact hr

theorem trodAll_stays {W W' : World} (hl : laidOutB P = true) (hb : Below W.heap.size W W') : ∀ {ts : List TypeId} {vs : List Value} {ds : List (DataW H)} {ps : List MemPlace},
    (ts.all fun t => P.readableRec t && decide (t < P.types.size)) = true → DataW.TrodAll enc P W 0 (fun _ => true) true ts vs ds ps →
    DataW.TrodAll enc P W' 0 (fun b => decide (b < W.heap.size)) true ts vs ds ps
  | [], vs, ds, ps, _, h => by
    obtain ⟨rfl, rfl, rfl⟩ := trodAll_nil h
    exact trodAll_mk0
  | t :: ts, vs, ds, ps, ht, h => by
    obtain ⟨v0, vs0, d0, ds0, p0, q0, rfl, rfl, rfl, h0, h1⟩ := trodAll_cons h
    rw [List.all_cons, Bool.and_eq_true, Bool.and_eq_true, decide_eq_true_eq] at ht
    have lt0 : ∀ x ∈ p0, x.block < W.heap.size := by obtain ⟨m, hm⟩ := h0; exact DataW.trod_lt m _ _ _ hm
    exact trodAll_cons_mk (Below.trod hl ht.1.1 ht.1.2 h0 hb lt0) (trodAll_stays hl hb ht.2 h1)
end
/-- A text's value. -/
def strV (p : List UInt8) : Value := .string (txt p)
theorem rd_in {w : World} {A : Option Addr} {xs : List Value} (h : Rd w A xs) (j : Nat) (u : Value) (hu : xs[j]? = some u) : ∃ ad, A = some ad ∧ w.cell? (ad.add j) = some u := by
  rcases h with rfl | ⟨ad, rfl, hc⟩
  · simp at hu
  · exact ⟨ad, rfl, hc j u hu⟩
end Go.Qc

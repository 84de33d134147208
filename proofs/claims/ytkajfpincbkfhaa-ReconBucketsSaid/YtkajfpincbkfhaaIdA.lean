
/- id: order, digits, hexadecimal digits, parsing. -/
import Derived.Test.YtkajfpincbkfhaaTag3
import Derived.Lib.Bytealg
import Derived.Laws.Externs
import Derived.Laws.IdiomStrings
set_option linter.unusedSimpArgs false
set_option linter.unusedVariables false
namespace Go.Proofs.Ytkajfpincbkfhaa
open Go.RowKit Go.Qc
attribute [local go_sem] txt_size txt_append ib_fold

theorem push_arr (acc : Array UInt8) (b : UInt8) (l : List UInt8) : (acc.push b) ++ l.toArray = acc ++ (b :: l).toArray := by
  apply Array.ext'
  simp
theorem run_loadBytes {P : Program} (w : World) (g : Nat) : ∀ (l : List UInt8) (o : Nat) (acc : ByteArray), w.rangeAt g o (l.map u8v) →
    (Extern.Bytes.loadBytes ⟨g, o, none⟩ l.length acc).run P w = .ok ⟨acc.data ++ l.toArray⟩ w
  | [], o, acc, _ => by simp [Extern.Bytes.loadBytes]
  | b :: l, o, acc, h => by
    have h0 : w.cell? ⟨g, o, none⟩ = some (.int .u8 (ib b)) := by
      have := h 0 (u8v b) (by simp)
      rwa [Nat.add_zero] at this
    have hr : w.rangeAt g (o + 1) (l.map u8v) := fun j v hj => by
      rw [show o + 1 + j = o + (j + 1) by omega]
      exact h (j + 1) v (by simpa using hj)
    have ih := run_loadBytes (P := P) w g l (o + 1) (acc.push b) hr
    have hb : (ib b).toNat.toUInt8 = b := by
      unfold ib
      rw [Int.toNat_natCast]
      exact UInt8.ofNat_toNat
    unfold Extern.Bytes.loadBytes
    have hl : (load ⟨g, o, none⟩).run P w = .ok (.int .u8 (ib b)) w := by simp [h0]
    rw [List.length_cons, Sem.run_bind, hl]
    simp only [Result.andThen_ok, hb, Addr.add_lit]
    rw [ih]
    congr 2
    exact push_arr acc.data b l
theorem run_bytealg {P : Program} (w : World) (g h o p n m c d : Nat) (a b : List UInt8) (ha : a.length = n) (hb : b.length = m) (hA : w.rangeAt g o (a.map u8v)) (hB : w.rangeAt h p (b.map u8v)) :
    (Extern.BytealgCompare.compare #[.slice (some ⟨g, o, none⟩) n c, .slice (some ⟨h, p, none⟩) m d]).run P w = .ok (.int .i64 (Lib.compareBytes a b)) w := by
  subst ha hb
  change Sem.run P (do pure (goInt (Extern.BytealgCompare.cmp (← Extern.Bytes.bytesOf (.slice (some ⟨g, o, none⟩) a.length c)) (← Extern.Bytes.bytesOf (.slice (some ⟨h, p, none⟩) b.length d))))) w = _
  simp only [Extern.Bytes.bytesOf, Sem.run_bind, Sem.run_pure, run_loadBytes w g a o _ hA, run_loadBytes w h b p _ hB, Result.andThen_ok]
  rw [Lib.cmp_eq]
  simp
  rfl

/-- The world behind two boxed ids. -/
def two (w : World) (a b : List UInt8) : World := (w.alloc (.cells (idVals a) 24)).alloc (.cells (idVals b) 24)
set_option maxRecDepth 100000 in
theorem bytesCompare_any (w : World) (g h o p n m c d : Nat) (a b : List UInt8) (ha : a.length = n) (hb : b.length = m) (hA : w.rangeAt g o (a.map u8v)) (hB : w.rangeAt h p (b.map u8v)) :
    Calls Try.prog 131 #[.slice (some ⟨g, o, none⟩) n c, .slice (some ⟨h, p, none⟩) m d] w fun e w' => e = .returned (.int .i64 (Lib.compareBytes a b)) ∧ w = w' := by
  have hrun := run_bytealg (P := Try.prog) w g h o p n m c d a b ha hb hA hB
  go_enter Try.func131, Try.ntmps131
  go_wp2
  rw [run_callFunc_extern Try.func144 (by kernel_rfl) (by kernel_rfl) (by kernel_rfl) (e := Extern.BytealgCompare.compare) (by kernel_rfl), hrun]
  simp only [Result.andThen]
  rw [Oper.upon_value]
  go_wp2
  go_ret
  exact ⟨rfl, rfl⟩
set_option maxRecDepth 100000 in
theorem order_any (a b : List UInt8) (ha : a.length = 32) (hb : b.length = 32) (w : World) :
    Calls Try.prog 100 #[.agg (idVals a), .agg (idVals b)] w fun e w' => e = .returned (.int .i64 (Lib.compareBytes a b)) ∧ ∃ q, w' = (two w a b).drewN q := by
  obtain ⟨i0, hi, hz0, hz1, hz2⟩ := info_parts infoByte
  have hA := (Blk.new w 24 (idVals a)).alloc (.cells (idVals b) 24)
  have hB := Blk.new (w.alloc (.cells (idVals a) 24)) 24 (idVals b)
  have hk : (w.alloc (.cells (idVals a) 24)).heap.size = w.heap.size + 1 := by simp
  rw [hk] at hB
  have hs := fun W g => run_slice_whole (P := Try.prog) W 24 5 g 0 32 i0 Try.underlying24 hi hz1 (by decide)
  have HA := hid ha
  have HB := hid hb
  have HRA := hid (range_blk hA)
  have HRB := hid (range_blk hB)
  clear ha hb hA hB hk
  go_enter Try.func100, Try.ntmps100
  go_wp2
  generalize hW : (w.alloc (.cells (idVals a) 24)).alloc (.cells (idVals b) 24) = W at *
  have HW := hid hW
  clear hW
  go_quiet ((go_at_call 131; exact quiet_same_l (bytesCompare_any _ _ _ 0 0 32 32 32 32 a b HA.out HB.out (by exact HRA.out) (by exact HRB.out))))
  go_wp2
  go_ret
  exact ⟨rfl, nq, by unfold two; rw [HW.out]⟩
end Go.Proofs.Ytkajfpincbkfhaa

namespace Go.Proofs.Ytkajfpincbkfhaa
open Go.RowKit Go.Qc
attribute [local go_sem] txt_size txt_append ib_fold ib_inj

def ltB (a b : List UInt8) : Bool := decide (Lib.compareBytes a b < 0)
theorem cmp_refl : ∀ (a : List UInt8), Lib.compareBytes a a = 0
  | [] => rfl
  | x :: a => by rw [Lib.compareBytes, if_neg (UInt8.lt_irrefl x), if_neg (UInt8.lt_irrefl x)]; exact cmp_refl a
/-! ### digits -/
/-! ### an id's text -/
end Go.Proofs.Ytkajfpincbkfhaa

namespace Go.Proofs.Ytkajfpincbkfhaa
open Go.RowKit Go.Qc
attribute [local go_sem] txt_size txt_append ib_fold ib_i64

/-! ### a text's id -/
end Go.Proofs.Ytkajfpincbkfhaa

namespace Go.Proofs.Ytkajfpincbkfhaa
open Go.RowKit Go.Qc
attribute [local go_sem] txt_size txt_append ib_fold ib_i64 ib_shr ib_and1

/-! ### Parse of Hex is the id -/
/-! ### Bytes -/
/-! ### Bit -/
set_option maxRecDepth 100000 in
theorem idBit_any (a : List UInt8) (ha : a.length = 32) (i : Nat) (hi : i / 8 < (txt a).size) (w : World) :
    Calls Try.prog 122 #[.agg (idVals a), .int .i64 i] w fun e w' => e = .returned (.int .i64 (ib (bitAt (txt a) i hi))) ∧ Below w.heap.size w w' := by
  have hi2 : i / 8 < 32 := by rw [txt_size, ha] at hi; exact hi
  obtain ⟨x, hx⟩ : ∃ x, a[i / 8]? = some x := ⟨_, List.getElem?_eq_getElem (by rw [ha]; exact hi2)⟩
  have hb : bitAt (txt a) i hi = bit0 (shrB x (7 - i % 8)) := by unfold bitAt; rw [txt_get rfl hx hi]
  rw [hb]
  have hI := Blk.new w 24 (idVals a)
  have hB0 : Below w.heap.size w (w.alloc (.cells (idVals a) 24)) := (Below.refl _ _).alloc (Nat.le_refl _) _
  have hcell := hI.cell_ (i := i / 8) (u := .int .u8 (ib x)) (by unfold idVals; rw [List.getElem?_toArray, List.getElem?_map, hx]; rfl)
  have h0 : (0 : Int) ≤ i := by omega
  have h1 : (i : Int) < 256 := by omega
  have h2 : (0 : Int) ≤ (i : Int) / 8 := by omega
  have e1 : ((i : Int) / 8).toNat = i / 8 := by omega
  have e2 : (7 - (i : Int) % 8).toNat = 7 - i % 8 := by omega
  have h3 : (0 : Int) ≤ 7 - (i : Int) % 8 := by omega
  have h4 : 7 - (i : Int) % 8 ≤ 7 := by omega
  clear hi hb hx hI
  go_enter Try.func122, Try.ntmps122
  go_wp2_with (fail)
  generalize w.alloc (.cells (idVals a) 24) = w0 at *
  go_wp2
  all_goals (go_ret; exact ⟨rfl, hB0⟩)
end Go.Proofs.Ytkajfpincbkfhaa

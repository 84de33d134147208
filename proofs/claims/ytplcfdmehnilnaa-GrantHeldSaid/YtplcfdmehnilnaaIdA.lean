
/- id: order, digits, hexadecimal digits, parsing. -/
import Derived.Test.YtplcfdmehnilnaaTag2
import Derived.Test.YtplcfdmehnilnaaKit4
import Derived.Test.YtplcfdmehnilnaaIdK
import Derived.Lib.Bytealg
import Derived.Laws.Externs
import Derived.Laws.IdiomStrings
set_option linter.unusedSimpArgs false
set_option linter.unusedVariables false
namespace Go.Proofs.Ytplcfdmehnilnaa
open Go.RowKit Go.Qc
attribute [local go_sem] txt_size txt_append ib_fold

theorem push_arr (acc : Array UInt8) (b : UInt8) (l : List UInt8) : (acc.push b) ++ l.toArray = acc ++ (b :: l).toArray := by
  apply Array.ext'
  simp
theorem run_loadBytes {P : Program} (w : World) (g : Nat) : ∀ (l : List UInt8) (o : Nat) (acc : ByteArray), w.rangeAt g o (l.map u8v) →
    (Extern.Bytes.loadBytes ⟨g, o, none⟩ l.length acc).run P w = .ok ⟨acc.data ++ l.toArray⟩ w
  | [], o, acc, _ => by simp [Extern.Bytes.loadBytes]
  | b :: l, o, acc, h => by
    have h0 : w.cell? ⟨g, o, none⟩ = some (.int .u8 (ib b)) := by
      have := h 0 (u8v b) (by simp)
      rwa [Nat.add_zero] at this
    have hr : w.rangeAt g (o + 1) (l.map u8v) := fun j v hj => by
      rw [show o + 1 + j = o + (j + 1) by omega]
      exact h (j + 1) v (by simpa using hj)
    have ih := run_loadBytes (P := P) w g l (o + 1) (acc.push b) hr
    have hb : (ib b).toNat.toUInt8 = b := by
      unfold ib
      rw [Int.toNat_natCast]
      exact UInt8.ofNat_toNat
    unfold Extern.Bytes.loadBytes
    have hl : (load ⟨g, o, none⟩).run P w = .ok (.int .u8 (ib b)) w := by simp [h0]
    rw [List.length_cons, Sem.run_bind, hl]
    simp only [Result.andThen_ok, hb, Addr.add_lit]
    rw [ih]
    congr 2
    exact push_arr acc.data b l
theorem run_bytealg {P : Program} (w : World) (g h o p n m c d : Nat) (a b : List UInt8) (ha : a.length = n) (hb : b.length = m) (hA : w.rangeAt g o (a.map u8v)) (hB : w.rangeAt h p (b.map u8v)) :
    (Extern.BytealgCompare.compare #[.slice (some ⟨g, o, none⟩) n c, .slice (some ⟨h, p, none⟩) m d]).run P w = .ok (.int .i64 (Lib.compareBytes a b)) w := by
  subst ha hb
  change Sem.run P (do pure (goInt (Extern.BytealgCompare.cmp (← Extern.Bytes.bytesOf (.slice (some ⟨g, o, none⟩) a.length c)) (← Extern.Bytes.bytesOf (.slice (some ⟨h, p, none⟩) b.length d))))) w = _
  simp only [Extern.Bytes.bytesOf, Sem.run_bind, Sem.run_pure, run_loadBytes w g a o _ hA, run_loadBytes w h b p _ hB, Result.andThen_ok]
  rw [Lib.cmp_eq]
  simp
  rfl

/-- The world behind two boxed ids. -/
def two (w : World) (a b : List UInt8) : World := (w.alloc (.cells (idVals a) 45)).alloc (.cells (idVals b) 45)
set_option maxRecDepth 100000 in
theorem bytesCompare_any (w : World) (g h o p n m c d : Nat) (a b : List UInt8) (ha : a.length = n) (hb : b.length = m) (hA : w.rangeAt g o (a.map u8v)) (hB : w.rangeAt h p (b.map u8v)) :
    Calls Try.prog 76 #[.slice (some ⟨g, o, none⟩) n c, .slice (some ⟨h, p, none⟩) m d] w fun e w' => e = .returned (.int .i64 (Lib.compareBytes a b)) ∧ w = w' := by
  have hrun := run_bytealg (P := Try.prog) w g h o p n m c d a b ha hb hA hB
  go_enter Try.func76, Try.ntmps76
  go_wp2
  rw [run_callFunc_extern Try.func92 (by kernel_rfl) (by kernel_rfl) (by kernel_rfl) (e := Extern.BytealgCompare.compare) (by kernel_rfl), hrun]
  simp only [Result.andThen]
  rw [Oper.upon_value]
  go_wp2
  go_ret
  exact ⟨rfl, rfl⟩
end Go.Proofs.Ytplcfdmehnilnaa

namespace Go.Proofs.Ytplcfdmehnilnaa
open Go.RowKit Go.Qc
attribute [local go_sem] txt_size txt_append ib_fold ib_inj

/-! ### digits -/
/-! ### an id's text -/
end Go.Proofs.Ytplcfdmehnilnaa

namespace Go.Proofs.Ytplcfdmehnilnaa
open Go.RowKit Go.Qc
attribute [local go_sem] txt_size txt_append ib_fold ib_i64

/-! ### a text's id -/
end Go.Proofs.Ytplcfdmehnilnaa

namespace Go.Proofs.Ytplcfdmehnilnaa
open Go.RowKit Go.Qc
attribute [local go_sem] txt_size txt_append ib_fold ib_i64 ib_shr ib_and1

/-! ### Parse of Hex is the id -/
/-! ### Bytes -/
/-! ### Bit -/
end Go.Proofs.Ytplcfdmehnilnaa

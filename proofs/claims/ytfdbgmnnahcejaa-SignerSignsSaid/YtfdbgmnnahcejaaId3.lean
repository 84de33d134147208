
/- An id's text by the document; a text's id. -/
import Derived.Test.YtfdbgmnnahcejaaId2
namespace Go.Proofs.Ytfdbgmnnahcejaa
open Go.RowKit Go.Qc
attribute [local go_sem] txt_size txt_append ib_fold ib_i64

theorem hex_cut (n : Nat) (h : n < 16) : (⟨#[48, 49, 50, 51, 52, 53, 54, 55, 56, 57, 97, 98, 99, 100, 101, 102]⟩ : ByteArray).extract n (n + 1) = txt [hexD n] := by
  have e : (⟨#[48, 49, 50, 51, 52, 53, 54, 55, 56, 57, 97, 98, 99, 100, 101, 102]⟩ : ByteArray) = txt hexT := rfl
  rw [e, txt_extract]
  congr 1
  rw [show n + 1 - n = 1 by omega]
  match n, h with
  | 0, _ => rfl
  | 1, _ => rfl
  | 2, _ => rfl
  | 3, _ => rfl
  | 4, _ => rfl
  | 5, _ => rfl
  | 6, _ => rfl
  | 7, _ => rfl
  | 8, _ => rfl
  | 9, _ => rfl
  | 10, _ => rfl
  | 11, _ => rfl
  | 12, _ => rfl
  | 13, _ => rfl
  | 14, _ => rfl
  | 15, _ => rfl
  | n + 16, h => exact absurd h (by omega)
theorem quo16 (x : UInt8) : (ib x).tdiv 16 = ((x.toNat / 16 : Nat) : Int) := by rw [Int.tdiv_eq_ediv_of_nonneg (ib_lo x)]; exact shr4 x
theorem rem16 (x : UInt8) : (ib x).tmod 16 = ((x.toNat % 16 : Nat) : Int) := by rw [Int.tmod_eq_emod_of_nonneg (ib_lo x)]; unfold ib; omega
/-! ### a text's id -/
theorem run_index_txt (l : List UInt8) (n : Nat) (x : UInt8) (hx : l[n]? = some x) (z : Int) (hz : z = n) (w : World) : (Instr.index 9 (.string (txt l)) (.int .i64 z)).run Try.prog w = .ok (.int .u8 (ib x)) w := by
  subst hz
  have hn : n < l.length := (List.getElem?_eq_some_iff.1 hx).1
  have h1 : (0 : Int) ≤ (n : Int) ∧ (n : Int) < ((txt l).size : Nat) := by rw [txt_size]; omega
  have hg : (txt l)[n]? = some x := by
    rw [getElem?_pos (txt l) n (by rw [txt_size]; exact hn)]
    congr 1
    exact txt_get rfl hx _
  simp [Instr.index, asIntOf, run_underlying Try.underlying9, h1, hg]
  rfl
def dig (s : List UInt8) (i : Nat) : Int := digV (s.getD i 0)
theorem dig_lo (c : UInt8) : -1 ≤ digV c := by unfold digV; split; · omega
                                               · split <;> omega
theorem dig_hi (c : UInt8) : digV c < 16 := by unfold digV; split; · omega
                                               · split <;> omega
theorem or16_fin : ∀ a b : Fin 16, bits .or .i64 ((a.val : Int) * 16) (b.val : Int) % 256 = ((a.val * 16 + b.val : Nat) : Int) := by decide +kernel
theorem or16 (X Y : Int) (h1 : 0 ≤ X) (h2 : X < 16) (h3 : 0 ≤ Y) (h4 : Y < 16) : bits .or .i64 (X * 16) Y % 256 = ib (UInt8.ofNat (X.toNat * 16 + Y.toNat)) := by
  have h := or16_fin ⟨X.toNat, by omega⟩ ⟨Y.toNat, by omega⟩
  simp only [Int.toNat_of_nonneg h1, Int.toNat_of_nonneg h3] at h
  rw [h]
  unfold ib
  rw [UInt8.toNat_ofNat']
  omega
theorem add16 (X Y : Int) (h1 : 0 ≤ X) (h2 : X < 16) (h3 : 0 ≤ Y) (h4 : Y < 16) : 16 * X + Y = ib (UInt8.ofNat (X.toNat * 16 + Y.toNat)) := by
  unfold ib
  rw [UInt8.toNat_ofNat']
  omega
def unhexAt (s : List UInt8) (i : Nat) : UInt8 := UInt8.ofNat ((dig s (2 * i)).toNat * 16 + (dig s (2 * i + 1)).toNat)
def unhex (s : List UInt8) : List UInt8 := (List.range 32).map (unhexAt s)
def hexOk (s : List UInt8) : Prop := s.length = 64 ∧ ∀ i, i < 32 → 0 ≤ dig s (2 * i) ∧ 0 ≤ dig s (2 * i + 1)
instance (s : List UInt8) : Decidable (hexOk s) := by unfold hexOk; exact inferInstance
theorem unhex_length (s : List UInt8) : (unhex s).length = 32 := by simp [unhex]
end Go.Proofs.Ytfdbgmnnahcejaa


/- The contracts of the document's table and padding. -/
import Derived.Test.YticpdepbgcagaaaGreatSha7
namespace Go.Proofs.YticpdepbgcagaaaGreat
open Go.RowKit Go.Qc

attribute [local go_sem] txt_size txt_append

set_option maxRecDepth 100000 in
set_option maxHeartbeats 400000 in
theorem known_any (w : World) :
    Calls Tryz.prog 76 #[] w fun e w' => ∃ g1 g2, e = .returned (.tuple #[.slice (some ⟨g1, 0, none⟩) 8 8, .slice (some ⟨g2, 0, none⟩) 64 64]) ∧ Rd w' (some ⟨g1, 0, none⟩) (h0.list.map u32v) ∧ Rd w' (some ⟨g2, 0, none⟩) (kList.map u32v) ∧ Below w.heap.size w w' := by
  go_enter Tryz.func76, Tryz.ntmps76
  go_wp2
  go_ret2
  refine ⟨_, _, rfl, ?_, ?_, ((Below.refl _ _).alloc (Nat.le_refl _) _).alloc (by simp) _⟩
  · exact Rd.blk (cs := (h0.list.map u32v).toArray) ((Blk.new w _ _).alloc _) (fun j u hu => by rw [List.getElem?_toArray]; exact hu)
  · have h := Blk.new (w.alloc (.cells #[.int .u32 1779033703, .int .u32 3144134277, .int .u32 1013904242, .int .u32 2773480762, .int .u32 1359893119, .int .u32 2600822924, .int .u32 528734635, .int .u32 1541459225] 142)) 142 (kList.map u32v).toArray
    rw [show (w.alloc (.cells #[.int .u32 1779033703, .int .u32 3144134277, .int .u32 1013904242, .int .u32 2773480762, .int .u32 1359893119, .int .u32 2600822924, .int .u32 528734635, .int .u32 1541459225] 142)).heap.size = w.heap.size + 1 by simp] at h
    exact Rd.blk h (fun j u hu => by rw [List.getElem?_toArray]; exact hu)

theorem rnumber8 (v : BitVec 64) (z : Int) (hz : z = lv v) (cb : List UInt8) (hc : cb = numB v 8) (w : World) :
    Calls Tryz.prog 71 #[.int .u64 z, .int .i64 8] w fun e w' => e = .returned (.tuple #[.string (txt cb), .bool true]) ∧ Below w.heap.size w w' := by
  subst hz
  subst hc
  exact rnumber_any v 8 (by omega) (by
    apply BitVec.eq_of_toNat_eq
    rw [BitVec.toNat_ushiftRight, Nat.shiftRight_eq_div_pow, Nat.div_eq_of_lt v.isLt]; rfl) w

theorem mk_txt1 (b : UInt8) : (⟨#[b]⟩ : ByteArray) = txt [b] := rfl

set_option maxHeartbeats 1000000 in
theorem padded_any (l : List UInt8) (hl : l.length ≤ 1000000000000) (w : World) :
    Calls Tryz.prog 77 #[.string (txt l)] w fun e w' => e = .returned (.string (txt (l ++ padB l.length))) ∧ Below w.heap.size w w' := by
  obtain ⟨q, hq⟩ : ∃ q, q = (119 - l.length % 64) % 64 := ⟨_, rfl⟩
  have hv : (l.length : Int) * 8 = lv (BitVec.ofNat 64 (l.length * 8)) := by
    unfold lv; rw [BitVec.toNat_ofNat]; omega
  obtain ⟨cb, hcb⟩ : ∃ cb, cb = numB (BitVec.ofNat 64 (l.length * 8)) 8 := ⟨_, rfl⟩
  have hl8 : cb.length = 8 := by rw [hcb]; exact numB_length _ _
  have e1 := mk_txt1 128
  have e0 := mk_txt1 0
  have hq64 : q ≤ 63 := by omega
  have HV := hid hv
  have HQ := hid hq
  have HC := hid hcb
  clear hv hq hcb
  have z1 : ¬ 9223372036854775807 < (txt l).size + (txt [128]).size := by rw [txt_size, txt_size]; simp; omega
  go_enter Tryz.func77, Tryz.ntmps77
  go_wp2
  go_loop [3] (fun v => ∃ k : Nat, ∃ o, k ≤ q ∧ v = .string (txt o) ∧ o = l ++ 128 :: List.replicate k 0) (fun v => l.length + 1 + q - (match v with | .string x => x.size | _ => 0))
  case atStart => exact ⟨0, _, by omega, rfl, rfl⟩
  case round =>
    obtain ⟨k, o, hk, rfl, ho⟩ := hrel
    have hol : o.length = l.length + 1 + k := by rw [ho]; simp; omega
    have z2 : ¬ 9223372036854775807 < (txt o).size + (txt [0]).size := by rw [txt_size, txt_size]; simp; omega
    by_cases hlt : k < q
    · have t1 : ((o.length : Int) % 64 == 56) = false := by
        have := HQ.out
        simp; omega
      have t2 : ((o.length : Int) % 64 != 56) = true := by
        have := HQ.out
        simp; omega
      have HO := hid ho
      have HOL := hid hol
      clear ho hol
      go_wp2
      go_round
      case rel => exact ⟨k + 1, _, by omega, rfl, by rw [HO.out, List.append_assoc, List.cons_append, ← List.replicate_succ']⟩
      case measure =>
        have := HOL.out
        show _ - (txt _).size < _ - (txt _).size
        rw [txt_size, txt_size, List.length_append]; simp; omega
    · obtain rfl : k = q := by omega
      have t1 : ((o.length : Int) % 64 == 56) = true := by
        have := HQ.out
        simp; omega
      have t2 : ((o.length : Int) % 64 != 56) = false := by
        have := HQ.out
        simp; omega
      have z3 : ¬ 9223372036854775807 < (txt o).size + (txt cb).size := by rw [txt_size, txt_size]; omega
      have HO := hid ho
      clear ho hol
      go_wp2_with (go_at_call 71; (with_reducible refine (rnumber8 (BitVec.ofNat 64 (l.length * 8)) _ HV.out cb HC.out _).mono ?_); rintro e1 w1 ⟨rfl, hb1⟩)
      go_ret
      refine ⟨?_, hb1⟩
      have e : l ++ padB l.length = o ++ cb := by
        unfold padB; rw [HO.out, ← HQ.out, ← HC.out, List.append_assoc]
      rw [e]
      rfl
end Go.Proofs.YticpdepbgcagaaaGreat


/- tag: the text of a name and parts, of the program and of the document. -/
import Derived.Test.YticpdepbgcagaaaGreatBld
import Derived.Test.YticpdepbgcagaaaGreatNums
namespace Go.Proofs.YticpdepbgcagaaaGreat
open Go.RowKit Go.Qc
attribute [local go_sem] txt_size txt_append ib_fold

def partB (p : List UInt8) : List UInt8 := numB (BitVec.ofNat 64 p.length) 8 ++ p
def textB (n : List UInt8) (ps : List (List UInt8)) : List UInt8 := [UInt8.ofNat n.length] ++ n ++ ps.flatMap partB
theorem partB_length (p : List UInt8) : (partB p).length = 8 + p.length := by rw [partB, List.length_append, numB_length]
theorem textB_snoc (n : List UInt8) (ps : List (List UInt8)) (p : List UInt8) : textB n (ps ++ [p]) = textB n ps ++ (numB (BitVec.ofNat 64 p.length) 8 ++ p) := by simp [textB, partB, List.append_assoc]
theorem textB_nil (n : List UInt8) : textB n [] = [UInt8.ofNat n.length] ++ n := by simp [textB]
theorem textB_take_le (n : List UInt8) (ps : List (List UInt8)) (k : Nat) : (textB n (ps.take k)).length ≤ (textB n ps).length := by
  have h : ps.flatMap partB = (ps.take k).flatMap partB ++ (ps.drop k).flatMap partB := by rw [← List.flatMap_append, List.take_append_drop]
  simp only [textB, h, List.length_append]; omega
theorem textB_ge (n : List UInt8) (ps : List (List UInt8)) : ps.length ≤ (textB n ps).length := by
  induction ps with
  | nil => simp
  | cons p ps ih => simp only [textB, List.length_append, List.length_cons, List.flatMap_cons, partB_length] at *; omega
theorem lv_len (n : Nat) (h : n ≤ 1000000000000) : (n : Int) = lv (BitVec.ofNat 64 n) := by
  unfold lv; rw [BitVec.toNat_ofNat]; omega
theorem number_len (n : Nat) (h : n ≤ 1000000000000) (w : World) :
    Calls Tryz.prog 59 #[.int .u64 n, .int .i64 8] w fun e w' => e = .returned (.tuple #[.string (txt (numB (BitVec.ofNat 64 n) 8)), .bool true]) ∧ Below w.heap.size w w' := by
  have := number_any (BitVec.ofNat 64 n) 8 (by decide) (by rw [fits_iff]; exact (BitVec.ofNat 64 n).isLt) w
  rw [← lv_len n h] at this
  exact this
theorem rnumber_len (n : Nat) (h : n ≤ 1000000000000) (w : World) :
    Calls Tryz.prog 71 #[.int .u64 n, .int .i64 8] w fun e w' => e = .returned (.tuple #[.string (txt (numB (BitVec.ofNat 64 n) 8)), .bool true]) ∧ Below w.heap.size w w' := by
  have := rnumber_any (BitVec.ofNat 64 n) 8 (by decide) (by rw [fits_iff]; exact (BitVec.ofNat 64 n).isLt) w
  rw [← lv_len n h] at this
  exact this
set_option maxRecDepth 100000 in
set_option maxHeartbeats 1000000 in
theorem text_any (nm : List UInt8) (hnm : nm.length ≤ 255) (A : Option Addr) (n c : Nat) (ps : List (List UInt8)) (hn : ps.length = n) (hm : (textB nm ps).length ≤ 1000000000000) (w : World) (hr : Rd w A (ps.map strV)) :
    Calls Tryz.prog 90 #[.string (txt nm), .slice A n c] w fun e w' => e = .returned (.tuple #[.string (txt (textB nm ps)), .int .i64 0]) ∧ Below w.heap.size w w' := by
  have l0 : ¬ (255 : Int) < nm.length := by omega
  have hge := textB_ge nm ps
  rw [hn] at hge
  have hnb : n ≤ 1000000000000 := by omega
  clear hge
  go_enter Tryz.func90, Tryz.ntmps90
  go_wp2
  go_loop [6, 22] (fun v i => ∃ k : Nat, k ≤ n ∧ i = .int .i64 k ∧ v = .int .i64 ((textB nm (ps.take k)).length : Nat)) (fun _ i => n - (intOf i).toNat)
  case atStart => exact ⟨0, by omega, rfl, by rw [List.take_zero, textB_nil]; simp; omega⟩
  case round =>
    obtain ⟨k, hk, rfl, rfl⟩ := hrel
    have hle := textB_take_le nm ps k
    by_cases hlt : k < n
    · obtain ⟨p, hp⟩ : ∃ p, ps[k]? = some p := ⟨_, List.getElem?_eq_getElem (by omega)⟩
      obtain ⟨ad, rfl, hcell⟩ := rd_in hr k (strV p) (by rw [List.getElem?_map, hp]; rfl)
      unfold strV at hcell
      have HT := hid (take_snoc hp)
      have hle2 := textB_take_le nm ps (k + 1)
      rw [HT.out, textB_snoc, List.length_append, List.length_append, numB_length] at hle2
      generalize hL : (textB nm (ps.take k)).length = L at *
      have HL := hid hL
      clear hL
      have b1 : (k : Int) < n := by omega
      go_wp2
      go_round
      case rel => exact ⟨k + 1, hlt, by go_num, by rw [HT.out, textB_snoc, List.length_append, List.length_append, numB_length, HL.out]; go_num⟩
      case measure => simp [intOf]; omega
    · obtain rfl : k = n := by omega
      have HN := hid hn
      rw [List.take_of_length_le (by omega)] at hle ⊢
      clear hn hle
      generalize hL : (textB nm ps).length = L at *
      have HL := hid hL
      clear hL
      have b1 : ¬ (k : Int) < k := by omega
      go_wp2_with (first
        | (go_at_call 93; (with_reducible refine (bld_grow _ L _ (heap_alloc_new _ _) hm).mono ?_); rintro e1 w1 ⟨rfl, hb1, hB1⟩))
      go_wp2_with (first
        | (go_at_call 108; (with_reducible refine (bld_byten _ [] nm.length hnm _ hb1 (by simp)).mono ?_); rintro e2 w2 ⟨rfl, hb2, hB2⟩)
        | (go_at_call 109; (with_reducible refine (bld_string _ _ nm _ hb2 (by simp; omega)).mono ?_); rintro e3 w3 ⟨rfl, hb3, hB3⟩))
      have HL1 := HL.out
      clear HL
      subst HL1
      have hB3' : Below w.heap.size w w3 := ((((Below.refl _ w).alloc (Nat.le_refl _) _).trans hB1).trans hB2).trans hB3
      rw [List.nil_append, ← textB_nil] at hb3
      clear hb1 hb2 hB1 hB2 hB3
      obtain ⟨g, hg⟩ : ∃ g, g = w.heap.size := ⟨_, rfl⟩
      rw [← hg] at hb3 hB3' ⊢
      have hr := fun W (h : Below g w W) => hr.below (w' := W) (by rw [← hg]; exact h)
      have HG := hid hg
      clear hg
      go_loopw [42] (fun i wr => ∃ j : Nat, j ≤ k ∧ i = .int .i64 j ∧ Lib.BuilderAt 133 5 g g (.pointer (some ⟨g, 0, none⟩)) ((textB nm (ps.take j)).map u8v) wr ∧ Below g w wr) (fun i _ => k - (intOf i).toNat)
      case atStart => exact ⟨0, by omega, rfl, by rw [List.take_zero]; exact hb3, hB3'⟩
      case round =>
        obtain ⟨j, hj, rfl, hb, hB⟩ := hrel
        clear hb3 hB3'
        by_cases hlt : j < k
        · obtain ⟨p, hp⟩ : ∃ p, ps[j]? = some p := ⟨_, List.getElem?_eq_getElem (by have := HN.out; omega)⟩
          obtain ⟨ad, rfl, hcell⟩ := rd_in (hr _ hB) j (strV p) (by rw [List.getElem?_map, hp]; rfl)
          unfold strV at hcell
          have HT := hid (take_snoc hp)
          have hle := textB_take_le nm ps (j + 1)
          rw [HT.out, textB_snoc, List.length_append, List.length_append, numB_length] at hle
          generalize hQ : textB nm (ps.take j) = Q at *
          have HQ := hid hQ
          clear hQ hr hp
          have b2 : (j : Int) < k := by omega
          have hGw : g ≤ wr.heap.size := Nat.le_of_lt hb.lt
          have hpl : p.length ≤ 1000000000000 := by omega
          have HP := hid hpl
          have hq1 : Q.length + (numB (BitVec.ofNat 64 p.length) 8).length ≤ 1000000000000 := by rw [numB_length]; omega
          have hq2 : (Q ++ numB (BitVec.ofNat 64 p.length) 8).length + p.length ≤ 1000000000000 := by rw [List.length_append, numB_length]; omega
          have HQ1 := hid hq1
          have HQ2 := hid hq2
          clear hq1 hq2 hle
          go_wp2_with (first
            | (go_at_call 59; (with_reducible refine (number_len _ HP.out _).mono ?_); rintro e4 w4 ⟨rfl, hB4⟩)
            | (go_at_call 109; (with_reducible refine (bld_string g Q (numB (BitVec.ofNat 64 p.length) 8) _ (bld_below hb hB4) HQ1.out).mono ?_); rintro e5 w5 ⟨rfl, hb5, hB5⟩)
            | (go_at_call 109; (with_reducible refine (bld_string _ _ p _ hb5 HQ2.out).mono ?_); rintro e6 w6 ⟨rfl, hb6, hB6⟩))
          go_roundw
          case rel => exact ⟨j + 1, hlt, by go_num, by rw [HT.out, textB_snoc, HQ.out, ← List.append_assoc]; exact hb6, ((hB.trans (hB4.mono hGw)).trans hB5).trans hB6⟩
          case measure => simp [intOf]; omega
        · obtain rfl : j = k := by omega
          rw [List.take_of_length_le (by have := HN.out; omega)] at hb
          have b2 : ¬ (j : Int) < j := by omega
          go_wp2_with (first
            | (go_at_call 96; (with_reducible refine (bld_text _ _ _ hb).mono ?_); rintro e7 w7 ⟨rfl, hB7⟩))
          go_ret2
          exact ⟨rfl, by rw [← HG.out]; exact hB.trans hB7⟩

set_option maxRecDepth 100000 in
set_option maxHeartbeats 1000000 in
theorem rtext_any (nm : List UInt8) (hnm : nm.length ≤ 255) (A : Option Addr) (n c : Nat) (ps : List (List UInt8)) (hn : ps.length = n) (hm : (textB nm ps).length ≤ 1000000000000) (w : World) (hr : Rd w A (ps.map strV)) :
    Calls Tryz.prog 84 #[.string (txt nm), .slice A n c] w fun e w' => e = .returned (.string (txt (textB nm ps))) ∧ Below w.heap.size w w' := by
  have hge := textB_ge nm ps
  rw [hn] at hge
  have hnb : n ≤ 1000000000000 := by omega
  clear hge
  go_enter Tryz.func84, Tryz.ntmps84
  have hv : u8v (UInt8.ofNat nm.length) = .int .u8 nm.length := by
    unfold u8v ib; rw [UInt8.toNat_ofNat']; congr 1; omega
  have hconv := run_txt (P := Tryz.prog) (w.alloc (Obj.cells #[.int .u8 nm.length] 5)) 97 9 5 (some ⟨w.heap.size, 0, none⟩) 1 1 [UInt8.ofNat nm.length] Tryz.underlying97 Tryz.underlying5 Tryz.underlying9 rfl (Rd.blk (Blk.new _ _ _) (by
    intro j u hu
    rw [List.map_cons, hv, List.map_nil] at hu
    rw [List.getElem?_toArray]; exact hu))
  clear hv
  go_wp2
  go_loopw [5, 6] (fun v i wr => ∃ k : Nat, k ≤ n ∧ i = .int .i64 k ∧ v = .string (txt (textB nm (ps.take k))) ∧ Below w.heap.size w wr) (fun _ i _ => n - (intOf i).toNat)
  case atStart => exact ⟨0, by omega, rfl, by rw [List.take_zero, textB_nil]; rfl, (Below.refl _ _).alloc (Nat.le_refl _) _⟩
  case round =>
    obtain ⟨k, hk, rfl, rfl, hB⟩ := hrel
    clear hconv
    by_cases hlt : k < n
    · obtain ⟨p, hp⟩ : ∃ p, ps[k]? = some p := ⟨_, List.getElem?_eq_getElem (by omega)⟩
      obtain ⟨ad, rfl, hcell⟩ := rd_in (hr.below hB) k (strV p) (by rw [List.getElem?_map, hp]; rfl)
      unfold strV at hcell
      have HT := hid (take_snoc hp)
      have hle := textB_take_le nm ps (k + 1)
      rw [HT.out, textB_snoc, List.length_append, List.length_append, numB_length] at hle
      generalize hQ : textB nm (ps.take k) = Q at *
      have HQ := hid hQ
      have b1 : (k : Int) < n := by omega
      have b0 : (0 : Int) ≤ k := by omega
      have hpl : p.length ≤ 1000000000000 := by omega
      have HP := hid hpl
      have z2 : ¬ (9223372036854775807 : Int) < 8 + p.length := by omega
      have z3 : ¬ (9223372036854775807 : Int) < Q.length + (8 + p.length) := by omega
      have z4 : (numB (BitVec.ofNat 64 p.length) 8).length = 8 := numB_length _ _
      clear hQ hr hp hle
      go_wp2_with (first
        | (go_at_call 71; (with_reducible refine (rnumber_len _ HP.out _).mono ?_); rintro e4 w4 ⟨rfl, hB4⟩; have hcell4 := Below.keep hB4 hcell))
      go_roundw
      case rel => exact ⟨k + 1, hlt, by go_num, by rw [HT.out, textB_snoc, HQ.out], hB.trans (hB4.mono hB.size)⟩
      case measure => simp [intOf]; omega
    · obtain rfl : k = n := by omega
      rw [List.take_of_length_le (by omega)]
      have b1 : ¬ (k : Int) < k := by omega
      go_wp2
      go_ret
      exact ⟨rfl, hB⟩
end Go.Proofs.YticpdepbgcagaaaGreat

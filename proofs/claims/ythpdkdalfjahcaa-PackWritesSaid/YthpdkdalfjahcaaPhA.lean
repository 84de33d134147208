
/- path and hunk: covering, what stands beside, above, last; lines, hunks, applying -/
import Derived.Test.YthpdkdalfjahcaaPaA
import Derived.Lib.Join
import Derived.Shelf.Strings.OnBuilder
import Derived.Shelf.Spec.SlicesGrow
import Derived.Laws.AppendOwnNone
set_option linter.unusedSimpArgs false
set_option linter.unusedVariables false
namespace Go.Proofs.Ythpdkdalfjahcaa
open Go.RowKit Go.Qc Go.Shelf
attribute [local go_sem] txt_size txt_append ib_fold txt_toL

set_option maxHeartbeats 2000000 in
theorem same_any (A B : Option Addr) (n m c d : Nat) (ps qs : List (List UInt8)) (hn : ps.length = n) (hm : qs.length = m) (bn : n ≤ 9223372036854775807) (bm : m ≤ 9223372036854775807) (w : World) (hr : Rd w A (ps.map strV)) (hs : Rd w B (qs.map strV)) :
    Calls Try.prog 40 #[.slice A n c, .slice B m d] w fun e w' => e = .returned (.bool (decide (ps = qs))) ∧ Below w.heap.size w w' := by
  by_cases hnm : n = m
  · subst hnm
    go_enter Try.func40, Try.ntmps40
    go_wp2
    go_loopw [5] (fun i wr => ∃ k : Nat, k ≤ n ∧ i = .int .i64 k ∧ ps.take k = qs.take k ∧ Below w.heap.size w wr) (fun i _ => n - (intOf i).toNat)
    case atStart => exact ⟨0, by omega, rfl, rfl, Below.refl _ _⟩
    case round =>
      obtain ⟨k, hk, rfl, ht, hBr⟩ := hrel
      by_cases hlt : k < n
      · obtain ⟨p, hp⟩ : ∃ p, ps[k]? = some p := ⟨_, List.getElem?_eq_getElem (by omega)⟩
        obtain ⟨q, hq⟩ : ∃ q, qs[k]? = some q := ⟨_, List.getElem?_eq_getElem (by omega)⟩
        obtain ⟨ad, rfl, hcell⟩ := rd_in (hr.below hBr) k (strV p) (by rw [List.getElem?_map, hp]; rfl)
        obtain ⟨ad2, rfl, hcell2⟩ := rd_in (hs.below hBr) k (strV q) (by rw [List.getElem?_map, hq]; rfl)
        unfold strV at hcell hcell2
        have HP := hid hp
        have HQ := hid hq
        have HT2 := hid ht
        have b1 : (k : Int) < n := by omega
        clear hp hq ht
        by_cases hpq : p = q
        · subst hpq
          go_wp2
          go_quiet (fail)
          go_wp2
          go_roundw
          case rel => exact ⟨k + 1, hlt, by go_num, by rw [take_snoc HP.out, take_snoc HQ.out, HT2.out], below_drewN hBr _⟩
          case measure => simp [intOf]; omega
        · have hb2 : (p == q) = false := beq_eq_false_iff_ne.2 hpq
          go_wp2
          go_quiet (fail)
          go_wp2
          go_ret
          refine ⟨?_, below_drewN hBr _⟩
          have : ¬ ps = qs := by
            rintro rfl
            have := HP.out.symm.trans HQ.out
            exact hpq (Option.some.inj this)
          rw [decide_eq_false this]; rfl
      · obtain rfl : k = n := by omega
        rw [List.take_of_length_le (by omega), List.take_of_length_le (by omega)] at ht
        have HT := hid ht
        have b1 : ¬ (k : Int) < k := by omega
        clear ht
        go_wp2
        go_ret
        exact ⟨by rw [decide_eq_true HT.out]; rfl, hBr⟩
  · have h1 : ((n : Int) == m) = false := by rw [beq_eq_false_iff_ne]; omega
    have h2 : ¬ (n : Int) = m := by omega
    have hne : ¬ ps = qs := by rintro rfl; omega
    rw [decide_eq_false hne]
    clear hne
    go_enter Try.func40, Try.ntmps40
    go_wp2
    go_ret
    exact ⟨rfl, Below.refl _ _⟩
theorem rowRd {w : World} {base n : Nat} {v : Value} {xs : List Value} {e : TypeId} (h : w.ownsRow base e 1 v n xs) : xs.length = n ∧ ∃ A c, v = .slice A n c ∧ Rd w A xs := Rd.own h
end Go.Proofs.Ythpdkdalfjahcaa

namespace Go.Proofs.Ythpdkdalfjahcaa
open Go.RowKit Go.Qc Go.Shelf
attribute [local go_sem] txt_size txt_append ib_fold txt_toL

/-! ### joined with slashes -/
/-! ### the last slash -/
end Go.Proofs.Ythpdkdalfjahcaa

namespace Go.Proofs.Ythpdkdalfjahcaa
open Go.RowKit Go.Qc Go.Shelf
attribute [local go_sem] txt_size txt_append ib_fold txt_toL

theorem below_drew10 (w : World) : Below w.heap.size w w.drew := ⟨(Below.refl w.heap.size w).os, (Below.refl w.heap.size w).tape, (Below.refl w.heap.size w).output, (Below.refl w.heap.size w).size, (Below.refl w.heap.size w).block⟩
end Go.Proofs.Ythpdkdalfjahcaa

namespace Go.Proofs.Ythpdkdalfjahcaa
open Go.RowKit Go.Qc Go.Shelf
attribute [local go_sem] txt_size txt_append ib_fold txt_toL

/-! ### what joined parts part into -/
end Go.Proofs.Ythpdkdalfjahcaa

namespace Go.Proofs.Ythpdkdalfjahcaa
open Go.RowKit Go.Qc Go.Shelf
attribute [local go_sem] txt_size txt_append ib_fold txt_toL

/-! ### the document's -/
/-! ### hunks -/
end Go.Proofs.Ythpdkdalfjahcaa

namespace Go.Proofs.Ythpdkdalfjahcaa
open Go.RowKit Go.Qc Go.Shelf
attribute [local go_sem] txt_size txt_append ib_fold txt_toL

/-- A struct of three cells in a block. -/
structure Hk (w : World) (g : Nat) (t : TypeId) (at' : Int) (u v : Value) : Prop where
  b : Blk w g t #[.int .i64 at', u, v]
theorem Hk.c0 {w : World} {g : Nat} {t : TypeId} {at' : Int} {u v : Value} (h : Hk w g t at' u v) : w.cell? ⟨g, 0, none⟩ = some (.int .i64 at') := h.b.cell_ rfl
theorem Hk.c1 {w : World} {g : Nat} {t : TypeId} {at' : Int} {u v : Value} (h : Hk w g t at' u v) : w.cell? ⟨g, 1, none⟩ = some u := h.b.cell_ rfl
theorem Hk.c2 {w : World} {g : Nat} {t : TypeId} {at' : Int} {u v : Value} (h : Hk w g t at' u v) : w.cell? ⟨g, 2, none⟩ = some v := h.b.cell_ rfl
theorem Hk.below {w w' : World} {g : Nat} {t : TypeId} {at' : Int} {u v : Value} (h : Hk w g t at' u v) (hb : Below w.heap.size w w') : Hk w' g t at' u v := ⟨h.b.below hb⟩
theorem Hk.new (w : World) (t : TypeId) (at' : Int) (u v : Value) : Hk (w.alloc (.cells #[.int .i64 at', u, v] t)) w.heap.size t at' u v := ⟨Blk.new _ _ _⟩
/-! ### a row of the call's own, made with room -/
end Go.Proofs.Ythpdkdalfjahcaa

namespace Go.Proofs.Ythpdkdalfjahcaa
open Go.RowKit Go.Qc Go.Shelf
attribute [local go_sem] txt_size txt_append ib_fold txt_toL

/-- A slice that reads as a row of texts. -/
def Sl (w : World) (v : Value) (r : List (List UInt8)) : Prop := ∃ A n c, v = .slice A n c ∧ r.length = n ∧ (A = none → c = 0) ∧ Rd w A (r.map strV)
theorem Sl.below {w w' : World} {v : Value} {r : List (List UInt8)} (h : Sl w v r) (hb : Below w.heap.size w w') : Sl w' v r := by
  obtain ⟨A, n, c, rfl, h1, h0, h2⟩ := h
  exact ⟨A, n, c, rfl, h1, h0, h2.below hb⟩
end Go.Proofs.Ythpdkdalfjahcaa

namespace Go.Proofs.Ythpdkdalfjahcaa
open Go.RowKit Go.Qc Go.Shelf
attribute [local go_sem] txt_size txt_append ib_fold txt_toL

end Go.Proofs.Ythpdkdalfjahcaa

namespace Go.Proofs.Ythpdkdalfjahcaa
open Go.RowKit Go.Qc Go.Shelf
attribute [local go_sem] txt_size txt_append ib_fold txt_toL

/-! ### the document's -/
end Go.Proofs.Ythpdkdalfjahcaa

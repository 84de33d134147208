
/- lamport: public sums of what is shown and hidden; what they recover. -/
import Derived.Test.YthpdkdalfjahcaaLam6
namespace Go.Proofs.Ythpdkdalfjahcaa
open Go.RowKit Go.Qc
attribute [local go_sem] txt_size txt_append ib_fold

def pubF (m : List UInt8) (l r : List (List UInt8)) (b sd : Nat) : List UInt8 := if sd = bitZ m b then pubB (l.getD b zeroB) else r.getD b zeroB
theorem pubF_length (m : List UInt8) (l r : List (List UInt8)) (hr : ∀ x ∈ r, x.length = 32) (b sd : Nat) : (pubF m l r b sd).length = 32 := by
  unfold pubF
  split
  · exact pubB_length _
  · rw [List.getD_eq_getElem?_getD]
    cases h : r[b]? with
    | none => rfl
    | some x => exact hr x (List.mem_of_getElem? h)
/-- The world behind the three variables of Publics. -/
def wP (w : World) (m : List UInt8) (A B : Option Addr) (n c k d : Nat) : World := ((w.alloc (.cells (idVals m) 24)).alloc (.cells #[.slice A n c] 22)).alloc (.cells #[.slice B k d] 22)
theorem wP_facts (w : World) (m : List UInt8) (A B : Option Addr) (n c k d : Nat) :
    (wP w m A B n c k d).rangeAt w.heap.size 0 (m.map u8v) ∧ (wP w m A B n c k d).cell? ⟨w.heap.size + 1, 0, none⟩ = some (.slice A n c) ∧ (wP w m A B n c k d).cell? ⟨w.heap.size + 1 + 1, 0, none⟩ = some (.slice B k d) ∧ Below w.heap.size w (wP w m A B n c k d) := by
  have hz1 : (w.alloc (.cells (idVals m) 24)).heap.size = w.heap.size + 1 := by simp
  have hz2 : ((w.alloc (.cells (idVals m) 24)).alloc (.cells #[.slice A n c] 22)).heap.size = w.heap.size + 1 + 1 := by simp
  have b2 := (Blk.new (w.alloc (.cells (idVals m) 24)) 22 #[.slice A n c]).alloc (.cells #[.slice B k d] 22)
  rw [hz1] at b2
  have b3 := Blk.new ((w.alloc (.cells (idVals m) 24)).alloc (.cells #[.slice A n c] 22)) 22 #[.slice B k d]
  rw [hz2] at b3
  exact ⟨range_blk (((Blk.new w 24 (idVals m)).alloc _).alloc _), b2.cell_ rfl, b3.cell_ rfl, (((Below.refl _ _).alloc (Nat.le_refl _) _).alloc (by simp) _).alloc (by simp; omega) _⟩
/-! ### Recover -/
/-! ### what was signed -/
theorem sideL_congr (F G : Nat → Nat → List UInt8) : ∀ n, (∀ b, b < n → F b 0 = G b 0 ∧ F b 1 = G b 1) → sideL F n = sideL G n
  | 0, _ => rfl
  | n + 1, h => by rw [sideL_succ, sideL_succ, sideL_congr F G n (fun b hb => h b (by omega)), (h n (by omega)).1, (h n (by omega)).2]
theorem signed_back (s : List UInt8) (lf : Int) (m : List UInt8) (n : Nat) :
    sideL (pubF m (upTo (shownX s lf m) n) (upTo (hiddenX s lf m) n)) n = sideL (leafF s lf) n := by
  refine sideL_congr _ _ n fun b hb => ?_
  have hz := bitZ_le m b
  have e1 : (upTo (shownX s lf m) n).getD b zeroB = shownX s lf m b := by rw [List.getD_eq_getElem?_getD, upTo_get _ _ _ hb]; rfl
  have e2 : (upTo (hiddenX s lf m) n).getD b zeroB = hiddenX s lf m b := by rw [List.getD_eq_getElem?_getD, upTo_get _ _ _ hb]; rfl
  unfold pubF
  rw [e1, e2]
  unfold shownX hiddenX leafF
  rcases Nat.le_one_iff_eq_zero_or_eq_one.1 hz with h | h
  · rw [h]
    exact ⟨by rw [if_pos rfl], by rw [if_neg (by decide)]; rfl⟩
  · rw [h]
    exact ⟨by rw [if_neg (by decide)]; rfl, by rw [if_pos rfl]⟩
end Go.Proofs.Ythpdkdalfjahcaa

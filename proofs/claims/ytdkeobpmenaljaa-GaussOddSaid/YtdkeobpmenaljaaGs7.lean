
/- gauss: the law's own test of a part is the program's; numbers of which one is no residue. -/
import Derived.Test.YtdkeobpmenaljaaGs6
import Derived.Deep.DeepCutAuto
set_option linter.unusedSimpArgs false
set_option linter.unusedVariables false
namespace Go.Proofs.Ytdkeobpmenaljaa
open Go.RowKit Go.Qc

theorem rdF (b : Nat) : FloatKind.f64.decode b = Ieee.double.read b := rfl
theorem ordF (b c : Nat) : FloatKind.f64.format.order b c = (Ieee.double.read b).order (Ieee.double.read c) := rfl
theorem ord_nanF (s : Bool) (t : Nat) (d : Ieee.Datum) : (Ieee.Datum.nan s t).order d = none := rfl
theorem ord_infF (s t : Bool) (n : Nat) (j : Int) : (Ieee.Datum.infinity s).order (.number t n j) = some (if s then .lt else .gt) := rfl
/-- A word that equals 0 is one of the two zeros. -/
theorem eq_zeroF (b : Nat) (hb : b < 2 ^ 64) (h : (FloatKind.f64.format.order b 0 == some .eq) = true) : b = 0 ∨ b = 9223372036854775808 := by
  have h0 : Ieee.double.read 0 = .number false 0 (-1074) := by decide
  rw [ordF, h0] at h
  rcases read_cases b hb with ⟨s, t, e⟩ | ⟨s, e, _⟩ | ⟨s, m, i, e, hi, _, hz⟩
  · rw [e, ord_nanF] at h; exact absurd h (by decide)
  · rw [e, ord_infF] at h; cases s <;> exact absurd h (by decide)
  · rw [e, order_valF _ _ _ _ _ _ hi (Int.le_refl _), cmp_eq] at h
    have hv := of_decide_eq_true h
    have hz0 : valF false 0 (-1074) = 0 := by unfold valF; rw [if_neg (by decide), Nat.zero_mul]; rfl
    rw [hz0] at hv
    refine hz ?_
    unfold valF at hv
    have hp := pow2_pos (i + 1074).toNat
    have : m * 2 ^ (i + 1074).toNat = 0 := by
      cases s
      · rw [if_neg (by decide)] at hv; omega
      · rw [if_pos rfl] at hv; omega
    rcases Nat.mul_eq_zero.1 this with h | h
    · exact h
    · omega
theorem scale_div (V : Int) (n : Nat) (U : Nat) (hU : 0 < U) (m : Nat) (h : (m : Int) = (n : Int) * (U : Int)) : m / U = n := by
  have : m = n * U := by
    have h2 : ((n * U : Nat) : Int) = (n : Int) * (U : Int) := Int.natCast_mul n U
    omega
  rw [this, Nat.mul_div_cancel _ hU]
/-- A word that equals a whole number above 0 is a part just if that is below the prime. -/
theorem eq_wholeF (b : Nat) (hb : b < 2 ^ 64) (n : Nat) (h0 : 0 < n) (h1 : n < 2 ^ 53) (h : (FloatKind.f64.format.order b (fl n) == some .eq) = true) : partF b = decide (n < 65519) := by
  have hnb : ((n : Int)).natAbs < 2 ^ 53 := by rw [Int.natAbs_natCast]; exact h1
  obtain ⟨sn, mn, en, hrn, hen, hvn⟩ := fl_readV n hnb
  obtain ⟨sp, mp, ep, hrp, hep, hvp⟩ := fl_readV 65519 (by decide)
  have hU := pow2_pos 1074
  rw [ordF, hrn] at h
  rcases read_cases b hb with ⟨s, t, e⟩ | ⟨s, e, _⟩ | ⟨s, m, i, e, hi, hs, hz⟩
  · rw [e, ord_nanF] at h; exact absurd h (by decide)
  · rw [e, ord_infF] at h; cases s <;> exact absurd h (by decide)
  · rw [e, order_valF _ _ _ _ _ _ hi hen, cmp_eq, hvn] at h
    have hv := of_decide_eq_true h
    have hpos : (0 : Int) < (n : Int) * ((2 ^ 1074 : Nat) : Int) := Int.mul_pos (by omega) (by omega)
    have hsf : s = false := by
      cases s
      · rfl
      · unfold valF at hv; rw [if_pos rfl] at hv; omega
    have hbl : b < 9223372036854775808 := by
      rw [hsf] at hs
      exact Decidable.byContradiction fun h => by rw [decide_eq_true h] at hs; exact absurd hs (by decide)
    have ho : FloatKind.f64.format.order b (fl 65519) = some (compare (n : Int) 65519) := by
      rw [ordF, e, hrp, order_valF _ _ _ _ _ _ hi hep, hv, hvp, cmp_scale _ _ _ hU]
    have ht : FloatKind.f64.encode ((FloatKind.f64.decode b).integral .zero) = fl n := by
      obtain ⟨q, hq, hqe⟩ := integral_valF s m i hi
      rw [rdF, e, hq, hsf]
      have hqn : q = n := by
        rw [hqe]
        refine scale_div 0 n _ hU _ ?_
        rw [hsf] at hv
        unfold valF at hv
        rw [if_neg (by decide)] at hv
        exact hv
      rw [hqn]
      show _ = Ieee.Format.nearest _ _ _ _
      have hd : decide ((n : Int) < 0) = false := decide_eq_false (by omega)
      rw [hd, Int.natAbs_natCast]
      rfl
    have he : FloatKind.f64.format.order b (fl n) = some .eq := by
      rw [ordF, e, hrn, order_valF _ _ _ _ _ _ hi hen, hvn, hv]
      have := cmp_eq ((n : Int) * ((2 ^ 1074 : Nat) : Int)) ((n : Int) * ((2 ^ 1074 : Nat) : Int))
      rw [decide_eq_true rfl] at this
      exact eq_of_beq this
    unfold partF
    rw [ht, he, decide_eq_true hbl, ← fl_prime, ho, cmp_lt]
    rw [Bool.true_and, show (some Ordering.eq == some Ordering.eq) = true from rfl, Bool.and_true]
    exact decide_eq_decide.2 (by omega)
/-- A word that is no zero: what the law's last test tells. -/
theorem last_F (b : Nat) (hb : b < 2 ^ 64) (h0 : (FloatKind.f64.format.order b 0 == some .eq) = false) :
    ((FloatKind.f64.format.order b 0 == some .gt || FloatKind.f64.format.order b 0 == some .eq) = false ∧ partF b = false) ∨
    ((FloatKind.f64.format.order b 0 == some .gt || FloatKind.f64.format.order b 0 == some .eq) = true ∧ (FloatKind.f64.format.order b 4679237676375736320 == some .lt) = false ∧ partF b = false) ∨
    (∃ q : Nat, (FloatKind.f64.format.order b 0 == some .gt || FloatKind.f64.format.order b 0 == some .eq) = true ∧ (FloatKind.f64.format.order b 4679237676375736320 == some .lt) = true ∧ floatToIntVal .f64 b .i64 = some q ∧ q < 65519 ∧ partF b = (FloatKind.f64.format.order b (fl q) == some .eq)) := by
  have hr0 : Ieee.double.read 0 = .number false 0 (-1074) := by decide
  obtain ⟨sp, mp, ep, hrp, hep, hvp⟩ := fl_readV 65519 (by decide)
  have hrp' : Ieee.double.read 4679237676375736320 = .number sp mp ep := by rw [← fl_prime]; exact hrp
  have hU := pow2_pos 1074
  have hz0 : valF false 0 (-1074) = 0 := by unfold valF; rw [if_neg (by decide), Nat.zero_mul]; rfl
  unfold partF
  simp only [ordF, rdF, hr0, hrp'] at *
  rcases read_cases b hb with ⟨s, t, e⟩ | ⟨s, e, hs⟩ | ⟨s, m, i, e, hi, hs, hz⟩
  · rw [e]
    left
    rw [ord_nanF, ord_nanF]
    refine ⟨by decide, ?_⟩
    rw [show ((none : Option Ordering) == some .lt) = false from rfl, Bool.false_and, Bool.and_false]
  · rw [e]
    cases s
    · right; left
      have h1 : ((Ieee.Datum.infinity false).order (.number sp mp ep) == some .lt) = false := rfl
      refine ⟨by decide, h1, ?_⟩
      rw [h1, Bool.false_and, Bool.and_false]
    · left
      refine ⟨by decide, ?_⟩
      have : decide (b < 9223372036854775808) = false := by
        have := hs.symm
        simpa using this
      rw [this, Bool.false_and]
  · rw [e] at h0 ⊢
    rw [order_valF _ _ _ _ _ _ hi (Int.le_refl _), cmp_eq, hz0] at h0
    have hne := of_decide_eq_false h0
    rw [order_valF _ _ _ _ _ _ hi (Int.le_refl _), hz0, cmp_eq, order_valF _ _ _ _ _ _ hi hep, cmp_lt, hvp]
    have hgt : (some (compare (valF s m i) 0) == some Ordering.gt) = decide (0 < valF s m i) := by
      unfold compare instOrdInt compareOfLessAndEq
      by_cases h1 : valF s m i < 0
      · have : ¬ 0 < valF s m i := by omega
        simp [h1, this]
      · have h2 : 0 < valF s m i := by omega
        simp [h1, hne, h2]
    rw [hgt, decide_eq_false hne, Bool.or_false]
    by_cases hpos : 0 < valF s m i
    · have hsf : s = false := by
        cases s
        · rfl
        · unfold valF at hpos; rw [if_pos rfl] at hpos; omega
      have hbl : decide (b < 9223372036854775808) = true := by
        rw [hsf] at hs
        simpa using hs.symm
      rw [decide_eq_true hpos, hbl]
      by_cases hlt : valF s m i < 65519 * ((2 ^ 1074 : Nat) : Int)
      · right; right
        obtain ⟨q, hq, hqe⟩ := integral_valF s m i hi
        have hV : valF s m i = ((m * 2 ^ (i + 1074).toNat : Nat) : Int) := by rw [hsf]; unfold valF; rw [if_neg (by decide)]
        have hq5 : q < 65519 := by
          rw [hqe]
          refine Nat.div_lt_of_lt_mul ?_
          rw [hV] at hlt
          exact Int.ofNat_lt.1 (Int.lt_of_lt_of_le hlt (Int.le_of_eq (mul_castZ _).symm))
        refine ⟨q, rfl, decide_eq_true hlt, ?_, hq5, ?_⟩
        · refine int_val b q ?_ (by omega) (by omega)
          rw [e]
          unfold Ieee.Datum.toInt
          rw [hq, hsf]
          show some (Ieee.signed false q 0) = _
          unfold Ieee.signed
          rw [if_neg (by decide), Nat.shiftLeft_zero]
        · rw [hq, hsf]
          have hfl : FloatKind.f64.encode (.number false q 0) = fl q := by
            show Ieee.Format.nearest _ _ _ _ = Ieee.Format.nearest _ _ _ _
            have hd : decide ((q : Int) < 0) = false := decide_eq_false (by omega)
            rw [hd, Int.natAbs_natCast]
          rw [hfl, ← hsf, decide_eq_true hlt, Bool.true_and, Bool.true_and]
      · right; left
        rw [decide_eq_false hlt]
        exact ⟨rfl, rfl, rfl⟩
    · left
      rw [decide_eq_false hpos]
      refine ⟨rfl, ?_⟩
      have hst : s = true := by
        cases s
        · exfalso; unfold valF at hpos hne; rw [if_neg (by decide)] at hpos hne; omega
        · rfl
      have : decide (b < 9223372036854775808) = false := by
        rw [hst] at hs
        simpa using hs.symm
      rw [this, Bool.false_and]
end Go.Proofs.Ytdkeobpmenaljaa

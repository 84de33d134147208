
/- hunk: a hunk the other way. -/
import Derived.Test.YtodfaakodgedbaaHk6
import Derived.Deep.RegionHeld3
set_option linter.unusedSimpArgs false
set_option linter.unusedVariables false
namespace Go.Proofs.Ytodfaakodgedbaa
open Go.RowKit Go.Qc Go.Shelf
attribute [local go_sem] txt_size txt_append ib_fold txt_toL

theorem rapply_any (L : Option Addr) (k e : Nat) (ls : List (List UInt8)) (hk : ls.length = k) (bk : k ≤ 1000) (at' : Int) (A : Option Addr) (n c : Nat) (old : List (List UInt8)) (hn : old.length = n) (bn : n ≤ 1000) (B : Option Addr) (m d : Nat) (new : List (List UInt8)) (hm : new.length = m) (bm : m ≤ 1000)
    (l8 : ∀ x ∈ ls, x.length ≤ 1000000000000) (o8 : ∀ x ∈ old, x.length ≤ 1000000000000) (n8 : ∀ x ∈ new, x.length ≤ 1000000000000) (w : World)
    (hL : Rd w L (ls.map strV)) (hA : Rd w A (old.map strV)) (hB : Rd w B (new.map strV)) :
    Calls Try.prog 32 #[.slice L k e, .agg #[.int .i64 at', .slice A n c, .slice B m d]] w fun e w' => ∃ v, e = .returned (.tuple #[v, .int .i64 (if linesR ls then (appR ls at' old new).2 else 3)]) ∧ w'.ownsRow w.heap.size 9 1 v (if linesR ls then (appR ls at' old new).1 else []).length ((if linesR ls then (appR ls at' old new).1 else []).map strV) ∧ Below w.heap.size w w' := by
  have cL : ∀ W, Below w.heap.size w W → Calls Try.prog 49 #[.slice L k e] W fun e w' => e = .returned (.bool (linesR ls)) ∧ W = w' := fun W hb => rlines_any L k e ls hk (by omega) l8 W (hL.below hb)
  have cR : ∀ W, Below w.heap.size w W → Calls Try.prog 50 #[.agg #[.int .i64 at', .slice A n c, .slice B m d]] W fun e w' => e = .returned (.bool (hunkR at' old new)) ∧ Below W.heap.size W w' := fun W hb => by
    have := rhright_gen at' A n c B m d (linesR old) (linesR new) W (fun W2 h2 => rlines_any A n c old hn (by omega) o8 W2 ((hA.below hb).below h2)) (fun W2 h2 => rlines_any B m d new hm (by omega) n8 W2 ((hB.below hb).below h2))
    unfold hunkR
    rw [hn, hm]
    exact this
  have nil : ∀ (z : Int) (e : Ending) (w' : World), e = .returned (.tuple #[.slice none 0 0, .int .i64 z]) ∧ Below w.heap.size w w' → ∃ v, e = .returned (.tuple #[v, .int .i64 z]) ∧ w'.ownsRow w.heap.size 9 1 v ([] : List (List UInt8)).length (([] : List (List UInt8)).map strV) ∧ Below w.heap.size w w' := fun z e w' h => ⟨_, h.1, World.ownsRow_nil _ _ _ _, h.2⟩
  cases hP : linesR ls with
  | false =>
    simp only [if_false, Bool.false_eq_true]
    exact (rapply_form L k e at' A n c B m d _ _ (.inl hP) w cL cR).mono (nil 3)
  | true =>
    simp only [if_true]
    unfold appR
    cases hQ : hunkR at' old new with
    | false =>
      rw [if_pos rfl]
      exact (rapply_form L k e at' A n c B m d _ _ (.inr hQ) w cL cR).mono (nil 3)
    | true =>
      rw [hP] at cL
      rw [hQ] at cR
      rw [if_neg (by simp)]
      obtain ⟨h0, h1⟩ := hunkR_at hQ
      obtain ⟨a, rfl⟩ : ∃ a : Nat, at' = a := ⟨at'.toNat, by omega⟩
      rw [Int.toNat_natCast, hk, hn, hm]
      have hif : ∀ (x y : List (List UInt8) × Int), (if (k : Int) < (a : Int) then x else y) = if k < a then x else y := fun x y => by
        by_cases h : k < a
        · rw [if_pos h, if_pos (by omega)]
        · rw [if_neg h, if_neg (by omega)]
      rw [hif]
      obtain ⟨R, z, hR⟩ : ∃ R z, (R, z) = if k < a then (([] : List (List UInt8)), (5 : Int)) else if fitR ls old a = false then ([], 12) else if 1000 < k - n + m then ([], 4) else (ls.take a ++ (new ++ ls.drop (a + n)), 0) := ⟨_, _, rfl⟩
      rw [← hR]
      exact rapply_ok L k e ls hk bk a (by omega) A n c old hn bn B m d new hm bm w hL hA hB cL cR R z hR
end Go.Proofs.Ytodfaakodgedbaa

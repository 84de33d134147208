
/- Proved: for every text, quitclaimlaw05.PackOnce returns true and leaves its argument as it was. No conditions. -/
import Derived.Test.YthpdkdalfjahcaaPkW
namespace Go.Proofs.Ythpdkdalfjahcaa
open Go.RowKit Go.Qc
attribute [local go_sem] txt_size

theorem scan_bad : scanN 0 0 [128, 0] = .error 3 := by rfl
theorem num300 : numE 300 = [172, 2] := by rw [numE_ge (by decide), numE_lt (by decide)]; rfl
set_option maxRecDepth 100000 in
set_option maxHeartbeats 4000000 in
theorem awake5_any (w : World) :
    Calls Try.prog 18 #[] w fun e w' => e = .returned (.bool true) ∧ Below w.heap.size w w' := by
  have hW := Wrt.new w
  have hB0 : Below w.heap.size w (w.alloc (.cells #[.slice none 0 0] 36)) := (Below.refl _ _).alloc (Nat.le_refl _) _
  have cN : ∀ W, Wrt w.heap.size [] W → Calls Try.prog 20 #[.pointer (some ⟨w.heap.size, 0, none⟩), .int .i64 300] W fun o w' => o = .returned (.bool true) ∧ Wrt w.heap.size [172, 2] w' ∧ Below w.heap.size W w' := fun W h => by
    have := pkWNum_any w.heap.size [] 300 (by decide) (by decide) W h
    rw [num300] at this
    exact this
  have cS : ∀ W, Wrt w.heap.size [172, 2] W → Calls Try.prog 32 #[.pointer (some ⟨w.heap.size, 0, none⟩)] W fun o w' => o = .returned (.string ⟨#[172, 2]⟩) ∧ W = w' := fun W h => pkWString_any _ _ W h
  have cR : ∀ W : World, Calls Try.prog 33 #[.string ⟨#[128, 0]⟩] W fun o w' => o = .returned (.pointer (some ⟨W.heap.size, 0, none⟩)) ∧ Rdr W.heap.size [128, 0] 0 0 w' ∧ Below W.heap.size W w' := fun W => pkNew_any [128, 0] W
  have cM : ∀ g W, Rdr g [128, 0] 0 0 W → Calls Try.prog 35 #[.pointer (some ⟨g, 0, none⟩)] W fun o w' => o = .returned (.int .i64 0) ∧ Step g [128, 0] 0 3 W w' := fun g W h => by
    have := pkNum_any g [128, 0] 0 (by decide) (by decide) W h
    rw [List.drop_zero, scan_bad] at this
    exact this.mono (by rintro o w' ⟨h1, _, h2⟩; exact ⟨h1, h2⟩)
  go_enter Try.func18, Try.ntmps18
  go_wp2_with (first
    | (go_at_call 20; (with_reducible refine (cN _ hW).mono ?_); rintro o1 w1 ⟨rfl, hW1, hB1⟩; have hB2 := hB0.trans hB1)
    | (go_at_call 33; (with_reducible refine (cR _).mono ?_); rintro o2 w2 ⟨rfl, hR2, hb2⟩; have hW2 := hW1.below hb2; have hB3 := hB2.trans (hb2.mono hB2.size); have hlw := hW1.lt)
    | (go_at_call 35; (with_reducible refine (cM _ _ hR2).mono ?_); rintro o3 w3 ⟨rfl, h3⟩; have hb3 := below_of_gb h3.gb (Nat.le_refl _) hb2.size; have hW3 := hW1.below (hb2.trans hb3); have hB4 := hB3.trans (hb3.mono hB2.size))
    | (go_at_call 32; (with_reducible refine (cS _ hW3).mono ?_); rintro o4 w4 ⟨rfl, rfl⟩)
    | (go_at_call 50; (with_reducible refine (pkErr_any _ _ _ _ _ h3.r).mono ?_); rintro o5 w5 ⟨rfl, rfl⟩))
  go_ret
  exact ⟨rfl, hB4⟩

theorem Wrt.gb {b g : Nat} {l : List UInt8} {w w' : World} (h : Wrt b l w) (hg : w.grownBy w' (some g)) (hlt : g < b) : Wrt b l w' := by
  obtain ⟨v, h1, h2, h3⟩ := h
  exact ⟨v, blk_gb h1 hg (by omega), h2.kept hg (by
    cases hv : v.ownBlock with
    | none => exact .inl rfl
    | some k => exact .inr (fun e => by have := (h2.lt k hv).1; have := Option.some.inj e; omega)), h3⟩
open Go.ChangeShapes Go.WideShapes Go.ChangeAt
open Go.ChangeMaps (open_string shut_string)
end Go.Proofs.Ythpdkdalfjahcaa

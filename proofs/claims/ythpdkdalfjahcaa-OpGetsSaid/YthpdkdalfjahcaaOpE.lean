
/- op: an operation is read, whatever the state; the same twice; how long; the example; what came in -/
import Derived.Test.YthpdkdalfjahcaaOpD
import Derived.Test.YthpdkdalfjahcaaOpW
import Derived.Test.YthpdkdalfjahcaaOpG
import Derived.Test.YthpdkdalfjahcaaIdK
set_option linter.unusedSimpArgs false
set_option linter.unusedVariables false
namespace Go.Proofs.Ythpdkdalfjahcaa
open Go.RowKit Go.Qc Go.Shelf

theorem flS_yes {c : Prop} [Decidable c] (hc : c) (q : Nat × Int) : flS c q = (q.1, stopB q.2 3) := by
  unfold flS stopB
  by_cases h : q.2 = 0
  · rw [if_pos ⟨hc, h⟩, if_pos h]
  · rw [if_neg (fun k => h k.2), if_neg h]
theorem flS_no {c : Prop} [Decidable c] (hc : ¬ c) (q : Nat × Int) : flS c q = q := by unfold flS; rw [if_neg (fun k => hc k.1)]
theorem vaT_len (s : List UInt8) (a : Nat) (e : Int) : (vaT 200 s a e).length ≤ 200 := by
  unfold vaT
  split
  · cases h : textR 200 (s.drop a) with
    | ok p => have := (text_fore h).2.2; simp only; omega
    | error e => simp
  · simp
theorem vaX_len (s : List UInt8) (a : Nat) (e : Int) : (vaX 1000 200 s a e).length ≤ 1000 ∧ ∀ y ∈ vaX 1000 200 s a e, y.length ≤ 200 := by
  unfold vaX
  split
  · cases h : rowsR (textR 200) 1000 (s.drop a) with
    | ok p => obtain ⟨_, _, h3, h4⟩ := texts_fore h; simp only; exact ⟨by omega, fun y hy => by have := h4 y hy; omega⟩
    | error e => simp
  · simp
theorem vaN_le (s : List UInt8) (a : Nat) (e : Int) : vaN s a e ≤ 4611686018427387904 := by
  unfold vaN
  split
  · cases h : scanN 0 0 (s.drop a) with
    | ok p => exact (num_fore h).2.2
    | error e => simp
  · simp
theorem stop_ne (e : Int) : stopB e 3 ≠ 0 := by unfold stopB; split <;> first | decide | assumption
theorem stD_old {s : List UInt8} {a : Nat} {e : Int} (he : e ≠ 0) : stD s a e = (a, e) ∧ vaD s a e = zeroB := by unfold stD vaD; rw [if_neg he, if_neg he]; exact ⟨rfl, rfl⟩
theorem stT_old {s : List UInt8} {a : Nat} {e : Int} (he : e ≠ 0) : stT 200 s a e = (a, e) := by unfold stT; rw [if_neg he]
theorem og_big {k : Int} (h : ¬ (1 ≤ k ∧ k ≤ 6)) (s : List UInt8) (q : Nat × Int) : og8 k s q = og2 k s q ∧ og1 k q = (q.1, stopB q.2 3) ∧ ogV k s q = ⟨k, ogP k s q, [], 0, [], [], zeroB, 0⟩ := by
  have h3 : ¬ k = 3 := by omega
  have h2 : ¬ (k = 2 ∨ k = 3) := by omega
  have h4 : ¬ k = 4 := by omega
  have h5 : ¬ k = 5 := by omega
  have h56 : ¬ (k = 5 ∨ k = 6) := by omega
  refine ⟨?_, flS_yes h q, ?_⟩
  · unfold og8 og7 og6 og5 og4 og3; rw [if_neg h5, if_neg h56, if_neg h4, if_neg h3, if_neg h2, if_neg h3]
  · unfold ogV ogT ogA ogO ogN ogK ogD; rw [if_neg h5, if_neg h56, if_neg h4, if_neg h3, if_neg h2, if_neg h3]; rfl
theorem og_end (k : Int) (s : List UInt8) (a : Nat) (e : Int) (hk : ib (vaB s a e) = k) {V : OpD} (hV : ogV k s (stB s a e) = V) {q : Nat × Int} (h8 : og8 k s (stB s a e) = q) :
    (opE V ≠ 0 → opG s a e = (q.1, stopB q.2 3) ∧ opGV s a e = opZ) ∧ (opE V = 0 → q.2 ≠ 0 → opG s a e = q ∧ opGV s a e = opZ) ∧ (opE V = 0 → q.2 = 0 → opG s a e = q ∧ opGV s a e = V) := by
  subst hV h8
  have hG : opG s a e = flS (opE (ogV k s (stB s a e)) ≠ 0) (og8 k s (stB s a e)) := by unfold opG og9; rw [hk]
  have hGV : opGV s a e = if (opG s a e).2 = 0 then ogV k s (stB s a e) else opZ := by unfold opGV; rw [hk]
  refine ⟨fun h => ?_, fun h h2 => ?_, fun h h2 => ?_⟩
  · rw [flS_yes h] at hG
    refine ⟨hG, ?_⟩
    rw [hGV, hG, if_neg (stop_ne _)]
  · rw [flS_no (by simpa using h)] at hG
    refine ⟨hG, ?_⟩
    rw [hGV, hG, if_neg h2]
  · rw [flS_no (by simpa using h)] at hG
    refine ⟨hG, ?_⟩
    rw [hGV, hG, if_pos h2]
theorem oget_1 (g : Nat) (s : List UInt8) (a : Nat) (e : Int) (hs : s.length ≤ 1000000000000) (ha : a ≤ s.length) (w : World) (hr : Rdr g s a e w) (hk : ib (vaB s a e) = 1) :
    Calls Try.prog 55 #[.pointer (some ⟨g, 0, none⟩)] w fun o w' => OgP g s (opG s a e).1 (opG s a e).2 (opGV s a e) w o w' := by
  have e1 : og1 1 (stB s a e) = stB s a e := flS_no (by decide) _
  have s2 : og2 1 s (stB s a e) = stT 200 s (stB s a e).1 (stB s a e).2 := by unfold og2; rw [e1]
  have v2 : ogP 1 s (stB s a e) = vaT 200 s (stB s a e).1 (stB s a e).2 := by unfold ogP; rw [e1]
  have h9 : og8 1 s (stB s a e) = og2 1 s (stB s a e) := by simp [og8, og7, og6, og5, og4, og3]
  have hV : ogV 1 s (stB s a e) = ⟨1, ogP 1 s (stB s a e), [], 0, [], [], zeroB, 0⟩ := by unfold ogV; simp [ogT, ogA, ogO, ogN, ogK, ogD]
  have lb := stB_le s a e ha
  obtain ⟨f1, f2, f3⟩ := og_end 1 s a e hk hV h9
  by_cases hE : opE ⟨1, ogP 1 s (stB s a e), [], 0, [], [], zeroB, 0⟩ = 0
  · by_cases he : (og2 1 s (stB s a e)).2 = 0
    · obtain ⟨g1, g2⟩ := f3 hE he
      rw [g1, g2]
      exact og_1_iii g s a e w hr (stB s a e).1 (stB s a e).2 (fun W h => by have z := pkByteT g s a e hs ha W h; unfold u8v at z; rwa [hk] at z) (ogP 1 s (stB s a e)) (og2 1 s (stB s a e)).1 (og2 1 s (stB s a e)).2 (by rw [v2]; exact vaT_len _ _ _) (fun W h => by rw [s2, v2]; exact pkTextT g s _ _ 200 hs lb W h) hE he
    · obtain ⟨g1, g2⟩ := f2 hE he
      rw [g1, g2]
      exact og_1_ii g s a e w hr (stB s a e).1 (stB s a e).2 (fun W h => by have z := pkByteT g s a e hs ha W h; unfold u8v at z; rwa [hk] at z) (ogP 1 s (stB s a e)) (og2 1 s (stB s a e)).1 (og2 1 s (stB s a e)).2 (by rw [v2]; exact vaT_len _ _ _) (fun W h => by rw [s2, v2]; exact pkTextT g s _ _ 200 hs lb W h) hE he
  · obtain ⟨g1, g2⟩ := f1 hE
    rw [g1, g2]
    exact og_1_i g s a e w hr (stB s a e).1 (stB s a e).2 (fun W h => by have z := pkByteT g s a e hs ha W h; unfold u8v at z; rwa [hk] at z) (ogP 1 s (stB s a e)) (og2 1 s (stB s a e)).1 (og2 1 s (stB s a e)).2 (by rw [v2]; exact vaT_len _ _ _) (fun W h => by rw [s2, v2]; exact pkTextT g s _ _ 200 hs lb W h) _ rfl hE

theorem oget_2 (g : Nat) (s : List UInt8) (a : Nat) (e : Int) (hs : s.length ≤ 1000000000000) (ha : a ≤ s.length) (w : World) (hr : Rdr g s a e w) (hk : ib (vaB s a e) = 2) :
    Calls Try.prog 55 #[.pointer (some ⟨g, 0, none⟩)] w fun o w' => OgP g s (opG s a e).1 (opG s a e).2 (opGV s a e) w o w' := by
  have e1 : og1 2 (stB s a e) = stB s a e := flS_no (by decide) _
  have s2 : og2 2 s (stB s a e) = stT 200 s (stB s a e).1 (stB s a e).2 := by unfold og2; rw [e1]
  have v2 : ogP 2 s (stB s a e) = vaT 200 s (stB s a e).1 (stB s a e).2 := by unfold ogP; rw [e1]
  have h4 : og3 2 s (stB s a e) = og2 2 s (stB s a e) := by simp [og3]
  have s4 : og4 2 s (stB s a e) = stX 1000 200 s (og2 2 s (stB s a e)).1 (og2 2 s (stB s a e)).2 := by unfold og4; rw [if_pos (by decide), h4]
  have v4 : ogO 2 s (stB s a e) = vaX 1000 200 s (og2 2 s (stB s a e)).1 (og2 2 s (stB s a e)).2 := by unfold ogO; rw [if_pos (by decide), h4]
  have h9 : og8 2 s (stB s a e) = og4 2 s (stB s a e) := by simp [og8, og7, og6, og5]
  have hV : ogV 2 s (stB s a e) = ⟨2, ogP 2 s (stB s a e), [], 0, ogO 2 s (stB s a e), [], zeroB, 0⟩ := by unfold ogV; simp [ogT, ogA, ogN, ogK, ogD]
  have lb := stB_le s a e ha
  obtain ⟨f1, f2, f3⟩ := og_end 2 s a e hk hV h9
  by_cases hE : opE ⟨2, ogP 2 s (stB s a e), [], 0, ogO 2 s (stB s a e), [], zeroB, 0⟩ = 0
  · by_cases he : (og4 2 s (stB s a e)).2 = 0
    · obtain ⟨g1, g2⟩ := f3 hE he
      rw [g1, g2]
      exact og_2_iii g s a e w hr (stB s a e).1 (stB s a e).2 (fun W h => by have z := pkByteT g s a e hs ha W h; unfold u8v at z; rwa [hk] at z) (ogP 2 s (stB s a e)) (og2 2 s (stB s a e)).1 (og2 2 s (stB s a e)).2 (by rw [v2]; exact vaT_len _ _ _) (fun W h => by rw [s2, v2]; exact pkTextT g s _ _ 200 hs lb W h) (ogO 2 s (stB s a e)) (og4 2 s (stB s a e)).1 (og4 2 s (stB s a e)).2 (by rw [v4]; exact vaX_len _ _ _) (fun W h => by rw [s4, v4]; exact (pkTextsT g s _ _ 1000 200 hs (og2_le lb) W h).mono (by rintro o w' ⟨v, h1, h2, _, h3⟩; exact ⟨v, h1, h2, h3⟩)) hE he
    · obtain ⟨g1, g2⟩ := f2 hE he
      rw [g1, g2]
      exact og_2_ii g s a e w hr (stB s a e).1 (stB s a e).2 (fun W h => by have z := pkByteT g s a e hs ha W h; unfold u8v at z; rwa [hk] at z) (ogP 2 s (stB s a e)) (og2 2 s (stB s a e)).1 (og2 2 s (stB s a e)).2 (by rw [v2]; exact vaT_len _ _ _) (fun W h => by rw [s2, v2]; exact pkTextT g s _ _ 200 hs lb W h) (ogO 2 s (stB s a e)) (og4 2 s (stB s a e)).1 (og4 2 s (stB s a e)).2 (by rw [v4]; exact vaX_len _ _ _) (fun W h => by rw [s4, v4]; exact (pkTextsT g s _ _ 1000 200 hs (og2_le lb) W h).mono (by rintro o w' ⟨v, h1, h2, _, h3⟩; exact ⟨v, h1, h2, h3⟩)) hE he
  · obtain ⟨g1, g2⟩ := f1 hE
    rw [g1, g2]
    exact og_2_i g s a e w hr (stB s a e).1 (stB s a e).2 (fun W h => by have z := pkByteT g s a e hs ha W h; unfold u8v at z; rwa [hk] at z) (ogP 2 s (stB s a e)) (og2 2 s (stB s a e)).1 (og2 2 s (stB s a e)).2 (by rw [v2]; exact vaT_len _ _ _) (fun W h => by rw [s2, v2]; exact pkTextT g s _ _ 200 hs lb W h) (ogO 2 s (stB s a e)) (og4 2 s (stB s a e)).1 (og4 2 s (stB s a e)).2 (by rw [v4]; exact vaX_len _ _ _) (fun W h => by rw [s4, v4]; exact (pkTextsT g s _ _ 1000 200 hs (og2_le lb) W h).mono (by rintro o w' ⟨v, h1, h2, _, h3⟩; exact ⟨v, h1, h2, h3⟩)) _ rfl hE

theorem oget_3 (g : Nat) (s : List UInt8) (a : Nat) (e : Int) (hs : s.length ≤ 1000000000000) (ha : a ≤ s.length) (w : World) (hr : Rdr g s a e w) (hk : ib (vaB s a e) = 3) :
    Calls Try.prog 55 #[.pointer (some ⟨g, 0, none⟩)] w fun o w' => OgP g s (opG s a e).1 (opG s a e).2 (opGV s a e) w o w' := by
  have e1 : og1 3 (stB s a e) = stB s a e := flS_no (by decide) _
  have s2 : og2 3 s (stB s a e) = stT 200 s (stB s a e).1 (stB s a e).2 := by unfold og2; rw [e1]
  have v2 : ogP 3 s (stB s a e) = vaT 200 s (stB s a e).1 (stB s a e).2 := by unfold ogP; rw [e1]
  have h3 : og2 3 s (stB s a e) = og2 3 s (stB s a e) := rfl
  have s3 : og3 3 s (stB s a e) = stN s (og2 3 s (stB s a e)).1 (og2 3 s (stB s a e)).2 := by unfold og3; rw [if_pos rfl, h3]
  have v3 : ogA 3 s (stB s a e) = vaN s (og2 3 s (stB s a e)).1 (og2 3 s (stB s a e)).2 := by unfold ogA; rw [if_pos rfl, h3]
  have h4 : og3 3 s (stB s a e) = og3 3 s (stB s a e) := rfl
  have s4 : og4 3 s (stB s a e) = stX 1000 200 s (og3 3 s (stB s a e)).1 (og3 3 s (stB s a e)).2 := by unfold og4; rw [if_pos (by decide), h4]
  have v4 : ogO 3 s (stB s a e) = vaX 1000 200 s (og3 3 s (stB s a e)).1 (og3 3 s (stB s a e)).2 := by unfold ogO; rw [if_pos (by decide), h4]
  have h5 : og4 3 s (stB s a e) = og4 3 s (stB s a e) := rfl
  have s5 : og5 3 s (stB s a e) = stX 1000 200 s (og4 3 s (stB s a e)).1 (og4 3 s (stB s a e)).2 := by unfold og5; rw [if_pos rfl, h5]
  have v5 : ogN 3 s (stB s a e) = vaX 1000 200 s (og4 3 s (stB s a e)).1 (og4 3 s (stB s a e)).2 := by unfold ogN; rw [if_pos rfl, h5]
  have h9 : og8 3 s (stB s a e) = og5 3 s (stB s a e) := by simp [og8, og7, og6]
  have hV : ogV 3 s (stB s a e) = ⟨3, ogP 3 s (stB s a e), [], ((ogA 3 s (stB s a e) : Nat) : Int), ogO 3 s (stB s a e), ogN 3 s (stB s a e), zeroB, 0⟩ := by unfold ogV; simp [ogT, ogK, ogD]
  have lb := stB_le s a e ha
  obtain ⟨f1, f2, f3⟩ := og_end 3 s a e hk hV h9
  by_cases hE : opE ⟨3, ogP 3 s (stB s a e), [], ((ogA 3 s (stB s a e) : Nat) : Int), ogO 3 s (stB s a e), ogN 3 s (stB s a e), zeroB, 0⟩ = 0
  · by_cases he : (og5 3 s (stB s a e)).2 = 0
    · obtain ⟨g1, g2⟩ := f3 hE he
      rw [g1, g2]
      exact og_3_iii g s a e w hr (stB s a e).1 (stB s a e).2 (fun W h => by have z := pkByteT g s a e hs ha W h; unfold u8v at z; rwa [hk] at z) (ogP 3 s (stB s a e)) (og2 3 s (stB s a e)).1 (og2 3 s (stB s a e)).2 (by rw [v2]; exact vaT_len _ _ _) (fun W h => by rw [s2, v2]; exact pkTextT g s _ _ 200 hs lb W h) (ogA 3 s (stB s a e)) (og3 3 s (stB s a e)).1 (og3 3 s (stB s a e)).2 (by rw [v3]; exact vaN_le _ _ _) (fun W h => by rw [s3, v3]; exact pkNumT g s _ _ hs (og2_le lb) W h) (ogO 3 s (stB s a e)) (og4 3 s (stB s a e)).1 (og4 3 s (stB s a e)).2 (by rw [v4]; exact vaX_len _ _ _) (fun W h => by rw [s4, v4]; exact (pkTextsT g s _ _ 1000 200 hs (og3_le lb) W h).mono (by rintro o w' ⟨v, h1, h2, _, h3⟩; exact ⟨v, h1, h2, h3⟩)) (ogN 3 s (stB s a e)) (og5 3 s (stB s a e)).1 (og5 3 s (stB s a e)).2 (by rw [v5]; exact vaX_len _ _ _) (fun W h => by rw [s5, v5]; exact (pkTextsT g s _ _ 1000 200 hs (og4_le lb) W h).mono (by rintro o w' ⟨v, h1, h2, _, h3⟩; exact ⟨v, h1, h2, h3⟩)) hE he
    · obtain ⟨g1, g2⟩ := f2 hE he
      rw [g1, g2]
      exact og_3_ii g s a e w hr (stB s a e).1 (stB s a e).2 (fun W h => by have z := pkByteT g s a e hs ha W h; unfold u8v at z; rwa [hk] at z) (ogP 3 s (stB s a e)) (og2 3 s (stB s a e)).1 (og2 3 s (stB s a e)).2 (by rw [v2]; exact vaT_len _ _ _) (fun W h => by rw [s2, v2]; exact pkTextT g s _ _ 200 hs lb W h) (ogA 3 s (stB s a e)) (og3 3 s (stB s a e)).1 (og3 3 s (stB s a e)).2 (by rw [v3]; exact vaN_le _ _ _) (fun W h => by rw [s3, v3]; exact pkNumT g s _ _ hs (og2_le lb) W h) (ogO 3 s (stB s a e)) (og4 3 s (stB s a e)).1 (og4 3 s (stB s a e)).2 (by rw [v4]; exact vaX_len _ _ _) (fun W h => by rw [s4, v4]; exact (pkTextsT g s _ _ 1000 200 hs (og3_le lb) W h).mono (by rintro o w' ⟨v, h1, h2, _, h3⟩; exact ⟨v, h1, h2, h3⟩)) (ogN 3 s (stB s a e)) (og5 3 s (stB s a e)).1 (og5 3 s (stB s a e)).2 (by rw [v5]; exact vaX_len _ _ _) (fun W h => by rw [s5, v5]; exact (pkTextsT g s _ _ 1000 200 hs (og4_le lb) W h).mono (by rintro o w' ⟨v, h1, h2, _, h3⟩; exact ⟨v, h1, h2, h3⟩)) hE he
  · obtain ⟨g1, g2⟩ := f1 hE
    rw [g1, g2]
    exact og_3_i g s a e w hr (stB s a e).1 (stB s a e).2 (fun W h => by have z := pkByteT g s a e hs ha W h; unfold u8v at z; rwa [hk] at z) (ogP 3 s (stB s a e)) (og2 3 s (stB s a e)).1 (og2 3 s (stB s a e)).2 (by rw [v2]; exact vaT_len _ _ _) (fun W h => by rw [s2, v2]; exact pkTextT g s _ _ 200 hs lb W h) (ogA 3 s (stB s a e)) (og3 3 s (stB s a e)).1 (og3 3 s (stB s a e)).2 (by rw [v3]; exact vaN_le _ _ _) (fun W h => by rw [s3, v3]; exact pkNumT g s _ _ hs (og2_le lb) W h) (ogO 3 s (stB s a e)) (og4 3 s (stB s a e)).1 (og4 3 s (stB s a e)).2 (by rw [v4]; exact vaX_len _ _ _) (fun W h => by rw [s4, v4]; exact (pkTextsT g s _ _ 1000 200 hs (og3_le lb) W h).mono (by rintro o w' ⟨v, h1, h2, _, h3⟩; exact ⟨v, h1, h2, h3⟩)) (ogN 3 s (stB s a e)) (og5 3 s (stB s a e)).1 (og5 3 s (stB s a e)).2 (by rw [v5]; exact vaX_len _ _ _) (fun W h => by rw [s5, v5]; exact (pkTextsT g s _ _ 1000 200 hs (og4_le lb) W h).mono (by rintro o w' ⟨v, h1, h2, _, h3⟩; exact ⟨v, h1, h2, h3⟩)) _ rfl hE

theorem oget_4 (g : Nat) (s : List UInt8) (a : Nat) (e : Int) (hs : s.length ≤ 1000000000000) (ha : a ≤ s.length) (w : World) (hr : Rdr g s a e w) (hk : ib (vaB s a e) = 4) :
    Calls Try.prog 55 #[.pointer (some ⟨g, 0, none⟩)] w fun o w' => OgP g s (opG s a e).1 (opG s a e).2 (opGV s a e) w o w' := by
  have e1 : og1 4 (stB s a e) = stB s a e := flS_no (by decide) _
  have s2 : og2 4 s (stB s a e) = stT 200 s (stB s a e).1 (stB s a e).2 := by unfold og2; rw [e1]
  have v2 : ogP 4 s (stB s a e) = vaT 200 s (stB s a e).1 (stB s a e).2 := by unfold ogP; rw [e1]
  have h6 : og5 4 s (stB s a e) = og2 4 s (stB s a e) := by simp [og5, og4, og3]
  have s6 : og6 4 s (stB s a e) = stT 200 s (og2 4 s (stB s a e)).1 (og2 4 s (stB s a e)).2 := by unfold og6; rw [if_pos rfl, h6]
  have v6 : ogT 4 s (stB s a e) = vaT 200 s (og2 4 s (stB s a e)).1 (og2 4 s (stB s a e)).2 := by unfold ogT; rw [if_pos rfl, h6]
  have h9 : og8 4 s (stB s a e) = og6 4 s (stB s a e) := by simp [og8, og7]
  have hV : ogV 4 s (stB s a e) = ⟨4, ogP 4 s (stB s a e), ogT 4 s (stB s a e), 0, [], [], zeroB, 0⟩ := by unfold ogV; simp [ogA, ogO, ogN, ogK, ogD]
  have lb := stB_le s a e ha
  obtain ⟨f1, f2, f3⟩ := og_end 4 s a e hk hV h9
  by_cases hE : opE ⟨4, ogP 4 s (stB s a e), ogT 4 s (stB s a e), 0, [], [], zeroB, 0⟩ = 0
  · by_cases he : (og6 4 s (stB s a e)).2 = 0
    · obtain ⟨g1, g2⟩ := f3 hE he
      rw [g1, g2]
      exact og_4_iii g s a e w hr (stB s a e).1 (stB s a e).2 (fun W h => by have z := pkByteT g s a e hs ha W h; unfold u8v at z; rwa [hk] at z) (ogP 4 s (stB s a e)) (og2 4 s (stB s a e)).1 (og2 4 s (stB s a e)).2 (by rw [v2]; exact vaT_len _ _ _) (fun W h => by rw [s2, v2]; exact pkTextT g s _ _ 200 hs lb W h) (ogT 4 s (stB s a e)) (og6 4 s (stB s a e)).1 (og6 4 s (stB s a e)).2 (by rw [v6]; exact vaT_len _ _ _) (fun W h => by rw [s6, v6]; exact pkTextT g s _ _ 200 hs (og2_le lb) W h) hE he
    · obtain ⟨g1, g2⟩ := f2 hE he
      rw [g1, g2]
      exact og_4_ii g s a e w hr (stB s a e).1 (stB s a e).2 (fun W h => by have z := pkByteT g s a e hs ha W h; unfold u8v at z; rwa [hk] at z) (ogP 4 s (stB s a e)) (og2 4 s (stB s a e)).1 (og2 4 s (stB s a e)).2 (by rw [v2]; exact vaT_len _ _ _) (fun W h => by rw [s2, v2]; exact pkTextT g s _ _ 200 hs lb W h) (ogT 4 s (stB s a e)) (og6 4 s (stB s a e)).1 (og6 4 s (stB s a e)).2 (by rw [v6]; exact vaT_len _ _ _) (fun W h => by rw [s6, v6]; exact pkTextT g s _ _ 200 hs (og2_le lb) W h) hE he
  · obtain ⟨g1, g2⟩ := f1 hE
    rw [g1, g2]
    exact og_4_i g s a e w hr (stB s a e).1 (stB s a e).2 (fun W h => by have z := pkByteT g s a e hs ha W h; unfold u8v at z; rwa [hk] at z) (ogP 4 s (stB s a e)) (og2 4 s (stB s a e)).1 (og2 4 s (stB s a e)).2 (by rw [v2]; exact vaT_len _ _ _) (fun W h => by rw [s2, v2]; exact pkTextT g s _ _ 200 hs lb W h) (ogT 4 s (stB s a e)) (og6 4 s (stB s a e)).1 (og6 4 s (stB s a e)).2 (by rw [v6]; exact vaT_len _ _ _) (fun W h => by rw [s6, v6]; exact pkTextT g s _ _ 200 hs (og2_le lb) W h) _ rfl hE

theorem oget_5 (g : Nat) (s : List UInt8) (a : Nat) (e : Int) (hs : s.length ≤ 1000000000000) (ha : a ≤ s.length) (w : World) (hr : Rdr g s a e w) (hk : ib (vaB s a e) = 5) :
    Calls Try.prog 55 #[.pointer (some ⟨g, 0, none⟩)] w fun o w' => OgP g s (opG s a e).1 (opG s a e).2 (opGV s a e) w o w' := by
  have e1 : og1 5 (stB s a e) = stB s a e := flS_no (by decide) _
  have s2 : og2 5 s (stB s a e) = stT 200 s (stB s a e).1 (stB s a e).2 := by unfold og2; rw [e1]
  have v2 : ogP 5 s (stB s a e) = vaT 200 s (stB s a e).1 (stB s a e).2 := by unfold ogP; rw [e1]
  have h7 : og6 5 s (stB s a e) = og2 5 s (stB s a e) := by simp [og6, og5, og4, og3]
  have s7 : og7 5 s (stB s a e) = stD s (og2 5 s (stB s a e)).1 (og2 5 s (stB s a e)).2 := by unfold og7; rw [if_pos (by decide), h7]
  have v7 : ogK 5 s (stB s a e) = vaD s (og2 5 s (stB s a e)).1 (og2 5 s (stB s a e)).2 := by unfold ogK; rw [if_pos (by decide), h7]
  have h8 : og7 5 s (stB s a e) = og7 5 s (stB s a e) := rfl
  have s8 : og8 5 s (stB s a e) = stN s (og7 5 s (stB s a e)).1 (og7 5 s (stB s a e)).2 := by unfold og8; rw [if_pos rfl, h8]
  have v8 : ogD 5 s (stB s a e) = vaN s (og7 5 s (stB s a e)).1 (og7 5 s (stB s a e)).2 := by unfold ogD; rw [if_pos rfl, h8]
  have h9 : og8 5 s (stB s a e) = og8 5 s (stB s a e) := rfl
  have hV : ogV 5 s (stB s a e) = ⟨5, ogP 5 s (stB s a e), [], 0, [], [], ogK 5 s (stB s a e), ((ogD 5 s (stB s a e) : Nat) : Int)⟩ := by unfold ogV; simp [ogT, ogA, ogO, ogN]
  have lb := stB_le s a e ha
  obtain ⟨f1, f2, f3⟩ := og_end 5 s a e hk hV h9
  by_cases hE : opE ⟨5, ogP 5 s (stB s a e), [], 0, [], [], ogK 5 s (stB s a e), ((ogD 5 s (stB s a e) : Nat) : Int)⟩ = 0
  · by_cases he : (og8 5 s (stB s a e)).2 = 0
    · obtain ⟨g1, g2⟩ := f3 hE he
      rw [g1, g2]
      exact og_5_iii g s a e w hr (stB s a e).1 (stB s a e).2 (fun W h => by have z := pkByteT g s a e hs ha W h; unfold u8v at z; rwa [hk] at z) (ogP 5 s (stB s a e)) (og2 5 s (stB s a e)).1 (og2 5 s (stB s a e)).2 (by rw [v2]; exact vaT_len _ _ _) (fun W h => by rw [s2, v2]; exact pkTextT g s _ _ 200 hs lb W h) (ogK 5 s (stB s a e)) (og7 5 s (stB s a e)).1 (og7 5 s (stB s a e)).2 (by rw [v7]; exact vaD_len _ _ _) (fun W h => by rw [s7, v7]; exact pkIdT g s _ _ hs (og2_le lb) W h) (ogD 5 s (stB s a e)) (og8 5 s (stB s a e)).1 (og8 5 s (stB s a e)).2 (by rw [v8]; exact vaN_le _ _ _) (fun W h => by rw [s8, v8]; exact pkNumT g s _ _ hs (og7_le lb) W h) hE he
    · obtain ⟨g1, g2⟩ := f2 hE he
      rw [g1, g2]
      exact og_5_ii g s a e w hr (stB s a e).1 (stB s a e).2 (fun W h => by have z := pkByteT g s a e hs ha W h; unfold u8v at z; rwa [hk] at z) (ogP 5 s (stB s a e)) (og2 5 s (stB s a e)).1 (og2 5 s (stB s a e)).2 (by rw [v2]; exact vaT_len _ _ _) (fun W h => by rw [s2, v2]; exact pkTextT g s _ _ 200 hs lb W h) (ogK 5 s (stB s a e)) (og7 5 s (stB s a e)).1 (og7 5 s (stB s a e)).2 (by rw [v7]; exact vaD_len _ _ _) (fun W h => by rw [s7, v7]; exact pkIdT g s _ _ hs (og2_le lb) W h) (ogD 5 s (stB s a e)) (og8 5 s (stB s a e)).1 (og8 5 s (stB s a e)).2 (by rw [v8]; exact vaN_le _ _ _) (fun W h => by rw [s8, v8]; exact pkNumT g s _ _ hs (og7_le lb) W h) hE he
  · obtain ⟨g1, g2⟩ := f1 hE
    rw [g1, g2]
    exact og_5_i g s a e w hr (stB s a e).1 (stB s a e).2 (fun W h => by have z := pkByteT g s a e hs ha W h; unfold u8v at z; rwa [hk] at z) (ogP 5 s (stB s a e)) (og2 5 s (stB s a e)).1 (og2 5 s (stB s a e)).2 (by rw [v2]; exact vaT_len _ _ _) (fun W h => by rw [s2, v2]; exact pkTextT g s _ _ 200 hs lb W h) (ogK 5 s (stB s a e)) (og7 5 s (stB s a e)).1 (og7 5 s (stB s a e)).2 (by rw [v7]; exact vaD_len _ _ _) (fun W h => by rw [s7, v7]; exact pkIdT g s _ _ hs (og2_le lb) W h) (ogD 5 s (stB s a e)) (og8 5 s (stB s a e)).1 (og8 5 s (stB s a e)).2 (by rw [v8]; exact vaN_le _ _ _) (fun W h => by rw [s8, v8]; exact pkNumT g s _ _ hs (og7_le lb) W h) _ rfl hE

theorem oget_6 (g : Nat) (s : List UInt8) (a : Nat) (e : Int) (hs : s.length ≤ 1000000000000) (ha : a ≤ s.length) (w : World) (hr : Rdr g s a e w) (hk : ib (vaB s a e) = 6) :
    Calls Try.prog 55 #[.pointer (some ⟨g, 0, none⟩)] w fun o w' => OgP g s (opG s a e).1 (opG s a e).2 (opGV s a e) w o w' := by
  have e1 : og1 6 (stB s a e) = stB s a e := flS_no (by decide) _
  have s2 : og2 6 s (stB s a e) = stT 200 s (stB s a e).1 (stB s a e).2 := by unfold og2; rw [e1]
  have v2 : ogP 6 s (stB s a e) = vaT 200 s (stB s a e).1 (stB s a e).2 := by unfold ogP; rw [e1]
  have h7 : og6 6 s (stB s a e) = og2 6 s (stB s a e) := by simp [og6, og5, og4, og3]
  have s7 : og7 6 s (stB s a e) = stD s (og2 6 s (stB s a e)).1 (og2 6 s (stB s a e)).2 := by unfold og7; rw [if_pos (by decide), h7]
  have v7 : ogK 6 s (stB s a e) = vaD s (og2 6 s (stB s a e)).1 (og2 6 s (stB s a e)).2 := by unfold ogK; rw [if_pos (by decide), h7]
  have h9 : og8 6 s (stB s a e) = og7 6 s (stB s a e) := by simp [og8]
  have hV : ogV 6 s (stB s a e) = ⟨6, ogP 6 s (stB s a e), [], 0, [], [], ogK 6 s (stB s a e), 0⟩ := by unfold ogV; simp [ogT, ogA, ogO, ogN, ogD]
  have lb := stB_le s a e ha
  obtain ⟨f1, f2, f3⟩ := og_end 6 s a e hk hV h9
  by_cases hE : opE ⟨6, ogP 6 s (stB s a e), [], 0, [], [], ogK 6 s (stB s a e), 0⟩ = 0
  · by_cases he : (og7 6 s (stB s a e)).2 = 0
    · obtain ⟨g1, g2⟩ := f3 hE he
      rw [g1, g2]
      exact og_6_iii g s a e w hr (stB s a e).1 (stB s a e).2 (fun W h => by have z := pkByteT g s a e hs ha W h; unfold u8v at z; rwa [hk] at z) (ogP 6 s (stB s a e)) (og2 6 s (stB s a e)).1 (og2 6 s (stB s a e)).2 (by rw [v2]; exact vaT_len _ _ _) (fun W h => by rw [s2, v2]; exact pkTextT g s _ _ 200 hs lb W h) (ogK 6 s (stB s a e)) (og7 6 s (stB s a e)).1 (og7 6 s (stB s a e)).2 (by rw [v7]; exact vaD_len _ _ _) (fun W h => by rw [s7, v7]; exact pkIdT g s _ _ hs (og2_le lb) W h) hE he
    · obtain ⟨g1, g2⟩ := f2 hE he
      rw [g1, g2]
      exact og_6_ii g s a e w hr (stB s a e).1 (stB s a e).2 (fun W h => by have z := pkByteT g s a e hs ha W h; unfold u8v at z; rwa [hk] at z) (ogP 6 s (stB s a e)) (og2 6 s (stB s a e)).1 (og2 6 s (stB s a e)).2 (by rw [v2]; exact vaT_len _ _ _) (fun W h => by rw [s2, v2]; exact pkTextT g s _ _ 200 hs lb W h) (ogK 6 s (stB s a e)) (og7 6 s (stB s a e)).1 (og7 6 s (stB s a e)).2 (by rw [v7]; exact vaD_len _ _ _) (fun W h => by rw [s7, v7]; exact pkIdT g s _ _ hs (og2_le lb) W h) hE he
  · obtain ⟨g1, g2⟩ := f1 hE
    rw [g1, g2]
    exact og_6_i g s a e w hr (stB s a e).1 (stB s a e).2 (fun W h => by have z := pkByteT g s a e hs ha W h; unfold u8v at z; rwa [hk] at z) (ogP 6 s (stB s a e)) (og2 6 s (stB s a e)).1 (og2 6 s (stB s a e)).2 (by rw [v2]; exact vaT_len _ _ _) (fun W h => by rw [s2, v2]; exact pkTextT g s _ _ 200 hs lb W h) (ogK 6 s (stB s a e)) (og7 6 s (stB s a e)).1 (og7 6 s (stB s a e)).2 (by rw [v7]; exact vaD_len _ _ _) (fun W h => by rw [s7, v7]; exact pkIdT g s _ _ hs (og2_le lb) W h) _ rfl hE

theorem rg13_1 (s : List UInt8) (a : Nat) (e : Int) (hs : s.length ≤ 1000000000000) (ha : a ≤ s.length) (w : World) (hk : ib (vaB s a e) = 1) :
    Calls Try.prog 58 #[rv s a e] w fun o w' => RgP s (opG s a e).1 (opG s a e).2 (opGV s a e) w o w' := by
  have e1 : og1 1 (stB s a e) = stB s a e := flS_no (by decide) _
  have s2 : og2 1 s (stB s a e) = stT 200 s (stB s a e).1 (stB s a e).2 := by unfold og2; rw [e1]
  have v2 : ogP 1 s (stB s a e) = vaT 200 s (stB s a e).1 (stB s a e).2 := by unfold ogP; rw [e1]
  have h9 : og8 1 s (stB s a e) = og2 1 s (stB s a e) := by simp [og8, og7, og6, og5, og4, og3]
  have hV : ogV 1 s (stB s a e) = ⟨1, ogP 1 s (stB s a e), [], 0, [], [], zeroB, 0⟩ := by unfold ogV; simp [ogT, ogA, ogO, ogN, ogK, ogD]
  have lb := stB_le s a e ha
  obtain ⟨f1, f2, f3⟩ := og_end 1 s a e hk hV h9
  by_cases hE : opE ⟨1, ogP 1 s (stB s a e), [], 0, [], [], zeroB, 0⟩ = 0
  · by_cases he : (og2 1 s (stB s a e)).2 = 0
    · obtain ⟨g1, g2⟩ := f3 hE he
      rw [g1, g2]
      exact rg_1_iii s a e w (stB s a e).1 (stB s a e).2 (fun W => by have z := rByteT s a e hs ha W; rwa [hk] at z) (ogP 1 s (stB s a e)) (og2 1 s (stB s a e)).1 (og2 1 s (stB s a e)).2 (by rw [v2]; exact vaT_len _ _ _) (fun W => by rw [s2, v2]; exact rGetTextT s _ _ 200 hs lb W) hE he
    · obtain ⟨g1, g2⟩ := f2 hE he
      rw [g1, g2]
      exact rg_1_ii s a e w (stB s a e).1 (stB s a e).2 (fun W => by have z := rByteT s a e hs ha W; rwa [hk] at z) (ogP 1 s (stB s a e)) (og2 1 s (stB s a e)).1 (og2 1 s (stB s a e)).2 (by rw [v2]; exact vaT_len _ _ _) (fun W => by rw [s2, v2]; exact rGetTextT s _ _ 200 hs lb W) hE he
  · obtain ⟨g1, g2⟩ := f1 hE
    rw [g1, g2]
    exact rg_1_i s a e w (stB s a e).1 (stB s a e).2 (fun W => by have z := rByteT s a e hs ha W; rwa [hk] at z) (ogP 1 s (stB s a e)) (og2 1 s (stB s a e)).1 (og2 1 s (stB s a e)).2 (by rw [v2]; exact vaT_len _ _ _) (fun W => by rw [s2, v2]; exact rGetTextT s _ _ 200 hs lb W) _ rfl hE

theorem rg13_2 (s : List UInt8) (a : Nat) (e : Int) (hs : s.length ≤ 1000000000000) (ha : a ≤ s.length) (w : World) (hk : ib (vaB s a e) = 2) :
    Calls Try.prog 58 #[rv s a e] w fun o w' => RgP s (opG s a e).1 (opG s a e).2 (opGV s a e) w o w' := by
  have e1 : og1 2 (stB s a e) = stB s a e := flS_no (by decide) _
  have s2 : og2 2 s (stB s a e) = stT 200 s (stB s a e).1 (stB s a e).2 := by unfold og2; rw [e1]
  have v2 : ogP 2 s (stB s a e) = vaT 200 s (stB s a e).1 (stB s a e).2 := by unfold ogP; rw [e1]
  have h4 : og3 2 s (stB s a e) = og2 2 s (stB s a e) := by simp [og3]
  have s4 : og4 2 s (stB s a e) = stX 1000 200 s (og2 2 s (stB s a e)).1 (og2 2 s (stB s a e)).2 := by unfold og4; rw [if_pos (by decide), h4]
  have v4 : ogO 2 s (stB s a e) = vaX 1000 200 s (og2 2 s (stB s a e)).1 (og2 2 s (stB s a e)).2 := by unfold ogO; rw [if_pos (by decide), h4]
  have h9 : og8 2 s (stB s a e) = og4 2 s (stB s a e) := by simp [og8, og7, og6, og5]
  have hV : ogV 2 s (stB s a e) = ⟨2, ogP 2 s (stB s a e), [], 0, ogO 2 s (stB s a e), [], zeroB, 0⟩ := by unfold ogV; simp [ogT, ogA, ogN, ogK, ogD]
  have lb := stB_le s a e ha
  obtain ⟨f1, f2, f3⟩ := og_end 2 s a e hk hV h9
  by_cases hE : opE ⟨2, ogP 2 s (stB s a e), [], 0, ogO 2 s (stB s a e), [], zeroB, 0⟩ = 0
  · by_cases he : (og4 2 s (stB s a e)).2 = 0
    · obtain ⟨g1, g2⟩ := f3 hE he
      rw [g1, g2]
      exact rg_2_iii s a e w (stB s a e).1 (stB s a e).2 (fun W => by have z := rByteT s a e hs ha W; rwa [hk] at z) (ogP 2 s (stB s a e)) (og2 2 s (stB s a e)).1 (og2 2 s (stB s a e)).2 (by rw [v2]; exact vaT_len _ _ _) (fun W => by rw [s2, v2]; exact rGetTextT s _ _ 200 hs lb W) (ogO 2 s (stB s a e)) (og4 2 s (stB s a e)).1 (og4 2 s (stB s a e)).2 (by rw [v4]; exact vaX_len _ _ _) (fun W => by rw [s4, v4]; exact (rGetTextsT s _ _ 1000 200 hs (og2_le lb) W).mono (by rintro o w' ⟨v, h1, h2, _, h3⟩; exact ⟨v, h1, h2, h3⟩)) hE he
    · obtain ⟨g1, g2⟩ := f2 hE he
      rw [g1, g2]
      exact rg_2_ii s a e w (stB s a e).1 (stB s a e).2 (fun W => by have z := rByteT s a e hs ha W; rwa [hk] at z) (ogP 2 s (stB s a e)) (og2 2 s (stB s a e)).1 (og2 2 s (stB s a e)).2 (by rw [v2]; exact vaT_len _ _ _) (fun W => by rw [s2, v2]; exact rGetTextT s _ _ 200 hs lb W) (ogO 2 s (stB s a e)) (og4 2 s (stB s a e)).1 (og4 2 s (stB s a e)).2 (by rw [v4]; exact vaX_len _ _ _) (fun W => by rw [s4, v4]; exact (rGetTextsT s _ _ 1000 200 hs (og2_le lb) W).mono (by rintro o w' ⟨v, h1, h2, _, h3⟩; exact ⟨v, h1, h2, h3⟩)) hE he
  · obtain ⟨g1, g2⟩ := f1 hE
    rw [g1, g2]
    exact rg_2_i s a e w (stB s a e).1 (stB s a e).2 (fun W => by have z := rByteT s a e hs ha W; rwa [hk] at z) (ogP 2 s (stB s a e)) (og2 2 s (stB s a e)).1 (og2 2 s (stB s a e)).2 (by rw [v2]; exact vaT_len _ _ _) (fun W => by rw [s2, v2]; exact rGetTextT s _ _ 200 hs lb W) (ogO 2 s (stB s a e)) (og4 2 s (stB s a e)).1 (og4 2 s (stB s a e)).2 (by rw [v4]; exact vaX_len _ _ _) (fun W => by rw [s4, v4]; exact (rGetTextsT s _ _ 1000 200 hs (og2_le lb) W).mono (by rintro o w' ⟨v, h1, h2, _, h3⟩; exact ⟨v, h1, h2, h3⟩)) _ rfl hE

theorem rg13_3 (s : List UInt8) (a : Nat) (e : Int) (hs : s.length ≤ 1000000000000) (ha : a ≤ s.length) (w : World) (hk : ib (vaB s a e) = 3) :
    Calls Try.prog 58 #[rv s a e] w fun o w' => RgP s (opG s a e).1 (opG s a e).2 (opGV s a e) w o w' := by
  have e1 : og1 3 (stB s a e) = stB s a e := flS_no (by decide) _
  have s2 : og2 3 s (stB s a e) = stT 200 s (stB s a e).1 (stB s a e).2 := by unfold og2; rw [e1]
  have v2 : ogP 3 s (stB s a e) = vaT 200 s (stB s a e).1 (stB s a e).2 := by unfold ogP; rw [e1]
  have h3 : og2 3 s (stB s a e) = og2 3 s (stB s a e) := rfl
  have s3 : og3 3 s (stB s a e) = stN s (og2 3 s (stB s a e)).1 (og2 3 s (stB s a e)).2 := by unfold og3; rw [if_pos rfl, h3]
  have v3 : ogA 3 s (stB s a e) = vaN s (og2 3 s (stB s a e)).1 (og2 3 s (stB s a e)).2 := by unfold ogA; rw [if_pos rfl, h3]
  have h4 : og3 3 s (stB s a e) = og3 3 s (stB s a e) := rfl
  have s4 : og4 3 s (stB s a e) = stX 1000 200 s (og3 3 s (stB s a e)).1 (og3 3 s (stB s a e)).2 := by unfold og4; rw [if_pos (by decide), h4]
  have v4 : ogO 3 s (stB s a e) = vaX 1000 200 s (og3 3 s (stB s a e)).1 (og3 3 s (stB s a e)).2 := by unfold ogO; rw [if_pos (by decide), h4]
  have h5 : og4 3 s (stB s a e) = og4 3 s (stB s a e) := rfl
  have s5 : og5 3 s (stB s a e) = stX 1000 200 s (og4 3 s (stB s a e)).1 (og4 3 s (stB s a e)).2 := by unfold og5; rw [if_pos rfl, h5]
  have v5 : ogN 3 s (stB s a e) = vaX 1000 200 s (og4 3 s (stB s a e)).1 (og4 3 s (stB s a e)).2 := by unfold ogN; rw [if_pos rfl, h5]
  have h9 : og8 3 s (stB s a e) = og5 3 s (stB s a e) := by simp [og8, og7, og6]
  have hV : ogV 3 s (stB s a e) = ⟨3, ogP 3 s (stB s a e), [], ((ogA 3 s (stB s a e) : Nat) : Int), ogO 3 s (stB s a e), ogN 3 s (stB s a e), zeroB, 0⟩ := by unfold ogV; simp [ogT, ogK, ogD]
  have lb := stB_le s a e ha
  obtain ⟨f1, f2, f3⟩ := og_end 3 s a e hk hV h9
  by_cases hE : opE ⟨3, ogP 3 s (stB s a e), [], ((ogA 3 s (stB s a e) : Nat) : Int), ogO 3 s (stB s a e), ogN 3 s (stB s a e), zeroB, 0⟩ = 0
  · by_cases he : (og5 3 s (stB s a e)).2 = 0
    · obtain ⟨g1, g2⟩ := f3 hE he
      rw [g1, g2]
      exact rg_3_iii s a e w (stB s a e).1 (stB s a e).2 (fun W => by have z := rByteT s a e hs ha W; rwa [hk] at z) (ogP 3 s (stB s a e)) (og2 3 s (stB s a e)).1 (og2 3 s (stB s a e)).2 (by rw [v2]; exact vaT_len _ _ _) (fun W => by rw [s2, v2]; exact rGetTextT s _ _ 200 hs lb W) (ogA 3 s (stB s a e)) (og3 3 s (stB s a e)).1 (og3 3 s (stB s a e)).2 (fun W => by rw [s3, v3]; exact rGetNumT s _ _ hs (og2_le lb) W) (ogO 3 s (stB s a e)) (og4 3 s (stB s a e)).1 (og4 3 s (stB s a e)).2 (by rw [v4]; exact vaX_len _ _ _) (fun W => by rw [s4, v4]; exact (rGetTextsT s _ _ 1000 200 hs (og3_le lb) W).mono (by rintro o w' ⟨v, h1, h2, _, h3⟩; exact ⟨v, h1, h2, h3⟩)) (ogN 3 s (stB s a e)) (og5 3 s (stB s a e)).1 (og5 3 s (stB s a e)).2 (by rw [v5]; exact vaX_len _ _ _) (fun W => by rw [s5, v5]; exact (rGetTextsT s _ _ 1000 200 hs (og4_le lb) W).mono (by rintro o w' ⟨v, h1, h2, _, h3⟩; exact ⟨v, h1, h2, h3⟩)) hE he
    · obtain ⟨g1, g2⟩ := f2 hE he
      rw [g1, g2]
      exact rg_3_ii s a e w (stB s a e).1 (stB s a e).2 (fun W => by have z := rByteT s a e hs ha W; rwa [hk] at z) (ogP 3 s (stB s a e)) (og2 3 s (stB s a e)).1 (og2 3 s (stB s a e)).2 (by rw [v2]; exact vaT_len _ _ _) (fun W => by rw [s2, v2]; exact rGetTextT s _ _ 200 hs lb W) (ogA 3 s (stB s a e)) (og3 3 s (stB s a e)).1 (og3 3 s (stB s a e)).2 (fun W => by rw [s3, v3]; exact rGetNumT s _ _ hs (og2_le lb) W) (ogO 3 s (stB s a e)) (og4 3 s (stB s a e)).1 (og4 3 s (stB s a e)).2 (by rw [v4]; exact vaX_len _ _ _) (fun W => by rw [s4, v4]; exact (rGetTextsT s _ _ 1000 200 hs (og3_le lb) W).mono (by rintro o w' ⟨v, h1, h2, _, h3⟩; exact ⟨v, h1, h2, h3⟩)) (ogN 3 s (stB s a e)) (og5 3 s (stB s a e)).1 (og5 3 s (stB s a e)).2 (by rw [v5]; exact vaX_len _ _ _) (fun W => by rw [s5, v5]; exact (rGetTextsT s _ _ 1000 200 hs (og4_le lb) W).mono (by rintro o w' ⟨v, h1, h2, _, h3⟩; exact ⟨v, h1, h2, h3⟩)) hE he
  · obtain ⟨g1, g2⟩ := f1 hE
    rw [g1, g2]
    exact rg_3_i s a e w (stB s a e).1 (stB s a e).2 (fun W => by have z := rByteT s a e hs ha W; rwa [hk] at z) (ogP 3 s (stB s a e)) (og2 3 s (stB s a e)).1 (og2 3 s (stB s a e)).2 (by rw [v2]; exact vaT_len _ _ _) (fun W => by rw [s2, v2]; exact rGetTextT s _ _ 200 hs lb W) (ogA 3 s (stB s a e)) (og3 3 s (stB s a e)).1 (og3 3 s (stB s a e)).2 (fun W => by rw [s3, v3]; exact rGetNumT s _ _ hs (og2_le lb) W) (ogO 3 s (stB s a e)) (og4 3 s (stB s a e)).1 (og4 3 s (stB s a e)).2 (by rw [v4]; exact vaX_len _ _ _) (fun W => by rw [s4, v4]; exact (rGetTextsT s _ _ 1000 200 hs (og3_le lb) W).mono (by rintro o w' ⟨v, h1, h2, _, h3⟩; exact ⟨v, h1, h2, h3⟩)) (ogN 3 s (stB s a e)) (og5 3 s (stB s a e)).1 (og5 3 s (stB s a e)).2 (by rw [v5]; exact vaX_len _ _ _) (fun W => by rw [s5, v5]; exact (rGetTextsT s _ _ 1000 200 hs (og4_le lb) W).mono (by rintro o w' ⟨v, h1, h2, _, h3⟩; exact ⟨v, h1, h2, h3⟩)) _ rfl hE

theorem rg13_4 (s : List UInt8) (a : Nat) (e : Int) (hs : s.length ≤ 1000000000000) (ha : a ≤ s.length) (w : World) (hk : ib (vaB s a e) = 4) :
    Calls Try.prog 58 #[rv s a e] w fun o w' => RgP s (opG s a e).1 (opG s a e).2 (opGV s a e) w o w' := by
  have e1 : og1 4 (stB s a e) = stB s a e := flS_no (by decide) _
  have s2 : og2 4 s (stB s a e) = stT 200 s (stB s a e).1 (stB s a e).2 := by unfold og2; rw [e1]
  have v2 : ogP 4 s (stB s a e) = vaT 200 s (stB s a e).1 (stB s a e).2 := by unfold ogP; rw [e1]
  have h6 : og5 4 s (stB s a e) = og2 4 s (stB s a e) := by simp [og5, og4, og3]
  have s6 : og6 4 s (stB s a e) = stT 200 s (og2 4 s (stB s a e)).1 (og2 4 s (stB s a e)).2 := by unfold og6; rw [if_pos rfl, h6]
  have v6 : ogT 4 s (stB s a e) = vaT 200 s (og2 4 s (stB s a e)).1 (og2 4 s (stB s a e)).2 := by unfold ogT; rw [if_pos rfl, h6]
  have h9 : og8 4 s (stB s a e) = og6 4 s (stB s a e) := by simp [og8, og7]
  have hV : ogV 4 s (stB s a e) = ⟨4, ogP 4 s (stB s a e), ogT 4 s (stB s a e), 0, [], [], zeroB, 0⟩ := by unfold ogV; simp [ogA, ogO, ogN, ogK, ogD]
  have lb := stB_le s a e ha
  obtain ⟨f1, f2, f3⟩ := og_end 4 s a e hk hV h9
  by_cases hE : opE ⟨4, ogP 4 s (stB s a e), ogT 4 s (stB s a e), 0, [], [], zeroB, 0⟩ = 0
  · by_cases he : (og6 4 s (stB s a e)).2 = 0
    · obtain ⟨g1, g2⟩ := f3 hE he
      rw [g1, g2]
      exact rg_4_iii s a e w (stB s a e).1 (stB s a e).2 (fun W => by have z := rByteT s a e hs ha W; rwa [hk] at z) (ogP 4 s (stB s a e)) (og2 4 s (stB s a e)).1 (og2 4 s (stB s a e)).2 (by rw [v2]; exact vaT_len _ _ _) (fun W => by rw [s2, v2]; exact rGetTextT s _ _ 200 hs lb W) (ogT 4 s (stB s a e)) (og6 4 s (stB s a e)).1 (og6 4 s (stB s a e)).2 (by rw [v6]; exact vaT_len _ _ _) (fun W => by rw [s6, v6]; exact rGetTextT s _ _ 200 hs (og2_le lb) W) hE he
    · obtain ⟨g1, g2⟩ := f2 hE he
      rw [g1, g2]
      exact rg_4_ii s a e w (stB s a e).1 (stB s a e).2 (fun W => by have z := rByteT s a e hs ha W; rwa [hk] at z) (ogP 4 s (stB s a e)) (og2 4 s (stB s a e)).1 (og2 4 s (stB s a e)).2 (by rw [v2]; exact vaT_len _ _ _) (fun W => by rw [s2, v2]; exact rGetTextT s _ _ 200 hs lb W) (ogT 4 s (stB s a e)) (og6 4 s (stB s a e)).1 (og6 4 s (stB s a e)).2 (by rw [v6]; exact vaT_len _ _ _) (fun W => by rw [s6, v6]; exact rGetTextT s _ _ 200 hs (og2_le lb) W) hE he
  · obtain ⟨g1, g2⟩ := f1 hE
    rw [g1, g2]
    exact rg_4_i s a e w (stB s a e).1 (stB s a e).2 (fun W => by have z := rByteT s a e hs ha W; rwa [hk] at z) (ogP 4 s (stB s a e)) (og2 4 s (stB s a e)).1 (og2 4 s (stB s a e)).2 (by rw [v2]; exact vaT_len _ _ _) (fun W => by rw [s2, v2]; exact rGetTextT s _ _ 200 hs lb W) (ogT 4 s (stB s a e)) (og6 4 s (stB s a e)).1 (og6 4 s (stB s a e)).2 (by rw [v6]; exact vaT_len _ _ _) (fun W => by rw [s6, v6]; exact rGetTextT s _ _ 200 hs (og2_le lb) W) _ rfl hE

theorem rg13_5 (s : List UInt8) (a : Nat) (e : Int) (hs : s.length ≤ 1000000000000) (ha : a ≤ s.length) (w : World) (hk : ib (vaB s a e) = 5) :
    Calls Try.prog 58 #[rv s a e] w fun o w' => RgP s (opG s a e).1 (opG s a e).2 (opGV s a e) w o w' := by
  have e1 : og1 5 (stB s a e) = stB s a e := flS_no (by decide) _
  have s2 : og2 5 s (stB s a e) = stT 200 s (stB s a e).1 (stB s a e).2 := by unfold og2; rw [e1]
  have v2 : ogP 5 s (stB s a e) = vaT 200 s (stB s a e).1 (stB s a e).2 := by unfold ogP; rw [e1]
  have h7 : og6 5 s (stB s a e) = og2 5 s (stB s a e) := by simp [og6, og5, og4, og3]
  have s7 : og7 5 s (stB s a e) = stD s (og2 5 s (stB s a e)).1 (og2 5 s (stB s a e)).2 := by unfold og7; rw [if_pos (by decide), h7]
  have v7 : ogK 5 s (stB s a e) = vaD s (og2 5 s (stB s a e)).1 (og2 5 s (stB s a e)).2 := by unfold ogK; rw [if_pos (by decide), h7]
  have h8 : og7 5 s (stB s a e) = og7 5 s (stB s a e) := rfl
  have s8 : og8 5 s (stB s a e) = stN s (og7 5 s (stB s a e)).1 (og7 5 s (stB s a e)).2 := by unfold og8; rw [if_pos rfl, h8]
  have v8 : ogD 5 s (stB s a e) = vaN s (og7 5 s (stB s a e)).1 (og7 5 s (stB s a e)).2 := by unfold ogD; rw [if_pos rfl, h8]
  have h9 : og8 5 s (stB s a e) = og8 5 s (stB s a e) := rfl
  have hV : ogV 5 s (stB s a e) = ⟨5, ogP 5 s (stB s a e), [], 0, [], [], ogK 5 s (stB s a e), ((ogD 5 s (stB s a e) : Nat) : Int)⟩ := by unfold ogV; simp [ogT, ogA, ogO, ogN]
  have lb := stB_le s a e ha
  obtain ⟨f1, f2, f3⟩ := og_end 5 s a e hk hV h9
  by_cases hE : opE ⟨5, ogP 5 s (stB s a e), [], 0, [], [], ogK 5 s (stB s a e), ((ogD 5 s (stB s a e) : Nat) : Int)⟩ = 0
  · by_cases he : (og8 5 s (stB s a e)).2 = 0
    · obtain ⟨g1, g2⟩ := f3 hE he
      rw [g1, g2]
      exact rg_5_iii s a e w (stB s a e).1 (stB s a e).2 (fun W => by have z := rByteT s a e hs ha W; rwa [hk] at z) (ogP 5 s (stB s a e)) (og2 5 s (stB s a e)).1 (og2 5 s (stB s a e)).2 (by rw [v2]; exact vaT_len _ _ _) (fun W => by rw [s2, v2]; exact rGetTextT s _ _ 200 hs lb W) (ogK 5 s (stB s a e)) (og7 5 s (stB s a e)).1 (og7 5 s (stB s a e)).2 (by rw [v7]; exact vaD_len _ _ _) (fun W => by rw [s7, v7]; exact rGetIdT s _ _ hs (og2_le lb) W) (ogD 5 s (stB s a e)) (og8 5 s (stB s a e)).1 (og8 5 s (stB s a e)).2 (fun W => by rw [s8, v8]; exact rGetNumT s _ _ hs (og7_le lb) W) hE he
    · obtain ⟨g1, g2⟩ := f2 hE he
      rw [g1, g2]
      exact rg_5_ii s a e w (stB s a e).1 (stB s a e).2 (fun W => by have z := rByteT s a e hs ha W; rwa [hk] at z) (ogP 5 s (stB s a e)) (og2 5 s (stB s a e)).1 (og2 5 s (stB s a e)).2 (by rw [v2]; exact vaT_len _ _ _) (fun W => by rw [s2, v2]; exact rGetTextT s _ _ 200 hs lb W) (ogK 5 s (stB s a e)) (og7 5 s (stB s a e)).1 (og7 5 s (stB s a e)).2 (by rw [v7]; exact vaD_len _ _ _) (fun W => by rw [s7, v7]; exact rGetIdT s _ _ hs (og2_le lb) W) (ogD 5 s (stB s a e)) (og8 5 s (stB s a e)).1 (og8 5 s (stB s a e)).2 (fun W => by rw [s8, v8]; exact rGetNumT s _ _ hs (og7_le lb) W) hE he
  · obtain ⟨g1, g2⟩ := f1 hE
    rw [g1, g2]
    exact rg_5_i s a e w (stB s a e).1 (stB s a e).2 (fun W => by have z := rByteT s a e hs ha W; rwa [hk] at z) (ogP 5 s (stB s a e)) (og2 5 s (stB s a e)).1 (og2 5 s (stB s a e)).2 (by rw [v2]; exact vaT_len _ _ _) (fun W => by rw [s2, v2]; exact rGetTextT s _ _ 200 hs lb W) (ogK 5 s (stB s a e)) (og7 5 s (stB s a e)).1 (og7 5 s (stB s a e)).2 (by rw [v7]; exact vaD_len _ _ _) (fun W => by rw [s7, v7]; exact rGetIdT s _ _ hs (og2_le lb) W) (ogD 5 s (stB s a e)) (og8 5 s (stB s a e)).1 (og8 5 s (stB s a e)).2 (fun W => by rw [s8, v8]; exact rGetNumT s _ _ hs (og7_le lb) W) _ rfl hE

theorem rg13_6 (s : List UInt8) (a : Nat) (e : Int) (hs : s.length ≤ 1000000000000) (ha : a ≤ s.length) (w : World) (hk : ib (vaB s a e) = 6) :
    Calls Try.prog 58 #[rv s a e] w fun o w' => RgP s (opG s a e).1 (opG s a e).2 (opGV s a e) w o w' := by
  have e1 : og1 6 (stB s a e) = stB s a e := flS_no (by decide) _
  have s2 : og2 6 s (stB s a e) = stT 200 s (stB s a e).1 (stB s a e).2 := by unfold og2; rw [e1]
  have v2 : ogP 6 s (stB s a e) = vaT 200 s (stB s a e).1 (stB s a e).2 := by unfold ogP; rw [e1]
  have h7 : og6 6 s (stB s a e) = og2 6 s (stB s a e) := by simp [og6, og5, og4, og3]
  have s7 : og7 6 s (stB s a e) = stD s (og2 6 s (stB s a e)).1 (og2 6 s (stB s a e)).2 := by unfold og7; rw [if_pos (by decide), h7]
  have v7 : ogK 6 s (stB s a e) = vaD s (og2 6 s (stB s a e)).1 (og2 6 s (stB s a e)).2 := by unfold ogK; rw [if_pos (by decide), h7]
  have h9 : og8 6 s (stB s a e) = og7 6 s (stB s a e) := by simp [og8]
  have hV : ogV 6 s (stB s a e) = ⟨6, ogP 6 s (stB s a e), [], 0, [], [], ogK 6 s (stB s a e), 0⟩ := by unfold ogV; simp [ogT, ogA, ogO, ogN, ogD]
  have lb := stB_le s a e ha
  obtain ⟨f1, f2, f3⟩ := og_end 6 s a e hk hV h9
  by_cases hE : opE ⟨6, ogP 6 s (stB s a e), [], 0, [], [], ogK 6 s (stB s a e), 0⟩ = 0
  · by_cases he : (og7 6 s (stB s a e)).2 = 0
    · obtain ⟨g1, g2⟩ := f3 hE he
      rw [g1, g2]
      exact rg_6_iii s a e w (stB s a e).1 (stB s a e).2 (fun W => by have z := rByteT s a e hs ha W; rwa [hk] at z) (ogP 6 s (stB s a e)) (og2 6 s (stB s a e)).1 (og2 6 s (stB s a e)).2 (by rw [v2]; exact vaT_len _ _ _) (fun W => by rw [s2, v2]; exact rGetTextT s _ _ 200 hs lb W) (ogK 6 s (stB s a e)) (og7 6 s (stB s a e)).1 (og7 6 s (stB s a e)).2 (by rw [v7]; exact vaD_len _ _ _) (fun W => by rw [s7, v7]; exact rGetIdT s _ _ hs (og2_le lb) W) hE he
    · obtain ⟨g1, g2⟩ := f2 hE he
      rw [g1, g2]
      exact rg_6_ii s a e w (stB s a e).1 (stB s a e).2 (fun W => by have z := rByteT s a e hs ha W; rwa [hk] at z) (ogP 6 s (stB s a e)) (og2 6 s (stB s a e)).1 (og2 6 s (stB s a e)).2 (by rw [v2]; exact vaT_len _ _ _) (fun W => by rw [s2, v2]; exact rGetTextT s _ _ 200 hs lb W) (ogK 6 s (stB s a e)) (og7 6 s (stB s a e)).1 (og7 6 s (stB s a e)).2 (by rw [v7]; exact vaD_len _ _ _) (fun W => by rw [s7, v7]; exact rGetIdT s _ _ hs (og2_le lb) W) hE he
  · obtain ⟨g1, g2⟩ := f1 hE
    rw [g1, g2]
    exact rg_6_i s a e w (stB s a e).1 (stB s a e).2 (fun W => by have z := rByteT s a e hs ha W; rwa [hk] at z) (ogP 6 s (stB s a e)) (og2 6 s (stB s a e)).1 (og2 6 s (stB s a e)).2 (by rw [v2]; exact vaT_len _ _ _) (fun W => by rw [s2, v2]; exact rGetTextT s _ _ 200 hs lb W) (ogK 6 s (stB s a e)) (og7 6 s (stB s a e)).1 (og7 6 s (stB s a e)).2 (by rw [v7]; exact vaD_len _ _ _) (fun W => by rw [s7, v7]; exact rGetIdT s _ _ hs (og2_le lb) W) _ rfl hE

theorem oget_z (g : Nat) (s : List UInt8) (a : Nat) (e : Int) (hs : s.length ≤ 1000000000000) (ha : a ≤ s.length) (w : World) (hr : Rdr g s a e w) (hz : ¬ (1 ≤ ib (vaB s a e) ∧ ib (vaB s a e) ≤ 6)) :
    Calls Try.prog 55 #[.pointer (some ⟨g, 0, none⟩)] w fun o w' => OgP g s (opG s a e).1 (opG s a e).2 (opGV s a e) w o w' := by
  have cB := fun W h => pkByteT g s a e hs ha W h
  have hlo := ib_lo (vaB s a e)
  have hhi := ib_hi (vaB s a e)
  obtain ⟨k, hk⟩ : ∃ k, ib (vaB s a e) = k := ⟨_, rfl⟩
  unfold u8v at cB
  rw [hk] at hz hlo hhi cB
  obtain ⟨b8, b1, bV⟩ := og_big hz s (stB s a e)
  have hE : opE ⟨k, ogP k s (stB s a e), [], 0, [], [], zeroB, 0⟩ = 1 := by unfold opE; rw [if_neg hz]
  obtain ⟨f1, _, _⟩ := og_end k s a e hk bV b8
  obtain ⟨g1, g2⟩ := f1 (by rw [hE]; decide)
  rw [g1, g2]
  have lb := stB_le s a e ha
  refine og_z_i g s a e w hr k hz hlo hhi (stB s a e).1 (stB s a e).2 cB (ogP k s (stB s a e)) (og2 k s (stB s a e)).1 (og2 k s (stB s a e)).2 (by unfold ogP; exact vaT_len _ _ _) (fun W h => ?_) 1 hE (by decide)
  unfold ogP og2
  rw [b1]
  exact pkTextT g s _ _ 200 hs lb W h
/-- An operation is read, by the program. -/
theorem oget_any (g : Nat) (s : List UInt8) (a : Nat) (e : Int) (hs : s.length ≤ 1000000000000) (ha : a ≤ s.length) (w : World) (hr : Rdr g s a e w) :
    Calls Try.prog 55 #[.pointer (some ⟨g, 0, none⟩)] w fun o w' => OgP g s (opG s a e).1 (opG s a e).2 (opGV s a e) w o w' := by
  by_cases hz : 1 ≤ ib (vaB s a e) ∧ ib (vaB s a e) ≤ 6
  · rcases kind_cases hz.1 hz.2 with hk | hk | hk | hk | hk | hk
    · exact oget_1 g s a e hs ha w hr hk
    · exact oget_2 g s a e hs ha w hr hk
    · exact oget_3 g s a e hs ha w hr hk
    · exact oget_4 g s a e hs ha w hr hk
    · exact oget_5 g s a e hs ha w hr hk
    · exact oget_6 g s a e hs ha w hr hk
  · exact oget_z g s a e hs ha w hr hz
theorem rg13_z (s : List UInt8) (a : Nat) (e : Int) (hs : s.length ≤ 1000000000000) (ha : a ≤ s.length) (w : World) (hz : ¬ (1 ≤ ib (vaB s a e) ∧ ib (vaB s a e) ≤ 6)) :
    Calls Try.prog 58 #[rv s a e] w fun o w' => RgP s (opG s a e).1 (opG s a e).2 (opGV s a e) w o w' := by
  have cB := fun W => rByteT s a e hs ha W
  have hlo := ib_lo (vaB s a e)
  obtain ⟨k, hk⟩ : ∃ k, ib (vaB s a e) = k := ⟨_, rfl⟩
  rw [hk] at hz hlo cB
  obtain ⟨b8, b1, bV⟩ := og_big hz s (stB s a e)
  have hE : opE ⟨k, ogP k s (stB s a e), [], 0, [], [], zeroB, 0⟩ = 1 := by unfold opE; rw [if_neg hz]
  obtain ⟨f1, _, _⟩ := og_end k s a e hk bV b8
  obtain ⟨g1, g2⟩ := f1 (by rw [hE]; decide)
  rw [g1, g2]
  have lb := stB_le s a e ha
  have c1 : ∀ W, Calls Try.prog 105 #[.agg #[.string (txt s), .int .i64 (stB s a e).1, .int .i64 (stopB (stB s a e).2 3)], .int .i64 200] W fun o w' => o = .returned (.tuple #[.agg #[.string (txt s), .int .i64 (og2 k s (stB s a e)).1, .int .i64 (og2 k s (stB s a e)).2], .string (txt (ogP k s (stB s a e)))]) ∧ Below W.heap.size W w' := fun W => by
    unfold ogP og2
    rw [b1]
    exact rGetTextT s _ _ 200 hs lb W
  have h2 : og2 k s (stB s a e) = ((stB s a e).1, stopB (stB s a e).2 3) := by unfold og2; rw [b1]; exact stT_old (stop_ne _)
  by_cases h7 : 7 ≤ k
  · refine rg_z7_i s a e w k h7 (stB s a e).1 (stB s a e).2 cB (ogP k s (stB s a e)) (og2 k s (stB s a e)).1 (og2 k s (stB s a e)).2 (by unfold ogP; exact vaT_len _ _ _) c1 zeroB (og2 k s (stB s a e)).1 (og2 k s (stB s a e)).2 rfl (fun W => ?_) 1 hE (by decide)
    rw [h2]
    have z := rGetIdT s (stB s a e).1 (stopB (stB s a e).2 3) hs lb W
    obtain ⟨d1, d2⟩ := stD_old (s := s) (a := (stB s a e).1) (stop_ne (stB s a e).2)
    rw [d1, d2] at z
    exact z
  · exact rg_z0_i s a e w k (by omega) (stB s a e).1 (stB s a e).2 cB (ogP k s (stB s a e)) (og2 k s (stB s a e)).1 (og2 k s (stB s a e)).2 (by unfold ogP; exact vaT_len _ _ _) c1 1 hE (by decide)
/-- An operation is read, by the document. -/
theorem rg13_any (s : List UInt8) (a : Nat) (e : Int) (hs : s.length ≤ 1000000000000) (ha : a ≤ s.length) (w : World) :
    Calls Try.prog 58 #[rv s a e] w fun o w' => RgP s (opG s a e).1 (opG s a e).2 (opGV s a e) w o w' := by
  by_cases hz : 1 ≤ ib (vaB s a e) ∧ ib (vaB s a e) ≤ 6
  · rcases kind_cases hz.1 hz.2 with hk | hk | hk | hk | hk | hk
    · exact rg13_1 s a e hs ha w hk
    · exact rg13_2 s a e hs ha w hk
    · exact rg13_3 s a e hs ha w hk
    · exact rg13_4 s a e hs ha w hk
    · exact rg13_5 s a e hs ha w hk
    · exact rg13_6 s a e hs ha w hk
  · exact rg13_z s a e hs ha w hz
end Go.Proofs.Ythpdkdalfjahcaa

namespace Go.Proofs.Ythpdkdalfjahcaa
open Go.RowKit Go.Qc Go.Shelf
attribute [local go_sem] txt_size txt_append ib_fold txt_toL

theorem OpR.alloc {W : World} {D : OpD} {A : Option Addr} {n : Nat} {B : Option Addr} {m : Nat} (h : OpR W D A n B m) (o : Obj) : OpR (W.alloc o) D A n B m := h.below ((Below.refl _ W).alloc (Nat.le_refl _) o)
set_option maxRecDepth 100000 in
set_option maxHeartbeats 8000000 in
/-- One operation, at two places, is the same. -/
theorem rsame13_eq (D : OpD) (A : Option Addr) (n c : Nat) (B : Option Addr) (m d : Nat) (A2 : Option Addr) (n2 c2 : Nat) (B2 : Option Addr) (m2 d2 : Nat) (w : World) (hR : OpR w D A n B m) (hS : OpR w D A2 n2 B2 m2) :
    Calls Try.prog 57 #[.agg (opC D A n c B m d), .agg (opC D A2 n2 c2 B2 m2 d2)] w fun o w' => o = .returned (.bool true) ∧ Below w.heap.size w w' := by
  have hK := hR.hK
  have hX0 := OpX.new w D A n c B m d
  have hk1 : (w.alloc (.cells (opC D A n c B m d) 74)).heap.size = w.heap.size + 1 := by simp
  have hX := hX0.alloc (.cells (opC D A2 n2 c2 B2 m2 d2) 74)
  have hY := OpX.new (w.alloc (.cells (opC D A n c B m d) 74)) D A2 n2 c2 B2 m2 d2
  rw [hk1] at hY
  have hB : Below w.heap.size w ((w.alloc (.cells (opC D A n c B m d) 74)).alloc (.cells (opC D A2 n2 c2 B2 m2 d2) 74)) := ((Below.refl _ w).alloc (Nat.le_refl _) _).alloc (by simp) _
  have c1 : ∀ W, Below w.heap.size w W → Calls Try.prog 40 #[.slice A n c, .slice A2 n2 c2] W fun o w' => o = .returned (.bool true) ∧ Below W.heap.size W w' := fun W h => by
    have z := same_any A A2 n n2 c c2 D.o D.o hR.lo hS.lo (by have := hR.bn; omega) (by have := hS.bn; omega) W (hR.rA.below h) (hS.rA.below h)
    rwa [decide_eq_true rfl] at z
  have c2' : ∀ W, Below w.heap.size w W → Calls Try.prog 40 #[.slice B m d, .slice B2 m2 d2] W fun o w' => o = .returned (.bool true) ∧ Below W.heap.size W w' := fun W h => by
    have z := same_any B B2 m m2 d d2 D.n D.n hR.ln hS.ln (by have := hR.bm; omega) (by have := hS.bm; omega) W (hR.rB.below h) (hS.rB.below h)
    rwa [decide_eq_true rfl] at z
  have hu := Try.underlying24
  have hHZ : (Try.prog.info? 24).map (·.size) = some (D.K.map u8v).length := by rw [List.length_map, hK]; exact sizeId
  have heq : ∀ W, (Op.equalIn 10000 24 (.agg (List.map u8v D.K).toArray) (.agg (List.map u8v D.K).toArray)).run Try.prog W = .ok true W := fun W => (ids_eq W D.K D.K hK hK).trans (by rw [decide_eq_true rfl])
  clear hX0 hk1 hR hS
  have x0 := hX.c0
  have x1 := hX.c1
  have x2 := hX.c2
  have x3 := hX.c3
  have x4 := hX.c4
  have x5 := hX.c5
  have x38 := hX.c38 hK
  have xK := hX.key
  have y0 := hY.c0
  have y1 := hY.c1
  have y2 := hY.c2
  have y3 := hY.c3
  have y4 := hY.c4
  have y5 := hY.c5
  have y38 := hY.c38 hK
  have yK := hY.key
  go_enter Try.func57, Try.ntmps57
  go_wp2_with (first
    | (with_reducible refine wpList_load_if (by with_unfolding_all rfl) 24 _ rfl _ _ rfl (D.K.map u8v) _ xK hu (by with_unfolding_all rfl) hHZ ?_)
    | (with_reducible refine wpList_load_if (by with_unfolding_all rfl) 24 _ rfl _ _ rfl (D.K.map u8v) _ yK hu (by with_unfolding_all rfl) hHZ ?_)
    | (go_at_call 40; (first | (with_reducible refine (c1 _ hB).mono ?_) | (with_reducible refine (c2' _ hB).mono ?_)); rintro o1 w1 ⟨rfl, hb⟩; replace hX := hX.below hb; replace hY := hY.below hb; replace hB := hB.trans (hb.mono hB.size); clear hb x0 x1 x2 x3 x4 x5 x38 xK y0 y1 y2 y3 y4 y5 y38 yK; have x5 := hX.c5; have x38 := hX.c38 hK; have xK := hX.key; have y5 := hY.c5; have y38 := hY.c38 hK; have yK := hY.key; have x0 := hX.c0; have x1 := hX.c1; have x2 := hX.c2; have x3 := hX.c3; have x4 := hX.c4; have y0 := hY.c0; have y1 := hY.c1; have y2 := hY.c2; have y3 := hY.c3; have y4 := hY.c4))
  go_ret
  exact ⟨by first | rfl | simp, hB⟩
/-- Has an operation more than may be asked about? -/
def lngO (D : OpD) : Bool := decide (300 < D.p.length) || (decide (300 < D.t.length) || (decide (40 < D.o.length) || (decide (40 < D.n.length) || ([D.o, D.n].any fun l => l.any fun s => decide (300 < s.length)))))
theorem any_snocO {α : Type} {l : List α} {f : α → Bool} {k : Nat} {x : α} (hx : l[k]? = some x) (h : (l.take k).any f = false) (hb : f x = false) : (l.take (k + 1)).any f = false := by
  rw [take_snoc hx, List.any_append, h]; simp [hb]
theorem any_hitO {α : Type} {l : List α} {f : α → Bool} {k : Nat} {x : α} (hx : l[k]? = some x) (hb : f x = true) : l.any f = true := by
  rw [List.any_eq_true]; exact ⟨x, List.mem_of_getElem? hx, hb⟩
set_option maxRecDepth 100000 in
set_option maxHeartbeats 8000000 in
theorem rlong13_any (D : OpD) (hK : D.K.length = 32) (A : Option Addr) (n c : Nat) (hlo : D.o.length = n) (bn : n ≤ 9223372036854775807) (B : Option Addr) (m d : Nat) (hln : D.n.length = m) (bm : m ≤ 9223372036854775807) (bp : D.p.length ≤ 9223372036854775807) (bt : D.t.length ≤ 9223372036854775807) (w : World) (rA : Rd w A (D.o.map strV)) (rB : Rd w B (D.n.map strV)) :
    Calls Try.prog 51 #[.agg (opC D A n c B m d)] w fun o w' => o = .returned (.bool (lngO D)) ∧ Below w.heap.size w w' := by
  have hB : Below w.heap.size w (w.alloc (.cells (opC D A n c B m d) 74)) := (Below.refl _ w).alloc (Nat.le_refl _) _
  have hX := OpX.new w D A n c B m d
  have x1 := hX.c1
  have x2 := hX.c2
  have x4 := hX.c4
  have x5 := hX.c5
  obtain ⟨R, hR⟩ : ∃ R, R = lngO D := ⟨_, rfl⟩
  rw [← hR]
  unfold lngO at hR
  rw [hlo, hln] at hR
  by_cases h0 : 300 < D.p.length
  · have z0 : (300 : Int) < D.p.length := by omega
    have q0 : decide ((300 : Int) < D.p.length) = true := decide_eq_true z0
    obtain rfl : R = true := by rw [hR]; simp [h0]
    clear hR h0
    go_enter Try.func51, Try.ntmps51
    go_wp2
    go_ret
    exact ⟨rfl, hB⟩
  have z0 : ¬ (300 : Int) < D.p.length := by omega
  have q0 : decide ((300 : Int) < D.p.length) = false := decide_eq_false z0
  rw [decide_eq_false h0, Bool.false_or] at hR
  by_cases h1 : 300 < D.t.length
  · have z1 : (300 : Int) < D.t.length := by omega
    have q1 : decide ((300 : Int) < D.t.length) = true := decide_eq_true z1
    obtain rfl : R = true := by rw [hR]; simp [h1]
    clear hR h1
    go_enter Try.func51, Try.ntmps51
    go_wp2
    go_ret
    exact ⟨rfl, hB⟩
  have z1 : ¬ (300 : Int) < D.t.length := by omega
  have q1 : decide ((300 : Int) < D.t.length) = false := decide_eq_false z1
  rw [decide_eq_false h1, Bool.false_or] at hR
  by_cases h2 : 40 < n
  · have z2 : (40 : Int) < n := by omega
    have q2 : decide ((40 : Int) < n) = true := decide_eq_true z2
    obtain rfl : R = true := by rw [hR]; simp [h2]
    clear hR h2
    go_enter Try.func51, Try.ntmps51
    go_wp2
    go_ret
    exact ⟨rfl, hB⟩
  have z2 : ¬ (40 : Int) < n := by omega
  have q2 : decide ((40 : Int) < n) = false := decide_eq_false z2
  rw [decide_eq_false h2, Bool.false_or] at hR
  by_cases h3 : 40 < m
  · have z3 : (40 : Int) < m := by omega
    have q3 : decide ((40 : Int) < m) = true := decide_eq_true z3
    obtain rfl : R = true := by rw [hR]; simp [h3]
    clear hR h3
    go_enter Try.func51, Try.ntmps51
    go_wp2
    go_ret
    exact ⟨rfl, hB⟩
  have z3 : ¬ (40 : Int) < m := by omega
  have q3 : decide ((40 : Int) < m) = false := decide_eq_false z3
  rw [decide_eq_false h3, Bool.false_or] at hR
  have HR := hid hR
  clear hR h0 h1 h2 h3
  obtain ⟨ss, hss⟩ : ∃ ss : List (Option Addr × Nat × Nat × List (List UInt8)), ss = [(A, n, c, D.o), (B, m, d, D.n)] := ⟨_, rfl⟩
  have HSS := hid hss
  have hl2 : [D.o, D.n] = ss.map fun x => x.2.2.2 := by rw [hss]; rfl
  have hro : ∀ (j : Nat) (x : Option Addr × Nat × Nat × List (List UInt8)), ss[j]? = some x → x.2.2.2.length = x.2.1 ∧ x.2.1 ≤ 40 ∧ Rd w x.1 (x.2.2.2.map strV) := by
    intro j x hx
    rw [hss] at hx
    match j, hx with
    | 0, hx => simp at hx; subst hx; exact ⟨hlo, (by simp only; omega), rA⟩
    | 1, hx => simp at hx; subst hx; exact ⟨hln, (by simp only; omega), rB⟩
    | j + 2, hx => simp at hx
  have hlen2 : ss.length = 2 := by rw [hss]; rfl
  rw [hl2, List.any_map] at HR
  have hblk : ∀ W : World, Blk (W.alloc (.cells #[.slice A n c, .slice B m d] 32)) W.heap.size 32 #[.slice A n c, .slice B m d] := fun W => Blk.new _ _ _
  have HRO := hid hro
  clear hss hl2 hro rA rB bn bm hlo hln
  go_enter Try.func51, Try.ntmps51
  go_wp2
  have hgb := hblk (w.alloc (.cells (opC D A n c B m d) 74))
  have hB1 := hB.alloc hB.size (.cells #[.slice A n c, .slice B m d] 32)
  have hrW : ∀ (j : Nat) (x : Option Addr × Nat × Nat × List (List UInt8)), ss[j]? = some x → x.2.2.2.length = x.2.1 ∧ x.2.1 ≤ 40 ∧ Rd ((w.alloc (.cells (opC D A n c B m d) 74)).alloc (.cells #[.slice A n c, .slice B m d] 32)) x.1 (x.2.2.2.map strV) ∧ ((w.alloc (.cells (opC D A n c B m d) 74)).alloc (.cells #[.slice A n c, .slice B m d] 32)).cell? ⟨(w.alloc (.cells (opC D A n c B m d) 74)).heap.size, j, none⟩ = some (.slice x.1 x.2.1 x.2.2.1) := by
    intro j x hx
    obtain ⟨r1, r2, r3⟩ := HRO.out j x hx
    refine ⟨r1, r2, r3.below hB1, ?_⟩
    rw [hgb.cell]
    rw [HSS.out] at hx
    match j, hx with
    | 0, hx => simp at hx; subst hx; rfl
    | 1, hx => simp at hx; subst hx; rfl
    | j + 2, hx => simp at hx
  have HC := hid hrW
  clear hrW hgb hblk hB hX x1 x2 x4 x5
  rw [show (w.alloc (.cells (opC D A n c B m d) 74)).heap.size = w.heap.size + 1 by simp] at HC
  generalize (w.alloc (.cells (opC D A n c B m d) 74)).alloc (.cells #[.slice A n c, .slice B m d] 32) = W0 at *
  go_loopw [35] (fun i wr => ∃ (k : Nat), k ≤ 2 ∧ i = .int .i64 k ∧ Hid (((ss.take k).any ((fun l => l.any fun s => decide (300 < s.length)) ∘ fun x => x.2.2.2)) = false) ∧ W0 = wr) (fun i _ => 2 - (intOf i).toNat)
  case atStart => exact ⟨0, by omega, rfl, hid rfl, rfl⟩
  case round =>
    obtain ⟨k, hk, rfl, HF, rfl⟩ := hrel
    by_cases hlt : k < 2
    · obtain ⟨x, hx⟩ : ∃ x, ss[k]? = some x := ⟨_, List.getElem?_eq_getElem (by omega)⟩
      obtain ⟨hn, h40, hrd, hcell⟩ := HC.out k x hx
      obtain ⟨A1, n1, c1, L⟩ := x
      simp only at hn h40 hrd hcell
      have HX := hid hx
      have HRD := hid hrd
      have HNN := hid hn
      have b1 : (k : Int) < 2 := by omega
      clear hx hrd hn
      go_wp2
      go_loopw [41] (fun i wr => ∃ (j : Nat), j ≤ n1 ∧ i = .int .i64 j ∧ Hid (((L.take j).any fun s => decide (300 < s.length)) = false) ∧ W0 = wr) (fun i _ => n1 - (intOf i).toNat)
      case atStart => exact ⟨0, by omega, rfl, hid (by simp), rfl⟩
      case round =>
        obtain ⟨j, hj, rfl, HG, rfl⟩ := hrel
        by_cases hlt2 : j < n1
        · obtain ⟨p, hp⟩ : ∃ p, L[j]? = some p := ⟨_, List.getElem?_eq_getElem (by have := HNN.out; omega)⟩
          obtain ⟨ad2, rfl, hcell2⟩ := rd_in HRD.out j (strV p) (by rw [List.getElem?_map, hp]; rfl)
          unfold strV at hcell2
          have HP := hid hp
          have b2 : (j : Int) < n1 := by omega
          clear hp
          by_cases h300 : 300 < p.length
          · have z9 : (300 : Int) < p.length := by omega
            obtain rfl : R = true := by
              rw [HR.out]
              refine any_hitO HX.out ?_
              simp only [Function.comp]
              exact any_hitO HP.out (decide_eq_true h300)
            clear HR
            go_wp2
            go_ret
            exact ⟨rfl, hB1⟩
          · have z9 : ¬ (300 : Int) < p.length := by omega
            go_wp2
            go_roundw
            case rel => exact ⟨j + 1, hlt2, by go_num, hid (any_snocO HP.out HG.out (decide_eq_false h300)), by first | rfl | trivial⟩
            case measure => simp [intOf]; omega
        · obtain rfl : n1 = j := by omega
          have b2 : ¬ (n1 : Int) < n1 := by omega
          go_wp2
          go_roundw
          case rel =>
            refine ⟨k + 1, hlt, by go_num, hid (any_snocO HX.out HF.out ?_), by first | rfl | trivial⟩
            have hg := HG.out
            rw [List.take_of_length_le (by have := HNN.out; omega)] at hg
            exact hg
          case measure => simp [intOf]; omega
    · obtain rfl : k = 2 := by omega
      have b1 : ¬ (2 : Int) < 2 := by omega
      obtain rfl : R = false := by
        have hf := HF.out
        rw [List.take_of_length_le (by omega)] at hf
        rw [HR.out]; exact hf
      clear HR
      go_wp2
      go_ret
      exact ⟨rfl, hB1⟩
/-! ### the chapter's example -/
def opX1 : OpD := ⟨1, [97], [], 0, [], [], zeroB, 0⟩
theorem opX1_E : opE opX1 = 0 := by decide +kernel
theorem opX1_B : opB opX1 = [1, 1, 97] := by
  unfold opB opX1 textE
  simp [numE_lt]
theorem opX1_lit : opC opX1 none 0 0 none 0 0 = #[.int .i64 1, .string ⟨#[97]⟩, .string ⟨#[]⟩, .int .i64 0, .slice none 0 0, .slice none 0 0, .int .u8 0, .int .u8 0, .int .u8 0, .int .u8 0, .int .u8 0, .int .u8 0, .int .u8 0, .int .u8 0, .int .u8 0, .int .u8 0, .int .u8 0, .int .u8 0, .int .u8 0, .int .u8 0, .int .u8 0, .int .u8 0, .int .u8 0, .int .u8 0, .int .u8 0, .int .u8 0, .int .u8 0, .int .u8 0, .int .u8 0, .int .u8 0, .int .u8 0, .int .u8 0, .int .u8 0, .int .u8 0, .int .u8 0, .int .u8 0, .int .u8 0, .int .u8 0, .int .i64 0] := by
  unfold opC opX1; rw [zeroB_vals]; simp; exact ⟨rfl, rfl⟩
set_option maxRecDepth 100000 in
set_option maxHeartbeats 8000000 in
theorem build_opX1 (W : World) : (Instr.build 74 #[(0, .int .i64 1), (1, .string ⟨#[97]⟩)]).run Try.prog W = .ok (.agg (opC opX1 none 0 0 none 0 0)) W := by
  rw [opX1_lit]
  kernel_rfl
theorem wpList_build_opX1 {w : World} {ops : Array Oper} {rest : List Oper} {o : Oper} {a : Act} {Q : Exit → Act → World → Prop} (hgd : o.guard = none) (ho : o.op = .build 74 #[(0, .const (.int .i64 1)), (1, .const (.string ⟨#[97]⟩))])
    (h : wpList Try.prog ops Q rest (a.put o.dst (.agg (opC opX1 none 0 0 none 0 0))) w) : wpList Try.prog ops Q (o :: rest) a w := by
  refine wpList_plain hgd fun K' hK' => ?_
  have hr := build_opX1 w
  unfold Oper.wp
  simp only [execOp, ho]
  simp only [Sem.run_bind, List.map_toArray, List.map_cons, List.map_nil, Act.eval, hr, Result.andThen, Sem.run_pure]
  exact hK' _ _ h
set_option maxRecDepth 100000 in
set_option maxHeartbeats 8000000 in
theorem awake13_any (w : World) :
    Calls Try.prog 52 #[] w fun e w' => e = .returned (.bool true) ∧ Below w.heap.size w w' := by
  have hx : Below w.heap.size w (w.alloc (.cells #[.slice none 0 0] 36)) := (Below.refl _ w).alloc (Nat.le_refl _) _
  have cP := oput_any w.heap.size [] opX1 rfl none 0 0 rfl (by decide) none 0 0 rfl (by decide) (by simp) w _ (Nat.le_refl _) hx (.inl rfl) (.inl rfl) (Wrt.new w)
  rw [opX1_E, if_pos rfl, List.nil_append, opX1_B] at cP
  have cS : ∀ W, Wrt w.heap.size [1, 1, 97] W → Calls Try.prog 32 #[.pointer (some ⟨w.heap.size, 0, none⟩)] W fun o w' => o = .returned (.string ⟨#[1, 1, 97]⟩) ∧ w' = W := fun W h => (pkWString_any _ _ W h).mono fun _ _ ⟨a, b⟩ => ⟨a, b.symm⟩
  go_enter Try.func52, Try.ntmps52
  go_wp2_with (first
    | (with_reducible refine wpList_build_opX1 rfl rfl ?_)
    | (go_at_call 53; (with_reducible refine cP.mono ?_); rintro o1 w1 ⟨rfl, hW, hb, _⟩)
    | (go_at_call 32; (with_reducible refine (cS _ hW).mono ?_); rintro o2 w2 ⟨rfl, rfl⟩))
  go_ret
  exact ⟨rfl, hx.trans hb⟩
section
open Go.ChangeShapes Go.WideShapes Go.ChangeAt
variable {H : Type} {enc : TypeId × Value → H} {w : World} {r : Reach} {base b0 : Nat} {sp : Nat → Bool} {hd : Bool}
/-- Texts that came in. -/
def LnO (w : World) (A : Option Addr) (n : Nat) (ls : List (List UInt8)) : Prop := ls.length = n ∧ n ≤ 9223372036854775807 ∧ Rd w A (ls.map strV)
theorem trod_lnO {fuel : Nat} {cs : List Value} {x : DataW H × List MemPlace} (h : DataW.trod enc Try.prog w base sp hd fuel 32 cs = some x) : ∃ A n c ls, cs = [.slice A n c] ∧ LnO w A n ls := by
  rcases open_strings Try.underlying32 Try.underlying9 (by kernel_rfl) h with ⟨hcs, _⟩ | ⟨a, l, c, zs, hcs, _, hl, hm, hz, _, hcell, hwz⟩
  · exact ⟨none, 0, 0, [], hcs, rfl, by decide, .inl rfl⟩
  · unfold maxLen at hm hwz
    have hlen : l ≤ zs.length := by rw [hz]; split <;> omega
    refine ⟨some a, l, c, (zs.take l).map fun s => s.data.toList, hcs, by rw [List.length_map, List.length_take]; omega, by omega, .inr ⟨a, rfl, ?_⟩⟩
    intro j u hu
    rw [List.map_map, List.getElem?_map, List.getElem?_take] at hu
    by_cases hj : j < l
    · rw [if_pos hj, List.getElem?_eq_getElem (by omega)] at hu
      have := hcell j (by omega)
      rw [List.getD_eq_getElem?_getD, List.getElem?_eq_getElem (by omega)] at this
      rw [this]
      simp at hu
      rw [← hu]; rfl
    · rw [if_neg hj] at hu; simp at hu
set_option maxRecDepth 100000 in
/-- An operation that came in. -/
theorem trod_op {fuel : Nat} {cs : List Value} {x : DataW H × List MemPlace} (h : DataW.trod enc Try.prog w base sp hd fuel 74 cs = some x) :
    ∃ (D : OpD) (A : Option Addr) (n c : Nat) (B : Option Addr) (m d : Nat), cs = (opC D A n c B m d).toList ∧ D.K.length = 32 ∧ LnO w A n D.o ∧ LnO w B m D.n ∧ D.p.length ≤ 9223372036854775807 ∧ D.t.length ≤ 9223372036854775807 := by
  obtain ⟨xs, k, _, _, hl, hxl, hx⟩ := DataW.trod_struct Try.underlying74 h
  have hc39 : Try.prog.cellsOf 74 = 39 := by kernel_rfl
  have hc1 : Try.prog.cellsOf 3 = 1 := by kernel_rfl
  have hcs : Try.prog.cellsOf 9 = 1 := by kernel_rfl
  have hcr : Try.prog.cellsOf 32 = 1 := by kernel_rfl
  have hci : Try.prog.cellsOf 24 = 32 := by kernel_rfl
  rw [hc39] at hl
  have h0 := hx 0 _ rfl
  have h1 := hx 1 _ rfl
  have h2 := hx 2 _ rfl
  have h3 := hx 3 _ rfl
  have h4 := hx 4 _ rfl
  have h5 := hx 5 _ rfl
  have h6 := hx 6 _ rfl
  have h7 := hx 7 _ rfl
  have g : ∀ i : Nat, i < 8 → ∃ y, xs[i]? = some y := fun i hi => ⟨_, List.getElem?_eq_getElem (by rw [hxl]; exact hi)⟩
  obtain ⟨y0, e0⟩ := g 0 (by decide)
  obtain ⟨y1, e1⟩ := g 1 (by decide)
  obtain ⟨y2, e2⟩ := g 2 (by decide)
  obtain ⟨y3, e3⟩ := g 3 (by decide)
  obtain ⟨y4, e4⟩ := g 4 (by decide)
  obtain ⟨y5, e5⟩ := g 5 (by decide)
  obtain ⟨y6, e6⟩ := g 6 (by decide)
  obtain ⟨y7, e7⟩ := g 7 (by decide)
  rw [e0] at h0
  rw [e1] at h1
  rw [e2] at h2
  rw [e3] at h3
  rw [e4] at h4
  rw [e5] at h5
  rw [e6] at h6
  rw [e7] at h7
  obtain ⟨k0, q0, _, _⟩ := DataW.trod_int Try.underlying3 h0
  obtain ⟨p, q1, _, w1⟩ := DataW.trod_string Try.underlying9 h1
  obtain ⟨t, q2, _, w2⟩ := DataW.trod_string Try.underlying9 h2
  obtain ⟨a, q3, _, _⟩ := DataW.trod_int Try.underlying3 h3
  obtain ⟨A, n, c, lo, q4, w4⟩ := trod_lnO h4
  obtain ⟨B, m, d, ln, q5, w5⟩ := trod_lnO h5
  obtain ⟨K, lK, q6⟩ := trod_id Try.underlying24 Try.underlying5 (by kernel_rfl) hci h6
  obtain ⟨d7, q7, _, _⟩ := DataW.trod_int Try.underlying3 h7
  have u0 : (cs.drop 0).take (Try.prog.cellsOf 3) = _ := q0
  have u1 : (cs.drop 1).take (Try.prog.cellsOf 9) = _ := q1
  have u2 : (cs.drop 2).take (Try.prog.cellsOf 9) = _ := q2
  have u3 : (cs.drop 3).take (Try.prog.cellsOf 3) = _ := q3
  have u4 : (cs.drop 4).take (Try.prog.cellsOf 32) = _ := q4
  have u5 : (cs.drop 5).take (Try.prog.cellsOf 32) = _ := q5
  have u6 : (cs.drop 6).take (Try.prog.cellsOf 24) = _ := q6
  have u7 : (cs.drop 38).take (Try.prog.cellsOf 3) = _ := q7
  rw [hc1] at u0 u3 u7
  rw [hcs] at u1 u2
  rw [hcr] at u4 u5
  rw [hci] at u6
  unfold maxLen at w1 w2
  refine ⟨⟨k0, p.data.toList, t.data.toList, a, lo, ln, K, d7⟩, A, n, c, B, m, d, ?_, lK, w4, w5, by simpa using w1, by simpa using w2⟩
  have step : ∀ (i l : Nat) (ys : List Value), (cs.drop i).take l = ys → cs.drop i = ys ++ cs.drop (i + l) := fun i l ys h => by
    rw [← h, ← List.drop_drop, List.take_append_drop]
  have r0 := step 0 1 _ u0
  have r1 := step 1 1 _ u1
  have r2 := step 2 1 _ u2
  have r3 := step 3 1 _ u3
  have r4 := step 4 1 _ u4
  have r5 := step 5 1 _ u5
  have r6 := step 6 32 _ u6
  have r7 := step 38 1 _ u7
  have r8 : cs.drop 39 = [] := List.drop_of_length_le (by omega)
  rw [List.drop_zero] at r0
  rw [r0, r1, r2, r3, r4, r5, r6, r7, r8]
  unfold opC idVals
  simp
  exact ⟨rfl, rfl⟩
set_option maxRecDepth 100000 in
theorem open_op {v : Value} {d : DataW H} {ps : List MemPlace} (hv : Value.okWide Try.prog w r b0 74 v) (h : DataW.Trod enc Try.prog w base sp hd 74 v d ps) :
    ∃ (D : OpD) (A : Option Addr) (n c : Nat) (B : Option Addr) (m d : Nat), v = .agg (opC D A n c B m d) ∧ D.K.length = 32 ∧ LnO w A n D.o ∧ LnO w B m D.n ∧ D.p.length ≤ 9223372036854775807 ∧ D.t.length ≤ 9223372036854775807 := by
  simp only [Value.okWide, Try.underlying74] at hv
  obtain ⟨cs, rfl, hsz, _⟩ := hv
  obtain ⟨fuel, hf⟩ := h
  obtain ⟨D, A, n, c, B, m, d, e, r⟩ := trod_op hf
  refine ⟨D, A, n, c, B, m, d, ?_, r⟩
  have e2 : cs.toList = (opC D A n c B m d).toList := e
  rw [show cs = opC D A n c B m d from Array.toList_inj.1 e2]
end
end Go.Proofs.Ythpdkdalfjahcaa

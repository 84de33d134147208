
/- tree: what stands in the way of a file more. -/
import Derived.Test.YtodfaakodgedbaaTr3
import Derived.Test.YtodfaakodgedbaaTd1
set_option linter.unusedSimpArgs false
set_option linter.unusedVariables false
namespace Go.Proofs.Ytodfaakodgedbaa
open Go.RowKit Go.Qc Go.Shelf
attribute [local go_sem] txt_size txt_append ib_fold txt_toL

set_option maxRecDepth 100000 in
set_option maxHeartbeats 20000000 in
theorem troom_any (A : Option Addr) (n c : Nat) (Xs : List FlV) (s : List UInt8) (w : World) (hX : RwT w A n c Xs) (bn : n ≤ 1000) (hs : SortF (Xs.map FlV.D)) (hr : ∀ X ∈ Xs, pathR X.p = true) (hp : pathR s = true) :
    Calls Try.prog 40 #[.agg #[.slice A n c], .string (txt s)] w fun e w' => e = .returned (.int .i64 (roomV (Xs.map FlV.D) s)) ∧ Below w.heap.size w w' := by
  have hba := (Below.refl w.heap.size w).alloc (Nat.le_refl _) (.cells #[.slice A n c] 27)
  have h2 := Blk.new w 27 #[.slice A n c]
  have cF := fun (s : List UInt8) W (h : Below w.heap.size w W) => tfind_any A n c Xs s W hX.ln bn (hX.rd.below h) hs
  have ls : s.length ≤ 200 := by unfold pathR at hp; simp only [Bool.and_eq_true, decide_eq_true_eq] at hp; exact hp.1
  have e47 : (⟨#[47]⟩ : ByteArray) = txt [47] := rfl
  have cA0 := fun W => pabove_any s (by omega) W
  rw [if_pos hp] at cA0
  have HX := hid hX
  have HS := hid hs
  have HR := hid hr
  have HP := hid hp
  clear hs hr hX hp
  generalize hRV : roomV (Xs.map FlV.D) s = RV
  have HRV := hid hRV
  clear hRV
  go_enter Try.func40, Try.ntmps40
  go_upto_region 1 with (fail)
  generalize w.alloc (.cells #[.slice A n c] 27) = W0 at *
  have hb := Below.refl W0.heap.size W0
  go_upto_region 2 with (first
    | (with_reducible refine wpList_load_tree (by with_unfolding_all rfl) _ rfl _ rfl (h2.below hb) ?_)
    | (go_at_call 18; (with_reducible refine (cF s _ (hba.trans (hb.mono hba.size))).mono ?_); rintro e1 w1 ⟨p1, rfl, hp1, hb1⟩; replace hp1 := hid hp1; replace hb := hb.trans (hb1.mono hb.size); clear hb1))
  cases h7 : hitB Xs s p1 with
  | true =>
    have H7 := hid h7
    clear h7
    go_wp2
    go_ret
    exact ⟨by rw [← HRV.out, room_7 ((hit_iff HS.out hp1.out).1 H7.out)]; rfl, hba.trans (hb.mono hba.size)⟩
  | false =>
    have H7 : Hid (¬ ∃ X ∈ Xs, X.p = s) := hid (fun h => by have := (hit_iff HS.out hp1.out).2 h; rw [h7] at this; cases this)
    have HI0 := hid (AbvI.start (Xs := Xs) HP.out)
    clear h7
    go_wp2_with (go_at_call 60; (with_reducible refine (cA0 _).mono ?_); rintro e2 w2 ⟨rfl, hb1⟩; replace hb := hb.trans (hb1.mono hb.size); clear hb1)
    go_loopw [7] (fun v wr => ∃ a : List UInt8, v = .string (txt a) ∧ Hid (AbvI Xs s a) ∧ Below W0.heap.size W0 wr) (fun v _ => match v with | .string t => t.size | _ => 0)
    case atStart => exact ⟨abvS s, rfl, HI0, hb⟩
    case round =>
      clear hb HI0
      obtain ⟨a, rfl, HI, hb⟩ := hrel
      by_cases ha : a = []
      · subst ha
        have b1 : (txt ([] : List UInt8) == (⟨#[]⟩ : ByteArray)) = true := by decide
        have hno : ∀ X ∈ Xs, covB X.p s = false := fun X hX => by
          cases hq : covB X.p s with
          | false => rfl
          | true =>
            have h0 := path_ne (HR.out X hX)
            have := HI.out.n X hX ((cov_pre h0 (fun e => H7.out ⟨X, hX, e⟩)).1 hq)
            exact absurd (List.eq_nil_of_length_eq_zero (Nat.le_zero.1 this)) h0
        have HNO := hid hno
        clear hno HI
        go_upto_region 11 with (first
          | (with_reducible refine wpList_load_tree (by with_unfolding_all rfl) _ rfl _ rfl (h2.below hb) ?_)
          | (go_at_call 18; (with_reducible refine (cF (s ++ [47]) _ (hba.trans (hb.mono hba.size))).mono ?_); rintro e1 w1 ⟨p2, rfl, hp2, hb1⟩; replace hp2 := hid hp2; replace hb := hb.trans (hb1.mono hb.size); clear hb1))
        have HRE := hid (room_end HS.out HR.out HP.out H7.out HNO.out hp2.out)
        have ht := h2.below hb
        have x4 := fun W (h : Below W0.heap.size W0 W) => (h2.below h).cell_ (i := 0) rfl
        have cL := fun W => tlen_any A n c W
        by_cases hlt : p2 < n
        · have b2 : (p2 : Int) < n := by omega
          obtain ⟨X, hx⟩ : ∃ X, Xs[p2]? = some X := ⟨_, List.getElem?_eq_getElem (by rw [HX.out.ln]; exact hlt)⟩
          obtain ⟨g, q, -, h9, -, hix⟩ := (((HX.out.below hba).below hb).rd).pickT c HX.out.ln hx
          obtain ⟨z, hz⟩ : ∃ z, covR s X.p = z := ⟨_, rfl⟩
          have cC := fun W => covers_any s X.p W
          rw [hz] at cC
          have HZ : Hid (nxtT Xs s p2 = z) := hid (by unfold nxtT; rw [hx]; exact hz)
          clear hx hz
          cases z with
          | true =>
            go_wp2_with (first
            | (with_reducible refine wpList_load_tree (by with_unfolding_all rfl) _ rfl _ rfl (h2.below hb) ?_)
            | (go_at_call 11; (with_reducible refine (cL _).mono ?_); rintro e3 w3 ⟨rfl, hb3⟩; replace hb := hb.trans (hb3.mono hb.size); replace h9 := tf_cell hb3 h9; clear hb3)
            | (go_at_call 61; (with_reducible refine (cC _).mono ?_); rintro e4 w4 ⟨rfl, hb4⟩; replace hb := hb.trans (hb4.mono hb.size); clear hb4))
            go_ret
            exact ⟨by rw [← HRV.out, HRE.out, HZ.out]; rfl, hba.trans (hb.mono hba.size)⟩
          | false =>
            go_wp2_with (first
            | (with_reducible refine wpList_load_tree (by with_unfolding_all rfl) _ rfl _ rfl (h2.below hb) ?_)
            | (go_at_call 11; (with_reducible refine (cL _).mono ?_); rintro e3 w3 ⟨rfl, hb3⟩; replace hb := hb.trans (hb3.mono hb.size); replace h9 := tf_cell hb3 h9; clear hb3)
            | (go_at_call 61; (with_reducible refine (cC _).mono ?_); rintro e4 w4 ⟨rfl, hb4⟩; replace hb := hb.trans (hb4.mono hb.size); clear hb4))
            go_ret
            exact ⟨by rw [← HRV.out, HRE.out, HZ.out]; rfl, hba.trans (hb.mono hba.size)⟩
        · have b2 : ¬ (p2 : Int) < n := by omega
          have HZ : Hid (nxtT Xs s p2 = false) := hid (by unfold nxtT; rw [List.getElem?_eq_none (by rw [HX.out.ln]; omega)])
          go_wp2_with (first
            | (with_reducible refine wpList_load_tree (by with_unfolding_all rfl) _ rfl _ rfl (h2.below hb) ?_)
            | (go_at_call 11; (with_reducible refine (cL _).mono ?_); rintro e3 w3 ⟨rfl, hb3⟩; replace hb := hb.trans (hb3.mono hb.size); clear hb3)
            | (go_at_call 61; (with_reducible refine (cC _).mono ?_); rintro e4 w4 ⟨rfl, hb4⟩; replace hb := hb.trans (hb4.mono hb.size); clear hb4))
          go_ret
          exact ⟨by rw [← HRV.out, HRE.out, HZ.out]; rfl, hba.trans (hb.mono hba.size)⟩
      · have b1 : a.isEmpty = false := by cases a with | nil => exact absurd rfl ha | cons x l => rfl
        have hpa := HI.out.pathA ha
        have la : a.length ≤ 200 := by unfold pathR at hpa; simp only [Bool.and_eq_true, decide_eq_true_eq] at hpa; exact hpa.1
        have cA := fun W => pabove_any a (by omega) W
        rw [if_pos hpa] at cA
        have HA := hid ha
        clear ha hpa
        go_upto_region 8 with (first
          | (with_reducible refine wpList_load_tree (by with_unfolding_all rfl) _ rfl _ rfl (h2.below hb) ?_)
          | (go_at_call 18; (with_reducible refine (cF a _ (hba.trans (hb.mono hba.size))).mono ?_); rintro e1 w1 ⟨p2, rfl, hp2, hb1⟩; replace hp2 := hid hp2; replace hb := hb.trans (hb1.mono hb.size); clear hb1))
        cases h8 : hitB Xs a p2 with
        | true =>
          have H8 := hid h8
          clear h8
          go_wp2
          go_ret
          exact ⟨by rw [← HRV.out, room_above H7.out HI.out HA.out ((hit_iff HS.out hp2.out).1 H8.out)]; rfl, hba.trans (hb.mono hba.size)⟩
        | false =>
          have H8 : Hid (∀ X ∈ Xs, X.p ≠ a) := hid (fun X hX e => by have := (hit_iff HS.out hp2.out).2 ⟨X, hX, e⟩; rw [h8] at this; cases this)
          clear h8
          go_wp2_with (go_at_call 60; (with_reducible refine (cA _).mono ?_); rintro e2 w2 ⟨rfl, hb1⟩; replace hb := hb.trans (hb1.mono hb.size); clear hb1)
          go_roundw
          case rel => exact ⟨abvS a, rfl, hid (HI.out.next HA.out H8.out), hb⟩
          case measure =>
            have := abv_less HA.out
            simpa [txt_size] using this
end Go.Proofs.Ytodfaakodgedbaa


/- diff: hunks of one's own, and one more of them: with. -/
import Derived.Test.YtplcfdmehnilnaaDf4
import Derived.Test.YtplcfdmehnilnaaDf1
import Derived.Test.YtplcfdmehnilnaaBw3
set_option linter.unusedSimpArgs false
set_option linter.unusedVariables false
namespace Go.Proofs.Ytplcfdmehnilnaa
open Go.RowKit Go.Qc Go.Shelf
attribute [local go_sem] txt_size txt_append ib_fold txt_toL

def hdI (h : HD) : HunkD := ((h.1 : Int), h.2.1, h.2.2)
/-- Hunks of one's own. -/
def HOwn (W : World) (base : Nat) (v : Value) (ds : List HD) : Prop := ∃ ts : List Hc, W.ownsRow base 38 3 v ds.length (ts.flatMap hcCells) ∧ HcsOwn W base ts (ds.map hdI)
theorem HOwn.below {W W' : World} {base : Nat} {v : Value} {ds : List HD} (h : HOwn W base v ds) (hb : Below W.heap.size W W') : HOwn W' base v ds := by
  obtain ⟨ts, h1, h2⟩ := h
  exact ⟨ts, own_below h1 hb, h2.step fun v n xs h => own_below h hb⟩
theorem HOwn.drewN {W : World} {base : Nat} {v : Value} {ds : List HD} (h : HOwn W base v ds) (k : Nat) : HOwn (W.drewN k) base v ds := h
theorem HOwn.none (W : World) (base : Nat) : HOwn W base (.slice none 0 0) [] := ⟨[], World.ownsRow_nil _ _ _ _, rfl, fun j t d h => by simp at h⟩
set_option maxRecDepth 100000 in
set_option maxHeartbeats 4000000 in
theorem with_any (base : Nat) (v : Value) (ds : List HD) (bds : ds.length ≤ 100000) (at' : Nat) (A : Option Addr) (n c : Nat) (D : List (List UInt8)) (hn : D.length = n) (bn : n ≤ 1000) (B : Option Addr) (m d : Nat) (E : List (List UInt8)) (hm : E.length = m) (bm : m ≤ 1000) (w : World)
    (hbs : base ≤ w.heap.size) (h : HOwn w base v ds) (hD : Rd w A (D.map strV)) (hE : Rd w B (E.map strV)) :
    Calls Try.prog 48 #[v, .int .i64 at', .slice A n c, .slice B m d] w fun e w' => ∃ v', e = .returned v' ∧ HOwn w' base v' (ds ++ flu at' D E) ∧ Below base w w' := by
  by_cases h0 : n + m = 0
  · obtain rfl : n = 0 := by omega
    obtain rfl : m = 0 := by omega
    have hf : flu at' D E = [] := by unfold flu; rw [if_pos (by omega)]
    rw [hf, List.append_nil]
    have H := hid h
    clear h hf
    go_enter Try.func48, Try.ntmps48
    go_wp2
    go_ret
    exact ⟨v, rfl, H.out, Below.refl _ _⟩
  · have hf : flu at' D E = [(at', D, E)] := by unfold flu; rw [if_neg (by omega)]
    rw [hf]
    clear hf
    obtain ⟨i0, hi, hz0, hz1, hz2⟩ := info_parts infoHunk3
    obtain ⟨ts, hown, hts⟩ := h
    obtain ⟨A0, c0, rfl⟩ := own_slice hown
    have hlen : ts.length = ds.length := by rw [hts.1, List.length_map]
    have cD := clones_any A n c D hn (by omega) w hD
    have z1 : ((n : Int) + m == 0) = false := by rw [beq_eq_false_iff_ne]; omega
    have z2 : ¬ (n : Int) + m = 0 := by omega
    have HTS := hid hts
    have HE := hid hE
    clear hts hE hD
    go_enter Try.func48, Try.ntmps48
    go_wp2_with (first
      | (go_at_call 64; (with_reducible refine cD.mono ?_); rintro e1 w1 ⟨v1, rfl, hv1, hb1⟩))
    have cE := clones_any B m d E hm (by omega) w1 (HE.out.below hb1)
    obtain ⟨A1, c1, rfl⟩ := own_slice hv1
    go_wp2_with (first
      | (go_at_call 64; (with_reducible refine cE.mono ?_); rintro e2 w2 ⟨v2, rfl, hv2, hb2⟩; obtain ⟨A2, c2, rfl⟩ := own_slice hv2; have hrow2 := own_below (own_below hown hb1) hb2; have hsz1 := hb1.size; have hsz2 := hb2.size)
      | (at_builtin; refine wpList_append_own _ rfl _ _ 25 rfl base 38 i0 (.agg #[.int .i64 0, .slice none 0 0, .slice none 0 0]) 3 56 Try.underlying25 hi hz0 hz1 hz2 rfl (by decide) _ _ _ rfl (hrow2.alloc _) ⟨_, 0, none⟩ 1 1 [.int .i64 at', .slice A1 n c1, .slice A2 m c2] rfl rfl (cell_three_new _ _ _ _ _) (by simp [Value.oneCell']) (by unfold maxLen; omega) (by omega) (by simp; omega) ?_; intro v' w3 hown' hgrow _))
    go_ret
    have kst : ∀ v n xs, w2.ownsRow base 9 1 v n xs → w3.ownsRow base 9 1 v n xs := fun v n xs h => own_apart (by decide) (h.alloc _) (hrow2.alloc _) hgrow
    have htn : HcOwn w3 base ((at' : Int), .slice A1 n c1, .slice A2 m c2) (hdI (at', D, E)) := by
      subst hn hm
      exact ⟨rfl, kst _ _ _ (own_le (own_below hv1 hb2) hbs), kst _ _ _ (own_le hv2 (Nat.le_trans hbs hsz1)), bn, bm⟩
    refine ⟨v', rfl, ⟨ts ++ [((at' : Int), .slice A1 n c1, .slice A2 m c2)], ?_, ?_⟩, ?_⟩
    · rw [List.flatMap_append, List.length_append]
      simpa [hcCells] using hown'
    · rw [List.map_append]
      exact (HTS.out.step fun v n xs h => kst _ _ _ (own_below (own_below h hb1) hb2)).snoc htn
    · have hB := ((hb1.mono hbs).trans (hb2.mono (Nat.le_trans hbs hsz1))).alloc (Nat.le_trans hbs (Nat.le_trans hsz1 hsz2)) (.cells #[.int .i64 at', .slice A1 n c1, .slice A2 m c2] 38)
      exact hB.grown hgrow (by simp; omega) (fun k hk => (hrow2.lt k hk).1)
end Go.Proofs.Ytplcfdmehnilnaa

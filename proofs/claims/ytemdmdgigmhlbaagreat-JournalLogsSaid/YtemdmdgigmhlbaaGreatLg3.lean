
/- journal: a disk's log is opened. -/
import Derived.Test.YtemdmdgigmhlbaaGreatLg2
import Derived.Test.YtemdmdgigmhlbaaGreatJs1
set_option linter.unusedSimpArgs false
set_option linter.unusedVariables false
namespace Go.Proofs.YtemdmdgigmhlbaaGreat
open Go.RowKit Go.Qc Go.Shelf
attribute [local go_sem] txt_size txt_append ib_fold

theorem list32L (K : List UInt8) (h : K.length = 32) : ∃ x0 x1 x2 x3 x4 x5 x6 x7 x8 x9 x10 x11 x12 x13 x14 x15 x16 x17 x18 x19 x20 x21 x22 x23 x24 x25 x26 x27 x28 x29 x30 x31, K = [x0, x1, x2, x3, x4, x5, x6, x7, x8, x9, x10, x11, x12, x13, x14, x15, x16, x17, x18, x19, x20, x21, x22, x23, x24, x25, x26, x27, x28, x29, x30, x31] := by
  match K, h with
  | [x0, x1, x2, x3, x4, x5, x6, x7, x8, x9, x10, x11, x12, x13, x14, x15, x16, x17, x18, x19, x20, x21, x22, x23, x24, x25, x26, x27, x28, x29, x30, x31], _ => exact ⟨_, _, _, _, _, _, _, _, _, _, _, _, _, _, _, _, _, _, _, _, _, _, _, _, _, _, _, _, _, _, _, _, rfl⟩
set_option maxRecDepth 100000 in
theorem lg_build (D e : Nat) (C : List UInt8) (hC : C.length = 32) (W : World) : (Instr.build 63 #[(0, .pointer (some ⟨D, 0, none⟩)), (1, .int .i64 (e : Int)), (2, .agg (List.map u8v C).toArray)]).run Tryz.prog W = .ok (.agg (lgC D e C)) W := by
  obtain ⟨x0, x1, x2, x3, x4, x5, x6, x7, x8, x9, x10, x11, x12, x13, x14, x15, x16, x17, x18, x19, x20, x21, x22, x23, x24, x25, x26, x27, x28, x29, x30, x31, rfl⟩ := list32L C hC
  kernel_rfl
set_option maxRecDepth 100000 in
set_option maxHeartbeats 8000000 in
theorem lopen_nil (W : World) : Calls Tryz.prog 7 #[.pointer none] W fun o w' => o = .returned (.tuple #[.pointer none, .slice none 0 0, .int .i64 1]) ∧ Below W.heap.size W w' := by
  go_enter Tryz.func7, Tryz.ntmps7
  go_wp2_with (fail)
  go_ret3
  exact ⟨rfl, Below.refl _ _⟩
set_option maxRecDepth 100000 in
set_option maxHeartbeats 8000000 in
theorem lopen_down (base D : Nat) (kv sv wv : Value) (k s : List UInt8) (ws : List WrD) (W : World) (h : DkS base D kv sv wv k s ws true W) :
    Calls Tryz.prog 7 #[.pointer (some ⟨D, 0, none⟩)] W fun o w' => o = .returned (.tuple #[.pointer none, .slice none 0 0, .int .i64 13]) ∧ Below W.heap.size W w' := by
  have cD := ddown_any _ _ _ _ _ _ _ _ _ _ h
  clear h
  go_enter Tryz.func7, Tryz.ntmps7
  go_wp2_with (go_at_call 25; (with_reducible refine cD.mono ?_); rintro e1 w1 ⟨rfl, rfl⟩)
  go_ret3
  exact ⟨rfl, Below.refl _ _⟩
/-- What Open answers. -/
def OpenQ (base D : Nat) (s : List UInt8) (nw : Nat) (W : World) (o : Ending) (w' : World) : Prop :=
  ∃ gL A c, o = .returned (.tuple #[.pointer (some ⟨gL, 0, none⟩), .slice A (scJ s).1.length c, .int .i64 0]) ∧ FjRd w' A (scJ s).1 ∧ Blk w' gL 63 (lgC D (scJ s).2.1 (scJ s).2.2) ∧ DJ base D (s.take (scJ s).2.1) nw w' ∧ BlD base W w' ∧ W.heap.size ≤ gL
set_option maxRecDepth 100000 in
set_option maxHeartbeats 8000000 in
theorem lopen_any (base D : Nat) (s : List UInt8) (nw : Nat) (hs : s.length ≤ 5000) (hn : nw ≤ 1000) (W : World) (h : DJ base D s nw W) :
    Calls Tryz.prog 7 #[.pointer (some ⟨D, 0, none⟩)] W (OpenQ base D s nw W) := by
  obtain ⟨_, _, h3, _, _, h6⟩ := scJ_bytes s
  have h7 := stJ_chain (scJ s).1
  rw [← h6] at h7
  have cD := fun V hV => jdown_any (base := base) (D := D) (s := s) (nw := nw) V hV
  have cA := fun V hV => jdall_any (base := base) (D := D) (s := s) (nw := nw) V hV
  have cL := fun V hV => jlen_any (base := base) (D := D) (s := s) (nw := nw) V hV
  have cS := fun V => scan_any s hs V
  have cC := fun V hV => jcut_any (base := base) (D := D) (s := s) (nw := nw) (scJ s).2.1 h3 (by omega) hn V hV
  have hall : ¬ (scJ s).2.1 < s.length → s.take (scJ s).2.1 = s := fun hge => List.take_of_length_le (by omega)
  unfold OpenQ
  generalize (scJ s).1 = L at *
  generalize (scJ s).2.1 = E at *
  generalize (scJ s).2.2 = C at *
  clear h6
  have hu := Tryz.underlying42
  have hI2 : (Tryz.prog.info? 42).map (·.size) = some (idVals C).size := by rw [idVals_size, h7]; exact sizeId
  have hL2 : (Tryz.prog.info? 42).map (·.size) = some (C.map u8v).length := by rw [List.length_map, h7]; exact sizeId
  have h1d := idVals_one C
  have hcs : (idVals C).size = 32 := by rw [idVals_size, h7]
  have hN3 : ∀ (V : World) (cs : Array Value), Blk (V.alloc (.cells cs 42)) V.heap.size 42 cs := fun V cs => Blk.new _ _ _
  have bL := fun V => lg_build D E C h7 V
  have hlen : ∀ (V : World) (cs : Array Value), (V.alloc (.cells cs 63)).heap.size = V.heap.size + 1 := fun V cs => by simp
  by_cases hlt : E < s.length
  · have z1 : (E : Int) < (s.length : Int) := by omega
    clear hall hlt h3
    go_enter Tryz.func7, Tryz.ntmps7
    go_wp2_with (first
      | (go_at_call 25; (with_reducible refine (cD _ h).mono ?_); rintro e1 w1 ⟨rfl, rfl⟩)
      | (go_at_call 13; (with_reducible refine (cA _ h).mono ?_); rintro e2 w2 ⟨rfl, rfl⟩)
      | (go_at_call 21; (with_reducible refine (cS _).mono ?_); rintro e3 w3 ⟨v3, rfl, hO3, hb3⟩)
      | (with_reducible refine wpList_store_blk rfl 42 _ _ rfl w3.heap.size _ (idVals C) 42 (hN3 _ _) rfl rfl hI2 ?c4 h1d ?_))
    case c4 => rw [hcs]; rfl
    intro w4 hz4 hg4
    have hn4 := below_new hg4
    have hd4 := (h.below hb3).below hn4
    have hO4 := hO3.below hn4
    have hbb := h.bs
    have hB4 : BlD base W w4 := (BlD.ofB hb3 h.bs).bel hn4 (Nat.le_trans h.bs hb3.size)
    clear hO3 hg4 hn4 hb3
    go_wp2_with (first
      | (go_at_call 17; (with_reducible refine (cL _ hd4).mono ?_); rintro e5 w5 ⟨rfl, rfl⟩)
      | (go_at_call 26; (with_reducible refine (cC _ hd4).mono ?_); rintro e6 w6 ⟨rfl, hd6, hb6⟩; have hz6 := hb6.2.blk hz4 (by decide); have r6 := range_blk hz6)
      | (with_reducible refine wpList_load_if (by with_unfolding_all rfl) 42 _ rfl _ _ rfl (C.map u8v) _ r6 hu rfl hL2 ?_)
      | (with_reducible refine wpList_build_byM rfl _ _ rfl _ _ bL (by with_unfolding_all rfl) ?_))
    have hal := (Below.refl w6.heap.size w6).alloc (Nat.le_refl _) (.cells (lgC D E C) 63)
    have hO6 : FjOw w6 W.heap.size v3 L.length L := hb6.2.own hO4 (by decide)
    obtain ⟨A6, c6, rfl, _, _, _, hrd⟩ := hO6.rd (FmD.all_ok _)
    go_ret3
    exact ⟨_, A6, c6, rfl, hrd.below hal, Blk.new _ _ _, hd6.below hal, (hB4.tr hb6).bel hal hd6.bs, Nat.le_trans hB4.1.size (by have := hb6.1.size; omega)⟩
  · have hs2 := hall hlt
    have z1 : ¬ (E : Int) < (s.length : Int) := by omega
    rw [hs2]
    clear hall hlt h3 hs2 cC
    go_enter Tryz.func7, Tryz.ntmps7
    go_wp2_with (first
      | (go_at_call 25; (with_reducible refine (cD _ h).mono ?_); rintro e1 w1 ⟨rfl, rfl⟩)
      | (go_at_call 13; (with_reducible refine (cA _ h).mono ?_); rintro e2 w2 ⟨rfl, rfl⟩)
      | (go_at_call 21; (with_reducible refine (cS _).mono ?_); rintro e3 w3 ⟨v3, rfl, hO3, hb3⟩)
      | (with_reducible refine wpList_store_blk rfl 42 _ _ rfl w3.heap.size _ (idVals C) 42 (hN3 _ _) rfl rfl hI2 ?c4 h1d ?_))
    case c4 => rw [hcs]; rfl
    intro w4 hz4 hg4
    have hn4 := below_new hg4
    have hd4 := (h.below hb3).below hn4
    have hO4 := hO3.below hn4
    have hB4 : BlD base W w4 := (BlD.ofB hb3 h.bs).bel hn4 (Nat.le_trans h.bs hb3.size)
    have r4 := range_blk hz4
    clear hO3 hg4 hn4 hb3
    go_wp2_with (first
      | (go_at_call 17; (with_reducible refine (cL _ hd4).mono ?_); rintro e5 w5 ⟨rfl, rfl⟩)
      | (with_reducible refine wpList_load_if (by with_unfolding_all rfl) 42 _ rfl _ _ rfl (C.map u8v) _ r4 hu rfl hL2 ?_)
      | (with_reducible refine wpList_build_byM rfl _ _ rfl _ _ bL (by with_unfolding_all rfl) ?_))
    have hal := (Below.refl w4.heap.size w4).alloc (Nat.le_refl _) (.cells (lgC D E C) 63)
    obtain ⟨A6, c6, rfl, _, _, _, hrd⟩ := hO4.rd (FmD.all_ok _)
    go_ret3
    exact ⟨_, A6, c6, rfl, hrd.below hal, Blk.new _ _ _, hd4.below hal, hB4.bel hal hd4.bs, hB4.1.size⟩
end Go.Proofs.YtemdmdgigmhlbaaGreat

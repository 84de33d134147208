
/- pack: a text that is written, what was written; a number that may not be. -/
import Derived.Test.YtjofobfflnnjhaaPk3
import Derived.Lib.AppendStr
import Derived.Lib.Builder
namespace Go.Proofs.Ytjofobfflnnjhaa
open Go.RowKit Go.Qc
attribute [local go_sem] txt_size txt_append ib_fold

theorem strCells_txt (l : List UInt8) : Lib.strCells (txt l) = l.map u8v := by simp [Lib.strCells, txt]; intro a _; rfl
set_option maxRecDepth 100000 in
set_option maxHeartbeats 4000000 in
theorem pkWText_any (b : Nat) (l t : List UInt8) (ht : t.length ≤ 100000000) (hl : l.length ≤ 100000000) (w : World) (h : Wrt b l w) :
    Calls Try.prog 30 #[.pointer (some ⟨b, 0, none⟩), .string (txt t)] w fun o w' => o = .returned (.tuple #[]) ∧ Wrt b (l ++ (numE t.length ++ t)) w' ∧ Below b w w' := by
  obtain ⟨i0, hi, hz0, hz1, hz2⟩ := info_parts infoByte
  have hnl := numE_len 8 t.length (Nat.lt_of_le_of_lt ht (by decide))
  have cN := fun W h => pkWNum_any b l t.length (Nat.le_trans ht (by decide)) (by omega) W h
  obtain ⟨L2, hL2⟩ : ∃ L2, L2 = l ++ numE t.length := ⟨_, rfl⟩
  have hll : L2.length ≤ 100000009 := by rw [hL2, List.length_append]; omega
  rw [← hL2] at cN
  have HL2 := hid hL2
  clear hL2 hnl
  have hbw := Nat.le_of_lt h.lt
  go_enter Try.func30, Try.ntmps30
  go_wp2_with (first
    | (go_at_call 29; (with_reducible refine (cN _ h).mono ?_); rintro o1 w1 ⟨rfl, hW, hB⟩; obtain ⟨v, hbk, hown, hne⟩ := hW; have hlt := hbk.lt; have c0 : w1.cell? ⟨b, 0, none⟩ = some v := hbk.cell_ rfl)
    | (at_builtin; refine Lib.wpList_append_own_string _ rfl _ _ 39 9 rfl b 5 i0 Try.underlying39 Try.underlying9 hi hz0 hz1 hz2 _ _ _ rfl hown (txt t) rfl ?c2 ?c3 ?c4 ?_))
  case c2 => rw [txt_size]; unfold maxLen; omega
  case c3 => rw [txt_size]; omega
  case c4 => omega
  intro v8 w8 hv8 hg8 _
  rw [strCells_txt] at hv8
  (try rw [txt_size] at hv8)
  rw [← List.length_append, ← List.map_append] at hv8
  have hb8 : Below b w1 w8 := (Below.refl b w1).grown hg8 (Nat.le_of_lt hlt) (fun k hk => (hown.lt k hk).1)
  have hbk8 : Blk w8 b 41 #[v] := (hg8.block b hlt (fun e => hne e.symm)).trans hbk
  have hne8 : v8.ownBlock ≠ some b := Lib.ownBlock_ne hv8 hbk8 (by decide)
  have f0 := hbk8.frozen 0
  have d0 : w8.cell? ⟨b, 0, none⟩ = some v := hbk8.cell_ rfl
  have hsl : ∃ ao n' cap, v8 = .slice ao n' cap := by
    rcases hv8.2 with ⟨hv, _⟩ | ⟨g, cap, cur, hv, _⟩
    · exact ⟨_, _, _, hv⟩
    · exact ⟨_, _, _, hv⟩
  have hset : Blk (w8.setCell ⟨b, 0, none⟩ v8) b 41 #[v8] := hbk8.set 0 v8
  have hv9 := hv8.kept (gb_set (gb_refl w8 (some b)) 0 v8) (.inr hne8)
  clear hg8 hown hbk
  obtain ⟨ao, n', cap, rfl⟩ := hsl
  go_wp2
  go_end0
  exact ⟨rfl, ⟨_, hset, (by rw [← List.append_assoc, ← HL2.out]; exact hv9), hne8⟩, (hB.trans hb8).setCell (p := ⟨b, 0, none⟩) (Nat.le_refl _) _⟩
set_option maxHeartbeats 4000000 in
theorem pkWString_any (b : Nat) (l : List UInt8) (w : World) (h : Wrt b l w) :
    Calls Try.prog 41 #[.pointer (some ⟨b, 0, none⟩)] w fun o w' => o = .returned (.string (txt l)) ∧ w = w' := by
  obtain ⟨v, hbk, hown, hne⟩ := h
  have c0 : w.cell? ⟨b, 0, none⟩ = some v := hbk.cell_ rfl
  obtain ⟨hl2, A2, c2, rfl, hrd2⟩ := Rd.own hown
  have hconv := run_txt (P := Try.prog) w 39 9 5 A2 l.length c2 l Try.underlying39 Try.underlying5 Try.underlying9 rfl hrd2
  clear hown hbk hne
  go_enter Try.func41, Try.ntmps41
  go_wp2
  go_ret
  exact ⟨rfl, rfl⟩
end Go.Proofs.Ytjofobfflnnjhaa

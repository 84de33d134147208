
/- disk: slices.Clone at bytes and at writes. -/
import Derived.Test.YtkbokffonnjjiaaDk3
set_option linter.unusedSimpArgs false
set_option linter.unusedVariables false
namespace Go.Proofs.Ytkbokffonnjjiaa
open Go.RowKit Go.Qc Go.Shelf
attribute [local go_sem] txt_size txt_append ib_fold
theorem map_one (l : List UInt8) : ∀ u ∈ l.map u8v, u.oneCell' = true := fun u hu => by
  obtain ⟨b, _, rfl⟩ := List.mem_map.1 hu
  rfl
set_option maxRecDepth 100000 in
set_option maxHeartbeats 4000000 in
theorem cloneB_any (base : Nat) (v : Value) (l : List UInt8) (hl : l.length ≤ 1000000000) (W : World) (h : ByOw W base v l) :
    Calls Try.prog 76 #[v] W fun e w' => ∃ v', e = .returned v' ∧ ByOw w' W.heap.size v' l ∧ Below W.heap.size W w' := by
  obtain ⟨j0, hj, hjz, hjs, hjb⟩ := info_parts infoByte
  have qN : ∀ (W : World) (a : Option Addr) (n c n' c' : Nat), (binOp .eql 107 (.slice a n c) (.slice none n' c')).run Try.prog W = .ok (.bool a.isNone) W := fun W a n c n' c' => Lib.run_eql_slice_nil W _ _ a n c n' c' Try.underlying107
  have hlen : (l.map u8v).length = l.length * 1 := h.1
  have hcell := fun g (hg : v.ownBlock = some g) => World.ownsRow.cells h hg
  rcases h.2 with ⟨rfl, h0⟩ | ⟨g, c, cur, rfl, _⟩
  · obtain rfl : l = [] := List.eq_nil_of_length_eq_zero h0
    go_enter Try.func76, Try.ntmps76
    go_wp2
    go_ret
    exact ⟨_, rfl, ⟨rfl, .inl ⟨rfl, rfl⟩⟩, Below.refl _ _⟩
  · have hc := hcell g rfl
    have h1 : ∀ u ∈ l.map u8v, u.oneCell' = true := map_one l
    clear h hcell
    go_enter Try.func76, Try.ntmps76
    go_wp2_with (at_builtin; refine wpList_append_own _ rfl _ _ 107 rfl W.heap.size 5 j0 (.int .u8 0) 1 1 Try.underlying107 hj hjz hjs hjb rfl (by decide) _ _ _ rfl (World.ownsRow_made W #[] 0 (Nat.le_refl _) (by decide) rfl) ⟨g, 0, none⟩ l.length c (l.map u8v) rfl ?l1 ?l6 h1 ?l2 ?l3 ?l4 ?_)
    case l1 => exact hlen
    case l6 => intro j u hju; exact Lib.cell?_alloc_some _ (hc j u hju)
    case l2 => unfold maxLen; omega
    case l3 => omega
    case l4 => simp
    intro v' w1 hown hgrow _
    go_wp2
    go_ret
    exact ⟨v', rfl, by (first | unfold ByOw | unfold WrOw); simpa using hown, ((Below.refl _ W).alloc (Nat.le_refl _) _).grown hgrow (by simp) (by intro k hk; simp [Value.ownBlock] at hk; omega)⟩
set_option maxRecDepth 100000 in
set_option maxHeartbeats 4000000 in
theorem cloneW_any (base : Nat) (v : Value) (n : Nat) (l : List WrD) (hn : n ≤ 1000) (W : World) (h : WrOw W base v n l) :
    Calls Try.prog 77 #[v] W fun e w' => ∃ v', e = .returned v' ∧ WrOw w' W.heap.size v' n l ∧ Below W.heap.size W w' := by
  obtain ⟨j0, Z, hj, hjz, hjs, hZ, hjb⟩ := Wr_info4
  have qN : ∀ (W : World) (a : Option Addr) (n c n' c' : Nat), (binOp .eql 108 (.slice a n c) (.slice none n' c')).run Try.prog W = .ok (.bool a.isNone) W := fun W a n c n' c' => Lib.run_eql_slice_nil W _ _ a n c n' c' Try.underlying108
  have hlen : (wrsV l).length = n * 2 := h.1
  have hcell := fun g (hg : v.ownBlock = some g) => World.ownsRow.cells h hg
  rcases h.2 with ⟨rfl, h0⟩ | ⟨g, c, cur, rfl, _⟩
  · subst h0
    obtain rfl : l = [] := by
      have := wrsV_length l (WrD.all_ok l)
      rw [hlen] at this
      exact List.eq_nil_of_length_eq_zero (by omega)
    go_enter Try.func77, Try.ntmps77
    go_wp2
    go_ret
    exact ⟨_, rfl, ⟨rfl, .inl ⟨rfl, rfl⟩⟩, Below.refl _ _⟩
  · have hc := hcell g rfl
    have h1 : ∀ u ∈ wrsV l, u.oneCell' = true := wrsV_one l
    clear h hcell
    go_enter Try.func77, Try.ntmps77
    go_wp2_with (at_builtin; refine wpList_append_own _ rfl _ _ 108 rfl W.heap.size 114 j0 (.agg Z) 2 j0.bytes Try.underlying108 hj hjz hjs rfl hZ (by decide) _ _ _ rfl (World.ownsRow_made W #[] 0 (Nat.le_refl _) (by decide) rfl) ⟨g, 0, none⟩ n c (wrsV l) rfl ?l1 ?l6 h1 ?l2 ?l3 ?l4 ?_)
    case l1 => exact hlen
    case l6 => intro j u hju; exact Lib.cell?_alloc_some _ (hc j u hju)
    case l2 => unfold maxLen; omega
    case l3 => exact Nat.le_trans (Nat.mul_le_mul (show 0 + n ≤ 1000 by omega) hjb) (by decide)
    case l4 => simp
    intro v' w1 hown hgrow _
    go_wp2
    go_ret
    exact ⟨v', rfl, by (first | unfold ByOw | unfold WrOw); simpa using hown, ((Below.refl _ W).alloc (Nat.le_refl _) _).grown hgrow (by simp) (by intro k hk; simp [Value.ownBlock] at hk; omega)⟩
end Go.Proofs.Ytkbokffonnjjiaa


/- hunk: all hunks the other way, from the last one on: Back. -/
import Derived.Test.YtplcfdmehnilnaaBw1
import Derived.Test.YtplcfdmehnilnaaHunkApplies
import Derived.Test.YtplcfdmehnilnaaKit6
import Derived.OrdersIn
import Derived.TacticsIn
import Derived.Tactics
set_option linter.unusedSimpArgs false
set_option linter.unusedVariables false
namespace Go.Proofs.Ytplcfdmehnilnaa
open Go.RowKit Go.Qc Go.Shelf
attribute [local go_sem] txt_size txt_append ib_fold txt_toL
attribute [local go_sem] Oper.semAt_some

/-- Two owned rows of different types lie apart. -/
theorem own_apart {W W' : World} {b1 b2 n m s1 s2 : Nat} {e1 e2 : TypeId} {v u : Value} {xs ys : List Value} (hne : e1 ≠ e2) (h : W.ownsRow b1 e1 s1 v n xs) (hw : W.ownsRow b2 e2 s2 u m ys) (hg : W.grownBy W' u.ownBlock) : W'.ownsRow b1 e1 s1 v n xs := by
  refine h.kept hg ?_
  rcases h.2 with ⟨rfl, _⟩ | ⟨g, cap, cur, rfl, _, hb, _⟩
  · exact .inl rfl
  · right
    rcases hw.2 with ⟨rfl, _⟩ | ⟨g2, cap2, cur2, rfl, _, hb2, _⟩
    · simp [Value.ownBlock]
    · simp only [Value.ownBlock]
      intro e
      have e := Option.some.inj e
      subst e
      rw [hb] at hb2
      injection hb2 with hb2
      injection hb2 with _ h3 _
      exact hne h3
theorem own_slice {W : World} {base n : Nat} {e : TypeId} {v : Value} {xs : List Value} {size : Nat} (h : W.ownsRow base e size v n xs) : ∃ A c, v = .slice A n c := by
  rcases h.2 with ⟨rfl, h0⟩ | ⟨g, cap, cur, rfl, _⟩
  · subst h0; exact ⟨_, _, rfl⟩
  · exact ⟨_, _, rfl⟩
theorem cell_three_new (W : World) (a b c : Value) (t : TypeId) : ∀ (j : Nat) (u : Value), [a, b, c][j]? = some u → (W.alloc (.cells #[a, b, c] t)).cell? ((⟨W.heap.size, 0, none⟩ : Addr).add j) = some u := by
  intro j u hu
  have hk := Blk.new W t #[a, b, c]
  match j, hu with
  | 0, hu => cases hu; exact hk.cell_ (i := 0) rfl
  | 1, hu => cases hu; exact hk.cell_ (i := 1) rfl
  | 2, hu => cases hu; exact hk.cell_ (i := 2) rfl
  | j + 3, hu => simp at hu
/-- A hunk's cells, whose rows are owned. -/
def HcOwn (W : World) (base : Nat) (t : Hc) (d : HunkD) : Prop := t.1 = d.1 ∧ W.ownsRow base 9 1 t.2.1 d.2.1.length (d.2.1.map strV) ∧ W.ownsRow base 9 1 t.2.2 d.2.2.length (d.2.2.map strV) ∧ d.2.1.length ≤ 1000 ∧ d.2.2.length ≤ 1000
def hcCells (t : Hc) : List Value := [.int .i64 t.1, t.2.1, t.2.2]
/-- Hunks whose rows are owned. -/
def HcsOwn (W : World) (base : Nat) (ts : List Hc) (ds : List HunkD) : Prop := ts.length = ds.length ∧ ∀ (j : Nat) (t : Hc) (d : HunkD), ts[j]? = some t → ds[j]? = some d → HcOwn W base t d
theorem HcsOwn.step {W W' : World} {base : Nat} {ts : List Hc} {ds : List HunkD} (h : HcsOwn W base ts ds) (k : ∀ v n xs, W.ownsRow base 9 1 v n xs → W'.ownsRow base 9 1 v n xs) : HcsOwn W' base ts ds :=
  ⟨h.1, fun j t d h1 h2 => by obtain ⟨a, b, c, e, f⟩ := h.2 j t d h1 h2; exact ⟨a, k _ _ _ b, k _ _ _ c, e, f⟩⟩
theorem HcsOwn.snoc {W : World} {base : Nat} {ts : List Hc} {ds : List HunkD} {t : Hc} {d : HunkD} (h : HcsOwn W base ts ds) (k : HcOwn W base t d) : HcsOwn W base (ts ++ [t]) (ds ++ [d]) := by
  refine ⟨by rw [List.length_append, List.length_append, h.1]; rfl, fun j a b h1 h2 => ?_⟩
  by_cases hj : j < ts.length
  · rw [List.getElem?_append_left hj] at h1
    rw [List.getElem?_append_left (by rw [← h.1]; exact hj)] at h2
    exact h.2 j a b h1 h2
  · rw [List.getElem?_append_right (by omega)] at h1
    rw [List.getElem?_append_right (by rw [← h.1]; omega), ← h.1] at h2
    cases hk : j - ts.length with
    | zero => rw [hk] at h1 h2; simp at h1 h2; subst h1 h2; exact k
    | succ i => rw [hk] at h1; simp at h1
theorem infoHunk3 : (Try.prog.info? 38).map (fun i => (i.zero, i.size, i.bytes)) = some (some (.agg #[.int .i64 0, .slice none 0 0, .slice none 0 0]), 3, 56) := by kernel_rfl
end Go.Proofs.Ytplcfdmehnilnaa

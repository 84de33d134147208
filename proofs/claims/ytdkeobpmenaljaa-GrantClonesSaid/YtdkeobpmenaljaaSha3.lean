
/- The contract of mix: a block taken in. -/
import Derived.Test.YtdkeobpmenaljaaSha2
namespace Go.Proofs.Ytdkeobpmenaljaa
open Go.RowKit Go.Qc
attribute [local go_sem] iv_add iv_and iv_or iv_xor iv_not iv_bnot iv_shl iv_shr iv_inj iv_div3 iv_div10

/-- The eight words as the machine has them. -/
def S8.vals (s : S8) : Array Value := #[.int .u32 (iv s.a), .int .u32 (iv s.b), .int .u32 (iv s.c), .int .u32 (iv s.d), .int .u32 (iv s.e), .int .u32 (iv s.f), .int .u32 (iv s.g), .int .u32 (iv s.h)]
theorem S8.vals_one (s : S8) : s.vals.all (·.oneCell') = true := by simp [S8.vals, Value.oneCell']
/-- The first k words have grown. -/
def AddIn (cs : Array Value) (s t : S8) (k : Nat) : Prop := cs.size = 8 ∧ (∀ j, j < k → cs[j]? = (s.add t).vals[j]?) ∧ ∀ j, k ≤ j → cs[j]? = s.vals[j]?
theorem vals_add (s t : S8) (k : Nat) (hk : k < 8) : ∃ x y, s.vals[k]? = some (u32v x) ∧ t.vals[k]? = some (u32v y) ∧ (s.add t).vals[k]? = some (u32v (x + y)) := by
  match k, hk with
  | 0, _ => exact ⟨_, _, rfl, rfl, rfl⟩
  | 1, _ => exact ⟨_, _, rfl, rfl, rfl⟩
  | 2, _ => exact ⟨_, _, rfl, rfl, rfl⟩
  | 3, _ => exact ⟨_, _, rfl, rfl, rfl⟩
  | 4, _ => exact ⟨_, _, rfl, rfl, rfl⟩
  | 5, _ => exact ⟨_, _, rfl, rfl, rfl⟩
  | 6, _ => exact ⟨_, _, rfl, rfl, rfl⟩
  | 7, _ => exact ⟨_, _, rfl, rfl, rfl⟩
theorem AddIn.at_ {cs : Array Value} {s t : S8} {k : Nat} (h : AddIn cs s t k) (hk : k < 8) : ∃ x y, cs[k]? = some (u32v x) ∧ t.vals[k]? = some (u32v y) := by
  obtain ⟨x, y, hx, hy, _⟩ := vals_add s t k hk
  exact ⟨x, y, (h.2.2 k (Nat.le_refl _)).trans hx, hy⟩
theorem AddIn.eq {cs : Array Value} {s t : S8} (h : AddIn cs s t 8) : cs = (s.add t).vals := by
  apply Array.ext_getElem?
  intro i
  by_cases hi : i < 8
  · exact h.2.1 i hi
  · rw [Array.getElem?_eq_none (by rw [h.1]; omega), Array.getElem?_eq_none (by show 8 ≤ i; omega)]
end Go.Proofs.Ytdkeobpmenaljaa

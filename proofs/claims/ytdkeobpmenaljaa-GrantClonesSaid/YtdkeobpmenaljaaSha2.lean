
/- The contract of grown. -/
import Derived.Test.YtdkeobpmenaljaaShaM
import Derived.StillTailTactics
namespace Go.Proofs.Ytdkeobpmenaljaa
open Go.RowKit Go.Qc
attribute [local go_sem] iv_add iv_and iv_or iv_xor iv_not iv_shl iv_shr iv_inj iv_div3 iv_div10

def GrownIn (cs : Array Value) (m : List (BitVec 32)) (n : Nat) : Prop := cs.size = 64 ∧ ∀ (j : Nat) (u : BitVec 32), (grow m n)[j]? = some u → cs[j]? = some (u32v u)
theorem GrownIn.at_ {cs : Array Value} {m : List (BitVec 32)} {n : Nat} (h : GrownIn cs m n) (hm : m.length = 16) (j : Nat) (hj : j < 16 + n) : ∃ x, (grow m n)[j]? = some x ∧ cs[j]? = some (u32v x) := by
  have hl : j < (grow m n).length := by rw [grow_length]; omega
  exact ⟨_, List.getElem?_eq_getElem hl, h.2 j _ (List.getElem?_eq_getElem hl)⟩
theorem GrownIn.eq {cs : Array Value} {m : List (BitVec 32)} (h : GrownIn cs m 48) (hm : m.length = 16) : cs = ((grow m 48).map u32v).toArray := by
  have hl : (grow m 48).length = 64 := by rw [grow_length]; omega
  apply Array.ext_getElem?
  intro i
  by_cases hi : i < 64
  · obtain ⟨x, h1, h2⟩ := h.at_ hm i (by omega)
    rw [h2, List.getElem?_toArray, List.getElem?_map, h1]; rfl
  · rw [Array.getElem?_eq_none (by rw [h.1]; omega), Array.getElem?_eq_none (by simp [hl]; omega)]
end Go.Proofs.Ytdkeobpmenaljaa


/- The contracts of a Hash's calls. -/
import Derived.Test.YtkbokffonnjjiaaSha3
namespace Go.Proofs.Ytkbokffonnjjiaa
open Go.RowKit Go.Qc
attribute [local go_sem] txt_size txt_extract

/-- The cells of a Hash that has taken in p, and says that it has n bytes. -/
structure HPart (cs : Array Value) (p : List UInt8) (n : Nat) : Prop where
  size : cs.size = 73
  one : cs.all (·.oneCell') = true
  state : ∀ j, j < 8 → cs[j]? = (feed h0 p).vals[j]?
  tail : ∀ (j : Nat) (b : UInt8), (rest p)[j]? = some b → cs[8 + j]? = some (u8v b)
  count : cs[72]? = some (.int .i64 n)

/-- A block taken in. -/
theorem HPart.block {cs : Array Value} {p b : List UInt8} {n : Nat} {s : S8} (hz : cs.size = 73) (h1 : cs.all (·.oneCell') = true) (hc : cs[72]? = some (.int .i64 n)) (hs : s = feed h0 (p ++ b)) (hr : (p.length + b.length) % 64 = 0) :
    HPart (over cs 0 s.vals.toList) (p ++ b) n := by
  have hl : s.vals.toList.length = 8 := rfl
  have hfit : 0 + s.vals.toList.length ≤ cs.size := by rw [hl, hz]; omega
  refine ⟨by rw [over_size _ _ _ hfit]; exact hz, over_one _ _ _ h1 (fun v hv => (Array.all_eq_true_iff_forall_mem.1 s.vals_one) v (by simpa using hv)), fun j hj => ?_, fun j x hx => ?_, ?_⟩
  · rw [over_get _ _ _ hfit, if_neg (by omega), if_pos (by rw [hl]; omega), hs]; simp
  · rw [rest_full _ _ hr] at hx; simp at hx
  · rw [over_get _ _ _ hfit, if_neg (by omega), if_neg (by rw [hl]; omega)]; exact hc
end Go.Proofs.Ytkbokffonnjjiaa

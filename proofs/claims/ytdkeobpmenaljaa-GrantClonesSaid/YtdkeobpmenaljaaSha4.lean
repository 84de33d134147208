
/- The contracts of a Hash's calls. -/
import Derived.Test.YtdkeobpmenaljaaSha3
namespace Go.Proofs.Ytdkeobpmenaljaa
open Go.RowKit Go.Qc
attribute [local go_sem] txt_size txt_extract

/-- The cells of a Hash that has taken in p, and says that it has n bytes. -/
structure HPart (cs : Array Value) (p : List UInt8) (n : Nat) : Prop where
  size : cs.size = 73
  one : cs.all (·.oneCell') = true
  state : ∀ j, j < 8 → cs[j]? = (feed h0 p).vals[j]?
  tail : ∀ (j : Nat) (b : UInt8), (rest p)[j]? = some b → cs[8 + j]? = some (u8v b)
  count : cs[72]? = some (.int .i64 n)

/-- A block taken in. -/
theorem HPart.block {cs : Array Value} {p b : List UInt8} {n : Nat} {s : S8} (hz : cs.size = 73) (h1 : cs.all (·.oneCell') = true) (hc : cs[72]? = some (.int .i64 n)) (hs : s = feed h0 (p ++ b)) (hr : (p.length + b.length) % 64 = 0) :
    HPart (over cs 0 s.vals.toList) (p ++ b) n := by
  have hl : s.vals.toList.length = 8 := rfl
  have hfit : 0 + s.vals.toList.length ≤ cs.size := by rw [hl, hz]; omega
  refine ⟨by rw [over_size _ _ _ hfit]; exact hz, over_one _ _ _ h1 (fun v hv => (Array.all_eq_true_iff_forall_mem.1 s.vals_one) v (by simpa using hv)), fun j hj => ?_, fun j x hx => ?_, ?_⟩
  · rw [over_get _ _ _ hfit, if_neg (by omega), if_pos (by rw [hl]; omega), hs]; simp
  · rw [rest_full _ _ hr] at hx; simp at hx
  · rw [over_get _ _ _ hfit, if_neg (by omega), if_neg (by rw [hl]; omega)]; exact hc
/-- What a Write has taken in so far. -/
structure Mid (cs : Array Value) (l p r : List UInt8) (n : Nat) : Prop where
  part : HPart cs p n
  all : p ++ r = l
  whole : p.length % 64 = 0 ∨ r = []
theorem Mid.step {cs cs' : Array Value} {l p r : List UInt8} {n : Nat} (h : Mid cs l p r n) (hr : 64 ≤ r.length) (hc : cs' = over cs 0 (blk (feed h0 p) (unW 16 (r.take 64))).vals.toList) : Mid cs' l (p ++ r.take 64) (r.drop 64) n := by
  have hw : p.length % 64 = 0 := by
    rcases h.whole with hw | rfl
    · exact hw
    · simp at hr
  have ht : (r.take 64).length = 64 := by rw [List.length_take]; omega
  have hrest : rest p = [] := List.eq_nil_of_length_eq_zero (by rw [rest_length, hw])
  subst hc
  refine ⟨HPart.block h.part.size h.part.one h.part.count ?_ (by rw [ht]; omega), by rw [List.append_assoc, List.take_append_drop]; exact h.all, .inl (by rw [List.length_append, ht]; omega)⟩
  rw [feed_full _ _ _ (by rw [ht, hw]), hrest, List.nil_append]
end Go.Proofs.Ytdkeobpmenaljaa

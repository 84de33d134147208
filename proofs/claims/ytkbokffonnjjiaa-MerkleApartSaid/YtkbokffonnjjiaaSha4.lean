
/- The contracts of a Hash's calls. -/
import Derived.Test.YtkbokffonnjjiaaSha3
namespace Go.Proofs.Ytkbokffonnjjiaa
open Go.RowKit Go.Qc
attribute [local go_sem] txt_size txt_extract

/-- The cells of a Hash that has taken in p, and says that it has n bytes. -/
structure HPart (cs : Array Value) (p : List UInt8) (n : Nat) : Prop where
  size : cs.size = 73
  one : cs.all (·.oneCell') = true
  state : ∀ j, j < 8 → cs[j]? = (feed h0 p).vals[j]?
  tail : ∀ (j : Nat) (b : UInt8), (rest p)[j]? = some b → cs[8 + j]? = some (u8v b)
  count : cs[72]? = some (.int .i64 n)

def zeroH : Array Value := (List.replicate 8 (Value.int .u32 0) ++ List.replicate 64 (Value.int .u8 0) ++ [Value.int .i64 0]).toArray
theorem zeroH_info : (Try.prog.info? 177).map (fun i => (i.zero, i.size)) = some (some (.agg zeroH), 73) := by kernel_rfl
set_option maxRecDepth 100000 in
set_option maxHeartbeats 1000000 in
theorem new_any (w : World) :
    Calls Try.prog 104 #[] w fun e w' => ∃ cs, e = .returned (.pointer (some ⟨w.heap.size, 0, none⟩)) ∧ Blk w' w.heap.size 177 cs ∧ HPart cs [] 0 ∧ Below w.heap.size w w' := by
  go_enter Try.func104, Try.ntmps104
  have hz := (zero_of_info zeroH_info).1
  have hzs : zeroH.size = 73 := rfl
  go_wp2
  go_ret
  refine ⟨_, rfl, Blk.new _ _ _, ⟨rfl, by decide +kernel, ?_, ?_, rfl⟩, (Below.refl _ _).alloc (Nat.le_refl _) _⟩
  · intro j hj
    match j, hj with
    | 0, _ => rfl
    | 1, _ => rfl
    | 2, _ => rfl
    | 3, _ => rfl
    | 4, _ => rfl
    | 5, _ => rfl
    | 6, _ => rfl
    | 7, _ => rfl
  · intro j b h; simp [rest] at h

/-- Bytes laid behind the rest; they don't fill it. -/
theorem HPart.short {cs : Array Value} {p b : List UInt8} {n : Nat} (h : HPart cs p n) (hk : p.length % 64 + b.length < 64) : HPart (over cs (8 + p.length % 64) (b.map u8v)) (p ++ b) n := by
  have hfit : 8 + p.length % 64 + (b.map u8v).length ≤ cs.size := by rw [List.length_map, h.size]; omega
  refine ⟨by rw [over_size _ _ _ hfit]; exact h.size, over_one _ _ _ h.one (u8v_one b), fun j hj => ?_, fun j x hx => ?_, ?_⟩
  · rw [over_get _ _ _ hfit, if_pos (by omega), feed_short _ _ _ hk]; exact h.state j hj
  · rw [rest_short _ _ hk] at hx
    rw [over_get _ _ _ hfit]
    by_cases hj : j < p.length % 64
    · rw [if_pos (by omega)]
      rw [List.getElem?_append_left (by rw [rest_length]; exact hj)] at hx
      exact h.tail j x hx
    · rw [List.getElem?_append_right (by rw [rest_length]; omega), rest_length] at hx
      have hl : j - p.length % 64 < b.length := (List.getElem?_eq_some_iff.1 hx).1
      rw [if_neg (by omega), if_pos (by rw [List.length_map]; omega), List.getElem?_map, show 8 + j - (8 + p.length % 64) = j - p.length % 64 by omega, hx]; rfl
  · rw [over_get _ _ _ hfit, if_neg (by omega), if_neg (by rw [List.length_map]; omega)]; exact h.count

/-- A block taken in. -/
theorem HPart.block {cs : Array Value} {p b : List UInt8} {n : Nat} {s : S8} (hz : cs.size = 73) (h1 : cs.all (·.oneCell') = true) (hc : cs[72]? = some (.int .i64 n)) (hs : s = feed h0 (p ++ b)) (hr : (p.length + b.length) % 64 = 0) :
    HPart (over cs 0 s.vals.toList) (p ++ b) n := by
  have hl : s.vals.toList.length = 8 := rfl
  have hfit : 0 + s.vals.toList.length ≤ cs.size := by rw [hl, hz]; omega
  refine ⟨by rw [over_size _ _ _ hfit]; exact hz, over_one _ _ _ h1 (fun v hv => (Array.all_eq_true_iff_forall_mem.1 s.vals_one) v (by simpa using hv)), fun j hj => ?_, fun j x hx => ?_, ?_⟩
  · rw [over_get _ _ _ hfit, if_neg (by omega), if_pos (by rw [hl]; omega), hs]; simp
  · rw [rest_full _ _ hr] at hx; simp at hx
  · rw [over_get _ _ _ hfit, if_neg (by omega), if_neg (by rw [hl]; omega)]; exact hc
theorem HPart.counted {cs : Array Value} {p : List UInt8} {n : Nat} (h : HPart cs p n) (n' : Nat) : HPart (cs.setIfInBounds 72 (.int .i64 (n' : Int))) p n' := by
  refine ⟨by simpa using h.size, ?_, fun j hj => ?_, fun j b hb => ?_, ?_⟩
  · have := h.one
    rw [Array.all_eq_true_iff_forall_mem] at this ⊢
    intro v hv
    rcases Array.mem_or_eq_of_mem_setIfInBounds hv with hv | rfl
    · exact this v hv
    · rfl
  · rw [Array.getElem?_setIfInBounds, if_neg (by omega)]; exact h.state j hj
  · have hj : j < (rest p).length := (List.getElem?_eq_some_iff.1 hb).1
    rw [rest_length] at hj
    rw [Array.getElem?_setIfInBounds, if_neg (by omega)]; exact h.tail j b hb
  · rw [Array.getElem?_setIfInBounds, if_pos rfl, if_pos (by rw [h.size]; omega)]

/-- What a Write has taken in so far. -/
structure Mid (cs : Array Value) (l p r : List UInt8) (n : Nat) : Prop where
  part : HPart cs p n
  all : p ++ r = l
  whole : p.length % 64 = 0 ∨ r = []
theorem Mid.step {cs cs' : Array Value} {l p r : List UInt8} {n : Nat} (h : Mid cs l p r n) (hr : 64 ≤ r.length) (hc : cs' = over cs 0 (blk (feed h0 p) (unW 16 (r.take 64))).vals.toList) : Mid cs' l (p ++ r.take 64) (r.drop 64) n := by
  have hw : p.length % 64 = 0 := by
    rcases h.whole with hw | rfl
    · exact hw
    · simp at hr
  have ht : (r.take 64).length = 64 := by rw [List.length_take]; omega
  have hrest : rest p = [] := List.eq_nil_of_length_eq_zero (by rw [rest_length, hw])
  subst hc
  refine ⟨HPart.block h.part.size h.part.one h.part.count ?_ (by rw [ht]; omega), by rw [List.append_assoc, List.take_append_drop]; exact h.all, .inl (by rw [List.length_append, ht]; omega)⟩
  rw [feed_full _ _ _ (by rw [ht, hw]), hrest, List.nil_append]
theorem Mid.last {cs : Array Value} {l p r : List UInt8} {n : Nat} (h : Mid cs l p r n) (hr : r.length < 64) : HPart (over cs 8 (r.map u8v)) l n := by
  rcases h.whole with hw | rfl
  · have := h.part.short (b := r) (by omega)
    rw [hw, h.all] at this; exact this
  · rw [List.map_nil, over_nil _ _ (by rw [h.part.size]; omega)]
    have := h.all
    rw [List.append_nil] at this
    rw [← this]; exact h.part
end Go.Proofs.Ytkbokffonnjjiaa

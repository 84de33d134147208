/- The contract of grown. -/
import Derived.Test.YtapgiagpjplpdaaGreatShaM
import Derived.StillTailTactics
import Derived.Test.YtapgiagpjplpdaaGreatKit
import Derived.Deep.RegionLaw
namespace Go.Proofs.YtapgiagpjplpdaaGreat
open Go.RowKit Go.Qc
attribute [local go_sem] iv_add iv_and iv_or iv_xor iv_not iv_shl iv_shr iv_inj iv_div3 iv_div10

def GrownIn (cs : Array Value) (m : List (BitVec 32)) (n : Nat) : Prop := cs.size = 64 ∧ ∀ (j : Nat) (u : BitVec 32), (grow m n)[j]? = some u → cs[j]? = some (u32v u)
theorem GrownIn.at_ {cs : Array Value} {m : List (BitVec 32)} {n : Nat} (h : GrownIn cs m n) (hm : m.length = 16) (j : Nat) (hj : j < 16 + n) : ∃ x, (grow m n)[j]? = some x ∧ cs[j]? = some (u32v x) := by
  have hl : j < (grow m n).length := by rw [grow_length]; omega
  exact ⟨_, List.getElem?_eq_getElem hl, h.2 j _ (List.getElem?_eq_getElem hl)⟩
theorem GrownIn.eq {cs : Array Value} {m : List (BitVec 32)} (h : GrownIn cs m 48) (hm : m.length = 16) : cs = ((grow m 48).map u32v).toArray := by
  have hl : (grow m 48).length = 64 := by rw [grow_length]; omega
  apply Array.ext_getElem?
  intro i
  by_cases hi : i < 64
  · obtain ⟨x, h1, h2⟩ := h.at_ hm i (by omega)
    rw [h2, List.getElem?_toArray, List.getElem?_map, h1]; rfl
  · rw [Array.getElem?_eq_none (by rw [h.1]; omega), Array.getElem?_eq_none (by simp [hl]; omega)]
end Go.Proofs.YtapgiagpjplpdaaGreat
/- The contract of mix: a block taken in. -/
namespace Go.Proofs.YtapgiagpjplpdaaGreat
open Go.RowKit Go.Qc
attribute [local go_sem] iv_add iv_and iv_or iv_xor iv_not iv_bnot iv_shl iv_shr iv_inj iv_div3 iv_div10

/-- The eight words as the machine has them. -/
def S8.vals (s : S8) : Array Value := #[.int .u32 (iv s.a), .int .u32 (iv s.b), .int .u32 (iv s.c), .int .u32 (iv s.d), .int .u32 (iv s.e), .int .u32 (iv s.f), .int .u32 (iv s.g), .int .u32 (iv s.h)]
theorem S8.vals_one (s : S8) : s.vals.all (·.oneCell') = true := by simp [S8.vals, Value.oneCell']
/-- The first k words have grown. -/
def AddIn (cs : Array Value) (s t : S8) (k : Nat) : Prop := cs.size = 8 ∧ (∀ j, j < k → cs[j]? = (s.add t).vals[j]?) ∧ ∀ j, k ≤ j → cs[j]? = s.vals[j]?
theorem vals_add (s t : S8) (k : Nat) (hk : k < 8) : ∃ x y, s.vals[k]? = some (u32v x) ∧ t.vals[k]? = some (u32v y) ∧ (s.add t).vals[k]? = some (u32v (x + y)) := by
  match k, hk with
  | 0, _ => exact ⟨_, _, rfl, rfl, rfl⟩
  | 1, _ => exact ⟨_, _, rfl, rfl, rfl⟩
  | 2, _ => exact ⟨_, _, rfl, rfl, rfl⟩
  | 3, _ => exact ⟨_, _, rfl, rfl, rfl⟩
  | 4, _ => exact ⟨_, _, rfl, rfl, rfl⟩
  | 5, _ => exact ⟨_, _, rfl, rfl, rfl⟩
  | 6, _ => exact ⟨_, _, rfl, rfl, rfl⟩
  | 7, _ => exact ⟨_, _, rfl, rfl, rfl⟩
theorem AddIn.at_ {cs : Array Value} {s t : S8} {k : Nat} (h : AddIn cs s t k) (hk : k < 8) : ∃ x y, cs[k]? = some (u32v x) ∧ t.vals[k]? = some (u32v y) := by
  obtain ⟨x, y, hx, hy, _⟩ := vals_add s t k hk
  exact ⟨x, y, (h.2.2 k (Nat.le_refl _)).trans hx, hy⟩
theorem AddIn.eq {cs : Array Value} {s t : S8} (h : AddIn cs s t 8) : cs = (s.add t).vals := by
  apply Array.ext_getElem?
  intro i
  by_cases hi : i < 8
  · exact h.2.1 i hi
  · rw [Array.getElem?_eq_none (by rw [h.1]; omega), Array.getElem?_eq_none (by show 8 ≤ i; omega)]
end Go.Proofs.YtapgiagpjplpdaaGreat
/- The contracts of a Hash's calls. -/
namespace Go.Proofs.YtapgiagpjplpdaaGreat
open Go.RowKit Go.Qc
attribute [local go_sem] txt_size txt_extract

/-- The cells of a Hash that has taken in p, and says that it has n bytes. -/
structure HPart (cs : Array Value) (p : List UInt8) (n : Nat) : Prop where
  size : cs.size = 73
  one : cs.all (·.oneCell') = true
  state : ∀ j, j < 8 → cs[j]? = (feed h0 p).vals[j]?
  tail : ∀ (j : Nat) (b : UInt8), (rest p)[j]? = some b → cs[8 + j]? = some (u8v b)
  count : cs[72]? = some (.int .i64 n)

/-- A block taken in. -/
theorem HPart.block {cs : Array Value} {p b : List UInt8} {n : Nat} {s : S8} (hz : cs.size = 73) (h1 : cs.all (·.oneCell') = true) (hc : cs[72]? = some (.int .i64 n)) (hs : s = feed h0 (p ++ b)) (hr : (p.length + b.length) % 64 = 0) :
    HPart (over cs 0 s.vals.toList) (p ++ b) n := by
  have hl : s.vals.toList.length = 8 := rfl
  have hfit : 0 + s.vals.toList.length ≤ cs.size := by rw [hl, hz]; omega
  refine ⟨by rw [over_size _ _ _ hfit]; exact hz, over_one _ _ _ h1 (fun v hv => (Array.all_eq_true_iff_forall_mem.1 s.vals_one) v (by simpa using hv)), fun j hj => ?_, fun j x hx => ?_, ?_⟩
  · rw [over_get _ _ _ hfit, if_neg (by omega), if_pos (by rw [hl]; omega), hs]; simp
  · rw [rest_full _ _ hr] at hx; simp at hx
  · rw [over_get _ _ _ hfit, if_neg (by omega), if_neg (by rw [hl]; omega)]; exact hc
/-- What a Write has taken in so far. -/
structure Mid (cs : Array Value) (l p r : List UInt8) (n : Nat) : Prop where
  part : HPart cs p n
  all : p ++ r = l
  whole : p.length % 64 = 0 ∨ r = []
theorem Mid.step {cs cs' : Array Value} {l p r : List UInt8} {n : Nat} (h : Mid cs l p r n) (hr : 64 ≤ r.length) (hc : cs' = over cs 0 (blk (feed h0 p) (unW 16 (r.take 64))).vals.toList) : Mid cs' l (p ++ r.take 64) (r.drop 64) n := by
  have hw : p.length % 64 = 0 := by
    rcases h.whole with hw | rfl
    · exact hw
    · simp at hr
  have ht : (r.take 64).length = 64 := by rw [List.length_take]; omega
  have hrest : rest p = [] := List.eq_nil_of_length_eq_zero (by rw [rest_length, hw])
  subst hc
  refine ⟨HPart.block h.part.size h.part.one h.part.count ?_ (by rw [ht]; omega), by rw [List.append_assoc, List.take_append_drop]; exact h.all, .inl (by rw [List.length_append, ht]; omega)⟩
  rw [feed_full _ _ _ (by rw [ht, hw]), hrest, List.nil_append]
end Go.Proofs.YtapgiagpjplpdaaGreat
/- The contract of a Hash's Write. -/
namespace Go.Proofs.YtapgiagpjplpdaaGreat
open Go.RowKit Go.Qc
attribute [local go_sem] txt_size txt_extract

theorem HPart.cells {w : World} {g : Nat} {t : TypeId} {cs : Array Value} {p : List UInt8} {n : Nat} (hb : Blk w g t cs) (h : HPart cs p n) {st : S8} (hs : feed h0 p = st) :
    w.cell? ⟨g, 0, none⟩ = some (.int .u32 (iv st.a)) ∧ w.cell? ⟨g, 1, none⟩ = some (.int .u32 (iv st.b)) ∧ w.cell? ⟨g, 2, none⟩ = some (.int .u32 (iv st.c)) ∧ w.cell? ⟨g, 3, none⟩ = some (.int .u32 (iv st.d)) ∧
    w.cell? ⟨g, 4, none⟩ = some (.int .u32 (iv st.e)) ∧ w.cell? ⟨g, 5, none⟩ = some (.int .u32 (iv st.f)) ∧ w.cell? ⟨g, 6, none⟩ = some (.int .u32 (iv st.g)) ∧ w.cell? ⟨g, 7, none⟩ = some (.int .u32 (iv st.h)) := by
  subst hs
  exact ⟨hb.cell_ (h.state 0 (by decide)), hb.cell_ (h.state 1 (by decide)), hb.cell_ (h.state 2 (by decide)), hb.cell_ (h.state 3 (by decide)), hb.cell_ (h.state 4 (by decide)), hb.cell_ (h.state 5 (by decide)), hb.cell_ (h.state 6 (by decide)), hb.cell_ (h.state 7 (by decide))⟩
theorem HPart.kept {w w2 : World} {g : Nat} {t : TypeId} {cs : Array Value} {p : List UInt8} {n : Nat} (hb : Blk w g t cs) (h : HPart cs p n) {st : S8} (hs : feed h0 p = st) (h2 : Below w.heap.size w w2) :
    w2.cell? ⟨g, 0, none⟩ = some (.int .u32 (iv st.a)) ∧ w2.cell? ⟨g, 1, none⟩ = some (.int .u32 (iv st.b)) ∧ w2.cell? ⟨g, 2, none⟩ = some (.int .u32 (iv st.c)) ∧ w2.cell? ⟨g, 3, none⟩ = some (.int .u32 (iv st.d)) ∧
    w2.cell? ⟨g, 4, none⟩ = some (.int .u32 (iv st.e)) ∧ w2.cell? ⟨g, 5, none⟩ = some (.int .u32 (iv st.f)) ∧ w2.cell? ⟨g, 6, none⟩ = some (.int .u32 (iv st.g)) ∧ w2.cell? ⟨g, 7, none⟩ = some (.int .u32 (iv st.h)) ∧
    w2.frozen? ⟨g, 0, none⟩ = false ∧ w2.frozen? ⟨g, 1, none⟩ = false ∧ w2.frozen? ⟨g, 2, none⟩ = false ∧ w2.frozen? ⟨g, 3, none⟩ = false ∧ w2.frozen? ⟨g, 4, none⟩ = false ∧ w2.frozen? ⟨g, 5, none⟩ = false ∧ w2.frozen? ⟨g, 6, none⟩ = false ∧ w2.frozen? ⟨g, 7, none⟩ = false := by
  have hb2 := hb.below h2
  obtain ⟨k0, k1, k2, k3, k4, k5, k6, k7⟩ := HPart.cells hb2 h hs
  exact ⟨k0, k1, k2, k3, k4, k5, k6, k7, hb2.frozen _, hb2.frozen _, hb2.frozen _, hb2.frozen _, hb2.frozen _, hb2.frozen _, hb2.frozen _, hb2.frozen _⟩
end Go.Proofs.YtapgiagpjplpdaaGreat

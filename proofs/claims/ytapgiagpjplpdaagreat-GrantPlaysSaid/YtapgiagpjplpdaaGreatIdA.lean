
/- id: order, digits, hexadecimal digits, parsing. -/
import Derived.Test.YtapgiagpjplpdaaGreatTag2
import Derived.Test.YtapgiagpjplpdaaGreatKit4
import Derived.Test.YtapgiagpjplpdaaGreatIdK
import Derived.Lib.Bytealg
import Derived.Laws.Externs
import Derived.Laws.IdiomStrings
set_option linter.unusedSimpArgs false
set_option linter.unusedVariables false
namespace Go.Proofs.YtapgiagpjplpdaaGreat
open Go.RowKit Go.Qc
attribute [local go_sem] txt_size txt_append ib_fold

theorem push_arr (acc : Array UInt8) (b : UInt8) (l : List UInt8) : (acc.push b) ++ l.toArray = acc ++ (b :: l).toArray := by
  apply Array.ext'
  simp
theorem run_loadBytes {P : Program} (w : World) (g : Nat) : ∀ (l : List UInt8) (o : Nat) (acc : ByteArray), w.rangeAt g o (l.map u8v) →
    (Extern.Bytes.loadBytes ⟨g, o, none⟩ l.length acc).run P w = .ok ⟨acc.data ++ l.toArray⟩ w
  | [], o, acc, _ => by simp [Extern.Bytes.loadBytes]
  | b :: l, o, acc, h => by
    have h0 : w.cell? ⟨g, o, none⟩ = some (.int .u8 (ib b)) := by
      have := h 0 (u8v b) (by simp)
      rwa [Nat.add_zero] at this
    have hr : w.rangeAt g (o + 1) (l.map u8v) := fun j v hj => by
      rw [show o + 1 + j = o + (j + 1) by omega]
      exact h (j + 1) v (by simpa using hj)
    have ih := run_loadBytes (P := P) w g l (o + 1) (acc.push b) hr
    have hb : (ib b).toNat.toUInt8 = b := by
      unfold ib
      rw [Int.toNat_natCast]
      exact UInt8.ofNat_toNat
    unfold Extern.Bytes.loadBytes
    have hl : (load ⟨g, o, none⟩).run P w = .ok (.int .u8 (ib b)) w := by simp [h0]
    rw [List.length_cons, Sem.run_bind, hl]
    simp only [Result.andThen_ok, hb, Addr.add_lit]
    rw [ih]
    congr 2
    exact push_arr acc.data b l
theorem run_bytealg {P : Program} (w : World) (g h o p n m c d : Nat) (a b : List UInt8) (ha : a.length = n) (hb : b.length = m) (hA : w.rangeAt g o (a.map u8v)) (hB : w.rangeAt h p (b.map u8v)) :
    (Extern.BytealgCompare.compare #[.slice (some ⟨g, o, none⟩) n c, .slice (some ⟨h, p, none⟩) m d]).run P w = .ok (.int .i64 (Lib.compareBytes a b)) w := by
  subst ha hb
  change Sem.run P (do pure (goInt (Extern.BytealgCompare.cmp (← Extern.Bytes.bytesOf (.slice (some ⟨g, o, none⟩) a.length c)) (← Extern.Bytes.bytesOf (.slice (some ⟨h, p, none⟩) b.length d))))) w = _
  simp only [Extern.Bytes.bytesOf, Sem.run_bind, Sem.run_pure, run_loadBytes w g a o _ hA, run_loadBytes w h b p _ hB, Result.andThen_ok]
  rw [Lib.cmp_eq]
  simp
  rfl

/-- The world behind two boxed ids. -/
def two (w : World) (a b : List UInt8) : World := (w.alloc (.cells (idVals a) 23)).alloc (.cells (idVals b) 23)
theorem two_below (w : World) (a b : List UInt8) : Below w.heap.size w (two w a b) := ((Below.refl _ _).alloc (Nat.le_refl _) _).alloc (by simp) _
set_option maxRecDepth 100000 in
theorem bytesCompare_any (w : World) (g h o p n m c d : Nat) (a b : List UInt8) (ha : a.length = n) (hb : b.length = m) (hA : w.rangeAt g o (a.map u8v)) (hB : w.rangeAt h p (b.map u8v)) :
    Calls Tryz.prog 70 #[.slice (some ⟨g, o, none⟩) n c, .slice (some ⟨h, p, none⟩) m d] w fun e w' => e = .returned (.int .i64 (Lib.compareBytes a b)) ∧ w = w' := by
  have hrun := run_bytealg (P := Tryz.prog) w g h o p n m c d a b ha hb hA hB
  go_enter Tryz.func70, Tryz.ntmps70
  go_wp2
  rw [run_callFunc_extern Tryz.func85 (by kernel_rfl) (by kernel_rfl) (by kernel_rfl) (e := Extern.BytealgCompare.compare) (by kernel_rfl), hrun]
  simp only [Result.andThen]
  rw [Oper.upon_value]
  go_wp2
  go_ret
  exact ⟨rfl, rfl⟩
set_option maxRecDepth 100000 in
theorem order_any (a b : List UInt8) (ha : a.length = 32) (hb : b.length = 32) (w : World) :
    Calls Tryz.prog 59 #[.agg (idVals a), .agg (idVals b)] w fun e w' => e = .returned (.int .i64 (Lib.compareBytes a b)) ∧ ∃ q, w' = (two w a b).drewN q := by
  obtain ⟨i0, hi, hz0, hz1, hz2⟩ := info_parts infoByte
  have hA := (Blk.new w 23 (idVals a)).alloc (.cells (idVals b) 23)
  have hB := Blk.new (w.alloc (.cells (idVals a) 23)) 23 (idVals b)
  have hk : (w.alloc (.cells (idVals a) 23)).heap.size = w.heap.size + 1 := by simp
  rw [hk] at hB
  have hs := fun W g => run_slice_whole (P := Tryz.prog) W 23 5 g 0 32 i0 Tryz.underlying23 hi hz1 (by decide)
  have HA := hid ha
  have HB := hid hb
  have HRA := hid (range_blk hA)
  have HRB := hid (range_blk hB)
  clear ha hb hA hB hk
  go_enter Tryz.func59, Tryz.ntmps59
  go_wp2
  generalize hW : (w.alloc (.cells (idVals a) 23)).alloc (.cells (idVals b) 23) = W at *
  have HW := hid hW
  clear hW
  go_quiet ((go_at_call 70; exact quiet_same_l (bytesCompare_any _ _ _ 0 0 32 32 32 32 a b HA.out HB.out (by exact HRA.out) (by exact HRB.out))))
  go_wp2
  go_ret
  exact ⟨rfl, nq, by unfold two; rw [HW.out]⟩
end Go.Proofs.YtapgiagpjplpdaaGreat

namespace Go.Proofs.YtapgiagpjplpdaaGreat
open Go.RowKit Go.Qc
attribute [local go_sem] txt_size txt_append ib_fold ib_inj

def ltB (a b : List UInt8) : Bool := decide (Lib.compareBytes a b < 0)
theorem cmp_refl : ∀ (a : List UInt8), Lib.compareBytes a a = 0
  | [] => rfl
  | x :: a => by rw [Lib.compareBytes, if_neg (UInt8.lt_irrefl x), if_neg (UInt8.lt_irrefl x)]; exact cmp_refl a
theorem cmp_at : ∀ (a b : List UInt8) (k : Nat) (x y : UInt8), a.take k = b.take k → a[k]? = some x → b[k]? = some y → x ≠ y → Lib.compareBytes a b = if x < y then -1 else 1
  | [], _, k, x, y, _, h, _, _ => by simp at h
  | _ :: _, [], k, x, y, _, _, h, _ => by simp at h
  | u :: a, v :: b, 0, x, y, _, hx, hy, hne => by
    simp at hx hy
    subst hx hy
    rw [Lib.compareBytes]
    by_cases h : u < v
    · rw [if_pos h, if_pos h]
    · have h2 : v < u := by
        rcases UInt8.lt_or_lt_of_ne hne with h3 | h3
        · exact absurd h3 h
        · exact h3
      rw [if_neg h, if_neg h, if_pos h2]
  | u :: a, v :: b, k + 1, x, y, ht, hx, hy, hne => by
    simp only [List.take_succ_cons, List.cons.injEq] at ht
    obtain ⟨rfl, ht⟩ := ht
    rw [Lib.compareBytes, if_neg (UInt8.lt_irrefl u), if_neg (UInt8.lt_irrefl u)]
    exact cmp_at a b k x y ht (by simpa using hx) (by simpa using hy) hne
theorem ltB_at (a b : List UInt8) (k : Nat) (x y : UInt8) (ht : a.take k = b.take k) (hx : a[k]? = some x) (hy : b[k]? = some y) (hne : x ≠ y) : ltB a b = decide (ib x < ib y) := by
  rw [ltB, cmp_at a b k x y ht hx hy hne]
  have e : (x < y) ↔ ib x < ib y := by unfold ib; rw [UInt8.lt_iff_toNat_lt]; omega
  by_cases h : x < y
  · rw [if_pos h, decide_eq_true (e.1 h)]; rfl
  · rw [if_neg h, decide_eq_false (fun h2 => h (e.2 h2))]; rfl
theorem ltB_refl (a : List UInt8) : ltB a a = false := by rw [ltB, cmp_refl]; rfl

set_option maxRecDepth 100000 in
theorem rless_any (a b : List UInt8) (ha : a.length = 32) (hb : b.length = 32) (w : World) :
    Calls Tryz.prog 62 #[.agg (idVals a), .agg (idVals b)] w fun e w' => e = .returned (.bool (ltB a b)) ∧ Below w.heap.size w w' := by
  have hA := (Blk.new w 23 (idVals a)).alloc (.cells (idVals b) 23)
  have hB := Blk.new (w.alloc (.cells (idVals a) 23)) 23 (idVals b)
  have hk : (w.alloc (.cells (idVals a) 23)).heap.size = w.heap.size + 1 := by simp
  rw [hk] at hB
  have hT : Below w.heap.size w ((w.alloc (.cells (idVals a) 23)).alloc (.cells (idVals b) 23)) := two_below w a b
  have HA := hid ha
  have HB := hid hb
  clear ha hb hk
  go_enter Tryz.func62, Tryz.ntmps62
  go_wp2
  generalize (w.alloc (.cells (idVals a) 23)).alloc (.cells (idVals b) 23) = W at *
  go_loopw [5] (fun i wr => ∃ k q : Nat, k ≤ 32 ∧ i = .int .i64 k ∧ a.take k = b.take k ∧ wr = W.drewN q) (fun i _ => 32 - (intOf i).toNat)
  case atStart => exact ⟨0, 0, by omega, rfl, rfl, rfl⟩
  case round =>
    obtain ⟨k, q, hk, rfl, ht, rfl⟩ := hrel
    by_cases hlt : k < 32
    · obtain ⟨x, hx⟩ : ∃ x, a[k]? = some x := ⟨_, List.getElem?_eq_getElem (by rw [HA.out]; exact hlt)⟩
      obtain ⟨y, hy⟩ : ∃ y, b[k]? = some y := ⟨_, List.getElem?_eq_getElem (by rw [HB.out]; exact hlt)⟩
      have hca : (W.drewN q).cell? ⟨w.heap.size, k, none⟩ = some (.int .u8 (ib x)) := hA.cell_ (i := k) (u := .int .u8 (ib x)) (by unfold idVals; rw [List.getElem?_toArray, List.getElem?_map, hx]; rfl)
      have hcb : (W.drewN q).cell? ⟨w.heap.size + 1, k, none⟩ = some (.int .u8 (ib y)) := hB.cell_ (i := k) (u := .int .u8 (ib y)) (by unfold idVals; rw [List.getElem?_toArray, List.getElem?_map, hy]; rfl)
      have b0 : (0 : Int) ≤ k := by omega
      have b1 : (k : Int) < 32 := by omega
      have HX := hid hx
      have HY := hid hy
      have HT := hid ht
      clear hx hy ht hA hB
      generalize hV : W.drewN q = V at *
      have HV := hid hV
      clear hV
      by_cases hne : x = y
      · subst hne
        go_wp2
        go_quiet (fail)
        go_wp2
        go_roundw
        case rel => exact ⟨k + 1, q + nq, hlt, by go_num, by rw [take_snoc HX.out, take_snoc HY.out, HT.out], by rw [← HV.out, World.drewN_drewN]⟩
        case measure => simp [intOf]; omega
      · have hbne : (ib x != ib y) = true := by simp only [bne_iff_ne, ne_eq, ib_inj]; exact hne
        go_wp2
        go_quiet (fail)
        go_wp2
        go_quiet (fail)
        go_wp2
        go_ret
        refine ⟨?_, ?_⟩
        · rw [ltB_at a b k x y HT.out HX.out HY.out hne]; rfl
        · rw [← HV.out]; exact below_drewN (below_drewN (below_drewN hT _) _) _
    · obtain rfl : k = 32 := by omega
      rw [List.take_of_length_le (by rw [HA.out]; exact Nat.le_refl _), List.take_of_length_le (by rw [HB.out]; exact Nat.le_refl _)] at ht
      subst ht
      clear hA hB
      generalize hV : W.drewN q = V at *
      have HV := hid hV
      clear hV
      go_wp2
      go_ret
      refine ⟨by rw [ltB_refl]; rfl, ?_⟩
      rw [← HV.out]; exact below_drewN hT _

/-! ### digits -/
/-! ### an id's text -/
end Go.Proofs.YtapgiagpjplpdaaGreat

namespace Go.Proofs.YtapgiagpjplpdaaGreat
open Go.RowKit Go.Qc
attribute [local go_sem] txt_size txt_append ib_fold ib_i64

/-! ### a text's id -/
end Go.Proofs.YtapgiagpjplpdaaGreat

namespace Go.Proofs.YtapgiagpjplpdaaGreat
open Go.RowKit Go.Qc
attribute [local go_sem] txt_size txt_append ib_fold ib_i64 ib_shr ib_and1

/-! ### Parse of Hex is the id -/
/-! ### Bytes -/
/-! ### Bit -/
end Go.Proofs.YtapgiagpjplpdaaGreat

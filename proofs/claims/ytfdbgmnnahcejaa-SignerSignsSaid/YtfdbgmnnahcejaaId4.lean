
/- The id of 32 bytes; a bit of an id; a text that is read back. -/
import Derived.Test.YtfdbgmnnahcejaaId3
import Derived.Laws.IdiomStrings
namespace Go.Proofs.Ytfdbgmnnahcejaa
open Go.RowKit Go.Qc
attribute [local go_sem] txt_size txt_append ib_fold ib_i64 ib_shr ib_and1

/-! ### Parse of Hex is the id -/
theorem dig_hexD : ∀ n : Fin 16, digV (hexD n.val) = (n.val : Int) := by decide +kernel
theorem hexB_get (a : List UInt8) : ∀ (i : Nat) (x : UInt8), a[i]? = some x → (hexB a)[2 * i]? = some (hexD (x.toNat / 16)) ∧ (hexB a)[2 * i + 1]? = some (hexD (x.toNat % 16)) := by
  induction a with
  | nil => intro i x h; simp at h
  | cons y a ih =>
    intro i x h
    have e : hexB (y :: a) = hexD (y.toNat / 16) :: hexD (y.toNat % 16) :: hexB a := by simp [hexB]
    rw [e]
    cases i with
    | zero => simp at h; subst h; exact ⟨rfl, rfl⟩
    | succ i =>
      rw [show 2 * (i + 1) = 2 * i + 1 + 1 by omega, List.getElem?_cons_succ, List.getElem?_cons_succ, List.getElem?_cons_succ, List.getElem?_cons_succ]
      exact ih i x (by simpa using h)
theorem dig_hexB (a : List UInt8) (i : Nat) (x : UInt8) (h : a[i]? = some x) : dig (hexB a) (2 * i) = (x.toNat / 16 : Nat) ∧ dig (hexB a) (2 * i + 1) = (x.toNat % 16 : Nat) := by
  obtain ⟨h1, h2⟩ := hexB_get a i x h
  have hx := x.toNat_lt
  unfold dig
  rw [List.getD_eq_getElem?_getD, List.getD_eq_getElem?_getD, h1, h2]
  exact ⟨dig_hexD ⟨x.toNat / 16, by omega⟩, dig_hexD ⟨x.toNat % 16, by omega⟩⟩
theorem hexOk_hexB (a : List UInt8) (ha : a.length = 32) : hexOk (hexB a) := by
  refine ⟨by rw [hexB_length, ha], fun i hi => ?_⟩
  obtain ⟨x, hx⟩ : ∃ x, a[i]? = some x := ⟨_, List.getElem?_eq_getElem (by omega)⟩
  obtain ⟨h1, h2⟩ := dig_hexB a i x hx
  rw [h1, h2]
  omega
theorem unhex_hexB (a : List UInt8) (ha : a.length = 32) : unhex (hexB a) = a := by
  apply List.ext_getElem?
  intro i
  by_cases hi : i < 32
  · obtain ⟨x, hx⟩ : ∃ x, a[i]? = some x := ⟨_, List.getElem?_eq_getElem (by omega)⟩
    obtain ⟨h1, h2⟩ := dig_hexB a i x hx
    rw [unhex, List.getElem?_map, List.getElem?_range hi, hx, Option.map_some, unhexAt, h1, h2]
    congr 1
    have : (((x.toNat / 16 : Nat) : Int)).toNat * 16 + (((x.toNat % 16 : Nat) : Int)).toNat = x.toNat := by omega
    rw [this]
    exact UInt8.ofNat_toNat
  · rw [List.getElem?_eq_none (by rw [unhex_length]; omega), List.getElem?_eq_none (by omega)]

/-! ### Bytes -/
theorem below_drew2 {B : Nat} {a w : World} (h : Below B a w) : Below B a w.drew := ⟨h.os, h.tape, h.output, h.size, h.block⟩
set_option maxRecDepth 100000 in
set_option maxHeartbeats 4000000 in
theorem idBytes_ok (s : List UInt8) (hs : s.length = 32) (w : World) :
    Calls Try.prog 144 #[.string (txt s)] w fun e w' => e = .returned (.tuple #[.agg (idVals s), .int .i64 0]) ∧ Below w.heap.size w w' := by
  have hl2 : (((s.length : Nat) : Int) != 32) = false := by rw [hs]; rfl
  have hza : (Try.prog.info? 24).map (·.size) = some (s.map u8v).length := by rw [List.length_map, hs]; exact sizeId
  have hu := Try.underlying24
  have hsz : (txt s).size = 32 := by rw [txt_size]; exact hs
  have hconv := fun W => run_bytes_of_string (P := Try.prog) W 9 34 5 (txt s) Try.underlying9 Try.underlying34 Try.underlying5
  have hR0 := Blk.new w 24 (idVals zeroB)
  have hB0 : Below w.heap.size w (w.alloc (.cells (idVals zeroB) 24)) := (Below.refl _ _).alloc (Nat.le_refl _) _
  have hk0 : (w.alloc (.cells (idVals zeroB) 24)).heap.size = w.heap.size + 1 := by simp
  rw [zeroB_vals] at hR0 hB0 hk0
  rw [hsz] at hconv
  have harr : ∀ W A c, (Instr.arrayAt 24 (.slice A 32 c)).run Try.prog W = .ok (.pointer A) W := fun W A c => by
    simp [Instr.arrayAt, run_underlying hu]
  have hRg : ∀ (W : World) (c : Nat) (f : Nat × Nat), (W.alloc (Obj.cells (bytesRow (txt s) c) 5 f)).rangeAt W.heap.size 0 (s.map u8v) := fun W c f j v hv => by
    rw [Nat.zero_add, cell_of_row _ _ j _ 5 f (heap_alloc_new W _)]
    have hj : j < s.length := by have := (List.getElem?_eq_some_iff.1 hv).1; rwa [List.length_map] at this
    rw [bytesRow_at (txt s) c j (by simpa [txt] using hj)]
    rw [List.getElem?_map, List.getElem?_eq_getElem hj] at hv
    rw [← hv]
    simp [txt, u8v, ib]
  have HS := hid hs
  have HR0 := hid hR0
  have HB0 := hid hB0
  have HK0 := hid hk0
  clear hs hsz hR0 hB0 hk0
  have HRG := hid hRg
  clear hRg
  go_enter Try.func144, Try.ntmps144
  go_wp2_with (first
    | (with_reducible refine wpList_load_if (by with_unfolding_all rfl) 24 _ rfl (w.heap.size + 1) 0 rfl (s.map u8v) _ (by with_unfolding_all (rw [← HK0.out]; exact HRG.out _ _ _)) hu (by with_unfolding_all rfl) hza ?_)
    | (with_reducible refine wpList_store_blk rfl 24 _ _ rfl w.heap.size _ _ 24 (by with_unfolding_all exact HR0.out.alloc _) rfl rfl ?c2 ?c3 ?c4 ?_))
  case c2 => rw [List.size_toArray]; exact hza
  case c3 => exact (show (List.map u8v s).toArray.size = 32 by simp [HS.out]).symm
  case c4 => exact idVals_one s
  intro w7 hb7 hg7
  have hB7 : Below w.heap.size w w7 := Below.grown (below_drew2 (HB0.out.alloc HB0.out.size _)) hg7 (below_drew2 (HB0.out.alloc HB0.out.size _)).size (by intro i e; cases e; exact Nat.le_refl _)
  go_wp2
  refine bodyPost_ret (results_cellt rfl _ _ _ _ _ _ rfl hb7 Try.underlying24 rfl (by rw [List.size_toArray]; exact hza)) rfl ⟨rfl, hB7⟩
set_option maxRecDepth 100000 in
theorem idBytes_no (s : List UInt8) (hl : ¬ s.length = 32) (w : World) :
    Calls Try.prog 144 #[.string (txt s)] w fun e w' => e = .returned (.tuple #[.agg (idVals zeroB), .int .i64 3]) ∧ Below w.heap.size w w' := by
  have hl2 : (((s.length : Nat) : Int) != 32) = true := by simp only [bne_iff_ne, ne_eq]; omega
  clear hl
  go_enter Try.func144, Try.ntmps144
  go_wp2_with (with_reducible refine wpList_store_blk rfl 24 _ _ rfl w.heap.size _ _ 24 (Blk.new _ _ _) rfl rfl ?c2 ?c3 ?c4 ?_)
  case c2 => exact sizeId
  case c3 => rfl
  case c4 => rw [← zeroB_vals]; exact idVals_one _
  intro w7 hb7 hg7
  have hB7 := below_new hg7
  go_wp2
  refine bodyPost_ret (results_cellt rfl _ _ _ _ _ _ rfl hb7 Try.underlying24 rfl sizeId) rfl ⟨?_, hB7⟩
  rw [zeroB_vals]; rfl

/-! ### Bit -/
set_option maxRecDepth 100000 in
theorem idBit_any (a : List UInt8) (ha : a.length = 32) (i : Nat) (hi : i / 8 < (txt a).size) (w : World) :
    Calls Try.prog 155 #[.agg (idVals a), .int .i64 i] w fun e w' => e = .returned (.int .i64 (ib (bitAt (txt a) i hi))) ∧ Below w.heap.size w w' := by
  have hi2 : i / 8 < 32 := by rw [txt_size, ha] at hi; exact hi
  obtain ⟨x, hx⟩ : ∃ x, a[i / 8]? = some x := ⟨_, List.getElem?_eq_getElem (by rw [ha]; exact hi2)⟩
  have hb : bitAt (txt a) i hi = bit0 (shrB x (7 - i % 8)) := by unfold bitAt; rw [txt_get rfl hx hi]
  rw [hb]
  have hI := Blk.new w 24 (idVals a)
  have hB0 : Below w.heap.size w (w.alloc (.cells (idVals a) 24)) := (Below.refl _ _).alloc (Nat.le_refl _) _
  have hcell := hI.cell_ (i := i / 8) (u := .int .u8 (ib x)) (by unfold idVals; rw [List.getElem?_toArray, List.getElem?_map, hx]; rfl)
  have h0 : (0 : Int) ≤ i := by omega
  have h1 : (i : Int) < 256 := by omega
  have h2 : (0 : Int) ≤ (i : Int) / 8 := by omega
  have e1 : ((i : Int) / 8).toNat = i / 8 := by omega
  have e2 : (7 - (i : Int) % 8).toNat = 7 - i % 8 := by omega
  have h3 : (0 : Int) ≤ 7 - (i : Int) % 8 := by omega
  have h4 : 7 - (i : Int) % 8 ≤ 7 := by omega
  clear hi hb hx hI
  go_enter Try.func155, Try.ntmps155
  go_wp2_with (fail)
  generalize w.alloc (.cells (idVals a) 24) = w0 at *
  go_wp2
  all_goals (go_ret; exact ⟨rfl, hB0⟩)
theorem idBit_no (a : List UInt8) (i : Int) (hi : i < 0 ∨ 255 < i) (w : World) :
    Calls Try.prog 155 #[.agg (idVals a), .int .i64 i] w fun e w' => e = .returned (.int .i64 0) ∧ Below w.heap.size w w' := by
  have hB0 : Below w.heap.size w (w.alloc (.cells (idVals a) 24)) := (Below.refl _ _).alloc (Nat.le_refl _) _
  rcases hi with hi | hi
  · go_enter Try.func155, Try.ntmps155
    go_wp2
    go_ret
    exact ⟨rfl, hB0⟩
  · have h2 : ¬ i < 0 := by omega
    have h3 : (256 : Int) ≤ i := by omega
    go_enter Try.func155, Try.ntmps155
    go_wp2
    go_ret
    exact ⟨rfl, hB0⟩
end Go.Proofs.Ytfdbgmnnahcejaa

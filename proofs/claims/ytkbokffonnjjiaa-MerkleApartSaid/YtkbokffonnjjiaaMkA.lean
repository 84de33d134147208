
/- merkle: parting, short texts, Root, Whole, Sum, parted, partings -/
import Derived.Test.YtkbokffonnjjiaaGt2
import Derived.Test.YtkbokffonnjjiaaTag6
import Derived.Test.YtkbokffonnjjiaaId11
set_option linter.unusedSimpArgs false
set_option linter.unusedVariables false
namespace Go.Proofs.Ytkbokffonnjjiaa
open Go.RowKit Go.Qc Go.Shelf
attribute [local go_sem] txt_size txt_append ib_fold
/-- k, doubled while twice it is below n. -/
def halfW (n k : Nat) : Nat := if h : 0 < k ∧ k + k < n then halfW n (k + k) else k
termination_by n - k
decreasing_by omega
/-- How many of n are in the first part. -/
def halfM (n : Nat) : Nat := halfW n 1
theorem halfW_step {n k : Nat} (h : 0 < k) (h2 : k + k < n) : halfW n k = halfW n (k + k) := by
  conv => lhs; rw [halfW]
  rw [dif_pos ⟨h, h2⟩]
theorem halfW_stop {n k : Nat} (h2 : ¬ k + k < n) : halfW n k = k := by
  rw [halfW, dif_neg (fun h => h2 h.2)]
theorem halfW_ok (n k : Nat) (h : 0 < k) (hk : k < n) : 0 < halfW n k ∧ halfW n k < n ∧ n ≤ halfW n k + halfW n k := by
  by_cases h2 : k + k < n
  · rw [halfW_step h h2]
    exact halfW_ok n (k + k) (by omega) h2
  · rw [halfW_stop h2]
    omega
termination_by n - k
decreasing_by omega
theorem halfM_ok {n : Nat} (h : 2 ≤ n) : 0 < halfM n ∧ halfM n < n ∧ n ≤ halfM n + halfM n := halfW_ok n 1 (by omega) (by omega)
theorem meas_hm {n k : Nat} (h : k < n) (h1 : 0 < k) {i : Int} (hi : i = (k : Int) + k) : n - i.toNat < n - ((k : Int)).toNat := by omega
set_option maxRecDepth 100000 in
set_option maxHeartbeats 2000000 in
theorem parting_any (n : Nat) (h2 : 2 ≤ n) (hn : n ≤ 1099511627776) (w : World) :
    Calls Try.prog 97 #[.int .i64 n] w fun e w' => e = .returned (.int .i64 (halfM n)) ∧ w = w' := by
  go_enter Try.func97, Try.ntmps97
  go_wp2
  go_loopw [3] (fun i wr => ∃ k : Nat, 0 < k ∧ k < n ∧ i = .int .i64 k ∧ Hid (halfM n = halfW n k) ∧ w = wr) (fun i _ => n - (intOf i).toNat)
  case atStart => exact ⟨1, by omega, by omega, rfl, hid rfl, rfl⟩
  case round =>
    obtain ⟨k, h1, hk, rfl, HH, rfl⟩ := hrel
    have e1 : wrap64 ((n : Int) - k) = (n : Int) - k := by unfold wrap64; omega
    have e2 : wrap64 ((k : Int) * 2) = (k : Int) * 2 := by unfold wrap64; omega
    by_cases hlt : k + k < n
    · have z1 : (k : Int) < (n : Int) - k := by omega
      have HN := hid (show halfM n = halfW n (k + k) from HH.out.trans (halfW_step h1 hlt))
      have HL := hid hlt
      clear hlt
      go_wp2
      go_roundw
      case rel => exact ⟨k + k, by omega, HL.out, by congr 1; omega, HN, by first | rfl | trivial⟩
      case measure => exact meas_hm hk h1 (show (k : Int) * 2 = (k : Int) + k by omega)
    · have z1 : ¬ (k : Int) < (n : Int) - k := by omega
      have HE := hid (show halfM n = k from HH.out.trans (halfW_stop hlt))
      clear hlt
      go_wp2
      go_ret
      exact ⟨by rw [HE.out]; rfl, rfl⟩
set_option maxRecDepth 100000 in
set_option maxHeartbeats 2000000 in
theorem rhalf_any (n : Nat) (h2 : 2 ≤ n) (hn : n ≤ 1099511627776) (w : World) :
    Calls Try.prog 54 #[.int .i64 n] w fun e w' => e = .returned (.int .i64 (halfM n)) ∧ w = w' := by
  go_enter Try.func54, Try.ntmps54
  go_wp2
  go_loopw [3] (fun i wr => ∃ k : Nat, 0 < k ∧ k < n ∧ i = .int .i64 k ∧ Hid (halfM n = halfW n k) ∧ w = wr) (fun i _ => n - (intOf i).toNat)
  case atStart => exact ⟨1, by omega, by omega, rfl, hid rfl, rfl⟩
  case round =>
    obtain ⟨k, h1, hk, rfl, HH, rfl⟩ := hrel
    have e2 : wrap64 ((k : Int) + k) = (k : Int) + k := by unfold wrap64; omega
    by_cases hlt : k + k < n
    · have z1 : (k : Int) + k < (n : Int) := by omega
      have HN := hid (show halfM n = halfW n (k + k) from HH.out.trans (halfW_step h1 hlt))
      have HL := hid hlt
      clear hlt
      go_wp2
      go_roundw
      case rel => exact ⟨k + k, by omega, HL.out, rfl, HN, by first | rfl | trivial⟩
      case measure => exact meas_hm hk h1 rfl
    · have z1 : ¬ (k : Int) + k < (n : Int) := by omega
      have HE := hid (show halfM n = k from HH.out.trans (halfW_stop hlt))
      clear hlt
      go_wp2
      go_ret
      exact ⟨by rw [HE.out]; rfl, rfl⟩
set_option maxRecDepth 100000 in
set_option maxHeartbeats 2000000 in
theorem mtext_any (nm : List UInt8) (hnm : nm.length ≤ 255) (A : Option Addr) (n c : Nat) (ps : List (List UInt8)) (hn : ps.length = n) (hm : (textB nm ps).length ≤ 1000000000000) (w : World) (hr : Rd w A (ps.map strV)) :
    Calls Try.prog 95 #[.string (txt nm), .slice A n c] w fun e w' => e = .returned (.string (txt (textB nm ps))) ∧ Below w.heap.size w w' := by
  have cT := text_any nm hnm A n c ps hn hm w hr
  generalize textB nm ps = T at *
  go_enter Try.func95, Try.ntmps95
  go_wp2_with (go_at_call 114; (with_reducible refine cT.mono ?_); rintro e3 w3 ⟨rfl, hb3⟩)
  go_ret
  exact ⟨rfl, hb3⟩
end Go.Proofs.Ytkbokffonnjjiaa

namespace Go.Proofs.Ytkbokffonnjjiaa
open Go.RowKit Go.Qc Go.Shelf
attribute [local go_sem] txt_size txt_append ib_fold
def noneN : List UInt8 := [110, 111, 110, 101]
def itemN : List UInt8 := [105, 116, 101, 109]
def joinN : List UInt8 := [106, 111, 105, 110]
/-- An id of a row as a text. -/
theorem id_text (W : World) (g : Nat) (a : List UInt8) (ha : a.length = 32) (h : W.rangeAt g 0 (a.map u8v)) : (convert 107 9 (.slice (some ⟨g, 0, none⟩) 32 32)).run Try.prog W = .ok (.string (txt a)) W :=
  run_txt (P := Try.prog) W 107 9 5 _ 32 32 a Try.underlying107 Try.underlying5 Try.underlying9 ha.symm (rd_range h)
set_option maxRecDepth 100000 in
set_option maxHeartbeats 4000000 in
theorem mitem_any (a : List UInt8) (ha : a.length = 32) (w : World) :
    Calls Try.prog 96 #[.agg (idVals a)] w fun e w' => e = .returned (.string (txt (textB itemN [a]))) ∧ Below w.heap.size w w' := by
  have cT : ∀ W A c, Rd W A ([a].map strV) → Calls Try.prog 95 #[.string ⟨#[105, 116, 101, 109]⟩, .slice A 1 c] W fun e w' => e = .returned (.string (txt (textB itemN [a]))) ∧ Below W.heap.size W w' := fun W A c h => mtext_any itemN (by decide) A 1 c [a] rfl (textB_ids _ (by decide) _ (by simp [ha])) W h
  generalize textB itemN [a] = T at *
  go_enter Try.func96, Try.ntmps96
  go_upto_region 1 with (fail)
  have hb0 := (Below.refl w.heap.size w).alloc (Nat.le_refl _) (.cells (idVals a) 24)
  have va := id_text (w.alloc (.cells (idVals a) 24)) w.heap.size a ha (range_blk (Blk.new _ _ _))
  generalize w.alloc (.cells (idVals a) 24) = w1 at *
  have hr1 := rd_one w1 a
  have hb1 := hb0.trans (((Below.refl _ _).alloc (Nat.le_refl _) (.cells #[.string (txt a)] 9)).mono hb0.size)
  go_wp2_with (first
    | (go_at_call 95; (with_reducible refine (cT _ _ _ hr1).mono ?_); rintro e3 w3 ⟨rfl, hb3⟩))
  go_ret
  exact ⟨rfl, hb1.trans (hb3.mono hb1.size)⟩
set_option maxRecDepth 100000 in
set_option maxHeartbeats 8000000 in
theorem mjoin_any (a b : List UInt8) (ha : a.length = 32) (hb : b.length = 32) (w : World) :
    Calls Try.prog 98 #[.agg (idVals a), .agg (idVals b)] w fun e w' => e = .returned (.string (txt (textB joinN [a, b]))) ∧ Below w.heap.size w w' := by
  have cT : ∀ W A c, Rd W A ([a, b].map strV) → Calls Try.prog 95 #[.string ⟨#[106, 111, 105, 110]⟩, .slice A 2 c] W fun e w' => e = .returned (.string (txt (textB joinN [a, b]))) ∧ Below W.heap.size W w' := fun W A c h => mtext_any joinN (by decide) A 2 c [a, b] rfl (textB_ids _ (by decide) _ (by simp [ha, hb])) W h
  generalize textB joinN [a, b] = T at *
  go_enter Try.func98, Try.ntmps98
  go_upto_region 1 with (fail)
  have hb0 := ((Below.refl w.heap.size w).alloc (Nat.le_refl _) (.cells (idVals a) 24)).alloc (by simp) (.cells (idVals b) 24)
  have hra := range_blk ((Blk.new w 24 (idVals a)).alloc (.cells (idVals b) 24))
  have hrb := range_blk (Blk.new (w.alloc (.cells (idVals a) 24)) 24 (idVals b))
  have hk : (w.alloc (.cells (idVals a) 24)).heap.size = w.heap.size + 1 := by simp
  rw [hk] at hrb
  generalize (w.alloc (.cells (idVals a) 24)).alloc (.cells (idVals b) 24) = w2 at *
  clear hk
  refine wp_region_held_drew (S := fun W => W.rangeAt w.heap.size 0 (a.map u8v) ∧ W.rangeAt (w.heap.size + 1) 0 (b.map u8v)) (by kernel_rfl) ?_ (fun hHeld => ?_)
  · exact ⟨hra.below (below_drew1 w2), hrb.below (below_drew1 w2)⟩
  have hbd := hb0.trans ((below_drew1 w2).mono hb0.size)
  generalize w2.drew = w3 at *
  refine' wpAnyH_take (i := 0) (v := .slice (some ⟨w.heap.size, 0, none⟩) 32 32) rfl (by kernel_rfl) (by kernel_rfl) (by kernel_rfl) (fun _ _ _ h => h) (Or.inl ⟨by rfl, fun w' hw' => by go_simp⟩) hHeld ?_
  try simp only [Act.put, List.getElem_toArray, List.getElem_cons_succ, List.getElem_cons_zero, List.setIfInBounds_toArray, List.set_cons_zero, List.set_cons_succ]
  refine' wpAnyH_take (i := 1) (v := .string (txt a)) rfl (by kernel_rfl) (by kernel_rfl) (by kernel_rfl) (fun _ _ _ h => h) (Or.inl ⟨by rfl, fun w' hw' => by have hv := id_text w' w.heap.size a ha hw'.1; go_simp⟩) hHeld ?_
  try simp only [Act.put, List.getElem_toArray, List.getElem_cons_succ, List.getElem_cons_zero, List.setIfInBounds_toArray, List.set_cons_zero, List.set_cons_succ]
  refine' wpAnyH_take (i := 2) (v := .slice (some ⟨w.heap.size + 1, 0, none⟩) 32 32) rfl (by kernel_rfl) (by kernel_rfl) (by kernel_rfl) (fun _ _ _ h => h) (Or.inl ⟨by rfl, fun w' hw' => by go_simp⟩) hHeld ?_
  try simp only [Act.put, List.getElem_toArray, List.getElem_cons_succ, List.getElem_cons_zero, List.setIfInBounds_toArray, List.set_cons_zero, List.set_cons_succ]
  refine' wpAnyH_take (i := 3) (v := .string (txt b)) rfl (by kernel_rfl) (by kernel_rfl) (by kernel_rfl) (fun _ _ _ h => h) (Or.inl ⟨by rfl, fun w' hw' => by have hv := id_text w' (w.heap.size + 1) b hb hw'.2; go_simp⟩) hHeld ?_
  try simp only [Act.put, List.getElem_toArray, List.getElem_cons_succ, List.getElem_cons_zero, List.setIfInBounds_toArray, List.set_cons_zero, List.set_cons_succ]
  refine wpAnyH_ready (rs := [4]) (by kernel_rfl) (by simp) ?_
  refine AllReadyH.cons rfl (fun K hK => ?_) AllReadyH.nil
  have hal := (Below.refl w3.heap.size w3).alloc (Nat.le_refl _) (.cells #[.string (txt a), .string (txt b)] 9)
  have hRd := rd_two w3 a b
  have hbe := hbd.trans (hal.mono hbd.size)
  go_simp
  refine hK.out _ _ ⟨hHeld.1.below hal, hHeld.2.below hal⟩ (fun hHeld => ?_)
  clear hK K
  try simp only [Act.put, List.getElem_toArray, List.getElem_cons_succ, List.getElem_cons_zero, List.setIfInBounds_toArray, List.set_cons_zero, List.set_cons_succ]
  refine wpAnyH_ready (rs := [5]) (by kernel_rfl) (by simp) ?_
  refine AllReadyH.cons rfl (fun K hK => ?_) AllReadyH.nil
  go_simp
  (with_reducible refine (cT _ _ _ hRd).mono ?_)
  rintro e5 w5 ⟨rfl, hb5⟩
  refine hK.out _ _ ⟨hHeld.1.below hb5, hHeld.2.below hb5⟩ (fun hHeld => ?_)
  clear hK K
  try simp only [Act.put, List.getElem_toArray, List.getElem_cons_succ, List.getElem_cons_zero, List.setIfInBounds_toArray, List.set_cons_zero, List.set_cons_succ]
  refine' wpAnyH_take (i := 6) (v := .string (txt T)) rfl (by kernel_rfl) (by kernel_rfl) (by kernel_rfl) (fun _ _ _ h => h) (Or.inl ⟨by rfl, fun w' hw' => by go_simp⟩) hHeld ?_
  try simp only [Act.put, List.getElem_toArray, List.getElem_cons_succ, List.getElem_cons_zero, List.setIfInBounds_toArray, List.set_cons_zero, List.set_cons_succ]
  refine wpAnyH_done (by kernel_rfl) ?_ _
  go_wp2
  go_ret
  exact ⟨rfl, hbe.trans (hb5.mono hbe.size)⟩
end Go.Proofs.Ytkbokffonnjjiaa

namespace Go.Proofs.Ytkbokffonnjjiaa
open Go.RowKit Go.Qc Go.Shelf
attribute [local go_sem] txt_size txt_append ib_fold
theorem RowC.split {w : World} {A : Option Addr} {n c : Nat} {l : List (List UInt8)} (h : RowC w A n c l) {k : Nat} (h0 : 0 < k) (hk : k < n) :
    ∃ A1 c1 A2 c2, (∀ W, (Instr.sliceAt 22 (.slice A n c) (some (.int .i64 (k : Int))) none none).run Try.prog W = .ok (.slice A1 (n - k) c1) W) ∧ (∀ W, (Instr.sliceAt 22 (.slice A n c) none (some (.int .i64 (k : Int))) none).run Try.prog W = .ok (.slice A2 k c2) W) ∧
      RowC w A1 (n - k) c1 (l.drop k) ∧ RowC w A2 k c2 (l.take k) := by
  obtain ⟨A1, c1, A2, c2, e1, e2, _, _, r1, r2⟩ := h.parts k (.inl hk)
  obtain ⟨⟨hl, hn, h32, hr⟩, hc⟩ := h
  rcases hr with rfl | ⟨g, o, rfl, hr⟩
  · simp at hl; omega
  · rcases hc with ⟨hA, _⟩ | ⟨_, hnc, hcm⟩
    · cases hA
    · have q1 := (e1 w).symm.trans (slice_lo_ids g o n c k hk hnc w)
      have q2 := (e2 w).symm.trans (slice_hi_ids g o n c k (by omega) w)
      simp only [Result.ok.injEq, Value.slice.injEq, true_and, and_true] at q1 q2
      obtain ⟨rfl, rfl⟩ := q1
      obtain ⟨rfl, rfl⟩ := q2
      exact ⟨_, _, _, _, e1, e2, ⟨⟨by rw [List.length_drop, hl], by omega, r1⟩, .inr ⟨⟨_, rfl⟩, by omega, by omega⟩⟩, ⟨⟨by rw [List.length_take, hl]; omega, by omega, r2⟩, .inr ⟨⟨_, rfl⟩, by omega, hcm⟩⟩⟩
/-- The root of a row. -/
def rootM (l : List (List UInt8)) : List UInt8 :=
  if h : l.length < 2 then (match l with | [] => tagB noneN [] | a :: _ => tagB itemN [a])
  else tagB joinN [rootM (l.take (halfM l.length)), rootM (l.drop (halfM l.length))]
termination_by l.length
decreasing_by
  · rw [List.length_take]; have := halfM_ok (n := l.length) (by omega); omega
  · rw [List.length_drop]; have := halfM_ok (n := l.length) (by omega); omega
theorem rootM_nil : rootM [] = tagB noneN [] := by rw [rootM]; rfl
theorem rootM_one (a : List UInt8) : rootM [a] = tagB itemN [a] := by rw [rootM]; rfl
theorem rootM_two {l : List (List UInt8)} (h : ¬ l.length < 2) : rootM l = tagB joinN [rootM (l.take (halfM l.length)), rootM (l.drop (halfM l.length))] := by
  conv => lhs; rw [rootM]
  rw [dif_neg h]
theorem rootM_length (l : List (List UInt8)) : (rootM l).length = 32 := by
  by_cases h : l.length < 2
  · rw [rootM, dif_pos h]
    split <;> exact tagB_length _ _
  · rw [rootM_two h]; exact tagB_length _ _
theorem below_grownM {w W W' : World} (h : Below w.heap.size w W) (hg : W.grownBy W' (some w.heap.size)) : Below w.heap.size w W' := h.grown hg h.size (fun i e => by have := Option.some.inj e; omega)
theorem ret_idM {fn : Func} {p : Tmp} (hf : fn.results = #[.cell p 24]) (tmps : Array Value) (w : World) (g : Nat) (l : List UInt8) (hL : l.length = 32) (hp : tmps.getD p undef = .pointer (some ⟨g, 0, none⟩)) (hg : Blk w g 24 (List.map u8v l).toArray) :
    (results fn tmps).run Try.prog w = .ok (.agg (List.map u8v l).toArray) w := results_cell_row hf tmps w g _ _ _ _ hp hg Try.underlying24 rfl (by rw [List.size_toArray, List.length_map, hL]; exact sizeId)
set_option maxRecDepth 100000 in
set_option maxHeartbeats 8000000 in
theorem mroot_0 (A : Option Addr) (c : Nat) (w : World) :
    Calls Try.prog 50 #[.slice A 0 c] w fun e w' => e = .returned (.agg (idVals (rootM []))) ∧ Below w.heap.size w w' := by
  rw [rootM_nil]
  have cT : ∀ W, Calls Try.prog 95 #[.string ⟨#[110, 111, 110, 101]⟩, .slice none 0 0] W fun e w' => e = .returned (.string (txt (textB noneN []))) ∧ Below W.heap.size W w' := fun W => mtext_any noneN (by decide) none 0 0 [] rfl (by decide) W (.inl rfl)
  have cS := fun W => sum_any (textB noneN []) (by decide) W
  have hSl := tagB_length noneN []
  have e : sumB (textB noneN []) = tagB noneN [] := rfl
  rw [e] at cS
  generalize tagB noneN [] = S at *
  generalize textB noneN [] = T at *
  have hzi : (Try.prog.info? 24).map (·.size) = some (idVals S).size := by rw [idVals_size, hSl]; exact sizeId
  have hzs : ∀ zc : Array Value, zc.size = 32 → zc.size = (idVals S).size := fun zc h => by rw [h, idVals_size, hSl]
  have h1c := idVals_one S
  go_enter Try.func50, Try.ntmps50
  go_upto_region 1 with (fail)
  generalize hZ : (Obj.cells _ 24) = Z
  obtain ⟨zc, rfl, hzc⟩ : ∃ zc : Array Value, Z = Obj.cells zc 24 ∧ zc.size = 32 := ⟨_, hZ.symm, rfl⟩
  clear hZ
  have hz := Blk.new w 24 zc
  have hb := (Below.refl w.heap.size w).alloc (Nat.le_refl _) (.cells zc 24)
  have hgt : w.heap.size < (w.alloc (.cells zc 24)).heap.size := hz.lt
  generalize w.alloc (.cells zc 24) = w1 at *
  replace hzs := hzs zc hzc
  go_wp2_with (first
    | (go_at_call 95; (with_reducible refine (cT _).mono ?_); rintro e3 w3 ⟨rfl, hb3⟩; replace hz := hz.below hb3; replace hb := hb.trans (hb3.mono hb.size))
    | (go_at_call 65; (with_reducible refine (cS _).mono ?_); rintro e4 w4 ⟨rfl, hb4⟩; replace hz := hz.below hb4; replace hb := hb.trans (hb4.mono hb.size))
    | ((with_reducible refine wpList_store_blk rfl 24 _ _ rfl w.heap.size zc (idVals S) 24 hz rfl rfl hzi hzs h1c ?_); intro w9 hB9 hg9))
  have hb9 := below_grownM hb hg9
  unfold idVals at hB9 ⊢
  refine bodyPost_ret (ret_idM rfl _ _ _ S hSl rfl hB9) rfl ⟨rfl, hb9⟩
set_option maxRecDepth 100000 in
set_option maxHeartbeats 8000000 in
theorem mroot_1 (a : List UInt8) (A : Option Addr) (c : Nat) (w : World) (h : RowC w A 1 c [a]) :
    Calls Try.prog 50 #[.slice A 1 c] w fun e w' => e = .returned (.agg (idVals (rootM [a]))) ∧ Below w.heap.size w w' := by
  rw [rootM_one]
  have h3 := h.1.2.2
  obtain ⟨g, q, hg, ha, hix⟩ := h3.pick (k := 0) (a := a) c rfl rfl
  have hu := Try.underlying24
  have hza : (Try.prog.info? 24).map (·.size) = some (a.map u8v).length := by rw [List.length_map, ha]; exact sizeId
  have cT : ∀ W, Calls Try.prog 96 #[.agg (List.map u8v a).toArray] W fun e w' => e = .returned (.string (txt (textB itemN [a]))) ∧ Below W.heap.size W w' := fun W => mitem_any a ha W
  have cS := fun W => sum_any (textB itemN [a]) (textB_ids _ (by decide) _ (by simp [ha])) W
  have hSl := tagB_length itemN [a]
  have e : sumB (textB itemN [a]) = tagB itemN [a] := rfl
  rw [e] at cS
  generalize tagB itemN [a] = S at *
  generalize textB itemN [a] = T at *
  have hzi : (Try.prog.info? 24).map (·.size) = some (idVals S).size := by rw [idVals_size, hSl]; exact sizeId
  have hzs : ∀ zc : Array Value, zc.size = 32 → zc.size = (idVals S).size := fun zc h => by rw [h, idVals_size, hSl]
  have h1c := idVals_one S
  go_enter Try.func50, Try.ntmps50
  go_upto_region 1 with (fail)
  generalize hZ : (Obj.cells _ 24) = Z
  obtain ⟨zc, rfl, hzc⟩ : ∃ zc : Array Value, Z = Obj.cells zc 24 ∧ zc.size = 32 := ⟨_, hZ.symm, rfl⟩
  clear hZ
  have hz := Blk.new w 24 zc
  have hb := (Below.refl w.heap.size w).alloc (Nat.le_refl _) (.cells zc 24)
  have hgt : w.heap.size < (w.alloc (.cells zc 24)).heap.size := hz.lt
  have fa := hg.below hb
  generalize w.alloc (.cells zc 24) = w1 at *
  replace hzs := hzs zc hzc
  have hix0 : ∀ W : World, (Instr.indexAt 22 (.slice A 1 c) (.int .i64 0)).run Try.prog W = .ok (.pointer (some ⟨g, q, none⟩)) W := hix
  clear h3 h hix
  go_wp2_with (first
    | (with_reducible refine wpList_load_if (by with_unfolding_all rfl) 24 _ rfl _ _ rfl (a.map u8v) _ fa hu rfl hza ?_)
    | (go_at_call 96; (with_reducible refine (cT _).mono ?_); rintro e3 w3 ⟨rfl, hb3⟩; replace hz := hz.below hb3; replace hb := hb.trans (hb3.mono hb.size))
    | (go_at_call 65; (with_reducible refine (cS _).mono ?_); rintro e4 w4 ⟨rfl, hb4⟩; replace hz := hz.below hb4; replace hb := hb.trans (hb4.mono hb.size))
    | ((with_reducible refine wpList_store_blk rfl 24 _ _ rfl w.heap.size zc (idVals S) 24 hz rfl rfl hzi hzs h1c ?_); intro w9 hB9 hg9))
  have hb9 := below_grownM hb hg9
  unfold idVals at hB9 ⊢
  refine bodyPost_ret (ret_idM rfl _ _ _ S hSl rfl hB9) rfl ⟨rfl, hb9⟩
theorem wp_store_wholeM {P : Program} {w : World} {o : Oper} {a : Act} {K : Act → World → Prop} {Q : Exit → Act → World → Prop} (ty : TypeId) (x y : Operand) (ho : o.op = .store ty x y)
    (g : Nat) (old cs : Array Value) (t : TypeId) (hg : Blk w g t old) (hx : a.eval x = .pointer (some ⟨g, 0, none⟩)) (hy : a.eval y = .agg cs) (hi : (P.info? ty).map (·.size) = some cs.size) (hs : old.size = cs.size) (h1 : cs.all (·.oneCell') = true)
    (h : ∀ w', Blk w' g t cs → w.grownBy w' (some g) → K (a.put o.dst undef) w') : o.wp P a w K Q := by
  have hr : (Instr.storeAt ty (.pointer (some ⟨g, 0, none⟩)) (.agg cs)).run P w = .ok () (w.setRow g cs) := by
    simp only [Instr.storeAt, Instr.sureAddr, Sem.run_bind, Sem.run_pure, Result.andThen]
    exact run_storeVar_row _ g t ty old cs hg hi hs h1
  obtain ⟨hb, hgr⟩ := blk_over hg cs
  unfold Oper.wp
  simp [execOp, ho, hx, hy, hr]
  exact h _ hb hgr
set_option maxRecDepth 100000 in
set_option maxHeartbeats 8000000 in
theorem mroot_2 (l : List (List UInt8)) (A : Option Addr) (n c : Nat) (w : World) (h2 : 2 ≤ n) (hn : n ≤ 1000000) (hl : l.length = n)
    (A1 : Option Addr) (c1 : Nat) (A2 : Option Addr) (c2 : Nat)
    (e1 : ∀ W, (Instr.sliceAt 22 (.slice A n c) (some (.int .i64 (halfM n : Int))) none none).run Try.prog W = .ok (.slice A1 (n - halfM n) c1) W) (e2 : ∀ W, (Instr.sliceAt 22 (.slice A n c) none (some (.int .i64 (halfM n : Int))) none).run Try.prog W = .ok (.slice A2 (halfM n) c2) W)
    (cA : ∀ W, Below w.heap.size w W → Calls Try.prog 50 #[.slice A2 (halfM n) c2] W fun e w' => e = .returned (.agg (idVals (rootM (l.take (halfM n))))) ∧ Below W.heap.size W w')
    (cB : ∀ W, Below w.heap.size w W → Calls Try.prog 50 #[.slice A1 (n - halfM n) c1] W fun e w' => e = .returned (.agg (idVals (rootM (l.drop (halfM n))))) ∧ Below W.heap.size W w') :
    Calls Try.prog 50 #[.slice A n c] w fun e w' => e = .returned (.agg (idVals (rootM l))) ∧ Below w.heap.size w w' := by
  rw [rootM_two (by omega), hl]
  have hx := rootM_length (l.take (halfM n))
  have hy := rootM_length (l.drop (halfM n))
  generalize rootM (l.take (halfM n)) = x at *
  generalize rootM (l.drop (halfM n)) = y at *
  have cP := parting_any n h2 (by omega)
  generalize halfM n = k at *
  generalize n - k = m at *
  have cJ := mjoin_any x y hx hy
  have cS := fun W => sum_any (textB joinN [x, y]) (textB_ids _ (by decide) _ (by simp [hx, hy])) W
  have hSl := tagB_length joinN [x, y]
  have e : sumB (textB joinN [x, y]) = tagB joinN [x, y] := rfl
  rw [e] at cS
  generalize tagB joinN [x, y] = S at *
  generalize textB joinN [x, y] = T at *
  have z0 : ¬ ((n : Int) = 0) := by omega
  have z1 : ¬ ((n : Int) = 1) := by omega
  have z2 : ((n : Int) == 0) = false := by rw [beq_eq_false_iff_ne]; omega
  have z3 : ((n : Int) == 1) = false := by rw [beq_eq_false_iff_ne]; omega
  have hzi : (Try.prog.info? 24).map (·.size) = some (idVals S).size := by rw [idVals_size, hSl]; exact sizeId
  have hzs : ∀ zc : Array Value, zc.size = 32 → zc.size = (idVals S).size := fun zc h => by rw [h, idVals_size, hSl]
  have h1c := idVals_one S
  go_enter Try.func50, Try.ntmps50
  go_upto_region 1 with (fail)
  generalize hZ : (Obj.cells _ 24) = Z
  obtain ⟨zc, rfl, hzc⟩ : ∃ zc : Array Value, Z = Obj.cells zc 24 ∧ zc.size = 32 := ⟨_, hZ.symm, rfl⟩
  clear hZ
  have hz := Blk.new w 24 zc
  have hb := (Below.refl w.heap.size w).alloc (Nat.le_refl _) (.cells zc 24)
  have hgt : w.heap.size < (w.alloc (.cells zc 24)).heap.size := hz.lt
  generalize w.alloc (.cells zc 24) = w1 at *
  replace hzs := hzs zc hzc
  clear hl hx hy e hn h2 z0 z1
  go_wp2_with (first
    | (go_at_call 97; (with_reducible refine (cP _).mono ?_); rintro e2 w2 ⟨rfl, rfl⟩))
  refine wp_region_held_drew (S := fun _ => True) (by kernel_rfl) ?_ (fun hHeld => ?_)
  · trivial
  replace hz := hz.below (below_drew1 w1)
  replace hb := hb.trans ((below_drew1 w1).mono hb.size)
  generalize w1.drew = w0 at *
  refine' wpAnyH_take (i := 0) (v := .slice A n c) rfl (by kernel_rfl) (by kernel_rfl) (by kernel_rfl) (fun _ _ _ h => h) (Or.inl ⟨by rfl, fun w' hw' => by go_simp⟩) hHeld ?_
  try simp only [Act.put, List.getElem_toArray, List.getElem_cons_succ, List.getElem_cons_zero, List.setIfInBounds_toArray, List.set_cons_zero, List.set_cons_succ]
  refine' wpAnyH_take (i := 1) (v := .int .i64 k) rfl (by kernel_rfl) (by kernel_rfl) (by kernel_rfl) (fun _ _ _ h => h) (Or.inl ⟨by rfl, fun w' hw' => by go_simp⟩) hHeld ?_
  try simp only [Act.put, List.getElem_toArray, List.getElem_cons_succ, List.getElem_cons_zero, List.setIfInBounds_toArray, List.set_cons_zero, List.set_cons_succ]
  refine' wpAnyH_take (i := 2) (v := .slice A2 k c2) rfl (by kernel_rfl) (by kernel_rfl) (by kernel_rfl) (fun _ _ _ h => h) (Or.inl ⟨by rfl, fun w' hw' => by have hv := e2 w'; go_simp⟩) hHeld ?_
  try simp only [Act.put, List.getElem_toArray, List.getElem_cons_succ, List.getElem_cons_zero, List.setIfInBounds_toArray, List.set_cons_zero, List.set_cons_succ]
  refine' wpAnyH_take (i := 4) (v := .slice A n c) rfl (by kernel_rfl) (by kernel_rfl) (by kernel_rfl) (fun _ _ _ h => h) (Or.inl ⟨by rfl, fun w' hw' => by go_simp⟩) hHeld ?_
  try simp only [Act.put, List.getElem_toArray, List.getElem_cons_succ, List.getElem_cons_zero, List.setIfInBounds_toArray, List.set_cons_zero, List.set_cons_succ]
  refine' wpAnyH_take (i := 5) (v := .int .i64 k) rfl (by kernel_rfl) (by kernel_rfl) (by kernel_rfl) (fun _ _ _ h => h) (Or.inl ⟨by rfl, fun w' hw' => by go_simp⟩) hHeld ?_
  try simp only [Act.put, List.getElem_toArray, List.getElem_cons_succ, List.getElem_cons_zero, List.setIfInBounds_toArray, List.set_cons_zero, List.set_cons_succ]
  refine' wpAnyH_take (i := 6) (v := .slice A1 m c1) rfl (by kernel_rfl) (by kernel_rfl) (by kernel_rfl) (fun _ _ _ h => h) (Or.inl ⟨by rfl, fun w' hw' => by have hv := e1 w'; go_simp⟩) hHeld ?_
  try simp only [Act.put, List.getElem_toArray, List.getElem_cons_succ, List.getElem_cons_zero, List.setIfInBounds_toArray, List.set_cons_zero, List.set_cons_succ]
  refine wpAnyH_ready (rs := [3]) (by kernel_rfl) (by simp) ?_
  refine AllReadyH.cons rfl (fun K hK => ?_) AllReadyH.nil
  go_simp
  (with_reducible refine (cA _ hb).mono ?_)
  rintro e5 w5 ⟨rfl, hb5⟩
  replace hz := hz.below hb5
  replace hb := hb.trans (hb5.mono hb.size)
  refine hK.out _ _ trivial (fun hHeld => ?_)
  clear hK K
  try simp only [Act.put, List.getElem_toArray, List.getElem_cons_succ, List.getElem_cons_zero, List.setIfInBounds_toArray, List.set_cons_zero, List.set_cons_succ]
  refine wpAnyH_ready (rs := [7]) (by kernel_rfl) (by simp) ?_
  refine AllReadyH.cons rfl (fun K hK => ?_) AllReadyH.nil
  go_simp
  (with_reducible refine (cB _ hb).mono ?_)
  rintro e6 w6 ⟨rfl, hb6⟩
  replace hz := hz.below hb6
  replace hb := hb.trans (hb6.mono hb.size)
  refine hK.out _ _ trivial (fun hHeld => ?_)
  clear hK K
  try simp only [Act.put, List.getElem_toArray, List.getElem_cons_succ, List.getElem_cons_zero, List.setIfInBounds_toArray, List.set_cons_zero, List.set_cons_succ]
  refine wpAnyH_ready (rs := [8]) (by kernel_rfl) (by simp) ?_
  refine AllReadyH.cons rfl (fun K hK => ?_) AllReadyH.nil
  go_simp
  (with_reducible refine (cJ _).mono ?_)
  rintro e3 w3 ⟨rfl, hb3⟩
  replace hz := hz.below hb3
  replace hb := hb.trans (hb3.mono hb.size)
  refine hK.out _ _ trivial (fun hHeld => ?_)
  clear hK K
  try simp only [Act.put, List.getElem_toArray, List.getElem_cons_succ, List.getElem_cons_zero, List.setIfInBounds_toArray, List.set_cons_zero, List.set_cons_succ]
  refine wpAnyH_ready (rs := [9]) (by kernel_rfl) (by simp) ?_
  refine AllReadyH.cons rfl (fun K hK => ?_) AllReadyH.nil
  go_simp
  (with_reducible refine (cS _).mono ?_)
  rintro e4 w4 ⟨rfl, hb4⟩
  replace hz := hz.below hb4
  replace hb := hb.trans (hb4.mono hb.size)
  refine hK.out _ _ trivial (fun hHeld => ?_)
  clear hK K
  try simp only [Act.put, List.getElem_toArray, List.getElem_cons_succ, List.getElem_cons_zero, List.setIfInBounds_toArray, List.set_cons_zero, List.set_cons_succ]
  refine wpAnyH_ready (rs := [10]) (by kernel_rfl) (by simp) ?_
  refine AllReadyH.cons rfl (fun K hK => ?_) AllReadyH.nil
  refine wp_store_wholeM 24 _ _ rfl w.heap.size zc (idVals S) 24 hz rfl rfl hzi hzs h1c ?_
  intro w9 hB9 hg9
  refine hK.out _ _ trivial (fun hHeld => ?_)
  clear hK K
  try simp only [Act.put, List.getElem_toArray, List.getElem_cons_succ, List.getElem_cons_zero, List.setIfInBounds_toArray, List.set_cons_zero, List.set_cons_succ]
  refine wpAnyH_done (by kernel_rfl) ?_ _
  go_wp2
  have hb9 := below_grownM hb hg9
  unfold idVals at hB9 ⊢
  refine bodyPost_ret (ret_idM rfl _ _ _ S hSl rfl hB9) rfl ⟨rfl, hb9⟩
theorem mroot_any : ∀ (N : Nat) (l : List (List UInt8)) (_ : l.length ≤ N) (A : Option Addr) (n c : Nat) (w : World) (_ : RowC w A n c l),
    Calls Try.prog 50 #[.slice A n c] w fun e w' => e = .returned (.agg (idVals (rootM l))) ∧ Below w.heap.size w w' := by
  intro N
  induction N with
  | zero =>
    intro l hl A n c w h
    have h0 := h.1.1
    obtain rfl : l = [] := List.length_eq_zero_iff.1 (by omega)
    obtain rfl : n = 0 := by simpa using h0.symm
    exact mroot_0 A c w
  | succ N ih =>
    intro l hl A n c w h
    have h0 := h.1.1
    by_cases h2 : 2 ≤ n
    · have hk := halfM_ok h2
      obtain ⟨A1, c1, A2, c2, e1, e2, r1, r2⟩ := h.split hk.1 hk.2.1
      exact mroot_2 l A n c w h2 h.1.2.1 h0 A1 c1 A2 c2 e1 e2 (fun W hW => ih _ (by rw [List.length_take]; omega) _ _ _ W (r2.below hW)) (fun W hW => ih _ (by rw [List.length_drop]; omega) _ _ _ W (r1.below hW))
    · match l, h0, h with
      | [], h0, h =>
        obtain rfl : n = 0 := by simpa using h0.symm
        exact mroot_0 A c w
      | [a], h0, h =>
        obtain rfl : n = 1 := by simpa using h0.symm
        exact mroot_1 a A c w h
      | _ :: _ :: _, h0, _ => simp at h0; omega
end Go.Proofs.Ytkbokffonnjjiaa

namespace Go.Proofs.Ytkbokffonnjjiaa
open Go.RowKit Go.Qc Go.Shelf
attribute [local go_sem] txt_size txt_append ib_fold
set_option maxRecDepth 100000 in
set_option maxHeartbeats 8000000 in
theorem rroot_0 (A : Option Addr) (c : Nat) (w : World) :
    Calls Try.prog 17 #[.slice A 0 c] w fun e w' => e = .returned (.agg (idVals (rootM []))) ∧ Below w.heap.size w w' := by
  rw [rootM_nil]
  have cT : ∀ W, Calls Try.prog 55 #[.string ⟨#[110, 111, 110, 101]⟩, .slice none 0 0] W fun e w' => e = .returned (.agg (idVals (tagB noneN []))) ∧ Below W.heap.size W w' := fun W => rof_any noneN (by decide) none 0 0 [] rfl (by decide) W (.inl rfl)
  have hSl := tagB_length noneN []
  generalize tagB noneN [] = S at *
  have hzi : (Try.prog.info? 24).map (·.size) = some (idVals S).size := by rw [idVals_size, hSl]; exact sizeId
  have hzs : ∀ zc : Array Value, zc.size = 32 → zc.size = (idVals S).size := fun zc h => by rw [h, idVals_size, hSl]
  have h1c := idVals_one S
  go_enter Try.func17, Try.ntmps17
  go_upto_region 1 with (fail)
  generalize hZ : (Obj.cells _ 24) = Z
  obtain ⟨zc, rfl, hzc⟩ : ∃ zc : Array Value, Z = Obj.cells zc 24 ∧ zc.size = 32 := ⟨_, hZ.symm, rfl⟩
  clear hZ
  have hz := Blk.new w 24 zc
  have hb := (Below.refl w.heap.size w).alloc (Nat.le_refl _) (.cells zc 24)
  have hgt : w.heap.size < (w.alloc (.cells zc 24)).heap.size := hz.lt
  generalize w.alloc (.cells zc 24) = w1 at *
  replace hzs := hzs zc hzc
  go_wp2_with (first
    | (go_at_call 55; (with_reducible refine (cT _).mono ?_); rintro e3 w3 ⟨rfl, hb3⟩; replace hz := hz.below hb3; replace hb := hb.trans (hb3.mono hb.size))
    | ((with_reducible refine wpList_store_blk rfl 24 _ _ rfl w.heap.size zc (idVals S) 24 hz rfl rfl hzi hzs h1c ?_); intro w9 hB9 hg9))
  have hb9 := below_grownM hb hg9
  unfold idVals at hB9 ⊢
  refine bodyPost_ret (ret_idM rfl _ _ _ S hSl rfl hB9) rfl ⟨rfl, hb9⟩
set_option maxRecDepth 100000 in
set_option maxHeartbeats 8000000 in
theorem rroot_1 (a : List UInt8) (A : Option Addr) (c : Nat) (w : World) (h : RowC w A 1 c [a]) :
    Calls Try.prog 17 #[.slice A 1 c] w fun e w' => e = .returned (.agg (idVals (rootM [a]))) ∧ Below w.heap.size w w' := by
  rw [rootM_one]
  have h3 := h.1.2.2
  obtain ⟨g, q, hg, ha, hix⟩ := h3.pick (k := 0) (a := a) c rfl rfl
  have hu := Try.underlying24
  have hza : (Try.prog.info? 24).map (·.size) = some (a.map u8v).length := by rw [List.length_map, ha]; exact sizeId
  have cX : ∀ W : World, Calls Try.prog 56 #[.agg (List.map u8v a).toArray] W fun e w' => e = .returned (.string (txt a)) ∧ Below W.heap.size W w' := fun W => rid_any a ha W
  have cT : ∀ W A c, Rd W A ([a].map strV) → Calls Try.prog 55 #[.string ⟨#[105, 116, 101, 109]⟩, .slice A 1 c] W fun e w' => e = .returned (.agg (idVals (tagB itemN [a]))) ∧ Below W.heap.size W w' := fun W A c h => rof_any itemN (by decide) A 1 c [a] rfl (textB_ids _ (by decide) _ (by simp [ha])) W h
  have hSl := tagB_length itemN [a]
  generalize tagB itemN [a] = S at *
  have hzi : (Try.prog.info? 24).map (·.size) = some (idVals S).size := by rw [idVals_size, hSl]; exact sizeId
  have hzs : ∀ zc : Array Value, zc.size = 32 → zc.size = (idVals S).size := fun zc h => by rw [h, idVals_size, hSl]
  have h1c := idVals_one S
  go_enter Try.func17, Try.ntmps17
  go_upto_region 1 with (fail)
  generalize hZ : (Obj.cells _ 24) = Z
  obtain ⟨zc, rfl, hzc⟩ : ∃ zc : Array Value, Z = Obj.cells zc 24 ∧ zc.size = 32 := ⟨_, hZ.symm, rfl⟩
  clear hZ
  have hz := Blk.new w 24 zc
  have hb := (Below.refl w.heap.size w).alloc (Nat.le_refl _) (.cells zc 24)
  have hgt : w.heap.size < (w.alloc (.cells zc 24)).heap.size := hz.lt
  have fa := hg.below hb
  generalize w.alloc (.cells zc 24) = w1 at *
  replace hzs := hzs zc hzc
  have hix0 : ∀ W : World, (Instr.indexAt 22 (.slice A 1 c) (.int .i64 0)).run Try.prog W = .ok (.pointer (some ⟨g, q, none⟩)) W := hix
  clear h3 h hix
  go_wp2_with (first
    | (with_reducible refine wpList_load_if (by with_unfolding_all rfl) 24 _ rfl _ _ rfl (a.map u8v) _ fa hu rfl hza ?_)
    | (go_at_call 56; (with_reducible refine (cX _).mono ?_); rintro e2 w2 ⟨rfl, hb2⟩; replace hz := hz.below hb2; replace hb := hb.trans (hb2.mono hb.size); have hr1 := rd_one w2 a; have hal := (Below.refl w2.heap.size w2).alloc (Nat.le_refl _) (.cells #[.string (txt a)] 9); replace hz := hz.below hal; replace hb := hb.trans (hal.mono hb.size))
    | (go_at_call 55; (with_reducible refine (cT _ _ _ hr1).mono ?_); rintro e3 w3 ⟨rfl, hb3⟩; replace hz := hz.below hb3; replace hb := hb.trans (hb3.mono hb.size))
    | ((with_reducible refine wpList_store_blk rfl 24 _ _ rfl w.heap.size zc (idVals S) 24 hz rfl rfl hzi hzs h1c ?_); intro w9 hB9 hg9))
  have hb9 := below_grownM hb hg9
  unfold idVals at hB9 ⊢
  refine bodyPost_ret (ret_idM rfl _ _ _ S hSl rfl hB9) rfl ⟨rfl, hb9⟩
set_option maxRecDepth 100000 in
set_option maxHeartbeats 8000000 in
theorem rroot_2 (l : List (List UInt8)) (A : Option Addr) (n c : Nat) (w : World) (h2 : 2 ≤ n) (hn : n ≤ 1000000) (hl : l.length = n)
    (A1 : Option Addr) (c1 : Nat) (A2 : Option Addr) (c2 : Nat)
    (e1 : ∀ W, (Instr.sliceAt 22 (.slice A n c) (some (.int .i64 (halfM n : Int))) none none).run Try.prog W = .ok (.slice A1 (n - halfM n) c1) W) (e2 : ∀ W, (Instr.sliceAt 22 (.slice A n c) none (some (.int .i64 (halfM n : Int))) none).run Try.prog W = .ok (.slice A2 (halfM n) c2) W)
    (cA : ∀ W, Below w.heap.size w W → Calls Try.prog 17 #[.slice A2 (halfM n) c2] W fun e w' => e = .returned (.agg (idVals (rootM (l.take (halfM n))))) ∧ Below W.heap.size W w')
    (cB : ∀ W, Below w.heap.size w W → Calls Try.prog 17 #[.slice A1 (n - halfM n) c1] W fun e w' => e = .returned (.agg (idVals (rootM (l.drop (halfM n))))) ∧ Below W.heap.size W w') :
    Calls Try.prog 17 #[.slice A n c] w fun e w' => e = .returned (.agg (idVals (rootM l))) ∧ Below w.heap.size w w' := by
  rw [rootM_two (by omega), hl]
  have hx := rootM_length (l.take (halfM n))
  have hy := rootM_length (l.drop (halfM n))
  generalize rootM (l.take (halfM n)) = x at *
  generalize rootM (l.drop (halfM n)) = y at *
  have cP := rhalf_any n h2 (by omega)
  generalize halfM n = k at *
  generalize n - k = m at *
  have cJ : ∀ W, Calls Try.prog 57 #[.string ⟨#[106, 111, 105, 110]⟩, .agg (idVals x), .agg (idVals y)] W fun e w' => e = .returned (.agg (idVals (tagB joinN [x, y]))) ∧ Below W.heap.size W w' := fun W => rpair_any joinN (by decide) x y hx hy W
  have hSl := tagB_length joinN [x, y]
  generalize tagB joinN [x, y] = S at *
  have z0 : ¬ ((n : Int) = 0) := by omega
  have z1 : ¬ ((n : Int) = 1) := by omega
  have z2 : ((n : Int) == 0) = false := by rw [beq_eq_false_iff_ne]; omega
  have z3 : ((n : Int) == 1) = false := by rw [beq_eq_false_iff_ne]; omega
  have hzi : (Try.prog.info? 24).map (·.size) = some (idVals S).size := by rw [idVals_size, hSl]; exact sizeId
  have hzs : ∀ zc : Array Value, zc.size = 32 → zc.size = (idVals S).size := fun zc h => by rw [h, idVals_size, hSl]
  have h1c := idVals_one S
  go_enter Try.func17, Try.ntmps17
  go_upto_region 1 with (fail)
  generalize hZ : (Obj.cells _ 24) = Z
  obtain ⟨zc, rfl, hzc⟩ : ∃ zc : Array Value, Z = Obj.cells zc 24 ∧ zc.size = 32 := ⟨_, hZ.symm, rfl⟩
  clear hZ
  have hz := Blk.new w 24 zc
  have hb := (Below.refl w.heap.size w).alloc (Nat.le_refl _) (.cells zc 24)
  have hgt : w.heap.size < (w.alloc (.cells zc 24)).heap.size := hz.lt
  generalize w.alloc (.cells zc 24) = w1 at *
  replace hzs := hzs zc hzc
  clear hl hx hy hn h2 z0 z1
  go_wp2_with (first
    | (go_at_call 54; (with_reducible refine (cP _).mono ?_); rintro e2 w2 ⟨rfl, rfl⟩))
  refine wp_region_held_drew (S := fun _ => True) (by kernel_rfl) ?_ (fun hHeld => ?_)
  · trivial
  replace hz := hz.below (below_drew1 w1)
  replace hb := hb.trans ((below_drew1 w1).mono hb.size)
  generalize w1.drew = w0 at *
  refine' wpAnyH_take (i := 0) (v := .slice A n c) rfl (by kernel_rfl) (by kernel_rfl) (by kernel_rfl) (fun _ _ _ h => h) (Or.inl ⟨by rfl, fun w' hw' => by go_simp⟩) hHeld ?_
  try simp only [Act.put, List.getElem_toArray, List.getElem_cons_succ, List.getElem_cons_zero, List.setIfInBounds_toArray, List.set_cons_zero, List.set_cons_succ]
  refine' wpAnyH_take (i := 1) (v := .int .i64 k) rfl (by kernel_rfl) (by kernel_rfl) (by kernel_rfl) (fun _ _ _ h => h) (Or.inl ⟨by rfl, fun w' hw' => by go_simp⟩) hHeld ?_
  try simp only [Act.put, List.getElem_toArray, List.getElem_cons_succ, List.getElem_cons_zero, List.setIfInBounds_toArray, List.set_cons_zero, List.set_cons_succ]
  refine' wpAnyH_take (i := 2) (v := .slice A2 k c2) rfl (by kernel_rfl) (by kernel_rfl) (by kernel_rfl) (fun _ _ _ h => h) (Or.inl ⟨by rfl, fun w' hw' => by have hv := e2 w'; go_simp⟩) hHeld ?_
  try simp only [Act.put, List.getElem_toArray, List.getElem_cons_succ, List.getElem_cons_zero, List.setIfInBounds_toArray, List.set_cons_zero, List.set_cons_succ]
  refine' wpAnyH_take (i := 4) (v := .slice A n c) rfl (by kernel_rfl) (by kernel_rfl) (by kernel_rfl) (fun _ _ _ h => h) (Or.inl ⟨by rfl, fun w' hw' => by go_simp⟩) hHeld ?_
  try simp only [Act.put, List.getElem_toArray, List.getElem_cons_succ, List.getElem_cons_zero, List.setIfInBounds_toArray, List.set_cons_zero, List.set_cons_succ]
  refine' wpAnyH_take (i := 5) (v := .int .i64 k) rfl (by kernel_rfl) (by kernel_rfl) (by kernel_rfl) (fun _ _ _ h => h) (Or.inl ⟨by rfl, fun w' hw' => by go_simp⟩) hHeld ?_
  try simp only [Act.put, List.getElem_toArray, List.getElem_cons_succ, List.getElem_cons_zero, List.setIfInBounds_toArray, List.set_cons_zero, List.set_cons_succ]
  refine' wpAnyH_take (i := 6) (v := .slice A1 m c1) rfl (by kernel_rfl) (by kernel_rfl) (by kernel_rfl) (fun _ _ _ h => h) (Or.inl ⟨by rfl, fun w' hw' => by have hv := e1 w'; go_simp⟩) hHeld ?_
  try simp only [Act.put, List.getElem_toArray, List.getElem_cons_succ, List.getElem_cons_zero, List.setIfInBounds_toArray, List.set_cons_zero, List.set_cons_succ]
  refine wpAnyH_ready (rs := [3]) (by kernel_rfl) (by simp) ?_
  refine AllReadyH.cons rfl (fun K hK => ?_) AllReadyH.nil
  go_simp
  (with_reducible refine (cA _ hb).mono ?_)
  rintro e5 w5 ⟨rfl, hb5⟩
  replace hz := hz.below hb5
  replace hb := hb.trans (hb5.mono hb.size)
  refine hK.out _ _ trivial (fun hHeld => ?_)
  clear hK K
  try simp only [Act.put, List.getElem_toArray, List.getElem_cons_succ, List.getElem_cons_zero, List.setIfInBounds_toArray, List.set_cons_zero, List.set_cons_succ]
  refine wpAnyH_ready (rs := [7]) (by kernel_rfl) (by simp) ?_
  refine AllReadyH.cons rfl (fun K hK => ?_) AllReadyH.nil
  go_simp
  (with_reducible refine (cB _ hb).mono ?_)
  rintro e6 w6 ⟨rfl, hb6⟩
  replace hz := hz.below hb6
  replace hb := hb.trans (hb6.mono hb.size)
  refine hK.out _ _ trivial (fun hHeld => ?_)
  clear hK K
  try simp only [Act.put, List.getElem_toArray, List.getElem_cons_succ, List.getElem_cons_zero, List.setIfInBounds_toArray, List.set_cons_zero, List.set_cons_succ]
  refine wpAnyH_ready (rs := [8]) (by kernel_rfl) (by simp) ?_
  refine AllReadyH.cons rfl (fun K hK => ?_) AllReadyH.nil
  go_simp
  (with_reducible refine (cJ _).mono ?_)
  rintro e3 w3 ⟨rfl, hb3⟩
  replace hz := hz.below hb3
  replace hb := hb.trans (hb3.mono hb.size)
  refine hK.out _ _ trivial (fun hHeld => ?_)
  clear hK K
  try simp only [Act.put, List.getElem_toArray, List.getElem_cons_succ, List.getElem_cons_zero, List.setIfInBounds_toArray, List.set_cons_zero, List.set_cons_succ]
  refine wpAnyH_ready (rs := [9]) (by kernel_rfl) (by simp) ?_
  refine AllReadyH.cons rfl (fun K hK => ?_) AllReadyH.nil
  refine wp_store_wholeM 24 _ _ rfl w.heap.size zc (idVals S) 24 hz rfl rfl hzi hzs h1c ?_
  intro w9 hB9 hg9
  refine hK.out _ _ trivial (fun hHeld => ?_)
  clear hK K
  try simp only [Act.put, List.getElem_toArray, List.getElem_cons_succ, List.getElem_cons_zero, List.setIfInBounds_toArray, List.set_cons_zero, List.set_cons_succ]
  refine wpAnyH_done (by kernel_rfl) ?_ _
  go_wp2
  have hb9 := below_grownM hb hg9
  unfold idVals at hB9 ⊢
  refine bodyPost_ret (ret_idM rfl _ _ _ S hSl rfl hB9) rfl ⟨rfl, hb9⟩
theorem rroot_any : ∀ (N : Nat) (l : List (List UInt8)) (_ : l.length ≤ N) (A : Option Addr) (n c : Nat) (w : World) (_ : RowC w A n c l),
    Calls Try.prog 17 #[.slice A n c] w fun e w' => e = .returned (.agg (idVals (rootM l))) ∧ Below w.heap.size w w' := by
  intro N
  induction N with
  | zero =>
    intro l hl A n c w h
    have h0 := h.1.1
    obtain rfl : l = [] := List.length_eq_zero_iff.1 (by omega)
    obtain rfl : n = 0 := by simpa using h0.symm
    exact rroot_0 A c w
  | succ N ih =>
    intro l hl A n c w h
    have h0 := h.1.1
    by_cases h2 : 2 ≤ n
    · have hk := halfM_ok h2
      obtain ⟨A1, c1, A2, c2, e1, e2, r1, r2⟩ := h.split hk.1 hk.2.1
      exact rroot_2 l A n c w h2 h.1.2.1 h0 A1 c1 A2 c2 e1 e2 (fun W hW => ih _ (by rw [List.length_take]; omega) _ _ _ W (r2.below hW)) (fun W hW => ih _ (by rw [List.length_drop]; omega) _ _ _ W (r1.below hW))
    · match l, h0, h with
      | [], h0, h =>
        obtain rfl : n = 0 := by simpa using h0.symm
        exact rroot_0 A c w
      | [a], h0, h =>
        obtain rfl : n = 1 := by simpa using h0.symm
        exact rroot_1 a A c w h
      | _ :: _ :: _, h0, _ => simp at h0; omega
end Go.Proofs.Ytkbokffonnjjiaa

namespace Go.Proofs.Ytkbokffonnjjiaa
open Go.RowKit Go.Qc Go.Shelf
attribute [local go_sem] txt_size txt_append ib_fold
def setN : List UInt8 := [115, 101, 116]
/-- A count as eight bytes; below zero it is zero. -/
def cntB (v : Int) : List UInt8 := numB (BitVec.ofNat 64 v.toNat) 8
/-- A set's sum. -/
def wholeM (v : Int) (r : List UInt8) : List UInt8 := tagB setN [cntB v, r]
theorem lv_cnt (v : Int) (h : v < 9223372036854775808) : lv (BitVec.ofNat 64 v.toNat) = (v.toNat : Int) := by
  unfold lv
  rw [BitVec.toNat_ofNat, Nat.mod_eq_of_lt (by omega)]
theorem shr_64 (x : BitVec 64) : x >>> (8 * 8) = 0#64 := by
  apply BitVec.eq_of_toNat_eq
  rw [BitVec.toNat_ushiftRight, Nat.shiftRight_eq_div_pow]
  exact Nat.div_eq_of_lt x.isLt
set_option maxRecDepth 100000 in
set_option maxHeartbeats 8000000 in
theorem whole_any (v : Int) (hv : v < 9223372036854775808) (r : List UInt8) (hr : r.length = 32) (w : World) :
    Calls Try.prog 64 #[.int .i64 v, .agg (idVals r)] w fun e w' => e = .returned (.string (txt (textB setN [cntB v, r]))) ∧ Below w.heap.size w w' := by
  have cN : ∀ W, Calls Try.prog 103 #[.int .u64 (v.toNat : Int), .int .i64 8] W fun e w' => e = .returned (.tuple #[.string (txt (cntB v)), .bool true]) ∧ Below W.heap.size W w' := fun W => by
    have := number_any (BitVec.ofNat 64 v.toNat) 8 (by omega) (shr_64 _) W
    rw [lv_cnt v hv] at this
    exact this
  have hl : (cntB v).length = 8 := numB_length _ _
  have cT : ∀ W A c, Rd W A ([cntB v, r].map strV) → Calls Try.prog 95 #[.string ⟨#[115, 101, 116]⟩, .slice A 2 c] W fun e w' => e = .returned (.string (txt (textB setN [cntB v, r]))) ∧ Below W.heap.size W w' := fun W A c h => mtext_any setN (by decide) A 2 c [cntB v, r] rfl (by simp [textB, partB, numB_length, hl, hr, setN]) W h
  generalize textB setN [cntB v, r] = T at *
  generalize cntB v = B at *
  obtain ⟨c, hc⟩ : ∃ c : Nat, v.toNat = c := ⟨_, rfl⟩
  rw [hc] at cN
  have hmx : max v 0 = (c : Int) := by omega
  go_enter Try.func64, Try.ntmps64
  go_upto_region 1 with (fail)
  have hb := (Below.refl w.heap.size w).alloc (Nat.le_refl _) (.cells (idVals r) 24)
  have hra := range_blk (Blk.new w 24 (idVals r))
  generalize w.alloc (.cells (idVals r) 24) = w1 at *
  go_wp2_with (first
    | (go_at_call 103; (with_reducible refine (cN _).mono ?_); rintro e2 w2 ⟨rfl, hb2⟩; replace hra := hra.below hb2; replace hb := hb.trans (hb2.mono hb.size); have va := id_text w2 w.heap.size r hr hra; have hr1 := rd_two w2 B r; have hal := (Below.refl w2.heap.size w2).alloc (Nat.le_refl _) (.cells #[.string (txt B), .string (txt r)] 9); replace hb := hb.trans (hal.mono hb.size))
    | (go_at_call 95; (with_reducible refine (cT _ _ _ hr1).mono ?_); rintro e3 w3 ⟨rfl, hb3⟩))
  go_ret
  exact ⟨rfl, hb.trans (hb3.mono hb.size)⟩
set_option maxRecDepth 100000 in
set_option maxHeartbeats 8000000 in
theorem rwhole_any (v : Int) (hv : v < 9223372036854775808) (r : List UInt8) (hr : r.length = 32) (w : World) :
    Calls Try.prog 21 #[.int .i64 v, .agg (idVals r)] w fun e w' => e = .returned (.agg (idVals (wholeM v r))) ∧ Below w.heap.size w w' := by
  unfold wholeM
  have cN : ∀ W, Calls Try.prog 62 #[.int .u64 (v.toNat : Int), .int .i64 8] W fun e w' => e = .returned (.tuple #[.string (txt (cntB v)), .bool true]) ∧ Below W.heap.size W w' := fun W => by
    have := rnumber_any (BitVec.ofNat 64 v.toNat) 8 (by omega) (shr_64 _) W
    rw [lv_cnt v hv] at this
    exact this
  have cX : ∀ W : World, Calls Try.prog 56 #[.agg (List.map u8v r).toArray] W fun e w' => e = .returned (.string (txt r)) ∧ Below W.heap.size W w' := fun W => rid_any r hr W
  have hl : (cntB v).length = 8 := numB_length _ _
  have cT : ∀ W A c, Rd W A ([cntB v, r].map strV) → Calls Try.prog 55 #[.string ⟨#[115, 101, 116]⟩, .slice A 2 c] W fun e w' => e = .returned (.agg (idVals (tagB setN [cntB v, r]))) ∧ Below W.heap.size W w' := fun W A c h => rof_any setN (by decide) A 2 c [cntB v, r] rfl (by simp [textB, partB, numB_length, hl, hr, setN]) W h
  have hSl := tagB_length setN [cntB v, r]
  generalize tagB setN [cntB v, r] = S at *
  generalize cntB v = B at *
  have hu := Try.underlying24
  have hzr : (Try.prog.info? 24).map (·.size) = some (r.map u8v).length := by rw [List.length_map, hr]; exact sizeId
  have hzi : (Try.prog.info? 24).map (·.size) = some (idVals S).size := by rw [idVals_size, hSl]; exact sizeId
  have h1c := idVals_one S
  obtain ⟨c, hc⟩ : ∃ c : Nat, v.toNat = c := ⟨_, rfl⟩
  rw [hc] at cN
  go_enter Try.func21, Try.ntmps21
  go_upto_region 1 with (fail)
  have hb := (Below.refl w.heap.size w).alloc (Nat.le_refl _) (.cells (idVals r) 24)
  have hra := range_blk (Blk.new w 24 (idVals r))
  have hs1 := World.size_alloc w (.cells (idVals r) 24)
  generalize w.alloc (.cells (idVals r) 24) = w1 at *
  generalize hZ : (Obj.cells _ 24) = Z
  obtain ⟨zc, rfl, hzc⟩ : ∃ zc : Array Value, Z = Obj.cells zc 24 ∧ zc.size = 32 := ⟨_, hZ.symm, rfl⟩
  clear hZ
  have hzs : zc.size = (idVals S).size := by rw [hzc, idVals_size, hSl]
  have hz := Blk.new w1 24 zc
  have hal := (Below.refl w1.heap.size w1).alloc (Nat.le_refl _) (.cells zc 24)
  replace hra := hra.below hal
  replace hb := hb.trans (hal.mono hb.size)
  rw [hs1] at hz
  generalize w1.alloc (.cells zc 24) = w2 at *
  clear hal hs1
  by_cases h0 : v < 0
  · obtain rfl : c = 0 := by omega
    replace cN : ∀ W, Calls Try.prog 62 #[.int .u64 0, .int .i64 8] W fun e w' => e = .returned (.tuple #[.string (txt B), .bool true]) ∧ Below W.heap.size W w' := cN
    go_wp2_with (first
      | (go_at_call 62; (with_reducible refine (cN _).mono ?_); rintro e2 w3 ⟨rfl, hb2⟩; replace hra := hra.below hb2; replace hz := hz.below hb2; replace hb := hb.trans (hb2.mono hb.size))
      | (with_reducible refine wpList_load_if (by with_unfolding_all rfl) 24 _ rfl _ _ rfl (r.map u8v) _ hra hu rfl hzr ?_)
      | (go_at_call 56; (with_reducible refine (cX _).mono ?_); rintro e3 w4 ⟨rfl, hb3⟩; replace hz := hz.below hb3; replace hb := hb.trans (hb3.mono hb.size); have hr1 := rd_two w4 B r; have hal := (Below.refl w4.heap.size w4).alloc (Nat.le_refl _) (.cells #[.string (txt B), .string (txt r)] 9); replace hz := hz.below hal; replace hb := hb.trans (hal.mono hb.size))
      | (go_at_call 55; (with_reducible refine (cT _ _ _ hr1).mono ?_); rintro e5 w5 ⟨rfl, hb5⟩; replace hz := hz.below hb5; replace hb := hb.trans (hb5.mono hb.size))
      | ((with_reducible refine wpList_store_blk rfl 24 _ _ rfl (w.heap.size + 1) zc (idVals S) 24 hz rfl rfl hzi hzs h1c ?_); intro w9 hB9 hg9))
    have hb9 := hb.grown hg9 hb.size (fun i e => by have := Option.some.inj e; omega)
    unfold idVals at hB9 ⊢
    refine bodyPost_ret (ret_idM rfl _ _ _ S hSl rfl hB9) rfl ⟨rfl, hb9⟩
  · obtain rfl : v = (c : Int) := by omega
    go_wp2_with (first
      | (go_at_call 62; (with_reducible refine (cN _).mono ?_); rintro e2 w3 ⟨rfl, hb2⟩; replace hra := hra.below hb2; replace hz := hz.below hb2; replace hb := hb.trans (hb2.mono hb.size))
      | (with_reducible refine wpList_load_if (by with_unfolding_all rfl) 24 _ rfl _ _ rfl (r.map u8v) _ hra hu rfl hzr ?_)
      | (go_at_call 56; (with_reducible refine (cX _).mono ?_); rintro e3 w4 ⟨rfl, hb3⟩; replace hz := hz.below hb3; replace hb := hb.trans (hb3.mono hb.size); have hr1 := rd_two w4 B r; have hal := (Below.refl w4.heap.size w4).alloc (Nat.le_refl _) (.cells #[.string (txt B), .string (txt r)] 9); replace hz := hz.below hal; replace hb := hb.trans (hal.mono hb.size))
      | (go_at_call 55; (with_reducible refine (cT _ _ _ hr1).mono ?_); rintro e5 w5 ⟨rfl, hb5⟩; replace hz := hz.below hb5; replace hb := hb.trans (hb5.mono hb.size))
      | ((with_reducible refine wpList_store_blk rfl 24 _ _ rfl (w.heap.size + 1) zc (idVals S) 24 hz rfl rfl hzi hzs h1c ?_); intro w9 hB9 hg9))
    have hb9 := hb.grown hg9 hb.size (fun i e => by have := Option.some.inj e; omega)
    unfold idVals at hB9 ⊢
    refine bodyPost_ret (ret_idM rfl _ _ _ S hSl rfl hB9) rfl ⟨rfl, hb9⟩
end Go.Proofs.Ytkbokffonnjjiaa

namespace Go.Proofs.Ytkbokffonnjjiaa
open Go.RowKit Go.Qc Go.Shelf
attribute [local go_sem] txt_size txt_append ib_fold
theorem wpList_build_byM {w : World} {ops : Array Oper} {rest : List Oper} {o : Oper} {a : Act} {Q : Exit → Act → World → Prop} (hgd : o.guard = none) (ty : TypeId) (parts : Array (Nat × Operand)) (ho : o.op = .build ty parts)
    (ps : Array (Nat × Value)) (v : Value) (hb : ∀ W, (Instr.build ty ps).run Try.prog W = .ok v W) (hp : (parts.map fun (i, x) => (i, a.eval x)) = ps)
    (h : wpList Try.prog ops Q rest (a.put o.dst v) w) : wpList Try.prog ops Q (o :: rest) a w := by
  refine wpList_plain hgd fun K' hK' => ?_
  have hr := hb w
  rw [← hp] at hr
  unfold Oper.wp
  simp only [execOp, ho]
  simp only [Sem.run_bind, hr, Result.andThen, Sem.run_pure]
  exact hK' _ _ h
set_option maxRecDepth 100000 in
set_option maxHeartbeats 8000000 in
theorem rsum21_any (A : Option Addr) (n c : Nat) (l : List (List UInt8)) (w : World) (h : RowC w A n c l) :
    Calls Try.prog 19 #[.slice A n c] w fun e w' => e = .returned (.agg (idVals (wholeM (n : Int) (rootM l)))) ∧ Below w.heap.size w w' := by
  have hl := rootM_length l
  have hn : (n : Int) < 9223372036854775808 := by have := h.1.2.1; omega
  have cW := fun W => rwhole_any (n : Int) hn (rootM l) hl W
  have hSl : (wholeM (n : Int) (rootM l)).length = 32 := tagB_length _ _
  have cR : ∀ W, RowC W A n c l → Calls Try.prog 17 #[.slice A n c] W fun e w' => e = .returned (.agg (idVals (rootM l))) ∧ Below W.heap.size W w' := fun W hW => rroot_any l.length l (Nat.le_refl _) A n c W hW
  generalize wholeM (n : Int) (rootM l) = S at *
  generalize rootM l = x at *
  have hzi : (Try.prog.info? 24).map (·.size) = some (idVals S).size := by rw [idVals_size, hSl]; exact sizeId
  have h1c := idVals_one S
  go_enter Try.func19, Try.ntmps19
  go_upto_region 1 with (fail)
  generalize hZ : (Obj.cells _ 24) = Z
  obtain ⟨zc, rfl, hzc⟩ : ∃ zc : Array Value, Z = Obj.cells zc 24 ∧ zc.size = 32 := ⟨_, hZ.symm, rfl⟩
  clear hZ
  have hz := Blk.new w 24 zc
  have hb := (Below.refl w.heap.size w).alloc (Nat.le_refl _) (.cells zc 24)
  have hzs : zc.size = (idVals S).size := by rw [hzc, idVals_size, hSl]
  have hrow := h.below hb
  generalize w.alloc (.cells zc 24) = w1 at *
  go_wp2_with (first
    | (go_at_call 17; (with_reducible refine (cR _ hrow).mono ?_); rintro e3 w3 ⟨rfl, hb3⟩; replace hz := hz.below hb3; replace hb := hb.trans (hb3.mono hb.size))
    | (go_at_call 21; (with_reducible refine (cW _).mono ?_); rintro e4 w4 ⟨rfl, hb4⟩; replace hz := hz.below hb4; replace hb := hb.trans (hb4.mono hb.size))
    | ((with_reducible refine wpList_store_blk rfl 24 _ _ rfl w.heap.size zc (idVals S) 24 hz rfl rfl hzi hzs h1c ?_); intro w9 hB9 hg9))
  have hb9 := below_grownM hb hg9
  unfold idVals at hB9 ⊢
  refine bodyPost_ret (ret_idM rfl _ _ _ S hSl rfl hB9) rfl ⟨rfl, hb9⟩
end Go.Proofs.Ytkbokffonnjjiaa

namespace Go.Proofs.Ytkbokffonnjjiaa
open Go.RowKit Go.Qc Go.Shelf
attribute [local go_sem] txt_size txt_append ib_fold
/-- The parts beside a place, from the lowest parting up. -/
def partsL (a b p : Nat) : List (Nat × Nat) :=
  if h : b - a ≤ 1 then [] else
  if p < a + halfM (b - a) then partsL a (a + halfM (b - a)) p ++ [(a + halfM (b - a), b)] else partsL (a + halfM (b - a)) b p ++ [(a, a + halfM (b - a))]
termination_by b - a
decreasing_by
  · have := halfM_ok (n := b - a) (by omega); omega
  · have := halfM_ok (n := b - a) (by omega); omega
theorem partsL_end {a b : Nat} (p : Nat) (h : b - a ≤ 1) : partsL a b p = [] := by rw [partsL, dif_pos h]
theorem partsL_low {a b p : Nat} (h : ¬ b - a ≤ 1) (hp : p < a + halfM (b - a)) : partsL a b p = partsL a (a + halfM (b - a)) p ++ [(a + halfM (b - a), b)] := by
  conv => lhs; rw [partsL]
  rw [dif_neg h, if_pos hp]
theorem partsL_high {a b p : Nat} (h : ¬ b - a ≤ 1) (hp : ¬ p < a + halfM (b - a)) : partsL a b p = partsL (a + halfM (b - a)) b p ++ [(a, a + halfM (b - a))] := by
  conv => lhs; rw [partsL]
  rw [dif_neg h, if_neg hp]
set_option maxRecDepth 100000 in
set_option maxHeartbeats 8000000 in
theorem parted_any (fn : FuncId) (hfn : ∀ args W, (callFunc fn args).run Try.prog W = .ok (.enter fn args) W) (cap : Array Value) (J : Nat → World → Prop) :
    ∀ (N a b p : Nat) (_ : b - a ≤ N) (_ : a ≤ b) (_ : b ≤ 1099511627776) (_ : p ≤ 1099511627776)
      (_ : ∀ i x W, (partsL a b p)[i]? = some x → J i W → Calls Try.prog fn (#[.int .i64 (x.1 : Int), .int .i64 (x.2 : Int)] ++ cap) W fun e w' => e = .returned (.tuple #[]) ∧ J (i + 1) w') (w : World) (_ : J 0 w),
      Calls Try.prog 51 #[.int .i64 (a : Int), .int .i64 (b : Int), .int .i64 (p : Int), .func (.func fn) #[] cap] w fun e w' => e = .returned (.tuple #[]) ∧ J (partsL a b p).length w' := by
  intro N
  induction N with
  | zero =>
    intro a b p h0 hab hb hp cF w hJ
    obtain rfl : a = b := by omega
    rw [partsL_end p (by omega)]
    have e1 : wrap64 ((a : Int) - a) = 0 := by unfold wrap64; omega
    go_enter Try.func51, Try.ntmps51
    go_wp2
    refine bodyPost_ret (results_none rfl _ _ _) rfl ?_
    exact ⟨rfl, hJ⟩
  | succ N ih =>
    intro a b p h0 hab hb hp cF w hJ
    have e1 : wrap64 ((b : Int) - a) = ((b - a : Nat) : Int) := by unfold wrap64; omega
    by_cases h1 : b - a ≤ 1
    · rw [partsL_end p h1]
      have z1 : ((b - a : Nat) : Int) ≤ 1 := by omega
      clear h0 hab ih cF
      generalize b - a = s at *
      go_enter Try.func51, Try.ntmps51
      go_wp2
      refine bodyPost_ret (results_none rfl _ _ _) rfl ?_
      exact ⟨rfl, hJ⟩
    · have hk := halfM_ok (n := b - a) (by omega)
      have cP := parting_any (b - a) (by omega) (by omega)
      have z1 : ¬ ((b - a : Nat) : Int) ≤ 1 := by omega
      obtain ⟨m, hm⟩ : ∃ m, a + halfM (b - a) = m := ⟨_, rfl⟩
      have e2 : wrap64 ((a : Int) + (halfM (b - a) : Int)) = (m : Int) := by unfold wrap64; omega
      by_cases hlt : p < m
      · have hL := partsL_low h1 (by rw [hm]; exact hlt)
        rw [hm] at hL
        rw [hL] at cF ⊢
        have cI := ih a m p (by omega) (by omega) (by omega) hp (fun i x W hx hi => cF i x W (by rw [List.getElem?_append_left (List.getElem?_eq_some_iff.1 hx).1]; exact hx) hi) w hJ
        have cX := fun W => cF (partsL a m p).length (m, b) W (by rw [List.getElem?_append_right (Nat.le_refl _), Nat.sub_self]; rfl)
        have hlen : (partsL a m p ++ [(m, b)]).length = (partsL a m p).length + 1 := by simp
        rw [hlen]
        generalize (partsL a m p).length = L at *
        have z2 : (p : Int) < m := by omega
        clear hL hlen ih cF hm h0 h1 hk hlt hab
        generalize halfM (b - a) = k at *
        generalize b - a = s at *
        go_enter Try.func51, Try.ntmps51
        go_wp2_with (first
          | (go_at_call 97; (with_reducible refine (cP _).mono ?_); rintro e3 w3 ⟨rfl, rfl⟩)
          | (go_at_call 51; (with_reducible refine cI.mono ?_); rintro e4 w4 ⟨rfl, hJ4⟩)
          | ((with_reducible refine (cX _ hJ4).mono ?_); rintro e5 w5 ⟨rfl, hJ5⟩))
        refine bodyPost_ret (results_none rfl _ _ _) rfl ?_
        exact ⟨rfl, hJ5⟩
      · have hL := partsL_high h1 (by rw [hm]; exact hlt)
        rw [hm] at hL
        rw [hL] at cF ⊢
        have cI := ih m b p (by omega) (by omega) (by omega) hp (fun i x W hx hi => cF i x W (by rw [List.getElem?_append_left (List.getElem?_eq_some_iff.1 hx).1]; exact hx) hi) w hJ
        have cX := fun W => cF (partsL m b p).length (a, m) W (by rw [List.getElem?_append_right (Nat.le_refl _), Nat.sub_self]; rfl)
        have hlen : (partsL m b p ++ [(a, m)]).length = (partsL m b p).length + 1 := by simp
        rw [hlen]
        generalize (partsL m b p).length = L at *
        have z2 : ¬ (p : Int) < m := by omega
        clear hL hlen ih cF hm h0 h1 hk hlt hab
        generalize halfM (b - a) = k at *
        generalize b - a = s at *
        go_enter Try.func51, Try.ntmps51
        go_wp2_with (first
          | (go_at_call 97; (with_reducible refine (cP _).mono ?_); rintro e3 w3 ⟨rfl, rfl⟩)
          | (go_at_call 51; (with_reducible refine cI.mono ?_); rintro e4 w4 ⟨rfl, hJ4⟩)
          | ((with_reducible refine (cX _ hJ4).mono ?_); rintro e5 w5 ⟨rfl, hJ5⟩))
        go_end0
        exact ⟨rfl, hJ5⟩
end Go.Proofs.Ytkbokffonnjjiaa

namespace Go.Proofs.Ytkbokffonnjjiaa
open Go.RowKit Go.Qc Go.Shelf
attribute [local go_sem] txt_size txt_append ib_fold
theorem partsL_len (a b p : Nat) : (partsL a b p).length ≤ b - a := by
  by_cases h : b - a ≤ 1
  · rw [partsL_end p h]; exact Nat.zero_le _
  · have hk := halfM_ok (n := b - a) (by omega)
    by_cases hp : p < a + halfM (b - a)
    · rw [partsL_low h hp, List.length_append]
      have := partsL_len a (a + halfM (b - a)) p
      simp only [List.length_cons, List.length_nil]
      omega
    · rw [partsL_high h hp, List.length_append]
      have := partsL_len (a + halfM (b - a)) b p
      simp only [List.length_cons, List.length_nil]
      omega
termination_by b - a
decreasing_by all_goals omega
theorem run_cellM {P : Program} {w : World} {g i : Nat} {old : Array Value} {t ty : TypeId} {v : Value} (hg : Blk w g t old) (hi : (P.info? ty).map (·.size) = some 1) (hs : i + 1 ≤ old.size) (hv : v.cells = #[v]) (h1 : v.oneCell' = true) :
    (Instr.storeAt ty (.pointer (some ⟨g, i, none⟩)) v).run P w = .ok () (w.setRow g (over old i [v])) := by
  have hst := run_storeCells_at P g i t [v] 0 old w hg (by simpa using hs) (by intro u hu; simp at hu; rw [hu]; exact h1)
  simp only [Nat.add_zero] at hst
  cases hq : P.info? ty with
  | none => simp [hq] at hi
  | some j =>
    have hsz : j.size = 1 := by simpa [hq] using hi
    simp [Instr.storeAt, Instr.sureAddr, storeVar, sizeOf, typeInfo, hq, hv, hsz]
    rw [hst]; simp [over]
theorem wp_store_cellM {P : Program} {w : World} {o : Oper} {a : Act} {K : Act → World → Prop} {Q : Exit → Act → World → Prop} (ty : TypeId) (x y : Operand) (ho : o.op = .store ty x y)
    (g i : Nat) (old : Array Value) (t : TypeId) (hg : Blk w g t old) (v : Value) (hx : a.eval x = .pointer (some ⟨g, i, none⟩)) (hy : a.eval y = v) (hi : (P.info? ty).map (·.size) = some 1) (hs : i + 1 ≤ old.size) (hv : v.cells = #[v]) (h1 : v.oneCell' = true)
    (h : ∀ w', Blk w' g t (over old i [v]) → w.grownBy w' (some g) → K (a.put o.dst undef) w') : o.wp P a w K Q := by
  obtain ⟨hb, hgr⟩ := blk_over hg (over old i [v])
  have hr := run_cellM (P := P) (ty := ty) hg hi hs hv h1
  unfold Oper.wp
  simp only [execOp, ho, hx, hy]
  simp only [Sem.run_bind, hr, Result.andThen, Sem.run_pure]
  exact h _ hb hgr
end Go.Proofs.Ytkbokffonnjjiaa

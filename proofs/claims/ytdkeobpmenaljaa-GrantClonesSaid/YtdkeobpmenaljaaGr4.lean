
/- grant: the order of grants; where one stands. -/
import Derived.Test.YtdkeobpmenaljaaGr3
import Derived.Test.YtdkeobpmenaljaaIdA
import Derived.Test.YtdkeobpmenaljaaPhA
import Derived.Shelf.Small.Strs
import Derived.Shelf.Small.Wraps
import Derived.StillTailTactics
set_option linter.unusedSimpArgs false
set_option linter.unusedVariables false
namespace Go.Proofs.Ytdkeobpmenaljaa
open Go.RowKit Go.Qc Go.Shelf
attribute [local go_sem] txt_size txt_append ib_fold txt_toL

def lays106g_ren : Go.Shelf.Ren := ⟨fun | 106 => 142 | 213 => 168 | 265 => 189 | n => n, fun | 9 => 9 | 3 => 3 | n => n, fun | n => n⟩
theorem lays106g : Go.Proofs.Lays.n106 Try.prog lays106g_ren := {
  mixed := by kernel_rfl
  f106 := Try.func142.trans (congrArg some (by kernel_rfl))
  f213 := Try.func168.trans (congrArg some (by kernel_rfl))
  f265 := Try.func189.trans (congrArg some (by kernel_rfl))
  t3 := Try.underlying3
  a3 := Try.isAgg3
  z3 := Try.sizeOf3
  v3 := Try.zeroValue3
  t9 := Try.underlying9
  a9 := Try.isAgg9
  z9 := Try.sizeOf9
  v9 := Try.zeroValue9 }
def lays122g_ren : Go.Shelf.Ren := ⟨fun | 122 => 144 | 215 => 170 | n => n, fun | 3 => 3 | 4 => 4 | n => n, fun | n => n⟩
theorem lays122g : Go.Proofs.Lays.n122 Try.prog lays122g_ren := {
  mixed := by kernel_rfl
  f122 := Try.func144.trans (congrArg some (by kernel_rfl))
  f215 := Try.func170.trans (congrArg some (by kernel_rfl))
  t3 := Try.underlying3
  a3 := Try.isAgg3
  z3 := Try.sizeOf3
  v3 := Try.zeroValue3
  t4 := Try.underlying4
  a4 := Try.isAgg4
  z4 := Try.sizeOf4
  v4 := Try.zeroValue4 }

theorem gscmp_any (s t : List UInt8) (w : World) : Calls Try.prog 142 #[.string (txt s), .string (txt t)] w fun e w' => e = .returned (.int .i64 (Lib.compareBytes s t)) ∧ w' = w := by
  have := Any.strings_Compare lays106g (txt s) (txt t) w
  rw [txt_data, txt_data] at this
  exact this
theorem gicmp_any (x y : Int) (w : World) : Calls Try.prog 144 #[.int .i64 x, .int .i64 y] w fun e w' => e = .returned (.int .i64 (Lib.compareInt x y)) ∧ w' = w := Any.cmp_Compare_int lays122g x y w
theorem wp_tail_drewG {P : Program} {id : Nat} {Q : Exit → Act → World → Prop} {a : Act} {w : World} {l : List Oper} (n : Nat) (hm : P.follows .mixedOrders = true) (hB : Region.lexTailB .any l.toArray n = true)
    (h : wpStill P l.toArray w.drew (fun a' => wpList P l.toArray Q (l.drop n) a' w.drew) (l.take n) a) : (Code.region id l.toArray true).wp P Q a w := wp_region_still_tail n hm hB h
/-- The first that isn't 0. -/
def orI : List Int → Int
  | [] => 0
  | z :: zs => if z = 0 then orI zs else z
theorem orI_drop {zs : List Int} : ∀ {k : Nat}, (∀ z ∈ zs.take k, z = 0) → orI zs = orI (zs.drop k) := by
  induction zs with
  | nil => intro k _; simp
  | cons z zs ih =>
    intro k h
    cases k with
    | zero => rfl
    | succ k =>
      rw [orI, if_pos (h z (by simp)), List.drop_succ_cons]
      exact ih (fun y hy => h y (by simp [hy]))
/-- How a grant stands to another one. -/
def cmpG (X Y : GrD) : Int := orI [Lib.compareBytes X.p Y.p, Lib.compareBytes X.k Y.k, Lib.compareBytes X.b Y.b, Lib.compareInt X.d Y.d]

set_option maxRecDepth 100000 in
set_option maxHeartbeats 20000000 in
theorem gor_any (A : Option Addr) (n c : Nat) (zs : List Int) (hn : zs.length = n) (bn : n ≤ 1000) (w : World) (hr : Rd w A (zs.map fun z => .int .i64 z)) :
    Calls Try.prog 141 #[.slice A n c] w fun e w' => e = .returned (.int .i64 (orI zs)) ∧ Below w.heap.size w w' := by
  have HN := hid hn
  have bn9 : n ≤ 9223372036854775807 := by omega
  clear hn
  go_enter Try.func141, Try.ntmps141
  go_wp2
  go_loopw [8] (fun i wr => ∃ k : Nat, k ≤ n ∧ i = .int .i64 k ∧ (∀ z ∈ zs.take k, z = 0) ∧ Below w.heap.size w wr) (fun i _ => n - (intOf i).toNat)
  case atStart => exact ⟨0, by omega, rfl, by simp, Below.refl _ _⟩
  case round =>
    obtain ⟨k, hkn, rfl, hall, hb⟩ := hrel
    have HO := hid (orI_drop hall)
    by_cases hlt : k < n
    · obtain ⟨z, hz⟩ : ∃ z, zs[k]? = some z := ⟨_, List.getElem?_eq_getElem (by have := HN.out; omega)⟩
      obtain ⟨ad, rfl, p0⟩ := rd_in (hr.below hb) k (.int .i64 z) (by rw [List.getElem?_map, hz]; rfl)
      have b1 : (k : Int) < n := by omega
      have HZ := hid hz
      have HALL := hid hall
      have HLT := hid (show k + 1 ≤ n from hlt)
      have hd : zs.drop k = z :: zs.drop (k + 1) := by
        obtain ⟨h1, h2⟩ := List.getElem?_eq_some_iff.1 hz
        rw [List.drop_eq_getElem_cons h1, h2]
      have HD := hid hd
      clear hz hall hd
      by_cases h0 : z = 0
      · subst h0
        go_wp2
        go_roundw
        case rel => exact ⟨k + 1, HLT.out, by go_num, fun y hy => by
          rw [List.take_add_one, HZ.out] at hy
          rcases List.mem_append.1 hy with hy | hy
          · exact HALL.out y hy
          · simpa using hy, hb⟩
        case measure => exact meas_k1 HLT.out
      · have h1 : (z == 0) = false := by rw [beq_eq_false_iff_ne]; exact h0
        go_wp2
        go_ret
        exact ⟨by rw [HO.out, HD.out, orI, if_neg h0]; rfl, hb⟩
    · obtain rfl : k = n := by omega
      have c1 : ¬ (k : Int) < k := by omega
      have h0 : orI zs = 0 := by rw [HO.out, List.drop_of_length_le (by rw [HN.out]; exact Nat.le_refl _)]; rfl
      go_wp2
      go_ret
      exact ⟨rfl, hb⟩

theorem gr_four (W : World) (a b c d : Int) : Rd (W.alloc (.cells #[.int .i64 a, .int .i64 b, .int .i64 c, .int .i64 d] 3)) (some ⟨W.heap.size, 0, none⟩) ([a, b, c, d].map fun z => .int .i64 z) := by
  refine .inr ⟨⟨W.heap.size, 0, none⟩, rfl, fun j v hj => ?_⟩
  have hk := Blk.new W 3 #[.int .i64 a, .int .i64 b, .int .i64 c, .int .i64 d]
  rw [Addr.add_lit, Nat.zero_add]
  refine hk.cell_ ?_
  simpa using hj
set_option maxRecDepth 100000 in
set_option maxHeartbeats 20000000 in
theorem gcmp_any (X Y : GrD) (hX : X.ok) (hY : Y.ok) (w : World) :
    Calls Try.prog 140 #[.agg X.cs, .agg Y.cs] w fun e w' => e = .returned (.int .i64 (cmpG X Y)) ∧ Below w.heap.size w w' := by
  obtain ⟨i0, hi, hz0, hz1, hz2⟩ := info_parts infoByte
  have h1 := (GrX.new w X).alloc (.cells Y.cs 113)
  have h2 := GrX.new (w.alloc (.cells X.cs 113)) Y
  rw [World.size_alloc] at h2
  have hb : Below w.heap.size w ((w.alloc (.cells X.cs 113)).alloc (.cells Y.cs 113)) := ((Below.refl _ _).alloc (Nat.le_refl _) _).alloc (by simp) _
  have hs := fun W g o => run_slice_whole (P := Try.prog) W 23 5 g o 32 i0 Try.underlying23 hi hz1 (by decide)
  go_enter Try.func140, Try.ntmps140
  go_wp2
  generalize (w.alloc (.cells X.cs 113)).alloc (.cells Y.cs 113) = W at *
  have hb2 := hb.trans ((below_drew10 W).mono hb.size)
  have x0 : W.drew.cell? ⟨w.heap.size, 0, none⟩ = some (.string (txt X.p)) := h1.c0
  have y0 : W.drew.cell? ⟨w.heap.size + 1, 0, none⟩ = some (.string (txt Y.p)) := h2.c0
  have x65 : W.drew.cell? ⟨w.heap.size, 65, none⟩ = some (.int .i64 X.d) := h1.c65 hX
  have y65 : W.drew.cell? ⟨w.heap.size + 1, 65, none⟩ = some (.int .i64 Y.d) := h2.c65 hY
  have xk : W.drew.rangeAt w.heap.size 1 (X.k.map u8v) := h1.key
  have yk : W.drew.rangeAt (w.heap.size + 1) 1 (Y.k.map u8v) := h2.key
  have xb : W.drew.rangeAt w.heap.size 33 (X.b.map u8v) := h1.by_ hX
  have yb : W.drew.rangeAt (w.heap.size + 1) 33 (Y.b.map u8v) := h2.by_ hY
  have q1 := gscmp_any X.p Y.p W.drew
  have q2 : Calls Try.prog 143 #[.slice (some ⟨w.heap.size, 1, none⟩) 32 32, .slice (some ⟨w.heap.size + 1, 1, none⟩) 32 32] W.drew fun e w' => e = .returned (.int .i64 (Lib.compareBytes X.k Y.k)) ∧ w' = W.drew := (bytesCompare_any W.drew _ _ 1 1 32 32 32 32 X.k Y.k hX.1 hY.1 xk yk).mono (by rintro _ _ ⟨h, rfl⟩; exact ⟨h, rfl⟩)
  have q3 : Calls Try.prog 143 #[.slice (some ⟨w.heap.size, 33, none⟩) 32 32, .slice (some ⟨w.heap.size + 1, 33, none⟩) 32 32] W.drew fun e w' => e = .returned (.int .i64 (Lib.compareBytes X.b Y.b)) ∧ w' = W.drew := (bytesCompare_any W.drew _ _ 33 33 32 32 32 32 X.b Y.b hX.2 hY.2 xb yb).mono (by rintro _ _ ⟨h, rfl⟩; exact ⟨h, rfl⟩)
  have q4 := gicmp_any X.d Y.d W.drew
  clear xk yk xb yb
  obtain ⟨za, hza⟩ : ∃ z, Lib.compareBytes X.p Y.p = z := ⟨_, rfl⟩
  obtain ⟨zb, hzb⟩ : ∃ z, Lib.compareBytes X.k Y.k = z := ⟨_, rfl⟩
  obtain ⟨zc, hzc⟩ : ∃ z, Lib.compareBytes X.b Y.b = z := ⟨_, rfl⟩
  obtain ⟨zd, hzd⟩ : ∃ z, Lib.compareInt X.d Y.d = z := ⟨_, rfl⟩
  rw [hza] at q1
  rw [hzb] at q2
  rw [hzc] at q3
  rw [hzd] at q4
  have HC := hid (show cmpG X Y = orI [za, zb, zc, zd] by unfold cmpG; rw [hza, hzb, hzc, hzd])
  clear hza hzb hzc hzd
  refine wp_tail_drewG 20 mixed10 (by kernel_rfl) ?_
  simp only [List.take_succ_cons, List.take_zero, List.drop_succ_cons, List.drop_zero]
  repeat (first | still_step | still_call q1 | still_call q2 | still_call q3 | still_call q4)
  refine wpStill_nil ?_
  have hal := (Below.refl W.drew.heap.size W.drew).alloc (Nat.le_refl _) (.cells #[.int .i64 za, .int .i64 zb, .int .i64 zc, .int .i64 zd] 3)
  have hrd := gr_four W.drew za zb zc zd
  go_wp2_with (fail)
  refine (gor_any _ 4 4 [za, zb, zc, zd] rfl (by decide) _ hrd).mono ?_
  rintro e1 w1 ⟨rfl, hb1⟩
  go_wp2
  go_ret
  exact ⟨by rw [HC.out]; rfl, hb2.trans ((hal.trans (hb1.mono hal.size)).mono hb2.size)⟩

end Go.Proofs.Ytdkeobpmenaljaa

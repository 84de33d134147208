
/- Lines of a text: Text and Split, of the program and of the document. -/
import Derived.Test.YtcfcabhmdjoeeaaDoorTx1
import Derived.Test.YtcfcabhmdjoeeaaDoorBld
import Derived.Test.YtcfcabhmdjoeeaaDoorHk9
import Derived.Shelf.Strings.Split
import Derived.Shelf.Strings.Prefix
set_option linter.unusedSimpArgs false
set_option linter.unusedVariables false
namespace Go.Proofs.YtcfcabhmdjoeeaaDoor
open Go.RowKit Go.Qc Go.Shelf
def hlays221_ren : Go.Shelf.Ren := ⟨fun | 221 => 24 | 268 => 36 | 138 => 13 | 143 => 23 | 195 => 21 | 197 => 45 | 218 => 22 | 219 => 35 | 260 => 48 | 217 => 41 | 225 => 42 | 224 => 43 | 267 => 44 | 266 => 46 | 314 => 47 | n => n, fun | 9 => 9 | 3 => 3 | 31 => 22 | 4 => 4 | 0 => 0 | 105 => 69 | 21 => 21 | 5 => 5 | 46 => 68 | 119 => 74 | 139 => 77 | 138 => 76 | 146 => 72 | 51 => 71 | n => n, fun | 1 => 0 | 3 => 1 | 4 => 2 | n => n⟩
theorem hlays221 : Go.Proofs.Lays.n221 Tryd.prog hlays221_ren := {
  mixed := by kernel_rfl
  f138 := Tryd.func13.trans (congrArg some (by kernel_rfl))
  f143 := Tryd.func23.trans (congrArg some (by kernel_rfl))
  f195 := Tryd.func21.trans (congrArg some (by kernel_rfl))
  f197 := Tryd.func45.trans (congrArg some (by kernel_rfl))
  f217 := Tryd.func41.trans (congrArg some (by kernel_rfl))
  f218 := Tryd.func22.trans (congrArg some (by kernel_rfl))
  f219 := Tryd.func35.trans (congrArg some (by kernel_rfl))
  f221 := Tryd.func24.trans (congrArg some (by kernel_rfl))
  f224 := Tryd.func43.trans (congrArg some (by kernel_rfl))
  f225 := Tryd.func42.trans (congrArg some (by kernel_rfl))
  f260 := Tryd.func48.trans (congrArg some (by kernel_rfl))
  f266 := Tryd.func46.trans (congrArg some (by kernel_rfl))
  f267 := Tryd.func44.trans (congrArg some (by kernel_rfl))
  f268 := Tryd.func36.trans (congrArg some (by kernel_rfl))
  f314 := Tryd.func47.trans (congrArg some (by kernel_rfl))
  t0 := Tryd.underlying0
  a0 := Tryd.isAgg0
  z0 := Tryd.sizeOf0
  v0 := Tryd.zeroValue0
  t3 := Tryd.underlying3
  a3 := Tryd.isAgg3
  z3 := Tryd.sizeOf3
  v3 := Tryd.zeroValue3
  t4 := Tryd.underlying4
  a4 := Tryd.isAgg4
  z4 := Tryd.sizeOf4
  v4 := Tryd.zeroValue4
  t5 := Tryd.underlying5
  a5 := Tryd.isAgg5
  z5 := Tryd.sizeOf5
  v5 := Tryd.zeroValue5
  t9 := Tryd.underlying9
  a9 := Tryd.isAgg9
  z9 := Tryd.sizeOf9
  v9 := Tryd.zeroValue9
  t21 := Tryd.underlying21
  a21 := Tryd.isAgg21
  z21 := Tryd.sizeOf21
  v21 := Tryd.zeroValue21
  t31 := Tryd.underlying22
  a31 := Tryd.isAgg22
  z31 := Tryd.sizeOf22
  v31 := Tryd.zeroValue22
  t46 := Tryd.underlying68
  a46 := Tryd.isAgg68
  z46 := Tryd.sizeOf68
  v46 := Tryd.zeroValue68
  t51 := Tryd.underlying71
  a51 := Tryd.isAgg71
  z51 := Tryd.sizeOf71
  v51 := Tryd.zeroValue71
  t105 := Tryd.underlying69
  a105 := Tryd.isAgg69
  z105 := Tryd.sizeOf69
  v105 := Tryd.zeroValue69
  t119 := Tryd.underlying74
  a119 := Tryd.isAgg74
  z119 := Tryd.sizeOf74
  t138 := Tryd.underlying76
  a138 := Tryd.isAgg76
  z138 := Tryd.sizeOf76
  v138 := Tryd.zeroValue76
  t139 := Tryd.underlying77
  a139 := Tryd.isAgg77
  z139 := Tryd.sizeOf77
  v139 := Tryd.zeroValue77
  t146 := Tryd.underlying72
  a146 := Tryd.isAgg72
  z146 := Tryd.sizeOf72
  v146 := Tryd.zeroValue72
  g1 := by kernel_rfl
  g3 := by kernel_rfl
  g4 := by kernel_rfl }
def hlays138_ren : Go.Shelf.Ren := ⟨fun | 138 => 13 | 195 => 21 | 218 => 22 | 143 => 23 | 219 => 35 | 217 => 41 | 225 => 42 | 224 => 43 | 267 => 44 | 266 => 46 | 314 => 47 | n => n, fun | 9 => 9 | 3 => 3 | 4 => 4 | 5 => 5 | 0 => 0 | 46 => 68 | 146 => 72 | 51 => 71 | n => n, fun | 1 => 0 | n => n⟩
theorem hlays138 : Go.Proofs.Lays.n138 Tryd.prog hlays138_ren := {
  mixed := by kernel_rfl
  f138 := Tryd.func13.trans (congrArg some (by kernel_rfl))
  f143 := Tryd.func23.trans (congrArg some (by kernel_rfl))
  f195 := Tryd.func21.trans (congrArg some (by kernel_rfl))
  f217 := Tryd.func41.trans (congrArg some (by kernel_rfl))
  f218 := Tryd.func22.trans (congrArg some (by kernel_rfl))
  f219 := Tryd.func35.trans (congrArg some (by kernel_rfl))
  f224 := Tryd.func43.trans (congrArg some (by kernel_rfl))
  f225 := Tryd.func42.trans (congrArg some (by kernel_rfl))
  f266 := Tryd.func46.trans (congrArg some (by kernel_rfl))
  f267 := Tryd.func44.trans (congrArg some (by kernel_rfl))
  f314 := Tryd.func47.trans (congrArg some (by kernel_rfl))
  t0 := Tryd.underlying0
  a0 := Tryd.isAgg0
  z0 := Tryd.sizeOf0
  v0 := Tryd.zeroValue0
  t3 := Tryd.underlying3
  a3 := Tryd.isAgg3
  z3 := Tryd.sizeOf3
  v3 := Tryd.zeroValue3
  t4 := Tryd.underlying4
  a4 := Tryd.isAgg4
  z4 := Tryd.sizeOf4
  v4 := Tryd.zeroValue4
  t5 := Tryd.underlying5
  a5 := Tryd.isAgg5
  z5 := Tryd.sizeOf5
  v5 := Tryd.zeroValue5
  t9 := Tryd.underlying9
  a9 := Tryd.isAgg9
  z9 := Tryd.sizeOf9
  v9 := Tryd.zeroValue9
  t46 := Tryd.underlying68
  a46 := Tryd.isAgg68
  z46 := Tryd.sizeOf68
  v46 := Tryd.zeroValue68
  t51 := Tryd.underlying71
  a51 := Tryd.isAgg71
  z51 := Tryd.sizeOf71
  v51 := Tryd.zeroValue71
  t146 := Tryd.underlying72
  a146 := Tryd.isAgg72
  z146 := Tryd.sizeOf72
  v146 := Tryd.zeroValue72
  g1 := by kernel_rfl }
def hlays104_ren : Go.Shelf.Ren := ⟨fun | 104 => 12 | 211 => 20 | 207 => 34 | n => n, fun | 9 => 9 | 4 => 4 | 24 => 37 | 3 => 3 | n => n, fun | n => n⟩
theorem hlays104 : Go.Proofs.Lays.n104 Tryd.prog hlays104_ren := {
  mixed := by kernel_rfl
  f104 := Tryd.func12.trans (congrArg some (by kernel_rfl))
  f207 := Tryd.func34.trans (congrArg some (by kernel_rfl))
  f211 := Tryd.func20.trans (congrArg some (by kernel_rfl))
  t3 := Tryd.underlying3
  a3 := Tryd.isAgg3
  z3 := Tryd.sizeOf3
  v3 := Tryd.zeroValue3
  t4 := Tryd.underlying4
  a4 := Tryd.isAgg4
  z4 := Tryd.sizeOf4
  v4 := Tryd.zeroValue4
  t9 := Tryd.underlying9
  a9 := Tryd.isAgg9
  z9 := Tryd.sizeOf9
  v9 := Tryd.zeroValue9
  t24 := Tryd.underlying37
  a24 := Tryd.isAgg37
  z24 := Tryd.sizeOf37
  v24 := Tryd.zeroValue37 }
attribute [local go_sem] txt_size txt_append ib_fold txt_toL
theorem bldi_string (b : Nat) (l r : List UInt8) (w : World) (h : Lib.IsBuilder 45 5 b b (l.map u8v) w) (hl : l.length + r.length ≤ 1000000000000) (hb : b ≤ w.heap.size) :
    Calls Tryd.prog 17 #[.pointer (some ⟨b, 0, none⟩), .string (txt r)] w fun e w' => e = .returned (.tuple #[.int .i64 r.length, .nilIface]) ∧ (Lib.IsBuilder 45 5 b b ((l ++ r).map u8v) w' ∧ Below b w w') := by
  have := Any.Builder_WriteString lays166 bX166 b b (l.map u8v) (txt r) w h (by rw [List.length_map, txt_size]; omega) hb
  rw [List.map_append]
  rw [txt_size] at this
  exact this.mono fun e w' ⟨h1, h2, h3⟩ => ⟨h1, .inr h2, h3⟩
theorem bldi_nl (b : Nat) (l : List UInt8) (w : World) (h : Lib.IsBuilder 45 5 b b (l.map u8v) w) (hl : l.length + ([10] : List UInt8).length ≤ 1000000000000) (hb : b ≤ w.heap.size) :
    Calls Tryd.prog 17 #[.pointer (some ⟨b, 0, none⟩), .string ⟨#[10]⟩] w fun e w' => e = .returned (.tuple #[.int .i64 1, .nilIface]) ∧ (Lib.IsBuilder 45 5 b b ((l ++ [10]).map u8v) w' ∧ Below b w w') := bldi_string b l [10] w h hl hb
theorem bldi_text (b : Nat) (l : List UInt8) (w : World) (h : Lib.IsBuilder 45 5 b b (l.map u8v) w) (hb : b ≤ w.heap.size) :
    Calls Tryd.prog 18 #[.pointer (some ⟨b, 0, none⟩)] w fun e w' => e = .returned (.string (txt l)) ∧ Below b w w' :=
  Any.Builder_String_any lays169 bX169 b b l w h hb
theorem bldi_new (w : World) : Lib.IsBuilder 45 5 w.heap.size w.heap.size ([].map u8v) (w.alloc (.cells #[.pointer none, .slice none 0 0] 45)) :=
  .inl ⟨Nat.le_refl _, .slice none 0 0, heap_alloc_new w _, ⟨rfl, .inl ⟨rfl, rfl⟩⟩, by simp [Value.ownBlock]⟩
theorem textL_take_le (L : List (List UInt8)) (k : Nat) : (textL (L.take k)).length ≤ (textL L).length := by
  have h : textL L = textL (L.take k) ++ textL (L.drop k) := by unfold textL; rw [← List.flatMap_append, List.take_append_drop]
  rw [h, List.length_append]
  exact Nat.le_add_right _ _

set_option maxRecDepth 100000 in
set_option maxHeartbeats 40000000 in
theorem htext_any (A : Option Addr) (n c : Nat) (L : List (List UInt8)) (hn : L.length = n) (bn : n ≤ 9223372036854775807) (hT : (textL L).length ≤ 1000000000000) (w : World) (hr : Rd w A (L.map strV)) :
    Calls Tryd.prog 8 #[.slice A n c] w fun e w' => e = .returned (.string (txt (textL L))) ∧ Below w.heap.size w w' := by
  have HN := hid hn
  have h0 := bldi_new w
  have hB0 := (Below.refl w.heap.size w).alloc (Nat.le_refl _) (.cells #[.pointer none, .slice none 0 0] 45)
  clear hn
  go_enter Tryd.func8, Tryd.ntmps8
  go_wp2
  go_loopw [8] (fun i wr => ∃ k : Nat, k ≤ n ∧ i = .int .i64 k ∧ Lib.IsBuilder 45 5 w.heap.size w.heap.size ((textL (L.take k)).map u8v) wr ∧ Below w.heap.size w wr) (fun i _ => n - (intOf i).toNat)
  case atStart => exact ⟨0, by omega, rfl, by rw [List.take_zero]; exact h0, hB0⟩
  case round =>
    clear h0 hB0
    obtain ⟨k, hk, rfl, hb, hB⟩ := hrel
    have hle := textL_take_le L k
    by_cases hlt : k < n
    · obtain ⟨p, hp⟩ : ∃ p, L[k]? = some p := ⟨_, List.getElem?_eq_getElem (by have := HN.out; omega)⟩
      obtain ⟨ad, rfl, hcell⟩ := rd_in (hr.below hB) k (strV p) (by rw [List.getElem?_map, hp]; rfl)
      unfold strV at hcell
      have HT := hid (take_snoc hp)
      have hle2 := textL_take_le L (k + 1)
      rw [HT.out, textL_snoc, List.length_append, List.length_append, List.length_singleton] at hle2
      clear hp
      generalize hQ : textL (L.take k) = Q at *
      have HQ := hid hQ
      clear hQ
      have b1 : (k : Int) < n := by omega
      have l1 : Q.length + p.length ≤ 1000000000000 := by omega
      have l2 : (Q ++ p).length + ([10] : List UInt8).length ≤ 1000000000000 := by rw [List.length_append]; simp; omega
      clear hle hle2
      go_wp2_with (first
        | (go_at_call 17; (with_reducible refine (bldi_string _ Q p _ hb l1 hB.size).mono ?_); rintro e2 w2 ⟨rfl, hb2, hB2⟩; replace hB2 := hB.trans hB2)
        | (go_at_call 17; (with_reducible refine (bldi_nl _ (Q ++ p) _ hb2 l2 hB2.size).mono ?_); rintro e3 w3 ⟨rfl, hb3, hB3⟩; replace hB3 := hB2.trans hB3))
      go_roundw
      case rel => exact ⟨k + 1, hlt, by go_num, by rw [HT.out, textL_snoc, HQ.out, ← List.append_assoc]; exact hb3, hB3⟩
      case measure => simp [intOf]; omega
    · obtain rfl : k = n := by omega
      rw [List.take_of_length_le (by have := HN.out; omega)] at hb
      have b1 : ¬ (k : Int) < k := by omega
      go_wp2_with (go_at_call 18; (with_reducible refine (bldi_text _ (textL L) _ hb hB.size).mono ?_); rintro e2 w2 ⟨rfl, hB2⟩)
      go_ret
      exact ⟨rfl, hB.trans hB2⟩

set_option maxRecDepth 100000 in
set_option maxHeartbeats 40000000 in
theorem rtext11_any (A : Option Addr) (n c : Nat) (L : List (List UInt8)) (hn : L.length = n) (bn : n ≤ 9223372036854775807) (hT : (textL L).length ≤ 1000000000000) (w : World) (hr : Rd w A (L.map strV)) :
    Calls Tryd.prog 9 #[.slice A n c] w fun e w' => e = .returned (.string (txt (textL L))) ∧ Below w.heap.size w w' := by
  have HN := hid hn
  clear hn
  go_enter Tryd.func9, Tryd.ntmps9
  go_wp2
  go_loop [3, 4] (fun v i => ∃ k : Nat, k ≤ n ∧ i = .int .i64 k ∧ v = .string (txt (textL (L.take k)))) (fun _ i => n - (intOf i).toNat)
  case atStart => exact ⟨0, by omega, rfl, rfl⟩
  case round =>
    obtain ⟨k, hk, rfl, rfl⟩ := hrel
    have hle := textL_take_le L k
    by_cases hlt : k < n
    · obtain ⟨p, hp⟩ : ∃ p, L[k]? = some p := ⟨_, List.getElem?_eq_getElem (by have := HN.out; omega)⟩
      obtain ⟨ad, rfl, hcell⟩ := rd_in hr k (strV p) (by rw [List.getElem?_map, hp]; rfl)
      unfold strV at hcell
      have HT := hid (take_snoc hp)
      have hle2 := textL_take_le L (k + 1)
      rw [HT.out, textL_snoc, List.length_append, List.length_append, List.length_singleton] at hle2
      clear hp
      generalize hQ : textL (L.take k) = Q at *
      have HQ := hid hQ
      clear hQ
      have e10 : (⟨#[10]⟩ : ByteArray) = txt [10] := rfl
      have b1 : (k : Int) < n := by omega
      have l1 : ¬ (9223372036854775807 : Int) < p.length + 1 := by omega
      have l2 : ¬ (9223372036854775807 : Int) < Q.length + (p.length + 1) := by omega
      have l3 : ¬ (9223372036854775807 : Int) < Q.length + (p ++ [10]).length := by rw [List.length_append]; simp; omega
      clear hle hle2
      go_wp2
      go_round
      case rel => exact ⟨k + 1, hlt, by go_num, by rw [HT.out, textL_snoc, HQ.out]⟩
      case measure => simp [intOf]; omega
    · obtain rfl : k = n := by omega
      rw [List.take_of_length_le (by have := HN.out; omega)]
      have b1 : ¬ (k : Int) < k := by omega
      go_wp2
      go_ret
      exact ⟨rfl, Below.refl _ _⟩


end Go.Proofs.YtcfcabhmdjoeeaaDoor

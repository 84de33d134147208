
/- pack: a writer's numbers, texts, ids and rows; of the document; lists alone. -/
import Derived.Test.YtemdmdgigmhlbaaGreatPk2
import Derived.Test.YtemdmdgigmhlbaaGreatKit6
import Derived.Lib.AppendStr
import Derived.Lib.Builder
import Derived.Shelf.Pu.Clone
import Derived.Shelf.SlSortCmp.QuietGrown
import Derived.Deep.RegionHeld3
import Derived.Test.YtemdmdgigmhlbaaGreatTag6
set_option linter.unusedSimpArgs false
set_option linter.unusedVariables false
namespace Go.Proofs.YtemdmdgigmhlbaaGreat
open Go.RowKit Go.Qc
attribute [local go_sem] txt_size txt_append ib_fold

/-- A number as groups, the lowest first. -/
def numE (v : Nat) : List UInt8 := if h : v < 128 then [UInt8.ofNat v] else UInt8.ofNat (v % 128 + 128) :: numE (v / 128)
termination_by v
decreasing_by omega
theorem numE_lt {v : Nat} (h : v < 128) : numE v = [UInt8.ofNat v] := by rw [numE, dif_pos h]
theorem numE_ge {v : Nat} (h : ¬ v < 128) : numE v = UInt8.ofNat (v % 128 + 128) :: numE (v / 128) := by rw [numE, dif_neg h]
theorem numE_len : ∀ (k v : Nat), v < 128 ^ (k + 1) → (numE v).length ≤ k + 1
  | 0, v, h => by rw [numE_lt (by omega)]; simp
  | k + 1, v, h => by
    by_cases h1 : v < 128
    · rw [numE_lt h1]; simp
    · rw [numE_ge h1, List.length_cons]
      have := numE_len k (v / 128) (by rw [Nat.pow_succ] at h; omega)
      omega
theorem u8_back (x : UInt8) : UInt8.ofNat x.toNat = x := UInt8.ofNat_toNat
/-- What is read as a number is that number's groups. -/
theorem scanN_back : ∀ (l : List UInt8) (d v0 v n : Nat), scanN d v0 l = .ok (v, n) →
    ∃ k X, n = d + k ∧ 0 < k ∧ k ≤ l.length ∧ v = v0 + X * 2 ^ (7 * d) ∧ numE X = l.take k ∧ (0 < d → X ≠ 0) ∧ v ≤ 4611686018427387904
  | [], d, v0, v, n, h => by rw [scanN] at h; cases h
  | b :: t, d, v0, v, n, h => by
    rw [scanN] at h
    by_cases h1 : d = 8 ∧ 64 < b.toNat
    · rw [if_pos h1] at h; cases h
    · rw [if_neg h1] at h
      by_cases h2 : 128 ≤ b.toNat
      · rw [if_pos h2] at h
        obtain ⟨k, X, hn, hk, hkl, hv, hX, hne, hb⟩ := scanN_back t (d + 1) _ v n h
        have hX0 := hne (by omega)
        have hlt := b.toNat_lt
        refine ⟨k + 1, b.toNat % 128 + 128 * X, by omega, by omega, by simp; omega, ?_, ?_, fun _ => by omega, hb⟩
        · rw [hv, show 7 * (d + 1) = 7 * d + 7 by omega, Nat.pow_add, Nat.add_mul, Nat.add_assoc]
          congr 2
          rw [Nat.mul_comm 128 X, Nat.mul_assoc, Nat.mul_comm 128]
        · rw [numE_ge (by omega), List.take_succ_cons, ← hX, show (b.toNat % 128 + 128 * X) / 128 = X by omega, show (b.toNat % 128 + 128 * X) % 128 + 128 = b.toNat by omega, u8_back]
      · rw [if_neg h2] at h
        by_cases h3 : (b.toNat = 0 ∧ 0 < d) ∨ 4611686018427387904 < v0 + b.toNat % 128 * 2 ^ (7 * d)
        · rw [if_pos h3] at h; cases h
        · rw [if_neg h3] at h
          injection h with h
          injection h with e1 e2
          have hm : b.toNat % 128 = b.toNat := Nat.mod_eq_of_lt (by omega)
          refine ⟨1, b.toNat, e2.symm, by omega, by simp, ?_, ?_, fun hd h0 => h3 (.inl ⟨h0, hd⟩), ?_⟩
          · rw [← e1, hm]
          · rw [numE_lt (by omega), u8_back]; rfl
          · rw [← e1]
            exact Nat.le_of_not_lt fun h4 => h3 (.inr h4)

/-! ### the writer -/
/-- A writer that lies at block b, with these bytes. -/
def Wrt (b : Nat) (l : List UInt8) (w : World) : Prop := ∃ v, Blk w b 89 #[v] ∧ w.ownsRow b 5 1 v l.length (l.map u8v) ∧ v.ownBlock ≠ some b
theorem Wrt.lt {b : Nat} {l : List UInt8} {w : World} (h : Wrt b l w) : b < w.heap.size := h.elim fun _ h => h.1.lt
theorem Wrt.below {b : Nat} {l : List UInt8} {w w' : World} (h : Wrt b l w) (hb : Below w.heap.size w w') : Wrt b l w' := by
  obtain ⟨v, h1, h2, h3⟩ := h
  exact ⟨v, h1.below hb, own_below h2 hb, h3⟩
theorem Wrt.new (w : World) : Wrt w.heap.size [] (w.alloc (.cells #[.slice none 0 0] 89)) :=
  ⟨.slice none 0 0, Blk.new _ _ _, World.ownsRow_nil _ _ _ _, by intro h; cases h⟩
set_option maxRecDepth 100000 in
set_option maxHeartbeats 2000000 in
theorem pkByte_any (b : Nat) (l : List UInt8) (x : UInt8) (hl : l.length ≤ 1000000000000) (w : World) (h : Wrt b l w) :
    Calls Tryz.prog 44 #[.pointer (some ⟨b, 0, none⟩), .int .u8 (ib x)] w fun o w' => o = .returned (.tuple #[]) ∧ Wrt b (l ++ [x]) w' ∧ Below b w w' := by
  obtain ⟨i0, hi, hz0, hz1, hz2⟩ := info_parts infoByte
  obtain ⟨v, hbk, hown, hne⟩ := h
  have hlt := hbk.lt
  have c0 : w.cell? ⟨b, 0, none⟩ = some v := hbk.cell_ rfl
  have hlx : ([x] : List UInt8).length = 1 := rfl
  go_enter Tryz.func44, Tryz.ntmps44
  have hnew : ∀ j u, ([x].map u8v)[j]? = some u → (w.alloc (.cells #[.int .u8 (ib x)] 5)).cell? ((⟨w.heap.size, 0, none⟩ : Addr).add j) = some u := fun j u hj => by
    rw [Addr.add_lit, Nat.zero_add, (Blk.new w 5 #[.int .u8 (ib x)]).cell]
    rw [List.getElem?_toArray]
    exact hj
  go_wp2_with (at_builtin; refine wpList_append_own2 _ rfl _ _ 56 rfl b 5 i0 (.int .u8 0) 1 1 Tryz.underlying56 hi hz0 hz1 hz2 rfl (by decide) _ _ _ rfl (hown.alloc _) ⟨w.heap.size, 0, none⟩ 1 1 (by decide) ([x].map u8v) rfl rfl hnew (u8v_one [x]) ?c2 ?c3 ?c4 ?_)
  case c2 => unfold maxLen; omega
  case c3 => omega
  case c4 => simp; omega
  intro v8 w8 hv8 hg8 hn8
  have hb0 : Below b w (w.alloc (.cells #[.int .u8 (ib x)] 5)) := (Below.refl _ _).alloc (Nat.le_of_lt hlt) _
  have hb8 : Below b w w8 := hb0.grown hg8 (Nat.le_trans (Nat.le_of_lt hlt) hb0.size) (fun k hk => (hown.lt k hk).1)
  have hbk8 : Blk w8 b 89 #[v] := (hg8.block b (by simp; omega) (fun e => hne e.symm)).trans (hbk.alloc _)
  have hne8 : v8.ownBlock ≠ some b := fun e => by
    rcases hn8 with h | h
    · exact hne (h.symm.trans e)
    · rw [h] at e
      have e2 := Option.some.inj e
      (try simp at e2)
      omega
  have f0 := hbk8.frozen 0
  have d0 : w8.cell? ⟨b, 0, none⟩ = some v := hbk8.cell_ rfl
  have hsl : ∃ ao n' cap, v8 = .slice ao n' cap := by
    rcases hv8.2 with ⟨hv, _⟩ | ⟨g, cap, cur, hv, _⟩
    · exact ⟨_, _, _, hv⟩
    · exact ⟨_, _, _, hv⟩
  have hset : Blk (w8.setCell ⟨b, 0, none⟩ v8) b 89 #[v8] := hbk8.set 0 v8
  have hv9 := hv8.kept (gb_set (gb_refl w8 (some b)) 0 v8) (.inr hne8)
  clear hnew hb0 hg8 hn8 hown hbk
  obtain ⟨ao, n', cap, rfl⟩ := hsl
  go_wp2
  go_end0
  exact ⟨rfl, ⟨_, hset, (by rw [List.length_append, List.map_append]; exact hv9), hne8⟩, hb8.setCell (p := ⟨b, 0, none⟩) (Nat.le_refl _) _⟩

/-! ### numbers and texts written -/
theorem ib_of_nat (n : Nat) (h : n < 256) : ((n : Nat) : Int) = ib (UInt8.ofNat n) := by
  unfold ib; rw [UInt8.toNat_ofNat']; omega
theorem or128 (n : Nat) (h : n < 256) : bits .or .u8 128 (n : Int) = ib (UInt8.ofNat (n % 128 + 128)) := by
  have h1 := u8_or_nat 128 n (by decide) h
  rw [show (128 : Int) = ((128 : Nat) : Int) from rfl, h1, ← ib_of_nat _ (by omega)]
  congr 1
  have h2 : ∀ k : Fin 256, 128 ||| k.val = k.val % 128 + 128 := by decide +kernel
  exact h2 ⟨n, h⟩
set_option maxRecDepth 100000 in
set_option maxHeartbeats 4000000 in
theorem pkWNum_any (b : Nat) (l : List UInt8) (v : Nat) (hv : v ≤ 4611686018427387904) (hl : l.length + 100 ≤ 1000000000000) (w : World) (h : Wrt b l w) :
    Calls Tryz.prog 62 #[.pointer (some ⟨b, 0, none⟩), .int .i64 v] w fun o w' => o = .returned (.bool true) ∧ Wrt b (l ++ numE v) w' ∧ Below b w w' := by
  have v0 : ¬ (v : Int) < 0 := by omega
  have v1 : ¬ (4611686018427387904 : Int) < v := by omega
  have hbw := Nat.le_of_lt h.lt
  go_enter Tryz.func62, Tryz.ntmps62
  go_wp2
  refine wp_scope_label 0 (fun a' w' => ∃ (x : Nat) (pre : List UInt8) (u5 u6 u7 u8 u9 u10 u11 u12 u13 u14 u15 u16 u17 u18 u19 u20 u21 u22 u23 : Value), a' = { tmps := #[.pointer (some ⟨b, 0, none⟩), .int .i64 x, undef, undef, .bool false, u5, u6, u7, u8, u9, u10, u11, u12, u13, u14, u15, u16, u17, u18, u19, u20, u21, u22, u23], defers := [] } ∧ Wrt b (l ++ pre) w' ∧ pre ++ numE x = numE v ∧ x ≤ v ∧ Below b w w') (fun a' _ => (intOf (a'.tmps.getD 1 undef)).toNat) rfl (fun a' w' hJ => ?pass) (fun hrest => ?first)
  case first =>
    refine wp_seq (wp_mono (Q := fun e a' w' => e = .normal ∧ w' = w ∧ a' = { tmps := #[.pointer (some ⟨b, 0, none⟩), .int .i64 v, undef, undef, .bool false, .int .i64 v, .bool false, .bool false, .int .i64 v, .bool false, .bool false, undef, undef, undef, undef, undef, undef, undef, undef, undef, undef, undef, undef, undef], defers := [] }) ?_ ?_)
    · go_wp2
    · rintro e a' w' ⟨rfl, rfl, rfl⟩
      refine wp_seq ?_
      apply wp_label
      exact hrest _ _ ⟨v, [], _, _, _, _, _, _, _, _, _, _, _, _, _, _, _, _, _, _, _, rfl, by rw [List.append_nil]; exact h, rfl, Nat.le_refl _, Below.refl _ _⟩
  case pass =>
    obtain ⟨x, pre, u5, u6, u7, u8, u9, u10, u11, u12, u13, u14, u15, u16, u17, u18, u19, u20, u21, u22, u23, rfl, hW, hpre, hxv, hB⟩ := hJ
    have hlen : (l ++ pre).length ≤ 1000000000000 := by
      have h1 := numE_len 8 v (Nat.lt_of_le_of_lt hv (by decide))
      have h2 := congrArg List.length hpre
      rw [List.length_append] at h2 ⊢
      omega
    have HLEN := hid hlen
    have HPRE := hid hpre
    clear hlen hpre
    by_cases hx : x < 128
    · have hby := fun W h => pkByte_any b (l ++ pre) (UInt8.ofNat x) HLEN.out W h
      rw [← ib_of_nat x (by omega)] at hby
      have b1 : ¬ (128 : Int) ≤ x := by omega
      have hE := numE_lt hx
      have HE := hid hE
      have HB := hid hB
      clear hE hB
      go_wp2_with (first
        | (go_at_call 44; (with_reducible refine (hby _ hW).mono ?_); rintro o1 w1 ⟨rfl, h1, h2⟩))
      (try simp only [Exit.jump])
      go_ret
      exact ⟨rfl, by rw [← HPRE.out, HE.out, ← List.append_assoc]; exact h1, HB.out.trans h2⟩
    · have hby := fun W h => pkByte_any b (l ++ pre) (UInt8.ofNat (x % 128 + 128)) HLEN.out W h
      have hor : bits .or .u8 128 ((x : Int) % 256) = ib (UInt8.ofNat (x % 128 + 128)) := by
        have := or128 (x % 256) (by omega)
        rw [show x % 256 % 128 = x % 128 by omega, Int.natCast_emod] at this
        exact this
      have b1 : (128 : Int) ≤ x := by omega
      have hE := numE_ge hx
      generalize UInt8.ofNat (x % 128 + 128) = y at *
      have HE := hid hE
      have HB := hid hB
      clear hE hB
      go_wp2_with (first
        | (go_at_call 44; (with_reducible refine (hby _ hW).mono ?_); rintro o1 w1 ⟨rfl, h1, h2⟩))
      go_step3
      refine ⟨rfl, ⟨x / 128, pre ++ [y], _, _, _, _, _, _, _, _, _, _, _, _, _, _, _, _, _, _, _, rfl, by rw [← List.append_assoc]; exact h1, by rw [← HPRE.out, HE.out, List.append_assoc]; rfl, by omega, HB.out.trans h2⟩, ?_⟩
      simp [intOf]; omega
end Go.Proofs.YtemdmdgigmhlbaaGreat

namespace Go.Proofs.YtemdmdgigmhlbaaGreat
open Go.RowKit Go.Qc
attribute [local go_sem] txt_size txt_append ib_fold

theorem strCells_txt (l : List UInt8) : Lib.strCells (txt l) = l.map u8v := by simp [Lib.strCells, txt]; intro a _; rfl
set_option maxRecDepth 100000 in
set_option maxHeartbeats 4000000 in
theorem pkWText_any (b : Nat) (l t : List UInt8) (ht : t.length ≤ 100000000) (hl : l.length ≤ 100000000) (w : World) (h : Wrt b l w) :
    Calls Tryz.prog 45 #[.pointer (some ⟨b, 0, none⟩), .string (txt t)] w fun o w' => o = .returned (.tuple #[]) ∧ Wrt b (l ++ (numE t.length ++ t)) w' ∧ Below b w w' := by
  obtain ⟨i0, hi, hz0, hz1, hz2⟩ := info_parts infoByte
  have hnl := numE_len 8 t.length (Nat.lt_of_le_of_lt ht (by decide))
  have cN := fun W h => pkWNum_any b l t.length (Nat.le_trans ht (by decide)) (by omega) W h
  obtain ⟨L2, hL2⟩ : ∃ L2, L2 = l ++ numE t.length := ⟨_, rfl⟩
  have hll : L2.length ≤ 100000009 := by rw [hL2, List.length_append]; omega
  rw [← hL2] at cN
  have HL2 := hid hL2
  clear hL2 hnl
  have hbw := Nat.le_of_lt h.lt
  go_enter Tryz.func45, Tryz.ntmps45
  go_wp2_with (first
    | (go_at_call 62; (with_reducible refine (cN _ h).mono ?_); rintro o1 w1 ⟨rfl, hW, hB⟩; obtain ⟨v, hbk, hown, hne⟩ := hW; have hlt := hbk.lt; have c0 : w1.cell? ⟨b, 0, none⟩ = some v := hbk.cell_ rfl)
    | (at_builtin; refine Lib.wpList_append_own_string _ rfl _ _ 56 9 rfl b 5 i0 Tryz.underlying56 Tryz.underlying9 hi hz0 hz1 hz2 _ _ _ rfl hown (txt t) rfl ?c2 ?c3 ?c4 ?_))
  case c2 => rw [txt_size]; unfold maxLen; omega
  case c3 => rw [txt_size]; omega
  case c4 => omega
  intro v8 w8 hv8 hg8 _
  rw [strCells_txt] at hv8
  (try rw [txt_size] at hv8)
  rw [← List.length_append, ← List.map_append] at hv8
  have hb8 : Below b w1 w8 := (Below.refl b w1).grown hg8 (Nat.le_of_lt hlt) (fun k hk => (hown.lt k hk).1)
  have hbk8 : Blk w8 b 89 #[v] := (hg8.block b hlt (fun e => hne e.symm)).trans hbk
  have hne8 : v8.ownBlock ≠ some b := Lib.ownBlock_ne hv8 hbk8 (by decide)
  have f0 := hbk8.frozen 0
  have d0 : w8.cell? ⟨b, 0, none⟩ = some v := hbk8.cell_ rfl
  have hsl : ∃ ao n' cap, v8 = .slice ao n' cap := by
    rcases hv8.2 with ⟨hv, _⟩ | ⟨g, cap, cur, hv, _⟩
    · exact ⟨_, _, _, hv⟩
    · exact ⟨_, _, _, hv⟩
  have hset : Blk (w8.setCell ⟨b, 0, none⟩ v8) b 89 #[v8] := hbk8.set 0 v8
  have hv9 := hv8.kept (gb_set (gb_refl w8 (some b)) 0 v8) (.inr hne8)
  clear hg8 hown hbk
  obtain ⟨ao, n', cap, rfl⟩ := hsl
  go_wp2
  go_end0
  exact ⟨rfl, ⟨_, hset, (by rw [← List.append_assoc, ← HL2.out]; exact hv9), hne8⟩, (hB.trans hb8).setCell (p := ⟨b, 0, none⟩) (Nat.le_refl _) _⟩
set_option maxHeartbeats 4000000 in
theorem pkWString_any (b : Nat) (l : List UInt8) (w : World) (h : Wrt b l w) :
    Calls Tryz.prog 46 #[.pointer (some ⟨b, 0, none⟩)] w fun o w' => o = .returned (.string (txt l)) ∧ w = w' := by
  obtain ⟨v, hbk, hown, hne⟩ := h
  have c0 : w.cell? ⟨b, 0, none⟩ = some v := hbk.cell_ rfl
  obtain ⟨hl2, A2, c2, rfl, hrd2⟩ := Rd.own hown
  have hconv := run_txt (P := Tryz.prog) w 56 9 5 A2 l.length c2 l Tryz.underlying56 Tryz.underlying5 Tryz.underlying9 rfl hrd2
  clear hown hbk hne
  go_enter Tryz.func46, Tryz.ntmps46
  go_wp2
  go_ret
  exact ⟨rfl, rfl⟩
end Go.Proofs.YtemdmdgigmhlbaaGreat

namespace Go.Proofs.YtemdmdgigmhlbaaGreat
open Go.RowKit Go.Qc Go.Shelf
attribute [local go_sem] txt_size txt_append ib_fold

/-! ### a text cloned -/
def lays25_ren : Go.Shelf.Ren := ⟨fun | 25 => 66 | n => n, fun | 0 => 0 | 3 => 3 | 4 => 4 | 5 => 5 | 9 => 9 | 37 => 56 | 47 => 141 | n => n, fun | n => n⟩
theorem lays25 : Go.Proofs.LaysPu.n25 Tryz.prog lays25_ren := {
  mixed := by kernel_rfl
  f25 := Tryz.func66.trans (congrArg some (by kernel_rfl))
  t0 := Tryz.underlying0
  a0 := Tryz.isAgg0
  z0 := Tryz.sizeOf0
  v0 := Tryz.zeroValue0
  i0 := by kernel_rfl
  t3 := Tryz.underlying3
  a3 := Tryz.isAgg3
  z3 := Tryz.sizeOf3
  v3 := Tryz.zeroValue3
  i3 := by kernel_rfl
  t4 := Tryz.underlying4
  a4 := Tryz.isAgg4
  z4 := Tryz.sizeOf4
  v4 := Tryz.zeroValue4
  i4 := by kernel_rfl
  t5 := Tryz.underlying5
  a5 := Tryz.isAgg5
  z5 := Tryz.sizeOf5
  v5 := Tryz.zeroValue5
  i5 := by kernel_rfl
  t9 := Tryz.underlying9
  a9 := Tryz.isAgg9
  z9 := Tryz.sizeOf9
  v9 := Tryz.zeroValue9
  i9 := by kernel_rfl
  t37 := Tryz.underlying56
  a37 := Tryz.isAgg56
  z37 := Tryz.sizeOf56
  v37 := Tryz.zeroValue56
  i37 := by kernel_rfl
  t47 := Tryz.underlying141
  a47 := Tryz.isAgg141
  z47 := Tryz.sizeOf141
  v47 := Tryz.zeroValue141
  i47 := by kernel_rfl }
theorem pkClone_any (s : ByteArray) (hs : s.size ≤ 1000000000000) (w : World) :
    Calls Tryz.prog 51 #[.string s] w fun o w' => o = .returned (.string s) ∧ Below w.heap.size w w' := by
  have c : ∀ W : World, Calls Tryz.prog 66 #[.string s] W fun o w' => o = .returned (.string s) ∧ Below W.heap.size W w' := fun W => AnyPu.stringslite_Clone lays25 s W (by omega)
  go_enter Tryz.func51, Tryz.ntmps51
  go_wp2_with (first
    | (go_at_call 66; (with_reducible refine (c _).mono ?_); rintro o1 w1 ⟨rfl, hB⟩))
  go_ret
  exact ⟨rfl, hB⟩

/-! ### new, end -/
theorem pkNew_any (s : List UInt8) (w : World) :
    Calls Tryz.prog 36 #[.string (txt s)] w fun o w' => o = .returned (.pointer (some ⟨w.heap.size, 0, none⟩)) ∧ Rdr w.heap.size s 0 0 w' ∧ Below w.heap.size w w' := by
  have h1 : Rdr w.heap.size s 0 0 (w.alloc (.cells #[.string (txt s), .int .i64 0, .int .i64 0] 103)) := Blk.new _ _ _
  have h2 : Below w.heap.size w (w.alloc (.cells #[.string (txt s), .int .i64 0, .int .i64 0] 103)) := (Below.refl _ _).alloc (Nat.le_refl _) _
  go_enter Tryz.func36, Tryz.ntmps36
  go_wp2
  go_ret
  exact ⟨rfl, h1, h2⟩
theorem pkErr_any (g : Nat) (s : List UInt8) (a : Nat) (e : Int) (w : World) (h : Rdr g s a e w) :
    Calls Tryz.prog 57 #[.pointer (some ⟨g, 0, none⟩)] w fun o w' => o = .returned (.int .i64 e) ∧ w = w' := by
  have c2 := h.c2
  go_enter Tryz.func57, Tryz.ntmps57
  go_wp2
  go_ret
  exact ⟨rfl, rfl⟩
/-! ### a number -/
/-- What a whole reading leaves: what was read, and how many bytes were; or nothing, and what is wrong. -/
def ReadPost {α : Type} (val : α → Value) (zero : Value) (g : Nat) (s : List UInt8) (a : Nat) (w : World) (r : Except Int (α × Nat)) (o : Ending) (w' : World) : Prop :=
  match r with
  | .ok (v, n) => o = .returned (val v) ∧ Step g s (a + n) 0 w w'
  | .error e => o = .returned zero ∧ e ≠ 0 ∧ Step g s a e w w'
def intV (v : Nat) : Value := .int .i64 v
/-! ### how many there are -/
def cntN (most : Int) (l : List UInt8) : Except Int (Nat × Nat) :=
  match scanN 0 0 l with
  | .ok (v, n) => if most < v then .error 4 else .ok (v, n)
  | .error e => .error e
/-- What counting leaves: the place is of no account where something is wrong. -/
def CntPost (g : Nat) (s : List UInt8) (a : Nat) (w : World) (r : Except Int (Nat × Nat)) (o : Ending) (w' : World) : Prop :=
  match r with
  | .ok (v, n) => o = .returned (.int .i64 v) ∧ Step g s (a + n) 0 w w'
  | .error e => ∃ a', o = .returned (.int .i64 0) ∧ a' ≤ s.length ∧ e ≠ 0 ∧ Step g s a' e w w'
theorem scanN_len (s : List UInt8) (a v n : Nat) (h : scanN 0 0 (s.drop a) = .ok (v, n)) (ha : a ≤ s.length) : a + n ≤ s.length := by
  obtain ⟨k, X, hn, _, hkl, _⟩ := scanN_back _ _ _ _ _ h
  rw [List.length_drop] at hkl
  omega
set_option maxHeartbeats 4000000 in
theorem pkCount_any (g : Nat) (s : List UInt8) (a : Nat) (most : Int) (hs : s.length ≤ 1000000000000) (ha : a ≤ s.length) (w : World) (hr : Rdr g s a 0 w) :
    Calls Tryz.prog 72 #[.pointer (some ⟨g, 0, none⟩), .int .i64 most] w fun o w' => CntPost g s a w (cntN most (s.drop a)) o w' := by
  have cN := pkNumber_any g s a hs w hr ha
  unfold cntN
  cases hsc : scanN 0 0 (s.drop a) with
  | ok p =>
    obtain ⟨v, n⟩ := p
    have hln := scanN_len s a v n hsc ha
    rw [hsc] at cN
    clear hsc
    by_cases hm : most < v
    · simp only [if_pos hm]
      go_enter Tryz.func72, Tryz.ntmps72
      go_wp2_with (first
        | (go_at_call 90; (with_reducible refine cN.mono ?_); rintro o1 w1 ⟨rfl, h1⟩; have hz := h1.r)
        | (go_at_call 89; (with_reducible refine (pkFail_new g s _ 4 _ hz).mono ?_); rintro o2 w2 ⟨rfl, hn, hg⟩; have c2 := hn.c2))
      go_ret
      exact ⟨_, rfl, hln, by decide, h1.trans ⟨hn, hg⟩⟩
    · simp only [if_neg hm]
      go_enter Tryz.func72, Tryz.ntmps72
      go_wp2_with (first
        | (go_at_call 90; (with_reducible refine cN.mono ?_); rintro o1 w1 ⟨rfl, h1⟩; have c2 := h1.r.c2))
      go_ret
      exact ⟨rfl, h1⟩
  | error e =>
    rw [hsc] at cN
    clear hsc
    go_enter Tryz.func72, Tryz.ntmps72
    go_wp2_with (first
      | (go_at_call 90; (with_reducible refine cN.mono ?_); rintro o1 w1 ⟨v, a', rfl, ha', he, h1⟩; have c2 := h1.r.c2; have hn := h1.r; have hne : (e != 0) = true := (by simpa using he))
      | (go_at_call 89; (with_reducible refine (pkFail_old g s _ e 4 he _ hn).mono ?_); rintro o2 w2 ⟨rfl, rfl⟩))
    all_goals (
      go_ret
      exact ⟨_, rfl, ha', he, h1⟩)
end Go.Proofs.YtemdmdgigmhlbaaGreat

namespace Go.Proofs.YtemdmdgigmhlbaaGreat
open Go.RowKit Go.Qc Go.Shelf
attribute [local go_sem] txt_size txt_append ib_fold

/-- A text of at most so many bytes, read from the front on: it, and how many bytes were. -/
def textR (most : Int) (l : List UInt8) : Except Int (List UInt8 × Nat) :=
  match cntN most l with
  | .ok (v, n) => if n + v ≤ l.length then .ok ((l.drop n).take v, n + v) else .error 2
  | .error e => .error e
def strT (l : List UInt8) : Value := .string (txt l)
/-- What the closure leaves. -/
def TextPost (g : Nat) (s : List UInt8) (a : Nat) (w : World) (r : Except Int (List UInt8 × Nat)) (o : Ending) (w' : World) : Prop :=
  match r with
  | .ok (t, n) => o = .returned (strT t) ∧ Step g s (a + n) 0 w w'
  | .error e => ∃ a', o = .returned (.string ⟨#[]⟩) ∧ a' ≤ s.length ∧ e ≠ 0 ∧ Step g s a' e w w'
theorem cell_gb {w w' : World} {g p i : Nat} {u : Value} (h : w.cell? ⟨p, i, none⟩ = some u) (hg : w.grownBy w' (some g)) (hne : p ≠ g) : w'.cell? ⟨p, i, none⟩ = some u :=
  hg.cell h (fun e => hne (Option.some.inj e))
theorem Step.below {g : Nat} {s : List UInt8} {a : Nat} {e : Int} {w w1 w2 : World} (h : Step g s a e w w1) (hb : Below w1.heap.size w1 w2) : Step g s a e w w2 :=
  ⟨Blk.below h.r hb, gb_below h.gb hb⟩
set_option maxRecDepth 100000 in
set_option maxHeartbeats 8000000 in
theorem pkText1_gen (g : Nat) (s : List UInt8) (a : Nat) (most : Int) (p q : Nat) (hp : p ≠ g) (hq : q ≠ g) (w : World) (hr : Rdr g s a 0 w) (h1 : w.cell? ⟨p, 0, none⟩ = some (.pointer (some ⟨g, 0, none⟩))) (h2 : w.cell? ⟨q, 0, none⟩ = some (.int .i64 most))
    (K e1 e2 : Int) (T : ByteArray) (A1 A2 : Nat → Prop) (hT : T.size ≤ 1000000000000)
    (c1 : ∀ W, Rdr g s a 0 W → Calls Tryz.prog 72 #[.pointer (some ⟨g, 0, none⟩), .int .i64 most] W fun o w' => o = .returned (.int .i64 K) ∧ ∃ a1, A1 a1 ∧ Step g s a1 e1 W w')
    (c2 : ∀ W a1, A1 a1 → Rdr g s a1 e1 W → Calls Tryz.prog 71 #[.pointer (some ⟨g, 0, none⟩), .int .i64 K] W fun o w' => o = .returned (.string T) ∧ ∃ a2, A2 a2 ∧ Step g s a2 e2 W w') :
    Calls Tryz.prog 70 #[.pointer (some ⟨p, 0, none⟩), .pointer (some ⟨q, 0, none⟩)] w fun o w' => o = .returned (.string T) ∧ ∃ a2, A2 a2 ∧ Step g s a2 e2 w w' := by
  have d1 : ∀ W, (W.cell? ⟨p, 0, none⟩ = some (.pointer (some ⟨g, 0, none⟩)) ∧ W.cell? ⟨q, 0, none⟩ = some (.int .i64 most)) → Rdr g s a 0 W → Calls Tryz.prog 72 #[.pointer (some ⟨g, 0, none⟩), .int .i64 most] W fun o w' => o = .returned (.int .i64 K) ∧ (∃ a1, A1 a1 ∧ Step g s a1 e1 W w') ∧ (w'.cell? ⟨p, 0, none⟩ = some (.pointer (some ⟨g, 0, none⟩)) ∧ w'.cell? ⟨q, 0, none⟩ = some (.int .i64 most)) := fun W hS h =>
    (c1 W h).mono (by rintro o w' ⟨h3, a1, h4, h5⟩; exact ⟨h3, ⟨a1, h4, h5⟩, cell_gb hS.1 h5.gb hp, cell_gb hS.2 h5.gb hq⟩)
  have d2 : ∀ W a1, (W.cell? ⟨p, 0, none⟩ = some (.pointer (some ⟨g, 0, none⟩)) ∧ W.cell? ⟨q, 0, none⟩ = some (.int .i64 most)) → A1 a1 → Rdr g s a1 e1 W → Calls Tryz.prog 71 #[.pointer (some ⟨g, 0, none⟩), .int .i64 K] W fun o w' => o = .returned (.string T) ∧ (∃ a2, A2 a2 ∧ Step g s a2 e2 W w') ∧ (w'.cell? ⟨p, 0, none⟩ = some (.pointer (some ⟨g, 0, none⟩)) ∧ w'.cell? ⟨q, 0, none⟩ = some (.int .i64 most)) := fun W a1 hS hA h =>
    (c2 W a1 hA h).mono (by rintro o w' ⟨h3, a2, h4, h5⟩; exact ⟨h3, ⟨a2, h4, h5⟩, cell_gb hS.1 h5.gb hp, cell_gb hS.2 h5.gb hq⟩)
  have d3 : ∀ W, (W.cell? ⟨p, 0, none⟩ = some (.pointer (some ⟨g, 0, none⟩)) ∧ W.cell? ⟨q, 0, none⟩ = some (.int .i64 most)) → Calls Tryz.prog 51 #[.string T] W fun o w' => o = .returned (.string T) ∧ Below W.heap.size W w' ∧ (w'.cell? ⟨p, 0, none⟩ = some (.pointer (some ⟨g, 0, none⟩)) ∧ w'.cell? ⟨q, 0, none⟩ = some (.int .i64 most)) := fun W hS =>
    (pkClone_any T hT W).mono (by rintro o w' ⟨h3, h4⟩; exact ⟨h3, h4, Below.keep h4 hS.1, Below.keep h4 hS.2⟩)
  have hS0 : w.drew.cell? ⟨p, 0, none⟩ = some (.pointer (some ⟨g, 0, none⟩)) ∧ w.drew.cell? ⟨q, 0, none⟩ = some (.int .i64 most) := ⟨h1, h2⟩
  have hr0 : Rdr g s a 0 w.drew := hr
  have hst0 : Step g s a 0 w w.drew := Step.drew hr 1
  clear c1 c2 hr h1 h2
  go_enter Tryz.func70, Tryz.ntmps70
  go_wp2
  go_region_held3 (fun w' => w'.cell? ⟨p, 0, none⟩ = some (.pointer (some ⟨g, 0, none⟩)) ∧ w'.cell? ⟨q, 0, none⟩ = some (.int .i64 most)) (assumption)
    (first
      | (go_at_call 72; refine (d1 _ (by assumption) hr0).mono ?_; rintro o1 w1 ⟨rfl, ⟨a1, hA1, hs1⟩, hS1⟩)
      | (go_at_call 71; refine (d2 _ a1 (by assumption) hA1 hs1.r).mono ?_; rintro o2 w2 ⟨rfl, ⟨a2, hA2, hs2⟩, hS2⟩)
      | (go_at_call 51; refine (d3 _ (by assumption)).mono ?_; rintro o3 w3 ⟨rfl, hB3, hS3⟩))
  go_wp2
  go_ret
  exact ⟨rfl, a2, hA2, ((hst0.trans hs1).trans hs2).below hB3⟩
theorem pkText1_any (g : Nat) (s : List UInt8) (a : Nat) (most : Int) (hs : s.length ≤ 1000000000000) (ha : a ≤ s.length) (p q : Nat) (hp : p ≠ g) (hq : q ≠ g) (w : World) (hr : Rdr g s a 0 w) (h1 : w.cell? ⟨p, 0, none⟩ = some (.pointer (some ⟨g, 0, none⟩))) (h2 : w.cell? ⟨q, 0, none⟩ = some (.int .i64 most)) :
    Calls Tryz.prog 70 #[.pointer (some ⟨p, 0, none⟩), .pointer (some ⟨q, 0, none⟩)] w fun o w' => TextPost g s a w (textR most (s.drop a)) o w' := by
  have cC : ∀ W, Rdr g s a 0 W → Calls Tryz.prog 72 #[.pointer (some ⟨g, 0, none⟩), .int .i64 most] W fun o w' => CntPost g s a W (cntN most (s.drop a)) o w' := fun W h => pkCount_any g s a most hs ha W h
  unfold textR
  cases hsc : cntN most (s.drop a) with
  | ok pr =>
    obtain ⟨v, n⟩ := pr
    rw [hsc] at cC
    have hln : a + n ≤ s.length := by
      unfold cntN at hsc
      cases hs2 : scanN 0 0 (s.drop a) with
      | ok pr =>
        obtain ⟨v2, n2⟩ := pr
        rw [hs2] at hsc
        simp only at hsc
        split at hsc
        · cases hsc
        · injection hsc with e1
          injection e1 with e2 e3
          rw [← e3]
          exact scanN_len s a v2 n2 hs2 ha
      | error e => rw [hs2] at hsc; cases hsc
    clear hsc
    have hdl : (s.drop a).length = s.length - a := List.length_drop
    by_cases hle : n + v ≤ (s.drop a).length
    · simp only [if_pos hle]
      have := pkText1_gen g s a most p q hp hq w hr h1 h2 v 0 0 (txt (((s.drop a).drop n).take v)) (fun x => x = a + n) (fun x => x = a + (n + v)) (by rw [txt_size, List.length_take, List.length_drop, List.length_drop]; omega)
        (fun W h => (cC W h).mono (by rintro o w' ⟨h3, h4⟩; exact ⟨h3, _, rfl, h4⟩))
        (fun W a1 hA h => by
          subst hA
          rw [List.drop_drop]
          refine (pkTake_ok g s (a + n) v 0 (by omega) hs W h).mono ?_
          rintro o w' ⟨h3, h4⟩
          exact ⟨h3, _, Nat.add_assoc a n v, h4⟩)
      refine this.mono ?_
      rintro o w' ⟨h3, a2, rfl, h4⟩
      exact ⟨h3, h4⟩
    · simp only [if_neg hle]
      have := pkText1_gen g s a most p q hp hq w hr h1 h2 v 0 2 ⟨#[]⟩ (fun x => x = a + n) (fun x => x = a + n) (by decide)
        (fun W h => (cC W h).mono (by rintro o w' ⟨h3, h4⟩; exact ⟨h3, _, rfl, h4⟩))
        (fun W a1 hA h => by
          subst hA
          refine (pkTake_short g s (a + n) v 0 (by omega) hln hs W h).mono ?_
          rintro o w' ⟨h3, h4⟩
          exact ⟨h3, _, rfl, h4⟩)
      refine this.mono ?_
      rintro o w' ⟨h3, a2, rfl, h4⟩
      exact ⟨_, h3, hln, by decide, h4⟩
  | error e =>
    rw [hsc] at cC
    clear hsc
    by_cases he : e = 0
    · subst he
      exact (pkText1_gen g s a most p q hp hq w hr h1 h2 0 0 0 ⟨#[]⟩ (fun _ => False) (fun _ => False) (by decide)
        (fun W h => (cC W h).mono (by rintro o w' ⟨a', h3, h4, h5, h6⟩; exact absurd rfl h5))
        (fun W a1 hA h => hA.elim)).mono (by rintro o w' ⟨h3, a2, h4, h5⟩; exact h4.elim)
    · have := pkText1_gen g s a most p q hp hq w hr h1 h2 0 e e ⟨#[]⟩ (fun x => x ≤ s.length) (fun x => x ≤ s.length) (by decide)
        (fun W h => (cC W h).mono (by rintro o w' ⟨a', h3, h4, h5, h6⟩; exact ⟨h3, a', h4, h6⟩))
        (fun W a1 hA h => by
          have := pkTake_ok g s a1 0 e (by omega) hs W h
          refine this.mono ?_
          rintro o w' ⟨h3, h4⟩
          exact ⟨h3, _, hA, h4⟩)
      refine this.mono ?_
      rintro o w' ⟨h3, a2, h4, h5⟩
      exact ⟨a2, h3, h4, he, h5⟩

set_option maxHeartbeats 4000000 in
theorem pkReadText_any (g : Nat) (s : List UInt8) (a : Nat) (most : Int) (hs : s.length ≤ 1000000000000) (ha : a ≤ s.length) (p q : Nat) (hp : p ≠ g) (hq : q ≠ g) (w : World) (hr : Rdr g s a 0 w) (h1 : w.cell? ⟨p, 0, none⟩ = some (.pointer (some ⟨g, 0, none⟩))) (h2 : w.cell? ⟨q, 0, none⟩ = some (.int .i64 most)) :
    Calls Tryz.prog 69 #[.pointer (some ⟨g, 0, none⟩), .func (.func 70) #[] #[.pointer (some ⟨p, 0, none⟩), .pointer (some ⟨q, 0, none⟩)]] w fun o w' => ReadPost strT (.string ⟨#[]⟩) g s a w (textR most (s.drop a)) o w' := by
  have hg := enters_of Tryz.func70 (by kernel_rfl) rfl
  have cN := pkText1_any g s a most hs ha p q hp hq w hr h1 h2
  have c1 := hr.c1
  have c2 := hr.c2
  clear h1 h2
  cases hsc : textR most (s.drop a) with
  | ok pr =>
    obtain ⟨v, n⟩ := pr
    rw [hsc] at cN
    clear hsc
    go_enter Tryz.func69, Tryz.ntmps69
    go_wp2_with (first
      | ((with_reducible refine cN.mono ?_); rintro o1 w1 ⟨rfl, h1⟩; have c3 := h1.r.c2))
    go_ret
    exact ⟨rfl, h1⟩
  | error e =>
    rw [hsc] at cN
    clear hsc
    go_enter Tryz.func69, Tryz.ntmps69
    go_wp2_with (first
      | ((with_reducible refine cN.mono ?_); rintro o1 w1 ⟨a', rfl, ha', he, h1⟩; have c3 := h1.r.c2; have c4 := h1.r.c1; have f1 := h1.r.f 1; have hne : (e != 0) = true := (by simpa using he)))
    go_ret
    exact ⟨rfl, he, h1.r.setA a, gb_set h1.gb 1 _⟩
set_option maxHeartbeats 4000000 in
theorem pkText_any (g : Nat) (s : List UInt8) (a : Nat) (most : Int) (hs : s.length ≤ 1000000000000) (ha : a ≤ s.length) (w : World) (hr : Rdr g s a 0 w) :
    Calls Tryz.prog 56 #[.pointer (some ⟨g, 0, none⟩), .int .i64 most] w fun o w' => ReadPost strT (.string ⟨#[]⟩) g s a w (textR most (s.drop a)) o w' := by
  have hlt := hr.lt
  have hk : (w.alloc (.cells #[.pointer (some ⟨g, 0, none⟩)] 78)).heap.size = w.heap.size + 1 := by simp
  have b1 := (Blk.new w 78 #[.pointer (some ⟨g, 0, none⟩)]).alloc (.cells #[.int .i64 most] 3)
  have b2 := Blk.new (w.alloc (.cells #[.pointer (some ⟨g, 0, none⟩)] 78)) 3 #[.int .i64 most]
  rw [hk] at b2
  have hr2 : Rdr g s a 0 ((w.alloc (.cells #[.pointer (some ⟨g, 0, none⟩)] 78)).alloc (.cells #[.int .i64 most] 3)) := (Blk.alloc hr _).alloc _
  have hst : Step g s a 0 w ((w.alloc (.cells #[.pointer (some ⟨g, 0, none⟩)] 78)).alloc (.cells #[.int .i64 most] 3)) := (Step.same hr).below (((Below.refl _ w).alloc (Nat.le_refl _) _).alloc (by simp) _)
  have cR := pkReadText_any g s a most hs ha w.heap.size (w.heap.size + 1) (by omega) (by omega) _ hr2 (b1.cell_ (i := 0) rfl) (b2.cell_ (i := 0) rfl)
  have e1 : ((w.alloc (.cells #[.pointer (some ⟨g, 0, none⟩)] 78)).alloc (.cells #[.int .i64 most] 3)).cell? ⟨w.heap.size, 0, none⟩ = some (.pointer (some ⟨g, 0, none⟩)) := b1.cell_ rfl
  clear b1 b2 hr2 hk hr
  cases hsc : textR most (s.drop a) with
  | ok pr =>
    obtain ⟨v, n⟩ := pr
    rw [hsc] at cR
    clear hsc
    go_enter Tryz.func56, Tryz.ntmps56
    go_wp2_with (first
      | (go_at_call 69; (with_reducible refine cR.mono ?_); rintro o1 w1 ⟨rfl, h1⟩))
    go_ret
    exact ⟨rfl, hst.trans h1⟩
  | error e =>
    rw [hsc] at cR
    clear hsc
    go_enter Tryz.func56, Tryz.ntmps56
    go_wp2_with (first
      | (go_at_call 69; (with_reducible refine cR.mono ?_); rintro o1 w1 ⟨rfl, he, h1⟩))
    go_ret
    exact ⟨rfl, he, hst.trans h1⟩
end Go.Proofs.YtemdmdgigmhlbaaGreat

namespace Go.Proofs.YtemdmdgigmhlbaaGreat
open Go.RowKit Go.Qc
attribute [local go_sem] txt_size txt_append ib_fold

theorem wrapI {n : Int} (h0 : 0 ≤ n) (h1 : n ≤ 4611686018427387904) : IntKind.i64.wrap n = n := by
  simp only [IntKind.wrap, IntKind.bits, IntKind.signed]
  simp
  omega
theorem numE_len9 (v : Nat) (hv : v ≤ 4611686018427387904) : (numE v).length ≤ 9 := numE_len 8 v (Nat.lt_of_le_of_lt hv (by decide))
/-- What is written as a number is read as it, whatever stands behind. -/
theorem scanN_write : ∀ (n x : Nat) (_ : x ≤ n) (rest : List UInt8) (d v0 : Nat), v0 + x * 2 ^ (7 * d) ≤ 4611686018427387904 → (0 < d → x ≠ 0) →
    scanN d v0 (numE x ++ rest) = .ok (v0 + x * 2 ^ (7 * d), d + (numE x).length) := by
  intro n
  induction n with
  | zero =>
    intro x hx rest d v0 hb h0
    obtain rfl : x = 0 := by omega
    have hd : ¬ 0 < d := fun h => h0 h rfl
    obtain rfl : d = 0 := by omega
    rw [numE_lt (by decide), List.singleton_append, scanN]
    have e : (UInt8.ofNat 0).toNat = 0 := rfl
    rw [e, if_neg (by omega), if_neg (by omega), if_neg]
    · rfl
    · rintro (h | h)
      · exact hd h.2
      · simp at h hb; omega
  | succ n ih =>
    intro x hx rest d v0 hb h0
    have hx8 : d = 8 → x ≤ 64 := fun h => by
      rw [h, p56] at hb
      omega
    by_cases h1 : x < 128
    · rw [numE_lt h1, List.singleton_append, scanN]
      have e : (UInt8.ofNat x).toNat = x := by rw [UInt8.toNat_ofNat']; omega
      have em : x % 128 = x := Nat.mod_eq_of_lt h1
      rw [e, em, if_neg (fun h => by have := hx8 h.1; omega), if_neg (by omega), if_neg]
      · rfl
      · rintro (h | h)
        · exact h0 h.2 h.1
        · exact absurd hb (Nat.not_le_of_lt h)
    · rw [numE_ge h1, List.cons_append, scanN]
      have e : (UInt8.ofNat (x % 128 + 128)).toNat = x % 128 + 128 := by rw [UInt8.toNat_ofNat']; omega
      have em : (x % 128 + 128) % 128 = x % 128 := by omega
      have hsum : v0 + x % 128 * 2 ^ (7 * d) + x / 128 * 2 ^ (7 * (d + 1)) = v0 + x * 2 ^ (7 * d) := by
        rw [show 7 * (d + 1) = 7 * d + 7 by omega, Nat.pow_add, Nat.add_assoc]
        congr 1
        have h3 : x / 128 * (2 ^ (7 * d) * 2 ^ 7) = (x / 128 * 128) * 2 ^ (7 * d) := by
          rw [Nat.mul_comm (2 ^ (7 * d)), ← Nat.mul_assoc]
        rw [h3, ← Nat.add_mul]
        congr 1
        omega
      rw [e, em, if_neg (fun h => by have := hx8 h.1; omega), if_pos (by omega), ih (x / 128) (by omega) rest (d + 1) _ (by rw [hsum]; exact hb) (fun _ => by omega), hsum, List.length_cons]
      congr 2
      omega

set_option maxRecDepth 100000 in
set_option maxHeartbeats 8000000 in
set_option linter.unusedSimpArgs false in
theorem rPkNum_any : ∀ (v : Nat) (_ : v ≤ 4611686018427387904) (w : World),
    Calls Tryz.prog 63 #[.int .i64 v] w fun o w' => o = .returned (.string (txt (numE v))) ∧ Below w.heap.size w w' := by
  intro v
  induction v using Nat.strongRecOn with
  | _ v ih =>
    intro hv w
    by_cases h1 : v < 128
    · rw [numE_lt h1]
      have hyv := ib_of_nat v (by omega)
      generalize UInt8.ofNat v = y at *
      have hRd : Rd (w.alloc (.cells #[.int .u8 (v : Int)] 5)) (some ⟨w.heap.size, 0, none⟩) ([y].map u8v) := Rd.blk (Blk.new w _ _) (by intro j u h; rw [hyv, List.getElem?_toArray]; exact h)
      have hcv := run_txt (P := Tryz.prog) _ 56 9 5 _ 1 1 [y] Tryz.underlying56 Tryz.underlying5 Tryz.underlying9 rfl hRd
      have hB : Below w.heap.size w (w.alloc (.cells #[.int .u8 (v : Int)] 5)) := (Below.refl _ _).alloc (Nat.le_refl _) _
      clear ih hRd hyv
      go_enter Tryz.func63, Tryz.ntmps63
      go_wp2
      go_ret
      exact ⟨rfl, hB⟩
    · have cN : ∀ W : World, Calls Tryz.prog 63 #[.int .i64 ((v : Int) / 128)] W fun o w' => o = .returned (.string (txt (numE (v / 128)))) ∧ Below W.heap.size W w' := fun W => by
        have := ih (v / 128) (by omega) (by omega) W
        rw [Int.natCast_ediv] at this
        exact this
      have hE := numE_ge h1
      have hl9 := numE_len9 (v / 128) (by omega)
      have hyv := ib_of_nat (v % 128 + 128) (by omega)
      generalize UInt8.ofNat (v % 128 + 128) = y at *
      generalize numE (v / 128) = E at *
      have HE := hid hE
      have ht : ((v : Int)).tmod 128 = ((v % 128 : Nat) : Int) := by rw [Int.tmod_eq_emod_of_nonneg (by omega)]; omega
      have hd : ((v : Int)).tdiv 128 = ((v / 128 : Nat) : Int) := by rw [Int.tdiv_eq_ediv_of_nonneg (by omega)]; omega
      have z1 : ¬ (9223372036854775807 : Int) < 1 + E.length := by omega
      have q2 : IntKind.i64.wrap ((v : Int) % 128 + 128) = ib y := by rw [wrapI (by omega) (by omega), ← hyv]; omega
      have q3 := ib_u8 y
      have q7 : IntKind.i64.wrap ((v : Int) / 128) = (v : Int) / 128 := wrapI (by omega) (by omega)
      clear ih hE
      go_enter Tryz.func63, Tryz.ntmps63
      go_wp2
      refine wp_region_held_drew (S := fun w' => Below w.heap.size w w') (by kernel_rfl) (below_drew1 w) (fun hHeld => ?_)
      generalize w.drew = W0 at *
      refine' wpAnyH_take (i := 0) (v := .int .i64 v) rfl (by kernel_rfl) (by kernel_rfl) (by kernel_rfl) (fun _ _ _ h => h) (Or.inl ⟨by rfl, fun w' hw' => by go_simp⟩) hHeld ?_
      try simp only [Act.put, List.getElem_toArray, List.getElem_cons_succ, List.getElem_cons_zero, List.setIfInBounds_toArray, List.set_cons_zero, List.set_cons_succ]
      refine' wpAnyH_take (i := 1) (v := .int .i64 (v % 128 : Nat)) rfl (by kernel_rfl) (by kernel_rfl) (by kernel_rfl) (fun _ _ _ h => h) (Or.inl ⟨by rfl, fun w' hw' => by go_simp⟩) hHeld ?_
      try simp only [Act.put, List.getElem_toArray, List.getElem_cons_succ, List.getElem_cons_zero, List.setIfInBounds_toArray, List.set_cons_zero, List.set_cons_succ]
      refine' wpAnyH_take (i := 2) (v := .int .i64 (v % 128 + 128 : Nat)) rfl (by kernel_rfl) (by kernel_rfl) (by kernel_rfl) (fun _ _ _ h => h) (Or.inl ⟨by rfl, fun w' hw' => by go_simp⟩) hHeld ?_
      try simp only [Act.put, List.getElem_toArray, List.getElem_cons_succ, List.getElem_cons_zero, List.setIfInBounds_toArray, List.set_cons_zero, List.set_cons_succ]
      refine' wpAnyH_take (i := 3) (v := .int .u8 (ib y)) rfl (by kernel_rfl) (by kernel_rfl) (by kernel_rfl) (fun _ _ _ h => h) (Or.inl ⟨by rfl, fun w' hw' => by go_simp⟩) hHeld ?_
      try simp only [Act.put, List.getElem_toArray, List.getElem_cons_succ, List.getElem_cons_zero, List.setIfInBounds_toArray, List.set_cons_zero, List.set_cons_succ]
      refine' wpAnyH_take (i := 6) (v := .int .i64 v) rfl (by kernel_rfl) (by kernel_rfl) (by kernel_rfl) (fun _ _ _ h => h) (Or.inl ⟨by rfl, fun w' hw' => by go_simp⟩) hHeld ?_
      try simp only [Act.put, List.getElem_toArray, List.getElem_cons_succ, List.getElem_cons_zero, List.setIfInBounds_toArray, List.set_cons_zero, List.set_cons_succ]
      refine' wpAnyH_take (i := 7) (v := .int .i64 (v / 128 : Nat)) rfl (by kernel_rfl) (by kernel_rfl) (by kernel_rfl) (fun _ _ _ h => h) (Or.inl ⟨by rfl, fun w' hw' => by go_simp⟩) hHeld ?_
      try simp only [Act.put, List.getElem_toArray, List.getElem_cons_succ, List.getElem_cons_zero, List.setIfInBounds_toArray, List.set_cons_zero, List.set_cons_succ]
      refine wpAnyH_ready (rs := [4, 8]) (by kernel_rfl) (by simp) ?_
      refine AllReadyH.cons rfl (fun K hK => ?_) ?_
      · go_simp
        have hA := (Below.refl W0.heap.size W0).alloc (Nat.le_refl _) (.cells #[.int .u8 (ib y)] 5)
        have hRd : Rd (W0.alloc (.cells #[.int .u8 (ib y)] 5)) (some ⟨W0.heap.size, 0, none⟩) ([y].map u8v) := Rd.blk (Blk.new W0 _ _) (by intro j u h; rw [List.getElem?_toArray]; exact h)
        have hS := hHeld.trans (hA.mono hHeld.size)
        generalize W0.alloc (.cells #[.int .u8 (ib y)] 5) = W1 at *
        refine hK.out _ _ hS (fun hHeld => ?_)
        clear hA hS hK K
        try simp only [Act.put, List.getElem_toArray, List.getElem_cons_succ, List.getElem_cons_zero, List.setIfInBounds_toArray, List.set_cons_zero, List.set_cons_succ]
        refine wpAnyH_ready (rs := [5, 8]) (by kernel_rfl) (by simp) ?_
        refine AllReadyH.cons rfl (fun K hK => ?_) ?_
        · have hcv := run_txt (P := Tryz.prog) W1 56 9 5 _ 1 1 [y] Tryz.underlying56 Tryz.underlying5 Tryz.underlying9 rfl hRd
          go_simp
          refine hK.out _ _ hHeld (fun hHeld => ?_)
          clear hcv hK K
          try simp only [Act.put, List.getElem_toArray, List.getElem_cons_succ, List.getElem_cons_zero, List.setIfInBounds_toArray, List.set_cons_zero, List.set_cons_succ]
          refine wpAnyH_ready (rs := [8]) (by kernel_rfl) (by simp) ?_
          refine AllReadyH.cons rfl (fun K hK => ?_) ?_
          · go_simp
            (with_reducible refine (cN _).mono ?_)
            rintro e W2 ⟨rfl, hbc⟩
            refine hK.out _ _ (hHeld.trans (hbc.mono hHeld.size)) (fun hHeld => ?_)
            clear hbc hK K
            try simp only [Act.put, List.getElem_toArray, List.getElem_cons_succ, List.getElem_cons_zero, List.setIfInBounds_toArray, List.set_cons_zero, List.set_cons_succ]
            refine' wpAnyH_take (i := 9) (v := .string (txt ([y] ++ E))) rfl (by kernel_rfl) (by kernel_rfl) (by kernel_rfl) (fun _ _ _ h => h) (Or.inl ⟨by rfl, fun w' hw' => by go_simp; omega⟩) hHeld ?_
            try simp only [Act.put, List.getElem_toArray, List.getElem_cons_succ, List.getElem_cons_zero, List.setIfInBounds_toArray, List.set_cons_zero, List.set_cons_succ]
            refine wpAnyH_ready (rs := [10]) (by kernel_rfl) (by simp) ?_
            refine AllReadyH.cons rfl (fun K hK => ?_) AllReadyH.nil
            go_simp
            refine hK.out _ _ hHeld (fun hHeld => ?_)
            clear hK K
            try simp only [Act.put, List.getElem_toArray, List.getElem_cons_succ, List.getElem_cons_zero, List.setIfInBounds_toArray, List.set_cons_zero, List.set_cons_succ]
            refine wpAnyH_done (by kernel_rfl) ?_ _
            go_wp2
            go_ret
            exact ⟨by rw [HE.out]; rfl, hHeld⟩
          exact AllReadyH.nil
        refine AllReadyH.cons rfl (fun K hK => ?_) ?_
        · go_simp
          (with_reducible refine (cN _).mono ?_)
          rintro e W3 ⟨rfl, hbc⟩
          have hRd := hRd.below hbc
          refine hK.out _ _ (hHeld.trans (hbc.mono hHeld.size)) (fun hHeld => ?_)
          clear hbc hK K
          try simp only [Act.put, List.getElem_toArray, List.getElem_cons_succ, List.getElem_cons_zero, List.setIfInBounds_toArray, List.set_cons_zero, List.set_cons_succ]
          refine wpAnyH_ready (rs := [5]) (by kernel_rfl) (by simp) ?_
          refine AllReadyH.cons rfl (fun K hK => ?_) ?_
          · have hcv := run_txt (P := Tryz.prog) W3 56 9 5 _ 1 1 [y] Tryz.underlying56 Tryz.underlying5 Tryz.underlying9 rfl hRd
            go_simp
            refine hK.out _ _ hHeld (fun hHeld => ?_)
            clear hcv hK K
            try simp only [Act.put, List.getElem_toArray, List.getElem_cons_succ, List.getElem_cons_zero, List.setIfInBounds_toArray, List.set_cons_zero, List.set_cons_succ]
            refine' wpAnyH_take (i := 9) (v := .string (txt ([y] ++ E))) rfl (by kernel_rfl) (by kernel_rfl) (by kernel_rfl) (fun _ _ _ h => h) (Or.inl ⟨by rfl, fun w' hw' => by go_simp; omega⟩) hHeld ?_
            try simp only [Act.put, List.getElem_toArray, List.getElem_cons_succ, List.getElem_cons_zero, List.setIfInBounds_toArray, List.set_cons_zero, List.set_cons_succ]
            refine wpAnyH_ready (rs := [10]) (by kernel_rfl) (by simp) ?_
            refine AllReadyH.cons rfl (fun K hK => ?_) AllReadyH.nil
            go_simp
            refine hK.out _ _ hHeld (fun hHeld => ?_)
            clear hK K
            try simp only [Act.put, List.getElem_toArray, List.getElem_cons_succ, List.getElem_cons_zero, List.setIfInBounds_toArray, List.set_cons_zero, List.set_cons_succ]
            refine wpAnyH_done (by kernel_rfl) ?_ _
            go_wp2
            go_ret
            exact ⟨by rw [HE.out]; rfl, hHeld⟩
          exact AllReadyH.nil
        exact AllReadyH.nil
      refine AllReadyH.cons rfl (fun K hK => ?_) ?_
      · go_simp
        (with_reducible refine (cN _).mono ?_)
        rintro e W4 ⟨rfl, hbc⟩
        refine hK.out _ _ (hHeld.trans (hbc.mono hHeld.size)) (fun hHeld => ?_)
        clear hbc hK K
        try simp only [Act.put, List.getElem_toArray, List.getElem_cons_succ, List.getElem_cons_zero, List.setIfInBounds_toArray, List.set_cons_zero, List.set_cons_succ]
        refine wpAnyH_ready (rs := [4]) (by kernel_rfl) (by simp) ?_
        refine AllReadyH.cons rfl (fun K hK => ?_) ?_
        · go_simp
          have hA := (Below.refl W4.heap.size W4).alloc (Nat.le_refl _) (.cells #[.int .u8 (ib y)] 5)
          have hRd : Rd (W4.alloc (.cells #[.int .u8 (ib y)] 5)) (some ⟨W4.heap.size, 0, none⟩) ([y].map u8v) := Rd.blk (Blk.new W4 _ _) (by intro j u h; rw [List.getElem?_toArray]; exact h)
          have hS := hHeld.trans (hA.mono hHeld.size)
          generalize W4.alloc (.cells #[.int .u8 (ib y)] 5) = W5 at *
          refine hK.out _ _ hS (fun hHeld => ?_)
          clear hA hS hK K
          try simp only [Act.put, List.getElem_toArray, List.getElem_cons_succ, List.getElem_cons_zero, List.setIfInBounds_toArray, List.set_cons_zero, List.set_cons_succ]
          refine wpAnyH_ready (rs := [5]) (by kernel_rfl) (by simp) ?_
          refine AllReadyH.cons rfl (fun K hK => ?_) ?_
          · have hcv := run_txt (P := Tryz.prog) W5 56 9 5 _ 1 1 [y] Tryz.underlying56 Tryz.underlying5 Tryz.underlying9 rfl hRd
            go_simp
            refine hK.out _ _ hHeld (fun hHeld => ?_)
            clear hcv hK K
            try simp only [Act.put, List.getElem_toArray, List.getElem_cons_succ, List.getElem_cons_zero, List.setIfInBounds_toArray, List.set_cons_zero, List.set_cons_succ]
            refine' wpAnyH_take (i := 9) (v := .string (txt ([y] ++ E))) rfl (by kernel_rfl) (by kernel_rfl) (by kernel_rfl) (fun _ _ _ h => h) (Or.inl ⟨by rfl, fun w' hw' => by go_simp; omega⟩) hHeld ?_
            try simp only [Act.put, List.getElem_toArray, List.getElem_cons_succ, List.getElem_cons_zero, List.setIfInBounds_toArray, List.set_cons_zero, List.set_cons_succ]
            refine wpAnyH_ready (rs := [10]) (by kernel_rfl) (by simp) ?_
            refine AllReadyH.cons rfl (fun K hK => ?_) AllReadyH.nil
            go_simp
            refine hK.out _ _ hHeld (fun hHeld => ?_)
            clear hK K
            try simp only [Act.put, List.getElem_toArray, List.getElem_cons_succ, List.getElem_cons_zero, List.setIfInBounds_toArray, List.set_cons_zero, List.set_cons_succ]
            refine wpAnyH_done (by kernel_rfl) ?_ _
            go_wp2
            go_ret
            exact ⟨by rw [HE.out]; rfl, hHeld⟩
          exact AllReadyH.nil
        exact AllReadyH.nil
      exact AllReadyH.nil
end Go.Proofs.YtemdmdgigmhlbaaGreat

namespace Go.Proofs.YtemdmdgigmhlbaaGreat
open Go.RowKit Go.Qc
attribute [local go_sem] txt_size txt_append ib_fold

def textE (t : List UInt8) : List UInt8 := numE t.length ++ t
theorem rPkText_any (t : List UInt8) (ht : t.length ≤ 100000000) (w : World) :
    Calls Tryz.prog 47 #[.string (txt t)] w fun o w' => o = .returned (.string (txt (textE t))) ∧ Below w.heap.size w w' := by
  have cN := fun W => rPkNum_any t.length (Nat.le_trans ht (by decide)) W
  have h9 := numE_len9 t.length (Nat.le_trans ht (by decide))
  unfold textE
  generalize numE t.length = E at *
  have z1 : ¬ (9223372036854775807 : Int) < E.length + t.length := by omega
  go_enter Tryz.func47, Tryz.ntmps47
  go_wp2_with (first
    | (go_at_call 63; (with_reducible refine (cN _).mono ?_); rintro o1 w1 ⟨rfl, hB⟩))
  go_ret
  exact ⟨rfl, hB⟩
theorem textE_len (t : List UInt8) (ht : t.length ≤ 100000000) : (textE t).length ≤ 100000009 := by
  have := numE_len9 t.length (Nat.le_trans ht (by decide))
  rw [textE, List.length_append]; omega
/-! ### a writer's truths -/
end Go.Proofs.YtemdmdgigmhlbaaGreat

namespace Go.Proofs.YtemdmdgigmhlbaaGreat
open Go.RowKit Go.Qc
attribute [local go_sem] txt_size txt_append ib_fold

end Go.Proofs.YtemdmdgigmhlbaaGreat

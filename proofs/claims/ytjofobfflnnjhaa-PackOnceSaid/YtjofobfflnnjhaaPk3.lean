
/- pack: numbers as groups; a writer: bytes, numbers, texts. -/
import Derived.Test.YtjofobfflnnjhaaPk2
import Derived.Test.YtjofobfflnnjhaaKit6
namespace Go.Proofs.Ytjofobfflnnjhaa
open Go.RowKit Go.Qc
attribute [local go_sem] txt_size txt_append ib_fold

/-- A number as groups, the lowest first. -/
def numE (v : Nat) : List UInt8 := if h : v < 128 then [UInt8.ofNat v] else UInt8.ofNat (v % 128 + 128) :: numE (v / 128)
termination_by v
decreasing_by omega
theorem numE_lt {v : Nat} (h : v < 128) : numE v = [UInt8.ofNat v] := by rw [numE, dif_pos h]
theorem numE_ge {v : Nat} (h : ¬ v < 128) : numE v = UInt8.ofNat (v % 128 + 128) :: numE (v / 128) := by rw [numE, dif_neg h]
theorem numE_len : ∀ (k v : Nat), v < 128 ^ (k + 1) → (numE v).length ≤ k + 1
  | 0, v, h => by rw [numE_lt (by omega)]; simp
  | k + 1, v, h => by
    by_cases h1 : v < 128
    · rw [numE_lt h1]; simp
    · rw [numE_ge h1, List.length_cons]
      have := numE_len k (v / 128) (by rw [Nat.pow_succ] at h; omega)
      omega
theorem u8_back (x : UInt8) : UInt8.ofNat x.toNat = x := UInt8.ofNat_toNat
/-- What is read as a number is that number's groups. -/
theorem scanN_back : ∀ (l : List UInt8) (d v0 v n : Nat), scanN d v0 l = .ok (v, n) →
    ∃ k X, n = d + k ∧ 0 < k ∧ k ≤ l.length ∧ v = v0 + X * 2 ^ (7 * d) ∧ numE X = l.take k ∧ (0 < d → X ≠ 0) ∧ v ≤ 4611686018427387904
  | [], d, v0, v, n, h => by rw [scanN] at h; cases h
  | b :: t, d, v0, v, n, h => by
    rw [scanN] at h
    by_cases h1 : d = 8 ∧ 64 < b.toNat
    · rw [if_pos h1] at h; cases h
    · rw [if_neg h1] at h
      by_cases h2 : 128 ≤ b.toNat
      · rw [if_pos h2] at h
        obtain ⟨k, X, hn, hk, hkl, hv, hX, hne, hb⟩ := scanN_back t (d + 1) _ v n h
        have hX0 := hne (by omega)
        have hlt := b.toNat_lt
        refine ⟨k + 1, b.toNat % 128 + 128 * X, by omega, by omega, by simp; omega, ?_, ?_, fun _ => by omega, hb⟩
        · rw [hv, show 7 * (d + 1) = 7 * d + 7 by omega, Nat.pow_add, Nat.add_mul, Nat.add_assoc]
          congr 2
          rw [Nat.mul_comm 128 X, Nat.mul_assoc, Nat.mul_comm 128]
        · rw [numE_ge (by omega), List.take_succ_cons, ← hX, show (b.toNat % 128 + 128 * X) / 128 = X by omega, show (b.toNat % 128 + 128 * X) % 128 + 128 = b.toNat by omega, u8_back]
      · rw [if_neg h2] at h
        by_cases h3 : (b.toNat = 0 ∧ 0 < d) ∨ 4611686018427387904 < v0 + b.toNat % 128 * 2 ^ (7 * d)
        · rw [if_pos h3] at h; cases h
        · rw [if_neg h3] at h
          injection h with h
          injection h with e1 e2
          have hm : b.toNat % 128 = b.toNat := Nat.mod_eq_of_lt (by omega)
          refine ⟨1, b.toNat, e2.symm, by omega, by simp, ?_, ?_, fun hd h0 => h3 (.inl ⟨h0, hd⟩), ?_⟩
          · rw [← e1, hm]
          · rw [numE_lt (by omega), u8_back]; rfl
          · rw [← e1]
            exact Nat.le_of_not_lt fun h4 => h3 (.inr h4)

/-! ### the writer -/
/-- A writer that lies at block b, with these bytes. -/
def Wrt (b : Nat) (l : List UInt8) (w : World) : Prop := ∃ v, Blk w b 41 #[v] ∧ w.ownsRow b 5 1 v l.length (l.map u8v) ∧ v.ownBlock ≠ some b
theorem Wrt.lt {b : Nat} {l : List UInt8} {w : World} (h : Wrt b l w) : b < w.heap.size := h.elim fun _ h => h.1.lt
theorem Wrt.below {b : Nat} {l : List UInt8} {w w' : World} (h : Wrt b l w) (hb : Below w.heap.size w w') : Wrt b l w' := by
  obtain ⟨v, h1, h2, h3⟩ := h
  exact ⟨v, h1.below hb, own_below h2 hb, h3⟩
theorem Wrt.new (w : World) : Wrt w.heap.size [] (w.alloc (.cells #[.slice none 0 0] 41)) :=
  ⟨.slice none 0 0, Blk.new _ _ _, World.ownsRow_nil _ _ _ _, by intro h; cases h⟩
set_option maxRecDepth 100000 in
set_option maxHeartbeats 2000000 in
theorem pkByte_any (b : Nat) (l : List UInt8) (x : UInt8) (hl : l.length ≤ 1000000000000) (w : World) (h : Wrt b l w) :
    Calls Try.prog 28 #[.pointer (some ⟨b, 0, none⟩), .int .u8 (ib x)] w fun o w' => o = .returned (.tuple #[]) ∧ Wrt b (l ++ [x]) w' ∧ Below b w w' := by
  obtain ⟨i0, hi, hz0, hz1, hz2⟩ := info_parts infoByte
  obtain ⟨v, hbk, hown, hne⟩ := h
  have hlt := hbk.lt
  have c0 : w.cell? ⟨b, 0, none⟩ = some v := hbk.cell_ rfl
  have hlx : ([x] : List UInt8).length = 1 := rfl
  go_enter Try.func28, Try.ntmps28
  have hnew : ∀ j u, ([x].map u8v)[j]? = some u → (w.alloc (.cells #[.int .u8 (ib x)] 5)).cell? ((⟨w.heap.size, 0, none⟩ : Addr).add j) = some u := fun j u hj => by
    rw [Addr.add_lit, Nat.zero_add, (Blk.new w 5 #[.int .u8 (ib x)]).cell]
    rw [List.getElem?_toArray]
    exact hj
  go_wp2_with (at_builtin; refine wpList_append_own2 _ rfl _ _ 39 rfl b 5 i0 (.int .u8 0) 1 1 Try.underlying39 hi hz0 hz1 hz2 rfl (by decide) _ _ _ rfl (hown.alloc _) ⟨w.heap.size, 0, none⟩ 1 1 (by decide) ([x].map u8v) rfl rfl hnew (u8v_one [x]) ?c2 ?c3 ?c4 ?_)
  case c2 => unfold maxLen; omega
  case c3 => omega
  case c4 => simp; omega
  intro v8 w8 hv8 hg8 hn8
  have hb0 : Below b w (w.alloc (.cells #[.int .u8 (ib x)] 5)) := (Below.refl _ _).alloc (Nat.le_of_lt hlt) _
  have hb8 : Below b w w8 := hb0.grown hg8 (Nat.le_trans (Nat.le_of_lt hlt) hb0.size) (fun k hk => (hown.lt k hk).1)
  have hbk8 : Blk w8 b 41 #[v] := (hg8.block b (by simp; omega) (fun e => hne e.symm)).trans (hbk.alloc _)
  have hne8 : v8.ownBlock ≠ some b := fun e => by
    rcases hn8 with h | h
    · exact hne (h.symm.trans e)
    · rw [h] at e
      have e2 := Option.some.inj e
      (try simp at e2)
      omega
  have f0 := hbk8.frozen 0
  have d0 : w8.cell? ⟨b, 0, none⟩ = some v := hbk8.cell_ rfl
  have hsl : ∃ ao n' cap, v8 = .slice ao n' cap := by
    rcases hv8.2 with ⟨hv, _⟩ | ⟨g, cap, cur, hv, _⟩
    · exact ⟨_, _, _, hv⟩
    · exact ⟨_, _, _, hv⟩
  have hset : Blk (w8.setCell ⟨b, 0, none⟩ v8) b 41 #[v8] := hbk8.set 0 v8
  have hv9 := hv8.kept (gb_set (gb_refl w8 (some b)) 0 v8) (.inr hne8)
  clear hnew hb0 hg8 hn8 hown hbk
  obtain ⟨ao, n', cap, rfl⟩ := hsl
  go_wp2
  go_end0
  exact ⟨rfl, ⟨_, hset, (by rw [List.length_append, List.map_append]; exact hv9), hne8⟩, hb8.setCell (p := ⟨b, 0, none⟩) (Nat.le_refl _) _⟩

/-! ### numbers and texts written -/
theorem ib_of_nat (n : Nat) (h : n < 256) : ((n : Nat) : Int) = ib (UInt8.ofNat n) := by
  unfold ib; rw [UInt8.toNat_ofNat']; omega
theorem or128 (n : Nat) (h : n < 256) : bits .or .u8 128 (n : Int) = ib (UInt8.ofNat (n % 128 + 128)) := by
  have h1 := u8_or_nat 128 n (by decide) h
  rw [show (128 : Int) = ((128 : Nat) : Int) from rfl, h1, ← ib_of_nat _ (by omega)]
  congr 1
  have h2 : ∀ k : Fin 256, 128 ||| k.val = k.val % 128 + 128 := by decide +kernel
  exact h2 ⟨n, h⟩
set_option maxRecDepth 100000 in
set_option maxHeartbeats 4000000 in
theorem pkWNum_any (b : Nat) (l : List UInt8) (v : Nat) (hv : v ≤ 4611686018427387904) (hl : l.length + 100 ≤ 1000000000000) (w : World) (h : Wrt b l w) :
    Calls Try.prog 29 #[.pointer (some ⟨b, 0, none⟩), .int .i64 v] w fun o w' => o = .returned (.bool true) ∧ Wrt b (l ++ numE v) w' ∧ Below b w w' := by
  have v0 : ¬ (v : Int) < 0 := by omega
  have v1 : ¬ (4611686018427387904 : Int) < v := by omega
  have hbw := Nat.le_of_lt h.lt
  go_enter Try.func29, Try.ntmps29
  go_wp2
  refine wp_scope_label 0 (fun a' w' => ∃ (x : Nat) (pre : List UInt8) (u5 u6 u7 u8 u9 u10 u11 u12 u13 u14 u15 u16 u17 u18 u19 u20 u21 u22 u23 : Value), a' = { tmps := #[.pointer (some ⟨b, 0, none⟩), .int .i64 x, undef, undef, .bool false, u5, u6, u7, u8, u9, u10, u11, u12, u13, u14, u15, u16, u17, u18, u19, u20, u21, u22, u23], defers := [] } ∧ Wrt b (l ++ pre) w' ∧ pre ++ numE x = numE v ∧ x ≤ v ∧ Below b w w') (fun a' _ => (intOf (a'.tmps.getD 1 undef)).toNat) rfl (fun a' w' hJ => ?pass) (fun hrest => ?first)
  case first =>
    refine wp_seq (wp_mono (Q := fun e a' w' => e = .normal ∧ w' = w ∧ a' = { tmps := #[.pointer (some ⟨b, 0, none⟩), .int .i64 v, undef, undef, .bool false, .int .i64 v, .bool false, .bool false, .int .i64 v, .bool false, .bool false, undef, undef, undef, undef, undef, undef, undef, undef, undef, undef, undef, undef, undef], defers := [] }) ?_ ?_)
    · go_wp2
    · rintro e a' w' ⟨rfl, rfl, rfl⟩
      refine wp_seq ?_
      apply wp_label
      exact hrest _ _ ⟨v, [], _, _, _, _, _, _, _, _, _, _, _, _, _, _, _, _, _, _, _, rfl, by rw [List.append_nil]; exact h, rfl, Nat.le_refl _, Below.refl _ _⟩
  case pass =>
    obtain ⟨x, pre, u5, u6, u7, u8, u9, u10, u11, u12, u13, u14, u15, u16, u17, u18, u19, u20, u21, u22, u23, rfl, hW, hpre, hxv, hB⟩ := hJ
    have hlen : (l ++ pre).length ≤ 1000000000000 := by
      have h1 := numE_len 8 v (Nat.lt_of_le_of_lt hv (by decide))
      have h2 := congrArg List.length hpre
      rw [List.length_append] at h2 ⊢
      omega
    have HLEN := hid hlen
    have HPRE := hid hpre
    clear hlen hpre
    by_cases hx : x < 128
    · have hby := fun W h => pkByte_any b (l ++ pre) (UInt8.ofNat x) HLEN.out W h
      rw [← ib_of_nat x (by omega)] at hby
      have b1 : ¬ (128 : Int) ≤ x := by omega
      have hE := numE_lt hx
      have HE := hid hE
      have HB := hid hB
      clear hE hB
      go_wp2_with (first
        | (go_at_call 28; (with_reducible refine (hby _ hW).mono ?_); rintro o1 w1 ⟨rfl, h1, h2⟩))
      (try simp only [Exit.jump])
      go_ret
      exact ⟨rfl, by rw [← HPRE.out, HE.out, ← List.append_assoc]; exact h1, HB.out.trans h2⟩
    · have hby := fun W h => pkByte_any b (l ++ pre) (UInt8.ofNat (x % 128 + 128)) HLEN.out W h
      have hor : bits .or .u8 128 ((x : Int) % 256) = ib (UInt8.ofNat (x % 128 + 128)) := by
        have := or128 (x % 256) (by omega)
        rw [show x % 256 % 128 = x % 128 by omega, Int.natCast_emod] at this
        exact this
      have b1 : (128 : Int) ≤ x := by omega
      have hE := numE_ge hx
      generalize UInt8.ofNat (x % 128 + 128) = y at *
      have HE := hid hE
      have HB := hid hB
      clear hE hB
      go_wp2_with (first
        | (go_at_call 28; (with_reducible refine (hby _ hW).mono ?_); rintro o1 w1 ⟨rfl, h1, h2⟩))
      go_step3
      refine ⟨rfl, ⟨x / 128, pre ++ [y], _, _, _, _, _, _, _, _, _, _, _, _, _, _, _, _, _, _, _, rfl, by rw [← List.append_assoc]; exact h1, by rw [← HPRE.out, HE.out, List.append_assoc]; rfl, by omega, HB.out.trans h2⟩, ?_⟩
      simp [intOf]; omega
end Go.Proofs.Ytjofobfflnnjhaa

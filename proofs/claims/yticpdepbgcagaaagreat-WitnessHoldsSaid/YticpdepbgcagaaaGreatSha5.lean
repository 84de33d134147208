
/- The contract of a Hash's Write. -/
import Derived.Test.YticpdepbgcagaaaGreatSha4
import Derived.Test.YticpdepbgcagaaaGreatKit2
namespace Go.Proofs.YticpdepbgcagaaaGreat
open Go.RowKit Go.Qc
attribute [local go_sem] txt_size txt_extract

theorem HPart.cells {w : World} {g : Nat} {t : TypeId} {cs : Array Value} {p : List UInt8} {n : Nat} (hb : Blk w g t cs) (h : HPart cs p n) {st : S8} (hs : feed h0 p = st) :
    w.cell? ⟨g, 0, none⟩ = some (.int .u32 (iv st.a)) ∧ w.cell? ⟨g, 1, none⟩ = some (.int .u32 (iv st.b)) ∧ w.cell? ⟨g, 2, none⟩ = some (.int .u32 (iv st.c)) ∧ w.cell? ⟨g, 3, none⟩ = some (.int .u32 (iv st.d)) ∧
    w.cell? ⟨g, 4, none⟩ = some (.int .u32 (iv st.e)) ∧ w.cell? ⟨g, 5, none⟩ = some (.int .u32 (iv st.f)) ∧ w.cell? ⟨g, 6, none⟩ = some (.int .u32 (iv st.g)) ∧ w.cell? ⟨g, 7, none⟩ = some (.int .u32 (iv st.h)) := by
  subst hs
  exact ⟨hb.cell_ (h.state 0 (by decide)), hb.cell_ (h.state 1 (by decide)), hb.cell_ (h.state 2 (by decide)), hb.cell_ (h.state 3 (by decide)), hb.cell_ (h.state 4 (by decide)), hb.cell_ (h.state 5 (by decide)), hb.cell_ (h.state 6 (by decide)), hb.cell_ (h.state 7 (by decide))⟩
theorem HPart.kept {w w2 : World} {g : Nat} {t : TypeId} {cs : Array Value} {p : List UInt8} {n : Nat} (hb : Blk w g t cs) (h : HPart cs p n) {st : S8} (hs : feed h0 p = st) (h2 : Below w.heap.size w w2) :
    w2.cell? ⟨g, 0, none⟩ = some (.int .u32 (iv st.a)) ∧ w2.cell? ⟨g, 1, none⟩ = some (.int .u32 (iv st.b)) ∧ w2.cell? ⟨g, 2, none⟩ = some (.int .u32 (iv st.c)) ∧ w2.cell? ⟨g, 3, none⟩ = some (.int .u32 (iv st.d)) ∧
    w2.cell? ⟨g, 4, none⟩ = some (.int .u32 (iv st.e)) ∧ w2.cell? ⟨g, 5, none⟩ = some (.int .u32 (iv st.f)) ∧ w2.cell? ⟨g, 6, none⟩ = some (.int .u32 (iv st.g)) ∧ w2.cell? ⟨g, 7, none⟩ = some (.int .u32 (iv st.h)) ∧
    w2.frozen? ⟨g, 0, none⟩ = false ∧ w2.frozen? ⟨g, 1, none⟩ = false ∧ w2.frozen? ⟨g, 2, none⟩ = false ∧ w2.frozen? ⟨g, 3, none⟩ = false ∧ w2.frozen? ⟨g, 4, none⟩ = false ∧ w2.frozen? ⟨g, 5, none⟩ = false ∧ w2.frozen? ⟨g, 6, none⟩ = false ∧ w2.frozen? ⟨g, 7, none⟩ = false := by
  have hb2 := hb.below h2
  obtain ⟨k0, k1, k2, k3, k4, k5, k6, k7⟩ := HPart.cells hb2 h hs
  exact ⟨k0, k1, k2, k3, k4, k5, k6, k7, hb2.frozen _, hb2.frozen _, hb2.frozen _, hb2.frozen _, hb2.frozen _, hb2.frozen _, hb2.frozen _, hb2.frozen _⟩
theorem kept8 {w w2 : World} {g : Nat} {t : TypeId} {cs : Array Value} (hb : Blk w g t cs) {st : S8} (h : ∀ j, j < 8 → cs[j]? = st.vals[j]?) (h2 : Below w.heap.size w w2) :
    w2.cell? ⟨g, 0, none⟩ = some (.int .u32 (iv st.a)) ∧ w2.cell? ⟨g, 1, none⟩ = some (.int .u32 (iv st.b)) ∧ w2.cell? ⟨g, 2, none⟩ = some (.int .u32 (iv st.c)) ∧ w2.cell? ⟨g, 3, none⟩ = some (.int .u32 (iv st.d)) ∧
    w2.cell? ⟨g, 4, none⟩ = some (.int .u32 (iv st.e)) ∧ w2.cell? ⟨g, 5, none⟩ = some (.int .u32 (iv st.f)) ∧ w2.cell? ⟨g, 6, none⟩ = some (.int .u32 (iv st.g)) ∧ w2.cell? ⟨g, 7, none⟩ = some (.int .u32 (iv st.h)) ∧
    w2.frozen? ⟨g, 0, none⟩ = false ∧ w2.frozen? ⟨g, 1, none⟩ = false ∧ w2.frozen? ⟨g, 2, none⟩ = false ∧ w2.frozen? ⟨g, 3, none⟩ = false ∧ w2.frozen? ⟨g, 4, none⟩ = false ∧ w2.frozen? ⟨g, 5, none⟩ = false ∧ w2.frozen? ⟨g, 6, none⟩ = false ∧ w2.frozen? ⟨g, 7, none⟩ = false := by
  have hb2 := hb.below h2
  exact ⟨hb2.cell_ (h 0 (by decide)), hb2.cell_ (h 1 (by decide)), hb2.cell_ (h 2 (by decide)), hb2.cell_ (h 3 (by decide)), hb2.cell_ (h 4 (by decide)), hb2.cell_ (h 5 (by decide)), hb2.cell_ (h 6 (by decide)), hb2.cell_ (h 7 (by decide)), hb2.frozen _, hb2.frozen _, hb2.frozen _, hb2.frozen _, hb2.frozen _, hb2.frozen _, hb2.frozen _, hb2.frozen _⟩
theorem mix_lit2 (st st2 : S8) (s : ByteArray) (m : List (BitVec 32)) (hm : m.length = 16) (hs : s = txt (wordsB m)) (h2 : st2 = blk st m) (w : World) :
    Calls Tryz.prog 101 #[.agg #[.int .u32 (iv st.a), .int .u32 (iv st.b), .int .u32 (iv st.c), .int .u32 (iv st.d), .int .u32 (iv st.e), .int .u32 (iv st.f), .int .u32 (iv st.g), .int .u32 (iv st.h)], .string s] w fun e w' =>
      e = .returned (.agg #[.int .u32 (iv st2.a), .int .u32 (iv st2.b), .int .u32 (iv st2.c), .int .u32 (iv st2.d), .int .u32 (iv st2.e), .int .u32 (iv st2.f), .int .u32 (iv st2.g), .int .u32 (iv st2.h)]) ∧ Below w.heap.size w w' := by
  subst h2
  exact mix_any st s m hm hs w
theorem sizeB : (Tryz.prog.info? 5).map (·.size) = some 1 := by kernel_rfl

set_option maxRecDepth 100000 in
set_option maxHeartbeats 1000000 in
theorem write_go (w : World) (g : Nat) (cs : Array Value) (l r : List UInt8) (hb : Blk w g 149 cs) (hp : HPart cs l l.length) (hl : l.length ≤ 1000000000000) (hr : r.length ≤ 1000000000000) :
    Calls Tryz.prog 81 #[.pointer (some ⟨g, 0, none⟩), .string (txt r)] w fun e w' => e = .returned (.int .i64 r.length) ∧ ∃ cs', Blk w' g 149 cs' ∧ HPart cs' (l ++ r) (l ++ r).length ∧ w.grownBy w' (some g) := by
  have c := hb.cell_ hp.count
  have HP := hid hp
  clear hp
  obtain ⟨b, hbq⟩ : ∃ b, b = l.length % 64 := ⟨_, rfl⟩
  have eb : (l.length : Int) % 64 = (b : Int) := by omega
  have hb64 : b < 64 := by omega
  have HBQ := hid hbq
  clear hbq
  by_cases hz : b = 0
  · subst hz
    go_enter Tryz.func81, Tryz.ntmps81
    go_wp2
    have hbA := hb
    have HMA := hid (show Mid cs (l ++ r) l r l.length from ⟨HP.out, rfl, .inl HBQ.out.symm⟩)
    have hgA := gb_refl w (some g)
    clear c hb HP eb
    go_loopw [1] (fun s wr => ∃ cs', ∃ p r1, s = .string (txt r1) ∧ Blk wr g 149 cs' ∧ Mid cs' (l ++ r) p r1 l.length ∧ w.grownBy wr (some g)) (fun s _ => match s with | .string x => x.size | _ => 0)
    case atStart => exact ⟨_, _, _, rfl, hbA, HMA.out, hgA⟩
    case round =>
      obtain ⟨cs', p, r1, rfl, hb1, hmid, hg1⟩ := hrel
      clear hbA hgA HMA
      have hrl : r1.length ≤ 1000000000000 + 1000000000000 := by have := congrArg List.length hmid.all; simp at this; omega
      by_cases h64 : 64 ≤ r1.length
      · have i64 : (64 : Int) ≤ r1.length := by omega
        have HMid := hid hmid
        obtain ⟨st, hst⟩ : ∃ st, feed h0 p = st := ⟨_, rfl⟩
        obtain ⟨s0, s1, s2, s3, s4, s5, s6, s7⟩ := HPart.cells hb1 hmid.part hst
        have HST := hid hst
        clear hmid hst
        go_wp2
        obtain ⟨m, hm⟩ : ∃ m, m = unW 16 (r1.take 64) := ⟨_, rfl⟩
        have hml : m.length = 16 := by rw [hm]; exact unW_length _ _
        have hmt : txt (r1.take 64) = txt (wordsB m) := by rw [hm, wordsB_unW 16 _ (by rw [List.length_take]; omega)]
        have HML := hid hml
        have HMT := hid hmt
        have HMM := hid hm
        clear hml hmt hm
        obtain ⟨st2, hst2⟩ : ∃ st2, st2 = blk st m := ⟨_, rfl⟩
        have HS2 := hid hst2
        clear hst2
        go_region_law (first
          | (go_simp; go_at_call 101; refine (mix_lit2 st st2 _ m HML.out HMT.out HS2.out _).mono ?_; rintro e w2 ⟨rfl, hb2⟩; obtain ⟨k0, k1, k2, k3, k4, k5, k6, k7, f0, f1, f2, f3, f4, f5, f6, f7⟩ := HPart.kept (by exact hb1) HMid.out.part HST.out hb2))
        obtain ⟨hB2, hG2⟩ := st8 (Blk.below (by exact hb1) hb2) (by rw [HMid.out.part.size]; decide) (.int .u32 (iv st2.a)) (.int .u32 (iv st2.b)) (.int .u32 (iv st2.c)) (.int .u32 (iv st2.d)) (.int .u32 (iv st2.e)) (.int .u32 (iv st2.f)) (.int .u32 (iv st2.g)) (.int .u32 (iv st2.h))
        have hG3 : w.grownBy w2 (some g) := gb_below (b := wr) hg1 (by exact ⟨hb2.os, hb2.tape, hb2.output, hb2.size, hb2.block⟩)
        have hG4 := gb_trans hG3 hG2
        clear k0 k1 k2 k3 k4 k5 k6 k7 f0 f1 f2 f3 f4 f5 f6 f7 s0 s1 s2 s3 s4 s5 s6 s7 hG2 hG3 hb2
        generalize ((((((((w2.setCell ⟨g, 0, none⟩ (.int .u32 (iv st2.a))).setCell ⟨g, 1, none⟩ (.int .u32 (iv st2.b))).setCell ⟨g, 2, none⟩ (.int .u32 (iv st2.c))).setCell ⟨g, 3, none⟩ (.int .u32 (iv st2.d))).setCell ⟨g, 4, none⟩ (.int .u32 (iv st2.e))).setCell ⟨g, 5, none⟩ (.int .u32 (iv st2.f))).setCell ⟨g, 6, none⟩ (.int .u32 (iv st2.g))).setCell ⟨g, 7, none⟩ (.int .u32 (iv st2.h))) = W2 at *
        go_wp2
        go_roundw
        case rel => exact ⟨_, p ++ r1.take 64, r1.drop 64, by rw [List.take_of_length_le (by rw [List.length_drop]; omega)], hB2, HMid.out.step h64 (by rw [HST.out, ← HMM.out, ← HS2.out]; rfl), hG4⟩
        case measure =>
          show (txt _).size < (txt _).size
          rw [txt_size, txt_size, List.length_take, List.length_drop]; omega
      · obtain ⟨n, hn⟩ : ∃ n, n = r1.length := ⟨_, rfl⟩
        have HN := hid hn
        have HMid := hid hmid
        clear hn hmid
        go_wp2_with (with_reducible refine wpList_copy_txt rfl _ _ 97 9 rfl 5 Tryz.underlying97 sizeB g 8 64 64 r1 rfl rfl cs' 149 hb1 n ?c1 ?c2 ?_)
        case c1 => rw [HN.out]; exact (Nat.min_eq_left (by omega)).symm
        case c2 => rw [HN.out, HMid.out.part.size]; omega
        intro w5 hb5 hg5
        have hp5 := HMid.out.last (by omega)
        rw [HN.out, List.take_of_length_le (l := r1.map u8v) (by rw [List.length_map]; exact Nat.le_refl _)] at hb5
        have HP5 := hid hp5
        have cnt := hb5.cell_ hp5.count
        have fz := hb5.frozen 72
        have hg6 := gb_trans hg1 hg5
        clear hp5 hg5
        go_wp2
        go_ret
        refine ⟨rfl, _, hb5.set 72 _, ?_, gb_set hg6 _ _⟩
        have := HP5.out.counted (l ++ r).length
        rw [List.length_append, Int.natCast_add] at this
        rw [List.length_append]
        exact this
  · have hz' : (0 : Int) < (b : Int) := by omega
    obtain ⟨i0, hi, hz0, hz1, hz2⟩ := info_parts infoByte
    have hsl := run_slice_off (P := Tryz.prog) w 147 5 g 8 64 b i0 Tryz.underlying147 hi hz1 (by omega) .i64
    rw [if_neg (by omega)] at hsl
    obtain ⟨n, hn⟩ : ∃ n, n = Nat.min r.length (64 - b) := ⟨_, rfl⟩
    have HN := hid hn
    clear hn
    go_enter Tryz.func81, Tryz.ntmps81
    go_wp2_with (with_reducible refine wpList_copy_txt rfl _ _ 97 9 rfl 5 Tryz.underlying97 sizeB g (8 + b) (64 - b) (64 - b) r rfl rfl cs 149 hb n HN.out ?c2 ?_)
    case c2 =>
      have : Nat.min r.length (64 - b) ≤ 64 - b := Nat.min_le_right _ _
      rw [HP.out.size, HN.out]; omega
    intro w5 hb5 hg5
    rw [← List.map_take] at hb5
    clear hsl hi hz0 hz1 hz2 c
    by_cases hfull : 64 - b ≤ r.length
    · have hn : n = 64 - b := by rw [HN.out]; exact Nat.min_eq_right hfull
      have htl : (r.take n).length = n := by rw [List.length_take]; omega
      have hin : (n : Int) ≤ r.length := by omega
      have hs64 : (b : Int) + n = 64 := by omega
      have hsum : l.length % 64 + (r.take n).length = 64 := by rw [htl, ← HBQ.out]; omega
      obtain ⟨st, hst⟩ : ∃ st, feed h0 l = st := ⟨_, rfl⟩
      obtain ⟨m, hm⟩ : ∃ m, m = unW 16 (rest l ++ r.take n) := ⟨_, rfl⟩
      have hrn : (rest l ++ r.take n).length = 64 := by rw [List.length_append, rest_length]; exact hsum
      have hml : m.length = 16 := by rw [hm]; exact unW_length _ _
      have hmt : txt (rest l ++ r.take n) = txt (wordsB m) := by rw [hm, wordsB_unW 16 _ hrn]
      obtain ⟨st2, hst2⟩ : ∃ st2, st2 = blk st m := ⟨_, rfl⟩
      have hfit : 8 + b + ((r.take n).map u8v).length ≤ cs.size := by rw [List.length_map, htl, HP.out.size]; omega
      obtain ⟨cs5, hcs5⟩ : ∃ cs5, cs5 = over cs (8 + b) ((r.take n).map u8v) := ⟨_, rfl⟩
      rw [← hcs5] at hb5
      have hsz5 : cs5.size = 73 := by rw [hcs5, over_size _ _ _ hfit]; exact HP.out.size
      have hone5 : cs5.all (·.oneCell') = true := by rw [hcs5]; exact over_one _ _ _ HP.out.one (u8v_one _)
      have hcnt5 : cs5[72]? = some (.int .i64 l.length) := by
        rw [hcs5, over_get _ _ _ hfit, if_neg (by omega), if_neg (by rw [List.length_map, htl]; omega)]; exact HP.out.count
      have hstt5 : ∀ j, j < 8 → cs5[j]? = st.vals[j]? := by
        intro j hj
        rw [hcs5, over_get _ _ _ hfit, if_pos (by omega), HP.out.state j hj, hst]
      have hrd5 : Rd w5 (some ⟨g, 8, none⟩) ((rest l ++ r.take n).map u8v) := by
        refine .inr ⟨_, rfl, fun j u hu => ?_⟩
        rw [List.getElem?_map] at hu
        obtain ⟨x, hx, rfl⟩ := Option.map_eq_some_iff.1 hu
        have e : (⟨g, 8, none⟩ : Addr).add j = ⟨g, 8 + j, none⟩ := by unfold Addr.add; split <;> simp_all
        rw [e, hb5.cell, hcs5, over_get _ _ _ hfit]
        by_cases hj : j < b
        · rw [if_pos (by omega)]
          rw [List.getElem?_append_left (by rw [rest_length, ← HBQ.out]; exact hj)] at hx
          exact HP.out.tail j x hx
        · have hlt : j < (rest l ++ r.take n).length := (List.getElem?_eq_some_iff.1 hx).1
          rw [hrn] at hlt
          rw [List.getElem?_append_right (by rw [rest_length, ← HBQ.out]; omega), rest_length, ← HBQ.out] at hx
          rw [if_neg (by omega), if_pos (by rw [List.length_map, htl]; omega), List.getElem?_map, show 8 + j - (8 + b) = j - b by omega, hx]; rfl
      have hconv := run_txt (P := Tryz.prog) w5.drew 97 9 5 (some ⟨g, 8, none⟩) 64 64 _ Tryz.underlying97 Tryz.underlying5 Tryz.underlying9 hrn.symm hrd5
      have hsf : feed h0 (l ++ r.take n) = st2 := by rw [feed_full _ _ _ hsum, hst, ← hm, hst2]
      have s0 := hb5.cell_ (hstt5 0 (by decide))
      have s1 := hb5.cell_ (hstt5 1 (by decide))
      have s2 := hb5.cell_ (hstt5 2 (by decide))
      have s3 := hb5.cell_ (hstt5 3 (by decide))
      have s4 := hb5.cell_ (hstt5 4 (by decide))
      have s5 := hb5.cell_ (hstt5 5 (by decide))
      have s6 := hb5.cell_ (hstt5 6 (by decide))
      have s7 := hb5.cell_ (hstt5 7 (by decide))
      have HML := hid hml
      have HMT := hid hmt
      have HS2 := hid hst2
      have HSF := hid hsf
      have HSZ := hid hsz5
      have HONE := hid hone5
      have HCNT := hid hcnt5
      have HSTT := hid hstt5
      have HTL := hid htl
      have HNN := hid hn
      have HSUM := hid hsum
      clear hn htl hsum hst hm hrn hml hmt hst2 hfit hcs5 hsz5 hone5 hcnt5 hstt5 hrd5 hsf
      go_wp2
      go_region_law (first
        | (go_simp; go_at_call 101; refine (mix_lit2 st st2 _ m HML.out HMT.out HS2.out _).mono ?_; rintro e w2 ⟨rfl, hb2⟩; obtain ⟨k0, k1, k2, k3, k4, k5, k6, k7, f0, f1, f2, f3, f4, f5, f6, f7⟩ := kept8 (by exact hb5) HSTT.out hb2))
      all_goals
        obtain ⟨hB2, hG2⟩ := st8 (Blk.below (by exact hb5) hb2) (by rw [HSZ.out]; decide) (.int .u32 (iv st2.a)) (.int .u32 (iv st2.b)) (.int .u32 (iv st2.c)) (.int .u32 (iv st2.d)) (.int .u32 (iv st2.e)) (.int .u32 (iv st2.f)) (.int .u32 (iv st2.g)) (.int .u32 (iv st2.h))
        have hG3 : w.grownBy w2 (some g) := gb_below (b := w5) hg5 (by exact ⟨hb2.os, hb2.tape, hb2.output, hb2.size, hb2.block⟩)
        have hgA := gb_trans hG3 hG2
        have hdt : (r.drop n).take (r.length - n) = r.drop n := List.take_of_length_le (by rw [List.length_drop]; omega)
        have hmA : Mid (over cs5 0 st2.vals.toList) (l ++ r) (l ++ r.take n) ((r.drop n).take (r.length - n)) l.length :=
          ⟨HPart.block HSZ.out HONE.out HCNT.out HSF.out.symm (by have := HSUM.out; omega), by rw [hdt, List.append_assoc, List.take_append_drop], .inl (by rw [List.length_append]; have := HSUM.out; omega)⟩
        have HMA := hid hmA
        clear k0 k1 k2 k3 k4 k5 k6 k7 f0 f1 f2 f3 f4 f5 f6 f7 s0 s1 s2 s3 s4 s5 s6 s7 hG2 hG3 hb2 hdt hmA hconv hb hb5 HP hg5 eb
        have hbA : Blk _ g 149 (over cs5 0 st2.vals.toList) := hB2
        clear hB2
        generalize ((((((((w2.setCell ⟨g, 0, none⟩ (.int .u32 (iv st2.a))).setCell ⟨g, 1, none⟩ (.int .u32 (iv st2.b))).setCell ⟨g, 2, none⟩ (.int .u32 (iv st2.c))).setCell ⟨g, 3, none⟩ (.int .u32 (iv st2.d))).setCell ⟨g, 4, none⟩ (.int .u32 (iv st2.e))).setCell ⟨g, 5, none⟩ (.int .u32 (iv st2.f))).setCell ⟨g, 6, none⟩ (.int .u32 (iv st2.g))).setCell ⟨g, 7, none⟩ (.int .u32 (iv st2.h))) = W2 at *
        generalize (r.drop n).take (r.length - n) = rA at *
        clear HSZ HONE HCNT HSF HML HMT HS2 HSTT HTL HNN HSUM hfull hin hs64
        try go_wp2
        go_loopw [1] (fun s wr => ∃ cs', ∃ p r1, s = .string (txt r1) ∧ Blk wr g 149 cs' ∧ Mid cs' (l ++ r) p r1 l.length ∧ w.grownBy wr (some g)) (fun s _ => match s with | .string x => x.size | _ => 0)
        case atStart => exact ⟨_, _, _, rfl, hbA, HMA.out, hgA⟩
        case round =>
          obtain ⟨cs', p, r1, rfl, hb1, hmid, hg1⟩ := hrel
          clear hbA hgA HMA
          have hrl : r1.length ≤ 1000000000000 + 1000000000000 := by have := congrArg List.length hmid.all; simp at this; omega
          by_cases h64 : 64 ≤ r1.length
          · have i64 : (64 : Int) ≤ r1.length := by omega
            have HMid := hid hmid
            obtain ⟨st, hst⟩ : ∃ st, feed h0 p = st := ⟨_, rfl⟩
            obtain ⟨s0, s1, s2, s3, s4, s5, s6, s7⟩ := HPart.cells hb1 hmid.part hst
            have HST := hid hst
            clear hmid hst
            go_wp2
            obtain ⟨m, hm⟩ : ∃ m, m = unW 16 (r1.take 64) := ⟨_, rfl⟩
            have hml : m.length = 16 := by rw [hm]; exact unW_length _ _
            have hmt : txt (r1.take 64) = txt (wordsB m) := by rw [hm, wordsB_unW 16 _ (by rw [List.length_take]; omega)]
            have HML := hid hml
            have HMT := hid hmt
            have HMM := hid hm
            clear hml hmt hm
            obtain ⟨st2, hst2⟩ : ∃ st2, st2 = blk st m := ⟨_, rfl⟩
            have HS2 := hid hst2
            clear hst2
            go_region_law (first
              | (go_simp; go_at_call 101; refine (mix_lit2 st st2 _ m HML.out HMT.out HS2.out _).mono ?_; rintro e w2 ⟨rfl, hb2⟩; obtain ⟨k0, k1, k2, k3, k4, k5, k6, k7, f0, f1, f2, f3, f4, f5, f6, f7⟩ := HPart.kept (by exact hb1) HMid.out.part HST.out hb2))
            obtain ⟨hB2, hG2⟩ := st8 (Blk.below (by exact hb1) hb2) (by rw [HMid.out.part.size]; decide) (.int .u32 (iv st2.a)) (.int .u32 (iv st2.b)) (.int .u32 (iv st2.c)) (.int .u32 (iv st2.d)) (.int .u32 (iv st2.e)) (.int .u32 (iv st2.f)) (.int .u32 (iv st2.g)) (.int .u32 (iv st2.h))
            have hG3 : w.grownBy w2 (some g) := gb_below (b := wr) hg1 (by exact ⟨hb2.os, hb2.tape, hb2.output, hb2.size, hb2.block⟩)
            have hG4 := gb_trans hG3 hG2
            clear k0 k1 k2 k3 k4 k5 k6 k7 f0 f1 f2 f3 f4 f5 f6 f7 s0 s1 s2 s3 s4 s5 s6 s7 hG2 hG3 hb2
            generalize ((((((((w2.setCell ⟨g, 0, none⟩ (.int .u32 (iv st2.a))).setCell ⟨g, 1, none⟩ (.int .u32 (iv st2.b))).setCell ⟨g, 2, none⟩ (.int .u32 (iv st2.c))).setCell ⟨g, 3, none⟩ (.int .u32 (iv st2.d))).setCell ⟨g, 4, none⟩ (.int .u32 (iv st2.e))).setCell ⟨g, 5, none⟩ (.int .u32 (iv st2.f))).setCell ⟨g, 6, none⟩ (.int .u32 (iv st2.g))).setCell ⟨g, 7, none⟩ (.int .u32 (iv st2.h))) = W2 at *
            go_wp2
            go_roundw
            case rel => exact ⟨_, p ++ r1.take 64, r1.drop 64, by rw [List.take_of_length_le (by rw [List.length_drop]; omega)], hB2, HMid.out.step h64 (by rw [HST.out, ← HMM.out, ← HS2.out]; rfl), hG4⟩
            case measure =>
              show (txt _).size < (txt _).size
              rw [txt_size, txt_size, List.length_take, List.length_drop]; omega
          · obtain ⟨n, hn⟩ : ∃ n, n = r1.length := ⟨_, rfl⟩
            have HN := hid hn
            have HMid := hid hmid
            clear hn hmid
            go_wp2_with (with_reducible refine wpList_copy_txt rfl _ _ 97 9 rfl 5 Tryz.underlying97 sizeB g 8 64 64 r1 rfl rfl cs' 149 hb1 n ?c1 ?c2 ?_)
            case c1 => rw [HN.out]; exact (Nat.min_eq_left (by omega)).symm
            case c2 => rw [HN.out, HMid.out.part.size]; omega
            intro w5 hb5 hg5
            have hp5 := HMid.out.last (by omega)
            rw [HN.out, List.take_of_length_le (l := r1.map u8v) (by rw [List.length_map]; exact Nat.le_refl _)] at hb5
            have HP5 := hid hp5
            have cnt := hb5.cell_ hp5.count
            have fz := hb5.frozen 72
            have hg6 := gb_trans hg1 hg5
            clear hp5 hg5
            go_wp2
            go_ret
            refine ⟨rfl, _, hb5.set 72 _, ?_, gb_set hg6 _ _⟩
            have := HP5.out.counted (l ++ r).length
            rw [List.length_append, Int.natCast_add] at this
            rw [List.length_append]
            exact this
    · have hn : n = r.length := by rw [HN.out]; exact Nat.min_eq_left (by omega)
      have hs64 : ((b : Int) + n == 64) = false := by simp; omega
      have hin : (n : Int) ≤ r.length := by omega
      have hmA : Mid (over cs (8 + b) ((r.take n).map u8v)) (l ++ r) (l ++ r) ((r.drop n).take (r.length - n)) l.length := by
        have e1 : r.take n = r := by rw [hn]; exact List.take_of_length_le (Nat.le_refl _)
        have e2 : (r.drop n).take (r.length - n) = [] := by rw [hn, Nat.sub_self]; rfl
        rw [e1, e2, HBQ.out]
        exact ⟨HP.out.short (by rw [← HBQ.out]; omega), by simp, .inr rfl⟩
      have HMA := hid hmA
      have hbA := hb5
      have hgA := hg5
      clear hmA hn HP hb hb5 hg5 eb
      go_wp2
      generalize (r.drop n).take (r.length - n) = rA at *
      clear hs64 hin hfull HN
      go_loopw [1] (fun s wr => ∃ cs', ∃ p r1, s = .string (txt r1) ∧ Blk wr g 149 cs' ∧ Mid cs' (l ++ r) p r1 l.length ∧ w.grownBy wr (some g)) (fun s _ => match s with | .string x => x.size | _ => 0)
      case atStart => exact ⟨_, _, _, rfl, hbA, HMA.out, hgA⟩
      case round =>
        obtain ⟨cs', p, r1, rfl, hb1, hmid, hg1⟩ := hrel
        clear hbA hgA HMA
        have hrl : r1.length ≤ 1000000000000 + 1000000000000 := by have := congrArg List.length hmid.all; simp at this; omega
        by_cases h64 : 64 ≤ r1.length
        · have i64 : (64 : Int) ≤ r1.length := by omega
          have HMid := hid hmid
          obtain ⟨st, hst⟩ : ∃ st, feed h0 p = st := ⟨_, rfl⟩
          obtain ⟨s0, s1, s2, s3, s4, s5, s6, s7⟩ := HPart.cells hb1 hmid.part hst
          have HST := hid hst
          clear hmid hst
          go_wp2
          obtain ⟨m, hm⟩ : ∃ m, m = unW 16 (r1.take 64) := ⟨_, rfl⟩
          have hml : m.length = 16 := by rw [hm]; exact unW_length _ _
          have hmt : txt (r1.take 64) = txt (wordsB m) := by rw [hm, wordsB_unW 16 _ (by rw [List.length_take]; omega)]
          have HML := hid hml
          have HMT := hid hmt
          have HMM := hid hm
          clear hml hmt hm
          obtain ⟨st2, hst2⟩ : ∃ st2, st2 = blk st m := ⟨_, rfl⟩
          have HS2 := hid hst2
          clear hst2
          go_region_law (first
            | (go_simp; go_at_call 101; refine (mix_lit2 st st2 _ m HML.out HMT.out HS2.out _).mono ?_; rintro e w2 ⟨rfl, hb2⟩; obtain ⟨k0, k1, k2, k3, k4, k5, k6, k7, f0, f1, f2, f3, f4, f5, f6, f7⟩ := HPart.kept (by exact hb1) HMid.out.part HST.out hb2))
          obtain ⟨hB2, hG2⟩ := st8 (Blk.below (by exact hb1) hb2) (by rw [HMid.out.part.size]; decide) (.int .u32 (iv st2.a)) (.int .u32 (iv st2.b)) (.int .u32 (iv st2.c)) (.int .u32 (iv st2.d)) (.int .u32 (iv st2.e)) (.int .u32 (iv st2.f)) (.int .u32 (iv st2.g)) (.int .u32 (iv st2.h))
          have hG3 : w.grownBy w2 (some g) := gb_below (b := wr) hg1 (by exact ⟨hb2.os, hb2.tape, hb2.output, hb2.size, hb2.block⟩)
          have hG4 := gb_trans hG3 hG2
          clear k0 k1 k2 k3 k4 k5 k6 k7 f0 f1 f2 f3 f4 f5 f6 f7 s0 s1 s2 s3 s4 s5 s6 s7 hG2 hG3 hb2
          generalize ((((((((w2.setCell ⟨g, 0, none⟩ (.int .u32 (iv st2.a))).setCell ⟨g, 1, none⟩ (.int .u32 (iv st2.b))).setCell ⟨g, 2, none⟩ (.int .u32 (iv st2.c))).setCell ⟨g, 3, none⟩ (.int .u32 (iv st2.d))).setCell ⟨g, 4, none⟩ (.int .u32 (iv st2.e))).setCell ⟨g, 5, none⟩ (.int .u32 (iv st2.f))).setCell ⟨g, 6, none⟩ (.int .u32 (iv st2.g))).setCell ⟨g, 7, none⟩ (.int .u32 (iv st2.h))) = W2 at *
          go_wp2
          go_roundw
          case rel => exact ⟨_, p ++ r1.take 64, r1.drop 64, by rw [List.take_of_length_le (by rw [List.length_drop]; omega)], hB2, HMid.out.step h64 (by rw [HST.out, ← HMM.out, ← HS2.out]; rfl), hG4⟩
          case measure =>
            show (txt _).size < (txt _).size
            rw [txt_size, txt_size, List.length_take, List.length_drop]; omega
        · obtain ⟨n, hn⟩ : ∃ n, n = r1.length := ⟨_, rfl⟩
          have HN := hid hn
          have HMid := hid hmid
          clear hn hmid
          go_wp2_with (with_reducible refine wpList_copy_txt rfl _ _ 97 9 rfl 5 Tryz.underlying97 sizeB g 8 64 64 r1 rfl rfl cs' 149 hb1 n ?c1 ?c2 ?_)
          case c1 => rw [HN.out]; exact (Nat.min_eq_left (by omega)).symm
          case c2 => rw [HN.out, HMid.out.part.size]; omega
          intro w5 hb5 hg5
          have hp5 := HMid.out.last (by omega)
          rw [HN.out, List.take_of_length_le (l := r1.map u8v) (by rw [List.length_map]; exact Nat.le_refl _)] at hb5
          have HP5 := hid hp5
          have cnt := hb5.cell_ hp5.count
          have fz := hb5.frozen 72
          have hg6 := gb_trans hg1 hg5
          clear hp5 hg5
          go_wp2
          go_ret
          refine ⟨rfl, _, hb5.set 72 _, ?_, gb_set hg6 _ _⟩
          have := HP5.out.counted (l ++ r).length
          rw [List.length_append, Int.natCast_add] at this
          rw [List.length_append]
          exact this
end Go.Proofs.YticpdepbgcagaaaGreat
